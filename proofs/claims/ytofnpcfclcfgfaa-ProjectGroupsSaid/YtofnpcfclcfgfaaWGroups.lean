/- The walk of the statement ProjectGroups. -/
import Derived.Test.YtofnpcfclcfgfaaWOrder
import Derived.Test.YtofnpcfclcfgfaaQu
namespace Go.Proofs.Ytofnpcfclcfgfaa
open Go.RowKit
set_option linter.unusedVariables false

def UpI (ps : List Int) (j : Int) (f : Nat) : Prop := ∃ m : Nat, j = (m : Int) ∧ Up ps m f

theorem upI_nat {ps : List Int} {i f : Nat} : UpI ps (i : Int) f ↔ Up ps i f :=
  ⟨fun ⟨m, h1, h2⟩ => by have e : i = m := by omega
                         rw [e]; exact h2, fun h => ⟨i, rfl, h⟩⟩

theorem upI_step {ps : List Int} {j f : Nat} {x : Int} (h : ps[j]? = some x) : UpI ps (j : Int) f ↔ ((j : Int) == (f : Int)) = true ∨ UpI ps x f := by
  rw [upI_nat, beq_iff_eq]
  constructor
  · intro h2
    cases h2 with
    | refl => exact .inl rfl
    | @step _ q _ h3 h4 =>
      rw [h] at h3
      injection h3 with h3
      exact .inr ⟨q, h3, h4⟩
  · rintro (h2 | ⟨m, rfl, h2⟩)
    · have e : j = f := by omega
      rw [e]; exact .refl f
    · exact .step h h2

theorem upI_none {ps : List Int} {f : Nat} : ¬ UpI ps (-1) f := fun ⟨m, h, _⟩ => by omega

set_option maxRecDepth 100000 in
set_option maxHeartbeats 8000000 in
theorem walk_ProjectGroups (a0 : Option Addr) (len0 cap0 : Nat) (z0 : List Int) (a1 : Int) (w : World) (w0 : IsRow .i64 w a0 len0 cap0 z0) (w1 : (Lit.int .i64 a1).wf = true) :
    Calls Try.prog 13 #[.slice a0 len0 cap0, .int .i64 a1] w fun e w' => e = .returned (.bool true) ∧ Below w.heap.size w w' := by
  obtain ⟨ns, hS, hlen, hwf⟩ := w0.seenI
  have HS := Lib.hid hS; have HWF := Lib.hid hwf; have HA1 := Lib.hid w1
  clear w0 w1 hS hwf hlen
  have hmk := mk_ok ns
  have HCK := Lib.hid (mk_chk ns)
  have htw := mk_two ns
  obtain ⟨l, hl⟩ : ∃ l, l = mk ns := ⟨_, rfl⟩
  rw [← hl] at hmk HCK htw
  have HL := Lib.hid hl
  have hln := hmk.le
  have HGD := Lib.hid (chk_good HCK.out)
  have HFC := Lib.hid (show ∀ f ∈ l, f.c ≤ 9223372036854775807 from fun f hf => by have := hmk.c f hf; omega)
  have HFN := Lib.hid (show ∀ f ∈ l, f.n.size ≤ 1000 from fun f hf => by have := hmk.n f hf; omega)
  obtain ⟨n, hn⟩ : ∃ n, n = l.length := ⟨_, rfl⟩
  have HN := Lib.hid hn
  rw [← hn] at hln htw
  clear hmk hl hn
  have HW7 := Lib.hid (fun wx => w7_nat a1 n wx (by omega) (by omega) HA1.out)
  obtain ⟨f, hf⟩ : ∃ f, f = (a1 % (n : Int)).toNat := ⟨_, rfl⟩
  have hfn : f < n := by rw [hf]; exact within_lt a1 n (by omega)
  rw [← hf] at HW7
  clear hf
  go_enter Try.func13, Try.ntmps13
  go_wp2_with fail
  (with_reducible refine (known7_any _).mono ?_)
  rintro e w1 ⟨rfl, hk⟩
  have HK1 := Lib.hid hk
  clear hk
  go_wp2_with fail
  (with_reducible refine (make_any _ ns _ (HS.out.keep HK1.out) HWF.out).mono ?_)
  rintro e w2 ⟨sv, rfl, hown, hk⟩
  rw [← HL.out, ← HN.out] at hown
  have hSv := SeenF.own hown HN.out.symm
  obtain ⟨sa, sc, rfl⟩ := own_shape hown
  have HSF := Lib.hid hSv
  have HK2 := Lib.hid (HK1.out.trans hk (by simp))
  clear hown hSv hk
  by_cases hf0 : f = 0
  · have d0 : ((f : Int) == 0) = true := by simp [hf0]
    go_wp2_with (first
      | (go_at_call 35; (with_reducible refine (HW7.out _).mono ?_); rintro e w4 ⟨rfl, rfl⟩)
      | fail)
    go_ret
    exact ⟨rfl, HK2.out.below (Nat.le_refl _) (by simp)⟩
  have d0 : ((f : Int) == 0) = false := by simp; omega
  have HPZ := Lib.hid (show (pathB l (f : Int)).size ≤ 9223372036854775806 from by
    have h := paths_small HFN.out (by rw [← HN.out]; omega) (by rw [← HN.out]; omega) [(f : Int) - 1] (pathB l (f : Int)) (by
      unfold pathsL
      simp
      congr 1
      rw [Int.emod_eq_of_lt (by omega) (by rw [← HN.out]; omega)]
      omega)
    exact h)
  have HFP := Lib.hid (find_path HGD.out (k := f) (by rw [← HN.out]; exact hfn) (by omega))
  go_wp2_with (first
    | (go_at_call 35; (with_reducible refine (HW7.out _).mono ?_); rintro e w4 ⟨rfl, rfl⟩)
    | fail)
  (with_reducible refine (rpath_any rparents_any _ l (f : Int) _ HSF.out (by rw [← HN.out]; omega) HFC.out HFN.out).mono ?_)
  rintro e w3 ⟨rfl, hk3⟩
  obtain ⟨P, hP⟩ : ∃ P, P = pathB l (f : Int) := ⟨_, rfl⟩
  rw [← hP] at HPZ HFP ⊢
  clear hP
  have HK3 := Lib.hid (HK2.out.trans hk3 (by simp))
  have HSF := Lib.hid (HSF.out.keep hk3)
  clear hk3
  have HPS := Lib.hid (show SeenS (w3.alloc (.cells #[.string P] 9)) (.slice (some ⟨w3.heap.size, 0, none⟩) 1 1) [P] from ⟨_, 1, rfl, Nat.le_refl _, by decide, fun _ => ⟨w3.heap.size, 0, rfl, fun j x i u hx hu => by
    have hj : j = 0 := by
      cases j with
      | zero => rfl
      | succ j => simp at hx
    subst hj
    simp at hx
    subst hx
    have hi : i = 0 := by
      cases i with
      | zero => rfl
      | succ i => simp [Go.Proofs.Ytofnpcfclcfgfaa.sc] at hu
    subst hi
    simp [Go.Proofs.Ytofnpcfclcfgfaa.sc] at hu
    subst hu
    exact new_cell 0 _ rfl⟩⟩)
  have HR1 := Lib.hid (resolve_any _ _ l [P] _ (HSF.out.keep ((Chg.refl [] w3).alloc _)) HPS.out HFC.out HFN.out (fun p hp => by simp at hp; subst hp; exact HPZ.out))
  go_wp2_with fail
  (with_reducible refine HR1.out.mono ?_)
  rintro e w5 ⟨hout, hk5⟩
  have HSF5 := Lib.hid ((HSF.out.keep ((Chg.refl [] w3).alloc _)).keep hk5)
  have HK5 := Lib.hid ((HK3.out.alloc _).trans hk5 (by simp))
  clear hk5
  rcases hout with ⟨h1, -⟩ | ⟨-, h1, -⟩ | ⟨-, -, g1, κ, p1, rfl, hb1, -, -, hkp1⟩
  · exact absurd HCK.out h1
  · obtain ⟨q, hq, hf1⟩ := h1
    simp at hq
    subst hq
    rw [HFP.out] at hf1
    omega
  have HKU := Lib.hid (show ∀ j, j < n → (κ j = true ↔ Up (parents l) j f ∨ Up (parents l) f j) from fun j hj => by
    have hjl : j < l.length := by rw [← HN.out]; exact hj
    rw [hkp1 j hjl]
    constructor
    · rintro ⟨f2, h1 | ⟨q, hq, h1⟩, h2⟩
      · exact absurd h1.1 (by simp)
      · simp at hq
        subst hq
        rw [HFP.out] at h1
        have e : f = f2 := by omega
        subst e
        exact h2.elim (fun h => .inl ((sub_iff hjl).1 h)) .inr
    · rintro h
      exact ⟨f, .inr ⟨P, by simp, HFP.out⟩, h.elim (fun h => .inl ((sub_iff hjl).2 h)) .inr⟩)
  rw [← HN.out] at hb1 ⊢
  have HB1 := Lib.hid hb1
  clear hb1 hkp1
  go_wp2_with fail
  refine (rparents_any _ l _ HSF5.out (by rw [← HN.out]; omega) HFC.out).mono ?_
  rintro e w6 ⟨uv, rfl, hu, hk6⟩
  have hsh := hu.shape
  rw [parents_length, ← HN.out] at hsh
  obtain ⟨uo, ucap, rfl, hu1, hu2⟩ := hsh
  obtain ⟨gu, uoff, rfl, hcu⟩ := SeenI.get hu (by omega) (by rw [parents_length, HN.out])
  have HCU := Lib.hid (show ∀ j, j < n → ∃ x, (parents l)[j]? = some x ∧ -1 ≤ x ∧ x < j ∧ w6.cell? ⟨gu, uoff + j, none⟩ = some (.int .i64 x) from fun j hj => by
    have hx : (parents l)[j]? = some ((parents l).getD j 0) := by rw [List.getD, List.getElem?_eq_getElem (by rw [parents_length, ← HN.out]; exact hj)]; rfl
    have := parents_lt hx
    exact ⟨_, hx, by omega, by omega, hcu j hj⟩)
  have HK6 := Lib.hid (HK5.out.trans hk6 (by simp))
  have HB6 := Lib.hid (HB1.out.chg hk6 (by simp))
  clear hu hk6 hcu HPS HR1 HB1
  go_wp2
  go_loopw [11] (fun x w' => ∃ i : Nat, x = .int .i64 (i : Int) ∧ i ≤ n ∧ Chg [] w6 w') (fun x _ => n - (intOf x).toNat)
  case atStart => exact ⟨0, rfl, Nat.zero_le _, Chg.refl _ _⟩
  case round =>
    obtain ⟨i, rfl, hin, hC⟩ := hrel
    have HC := Lib.hid hC
    clear hC
    by_cases hlt : i < n
    · go_wp2
      go_loopw [12, 13] (fun s12 s13 wx => ∃ (r : Bool) (j : Int), s12 = .bool r ∧ s13 = .int .i64 j ∧ -1 ≤ j ∧ j < n ∧ (r = true ∨ UpI (parents l) j f ↔ Up (parents l) i f) ∧ Chg [] w6 wx) (fun _ s13 _ => (intOf s13 + 1).toNat)
      case atStart => exact ⟨false, (i : Int), rfl, rfl, by omega, by omega, by rw [upI_nat]; simp, HC.out⟩
      case round =>
        obtain ⟨r, j, rfl, rfl, hj0, hjn, hr, hC⟩ := hrel
        have HR := Lib.hid hr; have HC := Lib.hid hC
        clear hr hC
        by_cases hjp : 0 ≤ j
        · obtain ⟨m, rfl⟩ : ∃ m : Nat, j = m := ⟨j.toNat, by omega⟩
          obtain ⟨x, hx, hx0, hx1, hxc⟩ := HCU.out m (by omega)
          have hxc' := HC.out.cell hxc (by simp)
          have HUS := Lib.hid (upI_step (f := f) hx)
          clear hx hxc
          obtain ⟨t, ht⟩ : ∃ t, t = ((m : Int) == (f : Int)) := ⟨_, rfl⟩
          have HT := Lib.hid ht
          cases r
          all_goals
            cases t
          all_goals
            have e1 := ht.symm
            clear ht
            go_wp2
            go_roundw
          all_goals first
            | (case' measure => simp [intOf]; omega)
            | skip
          all_goals
            refine ⟨_, x, rfl, rfl, hx0, by omega, ?_, HC.out⟩
            rw [← HR.out, HUS.out, ← HT.out]
            simp
        · have hj1 : j = -1 := by omega
          subst hj1
          have HRI := Lib.hid (show r = true ↔ Up (parents l) i f by rw [← HR.out]; constructor; exact .inl; rintro (h | h); exact h; exact absurd h upI_none)
          go_wp2
          go_loopw [12, 14] (fun s12 s14 wx => ∃ (r2 : Bool) (j : Int), s12 = .bool r2 ∧ s14 = .int .i64 j ∧ -1 ≤ j ∧ j < n ∧ (r2 = true ∨ UpI (parents l) j i ↔ Up (parents l) i f ∨ Up (parents l) f i) ∧ Chg [] w6 wx) (fun _ s14 _ => (intOf s14 + 1).toNat)
          case atStart => exact ⟨r, (f : Int), rfl, rfl, by omega, by omega, by rw [upI_nat, HRI.out], HC.out⟩
          case round =>
            obtain ⟨r2, j, rfl, rfl, hj0, hjn, hr, hC⟩ := hrel
            have HR2 := Lib.hid hr; have HC := Lib.hid hC
            clear hr hC
            by_cases hjp : 0 ≤ j
            · obtain ⟨m, rfl⟩ : ∃ m : Nat, j = m := ⟨j.toNat, by omega⟩
              obtain ⟨x, hx, hx0, hx1, hxc⟩ := HCU.out m (by omega)
              have hxc' := HC.out.cell hxc (by simp)
              have HUS := Lib.hid (upI_step (f := i) hx)
              clear hx hxc
              obtain ⟨t, ht⟩ : ∃ t, t = ((m : Int) == (i : Int)) := ⟨_, rfl⟩
              have HT := Lib.hid ht
              cases r2
              all_goals
                cases t
              all_goals
                have e1 := ht.symm
                clear ht
                go_wp2
                go_roundw
              all_goals first
                | (case' measure => simp [intOf]; omega)
                | skip
              all_goals
                refine ⟨_, x, rfl, rfl, hx0, by omega, ?_, HC.out⟩
                rw [← HR2.out, HUS.out, ← HT.out]
                simp
            · have hj1 : j = -1 := by omega
              subst hj1
              have hkc := (HB6.out.chg HC.out (by simp)).cell hlt
              have hke : κ i = r2 := by
                have h1 := HKU.out i hlt
                rw [← HR2.out] at h1
                have h2 : r2 = true ∨ UpI (parents l) (-1) i ↔ r2 = true := ⟨fun h => h.elim id fun h => absurd h upI_none, .inl⟩
                rw [h2] at h1
                cases hx : κ i <;> cases r2 <;> simp_all
              rw [hke] at hkc
              have e1 : (r2 != r2) = false := by simp
              clear hke
              go_wp2
              go_roundw
              case rel => exact ⟨i + 1, by go_num, by omega, HC.out⟩
              case measure => simp [intOf]; omega
    · go_wp2
      go_ret
      exact ⟨rfl, (HK6.out.trans HC.out (by simp)).below (Nat.le_refl _) (by simp)⟩

end Go.Proofs.Ytofnpcfclcfgfaa
