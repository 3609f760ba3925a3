/- Contracts of fsm's closures. -/
import Derived.Test.YtfdmbpfpdijpdaaGc
import Derived.Test.YtfdmbpfpdijpdaaMp
namespace Go.Proofs.Ytfdmbpfpdijpdaa
open Go.RowKit
set_option linter.unusedVariables false
set_option linter.unusedSimpArgs false

/-- How commons' closure stands: Bt holds the trails, Bf which numbers are leaves'. -/
structure CmJ (w : World) (Bt Bf : Nat) (T : List (List Nat)) : Prop where
  tr : ∃ tv, w.cell? ⟨Bt, 0, none⟩ = some tv ∧ RowsN .i32 w tv (T.map rn)
  fn : w.cell? ⟨Bf, 0, none⟩ = some (.func (.func 89) #[] #[.pointer (some ⟨Bt, 0, none⟩)])

theorem CmJ.keep {w w' : World} {Bt Bf : Nat} {T : List (List Nat)} (h : CmJ w Bt Bf T) (hc : Chg [] w w') : CmJ w' Bt Bf T := by
  obtain ⟨⟨tv, h1, h2⟩, h3⟩ := h
  exact ⟨⟨tv, hc.cell h1 (by simp), h2.keep hc⟩, hc.cell h3 (by simp)⟩

set_option maxHeartbeats 400000 in
theorem commons1_any (Bt Bf : Nat) (T : List (List Nat)) (i : Int) (w : World) (hJ : CmJ w Bt Bf T) :
    Calls Try.prog 89 #[.int .i64 i, .pointer (some ⟨Bt, 0, none⟩)] w fun e w' => e = .returned (.bool (decide (0 ≤ i ∧ i < T.length))) ∧ Chg [] w w' := by
  obtain ⟨⟨tv, hc, hR⟩, -⟩ := hJ
  obtain ⟨ao, cap, rfl, h1, h2⟩ := hR.shape
  rw [List.length_map] at hc
  obtain ⟨n, hn⟩ : ∃ n, n = T.length := ⟨_, rfl⟩
  rw [← hn] at hc ⊢
  obtain ⟨D, hD⟩ : ∃ D, D = decide (0 ≤ i ∧ i < (n : Int)) := ⟨_, rfl⟩
  rw [← hD]
  have HD := Lib.hid hD
  clear hR h1 hn hD
  by_cases h0 : 0 ≤ i
  · by_cases h3 : i < (n : Int)
    · have E := Lib.hid (show D = true by rw [HD.out]; simp [h0, h3])
      go_enter Try.func89, Try.ntmps89
      go_wp2
      go_ret
      exact ⟨ret_bool E.out.symm, Chg.refl [] w⟩
    · have E := Lib.hid (show D = false by rw [HD.out]; simp [h3])
      go_enter Try.func89, Try.ntmps89
      go_wp2
      go_ret
      exact ⟨ret_bool E.out.symm, Chg.refl [] w⟩
  · have E := Lib.hid (show D = false by rw [HD.out]; simp [h0])
    go_enter Try.func89, Try.ntmps89
    go_wp2
    go_ret
    exact ⟨ret_bool E.out.symm, Chg.refl [] w⟩

theorem cpl_rn : ∀ s t : List Nat, cpl (rn s) (rn t) = cpl s t
  | [], [] => rfl
  | [], _ :: _ => rfl
  | _ :: _, [] => rfl
  | a :: s, b :: t => by
    have ih := cpl_rn s t
    simp only [rn] at ih
    simp only [cpl, rn, List.map_cons]
    by_cases h : a = b
    · subst h; simp [ih]
    · rw [if_neg h, if_neg (by omega)]

abbrev CF15 (p q Bf Bt : Nat) (ao : Option Addr) (la ac : Nat) (bo : Option Addr) (lb bc k : Nat) (u : Nat → Value) : Act :=
  { tmps := #[.int .i64 (p : Int), .int .i64 (q : Int), .pointer (some ⟨Bf, 0, none⟩), .pointer (some ⟨Bt, 0, none⟩), u 4, u 5, .int .i64 0, .slice ao la ac, .slice bo lb bc, .int .i64 (k : Int), u 10, u 11, u 12, u 13, u 14, u 15, u 16, u 17, u 18, u 19, u 20, u 21, u 22, u 23, u 24, u 25, u 26, u 27, u 28, u 29, u 30, u 31, u 32, u 33, u 34, u 35, u 36, u 37, u 38, u 39, u 40, u 41, u 42, u 43, u 44, u 45, u 46, u 47, u 48, u 49, u 50, u 51], defers := [] }

theorem CF15_of {p q Bf Bt : Nat} {ao : Option Addr} {la ac : Nat} {bo : Option Addr} {lb bc k : Nat} {a : Act} (h : a = CF15 p q Bf Bt ao la ac bo lb bc k (fun j => a.tmps.getD j undef)) : ∃ u, a = CF15 p q Bf Bt ao la ac bo lb bc k u := ⟨_, h⟩

set_option maxRecDepth 100000 in
set_option maxHeartbeats 1000000 in
theorem commons2_any (Bt Bf : Nat) (T : List (List Nat)) (i j : Int) (w : World) (hJ : CmJ w Bt Bf T) :
    Calls Try.prog 90 #[.int .i64 i, .int .i64 j, .pointer (some ⟨Bf, 0, none⟩), .pointer (some ⟨Bt, 0, none⟩)] w fun e w' => e = .returned (.int .i64 (cmn T i j : Nat)) ∧ Chg [] w w' := by
  have HJ := Lib.hid hJ
  have hfc := hJ.fn
  clear hJ
  have eg1 : ∀ args w, (callFunc 89 args).run Try.prog w = .ok (.enter 89 args) w := Go.Proofs.enters_of Try.func89 (by kernel_rfl) rfl
  obtain ⟨n, hn⟩ : ∃ n, n = T.length := ⟨_, rfl⟩
  have HN := Lib.hid hn
  have HC1 := Lib.hid (fun i w0 (h : CmJ w0 Bt Bf T) => commons1_any Bt Bf T i w0 h)
  rw [← hn] at HC1
  clear hn
  by_cases h0 : 0 ≤ i ∧ i < (n : Int)
  · have D0 := Lib.hid (show decide (0 ≤ i ∧ i < (n : Int)) = true by simpa using h0)
    by_cases h1 : 0 ≤ j ∧ j < (n : Int)
    · have D1 := Lib.hid (show decide (0 ≤ j ∧ j < (n : Int)) = true by simpa using h1)
      obtain ⟨p, rfl⟩ : ∃ p : Nat, i = p := ⟨i.toNat, by omega⟩
      obtain ⟨q, rfl⟩ : ∃ q : Nat, j = q := ⟨j.toNat, by omega⟩
      have hpn : p < n := by omega
      have hqn : q < n := by omega
      obtain ⟨A, hA⟩ : ∃ A, A = T.getD p [] := ⟨_, rfl⟩
      obtain ⟨B, hB⟩ : ∃ B, B = T.getD q [] := ⟨_, rfl⟩
      have E := Lib.hid (show cmn T p q = cpl (rn A) (rn B) by rw [cpl_rn]; unfold cmn; rw [if_pos (by rw [← HN.out]; omega), Int.toNat_natCast, Int.toNat_natCast, hA, hB])
      obtain ⟨⟨tv, ht, hR⟩, -⟩ := HJ.out
      obtain ⟨tto, tc, rfl, ht1, ht2⟩ := hR.shape
      rw [List.length_map, ← HN.out] at ht hR
      obtain ⟨tg, toff, rfl, hat⟩ := hR.get (by omega) (by rw [List.length_map, ← HN.out])
      obtain ⟨ao, ac, a1, a2, a3, a4⟩ := hat p hpn
      obtain ⟨bo, bc, b1, b2, b3, b4⟩ := hat q hqn
      have eA : (T.map rn).getD p [] = rn A := by simp [List.getD, List.getElem?_eq_getElem (show p < T.length by rw [← HN.out]; exact hpn), hA]
      have eB : (T.map rn).getD q [] = rn B := by simp [List.getD, List.getElem?_eq_getElem (show q < T.length by rw [← HN.out]; exact hqn), hB]
      rw [eA] at a1 a2 a4
      rw [eB] at b1 b2 b4
      obtain ⟨X, hX⟩ : ∃ X, X = rn A := ⟨_, rfl⟩
      obtain ⟨Y, hY⟩ : ∃ Y, Y = rn B := ⟨_, rfl⟩
      rw [← hX, ← hY] at E
      rw [← hX] at a1 a2 a4
      rw [← hY] at b1 b2 b4
      obtain ⟨la, hla⟩ : ∃ la, la = X.length := ⟨_, rfl⟩
      obtain ⟨lb, hlb⟩ : ∃ lb, lb = Y.length := ⟨_, rfl⟩
      rw [← hla] at a1 a2 a4
      rw [← hlb] at b1 b2 b4
      have HA := Lib.hid a4; have HB := Lib.hid b4; have HLA := Lib.hid hla; have HLB := Lib.hid hlb
      have hlm : la ≤ 9223372036854775807 := by unfold maxLen at a3; omega
      clear hA hB hat hR eA eB hX hY hla hlb a4 b4 h0 h1 ht1
      go_enter Try.func90, Try.ntmps90
      go_wp2_with fail
      refine wp_scope_pre2 0 (fun a' w' => ∃ k : Nat, (∃ u, a' = CF15 p q Bf Bt ao la ac bo lb bc k u) ∧ Chg [] w w' ∧ k ≤ cpl X Y) (fun a' _ => la - (intOf (a'.tmps.getD 9 undef)).toNat) rfl ?_ ?_
      · go_wp2_with fail
        refine (HC1.out p w HJ.out).mono ?_
        rintro e w1 ⟨rfl, hk⟩
        rw [D0.out]
        have hfc1 := hk.cell hfc (by simp)
        have HK1 := Lib.hid hk
        clear hk
        go_wp2_with fail
        refine (HC1.out q w1 (HJ.out.keep HK1.out)).mono ?_
        rintro e w2 ⟨rfl, hk⟩
        rw [D1.out]
        have HK2 := Lib.hid (HK1.out.trans hk (by simp))
        have ht' := HK2.out.cell ht (by simp)
        have a1' := HK2.out.cell a1 (by simp)
        have b1' := HK2.out.cell b1 (by simp)
        clear hk ht a1 b1 hfc hfc1
        go_wp2_with fail
        go_region
        go_wp2
        exact ⟨0, CF15_of rfl, HK2.out.drew, Nat.zero_le _⟩
      · rintro a' wi ⟨k, ⟨u, rfl⟩, hc, hk⟩
        unfold CF15
        have HC := Lib.hid hc
        have HKC := Lib.hid hk
        have hka : k ≤ la := by have h := cpl_le X Y; rw [HLA.out]; omega
        have hkb : k ≤ lb := by have h := cpl_le2 X Y; rw [HLB.out]; omega
        clear hc hk hfc ht a1 b1
        by_cases g1 : k < la
        · have i1 : (k : Int) < (la : Int) := by omega
          by_cases g2 : k < lb
          · have i2 : (k : Int) < (lb : Int) := by omega
            obtain ⟨ga, oa, rfl, ca⟩ := (HA.out.keep HC.out).at0 HLA.out.symm (by omega)
            obtain ⟨gb, ob, rfl, cb⟩ := (HB.out.keep HC.out).at0 HLB.out.symm (by omega)
            have ca1 := ca k g1
            have cb1 := cb k g2
            obtain ⟨x, hx⟩ : ∃ x, x = X.getD k 0 := ⟨_, rfl⟩
            obtain ⟨y, hy⟩ : ∃ y, y = Y.getD k 0 := ⟨_, rfl⟩
            rw [← hx] at ca1
            rw [← hy] at cb1
            have HX := Lib.hid hx; have HY := Lib.hid hy
            clear ca cb hx hy
            by_cases hxy : x = y
            · have hb : ((x : Int) == (y : Int)) = true := by simp [hxy]
              have HKK := Lib.hid (show k + 1 ≤ cpl X Y from Classical.byContradiction fun h => by
                have e : k = cpl X Y := by have := HKC.out; omega
                have := cpl_end X Y (by rw [← e, ← HLA.out]; exact g1) (by rw [← e, ← HLB.out]; exact g2)
                rw [← e, ← HX.out, ← HY.out] at this
                exact this hxy)
              clear hxy
              go_wp2_with fail
              go_region
              go_wp2
              go_step3
              refine ⟨rfl, ⟨k + 1, CF15_of (by simp), HC.out.drew, HKK.out⟩, ?_⟩
              simp [intOf]; omega
            · have hb : ((x : Int) == (y : Int)) = false := by simp; omega
              have HE := Lib.hid (show k = cpl X Y from Classical.byContradiction fun h => by
                have hk2 : k < cpl X Y := by have := HKC.out; omega
                have := cpl_step X Y k hk2
                rw [← HX.out, ← HY.out] at this
                exact hxy this)
              clear hxy
              go_wp2_with fail
              go_region
              go_wp2
              simp only [Exit.jump]
              go_ret
              exact ⟨by rw [E.out, ← HE.out]; rfl, HC.out.drew⟩
          · have i2 : ¬ ((k : Int) < (lb : Int)) := by omega
            have HE := Lib.hid (show k = cpl X Y by have := HKC.out; have h := cpl_le2 X Y; rw [← HLB.out] at h; omega)
            go_wp2_with fail
            go_region
            go_wp2
            simp only [Exit.jump]
            go_ret
            exact ⟨by rw [E.out, ← HE.out]; rfl, HC.out.drew⟩
        · have i1 : ¬ ((k : Int) < (la : Int)) := by omega
          have HE := Lib.hid (show k = cpl X Y by have := HKC.out; have h := cpl_le X Y; rw [← HLA.out] at h; omega)
          go_wp2_with fail
          go_region
          go_wp2
          simp only [Exit.jump]
          go_ret
          exact ⟨by rw [E.out, ← HE.out]; rfl, HC.out.drew⟩
    · have D1 := Lib.hid (show decide (0 ≤ j ∧ j < (n : Int)) = false by simpa using h1)
      have E := Lib.hid (show cmn T i j = 0 by unfold cmn; rw [if_neg (by rw [← HN.out]; omega)])
      clear h0 h1
      go_enter Try.func90, Try.ntmps90
      go_wp2_with fail
      refine wp_scope_jumps 0 (fun _ _ => False) (fun _ _ => 0) rfl ?_ (fun _ _ h => h.elim)
      go_wp2_with fail
      refine (HC1.out i w HJ.out).mono ?_
      rintro e w1 ⟨rfl, hk⟩
      rw [D0.out]
      have hfc1 := hk.cell hfc (by simp)
      have HK1 := Lib.hid hk
      clear hk hfc
      go_wp2_with fail
      refine (HC1.out j w1 (HJ.out.keep HK1.out)).mono ?_
      rintro e w2 ⟨rfl, hk⟩
      rw [D1.out]
      have HK2 := Lib.hid (HK1.out.trans hk (by simp))
      clear hk hfc1
      go_wp2
      simp only [Exit.jump]
      go_ret
      exact ⟨by rw [E.out]; rfl, HK2.out⟩
  · have E := Lib.hid (show cmn T i j = 0 by unfold cmn; rw [if_neg (by rw [← HN.out]; omega)])
    have D0 := Lib.hid (show decide (0 ≤ i ∧ i < (n : Int)) = false by simpa using h0)
    clear h0
    go_enter Try.func90, Try.ntmps90
    go_wp2_with fail
    refine wp_scope_jumps 0 (fun _ _ => False) (fun _ _ => 0) rfl ?_ (fun _ _ h => h.elim)
    go_wp2_with fail
    refine (HC1.out i w HJ.out).mono ?_
    rintro e w1 ⟨rfl, hk⟩
    rw [D0.out]
    have HK1 := Lib.hid hk
    clear hk hfc
    go_wp2
    simp only [Exit.jump]
    go_ret
    exact ⟨by rw [E.out]; rfl, HK1.out⟩

end Go.Proofs.Ytfdmbpfpdijpdaa
