/- Ld, Le, Lf, Lg, Lh, Lk16: texts of one group, one behind the other. -/
import Derived.Test.YtfdmbpfpdijpdaaShr
import Derived.Test.YtfdmbpfpdijpdaaShn
import Derived.Test.YtfdmbpfpdijpdaaSho
import Derived.Test.YtfdmbpfpdijpdaaVd
import Derived.Test.YtfdmbpfpdijpdaaA5
import Derived.Test.YtfdmbpfpdijpdaaGf
import Derived.Test.YtfdmbpfpdijpdaaShk
namespace Go.Proofs.Ytfdmbpfpdijpdaa
open Go.RowKit
set_option linter.unusedVariables false
set_option linter.unusedSimpArgs false

/-- A row of columns, in a slice. -/
def RowC (w : World) (g N cap : Nat) (R D : Nat → List Int) (Vs : Nat → List V) : Prop := N ≤ cap ∧ cap ≤ maxLen ∧ (∀ j, j < N → (Vs j).length ≤ 1000000000) ∧ ColsS w g N R D Vs

def longB (v : V) : Bool := decide (100 < v.s.size)
def noneB (R D : List Int) (Vs : List V) : Bool := decide (4000 < R.length) || (decide (D.length ≠ R.length) || Vs.any longB)

theorem isLong_any (v : V) (w : World) : Calls Try.prog 77 #[vvV v] w fun e w' => e = .returned (.bool (longB v)) ∧ Chg [] w w' := by
  have HA := Lib.hid ((Chg.refl [] w).alloc (vo v))
  obtain ⟨n, hn⟩ : ∃ n, n = v.s.size := ⟨_, rfl⟩
  by_cases h : 100 < v.s.size
  · have d0 : decide ((100 : Int) < (v.s.size : Int)) = true := by simp; omega
    have E := Lib.hid (show longB v = true by unfold longB; simpa using h)
    go_enter Try.func77, Try.ntmps77
    go_wp2
    go_ret
    exact ⟨ret_bool E.out.symm, HA.out⟩
  · have d0 : decide ((100 : Int) < (v.s.size : Int)) = false := by simp; omega
    have E := Lib.hid (show longB v = false by unfold longB; simpa using h)
    go_enter Try.func77, Try.ntmps77
    go_wp2
    go_ret
    exact ⟨ret_bool E.out.symm, HA.out⟩

set_option maxRecDepth 100000 in
set_option maxHeartbeats 2000000 in
theorem indexV_any (vv : Value) (Vs : List V) (w : World) (hV : SeenV w vv Vs) (hn : Vs.length ≤ 9223372036854775806) :
    Calls Try.prog 102 #[vv, .func (.func 77) #[] #[]] w fun e w' => ∃ z : Int, e = .returned (.int .i64 z) ∧ (decide ((0 : Int) ≤ z) = Vs.any longB) ∧ Chg [] w w' := by
  obtain ⟨vo', vc, rfl, h1, h2⟩ := hV.shape
  have HV := Lib.hid hV
  obtain ⟨n, hnn⟩ : ∃ n, n = Vs.length := ⟨_, rfl⟩
  rw [← hnn] at hV HV h1 hn ⊢
  have HN := Lib.hid hnn
  have HF := Lib.hid (fun v wx => isLong_any v wx)
  clear hV hnn
  go_enter Try.func102, Try.ntmps102
  go_wp2
  go_loopw [8] (fun x wx => ∃ k : Nat, x = .int .i64 (k : Int) ∧ k ≤ n ∧ Chg [] w wx ∧ Hid (∀ j v, j < k → Vs[j]? = some v → longB v = false)) (fun x _ => n - (intOf x).toNat)
  case atStart => exact ⟨0, rfl, Nat.zero_le _, Chg.refl _ _, Lib.hid fun j v h => by omega⟩
  case round =>
    obtain ⟨k, rfl, hk, hc, HA⟩ := hrel
    have HC := Lib.hid hc
    clear hc
    have hkw : IntKind.i64.wrap ((k : Int) + 1) = (k : Int) + 1 := IntWalk.i64_in _ (by omega)
    by_cases hlt : k < n
    · have d0 : decide ((k : Int) < (n : Int)) = true := by simp; omega
      obtain ⟨v, hv⟩ : ∃ v, Vs[k]? = some v := ⟨_, List.getElem?_eq_getElem (by rw [← HN.out]; exact hlt)⟩
      obtain ⟨g, off, rfl, hcs⟩ := SeenV.get HV.out (by omega)
      obtain ⟨c0, c1⟩ := hcs k v hv
      have x0 := HC.out.cell c0 (by simp)
      have x1 := HC.out.cell c1 (by simp)
      obtain ⟨b, hb⟩ : ∃ b, b = longB v := ⟨_, rfl⟩
      have HFV := Lib.hid (show ∀ wx, Calls Try.prog 77 #[.agg #[.int .i64 v.n, .string v.s]] wx fun e w' => e = .returned (.bool b) ∧ Chg [] wx w' from fun wx => by rw [hb]; exact HF.out v wx)
      have HVK := Lib.hid hv; have HBL := Lib.hid hb
      clear hcs c0 c1 hv hb
      cases b
      · have HA2 := Lib.hid (show ∀ j v, j < k + 1 → Vs[j]? = some v → longB v = false from fun j u hj hu => by
          by_cases e : j = k
          · subst e
            rw [HVK.out] at hu
            injection hu with hu
            subst hu
            exact HBL.out.symm
          · exact HA.out j u (by omega) hu)
        go_wp2_with (first
          | (go_at_call 77; (with_reducible refine (HFV.out _).mono ?_); rintro e w2 ⟨rfl, hk2⟩; have HC2 := Lib.hid (HC.out.trans hk2 (by simp)); clear hk2)
          | fail)
        go_roundw
        case rel => exact ⟨k + 1, by go_num, by omega, HC2.out, HA2⟩
        case measure => simp [intOf]; omega
      · have HR := Lib.hid (show decide ((0 : Int) ≤ (k : Int)) = Vs.any longB by
          rw [decide_eq_true (by omega)]
          exact (List.any_eq_true.2 ⟨v, List.mem_of_getElem? HVK.out, HBL.out.symm⟩).symm)
        go_wp2_with (first
          | (go_at_call 77; (with_reducible refine (HFV.out _).mono ?_); rintro e w2 ⟨rfl, hk2⟩; have HC2 := Lib.hid (HC.out.trans hk2 (by simp)); clear hk2)
          | fail)
        go_ret
        exact ⟨_, rfl, HR.out, HC2.out⟩
    · have d0 : decide ((k : Int) < (n : Int)) = false := by simp; omega
      have HR := Lib.hid (show decide ((0 : Int) ≤ -1) = Vs.any longB by
        symm
        rw [show decide ((0 : Int) ≤ -1) = false by decide, List.any_eq_false]
        intro v hv
        obtain ⟨j, hj⟩ := List.mem_iff_getElem?.1 hv
        have hjl := (List.getElem?_eq_some_iff.1 hj).1
        rw [HA.out j v (by have := HN.out; omega) hj]
        simp)
      go_wp2
      go_ret
      exact ⟨_, rfl, HR.out, HC.out⟩

theorem containsV_any (vv : Value) (Vs : List V) (w : World) (hV : SeenV w vv Vs) (hn : Vs.length ≤ 9223372036854775806) :
    Calls Try.prog 78 #[vv, .func (.func 77) #[] #[]] w fun e w' => e = .returned (.bool (Vs.any longB)) ∧ Chg [] w w' := by
  obtain ⟨vo', vc, rfl, h1, h2⟩ := hV.shape
  have HI := Lib.hid (indexV_any _ Vs w hV hn)
  clear hV
  go_enter Try.func78, Try.ntmps78
  go_wp2_with (first
    | (go_at_call 102; (with_reducible refine HI.out.mono ?_); rintro e w2 ⟨z, rfl, hz, hk2⟩; have HZ := Lib.hid hz; have HC2 := Lib.hid hk2; clear hk2 hz)
    | fail)
  go_ret
  exact ⟨ret_bool HZ.out, HC2.out⟩

set_option maxRecDepth 100000 in
set_option maxHeartbeats 2000000 in
theorem isNone_any (rv dv vv : Value) (R D : List Int) (Vs : List V) (w : World) (hR : SeenI w rv R) (hD : SeenI w dv D) (hV : SeenV w vv Vs) (hvl : Vs.length ≤ 1000000000) :
    Calls Try.prog 46 #[.agg #[rv, dv, vv]] w fun e w' => e = .returned (.bool (noneB R D Vs)) ∧ Chg [] w w' := by
  obtain ⟨ro, rc, rfl, r1, r2⟩ := hR.shape
  obtain ⟨do', dc, rfl, d1, d2⟩ := hD.shape
  obtain ⟨vo', vc, rfl, v1, v2⟩ := hV.shape
  have hvn : Vs.length ≤ 9223372036854775806 := by omega
  obtain ⟨nr, hnr⟩ : ∃ n, n = R.length := ⟨_, rfl⟩
  obtain ⟨nd, hnd⟩ : ∃ n, n = D.length := ⟨_, rfl⟩
  obtain ⟨nv', hnv⟩ : ∃ n, n = Vs.length := ⟨_, rfl⟩
  have HCV := Lib.hid (fun wx (h : Chg [] w wx) => containsV_any _ Vs wx (hV.keep h) hvn)
  rw [← hnv] at HCV
  rw [← hnr, ← hnd, ← hnv]
  obtain ⟨b, hb⟩ : ∃ b, b = Vs.any longB := ⟨_, rfl⟩
  rw [← hb] at HCV
  have HB := Lib.hid (show noneB R D Vs = (decide (4000 < nr) || (decide (nd ≠ nr) || b)) by unfold noneB; rw [hnr, hnd, hb])
  have HA := Lib.hid ((Chg.refl [] w).alloc (.cells #[.slice ro nr rc, .slice do' nd dc, .slice vo' nv' vc] 42))
  clear hR hD hV hnr hnd hnv hb hvn
  by_cases h1 : 4000 < nr
  · have e1 : decide ((4000 : Int) < (nr : Int)) = true := by simp; omega
    have E := Lib.hid (show noneB R D Vs = true by rw [HB.out, decide_eq_true h1]; rfl)
    clear HB
    go_enter Try.func46, Try.ntmps46
    go_wp2
    go_ret
    exact ⟨ret_bool E.out.symm, HA.out⟩
  have e1 : decide ((4000 : Int) < (nr : Int)) = false := by simp; omega
  by_cases h2 : nd = nr
  · subst h2
    have e2 : ((nd : Int) != (nd : Int)) = false := by simp
    have E := Lib.hid (show noneB R D Vs = b by rw [HB.out, decide_eq_false h1]; simp)
    clear HB
    go_enter Try.func46, Try.ntmps46
    go_wp2_with (first
      | (go_at_call 78; (with_reducible refine (HCV.out _ (by first | exact HA.out | exact HA.out.drew)).mono ?_); rintro e w2 ⟨rfl, hk2⟩; have HC2 := Lib.hid (HA.out.trans hk2 (by simp)); clear hk2)
      | fail)
    go_ret
    exact ⟨ret_bool E.out.symm, HC2.out⟩
  · have e2 : ((nd : Int) != (nr : Int)) = true := by simp; omega
    have E := Lib.hid (show noneB R D Vs = true by rw [HB.out, decide_eq_false h1, decide_eq_true h2]; rfl)
    clear HB
    go_enter Try.func46, Try.ntmps46
    go_wp2
    go_ret
    exact ⟨ret_bool E.out.symm, HA.out⟩

set_option maxRecDepth 100000 in
set_option maxHeartbeats 2000000 in
theorem indexC_any (g N cap : Nat) (R D : Nat → List Int) (Vs : Nat → List V) (w : World) (hV : RowC w g N cap R D Vs) (B : Bool) (hB : B = (List.range N).any fun j => noneB (R j) (D j) (Vs j)) :
    Calls Try.prog 76 #[.slice (some ⟨g, 0, none⟩) N cap, .func (.func 46) #[] #[]] w fun e w' => ∃ z : Int, e = .returned (.int .i64 z) ∧ (decide ((0 : Int) ≤ z) = B) ∧ Chg [] w w' := by
  obtain ⟨h1, h2, hVL, hC⟩ := hV
  have HVL := Lib.hid hVL
  clear hVL
  have hN := hC.le
  have HC0 := Lib.hid hC; have HB := Lib.hid hB
  clear hC hB
  go_enter Try.func76, Try.ntmps76
  go_wp2
  go_loopw [8] (fun x wx => ∃ k : Nat, x = .int .i64 (k : Int) ∧ k ≤ N ∧ Chg [] w wx ∧ Hid (∀ j, j < k → noneB (R j) (D j) (Vs j) = false)) (fun x _ => N - (intOf x).toNat)
  case atStart => exact ⟨0, rfl, Nat.zero_le _, Chg.refl _ _, Lib.hid fun j h => by omega⟩
  case round =>
    obtain ⟨k, rfl, hk, hc, HA⟩ := hrel
    have HC := Lib.hid hc
    clear hc
    have hkw : IntKind.i64.wrap ((k : Int) + 1) = (k : Int) + 1 := IntWalk.i64_in _ (by omega)
    by_cases hlt : k < N
    · have d0 : decide ((k : Int) < (N : Int)) = true := by simp; omega
      obtain ⟨rv, dv, vv, c0, c1, c2, s0, s1, s2⟩ := HC0.out.at' k hlt
      obtain ⟨b, hb⟩ : ∃ b, b = noneB (R k) (D k) (Vs k) := ⟨_, rfl⟩
      have HF := Lib.hid (show Calls Try.prog 46 #[.agg #[rv, dv, vv]] wr fun e w' => e = .returned (.bool b) ∧ Chg [] wr w' from by rw [hb]; exact isNone_any rv dv vv (R k) (D k) (Vs k) wr (s0.keep HC.out) (s1.keep HC.out) (s2.keep HC.out) (HVL.out k hlt))
      have HBB := Lib.hid hb
      obtain ⟨ro, rc, rfl, -, -⟩ := s0.shape
      obtain ⟨do', dc, rfl, -, -⟩ := s1.shape
      obtain ⟨vo', vc, rfl, -, -⟩ := s2.shape
      have x0 := HC.out.cell c0 (by simp)
      have x1 := HC.out.cell c1 (by simp)
      have x2 := HC.out.cell c2 (by simp)
      clear hb c0 c1 c2 s0 s1 s2
      cases b
      · have HA2 := Lib.hid (show ∀ j, j < k + 1 → noneB (R j) (D j) (Vs j) = false from fun j hj => by
          by_cases e : j = k
          · subst e; exact HBB.out.symm
          · exact HA.out j (by omega))
        go_wp2_with (first
          | (go_at_call 46; (with_reducible refine HF.out.mono ?_); rintro e w2 ⟨rfl, hk2⟩; have HC2 := Lib.hid (HC.out.trans hk2 (by simp)); clear hk2)
          | fail)
        go_roundw
        case rel => exact ⟨k + 1, by go_num, by omega, HC2.out, HA2⟩
        case measure => simp [intOf]; omega
      · have HR := Lib.hid (show decide ((0 : Int) ≤ (k : Int)) = B by
          rw [decide_eq_true (by omega), HB.out]
          exact (List.any_eq_true.2 ⟨k, List.mem_range.2 hlt, HBB.out.symm⟩).symm)
        go_wp2_with (first
          | (go_at_call 46; (with_reducible refine HF.out.mono ?_); rintro e w2 ⟨rfl, hk2⟩; have HC2 := Lib.hid (HC.out.trans hk2 (by simp)); clear hk2)
          | fail)
        go_ret
        exact ⟨_, rfl, HR.out, HC2.out⟩
    · have d0 : decide ((k : Int) < (N : Int)) = false := by simp; omega
      have HR := Lib.hid (show decide ((0 : Int) ≤ -1) = B by
        rw [HB.out]
        symm
        rw [show decide ((0 : Int) ≤ -1) = false by decide, List.any_eq_false]
        intro j hj
        rw [HA.out j (by have := List.mem_range.1 hj; omega)]
        simp)
      go_wp2
      go_ret
      exact ⟨_, rfl, HR.out, HC.out⟩

theorem containsC_any (g N cap : Nat) (R D : Nat → List Int) (Vs : Nat → List V) (w : World) (hV : RowC w g N cap R D Vs) :
    Calls Try.prog 45 #[.slice (some ⟨g, 0, none⟩) N cap, .func (.func 46) #[] #[]] w fun e w' => e = .returned (.bool ((List.range N).any fun j => noneB (R j) (D j) (Vs j))) ∧ Chg [] w w' := by
  have HI := Lib.hid (indexC_any g N cap R D Vs w hV _ rfl)
  clear hV
  go_enter Try.func45, Try.ntmps45
  go_wp2_with (first
    | (go_at_call 76; (with_reducible refine HI.out.mono ?_); rintro e w2 ⟨z, rfl, hz, hk2⟩; have HZ := Lib.hid hz; have HC2 := Lib.hid hk2; clear hk2 hz)
    | fail)
  go_ret
  exact ⟨ret_bool HZ.out, HC2.out⟩

end Go.Proofs.Ytfdmbpfpdijpdaa

namespace Go.Proofs.Ytfdmbpfpdijpdaa
open Go.RowKit
set_option linter.unusedVariables false
set_option linter.unusedSimpArgs false

set_option maxRecDepth 100000 in
set_option maxHeartbeats 4000000 in
theorem equalC_any (g h N M cap cap2 : Nat) (R1 D1 R2 D2 : Nat → List Int) (V1 V2 : Nat → List V) (w : World) (hA : ColsS w g N R1 D1 V1) (hB : ColsS w h M R2 D2 V2) (B : Bool)
    (hBB : B = (decide (N = M) && (List.range N).all fun j => decide (R1 j = R2 j) && (decide (D1 j = D2 j) && decide (V1 j = V2 j)))) :
    Calls Try.prog 81 #[.slice (some ⟨g, 0, none⟩) N cap, .slice (some ⟨h, 0, none⟩) M cap2, .func (.func 36) #[] #[]] w fun e w' => e = .returned (.bool B) ∧ Chg [] w w' := by
  have hN := hA.le
  have hM := hB.le
  have HA := Lib.hid hA; have HBC := Lib.hid hB; have HB := Lib.hid hBB
  clear hA hB hBB
  by_cases hNM : N = M
  case neg =>
    have e1 : ((N : Int) != (M : Int)) = true := by simp; omega
    have E := Lib.hid (show B = false by rw [HB.out, decide_eq_false hNM]; rfl)
    go_enter Try.func81, Try.ntmps81
    go_wp2
    go_ret
    exact ⟨ret_bool E.out.symm, Chg.refl _ _⟩
  subst hNM
  have e1 : ((N : Int) != (N : Int)) = false := by simp
  go_enter Try.func81, Try.ntmps81
  go_wp2
  go_loopw [17] (fun x wx => ∃ k : Nat, x = .int .i64 (k : Int) ∧ k ≤ N ∧ Chg [] w wx ∧ Hid (∀ j, j < k → R1 j = R2 j ∧ D1 j = D2 j ∧ V1 j = V2 j)) (fun x _ => N - (intOf x).toNat)
  case atStart => exact ⟨0, rfl, Nat.zero_le _, Chg.refl _ _, Lib.hid fun j h => by omega⟩
  case round =>
    obtain ⟨k, rfl, hk, hc, HK⟩ := hrel
    have HC := Lib.hid hc
    clear hc
    have hkw : IntKind.i64.wrap ((k : Int) + 1) = (k : Int) + 1 := IntWalk.i64_in _ (by omega)
    by_cases hlt : k < N
    · have d0 : decide ((k : Int) < (N : Int)) = true := by simp; omega
      obtain ⟨rv, dv, vv, c0, c1, c2, s0, s1, s2⟩ := HA.out.at' k hlt
      obtain ⟨rv2, dv2, vv2, a0, a1, a2, t0, t1, t2⟩ := HBC.out.at' k hlt
      obtain ⟨b, hb⟩ : ∃ b, b = (decide (R1 k = R2 k) && (decide (D1 k = D2 k) && decide (V1 k = V2 k))) := ⟨_, rfl⟩
      have HF := Lib.hid (show ∀ wx, Chg [] w wx → Calls Try.prog 36 #[.agg #[rv, dv, vv], .agg #[rv2, dv2, vv2]] wx fun e w' => e = .returned (.bool b) ∧ Chg [] wx w' from fun wx hx => by
        have := same14_any rv dv vv rv2 dv2 vv2 (R1 k) (D1 k) (R2 k) (D2 k) (V1 k) (V2 k) wx (s0.keep hx) (s1.keep hx) (s2.keep hx) (t0.keep hx) (t1.keep hx) (t2.keep hx)
        rw [hb]
        simpa using this)
      have HBB := Lib.hid hb
      obtain ⟨ro, rc, rfl, -, -⟩ := s0.shape
      obtain ⟨do', dc, rfl, -, -⟩ := s1.shape
      obtain ⟨vo', vc, rfl, -, -⟩ := s2.shape
      obtain ⟨ro2, rc2, rfl, -, -⟩ := t0.shape
      obtain ⟨do2, dc2, rfl, -, -⟩ := t1.shape
      obtain ⟨vo2, vc2, rfl, -, -⟩ := t2.shape
      have x0 := HC.out.cell c0 (by simp)
      have x1 := HC.out.cell c1 (by simp)
      have x2 := HC.out.cell c2 (by simp)
      have y0 := HC.out.cell a0 (by simp)
      have y1 := HC.out.cell a1 (by simp)
      have y2 := HC.out.cell a2 (by simp)
      have hgw : g < wr.heap.size := World.block_lt_of_cell? wr _ x0
      have hhw : h < wr.heap.size := World.block_lt_of_cell? wr _ y0
      clear hb c0 c1 c2 s0 s1 s2 a0 a1 a2 t0 t1 t2
      cases b
      · have HR := Lib.hid (show B = false by
          rw [HB.out]
          simp only [decide_true, Bool.true_and]
          rw [List.all_eq_false]
          exact ⟨k, List.mem_range.2 hlt, by rw [← HBB.out]; simp⟩)
        go_wp2_with (first
          | (go_at_call 36; (with_reducible refine (HF.out _ (by first | exact (HC.out.alloc _).alloc _ | exact ((HC.out.alloc _).setCell (.inr HC.out.size) _).alloc _ | exact (Chg.refl [] _)) ).mono ?_); rintro e w2 ⟨rfl, hk2⟩; have HC2 := Lib.hid (show Chg [] w w2 from ((HC.out.alloc _).alloc _).trans hk2 (by simp)); clear hk2)
          | fail)
        go_ret
        exact ⟨ret_bool HR.out.symm, HC2.out⟩
      · have HK2 := Lib.hid (show ∀ j, j < k + 1 → R1 j = R2 j ∧ D1 j = D2 j ∧ V1 j = V2 j from fun j hj => by
          by_cases e : j = k
          · subst e
            have h := HBB.out
            simpa using h.symm
          · exact HK.out j (by omega))
        go_wp2_with (first
          | (go_at_call 36; (with_reducible refine (HF.out _ ((HC.out.alloc _).alloc _)).mono ?_); rintro e w2 ⟨rfl, hk2⟩; have HC2 := Lib.hid (show Chg [] w w2 from ((HC.out.alloc _).alloc _).trans hk2 (by simp)); clear hk2)
          | fail)
        go_roundw
        case rel => exact ⟨k + 1, by go_num, by omega, HC2.out, HK2⟩
        case measure => simp [intOf]; omega
    · have d0 : decide ((k : Int) < (N : Int)) = false := by simp; omega
      have HR := Lib.hid (show B = true by
        rw [HB.out]
        simp only [decide_true, Bool.true_and]
        rw [List.all_eq_true]
        intro j hj
        obtain ⟨h1, h2, h3⟩ := HK.out j (by have := List.mem_range.1 hj; omega)
        simp [h1, h2, h3])
      go_wp2
      go_ret
      exact ⟨ret_bool HR.out.symm, HC.out⟩

/-- Have these records these columns? -/
def areB (l : List F) (L0 : List Tr) (M : Nat) (R D : Nat → List Int) (Vs : Nat → List V) : Bool :=
  decide ((leavesL l).length = M) && (List.range (leavesL l).length).all fun j => decide (colR (colC ((lways l).getD j []) L0) = R j) && (decide (colD (colC ((lways l).getD j []) L0) = D j) && decide (colV ((leavesL l).getD j default).d (colC ((lways l).getD j []) L0) = Vs j))

set_option maxRecDepth 100000 in
set_option maxHeartbeats 4000000 in
theorem are_any (sv lv : Value) (l : List F) (L0 : List Tr) (d : Nat) (h M cap2 : Nat) (R D : Nat → List Int) (Vs : Nat → List V) (w : World) (hS : SeenF w sv l) (hL : ListAt w d L0 lv) (hB : ColsS w h M R D Vs) (h1 : 1 ≤ l.length) (hl : l.length ≤ 1000) (hw : ∀ f ∈ l, f.c ≤ 9223372036854775807) (hn : ∀ f ∈ l, f.n.size ≤ 1000) (hr : ∀ f ∈ l, f.r = 0 ∨ f.r = 1 ∨ f.r = 2)
    (h0 : faultT l L0 = 0) (hm : L0.length ≤ 200) (hok : ∀ W ∈ lways l, (∀ t ∈ L0, WayOk W t) ∧ ∀ x ∈ colC W L0, x.t.s.size ≤ 281474976710656) (hC : ∀ W ∈ lways l, (colC W L0).length ≤ 4000) :
    Calls Try.prog 48 #[sv, lv, .slice (some ⟨h, 0, none⟩) M cap2] w fun e w' => e = .returned (.bool (areB l L0 M R D Vs)) ∧ Chg [] w w' := by
  obtain ⟨ao, cap, rfl, -, -⟩ := hS.shape
  obtain ⟨lo, lc, rfl, -, -⟩ := hL.shape
  have HCO := Lib.hid (columns_ok _ _ l L0 d w hS hL h1 hl hw hn hr h0 hm (leavesL l) (lways l) rfl rfl hok hC)
  have hlv := leavesTo_le l l.length
  have HLL := Lib.hid (show (leavesL l).length ≤ 1000000 by unfold leavesL; omega)
  have HB := Lib.hid hB
  obtain ⟨N, hN⟩ : ∃ N, N = (leavesL l).length := ⟨_, rfl⟩
  have HE := Lib.hid (fun (g cap1 : Nat) (wx : World) (hA : ColsS wx g N (fun j => colR (colC ((lways l).getD j []) L0)) (fun j => colD (colC ((lways l).getD j []) L0)) (fun j => colV ((leavesL l).getD j default).d (colC ((lways l).getD j []) L0))) (hc : Chg [] w wx) => equalC_any g h N M cap1 cap2 _ _ R D _ Vs wx hA (HB.out.keep hc) (areB l L0 M R D Vs) (by unfold areB; rw [← hN]))
  have HNN := Lib.hid hN
  rw [← hN] at HCO
  clear hS hL hB hw hn hr h0 hm hok hC hN
  go_enter Try.func48, Try.ntmps48
  go_wp2_with (first
    | (go_at_call 31; (with_reducible refine HCO.out.mono ?_); rintro e w2 ⟨gc, RR, rfl, hk2, hJ⟩; have HC2 := Lib.hid hk2; have HSE := Lib.hid (hJ.seen (by rw [HNN.out]; exact HLL.out) HNN.out.symm (by rw [lways_len, ← HNN.out])); clear hk2 hJ)
    | (go_at_call 81; (with_reducible refine (HE.out _ _ _ (by first | exact HSE.out | exact HSE.out.keep (Chg.refl [] _).drew) (by first | exact HC2.out | exact HC2.out.drew)).mono ?_); rintro e w3 ⟨rfl, hk3⟩; have HC3 := Lib.hid (HC2.out.trans hk3 (by simp)); clear hk3)
    | fail)
  go_ret
  exact ⟨rfl, HC3.out⟩

end Go.Proofs.Ytfdmbpfpdijpdaa

namespace Go.Proofs.Ytfdmbpfpdijpdaa
open Go.RowKit
set_option linter.unusedVariables false
set_option linter.unusedSimpArgs false

/-! ### pure -/

/-- The signs of the fields on the way to each field. -/
def sgA (l : List F) : Nat → List (List Nat)
  | 0 => []
  | i + 1 => sgA l i ++ [if (parents l).getD i 0 = -1 then [] else (sgA l i).getD ((parents l).getD i 0).toNat [] ++ [65 + i]]
theorem sgA_len (l : List F) : ∀ i, (sgA l i).length = i
  | 0 => rfl
  | i + 1 => by rw [sgA, List.length_append, sgA_len l i]; rfl

/-- Each field's place among those of its group. -/
def plA (l : List F) (j : Nat) : Nat := if (parents l).getD j 0 = -1 then 0 else (kidsU (parents l) j ((parents l).getD j 0).toNat).length

def strV (x : List Nat) : Value := .string (str x)

/-- The signs of the ways to the leaves among the first fields. -/
def lwA (l : List F) (S : List (List Nat)) (i : Nat) : List (List Nat) := (leavesTo l i).map fun x => S.getD x.f.toNat []

/-- The signs of one way. -/
def sgF (l : List F) (j : Nat) : List Nat := (sgA l (j + 1)).getD j []

theorem sgA_get (l : List F) (j : Nat) : ∀ m, j < m → (sgA l m).getD j [] = sgF l j
  | 0, h => absurd h (by omega)
  | m + 1, h => by
    by_cases e : j = m
    · subst e; rfl
    · rw [sgA, List.getD, List.getElem?_append_left (by rw [sgA_len]; omega), ← List.getD]
      exact sgA_get l j m (by omega)

theorem sgF_at (l : List F) (j : Nat) (hj : j < l.length) : sgF l j = if (parents l).getD j 0 = -1 then [] else sgF l ((parents l).getD j 0).toNat ++ [65 + j] := by
  have hx : (parents l)[j]? = some ((parents l).getD j 0) := by rw [List.getD, List.getElem?_eq_getElem (by rw [parents_length]; exact hj)]; rfl
  have hlt := parents_lt hx
  unfold sgF
  rw [sgA, List.getD, List.getElem?_append_right (by rw [sgA_len]; exact Nat.le_refl _), sgA_len, Nat.sub_self]
  simp only [List.getElem?_cons_zero, Option.getD_some]
  split
  · rfl
  · rename_i h
    rw [sgA_get l _ j (by omega)]
    rfl

theorem sgF_len (l : List F) : ∀ j, j < l.length → (sgF l j).length ≤ j := by
  intro j
  induction j using Nat.strongRecOn with
  | ind j ih =>
    intro hj
    have hx : (parents l)[j]? = some ((parents l).getD j 0) := by rw [List.getD, List.getElem?_eq_getElem (by rw [parents_length]; exact hj)]; rfl
    have hlt := parents_lt hx
    rw [sgF_at l j hj]
    split
    · simp
    · rename_i h
      have := ih ((parents l).getD j 0).toNat (by omega) (by omega)
      rw [List.length_append, List.length_singleton]
      omega

/-- What is known once i fields are gone past. -/
structure SHP (l : List F) (n i : Nat) (P Fi H : List Int) (S Y : List (List Nat)) : Prop where
  lp : P.length = n
  lf : Fi.length = n
  lh : H.length = n
  ls : S.length = n
  p : ∀ j, j < n → P[j]? = some (if j < i then (plA l j : Int) else 0)
  f : ∀ j, j < i → Fi[j]? = some (lno l j : Int)
  h : ∀ g, g < n → H[g]? = some ((kidsU (parents l) i g).length : Int)
  s : ∀ j, j < n → S[j]? = some (if j < i then sgF l j else [])
  y : Y = (leavesTo l i).map fun x => sgF l x.f.toNat

theorem leafAt_map (l : List F) (i : Nat) (Y : List (List Nat)) (hY : Y = (leavesTo l i).map fun x => sgF l x.f.toNat) :
    (leavesTo l (i + 1)).map (fun x => sgF l x.f.toNat) = if (l.getD i default).k ≠ 0 then Y ++ [sgF l i] else Y := by
  rw [leavesTo_succ, List.map_append, ← hY]
  unfold leafAt
  split <;> simp_all

theorem SHP.root {l : List F} {n i : Nat} {P Fi H : List Int} {S Y Y' : List (List Nat)} (h : SHP l n i P Fi H S Y) (hn : n = l.length) (hi : i < n) (hp : (parents l).getD i 0 = -1)
    (hY : Y' = (leavesTo l (i + 1)).map fun x => sgF l x.f.toNat) : SHP l n (i + 1) P (Fi.set i (Y.length : Int)) H S Y' := by
  refine ⟨h.lp, by rw [List.length_set]; exact h.lf, h.lh, h.ls, fun j hj => ?_, fun j hj => ?_, fun g hg => ?_, fun j hj => ?_, hY⟩
  · rw [h.p j hj]
    by_cases e : j = i
    · subst e; rw [if_neg (Nat.lt_irrefl _), if_pos (Nat.lt_succ_self _)]; unfold plA; rw [hp, if_pos rfl]; rfl
    · simp [show (j < i + 1) = (j < i) from by simp; omega]
  · rw [List.getElem?_set]
    by_cases e : i = j
    · subst e; rw [if_pos rfl, if_pos (by rw [h.lf]; exact hi), h.y, List.length_map]; rfl
    · rw [if_neg e]; exact h.f j (by omega)
  · rw [kidsU_succ, if_neg (by rw [hp]; omega)]; exact h.h g hg
  · rw [h.s j hj]
    by_cases e : j = i
    · subst e; simp; rw [sgF_at l j (by omega), if_pos hp]
    · simp [show (j < i + 1) = (j < i) from by simp; omega]

theorem SHP.kid {l : List F} {n i g : Nat} {P Fi H : List Int} {S Y Y' : List (List Nat)} (h : SHP l n i P Fi H S Y) (hn : n = l.length) (hi : i < n) (hp : (parents l).getD i 0 = (g : Int)) (hg : g < i)
    (hY : Y' = (leavesTo l (i + 1)).map fun x => sgF l x.f.toNat) : SHP l n (i + 1) (P.set i ((kidsU (parents l) i g).length : Int)) (Fi.set i (Y.length : Int)) (H.set g (((kidsU (parents l) i g).length : Int) + 1)) (S.set i (sgF l g ++ [65 + i])) Y' := by
  have hne : ¬ ((g : Int) = -1) := by omega
  refine ⟨by rw [List.length_set]; exact h.lp, by rw [List.length_set]; exact h.lf, by rw [List.length_set]; exact h.lh, by rw [List.length_set]; exact h.ls, fun j hj => ?_, fun j hj => ?_, fun q hq => ?_, fun j hj => ?_, hY⟩
  · rw [List.getElem?_set]
    by_cases e : i = j
    · subst e; rw [if_pos rfl, if_pos (by rw [h.lp]; exact hi), if_pos (by omega)]; unfold plA; rw [hp, if_neg hne]; rfl
    · rw [if_neg e, h.p j hj]; simp [show (j < i + 1) = (j < i) from by simp; omega]
  · rw [List.getElem?_set]
    by_cases e : i = j
    · subst e; rw [if_pos rfl, if_pos (by rw [h.lf]; exact hi), h.y, List.length_map]; rfl
    · rw [if_neg e]; exact h.f j (by omega)
  · rw [List.getElem?_set, kidsU_succ]
    by_cases e : g = q
    · subst e; rw [if_pos rfl, if_pos (by rw [h.lh]; omega), if_pos hp, List.length_append]; simp
    · rw [if_neg e, if_neg (by rw [hp]; omega)]; exact h.h q hq
  · rw [List.getElem?_set]
    by_cases e : i = j
    · subst e; rw [if_pos rfl, if_pos (by rw [h.ls]; exact hi), if_pos (by omega), sgF_at l i (by omega), hp, if_neg hne]; rfl
    · rw [if_neg e, h.s j hj]; simp [show (j < i + 1) = (j < i) from by simp; omega]

theorem SHP.done {l : List F} {n : Nat} {P Fi H : List Int} {S Y : List (List Nat)} (h : SHP l n n P Fi H S Y) (hn : n = l.length) :
    P = ((List.range l.length).map fun j => (plA l j : Int)) ∧ Fi = ((List.range l.length).map fun j => (lno l j : Int)) ∧ Y = ((leavesL l).map fun x => sgF l x.f.toNat) := by
  subst hn
  refine ⟨List.ext_getElem? fun j => ?_, List.ext_getElem? fun j => ?_, h.y⟩
  · by_cases hj : j < l.length
    · rw [h.p j hj, if_pos hj]; simp [hj]
    · rw [List.getElem?_eq_none (by rw [h.lp]; omega), List.getElem?_eq_none (by simp; omega)]
  · by_cases hj : j < l.length
    · rw [h.f j hj]; simp [hj]
    · rw [List.getElem?_eq_none (by rw [h.lf]; omega), List.getElem?_eq_none (by simp; omega)]

theorem set4 {W : World} {gr : Nat} {T : TypeId} {a b c d : Value} (hb : W.heap[gr]? = some (.cells #[a, b, c, d] T (0, 0))) (x y z u : Value) : ((((W.setCell ⟨gr, 0, none⟩ x).setCell ⟨gr, 1, none⟩ y).setCell ⟨gr, 2, none⟩ z).setCell ⟨gr, 3, none⟩ u).heap[gr]? = some (.cells #[x, y, z, u] T (0, 0)) := by
  rw [heap_set (heap_set (heap_set (heap_set hb x) y) z) u]
  rfl

theorem ret_shape {fn : Func} (hres : fn.results = #[.cell 2 129]) {post : Ending → World → Prop} {a : Act} {W : World} {gr : Nat} {x y z u : Value} (h4 : a.tmps.getD 2 undef = .pointer (some ⟨gr, 0, none⟩)) (hd : a.defers = []) (hh : W.heap[gr]? = some (.cells #[x, y, z, u] 129 (0, 0))) (hp : post (.returned (.agg #[x, y, z, u])) W) : bodyPost Try.prog fn post .ret a W :=
  bodyPost_ret (results_cell_row hres a.tmps W gr _ _ _ _ h4 hh Try.underlying129 rfl (by kernel_rfl)) hd hp

/-- What is made: the schema's row, the places, the first leaves, the signs of the ways to the leaves. -/
structure SHO (w0 w : World) (sv : Value) (l : List F) (P Fi : List Int) (S : List (List Nat)) (x : Value) : Prop where
  c : Chg [] w0 w
  k : ∃ gp gf wv, x = .agg #[sv, .slice (some ⟨gp, 0, none⟩) l.length l.length, .slice (some ⟨gf, 0, none⟩) l.length l.length, wv] ∧ BlkI w gp P ∧ BlkI w gf Fi ∧ w0.heap.size ≤ gp ∧ w0.heap.size ≤ gf ∧ gp ≠ gf ∧ w.ownsRow w0.heap.size 9 1 wv S.length (S.map strV)

theorem enc_low : ∀ i : Nat, i < 60 → Utf8.encode ((65 + i : Nat) : Int) = str [65 + i] := by decide +kernel

theorem info_shape : ∃ i, Try.prog.info? 129 = some i ∧ i.zero = some (.agg #[.slice none 0 0, .slice none 0 0, .slice none 0 0, .slice none 0 0]) ∧ i.size = 4 :=
  let ⟨i, h⟩ := info_parts (show (Try.prog.info? 129).map (fun i => (i.zero, i.size, i.bytes)) = some (some (.agg #[.slice none 0 0, .slice none 0 0, .slice none 0 0, .slice none 0 0]), 4, 96) by kernel_rfl)
  ⟨i, h.1, h.2.1, h.2.2.1⟩

theorem info_string : ∃ i, Try.prog.info? 9 = some i ∧ i.zero = some (.string ByteArray.empty) ∧ i.size = 1 ∧ i.bytes = 16 :=
  info_parts (show (Try.prog.info? 9).map (fun i => (i.zero, i.size, i.bytes)) = some (some (.string ByteArray.empty), 1, 16) by kernel_rfl)

/-! ### memory -/

/-- A row of texts. -/
def BlkS (w : World) (g : Nat) (S : List (List Nat)) : Prop := w.heap[g]? = some (.cells (S.map strV).toArray 9 (0, 0))

theorem BlkS.chg {w w' : World} {T : List Nat} {g : Nat} {S : List (List Nat)} (h : BlkS w g S) (hc : Chg T w w') (hg : g ∉ T) : BlkS w' g S := hc.heap h hg
theorem BlkS.cell {w : World} {g : Nat} {S : List (List Nat)} (h : BlkS w g S) {j : Nat} {x : List Nat} (hj : S[j]? = some x) : w.cell? ⟨g, j, none⟩ = some (.string (str x)) := by
  rw [cell_of_row w g j _ _ _ h]; simp [hj, strV]
theorem BlkS.frozen {w : World} {g : Nat} {S : List (List Nat)} (h : BlkS w g S) (i : Nat) : w.frozen? ⟨g, i, none⟩ = false := by
  unfold BlkS at h; simp [World.frozen?, h]
theorem BlkS.set {w : World} {g : Nat} {S : List (List Nat)} (h : BlkS w g S) (j : Nat) (x : List Nat) : BlkS (w.setCell ⟨g, j, none⟩ (.string (str x))) g (S.set j x) := by
  unfold BlkS at h ⊢
  rw [heap_set h]
  simp [strV, List.map_set]

/-- How the shape stands while it is made. -/
structure SHM (w0 w : World) (sv : Value) (bh gp gf gh gw gq B n : Nat) (Q P Fi H : List Int) (S : List (List Nat)) (wv : Value) (Y : List (List Nat)) : Prop where
  c : Chg [] w0 w
  b : w.heap[bh]? = some (.cells #[sv, .slice (some ⟨gp, 0, none⟩) n n, .slice (some ⟨gf, 0, none⟩) n n, wv] 129 (0, 0))
  p : BlkI w gp P
  f : BlkI w gf Fi
  h : BlkI w gh H
  q : BlkI w gq Q
  s : BlkS w gw S
  o : w.ownsRow B 9 1 wv Y.length (Y.map strV)
  lt : bh < B ∧ gp < B ∧ gf < B ∧ gh < B ∧ gw < B ∧ gq < B
  ge : w0.heap.size ≤ bh ∧ w0.heap.size ≤ gp ∧ w0.heap.size ≤ gf ∧ w0.heap.size ≤ gh ∧ w0.heap.size ≤ gw ∧ w0.heap.size ≤ gq
  ne : gp ≠ gf ∧ gp ≠ gh ∧ gp ≠ gq ∧ gf ≠ gh ∧ gf ≠ gq ∧ gh ≠ gq ∧ bh ≠ gp ∧ bh ≠ gf ∧ bh ≠ gh ∧ bh ≠ gq ∧ bh ≠ gw ∧ gw ≠ gp ∧ gw ≠ gf ∧ gw ≠ gh ∧ gw ≠ gq
  bs : B ≤ w.heap.size

section
variable {w0 w : World} {sv : Value} {bh gp gf gh gw gq B n : Nat} {Q P Fi H : List Int} {S : List (List Nat)} {wv : Value} {Y : List (List Nat)}

theorem SHM.low (h : SHM w0 w sv bh gp gf gh gw gq B n Q P Fi H S wv Y) {k : Nat} (hk : k < B) : ∀ g, wv.ownBlock = some g → g ∉ [k] := fun g hg hm => by
  have := own_ge h.o g hg
  simp at hm
  omega

theorem SHM.drew (h : SHM w0 w sv bh gp gf gh gw gq B n Q P Fi H S wv Y) : SHM w0 w.drew sv bh gp gf gh gw gq B n Q P Fi H S wv Y :=
  ⟨h.c.drew, h.b, h.p, h.f, h.h, h.q, h.s, h.o, h.lt, h.ge, h.ne, h.bs⟩

theorem SHM.keep (h : SHM w0 w sv bh gp gf gh gw gq B n Q P Fi H S wv Y) {w' : World} (hc : Chg [] w w') : SHM w0 w' sv bh gp gf gh gw gq B n Q P Fi H S wv Y :=
  ⟨h.c.trans hc (by simp), hc.heap h.b (by simp), h.p.chg hc (by simp), h.f.chg hc (by simp), h.h.chg hc (by simp), h.q.chg hc (by simp), h.s.chg hc (by simp), own_chg h.o hc (by simp), h.lt, h.ge, h.ne, Nat.le_trans h.bs hc.size⟩

theorem SHM.setF (h : SHM w0 w sv bh gp gf gh gw gq B n Q P Fi H S wv Y) (i : Nat) (v : Int) : SHM w0 (w.setCell ⟨gf, i, none⟩ (.int .i64 v)) sv bh gp gf gh gw gq B n Q P (Fi.set i v) H S wv Y := by
  have hc : Chg [gf] w (w.setCell ⟨gf, i, none⟩ (.int .i64 v)) := (Chg.refl _ _).setCell (.inl (by simp)) _
  obtain ⟨n1, n2, n3, n4, n5, n6, n7, n8, n9, n10, n11, n12, n13, n14, n15⟩ := h.ne
  exact ⟨h.c.setCell (.inr h.ge.2.2.1) _, hc.heap h.b (by simpa using n8), h.p.chg hc (by simpa using n1), h.f.set i v, h.h.chg hc (by simpa using fun e => n4 e.symm), h.q.chg hc (by simpa using fun e => n5 e.symm), h.s.chg hc (by simpa using n13), own_chg h.o hc (h.low h.lt.2.2.1), h.lt, h.ge, h.ne, Nat.le_trans h.bs hc.size⟩

theorem SHM.setP (h : SHM w0 w sv bh gp gf gh gw gq B n Q P Fi H S wv Y) (i : Nat) (v : Int) : SHM w0 (w.setCell ⟨gp, i, none⟩ (.int .i64 v)) sv bh gp gf gh gw gq B n Q (P.set i v) Fi H S wv Y := by
  have hc : Chg [gp] w (w.setCell ⟨gp, i, none⟩ (.int .i64 v)) := (Chg.refl _ _).setCell (.inl (by simp)) _
  obtain ⟨n1, n2, n3, n4, n5, n6, n7, n8, n9, n10, n11, n12, n13, n14, n15⟩ := h.ne
  exact ⟨h.c.setCell (.inr h.ge.2.1) _, hc.heap h.b (by simpa using n7), h.p.set i v, h.f.chg hc (by simpa using fun e => n1 e.symm), h.h.chg hc (by simpa using fun e => n2 e.symm), h.q.chg hc (by simpa using fun e => n3 e.symm), h.s.chg hc (by simpa using n12), own_chg h.o hc (h.low h.lt.2.1), h.lt, h.ge, h.ne, Nat.le_trans h.bs hc.size⟩

theorem SHM.setH (h : SHM w0 w sv bh gp gf gh gw gq B n Q P Fi H S wv Y) (i : Nat) (v : Int) : SHM w0 (w.setCell ⟨gh, i, none⟩ (.int .i64 v)) sv bh gp gf gh gw gq B n Q P Fi (H.set i v) S wv Y := by
  have hc : Chg [gh] w (w.setCell ⟨gh, i, none⟩ (.int .i64 v)) := (Chg.refl _ _).setCell (.inl (by simp)) _
  obtain ⟨n1, n2, n3, n4, n5, n6, n7, n8, n9, n10, n11, n12, n13, n14, n15⟩ := h.ne
  exact ⟨h.c.setCell (.inr h.ge.2.2.2.1) _, hc.heap h.b (by simpa using n9), h.p.chg hc (by simpa using n2), h.f.chg hc (by simpa using n4), h.h.set i v, h.q.chg hc (by simpa using fun e => n6 e.symm), h.s.chg hc (by simpa using n14), own_chg h.o hc (h.low h.lt.2.2.2.1), h.lt, h.ge, h.ne, Nat.le_trans h.bs hc.size⟩

theorem SHM.setS (h : SHM w0 w sv bh gp gf gh gw gq B n Q P Fi H S wv Y) (i : Nat) (v : List Nat) : SHM w0 (w.setCell ⟨gw, i, none⟩ (.string (str v))) sv bh gp gf gh gw gq B n Q P Fi H (S.set i v) wv Y := by
  have hc : Chg [gw] w (w.setCell ⟨gw, i, none⟩ (.string (str v))) := (Chg.refl _ _).setCell (.inl (by simp)) _
  obtain ⟨n1, n2, n3, n4, n5, n6, n7, n8, n9, n10, n11, n12, n13, n14, n15⟩ := h.ne
  exact ⟨h.c.setCell (.inr h.ge.2.2.2.2.1) _, hc.heap h.b (by simpa using n11), h.p.chg hc (by simpa using fun e => n12 e.symm), h.f.chg hc (by simpa using fun e => n13 e.symm), h.h.chg hc (by simpa using fun e => n14 e.symm), h.q.chg hc (by simpa using fun e => n15 e.symm), h.s.set i v, own_chg h.o hc (h.low h.lt.2.2.2.2.1), h.lt, h.ge, h.ne, Nat.le_trans h.bs hc.size⟩

theorem SHM.app (h : SHM w0 w sv bh gp gf gh gw gq B n Q P Fi H S wv Y) {o : Obj} {w2 : World} {wv' : Value} {x : List Nat} (hg : (w.alloc o).grownBy w2 wv.ownBlock) (ho : w2.ownsRow B 9 1 wv' (Y.length + 1) (Y.map strV ++ [strV x])) (hB : w0.heap.size ≤ B) :
    SHM w0 (w2.setCell ⟨bh, 3, none⟩ wv') sv bh gp gf gh gw gq B n Q P Fi H S wv' (Y ++ [x]) := by
  have hal : Chg [] w (w.alloc o) := (Chg.refl [] w).alloc o
  have hc : Chg wv.ownBlock.toList (w.alloc o) w2 := (Chg.refl _ _).grown hg (fun q hq => .inl (by simp [← hq]))
  have hn : ∀ k, k < B → k ∉ wv.ownBlock.toList := fun k hk hm => by have := own_ge h.o k (by simpa using hm); omega
  have hs : Chg [bh] w2 (w2.setCell ⟨bh, 3, none⟩ wv') := (Chg.refl _ _).setCell (.inl (by simp)) _
  obtain ⟨t1, t2, t3, t4, t5, t6⟩ := h.lt
  obtain ⟨n1, n2, n3, n4, n5, n6, n7, n8, n9, n10, n11, n12, n13, n14, n15⟩ := h.ne
  have k := h.keep hal
  refine ⟨(k.c.trans hc (fun g hg => .inr (by have := own_ge h.o g (by simpa using hg); omega))).setCell (.inr h.ge.1) _, heap_set (hc.heap k.b (hn _ t1)) wv', (k.p.chg hc (hn _ t2)).chg hs (by simpa using fun e => n7 e.symm), (k.f.chg hc (hn _ t3)).chg hs (by simpa using fun e => n8 e.symm), (k.h.chg hc (hn _ t4)).chg hs (by simpa using fun e => n9 e.symm), (k.q.chg hc (hn _ t6)).chg hs (by simpa using fun e => n10 e.symm), (k.s.chg hc (hn _ t5)).chg hs (by simpa using fun e => n11 e.symm), ?_, h.lt, h.ge, h.ne, Nat.le_trans k.bs (Nat.le_trans hc.size hs.size)⟩
  rw [List.length_append, List.map_append]
  exact own_chg ho hs (fun g hg hm => by have := own_ge ho g hg; simp at hm; omega)
end

abbrev FRSH1 (n : Nat) (ao : Option Addr) (cap : Nat) (gp : Nat) (gf : Nat) (bh : Nat) (base u : Nat → Value) : Act := { tmps := #[.slice ao n cap, base 1, base 2, u 3, base 4, base 5, base 6, base 7, u 8, u 9, u 10, u 11, u 12, u 13, u 14, u 15, base 16, base 17, base 18, base 19, base 20, base 21, base 22, base 23, base 24, base 25, base 26, base 27, base 28, base 29, base 30, base 31, base 32, base 33, base 34, base 35, base 36, base 37, base 38, base 39, base 40, base 41, base 42, base 43, base 44, base 45, base 46, base 47, base 48, base 49, base 50, base 51, base 52, base 53, base 54, base 55, base 56, base 57, base 58, base 59, base 60, base 61, base 62, base 63, base 64, base 65, base 66, base 67, base 68, base 69, base 70, base 71, base 72, base 73, base 74, base 75, base 76, base 77, base 78, base 79, base 80, base 81], defers := [] }

structure RISH1 (n : Nat) (ao : Option Addr) (cap : Nat) (wc : World) (b : Nat → Bool) (u : Nat → Value) (gp : Nat) (gf : Nat) (bh : Nat) (w' : World) : Prop where
  c0 : b 0 = true → u 8 = .slice ao n cap
  c1 : b 1 = true → u 9 = .slice ao n cap
  c2 : b 2 = true → u 10 = .int .i64 (n : Int)
  c3 : b 3 = true → u 11 = .slice (some ⟨gp, 0, none⟩) n n
  c4 : b 4 = true → u 12 = .slice ao n cap
  c5 : b 5 = true → u 13 = .int .i64 (n : Int)
  c6 : b 6 = true → u 14 = .slice (some ⟨gf, 0, none⟩) n n
  c7 : b 7 = true → u 15 = .agg #[.slice ao n cap, .slice (some ⟨gp, 0, none⟩) n n, .slice (some ⟨gf, 0, none⟩) n n, .slice none 0 0]
  c8 : b 8 = true → u 3 = .pointer (some ⟨bh, 0, none⟩)
  cg : Chg [] wc w'
  mp : b 3 = true → BlkI w' gp (List.replicate n 0) ∧ wc.heap.size ≤ gp ∧ gp < w'.heap.size
  mf : b 6 = true → BlkI w' gf (List.replicate n 0) ∧ wc.heap.size ≤ gf ∧ gf < w'.heap.size
  mb : b 8 = true → wc.heap.size ≤ bh ∧ bh < w'.heap.size ∧ (b 9 = false → w'.heap[bh]? = some (.cells #[.slice none 0 0, .slice none 0 0, .slice none 0 0, .slice none 0 0] 129 (0, 0)))
  ms : b 9 = true → w'.heap[bh]? = some (.cells #[.slice ao n cap, .slice (some ⟨gp, 0, none⟩) n n, .slice (some ⟨gf, 0, none⟩) n n, .slice none 0 0] 129 (0, 0))
  dpf : b 3 = true → b 6 = true → gp ≠ gf
  dpb : b 3 = true → b 8 = true → gp ≠ bh
  dfb : b 6 = true → b 8 = true → gf ≠ bh
  z9_3 : b 9 = true → b 3 = true
  z9_6 : b 9 = true → b 6 = true
  z9_8 : b 9 = true → b 8 = true
  z7_3 : b 7 = true → b 3 = true
  z7_6 : b 7 = true → b 6 = true

def JISH1 (n : Nat) (ao : Option Addr) (cap : Nat) (base : Nat → Value) (wc : World) (listed : Array Bool) (a' : Act) (w' : World) : Prop :=
  ∃ (b : Nat → Bool) (u : Nat → Value) (gp : Nat) (gf : Nat) (bh : Nat), listed = #[b 0, b 1, b 2, b 3, b 4, b 5, b 6, b 7, b 8, b 9] ∧ a' = FRSH1 n ao cap gp gf bh base u ∧ RISH1 n ao cap wc b u gp gf bh w'

theorem JISH1_start {n : Nat} {ao : Option Addr} {cap : Nat} {wc w' : World} {base u0 : Nat → Value} (hc : Chg [] wc w') : JISH1 n ao cap base wc (Array.replicate 10 false) (FRSH1 n ao cap 0 0 0 base u0) w' :=
  ⟨fun _ => false, _, 0, 0, 0, rfl, rfl, by constructor <;> simp [hc]⟩

theorem ltSH1 : ∀ i : Nat, i < 10 → i = 0 ∨ i = 1 ∨ i = 2 ∨ i = 3 ∨ i = 4 ∨ i = 5 ∨ i = 6 ∨ i = 7 ∨ i = 8 ∨ i = 9 := by intro i h; omega

set_option maxRecDepth 100000 in
set_option maxHeartbeats 8000000 in
theorem shapeOf_any (sv : Value) (l : List F) (w : World) (hS : SeenF w sv l) (h1 : 1 ≤ l.length) (hl : l.length ≤ 50) (hw : ∀ f ∈ l, f.c ≤ 9223372036854775807) :
    Calls Try.prog 103 #[sv] w fun e w' => ∃ x, e = .returned x ∧ SHO w w' sv l ((List.range l.length).map fun j => (plA l j : Int)) ((List.range l.length).map fun j => (lno l j : Int)) ((leavesL l).map fun x => sgF l x.f.toNat) x := by
  obtain ⟨i0, hii, hz0, hz1, hz2⟩ := info_int
  obtain ⟨i1, hi1, hy0, hy1, hy2⟩ := info_string
  obtain ⟨ao, cap, rfl, hc1, hc2⟩ := hS.shape
  have HS := Lib.hid hS; have HW := Lib.hid hw
  clear hS hw
  obtain ⟨n, hn⟩ : ∃ n, n = l.length := ⟨_, rfl⟩
  rw [← hn] at hc1 hl h1 HS ⊢
  have HN := Lib.hid hn
  clear hn
  go_enter Try.func103, Try.ntmps103
  go_upto_region 1 with fail
  generalize hwr : World.alloc _ _ = wr
  have hcw : Chg [] w wr := by rw [← hwr]; exact (Chg.refl [] w).alloc _
  have HCW := Lib.hid hcw
  have HWR := Lib.hid hwr
  clear hcw hwr
  refine wp_region_any (by kernel_rfl) ?_
  change wpAny _ _ _ _ _ _ _ (World.drew _)
  refine region_bs (fun base u => FRSH1 n ao cap 0 0 0 base u) rfl (fun base u0 hbase => ?_)
  have HBS := Lib.hid hbase
  clear hbase
  refine wpAny_inv (JISH1 n ao cap base wr) ?_ (fun listed a' w' hI hr => ?_) _ _ _ _ ?_ ?_
  rotate_left 2
  focus exact JISH1_start ((Chg.refl [] wr).drew)
  focus exact count_rep _
  focus
    intro listed a' w' hI ii hi hr
    obtain ⟨b, u, gp, gf, bh, rfl, rfl, R⟩ := hI
    have hcs := ltSH1 ii hi
    clear hi
    unfold FRSH1
    rcases hcs with rfl | rfl | rfl | rfl | rfl | rfl | rfl | rfl | rfl | rfl
    · have hrd := ready_at rfl hr
      clear hr
      simp [Region.binds] at hrd
      clear hrd
      refine wpOp_step rfl (fun K hK => ?_)
      go_simp
      refine hK _ _ ?_
      exact ⟨upd b 0 true, (upd u 8 (.slice ao n cap)), gp, gf, bh, rfl, rfl, ⟨(fun _ => rfl), R.c1, R.c2, R.c3, R.c4, R.c5, R.c6, R.c7, R.c8, R.cg, R.mp, R.mf, R.mb, R.ms, R.dpf, R.dpb, R.dfb, R.z9_3, R.z9_6, R.z9_8, R.z7_3, R.z7_6⟩⟩
    · have hrd := ready_at rfl hr
      clear hr
      simp [Region.binds] at hrd
      clear hrd
      refine wpOp_step rfl (fun K hK => ?_)
      go_simp
      refine hK _ _ ?_
      exact ⟨upd b 1 true, (upd u 9 (.slice ao n cap)), gp, gf, bh, rfl, rfl, ⟨R.c0, (fun _ => rfl), R.c2, R.c3, R.c4, R.c5, R.c6, R.c7, R.c8, R.cg, R.mp, R.mf, R.mb, R.ms, R.dpf, R.dpb, R.dfb, R.z9_3, R.z9_6, R.z9_8, R.z7_3, R.z7_6⟩⟩
    · have hrd := ready_at rfl hr
      clear hr
      simp [Region.binds] at hrd
      have h1 : b 1 = true := by simp [hrd]
      have e1 := R.c1 h1
      clear hrd
      refine wpOp_step rfl (fun K hK => ?_)
      go_simp
      refine hK _ _ ?_
      exact ⟨upd b 2 true, (upd (upd u 9 (.slice ao n cap)) 10 (.int .i64 (n : Int))), gp, gf, bh, rfl, rfl, ⟨R.c0, (fun _ => rfl), (fun _ => rfl), R.c3, R.c4, R.c5, R.c6, R.c7, R.c8, R.cg, R.mp, R.mf, R.mb, R.ms, R.dpf, R.dpb, R.dfb, R.z9_3, R.z9_6, R.z9_8, R.z7_3, R.z7_6⟩⟩
    · have hrd := ready_at rfl hr
      clear hr
      simp [Region.binds] at hrd
      have h2 : b 2 = true := by simp [hrd]
      have e2 := R.c2 h2
      have hb3 : b 3 = false := by simp [hrd]
      clear hrd
      obtain ⟨w4, hrun, hown4, hg4⟩ := run_make_full (P := Try.prog) w' w'.heap.size 22 3 i0 (.int .i64 0) 1 Try.underlying22 hii hz0 hz1 .i64 .i64 n (by rw [hz2]; omega) (by unfold maxLen; omega) (Nat.le_refl _)
      have hk3 : Chg [] w' w4 := (Chg.refl [] w').grown hg4 (by simp)
      have hlt4 : w'.heap.size < w4.heap.size := (hown4.lt w'.heap.size rfl).2
      rw [Nat.mul_one, show (Value.int IntKind.i64 0).cells = #[Value.int .i64 0] from rfl, cells_zeroi] at hown4
      have hbi := blkI_of_own hown4 rfl
      clear hown4 hg4
      refine wpOp_step rfl (fun K hK => ?_)
      go_simp
      refine hK _ _ ?_
      exact ⟨upd b 3 true, (upd (upd u 10 (.int .i64 (n : Int))) 11 (.slice (some ⟨w'.heap.size, 0, none⟩) n n)), w'.heap.size, gf, bh, rfl, rfl, ⟨R.c0, R.c1, (fun _ => rfl), (fun _ => rfl), R.c4, R.c5, R.c6, (fun h => absurd (R.z7_3 h) (by rw [hb3]; decide)), R.c8, (R.cg.trans hk3 (by simp)), (fun _ => ⟨hbi, R.cg.size, hlt4⟩), (fun h => ⟨(R.mf h).1.chg hk3 (by simp), (R.mf h).2.1, Nat.lt_of_lt_of_le (R.mf h).2.2 hk3.size⟩), (fun h => ⟨(R.mb h).1, Nat.lt_of_lt_of_le (R.mb h).2.1 hk3.size, fun h9 => hk3.heap ((R.mb h).2.2 h9) (by simp)⟩), (fun h => absurd (R.z9_3 h) (by rw [hb3]; decide)), (fun _ h => by have := (R.mf h).2.2; omega), (fun _ h => by have := (R.mb h).2.1; omega), R.dfb, (fun _ => rfl), R.z9_6, R.z9_8, (fun _ => rfl), R.z7_6⟩⟩
    · have hrd := ready_at rfl hr
      clear hr
      simp [Region.binds] at hrd
      clear hrd
      refine wpOp_step rfl (fun K hK => ?_)
      go_simp
      refine hK _ _ ?_
      exact ⟨upd b 4 true, (upd u 12 (.slice ao n cap)), gp, gf, bh, rfl, rfl, ⟨R.c0, R.c1, R.c2, R.c3, (fun _ => rfl), R.c5, R.c6, R.c7, R.c8, R.cg, R.mp, R.mf, R.mb, R.ms, R.dpf, R.dpb, R.dfb, R.z9_3, R.z9_6, R.z9_8, R.z7_3, R.z7_6⟩⟩
    · have hrd := ready_at rfl hr
      clear hr
      simp [Region.binds] at hrd
      have h4 : b 4 = true := by simp [hrd]
      have e4 := R.c4 h4
      clear hrd
      refine wpOp_step rfl (fun K hK => ?_)
      go_simp
      refine hK _ _ ?_
      exact ⟨upd b 5 true, (upd (upd u 12 (.slice ao n cap)) 13 (.int .i64 (n : Int))), gp, gf, bh, rfl, rfl, ⟨R.c0, R.c1, R.c2, R.c3, (fun _ => rfl), (fun _ => rfl), R.c6, R.c7, R.c8, R.cg, R.mp, R.mf, R.mb, R.ms, R.dpf, R.dpb, R.dfb, R.z9_3, R.z9_6, R.z9_8, R.z7_3, R.z7_6⟩⟩
    · have hrd := ready_at rfl hr
      clear hr
      simp [Region.binds] at hrd
      have h5 : b 5 = true := by simp [hrd]
      have e5 := R.c5 h5
      have hb6 : b 6 = false := by simp [hrd]
      clear hrd
      obtain ⟨w4, hrun, hown4, hg4⟩ := run_make_full (P := Try.prog) w' w'.heap.size 22 3 i0 (.int .i64 0) 1 Try.underlying22 hii hz0 hz1 .i64 .i64 n (by rw [hz2]; omega) (by unfold maxLen; omega) (Nat.le_refl _)
      have hk3 : Chg [] w' w4 := (Chg.refl [] w').grown hg4 (by simp)
      have hlt4 : w'.heap.size < w4.heap.size := (hown4.lt w'.heap.size rfl).2
      rw [Nat.mul_one, show (Value.int IntKind.i64 0).cells = #[Value.int .i64 0] from rfl, cells_zeroi] at hown4
      have hbi := blkI_of_own hown4 rfl
      clear hown4 hg4
      refine wpOp_step rfl (fun K hK => ?_)
      go_simp
      refine hK _ _ ?_
      exact ⟨upd b 6 true, (upd (upd u 13 (.int .i64 (n : Int))) 14 (.slice (some ⟨w'.heap.size, 0, none⟩) n n)), gp, w'.heap.size, bh, rfl, rfl, ⟨R.c0, R.c1, R.c2, R.c3, R.c4, (fun _ => rfl), (fun _ => rfl), (fun h => absurd (R.z7_6 h) (by rw [hb6]; decide)), R.c8, (R.cg.trans hk3 (by simp)), (fun h => ⟨(R.mp h).1.chg hk3 (by simp), (R.mp h).2.1, Nat.lt_of_lt_of_le (R.mp h).2.2 hk3.size⟩), (fun _ => ⟨hbi, R.cg.size, hlt4⟩), (fun h => ⟨(R.mb h).1, Nat.lt_of_lt_of_le (R.mb h).2.1 hk3.size, fun h9 => hk3.heap ((R.mb h).2.2 h9) (by simp)⟩), (fun h => absurd (R.z9_6 h) (by rw [hb6]; decide)), (fun h _ => by have := (R.mp h).2.2; omega), R.dpb, (fun _ h => by have := (R.mb h).2.1; omega), R.z9_3, (fun _ => rfl), R.z9_8, R.z7_3, (fun _ => rfl)⟩⟩
    · have hrd := ready_at rfl hr
      clear hr
      simp [Region.binds] at hrd
      have h0 : b 0 = true := by simp [hrd]
      have e0 := R.c0 h0
      have h3 : b 3 = true := by simp [hrd]
      have e3 := R.c3 h3
      have h6 : b 6 = true := by simp [hrd]
      have e6 := R.c6 h6
      clear hrd
      refine wpOp_step rfl (fun K hK => ?_)
      go_simp
      refine hK _ _ ?_
      exact ⟨upd b 7 true, (upd (upd (upd (upd u 8 (.slice ao n cap)) 11 (.slice (some ⟨gp, 0, none⟩) n n)) 14 (.slice (some ⟨gf, 0, none⟩) n n)) 15 (.agg #[.slice ao n cap, .slice (some ⟨gp, 0, none⟩) n n, .slice (some ⟨gf, 0, none⟩) n n, .slice none 0 0])), gp, gf, bh, rfl, rfl, ⟨(fun _ => rfl), R.c1, R.c2, (fun _ => rfl), R.c4, R.c5, (fun _ => rfl), (fun _ => rfl), R.c8, R.cg, R.mp, R.mf, R.mb, R.ms, R.dpf, R.dpb, R.dfb, R.z9_3, R.z9_6, R.z9_8, (fun _ => h3), (fun _ => h6)⟩⟩
    · have hrd := ready_at rfl hr
      clear hr
      simp [Region.binds] at hrd
      have hb8 : b 8 = false := by simp [hrd]
      clear hrd
      have hk3 : Chg [] w' (w'.alloc (.cells #[.slice none 0 0, .slice none 0 0, .slice none 0 0, .slice none 0 0] 129)) := (Chg.refl [] w').alloc _
      refine wpOp_step rfl (fun K hK => ?_)
      go_simp
      refine hK _ _ ?_
      exact ⟨upd b 8 true, (upd u 3 (.pointer (some ⟨w'.heap.size, 0, none⟩))), gp, gf, w'.heap.size, rfl, rfl, ⟨R.c0, R.c1, R.c2, R.c3, R.c4, R.c5, R.c6, R.c7, (fun _ => rfl), (R.cg.trans hk3 (by simp)), (fun h => ⟨(R.mp h).1.chg hk3 (by simp), (R.mp h).2.1, Nat.lt_of_lt_of_le (R.mp h).2.2 hk3.size⟩), (fun h => ⟨(R.mf h).1.chg hk3 (by simp), (R.mf h).2.1, Nat.lt_of_lt_of_le (R.mf h).2.2 hk3.size⟩), (fun _ => ⟨R.cg.size, by simp, fun _ => hl_new rfl⟩), (fun h => absurd (R.z9_8 h) (by rw [hb8]; decide)), R.dpf, (fun h _ => by have := (R.mp h).2.2; omega), (fun h _ => by have := (R.mf h).2.2; omega), R.z9_3, R.z9_6, (fun _ => rfl), R.z7_3, R.z7_6⟩⟩
    · have hrd := ready_at rfl hr
      clear hr
      simp [Region.binds] at hrd
      have h7 : b 7 = true := by simp [hrd]
      have e7 := R.c7 h7
      have h8 : b 8 = true := by simp [hrd]
      have e8 := R.c8 h8
      have hb9 : b 9 = false := by simp [hrd]
      clear hrd
      have hx4 := (R.mb h8).2.2 hb9
      have hfz0 : w'.frozen? ⟨bh, 0, none⟩ = false := by simp [World.frozen?, hx4]
      have hfz1 : w'.frozen? ⟨bh, 1, none⟩ = false := by simp [World.frozen?, hx4]
      have hfz2 : w'.frozen? ⟨bh, 2, none⟩ = false := by simp [World.frozen?, hx4]
      have hfz3 : w'.frozen? ⟨bh, 3, none⟩ = false := by simp [World.frozen?, hx4]
      have hld0 : w'.cell? ⟨bh, 0, none⟩ = some (.slice none 0 0) := by simp [World.cell?, hx4]
      have hld1 : w'.cell? ⟨bh, 1, none⟩ = some (.slice none 0 0) := by simp [World.cell?, hx4]
      have hld2 : w'.cell? ⟨bh, 2, none⟩ = some (.slice none 0 0) := by simp [World.cell?, hx4]
      have hld3 : w'.cell? ⟨bh, 3, none⟩ = some (.slice none 0 0) := by simp [World.cell?, hx4]
      refine wpOp_step rfl (fun K hK => ?_)
      go_simp
      refine hK _ _ ?_
      exact ⟨upd b 9 true, (upd (upd u 15 (.agg #[.slice ao n cap, .slice (some ⟨gp, 0, none⟩) n n, .slice (some ⟨gf, 0, none⟩) n n, .slice none 0 0])) 3 (.pointer (some ⟨bh, 0, none⟩))), gp, gf, bh, rfl, rfl, ⟨R.c0, R.c1, R.c2, R.c3, R.c4, R.c5, R.c6, (fun _ => rfl), (fun _ => rfl), ((((R.cg.setCell (p := ⟨bh, 0, none⟩) (.inr (R.mb h8).1) _).setCell (p := ⟨bh, 1, none⟩) (.inr (R.mb h8).1) _).setCell (p := ⟨bh, 2, none⟩) (.inr (R.mb h8).1) _).setCell (p := ⟨bh, 3, none⟩) (.inr (R.mb h8).1) _), (fun h => ⟨(R.mp h).1.chg (((((Chg.refl [bh] w').setCell (p := ⟨bh, 0, none⟩) (.inl (by simp)) _).setCell (p := ⟨bh, 1, none⟩) (.inl (by simp)) _).setCell (p := ⟨bh, 2, none⟩) (.inl (by simp)) _).setCell (p := ⟨bh, 3, none⟩) (.inl (by simp)) _) (by simpa using R.dpb h h8), (R.mp h).2.1, by simpa using (R.mp h).2.2⟩), (fun h => ⟨(R.mf h).1.chg (((((Chg.refl [bh] w').setCell (p := ⟨bh, 0, none⟩) (.inl (by simp)) _).setCell (p := ⟨bh, 1, none⟩) (.inl (by simp)) _).setCell (p := ⟨bh, 2, none⟩) (.inl (by simp)) _).setCell (p := ⟨bh, 3, none⟩) (.inl (by simp)) _) (by simpa using R.dfb h h8), (R.mf h).2.1, by simpa using (R.mf h).2.2⟩), (fun h => ⟨(R.mb h).1, by simpa using (R.mb h).2.1, fun h => by cases h⟩), (fun _ => by rw [heap_set (heap_set (heap_set (heap_set hx4 _) _) _) _]; rfl), R.dpf, R.dpb, R.dfb, (fun _ => R.z7_3 h7), (fun _ => R.z7_6 h7), (fun _ => h8), R.z7_3, R.z7_6⟩⟩
  obtain ⟨b, u, gp, gf, bh, rfl, rfl, R⟩ := hI
  have hall := ready_all2 hr rfl (by kernel_rfl)
  have h3 : b 3 = true := Option.some.inj (hall 3 (by decide))
  have e3 := R.c3 h3
  have h6 : b 6 = true := Option.some.inj (hall 6 (by decide))
  have e6 := R.c6 h6
  have h8 : b 8 = true := Option.some.inj (hall 8 (by decide))
  have e8 := R.c8 h8
  have h9 : b 9 = true := Option.some.inj (hall 9 (by decide))
  have MP := Lib.hid (R.mp h3)
  have MF := Lib.hid (R.mf h6)
  have MB := Lib.hid ((R.mb h8).1)
  have MS := Lib.hid (R.ms h9)
  have DD := Lib.hid (show gp ≠ gf ∧ gp ≠ bh ∧ gf ≠ bh from ⟨R.dpf h3 h6, R.dpb h3 h8, R.dfb h6 h8⟩)
  have ML := Lib.hid ((R.mb h8).2.1)
  have HCG := Lib.hid R.cg
  unfold FRSH1
  rw [e3, e6, e8]
  clear e3 e6 e8
  clear R hr hall h3 h6 h8 h9
  rw [show base 2 = .pointer (some ⟨w.heap.size, 0, none⟩) from HBS.out 2]
  clear HBS
  obtain ⟨wa, hwa⟩ : ∃ z, z = w' := ⟨_, rfl⟩
  rw [← hwa] at HCG MP MF MS ML ⊢
  have HRB := Lib.hid (show wa.heap[w.heap.size]? = some (.cells #[.slice none 0 0, .slice none 0 0, .slice none 0 0, .slice none 0 0] 129 (0, 0)) from HCG.out.heap (by rw [← HWR.out]; exact heap_alloc_new w _) (by simp))
  have hsz : wr.heap.size = w.heap.size + 1 := by rw [← HWR.out]; simp
  have hgp := MP.out.2
  have hgf := MF.out.2
  have hbh := MB.out
  have hbl := ML.out
  obtain ⟨d1, d2, d3⟩ := DD.out
  clear hwa
  obtain ⟨br, hbr⟩ : ∃ z, z = w.heap.size := ⟨_, rfl⟩
  rw [← hbr] at HRB hsz ⊢
  go_wp2_with (at_make; refine wpList_make_full _ rfl _ _ 22 rfl wa.heap.size 3 i0 (.int .i64 0) 1 Try.underlying22 hii hz0 hz1 .i64 .i64 _ _ n rfl rfl rfl rfl ?c1 ?c2 (Nat.le_refl _) ?_)
  case c1 => rw [hz2]; omega
  case c2 => unfold maxLen; omega
  intro wb hown2 hg2
  have hlt2 : wa.heap.size < wb.heap.size := (hown2.lt wa.heap.size rfl).2
  rw [cells_zeroi] at hown2
  have HH2 := Lib.hid (blkI_of_own hown2 rfl)
  have HC2 := Lib.hid ((Chg.refl [] wa).grown hg2 (by simp))
  clear hown2 hg2
  obtain ⟨gh, hgh⟩ : ∃ g, g = wa.heap.size := ⟨_, rfl⟩
  rw [← hgh] at HH2 ⊢
  go_wp2_with (at_make; refine wpList_make_full _ rfl _ _ 127 rfl wb.heap.size 9 i1 (.string ByteArray.empty) 1 Try.underlying127 hi1 hy0 hy1 .i64 .i64 _ _ n rfl rfl rfl rfl ?c1 ?c2 (Nat.le_refl _) ?_)
  case c1 => rw [hy2]; omega
  case c2 => unfold maxLen; omega
  intro wc hown3 hg3
  have hlt3 : wb.heap.size < wc.heap.size := (hown3.lt wb.heap.size rfl).2
  have HS3 := Lib.hid (show BlkS wc wb.heap.size (List.replicate n []) from by
    have h := blk_of_own2 hown3 rfl
    unfold BlkS
    rw [h]
    have e : (madeCells #[Value.string ByteArray.empty] n).toList = (List.replicate n []).map strV := by rw [toList_madeCells_one]; simp [strV, str]; exact .inr rfl
    rw [← e])
  have HC3 := Lib.hid ((Chg.refl [] wb).grown hg3 (by simp))
  clear hown3 hg3
  obtain ⟨gw, hgw⟩ : ∃ g, g = wb.heap.size := ⟨_, rfl⟩
  rw [← hgw] at HS3 ⊢
  go_wp2_with fail
  (with_reducible refine (parents_any _ l wc (HS.out.keep ((((HCW.out.trans HCG.out (by simp)).trans HC2.out (by simp)).trans HC3.out (by simp)))) (by rw [← HN.out]; omega) HW.out).mono ?_)
  rw [← HN.out]
  rintro e wd ⟨rfl, hb3, hk3⟩
  have HQ4 := Lib.hid hb3; have HC4 := Lib.hid hk3
  have hlt4 : wc.heap.size < wd.heap.size := hb3.lt
  clear hb3 hk3
  obtain ⟨gq, hgq⟩ : ∃ g, g = wc.heap.size := ⟨_, rfl⟩
  rw [← hgq] at HQ4 ⊢
  obtain ⟨B, hB⟩ : ∃ z, z = wd.heap.size := ⟨_, rfl⟩
  have hCa := HCG.out.size
  have HSHM := Lib.hid (show SHM w wd (.slice ao n cap) bh gp gf gh gw gq B n (parents l) (List.replicate n 0) (List.replicate n 0) (List.replicate n 0) (List.replicate n []) (.slice none 0 0) [] from by
    have k2 := HC2.out; have k3 := HC3.out; have k4 := HC4.out
    have k24 : Chg [] wa wd := (k2.trans k3 (by simp)).trans k4 (by simp)
    refine ⟨(HCW.out.trans HCG.out (by simp)).trans k24 (by simp), k24.heap MS.out (by simp), MP.out.1.chg k24 (by simp), MF.out.1.chg k24 (by simp), (HH2.out.chg k3 (by simp)).chg k4 (by simp), HQ4.out, HS3.out.chg k4 (by simp), World.ownsRow_nil _ _ _ _, ?_, ?_, ?_, ?_⟩
    · exact ⟨by omega, by omega, by omega, by omega, by omega, by omega⟩
    · exact ⟨by omega, by omega, by omega, by omega, by omega, by omega⟩
    · exact ⟨d1, by omega, by omega, by omega, by omega, by omega, fun e => d2 e.symm, fun e => d3 e.symm, by omega, by omega, by omega, by omega, by omega, by omega, by omega⟩
    · omega)
  have HRB4 := Lib.hid (((HC2.out.trans HC3.out (by simp)).trans HC4.out (by simp)).heap HRB.out (by simp))
  have HLTB := Lib.hid (show br < bh ∧ br < gp ∧ br < gf ∧ br < gh ∧ br < gw ∧ br < B ∧ w.heap.size ≤ br ∧ w.heap.size ≤ B from ⟨by omega, by omega, by omega, by omega, by omega, by omega, by omega, by omega⟩)
  have HPL := Lib.hid (parents_length l)
  have HGH := Lib.hid hgh; have HGW := Lib.hid hgw; have HBR := Lib.hid hbr
  clear hsz hgp hgf hbh hbl d1 d2 d3 hbr hlt2 hlt3 hlt4 hgh hgw hgq hB hCa HRB MP MF MS ML MB DD
  go_wp2
  simp only [← HGH.out, ← HGW.out, ← HBR.out]
  go_loopw [25] (fun x wx => ∃ (i : Nat) (P Fi H : List Int) (S : List (List Nat)) (wv : Value) (Y : List (List Nat)), x = .int .i64 (i : Int) ∧ i ≤ n ∧ SHM w wx (.slice ao n cap) bh gp gf gh gw gq B n (parents l) P Fi H S wv Y ∧ wx.heap[br]? = some (.cells #[.slice none 0 0, .slice none 0 0, .slice none 0 0, .slice none 0 0] 129 (0, 0)) ∧ Hid (SHP l n i P Fi H S Y)) (fun x _ => n - (intOf x).toNat)
  case atStart => exact ⟨0, _, _, _, _, _, _, rfl, Nat.zero_le _, HSHM.out, HRB4.out, Lib.hid ⟨by simp, by simp, by simp, by simp, fun j hj => by rw [List.getElem?_replicate, if_pos hj]; simp, fun j hj => by omega, fun g hg => by rw [List.getElem?_replicate, if_pos hg]; simp [kidsU_zero], fun j hj => by rw [List.getElem?_replicate, if_pos hj]; simp, rfl⟩⟩
  case round =>
    obtain ⟨i, P, Fi, H, S, wv, Y, rfl, hin, hM, hrb, HPU⟩ := hrel
    have HMM := Lib.hid hM; have HRBX := Lib.hid hrb
    clear hM hrb
    have hiw : IntKind.i64.wrap ((i : Int) + 1) = (i : Int) + 1 := IntWalk.i64_in _ (by omega)
    by_cases hlt : i < n
    · have d0 : decide ((i : Int) < (n : Int)) = true := by simp; omega
      obtain ⟨gs, off, rfl, hcs⟩ := SeenF.get HS.out (by omega) HN.out.symm
      obtain ⟨-, -, x3', -⟩ := hcs i hlt
      have x3 := HMM.out.c.cell x3' (by simp)
      obtain ⟨kk, hkk⟩ : ∃ r, r = (l.getD i default).k := ⟨_, rfl⟩
      rw [← hkk] at x3
      have HX3 := Lib.hid x3; have HKK := Lib.hid hkk
      have HGS := Lib.hid (show gs < w.heap.size from World.block_lt_of_cell? w _ x3')
      clear hcs x3' x3 hkk
      obtain ⟨ya, yc, rfl⟩ := own_shape HMM.out.o
      obtain ⟨m, hm⟩ : ∃ m, m = Y.length := ⟨_, rfl⟩
      rw [← hm] at HMM
      have HMY := Lib.hid hm
      have hmi : m ≤ i := by rw [hm, HPU.out.y, List.length_map]; exact leavesTo_le l i
      clear hm
      obtain ⟨p, hp⟩ : ∃ p, p = (parents l).getD i 0 := ⟨_, rfl⟩
      have hpi : (parents l)[i]? = some p := by rw [hp, List.getD, List.getElem?_eq_getElem (by rw [HPL.out, ← HN.out]; exact hlt)]; rfl
      have hpl := parents_lt hpi
      have y0 := HMM.out.q.cell hpi
      have HPP := Lib.hid hp
      clear hp hpi
      have b2 : wr.cell? ⟨bh, 2, none⟩ = some (.slice (some ⟨gf, 0, none⟩) n n) := by rw [cell_of_row wr bh 2 _ _ _ HMM.out.b]; rfl
      have b3 : wr.cell? ⟨bh, 3, none⟩ = some (.slice ya m yc) := by rw [cell_of_row wr bh 3 _ _ _ HMM.out.b]; rfl
      have f7 := HMM.out.f.frozen i
      obtain ⟨fv, hfv⟩ : ∃ v, Fi[i]? = some v := ⟨_, List.getElem?_eq_getElem (by rw [HPU.out.lf]; exact hlt)⟩
      have y7 := HMM.out.f.cell hfv
      go_upto_region 8 with fail
      obtain ⟨w8, hw8⟩ : ∃ z, z = wr.setCell ⟨gf, i, none⟩ (.int .i64 (m : Int)) := ⟨_, rfl⟩
      rw [← hw8]
      have HM8 := Lib.hid (show SHM w w8 (.slice (some ⟨gs, off, none⟩) n cap) bh gp gf gh gw gq B n (parents l) P (Fi.set i (m : Int)) H S (.slice ya m yc) Y from by rw [hw8]; exact HMM.out.setF i m)
      have hc8 : Chg [gf] wr w8 := by rw [hw8]; exact (Chg.refl _ _).setCell (.inl (by simp)) _
      have HRB8 := Lib.hid (hc8.heap HRBX.out (by have := HLTB.out; simp; omega))
      have HX8 := Lib.hid (hc8.cell HX3.out (by have := HGS.out; have := HMM.out.ge; simp; omega))
      clear b2 b3 f7 y7 hfv y0 hw8 hc8 HX3 HRBX HMM
      by_cases hp1 : p = -1
      · have u0 : (p == (-1 : Int)) = true := by simp [hp1]
        have HSI := Lib.hid (show S[i]? = some (sgF l i) by rw [HPU.out.s i hlt, if_neg (Nat.lt_irrefl _), sgF_at l i (by rw [← HN.out]; exact hlt), if_pos (by rw [← HPP.out]; exact hp1)])
        have HNX := Lib.hid (show ∀ Y', Y' = (leavesTo l (i + 1)).map (fun x => sgF l x.f.toNat) → SHP l n (i + 1) P (Fi.set i (m : Int)) H S Y' from fun Y' hY => by rw [HMY.out]; exact HPU.out.root HN.out hlt (by rw [← HPP.out]; exact hp1) hY)
        by_cases hk0 : kk = 0
        · have u1 : (kk == (0 : Int)) = true := by simp [hk0]
          have u3 := HX8.out
          go_wp2
          go_roundw
          case rel => exact ⟨i + 1, _, _, _, _, _, _, by go_num, by omega, HM8.out, HRB8.out, Lib.hid (HNX.out _ (by rw [leafAt_map l i Y HPU.out.y, if_neg (by rw [← HKK.out]; exact fun h => h hk0)]))⟩
          case measure => simp [intOf]; omega
        · have u1 : (kk == (0 : Int)) = false := by simp [hk0]
          have u3 := HX8.out
          have HM2 := Lib.hid (show m + 1 ≤ maxLen by unfold maxLen; omega)
          have HM3 := Lib.hid (show (m + 1) * 16 ≤ 140737488355328 by omega)
          have HSK := Lib.hid (show ∀ wx, Chg [] w8 wx → wx.cell? ⟨bh, 3, none⟩ = some (.slice ya m yc) ∧ wx.frozen? ⟨bh, 3, none⟩ = false ∧ wx.cell? ⟨gw, i, none⟩ = some (.string (str (sgF l i))) from fun wx hc => by
            have k := HM8.out.keep hc
            exact ⟨by rw [cell_of_row wx bh 3 _ _ _ k.b]; rfl, by simp [World.frozen?, k.b], k.s.cell HSI.out⟩)
          have HSG := Lib.hid (show ∀ wx wy, Chg [] w8 wx → wx.grownBy wy (Value.slice ya m yc).ownBlock → Chg (Value.slice ya m yc).ownBlock.toList wx wy from fun wx wy _ h => (Chg.refl _ _).grown h (fun q hq => .inl (by simp [← hq])))
          have HSH := Lib.hid (show ∀ wx wy, Chg [] w8 wx → Chg (Value.slice ya m yc).ownBlock.toList wx wy → wy.cell? ⟨bh, 3, none⟩ = some (.slice ya m yc) ∧ wy.frozen? ⟨bh, 3, none⟩ = false ∧ wy.cell? ⟨gw, i, none⟩ = some (.string (str (sgF l i))) from fun wx wy hc hg => by
            have k := HM8.out.keep hc
            have hn : ∀ z, z < B → z ∉ (Value.slice ya m yc).ownBlock.toList := fun z hz hm => by have := own_ge k.o z (by simpa using hm); omega
            have kb := hg.heap k.b (hn _ k.lt.1)
            exact ⟨by rw [cell_of_row wy bh 3 _ _ _ kb]; rfl, by simp [World.frozen?, kb], (k.s.chg hg (hn _ k.lt.2.2.2.2.1)).cell HSI.out⟩)
          have HOW := Lib.hid (show (w8.drew.alloc (.cells #[.string (str (sgF l i))] 9)).ownsRow B 9 1 (.slice ya m yc) m (Y.map strV) from by have h := HM8.out.o; rw [← HMY.out] at h; exact own_chg h ((Chg.refl [] w8).drew.alloc _) (by simp))
          have HBZ := Lib.hid (show B ≤ (w8.drew.alloc (.cells #[.string (str (sgF l i))] 9)).heap.size from Nat.le_trans HM8.out.bs ((Chg.refl [] w8).drew.alloc _).size)
          go_upto_region 13 with fail
          have HK0 := Lib.hid hk0
          clear u1 u3 hk0
          obtain ⟨r1, r2, r3⟩ := HSK.out _ (Chg.refl [] w8)
          obtain ⟨r4, r5, r6⟩ := HSK.out _ ((Chg.refl [] w8).alloc (.cells #[.string (str (sgF l i))] 9))
          obtain ⟨r7, r8, r9⟩ := HSK.out _ ((Chg.refl [] w8).drew.alloc (.cells #[.string (str (sgF l i))] 9))
          go_region_law (first
            | (refine step_append_cells (by rfl) (.tmp 72) (.tmp 77) 127 (by rfl) B 9 i1 (.string ByteArray.empty) 1 16 Try.underlying127 hi1 hy0 hy1 hy2 (by rfl) (by decide) (.slice ya m yc) m (Y.map strV) (by rfl) HOW.out ⟨w8.heap.size, 0, none⟩ 1 1 [strV (sgF l i)] (by rfl) (by rfl) (new_cells (C := #[.string (str (sgF l i))]) w8.heap.size rfl) (by simp [strV, Value.oneCell']) HM2.out HM3.out HBZ.out ?_; intro v3 w3 hown hgrow; obtain ⟨ao3, cap3, rfl⟩ := own_shape hown; obtain ⟨k3, k4, -⟩ := HSH.out _ _ ((Chg.refl [] w8).drew.alloc _) (HSG.out _ _ ((Chg.refl [] w8).drew.alloc _) hgrow); have HO3 := Lib.hid hown; have HG3 := Lib.hid hgrow; clear hown hgrow))
          all_goals
            go_wp2
            go_roundw
            case rel =>
              have hap := SHM.app HM8.out.drew (o := .cells #[.string (str (sgF l i))] 9) (w2 := w3) (x := sgF l i) HG3.out (by rw [← HMY.out]; exact HO3.out) (by have := HLTB.out; omega)
              have hrb2 := (HSG.out _ _ ((Chg.refl [] w8).drew.alloc _) HG3.out).heap (((Chg.refl [] w8).drew.alloc _).heap HRB8.out (by simp)) (fun hm => by have := own_ge HOW.out br (by simpa using hm); have := HLTB.out; omega)
              exact ⟨i + 1, _, _, _, _, _, _, by go_num, by omega, hap, ((Chg.refl [bh] w3).setCell (p := ⟨bh, 3, none⟩) (.inl (by simp)) _).heap hrb2 (by have := HLTB.out; simp; omega), Lib.hid (HNX.out _ (by rw [leafAt_map l i Y HPU.out.y, if_pos (by rw [← HKK.out]; exact HK0.out)]))⟩
            case measure => simp [intOf]; omega
      · have u0 : (p == (-1 : Int)) = false := by simp [hp1]
        obtain ⟨g, rfl⟩ : ∃ g : Nat, p = (g : Int) := ⟨p.toNat, by omega⟩
        have hgi : g < i := by omega
        obtain ⟨q, hq⟩ : ∃ q, q = (kidsU (parents l) i g).length := ⟨_, rfl⟩
        have hHg := HPU.out.h g (by omega)
        rw [← hq] at hHg
        have hqi : q ≤ i := by rw [hq]; exact kidsU_len _ _ _
        have HQQ := Lib.hid hq
        clear hq
        obtain ⟨pv, hpv⟩ : ∃ v, P[i]? = some v := ⟨_, List.getElem?_eq_getElem (by rw [HPU.out.lp]; exact hlt)⟩
        have c1 : w8.cell? ⟨bh, 1, none⟩ = some (.slice (some ⟨gp, 0, none⟩) n n) := by rw [cell_of_row w8 bh 1 _ _ _ HM8.out.b]; rfl
        have c2 := HM8.out.h.cell hHg
        have c3 := HM8.out.p.cell hpv
        have c4 := HM8.out.p.frozen i
        go_upto_region 9 with fail
        go_region
        go_upto_region 10 with fail
        obtain ⟨w9, hw9⟩ : ∃ z, z = (w8.setCell ⟨gp, i, none⟩ (.int .i64 (q : Int))).drew := ⟨_, rfl⟩
        rw [← hw9]
        have HM9 := Lib.hid (show SHM w w9 (.slice (some ⟨gs, off, none⟩) n cap) bh gp gf gh gw gq B n (parents l) (P.set i (q : Int)) (Fi.set i (m : Int)) H S (.slice ya m yc) Y from by rw [hw9]; exact (HM8.out.setP i q).drew)
        have hc9 : Chg [gp] w8 w9 := by rw [hw9]; exact ((Chg.refl _ _).setCell (.inl (by simp)) _).drew
        have HRB9 := Lib.hid (hc9.heap HRB8.out (by have := HLTB.out; simp; omega))
        have HX9 := Lib.hid (hc9.cell HX8.out (by have := HGS.out; have := HM8.out.ge; simp; omega))
        clear c1 c2 c3 c4 hpv hw9 hc9 HX8 HRB8 HM8
        have c2 := HM9.out.h.cell hHg
        have c4 := HM9.out.h.frozen g
        have hqw : IntKind.i64.wrap ((q : Int) + 1) = (q : Int) + 1 := IntWalk.i64_in _ (by omega)
        go_upto_region 11 with fail
        obtain ⟨w10, hw10⟩ : ∃ z, z = w9.setCell ⟨gh, g, none⟩ (.int .i64 ((q : Int) + 1)) := ⟨_, rfl⟩
        rw [← hw10]
        have HM10 := Lib.hid (show SHM w w10 (.slice (some ⟨gs, off, none⟩) n cap) bh gp gf gh gw gq B n (parents l) (P.set i (q : Int)) (Fi.set i (m : Int)) (H.set g ((q : Int) + 1)) S (.slice ya m yc) Y from by rw [hw10]; exact HM9.out.setH g _)
        have hc10 : Chg [gh] w9 w10 := by rw [hw10]; exact (Chg.refl _ _).setCell (.inl (by simp)) _
        have HRB10 := Lib.hid (hc10.heap HRB9.out (by have := HLTB.out; simp; omega))
        have HX10 := Lib.hid (hc10.cell HX9.out (by have := HGS.out; have := HM9.out.ge; simp; omega))
        clear c2 c4 hqw hw10 hc10 HX9 HRB9 HM9 hHg
        have hsg : S[g]? = some (sgF l g) := by rw [HPU.out.s g (by omega), if_pos hgi]
        have hsi : S[i]? = some [] := by rw [HPU.out.s i hlt, if_neg (Nat.lt_irrefl _)]
        have c2 := HM10.out.s.cell hsg
        have c3 := HM10.out.s.cell hsi
        have c4 := HM10.out.s.frozen i
        have hw1 : IntKind.i32.wrap (i : Int) = (i : Int) := IntWalk.i32_in _ (by omega)
        have hw2 : IntKind.i32.wrap (65 + (i : Int)) = 65 + (i : Int) := IntWalk.i32_in _ (by omega)
        have henc : Utf8.encode (65 + (i : Int)) = str [65 + i] := by have h := enc_low i (by omega); push_cast at h; exact h
        have hle : ¬ 9223372036854775807 < (str (sgF l g)).size + (str [65 + i]).size := by have := sgF_len l g (by rw [← HN.out]; omega); rw [str_size, str_size]; simp; omega
        go_upto_region 12 with fail
        obtain ⟨w11, hw11⟩ : ∃ z, z = w10.setCell ⟨gw, i, none⟩ (.string (str (sgF l g) ++ str [65 + i])) := ⟨_, rfl⟩
        rw [← hw11]
        have HM11 := Lib.hid (show SHM w w11 (.slice (some ⟨gs, off, none⟩) n cap) bh gp gf gh gw gq B n (parents l) (P.set i (q : Int)) (Fi.set i (m : Int)) (H.set g ((q : Int) + 1)) (S.set i (sgF l g ++ [65 + i])) (.slice ya m yc) Y from by rw [hw11, str_app]; exact HM10.out.setS i _)
        have hc11 : Chg [gw] w10 w11 := by rw [hw11]; exact (Chg.refl _ _).setCell (.inl (by simp)) _
        have HRB11 := Lib.hid (hc11.heap HRB10.out (by have := HLTB.out; simp; omega))
        have HX11 := Lib.hid (hc11.cell HX10.out (by have := HGS.out; have := HM10.out.ge; simp; omega))
        have HSI := Lib.hid (show (S.set i (sgF l g ++ [65 + i]))[i]? = some (sgF l i) by rw [List.getElem?_set, if_pos rfl, if_pos (by rw [HPU.out.ls]; exact hlt), sgF_at l i (by rw [← HN.out]; exact hlt), ← HPP.out, if_neg (by omega)]; rfl)
        have HNX := Lib.hid (show ∀ Y', Y' = (leavesTo l (i + 1)).map (fun x => sgF l x.f.toNat) → SHP l n (i + 1) (P.set i (q : Int)) (Fi.set i (m : Int)) (H.set g ((q : Int) + 1)) (S.set i (sgF l g ++ [65 + i])) Y' from fun Y' hY => by rw [HMY.out, HQQ.out]; exact HPU.out.kid HN.out hlt HPP.out.symm hgi hY)
        clear c2 c3 c4 hw1 hw2 henc hle hw11 hc11 HX10 HRB10 HM10 hsg hsi
        by_cases hk0 : kk = 0
        · have u1 : (kk == (0 : Int)) = true := by simp [hk0]
          have u3 := HX11.out
          go_wp2
          go_roundw
          case rel => exact ⟨i + 1, _, _, _, _, _, _, by go_num, by omega, HM11.out, HRB11.out, Lib.hid (HNX.out _ (by rw [leafAt_map l i Y HPU.out.y, if_neg (by rw [← HKK.out]; exact fun h => h hk0)]))⟩
          case measure => simp [intOf]; omega
        · have u1 : (kk == (0 : Int)) = false := by simp [hk0]
          have u3 := HX11.out
          have HM2 := Lib.hid (show m + 1 ≤ maxLen by unfold maxLen; omega)
          have HM3 := Lib.hid (show (m + 1) * 16 ≤ 140737488355328 by omega)
          have HSK := Lib.hid (show ∀ wx, Chg [] w11 wx → wx.cell? ⟨bh, 3, none⟩ = some (.slice ya m yc) ∧ wx.frozen? ⟨bh, 3, none⟩ = false ∧ wx.cell? ⟨gw, i, none⟩ = some (.string (str (sgF l i))) from fun wx hc => by
            have k := HM11.out.keep hc
            exact ⟨by rw [cell_of_row wx bh 3 _ _ _ k.b]; rfl, by simp [World.frozen?, k.b], k.s.cell HSI.out⟩)
          have HSG := Lib.hid (show ∀ wx wy, Chg [] w11 wx → wx.grownBy wy (Value.slice ya m yc).ownBlock → Chg (Value.slice ya m yc).ownBlock.toList wx wy from fun wx wy _ h => (Chg.refl _ _).grown h (fun q hq => .inl (by simp [← hq])))
          have HSH := Lib.hid (show ∀ wx wy, Chg [] w11 wx → Chg (Value.slice ya m yc).ownBlock.toList wx wy → wy.cell? ⟨bh, 3, none⟩ = some (.slice ya m yc) ∧ wy.frozen? ⟨bh, 3, none⟩ = false ∧ wy.cell? ⟨gw, i, none⟩ = some (.string (str (sgF l i))) from fun wx wy hc hg => by
            have k := HM11.out.keep hc
            have hn : ∀ z, z < B → z ∉ (Value.slice ya m yc).ownBlock.toList := fun z hz hm => by have := own_ge k.o z (by simpa using hm); omega
            have kb := hg.heap k.b (hn _ k.lt.1)
            exact ⟨by rw [cell_of_row wy bh 3 _ _ _ kb]; rfl, by simp [World.frozen?, kb], (k.s.chg hg (hn _ k.lt.2.2.2.2.1)).cell HSI.out⟩)
          have HOW := Lib.hid (show (w11.drew.alloc (.cells #[.string (str (sgF l i))] 9)).ownsRow B 9 1 (.slice ya m yc) m (Y.map strV) from by have h := HM11.out.o; rw [← HMY.out] at h; exact own_chg h ((Chg.refl [] w11).drew.alloc _) (by simp))
          have HBZ := Lib.hid (show B ≤ (w11.drew.alloc (.cells #[.string (str (sgF l i))] 9)).heap.size from Nat.le_trans HM11.out.bs ((Chg.refl [] w11).drew.alloc _).size)
          go_upto_region 13 with fail
          have HK0 := Lib.hid hk0
          clear u1 u3 hk0
          obtain ⟨r1, r2, r3⟩ := HSK.out _ (Chg.refl [] w11)
          obtain ⟨r4, r5, r6⟩ := HSK.out _ ((Chg.refl [] w11).alloc (.cells #[.string (str (sgF l i))] 9))
          obtain ⟨r7, r8, r9⟩ := HSK.out _ ((Chg.refl [] w11).drew.alloc (.cells #[.string (str (sgF l i))] 9))
          go_region_law (first
            | (refine step_append_cells (by rfl) (.tmp 72) (.tmp 77) 127 (by rfl) B 9 i1 (.string ByteArray.empty) 1 16 Try.underlying127 hi1 hy0 hy1 hy2 (by rfl) (by decide) (.slice ya m yc) m (Y.map strV) (by rfl) HOW.out ⟨w11.heap.size, 0, none⟩ 1 1 [strV (sgF l i)] (by rfl) (by rfl) (new_cells (C := #[.string (str (sgF l i))]) w11.heap.size rfl) (by simp [strV, Value.oneCell']) HM2.out HM3.out HBZ.out ?_; intro v3 w3 hown hgrow; obtain ⟨ao3, cap3, rfl⟩ := own_shape hown; obtain ⟨k3, k4, -⟩ := HSH.out _ _ ((Chg.refl [] w11).drew.alloc _) (HSG.out _ _ ((Chg.refl [] w11).drew.alloc _) hgrow); have HO3 := Lib.hid hown; have HG3 := Lib.hid hgrow; clear hown hgrow))
          all_goals
            go_wp2
            go_roundw
            case rel =>
              have hap := SHM.app HM11.out.drew (o := .cells #[.string (str (sgF l i))] 9) (w2 := w3) (x := sgF l i) HG3.out (by rw [← HMY.out]; exact HO3.out) (by have := HLTB.out; omega)
              have hrb2 := (HSG.out _ _ ((Chg.refl [] w11).drew.alloc _) HG3.out).heap (((Chg.refl [] w11).drew.alloc _).heap HRB11.out (by simp)) (fun hm => by have := own_ge HOW.out br (by simpa using hm); have := HLTB.out; omega)
              exact ⟨i + 1, _, _, _, _, _, _, by go_num, by omega, hap, ((Chg.refl [bh] w3).setCell (p := ⟨bh, 3, none⟩) (.inl (by simp)) _).heap hrb2 (by have := HLTB.out; simp; omega), Lib.hid (HNX.out _ (by rw [leafAt_map l i Y HPU.out.y, if_pos (by rw [← HKK.out]; exact HK0.out)]))⟩
            case measure => simp [intOf]; omega
    · have d0 : decide ((i : Int) < (n : Int)) = false := by simp; omega
      obtain rfl : i = n := by omega
      have c0 : wr.cell? ⟨bh, 0, none⟩ = some (.slice ao i cap) := by rw [cell_of_row wr bh 0 _ _ _ HMM.out.b]; rfl
      have c1 : wr.cell? ⟨bh, 1, none⟩ = some (.slice (some ⟨gp, 0, none⟩) i i) := by rw [cell_of_row wr bh 1 _ _ _ HMM.out.b]; rfl
      have c2 : wr.cell? ⟨bh, 2, none⟩ = some (.slice (some ⟨gf, 0, none⟩) i i) := by rw [cell_of_row wr bh 2 _ _ _ HMM.out.b]; rfl
      obtain ⟨ya, yc, rfl⟩ := own_shape HMM.out.o
      have c3 : wr.cell? ⟨bh, 3, none⟩ = some (.slice ya Y.length yc) := by rw [cell_of_row wr bh 3 _ _ _ HMM.out.b]; rfl
      have f9 : ∀ k, wr.frozen? ⟨br, k, none⟩ = false := fun k => by simp [World.frozen?, HRBX.out]
      have fz0 := f9 0; have fz1 := f9 1; have fz2 := f9 2; have fz3 := f9 3
      have b0 : wr.cell? ⟨br, 0, none⟩ = some (.slice none 0 0) := by simp [World.cell?, HRBX.out]
      have b1 : wr.cell? ⟨br, 1, none⟩ = some (.slice none 0 0) := by simp [World.cell?, HRBX.out]
      have b2 : wr.cell? ⟨br, 2, none⟩ = some (.slice none 0 0) := by simp [World.cell?, HRBX.out]
      have b3 : wr.cell? ⟨br, 3, none⟩ = some (.slice none 0 0) := by simp [World.cell?, HRBX.out]
      clear f9
      go_wp2
      have hs : ∀ X Y Z U, Chg [br] wr ((((wr.setCell ⟨br, 0, none⟩ X).setCell ⟨br, 1, none⟩ Y).setCell ⟨br, 2, none⟩ Z).setCell ⟨br, 3, none⟩ U) := fun X Y Z U => ((((Chg.refl [br] wr).setCell (p := ⟨br, 0, none⟩) (.inl (by simp)) X).setCell (p := ⟨br, 1, none⟩) (.inl (by simp)) Y).setCell (p := ⟨br, 2, none⟩) (.inl (by simp)) Z).setCell (p := ⟨br, 3, none⟩) (.inl (by simp)) U
      obtain ⟨e1, e2, e3⟩ := HPU.out.done HN.out
      rw [← HN.out] at e1 e2
      have hlb := HLTB.out
      refine ret_shape rfl rfl rfl (set4 HRBX.out _ _ _ _) ⟨_, rfl, (HMM.out.c.trans (hs _ _ _ _) (fun g hg => .inr (by simp at hg; omega))), gp, gf, _, by rw [← HN.out], ?_, ?_, HMM.out.ge.2.1, HMM.out.ge.2.2.1, HMM.out.ne.1, ?_⟩
      · rw [← e1]; exact HMM.out.p.chg (hs _ _ _ _) (by simp; omega)
      · rw [← e2]; exact HMM.out.f.chg (hs _ _ _ _) (by simp; omega)
      · rw [← e3]; exact own_mono (own_chg HMM.out.o (hs _ _ _ _) (fun g hg hm => by have := own_ge HMM.out.o g hg; simp at hm; omega)) (by omega)

end Go.Proofs.Ytfdmbpfpdijpdaa

namespace Go.Proofs.Ytfdmbpfpdijpdaa
open Go.RowKit
set_option linter.unusedVariables false
set_option linter.unusedSimpArgs false

abbrev rdF (b : Nat) : Value := .func (.func 104) #[.pointer (some ⟨b, 0, none⟩)] #[]

theorem info_fn : ∃ i z, Try.prog.info? 162 = some i ∧ i.zero = some z ∧ i.size = 1 ∧ i.bytes = 8 ∧ z.cells.size = 1 :=
  let ⟨i, h⟩ := info_parts (show (Try.prog.info? 162).map (fun i => (i.zero, i.size, i.bytes)) = some (some .nilFunc, 1, 8) by kernel_rfl)
  ⟨i, _, h.1, h.2.1, h.2.2.1, h.2.2.2, rfl⟩

theorem RowsN.keepBox {w w' : World} {v : Value} {T : List (List Nat)} {br : Nat} {C : Array Value} {T0 : TypeId} (h : RowsN .i64 w v T) (hc : Chg [br] w w') (hb : w.heap[br]? = some (.cells C T0 (0, 0))) (hC : ∀ u ∈ C.toList, u = .slice none 0 0)
    (hne : ∀ j, j < T.length → T.getD j [] ≠ []) : RowsN .i64 w' v T := by
  obtain ⟨ao, cap, e, h2, h3, h4⟩ := h
  refine ⟨ao, cap, e, h2, h3, fun hp => ?_⟩
  obtain ⟨g, off, e2, h6⟩ := h4 hp
  have hcell : ∀ (p : Addr) (x : Value), p.block = br → w.cell? p = some x → x = .slice none 0 0 := by
    intro p x h1 hx
    unfold World.cell? at hx
    rw [h1, hb] at hx
    simp only at hx
    split at hx
    · exact absurd hx (by simp)
    · exact hC _ (List.mem_of_getElem? (i := p.off) (by simpa using hx))
  refine ⟨g, off, e2, fun j hj => ?_⟩
  obtain ⟨x, hx, hs⟩ := h6 j hj
  have hnj := hne j hj
  rcases hs with ⟨rfl, hn⟩ | ⟨a, c, rfl, b1, b2, b3⟩
  · exact absurd (List.map_eq_nil_iff.1 hn) hnj
  · have hg : g ≠ br := fun e => by have := hcell _ _ e hx; simp at this
    refine ⟨_, hc.cell hx (by simpa using hg), .inr ⟨a, c, rfl, b1, b2, fun k u hu => hc.cell (b3 k u hu) ?_⟩⟩
    intro hm
    have hb9 : (a.add k).block = a.block := by unfold Addr.add; split <;> rfl
    have h9 := hcell _ _ (by simpa using hm) (b3 k u hu)
    have : ∃ n : Nat, u = .int .i64 (n : Int) := by
      have hmem := List.mem_of_getElem? hu
      simp only [nv, List.mem_map] at hmem
      obtain ⟨n, -, rfl⟩ := hmem
      exact ⟨n, rfl⟩
    obtain ⟨n, rfl⟩ := this
    simp at h9

theorem set6 {W : World} {gr : Nat} {T : TypeId} {a b c d e f : Value} (hb : W.heap[gr]? = some (.cells #[a, b, c, d, e, f] T (0, 0))) (x y z u p q : Value) : ((((((W.setCell ⟨gr, 0, none⟩ x).setCell ⟨gr, 1, none⟩ y).setCell ⟨gr, 2, none⟩ z).setCell ⟨gr, 3, none⟩ u).setCell ⟨gr, 4, none⟩ p).setCell ⟨gr, 5, none⟩ q).heap[gr]? = some (.cells #[x, y, z, u, p, q] T (0, 0)) := by
  rw [heap_set (heap_set (heap_set (heap_set (heap_set (heap_set hb x) y) z) u) p) q]
  rfl

theorem ret_mach {fn : Func} (hres : fn.results = #[.cell 4 132]) {post : Ending → World → Prop} {a : Act} {W : World} {gr : Nat} {x y z u p q : Value} (h4 : a.tmps.getD 4 undef = .pointer (some ⟨gr, 0, none⟩)) (hd : a.defers = []) (hh : W.heap[gr]? = some (.cells #[x, y, z, u, p, q] 132 (0, 0))) (hp : post (.returned (.agg #[x, y, z, u, p, q])) W) : bodyPost Try.prog fn post .ret a W :=
  bodyPost_ret (results_cell_row hres a.tmps W gr _ _ _ _ h4 hh Try.underlying132 rfl (by kernel_rfl)) hd hp

/-- How the machine stands while its readers are made. -/
structure MCJ (w0 wc w : World) (bm br B N i : Nat) (R D : Nat → List Int) (Vs : Nat → List V) (Ls : List L) (a0 a1 a2 a3 a4 cv : Value) (rb : Nat → Nat) : Prop where
  c : Chg [] w0 w
  m : w.heap[bm]? = some (.cells #[a0, a1, a2, a3, a4, cv] 132 (0, 0))
  r : w.heap[br]? = some (.cells #[.slice none 0 0, .slice none 0 0, .slice none 0 0, .slice none 0 0, .slice none 0 0, .slice none 0 0] 132 (0, 0))
  o : w.ownsRow B 162 1 cv i ((List.range i).map fun j => rdF (rb j))
  b : ∀ j, j < i → ∃ rv dv vv, w.heap[rb j]? = some (.cells #[rv, dv, vv, .int .i64 (Ls.getD j default).d] 161 (0, 0)) ∧ SeenI w0 rv (R j) ∧ SeenI w0 dv (D j) ∧ SeenV w0 vv (Vs j) ∧ B ≤ rb j ∧ rb j < w.heap.size
  u : ∀ k j, k < j → j < i → rb k < rb j
  e : Chg [bm] wc w
  lt : w0.heap.size ≤ bm ∧ bm < B ∧ br < B ∧ br ≠ bm ∧ B ≤ w.heap.size ∧ wc.heap.size ≤ B

theorem MCJ.next {w0 wc w wA w3 : World} {bm br B N i rn : Nat} {R D : Nat → List Int} {Vs : Nat → List V} {Ls : List L} {a0 a1 a2 a3 a4 cv cv' rv dv vv : Value} {rb : Nat → Nat} (h : MCJ w0 wc w bm br B N i R D Vs Ls a0 a1 a2 a3 a4 cv rb)
    (hc : Chg [] w wA) (hr : wA.heap[rn]? = some (.cells #[rv, dv, vv, .int .i64 (Ls.getD i default).d] 161 (0, 0))) (hrn : w.heap.size ≤ rn) (h1 : SeenI w0 rv (R i)) (h2 : SeenI w0 dv (D i)) (h3 : SeenV w0 vv (Vs i))
    (hg : wA.grownBy w3 cv.ownBlock) (ho : w3.ownsRow B 162 1 cv' (i + 1) ((List.range i).map (fun j => rdF (rb j)) ++ [rdF rn])) (hB : w0.heap.size ≤ B) :
    MCJ w0 wc (w3.setCell ⟨bm, 5, none⟩ cv') bm br B N (i + 1) R D Vs Ls a0 a1 a2 a3 a4 cv' (fun j => if j = i then rn else rb j) := by
  obtain ⟨t1, t2, t3, t4, t5, t6⟩ := h.lt
  have hoA := own_chg h.o hc (by simp)
  have hgw : Chg cv.ownBlock.toList wA w3 := (Chg.refl _ _).grown hg (fun q hq => .inl (by simp [← hq]))
  have hn : ∀ k, k < B → k ∉ cv.ownBlock.toList := fun k hk hm => by have := own_ge hoA k (by simpa using hm); omega
  have hs : Chg [bm] w3 (w3.setCell ⟨bm, 5, none⟩ cv') := (Chg.refl _ _).setCell (.inl (by simp)) _
  have hrd : ∀ {q : Nat} {C : Array Value}, wA.heap[q]? = some (.cells C 161 (0, 0)) → B ≤ q → (w3.setCell ⟨bm, 5, none⟩ cv').heap[q]? = some (.cells C 161 (0, 0)) := fun {q C} hq hqB =>
    hs.heap (hgw.heap hq (fun hm => (tagged_of_own hoA).ne hq (by decide) q (by simpa using hm) rfl)) (by simp; omega)
  have hsz := hc.size
  have hsz2 : wA.heap.size ≤ (w3.setCell ⟨bm, 5, none⟩ cv').heap.size := Nat.le_trans hgw.size hs.size
  have hrl : rn < wA.heap.size := Go.lt_of_block hr
  refine ⟨((h.c.trans hc (by simp)).trans hgw (fun g hg => .inr (by have := own_ge hoA g (by simpa using hg); omega))).setCell (.inr t1) _, heap_set (hgw.heap (hc.heap h.m (by simp)) (hn _ t2)) cv', hs.heap (hgw.heap (hc.heap h.r (by simp)) (hn _ t3)) (by simp; omega), ?_, fun j hj => ?_, fun k j hk hj => ?_, (((h.e.trans hc (by simp)).trans hgw (fun g hg => .inr (by have := own_ge hoA g (by simpa using hg); omega))).setCell (.inl (by simp)) _), t1, t2, t3, t4, by omega, t6⟩
  · rw [List.range_succ, List.map_append]
    have e : (List.range i).map (fun j => rdF (if j = i then rn else rb j)) = (List.range i).map fun j => rdF (rb j) := List.map_congr_left fun j hj => by rw [if_neg (by have := List.mem_range.1 hj; omega)]
    simp only [List.map_cons, List.map_nil, if_true]
    rw [e]
    exact own_chg ho hs (fun g hg hm => by have := own_ge ho g hg; simp at hm; omega)
  · by_cases e : j = i
    · subst e; exact ⟨rv, dv, vv, by rw [if_pos rfl]; exact hrd hr (by omega), h1, h2, h3, by rw [if_pos rfl]; omega, by rw [if_pos rfl]; omega⟩
    · obtain ⟨xv, yv, zv, b1, b2, b3, b4, b5, b6⟩ := h.b j (by omega)
      exact ⟨xv, yv, zv, by rw [if_neg e]; exact hrd (hc.heap b1 (by simp)) b5, b2, b3, b4, by rw [if_neg e]; exact b5, by rw [if_neg e]; omega⟩
  · by_cases e : j = i
    · subst e
      obtain ⟨xv, yv, zv, b1, b2, b3, b4, b5, b6⟩ := h.b k hk
      rw [if_neg (by omega), if_pos rfl]; omega
    · rw [if_neg (by omega), if_neg e]; exact h.u k j hk (by omega)

/-- The machine of a schema and its columns. -/
structure MO (w0 w : World) (sv : Value) (l : List F) (N : Nat) (R D : Nat → List Int) (Vs : Nat → List V) (x : Value) : Prop where
  c : Chg [] w0 w
  k : ∃ (gp gf : Nat) (wv nx cv : Value) (B : Nat) (rb : Nat → Nat), x = .agg #[sv, .slice (some ⟨gp, 0, none⟩) l.length l.length, .slice (some ⟨gf, 0, none⟩) l.length l.length, wv, nx, cv] ∧ BlkI w gp ((List.range l.length).map fun j => (plA l j : Int)) ∧ BlkI w gf ((List.range l.length).map fun j => (lno l j : Int)) ∧
    w.ownsRow w0.heap.size 9 1 wv (leavesL l).length (((leavesL l).map fun x => sgF l x.f.toNat).map strV) ∧ RowsN .i64 w nx (nextL (trs l)) ∧ w0.heap.size ≤ gp ∧ w0.heap.size ≤ gf ∧ gp ≠ gf ∧
    w0.heap.size ≤ B ∧ gp < B ∧ gf < B ∧ w.ownsRow B 162 1 cv N ((List.range N).map fun j => rdF (rb j)) ∧ (∀ k j, k < j → j < N → rb k < rb j) ∧
    ∀ j, j < N → ∃ rv dv vv, w.heap[rb j]? = some (.cells #[rv, dv, vv, .int .i64 ((leavesL l).getD j default).d] 161 (0, 0)) ∧ SeenI w0 rv (R j) ∧ SeenI w0 dv (D j) ∧ SeenV w0 vv (Vs j) ∧ B ≤ rb j ∧ rb j < w.heap.size

set_option maxRecDepth 100000 in
set_option maxHeartbeats 8000000 in
theorem machineOf_any (sv : Value) (l : List F) (g N cap : Nat) (R D : Nat → List Int) (Vs : Nat → List V) (w : World) (hS : SeenF w sv l) (hch : chk l = 0) (hw : ∀ f ∈ l, f.c ≤ 9223372036854775807) (hnm : ∀ f ∈ l, f.n.size ≤ 1000000)
    (hB : ColsS w g N R D Vs) (hN : N = (leavesL l).length) :
    Calls Try.prog 79 #[sv, .slice (some ⟨g, 0, none⟩) N cap] w fun e w' => ∃ x, e = .returned x ∧ MO w w' sv l N R D Vs x := by
  have hmf : ∀ (fn : Fn) (first cap : Array Value) (w : World), (Instr.makeFunc fn first cap).run Try.prog w = .ok (.func fn first cap) w := fun _ _ _ _ => rfl
  obtain ⟨i0, z0, hi, hz0, hz1, hz2, hz3⟩ := info_fn
  obtain ⟨ao, sc, rfl, -, -⟩ := hS.shape
  have hcl := chk_len hch
  have HS := Lib.hid hS; have HW := Lib.hid hw; have HNM := Lib.hid hnm; have HCH := Lib.hid hch; have HB := Lib.hid hB; have HN := Lib.hid hN
  clear hS hw hnm hch hB hN
  go_enter Try.func79, Try.ntmps79
  go_wp2_with fail
  obtain ⟨wr, hwr⟩ : ∃ z, z = w.alloc (.cells #[.slice none 0 0, .slice none 0 0, .slice none 0 0, .slice none 0 0, .slice none 0 0, .slice none 0 0] 132) := ⟨_, rfl⟩
  rw [← hwr]
  have HCW := Lib.hid (show Chg [] w wr by rw [hwr]; exact (Chg.refl [] w).alloc _)
  have HRB := Lib.hid (show wr.heap[w.heap.size]? = some (.cells #[.slice none 0 0, .slice none 0 0, .slice none 0 0, .slice none 0 0, .slice none 0 0, .slice none 0 0] 132 (0, 0)) by rw [hwr]; exact heap_alloc_new w _)
  have hrs : wr.heap.size = w.heap.size + 1 := by rw [hwr]; simp
  clear hwr
  obtain ⟨br, hbr⟩ : ∃ z, z = w.heap.size := ⟨_, rfl⟩
  rw [← hbr] at HRB hrs
  (with_reducible refine (shapeOf_any _ l wr (HS.out.keep HCW.out) hcl.1 (by omega) HW.out).mono ?_)
  rintro e wa ⟨x, rfl, hca, gp, gf, wv, rfl, hp, hf, hpg, hfg, hpf, hwo⟩
  obtain ⟨ya, yc, rfl⟩ := own_shape hwo
  have hwo : wa.ownsRow wr.heap.size 9 1 (.slice ya (leavesL l).length yc) (leavesL l).length (((leavesL l).map fun x => sgF l x.f.toNat).map strV) := by simpa using hwo
  simp only [List.length_map]
  have HCA := Lib.hid hca; have HP := Lib.hid hp; have HF := Lib.hid hf; have HWO := Lib.hid hwo
  clear hca hp hf hwo
  go_wp2_with fail
  (with_reducible refine (next_any _ l wa (HS.out.keep (HCW.out.trans HCA.out (by simp))) HCH.out HW.out HNM.out).mono ?_)
  rintro e wb ⟨nv', rfl, hrn, hcb⟩
  have HRN := Lib.hid hrn
  obtain ⟨na, ncap, rfl, -, -, -⟩ := hrn
  have HCB := Lib.hid hcb
  clear hcb
  go_wp2_with fail
  obtain ⟨bm, hbm⟩ : ∃ z, z = wb.heap.size := ⟨_, rfl⟩
  obtain ⟨wc0, hwc0⟩ : ∃ z, z = wb.alloc (.cells #[.slice ao l.length sc, .slice (some ⟨gp, 0, none⟩) l.length l.length, .slice (some ⟨gf, 0, none⟩) l.length l.length, .slice ya (leavesL l).length yc, .slice na (nextL (trs l)).length ncap, .slice none 0 0] 132) := ⟨_, rfl⟩
  rw [← hwc0]
  have HC0 := Lib.hid (show Chg [] wb wc0 by rw [hwc0]; exact (Chg.refl [] wb).alloc _)
  have HM0 := Lib.hid (show wc0.heap[bm]? = some (.cells #[.slice ao l.length sc, .slice (some ⟨gp, 0, none⟩) l.length l.length, .slice (some ⟨gf, 0, none⟩) l.length l.length, .slice ya (leavesL l).length yc, .slice na (nextL (trs l)).length ncap, .slice none 0 0] 132 (0, 0)) by rw [hwc0, hbm]; exact heap_alloc_new wb _)
  have hms : wc0.heap.size = bm + 1 := by rw [hwc0, hbm]; simp
  clear hwc0
  (with_reducible refine (leaves_any _ l wc0 (HS.out.keep (((HCW.out.trans HCA.out (by simp)).trans HCB.out (by simp)).trans HC0.out (by simp))) (by omega) HW.out).mono ?_)
  rintro e wd ⟨lv, rfl, hsl, hkd⟩
  have HSL := Lib.hid hsl; have HKD := Lib.hid hkd
  obtain ⟨lao, lcap, rfl, hl1, hl2⟩ := hsl.shape
  have hsa := HCA.out.size; have hsb := HCB.out.size; have hsd := hkd.size
  clear hsl hkd
  obtain ⟨B, hBE⟩ : ∃ z, z = wd.heap.size := ⟨_, rfl⟩
  rw [← HN.out] at hl1 ⊢
  have hgpl : gp < wa.heap.size := HP.out.lt
  have hgfl : gf < wa.heap.size := HF.out.lt
  have hN40 : N ≤ 40 := by rw [HN.out]; have h := leavesTo_le l l.length; unfold leavesL; omega
  have HCALL := Lib.hid (show Chg [] w wd from ((((HCW.out.trans HCA.out (by simp)).trans HCB.out (by simp)).trans HC0.out (by simp)).trans HKD.out (by simp)))
  have HMC := Lib.hid (show MCJ w wd wd bm br B N 0 R D Vs (leavesL l) (.slice ao l.length sc) (.slice (some ⟨gp, 0, none⟩) l.length l.length) (.slice (some ⟨gf, 0, none⟩) l.length l.length) (.slice ya (leavesL l).length yc) (.slice na (nextL (trs l)).length ncap) (.slice none 0 0) (fun _ => 0) from
    ⟨HCALL.out, HKD.out.heap HM0.out (by simp), (((HCA.out.trans HCB.out (by simp)).trans HC0.out (by simp)).trans HKD.out (by simp)).heap HRB.out (by simp), World.ownsRow_nil _ _ _ _, fun j hj => by omega, fun k j _ hj => by omega, Chg.refl _ _, by omega, by omega, by omega, by omega, by omega, by omega⟩)
  have HLT := Lib.hid (show w.heap.size ≤ br ∧ w.heap.size ≤ bm ∧ gp < bm ∧ gf < bm ∧ br < bm ∧ bm < B ∧ w.heap.size ≤ B ∧ br < gp ∧ br < gf ∧ wr.heap.size = br + 1 ∧ wa.heap.size ≤ bm ∧ wb.heap.size ≤ bm from ⟨by omega, by omega, by omega, by omega, by omega, by omega, by omega, by omega, by omega, by omega, by omega, by omega⟩)
  have HBM := Lib.hid hbm; have HBR := Lib.hid hbr; have HBE := Lib.hid hBE
  clear hbm hbr hrs hms hsa hsb hsd hgpl hgfl hBE
  go_wp2
  simp only [← HBM.out, ← HBR.out]
  go_loopw [17] (fun x wx => ∃ (i : Nat) (cv : Value) (rb : Nat → Nat), x = .int .i64 (i : Int) ∧ i ≤ N ∧ MCJ w wd wx bm br B N i R D Vs (leavesL l) (.slice ao l.length sc) (.slice (some ⟨gp, 0, none⟩) l.length l.length) (.slice (some ⟨gf, 0, none⟩) l.length l.length) (.slice ya (leavesL l).length yc) (.slice na (nextL (trs l)).length ncap) cv rb) (fun x _ => N - (intOf x).toNat)
  case atStart => exact ⟨0, _, _, rfl, Nat.zero_le _, HMC.out⟩
  case round =>
    obtain ⟨i, cv, rb, rfl, hin, hM⟩ := hrel
    have HMM := Lib.hid hM
    clear hM
    have hiw : IntKind.i64.wrap ((i : Int) + 1) = (i : Int) + 1 := IntWalk.i64_in _ (by omega)
    by_cases hlt : i < N
    · have d0 : decide ((i : Int) < (N : Int)) = true := by simp; omega
      obtain ⟨rv, dv, vv, q0, q1, q2, hr1, hd1, hv1⟩ := HB.out.at' i hlt
      obtain ⟨ro, rc, rfl, -, -⟩ := hr1.shape
      obtain ⟨dO, dc, rfl, -, -⟩ := hd1.shape
      obtain ⟨vO, vc, rfl, -, -⟩ := hv1.shape
      have HR1 := Lib.hid hr1; have HD1 := Lib.hid hd1; have HV1 := Lib.hid hv1
      have q0 := HMM.out.c.cell q0 (by simp); have q1 := HMM.out.c.cell q1 (by simp); have q2 := HMM.out.c.cell q2 (by simp)
      have hxi : (leavesL l)[i]? = some ((leavesL l).getD i default) := by rw [List.getD, List.getElem?_eq_getElem (by rw [← HN.out]; exact hlt)]; rfl
      obtain ⟨gl, lof, rfl, hls⟩ := HSL.out.at (by rw [← HN.out]; omega)
      obtain ⟨y0, y1, y2, y3⟩ := SeenL.cells hls hxi
      obtain ⟨x, hx⟩ : ∃ x, x = (leavesL l).getD i default := ⟨_, rfl⟩
      rw [← hx] at y0 y1 y2 y3
      have HX := Lib.hid hx
      have hglB : gl < B := by rw [HBE.out]; exact World.block_lt_of_cell? wd _ y0
      have hglm : gl ≠ bm := by
        intro e
        subst e
        rw [cell_of_row _ _ _ _ _ _ HMC.out.m] at y0
        have hm := List.mem_of_getElem? (by simpa using y0)
        simp at hm
      have y0 := HMM.out.e.cell y0 (by simpa using hglm); have y1 := HMM.out.e.cell y1 (by simpa using hglm); have y2 := HMM.out.e.cell y2 (by simpa using hglm); have y3 := HMM.out.e.cell y3 (by simpa using hglm)
      clear hr1 hd1 hv1 hxi hls hx hglB hglm
      go_upto_region 5 with fail
      obtain ⟨bl, hbl⟩ : ∃ z, z = wr.heap.size := ⟨_, rfl⟩
      obtain ⟨w5, hw5⟩ : ∃ z, z = wr.alloc (.cells #[.int .i64 x.f, .int .i64 x.r, .int .i64 x.d, .int .i64 x.k] 52) := ⟨_, rfl⟩
      rw [← hw5]
      have hc5 : Chg [] wr w5 := by rw [hw5]; exact (Chg.refl [] wr).alloc _
      have q0 := hc5.cell q0 (by simp); have q1 := hc5.cell q1 (by simp); have q2 := hc5.cell q2 (by simp)
      have q3 : w5.cell? ⟨bl, 2, none⟩ = some (.int .i64 x.d) := by rw [hw5, hbl, cell_of_row _ _ _ _ _ _ (heap_alloc_new wr _)]; rfl
      have HC5 := Lib.hid hc5
      simp only [← hbl]
      clear y0 y1 y2 y3 hw5 hc5 hbl
      go_region
      go_upto_region 6 with fail
      obtain ⟨rn, hrn⟩ : ∃ z, z = w5.heap.size := ⟨_, rfl⟩
      obtain ⟨w6, hw6⟩ : ∃ z, z = (w5.alloc (.cells #[.slice ro (R i).length rc, .slice dO (D i).length dc, .slice vO (Vs i).length vc, .int .i64 x.d] 161)).drew := ⟨_, rfl⟩
      rw [← hw6]
      simp only [← hrn]
      have HRN6 := Lib.hid (show w6.heap[rn]? = some (.cells #[.slice ro (R i).length rc, .slice dO (D i).length dc, .slice vO (Vs i).length vc, .int .i64 x.d] 161 (0, 0)) by rw [hw6, hrn]; exact heap_alloc_new w5 _)
      have HC6 := Lib.hid (show Chg [] wr w6 by rw [hw6]; exact (HC5.out.alloc _).drew)
      have HRG := Lib.hid (show wr.heap.size ≤ rn by rw [hrn]; exact HC5.out.size)
      clear q0 q1 q2 q3 hw6 hrn
      obtain ⟨ca, cc, rfl⟩ := own_shape HMM.out.o
      have HM6 := Lib.hid (HC6.out.heap HMM.out.m (by simp))
      have HO6 := Lib.hid (own_chg HMM.out.o HC6.out (by simp))
      have HBZ := Lib.hid (Nat.le_trans HMM.out.lt.2.2.2.2.1 HC6.out.size)
      have HI2 := Lib.hid (show i + 1 ≤ maxLen by unfold maxLen; omega)
      have HI3 := Lib.hid (show (i + 1) * 8 ≤ 140737488355328 by omega)
      have q5 : w6.cell? ⟨bm, 5, none⟩ = some (.slice ca i cc) := by rw [cell_of_row _ _ _ _ _ _ HM6.out]; rfl
      go_wp2_with (first
        | (at_builtin; refine wpList_append_own _ rfl (.tmp 31) (.tmp 34) 130 rfl B 162 i0 z0 1 8 Try.underlying130 hi hz0 hz1 hz2 hz3 (by decide) (.slice ca i cc) i _ rfl (HO6.out.alloc _) ⟨w6.heap.size, 0, none⟩ 1 1 [rdF rn] rfl rfl (new_cells (C := #[rdF rn]) w6.heap.size rfl) (by simp [Value.oneCell']) HI2.out HI3.out (le_alloc HBZ.out _) ?_; intro v3 w3 hown hgrow _; obtain ⟨a3, c3, rfl⟩ := own_shape hown
           have hb3 : w3.heap[bm]? = _ := Chg.heap ((Chg.refl (Value.slice ca i cc).ownBlock.toList _).grown hgrow (fun q hq => .inl (by simp [← hq]))) (((Chg.refl [] w6).alloc _).heap HM6.out (by simp)) (fun hm => by have := own_ge HO6.out bm (by simpa using hm); have := HLT.out; omega)
           have k3 : w3.cell? ⟨bm, 5, none⟩ = some (.slice ca i cc) := by rw [cell_of_row _ _ _ _ _ _ hb3]; rfl
           have k4 : w3.frozen? ⟨bm, 5, none⟩ = false := by simp [World.frozen?, hb3]
           have HO3 := Lib.hid hown; have HG3 := Lib.hid hgrow; clear hown hgrow hb3)
        | fail)
      go_roundw
      case rel =>
        have hnx := HMM.out.next (HC6.out.alloc (.cells #[rdF rn] 162)) (by rw [← HX.out]; exact ((Chg.refl [] w6).alloc _).heap HRN6.out (by simp)) HRG.out HR1.out HD1.out HV1.out HG3.out HO3.out HLT.out.2.2.2.2.2.2.1
        exact ⟨i + 1, _, _, by go_num, by omega, hnx⟩
      case measure => simp [intOf]; omega
    · have d0 : decide ((i : Int) < (N : Int)) = false := by simp; omega
      obtain rfl : i = N := by omega
      obtain ⟨ca, cc, rfl⟩ := own_shape HMM.out.o
      have c0 : wr.cell? ⟨bm, 0, none⟩ = some (.slice ao l.length sc) := by rw [cell_of_row _ _ _ _ _ _ HMM.out.m]; rfl
      have c1 : wr.cell? ⟨bm, 1, none⟩ = some (.slice (some ⟨gp, 0, none⟩) l.length l.length) := by rw [cell_of_row _ _ _ _ _ _ HMM.out.m]; rfl
      have c2 : wr.cell? ⟨bm, 2, none⟩ = some (.slice (some ⟨gf, 0, none⟩) l.length l.length) := by rw [cell_of_row _ _ _ _ _ _ HMM.out.m]; rfl
      have c3 : wr.cell? ⟨bm, 3, none⟩ = some (.slice ya (leavesL l).length yc) := by rw [cell_of_row _ _ _ _ _ _ HMM.out.m]; rfl
      have c4 : wr.cell? ⟨bm, 4, none⟩ = some (.slice na (nextL (trs l)).length ncap) := by rw [cell_of_row _ _ _ _ _ _ HMM.out.m]; rfl
      have c5 : wr.cell? ⟨bm, 5, none⟩ = some (.slice ca i cc) := by rw [cell_of_row _ _ _ _ _ _ HMM.out.m]; rfl
      have f9 : ∀ k, wr.frozen? ⟨br, k, none⟩ = false := fun k => by simp [World.frozen?, HMM.out.r]
      have fz0 := f9 0; have fz1 := f9 1; have fz2 := f9 2; have fz3 := f9 3; have fz4 := f9 4; have fz5 := f9 5
      have b0 : wr.cell? ⟨br, 0, none⟩ = some (.slice none 0 0) := by simp [World.cell?, HMM.out.r]
      have b1 : wr.cell? ⟨br, 1, none⟩ = some (.slice none 0 0) := by simp [World.cell?, HMM.out.r]
      have b2 : wr.cell? ⟨br, 2, none⟩ = some (.slice none 0 0) := by simp [World.cell?, HMM.out.r]
      have b3 : wr.cell? ⟨br, 3, none⟩ = some (.slice none 0 0) := by simp [World.cell?, HMM.out.r]
      have b4 : wr.cell? ⟨br, 4, none⟩ = some (.slice none 0 0) := by simp [World.cell?, HMM.out.r]
      have b5 : wr.cell? ⟨br, 5, none⟩ = some (.slice none 0 0) := by simp [World.cell?, HMM.out.r]
      clear f9
      go_wp2
      have hs : ∀ X Y Z U P Q, Chg [br] wr ((((((wr.setCell ⟨br, 0, none⟩ X).setCell ⟨br, 1, none⟩ Y).setCell ⟨br, 2, none⟩ Z).setCell ⟨br, 3, none⟩ U).setCell ⟨br, 4, none⟩ P).setCell ⟨br, 5, none⟩ Q) := fun X Y Z U P Q => ((((((Chg.refl [br] wr).setCell (p := ⟨br, 0, none⟩) (.inl (by simp)) X).setCell (p := ⟨br, 1, none⟩) (.inl (by simp)) Y).setCell (p := ⟨br, 2, none⟩) (.inl (by simp)) Z).setCell (p := ⟨br, 3, none⟩) (.inl (by simp)) U).setCell (p := ⟨br, 4, none⟩) (.inl (by simp)) P).setCell (p := ⟨br, 5, none⟩) (.inl (by simp)) Q
      obtain ⟨l1, l2, l3, l4, l5, l6, l7, l8, l9, l10, l11, l12⟩ := HLT.out
      have hbr : Chg [] wb wr := (HC0.out.trans HKD.out (by simp)).trans HMM.out.e (fun g hg => .inr (by simp at hg; omega))
      have har : Chg [] wa wr := HCB.out.trans hbr (by simp)
      refine ret_mach rfl rfl rfl (set6 HMM.out.r _ _ _ _ _ _) ⟨_, rfl, HMM.out.c.trans (hs _ _ _ _ _ _) (fun g hg => .inr (by simp at hg; omega)), gp, gf, _, _, _, B, rb, rfl, (HP.out.chg har (by simp)).chg (hs _ _ _ _ _ _) (by simp; omega), (HF.out.chg har (by simp)).chg (hs _ _ _ _ _ _) (by simp; omega), ?_, ?_, by omega, by omega, hpf, by omega, by omega, by omega, ?_, HMM.out.u, fun j hj => ?_⟩
      · exact own_mono (own_chg (own_chg HWO.out har (by simp)) (hs _ _ _ _ _ _) (fun g hg hm => by have := own_ge HWO.out g hg; simp at hm; omega)) (by omega)
      · exact (HRN.out.keep hbr).keepBox (hs _ _ _ _ _ _) HMM.out.r (by simp) (fun j hj => by rw [nextL, List.getD, List.getElem?_map, List.getElem?_range (by simpa [nextL] using hj)]; intro h; have := congrArg List.length h; simp [nxRow] at this)
      · exact own_chg HMM.out.o (hs _ _ _ _ _ _) (fun g hg hm => by have := own_ge HMM.out.o g hg; simp at hm; omega)
      · obtain ⟨xv, yv, zv, e1, e2, e3, e4, e5, e6⟩ := HMM.out.b j hj
        exact ⟨xv, yv, zv, (hs _ _ _ _ _ _).heap e1 (by simp; omega), e2, e3, e4, e5, Nat.lt_of_lt_of_le e6 (hs _ _ _ _ _ _).size⟩

end Go.Proofs.Ytfdmbpfpdijpdaa

namespace Go.Proofs.Ytfdmbpfpdijpdaa
open Go.RowKit
set_option linter.unusedVariables false
set_option linter.unusedSimpArgs false

set_option maxRecDepth 100000 in
set_option maxHeartbeats 4000000 in
theorem read0_any (sv : Value) (l : List F) (g N cap : Nat) (R D : Nat → List Int) (Vs : Nat → List V) (w : World) (hS : SeenF w sv l) (hch : chk l = 0) (hw : ∀ f ∈ l, f.c ≤ 9223372036854775807) (hnm : ∀ f ∈ l, f.n.size ≤ 1000000)
    (hB : ColsS w g N R D Vs) (hN : N = (leavesL l).length) :
    Calls Try.prog 47 #[sv, .slice (some ⟨g, 0, none⟩) N cap, .int .i64 0] w fun e w' => e = .returned (.tuple #[.slice none 0 0, .bool true]) ∧ Chg [] w w' := by
  have HM := Lib.hid (machineOf_any sv l g N cap R D Vs w hS hch hw hnm hB hN)
  obtain ⟨ao, sc, rfl, -, -⟩ := hS.shape
  clear hS hch hw hnm hB hN
  go_enter Try.func47, Try.ntmps47
  go_wp2_with fail
  (with_reducible refine HM.out.mono ?_)
  rintro e wa ⟨x, rfl, hc, gp, gf, wv, nx, cv, B, rb, rfl, h1, h2, h3, h4, -, -, -, -, -, -, h5, -, -⟩
  obtain ⟨ya, yc, rfl⟩ := own_shape h3
  obtain ⟨na, ncap, rfl, -, -⟩ := h4.shape
  obtain ⟨ca, cc, rfl⟩ := own_shape h5
  have HC := Lib.hid hc
  clear h1 h2 h3 h4 h5 hc
  go_wp2
  go_loopw [6, 15] (fun y x wx => y = .slice none 0 0 ∧ x = .int .i64 0 ∧ Chg [] w wx) (fun _ _ _ => 0)
  case atStart => exact ⟨rfl, rfl, by exact HC.out.alloc _⟩
  case round =>
    obtain ⟨rfl, rfl, hk⟩ := hrel
    have d0 : decide ((0 : Int) < 0) = false := by decide
    go_wp2
    go_ret2
    exact ⟨rfl, hk⟩

set_option maxRecDepth 100000 in
set_option maxHeartbeats 4000000 in
/-- So many records may not be. -/
theorem recs_many (sv cv : Value) (ao bo : Option Addr) (sn sc cn cc : Nat) (n : Int) (w : World) (hn : n < 0 ∨ 200 < n) :
    Calls Try.prog 19 #[.slice ao sn sc, .slice bo cn cc, .int .i64 n] w fun e w' => e = .returned (.tuple #[.slice none 0 0, .int .i64 1]) ∧ Chg [] w w' := by
  by_cases h0 : n < 0
  · have d0 : decide (n < 0) = true := by simp [h0]
    go_enter Try.func19, Try.ntmps19
    go_wp2
    go_ret2
    exact ⟨rfl, Chg.refl _ _⟩
  · have d0 : decide (n < 0) = false := by simp; omega
    have d1 : decide (200 < n) = true := by simp; omega
    go_enter Try.func19, Try.ntmps19
    go_wp2
    go_ret2
    exact ⟨rfl, Chg.refl _ _⟩

set_option maxRecDepth 100000 in
set_option maxHeartbeats 4000000 in
/-- So many columns are no schema's. -/
theorem recs_cols (sv : Value) (l : List F) (bo : Option Addr) (cn cc : Nat) (n : Nat) (w : World) (hS : SeenF w sv l) (hch : chk l = 0) (hw : ∀ f ∈ l, f.c ≤ 9223372036854775807) (hnm : ∀ f ∈ l, f.n.size ≤ 1000000) (hn : n ≤ 200) (hc : cn ≠ (leavesL l).length) :
    Calls Try.prog 19 #[sv, .slice bo cn cc, .int .i64 (n : Int)] w fun e w' => e = .returned (.tuple #[.slice none 0 0, .int .i64 1]) ∧ Chg [] w w' := by
  have hcl := chk_len hch
  have HCK := Lib.hid (check_any sv l w hS hw hnm)
  have HLV := Lib.hid (fun wx (h : Chg [] w wx) => leaves_any sv l wx (hS.keep h) (by omega) hw)
  obtain ⟨ao, sc, rfl, -, -⟩ := hS.shape
  have HCH := Lib.hid hch; have HCN := Lib.hid hc
  clear hS hw hnm hch hc
  have d0 : decide ((n : Int) < 0) = false := by simp
  have d1 : decide (200 < (n : Int)) = false := by simp; omega
  go_enter Try.func19, Try.ntmps19
  go_wp2_with fail
  (with_reducible refine HCK.out.mono ?_)
  rintro e w1 ⟨rfl, hk1⟩
  rw [HCH.out]
  have HK1 := Lib.hid hk1
  clear hk1
  go_wp2_with fail
  (with_reducible refine (HLV.out _ HK1.out).mono ?_)
  rintro e w2 ⟨v, rfl, hv, hk2⟩
  obtain ⟨va, vc, rfl, -, -⟩ := hv.shape
  obtain ⟨N, hN⟩ : ∃ N, N = (leavesL l).length := ⟨_, rfl⟩
  rw [← hN] at HCN ⊢
  have e1 : ((cn : Int) == (N : Int)) = false := by have := HCN.out; simp; omega
  clear hv hN
  go_wp2
  go_ret2
  exact ⟨rfl, HK1.out.trans hk2 (by simp)⟩

set_option maxRecDepth 100000 in
set_option maxHeartbeats 4000000 in
/-- No records are of columns that no cells stand in. -/
theorem recs_none (sv : Value) (l : List F) (g N cap : Nat) (R D : Nat → List Int) (Vs : Nat → List V) (w : World) (hS : SeenF w sv l) (hch : chk l = 0) (hw : ∀ f ∈ l, f.c ≤ 9223372036854775807) (hnm : ∀ f ∈ l, f.n.size ≤ 1000) (hr : ∀ f ∈ l, f.r = 0 ∨ f.r = 1 ∨ f.r = 2)
    (hB : RowC w g N cap R D Vs) (hN : N = (leavesL l).length) (hnb : ((List.range N).any fun j => noneB (R j) (D j) (Vs j)) = false) (hare : areB l [] N R D Vs = true) (h0 : faultT l [] = 0) :
    Calls Try.prog 19 #[sv, .slice (some ⟨g, 0, none⟩) N cap, .int .i64 0] w fun e w' => e = .returned (.tuple #[.slice none 0 0, .int .i64 0]) ∧ Chg [] w w' := by
  have hcl := chk_len hch
  have hnm6 : ∀ f ∈ l, f.n.size ≤ 1000000 := fun f hf => by have := hnm f hf; omega
  have HCK := Lib.hid (check_any sv l w hS hw hnm6)
  have HLV := Lib.hid (fun wx (h : Chg [] w wx) => leaves_any sv l wx (hS.keep h) (by omega) hw)
  have HRC := Lib.hid (show ∀ wx, Chg [] w wx → RowC wx g N cap R D Vs from fun wx h => ⟨hB.1, hB.2.1, hB.2.2.1, hB.2.2.2.keep h⟩)
  have HCF := Lib.hid (fun wx (h : Chg [] w wx) => containsC_any g N cap R D Vs wx (HRC.out wx h))
  have HRD := Lib.hid (fun wx (h : Chg [] w wx) => read0_any sv l g N cap R D Vs wx (hS.keep h) hch hw hnm6 (hB.2.2.2.keep h) hN)
  have HAR := Lib.hid (fun wx (h : Chg [] w wx) => are_any sv (.slice none 0 0) l [] 1 g N cap R D Vs wx (hS.keep h) (listAt_nil ⟨none, 0, rfl, by decide⟩) (hB.2.2.2.keep h) hcl.1 (by omega) hw hnm hr h0 (by simp) (fun W _ => ⟨fun t ht => absurd ht (by simp), fun x hx => absurd hx (by simp [colC])⟩) (fun W _ => by show (0 : Nat) ≤ 4000; omega))
  obtain ⟨ao, sc, rfl, -, -⟩ := hS.shape
  have HCH := Lib.hid hch; have HNN := Lib.hid hN; have HNB := Lib.hid hnb; have HAB := Lib.hid hare
  clear hS hw hnm hch hr hB hN hnb hare h0 hnm6
  have d0 : decide ((0 : Int) < 0) = false := by decide
  have d1 : decide (200 < (0 : Int)) = false := by decide
  go_enter Try.func19, Try.ntmps19
  go_wp2_with fail
  (with_reducible refine HCK.out.mono ?_)
  rintro e w1 ⟨rfl, hk1⟩
  rw [HCH.out]
  have HK1 := Lib.hid hk1
  clear hk1
  go_wp2_with fail
  (with_reducible refine (HLV.out _ HK1.out).mono ?_)
  rintro e w2 ⟨v, rfl, hv, hk2⟩
  obtain ⟨va, vc, rfl, -, -⟩ := hv.shape
  rw [← HNN.out]
  have e1 : ((N : Int) == (N : Int)) = true := by simp
  have HK2 := Lib.hid (HK1.out.trans hk2 (by simp))
  clear hv hk2
  go_wp2_with fail
  (with_reducible refine (HCF.out _ HK2.out).mono ?_)
  rintro e w3 ⟨rfl, hk3⟩
  rw [HNB.out]
  have HK3 := Lib.hid (HK2.out.trans hk3 (by simp))
  clear hk3
  go_wp2_with fail
  (with_reducible refine (HRD.out _ HK3.out).mono ?_)
  rintro e w4 ⟨rfl, hk4⟩
  have HK4 := Lib.hid (HK3.out.trans hk4 (by simp))
  clear hk4
  go_wp2_with fail
  (with_reducible refine (HAR.out _ HK4.out).mono ?_)
  rintro e w5 ⟨rfl, hk5⟩
  rw [HAB.out]
  go_wp2
  go_ret2
  exact ⟨rfl, HK4.out.trans hk5 (by simp)⟩

end Go.Proofs.Ytfdmbpfpdijpdaa

namespace Go.Proofs.Ytfdmbpfpdijpdaa
open Go.RowKit
set_option linter.unusedVariables false
set_option linter.unusedSimpArgs false

def kl16 : List F := [⟨{ data := #[109] }, 0, 0, 1⟩, ⟨{ data := #[97] }, 0, 1, 0⟩]

theorem rowC_nil (w : World) (g : Nat) (h : w.heap[g]? = some (.cells #[.slice none 0 0, .slice none 0 0, .slice none 0 0] 42 (0, 0))) : RowC w g 1 1 (fun _ => []) (fun _ => []) (fun _ => []) :=
  ⟨by decide, by decide, fun _ _ => by simp, ⟨by decide, fun j hj => by
    obtain rfl : j = 0 := by omega
    refine ⟨.slice none 0 0, .slice none 0 0, .slice none 0 0, by rw [cell_of_row _ _ _ _ _ _ h]; rfl, by rw [cell_of_row _ _ _ _ _ _ h]; rfl, by rw [cell_of_row _ _ _ _ _ _ h]; rfl, ?_, ?_, ?_⟩ <;> exact ⟨none, 0, rfl, Nat.le_refl _, by decide, fun h => absurd h (by simp)⟩⟩⟩

set_option maxRecDepth 100000 in
set_option maxHeartbeats 1000000 in
theorem known16_any (w : World) : Calls Try.prog 15 #[] w fun e w' => e = .returned (.bool true) ∧ Chg [] w w' := by
  obtain ⟨A, hA⟩ : ∃ A : Array Value, A = #[.string { data := #[109] }, .int .i64 0, .int .i64 0, .int .i64 1, .string { data := #[97] }, .int .i64 0, .int .i64 1, .int .i64 0] := ⟨_, rfl⟩
  have hS1 : SeenF (w.alloc (.cells A 62)) (.slice (some ⟨w.heap.size, 0, none⟩) 2 2) kl16 := SeenF.lit w w.heap.size rfl _ A kl16 2 (by rw [hA]; rfl) rfl (by decide)
  have hR1 : RowC ((w.alloc (.cells A 62)).alloc (.cells #[.slice none 0 0, .slice none 0 0, .slice none 0 0] 42)) (w.heap.size + 1) 1 1 (fun _ => []) (fun _ => []) (fun _ => []) :=
    rowC_nil _ _ (by have h := heap_alloc_new (w.alloc (.cells A 62)) (.cells #[.slice none 0 0, .slice none 0 0, .slice none 0 0] 42); simpa using h)
  have HC := Lib.hid (((Chg.refl [] w).alloc (.cells A 62)).alloc (.cells #[.slice none 0 0, .slice none 0 0, .slice none 0 0] 42))
  have HF := Lib.hid (recs_none _ kl16 (w.heap.size + 1) 1 1 _ _ _ _ (hS1.keep ((Chg.refl [] _).alloc _)) (by decide +kernel) (by decide) (by decide) (by decide) hR1 (by decide +kernel) (by decide +kernel) (by decide +kernel) (by decide +kernel))
  have HG := Lib.hid (fun bo wx => recs_many (.slice none 0 0) (.slice none 0 0) (some ⟨w.heap.size, 0, none⟩) bo 2 2 1 1 (-1) wx (.inl (by decide)))
  rw [hA] at HF HC
  clear hS1 hR1 hA
  go_enter Try.func15, Try.ntmps15
  go_wp2_with fail
  (with_reducible refine HF.out.mono ?_)
  rintro e w4 ⟨rfl, hk⟩
  have HC4 := Lib.hid (HC.out.trans hk (by simp))
  clear hk
  go_wp2_with fail
  (with_reducible refine (HG.out _ _).mono ?_)
  rintro e w5 ⟨rfl, hk⟩
  have HC5 := Lib.hid ((HC4.out.alloc _).trans hk (by simp))
  clear hk
  go_wp2
  go_ret
  exact ⟨rfl, HC5.out⟩

end Go.Proofs.Ytfdmbpfpdijpdaa
