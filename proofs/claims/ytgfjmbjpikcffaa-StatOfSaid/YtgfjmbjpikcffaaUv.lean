/- Rows of values: parts, Good, All, Same (out of stage 11's texts, without plain). -/
import Derived.Test.YtgfjmbjpikcffaaVc
import Derived.Test.YtgfjmbjpikcffaaUa
import Derived.Test.YtgfjmbjpikcffaaSa
import Derived.Test.YtgfjmbjpikcffaaWithin
import Derived.Laws.Rows
namespace Go.Proofs.Ytgfjmbjpikcffaa
open Go.RowKit
set_option linter.unusedVariables false
set_option linter.unusedSimpArgs false

set_option maxRecDepth 100000 in
set_option maxHeartbeats 4000000 in
theorem good_any (k : Nat) (hk : 1 ≤ k ∧ k ≤ 4) (v : V) (hv : (Lit.int .i64 v.n).wf = true) (w : World) :
    Calls Try.prog 18 #[.int .i64 (k : Int), vvV v] w fun e w' => e = .returned (vvV (gdV k v)) ∧ Chg [] w w' := by
  have hb := wf_i64 hv
  have hc : k = 1 ∨ k = 2 ∨ k = 3 ∨ k = 4 := by omega
  rcases hc with rfl | rfl | rfl | rfl
  · have HW := Lib.hid (fun wx => within_nat v.n 2 wx (by decide) (by decide) hv)
    rw [show ((2 : Nat) : Int) = 2 from rfl] at HW
    have E := Lib.hid (show gdV 1 v = ⟨v.n % 2, e0⟩ from rfl)
    have E2 := Lib.hid (show (((v.n % 2).toNat : Nat) : Int) = v.n % 2 by omega)
    rw [E2.out] at HW
    rw [E.out]
    go_enter Try.func18, Try.ntmps18
    go_wp2_with (first
      | (go_at_call 24; (with_reducible refine (HW.out _).mono ?_); rintro e w2 ⟨rfl, rfl⟩)
      | fail)
    refine ret_value rfl rfl rfl (new2 w _ _) ?_
    exact ⟨rfl, ((Chg.refl [] w).alloc _).alloc _⟩
  · obtain ⟨m, hm⟩ : ∃ m, m = IntKind.i32.wrap v.n := ⟨_, rfl⟩
    have E := Lib.hid (show gdV 2 v = ⟨m, e0⟩ by rw [hm]; rfl)
    have hm32 : -2147483648 ≤ m ∧ m < 2147483648 := by rw [hm, w32]; omega
    have hx : IntKind.i32.wrap v.n = m := hm.symm
    have hy : IntKind.i64.wrap m = m := IntWalk.i64_in _ (by omega)
    rw [E.out]
    clear hm
    go_enter Try.func18, Try.ntmps18
    go_wp2
    refine ret_value rfl rfl rfl (new2 w _ _) ?_
    exact ⟨rfl, ((Chg.refl [] w).alloc _).alloc _⟩
  · have E := Lib.hid (show gdV 3 v = ⟨v.n, e0⟩ from rfl)
    rw [E.out]
    go_enter Try.func18, Try.ntmps18
    go_wp2
    refine ret_value rfl rfl rfl (new2 w _ _) ?_
    exact ⟨rfl, ((Chg.refl [] w).alloc _).alloc _⟩
  · by_cases h100 : 100 < v.s.size
    · have E := Lib.hid (show gdV 4 v = ⟨0, v.s.extract 0 100⟩ by unfold gdV; rw [Nat.min_eq_right (by omega)]; rfl)
      rw [E.out]
      go_enter Try.func18, Try.ntmps18
      go_wp2
      all_goals
        refine ret_value rfl rfl rfl (new2 w _ _) ?_
        exact ⟨rfl, ((Chg.refl [] w).alloc _).alloc _⟩
    · have E := Lib.hid (show gdV 4 v = ⟨0, v.s⟩ by unfold gdV; rw [Nat.min_eq_left (by omega)]; show (⟨0, v.s.extract 0 v.s.size⟩ : V) = ⟨0, v.s⟩; simp)
      rw [E.out]
      go_enter Try.func18, Try.ntmps18
      go_wp2
      all_goals
        refine ret_value rfl rfl rfl (new2 w _ _) ?_
        exact ⟨rfl, ((Chg.refl [] w).alloc _).alloc _⟩

/-- The first sixty, good ones of a kind. -/
def allV (k : Nat) (l : List V) : List V := (l.take 60).map (gdV k)

theorem allV_len (k : Nat) (l : List V) : (allV k l).length ≤ 60 := by unfold allV; rw [List.length_map, List.length_take]; omega

theorem allV_ok (k : Nat) (l : List V) (h : ∀ v ∈ l, (Lit.int .i64 v.n).wf = true) : ∀ v ∈ allV k l, okV k v := by
  intro v hv
  obtain ⟨x, hx, rfl⟩ := List.mem_map.1 hv
  have := wf_i64 (h x (List.mem_of_mem_take hx))
  exact gd_ok k x this

theorem map_snoc {l : List V} {j : Nat} {v : V} (g : V → V) (h : l[j]? = some v) : (l.take (j + 1)).map g = (l.take j).map g ++ [g v] := by
  rw [List.take_add_one, h]; simp

set_option maxRecDepth 100000 in
set_option maxHeartbeats 4000000 in
theorem all11_any (k : Nat) (hk : 1 ≤ k ∧ k ≤ 4) (lv : Value) (l : List V) (w : World) (hS : SeenV w lv l) (hwf : ∀ v ∈ l, (Lit.int .i64 v.n).wf = true) :
    Calls Try.prog 10 #[.int .i64 (k : Int), lv] w fun e w' => ∃ x, e = .returned x ∧ Chg [] w w' ∧ w'.ownsRow w.heap.size 35 2 x (allV k l).length ((allV k l).flatMap V.cs) := by
  obtain ⟨i0, hi, hz0, hz1, hz2⟩ := info_value
  obtain ⟨ao, cap, rfl, hc1, hc2⟩ := hS.shape
  have HS := Lib.hid hS; have HWF := Lib.hid hwf
  obtain ⟨n, hn⟩ : ∃ n, n = l.length := ⟨_, rfl⟩
  rw [← hn] at hc1 HS ⊢
  have HN := Lib.hid hn
  have hnx : n ≤ 9223372036854775807 := by unfold maxLen at hc2; omega
  clear hS hwf hn hc2
  go_enter Try.func10, Try.ntmps10
  go_wp2
  go_loopw [5, 6] (fun x i w' => ∃ j : Nat, j ≤ n ∧ j ≤ 60 ∧ i = .int .i64 (j : Int) ∧ Chg [] w w' ∧ w'.ownsRow w.heap.size 35 2 x j (((l.take j).map (gdV k)).flatMap V.cs)) (fun _ i _ => 60 - (intOf i).toNat)
  case atStart => exact ⟨0, Nat.zero_le _, by omega, rfl, Chg.refl _ _, by simpa using World.ownsRow_nil _ _ _ _⟩
  case round =>
    obtain ⟨j, hj, hj60, rfl, hc, ho⟩ := hrel
    obtain ⟨xo, xc, rfl⟩ := own_shape ho
    have HC := Lib.hid hc; have HO := Lib.hid ho
    have hB := hc.size
    clear hc ho
    by_cases hlt : j < n ∧ j < 60
    · obtain ⟨hlt, h60⟩ := hlt
      have d1 : decide ((j : Int) < (n : Int)) = true := by simp; omega
      have d2 : decide ((j : Int) < 60) = true := by simp; omega
      obtain ⟨v, hv⟩ : ∃ v, l[j]? = some v := ⟨_, List.getElem?_eq_getElem (by rw [← HN.out]; exact hlt)⟩
      obtain ⟨g, off, rfl, hcell⟩ := HS.out.get (by omega)
      obtain ⟨q0, q1⟩ := hcell j v hv
      have x0 := HC.out.cell q0 (by simp)
      have x1 := HC.out.cell q1 (by simp)
      have HG := Lib.hid (good_any k hk v (HWF.out v (List.mem_of_getElem? hv)) wr)
      have HM := Lib.hid (map_snoc (gdV k) hv)
      obtain ⟨u, hu⟩ : ∃ u, u = gdV k v := ⟨_, rfl⟩
      rw [← hu] at HG HM
      clear hcell q0 q1 hv hu
      go_wp2_with (first
        | (go_at_call 18; (with_reducible refine HG.out.mono ?_); rintro e w2 ⟨rfl, hc2⟩; have HC2 := Lib.hid (HC.out.trans hc2 (by simp)); have HO2 := Lib.hid (own_chg HO.out hc2 (by simp)); have hB2 := HC2.out.size; clear hc2)
        | (at_builtin; refine wpList_append_own _ rfl _ _ 22 rfl w.heap.size 35 i0 (.agg #[.int .i64 0, .string ByteArray.empty]) 2 24 Try.underlying22 hi hz0 hz1 hz2 rfl (by decide) _ _ _ rfl (HO2.out.alloc _) ⟨w2.heap.size, 0, none⟩ 1 1 (V.cs u) rfl rfl ?c1 ?c2 ?c3 ?c4 ?c5 ?_)
        | fail)
      case c1 => exact new_cells (C := #[.int .i64 u.n, .string u.s]) _ rfl
      case c2 => exact V.one u
      case c3 => unfold maxLen; omega
      case c4 => omega
      case c5 => simp; omega
      intro v' w3 hown' hgrow _
      have HG3 := Lib.hid ((HC2.out.alloc (vo u)).grown hgrow (fun g hg => .inr (HO2.out.lt g hg).1))
      have HO3 := Lib.hid (show w3.ownsRow w.heap.size 35 2 v' (j + 1) (((l.take (j + 1)).map (gdV k)).flatMap V.cs) by rw [HM.out, List.flatMap_append]; simpa using hown')
      clear hgrow hown'
      go_wp2
      go_roundw
      case rel => exact ⟨j + 1, hlt, h60, by go_num, HG3.out, HO3.out⟩
      case measure => simp [intOf]; omega
    · have E := Lib.hid (show (l.take j).map (gdV k) = allV k l ∧ (allV k l).length = j from by
        have hn := HN.out
        have : l.take j = l.take 60 := by
          by_cases h : j = 60
          · rw [h]
          · rw [List.take_of_length_le (by omega), List.take_of_length_le (by omega)]
        unfold allV
        rw [this]
        refine ⟨rfl, ?_⟩
        rw [List.length_map, List.length_take]; omega)
      have HF := Lib.hid (show wr.ownsRow w.heap.size 35 2 (.slice xo j xc) (allV k l).length ((allV k l).flatMap V.cs) by have h := HO.out; rw [E.out.1] at h; rw [E.out.2]; exact h)
      by_cases h1 : j < n
      · have d1 : decide ((j : Int) < (n : Int)) = true := by simp; omega
        have d2 : decide ((j : Int) < 60) = false := by simp; omega
        clear hlt
        go_wp2
        go_ret
        exact ⟨_, rfl, HC.out, HF.out⟩
      · have d1 : decide ((j : Int) < (n : Int)) = false := by simp; omega
        clear hlt
        go_wp2
        go_ret
        exact ⟨_, rfl, HC.out, HF.out⟩

theorem drew_drew11 (w : World) (n m : Nat) : (w.drewN n).drewN m = w.drewN (n + m) := by
  first | rfl | simp [World.drewN, Nat.add_assoc]

end Go.Proofs.Ytgfjmbjpikcffaa
