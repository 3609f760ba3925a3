/- Ue, Uj: texts of one group, one behind the other. -/
import Derived.Test.YtohgnbgijleoaaaDoorU1
import Derived.Test.YtohgnbgijleoaaaDoorWithin
import Derived.Laws.Rows
namespace Go.Proofs.YtohgnbgijleoaaaDoor
open Go.RowKit
set_option linter.unusedVariables false
set_option linter.unusedSimpArgs false

theorem ret_value {fn : Func} (hres : fn.results = #[.cell 4 39]) {post : Ending → World → Prop} {a : Act} {W : World} {gr : Nat} {x y : Value} (h4 : a.tmps.getD 4 undef = .pointer (some ⟨gr, 0, none⟩)) (hd : a.defers = []) (hh : W.heap[gr]? = some (.cells #[x, y] 39 (0, 0))) (hp : post (.returned (.agg #[x, y])) W) : bodyPost Tryd.prog fn post .ret a W :=
  bodyPost_ret (results_cell_row hres a.tmps W gr _ _ _ _ h4 hh Tryd.underlying39 rfl (by kernel_rfl)) hd hp

theorem new2 (w : World) (o p : Obj) : ((w.alloc o).alloc p).heap[w.heap.size + 1]? = some p := by simpa using heap_alloc2_new w o p

set_option maxRecDepth 100000 in
set_option maxHeartbeats 4000000 in
theorem good_any (k : Nat) (hk : 1 ≤ k ∧ k ≤ 4) (v : V) (hv : (Lit.int .i64 v.n).wf = true) (w : World) :
    Calls Tryd.prog 16 #[.int .i64 (k : Int), vvV v] w fun e w' => e = .returned (vvV (gdV k v)) ∧ Chg [] w w' := by
  have hb := wf_i64 hv
  have hc : k = 1 ∨ k = 2 ∨ k = 3 ∨ k = 4 := by omega
  rcases hc with rfl | rfl | rfl | rfl
  · have HW := Lib.hid (fun wx => within_nat v.n 2 wx (by decide) (by decide) hv)
    rw [show ((2 : Nat) : Int) = 2 from rfl] at HW
    have E := Lib.hid (show gdV 1 v = ⟨v.n % 2, e0⟩ from rfl)
    have E2 := Lib.hid (show (((v.n % 2).toNat : Nat) : Int) = v.n % 2 by omega)
    rw [E2.out] at HW
    rw [E.out]
    go_enter Tryd.func16, Tryd.ntmps16
    go_wp2_with (first
      | (go_at_call 29; (with_reducible refine (HW.out _).mono ?_); rintro e w2 ⟨rfl, rfl⟩)
      | fail)
    refine ret_value rfl rfl rfl (new2 w _ _) ?_
    exact ⟨rfl, ((Chg.refl [] w).alloc _).alloc _⟩
  · obtain ⟨m, hm⟩ : ∃ m, m = IntKind.i32.wrap v.n := ⟨_, rfl⟩
    have E := Lib.hid (show gdV 2 v = ⟨m, e0⟩ by rw [hm]; rfl)
    have hm32 : -2147483648 ≤ m ∧ m < 2147483648 := by rw [hm, w32]; omega
    have hx : IntKind.i32.wrap v.n = m := hm.symm
    have hy : IntKind.i64.wrap m = m := IntWalk.i64_in _ (by omega)
    rw [E.out]
    clear hm
    go_enter Tryd.func16, Tryd.ntmps16
    go_wp2
    refine ret_value rfl rfl rfl (new2 w _ _) ?_
    exact ⟨rfl, ((Chg.refl [] w).alloc _).alloc _⟩
  · have E := Lib.hid (show gdV 3 v = ⟨v.n, e0⟩ from rfl)
    rw [E.out]
    go_enter Tryd.func16, Tryd.ntmps16
    go_wp2
    refine ret_value rfl rfl rfl (new2 w _ _) ?_
    exact ⟨rfl, ((Chg.refl [] w).alloc _).alloc _⟩
  · by_cases h100 : 100 < v.s.size
    · have E := Lib.hid (show gdV 4 v = ⟨0, v.s.extract 0 100⟩ by unfold gdV; rw [Nat.min_eq_right (by omega)]; rfl)
      rw [E.out]
      go_enter Tryd.func16, Tryd.ntmps16
      go_wp2
      all_goals
        refine ret_value rfl rfl rfl (new2 w _ _) ?_
        exact ⟨rfl, ((Chg.refl [] w).alloc _).alloc _⟩
    · have E := Lib.hid (show gdV 4 v = ⟨0, v.s⟩ by unfold gdV; rw [Nat.min_eq_left (by omega)]; show (⟨0, v.s.extract 0 v.s.size⟩ : V) = ⟨0, v.s⟩; simp)
      rw [E.out]
      go_enter Tryd.func16, Tryd.ntmps16
      go_wp2
      all_goals
        refine ret_value rfl rfl rfl (new2 w _ _) ?_
        exact ⟨rfl, ((Chg.refl [] w).alloc _).alloc _⟩

/-- The first sixty, good ones of a kind. -/
def allV (k : Nat) (l : List V) : List V := (l.take 60).map (gdV k)
theorem allV_len (k : Nat) (l : List V) : (allV k l).length ≤ 60 := by unfold allV; rw [List.length_map, List.length_take]; omega
theorem allV_ok (k : Nat) (l : List V) (h : ∀ v ∈ l, (Lit.int .i64 v.n).wf = true) : ∀ v ∈ allV k l, okV k v := by
  intro v hv
  obtain ⟨x, hx, rfl⟩ := List.mem_map.1 hv
  have := wf_i64 (h x (List.mem_of_mem_take hx))
  exact gd_ok k x this
theorem V.one (x : V) : ∀ u ∈ V.cs x, u.oneCell' = true := by
  intro u hu
  simp [V.cs] at hu
  rcases hu with rfl | rfl <;> rfl
theorem map_snoc {l : List V} {j : Nat} {v : V} (g : V → V) (h : l[j]? = some v) : (l.take (j + 1)).map g = (l.take j).map g ++ [g v] := by
  rw [List.take_add_one, h]; simp

set_option maxRecDepth 100000 in
set_option maxHeartbeats 4000000 in
theorem all11_any (k : Nat) (hk : 1 ≤ k ∧ k ≤ 4) (lv : Value) (l : List V) (w : World) (hS : SeenV w lv l) (hwf : ∀ v ∈ l, (Lit.int .i64 v.n).wf = true) :
    Calls Tryd.prog 9 #[.int .i64 (k : Int), lv] w fun e w' => ∃ x, e = .returned x ∧ Chg [] w w' ∧ w'.ownsRow w.heap.size 39 2 x (allV k l).length ((allV k l).flatMap V.cs) := by
  obtain ⟨i0, hi, hz0, hz1, hz2⟩ := info_value
  obtain ⟨ao, cap, rfl, hc1, hc2⟩ := hS.shape
  have HS := Lib.hid hS; have HWF := Lib.hid hwf
  obtain ⟨n, hn⟩ : ∃ n, n = l.length := ⟨_, rfl⟩
  rw [← hn] at hc1 HS ⊢
  have HN := Lib.hid hn
  have hnx : n ≤ 9223372036854775807 := by unfold maxLen at hc2; omega
  clear hS hwf hn hc2
  go_enter Tryd.func9, Tryd.ntmps9
  go_wp2
  go_loopw [5, 6] (fun x i w' => ∃ j : Nat, j ≤ n ∧ j ≤ 60 ∧ i = .int .i64 (j : Int) ∧ Chg [] w w' ∧ w'.ownsRow w.heap.size 39 2 x j (((l.take j).map (gdV k)).flatMap V.cs)) (fun _ i _ => 60 - (intOf i).toNat)
  case atStart => exact ⟨0, Nat.zero_le _, by omega, rfl, Chg.refl _ _, by simpa using World.ownsRow_nil _ _ _ _⟩
  case round =>
    obtain ⟨j, hj, hj60, rfl, hc, ho⟩ := hrel
    obtain ⟨xo, xc, rfl⟩ := own_shape ho
    have HC := Lib.hid hc; have HO := Lib.hid ho
    have hB := hc.size
    clear hc ho
    by_cases hlt : j < n ∧ j < 60
    · obtain ⟨hlt, h60⟩ := hlt
      have d1 : decide ((j : Int) < (n : Int)) = true := by simp; omega
      have d2 : decide ((j : Int) < 60) = true := by simp; omega
      obtain ⟨v, hv⟩ : ∃ v, l[j]? = some v := ⟨_, List.getElem?_eq_getElem (by rw [← HN.out]; exact hlt)⟩
      obtain ⟨g, off, rfl, hcell⟩ := HS.out.get (by omega)
      obtain ⟨q0, q1⟩ := hcell j v hv
      have x0 := HC.out.cell q0 (by simp)
      have x1 := HC.out.cell q1 (by simp)
      have HG := Lib.hid (good_any k hk v (HWF.out v (List.mem_of_getElem? hv)) wr)
      have HM := Lib.hid (map_snoc (gdV k) hv)
      obtain ⟨u, hu⟩ : ∃ u, u = gdV k v := ⟨_, rfl⟩
      rw [← hu] at HG HM
      clear hcell q0 q1 hv hu
      go_wp2_with (first
        | (go_at_call 16; (with_reducible refine HG.out.mono ?_); rintro e w2 ⟨rfl, hc2⟩; have HC2 := Lib.hid (HC.out.trans hc2 (by simp)); have HO2 := Lib.hid (own_chg HO.out hc2 (by simp)); have hB2 := HC2.out.size; clear hc2)
        | (at_builtin; refine wpList_append_own _ rfl _ _ 22 rfl w.heap.size 39 i0 (.agg #[.int .i64 0, .string ByteArray.empty]) 2 24 Tryd.underlying22 hi hz0 hz1 hz2 rfl (by decide) _ _ _ rfl (HO2.out.alloc _) ⟨w2.heap.size, 0, none⟩ 1 1 (V.cs u) rfl rfl ?c1 ?c2 ?c3 ?c4 ?c5 ?_)
        | fail)
      case c1 => exact new_cells (C := #[.int .i64 u.n, .string u.s]) _ rfl
      case c2 => exact V.one u
      case c3 => unfold maxLen; omega
      case c4 => omega
      case c5 => simp; omega
      intro v' w3 hown' hgrow _
      have HG3 := Lib.hid ((HC2.out.alloc (vo u)).grown hgrow (fun g hg => .inr (HO2.out.lt g hg).1))
      have HO3 := Lib.hid (show w3.ownsRow w.heap.size 39 2 v' (j + 1) (((l.take (j + 1)).map (gdV k)).flatMap V.cs) by rw [HM.out, List.flatMap_append]; simpa using hown')
      clear hgrow hown'
      go_wp2
      go_roundw
      case rel => exact ⟨j + 1, hlt, h60, by go_num, HG3.out, HO3.out⟩
      case measure => simp [intOf]; omega
    · have E := Lib.hid (show (l.take j).map (gdV k) = allV k l ∧ (allV k l).length = j from by
        have hn := HN.out
        have : l.take j = l.take 60 := by
          by_cases h : j = 60
          · rw [h]
          · rw [List.take_of_length_le (by omega), List.take_of_length_le (by omega)]
        unfold allV
        rw [this]
        refine ⟨rfl, ?_⟩
        rw [List.length_map, List.length_take]; omega)
      have HF := Lib.hid (show wr.ownsRow w.heap.size 39 2 (.slice xo j xc) (allV k l).length ((allV k l).flatMap V.cs) by have h := HO.out; rw [E.out.1] at h; rw [E.out.2]; exact h)
      by_cases h1 : j < n
      · have d1 : decide ((j : Int) < (n : Int)) = true := by simp; omega
        have d2 : decide ((j : Int) < 60) = false := by simp; omega
        clear hlt
        go_wp2
        go_ret
        exact ⟨_, rfl, HC.out, HF.out⟩
      · have d1 : decide ((j : Int) < (n : Int)) = false := by simp; omega
        clear hlt
        go_wp2
        go_ret
        exact ⟨_, rfl, HC.out, HF.out⟩

theorem enc_known : encP 1 [⟨1, e0⟩, ⟨0, e0⟩, ⟨1, e0⟩] = [5] := by decide +kernel

end Go.Proofs.YtohgnbgijleoaaaDoor

namespace Go.Proofs.YtohgnbgijleoaaaDoor
open Go.RowKit
set_option linter.unusedVariables false
set_option linter.unusedSimpArgs false

theorem drew_drew11 (w : World) (n m : Nat) : (w.drewN n).drewN m = w.drewN (n + m) := by
  first | rfl | simp [World.drewN, Nat.add_assoc]

set_option maxRecDepth 100000 in
set_option maxHeartbeats 1000000 in
theorem same11_any (av bv : Value) (l : List V) (w : World) (hA : SeenV w av l) (hB : SeenV w bv l) :
    Calls Tryd.prog 13 #[av, bv] w fun e w' => e = .returned (.bool true) ∧ Chg [] w w' := by
  obtain ⟨ao, cap, rfl, hc1, hc2⟩ := hA.shape
  obtain ⟨bo, cap', rfl, hc1', hc2'⟩ := hB.shape
  obtain ⟨n, hn⟩ : ∃ n, n = l.length := ⟨_, rfl⟩
  rw [← hn] at hc1 hc1' hA hB ⊢
  have hnm : n ≤ 9223372036854775807 := by unfold maxLen at hc2; omega
  have HA := Lib.hid hA; have HB := Lib.hid hB; have HN := Lib.hid hn
  have hbl : ((n : Int) != (n : Int)) = false := by simp
  clear hA hB hn
  go_enter Tryd.func13, Tryd.ntmps13
  go_wp2
  go_loopw [5] (fun x w' => ∃ k : Nat, x = .int .i64 (k : Int) ∧ k ≤ n ∧ Chg [] w w') (fun x _ => n - (intOf x).toNat)
  case atStart => exact ⟨0, rfl, Nat.zero_le _, Chg.refl _ _⟩
  case round =>
    obtain ⟨k, rfl, hk, hc⟩ := hrel
    have HC := Lib.hid hc
    clear hc
    by_cases hlt : k < n
    · have d1 : decide ((k : Int) < (n : Int)) = true := by simp; omega
      obtain ⟨ga, oa, rfl, ha⟩ := SeenV.get (HA.out.keep HC.out) (by omega)
      obtain ⟨gb, ob, rfl, hb⟩ := SeenV.get (HB.out.keep HC.out) (by omega)
      obtain ⟨x, hx⟩ : ∃ x, l[k]? = some x := ⟨_, List.getElem?_eq_getElem (by rw [← HN.out]; exact hlt)⟩
      obtain ⟨a1, a2⟩ := ha k x hx
      obtain ⟨b1, b2⟩ := hb k x hx
      have hee : (x.s.toList == x.s.toList) = true := by simp
      clear ha hb hx
      go_wp2_with fail
      go_quiet (fail)
      go_wp2
      go_roundw
      case rel => exact ⟨k + 1, by go_num, by omega, HC.out.drewN _⟩
      case measure => simp [intOf]; omega
    · have d1 : decide ((k : Int) < (n : Int)) = false := by simp; omega
      go_wp2
      go_ret
      exact ⟨rfl, HC.out⟩

theorem outL_one (l : List V) : outL 1 l = [] := rfl
theorem tsL_one (l : List V) (j : Nat) (v : V) (h : l[j]? = some v) : tsL 1 (l.take (j + 1)) = tsL 1 (l.take j) ++ [un v.n] := by
  rw [List.take_add_one, h]
  show (_ : List V).map _ = (_ : List V).map _ ++ _
  simp
theorem outL_ne (k : Nat) (hk : k ≠ 1) (l : List V) (j : Nat) (v : V) (h : l[j]? = some v) : outL k (l.take (j + 1)) = outL k (l.take j) ++ enc1 k v := by
  rw [List.take_add_one, h]
  unfold outL
  rw [if_neg hk, if_neg hk]
  simp
theorem tsL_ne (k : Nat) (hk : k ≠ 1) (l : List V) : tsL k l = [] := by unfold tsL; rw [if_neg hk]

theorem outL_len (k : Nat) (l : List V) (hs : ∀ v ∈ l, v.s.size ≤ 100) : (outL k l).length ≤ 104 * l.length := by
  unfold outL
  split
  · simp
  · induction l with
    | nil => simp
    | cons v l ih =>
      have h1 := enc1_len k v (hs v (by simp))
      have h2 := ih fun x hx => hs x (by simp [hx])
      rw [List.flatMap_cons, List.length_append, List.length_cons]
      omega

set_option maxRecDepth 100000 in
set_option maxHeartbeats 4000000 in
theorem rencode11_any (k : Nat) (hk : k = 1 ∨ k = 2 ∨ k = 3 ∨ k = 4) (lv : Value) (l : List V) (w : World) (hS : SeenV w lv l) (hl : l.length ≤ 100000) (hs : ∀ x ∈ l, x.s.size ≤ 100) :
    Calls Tryd.prog 22 #[.int .i64 (k : Int), lv] w fun e w' => ∃ x, e = .returned x ∧ Made 5 .u8 (encP k l) w x w' := by
  obtain ⟨i0, hi, hz0, hz1, hz2⟩ := info_u64
  obtain ⟨ao, cap, rfl, hc1, hc2⟩ := hS.shape
  have HS := Lib.hid hS; have HSZ := Lib.hid hs
  obtain ⟨n, hn⟩ : ∃ n, n = l.length := ⟨_, rfl⟩
  rw [← hn] at hl hc1 HS ⊢
  have HN := Lib.hid hn
  clear hS hs hn
  go_enter Tryd.func22, Tryd.ntmps22
  go_wp2
  go_loopw [5, 6, 7] (fun x y i w' => ∃ j : Nat, j ≤ n ∧ i = .int .i64 (j : Int) ∧ Chg [] w w' ∧ w'.ownsRow w.heap.size 5 1 x (outL k (l.take j)).length (nv .u8 (outL k (l.take j))) ∧ w'.ownsRow w.heap.size 67 1 y (tsL k (l.take j)).length (nv .u64 (tsL k (l.take j)))) (fun _ _ i _ => n - (intOf i).toNat)
  case atStart =>
    refine ⟨0, Nat.zero_le _, rfl, Chg.refl _ _, ?_, ?_⟩
    · have : outL k (l.take 0) = [] := by unfold outL; split <;> rfl
      rw [this]; exact World.ownsRow_nil _ _ _ _
    · have : tsL k (l.take 0) = [] := by unfold tsL; split <;> rfl
      rw [this]; exact World.ownsRow_nil _ _ _ _
  case round =>
    obtain ⟨j, hj, rfl, hc, ho, hot⟩ := hrel
    obtain ⟨xo, xc, rfl⟩ := own_shape ho
    obtain ⟨yo, yc, rfl⟩ := own_shape hot
    have HC := Lib.hid hc
    have hB := hc.size
    have hol := outL_len k (l.take j) (fun v hv => HSZ.out v (List.mem_of_mem_take hv))
    rw [List.length_take] at hol
    have htl : (tsL k (l.take j)).length ≤ n := by unfold tsL; split <;> simp; omega
    by_cases hlt : j < n
    · have d1 : decide ((j : Int) < (n : Int)) = true := by simp; omega
      obtain ⟨v, hv⟩ : ∃ v, l[j]? = some v := ⟨_, List.getElem?_eq_getElem (by rw [← HN.out]; exact hlt)⟩
      obtain ⟨g, off, rfl, hcell⟩ := HS.out.get (by omega)
      obtain ⟨q0, q1⟩ := hcell j v hv
      have x0 := HC.out.cell q0 (by simp)
      have x1 := HC.out.cell q1 (by simp)
      have x1d := HC.out.drew.cell q1 (by simp)
      have HSV := Lib.hid (HSZ.out v (List.mem_of_getElem? hv))
      have HX1 := Lib.hid (show ∀ w2, Chg [] w w2 → w2.cell? ⟨g, off + j * 2 + 1, none⟩ = some (.string v.s) from fun w2 h => h.cell q1 (by simp))
      have hu := un_wrap v.n
      have hul := un_lt v.n
      have HB := Lib.hid (reads_of_own ho).seen
      have HOT := Lib.hid hot
      have HO := Lib.hid ho
      have HE1 := Lib.hid (fun h : k ≠ 1 => outL_ne k h l j v hv)
      have HE2 := Lib.hid (tsL_one l j v hv)
      obtain ⟨OL, hOL⟩ : ∃ O, O = outL k (l.take j) := ⟨_, rfl⟩
      obtain ⟨TL, hTL⟩ : ∃ O, O = tsL k (l.take j) := ⟨_, rfl⟩
      rw [← hOL] at HB HO hol HE1 ⊢
      rw [← hTL] at HOT htl ⊢
      obtain ⟨mo, hmo⟩ : ∃ m, m = OL.length := ⟨_, rfl⟩
      obtain ⟨mt, hmt⟩ : ∃ m, m = TL.length := ⟨_, rfl⟩
      rw [← hmo] at HB HO hol ⊢
      rw [← hmt] at HOT htl ⊢
      have HMO := Lib.hid hmo; have HMT := Lib.hid hmt; have HOL := Lib.hid hOL; have HTL := Lib.hid hTL
      have holn : mo ≤ 10400000 := by have := HN.out; omega
      clear hcell q0 q1 hv ho hot hOL hTL hmo hmt hc
      by_cases h1 : k = 1
      · have b1 : ((k : Int) == 1) = true := by simp [h1]
        have HE3 := Lib.hid (show tsL k (l.take (j + 1)) = TL ++ [un v.n] ∧ outL k (l.take (j + 1)) = [] ∧ OL = [] by
          have e2 := HE2.out
          refine ⟨?_, by rw [h1]; rfl, by rw [HOL.out, h1]; rfl⟩
          rw [HTL.out, h1]; exact e2)
        clear h1
        go_wp2_with (first
          | (at_builtin; refine wpList_append_own _ rfl _ _ 55 rfl w.heap.size 67 i0 (.int .u64 0) 1 8 Tryd.underlying55 hi hz0 hz1 hz2 rfl (by decide) _ _ _ rfl (HOT.out.alloc _) ⟨wr.heap.size, 0, none⟩ 1 1 [.int .u64 ((un v.n : Nat) : Int)] rfl rfl (cell_one_new _ _ _) (by simp [Value.oneCell']) (by unfold maxLen; omega) (by omega) (by simp; omega) ?_)
          | fail)
        intro v' w2 hown' hgrow _
        have hcx := ((Chg.refl [] wr).alloc (.cells #[.int .u64 ((un v.n : Nat) : Int)] 67))
        have HG := Lib.hid ((HC.out.alloc (.cells #[.int .u64 ((un v.n : Nat) : Int)] 67)).grown hgrow (fun k hk => .inr (HOT.out.lt k hk).1))
        have HO2 := Lib.hid (own_chg (own_chg HO.out hcx (by simp)) (((Chg.refl (Value.slice yo mt yc).ownBlock.toList _)).grown hgrow (fun g hg => .inl (by simp [hg]))) (own_apart HO.out HOT.out (by decide)))
        have HT2 := Lib.hid (show w2.ownsRow w.heap.size 67 1 v' (tsL k (l.take (j + 1))).length (nv .u64 (tsL k (l.take (j + 1)))) by
          rw [HE3.out.1, List.length_append, ← HMT.out]
          simpa [nv] using hown')
        have HO3 := Lib.hid (show w2.ownsRow w.heap.size 5 1 (.slice xo mo xc) (outL k (l.take (j + 1))).length (nv .u8 (outL k (l.take (j + 1)))) by
          have h := HO2.out
          rw [HE3.out.2.2] at h
          have hm := HMO.out
          rw [HE3.out.2.2] at hm
          rw [HE3.out.2.1]
          subst hm
          exact h)
        clear hown' hgrow hcx
        go_wp2
        go_roundw
        case rel => exact ⟨j + 1, hlt, by go_num, HG.out, HO3.out, HT2.out⟩
        case measure => simp [intOf]; omega
      have b1 : ((k : Int) == 1) = false := by simp; omega
      have HTN := Lib.hid (show tsL k (l.take (j + 1)) = TL by rw [HTL.out, tsL_ne k h1, tsL_ne k h1])
      have HE := Lib.hid (HE1.out h1)
      by_cases h4 : k = 4
      · have b2 : ((k : Int) == 2) = false := by simp; omega
        have b3 : ((k : Int) == 3) = false := by simp; omega
        have hvs := HSV.out
        have hsw : IntKind.u64.wrap ((v.s.size : Nat) : Int) = ((v.s.size : Nat) : Int) := wraps64 _ (by omega) (by omega)
        have HP := Lib.hid (fun wx (h : Seen wx (.slice xo mo xc) (nv .u8 OL)) => rcput_any (.slice xo mo xc) OL 4 v.s.size wx (by decide) (by omega) (by have := HMO.out; omega) h)
        rw [show ((4 : Nat) : Int) = 4 from rfl] at HP
        obtain ⟨Q, hQ⟩ : ∃ Q, Q = OL ++ lo 4 v.s.size := ⟨_, rfl⟩
        rw [← hQ] at HP
        have hQl : Q.length = mo + 4 := by rw [hQ, List.length_append, lo_length, ← HMO.out]
        have HQ4 := Lib.hid (show outL k (l.take (j + 1)) = Q ++ bl v.s by rw [HE.out, h4, enc1_4, hQ, List.append_assoc])
        have HMB := Lib.hid (show Q.length + v.s.size ≤ 140737488355328 by omega)
        have HWD := Lib.hid (Chg.refl [] wr).drew
        have HX2 := Lib.hid (show ∀ w3, Chg [] wr w3 → w3.cell? ⟨g, off + j * 2 + 1, none⟩ = some (.string v.s) from fun w3 h => h.cell x1 (by simp))
        clear hQ hQl h4 h1
        go_upto_region 7 with fail
        go_region_law (first
          | (go_simp; go_at_call 39; (with_reducible refine (HP.out _ (HB.out.keep HWD.out)).mono ?_); rintro e w2 ⟨x, rfl, hc2, ho2⟩; obtain ⟨xa, xc2, rfl⟩ := own_shape ho2; have HC2 := Lib.hid (HWD.out.trans hc2 (by simp)); have k1 := HX2.out w2 HC2.out; have HO2 := Lib.hid (own_mono ho2 hB); have HL2 := Lib.hid (Nat.le_trans hB HC2.out.size); clear hc2 ho2)
          | (refine step_append_text (by rfl) (.tmp 23) (.tmp 28) (by rfl) w.heap.size (.slice xa Q.length xc2) Q.length (nv .u8 Q) (by rfl) HO2.out v.s (by rfl) HMB.out HL2.out ?_; intro v3 w3 hown3 hgrow3; obtain ⟨va, vc, rfl⟩ := own_shape hown3; have hcd : Chg (Value.slice xa Q.length xc2).ownBlock.toList w2 w3 := (Chg.refl _ w2).grown (w := w2) (by first | exact hgrow3 | exact ⟨hgrow3.os, hgrow3.tape, hgrow3.output, hgrow3.size, hgrow3.block⟩) (fun g hg => .inl (by simp [hg])); have HO3 := Lib.hid hown3; have HC3 := Lib.hid hcd; clear hown3 hgrow3 hcd))
        all_goals
          go_wp2
          go_roundw
          case rel =>
            refine ⟨j + 1, hlt, by go_num, (HC.out.trans HC2.out (by simp)).trans HC3.out (fun t ht => .inr (own_ge HO2.out t (by simpa using ht))), ?_, ?_⟩
            · rw [HQ4.out, List.length_append, bl_length]
              simpa [nv] using HO3.out
            · rw [HTN.out, ← HMT.out]
              have ha := own_chg HOT.out HC2.out (by simp)
              exact own_chg ha HC3.out (own_apart ha HO2.out (by decide))
          case measure => simp [intOf]; omega
      · have hk23 : k = 2 ∨ k = 3 := by omega
        obtain ⟨q, hq⟩ : ∃ q : Nat, (k = 2 → q = 4) ∧ (k = 3 → q = 8) ∧ q ≤ 8 := by
          rcases hk23 with h | h
          · exact ⟨4, fun _ => rfl, fun h3 => by omega, by decide⟩
          · exact ⟨8, fun h3 => by omega, fun _ => rfl, by decide⟩
        have HP := Lib.hid (rcput_any (.slice xo mo xc) OL q (un v.n) wr hq.2.2 hul (by have := HMO.out; omega) HB.out)
        have HEQ := Lib.hid (show outL k (l.take (j + 1)) = OL ++ lo q (un v.n) by
          rw [HE.out]
          rcases hk23 with h | h
          · rw [h, enc1_2, hq.1 h]
          · rw [h, enc1_3, hq.2.1 h])
        rw [← HEQ.out] at HP
        clear h1 h4
        rcases hk23 with h | h
        · have b2 : ((k : Int) == 2) = true := by simp [h]
          obtain rfl := hq.1 h
          rw [show ((4 : Nat) : Int) = 4 from rfl] at HP
          clear h hq
          go_wp2_with (first
            | (go_at_call 39; (with_reducible refine HP.out.mono ?_); rintro e w2 ⟨x, rfl, hc2, ho2⟩; have HC2 := Lib.hid (HC.out.trans hc2 (by simp)); have HO2 := Lib.hid (own_mono ho2 hB); have HT2 := Lib.hid (own_chg HOT.out hc2 (by simp)); clear hc2 ho2)
            | fail)
          go_roundw
          case rel => exact ⟨j + 1, hlt, by go_num, HC2.out, HO2.out, by rw [HTN.out, ← HMT.out]; exact HT2.out⟩
          case measure => simp [intOf]; omega
        · have b2 : ((k : Int) == 2) = false := by simp; omega
          have b3 : ((k : Int) == 3) = true := by simp [h]
          obtain rfl := hq.2.1 h
          rw [show ((8 : Nat) : Int) = 8 from rfl] at HP
          clear h hq
          go_wp2_with (first
            | (go_at_call 39; (with_reducible refine HP.out.mono ?_); rintro e w2 ⟨x, rfl, hc2, ho2⟩; have HC2 := Lib.hid (HC.out.trans hc2 (by simp)); have HO2 := Lib.hid (own_mono ho2 hB); have HT2 := Lib.hid (own_chg HOT.out hc2 (by simp)); clear hc2 ho2)
            | fail)
          go_roundw
          case rel => exact ⟨j + 1, hlt, by go_num, HC2.out, HO2.out, by rw [HTN.out, ← HMT.out]; exact HT2.out⟩
          case measure => simp [intOf]; omega
    · obtain rfl : j = n := by omega
      have d1 : decide ((j : Int) < (j : Int)) = false := by simp
      have E := Lib.hid (show l.take j = l by rw [HN.out, List.take_length])
      rw [E.out] at ho hot htl ⊢
      have HO := Lib.hid ho; have HOT := Lib.hid hot
      by_cases h1 : k = 1
      · have b1 : ((k : Int) == 1) = true := by simp [h1]
        have HE := Lib.hid (show encP k l = packed 1 (tsL k l) by unfold encP tsL; rw [if_pos h1, if_pos h1])
        have HP := Lib.hid (rpack_yes _ (tsL k l) 1 wr (by decide) (by omega) (reads_of_own hot).seen (by
          unfold tsL
          rw [if_pos h1]
          intro x hx
          obtain ⟨v, -, rfl⟩ := List.mem_map.1 hx
          exact un_lt v.n))
        rw [show ((1 : Nat) : Int) = 1 from rfl] at HP
        obtain ⟨Q, hQ⟩ : ∃ Q, Q = packed 1 (tsL k l) := ⟨_, rfl⟩
        rw [← hQ] at HP HE
        obtain ⟨q, hq⟩ : ∃ q, q = Q.length := ⟨_, rfl⟩
        have HQ := Lib.hid hq
        rw [← hq] at HP
        clear ho hot hQ hq hc hk h1
        go_wp2_with (first
          | (go_at_call 40; (with_reducible refine HP.out.mono ?_); rintro e w2 ⟨g, rfl, hc2, ho2⟩; have HC2 := Lib.hid (HC.out.trans hc2 (by simp)); have HO2 := Lib.hid (own_mono ho2 hB); clear hc2 ho2)
          | fail)
        go_ret
        exact ⟨_, rfl, HC2.out, by rw [HE.out]; have h := HO2.out; rw [← HQ.out] at h ⊢; exact h⟩
      · have HE := Lib.hid (show encP k l = outL k l by unfold encP outL; rw [if_neg h1, if_neg h1])
        have hkb : ((k : Int) == 1) = false := by simp; omega
        clear ho hot hc h1
        go_wp2
        go_ret
        exact ⟨_, rfl, HC.out, by rw [HE.out]; exact HO.out⟩

end Go.Proofs.YtohgnbgijleoaaaDoor
