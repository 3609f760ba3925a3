/- Ck, Lv, Rn, Dp, Mk: texts of one group, one behind the other. -/
import Derived.Test.YtfdmbpfpdijpdaaA2
import Derived.Test.YtfdmbpfpdijpdaaA3
import Derived.Shelf.Abstract
import Derived.Test.YtfdmbpfpdijpdaaA1
import Derived.Deep.RegionHeld3
namespace Go.Proofs.Ytfdmbpfpdijpdaa
open Go.RowKit
set_option linter.unusedVariables false

/-- The first of n numbers that is not 0. -/
def firstN (p : Nat → Int) : Nat → Int
  | 0 => 0
  | n + 1 => if firstN p n ≠ 0 then firstN p n else p n
theorem firstN_zero {p : Nat → Int} {n : Nat} (h : ∀ j, j < n → p j = 0) : firstN p n = 0 := by
  induction n with
  | zero => rfl
  | succ n ih =>
    have h1 := ih fun j hj => h j (by omega)
    simp [firstN, h1, h n (by omega)]
theorem firstN_at {p : Nat → Int} {n k : Nat} (h : ∀ j, j < k → p j = 0) (hk : k < n) (h0 : p k ≠ 0) : firstN p n = p k := by
  induction n with
  | zero => omega
  | succ n ih =>
    by_cases e : k = n
    · subst e
      simp [firstN, firstN_zero h]
    · have h1 := ih (by omega)
      simp only [firstN]
      rw [h1, if_pos h0]

def depths (l : List F) : List Int := cntL (fun i => decide (0 < i)) (parents l)
@[simp] theorem depths_length (l : List F) : (depths l).length = l.length := by simp [depths]

/-- What is wrong with a schema. -/
def chk (l : List F) : Int :=
  if l.length < 1 ∨ 40 < l.length then 4
  else if firstN (faultN l (parents l) (depths l)) l.length ≠ 0 then firstN (faultN l (parents l) (depths l)) l.length
  else if lacksB l (parents l) = true then 1 else 0

set_option maxHeartbeats 400000 in
theorem check1_any (i : Nat) (w : World) : Calls Try.prog 71 #[.int .i64 (i : Int)] w fun e w' => e = .returned (.bool (decide (0 < i))) ∧ Chg [] w w' := by
  by_cases h : 0 < i
  all_goals
    go_enter Try.func71, Try.ntmps71
    go_wp2
    go_ret
    exact ⟨ret_bool (by simp [h]), Chg.refl [] w⟩

theorem no_fault {l : List F} {ps ds : List Int} {i : Nat} (h : faultN l ps ds i = 0) (hi : 0 < i) : ps.getD i 0 ≠ -1 := by
  intro e
  unfold faultN at h
  rw [if_pos ⟨hi, e⟩] at h
  cases h

theorem in_groups {l : List F} (h : ∀ j, j < l.length → faultN l (parents l) (depths l) j = 0) : ∀ p ∈ (parents l).drop 1, 0 ≤ p ∧ p < l.length := by
  intro p hp
  obtain ⟨j, hj⟩ := List.mem_iff_getElem?.1 hp
  rw [List.getElem?_drop] at hj
  have hlt : 1 + j < l.length := by have := (List.getElem?_eq_some_iff.1 hj).1; simpa using this
  have h1 := no_fault (h (1 + j) hlt) (by omega)
  rw [List.getD, hj] at h1
  rcases parents_lt hj with h2 | h2
  · exact absurd h2 h1
  · omega

set_option maxRecDepth 100000 in
set_option maxHeartbeats 1000000 in
theorem check_any (sv : Value) (l : List F) (w : World) (hS : SeenF w sv l) (hw : ∀ f ∈ l, f.c ≤ 9223372036854775807) (hn : ∀ f ∈ l, f.n.size ≤ 1000000) :
    Calls Try.prog 43 #[sv] w fun e w' => e = .returned (.int .i64 (chk l)) ∧ Chg [] w w' := by
  obtain ⟨ao, cap, rfl, hc1, hc2⟩ := hS.shape
  have HS := Lib.hid hS; have HW := Lib.hid hw; have HNM := Lib.hid hn
  clear hS hw hn
  obtain ⟨n, hnn⟩ : ∃ n, n = l.length := ⟨_, rfl⟩
  rw [← hnn] at hc1 HS ⊢
  have hnm : n ≤ 9223372036854775807 := by unfold maxLen at hc2; omega
  by_cases h1 : n < 1
  · have E := Lib.hid (show chk l = 4 by unfold chk; rw [if_pos (by omega)])
    clear hnn
    have d1 : decide ((n : Int) < 1) = true := by simp; omega
    go_enter Try.func43, Try.ntmps43
    go_wp2
    go_ret
    exact ⟨ret_int E.out.symm, Chg.refl [] w⟩
  have d1 : decide ((n : Int) < 1) = false := by simp; omega
  by_cases h2 : 40 < n
  · have E := Lib.hid (show chk l = 4 by unfold chk; rw [if_pos (by omega)])
    clear hnn
    have d2 : decide ((40 : Int) < (n : Int)) = true := by simp; omega
    go_enter Try.func43, Try.ntmps43
    go_wp2
    go_ret
    exact ⟨ret_int E.out.symm, Chg.refl [] w⟩
  have d2 : decide ((40 : Int) < (n : Int)) = false := by simp; omega
  have HE := Lib.hid (show chk l = if firstN (faultN l (parents l) (depths l)) n ≠ 0 then firstN (faultN l (parents l) (depths l)) n else if lacksB l (parents l) = true then 1 else 0 by unfold chk; rw [if_neg (by omega), ← hnn])
  have HN := Lib.hid hnn
  have eg : ∀ args w, (callFunc 71 args).run Try.prog w = .ok (.enter 71 args) w := Go.Proofs.enters_of Try.func71 (by kernel_rfl) rfl
  clear hnn
  go_enter Try.func43, Try.ntmps43
  go_wp2_with fail
  (with_reducible refine (parents_any _ l w HS.out (by rw [← HN.out]; omega) HW.out).mono ?_)
  rw [← HN.out]
  rintro e w1 ⟨rfl, hb1, hk1⟩
  have HB1 := Lib.hid hb1; have HC1 := Lib.hid hk1
  clear hb1 hk1
  go_wp2_with fail
  refine (count_any 71 #[] (fun i => decide (0 < i)) _ l w1 (HS.out.keep HC1.out) (by rw [← HN.out]; omega) HW.out eg (fun w' _ i _ => check1_any i w')).mono ?_
  rw [← HN.out]
  rintro e w2 ⟨rfl, hb2, hk2⟩
  have HD2 := Lib.hid (show BlkI w2 w1.heap.size (depths l) from hb2)
  have HB2 := Lib.hid (HB1.out.chg hk2 (by simp))
  have HC2 := Lib.hid (HC1.out.trans hk2 (by simp))
  clear hb2 hk2 HB1 HC1
  obtain ⟨B2, hB2⟩ : ∃ B2, B2 = w1.heap.size := ⟨_, rfl⟩
  rw [← hB2] at HD2 ⊢
  clear hB2
  go_wp2
  go_loopw [21] (fun x w' => ∃ k : Nat, x = .int .i64 (k : Int) ∧ k ≤ n ∧ Chg [] w2 w' ∧ ∀ j, j < k → faultN l (parents l) (depths l) j = 0) (fun x w' => n - (intOf x).toNat)
  case atStart => exact ⟨0, rfl, Nat.zero_le _, Chg.refl _ _, fun j hj => absurd hj (Nat.not_lt_zero j)⟩
  case round =>
    obtain ⟨k, rfl, hk, hc, hz⟩ := hrel
    have HC := Lib.hid hc; have HZ := Lib.hid hz
    clear hc hz
    by_cases hlt : k < n
    · go_wp2_with fail
      (with_reducible refine (fault_any _ _ _ l (parents l) (depths l) k _ (HS.out.keep (HC2.out.trans HC.out (by simp))) (by rw [HN.out, ← parents_length l]; exact (HB2.out.chg HC.out (by simp)).seen (by simp; rw [← HN.out]; unfold maxLen; omega)) (by rw [HN.out, ← depths_length l]; exact (HD2.out.chg HC.out (by simp)).seen (by simp; rw [← HN.out]; unfold maxLen; omega)) (parents_length l) (depths_length l) (by rw [← HN.out]; exact hlt) HNM.out).mono ?_)
      rintro e w3 ⟨rfl, hk3⟩
      have HC3 := Lib.hid (HC.out.trans hk3 (by simp))
      clear hk3
      obtain ⟨v, hv⟩ : ∃ v, v = faultN l (parents l) (depths l) k := ⟨_, rfl⟩
      rw [← hv]
      have HV := Lib.hid hv
      clear hv
      by_cases hv0 : v = 0
      · have e1 : (v != 0) = false := by simp [hv0]
        have HV0 := Lib.hid hv0
        clear hv0
        go_wp2
        go_roundw
        case rel =>
          refine ⟨k + 1, by go_num, by omega, HC3.out, fun j hj => ?_⟩
          by_cases e : j = k
          · rw [e, ← HV.out, HV0.out]
          · exact HZ.out j (by omega)
        case measure => simp [intOf]; omega
      · have E := Lib.hid (show chk l = v by
          have h := firstN_at (p := faultN l (parents l) (depths l)) HZ.out hlt (by rw [← HV.out]; exact hv0)
          rw [HE.out, h, ← HV.out, if_pos hv0])
        go_wp2
        go_ret
        exact ⟨ret_int E.out.symm, HC2.out.trans HC3.out (by simp)⟩
    · have ek : k = n := by omega
      have HZ2 := Lib.hid (show ∀ j, j < n → faultN l (parents l) (depths l) j = 0 by rw [← ek]; exact HZ.out)
      have E := Lib.hid (show chk l = if lacksB l (parents l) = true then 1 else 0 by
        have h := firstN_zero HZ2.out
        rw [HE.out, h, if_neg (by simp)])
      clear ek
      have hlk := lacks_any _ w.heap.size l (parents l) wr (HS.out.keep (HC2.out.trans HC.out (by simp))) (HB2.out.chg HC.out (by simp)) (parents_length l) (by rw [← HN.out]; omega) (by rw [← HN.out]; omega) (in_groups (by rw [← HN.out]; exact HZ2.out))
      rw [← HN.out] at hlk
      have HLK := Lib.hid hlk
      clear hlk
      go_wp2_with fail
      (with_reducible refine HLK.out.mono ?_)
      rintro e w3 ⟨rfl, hk3⟩
      have HC3 := Lib.hid (HC2.out.trans (HC.out.trans hk3 (by simp)) (by simp))
      clear hk3
      cases hb : lacksB l (parents l)
      all_goals
        rw [hb] at E
        clear hb
        go_wp2
        go_ret
        exact ⟨ret_int E.out.symm, HC3.out⟩

end Go.Proofs.Ytfdmbpfpdijpdaa

namespace Go.Proofs.Ytfdmbpfpdijpdaa
open Go.RowKit
set_option linter.unusedVariables false

theorem info_leaf : ∃ i, Try.prog.info? 52 = some i ∧ i.zero = some (.agg #[.int .i64 0, .int .i64 0, .int .i64 0, .int .i64 0]) ∧ i.size = 4 ∧ i.bytes = 32 :=
  info_parts (show (Try.prog.info? 52).map (fun i => (i.zero, i.size, i.bytes)) = some (some (.agg #[.int .i64 0, .int .i64 0, .int .i64 0, .int .i64 0]), 4, 32) by kernel_rfl)
theorem info_field : ∃ i, Try.prog.info? 62 = some i ∧ i.zero = some (.agg #[.string ByteArray.empty, .int .i64 0, .int .i64 0, .int .i64 0]) ∧ i.size = 4 ∧ i.bytes = 40 :=
  info_parts (show (Try.prog.info? 62).map (fun i => (i.zero, i.size, i.bytes)) = some (some (.agg #[.string ByteArray.empty, .int .i64 0, .int .i64 0, .int .i64 0]), 4, 40) by kernel_rfl)

theorem L.one (x : L) : ∀ u ∈ L.cs x, u.oneCell' = true := by
  intro u hu
  simp [L.cs] at hu
  rcases hu with rfl | rfl | rfl | rfl <;> rfl
theorem F.one (x : F) : ∀ u ∈ F.cs x, u.oneCell' = true := by
  intro u hu
  simp [F.cs] at hu
  rcases hu with rfl | rfl | rfl | rfl <;> rfl

def repB (l : List F) (i : Nat) : Bool := decide ((l.getD i default).r = 2)
def optB (l : List F) (i : Nat) : Bool := decide ((l.getD i default).r ≠ 0)
def rls (l : List F) : List Int := cntL (repB l) (parents l)
def dls (l : List F) : List Int := cntL (optB l) (parents l)
@[simp] theorem rls_length (l : List F) : (rls l).length = l.length := by simp [rls]
@[simp] theorem dls_length (l : List F) : (dls l).length = l.length := by simp [dls]

/-- The leaf that field i is, if it is one. -/
def leafAt (l : List F) (i : Nat) : List L := if (l.getD i default).k ≠ 0 then [⟨i, (rls l).getD i 0, (dls l).getD i 0, (l.getD i default).k⟩] else []
def leavesTo (l : List F) (n : Nat) : List L := (List.range n).flatMap (leafAt l)
def leavesL (l : List F) : List L := leavesTo l l.length
theorem leavesTo_succ (l : List F) (n : Nat) : leavesTo l (n + 1) = leavesTo l n ++ leafAt l n := by
  simp [leavesTo, List.range_succ, List.flatMap_append]
theorem leavesTo_le (l : List F) (n : Nat) : (leavesTo l n).length ≤ n := by
  induction n with
  | zero => simp [leavesTo]
  | succ n ih =>
    rw [leavesTo_succ, List.length_append]
    have : (leafAt l n).length ≤ 1 := by unfold leafAt; split <;> simp
    omega

theorem held3 {wb w3 : World} {o : Obj} {B1 B2 Bx k : Nat} {v x y z : Value} {lo : Nat} (h : wb.cell? ⟨B1, k, none⟩ = some x ∧ wb.cell? ⟨B2, k, none⟩ = some y ∧ wb.cell? ⟨Bx, 2, none⟩ = some z) (hg : (wb.drew.alloc o).grownBy w3 v.ownBlock)
    (hq : ∀ q, v.ownBlock = some q → q ≠ B1 ∧ q ≠ B2 ∧ q ≠ Bx ∧ lo ≤ q) : w3.cell? ⟨B1, k, none⟩ = some x ∧ w3.cell? ⟨B2, k, none⟩ = some y ∧ w3.cell? ⟨Bx, 2, none⟩ = some z := by
  have hc := ((Chg.refl v.ownBlock.toList wb).drew.alloc o).grown hg (fun q hq => .inl (by simp [← hq]))
  refine ⟨hc.cell h.1 ?_, hc.cell h.2.1 ?_, hc.cell h.2.2 ?_⟩
  all_goals
    intro hm
    have hq' := hq _ (by simpa using hm)
    first
    | exact hq'.1 rfl
    | exact hq'.2.1 rfl
    | exact hq'.2.2.1 rfl

set_option maxHeartbeats 400000 in
theorem leaves1_any (B : Nat) (sv : Value) (l : List F) (i : Nat) (w : World) (hB : w.cell? ⟨B, 0, none⟩ = some sv) (hS : SeenF w sv l) (hi : i < l.length) :
    Calls Try.prog 74 #[.int .i64 (i : Int), .pointer (some ⟨B, 0, none⟩)] w fun e w' => e = .returned (.bool (repB l i)) ∧ Chg [] w w' := by
  obtain ⟨ao, cap, rfl, hc1, hc2⟩ := hS.shape
  obtain ⟨n, hn⟩ : ∃ n, n = l.length := ⟨_, rfl⟩
  rw [← hn] at hi hc1 hB hS
  obtain ⟨g, off, rfl, hcs⟩ := hS.get (by omega) hn.symm
  obtain ⟨a1, a2, a3, a4⟩ := hcs i hi
  clear hS hcs hn a1 a3 a4
  obtain ⟨r, hr⟩ : ∃ r, r = (l.getD i default).r := ⟨_, rfl⟩
  have E := Lib.hid (show repB l i = (r == 2) by unfold repB; rw [hr]; rfl)
  rw [← hr] at a2
  clear hr
  go_enter Try.func74, Try.ntmps74
  go_wp2
  go_ret
  exact ⟨ret_bool E.out.symm, Chg.refl [] w⟩

set_option maxHeartbeats 400000 in
theorem leaves2_any (B : Nat) (sv : Value) (l : List F) (i : Nat) (w : World) (hB : w.cell? ⟨B, 0, none⟩ = some sv) (hS : SeenF w sv l) (hi : i < l.length) :
    Calls Try.prog 75 #[.int .i64 (i : Int), .pointer (some ⟨B, 0, none⟩)] w fun e w' => e = .returned (.bool (optB l i)) ∧ Chg [] w w' := by
  obtain ⟨ao, cap, rfl, hc1, hc2⟩ := hS.shape
  obtain ⟨n, hn⟩ : ∃ n, n = l.length := ⟨_, rfl⟩
  rw [← hn] at hi hc1 hB hS
  obtain ⟨g, off, rfl, hcs⟩ := hS.get (by omega) hn.symm
  obtain ⟨a1, a2, a3, a4⟩ := hcs i hi
  clear hS hcs hn a1 a3 a4
  obtain ⟨r, hr⟩ : ∃ r, r = (l.getD i default).r := ⟨_, rfl⟩
  have E := Lib.hid (show optB l i = (r != 0) by unfold optB; rw [← hr]; by_cases h : r = 0 <;> simp [h])
  rw [← hr] at a2
  clear hr
  go_enter Try.func75, Try.ntmps75
  go_wp2
  go_ret
  exact ⟨ret_bool E.out.symm, Chg.refl [] w⟩

set_option maxRecDepth 100000 in
set_option maxHeartbeats 1000000 in
theorem leaves_any (sv : Value) (l : List F) (w : World) (hS : SeenF w sv l) (hl : l.length ≤ 1000000) (hw : ∀ f ∈ l, f.c ≤ 9223372036854775807) :
    Calls Try.prog 44 #[sv] w fun e w' => ∃ v, e = .returned v ∧ SeenL w' v (leavesL l) ∧ Chg [] w w' := by
  obtain ⟨i0, hi, hz0, hz1, hz2⟩ := info_leaf
  obtain ⟨ao, cap, rfl, hc1, hc2⟩ := hS.shape
  have HS := Lib.hid hS; have HW := Lib.hid hw
  clear hS hw
  obtain ⟨n, hn⟩ : ∃ n, n = l.length := ⟨_, rfl⟩
  rw [← hn] at hc1 HS ⊢
  have HN := Lib.hid hn; have HL := Lib.hid hl
  have hn2 : n ≤ 1000000 := by omega
  clear hl hn
  have hmf : ∀ (fn : Fn) (first cap : Array Value) (w : World), (Instr.makeFunc fn first cap).run Try.prog w = .ok (.func fn first cap) w := fun _ _ _ _ => rfl
  have eg1 : ∀ args w, (callFunc 74 args).run Try.prog w = .ok (.enter 74 args) w := Go.Proofs.enters_of Try.func74 (by kernel_rfl) rfl
  have eg2 : ∀ args w, (callFunc 75 args).run Try.prog w = .ok (.enter 75 args) w := Go.Proofs.enters_of Try.func75 (by kernel_rfl) rfl
  have hA := (Chg.refl [] w).alloc (.cells #[.slice ao n cap] 26)
  have hcell : (w.alloc (.cells #[.slice ao n cap] 26)).cell? ⟨w.heap.size, 0, none⟩ = some (.slice ao n cap) := by simp
  have HA := Lib.hid hA; have HCL := Lib.hid hcell
  clear hA hcell
  have HP1 := Lib.hid (show ∀ w', Chg [] (w.alloc (.cells #[.slice ao n cap] 26)) w' → ∀ i : Nat, i < l.length → Calls Try.prog 74 (#[.int .i64 (i : Int)] ++ #[.pointer (some ⟨w.heap.size, 0, none⟩)]) w' fun e w'' => e = .returned (.bool (repB l i)) ∧ Chg [] w' w'' from
    fun w' hk i hi => leaves1_any w.heap.size _ l i w' (hk.cell HCL.out (by simp)) (HS.out.keep (HA.out.trans hk (by simp))) hi)
  go_enter Try.func44, Try.ntmps44
  go_wp2_with fail
  (with_reducible refine (count_any 74 #[.pointer (some ⟨w.heap.size, 0, none⟩)] (repB l) _ l _ (HS.out.keep HA.out) (by rw [← HN.out]; omega) HW.out eg1 HP1.out).mono ?_)
  rw [← HN.out]
  rintro e w1 ⟨rfl, hb1, hk1⟩
  have HR1 := Lib.hid (show BlkI w1 (w.heap.size + 1) (rls l) by simpa [rls] using hb1)
  have HC1 := Lib.hid (HA.out.trans hk1 (by simp))
  have hcell1 := hk1.cell HCL.out (by simp)
  have HCL1 := Lib.hid hcell1
  clear hb1 hk1
  have HP2 := Lib.hid (show ∀ w', Chg [] w1 w' → ∀ i : Nat, i < l.length → Calls Try.prog 75 (#[.int .i64 (i : Int)] ++ #[.pointer (some ⟨w.heap.size, 0, none⟩)]) w' fun e w'' => e = .returned (.bool (optB l i)) ∧ Chg [] w' w'' from
    fun w' hk i hi => leaves2_any w.heap.size _ l i w' (hk.cell HCL1.out (by simp)) (HS.out.keep (HC1.out.trans hk (by simp))) hi)
  go_wp2_with fail
  (with_reducible refine (count_any 75 #[.pointer (some ⟨w.heap.size, 0, none⟩)] (optB l) _ l _ (HS.out.keep HC1.out) (by rw [← HN.out]; omega) HW.out eg2 HP2.out).mono ?_)
  rw [← HN.out]
  rintro e w2 ⟨rfl, hb2, hk2⟩
  obtain ⟨B2, hB2⟩ : ∃ B2, B2 = w1.heap.size := ⟨_, rfl⟩
  have HR2 := Lib.hid (HR1.out.chg hk2 (by simp))
  have HD2 := Lib.hid (show BlkI w2 B2 (dls l) by rw [hB2]; exact hb2)
  have HC2 := Lib.hid (HC1.out.trans hk2 (by simp))
  have hcl2 := hk2.cell HCL1.out (by simp)
  clear hb2 hk2 hcell1
  rw [← hB2]
  clear hB2
  go_wp2
  obtain ⟨B1, hB1⟩ : ∃ B1, B1 = w.heap.size + 1 := ⟨_, rfl⟩
  rw [← hB1] at HR2 ⊢
  clear hB1
  go_loopw [5, 16] (fun lv x w' => ∃ k : Nat, x = .int .i64 (k : Int) ∧ k ≤ n ∧ Chg [] w2 w' ∧ w'.ownsRow w2.heap.size 52 4 lv (leavesTo l k).length ((leavesTo l k).flatMap L.cs)) (fun _ x w' => n - (intOf x).toNat)
  case atStart => exact ⟨0, rfl, Nat.zero_le _, Chg.refl _ _, ⟨rfl, .inl ⟨rfl, rfl⟩⟩⟩
  case round =>
    obtain ⟨k, rfl, hk, hc, ho⟩ := hrel
    obtain ⟨ao5, cap5, rfl⟩ := own_shape ho
    have HC := Lib.hid hc; have HO := Lib.hid ho
    clear hc ho
    by_cases hlt : k < n
    · obtain ⟨gs, off, rfl, hcs⟩ := HS.out.get (by omega) HN.out.symm
      obtain ⟨a1, a2, a3, a4⟩ := hcs k hlt
      obtain ⟨f, hf⟩ : ∃ f, f = l.getD k default := ⟨_, rfl⟩
      rw [← hf] at a1 a2 a3 a4
      have HF := Lib.hid hf
      have hcw : Chg [] w wr := HC2.out.trans HC.out (by simp)
      have b1 := hcw.cell a1 (by simp)
      have b2 := hcw.cell a2 (by simp)
      have b3 := hcw.cell a3 (by simp)
      have b4 := hcw.cell a4 (by simp)
      clear hcs hf a1 a2 a3 a4 hcw
      obtain ⟨rr, hrr⟩ : ∃ x, x = (rls l).getD k 0 := ⟨_, rfl⟩
      obtain ⟨dd, hdd⟩ : ∃ x, x = (dls l).getD k 0 := ⟨_, rfl⟩
      have br : (wr.alloc (.cells #[.string f.n, .int .i64 f.r, .int .i64 f.k, .int .i64 f.c] 62)).cell? ⟨B1, k, none⟩ = some (.int .i64 rr) := ((Chg.refl [] wr).alloc _).cell ((HR2.out.chg HC.out (by simp)).cell (by rw [hrr, List.getD, List.getElem?_eq_getElem (by rw [rls_length, ← HN.out]; exact hlt)]; rfl)) (by simp)
      have bd : (wr.alloc (.cells #[.string f.n, .int .i64 f.r, .int .i64 f.k, .int .i64 f.c] 62)).cell? ⟨B2, k, none⟩ = some (.int .i64 dd) := ((Chg.refl [] wr).alloc _).cell ((HD2.out.chg HC.out (by simp)).cell (by rw [hdd, List.getD, List.getElem?_eq_getElem (by rw [dls_length, ← HN.out]; exact hlt)]; rfl)) (by simp)
      have HLA := Lib.hid (show leafAt l k = if f.k ≠ 0 then [⟨k, rr, dd, f.k⟩] else [] by unfold leafAt; rw [HF.out, hrr, hdd])
      have HCA := Lib.hid (HC.out.alloc (.cells #[.string f.n, .int .i64 f.r, .int .i64 f.k, .int .i64 f.c] 62))
      clear hrr hdd
      by_cases hk0 : f.k = 0
      · have e1 : (f.k != 0) = false := by simp [hk0]
        have E := Lib.hid (show leavesTo l (k + 1) = leavesTo l k by rw [leavesTo_succ, HLA.out, if_neg (by simp [hk0]), List.append_nil])
        clear hk0
        go_wp2
        go_roundw
        case rel => exact ⟨k + 1, by go_num, by omega, HCA.out, by rw [E.out]; exact HO.out.alloc _⟩
        case measure => simp [intOf]; omega
      · have e1 : (f.k != 0) = true := by simp [hk0]
        have E := Lib.hid (show leavesTo l (k + 1) = leavesTo l k ++ [⟨k, rr, dd, f.k⟩] by rw [leavesTo_succ, HLA.out, if_pos hk0])
        have hml := leavesTo_le l k
        obtain ⟨m, hm⟩ : ∃ m, m = (leavesTo l k).length := ⟨_, rfl⟩
        obtain ⟨Y, hY⟩ : ∃ Y, Y = (leavesTo l k).flatMap L.cs := ⟨_, rfl⟩
        rw [← hm] at hml
        rw [← hm, ← hY] at HO
        rw [← hm]
        have HM := Lib.hid hm; have HY := Lib.hid hY
        clear hm hY hk0
        have bk : (wr.alloc (.cells #[.string f.n, .int .i64 f.r, .int .i64 f.k, .int .i64 f.c] 62)).cell? ⟨wr.heap.size, 2, none⟩ = some (.int .i64 f.k) := by simp
        have HOB := Lib.hid (HO.out.alloc (.cells #[.string f.n, .int .i64 f.r, .int .i64 f.k, .int .i64 f.c] 62))
        have hwz : (wr.alloc (.cells #[.string f.n, .int .i64 f.r, .int .i64 f.k, .int .i64 f.c] 62)).heap.size = wr.heap.size + 1 := by simp
        have hbs : w2.heap.size ≤ wr.heap.size := HC.out.size
        have HWZ := Lib.hid hwz
        clear hwz
        have hm2 : m + 1 ≤ maxLen := by unfold maxLen; omega
        have hm3 : (m + 1) * 32 ≤ 140737488355328 := by omega
        have HM2 := Lib.hid hm2; have HM3 := Lib.hid hm3
        clear hm2 hm3
        go_wp2_with fail
        obtain ⟨wb, hwb⟩ : ∃ wb, wb = wr.alloc (.cells #[.string f.n, .int .i64 f.r, .int .i64 f.k, .int .i64 f.c] 62) := ⟨_, rfl⟩
        obtain ⟨Bx, hBx⟩ : ∃ Bx, Bx = wr.heap.size := ⟨_, rfl⟩
        rw [← hwb] at br bd bk HOB HCA HWZ ⊢
        rw [← hBx] at bk HWZ hbs ⊢
        have HBD := Lib.hid (show wb.cell? ⟨B1, k, none⟩ = some (.int .i64 rr) ∧ wb.cell? ⟨B2, k, none⟩ = some (.int .i64 dd) ∧ wb.cell? ⟨Bx, 2, none⟩ = some (.int .i64 f.k) from ⟨br, bd, bk⟩)
        have HTG := Lib.hid (show wb.heap[Bx]? = some (.cells #[.string f.n, .int .i64 f.r, .int .i64 f.k, .int .i64 f.c] 62 (0, 0)) by rw [hwb, hBx]; exact heap_alloc_new wr _)
        clear b1 b2 b3 b4 hcl2 hwb hBx HO HC br bd bk
        have hsz : w2.heap.size ≤ wb.heap.size := HCA.out.size
        have HSZ := Lib.hid hsz
        clear hsz
        have HQ := Lib.hid (show ∀ q, (Value.slice ao5 m cap5).ownBlock = some q → q ≠ B1 ∧ q ≠ B2 ∧ q ≠ Bx ∧ w2.heap.size ≤ q from fun q hq => by
          have h1 := own_ge HOB.out q hq
          have h2 := HR2.out.lt
          have h3 := HD2.out.lt
          exact ⟨by omega, by omega, (tagged_of_own HOB.out).ne HTG.out (by decide) q hq, h1⟩)
        go_region_held3 (fun w' => w'.cell? ⟨B1, k, none⟩ = some (.int .i64 rr) ∧ w'.cell? ⟨B2, k, none⟩ = some (.int .i64 dd) ∧ w'.cell? ⟨Bx, 2, none⟩ = some (.int .i64 f.k)) (first | (exact HBD.out) | (exact HS3.out) | (exact ⟨((Chg.refl [] _).drew.alloc _).cell HBD.out.1 (by simp), ((Chg.refl [] _).drew.alloc _).cell HBD.out.2.1 (by simp), ((Chg.refl [] _).drew.alloc _).cell HBD.out.2.2 (by simp)⟩)) (first
          | (refine step_append_cells (by rfl) (.tmp 24) (.tmp 37) 49 (by rfl) w2.heap.size 52 i0 (.agg #[.int .i64 0, .int .i64 0, .int .i64 0, .int .i64 0]) 4 32 Try.underlying49 hi hz0 hz1 hz2 (by rfl) (by decide) (.slice ao5 m cap5) m Y (by rfl) (HOB.out.alloc _) ⟨wb.heap.size, 0, none⟩ 1 1 (L.cs ⟨k, rr, dd, f.k⟩) (by rfl) (by rfl) (new_cells (C := #[.int .i64 (k : Int), .int .i64 rr, .int .i64 dd, .int .i64 f.k]) wb.heap.size rfl) (L.one _) HM2.out HM3.out (Nat.le_trans HSZ.out ((Chg.refl [] wb).drew.alloc _).size) ?_; intro v3 w3 hown hgrow; obtain ⟨ao3, cap3, rfl⟩ := own_shape hown; have HO3 := Lib.hid hown; have HC3 := Lib.hid ((HCA.out.drew.alloc (.cells #[.int .i64 (k : Int), .int .i64 rr, .int .i64 dd, .int .i64 f.k] 52)).grown hgrow (fun q hq => .inr (HQ.out q hq).2.2.2)); have HS3 := Lib.hid (show w3.cell? ⟨B1, k, none⟩ = some (.int .i64 rr) ∧ w3.cell? ⟨B2, k, none⟩ = some (.int .i64 dd) ∧ w3.cell? ⟨Bx, 2, none⟩ = some (.int .i64 f.k) from held3 HBD.out hgrow HQ.out); clear hown hgrow))
        go_wp2
        go_roundw
        case rel =>
          refine ⟨k + 1, by go_num, by omega, HC3.out, ?_⟩
          rw [E.out, List.length_append, List.flatMap_append, ← HM.out, ← HY.out]
          simpa using HO3.out
        case measure => simp [intOf]; omega
    · have ek : k = n := by omega
      have E := Lib.hid (show leavesTo l k = leavesL l by rw [ek, HN.out]; rfl)
      clear ek
      go_wp2
      go_ret
      exact ⟨_, rfl, by rw [← E.out]; exact SeenL.own HO.out rfl, HC2.out.trans HC.out (by simp)⟩

end Go.Proofs.Ytfdmbpfpdijpdaa

namespace Go.Proofs.Ytfdmbpfpdijpdaa
open Go.RowKit
set_option linter.unusedVariables false

theorem SeenF.nil (w : World) : SeenF w (.slice none 0 0) [] := ⟨none, 0, rfl, Nat.le_refl _, by decide, fun h => absurd h (by simp)⟩

theorem chk_nil : chk [] = 4 := rfl

end Go.Proofs.Ytfdmbpfpdijpdaa

namespace Go.Proofs.Ytfdmbpfpdijpdaa
open Go.RowKit
set_option linter.unusedVariables false

abbrev bm : ByteArray := { data := #[109] }
abbrev ba : ByteArray := { data := #[97] }
abbrev bg : ByteArray := { data := #[103] }
abbrev bz : ByteArray := { data := #[122] }

def chain (m : Nat) : List Int := (List.range m).map fun (j : Nat) => (j : Int) - 1
@[simp] theorem chain_length (m : Nat) : (chain m).length = m := by simp [chain]
theorem chain_get (m j : Nat) (h : j < m) : (chain m)[j]? = some ((j : Int) - 1) := by simp [chain, h]
theorem chain_succ (m : Nat) : chain (m + 1) = chain m ++ [(m : Int) - 1] := by simp [chain, List.range_succ]

theorem countP_succ (b : Nat → Bool) (m : Nat) : (((List.range (m + 1)).countP b : Nat) : Int) = (((List.range m).countP b : Nat) : Int) + (if b m then 1 else 0) := by
  rw [List.range_succ, List.countP_append]
  by_cases h : b m = true <;> simp [h]

theorem cntL_chain (b : Nat → Bool) (m : Nat) : cntL b (chain m) = (List.range m).map fun (j : Nat) => (((List.range (j + 1)).countP b : Nat) : Int) := by
  induction m with
  | zero => rfl
  | succ m ih =>
    rw [chain_succ, cntL_snoc, ih, List.range_succ, List.map_append]
    congr 1
    simp only [List.map_cons, List.map_nil, List.length_map, List.length_range]
    congr 1
    rw [countP_succ]
    congr 1
    cases m with
    | zero => rfl
    | succ m =>
      rw [if_neg (by omega)]
      have e : (((m + 1 : Nat) : Int) - 1).toNat = m := by omega
      rw [e]
      simp [List.getD]

theorem par_groups (gl : List F) (z : F) (hg : ∀ f ∈ gl, f.k = 0 ∧ f.c = 1) (i : Nat) (t : List (Nat × Int)) : par (i + 1) (gl ++ [z]) ((i, 1) :: t) = (List.range (gl.length + 1)).map fun (j : Nat) => (i : Int) + j := by
  induction gl generalizing i t with
  | nil => simp [par, popS, topS]
  | cons f gl ih =>
    obtain ⟨h1, h2⟩ := hg f (by simp)
    have hr : List.range (gl.length + 1 + 1) = 0 :: (List.range (gl.length + 1)).map Nat.succ := List.range_succ_eq_map
    have hi := ih (fun f hf => hg f (by simp [hf])) (i + 1) ((i, 0) :: t)
    simp only [List.cons_append, par, popS, topS, decS, pushS, h1, h2, List.length_cons, hr, List.map_cons, List.map_map]
    simp only [show ¬ ((1 : Int) < 1) by decide, if_false, if_true]
    rw [show ((1 : Int) - 1) = 0 from rfl, hi]
    have e : (List.range (gl.length + 1)).map (fun (j : Nat) => ((i + 1 : Nat) : Int) + (j : Int)) = (List.range (gl.length + 1)).map ((fun (j : Nat) => (i : Int) + (j : Int)) ∘ Nat.succ) := by
      apply List.map_congr_left
      intro j _
      simp only [Function.comp]
      omega
    rw [e]
    simp

theorem parents_deep (f z : F) (gl : List F) (hf : f.k = 0 ∧ f.c = 1) (hg : ∀ f ∈ gl, f.k = 0 ∧ f.c = 1) : parents (f :: (gl ++ [z])) = chain (gl.length + 2) := by
  unfold parents
  have h := par_groups gl z hg 0 []
  have hr : List.range (gl.length + 1 + 1) = 0 :: (List.range (gl.length + 1)).map Nat.succ := List.range_succ_eq_map
  simp only [par, popS, topS, decS, pushS, hf.1, hf.2, if_true, chain, hr, List.map_cons, List.map_map]
  rw [h]
  congr 1
  apply List.map_congr_left
  intro j _
  simp only [Function.comp]
  omega

/-- Groups in one another, a leaf within. -/
def deepG (R : Nat → Int) (n : Nat) : List F := (List.range n).map fun i => ⟨bg, R i, 0, 1⟩
def deepL (R : Nat → Int) (rz : Int) (n : Nat) : List F := ⟨bm, 0, 0, 1⟩ :: (deepG R n ++ [⟨bz, rz, 3, 0⟩])
@[simp] theorem deepG_length (R : Nat → Int) (n : Nat) : (deepG R n).length = n := by simp [deepG]
@[simp] theorem deepL_length (R : Nat → Int) (rz : Int) (n : Nat) : (deepL R rz n).length = n + 2 := by simp [deepL]
theorem deepG_succ (R : Nat → Int) (n : Nat) : deepG R (n + 1) = deepG R n ++ [⟨bg, R n, 0, 1⟩] := by simp [deepG, List.range_succ]

theorem deep_get (R : Nat → Int) (rz : Int) (n j : Nat) (h : j < n + 2) : (deepL R rz n).getD j default = if j = 0 then ⟨bm, 0, 0, 1⟩ else if j = n + 1 then ⟨bz, rz, 3, 0⟩ else ⟨bg, R (j - 1), 0, 1⟩ := by
  cases j with
  | zero => rfl
  | succ j =>
    unfold deepL
    rw [List.getD_cons_succ, if_neg (by omega)]
    by_cases e : j = n
    · subst e
      simp [List.getD]
    · have hj : j < n := by omega
      rw [if_neg (by omega)]
      simp [List.getD, List.getElem?_append_left, deepG, hj]

theorem deep_parents (R : Nat → Int) (rz : Int) (n : Nat) : parents (deepL R rz n) = chain (n + 2) := by
  have h := parents_deep ⟨bm, 0, 0, 1⟩ ⟨bz, rz, 3, 0⟩ (deepG R n) ⟨rfl, rfl⟩ (by
    intro f hf
    simp [deepG] at hf
    obtain ⟨i, _, rfl⟩ := hf
    exact ⟨rfl, rfl⟩)
  rw [deepG_length] at h
  exact h

theorem chain_getD (m j : Nat) (h : j < m) : (chain m).getD j 0 = (j : Int) - 1 := by rw [List.getD, chain_get m j h]; rfl

theorem deep_depths (R : Nat → Int) (rz : Int) (n j : Nat) (h : j < n + 2) : (depths (deepL R rz n)).getD j 0 = j := by
  unfold depths
  rw [deep_parents, cntL_chain]
  have e : ∀ j : Nat, (((List.range (j + 1)).countP (fun i => decide (0 < i)) : Nat) : Int) = j := by
    intro j
    induction j with
    | zero => rfl
    | succ j ih => rw [countP_succ, ih]; simp
  simp only [List.getD, List.getElem?_map, List.getElem?_range h, Option.map_some, Option.getD_some]
  exact e j

theorem deep_fault (R : Nat → Int) (rz : Int) (n j : Nat) (h : j < n + 2) (hR : ∀ i, 0 ≤ R i ∧ R i ≤ 2) (hz : 0 ≤ rz ∧ rz ≤ 2) : faultN (deepL R rz n) (parents (deepL R rz n)) (depths (deepL R rz n)) j = if 8 < j then 11 else 0 := by
  have hp : (parents (deepL R rz n)).getD j 0 = (j : Int) - 1 := by rw [deep_parents, chain_getD _ _ h]
  have hd := deep_depths R rz n j h
  have ht : takenB (deepL R rz n) (parents (deepL R rz n)) j = false := by
    rw [Bool.eq_false_iff]
    intro ht
    unfold takenB at ht
    rw [List.any_eq_true] at ht
    obtain ⟨k, hk, hs⟩ := ht
    have hkj := List.mem_range.1 hk
    unfold sameN at hs
    rw [deep_parents, chain_getD _ _ h, chain_getD _ _ (by omega)] at hs
    simp at hs
    omega
  unfold faultN
  rw [hp, hd, ht, deep_get R rz n j h]
  rw [if_neg (by omega)]
  by_cases h8 : 8 < j
  · rw [if_pos (by omega), if_pos h8]
  · rw [if_neg (by omega), if_neg h8]
    have e1 : nameB (bl bm) = true := by decide
    have e2 : nameB (bl bg) = true := by decide
    have e3 : nameB (bl bz) = true := by decide
    have hRj := hR (j - 1)
    by_cases h0 : j = 0
    · simp [h0, e1, knownB, rootB, haveB]
    · by_cases hn : j = n + 1
      · simp [hn, e3, knownB, haveB, hz]
      · simp [h0, hn, e2, knownB, haveB, hRj]

theorem deep_lacks (R : Nat → Int) (rz : Int) (n : Nat) : lacksB (deepL R rz n) (parents (deepL R rz n)) = false := by
  rw [Bool.eq_false_iff]
  intro h
  unfold lacksB at h
  rw [List.any_eq_true] at h
  obtain ⟨k, hk, hs⟩ := h
  have hkj := List.mem_range.1 hk
  rw [deepL_length] at hkj
  unfold fewB at hs
  rw [deep_get R rz n k hkj, deep_parents] at hs
  have hs := of_decide_eq_true hs
  by_cases hn : k = n + 1
  · rw [if_neg (by omega), if_pos hn] at hs
    simp only at hs
    omega
  · have hm : ((k : Int)) ∈ (chain (n + 2)).drop 1 := by
      rw [List.mem_iff_getElem?]
      refine ⟨k, ?_⟩
      rw [List.getElem?_drop, chain_get _ _ (by omega)]
      congr 1
      omega
    have hc : 0 < ((chain (n + 2)).drop 1).count (k : Int) := List.count_pos_iff.2 hm
    by_cases h0 : k = 0
    · rw [if_pos h0] at hs
      simp only at hs
      omega
    · rw [if_neg h0, if_neg hn] at hs
      simp only at hs
      omega

theorem deep_chk (R : Nat → Int) (rz : Int) (n : Nat) (hn : n ≤ 11) (hR : ∀ i, 0 ≤ R i ∧ R i ≤ 2) (hz : 0 ≤ rz ∧ rz ≤ 2) : chk (deepL R rz n) = if 8 < n + 1 then 11 else 0 := by
  unfold chk
  rw [deepL_length, if_neg (by omega)]
  by_cases h : 8 < n + 1
  · have e := firstN_at (p := faultN (deepL R rz n) (parents (deepL R rz n)) (depths (deepL R rz n))) (n := n + 2) (k := 9) (fun j hj => by rw [deep_fault R rz n j (by omega) hR hz, if_neg (by omega)]) (by omega) (by rw [deep_fault R rz n 9 (by omega) hR hz]; decide)
    rw [e, deep_fault R rz n 9 (by omega) hR hz, if_pos h]
    rfl
  · have e := firstN_zero (p := faultN (deepL R rz n) (parents (deepL R rz n)) (depths (deepL R rz n))) (n := n + 2) (fun j hj => by rw [deep_fault R rz n j hj hR hz, if_neg (by omega)])
    rw [e, deep_lacks, if_neg h]
    rfl

theorem flatMap_range_zero {α : Type} (g : Nat → List α) (m : Nat) (h : ∀ j, j < m → g j = []) : (List.range m).flatMap g = [] := by
  induction m with
  | zero => rfl
  | succ m ih => rw [List.range_succ, List.flatMap_append, ih fun j hj => h j (by omega)]; simp [h m (by omega)]

theorem deep_leaves (R : Nat → Int) (rz : Int) (n : Nat) : leavesL (deepL R rz n) = [⟨(n + 1 : Nat), (((List.range (n + 2)).countP (repB (deepL R rz n)) : Nat) : Int), (dls (deepL R rz n)).getD (n + 1) 0, 3⟩] := by
  unfold leavesL
  rw [deepL_length, show n + 2 = (n + 1) + 1 from rfl, leavesTo_succ]
  have h0 : leavesTo (deepL R rz n) (n + 1) = [] := by
    apply flatMap_range_zero
    intro j hj
    unfold leafAt
    rw [deep_get R rz n j (by omega), if_neg (show ¬ j = n + 1 by omega)]
    split <;> simp
  rw [h0, List.nil_append]
  unfold leafAt
  rw [deep_get R rz n (n + 1) (by omega), if_neg (show ¬ (n + 1 = 0) by omega), if_pos rfl, if_pos (by simp)]
  congr 2
  unfold rls
  rw [deep_parents, cntL_chain]
  simp only [List.getD, List.getElem?_map, List.getElem?_range (show n + 1 < n + 2 by omega), Option.map_some, Option.getD_some]

end Go.Proofs.Ytfdmbpfpdijpdaa

namespace Go.Proofs.Ytfdmbpfpdijpdaa
open Go.RowKit
set_option linter.unusedVariables false

/-- One field more in group g. -/
def bump (s : List F) (g : Nat) : List F := s.set g { s.getD g default with c := (s.getD g default).c + 1 }
@[simp] theorem bump_length (s : List F) (g : Nat) : (bump s g).length = s.length := by simp [bump]

/-- Up to k groups are left, the innermost first, as long as they have fields; the root never. -/
def popK : Nat → List F → List Nat → List Nat
  | 0, _, o => o
  | _ + 1, _, [] => []
  | k + 1, s, g :: t => if t ≠ [] ∧ 0 < (s.getD g default).c then popK k s t else g :: t

def kindM (x : Int) (o : List Nat) : Int := if 4 < o.length ∧ (x % 8) % 5 = 0 then 2 else (x % 8) % 5
def fieldM (i : Nat) (x : Int) (o : List Nat) : F := ⟨str [97 + i], (x.tdiv 8) % 3, kindM x o, 0⟩

structure MS where
  s : List F
  o : List Nat

def stepM (i : Nat) (x : Int) (m : MS) : MS :=
  let o := popK ((x.tdiv 64) % 3).toNat m.s m.o
  { s := bump m.s (o.headD 0) ++ [fieldM i x o], o := if kindM x o = 0 then m.s.length :: o else o }

def goM : List Int → Nat → MS → MS
  | [], _, m => m
  | x :: l, i, m => if i < 12 then goM l (i + 1) (stepM i x m) else m

def finM (m : MS) : List F := if (m.s.getD (m.o.headD 0) default).c = 0 then bump m.s (m.o.headD 0) ++ [⟨bz, 0, 4, 0⟩] else m.s

def startM : MS := { s := [⟨bm, 0, 0, 0⟩], o := [0] }
def mk (ns : List Int) : List F := finM (goM ns 0 startM)

/-- The groups that are open are fields, each within the next one; the root is the last. -/
structure Okm (i : Nat) (m : MS) : Prop where
  len : m.s.length = i + 1
  ne : m.o ≠ []
  lt : ∀ g ∈ m.o, g < i + 1
  sm : m.o.length ≤ 5
  cb : ∀ f ∈ m.s, 0 ≤ f.c ∧ f.c ≤ i

theorem popK_sub (k : Nat) (s : List F) (o : List Nat) : popK k s o ≠ [] ∨ o = [] := by
  induction k generalizing o with
  | zero => cases o <;> simp [popK]
  | succ k ih =>
    cases o with
    | nil => exact .inr rfl
    | cons g t =>
      left
      simp only [popK]
      split
      · rename_i h
        rcases ih t with h1 | h1
        · exact h1
        · exact absurd h1 h.1
      · simp

theorem popK_suffix (k : Nat) (s : List F) (o : List Nat) : popK k s o <:+ o := by
  induction k generalizing o with
  | zero => exact List.suffix_refl o
  | succ k ih =>
    cases o with
    | nil => exact List.suffix_refl []
    | cons g t =>
      simp only [popK]
      split
      · exact (ih t).trans (List.suffix_cons g t)
      · exact List.suffix_refl _

theorem Okm.start : Okm 0 startM := ⟨rfl, by simp [startM], by simp [startM], by simp [startM], by simp [startM]⟩

theorem bump_c {s : List F} {g i : Nat} (hs : ∀ f ∈ s, 0 ≤ f.c ∧ f.c ≤ i) (hg : g < s.length) : ∀ f ∈ bump s g, 0 ≤ f.c ∧ f.c ≤ (i + 1 : Nat) := by
  intro f hf
  rcases List.mem_or_eq_of_mem_set hf with h1 | rfl
  · have := hs f h1; omega
  · have h2 : s.getD g default ∈ s := by rw [List.getD, List.getElem?_eq_getElem hg]; exact List.getElem_mem hg
    have := hs _ h2
    simp only
    omega

theorem headD_mem {o : List Nat} (h : o ≠ []) : o.headD 0 ∈ o := by
  cases o with
  | nil => exact absurd rfl h
  | cons g t => simp

theorem Okm.step {i : Nat} {m : MS} (h : Okm i m) (x : Int) : Okm (i + 1) (stepM i x m) := by
  have hsuf := popK_suffix ((x.tdiv 64) % 3).toNat m.s m.o
  have hne : popK ((x.tdiv 64) % 3).toNat m.s m.o ≠ [] := by
    rcases popK_sub ((x.tdiv 64) % 3).toNat m.s m.o with h1 | h1
    · exact h1
    · exact absurd h1 h.ne
  have hlt : ∀ g ∈ popK ((x.tdiv 64) % 3).toNat m.s m.o, g < i + 1 := fun g hg => h.lt g (hsuf.subset hg)
  have hlen := hsuf.length_le
  have hsm := h.sm
  unfold stepM
  simp only
  refine ⟨by simp [h.len], ?_, ?_, ?_, ?_⟩
  · simp only
    split
    · simp
    · exact hne
  · simp only
    intro g hg
    split at hg
    · rcases List.mem_cons.1 hg with rfl | h1
      · rw [h.len]; omega
      · have := hlt g h1; omega
    · have := hlt g hg; omega
  · simp only
    split
    · rename_i hk
      rw [List.length_cons]
      unfold kindM at hk
      split at hk
      · cases hk
      · rename_i hnn
        have : ¬ (4 < (popK ((x.tdiv 64) % 3).toNat m.s m.o).length) := fun h4 => hnn ⟨h4, hk⟩
        omega
    · omega
  · simp only
    intro f hf
    rcases List.mem_append.1 hf with h1 | h1
    · exact bump_c h.cb (by have := hlt _ (headD_mem hne); rw [h.len]; exact this) f h1
    · simp only [List.mem_singleton] at h1
      subst h1
      simp only [fieldM]
      omega

end Go.Proofs.Ytfdmbpfpdijpdaa
