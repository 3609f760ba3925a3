/- Contract of schema.Check. -/
import Derived.Test.YtofnpcfclcfgfaaFt
import Derived.Test.YtofnpcfclcfgfaaCt
import Derived.Test.YtofnpcfclcfgfaaLk
import Derived.Shelf.Abstract
namespace Go.Proofs.Ytofnpcfclcfgfaa
open Go.RowKit
set_option linter.unusedVariables false

/-- The first of n numbers that is not 0. -/
def firstN (p : Nat → Int) : Nat → Int
  | 0 => 0
  | n + 1 => if firstN p n ≠ 0 then firstN p n else p n
theorem firstN_zero {p : Nat → Int} {n : Nat} (h : ∀ j, j < n → p j = 0) : firstN p n = 0 := by
  induction n with
  | zero => rfl
  | succ n ih =>
    have h1 := ih fun j hj => h j (by omega)
    simp [firstN, h1, h n (by omega)]
theorem firstN_at {p : Nat → Int} {n k : Nat} (h : ∀ j, j < k → p j = 0) (hk : k < n) (h0 : p k ≠ 0) : firstN p n = p k := by
  induction n with
  | zero => omega
  | succ n ih =>
    by_cases e : k = n
    · subst e
      simp [firstN, firstN_zero h]
    · have h1 := ih (by omega)
      simp only [firstN]
      rw [h1, if_pos h0]

def depths (l : List F) : List Int := cntL (fun i => decide (0 < i)) (parents l)
@[simp] theorem depths_length (l : List F) : (depths l).length = l.length := by simp [depths]

/-- What is wrong with a schema. -/
def chk (l : List F) : Int :=
  if l.length < 1 ∨ 40 < l.length then 4
  else if firstN (faultN l (parents l) (depths l)) l.length ≠ 0 then firstN (faultN l (parents l) (depths l)) l.length
  else if lacksB l (parents l) = true then 1 else 0

set_option maxHeartbeats 400000 in
theorem check1_any (i : Nat) (w : World) : Calls Try.prog 72 #[.int .i64 (i : Int)] w fun e w' => e = .returned (.bool (decide (0 < i))) ∧ Chg [] w w' := by
  by_cases h : 0 < i
  all_goals
    go_enter Try.func72, Try.ntmps72
    go_wp2
    go_ret
    exact ⟨ret_bool (by simp [h]), Chg.refl [] w⟩

theorem no_fault {l : List F} {ps ds : List Int} {i : Nat} (h : faultN l ps ds i = 0) (hi : 0 < i) : ps.getD i 0 ≠ -1 := by
  intro e
  unfold faultN at h
  rw [if_pos ⟨hi, e⟩] at h
  cases h

theorem in_groups {l : List F} (h : ∀ j, j < l.length → faultN l (parents l) (depths l) j = 0) : ∀ p ∈ (parents l).drop 1, 0 ≤ p ∧ p < l.length := by
  intro p hp
  obtain ⟨j, hj⟩ := List.mem_iff_getElem?.1 hp
  rw [List.getElem?_drop] at hj
  have hlt : 1 + j < l.length := by have := (List.getElem?_eq_some_iff.1 hj).1; simpa using this
  have h1 := no_fault (h (1 + j) hlt) (by omega)
  rw [List.getD, hj] at h1
  rcases parents_lt hj with h2 | h2
  · exact absurd h2 h1
  · omega

set_option maxRecDepth 100000 in
set_option maxHeartbeats 1000000 in
theorem check_any (sv : Value) (l : List F) (w : World) (hS : SeenF w sv l) (hw : ∀ f ∈ l, f.c ≤ 9223372036854775807) (hn : ∀ f ∈ l, f.n.size ≤ 1000000) :
    Calls Try.prog 41 #[sv] w fun e w' => e = .returned (.int .i64 (chk l)) ∧ Chg [] w w' := by
  obtain ⟨ao, cap, rfl, hc1, hc2⟩ := hS.shape
  have HS := Lib.hid hS; have HW := Lib.hid hw; have HNM := Lib.hid hn
  clear hS hw hn
  obtain ⟨n, hnn⟩ : ∃ n, n = l.length := ⟨_, rfl⟩
  rw [← hnn] at hc1 HS ⊢
  have hnm : n ≤ 9223372036854775807 := by unfold maxLen at hc2; omega
  by_cases h1 : n < 1
  · have E := Lib.hid (show chk l = 4 by unfold chk; rw [if_pos (by omega)])
    clear hnn
    have d1 : decide ((n : Int) < 1) = true := by simp; omega
    go_enter Try.func41, Try.ntmps41
    go_wp2
    go_ret
    exact ⟨ret_int E.out.symm, Chg.refl [] w⟩
  have d1 : decide ((n : Int) < 1) = false := by simp; omega
  by_cases h2 : 40 < n
  · have E := Lib.hid (show chk l = 4 by unfold chk; rw [if_pos (by omega)])
    clear hnn
    have d2 : decide ((40 : Int) < (n : Int)) = true := by simp; omega
    go_enter Try.func41, Try.ntmps41
    go_wp2
    go_ret
    exact ⟨ret_int E.out.symm, Chg.refl [] w⟩
  have d2 : decide ((40 : Int) < (n : Int)) = false := by simp; omega
  have HE := Lib.hid (show chk l = if firstN (faultN l (parents l) (depths l)) n ≠ 0 then firstN (faultN l (parents l) (depths l)) n else if lacksB l (parents l) = true then 1 else 0 by unfold chk; rw [if_neg (by omega), ← hnn])
  have HN := Lib.hid hnn
  have eg : ∀ args w, (callFunc 72 args).run Try.prog w = .ok (.enter 72 args) w := Go.Proofs.enters_of Try.func72 (by kernel_rfl) rfl
  clear hnn
  go_enter Try.func41, Try.ntmps41
  go_wp2_with fail
  (with_reducible refine (parents_any _ l w HS.out (by rw [← HN.out]; omega) HW.out).mono ?_)
  rw [← HN.out]
  rintro e w1 ⟨rfl, hb1, hk1⟩
  have HB1 := Lib.hid hb1; have HC1 := Lib.hid hk1
  clear hb1 hk1
  go_wp2_with fail
  refine (count_any 72 #[] (fun i => decide (0 < i)) _ l w1 (HS.out.keep HC1.out) (by rw [← HN.out]; omega) HW.out eg (fun w' _ i _ => check1_any i w')).mono ?_
  rw [← HN.out]
  rintro e w2 ⟨rfl, hb2, hk2⟩
  have HD2 := Lib.hid (show BlkI w2 w1.heap.size (depths l) from hb2)
  have HB2 := Lib.hid (HB1.out.chg hk2 (by simp))
  have HC2 := Lib.hid (HC1.out.trans hk2 (by simp))
  clear hb2 hk2 HB1 HC1
  obtain ⟨B2, hB2⟩ : ∃ B2, B2 = w1.heap.size := ⟨_, rfl⟩
  rw [← hB2] at HD2 ⊢
  clear hB2
  go_wp2
  go_loopw [21] (fun x w' => ∃ k : Nat, x = .int .i64 (k : Int) ∧ k ≤ n ∧ Chg [] w2 w' ∧ ∀ j, j < k → faultN l (parents l) (depths l) j = 0) (fun x w' => n - (intOf x).toNat)
  case atStart => exact ⟨0, rfl, Nat.zero_le _, Chg.refl _ _, fun j hj => absurd hj (Nat.not_lt_zero j)⟩
  case round =>
    obtain ⟨k, rfl, hk, hc, hz⟩ := hrel
    have HC := Lib.hid hc; have HZ := Lib.hid hz
    clear hc hz
    by_cases hlt : k < n
    · go_wp2_with fail
      (with_reducible refine (fault_any _ _ _ l (parents l) (depths l) k _ (HS.out.keep (HC2.out.trans HC.out (by simp))) (by rw [HN.out, ← parents_length l]; exact (HB2.out.chg HC.out (by simp)).seen (by simp; rw [← HN.out]; unfold maxLen; omega)) (by rw [HN.out, ← depths_length l]; exact (HD2.out.chg HC.out (by simp)).seen (by simp; rw [← HN.out]; unfold maxLen; omega)) (parents_length l) (depths_length l) (by rw [← HN.out]; exact hlt) HNM.out).mono ?_)
      rintro e w3 ⟨rfl, hk3⟩
      have HC3 := Lib.hid (HC.out.trans hk3 (by simp))
      clear hk3
      obtain ⟨v, hv⟩ : ∃ v, v = faultN l (parents l) (depths l) k := ⟨_, rfl⟩
      rw [← hv]
      have HV := Lib.hid hv
      clear hv
      by_cases hv0 : v = 0
      · have e1 : (v != 0) = false := by simp [hv0]
        have HV0 := Lib.hid hv0
        clear hv0
        go_wp2
        go_roundw
        case rel =>
          refine ⟨k + 1, by go_num, by omega, HC3.out, fun j hj => ?_⟩
          by_cases e : j = k
          · rw [e, ← HV.out, HV0.out]
          · exact HZ.out j (by omega)
        case measure => simp [intOf]; omega
      · have E := Lib.hid (show chk l = v by
          have h := firstN_at (p := faultN l (parents l) (depths l)) HZ.out hlt (by rw [← HV.out]; exact hv0)
          rw [HE.out, h, ← HV.out, if_pos hv0])
        go_wp2
        go_ret
        exact ⟨ret_int E.out.symm, HC2.out.trans HC3.out (by simp)⟩
    · have ek : k = n := by omega
      have HZ2 := Lib.hid (show ∀ j, j < n → faultN l (parents l) (depths l) j = 0 by rw [← ek]; exact HZ.out)
      have E := Lib.hid (show chk l = if lacksB l (parents l) = true then 1 else 0 by
        have h := firstN_zero HZ2.out
        rw [HE.out, h, if_neg (by simp)])
      clear ek
      have hlk := lacks_any _ w.heap.size l (parents l) wr (HS.out.keep (HC2.out.trans HC.out (by simp))) (HB2.out.chg HC.out (by simp)) (parents_length l) (by rw [← HN.out]; omega) (by rw [← HN.out]; omega) (in_groups (by rw [← HN.out]; exact HZ2.out))
      rw [← HN.out] at hlk
      have HLK := Lib.hid hlk
      clear hlk
      go_wp2_with fail
      (with_reducible refine HLK.out.mono ?_)
      rintro e w3 ⟨rfl, hk3⟩
      have HC3 := Lib.hid (HC2.out.trans (HC.out.trans hk3 (by simp)) (by simp))
      clear hk3
      cases hb : lacksB l (parents l)
      all_goals
        rw [hb] at E
        clear hb
        go_wp2
        go_ret
        exact ⟨ret_int E.out.symm, HC3.out⟩

end Go.Proofs.Ytofnpcfclcfgfaa
