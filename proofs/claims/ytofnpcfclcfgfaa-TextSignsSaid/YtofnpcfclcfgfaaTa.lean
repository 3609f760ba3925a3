/- Contracts of text's small functions: isLetter, joins, stands, parts, isName, refused. -/
import Derived.Test.YtofnpcfclcfgfaaTk
namespace Go.Proofs.Ytofnpcfclcfgfaa
open Go.RowKit
set_option linter.unusedVariables false

def stnB (c : Nat) : Bool := decide (c = 123) || (decide (c = 125) || decide (c = 59))
def blkB (c : Nat) : Bool := decide (c = 32) || (decide (c = 9) || decide (c = 10))

set_option maxHeartbeats 400000 in
theorem isLetter_any (r : Nat) (w : World) : Calls Try.prog 104 #[.int .i32 (r : Int)] w fun e w' => e = .returned (.bool (letB r)) ∧ w = w' := by
  have hw : r < 97 ∨ 97 ≤ r ∧ r ≤ 122 ∨ 97 ≤ r ∧ 122 < r := by omega
  rcases hw with h | ⟨h, h'⟩ | ⟨h, h'⟩
  · have e1 : decide ((97 : Int) ≤ (r : Int)) = false := by simp; omega
    have E := Lib.hid (show letB r = false by simp [letB]; omega)
    go_enter Try.func104, Try.ntmps104
    go_wp2
    go_ret
    exact ⟨ret_bool E.out.symm, rfl⟩
  · have e1 : decide ((97 : Int) ≤ (r : Int)) = true := by simp; omega
    have e2 : decide ((r : Int) ≤ 122) = true := by simp; omega
    have E := Lib.hid (show letB r = true by simp [letB]; omega)
    go_enter Try.func104, Try.ntmps104
    go_wp2
    go_ret
    exact ⟨ret_bool E.out.symm, rfl⟩
  · have e1 : decide ((97 : Int) ≤ (r : Int)) = true := by simp; omega
    have e2 : decide ((r : Int) ≤ 122) = false := by simp; omega
    have E := Lib.hid (show letB r = false by simp [letB]; omega)
    go_enter Try.func104, Try.ntmps104
    go_wp2
    go_ret
    exact ⟨ret_bool E.out.symm, rfl⟩

set_option maxHeartbeats 400000 in
theorem joins_any (r : Nat) (w : World) : Calls Try.prog 79 #[.int .i32 (r : Int)] w fun e w' => e = .returned (.bool (sgnB r)) ∧ w = w' := by
  have hw : (97 ≤ r ∧ r ≤ 122) ∨ (¬ (97 ≤ r ∧ r ≤ 122) ∧ r < 48 ∧ r ≠ 95) ∨ (¬ (97 ≤ r ∧ r ≤ 122) ∧ 48 ≤ r ∧ r ≤ 57) ∨ (¬ (97 ≤ r ∧ r ≤ 122) ∧ 57 < r ∧ r = 95) ∨ (¬ (97 ≤ r ∧ r ≤ 122) ∧ 57 < r ∧ r ≠ 95) := by omega
  rcases hw with h | ⟨h0, h, h'⟩ | ⟨h0, h, h'⟩ | ⟨h0, h, h'⟩ | ⟨h0, h, h'⟩
  · have E := Lib.hid (show sgnB r = true by simp [sgnB, letB, h])
    have EL := Lib.hid (show letB r = true by simp [letB]; omega)
    go_enter Try.func79, Try.ntmps79
    go_wp2_with fail
    (with_reducible refine (isLetter_any r w).mono ?_)
    rintro e w1 ⟨rfl, rfl⟩
    rw [EL.out]
    go_wp2
    go_ret
    exact ⟨ret_bool E.out.symm, rfl⟩
  · have e1 : decide ((48 : Int) ≤ (r : Int)) = false := by simp; omega
    have e3 : ((r : Int) == 95) = false := by simp; omega
    have E := Lib.hid (show sgnB r = false by simp [sgnB, letB]; omega)
    have EL := Lib.hid (show letB r = false by simp [letB]; omega)
    go_enter Try.func79, Try.ntmps79
    go_wp2_with fail
    (with_reducible refine (isLetter_any r w).mono ?_)
    rintro e w1 ⟨rfl, rfl⟩
    rw [EL.out]
    clear h h' h0
    go_wp2
    go_ret
    exact ⟨ret_bool E.out.symm, rfl⟩
  · have e1 : decide ((48 : Int) ≤ (r : Int)) = true := by simp; omega
    have e2 : decide ((r : Int) ≤ 57) = true := by simp; omega
    have E := Lib.hid (show sgnB r = true by simp [sgnB, letB]; omega)
    have EL := Lib.hid (show letB r = false by simp [letB]; omega)
    go_enter Try.func79, Try.ntmps79
    go_wp2_with fail
    (with_reducible refine (isLetter_any r w).mono ?_)
    rintro e w1 ⟨rfl, rfl⟩
    rw [EL.out]
    clear h h' h0
    go_wp2
    go_ret
    exact ⟨ret_bool E.out.symm, rfl⟩
  · have e1 : decide ((48 : Int) ≤ (r : Int)) = true := by simp; omega
    have e2 : decide ((r : Int) ≤ 57) = false := by simp; omega
    have e3 : ((r : Int) == 95) = true := by simp; omega
    have E := Lib.hid (show sgnB r = true by simp [sgnB, letB]; omega)
    have EL := Lib.hid (show letB r = false by simp [letB]; omega)
    clear h h' h0
    go_enter Try.func79, Try.ntmps79
    go_wp2_with fail
    (with_reducible refine (isLetter_any r w).mono ?_)
    rintro e w1 ⟨rfl, rfl⟩
    rw [EL.out]
    go_wp2
    go_ret
    exact ⟨ret_bool E.out.symm, rfl⟩
  · have e1 : decide ((48 : Int) ≤ (r : Int)) = true := by simp; omega
    have e2 : decide ((r : Int) ≤ 57) = false := by simp; omega
    have e3 : ((r : Int) == 95) = false := by simp; omega
    have E := Lib.hid (show sgnB r = false by simp [sgnB, letB]; omega)
    have EL := Lib.hid (show letB r = false by simp [letB]; omega)
    go_enter Try.func79, Try.ntmps79
    go_wp2_with fail
    (with_reducible refine (isLetter_any r w).mono ?_)
    rintro e w1 ⟨rfl, rfl⟩
    rw [EL.out]
    clear h h' h0
    go_wp2
    go_ret
    exact ⟨ret_bool E.out.symm, rfl⟩

set_option maxHeartbeats 400000 in
theorem stands_any (r : Nat) (w : World) : Calls Try.prog 80 #[.int .i32 (r : Int)] w fun e w' => e = .returned (.bool (stnB r)) ∧ w = w' := by
  have hw : r = 123 ∨ r = 125 ∨ r = 59 ∨ (r ≠ 123 ∧ r ≠ 125 ∧ r ≠ 59) := by omega
  rcases hw with rfl | rfl | rfl | ⟨h, h1, h2⟩
  · go_enter Try.func80, Try.ntmps80
    go_wp2
    go_ret
    exact ⟨rfl, rfl⟩
  · go_enter Try.func80, Try.ntmps80
    go_wp2
    go_ret
    exact ⟨rfl, rfl⟩
  · go_enter Try.func80, Try.ntmps80
    go_wp2
    go_ret
    exact ⟨rfl, rfl⟩
  · have e1 : ((r : Int) == 123) = false := by simp; omega
    have e2 : ((r : Int) == 125) = false := by simp; omega
    have e3 : ((r : Int) == 59) = false := by simp; omega
    have E := Lib.hid (show stnB r = false by simp [stnB, h, h1, h2])
    clear h h1 h2
    go_enter Try.func80, Try.ntmps80
    go_wp2
    go_ret
    exact ⟨ret_bool E.out.symm, rfl⟩

set_option maxHeartbeats 400000 in
theorem parts_any (r : Nat) (w : World) : Calls Try.prog 81 #[.int .i32 (r : Int)] w fun e w' => e = .returned (.bool (blkB r)) ∧ w = w' := by
  have hw : r = 32 ∨ r = 9 ∨ r = 10 ∨ (r ≠ 32 ∧ r ≠ 9 ∧ r ≠ 10) := by omega
  rcases hw with rfl | rfl | rfl | ⟨h, h1, h2⟩
  · go_enter Try.func81, Try.ntmps81
    go_wp2
    go_ret
    exact ⟨rfl, rfl⟩
  · go_enter Try.func81, Try.ntmps81
    go_wp2
    go_ret
    exact ⟨rfl, rfl⟩
  · go_enter Try.func81, Try.ntmps81
    go_wp2
    go_ret
    exact ⟨rfl, rfl⟩
  · have e1 : ((r : Int) == 32) = false := by simp; omega
    have e2 : ((r : Int) == 9) = false := by simp; omega
    have e3 : ((r : Int) == 10) = false := by simp; omega
    have E := Lib.hid (show blkB r = false by simp [blkB, h, h1, h2])
    clear h h1 h2
    go_enter Try.func81, Try.ntmps81
    go_wp2
    go_ret
    exact ⟨ret_bool E.out.symm, rfl⟩

/-- A word that may be a name: its signs are a word's as it is. -/
def wnB (s : ByteArray) : Bool := decide (1 ≤ s.size) && (decide (s.size ≤ 12) && letB ((bl s).getD 0 0))

set_option maxHeartbeats 400000 in
theorem tName_any (s : ByteArray) (w : World) (hs : s.size ≤ 1000000) : Calls Try.prog 105 #[.string s] w fun e w' => e = .returned (.bool (wnB s)) ∧ w = w' := by
  by_cases h0 : s.size = 0
  · have hs0 : s = { data := #[] } := by
      cases s with
      | mk d => simp only [ByteArray.mk.injEq]; exact Array.eq_empty_of_size_eq_zero h0
    subst hs0
    go_enter Try.func105, Try.ntmps105
    go_wp2
    go_ret
    exact ⟨rfl, rfl⟩
  · have hne : ¬ s.toList = [] := by
      intro h
      have h2 : s = { data := #[] } := bytes_ext (by rw [h]; simp)
      rw [h2] at h0
      exact h0 rfl
    have e1 : s.toList.isEmpty = false := by simpa using hne
    by_cases h2 : 12 < s.size
    · have E := Lib.hid (show wnB s = false by simp [wnB]; omega)
      have d2 : decide ((s.size : Int) ≤ 12) = false := by simp; omega
      clear h0 h2
      go_enter Try.func105, Try.ntmps105
      go_wp2
      go_ret
      exact ⟨ret_bool E.out.symm, rfl⟩
    have d2 : decide ((s.size : Int) ≤ 12) = true := by simp; omega
    have h0 : 0 < s.size := by omega
    obtain ⟨c0, hc0⟩ : ∃ c, (s[0]'h0).toNat = c := ⟨_, rfl⟩
    have hc8 : c0 < 256 := by rw [← hc0]; exact (s[0]'h0).toNat_lt
    have HB0 := Lib.hid (show (bl s).getD 0 0 = c0 by rw [List.getD, bl_get s 0 h0]; exact hc0)
    have E := Lib.hid (show wnB s = letB c0 by unfold wnB; rw [HB0.out, show decide (1 ≤ s.size) = true by simp; omega, show decide (s.size ≤ 12) = true by simp; omega]; rfl)
    go_enter Try.func105, Try.ntmps105
    go_wp2_with fail
    (with_reducible refine (isLetter_any c0 w).mono ?_)
    rintro e w1 ⟨rfl, rfl⟩
    cases hb : letB c0
    all_goals
      rw [hb] at E
      clear hb
      go_wp2
      go_ret
      exact ⟨ret_bool E.out.symm, rfl⟩

/-- Why a word is not taken as a field's name. -/
def refN (s : ByteArray) (ahead depth : Nat) : Int := if wnB s = false then 6 else if 40 ≤ ahead then 4 else if 8 < depth then 11 else 0

set_option maxHeartbeats 400000 in
theorem refused_any (s : ByteArray) (ahead depth : Nat) (w : World) (hs : s.size ≤ 1000000) : Calls Try.prog 83 #[.string s, .int .i64 (ahead : Int), .int .i64 (depth : Int)] w fun e w' => e = .returned (.int .i64 (refN s ahead depth)) ∧ w = w' := by
  cases hb : wnB s
  · have E := Lib.hid (show refN s ahead depth = 6 by unfold refN; rw [if_pos hb])
    have HB := Lib.hid hb
    clear hb
    go_enter Try.func83, Try.ntmps83
    go_wp2_with fail
    (with_reducible refine (tName_any s w hs).mono ?_)
    rintro e w1 ⟨rfl, rfl⟩
    rw [HB.out]
    go_wp2
    go_ret
    exact ⟨ret_int E.out.symm, rfl⟩
  · have E0 := Lib.hid (show refN s ahead depth = if 40 ≤ ahead then 4 else if 8 < depth then 11 else 0 by unfold refN; rw [if_neg (by rw [hb]; simp)])
    have HB := Lib.hid hb
    clear hb
    have hw : 40 ≤ ahead ∨ ahead < 40 ∧ 8 < depth ∨ ahead < 40 ∧ depth ≤ 8 := by omega
    rcases hw with h | ⟨h, h'⟩ | ⟨h, h'⟩
    · have e1 : decide ((40 : Int) ≤ (ahead : Int)) = true := by simp; omega
      have E := Lib.hid (show refN s ahead depth = 4 by rw [E0.out, if_pos h])
      go_enter Try.func83, Try.ntmps83
      go_wp2_with fail
      (with_reducible refine (tName_any s w hs).mono ?_)
      rintro e w1 ⟨rfl, rfl⟩
      rw [HB.out]
      go_wp2
      go_ret
      exact ⟨ret_int E.out.symm, rfl⟩
    · have e1 : decide ((40 : Int) ≤ (ahead : Int)) = false := by simp; omega
      have e2 : decide ((8 : Int) < (depth : Int)) = true := by simp; omega
      have E := Lib.hid (show refN s ahead depth = 11 by rw [E0.out, if_neg (by omega), if_pos h'])
      go_enter Try.func83, Try.ntmps83
      go_wp2_with fail
      (with_reducible refine (tName_any s w hs).mono ?_)
      rintro e w1 ⟨rfl, rfl⟩
      rw [HB.out]
      go_wp2
      go_ret
      exact ⟨ret_int E.out.symm, rfl⟩
    · have e1 : decide ((40 : Int) ≤ (ahead : Int)) = false := by simp; omega
      have e2 : decide ((8 : Int) < (depth : Int)) = false := by simp; omega
      have E := Lib.hid (show refN s ahead depth = 0 by rw [E0.out, if_neg (by omega), if_neg (by omega)])
      go_enter Try.func83, Try.ntmps83
      go_wp2_with fail
      (with_reducible refine (tName_any s w hs).mono ?_)
      rintro e w1 ⟨rfl, rfl⟩
      rw [HB.out]
      go_wp2
      go_ret
      exact ⟨ret_int E.out.symm, rfl⟩

end Go.Proofs.Ytofnpcfclcfgfaa
