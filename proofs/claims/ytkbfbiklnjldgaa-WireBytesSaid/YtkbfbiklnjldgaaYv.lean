/- The reference's leaf. -/
import Derived.Test.YtkbfbiklnjldgaaYd
namespace Go.Proofs.Ytkbfbiklnjldgaa
open Go.RowKit
set_option linter.unusedVariables false

set_option maxRecDepth 100000 in
set_option maxHeartbeats 2000000 in
theorem rleaf8_any (k n : Int) (s : ByteArray) (ao : Option Addr) (m cap : Nat) (w : World) (K : List (List Tr)) (hK : K.length = m) :
    Calls Try.prog 59 #[.int .i64 k, tv n s (.slice ao m cap)] w fun e w' => e = .returned (.int .i64 (leafE k (.mk n s K))) ∧ Chg [] w w' := by
  have HE := Lib.hid (show leafE k (.mk n s K) = if 0 < m ∨ (k = 4 ∧ n ≠ 0) ∨ (k ≠ 4 ∧ s ≠ ByteArray.empty) then 13 else if overB k n = true then 14 else if 100 < s.size then 5 else 0 by unfold leafE; rw [← hK]; rfl)
  have HA := Lib.hid ((Chg.refl [] w).alloc (.cells #[.int .i64 n, .string s, .slice ao m cap] 44))
  clear hK
  by_cases h1 : 0 < m
  · have d1 : decide ((0 : Int) < (m : Int)) = true := by simp; omega
    have E := Lib.hid (show leafE k (.mk n s K) = 13 by rw [HE.out, if_pos (.inl h1)])
    clear HE d1
    obtain ⟨b, hb⟩ : ∃ b, b = (k == 4) := ⟨_, rfl⟩
    have hb' := hb.symm
    clear hb
    go_enter Try.func59, Try.ntmps59
    go_wp2
    go_ret
    exact ⟨ret_int E.out.symm, HA.out⟩
  have hm0 : m = 0 := by omega
  subst hm0
  clear h1
  by_cases h4 : k = 4
  · subst h4
    by_cases hn0 : n = 0
    · subst hn0
      by_cases hz : 100 < s.size
      · have d5 : decide ((100 : Int) < (s.size : Int)) = true := by simp; omega
        have E := Lib.hid (show leafE 4 (.mk 0 s K) = 5 by rw [HE.out]; simp [overB, hz])
        clear HE hz
        go_enter Try.func59, Try.ntmps59
        go_wp2
        go_ret
        exact ⟨ret_int E.out.symm, HA.out⟩
      · have d5 : decide ((100 : Int) < (s.size : Int)) = false := by simp; omega
        have E := Lib.hid (show leafE 4 (.mk 0 s K) = 0 by rw [HE.out]; simp [overB, hz])
        clear HE hz
        go_enter Try.func59, Try.ntmps59
        go_wp2
        go_ret
        exact ⟨ret_int E.out.symm, HA.out⟩
    · have d3 : (n != 0) = true := by simpa using hn0
      have E := Lib.hid (show leafE 4 (.mk n s K) = 13 by rw [HE.out]; simp [hn0])
      clear HE
      go_enter Try.func59, Try.ntmps59
      go_wp2
      go_ret
      exact ⟨ret_int E.out.symm, HA.out⟩
  have e4 : (k == 4) = false := by simpa using h4
  have f4 : (k != 4) = true := by simpa using h4
  by_cases hs0 : s = ByteArray.empty
  case neg =>
    have hs1 : ¬ s.toList = [] := fun h => hs0 (empty_list.1 h)
    have hs2 : s.toList.isEmpty = false := by simpa using hs1
    have E := Lib.hid (show leafE k (.mk n s K) = 13 by rw [HE.out]; simp [h4, hs0])
    clear HE h4 hs0
    go_enter Try.func59, Try.ntmps59
    go_wp2
    go_ret
    exact ⟨ret_int E.out.symm, HA.out⟩
  subst hs0
  have HE2 := Lib.hid (show leafE k (.mk n ByteArray.empty K) = if overB k n = true then 14 else 0 by rw [HE.out]; simp [h4])
  rw [eS_eq] at HE2 HA ⊢
  clear HE
  by_cases h1 : k = 1
  · subst h1
    clear h4 e4 f4
    by_cases hlo : n < 0
    · have d1 : decide (n < 0) = true := by simpa using hlo
      have E := Lib.hid (show leafE 1 (.mk n eS K) = 14 by rw [HE2.out, if_pos (by unfold overB; rw [decide_eq_true_iff]; omega)])
      clear HE2
      go_enter Try.func59, Try.ntmps59
      go_wp2
      go_ret
      exact ⟨ret_int E.out.symm, HA.out⟩
    · have d1 : decide (n < 0) = false := by simpa using hlo
      by_cases hhi : 1 < n
      · have d2 : decide ((1 : Int) < n) = true := by simpa using hhi
        have E := Lib.hid (show leafE 1 (.mk n eS K) = 14 by rw [HE2.out, if_pos (by unfold overB; rw [decide_eq_true_iff]; omega)])
        clear HE2
        go_enter Try.func59, Try.ntmps59
        go_wp2
        go_ret
        exact ⟨ret_int E.out.symm, HA.out⟩
      · have d2 : decide ((1 : Int) < n) = false := by simpa using hhi
        have E := Lib.hid (show leafE 1 (.mk n eS K) = 0 by rw [HE2.out, if_neg (by unfold overB; rw [decide_eq_true_iff]; omega)])
        clear HE2
        go_enter Try.func59, Try.ntmps59
        go_wp2
        go_ret
        exact ⟨ret_int E.out.symm, HA.out⟩
  have e1 : (k == 1) = false := by simpa using h1
  by_cases h2 : k = 2
  · subst h2
    clear h4 e4 f4
    by_cases hlo : n < (-2147483648)
    · have d1 : decide (n < (-2147483648)) = true := by simpa using hlo
      have E := Lib.hid (show leafE 2 (.mk n eS K) = 14 by rw [HE2.out, if_pos (by unfold overB; rw [decide_eq_true_iff]; omega)])
      clear HE2
      go_enter Try.func59, Try.ntmps59
      go_wp2
      go_ret
      exact ⟨ret_int E.out.symm, HA.out⟩
    · have d1 : decide (n < (-2147483648)) = false := by simpa using hlo
      by_cases hhi : 2147483647 < n
      · have d2 : decide ((2147483647 : Int) < n) = true := by simpa using hhi
        have E := Lib.hid (show leafE 2 (.mk n eS K) = 14 by rw [HE2.out, if_pos (by unfold overB; rw [decide_eq_true_iff]; omega)])
        clear HE2
        go_enter Try.func59, Try.ntmps59
        go_wp2
        go_ret
        exact ⟨ret_int E.out.symm, HA.out⟩
      · have d2 : decide ((2147483647 : Int) < n) = false := by simpa using hhi
        have E := Lib.hid (show leafE 2 (.mk n eS K) = 0 by rw [HE2.out, if_neg (by unfold overB; rw [decide_eq_true_iff]; omega)])
        clear HE2
        go_enter Try.func59, Try.ntmps59
        go_wp2
        go_ret
        exact ⟨ret_int E.out.symm, HA.out⟩
  have e2 : (k == 2) = false := by simpa using h2
  have E := Lib.hid (show leafE k (.mk n eS K) = 0 by rw [HE2.out, if_neg (by unfold overB; rw [decide_eq_true_iff]; omega)])
  clear HE2 h1 h2 h4
  go_enter Try.func59, Try.ntmps59
  go_wp2
  go_ret
  exact ⟨ret_int E.out.symm, HA.out⟩

end Go.Proofs.Ytkbfbiklnjldgaa
