/- Contracts: known; the reference's Name and Sign. -/
import Derived.Test.YtofnpcfclcfgfaaCk
namespace Go.Proofs.Ytofnpcfclcfgfaa
open Go.RowKit
set_option linter.unusedVariables false

theorem SeenF.nil (w : World) : SeenF w (.slice none 0 0) [] := ⟨none, 0, rfl, Nat.le_refl _, by decide, fun h => absurd h (by simp)⟩

theorem chk_nil : chk [] = 4 := rfl

set_option maxHeartbeats 1000000 in
theorem sign_any (c : Nat) (w : World) (hc : c < 256) : Calls Try.prog 86 #[.int .u8 (c : Int)] w fun e w' => e = .returned (.bool (sgnB c)) ∧ w = w' := by
  by_cases h1 : 97 ≤ c
  · have d1 : decide ((97 : Int) ≤ (c : Int)) = true := by simp; omega
    by_cases h2 : c ≤ 122
    · have d2 : decide ((c : Int) ≤ 122) = true := by simp; omega
      go_enter Try.func86, Try.ntmps86
      go_wp2
      go_ret
      exact ⟨ret_bool (by simp [sgnB, letB, h1, h2]), rfl⟩
    · have d2 : decide ((c : Int) ≤ 122) = false := by simp; omega
      have d3 : decide ((48 : Int) ≤ (c : Int)) = true := by simp; omega
      have d4 : decide ((c : Int) ≤ 57) = false := by simp; omega
      have d5 : ((c : Int) == 95) = false := by simp; omega
      go_enter Try.func86, Try.ntmps86
      go_wp2
      go_ret
      exact ⟨ret_bool (by simp [sgnB, letB]; omega), rfl⟩
  · have d1 : decide ((97 : Int) ≤ (c : Int)) = false := by simp; omega
    by_cases h3 : 48 ≤ c
    · have d3 : decide ((48 : Int) ≤ (c : Int)) = true := by simp; omega
      by_cases h4 : c ≤ 57
      · have d4 : decide ((c : Int) ≤ 57) = true := by simp; omega
        go_enter Try.func86, Try.ntmps86
        go_wp2
        go_ret
        exact ⟨ret_bool (by simp [sgnB, h3, h4]), rfl⟩
      · have d4 : decide ((c : Int) ≤ 57) = false := by simp; omega
        by_cases h5 : c = 95
        · subst h5
          go_enter Try.func86, Try.ntmps86
          go_wp2
          go_ret
          exact ⟨rfl, rfl⟩
        · have d5 : ((c : Int) == 95) = false := by simp; omega
          go_enter Try.func86, Try.ntmps86
          go_wp2
          go_ret
          exact ⟨ret_bool (by simp [sgnB, letB]; omega), rfl⟩
    · have d3 : decide ((48 : Int) ≤ (c : Int)) = false := by simp; omega
      have d5 : ((c : Int) == 95) = false := by simp; omega
      go_enter Try.func86, Try.ntmps86
      go_wp2
      go_ret
      exact ⟨ret_bool (by simp [sgnB, letB]; omega), rfl⟩

set_option maxRecDepth 100000 in
set_option maxHeartbeats 1000000 in
theorem name_any (s : ByteArray) (w : World) (hs : s.size ≤ 1000000) :
    Calls Try.prog 67 #[.string s] w fun e w' => e = .returned (.bool (nameB (bl s))) ∧ w = w' := by
  by_cases h1 : s.size < 1
  · have E := Lib.hid (show nameB (bl s) = false by simp [nameB]; omega)
    have d1 : decide ((s.size : Int) < 1) = true := by simp; omega
    go_enter Try.func67, Try.ntmps67
    go_wp2
    go_ret
    exact ⟨ret_bool E.out.symm, rfl⟩
  have d1 : decide ((s.size : Int) < 1) = false := by simp; omega
  by_cases h2 : 12 < s.size
  · have E := Lib.hid (show nameB (bl s) = false by simp [nameB]; omega)
    have d2 : decide ((12 : Int) < (s.size : Int)) = true := by simp; omega
    clear h1 h2
    go_enter Try.func67, Try.ntmps67
    go_wp2
    go_ret
    exact ⟨ret_bool E.out.symm, rfl⟩
  have d2 : decide ((12 : Int) < (s.size : Int)) = false := by simp; omega
  have h0 : 0 < s.size := by omega
  obtain ⟨c0, hc0⟩ : ∃ c, (s[0]'h0).toNat = c := ⟨_, rfl⟩
  have HB0 := Lib.hid (show (bl s)[0]? = some c0 by rw [← hc0]; exact bl_get s 0 h0)
  by_cases hlet : letB c0 = true
  · have hlt : 97 ≤ c0 ∧ c0 ≤ 122 := by simpa [letB] using hlet
    have d3 : decide ((c0 : Int) < 97) = false := by simp; omega
    have d4 : decide ((122 : Int) < (c0 : Int)) = false := by simp; omega
    have HL := Lib.hid hlet
    clear hlet
    go_enter Try.func67, Try.ntmps67
    go_wp2
    go_loop [3] (fun i => ∃ k : Nat, i = .int .i64 (k : Int) ∧ k ≤ s.size ∧ NameTo s k) (fun i => s.size - (intOf i).toNat)
    case atStart => exact ⟨0, rfl, Nat.zero_le _, NameTo.zero s⟩
    case round =>
      obtain ⟨k, rfl, hk, hto⟩ := hrel
      have HT := Lib.hid hto
      clear hto
      by_cases hks : k < s.size
      · obtain ⟨c, hc⟩ : ∃ c, (s[k]'hks).toNat = c := ⟨_, rfl⟩
        have HBK := Lib.hid (show (bl s)[k]? = some c by rw [← hc]; exact bl_get s k hks)
        have hc8 : c < 256 := by rw [← hc]; exact (s[k]'hks).toNat_lt
        have H0 := Lib.hid (show k = 0 → letB c = true from fun e => by
          have h1 := HBK.out
          rw [e, HB0.out] at h1
          injection h1 with h1
          rw [← h1]; exact HL.out)
        go_wp2_with fail
        (with_reducible refine (sign_any c _ hc8).mono ?_)
        rintro e w1 ⟨rfl, rfl⟩
        cases hb : sgnB c
        · have E := Lib.hid (nameB_no HBK.out (.inl hb))
          clear hb
          go_wp2
          go_ret
          exact ⟨ret_bool E.out.symm, rfl⟩
        · have E := Lib.hid (HT.out.step HBK.out hb H0.out)
          clear hb
          go_wp2
          go_round
          case rel => exact ⟨k + 1, by go_num, by omega, E.out⟩
          case measure => simp [intOf]; omega
      · have e : k = s.size := by omega
        have E := Lib.hid (nameB_yes (by rw [← e]; exact HT.out) (by omega) (by omega))
        clear e
        go_wp2
        go_ret
        exact ⟨ret_bool E.out.symm, rfl⟩
  · have hlet : letB c0 = false := by simpa using hlet
    have E := Lib.hid (nameB_no HB0.out (.inr ⟨rfl, hlet⟩))
    have hw : c0 < 97 ∨ 97 ≤ c0 ∧ 122 < c0 := by simp [letB] at hlet; omega
    clear hlet
    rcases hw with h | ⟨h, h'⟩
    · have d3 : decide ((c0 : Int) < 97) = true := by simp; omega
      go_enter Try.func67, Try.ntmps67
      go_wp2
      go_ret
      exact ⟨ret_bool E.out.symm, rfl⟩
    · have d3 : decide ((c0 : Int) < 97) = false := by simp; omega
      have d4 : decide ((122 : Int) < (c0 : Int)) = true := by simp; omega
      go_enter Try.func67, Try.ntmps67
      go_wp2
      go_ret
      exact ⟨ret_bool E.out.symm, rfl⟩

end Go.Proofs.Ytofnpcfclcfgfaa
