/- Encode of levels, the program's and the reference's, of any width. -/
import Derived.Test.YtlhdicbhanncnaaKs
import Derived.Test.YtlhdicbhanncnaaKp
namespace Go.Proofs.Ytlhdicbhanncnaa
open Go.RowKit
set_option linter.unusedVariables false
set_option linter.unusedSimpArgs false

def encZ (w : Nat) (l : List Nat) : List Nat := if w = 0 then [] else encL w l

theorem encZ_bytes (w : Nat) (l : List Nat) : ∀ x ∈ encZ w l, x < 2 ^ 8 := by
  unfold encZ
  split
  · simp
  · exact encL_bytes w l

theorem encZ_len (w : Nat) (hw : w ≤ 16) (l : List Nat) (hl : l.length ≤ 900000) : (encZ w l).length ≤ 40 * l.length + 40 := by
  unfold encZ
  split
  · simp
  · exact vb_app_len w hw l hl

theorem encodeZ_any (lv : Value) (l : List Nat) (width : Nat) (w : World) (hS : Seen w lv (nv .i64 l)) (hw : width ≤ 16) (hl : ∀ x ∈ l, x < 2 ^ width) (hl2 : l.length ≤ 900000) :
    Calls Try.prog 11 #[lv, .int .i64 (width : Int)] w fun e w' => ∃ x, e = .returned x ∧ Made 5 .u8 (encZ width l) w x w' := by
  unfold encZ
  by_cases h : width = 0
  · subst h
    refine (encode_none lv w).mono ?_
    rintro e w' ⟨rfl, rfl⟩
    exact ⟨_, rfl, Chg.refl _ _, ⟨rfl, .inl ⟨rfl, rfl⟩⟩⟩
  · rw [if_neg h]
    exact encode_any lv l width w hS (by omega) hw hl hl2

set_option maxRecDepth 100000 in
set_option maxHeartbeats 1000000 in
theorem rencode_none (lv : Value) (l : List Nat) (w : World) (hS : Seen w lv (nv .i64 l)) :
    Calls Try.prog 7 #[lv, .int .i64 0] w fun e w' => e = .returned (.slice none 0 0) ∧ w' = w := by
  obtain ⟨ao, cap, rfl, hc1, hc2⟩ := hS.shape
  rw [nv_length]
  obtain ⟨n, hn⟩ : ∃ n, n = l.length := ⟨_, rfl⟩
  rw [← hn]
  clear hS hc1 hn hc2
  have hz : ¬ ((0 : Int) < 0) := by decide
  by_cases h : 0 < n
  · go_enter Try.func7, Try.ntmps7
    go_wp2
    go_loopw [5, 6] (fun bv at_ w' => bv = .slice none 0 0 ∧ at_ = .int .i64 0 ∧ w' = w) (fun _ at_ _ => 0)
    case atStart => exact ⟨rfl, rfl, rfl⟩
    case round =>
      obtain ⟨rfl, rfl, rfl⟩ := hrel
      go_wp2
      go_ret
      exact ⟨rfl, rfl⟩
  · go_enter Try.func7, Try.ntmps7
    go_wp2
    go_loopw [5, 6] (fun bv at_ w' => bv = .slice none 0 0 ∧ at_ = .int .i64 0 ∧ w' = w) (fun _ at_ _ => 0)
    case atStart => exact ⟨rfl, rfl, rfl⟩
    case round =>
      obtain ⟨rfl, rfl, rfl⟩ := hrel
      go_wp2
      go_ret
      exact ⟨rfl, rfl⟩

theorem rencodeZ_any (lv : Value) (l : List Nat) (width : Nat) (w : World) (hS : Seen w lv (nv .i64 l)) (hw : width ≤ 16) (hl : ∀ x ∈ l, x < 2 ^ width) (hl2 : l.length ≤ 900000) :
    Calls Try.prog 7 #[lv, .int .i64 (width : Int)] w fun e w' => ∃ x, e = .returned x ∧ Made 5 .u8 (encZ width l) w x w' := by
  unfold encZ
  by_cases h : width = 0
  · subst h
    refine (rencode_none lv l w hS).mono ?_
    rintro e w' ⟨rfl, rfl⟩
    exact ⟨_, rfl, Chg.refl _ _, ⟨rfl, .inl ⟨rfl, rfl⟩⟩⟩
  · rw [if_neg h]
    exact rencode_any lv l width w hS (by omega) hw hl hl2

theorem decZ_back (l : List Nat) (W : Nat) (hW2 : W ≤ 16) (hl : l.length ≤ 4000) (hx : ∀ x ∈ l, x < 2 ^ W) : decA (encZ W l) (l.length : Int) (W : Int) = (0, l) := by
  unfold encZ
  by_cases h : W = 0
  · subst h
    have e : l = List.replicate l.length 0 := List.eq_replicate_iff.2 ⟨rfl, fun x h => by have := hx x h; simpa using this⟩
    unfold decA
    rw [if_neg (by omega), if_pos (by rfl), if_pos rfl, if_pos rfl, Int.toNat_natCast, ← e]
  · rw [if_neg h]
    unfold decA
    rw [if_neg (by omega), if_neg (by omega), Int.toNat_natCast, Int.toNat_natCast, dec_enc W l (by omega) hx, if_pos rfl]

end Go.Proofs.Ytlhdicbhanncnaa
