/- Texts gone through rune by rune: what serves anywhere (out of Sm, Qf, Ts). -/
import Derived.Test.YtgfjmbjpikcffaaBs
import Derived.Test.YtgfjmbjpikcffaaMp
import Derived.StillTailTactics
import Derived.Deep.DeepCutAuto
import Derived.Deep.CutBlock
namespace Go.Proofs.Ytgfjmbjpikcffaa
open Go.RowKit
set_option linter.unusedVariables false
set_option linter.unusedSimpArgs false

theorem ret_bool {a b : Bool} (h : a = b) : Ending.returned (.bool a) = .returned (.bool b) := by rw [h]

theorem dec_pos (s : ByteArray) (pos : Nat) (h : pos < s.size) : ∃ b r q, (bl s)[pos]? = some b ∧ (Utf8.decode s pos).1 = r ∧ pos + (Utf8.decode s pos).2 = q ∧ r ≤ 2147483647 ∧ (b < 128 ∧ r = b ∧ q = pos + 1 ∨ 128 ≤ b ∧ 128 ≤ r ∧ pos < q) := by
  refine ⟨_, _, _, bl_get s pos h, rfl, rfl, decode_le s pos, ?_⟩
  by_cases hb : (s[pos]'h).toNat < 128
  · rw [decode_ascii s pos h hb]
    exact .inl ⟨hb, rfl, rfl⟩
  · have := decode_high s pos h (by omega)
    exact .inr ⟨by omega, this.1, by omega⟩

theorem take_one {l : List Nat} {pos c : Nat} (h : l[pos]? = some c) : l.take (pos + 1) = l.take pos ++ [c] ∧ l.drop pos = c :: l.drop (pos + 1) := by
  have hl := (List.getElem?_eq_some_iff.1 h).1
  rw [List.getElem?_eq_getElem hl] at h
  injection h with h
  refine ⟨?_, by rw [List.drop_eq_getElem_cons hl, h]⟩
  rw [List.take_add_one, List.getElem?_eq_getElem hl, h]
  rfl

/-- Where an iterator stands. -/
def itp (w : World) (g : Nat) : Nat := match w.heap[g]? with | some (.stringIter _ p) => p | _ => 0

theorem itp_of {w : World} {g p : Nat} {s : ByteArray} (h : w.heap[g]? = some (.stringIter s p)) : itp w g = p := by unfold itp; rw [h]

theorem decode_skip (s : ByteArray) (pos j : Nat) (h : pos < s.size) (h1 : pos < j) (h2 : j < pos + (Utf8.decode s pos).2) : j < s.size ∧ ∃ c, (bl s)[j]? = some c ∧ 128 ≤ c := by
  have key : ∀ k, 1 ≤ k → k < (Utf8.decode s pos).2 → pos + k < s.size ∧ (s.get! (pos + k)).toNat / 64 = 2 := by
    intro k hk hk2
    have hb : ∀ k, (s.get! (pos + k)).toNat < 256 := fun k => (s.get! (pos + k)).toNat_lt
    simp only [Utf8.decode] at hk2
    split at hk2
    · simp at hk2; omega
    · split at hk2
      · rename_i hh
        simp at hh
        split at hk2
        · simp at hk2
          obtain rfl : k = 1 := by omega
          exact hh.2
        · simp at hk2; omega
      · split at hk2
        · rename_i hh
          simp at hh
          split at hk2
          · simp at hk2
            have hw : k = 1 ∨ k = 2 := by omega
            rcases hw with rfl | rfl
            · exact hh.1.2
            · exact hh.2
          · simp at hk2; omega
        · split at hk2
          · rename_i hh
            simp at hh
            split at hk2
            · simp at hk2
              have hw : k = 1 ∨ k = 2 ∨ k = 3 := by omega
              rcases hw with rfl | rfl | rfl
              · exact hh.1.1.2
              · exact hh.1.2
              · exact hh.2
            · simp at hk2; omega
          · simp at hk2; omega
  obtain ⟨k, rfl⟩ : ∃ k, j = pos + k := ⟨j - pos, by omega⟩
  obtain ⟨h3, h4⟩ := key k (by omega) (by omega)
  refine ⟨h3, _, bl_get s (pos + k) h3, ?_⟩
  have e : s.get! (pos + k) = s[pos + k]'h3 := by
    have := get_at s (pos + k) h3
    simpa using this
  rw [e] at h4
  omega


theorem Chg.iterAt {S : List Nat} {a w : World} (h : Chg S a w) {k : Nat} (hk : k ∈ S ∨ a.heap.size ≤ k) (s : ByteArray) (q : Nat) : Chg S a (w.iterAt k s q) :=
  h.trans (T := [k]) ⟨rfl, rfl, rfl, by show _ ≤ (w.heap.setIfInBounds k _).size; simp, fun j _ hj => by
    show (w.heap.setIfInBounds k _)[j]? = _
    rw [Array.getElem?_setIfInBounds_ne (by simpa [eq_comm] using hj)]⟩ (by simpa using hk)


end Go.Proofs.Ytgfjmbjpikcffaa
