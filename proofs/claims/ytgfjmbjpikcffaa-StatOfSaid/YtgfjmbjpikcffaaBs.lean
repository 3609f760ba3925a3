/- Moved together from several texts. -/
import Derived.Test.YtgfjmbjpikcffaaNv
namespace Go.Proofs.Ytgfjmbjpikcffaa
open Go.RowKit
set_option linter.unusedVariables false
set_option linter.unusedSimpArgs false

/-- The bytes of a string. -/
def bl (s : ByteArray) : List Nat := s.data.toList.map (·.toNat)

@[simp] theorem bl_length (s : ByteArray) : (bl s).length = s.size := by simp only [bl, List.length_map, Array.length_toList]; rfl

theorem bl_get (s : ByteArray) (i : Nat) (h : i < s.size) : (bl s)[i]? = some (s[i]'h).toNat := by
  have h1 : i < s.data.size := h
  simp only [bl, List.getElem?_map, Array.getElem?_toList, Array.getElem?_eq_getElem h1]
  rfl

theorem bl_str {l : List Nat} (h : ∀ c ∈ l, c < 256) : bl (str l) = l := by
  unfold bl str
  simp only [List.map_map]
  have : ∀ l : List Nat, (∀ c ∈ l, c < 256) → l.map ((fun x : UInt8 => x.toNat) ∘ UInt8.ofNat) = l := by
    intro l hl
    induction l with
    | nil => rfl
    | cons a t ih =>
      rw [List.map_cons, ih fun c hc => hl c (by simp [hc])]
      congr 1
      exact UInt8.toNat_ofNat_of_lt' (hl a (by simp))
  exact this l h

theorem str_size (l : List Nat) : (str l).size = l.length := by show ((l.map UInt8.ofNat).toArray).size = _; simp

end Go.Proofs.Ytgfjmbjpikcffaa
