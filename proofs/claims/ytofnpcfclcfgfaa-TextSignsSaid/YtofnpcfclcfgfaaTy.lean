/- Contract of text.Parse. -/
import Derived.Test.YtofnpcfclcfgfaaTe
namespace Go.Proofs.Ytofnpcfclcfgfaa
open Go.RowKit
set_option linter.unusedVariables false

/-- What comes back: the fields, or nil and why. -/
def ParseOut (R : Int × List F) (w : World) (e : Ending) (w' : World) : Prop :=
  (R.1 = 0 ∧ ∃ v, e = .returned (.tuple #[v, .int .i64 0]) ∧ w'.ownsRow w.heap.size 41 4 v R.2.length (R.2.flatMap F.cs)) ∨ (R.1 ≠ 0 ∧ e = .returned (.tuple #[.slice none 0 0, .int .i64 R.1]))

/-- No word is longer than the text. -/
theorem wdM_len (l : List Nat) : ∀ (cur : List Nat) (r : List (List Nat)), wdM cur (l ++ [10]) = some r → ∀ x ∈ r, x.length ≤ cur.length + l.length := by
  induction l with
  | nil =>
    intro cur r h x hx
    rw [List.nil_append, wdM_blk (by decide) (by decide) (by decide)] at h
    simp [wdM] at h
    subst h
    split at hx
    · simp at hx
    · simp at hx; subst hx; simp
  | cons c t ih =>
    intro cur r h x hx
    rw [List.cons_append, wdM] at h
    split at h
    · have := ih _ _ h x hx
      simp at this ⊢
      omega
    · split at h
      · cases h
      · rw [Option.map_eq_some_iff] at h
        obtain ⟨r', h1, rfl⟩ := h
        rcases List.mem_append.1 hx with h2 | h2
        · split at h2
          · simp at h2
          · simp at h2; subst h2; simp
        · rcases List.mem_append.1 h2 with h3 | h3
          · split at h3
            · simp at h3; subst h3; simp; omega
            · simp at h3
          · have := ih _ _ h1 x h3
            simp at this ⊢
            omega

theorem str_size (l : List Nat) : (str l).size = l.length := by show ((l.map UInt8.ofNat).toArray).size = _; simp

theorem words_size {s : ByteArray} {ws : List (List Nat)} (h : wordsL (bl s) = some ws) (hs : s.size ≤ 4000) : ∀ x ∈ ws.map str, x.size ≤ 4000 := by
  intro x hx
  obtain ⟨y, hy, rfl⟩ := List.mem_map.1 hx
  have := wdM_len _ _ _ h y hy
  rw [str_size]
  simp at this
  omega

end Go.Proofs.Ytofnpcfclcfgfaa
