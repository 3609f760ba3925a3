/- What drawn regions by an invariant want: a chain of calls whose answers are stored to blocks of their own. -/
import Derived.Test.YtgfjmbjpikcffaaIv
import Derived.Test.YtgfjmbjpikcffaaIg
import Derived.Test.YtgfjmbjpikcffaaKn17
import Derived.Test.YtgfjmbjpikcffaaSo17
namespace Go.Proofs.Ytgfjmbjpikcffaa
open Go.RowKit
set_option linter.unusedVariables false
set_option linter.unusedSimpArgs false

/-- f, but v at k. -/
def upd {α : Type} (f : Nat → α) (k : Nat) (v : α) (j : Nat) : α := bif Nat.beq j k then v else f j


theorem set2 {W : World} {g : Nat} {T : TypeId} {a b : Value} (h : W.heap[g]? = some (.cells #[a, b] T (0, 0))) (p q : Value) : ((W.setCell ⟨g, 0, none⟩ p).setCell ⟨g, 1, none⟩ q).heap[g]? = some (.cells #[p, q] T (0, 0)) := by
  rw [heap_set (heap_set h p) q]; rfl
theorem other6 {W : World} {g k : Nat} {a b c d e f : Value} {o : Obj} (h : W.heap[k]? = some o) (hne : k ≠ g) : ((((((W.setCell ⟨g, 0, none⟩ a).setCell ⟨g, 1, none⟩ b).setCell ⟨g, 2, none⟩ c).setCell ⟨g, 3, none⟩ d).setCell ⟨g, 4, none⟩ e).setCell ⟨g, 5, none⟩ f).heap[k]? = some o :=
  other2 (other2 (other2 h hne) hne) hne

/-- Two values, as they are held against each other. -/
theorem eqV_bool17 (x m : V) : (x.n == m.n && x.s.toList == m.s.toList) = decide (x = m) := by
  obtain ⟨xn, xs⟩ := x
  obtain ⟨mn, ms⟩ := m
  rw [Bool.eq_iff_iff]
  simp only [Bool.and_eq_true, beq_iff_eq, decide_eq_true_eq, V.mk.injEq]
  constructor
  · rintro ⟨h1, h2⟩
    refine ⟨h1, ?_⟩
    rw [ByteArray.toList_eq, ByteArray.toList_eq] at h2
    cases xs; cases ms
    congr 1
    exact Array.toList_inj.1 h2
  · rintro ⟨h1, h2⟩
    exact ⟨h1, by rw [h2]⟩


/-- What is known, there is one. -/
theorem Is.ex (k z : Nat) : ∀ l : List V, ∃ s, Is k z l s
  | [] => ⟨⟨(z : Int), false, v0, v0⟩, rfl, rfl, fun _ => ⟨rfl, rfl⟩, fun h => absurd rfl h, fun h => absurd rfl h⟩
  | v :: l => by
    obtain ⟨s, hs⟩ := Is.ex k z l
    have := (Is.one k v).join hs
    rw [Nat.zero_add] at this
    exact ⟨_, this⟩

end Go.Proofs.Ytgfjmbjpikcffaa
