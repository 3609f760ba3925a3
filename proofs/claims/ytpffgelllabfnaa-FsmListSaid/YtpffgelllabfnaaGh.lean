/- The closed shapes of stage 15: a root of repeated leaves; a list of groups with leaves behind it. -/
import Derived.Test.YtpffgelllabfnaaGg
import Derived.Test.YtpffgelllabfnaaMw
namespace Go.Proofs.Ytpffgelllabfnaa
open Go.RowKit
set_option linter.unusedVariables false
set_option linter.unusedSimpArgs false

def alTo (N k : Nat) : List F := ⟨{ data := #[109] }, 0, 0, (N : Int)⟩ :: (List.range k).map fun i => ⟨str [97 + i], 2, 2, 0⟩
def al (N : Nat) : List F := alTo N N
def lsTo (N M a b : Nat) : List F := ⟨{ data := #[109] }, 0, 0, 1 + (M : Int)⟩ :: ⟨{ data := #[103] }, 2, 0, (N : Int)⟩ :: ((List.range a).map (fun i => ⟨str [97 + i], 0, 1, 0⟩) ++ (List.range b).map (fun j => ⟨str [112 + j], 0, 1, 0⟩))
def ls (N M : Nat) : List F := lsTo N M N M

theorem al_ok : ∀ N, N < 10 → 1 ≤ N → chk (al N) = 0 ∧ nextL (trs (al N)) = (List.range N).map (fun i => [i + 1, i]) ∧ ∀ f ∈ al N, f.c ≤ 1000 ∧ f.n.size ≤ 1000 := by decide +kernel
def lsB (N M : Nat) : Bool := decide (chk (ls N M) = 0) && decide ((nextL (trs (ls N M))).length = N + M) && ((List.range N).all fun i => decide ((nextL (trs (ls N M))).getD i [] = [i + 1, if i + 1 = N then 0 else i + 1])) && (ls N M).all fun f => decide (f.c ≤ 1000 ∧ f.n.size ≤ 1000)
theorem lsB_all : ((List.range 10).all fun N => N == 0 || (List.range 5).all fun M => lsB N M) = true := by decide +kernel
theorem ls_ok (N : Nat) (h1 : N < 10) (h2 : 1 ≤ N) (M : Nat) (h3 : M < 5) : chk (ls N M) = 0 ∧ (nextL (trs (ls N M))).length = N + M ∧ (∀ i, i < N → (nextL (trs (ls N M))).getD i [] = [i + 1, if i + 1 = N then 0 else i + 1]) ∧ ∀ f ∈ ls N M, f.c ≤ 1000 ∧ f.n.size ≤ 1000 := by
  have h := lsB_all
  rw [List.all_eq_true] at h
  have h4 := h N (List.mem_range.2 h1)
  have h5 : ((List.range 5).all fun M => lsB N M) = true := by
    have e : (N == 0) = false := by simp; omega
    rw [e, Bool.false_or] at h4; exact h4
  rw [List.all_eq_true] at h5
  have h6 := h5 M (List.mem_range.2 h3)
  unfold lsB at h6
  simp only [Bool.and_eq_true, decide_eq_true_eq, List.all_eq_true, List.mem_range] at h6
  obtain ⟨⟨⟨a, b⟩, c⟩, d⟩ := h6
  exact ⟨a, b, c, d⟩

theorem cv_one {w : World} {g c : Nat} {x : Int} {T : TypeId} {fr : Nat × Nat} (hb : w.heap[g]? = some (.cells #[.int .u8 x] T fr)) (hx : x = (c : Int)) (hc : c < 256) :
    (convert 48 9 (.slice (some ⟨g, 0, none⟩) 1 1)).run Try.prog w = .ok (.string (str [c])) w := by
  subst hx
  refine conv_seen Try.underlying48 Try.underlying5 Try.underlying9 (.inr ⟨⟨g, 0, none⟩, 1, rfl, Nat.le_refl _, by decide, fun j u hu => ?_⟩) rfl (by intro x hx; simp at hx; omega)
  rw [addr_add, Nat.zero_add, cell_of_row w g j _ _ _ hb, ← hu]
  simp [nv]

theorem u8_97 (c i : Nat) (h : c + i < 256) : IntKind.u8.wrap ((c : Int) + (i : Int)) = (c : Int) + (i : Int) := by
  simp [IntKind.wrap, IntKind.bits, IntKind.signed]; omega

end Go.Proofs.Ytpffgelllabfnaa
