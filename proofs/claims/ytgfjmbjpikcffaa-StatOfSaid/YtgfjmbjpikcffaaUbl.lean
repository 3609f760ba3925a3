/- A slice of truths that came in, read. (For frames.) -/
import Derived.Test.YtgfjmbjpikcffaaCol17
import Derived.Deep.Slices
import Derived.Deep.Grids
import Derived.ChangeSame
namespace Go.Proofs.Ytgfjmbjpikcffaa
open Go.RowKit Go.ChangeShapes Go.WideShapes Go.Deep
set_option linter.unusedVariables false

theorem bools_row {H : Type} {enc : TypeId × Value → H} {W : World} {base : Nat} {held : Bool} {fuel : Nat} {cs : List Value} {x : DataW H × List MemPlace}
    (h : DataW.trod enc Try.prog W base (fun _ => true) held fuel 23 cs = some x) :
    ∃ (a : Option Addr) (len cap : Nat) (l : List Bool), cs = [.slice a len cap] ∧ SeenB W (.slice a len cap) l := by
  rcases open_bools Try.underlying23 Try.underlying4 (by kernel_rfl) h with ⟨hcs, _⟩ | ⟨a, len, cap, B, hcs, hb, hl, hm, _, hcell⟩
  · exact ⟨none, 0, 0, [], hcs, ⟨none, 0, rfl, by simp, by decide, fun hp => absurd hp (by simp)⟩⟩
  · refine ⟨some a, len, cap, (List.range len).map B, hcs, ⟨some a, cap, by simp, by simpa using hl, hm, fun hp => ?_⟩⟩
    have hpl : 0 < len := by simpa using hp
    obtain ⟨g, off, sp⟩ := a
    have h0 := hcell 0 (by omega)
    have hsp : sp = none := by
      have := World.cell?_spot h0
      simpa [Addr.add] using this
    subst hsp
    refine ⟨g, off, rfl, fun j x i u hx hu => ?_⟩
    rw [List.getElem?_map] at hx
    have hj : j < len := by
      cases hr : (List.range len)[j]? with
      | none => rw [hr] at hx; simp at hx
      | some y => have := (List.getElem?_eq_some_iff.1 hr).1; simpa using this
    rw [List.getElem?_range hj] at hx
    simp at hx
    subst hx
    have hi : i = 0 := by
      have := (List.getElem?_eq_some_iff.1 hu).1
      simp [bc1] at this
      exact this
    subst hi
    have h1 := hcell j (by omega)
    rw [addr_add] at h1
    rw [Nat.mul_one, Nat.add_zero, h1]
    simpa [bc1] using hu

end Go.Proofs.Ytgfjmbjpikcffaa
