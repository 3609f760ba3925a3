/- A slice of values that came in, read field by field. (For frames.) -/
import Derived.Test.YtgfjmbjpikcffaaUa
import Derived.Deep.Slices
import Derived.Deep.Fields
import Derived.ChangeSame
namespace Go.Proofs.Ytgfjmbjpikcffaa
open Go.RowKit Go.ChangeShapes Go.WideShapes Go.Deep
set_option linter.unusedVariables false

/-- One cell of a struct of one-cell fields. -/
theorem cell_of_drop {cs : List Value} {j : Nat} {ys : List Value} (h : (cs.drop j).take 1 = ys) (hj : j < cs.length) : ys = [cs[j]] := by
  rw [← h, List.drop_eq_getElem_cons hj]
  rfl

theorem values_row {H : Type} {enc : TypeId × Value → H} {W : World} {base : Nat} {spare : Nat → Bool} {held : Bool} {fuel : Nat} {cs : List Value} {x : DataW H × List MemPlace}
    (h : DataW.trod enc Try.prog W base spare held fuel 22 cs = some x) :
    ∃ (a : Option Addr) (len cap : Nat) (l : List V), cs = [.slice a len cap] ∧ SeenV W (.slice a len cap) l ∧ ∀ f ∈ l, (Lit.int .i64 f.n).wf = true := by
  have hC : Try.prog.cellsOf 35 = 2 := by kernel_rfl
  have h1s : Try.prog.cellsOf 9 = 1 := by kernel_rfl
  have h1i : Try.prog.cellsOf 3 = 1 := by kernel_rfl
  rcases open_slice Try.underlying22 h with ⟨hcs, _⟩ | ⟨a, len, cap, m, n, D, Pl, hcs, hb, hl, hm, hmm, hx, hi⟩
  · exact ⟨none, 0, 0, [], hcs, ⟨none, 0, rfl, by simp, by decide, fun hp => absurd hp (by simp)⟩, by simp⟩
  have key : ∀ i, ∃ f : V, i < len → (Lit.int .i64 f.n).wf = true ∧ ∀ j u, (V.cs f)[j]? = some u → W.cell? (a.add (i * 2 + j)) = some u := by
    intro i
    by_cases hil : i < len
    · have him : i < m := by rw [hmm]; split <;> omega
      obtain ⟨cs', hc, ht⟩ := hi i him
      rw [hC] at hc
      obtain ⟨ys, n', hn', hy, hlen, hyl, hf⟩ := DataW.trod_struct Try.underlying35 ht
      obtain ⟨_, hcl, hat⟩ := World.cells?_some hc
      have f0 := hf 0 _ rfl
      have f1 := hf 1 _ rfl
      have y0 : ys[0]? = some (ys[0]'(by rw [hyl]; decide)) := List.getElem?_eq_getElem _
      have y1 : ys[1]? = some (ys[1]'(by rw [hyl]; decide)) := List.getElem?_eq_getElem _
      rw [y0] at f0; rw [y1] at f1
      obtain ⟨c, e0, -, wc⟩ := DataW.trod_int Try.underlying3 f0
      obtain ⟨s, e1, -, -⟩ := DataW.trod_string Try.underlying9 f1
      have g0 := cell_of_drop ((congrArg (fun n => (cs'.drop 0).take n) h1i.symm).trans e0) (by rw [hcl]; decide)
      have g1 := cell_of_drop ((congrArg (fun n => (cs'.drop 1).take n) h1s.symm).trans e1) (by rw [hcl]; decide)
      refine ⟨⟨c, s⟩, fun _ => ⟨wc, fun j u hu => ?_⟩⟩
      have hj : j < 2 := (List.getElem?_eq_some_iff.1 hu).1
      have hcj := hat j hj
      rw [add_add] at hcj
      rw [hcj]
      have : j = 0 ∨ j = 1 := by omega
      rcases this with rfl | rfl
      · rw [← hu]; exact (List.getElem?_eq_getElem (by rw [hcl]; decide)).trans (congrArg some (List.cons.inj g0).1.symm)
      · rw [← hu]; exact (List.getElem?_eq_getElem (by rw [hcl]; decide)).trans (congrArg some (List.cons.inj g1).1.symm)
    · exact ⟨default, fun h => absurd h hil⟩
  refine ⟨some a, len, cap, (List.range len).map fun i => Classical.choose (key i), hcs, ⟨some a, cap, by simp, by simpa using hl, hm, fun hp => ?_⟩, ?_⟩
  · have hpl : 0 < len := by simpa using hp
    obtain ⟨g, off, sp⟩ := a
    have h0 := (Classical.choose_spec (key 0) hpl).2 0 _ rfl
    have hsp : sp = none := by
      have := World.cell?_spot h0
      simpa [Addr.add] using this
    subst hsp
    refine ⟨g, off, rfl, fun j x i u hx hu => ?_⟩
    rw [List.getElem?_map] at hx
    have hj : j < len := by
      cases hr : (List.range len)[j]? with
      | none => rw [hr] at hx; simp at hx
      | some y => have := (List.getElem?_eq_some_iff.1 hr).1; simpa using this
    rw [List.getElem?_range hj] at hx
    simp at hx
    subst hx
    have := (Classical.choose_spec (key j) hj).2 i u hu
    rw [addr_add, ← Nat.add_assoc] at this
    exact this
  · intro f hf
    rw [List.mem_map] at hf
    obtain ⟨i, hir, rfl⟩ := hf
    exact (Classical.choose_spec (key i) (List.mem_range.1 hir)).1

end Go.Proofs.Ytgfjmbjpikcffaa
