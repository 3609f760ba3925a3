/- Rows that may be written. -/
import Derived.Test.YtbbedkkinhccjaaSho
import Derived.Test.YtbbedkkinhccjaaShq
namespace Go.Proofs.Ytbbedkkinhccjaa
open Go.RowKit
set_option linter.unusedVariables false
set_option linter.unusedSimpArgs false

/-- A row that may be written: its block is one of ours, with room for n elements. -/
def RowW (w : World) (lo hi : Nat) (T : TypeId) (size : Nat) (v : Value) (n : Nat) : Prop :=
  (n = 0 ∧ ∃ ao c, v = .slice ao 0 c) ∨ ∃ g c C, v = .slice (some ⟨g, 0, none⟩) n c ∧ lo < g ∧ g < hi ∧ w.heap[g]? = some (.cells C T (0, 0)) ∧ n * size ≤ C.size

theorem RowW.own {w : World} {lo hi B T size n : Nat} {v : Value} {xs : List Value} (h : w.ownsRow B T size v n xs) (hB : lo < B) (hh : ∀ g, v.ownBlock = some g → g < hi) : RowW w lo hi T size v n := by
  have h0 := h
  obtain ⟨hl, h1⟩ := h
  rcases h1 with ⟨rfl, hn⟩ | ⟨g, cap, cur, rfl, hb, hg, hc, hm, hs, ht⟩
  · exact .inl ⟨hn, none, 0, rfl⟩
  · refine .inr ⟨g, cap, cur, rfl, by omega, hh g rfl, hg, ?_⟩
    have : n * size ≤ cap * size := Nat.mul_le_mul_right _ hc
    omega

theorem RowW.set {w : World} {lo hi T size n : Nat} {v : Value} (h : RowW w lo hi T size v n) (k i : Nat) (u : Value) : RowW (w.setCell ⟨k, i, none⟩ u) lo hi T size v n := by
  rcases h with h | ⟨g, c, C, rfl, h1, h2, h3, h4⟩
  · exact .inl h
  · by_cases e : g = k
    · subst e
      exact .inr ⟨g, c, _, rfl, h1, h2, heap_set h3 u, by simpa using h4⟩
    · exact .inr ⟨g, c, C, rfl, h1, h2, (Below.heap_setCell w ⟨k, i, none⟩ u g e).trans h3, h4⟩

/-- What a write wants. -/
theorem RowW.at {w : World} {lo hi T size n : Nat} {v : Value} (h : RowW w lo hi T size v n) {i : Nat} (hi' : i < n) (hs : 0 < size) : ∃ g c, v = .slice (some ⟨g, 0, none⟩) n c ∧ lo < g ∧ g < hi ∧ (∀ j, j < size → ∃ u, w.cell? ⟨g, i * size + j, none⟩ = some u) ∧ ∀ j, w.frozen? ⟨g, j, none⟩ = false := by
  rcases h with ⟨h, -⟩ | ⟨g, c, C, rfl, h1, h2, h3, h4⟩
  · omega
  · refine ⟨g, c, rfl, h1, h2, fun j hj => ?_, fun j => by simp [World.frozen?, h3]⟩
    have hm : (i + 1) * size ≤ n * size := Nat.mul_le_mul_right _ hi'
    rw [Nat.add_mul] at hm
    have hlt : i * size + j < C.size := by omega
    exact ⟨C[i * size + j], by rw [cell_of_row w g _ _ _ _ h3, Array.getElem?_eq_getElem hlt]⟩

theorem RowW.shape {w : World} {lo hi T size n : Nat} {v : Value} (h : RowW w lo hi T size v n) : ∃ ao c, v = .slice ao n c := by
  rcases h with ⟨rfl, ao, c, rfl⟩ | ⟨g, c, C, rfl, -⟩
  · exact ⟨_, _, rfl⟩
  · exact ⟨_, _, rfl⟩

theorem RowW.chg {w w' : World} {S : List Nat} {lo hi T size n : Nat} {v : Value} (h : RowW w lo hi T size v n) (hc : Chg S w w') (hS : ∀ k ∈ S, hi ≤ k) : RowW w' lo hi T size v n := by
  rcases h with h | ⟨g, c, C, rfl, h1, h2, h3, h4⟩
  · exact .inl h
  · exact .inr ⟨g, c, C, rfl, h1, h2, hc.heap h3 (fun hm => by have := hS g hm; omega), h4⟩

/-- What shred.Columns gave, once others of its blocks' neighbours changed. -/
theorem CJ.seenS {Ls : List L} {WS : List (List Stp)} {L0 : List Tr} {w wi wr : World} {S : List Nat} {gc N : Nat} {R : List C3} (h : CJ Ls WS L0 w wi gc N N R) (hN : N ≤ 1000000) (hl : Ls.length = N) (hW : WS.length = N) (hc : Chg S wi wr) (hS : ∀ k ∈ S, k < w.heap.size) :
    ColsS wr gc N (fun j => colR (colC (WS.getD j []) L0)) (fun j => colD (colC (WS.getD j []) L0)) (fun j => colV (Ls.getD j default).d (colC (WS.getD j []) L0)) := by
  have hgS : gc ∉ S := fun hm => by have := hS gc hm; have := h.gl.1; omega
  refine ⟨hN, fun j hj => ?_⟩
  obtain ⟨e, -, ⟨ht, -, -⟩, hgl, c0, c1, c2⟩ := h.get hj (List.getElem?_eq_getElem (by omega)) (List.getElem?_eq_getElem (by omega))
  have hk : ∀ g, e.lo ≤ g → g ∉ S := fun g hg hm => by have := hS g hm; have := h.gl.1; omega
  refine ⟨e.rv, e.dv, e.vv, hc.cell c0 hgS, hc.cell c1 hgS, hc.cell c2 hgS, ?_, ?_, ?_⟩
  · simp only [List.getD, List.getElem?_eq_getElem (show j < WS.length by omega), Option.getD_some]
    exact seenI_of_own (own_chg ht.r hc (fun g hg => hk g (own_ge ht.r g hg))) (by simp)
  · simp only [List.getD, List.getElem?_eq_getElem (show j < WS.length by omega), Option.getD_some]
    exact seenI_of_own (own_chg ht.d hc (fun g hg => hk g (own_ge ht.d g hg))) (by simp)
  · simp only [List.getD, List.getElem?_eq_getElem (show j < WS.length by omega), List.getElem?_eq_getElem (show j < Ls.length by omega), Option.getD_some]
    exact SeenK.own V.cs_len (own_chg ht.v hc (fun g hg => hk g (own_ge ht.v g hg))) rfl

end Go.Proofs.Ytbbedkkinhccjaa
