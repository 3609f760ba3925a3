/- Rows that are owned: laid literally; kept by a change elsewhere; their room. -/
import Derived.Test.YtgfjmbjpikcffaaNv
import Derived.Test.YtgfjmbjpikcffaaFs
namespace Go.Proofs.Ytgfjmbjpikcffaa
open Go.RowKit
set_option linter.unusedVariables false

theorem own_lit (w : World) (g B : Nat) (hg : g = w.heap.size) (hB : B ≤ g) (T : TypeId) (C : Array Value) (xs : List Value) (n size : Nat) (hC : C.toList = xs) (hn : C.size = n * size) (hm : n ≤ maxLen) : (w.alloc (.cells C T)).ownsRow B T size (.slice (some ⟨g, 0, none⟩) n n) n xs := by
  subst hC hg
  refine ⟨by simpa using hn, .inr ⟨w.heap.size, n, C, rfl, hB, heap_alloc_new w _, Nat.le_refl _, hm, hn, ?_⟩⟩
  rw [← hn]
  exact List.take_of_length_le (by simp)

theorem own_chg {w w' : World} {S : List Nat} {B T size n : Nat} {v : Value} {xs : List Value} (h : w.ownsRow B T size v n xs) (hc : Chg S w w') (hS : ∀ g, v.ownBlock = some g → g ∉ S) : w'.ownsRow B T size v n xs := by
  obtain ⟨hl, h1⟩ := h
  refine ⟨hl, ?_⟩
  rcases h1 with h1 | ⟨g, cap, cur, rfl, hb, hg, h2⟩
  · exact .inl h1
  · exact .inr ⟨g, cap, cur, rfl, hb, hc.heap hg (hS g rfl), h2⟩

theorem own_room {w : World} {B T size n cap : Nat} {ao : Option Addr} {xs : List Value} (h : w.ownsRow B T size (.slice ao n cap) n xs) : n ≤ cap ∧ cap ≤ maxLen := by
  obtain ⟨hl, h1⟩ := h
  rcases h1 with ⟨he, hn⟩ | ⟨g', cap', cur, he, hb, hg, hc, hmx, hs, ht⟩
  · injection he with e1 e2 e3
    subst e3
    rw [hn]
    exact ⟨Nat.le_refl _, by decide⟩
  · injection he with e1 e2 e3
    subst e3
    exact ⟨hc, hmx⟩

theorem IsRow.seenI {w : World} {a : Option Addr} {len cap : Nat} {z : List Int} (h : IsRow .i64 w a len cap z) : ∃ l : List Int, SeenI w (.slice a len cap) l ∧ len = l.length ∧ ∀ x ∈ l, (Lit.int .i64 x).wf = true := by
  refine ⟨z.take len, ?_, ?_, fun x hx => h.wf x (List.mem_of_mem_take hx)⟩
  · rcases h with ⟨rfl, rfl, rfl, rfl⟩ | ⟨x, rfl, h1, h2, h3, h4, h5⟩
    · exact ⟨none, 0, rfl, by simp, by simp, fun h => absurd h (by simp)⟩
    · have hl : (z.take len).length = len := by simp; omega
      refine ⟨some x, cap, by rw [hl], by omega, h2, fun hp => ?_⟩
      have h0 := h4 0 (by omega)
      obtain ⟨g, off, sp⟩ := x
      have hsp : sp = none := by simpa [Addr.add] using World.cell?_spot h0
      subst hsp
      refine ⟨g, off, rfl, fun j x i u hx hu => ?_⟩
      have hj : j < z.length := by
        have := (List.getElem?_eq_some_iff.1 hx).1
        simp at this
        omega
      have hi : i = 0 := by
        cases i with
        | zero => rfl
        | succ i => simp [ic] at hu
      subst hi
      have h5 := h4 j hj
      rw [addr_add] at h5
      simp only [Nat.mul_one, Nat.add_zero]
      rw [h5, ← hu]
      rw [List.getElem?_take] at hx
      split at hx
      · simp [ic, List.getD, hx]
      · cases hx
  · rcases h with ⟨rfl, rfl, rfl, rfl⟩ | ⟨x, rfl, h1, h2, h3, h4, h5⟩
    · simp
    · simp; omega

end Go.Proofs.Ytgfjmbjpikcffaa
