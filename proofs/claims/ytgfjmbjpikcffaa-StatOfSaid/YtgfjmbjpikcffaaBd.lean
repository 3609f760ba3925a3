/- Rows of structs that the program builds: laid at once, appended to. -/
import Derived.Test.YtgfjmbjpikcffaaFs
namespace Go.Proofs.Ytgfjmbjpikcffaa
open Go.RowKit
set_option linter.unusedVariables false

theorem flat_get {α : Type} {enc : α → List Value} {k : Nat} (hk : ∀ x, (enc x).length = k) (l : List α) : ∀ (j : Nat) (x : α) (i : Nat) (u : Value), l[j]? = some x → (enc x)[i]? = some u → (l.flatMap enc)[j * k + i]? = some u := by
  induction l with
  | nil => intro j x i u h; simp at h
  | cons y l ih =>
    intro j x i u h hu
    cases j with
    | zero =>
      simp at h
      subst h
      have hi : i < (enc y).length := (List.getElem?_eq_some_iff.1 hu).1
      rw [List.flatMap_cons, Nat.zero_mul, Nat.zero_add, List.getElem?_append_left hi]
      exact hu
    | succ j =>
      rw [List.getElem?_cons_succ] at h
      have e : (j + 1) * k + i = k + (j * k + i) := by rw [Nat.succ_mul]; omega
      rw [List.flatMap_cons, List.getElem?_append_right (by rw [hk]; omega), e, hk, Nat.add_sub_cancel_left]
      exact ih j x i u h hu

theorem flat_length {α : Type} {enc : α → List Value} {k : Nat} (hk : ∀ x, (enc x).length = k) (l : List α) : (l.flatMap enc).length = l.length * k := by
  induction l with
  | nil => simp
  | cons y l ih => rw [List.flatMap_cons, List.length_append, hk, ih, List.length_cons, Nat.succ_mul]; omega

theorem F.cs_len (x : F) : (F.cs x).length = 4 := rfl
theorem L.cs_len (x : L) : (L.cs x).length = 4 := rfl

/-- A row of structs laid at once. -/
theorem SeenF.lit (w : World) (g : Nat) (hg : g = w.heap.size) (T : TypeId) (C : Array Value) (l : List F) (n : Nat) (hC : C.toList = l.flatMap F.cs) (hn : l.length = n) (hm : n ≤ maxLen) : SeenF (w.alloc (.cells C T)) (.slice (some ⟨g, 0, none⟩) n n) l := by
  subst hn hg
  refine ⟨_, _, rfl, Nat.le_refl _, hm, fun _ => ⟨w.heap.size, 0, rfl, fun j x i u hx hu => ?_⟩⟩
  rw [World.cell?_alloc_mark, Nat.zero_add]
  have h := flat_get F.cs_len l j x i u hx hu
  rw [← hC] at h
  simpa using h

/-- A row of structs that is a whole block. -/
theorem SeenF.blk {w : World} {g : Nat} {T : TypeId} {C : Array Value} {fr : Nat × Nat} (hb : w.heap[g]? = some (.cells C T fr)) (l : List F) (n : Nat) (hC : C.toList = l.flatMap F.cs) (hn : l.length = n) (hm : n ≤ maxLen) : SeenF w (.slice (some ⟨g, 0, none⟩) n n) l := by
  subst hn
  refine ⟨_, _, rfl, Nat.le_refl _, hm, fun _ => ⟨g, 0, rfl, fun j x i u hx hu => ?_⟩⟩
  rw [Nat.zero_add, cell_of_row w g _ _ _ _ hb]
  have h := flat_get F.cs_len l j x i u hx hu
  rw [← hC] at h
  simpa using h

theorem heap_set {w : World} {g i : Nat} {T : TypeId} {C : Array Value} {fr : Nat × Nat} (hb : w.heap[g]? = some (.cells C T fr)) (v : Value) : (w.setCell ⟨g, i, none⟩ v).heap[g]? = some (.cells (C.setIfInBounds i v) T fr) := by
  simp [World.setCell, Array.getElem?_modify, hb]

/-- A row of structs of the call's own. -/
theorem SeenF.own {w : World} {B T : Nat} {v : Value} {n : Nat} {l : List F} (h : w.ownsRow B T 4 v n (l.flatMap F.cs)) (hn : l.length = n) : SeenF w v l := by
  subst hn
  obtain ⟨hl, h1⟩ := h
  rcases h1 with ⟨rfl, hn⟩ | ⟨g, cap, cur, rfl, _, hg, hc, hm, hs, ht⟩
  · exact ⟨none, 0, by rw [hn], by omega, by decide, fun hp => by omega⟩
  · refine ⟨_, cap, rfl, by omega, by omega, fun _ => ⟨g, 0, rfl, fun j x i u hx hu => ?_⟩⟩
    rw [Nat.zero_add, cell_of_row w g _ _ _ _ hg]
    have h := flat_get F.cs_len l j x i u hx hu
    rw [← ht, List.getElem?_take] at h
    split at h
    · simpa using h
    · cases h

/-- A row of leaves of the call's own. -/
theorem SeenL.own {w : World} {B T : Nat} {v : Value} {n : Nat} {l : List L} (h : w.ownsRow B T 4 v n (l.flatMap L.cs)) (hn : l.length = n) : SeenL w v l := by
  subst hn
  obtain ⟨hl, h1⟩ := h
  rcases h1 with ⟨rfl, hn⟩ | ⟨g, cap, cur, rfl, _, hg, hc, hm, hs, ht⟩
  · exact ⟨none, 0, by rw [hn], by omega, by decide, fun hp => by omega⟩
  · refine ⟨_, cap, rfl, by omega, by omega, fun _ => ⟨g, 0, rfl, fun j x i u hx hu => ?_⟩⟩
    rw [Nat.zero_add, cell_of_row w g _ _ _ _ hg]
    have h := flat_get L.cs_len l j x i u hx hu
    rw [← ht, List.getElem?_take] at h
    split at h
    · simpa using h
    · cases h

theorem own_set {w : World} {B T size g n cap : Nat} {xs : List Value} (h : w.ownsRow B T size (.slice (some ⟨g, 0, none⟩) n cap) n xs) (i : Nat) (hi : i < n * size) (v : Value) :
    (w.setCell ⟨g, i, none⟩ v).ownsRow B T size (.slice (some ⟨g, 0, none⟩) n cap) n (xs.set i v) := by
  obtain ⟨hl, h1⟩ := h
  rcases h1 with ⟨he, hn⟩ | ⟨g', cap', cur, he, hb, hg, hc, hm, hs, ht⟩
  · cases he
  · injection he with e1 e2 e3
    injection e1 with e1
    injection e1 with e1
    subst e1 e3
    refine ⟨by simpa using hl, .inr ⟨g, cap, cur.setIfInBounds i v, rfl, hb, heap_set hg v, hc, hm, by simpa using hs, ?_⟩⟩
    rw [← ht]
    simp [List.take_set]

theorem own_ptr {w : World} {B T size n cap : Nat} {ao : Option Addr} {xs : List Value} (h : w.ownsRow B T size (.slice ao n cap) n xs) (hn : 0 < n) : ∃ g, ao = some ⟨g, 0, none⟩ ∧ B ≤ g ∧ g < w.heap.size ∧ (∀ i, w.frozen? ⟨g, i, none⟩ = false) ∧ ∀ (i : Nat) (u : Value), xs[i]? = some u → w.cell? ⟨g, i, none⟩ = some u := by
  obtain ⟨hl, h1⟩ := h
  rcases h1 with ⟨he, hn'⟩ | ⟨g', cap', cur, he, hb, hg, hc, hm, hs, ht⟩
  · omega
  · injection he with e1 e2 e3
    refine ⟨g', e1, hb, Go.lt_of_block hg, fun i => by simp [World.frozen?, hg], fun i u hu => ?_⟩
    rw [cell_of_row w g' i _ _ _ hg]
    rw [← ht, List.getElem?_take] at hu
    split at hu
    · simpa using hu
    · cases hu

end Go.Proofs.Ytgfjmbjpikcffaa
