/- Levels of a column's cells: pure. -/
import Derived.Test.YtfdmbpfpdijpdaaShn
namespace Go.Proofs.Ytfdmbpfpdijpdaa
open Go.RowKit
set_option linter.unusedVariables false
set_option linter.unusedSimpArgs false

theorem cells_head : ∀ (W : List Stp) (rr d r : Nat) (t : Tr), ∃ c rest, cellsV W rr d r t = c :: rest ∧ c.r = r ∧ ∀ x ∈ rest, rr < x.r
  | [], rr, d, r, t => ⟨_, [], cellsV_nil rr d r t, rfl, fun x hx => by cases hx⟩
  | (p, k) :: W, rr, d, r, t => by
    cases hg : t.k.getD p [] with
    | nil => exact ⟨_, [], cellsV_none hg, rfl, fun x hx => by cases hx⟩
    | cons x X =>
      rw [cellsV_some hg]
      obtain ⟨c, rest, h1, h2, h3⟩ := cells_head W (if k = 2 then rr + 1 else rr) (if k = 0 then d else d + 1) r x
      rw [h1]
      refine ⟨c, rest ++ _, rfl, h2, fun y hy => ?_⟩
      rw [List.mem_append] at hy
      rcases hy with hy | hy
      · have := h3 y hy
        by_cases hk : k = 2
        · rw [if_pos hk] at this; omega
        · rw [if_neg hk] at this; exact this
      · by_cases hk : k = 2
        · rw [if_pos hk] at hy
          obtain ⟨z, hz, hy⟩ := List.mem_flatMap.1 hy
          obtain ⟨c', rest', g1, g2, g3⟩ := cells_head W (rr + 1) (d + 1) (rr + 1) z
          rw [g1] at hy
          rcases List.mem_cons.1 hy with rfl | hy
          · omega
          · have := g3 y hy; omega
        · rw [if_neg hk] at hy; cases hy

/-- How many of a way's fields are Repeated, not Required. -/
def many2 (W : List Stp) : Nat := W.countP fun s => decide (s.2 = 2)
def manyD (W : List Stp) : Nat := W.countP fun s => decide (s.2 ≠ 0)

theorem cells_levels : ∀ (W : List Stp) (rr d r : Nat) (t : Tr), r ≤ rr → ∀ x ∈ cellsV W rr d r t, x.r ≤ rr + many2 W ∧ x.d ≤ d + manyD W
  | [], rr, d, r, t, h, x, hx => by
    rw [cellsV_nil, List.mem_singleton] at hx
    subst hx
    exact ⟨by show r ≤ _; omega, Nat.le_add_right _ _⟩
  | (p, k) :: W, rr, d, r, t, h, x, hx => by
    have e2 : many2 ((p, k) :: W) = many2 W + (if k = 2 then 1 else 0) := by unfold many2; rw [List.countP_cons]; simp
    have eD : manyD ((p, k) :: W) = manyD W + (if k = 0 then 0 else 1) := by
      unfold manyD; rw [List.countP_cons]
      by_cases hk : k = 0
      · simp [hk]
      · simp [hk]
    rw [e2, eD]
    cases hg : t.k.getD p [] with
    | nil =>
      rw [cellsV_none hg, List.mem_singleton] at hx
      subst hx
      exact ⟨by show r ≤ _; omega, Nat.le_add_right _ _⟩
    | cons y X =>
      rw [cellsV_some hg, List.mem_append] at hx
      rcases hx with hx | hx
      · have h1 := cells_levels W (if k = 2 then rr + 1 else rr) (if k = 0 then d else d + 1) r y (by split <;> omega) x hx
        by_cases hk : k = 2
        · have h0 : ¬ k = 0 := by omega
          rw [if_pos hk, if_neg h0] at h1 ⊢
          omega
        · rw [if_neg hk] at h1 ⊢
          by_cases h0 : k = 0
          · rw [if_pos h0] at h1 ⊢; omega
          · rw [if_neg h0] at h1 ⊢; omega
      · by_cases hk : k = 2
        · have h0 : ¬ k = 0 := by omega
          rw [if_pos hk] at hx ⊢
          rw [if_neg h0]
          obtain ⟨z, hz, hx⟩ := List.mem_flatMap.1 hx
          have h1 := cells_levels W (rr + 1) (d + 1) (rr + 1) z (Nat.le_refl _) x hx
          omega
        · rw [if_neg hk] at hx; cases hx

/-- As many cells begin a record as there are records. -/
theorem col_begins (W : List Stp) : ∀ L0 : List Tr, ((colC W L0).filter fun c => decide (c.r = 0)).length = L0.length
  | [] => rfl
  | t :: L0 => by
    have ih := col_begins W L0
    unfold colC at ih ⊢
    obtain ⟨c, rest, h1, h2, h3⟩ := cells_head W 0 0 0 t
    rw [List.flatMap_cons, List.filter_append, List.length_append, ih, h1, List.filter_cons, if_pos (by simp [h2]), List.length_cons, List.length_cons]
    have : (rest.filter fun c => decide (c.r = 0)) = [] := List.filter_eq_nil_iff.2 fun x hx => by have := h3 x hx; simp; omega
    rw [this]
    simp
    omega

theorem col_first (W : List Stp) (t : Tr) (L0 : List Tr) : ∃ c rest, colC W (t :: L0) = c :: rest ∧ c.r = 0 := by
  obtain ⟨c, rest, h1, h2, h3⟩ := cells_head W 0 0 0 t
  exact ⟨c, rest ++ colC W L0, by unfold colC; rw [List.flatMap_cons, h1]; rfl, h2⟩

theorem col_app (W : List Stp) (A B : List Tr) : colC W (A ++ B) = colC W A ++ colC W B := by unfold colC; rw [List.flatMap_append]

/-- A way's levels are its field's. -/
theorem way_levels (l : List F) (hp : ∀ j, j < l.length → (parents l).getD j 0 = -1 → (l.getD j default).r = 0) : ∀ n, n ≤ l.length → ∀ j, j < n → ((many2 ((wayTo l n).getD j []) : Nat) : Int) = (rls l).getD j 0 ∧ ((manyD ((wayTo l n).getD j []) : Nat) : Int) = (dls l).getD j 0
  | 0, _, j, hj => by omega
  | n + 1, hn, j, hj => by
    by_cases e : j < n
    · have h := way_levels l hp n (by omega) j e
      rw [wayTo, List.getD, List.getElem?_append_left (by rw [wayTo_len]; exact e), ← List.getD]
      exact h
    · have ej : j = n := by omega
      subst ej
      have hr := cntL_at (repB l) (parents l) j (by rw [parents_length]; omega) (fun j x => parents_lt)
      have hd := cntL_at (optB l) (parents l) j (by rw [parents_length]; omega) (fun j x => parents_lt)
      have hp0 := hp j (by omega)
      rw [wayTo, List.getD, List.getElem?_append_right (by rw [wayTo_len]; exact Nat.le_refl _), wayTo_len, Nat.sub_self]
      simp only [List.getElem?_cons_zero, Option.getD_some]
      obtain ⟨x, hx⟩ : ∃ x, (parents l)[j]? = some x := ⟨_, List.getElem?_eq_getElem (by rw [parents_length]; omega)⟩
      have hxd : (parents l).getD j 0 = x := by rw [List.getD, hx]; rfl
      unfold rls dls
      rw [hxd] at hr hd hp0 ⊢
      rw [hr, hd]
      rcases parents_lt hx with rfl | ⟨h0, hlt⟩
      · have hz := hp0 rfl
        rw [if_pos rfl]
        unfold cat
        simp only [if_true]
        unfold repB optB
        rw [hz]
        simp [many2, manyD]
      · rw [if_neg (by omega)]
        unfold cat
        simp only [show ¬ x = -1 by omega, if_false]
        have h := way_levels l hp j (by omega) x.toNat (by omega)
        unfold rls dls at h
        rw [← h.1, ← h.2]
        unfold many2 manyD repB optB
        rw [List.countP_append, List.countP_append]
        generalize (l.getD j default).r = rj
        by_cases c0 : rj = 0
        · rw [c0]; simp
        · by_cases c2 : rj = 2
          · rw [c2]; simp
          · simp [c0, c2]

/-- A leaf's levels are those of its way. -/
theorem leaf_levels (ns : List Int) {i : Nat} {lf : L} {W : List Stp} (hl : (leavesL (mk ns))[i]? = some lf) (hW : (lways (mk ns))[i]? = some W) : lf.r = ((many2 W : Nat) : Int) ∧ lf.d = ((manyD W : Nat) : Int) := by
  have hp : ∀ j, j < (mk ns).length → (parents (mk ns)).getD j 0 = -1 → ((mk ns).getD j default).r = 0 := fun j hj h => by
    by_cases h0 : j = 0
    · subst h0; exact (mk_root ns).2.1
    · exact absurd h (no_fault (mk_fault ns j hj) (by omega))
  have hx := List.mem_of_getElem? hl
  obtain ⟨k, hk, hxk⟩ := leaf_field hx
  have hW2 := lways_at hl hxk
  rw [hW] at hW2
  injection hW2 with hW2
  obtain ⟨h1, h2⟩ := way_levels (mk ns) hp (mk ns).length (Nat.le_refl _) k hk
  rw [← hW2] at h1 h2
  unfold leavesL leavesTo at hx
  obtain ⟨k', hk', hx⟩ := List.mem_flatMap.1 hx
  unfold leafAt at hx
  split at hx
  · rw [List.mem_singleton] at hx
    subst hx
    simp only at hxk ⊢
    have : k' = k := by omega
    subst this
    exact ⟨h1.symm, h2.symm⟩
  · cases hx

end Go.Proofs.Ytfdmbpfpdijpdaa
