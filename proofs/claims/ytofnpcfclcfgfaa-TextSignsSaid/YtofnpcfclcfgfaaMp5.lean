/- What holds of all that Make makes; how often on the way. -/
import Derived.Test.YtofnpcfclcfgfaaMw
namespace Go.Proofs.Ytofnpcfclcfgfaa
open Go.RowKit
set_option linter.unusedVariables false

/-- Beside Okm: the last field is a leaf, or the innermost group, with nothing in it; names have one letter. -/
structure Lf (i : Nat) (m : MS) : Prop where
  ok : Okm i m
  last : ∃ f, m.s[i]? = some f ∧ (f.k ≠ 0 ∨ m.o.headD 0 = i ∧ f.c = 0)
  nm : ∀ f ∈ m.s, f.n.size = 1

theorem bump_mem {s : List F} {g : Nat} (hg : g < s.length) {P : ByteArray → Prop} (h : ∀ f ∈ s, P f.n) : ∀ f ∈ bump s g, P f.n := by
  intro f hf
  rcases List.mem_or_eq_of_mem_set hf with h1 | rfl
  · exact h f h1
  · have h2 : s.getD g default ∈ s := by rw [List.getD, List.getElem?_eq_getElem hg]; exact List.getElem_mem hg
    exact h (s.getD g default) h2

theorem Lf.start : Lf 0 startM := ⟨Okm.start, ⟨_, rfl, .inr ⟨rfl, rfl⟩⟩, by intro f hf; simp [startM] at hf; subst hf; rfl⟩

theorem popK_ne {i : Nat} {m : MS} (h : Okm i m) (k : Nat) : popK k m.s m.o ≠ [] := by
  rcases popK_sub k m.s m.o with h1 | h1
  · exact h1
  · exact absurd h1 h.ne

theorem popK_lt {i : Nat} {m : MS} (h : Okm i m) (k : Nat) : (popK k m.s m.o).headD 0 < m.s.length := by
  rw [h.len]
  exact h.lt _ ((popK_suffix k m.s m.o).subset (headD_mem (popK_ne h k)))

theorem Lf.step {i : Nat} {m : MS} (h : Lf i m) (x : Int) : Lf (i + 1) (stepM i x m) := by
  refine ⟨h.ok.step x, ⟨fieldM i x (popK ((x.tdiv 64) % 3).toNat m.s m.o), ?_, ?_⟩, ?_⟩
  · simp only [stepM]
    rw [List.getElem?_append_right (by simp [h.ok.len]), bump_length, h.ok.len, Nat.sub_self]
    rfl
  · by_cases hk : kindM x (popK ((x.tdiv 64) % 3).toNat m.s m.o) = 0
    · right
      simp only [stepM]
      rw [if_pos hk]
      exact ⟨by simp [h.ok.len], rfl⟩
    · exact .inl hk
  · simp only [stepM]
    intro f hf
    rcases List.mem_append.1 hf with h1 | h1
    · exact bump_mem (P := fun n => n.size = 1) (popK_lt h.ok _) h.nm f h1
    · simp only [List.mem_singleton] at h1
      subst h1
      rfl

theorem goM_ok (l : List Int) : ∀ (i : Nat) (m : MS), Lf i m → i ≤ 12 → ∃ j, j ≤ 12 ∧ Lf j (goM l i m) := by
  induction l with
  | nil => intro i m h hi; exact ⟨i, hi, h⟩
  | cons x l ih =>
    intro i m h hi
    rw [goM]
    split
    · exact ih (i + 1) _ (h.step x) (by omega)
    · exact ⟨i, hi, h⟩

structure Mk (l : List F) : Prop where
  le : l.length ≤ 14
  pos : 0 < l.length
  c : ∀ f ∈ l, 0 ≤ f.c ∧ f.c ≤ 13
  n : ∀ f ∈ l, f.n.size = 1
  leaf : ∃ f ∈ l, f.k ≠ 0

theorem mk_ok (ns : List Int) : Mk (mk ns) := by
  obtain ⟨j, hj, h⟩ := goM_ok ns 0 startM Lf.start (by omega)
  unfold mk
  obtain ⟨f, hf, hl⟩ := h.last
  have hg : (goM ns 0 startM).o.headD 0 < (goM ns 0 startM).s.length := by
    rw [h.ok.len]
    exact h.ok.lt _ (headD_mem h.ok.ne)
  have hlen := h.ok.len
  unfold finM
  split
  · refine ⟨by simp; omega, by simp, ?_, ?_, ⟨⟨bz, 0, 4, 0⟩, by simp, by decide⟩⟩
    · intro f hf
      rcases List.mem_append.1 hf with h1 | h1
      · have := bump_c h.ok.cb hg f h1; omega
      · simp only [List.mem_singleton] at h1; subst h1; simp
    · intro f hf
      rcases List.mem_append.1 hf with h1 | h1
      · exact bump_mem (P := fun n => n.size = 1) hg h.nm f h1
      · simp only [List.mem_singleton] at h1; subst h1; rfl
  · rename_i hne
    refine ⟨by omega, by omega, fun f hf => by have := h.ok.cb f hf; omega, h.nm, ?_⟩
    rcases hl with h1 | ⟨h1, h2⟩
    · exact ⟨f, List.mem_of_getElem? hf, h1⟩
    · exfalso
      apply hne
      rw [h1, List.getD, hf]
      exact h2

theorem leaves_ne {l : List F} (h : ∃ f ∈ l, f.k ≠ 0) : 0 < (leavesL l).length := by
  obtain ⟨f, hf, hk⟩ := h
  obtain ⟨i, hi⟩ := List.mem_iff_getElem?.1 hf
  have hlt := (List.getElem?_eq_some_iff.1 hi).1
  have hm : (⟨i, (rls l).getD i 0, (dls l).getD i 0, f.k⟩ : L) ∈ leavesL l := by
    unfold leavesL leavesTo
    rw [List.mem_flatMap]
    refine ⟨i, List.mem_range.2 hlt, ?_⟩
    unfold leafAt
    have e : l.getD i default = f := by rw [List.getD, hi]; rfl
    rw [e, if_pos hk]
    simp
  exact List.length_pos_iff.2 (List.ne_nil_of_mem hm)

/-- What is counted at field k of those above it, too; -1 is none. -/
def cat (c : List Int) (k : Int) : Int := if k = -1 then 0 else c.getD k.toNat 0

theorem cntL_at (b : Nat → Bool) (ps : List Int) (i : Nat) (hi : i < ps.length) (hp : ∀ (j : Nat) (x : Int), ps[j]? = some x → x = -1 ∨ 0 ≤ x ∧ x < j) : (cntL b ps).getD i 0 = cat (cntL b ps) (ps.getD i 0) + (if b i then 1 else 0) := by
  have hpre : ∀ n, n ≤ ps.length → ∀ j, j < n → (cntL b ps).getD j 0 = (cntL b (ps.take n)).getD j 0 := by
    intro n hn
    have e : ∀ m, n ≤ m → m ≤ ps.length → ∃ t, cntL b (ps.take m) = cntL b (ps.take n) ++ t := by
      intro m hm
      induction m with
      | zero => intro _; exact ⟨[], by rw [show n = 0 by omega]; simp⟩
      | succ m ih =>
        intro hml
        by_cases hnm : n = m + 1
        · exact ⟨[], by rw [hnm]; simp⟩
        · obtain ⟨t, ht⟩ := ih (by omega) (by omega)
          rw [cntL_take b ps m _ (List.getElem?_eq_getElem (by omega)), ht]
          exact ⟨_, List.append_assoc _ _ _⟩
    obtain ⟨t, ht⟩ := e ps.length hn (Nat.le_refl _)
    rw [List.take_length] at ht
    intro j hj
    rw [ht, List.getD, List.getD, List.getElem?_append_left (by simp; omega)]
  have hx : ps[i]? = some (ps.getD i 0) := by rw [List.getD, List.getElem?_eq_getElem hi]; rfl
  rw [hpre (i + 1) hi i (by omega), cntL_take b ps i _ hx]
  have hl : (cntL b (ps.take i)).length = i := by simp; omega
  have e1 : ∀ v : Int, (cntL b (ps.take i) ++ [v]).getD i 0 = v := by
    intro v
    rw [List.getD, List.getElem?_append_right (by omega), hl, Nat.sub_self]
    rfl
  rw [e1]
  congr 1
  unfold cat
  split
  · rfl
  · rename_i hne
    rcases hp i _ hx with h | h
    · exact absurd h hne
    · exact (hpre i (by omega) _ (by omega)).symm

theorem rd_le (l : List F) (i : Nat) (hi : i < l.length) : (rls l).getD i 0 ≤ (dls l).getD i 0 := by
  induction i using Nat.strongRecOn with
  | ind i ih =>
    have h1 := cntL_at (repB l) (parents l) i (by simpa using hi) (fun j x => parents_lt)
    have h2 := cntL_at (optB l) (parents l) i (by simpa using hi) (fun j x => parents_lt)
    have h3 : (if repB l i then (1 : Int) else 0) ≤ (if optB l i then 1 else 0) := by
      unfold repB optB
      by_cases h : (l.getD i default).r = 2
      · rw [h]; decide
      · simp only [h, decide_false]; split <;> split <;> simp_all
    have h4 : cat (rls l) ((parents l).getD i 0) ≤ cat (dls l) ((parents l).getD i 0) := by
      unfold cat
      split
      · exact Int.le_refl _
      · rename_i hne
        have hx : (parents l)[i]? = some ((parents l).getD i 0) := by rw [List.getD, List.getElem?_eq_getElem (by simpa using hi)]; rfl
        rcases parents_lt hx with h | h
        · exact absurd h hne
        · exact ih _ (by omega) (by omega)
    unfold rls dls at *
    omega

end Go.Proofs.Ytofnpcfclcfgfaa
