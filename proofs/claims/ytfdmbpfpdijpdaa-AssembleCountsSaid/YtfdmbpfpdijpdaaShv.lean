/- Three rows of a column that grow: which of them have grown; one tree of a list. -/
import Derived.Test.YtfdmbpfpdijpdaaGro
import Derived.Test.YtfdmbpfpdijpdaaSho
import Derived.Test.YtfdmbpfpdijpdaaShq
import Derived.Test.YtfdmbpfpdijpdaaIg
namespace Go.Proofs.Ytfdmbpfpdijpdaa
open Go.RowKit
set_option linter.unusedVariables false
set_option linter.unusedSimpArgs false

/-- At p, p + 1, p + 2 what has changed so far. -/
def FB {α : Type} (F : Nat → α) (p : Nat) (b1 b2 b3 : Bool) (v1 v2 v3 : α) : Nat → α := fun q => if q = p + 2 ∧ b3 = true then v3 else if q = p + 1 ∧ b2 = true then v2 else if q = p ∧ b1 = true then v1 else F q

theorem FB_none {α : Type} (F : Nat → α) (p : Nat) (v1 v2 v3 : α) : FB F p false false false v1 v2 v3 = F := by funext q; simp [FB]
theorem FB_at0 {α : Type} (F : Nat → α) (p : Nat) (b2 b3 : Bool) (v1 v2 v3 : α) : FB F p false b2 b3 v1 v2 v3 p = F p := by simp [FB]
theorem FB_at1 {α : Type} (F : Nat → α) (p : Nat) (b1 b3 : Bool) (v1 v2 v3 : α) : FB F p b1 false b3 v1 v2 v3 (p + 1) = F (p + 1) := by simp [FB]
theorem FB_at2 {α : Type} (F : Nat → α) (p : Nat) (b1 b2 : Bool) (v1 v2 v3 : α) : FB F p b1 b2 false v1 v2 v3 (p + 2) = F (p + 2) := by simp [FB]
theorem FB_step0 {α : Type} (F : Nat → α) (p : Nat) (b2 b3 : Bool) (v v1 v2 v3 : α) : ∀ q, FB F p true b2 b3 v v2 v3 q = if q = p then v else FB F p false b2 b3 v1 v2 v3 q := by
  intro q
  unfold FB
  by_cases e : q = p
  · subst e; simp
  · simp [e]
theorem FB_step1 {α : Type} (F : Nat → α) (p : Nat) (b1 b3 : Bool) (v v1 v2 v3 : α) : ∀ q, FB F p b1 true b3 v1 v v3 q = if q = p + 1 then v else FB F p b1 false b3 v1 v2 v3 q := by
  intro q
  unfold FB
  by_cases e : q = p + 1
  · subst e; simp
  · simp [e]
theorem FB_step2 {α : Type} (F : Nat → α) (p : Nat) (b1 b2 : Bool) (v v1 v2 v3 : α) : ∀ q, FB F p b1 b2 true v1 v2 v q = if q = p + 2 then v else FB F p b1 b2 false v1 v2 v3 q := by
  intro q
  unfold FB
  by_cases e : q = p + 2
  · subst e; simp
  · simp [e]
theorem FB_all {α : Type} (F : Nat → α) (p : Nat) (v1 v2 v3 : α) (q : Nat) : FB F p true true true v1 v2 v3 q = if q = p + 2 then v3 else if q = p + 1 then v2 else if q = p then v1 else F q := by simp [FB]

/-- The cells of a row of columns. -/
def cellsF (n : Nat) (F : Nat → Value) : Array Value := ((List.range n).map F).toArray
theorem cellsF_get (n : Nat) (F : Nat → Value) (i : Nat) (h : i < n) : (cellsF n F)[i]? = some (F i) := by simp [cellsF, h]
theorem cellsF_set (n : Nat) (F F' : Nat → Value) (p : Nat) (v1 v2 v3 : Value) (h : ∀ q, F' q = if q = p + 2 then v3 else if q = p + 1 then v2 else if q = p then v1 else F q) :
    ((((cellsF n F).setIfInBounds p v1).setIfInBounds (p + 1) v2).setIfInBounds (p + 2) v3) = cellsF n F' := by
  apply Array.ext_getElem?
  intro i
  simp only [Array.getElem?_setIfInBounds, Array.size_setIfInBounds]
  have hs : (cellsF n F).size = n := by simp [cellsF]
  have hs' : (cellsF n F').size = n := by simp [cellsF]
  rw [hs]
  by_cases hi : i < n
  · rw [cellsF_get n F' i hi, h, cellsF_get n F i hi]
    by_cases e2 : i = p + 2
    · subst e2; simp [hi]
    · by_cases e1 : i = p + 1
      · subst e1; simp [hi]
      · by_cases e0 : i = p
        · subst e0; simp [hi]
        · rw [if_neg (fun e => e2 e.symm), if_neg (fun e => e1 e.symm), if_neg (fun e => e0 e.symm), if_neg e2, if_neg e1, if_neg e0]
  · rw [Array.getElem?_eq_none (by omega), Array.getElem?_eq_none (by omega)]
    repeat' split
    all_goals first | rfl | (exfalso; omega) | simp_all

/-- l[i:i+1] of a list of trees. -/
theorem ListAt.mid {w : World} {d n cap : Nat} {X : List Tr} {ao : Option Addr} (h : ListAt w d X (.slice ao n cap)) (hn : n = X.length) (i : Nat) (t : Tr) (hi : X[i]? = some t) :
    ∃ ao' cap', ListAt w d [t] (.slice ao' 1 cap') ∧ ∀ wx, (Instr.slice 28 (.slice ao n cap) (some (.int .i64 (i : Int))) (some (.int .i64 ((i : Int) + 1))) none).run Try.prog wx = .ok (.slice ao' 1 cap') wx := by
  obtain ⟨E, h1, h2, h3⟩ := h
  obtain ⟨ao', cap', he, hc, hm⟩ := h2.shape
  injection he with e1 e2 e3
  subst e1 e2 e3
  have hlt : i < E.length := by have := (List.getElem?_eq_some_iff.1 hi).1; omega
  have hs := h2.sliced i (i + 1) (by omega) (by omega)
  have ht : (E.take (i + 1)).drop i = [E[i]] := by
    rw [List.take_add_one, List.getElem?_eq_getElem hlt, List.drop_append_of_le_length (by simp; omega), List.drop_of_length_le (by simp; omega)]; rfl
  rw [ht] at hs
  obtain ⟨i0, hi0, _, hz1, _⟩ := info_tree
  have hrun : ∀ wx, (Instr.slice 28 (.slice ao E.length cap) (some (.int .i64 (i : Int))) (some (.int .i64 ((i : Int) + 1))) none).run Try.prog wx = .ok (Go.sliced ao i (i + 1) cap 3) wx := fun wx => by
    have h := run_slice_lh wx 28 ao E.length cap (by rw [elem_trees]; exact Try.underlying28) .i64 .i64 i (i + 1) (by omega) (by omega) (by omega)
    rw [elem_trees] at h
    refine Eq.trans h ?_
    simp [sizeOf, typeInfo, hi0, hz1, Go.sliced]
  obtain ⟨so, sc, hse, -, -⟩ := hs.shape
  rw [hse] at hs hrun
  have het : E[i].1 = t := by
    rw [← h1, List.getElem?_map, List.getElem?_eq_getElem hlt] at hi
    simpa using hi
  exact ⟨so, sc, ⟨[E[i]], by simp [het], hs, fun q hq => h3 q (by simp at hq; rw [hq]; exact List.getElem_mem _)⟩, hrun⟩

end Go.Proofs.Ytfdmbpfpdijpdaa
