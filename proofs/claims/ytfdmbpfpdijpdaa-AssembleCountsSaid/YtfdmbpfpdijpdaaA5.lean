/- Mp5, Rp, Nd, Vm, Su, Vk, Eq, Fo, Rwa, Qk, Fp, Hv, Rpa, Goo: texts of one group, one behind the other. -/
import Derived.Test.YtfdmbpfpdijpdaaMw
import Derived.Maps.AppendAt
import Derived.Test.YtfdmbpfpdijpdaaA3
import Derived.Test.YtfdmbpfpdijpdaaA1
import Derived.Test.YtfdmbpfpdijpdaaA4
namespace Go.Proofs.Ytfdmbpfpdijpdaa
open Go.RowKit
set_option linter.unusedVariables false

/-- Beside Okm: the last field is a leaf, or the innermost group, with nothing in it; names have one letter. -/
structure Lf (i : Nat) (m : MS) : Prop where
  ok : Okm i m
  last : ∃ f, m.s[i]? = some f ∧ (f.k ≠ 0 ∨ m.o.headD 0 = i ∧ f.c = 0)
  nm : ∀ f ∈ m.s, f.n.size = 1

theorem bump_mem {s : List F} {g : Nat} (hg : g < s.length) {P : ByteArray → Prop} (h : ∀ f ∈ s, P f.n) : ∀ f ∈ bump s g, P f.n := by
  intro f hf
  rcases List.mem_or_eq_of_mem_set hf with h1 | rfl
  · exact h f h1
  · have h2 : s.getD g default ∈ s := by rw [List.getD, List.getElem?_eq_getElem hg]; exact List.getElem_mem hg
    exact h (s.getD g default) h2

theorem Lf.start : Lf 0 startM := ⟨Okm.start, ⟨_, rfl, .inr ⟨rfl, rfl⟩⟩, by intro f hf; simp [startM] at hf; subst hf; rfl⟩

theorem popK_ne {i : Nat} {m : MS} (h : Okm i m) (k : Nat) : popK k m.s m.o ≠ [] := by
  rcases popK_sub k m.s m.o with h1 | h1
  · exact h1
  · exact absurd h1 h.ne

theorem popK_lt {i : Nat} {m : MS} (h : Okm i m) (k : Nat) : (popK k m.s m.o).headD 0 < m.s.length := by
  rw [h.len]
  exact h.lt _ ((popK_suffix k m.s m.o).subset (headD_mem (popK_ne h k)))

theorem Lf.step {i : Nat} {m : MS} (h : Lf i m) (x : Int) : Lf (i + 1) (stepM i x m) := by
  refine ⟨h.ok.step x, ⟨fieldM i x (popK ((x.tdiv 64) % 3).toNat m.s m.o), ?_, ?_⟩, ?_⟩
  · simp only [stepM]
    rw [List.getElem?_append_right (by simp [h.ok.len]), bump_length, h.ok.len, Nat.sub_self]
    rfl
  · by_cases hk : kindM x (popK ((x.tdiv 64) % 3).toNat m.s m.o) = 0
    · right
      simp only [stepM]
      rw [if_pos hk]
      exact ⟨by simp [h.ok.len], rfl⟩
    · exact .inl hk
  · simp only [stepM]
    intro f hf
    rcases List.mem_append.1 hf with h1 | h1
    · exact bump_mem (P := fun n => n.size = 1) (popK_lt h.ok _) h.nm f h1
    · simp only [List.mem_singleton] at h1
      subst h1
      rfl

theorem goM_ok (l : List Int) : ∀ (i : Nat) (m : MS), Lf i m → i ≤ 12 → ∃ j, j ≤ 12 ∧ Lf j (goM l i m) := by
  induction l with
  | nil => intro i m h hi; exact ⟨i, hi, h⟩
  | cons x l ih =>
    intro i m h hi
    rw [goM]
    split
    · exact ih (i + 1) _ (h.step x) (by omega)
    · exact ⟨i, hi, h⟩

structure Mk (l : List F) : Prop where
  le : l.length ≤ 14
  pos : 0 < l.length
  c : ∀ f ∈ l, 0 ≤ f.c ∧ f.c ≤ 13
  n : ∀ f ∈ l, f.n.size = 1
  leaf : ∃ f ∈ l, f.k ≠ 0

theorem mk_ok (ns : List Int) : Mk (mk ns) := by
  obtain ⟨j, hj, h⟩ := goM_ok ns 0 startM Lf.start (by omega)
  unfold mk
  obtain ⟨f, hf, hl⟩ := h.last
  have hg : (goM ns 0 startM).o.headD 0 < (goM ns 0 startM).s.length := by
    rw [h.ok.len]
    exact h.ok.lt _ (headD_mem h.ok.ne)
  have hlen := h.ok.len
  unfold finM
  split
  · refine ⟨by simp; omega, by simp, ?_, ?_, ⟨⟨bz, 0, 4, 0⟩, by simp, by decide⟩⟩
    · intro f hf
      rcases List.mem_append.1 hf with h1 | h1
      · have := bump_c h.ok.cb hg f h1; omega
      · simp only [List.mem_singleton] at h1; subst h1; simp
    · intro f hf
      rcases List.mem_append.1 hf with h1 | h1
      · exact bump_mem (P := fun n => n.size = 1) hg h.nm f h1
      · simp only [List.mem_singleton] at h1; subst h1; rfl
  · rename_i hne
    refine ⟨by omega, by omega, fun f hf => by have := h.ok.cb f hf; omega, h.nm, ?_⟩
    rcases hl with h1 | ⟨h1, h2⟩
    · exact ⟨f, List.mem_of_getElem? hf, h1⟩
    · exfalso
      apply hne
      rw [h1, List.getD, hf]
      exact h2

theorem leaves_ne {l : List F} (h : ∃ f ∈ l, f.k ≠ 0) : 0 < (leavesL l).length := by
  obtain ⟨f, hf, hk⟩ := h
  obtain ⟨i, hi⟩ := List.mem_iff_getElem?.1 hf
  have hlt := (List.getElem?_eq_some_iff.1 hi).1
  have hm : (⟨i, (rls l).getD i 0, (dls l).getD i 0, f.k⟩ : L) ∈ leavesL l := by
    unfold leavesL leavesTo
    rw [List.mem_flatMap]
    refine ⟨i, List.mem_range.2 hlt, ?_⟩
    unfold leafAt
    have e : l.getD i default = f := by rw [List.getD, hi]; rfl
    rw [e, if_pos hk]
    simp
  exact List.length_pos_iff.2 (List.ne_nil_of_mem hm)

/-- What is counted at field k of those above it, too; -1 is none. -/
def cat (c : List Int) (k : Int) : Int := if k = -1 then 0 else c.getD k.toNat 0

theorem cntL_at (b : Nat → Bool) (ps : List Int) (i : Nat) (hi : i < ps.length) (hp : ∀ (j : Nat) (x : Int), ps[j]? = some x → x = -1 ∨ 0 ≤ x ∧ x < j) : (cntL b ps).getD i 0 = cat (cntL b ps) (ps.getD i 0) + (if b i then 1 else 0) := by
  have hpre : ∀ n, n ≤ ps.length → ∀ j, j < n → (cntL b ps).getD j 0 = (cntL b (ps.take n)).getD j 0 := by
    intro n hn
    have e : ∀ m, n ≤ m → m ≤ ps.length → ∃ t, cntL b (ps.take m) = cntL b (ps.take n) ++ t := by
      intro m hm
      induction m with
      | zero => intro _; exact ⟨[], by rw [show n = 0 by omega]; simp⟩
      | succ m ih =>
        intro hml
        by_cases hnm : n = m + 1
        · exact ⟨[], by rw [hnm]; simp⟩
        · obtain ⟨t, ht⟩ := ih (by omega) (by omega)
          rw [cntL_take b ps m _ (List.getElem?_eq_getElem (by omega)), ht]
          exact ⟨_, List.append_assoc _ _ _⟩
    obtain ⟨t, ht⟩ := e ps.length hn (Nat.le_refl _)
    rw [List.take_length] at ht
    intro j hj
    rw [ht, List.getD, List.getD, List.getElem?_append_left (by simp; omega)]
  have hx : ps[i]? = some (ps.getD i 0) := by rw [List.getD, List.getElem?_eq_getElem hi]; rfl
  rw [hpre (i + 1) hi i (by omega), cntL_take b ps i _ hx]
  have hl : (cntL b (ps.take i)).length = i := by simp; omega
  have e1 : ∀ v : Int, (cntL b (ps.take i) ++ [v]).getD i 0 = v := by
    intro v
    rw [List.getD, List.getElem?_append_right (by omega), hl, Nat.sub_self]
    rfl
  rw [e1]
  congr 1
  unfold cat
  split
  · rfl
  · rename_i hne
    rcases hp i _ hx with h | h
    · exact absurd h hne
    · exact (hpre i (by omega) _ (by omega)).symm

theorem rd_le (l : List F) (i : Nat) (hi : i < l.length) : (rls l).getD i 0 ≤ (dls l).getD i 0 := by
  induction i using Nat.strongRecOn with
  | ind i ih =>
    have h1 := cntL_at (repB l) (parents l) i (by simpa using hi) (fun j x => parents_lt)
    have h2 := cntL_at (optB l) (parents l) i (by simpa using hi) (fun j x => parents_lt)
    have h3 : (if repB l i then (1 : Int) else 0) ≤ (if optB l i then 1 else 0) := by
      unfold repB optB
      by_cases h : (l.getD i default).r = 2
      · rw [h]; decide
      · simp only [h, decide_false]; split <;> split <;> simp_all
    have h4 : cat (rls l) ((parents l).getD i 0) ≤ cat (dls l) ((parents l).getD i 0) := by
      unfold cat
      split
      · exact Int.le_refl _
      · rename_i hne
        have hx : (parents l)[i]? = some ((parents l).getD i 0) := by rw [List.getD, List.getElem?_eq_getElem (by simpa using hi)]; rfl
        rcases parents_lt hx with h | h
        · exact absurd h hne
        · exact ih _ (by omega) (by omega)
    unfold rls dls at *
    omega

end Go.Proofs.Ytfdmbpfpdijpdaa

namespace Go.Proofs.Ytfdmbpfpdijpdaa
open Go.RowKit
set_option linter.unusedVariables false

/-- The reference's stack: what is full, is left; what says nothing or less is never entered. -/
def popR : List (Nat × Int) → List (Nat × Int)
  | [] => []
  | (g, x) :: t => if x = 0 then popR t else (g, x) :: t
def pushR (i : Nat) (f : F) (st : List (Nat × Int)) : List (Nat × Int) := if f.k = 0 ∧ 0 < f.c then (i, f.c) :: st else st
def parR : Nat → List F → List (Nat × Int) → List Int
  | _, [], _ => []
  | i, f :: l, st => topS (popR st) :: parR (i + 1) l (pushR i f (decS (popR st)))
/-- How many groups are open at each field. -/
def depR : Nat → List F → List (Nat × Int) → List Int
  | _, [], _ => []
  | i, f :: l, st => ((popR st).length : Int) :: depR (i + 1) l (pushR i f (decS (popR st)))

theorem popR_pos {st : List (Nat × Int)} (h : ∀ e ∈ st, 0 ≤ e.2) : popS st = popR st ∧ (∀ e ∈ popR st, 0 ≤ e.2) ∧ (∀ g x t, popR st = (g, x) :: t → 1 ≤ x) := by
  induction st with
  | nil => exact ⟨rfl, h, by intro g x t e; cases e⟩
  | cons a t ih =>
    obtain ⟨g, x⟩ := a
    have hx : 0 ≤ x := h (g, x) (by simp)
    obtain ⟨h1, h2, h3⟩ := ih fun e he => h e (by simp [he])
    by_cases h0 : x = 0
    · rw [show popS ((g, x) :: t) = popS t by rw [popS, if_pos (by omega)], show popR ((g, x) :: t) = popR t by rw [popR, if_pos h0]]
      exact ⟨h1, h2, h3⟩
    · rw [show popS ((g, x) :: t) = (g, x) :: t by rw [popS, if_neg (by omega)], show popR ((g, x) :: t) = (g, x) :: t by rw [popR, if_neg h0]]
      refine ⟨rfl, h, ?_⟩
      intro g' x' t' e
      injection e with e1 e2
      injection e1 with e3 e4
      omega

theorem dec_pos' {st : List (Nat × Int)} (h : ∀ e ∈ st, 0 ≤ e.2) (h1 : ∀ g x t, st = (g, x) :: t → 1 ≤ x) : ∀ e ∈ decS st, 0 ≤ e.2 := by
  cases st with
  | nil => exact h
  | cons a t =>
    obtain ⟨g, x⟩ := a
    intro e he
    rcases List.mem_cons.1 he with rfl | he
    · have := h1 g x t rfl; simp only; omega
    · exact h e (by simp [he])

/-- The program's stack is the reference's, or has one group more on top that says nothing. -/
theorem parR_eq (l : List F) : ∀ (i : Nat) (S R : List (Nat × Int)), (S = R ∨ ∃ j c, c < 1 ∧ S = (j, c) :: R) → (∀ e ∈ R, 0 ≤ e.2) → parR i l R = par i l S := by
  induction l with
  | nil => intro i S R _ _; rfl
  | cons f l ih =>
    intro i S R hS hR
    obtain ⟨p1, p2, p3⟩ := popR_pos hR
    have hp : popS S = popR R := by
      rcases hS with rfl | ⟨j, c, hc, rfl⟩
      · exact p1
      · rw [popS, if_pos hc, p1]
    have hd := dec_pos' p2 p3
    simp only [parR, par, hp]
    congr 1
    apply ih
    · unfold pushR pushS
      by_cases hk : f.k = 0
      · by_cases hc : 0 < f.c
        · left; rw [if_pos hk, if_pos ⟨hk, hc⟩]
        · right; exact ⟨i, f.c, by omega, by rw [if_pos hk, if_neg (fun h : f.k = 0 ∧ 0 < f.c => hc h.2)]⟩
      · left; rw [if_neg hk, if_neg (fun h : f.k = 0 ∧ 0 < f.c => hk h.1)]
    · unfold pushR
      split
      · rename_i h
        intro e he
        rcases List.mem_cons.1 he with rfl | he
        · simp only; omega
        · exact hd e he
      · exact hd

theorem parR_parents (l : List F) : parR 0 l [] = parents l := parR_eq l 0 [] [] (.inl rfl) (by simp)

@[simp] theorem depR_length (l : List F) : ∀ (i : Nat) (st : List (Nat × Int)), (depR i l st).length = l.length := by
  induction l with
  | nil => intro i st; rfl
  | cons f l ih => intro i st; simp [depR, ih]

end Go.Proofs.Ytfdmbpfpdijpdaa

namespace Go.Proofs.Ytfdmbpfpdijpdaa
open Go.RowKit
set_option linter.unusedVariables false

theorem bump_name {s : List F} {g j : Nat} {f : F} (hg : g < s.length) (h : (bump s g)[j]? = some f) : ∃ f', s[j]? = some f' ∧ f.n = f'.n := by
  unfold bump at h
  by_cases e : g = j
  · subst e
    rw [List.getElem?_set_self hg] at h
    injection h with h
    refine ⟨s.getD g default, by rw [List.getD, List.getElem?_eq_getElem hg]; rfl, ?_⟩
    rw [← h]
  · rw [List.getElem?_set_ne e] at h
    exact ⟨f, h, rfl⟩

def Nmd (s : List F) : Prop := ∀ (j : Nat) (f : F), 1 ≤ j → s[j]? = some f → f.n = str [96 + j]

theorem Nmd.step {i : Nat} {m : MS} (hL : Lf i m) (h : Nmd m.s) (x : Int) : Nmd (stepM i x m).s := by
  intro j f hj hf
  simp only [stepM] at hf
  by_cases hlt : j < (bump m.s ((popK ((x.tdiv 64) % 3).toNat m.s m.o).headD 0)).length
  · rw [List.getElem?_append_left hlt] at hf
    obtain ⟨f', h1, h2⟩ := bump_name (popK_lt hL.ok _) hf
    rw [h2]
    exact h j f' hj h1
  · rw [List.getElem?_append_right (by omega)] at hf
    have hjj : j = i + 1 := by
      have h1 := (List.getElem?_eq_some_iff.1 hf).1
      simp only [List.length_singleton, bump_length, hL.ok.len] at h1 hlt
      omega
    rw [bump_length, hL.ok.len, hjj, Nat.sub_self] at hf
    simp at hf
    rw [← hf, hjj]
    simp only [fieldM]
    congr 2
    omega

theorem goM_nm (l : List Int) : ∀ (i : Nat) (m : MS), Lf i m → Nmd m.s → Nmd (goM l i m).s := by
  induction l with
  | nil => intro i m _ h; exact h
  | cons x l ih =>
    intro i m hL h
    rw [goM]
    split
    · exact ih (i + 1) _ (hL.step x) (h.step hL x)
    · exact h

theorem mk_names (ns : List Int) : ∀ (j : Nat) (f : F), 1 ≤ j → (mk ns)[j]? = some f → f.n = str [96 + j] ∧ j ≤ 12 ∨ f.n = bz ∧ j + 1 = (mk ns).length := by
  obtain ⟨i, hi, hL⟩ := goM_ok ns 0 startM Lf.start (by omega)
  have hN := goM_nm ns 0 startM Lf.start (by
    intro j f hj hf
    simp only [startM] at hf
    have h1 := (List.getElem?_eq_some_iff.1 hf).1
    simp at h1
    omega)
  have hg : (goM ns 0 startM).o.headD 0 < (goM ns 0 startM).s.length := by
    rw [hL.ok.len]
    exact hL.ok.lt _ (headD_mem hL.ok.ne)
  intro j f hj hf
  unfold mk finM at hf ⊢
  split at hf
  · rename_i h0
    rw [if_pos h0]
    by_cases hlt : j < (bump (goM ns 0 startM).s ((goM ns 0 startM).o.headD 0)).length
    · rw [List.getElem?_append_left hlt] at hf
      obtain ⟨f', h1, h2⟩ := bump_name hg hf
      left
      rw [h2]
      refine ⟨hN j f' hj h1, ?_⟩
      have := (List.getElem?_eq_some_iff.1 h1).1
      rw [hL.ok.len] at this
      omega
    · right
      rw [List.getElem?_append_right (by omega)] at hf
      have h1 := (List.getElem?_eq_some_iff.1 hf).1
      simp only [List.length_singleton] at h1
      have hj0 : j - (bump (goM ns 0 startM).s ((goM ns 0 startM).o.headD 0)).length = 0 := by omega
      rw [hj0] at hf
      simp at hf
      refine ⟨by rw [← hf], ?_⟩
      rw [List.length_append, List.length_singleton]
      omega
  · rename_i h0
    rw [if_neg h0]
    left
    refine ⟨hN j f hj hf, ?_⟩
    have := (List.getElem?_eq_some_iff.1 hf).1
    rw [hL.ok.len] at this
    omega

theorem str_one (a b : Nat) (ha : a < 256) (hb : b < 256) (h : str [a] = str [b]) : a = b := by
  have h1 : UInt8.ofNat a = UInt8.ofNat b := by
    have := congrArg (fun s : ByteArray => s.data.toList) h
    simpa [str] using this
  have h2 := congrArg UInt8.toNat h1
  simp at h2
  omega

end Go.Proofs.Ytfdmbpfpdijpdaa

namespace Go.Proofs.Ytfdmbpfpdijpdaa
open Go.RowKit
set_option linter.unusedVariables false

/-- The groups into which the fields to come are laid. -/
def endM (m : MS) : List Nat := if (m.s.getD (m.o.headD 0) default).c = 0 then [m.o.headD 0] else []
def piM : List Int → Nat → MS → List Nat
  | [], _, m => endM m
  | x :: l, i, m => if i < 12 then (popK ((x.tdiv 64) % 3).toNat m.s m.o).headD 0 :: piM l (i + 1) (stepM i x m) else endM m
def fin (l : List Int) (i : Nat) (m : MS) : List F := finM (goM l i m)

/-- Beside Lf: the groups that are open rise from the root; each is a group; leaves have nothing in them. -/
structure Vm (i : Nat) (m : MS) : Prop where
  lf : Lf i m
  pw : m.o.Pairwise (· > ·)
  gr : ∀ g ∈ m.o, (m.s.getD g default).k = 0
  lv : ∀ f ∈ m.s, f.k ≠ 0 → f.c = 0
  kn : ∀ f ∈ m.s, 0 ≤ f.r ∧ f.r ≤ 2 ∧ 0 ≤ f.k ∧ f.k ≤ 4

theorem Vm.start : Vm 0 startM := ⟨Lf.start, by simp [startM], by intro g hg; simp [startM] at hg; subst hg; rfl, by intro f hf; simp [startM] at hf; subst hf; intro h; rfl, by intro f hf; simp [startM] at hf; subst hf; decide⟩

theorem bump_get {s : List F} {g : Nat} (hg : g < s.length) (j : Nat) (hj : j < s.length) : (bump s g).getD j default = { s.getD j default with c := (s.getD j default).c + (if j = g then 1 else 0) } := by
  unfold bump
  by_cases e : g = j
  · subst e
    rw [List.getD, List.getElem?_set_self hg]
    simp
  · rw [List.getD, List.getElem?_set_ne e, if_neg (fun h => e h.symm), Int.add_zero]
    rfl

theorem piM_in (l : List Int) : ∀ (i : Nat) (m : MS), Lf i m → ∀ g ∈ piM l i m, g ∈ m.o ∨ m.s.length ≤ g := by
  induction l with
  | nil =>
    intro i m h g hg
    simp only [piM, endM] at hg
    split at hg
    · simp at hg; subst hg; exact .inl (by simpa using headD_mem h.ok.ne)
    · cases hg
  | cons x l ih =>
    intro i m h g hg
    rw [piM] at hg
    split at hg
    · rcases List.mem_cons.1 hg with rfl | h1
      · exact .inl ((popK_suffix _ m.s m.o).subset (headD_mem (popK_ne h.ok _)))
      · rcases ih (i + 1) _ (h.step x) g h1 with h2 | h2
        · simp only [stepM] at h2
          split at h2
          · rcases List.mem_cons.1 h2 with rfl | h3
            · exact .inr (Nat.le_refl _)
            · exact .inl ((popK_suffix _ m.s m.o).subset h3)
          · exact .inl ((popK_suffix _ m.s m.o).subset h2)
        · right
          simp only [stepM, List.length_append, bump_length, List.length_singleton] at h2
          omega
    · simp only [endM] at hg
      split at hg
      · simp at hg; subst hg; exact .inl (by simpa using headD_mem h.ok.ne)
      · cases hg

/-- What the fields that are there have in the end. -/
theorem fin_get (l : List Int) : ∀ (i : Nat) (m : MS), Lf i m → (fin l i m).length = m.s.length + (piM l i m).length ∧ ∀ j, j < m.s.length → (fin l i m).getD j default = { m.s.getD j default with c := (m.s.getD j default).c + ((piM l i m).count j : Nat) } := by
  have hend : ∀ (i : Nat) (m : MS), Lf i m → (finM m).length = m.s.length + (endM m).length ∧ ∀ j, j < m.s.length → (finM m).getD j default = { m.s.getD j default with c := (m.s.getD j default).c + ((endM m).count j : Nat) } := by
    intro i m h
    have hg : m.o.headD 0 < m.s.length := by rw [h.ok.len]; exact h.ok.lt _ (headD_mem h.ok.ne)
    unfold finM endM
    split
    · refine ⟨by simp, fun j hj => ?_⟩
      rw [List.getD, List.getElem?_append_left (by simpa using hj)]
      have e := bump_get hg j hj
      rw [List.getD] at e
      rw [e]
      congr 2
      by_cases h1 : j = m.o.headD 0
      · rw [if_pos h1, h1]; simp
      · rw [if_neg h1, List.count_eq_zero_of_not_mem (by simpa using h1)]; rfl
    · exact ⟨by simp, fun j _ => by simp⟩
  induction l with
  | nil => intro i m h; exact hend i m h
  | cons x l ih =>
    intro i m h
    unfold fin
    rw [goM, piM]
    split
    · obtain ⟨h1, h2⟩ := ih (i + 1) _ (h.step x)
      have hlen : (stepM i x m).s.length = m.s.length + 1 := by simp [stepM]
      refine ⟨by unfold fin at h1; rw [h1, hlen, List.length_cons]; omega, fun j hj => ?_⟩
      have h3 := h2 j (by omega)
      unfold fin at h3
      rw [h3]
      have e : (stepM i x m).s.getD j default = (bump m.s ((popK ((x.tdiv 64) % 3).toNat m.s m.o).headD 0)).getD j default := by
        simp only [stepM]
        rw [List.getD, List.getElem?_append_left (by simpa using hj)]
        rfl
      rw [e, bump_get (popK_lt h.ok _) j hj, List.count_cons]
      congr 1
      generalize (popK ((x.tdiv 64) % 3).toNat m.s m.o).headD 0 = g0
      generalize (piM l (i + 1) (stepM i x m)).count j = n0
      generalize (m.s.getD j default).c = c0
      by_cases h4 : j = g0
      · rw [if_pos h4, if_pos (by rw [h4]; simp)]; exact congrArg (fun c => (⟨(m.s.getD j default).n, (m.s.getD j default).r, (m.s.getD j default).k, c⟩ : F)) (show c0 + 1 + (n0 : Int) = c0 + ((n0 + 1 : Nat) : Int) by omega)
      · rw [if_neg h4, if_neg (by simpa using fun h5 => h4 h5.symm)]; simp
    · exact hend i m h

theorem Vm.step {i : Nat} {m : MS} (h : Vm i m) (x : Int) : Vm (i + 1) (stepM i x m) := by
  have hg := popK_lt h.lf.ok ((x.tdiv 64) % 3).toNat
  have hsuf := popK_suffix ((x.tdiv 64) % 3).toNat m.s m.o
  have hlo : ∀ g ∈ m.o, g < m.s.length := fun g hg => by rw [h.lf.ok.len]; exact h.lf.ok.lt g hg
  have hget : ∀ j, j < m.s.length → (stepM i x m).s.getD j default = (bump m.s ((popK ((x.tdiv 64) % 3).toNat m.s m.o).headD 0)).getD j default := by
    intro j hj
    simp only [stepM]
    rw [List.getD, List.getElem?_append_left (by simpa using hj)]
    rfl
  have hnew : (stepM i x m).s.getD m.s.length default = fieldM i x (popK ((x.tdiv 64) % 3).toNat m.s m.o) := by
    simp only [stepM]
    rw [List.getD, List.getElem?_append_right (by simp), bump_length, Nat.sub_self]
    rfl
  refine ⟨h.lf.step x, ?_, ?_, ?_, ?_⟩
  · simp only [stepM]
    have h1 : (popK ((x.tdiv 64) % 3).toNat m.s m.o).Pairwise (· > ·) := h.pw.sublist hsuf.sublist
    split
    · exact List.pairwise_cons.2 ⟨fun g hg => hlo g (hsuf.subset hg), h1⟩
    · exact h1
  · intro g hgo
    have hcase : g ∈ m.o ∨ g = m.s.length ∧ kindM x (popK ((x.tdiv 64) % 3).toNat m.s m.o) = 0 := by
      simp only [stepM] at hgo
      split at hgo
      · rename_i hk
        rcases List.mem_cons.1 hgo with h1 | h1
        · exact .inr ⟨h1, hk⟩
        · exact .inl (hsuf.subset h1)
      · exact .inl (hsuf.subset hgo)
    rcases hcase with h1 | ⟨h1, h2⟩
    · rw [hget g (hlo g h1), bump_get hg g (hlo g h1)]
      exact h.gr g h1
    · rw [h1, hnew]
      exact h2
  · intro f hf hk
    simp only [stepM] at hf
    rcases List.mem_append.1 hf with h1 | h1
    · rcases List.mem_or_eq_of_mem_set h1 with h2 | rfl
      · exact h.lv f h2 hk
      · exact absurd (h.gr _ (hsuf.subset (headD_mem (popK_ne h.lf.ok _)))) hk
    · simp only [List.mem_singleton] at h1
      subst h1
      rfl
  · intro f hf
    simp only [stepM] at hf
    rcases List.mem_append.1 hf with h1 | h1
    · rcases List.mem_or_eq_of_mem_set h1 with h2 | rfl
      · exact h.kn f h2
      · have h2 : m.s.getD ((popK ((x.tdiv 64) % 3).toNat m.s m.o).headD 0) default ∈ m.s := by rw [List.getD, List.getElem?_eq_getElem hg]; exact List.getElem_mem hg
        exact h.kn (m.s.getD ((popK ((x.tdiv 64) % 3).toNat m.s m.o).headD 0) default) h2
    · simp only [List.mem_singleton] at h1
      subst h1
      simp only [fieldM]
      have e1 := Int.emod_nonneg (x.tdiv 8) (show (3 : Int) ≠ 0 by decide)
      have e2 := Int.emod_lt_of_pos (x.tdiv 8) (show (0 : Int) < 3 by decide)
      have e3 := Int.emod_nonneg (x % 8) (show (5 : Int) ≠ 0 by decide)
      have e4 := Int.emod_lt_of_pos (x % 8) (show (0 : Int) < 5 by decide)
      unfold kindM
      refine ⟨e1, by omega, ?_, ?_⟩
      · split <;> omega
      · split <;> omega

/-- The machine of the groups, from any state of Make's on, goes as Make went. -/
theorem par_fin (l : List Int) : ∀ (i : Nat) (m : MS), Vm i m → par m.s.length ((fin l i m).drop m.s.length) (m.o.map fun g => (g, (((piM l i m).count g : Nat) : Int))) = (piM l i m).map fun (g : Nat) => (g : Int) := by
  have hend : ∀ (i : Nat) (m : MS), Vm i m → par m.s.length ((finM m).drop m.s.length) (m.o.map fun g => (g, (((endM m).count g : Nat) : Int))) = (endM m).map fun (g : Nat) => (g : Int) := by
    intro i m h
    obtain ⟨s, o⟩ := m
    have hne := h.lf.ok.ne
    cases o with
    | nil => exact absurd rfl hne
    | cons g t =>
      unfold finM endM
      simp only [List.headD_cons]
      by_cases h0 : (s.getD g default).c = 0
      · simp only [h0, if_true]
        rw [List.drop_append_of_le_length (by simp), List.drop_of_length_le (by simp), List.nil_append]
        simp [par, popS, topS]
      · simp only [h0, if_false]
        rw [List.drop_length]
        simp [par]
  induction l with
  | nil => intro i m h; exact hend i m h
  | cons x l ih =>
    intro i m h
    unfold fin
    rw [goM, piM]
    split
    · rename_i h12
      have hv := h.step x
      have hIH := ih (i + 1) _ hv
      have hsuf := popK_suffix ((x.tdiv 64) % 3).toNat m.s m.o
      have hne := popK_ne h.lf.ok ((x.tdiv 64) % 3).toNat
      have hlo : ∀ g ∈ m.o, g < m.s.length := fun g hg => by rw [h.lf.ok.len]; exact h.lf.ok.lt g hg
      have hin := piM_in l (i + 1) _ hv.lf
      have hfg := fin_get l (i + 1) _ hv.lf
      have hsl : (stepM i x m).s.length = m.s.length + 1 := by simp [stepM]
      have hso : (stepM i x m).o = if kindM x (popK ((x.tdiv 64) % 3).toNat m.s m.o) = 0 then m.s.length :: popK ((x.tdiv 64) % 3).toNat m.s m.o else popK ((x.tdiv 64) % 3).toNat m.s m.o := rfl
      have hsn : (stepM i x m).s.getD m.s.length default = fieldM i x (popK ((x.tdiv 64) % 3).toNat m.s m.o) := by
        simp only [stepM]
        rw [List.getD, List.getElem?_append_right (by simp), bump_length, Nat.sub_self]
        rfl
      generalize hO : popK ((x.tdiv 64) % 3).toNat m.s m.o = O at *
      generalize hM : stepM i x m = m' at *
      generalize hP : piM l (i + 1) m' = P at *
      cases O with
      | nil => exact absurd rfl hne
      | cons g1 t1 =>
        obtain ⟨pre, hpre⟩ := hsuf
        have hpw := h.pw
        rw [← hpre] at hpw hlo
        rw [← hpre]
        have hg1 : g1 < m.s.length := hlo g1 (by simp)
        have hcnt : ∀ g ∈ pre, ((g1 :: P).count g) = 0 := by
          intro g hg
          rw [List.count_eq_zero]
          intro hm
          have hgl := hlo g (by simp [hg])
          have hng : g ∉ g1 :: t1 := fun h1 => by
            have := (List.pairwise_append.1 hpw).2.2 g hg g h1
            omega
          rcases List.mem_cons.1 hm with h1 | h1
          · exact hng (by rw [h1]; simp)
          · rcases hin g h1 with h2 | h2
            · rw [hso] at h2
              split at h2
              · rcases List.mem_cons.1 h2 with h3 | h3
                · omega
                · exact hng h3
              · exact hng h2
            · omega
        have hpop : popS ((pre ++ g1 :: t1).map fun g => (g, (((g1 :: P).count g : Nat) : Int))) = (g1, (((g1 :: P).count g1 : Nat) : Int)) :: t1.map fun g => (g, (((g1 :: P).count g : Nat) : Int)) := by
          clear hpre hpw hlo
          induction pre with
          | nil =>
            rw [List.nil_append, List.map_cons, popS, if_neg (by simp; omega)]
          | cons a pre ihp =>
            rw [List.cons_append, List.map_cons, popS, if_pos (by rw [hcnt a (by simp)]; decide)]
            exact ihp fun g hg => hcnt g (by simp [hg])
        have hdrop : (finM (goM l (i + 1) m')).drop m.s.length = (finM (goM l (i + 1) m')).getD m.s.length default :: (finM (goM l (i + 1) m')).drop (m.s.length + 1) := by
          have hl : m.s.length < (finM (goM l (i + 1) m')).length := by have := hfg.1; unfold fin at this; omega
          rw [List.drop_eq_getElem_cons hl, List.getD, List.getElem?_eq_getElem hl]
          rfl
        have hf := hfg.2 m.s.length (by omega)
        unfold fin at hf hIH
        rw [hsn] at hf
        simp only [List.headD_cons]
        rw [hdrop, par, hpop]
        simp only [topS, decS, List.map_cons]
        rw [hf]
        have ht1 : (t1.map fun g => (g, (((g1 :: P).count g : Nat) : Int))) = t1.map fun g => (g, ((P.count g : Nat) : Int)) := by
          apply List.map_congr_left
          intro g hg
          have hne1 : g1 ≠ g := fun e => by
            have := (List.pairwise_cons.1 (List.pairwise_append.1 hpw).2.1).1 g hg
            omega
          rw [List.count_cons_of_ne hne1]
        have hc1 : (((g1 :: P).count g1 : Nat) : Int) - 1 = ((P.count g1 : Nat) : Int) := by
          rw [List.count_cons_self]
          omega
        rw [ht1, hc1]
        congr 1
        rw [hsl] at hIH
        rw [← hIH, hso]
        congr 1
        unfold pushS
        simp only [fieldM]
        split
        · rename_i hk0
          simp [hk0]
        · rename_i hk0
          simp [hk0]
    · exact hend i m h

theorem mk_fin (ns : List Int) : mk ns = fin ns 0 startM := rfl

theorem mk_parents (ns : List Int) : parents (mk ns) = -1 :: (piM ns 0 startM).map fun (g : Nat) => (g : Int) := by
  have h := par_fin ns 0 startM Vm.start
  have hg := fin_get ns 0 startM Lf.start
  have h0 := hg.2 0 (by simp [startM])
  have hl : 0 < (fin ns 0 startM).length := by rw [hg.1]; show 0 < 1 + _; omega
  unfold parents
  rw [mk_fin]
  have e : fin ns 0 startM = (fin ns 0 startM).getD 0 default :: (fin ns 0 startM).drop 1 := by
    have e1 := List.drop_eq_getElem_cons hl
    rw [List.drop_zero] at e1
    rw [List.getD, List.getElem?_eq_getElem hl]
    exact e1
  rw [e, par]
  have hs : startM.s.length = 1 := rfl
  rw [hs] at h
  rw [← h, h0]
  simp [popS, topS, decS, pushS, startM]

theorem dep_at (l : List F) (j : Nat) (hj : j < l.length) : (depths l).getD j 0 = cat (depths l) ((parents l).getD j 0) + (if 0 < j then 1 else 0) := by
  have h := cntL_at (fun i => decide (0 < i)) (parents l) j (by simpa using hj) (fun j x => parents_lt)
  unfold depths
  rw [h]
  congr 1
  by_cases h0 : 0 < j <;> simp [h0]

/-- No field lies deeper than five. -/
theorem dep_le (F0 : List F) (l : List Int) : ∀ (i : Nat) (m : MS), Vm i m → (∀ (p g : Nat), m.o[p]? = some g → (depths F0).getD g 0 = (m.o.length : Int) - 1 - p) → (parents F0).drop m.s.length = (piM l i m).map (fun (g : Nat) => (g : Int)) → ∀ j, m.s.length ≤ j → j < F0.length → (depths F0).getD j 0 ≤ 5 := by
  have one : ∀ (m : MS) (i : Nat) (O : List Nat) (P : List Nat), Vm i m → O <:+ m.o → O ≠ [] → (∀ (p g : Nat), m.o[p]? = some g → (depths F0).getD g 0 = (m.o.length : Int) - 1 - p) → (parents F0).drop m.s.length = (O.headD 0 :: P).map (fun (g : Nat) => (g : Int)) → m.s.length < F0.length ∧ (depths F0).getD m.s.length 0 = O.length ∧ ∀ (p g : Nat), O[p]? = some g → (depths F0).getD g 0 = (O.length : Int) - 1 - p := by
    intro m i O P h hsuf hne hd hp
    obtain ⟨pre, hpre⟩ := hsuf
    have hO : ∀ (p g : Nat), O[p]? = some g → (depths F0).getD g 0 = (O.length : Int) - 1 - p := by
      intro p g hpg
      have h1 := hd (p + pre.length) g (by rw [← hpre, List.getElem?_append_right (by omega), Nat.add_sub_cancel]; exact hpg)
      rw [h1, ← hpre, List.length_append]
      omega
    have hlt : m.s.length < F0.length := by
      have h1 := congrArg List.length hp
      simp at h1
      omega
    have hx : (parents F0)[m.s.length]? = some ((O.headD 0 : Nat) : Int) := by
      have h1 := congrArg (fun l : List Int => l[0]?) hp
      simp only [List.getElem?_drop, Nat.add_zero] at h1
      rw [h1]; rfl
    have hpos : 0 < m.s.length := by rw [h.lf.ok.len]; omega
    refine ⟨hlt, ?_, hO⟩
    rw [dep_at F0 _ hlt, if_pos hpos, List.getD, hx]
    simp only [Option.getD_some]
    unfold cat
    rw [if_neg (by omega)]
    cases O with
    | nil => exact absurd rfl hne
    | cons g t =>
      have h2 := hO 0 g rfl
      simp only [List.headD_cons, Int.toNat_natCast]
      rw [h2]
      simp only [List.length_cons]
      omega
  have hend : ∀ (i : Nat) (m : MS), Vm i m → (∀ (p g : Nat), m.o[p]? = some g → (depths F0).getD g 0 = (m.o.length : Int) - 1 - p) → (parents F0).drop m.s.length = (endM m).map (fun (g : Nat) => (g : Int)) → ∀ j, m.s.length ≤ j → j < F0.length → (depths F0).getD j 0 ≤ 5 := by
    intro i m h hd hp j hj hjl
    unfold endM at hp
    split at hp
    · have h1 := congrArg List.length hp
      simp at h1
      obtain ⟨-, h2, -⟩ := one m i m.o [] h (List.suffix_refl _) h.lf.ok.ne hd hp
      have hjj : j = m.s.length := by omega
      rw [hjj, h2]
      have := h.lf.ok.sm
      omega
    · have h1 := congrArg List.length hp
      simp at h1
      omega
  induction l with
  | nil => intro i m h hd hp; exact hend i m h hd hp
  | cons x l ih =>
    intro i m h hd hp j hj hjl
    rw [piM] at hp
    split at hp
    · have hsuf := popK_suffix ((x.tdiv 64) % 3).toNat m.s m.o
      obtain ⟨h1, h2, h3⟩ := one m i _ _ h hsuf (popK_ne h.lf.ok _) hd hp
      have hsl : (stepM i x m).s.length = m.s.length + 1 := by simp [stepM]
      have hol := hsuf.length_le
      have hsm := h.lf.ok.sm
      by_cases hjj : j = m.s.length
      · rw [hjj, h2]; omega
      · refine ih (i + 1) _ (h.step x) ?_ ?_ j (by omega) hjl
        · intro p g hpg
          simp only [stepM] at hpg ⊢
          split at hpg
          · rename_i hk
            rw [if_pos hk]
            cases p with
            | zero =>
              simp at hpg
              rw [← hpg, h2, List.length_cons]
              omega
            | succ p =>
              rw [List.getElem?_cons_succ] at hpg
              rw [h3 p g hpg, List.length_cons]
              omega
          · rename_i hk
            rw [if_neg hk]
            exact h3 p g hpg
        · rw [hsl, ← List.drop_drop, hp]
          simp
    · exact hend i m h hd hp j hj hjl

end Go.Proofs.Ytfdmbpfpdijpdaa

namespace Go.Proofs.Ytfdmbpfpdijpdaa
open Go.RowKit
set_option linter.unusedVariables false

/-! ### no group has more fields than it says -/

theorem pop_mem {st : List (Nat × Int)} : popS st <:+ st := by
  induction st with
  | nil => exact List.suffix_refl _
  | cons a t ih =>
    obtain ⟨g, x⟩ := a
    rw [popS]
    split
    · exact ih.trans (List.suffix_cons _ _)
    · exact List.suffix_refl _

theorem desc_lt {b : Nat} {st : List (Nat × Int)} (h : Desc b st) : ∀ e ∈ st, e.1 < b := by
  induction st generalizing b with
  | nil => intro e he; cases he
  | cons a t ih =>
    obtain ⟨g, x⟩ := a
    intro e he
    rcases List.mem_cons.1 he with rfl | h1
    · exact h.1
    · have := ih h.2 e h1
      have := h.1
      omega

theorem desc_one {b : Nat} {st : List (Nat × Int)} (h : Desc b st) {g : Nat} {x y : Int} (hx : (g, x) ∈ st) (hy : (g, y) ∈ st) : x = y := by
  induction st generalizing b with
  | nil => cases hx
  | cons a t ih =>
    obtain ⟨q, z⟩ := a
    rcases List.mem_cons.1 hx with h1 | h1
    · rcases List.mem_cons.1 hy with h2 | h2
      · rw [← h2] at h1; injection h1
      · injection h1 with e1 e2
        have := desc_lt h.2 _ h2
        simp only at this
        omega
    · rcases List.mem_cons.1 hy with h2 | h2
      · injection h2 with e1 e2
        have := desc_lt h.2 _ h1
        simp only at this
        omega
      · exact ih h.2 h1 h2

theorem top_ne {b g : Nat} {st : List (Nat × Int)} (h : ∀ x t, st ≠ (g, x) :: t) : ¬ topS st = (g : Int) := by
  cases st with
  | nil => simp only [topS]; omega
  | cons a t =>
    obtain ⟨q, z⟩ := a
    intro e
    simp only [topS] at e
    have e2 : q = g := by omega
    subst e2
    exact h z t rfl

theorem dec_mem {st : List (Nat × Int)} {g : Nat} {x : Int} (h : ∀ y t, st ≠ (g, y) :: t) : (g, x) ∈ decS st ↔ (g, x) ∈ st := by
  cases st with
  | nil => exact Iff.rfl
  | cons a t =>
    obtain ⟨q, z⟩ := a
    simp only [decS, List.mem_cons, Prod.mk.injEq]
    constructor
    · rintro (⟨h1, -⟩ | h1)
      · exact absurd (by rw [h1]) (h z t)
      · exact .inr h1
    · rintro (⟨h1, -⟩ | h1)
      · exact absurd (by rw [h1]) (h z t)
      · exact .inr h1

theorem par_count (l : List F) : ∀ (i : Nat) (st : List (Nat × Int)), Desc i st → ∀ g : Nat,
    (g < i → ∀ x, (g, x) ∈ st → (((par i l st).count (g : Int) : Nat) : Int) ≤ max x 0) ∧
    (g < i → (∀ x, (g, x) ∉ st) → (par i l st).count (g : Int) = 0) ∧
    (i ≤ g → (((par i l st).count (g : Int) : Nat) : Int) ≤ max (l.getD (g - i) default).c 0) := by
  induction l with
  | nil =>
    intro i st _ g
    refine ⟨fun _ x _ => ?_, fun _ _ => rfl, fun _ => ?_⟩
    · simp [par]; omega
    · simp [par]; omega
  | cons f l ih =>
    intro i st hd g
    have hdp := hd.pop
    have hdn : Desc (i + 1) (pushS i f (decS (popS st))) := hd.pop.dec.push f
    obtain ⟨i1, i2, i3⟩ := ih (i + 1) _ hdn g
    have hcons : ∀ b : Bool, (topS (popS st) == (g : Int)) = b → (par i (f :: l) st).count (g : Int) = (par (i + 1) l (pushS i f (decS (popS st)))).count (g : Int) + (if b then 1 else 0) := by
      intro b hb
      rw [par, List.count_cons, hb]
    have hpush : ∀ x, g < i → ((g, x) ∈ pushS i f (decS (popS st)) ↔ (g, x) ∈ decS (popS st)) := by
      intro x hg
      unfold pushS
      split
      · rw [List.mem_cons]
        constructor
        · rintro (h1 | h1)
          · injection h1 with h2 _; omega
          · exact h1
        · exact .inr
      · exact Iff.rfl
    by_cases htop : ∃ x t, popS st = (g, x) :: t
    · obtain ⟨x0, t0, ht⟩ := htop
      have hg : g < i := by rw [ht] at hdp; exact hdp.1
      have hx1 : 1 ≤ x0 := by
        have : ∀ s : List (Nat × Int), popS s = (g, x0) :: t0 → 1 ≤ x0 := by
          intro s
          induction s with
          | nil => intro h; cases h
          | cons a s ihs =>
            obtain ⟨q, z⟩ := a
            intro h
            rw [popS] at h
            split at h
            · exact ihs h
            · injection h with h1 h2
              injection h1 with h3 h4
              omega
        exact this st ht
      have hb := hcons true (by rw [ht]; simp [topS])
      have hm : (g, x0) ∈ st := (pop_mem (st := st)).subset (by rw [ht]; simp)
      have h1 := i1 (by omega) (x0 - 1) ((hpush _ hg).2 (by rw [ht]; simp [decS]))
      refine ⟨fun _ x hx => ?_, fun _ hn => absurd hm (hn x0), fun h => by omega⟩
      have := desc_one hd hx hm
      subst this
      rw [hb]
      simp only [if_true]
      omega
    · have hne : ∀ x t, popS st ≠ (g, x) :: t := fun x t h => htop ⟨x, t, h⟩
      have hb := hcons false (by simpa using top_ne (b := 0) hne)
      simp only [Bool.false_eq_true, if_false, Nat.add_zero] at hb
      refine ⟨fun hg x hx => ?_, fun hg hn => ?_, fun hg => ?_⟩
      · rw [hb]
        by_cases hp : (g, x) ∈ popS st
        · exact i1 (by omega) x ((hpush x hg).2 ((dec_mem hne).2 hp))
        · rw [i2 (by omega) (fun y hy => by
            have h1 := (dec_mem hne).1 ((hpush y hg).1 hy)
            have h2 := desc_one hd hx (pop_mem.subset h1)
            subst h2
            exact hp h1)]
          omega
      · rw [hb]
        exact i2 (by omega) (fun y hy => hn y (pop_mem.subset ((dec_mem hne).1 ((hpush y hg).1 hy))))
      · rw [hb]
        by_cases e : g = i
        · subst e
          rw [Nat.sub_self, List.getD_cons_zero]
          by_cases hk : f.k = 0
          · exact i1 (by omega) f.c (by unfold pushS; rw [if_pos hk]; simp)
          · rw [i2 (by omega) (fun y hy => by
              unfold pushS at hy
              rw [if_neg hk] at hy
              have := desc_lt hdp.dec _ hy
              simp only at this
              omega)]
            omega
        · have h1 := i3 (by omega)
          rw [show g - i = (g - (i + 1)) + 1 by omega, List.getD_cons_succ]
          exact h1

/-- No group has more fields than it says. -/
theorem parents_count (l : List F) (g : Nat) : (((parents l).count (g : Int) : Nat) : Int) ≤ max (l.getD g default).c 0 := by
  have h := (par_count l 0 [] trivial g).2.2 (by omega)
  rw [Nat.sub_zero] at h
  exact h

theorem sum_count (l : List Int) (n : Nat) (h : ∀ x ∈ l, 0 ≤ x ∧ x < n) : ((List.range n).map fun (g : Nat) => l.count (g : Int)).sum = l.length := by
  induction l with
  | nil =>
    have e : ∀ m : Nat, ((List.range m).map fun (g : Nat) => ([] : List Int).count (g : Int)).sum = 0 := by
      intro m
      induction m with
      | zero => rfl
      | succ m ihm => simp only [List.range_succ, List.map_append, List.sum_append, ihm]; simp
    exact e n
  | cons a l ih =>
    have ha := h a (by simp)
    have h1 := ih fun x hx => h x (by simp [hx])
    have e : ((List.range n).map fun (g : Nat) => (a :: l).count (g : Int)) = (List.range n).map fun (g : Nat) => l.count (g : Int) + (if g = a.toNat then 1 else 0) := by
      apply List.map_congr_left
      intro g hg
      rw [List.count_cons]
      congr 1
      by_cases h2 : g = a.toNat
      · rw [if_pos h2, if_pos (by simp; omega)]
      · rw [if_neg h2, if_neg (by simp; omega)]
    have hs : ∀ (f k : Nat → Nat) (m : Nat), ((List.range m).map fun g => f g + k g).sum = ((List.range m).map f).sum + ((List.range m).map k).sum := by
      intro f k m
      induction m with
      | zero => rfl
      | succ m ihm => simp only [List.range_succ, List.map_append, List.sum_append, ihm, List.map_cons, List.map_nil, List.sum_cons, List.sum_nil]; omega
    have ho : ∀ m : Nat, ((List.range m).map fun (g : Nat) => if g = a.toNat then 1 else 0).sum = if a.toNat < m then 1 else 0 := by
      intro m
      induction m with
      | zero => simp
      | succ m ihm =>
        simp only [List.range_succ, List.map_append, List.sum_append, ihm, List.map_cons, List.map_nil, List.sum_cons, List.sum_nil]
        split <;> split <;> split <;> omega
    rw [e, hs, h1, ho, if_pos (by omega), List.length_cons]

/-- Sums of numbers of which each is at most the other. -/
theorem sum_le_eq (f k : Nat → Nat) (n : Nat) (h : ∀ g, g < n → f g ≤ k g) : ((List.range n).map f).sum ≤ ((List.range n).map k).sum ∧ (((List.range n).map f).sum = ((List.range n).map k).sum ↔ ∀ g, g < n → f g = k g) := by
  induction n with
  | zero => simp
  | succ n ih =>
    obtain ⟨h1, h2⟩ := ih fun g hg => h g (by omega)
    have h3 := h n (by omega)
    simp only [List.range_succ, List.map_append, List.sum_append, List.map_cons, List.map_nil, List.sum_cons, List.sum_nil]
    refine ⟨by omega, fun he g hg => ?_, fun he => ?_⟩
    · by_cases e : g = n
      · subst e; omega
      · exact h2.1 (by omega) g (by omega)
    · have := h2.2 fun g hg => he g (by omega)
      have := he n (by omega)
      omega

/-! ### depths -/

def depthsR (l : List F) : List Int := depR 0 l []

theorem popR_suffix (st : List (Nat × Int)) : popR st <:+ st := by
  induction st with
  | nil => exact List.suffix_refl _
  | cons a t ih =>
    obtain ⟨g, x⟩ := a
    rw [popR]
    split
    · exact ih.trans (List.suffix_cons _ _)
    · exact List.suffix_refl _

theorem dec_get {st : List (Nat × Int)} {p g : Nat} {x : Int} (h : (decS st)[p]? = some (g, x)) : ∃ y, st[p]? = some (g, y) := by
  cases st with
  | nil => simp [decS] at h
  | cons a t =>
    obtain ⟨q, z⟩ := a
    cases p with
    | zero => simp [decS] at h; exact ⟨z, by simp [h.1]⟩
    | succ p => simp only [decS, List.getElem?_cons_succ] at h; exact ⟨x, by simpa using h⟩

@[simp] theorem dec_length (st : List (Nat × Int)) : (decS st).length = st.length := by cases st <;> simp [decS]

theorem depR_eq (F0 : List F) (l : List F) : ∀ (i : Nat) (R : List (Nat × Int)), (i = 0 → R = []) → i + l.length = F0.length → (parents F0).drop i = parR i l R → (depthsR F0).drop i = depR i l R → (∀ (p g : Nat) (x : Int), R[p]? = some (g, x) → (depths F0).getD g 0 = (R.length : Int) - 1 - p) →
    ∀ j, i ≤ j → j < F0.length → (∀ k, i ≤ k → k ≤ j → 0 < k → (parents F0).getD k 0 ≠ -1) → (depthsR F0).getD j 0 = (depths F0).getD j 0 := by
  induction l with
  | nil =>
    intro i R _ hl _ _ _ j hj hjl _
    simp at hl
    omega
  | cons f l ih =>
    intro i R h0 hl hp hdr hR j hj hjl hk
    simp only [List.length_cons] at hl
    have hpi : (parents F0)[i]? = some (topS (popR R)) := by
      have h1 := congrArg (fun l : List Int => l[0]?) hp
      simp only [List.getElem?_drop, Nat.add_zero] at h1
      rw [h1]; rfl
    have hdi : (depthsR F0)[i]? = some (((popR R).length : Nat) : Int) := by
      have h1 := congrArg (fun l : List Int => l[0]?) hdr
      simp only [List.getElem?_drop, Nat.add_zero] at h1
      rw [h1]; rfl
    have hpop : ∀ (p g : Nat) (x : Int), (popR R)[p]? = some (g, x) → (depths F0).getD g 0 = ((popR R).length : Int) - 1 - p := by
      intro p g x h
      obtain ⟨pre, hpre⟩ := popR_suffix R
      have hpl : R.length = pre.length + (popR R).length := by have h2 := congrArg List.length hpre; rw [List.length_append] at h2; omega
      have hre : R[p + pre.length]? = (popR R)[p]? := by
        have h2 := congrArg (fun l : List (Nat × Int) => l[p + pre.length]?) hpre
        rw [← h2, List.getElem?_append_right (by omega), Nat.add_sub_cancel]
      have h1 := hR (p + pre.length) g x (by rw [hre]; exact h)
      rw [h1]
      omega
    have hdepi : (depths F0).getD i 0 = ((popR R).length : Int) := by
      rw [dep_at F0 i (by omega), List.getD, hpi]
      simp only [Option.getD_some]
      by_cases hi0 : i = 0
      · rw [h0 hi0, hi0]; rfl
      · have hne := hk i (Nat.le_refl _) hj (by omega)
        rw [List.getD, hpi] at hne
        simp only [Option.getD_some] at hne
        rw [if_pos (by omega)]
        unfold cat
        rw [if_neg hne]
        cases hq : popR R with
        | nil => rw [hq] at hne; exact absurd rfl hne
        | cons a t =>
          obtain ⟨g, x⟩ := a
          have h1 := hpop 0 g x (by rw [hq]; rfl)
          rw [hq] at h1
          simp only [topS, Int.toNat_natCast]
          rw [h1]
          omega
    by_cases hji : j = i
    · rw [hji, List.getD, hdi, hdepi]
      rfl
    · refine ih (i + 1) (pushR i f (decS (popR R))) (by omega) (by omega) ?_ ?_ ?_ j (by omega) hjl (fun k h1 h2 h3 => hk k (by omega) h2 h3)
      · rw [← List.drop_drop, hp]; rfl
      · rw [← List.drop_drop, hdr]; rfl
      · intro p g x h
        unfold pushR at h ⊢
        split at h
        · rename_i hc
          rw [if_pos hc]
          cases p with
          | zero =>
            simp at h
            rw [← h.1, hdepi, List.length_cons, dec_length]
            omega
          | succ p =>
            rw [List.getElem?_cons_succ] at h
            obtain ⟨y, hy⟩ := dec_get h
            rw [hpop p g y hy, List.length_cons, dec_length]
            omega
        · rename_i hc
          rw [if_neg hc]
          obtain ⟨y, hy⟩ := dec_get h
          rw [hpop p g y hy, dec_length]

theorem depths_eq (l : List F) (j : Nat) (hj : j < l.length) (hk : ∀ k, k ≤ j → 0 < k → (parents l).getD k 0 ≠ -1) : (depthsR l).getD j 0 = (depths l).getD j 0 :=
  depR_eq l l 0 [] (fun _ => rfl) (by omega) (by rw [List.drop_zero, parR_parents]) rfl (by simp) j (Nat.zero_le _) hj (fun k _ h2 h3 => hk k h2 h3)

end Go.Proofs.Ytfdmbpfpdijpdaa

namespace Go.Proofs.Ytfdmbpfpdijpdaa
open Go.RowKit
set_option linter.unusedVariables false

/-- Each group but the innermost open one has a field. -/
def Gd (m : MS) : Prop := ∀ (j : Nat) (f : F), m.s[j]? = some f → f.k = 0 → 1 ≤ f.c ∨ j = m.o.headD 0

theorem popK_head (k : Nat) (s : List F) (g : Nat) (t : List Nat) : popK k s (g :: t) = g :: t ∨ 0 < (s.getD g default).c := by
  cases k with
  | zero => exact .inl rfl
  | succ k =>
    simp only [popK]
    split
    · rename_i h; exact .inr h.2
    · exact .inl rfl

theorem Gd.step {i : Nat} {m : MS} (h : Vm i m) (hG : Gd m) (x : Int) : Gd (stepM i x m) := by
  have hg := popK_lt h.lf.ok ((x.tdiv 64) % 3).toNat
  have hne := h.lf.ok.ne
  intro j f hf hk
  by_cases hj : j < m.s.length
  · left
    have hf2 : (bump m.s ((popK ((x.tdiv 64) % 3).toNat m.s m.o).headD 0))[j]? = some f := by
      simp only [stepM] at hf
      rwa [List.getElem?_append_left (by simpa using hj)] at hf
    have hb := bump_get hg j hj
    have e1 : (bump m.s ((popK ((x.tdiv 64) % 3).toNat m.s m.o).headD 0)).getD j default = f := by rw [List.getD, hf2]; rfl
    rw [e1] at hb
    have hm : m.s[j]? = some (m.s.getD j default) := by rw [List.getD, List.getElem?_eq_getElem hj]; rfl
    have hmem := List.mem_of_getElem? hm
    have hc0 := (h.lf.ok.cb _ hmem).1
    have hkm : (m.s.getD j default).k = 0 := by rw [hb] at hk; exact hk
    have hcf : f.c = (m.s.getD j default).c + (if j = (popK ((x.tdiv 64) % 3).toNat m.s m.o).headD 0 then 1 else 0) := by rw [hb]
    rcases hG j _ hm hkm with h1 | h1
    · rw [hcf]; split <;> omega
    · by_cases h2 : j = (popK ((x.tdiv 64) % 3).toNat m.s m.o).headD 0
      · rw [hcf, if_pos h2]; omega
      · rw [hcf, if_neg h2]
        cases ho : m.o with
        | nil => exact absurd ho hne
        | cons g t =>
          rw [ho] at h1 h2
          simp only [List.headD_cons] at h1
          rcases popK_head ((x.tdiv 64) % 3).toNat m.s g t with h3 | h3
          · rw [h3] at h2
            exact absurd h1 h2
          · rw [← h1] at h3; omega
  · right
    have hjl := (List.getElem?_eq_some_iff.1 hf).1
    have hjj : j = m.s.length := by simp [stepM] at hjl; omega
    have hf2 : f = fieldM i x (popK ((x.tdiv 64) % 3).toNat m.s m.o) := by
      simp only [stepM] at hf
      rw [List.getElem?_append_right (by simp; omega), bump_length, hjj, Nat.sub_self] at hf
      simpa using hf.symm
    rw [hf2] at hk
    have hk2 : kindM x (popK ((x.tdiv 64) % 3).toNat m.s m.o) = 0 := hk
    simp only [stepM]
    rw [if_pos hk2, hjj]
    rfl

theorem goM_vm (l : List Int) : ∀ (i : Nat) (m : MS), Vm i m → Gd m → i ≤ 12 → ∃ j, j ≤ 12 ∧ Vm j (goM l i m) ∧ Gd (goM l i m) := by
  induction l with
  | nil => intro i m h hG hi; exact ⟨i, hi, h, hG⟩
  | cons x l ih =>
    intro i m h hG hi
    rw [goM]
    split
    · exact ih (i + 1) _ (h.step x) (hG.step h x) (by omega)
    · exact ⟨i, hi, h, hG⟩

theorem mk_fields (ns : List Int) : ∀ (j : Nat) (f : F), (mk ns)[j]? = some f → (0 ≤ f.r ∧ f.r ≤ 2 ∧ 0 ≤ f.k ∧ f.k ≤ 4) ∧ (f.k = 0 → 1 ≤ f.c) ∧ (f.k ≠ 0 → f.c = 0) := by
  obtain ⟨i, hi, h, hG⟩ := goM_vm ns 0 startM Vm.start (by
    intro j f hf _
    right
    simp only [startM] at hf ⊢
    have := (List.getElem?_eq_some_iff.1 hf).1
    simp at this
    simp [this]) (by omega)
  have hg : (goM ns 0 startM).o.headD 0 < (goM ns 0 startM).s.length := by
    rw [h.lf.ok.len]
    exact h.lf.ok.lt _ (headD_mem h.lf.ok.ne)
  intro j f hf
  unfold mk finM at hf
  split at hf
  · rename_i h0
    by_cases hj : j < (goM ns 0 startM).s.length
    · rw [List.getElem?_append_left (by simpa using hj)] at hf
      have hb := bump_get hg j hj
      have e1 : (bump (goM ns 0 startM).s ((goM ns 0 startM).o.headD 0)).getD j default = f := by rw [List.getD, hf]; rfl
      rw [e1] at hb
      have hm : (goM ns 0 startM).s[j]? = some ((goM ns 0 startM).s.getD j default) := by rw [List.getD, List.getElem?_eq_getElem hj]; rfl
      have hmem := List.mem_of_getElem? hm
      have hc0 := (h.lf.ok.cb _ hmem).1
      have hkn := h.kn _ hmem
      have hcf : f.c = ((goM ns 0 startM).s.getD j default).c + (if j = (goM ns 0 startM).o.headD 0 then 1 else 0) := by rw [hb]
      have hkf : f.k = ((goM ns 0 startM).s.getD j default).k := by rw [hb]
      have hrf : f.r = ((goM ns 0 startM).s.getD j default).r := by rw [hb]
      refine ⟨by rw [hrf, hkf]; exact hkn, fun hk => ?_, fun hk => ?_⟩
      · rw [hcf]
        rcases hG j _ hm (by rw [← hkf]; exact hk) with h1 | h1
        · split <;> omega
        · rw [if_pos h1]; omega
      · rw [hcf]
        have h1 := h.lv _ hmem (by rw [← hkf]; exact hk)
        rw [h1]
        by_cases h2 : j = (goM ns 0 startM).o.headD 0
        · exfalso
          apply hk
          rw [hkf, h2]
          exact h.gr _ (headD_mem h.lf.ok.ne)
        · rw [if_neg h2]; rfl
    · rw [List.getElem?_append_right (by simp; omega)] at hf
      have h1 := (List.getElem?_eq_some_iff.1 hf).1
      simp only [List.length_singleton] at h1
      have hj0 : j - (bump (goM ns 0 startM).s ((goM ns 0 startM).o.headD 0)).length = 0 := by omega
      rw [hj0] at hf
      simp at hf
      subst hf
      exact ⟨by decide, fun h => by simp at h, fun _ => rfl⟩
  · rename_i h0
    have hmem := List.mem_of_getElem? hf
    refine ⟨h.kn _ hmem, fun hk => ?_, h.lv f hmem⟩
    rcases hG j f hf hk with h1 | h1
    · exact h1
    · have hc0 := (h.lf.ok.cb f hmem).1
      have e : (goM ns 0 startM).s.getD ((goM ns 0 startM).o.headD 0) default = f := by rw [← h1, List.getD, hf]; rfl
      rw [e] at h0
      omega

theorem fin_new (l : List Int) : ∀ (i : Nat) (m : MS), Vm i m → ∀ (j : Nat), m.s.length ≤ j → j < (fin l i m).length → ((fin l i m).getD j default).c = ((piM l i m).count j : Nat) := by
  have hend : ∀ (i : Nat) (m : MS), Vm i m → ∀ (j : Nat), m.s.length ≤ j → j < (finM m).length → ((finM m).getD j default).c = ((endM m).count j : Nat) := by
    intro i m h j hj hjl
    have hg : m.o.headD 0 < m.s.length := by rw [h.lf.ok.len]; exact h.lf.ok.lt _ (headD_mem h.lf.ok.ne)
    unfold finM at hjl ⊢
    unfold endM
    split at hjl
    · rename_i h0
      rw [if_pos h0, if_pos h0]
      simp at hjl
      have hjj : j = m.s.length := by omega
      rw [List.getD, List.getElem?_append_right (by simp; omega), bump_length, hjj, Nat.sub_self, List.count_eq_zero_of_not_mem (by rw [List.mem_singleton]; omega)]
      rfl
    · omega
  induction l with
  | nil => intro i m h; exact hend i m h
  | cons x l ih =>
    intro i m h j hj hjl
    unfold fin at hjl ⊢
    rw [goM] at hjl ⊢
    rw [piM]
    split at hjl
    · rename_i h12
      rw [if_pos h12, if_pos h12]
      have hv := h.step x
      have hsl : (stepM i x m).s.length = m.s.length + 1 := by simp [stepM]
      have hg1 := popK_lt h.lf.ok ((x.tdiv 64) % 3).toNat
      rw [List.count_cons_of_ne (by omega)]
      by_cases hjj : j = m.s.length
      · have h1 := (fin_get l (i + 1) _ hv.lf).2 j (by omega)
        unfold fin at h1
        rw [h1]
        have h2 : (stepM i x m).s.getD j default = fieldM i x (popK ((x.tdiv 64) % 3).toNat m.s m.o) := by
          simp only [stepM]
          rw [List.getD, List.getElem?_append_right (by simp; omega), bump_length, hjj, Nat.sub_self]
          rfl
        rw [h2]
        simp only [fieldM]
        omega
      · exact ih (i + 1) _ hv j (by omega) hjl
    · rename_i h12
      rw [if_neg h12, if_neg h12]
      exact hend i m h j hj hjl

theorem mk_count (ns : List Int) (j : Nat) (hj : j < (mk ns).length) : ((mk ns).getD j default).c = ((piM ns 0 startM).count j : Nat) := by
  rw [mk_fin] at hj ⊢
  by_cases h0 : j = 0
  · have h1 := (fin_get ns 0 startM Lf.start).2 j (by simp [startM]; omega)
    rw [h1, h0]
    simp [startM]
  · exact fin_new ns 0 startM Vm.start j (by simp [startM]; omega) hj

theorem count_cast (l : List Nat) (k : Nat) : (l.map fun (g : Nat) => (g : Int)).count (k : Int) = l.count k := by
  induction l with
  | nil => rfl
  | cons a l ih =>
    rw [List.map_cons, List.count_cons, List.count_cons, ih]
    congr 1
    by_cases h : a = k
    · simp [h]
    · have h2 : ¬ ((a : Int) = (k : Int)) := by omega
      simp [h, h2]

theorem mk_lacks (ns : List Int) : lacksB (mk ns) (parents (mk ns)) = false := by
  rw [Bool.eq_false_iff]
  intro h
  unfold lacksB at h
  rw [List.any_eq_true] at h
  obtain ⟨k, hk, hs⟩ := h
  have hkl := List.mem_range.1 hk
  unfold fewB at hs
  have hs := of_decide_eq_true hs
  rw [mk_parents, List.drop_one, List.tail_cons, mk_count ns k hkl] at hs
  rw [count_cast] at hs
  omega

theorem mk_root (ns : List Int) : ((mk ns).getD 0 default).n = bm ∧ ((mk ns).getD 0 default).r = 0 ∧ ((mk ns).getD 0 default).k = 0 := by
  rw [mk_fin, (fin_get ns 0 startM Lf.start).2 0 (by simp [startM])]
  exact ⟨rfl, rfl, rfl⟩

theorem mk_depth (ns : List Int) (j : Nat) (hj : j < (mk ns).length) : (depths (mk ns)).getD j 0 ≤ 5 := by
  have h00 : (depths (mk ns)).getD 0 0 = 0 := by
    rw [dep_at _ 0 (mk_ok ns).pos, mk_parents]
    rfl
  by_cases h0 : j = 0
  · rw [h0, h00]; decide
  · refine dep_le (mk ns) ns 0 startM Vm.start ?_ ?_ j (by simp [startM]; omega) hj
    · intro p g hp
      have hpl := (List.getElem?_eq_some_iff.1 hp).1
      simp [startM] at hpl
      subst hpl
      simp [startM] at hp
      rw [← hp, h00]
      rfl
    · rw [mk_parents]
      simp [startM]

theorem bl_one (a : Nat) (h : a < 256) : bl (str [a]) = [a] := by
  simp [bl, str]
  omega

theorem mk_name (ns : List Int) (j : Nat) (hj : j < (mk ns).length) : nameB (bl ((mk ns).getD j default).n) = true := by
  by_cases h0 : j = 0
  · rw [h0, (mk_root ns).1]; decide
  · have hf : (mk ns)[j]? = some ((mk ns).getD j default) := by rw [List.getD, List.getElem?_eq_getElem hj]; rfl
    rcases mk_names ns j _ (by omega) hf with ⟨h1, h2⟩ | ⟨h1, -⟩
    · rw [h1, bl_one _ (by omega)]
      have hl : letB (96 + j) = true := by simp [letB]; omega
      simp [nameB, sgnB, hl]
    · rw [h1]; decide

theorem mk_taken (ns : List Int) (j : Nat) (hj : j < (mk ns).length) : takenB (mk ns) (parents (mk ns)) j = false := by
  rw [Bool.eq_false_iff]
  intro ht
  unfold takenB at ht
  rw [List.any_eq_true] at ht
  obtain ⟨k, hk, hs⟩ := ht
  have hkj := List.mem_range.1 hk
  unfold sameN at hs
  simp only [Bool.and_eq_true, decide_eq_true_eq] at hs
  have h3 := hs.2
  have hle := (mk_ok ns).le
  have hfj : (mk ns)[j]? = some ((mk ns).getD j default) := by rw [List.getD, List.getElem?_eq_getElem hj]; rfl
  have hfk : (mk ns)[k]? = some ((mk ns).getD k default) := by rw [List.getD, List.getElem?_eq_getElem (by omega)]; rfl
  have hbz : bz = str [122] := rfl
  have hbm : bm = str [109] := rfl
  have hk1 : ((mk ns).getD k default).n = str [109] ∧ k = 0 ∨ ((mk ns).getD k default).n = str [96 + k] ∧ 1 ≤ k ∧ k ≤ 12 ∨ k + 1 = (mk ns).length := by
    by_cases h0 : k = 0
    · left; rw [h0]; exact ⟨(mk_root ns).1, rfl⟩
    · rcases mk_names ns k _ (by omega) hfk with ⟨h5, h5'⟩ | ⟨-, h5'⟩
      · exact .inr (.inl ⟨h5, by omega, h5'⟩)
      · exact .inr (.inr h5')
  rcases mk_names ns j _ (by omega) hfj with ⟨h6, h6'⟩ | ⟨h6, h6'⟩
  · rcases hk1 with ⟨h5, h7⟩ | ⟨h5, h7, h8⟩ | h5
    · rw [h5, h6] at h3
      have := str_one _ _ (by omega) (by omega) h3
      omega
    · rw [h5, h6] at h3
      have := str_one _ _ (by omega) (by omega) h3
      omega
    · omega
  · rcases hk1 with ⟨h5, h7⟩ | ⟨h5, h7, h8⟩ | h5
    · rw [h5, h6, hbz] at h3
      have := str_one _ _ (by omega) (by omega) h3
      omega
    · rw [h5, h6, hbz] at h3
      have := str_one _ _ (by omega) (by omega) h3
      omega
    · omega

theorem mk_fault (ns : List Int) (j : Nat) (hj : j < (mk ns).length) : faultN (mk ns) (parents (mk ns)) (depths (mk ns)) j = 0 := by
  have hf : (mk ns)[j]? = some ((mk ns).getD j default) := by rw [List.getD, List.getElem?_eq_getElem hj]; rfl
  obtain ⟨⟨k1, k2, k3, k4⟩, k5, k6⟩ := mk_fields ns j _ hf
  have hp : ¬ (0 < j ∧ (parents (mk ns)).getD j 0 = -1) := by
    rintro ⟨h1, h2⟩
    rw [mk_parents] at h2
    obtain ⟨q, rfl⟩ : ∃ q, j = q + 1 := ⟨j - 1, by omega⟩
    rw [List.getD_cons_succ] at h2
    have hl : q < (piM ns 0 startM).length := by
      have h3 := congrArg List.length (mk_parents ns)
      simp at h3
      omega
    simp [List.getD, hl] at h2
  have hd := mk_depth ns j hj
  have hkn : knownB ((mk ns).getD j default) = true := by unfold knownB; simp only [Bool.and_eq_true, decide_eq_true_eq]; exact ⟨k1, k2, k3, k4⟩
  have hrt : ¬ (j = 0 ∧ rootB ((mk ns).getD j default) = false) := by
    rintro ⟨h1, h2⟩
    rw [h1] at h2
    unfold rootB at h2
    rw [(mk_root ns).2.1, (mk_root ns).2.2] at h2
    cases h2
  have hhv : haveB ((mk ns).getD j default) = true := by
    unfold haveB
    split
    · rename_i h; simpa using k5 h
    · rename_i h; simpa using k6 h
  unfold faultN
  rw [if_neg hp, if_neg (by omega), mk_name ns j hj, mk_taken ns j hj, if_neg (by simp), hkn, if_neg (by simpa using hrt), hhv]
  rfl

theorem mk_chk (ns : List Int) : chk (mk ns) = 0 := by
  have h := mk_ok ns
  unfold chk
  rw [if_neg (by have := h.le; have := h.pos; omega), firstN_zero (fun j hj => mk_fault ns j hj), mk_lacks]
  rfl

end Go.Proofs.Ytfdmbpfpdijpdaa

namespace Go.Proofs.Ytfdmbpfpdijpdaa
open Go.RowKit
set_option linter.unusedVariables false

theorem firstN_congr {p q : Nat → Int} (n : Nat) (h : ∀ i, i < n → (∀ j, j < i → p j = 0) → p i = q i) : firstN p n = firstN q n := by
  by_cases hz : ∀ j, j < n → p j = 0
  · have hq : ∀ j, j < n → q j = 0 := fun j hj => by rw [← h j hj (fun k hk => hz k (by omega)), hz j hj]
    rw [firstN_zero hz, firstN_zero hq]
  · have he : ∃ k, k < n ∧ p k ≠ 0 ∧ ∀ j, j < k → p j = 0 := by
      have : ∀ m, (∃ j, j < m ∧ p j ≠ 0) → ∃ k, k < m ∧ p k ≠ 0 ∧ ∀ j, j < k → p j = 0 := by
        intro m
        induction m with
        | zero => rintro ⟨j, hj, _⟩; omega
        | succ m ih =>
          rintro ⟨j, hj, hpj⟩
          by_cases h1 : ∃ j, j < m ∧ p j ≠ 0
          · obtain ⟨k, h2, h3, h4⟩ := ih h1
            exact ⟨k, by omega, h3, h4⟩
          · refine ⟨m, by omega, ?_, fun i hi => ?_⟩
            · by_cases e : j = m
              · rw [← e]; exact hpj
              · exact absurd ⟨j, by omega, hpj⟩ h1
            · exact Classical.byContradiction fun h2 => h1 ⟨i, hi, h2⟩
      refine this n ?_
      exact Classical.byContradiction fun h2 => hz fun j hj => Classical.byContradiction fun h3 => h2 ⟨j, hj, h3⟩
    obtain ⟨k, hk, hpk, hlt⟩ := he
    have hpq := h k hk hlt
    have hq : ∀ j, j < k → q j = 0 := fun j hj => by rw [← h j (by omega) (fun i hi => hlt i (by omega)), hlt j hj]
    rw [firstN_at hlt hk hpk, firstN_at hq hk (by rw [← hpq]; exact hpk), hpq]

theorem firstN_all {p : Nat → Int} {n : Nat} (h : firstN p n = 0) : ∀ j, j < n → p j = 0 := by
  induction n with
  | zero => intro j hj; omega
  | succ n ih =>
    simp only [firstN] at h
    split at h
    · rename_i h1; exact absurd h h1
    · rename_i h1
      have h2 : firstN p n = 0 := Classical.byContradiction fun h3 => h1 h3
      intro j hj
      by_cases e : j = n
      · rw [e]; exact h
      · exact ih h2 j (by omega)

theorem fault_depth {l : List F} {ps d1 d2 : List Int} {i : Nat} (h : (0 < i ∧ ps.getD i 0 = -1) ∨ d1.getD i 0 = d2.getD i 0) : faultN l ps d1 i = faultN l ps d2 i := by
  unfold faultN
  by_cases h1 : 0 < i ∧ ps.getD i 0 = -1
  · rw [if_pos h1, if_pos h1]
  · rw [if_neg h1, if_neg h1]
    rcases h with h | h
    · exact absurd h h1
    · rw [h]

/-- What the reference finds. -/
def refChk (l : List F) : Int :=
  if l.length < 1 ∨ 40 < l.length then 4
  else if firstN (faultN l (parents l) (depthsR l)) l.length ≠ 0 then firstN (faultN l (parents l) (depthsR l)) l.length
  else if (l.any fun f => decide (40 < f.c)) = true then 1
  else if (l.map F.c).sum ≠ (l.length : Int) - 1 then 1 else 0

theorem first_eq (l : List F) : firstN (faultN l (parents l) (depthsR l)) l.length = firstN (faultN l (parents l) (depths l)) l.length := by
  apply firstN_congr
  intro i hi hz
  apply fault_depth
  by_cases h : 0 < i ∧ (parents l).getD i 0 = -1
  · exact .inl h
  · right
    apply depths_eq l i hi
    intro k hk h0
    by_cases e : k = i
    · rw [e]; intro h2; exact h ⟨by omega, h2⟩
    · exact no_fault (hz k (by omega)) h0

theorem sum_c (l : List F) (h : ∀ f ∈ l, 0 ≤ f.c) : (l.map F.c).sum = ((((List.range l.length).map fun g => (l.getD g default).c.toNat).sum : Nat) : Int) := by
  have e : ∀ m, m ≤ l.length → ((l.take m).map F.c).sum = ((((List.range m).map fun g => (l.getD g default).c.toNat).sum : Nat) : Int) := by
    intro m
    induction m with
    | zero => intro _; rfl
    | succ m ih =>
      intro hm
      have hx : l[m]? = some (l.getD m default) := by rw [List.getD, List.getElem?_eq_getElem (by omega)]; rfl
      have h0 := h _ (List.mem_of_getElem? hx)
      rw [List.take_add_one, hx, List.range_succ]
      simp only [Option.toList, List.map_append, List.map_cons, List.map_nil, List.sum_append, List.sum_cons, List.sum_nil]
      rw [ih (by omega)]
      omega
  have h1 := e l.length (Nat.le_refl _)
  rwa [List.take_length] at h1

theorem refChk_eq (l : List F) : refChk l = chk l := by
  unfold refChk chk
  by_cases hl : l.length < 1 ∨ 40 < l.length
  · rw [if_pos hl, if_pos hl]
  rw [if_neg hl, if_neg hl, first_eq]
  by_cases hf : firstN (faultN l (parents l) (depths l)) l.length ≠ 0
  · rw [if_pos hf, if_pos hf]
  rw [if_neg hf, if_neg hf]
  have hz := firstN_all (p := faultN l (parents l) (depths l)) (n := l.length) (Classical.byContradiction fun h => hf h)
  have hin := in_groups hz
  have hc : ∀ g, g < l.length → 0 ≤ (l.getD g default).c := by
    intro g hg
    have h1 := hz g hg
    unfold faultN at h1
    split at h1
    · cases h1
    · split at h1
      · cases h1
      · split at h1
        · cases h1
        · split at h1
          · cases h1
          · split at h1
            · cases h1
            · rename_i h2
              have h3 : haveB (l.getD g default) = true := by
                cases hb : haveB (l.getD g default)
                · exact absurd hb h2
                · rfl
              unfold haveB at h3
              split at h3
              · have := of_decide_eq_true h3; omega
              · have := of_decide_eq_true h3; omega
  have hc2 : ∀ f ∈ l, 0 ≤ f.c := by
    intro f hf
    obtain ⟨g, hg⟩ := List.mem_iff_getElem?.1 hf
    have h1 := hc g (List.getElem?_eq_some_iff.1 hg).1
    rw [List.getD, hg] at h1
    exact h1
  have hle : ∀ g, g < l.length → ((parents l).drop 1).count (g : Int) ≤ (l.getD g default).c.toNat := by
    intro g hg
    have h1 := parents_count l g
    have h2 := (List.drop_sublist 1 (parents l)).count_le (g : Int)
    have := hc g hg
    omega
  have hsum := sum_count ((parents l).drop 1) l.length hin
  have hlen : ((parents l).drop 1).length = l.length - 1 := by simp
  obtain ⟨h3, h4⟩ := sum_le_eq (fun g => ((parents l).drop 1).count (g : Int)) (fun g => (l.getD g default).c.toNat) l.length hle
  rw [hsum, hlen] at h3 h4
  have hsc := sum_c l hc2
  by_cases hall : ∀ g, g < l.length → ((parents l).drop 1).count (g : Int) = (l.getD g default).c.toNat
  · have h5 := h4.2 hall
    have hno : (l.any fun f => decide (40 < f.c)) = false := by
      rw [Bool.eq_false_iff]
      intro h6
      rw [List.any_eq_true] at h6
      obtain ⟨f, hf2, h7⟩ := h6
      have h7 := of_decide_eq_true h7
      obtain ⟨g, hg⟩ := List.mem_iff_getElem?.1 hf2
      have hgl := (List.getElem?_eq_some_iff.1 hg).1
      have h8 := hall g hgl
      rw [List.getD, hg] at h8
      simp only [Option.getD_some] at h8
      have h9 : ((parents l).drop 1).count (g : Int) ≤ ((parents l).drop 1).length := List.count_le_length
      omega
    have hnl : lacksB l (parents l) = false := by
      rw [Bool.eq_false_iff]
      intro h6
      unfold lacksB at h6
      rw [List.any_eq_true] at h6
      obtain ⟨g, hg, h7⟩ := h6
      have hgl := List.mem_range.1 hg
      have h7 := of_decide_eq_true h7
      have h8 := hall g hgl
      have := hc g hgl
      omega
    rw [hno, hnl, if_neg (by decide), if_neg (by rw [hsc]; omega), if_neg (by decide)]
  · have hl1 : lacksB l (parents l) = true := by
      obtain ⟨g, hg⟩ := Classical.not_forall.1 hall
      obtain ⟨hgl, hne⟩ := Classical.not_imp.1 hg
      unfold lacksB
      rw [List.any_eq_true]
      refine ⟨g, List.mem_range.2 hgl, ?_⟩
      unfold fewB
      have h1 := hle g hgl
      have := hc g hgl
      simp only [decide_eq_true_eq]
      omega
    have hne : (l.map F.c).sum ≠ (l.length : Int) - 1 := by
      rw [hsc]
      intro h6
      apply hall
      apply h4.1
      omega
    rw [hl1, if_pos hne, if_pos rfl]
    split <;> rfl

end Go.Proofs.Ytfdmbpfpdijpdaa

namespace Go.Proofs.Ytfdmbpfpdijpdaa
open Go.RowKit
set_option linter.unusedVariables false

/-- Fields beside one another, groups with what is in them. -/
inductive Fo where
  | nil
  | leaf (f : F) (t : Fo)
  | group (f : F) (k t : Fo)

def Fo.flat : Fo → List F
  | .nil => []
  | .leaf f t => f :: t.flat
  | .group f k t => f :: (k.flat ++ t.flat)
def Fo.num : Fo → Nat
  | .nil => 0
  | .leaf _ t => t.num + 1
  | .group _ _ t => t.num + 1
/-- Each group says how many fields it has, a leaf none. -/
def Fo.ok : Fo → Prop
  | .nil => True
  | .leaf f t => f.k ≠ 0 ∧ f.c = 0 ∧ t.ok
  | .group f k t => f.k = 0 ∧ f.c = k.num ∧ k.ok ∧ t.ok

def kidsN (f : F) : Nat := if f.k = 0 then f.c.toNat else 0
/-- How many fields are still to come, where so many were to come ahead of l. -/
def need : Nat → List F → Option Nat
  | p, [] => some p
  | 0, _ :: _ => none
  | p + 1, f :: l => need (p + kidsN f) l

theorem fo_of (n : Nat) : ∀ (l : List F) (a b : Nat), l.length ≤ n → (∀ f ∈ l, (f.k = 0 → 0 ≤ f.c) ∧ (f.k ≠ 0 → f.c = 0)) → need (a + b) l = some 0 →
    ∃ (fo : Fo) (l2 : List F), fo.num = a ∧ l = fo.flat ++ l2 ∧ need b l2 = some 0 ∧ fo.ok := by
  induction n with
  | zero =>
    intro l a b hl _ h
    have : l = [] := List.eq_nil_of_length_eq_zero (by omega)
    subst this
    rw [need] at h
    injection h with h
    obtain rfl : a = 0 := by omega
    obtain rfl : b = 0 := by omega
    exact ⟨.nil, [], rfl, rfl, rfl, trivial⟩
  | succ n ih =>
    intro l a b hl hf h
    cases a with
    | zero => exact ⟨.nil, l, rfl, rfl, by simpa using h, trivial⟩
    | succ a =>
      cases l with
      | nil => rw [need] at h; injection h with h; omega
      | cons f t =>
        have ht : t.length ≤ n := by simp at hl; omega
        have hft : ∀ f ∈ t, (f.k = 0 → 0 ≤ f.c) ∧ (f.k ≠ 0 → f.c = 0) := fun y hy => hf y (by simp [hy])
        have hff := hf f (by simp)
        rw [show a + 1 + b = (a + b) + 1 by omega, need] at h
        by_cases hk : f.k = 0
        · have hkn : kidsN f = f.c.toNat := by unfold kidsN; rw [if_pos hk]
          rw [hkn, Nat.add_comm] at h
          obtain ⟨fk, l2, h1, h2, h3, h4⟩ := ih t _ _ ht hft h
          have hl2 : l2.length ≤ n := by have := congrArg List.length h2; simp at this; omega
          obtain ⟨ft, l3, g1, g2, g3, g4⟩ := ih l2 a b hl2 (fun y hy => hft y (by rw [h2]; simp [hy])) h3
          refine ⟨.group f fk ft, l3, by simp [Fo.num, g1], by rw [h2, g2]; simp [Fo.flat], g3, hk, ?_, h4, g4⟩
          rw [h1]
          have := hff.1 hk
          omega
        · have hkn : kidsN f = 0 := by unfold kidsN; rw [if_neg hk]
          rw [hkn, Nat.add_zero] at h
          obtain ⟨ft, l3, g1, g2, g3, g4⟩ := ih t a b ht hft h
          exact ⟨.leaf f ft, l3, by simp [Fo.num, g1], by rw [g2]; simp [Fo.flat], g3, hk, hff.2 hk, g4⟩

/-- The stack of groups, as how many are still to come. -/
def pend (st : List (Nat × Int)) : Int := (st.map (·.2)).sum

theorem pend_pop {st : List (Nat × Int)} (h : ∀ e ∈ st, 0 ≤ e.2) : pend (popS st) = pend st ∧ (∀ e ∈ popS st, 0 ≤ e.2) ∧ (popS st ≠ [] → 1 ≤ pend st) := by
  induction st with
  | nil => exact ⟨rfl, h, fun h => absurd rfl h⟩
  | cons a t ih =>
    obtain ⟨g, x⟩ := a
    have hx := h (g, x) (by simp)
    simp only at hx
    obtain ⟨h1, h2, h3⟩ := ih fun e he => h e (by simp [he])
    have ht : 0 ≤ pend t := by
      unfold pend
      have : ∀ l : List (Nat × Int), (∀ e ∈ l, 0 ≤ e.2) → 0 ≤ (l.map (·.2)).sum := by
        intro l hl
        induction l with
        | nil => simp
        | cons y s ih => have := hl y (by simp); have := ih fun e he => hl e (by simp [he]); simp; omega
      exact this t fun e he => h e (by simp [he])
    by_cases h0 : x < 1
    · rw [popS, if_pos h0]
      refine ⟨?_, h2, fun hne => ?_⟩
      · rw [h1]; simp [pend]; omega
      · have := h3 hne; simp [pend] at *; omega
    · rw [popS, if_neg h0]
      refine ⟨rfl, h, fun _ => ?_⟩
      simp [pend] at *
      omega

theorem pop_head {st : List (Nat × Int)} {g : Nat} {x : Int} {t : List (Nat × Int)} (h : popS st = (g, x) :: t) : 1 ≤ x := by
  induction st with
  | nil => cases h
  | cons a s ih =>
    obtain ⟨g', x'⟩ := a
    rw [popS] at h
    split at h
    · exact ih h
    · injection h with h1 h2
      injection h1 with h3 h4
      omega

theorem need_of (l : List F) : ∀ (i : Nat) (st : List (Nat × Int)), (∀ e ∈ st, 0 ≤ e.2) → (∀ f ∈ l, (f.k = 0 → 0 ≤ f.c) ∧ (f.k ≠ 0 → f.c = 0)) → (∀ x ∈ par i l st, x ≠ -1) → pend st + (l.map F.c).sum = l.length → need (pend st).toNat l = some 0 := by
  induction l with
  | nil => intro i st _ _ _ h; simp at h; rw [h]; rfl
  | cons f l ih =>
    intro i st hst hf hp h
    obtain ⟨h1, h2, h3⟩ := pend_pop hst
    rw [par] at hp
    have htop := hp (topS (popS st)) (by simp)
    have hff := hf f (by simp)
    cases hq : popS st with
    | nil => rw [hq] at htop; exact absurd rfl htop
    | cons a t =>
      obtain ⟨g, x⟩ := a
      have hx := pop_head hq
      have hpos := h3 (by rw [hq]; simp)
      rw [hq] at h1 h2 hp
      have hdec : pend (decS ((g, x) :: t)) = pend st - 1 := by rw [← h1]; simp [pend, decS]; omega
      have hpush : pend (pushS i f (decS ((g, x) :: t))) = pend st - 1 + f.c := by
        unfold pushS
        by_cases hk : f.k = 0
        · rw [if_pos hk, ← hdec]; simp [pend]; omega
        · rw [if_neg hk, hdec, hff.2 hk]; omega
      have hnn : ∀ e ∈ pushS i f (decS ((g, x) :: t)), 0 ≤ e.2 := by
        have hd : ∀ e ∈ decS ((g, x) :: t), 0 ≤ e.2 := by
          intro e he
          rcases List.mem_cons.1 he with rfl | he
          · simp only; omega
          · exact h2 e (by simp [he])
        intro e he
        unfold pushS at he
        split at he
        · rename_i hk
          rcases List.mem_cons.1 he with rfl | he
          · exact hff.1 hk
          · exact hd e he
        · exact hd e he
      have hi := ih (i + 1) _ hnn (fun y hy => hf y (by simp [hy])) (fun y hy => hp y (by simp [hy])) (by rw [hpush]; simp at h; omega)
      have hkn : ((kidsN f : Nat) : Int) = f.c := by
        unfold kidsN
        by_cases hk : f.k = 0
        · rw [if_pos hk]; have := hff.1 hk; omega
        · rw [if_neg hk, hff.2 hk]; rfl
      obtain ⟨p, hp2⟩ : ∃ p : Nat, (pend st).toNat = p + 1 := ⟨(pend st).toNat - 1, by omega⟩
      rw [hp2, need]
      rw [hpush] at hi
      rw [show p + kidsN f = (pend st - 1 + f.c).toNat by omega]
      exact hi

/-- What the statements make is a root with a forest. -/
theorem mk_forest (ns : List Int) : ∃ (r : F) (fo : Fo), mk ns = r :: fo.flat ∧ r.k = 0 ∧ r.c = fo.num ∧ fo.ok ∧ r.r = 0 ∧ r.n = bm := by
  have hch := mk_chk ns
  rw [← refChk_eq] at hch
  have hpar := mk_parents ns
  obtain ⟨hr1, hr2, hr3⟩ := mk_root ns
  cases hm : mk ns with
  | nil => rw [hm] at hch; exact absurd hch (by decide)
  | cons r l =>
    rw [hm] at hpar hr1 hr2 hr3 hch
    have hff : ∀ f ∈ r :: l, (f.k = 0 → 0 ≤ f.c) ∧ (f.k ≠ 0 → f.c = 0) := by
      intro f hf
      rw [← hm] at hf
      obtain ⟨j, hj⟩ := List.mem_iff_getElem?.1 hf
      obtain ⟨-, h1, h2⟩ := mk_fields ns j f hj
      exact ⟨fun h => by have := h1 h; omega, h2⟩
    have hrk : r.k = 0 := hr3
    have hrc := (hff r (by simp)).1 hrk
    have hsum : ((r :: l).map F.c).sum = ((r :: l).length : Int) - 1 := by
      unfold refChk at hch
      split at hch
      · cases hch
      · split at hch
        · rename_i h0; exact absurd hch h0
        · split at hch
          · cases hch
          · split at hch
            · cases hch
            · rename_i h0; exact Classical.byContradiction h0
    have hpar2 : par 1 l [(0, r.c)] = (piM ns 0 startM).map fun (g : Nat) => (g : Int) := by
      unfold parents at hpar
      rw [par] at hpar
      injection hpar with _ h2
      have e : pushS 0 r (decS (popS [])) = [(0, r.c)] := by unfold pushS; rw [if_pos hrk]; rfl
      rw [e] at h2
      exact h2
    have hn := need_of l 1 [(0, r.c)] (by intro e he; simp at he; subst he; exact hrc) (fun f hf => hff f (by simp [hf])) (by
      intro x hx
      rw [hpar2] at hx
      obtain ⟨g, _, rfl⟩ := List.mem_map.1 hx
      omega) (by simp [pend]; simp at hsum; omega)
    have hp1 : (pend [(0, r.c)]).toNat = r.c.toNat + 0 := by simp [pend]
    rw [hp1] at hn
    obtain ⟨fo, l2, h1, h2, h3, h4⟩ := fo_of l.length l _ 0 (Nat.le_refl _) (fun f hf => hff f (by simp [hf])) hn
    have hl2 : l2 = [] := by
      cases l2 with
      | nil => rfl
      | cons y s => rw [need] at h3; cases h3
    rw [hl2, List.append_nil] at h2
    exact ⟨r, fo, by rw [h2], hrk, by rw [h1]; omega, h4, hr2, hr1⟩

end Go.Proofs.Ytfdmbpfpdijpdaa

namespace Go.Proofs.Ytfdmbpfpdijpdaa
open Go.RowKit
set_option linter.unusedVariables false

/-- append of one element laid at a, and where the row lies then. -/
theorem wp_append_at {P : Program} (w : World) {o : Oper} {a : Act} {K : Act → World → Prop} {Q : Exit → Act → World → Prop} (s x : Operand) (t : TypeId)
    (ho : o.op = .call { callee := .builtin .append, args := #[s, x], argTypes := #[t, t] })
    (base : Nat) (e : TypeId) (i : TypeInfo) (z : Value) (size bytes : Nat) (ht : P.underlying t = some (.slice e)) (hi : P.info? e = some i) (hz : i.zero = some z)
    (hsize : i.size = size) (hby : i.bytes = bytes) (hzs : z.cells.size = size) (hsz : 0 < size)
    (v : Value) (n : Nat) (xs : List Value) (hs : a.eval s = v) (hown : w.ownsRow base e size v n xs)
    (ad : Addr) (m c : Nat) (news : List Value) (hx : a.eval x = .slice (some ad) m c) (hl : news.length = m * size) (hnews : ∀ j u, news[j]? = some u → w.cell? (ad.add j) = some u) (h1 : ∀ u ∈ news, u.oneCell' = true)
    (h63 : n + m ≤ maxLen) (hbytes : (n + m) * bytes ≤ 140737488355328) (hbase : base ≤ w.heap.size)
    (h : ∀ v' w', w'.ownsRow base e size v' (n + m) (xs ++ news) → w.grownBy w' v.ownBlock → (v'.ownBlock = v.ownBlock ∨ v'.ownBlock = some w.heap.size) → K (a.put o.dst v') w') : o.wp P a w K Q := by
  obtain ⟨v', w', hrun, h2, h3, -, h4⟩ := run_append_own_at (P := P) w base t o.type e i z size bytes ht hi hz hsize hby hzs hsz v n xs hown ad m c news hl hnews h1 h63 hbytes hbase
  unfold Oper.wp execOp
  simp only [ho, resolve, invoke, builtin, Sem.run_bind, Sem.run_pure, Result.andThen_ok, List.map_toArray, List.map_cons, List.map_nil, hs, hx, hrun]
  exact h v' w' h2 h3 h4

theorem wpList_append_at {P : Program} (w : World) {ops : Array Oper} {rest : List Oper} {o : Oper} {a : Act} {Q : Exit → Act → World → Prop} (hgd : o.guard = none) (s x : Operand) (t : TypeId)
    (ho : o.op = .call { callee := .builtin .append, args := #[s, x], argTypes := #[t, t] })
    (base : Nat) (e : TypeId) (i : TypeInfo) (z : Value) (size bytes : Nat) (ht : P.underlying t = some (.slice e)) (hi : P.info? e = some i) (hz : i.zero = some z)
    (hsize : i.size = size) (hby : i.bytes = bytes) (hzs : z.cells.size = size) (hsz : 0 < size)
    (v : Value) (n : Nat) (xs : List Value) (hs : a.eval s = v) (hown : w.ownsRow base e size v n xs)
    (ad : Addr) (m c : Nat) (news : List Value) (hx : a.eval x = .slice (some ad) m c) (hl : news.length = m * size) (hnews : ∀ j u, news[j]? = some u → w.cell? (ad.add j) = some u) (h1 : ∀ u ∈ news, u.oneCell' = true)
    (h63 : n + m ≤ maxLen) (hbytes : (n + m) * bytes ≤ 140737488355328) (hbase : base ≤ w.heap.size)
    (h : ∀ v' w', w'.ownsRow base e size v' (n + m) (xs ++ news) → w.grownBy w' v.ownBlock → (v'.ownBlock = v.ownBlock ∨ v'.ownBlock = some w.heap.size) → wpList P ops Q rest (a.put o.dst v') w') : wpList P ops Q (o :: rest) a w :=
  wpList_plain hgd fun _ hK => wp_append_at w s x t ho base e i z size bytes ht hi hz hsize hby hzs hsz v n xs hs hown ad m c news hx hl hnews h1 h63 hbytes hbase fun v' w' h2 h3 h4 => hK _ _ (h v' w' h2 h3 h4)

theorem step_append_at {P : Program} {w : World} {ops : Array Oper} {o : Oper} {a : Act} {K : Act → World → Prop} {Q : Exit → Act → World → Prop} {E : Prop} (hgd : o.guard = none) (s x : Operand) (t : TypeId)
    (ho : o.op = .call { callee := .builtin .append, args := #[s, x], argTypes := #[t, t] })
    (base : Nat) (e : TypeId) (i : TypeInfo) (z : Value) (size bytes : Nat) (ht : P.underlying t = some (.slice e)) (hi : P.info? e = some i) (hz : i.zero = some z)
    (hsize : i.size = size) (hby : i.bytes = bytes) (hzs : z.cells.size = size) (hsz : 0 < size)
    (v : Value) (n : Nat) (xs : List Value) (hs : a.eval s = v) (hown : w.ownsRow base e size v n xs)
    (ad : Addr) (m c : Nat) (news : List Value) (hx : a.eval x = .slice (some ad) m c) (hl : news.length = m * size) (hnews : ∀ j u, news[j]? = some u → w.cell? (ad.add j) = some u) (h1 : ∀ u ∈ news, u.oneCell' = true)
    (h63 : n + m ≤ maxLen) (hbytes : (n + m) * bytes ≤ 140737488355328) (hbase : base ≤ w.heap.size)
    (h : ∀ v' w', w'.ownsRow base e size v' (n + m) (xs ++ news) → w.grownBy w' v.ownBlock → (v'.ownBlock = v.ownBlock ∨ v'.ownBlock = some w.heap.size) → K (a.put o.dst v') w') :
    if Region.wanted o (yielded ops a.tmps) = true then Oper.wp P o a w K Q else E := by
  have hw : Region.wanted o (yielded ops a.tmps) = true := by simp [Region.wanted, hgd]
  rw [if_pos hw]
  exact wp_append_at w s x t ho base e i z size bytes ht hi hz hsize hby hzs hsz v n xs hs hown ad m c news hx hl hnews h1 h63 hbytes hbase h

/-- Two values do not lie in one block. -/
def Sep (a b : Value) : Prop := ∀ g, a.ownBlock = some g → b.ownBlock = some g → False
theorem Sep.symm {a b : Value} (h : Sep a b) : Sep b a := fun g h1 h2 => h g h2 h1
theorem Sep.nil (b : Value) : Sep (.slice none 0 0) b := fun g h => by simp [Value.ownBlock] at h
/-- The row has grown: it lies where it lay, or in a new block. -/
theorem Sep.grow {w : World} {a a' b : Value} (h : Sep a b) (hg : a'.ownBlock = a.ownBlock ∨ a'.ownBlock = some w.heap.size) (hb : ∀ g, b.ownBlock = some g → g < w.heap.size) : Sep a' b := by
  intro g h1 h2
  rcases hg with e | e
  · exact h g (by rw [← e]; exact h1) h2
  · rw [e] at h1
    injection h1 with h1
    have := hb g h2
    omega
theorem own_lt {w : World} {B T size n : Nat} {v : Value} {xs : List Value} (h : w.ownsRow B T size v n xs) : ∀ g, v.ownBlock = some g → g < w.heap.size := fun g hg => (h.lt g hg).2
theorem own_kept {w w' : World} {B T size n : Nat} {v a : Value} {xs : List Value} (h : w.ownsRow B T size v n xs) (hg : w.grownBy w' a.ownBlock) (hs : Sep v a) : w'.ownsRow B T size v n xs := by
  refine h.kept hg ?_
  cases hv : v.ownBlock with
  | none => exact .inl rfl
  | some g => exact .inr fun e => hs g hv e.symm

theorem new_cell {w : World} {T : TypeId} {x : Value} : ∀ (j : Nat) (u : Value), [x][j]? = some u → (w.alloc (.cells #[x] T)).cell? ((⟨w.heap.size, 0, none⟩ : Addr).add j) = some u := by
  intro j u hu
  have := new_cells (w := w) (T := T) (C := #[x]) w.heap.size rfl j u
  exact this hu

theorem le_alloc {w : World} {B : Nat} (h : B ≤ w.heap.size) (o : Obj) : B ≤ (w.alloc o).heap.size := Nat.le_trans h (by simp)
theorem lt_alloc {w : World} {B : Nat} (h : B < w.heap.size) (o : Obj) : B < (w.alloc o).heap.size := Nat.lt_of_lt_of_le h (by simp)

theorem one_i {x : Int} : ∀ u ∈ [Value.int .i64 x], u.oneCell' = true := by intro u hu; simp at hu; subst hu; rfl

theorem cell_old {w0 w4 : World} {row : Option Nat} (hg : w0.grownBy w4 row) {g : Nat} {x : Value} (hc : w0.cell? ⟨g, 0, none⟩ = some x) (hr : row ≠ some g) : ∀ (j : Nat) (u : Value), [x][j]? = some u → w4.cell? ((⟨g, 0, none⟩ : Addr).add j) = some u := by
  intro j u hu
  cases j with
  | zero =>
    simp at hu
    subst hu
    have hlt : g < w0.heap.size := World.block_lt_of_cell? w0 ⟨g, 0, none⟩ hc
    have h : w4.cell? ⟨g, 0, none⟩ = w0.cell? ⟨g, 0, none⟩ := World.cell?_of_block (hg.block g hlt (fun e => hr e.symm))
    rw [show (⟨g, 0, none⟩ : Addr).add 0 = ⟨g, 0, none⟩ from rfl]
    exact h.trans hc
  | succ j => simp at hu

theorem new_cell2 {w : World} {T : TypeId} {x : Value} {o : Obj} : ∀ (j : Nat) (u : Value), [x][j]? = some u → ((w.alloc (.cells #[x] T)).alloc o).cell? ((⟨w.heap.size, 0, none⟩ : Addr).add j) = some u := by
  intro j u hu
  have h := new_cell (w := w) (T := T) j u hu
  rwa [World.cell?_alloc_lt _ _ _ (by rw [addr_add]; simp)]

theorem Sep.sl {a : Option Addr} {n c m d : Nat} {b : Value} (h : Sep (.slice a n c) b) : Sep (.slice a m d) b := by cases a <;> exact h

/-! ### the reference's stack -/

/-- The groups, the outer ones first. -/
def grS (st : List (Nat × Int)) : List Int := (st.map fun e => (e.1 : Int)).reverse
def ctS (st : List (Nat × Int)) : List Int := (st.map (·.2)).reverse
@[simp] theorem grS_length (st : List (Nat × Int)) : (grS st).length = st.length := by simp [grS]
@[simp] theorem ctS_length (st : List (Nat × Int)) : (ctS st).length = st.length := by simp [ctS]
theorem grS_cons (g : Nat) (x : Int) (t : List (Nat × Int)) : grS ((g, x) :: t) = grS t ++ [(g : Int)] := by simp [grS]
theorem ctS_cons (g : Nat) (x : Int) (t : List (Nat × Int)) : ctS ((g, x) :: t) = ctS t ++ [x] := by simp [ctS]
theorem grS_last (g : Nat) (x : Int) (t : List (Nat × Int)) : (iv (grS ((g, x) :: t)))[t.length]? = some (.int .i64 (g : Int)) := by
  rw [grS_cons, iv, List.map_append, List.getElem?_append_right (by simp)]
  simp
theorem ctS_last (g : Nat) (x : Int) (t : List (Nat × Int)) : (iv (ctS ((g, x) :: t)))[t.length]? = some (.int .i64 x) := by
  rw [ctS_cons, iv, List.map_append, List.getElem?_append_right (by simp)]
  simp
theorem grS_pop (g : Nat) (x : Int) (t : List (Nat × Int)) : (iv (grS ((g, x) :: t))).take t.length = iv (grS t) := by
  rw [grS_cons, iv, List.map_append, List.take_append_of_le_length (by simp), List.take_of_length_le (by simp)]
  rfl
theorem ctS_pop (g : Nat) (x : Int) (t : List (Nat × Int)) : (iv (ctS ((g, x) :: t))).take t.length = iv (ctS t) := by
  rw [ctS_cons, iv, List.map_append, List.take_append_of_le_length (by simp), List.take_of_length_le (by simp)]
  rfl
theorem ctS_dec (g : Nat) (x : Int) (t : List (Nat × Int)) : (iv (ctS ((g, x) :: t))).set t.length (.int .i64 (x - 1)) = iv (ctS ((g, x - 1) :: t)) := by
  rw [ctS_cons, ctS_cons, iv, List.map_append, List.set_append, if_neg (by simp)]
  simp [iv]
theorem iv_snoc (l : List Int) (x : Int) : iv l ++ [.int .i64 x] = iv (l ++ [x]) := by simp [iv]

/-- What the groups that are open say is not below nought, nor too much for a number. -/
def Fine (st : List (Nat × Int)) : Prop := ∀ e ∈ st, 0 ≤ e.2 ∧ e.2 ≤ 9223372036854775807
theorem Fine.pop {st : List (Nat × Int)} (h : Fine st) : Fine (popR st) := fun e he => h e ((popR_suffix st).subset he)
theorem popR_len (st : List (Nat × Int)) : (popR st).length ≤ st.length := (popR_suffix st).length_le
theorem popR_top {st : List (Nat × Int)} {g : Nat} {x : Int} {t : List (Nat × Int)} (h : popR st = (g, x) :: t) : x ≠ 0 := by
  induction st with
  | nil => cases h
  | cons a s ih =>
    obtain ⟨g', x'⟩ := a
    rw [popR] at h
    split at h
    · exact ih h
    · rename_i hx
      injection h with h1 h2
      injection h1 with h3 h4
      rw [← h4]; exact hx
theorem Fine.push {st : List (Nat × Int)} (h : Fine st) {i : Nat} {f : F} (hc : f.c ≤ 9223372036854775807) : Fine (pushR i f st) := by
  unfold pushR
  split
  · rename_i hk
    intro e he
    rcases List.mem_cons.1 he with rfl | he
    · exact ⟨by simp only; omega, hc⟩
    · exact h e he
  · exact h

end Go.Proofs.Ytfdmbpfpdijpdaa

namespace Go.Proofs.Ytfdmbpfpdijpdaa
open Go.RowKit
set_option linter.unusedVariables false

abbrev nilS : Value := .slice none 0 0

/-- Those of the first m whose group is g. -/
def kidsU (ps : List Int) (m g : Nat) : List Int := ((List.range m).filter fun i => ps.getD i 0 == (g : Int)).map fun (i : Nat) => (i : Int)

theorem kidsU_zero (ps : List Int) (g : Nat) : kidsU ps 0 g = [] := rfl

theorem kidsU_succ (ps : List Int) (m g : Nat) : kidsU ps (m + 1) g = if ps.getD m 0 = (g : Int) then kidsU ps m g ++ [(m : Int)] else kidsU ps m g := by
  unfold kidsU
  rw [List.range_succ, List.filter_append, List.map_append]
  split
  · rename_i h
    rw [List.getD] at h
    simp [h]
  · rename_i h
    rw [List.getD] at h
    simp [h]

theorem kidsU_len (ps : List Int) (m g : Nat) : (kidsU ps m g).length ≤ m := by
  unfold kidsU
  rw [List.length_map]
  exact Nat.le_trans (List.length_filter_le _ _) (by simp)

theorem blk_of_own {w : World} {B T g n cap : Nat} {xs : List Value} (h : w.ownsRow B T 1 (.slice (some ⟨g, 0, none⟩) n cap) n xs) (hc : cap = n) : w.heap[g]? = some (.cells xs.toArray T (0, 0)) := by
  obtain ⟨hl, h1⟩ := h
  rcases h1 with ⟨he, hn⟩ | ⟨g', cap', cur, he, _, hg, hcc, hm, hs, ht⟩
  · cases he
  · injection he with e1 e2 e3
    injection e1 with e1
    injection e1 with e1
    subst e1 e3 hc
    rw [hg]
    have hcur : cur = xs.toArray := by
      apply Array.ext'
      rw [← ht]
      simp at hl hs ⊢
      rw [List.take_of_length_le (by simp; omega)]
    rw [hcur]

theorem info_ints : ∃ i, Try.prog.info? 22 = some i ∧ i.zero = some nilS ∧ i.size = 1 ∧ i.bytes = 24 :=
  info_parts (show (Try.prog.info? 22).map (fun i => (i.zero, i.size, i.bytes)) = some (some nilS, 1, 24) by kernel_rfl)

theorem cells_zeros (n : Nat) : (madeCells #[nilS] n).toList = List.replicate n nilS := by
  rw [toList_madeCells_one]

/-- How kids stands once i fields have been looked at. -/
structure KJ (l : List F) (w wi : World) (g gp i : Nat) (R : List Value) : Prop where
  lr : R.length = l.length
  gb : w.heap.size ≤ g
  bl : wi.heap[g]? = some (.cells R.toArray 22 (0, 0))
  cg : Chg [] w wi
  ow : ∀ j, j < l.length → wi.ownsRow w.heap.size 3 1 (R.getD j nilS) (kidsU (parents l) i j).length (iv (kidsU (parents l) i j))
  sp : ∀ j k, j < l.length → k < l.length → j ≠ k → Sep (R.getD j nilS) (R.getD k nilS)
  ne : ∀ j, j < l.length → (R.getD j nilS).ownBlock ≠ some g
  np : ∀ j, j < l.length → (R.getD j nilS).ownBlock ≠ some gp
  bp : BlkI wi gp (parents l)
  gg : gp ≠ g

theorem KJ.skip {l : List F} {w wi w' : World} {g gp i : Nat} {R : List Value} (h : KJ l w wi g gp i R) (hp : (parents l).getD i 0 = -1) (hc : Chg [] wi w') : KJ l w w' g gp (i + 1) R := by
  refine ⟨h.lr, h.gb, hc.heap h.bl (by simp), h.cg.trans hc (by simp), fun j hj => ?_, h.sp, h.ne, h.np, h.bp.chg hc (by simp), h.gg⟩
  have e : kidsU (parents l) (i + 1) j = kidsU (parents l) i j := by rw [kidsU_succ, if_neg (by rw [hp]; omega)]
  rw [e]
  exact own_chg (h.ow j hj) hc (by simp)

theorem getD_setV (R : List Value) (p j : Nat) (v d : Value) (hp : p < R.length) : (R.set p v).getD j d = if j = p then v else R.getD j d := by
  split
  · rename_i h
    subst h
    rw [List.getD, List.getElem?_set_self hp]; rfl
  · rename_i h
    rw [List.getD, List.getElem?_set_ne (fun e => h e.symm), List.getD]

theorem KJ.put {l : List F} {w wi W w2 w3 : World} {g gp i p : Nat} {R : List Value} {v : Value} (h : KJ l w wi g gp i R) (hp : (parents l).getD i 0 = (p : Int)) (hpl : p < l.length)
    (C1 : Chg [] wi W) (h2 : w2.ownsRow w.heap.size 3 1 v ((kidsU (parents l) i p).length + 1) (iv (kidsU (parents l) i p) ++ [.int .i64 (i : Int)])) (g2 : W.grownBy w2 (R.getD p nilS).ownBlock) (a2 : v.ownBlock = (R.getD p nilS).ownBlock ∨ v.ownBlock = some W.heap.size)
    (hw3 : w3 = w2.setCell ⟨g, p, none⟩ v) : KJ l w w3 g gp (i + 1) (R.set p v) := by
  subst hw3
  have hW : ∀ {j}, j < l.length → W.ownsRow w.heap.size 3 1 (R.getD j nilS) (kidsU (parents l) i j).length (iv (kidsU (parents l) i j)) := fun hj => own_chg (h.ow _ hj) C1 (by simp)
  have hgW : W.heap[g]? = some (.cells R.toArray 22 (0, 0)) := C1.heap h.bl (by simp)
  have hg2 : w2.heap[g]? = some (.cells R.toArray 22 (0, 0)) := (g2.block g (Go.lt_of_block hgW) (fun e => h.ne p hpl e.symm)).trans hgW
  have hgl : g < W.heap.size := Go.lt_of_block hgW
  have hvg : v.ownBlock ≠ some g := by
    rcases a2 with e | e
    · rw [e]; exact h.ne p hpl
    · rw [e]; intro e2; injection e2 with e2; omega
  have hpW : BlkI W gp (parents l) := h.bp.chg C1 (by simp)
  have hp2 : BlkI w2 gp (parents l) := (g2.block gp hpW.lt (fun e => h.np p hpl e.symm)).trans hpW
  have hpl2 : gp < W.heap.size := hpW.lt
  have hvp : v.ownBlock ≠ some gp := by
    rcases a2 with e | e
    · rw [e]; exact h.np p hpl
    · rw [e]; intro e2; injection e2 with e2; omega
  have hk : Chg [g] w2 (w2.setCell ⟨g, p, none⟩ v) := (Chg.refl [g] w2).setCell (by simp) _
  refine ⟨by simp [h.lr], h.gb, ?_, ?_, fun j hj => ?_, fun j k hj hk' hjk => ?_, fun j hj => ?_, fun j hj => ?_, hp2.far (by simpa using h.gg) _, h.gg⟩
  · rw [heap_set hg2]; simp
  · exact ((h.cg.trans C1 (by simp)).grown g2 (fun q hq => .inr (own_ge (h.ow p hpl) q hq))).setCell (.inr h.gb) _
  · rw [getD_setV _ _ _ _ _ (by rw [h.lr]; exact hpl), kidsU_succ]
    by_cases hjp : j = p
    · subst hjp
      rw [if_pos rfl, if_pos hp]
      have := own_chg h2 hk (by intro q hq hm; simp at hm; rw [hm] at hq; exact hvg hq)
      rw [iv_snoc] at this
      simpa using this
    · rw [if_neg hjp, if_neg (by rw [hp]; omega)]
      exact own_chg (own_kept (hW hj) g2 (h.sp j p hj hpl hjp)) hk (by intro q hq hm; simp at hm; rw [hm] at hq; exact h.ne j hj hq)
  · rw [getD_setV _ _ _ _ _ (by rw [h.lr]; exact hpl), getD_setV _ _ _ _ _ (by rw [h.lr]; exact hpl)]
    by_cases h1 : j = p
    · rw [if_pos h1, if_neg (by omega)]
      exact (h.sp p k hpl hk' (by omega)).grow a2 (own_lt (hW hk'))
    · rw [if_neg h1]
      by_cases h2' : k = p
      · rw [if_pos h2']
        exact ((h.sp p j hpl hj (by omega)).grow a2 (own_lt (hW hj))).symm
      · rw [if_neg h2']; exact h.sp j k hj hk' hjk
  · rw [getD_setV _ _ _ _ _ (by rw [h.lr]; exact hpl)]
    by_cases h1 : j = p
    · rw [if_pos h1]; exact hvg
    · rw [if_neg h1]; exact h.ne j hj
  · rw [getD_setV _ _ _ _ _ (by rw [h.lr]; exact hpl)]
    by_cases h1 : j = p
    · rw [if_pos h1]; exact hvp
    · rw [if_neg h1]; exact h.np j hj

/-- A row of rows: what is in each field. -/
def KidsM (w : World) (g : Nat) (l : List F) : Prop := ∃ R : List Value, R.length = l.length ∧ w.heap[g]? = some (.cells R.toArray 22 (0, 0)) ∧ ∀ j, j < l.length → SeenI w (R.getD j nilS) (kidsU (parents l) l.length j)

theorem seenI_of_own {w : World} {B n : Nat} {v : Value} {l : List Int} (h : w.ownsRow B 3 1 v n (iv l)) (hn : n = l.length) : SeenI w v l := by
  have hr := reads_of_own h
  subst hn
  have hsh := hr.shape
  rw [show (iv l).length = l.length by simp [iv]] at hsh
  obtain ⟨ao, cap, rfl, hc1, hc2⟩ := hsh
  refine ⟨ao, cap, rfl, hc1, hc2, fun hn => ?_⟩
  obtain ⟨g, rfl, -, -, -, hc⟩ := own_ptr h hn
  refine ⟨g, 0, rfl, fun j x i u hx hu => ?_⟩
  have hi : i = 0 := by
    cases i with
    | zero => rfl
    | succ i => simp [ic] at hu
  subst hi
  simp [ic] at hu
  subst hu
  have := hc j (.int .i64 x) (by simp [iv, hx])
  simpa using this

theorem KJ.out {l : List F} {w wi : World} {g gp : Nat} {R : List Value} (h : KJ l w wi g gp l.length R) : KidsM wi g l :=
  ⟨R, h.lr, h.bl, fun j hj => seenI_of_own (h.ow j hj) rfl⟩

theorem KidsM.chg {w w' : World} {g : Nat} {l : List F} (h : KidsM w g l) (hc : Chg [] w w') : KidsM w' g l := by
  obtain ⟨R, h1, h2, h3⟩ := h
  exact ⟨R, h1, hc.heap h2 (by simp), fun j hj => (h3 j hj).keep hc⟩

end Go.Proofs.Ytfdmbpfpdijpdaa

namespace Go.Proofs.Ytfdmbpfpdijpdaa
open Go.RowKit
set_option linter.unusedVariables false
set_option linter.unusedSimpArgs false

/-- What is said of a forest's fields. -/
def Fo.wf : Fo → Prop
  | .nil => True
  | .leaf f t => 1 ≤ f.k ∧ f.k ≤ 4 ∧ t.wf
  | .group f k t => f.k = 0 ∧ f.c = k.num ∧ k.wf ∧ t.wf

theorem fo_wf : ∀ fo : Fo, fo.ok → (∀ f ∈ fo.flat, 0 ≤ f.k ∧ f.k ≤ 4) → fo.wf
  | .nil, _, _ => trivial
  | .leaf f t, ⟨h1, h2, h3⟩, h => ⟨by have := (h f (by simp [Fo.flat])).1; omega, (h f (by simp [Fo.flat])).2, fo_wf t h3 fun x hx => h x (by simp [Fo.flat, hx])⟩
  | .group f k t, ⟨h1, h2, h3, h4⟩, h => ⟨h1, h2, fo_wf k h3 fun x hx => h x (by simp [Fo.flat, hx]), fo_wf t h4 fun x hx => h x (by simp [Fo.flat, hx])⟩

/-- A made schema is a group of a forest. -/
theorem mk_wf (ns : List Int) : ∃ (r : F) (fo : Fo), mk ns = r :: fo.flat ∧ r.k = 0 ∧ r.c = fo.num ∧ fo.wf ∧ r.r = 0 := by
  obtain ⟨r, fo, h1, h2, h3, h4, h5, -⟩ := mk_forest ns
  refine ⟨r, fo, h1, h2, h3, fo_wf fo h4 fun f hf => ?_, h5⟩
  obtain ⟨j, hj⟩ := List.mem_iff_getElem?.1 (show f ∈ mk ns by rw [h1]; simp [hf])
  have := (mk_fields ns j f hj).1
  omega

theorem Fo.num_le : ∀ k : Fo, k.num ≤ k.flat.length
  | .nil => Nat.le_refl _
  | .leaf f t => by have := t.num_le; simp [Fo.num, Fo.flat]; omega
  | .group f k t => by have := t.num_le; simp [Fo.num, Fo.flat]; omega

theorem dr_next {l r : List F} {i : Nat} {f : F} (h : l.drop i = f :: r) : i < l.length ∧ l.getD i default = f ∧ l.drop (i + 1) = r := by
  have ha : i < l.length := by
    by_cases ha : i < l.length
    · exact ha
    · rw [List.drop_of_length_le (by omega)] at h; cases h
  rw [List.drop_eq_getElem_cons ha] at h
  injection h with h1 h2
  exact ⟨ha, by rw [List.getD, List.getElem?_eq_getElem ha]; exact h1, h2⟩

theorem kidsU_low (l : List F) (at' : Nat) : ∀ m, m ≤ at' + 1 → m ≤ l.length → kidsU (parents l) m at' = []
  | 0, _, _ => rfl
  | m + 1, h, hl => by
    have hx : (parents l)[m]? = some ((parents l).getD m 0) := by rw [List.getD, List.getElem?_eq_getElem (by rw [parents_length]; omega)]; rfl
    have := parents_lt hx
    rw [kidsU_succ, if_neg (by omega)]
    exact kidsU_low l at' m (by omega) (by omega)

end Go.Proofs.Ytfdmbpfpdijpdaa

namespace Go.Proofs.Ytfdmbpfpdijpdaa
open Go.RowKit
set_option linter.unusedVariables false
set_option linter.unusedSimpArgs false

/-- Where a forest's own fields begin. -/
def tops (i : Nat) : Fo → List Int
  | .nil => []
  | .leaf f t => (i : Int) :: tops (i + 1) t
  | .group f k t => (i : Int) :: tops (i + 1 + k.flat.length) t
/-- In which group each field of a forest is. -/
def pf (i p : Nat) : Fo → List Int
  | .nil => []
  | .leaf f t => (p : Int) :: pf (i + 1) p t
  | .group f k t => (p : Int) :: (pf (i + 1) i k ++ pf (i + 1 + k.flat.length) p t)

theorem pf_len : ∀ (fo : Fo) (i p : Nat), (pf i p fo).length = fo.flat.length
  | .nil, i, p => rfl
  | .leaf f t, i, p => by simp [pf, Fo.flat, pf_len t]
  | .group f k t, i, p => by simp [pf, Fo.flat, pf_len k, pf_len t]
theorem tops_len : ∀ (fo : Fo) (i : Nat), (tops i fo).length = fo.num
  | .nil, i => rfl
  | .leaf f t, i => by simp [tops, Fo.num, tops_len t]
  | .group f k t, i => by simp [tops, Fo.num, tops_len t]

theorem par_fo9 : ∀ (fo : Fo) (i p : Nat) (x : Int) (st : List (Nat × Int)) (rest : List F), fo.wf → 0 ≤ x → par i (fo.flat ++ rest) ((p, fo.num + x) :: st) = pf i p fo ++ par (i + fo.flat.length) rest ((p, x) :: st)
  | .nil, i, p, x, st, rest, _, _ => by simp [Fo.flat, Fo.num, pf]
  | .leaf f t, i, p, x, st, rest, ⟨h1, h2, h3⟩, hx => by
    have e : (((Fo.leaf f t).num : Nat) : Int) = (t.num : Int) + 1 := by simp [Fo.num]
    have hp : popS ((p, ((Fo.leaf f t).num : Int) + x) :: st) = (p, ((Fo.leaf f t).num : Int) + x) :: st := by rw [popS, if_neg (by omega)]
    have ih := par_fo9 t (i + 1) p x st rest h3 hx
    rw [Fo.flat, List.cons_append, par, hp]
    simp only [topS, decS, pf, pushS, List.cons_append, List.length_cons]
    rw [if_neg (by omega), show ((Fo.leaf f t).num : Int) + x - 1 = (t.num : Int) + x by omega, ih, show i + 1 + t.flat.length = i + (t.flat.length + 1) by omega]
  | .group f k t, i, p, x, st, rest, ⟨h1, h2, h3, h4⟩, hx => by
    have e : (((Fo.group f k t).num : Nat) : Int) = (t.num : Int) + 1 := by simp [Fo.num]
    have hp : popS ((p, ((Fo.group f k t).num : Int) + x) :: st) = (p, ((Fo.group f k t).num : Int) + x) :: st := by rw [popS, if_neg (by omega)]
    have ih1 := par_fo9 k (i + 1) i 0 ((p, (t.num : Int) + x) :: st) (t.flat ++ rest) h3 (Int.le_refl 0)
    have ih2 := par_fo9 t (i + 1 + k.flat.length) p x st rest h4 hx
    have hz : par (i + 1 + k.flat.length) (t.flat ++ rest) ((i, 0) :: (p, (t.num : Int) + x) :: st) = par (i + 1 + k.flat.length) (t.flat ++ rest) ((p, (t.num : Int) + x) :: st) := by
      rw [← par_pop _ _ ((i, 0) :: (p, (t.num : Int) + x) :: st), popS, if_pos (by decide), par_pop]
    rw [Fo.flat, List.cons_append, par, hp]
    simp only [topS, decS, pf, pushS, List.cons_append, List.append_assoc, List.length_cons, List.length_append]
    rw [if_pos h1, show ((Fo.group f k t).num : Int) + x - 1 = (t.num : Int) + x by omega, h2]
    rw [Int.add_zero] at ih1
    rw [ih1, hz, ih2, show i + 1 + k.flat.length + t.flat.length = i + (k.flat.length + t.flat.length + 1) by omega]

/-- Where a number stands in a row. -/
def idx : Nat → List Int → Int → List Int
  | _, [], _ => []
  | i, x :: L, g => if x = g then (i : Int) :: idx (i + 1) L g else idx (i + 1) L g

theorem idx_append : ∀ (A B : List Int) (i : Nat) (g : Int), idx i (A ++ B) g = idx i A g ++ idx (i + A.length) B g
  | [], B, i, g => rfl
  | x :: A, B, i, g => by
    rw [List.cons_append, idx, idx, idx_append A B (i + 1) g, show i + 1 + A.length = i + (x :: A).length by simp; omega]
    split <;> simp
theorem idx_none : ∀ (A : List Int) (i : Nat) (g : Int), (∀ x ∈ A, x ≠ g) → idx i A g = []
  | [], _, _, _ => rfl
  | x :: A, i, g, h => by rw [idx, if_neg (h x (by simp)), idx_none A (i + 1) g fun y hy => h y (by simp [hy])]

theorem kidsU_idx (P : List Int) (g : Nat) : ∀ n, n ≤ P.length → kidsU P n g = idx 0 (P.take n) (g : Int)
  | 0, _ => rfl
  | n + 1, h => by
    have e : P.take (n + 1) = P.take n ++ [P.getD n 0] := by
      rw [List.take_add_one, List.getElem?_eq_getElem (by omega)]
      simp [List.getD, List.getElem?_eq_getElem (show n < P.length by omega)]
    rw [kidsU_succ, kidsU_idx P g n (by omega), e, idx_append]
    simp only [idx, List.length_take, Nat.min_eq_left (show n ≤ P.length by omega), Nat.zero_add]
    split <;> simp

theorem pf_vals : ∀ (fo : Fo) (i p : Nat), ∀ x ∈ pf i p fo, x = (p : Int) ∨ (i : Int) ≤ x ∧ x < (i : Int) + fo.flat.length
  | .nil, i, p, x, hx => by simp [pf] at hx
  | .leaf f t, i, p, x, hx => by
    simp only [pf, List.mem_cons] at hx
    rcases hx with rfl | hx
    · exact .inl rfl
    · have := pf_vals t (i + 1) p x hx
      simp [Fo.flat]; omega
  | .group f k t, i, p, x, hx => by
    simp only [pf, List.mem_cons, List.mem_append] at hx
    rcases hx with rfl | hx | hx
    · exact .inl rfl
    · have := pf_vals k (i + 1) i x hx
      simp [Fo.flat]; omega
    · have := pf_vals t (i + 1 + k.flat.length) p x hx
      simp [Fo.flat]; omega

theorem idx_self : ∀ (fo : Fo) (i p : Nat), p < i → idx i (pf i p fo) (p : Int) = tops i fo
  | .nil, i, p, _ => rfl
  | .leaf f t, i, p, h => by rw [pf, idx, if_pos rfl, idx_self t (i + 1) p (by omega), tops]
  | .group f k t, i, p, h => by
    rw [pf, idx, if_pos rfl, idx_append, idx_none (pf (i + 1) i k) _ _ (fun x hx => by have := pf_vals k (i + 1) i x hx; omega), List.nil_append, pf_len, idx_self t _ p (by omega), tops]

/-- Each group of a forest has its fields in l where they stand. -/
def HasK (l : List F) : Nat → Fo → Prop
  | _, .nil => True
  | i, .leaf f t => l.getD i default = f ∧ HasK l (i + 1) t
  | i, .group f k t => l.getD i default = f ∧ kidsU (parents l) l.length i = tops (i + 1) k ∧ HasK l (i + 1) k ∧ HasK l (i + 1 + k.flat.length) t

theorem hasK_of (l : List F) : ∀ (fo : Fo) (i p : Nat) (rest : List F), p < i → l.drop i = fo.flat ++ rest → (∀ j, i ≤ j → j < i + fo.flat.length → kidsU (parents l) l.length j = idx i (pf i p fo) (j : Int)) → HasK l i fo
  | .nil, _, _, _, _, _, _ => trivial
  | .leaf f t, i, p, rest, hp, hd, H => by
    obtain ⟨-, h1, h2⟩ := dr_next hd
    refine ⟨h1, hasK_of l t (i + 1) p rest (by omega) h2 fun j h3 h4 => ?_⟩
    rw [H j (by omega) (by simp [Fo.flat]; omega), pf, idx, if_neg (by omega)]
  | .group f k t, i, p, rest, hp, hd, H => by
    rw [Fo.flat, List.cons_append, List.append_assoc] at hd
    obtain ⟨-, h1, h2⟩ := dr_next hd
    have h3 : l.drop (i + 1 + k.flat.length) = t.flat ++ rest := by rw [← List.drop_drop, h2]; simp
    have hv := pf_vals k (i + 1) i
    have hw := pf_vals t (i + 1 + k.flat.length) p
    refine ⟨h1, ?_, hasK_of l k (i + 1) i (t.flat ++ rest) (by omega) h2 fun j h4 h5 => ?_, hasK_of l t (i + 1 + k.flat.length) p rest (by omega) h3 fun j h4 h5 => ?_⟩
    · rw [H i (Nat.le_refl _) (by simp [Fo.flat]), pf, idx, if_neg (by omega), idx_append, idx_self k (i + 1) i (by omega), idx_none _ _ _ (fun x hx => by have := hw x hx; omega), List.append_nil]
    · rw [H j (by omega) (by simp [Fo.flat]; omega), pf, idx, if_neg (by omega), idx_append, pf_len, idx_none (pf (i + 1 + k.flat.length) p t) _ _ (fun x hx => by have := hw x hx; omega), List.append_nil]
    · rw [H j (by omega) (by simp [Fo.flat]; omega), pf, idx, if_neg (by omega), idx_append, pf_len, idx_none (pf (i + 1) i k) _ _ (fun x hx => by have := hv x hx; omega), List.nil_append]

/-- Of a schema that is a group of a forest. -/
theorem hasK_root {l : List F} {r0 : F} {fo : Fo} (hl : l = r0 :: fo.flat) (hr1 : r0.k = 0) (hr3 : r0.c = fo.num) (hw : fo.wf) : parents l = -1 :: pf 1 0 fo ∧ kidsU (parents l) l.length 0 = tops 1 fo ∧ HasK l 1 fo := by
  have hp : parents l = -1 :: pf 1 0 fo := by
    have h := par_fo9 fo 1 0 0 [] [] hw (Int.le_refl 0)
    rw [List.append_nil, Int.add_zero] at h
    rw [hl]
    unfold parents
    rw [par]
    simp only [popS, topS, decS, pushS]
    rw [if_pos hr1, hr3, h]
    simp [par]
  have hlen : (parents l).length = l.length := parents_length l
  have hk : ∀ j : Nat, kidsU (parents l) l.length j = idx 1 (pf 1 0 fo) (j : Int) := fun j => by
    rw [kidsU_idx (parents l) j l.length (by omega), List.take_of_length_le (by omega), hp, idx, if_neg (by omega)]
  refine ⟨hp, by rw [hk 0]; exact idx_self fo 1 0 (by omega), hasK_of l fo 1 0 [] (by omega) (by rw [hl]; simp) fun j _ _ => hk j⟩

end Go.Proofs.Ytfdmbpfpdijpdaa

namespace Go.Proofs.Ytfdmbpfpdijpdaa
open Go.RowKit
set_option linter.unusedVariables false
set_option linter.unusedSimpArgs false

/-- What the reference's Parents answers (proved where its walk is). -/
def RParents : Prop := ∀ (sl : Value) (l : List F) (w : World), SeenF w sl l → l.length ≤ 1000000 → (∀ f ∈ l, f.c ≤ 9223372036854775807) →
  Calls Try.prog 52 #[sl] w fun e w' => ∃ v, e = .returned v ∧ SeenI w' v (parents l) ∧ Chg [] w w'

end Go.Proofs.Ytfdmbpfpdijpdaa

namespace Go.Proofs.Ytfdmbpfpdijpdaa
open Go.RowKit
set_option linter.unusedVariables false
set_option linter.unusedSimpArgs false

/-- No field is faulty. -/
def Good (l : List F) : Prop := ∀ j, j < l.length → faultN l (parents l) (depths l) j = 0

theorem chk_good {l : List F} (h : chk l = 0) : Good l := by
  unfold chk at h
  split at h
  · cases h
  · split at h
    · rename_i h1; exact absurd h h1
    · rename_i h1
      exact fun j hj => firstN_all (by omega) j hj

theorem Good.par {l : List F} (h : Good l) {j : Nat} (hj : j < l.length) (h0 : 0 < j) : ∃ p : Nat, p < j ∧ (parents l)[j]? = some (p : Int) ∧ (parents l).getD j 0 = (p : Int) := by
  have hx : (parents l)[j]? = some ((parents l).getD j 0) := by rw [List.getD, List.getElem?_eq_getElem (by simpa using hj)]; rfl
  have hn := no_fault (h j hj) h0
  rcases parents_lt hx with h1 | ⟨h1, h2⟩
  · exact absurd h1 hn
  · exact ⟨((parents l).getD j 0).toNat, by omega, by rw [hx]; congr 1; omega, by omega⟩

end Go.Proofs.Ytfdmbpfpdijpdaa
