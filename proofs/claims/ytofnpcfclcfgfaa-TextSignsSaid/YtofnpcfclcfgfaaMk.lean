/- What the statements' Make makes, as lists. -/
import Derived.Test.YtofnpcfclcfgfaaDp
import Derived.Test.YtofnpcfclcfgfaaMo
namespace Go.Proofs.Ytofnpcfclcfgfaa
open Go.RowKit
set_option linter.unusedVariables false

/-- One field more in group g. -/
def bump (s : List F) (g : Nat) : List F := s.set g { s.getD g default with c := (s.getD g default).c + 1 }
@[simp] theorem bump_length (s : List F) (g : Nat) : (bump s g).length = s.length := by simp [bump]

/-- Up to k groups are left, the innermost first, as long as they have fields; the root never. -/
def popK : Nat → List F → List Nat → List Nat
  | 0, _, o => o
  | _ + 1, _, [] => []
  | k + 1, s, g :: t => if t ≠ [] ∧ 0 < (s.getD g default).c then popK k s t else g :: t

def kindM (x : Int) (o : List Nat) : Int := if 4 < o.length ∧ (x % 8) % 5 = 0 then 2 else (x % 8) % 5
def fieldM (i : Nat) (x : Int) (o : List Nat) : F := ⟨str [97 + i], (x.tdiv 8) % 3, kindM x o, 0⟩

structure MS where
  s : List F
  o : List Nat

def stepM (i : Nat) (x : Int) (m : MS) : MS :=
  let o := popK ((x.tdiv 64) % 3).toNat m.s m.o
  { s := bump m.s (o.headD 0) ++ [fieldM i x o], o := if kindM x o = 0 then m.s.length :: o else o }

def goM : List Int → Nat → MS → MS
  | [], _, m => m
  | x :: l, i, m => if i < 12 then goM l (i + 1) (stepM i x m) else m

def finM (m : MS) : List F := if (m.s.getD (m.o.headD 0) default).c = 0 then bump m.s (m.o.headD 0) ++ [⟨bz, 0, 4, 0⟩] else m.s

def startM : MS := { s := [⟨bm, 0, 0, 0⟩], o := [0] }
def mk (ns : List Int) : List F := finM (goM ns 0 startM)

/-- The groups that are open are fields, each within the next one; the root is the last. -/
structure Okm (i : Nat) (m : MS) : Prop where
  len : m.s.length = i + 1
  ne : m.o ≠ []
  lt : ∀ g ∈ m.o, g < i + 1
  sm : m.o.length ≤ 5
  cb : ∀ f ∈ m.s, 0 ≤ f.c ∧ f.c ≤ i

theorem popK_sub (k : Nat) (s : List F) (o : List Nat) : popK k s o ≠ [] ∨ o = [] := by
  induction k generalizing o with
  | zero => cases o <;> simp [popK]
  | succ k ih =>
    cases o with
    | nil => exact .inr rfl
    | cons g t =>
      left
      simp only [popK]
      split
      · rename_i h
        rcases ih t with h1 | h1
        · exact h1
        · exact absurd h1 h.1
      · simp

theorem popK_suffix (k : Nat) (s : List F) (o : List Nat) : popK k s o <:+ o := by
  induction k generalizing o with
  | zero => exact List.suffix_refl o
  | succ k ih =>
    cases o with
    | nil => exact List.suffix_refl []
    | cons g t =>
      simp only [popK]
      split
      · exact (ih t).trans (List.suffix_cons g t)
      · exact List.suffix_refl _

theorem Okm.start : Okm 0 startM := ⟨rfl, by simp [startM], by simp [startM], by simp [startM], by simp [startM]⟩

theorem bump_c {s : List F} {g i : Nat} (hs : ∀ f ∈ s, 0 ≤ f.c ∧ f.c ≤ i) (hg : g < s.length) : ∀ f ∈ bump s g, 0 ≤ f.c ∧ f.c ≤ (i + 1 : Nat) := by
  intro f hf
  rcases List.mem_or_eq_of_mem_set hf with h1 | rfl
  · have := hs f h1; omega
  · have h2 : s.getD g default ∈ s := by rw [List.getD, List.getElem?_eq_getElem hg]; exact List.getElem_mem hg
    have := hs _ h2
    simp only
    omega

theorem headD_mem {o : List Nat} (h : o ≠ []) : o.headD 0 ∈ o := by
  cases o with
  | nil => exact absurd rfl h
  | cons g t => simp

theorem Okm.step {i : Nat} {m : MS} (h : Okm i m) (x : Int) : Okm (i + 1) (stepM i x m) := by
  have hsuf := popK_suffix ((x.tdiv 64) % 3).toNat m.s m.o
  have hne : popK ((x.tdiv 64) % 3).toNat m.s m.o ≠ [] := by
    rcases popK_sub ((x.tdiv 64) % 3).toNat m.s m.o with h1 | h1
    · exact h1
    · exact absurd h1 h.ne
  have hlt : ∀ g ∈ popK ((x.tdiv 64) % 3).toNat m.s m.o, g < i + 1 := fun g hg => h.lt g (hsuf.subset hg)
  have hlen := hsuf.length_le
  have hsm := h.sm
  unfold stepM
  simp only
  refine ⟨by simp [h.len], ?_, ?_, ?_, ?_⟩
  · simp only
    split
    · simp
    · exact hne
  · simp only
    intro g hg
    split at hg
    · rcases List.mem_cons.1 hg with rfl | h1
      · rw [h.len]; omega
      · have := hlt g h1; omega
    · have := hlt g hg; omega
  · simp only
    split
    · rename_i hk
      rw [List.length_cons]
      unfold kindM at hk
      split at hk
      · cases hk
      · rename_i hnn
        have : ¬ (4 < (popK ((x.tdiv 64) % 3).toNat m.s m.o).length) := fun h4 => hnn ⟨h4, hk⟩
        omega
    · omega
  · simp only
    intro f hf
    rcases List.mem_append.1 hf with h1 | h1
    · exact bump_c h.cb (by have := hlt _ (headD_mem hne); rw [h.len]; exact this) f h1
    · simp only [List.mem_singleton] at h1
      subst h1
      simp only [fieldM]
      omega

end Go.Proofs.Ytofnpcfclcfgfaa
