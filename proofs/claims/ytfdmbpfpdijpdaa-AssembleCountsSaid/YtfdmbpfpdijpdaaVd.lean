/- The reference's striping: how it stands; a cell. -/
import Derived.Test.YtfdmbpfpdijpdaaVa
import Derived.Test.YtfdmbpfpdijpdaaA1
import Derived.Test.YtfdmbpfpdijpdaaMp
namespace Go.Proofs.Ytfdmbpfpdijpdaa
open Go.RowKit
set_option linter.unusedVariables false
set_option linter.unusedSimpArgs false

/-! ### rows that are laid beside -/

/-- At n * 3, n * 3 + 1 and M, M + 1 what has changed so far. -/
def G4 {α : Type} (F : Nat → α) (n M : Nat) (b1 b2 b3 b4 : Bool) (v1 v2 v3 v4 : α) : Nat → α := fun q => if q = n * 3 ∧ b1 = true then v1 else if q = n * 3 + 1 ∧ b2 = true then v2 else if q = M ∧ b3 = true then v3 else if q = M + 1 ∧ b4 = true then v4 else F q

theorem G4_none {α : Type} (F : Nat → α) (n M : Nat) (v1 v2 v3 v4 : α) : G4 F n M false false false false v1 v2 v3 v4 = F := by funext q; simp [G4]
theorem G4_at0 {α : Type} (F : Nat → α) {n M : Nat} (h : n * 3 + 1 < M) {b2 b3 b4 : Bool} {v1 v2 v3 v4 : α} : G4 F n M false b2 b3 b4 v1 v2 v3 v4 (n * 3) = F (n * 3) := by
  unfold G4; rw [if_neg (by simp), if_neg (by omega), if_neg (by omega), if_neg (by omega)]
theorem G4_at1 {α : Type} (F : Nat → α) {n M : Nat} (h : n * 3 + 1 < M) {b1 b3 b4 : Bool} {v1 v2 v3 v4 : α} : G4 F n M b1 false b3 b4 v1 v2 v3 v4 (n * 3 + 1) = F (n * 3 + 1) := by
  unfold G4; rw [if_neg (by omega), if_neg (by simp), if_neg (by omega), if_neg (by omega)]
theorem G4_at2 {α : Type} (F : Nat → α) {n M : Nat} (h : n * 3 + 1 < M) {b1 b2 b4 : Bool} {v1 v2 v3 v4 : α} : G4 F n M b1 b2 false b4 v1 v2 v3 v4 M = F M := by
  unfold G4; rw [if_neg (by omega), if_neg (by omega), if_neg (by simp), if_neg (by omega)]
theorem G4_at3 {α : Type} (F : Nat → α) {n M : Nat} (h : n * 3 + 1 < M) {b1 b2 b3 : Bool} {v1 v2 v3 v4 : α} : G4 F n M b1 b2 b3 false v1 v2 v3 v4 (M + 1) = F (M + 1) := by
  unfold G4; rw [if_neg (by omega), if_neg (by omega), if_neg (by omega), if_neg (by simp)]
theorem G4_v2 {α : Type} (F : Nat → α) {n M : Nat} (h : n * 3 + 1 < M) {b1 b2 b4 : Bool} {v1 v2 v3 v4 : α} : G4 F n M b1 b2 true b4 v1 v2 v3 v4 M = v3 := by
  unfold G4; rw [if_neg (by omega), if_neg (by omega), if_pos ⟨rfl, rfl⟩]
theorem G4_v3 {α : Type} (F : Nat → α) {n M : Nat} (h : n * 3 + 1 < M) {b1 b2 b3 : Bool} {v1 v2 v3 v4 : α} : G4 F n M b1 b2 b3 true v1 v2 v3 v4 (M + 1) = v4 := by
  unfold G4; rw [if_neg (by omega), if_neg (by omega), if_neg (by omega), if_pos ⟨rfl, rfl⟩]
theorem G4_step0 {α : Type} (F : Nat → α) {n M : Nat} (h : n * 3 + 1 < M) (b2 b3 b4 : Bool) (v v1 v2 v3 v4 : α) : ∀ q, G4 F n M true b2 b3 b4 v v2 v3 v4 q = if q = n * 3 then v else G4 F n M false b2 b3 b4 v1 v2 v3 v4 q := by
  intro q
  unfold G4
  by_cases e : q = n * 3
  · subst e; simp
  · simp [e]
theorem G4_step1 {α : Type} (F : Nat → α) {n M : Nat} (h : n * 3 + 1 < M) (b1 b3 b4 : Bool) (v v1 v2 v3 v4 : α) : ∀ q, G4 F n M b1 true b3 b4 v1 v v3 v4 q = if q = n * 3 + 1 then v else G4 F n M b1 false b3 b4 v1 v2 v3 v4 q := by
  intro q
  unfold G4
  by_cases e : q = n * 3 + 1
  · subst e; simp
  · simp [e]
theorem G4_step2 {α : Type} (F : Nat → α) {n M : Nat} (h : n * 3 + 1 < M) (b1 b2 b4 : Bool) (v v1 v2 v3 v4 : α) : ∀ q, G4 F n M b1 b2 true b4 v1 v2 v v4 q = if q = M then v else G4 F n M b1 b2 false b4 v1 v2 v3 v4 q := by
  intro q
  unfold G4
  by_cases e : q = M
  · subst e; rw [if_neg (by omega), if_neg (by omega)]; simp
  · simp [e]
theorem G4_step3 {α : Type} (F : Nat → α) {n M : Nat} (h : n * 3 + 1 < M) (b1 b2 b3 : Bool) (v v1 v2 v3 v4 : α) : ∀ q, G4 F n M b1 b2 b3 true v1 v2 v3 v q = if q = M + 1 then v else G4 F n M b1 b2 b3 false v1 v2 v3 v4 q := by
  intro q
  unfold G4
  by_cases e : q = M + 1
  · subst e; rw [if_neg (by omega), if_neg (by omega), if_neg (by omega)]; simp
  · simp [e]

theorem cell_set_eq {w : World} {g i : Nat} {u : Value} {A : Array Value} {T : TypeId} {fr : Nat × Nat} (hA : w.heap[g]? = some (.cells A T fr)) (h : w.cell? ⟨g, i, none⟩ = some u) (v : Value) : (w.setCell ⟨g, i, none⟩ v).cell? ⟨g, i, none⟩ = some v := by
  rw [cell_of_row w g i _ _ _ hA] at h
  rw [cell_of_row _ g i _ _ _ (heap_set hA v)]
  have := (Array.getElem?_eq_some_iff.1 h).1
  simp [Array.getElem?_setIfInBounds, this]

theorem cell_set_ne {w : World} {g i j : Nat} {u : Value} {A : Array Value} {T : TypeId} {fr : Nat × Nat} (hA : w.heap[g]? = some (.cells A T fr)) (hij : i ≠ j) (h : w.cell? ⟨g, j, none⟩ = some u) (v : Value) : (w.setCell ⟨g, i, none⟩ v).cell? ⟨g, j, none⟩ = some u := by
  rw [cell_of_row w g j _ _ _ hA] at h
  rw [cell_of_row _ g j _ _ _ (heap_set hA v), Array.getElem?_setIfInBounds, if_neg hij]
  exact h

/-- What the slots beside held is named. -/
theorem region_bs {P : Program} {md : Region.Mode} {ops : Array Oper} {Q : Exit → Act → World → Prop} {fuel : Nat} {listed : Array Bool} {a : Act} {w : World} (G : (Nat → Value) → (Nat → Value) → Act) (h : a = G (fun j => a.tmps.getD j undef) (fun j => a.tmps.getD j undef))
    (k : ∀ base u : Nat → Value, (∀ j, base j = a.tmps.getD j undef) → wpAny P md ops Q fuel listed (G base u) w) : wpAny P md ops Q fuel listed a w := by
  have h2 := k (fun j => a.tmps.getD j undef) (fun j => a.tmps.getD j undef) (fun _ => rfl)
  rw [← h] at h2
  exact h2

/-- The blocks that may change. -/
def T18 (g : Nat) (a b : Value) : List Nat := g :: (a.ownBlock.toList ++ b.ownBlock.toList)

def T19 (g : Nat) (a b c : Value) : List Nat := g :: (a.ownBlock.toList ++ b.ownBlock.toList ++ c.ownBlock.toList)

theorem arr3 {A : Array Value} {F : Nat → Value} {M p : Nat} (h : ∀ q, q < M → A[q]? = some (F q)) (hp : p + 2 < M) (v1 v2 v3 : Value) (q : Nat) (hq : q < M) :
    (((A.setIfInBounds p v1).setIfInBounds (p + 1) v2).setIfInBounds (p + 2) v3)[q]? = some (if q = p + 2 then v3 else if q = p + 1 then v2 else if q = p then v1 else F q) := by
  have hs : ∀ r, r < M → r < A.size := fun r hr => (Array.getElem?_eq_some_iff.1 (h r hr)).1
  have h0 := hs p (by omega)
  have h1 := hs (p + 1) (by omega)
  have h2 := hs (p + 2) (by omega)
  simp only [Array.getElem?_setIfInBounds, Array.size_setIfInBounds]
  by_cases e2 : q = p + 2
  · subst e2; rw [if_pos rfl, if_pos h2, if_pos rfl]
  · rw [if_neg (fun e => e2 e.symm), if_neg e2]
    by_cases e1 : q = p + 1
    · subst e1; rw [if_pos rfl, if_pos h1, if_pos rfl]
    · rw [if_neg (fun e => e1 e.symm), if_neg e1]
      by_cases e0 : q = p
      · subst e0; rw [if_pos rfl, if_pos h0, if_pos rfl]
      · rw [if_neg (fun e => e0 e.symm), if_neg e0]; exact h q hq

/-! ### how the striping stands -/

/-- Trees that lie in blocks of their own stay. -/
def KT (w w' : World) : Prop := ∀ (g : Nat) (A : Array Value) (fr : Nat × Nat), w.heap[g]? = some (.cells A 57 fr) → w'.heap[g]? = some (.cells A 57 fr)

theorem KT.refl (w : World) : KT w w := fun _ _ _ h => h
theorem KT.trans {a b c : World} (h : KT a b) (k : KT b c) : KT a c := fun g A fr hg => k g A fr (h g A fr hg)
theorem KT.of {w w' : World} (h : Chg [] w w') : KT w w' := fun g A fr hg => h.heap hg (by simp)
theorem KT.chg {S : List Nat} {w w' : World} (h : Chg S w w') (hS : ∀ g ∈ S, ∀ (A : Array Value) (fr : Nat × Nat), w.heap[g]? ≠ some (.cells A 57 fr)) : KT w w' := fun g A fr hg => h.heap hg (fun hm => hS g hm A fr hg)

/-- Of each field its leaf's number. -/
def lfs (l : List F) : List Int := (List.range l.length).map fun i => if (l.getD i default).k = 0 then -1 else (lno l i : Int)

theorem lfs_len (l : List F) : (lfs l).length = l.length := by simp [lfs]
theorem lfs_at {l : List F} {i : Nat} (hi : i < l.length) (hk : (l.getD i default).k ≠ 0) : (lfs l)[i]? = some (lno l i : Int) := by
  unfold lfs
  rw [List.getElem?_map, List.getElem?_range hi, Option.map_some, if_neg hk]

/-- What is known of it once it began: w1 the world then, wb its struct, cb the row of its columns. -/
structure WK14 (w0 w1 : World) (wb cb N cc : Nat) (l : List F) (sv pv lv rv : Value) : Prop where
  c0 : Chg [] w0 w1
  lo : w0.heap.size ≤ cb
  hb : wb < w1.heap.size
  hc : cb < w1.heap.size
  ne : wb ≠ cb
  nl : N = (leavesL l).length
  n : l.length ≤ 1000
  hw : ∀ w, Chg [cb] w1 w → w.cell? ⟨wb, 0, none⟩ = some sv ∧ w.cell? ⟨wb, 1, none⟩ = some pv ∧ w.cell? ⟨wb, 2, none⟩ = some lv ∧ w.cell? ⟨wb, 3, none⟩ = some rv ∧ w.cell? ⟨wb, 4, none⟩ = some (.slice (some ⟨cb, 0, none⟩) N cc)
  hs : ∀ w, Chg [cb] w1 w → SeenF w sv l
  hp : ∀ w, Chg [cb] w1 w → SeenI w pv (parents l)
  hl : ∀ w, Chg [cb] w1 w → SeenI w lv (lfs l)
  hr : ∀ w, Chg [cb] w1 w → SeenI w rv (rls l)

/-- The columns hold these cells. -/
structure CS (w1 : World) (cb N : Nat) (Ls : List L) (C : Nat → List Cl) (w : World) : Prop where
  ch : Chg [cb] w1 w
  st : ∃ (F : Nat → Value) (A : Array Value), w.heap[cb]? = some (.cells A 42 (0, 0)) ∧ (∀ p, p < N * 3 → A[p]? = some (F p)) ∧ GR w w1.heap.size (N * 3) F (refX Ls C)

theorem CS.keep {w1 w w' : World} {cb N : Nat} {Ls : List L} {C : Nat → List Cl} (h : CS w1 cb N Ls C w) (hc : Chg [] w w') (hcb : cb < w1.heap.size) : CS w1 cb N Ls C w' := by
  obtain ⟨F, A, h1, h2, h3⟩ := h.st
  exact ⟨h.ch.trans hc (by simp), F, A, hc.heap h1 (by simp), h2, h3.keep hc⟩

theorem CS.congr {w1 w : World} {cb N : Nat} {Ls : List L} {C C' : Nat → List Cl} (h : CS w1 cb N Ls C w) (e : ∀ j, C j = C' j) : CS w1 cb N Ls C' w := by
  have : C = C' := funext e
  rwa [← this]

theorem GR.ext {w : World} {B M : Nat} {F F' : Nat → Value} {X X' : Nat → Rw} (h : GR w B M F X) (hF : ∀ p, p < M → F' p = F p) (hX : ∀ p, p < M → X' p = X p) : GR w B M F' X' :=
  ⟨fun p hp => by rw [hF p hp, hX p hp]; exact h.own p hp, fun p q hp hq hne => by rw [hF p hp, hF q hq]; exact h.sep p q hp hq hne⟩

theorem GR.less {w : World} {B M M' : Nat} {F : Nat → Value} {X : Nat → Rw} (h : GR w B M F X) (hM : M' ≤ M) : GR w B M' F X :=
  ⟨fun p hp => h.own p (by omega), fun p q hp hq hne => h.sep p q (by omega) (by omega) hne⟩

/-- Rows of nothing beside. -/
theorem GR.more {w : World} {B M M' : Nat} {F : Nat → Value} {X : Nat → Rw} (h : GR w B M F X) : GR w B M' (fun q => if q < M then F q else nil0) (fun q => if q < M then X q else .i []) := by
  refine ⟨fun p _ => ?_, fun p q _ _ hne => ?_⟩
  · by_cases e : p < M
    · rw [if_pos e, if_pos e]; exact h.own p e
    · rw [if_neg e, if_neg e]; exact OwnR.nil w B _ (.inl rfl)
  · by_cases e : p < M
    · by_cases e2 : q < M
      · rw [if_pos e, if_pos e2]; exact h.sep p q e e2 hne
      · rw [if_neg e2]; exact (Sep.nil _).symm
    · rw [if_neg e]; exact Sep.nil _

abbrev FRC14 (n bc nR nD B M : Nat) (r d : Int) (ro dO : Option Addr) (rc dc : Nat) (vV : Value) (F : Nat → Value) (X : Nat → Rw) (L1 L2 : List Int) (b1 : Nat) (b2 : Nat) (av1 : Option Addr) (cv1 : Nat) (av2 : Option Addr) (cv2 : Nat) (base u : Nat → Value) : Act := { tmps := #[base 0, base 1, .int .i64 r, .int .i64 d, base 4, base 5, base 6, base 7, base 8, base 9, base 10, base 11, .pointer (some ⟨bc, 0, none⟩), base 13, base 14, base 15, base 16, base 17, base 18, base 19, base 20, base 21, base 22, base 23, base 24, base 25, u 26, u 27, u 28, u 29, u 30, u 31, u 32, u 33, u 34, u 35, u 36, u 37, base 38, base 39, base 40, base 41, base 42, base 43, base 44, base 45, base 46, base 47, base 48, base 49, base 50, base 51, base 52, base 53, base 54, base 55, base 56, base 57], defers := [] }

structure RIC14 (n bc nR nD B M : Nat) (r d : Int) (ro dO : Option Addr) (rc dc : Nat) (vV : Value) (F : Nat → Value) (X : Nat → Rw) (L1 L2 : List Int) (wc : World) (b : Nat → Bool) (u : Nat → Value) (b1 : Nat) (b2 : Nat) (av1 : Option Addr) (cv1 : Nat) (av2 : Option Addr) (cv2 : Nat) (w' : World) : Prop where
  c0 : b 0 = true → u 26 = .pointer (some ⟨bc, 0, none⟩)
  c1 : b 1 = true → u 27 = .slice ro nR rc
  c2 : b 2 = true → u 28 = .int .i64 r
  c3 : b 3 = true → u 29 = .slice (some ⟨b1, 0, none⟩) 1 1
  c4 : b 4 = true → u 30 = .slice av1 (nR + 1) cv1
  c5 : b 5 = true → u 31 = .pointer (some ⟨bc, 1, none⟩)
  c6 : b 6 = true → u 32 = .slice dO nD dc
  c7 : b 7 = true → u 33 = .int .i64 d
  c8 : b 8 = true → u 34 = .slice (some ⟨b2, 0, none⟩) 1 1
  c9 : b 9 = true → u 35 = .slice av2 (nD + 1) cv2
  c10 : b 10 = true → u 36 = .pointer (some ⟨bc, 0, none⟩)
  c12 : b 12 = true → u 37 = .pointer (some ⟨bc, 1, none⟩)
  cg : Chg (T18 bc (.slice ro nR rc) (.slice dO nD dc)) wc w'
  gr : GR w' B (M + 2) (G4 F n M (b 4) (b 9) (b 3) (b 8) (.slice av1 (nR + 1) cv1) (.slice av2 (nD + 1) cv2) (.slice (some ⟨b1, 0, none⟩) 1 1) (.slice (some ⟨b2, 0, none⟩) 1 1)) (G4 X n M (b 4) (b 9) (b 3) (b 8) (.i (L1 ++ [r])) (.i (L2 ++ [d])) (.i [r]) (.i [d]))
  bk : ∃ A, w'.heap[bc]? = some (.cells A 42 (0, 0))
  k0f : b 11 = false → w'.cell? ⟨bc, 0, none⟩ = some (.slice ro nR rc)
  k0t : b 11 = true → w'.cell? ⟨bc, 0, none⟩ = some (.slice av1 (nR + 1) cv1)
  k1f : b 13 = false → w'.cell? ⟨bc, 1, none⟩ = some (.slice dO nD dc)
  k1t : b 13 = true → w'.cell? ⟨bc, 1, none⟩ = some (.slice av2 (nD + 1) cv2)
  k2 : w'.cell? ⟨bc, 2, none⟩ = some vV
  z11_4 : b 11 = true → b 4 = true
  z13_9 : b 13 = true → b 9 = true
  z4_1 : b 4 = true → b 1 = true
  z9_6 : b 9 = true → b 6 = true
  z4_3 : b 4 = true → b 3 = true
  z9_8 : b 9 = true → b 8 = true
  z11_1 : b 11 = true → b 1 = true
  z13_6 : b 13 = true → b 6 = true
  z11_3 : b 11 = true → b 3 = true
  z13_8 : b 13 = true → b 8 = true

def JIC14 (n bc nR nD B M : Nat) (r d : Int) (ro dO : Option Addr) (rc dc : Nat) (vV : Value) (F : Nat → Value) (X : Nat → Rw) (L1 L2 : List Int) (base : Nat → Value) (wc : World) (listed : Array Bool) (a' : Act) (w' : World) : Prop :=
  ∃ (b : Nat → Bool) (u : Nat → Value) (b1 : Nat) (b2 : Nat) (av1 : Option Addr) (cv1 : Nat) (av2 : Option Addr) (cv2 : Nat), listed = #[b 0, b 1, b 2, b 3, b 4, b 5, b 6, b 7, b 8, b 9, b 10, b 11, b 12, b 13] ∧ a' = FRC14 n bc nR nD B M r d ro dO rc dc vV F X L1 L2 b1 b2 av1 cv1 av2 cv2 base u ∧ RIC14 n bc nR nD B M r d ro dO rc dc vV F X L1 L2 wc b u b1 b2 av1 cv1 av2 cv2 w'

theorem JIC14_start {n bc nR nD B M : Nat} {r d : Int} {ro dO : Option Addr} {rc dc : Nat} {vV : Value} {F : Nat → Value} {X : Nat → Rw} {L1 L2 : List Int} {wc w' : World} {base u0 : Nat → Value} (hc : Chg (T18 bc (.slice ro nR rc) (.slice dO nD dc)) wc w') (hg0 : GR w' B (M + 2) F X) (hbk0 : ∃ A, w'.heap[bc]? = some (.cells A 42 (0, 0))) (hk0 : w'.cell? ⟨bc, 0, none⟩ = some (.slice ro nR rc)) (hk1 : w'.cell? ⟨bc, 1, none⟩ = some (.slice dO nD dc)) (hk2 : w'.cell? ⟨bc, 2, none⟩ = some vV) : JIC14 n bc nR nD B M r d ro dO rc dc vV F X L1 L2 base wc (Array.replicate 14 false) (FRC14 n bc nR nD B M r d ro dO rc dc vV F X L1 L2 0 0 none 0 none 0 base u0) w' :=
  ⟨fun _ => false, _, 0, 0, none, 0, none, 0, rfl, rfl, by constructor <;> simp [hc, hbk0, hk0, hk1, hk2, G4_none, hg0]⟩

theorem ltC14 : ∀ i : Nat, i < 14 → i = 0 ∨ i = 1 ∨ i = 2 ∨ i = 3 ∨ i = 4 ∨ i = 5 ∨ i = 6 ∨ i = 7 ∨ i = 8 ∨ i = 9 ∨ i = 10 ∨ i = 11 ∨ i = 12 ∨ i = 13 := by intro i h; omega

set_option maxRecDepth 100000 in
set_option maxHeartbeats 8000000 in
theorem rcell14_any {w0 w1 : World} {wb cb N cc : Nat} {l : List F} {sv pv lv rv : Value} (K : WK14 w0 w1 wb cb N cc l sv pv lv rv) (i : Nat) (hi : i < l.length) (hk : (l.getD i default).k ≠ 0) (C : Nat → List Cl) (w : World) (hS : CS w1 cb N (leavesL l) C w) (x : Cl) (has : Bool) (hh : has = decide ((x.d : Int) = (dls l).getD i 0)) (v : V) (hv : has = true → v = ⟨x.t.n, x.t.s⟩) (hbd : (C (lno l i)).length ≤ 1000000) :
    Calls Try.prog 67 #[.pointer (some ⟨wb, 0, none⟩), .int .i64 (i : Int), .int .i64 (x.r : Int), .int .i64 (x.d : Int), vvV v, .bool has] w fun e w' => e = .returned (.tuple #[]) ∧ CS w1 cb N (leavesL l) (fun j => if j = lno l i then C (lno l i) ++ [x] else C j) w' ∧ KT w w' := by
  obtain ⟨i0, hii, hz0, hz1, hz2⟩ := info_int
  obtain ⟨i1, hi1, hy0, hy1, hy2⟩ := info_value
  have hle := leaf_no hi hk
  have hlf := lfs_at hi hk
  obtain ⟨n, hn⟩ : ∃ n, n = lno l i := ⟨_, rfl⟩
  rw [← hn] at hle hlf hbd ⊢
  have hnN : n < N := by rw [K.nl]; exact (List.getElem?_eq_some_iff.1 hle).1
  have hlen := K.n
  obtain ⟨F0, A, hA, hAF, hgr⟩ := hS.st
  obtain ⟨y0, y1, y2, y3, y4⟩ := K.hw w hS.ch
  obtain ⟨lo', lc, rfl, hl1, hl2⟩ := (K.hl w hS.ch).shape
  obtain ⟨lg, loff, rfl, hcell⟩ := (K.hl w hS.ch).at (by rw [lfs_len]; omega)
  rw [lfs_len] at hl1 y2
  have x0 : w.cell? ⟨lg, loff + i, none⟩ = some (.int .i64 (n : Int)) := by simpa using hcell i _ 0 _ hlf rfl
  have hlg : lg < w.heap.size := World.block_lt_of_cell? w _ x0
  have hwb : wb < w.heap.size := Nat.lt_of_lt_of_le K.hb hS.ch.size
  have hcbw : cb < w.heap.size := Go.lt_of_block hA
  have hcb1 := K.hc
  obtain ⟨ln, hln⟩ : ∃ z, z = l.length := ⟨_, rfl⟩
  rw [← hln] at hi hl1 hlen y2
  -- the three rows
  obtain ⟨X0, hX0⟩ : ∃ X, X = refX (leavesL l) C := ⟨_, rfl⟩
  obtain ⟨q0, q1, q2⟩ := refX_at (leavesL l) C n
  have o0 := hgr.own (n * 3) (by omega)
  have o1 := hgr.own (n * 3 + 1) (by omega)
  have o2 := hgr.own (n * 3 + 2) (by omega)
  rw [q0] at o0
  rw [q1] at o1
  rw [q2] at o2
  obtain ⟨ro, rc, e0⟩ := own_shape o0
  obtain ⟨dO, dc, e1⟩ := own_shape o1
  obtain ⟨vO, vc, e2⟩ := own_shape o2
  have a0 : w.cell? ⟨cb, n * 3, none⟩ = some (F0 (n * 3)) := by rw [cell_of_row w cb _ _ _ _ hA]; exact hAF _ (by omega)
  have a1 : w.cell? ⟨cb, n * 3 + 1, none⟩ = some (F0 (n * 3 + 1)) := by rw [cell_of_row w cb _ _ _ _ hA]; exact hAF _ (by omega)
  have a2 : w.cell? ⟨cb, n * 3 + 2, none⟩ = some (F0 (n * 3 + 2)) := by rw [cell_of_row w cb _ _ _ _ hA]; exact hAF _ (by omega)
  obtain ⟨L1, hL1⟩ : ∃ L, L = colR (C n) := ⟨_, rfl⟩
  obtain ⟨L2, hL2⟩ : ∃ L, L = colD (C n) := ⟨_, rfl⟩
  obtain ⟨L3, hL3⟩ : ∃ L, L = colV ((leavesL l).getD n default).d (C n) := ⟨_, rfl⟩
  have h1l : L1.length = (C n).length := by rw [hL1]; simp
  have h2l : L2.length = (C n).length := by rw [hL2]; simp
  have h3l : L3.length ≤ (C n).length := by rw [hL3]; unfold colV; rw [List.length_map]; exact List.length_filter_le _ _
  rw [← hL1] at o0 q0 e0
  rw [← hL2] at o1 q1 e1
  rw [← hL3] at o2 q2 e2
  obtain ⟨nR, hnR⟩ : ∃ z, z = L1.length := ⟨_, rfl⟩
  obtain ⟨nD, hnD⟩ : ∃ z, z = L2.length := ⟨_, rfl⟩
  obtain ⟨nV, hnV⟩ : ∃ z, z = L3.length := ⟨_, rfl⟩
  rw [← hnR] at e0
  rw [← hnD] at e1
  rw [← hnV] at e2
  rw [e0] at a0
  rw [e1] at a1
  rw [e2] at a2
  obtain ⟨r, hr⟩ : ∃ z : Int, z = (x.r : Int) := ⟨_, rfl⟩
  obtain ⟨d, hd⟩ : ∃ z : Int, z = (x.d : Int) := ⟨_, rfl⟩
  obtain ⟨F, hF⟩ : ∃ F, F = fun q => if q < N * 3 then F0 q else nil0 := ⟨_, rfl⟩
  obtain ⟨X, hX⟩ : ∃ X : Nat → Rw, X = fun q => if q < N * 3 then refX (leavesL l) C q else .i [] := ⟨_, rfl⟩
  have HGR := Lib.hid (show GR w w1.heap.size (N * 3 + 2) F X by rw [hF, hX]; exact hgr.more)
  have HFX := Lib.hid (show ∀ q, q < N * 3 → F q = F0 q ∧ X q = refX (leavesL l) C q from fun q hq => by rw [hF, hX]; simp [hq])
  have HF0 := Lib.hid (show F (n * 3) = .slice ro nR rc ∧ F (n * 3 + 1) = .slice dO nD dc from ⟨by rw [(HFX.out _ (by omega)).1, e0], by rw [(HFX.out _ (by omega)).1, e1]⟩)
  have HF2 := Lib.hid (show F (n * 3 + 2) = .slice vO nV vc by rw [(HFX.out _ (by omega)).1, e2])
  have HX0 := Lib.hid (show X (n * 3) = .i L1 ∧ X (n * 3 + 1) = .i L2 from ⟨by rw [(HFX.out _ (by omega)).2, q0], by rw [(HFX.out _ (by omega)).2, q1]⟩)
  have HX2 := Lib.hid (show X (n * 3 + 2) = .v L3 by rw [(HFX.out _ (by omega)).2, q2])
  have HFM := Lib.hid (show F (N * 3) = nil0 ∧ F (N * 3 + 1) = nil0 from ⟨by rw [hF]; show (if _ then _ else _) = _; rw [if_neg (by omega)], by rw [hF]; show (if _ then _ else _) = _; rw [if_neg (by omega)]⟩)
  have HN := Lib.hid (show nR = L1.length ∧ nD = L2.length from ⟨hnR, hnD⟩)
  have HNV := Lib.hid hnV
  have HNM := Lib.hid (show n * 3 + 1 < N * 3 by omega)
  have HMX := Lib.hid (show nR + 1 ≤ maxLen ∧ nD + 1 ≤ maxLen by unfold maxLen; omega)
  have HM3 := Lib.hid (show (nR + 1) * 8 ≤ 140737488355328 ∧ (nD + 1) * 8 ≤ 140737488355328 by omega)
  have HM4 := Lib.hid (show nV + 1 ≤ maxLen ∧ (nV + 1) * 24 ≤ 140737488355328 by unfold maxLen; omega)
  have HBW := Lib.hid (show w1.heap.size ≤ w.heap.size from hS.ch.size)
  have hlg1 : lg < w1.heap.size := by
    obtain ⟨g', o', e', hc'⟩ := (K.hl w1 (Chg.refl _ _)).at (show 0 < (lfs l).length by rw [lfs_len]; omega)
    injection e' with e'
    injection e' with e1' e2'
    have := World.block_lt_of_cell? w1 _ (hc' i _ 0 _ hlf rfl)
    simpa [e1'] using this
  have HT := Lib.hid (show ∀ bc, w.heap.size < bc → ∀ g ∈ T18 bc (.slice ro nR rc) (.slice dO nD dc), w1.heap.size ≤ g ∧ (g = bc ∨ g < w.heap.size) from fun bc hbc g hg => by
    unfold T18 at hg
    rcases List.mem_cons.1 hg with rfl | hg
    · exact ⟨by have := hS.ch.size; omega, .inl rfl⟩
    · rcases List.mem_append.1 hg with hg | hg
      · have h := (hgr.own (n * 3) (by omega)).lt g (by rw [e0]; simpa using hg)
        exact ⟨h.1, .inr h.2⟩
      · have h := (hgr.own (n * 3 + 1) (by omega)).lt g (by rw [e1]; simpa using hg)
        exact ⟨h.1, .inr h.2⟩)
  have HT9 := Lib.hid (show ∀ g ∈ T19 cb (.slice ro nR rc) (.slice dO nD dc) (.slice vO nV vc), ∀ (A : Array Value) (fr : Nat × Nat), w.heap[g]? ≠ some (.cells A 57 fr) from fun g hg A' fr' hx => by
    have g0 := (tagged_of_own (show w.ownsRow _ _ _ _ _ _ from o0)); rw [e0] at g0
    have g1 := (tagged_of_own (show w.ownsRow _ _ _ _ _ _ from o1)); rw [e1] at g1
    have g2 := (tagged_of_own (show w.ownsRow _ _ _ _ _ _ from o2)); rw [e2] at g2
    unfold T19 at hg
    simp only [List.mem_cons, List.mem_append, Option.mem_toList] at hg
    rcases hg with rfl | (hg | hg) | hg
    · rw [hA] at hx; cases hx
    · exact g0.ne hx (by decide) g hg rfl
    · exact g1.ne hx (by decide) g hg rfl
    · exact g2.ne hx (by decide) g hg rfl)
  have HX1 := Lib.hid x0
  have HA := Lib.hid hA; have HAF := Lib.hid hAF; have HCH := Lib.hid hS.ch; have HK := Lib.hid K; have HLE := Lib.hid hle; have HH := Lib.hid hh; have HV := Lib.hid hv
  have HRD := Lib.hid (And.intro hr hd); have HL := Lib.hid (And.intro hL1 (And.intro hL2 hL3))
  have HY4 := Lib.hid y4; have HLN := Lib.hid hln; have HLF := Lib.hid hlf
  rw [← hr, ← hd]
  clear hle hlf hn hcell hl2 hgr hX0 q0 q1 q2 o0 o1 o2 e0 e1 e2 h1l h2l h3l hnR hnD hnV hL1 hL2 hL3 hr hd hF hX hS hA hAF hh hv y0 y1 y3 hln hlen hbd hk
  go_enter Try.func67, Try.ntmps67
  go_upto_region 1 with fail
  go_region
  go_upto_region 2 with fail
  obtain ⟨wr, hwr⟩ : ∃ z, z = ((w.alloc (.cells #[.int .i64 v.n, .string v.s] 44)).alloc (.cells #[.slice ro nR rc, .slice dO nD dc, .slice vO nV vc] 42)).drew := ⟨_, rfl⟩
  rw [← hwr]
  obtain ⟨bc, hbc⟩ : ∃ z, z = w.heap.size + 1 := ⟨_, rfl⟩
  rw [← hbc]
  have hcw : Chg [] w wr := by rw [hwr]; exact (((Chg.refl [] w).alloc _).alloc _).drew
  have hbk : wr.drew.heap[bc]? = some (.cells #[.slice ro nR rc, .slice dO nD dc, .slice vO nV vc] 42 (0, 0)) := by
    rw [hwr, hbc]
    exact heap_alloc2_new w _ _
  have hbv : wr.heap[w.heap.size]? = some (.cells #[.int .i64 v.n, .string v.s] 44 (0, 0)) := by
    rw [hwr]
    exact ((Chg.refl [] _).alloc _).drew.heap (heap_alloc_new w _) (by simp)
  have k0 : wr.drew.cell? ⟨bc, 0, none⟩ = some (.slice ro nR rc) := by rw [cell_of_row _ bc 0 _ _ _ hbk]; rfl
  have k1 : wr.drew.cell? ⟨bc, 1, none⟩ = some (.slice dO nD dc) := by rw [cell_of_row _ bc 1 _ _ _ hbk]; rfl
  have k2 : wr.drew.cell? ⟨bc, 2, none⟩ = some (.slice vO nV vc) := by rw [cell_of_row _ bc 2 _ _ _ hbk]; rfl
  have HG0 := Lib.hid (HGR.out.keep hcw.drew)
  have HBK0 := Lib.hid (show ∃ A, wr.drew.heap[bc]? = some (.cells A 42 (0, 0)) from ⟨_, hbk⟩)
  have HCW := Lib.hid (show Chg (T18 bc (.slice ro nR rc) (.slice dO nD dc)) wr wr.drew from (Chg.refl _ wr).drew)
  have HCW0 := Lib.hid hcw
  have HBV := Lib.hid hbv
  have HBW2 := HBW
  replace HBW := Lib.hid (show w1.heap.size ≤ wr.heap.size from Nat.le_trans HBW2.out hcw.size)
  have HBC := Lib.hid (show w.heap.size < bc by omega)
  obtain ⟨vV, hvV⟩ : ∃ z : Value, z = .slice vO nV vc := ⟨_, rfl⟩
  rw [← hvV] at k2
  clear hwr hbc hcw hbk hbv a0 a1 a2
  refine wp_region_any (by kernel_rfl) ?_
  change wpAny _ _ _ _ _ _ _ (World.drew _)
  refine region_bs (fun base u => FRC14 n bc nR nD w1.heap.size (N * 3) r d ro dO rc dc vV F X L1 L2 0 0 none 0 none 0 base u) rfl (fun base u0 hbase => ?_)
  have HBS := Lib.hid hbase
  clear hbase
  refine wpAny_inv (JIC14 n bc nR nD w1.heap.size (N * 3) r d ro dO rc dc vV F X L1 L2 base wr) ?_ (fun listed a' w' hI hr => ?_) _ _ _ _ ?_ ?_
  rotate_left 2
  focus exact JIC14_start (HCW.out) HG0.out HBK0.out k0 k1 k2
  focus exact count_rep _
  focus
    intro listed a' w' hI ii hi hr
    obtain ⟨b, u, b1, b2, av1, cv1, av2, cv2, rfl, rfl, R⟩ := hI
    have hcs := ltC14 ii hi
    clear hi
    unfold FRC14
    rcases hcs with rfl | rfl | rfl | rfl | rfl | rfl | rfl | rfl | rfl | rfl | rfl | rfl | rfl | rfl
    · have hrd := ready_at rfl hr
      clear hr
      simp [Region.binds] at hrd
      clear hrd
      refine wpOp_step rfl (fun K hK => ?_)
      go_simp
      refine hK _ _ ?_
      exact ⟨upd b 0 true, (upd u 26 (.pointer (some ⟨bc, 0, none⟩))), b1, b2, av1, cv1, av2, cv2, rfl, rfl, ⟨(fun _ => rfl), R.c1, R.c2, R.c3, R.c4, R.c5, R.c6, R.c7, R.c8, R.c9, R.c10, R.c12, R.cg, R.gr, R.bk, R.k0f, R.k0t, R.k1f, R.k1t, R.k2, R.z11_4, R.z13_9, R.z4_1, R.z9_6, R.z4_3, R.z9_8, R.z11_1, R.z13_6, R.z11_3, R.z13_8⟩⟩
    · have hrd := ready_at rfl hr
      clear hr
      simp [Region.binds] at hrd
      have h0 : b 0 = true := by simp [hrd]
      have e0 := R.c0 h0
      have hb1 : b 1 = false := by simp [hrd]
      clear hrd
      have hld := R.k0f (by cases h : b 11 with | false => rfl | true => exact absurd (R.z11_1 h) (by rw [hb1]; decide))
      refine wpOp_step rfl (fun K hK => ?_)
      go_simp
      refine hK _ _ ?_
      exact ⟨upd b 1 true, (upd (upd u 26 (.pointer (some ⟨bc, 0, none⟩))) 27 (.slice ro nR rc)), b1, b2, av1, cv1, av2, cv2, rfl, rfl, ⟨(fun _ => rfl), (fun _ => rfl), R.c2, R.c3, R.c4, R.c5, R.c6, R.c7, R.c8, R.c9, R.c10, R.c12, R.cg, R.gr, R.bk, R.k0f, R.k0t, R.k1f, R.k1t, R.k2, R.z11_4, R.z13_9, (fun _ => rfl), R.z9_6, R.z4_3, R.z9_8, (fun _ => rfl), R.z13_6, R.z11_3, R.z13_8⟩⟩
    · have hrd := ready_at rfl hr
      clear hr
      simp [Region.binds] at hrd
      clear hrd
      refine wpOp_step rfl (fun K hK => ?_)
      go_simp
      refine hK _ _ ?_
      exact ⟨upd b 2 true, (upd u 28 (.int .i64 r)), b1, b2, av1, cv1, av2, cv2, rfl, rfl, ⟨R.c0, R.c1, (fun _ => rfl), R.c3, R.c4, R.c5, R.c6, R.c7, R.c8, R.c9, R.c10, R.c12, R.cg, R.gr, R.bk, R.k0f, R.k0t, R.k1f, R.k1t, R.k2, R.z11_4, R.z13_9, R.z4_1, R.z9_6, R.z4_3, R.z9_8, R.z11_1, R.z13_6, R.z11_3, R.z13_8⟩⟩
    · have hrd := ready_at rfl hr
      clear hr
      simp [Region.binds] at hrd
      have h2 : b 2 = true := by simp [hrd]
      have e2 := R.c2 h2
      have hb3 : b 3 = false := by simp [hrd]
      clear hrd
      have hgr : GR w' w1.heap.size ((N * 3) + 2) (G4 F n (N * 3) (b 4) (b 9) false (b 8) (.slice av1 (nR + 1) cv1) (.slice av2 (nD + 1) cv2) (.slice (some ⟨b1, 0, none⟩) 1 1) (.slice (some ⟨b2, 0, none⟩) 1 1)) (G4 X n (N * 3) (b 4) (b 9) false (b 8) (.i (L1 ++ [r])) (.i (L2 ++ [d])) (.i [r]) (.i [d])) := by have h := R.gr; rwa [hb3] at h
      have hal : Chg [] w' (w'.alloc (.cells #[.int .i64 r] 3)) := (Chg.refl [] w').alloc _
      have hgr4 : GR (w'.alloc (.cells #[.int .i64 r] 3)) w1.heap.size ((N * 3) + 2) (G4 F n (N * 3) (b 4) (b 9) true (b 8) (.slice av1 (nR + 1) cv1) (.slice av2 (nD + 1) cv2) (.slice (some ⟨w'.heap.size, 0, none⟩) 1 1) (.slice (some ⟨b2, 0, none⟩) 1 1)) (G4 X n (N * 3) (b 4) (b 9) true (b 8) (.i (L1 ++ [r])) (.i (L2 ++ [d])) (.i [r]) (.i [d])) := hgr.step (p := (N * 3)) (by omega) (by rw [G4_at2 _ HNM.out, HFM.out.1]; exact hal.toGrown0) (v' := .slice (some ⟨w'.heap.size, 0, none⟩) 1 1) (x' := .i [r]) (own_lit w' w'.heap.size w1.heap.size rfl (Nat.le_trans HBW.out R.cg.size) 3 #[.int .i64 r] (iv [r]) 1 1 rfl rfl (by decide)) (.inr rfl) (G4_step2 _ HNM.out _ _ _ _ _ _ _ _) (G4_step2 _ HNM.out _ _ _ _ _ _ _ _)
      refine wpOp_step rfl (fun K hK => ?_)
      go_simp
      refine hK _ _ ?_
      exact ⟨upd b 3 true, (upd (upd u 28 (.int .i64 r)) 29 (.slice (some ⟨w'.heap.size, 0, none⟩) 1 1)), w'.heap.size, b2, av1, cv1, av2, cv2, rfl, rfl, ⟨R.c0, R.c1, (fun _ => rfl), (fun _ => rfl), R.c4, R.c5, R.c6, R.c7, R.c8, R.c9, R.c10, R.c12, (R.cg.alloc _), hgr4, (let ⟨A, h⟩ := R.bk; ⟨A, hl_old h⟩), (fun h => hal.cell (R.k0f h) (by simp)), (fun h => hal.cell (R.k0t h) (by simp)), (fun h => hal.cell (R.k1f h) (by simp)), (fun h => hal.cell (R.k1t h) (by simp)), (hal.cell R.k2 (by simp)), R.z11_4, R.z13_9, R.z4_1, R.z9_6, (fun _ => rfl), R.z9_8, R.z11_1, R.z13_6, (fun _ => rfl), R.z13_8⟩⟩
    · have hrd := ready_at rfl hr
      clear hr
      simp [Region.binds] at hrd
      have h1 : b 1 = true := by simp [hrd]
      have e1 := R.c1 h1
      have h3 : b 3 = true := by simp [hrd]
      have e3 := R.c3 h3
      have hb4 : b 4 = false := by simp [hrd]
      clear hrd
      have hgr : GR w' w1.heap.size ((N * 3) + 2) (G4 F n (N * 3) false (b 9) true (b 8) (.slice av1 (nR + 1) cv1) (.slice av2 (nD + 1) cv2) (.slice (some ⟨b1, 0, none⟩) 1 1) (.slice (some ⟨b2, 0, none⟩) 1 1)) (G4 X n (N * 3) false (b 9) true (b 8) (.i (L1 ++ [r])) (.i (L2 ++ [d])) (.i [r]) (.i [d])) := by have h := R.gr; rwa [hb4, h3] at h
      have how := hgr.own (n * 3) (by have := HNM.out; omega)
      rw [G4_at0 _ HNM.out, G4_at0 _ HNM.out, HF0.out.1, HX0.out.1] at how
      replace how : w'.ownsRow w1.heap.size 3 1 (.slice ro nR rc) nR (iv L1) := by rw [HN.out.1]; rw [HN.out.1] at how; exact how
      have hxo := hgr.own ((N * 3)) (by omega)
      rw [G4_v2 _ HNM.out, G4_v2 _ HNM.out] at hxo
      replace hxo : w'.ownsRow w1.heap.size 3 1 (.slice (some ⟨b1, 0, none⟩) 1 1) 1 (iv [r]) := hxo
      have hbk := R.bk
      have hnb : bc ∉ (Value.slice ro nR rc).ownBlock.toList := fun hm => by obtain ⟨A, hA⟩ := hbk; exact (tagged_of_own how).ne hA (by decide) bc (by simpa using hm) rfl
      refine wpOp_step rfl (fun K hK => ?_)
      rw [e1, e3]
      refine wp_append_row w' (.tmp 27) (.tmp 29) 22 rfl w1.heap.size w1.heap.size 3 i0 (.int .i64 0) 1 8 Try.underlying22 hii hz0 hz1 hz2 rfl (by omega) (.slice ro nR rc) nR (iv L1) rfl how (.slice (some ⟨b1, 0, none⟩) 1 1) 1 (iv [r]) rfl hxo (fun u hu => by simp [iv] at hu; subst hu; rfl) HMX.out.1 HM3.out.1 (Nat.le_trans HBW.out R.cg.size) ?_
      intro v4 w4 hown4 hg4 hat4
      obtain ⟨a4, c4, rfl⟩ := own_shape hown4
      have hs4 : Chg (Value.slice ro nR rc).ownBlock.toList w' w4 := (Chg.refl _ w').grown hg4 (fun q hq => .inl (by simp [← hq]))
      have hgr4 : GR w4 w1.heap.size ((N * 3) + 2) (G4 F n (N * 3) true (b 9) true (b 8) (.slice a4 (nR + 1) c4) (.slice av2 (nD + 1) cv2) (.slice (some ⟨b1, 0, none⟩) 1 1) (.slice (some ⟨b2, 0, none⟩) 1 1)) (G4 X n (N * 3) true (b 9) true (b 8) (.i (L1 ++ [r])) (.i (L2 ++ [d])) (.i [r]) (.i [d])) := hgr.step (p := n * 3) (by have := HNM.out; omega) (by rw [G4_at0 _ HNM.out, HF0.out.1]; exact hg4) (v' := .slice a4 (nR + 1) c4) (x' := .i (L1 ++ [r])) (by unfold OwnR; simp only [List.length_append, List.length_cons, List.length_nil, Nat.zero_add]; rw [← HN.out.1]; rw [show iv (L1 ++ [r]) = iv L1 ++ iv [r] by simp [iv]]; exact hown4) (by rw [G4_at0 _ HNM.out, HF0.out.1]; exact hat4) (G4_step0 _ HNM.out _ _ _ _ _ _ _ _) (G4_step0 _ HNM.out _ _ _ _ _ _ _ _)
      go_simp
      refine hK _ _ ?_
      exact ⟨upd b 4 true, (upd (upd (upd u 27 (.slice ro nR rc)) 29 (.slice (some ⟨b1, 0, none⟩) 1 1)) 30 (.slice a4 (nR + 1) c4)), b1, b2, a4, c4, av2, cv2, rfl, rfl, ⟨R.c0, (fun _ => rfl), R.c2, (fun _ => rfl), (fun _ => rfl), R.c5, R.c6, R.c7, R.c8, R.c9, R.c10, R.c12, (R.cg.grown hg4 (fun q hq => .inl (by unfold T18; simp [hq]))), (by have e : (upd b 4 true) 3 = true := h3; rw [e]; exact hgr4), (let ⟨A, h⟩ := hbk; ⟨A, hs4.heap h hnb⟩), (fun h => hs4.cell (R.k0f h) hnb), (fun h => absurd (R.z11_4 h) (by rw [hb4]; decide)), (fun h => hs4.cell (R.k1f h) hnb), (fun h => hs4.cell (R.k1t h) hnb), (hs4.cell R.k2 hnb), (fun _ => rfl), R.z13_9, (fun _ => h1), R.z9_6, (fun _ => h3), R.z9_8, R.z11_1, R.z13_6, R.z11_3, R.z13_8⟩⟩
    · have hrd := ready_at rfl hr
      clear hr
      simp [Region.binds] at hrd
      clear hrd
      refine wpOp_step rfl (fun K hK => ?_)
      go_simp
      refine hK _ _ ?_
      exact ⟨upd b 5 true, (upd u 31 (.pointer (some ⟨bc, 1, none⟩))), b1, b2, av1, cv1, av2, cv2, rfl, rfl, ⟨R.c0, R.c1, R.c2, R.c3, R.c4, (fun _ => rfl), R.c6, R.c7, R.c8, R.c9, R.c10, R.c12, R.cg, R.gr, R.bk, R.k0f, R.k0t, R.k1f, R.k1t, R.k2, R.z11_4, R.z13_9, R.z4_1, R.z9_6, R.z4_3, R.z9_8, R.z11_1, R.z13_6, R.z11_3, R.z13_8⟩⟩
    · have hrd := ready_at rfl hr
      clear hr
      simp [Region.binds] at hrd
      have h5 : b 5 = true := by simp [hrd]
      have e5 := R.c5 h5
      have hb6 : b 6 = false := by simp [hrd]
      clear hrd
      have hld := R.k1f (by cases h : b 13 with | false => rfl | true => exact absurd (R.z13_6 h) (by rw [hb6]; decide))
      refine wpOp_step rfl (fun K hK => ?_)
      go_simp
      refine hK _ _ ?_
      exact ⟨upd b 6 true, (upd (upd u 31 (.pointer (some ⟨bc, 1, none⟩))) 32 (.slice dO nD dc)), b1, b2, av1, cv1, av2, cv2, rfl, rfl, ⟨R.c0, R.c1, R.c2, R.c3, R.c4, (fun _ => rfl), (fun _ => rfl), R.c7, R.c8, R.c9, R.c10, R.c12, R.cg, R.gr, R.bk, R.k0f, R.k0t, R.k1f, R.k1t, R.k2, R.z11_4, R.z13_9, R.z4_1, (fun _ => rfl), R.z4_3, R.z9_8, R.z11_1, (fun _ => rfl), R.z11_3, R.z13_8⟩⟩
    · have hrd := ready_at rfl hr
      clear hr
      simp [Region.binds] at hrd
      clear hrd
      refine wpOp_step rfl (fun K hK => ?_)
      go_simp
      refine hK _ _ ?_
      exact ⟨upd b 7 true, (upd u 33 (.int .i64 d)), b1, b2, av1, cv1, av2, cv2, rfl, rfl, ⟨R.c0, R.c1, R.c2, R.c3, R.c4, R.c5, R.c6, (fun _ => rfl), R.c8, R.c9, R.c10, R.c12, R.cg, R.gr, R.bk, R.k0f, R.k0t, R.k1f, R.k1t, R.k2, R.z11_4, R.z13_9, R.z4_1, R.z9_6, R.z4_3, R.z9_8, R.z11_1, R.z13_6, R.z11_3, R.z13_8⟩⟩
    · have hrd := ready_at rfl hr
      clear hr
      simp [Region.binds] at hrd
      have h7 : b 7 = true := by simp [hrd]
      have e7 := R.c7 h7
      have hb8 : b 8 = false := by simp [hrd]
      clear hrd
      have hgr : GR w' w1.heap.size ((N * 3) + 2) (G4 F n (N * 3) (b 4) (b 9) (b 3) false (.slice av1 (nR + 1) cv1) (.slice av2 (nD + 1) cv2) (.slice (some ⟨b1, 0, none⟩) 1 1) (.slice (some ⟨b2, 0, none⟩) 1 1)) (G4 X n (N * 3) (b 4) (b 9) (b 3) false (.i (L1 ++ [r])) (.i (L2 ++ [d])) (.i [r]) (.i [d])) := by have h := R.gr; rwa [hb8] at h
      have hal : Chg [] w' (w'.alloc (.cells #[.int .i64 d] 3)) := (Chg.refl [] w').alloc _
      have hgr4 : GR (w'.alloc (.cells #[.int .i64 d] 3)) w1.heap.size ((N * 3) + 2) (G4 F n (N * 3) (b 4) (b 9) (b 3) true (.slice av1 (nR + 1) cv1) (.slice av2 (nD + 1) cv2) (.slice (some ⟨b1, 0, none⟩) 1 1) (.slice (some ⟨w'.heap.size, 0, none⟩) 1 1)) (G4 X n (N * 3) (b 4) (b 9) (b 3) true (.i (L1 ++ [r])) (.i (L2 ++ [d])) (.i [r]) (.i [d])) := hgr.step (p := (N * 3) + 1) (by omega) (by rw [G4_at3 _ HNM.out, HFM.out.2]; exact hal.toGrown0) (v' := .slice (some ⟨w'.heap.size, 0, none⟩) 1 1) (x' := .i [d]) (own_lit w' w'.heap.size w1.heap.size rfl (Nat.le_trans HBW.out R.cg.size) 3 #[.int .i64 d] (iv [d]) 1 1 rfl rfl (by decide)) (.inr rfl) (G4_step3 _ HNM.out _ _ _ _ _ _ _ _) (G4_step3 _ HNM.out _ _ _ _ _ _ _ _)
      refine wpOp_step rfl (fun K hK => ?_)
      go_simp
      refine hK _ _ ?_
      exact ⟨upd b 8 true, (upd (upd u 33 (.int .i64 d)) 34 (.slice (some ⟨w'.heap.size, 0, none⟩) 1 1)), b1, w'.heap.size, av1, cv1, av2, cv2, rfl, rfl, ⟨R.c0, R.c1, R.c2, R.c3, R.c4, R.c5, R.c6, (fun _ => rfl), (fun _ => rfl), R.c9, R.c10, R.c12, (R.cg.alloc _), hgr4, (let ⟨A, h⟩ := R.bk; ⟨A, hl_old h⟩), (fun h => hal.cell (R.k0f h) (by simp)), (fun h => hal.cell (R.k0t h) (by simp)), (fun h => hal.cell (R.k1f h) (by simp)), (fun h => hal.cell (R.k1t h) (by simp)), (hal.cell R.k2 (by simp)), R.z11_4, R.z13_9, R.z4_1, R.z9_6, R.z4_3, (fun _ => rfl), R.z11_1, R.z13_6, R.z11_3, (fun _ => rfl)⟩⟩
    · have hrd := ready_at rfl hr
      clear hr
      simp [Region.binds] at hrd
      have h6 : b 6 = true := by simp [hrd]
      have e6 := R.c6 h6
      have h8 : b 8 = true := by simp [hrd]
      have e8 := R.c8 h8
      have hb9 : b 9 = false := by simp [hrd]
      clear hrd
      have hgr : GR w' w1.heap.size ((N * 3) + 2) (G4 F n (N * 3) (b 4) false (b 3) true (.slice av1 (nR + 1) cv1) (.slice av2 (nD + 1) cv2) (.slice (some ⟨b1, 0, none⟩) 1 1) (.slice (some ⟨b2, 0, none⟩) 1 1)) (G4 X n (N * 3) (b 4) false (b 3) true (.i (L1 ++ [r])) (.i (L2 ++ [d])) (.i [r]) (.i [d])) := by have h := R.gr; rwa [hb9, h8] at h
      have how := hgr.own (n * 3 + 1) (by have := HNM.out; omega)
      rw [G4_at1 _ HNM.out, G4_at1 _ HNM.out, HF0.out.2, HX0.out.2] at how
      replace how : w'.ownsRow w1.heap.size 3 1 (.slice dO nD dc) nD (iv L2) := by rw [HN.out.2]; rw [HN.out.2] at how; exact how
      have hxo := hgr.own ((N * 3) + 1) (by omega)
      rw [G4_v3 _ HNM.out, G4_v3 _ HNM.out] at hxo
      replace hxo : w'.ownsRow w1.heap.size 3 1 (.slice (some ⟨b2, 0, none⟩) 1 1) 1 (iv [d]) := hxo
      have hbk := R.bk
      have hnb : bc ∉ (Value.slice dO nD dc).ownBlock.toList := fun hm => by obtain ⟨A, hA⟩ := hbk; exact (tagged_of_own how).ne hA (by decide) bc (by simpa using hm) rfl
      refine wpOp_step rfl (fun K hK => ?_)
      rw [e6, e8]
      refine wp_append_row w' (.tmp 32) (.tmp 34) 22 rfl w1.heap.size w1.heap.size 3 i0 (.int .i64 0) 1 8 Try.underlying22 hii hz0 hz1 hz2 rfl (by omega) (.slice dO nD dc) nD (iv L2) rfl how (.slice (some ⟨b2, 0, none⟩) 1 1) 1 (iv [d]) rfl hxo (fun u hu => by simp [iv] at hu; subst hu; rfl) HMX.out.2 HM3.out.2 (Nat.le_trans HBW.out R.cg.size) ?_
      intro v4 w4 hown4 hg4 hat4
      obtain ⟨a4, c4, rfl⟩ := own_shape hown4
      have hs4 : Chg (Value.slice dO nD dc).ownBlock.toList w' w4 := (Chg.refl _ w').grown hg4 (fun q hq => .inl (by simp [← hq]))
      have hgr4 : GR w4 w1.heap.size ((N * 3) + 2) (G4 F n (N * 3) (b 4) true (b 3) true (.slice av1 (nR + 1) cv1) (.slice a4 (nD + 1) c4) (.slice (some ⟨b1, 0, none⟩) 1 1) (.slice (some ⟨b2, 0, none⟩) 1 1)) (G4 X n (N * 3) (b 4) true (b 3) true (.i (L1 ++ [r])) (.i (L2 ++ [d])) (.i [r]) (.i [d])) := hgr.step (p := n * 3 + 1) (by have := HNM.out; omega) (by rw [G4_at1 _ HNM.out, HF0.out.2]; exact hg4) (v' := .slice a4 (nD + 1) c4) (x' := .i (L2 ++ [d])) (by unfold OwnR; simp only [List.length_append, List.length_cons, List.length_nil, Nat.zero_add]; rw [← HN.out.2]; rw [show iv (L2 ++ [d]) = iv L2 ++ iv [d] by simp [iv]]; exact hown4) (by rw [G4_at1 _ HNM.out, HF0.out.2]; exact hat4) (G4_step1 _ HNM.out _ _ _ _ _ _ _ _) (G4_step1 _ HNM.out _ _ _ _ _ _ _ _)
      go_simp
      refine hK _ _ ?_
      exact ⟨upd b 9 true, (upd (upd (upd u 32 (.slice dO nD dc)) 34 (.slice (some ⟨b2, 0, none⟩) 1 1)) 35 (.slice a4 (nD + 1) c4)), b1, b2, av1, cv1, a4, c4, rfl, rfl, ⟨R.c0, R.c1, R.c2, R.c3, R.c4, R.c5, (fun _ => rfl), R.c7, (fun _ => rfl), (fun _ => rfl), R.c10, R.c12, (R.cg.grown hg4 (fun q hq => .inl (by unfold T18; simp [hq]))), (by have e : (upd b 9 true) 8 = true := h8; rw [e]; exact hgr4), (let ⟨A, h⟩ := hbk; ⟨A, hs4.heap h hnb⟩), (fun h => hs4.cell (R.k0f h) hnb), (fun h => hs4.cell (R.k0t h) hnb), (fun h => hs4.cell (R.k1f h) hnb), (fun h => absurd (R.z13_9 h) (by rw [hb9]; decide)), (hs4.cell R.k2 hnb), R.z11_4, (fun _ => rfl), R.z4_1, (fun _ => h6), R.z4_3, (fun _ => h8), R.z11_1, R.z13_6, R.z11_3, R.z13_8⟩⟩
    · have hrd := ready_at rfl hr
      clear hr
      simp [Region.binds] at hrd
      clear hrd
      refine wpOp_step rfl (fun K hK => ?_)
      go_simp
      refine hK _ _ ?_
      exact ⟨upd b 10 true, (upd u 36 (.pointer (some ⟨bc, 0, none⟩))), b1, b2, av1, cv1, av2, cv2, rfl, rfl, ⟨R.c0, R.c1, R.c2, R.c3, R.c4, R.c5, R.c6, R.c7, R.c8, R.c9, (fun _ => rfl), R.c12, R.cg, R.gr, R.bk, R.k0f, R.k0t, R.k1f, R.k1t, R.k2, R.z11_4, R.z13_9, R.z4_1, R.z9_6, R.z4_3, R.z9_8, R.z11_1, R.z13_6, R.z11_3, R.z13_8⟩⟩
    · have hrd := ready_at rfl hr
      clear hr
      simp [Region.binds] at hrd
      have h4 : b 4 = true := by simp [hrd]
      have e4 := R.c4 h4
      have h10 : b 10 = true := by simp [hrd]
      have e10 := R.c10 h10
      have hb11 : b 11 = false := by simp [hrd]
      clear hrd
      obtain ⟨A, hA⟩ := R.bk
      have hld := R.k0f hb11
      have hfz : w'.frozen? ⟨bc, 0, none⟩ = false := by simp [World.frozen?, hA]
      refine wpOp_step rfl (fun K hK => ?_)
      go_simp
      refine hK _ _ ?_
      exact ⟨upd b 11 true, (upd (upd u 30 (.slice av1 (nR + 1) cv1)) 36 (.pointer (some ⟨bc, 0, none⟩))), b1, b2, av1, cv1, av2, cv2, rfl, rfl, ⟨R.c0, R.c1, R.c2, R.c3, (fun _ => rfl), R.c5, R.c6, R.c7, R.c8, R.c9, (fun _ => rfl), R.c12, (R.cg.setCell (.inl (by simp [T18])) _), (R.gr.chg ((Chg.refl [bc] w').setCell (p := ⟨bc, 0, none⟩) (by simp) _) (R.gr.ne hA (by decide) (by decide))), ⟨_, heap_set hA _⟩, (fun h => by cases h), (fun _ => cell_set_eq hA hld _), (fun h => cell_set_ne hA (by decide) (R.k1f h) _), (fun h => cell_set_ne hA (by decide) (R.k1t h) _), (cell_set_ne hA (by decide) R.k2 _), (fun _ => h4), R.z13_9, R.z4_1, R.z9_6, R.z4_3, R.z9_8, (fun _ => R.z4_1 h4), R.z13_6, (fun _ => R.z4_3 h4), R.z13_8⟩⟩
    · have hrd := ready_at rfl hr
      clear hr
      simp [Region.binds] at hrd
      clear hrd
      refine wpOp_step rfl (fun K hK => ?_)
      go_simp
      refine hK _ _ ?_
      exact ⟨upd b 12 true, (upd u 37 (.pointer (some ⟨bc, 1, none⟩))), b1, b2, av1, cv1, av2, cv2, rfl, rfl, ⟨R.c0, R.c1, R.c2, R.c3, R.c4, R.c5, R.c6, R.c7, R.c8, R.c9, R.c10, (fun _ => rfl), R.cg, R.gr, R.bk, R.k0f, R.k0t, R.k1f, R.k1t, R.k2, R.z11_4, R.z13_9, R.z4_1, R.z9_6, R.z4_3, R.z9_8, R.z11_1, R.z13_6, R.z11_3, R.z13_8⟩⟩
    · have hrd := ready_at rfl hr
      clear hr
      simp [Region.binds] at hrd
      have h9 : b 9 = true := by simp [hrd]
      have e9 := R.c9 h9
      have h12 : b 12 = true := by simp [hrd]
      have e12 := R.c12 h12
      have hb13 : b 13 = false := by simp [hrd]
      clear hrd
      obtain ⟨A, hA⟩ := R.bk
      have hld := R.k1f hb13
      have hfz : w'.frozen? ⟨bc, 1, none⟩ = false := by simp [World.frozen?, hA]
      refine wpOp_step rfl (fun K hK => ?_)
      go_simp
      refine hK _ _ ?_
      exact ⟨upd b 13 true, (upd (upd u 35 (.slice av2 (nD + 1) cv2)) 37 (.pointer (some ⟨bc, 1, none⟩))), b1, b2, av1, cv1, av2, cv2, rfl, rfl, ⟨R.c0, R.c1, R.c2, R.c3, R.c4, R.c5, R.c6, R.c7, R.c8, (fun _ => rfl), R.c10, (fun _ => rfl), (R.cg.setCell (.inl (by simp [T18])) _), (R.gr.chg ((Chg.refl [bc] w').setCell (p := ⟨bc, 1, none⟩) (by simp) _) (R.gr.ne hA (by decide) (by decide))), ⟨_, heap_set hA _⟩, (fun h => cell_set_ne hA (by decide) (R.k0f h) _), (fun h => cell_set_ne hA (by decide) (R.k0t h) _), (fun h => by cases h), (fun _ => cell_set_eq hA hld _), (cell_set_ne hA (by decide) R.k2 _), R.z11_4, (fun _ => h9), R.z4_1, R.z9_6, R.z4_3, R.z9_8, R.z11_1, (fun _ => R.z9_6 h9), R.z11_3, (fun _ => R.z9_8 h9)⟩⟩
  obtain ⟨b, u, b1, b2, av1, cv1, av2, cv2, rfl, rfl, R⟩ := hI
  have hall := ready_all2 hr rfl (by kernel_rfl)
  have h4 : b 4 = true := Option.some.inj (hall 4 (by decide))
  have e4 := R.c4 h4
  have h9 : b 9 = true := Option.some.inj (hall 9 (by decide))
  have e9 := R.c9 h9
  have h11 : b 11 = true := Option.some.inj (hall 11 (by decide))
  have h13 : b 13 = true := Option.some.inj (hall 13 (by decide))
  have GRX := Lib.hid (by have h := R.gr; rw [h4, h9, R.z4_3 h4, R.z9_8 h9] at h; exact h)
  have K0X := Lib.hid (R.k0t h11)
  have K1X := Lib.hid (R.k1t h13)
  have K2X := Lib.hid (R.k2)
  have BKX := Lib.hid (R.bk)
  have HCG := Lib.hid R.cg
  unfold FRC14
  rw [e4, e9]
  clear e4 e9
  clear R hr hall h4 h9 h11 h13
  have HCX := Lib.hid (show Chg [cb] w1 w' from (HCH.out.trans HCW0.out (by simp)).trans HCG.out (fun g hg => .inr (HT.out bc HBC.out g hg).1))
  have HC9 := Lib.hid (show Chg (T19 cb (.slice ro nR rc) (.slice dO nD dc) (.slice vO nV vc)) w w' from (HCW0.out.mono (by simp)).trans HCG.out (fun g hg => by
    unfold T18 at hg
    unfold T19
    simp only [List.mem_cons, List.mem_append, Option.mem_toList] at hg ⊢
    rcases hg with rfl | hg | hg
    · exact .inr (Nat.le_of_lt HBC.out)
    · exact .inl (.inr (.inl (.inl hg)))
    · exact .inl (.inr (.inl (.inr hg)))))
  have HA9 := Lib.hid (HCG.out.heap (HCW0.out.heap HA.out (by simp)) (fun hm => by have := (HT.out bc HBC.out _ hm).1; omega))
  have HBV9 := Lib.hid (HCG.out.heap HBV.out (fun hm => by have := (HT.out bc HBC.out _ hm).2; have := HBC.out; omega))
  have HEX := Lib.hid (show (∀ p, p < N * 3 → G4 F n (N * 3) true true true true (.slice av1 (nR + 1) cv1) (.slice av2 (nD + 1) cv2) (.slice (some ⟨b1, 0, none⟩) 1 1) (.slice (some ⟨b2, 0, none⟩) 1 1) p = FB F0 (n * 3) true true false (.slice av1 (nR + 1) cv1) (.slice av2 (nD + 1) cv2) nil0 p) ∧ (∀ p, p < N * 3 → G4 X n (N * 3) true true true true (.i (L1 ++ [r])) (.i (L2 ++ [d])) (.i [r]) (.i [d]) p = FB (refX (leavesL l) C) (n * 3) true true false (.i (L1 ++ [r])) (.i (L2 ++ [d])) (.i []) p) from by
    constructor
    · intro p hp
      unfold FB G4
      rw [if_neg (show ¬ (p = n * 3 + 2 ∧ false = true) by simp), if_neg (show ¬ (p = N * 3 ∧ true = true) by omega), if_neg (show ¬ (p = N * 3 + 1 ∧ true = true) by omega), (HFX.out p hp).1]
      by_cases e : p = n * 3
      · subst e; rw [if_pos ⟨rfl, rfl⟩, if_neg (by omega), if_pos ⟨rfl, rfl⟩]
      · rw [if_neg (fun h => e h.1)]
        by_cases e1 : p = n * 3 + 1
        · subst e1; rw [if_pos ⟨rfl, rfl⟩, if_pos ⟨rfl, rfl⟩]
        · rw [if_neg (fun h => e1 h.1), if_neg (fun h => e1 h.1), if_neg (fun h => e h.1)]
    · intro p hp
      unfold FB G4
      rw [if_neg (show ¬ (p = n * 3 + 2 ∧ false = true) by simp), if_neg (show ¬ (p = N * 3 ∧ true = true) by omega), if_neg (show ¬ (p = N * 3 + 1 ∧ true = true) by omega), (HFX.out p hp).2]
      by_cases e : p = n * 3
      · subst e; rw [if_pos ⟨rfl, rfl⟩, if_neg (by omega), if_pos ⟨rfl, rfl⟩]
      · rw [if_neg (fun h => e h.1)]
        by_cases e1 : p = n * 3 + 1
        · subst e1; rw [if_pos ⟨rfl, rfl⟩, if_pos ⟨rfl, rfl⟩]
        · rw [if_neg (fun h => e1 h.1), if_neg (fun h => e1 h.1), if_neg (fun h => e h.1)])
  have HGN0 := Lib.hid (show GR w' w1.heap.size (N * 3) (FB F0 (n * 3) true true false (.slice av1 (nR + 1) cv1) (.slice av2 (nD + 1) cv2) nil0) (FB (refX (leavesL l) C) (n * 3) true true false (.i (L1 ++ [r])) (.i (L2 ++ [d])) (.i [])) from (GRX.out.less (by omega)).ext (fun p hp => (HEX.out.1 p hp).symm) (fun p hp => (HEX.out.2 p hp).symm))
  clear HEX GRX HGR HG0
  have HF02 := Lib.hid (show F0 (n * 3 + 2) = .slice vO nV vc by rw [← HF2.out, (HFX.out _ (by omega)).1])
  have HX02 := Lib.hid (show refX (leavesL l) C (n * 3 + 2) = .v L3 by rw [← HX2.out, (HFX.out _ (by omega)).2])
  have HFIN := Lib.hid (show ∀ (w9 : World) (has : Bool) (v3 v9 : Value) (x9 : Rw), (has = decide ((x.d : Int) = (dls l).getD i 0)) → Chg [cb] w1 w9 → Chg (T19 cb (.slice ro nR rc) (.slice dO nD dc) (.slice vO nV vc)) w w9 → w9.heap[cb]? = some (.cells A 42 (0, 0)) →
      GR w9 w1.heap.size (N * 3) (FB F0 (n * 3) true true has (.slice av1 (nR + 1) cv1) (.slice av2 (nD + 1) cv2) v9) (FB (refX (leavesL l) C) (n * 3) true true has (.i (L1 ++ [r])) (.i (L2 ++ [d])) x9) →
      (has = true → x9 = .v (L3 ++ [⟨x.t.n, x.t.s⟩])) → FB F0 (n * 3) true true has (.slice av1 (nR + 1) cv1) (.slice av2 (nD + 1) cv2) v9 (n * 3 + 2) = v3 →
      CS w1 cb N (leavesL l) (fun j => if j = n then C n ++ [x] else C j) (((w9.setCell ⟨cb, n * 3, none⟩ (.slice av1 (nR + 1) cv1)).setCell ⟨cb, n * 3 + 1, none⟩ (.slice av2 (nD + 1) cv2)).setCell ⟨cb, n * 3 + 2, none⟩ v3) ∧ KT w (((w9.setCell ⟨cb, n * 3, none⟩ (.slice av1 (nR + 1) cv1)).setCell ⟨cb, n * 3 + 1, none⟩ (.slice av2 (nD + 1) cv2)).setCell ⟨cb, n * 3 + 2, none⟩ v3) from by
    intro w9 has v3 v9 x9 hh hc hc9 ha hg hx9 hv3
    have hs := ((Chg.refl [cb] w9).setCell (p := ⟨cb, n * 3, none⟩) (.inl (by simp)) (.slice av1 (nR + 1) cv1)).setCell (p := ⟨cb, n * 3 + 1, none⟩) (.inl (by simp)) (.slice av2 (nD + 1) cv2) |>.setCell (p := ⟨cb, n * 3 + 2, none⟩) (.inl (by simp)) v3
    refine ⟨⟨hc.trans hs (fun g hg => .inl hg), fun q => if q = n * 3 + 2 then v3 else if q = n * 3 + 1 then .slice av2 (nD + 1) cv2 else if q = n * 3 then .slice av1 (nR + 1) cv1 else F0 q, _, heap_set (heap_set (heap_set ha _) _) _, fun p hp => arr3 HAF.out (by omega) _ _ _ p hp, ?_⟩, ?_⟩
    · refine (hg.chg hs (hg.ne ha (by decide) (by decide))).ext (fun p hp => ?_) (fun p hp => ?_)
      · by_cases e2 : p = n * 3 + 2
        · rw [if_pos e2, e2]; exact hv3.symm
        · by_cases e1 : p = n * 3 + 1
          · rw [if_neg e2, if_pos e1]
            unfold FB
            rw [if_neg (show ¬ (p = n * 3 + 2 ∧ has = true) from fun h => e2 h.1), if_pos (show p = n * 3 + 1 ∧ true = true from ⟨e1, rfl⟩)]
          · rw [if_neg e2, if_neg e1]
            unfold FB
            rw [if_neg (show ¬ (p = n * 3 + 2 ∧ has = true) from fun h => e2 h.1), if_neg (show ¬ (p = n * 3 + 1 ∧ true = true) from fun h => e1 h.1)]
            by_cases e0 : p = n * 3
            · rw [if_pos e0, if_pos (show p = n * 3 ∧ true = true from ⟨e0, rfl⟩)]
            · rw [if_neg e0, if_neg (show ¬ (p = n * 3 ∧ true = true) from fun h => e0 h.1)]
      · have hd : ((leavesL l).getD n default).d = (dls l).getD i 0 := by rw [List.getD, HLE.out]; rfl
        have h := refX_step (leavesL l) C (fun j => if j = n then C n ++ [x] else C j) n x has (by rw [hd]; exact hh) (fun j => rfl) x9 (fun e => by rw [hx9 e, HL.out.2.2]) p
        rw [h, ← HL.out.1, ← HL.out.2.1, ← HRD.out.1, ← HRD.out.2]
    · exact KT.chg (hc9.trans hs (fun g hg => .inl (by simp at hg; subst hg; unfold T19; simp))) HT9.out)
  have hne1 : wb ≠ cb := HK.out.ne
  rw [show base 5 = .bool has from HBS.out 5, show base 0 = .pointer (some ⟨wb, 0, none⟩) from HBS.out 0, show base 1 = .int .i64 (i : Int) from HBS.out 1, show base 10 = .pointer (some ⟨w.heap.size, 0, none⟩) from HBS.out 10]
  clear HBS
  cases has
  case' false =>
    obtain ⟨w9, hw9⟩ : ∃ z, z = w' := ⟨_, rfl⟩
    obtain ⟨o3, ho3⟩ : ∃ z, z = vO := ⟨_, rfl⟩
    obtain ⟨n3, hn3⟩ : ∃ z, z = nV := ⟨_, rfl⟩
    obtain ⟨c3, hc3⟩ : ∃ z, z = vc := ⟨_, rfl⟩
    have hv3 : Value.slice o3 n3 c3 = vV := by rw [hvV, ho3, hn3, hc3]
    have HF9 := Lib.hid (HFIN.out w9 false (.slice o3 n3 c3) nil0 (.i []) HH.out (by rw [hw9]; exact HCX.out) (by rw [hw9]; exact HC9.out) (by rw [hw9]; exact HA9.out) (by rw [hw9]; exact HGN0.out) (fun h => by cases h) (by rw [FB_at2, HF02.out, hv3, hvV]))
    have z0 := K0X.out
    have z1 := K1X.out
    have z2 := K2X.out
    have z3 := HCX.out
    have z4 := HA9.out
    rw [← hw9] at z0 z1 z2 z3 z4 ⊢
    rw [← hv3] at z2
    clear hw9 hv3 ho3 hn3 hc3
  case' true =>
    have hld2 := K2X.out
    rw [hvV] at hld2
    have hb0 : w'.cell? ⟨w.heap.size, 0, none⟩ = some (.int .i64 v.n) := by rw [cell_of_row w' _ 0 _ _ _ HBV9.out]; rfl
    have hb1 : w'.cell? ⟨w.heap.size, 1, none⟩ = some (.string v.s) := by rw [cell_of_row w' _ 1 _ _ _ HBV9.out]; rfl
    have hrow := HGN0.out.own (n * 3 + 2) (by omega)
    rw [FB_at2, FB_at2, HF02.out, HX02.out] at hrow
    replace hrow : w'.ownsRow w1.heap.size 44 2 (.slice vO nV vc) nV (L3.flatMap V.cs) := by rw [HNV.out]; rw [HNV.out] at hrow; exact hrow
    obtain ⟨Ab, hAb⟩ := BKX.out
    have hfz : w'.frozen? ⟨bc, 2, none⟩ = false := by simp [World.frozen?, hAb]
    have HRW := Lib.hid hrow; have HAB := Lib.hid hAb
    have hbcw : bc < w'.heap.size := Go.lt_of_block hAb
    clear hrow
    go_wp2_with (first
      | (at_builtin; refine wpList_append_at _ rfl (.tmp 40) (.tmp 42) _ rfl w1.heap.size 44 i1 (.agg #[.int .i64 0, .string ByteArray.empty]) 2 24 Try.underlying40 hi1 hy0 hy1 hy2 rfl (by omega) (.slice vO nV vc) nV (L3.flatMap V.cs) rfl (HRW.out.alloc _) ⟨w'.heap.size, 0, none⟩ 1 1 (V.cs v) rfl rfl (new_cells (C := #[.int .i64 v.n, .string v.s]) _ rfl) (V.one v) HM4.out.1 HM4.out.2 (le_alloc (Nat.le_trans HBW.out HCG.out.size) _) ?_; intro v4 w4 hown4 hg4 hat4; obtain ⟨a4, c4, rfl⟩ := own_shape hown4; have hal : Chg [] w' (w'.alloc (.cells #[.int .i64 v.n, .string v.s] 44)) := (Chg.refl [] w').alloc _; have hs4 : Chg (Value.slice vO nV vc).ownBlock.toList (w'.alloc (.cells #[.int .i64 v.n, .string v.s] 44)) w4 := (Chg.refl _ _).grown hg4 (fun q hq => .inl (by simp [← hq])); have HOWN4 := Lib.hid hown4; have HG4 := Lib.hid hg4; have HAT4 := Lib.hid hat4; have hbc4 := hs4.heap (hal.heap HAB.out (by simp)) (fun hm => (tagged_of_own HRW.out).ne HAB.out (by decide) bc (by simpa using hm) rfl); have c2' : w4.cell? ⟨bc, 2, none⟩ = some (.slice vO nV vc) := (by rw [cell_of_row w4 bc _ _ _ _ hbc4, ← cell_of_row w' bc _ _ _ _ HAB.out]; exact hld2); have fz4 : w4.frozen? ⟨bc, 2, none⟩ = false := (by simp [World.frozen?, hbc4]); have HS4 := Lib.hid hs4; have HAL := Lib.hid hal; have HBC4 := Lib.hid hbc4; clear hown4 hg4 hat4 hs4 hal hbc4)
      | fail)
    obtain ⟨n3, hn3⟩ : ∃ z, z = nV + 1 := ⟨_, rfl⟩
    have hv3 : Value.slice a4 n3 c4 = .slice a4 (nV + 1) c4 := by rw [hn3]
    rw [← hn3]
    obtain ⟨w9, hw9⟩ : ∃ z, z = w4.setCell ⟨bc, 2, none⟩ (.slice a4 n3 c4) := ⟨_, rfl⟩
    rw [← hw9]
    have hlow : ∀ g, (Value.slice vO nV vc).ownBlock = some g → w1.heap.size ≤ g := fun g hg => own_ge HRW.out g hg
    have hgr4 : GR w4 w1.heap.size (N * 3) (FB F0 (n * 3) true true true (.slice av1 (nR + 1) cv1) (.slice av2 (nD + 1) cv2) (.slice a4 n3 c4)) (FB (refX (leavesL l) C) (n * 3) true true true (.i (L1 ++ [r])) (.i (L2 ++ [d])) (.v (L3 ++ [v]))) :=
      (HGN0.out.keep HAL.out).step (p := n * 3 + 2) (by omega) (by rw [FB_at2, HF02.out]; exact HG4.out) (v' := (.slice a4 n3 c4)) (x' := .v (L3 ++ [v])) (by rw [hv3]; unfold OwnR; simp only [List.length_append, List.length_cons, List.length_nil, Nat.zero_add, List.flatMap_append, List.flatMap_cons, List.flatMap_nil, List.append_nil]; rw [← HNV.out]; exact HOWN4.out) (by rw [FB_at2, HF02.out, hv3]; exact HAT4.out) (FB_step2 _ _ _ _ _ _ _ _) (FB_step2 _ _ _ _ _ _ _ _)
    have hset : Chg [bc] w4 w9 := by rw [hw9]; exact (Chg.refl [bc] w4).setCell (p := ⟨bc, 2, none⟩) (.inl (by simp)) (.slice a4 n3 c4)
    have hbcb : bc ≠ cb := by have := HBC.out; omega
    have z3 : Chg [cb] w1 w9 := ((HCX.out.trans HAL.out (by simp)).trans HS4.out (fun g hg => .inr (hlow g (by simpa using hg)))).trans hset (fun g hg => .inr (by simp at hg; have := HBC.out; have := HBW2.out; omega))
    have z5 : Chg (T19 cb (.slice ro nR rc) (.slice dO nD dc) (.slice vO nV vc)) w w9 := ((HC9.out.trans HAL.out (by simp)).trans HS4.out (fun g hg => .inl (by unfold T19; simp at hg; simp [hg]))).trans hset (fun g hg => .inr (by simp at hg; have := HBC.out; omega))
    have z4 : w9.heap[cb]? = some (.cells A 42 (0, 0)) := hset.heap (HS4.out.heap (HAL.out.heap HA9.out (by simp)) (fun hm => (tagged_of_own HRW.out).ne HA9.out (by decide) cb (by simpa using hm) rfl)) (by simp; exact fun e => hbcb e.symm)
    have HF9 := Lib.hid (HFIN.out w9 true (.slice a4 n3 c4) (.slice a4 n3 c4) (.v (L3 ++ [v])) HH.out z3 z5 z4 (hgr4.chg hset (hgr4.ne HBC4.out (by decide) (by decide))) (fun _ => by rw [HV.out (by first | rfl | trivial)]) (by simp [FB]))
    have hk0 : w4.cell? ⟨bc, 0, none⟩ = some (.slice av1 (nR + 1) cv1) := by rw [cell_of_row w4 bc _ _ _ _ HBC4.out, ← cell_of_row w' bc _ _ _ _ HAB.out]; exact K0X.out
    have hk1 : w4.cell? ⟨bc, 1, none⟩ = some (.slice av2 (nD + 1) cv2) := by rw [cell_of_row w4 bc _ _ _ _ HBC4.out, ← cell_of_row w' bc _ _ _ _ HAB.out]; exact K1X.out
    have z0 : w9.cell? ⟨bc, 0, none⟩ = some (.slice av1 (nR + 1) cv1) := by rw [hw9]; exact cell_set_ne HBC4.out (by decide) hk0 _
    have z1 : w9.cell? ⟨bc, 1, none⟩ = some (.slice av2 (nD + 1) cv2) := by rw [hw9]; exact cell_set_ne HBC4.out (by decide) hk1 _
    have z2 : w9.cell? ⟨bc, 2, none⟩ = some (.slice a4 n3 c4) := by rw [hw9]; exact cell_set_eq HBC4.out c2' _
    clear hn3 hv3 hw9 hgr4 hset hlow hk0 hk1 z5 c2' fz4 hld2 hb0 hb1 hfz hbcw hAb
  all_goals
    have y4' := (HK.out.hw w9 z3).2.2.2.2
    have y2' := (HK.out.hw w9 z3).2.2.1
    rw [lfs_len] at y2'
    have x0' : w9.cell? ⟨lg, loff + i, none⟩ = some (.int .i64 (n : Int)) := by
      obtain ⟨g', o', e', hc'⟩ := (HK.out.hl w9 z3).at (show 0 < (lfs l).length by rw [lfs_len, ← HLN.out]; omega)
      injection e' with e'
      injection e' with e1' e2'
      rw [e1', e2']
      simpa using hc' i _ 0 _ HLF.out rfl
    rw [← HLN.out] at y2'
    have ac0 : w9.cell? ⟨cb, n * 3, none⟩ = some (F0 (n * 3)) := by rw [cell_of_row w9 cb _ _ _ _ z4]; exact HAF.out _ (by omega)
    have ac1 : w9.cell? ⟨cb, n * 3 + 1, none⟩ = some (F0 (n * 3 + 1)) := by rw [cell_of_row w9 cb _ _ _ _ z4]; exact HAF.out _ (by omega)
    have ac2 : w9.cell? ⟨cb, n * 3 + 2, none⟩ = some (F0 (n * 3 + 2)) := by rw [cell_of_row w9 cb _ _ _ _ z4]; exact HAF.out _ (by omega)
    have fz0 : w9.frozen? ⟨cb, n * 3, none⟩ = false := by simp [World.frozen?, z4]
    have fz1 : w9.frozen? ⟨cb, n * 3 + 1, none⟩ = false := by simp [World.frozen?, z4]
    have fz2 : w9.frozen? ⟨cb, n * 3 + 2, none⟩ = false := by simp [World.frozen?, z4]
    have dc0 : w9.drew.cell? ⟨cb, n * 3, none⟩ = some (F0 (n * 3)) := ac0
    have dc1 : w9.drew.cell? ⟨cb, n * 3 + 1, none⟩ = some (F0 (n * 3 + 1)) := ac1
    have dc2 : w9.drew.cell? ⟨cb, n * 3 + 2, none⟩ = some (F0 (n * 3 + 2)) := ac2
    have df0 : w9.drew.frozen? ⟨cb, n * 3, none⟩ = false := fz0
    have df1 : w9.drew.frozen? ⟨cb, n * 3 + 1, none⟩ = false := fz1
    have df2 : w9.drew.frozen? ⟨cb, n * 3 + 2, none⟩ = false := fz2
    clear z3 z4 y4 y2 x0 k0 k1 k2
    go_upto_region 5 with fail
    go_region
    go_wp2
    go_end0
    exact ⟨rfl, HF9.out.1.keep (Chg.refl [] _).drew hcb1, HF9.out.2.trans (KT.of (Chg.refl [] _).drew)⟩

end Go.Proofs.Ytfdmbpfpdijpdaa
