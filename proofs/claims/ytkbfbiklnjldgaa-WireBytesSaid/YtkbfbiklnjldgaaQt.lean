/- project's take: a field is kept, all that is in it, and the groups that it is in. -/
import Derived.Test.YtkbfbiklnjldgaaQf
import Derived.Test.YtkbfbiklnjldgaaA8
namespace Go.Proofs.Ytkbfbiklnjldgaa
open Go.RowKit
set_option linter.unusedVariables false

theorem wp_scope2 {P : Program} {a : Act} {w : World} {Q : Exit → Act → World → Prop} {c r0 r1 : Code} (J0 J1 : Act → World → Prop) (n : Nat) (m0 m1 : Act → World → Nat)
    (h0 : findLabel c 0 = some (.seq .skip r0)) (h1 : findLabel c 1 = some (.seq .skip r1)) (hm : ∀ a w, J1 a w → m1 a w ≤ n)
    (p0 : ∀ a w, J0 a w → (∀ T : Exit → Act → World → Prop, (∀ a1 w1, J1 a1 w1 → T (.goto 1) a1 w1) → (∀ a1 w1, J0 a1 w1 → m0 a1 w1 < m0 a w → T (.goto 0) a1 w1) → (∀ e a1 w1, (∀ l, e ≠ .goto l) → Q e a1 w1 → T e a1 w1) → (∀ a1 w1, J1 a1 w1 → r1.wp P T a1 w1) → r0.wp P T a w))
    (p1 : ∀ a w, J1 a w → r1.wp P (Exit.jumps (fun l' a' w' => l' = 1 ∧ J1 a' w' ∧ m1 a' w' < m1 a w) Q) a w)
    (first : (∀ T : Exit → Act → World → Prop, (∀ a1 w1, J1 a1 w1 → T (.goto 1) a1 w1) → (∀ a1 w1, J0 a1 w1 → T (.goto 0) a1 w1) → (∀ e a1 w1, (∀ l, e ≠ .goto l) → Q e a1 w1 → T e a1 w1) → (∀ a1 w1, J0 a1 w1 → r0.wp P T a1 w1) → c.wp P T a w)) : (Code.scope c).wp P Q a w := by
  have q1 : ∀ (T : Exit → Act → World → Prop), (∀ a1 w1, J1 a1 w1 → T (.goto 1) a1 w1) → (∀ e a1 w1, (∀ l, e ≠ .goto l) → Q e a1 w1 → T e a1 w1) → ∀ a1 w1, J1 a1 w1 → r1.wp P T a1 w1 := by
    intro T t1 t2 a1 w1 hj
    refine wp_mono (p1 a1 w1 hj) fun e a' w' h => ?_
    cases e with
    | goto l => obtain ⟨rfl, h2, -⟩ := h; exact t1 _ _ h2
    | _ => exact t2 _ _ _ (fun l hl => by cases hl) h
  have q0 : ∀ (T : Exit → Act → World → Prop), (∀ a1 w1, J1 a1 w1 → T (.goto 1) a1 w1) → (∀ a1 w1, J0 a1 w1 → T (.goto 0) a1 w1) → (∀ e a1 w1, (∀ l, e ≠ .goto l) → Q e a1 w1 → T e a1 w1) → ∀ a1 w1, J0 a1 w1 → r0.wp P T a1 w1 := fun T t1 t0 t2 a1 w1 hj =>
    p0 a1 w1 hj T t1 (fun a2 w2 h _ => t0 a2 w2 h) t2 (q1 T t1 t2)
  refine wp_scope_labels (fun l a w => (l = 0 ∧ J0 a w) ∨ (l = 1 ∧ J1 a w)) (fun l a w => if l = 0 then n + 1 + m0 a w else m1 a w) ?_ ?_ ?_
  · rintro l a w (⟨rfl, -⟩ | ⟨rfl, -⟩)
    · exact ⟨_, h0⟩
    · exact ⟨_, h1⟩
  · refine first _ (fun a1 w1 h => .inr ⟨rfl, h⟩) (fun a1 w1 h => .inl ⟨rfl, h⟩) (fun e a1 w1 hne h => ?_) (q0 _ (fun a1 w1 h => .inr ⟨rfl, h⟩) (fun a1 w1 h => .inl ⟨rfl, h⟩) (fun e a1 w1 hne h => ?_))
    all_goals
      cases e with
      | goto l => exact absurd rfl (hne l)
      | _ => exact h
  · rintro l rest a w hl (⟨rfl, hj⟩ | ⟨rfl, hj⟩)
    · rw [h0] at hl; injection hl with hl; subst hl
      refine wp_seq (wp_skip (p0 a w hj _ (fun a1 w1 h => ⟨.inr ⟨rfl, h⟩, ?_⟩) (fun a1 w1 h hlt => ⟨.inl ⟨rfl, h⟩, ?_⟩) (fun e a1 w1 hne h => ?_) ?_))
      · have := hm a1 w1 h
        simp only [if_true, Nat.one_ne_zero, if_false]
        omega
      · simp only [if_true]
        omega
      · cases e with
        | goto l => exact absurd rfl (hne l)
        | _ => exact h
      · refine q1 _ (fun a1 w1 h => ⟨.inr ⟨rfl, h⟩, ?_⟩) (fun e a1 w1 hne h => ?_)
        · have := hm a1 w1 h
          simp only [if_true, Nat.one_ne_zero, if_false]
          omega
        · cases e with
          | goto l => exact absurd rfl (hne l)
          | _ => exact h
    · rw [h1] at hl; injection hl with hl; subst hl
      refine wp_seq (wp_skip (wp_mono (p1 a w hj) fun e a' w' h => ?_))
      cases e with
      | goto l =>
        obtain ⟨rfl, h2, h3⟩ := h
        exact ⟨.inr ⟨rfl, h2⟩, by simpa using h3⟩
      | _ => exact h

/-- A row of truths in a block of its own. -/
def BlkK (w : World) (g n : Nat) (κ : Nat → Bool) : Prop := w.heap[g]? = some (.cells ((List.range n).map fun j => Value.bool (κ j)).toArray 4 (0, 0))

theorem BlkK.cell {w : World} {g n : Nat} {κ : Nat → Bool} (h : BlkK w g n κ) {j : Nat} (hj : j < n) : w.cell? ⟨g, j, none⟩ = some (.bool (κ j)) := by
  rw [cell_of_row w g j _ _ _ h]
  simp [hj]

theorem BlkK.frozen {w : World} {g n : Nat} {κ : Nat → Bool} (h : BlkK w g n κ) (i : Nat) : w.frozen? ⟨g, i, none⟩ = false := by
  unfold BlkK at h
  simp [World.frozen?, h]

theorem BlkK.chg {w w' : World} {S : List Nat} {g n : Nat} {κ : Nat → Bool} (h : BlkK w g n κ) (hc : Chg S w w') (hg : g ∉ S) : BlkK w' g n κ := hc.heap h hg

theorem BlkK.set {w : World} {g n : Nat} {κ : Nat → Bool} (h : BlkK w g n κ) (i : Nat) : BlkK (w.setCell ⟨g, i, none⟩ (.bool true)) g n (fun j => κ j || decide (j = i)) := by
  unfold BlkK at h ⊢
  rw [heap_set h]
  congr 2
  apply Array.ext'
  simp only [Array.toList_setIfInBounds]
  apply List.ext_getElem?
  intro j
  by_cases hj : j = i
  · subst hj
    by_cases hjn : j < n
    · rw [List.getElem?_set_self (by simpa using hjn)]
      simp [hjn]
    · rw [List.getElem?_eq_none (by simp; omega), List.getElem?_eq_none (by simp; omega)]
  · rw [List.getElem?_set_ne (fun e => hj e.symm)]
    by_cases hjn : j < n
    · simp [hjn, hj]
    · rw [List.getElem?_eq_none (by simp; omega), List.getElem?_eq_none (by simp; omega)]

theorem BlkK.lt {w : World} {g n : Nat} {κ : Nat → Bool} (h : BlkK w g n κ) : g < w.heap.size := Go.lt_of_block h

/-- Field i is in field j, or is it. -/
inductive Up (ps : List Int) : Nat → Nat → Prop
  | refl (i : Nat) : Up ps i i
  | step {i k j : Nat} : ps[i]? = some (k : Int) → Up ps k j → Up ps i j

theorem Up.snoc {ps : List Int} {i j k : Nat} (h : Up ps i j) (hk : ps[j]? = some (k : Int)) : Up ps i k := by
  induction h with
  | refl i => exact .step hk (.refl k)
  | step h1 h2 ih => exact .step h1 (ih hk)

theorem Up.line {ps : List Int} {i j k : Nat} (h : Up ps i j) (h2 : Up ps i k) : Up ps j k ∨ Up ps k j := by
  induction h with
  | refl i => exact .inl h2
  | @step i m j h1 h3 ih =>
    cases h2 with
    | refl => exact .inr (.step h1 h3)
    | @step _ k2 _ h4 h5 =>
      rw [h1] at h4
      injection h4 with h4
      have e : m = k2 := by omega
      subst e
      exact ih h5

theorem Up.le {l : List F} {i j : Nat} (h : Up (parents l) i j) : j ≤ i := by
  induction h with
  | refl i => exact Nat.le_refl _
  | step h1 h2 ih =>
    have := parents_lt h1
    omega

/-- Field j stands in the run behind field f. -/
def Sub (ps : List Int) (f j : Nat) : Prop := f ≤ j ∧ ∀ k, f < k → k ≤ j → (f : Int) ≤ ps.getD k 0

abbrev TF (x : Int) (Bk Bs Bi i : Nat) (u : Nat → Value) : Act :=
  { tmps := #[.int .i64 x, .pointer (some ⟨Bk, 0, none⟩), .pointer (some ⟨Bs, 0, none⟩), .pointer (some ⟨Bi, 0, none⟩), u 4, .int .i64 (i : Int), u 6, u 7, u 8, u 9, u 10, u 11, u 12, u 13, u 14, u 15, u 16, u 17, u 18, u 19, u 20, u 21, u 22, u 23, u 24, u 25, u 26, u 27, u 28, u 29, u 30, u 31, u 32], defers := [] }
theorem TF_of {x : Int} {Bk Bs Bi i : Nat} {a : Act} (h : a = TF x Bk Bs Bi i (fun j => a.tmps.getD j undef)) : ∃ u, a = TF x Bk Bs Bi i u := ⟨_, h⟩

/-- What the closure reads: the row that it writes, the schema, its fields' groups. -/
structure TkM (l : List F) (w : World) (Bk Bs Bi gk gi n : Nat) (sv : Value) : Prop where
  hn : n = l.length
  ck : w.cell? ⟨Bk, 0, none⟩ = some (.slice (some ⟨gk, 0, none⟩) n n)
  cs : w.cell? ⟨Bs, 0, none⟩ = some sv
  ci : w.cell? ⟨Bi, 0, none⟩ = some (.slice (some ⟨gi, 0, none⟩) n n)
  bi : BlkI w gi (parents l)
  ss : SeenF w sv l
  d1 : gk ≠ Bk
  d2 : gk ≠ Bs
  d3 : gk ≠ Bi
  d4 : gk ≠ gi

/-- Ahead of within: the fields from f to i - 1 are kept. -/
structure T0 (l : List F) (w w' : World) (gk n : Nat) (κ : Nat → Bool) (f i : Nat) : Prop where
  fi : f ≤ i
  il : i < n
  sb : Sub (parents l) f i
  bk : ∃ κ', BlkK w' gk n κ' ∧ ∀ j, j < n → (κ' j = true ↔ κ j = true ∨ (f ≤ j ∧ j < i))
  cg : Chg [gk] w w'

/-- Ahead of up: what is in f is kept, and the groups behind x. -/
structure T1 (l : List F) (w w' : World) (gk n : Nat) (κ : Nat → Bool) (f x : Nat) : Prop where
  xl : x < n
  up : Up (parents l) f x
  bk : ∃ κ', BlkK w' gk n κ' ∧ ∀ j, j < n → (κ' j = true ↔ κ j = true ∨ Sub (parents l) f j ∨ (Up (parents l) f j ∧ x < j))
  cg : Chg [gk] w w'

/-- What take leaves. -/
def TakeK (l : List F) (κ : Nat → Bool) (f : Nat) (κ' : Nat → Bool) : Prop := ∀ j, j < l.length → (κ' j = true ↔ κ j = true ∨ Sub (parents l) f j ∨ Up (parents l) f j)

theorem Sub.self (ps : List Int) (f : Nat) : Sub ps f f := ⟨Nat.le_refl _, fun k h1 h2 => absurd h1 (by omega)⟩

theorem set_iff {κ' : Nat → Bool} {x j : Nat} {A : Prop} (h : κ' j = true ↔ A) : (κ' j || decide (j = x)) = true ↔ A ∨ j = x := by
  rw [Bool.or_eq_true, h, decide_eq_true_iff]

theorem T0.start {l : List F} {w : World} {gk n : Nat} {κ : Nat → Bool} {f : Nat} (h : BlkK w gk n κ) (hf : f < n) : T0 l w w gk n κ f f :=
  ⟨Nat.le_refl _, hf, Sub.self _ _, ⟨κ, h, fun j _ => ⟨.inl, fun h => h.elim id fun h => absurd h.1 (by omega)⟩⟩, Chg.refl _ _⟩

theorem T0.next {l : List F} {w w' w2 : World} {gk n : Nat} {κ κ' : Nat → Bool} {f i : Nat} (h : T0 l w w' gk n κ f i) (hk : ∀ j, j < n → (κ' j = true ↔ κ j = true ∨ (f ≤ j ∧ j < i))) (hb : BlkK w2 gk n (fun j => κ' j || decide (j = i))) (hc : Chg [gk] w w2) (hi : i + 1 < n) (hp : (f : Int) ≤ (parents l).getD (i + 1) 0) : T0 l w w2 gk n κ f (i + 1) := by
  have hfi := h.fi
  refine ⟨by omega, hi, ⟨by omega, fun k h1 h2 => ?_⟩, ⟨_, hb, fun j hj => ?_⟩, hc⟩
  · by_cases e : k = i + 1
    · rw [e]; exact hp
    · exact h.sb.2 k h1 (by omega)
  · rw [set_iff (hk j hj)]
    constructor
    · rintro ((h1 | h1) | h1)
      · exact .inl h1
      · exact .inr (by omega)
      · exact .inr (by omega)
    · rintro (h1 | h1)
      · exact .inl (.inl h1)
      · by_cases e : j = i
        · exact .inr e
        · exact .inl (.inr (by omega))

theorem T0.last {l : List F} {w w' w2 : World} {gk n : Nat} {κ κ' : Nat → Bool} {f i : Nat} (h : T0 l w w' gk n κ f i) (hk : ∀ j, j < n → (κ' j = true ↔ κ j = true ∨ (f ≤ j ∧ j < i))) (hb : BlkK w2 gk n (fun j => κ' j || decide (j = i))) (hc : Chg [gk] w w2) (hi : i + 1 = n ∨ ¬ (f : Int) ≤ (parents l).getD (i + 1) 0) : T1 l w w2 gk n κ f f := by
  have hfi := h.fi
  refine ⟨by have := h.il; omega, .refl f, ⟨_, hb, fun j hj => ?_⟩, hc⟩
  rw [set_iff (hk j hj)]
  constructor
  · rintro ((h1 | h1) | h1)
    · exact .inl h1
    · exact .inr (.inl ⟨h1.1, fun k h2 h3 => h.sb.2 k h2 (by omega)⟩)
    · exact .inr (.inl ⟨by omega, fun k h2 h3 => h.sb.2 k h2 (by omega)⟩)
  · rintro (h1 | h1 | ⟨h1, h2⟩)
    · exact .inl (.inl h1)
    · by_cases e : j ≤ i
      · by_cases e2 : j = i
        · exact .inr e2
        · exact .inl (.inr ⟨h1.1, by omega⟩)
      · exfalso
        rcases hi with hi | hi
        · omega
        · exact hi (h1.2 (i + 1) (by omega) (by omega))
    · exact absurd h1.le (by omega)

theorem T1.next {l : List F} {w w' w2 : World} {gk n : Nat} {κ κ' : Nat → Bool} {f x q : Nat} (h : T1 l w w' gk n κ f x) (hk : ∀ j, j < n → (κ' j = true ↔ κ j = true ∨ Sub (parents l) f j ∨ (Up (parents l) f j ∧ x < j))) (hb : BlkK w2 gk n (fun j => κ' j || decide (j = x))) (hc : Chg [gk] w w2) (hp : (parents l)[x]? = some (q : Int)) (hq : q < x) : T1 l w w2 gk n κ f q := by
  have hxl := h.xl
  refine ⟨by omega, h.up.snoc hp, ⟨_, hb, fun j hj => ?_⟩, hc⟩
  rw [set_iff (hk j hj)]
  constructor
  · rintro ((h1 | h1 | ⟨h1, h2⟩) | rfl)
    · exact .inl h1
    · exact .inr (.inl h1)
    · exact .inr (.inr ⟨h1, by omega⟩)
    · exact .inr (.inr ⟨h.up, hq⟩)
  · rintro (h1 | h1 | ⟨h1, h2⟩)
    · exact .inl (.inl h1)
    · exact .inl (.inr (.inl h1))
    · by_cases e : x < j
      · exact .inl (.inr (.inr ⟨h1, e⟩))
      · right
        rcases h.up.line h1 with h3 | h3
        · cases h3 with
          | refl => rfl
          | step h4 h5 =>
            rw [hp] at h4
            injection h4 with h4
            have := h5.le
            omega
        · have := h3.le
          omega

theorem T1.last {l : List F} {w w' : World} {gk n : Nat} {κ κ' : Nat → Bool} {f x : Nat} (h : T1 l w w' gk n κ f x) (hk : ∀ j, j < n → (κ' j = true ↔ κ j = true ∨ Sub (parents l) f j ∨ (Up (parents l) f j ∧ x < j))) (hn : n = l.length) (hp : (parents l)[x]? = some (-1)) : TakeK l κ f (fun j => κ' j || decide (j = x)) := by
  intro j hj
  rw [set_iff (hk j (by omega))]
  constructor
  · rintro ((h1 | h1 | ⟨h1, h2⟩) | rfl)
    · exact .inl h1
    · exact .inr (.inl h1)
    · exact .inr (.inr h1)
    · exact .inr (.inr h.up)
  · rintro (h1 | h1 | h1)
    · exact .inl (.inl h1)
    · exact .inl (.inr (.inl h1))
    · by_cases e : x < j
      · exact .inl (.inr (.inr ⟨h1, e⟩))
      · right
        rcases h.up.line h1 with h3 | h3
        · cases h3 with
          | refl => rfl
          | step h4 h5 =>
            rw [hp] at h4
            injection h4 with h4
            omega
        · have := h3.le
          omega

end Go.Proofs.Ytkbfbiklnjldgaa
