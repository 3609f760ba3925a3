/- Going through a tree: how a walk stands. -/
import Derived.Test.YthhcnlmjcpkbnaaYb
import Derived.Test.YthhcnlmjcpkbnaaYg
import Derived.Test.YthhcnlmjcpkbnaaA8
import Derived.Test.YthhcnlmjcpkbnaaMw
namespace Go.Proofs.Ythhcnlmjcpkbnaa
open Go.RowKit
set_option linter.unusedVariables false

theorem wp_scope_two {P : Program} {a : Act} {w : World} {Q : Exit → Act → World → Prop} {c r0 r1 : Code} (J0 J1 : Act → World → Prop) (m0 m1 : Act → World → Nat)
    (h0 : findLabel c 0 = some (.seq .skip r0)) (h1 : findLabel c 1 = some (.seq .skip r1))
    (p1 : ∀ a w, J1 a w → r1.wp P (Exit.jumps (fun l' a' w' => (l' = 0 ∧ J0 a' w' ∧ m0 a' w' < m1 a w) ∨ (l' = 1 ∧ J1 a' w' ∧ m1 a' w' < m1 a w)) Q) a w)
    (p0 : ∀ a w, J0 a w → ∀ T : Exit → Act → World → Prop, (∀ a1 w1, J1 a1 w1 → m1 a1 w1 ≤ m0 a w → r1.wp P T a1 w1) → (∀ e a1 w1, (∀ l, e ≠ .goto l) → Q e a1 w1 → T e a1 w1) → r0.wp P T a w)
    (first : ∀ T : Exit → Act → World → Prop, (∀ a1 w1, J0 a1 w1 → r0.wp P T a1 w1) → c.wp P T a w) : (Code.scope c).wp P Q a w := by
  refine wp_scope_labels (fun l a w => (l = 0 ∧ J0 a w) ∨ (l = 1 ∧ J1 a w)) (fun l a w => if l = 0 then m0 a w else m1 a w) ?_ ?_ ?_
  · rintro l a w (⟨rfl, -⟩ | ⟨rfl, -⟩)
    · exact ⟨_, h0⟩
    · exact ⟨_, h1⟩
  · refine first _ fun a1 w1 hj => p0 a1 w1 hj _ (fun a2 w2 hj2 _ => wp_mono (p1 a2 w2 hj2) fun e a' w' h => ?_) (fun e a1 w1 hne h => ?_)
    · cases e with
      | goto l =>
        rcases h with ⟨rfl, h2, -⟩ | ⟨rfl, h2, -⟩
        · exact .inl ⟨rfl, h2⟩
        · exact .inr ⟨rfl, h2⟩
      | _ => exact h
    · cases e with
      | goto l => exact absurd rfl (hne l)
      | _ => exact h
  · rintro l rest a w hl (⟨rfl, hj⟩ | ⟨rfl, hj⟩)
    · rw [h0] at hl; injection hl with hl; subst hl
      refine wp_seq (wp_skip (p0 a w hj _ (fun a2 w2 hj2 hle => wp_mono (p1 a2 w2 hj2) fun e a' w' h => ?_) (fun e a1 w1 hne h => ?_)))
      · cases e with
        | goto l =>
          rcases h with ⟨rfl, h2, h3⟩ | ⟨rfl, h2, h3⟩
          · exact ⟨.inl ⟨rfl, h2⟩, by simp only [if_true]; omega⟩
          · exact ⟨.inr ⟨rfl, h2⟩, by simp only [Nat.one_ne_zero, if_false, if_true]; omega⟩
        | _ => exact h
      · cases e with
        | goto l => exact absurd rfl (hne l)
        | _ => exact h
    · rw [h1] at hl; injection hl with hl; subst hl
      refine wp_seq (wp_skip (wp_mono (p1 a w hj) fun e a' w' h => ?_))
      cases e with
      | goto l =>
        rcases h with ⟨rfl, h2, h3⟩ | ⟨rfl, h2, h3⟩
        · exact ⟨.inl ⟨rfl, h2⟩, by simp; omega⟩
        · exact ⟨.inr ⟨rfl, h2⟩, by simp; omega⟩
      | _ => exact h

theorem least_of (p : Nat → Prop) : ∀ n, p n → ∃ m, p m ∧ m ≤ n ∧ ∀ k, p k → m ≤ k := by
  intro n
  induction n using Nat.strongRecOn with
  | _ n ih =>
    intro h
    by_cases hx : ∃ k, k < n ∧ p k
    · obtain ⟨k, h1, h2⟩ := hx
      obtain ⟨m, q1, q2, q3⟩ := ih k h1 h2
      exact ⟨m, q1, by omega, q3⟩
    · exact ⟨n, h, Nat.le_refl _, fun k hk => Nat.le_of_not_lt fun hlt => hx ⟨k, hlt, hk⟩⟩

open Classical in
/-- The least number of which p holds. -/
noncomputable def leastN (p : Nat → Prop) : Nat := if h : ∃ n, p n then Classical.choose (least_of p (Classical.choose h) (Classical.choose_spec h)) else 0

theorem leastN_spec {p : Nat → Prop} (h : ∃ n, p n) : p (leastN p) ∧ ∀ k, p k → leastN p ≤ k := by
  unfold leastN
  rw [dif_pos h]
  have := Classical.choose_spec (least_of p (Classical.choose h) (Classical.choose_spec h))
  exact ⟨this.1, this.2.2⟩

/-- wp_scope_two, the measure told by the invariants. -/
theorem wp_scope_two_n {P : Program} {a : Act} {w : World} {Q : Exit → Act → World → Prop} {c r0 r1 : Code} (J0 J1 : Nat → Act → World → Prop)
    (h0 : findLabel c 0 = some (.seq .skip r0)) (h1 : findLabel c 1 = some (.seq .skip r1))
    (p1 : ∀ n a w, J1 n a w → r1.wp P (Exit.jumps (fun l' a' w' => (l' = 0 ∧ ∃ n', n' < n ∧ J0 n' a' w') ∨ (l' = 1 ∧ ∃ n', n' < n ∧ J1 n' a' w')) Q) a w)
    (p0 : ∀ n a w, J0 n a w → ∀ T : Exit → Act → World → Prop, (∀ a1 w1, J1 n a1 w1 → r1.wp P T a1 w1) → (∀ e a1 w1, (∀ l, e ≠ .goto l) → Q e a1 w1 → T e a1 w1) → r0.wp P T a w)
    (first : ∀ T : Exit → Act → World → Prop, (∀ n a1 w1, J0 n a1 w1 → r0.wp P T a1 w1) → c.wp P T a w) : (Code.scope c).wp P Q a w := by
  refine wp_scope_two (fun a w => ∃ n, J0 n a w) (fun a w => ∃ n, J1 n a w) (fun a w => leastN fun n => J0 n a w) (fun a w => leastN fun n => J1 n a w) h0 h1 ?_ ?_ ?_
  · intro a w hj
    refine wp_mono (p1 _ a w (leastN_spec hj).1) fun e a' w' h => ?_
    cases e with
    | goto l =>
      rcases h with ⟨rfl, n', hlt, hj'⟩ | ⟨rfl, n', hlt, hj'⟩
      · exact .inl ⟨rfl, ⟨n', hj'⟩, Nat.lt_of_le_of_lt ((leastN_spec (p := fun n => J0 n a' w') ⟨n', hj'⟩).2 n' hj') hlt⟩
      · exact .inr ⟨rfl, ⟨n', hj'⟩, Nat.lt_of_le_of_lt ((leastN_spec (p := fun n => J1 n a' w') ⟨n', hj'⟩).2 n' hj') hlt⟩
    | _ => exact h
  · intro a w hj T hfall hQ
    exact p0 _ a w (leastN_spec hj).1 T (fun a1 w1 h => hfall a1 w1 ⟨_, h⟩ ((leastN_spec (p := fun n => J1 n a1 w1) ⟨_, h⟩).2 _ h)) hQ
  · exact fun T h => first T fun n a1 w1 hj => h a1 w1 ⟨n, hj⟩

theorem KidsIn.get {P : Nat → Prop} {w : World} {d n cap : Nat} {k : List (List Tr)} {ao : Option Addr} (h : KidsIn P w d k (.slice ao n cap)) (hn : 0 < n) : ∃ d' g off, d = d' + 1 ∧ ao = some ⟨g, off, none⟩ ∧ P g ∧ ∀ i l, k[i]? = some l → ∃ lv, w.cell? ⟨g, off + i, none⟩ = some lv ∧ ListIn P w d' l lv := by
  cases d with
  | zero => exact h.elim
  | succ d =>
    obtain ⟨R, rfl, h2, h4, h3⟩ := kidsIn_succ.1 h
    obtain ⟨ao2, cap2, he, -⟩ := h2.shape
    injection he with _ he _
    obtain ⟨g, off, rfl, hc⟩ := h2.at hn
    refine ⟨d, g, off, rfl, rfl, h4 (by omega) g rfl, fun i l hl => ?_⟩
    rw [List.getElem?_map] at hl
    cases hR : R[i]? with
    | none => rw [hR] at hl; cases hl
    | some p =>
      rw [hR] at hl
      simp at hl
      subst hl
      exact ⟨p.2, by simpa using hc i p 0 _ hR rfl, h3 p (List.mem_of_getElem? hR)⟩

theorem ListIn.get {P : Nat → Prop} {w : World} {d n cap : Nat} {l : List Tr} {ao : Option Addr} (h : ListIn P w d l (.slice ao n cap)) (hn : 0 < n) : ∃ g off, ao = some ⟨g, off, none⟩ ∧ P g ∧ ∀ j t, l[j]? = some t → ∃ kv, w.cell? ⟨g, off + j * 3, none⟩ = some (.int .i64 t.n) ∧ w.cell? ⟨g, off + j * 3 + 1, none⟩ = some (.string t.s) ∧ w.cell? ⟨g, off + j * 3 + 2, none⟩ = some kv ∧ KidsIn P w d t.k kv := by
  obtain ⟨R, rfl, h2, h4, h3⟩ := h
  obtain ⟨ao2, cap2, he, -⟩ := h2.shape
  injection he with _ he _
  obtain ⟨g, off, rfl, hc⟩ := h2.at hn
  refine ⟨g, off, rfl, h4 (by omega) g rfl, fun i l hl => ?_⟩
  rw [List.getElem?_map] at hl
  cases hR : R[i]? with
  | none => rw [hR] at hl; cases hl
  | some p =>
    rw [hR] at hl
    simp at hl
    subst hl
    exact ⟨p.2, by simpa using hc i p 0 _ hR rfl, hc i p 1 _ hR rfl, hc i p 2 _ hR rfl, h3 p (List.mem_of_getElem? hR)⟩

theorem KidsAt.in {w : World} : ∀ {d : Nat} {k : List (List Tr)} {v : Value}, KidsAt w d k v → KidsIn (fun _ => True) w d k v
  | 0, _, _, h => h
  | d + 1, k, v, ⟨R, h1, h2, h3⟩ => ⟨R, h1, h2, fun _ _ _ => trivial, fun p hp => by
    obtain ⟨E, q1, q2, q3⟩ := h3 p hp
    exact ⟨E, q1, q2, fun _ _ _ => trivial, fun q hq => (q3 q hq).in⟩⟩

/-- What new blocks take no part in. -/
theorem KidsAt.out {w : World} {X : List Nat} {d : Nat} {k : List (List Tr)} {v : Value} (h : KidsAt w d k v) (hX : ∀ g ∈ X, w.heap.size ≤ g) : KidsIn (fun g => g ∉ X) w d k v :=
  KidsIn.mono (fun g hg hm => absurd (hX g hm) (Nat.not_le_of_lt hg.2)) h.in.lt (Nat.le_refl _)

/-- Where a walk is in a value. -/
structure Pl where
  K : List (List Tr)
  v : Value
  li : Nat
  it : Nat

def encP (p : Pl) : List Value := [p.v, .int .i64 (p.li : Int), .int .i64 (p.it : Int)]
theorem encP_len (p : Pl) : (encP p).length = 3 := rfl

/-- What is still to come of a place. -/
def rem (p : Pl) : List Tr := ((p.K.drop p.li).headD []).drop p.it ++ (p.K.drop (p.li + 1)).flatten

/-- What is still to come, the innermost first. -/
def stk (P : List Pl) : List (List Tr) := (P.map rem).reverse

def popE : List (List Tr) → List (List Tr)
  | [] => []
  | [] :: r => popE r
  | (t :: x) :: r => (t :: x) :: r

/-- The next value, and what comes behind it. -/
def nextS (S : List (List Tr)) : Option (Tr × List (List Tr)) :=
  match popE S with
  | (t :: x) :: r => some (t, t.k.flatten :: x :: r)
  | _ => none

theorem stk_snoc (P : List Pl) (p : Pl) : stk (P ++ [p]) = rem p :: stk P := by simp [stk]

theorem rem_end {p : Pl} (h : p.li = p.K.length) (hit : p.it ≤ ((p.K.drop p.li).headD []).length) : rem p = [] := by
  have e1 : p.K.drop p.li = [] := List.drop_of_length_le (by omega)
  have e2 : p.K.drop (p.li + 1) = [] := List.drop_of_length_le (by omega)
  unfold rem
  rw [e1, e2]
  simp

theorem rem_on {p : Pl} {x : List Tr} (hx : p.K[p.li]? = some x) (hit : p.it = x.length) : rem p = rem { p with li := p.li + 1, it := 0 } := by
  have hl := (List.getElem?_eq_some_iff.1 hx).1
  rw [List.getElem?_eq_getElem hl] at hx
  injection hx with hx
  unfold rem
  rw [List.drop_eq_getElem_cons hl, hx, List.headD_cons, hit, List.drop_of_length_le (Nat.le_refl _), List.nil_append]
  show (p.K.drop (p.li + 1)).flatten = ((p.K.drop (p.li + 1)).headD []).drop 0 ++ (p.K.drop (p.li + 1 + 1)).flatten
  cases h : p.K.drop (p.li + 1) with
  | nil =>
    have e : p.K.drop (p.li + 1 + 1) = [] := List.drop_of_length_le (by have := List.drop_eq_nil_iff.1 h; omega)
    rw [e]
    simp
  | cons y r =>
    have e : p.K.drop (p.li + 1 + 1) = r := by
      rw [← List.drop_drop, h]; rfl
    rw [e]
    simp

theorem rem_take {p : Pl} {x : List Tr} {t : Tr} (hx : p.K[p.li]? = some x) (ht : x[p.it]? = some t) : rem p = t :: rem { p with it := p.it + 1 } := by
  have hl := (List.getElem?_eq_some_iff.1 hx).1
  rw [List.getElem?_eq_getElem hl] at hx
  injection hx with hx
  have hl2 := (List.getElem?_eq_some_iff.1 ht).1
  rw [List.getElem?_eq_getElem hl2] at ht
  injection ht with ht
  unfold rem
  simp only
  rw [List.drop_eq_getElem_cons hl, hx, List.headD_cons, List.drop_eq_getElem_cons hl2, ht]
  rfl

theorem rem_new (K : List (List Tr)) (v : Value) : rem ⟨K, v, 0, 0⟩ = K.flatten := by
  unfold rem
  cases K with
  | nil => rfl
  | cons x r => simp

/-- How a walk stands in memory. -/
structure Wk (X : List Nat) (w0 w : World) (gw : Nat) (sv : Value) (P : List Pl) (d : Nat) : Prop where
  hk : ∀ i p, P[i]? = some p → KidsIn (fun g => g ∉ X) w0 (d - i) p.K p.v
  hl : ∀ p ∈ P, p.li ≤ p.K.length ∧ p.it ≤ ((p.K.drop p.li).headD []).length
  c0 : Chg X w0 w
  bw : w.heap[gw]? = some (.cells #[sv] 145 (0, 0))
  ow : w.ownsRow w0.heap.size 142 3 sv P.length (P.flatMap encP)
  ne : sv.ownBlock ≠ some gw
  g0 : w0.heap.size ≤ gw

/-- The blocks that a step of the walk may change. -/
def wkB (gw : Nat) (sv : Value) : List Nat := gw :: sv.ownBlock.toList

theorem Wk.depth {X : List Nat} {w0 w : World} {gw : Nat} {sv : Value} {P : List Pl} {d : Nat} (h : Wk X w0 w gw sv P d) : P.length ≤ d := by
  by_cases hp : P.length = 0
  · omega
  · have h1 := h.hk (P.length - 1) (P[P.length - 1]'(by omega)) (List.getElem?_eq_getElem (by omega))
    cases hd : d - (P.length - 1) with
    | zero => rw [hd] at h1; exact h1.elim
    | succ k => omega

theorem own_pop {w : World} {B T g n cap m s : Nat} {xs : List Value} (h : w.ownsRow B T s (.slice (some ⟨g, 0, none⟩) n cap) n xs) (hm : m ≤ n) : w.ownsRow B T s (.slice (some ⟨g, 0, none⟩) m cap) m (xs.take (m * s)) := by
  obtain ⟨hl, h1⟩ := h
  rcases h1 with ⟨he, -⟩ | ⟨g', cap', cur, he, hb, hg, hc, hmx, hs, ht⟩
  · cases he
  · injection he with e1 e2 e3
    injection e1 with e1
    injection e1 with e1
    subst e1 e3
    have hms : m * s ≤ n * s := Nat.mul_le_mul_right s hm
    refine ⟨by rw [List.length_take, hl]; omega, .inr ⟨g, cap, cur, rfl, hb, hg, by omega, hmx, hs, ?_⟩⟩
    rw [← ht, List.take_take, Nat.min_eq_left hms]

theorem flat_take {α : Type} {enc : α → List Value} {k : Nat} (hk : ∀ x, (enc x).length = k) (A B : List α) : ((A ++ B).flatMap enc).take (A.length * k) = A.flatMap enc := by
  rw [List.flatMap_append, List.take_append_of_le_length (by rw [flat_length hk]; exact Nat.le_refl _), List.take_of_length_le (by rw [flat_length hk]; exact Nat.le_refl _)]

theorem flat_set (P : List Pl) (p : Pl) (j : Nat) (v : Value) (hj : j < 3) : ((P ++ [p]).flatMap encP).set (P.length * 3 + j) v = P.flatMap encP ++ (encP p).set j v := by
  rw [List.flatMap_append, List.flatMap_singleton, List.set_append_right _ _ (by rw [flat_length encP_len]; omega), flat_length encP_len]
  congr 2
  omega

/-- How much a walk has still to close. -/
def plM (P : List Pl) : Nat := P.length + (P.map fun p => p.K.length - p.li).sum

theorem plM_snoc (P : List Pl) (p : Pl) : plM (P ++ [p]) = plM P + 1 + (p.K.length - p.li) := by
  unfold plM
  simp
  omega

theorem nextS_pop {S S' : List (List Tr)} (h : popE S = popE S') : nextS S = nextS S' := by unfold nextS; rw [h]

/-- What next answers. -/
def NxOut (X : List Nat) (w0 w : World) (gw : Nat) (sv : Value) (P : List Pl) (d : Nat) (e : Ending) (w' : World) : Prop :=
  ((nextS (stk P) = none ∧ ∃ c : Nat, e = .returned (.tuple #[.agg #[.int .i64 0, .string { data := #[] }, .slice none 0 c], .bool false])) ∨
  ∃ t kv sv' P', e = .returned (.tuple #[tv t.n t.s kv, .bool true]) ∧ nextS (stk P) = some (t, stk P') ∧ KidsIn (fun g => g ∉ X) w0 d t.k kv ∧ Wk X w0 w' gw sv' P' d ∧ (sv'.ownBlock = sv.ownBlock ∨ ∃ g, sv'.ownBlock = some g ∧ w.heap.size ≤ g)) ∧ Chg (wkB gw sv) w w'

abbrev NF (gw gr : Nat) (u : Nat → Value) : Act :=
  { tmps := #[.pointer (some ⟨gw, 0, none⟩), u 1, .pointer (some ⟨gr, 0, none⟩), u 3, u 4, u 5, u 6, u 7, u 8, u 9, u 10, u 11, u 12, u 13, u 14, u 15, u 16, u 17, u 18, u 19, u 20, u 21, u 22, u 23, u 24, u 25, u 26, u 27, u 28, u 29, u 30, u 31, u 32, u 33, u 34, u 35, u 36, u 37, u 38, u 39, u 40, u 41, u 42, u 43, u 44, u 45, u 46, u 47, u 48, u 49, u 50, u 51, u 52, u 53, u 54, u 55, u 56, u 57, u 58, u 59, u 60, u 61, u 62, u 63, u 64, u 65, u 66, u 67, u 68, u 69, u 70, u 71, u 72, u 73, u 74, u 75, u 76, u 77, u 78, u 79, u 80, u 81, u 82, u 83, u 84, u 85, u 86, u 87, u 88, u 89, u 90, u 91, u 92, u 93, u 94, u 95, u 96, u 97, u 98, u 99, u 100, u 101, u 102, u 103, u 104, u 105, u 106, u 107, u 108, u 109, u 110, u 111], defers := [] }
theorem NF_of {gw gr : Nat} {a : Act} (h : a = NF gw gr (fun j => a.tmps.getD j undef)) : ∃ u, a = NF gw gr u := ⟨_, h⟩
abbrev NG (gw gr : Nat) (pa : Addr) (u : Nat → Value) : Act :=
  { tmps := #[.pointer (some ⟨gw, 0, none⟩), u 1, .pointer (some ⟨gr, 0, none⟩), u 3, .pointer (some pa), u 5, u 6, u 7, u 8, u 9, u 10, u 11, u 12, u 13, u 14, u 15, u 16, u 17, u 18, u 19, u 20, u 21, u 22, u 23, u 24, u 25, u 26, u 27, u 28, u 29, u 30, u 31, u 32, u 33, u 34, u 35, u 36, u 37, u 38, u 39, u 40, u 41, u 42, u 43, u 44, u 45, u 46, u 47, u 48, u 49, u 50, u 51, u 52, u 53, u 54, u 55, u 56, u 57, u 58, u 59, u 60, u 61, u 62, u 63, u 64, u 65, u 66, u 67, u 68, u 69, u 70, u 71, u 72, u 73, u 74, u 75, u 76, u 77, u 78, u 79, u 80, u 81, u 82, u 83, u 84, u 85, u 86, u 87, u 88, u 89, u 90, u 91, u 92, u 93, u 94, u 95, u 96, u 97, u 98, u 99, u 100, u 101, u 102, u 103, u 104, u 105, u 106, u 107, u 108, u 109, u 110, u 111], defers := [] }
theorem NG_of {gw gr : Nat} {pa : Addr} {a : Act} (h : a = NG gw gr pa (fun j => a.tmps.getD j undef)) : ∃ u, a = NG gw gr pa u := ⟨_, h⟩

/-- Ahead of up. -/
structure N0 (X : List Nat) (w0 w w' : World) (gw gr : Nat) (sv : Value) (P : List Pl) (d : Nat) (P1 : List Pl) (sv1 : Value) : Prop where
  wk : Wk X w0 w' gw sv1 P1 d
  sb : sv1.ownBlock = sv.ownBlock
  pe : popE (stk P1) = popE (stk P)
  cg : Chg (wkB gw sv) w w'
  br : w'.heap[gr]? = some (.cells #[.int .i64 0, .string { data := #[] }, .slice none 0 0] 30 (0, 0))

theorem N0.drew {X : List Nat} {w0 w w' : World} {gw gr : Nat} {sv : Value} {P : List Pl} {d : Nat} {P1 : List Pl} {sv1 : Value} (h : N0 X w0 w w' gw gr sv P d P1 sv1) (n : Nat) : N0 X w0 w (w'.drewN n) gw gr sv P d P1 sv1 := by
  obtain ⟨h1, h2, h3, h4, h5⟩ := h
  exact ⟨⟨h1.hk, h1.hl, h1.c0.drewN _, h1.bw, h1.ow, h1.ne, h1.g0⟩, h2, h3, h4.drewN _, h5⟩

theorem N0.pop {X : List Nat} {w0 w w' : World} {gw gr : Nat} {sv : Value} {P : List Pl} {d : Nat} {P1 : List Pl} {p : Pl} {go cap : Nat} (h : N0 X w0 w w' gw gr sv P d (P1 ++ [p]) (.slice (some ⟨go, 0, none⟩) (P1.length + 1) cap)) (hre : rem p = []) (hg : gr ≠ gw) :
    N0 X w0 w (w'.setCell ⟨gw, 0, none⟩ (.slice (some ⟨go, 0, none⟩) P1.length cap)) gw gr sv P d P1 (.slice (some ⟨go, 0, none⟩) P1.length cap) := by
  have hc : Chg [gw] w' (w'.setCell ⟨gw, 0, none⟩ (.slice (some ⟨go, 0, none⟩) P1.length cap)) := (Chg.refl [gw] w').setCell (by simp) _
  obtain ⟨h1, h2, h3, h4, h5⟩ := h
  refine ⟨⟨fun i q hq => h1.hk i q ?_, fun q hq => h1.hl q (by simp [hq]), h1.c0.trans hc (by have := h1.g0; simp; exact .inr this), ?_, ?_, h1.ne, h1.g0⟩, h2, ?_, h4.trans hc (by intro t ht; left; simp at ht; rw [ht]; simp [wkB]), hc.heap h5 (by simpa using hg)⟩
  · rw [List.getElem?_append_left (List.getElem?_eq_some_iff.1 hq).1]; exact hq
  · rw [heap_set h1.bw]; rfl
  · have ho := h1.ow
    rw [List.length_append, List.length_singleton] at ho
    have := own_pop (m := P1.length) ho (by omega)
    rw [flat_take encP_len] at this
    exact own_chg this hc (fun g hg hm => by simp at hm; rw [hm] at hg; exact h1.ne hg)
  · rw [← h3, stk_snoc, hre]; rfl

theorem Wk.set {X : List Nat} {w0 w' w2 : World} {gw : Nat} {d : Nat} {P1 : List Pl} {p p' : Pl} {go cap : Nat} (h : Wk X w0 w' gw (.slice (some ⟨go, 0, none⟩) (P1.length + 1) cap) (P1 ++ [p]) d) (hK : p'.K = p.K) (hv : p'.v = p.v) (hl' : p'.li ≤ p'.K.length ∧ p'.it ≤ ((p'.K.drop p'.li).headD []).length) (hc : Chg [go] w' w2)
    (how : w2.ownsRow w0.heap.size 142 3 (.slice (some ⟨go, 0, none⟩) (P1.length + 1) cap) (P1.length + 1) (P1.flatMap encP ++ encP p')) : Wk X w0 w2 gw (.slice (some ⟨go, 0, none⟩) (P1.length + 1) cap) (P1 ++ [p']) d := by
  have hgo : w0.heap.size ≤ go := own_ge how go rfl
  have hne : go ≠ gw := fun e => h.ne (by rw [e]; rfl)
  refine ⟨fun i q hq => ?_, fun q hq => ?_, h.c0.trans hc (by simp; exact .inr hgo), hc.heap h.bw (by simpa using hne.symm), ?_, h.ne, h.g0⟩
  · by_cases hi : i < P1.length
    · exact h.hk i q (by rw [List.getElem?_append_left hi] at hq ⊢; exact hq)
    · have hil := (List.getElem?_eq_some_iff.1 hq).1
      simp at hil
      have e : i = P1.length := by omega
      subst e
      simp at hq
      subst hq
      rw [hK, hv]
      exact h.hk P1.length p (by simp)
  · rcases List.mem_append.1 hq with hq | hq
    · exact h.hl q (by simp [hq])
    · simp at hq
      subst hq
      exact hl'
  · rw [List.flatMap_append, List.flatMap_singleton, List.length_append, List.length_singleton]
    exact how

theorem flat_set2 (P : List Pl) (p : Pl) (x y : Value) : (((P ++ [p]).flatMap encP).set (P.length * 3 + 1) x).set (P.length * 3 + 2) y = P.flatMap encP ++ [p.v, x, y] := by
  rw [flat_set P p 1 x (by decide), List.set_append_right _ _ (by rw [flat_length encP_len]; omega), flat_length encP_len]
  congr 1
  rw [show P.length * 3 + 2 - P.length * 3 = 2 by omega]
  rfl

theorem Wk.far {X : List Nat} {w0 w w' : World} {gw : Nat} {sv : Value} {P : List Pl} {d : Nat} {S : List Nat} (h : Wk X w0 w gw sv P d) (hc : Chg S w w') (h1 : gw ∉ S) (h2 : ∀ g, sv.ownBlock = some g → g ∉ S) (h3 : ∀ g ∈ S, w0.heap.size ≤ g) : Wk X w0 w' gw sv P d :=
  ⟨h.hk, h.hl, h.c0.trans hc fun t ht => .inr (h3 t ht), hc.heap h.bw h1, own_chg h.ow hc h2, h.ne, h.g0⟩

/-- A value's lists are opened. -/
theorem Wk.push {X : List Nat} {w0 w W w2 : World} {gw : Nat} {sv : Value} {Q : List Pl} {d : Nat} {n : Pl} {go cap : Nat} {v2 : Value} {o : Obj}
    (h : Wk X w0 W gw (.slice (some ⟨go, 0, none⟩) Q.length cap) Q d) (hc : Chg (wkB gw sv) w W) (hsb : sv.ownBlock = some go) (hk : KidsIn (fun g => g ∉ X) w0 (d - Q.length) n.K n.v) (hn : n.li = 0 ∧ n.it = 0)
    (hown : w2.ownsRow w0.heap.size 142 3 v2 (Q.length + 1) (Q.flatMap encP ++ encP n)) (hg : (W.alloc o).grownBy w2 (some go)) (hat : v2.ownBlock = some go ∨ v2.ownBlock = some (W.alloc o).heap.size) :
    Wk X w0 (w2.setCell ⟨gw, 0, none⟩ v2) gw v2 (Q ++ [n]) d ∧ Chg (wkB gw sv) w (w2.setCell ⟨gw, 0, none⟩ v2) ∧ (v2.ownBlock = sv.ownBlock ∨ ∃ g, v2.ownBlock = some g ∧ W.heap.size ≤ g) := by
  have hgo : w0.heap.size ≤ go := own_ge h.ow go rfl
  have hne : go ≠ gw := fun e => h.ne (by rw [e]; rfl)
  have hgl : gw < W.heap.size := Go.lt_of_block h.bw
  have hc2 : Chg [go] W w2 := ((Chg.refl [go] W).alloc o).grown hg (fun q hq => .inl (by injection hq with hq; simp [hq]))
  have hc3 : Chg [gw] w2 (w2.setCell ⟨gw, 0, none⟩ v2) := (Chg.refl [gw] w2).setCell (by simp) _
  have hv2 : v2.ownBlock ≠ some gw := by
    rcases hat with h1 | h1
    · rw [h1]; intro e; injection e with e; exact hne e
    · rw [h1]; intro e; injection e with e
      have : (W.alloc o).heap.size = W.heap.size + 1 := by simp
      omega
  refine ⟨⟨fun i q hq => ?_, fun q hq => ?_, (h.c0.trans hc2 (by simp; exact .inr hgo)).trans hc3 (by have := h.g0; simp; exact .inr this), ?_, ?_, hv2, h.g0⟩, ?_, ?_⟩
  · by_cases hi : i < Q.length
    · exact h.hk i q (by rw [List.getElem?_append_left hi] at hq; exact hq)
    · have hil := (List.getElem?_eq_some_iff.1 hq).1
      simp at hil
      have e : i = Q.length := by omega
      subst e
      simp at hq
      subst hq
      exact hk
  · rcases List.mem_append.1 hq with hq | hq
    · exact h.hl q hq
    · simp at hq
      subst hq
      rw [hn.1, hn.2]
      exact ⟨Nat.zero_le _, Nat.zero_le _⟩
  · rw [heap_set (hc2.heap h.bw (by simpa using hne.symm))]; rfl
  · rw [List.flatMap_append, List.flatMap_singleton, List.length_append, List.length_singleton]
    exact own_chg hown hc3 (fun g hg hm => by simp at hm; rw [hm] at hg; exact hv2 hg)
  · exact (hc.trans hc2 (by intro t ht; left; simp at ht; rw [ht]; unfold wkB; rw [hsb]; simp)).trans hc3 (by intro t ht; left; simp at ht; rw [ht]; simp [wkB])
  · rcases hat with h1 | h1
    · left; rw [h1, hsb]
    · right
      refine ⟨_, h1, ?_⟩
      have : (W.alloc o).heap.size = W.heap.size + 1 := by simp
      omega

theorem flat_set1 (P : List Pl) (p : Pl) (y : Value) : ((P ++ [p]).flatMap encP).set (P.length * 3 + 2) y = P.flatMap encP ++ [p.v, .int .i64 (p.li : Int), y] := by
  rw [flat_set P p 2 y (by decide)]
  rfl

/-- One list is done. -/
theorem N0.on {X : List Nat} {w0 w w' : World} {gw gr : Nat} {sv : Value} {P : List Pl} {d : Nat} {P1 : List Pl} {p : Pl} {go cap : Nat} {x : List Tr} (h : N0 X w0 w w' gw gr sv P d (P1 ++ [p]) (.slice (some ⟨go, 0, none⟩) (P1.length + 1) cap)) (hx : p.K[p.li]? = some x) (hit : p.it = x.length) (hg : gr ≠ go) :
    N0 X w0 w ((w'.setCell ⟨go, P1.length * 3 + 1, none⟩ (.int .i64 ((p.li : Int) + 1))).setCell ⟨go, P1.length * 3 + 2, none⟩ (.int .i64 0)) gw gr sv P d (P1 ++ [{ p with li := p.li + 1, it := 0 }]) (.slice (some ⟨go, 0, none⟩) (P1.length + 1) cap) := by
  have hc : Chg [go] w' ((w'.setCell ⟨go, P1.length * 3 + 1, none⟩ (.int .i64 ((p.li : Int) + 1))).setCell ⟨go, P1.length * 3 + 2, none⟩ (.int .i64 0)) := ((Chg.refl [go] w').setCell (by simp) _).setCell (by simp) _
  obtain ⟨h1, h2, h3, h4, h5⟩ := h
  have hl := (List.getElem?_eq_some_iff.1 hx).1
  have ho := h1.ow
  rw [List.length_append, List.length_singleton] at ho
  have ho2 := own_set (own_set ho (P1.length * 3 + 1) (by omega) (.int .i64 ((p.li : Int) + 1))) (P1.length * 3 + 2) (by omega) (.int .i64 0)
  rw [flat_set2] at ho2
  refine ⟨h1.set (p' := { p with li := p.li + 1, it := 0 }) rfl rfl ⟨hl, Nat.zero_le _⟩ hc ho2, h2, ?_, h4.trans hc (by intro t ht; left; simp at ht; rw [ht]; unfold wkB; rw [← h2]; simp [Value.ownBlock]), hc.heap h5 (by simpa using hg)⟩
  rw [← h3, stk_snoc, stk_snoc, rem_on hx hit]

end Go.Proofs.Ythhcnlmjcpkbnaa
