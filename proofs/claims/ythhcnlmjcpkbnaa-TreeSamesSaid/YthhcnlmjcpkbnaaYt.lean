/- Two walks side by side. -/
import Derived.Test.YthhcnlmjcpkbnaaYp
import Derived.Test.YthhcnlmjcpkbnaaYm
import Derived.Test.YthhcnlmjcpkbnaaYs
namespace Go.Proofs.Ythhcnlmjcpkbnaa
open Go.RowKit
set_option linter.unusedVariables false

theorem lens_nil {S : List (List Tr)} (h : S.map List.length = ([] : List (List Tr)).map List.length) : S = [] := by
  cases S with
  | nil => rfl
  | cons x r => simp at h

theorem pop_len : ∀ (A B : List (List Tr)), A.map List.length = B.map List.length → (popE A).map List.length = (popE B).map List.length ∧ (A = B ↔ popE A = popE B)
  | [], B, h => by rw [lens_nil h.symm]; exact ⟨rfl, Iff.rfl⟩
  | x :: r, [], h => by simp at h
  | [] :: r, y :: q, h => by
    rw [List.map_cons, List.map_cons] at h
    injection h with h1 h2
    cases y with
    | cons t y => simp at h1
    | nil =>
      have ih := pop_len r q h2
      rw [popE, popE]
      exact ⟨ih.1, ⟨fun h => by injection h with _ h; exact ih.2.1 h, fun h => by rw [ih.2.2 h]⟩⟩
  | (t :: x) :: r, y :: q, h => by
    have h' := h
    rw [List.map_cons, List.map_cons] at h
    injection h with h1 h2
    cases y with
    | nil => simp at h1
    | cons u y => rw [popE, popE]; exact ⟨h', Iff.rfl⟩

theorem pop_shape (S : List (List Tr)) : popE S = [] ∨ ∃ t x r, popE S = (t :: x) :: r := by
  induction S with
  | nil => exact .inl rfl
  | cons y S ih =>
    cases y with
    | nil => rw [popE]; exact ih
    | cons t x => exact .inr ⟨t, x, S, rfl⟩

theorem flat_inj : ∀ {a b : List (List Tr)}, a.map List.length = b.map List.length → a.flatten = b.flatten → a = b
  | [], b, h, _ => (lens_nil h.symm).symm
  | x :: r, [], h, _ => by simp at h
  | x :: r, y :: q, h, he => by
    rw [List.map_cons, List.map_cons] at h
    injection h with h1 h2
    rw [List.flatten_cons, List.flatten_cons] at he
    have h3 := List.append_inj he h1
    rw [h3.1, flat_inj h2 h3.2]

theorem flat_len {a b : List (List Tr)} (h : a.map List.length = b.map List.length) : a.flatten.length = b.flatten.length := by
  rw [List.length_flatten, List.length_flatten, h]

theorem next_none {A B : List (List Tr)} (h : A.map List.length = B.map List.length) (hn : nextS A = none) : A = B ∧ nextS B = none := by
  obtain ⟨h1, h2⟩ := pop_len A B h
  unfold nextS at hn
  rcases pop_shape A with h3 | ⟨t, x, r, h3⟩
  · rw [h3] at h1
    have h4 := lens_nil h1.symm
    exact ⟨h2.2 (by rw [h3, h4]), by unfold nextS; rw [h4]⟩
  · rw [h3] at hn; cases hn

theorem next_some {A B : List (List Tr)} {t : Tr} {A' : List (List Tr)} (h : A.map List.length = B.map List.length) (hn : nextS A = some (t, A')) : ∃ u B', nextS B = some (u, B') ∧ ((t.n = u.n ∧ t.s = u.s ∧ t.k.map List.length = u.k.map List.length) → A'.map List.length = B'.map List.length ∧ (A = B ↔ A' = B')) ∧ (¬ (t.n = u.n ∧ t.s = u.s ∧ t.k.map List.length = u.k.map List.length) → A ≠ B) := by
  obtain ⟨h1, h2⟩ := pop_len A B h
  unfold nextS at hn
  rcases pop_shape A with h3 | ⟨t', x, r, h3⟩
  · rw [h3] at hn; cases hn
  · rw [h3] at hn
    injection hn with hn
    injection hn with e1 e2
    subst e1 e2
    rcases pop_shape B with h4 | ⟨u, y, q, h4⟩
    · rw [h3, h4] at h1; simp at h1
    · refine ⟨u, u.k.flatten :: y :: q, by unfold nextS; rw [h4], fun ha => ?_, fun hna he => ?_⟩
      · rw [h3, h4, List.map_cons, List.map_cons] at h1
        injection h1 with q1 q2
        have q3 : x.length = y.length := by simpa using q1
        refine ⟨by rw [List.map_cons, List.map_cons, List.map_cons, List.map_cons, flat_len ha.2.2, q3, q2], ?_⟩
        rw [h2, h3, h4]
        constructor
        · intro he
          injection he with e1 e2
          injection e1 with e1 e3
          rw [e1, e2, e3]
        · intro he
          injection he with e1 e2
          injection e2 with e2 e3
          rw [Tr.ext' ha.1 ha.2.1 (flat_inj ha.2.2 e1), e2, e3]
      · rw [h2, h3, h4] at he
        injection he with e1 e2
        injection e1 with e1 e3
        exact hna (by rw [e1]; exact ⟨rfl, rfl, rfl⟩)

theorem Wk.far2 {X : List Nat} {w0 w w' : World} {gw : Nat} {sv : Value} {P : List Pl} {d : Nat} {S : List Nat} (h : Wk X w0 w gw sv P d) (hc : Chg S w w') (h1 : ∀ g ∈ wkB gw sv, g ∉ S) (h3 : ∀ g ∈ S, g ∈ X ∨ w0.heap.size ≤ g) : Wk X w0 w' gw sv P d :=
  ⟨h.hk, h.hl, h.c0.trans hc h3, hc.heap h.bw (h1 gw (by simp [wkB])), own_chg h.ow hc fun g hg => h1 g (by simp [wkB, hg]), h.ne, h.g0⟩

theorem Wk.lts {X : List Nat} {w0 w : World} {gw : Nat} {sv : Value} {P : List Pl} {d : Nat} (h : Wk X w0 w gw sv P d) : ∀ g ∈ wkB gw sv, g < w.heap.size := by
  intro g hg
  unfold wkB at hg
  rcases List.mem_cons.1 hg with h1 | h1
  · rw [h1]; exact Go.lt_of_block h.bw
  · simp at h1; exact (h.ow.lt g h1).2

theorem wkB_next {gw n : Nat} {sv sv' : Value} (h : sv'.ownBlock = sv.ownBlock ∨ ∃ g, sv'.ownBlock = some g ∧ n ≤ g) : ∀ g ∈ wkB gw sv', g ∈ wkB gw sv ∨ n ≤ g := by
  intro g hg
  unfold wkB at hg ⊢
  rcases List.mem_cons.1 hg with h1 | h1
  · left; rw [h1]; simp
  · simp at h1
    rcases h with h2 | ⟨g2, h2, h3⟩
    · left; rw [h2] at h1; simp [h1]
    · right; rw [h2] at h1; injection h1 with h1; omega

/-- Two walks, apart. -/
structure Two (w w1 w2 : World) (X : List Nat) (w' : World) (gA : Nat) (sA : Value) (PA : List Pl) (gB : Nat) (sB : Value) (PB : List Pl) (d : Nat) : Prop where
  a : Wk [] w1 w' gA sA PA d
  b : Wk X w2 w' gB sB PB d
  c : Chg [] w w'
  na : ∀ g ∈ wkB gA sA, w.heap.size ≤ g
  nb : ∀ g ∈ wkB gB sB, w.heap.size ≤ g
  dis : ∀ g ∈ wkB gA sA, g ∉ wkB gB sB
  xb : ∀ g ∈ wkB gA sA, g ∈ X ∨ w2.heap.size ≤ g
  xa : ∀ g ∈ wkB gB sB, w1.heap.size ≤ g

theorem Two.keep {w w1 w2 w' w3 : World} {X : List Nat} {gA gB d : Nat} {sA sB : Value} {PA PB : List Pl} (h : Two w w1 w2 X w' gA sA PA gB sB PB d) (hc : Chg [] w' w3) : Two w w1 w2 X w3 gA sA PA gB sB PB d :=
  ⟨h.a.far2 hc (by simp) (by simp), h.b.far2 hc (by simp) (by simp), h.c.trans hc (by simp), h.na, h.nb, h.dis, h.xb, h.xa⟩

theorem Two.bfar {w w1 w2 w' w3 : World} {X : List Nat} {gA gB d : Nat} {sA sB : Value} {PA PB : List Pl} (h : Two w w1 w2 X w' gA sA PA gB sB PB d) (hc : Chg (wkB gA sA) w' w3) : Wk X w2 w3 gB sB PB d ∧ Chg [] w w3 :=
  ⟨h.b.far2 hc (fun g hg hm => h.dis g hm hg) h.xb, h.c.trans hc fun g hg => .inr (h.na g hg)⟩

theorem Two.stepA {w w1 w2 w' w3 : World} {X : List Nat} {gA gB d : Nat} {sA sA' sB : Value} {PA PA' PB : List Pl} (h : Two w w1 w2 X w' gA sA PA gB sB PB d) (hc : Chg (wkB gA sA) w' w3) (hW : Wk [] w1 w3 gA sA' PA' d) (hs : sA'.ownBlock = sA.ownBlock ∨ ∃ g, sA'.ownBlock = some g ∧ w'.heap.size ≤ g) : Two w w1 w2 X w3 gA sA' PA' gB sB PB d := by
  obtain ⟨hb, hw⟩ := h.bfar hc
  have hn := wkB_next (gw := gA) hs
  refine ⟨hW, hb, hw, fun g hg => ?_, h.nb, fun g hg hm => ?_, fun g hg => ?_, h.xa⟩
  · rcases hn g hg with h1 | h1
    · exact h.na g h1
    · exact Nat.le_trans h.c.size h1
  · rcases hn g hg with h1 | h1
    · exact h.dis g h1 hm
    · have := h.b.lts g hm; omega
  · rcases hn g hg with h1 | h1
    · exact h.xb g h1
    · exact .inr (Nat.le_trans h.b.c0.size h1)

theorem Two.stepB {w w1 w2 w' w3 : World} {X : List Nat} {gA gB d : Nat} {sA sB sB' : Value} {PA PB PB' : List Pl} (h : Two w w1 w2 X w' gA sA PA gB sB PB d) (hc : Chg (wkB gB sB) w' w3) (hW : Wk X w2 w3 gB sB' PB' d) (hs : sB'.ownBlock = sB.ownBlock ∨ ∃ g, sB'.ownBlock = some g ∧ w'.heap.size ≤ g) : Two w w1 w2 X w3 gA sA PA gB sB' PB' d := by
  have hn := wkB_next (gw := gB) hs
  refine ⟨h.a.far2 hc h.dis fun g hg => .inr (h.xa g hg), hW, h.c.trans hc fun g hg => .inr (h.nb g hg), h.na, fun g hg => ?_, fun g hg hm => ?_, h.xb, fun g hg => ?_⟩
  · rcases hn g hg with h1 | h1
    · exact h.nb g h1
    · exact Nat.le_trans h.c.size h1
  · rcases hn g hm with h1 | h1
    · exact h.dis g hg h1
    · have := h.a.lts g hg; omega
  · rcases hn g hg with h1 | h1
    · exact h.xa g h1
    · exact Nat.le_trans h.a.c0.size h1

end Go.Proofs.Ythhcnlmjcpkbnaa
