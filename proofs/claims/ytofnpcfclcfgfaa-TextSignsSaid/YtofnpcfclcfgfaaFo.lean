/- A schema's fields as a forest: what says how many it has, and has as many. -/
import Derived.Test.YtofnpcfclcfgfaaEq
import Derived.Test.YtofnpcfclcfgfaaVk
namespace Go.Proofs.Ytofnpcfclcfgfaa
open Go.RowKit
set_option linter.unusedVariables false

/-- Fields beside one another, groups with what is in them. -/
inductive Fo where
  | nil
  | leaf (f : F) (t : Fo)
  | group (f : F) (k t : Fo)

def Fo.flat : Fo → List F
  | .nil => []
  | .leaf f t => f :: t.flat
  | .group f k t => f :: (k.flat ++ t.flat)
def Fo.num : Fo → Nat
  | .nil => 0
  | .leaf _ t => t.num + 1
  | .group _ _ t => t.num + 1
/-- Each group says how many fields it has, a leaf none. -/
def Fo.ok : Fo → Prop
  | .nil => True
  | .leaf f t => f.k ≠ 0 ∧ f.c = 0 ∧ t.ok
  | .group f k t => f.k = 0 ∧ f.c = k.num ∧ k.ok ∧ t.ok

def kidsN (f : F) : Nat := if f.k = 0 then f.c.toNat else 0
/-- How many fields are still to come, where so many were to come ahead of l. -/
def need : Nat → List F → Option Nat
  | p, [] => some p
  | 0, _ :: _ => none
  | p + 1, f :: l => need (p + kidsN f) l

theorem fo_of (n : Nat) : ∀ (l : List F) (a b : Nat), l.length ≤ n → (∀ f ∈ l, (f.k = 0 → 0 ≤ f.c) ∧ (f.k ≠ 0 → f.c = 0)) → need (a + b) l = some 0 →
    ∃ (fo : Fo) (l2 : List F), fo.num = a ∧ l = fo.flat ++ l2 ∧ need b l2 = some 0 ∧ fo.ok := by
  induction n with
  | zero =>
    intro l a b hl _ h
    have : l = [] := List.eq_nil_of_length_eq_zero (by omega)
    subst this
    rw [need] at h
    injection h with h
    obtain rfl : a = 0 := by omega
    obtain rfl : b = 0 := by omega
    exact ⟨.nil, [], rfl, rfl, rfl, trivial⟩
  | succ n ih =>
    intro l a b hl hf h
    cases a with
    | zero => exact ⟨.nil, l, rfl, rfl, by simpa using h, trivial⟩
    | succ a =>
      cases l with
      | nil => rw [need] at h; injection h with h; omega
      | cons f t =>
        have ht : t.length ≤ n := by simp at hl; omega
        have hft : ∀ f ∈ t, (f.k = 0 → 0 ≤ f.c) ∧ (f.k ≠ 0 → f.c = 0) := fun y hy => hf y (by simp [hy])
        have hff := hf f (by simp)
        rw [show a + 1 + b = (a + b) + 1 by omega, need] at h
        by_cases hk : f.k = 0
        · have hkn : kidsN f = f.c.toNat := by unfold kidsN; rw [if_pos hk]
          rw [hkn, Nat.add_comm] at h
          obtain ⟨fk, l2, h1, h2, h3, h4⟩ := ih t _ _ ht hft h
          have hl2 : l2.length ≤ n := by have := congrArg List.length h2; simp at this; omega
          obtain ⟨ft, l3, g1, g2, g3, g4⟩ := ih l2 a b hl2 (fun y hy => hft y (by rw [h2]; simp [hy])) h3
          refine ⟨.group f fk ft, l3, by simp [Fo.num, g1], by rw [h2, g2]; simp [Fo.flat], g3, hk, ?_, h4, g4⟩
          rw [h1]
          have := hff.1 hk
          omega
        · have hkn : kidsN f = 0 := by unfold kidsN; rw [if_neg hk]
          rw [hkn, Nat.add_zero] at h
          obtain ⟨ft, l3, g1, g2, g3, g4⟩ := ih t a b ht hft h
          exact ⟨.leaf f ft, l3, by simp [Fo.num, g1], by rw [g2]; simp [Fo.flat], g3, hk, hff.2 hk, g4⟩

/-- The stack of groups, as how many are still to come. -/
def pend (st : List (Nat × Int)) : Int := (st.map (·.2)).sum

theorem pend_pop {st : List (Nat × Int)} (h : ∀ e ∈ st, 0 ≤ e.2) : pend (popS st) = pend st ∧ (∀ e ∈ popS st, 0 ≤ e.2) ∧ (popS st ≠ [] → 1 ≤ pend st) := by
  induction st with
  | nil => exact ⟨rfl, h, fun h => absurd rfl h⟩
  | cons a t ih =>
    obtain ⟨g, x⟩ := a
    have hx := h (g, x) (by simp)
    simp only at hx
    obtain ⟨h1, h2, h3⟩ := ih fun e he => h e (by simp [he])
    have ht : 0 ≤ pend t := by
      unfold pend
      have : ∀ l : List (Nat × Int), (∀ e ∈ l, 0 ≤ e.2) → 0 ≤ (l.map (·.2)).sum := by
        intro l hl
        induction l with
        | nil => simp
        | cons y s ih => have := hl y (by simp); have := ih fun e he => hl e (by simp [he]); simp; omega
      exact this t fun e he => h e (by simp [he])
    by_cases h0 : x < 1
    · rw [popS, if_pos h0]
      refine ⟨?_, h2, fun hne => ?_⟩
      · rw [h1]; simp [pend]; omega
      · have := h3 hne; simp [pend] at *; omega
    · rw [popS, if_neg h0]
      refine ⟨rfl, h, fun _ => ?_⟩
      simp [pend] at *
      omega

theorem pop_head {st : List (Nat × Int)} {g : Nat} {x : Int} {t : List (Nat × Int)} (h : popS st = (g, x) :: t) : 1 ≤ x := by
  induction st with
  | nil => cases h
  | cons a s ih =>
    obtain ⟨g', x'⟩ := a
    rw [popS] at h
    split at h
    · exact ih h
    · injection h with h1 h2
      injection h1 with h3 h4
      omega

theorem need_of (l : List F) : ∀ (i : Nat) (st : List (Nat × Int)), (∀ e ∈ st, 0 ≤ e.2) → (∀ f ∈ l, (f.k = 0 → 0 ≤ f.c) ∧ (f.k ≠ 0 → f.c = 0)) → (∀ x ∈ par i l st, x ≠ -1) → pend st + (l.map F.c).sum = l.length → need (pend st).toNat l = some 0 := by
  induction l with
  | nil => intro i st _ _ _ h; simp at h; rw [h]; rfl
  | cons f l ih =>
    intro i st hst hf hp h
    obtain ⟨h1, h2, h3⟩ := pend_pop hst
    rw [par] at hp
    have htop := hp (topS (popS st)) (by simp)
    have hff := hf f (by simp)
    cases hq : popS st with
    | nil => rw [hq] at htop; exact absurd rfl htop
    | cons a t =>
      obtain ⟨g, x⟩ := a
      have hx := pop_head hq
      have hpos := h3 (by rw [hq]; simp)
      rw [hq] at h1 h2 hp
      have hdec : pend (decS ((g, x) :: t)) = pend st - 1 := by rw [← h1]; simp [pend, decS]; omega
      have hpush : pend (pushS i f (decS ((g, x) :: t))) = pend st - 1 + f.c := by
        unfold pushS
        by_cases hk : f.k = 0
        · rw [if_pos hk, ← hdec]; simp [pend]; omega
        · rw [if_neg hk, hdec, hff.2 hk]; omega
      have hnn : ∀ e ∈ pushS i f (decS ((g, x) :: t)), 0 ≤ e.2 := by
        have hd : ∀ e ∈ decS ((g, x) :: t), 0 ≤ e.2 := by
          intro e he
          rcases List.mem_cons.1 he with rfl | he
          · simp only; omega
          · exact h2 e (by simp [he])
        intro e he
        unfold pushS at he
        split at he
        · rename_i hk
          rcases List.mem_cons.1 he with rfl | he
          · exact hff.1 hk
          · exact hd e he
        · exact hd e he
      have hi := ih (i + 1) _ hnn (fun y hy => hf y (by simp [hy])) (fun y hy => hp y (by simp [hy])) (by rw [hpush]; simp at h; omega)
      have hkn : ((kidsN f : Nat) : Int) = f.c := by
        unfold kidsN
        by_cases hk : f.k = 0
        · rw [if_pos hk]; have := hff.1 hk; omega
        · rw [if_neg hk, hff.2 hk]; rfl
      obtain ⟨p, hp2⟩ : ∃ p : Nat, (pend st).toNat = p + 1 := ⟨(pend st).toNat - 1, by omega⟩
      rw [hp2, need]
      rw [hpush] at hi
      rw [show p + kidsN f = (pend st - 1 + f.c).toNat by omega]
      exact hi

/-- What the statements make is a root with a forest. -/
theorem mk_forest (ns : List Int) : ∃ (r : F) (fo : Fo), mk ns = r :: fo.flat ∧ r.k = 0 ∧ r.c = fo.num ∧ fo.ok ∧ r.r = 0 ∧ r.n = bm := by
  have hch := mk_chk ns
  rw [← refChk_eq] at hch
  have hpar := mk_parents ns
  obtain ⟨hr1, hr2, hr3⟩ := mk_root ns
  cases hm : mk ns with
  | nil => rw [hm] at hch; exact absurd hch (by decide)
  | cons r l =>
    rw [hm] at hpar hr1 hr2 hr3 hch
    have hff : ∀ f ∈ r :: l, (f.k = 0 → 0 ≤ f.c) ∧ (f.k ≠ 0 → f.c = 0) := by
      intro f hf
      rw [← hm] at hf
      obtain ⟨j, hj⟩ := List.mem_iff_getElem?.1 hf
      obtain ⟨-, h1, h2⟩ := mk_fields ns j f hj
      exact ⟨fun h => by have := h1 h; omega, h2⟩
    have hrk : r.k = 0 := hr3
    have hrc := (hff r (by simp)).1 hrk
    have hsum : ((r :: l).map F.c).sum = ((r :: l).length : Int) - 1 := by
      unfold refChk at hch
      split at hch
      · cases hch
      · split at hch
        · rename_i h0; exact absurd hch h0
        · split at hch
          · cases hch
          · split at hch
            · cases hch
            · rename_i h0; exact Classical.byContradiction h0
    have hpar2 : par 1 l [(0, r.c)] = (piM ns 0 startM).map fun (g : Nat) => (g : Int) := by
      unfold parents at hpar
      rw [par] at hpar
      injection hpar with _ h2
      have e : pushS 0 r (decS (popS [])) = [(0, r.c)] := by unfold pushS; rw [if_pos hrk]; rfl
      rw [e] at h2
      exact h2
    have hn := need_of l 1 [(0, r.c)] (by intro e he; simp at he; subst he; exact hrc) (fun f hf => hff f (by simp [hf])) (by
      intro x hx
      rw [hpar2] at hx
      obtain ⟨g, _, rfl⟩ := List.mem_map.1 hx
      omega) (by simp [pend]; simp at hsum; omega)
    have hp1 : (pend [(0, r.c)]).toNat = r.c.toNat + 0 := by simp [pend]
    rw [hp1] at hn
    obtain ⟨fo, l2, h1, h2, h3, h4⟩ := fo_of l.length l _ 0 (Nat.le_refl _) (fun f hf => hff f (by simp [hf])) hn
    have hl2 : l2 = [] := by
      cases l2 with
      | nil => rfl
      | cons y s => rw [need] at h3; cases h3
    rw [hl2, List.append_nil] at h2
    exact ⟨r, fo, by rw [h2], hrk, by rw [h1]; omega, h4, hr2, hr1⟩

end Go.Proofs.Ytofnpcfclcfgfaa
