/- The reference's check as lists: depths, sums, what lacks. (For SchemaChecks.) -/
import Derived.Test.YtofnpcfclcfgfaaVm
namespace Go.Proofs.Ytofnpcfclcfgfaa
open Go.RowKit
set_option linter.unusedVariables false

/-! ### no group has more fields than it says -/

theorem pop_mem {st : List (Nat × Int)} : popS st <:+ st := by
  induction st with
  | nil => exact List.suffix_refl _
  | cons a t ih =>
    obtain ⟨g, x⟩ := a
    rw [popS]
    split
    · exact ih.trans (List.suffix_cons _ _)
    · exact List.suffix_refl _

theorem desc_lt {b : Nat} {st : List (Nat × Int)} (h : Desc b st) : ∀ e ∈ st, e.1 < b := by
  induction st generalizing b with
  | nil => intro e he; cases he
  | cons a t ih =>
    obtain ⟨g, x⟩ := a
    intro e he
    rcases List.mem_cons.1 he with rfl | h1
    · exact h.1
    · have := ih h.2 e h1
      have := h.1
      omega

theorem desc_one {b : Nat} {st : List (Nat × Int)} (h : Desc b st) {g : Nat} {x y : Int} (hx : (g, x) ∈ st) (hy : (g, y) ∈ st) : x = y := by
  induction st generalizing b with
  | nil => cases hx
  | cons a t ih =>
    obtain ⟨q, z⟩ := a
    rcases List.mem_cons.1 hx with h1 | h1
    · rcases List.mem_cons.1 hy with h2 | h2
      · rw [← h2] at h1; injection h1
      · injection h1 with e1 e2
        have := desc_lt h.2 _ h2
        simp only at this
        omega
    · rcases List.mem_cons.1 hy with h2 | h2
      · injection h2 with e1 e2
        have := desc_lt h.2 _ h1
        simp only at this
        omega
      · exact ih h.2 h1 h2

theorem top_ne {b g : Nat} {st : List (Nat × Int)} (h : ∀ x t, st ≠ (g, x) :: t) : ¬ topS st = (g : Int) := by
  cases st with
  | nil => simp only [topS]; omega
  | cons a t =>
    obtain ⟨q, z⟩ := a
    intro e
    simp only [topS] at e
    have e2 : q = g := by omega
    subst e2
    exact h z t rfl

theorem dec_mem {st : List (Nat × Int)} {g : Nat} {x : Int} (h : ∀ y t, st ≠ (g, y) :: t) : (g, x) ∈ decS st ↔ (g, x) ∈ st := by
  cases st with
  | nil => exact Iff.rfl
  | cons a t =>
    obtain ⟨q, z⟩ := a
    simp only [decS, List.mem_cons, Prod.mk.injEq]
    constructor
    · rintro (⟨h1, -⟩ | h1)
      · exact absurd (by rw [h1]) (h z t)
      · exact .inr h1
    · rintro (⟨h1, -⟩ | h1)
      · exact absurd (by rw [h1]) (h z t)
      · exact .inr h1

theorem par_count (l : List F) : ∀ (i : Nat) (st : List (Nat × Int)), Desc i st → ∀ g : Nat,
    (g < i → ∀ x, (g, x) ∈ st → (((par i l st).count (g : Int) : Nat) : Int) ≤ max x 0) ∧
    (g < i → (∀ x, (g, x) ∉ st) → (par i l st).count (g : Int) = 0) ∧
    (i ≤ g → (((par i l st).count (g : Int) : Nat) : Int) ≤ max (l.getD (g - i) default).c 0) := by
  induction l with
  | nil =>
    intro i st _ g
    refine ⟨fun _ x _ => ?_, fun _ _ => rfl, fun _ => ?_⟩
    · simp [par]; omega
    · simp [par]; omega
  | cons f l ih =>
    intro i st hd g
    have hdp := hd.pop
    have hdn : Desc (i + 1) (pushS i f (decS (popS st))) := hd.pop.dec.push f
    obtain ⟨i1, i2, i3⟩ := ih (i + 1) _ hdn g
    have hcons : ∀ b : Bool, (topS (popS st) == (g : Int)) = b → (par i (f :: l) st).count (g : Int) = (par (i + 1) l (pushS i f (decS (popS st)))).count (g : Int) + (if b then 1 else 0) := by
      intro b hb
      rw [par, List.count_cons, hb]
    have hpush : ∀ x, g < i → ((g, x) ∈ pushS i f (decS (popS st)) ↔ (g, x) ∈ decS (popS st)) := by
      intro x hg
      unfold pushS
      split
      · rw [List.mem_cons]
        constructor
        · rintro (h1 | h1)
          · injection h1 with h2 _; omega
          · exact h1
        · exact .inr
      · exact Iff.rfl
    by_cases htop : ∃ x t, popS st = (g, x) :: t
    · obtain ⟨x0, t0, ht⟩ := htop
      have hg : g < i := by rw [ht] at hdp; exact hdp.1
      have hx1 : 1 ≤ x0 := by
        have : ∀ s : List (Nat × Int), popS s = (g, x0) :: t0 → 1 ≤ x0 := by
          intro s
          induction s with
          | nil => intro h; cases h
          | cons a s ihs =>
            obtain ⟨q, z⟩ := a
            intro h
            rw [popS] at h
            split at h
            · exact ihs h
            · injection h with h1 h2
              injection h1 with h3 h4
              omega
        exact this st ht
      have hb := hcons true (by rw [ht]; simp [topS])
      have hm : (g, x0) ∈ st := (pop_mem (st := st)).subset (by rw [ht]; simp)
      have h1 := i1 (by omega) (x0 - 1) ((hpush _ hg).2 (by rw [ht]; simp [decS]))
      refine ⟨fun _ x hx => ?_, fun _ hn => absurd hm (hn x0), fun h => by omega⟩
      have := desc_one hd hx hm
      subst this
      rw [hb]
      simp only [if_true]
      omega
    · have hne : ∀ x t, popS st ≠ (g, x) :: t := fun x t h => htop ⟨x, t, h⟩
      have hb := hcons false (by simpa using top_ne (b := 0) hne)
      simp only [Bool.false_eq_true, if_false, Nat.add_zero] at hb
      refine ⟨fun hg x hx => ?_, fun hg hn => ?_, fun hg => ?_⟩
      · rw [hb]
        by_cases hp : (g, x) ∈ popS st
        · exact i1 (by omega) x ((hpush x hg).2 ((dec_mem hne).2 hp))
        · rw [i2 (by omega) (fun y hy => by
            have h1 := (dec_mem hne).1 ((hpush y hg).1 hy)
            have h2 := desc_one hd hx (pop_mem.subset h1)
            subst h2
            exact hp h1)]
          omega
      · rw [hb]
        exact i2 (by omega) (fun y hy => hn y (pop_mem.subset ((dec_mem hne).1 ((hpush y hg).1 hy))))
      · rw [hb]
        by_cases e : g = i
        · subst e
          rw [Nat.sub_self, List.getD_cons_zero]
          by_cases hk : f.k = 0
          · exact i1 (by omega) f.c (by unfold pushS; rw [if_pos hk]; simp)
          · rw [i2 (by omega) (fun y hy => by
              unfold pushS at hy
              rw [if_neg hk] at hy
              have := desc_lt hdp.dec _ hy
              simp only at this
              omega)]
            omega
        · have h1 := i3 (by omega)
          rw [show g - i = (g - (i + 1)) + 1 by omega, List.getD_cons_succ]
          exact h1

/-- No group has more fields than it says. -/
theorem parents_count (l : List F) (g : Nat) : (((parents l).count (g : Int) : Nat) : Int) ≤ max (l.getD g default).c 0 := by
  have h := (par_count l 0 [] trivial g).2.2 (by omega)
  rw [Nat.sub_zero] at h
  exact h

theorem sum_count (l : List Int) (n : Nat) (h : ∀ x ∈ l, 0 ≤ x ∧ x < n) : ((List.range n).map fun (g : Nat) => l.count (g : Int)).sum = l.length := by
  induction l with
  | nil =>
    have e : ∀ m : Nat, ((List.range m).map fun (g : Nat) => ([] : List Int).count (g : Int)).sum = 0 := by
      intro m
      induction m with
      | zero => rfl
      | succ m ihm => simp only [List.range_succ, List.map_append, List.sum_append, ihm]; simp
    exact e n
  | cons a l ih =>
    have ha := h a (by simp)
    have h1 := ih fun x hx => h x (by simp [hx])
    have e : ((List.range n).map fun (g : Nat) => (a :: l).count (g : Int)) = (List.range n).map fun (g : Nat) => l.count (g : Int) + (if g = a.toNat then 1 else 0) := by
      apply List.map_congr_left
      intro g hg
      rw [List.count_cons]
      congr 1
      by_cases h2 : g = a.toNat
      · rw [if_pos h2, if_pos (by simp; omega)]
      · rw [if_neg h2, if_neg (by simp; omega)]
    have hs : ∀ (f k : Nat → Nat) (m : Nat), ((List.range m).map fun g => f g + k g).sum = ((List.range m).map f).sum + ((List.range m).map k).sum := by
      intro f k m
      induction m with
      | zero => rfl
      | succ m ihm => simp only [List.range_succ, List.map_append, List.sum_append, ihm, List.map_cons, List.map_nil, List.sum_cons, List.sum_nil]; omega
    have ho : ∀ m : Nat, ((List.range m).map fun (g : Nat) => if g = a.toNat then 1 else 0).sum = if a.toNat < m then 1 else 0 := by
      intro m
      induction m with
      | zero => simp
      | succ m ihm =>
        simp only [List.range_succ, List.map_append, List.sum_append, ihm, List.map_cons, List.map_nil, List.sum_cons, List.sum_nil]
        split <;> split <;> split <;> omega
    rw [e, hs, h1, ho, if_pos (by omega), List.length_cons]

/-- Sums of numbers of which each is at most the other. -/
theorem sum_le_eq (f k : Nat → Nat) (n : Nat) (h : ∀ g, g < n → f g ≤ k g) : ((List.range n).map f).sum ≤ ((List.range n).map k).sum ∧ (((List.range n).map f).sum = ((List.range n).map k).sum ↔ ∀ g, g < n → f g = k g) := by
  induction n with
  | zero => simp
  | succ n ih =>
    obtain ⟨h1, h2⟩ := ih fun g hg => h g (by omega)
    have h3 := h n (by omega)
    simp only [List.range_succ, List.map_append, List.sum_append, List.map_cons, List.map_nil, List.sum_cons, List.sum_nil]
    refine ⟨by omega, fun he g hg => ?_, fun he => ?_⟩
    · by_cases e : g = n
      · subst e; omega
      · exact h2.1 (by omega) g (by omega)
    · have := h2.2 fun g hg => he g (by omega)
      have := he n (by omega)
      omega

/-! ### depths -/

def depthsR (l : List F) : List Int := depR 0 l []

theorem popR_suffix (st : List (Nat × Int)) : popR st <:+ st := by
  induction st with
  | nil => exact List.suffix_refl _
  | cons a t ih =>
    obtain ⟨g, x⟩ := a
    rw [popR]
    split
    · exact ih.trans (List.suffix_cons _ _)
    · exact List.suffix_refl _

theorem dec_get {st : List (Nat × Int)} {p g : Nat} {x : Int} (h : (decS st)[p]? = some (g, x)) : ∃ y, st[p]? = some (g, y) := by
  cases st with
  | nil => simp [decS] at h
  | cons a t =>
    obtain ⟨q, z⟩ := a
    cases p with
    | zero => simp [decS] at h; exact ⟨z, by simp [h.1]⟩
    | succ p => simp only [decS, List.getElem?_cons_succ] at h; exact ⟨x, by simpa using h⟩

@[simp] theorem dec_length (st : List (Nat × Int)) : (decS st).length = st.length := by cases st <;> simp [decS]

theorem depR_eq (F0 : List F) (l : List F) : ∀ (i : Nat) (R : List (Nat × Int)), (i = 0 → R = []) → i + l.length = F0.length → (parents F0).drop i = parR i l R → (depthsR F0).drop i = depR i l R → (∀ (p g : Nat) (x : Int), R[p]? = some (g, x) → (depths F0).getD g 0 = (R.length : Int) - 1 - p) →
    ∀ j, i ≤ j → j < F0.length → (∀ k, i ≤ k → k ≤ j → 0 < k → (parents F0).getD k 0 ≠ -1) → (depthsR F0).getD j 0 = (depths F0).getD j 0 := by
  induction l with
  | nil =>
    intro i R _ hl _ _ _ j hj hjl _
    simp at hl
    omega
  | cons f l ih =>
    intro i R h0 hl hp hdr hR j hj hjl hk
    simp only [List.length_cons] at hl
    have hpi : (parents F0)[i]? = some (topS (popR R)) := by
      have h1 := congrArg (fun l : List Int => l[0]?) hp
      simp only [List.getElem?_drop, Nat.add_zero] at h1
      rw [h1]; rfl
    have hdi : (depthsR F0)[i]? = some (((popR R).length : Nat) : Int) := by
      have h1 := congrArg (fun l : List Int => l[0]?) hdr
      simp only [List.getElem?_drop, Nat.add_zero] at h1
      rw [h1]; rfl
    have hpop : ∀ (p g : Nat) (x : Int), (popR R)[p]? = some (g, x) → (depths F0).getD g 0 = ((popR R).length : Int) - 1 - p := by
      intro p g x h
      obtain ⟨pre, hpre⟩ := popR_suffix R
      have hpl : R.length = pre.length + (popR R).length := by have h2 := congrArg List.length hpre; rw [List.length_append] at h2; omega
      have hre : R[p + pre.length]? = (popR R)[p]? := by
        have h2 := congrArg (fun l : List (Nat × Int) => l[p + pre.length]?) hpre
        rw [← h2, List.getElem?_append_right (by omega), Nat.add_sub_cancel]
      have h1 := hR (p + pre.length) g x (by rw [hre]; exact h)
      rw [h1]
      omega
    have hdepi : (depths F0).getD i 0 = ((popR R).length : Int) := by
      rw [dep_at F0 i (by omega), List.getD, hpi]
      simp only [Option.getD_some]
      by_cases hi0 : i = 0
      · rw [h0 hi0, hi0]; rfl
      · have hne := hk i (Nat.le_refl _) hj (by omega)
        rw [List.getD, hpi] at hne
        simp only [Option.getD_some] at hne
        rw [if_pos (by omega)]
        unfold cat
        rw [if_neg hne]
        cases hq : popR R with
        | nil => rw [hq] at hne; exact absurd rfl hne
        | cons a t =>
          obtain ⟨g, x⟩ := a
          have h1 := hpop 0 g x (by rw [hq]; rfl)
          rw [hq] at h1
          simp only [topS, Int.toNat_natCast]
          rw [h1]
          omega
    by_cases hji : j = i
    · rw [hji, List.getD, hdi, hdepi]
      rfl
    · refine ih (i + 1) (pushR i f (decS (popR R))) (by omega) (by omega) ?_ ?_ ?_ j (by omega) hjl (fun k h1 h2 h3 => hk k (by omega) h2 h3)
      · rw [← List.drop_drop, hp]; rfl
      · rw [← List.drop_drop, hdr]; rfl
      · intro p g x h
        unfold pushR at h ⊢
        split at h
        · rename_i hc
          rw [if_pos hc]
          cases p with
          | zero =>
            simp at h
            rw [← h.1, hdepi, List.length_cons, dec_length]
            omega
          | succ p =>
            rw [List.getElem?_cons_succ] at h
            obtain ⟨y, hy⟩ := dec_get h
            rw [hpop p g y hy, List.length_cons, dec_length]
            omega
        · rename_i hc
          rw [if_neg hc]
          obtain ⟨y, hy⟩ := dec_get h
          rw [hpop p g y hy, dec_length]

theorem depths_eq (l : List F) (j : Nat) (hj : j < l.length) (hk : ∀ k, k ≤ j → 0 < k → (parents l).getD k 0 ≠ -1) : (depthsR l).getD j 0 = (depths l).getD j 0 :=
  depR_eq l l 0 [] (fun _ => rfl) (by omega) (by rw [List.drop_zero, parR_parents]) rfl (by simp) j (Nat.zero_le _) hj (fun k _ h2 h3 => hk k h2 h3)

end Go.Proofs.Ytofnpcfclcfgfaa
