/- What is in a field stands in the run behind it. -/
import Derived.Test.YtkbfbiklnjldgaaQt
namespace Go.Proofs.Ytkbfbiklnjldgaa
open Go.RowKit
set_option linter.unusedVariables false

theorem Up.trans {ps : List Int} {i j k : Nat} (h : Up ps i j) (h2 : Up ps j k) : Up ps i k := by
  induction h with
  | refl i => exact h2
  | step h1 h3 ih => exact .step h1 (ih h2)

/-- The groups that are open lie in one another. -/
def Lk2 (ps : List Int) : List (Nat × Int) → Prop
  | [] => True
  | (g, _) :: t => ps[g]? = some (topS t) ∧ Lk2 ps t

theorem Lk2.pop {ps : List Int} : ∀ {st : List (Nat × Int)}, Lk2 ps st → Lk2 ps (popS st)
  | [], h => h
  | (g, x) :: t, h => by
    rw [popS]
    split
    · exact Lk2.pop h.2
    · exact h

theorem Lk2.dec {ps : List Int} {st : List (Nat × Int)} (h : Lk2 ps st) : Lk2 ps (decS st) := by
  cases st with
  | nil => exact h
  | cons a t => exact h

theorem topS_dec (st : List (Nat × Int)) : topS (decS st) = topS st := by
  cases st with
  | nil => rfl
  | cons a t => rfl

theorem Lk2.all {ps : List Int} : ∀ {st : List (Nat × Int)}, Lk2 ps st → ∀ {g : Nat}, topS st = (g : Int) → ∀ e ∈ st, Up ps g e.1
  | [], _, g, hg, e, he => by simp at he
  | (a, x) :: t, h, g, hg, e, he => by
    have hag : a = g := by
      have : (a : Int) = (g : Int) := hg
      omega
    subst hag
    rcases List.mem_cons.1 he with rfl | he
    · exact .refl _
    · cases t with
      | nil => simp at he
      | cons b t2 =>
        obtain ⟨b1, b2⟩ := b
        exact .step h.1 (Lk2.all (g := b1) h.2 rfl e he)

theorem mem_popS {st : List (Nat × Int)} {e : Nat × Int} (h : e ∈ popS st) : e ∈ st := by
  induction st with
  | nil => exact h
  | cons a t ih =>
    obtain ⟨g, x⟩ := a
    rw [popS] at h
    split at h
    · exact List.mem_cons_of_mem _ (ih h)
    · exact h

theorem mem_decS {st : List (Nat × Int)} {e : Nat × Int} (h : e ∈ decS st) : ∃ e2 ∈ st, e2.1 = e.1 := by
  cases st with
  | nil => exact absurd h (by simp [decS])
  | cons a t =>
    obtain ⟨g, x⟩ := a
    rcases List.mem_cons.1 h with rfl | h
    · exact ⟨(g, x), by simp, rfl⟩
    · exact ⟨e, by simp [h], rfl⟩

theorem topS_mem {st : List (Nat × Int)} : topS st = -1 ∨ ∃ e ∈ st, topS st = (e.1 : Int) := by
  cases st with
  | nil => exact .inl rfl
  | cons a t => exact .inr ⟨a, by simp, rfl⟩

theorem nest_aux (ps : List Int) : ∀ (r : List F) (i : Nat) (st : List (Nat × Int)), (∀ j x, (par i r st)[j]? = some x → ps[i + j]? = some x) → Lk2 ps st → (1 ≤ i → ∀ e ∈ st, Up ps (i - 1) e.1) → (i = 0 → st = []) →
    ∀ j x, (par i r st)[j]? = some x → x = -1 ∨ ∃ p : Nat, x = (p : Int) ∧ Up ps (i + j - 1) p := by
  intro r
  induction r with
  | nil => intro i st _ _ _ _ j x h; simp [par] at h
  | cons f r ih =>
    intro i st hps hlk hup h0 j x h
    rw [par] at hps h
    have hpi : ps[i]? = some (topS (popS st)) := by simpa using hps 0 _ rfl
    cases j with
    | zero =>
      simp at h
      subst h
      rcases topS_mem (st := popS st) with h1 | ⟨e, he, h1⟩
      · exact .inl h1
      · by_cases hi : i = 0
        · rw [h0 hi] at he; simp [popS] at he
        · exact .inr ⟨e.1, h1, by simpa using hup (by omega) e (mem_popS he)⟩
    | succ j =>
      have key := ih (i + 1) (pushS i f (decS (popS st))) (fun j x hx => by have := hps (j + 1) x hx; rwa [show i + 1 + j = i + (j + 1) by omega]) ?_ ?_ (fun h => by omega) j x (by simpa using h)
      · rwa [show i + (j + 1) - 1 = i + 1 + j - 1 by omega]
      · unfold pushS
        split
        · exact ⟨by rw [topS_dec]; exact hpi, hlk.pop.dec⟩
        · exact hlk.pop.dec
      · intro _ e he
        rw [Nat.add_sub_cancel]
        have hst : ∀ e ∈ decS (popS st), Up ps i e.1 := by
          intro e he
          obtain ⟨e2, he2, h2⟩ := mem_decS he
          rw [← h2]
          rcases topS_mem (st := popS st) with h1 | ⟨e3, he3, h1⟩
          · cases hp : popS st with
            | nil => rw [hp] at he2; simp at he2
            | cons a t => rw [hp] at h1; exact absurd h1 (by show (a.1 : Int) ≠ -1; omega)
          · rw [h1] at hpi
            exact .step hpi (hlk.pop.all h1 e2 he2)
        unfold pushS at he
        split at he
        · rcases List.mem_cons.1 he with rfl | he
          · exact .refl _
          · exact hst e he
        · exact hst e he

theorem nest (l : List F) {k : Nat} {x : Int} (h : (parents l)[k]? = some x) : x = -1 ∨ ∃ p : Nat, x = (p : Int) ∧ Up (parents l) (k - 1) p := by
  have := nest_aux (parents l) l 0 [] (fun j x hx => by rwa [Nat.zero_add]) trivial (fun h => by omega) (fun _ => rfl) k x h
  rwa [Nat.zero_add] at this

theorem up_between {l : List F} {f : Nat} : ∀ (i : Nat), Up (parents l) i f → ∀ k, f ≤ k → k ≤ i → Up (parents l) k f := by
  intro i
  induction i with
  | zero =>
    intro h k h1 h2
    have e : k = 0 := by omega
    rw [e]; exact h
  | succ i ih =>
    intro h k h1 h2
    by_cases e : k = i + 1
    · rw [e]; exact h
    · refine ih ?_ k h1 (by omega)
      cases h with
      | refl => omega
      | @step _ q _ h3 h4 =>
        rcases nest l h3 with h5 | ⟨p, h5, h6⟩
        · omega
        · have e2 : q = p := by omega
          subst e2
          rw [Nat.add_sub_cancel] at h6
          exact h6.trans h4

theorem sub_of_up {l : List F} {f i : Nat} (h : Up (parents l) i f) : Sub (parents l) f i := by
  refine ⟨h.le, fun k h1 h2 => ?_⟩
  have hk := up_between i h k (by omega) h2
  cases hk with
  | refl => omega
  | @step _ q _ h3 h4 =>
    rw [List.getD, h3]
    have := h4.le
    show (f : Int) ≤ q
    omega

theorem up_of_sub {l : List F} {f : Nat} : ∀ (i : Nat), i < l.length → Sub (parents l) f i → Up (parents l) i f := by
  intro i
  induction i using Nat.strongRecOn with
  | _ i ih =>
    intro hi h
    by_cases e : i = f
    · rw [e]; exact .refl f
    · have hfi := h.1
      have hx : (parents l)[i]? = some ((parents l).getD i 0) := by rw [List.getD, List.getElem?_eq_getElem (by simpa using hi)]; rfl
      have h1 := h.2 i (by omega) (Nat.le_refl _)
      have hlt := parents_lt hx
      obtain ⟨q, hq⟩ : ∃ q : Nat, (parents l).getD i 0 = (q : Int) := ⟨((parents l).getD i 0).toNat, by omega⟩
      rw [hq] at hx h1 hlt
      exact .step hx (ih q (by omega) (by omega) ⟨by omega, fun k h2 h3 => h.2 k h2 (by omega)⟩)

theorem sub_iff {l : List F} {f i : Nat} (hi : i < l.length) : Sub (parents l) f i ↔ Up (parents l) i f := ⟨up_of_sub i hi, sub_of_up⟩

end Go.Proofs.Ytkbfbiklnjldgaa
