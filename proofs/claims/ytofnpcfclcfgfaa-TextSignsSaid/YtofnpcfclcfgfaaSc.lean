/- A schema as a list: groups, depths, leaves, what is wrong with it. -/
import Derived.Test.YtofnpcfclcfgfaaFs
namespace Go.Proofs.Ytofnpcfclcfgfaa
open Go.RowKit
set_option linter.unusedVariables false

/-! ### groups -/

def popS : List (Nat × Int) → List (Nat × Int)
  | [] => []
  | (g, x) :: t => if x < 1 then popS t else (g, x) :: t
def topS : List (Nat × Int) → Int
  | [] => -1
  | (g, _) :: _ => g
def decS : List (Nat × Int) → List (Nat × Int)
  | [] => []
  | (g, x) :: t => (g, x - 1) :: t
def pushS (i : Nat) (f : F) (st : List (Nat × Int)) : List (Nat × Int) := if f.k = 0 then (i, f.c) :: st else st

def par : Nat → List F → List (Nat × Int) → List Int
  | _, [], _ => []
  | i, f :: l, st => topS (popS st) :: par (i + 1) l (pushS i f (decS (popS st)))

def parents (l : List F) : List Int := par 0 l []

@[simp] theorem par_length (i : Nat) (l : List F) (st : List (Nat × Int)) : (par i l st).length = l.length := by
  induction l generalizing i st with
  | nil => rfl
  | cons f l ih => simp [par, ih]
@[simp] theorem parents_length (l : List F) : (parents l).length = l.length := par_length _ _ _

theorem par_pop (i : Nat) (l : List F) (st : List (Nat × Int)) : par i l (popS st) = par i l st := by
  have h : popS (popS st) = popS st := by
    induction st with
    | nil => rfl
    | cons a t ih =>
      obtain ⟨g, x⟩ := a
      by_cases hx : x < 1
      · simp [popS, hx, ih]
      · simp [popS, hx]
  cases l with
  | nil => rfl
  | cons f l => simp [par, h]

/-- The groups that are open stand ahead, the inner ones behind the outer ones. -/
def Desc : Nat → List (Nat × Int) → Prop
  | _, [] => True
  | b, (g, _) :: t => g < b ∧ Desc g t

theorem Desc.mono {b c : Nat} {st : List (Nat × Int)} (h : Desc b st) (hbc : b ≤ c) : Desc c st := by
  cases st with
  | nil => trivial
  | cons a t => exact ⟨Nat.lt_of_lt_of_le h.1 hbc, h.2⟩
theorem Desc.pop {b : Nat} {st : List (Nat × Int)} (h : Desc b st) : Desc b (popS st) := by
  induction st generalizing b with
  | nil => trivial
  | cons a t ih =>
    obtain ⟨g, x⟩ := a
    by_cases hx : x < 1
    · simp only [popS, hx, if_true]
      exact (ih h.2).mono (Nat.le_of_lt h.1)
    · simp only [popS, hx, if_false]
      exact h
theorem Desc.dec {b : Nat} {st : List (Nat × Int)} (h : Desc b st) : Desc b (decS st) := by
  cases st with
  | nil => trivial
  | cons a t => exact h
theorem Desc.push {i : Nat} {st : List (Nat × Int)} (h : Desc i st) (f : F) : Desc (i + 1) (pushS i f st) := by
  unfold pushS
  split
  · exact ⟨Nat.lt_succ_self i, h⟩
  · exact h.mono (Nat.le_succ i)
theorem topS_lt {b : Nat} {st : List (Nat × Int)} (h : Desc b st) : topS st = -1 ∨ 0 ≤ topS st ∧ topS st < b := by
  cases st with
  | nil => exact .inl rfl
  | cons a t => exact .inr ⟨by simp [topS], by have := h.1; simp [topS]; omega⟩

theorem par_lt (l : List F) : ∀ (i : Nat) (st : List (Nat × Int)), Desc i st → ∀ (j : Nat) (x : Int), (par i l st)[j]? = some x → x = -1 ∨ 0 ≤ x ∧ x < i + j := by
  induction l with
  | nil => intro i st _ j x h; simp [par] at h
  | cons f l ih =>
    intro i st hd j x h
    cases j with
    | zero =>
      simp [par] at h
      subst h
      simpa using topS_lt hd.pop
    | succ j =>
      simp [par] at h
      have := ih (i + 1) _ (hd.pop.dec.push f) j x h
      rcases this with h1 | h1
      · exact .inl h1
      · exact .inr (by omega)

theorem parents_lt {l : List F} {j : Nat} {x : Int} (h : (parents l)[j]? = some x) : x = -1 ∨ 0 ≤ x ∧ x < j := by
  simpa using par_lt l 0 [] trivial j x h

/-- The memory of the groups that are open: P the groups, C how many each lacks. -/
def Chain (P C : List Int) : Int → List (Nat × Int) → Prop
  | g, [] => g = -1
  | g, (h, x) :: t => g = h ∧ C[h]? = some x ∧ ∃ p, P[h]? = some p ∧ Chain P C p t

theorem Chain.setP {P C : List Int} {g : Int} {st : List (Nat × Int)} {b : Nat} (h : Chain P C g st) (hd : Desc b st) {i : Nat} (hi : b ≤ i) (v : Int) : Chain (P.set i v) C g st := by
  induction st generalizing g b with
  | nil => exact h
  | cons a t ih =>
    obtain ⟨k, x⟩ := a
    obtain ⟨h1, h2, p, h3, h4⟩ := h
    exact ⟨h1, h2, p, by rw [List.getElem?_set_ne (by have := hd.1; omega)]; exact h3, ih h4 hd.2 (by have := hd.1; omega)⟩

theorem Chain.setC {P C : List Int} {g : Int} {st : List (Nat × Int)} {b : Nat} (h : Chain P C g st) (hd : Desc b st) {i : Nat} (hi : b ≤ i) (v : Int) : Chain P (C.set i v) g st := by
  induction st generalizing g b with
  | nil => exact h
  | cons a t ih =>
    obtain ⟨k, x⟩ := a
    obtain ⟨h1, h2, p, h3, h4⟩ := h
    exact ⟨h1, by rw [List.getElem?_set_ne (by have := hd.1; omega)]; exact h2, p, h3, ih h4 hd.2 (by have := hd.1; omega)⟩

/-! ### how many on the way -/

theorem snoc_ind {α : Type} {p : List α → Prop} (h0 : p []) (h1 : ∀ l a, p l → p (l ++ [a])) (l : List α) : p l := by
  have h : ∀ n (l : List α), l.length = n → p l := by
    intro n
    induction n with
    | zero => intro l hl; rw [List.length_eq_zero_iff.1 hl]; exact h0
    | succ n ih =>
      intro l hl
      have hne : l ≠ [] := fun e => by rw [e] at hl; cases hl
      rw [← List.dropLast_concat_getLast hne]
      exact h1 _ _ (ih _ (by simp [hl]))
  exact h _ l rfl

def cntL (b : Nat → Bool) (ps : List Int) : List Int :=
  ps.foldl (fun acc p => acc ++ [(if p = -1 then 0 else acc.getD p.toNat 0) + (if b acc.length then 1 else 0)]) []

theorem cntL_snoc (b : Nat → Bool) (ps : List Int) (p : Int) : cntL b (ps ++ [p]) = cntL b ps ++ [(if p = -1 then 0 else (cntL b ps).getD p.toNat 0) + (if b (cntL b ps).length then 1 else 0)] := by
  simp [cntL, List.foldl_append]

@[simp] theorem cntL_length (b : Nat → Bool) (ps : List Int) : (cntL b ps).length = ps.length := by
  refine snoc_ind (p := fun ps => (cntL b ps).length = ps.length) rfl (fun ps p ih => ?_) ps
  rw [cntL_snoc]
  simp [ih]

theorem cntL_take (b : Nat → Bool) (ps : List Int) (i : Nat) (x : Int) (h : ps[i]? = some x) : cntL b (ps.take (i + 1)) = cntL b (ps.take i) ++ [(if x = -1 then 0 else (cntL b (ps.take i)).getD x.toNat 0) + (if b i then 1 else 0)] := by
  have hi : i < ps.length := (List.getElem?_eq_some_iff.1 h).1
  rw [List.take_add_one, h]
  simp only [Option.toList]
  rw [cntL_snoc, cntL_length, List.length_take, Nat.min_eq_left (by omega)]

theorem cntL_bound (b : Nat → Bool) (ps : List Int) (hp : ∀ (j : Nat) (x : Int), ps[j]? = some x → x = -1 ∨ 0 ≤ x ∧ x < j) : ∀ (i : Nat), i ≤ ps.length → ∀ (j : Nat) (x : Int), (cntL b (ps.take i))[j]? = some x → 0 ≤ x ∧ x ≤ j + 1 := by
  intro i
  induction i with
  | zero => intro _ j x h; simp [cntL] at h
  | succ i ih =>
    intro hi j x h
    have hx : ps[i]? = some ps[i] := List.getElem?_eq_getElem (by omega)
    rw [cntL_take b ps i _ hx] at h
    have hl : (cntL b (ps.take i)).length = i := by simp; omega
    by_cases hj : j < i
    · rw [List.getElem?_append_left (by omega)] at h
      exact ih (by omega) j x h
    · have hji : j = i := by
        have := (List.getElem?_eq_some_iff.1 h).1
        simp at this
        omega
      subst hji
      rw [List.getElem?_append_right (by omega), hl] at h
      simp at h
      subst h
      have hq : 0 ≤ (if ps[j] = -1 then 0 else (cntL b (ps.take j)).getD ps[j].toNat 0) ∧ (if ps[j] = -1 then 0 else (cntL b (ps.take j)).getD ps[j].toNat 0) ≤ j := by
        split
        · omega
        · rcases hp j _ hx with h1 | h1
          · contradiction
          · have h2 : (cntL b (ps.take j))[ps[j].toNat]? = some ((cntL b (ps.take j))[ps[j].toNat]'(by omega)) := List.getElem?_eq_getElem (by omega)
            have h3 := ih (by omega) _ _ h2
            simp only [List.getD, h2, Option.getD]
            omega
      have hb : (0 : Int) ≤ (if b j = true then 1 else 0) ∧ (if b j = true then (1 : Int) else 0) ≤ 1 := by split <;> omega
      simp only [List.getD] at hq
      omega

end Go.Proofs.Ytofnpcfclcfgfaa
