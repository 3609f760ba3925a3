/- The groups in which a forest's fields lie, and their depths. -/
import Derived.Test.YtofnpcfclcfgfaaFo
namespace Go.Proofs.Ytofnpcfclcfgfaa
open Go.RowKit
set_option linter.unusedVariables false

/-- Of each field of a forest its group; i: the first one's number; g: the group of those that are in no group of the forest. -/
def Fo.pars : Nat → Nat → Fo → List Int
  | _, _, .nil => []
  | i, g, .leaf _ t => (g : Int) :: t.pars (i + 1) g
  | i, g, .group _ k t => (g : Int) :: (k.pars (i + 1) i ++ t.pars (i + 1 + k.flat.length) g)
@[simp] theorem Fo.pars_length (fo : Fo) : ∀ i g, (fo.pars i g).length = fo.flat.length := by
  induction fo with
  | nil => intro i g; rfl
  | leaf f t ih => intro i g; simp [Fo.pars, Fo.flat, ih]
  | group f k t ihk iht => intro i g; simp [Fo.pars, Fo.flat, ihk, iht]

theorem par_zero (i : Nat) (l : List F) (j : Nat) (st : List (Nat × Int)) : par i l ((j, 0) :: st) = par i l st := by
  rw [← par_pop i l ((j, 0) :: st), popS, if_pos (by decide), par_pop]

theorem par_fo (fo : Fo) : ∀ (i g : Nat) (c : Int) (st : List (Nat × Int)) (l2 : List F), fo.ok → 0 ≤ c → par i (fo.flat ++ l2) ((g, c + fo.num) :: st) = fo.pars i g ++ par (i + fo.flat.length) l2 ((g, c) :: st) := by
  induction fo with
  | nil => intro i g c st l2 _ _; simp [Fo.flat, Fo.num, Fo.pars]
  | leaf f t ih =>
    intro i g c st l2 h hc
    obtain ⟨hk, _, h⟩ := h
    rw [Fo.flat, List.cons_append, par, popS, if_neg (by simp only [Fo.num]; omega), pushS, if_neg hk]
    have e : decS ((g, c + ((Fo.leaf f t).num : Nat)) :: st) = (g, c + (t.num : Nat)) :: st := by simp only [decS, Fo.num]; congr 2; omega
    rw [e, ih (i + 1) g c st l2 h hc]
    simp only [topS, Fo.pars, List.cons_append, List.length_cons]
    congr 3
    omega
  | group f k t ihk iht =>
    intro i g c st l2 h hc
    obtain ⟨hk, hfc, h, h2⟩ := h
    rw [Fo.flat, List.cons_append, par, popS, if_neg (by simp only [Fo.num]; omega), pushS, if_pos hk]
    have e : decS ((g, c + ((Fo.group f k t).num : Nat)) :: st) = (g, c + (t.num : Nat)) :: st := by simp only [decS, Fo.num]; congr 2; omega
    have e2 : f.c = 0 + (k.num : Int) := by omega
    rw [e, e2, List.append_assoc, ihk (i + 1) i 0 _ _ h (Int.le_refl _), par_zero, iht _ g c st l2 h2 hc]
    simp only [topS, Fo.pars, List.cons_append, List.length_cons, List.length_append, List.append_assoc]
    congr 4
    omega

theorem parents_fo (r : F) (fo : Fo) (hk : r.k = 0) (hc : r.c = fo.num) (h : fo.ok) : parents (r :: fo.flat) = -1 :: fo.pars 1 0 := by
  unfold parents
  rw [par, popS, pushS, if_pos hk]
  have e : r.c = 0 + (fo.num : Int) := by omega
  have h2 := par_fo fo 1 0 0 [] [] h (Int.le_refl _)
  rw [List.append_nil] at h2
  rw [decS, e, h2]
  simp [topS, par]

/-- Of each field of a forest how deep it lies. -/
def Fo.deps : Int → Fo → List Int
  | _, .nil => []
  | d, .leaf _ t => d :: t.deps d
  | d, .group _ k t => d :: (k.deps (d + 1) ++ t.deps d)
@[simp] theorem Fo.deps_length (fo : Fo) : ∀ d, (fo.deps d).length = fo.flat.length := by
  induction fo with
  | nil => intro d; rfl
  | leaf f t ih => intro d; simp [Fo.deps, Fo.flat, ih]
  | group f k t ihk iht => intro d; simp [Fo.deps, Fo.flat, ihk, iht]

theorem getD_drop {α : Type} (l : List α) (i j : Nat) (z : α) : l.getD (i + j) z = (l.drop i).getD j z := by simp [List.getD, List.getElem?_drop]

theorem deps_fo (F0 : List F) (fo : Fo) : ∀ (i g : Nat) (d : Int) (rest : List Int), 0 < i → (parents F0).drop i = fo.pars i g ++ rest → (depths F0).getD g 0 = d - 1 → i + fo.flat.length ≤ F0.length → ∀ j, j < fo.flat.length → (depths F0).getD (i + j) 0 = (fo.deps d).getD j 0 := by
  have one : ∀ (i g : Nat) (d : Int) (R : List Int), 0 < i → (parents F0).drop i = (g : Int) :: R → (depths F0).getD g 0 = d - 1 → i < F0.length → (depths F0).getD i 0 = d := by
    intro i g d R h0 hp hg hi
    rw [dep_at F0 i hi, if_pos h0]
    have e : (parents F0).getD i 0 = (g : Int) := by
      have := getD_drop (parents F0) i 0 0
      rw [Nat.add_zero, hp] at this
      exact this
    rw [e]
    unfold cat
    rw [if_neg (by omega), Int.toNat_natCast, hg]
    omega
  have drop1 : ∀ (i g : Nat) (R : List Int), (parents F0).drop i = (g : Int) :: R → (parents F0).drop (i + 1) = R := by
    intro i g R h
    rw [← List.drop_drop, h]
    rfl
  induction fo with
  | nil => intro i g d rest _ _ _ _ j hj; simp [Fo.flat] at hj
  | leaf f t ih =>
    intro i g d rest h0 hp hg hl j hj
    simp only [Fo.flat, List.length_cons] at hl hj
    rw [Fo.pars, List.cons_append] at hp
    cases j with
    | zero => rw [Nat.add_zero, one i g d _ h0 hp hg (by omega)]; rfl
    | succ j =>
      have h2 := ih (i + 1) g d rest (by omega) (drop1 _ _ _ hp) hg (by omega) j (by omega)
      rw [show i + (j + 1) = i + 1 + j by omega, h2]
      rfl
  | group f k t ihk iht =>
    intro i g d rest h0 hp hg hl j hj
    simp only [Fo.flat, List.length_cons, List.length_append] at hl hj
    rw [Fo.pars, List.cons_append, List.append_assoc] at hp
    have hi := one i g d _ h0 hp hg (by omega)
    have hp1 := drop1 _ _ _ hp
    have hp2 : (parents F0).drop (i + 1 + k.flat.length) = t.pars (i + 1 + k.flat.length) g ++ rest := by
      rw [← List.drop_drop, hp1, List.drop_append_of_le_length (by simp), List.drop_of_length_le (by simp), List.nil_append]
    cases j with
    | zero => rw [Nat.add_zero, hi]; rfl
    | succ j =>
      by_cases hjk : j < k.flat.length
      · have h2 := ihk (i + 1) i (d + 1) _ (by omega) hp1 (by rw [hi]; omega) (by omega) j hjk
        rw [show i + (j + 1) = i + 1 + j by omega, h2]
        simp only [Fo.deps, List.getD, List.getElem?_cons_succ]
        rw [List.getElem?_append_left (by simpa using hjk)]
      · have h2 := iht (i + 1 + k.flat.length) g d rest (by omega) hp2 hg (by omega) (j - k.flat.length) (by omega)
        rw [show i + (j + 1) = i + 1 + k.flat.length + (j - k.flat.length) by omega, h2]
        simp only [Fo.deps, List.getD, List.getElem?_cons_succ]
        rw [List.getElem?_append_right (by simp; omega), Fo.deps_length]

/-- No field lies deeper than that. -/
def Fo.le : Nat → Fo → Prop
  | _, .nil => True
  | h, .leaf _ t => 1 ≤ h ∧ t.le h
  | h, .group _ k t => 1 ≤ h ∧ k.le (h - 1) ∧ t.le h

theorem le_deps (m : Nat) (fo : Fo) : ∀ (d : Nat), (∀ x ∈ fo.deps d, x ≤ m) → fo.le (m + 1 - d) := by
  induction fo with
  | nil => intro d _; trivial
  | leaf f t ih =>
    intro d h
    have := h d (by simp [Fo.deps])
    exact ⟨by omega, ih d fun x hx => h x (by simp [Fo.deps, hx])⟩
  | group f k t ihk iht =>
    intro d h
    have := h d (by simp [Fo.deps])
    have h2 := ihk (d + 1) fun x hx => h x (by simp [Fo.deps]; exact .inr (.inl (by simpa using hx)))
    exact ⟨by omega, by rw [show m + 1 - d - 1 = m + 1 - (d + 1) by omega]; exact h2, iht d fun x hx => h x (by simp [Fo.deps, hx])⟩

theorem Fo.le.mono {fo : Fo} : ∀ {a b : Nat}, fo.le a → a ≤ b → fo.le b := by
  induction fo with
  | nil => intro a b _ _; trivial
  | leaf f t ih => intro a b h hab; exact ⟨Nat.le_trans h.1 hab, ih h.2 hab⟩
  | group f k t ihk iht => intro a b h hab; exact ⟨Nat.le_trans h.1 hab, ihk h.2.1 (by omega), iht h.2.2 hab⟩

theorem mk_le (ns : List Int) (r : F) (fo : Fo) (hm : mk ns = r :: fo.flat) (hk : r.k = 0) (hc : r.c = fo.num) (h : fo.ok) : fo.le 5 := by
  have hp := parents_fo r fo hk hc h
  have h0 : (depths (r :: fo.flat)).getD 0 0 = 0 := by
    rw [dep_at _ 0 (by simp), hp]
    rfl
  have hd := deps_fo (r :: fo.flat) fo 1 0 1 [] (by omega) (by rw [hp]; simp) (by rw [h0]; rfl) (by simp; omega)
  have := le_deps 5 fo 1 fun x hx => by
    obtain ⟨j, hj, rfl⟩ := List.getElem_of_mem hx
    have hj2 : j < fo.flat.length := by simpa using hj
    have h1 := hd j hj2
    have h2 := mk_depth ns (1 + j) (by rw [hm]; simp; omega)
    rw [hm] at h2
    have h3 : (fo.deps 1).getD j 0 = (fo.deps ((1 : Nat) : Int))[j] := by rw [List.getD, show (fo.deps (1 : Int))[j]? = (fo.deps ((1 : Nat) : Int))[j]? from rfl, List.getElem?_eq_getElem hj]; rfl
    rw [h1, h3] at h2
    exact h2
  exact this

end Go.Proofs.Ytofnpcfclcfgfaa
