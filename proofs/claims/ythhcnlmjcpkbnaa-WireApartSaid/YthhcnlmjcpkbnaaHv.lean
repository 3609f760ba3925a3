/- A forest's fields by their places: parents, what is in a group; what fits, told by the forest. -/
import Derived.Test.YthhcnlmjcpkbnaaHF
import Derived.Test.YthhcnlmjcpkbnaaYB
namespace Go.Proofs.Ythhcnlmjcpkbnaa
open Go.RowKit
set_option linter.unusedVariables false
set_option linter.unusedSimpArgs false

/-- Where a forest's own fields begin. -/
def tops (i : Nat) : Fo → List Int
  | .nil => []
  | .leaf f t => (i : Int) :: tops (i + 1) t
  | .group f k t => (i : Int) :: tops (i + 1 + k.flat.length) t
/-- In which group each field of a forest is. -/
def pf (i p : Nat) : Fo → List Int
  | .nil => []
  | .leaf f t => (p : Int) :: pf (i + 1) p t
  | .group f k t => (p : Int) :: (pf (i + 1) i k ++ pf (i + 1 + k.flat.length) p t)

theorem pf_len : ∀ (fo : Fo) (i p : Nat), (pf i p fo).length = fo.flat.length
  | .nil, i, p => rfl
  | .leaf f t, i, p => by simp [pf, Fo.flat, pf_len t]
  | .group f k t, i, p => by simp [pf, Fo.flat, pf_len k, pf_len t]
theorem tops_len : ∀ (fo : Fo) (i : Nat), (tops i fo).length = fo.num
  | .nil, i => rfl
  | .leaf f t, i => by simp [tops, Fo.num, tops_len t]
  | .group f k t, i => by simp [tops, Fo.num, tops_len t]

theorem par_fo9 : ∀ (fo : Fo) (i p : Nat) (x : Int) (st : List (Nat × Int)) (rest : List F), fo.wf → 0 ≤ x → par i (fo.flat ++ rest) ((p, fo.num + x) :: st) = pf i p fo ++ par (i + fo.flat.length) rest ((p, x) :: st)
  | .nil, i, p, x, st, rest, _, _ => by simp [Fo.flat, Fo.num, pf]
  | .leaf f t, i, p, x, st, rest, ⟨h1, h2, h3⟩, hx => by
    have e : (((Fo.leaf f t).num : Nat) : Int) = (t.num : Int) + 1 := by simp [Fo.num]
    have hp : popS ((p, ((Fo.leaf f t).num : Int) + x) :: st) = (p, ((Fo.leaf f t).num : Int) + x) :: st := by rw [popS, if_neg (by omega)]
    have ih := par_fo9 t (i + 1) p x st rest h3 hx
    rw [Fo.flat, List.cons_append, par, hp]
    simp only [topS, decS, pf, pushS, List.cons_append, List.length_cons]
    rw [if_neg (by omega), show ((Fo.leaf f t).num : Int) + x - 1 = (t.num : Int) + x by omega, ih, show i + 1 + t.flat.length = i + (t.flat.length + 1) by omega]
  | .group f k t, i, p, x, st, rest, ⟨h1, h2, h3, h4⟩, hx => by
    have e : (((Fo.group f k t).num : Nat) : Int) = (t.num : Int) + 1 := by simp [Fo.num]
    have hp : popS ((p, ((Fo.group f k t).num : Int) + x) :: st) = (p, ((Fo.group f k t).num : Int) + x) :: st := by rw [popS, if_neg (by omega)]
    have ih1 := par_fo9 k (i + 1) i 0 ((p, (t.num : Int) + x) :: st) (t.flat ++ rest) h3 (Int.le_refl 0)
    have ih2 := par_fo9 t (i + 1 + k.flat.length) p x st rest h4 hx
    have hz : par (i + 1 + k.flat.length) (t.flat ++ rest) ((i, 0) :: (p, (t.num : Int) + x) :: st) = par (i + 1 + k.flat.length) (t.flat ++ rest) ((p, (t.num : Int) + x) :: st) := by
      rw [← par_pop _ _ ((i, 0) :: (p, (t.num : Int) + x) :: st), popS, if_pos (by decide), par_pop]
    rw [Fo.flat, List.cons_append, par, hp]
    simp only [topS, decS, pf, pushS, List.cons_append, List.append_assoc, List.length_cons, List.length_append]
    rw [if_pos h1, show ((Fo.group f k t).num : Int) + x - 1 = (t.num : Int) + x by omega, h2]
    rw [Int.add_zero] at ih1
    rw [ih1, hz, ih2, show i + 1 + k.flat.length + t.flat.length = i + (k.flat.length + t.flat.length + 1) by omega]

/-- Where a number stands in a row. -/
def idx : Nat → List Int → Int → List Int
  | _, [], _ => []
  | i, x :: L, g => if x = g then (i : Int) :: idx (i + 1) L g else idx (i + 1) L g

theorem idx_append : ∀ (A B : List Int) (i : Nat) (g : Int), idx i (A ++ B) g = idx i A g ++ idx (i + A.length) B g
  | [], B, i, g => rfl
  | x :: A, B, i, g => by
    rw [List.cons_append, idx, idx, idx_append A B (i + 1) g, show i + 1 + A.length = i + (x :: A).length by simp; omega]
    split <;> simp
theorem idx_none : ∀ (A : List Int) (i : Nat) (g : Int), (∀ x ∈ A, x ≠ g) → idx i A g = []
  | [], _, _, _ => rfl
  | x :: A, i, g, h => by rw [idx, if_neg (h x (by simp)), idx_none A (i + 1) g fun y hy => h y (by simp [hy])]

theorem kidsU_idx (P : List Int) (g : Nat) : ∀ n, n ≤ P.length → kidsU P n g = idx 0 (P.take n) (g : Int)
  | 0, _ => rfl
  | n + 1, h => by
    have e : P.take (n + 1) = P.take n ++ [P.getD n 0] := by
      rw [List.take_add_one, List.getElem?_eq_getElem (by omega)]
      simp [List.getD, List.getElem?_eq_getElem (show n < P.length by omega)]
    rw [kidsU_succ, kidsU_idx P g n (by omega), e, idx_append]
    simp only [idx, List.length_take, Nat.min_eq_left (show n ≤ P.length by omega), Nat.zero_add]
    split <;> simp

theorem pf_vals : ∀ (fo : Fo) (i p : Nat), ∀ x ∈ pf i p fo, x = (p : Int) ∨ (i : Int) ≤ x ∧ x < (i : Int) + fo.flat.length
  | .nil, i, p, x, hx => by simp [pf] at hx
  | .leaf f t, i, p, x, hx => by
    simp only [pf, List.mem_cons] at hx
    rcases hx with rfl | hx
    · exact .inl rfl
    · have := pf_vals t (i + 1) p x hx
      simp [Fo.flat]; omega
  | .group f k t, i, p, x, hx => by
    simp only [pf, List.mem_cons, List.mem_append] at hx
    rcases hx with rfl | hx | hx
    · exact .inl rfl
    · have := pf_vals k (i + 1) i x hx
      simp [Fo.flat]; omega
    · have := pf_vals t (i + 1 + k.flat.length) p x hx
      simp [Fo.flat]; omega

theorem idx_self : ∀ (fo : Fo) (i p : Nat), p < i → idx i (pf i p fo) (p : Int) = tops i fo
  | .nil, i, p, _ => rfl
  | .leaf f t, i, p, h => by rw [pf, idx, if_pos rfl, idx_self t (i + 1) p (by omega), tops]
  | .group f k t, i, p, h => by
    rw [pf, idx, if_pos rfl, idx_append, idx_none (pf (i + 1) i k) _ _ (fun x hx => by have := pf_vals k (i + 1) i x hx; omega), List.nil_append, pf_len, idx_self t _ p (by omega), tops]

/-- Each group of a forest has its fields in l where they stand. -/
def HasK (l : List F) : Nat → Fo → Prop
  | _, .nil => True
  | i, .leaf f t => l.getD i default = f ∧ HasK l (i + 1) t
  | i, .group f k t => l.getD i default = f ∧ kidsU (parents l) l.length i = tops (i + 1) k ∧ HasK l (i + 1) k ∧ HasK l (i + 1 + k.flat.length) t

theorem hasK_of (l : List F) : ∀ (fo : Fo) (i p : Nat) (rest : List F), p < i → l.drop i = fo.flat ++ rest → (∀ j, i ≤ j → j < i + fo.flat.length → kidsU (parents l) l.length j = idx i (pf i p fo) (j : Int)) → HasK l i fo
  | .nil, _, _, _, _, _, _ => trivial
  | .leaf f t, i, p, rest, hp, hd, H => by
    obtain ⟨-, h1, h2⟩ := dr_next hd
    refine ⟨h1, hasK_of l t (i + 1) p rest (by omega) h2 fun j h3 h4 => ?_⟩
    rw [H j (by omega) (by simp [Fo.flat]; omega), pf, idx, if_neg (by omega)]
  | .group f k t, i, p, rest, hp, hd, H => by
    rw [Fo.flat, List.cons_append, List.append_assoc] at hd
    obtain ⟨-, h1, h2⟩ := dr_next hd
    have h3 : l.drop (i + 1 + k.flat.length) = t.flat ++ rest := by rw [← List.drop_drop, h2]; simp
    have hv := pf_vals k (i + 1) i
    have hw := pf_vals t (i + 1 + k.flat.length) p
    refine ⟨h1, ?_, hasK_of l k (i + 1) i (t.flat ++ rest) (by omega) h2 fun j h4 h5 => ?_, hasK_of l t (i + 1 + k.flat.length) p rest (by omega) h3 fun j h4 h5 => ?_⟩
    · rw [H i (Nat.le_refl _) (by simp [Fo.flat]), pf, idx, if_neg (by omega), idx_append, idx_self k (i + 1) i (by omega), idx_none _ _ _ (fun x hx => by have := hw x hx; omega), List.append_nil]
    · rw [H j (by omega) (by simp [Fo.flat]; omega), pf, idx, if_neg (by omega), idx_append, pf_len, idx_none (pf (i + 1 + k.flat.length) p t) _ _ (fun x hx => by have := hw x hx; omega), List.append_nil]
    · rw [H j (by omega) (by simp [Fo.flat]; omega), pf, idx, if_neg (by omega), idx_append, pf_len, idx_none (pf (i + 1) i k) _ _ (fun x hx => by have := hv x hx; omega), List.nil_append]

/-- Of a schema that is a group of a forest. -/
theorem hasK_root {l : List F} {r0 : F} {fo : Fo} (hl : l = r0 :: fo.flat) (hr1 : r0.k = 0) (hr3 : r0.c = fo.num) (hw : fo.wf) : parents l = -1 :: pf 1 0 fo ∧ kidsU (parents l) l.length 0 = tops 1 fo ∧ HasK l 1 fo := by
  have hp : parents l = -1 :: pf 1 0 fo := by
    have h := par_fo9 fo 1 0 0 [] [] hw (Int.le_refl 0)
    rw [List.append_nil, Int.add_zero] at h
    rw [hl]
    unfold parents
    rw [par]
    simp only [popS, topS, decS, pushS]
    rw [if_pos hr1, hr3, h]
    simp [par]
  have hlen : (parents l).length = l.length := parents_length l
  have hk : ∀ j : Nat, kidsU (parents l) l.length j = idx 1 (pf 1 0 fo) (j : Int) := fun j => by
    rw [kidsU_idx (parents l) j l.length (by omega), List.take_of_length_le (by omega), hp, idx, if_neg (by omega)]
  refine ⟨hp, by rw [hk 0]; exact idx_self fo 1 0 (by omega), hasK_of l fo 1 0 [] (by omega) (by rw [hl]; simp) fun j _ _ => hk j⟩

end Go.Proofs.Ythhcnlmjcpkbnaa
