/- Hv, Hw, Hx, Hz, Jc, Jd, Je: texts of one group, one behind the other. -/
import Derived.Test.YtkbfbiklnjldgaaHF
import Derived.Test.YtkbfbiklnjldgaaYB
import Derived.Test.YtkbfbiklnjldgaaHn
import Derived.Test.YtkbfbiklnjldgaaYy
import Derived.Test.YtkbfbiklnjldgaaYq
import Derived.Test.YtkbfbiklnjldgaaHB
import Derived.Test.YtkbfbiklnjldgaaYC
import Derived.Test.YtkbfbiklnjldgaaA1
namespace Go.Proofs.Ytkbfbiklnjldgaa
open Go.RowKit
set_option linter.unusedVariables false
set_option linter.unusedSimpArgs false

/-- Where a forest's own fields begin. -/
def tops (i : Nat) : Fo → List Int
  | .nil => []
  | .leaf f t => (i : Int) :: tops (i + 1) t
  | .group f k t => (i : Int) :: tops (i + 1 + k.flat.length) t
/-- In which group each field of a forest is. -/
def pf (i p : Nat) : Fo → List Int
  | .nil => []
  | .leaf f t => (p : Int) :: pf (i + 1) p t
  | .group f k t => (p : Int) :: (pf (i + 1) i k ++ pf (i + 1 + k.flat.length) p t)

theorem pf_len : ∀ (fo : Fo) (i p : Nat), (pf i p fo).length = fo.flat.length
  | .nil, i, p => rfl
  | .leaf f t, i, p => by simp [pf, Fo.flat, pf_len t]
  | .group f k t, i, p => by simp [pf, Fo.flat, pf_len k, pf_len t]
theorem tops_len : ∀ (fo : Fo) (i : Nat), (tops i fo).length = fo.num
  | .nil, i => rfl
  | .leaf f t, i => by simp [tops, Fo.num, tops_len t]
  | .group f k t, i => by simp [tops, Fo.num, tops_len t]

theorem par_fo9 : ∀ (fo : Fo) (i p : Nat) (x : Int) (st : List (Nat × Int)) (rest : List F), fo.wf → 0 ≤ x → par i (fo.flat ++ rest) ((p, fo.num + x) :: st) = pf i p fo ++ par (i + fo.flat.length) rest ((p, x) :: st)
  | .nil, i, p, x, st, rest, _, _ => by simp [Fo.flat, Fo.num, pf]
  | .leaf f t, i, p, x, st, rest, ⟨h1, h2, h3⟩, hx => by
    have e : (((Fo.leaf f t).num : Nat) : Int) = (t.num : Int) + 1 := by simp [Fo.num]
    have hp : popS ((p, ((Fo.leaf f t).num : Int) + x) :: st) = (p, ((Fo.leaf f t).num : Int) + x) :: st := by rw [popS, if_neg (by omega)]
    have ih := par_fo9 t (i + 1) p x st rest h3 hx
    rw [Fo.flat, List.cons_append, par, hp]
    simp only [topS, decS, pf, pushS, List.cons_append, List.length_cons]
    rw [if_neg (by omega), show ((Fo.leaf f t).num : Int) + x - 1 = (t.num : Int) + x by omega, ih, show i + 1 + t.flat.length = i + (t.flat.length + 1) by omega]
  | .group f k t, i, p, x, st, rest, ⟨h1, h2, h3, h4⟩, hx => by
    have e : (((Fo.group f k t).num : Nat) : Int) = (t.num : Int) + 1 := by simp [Fo.num]
    have hp : popS ((p, ((Fo.group f k t).num : Int) + x) :: st) = (p, ((Fo.group f k t).num : Int) + x) :: st := by rw [popS, if_neg (by omega)]
    have ih1 := par_fo9 k (i + 1) i 0 ((p, (t.num : Int) + x) :: st) (t.flat ++ rest) h3 (Int.le_refl 0)
    have ih2 := par_fo9 t (i + 1 + k.flat.length) p x st rest h4 hx
    have hz : par (i + 1 + k.flat.length) (t.flat ++ rest) ((i, 0) :: (p, (t.num : Int) + x) :: st) = par (i + 1 + k.flat.length) (t.flat ++ rest) ((p, (t.num : Int) + x) :: st) := by
      rw [← par_pop _ _ ((i, 0) :: (p, (t.num : Int) + x) :: st), popS, if_pos (by decide), par_pop]
    rw [Fo.flat, List.cons_append, par, hp]
    simp only [topS, decS, pf, pushS, List.cons_append, List.append_assoc, List.length_cons, List.length_append]
    rw [if_pos h1, show ((Fo.group f k t).num : Int) + x - 1 = (t.num : Int) + x by omega, h2]
    rw [Int.add_zero] at ih1
    rw [ih1, hz, ih2, show i + 1 + k.flat.length + t.flat.length = i + (k.flat.length + t.flat.length + 1) by omega]

/-- Where a number stands in a row. -/
def idx : Nat → List Int → Int → List Int
  | _, [], _ => []
  | i, x :: L, g => if x = g then (i : Int) :: idx (i + 1) L g else idx (i + 1) L g

theorem idx_append : ∀ (A B : List Int) (i : Nat) (g : Int), idx i (A ++ B) g = idx i A g ++ idx (i + A.length) B g
  | [], B, i, g => rfl
  | x :: A, B, i, g => by
    rw [List.cons_append, idx, idx, idx_append A B (i + 1) g, show i + 1 + A.length = i + (x :: A).length by simp; omega]
    split <;> simp
theorem idx_none : ∀ (A : List Int) (i : Nat) (g : Int), (∀ x ∈ A, x ≠ g) → idx i A g = []
  | [], _, _, _ => rfl
  | x :: A, i, g, h => by rw [idx, if_neg (h x (by simp)), idx_none A (i + 1) g fun y hy => h y (by simp [hy])]

theorem kidsU_idx (P : List Int) (g : Nat) : ∀ n, n ≤ P.length → kidsU P n g = idx 0 (P.take n) (g : Int)
  | 0, _ => rfl
  | n + 1, h => by
    have e : P.take (n + 1) = P.take n ++ [P.getD n 0] := by
      rw [List.take_add_one, List.getElem?_eq_getElem (by omega)]
      simp [List.getD, List.getElem?_eq_getElem (show n < P.length by omega)]
    rw [kidsU_succ, kidsU_idx P g n (by omega), e, idx_append]
    simp only [idx, List.length_take, Nat.min_eq_left (show n ≤ P.length by omega), Nat.zero_add]
    split <;> simp

theorem pf_vals : ∀ (fo : Fo) (i p : Nat), ∀ x ∈ pf i p fo, x = (p : Int) ∨ (i : Int) ≤ x ∧ x < (i : Int) + fo.flat.length
  | .nil, i, p, x, hx => by simp [pf] at hx
  | .leaf f t, i, p, x, hx => by
    simp only [pf, List.mem_cons] at hx
    rcases hx with rfl | hx
    · exact .inl rfl
    · have := pf_vals t (i + 1) p x hx
      simp [Fo.flat]; omega
  | .group f k t, i, p, x, hx => by
    simp only [pf, List.mem_cons, List.mem_append] at hx
    rcases hx with rfl | hx | hx
    · exact .inl rfl
    · have := pf_vals k (i + 1) i x hx
      simp [Fo.flat]; omega
    · have := pf_vals t (i + 1 + k.flat.length) p x hx
      simp [Fo.flat]; omega

theorem idx_self : ∀ (fo : Fo) (i p : Nat), p < i → idx i (pf i p fo) (p : Int) = tops i fo
  | .nil, i, p, _ => rfl
  | .leaf f t, i, p, h => by rw [pf, idx, if_pos rfl, idx_self t (i + 1) p (by omega), tops]
  | .group f k t, i, p, h => by
    rw [pf, idx, if_pos rfl, idx_append, idx_none (pf (i + 1) i k) _ _ (fun x hx => by have := pf_vals k (i + 1) i x hx; omega), List.nil_append, pf_len, idx_self t _ p (by omega), tops]

/-- Each group of a forest has its fields in l where they stand. -/
def HasK (l : List F) : Nat → Fo → Prop
  | _, .nil => True
  | i, .leaf f t => l.getD i default = f ∧ HasK l (i + 1) t
  | i, .group f k t => l.getD i default = f ∧ kidsU (parents l) l.length i = tops (i + 1) k ∧ HasK l (i + 1) k ∧ HasK l (i + 1 + k.flat.length) t

theorem hasK_of (l : List F) : ∀ (fo : Fo) (i p : Nat) (rest : List F), p < i → l.drop i = fo.flat ++ rest → (∀ j, i ≤ j → j < i + fo.flat.length → kidsU (parents l) l.length j = idx i (pf i p fo) (j : Int)) → HasK l i fo
  | .nil, _, _, _, _, _, _ => trivial
  | .leaf f t, i, p, rest, hp, hd, H => by
    obtain ⟨-, h1, h2⟩ := dr_next hd
    refine ⟨h1, hasK_of l t (i + 1) p rest (by omega) h2 fun j h3 h4 => ?_⟩
    rw [H j (by omega) (by simp [Fo.flat]; omega), pf, idx, if_neg (by omega)]
  | .group f k t, i, p, rest, hp, hd, H => by
    rw [Fo.flat, List.cons_append, List.append_assoc] at hd
    obtain ⟨-, h1, h2⟩ := dr_next hd
    have h3 : l.drop (i + 1 + k.flat.length) = t.flat ++ rest := by rw [← List.drop_drop, h2]; simp
    have hv := pf_vals k (i + 1) i
    have hw := pf_vals t (i + 1 + k.flat.length) p
    refine ⟨h1, ?_, hasK_of l k (i + 1) i (t.flat ++ rest) (by omega) h2 fun j h4 h5 => ?_, hasK_of l t (i + 1 + k.flat.length) p rest (by omega) h3 fun j h4 h5 => ?_⟩
    · rw [H i (Nat.le_refl _) (by simp [Fo.flat]), pf, idx, if_neg (by omega), idx_append, idx_self k (i + 1) i (by omega), idx_none _ _ _ (fun x hx => by have := hw x hx; omega), List.append_nil]
    · rw [H j (by omega) (by simp [Fo.flat]; omega), pf, idx, if_neg (by omega), idx_append, pf_len, idx_none (pf (i + 1 + k.flat.length) p t) _ _ (fun x hx => by have := hw x hx; omega), List.append_nil]
    · rw [H j (by omega) (by simp [Fo.flat]; omega), pf, idx, if_neg (by omega), idx_append, pf_len, idx_none (pf (i + 1) i k) _ _ (fun x hx => by have := hv x hx; omega), List.nil_append]

/-- Of a schema that is a group of a forest. -/
theorem hasK_root {l : List F} {r0 : F} {fo : Fo} (hl : l = r0 :: fo.flat) (hr1 : r0.k = 0) (hr3 : r0.c = fo.num) (hw : fo.wf) : parents l = -1 :: pf 1 0 fo ∧ kidsU (parents l) l.length 0 = tops 1 fo ∧ HasK l 1 fo := by
  have hp : parents l = -1 :: pf 1 0 fo := by
    have h := par_fo9 fo 1 0 0 [] [] hw (Int.le_refl 0)
    rw [List.append_nil, Int.add_zero] at h
    rw [hl]
    unfold parents
    rw [par]
    simp only [popS, topS, decS, pushS]
    rw [if_pos hr1, hr3, h]
    simp [par]
  have hlen : (parents l).length = l.length := parents_length l
  have hk : ∀ j : Nat, kidsU (parents l) l.length j = idx 1 (pf 1 0 fo) (j : Int) := fun j => by
    rw [kidsU_idx (parents l) j l.length (by omega), List.take_of_length_le (by omega), hp, idx, if_neg (by omega)]
  refine ⟨hp, by rw [hk 0]; exact idx_self fo 1 0 (by omega), hasK_of l fo 1 0 [] (by omega) (by rw [hl]; simp) fun j _ _ => hk j⟩

end Go.Proofs.Ytkbfbiklnjldgaa

namespace Go.Proofs.Ytkbfbiklnjldgaa
open Go.RowKit
set_option linter.unusedVariables false
set_option linter.unusedSimpArgs false

theorem orE_zero9 {a b : Int} (h : orE a b = 0) : a = 0 ∧ b = 0 := by
  unfold orE at h
  split at h
  · contradiction
  · rename_i h1; exact ⟨by simpa using h1, h⟩

theorem fitL_all9 {l : List F} {f : Nat} : ∀ {x : List Tr}, fitL l f x = 0 → ∀ u ∈ x, fitV l f u = 0
  | [], _, u, hu => by simp at hu
  | t :: r, h, u, hu => by
    rw [fitL] at h
    obtain ⟨h1, h2⟩ := orE_zero9 h
    rcases List.mem_cons.1 hu with rfl | hu
    · exact h1
    · exact fitL_all9 h2 u hu

/-- What fits. -/
def fitF : Fo → List (List Tr) → Prop
  | .nil, ks => ks = []
  | .leaf f t, ks => match ks with | [] => False | l :: r => timesE f.r l.length = 0 ∧ (∀ x ∈ l, leafE f.k x = 0) ∧ fitF t r
  | .group f k t, ks => match ks with | [] => False | l :: r => timesE f.r l.length = 0 ∧ (∀ x ∈ l, x.n = 0 ∧ x.s = ByteArray.empty ∧ fitF k x.k) ∧ fitF t r

theorem fitF_of (l : List F) : ∀ (fo : Fo) (i : Nat) (ks : List (List Tr)), HasK l i fo → fo.wf → fitG l (tops i fo) ks = 0 → ks.length = fo.num → fitF fo ks
  | .nil, i, ks, _, _, _, hn => List.eq_nil_of_length_eq_zero hn
  | .leaf f t, i, ks, ⟨h1, h2⟩, ⟨w1, w2, w3⟩, hf, hn => by
    cases ks with
    | nil => simp [Fo.num] at hn
    | cons x r =>
      rw [tops, fitG] at hf
      obtain ⟨h3, h4⟩ := orE_zero9 hf
      obtain ⟨h5, h6⟩ := orE_zero9 h3
      simp only [List.headD_cons, Int.toNat_natCast, List.tail_cons, h1] at h4 h5 h6
      refine ⟨h5, fun u hu => ?_, fitF_of l t (i + 1) r h2 w3 h4 (by simpa [Fo.num] using hn)⟩
      have := fitL_all9 h6 u hu
      rw [fitV_leaf (by rw [h1]; omega), h1] at this
      exact this
  | .group f k t, i, ks, ⟨h1, hk, h2, h2'⟩, ⟨w1, w2, w3, w4⟩, hf, hn => by
    cases ks with
    | nil => simp [Fo.num] at hn
    | cons x r =>
      rw [tops, fitG] at hf
      obtain ⟨h3, h4⟩ := orE_zero9 hf
      obtain ⟨h5, h6⟩ := orE_zero9 h3
      simp only [List.headD_cons, Int.toNat_natCast, List.tail_cons, h1] at h4 h5 h6
      refine ⟨h5, fun u hu => ?_, fitF_of l t (i + 1 + k.flat.length) r h2' w4 h4 (by simpa [Fo.num] using hn)⟩
      have := fitL_all9 h6 u hu
      rw [fitV_group (by rw [h1]; exact w1), hk] at this
      split at this
      · contradiction
      · rename_i h7
        rw [tops_len] at h7
        have h8 : u.n = 0 ∧ u.s = ByteArray.empty ∧ u.k.length = k.num := by
          refine ⟨?_, ?_, ?_⟩
          · exact Decidable.byContradiction fun e => h7 (.inl e)
          · exact Classical.byContradiction fun e => h7 (.inr (.inl e))
          · exact Decidable.byContradiction fun e => h7 (.inr (.inr e))
        exact ⟨h8.1, h8.2.1, fitF_of l k (i + 1) u.k h2 w3 this h8.2.2⟩

theorem nm_low (k : Nat) : ∀ v : Int, (nm (lw k v) : Int) = v % 256 ^ k := by
  induction k with
  | zero => intro v; simp [lw, low, nm, Int.emod_one]
  | succ k ih =>
    intro v
    have e : lw (k + 1) v = (v % 256).toNat :: lw k (v / 256) := rfl
    have h := ih (v / 256)
    rw [e, nm]
    have h1 : (v / 256) % 256 ^ k = v / 256 - 256 ^ k * (v / 256 / 256 ^ k) := Int.emod_def _ _
    have h2 : v % 256 ^ (k + 1) = v - 256 ^ (k + 1) * (v / 256 ^ (k + 1)) := Int.emod_def _ _
    have h3 : v / 256 ^ (k + 1) = v / 256 / 256 ^ k := by rw [Int.ediv_ediv_of_nonneg (by omega), Int.pow_succ, Int.mul_comm]
    have h4 : (256 : Int) ^ (k + 1) * (v / 256 / 256 ^ k) = 256 * (256 ^ k * (v / 256 / 256 ^ k)) := by rw [Int.pow_succ, Int.mul_comm (256 ^ k) 256, Int.mul_assoc]
    rw [h2, h3, h4]
    generalize 256 ^ k * (v / 256 / 256 ^ k) = X at h1 ⊢
    rw [h1] at h
    clear h1 h2 h3 h4 ih e
    omega
theorem nm_lw1 (v : Int) (h : 0 ≤ v ∧ v < 256) : (nm (lw 1 v) : Int) = v := by rw [nm_low]; show v % 256 = v; omega
theorem nm_lw4 (v : Int) : (nm (lw 4 v) : Int) = v % 4294967296 := by rw [nm_low]; rfl
theorem nm_lw8 (v : Int) : (nm (lw 8 v) : Int) = v % 18446744073709551616 := by rw [nm_low]; rfl

theorem pNum_lw (k : Nat) (v : Int) (rest : List Nat) : pNum k (lw k v ++ rest, 0) = (nm (lw k v), (rest, 0)) := by
  unfold pNum
  have h := lw_len k v
  rw [if_neg (by simp [h])]
  simp [List.take_append_of_le_length, h]

theorem pTake_app (a rest : List Nat) : pTake a.length (a ++ rest, 0) = (a, (rest, 0)) := by
  unfold pTake
  rw [if_neg (by simp)]
  simp

theorem str_bl9 (s : ByteArray) : str (bl s) = s := by
  have : (bl s).map UInt8.ofNat = s.data.toList := by
    unfold bl
    rw [List.map_map]
    conv => rhs; rw [← List.map_id s.data.toList]
    apply List.map_congr_left
    intro x hx
    simp
  unfold str
  rw [this]

theorem pLeaf_back (k : Int) (hk : 1 ≤ k ∧ k ≤ 4) (t : Tr) (hf : leafE k t = 0) (ho : okLeaf t) (rest : List Nat) : pLeaf k (wLeaf k t ++ rest, 0) = (t, (rest, 0)) := by
  unfold leafE at hf
  split at hf
  · contradiction
  rename_i h1
  split at hf
  · contradiction
  rename_i h2
  split at hf
  · contradiction
  rename_i h3
  have hkk : t.k = [] := List.eq_nil_of_length_eq_zero (by
    have := fun e => h1 (.inl e)
    omega)
  have hte := Tr.eta t
  rw [hkk] at hte
  obtain ⟨⟨o1, o2⟩, o3⟩ := ho
  have hc : k = 1 ∨ k = 2 ∨ k = 3 ∨ k = 4 := by omega
  rcases hc with rfl | rfl | rfl | rfl
  · have hs : t.s = ByteArray.empty := Classical.byContradiction fun e => h1 (.inr (.inr ⟨by decide, e⟩))
    have hn : 0 ≤ t.n ∧ t.n ≤ 1 := by
      unfold overB at h2
      simp at h2
      omega
    unfold pLeaf wLeaf
    rw [if_pos rfl, if_pos rfl]
    have e : pTruth (lw 1 t.n ++ rest, 0) = (nm (lw 1 t.n), (rest, 0)) := by
      unfold pTruth
      rw [pNum_lw]
      have := nm_lw1 t.n (by omega)
      rw [if_neg (show ¬ 1 < nm (lw 1 t.n) by omega)]
    rw [e]
    simp only [nm_lw1 t.n (by omega)]
    rw [← hs, ← hte]
  · have hs : t.s = ByteArray.empty := Classical.byContradiction fun e => h1 (.inr (.inr ⟨by decide, e⟩))
    have hn : -2147483648 ≤ t.n ∧ t.n ≤ 2147483647 := by
      unfold overB at h2
      simp at h2
      omega
    unfold pLeaf wLeaf
    rw [if_neg (by decide), if_pos rfl, if_neg (by decide), if_pos rfl, pNum_lw]
    simp only [nm_lw4 t.n]
    rw [show Go.RowKit.wrap32 (t.n % 4294967296) = t.n by unfold Go.RowKit.wrap32; omega, ← hs, ← hte]
  · have hs : t.s = ByteArray.empty := Classical.byContradiction fun e => h1 (.inr (.inr ⟨by decide, e⟩))
    unfold pLeaf wLeaf
    rw [if_neg (by decide), if_neg (by decide), if_pos rfl, if_neg (by decide), if_neg (by decide), if_pos rfl, pNum_lw]
    simp only [nm_lw8 t.n]
    rw [show Go.RowKit.wrap64 (t.n % 18446744073709551616) = t.n by unfold Go.RowKit.wrap64; omega, ← hs, ← hte]
  · have hn : t.n = 0 := Decidable.byContradiction fun e => h1 (.inr (.inl ⟨rfl, e⟩))
    unfold pLeaf wLeaf
    rw [if_neg (by decide), if_neg (by decide), if_neg (by decide), if_neg (by decide), if_neg (by decide), if_neg (by decide), List.append_assoc, pCount_vb 100 5 t.s.size _ (by omega), if_neg h3]
    have e := pTake_app (bl t.s) rest
    rw [bl_length] at e
    simp only [e]
    rw [str_bl9, ← hn, ← hte]

theorem pVals_back (g : St → Tr × St) (w : Tr → List Nat) : ∀ (l : List Tr) (rest : List Nat), (∀ x ∈ l, ∀ r, g (w x ++ r, 0) = (x, (r, 0))) → pVals g l.length (l.flatMap w ++ rest, 0) = (l, (rest, 0))
  | [], rest, _ => rfl
  | x :: l, rest, h => by
    rw [List.length_cons, pVals, if_neg (by simp), List.flatMap_cons, List.append_assoc, h x (by simp), pVals_back g w l rest fun y hy => h y (by simp [hy])]

theorem pField_back (r : Int) (hr : 0 ≤ r ∧ r ≤ 2) (g : St → Tr × St) (w : Tr → List Nat) (l : List Tr) (rest : List Nat) (ht : timesE r l.length = 0) (h : ∀ x ∈ l, ∀ r, g (w x ++ r, 0) = (x, (r, 0))) : pField r g (wField r w l ++ rest, 0) = (l, (rest, 0)) := by
  have hv := pVals_back g w l rest h
  have hc : r = 0 ∨ r = 1 ∨ r = 2 := by omega
  unfold pField wField
  rcases hc with rfl | rfl | rfl
  · have hl : l.length = 1 := by
      unfold timesE at ht
      rw [if_pos rfl] at ht
      exact Decidable.byContradiction fun e => by rw [if_neg e] at ht; cases ht
    rw [if_neg (by decide), if_neg (by decide), if_neg (by decide), if_neg (by decide), List.nil_append]
    rw [hl] at hv
    exact hv
  · have hl : l.length ≤ 1 := by
      unfold timesE at ht
      rw [if_neg (by decide), if_pos rfl] at ht
      exact Decidable.byContradiction fun e => by rw [if_neg e] at ht; cases ht
    rw [if_pos rfl, if_pos rfl, List.append_assoc]
    have e : pTruth (lw 1 ((l.length : Nat) : Int) ++ (l.flatMap w ++ rest), 0) = (l.length, (l.flatMap w ++ rest, 0)) := by
      unfold pTruth
      rw [pNum_lw]
      have := nm_lw1 (l.length : Nat) (by omega)
      rw [if_neg (show ¬ 1 < nm (lw 1 ((l.length : Nat) : Int)) by omega)]
      rw [show nm (lw 1 ((l.length : Nat) : Int)) = l.length by omega]
    rw [e]
    exact hv
  · have hl : l.length ≤ 50 := by
      unfold timesE at ht
      rw [if_neg (by decide), if_neg (by decide), if_pos rfl] at ht
      exact Decidable.byContradiction fun e => by rw [if_neg e] at ht; cases ht
    rw [if_neg (by decide), if_pos rfl, if_neg (by decide), if_pos rfl, List.append_assoc, pCount_vb 50 4 l.length _ (by omega), if_neg (by omega)]
    exact hv

/-- What was written is read. -/
theorem pF_back : ∀ (fo : Fo) (ks : List (List Tr)) (rest : List Nat), fo.wf → (∀ f ∈ fo.flat, 0 ≤ f.r ∧ f.r ≤ 2) → fitF fo ks → okF fo ks → pF fo (wF fo ks ++ rest, 0) = (ks, (rest, 0))
  | .nil, ks, rest, _, _, hf, _ => by
    have : ks = [] := hf
    subst this
    simp [pF, wF]
  | .leaf f t, ks, rest, ⟨w1, w2, w3⟩, hr, hf, ho => by
    cases ks with
    | nil => exact hf.elim
    | cons l r =>
      obtain ⟨f1, f2, f3⟩ := hf
      obtain ⟨o1, o2⟩ := ho
      have h1 := pField_back f.r (hr f (by simp [Fo.flat])) (pLeaf f.k) (wLeaf f.k) l (wF t r ++ rest) f1 fun x hx r => pLeaf_back f.k ⟨w1, w2⟩ x (f2 x hx) (o1 x hx) r
      rw [pF, show wF (.leaf f t) (l :: r) = wField f.r (wLeaf f.k) l ++ wF t r from rfl, List.append_assoc, h1, pF_back t r rest w3 (fun g hg => hr g (by simp [Fo.flat, hg])) f3 o2]
  | .group f k t, ks, rest, ⟨w1, w2, w3, w4⟩, hr, hf, ho => by
    cases ks with
    | nil => exact hf.elim
    | cons l r =>
      obtain ⟨f1, f2, f3⟩ := hf
      obtain ⟨o1, o2⟩ := ho
      have h1 := pField_back f.r (hr f (by simp [Fo.flat])) (pGrp (pF k)) (fun x => wF k x.k) l (wF t r ++ rest) f1 fun x hx r => by
        obtain ⟨g1, g2, g3⟩ := f2 x hx
        have h2 := pF_back k x.k r w3 (fun g hg => hr g (by simp [Fo.flat, hg])) g3 (o1 x hx)
        unfold pGrp
        rw [h2]
        show (Tr.mk 0 ByteArray.empty x.k, (r, 0)) = (x, (r, 0))
        rw [← g1, ← g2, ← Tr.eta x]
      rw [pF, show wF (.group f k t) (l :: r) = wField f.r (fun x => wF k x.k) l ++ wF t r from rfl, List.append_assoc, h1, pF_back t r rest w4 (fun g hg => hr g (by simp [Fo.flat, hg])) f3 o2]

/-- Records that were written are read. -/
theorem pAll_back (fo : Fo) (L : List Tr) (hw : fo.wf) (hr : ∀ f ∈ fo.flat, 0 ≤ f.r ∧ f.r ≤ 2) (hL : L.length ≤ 200) (h : ∀ t ∈ L, t.n = 0 ∧ t.s = ByteArray.empty ∧ fitF fo t.k ∧ okF fo t.k) : pAll fo (wAll fo L) = (L, 0) := by
  have h1 := pVals_back (pGrp (pF fo)) (fun t => wF fo t.k) L [] fun x hx r => by
    obtain ⟨g1, g2, g3, g4⟩ := h x hx
    have h2 := pF_back fo x.k r hw hr g3 g4
    unfold pGrp
    rw [h2]
    show (Tr.mk 0 ByteArray.empty x.k, (r, 0)) = (x, (r, 0))
    rw [← g1, ← g2, ← Tr.eta x]
  unfold pAll wAll
  rw [pCount_vb 200 4 L.length _ (by omega), if_neg (by omega)]
  rw [List.append_nil] at h1
  simp only [h1]
  rfl

end Go.Proofs.Ytkbfbiklnjldgaa

namespace Go.Proofs.Ytkbfbiklnjldgaa
open Go.RowKit
set_option linter.unusedVariables false
set_option linter.unusedSimpArgs false

/-- Numbers of a tree are numbers, down to a depth. -/
def NId : Nat → Tr → Prop
  | 0, _ => True
  | D + 1, t => (-9223372036854775808 ≤ t.n ∧ t.n ≤ 9223372036854775807) ∧ ∀ x ∈ t.k, ∀ u ∈ x, NId D u

theorem mkLs_mem (f : Nat → Tr × Nat) : ∀ (j p : Nat), ∀ u ∈ (mkLs f j p).1, ∃ q, u = (f q).1
  | 0, p, u, hu => by simp [mkLs] at hu
  | j + 1, p, u, hu => by
    rw [mkLs] at hu
    rcases List.mem_append.1 hu with hu | hu
    · exact mkLs_mem f j p u hu
    · simp at hu; exact ⟨_, hu⟩

theorem stepK_mem (l : List F) (ns : List Int) (f : Nat → Nat → Tr × Nat) : ∀ (is : List Int) (s : List (List Tr) × Nat), (∀ x ∈ s.1, ∀ u ∈ x, ∃ i q, u = (f i q).1) → ∀ x ∈ (is.foldl (stepK l ns f) s).1, ∀ u ∈ x, ∃ i q, u = (f i q).1
  | [], s, h => h
  | i :: is, s, h => by
    rw [List.foldl_cons]
    refine stepK_mem l ns f is _ fun x hx u hu => ?_
    rcases List.mem_append.1 hx with hx | hx
    · exact h x hx u hu
    · simp at hx
      subst hx
      obtain ⟨q, hq⟩ := mkLs_mem _ _ _ u hu
      exact ⟨_, q, hq⟩

theorem nx_range {ns : List Int} (h : ∀ x ∈ ns, (Lit.int .i64 x).wf = true) (p : Nat) : -9223372036854775808 ≤ (nx ns p).1 ∧ (nx ns p).1 ≤ 9223372036854775807 := by
  unfold nx
  split
  · rename_i hp
    show -9223372036854775808 ≤ ns.getD p 0 ∧ ns.getD p 0 ≤ 9223372036854775807
    rw [List.getD, List.getElem?_eq_getElem hp]
    exact wf_i64 (h _ (List.getElem_mem hp))
  · show (-9223372036854775808 : Int) ≤ 0 ∧ (0 : Int) ≤ 9223372036854775807
    omega

theorem mkT_nid (l : List F) (ns : List Int) (h : ∀ x ∈ ns, (Lit.int .i64 x).wf = true) : ∀ (d f p D : Nat), NId D (mkT l ns d f p).1
  | d, f, p, 0 => trivial
  | 0, f, p, D + 1 => by
    rw [mkT]
    show ((-9223372036854775808 : Int) ≤ 0 ∧ (0 : Int) ≤ 9223372036854775807) ∧ ∀ x ∈ ([] : List (List Tr)), ∀ u ∈ x, NId D u
    exact ⟨by omega, by simp⟩
  | d + 1, f, p, D + 1 => by
    have hr := nx_range h p
    rw [mkT]
    split
    · exact ⟨by simp only [Tr.n_mk]; omega, by simp⟩
    · split
      · exact ⟨by simp only [Tr.n_mk]; omega, by simp⟩
      · split
        · exact ⟨by simp only [Tr.n_mk]; omega, by simp⟩
        · split
          · exact ⟨by simp only [Tr.n_mk]; omega, by simp⟩
          · refine ⟨by simp only [Tr.n_mk]; omega, fun x hx u hu => ?_⟩
            simp only [Tr.k_mk] at hx
            obtain ⟨i, q, rfl⟩ := stepK_mem l ns (mkT l ns d) _ _ (by simp) x hx u hu
            exact mkT_nid l ns h d i q D

theorem okF_of : ∀ (fo : Fo) (ks : List (List Tr)), fitF fo ks → (∀ x ∈ ks, ∀ u ∈ x, ∀ D, NId D u) → okF fo ks
  | .nil, ks, hf, _ => hf
  | .leaf f t, ks, hf, hn => by
    cases ks with
    | nil => exact hf.elim
    | cons l r =>
      obtain ⟨f1, f2, f3⟩ := hf
      refine ⟨fun x hx => ⟨(hn l (by simp) x hx 1).1, ?_⟩, okF_of t r f3 fun x hx => hn x (by simp [hx])⟩
      have h := f2 x hx
      unfold leafE at h
      split at h
      · contradiction
      · split at h
        · contradiction
        · split at h
          · contradiction
          · omega
  | .group f k t, ks, hf, hn => by
    cases ks with
    | nil => exact hf.elim
    | cons l r =>
      obtain ⟨f1, f2, f3⟩ := hf
      exact ⟨fun x hx => okF_of k x.k (f2 x hx).2.2 fun y hy u hu D => (hn l (by simp) x hx (D + 1)).2 y hy u hu, okF_of t r f3 fun x hx => hn x (by simp [hx])⟩

/-- How long what is written is. -/
theorem wLeaf_len (k : Int) (t : Tr) (h : leafE k t = 0) : (wLeaf k t).length ≤ 110 := by
  have hs : t.s.size ≤ 100 := by
    unfold leafE at h
    split at h
    · contradiction
    · split at h
      · contradiction
      · split at h
        · contradiction
        · omega
  unfold wLeaf
  split
  · rw [lw_len]; omega
  · split
    · rw [lw_len]; omega
    · split
      · rw [lw_len]; omega
      · rw [List.length_append, bl_length]
        have := (vb_len64 (v := t.s.size) (by omega)).2
        omega

theorem flat_len (w : Tr → List Nat) : ∀ (l : List Tr), (∀ x ∈ l, (w x).length ≤ 600 * szT x) → (l.flatMap w).length ≤ 600 * szL l
  | [], _ => by simp [szL]
  | x :: l, h => by
    have h1 := h x (by simp)
    have h2 := flat_len w l fun y hy => h y (by simp [hy])
    rw [List.flatMap_cons, List.length_append, szL]
    omega

theorem wField_len (r : Int) (w : Tr → List Nat) (l : List Tr) (hl : l.length < 18446744073709551616) (h : ∀ x ∈ l, (w x).length ≤ 600 * szT x) : (wField r w l).length ≤ 10 + 600 * szL l := by
  have h1 := flat_len w l h
  unfold wField
  rw [List.length_append]
  split
  · rw [lw_len]; omega
  · split
    · have := (vb_len64 (v := l.length) hl).2
      omega
    · rw [List.length_nil]; omega

theorem times_le {r : Int} {m : Nat} (hr : 0 ≤ r ∧ r ≤ 2) (h : timesE r m = 0) : m ≤ 50 := by
  have hc : r = 0 ∨ r = 1 ∨ r = 2 := by omega
  unfold timesE at h
  rcases hc with rfl | rfl | rfl
  · rw [if_pos rfl] at h
    exact Decidable.byContradiction fun e => by rw [if_neg (by omega)] at h; cases h
  · rw [if_neg (by decide), if_pos rfl] at h
    exact Decidable.byContradiction fun e => by rw [if_neg (by omega)] at h; cases h
  · rw [if_neg (by decide), if_neg (by decide), if_pos rfl] at h
    exact Decidable.byContradiction fun e => by rw [if_neg (by omega)] at h; cases h

theorem wF_len : ∀ (fo : Fo) (ks : List (List Tr)), fo.wf → fitF fo ks → fo.flat.length ≤ 40 → (∀ f ∈ fo.flat, 0 ≤ f.r ∧ f.r ≤ 2) → (wF fo ks).length ≤ 10 * fo.num + 600 * szK ks
  | .nil, ks, _, _, _, _ => by simp [wF]
  | .leaf f t, ks, ⟨w1, w2, w3⟩, hf, hn, hr => by
    cases ks with
    | nil => exact hf.elim
    | cons l r =>
      obtain ⟨f1, f2, f3⟩ := hf
      have hl := times_le (hr f (by simp [Fo.flat])) f1
      have h1 := wField_len f.r (wLeaf f.k) l (by omega) fun x hx => by have := wLeaf_len f.k x (f2 x hx); rw [szT_eq]; omega
      have h2 := wF_len t r w3 f3 (by simp [Fo.flat] at hn; omega) fun g hg => hr g (by simp [Fo.flat, hg])
      rw [show wF (.leaf f t) (l :: r) = wField f.r (wLeaf f.k) l ++ wF t r from rfl, List.length_append, szK, Fo.num]
      omega
  | .group f k t, ks, ⟨w1, w2, w3, w4⟩, hf, hn, hr => by
    cases ks with
    | nil => exact hf.elim
    | cons l r =>
      obtain ⟨f1, f2, f3⟩ := hf
      simp only [Fo.flat, List.length_cons, List.length_append] at hn
      have hl := times_le (hr f (by simp [Fo.flat])) f1
      have hk := k.num_le
      have h1 := wField_len f.r (fun x => wF k x.k) l (by omega) fun x hx => by
        have := wF_len k x.k w3 (f2 x hx).2.2 (by omega) fun g hg => hr g (by simp [Fo.flat, hg])
        rw [szT_eq]
        show (wF k x.k).length ≤ _
        omega
      have h2 := wF_len t r w4 f3 (by omega) fun g hg => hr g (by simp [Fo.flat, hg])
      rw [show wF (.group f k t) (l :: r) = wField f.r (fun x => wF k x.k) l ++ wF t r from rfl, List.length_append, szK, Fo.num]
      omega

/-- All that bytes_any and parse_any9 want of a made record. -/
theorem made_fits (ns rs : List Int) (h : ∀ x ∈ rs, (Lit.int .i64 x).wf = true) (r0 : F) (fo : Fo) (m1 : mk ns = r0 :: fo.flat) (m2 : r0.k = 0) (m3 : r0.c = fo.num) (m4 : fo.wf) : (∀ f ∈ fo.flat, 0 ≤ f.r ∧ f.r ≤ 2) ∧
    (mk8 (mk ns) rs).n = 0 ∧ (mk8 (mk ns) rs).s = ByteArray.empty ∧ fitF fo (mk8 (mk ns) rs).k ∧ okF fo (mk8 (mk ns) rs).k ∧ fitsT (mk ns) (mk8 (mk ns) rs) = 0 ∧ (wF fo (mk8 (mk ns) rs).k).length ≤ 60000000 := by
  have hr : ∀ f ∈ fo.flat, 0 ≤ f.r ∧ f.r ≤ 2 := fun f hf => by
    obtain ⟨j, hj⟩ := List.mem_iff_getElem?.1 (show f ∈ mk ns by rw [m1]; simp [hf])
    have := (mk_fields ns j f hj).1
    omega
  obtain ⟨hv, ht⟩ := mk8_fits rs (mk_chk ns)
  obtain ⟨-, hk0, hHK⟩ := hasK_root m1 m2 m3 m4
  have hg0 : ((mk ns).getD 0 default).k = 0 := by rw [m1]; exact m2
  have hln := (mk_ok ns).le
  have hlp := (mk_ok ns).pos
  have hsz := mk8_sz rs (chk_good (mk_chk ns)) hlp hln
  have hnid : ∀ D, NId D (mk8 (mk ns) rs) := fun D => mkT_nid (mk ns) rs h _ _ _ D
  have hfl : fo.flat.length ≤ 40 := by rw [m1] at hln; simp at hln; omega
  obtain ⟨T, hT⟩ : ∃ T, T = mk8 (mk ns) rs := ⟨_, rfl⟩
  rw [← hT] at hv ht hsz hnid ⊢
  rw [fitV_group hg0, hk0] at hv
  split at hv
  · contradiction
  rename_i h7
  rw [tops_len] at h7
  have h8 : T.n = 0 ∧ T.s = ByteArray.empty ∧ T.k.length = fo.num := by
    refine ⟨?_, ?_, ?_⟩
    · exact Decidable.byContradiction fun e => h7 (.inl e)
    · exact Classical.byContradiction fun e => h7 (.inr (.inl e))
    · exact Decidable.byContradiction fun e => h7 (.inr (.inr e))
  have hF := fitF_of (mk ns) fo 1 T.k hHK m4 hv h8.2.2
  have hO := okF_of fo T.k hF fun x hx u hu D => (hnid (D + 1)).2 x hx u hu
  have hL := wF_len fo T.k m4 hF hfl hr
  have hnum := fo.num_le
  rw [szT_eq] at hsz
  exact ⟨hr, h8.1, h8.2.1, hF, hO, ht, by omega⟩

end Go.Proofs.Ytkbfbiklnjldgaa

namespace Go.Proofs.Ytkbfbiklnjldgaa
open Go.RowKit
set_option linter.unusedVariables false
set_option linter.unusedSimpArgs false

/-- A parse that ended well began well, and more bytes behind change nothing. -/
def Ext {α : Type} (P : St → α × St) : Prop := ∀ (a : List Nat) (c : Nat), (P (a, c)).2.2 = 0 → c = 0 ∧ ∀ b, P (a ++ b, 0) = ((P (a, 0)).1, ((P (a, 0)).2.1 ++ b, 0))

theorem ext_num (n : Nat) : Ext (pNum n) := by
  intro a c h
  unfold pNum at h
  by_cases hn : a.length < n
  · rw [if_pos hn] at h
    have h : (if c = 0 then 8 else c) = 0 := h
    split at h <;> omega
  · rw [if_neg hn] at h
    refine ⟨h, fun b => ?_⟩
    unfold pNum
    rw [if_neg (show ¬ a.length < n from hn), if_neg (show ¬ (a ++ b).length < n by rw [List.length_append]; omega)]
    simp only
    rw [List.take_append_of_le_length (by omega), List.drop_append_of_le_length (by omega)]

theorem ext_take (n : Nat) : Ext (pTake n) := by
  intro a c h
  unfold pTake at h
  by_cases hn : a.length < n
  · rw [if_pos hn] at h
    have h : (if c = 0 then 8 else c) = 0 := h
    split at h <;> omega
  · rw [if_neg hn] at h
    refine ⟨h, fun b => ?_⟩
    unfold pTake
    rw [if_neg (show ¬ a.length < n from hn), if_neg (show ¬ (a ++ b).length < n by rw [List.length_append]; omega)]
    simp only
    rw [List.take_append_of_le_length (by omega), List.drop_append_of_le_length (by omega)]

theorem ext_truth : Ext pTruth := by
  intro a c h
  unfold pTruth at h
  by_cases hx : 1 < (pNum 1 (a, c)).1
  · rw [if_pos hx] at h; exact absurd h (by decide)
  · rw [if_neg hx] at h
    obtain ⟨rfl, e⟩ := ext_num 1 a c h
    refine ⟨rfl, fun b => ?_⟩
    unfold pTruth
    rw [if_neg hx, e b, if_neg hx]

theorem gl_app : ∀ (a b : List Nat) (i : Nat), (gl i a).2 = 0 → gl i (a ++ b) = gl i a
  | [], b, i, h => absurd h (by simp [gl])
  | x :: r, b, i, h => by
    rw [List.cons_append, gl, gl]
    rw [gl] at h
    by_cases h1 : i = 9 ∧ 1 < x
    · rw [if_pos h1, if_pos h1]
    · rw [if_neg h1] at h ⊢
      rw [if_neg h1]
      by_cases h2 : 128 ≤ x
      · rw [if_pos h2] at h ⊢
        rw [if_pos h2]
        rw [gl_app r b (i + 1) (by
          unfold up at h
          exact Decidable.byContradiction fun e => by simp_all)]
      · rw [if_neg h2, if_neg h2]

theorem ext_count (most e : Nat) (he : e ≠ 0) : Ext (pCount most e) := by
  intro a c h
  unfold pCount at h
  by_cases hc : c = 0
  · subst hc
    refine ⟨rfl, fun b => ?_⟩
    rw [if_neg (by simp)] at h
    by_cases h1 : (gl 0 a).2 = 0
    · rw [if_neg (show ¬ (gl 0 (a, 0).1).2 ≠ 0 by simpa using h1)] at h
      by_cases h2 : most < gv a
      · rw [if_pos (show most < gv (a, 0).1 from h2)] at h; exact absurd h he
      · have hl := (gl_len 0 a (by omega) h1).2.1
        have g1 := gl_app a b 0 h1
        have g2 : gv (a ++ b) = gv a := by
          unfold gv
          rw [g1, if_pos h1, if_pos h1, List.take_append_of_le_length hl]
        unfold pCount
        simp only [g1, g2, h1]
        rw [if_neg (by simp), if_neg (by simp), if_neg h2, if_neg (by simp), if_neg (by simp), if_neg h2, List.drop_append_of_le_length hl]
    · rw [if_pos (show (gl 0 (a, 0).1).2 ≠ 0 from h1)] at h; exact absurd h h1
  · rw [if_pos (show (a, c).2 ≠ 0 from hc)] at h; exact absurd h hc

/-- One behind the other. -/
theorem ext_seq {α β γ : Type} {P : St → α × St} {Q : α → St → β × St} (hP : Ext P) (hQ : ∀ x, Ext (Q x)) (f : α → β → γ) : Ext fun s => (f (P s).1 (Q (P s).1 (P s).2).1, (Q (P s).1 (P s).2).2) := by
  intro a c h
  have h : (Q (P (a, c)).1 (P (a, c)).2).2.2 = 0 := h
  have h2 := hQ (P (a, c)).1 (P (a, c)).2.1 (P (a, c)).2.2 h
  obtain ⟨rfl, h3⟩ := hP a c h2.1
  refine ⟨rfl, fun b => ?_⟩
  simp only
  rw [h3 b]
  simp only
  have e : (P (a, 0)).2 = ((P (a, 0)).2.1, 0) := Prod.ext rfl h2.1
  rw [h2.2 b, ← e]

theorem ext_vals {g : St → Tr × St} (hg : Ext g) : ∀ n, Ext (pVals g n)
  | 0 => fun a c h => ⟨h, fun b => rfl⟩
  | n + 1 => by
    intro a c h
    by_cases hc : c = 0
    · subst hc
      have e : ∀ a, pVals g (n + 1) (a, 0) = ((g (a, 0)).1 :: (pVals g n (g (a, 0)).2).1, (pVals g n (g (a, 0)).2).2) := fun a => by rw [pVals, if_neg (by simp)]
      rw [e] at h
      have := ext_seq (Q := fun _ => pVals g n) hg (fun _ => ext_vals hg n) (fun x l => x :: l) a 0 h
      refine ⟨rfl, fun b => ?_⟩
      rw [e, e]
      exact this.2 b
    · rw [pVals, if_pos (show (a, c).2 ≠ 0 from hc)] at h
      exact absurd h hc

theorem ext_field (r : Int) {g : St → Tr × St} (hg : Ext g) : Ext (pField r g) := by
  unfold pField
  split
  · exact ext_seq (Q := fun n => pVals g n) ext_truth (fun n => ext_vals hg n) (fun _ l => l)
  · split
    · exact ext_seq (Q := fun n => pVals g n) (ext_count 50 4 (by decide)) (fun n => ext_vals hg n) (fun _ l => l)
    · exact ext_vals hg 1

theorem ext_map {α β : Type} {P : St → α × St} (hP : Ext P) (f : α → β) : Ext fun s => (f (P s).1, (P s).2) := by
  intro a c h
  obtain ⟨rfl, e⟩ := hP a c h
  exact ⟨rfl, fun b => by simp only; rw [e b]⟩

theorem ext_leaf (k : Int) : Ext (pLeaf k) := by
  unfold pLeaf
  split
  · exact ext_map ext_truth fun n => Tr.mk n ByteArray.empty []
  · split
    · exact ext_map (ext_num 4) fun n => Tr.mk (Go.RowKit.wrap32 n) ByteArray.empty []
    · split
      · exact ext_map (ext_num 8) fun n => Tr.mk (wrap64 n) ByteArray.empty []
      · exact ext_seq (Q := fun n => pTake n) (ext_count 100 5 (by decide)) (fun n => ext_take n) fun _ l => Tr.mk 0 (str l) []

theorem ext_grp {g : St → List (List Tr) × St} (hg : Ext g) : Ext (pGrp g) := ext_map hg fun k => Tr.mk 0 ByteArray.empty k

theorem ext_fo : ∀ fo : Fo, Ext (pF fo)
  | .nil => fun a c h => ⟨h, fun b => rfl⟩
  | .leaf f t => by
    have := ext_seq (Q := fun _ => pF t) (ext_field f.r (ext_leaf f.k)) (fun _ => ext_fo t) (fun x l => x :: l)
    exact this
  | .group f k t => by
    have := ext_seq (Q := fun _ => pF t) (ext_field f.r (ext_grp (ext_fo k))) (fun _ => ext_fo t) (fun x l => x :: l)
    exact this

/-- A proper front of what is read well is refused. -/
theorem pAll_front (fo : Fo) (a b : List Nat) (hb : b ≠ []) (h : (pAll fo (a ++ b)).2 = 0) : (pAll fo a).2 ≠ 0 := by
  have hX : Ext fun s => ((pVals (pGrp (pF fo)) (pCount 200 4 s).1 (pCount 200 4 s).2).1, (pVals (pGrp (pF fo)) (pCount 200 4 s).1 (pCount 200 4 s).2).2) := ext_seq (Q := fun n => pVals (pGrp (pF fo)) n) (ext_count 200 4 (by decide)) (fun n => ext_vals (ext_grp (ext_fo fo)) n) (fun _ l => l)
  intro ha
  have low : ∀ x, (pAll fo x).2 = 0 → (pVals (pGrp (pF fo)) (pCount 200 4 (x, 0)).1 (pCount 200 4 (x, 0)).2).2 = ([], 0) := by
    intro x hx
    unfold pAll at hx
    rw [pEnd_eq] at hx
    by_cases he : endE (pVals (pGrp (pF fo)) (pCount 200 4 (x, 0)).1 (pCount 200 4 (x, 0)).2) = 0
    · unfold endE at he
      split at he
      · rename_i h1; exact Prod.ext h1 he
      · exact absurd he (by decide)
    · rw [if_neg he] at hx; exact absurd hx he
  have h1 := low a ha
  have h2 := low (a ++ b) h
  have h3 := (hX a 0 (congrArg Prod.snd h1)).2 b
  have h4 : ((pVals (pGrp (pF fo)) (pCount 200 4 (a ++ b, 0)).1 (pCount 200 4 (a ++ b, 0)).2).2).1 = ((pVals (pGrp (pF fo)) (pCount 200 4 (a, 0)).1 (pCount 200 4 (a, 0)).2).2).1 ++ b := by
    have := congrArg (fun q => q.2.1) h3
    exact this
  rw [h2, h1] at h4
  exact hb (by simpa using h4.symm)

end Go.Proofs.Ytkbfbiklnjldgaa

namespace Go.Proofs.Ytkbfbiklnjldgaa
open Go.RowKit
set_option linter.unusedVariables false
set_option linter.unusedSimpArgs false

/-- Rows of numbers that came in. -/
structure RowsI (w : World) (rv : Value) (rs : List (List Int)) : Prop where
  le : rs.length ≤ maxLen
  at' : ∃ ao cap, rv = .slice ao rs.length cap ∧ rs.length ≤ cap ∧ cap ≤ maxLen ∧ (0 < rs.length → ∃ g off, ao = some ⟨g, off, none⟩ ∧ ∀ j, j < rs.length → ∃ v, w.cell? ⟨g, off + j, none⟩ = some v ∧ SeenI w v (rs.getD j []))
  wf : ∀ r ∈ rs, ∀ x ∈ r, (Lit.int .i64 x).wf = true

theorem RowsI.keep {w w' : World} {rv : Value} {rs : List (List Int)} (h : RowsI w rv rs) (hc : Chg [] w w') : RowsI w' rv rs := by
  obtain ⟨h1, ⟨ao, cap, e, h2, h3, h4⟩, h5⟩ := h
  refine ⟨h1, ⟨ao, cap, e, h2, h3, fun hp => ?_⟩, h5⟩
  obtain ⟨g, off, e2, h6⟩ := h4 hp
  exact ⟨g, off, e2, fun j hj => by obtain ⟨v, q1, q2⟩ := h6 j hj; exact ⟨v, hc.cell q1 (by simp), q2.keep hc⟩⟩

set_option maxRecDepth 100000 in
set_option maxHeartbeats 4000000 in
theorem many_any (sv rv : Value) (l : List F) (rs : List (List Int)) (w : World) (hS : SeenF w sv l) (hR : RowsI w rv rs) (h1 : 1 ≤ l.length) (hl : l.length ≤ 1000) (hw : ∀ f ∈ l, f.c ≤ 9223372036854775807) :
    Calls Try.prog 7 #[sv, rv] w fun e w' => ∃ lv, e = .returned lv ∧ ListIn (w.heap.size ≤ ·) w' l.length ((rs.take 16).map (mk8 l)) lv ∧ Chg [] w w' := by
  obtain ⟨i0, hi, hz0, hz1, hz2⟩ := info_tree
  obtain ⟨hle, ⟨ro, rcap, rfl, hr1, hr2, hrat⟩, hwf⟩ := hR
  obtain ⟨so, scap, rfl, hs1, hs2⟩ := hS.shape
  have HS := Lib.hid hS
  have HW := Lib.hid hw; have HWF := Lib.hid hwf; have HRAT := Lib.hid hrat
  have hpos : 0 < w.heap.size := by
    obtain ⟨g, off, e, hc⟩ := hS.get (by omega) rfl
    exact Nat.lt_of_le_of_lt (Nat.zero_le g) (World.block_lt_of_cell? w _ (hc 0 (by omega)).1)
  obtain ⟨D, hD⟩ : ∃ D, D = l.length := ⟨_, rfl⟩
  rw [← hD] at HS h1 hl hs1 ⊢
  have HDD := Lib.hid hD
  obtain ⟨N, hN⟩ : ∃ N, N = rs.length := ⟨_, rfl⟩
  rw [← hN] at HRAT hle hr1 ⊢
  have HN := Lib.hid hN
  unfold maxLen at hle
  clear hS hw hwf hrat hD hN
  go_enter Try.func7, Try.ntmps7
  go_wp2
  go_loopw [5, 6] (fun lv i w' => ∃ (j : Nat) (E : List (Tr × Value)), j ≤ N ∧ j ≤ 16 ∧ i = .int .i64 (j : Int) ∧ j = E.length ∧ E.map (·.1) = (rs.take j).map (mk8 l) ∧ Chg [] w w' ∧ w'.ownsRow w.heap.size 44 3 lv j (E.flatMap encT) ∧ ∀ q ∈ E, KidsIn (fun x => w.heap.size ≤ x ∧ lv.ownBlock ≠ some x) w' D q.1.k q.2) (fun _ i _ => N - (intOf i).toNat)
  case atStart => exact ⟨0, [], Nat.zero_le _, by decide, rfl, rfl, by simp, Chg.refl _ _, ⟨rfl, .inl ⟨rfl, rfl⟩⟩, by simp⟩
  case round =>
    obtain ⟨j, E, hj, hj16, rfl, hjE, hmap, hc, ho, hli⟩ := hrel
    obtain ⟨la, lc, rfl⟩ := own_shape ho
    have HC := Lib.hid hc; have HO := Lib.hid ho; have HLI := Lib.hid hli; have HJE := Lib.hid hjE; have HMAP := Lib.hid hmap
    have hwi := hc.size
    clear hc ho hli hjE hmap
    by_cases hgo : j < N ∧ j < 16
    · obtain ⟨hjN, hj6⟩ := hgo
      have d1 : decide ((j : Int) < (N : Int)) = true := by simp; omega
      have d2 : decide ((j : Int) < 16) = true := by simp; omega
      obtain ⟨g, off, rfl, hat⟩ := HRAT.out (by omega)
      obtain ⟨v, hv, hvs⟩ := hat j hjN
      have hx := HC.out.cell hv (by simp)
      have HM := Lib.hid (make8_any (.slice so D scap) v l (rs.getD j []) wr (HS.out.keep HC.out) (hvs.keep HC.out) (by have := HDD.out; omega) (by have := HDD.out; omega) HW.out (fun x hx => HWF.out _ (by
        simp only [List.getD, List.getElem?_eq_getElem (show j < rs.length by have := HN.out; omega), Option.getD_some]; exact List.getElem_mem _) x hx))
      obtain ⟨t4, ht4⟩ : ∃ t, t = mk8 l (rs.getD j []) := ⟨_, rfl⟩
      rw [← ht4, ← HDD.out] at HM
      have HMAP2 := Lib.hid (show (E.map (·.1)) ++ [t4] = (rs.take (j + 1)).map (mk8 l) by
        have hjl : j < rs.length := by have := HN.out; omega
        have hg : rs[j]? = some (rs.getD j []) := by rw [List.getD, List.getElem?_eq_getElem hjl]; rfl
        rw [HMAP.out, List.take_add_one, hg, ht4, List.map_append]
        rfl)
      clear hat hv hvs ht4
      go_wp2_with (first
        | (go_at_call 16; (with_reducible refine HM.out.mono ?_); rintro e w4 ⟨kv4, rfl, hk4, hc4⟩; obtain ⟨ko4, kc4, rfl, -, -⟩ := hk4.shape; have HO4 := Lib.hid (own_chg HO.out hc4 (by simp)); have HZ4 := Lib.hid (Nat.le_trans hwi hc4.size); have HK4 := Lib.hid hk4; have HC4 := Lib.hid hc4; clear hk4 hc4)
        | (at_builtin; refine wpList_append_at _ rfl (.tmp 17) (.tmp 24) _ rfl w.heap.size 44 i0 (.agg #[.int .i64 0, .string ByteArray.empty, .slice none 0 0]) 3 48 Try.underlying28 hi hz0 hz1 hz2 rfl (by decide) (.slice la j lc) j (E.flatMap encT) rfl (HO4.out.alloc _) ⟨w4.heap.size, 0, none⟩ 1 1 (encT (t4, Value.slice ko4 t4.k.length kc4)) rfl rfl (new_cells (C := #[Value.int .i64 t4.n, Value.string t4.s, Value.slice ko4 t4.k.length kc4]) _ rfl) (encT_one _ rfl) (by unfold maxLen; omega) (by omega) (le_alloc HZ4.out _) ?_; intro v5 w5 hown5 hg5 hat5; obtain ⟨la5, lc5, rfl⟩ := own_shape hown5; have HO5 := Lib.hid hown5; have HG5 := Lib.hid hg5; have HA5 := Lib.hid hat5; clear hown5 hg5 hat5)
        | fail)
      obtain ⟨a1, a2, a3, a4⟩ := grow_trees (lv := .slice la j lc) (E := E) (gr := 0) (by rw [← HJE.out]; exact HO.out) HLI.out hwi hpos HK4.out (HC4.out.mono (by simp)) (by rw [← HJE.out]; exact HO5.out) HG5.out HA5.out
      have A1 := Lib.hid a1; have A2 := Lib.hid a2
      have A3 := Lib.hid (show Chg [] w w5 from (HC.out.trans HC4.out (by simp)).trans a3 (fun t ht => .inr (a4 t ht)))
      have HJE2 := Lib.hid (show j + 1 = (E ++ [(t4, Value.slice ko4 t4.k.length kc4)]).length by rw [List.length_append, ← HJE.out]; rfl)
      clear a1 a2 a3 a4
      go_wp2
      go_roundw
      case rel => exact ⟨j + 1, E ++ [(t4, Value.slice ko4 t4.k.length kc4)], hjN, hj6, by go_num, HJE2.out, by rw [List.map_append]; exact HMAP2.out, A3.out, by have h := A1.out; rw [← HJE2.out] at h; exact h, A2.out⟩
      case measure => simp [intOf]; omega
    · have hfull : rs.take j = rs.take 16 := by
        have := HN.out
        by_cases h : j < N
        · rw [show j = 16 by omega]
        · rw [List.take_of_length_le (by omega), List.take_of_length_le (by omega)]
      have hpick : (¬ j < N) ∨ (j < N ∧ ¬ ((j : Int) < 16)) := by
        by_cases h : j < N
        · right; exact ⟨h, by omega⟩
        · left; exact h
      have HF := Lib.hid hfull
      clear hgo hfull
      rcases hpick with d1 | ⟨d1, d2⟩
      all_goals
        go_wp2
        go_ret
        refine ⟨_, rfl, ?_, HC.out⟩
        change ListIn _ wr D _ (Value.slice la j lc)
        try rw [← List.map_take]
        rw [← HF.out, ← HMAP.out]
        exact listIn_own HO.out HJE.out.symm (fun g hg => hg) fun q hq => (HLI.out q hq).mono (fun g hg => hg.1) (Nat.le_refl _)

end Go.Proofs.Ytkbfbiklnjldgaa

namespace Go.Proofs.Ytkbfbiklnjldgaa
open Go.RowKit
set_option linter.unusedVariables false
set_option linter.unusedSimpArgs false

/-- Texts of a tree are of at most eight bytes, down to a depth. -/
def Sm8 : Nat → Tr → Prop
  | 0, _ => True
  | D + 1, t => t.s.size ≤ 8 ∧ ∀ x ∈ t.k, ∀ u ∈ x, Sm8 D u

theorem mkT_sm8 (l : List F) (ns : List Int) : ∀ (d f p D : Nat), Sm8 D (mkT l ns d f p).1
  | d, f, p, 0 => trivial
  | 0, f, p, D + 1 => by
    rw [mkT]
    show (default : Tr).s.size ≤ 8 ∧ ∀ x ∈ ([] : List (List Tr)), ∀ u ∈ x, Sm8 D u
    exact ⟨by decide, by simp⟩
  | d + 1, f, p, D + 1 => by
    have z0 : ByteArray.empty.size ≤ 8 := by decide
    rw [mkT]
    split
    · exact ⟨z0, by simp⟩
    · split
      · exact ⟨z0, by simp⟩
      · split
        · exact ⟨z0, by simp⟩
        · split
          · refine ⟨?_, by simp⟩
            simp only [Tr.s_mk]
            have h1 : ((nx ns p).1 % 9).toNat ≤ 8 := by omega
            rw [ByteArray.size_extract]
            omega
          · refine ⟨z0, fun x hx u hu => ?_⟩
            simp only [Tr.k_mk] at hx
            obtain ⟨i, q, rfl⟩ := stepK_mem l ns (mkT l ns d) _ _ (by simp) x hx u hu
            exact mkT_sm8 l ns d i q D

theorem wLeaf_len8 (k : Int) (t : Tr) (h : t.s.size ≤ 8) : (wLeaf k t).length ≤ 20 := by
  unfold wLeaf
  split
  · rw [lw_len]; omega
  · split
    · rw [lw_len]; omega
    · split
      · rw [lw_len]; omega
      · rw [List.length_append, bl_length]
        have := (vb_len64 (v := t.s.size) (by omega)).2
        omega

theorem flat_len8 (w : Tr → List Nat) : ∀ (l : List Tr), (∀ x ∈ l, (w x).length ≤ 50 * szT x) → (l.flatMap w).length ≤ 50 * szL l
  | [], _ => by simp [szL]
  | x :: l, h => by
    have h1 := h x (by simp)
    have h2 := flat_len8 w l fun y hy => h y (by simp [hy])
    rw [List.flatMap_cons, List.length_append, szL]
    omega

theorem wField_len8 (r : Int) (w : Tr → List Nat) (l : List Tr) (hl : l.length ≤ 50) (h : ∀ x ∈ l, (w x).length ≤ 50 * szT x) : (wField r w l).length ≤ 1 + 50 * szL l := by
  have h1 := flat_len8 w l h
  unfold wField
  rw [List.length_append]
  split
  · rw [lw_len]; omega
  · split
    · rw [vb_lt (by omega)]
      simp only [List.length_cons, List.length_nil]; omega
    · rw [List.length_nil]; omega

theorem wF_len8 : ∀ (fo : Fo) (ks : List (List Tr)), fo.wf → fitF fo ks → fo.flat.length ≤ 40 → (∀ f ∈ fo.flat, 0 ≤ f.r ∧ f.r ≤ 2) → (∀ x ∈ ks, ∀ u ∈ x, ∀ D, Sm8 D u) → (wF fo ks).length ≤ fo.num + 50 * szK ks
  | .nil, ks, _, _, _, _, _ => by simp [wF]
  | .leaf f t, ks, ⟨w1, w2, w3⟩, hf, hn, hr, hs => by
    cases ks with
    | nil => exact hf.elim
    | cons l r =>
      obtain ⟨f1, f2, f3⟩ := hf
      have hl := times_le (hr f (by simp [Fo.flat])) f1
      have h1 := wField_len8 f.r (wLeaf f.k) l hl fun x hx => by have := wLeaf_len8 f.k x (hs l (by simp) x hx 1).1; rw [szT_eq]; omega
      have h2 := wF_len8 t r w3 f3 (by simp [Fo.flat] at hn; omega) (fun g hg => hr g (by simp [Fo.flat, hg])) fun x hx => hs x (by simp [hx])
      rw [show wF (.leaf f t) (l :: r) = wField f.r (wLeaf f.k) l ++ wF t r from rfl, List.length_append, szK, Fo.num]
      omega
  | .group f k t, ks, ⟨w1, w2, w3, w4⟩, hf, hn, hr, hs => by
    cases ks with
    | nil => exact hf.elim
    | cons l r =>
      obtain ⟨f1, f2, f3⟩ := hf
      simp only [Fo.flat, List.length_cons, List.length_append] at hn
      have hl := times_le (hr f (by simp [Fo.flat])) f1
      have hk := k.num_le
      have h1 := wField_len8 f.r (fun x => wF k x.k) l hl fun x hx => by
        have := wF_len8 k x.k w3 (f2 x hx).2.2 (by omega) (fun g hg => hr g (by simp [Fo.flat, hg])) fun y hy u hu D => (hs l (by simp) x hx (D + 1)).2 y hy u hu
        rw [szT_eq]
        show (wF k x.k).length ≤ _
        omega
      have h2 := wF_len8 t r w4 f3 (by omega) (fun g hg => hr g (by simp [Fo.flat, hg])) fun x hx => hs x (by simp [hx])
      rw [show wF (.group f k t) (l :: r) = wField f.r (fun x => wF k x.k) l ++ wF t r from rfl, List.length_append, szK, Fo.num]
      omega

/-- What is written of a made record is short. -/
theorem made_len8 (ns rs : List Int) (h : ∀ x ∈ rs, (Lit.int .i64 x).wf = true) (r0 : F) (fo : Fo) (m1 : mk ns = r0 :: fo.flat) (m2 : r0.k = 0) (m3 : r0.c = fo.num) (m4 : fo.wf) : (wF fo (mk8 (mk ns) rs).k).length ≤ 5000000 := by
  obtain ⟨hr, -, -, hF, -, -, -⟩ := made_fits ns rs h r0 fo m1 m2 m3 m4
  have hln := (mk_ok ns).le
  have hlp := (mk_ok ns).pos
  have hsz := mk8_sz rs (chk_good (mk_chk ns)) hlp hln
  have hfl : fo.flat.length ≤ 40 := by rw [m1] at hln; simp at hln; omega
  have hL := wF_len8 fo _ m4 hF hfl hr fun x hx u hu D => (mkT_sm8 (mk ns) rs (mk ns).length 0 0 (D + 1)).2 x hx u hu
  have hnum := fo.num_le
  rw [szT_eq] at hsz
  omega

/-- What is written of sixteen of them. -/
theorem many_len (ns : List Int) (rss : List (List Int)) (h : ∀ r ∈ rss, ∀ x ∈ r, (Lit.int .i64 x).wf = true) (r0 : F) (fo : Fo) (m1 : mk ns = r0 :: fo.flat) (m2 : r0.k = 0) (m3 : r0.c = fo.num) (m4 : fo.wf) :
    ∀ l : List (List Int), (∀ r ∈ l, r ∈ rss) → ((l.map (mk8 (mk ns))).flatMap fun t => wF fo t.k).length ≤ 5000000 * l.length
  | [], _ => by simp
  | r :: l, hl => by
    have h1 := made_len8 ns r (h r (hl r (by simp))) r0 fo m1 m2 m3 m4
    have h2 := many_len ns rss h r0 fo m1 m2 m3 m4 l fun x hx => hl x (by simp [hx])
    rw [List.map_cons, List.flatMap_cons, List.length_append, List.length_cons]
    omega

end Go.Proofs.Ytkbfbiklnjldgaa

namespace Go.Proofs.Ytkbfbiklnjldgaa
open Go.RowKit
set_option linter.unusedVariables false
set_option linter.unusedSimpArgs false

/-- How a parse takes a front of what it takes well: well, or it is cut; an error stays. -/
structure FrP {α : Type} (P : St → α × St) : Prop where
  ext : Ext P
  keep : ∀ c, c ≠ 0 → (P ([], c)).2 = ([], c)
  cut : ∀ a b, (P (a ++ b, 0)).2.2 = 0 → (P (a, 0)).2.2 = 0 ∨ (P (a, 0)).2 = ([], 8)

theorem fr_num (n : Nat) : FrP (pNum n) := by
  refine ⟨ext_num n, fun c hc => ?_, fun a b h => ?_⟩
  · unfold pNum
    by_cases hn : ([] : List Nat).length < n
    · rw [if_pos hn]; simp [hc]
    · rw [if_neg hn]; simp
  · by_cases hn : a.length < n
    · right; unfold pNum; rw [if_pos hn]; rfl
    · left; unfold pNum; rw [if_neg hn]

theorem fr_take (n : Nat) : FrP (pTake n) := by
  refine ⟨ext_take n, fun c hc => ?_, fun a b h => ?_⟩
  · unfold pTake
    by_cases hn : ([] : List Nat).length < n
    · rw [if_pos hn]; simp [hc]
    · rw [if_neg hn]; simp
  · by_cases hn : a.length < n
    · right; unfold pTake; rw [if_pos hn]; rfl
    · left; unfold pTake; rw [if_neg hn]

theorem fr_truth : FrP pTruth := by
  refine ⟨ext_truth, fun c hc => ?_, fun a b h => ?_⟩
  · have e : pNum 1 ([], c) = (0, ([], c)) := by unfold pNum; rw [if_pos (show ([] : List Nat).length < 1 from Nat.zero_lt_one)]; simp [hc]
    unfold pTruth
    rw [e, if_neg (show ¬ 1 < 0 from Nat.not_lt_zero 1)]
  · cases a with
    | nil => right; rfl
    | cons x r =>
      left
      have e1 : pNum 1 (x :: r, 0) = (x, (r, 0)) := by unfold pNum; rw [if_neg (by simp)]; simp [nm]
      have e2 : pNum 1 (x :: r ++ b, 0) = (x, (r ++ b, 0)) := by unfold pNum; rw [if_neg (by simp)]; simp [nm]
      unfold pTruth at h ⊢
      rw [e2] at h
      rw [e1]
      by_cases hx : 1 < x
      · rw [if_pos hx] at h; exact absurd h (by decide)
      · rw [if_neg hx]

theorem gl_cut8 : ∀ (a b : List Nat) (i : Nat), (gl i (a ++ b)).2 = 0 → (gl i a).2 = 0 ∨ (gl i a).2 = 8
  | [], b, i, h => .inr rfl
  | x :: r, b, i, h => by
    rw [List.cons_append, gl] at h
    rw [gl]
    by_cases h1 : i = 9 ∧ 1 < x
    · rw [if_pos h1] at h; exact absurd h (by decide)
    · rw [if_neg h1] at h ⊢
      by_cases h2 : 128 ≤ x
      · rw [if_pos h2] at h ⊢
        exact gl_cut8 r b (i + 1) h
      · rw [if_neg h2] at h ⊢
        exact .inl h

theorem fr_count (most e : Nat) (he : e ≠ 0) : FrP (pCount most e) := by
  refine ⟨ext_count most e he, fun c hc => ?_, fun a b h => ?_⟩
  · unfold pCount; rw [if_pos (show (([], c) : St).2 ≠ 0 from hc)]
  · have h0 : (gl 0 (a ++ b)).2 = 0 := by
      unfold pCount at h
      rw [if_neg (by simp)] at h
      by_cases h1 : (gl 0 (a ++ b)).2 = 0
      · exact h1
      · rw [if_pos (show (gl 0 (a ++ b, 0).1).2 ≠ 0 from h1)] at h; exact absurd h h1
    rcases gl_cut8 a b 0 h0 with h1 | h1
    · left
      have hl := (gl_len 0 a (by omega) h1).2.1
      have g1 := gl_app a b 0 h1
      have g2 : gv (a ++ b) = gv a := by
        unfold gv
        rw [g1, if_pos h1, if_pos h1, List.take_append_of_le_length hl]
      unfold pCount at h ⊢
      rw [if_neg (by simp)] at h ⊢
      rw [if_neg (show ¬ (gl 0 (a ++ b, 0).1).2 ≠ 0 by simpa using h0)] at h
      rw [if_neg (show ¬ (gl 0 (a, 0).1).2 ≠ 0 by simpa using h1)]
      have h : (if most < gv (a ++ b) then ((0, ([], e)) : Nat × St) else (gv (a ++ b), ((a ++ b).drop (gl 0 (a ++ b)).1, 0))).2.2 = 0 := h
      show (if most < gv a then ((0, ([], e)) : Nat × St) else (gv a, (a.drop (gl 0 a).1, 0))).2.2 = 0
      rw [g2] at h
      by_cases h2 : most < gv a
      · rw [if_pos h2] at h; exact absurd h he
      · rw [if_neg h2]
    · right
      unfold pCount
      rw [if_neg (by simp), if_pos (show (gl 0 (a, 0).1).2 ≠ 0 by simp [h1])]
      simp [h1]

theorem fr_seq {α β γ : Type} {P : St → α × St} {Q : α → St → β × St} (hP : FrP P) (hQ : ∀ x, FrP (Q x)) (f : α → β → γ) : FrP fun s => (f (P s).1 (Q (P s).1 (P s).2).1, (Q (P s).1 (P s).2).2) := by
  refine ⟨ext_seq hP.ext (fun x => (hQ x).ext) f, fun c hc => ?_, fun a b h => ?_⟩
  · show (Q (P ([], c)).1 (P ([], c)).2).2 = ([], c)
    rw [hP.keep c hc]
    exact (hQ _).keep c hc
  · have h : (Q (P (a ++ b, 0)).1 (P (a ++ b, 0)).2).2.2 = 0 := h
    show (Q (P (a, 0)).1 (P (a, 0)).2).2.2 = 0 ∨ (Q (P (a, 0)).1 (P (a, 0)).2).2 = ([], 8)
    have h2 := (hQ (P (a ++ b, 0)).1).ext (P (a ++ b, 0)).2.1 (P (a ++ b, 0)).2.2 h
    rcases hP.cut a b h2.1 with h3 | h3
    · have h4 := (hP.ext a 0 h3).2 b
      rw [h4] at h
      have e : (P (a, 0)).2 = ((P (a, 0)).2.1, 0) := Prod.ext rfl h3
      rw [e]
      exact (hQ _).cut _ b h
    · right
      rw [h3]
      exact (hQ _).keep 8 (by decide)

theorem fr_vals {g : St → Tr × St} (hg : FrP g) : ∀ n, FrP (pVals g n)
  | 0 => ⟨ext_vals hg.ext 0, fun c hc => rfl, fun a b h => .inl rfl⟩
  | n + 1 => by
    have e : ∀ a, pVals g (n + 1) (a, 0) = ((g (a, 0)).1 :: (pVals g n (g (a, 0)).2).1, (pVals g n (g (a, 0)).2).2) := fun a => by rw [pVals, if_neg (by simp)]
    have hs := fr_seq (Q := fun _ => pVals g n) hg (fun _ => fr_vals hg n) (fun x l => x :: l)
    refine ⟨ext_vals hg.ext (n + 1), fun c hc => ?_, fun a b h => ?_⟩
    · rw [pVals, if_pos (show (([], c) : St).2 ≠ 0 from hc)]
    · rw [e] at h ⊢
      exact hs.cut a b h

theorem fr_map {α β : Type} {P : St → α × St} (hP : FrP P) (f : α → β) : FrP fun s => (f (P s).1, (P s).2) :=
  ⟨ext_map hP.ext f, hP.keep, hP.cut⟩

theorem fr_field (r : Int) {g : St → Tr × St} (hg : FrP g) : FrP (pField r g) := by
  unfold pField
  split
  · exact fr_seq (Q := fun n => pVals g n) fr_truth (fun n => fr_vals hg n) (fun _ l => l)
  · split
    · exact fr_seq (Q := fun n => pVals g n) (fr_count 50 4 (by decide)) (fun n => fr_vals hg n) (fun _ l => l)
    · exact fr_vals hg 1

theorem fr_leaf (k : Int) : FrP (pLeaf k) := by
  unfold pLeaf
  split
  · exact fr_map fr_truth fun n => Tr.mk n ByteArray.empty []
  · split
    · exact fr_map (fr_num 4) fun n => Tr.mk (Go.RowKit.wrap32 n) ByteArray.empty []
    · split
      · exact fr_map (fr_num 8) fun n => Tr.mk (wrap64 n) ByteArray.empty []
      · exact fr_seq (Q := fun n => pTake n) (fr_count 100 5 (by decide)) (fun n => fr_take n) fun _ l => Tr.mk 0 (str l) []

theorem fr_grp {g : St → List (List Tr) × St} (hg : FrP g) : FrP (pGrp g) := fr_map hg fun k => Tr.mk 0 ByteArray.empty k

theorem fr_fo : ∀ fo : Fo, FrP (pF fo)
  | .nil => ⟨ext_fo .nil, fun c hc => rfl, fun a b h => .inl rfl⟩
  | .leaf f t => by
    have := fr_seq (Q := fun _ => pF t) (fr_field f.r (fr_leaf f.k)) (fun _ => fr_fo t) (fun x l => x :: l)
    exact this
  | .group f k t => by
    have := fr_seq (Q := fun _ => pF t) (fr_field f.r (fr_grp (fr_fo k))) (fun _ => fr_fo t) (fun x l => x :: l)
    exact this

/-- The whole parse, ahead of the end. -/
theorem fr_all (fo : Fo) : FrP fun s => ((pVals (pGrp (pF fo)) (pCount 200 4 s).1 (pCount 200 4 s).2).1, (pVals (pGrp (pF fo)) (pCount 200 4 s).1 (pCount 200 4 s).2).2) :=
  fr_seq (Q := fun n => pVals (pGrp (pF fo)) n) (fr_count 200 4 (by decide)) (fun n => fr_vals (fr_grp (fr_fo fo)) n) (fun _ l => l)

theorem pAll_low (fo : Fo) (x : List Nat) (hx : (pAll fo x).2 = 0) : (pVals (pGrp (pF fo)) (pCount 200 4 (x, 0)).1 (pCount 200 4 (x, 0)).2).2 = ([], 0) := by
  unfold pAll at hx
  rw [pEnd_eq] at hx
  by_cases he : endE (pVals (pGrp (pF fo)) (pCount 200 4 (x, 0)).1 (pCount 200 4 (x, 0)).2) = 0
  · unfold endE at he
    split at he
    · rename_i h1; exact Prod.ext h1 he
    · exact absurd he (by decide)
  · rw [if_neg he] at hx; exact absurd hx he

/-- A proper front of what is read well is cut. -/
theorem pAll_cut (fo : Fo) (a b : List Nat) (hb : b ≠ []) (h : (pAll fo (a ++ b)).2 = 0) : (pAll fo a).2 = 8 := by
  have h2 := pAll_low fo (a ++ b) h
  have hne := pAll_front fo a b hb h
  rcases (fr_all fo).cut a b (congrArg Prod.snd h2) with h3 | h3
  · exfalso
    have h3 : (pVals (pGrp (pF fo)) (pCount 200 4 (a, 0)).1 (pCount 200 4 (a, 0)).2).2.2 = 0 := h3
    have h4 := ((fr_all fo).ext a 0 h3).2 b
    have h5 : ((pVals (pGrp (pF fo)) (pCount 200 4 (a ++ b, 0)).1 (pCount 200 4 (a ++ b, 0)).2).2).1 = ((pVals (pGrp (pF fo)) (pCount 200 4 (a, 0)).1 (pCount 200 4 (a, 0)).2).2).1 ++ b := congrArg (fun q => q.2.1) h4
    rw [h2] at h5
    exact hb (List.append_eq_nil_iff.1 h5.symm).2
  · have h3 : (pVals (pGrp (pF fo)) (pCount 200 4 (a, 0)).1 (pCount 200 4 (a, 0)).2).2 = ([], 8) := h3
    unfold pAll
    rw [pEnd_eq]
    have he : endE (pVals (pGrp (pF fo)) (pCount 200 4 (a, 0)).1 (pCount 200 4 (a, 0)).2) = 8 := by
      unfold endE; rw [h3]; rfl
    rw [he]
    rfl

/-- What is read well, with more behind, is more. -/
theorem pAll_more (fo : Fo) (a b : List Nat) (hb : b ≠ []) (h : (pAll fo a).2 = 0) : pAll fo (a ++ b) = ([], 9) := by
  have h1 := pAll_low fo a h
  have h4 := ((fr_all fo).ext a 0 (congrArg Prod.snd h1)).2 b
  have h5 : (pVals (pGrp (pF fo)) (pCount 200 4 (a ++ b, 0)).1 (pCount 200 4 (a ++ b, 0)).2).2 = (((pVals (pGrp (pF fo)) (pCount 200 4 (a, 0)).1 (pCount 200 4 (a, 0)).2).2).1 ++ b, 0) := congrArg (fun q => q.2) h4
  rw [h1] at h5
  have h5 : (pVals (pGrp (pF fo)) (pCount 200 4 (a ++ b, 0)).1 (pCount 200 4 (a ++ b, 0)).2).2 = (b, 0) := h5
  unfold pAll
  rw [pEnd_eq]
  have he : endE (pVals (pGrp (pF fo)) (pCount 200 4 (a ++ b, 0)).1 (pCount 200 4 (a ++ b, 0)).2) = 9 := by
    unfold endE; rw [h5]; simp [hb]
  rw [he]
  rfl

end Go.Proofs.Ytkbfbiklnjldgaa
