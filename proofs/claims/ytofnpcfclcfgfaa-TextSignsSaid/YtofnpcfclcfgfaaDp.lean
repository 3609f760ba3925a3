/- Groups in one another: what their schema is. Rows of the call's own that hold fields. -/
import Derived.Test.YtofnpcfclcfgfaaLv
import Derived.Test.YtofnpcfclcfgfaaRn
import Derived.Test.YtofnpcfclcfgfaaWithin
namespace Go.Proofs.Ytofnpcfclcfgfaa
open Go.RowKit
set_option linter.unusedVariables false

abbrev bm : ByteArray := { data := #[109] }
abbrev ba : ByteArray := { data := #[97] }
abbrev bg : ByteArray := { data := #[103] }
abbrev bz : ByteArray := { data := #[122] }

def chain (m : Nat) : List Int := (List.range m).map fun (j : Nat) => (j : Int) - 1
@[simp] theorem chain_length (m : Nat) : (chain m).length = m := by simp [chain]
theorem chain_get (m j : Nat) (h : j < m) : (chain m)[j]? = some ((j : Int) - 1) := by simp [chain, h]
theorem chain_succ (m : Nat) : chain (m + 1) = chain m ++ [(m : Int) - 1] := by simp [chain, List.range_succ]

theorem countP_succ (b : Nat → Bool) (m : Nat) : (((List.range (m + 1)).countP b : Nat) : Int) = (((List.range m).countP b : Nat) : Int) + (if b m then 1 else 0) := by
  rw [List.range_succ, List.countP_append]
  by_cases h : b m = true <;> simp [h]

theorem cntL_chain (b : Nat → Bool) (m : Nat) : cntL b (chain m) = (List.range m).map fun (j : Nat) => (((List.range (j + 1)).countP b : Nat) : Int) := by
  induction m with
  | zero => rfl
  | succ m ih =>
    rw [chain_succ, cntL_snoc, ih, List.range_succ, List.map_append]
    congr 1
    simp only [List.map_cons, List.map_nil, List.length_map, List.length_range]
    congr 1
    rw [countP_succ]
    congr 1
    cases m with
    | zero => rfl
    | succ m =>
      rw [if_neg (by omega)]
      have e : (((m + 1 : Nat) : Int) - 1).toNat = m := by omega
      rw [e]
      simp [List.getD]

theorem par_groups (gl : List F) (z : F) (hg : ∀ f ∈ gl, f.k = 0 ∧ f.c = 1) (i : Nat) (t : List (Nat × Int)) : par (i + 1) (gl ++ [z]) ((i, 1) :: t) = (List.range (gl.length + 1)).map fun (j : Nat) => (i : Int) + j := by
  induction gl generalizing i t with
  | nil => simp [par, popS, topS]
  | cons f gl ih =>
    obtain ⟨h1, h2⟩ := hg f (by simp)
    have hr : List.range (gl.length + 1 + 1) = 0 :: (List.range (gl.length + 1)).map Nat.succ := List.range_succ_eq_map
    have hi := ih (fun f hf => hg f (by simp [hf])) (i + 1) ((i, 0) :: t)
    simp only [List.cons_append, par, popS, topS, decS, pushS, h1, h2, List.length_cons, hr, List.map_cons, List.map_map]
    simp only [show ¬ ((1 : Int) < 1) by decide, if_false, if_true]
    rw [show ((1 : Int) - 1) = 0 from rfl, hi]
    have e : (List.range (gl.length + 1)).map (fun (j : Nat) => ((i + 1 : Nat) : Int) + (j : Int)) = (List.range (gl.length + 1)).map ((fun (j : Nat) => (i : Int) + (j : Int)) ∘ Nat.succ) := by
      apply List.map_congr_left
      intro j _
      simp only [Function.comp]
      omega
    rw [e]
    simp

theorem parents_deep (f z : F) (gl : List F) (hf : f.k = 0 ∧ f.c = 1) (hg : ∀ f ∈ gl, f.k = 0 ∧ f.c = 1) : parents (f :: (gl ++ [z])) = chain (gl.length + 2) := by
  unfold parents
  have h := par_groups gl z hg 0 []
  have hr : List.range (gl.length + 1 + 1) = 0 :: (List.range (gl.length + 1)).map Nat.succ := List.range_succ_eq_map
  simp only [par, popS, topS, decS, pushS, hf.1, hf.2, if_true, chain, hr, List.map_cons, List.map_map]
  rw [h]
  congr 1
  apply List.map_congr_left
  intro j _
  simp only [Function.comp]
  omega

/-- Groups in one another, a leaf within. -/
def deepG (R : Nat → Int) (n : Nat) : List F := (List.range n).map fun i => ⟨bg, R i, 0, 1⟩
def deepL (R : Nat → Int) (rz : Int) (n : Nat) : List F := ⟨bm, 0, 0, 1⟩ :: (deepG R n ++ [⟨bz, rz, 3, 0⟩])
@[simp] theorem deepG_length (R : Nat → Int) (n : Nat) : (deepG R n).length = n := by simp [deepG]
@[simp] theorem deepL_length (R : Nat → Int) (rz : Int) (n : Nat) : (deepL R rz n).length = n + 2 := by simp [deepL]
theorem deepG_succ (R : Nat → Int) (n : Nat) : deepG R (n + 1) = deepG R n ++ [⟨bg, R n, 0, 1⟩] := by simp [deepG, List.range_succ]

theorem deep_get (R : Nat → Int) (rz : Int) (n j : Nat) (h : j < n + 2) : (deepL R rz n).getD j default = if j = 0 then ⟨bm, 0, 0, 1⟩ else if j = n + 1 then ⟨bz, rz, 3, 0⟩ else ⟨bg, R (j - 1), 0, 1⟩ := by
  cases j with
  | zero => rfl
  | succ j =>
    unfold deepL
    rw [List.getD_cons_succ, if_neg (by omega)]
    by_cases e : j = n
    · subst e
      simp [List.getD]
    · have hj : j < n := by omega
      rw [if_neg (by omega)]
      simp [List.getD, List.getElem?_append_left, deepG, hj]

theorem deep_parents (R : Nat → Int) (rz : Int) (n : Nat) : parents (deepL R rz n) = chain (n + 2) := by
  have h := parents_deep ⟨bm, 0, 0, 1⟩ ⟨bz, rz, 3, 0⟩ (deepG R n) ⟨rfl, rfl⟩ (by
    intro f hf
    simp [deepG] at hf
    obtain ⟨i, _, rfl⟩ := hf
    exact ⟨rfl, rfl⟩)
  rw [deepG_length] at h
  exact h

theorem chain_getD (m j : Nat) (h : j < m) : (chain m).getD j 0 = (j : Int) - 1 := by rw [List.getD, chain_get m j h]; rfl

theorem deep_depths (R : Nat → Int) (rz : Int) (n j : Nat) (h : j < n + 2) : (depths (deepL R rz n)).getD j 0 = j := by
  unfold depths
  rw [deep_parents, cntL_chain]
  have e : ∀ j : Nat, (((List.range (j + 1)).countP (fun i => decide (0 < i)) : Nat) : Int) = j := by
    intro j
    induction j with
    | zero => rfl
    | succ j ih => rw [countP_succ, ih]; simp
  simp only [List.getD, List.getElem?_map, List.getElem?_range h, Option.map_some, Option.getD_some]
  exact e j

theorem deep_fault (R : Nat → Int) (rz : Int) (n j : Nat) (h : j < n + 2) (hR : ∀ i, 0 ≤ R i ∧ R i ≤ 2) (hz : 0 ≤ rz ∧ rz ≤ 2) : faultN (deepL R rz n) (parents (deepL R rz n)) (depths (deepL R rz n)) j = if 8 < j then 11 else 0 := by
  have hp : (parents (deepL R rz n)).getD j 0 = (j : Int) - 1 := by rw [deep_parents, chain_getD _ _ h]
  have hd := deep_depths R rz n j h
  have ht : takenB (deepL R rz n) (parents (deepL R rz n)) j = false := by
    rw [Bool.eq_false_iff]
    intro ht
    unfold takenB at ht
    rw [List.any_eq_true] at ht
    obtain ⟨k, hk, hs⟩ := ht
    have hkj := List.mem_range.1 hk
    unfold sameN at hs
    rw [deep_parents, chain_getD _ _ h, chain_getD _ _ (by omega)] at hs
    simp at hs
    omega
  unfold faultN
  rw [hp, hd, ht, deep_get R rz n j h]
  rw [if_neg (by omega)]
  by_cases h8 : 8 < j
  · rw [if_pos (by omega), if_pos h8]
  · rw [if_neg (by omega), if_neg h8]
    have e1 : nameB (bl bm) = true := by decide
    have e2 : nameB (bl bg) = true := by decide
    have e3 : nameB (bl bz) = true := by decide
    have hRj := hR (j - 1)
    by_cases h0 : j = 0
    · simp [h0, e1, knownB, rootB, haveB]
    · by_cases hn : j = n + 1
      · simp [hn, e3, knownB, haveB, hz]
      · simp [h0, hn, e2, knownB, haveB, hRj]

theorem deep_lacks (R : Nat → Int) (rz : Int) (n : Nat) : lacksB (deepL R rz n) (parents (deepL R rz n)) = false := by
  rw [Bool.eq_false_iff]
  intro h
  unfold lacksB at h
  rw [List.any_eq_true] at h
  obtain ⟨k, hk, hs⟩ := h
  have hkj := List.mem_range.1 hk
  rw [deepL_length] at hkj
  unfold fewB at hs
  rw [deep_get R rz n k hkj, deep_parents] at hs
  have hs := of_decide_eq_true hs
  by_cases hn : k = n + 1
  · rw [if_neg (by omega), if_pos hn] at hs
    simp only at hs
    omega
  · have hm : ((k : Int)) ∈ (chain (n + 2)).drop 1 := by
      rw [List.mem_iff_getElem?]
      refine ⟨k, ?_⟩
      rw [List.getElem?_drop, chain_get _ _ (by omega)]
      congr 1
      omega
    have hc : 0 < ((chain (n + 2)).drop 1).count (k : Int) := List.count_pos_iff.2 hm
    by_cases h0 : k = 0
    · rw [if_pos h0] at hs
      simp only at hs
      omega
    · rw [if_neg h0, if_neg hn] at hs
      simp only at hs
      omega

theorem deep_chk (R : Nat → Int) (rz : Int) (n : Nat) (hn : n ≤ 11) (hR : ∀ i, 0 ≤ R i ∧ R i ≤ 2) (hz : 0 ≤ rz ∧ rz ≤ 2) : chk (deepL R rz n) = if 8 < n + 1 then 11 else 0 := by
  unfold chk
  rw [deepL_length, if_neg (by omega)]
  by_cases h : 8 < n + 1
  · have e := firstN_at (p := faultN (deepL R rz n) (parents (deepL R rz n)) (depths (deepL R rz n))) (n := n + 2) (k := 9) (fun j hj => by rw [deep_fault R rz n j (by omega) hR hz, if_neg (by omega)]) (by omega) (by rw [deep_fault R rz n 9 (by omega) hR hz]; decide)
    rw [e, deep_fault R rz n 9 (by omega) hR hz, if_pos h]
    rfl
  · have e := firstN_zero (p := faultN (deepL R rz n) (parents (deepL R rz n)) (depths (deepL R rz n))) (n := n + 2) (fun j hj => by rw [deep_fault R rz n j hj hR hz, if_neg (by omega)])
    rw [e, deep_lacks, if_neg h]
    rfl

theorem flatMap_range_zero {α : Type} (g : Nat → List α) (m : Nat) (h : ∀ j, j < m → g j = []) : (List.range m).flatMap g = [] := by
  induction m with
  | zero => rfl
  | succ m ih => rw [List.range_succ, List.flatMap_append, ih fun j hj => h j (by omega)]; simp [h m (by omega)]

theorem deep_leaves (R : Nat → Int) (rz : Int) (n : Nat) : leavesL (deepL R rz n) = [⟨(n + 1 : Nat), (((List.range (n + 2)).countP (repB (deepL R rz n)) : Nat) : Int), (dls (deepL R rz n)).getD (n + 1) 0, 3⟩] := by
  unfold leavesL
  rw [deepL_length, show n + 2 = (n + 1) + 1 from rfl, leavesTo_succ]
  have h0 : leavesTo (deepL R rz n) (n + 1) = [] := by
    apply flatMap_range_zero
    intro j hj
    unfold leafAt
    rw [deep_get R rz n j (by omega), if_neg (show ¬ j = n + 1 by omega)]
    split <;> simp
  rw [h0, List.nil_append]
  unfold leafAt
  rw [deep_get R rz n (n + 1) (by omega), if_neg (show ¬ (n + 1 = 0) by omega), if_pos rfl, if_pos (by simp)]
  congr 2
  unfold rls
  rw [deep_parents, cntL_chain]
  simp only [List.getD, List.getElem?_map, List.getElem?_range (show n + 1 < n + 2 by omega), Option.map_some, Option.getD_some]

end Go.Proofs.Ytofnpcfclcfgfaa
