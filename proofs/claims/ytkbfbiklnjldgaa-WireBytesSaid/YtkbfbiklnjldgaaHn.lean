/- Records of noughts. -/
import Derived.Test.YtkbfbiklnjldgaaWBad9
namespace Go.Proofs.Ytkbfbiklnjldgaa
open Go.RowKit
set_option linter.unusedVariables false
set_option linter.unusedSimpArgs false

theorem pNum_zero (z : List Nat) : pNum 1 (0 :: z, 0) = (0, (z, 0)) := by
  unfold pNum
  rw [if_neg (by simp)]
  simp [nm]
theorem pTruth_zero (z : List Nat) : pTruth (0 :: z, 0) = (0, (z, 0)) := by
  unfold pTruth
  rw [pNum_zero, if_neg (show ¬ 1 < 0 by decide)]

theorem pCount_vb (most e v : Nat) (r : List Nat) (hv : v < 18446744073709551616) : pCount most e (vb v ++ r, 0) = if most < v then (0, ([], e)) else (v, (r, 0)) := by
  obtain ⟨h1, h2⟩ := gv_vb v r hv
  unfold pCount
  rw [if_neg (by simp)]
  simp only [h1, h2]
  rw [if_neg (by simp)]
  simp

/-- Where each value takes one nought. -/
theorem pVals_zeros (g : St → Tr × St) (t : Tr) (hg : ∀ z, g (0 :: z, 0) = (t, (z, 0))) : ∀ (k : Nat) (z : List Nat), pVals g k (List.replicate k 0 ++ z, 0) = (List.replicate k t, (z, 0))
  | 0, z => rfl
  | k + 1, z => by
    rw [List.replicate_succ, List.cons_append, pVals, if_neg (by simp), hg, pVals_zeros g t hg k z]
    rfl

def fM9 : F := ⟨ba8, 1, 1, 0⟩
def fR9 : F := ⟨ba8, 2, 1, 0⟩
def tM9 : Tr := .mk 0 ByteArray.empty [[]]
def tL9 : Tr := .mk 0 ByteArray.empty []

theorem rec_m (z : List Nat) : pGrp (pF (.leaf fM9 .nil)) (0 :: z, 0) = (tM9, (z, 0)) := by
  have h : pField fM9.r (pLeaf fM9.k) (0 :: z, 0) = ([], (z, 0)) := by
    unfold pField
    rw [if_pos (show fM9.r = 1 from rfl), pTruth_zero]; rfl
  unfold pGrp
  rw [pF, h, pF]
  rfl

theorem leaf_l (z : List Nat) : pLeaf 1 (0 :: z, 0) = (tL9, (z, 0)) := by
  unfold pLeaf
  rw [if_pos rfl, pTruth_zero]; rfl

theorem rec_r (m : Nat) (hm : m < 128) : pGrp (pF (.leaf fR9 .nil)) (m :: List.replicate m 0, 0) = if 50 < m then (.mk 0 ByteArray.empty [[]], ([], 4)) else (.mk 0 ByteArray.empty [List.replicate m tL9], ([], 0)) := by
  have h : pField fR9.r (pLeaf fR9.k) (m :: List.replicate m 0, 0) = if 50 < m then ([], ([], 4)) else (List.replicate m tL9, ([], 0)) := by
    unfold pField
    rw [if_neg (show ¬ fR9.r = 1 by decide), if_pos (show fR9.r = 2 from rfl)]
    have e : m :: List.replicate m 0 = vb m ++ List.replicate m 0 := by rw [vb_lt hm]; rfl
    rw [e, pCount_vb 50 4 m _ (by omega)]
    split
    · rfl
    · have := pVals_zeros (pLeaf 1) tL9 leaf_l m []
      rw [List.append_nil] at this
      exact this
  unfold pGrp
  rw [pF, h, pF]
  split <;> rfl

theorem all_m (n : Nat) (h : 128 ≤ n ∧ n < 256) : pAll (.leaf fM9 .nil) ([n, 1] ++ List.replicate n 0) = if 200 < n then ([], 4) else (List.replicate n tM9, 0) := by
  have e : [n, 1] = vb n := by
    rw [vb_ge (by omega), vb_lt (by omega), show n % 128 + 128 = n by omega, show n / 128 = 1 by omega]
  unfold pAll
  rw [e, pCount_vb 200 4 n _ (by omega)]
  split
  · rfl
  · have := pVals_zeros (pGrp (pF (.leaf fM9 .nil))) tM9 rec_m n []
    rw [List.append_nil] at this
    simp only [this]
    rfl

theorem all_r (m : Nat) (h : m < 128) : pAll (.leaf fR9 .nil) ([1, m] ++ List.replicate m 0) = if 50 < m then ([], 4) else ([.mk 0 ByteArray.empty [List.replicate m tL9]], 0) := by
  have e : [1, m] ++ List.replicate m 0 = vb 1 ++ (m :: List.replicate m 0) := by rw [vb_lt (by decide)]; rfl
  unfold pAll
  rw [e, pCount_vb 200 4 1 _ (by omega), if_neg (by decide)]
  have h1 : pVals (pGrp (pF (.leaf fR9 .nil))) 1 (m :: List.replicate m 0, 0) = ([(pGrp (pF (.leaf fR9 .nil)) (m :: List.replicate m 0, 0)).1], (pGrp (pF (.leaf fR9 .nil)) (m :: List.replicate m 0, 0)).2) := by
    rw [pVals, if_neg (by simp), pVals]
  simp only [h1, rec_r m h]
  split <;> rfl

end Go.Proofs.Ytkbfbiklnjldgaa
