/- What fits, told by the forest; records that were written are read. -/
import Derived.Test.YthhcnlmjcpkbnaaHv
import Derived.Test.YthhcnlmjcpkbnaaHn
import Derived.Test.YthhcnlmjcpkbnaaHF
namespace Go.Proofs.Ythhcnlmjcpkbnaa
open Go.RowKit
set_option linter.unusedVariables false
set_option linter.unusedSimpArgs false

theorem orE_zero9 {a b : Int} (h : orE a b = 0) : a = 0 ∧ b = 0 := by
  unfold orE at h
  split at h
  · contradiction
  · rename_i h1; exact ⟨by simpa using h1, h⟩

theorem fitL_all9 {l : List F} {f : Nat} : ∀ {x : List Tr}, fitL l f x = 0 → ∀ u ∈ x, fitV l f u = 0
  | [], _, u, hu => by simp at hu
  | t :: r, h, u, hu => by
    rw [fitL] at h
    obtain ⟨h1, h2⟩ := orE_zero9 h
    rcases List.mem_cons.1 hu with rfl | hu
    · exact h1
    · exact fitL_all9 h2 u hu

/-- What fits. -/
def fitF : Fo → List (List Tr) → Prop
  | .nil, ks => ks = []
  | .leaf f t, ks => match ks with | [] => False | l :: r => timesE f.r l.length = 0 ∧ (∀ x ∈ l, leafE f.k x = 0) ∧ fitF t r
  | .group f k t, ks => match ks with | [] => False | l :: r => timesE f.r l.length = 0 ∧ (∀ x ∈ l, x.n = 0 ∧ x.s = ByteArray.empty ∧ fitF k x.k) ∧ fitF t r

theorem fitF_of (l : List F) : ∀ (fo : Fo) (i : Nat) (ks : List (List Tr)), HasK l i fo → fo.wf → fitG l (tops i fo) ks = 0 → ks.length = fo.num → fitF fo ks
  | .nil, i, ks, _, _, _, hn => List.eq_nil_of_length_eq_zero hn
  | .leaf f t, i, ks, ⟨h1, h2⟩, ⟨w1, w2, w3⟩, hf, hn => by
    cases ks with
    | nil => simp [Fo.num] at hn
    | cons x r =>
      rw [tops, fitG] at hf
      obtain ⟨h3, h4⟩ := orE_zero9 hf
      obtain ⟨h5, h6⟩ := orE_zero9 h3
      simp only [List.headD_cons, Int.toNat_natCast, List.tail_cons, h1] at h4 h5 h6
      refine ⟨h5, fun u hu => ?_, fitF_of l t (i + 1) r h2 w3 h4 (by simpa [Fo.num] using hn)⟩
      have := fitL_all9 h6 u hu
      rw [fitV_leaf (by rw [h1]; omega), h1] at this
      exact this
  | .group f k t, i, ks, ⟨h1, hk, h2, h2'⟩, ⟨w1, w2, w3, w4⟩, hf, hn => by
    cases ks with
    | nil => simp [Fo.num] at hn
    | cons x r =>
      rw [tops, fitG] at hf
      obtain ⟨h3, h4⟩ := orE_zero9 hf
      obtain ⟨h5, h6⟩ := orE_zero9 h3
      simp only [List.headD_cons, Int.toNat_natCast, List.tail_cons, h1] at h4 h5 h6
      refine ⟨h5, fun u hu => ?_, fitF_of l t (i + 1 + k.flat.length) r h2' w4 h4 (by simpa [Fo.num] using hn)⟩
      have := fitL_all9 h6 u hu
      rw [fitV_group (by rw [h1]; exact w1), hk] at this
      split at this
      · contradiction
      · rename_i h7
        rw [tops_len] at h7
        have h8 : u.n = 0 ∧ u.s = ByteArray.empty ∧ u.k.length = k.num := by
          refine ⟨?_, ?_, ?_⟩
          · exact Decidable.byContradiction fun e => h7 (.inl e)
          · exact Classical.byContradiction fun e => h7 (.inr (.inl e))
          · exact Decidable.byContradiction fun e => h7 (.inr (.inr e))
        exact ⟨h8.1, h8.2.1, fitF_of l k (i + 1) u.k h2 w3 this h8.2.2⟩

theorem nm_low (k : Nat) : ∀ v : Int, (nm (lw k v) : Int) = v % 256 ^ k := by
  induction k with
  | zero => intro v; simp [lw, low, nm, Int.emod_one]
  | succ k ih =>
    intro v
    have e : lw (k + 1) v = (v % 256).toNat :: lw k (v / 256) := rfl
    have h := ih (v / 256)
    rw [e, nm]
    have h1 : (v / 256) % 256 ^ k = v / 256 - 256 ^ k * (v / 256 / 256 ^ k) := Int.emod_def _ _
    have h2 : v % 256 ^ (k + 1) = v - 256 ^ (k + 1) * (v / 256 ^ (k + 1)) := Int.emod_def _ _
    have h3 : v / 256 ^ (k + 1) = v / 256 / 256 ^ k := by rw [Int.ediv_ediv_of_nonneg (by omega), Int.pow_succ, Int.mul_comm]
    have h4 : (256 : Int) ^ (k + 1) * (v / 256 / 256 ^ k) = 256 * (256 ^ k * (v / 256 / 256 ^ k)) := by rw [Int.pow_succ, Int.mul_comm (256 ^ k) 256, Int.mul_assoc]
    rw [h2, h3, h4]
    generalize 256 ^ k * (v / 256 / 256 ^ k) = X at h1 ⊢
    rw [h1] at h
    clear h1 h2 h3 h4 ih e
    omega
theorem nm_lw1 (v : Int) (h : 0 ≤ v ∧ v < 256) : (nm (lw 1 v) : Int) = v := by rw [nm_low]; show v % 256 = v; omega
theorem nm_lw4 (v : Int) : (nm (lw 4 v) : Int) = v % 4294967296 := by rw [nm_low]; rfl
theorem nm_lw8 (v : Int) : (nm (lw 8 v) : Int) = v % 18446744073709551616 := by rw [nm_low]; rfl

theorem pNum_lw (k : Nat) (v : Int) (rest : List Nat) : pNum k (lw k v ++ rest, 0) = (nm (lw k v), (rest, 0)) := by
  unfold pNum
  have h := lw_len k v
  rw [if_neg (by simp [h])]
  simp [List.take_append_of_le_length, h]

theorem pTake_app (a rest : List Nat) : pTake a.length (a ++ rest, 0) = (a, (rest, 0)) := by
  unfold pTake
  rw [if_neg (by simp)]
  simp

theorem str_bl9 (s : ByteArray) : str (bl s) = s := by
  have : (bl s).map UInt8.ofNat = s.data.toList := by
    unfold bl
    rw [List.map_map]
    conv => rhs; rw [← List.map_id s.data.toList]
    apply List.map_congr_left
    intro x hx
    simp
  unfold str
  rw [this]

theorem pLeaf_back (k : Int) (hk : 1 ≤ k ∧ k ≤ 4) (t : Tr) (hf : leafE k t = 0) (ho : okLeaf t) (rest : List Nat) : pLeaf k (wLeaf k t ++ rest, 0) = (t, (rest, 0)) := by
  unfold leafE at hf
  split at hf
  · contradiction
  rename_i h1
  split at hf
  · contradiction
  rename_i h2
  split at hf
  · contradiction
  rename_i h3
  have hkk : t.k = [] := List.eq_nil_of_length_eq_zero (by
    have := fun e => h1 (.inl e)
    omega)
  have hte := Tr.eta t
  rw [hkk] at hte
  obtain ⟨⟨o1, o2⟩, o3⟩ := ho
  have hc : k = 1 ∨ k = 2 ∨ k = 3 ∨ k = 4 := by omega
  rcases hc with rfl | rfl | rfl | rfl
  · have hs : t.s = ByteArray.empty := Classical.byContradiction fun e => h1 (.inr (.inr ⟨by decide, e⟩))
    have hn : 0 ≤ t.n ∧ t.n ≤ 1 := by
      unfold overB at h2
      simp at h2
      omega
    unfold pLeaf wLeaf
    rw [if_pos rfl, if_pos rfl]
    have e : pTruth (lw 1 t.n ++ rest, 0) = (nm (lw 1 t.n), (rest, 0)) := by
      unfold pTruth
      rw [pNum_lw]
      have := nm_lw1 t.n (by omega)
      rw [if_neg (show ¬ 1 < nm (lw 1 t.n) by omega)]
    rw [e]
    simp only [nm_lw1 t.n (by omega)]
    rw [← hs, ← hte]
  · have hs : t.s = ByteArray.empty := Classical.byContradiction fun e => h1 (.inr (.inr ⟨by decide, e⟩))
    have hn : -2147483648 ≤ t.n ∧ t.n ≤ 2147483647 := by
      unfold overB at h2
      simp at h2
      omega
    unfold pLeaf wLeaf
    rw [if_neg (by decide), if_pos rfl, if_neg (by decide), if_pos rfl, pNum_lw]
    simp only [nm_lw4 t.n]
    rw [show Go.RowKit.wrap32 (t.n % 4294967296) = t.n by unfold Go.RowKit.wrap32; omega, ← hs, ← hte]
  · have hs : t.s = ByteArray.empty := Classical.byContradiction fun e => h1 (.inr (.inr ⟨by decide, e⟩))
    unfold pLeaf wLeaf
    rw [if_neg (by decide), if_neg (by decide), if_pos rfl, if_neg (by decide), if_neg (by decide), if_pos rfl, pNum_lw]
    simp only [nm_lw8 t.n]
    rw [show Go.RowKit.wrap64 (t.n % 18446744073709551616) = t.n by unfold Go.RowKit.wrap64; omega, ← hs, ← hte]
  · have hn : t.n = 0 := Decidable.byContradiction fun e => h1 (.inr (.inl ⟨rfl, e⟩))
    unfold pLeaf wLeaf
    rw [if_neg (by decide), if_neg (by decide), if_neg (by decide), if_neg (by decide), if_neg (by decide), if_neg (by decide), List.append_assoc, pCount_vb 100 5 t.s.size _ (by omega), if_neg h3]
    have e := pTake_app (bl t.s) rest
    rw [bl_length] at e
    simp only [e]
    rw [str_bl9, ← hn, ← hte]

theorem pVals_back (g : St → Tr × St) (w : Tr → List Nat) : ∀ (l : List Tr) (rest : List Nat), (∀ x ∈ l, ∀ r, g (w x ++ r, 0) = (x, (r, 0))) → pVals g l.length (l.flatMap w ++ rest, 0) = (l, (rest, 0))
  | [], rest, _ => rfl
  | x :: l, rest, h => by
    rw [List.length_cons, pVals, if_neg (by simp), List.flatMap_cons, List.append_assoc, h x (by simp), pVals_back g w l rest fun y hy => h y (by simp [hy])]

theorem pField_back (r : Int) (hr : 0 ≤ r ∧ r ≤ 2) (g : St → Tr × St) (w : Tr → List Nat) (l : List Tr) (rest : List Nat) (ht : timesE r l.length = 0) (h : ∀ x ∈ l, ∀ r, g (w x ++ r, 0) = (x, (r, 0))) : pField r g (wField r w l ++ rest, 0) = (l, (rest, 0)) := by
  have hv := pVals_back g w l rest h
  have hc : r = 0 ∨ r = 1 ∨ r = 2 := by omega
  unfold pField wField
  rcases hc with rfl | rfl | rfl
  · have hl : l.length = 1 := by
      unfold timesE at ht
      rw [if_pos rfl] at ht
      exact Decidable.byContradiction fun e => by rw [if_neg e] at ht; cases ht
    rw [if_neg (by decide), if_neg (by decide), if_neg (by decide), if_neg (by decide), List.nil_append]
    rw [hl] at hv
    exact hv
  · have hl : l.length ≤ 1 := by
      unfold timesE at ht
      rw [if_neg (by decide), if_pos rfl] at ht
      exact Decidable.byContradiction fun e => by rw [if_neg e] at ht; cases ht
    rw [if_pos rfl, if_pos rfl, List.append_assoc]
    have e : pTruth (lw 1 ((l.length : Nat) : Int) ++ (l.flatMap w ++ rest), 0) = (l.length, (l.flatMap w ++ rest, 0)) := by
      unfold pTruth
      rw [pNum_lw]
      have := nm_lw1 (l.length : Nat) (by omega)
      rw [if_neg (show ¬ 1 < nm (lw 1 ((l.length : Nat) : Int)) by omega)]
      rw [show nm (lw 1 ((l.length : Nat) : Int)) = l.length by omega]
    rw [e]
    exact hv
  · have hl : l.length ≤ 50 := by
      unfold timesE at ht
      rw [if_neg (by decide), if_neg (by decide), if_pos rfl] at ht
      exact Decidable.byContradiction fun e => by rw [if_neg e] at ht; cases ht
    rw [if_neg (by decide), if_pos rfl, if_neg (by decide), if_pos rfl, List.append_assoc, pCount_vb 50 4 l.length _ (by omega), if_neg (by omega)]
    exact hv

/-- What was written is read. -/
theorem pF_back : ∀ (fo : Fo) (ks : List (List Tr)) (rest : List Nat), fo.wf → (∀ f ∈ fo.flat, 0 ≤ f.r ∧ f.r ≤ 2) → fitF fo ks → okF fo ks → pF fo (wF fo ks ++ rest, 0) = (ks, (rest, 0))
  | .nil, ks, rest, _, _, hf, _ => by
    have : ks = [] := hf
    subst this
    simp [pF, wF]
  | .leaf f t, ks, rest, ⟨w1, w2, w3⟩, hr, hf, ho => by
    cases ks with
    | nil => exact hf.elim
    | cons l r =>
      obtain ⟨f1, f2, f3⟩ := hf
      obtain ⟨o1, o2⟩ := ho
      have h1 := pField_back f.r (hr f (by simp [Fo.flat])) (pLeaf f.k) (wLeaf f.k) l (wF t r ++ rest) f1 fun x hx r => pLeaf_back f.k ⟨w1, w2⟩ x (f2 x hx) (o1 x hx) r
      rw [pF, show wF (.leaf f t) (l :: r) = wField f.r (wLeaf f.k) l ++ wF t r from rfl, List.append_assoc, h1, pF_back t r rest w3 (fun g hg => hr g (by simp [Fo.flat, hg])) f3 o2]
  | .group f k t, ks, rest, ⟨w1, w2, w3, w4⟩, hr, hf, ho => by
    cases ks with
    | nil => exact hf.elim
    | cons l r =>
      obtain ⟨f1, f2, f3⟩ := hf
      obtain ⟨o1, o2⟩ := ho
      have h1 := pField_back f.r (hr f (by simp [Fo.flat])) (pGrp (pF k)) (fun x => wF k x.k) l (wF t r ++ rest) f1 fun x hx r => by
        obtain ⟨g1, g2, g3⟩ := f2 x hx
        have h2 := pF_back k x.k r w3 (fun g hg => hr g (by simp [Fo.flat, hg])) g3 (o1 x hx)
        unfold pGrp
        rw [h2]
        show (Tr.mk 0 ByteArray.empty x.k, (r, 0)) = (x, (r, 0))
        rw [← g1, ← g2, ← Tr.eta x]
      rw [pF, show wF (.group f k t) (l :: r) = wField f.r (fun x => wF k x.k) l ++ wF t r from rfl, List.append_assoc, h1, pF_back t r rest w4 (fun g hg => hr g (by simp [Fo.flat, hg])) f3 o2]

/-- Records that were written are read. -/
theorem pAll_back (fo : Fo) (L : List Tr) (hw : fo.wf) (hr : ∀ f ∈ fo.flat, 0 ≤ f.r ∧ f.r ≤ 2) (hL : L.length ≤ 200) (h : ∀ t ∈ L, t.n = 0 ∧ t.s = ByteArray.empty ∧ fitF fo t.k ∧ okF fo t.k) : pAll fo (wAll fo L) = (L, 0) := by
  have h1 := pVals_back (pGrp (pF fo)) (fun t => wF fo t.k) L [] fun x hx r => by
    obtain ⟨g1, g2, g3, g4⟩ := h x hx
    have h2 := pF_back fo x.k r hw hr g3 g4
    unfold pGrp
    rw [h2]
    show (Tr.mk 0 ByteArray.empty x.k, (r, 0)) = (x, (r, 0))
    rw [← g1, ← g2, ← Tr.eta x]
  unfold pAll wAll
  rw [pCount_vb 200 4 L.length _ (by omega), if_neg (by omega)]
  rw [List.append_nil] at h1
  simp only [h1]
  rfl

end Go.Proofs.Ythhcnlmjcpkbnaa
