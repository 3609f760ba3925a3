/- How great a record of raw numbers may be. -/
import Derived.Test.YtkbfbiklnjldgaaYC
import Derived.Test.YtkbfbiklnjldgaaYD
import Derived.Test.YtkbfbiklnjldgaaQG
import Derived.Test.YtkbfbiklnjldgaaA5
namespace Go.Proofs.Ytkbfbiklnjldgaa
open Go.RowKit
set_option linter.unusedVariables false

def sumR (n : Nat) (g : Nat → Nat) : Nat := ((List.range n).map g).sum

theorem sumR_succ (n : Nat) (g : Nat → Nat) : sumR (n + 1) g = sumR n g + g n := by
  unfold sumR
  rw [List.range_succ, List.map_append, List.sum_append]
  simp

theorem sumR_le {n : Nat} {g h : Nat → Nat} (hgh : ∀ j, j < n → g j ≤ h j) : sumR n g ≤ sumR n h := by
  induction n with
  | zero => exact Nat.le_refl _
  | succ n ih =>
    rw [sumR_succ, sumR_succ]
    have := ih fun j hj => hgh j (by omega)
    have := hgh n (Nat.lt_succ_self n)
    omega

theorem sumR_add (n : Nat) (g h : Nat → Nat) : sumR n (fun j => g j + h j) = sumR n g + sumR n h := by
  induction n with
  | zero => rfl
  | succ n ih => rw [sumR_succ, sumR_succ, sumR_succ, ih]; omega

theorem sumR_zero (n : Nat) : sumR n (fun _ => 0) = 0 := by
  induction n with
  | zero => rfl
  | succ n ih => rw [sumR_succ, ih]

theorem sumR_one {n f : Nat} (g : Nat → Nat) (hf : f < n) : sumR n (fun j => if j = f then g j else 0) = g f := by
  induction n with
  | zero => exact absurd hf (Nat.not_lt_zero f)
  | succ n ih =>
    rw [sumR_succ]
    by_cases h : f = n
    · subst h
      have : sumR f (fun j => if j = f then g j else 0) = sumR f (fun _ => 0) := by
        unfold sumR
        congr 1
        exact List.map_congr_left fun j hj => by rw [if_neg (by have := List.mem_range.1 hj; omega)]
      rw [this, sumR_zero, if_pos rfl]
      omega
    · rw [ih (by omega), if_neg (fun e => h e.symm)]
      omega

theorem sumR_swap (n : Nat) (g : Int → Nat → Nat) : ∀ ks : List Int, (ks.map fun i => sumR n (g i)).sum = sumR n (fun j => (ks.map fun i => g i j).sum)
  | [] => by simp [sumR_zero]
  | i :: ks => by
    rw [List.map_cons, List.sum_cons, sumR_swap n g ks, ← sumR_add]
    rfl

open Classical in
/-- The values below a field, a field of that depth counting as so many. -/
noncomputable def wt (l : List F) (dp : Nat → Nat) (f : Nat) : Nat := sumR l.length fun j => if Up (parents l) j f then 3 ^ dp j else 0

open Classical in
theorem kids_once (l : List F) (f j w : Nat) : ∀ m, m ≤ l.length → ((kidsU (parents l) m f).map fun i => if Up (parents l) j i.toNat then w else 0).sum ≤ if ∃ i, i < m ∧ (parents l)[i]? = some (f : Int) ∧ Up (parents l) j i then w else 0
  | 0, _ => by simp [kidsU_zero]
  | m + 1, hm => by
    have ih := kids_once l f j w m (by omega)
    have hx : (parents l)[m]? = some ((parents l).getD m 0) := by rw [List.getD, List.getElem?_eq_getElem (by rw [parents_length]; omega)]; rfl
    rw [kidsU_succ]
    by_cases hp : (parents l).getD m 0 = (f : Int)
    · rw [if_pos hp, List.map_append, List.sum_append]
      simp only [List.map_cons, List.map_nil, List.sum_cons, List.sum_nil, Int.toNat_natCast, Nat.add_zero]
      by_cases hu : Up (parents l) j m
      · have hno : ¬ ∃ i, i < m ∧ (parents l)[i]? = some (f : Int) ∧ Up (parents l) j i := by
          rintro ⟨i, h1, h2, h3⟩
          rw [hp] at hx
          have hfi := parents_lt h2
          have hfm := parents_lt hx
          rcases hu.line h3 with h4 | h4
          · cases h4 with
            | refl => omega
            | @step _ k _ h5 h6 =>
              rw [hx] at h5
              injection h5 with h5
              have := h6.le
              omega
          · have := h4.le
            omega
        rw [if_neg hno] at ih
        rw [if_pos hu, if_pos ⟨m, Nat.lt_succ_self m, by rw [hx, hp], hu⟩]
        omega
      · rw [if_neg hu]
        refine Nat.le_trans (by omega) (Nat.le_trans ih ?_)
        split
        · rename_i h
          obtain ⟨i, h1, h2⟩ := h
          rw [if_pos ⟨i, by omega, h2⟩]
          exact Nat.le_refl _
        · exact Nat.zero_le _
    · rw [if_neg hp]
      refine Nat.le_trans ih ?_
      split
      · rename_i h
        obtain ⟨i, h1, h2⟩ := h
        rw [if_pos ⟨i, by omega, h2⟩]
        exact Nat.le_refl _
      · exact Nat.zero_le _

open Classical in
theorem wt_kids (l : List F) (dp : Nat → Nat) {f : Nat} (hf : f < l.length) : 3 ^ dp f + ((kidsU (parents l) l.length f).map fun i => wt l dp i.toNat).sum ≤ wt l dp f := by
  unfold wt
  rw [sumR_swap l.length (fun i j => if Up (parents l) j i.toNat then 3 ^ dp j else 0), ← sumR_one (fun j => 3 ^ dp j) hf, ← sumR_add]
  refine sumR_le fun j hj => ?_
  have hk := kids_once l f j (3 ^ dp j) l.length (Nat.le_refl _)
  by_cases hjf : j = f
  · subst hjf
    have hno : ¬ ∃ i, i < l.length ∧ (parents l)[i]? = some (j : Int) ∧ Up (parents l) j i := by
      rintro ⟨i, h1, h2, h3⟩
      have := h3.le
      have := parents_lt h2
      omega
    rw [if_neg hno] at hk
    rw [if_pos rfl, if_pos (.refl j)]
    omega
  · rw [if_neg hjf]
    refine Nat.le_trans (by omega) (Nat.le_trans hk ?_)
    split
    · rename_i h
      obtain ⟨i, h1, h2, h3⟩ := h
      rw [if_pos (h3.snoc h2)]
      exact Nat.le_refl _
    · exact Nat.zero_le _

theorem cntF_le (l : List F) (ns : List Int) (i p : Nat) : (cntF l ns i p).1 ≤ 3 := by
  unfold cntF
  split
  · have := within_lt (nx ns p).1 2 (by decide)
    show ((nx ns p).1 % 2).toNat ≤ 3
    have e : ((nx ns p).1 % ((2 : Nat) : Int)).toNat = ((nx ns p).1 % 2).toNat := rfl
    omega
  · split
    · have := within_lt (nx ns p).1 4 (by decide)
      show ((nx ns p).1 % 4).toNat ≤ 3
      have e : ((nx ns p).1 % ((4 : Nat) : Int)).toNat = ((nx ns p).1 % 4).toNat := rfl
      omega
    · show 1 ≤ 3; decide

theorem szL_app (a b : List Tr) : szL (a ++ b) = szL a + szL b := by
  induction a with
  | nil => rw [List.nil_append, szL]; omega
  | cons t a ih => rw [List.cons_append, szL, szL, ih]; omega

theorem szK_app (a b : List (List Tr)) : szK (a ++ b) = szK a + szK b := by
  induction a with
  | nil => rw [List.nil_append, szK]; omega
  | cons t a ih => rw [List.cons_append, szK, szK, ih]; omega

theorem mkLs_sz {f : Nat → Tr × Nat} {B : Nat} (h : ∀ p, szT (f p).1 ≤ B) : ∀ j p, szL (mkLs f j p).1 ≤ j * B
  | 0, _ => by rw [mkLs, szL]; omega
  | j + 1, p => by
    rw [mkLs, szL_app, szL, szL, Nat.succ_mul]
    have := mkLs_sz h j p
    have := h (mkLs f j p).2
    omega

theorem stepK_sz (l : List F) (ns : List Int) (f : Nat → Nat → Tr × Nat) (W : Nat → Nat) : ∀ (is : List Int) (s : List (List Tr) × Nat), (∀ i ∈ is, ∀ p, szT (f i.toNat p).1 ≤ W i.toNat) → szK (is.foldl (stepK l ns f) s).1 ≤ szK s.1 + (is.map fun i => 3 * W i.toNat).sum
  | [], s, _ => by simp
  | i :: is, s, h => by
    rw [List.foldl_cons]
    have ih := stepK_sz l ns f W is (stepK l ns f s i) fun k hk p => h k (by simp [hk]) p
    refine Nat.le_trans ih ?_
    rw [List.map_cons, List.sum_cons]
    have h1 := mkLs_sz (h i (by simp)) (cntF l ns i.toNat s.2).1 (cntF l ns i.toNat s.2).2
    have h2 := Nat.mul_le_mul_right (W i.toNat) (cntF_le l ns i.toNat s.2)
    have h3 : szK (stepK l ns f s i).1 = szK s.1 + szL (mkLs (f i.toNat) (cntF l ns i.toNat s.2).1 (cntF l ns i.toNat s.2).2).1 := by
      unfold stepK
      rw [szK_app, szK, szK]
      omega
    omega

theorem sum_mul3 (g : Int → Nat) (c : Nat) : ∀ ks : List Int, (ks.map fun i => c * g i).sum = c * (ks.map g).sum
  | [] => by simp
  | i :: ks => by rw [List.map_cons, List.sum_cons, List.map_cons, List.sum_cons, sum_mul3 g c ks, Nat.mul_add]

/-- A value is no greater than its weight says. -/
theorem mkT_sz (l : List F) (ns : List Int) (dp : Nat → Nat) (hdp : ∀ i k : Nat, (parents l)[i]? = some (k : Int) → dp i = dp k + 1) : ∀ d f p, f < l.length → szT (mkT l ns d f p).1 * 3 ^ dp f ≤ wt l dp f
  | 0, f, p, hf => by
    have h := wt_kids l dp hf
    rw [mkT]
    have e : szT (default : Tr) = 1 := by rw [szT_eq]; show 1 + szK [] = 1; rw [szK]
    show szT (default : Tr) * 3 ^ dp f ≤ _
    rw [e]
    omega
  | d + 1, f, p, hf => by
    have h := wt_kids l dp hf
    have hleaf : ∀ (n : Int) (s : ByteArray), szT (.mk n s []) * 3 ^ dp f ≤ wt l dp f := fun n s => by
      rw [szT_eq]
      show (1 + szK []) * _ ≤ _
      rw [szK]
      omega
    rw [mkT]
    split
    · exact hleaf _ _
    · split
      · exact hleaf _ _
      · split
        · exact hleaf _ _
        · split
          · exact hleaf _ _
          · show szT (.mk 0 ByteArray.empty (kidsTo l ns (mkT l ns d) f l.length (nx ns p).2).1) * _ ≤ _
            rw [szT_eq]
            show (1 + szK (kidsTo l ns (mkT l ns d) f l.length (nx ns p).2).1) * _ ≤ _
            have key : szK (kidsTo l ns (mkT l ns d) f l.length (nx ns p).2).1 * 3 ^ dp f ≤ ((kidsU (parents l) l.length f).map fun i => wt l dp i.toNat).sum := by
              have hW : ∀ i ∈ kidsU (parents l) l.length f, ∀ p, szT (mkT l ns d i.toNat p).1 ≤ wt l dp i.toNat / 3 ^ dp i.toNat := fun i hi p => by
                obtain ⟨j, rfl, h1, h2⟩ := kidsU_mem.1 hi
                rw [Int.toNat_natCast]
                rw [Nat.le_div_iff_mul_le (Nat.pow_pos (by decide))]
                exact mkT_sz l ns dp hdp d j p h1
              have h1 := stepK_sz l ns (mkT l ns d) (fun i => wt l dp i / 3 ^ dp i) (kidsU (parents l) l.length f) ([], (nx ns p).2) hW
              have h0 : szK ([] : List (List Tr)) = 0 := by rw [szK]
              simp only [h0, Nat.zero_add] at h1
              refine Nat.le_trans (Nat.mul_le_mul_right _ h1) ?_
              rw [Nat.mul_comm, ← sum_mul3 (fun i => 3 * (wt l dp i.toNat / 3 ^ dp i.toNat)) (3 ^ dp f)]
              have hle : ∀ ks : List Int, (∀ i ∈ ks, i ∈ kidsU (parents l) l.length f) → (ks.map fun i => 3 ^ dp f * (3 * (wt l dp i.toNat / 3 ^ dp i.toNat))).sum ≤ (ks.map fun i => wt l dp i.toNat).sum := by
                intro ks
                induction ks with
                | nil => intro _; exact Nat.le_refl _
                | cons i ks ih =>
                  intro hks
                  have h2 := ih fun k hk => hks k (by simp [hk])
                  rw [List.map_cons, List.sum_cons, List.map_cons, List.sum_cons]
                  obtain ⟨j, rfl, h3, h4⟩ := kidsU_mem.1 (hks i (by simp))
                  have hx : (parents l)[j]? = some (f : Int) := by
                    rw [← h4, List.getD, List.getElem?_eq_getElem (by rw [parents_length]; exact h3)]; rfl
                  rw [Int.toNat_natCast] at *
                  have e : 3 ^ dp f * (3 * (wt l dp j / 3 ^ dp j)) = 3 ^ dp j * (wt l dp j / 3 ^ dp j) := by
                    rw [hdp j f hx, Nat.pow_succ, Nat.mul_assoc]
                  have h5 := Nat.mul_div_le (wt l dp j) (3 ^ dp j)
                  omega
              exact hle _ fun i hi => hi
            rw [Nat.add_mul]
            omega

theorem sumR_const {n : Nat} {g : Nat → Nat} {c : Nat} (h : ∀ j, j < n → g j ≤ c) : sumR n g ≤ n * c := by
  induction n with
  | zero => simp [sumR]
  | succ n ih =>
    rw [sumR_succ, Nat.succ_mul]
    have := ih fun j hj => h j (by omega)
    have := h n (Nat.lt_succ_self n)
    omega

theorem depths_nonneg (l : List F) : ∀ j, j < l.length → 0 ≤ (depths l).getD j 0 := by
  intro j
  induction j using Nat.strongRecOn with
  | _ j ih =>
    intro hj
    have hx : (parents l)[j]? = some ((parents l).getD j 0) := by rw [List.getD, List.getElem?_eq_getElem (by rw [parents_length]; exact hj)]; rfl
    rw [dep_at l j hj]
    have hlt := parents_lt hx
    have hc : 0 ≤ cat (depths l) ((parents l).getD j 0) := by
      unfold cat
      split
      · exact Int.le_refl _
      · rcases hlt with h | h
        · contradiction
        · exact ih _ (by omega) (by omega)
    split <;> omega

/-- A record of raw numbers is no greater than columns may be. -/
theorem mk8_sz {l : List F} (ns : List Int) (hg : Good l) (h1 : 1 ≤ l.length) (hl : l.length ≤ 14) : szT (mk8 l ns) ≤ 91854 := by
  have hdn := depths_nonneg l
  have hdp : ∀ i k : Nat, (parents l)[i]? = some (k : Int) → ((depths l).getD i 0).toNat = ((depths l).getD k 0).toNat + 1 := fun i k h => by
    have hi := (List.getElem?_eq_some_iff.1 h).1
    rw [parents_length] at hi
    have hlt := parents_lt h
    have e : (parents l).getD i 0 = (k : Int) := by rw [List.getD, h]; rfl
    have := dep_at l i hi
    have h0 := hdn k (by omega)
    rw [this, e, if_pos (by omega)]
    unfold cat
    rw [if_neg (by omega), Int.toNat_natCast]
    omega
  have hmain := mkT_sz l ns (fun j => ((depths l).getD j 0).toNat) hdp l.length 0 0 (by omega)
  have hd0 : (depths l).getD 0 0 = 0 := by
    rw [dep_at l 0 (by omega), if_neg (by omega)]
    have hx : (parents l)[0]? = some ((parents l).getD 0 0) := by rw [List.getD, List.getElem?_eq_getElem (by rw [parents_length]; omega)]; rfl
    have hlt := parents_lt hx
    unfold cat
    rw [if_pos (by omega)]
    rfl
  have hle : wt l (fun j => ((depths l).getD j 0).toNat) 0 ≤ l.length * 6561 := by
    unfold wt
    refine sumR_const fun j hj => ?_
    split
    · have h8 : (depths l).getD j 0 ≤ 8 := by
        have h := hg j hj
        unfold faultN at h
        split at h
        · cases h
        · split at h
          · cases h
          · omega
      exact Nat.pow_le_pow_right (by decide) (by omega : ((depths l).getD j 0).toNat ≤ 8)
    · exact Nat.zero_le _
  unfold mk8
  rw [hd0] at hmain
  simp only [Int.toNat_zero, Nat.pow_zero, Nat.mul_one] at hmain
  have : l.length * 6561 ≤ 14 * 6561 := Nat.mul_le_mul_right _ hl
  omega

end Go.Proofs.Ytkbfbiklnjldgaa
