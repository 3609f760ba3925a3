/- Levels: how many bytes they need; a run behind them. -/
import Derived.Test.YtlhdicbhanncnaaKb
namespace Go.Proofs.Ytlhdicbhanncnaa
open Go.RowKit
set_option linter.unusedVariables false

theorem getD_app (l r : List Nat) (j : Nat) (h : j < l.length) : (l ++ r).getD j 0 = l.getD j 0 := by simp [List.getD, List.getElem?_append_left h]
theorem getD_app2 (l r : List Nat) (j : Nat) : (l ++ r).getD (l.length + j) 0 = r.getD j 0 := by simp [List.getD, List.getElem?_append_right]
theorem getD_rep (n v j : Nat) (h : j < n) : (List.replicate n v).getD j 0 = v := by simp [List.getD, h]

theorem alk_rep (n v : Nat) (h : 1 ≤ n) : alk (List.replicate n v) = n := by
  unfold alk
  rw [getD_rep n v 0 h]
  exact rn_of _ _ _ (by simp) (fun j hj => getD_rep n v j hj) (.inl (by simp))

theorem nR_rep (n v : Nat) : nR (List.replicate n v) = false := by
  unfold nR
  cases n with
  | zero => rfl
  | succ n => rw [alk_rep _ _ (by omega)]; simp; omega

theorem vb_two (v : Nat) (h : v < 16384) : 1 ≤ (vb v).length ∧ (vb v).length ≤ 2 := vb_len_le 1 v (by omega)
theorem vb_one (v : Nat) (h : v < 128) : (vb v).length = 1 := by rw [vb_lt h]; rfl

theorem encL_rep (w n v : Nat) (h : 1 ≤ n) : encL w (List.replicate n v) = vb (2 * n) ++ lo ((w + 7) / 8) v := by
  rw [encL_run w _ (by simp; omega) (by rw [nR_rep]; decide), alk_rep n v h, getD_rep n v 0 h, List.drop_eq_nil_of_le (by simp), encL_nil, List.append_nil]

theorem encL_rep_len (w n v : Nat) (h2 : n ≤ 8000) (hw : w ≤ 16) : (encL w (List.replicate n v)).length ≤ 4 := by
  cases n with
  | zero => rw [List.replicate_zero, encL_nil]; simp
  | succ n =>
    rw [encL_rep w _ v (by omega)]
    have := vb_two (2 * (n + 1)) (by omega)
    simp only [List.length_append, lo_length]; omega

theorem packed_pad (w : Nat) (S : List Nat) : (packed w (pad8 S)).length = (S.length + 7) / 8 * w := by
  rw [packed_length, pad8_length, show w * (8 * ((S.length + 7) / 8)) = 8 * ((S.length + 7) / 8 * w) by rw [Nat.mul_comm _ w, Nat.mul_left_comm]]; omega

/-- The alike ones at the front end ahead of the end: what stands behind does not count. -/
theorem alk_app (l r : List Nat) (h : alk l < l.length) : alk (l ++ r) = alk l := by
  have h0 : 0 < l.length := by omega
  unfold alk
  rw [getD_app l r 0 h0]
  refine rn_of _ _ _ (by simp [alk] at h ⊢; omega) (fun j hj => ?_) (.inr ?_)
  · rw [getD_app _ _ _ (by unfold alk at h; omega)]; exact rn_get _ _ _ hj
  · rw [getD_app l r (rn (l.getD 0 0) l) h]; exact rn_stop _ _ h

theorem alk_all (l r : List Nat) (h : alk l = l.length) (h1 : l ≠ []) (hr : r ≠ []) : if r.getD 0 0 = l.getD 0 0 then alk (l ++ r) = l.length + alk r else alk (l ++ r) = l.length := by
  have h0 := List.length_pos_iff.2 h1
  have hg : ∀ j, j < l.length → l.getD j 0 = l.getD 0 0 := fun j hj => rn_get _ _ _ (by unfold alk at h; omega)
  have h2 := List.length_pos_iff.2 hr
  split
  · rename_i e
    have h3 := alk_le r
    have h4 : alk r = rn (l.getD 0 0) r := by unfold alk; rw [e]
    unfold alk
    rw [getD_app l r 0 h0, e]
    refine rn_of _ _ _ (by rw [← h4, List.length_append]; omega) (fun j hj => ?_) ?_
    · by_cases hl : j < l.length
      · rw [getD_app _ _ _ hl]; exact hg j hl
      · rw [show j = l.length + (j - l.length) by omega, getD_app2]; exact rn_get _ _ _ (by omega)
    · by_cases h5 : rn (l.getD 0 0) r < r.length
      · right; rw [getD_app2]; exact rn_stop _ _ h5
      · left; rw [List.length_append]; have := rn_le (l.getD 0 0) r; omega
  · rename_i e
    unfold alk
    rw [getD_app l r 0 h0]
    refine rn_of _ _ _ (by simp) (fun j hj => by rw [getD_app _ _ _ hj]; exact hg j hj) (.inr ?_)
    rw [show l.length = l.length + 0 by omega, getD_app2]; exact e

theorem nR_app (l r : List Nat) (h : nR l = true) : nR (l ++ r) = true := by
  unfold nR at h ⊢
  have h1 : alk l < min 8 l.length := by simpa using h
  rw [alk_app l r (by omega)]
  simp; omega

/-- How groups end once so many like ones stand behind: as they did; a group later; or at the end of the group that was the last one. -/
theorem mixA_app (l : List Nat) (n v : Nat) (hn : 8 ≤ n) (n0 : Nat) (h0 : n0 < l.length) (h8 : n0 % 8 = 0) :
    (mixA (l ++ List.replicate n v) n0 = mixA l n0 ∧ mixA l n0 < l.length) ∨
    (mixA (l ++ List.replicate n v) n0 = mixA l n0 + 8 ∧ mixA l n0 % 8 = 0 ∧ l.length < mixA l n0 + 8) ∨
    (mixA (l ++ List.replicate n v) n0 = 8 * ((l.length + 7) / 8) ∧ mixA l n0 = l.length) := by
  have hrep : ∀ p, l.length ≤ p → nR ((l ++ List.replicate n v).drop p) = false := fun p hp => by
    rw [List.drop_append, List.drop_eq_nil_of_le hp, List.nil_append, List.drop_replicate]; exact nR_rep _ _
  induction n0 using mixA.induct l with
  | case1 n0 h ih =>
    have e1 : mixA l n0 = mixA l (n0 + 8) := by rw [mixA, dif_pos h]
    have e2 : mixA (l ++ List.replicate n v) n0 = mixA (l ++ List.replicate n v) (n0 + 8) := by
      rw [mixA, dif_pos]
      refine ⟨by simp; omega, ?_⟩
      rw [List.drop_append_of_le_length (by omega)]
      exact nR_app _ _ h.2
    rw [e1, e2]
    exact ih h.1 (by omega)
  | case2 n0 h =>
    have e1 : mixA l n0 = min (n0 + 8) l.length := by rw [mixA, dif_neg h]
    by_cases hp : n0 + 8 < l.length
    · have hr : nR (l.drop (n0 + 8)) = false := by
        have : ¬ nR (l.drop (n0 + 8)) = true := fun hc => h ⟨hp, hc⟩
        simpa using this
      have e3 : (l ++ List.replicate n v).drop (n0 + 8) = l.drop (n0 + 8) ++ List.replicate n v := List.drop_append_of_le_length (by omega)
      rw [e1]
      by_cases hc : nR (l.drop (n0 + 8) ++ List.replicate n v) = true
      · right; left
        have e2 : mixA (l ++ List.replicate n v) n0 = mixA (l ++ List.replicate n v) (n0 + 8) := by
          rw [mixA, dif_pos]; exact ⟨by simp; omega, by rw [e3]; exact hc⟩
        have hshort : l.length < n0 + 8 + 8 := by
          have a1 : ¬ alk (l.drop (n0 + 8)) < min 8 (l.drop (n0 + 8)).length := by simpa [nR] using hr
          have a2 : alk (l.drop (n0 + 8) ++ List.replicate n v) < min 8 (l.drop (n0 + 8) ++ List.replicate n v).length := by simpa [nR] using hc
          have a3 := alk_le (l.drop (n0 + 8))
          have a4 : (l.drop (n0 + 8)).length = l.length - (n0 + 8) := by simp
          by_cases a5 : alk (l.drop (n0 + 8)) < (l.drop (n0 + 8)).length
          · rw [alk_app _ _ a5] at a2
            have : (l.drop (n0 + 8) ++ List.replicate n v).length = (l.drop (n0 + 8)).length + n := by simp
            omega
          · have := alk_all (l.drop (n0 + 8)) (List.replicate n v) (by omega) (by intro e; rw [e] at a4; simp at a4; omega) (by simp; omega)
            split at this
            · omega
            · omega
        rw [e2, mixA, dif_neg (by rintro ⟨_, hc2⟩; rw [hrep _ (by omega)] at hc2; cases hc2)]
        simp
        omega
      · left
        rw [mixA, dif_neg (by rintro ⟨_, hc2⟩; rw [e3] at hc2; exact hc hc2)]
        simp
        omega
    · right; right
      rw [e1, mixA, dif_neg (by rintro ⟨_, hc2⟩; rw [hrep _ (by omega)] at hc2; cases hc2)]
      simp
      omega

theorem encL_short (w : Nat) (hw : w ≤ 16) : ∀ l : List Nat, l.length ≤ 400 → (encL w l).length ≤ (l.length + 7) / 8 * w + 4 * l.length := by
  intro l
  induction l using encL.induct with
  | case1 => intro _; rw [encL_nil]; simp
  | case2 l h hr ih =>
    intro hl
    have h1 := mix_le l
    have h2 := mix_pos l h
    have hi := ih (by simp; omega)
    have hv := vb_two (2 * ((mix l + 7) / 8) + 1) (by omega)
    have e1 : (l.take (mix l)).length = mix l := by simp; omega
    have e2 : (l.drop (mix l)).length = l.length - mix l := by simp
    rw [encL_mix w l h hr]
    simp only [List.length_append, packed_pad, e1]
    rw [e2] at hi
    have h3 : (mix l + 7) / 8 * w + (l.length - mix l + 7) / 8 * w ≤ (l.length + 7) / 8 * w := by
      rw [← Nat.add_mul]
      refine Nat.mul_le_mul_right _ ?_
      rcases mixA_eight l 0 rfl with h3 | h3
      · have h4 : mix l = l.length := h3
        omega
      · have h4 : mix l % 8 = 0 := h3
        omega
    omega
  | case3 l h hr ih =>
    intro hl
    have h1 := alk_le l
    have h2 := alk_pos l h
    have hi := ih (by simp; omega)
    have hv := vb_two (2 * alk l) (by omega)
    have e2 : (l.drop (alk l)).length = l.length - alk l := by simp
    rw [encL_run w l h hr]
    simp only [List.length_append, lo_length]
    rw [e2] at hi
    have h3 : (l.length - alk l + 7) / 8 * w ≤ (l.length + 7) / 8 * w := Nat.mul_le_mul_right _ (by omega)
    omega

theorem encL_long (w n v : Nat) (hw : w ≤ 16) (hn : 8 ≤ n) (hn2 : n ≤ 200) : ∀ l : List Nat, l.length ≤ 400 → (encL w (l ++ List.replicate n v)).length ≤ (encL w l).length + 2 * w + 8 := by
  intro l
  induction l using encL.induct with
  | case1 => intro _; rw [encL_nil, List.nil_append]; have := encL_rep_len w n v (by omega) hw; simp; omega
  | case2 l h hr ih =>
    intro hl
    have h0 := List.length_pos_iff.2 h
    have h1 := mix_le l
    have h2 := mix_pos l h
    have hne : l ++ List.replicate n v ≠ [] := by simp [h]
    rw [encL_mix w l h hr, encL_mix w _ hne (nR_app _ _ hr)]
    have hM : mix (l ++ List.replicate n v) ≤ l.length + n := by have := mix_le (l ++ List.replicate n v); simpa using this
    have e1 : (l.take (mix l)).length = mix l := by simp; omega
    have e3 : ((l ++ List.replicate n v).take (mix (l ++ List.replicate n v))).length = mix (l ++ List.replicate n v) := by simp; omega
    simp only [List.length_append, packed_pad, e1, e3]
    have hrest : l.length ≤ mix (l ++ List.replicate n v) → (encL w ((l ++ List.replicate n v).drop (mix (l ++ List.replicate n v)))).length ≤ 4 := fun hp => by
      rw [List.drop_append, List.drop_eq_nil_of_le hp, List.nil_append, List.drop_replicate]; exact encL_rep_len _ _ _ (by omega) hw
    rcases mixA_app l n v hn 0 h0 rfl with ⟨a1, a2⟩ | ⟨a1, a2, a3⟩ | ⟨a1, a2⟩
    · have a1 : mix (l ++ List.replicate n v) = mix l := a1
      rw [a1, List.drop_append_of_le_length h1]
      have := ih (by simp; omega)
      omega
    · have a1 : mix (l ++ List.replicate n v) = mix l + 8 := a1
      have a2 : mix l % 8 = 0 := a2
      have a3 : l.length < mix l + 8 := a3
      have hr4 := hrest (by omega)
      rw [a1] at hr4 ⊢
      have hv1 := vb_two (2 * ((mix l + 8 + 7) / 8) + 1) (by omega)
      have hv2 := vb_two (2 * ((mix l + 7) / 8) + 1) (by omega)
      have e4 : (mix l + 8 + 7) / 8 * w = (mix l + 7) / 8 * w + w := by
        rw [show (mix l + 8 + 7) / 8 = (mix l + 7) / 8 + 1 by omega, Nat.add_mul, Nat.one_mul]
      omega
    · have a1 : mix (l ++ List.replicate n v) = 8 * ((l.length + 7) / 8) := a1
      have a2 : mix l = l.length := a2
      have hr4 := hrest (by omega)
      rw [a1] at hr4 ⊢
      rw [a2, show (8 * ((l.length + 7) / 8) + 7) / 8 = (l.length + 7) / 8 by omega]
      omega
  | case3 l h hr ih =>
    intro hl
    have h0 := List.length_pos_iff.2 h
    have h1 := alk_le l
    have h2 := alk_pos l h
    have hne : l ++ List.replicate n v ≠ [] := by simp [h]
    have hr2 : ¬ alk l < min 8 l.length := by simpa [nR] using hr
    have hll : (l ++ List.replicate n v).length = l.length + n := by simp
    by_cases ha : alk l < l.length
    · have e1 := alk_app l (List.replicate n v) ha
      have hr3 : ¬ nR (l ++ List.replicate n v) = true := by unfold nR; rw [e1]; simp; omega
      rw [encL_run w l h hr, encL_run w _ hne hr3, e1, getD_app _ _ _ h0, List.drop_append_of_le_length h1]
      have := ih (by simp; omega)
      simp only [List.length_append]; omega
    · have hb := alk_all l (List.replicate n v) (by omega) h (by simp; omega)
      rw [getD_rep n v 0 (by omega)] at hb
      split at hb
      · rename_i hc
        rw [alk_rep n v (by omega)] at hb
        have hr3 : ¬ nR (l ++ List.replicate n v) = true := by unfold nR; rw [hb]; simp; omega
        rw [encL_run w _ hne hr3, hb, List.drop_eq_nil_of_le (by simp), encL_nil, List.append_nil]
        have := vb_two (2 * (l.length + n)) (by omega)
        simp only [List.length_append, lo_length]; omega
      · by_cases h8 : 8 ≤ l.length
        · have hr3 : ¬ nR (l ++ List.replicate n v) = true := by unfold nR; rw [hb]; simp; omega
          have h3 : alk l = l.length := by omega
          rw [encL_run w l h hr, encL_run w _ hne hr3, hb, h3, getD_app _ _ _ h0, List.drop_append_of_le_length (by omega), List.drop_length, List.nil_append, encL_nil]
          have := encL_rep_len w n v (by omega) hw
          simp only [List.length_append, List.length_nil]; omega
        · have hr3 : nR (l ++ List.replicate n v) = true := by unfold nR; rw [hb]; simp; omega
          have hm : mix (l ++ List.replicate n v) = 8 := by
            unfold mix
            rw [mixA, dif_neg]
            · simp; omega
            · rintro ⟨_, hc2⟩
              rw [List.drop_append, List.drop_eq_nil_of_le (by omega), List.nil_append, List.drop_replicate, nR_rep] at hc2
              cases hc2
          rw [encL_mix w _ hne hr3, hm]
          have e3 : ((l ++ List.replicate n v).take 8).length = 8 := by simp; omega
          have e4 : (encL w ((l ++ List.replicate n v).drop 8)).length ≤ 4 := by
            rw [List.drop_append, List.drop_eq_nil_of_le (by omega), List.nil_append, List.drop_replicate]; exact encL_rep_len _ _ _ (by omega) hw
          have e5 := vb_one (2 * ((8 + 7) / 8) + 1) (by decide)
          simp only [List.length_append, packed_pad, e3, e5]
          omega

/-- The first byte tells whether a run begins. -/
theorem vb_first (v : Nat) : (vb v).getD 0 0 % 2 = v % 2 ∧ (vb v).length = (vb v).length - 1 + 1 := by
  by_cases h : v < 128
  · rw [vb_lt h]; simp
  · rw [vb_ge h]; simp; omega

theorem vb_size (n : Nat) (h : n < 16384) : (vb n).length = if n < 128 then 1 else 2 := by
  split
  · exact vb_one n (by assumption)
  · exact vb_len 1 n (by omega) (by omega)

end Go.Proofs.Ytlhdicbhanncnaa
