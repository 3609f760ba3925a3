/- Levels: what is written is read as it was. -/
import Derived.Test.YtlhdicbhanncnaaKa
namespace Go.Proofs.Ytlhdicbhanncnaa
open Go.RowKit
set_option linter.unusedVariables false

theorem drop_left {α : Type} (a b : List α) (n : Nat) (h : n = a.length) : (a ++ b).drop n = b := by subst h; simp
theorem take_left {α : Type} (a b : List α) (n : Nat) (h : n = a.length) : (a ++ b).take n = a := by subst h; simp

theorem pow_room (w : Nat) : 2 ^ w ≤ 256 ^ ((w + 7) / 8) := by
  rw [show (256 : Nat) = 2 ^ 8 by decide, ← Nat.pow_mul]
  exact Nat.pow_le_pow_right (by decide) (by omega)

theorem partL_run (w k a x : Nat) (rest : List Nat) (ha : 1 ≤ a) (hk : a ≤ k) (hk2 : k ≤ 1000000) (hx : x < 2 ^ w) :
    partL w k (vb (2 * a) ++ lo ((w + 7) / 8) x ++ rest) = (0, List.replicate a x, rest) := by
  obtain ⟨e1, e2⟩ := gv_vb (2 * a) (lo ((w + 7) / 8) x ++ rest) (by omega)
  have hx2 : nm (lo ((w + 7) / 8) x) = x := nm_lo _ _ (Nat.lt_of_lt_of_le hx (pow_room w))
  rw [List.append_assoc]
  unfold partL
  rw [e1, e2]
  simp only [drop_left (vb (2 * a)) _ _ rfl]
  rw [if_neg (by simp), if_pos (by omega), if_neg (by omega), if_neg (by simp), take_left _ _ _ (lo_length _ _).symm, hx2, if_neg (by omega), drop_left _ _ _ (lo_length _ _).symm, show 2 * a / 2 = a by omega]

theorem partL_mix (w k g : Nat) (S rest : List Nat) (hS : S.length = 8 * g) (hg : 1 ≤ g) (hk : g ≤ (k + 7) / 8) (hk2 : k ≤ 1000000) (hw : ∀ x ∈ S, x < 2 ^ w) (hz : ∀ x ∈ S.drop k, x = 0) :
    partL w k (vb (2 * g + 1) ++ packed w S ++ rest) = (0, S.take k, rest) := by
  obtain ⟨e1, e2⟩ := gv_vb (2 * g + 1) (packed w S ++ rest) (by omega)
  have hl : (packed w S).length = g * w := by
    rw [packed_length, hS, show w * (8 * g) = 8 * (g * w) by rw [Nat.mul_comm g w, Nat.mul_left_comm]]; omega
  have hu : unpacked (packed w S) (8 * g) w = S := by
    rw [← hS, unpacked_packed]
    conv => rhs; rw [← List.map_id S]
    exact List.map_congr_left fun x hx => Nat.mod_eq_of_lt (hw x hx)
  rw [List.append_assoc]
  unfold partL
  rw [e1, e2]
  simp only [drop_left (vb (2 * g + 1)) _ _ rfl]
  rw [show (2 * g + 1) / 2 = g by omega, if_neg (by simp), if_neg (by omega), if_neg (by omega), if_neg (by rw [List.length_append, hl]; omega), take_left _ _ _ hl.symm, drop_left _ _ _ hl.symm, Nat.mul_comm g 8, hu, if_neg]
  rw [List.any_eq_true]
  rintro ⟨x, hx, h⟩
  rw [hz x hx] at h
  simp at h

theorem alk_front (l : List Nat) : l = List.replicate (alk l) (l.getD 0 0) ++ l.drop (alk l) := by
  have h := alk_le l
  conv => lhs; rw [← List.take_append_drop (alk l) l]
  congr 1
  apply List.ext_getElem (by simp; omega)
  intro i h1 h2
  have h3 : i < alk l := by simpa using h2
  have := rn_get (l.getD 0 0) l i h3
  simp only [List.getD, List.getElem?_eq_getElem (show i < l.length by omega), Option.getD_some] at this
  simp [this]

theorem dec_enc (w : Nat) : ∀ l : List Nat, l.length ≤ 1000000 → (∀ x ∈ l, x < 2 ^ w) → decL w l.length (encL w l) = (0, l) := by
  intro l
  induction l using encL.induct with
  | case1 => intro _ _; rw [encL_nil, List.length_nil, decL_zero]; rfl
  | case2 l h hr ih =>
    intro hl hw
    have h0 := List.length_pos_iff.2 h
    have h1 := mix_le l
    have h2 := mix_pos l h
    have hp := partL_mix w l.length ((mix l + 7) / 8) (pad8 (l.take (mix l))) (encL w (l.drop (mix l))) (by simp; omega) (by omega) (by omega) hl
      (by
        intro x hx
        rcases List.mem_append.1 hx with hx | hx
        · exact hw x (List.mem_of_mem_take hx)
        · rw [(List.mem_replicate.1 hx).2]; exact Nat.two_pow_pos w)
      (by
        intro x hx
        unfold pad8 at hx
        rw [List.drop_append] at hx
        rcases List.mem_append.1 hx with hx | hx
        · rw [List.drop_eq_nil_of_le (by simp; omega)] at hx; cases hx
        · exact (List.mem_replicate.1 (List.mem_of_mem_drop hx)).2)
    have ht : (pad8 (l.take (mix l))).take l.length = l.take (mix l) := by
      unfold pad8
      rcases mixA_eight l 0 rfl with h3 | h3
      · have h4 : mix l = l.length := h3
        rw [h4, List.take_length, List.take_append_of_le_length (Nat.le_refl _), List.take_length]
      · have h4 : mix l % 8 = 0 := h3
        have h5 : (l.take (mix l)).length = mix l := by simp; omega
        rw [h5, show 8 * ((mix l + 7) / 8) - mix l = 0 by omega, List.replicate_zero, List.append_nil, List.take_of_length_le (by omega)]
    rw [encL_mix w l h hr, decL_ok _ _ _ (by omega) (by rw [hp]), hp]
    simp only [ht]
    have e : l.length - (l.take (mix l)).length = (l.drop (mix l)).length := by simp; omega
    rw [e, ih (by simp; omega) (fun x hx => hw x (List.mem_of_mem_drop hx))]
    simp
  | case3 l h hr ih =>
    intro hl hw
    have h0 := List.length_pos_iff.2 h
    have h1 := alk_le l
    have h2 := alk_pos l h
    have hx : l.getD 0 0 < 2 ^ w := hw _ (by simp only [List.getD, List.getElem?_eq_getElem h0]; exact List.getElem_mem h0)
    have hp := partL_run w l.length (alk l) (l.getD 0 0) (encL w (l.drop (alk l))) h2 h1 hl hx
    rw [encL_run w l h hr, decL_ok _ _ _ (by omega) (by rw [hp]), hp]
    simp only []
    have e : l.length - (List.replicate (alk l) (l.getD 0 0)).length = (l.drop (alk l)).length := by simp
    rw [e, ih (by simp; omega) (fun x hx => hw x (List.mem_of_mem_drop hx))]
    simp only []
    rw [← alk_front]

theorem decL_len (w : Nat) (k : Nat) : ∀ b, (decL w k b).1 = 0 → (decL w k b).2.length = k := by
  induction k using Nat.strongRecOn with
  | _ k ih =>
    intro b
    by_cases hk : k = 0
    · subst hk; intro _; rw [decL_zero]; rfl
    · by_cases h : (partL w k b).1 = 0
      · rw [decL_ok _ _ _ hk h]
        intro he
        obtain ⟨h1, h2⟩ := partL_len w k b (by omega) h
        have := ih (k - (partL w k b).2.1.length) (by omega) _ he
        simp only [List.length_append, this]; omega
      · rw [decL_bad _ _ _ hk h]; intro he; exact absurd he h

theorem encL_bytes (w : Nat) : ∀ l : List Nat, ∀ x ∈ encL w l, x < 2 ^ 8 := by
  intro l
  induction l using encL.induct with
  | case1 => rw [encL_nil]; simp
  | case2 l h hr ih =>
    rw [encL_mix w l h hr]
    intro x hx
    rcases List.mem_append.1 hx with hx | hx
    · rcases List.mem_append.1 hx with hx | hx
      · exact vb_bytes _ x hx
      · exact packed_bytes _ _ x hx
    · exact ih x hx
  | case3 l h hr ih =>
    rw [encL_run w l h hr]
    intro x hx
    rcases List.mem_append.1 hx with hx | hx
    · rcases List.mem_append.1 hx with hx | hx
      · exact vb_bytes _ x hx
      · exact lo_bytes _ _ x hx
    · exact ih x hx

end Go.Proofs.Ytlhdicbhanncnaa
