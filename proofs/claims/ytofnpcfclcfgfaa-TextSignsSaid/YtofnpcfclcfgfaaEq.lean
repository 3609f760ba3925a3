/- The reference's check and the program's are one. (For SchemaChecks.) -/
import Derived.Test.YtofnpcfclcfgfaaSu
namespace Go.Proofs.Ytofnpcfclcfgfaa
open Go.RowKit
set_option linter.unusedVariables false

theorem firstN_congr {p q : Nat → Int} (n : Nat) (h : ∀ i, i < n → (∀ j, j < i → p j = 0) → p i = q i) : firstN p n = firstN q n := by
  by_cases hz : ∀ j, j < n → p j = 0
  · have hq : ∀ j, j < n → q j = 0 := fun j hj => by rw [← h j hj (fun k hk => hz k (by omega)), hz j hj]
    rw [firstN_zero hz, firstN_zero hq]
  · have he : ∃ k, k < n ∧ p k ≠ 0 ∧ ∀ j, j < k → p j = 0 := by
      have : ∀ m, (∃ j, j < m ∧ p j ≠ 0) → ∃ k, k < m ∧ p k ≠ 0 ∧ ∀ j, j < k → p j = 0 := by
        intro m
        induction m with
        | zero => rintro ⟨j, hj, _⟩; omega
        | succ m ih =>
          rintro ⟨j, hj, hpj⟩
          by_cases h1 : ∃ j, j < m ∧ p j ≠ 0
          · obtain ⟨k, h2, h3, h4⟩ := ih h1
            exact ⟨k, by omega, h3, h4⟩
          · refine ⟨m, by omega, ?_, fun i hi => ?_⟩
            · by_cases e : j = m
              · rw [← e]; exact hpj
              · exact absurd ⟨j, by omega, hpj⟩ h1
            · exact Classical.byContradiction fun h2 => h1 ⟨i, hi, h2⟩
      refine this n ?_
      exact Classical.byContradiction fun h2 => hz fun j hj => Classical.byContradiction fun h3 => h2 ⟨j, hj, h3⟩
    obtain ⟨k, hk, hpk, hlt⟩ := he
    have hpq := h k hk hlt
    have hq : ∀ j, j < k → q j = 0 := fun j hj => by rw [← h j (by omega) (fun i hi => hlt i (by omega)), hlt j hj]
    rw [firstN_at hlt hk hpk, firstN_at hq hk (by rw [← hpq]; exact hpk), hpq]

theorem firstN_all {p : Nat → Int} {n : Nat} (h : firstN p n = 0) : ∀ j, j < n → p j = 0 := by
  induction n with
  | zero => intro j hj; omega
  | succ n ih =>
    simp only [firstN] at h
    split at h
    · rename_i h1; exact absurd h h1
    · rename_i h1
      have h2 : firstN p n = 0 := Classical.byContradiction fun h3 => h1 h3
      intro j hj
      by_cases e : j = n
      · rw [e]; exact h
      · exact ih h2 j (by omega)

theorem fault_depth {l : List F} {ps d1 d2 : List Int} {i : Nat} (h : (0 < i ∧ ps.getD i 0 = -1) ∨ d1.getD i 0 = d2.getD i 0) : faultN l ps d1 i = faultN l ps d2 i := by
  unfold faultN
  by_cases h1 : 0 < i ∧ ps.getD i 0 = -1
  · rw [if_pos h1, if_pos h1]
  · rw [if_neg h1, if_neg h1]
    rcases h with h | h
    · exact absurd h h1
    · rw [h]

/-- What the reference finds. -/
def refChk (l : List F) : Int :=
  if l.length < 1 ∨ 40 < l.length then 4
  else if firstN (faultN l (parents l) (depthsR l)) l.length ≠ 0 then firstN (faultN l (parents l) (depthsR l)) l.length
  else if (l.any fun f => decide (40 < f.c)) = true then 1
  else if (l.map F.c).sum ≠ (l.length : Int) - 1 then 1 else 0

theorem first_eq (l : List F) : firstN (faultN l (parents l) (depthsR l)) l.length = firstN (faultN l (parents l) (depths l)) l.length := by
  apply firstN_congr
  intro i hi hz
  apply fault_depth
  by_cases h : 0 < i ∧ (parents l).getD i 0 = -1
  · exact .inl h
  · right
    apply depths_eq l i hi
    intro k hk h0
    by_cases e : k = i
    · rw [e]; intro h2; exact h ⟨by omega, h2⟩
    · exact no_fault (hz k (by omega)) h0

theorem sum_c (l : List F) (h : ∀ f ∈ l, 0 ≤ f.c) : (l.map F.c).sum = ((((List.range l.length).map fun g => (l.getD g default).c.toNat).sum : Nat) : Int) := by
  have e : ∀ m, m ≤ l.length → ((l.take m).map F.c).sum = ((((List.range m).map fun g => (l.getD g default).c.toNat).sum : Nat) : Int) := by
    intro m
    induction m with
    | zero => intro _; rfl
    | succ m ih =>
      intro hm
      have hx : l[m]? = some (l.getD m default) := by rw [List.getD, List.getElem?_eq_getElem (by omega)]; rfl
      have h0 := h _ (List.mem_of_getElem? hx)
      rw [List.take_add_one, hx, List.range_succ]
      simp only [Option.toList, List.map_append, List.map_cons, List.map_nil, List.sum_append, List.sum_cons, List.sum_nil]
      rw [ih (by omega)]
      omega
  have h1 := e l.length (Nat.le_refl _)
  rwa [List.take_length] at h1

theorem refChk_eq (l : List F) : refChk l = chk l := by
  unfold refChk chk
  by_cases hl : l.length < 1 ∨ 40 < l.length
  · rw [if_pos hl, if_pos hl]
  rw [if_neg hl, if_neg hl, first_eq]
  by_cases hf : firstN (faultN l (parents l) (depths l)) l.length ≠ 0
  · rw [if_pos hf, if_pos hf]
  rw [if_neg hf, if_neg hf]
  have hz := firstN_all (p := faultN l (parents l) (depths l)) (n := l.length) (Classical.byContradiction fun h => hf h)
  have hin := in_groups hz
  have hc : ∀ g, g < l.length → 0 ≤ (l.getD g default).c := by
    intro g hg
    have h1 := hz g hg
    unfold faultN at h1
    split at h1
    · cases h1
    · split at h1
      · cases h1
      · split at h1
        · cases h1
        · split at h1
          · cases h1
          · split at h1
            · cases h1
            · rename_i h2
              have h3 : haveB (l.getD g default) = true := by
                cases hb : haveB (l.getD g default)
                · exact absurd hb h2
                · rfl
              unfold haveB at h3
              split at h3
              · have := of_decide_eq_true h3; omega
              · have := of_decide_eq_true h3; omega
  have hc2 : ∀ f ∈ l, 0 ≤ f.c := by
    intro f hf
    obtain ⟨g, hg⟩ := List.mem_iff_getElem?.1 hf
    have h1 := hc g (List.getElem?_eq_some_iff.1 hg).1
    rw [List.getD, hg] at h1
    exact h1
  have hle : ∀ g, g < l.length → ((parents l).drop 1).count (g : Int) ≤ (l.getD g default).c.toNat := by
    intro g hg
    have h1 := parents_count l g
    have h2 := (List.drop_sublist 1 (parents l)).count_le (g : Int)
    have := hc g hg
    omega
  have hsum := sum_count ((parents l).drop 1) l.length hin
  have hlen : ((parents l).drop 1).length = l.length - 1 := by simp
  obtain ⟨h3, h4⟩ := sum_le_eq (fun g => ((parents l).drop 1).count (g : Int)) (fun g => (l.getD g default).c.toNat) l.length hle
  rw [hsum, hlen] at h3 h4
  have hsc := sum_c l hc2
  by_cases hall : ∀ g, g < l.length → ((parents l).drop 1).count (g : Int) = (l.getD g default).c.toNat
  · have h5 := h4.2 hall
    have hno : (l.any fun f => decide (40 < f.c)) = false := by
      rw [Bool.eq_false_iff]
      intro h6
      rw [List.any_eq_true] at h6
      obtain ⟨f, hf2, h7⟩ := h6
      have h7 := of_decide_eq_true h7
      obtain ⟨g, hg⟩ := List.mem_iff_getElem?.1 hf2
      have hgl := (List.getElem?_eq_some_iff.1 hg).1
      have h8 := hall g hgl
      rw [List.getD, hg] at h8
      simp only [Option.getD_some] at h8
      have h9 : ((parents l).drop 1).count (g : Int) ≤ ((parents l).drop 1).length := List.count_le_length
      omega
    have hnl : lacksB l (parents l) = false := by
      rw [Bool.eq_false_iff]
      intro h6
      unfold lacksB at h6
      rw [List.any_eq_true] at h6
      obtain ⟨g, hg, h7⟩ := h6
      have hgl := List.mem_range.1 hg
      have h7 := of_decide_eq_true h7
      have h8 := hall g hgl
      have := hc g hgl
      omega
    rw [hno, hnl, if_neg (by decide), if_neg (by rw [hsc]; omega), if_neg (by decide)]
  · have hl1 : lacksB l (parents l) = true := by
      obtain ⟨g, hg⟩ := Classical.not_forall.1 hall
      obtain ⟨hgl, hne⟩ := Classical.not_imp.1 hg
      unfold lacksB
      rw [List.any_eq_true]
      refine ⟨g, List.mem_range.2 hgl, ?_⟩
      unfold fewB
      have h1 := hle g hgl
      have := hc g hgl
      simp only [decide_eq_true_eq]
      omega
    have hne : (l.map F.c).sum ≠ (l.length : Int) - 1 := by
      rw [hsc]
      intro h6
      apply hall
      apply h4.1
      omega
    rw [hl1, if_pos hne, if_pos rfl]
    split <;> rfl

end Go.Proofs.Ytofnpcfclcfgfaa
