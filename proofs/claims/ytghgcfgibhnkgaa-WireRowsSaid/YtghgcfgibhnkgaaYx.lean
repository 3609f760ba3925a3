/- The reference's Fits. -/
import Derived.Test.YtghgcfgibhnkgaaYw
import Derived.Test.YtghgcfgibhnkgaaQs
import Derived.Test.YtghgcfgibhnkgaaA5
import Derived.Test.YtghgcfgibhnkgaaA7
import Derived.Test.YtghgcfgibhnkgaaA2
namespace Go.Proofs.Ytghgcfgibhnkgaa
open Go.RowKit
set_option linter.unusedVariables false

theorem kidsU_count (ps : List Int) (g : Nat) : ∀ m, m ≤ ps.length → (kidsU ps m g).length = (ps.take m).count (g : Int)
  | 0, _ => rfl
  | m + 1, h => by
    have hx : ps[m]? = some (ps.getD m 0) := by rw [List.getD, List.getElem?_eq_getElem (by omega)]; rfl
    rw [kidsU_succ, List.take_add_one, List.count_append, hx, Option.toList_some]
    split
    · rename_i he
      rw [List.length_append, kidsU_count ps g m (by omega), he]
      simp
    · rename_i he
      have hb : (ps.getD m 0 == (g : Int)) = false := beq_false_of_ne he
      rw [kidsU_count ps g m (by omega), List.count_singleton, hb]
      rfl

theorem chk_fit {l : List F} (h : chk l = 0) : FitOk l := by
  have hl := chk_len h
  have hg := chk_good h
  have hk : ∀ f, f < l.length → knownB (l.getD f default) = true ∧ haveB (l.getD f default) = true := by
    intro f hf
    have h1 := hg f hf
    unfold faultN at h1
    split at h1
    · cases h1
    · split at h1
      · cases h1
      · split at h1
        · cases h1
        · split at h1
          · cases h1
          · rename_i h2
            split at h1
            · cases h1
            · rename_i h3
              exact ⟨by cases hx : knownB (l.getD f default) <;> simp_all, by cases hx : haveB (l.getD f default) <;> simp_all⟩
  have hla : lacksB l (parents l) = false := by
    unfold chk at h
    rw [if_neg (by omega)] at h
    split at h
    · rename_i h1; exact absurd h h1
    · split at h
      · cases h
      · rename_i h2; cases hx : lacksB l (parents l) <;> simp_all
  refine ⟨fun f hf hk0 => ?_, fun f hf => ?_, by omega⟩
  · have h1 := (hk f hf).2
    unfold haveB at h1
    rw [if_pos hk0, decide_eq_true_iff] at h1
    have h2 := parents_count l f
    have h3 : ¬ fewB l (parents l) f = true := by
      unfold lacksB at hla
      rw [List.any_eq_false] at hla
      exact hla f (by simpa using hf)
    unfold fewB at h3
    rw [decide_eq_true_iff] at h3
    have h4 : ((parents l).drop 1).count (f : Int) ≤ (parents l).count (f : Int) := (List.drop_sublist 1 _).count_le _
    have h5 := kidsU_count (parents l) f l.length (by rw [parents_length]; exact Nat.le_refl _)
    rw [List.take_of_length_le (by rw [parents_length]; exact Nat.le_refl _)] at h5
    omega
  · have h1 := (hk f hf).1
    unfold knownB at h1
    simp only [Bool.and_eq_true, decide_eq_true_iff] at h1
    omega

end Go.Proofs.Ytghgcfgibhnkgaa
