/- A schema in which nothing is repeated: what is left of one whose Reps are taken by two. -/
import Derived.Test.YtpffgelllabfnaaGg
import Derived.Test.YtpffgelllabfnaaA5
namespace Go.Proofs.Ytpffgelllabfnaa
open Go.RowKit
set_option linter.unusedVariables false
set_option linter.unusedSimpArgs false

def fz (f : F) : F := { f with r := f.r % 2 }

theorem fz_getD (l : List F) (i : Nat) : (l.map fz).getD i default = fz (l.getD i default) := by
  simp only [List.getD, List.getElem?_map]
  cases l[i]? <;> rfl

theorem fz_par : ∀ (l : List F) (i : Nat) (st : List (Nat × Int)), par i (l.map fz) st = par i l st
  | [], _, _ => rfl
  | f :: l, i, st => by
    simp only [List.map_cons, par]
    rw [fz_par l]
    rfl

theorem fz_parents (l : List F) : parents (l.map fz) = parents l := fz_par l 0 []

theorem chk_parts {l : List F} (h : chk l = 0) : (1 ≤ l.length ∧ l.length ≤ 40) ∧ (∀ j, j < l.length → faultN l (parents l) (depths l) j = 0) ∧ lacksB l (parents l) = false := by
  have h1 := chk_len h
  unfold chk at h
  rw [if_neg (by omega)] at h
  split at h
  · rename_i h2; exact absurd h h2
  · rename_i h2
    have h3 : firstN (faultN l (parents l) (depths l)) l.length = 0 := Classical.byContradiction h2
    split at h
    · cases h
    · rename_i h4
      exact ⟨h1, firstN_all h3, by simpa using h4⟩

theorem chk_fz {l : List F} (h : chk l = 0) : chk (l.map fz) = 0 := by
  obtain ⟨h1, h2, h3⟩ := chk_parts h
  have hd : depths (l.map fz) = depths l := by unfold depths; rw [fz_parents]
  have hf : ∀ j, j < l.length → faultN (l.map fz) (parents l) (depths l) j = 0 := by
    intro j hj
    have h4 := h2 j hj
    unfold faultN at h4 ⊢
    rw [fz_getD]
    have e1 : takenB (l.map fz) (parents l) j = takenB l (parents l) j := by
      unfold takenB
      congr 1
      funext k
      unfold sameN
      rw [fz_getD, fz_getD]
      rfl
    rw [e1]
    split at h4
    · cases h4
    · rename_i n1
      rw [if_neg n1]
      split at h4
      · cases h4
      · rename_i n2
        rw [if_neg n2]
        split at h4
        · cases h4
        · rename_i n3
          rw [show (fz (l.getD j default)).n = (l.getD j default).n from rfl, if_neg n3]
          split at h4
          · cases h4
          · rename_i n4
            have n5 : ¬ (knownB (fz (l.getD j default)) = false ∨ (j = 0 ∧ rootB (fz (l.getD j default)) = false)) := by
              intro hc
              apply n4
              rcases hc with hc | ⟨hc1, hc2⟩
              · left
                unfold knownB fz at hc
                unfold knownB
                simp only at hc
                simp only [Bool.and_eq_false_iff, decide_eq_false_iff_not] at hc ⊢
                omega
              · right
                refine ⟨hc1, ?_⟩
                unfold rootB fz at hc2
                unfold rootB
                simp only at hc2
                simp only [Bool.and_eq_false_iff, decide_eq_false_iff_not] at hc2 ⊢
                omega
            rw [if_neg n5]
            exact h4
  have hl : lacksB (l.map fz) (parents l) = false := by
    rw [← h3]
    unfold lacksB
    rw [List.length_map]
    congr 1
    funext k
    unfold fewB
    rw [fz_getD]
    rfl
  unfold chk
  rw [List.length_map, if_neg (by omega), fz_parents, hd, firstN_zero hf, if_neg (by simp), if_neg (by rw [hl]; simp)]

theorem fz_trails (l : List F) (k : Nat) (lf : L) (h : (leavesL (l.map fz))[k]? = some lf) : (trs (l.map fz)).getD k [] = [] := by
  obtain ⟨i, hin, hfi, hr⟩ := leaf_at _ _ lf (List.mem_of_getElem? h)
  have e : (trs (l.map fz)).getD k [] = trF (l.map fz) i := by simp [List.getD, trs, h, hfi]
  rw [e]
  refine List.eq_nil_iff_forall_not_mem.2 fun a ha => ?_
  have h1 := ((trF_mem (l.map fz) (i + 1) i (by omega) hin).1 a ha).2.1
  unfold repB at h1
  rw [fz_getD] at h1
  simp only [decide_eq_true_eq] at h1
  unfold fz at h1
  simp only at h1
  omega

theorem fz_next (l : List F) (k : Nat) (h : k < (leavesL (l.map fz)).length) : (nextL (trs (l.map fz))).getD k [] = [k + 1] := by
  rw [nextL_get _ _ (by simpa using h)]
  unfold nxRow
  rw [fz_trails l k _ (List.getElem?_eq_getElem h)]
  simp [aft_zero]

theorem flat_set1 (l : List F) : ∀ (g : Nat) (f : F) (v : Int), l[g]? = some f → (l.flatMap F.cs).set (g * 4 + 1) (.int .i64 v) = (l.set g { f with r := v }).flatMap F.cs := by
  induction l with
  | nil => intro g f v h; simp at h
  | cons y l ih =>
    intro g f v h
    cases g with
    | zero =>
      simp at h
      subst h
      rfl
    | succ g =>
      rw [List.getElem?_cons_succ] at h
      rw [List.flatMap_cons, List.set_cons_succ, List.flatMap_cons, ← ih g f v h, List.set_append, if_neg (by rw [F.cs_len]; omega), F.cs_len]
      congr 2
      omega

/-- The first k are done. -/
def fzTo (l : List F) (k : Nat) : List F := (l.take k).map fz ++ l.drop k
theorem fzTo_at (l : List F) (k : Nat) (f : F) (h : l[k]? = some f) : (fzTo l k)[k]? = some f ∧ (fzTo l k).set k (fz f) = fzTo l (k + 1) := by
  have hk := (List.getElem?_eq_some_iff.1 h).1
  have hl : ((l.take k).map fz).length = k := by simp; omega
  have hd : l.drop k = f :: l.drop (k + 1) := by
    rw [List.drop_eq_getElem_cons hk]
    congr 1
    exact (List.getElem?_eq_some_iff.1 h).2
  unfold fzTo
  rw [hd]
  constructor
  · rw [List.getElem?_append_right (by omega), hl, Nat.sub_self]; rfl
  · rw [List.set_append, if_neg (by omega), hl, Nat.sub_self, List.set_cons_zero, List.take_add_one, h, List.map_append]
    simp
theorem fzTo_zero (l : List F) : fzTo l 0 = l := by simp [fzTo]
theorem fzTo_all (l : List F) : fzTo l l.length = l.map fz := by simp [fzTo]
theorem fzTo_length (l : List F) (k : Nat) (h : k ≤ l.length) : (fzTo l k).length = l.length := by simp [fzTo]; omega

end Go.Proofs.Ytpffgelllabfnaa
