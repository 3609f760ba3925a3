/- A field's path leads to it. -/
import Derived.Test.YtkbfbiklnjldgaaQr
import Derived.Test.YtkbfbiklnjldgaaA5
namespace Go.Proofs.Ytkbfbiklnjldgaa
open Go.RowKit
set_option linter.unusedVariables false

/-- No field is faulty. -/
def Good (l : List F) : Prop := ∀ j, j < l.length → faultN l (parents l) (depths l) j = 0

theorem chk_good {l : List F} (h : chk l = 0) : Good l := by
  unfold chk at h
  split at h
  · cases h
  · split at h
    · rename_i h1; exact absurd h h1
    · rename_i h1
      exact fun j hj => firstN_all (by omega) j hj

theorem Good.name {l : List F} (h : Good l) {j : Nat} (hj : j < l.length) : nameB (bl (l.getD j default).n) = true ∧ takenB l (parents l) j = false := by
  have h1 := h j hj
  unfold faultN at h1
  split at h1
  · cases h1
  · split at h1
    · cases h1
    · split at h1
      · cases h1
      · rename_i h2
        exact ⟨by cases hx : nameB (bl (l.getD j default).n) <;> simp_all, by cases hx : takenB l (parents l) j <;> simp_all⟩

theorem Good.par {l : List F} (h : Good l) {j : Nat} (hj : j < l.length) (h0 : 0 < j) : ∃ p : Nat, p < j ∧ (parents l)[j]? = some (p : Int) ∧ (parents l).getD j 0 = (p : Int) := by
  have hx : (parents l)[j]? = some ((parents l).getD j 0) := by rw [List.getD, List.getElem?_eq_getElem (by simpa using hj)]; rfl
  have hn := no_fault (h j hj) h0
  rcases parents_lt hx with h1 | ⟨h1, h2⟩
  · exact absurd h1 hn
  · exact ⟨((parents l).getD j 0).toNat, by omega, by rw [hx]; congr 1; omega, by omega⟩

theorem name_nodot {l : List Nat} (h : nameB l = true) : (∀ c ∈ l, c ≠ 46) ∧ l ≠ [] := by
  unfold nameB at h
  simp only [Bool.and_eq_true, decide_eq_true_iff] at h
  obtain ⟨h1, -, -, h2⟩ := h
  refine ⟨fun c hc => ?_, fun e => by rw [e] at h1; simp at h1⟩
  rw [List.all_eq_true] at h2
  have := h2 c hc
  rintro rfl
  revert this
  decide

theorem str_blq (s : ByteArray) : str (bl s) = s := by
  have h := extract_str s 0 s.size (Nat.le_refl _)
  rw [List.take_of_length_le (by rw [bl_length]; exact Nat.le_refl _), List.drop_zero] at h
  rw [← h]
  simp

theorem kidsU_mem {ps : List Int} {m g : Nat} {x : Int} : x ∈ kidsU ps m g ↔ ∃ i : Nat, x = (i : Int) ∧ i < m ∧ ps.getD i 0 = (g : Int) := by
  unfold kidsU
  rw [List.mem_map]
  constructor
  · rintro ⟨i, hi, rfl⟩
    rw [List.mem_filter, List.mem_range, beq_iff_eq] at hi
    exact ⟨i, rfl, hi.1, hi.2⟩
  · rintro ⟨i, rfl, h1, h2⟩
    exact ⟨i, by rw [List.mem_filter, List.mem_range, beq_iff_eq]; exact ⟨h1, h2⟩, rfl⟩

theorem Good.named {l : List F} (h : Good l) {k p : Nat} (hk : k < l.length) (hp : (parents l).getD k 0 = (p : Int)) : namedI l (kidsOf l (p : Int)) (l.getD k default).n = (k : Int) := by
  unfold namedI
  have hm : (k : Int) ∈ kidsOf l (p : Int) := kidsU_mem.2 ⟨k, rfl, hk, by simpa using hp⟩
  cases hf : (kidsOf l (p : Int)).find? fun i => decide ((l.getD i.toNat default).n = (l.getD k default).n) with
  | none =>
    have := List.find?_eq_none.1 hf _ hm
    simp at this
  | some x =>
    have h1 := List.find?_some hf
    obtain ⟨i, rfl, hi, hip⟩ := kidsU_mem.1 (List.mem_of_find?_eq_some hf)
    simp only [decide_eq_true_iff] at h1
    simp only [Int.toNat_natCast] at h1 hip
    show (i : Int) = k
    rcases Nat.lt_trichotomy i k with hlt | rfl | hlt
    · have h2 := (h.name hk).2
      unfold takenB at h2
      rw [List.any_eq_false] at h2
      have h3 := h2 i (List.mem_range.2 hlt)
      simp only [sameN, hp, hip, h1, decide_true, Bool.and_self, not_true_eq_false] at h3
    · rfl
    · have h2 := (h.name hi).2
      unfold takenB at h2
      rw [List.any_eq_false] at h2
      have h3 := h2 k (List.mem_range.2 hlt)
      simp only [sameN, hp, hip, h1, decide_true, Bool.and_self, not_true_eq_false] at h3

theorem join_snoc (xs : List (List UInt8)) (y sep : List UInt8) (h : xs ≠ []) : Lib.join (xs ++ [y]) sep = Lib.join xs sep ++ (sep ++ y) := by
  cases xs with
  | nil => exact absurd rfl h
  | cons x r =>
    rw [List.cons_append, Lib.join_cons, Lib.join_cons]
    simp [Lib.joinTail]

/-- A path is its group's, a dot, and the name. -/
theorem path_step {l : List F} (h : Good l) {k p : Nat} (hk : k < l.length) (h0 : 0 < k) (hp : (parents l).getD k 0 = (p : Int)) (hpk : p < k) : bl (pathB l (k : Int)) = if p = 0 then bl (l.getD k default).n else bl (pathB l (p : Int)) ++ 46 :: bl (l.getD k default).n := by
  have e1 : namesUp l (k : Int) = (l.getD k default).n :: namesUp l (p : Int) := by rw [namesUp_step l k h0 hk, hp]
  unfold pathB
  have ea : ¬ (l.length : Int) ≤ (k : Int) := by omega
  have eb : ¬ (l.length : Int) ≤ (p : Int) := by omega
  rw [if_neg ea, if_neg eb, e1, List.reverse_cons, List.map_append]
  split
  · rename_i hp0
    subst hp0
    rw [namesUp_none l _ (by simp)]
    simp [bl, Lib.join_cons, Lib.joinTail]
  · rename_i hp0
    have hne : (namesUp l (p : Int)).reverse.map (·.data.toList) ≠ [] := by
      rw [namesUp_step l p (by omega) (by omega)]
      simp
    rw [List.map_cons, List.map_nil, join_snoc _ _ _ hne]
    simp [bl]

theorem fdM_path {l : List F} (h : Good l) (k : Nat) : k < l.length → 0 < k → (∀ r, fdM l 0 [] (bl (pathB l (k : Int)) ++ 46 :: r) = fdM l (k : Int) [] r) ∧ fdM l 0 [] (bl (pathB l (k : Int))) = (k : Int) := by
  induction k using Nat.strongRecOn with
  | _ k ih =>
    intro hk h0
    obtain ⟨p, hpk, -, hp⟩ := h.par hk h0
    have hnm := h.named hk hp
    obtain ⟨hnd, -⟩ := name_nodot (h.name hk).1
    have hstep : ∀ r, fdM l (p : Int) [] (bl (l.getD k default).n ++ r) = fdM l (p : Int) (bl (l.getD k default).n) r := fun r => by rw [fdM_skip l _ _ hnd]; rfl
    have hend : fdM l (p : Int) [] (bl (l.getD k default).n) = (k : Int) := by
      have := hstep []
      rw [List.append_nil] at this
      rw [this, fdM, str_blq, hnm]
    have hdot : ∀ r, fdM l (p : Int) [] (bl (l.getD k default).n ++ 46 :: r) = fdM l (k : Int) [] r := fun r => by
      rw [hstep, fdM, if_pos rfl, str_blq, hnm, if_neg (by omega)]
    rw [path_step h hk h0 hp hpk]
    by_cases hp0 : p = 0
    · subst hp0
      rw [if_pos rfl]
      exact ⟨hdot, hend⟩
    · rw [if_neg hp0]
      obtain ⟨i1, -⟩ := ih p hpk (by omega) (by omega)
      refine ⟨fun r => ?_, ?_⟩
      · rw [List.append_assoc, List.cons_append, i1]
        exact hdot r
      · rw [i1]
        exact hend

/-- A field's path leads to it. -/
theorem find_path {l : List F} (h : Good l) {k : Nat} (hk : k < l.length) (h0 : 0 < k) : findI l (pathB l (k : Int)) = (k : Int) := (fdM_path h k hk h0).2

end Go.Proofs.Ytkbfbiklnjldgaa
