/- A region that draws its order, by an invariant: what holds of what is listed, of the frame and of the world; each operation by itself, whatever else is listed. -/
import Derived.Test.YtgfjmbjpikcffaaMo
import Derived.RegionTactic
namespace Go.Proofs.Ytgfjmbjpikcffaa
open Go.RowKit
set_option linter.unusedVariables false

theorem ready_at {md : Region.Mode} {ops : Array Oper} {listed : Array Bool} {i : Nat} {o : Oper} (ho : ops[i]? = some o) (hi : i ∈ Region.ready md ops listed) :
    (!listed.getD i true && o.after.all fun e => !Region.binds md e || listed.getD e.on false) = true := by
  unfold Region.ready at hi
  have h := (List.mem_filter.1 hi).2
  rw [ho] at h
  exact h

theorem ready_not {md : Region.Mode} {ops : Array Oper} {listed : Array Bool} {i : Nat} {o : Oper} (ho : ops[i]? = some o) (hr : Region.ready md ops listed = []) :
    (!listed.getD i true && o.after.all fun e => !Region.binds md e || listed.getD e.on false) = false := by
  cases h : (!listed.getD i true && o.after.all fun e => !Region.binds md e || listed.getD e.on false) with
  | false => rfl
  | true =>
    have hm : i ∈ Region.ready md ops listed := by
      unfold Region.ready
      refine List.mem_filter.2 ⟨List.mem_range.2 (Array.getElem?_eq_some_iff.1 ho).1, ?_⟩
      rw [ho]; exact h
    rw [hr] at hm
    cases hm

/-- Where nothing is ready and each operation waits for earlier ones alone, all are done. -/
theorem ready_all {md : Region.Mode} {ops : Array Oper} {listed : Array Bool} (hr : Region.ready md ops listed = []) (hs : listed.size = ops.size) (ha : ((List.range ops.size).all fun i => match ops[i]? with | some o => o.after.all fun e => decide (e.on < i) | none => true) = true) :
    ∀ i, i < ops.size → listed[i]? = some true := by
  intro i
  induction i using Nat.strongRecOn with
  | ind i ih =>
    intro hi
    have ho : ops[i]? = some ops[i] := Array.getElem?_eq_getElem hi
    have h1 := ready_not ho hr
    have h2 := (List.all_eq_true.1 ha) i (List.mem_range.2 hi)
    rw [ho] at h2
    simp only at h2
    have h3 : (ops[i].after.all fun e => !Region.binds md e || listed.getD e.on false) = true := by
      rw [Array.all_eq_true'] at h2 ⊢
      intro e he
      have h4 : e.on < i := of_decide_eq_true (h2 e he)
      have h5 := ih e.on h4 (by omega)
      have h6 : listed.getD e.on false = true := by
        rw [Array.getD_eq_getD_getElem?, h5]
        rfl
      rw [h6, Bool.or_true]
    rw [h3, Bool.and_true] at h1
    have hl : listed[i]? = some listed[i] := Array.getElem?_eq_getElem (by omega)
    rw [Array.getD_eq_getD_getElem?, hl] at h1
    rw [hl]
    simpa using h1

theorem ready_lt {md : Region.Mode} {ops : Array Oper} {listed : Array Bool} {i : Nat} (hi : i ∈ Region.ready md ops listed) : i < ops.size ∧ listed[i]? = some false := by
  unfold Region.ready at hi
  obtain ⟨h1, h2⟩ := List.mem_filter.1 hi
  refine ⟨List.mem_range.1 h1, ?_⟩
  rw [Bool.and_eq_true] at h2
  have h3 := h2.1
  rw [Array.getD_eq_getD_getElem?] at h3
  cases h : listed[i]? with
  | none => rw [h] at h3; simp at h3
  | some b => rw [h] at h3; simp at h3; rw [h3]

theorem count_rep (n : Nat) : (Array.replicate n false).toList.count false ≤ n := by
  rw [Array.toList_replicate, List.count_replicate]
  split <;> omega

theorem wpAny_inv {P : Program} {md : Region.Mode} {ops : Array Oper} {Q : Exit → Act → World → Prop} (I : Array Bool → Act → World → Prop)
    (hs : ∀ listed a w, I listed a w → ∀ i, i < ops.size → i ∈ Region.ready md ops listed → wpOp P ops Q i (fun a' w' => I (listed.setIfInBounds i true) a' w') a w)
    (hq : ∀ listed a w, I listed a w → Region.ready md ops listed = [] → Q .normal a w) :
    ∀ (fuel : Nat) (listed : Array Bool) (a : Act) (w : World), I listed a w → listed.toList.count false ≤ fuel → wpAny P md ops Q fuel listed a w
  | 0, listed, a, w, hI, hc => by
    have hr : Region.ready md ops listed = [] := by
      apply List.eq_nil_iff_forall_not_mem.2
      intro i hi
      have h := (ready_lt hi).2
      have hm : false ∈ listed.toList := by
        rw [← Array.getElem?_toList] at h
        exact List.mem_of_getElem? h
      have := List.count_pos_iff.2 hm
      omega
    exact ⟨hr, hq listed a w hI hr⟩
  | fuel + 1, listed, a, w, hI, hc => by
    refine ⟨hq listed a w hI, fun i hi => ?_⟩
    obtain ⟨h1, h2⟩ := ready_lt hi
    refine wpOp_mono (fun a' w' h => ?_) (hs listed a w hI i h1 hi)
    refine wpAny_inv I hs hq fuel _ a' w' h ?_
    rw [← Array.getElem?_toList] at h2
    obtain ⟨hl, he⟩ := List.getElem?_eq_some_iff.1 h2
    rw [Array.toList_setIfInBounds, List.count_set hl, he]
    have e1 : (false == false) = true := rfl
    have e2 : ¬ (true == false) = true := by decide
    rw [if_pos e1, if_neg e2]
    omega

end Go.Proofs.Ytgfjmbjpikcffaa
