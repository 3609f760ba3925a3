/- ShredMany: what shred.Columns gives of many records. -/
import Derived.Test.YtonlcmnaohbmjaaShl
namespace Go.Proofs.Ytonlcmnaohbmjaa
open Go.RowKit
set_option linter.unusedVariables false
set_option linter.unusedSimpArgs false

def klM : List F := [⟨bm8, 0, 0, 1⟩, ⟨ba8, 2, 1, 0⟩]
set_option maxRecDepth 100000 in
theorem klM_ways : lways klM = [[(0, 2)]] ∧ leavesL klM = [⟨1, 1, 1, 1⟩] ∧ chk klM = 0 ∧ kidsU (parents klM) klM.length 0 = [1] := by decide +kernel
set_option maxRecDepth 100000 in
theorem klM_leaf : fitV klM 1 t0M = 0 := by decide +kernel

theorem klM_fault (n k : Nat) (hk : k ≤ 50) : faultT klM (List.replicate n (tM k)) = 0 := by
  have h2 : fitL klM 1 (List.replicate k t0M) = 0 := fitL_zero fun t ht => by rw [List.eq_of_mem_replicate ht]; exact klM_leaf
  have h1 : fitV klM 0 (tM k) = 0 := by
    rw [fit_one rfl klM_ways.2.2.2]
    unfold listE
    rw [h2, List.length_replicate]
    have : timesE (klM.getD 1 default).r k = 0 := by
      show timesE 2 k = 0
      unfold timesE
      rw [if_neg (by decide), if_neg (by decide), if_pos rfl, if_pos hk]
    rw [this]
    rfl
  unfold faultT
  rw [klM_ways.2.2.1, fitL_zero fun t ht => by rw [List.eq_of_mem_replicate ht]; exact h1]
  rfl

theorem cellsM (k : Nat) (hk : 1 ≤ k) : cellsV [(0, 2)] 0 0 0 (tM k) = ⟨0, 1, t0M⟩ :: List.replicate (k - 1) ⟨1, 1, t0M⟩ := by
  have h : (tM k).k.getD 0 [] = t0M :: List.replicate (k - 1) t0M := by
    show List.replicate k t0M = _
    rw [show k = (k - 1) + 1 by omega, List.replicate_succ]
    simp
  rw [cellsV_some h, if_pos rfl, if_neg (by decide), if_pos rfl, cellsV_nil]
  have h2 : ∀ j, (List.replicate j t0M).flatMap (fun y => cellsV [] (0 + 1) (0 + 1) (0 + 1) y) = List.replicate j ⟨1, 1, t0M⟩ := by
    intro j
    induction j with
    | zero => rfl
    | succ j ih => rw [List.replicate_succ, List.flatMap_cons, ih, cellsV_nil]; rfl
  rw [h2]
  rfl

theorem colM (k : Nat) (hk : 1 ≤ k) : ∀ n, (colC [(0, 2)] (List.replicate n (tM k))).length = n * k ∧ ∀ x ∈ colC [(0, 2)] (List.replicate n (tM k)), x.d = 1 ∧ x.t = t0M
  | 0 => by simp [colC]
  | n + 1 => by
    obtain ⟨h1, h2⟩ := colM k hk n
    have e : colC [(0, 2)] (List.replicate (n + 1) (tM k)) = (⟨0, 1, t0M⟩ :: List.replicate (k - 1) ⟨1, 1, t0M⟩) ++ colC [(0, 2)] (List.replicate n (tM k)) := by
      unfold colC
      rw [List.replicate_succ, List.flatMap_cons, cellsM k hk]
    rw [e]
    refine ⟨?_, fun x hx => ?_⟩
    · rw [List.length_append, h1, List.length_cons, List.length_replicate, Nat.succ_mul]; omega
    · rw [List.mem_append] at hx
      rcases hx with hx | hx
      · rw [List.mem_cons] at hx
        rcases hx with rfl | hx
        · exact ⟨rfl, rfl⟩
        · rw [List.eq_of_mem_replicate hx]; exact ⟨rfl, rfl⟩
      · exact h2 x hx

theorem colVM (n k : Nat) (hk : 1 ≤ k) : (colV 1 (colC [(0, 2)] (List.replicate n (tM k)))).length = n * k := by
  obtain ⟨h1, h2⟩ := colM k hk n
  unfold colV
  rw [List.length_map, List.filter_eq_self.2 (fun x hx => by rw [(h2 x hx).1]; rfl), h1]

theorem colsM (sv lv : Value) (n k : Nat) (w : World) (hS : SeenF w sv klM) (hL : ListAt w 2 (List.replicate n (tM k)) lv) (hk : 1 ≤ k) (hk2 : k ≤ 50) :
    Calls Try.prog 16 #[sv, lv] w fun e w' => Chg [] w w' ∧ if n ≤ 200 ∧ n * k ≤ 4000 then ∃ gc vo vc, e = .returned (.tuple #[.slice (some ⟨gc, 0, none⟩) 1 1, .int .i64 0]) ∧ w'.cell? ⟨gc, 2, none⟩ = some (.slice vo (n * k) vc)
      else e = .returned (.tuple #[.slice none 0 0, .int .i64 4]) := by
  have hf := klM_fault n k hk2
  obtain ⟨c1, c2⟩ := colM k hk n
  refine (columns_any sv lv klM _ 2 w hS hL (by decide) (by decide) (by decide) (by decide) (by decide) (fun _ W hW => ?_)).mono ?_
  · rw [klM_ways.1, List.mem_singleton] at hW
    subst hW
    refine ⟨fun t ht => ?_, fun x hx => ?_⟩
    · rw [List.eq_of_mem_replicate ht]
      exact ⟨by show 0 < [List.replicate k t0M].length; simp, by decide, by show (List.replicate k t0M).length ≤ 50; rw [List.length_replicate]; exact hk2, fun x hx => trivial⟩
    · rw [(c2 x hx).2]
      decide
  · rintro e w' ⟨hc, hh⟩
    refine ⟨hc, ?_⟩
    rw [List.length_replicate, hf, klM_ways.1, klM_ways.2.1] at hh
    by_cases h2 : 200 < n
    · rw [if_pos h2] at hh
      rw [if_neg (by omega)]
      exact hh
    · rw [if_neg h2, if_neg (by simp)] at hh
      by_cases h3 : n * k ≤ 4000
      · rw [if_pos (by intro W hW; rw [List.mem_singleton] at hW; subst hW; rw [c1]; exact h3)] at hh
        rw [if_pos ⟨by omega, h3⟩]
        obtain ⟨gc, R, rfl, hJ⟩ := hh
        obtain ⟨⟨rv, dv, vv, b1, b2⟩, -, ⟨ht, -, -⟩, -, -, -, q2⟩ := hJ.get (j := 0) (by decide) rfl rfl
        simp only at ht q2
        have hv := ht.v
        simp only [colVM n k hk] at hv
        obtain ⟨vo, vc, rfl⟩ := own_shape hv
        exact ⟨gc, vo, vc, rfl, by simpa using q2⟩
      · rw [if_neg (fun h => h3 (by have := h [(0, 2)] (by simp); rwa [c1] at this))] at hh
        rw [if_neg (by omega)]
        exact hh

end Go.Proofs.Ytonlcmnaohbmjaa
