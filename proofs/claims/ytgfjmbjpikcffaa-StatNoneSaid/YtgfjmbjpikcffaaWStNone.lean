/- The walk of the statement StatNone. -/
import Derived.Test.YtgfjmbjpikcffaaKn17
namespace Go.Proofs.Ytgfjmbjpikcffaa
open Go.RowKit
set_option linter.unusedVariables false
set_option linter.unusedSimpArgs false

set_option maxRecDepth 100000 in
set_option maxHeartbeats 4000000 in
theorem walk_StatNone (a0 a1 : Int) (a2 : V) (w : World) (w0 : (Lit.int .i64 a0).wf = true) (w1 : (Lit.int .i64 a1).wf = true) (w2 : (Lit.int .i64 a2.n).wf = true) (s2 : a2.s.size ≤ maxLen) :
    Calls Try.prog 7 #[.int .i64 a0, .int .i64 a1, vvV a2] w fun e w' => e = .returned (.bool true) ∧ Below w.heap.size w w' := by
  have HB := Lib.hid ((Chg.refl [] w).alloc (vo a2))
  have HB1 := Lib.hid (heap_alloc_new w (vo a2))
  have hcl : ∀ wx, Chg [] (w.alloc (vo a2)) wx → wx.cell? ⟨w.heap.size, 1, none⟩ = some (.string a2.s) := fun wx h => by
    have X0 := h.heap HB1.out (by simp)
    rw [cell_of_row _ _ _ _ _ _ X0]; rfl
  have HCL := Lib.hid hcl
  clear hcl
  go_enter Try.func7, Try.ntmps7
  go_wp2_with fail
  refine (known17_any _).mono ?_
  rintro e wA ⟨rfl, hk⟩
  have HKA := Lib.hid (HB.out.trans hk (by simp))
  have p1 := HCL.out wA hk
  clear hk
  by_cases hz : 100 < a2.s.size
  · have d1 : decide ((100 : Int) < (a2.s.size : Int)) = true := by simp; omega
    go_wp2
    go_ret
    exact ⟨rfl, HKA.out.below (Nat.le_refl _) (by simp)⟩
  have g2 : a2.s.size ≤ 100 := by omega
  have d1 : decide ((100 : Int) < (a2.s.size : Int)) = false := by simp; omega
  have HQ := Lib.hid (fun wx => within17 a0 5 5 wx rfl (by decide) (by decide) w0)
  have HP := Lib.hid (fun wx => within17 a1 7 7 wx rfl (by decide) (by decide) w1)
  have HR := Lib.hid (fun wx => within17 a0 9 9 wx rfl (by decide) (by decide) w0)
  obtain ⟨z, hz'⟩ : ∃ K, K = (a0 % ((5 : Nat) : Int)).toNat := ⟨_, rfl⟩
  obtain ⟨o, ho⟩ : ∃ K, K = (a1 % ((7 : Nat) : Int)).toNat := ⟨_, rfl⟩
  obtain ⟨q, hq⟩ : ∃ K, K = (a0 % ((9 : Nat) : Int)).toNat := ⟨_, rfl⟩
  have z5 : z < 5 := by rw [hz']; exact within_lt a0 5 (by decide)
  have o7 : o < 7 := by rw [ho]; exact within_lt a1 7 (by decide)
  have q9 : q < 9 := by rw [hq]; exact within_lt a0 9 (by decide)
  rw [← hz'] at HQ
  rw [← ho] at HP
  rw [← hq] at HR
  clear hz hz' ho hq
  have HM1 := Lib.hid (show ∀ wx, Calls Try.prog 19 #[.int .i64 4, .agg #[.int .i64 (z : Int), .bool false, .int .i64 0, .string { data := #[] }, .int .i64 0, .string { data := #[] }], .int .i64 (o : Int), .agg #[.int .i64 0, .string a2.s]] wx fun e w' => e = .returned (.bool (mayS 4 ⟨(z : Int), false, v0, v0⟩ (o : Int) ⟨0, a2.s⟩)) ∧ Chg [] wx w' from fun wx => may17_any 4 ⟨(z : Int), false, v0, v0⟩ (o : Int) ⟨0, a2.s⟩ wx (show e0.size ≤ 100 by decide) (show e0.size ≤ 100 by decide) g2)
  have HM2 := Lib.hid (show ∀ wx, Calls Try.prog 19 #[.int .i64 3, .agg #[.int .i64 0, .bool true, .int .i64 0, .string { data := #[] }, .int .i64 0, .string { data := #[] }], .int .i64 (6 + (q : Int)), .agg #[.int .i64 0, .string { data := #[] }]] wx fun e w' => e = .returned (.bool (mayS 3 ⟨0, true, v0, v0⟩ (6 + (q : Int)) v0)) ∧ Chg [] wx w' from fun wx => may17_any 3 ⟨0, true, v0, v0⟩ (6 + (q : Int)) v0 wx (by decide) (by decide) (by decide))
  have E2 : mayS 3 ⟨0, true, v0, v0⟩ (6 + (q : Int)) v0 = false := by
    rw [mayOne, if_neg (by omega)]
    unfold mayB
    rw [if_neg (by omega), if_neg (by omega), if_neg (by omega), if_neg (by omega), if_neg (by omega)]
  rw [E2] at HM2
  clear E2
  have hbx : IntKind.i64.wrap (6 + (q : Int)) = 6 + (q : Int) := IntWalk.i64_in _ (by omega)
  have p1' : (wA.alloc (.cells #[.int .i64 (z : Int), .bool false, .int .i64 0, .string { data := #[] }, .int .i64 0, .string { data := #[] }] 37)).cell? ⟨w.heap.size, 1, none⟩ = some (.string a2.s) := ((Chg.refl [] wA).alloc _).cell p1 (by simp)
  by_cases h5 : o = 5
  · have d2 : ((o : Int) == 5) = true := by rw [h5]; rfl
    have E1 : mayS 4 ⟨(z : Int), false, v0, v0⟩ (o : Int) ⟨0, a2.s⟩ = decide (0 < (z : Int)) := by rw [h5]; rfl
    rw [E1] at HM1
    obtain ⟨b, hb⟩ : ∃ b, b = decide (0 < (z : Int)) := ⟨_, rfl⟩
    have d3 := hb.symm
    rw [← hb] at HM1
    clear E1 hb h5
    cases b
    all_goals
      have H3 := Lib.hid d3
      go_wp2_with (first
        | (go_at_call 9; (with_reducible first | refine (HQ.out _).mono ?_ | refine (HP.out _).mono ?_ | refine (HR.out _).mono ?_); rintro e wB ⟨rfl, rfl⟩)
        | (go_at_call 19; (with_reducible refine (HM1.out _).mono ?_); rintro e wB ⟨rfl, hk⟩; have HW := Lib.hid ((HKA.out.alloc _).trans hk (by simp)); have q0 : wB.cell? ⟨wA.heap.size, 0, none⟩ = some (.int .i64 (z : Int)) := (by rw [cell_of_row _ _ _ _ _ _ (hk.heap (heap_alloc_new wA (.cells #[.int .i64 (z : Int), .bool false, .int .i64 0, .string { data := #[] }, .int .i64 0, .string { data := #[] }] 37)) (by simp))]; rfl); clear hk)
        | (go_at_call 19; (with_reducible refine (HM2.out _).mono ?_); rintro e wC ⟨rfl, hk⟩; have HW2 := Lib.hid (HW.out.trans hk (by simp)); clear hk)
        | fail)
      all_goals
        first
          | (exfalso; have hx := H3.out; simp at hx; omega)
          | (go_ret; exact ⟨rfl, HW2.out.below (Nat.le_refl _) (by simp)⟩)
  · have d2 : ((o : Int) == 5) = false := by simp; omega
    have E1 : mayS 4 ⟨(z : Int), false, v0, v0⟩ (o : Int) ⟨0, a2.s⟩ = false := by unfold mayS; rw [if_neg (by omega)]; rfl
    rw [E1] at HM1
    clear E1 h5
    go_wp2_with (first
        | (go_at_call 9; (with_reducible first | refine (HQ.out _).mono ?_ | refine (HP.out _).mono ?_ | refine (HR.out _).mono ?_); rintro e wB ⟨rfl, rfl⟩)
        | (go_at_call 19; (with_reducible refine (HM1.out _).mono ?_); rintro e wB ⟨rfl, hk⟩; have HW := Lib.hid ((HKA.out.alloc _).trans hk (by simp)); have q0 : wB.cell? ⟨wA.heap.size, 0, none⟩ = some (.int .i64 (z : Int)) := (by rw [cell_of_row _ _ _ _ _ _ (hk.heap (heap_alloc_new wA (.cells #[.int .i64 (z : Int), .bool false, .int .i64 0, .string { data := #[] }, .int .i64 0, .string { data := #[] }] 37)) (by simp))]; rfl); clear hk)
        | (go_at_call 19; (with_reducible refine (HM2.out _).mono ?_); rintro e wC ⟨rfl, hk⟩; have HW2 := Lib.hid (HW.out.trans hk (by simp)); clear hk)
        | fail)
    go_ret
    exact ⟨rfl, HW2.out.below (Nat.le_refl _) (by simp)⟩

end Go.Proofs.Ytgfjmbjpikcffaa
