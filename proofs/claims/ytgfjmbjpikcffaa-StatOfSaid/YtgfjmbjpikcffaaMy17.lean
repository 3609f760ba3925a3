/- stat: May. -/
import Derived.Test.YtgfjmbjpikcffaaSt
import Derived.Deep.RegionHeld3
namespace Go.Proofs.Ytgfjmbjpikcffaa
open Go.RowKit
set_option linter.unusedVariables false
set_option linter.unusedSimpArgs false

/-- What the least and the greatest say. -/
def mayB (c op d : Int) : Bool :=
  if op = 1 then decide (c ≤ 0) else if op = 0 then decide (c < 0) else if op = 2 then decide (c ≤ 0) && decide (0 ≤ d) else if op = 3 then decide (0 ≤ d) else if op = 4 then decide (0 < d) else false

set_option maxRecDepth 100000 in
theorem mayBe_any (c op d : Int) (w : World) (hc : -1 ≤ c ∧ c ≤ 1) (hd : -1 ≤ d ∧ d ≤ 1) :
    Calls Try.prog 25 #[.int .i64 c, .int .i64 op, .int .i64 d] w fun e w' => e = .returned (.bool (mayB c op d)) ∧ w = w' := by
  by_cases h1 : op = 1
  · subst h1
    have E := Lib.hid (show mayB c 1 d = decide (c ≤ 0) from rfl)
    by_cases h : c = 0
    · have d1 : (c == 0) = true := by simpa using h
      have E2 := Lib.hid (show mayB c 1 d = true by rw [E.out]; simp; omega)
      clear h
      go_enter Try.func25, Try.ntmps25
      go_wp2
      go_ret
      exact ⟨ret_bool E2.out.symm, rfl⟩
    · have d1 : (c == 0) = false := by simpa using h
      have E2 := Lib.hid (show mayB c 1 d = decide (c < 0) by rw [E.out]; apply decide_eq_decide.2; omega)
      clear h
      go_enter Try.func25, Try.ntmps25
      go_wp2
      go_ret
      exact ⟨ret_bool E2.out.symm, rfl⟩
  have e1 : (op == 1) = false := by simpa using h1
  by_cases h0 : op = 0
  · subst h0
    have E := Lib.hid (show mayB c 0 d = decide (c < 0) from rfl)
    go_enter Try.func25, Try.ntmps25
    go_wp2
    go_ret
    exact ⟨ret_bool E.out.symm, rfl⟩
  have e0 : (op == 0) = false := by simpa using h0
  by_cases h2 : op = 2
  · subst h2
    have E := Lib.hid (show mayB c 2 d = (decide (c ≤ 0) && decide (0 ≤ d)) from rfl)
    by_cases h : 0 < c
    · have d1 : decide (0 < c) = true := by simpa using h
      have E2 := Lib.hid (show mayB c 2 d = false by rw [E.out]; simp; omega)
      clear h
      go_enter Try.func25, Try.ntmps25
      go_wp2
      go_ret
      exact ⟨ret_bool E2.out.symm, rfl⟩
    · have d1 : decide (0 < c) = false := by simpa using h
      by_cases h' : d = 0
      · have d2 : (d == 0) = true := by simpa using h'
        have E2 := Lib.hid (show mayB c 2 d = true by rw [E.out]; simp; omega)
        clear h h'
        go_enter Try.func25, Try.ntmps25
        go_wp2
        go_ret
        exact ⟨ret_bool E2.out.symm, rfl⟩
      · have d2 : (d == 0) = false := by simpa using h'
        have E2 := Lib.hid (show mayB c 2 d = decide (0 < d) by rw [E.out, show decide (c ≤ 0) = true by simp; omega, Bool.true_and]; apply decide_eq_decide.2; omega)
        clear h h'
        go_enter Try.func25, Try.ntmps25
        go_wp2
        go_ret
        exact ⟨ret_bool E2.out.symm, rfl⟩
  have e2 : (op == 2) = false := by simpa using h2
  by_cases h3 : op = 3
  · subst h3
    have E := Lib.hid (show mayB c 3 d = decide (0 ≤ d) from rfl)
    by_cases h' : d = 0
    · have d2 : (d == 0) = true := by simpa using h'
      have E2 := Lib.hid (show mayB c 3 d = true by rw [E.out]; simp; omega)
      clear h'
      go_enter Try.func25, Try.ntmps25
      go_wp2
      go_ret
      exact ⟨ret_bool E2.out.symm, rfl⟩
    · have d2 : (d == 0) = false := by simpa using h'
      have E2 := Lib.hid (show mayB c 3 d = decide (0 < d) by rw [E.out]; apply decide_eq_decide.2; omega)
      clear h'
      go_enter Try.func25, Try.ntmps25
      go_wp2
      go_ret
      exact ⟨ret_bool E2.out.symm, rfl⟩
  have e3 : (op == 3) = false := by simpa using h3
  by_cases h4 : op = 4
  · subst h4
    have E := Lib.hid (show mayB c 4 d = decide (0 < d) from rfl)
    go_enter Try.func25, Try.ntmps25
    go_wp2
    go_ret
    exact ⟨ret_bool E.out.symm, rfl⟩
  have e4 : (op == 4) = false := by simpa using h4
  have E := Lib.hid (show mayB c op d = false by unfold mayB; rw [if_neg h1, if_neg h0, if_neg h2, if_neg h3, if_neg h4])
  clear h1 h0 h2 h3 h4
  go_enter Try.func25, Try.ntmps25
  go_wp2
  go_ret
  exact ⟨ret_bool E.out.symm, rfl⟩

/-- What May answers. -/
def mayS (k : Nat) (s : St) (op : Int) (v : V) : Bool := if op = 5 then decide (0 < s.n) else s.h && mayB (cv k s.a v) op (cv k s.b v)

set_option maxRecDepth 100000 in
set_option maxHeartbeats 4000000 in
theorem may17_any (k : Nat) (s : St) (op : Int) (v : V) (w : World) (ha : s.a.s.size ≤ 100) (hb : s.b.s.size ≤ 100) (hv : v.s.size ≤ 100) :
    Calls Try.prog 19 #[.int .i64 (k : Int), stV s, .int .i64 op, vvV v] w fun e w' => e = .returned (.bool (mayS k s op v)) ∧ Chg [] w w' := by
  by_cases h5 : op = 5
  · subst h5
    have E := Lib.hid (show mayS k s 5 v = decide (0 < s.n) from rfl)
    go_enter Try.func19, Try.ntmps19
    go_wp2
    go_ret
    exact ⟨ret_bool E.out.symm, ((Chg.refl [] w).alloc _).alloc _⟩
  have e5 : (op == 5) = false := by simpa using h5
  have HC := Lib.hid (fun o p : Obj => (((Chg.refl [] w).alloc o).alloc p))
  obtain ⟨sn, sh, sa, sb⟩ := s
  cases sh
  · have E := Lib.hid (show mayS k ⟨sn, false, sa, sb⟩ op v = false by unfold mayS; rw [if_neg h5]; rfl)
    clear h5
    go_enter Try.func19, Try.ntmps19
    go_wp2_with fail
    go_quiet (fail)
    go_wp2
    go_ret
    exact ⟨ret_bool E.out.symm, (HC.out _ _).drewN _⟩
  · have E := Lib.hid (show mayS k ⟨sn, true, sa, sb⟩ op v = mayB (cv k sa v) op (cv k sb v) by unfold mayS; rw [if_neg h5]; rfl)
    have HK1 := Lib.hid (fun wx => compare17_any k sa v wx (Nat.le_trans ha (by decide)) (Nat.le_trans hv (by decide)))
    have HK2 := Lib.hid (fun wx => compare17_any k sb v wx (Nat.le_trans hb (by decide)) (Nat.le_trans hv (by decide)))
    have HK3 := Lib.hid (fun wx => mayBe_any (cv k sa v) op (cv k sb v) wx (cv_rng _ _ _) (cv_rng _ _ _))
    generalize cv k sa v = c at HK1 HK3 E
    generalize cv k sb v = d at HK2 HK3 E
    have hcl : ∀ wx, Chg [] ((w.alloc (.cells #[.int .i64 sn, .bool true, .int .i64 sa.n, .string sa.s, .int .i64 sb.n, .string sb.s] 37)).alloc (.cells #[.int .i64 v.n, .string v.s] 35)) wx → wx.cell? ⟨w.heap.size, 1, none⟩ = some (.bool true) ∧ wx.cell? ⟨w.heap.size, 2, none⟩ = some (.int .i64 sa.n) ∧ wx.cell? ⟨w.heap.size, 3, none⟩ = some (.string sa.s) ∧ wx.cell? ⟨w.heap.size, 4, none⟩ = some (.int .i64 sb.n) ∧ wx.cell? ⟨w.heap.size, 5, none⟩ = some (.string sb.s) ∧ wx.cell? ⟨w.heap.size + 1, 0, none⟩ = some (.int .i64 v.n) ∧ wx.cell? ⟨w.heap.size + 1, 1, none⟩ = some (.string v.s) := fun wx h => by
      have X0 := h.heap (((Chg.refl [] _).alloc (.cells #[.int .i64 v.n, .string v.s] 35)).heap (heap_alloc_new w (.cells #[.int .i64 sn, .bool true, .int .i64 sa.n, .string sa.s, .int .i64 sb.n, .string sb.s] 37)) (by simp)) (by simp)
      have X1 := h.heap (new2 w (.cells #[.int .i64 sn, .bool true, .int .i64 sa.n, .string sa.s, .int .i64 sb.n, .string sb.s] 37) (.cells #[.int .i64 v.n, .string v.s] 35)) (by simp)
      refine ⟨?_, ?_, ?_, ?_, ?_, ?_, ?_⟩
      · rw [cell_of_row _ _ _ _ _ _ X0]; rfl
      · rw [cell_of_row _ _ _ _ _ _ X0]; rfl
      · rw [cell_of_row _ _ _ _ _ _ X0]; rfl
      · rw [cell_of_row _ _ _ _ _ _ X0]; rfl
      · rw [cell_of_row _ _ _ _ _ _ X0]; rfl
      · rw [cell_of_row _ _ _ _ _ _ X1]; rfl
      · rw [cell_of_row _ _ _ _ _ _ X1]; rfl
    have HCL := Lib.hid hcl
    clear h5 ha hb hv hcl
    go_enter Try.func19, Try.ntmps19
    go_upto_region 3 with fail
    go_region_held3 (fun wx => wx.cell? ⟨w.heap.size, 1, none⟩ = some (.bool true) ∧ wx.cell? ⟨w.heap.size, 2, none⟩ = some (.int .i64 sa.n) ∧ wx.cell? ⟨w.heap.size, 3, none⟩ = some (.string sa.s) ∧ wx.cell? ⟨w.heap.size, 4, none⟩ = some (.int .i64 sb.n) ∧ wx.cell? ⟨w.heap.size, 5, none⟩ = some (.string sb.s) ∧ wx.cell? ⟨w.heap.size + 1, 0, none⟩ = some (.int .i64 v.n) ∧ wx.cell? ⟨w.heap.size + 1, 1, none⟩ = some (.string v.s)) (first | exact HCL.out _ (by with_reducible repeat (first | exact HW.out | exact Chg.refl _ _ | refine Chg.drew ?_))) (first
      | (go_simp; go_at_call 26; (with_reducible first | refine (HK1.out _).mono ?_ | refine (HK2.out _).mono ?_); rintro e w3 ⟨rfl, hk3⟩; (first | have HW := Lib.hid (HW.out.trans hk3 (by simp)) | have HW := Lib.hid (((Chg.refl [] _).drew).trans hk3 (by simp))); clear hk3)
      | (go_simp; go_at_call 25; (with_reducible refine (HK3.out _).mono ?_); rintro e w3 ⟨rfl, rfl⟩))
    all_goals
      go_wp2
      go_ret
      exact ⟨ret_bool E.out.symm, (HC.out _ _).trans HW.out (by simp)⟩

end Go.Proofs.Ytgfjmbjpikcffaa
