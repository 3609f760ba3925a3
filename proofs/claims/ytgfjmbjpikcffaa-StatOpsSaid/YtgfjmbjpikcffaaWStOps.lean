/- The walk of the statement StatOps. -/
import Derived.Test.YtgfjmbjpikcffaaCh17
namespace Go.Proofs.Ytgfjmbjpikcffaa
open Go.RowKit
set_option linter.unusedVariables false
set_option linter.unusedSimpArgs false

abbrev FRSo6 (B k : Nat) (a1 a2 x y : V) (ga : Nat) (gb : Nat) (base u : Nat → Value) : Act := { tmps := #[base 0, base 1, base 2, base 3, .pointer (some ⟨B, 0, none⟩), .pointer (some ⟨B + 1, 0, none⟩), base 6, .int .i64 (k : Int), u 8, u 9, base 10, base 11, base 12, base 13, base 14, base 15, base 16, base 17, base 18, base 19, base 20, base 21, base 22, base 23, base 24, base 25, base 26, base 27, base 28, base 29, u 30, u 31, u 32, u 33, u 34, u 35, base 36, base 37, base 38, base 39, base 40, base 41, base 42, base 43, base 44, base 45, base 46, base 47, base 48, base 49, base 50, base 51, base 52, base 53, base 54, base 55, base 56, base 57, base 58, base 59, base 60, base 61, base 62, base 63, base 64, base 65, base 66, base 67, base 68, base 69, base 70, base 71, base 72, base 73, base 74, base 75, base 76, base 77, base 78, base 79, base 80, base 81, base 82, base 83, base 84, base 85, base 86, base 87, base 88, base 89, base 90, base 91, base 92, base 93, base 94, base 95, base 96, base 97], defers := [] }

structure RISo6 (B k : Nat) (a1 a2 x y : V) (wc : World) (b : Nat → Bool) (u : Nat → Value) (ga : Nat) (gb : Nat) (w' : World) : Prop where
  c0 : b 0 = true → u 30 = .int .i64 (k : Int)
  c1 : b 1 = true → u 31 = .agg #[.int .i64 a1.n, .string a1.s]
  c2 : b 2 = true → u 32 = vvV x
  c3 : b 3 = true → u 33 = .int .i64 (k : Int)
  c4 : b 4 = true → u 34 = .agg #[.int .i64 a2.n, .string a2.s]
  c5 : b 5 = true → u 35 = vvV y
  c6 : b 6 = true → u 8 = .pointer (some ⟨ga, 0, none⟩)
  c7 : b 7 = true → u 9 = .pointer (some ⟨gb, 0, none⟩)
  cg : Chg [] wc w'
  m6 : b 6 = true → wc.heap.size ≤ ga ∧ ga < w'.heap.size ∧ (b 8 = false → w'.heap[ga]? = some (.cells #[.int .i64 0, .string { data := #[] }] 35 (0, 0)))
  n6 : b 8 = true → w'.heap[ga]? = some (.cells #[.int .i64 x.n, .string x.s] 35 (0, 0))
  m7 : b 7 = true → wc.heap.size ≤ gb ∧ gb < w'.heap.size ∧ (b 9 = false → w'.heap[gb]? = some (.cells #[.int .i64 0, .string { data := #[] }] 35 (0, 0)))
  n7 : b 9 = true → w'.heap[gb]? = some (.cells #[.int .i64 y.n, .string y.s] 35 (0, 0))
  d6_7 : b 6 = true → b 7 = true → ga ≠ gb
  z8_6 : b 8 = true → b 6 = true
  z9_7 : b 9 = true → b 7 = true

def JISo6 (B k : Nat) (a1 a2 x y : V) (wc : World) (listed : Array Bool) (a' : Act) (w' : World) : Prop :=
  ∃ (b : Nat → Bool) (base u : Nat → Value) (ga : Nat) (gb : Nat), listed = #[b 0, b 1, b 2, b 3, b 4, b 5, b 6, b 7, b 8, b 9] ∧ a' = FRSo6 B k a1 a2 x y ga gb base u ∧ RISo6 B k a1 a2 x y wc b u ga gb w'

theorem JISo6_start {B k : Nat} {a1 a2 x y : V} {wc w' : World} {a : Act} (h : a = FRSo6 B k a1 a2 x y 0 0 (fun j => a.tmps.getD j undef) (fun j => a.tmps.getD j undef)) (hc : Chg [] wc w') : JISo6 B k a1 a2 x y wc (Array.replicate 10 false) a w' :=
  ⟨fun _ => false, _, _, 0, 0, rfl, h, by constructor <;> simp [hc]⟩

theorem ltSo6 : ∀ i : Nat, i < 10 → i = 0 ∨ i = 1 ∨ i = 2 ∨ i = 3 ∨ i = 4 ∨ i = 5 ∨ i = 6 ∨ i = 7 ∨ i = 8 ∨ i = 9 := by decide

set_option maxRecDepth 100000 in
set_option maxHeartbeats 4000000 in
theorem walk_StatOps (a0 : Int) (a1 a2 : V) (w : World) (w0 : (Lit.int .i64 a0).wf = true) (w1 : (Lit.int .i64 a1.n).wf = true) (w2 : (Lit.int .i64 a2.n).wf = true) (s1 : a1.s.size ≤ maxLen) (s2 : a2.s.size ≤ maxLen) :
    Calls Try.prog 5 #[.int .i64 a0, vvV a1, vvV a2] w fun e w' => e = .returned (.bool true) ∧ Below w.heap.size w w' := by
  obtain ⟨wb, hwb⟩ : ∃ wb, wb = (w.alloc (vo a1)).alloc (vo a2) := ⟨_, rfl⟩
  have HB := Lib.hid (show Chg [] w wb by rw [hwb]; exact ((Chg.refl [] w).alloc _).alloc _)
  have HB1 := Lib.hid (show wb.heap[w.heap.size]? = some (vo a1) by rw [hwb]; exact at20w w _ _)
  have HB2 := Lib.hid (show wb.heap[w.heap.size + 1]? = some (vo a2) by rw [hwb]; exact new2 w _ _)
  have HWB := Lib.hid hwb
  clear hwb
  have hcl : ∀ wx, Chg [] wb wx → wx.cell? ⟨w.heap.size, 0, none⟩ = some (.int .i64 a1.n) ∧ wx.cell? ⟨w.heap.size, 1, none⟩ = some (.string a1.s) ∧ wx.cell? ⟨w.heap.size + 1, 0, none⟩ = some (.int .i64 a2.n) ∧ wx.cell? ⟨w.heap.size + 1, 1, none⟩ = some (.string a2.s) := fun wx h => by
    have X0 := h.heap HB1.out (by simp)
    have X1 := h.heap HB2.out (by simp)
    refine ⟨?_, ?_, ?_, ?_⟩
    · rw [cell_of_row _ _ _ _ _ _ X0]; rfl
    · rw [cell_of_row _ _ _ _ _ _ X0]; rfl
    · rw [cell_of_row _ _ _ _ _ _ X1]; rfl
    · rw [cell_of_row _ _ _ _ _ _ X1]; rfl
  have HCL := Lib.hid hcl
  clear hcl
  go_enter Try.func5, Try.ntmps5
  go_wp2_with fail
  rw [← HWB.out]
  refine (known17_any _).mono ?_
  rintro e wA ⟨rfl, hk⟩
  have HKA := Lib.hid hk
  obtain ⟨p0, p1, p2, p3⟩ := HCL.out wA hk
  clear hk
  by_cases hz : 100 < a1.s.size ∨ 100 < a2.s.size
  · have hz2 : (decide ((100 : Int) < (a1.s.size : Int)) = true) ∨ (decide ((100 : Int) < (a1.s.size : Int)) = false ∧ decide ((100 : Int) < (a2.s.size : Int)) = true) := by
      by_cases h : 100 < a1.s.size
      · left; simp; omega
      · right; simp; omega
    have hx2 : ¬ 100 < a1.s.size → 100 < a2.s.size := by omega
    clear hz
    rcases hz2 with d1 | ⟨d1, d2⟩
    all_goals
      go_wp2
      go_ret
      exact ⟨rfl, (HB.out.trans HKA.out (by simp)).below (Nat.le_refl _) (by simp)⟩
  have g1 : a1.s.size ≤ 100 := by omega
  have g2 : a2.s.size ≤ 100 := by omega
  have d1 : decide ((100 : Int) < (a1.s.size : Int)) = false := by simp; omega
  have d2 : decide ((100 : Int) < (a2.s.size : Int)) = false := by simp; omega
  have HQ := Lib.hid (fun wx => within17 a0 4 4 wx rfl (by decide) (by decide) w0)
  obtain ⟨K, hK⟩ : ∃ K, K = (a0 % ((4 : Nat) : Int)).toNat := ⟨_, rfl⟩
  have hK4 : K < 4 := by rw [hK]; exact within_lt a0 4 (by decide)
  rw [← hK] at HQ
  clear hz hK
  go_wp2_with (first
    | (go_at_call 9; (with_reducible refine (HQ.out _).mono ?_); rintro e wB ⟨rfl, rfl⟩)
    | fail)
  obtain ⟨k, hk⟩ : ∃ k, k = K + 1 := ⟨_, rfl⟩
  have hk4 : 1 ≤ k ∧ k ≤ 4 := by omega
  first | rw [show (1 : Int) + (K : Int) = (k : Int) by omega] | rw [show (K : Int) + 1 = (k : Int) by omega]
  clear hk hK4 HQ
  have HCLA := Lib.hid (fun wx (h : Chg [] wA wx) => HCL.out wx (HKA.out.trans h (by simp)))
  have HW1 := Lib.hid (wf_i64 w1); have HW2 := Lib.hid (wf_i64 w2)
  have HG1 := Lib.hid (fun wx => good_any k hk4 a1 w1 wx)
  have HG2 := Lib.hid (fun wx => good_any k hk4 a2 w2 wx)
  have HO1 := Lib.hid (gd_ok k a1 HW1.out)
  have HO2 := Lib.hid (gd_ok k a2 HW2.out)
  generalize gdV k a1 = x at HG1 HO1
  generalize gdV k a2 = y at HG2 HO2
  have HZ1 := Lib.hid (ok_size hk4 HO1.out); have HZ2 := Lib.hid (ok_size hk4 HO2.out)
  refine wp_region_any (by kernel_rfl) ?_
  change wpAny _ _ _ _ _ _ _ (World.drew _)
  refine wpAny_inv (JISo6 w.heap.size k a1 a2 x y wA) ?_ (fun listed a' w' hI hr => ?_) _ _ _ _ ?_ ?_
  rotate_left 2
  focus exact JISo6_start rfl ((Chg.refl [] wA).drew)
  focus exact count_rep _
  focus
    intro listed a' w' hI ii hi hr
    obtain ⟨b, base, u, ga, gb, rfl, rfl, R⟩ := hI
    have hcs := ltSo6 ii hi
    clear hi
    unfold FRSo6
    rcases hcs with rfl | rfl | rfl | rfl | rfl | rfl | rfl | rfl | rfl | rfl
    · have hrd := ready_at rfl hr
      clear hr
      simp [Region.binds] at hrd
      clear hrd
      refine wpOp_step rfl (fun K hK => ?_)
      go_simp
      refine hK _ _ ?_
      exact ⟨upd b 0 true, base, (upd u 30 (.int .i64 (k : Int))), ga, gb, rfl, rfl, ⟨(fun _ => rfl), R.c1, R.c2, R.c3, R.c4, R.c5, R.c6, R.c7, R.cg, R.m6, R.n6, R.m7, R.n7, R.d6_7, R.z8_6, R.z9_7⟩⟩
    · have hrd := ready_at rfl hr
      clear hr
      simp [Region.binds] at hrd
      clear hrd
      obtain ⟨hl0, hl1, hl2, hl3⟩ := HCLA.out _ R.cg
      refine wpOp_step rfl (fun K hK => ?_)
      go_simp
      refine hK _ _ ?_
      exact ⟨upd b 1 true, base, (upd u 31 (.agg #[.int .i64 a1.n, .string a1.s])), ga, gb, rfl, rfl, ⟨R.c0, (fun _ => rfl), R.c2, R.c3, R.c4, R.c5, R.c6, R.c7, R.cg, R.m6, R.n6, R.m7, R.n7, R.d6_7, R.z8_6, R.z9_7⟩⟩
    · have hrd := ready_at rfl hr
      clear hr
      simp [Region.binds] at hrd
      have h0 : b 0 = true := by simp [hrd]
      have e0 := R.c0 h0
      have h1 : b 1 = true := by simp [hrd]
      have e1 := R.c1 h1
      clear hrd
      refine wpOp_step rfl (fun K hK => ?_)
      go_simp
      go_at_call 18
      (with_reducible refine (HG1.out w').mono ?_)
      rintro e w4 ⟨rfl, hk3⟩
      refine hK _ _ ?_
      exact ⟨upd b 2 true, base, (upd (upd (upd u 30 (.int .i64 (k : Int))) 31 (.agg #[.int .i64 a1.n, .string a1.s])) 32 (vvV x)), ga, gb, rfl, rfl, ⟨(fun _ => rfl), (fun _ => rfl), (fun _ => rfl), R.c3, R.c4, R.c5, R.c6, R.c7, (R.cg.trans hk3 (by simp)), (fun h => ⟨(R.m6 h).1, Nat.lt_of_lt_of_le (R.m6 h).2.1 hk3.size, fun h5 => hk3.heap ((R.m6 h).2.2 h5) (by simp)⟩), (fun h => hk3.heap (R.n6 h) (by simp)), (fun h => ⟨(R.m7 h).1, Nat.lt_of_lt_of_le (R.m7 h).2.1 hk3.size, fun h5 => hk3.heap ((R.m7 h).2.2 h5) (by simp)⟩), (fun h => hk3.heap (R.n7 h) (by simp)), R.d6_7, R.z8_6, R.z9_7⟩⟩
    · have hrd := ready_at rfl hr
      clear hr
      simp [Region.binds] at hrd
      clear hrd
      refine wpOp_step rfl (fun K hK => ?_)
      go_simp
      refine hK _ _ ?_
      exact ⟨upd b 3 true, base, (upd u 33 (.int .i64 (k : Int))), ga, gb, rfl, rfl, ⟨R.c0, R.c1, R.c2, (fun _ => rfl), R.c4, R.c5, R.c6, R.c7, R.cg, R.m6, R.n6, R.m7, R.n7, R.d6_7, R.z8_6, R.z9_7⟩⟩
    · have hrd := ready_at rfl hr
      clear hr
      simp [Region.binds] at hrd
      clear hrd
      obtain ⟨hl0, hl1, hl2, hl3⟩ := HCLA.out _ R.cg
      refine wpOp_step rfl (fun K hK => ?_)
      go_simp
      refine hK _ _ ?_
      exact ⟨upd b 4 true, base, (upd u 34 (.agg #[.int .i64 a2.n, .string a2.s])), ga, gb, rfl, rfl, ⟨R.c0, R.c1, R.c2, R.c3, (fun _ => rfl), R.c5, R.c6, R.c7, R.cg, R.m6, R.n6, R.m7, R.n7, R.d6_7, R.z8_6, R.z9_7⟩⟩
    · have hrd := ready_at rfl hr
      clear hr
      simp [Region.binds] at hrd
      have h3 : b 3 = true := by simp [hrd]
      have e3 := R.c3 h3
      have h4 : b 4 = true := by simp [hrd]
      have e4 := R.c4 h4
      clear hrd
      refine wpOp_step rfl (fun K hK => ?_)
      go_simp
      go_at_call 18
      (with_reducible refine (HG2.out w').mono ?_)
      rintro e w4 ⟨rfl, hk3⟩
      refine hK _ _ ?_
      exact ⟨upd b 5 true, base, (upd (upd (upd u 33 (.int .i64 (k : Int))) 34 (.agg #[.int .i64 a2.n, .string a2.s])) 35 (vvV y)), ga, gb, rfl, rfl, ⟨R.c0, R.c1, R.c2, (fun _ => rfl), (fun _ => rfl), (fun _ => rfl), R.c6, R.c7, (R.cg.trans hk3 (by simp)), (fun h => ⟨(R.m6 h).1, Nat.lt_of_lt_of_le (R.m6 h).2.1 hk3.size, fun h5 => hk3.heap ((R.m6 h).2.2 h5) (by simp)⟩), (fun h => hk3.heap (R.n6 h) (by simp)), (fun h => ⟨(R.m7 h).1, Nat.lt_of_lt_of_le (R.m7 h).2.1 hk3.size, fun h5 => hk3.heap ((R.m7 h).2.2 h5) (by simp)⟩), (fun h => hk3.heap (R.n7 h) (by simp)), R.d6_7, R.z8_6, R.z9_7⟩⟩
    · have hrd := ready_at rfl hr
      clear hr
      simp [Region.binds] at hrd
      have hb6 : b 6 = false := by simp [hrd]
      clear hrd
      have hk3 := (Chg.refl [] w').alloc (.cells #[.int .i64 0, .string { data := #[] }] 35)
      refine wpOp_step rfl (fun K hK => ?_)
      go_simp
      refine hK _ _ ?_
      exact ⟨upd b 6 true, base, (upd u 8 (.pointer (some ⟨w'.heap.size, 0, none⟩))), w'.heap.size, gb, rfl, rfl, ⟨R.c0, R.c1, R.c2, R.c3, R.c4, R.c5, (fun _ => rfl), R.c7, (R.cg.trans hk3 (by simp)), (fun _ => ⟨R.cg.size, by simp, fun _ => hl_new rfl⟩), (fun h => absurd (R.z8_6 h) (by rw [hb6]; decide)), (fun h => ⟨(R.m7 h).1, Nat.lt_of_lt_of_le (R.m7 h).2.1 hk3.size, fun h5 => hk3.heap ((R.m7 h).2.2 h5) (by simp)⟩), (fun h => hk3.heap (R.n7 h) (by simp)), (fun _ h => by have := (R.m7 h).2.1; omega), (fun _ => rfl), R.z9_7⟩⟩
    · have hrd := ready_at rfl hr
      clear hr
      simp [Region.binds] at hrd
      have hb7 : b 7 = false := by simp [hrd]
      clear hrd
      have hk3 := (Chg.refl [] w').alloc (.cells #[.int .i64 0, .string { data := #[] }] 35)
      refine wpOp_step rfl (fun K hK => ?_)
      go_simp
      refine hK _ _ ?_
      exact ⟨upd b 7 true, base, (upd u 9 (.pointer (some ⟨w'.heap.size, 0, none⟩))), ga, w'.heap.size, rfl, rfl, ⟨R.c0, R.c1, R.c2, R.c3, R.c4, R.c5, R.c6, (fun _ => rfl), (R.cg.trans hk3 (by simp)), (fun h => ⟨(R.m6 h).1, Nat.lt_of_lt_of_le (R.m6 h).2.1 hk3.size, fun h5 => hk3.heap ((R.m6 h).2.2 h5) (by simp)⟩), (fun h => hk3.heap (R.n6 h) (by simp)), (fun _ => ⟨R.cg.size, by simp, fun _ => hl_new rfl⟩), (fun h => absurd (R.z9_7 h) (by rw [hb7]; decide)), (fun h _ => by have := (R.m6 h).2.1; omega), R.z8_6, (fun _ => rfl)⟩⟩
    · have hrd := ready_at rfl hr
      clear hr
      simp [Region.binds] at hrd
      have h2 : b 2 = true := by simp [hrd]
      have e2 := R.c2 h2
      have h6 : b 6 = true := by simp [hrd]
      have e6 := R.c6 h6
      have hb8 : b 8 = false := by simp [hrd]
      clear hrd
      have hx := (R.m6 h6).2.2 hb8
      have hfz : ∀ q, w'.frozen? ⟨ga, q, none⟩ = false := fun q => by simp [World.frozen?, hx]
      have hz0 : w'.cell? ⟨ga, 0, none⟩ = some (.int .i64 0) := by rw [cell_of_row _ _ _ _ _ _ hx]; rfl
      have hz1 : w'.cell? ⟨ga, 1, none⟩ = some (.string { data := #[] }) := by rw [cell_of_row _ _ _ _ _ _ hx]; rfl
      refine wpOp_step rfl (fun K hK => ?_)
      go_simp
      refine hK _ _ ?_
      exact ⟨upd b 8 true, base, (upd (upd u 32 (vvV x)) 8 (.pointer (some ⟨ga, 0, none⟩))), ga, gb, rfl, rfl, ⟨R.c0, R.c1, (fun _ => rfl), R.c3, R.c4, R.c5, (fun _ => rfl), R.c7, ((R.cg.setCell (.inr (R.m6 h6).1) _).setCell (.inr (R.m6 h6).1) _), (fun _ => ⟨(R.m6 h6).1, by simpa using (R.m6 h6).2.1, fun h => by cases h⟩), (fun _ => set2 hx _ _), (fun h => ⟨(R.m7 h).1, by simpa using (R.m7 h).2.1, fun h5 => other2 ((R.m7 h).2.2 h5) (Ne.symm (R.d6_7 h6 h))⟩), (fun h => other2 (R.n7 h) (Ne.symm (R.d6_7 h6 (R.z9_7 h)))), R.d6_7, (fun _ => h6), R.z9_7⟩⟩
    · have hrd := ready_at rfl hr
      clear hr
      simp [Region.binds] at hrd
      have h5 : b 5 = true := by simp [hrd]
      have e5 := R.c5 h5
      have h7 : b 7 = true := by simp [hrd]
      have e7 := R.c7 h7
      have hb9 : b 9 = false := by simp [hrd]
      clear hrd
      have hx := (R.m7 h7).2.2 hb9
      have hfz : ∀ q, w'.frozen? ⟨gb, q, none⟩ = false := fun q => by simp [World.frozen?, hx]
      have hz0 : w'.cell? ⟨gb, 0, none⟩ = some (.int .i64 0) := by rw [cell_of_row _ _ _ _ _ _ hx]; rfl
      have hz1 : w'.cell? ⟨gb, 1, none⟩ = some (.string { data := #[] }) := by rw [cell_of_row _ _ _ _ _ _ hx]; rfl
      refine wpOp_step rfl (fun K hK => ?_)
      go_simp
      refine hK _ _ ?_
      exact ⟨upd b 9 true, base, (upd (upd u 35 (vvV y)) 9 (.pointer (some ⟨gb, 0, none⟩))), ga, gb, rfl, rfl, ⟨R.c0, R.c1, R.c2, R.c3, R.c4, (fun _ => rfl), R.c6, (fun _ => rfl), ((R.cg.setCell (.inr (R.m7 h7).1) _).setCell (.inr (R.m7 h7).1) _), (fun h => ⟨(R.m6 h).1, by simpa using (R.m6 h).2.1, fun h5 => other2 ((R.m6 h).2.2 h5) (R.d6_7 h h7)⟩), (fun h => other2 (R.n6 h) (R.d6_7 (R.z8_6 h) h7)), (fun _ => ⟨(R.m7 h7).1, by simpa using (R.m7 h7).2.1, fun h => by cases h⟩), (fun _ => set2 hx _ _), R.d6_7, R.z8_6, (fun _ => h7)⟩⟩
  obtain ⟨b, base, u, ga, gb, rfl, rfl, R⟩ := hI
  have hall := ready_all2 hr rfl (by kernel_rfl)
  have h6 : b 6 = true := Option.some.inj (hall 6 (by decide))
  have e6 := R.c6 h6
  have h7 : b 7 = true := Option.some.inj (hall 7 (by decide))
  have e7 := R.c7 h7
  have h8 : b 8 = true := Option.some.inj (hall 8 (by decide))
  have h9 : b 9 = true := Option.some.inj (hall 9 (by decide))
  have M6 := Lib.hid (R.n6 h8)
  have M7 := Lib.hid (R.n7 h9)
  have HCG := Lib.hid R.cg
  unfold FRSo6
  rw [e6, e7]
  clear e6 e7
  clear R hr hall h6 h7 h8 h9
  generalize w' = wG at HCG M6 M7 ⊢
  have kx : wG.cell? ⟨ga, 0, none⟩ = some (.int .i64 x.n) := by rw [cell_of_row _ _ _ _ _ _ M6.out]; rfl
  have ky : wG.cell? ⟨ga, 1, none⟩ = some (.string x.s) := by rw [cell_of_row _ _ _ _ _ _ M6.out]; rfl
  obtain ⟨wF, hwF⟩ : ∃ wF, wF = wG.alloc (.cells #[.int .i64 0, .bool true, .int .i64 x.n, .string x.s, .int .i64 x.n, .string x.s] 37) := ⟨_, rfl⟩
  have HWF := Lib.hid hwF
  have HGF := Lib.hid (show Chg [] wG wF by rw [hwF]; exact (Chg.refl [] wG).alloc _)
  have hF := heap_alloc_new wG (.cells #[.int .i64 0, .bool true, .int .i64 x.n, .string x.s, .int .i64 x.n, .string x.s] 37)
  rw [← hwF] at hF
  have HCLZ := Lib.hid (show ∀ wx, Chg [] wF wx → wx.cell? ⟨wG.heap.size, 0, none⟩ = some (.int .i64 0) ∧ wx.cell? ⟨wG.heap.size, 1, none⟩ = some (.bool true) ∧ wx.cell? ⟨wG.heap.size, 2, none⟩ = some (.int .i64 x.n) ∧ wx.cell? ⟨wG.heap.size, 3, none⟩ = some (.string x.s) ∧ wx.cell? ⟨wG.heap.size, 4, none⟩ = some (.int .i64 x.n) ∧ wx.cell? ⟨wG.heap.size, 5, none⟩ = some (.string x.s) ∧ wx.cell? ⟨gb, 0, none⟩ = some (.int .i64 y.n) ∧ wx.cell? ⟨gb, 1, none⟩ = some (.string y.s) ∧ wx.cell? ⟨ga, 0, none⟩ = some (.int .i64 x.n) ∧ wx.cell? ⟨ga, 1, none⟩ = some (.string x.s) from fun wx h => by
    have X0 := h.heap hF (by simp)
    have X1 := (HGF.out.trans h (by simp)).heap M7.out (by simp)
    have X2 := (HGF.out.trans h (by simp)).heap M6.out (by simp)
    obtain ⟨⟨a0, a1, a2, a3, a4, a5⟩, -⟩ := six_cells X0
    refine ⟨a0, a1, a2, a3, a4, a5, ?_, ?_, ?_, ?_⟩
    · rw [cell_of_row _ _ _ _ _ _ X1]; rfl
    · rw [cell_of_row _ _ _ _ _ _ X1]; rfl
    · rw [cell_of_row _ _ _ _ _ _ X2]; rfl
    · rw [cell_of_row _ _ _ _ _ _ X2]; rfl)
  have HCF := Lib.hid (HB.out.trans (HKA.out.trans (HCG.out.trans HGF.out (by simp)) (by simp)) (by simp))
  have HMM := fun (op : Int) wx => may17_any k ⟨0, true, x, x⟩ op y wx HZ1.out HZ1.out HZ2.out
  have hrng := cv_rng k x y
  have hself : x = y → cv k x y = 0 := fun e => by rw [e]; exact cv_self k y
  have hsame := fun h => cv_same hk4 HO1.out HO2.out h
  have hop : ∀ op, mayS k ⟨0, true, x, x⟩ op y = if op = 5 then false else mayB (cv k x y) op (cv k x y) := fun op => mayOne k x y op
  simp only [hop] at HMM
  have hne : cv k x y ≠ 0 → ((x.n == y.n) = false ∨ ((x.n == y.n) = true ∧ (x.s.toList == y.s.toList) = false)) := fun h => by
    have h2 := eqV_bool17 x y
    have h3 : x ≠ y := fun e => h (hself e)
    rw [decide_eq_false h3] at h2
    cases h4 : (x.n == y.n)
    · exact .inl rfl
    · rw [h4, Bool.true_and] at h2
      exact .inr ⟨rfl, h2⟩
  have heq : cv k x y = 0 → (x.n == y.n) = true ∧ (x.s.toList == y.s.toList) = true := fun h => by
    have h2 := eqV_bool17 x y
    rw [decide_eq_true (hsame h), Bool.and_eq_true] at h2
    exact h2
  obtain ⟨c, hc⟩ : ∃ c, c = cv k x y := ⟨_, rfl⟩
  rw [← hc] at hrng hne heq HMM
  clear hop hself hsame hc
  have h5 : (c = -1 ∧ (x.n == y.n) = false) ∨ (c = -1 ∧ (x.n == y.n) = true ∧ (x.s.toList == y.s.toList) = false) ∨ (c = 0 ∧ (x.n == y.n) = true ∧ (x.s.toList == y.s.toList) = true) ∨ (c = 1 ∧ (x.n == y.n) = false) ∨ (c = 1 ∧ (x.n == y.n) = true ∧ (x.s.toList == y.s.toList) = false) := by
    have hc3 : c = -1 ∨ c = 0 ∨ c = 1 := by omega
    rcases hc3 with h | h | h
    · rcases hne (by omega) with h1 | h1
      · exact .inl ⟨h, h1⟩
      · exact .inr (.inl ⟨h, h1⟩)
    · exact .inr (.inr (.inl ⟨h, heq h⟩))
    · rcases hne (by omega) with h1 | h1
      · exact .inr (.inr (.inr (.inl ⟨h, h1⟩)))
      · exact .inr (.inr (.inr (.inr ⟨h, h1⟩)))
  clear hne heq hrng hF hwF
  generalize hgf : wG.heap.size = gf at HCLZ
  have HGFE := Lib.hid hgf
  rcases h5 with ⟨rfl, E1⟩ | ⟨rfl, E1, E2⟩ | ⟨rfl, E1, E2⟩ | ⟨rfl, E1⟩ | ⟨rfl, E1, E2⟩
  · have HM0 := Lib.hid (show ∀ wx, Calls Try.prog 19 #[.int .i64 (k : Int), .agg #[.int .i64 0, .bool true, .int .i64 x.n, .string x.s, .int .i64 x.n, .string x.s], .int .i64 0, .agg #[.int .i64 y.n, .string y.s]] wx fun e w' => e = .returned (.bool true) ∧ Chg [] wx w' from fun wx => HMM 0 wx)
    have HM1 := Lib.hid (show ∀ wx, Calls Try.prog 19 #[.int .i64 (k : Int), .agg #[.int .i64 0, .bool true, .int .i64 x.n, .string x.s, .int .i64 x.n, .string x.s], .int .i64 1, .agg #[.int .i64 y.n, .string y.s]] wx fun e w' => e = .returned (.bool true) ∧ Chg [] wx w' from fun wx => HMM 1 wx)
    have HM2 := Lib.hid (show ∀ wx, Calls Try.prog 19 #[.int .i64 (k : Int), .agg #[.int .i64 0, .bool true, .int .i64 x.n, .string x.s, .int .i64 x.n, .string x.s], .int .i64 2, .agg #[.int .i64 y.n, .string y.s]] wx fun e w' => e = .returned (.bool false) ∧ Chg [] wx w' from fun wx => HMM 2 wx)
    have HM3 := Lib.hid (show ∀ wx, Calls Try.prog 19 #[.int .i64 (k : Int), .agg #[.int .i64 0, .bool true, .int .i64 x.n, .string x.s, .int .i64 x.n, .string x.s], .int .i64 3, .agg #[.int .i64 y.n, .string y.s]] wx fun e w' => e = .returned (.bool false) ∧ Chg [] wx w' from fun wx => HMM 3 wx)
    have HM4 := Lib.hid (show ∀ wx, Calls Try.prog 19 #[.int .i64 (k : Int), .agg #[.int .i64 0, .bool true, .int .i64 x.n, .string x.s, .int .i64 x.n, .string x.s], .int .i64 4, .agg #[.int .i64 y.n, .string y.s]] wx fun e w' => e = .returned (.bool false) ∧ Chg [] wx w' from fun wx => HMM 4 wx)
    have HM5 := Lib.hid (show ∀ wx, Calls Try.prog 19 #[.int .i64 (k : Int), .agg #[.int .i64 0, .bool true, .int .i64 x.n, .string x.s, .int .i64 x.n, .string x.s], .int .i64 5, .agg #[.int .i64 y.n, .string y.s]] wx fun e w' => e = .returned (.bool false) ∧ Chg [] wx w' from fun wx => HMM 5 wx)
    clear HMM
    go_wp2_with fail
    rw [← HWF.out]
    go_region_held3 (fun wx => wx.cell? ⟨gf, 0, none⟩ = some (.int .i64 0) ∧ wx.cell? ⟨gf, 1, none⟩ = some (.bool true) ∧ wx.cell? ⟨gf, 2, none⟩ = some (.int .i64 x.n) ∧ wx.cell? ⟨gf, 3, none⟩ = some (.string x.s) ∧ wx.cell? ⟨gf, 4, none⟩ = some (.int .i64 x.n) ∧ wx.cell? ⟨gf, 5, none⟩ = some (.string x.s) ∧ wx.cell? ⟨gb, 0, none⟩ = some (.int .i64 y.n) ∧ wx.cell? ⟨gb, 1, none⟩ = some (.string y.s)) (first | (obtain ⟨y0, y1, y2, y3, y4, y5, y6, y7, y8, y9⟩ := HCLZ.out _ (by with_reducible repeat (first | exact HW.out | exact Chg.refl _ _ | refine Chg.drew ?_)); exact ⟨y0, y1, y2, y3, y4, y5, y6, y7⟩)) (first
      | (go_simp; go_at_call 19; (with_reducible first | refine (HM0.out _).mono ?_ | refine (HM1.out _).mono ?_ | refine (HM2.out _).mono ?_ | refine (HM3.out _).mono ?_ | refine (HM4.out _).mono ?_ | refine (HM5.out _).mono ?_); rintro e w3 ⟨rfl, hk3⟩; have HW := Lib.hid (chg_via (by with_reducible repeat (first | exact HW.out | exact Chg.refl _ _ | refine Chg.drew ?_)) hk3 : Chg [] wF _); obtain ⟨y0, y1, y2, y3, y4, y5, y6, y7, y8, y9⟩ := HCLZ.out _ HW.out; clear hk3))
    all_goals
      go_wp2_with (first
        | (go_at_call 19; (with_reducible first | refine (HM0.out _).mono ?_ | refine (HM1.out _).mono ?_ | refine (HM2.out _).mono ?_ | refine (HM3.out _).mono ?_ | refine (HM4.out _).mono ?_ | refine (HM5.out _).mono ?_); rintro e w3 ⟨rfl, hk3⟩; have HW := Lib.hid (chg_via (by with_reducible repeat (first | exact HW.out | exact Chg.refl _ _ | refine Chg.drew ?_)) hk3 : Chg [] wF _); obtain ⟨y0, y1, y2, y3, y4, y5, y6, y7, y8, y9⟩ := HCLZ.out _ HW.out; clear hk3)
        | fail)
      go_ret
      exact ⟨rfl, (HCF.out.trans HW.out (by simp)).below (Nat.le_refl _) (by simp)⟩
  · have HM0 := Lib.hid (show ∀ wx, Calls Try.prog 19 #[.int .i64 (k : Int), .agg #[.int .i64 0, .bool true, .int .i64 x.n, .string x.s, .int .i64 x.n, .string x.s], .int .i64 0, .agg #[.int .i64 y.n, .string y.s]] wx fun e w' => e = .returned (.bool true) ∧ Chg [] wx w' from fun wx => HMM 0 wx)
    have HM1 := Lib.hid (show ∀ wx, Calls Try.prog 19 #[.int .i64 (k : Int), .agg #[.int .i64 0, .bool true, .int .i64 x.n, .string x.s, .int .i64 x.n, .string x.s], .int .i64 1, .agg #[.int .i64 y.n, .string y.s]] wx fun e w' => e = .returned (.bool true) ∧ Chg [] wx w' from fun wx => HMM 1 wx)
    have HM2 := Lib.hid (show ∀ wx, Calls Try.prog 19 #[.int .i64 (k : Int), .agg #[.int .i64 0, .bool true, .int .i64 x.n, .string x.s, .int .i64 x.n, .string x.s], .int .i64 2, .agg #[.int .i64 y.n, .string y.s]] wx fun e w' => e = .returned (.bool false) ∧ Chg [] wx w' from fun wx => HMM 2 wx)
    have HM3 := Lib.hid (show ∀ wx, Calls Try.prog 19 #[.int .i64 (k : Int), .agg #[.int .i64 0, .bool true, .int .i64 x.n, .string x.s, .int .i64 x.n, .string x.s], .int .i64 3, .agg #[.int .i64 y.n, .string y.s]] wx fun e w' => e = .returned (.bool false) ∧ Chg [] wx w' from fun wx => HMM 3 wx)
    have HM4 := Lib.hid (show ∀ wx, Calls Try.prog 19 #[.int .i64 (k : Int), .agg #[.int .i64 0, .bool true, .int .i64 x.n, .string x.s, .int .i64 x.n, .string x.s], .int .i64 4, .agg #[.int .i64 y.n, .string y.s]] wx fun e w' => e = .returned (.bool false) ∧ Chg [] wx w' from fun wx => HMM 4 wx)
    have HM5 := Lib.hid (show ∀ wx, Calls Try.prog 19 #[.int .i64 (k : Int), .agg #[.int .i64 0, .bool true, .int .i64 x.n, .string x.s, .int .i64 x.n, .string x.s], .int .i64 5, .agg #[.int .i64 y.n, .string y.s]] wx fun e w' => e = .returned (.bool false) ∧ Chg [] wx w' from fun wx => HMM 5 wx)
    clear HMM
    go_wp2_with fail
    rw [← HWF.out]
    go_region_held3 (fun wx => wx.cell? ⟨gf, 0, none⟩ = some (.int .i64 0) ∧ wx.cell? ⟨gf, 1, none⟩ = some (.bool true) ∧ wx.cell? ⟨gf, 2, none⟩ = some (.int .i64 x.n) ∧ wx.cell? ⟨gf, 3, none⟩ = some (.string x.s) ∧ wx.cell? ⟨gf, 4, none⟩ = some (.int .i64 x.n) ∧ wx.cell? ⟨gf, 5, none⟩ = some (.string x.s) ∧ wx.cell? ⟨gb, 0, none⟩ = some (.int .i64 y.n) ∧ wx.cell? ⟨gb, 1, none⟩ = some (.string y.s)) (first | (obtain ⟨y0, y1, y2, y3, y4, y5, y6, y7, y8, y9⟩ := HCLZ.out _ (by with_reducible repeat (first | exact HW.out | exact Chg.refl _ _ | refine Chg.drew ?_)); exact ⟨y0, y1, y2, y3, y4, y5, y6, y7⟩)) (first
      | (go_simp; go_at_call 19; (with_reducible first | refine (HM0.out _).mono ?_ | refine (HM1.out _).mono ?_ | refine (HM2.out _).mono ?_ | refine (HM3.out _).mono ?_ | refine (HM4.out _).mono ?_ | refine (HM5.out _).mono ?_); rintro e w3 ⟨rfl, hk3⟩; have HW := Lib.hid (chg_via (by with_reducible repeat (first | exact HW.out | exact Chg.refl _ _ | refine Chg.drew ?_)) hk3 : Chg [] wF _); obtain ⟨y0, y1, y2, y3, y4, y5, y6, y7, y8, y9⟩ := HCLZ.out _ HW.out; clear hk3))
    all_goals
      go_wp2_with (first
        | (go_at_call 19; (with_reducible first | refine (HM0.out _).mono ?_ | refine (HM1.out _).mono ?_ | refine (HM2.out _).mono ?_ | refine (HM3.out _).mono ?_ | refine (HM4.out _).mono ?_ | refine (HM5.out _).mono ?_); rintro e w3 ⟨rfl, hk3⟩; have HW := Lib.hid (chg_via (by with_reducible repeat (first | exact HW.out | exact Chg.refl _ _ | refine Chg.drew ?_)) hk3 : Chg [] wF _); obtain ⟨y0, y1, y2, y3, y4, y5, y6, y7, y8, y9⟩ := HCLZ.out _ HW.out; clear hk3)
        | fail)
      go_ret
      exact ⟨rfl, (HCF.out.trans HW.out (by simp)).below (Nat.le_refl _) (by simp)⟩
  · have HM0 := Lib.hid (show ∀ wx, Calls Try.prog 19 #[.int .i64 (k : Int), .agg #[.int .i64 0, .bool true, .int .i64 x.n, .string x.s, .int .i64 x.n, .string x.s], .int .i64 0, .agg #[.int .i64 y.n, .string y.s]] wx fun e w' => e = .returned (.bool false) ∧ Chg [] wx w' from fun wx => HMM 0 wx)
    have HM1 := Lib.hid (show ∀ wx, Calls Try.prog 19 #[.int .i64 (k : Int), .agg #[.int .i64 0, .bool true, .int .i64 x.n, .string x.s, .int .i64 x.n, .string x.s], .int .i64 1, .agg #[.int .i64 y.n, .string y.s]] wx fun e w' => e = .returned (.bool true) ∧ Chg [] wx w' from fun wx => HMM 1 wx)
    have HM2 := Lib.hid (show ∀ wx, Calls Try.prog 19 #[.int .i64 (k : Int), .agg #[.int .i64 0, .bool true, .int .i64 x.n, .string x.s, .int .i64 x.n, .string x.s], .int .i64 2, .agg #[.int .i64 y.n, .string y.s]] wx fun e w' => e = .returned (.bool true) ∧ Chg [] wx w' from fun wx => HMM 2 wx)
    have HM3 := Lib.hid (show ∀ wx, Calls Try.prog 19 #[.int .i64 (k : Int), .agg #[.int .i64 0, .bool true, .int .i64 x.n, .string x.s, .int .i64 x.n, .string x.s], .int .i64 3, .agg #[.int .i64 y.n, .string y.s]] wx fun e w' => e = .returned (.bool true) ∧ Chg [] wx w' from fun wx => HMM 3 wx)
    have HM4 := Lib.hid (show ∀ wx, Calls Try.prog 19 #[.int .i64 (k : Int), .agg #[.int .i64 0, .bool true, .int .i64 x.n, .string x.s, .int .i64 x.n, .string x.s], .int .i64 4, .agg #[.int .i64 y.n, .string y.s]] wx fun e w' => e = .returned (.bool false) ∧ Chg [] wx w' from fun wx => HMM 4 wx)
    have HM5 := Lib.hid (show ∀ wx, Calls Try.prog 19 #[.int .i64 (k : Int), .agg #[.int .i64 0, .bool true, .int .i64 x.n, .string x.s, .int .i64 x.n, .string x.s], .int .i64 5, .agg #[.int .i64 y.n, .string y.s]] wx fun e w' => e = .returned (.bool false) ∧ Chg [] wx w' from fun wx => HMM 5 wx)
    clear HMM
    go_wp2_with fail
    rw [← HWF.out]
    go_region_held3 (fun wx => wx.cell? ⟨gf, 0, none⟩ = some (.int .i64 0) ∧ wx.cell? ⟨gf, 1, none⟩ = some (.bool true) ∧ wx.cell? ⟨gf, 2, none⟩ = some (.int .i64 x.n) ∧ wx.cell? ⟨gf, 3, none⟩ = some (.string x.s) ∧ wx.cell? ⟨gf, 4, none⟩ = some (.int .i64 x.n) ∧ wx.cell? ⟨gf, 5, none⟩ = some (.string x.s) ∧ wx.cell? ⟨gb, 0, none⟩ = some (.int .i64 y.n) ∧ wx.cell? ⟨gb, 1, none⟩ = some (.string y.s)) (first | (obtain ⟨y0, y1, y2, y3, y4, y5, y6, y7, y8, y9⟩ := HCLZ.out _ (by with_reducible repeat (first | exact HW.out | exact Chg.refl _ _ | refine Chg.drew ?_)); exact ⟨y0, y1, y2, y3, y4, y5, y6, y7⟩)) (first
      | (go_simp; go_at_call 19; (with_reducible first | refine (HM0.out _).mono ?_ | refine (HM1.out _).mono ?_ | refine (HM2.out _).mono ?_ | refine (HM3.out _).mono ?_ | refine (HM4.out _).mono ?_ | refine (HM5.out _).mono ?_); rintro e w3 ⟨rfl, hk3⟩; have HW := Lib.hid (chg_via (by with_reducible repeat (first | exact HW.out | exact Chg.refl _ _ | refine Chg.drew ?_)) hk3 : Chg [] wF _); obtain ⟨y0, y1, y2, y3, y4, y5, y6, y7, y8, y9⟩ := HCLZ.out _ HW.out; clear hk3))
    all_goals
      go_wp2_with (first
        | (go_at_call 19; (with_reducible first | refine (HM0.out _).mono ?_ | refine (HM1.out _).mono ?_ | refine (HM2.out _).mono ?_ | refine (HM3.out _).mono ?_ | refine (HM4.out _).mono ?_ | refine (HM5.out _).mono ?_); rintro e w3 ⟨rfl, hk3⟩; have HW := Lib.hid (chg_via (by with_reducible repeat (first | exact HW.out | exact Chg.refl _ _ | refine Chg.drew ?_)) hk3 : Chg [] wF _); obtain ⟨y0, y1, y2, y3, y4, y5, y6, y7, y8, y9⟩ := HCLZ.out _ HW.out; clear hk3)
        | fail)
      go_ret
      exact ⟨rfl, (HCF.out.trans HW.out (by simp)).below (Nat.le_refl _) (by simp)⟩
  · have HM0 := Lib.hid (show ∀ wx, Calls Try.prog 19 #[.int .i64 (k : Int), .agg #[.int .i64 0, .bool true, .int .i64 x.n, .string x.s, .int .i64 x.n, .string x.s], .int .i64 0, .agg #[.int .i64 y.n, .string y.s]] wx fun e w' => e = .returned (.bool false) ∧ Chg [] wx w' from fun wx => HMM 0 wx)
    have HM1 := Lib.hid (show ∀ wx, Calls Try.prog 19 #[.int .i64 (k : Int), .agg #[.int .i64 0, .bool true, .int .i64 x.n, .string x.s, .int .i64 x.n, .string x.s], .int .i64 1, .agg #[.int .i64 y.n, .string y.s]] wx fun e w' => e = .returned (.bool false) ∧ Chg [] wx w' from fun wx => HMM 1 wx)
    have HM2 := Lib.hid (show ∀ wx, Calls Try.prog 19 #[.int .i64 (k : Int), .agg #[.int .i64 0, .bool true, .int .i64 x.n, .string x.s, .int .i64 x.n, .string x.s], .int .i64 2, .agg #[.int .i64 y.n, .string y.s]] wx fun e w' => e = .returned (.bool false) ∧ Chg [] wx w' from fun wx => HMM 2 wx)
    have HM3 := Lib.hid (show ∀ wx, Calls Try.prog 19 #[.int .i64 (k : Int), .agg #[.int .i64 0, .bool true, .int .i64 x.n, .string x.s, .int .i64 x.n, .string x.s], .int .i64 3, .agg #[.int .i64 y.n, .string y.s]] wx fun e w' => e = .returned (.bool true) ∧ Chg [] wx w' from fun wx => HMM 3 wx)
    have HM4 := Lib.hid (show ∀ wx, Calls Try.prog 19 #[.int .i64 (k : Int), .agg #[.int .i64 0, .bool true, .int .i64 x.n, .string x.s, .int .i64 x.n, .string x.s], .int .i64 4, .agg #[.int .i64 y.n, .string y.s]] wx fun e w' => e = .returned (.bool true) ∧ Chg [] wx w' from fun wx => HMM 4 wx)
    have HM5 := Lib.hid (show ∀ wx, Calls Try.prog 19 #[.int .i64 (k : Int), .agg #[.int .i64 0, .bool true, .int .i64 x.n, .string x.s, .int .i64 x.n, .string x.s], .int .i64 5, .agg #[.int .i64 y.n, .string y.s]] wx fun e w' => e = .returned (.bool false) ∧ Chg [] wx w' from fun wx => HMM 5 wx)
    clear HMM
    go_wp2_with fail
    rw [← HWF.out]
    go_region_held3 (fun wx => wx.cell? ⟨gf, 0, none⟩ = some (.int .i64 0) ∧ wx.cell? ⟨gf, 1, none⟩ = some (.bool true) ∧ wx.cell? ⟨gf, 2, none⟩ = some (.int .i64 x.n) ∧ wx.cell? ⟨gf, 3, none⟩ = some (.string x.s) ∧ wx.cell? ⟨gf, 4, none⟩ = some (.int .i64 x.n) ∧ wx.cell? ⟨gf, 5, none⟩ = some (.string x.s) ∧ wx.cell? ⟨gb, 0, none⟩ = some (.int .i64 y.n) ∧ wx.cell? ⟨gb, 1, none⟩ = some (.string y.s)) (first | (obtain ⟨y0, y1, y2, y3, y4, y5, y6, y7, y8, y9⟩ := HCLZ.out _ (by with_reducible repeat (first | exact HW.out | exact Chg.refl _ _ | refine Chg.drew ?_)); exact ⟨y0, y1, y2, y3, y4, y5, y6, y7⟩)) (first
      | (go_simp; go_at_call 19; (with_reducible first | refine (HM0.out _).mono ?_ | refine (HM1.out _).mono ?_ | refine (HM2.out _).mono ?_ | refine (HM3.out _).mono ?_ | refine (HM4.out _).mono ?_ | refine (HM5.out _).mono ?_); rintro e w3 ⟨rfl, hk3⟩; have HW := Lib.hid (chg_via (by with_reducible repeat (first | exact HW.out | exact Chg.refl _ _ | refine Chg.drew ?_)) hk3 : Chg [] wF _); obtain ⟨y0, y1, y2, y3, y4, y5, y6, y7, y8, y9⟩ := HCLZ.out _ HW.out; clear hk3))
    all_goals
      go_wp2_with (first
        | (go_at_call 19; (with_reducible first | refine (HM0.out _).mono ?_ | refine (HM1.out _).mono ?_ | refine (HM2.out _).mono ?_ | refine (HM3.out _).mono ?_ | refine (HM4.out _).mono ?_ | refine (HM5.out _).mono ?_); rintro e w3 ⟨rfl, hk3⟩; have HW := Lib.hid (chg_via (by with_reducible repeat (first | exact HW.out | exact Chg.refl _ _ | refine Chg.drew ?_)) hk3 : Chg [] wF _); obtain ⟨y0, y1, y2, y3, y4, y5, y6, y7, y8, y9⟩ := HCLZ.out _ HW.out; clear hk3)
        | fail)
      go_ret
      exact ⟨rfl, (HCF.out.trans HW.out (by simp)).below (Nat.le_refl _) (by simp)⟩
  · have HM0 := Lib.hid (show ∀ wx, Calls Try.prog 19 #[.int .i64 (k : Int), .agg #[.int .i64 0, .bool true, .int .i64 x.n, .string x.s, .int .i64 x.n, .string x.s], .int .i64 0, .agg #[.int .i64 y.n, .string y.s]] wx fun e w' => e = .returned (.bool false) ∧ Chg [] wx w' from fun wx => HMM 0 wx)
    have HM1 := Lib.hid (show ∀ wx, Calls Try.prog 19 #[.int .i64 (k : Int), .agg #[.int .i64 0, .bool true, .int .i64 x.n, .string x.s, .int .i64 x.n, .string x.s], .int .i64 1, .agg #[.int .i64 y.n, .string y.s]] wx fun e w' => e = .returned (.bool false) ∧ Chg [] wx w' from fun wx => HMM 1 wx)
    have HM2 := Lib.hid (show ∀ wx, Calls Try.prog 19 #[.int .i64 (k : Int), .agg #[.int .i64 0, .bool true, .int .i64 x.n, .string x.s, .int .i64 x.n, .string x.s], .int .i64 2, .agg #[.int .i64 y.n, .string y.s]] wx fun e w' => e = .returned (.bool false) ∧ Chg [] wx w' from fun wx => HMM 2 wx)
    have HM3 := Lib.hid (show ∀ wx, Calls Try.prog 19 #[.int .i64 (k : Int), .agg #[.int .i64 0, .bool true, .int .i64 x.n, .string x.s, .int .i64 x.n, .string x.s], .int .i64 3, .agg #[.int .i64 y.n, .string y.s]] wx fun e w' => e = .returned (.bool true) ∧ Chg [] wx w' from fun wx => HMM 3 wx)
    have HM4 := Lib.hid (show ∀ wx, Calls Try.prog 19 #[.int .i64 (k : Int), .agg #[.int .i64 0, .bool true, .int .i64 x.n, .string x.s, .int .i64 x.n, .string x.s], .int .i64 4, .agg #[.int .i64 y.n, .string y.s]] wx fun e w' => e = .returned (.bool true) ∧ Chg [] wx w' from fun wx => HMM 4 wx)
    have HM5 := Lib.hid (show ∀ wx, Calls Try.prog 19 #[.int .i64 (k : Int), .agg #[.int .i64 0, .bool true, .int .i64 x.n, .string x.s, .int .i64 x.n, .string x.s], .int .i64 5, .agg #[.int .i64 y.n, .string y.s]] wx fun e w' => e = .returned (.bool false) ∧ Chg [] wx w' from fun wx => HMM 5 wx)
    clear HMM
    go_wp2_with fail
    rw [← HWF.out]
    go_region_held3 (fun wx => wx.cell? ⟨gf, 0, none⟩ = some (.int .i64 0) ∧ wx.cell? ⟨gf, 1, none⟩ = some (.bool true) ∧ wx.cell? ⟨gf, 2, none⟩ = some (.int .i64 x.n) ∧ wx.cell? ⟨gf, 3, none⟩ = some (.string x.s) ∧ wx.cell? ⟨gf, 4, none⟩ = some (.int .i64 x.n) ∧ wx.cell? ⟨gf, 5, none⟩ = some (.string x.s) ∧ wx.cell? ⟨gb, 0, none⟩ = some (.int .i64 y.n) ∧ wx.cell? ⟨gb, 1, none⟩ = some (.string y.s)) (first | (obtain ⟨y0, y1, y2, y3, y4, y5, y6, y7, y8, y9⟩ := HCLZ.out _ (by with_reducible repeat (first | exact HW.out | exact Chg.refl _ _ | refine Chg.drew ?_)); exact ⟨y0, y1, y2, y3, y4, y5, y6, y7⟩)) (first
      | (go_simp; go_at_call 19; (with_reducible first | refine (HM0.out _).mono ?_ | refine (HM1.out _).mono ?_ | refine (HM2.out _).mono ?_ | refine (HM3.out _).mono ?_ | refine (HM4.out _).mono ?_ | refine (HM5.out _).mono ?_); rintro e w3 ⟨rfl, hk3⟩; have HW := Lib.hid (chg_via (by with_reducible repeat (first | exact HW.out | exact Chg.refl _ _ | refine Chg.drew ?_)) hk3 : Chg [] wF _); obtain ⟨y0, y1, y2, y3, y4, y5, y6, y7, y8, y9⟩ := HCLZ.out _ HW.out; clear hk3))
    all_goals
      go_wp2_with (first
        | (go_at_call 19; (with_reducible first | refine (HM0.out _).mono ?_ | refine (HM1.out _).mono ?_ | refine (HM2.out _).mono ?_ | refine (HM3.out _).mono ?_ | refine (HM4.out _).mono ?_ | refine (HM5.out _).mono ?_); rintro e w3 ⟨rfl, hk3⟩; have HW := Lib.hid (chg_via (by with_reducible repeat (first | exact HW.out | exact Chg.refl _ _ | refine Chg.drew ?_)) hk3 : Chg [] wF _); obtain ⟨y0, y1, y2, y3, y4, y5, y6, y7, y8, y9⟩ := HCLZ.out _ HW.out; clear hk3)
        | fail)
      go_ret
      exact ⟨rfl, (HCF.out.trans HW.out (by simp)).below (Nat.le_refl _) (by simp)⟩

end Go.Proofs.Ytgfjmbjpikcffaa
