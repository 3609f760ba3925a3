/- The reference's Join. -/
import Derived.Test.YtgfjmbjpikcffaaSo17
import Derived.Test.YtgfjmbjpikcffaaRc17
namespace Go.Proofs.Ytgfjmbjpikcffaa
open Go.RowKit
set_option linter.unusedVariables false
set_option linter.unusedSimpArgs false

theorem at30 (w : World) (o p q : Obj) : (((w.alloc o).alloc p).alloc q).heap[w.heap.size]? = some o :=
  (((Chg.refl [] _).alloc p).alloc q).heap (heap_alloc_new w o) (by simp)
theorem at31 (w : World) (o p q : Obj) : (((w.alloc o).alloc p).alloc q).heap[w.heap.size + 1]? = some p := by
  have := heap_alloc_new (w.alloc o) p
  exact ((Chg.refl [] _).alloc q).heap (by simpa using this) (by simp)
theorem at32 (w : World) (o p q : Obj) : (((w.alloc o).alloc p).alloc q).heap[w.heap.size + 2]? = some q := by
  have := heap_alloc_new ((w.alloc o).alloc p) q
  simpa using this
theorem other1 {W : World} {g k i : Nat} {x : Value} {o : Obj} (h : W.heap[k]? = some o) (hne : k ≠ g) : (W.setCell ⟨g, i, none⟩ x).heap[k]? = some o := by
  rw [heap_setCell_other _ _ _ _ (by simpa using hne)]
  exact h

set_option maxRecDepth 100000 in
set_option maxHeartbeats 4000000 in
theorem rjoin17_any (k : Nat) (a b : St) (w : World) (ha : SmS a) (hb : SmS b) (hb0 : b.h = false → b.a = v0 ∧ b.b = v0) :
    Calls Try.prog 22 #[.int .i64 (k : Int), stV a, stV b] w fun e w' => e = .returned (stV (jnS k a b)) ∧ Chg [] w w' := by
  obtain ⟨an, ah, av, aw⟩ := a
  obtain ⟨bn, bh, bv, bw⟩ := b
  have n1 := ha.n; have n2 := hb.n
  simp only at n1 n2 hb0
  have hC : ∀ o p q : Obj, Chg [] w (((w.alloc o).alloc p).alloc q) := fun o p q => (((Chg.refl [] w).alloc o).alloc p).alloc q
  have HC := Lib.hid hC
  have HK1 := Lib.hid (fun wx => rcompare_any k bv av wx (Nat.le_trans hb.a (by decide)) (Nat.le_trans ha.a (by decide)))
  have HK2 := Lib.hid (fun wx => rcompare_any k bw aw wx (Nat.le_trans hb.b (by decide)) (Nat.le_trans ha.b (by decide)))
  clear ha hb hC
  cases ah
  · have E : jnS k ⟨an, false, av, aw⟩ ⟨bn, bh, bv, bw⟩ = ⟨an + bn, bh, bv, bw⟩ := by
      cases bh
      · obtain ⟨rfl, rfl⟩ := hb0 rfl; rfl
      · rfl
    rw [E]
    clear E hb0
    go_enter Try.func22, Try.ntmps22
    go_wp2
    exact ret_stat rfl rfl rfl (at32 w _ _ _) ⟨rfl, HC.out _ _ _⟩
  · cases bh
    · clear hb0
      go_enter Try.func22, Try.ntmps22
      go_wp2
      exact ret_stat rfl rfl rfl (at32 w _ _ _) ⟨rfl, HC.out _ _ _⟩
    · have E : jnS k ⟨an, true, av, aw⟩ ⟨bn, true, bv, bw⟩ = ⟨an + bn, true, mnV k av bv, mxV k aw bw⟩ := rfl
      have hmn : mnV k av bv = if cv k bv av < 0 then bv else av := rfl
      have hmx : mxV k aw bw = if 0 < cv k bw aw then bw else aw := rfl
      rw [E]
      obtain ⟨c1, hc1⟩ : ∃ c, c = cv k bv av := ⟨_, rfl⟩
      obtain ⟨c2, hc2⟩ : ∃ c, c = cv k bw aw := ⟨_, rfl⟩
      rw [← hc1] at hmn HK1
      rw [← hc2] at hmx HK2
      clear E hc1 hc2 hb0
      by_cases x1 : c1 < 0 <;> by_cases x2 : 0 < c2
      all_goals
        first
          | (rw [if_pos x1] at hmn; have d1 : decide (c1 < 0) = true := decide_eq_true x1)
          | (rw [if_neg x1] at hmn; have d1 : decide (c1 < 0) = false := decide_eq_false x1)
        first
          | (rw [if_pos x2] at hmx; have d2 : decide (0 < c2) = true := decide_eq_true x2)
          | (rw [if_neg x2] at hmx; have d2 : decide (0 < c2) = false := decide_eq_false x2)
        rw [hmn, hmx]
        have K1 := Lib.hid x1; have K2 := Lib.hid x2
        clear hmn hmx x1 x2
        go_enter Try.func22, Try.ntmps22
        go_wp2_with (first
          | (go_at_call 17; (with_reducible refine (HK1.out _).mono ?_); rintro e w1 ⟨rfl, hc⟩; have HC1 := Lib.hid ((HC.out _ _ _).trans hc (by simp)); have X0 := Lib.hid (hc.heap (at30 w _ _ _) (by simp)); have X1 := Lib.hid (hc.heap (at31 w _ _ _) (by simp)); have X2 := Lib.hid (hc.heap (at32 w _ _ _) (by simp)); obtain ⟨⟨p0, p1, p2, p3, p4, p5⟩, p6⟩ := six_cells X1.out; obtain ⟨⟨q0, q1, q2, q3, q4, q5⟩, q6⟩ := six_cells X0.out; clear hc)
          | (go_at_call 17; (with_reducible refine (HK2.out _).mono ?_); rintro e w2 ⟨rfl, hc⟩; (first | (have _ : ¬ c1 < 0 := (by have := K1.out; omega); have Y1 := Lib.hid (hc.heap X1.out (by simp)); have Y2 := Lib.hid (hc.heap X2.out (by simp)); have Y3 := Lib.hid (hc.heap X0.out (by simp)); have HC2 := Lib.hid (HC1.out.trans hc (by simp))) | (have _ : c1 < 0 := (by have := K1.out; omega); have Y1 := Lib.hid (hc.heap (other2 X1.out (by simp)) (by simp)); have Y2 := Lib.hid (hc.heap (other2 X2.out (by simp)) (by simp)); have Y3 := Lib.hid (hc.heap (set23 X0.out _ _) (by simp)); have HC2 := Lib.hid (((HC1.out.setCell (.inr (by dsimp only; omega)) _).setCell (.inr (by dsimp only; omega)) _).trans hc (by simp)))); obtain ⟨⟨s0, s1, s2, s3, s4, s5⟩, s6⟩ := six_cells Y1.out; obtain ⟨⟨r0, r1, r2, r3, r4, r5⟩, r6⟩ := six_cells Y3.out; obtain ⟨⟨t0, t1, t2, t3, t4, t5⟩, t6⟩ := six_cells Y2.out; clear hc)
          | fail)
        all_goals
          first
            | (have _ : ¬ 0 < c2 := (by have := K2.out; omega); refine ret_stat rfl rfl rfl (set6 (other1 Y2.out (by simp)) _ _ _ _ _ _) ⟨rfl, ?_⟩; exact ((((((HC2.out.setCell (.inr (by dsimp only; omega)) _).setCell (.inr (by dsimp only; omega)) _).setCell (.inr (by dsimp only; omega)) _).setCell (.inr (by dsimp only; omega)) _).setCell (.inr (by dsimp only; omega)) _).setCell (.inr (by dsimp only; omega)) _).setCell (.inr (by dsimp only; omega)) _)
            | (have _ : 0 < c2 := (by have := K2.out; omega); refine ret_stat rfl rfl rfl (set6 (other1 (other2 Y2.out (by simp)) (by simp)) _ _ _ _ _ _) ⟨rfl, ?_⟩; exact ((((((((HC2.out.setCell (.inr (by dsimp only; omega)) _).setCell (.inr (by dsimp only; omega)) _).setCell (.inr (by dsimp only; omega)) _).setCell (.inr (by dsimp only; omega)) _).setCell (.inr (by dsimp only; omega)) _).setCell (.inr (by dsimp only; omega)) _).setCell (.inr (by dsimp only; omega)) _).setCell (.inr (by dsimp only; omega)) _).setCell (.inr (by dsimp only; omega)) _)

end Go.Proofs.Ytgfjmbjpikcffaa
