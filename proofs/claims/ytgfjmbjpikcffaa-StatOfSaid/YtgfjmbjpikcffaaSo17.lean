/- stat: both, own, Join. -/
import Derived.Test.YtgfjmbjpikcffaaSt
import Derived.Test.YtgfjmbjpikcffaaScl
import Derived.Deep.RegionLaw
namespace Go.Proofs.Ytgfjmbjpikcffaa
open Go.RowKit
set_option linter.unusedVariables false
set_option linter.unusedSimpArgs false

theorem ret_stat {fn : Func} {k : Nat} (hres : fn.results = #[.cell k 37]) {post : Ending → World → Prop} {a : Act} {W : World} {gr : Nat} {p q r s t u : Value} (h4 : a.tmps.getD k undef = .pointer (some ⟨gr, 0, none⟩)) (hd : a.defers = []) (hh : W.heap[gr]? = some (.cells #[p, q, r, s, t, u] 37 (0, 0))) (hp : post (.returned (.agg #[p, q, r, s, t, u])) W) : bodyPost Try.prog fn post .ret a W :=
  bodyPost_ret (results_cell_row hres a.tmps W gr _ _ _ _ h4 hh Try.underlying37 rfl (by kernel_rfl)) hd hp

theorem at43 (w : World) (o p q r : Obj) : ((((w.alloc o).alloc p).alloc q).alloc r).heap[w.heap.size + 3]? = some r := by
  have := heap_alloc_new (((w.alloc o).alloc p).alloc q) r
  simpa using this
theorem at42 (w : World) (o p q r : Obj) : ((((w.alloc o).alloc p).alloc q).alloc r).heap[w.heap.size + 2]? = some q := by
  have := heap_alloc_new ((w.alloc o).alloc p) q
  exact ((Chg.refl [] _).alloc r).heap (by simpa using this) (by simp)
theorem at41 (w : World) (o p q r : Obj) : ((((w.alloc o).alloc p).alloc q).alloc r).heap[w.heap.size + 1]? = some p := by
  have := heap_alloc_new (w.alloc o) p
  exact (((Chg.refl [] _).alloc q).alloc r).heap (by simpa using this) (by simp)
theorem at40 (w : World) (o p q r : Obj) : ((((w.alloc o).alloc p).alloc q).alloc r).heap[w.heap.size]? = some o :=
  ((((Chg.refl [] _).alloc p).alloc q).alloc r).heap (heap_alloc_new w o) (by simp)

set_option maxRecDepth 100000 in
theorem both_one (k : Nat) (a b : St) (w : World) (ha : SmS a) (hb : SmS b) (h : ¬ (a.h = true ∧ b.h = true)) :
    Calls Try.prog 21 #[.int .i64 (k : Int), stV a, stV b] w fun e w' => e = .returned (stV (jnS k a b)) ∧ Chg [] w w' := by
  obtain ⟨an, ah, av, aw⟩ := a
  obtain ⟨bn, bh, bv, bw⟩ := b
  have n1 := ha.n; have n2 := hb.n
  simp only at n1 n2 h
  have hC : ∀ o p q r : Obj, Chg [] w ((((w.alloc o).alloc p).alloc q).alloc r).drew := fun o p q r => (((((Chg.refl [] w).alloc o).alloc p).alloc q).alloc r).drew
  have hC0 : ∀ o p q r : Obj, Chg [] w ((((w.alloc o).alloc p).alloc q).alloc r) := fun o p q r => (((((Chg.refl [] w).alloc o).alloc p).alloc q).alloc r)
  have HC := Lib.hid hC; have HC0 := Lib.hid hC0
  clear ha hb hC hC0
  cases ah <;> cases bh
  · clear h
    go_enter Try.func21, Try.ntmps21
    go_wp2
    exact ret_stat rfl rfl rfl (at42 w _ _ _ _) ⟨rfl, HC0.out _ _ _ _⟩
  · clear h
    go_enter Try.func21, Try.ntmps21
    go_upto_region 11 with fail
    go_region
    go_wp2
    exact ret_stat rfl rfl rfl (at42 w _ _ _ _) ⟨rfl, HC.out _ _ _ _⟩
  · clear h
    go_enter Try.func21, Try.ntmps21
    go_upto_region 9 with fail
    go_region
    go_wp2
    exact ret_stat rfl rfl rfl (at42 w _ _ _ _) ⟨rfl, HC.out _ _ _ _⟩
  · exact absurd ⟨rfl, rfl⟩ h

/-- The cells of a row of six. -/
theorem six_cells {W : World} {g : Nat} {T : TypeId} {p q r s t u : Value} (h : W.heap[g]? = some (.cells #[p, q, r, s, t, u] T (0, 0))) :
    (W.cell? ⟨g, 0, none⟩ = some p ∧ W.cell? ⟨g, 1, none⟩ = some q ∧ W.cell? ⟨g, 2, none⟩ = some r ∧ W.cell? ⟨g, 3, none⟩ = some s ∧ W.cell? ⟨g, 4, none⟩ = some t ∧ W.cell? ⟨g, 5, none⟩ = some u) ∧ ∀ k, W.frozen? ⟨g, k, none⟩ = false := by
  refine ⟨⟨?_, ?_, ?_, ?_, ?_, ?_⟩, fun k => by simp [World.frozen?, h]⟩ <;> (rw [cell_of_row _ _ _ _ _ _ h]; rfl)

theorem other2 {W : World} {g k i j : Nat} {x y : Value} {o : Obj} (h : W.heap[k]? = some o) (hne : k ≠ g) : ((W.setCell ⟨g, i, none⟩ x).setCell ⟨g, j, none⟩ y).heap[k]? = some o := by
  rw [heap_setCell_other _ _ _ _ (by simpa using hne), heap_setCell_other _ _ _ _ (by simpa using hne)]
  exact h
theorem set23 {W : World} {g : Nat} {T : TypeId} {p q r s t u : Value} (h : W.heap[g]? = some (.cells #[p, q, r, s, t, u] T (0, 0))) (x y : Value) : ((W.setCell ⟨g, 2, none⟩ x).setCell ⟨g, 3, none⟩ y).heap[g]? = some (.cells #[p, q, x, y, t, u] T (0, 0)) := by
  rw [heap_set (heap_set h x) y]; rfl
theorem set45 {W : World} {g : Nat} {T : TypeId} {p q r s t u : Value} (h : W.heap[g]? = some (.cells #[p, q, r, s, t, u] T (0, 0))) (x y : Value) : ((W.setCell ⟨g, 4, none⟩ x).setCell ⟨g, 5, none⟩ y).heap[g]? = some (.cells #[p, q, r, s, x, y] T (0, 0)) := by
  rw [heap_set (heap_set h x) y]; rfl
theorem set6 {W : World} {g : Nat} {T : TypeId} {a b c d e f : Value} (h : W.heap[g]? = some (.cells #[a, b, c, d, e, f] T (0, 0))) (p q r s t u : Value) : ((((((W.setCell ⟨g, 0, none⟩ p).setCell ⟨g, 1, none⟩ q).setCell ⟨g, 2, none⟩ r).setCell ⟨g, 3, none⟩ s).setCell ⟨g, 4, none⟩ t).setCell ⟨g, 5, none⟩ u).heap[g]? = some (.cells #[p, q, r, s, t, u] T (0, 0)) := by
  rw [heap_set (heap_set (heap_set (heap_set (heap_set (heap_set h p) q) r) s) t) u]; rfl

set_option maxRecDepth 100000 in
set_option maxHeartbeats 4000000 in
theorem both_two (k : Nat) (a b : St) (w : World) (ha : SmS a) (hb : SmS b) (h1 : a.h = true) (h2 : b.h = true) :
    Calls Try.prog 21 #[.int .i64 (k : Int), stV a, stV b] w fun e w' => e = .returned (stV (jnS k a b)) ∧ Chg [] w w' := by
  obtain ⟨an, ah, av, aw⟩ := a
  obtain ⟨bn, bh, bv, bw⟩ := b
  simp only at h1 h2
  subst h1 h2
  have n1 := ha.n; have n2 := hb.n
  simp only at n1 n2
  have hC : ∀ o p q r : Obj, Chg [] w ((((w.alloc o).alloc p).alloc q).alloc r).drew := fun o p q r => (((((Chg.refl [] w).alloc o).alloc p).alloc q).alloc r).drew
  have HC := Lib.hid hC
  have HK1 := Lib.hid (fun wx => compare17_any k bv av wx (Nat.le_trans hb.a (by decide)) (Nat.le_trans ha.a (by decide)))
  have HK2 := Lib.hid (fun wx => compare17_any k bw aw wx (Nat.le_trans hb.b (by decide)) (Nat.le_trans ha.b (by decide)))
  have E : jnS k ⟨an, true, av, aw⟩ ⟨bn, true, bv, bw⟩ = ⟨an + bn, true, mnV k av bv, mxV k aw bw⟩ := rfl
  have hmn : mnV k av bv = if cv k bv av < 0 then bv else av := rfl
  have hmx : mxV k aw bw = if 0 < cv k bw aw then bw else aw := rfl
  rw [E]
  obtain ⟨c1, hc1⟩ : ∃ c, c = cv k bv av := ⟨_, rfl⟩
  obtain ⟨c2, hc2⟩ : ∃ c, c = cv k bw aw := ⟨_, rfl⟩
  rw [← hc1] at hmn HK1
  rw [← hc2] at hmx HK2
  clear ha hb hC E hc1 hc2
  by_cases x1 : c1 < 0 <;> by_cases x2 : 0 < c2
  all_goals
    first
      | (rw [if_pos x1] at hmn; have d1 : decide (c1 < 0) = true := decide_eq_true x1)
      | (rw [if_neg x1] at hmn; have d1 : decide (c1 < 0) = false := decide_eq_false x1)
    first
      | (rw [if_pos x2] at hmx; have d2 : decide (0 < c2) = true := decide_eq_true x2)
      | (rw [if_neg x2] at hmx; have d2 : decide (0 < c2) = false := decide_eq_false x2)
    rw [hmn, hmx]
    have K1 := Lib.hid x1; have K2 := Lib.hid x2
    clear hmn hmx x1 x2
    go_enter Try.func21, Try.ntmps21
    go_upto_region 3 with fail
    go_region
    go_wp2_with (first
      | (go_at_call 26; (with_reducible refine (HK1.out _).mono ?_); rintro e w1 ⟨rfl, hc⟩; have HC1 := Lib.hid ((HC.out _ _ _ _).trans hc (by simp)); have X1 := Lib.hid (hc.heap (at41 w _ _ _ _) (by simp)); have X2 := Lib.hid (hc.heap (at42 w _ _ _ _) (by simp)); have X3 := Lib.hid (hc.heap (at43 w _ _ _ _) (by simp)); obtain ⟨⟨p0, p1, p2, p3, p4, p5⟩, p6⟩ := six_cells X1.out; obtain ⟨⟨q0, q1, q2, q3, q4, q5⟩, q6⟩ := six_cells X3.out; clear hc)
      | (go_at_call 26; (with_reducible refine (HK2.out _).mono ?_); rintro e w2 ⟨rfl, hc⟩; (first | (have _ : ¬ c1 < 0 := (by have := K1.out; omega); have Y1 := Lib.hid (hc.heap X1.out (by simp)); have Y2 := Lib.hid (hc.heap X2.out (by simp)); have Y3 := Lib.hid (hc.heap X3.out (by simp)); have HC2 := Lib.hid (HC1.out.trans hc (by simp))) | (have _ : c1 < 0 := (by have := K1.out; omega); have Y1 := Lib.hid (hc.heap (other2 X1.out (by simp)) (by simp)); have Y2 := Lib.hid (hc.heap (other2 X2.out (by simp)) (by simp)); have Y3 := Lib.hid (hc.heap (set23 X3.out _ _) (by simp)); have HC2 := Lib.hid (((HC1.out.setCell (.inr (by dsimp only; omega)) _).setCell (.inr (by dsimp only; omega)) _).trans hc (by simp)))); obtain ⟨⟨s0, s1, s2, s3, s4, s5⟩, s6⟩ := six_cells Y1.out; obtain ⟨⟨r0, r1, r2, r3, r4, r5⟩, r6⟩ := six_cells Y3.out; obtain ⟨⟨t0, t1, t2, t3, t4, t5⟩, t6⟩ := six_cells Y2.out; clear hc)
      | fail)
    all_goals
      first
        | (have _ : ¬ 0 < c2 := (by have := K2.out; omega); refine ret_stat rfl rfl rfl (set6 Y2.out _ _ _ _ _ _) ⟨rfl, ?_⟩; exact (((((HC2.out.setCell (.inr (by dsimp only; omega)) _).setCell (.inr (by dsimp only; omega)) _).setCell (.inr (by dsimp only; omega)) _).setCell (.inr (by dsimp only; omega)) _).setCell (.inr (by dsimp only; omega)) _).setCell (.inr (by dsimp only; omega)) _)
        | (have _ : 0 < c2 := (by have := K2.out; omega); refine ret_stat rfl rfl rfl (set6 (other2 Y2.out (by simp)) _ _ _ _ _ _) ⟨rfl, ?_⟩; exact (((((((HC2.out.setCell (.inr (by dsimp only; omega)) _).setCell (.inr (by dsimp only; omega)) _).setCell (.inr (by dsimp only; omega)) _).setCell (.inr (by dsimp only; omega)) _).setCell (.inr (by dsimp only; omega)) _).setCell (.inr (by dsimp only; omega)) _).setCell (.inr (by dsimp only; omega)) _).setCell (.inr (by dsimp only; omega)) _)

end Go.Proofs.Ytgfjmbjpikcffaa
