/- stat: own, Join. -/
import Derived.Test.YtgfjmbjpikcffaaSo17
import Derived.Deep.RegionWith
namespace Go.Proofs.Ytgfjmbjpikcffaa
open Go.RowKit
set_option linter.unusedVariables false
set_option linter.unusedSimpArgs false

theorem at20 (w : World) (o p : Obj) : ((w.alloc o).alloc p).heap[w.heap.size]? = some o :=
  ((Chg.refl [] _).alloc p).heap (heap_alloc_new w o) (by simp)

set_option maxRecDepth 100000 in
set_option maxHeartbeats 4000000 in
theorem own17_any (s : St) (w : World) (hs : SmS s) :
    Calls Try.prog 20 #[stV s] w fun e w' => e = .returned (stV s) ∧ Chg [] w w' := by
  have HK1 := Lib.hid (fun wx => sclone_any s.a.s wx (Nat.le_trans hs.a (by decide)))
  have HK2 := Lib.hid (fun wx => sclone_any s.b.s wx (Nat.le_trans hs.b (by decide)))
  have hC : ∀ o p : Obj, Chg [] w (((w.alloc o).alloc p).drew) := fun o p => (((Chg.refl [] w).alloc o).alloc p).drew
  have HC := Lib.hid hC
  clear hs hC
  go_enter Try.func20, Try.ntmps20
  go_upto_region 1 with fail
  go_region_with (first
    | (go_at_call 27; (with_reducible first | refine (HK1.out _).mono ?_ | refine (HK2.out _).mono ?_); rintro e w1 ⟨rfl, hc⟩; (first | (have X1 := Lib.hid (hc.heap (at20 w _ _) (by simp)); have X2 := Lib.hid (hc.heap (new2 w _ _) (by simp)); have HC1 := Lib.hid ((HC.out _ _).trans hc (by simp)); obtain ⟨⟨p0, p1, p2, p3, p4, p5⟩, p6⟩ := six_cells X1.out) | (have Y1 := Lib.hid (hc.heap X1.out (by simp)); have Y2 := Lib.hid (hc.heap X2.out (by simp)); have HC2 := Lib.hid (HC1.out.trans hc (by simp)); obtain ⟨⟨p0, p1, p2, p3, p4, p5⟩, p6⟩ := six_cells Y1.out; obtain ⟨⟨q0, q1, q2, q3, q4, q5⟩, q6⟩ := six_cells Y2.out)); clear hc))
  all_goals go_wp2
  all_goals
    refine ret_stat rfl rfl rfl (set6 (other2 Y2.out (by simp)) _ _ _ _ _ _) ⟨rfl, ?_⟩
    exact (((((((HC2.out.setCell (.inr (by dsimp only; omega)) _).setCell (.inr (by dsimp only; omega)) _).setCell (.inr (by dsimp only; omega)) _).setCell (.inr (by dsimp only; omega)) _).setCell (.inr (by dsimp only; omega)) _).setCell (.inr (by dsimp only; omega)) _).setCell (.inr (by dsimp only; omega)) _).setCell (.inr (by dsimp only; omega)) _

theorem jn_small (k : Nat) {a b : St} (ha : SmS a) (hb : SmS b) : (jnS k a b).a.s.size ≤ 100 ∧ (jnS k a b).b.s.size ≤ 100 := by
  have h0 : v0.s.size ≤ 100 := by decide
  unfold jnS mnV mxV
  simp only
  constructor
  · (repeat' split) <;> first | exact ha.a | exact hb.a | exact h0
  · (repeat' split) <;> first | exact ha.b | exact hb.b | exact h0

theorem both17_any (k : Nat) (a b : St) (w : World) (ha : SmS a) (hb : SmS b) :
    Calls Try.prog 21 #[.int .i64 (k : Int), stV a, stV b] w fun e w' => e = .returned (stV (jnS k a b)) ∧ Chg [] w w' := by
  by_cases h : a.h = true ∧ b.h = true
  · exact both_two k a b w ha hb h.1 h.2
  · exact both_one k a b w ha hb h

set_option maxRecDepth 100000 in
set_option maxHeartbeats 4000000 in
theorem join17_any (k : Nat) (a b : St) (w : World) (ha : SmS a) (hb : SmS b) (hn : a.n + b.n ≤ 100000) :
    Calls Try.prog 13 #[.int .i64 (k : Int), stV a, stV b] w fun e w' => e = .returned (stV (jnS k a b)) ∧ Chg [] w w' := by
  have hj := jn_small k ha hb
  have HJ := Lib.hid (fun wx => both17_any k a b wx ha hb)
  have n1 := ha.n; have n2 := hb.n
  have HO := Lib.hid (fun wx => own17_any (jnS k a b) wx ⟨by show 0 ≤ a.n + b.n ∧ a.n + b.n ≤ 100000; omega, hj.1, hj.2⟩)
  have hC : ∀ o p q : Obj, Chg [] w ((((w.alloc o).alloc p).alloc q)) := fun o p q => (((Chg.refl [] w).alloc o).alloc p).alloc q
  have hn3 : ∀ o p q : Obj, (((w.alloc o).alloc p).alloc q).heap[w.heap.size + 2]? = some q := fun o p q => by
    have := heap_alloc_new ((w.alloc o).alloc p) q
    simpa using this
  have HC := Lib.hid hC; have HN3 := Lib.hid hn3
  generalize jnS k a b = j at HJ HO ⊢
  clear ha hb hn hj hC n1 n2 hn3
  go_enter Try.func13, Try.ntmps13
  go_wp2_with (first
    | (go_at_call 21; (with_reducible refine (HJ.out _).mono ?_); rintro e w1 ⟨rfl, hc⟩; have HC1 := Lib.hid ((HC.out _ _ _).trans hc (by simp)); have X1 := Lib.hid (hc.heap (HN3.out _ _ _) (by simp)); clear hc)
    | (go_at_call 20; (with_reducible refine (HO.out _).mono ?_); rintro e w2 ⟨rfl, hc⟩; have HC2 := Lib.hid (HC1.out.trans hc (by simp)); have X2 := Lib.hid (hc.heap X1.out (by simp)); obtain ⟨⟨q0, q1, q2, q3, q4, q5⟩, q6⟩ := six_cells X2.out; clear hc)
    | fail)
  refine ret_stat rfl rfl rfl (set6 X2.out _ _ _ _ _ _) ⟨rfl, ?_⟩
  exact (((((HC2.out.setCell (.inr (by dsimp only; omega)) _).setCell (.inr (by dsimp only; omega)) _).setCell (.inr (by dsimp only; omega)) _).setCell (.inr (by dsimp only; omega)) _).setCell (.inr (by dsimp only; omega)) _).setCell (.inr (by dsimp only; omega)) _

end Go.Proofs.Ytgfjmbjpikcffaa
