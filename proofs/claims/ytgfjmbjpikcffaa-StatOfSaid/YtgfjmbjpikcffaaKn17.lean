/- The statements' known of stage 17; May of one value. -/
import Derived.Test.YtgfjmbjpikcffaaOf17
import Derived.Test.YtgfjmbjpikcffaaMy17
import Derived.Test.YtgfjmbjpikcffaaWi17
namespace Go.Proofs.Ytgfjmbjpikcffaa
open Go.RowKit
set_option linter.unusedVariables false
set_option linter.unusedSimpArgs false

theorem SeenK.none17 {α : Type} {enc : α → List Value} {k : Nat} (w : World) : SeenK enc k w (.slice none 0 0) [] := ⟨none, 0, rfl, by simp, by decide, fun h => absurd h (by simp)⟩

set_option maxRecDepth 100000 in
set_option maxHeartbeats 1000000 in
theorem known17_any (w : World) : Calls Try.prog 8 #[] w fun x w' => x = .returned (.bool true) ∧ Chg [] w w' := by
  go_enter Try.func8, Try.ntmps8
  go_wp2_with fail
  refine (of17_any 3 (by decide) 0 0 0 _ _ _ [] [] _ (SeenK.none17 _) (SeenK.none17 _) (by decide) (by simp) rfl).mono ?_
  rintro e w2 ⟨s, rfl, hc, hs⟩
  have hz : s = ⟨0, false, v0, v0⟩ := hs.eq (by decide) (Is.zero 3) (by simp) (by simp)
  subst hz
  have HC := Lib.hid hc
  clear hc hs
  go_wp2_with fail
  refine (same17_any ⟨0, false, v0, v0⟩ _).mono ?_
  rintro e w3 ⟨rfl, hc⟩
  have HC2 := Lib.hid (HC.out.trans hc (by simp))
  clear hc
  go_wp2
  go_ret
  exact ⟨rfl, HC2.out⟩

theorem within17 (a n : Int) (N : Nat) (wx : World) (hN : (N : Int) = n) (hn : 1 ≤ N) (hn2 : N ≤ 4611686018427387904) (h : (Lit.int .i64 a).wf = true) :
    Calls Try.prog 9 #[.int .i64 a, .int .i64 n] wx fun e w' => e = .returned (.int .i64 (((a % (N : Int)).toNat : Nat) : Int)) ∧ wx = w' := by
  rw [← hN]
  exact within17_nat a N wx hn hn2 h

theorem at20w (w : World) (o p : Obj) : ((w.alloc o).alloc p).heap[w.heap.size]? = some o :=
  ((Chg.refl [] _).alloc p).heap (heap_alloc_new w o) (by simp)

theorem chg_via {a b c : World} (h1 : Chg [] a b) (h2 : Chg [] b c) : Chg [] a c := h1.trans h2 (by simp)

/-- May of one value alone. -/
theorem mayOne (k : Nat) (x y : V) (op : Int) : mayS k ⟨0, true, x, x⟩ op y = if op = 5 then false else mayB (cv k x y) op (cv k x y) := by
  unfold mayS
  split
  · simp
  · simp

end Go.Proofs.Ytgfjmbjpikcffaa
