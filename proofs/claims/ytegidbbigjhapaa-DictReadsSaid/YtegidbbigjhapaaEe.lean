/- The statements' known of stage 13. -/
import Derived.Test.YtegidbbigjhapaaEd
import Derived.Test.YtegidbbigjhapaaA1
namespace Go.Proofs.Ytegidbbigjhapaa
open Go.RowKit
set_option linter.unusedVariables false
set_option linter.unusedSimpArgs false

def tA : ByteArray := { data := #[97] }
def tB : ByteArray := { data := #[98] }
theorem known_bld : bldL [⟨0, tA⟩, ⟨0, tB⟩, ⟨0, tA⟩] 5 = ([⟨0, tA⟩, ⟨0, tB⟩], [0, 1, 0], true) := by decide +kernel

set_option maxRecDepth 100000 in
set_option maxHeartbeats 1000000 in
theorem known13_any (w : World) : Calls Try.prog 10 #[] w fun x w' => x = .returned (.bool true) ∧ Chg [] w w' := by
  go_enter Try.func10, Try.ntmps10
  go_wp2_with fail
  refine (build_any 4 _ [⟨0, tA⟩, ⟨0, tB⟩, ⟨0, tA⟩] 5 _ (SeenK.lit V.cs_len (heap_alloc_new w _) [⟨0, tA⟩, ⟨0, tB⟩, ⟨0, tA⟩] 3 rfl rfl (by decide)) (by decide) rfl).mono ?_
  rintro e w2 ⟨wv, av, rfl, hc, ho, ha⟩
  rw [known_bld] at ho ha
  rw [known_bld]
  obtain ⟨wo, wc, rfl⟩ := own_shape ho
  obtain ⟨ao, ac, rfl⟩ := own_shape ha
  obtain ⟨g, rfl⟩ := own_some ha (by decide)
  have hc2 := own_cell ha rfl 2 (by decide)
  have HC := Lib.hid (((Chg.refl [] w).alloc (.cells (V.cs ⟨0, tA⟩ ++ V.cs ⟨0, tB⟩ ++ V.cs ⟨0, tA⟩).toArray 28)).trans hc (by simp))
  simp only [List.length_cons, List.length_nil] at *
  clear hc ho ha
  go_wp2
  go_ret
  exact ⟨rfl, HC.out⟩

theorem within13 (a n : Int) (N : Nat) (wx : World) (hN : (N : Int) = n) (hn : 1 ≤ N) (hn2 : N ≤ 4611686018427387904) (h : (Lit.int .i64 a).wf = true) :
    Calls Try.prog 11 #[.int .i64 a, .int .i64 n] wx fun e w' => e = .returned (.int .i64 (((a % (N : Int)).toNat : Nat) : Int)) ∧ wx = w' := by
  rw [← hN]
  exact within13_nat a N wx hn hn2 h

/-- Build, by what is seen of its answers. -/
theorem bld13 (kind : Int) (lv : Value) (L W : List V) (A : List Nat) (b : Bool) (most : Int) (wx : World) (hS : SeenV wx lv L) (hl : L.length ≤ 100000) (hm : (Lit.int .i64 most).wf = true) (hb : bldL L most = (W, A, b)) :
    Calls Try.prog 13 #[.int .i64 kind, lv, .int .i64 most] wx fun e w' => ∃ wo wc tp tc, e = .returned (.tuple #[.slice wo W.length wc, .slice tp A.length tc, .bool b]) ∧ Chg [] wx w' ∧ SeenV w' (.slice wo W.length wc) W ∧ w'.ownsRow wx.heap.size 3 1 (.slice tp A.length tc) A.length (nv .i64 A) := by
  refine (build_any kind lv L most wx hS hl hm).mono ?_
  rintro e w' ⟨wv, av, rfl, hc, ho, ha⟩
  rw [hb] at ho ha ⊢
  obtain ⟨wo, wc, rfl⟩ := own_shape ho
  obtain ⟨tp, tc, rfl⟩ := own_shape ha
  exact ⟨wo, wc, tp, tc, rfl, hc, SeenK.own V.cs_len ho rfl, ha⟩

end Go.Proofs.Ytegidbbigjhapaa
