/- The walk of the statement BitsWidth. -/
import Derived.Test.YtohgnbgijleoaaaDoorSz
namespace Go.Proofs.YtohgnbgijleoaaaDoor
open Go.RowKit
open Go.Shelf
set_option linter.unusedVariables false

theorem bwidth_any (v : Nat) (w : World) (hv : v < 18446744073709551616) :
    Calls Tryd.prog 57 #[.int .u64 v] w fun e w' => e = .returned (.int .i64 (blen v : Nat)) ∧ w = w' := by
  have hv2 : (v : Int) ≤ 18446744073709551615 := by omega
  go_enter Tryd.func57, Tryd.ntmps57
  go_wp2_with fail
  refine (Any.bits_Len64 lays129 _ _ (by omega) hv2).mono ?_
  rintro e w1 ⟨rfl, rfl⟩
  go_wp2
  go_ret
  exact ⟨rfl, rfl⟩

theorem bwidth_int (x : Int) (v : Nat) (w : World) (hx : x = (v : Int)) (hv : v < 18446744073709551616) :
    Calls Tryd.prog 57 #[.int .u64 x] w fun e w' => e = .returned (.int .i64 (blen v : Nat)) ∧ w = w' := by
  rw [hx]; exact bwidth_any v w hv

end Go.Proofs.YtohgnbgijleoaaaDoor
