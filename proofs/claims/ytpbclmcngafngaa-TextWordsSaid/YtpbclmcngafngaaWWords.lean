/- The walk of the statement TextWords. -/
import Derived.Test.YtpbclmcngafngaaK6
import Derived.Test.YtpbclmcngafngaaW6
namespace Go.Proofs.Ytpbclmcngafngaa
open Go.RowKit
set_option linter.unusedVariables false

set_option maxRecDepth 100000 in
set_option maxHeartbeats 4000000 in
theorem walk_TextWords (a0 : Int) (w : World) (w0 : (Lit.int .i64 a0).wf = true) :
    Calls Try.prog 9 #[.int .i64 a0] w fun e w' => e = .returned (.bool true) ∧ Below w.heap.size w w' := by
  go_enter Try.func9, Try.ntmps9
  go_wp2_with fail
  (with_reducible refine (known6_any _).mono ?_)
  rintro e w1 ⟨rfl, hk⟩
  have HK1 := Lib.hid hk
  clear hk
  have hlt := within_lt a0 9 (by decide)
  have HW := Lib.hid (fun wx => w6_int a0 9 9 wx rfl (by decide) (by decide) w0)
  obtain ⟨k, hk⟩ : ∃ k, k = (a0 % ((9 : Nat) : Int)).toNat := ⟨_, rfl⟩
  rw [← hk] at hlt HW
  clear hk
  have HP := Lib.hid (wd_parse k hlt)
  have hsz := wd_size k hlt
  have hlb : (w1.alloc (.cells (sv wdL).toArray 9)).heap[w1.heap.size]? = some (.cells (sv wdL).toArray 9 (0, 0)) := heap_alloc_new _ _
  have hcell := lit_cells hlb k hlt
  rw [Nat.zero_add] at hcell
  obtain ⟨x, hx⟩ : ∃ x, x = wdL.getD k ByteArray.empty := ⟨_, rfl⟩
  rw [← hx] at HP hsz hcell
  clear hx hlb
  have HCL := Lib.hid hcell
  go_wp2_with fail
  (with_reducible refine (HW.out _).mono ?_)
  rintro e w2 ⟨rfl, rfl⟩
  generalize hW : World.alloc _ _ = W2
  have hc2 : W2.cell? ⟨w1.heap.size, k, none⟩ = some (.string x) := by rw [← hW]; exact hcell
  have HK2 := Lib.hid (show Chg [] w W2 by rw [← hW]; exact HK1.out.alloc _)
  clear hW hcell HCL
  have hpa := parse_any (wdT x) W2 (by unfold wdT; rw [ByteArray.size_append, ByteArray.size_append, ByteArray.size_append, ByteArray.size_append, ByteArray.size_append, ByteArray.size_append]; have e1 : wA.size = 8 := rfl; have e2 : wB.size = 18 := rfl; have e3 : wC.size = 18 := rfl; have e4 : wD.size = 5 := rfl; omega)
  rw [HP.out] at hpa
  unfold wdT wA wB wC wD at hpa
  have HPA := Lib.hid hpa
  clear hpa HP
  go_wp2_with fail
  (with_reducible refine HPA.out.mono ?_)
  rintro e w3 ⟨hk3, hout⟩
  have HK3 := Lib.hid (HK2.out.trans hk3 (by simp))
  clear hk3 hc2
  rcases hout with ⟨-, v, rfl, hown⟩ | ⟨h0, -⟩
  · obtain ⟨a, c, rfl⟩ := own_shape hown
    obtain ⟨g, rfl, -, -, -, hcl⟩ := own_ptr hown (by simp)
    have c0 := hcl 0 (.string x) rfl
    have c4 := hcl 4 (.string x) rfl
    have c8 := hcl 8 (.string x) rfl
    have c5 := hcl 5 (.int .i64 2) rfl
    have c10 := hcl 10 (.int .i64 2) rfl
    clear hcl hown
    go_wp2
    go_ret
    exact ⟨by simp, HK3.out.below (Nat.le_refl _) (by simp)⟩
  · exact absurd rfl h0

end Go.Proofs.Ytpbclmcngafngaa
