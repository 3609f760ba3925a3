/- Contract of join: the number of 1 to 10 bytes. -/
import Derived.Test.YtohgnbgijleoaaaDoorPg
namespace Go.Proofs.YtohgnbgijleoaaaDoor
open Go.RowKit
set_option linter.unusedVariables false

theorem push_int (x : Int) (v b : Nat) (w : World) (hx : x = (v : Int)) (hv : v < 144115188075855872) (hb : b < 256) :
    Calls Tryd.prog 97 #[.int .u64 x, .int .u8 b] w fun e w' => e = .returned (.int .u64 ((b % 128 + 128 * v : Nat) : Int)) ∧ w = w' := by
  rw [hx]; exact push_any v b w hv hb

set_option maxRecDepth 100000 in
set_option maxHeartbeats 1000000 in
theorem join_1 (g off cap : Nat) (x0 : Nat) (w : World) (hc1 : 1 ≤ cap) (hc2 : cap ≤ 2 ^ 63 - 1) (c0 : w.cell? ⟨g, off, none⟩ = some (.int .u8 (x0 : Int))) (b0 : x0 < 256) :
    Calls Tryd.prog 96 #[.slice (some ⟨g, off, none⟩) 1 cap] w fun e w' => e = .returned (.int .u64 ((x0 % 128 + 128 * (0) : Nat) : Int)) ∧ w = w' := by
  go_enter Tryd.func96, Tryd.ntmps96
  go_wp2_with fail
  (with_reducible refine (push_int 0 0 x0 w rfl (by omega) b0).mono ?_)
  rintro e w0 ⟨rfl, rfl⟩
  go_wp2
  go_ret
  refine ⟨ret_int ?_, rfl⟩
  rfl

set_option maxRecDepth 100000 in
set_option maxHeartbeats 1000000 in
theorem join_2 (g off cap : Nat) (x0 x1 : Nat) (w : World) (hc1 : 2 ≤ cap) (hc2 : cap ≤ 2 ^ 63 - 1) (c0 : w.cell? ⟨g, off, none⟩ = some (.int .u8 (x0 : Int))) (c1 : w.cell? ⟨g, off + 1, none⟩ = some (.int .u8 (x1 : Int))) (b0 : x0 < 256) (b1 : x1 < 256) :
    Calls Tryd.prog 96 #[.slice (some ⟨g, off, none⟩) 2 cap] w fun e w' => e = .returned (.int .u64 ((x0 % 128 + 128 * (x1 % 128 + 128 * (0)) : Nat) : Int)) ∧ w = w' := by
  go_enter Tryd.func96, Tryd.ntmps96
  go_wp2_with fail
  (with_reducible refine (push_int 0 0 x1 w rfl (by omega) b1).mono ?_)
  rintro e w1 ⟨rfl, rfl⟩
  obtain ⟨y1, hy1⟩ : ∃ y, y = x1 % 128 + 128 * 0 := ⟨_, rfl⟩
  have l1 : y1 < 128 := by omega
  rw [← hy1]
  have H1 := Lib.hid hy1; clear hy1
  go_wp2_with fail
  (with_reducible refine (push_int _ y1 x0 w rfl (by omega) b0).mono ?_)
  rintro e w0 ⟨rfl, rfl⟩
  go_wp2
  go_ret
  refine ⟨ret_int ?_, rfl⟩
  rw [H1.out]
  omega

set_option maxRecDepth 100000 in
set_option maxHeartbeats 1000000 in
theorem join_3 (g off cap : Nat) (x0 x1 x2 : Nat) (w : World) (hc1 : 3 ≤ cap) (hc2 : cap ≤ 2 ^ 63 - 1) (c0 : w.cell? ⟨g, off, none⟩ = some (.int .u8 (x0 : Int))) (c1 : w.cell? ⟨g, off + 1, none⟩ = some (.int .u8 (x1 : Int))) (c2 : w.cell? ⟨g, off + 2, none⟩ = some (.int .u8 (x2 : Int))) (b0 : x0 < 256) (b1 : x1 < 256) (b2 : x2 < 256) :
    Calls Tryd.prog 96 #[.slice (some ⟨g, off, none⟩) 3 cap] w fun e w' => e = .returned (.int .u64 ((x0 % 128 + 128 * (x1 % 128 + 128 * (x2 % 128 + 128 * (0))) : Nat) : Int)) ∧ w = w' := by
  go_enter Tryd.func96, Tryd.ntmps96
  go_wp2_with fail
  (with_reducible refine (push_int 0 0 x2 w rfl (by omega) b2).mono ?_)
  rintro e w2 ⟨rfl, rfl⟩
  obtain ⟨y2, hy2⟩ : ∃ y, y = x2 % 128 + 128 * 0 := ⟨_, rfl⟩
  have l2 : y2 < 128 := by omega
  rw [← hy2]
  have H2 := Lib.hid hy2; clear hy2
  go_wp2_with fail
  (with_reducible refine (push_int _ y2 x1 w rfl (by omega) b1).mono ?_)
  rintro e w1 ⟨rfl, rfl⟩
  obtain ⟨y1, hy1⟩ : ∃ y, y = x1 % 128 + 128 * y2 := ⟨_, rfl⟩
  have l1 : y1 < 16384 := by omega
  rw [← hy1]
  have H1 := Lib.hid hy1; clear hy1
  go_wp2_with fail
  (with_reducible refine (push_int _ y1 x0 w rfl (by omega) b0).mono ?_)
  rintro e w0 ⟨rfl, rfl⟩
  go_wp2
  go_ret
  refine ⟨ret_int ?_, rfl⟩
  rw [H1.out, H2.out]
  omega

set_option maxRecDepth 100000 in
set_option maxHeartbeats 1000000 in
theorem join_4 (g off cap : Nat) (x0 x1 x2 x3 : Nat) (w : World) (hc1 : 4 ≤ cap) (hc2 : cap ≤ 2 ^ 63 - 1) (c0 : w.cell? ⟨g, off, none⟩ = some (.int .u8 (x0 : Int))) (c1 : w.cell? ⟨g, off + 1, none⟩ = some (.int .u8 (x1 : Int))) (c2 : w.cell? ⟨g, off + 2, none⟩ = some (.int .u8 (x2 : Int))) (c3 : w.cell? ⟨g, off + 3, none⟩ = some (.int .u8 (x3 : Int))) (b0 : x0 < 256) (b1 : x1 < 256) (b2 : x2 < 256) (b3 : x3 < 256) :
    Calls Tryd.prog 96 #[.slice (some ⟨g, off, none⟩) 4 cap] w fun e w' => e = .returned (.int .u64 ((x0 % 128 + 128 * (x1 % 128 + 128 * (x2 % 128 + 128 * (x3 % 128 + 128 * (0)))) : Nat) : Int)) ∧ w = w' := by
  go_enter Tryd.func96, Tryd.ntmps96
  go_wp2_with fail
  (with_reducible refine (push_int 0 0 x3 w rfl (by omega) b3).mono ?_)
  rintro e w3 ⟨rfl, rfl⟩
  obtain ⟨y3, hy3⟩ : ∃ y, y = x3 % 128 + 128 * 0 := ⟨_, rfl⟩
  have l3 : y3 < 128 := by omega
  rw [← hy3]
  have H3 := Lib.hid hy3; clear hy3
  go_wp2_with fail
  (with_reducible refine (push_int _ y3 x2 w rfl (by omega) b2).mono ?_)
  rintro e w2 ⟨rfl, rfl⟩
  obtain ⟨y2, hy2⟩ : ∃ y, y = x2 % 128 + 128 * y3 := ⟨_, rfl⟩
  have l2 : y2 < 16384 := by omega
  rw [← hy2]
  have H2 := Lib.hid hy2; clear hy2
  go_wp2_with fail
  (with_reducible refine (push_int _ y2 x1 w rfl (by omega) b1).mono ?_)
  rintro e w1 ⟨rfl, rfl⟩
  obtain ⟨y1, hy1⟩ : ∃ y, y = x1 % 128 + 128 * y2 := ⟨_, rfl⟩
  have l1 : y1 < 2097152 := by omega
  rw [← hy1]
  have H1 := Lib.hid hy1; clear hy1
  go_wp2_with fail
  (with_reducible refine (push_int _ y1 x0 w rfl (by omega) b0).mono ?_)
  rintro e w0 ⟨rfl, rfl⟩
  go_wp2
  go_ret
  refine ⟨ret_int ?_, rfl⟩
  rw [H1.out, H2.out, H3.out]
  omega

set_option maxRecDepth 100000 in
set_option maxHeartbeats 1000000 in
theorem join_5 (g off cap : Nat) (x0 x1 x2 x3 x4 : Nat) (w : World) (hc1 : 5 ≤ cap) (hc2 : cap ≤ 2 ^ 63 - 1) (c0 : w.cell? ⟨g, off, none⟩ = some (.int .u8 (x0 : Int))) (c1 : w.cell? ⟨g, off + 1, none⟩ = some (.int .u8 (x1 : Int))) (c2 : w.cell? ⟨g, off + 2, none⟩ = some (.int .u8 (x2 : Int))) (c3 : w.cell? ⟨g, off + 3, none⟩ = some (.int .u8 (x3 : Int))) (c4 : w.cell? ⟨g, off + 4, none⟩ = some (.int .u8 (x4 : Int))) (b0 : x0 < 256) (b1 : x1 < 256) (b2 : x2 < 256) (b3 : x3 < 256) (b4 : x4 < 256) :
    Calls Tryd.prog 96 #[.slice (some ⟨g, off, none⟩) 5 cap] w fun e w' => e = .returned (.int .u64 ((x0 % 128 + 128 * (x1 % 128 + 128 * (x2 % 128 + 128 * (x3 % 128 + 128 * (x4 % 128 + 128 * (0))))) : Nat) : Int)) ∧ w = w' := by
  go_enter Tryd.func96, Tryd.ntmps96
  go_wp2_with fail
  (with_reducible refine (push_int 0 0 x4 w rfl (by omega) b4).mono ?_)
  rintro e w4 ⟨rfl, rfl⟩
  obtain ⟨y4, hy4⟩ : ∃ y, y = x4 % 128 + 128 * 0 := ⟨_, rfl⟩
  have l4 : y4 < 128 := by omega
  rw [← hy4]
  have H4 := Lib.hid hy4; clear hy4
  go_wp2_with fail
  (with_reducible refine (push_int _ y4 x3 w rfl (by omega) b3).mono ?_)
  rintro e w3 ⟨rfl, rfl⟩
  obtain ⟨y3, hy3⟩ : ∃ y, y = x3 % 128 + 128 * y4 := ⟨_, rfl⟩
  have l3 : y3 < 16384 := by omega
  rw [← hy3]
  have H3 := Lib.hid hy3; clear hy3
  go_wp2_with fail
  (with_reducible refine (push_int _ y3 x2 w rfl (by omega) b2).mono ?_)
  rintro e w2 ⟨rfl, rfl⟩
  obtain ⟨y2, hy2⟩ : ∃ y, y = x2 % 128 + 128 * y3 := ⟨_, rfl⟩
  have l2 : y2 < 2097152 := by omega
  rw [← hy2]
  have H2 := Lib.hid hy2; clear hy2
  go_wp2_with fail
  (with_reducible refine (push_int _ y2 x1 w rfl (by omega) b1).mono ?_)
  rintro e w1 ⟨rfl, rfl⟩
  obtain ⟨y1, hy1⟩ : ∃ y, y = x1 % 128 + 128 * y2 := ⟨_, rfl⟩
  have l1 : y1 < 268435456 := by omega
  rw [← hy1]
  have H1 := Lib.hid hy1; clear hy1
  go_wp2_with fail
  (with_reducible refine (push_int _ y1 x0 w rfl (by omega) b0).mono ?_)
  rintro e w0 ⟨rfl, rfl⟩
  go_wp2
  go_ret
  refine ⟨ret_int ?_, rfl⟩
  rw [H1.out, H2.out, H3.out, H4.out]
  omega

set_option maxRecDepth 100000 in
set_option maxHeartbeats 1000000 in
theorem join_6 (g off cap : Nat) (x0 x1 x2 x3 x4 x5 : Nat) (w : World) (hc1 : 6 ≤ cap) (hc2 : cap ≤ 2 ^ 63 - 1) (c0 : w.cell? ⟨g, off, none⟩ = some (.int .u8 (x0 : Int))) (c1 : w.cell? ⟨g, off + 1, none⟩ = some (.int .u8 (x1 : Int))) (c2 : w.cell? ⟨g, off + 2, none⟩ = some (.int .u8 (x2 : Int))) (c3 : w.cell? ⟨g, off + 3, none⟩ = some (.int .u8 (x3 : Int))) (c4 : w.cell? ⟨g, off + 4, none⟩ = some (.int .u8 (x4 : Int))) (c5 : w.cell? ⟨g, off + 5, none⟩ = some (.int .u8 (x5 : Int))) (b0 : x0 < 256) (b1 : x1 < 256) (b2 : x2 < 256) (b3 : x3 < 256) (b4 : x4 < 256) (b5 : x5 < 256) :
    Calls Tryd.prog 96 #[.slice (some ⟨g, off, none⟩) 6 cap] w fun e w' => e = .returned (.int .u64 ((x0 % 128 + 128 * (x1 % 128 + 128 * (x2 % 128 + 128 * (x3 % 128 + 128 * (x4 % 128 + 128 * (x5 % 128 + 128 * (0)))))) : Nat) : Int)) ∧ w = w' := by
  go_enter Tryd.func96, Tryd.ntmps96
  go_wp2_with fail
  (with_reducible refine (push_int 0 0 x5 w rfl (by omega) b5).mono ?_)
  rintro e w5 ⟨rfl, rfl⟩
  obtain ⟨y5, hy5⟩ : ∃ y, y = x5 % 128 + 128 * 0 := ⟨_, rfl⟩
  have l5 : y5 < 128 := by omega
  rw [← hy5]
  have H5 := Lib.hid hy5; clear hy5
  go_wp2_with fail
  (with_reducible refine (push_int _ y5 x4 w rfl (by omega) b4).mono ?_)
  rintro e w4 ⟨rfl, rfl⟩
  obtain ⟨y4, hy4⟩ : ∃ y, y = x4 % 128 + 128 * y5 := ⟨_, rfl⟩
  have l4 : y4 < 16384 := by omega
  rw [← hy4]
  have H4 := Lib.hid hy4; clear hy4
  go_wp2_with fail
  (with_reducible refine (push_int _ y4 x3 w rfl (by omega) b3).mono ?_)
  rintro e w3 ⟨rfl, rfl⟩
  obtain ⟨y3, hy3⟩ : ∃ y, y = x3 % 128 + 128 * y4 := ⟨_, rfl⟩
  have l3 : y3 < 2097152 := by omega
  rw [← hy3]
  have H3 := Lib.hid hy3; clear hy3
  go_wp2_with fail
  (with_reducible refine (push_int _ y3 x2 w rfl (by omega) b2).mono ?_)
  rintro e w2 ⟨rfl, rfl⟩
  obtain ⟨y2, hy2⟩ : ∃ y, y = x2 % 128 + 128 * y3 := ⟨_, rfl⟩
  have l2 : y2 < 268435456 := by omega
  rw [← hy2]
  have H2 := Lib.hid hy2; clear hy2
  go_wp2_with fail
  (with_reducible refine (push_int _ y2 x1 w rfl (by omega) b1).mono ?_)
  rintro e w1 ⟨rfl, rfl⟩
  obtain ⟨y1, hy1⟩ : ∃ y, y = x1 % 128 + 128 * y2 := ⟨_, rfl⟩
  have l1 : y1 < 34359738368 := by omega
  rw [← hy1]
  have H1 := Lib.hid hy1; clear hy1
  go_wp2_with fail
  (with_reducible refine (push_int _ y1 x0 w rfl (by omega) b0).mono ?_)
  rintro e w0 ⟨rfl, rfl⟩
  go_wp2
  go_ret
  refine ⟨ret_int ?_, rfl⟩
  rw [H1.out, H2.out, H3.out, H4.out, H5.out]
  omega

set_option maxRecDepth 100000 in
set_option maxHeartbeats 1000000 in
theorem join_7 (g off cap : Nat) (x0 x1 x2 x3 x4 x5 x6 : Nat) (w : World) (hc1 : 7 ≤ cap) (hc2 : cap ≤ 2 ^ 63 - 1) (c0 : w.cell? ⟨g, off, none⟩ = some (.int .u8 (x0 : Int))) (c1 : w.cell? ⟨g, off + 1, none⟩ = some (.int .u8 (x1 : Int))) (c2 : w.cell? ⟨g, off + 2, none⟩ = some (.int .u8 (x2 : Int))) (c3 : w.cell? ⟨g, off + 3, none⟩ = some (.int .u8 (x3 : Int))) (c4 : w.cell? ⟨g, off + 4, none⟩ = some (.int .u8 (x4 : Int))) (c5 : w.cell? ⟨g, off + 5, none⟩ = some (.int .u8 (x5 : Int))) (c6 : w.cell? ⟨g, off + 6, none⟩ = some (.int .u8 (x6 : Int))) (b0 : x0 < 256) (b1 : x1 < 256) (b2 : x2 < 256) (b3 : x3 < 256) (b4 : x4 < 256) (b5 : x5 < 256) (b6 : x6 < 256) :
    Calls Tryd.prog 96 #[.slice (some ⟨g, off, none⟩) 7 cap] w fun e w' => e = .returned (.int .u64 ((x0 % 128 + 128 * (x1 % 128 + 128 * (x2 % 128 + 128 * (x3 % 128 + 128 * (x4 % 128 + 128 * (x5 % 128 + 128 * (x6 % 128 + 128 * (0))))))) : Nat) : Int)) ∧ w = w' := by
  go_enter Tryd.func96, Tryd.ntmps96
  go_wp2_with fail
  (with_reducible refine (push_int 0 0 x6 w rfl (by omega) b6).mono ?_)
  rintro e w6 ⟨rfl, rfl⟩
  obtain ⟨y6, hy6⟩ : ∃ y, y = x6 % 128 + 128 * 0 := ⟨_, rfl⟩
  have l6 : y6 < 128 := by omega
  rw [← hy6]
  have H6 := Lib.hid hy6; clear hy6
  go_wp2_with fail
  (with_reducible refine (push_int _ y6 x5 w rfl (by omega) b5).mono ?_)
  rintro e w5 ⟨rfl, rfl⟩
  obtain ⟨y5, hy5⟩ : ∃ y, y = x5 % 128 + 128 * y6 := ⟨_, rfl⟩
  have l5 : y5 < 16384 := by omega
  rw [← hy5]
  have H5 := Lib.hid hy5; clear hy5
  go_wp2_with fail
  (with_reducible refine (push_int _ y5 x4 w rfl (by omega) b4).mono ?_)
  rintro e w4 ⟨rfl, rfl⟩
  obtain ⟨y4, hy4⟩ : ∃ y, y = x4 % 128 + 128 * y5 := ⟨_, rfl⟩
  have l4 : y4 < 2097152 := by omega
  rw [← hy4]
  have H4 := Lib.hid hy4; clear hy4
  go_wp2_with fail
  (with_reducible refine (push_int _ y4 x3 w rfl (by omega) b3).mono ?_)
  rintro e w3 ⟨rfl, rfl⟩
  obtain ⟨y3, hy3⟩ : ∃ y, y = x3 % 128 + 128 * y4 := ⟨_, rfl⟩
  have l3 : y3 < 268435456 := by omega
  rw [← hy3]
  have H3 := Lib.hid hy3; clear hy3
  go_wp2_with fail
  (with_reducible refine (push_int _ y3 x2 w rfl (by omega) b2).mono ?_)
  rintro e w2 ⟨rfl, rfl⟩
  obtain ⟨y2, hy2⟩ : ∃ y, y = x2 % 128 + 128 * y3 := ⟨_, rfl⟩
  have l2 : y2 < 34359738368 := by omega
  rw [← hy2]
  have H2 := Lib.hid hy2; clear hy2
  go_wp2_with fail
  (with_reducible refine (push_int _ y2 x1 w rfl (by omega) b1).mono ?_)
  rintro e w1 ⟨rfl, rfl⟩
  obtain ⟨y1, hy1⟩ : ∃ y, y = x1 % 128 + 128 * y2 := ⟨_, rfl⟩
  have l1 : y1 < 4398046511104 := by omega
  rw [← hy1]
  have H1 := Lib.hid hy1; clear hy1
  go_wp2_with fail
  (with_reducible refine (push_int _ y1 x0 w rfl (by omega) b0).mono ?_)
  rintro e w0 ⟨rfl, rfl⟩
  go_wp2
  go_ret
  refine ⟨ret_int ?_, rfl⟩
  rw [H1.out, H2.out, H3.out, H4.out, H5.out, H6.out]
  omega

set_option maxRecDepth 100000 in
set_option maxHeartbeats 1000000 in
theorem join_8 (g off cap : Nat) (x0 x1 x2 x3 x4 x5 x6 x7 : Nat) (w : World) (hc1 : 8 ≤ cap) (hc2 : cap ≤ 2 ^ 63 - 1) (c0 : w.cell? ⟨g, off, none⟩ = some (.int .u8 (x0 : Int))) (c1 : w.cell? ⟨g, off + 1, none⟩ = some (.int .u8 (x1 : Int))) (c2 : w.cell? ⟨g, off + 2, none⟩ = some (.int .u8 (x2 : Int))) (c3 : w.cell? ⟨g, off + 3, none⟩ = some (.int .u8 (x3 : Int))) (c4 : w.cell? ⟨g, off + 4, none⟩ = some (.int .u8 (x4 : Int))) (c5 : w.cell? ⟨g, off + 5, none⟩ = some (.int .u8 (x5 : Int))) (c6 : w.cell? ⟨g, off + 6, none⟩ = some (.int .u8 (x6 : Int))) (c7 : w.cell? ⟨g, off + 7, none⟩ = some (.int .u8 (x7 : Int))) (b0 : x0 < 256) (b1 : x1 < 256) (b2 : x2 < 256) (b3 : x3 < 256) (b4 : x4 < 256) (b5 : x5 < 256) (b6 : x6 < 256) (b7 : x7 < 256) :
    Calls Tryd.prog 96 #[.slice (some ⟨g, off, none⟩) 8 cap] w fun e w' => e = .returned (.int .u64 ((x0 % 128 + 128 * (x1 % 128 + 128 * (x2 % 128 + 128 * (x3 % 128 + 128 * (x4 % 128 + 128 * (x5 % 128 + 128 * (x6 % 128 + 128 * (x7 % 128 + 128 * (0)))))))) : Nat) : Int)) ∧ w = w' := by
  go_enter Tryd.func96, Tryd.ntmps96
  go_wp2_with fail
  (with_reducible refine (push_int 0 0 x7 w rfl (by omega) b7).mono ?_)
  rintro e w7 ⟨rfl, rfl⟩
  obtain ⟨y7, hy7⟩ : ∃ y, y = x7 % 128 + 128 * 0 := ⟨_, rfl⟩
  have l7 : y7 < 128 := by omega
  rw [← hy7]
  have H7 := Lib.hid hy7; clear hy7
  go_wp2_with fail
  (with_reducible refine (push_int _ y7 x6 w rfl (by omega) b6).mono ?_)
  rintro e w6 ⟨rfl, rfl⟩
  obtain ⟨y6, hy6⟩ : ∃ y, y = x6 % 128 + 128 * y7 := ⟨_, rfl⟩
  have l6 : y6 < 16384 := by omega
  rw [← hy6]
  have H6 := Lib.hid hy6; clear hy6
  go_wp2_with fail
  (with_reducible refine (push_int _ y6 x5 w rfl (by omega) b5).mono ?_)
  rintro e w5 ⟨rfl, rfl⟩
  obtain ⟨y5, hy5⟩ : ∃ y, y = x5 % 128 + 128 * y6 := ⟨_, rfl⟩
  have l5 : y5 < 2097152 := by omega
  rw [← hy5]
  have H5 := Lib.hid hy5; clear hy5
  go_wp2_with fail
  (with_reducible refine (push_int _ y5 x4 w rfl (by omega) b4).mono ?_)
  rintro e w4 ⟨rfl, rfl⟩
  obtain ⟨y4, hy4⟩ : ∃ y, y = x4 % 128 + 128 * y5 := ⟨_, rfl⟩
  have l4 : y4 < 268435456 := by omega
  rw [← hy4]
  have H4 := Lib.hid hy4; clear hy4
  go_wp2_with fail
  (with_reducible refine (push_int _ y4 x3 w rfl (by omega) b3).mono ?_)
  rintro e w3 ⟨rfl, rfl⟩
  obtain ⟨y3, hy3⟩ : ∃ y, y = x3 % 128 + 128 * y4 := ⟨_, rfl⟩
  have l3 : y3 < 34359738368 := by omega
  rw [← hy3]
  have H3 := Lib.hid hy3; clear hy3
  go_wp2_with fail
  (with_reducible refine (push_int _ y3 x2 w rfl (by omega) b2).mono ?_)
  rintro e w2 ⟨rfl, rfl⟩
  obtain ⟨y2, hy2⟩ : ∃ y, y = x2 % 128 + 128 * y3 := ⟨_, rfl⟩
  have l2 : y2 < 4398046511104 := by omega
  rw [← hy2]
  have H2 := Lib.hid hy2; clear hy2
  go_wp2_with fail
  (with_reducible refine (push_int _ y2 x1 w rfl (by omega) b1).mono ?_)
  rintro e w1 ⟨rfl, rfl⟩
  obtain ⟨y1, hy1⟩ : ∃ y, y = x1 % 128 + 128 * y2 := ⟨_, rfl⟩
  have l1 : y1 < 562949953421312 := by omega
  rw [← hy1]
  have H1 := Lib.hid hy1; clear hy1
  go_wp2_with fail
  (with_reducible refine (push_int _ y1 x0 w rfl (by omega) b0).mono ?_)
  rintro e w0 ⟨rfl, rfl⟩
  go_wp2
  go_ret
  refine ⟨ret_int ?_, rfl⟩
  rw [H1.out, H2.out, H3.out, H4.out, H5.out, H6.out, H7.out]
  omega

set_option maxRecDepth 100000 in
set_option maxHeartbeats 1000000 in
theorem join_9 (g off cap : Nat) (x0 x1 x2 x3 x4 x5 x6 x7 x8 : Nat) (w : World) (hc1 : 9 ≤ cap) (hc2 : cap ≤ 2 ^ 63 - 1) (c0 : w.cell? ⟨g, off, none⟩ = some (.int .u8 (x0 : Int))) (c1 : w.cell? ⟨g, off + 1, none⟩ = some (.int .u8 (x1 : Int))) (c2 : w.cell? ⟨g, off + 2, none⟩ = some (.int .u8 (x2 : Int))) (c3 : w.cell? ⟨g, off + 3, none⟩ = some (.int .u8 (x3 : Int))) (c4 : w.cell? ⟨g, off + 4, none⟩ = some (.int .u8 (x4 : Int))) (c5 : w.cell? ⟨g, off + 5, none⟩ = some (.int .u8 (x5 : Int))) (c6 : w.cell? ⟨g, off + 6, none⟩ = some (.int .u8 (x6 : Int))) (c7 : w.cell? ⟨g, off + 7, none⟩ = some (.int .u8 (x7 : Int))) (c8 : w.cell? ⟨g, off + 8, none⟩ = some (.int .u8 (x8 : Int))) (b0 : x0 < 256) (b1 : x1 < 256) (b2 : x2 < 256) (b3 : x3 < 256) (b4 : x4 < 256) (b5 : x5 < 256) (b6 : x6 < 256) (b7 : x7 < 256) (b8 : x8 < 256) :
    Calls Tryd.prog 96 #[.slice (some ⟨g, off, none⟩) 9 cap] w fun e w' => e = .returned (.int .u64 ((x0 % 128 + 128 * (x1 % 128 + 128 * (x2 % 128 + 128 * (x3 % 128 + 128 * (x4 % 128 + 128 * (x5 % 128 + 128 * (x6 % 128 + 128 * (x7 % 128 + 128 * (x8 % 128 + 128 * (0))))))))) : Nat) : Int)) ∧ w = w' := by
  go_enter Tryd.func96, Tryd.ntmps96
  go_wp2_with fail
  (with_reducible refine (push_int 0 0 x8 w rfl (by omega) b8).mono ?_)
  rintro e w8 ⟨rfl, rfl⟩
  obtain ⟨y8, hy8⟩ : ∃ y, y = x8 % 128 + 128 * 0 := ⟨_, rfl⟩
  have l8 : y8 < 128 := by omega
  rw [← hy8]
  have H8 := Lib.hid hy8; clear hy8
  go_wp2_with fail
  (with_reducible refine (push_int _ y8 x7 w rfl (by omega) b7).mono ?_)
  rintro e w7 ⟨rfl, rfl⟩
  obtain ⟨y7, hy7⟩ : ∃ y, y = x7 % 128 + 128 * y8 := ⟨_, rfl⟩
  have l7 : y7 < 16384 := by omega
  rw [← hy7]
  have H7 := Lib.hid hy7; clear hy7
  go_wp2_with fail
  (with_reducible refine (push_int _ y7 x6 w rfl (by omega) b6).mono ?_)
  rintro e w6 ⟨rfl, rfl⟩
  obtain ⟨y6, hy6⟩ : ∃ y, y = x6 % 128 + 128 * y7 := ⟨_, rfl⟩
  have l6 : y6 < 2097152 := by omega
  rw [← hy6]
  have H6 := Lib.hid hy6; clear hy6
  go_wp2_with fail
  (with_reducible refine (push_int _ y6 x5 w rfl (by omega) b5).mono ?_)
  rintro e w5 ⟨rfl, rfl⟩
  obtain ⟨y5, hy5⟩ : ∃ y, y = x5 % 128 + 128 * y6 := ⟨_, rfl⟩
  have l5 : y5 < 268435456 := by omega
  rw [← hy5]
  have H5 := Lib.hid hy5; clear hy5
  go_wp2_with fail
  (with_reducible refine (push_int _ y5 x4 w rfl (by omega) b4).mono ?_)
  rintro e w4 ⟨rfl, rfl⟩
  obtain ⟨y4, hy4⟩ : ∃ y, y = x4 % 128 + 128 * y5 := ⟨_, rfl⟩
  have l4 : y4 < 34359738368 := by omega
  rw [← hy4]
  have H4 := Lib.hid hy4; clear hy4
  go_wp2_with fail
  (with_reducible refine (push_int _ y4 x3 w rfl (by omega) b3).mono ?_)
  rintro e w3 ⟨rfl, rfl⟩
  obtain ⟨y3, hy3⟩ : ∃ y, y = x3 % 128 + 128 * y4 := ⟨_, rfl⟩
  have l3 : y3 < 4398046511104 := by omega
  rw [← hy3]
  have H3 := Lib.hid hy3; clear hy3
  go_wp2_with fail
  (with_reducible refine (push_int _ y3 x2 w rfl (by omega) b2).mono ?_)
  rintro e w2 ⟨rfl, rfl⟩
  obtain ⟨y2, hy2⟩ : ∃ y, y = x2 % 128 + 128 * y3 := ⟨_, rfl⟩
  have l2 : y2 < 562949953421312 := by omega
  rw [← hy2]
  have H2 := Lib.hid hy2; clear hy2
  go_wp2_with fail
  (with_reducible refine (push_int _ y2 x1 w rfl (by omega) b1).mono ?_)
  rintro e w1 ⟨rfl, rfl⟩
  obtain ⟨y1, hy1⟩ : ∃ y, y = x1 % 128 + 128 * y2 := ⟨_, rfl⟩
  have l1 : y1 < 72057594037927936 := by omega
  rw [← hy1]
  have H1 := Lib.hid hy1; clear hy1
  go_wp2_with fail
  (with_reducible refine (push_int _ y1 x0 w rfl (by omega) b0).mono ?_)
  rintro e w0 ⟨rfl, rfl⟩
  go_wp2
  go_ret
  refine ⟨ret_int ?_, rfl⟩
  rw [H1.out, H2.out, H3.out, H4.out, H5.out, H6.out, H7.out, H8.out]
  omega

set_option maxRecDepth 100000 in
set_option maxHeartbeats 1000000 in
theorem join_10 (g off cap : Nat) (x0 x1 x2 x3 x4 x5 x6 x7 x8 x9 : Nat) (w : World) (hc1 : 10 ≤ cap) (hc2 : cap ≤ 2 ^ 63 - 1) (c0 : w.cell? ⟨g, off, none⟩ = some (.int .u8 (x0 : Int))) (c1 : w.cell? ⟨g, off + 1, none⟩ = some (.int .u8 (x1 : Int))) (c2 : w.cell? ⟨g, off + 2, none⟩ = some (.int .u8 (x2 : Int))) (c3 : w.cell? ⟨g, off + 3, none⟩ = some (.int .u8 (x3 : Int))) (c4 : w.cell? ⟨g, off + 4, none⟩ = some (.int .u8 (x4 : Int))) (c5 : w.cell? ⟨g, off + 5, none⟩ = some (.int .u8 (x5 : Int))) (c6 : w.cell? ⟨g, off + 6, none⟩ = some (.int .u8 (x6 : Int))) (c7 : w.cell? ⟨g, off + 7, none⟩ = some (.int .u8 (x7 : Int))) (c8 : w.cell? ⟨g, off + 8, none⟩ = some (.int .u8 (x8 : Int))) (c9 : w.cell? ⟨g, off + 9, none⟩ = some (.int .u8 (x9 : Int))) (b0 : x0 < 256) (b1 : x1 < 256) (b2 : x2 < 256) (b3 : x3 < 256) (b4 : x4 < 256) (b5 : x5 < 256) (b6 : x6 < 256) (b7 : x7 < 256) (b8 : x8 < 256) (b9 : x9 < 256) (h9 : x9 ≤ 1) :
    Calls Tryd.prog 96 #[.slice (some ⟨g, off, none⟩) 10 cap] w fun e w' => e = .returned (.int .u64 ((x0 % 128 + 128 * (x1 % 128 + 128 * (x2 % 128 + 128 * (x3 % 128 + 128 * (x4 % 128 + 128 * (x5 % 128 + 128 * (x6 % 128 + 128 * (x7 % 128 + 128 * (x8 % 128 + 128 * (x9 % 128 + 128 * (0)))))))))) : Nat) : Int)) ∧ w = w' := by
  go_enter Tryd.func96, Tryd.ntmps96
  go_wp2_with fail
  (with_reducible refine (push_int 0 0 x9 w rfl (by omega) b9).mono ?_)
  rintro e w9 ⟨rfl, rfl⟩
  obtain ⟨y9, hy9⟩ : ∃ y, y = x9 % 128 + 128 * 0 := ⟨_, rfl⟩
  have l9 : y9 < 2 := by omega
  rw [← hy9]
  have H9 := Lib.hid hy9; clear hy9
  go_wp2_with fail
  (with_reducible refine (push_int _ y9 x8 w rfl (by omega) b8).mono ?_)
  rintro e w8 ⟨rfl, rfl⟩
  obtain ⟨y8, hy8⟩ : ∃ y, y = x8 % 128 + 128 * y9 := ⟨_, rfl⟩
  have l8 : y8 < 256 := by omega
  rw [← hy8]
  have H8 := Lib.hid hy8; clear hy8
  go_wp2_with fail
  (with_reducible refine (push_int _ y8 x7 w rfl (by omega) b7).mono ?_)
  rintro e w7 ⟨rfl, rfl⟩
  obtain ⟨y7, hy7⟩ : ∃ y, y = x7 % 128 + 128 * y8 := ⟨_, rfl⟩
  have l7 : y7 < 32768 := by omega
  rw [← hy7]
  have H7 := Lib.hid hy7; clear hy7
  go_wp2_with fail
  (with_reducible refine (push_int _ y7 x6 w rfl (by omega) b6).mono ?_)
  rintro e w6 ⟨rfl, rfl⟩
  obtain ⟨y6, hy6⟩ : ∃ y, y = x6 % 128 + 128 * y7 := ⟨_, rfl⟩
  have l6 : y6 < 4194304 := by omega
  rw [← hy6]
  have H6 := Lib.hid hy6; clear hy6
  go_wp2_with fail
  (with_reducible refine (push_int _ y6 x5 w rfl (by omega) b5).mono ?_)
  rintro e w5 ⟨rfl, rfl⟩
  obtain ⟨y5, hy5⟩ : ∃ y, y = x5 % 128 + 128 * y6 := ⟨_, rfl⟩
  have l5 : y5 < 536870912 := by omega
  rw [← hy5]
  have H5 := Lib.hid hy5; clear hy5
  go_wp2_with fail
  (with_reducible refine (push_int _ y5 x4 w rfl (by omega) b4).mono ?_)
  rintro e w4 ⟨rfl, rfl⟩
  obtain ⟨y4, hy4⟩ : ∃ y, y = x4 % 128 + 128 * y5 := ⟨_, rfl⟩
  have l4 : y4 < 68719476736 := by omega
  rw [← hy4]
  have H4 := Lib.hid hy4; clear hy4
  go_wp2_with fail
  (with_reducible refine (push_int _ y4 x3 w rfl (by omega) b3).mono ?_)
  rintro e w3 ⟨rfl, rfl⟩
  obtain ⟨y3, hy3⟩ : ∃ y, y = x3 % 128 + 128 * y4 := ⟨_, rfl⟩
  have l3 : y3 < 8796093022208 := by omega
  rw [← hy3]
  have H3 := Lib.hid hy3; clear hy3
  go_wp2_with fail
  (with_reducible refine (push_int _ y3 x2 w rfl (by omega) b2).mono ?_)
  rintro e w2 ⟨rfl, rfl⟩
  obtain ⟨y2, hy2⟩ : ∃ y, y = x2 % 128 + 128 * y3 := ⟨_, rfl⟩
  have l2 : y2 < 1125899906842624 := by omega
  rw [← hy2]
  have H2 := Lib.hid hy2; clear hy2
  go_wp2_with fail
  (with_reducible refine (push_int _ y2 x1 w rfl (by omega) b1).mono ?_)
  rintro e w1 ⟨rfl, rfl⟩
  obtain ⟨y1, hy1⟩ : ∃ y, y = x1 % 128 + 128 * y2 := ⟨_, rfl⟩
  have l1 : y1 < 144115188075855872 := by omega
  rw [← hy1]
  have H1 := Lib.hid hy1; clear hy1
  go_wp2_with fail
  (with_reducible refine (push_int _ y1 x0 w rfl (by omega) b0).mono ?_)
  rintro e w0 ⟨rfl, rfl⟩
  go_wp2
  go_ret
  refine ⟨ret_int ?_, rfl⟩
  rw [H1.out, H2.out, H3.out, H4.out, H5.out, H6.out, H7.out, H8.out, H9.out]
  omega

theorem join_any (bv : Value) (l : List Nat) (w : World) (hS : Seen w bv (nv .u8 l)) (hb : ∀ x ∈ l, x < 2 ^ 8) (h1 : 1 ≤ l.length) (h2 : l.length ≤ 10) (h3 : l.getD 9 0 ≤ 1) :
    Calls Tryd.prog 96 #[bv] w fun e w' => e = .returned (.int .u64 (vv l : Nat)) ∧ w = w' := by
  obtain ⟨ao, cap, rfl, hc1, hc2⟩ := hS.shape
  rw [nv_length] at hc1 hS
  rw [nv_length]
  obtain ⟨g, off, rfl, hx⟩ := hS.at0 rfl (by omega)
  unfold maxLen at hc2
  clear hS
  rcases l with _ | ⟨x0, l⟩
  · simp at h1
  rcases l with _ | ⟨x1, l⟩
  · exact join_1 g off cap x0 w hc1 hc2 (hx 0 (by simp)) (hb x0 (by simp))
  rcases l with _ | ⟨x2, l⟩
  · exact join_2 g off cap x0 x1 w hc1 hc2 (hx 0 (by simp)) (hx 1 (by simp)) (hb x0 (by simp)) (hb x1 (by simp))
  rcases l with _ | ⟨x3, l⟩
  · exact join_3 g off cap x0 x1 x2 w hc1 hc2 (hx 0 (by simp)) (hx 1 (by simp)) (hx 2 (by simp)) (hb x0 (by simp)) (hb x1 (by simp)) (hb x2 (by simp))
  rcases l with _ | ⟨x4, l⟩
  · exact join_4 g off cap x0 x1 x2 x3 w hc1 hc2 (hx 0 (by simp)) (hx 1 (by simp)) (hx 2 (by simp)) (hx 3 (by simp)) (hb x0 (by simp)) (hb x1 (by simp)) (hb x2 (by simp)) (hb x3 (by simp))
  rcases l with _ | ⟨x5, l⟩
  · exact join_5 g off cap x0 x1 x2 x3 x4 w hc1 hc2 (hx 0 (by simp)) (hx 1 (by simp)) (hx 2 (by simp)) (hx 3 (by simp)) (hx 4 (by simp)) (hb x0 (by simp)) (hb x1 (by simp)) (hb x2 (by simp)) (hb x3 (by simp)) (hb x4 (by simp))
  rcases l with _ | ⟨x6, l⟩
  · exact join_6 g off cap x0 x1 x2 x3 x4 x5 w hc1 hc2 (hx 0 (by simp)) (hx 1 (by simp)) (hx 2 (by simp)) (hx 3 (by simp)) (hx 4 (by simp)) (hx 5 (by simp)) (hb x0 (by simp)) (hb x1 (by simp)) (hb x2 (by simp)) (hb x3 (by simp)) (hb x4 (by simp)) (hb x5 (by simp))
  rcases l with _ | ⟨x7, l⟩
  · exact join_7 g off cap x0 x1 x2 x3 x4 x5 x6 w hc1 hc2 (hx 0 (by simp)) (hx 1 (by simp)) (hx 2 (by simp)) (hx 3 (by simp)) (hx 4 (by simp)) (hx 5 (by simp)) (hx 6 (by simp)) (hb x0 (by simp)) (hb x1 (by simp)) (hb x2 (by simp)) (hb x3 (by simp)) (hb x4 (by simp)) (hb x5 (by simp)) (hb x6 (by simp))
  rcases l with _ | ⟨x8, l⟩
  · exact join_8 g off cap x0 x1 x2 x3 x4 x5 x6 x7 w hc1 hc2 (hx 0 (by simp)) (hx 1 (by simp)) (hx 2 (by simp)) (hx 3 (by simp)) (hx 4 (by simp)) (hx 5 (by simp)) (hx 6 (by simp)) (hx 7 (by simp)) (hb x0 (by simp)) (hb x1 (by simp)) (hb x2 (by simp)) (hb x3 (by simp)) (hb x4 (by simp)) (hb x5 (by simp)) (hb x6 (by simp)) (hb x7 (by simp))
  rcases l with _ | ⟨x9, l⟩
  · exact join_9 g off cap x0 x1 x2 x3 x4 x5 x6 x7 x8 w hc1 hc2 (hx 0 (by simp)) (hx 1 (by simp)) (hx 2 (by simp)) (hx 3 (by simp)) (hx 4 (by simp)) (hx 5 (by simp)) (hx 6 (by simp)) (hx 7 (by simp)) (hx 8 (by simp)) (hb x0 (by simp)) (hb x1 (by simp)) (hb x2 (by simp)) (hb x3 (by simp)) (hb x4 (by simp)) (hb x5 (by simp)) (hb x6 (by simp)) (hb x7 (by simp)) (hb x8 (by simp))
  rcases l with _ | ⟨x10, l⟩
  · exact join_10 g off cap x0 x1 x2 x3 x4 x5 x6 x7 x8 x9 w hc1 hc2 (hx 0 (by simp)) (hx 1 (by simp)) (hx 2 (by simp)) (hx 3 (by simp)) (hx 4 (by simp)) (hx 5 (by simp)) (hx 6 (by simp)) (hx 7 (by simp)) (hx 8 (by simp)) (hx 9 (by simp)) (hb x0 (by simp)) (hb x1 (by simp)) (hb x2 (by simp)) (hb x3 (by simp)) (hb x4 (by simp)) (hb x5 (by simp)) (hb x6 (by simp)) (hb x7 (by simp)) (hb x8 (by simp)) (hb x9 (by simp)) h3
  · simp at h2

end Go.Proofs.YtohgnbgijleoaaaDoor
