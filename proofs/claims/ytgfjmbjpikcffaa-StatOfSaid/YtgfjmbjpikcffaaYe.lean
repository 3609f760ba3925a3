/- tree's Compare: numbers. -/
import Derived.Test.YtgfjmbjpikcffaaItr
namespace Go.Proofs.Ytgfjmbjpikcffaa
open Go.RowKit
set_option linter.unusedVariables false

/-- The order of two numbers. -/
def ordI (x y : Int) : Int := if x < y then -1 else if y < x then 1 else 0

theorem isNaN_int (x : Int) (w : World) : Calls Try.prog 32 #[.int .i64 x] w fun e w' => e = .returned (.bool false) ∧ w = w' := by
  have e1 : (x != x) = false := by simp
  go_enter Try.func32, Try.ntmps32
  go_wp2
  go_ret
  exact ⟨rfl, rfl⟩

theorem isNaN_byte (x : Int) (w : World) : Calls Try.prog 33 #[.int .u8 x] w fun e w' => e = .returned (.bool false) ∧ w = w' := by
  have e1 : (x != x) = false := by simp
  go_enter Try.func33, Try.ntmps33
  go_wp2
  go_ret
  exact ⟨rfl, rfl⟩

set_option maxRecDepth 100000 in
theorem cmp_int (x y : Int) (w : World) : Calls Try.prog 29 #[.int .i64 x, .int .i64 y] w fun e w' => e = .returned (.int .i64 (ordI x y)) ∧ w = w' := by
  have h3 : x < y ∨ y < x ∨ x = y := by omega
  rcases h3 with h | h | h
  · have d1 : decide (x < y) = true := by simpa using h
    have E := Lib.hid (show ordI x y = -1 by unfold ordI; rw [if_pos h])
    go_enter Try.func29, Try.ntmps29
    go_wp2_with (first
      | (go_at_call 32; (with_reducible refine (isNaN_int _ _).mono ?_); rintro e w1 ⟨rfl, rfl⟩)
      | fail)
    go_ret
    exact ⟨ret_int E.out.symm, rfl⟩
  · have d1 : decide (x < y) = false := by simp; omega
    have d2 : decide (y < x) = true := by simpa using h
    have E := Lib.hid (show ordI x y = 1 by unfold ordI; rw [if_neg (by omega), if_pos h])
    go_enter Try.func29, Try.ntmps29
    go_wp2_with (first
      | (go_at_call 32; (with_reducible refine (isNaN_int _ _).mono ?_); rintro e w1 ⟨rfl, rfl⟩)
      | fail)
    go_ret
    exact ⟨ret_int E.out.symm, rfl⟩
  · have d1 : decide (x < y) = false := by simp; omega
    have d2 : decide (y < x) = false := by simp; omega
    have E := Lib.hid (show ordI x y = 0 by unfold ordI; rw [if_neg (by omega), if_neg (by omega)])
    clear h
    go_enter Try.func29, Try.ntmps29
    go_wp2_with (first
      | (go_at_call 32; (with_reducible refine (isNaN_int _ _).mono ?_); rintro e w1 ⟨rfl, rfl⟩)
      | fail)
    go_ret
    exact ⟨ret_int E.out.symm, rfl⟩

set_option maxRecDepth 100000 in
theorem cmp_byte (x y : Int) (w : World) : Calls Try.prog 31 #[.int .u8 x, .int .u8 y] w fun e w' => e = .returned (.int .i64 (ordI x y)) ∧ w = w' := by
  have h3 : x < y ∨ y < x ∨ x = y := by omega
  rcases h3 with h | h | h
  · have d1 : decide (x < y) = true := by simpa using h
    have E := Lib.hid (show ordI x y = -1 by unfold ordI; rw [if_pos h])
    go_enter Try.func31, Try.ntmps31
    go_wp2_with (first
      | (go_at_call 33; (with_reducible refine (isNaN_byte _ _).mono ?_); rintro e w1 ⟨rfl, rfl⟩)
      | fail)
    go_ret
    exact ⟨ret_int E.out.symm, rfl⟩
  · have d1 : decide (x < y) = false := by simp; omega
    have d2 : decide (y < x) = true := by simpa using h
    have E := Lib.hid (show ordI x y = 1 by unfold ordI; rw [if_neg (by omega), if_pos h])
    go_enter Try.func31, Try.ntmps31
    go_wp2_with (first
      | (go_at_call 33; (with_reducible refine (isNaN_byte _ _).mono ?_); rintro e w1 ⟨rfl, rfl⟩)
      | fail)
    go_ret
    exact ⟨ret_int E.out.symm, rfl⟩
  · have d1 : decide (x < y) = false := by simp; omega
    have d2 : decide (y < x) = false := by simp; omega
    have E := Lib.hid (show ordI x y = 0 by unfold ordI; rw [if_neg (by omega), if_neg (by omega)])
    clear h
    go_enter Try.func31, Try.ntmps31
    go_wp2_with (first
      | (go_at_call 33; (with_reducible refine (isNaN_byte _ _).mono ?_); rintro e w1 ⟨rfl, rfl⟩)
      | fail)
    go_ret
    exact ⟨ret_int E.out.symm, rfl⟩

/-- The order of two rows of bytes. -/
def cmpL : List Nat → List Nat → Int
  | [], [] => 0
  | [], _ :: _ => -1
  | _ :: _, [] => 1
  | x :: xs, y :: ys => if x = y then cmpL xs ys else ordI x y

theorem cmpL_skip : ∀ (n : Nat) (a b : List Nat), a.take n = b.take n → n ≤ a.length → n ≤ b.length → cmpL a b = cmpL (a.drop n) (b.drop n)
  | 0, _, _, _, _, _ => rfl
  | n + 1, [], _, _, h, _ => absurd h (by simp)
  | n + 1, _ :: _, [], _, _, h => absurd h (by simp)
  | n + 1, x :: xs, y :: ys, h, h1, h2 => by
    simp only [List.take_succ_cons, List.cons.injEq] at h
    obtain ⟨rfl, h⟩ := h
    rw [cmpL, if_pos rfl, List.drop_succ_cons, List.drop_succ_cons]
    exact cmpL_skip n xs ys h (by simpa using h1) (by simpa using h2)

/-- Where one of them ends, their lengths decide. -/
theorem cmpL_end : ∀ (a b : List Nat), a = [] ∨ b = [] → cmpL a b = ordI a.length b.length
  | [], [], _ => rfl
  | [], y :: ys, _ => by rw [cmpL]; unfold ordI; rw [if_pos (by simp)]
  | x :: xs, [], _ => by rw [cmpL]; unfold ordI; rw [if_neg (by simp; omega), if_pos (by simp)]
  | _ :: _, _ :: _, h => by rcases h with h | h <;> cases h

theorem ordI_len (a b n : Nat) (h1 : n ≤ a) (h2 : n ≤ b) : ordI ((a - n : Nat) : Int) ((b - n : Nat) : Int) = ordI (a : Int) (b : Int) := by
  unfold ordI
  (repeat' split) <;> omega

end Go.Proofs.Ytgfjmbjpikcffaa
