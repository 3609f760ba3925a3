/- tree.Compare: the order of two values (out of WKinds8). -/
import Derived.Test.YtgfjmbjpikcffaaYf
import Derived.Test.YtgfjmbjpikcffaaVc
namespace Go.Proofs.Ytgfjmbjpikcffaa
open Go.RowKit
set_option linter.unusedVariables false
set_option linter.unusedSimpArgs false

/-- tree.Compare. -/
def cmpV (k n1 : Int) (s1 : ByteArray) (n2 : Int) (s2 : ByteArray) : Int := if k = 4 then cmpL (bl s1) (bl s2) else ordI n1 n2

set_option maxRecDepth 100000 in
set_option maxHeartbeats 1000000 in
theorem compare_any (k n1 : Int) (s1 : ByteArray) (n2 : Int) (s2 : ByteArray) (w : World) (h1 : s1.size ≤ 1000000) (h2 : s2.size ≤ 1000000) :
    Calls Try.prog 26 #[.int .i64 k, .agg #[.int .i64 n1, .string s1], .agg #[.int .i64 n2, .string s2]] w fun e w' => e = .returned (.int .i64 (cmpV k n1 s1 n2 s2)) ∧ Chg [] w w' := by
  by_cases hk : k = 4
  · have d1 : (k == 4) = true := by simpa using hk
    have E := Lib.hid (show cmpV k n1 s1 n2 s2 = cmpL (bl s1) (bl s2) by unfold cmpV; rw [if_pos hk])
    have HC := Lib.hid (((Chg.refl [] w).alloc (.cells #[.int .i64 n1, .string s1] 35)).alloc (.cells #[.int .i64 n2, .string s2] 35))
    clear hk
    go_enter Try.func26, Try.ntmps26
    go_wp2_with (first
      | (go_at_call 28; (with_reducible refine (order_any _ _ _ h1 h2).mono ?_); rintro e w1 ⟨rfl, hk⟩; have HC2 := Lib.hid (HC.out.trans hk (by simp)); clear hk)
      | fail)
    go_ret
    exact ⟨ret_int E.out.symm, HC2.out⟩
  · have d1 : (k == 4) = false := by simpa using hk
    have E := Lib.hid (show cmpV k n1 s1 n2 s2 = ordI n1 n2 by unfold cmpV; rw [if_neg hk])
    have HC := Lib.hid (((Chg.refl [] w).alloc (.cells #[.int .i64 n1, .string s1] 35)).alloc (.cells #[.int .i64 n2, .string s2] 35))
    clear hk
    go_enter Try.func26, Try.ntmps26
    go_wp2_with (first
      | (go_at_call 29; (with_reducible refine (cmp_int _ _ _).mono ?_); rintro e w1 ⟨rfl, rfl⟩)
      | fail)
    go_ret
    exact ⟨ret_int E.out.symm, HC.out⟩

theorem cmpL_three : ∀ (a b : List UInt8), (cmpL (a.map (·.toNat)) (b.map (·.toNat)) = -1 ∧ Op.bytesLess a b = true ∧ (a == b) = false) ∨ (cmpL (a.map (·.toNat)) (b.map (·.toNat)) = 0 ∧ Op.bytesLess a b = false ∧ (a == b) = true) ∨ (cmpL (a.map (·.toNat)) (b.map (·.toNat)) = 1 ∧ Op.bytesLess a b = false ∧ (a == b) = false)
  | [], [] => .inr (.inl ⟨rfl, rfl, rfl⟩)
  | [], _ :: _ => .inl ⟨rfl, rfl, rfl⟩
  | _ :: _, [] => .inr (.inr ⟨rfl, rfl, rfl⟩)
  | x :: xs, y :: ys => by
    have ih := cmpL_three xs ys
    rw [List.map_cons, List.map_cons, cmpL, Op.bytesLess]
    by_cases h : x = y
    · subst h
      have h1 : ¬ x < x := by simp
      have h2 : (x :: xs == x :: ys) = (xs == ys) := by simp
      simp only [if_true, h2, h1, decide_false, Bool.false_or, beq_self_eq_true, Bool.true_and]
      exact ih
    · have hn : ¬ x.toNat = y.toNat := fun e => h (UInt8.toNat_inj.1 e)
      have h2 : (x :: xs == y :: ys) = false := by simp [h]
      have h3 : (x == y) = false := by simpa using h
      rw [if_neg hn, h2, h3]
      unfold ordI
      by_cases hl : x < y
      · have hl' : x.toNat < y.toNat := UInt8.lt_iff_toNat_lt.1 hl
        left
        refine ⟨by rw [if_pos (by omega)], by simp [hl], rfl⟩
      · have hl' : ¬ x.toNat < y.toNat := fun e => hl (UInt8.lt_iff_toNat_lt.2 e)
        right; right
        refine ⟨by rw [if_neg (by omega), if_pos (by omega)], by simp [hl], rfl⟩

theorem cmpB_three (s t : ByteArray) : (cmpL (bl s) (bl t) = -1 ∧ Op.bytesLess s.toList t.toList = true ∧ (s.toList == t.toList) = false) ∨ (cmpL (bl s) (bl t) = 0 ∧ Op.bytesLess s.toList t.toList = false ∧ (s.toList == t.toList) = true) ∨ (cmpL (bl s) (bl t) = 1 ∧ Op.bytesLess s.toList t.toList = false ∧ (s.toList == t.toList) = false) := by
  rw [ByteArray.toList_eq, ByteArray.toList_eq]
  exact cmpL_three s.data.toList t.data.toList

theorem cmpL_front : ∀ (l : List Nat) (c : Nat) (r : List Nat), cmpL l (l ++ c :: r) = -1
  | [], _, _ => rfl
  | x :: l, c, r => by rw [List.cons_append, cmpL, if_pos rfl]; exact cmpL_front l c r

def xS : ByteArray := { data := #[120] }

theorem bl_x (s : ByteArray) : bl (s ++ xS) = bl s ++ [120] := by
  unfold bl
  rw [ByteArray.data_append]
  simp [xS]

end Go.Proofs.Ytgfjmbjpikcffaa
