/- The walk of the statement TreeKinds. -/
import Derived.Test.YtamcpebnfckdmaaYf
import Derived.Test.YtamcpebnfckdmaaYd
namespace Go.Proofs.Ytamcpebnfckdmaa
open Go.RowKit
set_option linter.unusedVariables false

/-- tree.Compare. -/
def cmpV (k n1 : Int) (s1 : ByteArray) (n2 : Int) (s2 : ByteArray) : Int := if k = 4 then cmpL (bl s1) (bl s2) else ordI n1 n2

set_option maxRecDepth 100000 in
set_option maxHeartbeats 1000000 in
theorem compare_any (k n1 : Int) (s1 : ByteArray) (n2 : Int) (s2 : ByteArray) (w : World) (h1 : s1.size ≤ 1000000) (h2 : s2.size ≤ 1000000) :
    Calls Try.prog 41 #[.int .i64 k, .agg #[.int .i64 n1, .string s1], .agg #[.int .i64 n2, .string s2]] w fun e w' => e = .returned (.int .i64 (cmpV k n1 s1 n2 s2)) ∧ Chg [] w w' := by
  by_cases hk : k = 4
  · have d1 : (k == 4) = true := by simpa using hk
    have E := Lib.hid (show cmpV k n1 s1 n2 s2 = cmpL (bl s1) (bl s2) by unfold cmpV; rw [if_pos hk])
    have HC := Lib.hid (((Chg.refl [] w).alloc (.cells #[.int .i64 n1, .string s1] 74)).alloc (.cells #[.int .i64 n2, .string s2] 74))
    clear hk
    go_enter Try.func41, Try.ntmps41
    go_wp2_with (first
      | (go_at_call 67; (with_reducible refine (order_any _ _ _ h1 h2).mono ?_); rintro e w1 ⟨rfl, hk⟩; have HC2 := Lib.hid (HC.out.trans hk (by simp)); clear hk)
      | fail)
    go_ret
    exact ⟨ret_int E.out.symm, HC2.out⟩
  · have d1 : (k == 4) = false := by simpa using hk
    have E := Lib.hid (show cmpV k n1 s1 n2 s2 = ordI n1 n2 by unfold cmpV; rw [if_neg hk])
    have HC := Lib.hid (((Chg.refl [] w).alloc (.cells #[.int .i64 n1, .string s1] 74)).alloc (.cells #[.int .i64 n2, .string s2] 74))
    clear hk
    go_enter Try.func41, Try.ntmps41
    go_wp2_with (first
      | (go_at_call 68; (with_reducible refine (cmp_int _ _ _).mono ?_); rintro e w1 ⟨rfl, rfl⟩)
      | fail)
    go_ret
    exact ⟨ret_int E.out.symm, HC.out⟩

theorem cmpL_three : ∀ (a b : List UInt8), (cmpL (a.map (·.toNat)) (b.map (·.toNat)) = -1 ∧ Op.bytesLess a b = true ∧ (a == b) = false) ∨ (cmpL (a.map (·.toNat)) (b.map (·.toNat)) = 0 ∧ Op.bytesLess a b = false ∧ (a == b) = true) ∨ (cmpL (a.map (·.toNat)) (b.map (·.toNat)) = 1 ∧ Op.bytesLess a b = false ∧ (a == b) = false)
  | [], [] => .inr (.inl ⟨rfl, rfl, rfl⟩)
  | [], _ :: _ => .inl ⟨rfl, rfl, rfl⟩
  | _ :: _, [] => .inr (.inr ⟨rfl, rfl, rfl⟩)
  | x :: xs, y :: ys => by
    have ih := cmpL_three xs ys
    rw [List.map_cons, List.map_cons, cmpL, Op.bytesLess]
    by_cases h : x = y
    · subst h
      have h1 : ¬ x < x := by simp
      have h2 : (x :: xs == x :: ys) = (xs == ys) := by simp
      simp only [if_true, h2, h1, decide_false, Bool.false_or, beq_self_eq_true, Bool.true_and]
      exact ih
    · have hn : ¬ x.toNat = y.toNat := fun e => h (UInt8.toNat_inj.1 e)
      have h2 : (x :: xs == y :: ys) = false := by simp [h]
      have h3 : (x == y) = false := by simpa using h
      rw [if_neg hn, h2, h3]
      unfold ordI
      by_cases hl : x < y
      · have hl' : x.toNat < y.toNat := UInt8.lt_iff_toNat_lt.1 hl
        left
        refine ⟨by rw [if_pos (by omega)], by simp [hl], rfl⟩
      · have hl' : ¬ x.toNat < y.toNat := fun e => hl (UInt8.lt_iff_toNat_lt.2 e)
        right; right
        refine ⟨by rw [if_neg (by omega), if_pos (by omega)], by simp [hl], rfl⟩

theorem cmpB_three (s t : ByteArray) : (cmpL (bl s) (bl t) = -1 ∧ Op.bytesLess s.toList t.toList = true ∧ (s.toList == t.toList) = false) ∨ (cmpL (bl s) (bl t) = 0 ∧ Op.bytesLess s.toList t.toList = false ∧ (s.toList == t.toList) = true) ∨ (cmpL (bl s) (bl t) = 1 ∧ Op.bytesLess s.toList t.toList = false ∧ (s.toList == t.toList) = false) := by
  rw [ByteArray.toList_eq, ByteArray.toList_eq]
  exact cmpL_three s.data.toList t.data.toList

theorem cmpL_front : ∀ (l : List Nat) (c : Nat) (r : List Nat), cmpL l (l ++ c :: r) = -1
  | [], _, _ => rfl
  | x :: l, c, r => by rw [List.cons_append, cmpL, if_pos rfl]; exact cmpL_front l c r

def xS : ByteArray := { data := #[120] }
theorem bl_x (s : ByteArray) : bl (s ++ xS) = bl s ++ [120] := by
  unfold bl
  rw [ByteArray.data_append]
  simp [xS]

set_option maxRecDepth 100000 in
set_option maxHeartbeats 2000000 in
theorem walk_TreeKinds (a0 : Int) (a1 : Int) (a2 : ByteArray) (a3 : ByteArray) (w : World) (w0 : (Lit.int .i64 a0).wf = true) (w1 : (Lit.int .i64 a1).wf = true) (w2 : a2.size ≤ maxLen) (w3 : a3.size ≤ maxLen) :
    Calls Try.prog 14 #[.int .i64 a0, .int .i64 a1, .string a2, .string a3] w fun e w' => e = .returned (.bool true) ∧ Below w.heap.size w w' := by
  clear w0 w1 w2 w3
  by_cases hz : 50 < a2.size ∨ 50 < a3.size
  · have hz2 : (decide ((50 : Int) < (a2.size : Int)) = true) ∨ (decide ((50 : Int) < (a2.size : Int)) = false ∧ decide ((50 : Int) < (a3.size : Int)) = true) := by
      by_cases h : 50 < a2.size
      · left; simp; omega
      · right; simp; omega
    clear hz
    rcases hz2 with d1 | ⟨d1, d2⟩
    all_goals
      go_enter Try.func14, Try.ntmps14
      go_wp2_with fail
      (with_reducible refine (known8_any _).mono ?_)
      rintro e w1 ⟨rfl, hk⟩
      have HK := Lib.hid hk
      clear hk
      go_wp2
      go_ret
      exact ⟨rfl, HK.out.below (Nat.le_refl _) (by simp)⟩
  have d1 : decide ((50 : Int) < (a2.size : Int)) = false := by simp; omega
  have d2 : decide ((50 : Int) < (a3.size : Int)) = false := by simp; omega
  have hs2 : a2.size ≤ 50 := by omega
  have hs3 : a3.size ≤ 50 := by omega
  obtain ⟨sx, hsx⟩ : ∃ sx, sx = a2 ++ xS := ⟨_, rfl⟩
  have hxz : sx.size ≤ 1000000 := by rw [hsx, ByteArray.size_append]; show a2.size + 1 ≤ _; omega
  have HC1 := Lib.hid (fun wx => compare_any 3 a0 eS a1 eS wx (by decide) (by decide))
  have HC2 := Lib.hid (fun wx => compare_any 4 0 a2 0 a3 wx (by omega) (by omega))
  have HC3 := Lib.hid (fun wx => compare_any 4 0 a2 0 sx wx (by omega) hxz)
  rw [show cmpV 3 a0 eS a1 eS = ordI a0 a1 from rfl] at HC1
  rw [show cmpV 4 0 a2 0 a3 = cmpL (bl a2) (bl a3) from rfl] at HC2
  rw [show cmpV 4 0 a2 0 sx = -1 by rw [hsx]; show cmpL (bl a2) (bl (a2 ++ xS)) = -1; rw [bl_x]; exact cmpL_front _ _ _] at HC3
  have hadd : Op.stringOp .add a2 { data := #[120] } = pure (.string sx) := by
    rw [hsx]
    unfold Op.stringOp
    have : ¬ ((((a2.size + (ByteArray.mk #[120]).size : Nat) : Int)) > IntKind.i64.max) := by
      show ¬ (((a2.size + 1 : Nat) : Int) > 9223372036854775807)
      omega
    simp only [if_neg this]
    rfl
  have h3 : (a0 < a1 ∧ ordI a0 a1 = -1) ∨ (a1 < a0 ∧ ¬ a0 < a1 ∧ ordI a0 a1 = 1) ∨ (¬ a0 < a1 ∧ ¬ a1 < a0 ∧ ordI a0 a1 = 0) := by
    unfold ordI
    by_cases h : a0 < a1
    · left; exact ⟨h, if_pos h⟩
    · by_cases h2 : a1 < a0
      · right; left; exact ⟨h2, h, by rw [if_neg h, if_pos h2]⟩
      · right; right; exact ⟨h, h2, by rw [if_neg h, if_neg h2]⟩
  have HT := Lib.hid (cmpB_three a2 a3)
  clear hsx hz
  rcases h3 with ⟨q1, q2⟩ | ⟨q1, q3, q2⟩ | ⟨q1, q3, q2⟩
  all_goals
    rw [q2] at HC1
    clear q2
    rcases HT.out with ⟨r1, r2, r3⟩ | ⟨r1, r2, r3⟩ | ⟨r1, r2, r3⟩
  all_goals
    rw [r1] at HC2
    clear r1 HT
    go_enter Try.func14, Try.ntmps14
    go_wp2_with fail
    (with_reducible refine (known8_any _).mono ?_)
    rintro e w1 ⟨rfl, hk⟩
    have HK := Lib.hid hk
    clear hk
    go_wp2_with fail
    (with_reducible refine (HC1.out _).mono ?_)
    rintro e w2 ⟨rfl, hk⟩
    have HK2 := Lib.hid (HK.out.trans hk (by simp))
    clear hk
    go_wp2_with fail
    (with_reducible refine (HC2.out _).mono ?_)
    rintro e w3 ⟨rfl, hk⟩
    have HK3 := Lib.hid (HK2.out.trans hk (by simp))
    clear hk
    go_wp2_with fail
    (with_reducible refine (HC3.out _).mono ?_)
    rintro e w4 ⟨rfl, hk⟩
    have HK4 := Lib.hid (HK3.out.trans hk (by simp))
    clear hk
    go_wp2
    go_ret
    exact ⟨rfl, HK4.out.below (Nat.le_refl _) (by simp)⟩

end Go.Proofs.Ytamcpebnfckdmaa
