/- Vi, Pg, Ln, Jn, Gt: texts of one group, one behind the other. -/
import Derived.Test.YtkbfbiklnjldgaaA1
import Derived.Laws.Bits64b
namespace Go.Proofs.Ytkbfbiklnjldgaa
open Go.RowKit
set_option linter.unusedVariables false

/-- The bytes of a number. -/
def vb (v : Nat) : List Nat := if h : v < 128 then [v] else (v % 128 + 128) :: vb (v / 128)
termination_by v
decreasing_by omega

theorem vb_lt {v : Nat} (h : v < 128) : vb v = [v] := by rw [vb, dif_pos h]
theorem vb_ge {v : Nat} (h : ¬ v < 128) : vb v = (v % 128 + 128) :: vb (v / 128) := by rw [vb, dif_neg h]

theorem vb_bytes (v : Nat) : ∀ x ∈ vb v, x < 2 ^ 8 := by
  induction v using Nat.strongRecOn with
  | _ v ih =>
    by_cases h : v < 128
    · rw [vb_lt h]; intro x hx; simp at hx; omega
    · rw [vb_ge h]
      intro x hx
      rcases List.mem_cons.1 hx with rfl | hx
      · omega
      · exact ih _ (by omega) x hx

/-- How many bytes: k where 128^(k-1) ≤ v < 128^k, 1 for 0. -/
theorem vb_len (k v : Nat) (h1 : v < 128 ^ (k + 1)) (h2 : k = 0 ∨ 128 ^ k ≤ v) : (vb v).length = k + 1 := by
  induction k generalizing v with
  | zero => rw [vb_lt (by simpa using h1)]; rfl
  | succ k ih =>
    have hp : 0 < 128 ^ k := Nat.pow_pos (by decide)
    have h2 : 128 ^ (k + 1) ≤ v := by rcases h2 with h2 | h2 <;> first | exact h2 | omega
    rw [Nat.pow_succ] at h1 h2
    rw [vb_ge (by omega), List.length_cons, ih]
    · rw [Nat.div_lt_iff_lt_mul (by decide)]; exact h1
    · right
      rw [Nat.le_div_iff_mul_le (by decide)]; exact h2

theorem vb_len_le (k v : Nat) (h1 : v < 128 ^ (k + 1)) : 1 ≤ (vb v).length ∧ (vb v).length ≤ k + 1 := by
  induction k generalizing v with
  | zero => rw [vb_lt (by simpa using h1)]; simp
  | succ k ih =>
    by_cases h : v < 128
    · rw [vb_lt h]; simp
    · rw [vb_ge h, List.length_cons]
      have := ih (v / 128) (by rw [Nat.div_lt_iff_lt_mul (by decide)]; rw [Nat.pow_succ] at h1; exact h1)
      omega

theorem vb_len64 {v : Nat} (h : v < 18446744073709551616) : 1 ≤ (vb v).length ∧ (vb v).length ≤ 10 :=
  vb_len_le 9 v (by have : (128 : Nat) ^ (9 + 1) = 1180591620717411303424 := by decide
                    omega)

theorem vb_ne (v : Nat) : vb v ≠ [] := by
  by_cases h : v < 128
  · rw [vb_lt h]; simp
  · rw [vb_ge h]; simp

/-- What a row of groups is worth. -/
def vv : List Nat → Nat
  | [] => 0
  | x :: r => x % 128 + 128 * vv r

theorem vv_vb (v : Nat) : vv (vb v) = v := by
  induction v using Nat.strongRecOn with
  | _ v ih =>
    by_cases h : v < 128
    · rw [vb_lt h]; simp [vv]; omega
    · rw [vb_ge h, vv, ih _ (by omega)]; omega

theorem vv_lt (l : List Nat) : vv l < 128 ^ l.length := by
  induction l with
  | nil => simp [vv]
  | cons x r ih => rw [vv, List.length_cons, Nat.pow_succ]; omega

theorem vv_append (l r : List Nat) : vv (l ++ r) = vv l + 128 ^ l.length * vv r := by
  induction l with
  | nil => simp [vv]
  | cons x l ih =>
    rw [List.cons_append, vv, ih, vv, List.length_cons, Nat.pow_succ, Nat.mul_add, Nat.add_assoc, Nat.mul_comm (128 ^ l.length) 128, Nat.mul_assoc]

/-- An answer that lies j bytes further on. -/
def up (j : Nat) (p : Nat × Nat) : Nat × Nat := (if p.2 = 0 then p.1 + j else 0, p.2)
theorem up_up (i j : Nat) (p : Nat × Nat) : up i (up j p) = up (i + j) p := by
  unfold up; split <;> simp_all <;> omega

/-- How the number at the front ends, if i bytes lie ahead: its bytes from here, the error. -/
def gl (i : Nat) : List Nat → Nat × Nat
  | [] => (0, 8)
  | x :: r =>
    if i = 9 ∧ 1 < x then (0, 14)
    else if 128 ≤ x then up 1 (gl (i + 1) r)
    else if x = 0 ∧ 0 < i then (0, 10) else (1, 0)

theorem gl_zero (i : Nat) (l : List Nat) : (gl i l).2 ≠ 0 → (gl i l).1 = 0 := by
  cases l with
  | nil => simp [gl]
  | cons x r =>
    simp only [gl]; repeat' split
    all_goals simp_all [up]

theorem gl_len (i : Nat) (l : List Nat) (hi : i ≤ 9) : (gl i l).2 = 0 → 1 ≤ (gl i l).1 ∧ (gl i l).1 ≤ l.length ∧ (gl i l).1 + i ≤ 10 := by
  induction l generalizing i with
  | nil => simp [gl]
  | cons x r ih =>
    rw [gl]
    by_cases h1 : i = 9 ∧ 1 < x
    · rw [if_pos h1]; simp
    · rw [if_neg h1]
      by_cases h2 : 128 ≤ x
      · rw [if_pos h2]
        have h9 : i < 9 := by omega
        have := ih (i + 1) (by omega)
        unfold up
        intro h
        simp only at h
        simp only [h, if_true, List.length_cons]
        have := this h
        omega
      · rw [if_neg h2]
        split <;> simp
        omega

/-- The errors there are. -/
theorem gl_err (i : Nat) (l : List Nat) : (gl i l).2 = 0 ∨ (gl i l).2 = 8 ∨ (gl i l).2 = 14 ∨ (gl i l).2 = 10 := by
  induction l generalizing i with
  | nil => simp [gl]
  | cons x r ih =>
    have := ih (i + 1)
    simp only [gl]; repeat' split
    all_goals simp_all [up]

/-- The answer of Get. -/
def gv (l : List Nat) : Nat := if (gl 0 l).2 = 0 then vv (l.take (gl 0 l).1) else 0

theorem gl_at (l : List Nat) (j : Nat) (hj : j < l.length) : gl j (l.drop j) = if j = 9 ∧ 1 < l.getD j 0 then (0, 14)
    else if 128 ≤ l.getD j 0 then up 1 (gl (j + 1) (l.drop (j + 1)))
    else if l.getD j 0 = 0 ∧ 0 < j then (0, 10) else (1, 0) := by
  have hd : l.drop j = l.getD j 0 :: l.drop (j + 1) := by
    rw [List.drop_eq_getElem_cons hj]; simp [List.getD, hj]
  rw [hd, gl]

/-- One step ahead: the bytes that went by have all their top bit. -/
theorem gl_step (l : List Nat) (j : Nat) (hj : j ≤ l.length) (h9 : j ≤ 9) (h : ∀ i, i < j → 128 ≤ l.getD i 0) : gl 0 l = up j (gl j (l.drop j)) := by
  induction j with
  | zero =>
    have := gl_zero 0 l
    unfold up
    simp only [List.drop_zero, Nat.add_zero]
    split
    · rfl
    · rename_i h; exact Prod.ext (this h) rfl
  | succ j ih =>
    have hx := h j (by omega)
    rw [ih (by omega) (by omega) (fun i hi => h i (by omega)), gl_at l j (by omega), if_neg (by omega), if_pos hx, up_up]

/-- The four endings. -/
theorem gl_cut (l : List Nat) (hl : l.length ≤ 9) (h : ∀ i, i < l.length → 128 ≤ l.getD i 0) : gl 0 l = (0, 8) := by
  rw [gl_step l l.length (Nat.le_refl _) hl h, List.drop_length]; rfl

theorem gl_over (l : List Nat) (hl : 9 < l.length) (h : ∀ i, i < 9 → 128 ≤ l.getD i 0) (hx : 1 < l.getD 9 0) : gl 0 l = (0, 14) := by
  rw [gl_step l 9 (by omega) (by omega) h, gl_at l 9 hl, if_pos ⟨rfl, hx⟩]; rfl

theorem gl_bad (l : List Nat) (j : Nat) (hj : j < l.length) (h0 : 0 < j) (h9 : j ≤ 9) (h : ∀ i, i < j → 128 ≤ l.getD i 0) (hx : l.getD j 0 = 0) : gl 0 l = (0, 10) := by
  rw [gl_step l j (by omega) h9 h, gl_at l j hj, if_neg (by omega), if_neg (by omega), if_pos ⟨hx, h0⟩]; rfl

theorem gl_ok (l : List Nat) (j : Nat) (hj : j < l.length) (h9 : j ≤ 9) (h : ∀ i, i < j → 128 ≤ l.getD i 0) (hx : l.getD j 0 < 128) (h1 : ¬ (j = 9 ∧ 1 < l.getD j 0)) (h2 : ¬ (l.getD j 0 = 0 ∧ 0 < j)) : gl 0 l = (j + 1, 0) := by
  rw [gl_step l j (by omega) h9 h, gl_at l j hj, if_neg h1, if_neg (by omega), if_neg h2]
  unfold up; simp; omega

/-- What was put, and anything behind it, is read as it was. -/
theorem gl_vb (v i : Nat) (r : List Nat) (hv : v < 18446744073709551616 / 128 ^ i) (hi : i ≤ 9) (h0 : 0 < i → 0 < v) : gl i (vb v ++ r) = ((vb v).length, 0) := by
  induction v using Nat.strongRecOn generalizing i with
  | _ v ih =>
    by_cases h : v < 128
    · rw [vb_lt h, List.cons_append, gl, if_neg, if_neg (by omega), if_neg (by omega)]
      · rfl
      · rintro ⟨rfl, h⟩
        simp at hv
        omega
    · have hi9 : i < 9 := by
        rcases Nat.lt_or_ge i 9 with h | h
        · exact h
        · exfalso
          obtain rfl : i = 9 := by omega
          simp at hv
          omega
      have hv2 : v / 128 < 18446744073709551616 / 128 ^ (i + 1) := by
        have hm : i = 0 ∨ i = 1 ∨ i = 2 ∨ i = 3 ∨ i = 4 ∨ i = 5 ∨ i = 6 ∨ i = 7 ∨ i = 8 := by omega
        rcases hm with rfl | rfl | rfl | rfl | rfl | rfl | rfl | rfl | rfl <;> simp at hv ⊢ <;> omega
      have := ih (v / 128) (by omega) (i + 1) hv2 (by omega) (by intro _; omega)
      rw [vb_ge h, List.cons_append, gl, if_neg (by omega), if_pos (by omega), this]
      unfold up
      simp

theorem gv_vb (v : Nat) (r : List Nat) (hv : v < 18446744073709551616) : gl 0 (vb v ++ r) = ((vb v).length, 0) ∧ gv (vb v ++ r) = v := by
  have h := gl_vb v 0 r (by simpa using hv) (by omega) (by omega)
  refine ⟨h, ?_⟩
  unfold gv
  rw [h]
  simp [vv_vb]

/-- All bytes but the last have their top bit. -/
theorem vb_top (v : Nat) : ∀ i, i + 1 < (vb v).length → 128 ≤ (vb v).getD i 0 := by
  induction v using Nat.strongRecOn with
  | _ v ih =>
    intro i hi
    by_cases h : v < 128
    · rw [vb_lt h] at hi; simp at hi
    · rw [vb_ge h] at hi ⊢
      cases i with
      | zero => simp
      | succ i => 
        simp only [List.length_cons] at hi
        have := ih (v / 128) (by omega) i (by omega)
        simpa using this

theorem vb_cut (v : Nat) (hv : v < 18446744073709551616) : gl 0 ((vb v).take ((vb v).length - 1)) = (0, 8) := by
  have hl := vb_len64 hv
  have e : ((vb v).take ((vb v).length - 1)).length = (vb v).length - 1 := by simp
  refine gl_cut _ (by omega) fun i hi => ?_
  have := vb_top v i (by omega)
  rw [e] at hi
  rw [show ((vb v).take ((vb v).length - 1)).getD i 0 = (vb v).getD i 0 by simp only [List.getD, List.getElem?_take, if_pos hi]]
  exact this

end Go.Proofs.Ytkbfbiklnjldgaa

namespace Go.Proofs.Ytkbfbiklnjldgaa
open Go.RowKit
set_option linter.unusedVariables false

/-- The number without a sign that stands for v, and back. -/
def zigOf (v : Int) : Nat := (if v < 0 then -2 * v - 1 else 2 * v).toNat
def zagOf (u : Nat) : Int := if u % 2 = 1 then -((u / 2 : Nat) : Int) - 1 else ((u / 2 : Nat) : Int)

theorem zig_neg {v : Int} (h : v < 0) : ((zigOf v : Nat) : Int) = -2 * v - 1 := by unfold zigOf; rw [if_pos h]; omega
theorem zig_pos {v : Int} (h : ¬ v < 0) : ((zigOf v : Nat) : Int) = 2 * v := by unfold zigOf; rw [if_neg h]; omega
theorem zig_lt {v : Int} (h : -9223372036854775808 ≤ v ∧ v ≤ 9223372036854775807) : zigOf v < 18446744073709551616 := by unfold zigOf; split <;> omega
theorem zag_zig (v : Int) : zagOf (zigOf v) = v := by
  unfold zagOf zigOf; repeat' split
  all_goals omega
theorem zig_zag (u : Nat) : zigOf (zagOf u) = u := by
  unfold zagOf zigOf; repeat' split
  all_goals omega
theorem zag_wf {u : Nat} (h : u < 18446744073709551616) : -9223372036854775808 ≤ zagOf u ∧ zagOf u ≤ 9223372036854775807 := by
  unfold zagOf; split <;> omega

theorem push_eq (v b : Nat) (hv : v < 144115188075855872) : bits BinOp.or IntKind.u64 ((v : Int) * 128) ((b : Int) % 128) = ((b % 128 + 128 * v : Nat) : Int) := by
  have e1 : (v : Int) * 128 = ((128 * v : Nat) : Int) := by omega
  have e2 : (b : Int) % 128 = ((b % 128 : Nat) : Int) := by omega
  rw [e1, e2, bits_or_u64_nat _ _ (by omega) (by omega), Nat.add_comm]
  congr 1
  exact (Nat.two_pow_add_eq_or_of_lt (i := 7) (Nat.mod_lt _ (by decide)) v).symm

set_option maxHeartbeats 400000 in
theorem push_any (v b : Nat) (w : World) (hv : v < 144115188075855872) (hb : b < 256) :
    Calls Try.prog 91 #[.int .u64 v, .int .u8 b] w fun e w' => e = .returned (.int .u64 ((b % 128 + 128 * v : Nat) : Int)) ∧ w = w' := by
  go_enter Try.func91, Try.ntmps91
  go_wp2
  go_ret
  exact ⟨ret_int (push_eq v b hv), rfl⟩

theorem shl1 (v : Int) (h : -9223372036854775808 ≤ v ∧ v ≤ 9223372036854775807) : ∃ n : Nat, IntKind.u64.wrap (IntKind.u64.wrap v * 2) = (n : Int) ∧ n < 18446744073709551616 ∧ (v < 0 → 18446744073709551615 - n = zigOf v) ∧ (¬ v < 0 → n = zigOf v) := by
  refine ⟨(IntKind.u64.wrap (IntKind.u64.wrap v * 2)).toNat, ?_, ?_, ?_, ?_⟩ <;> simp only [IntKind.wrap_u64, zigOf]
  · omega
  · omega
  · intro h; rw [if_pos h]; omega
  · intro h; rw [if_neg h]; omega

end Go.Proofs.Ytkbfbiklnjldgaa

namespace Go.Proofs.Ytkbfbiklnjldgaa
open Go.RowKit
set_option linter.unusedVariables false

set_option maxRecDepth 100000 in
set_option maxHeartbeats 1000000 in
theorem length_any (bv : Value) (l : List Nat) (w : World) (hS : Seen w bv (nv .u8 l)) (hb : ∀ x ∈ l, x < 2 ^ 8) :
    Calls Try.prog 76 #[bv] w fun e w' => e = .returned (.tuple #[.int .i64 ((gl 0 l).1 : Nat), .int .i64 ((gl 0 l).2 : Nat)]) ∧ Chg [] w w' := by
  obtain ⟨ao, cap, rfl, hc1, hc2⟩ := hS.shape
  rw [nv_length] at hc1 hS
  rw [nv_length]
  have HS := Lib.hid hS; have HB := Lib.hid hb; clear hS hb
  unfold maxLen at hc2
  go_enter Try.func76, Try.ntmps76
  go_wp2_with fail
  refine wp_scope_head 0 (fun a' w' => ∃ (j : Nat) (u4 u5 u6 u7 u8 u9 u10 u11 u12 u13 u14 u15 u16 u17 u18 u19 u20 u21 u22 u23 u24 u25 u26 u27 u28 u29 u30 u31 u32 u33 u34 u35 u36 u37 u38 : Value), j ≤ l.length ∧ j ≤ 9 ∧ (∀ i, i < j → 128 ≤ l.getD i 0) ∧ a' = { tmps := #[.slice ao l.length cap, undef, .int .i64 (j : Int), .int .i64 0, u4, u5, u6, u7, u8, u9, u10, u11, u12, u13, u14, u15, u16, u17, u18, u19, u20, u21, u22, u23, u24, u25, u26, u27, u28, u29, u30, u31, u32, u33, u34, u35, u36, u37, u38], defers := [] } ∧ Chg [] w w') (fun a' _ => l.length - (intOf (a'.tmps.getD 2 undef)).toNat) rfl ?_ ?_
  · exact ⟨0, _, _, _, _, _, _, _, _, _, _, _, _, _, _, _, _, _, _, _, _, _, _, _, _, _, _, _, _, _, _, _, _, _, _, _, Nat.zero_le _, by omega, by omega, rfl, Chg.refl _ _⟩
  rintro a' wi ⟨j, u4, u5, u6, u7, u8, u9, u10, u11, u12, u13, u14, u15, u16, u17, u18, u19, u20, u21, u22, u23, u24, u25, u26, u27, u28, u29, u30, u31, u32, u33, u34, u35, u36, u37, u38, hj, h9, hall, rfl, hci⟩
  have HCI := Lib.hid hci; have HA := Lib.hid hall; clear hci hall
  by_cases hlt : j = l.length
  · have hb : ((j : Int) == (l.length : Int)) = true := by simp [hlt]
    have E := Lib.hid (gl_cut l (by omega) (by rw [← hlt]; exact HA.out))
    clear hlt
    go_wp2
    simp only [Exit.jump]
    go_ret2
    exact ⟨by rw [E.out]; rfl, HCI.out⟩
  have hb : ((j : Int) == (l.length : Int)) = false := by simp; omega
  have hjl : j < l.length := by omega
  obtain ⟨x, rfl, hx0⟩ := (HS.out.keep HCI.out).at rfl (by omega)
  have hx := hx0 j hjl
  clear hx0
  obtain ⟨s, hs⟩ : ∃ s, s = l.getD j 0 := ⟨_, rfl⟩
  rw [← hs] at hx
  have hs8 : s < 256 := by rw [hs]; exact HB.out _ (getD_mem hjl)
  have HSJ := Lib.hid hs
  clear hs hlt
  by_cases hov : j = 9 ∧ 1 < s
  · have hb9 : ((j : Int) == 9) = true := by simp; omega
    have hb1 : decide ((1 : Int) < (s : Int)) = true := by simp; omega
    have E := Lib.hid (gl_over l (by omega) (by rw [← hov.1]; exact HA.out) (by rw [← hov.1, ← HSJ.out]; exact hov.2))
    clear hov
    go_wp2
    simp only [Exit.jump]
    go_ret2
    exact ⟨by rw [E.out]; rfl, HCI.out⟩
  have hpick : ((j : Int) == 9) = false ∨ ((j : Int) == 9) = true ∧ decide ((1 : Int) < (s : Int)) = false := by
    by_cases h : j = 9
    · right; simp; omega
    · left; simp; omega
  by_cases h128 : 128 ≤ s
  · have hj9 : j < 9 := by omega
    have hb9 : ((j : Int) == 9) = false := by simp; omega
    have hb8 : decide ((128 : Int) ≤ (s : Int)) = true := by simp; omega
    have hall2 := Lib.hid (show ∀ i, i < j + 1 → 128 ≤ l.getD i 0 from fun i hi => by
      by_cases h : i = j
      · rw [h, ← HSJ.out]; exact h128
      · exact HA.out i (by omega))
    clear hpick hov
    go_wp2
    go_step3
    exact ⟨rfl, ⟨j + 1, _, _, _, _, _, _, _, _, _, _, _, _, _, _, _, _, _, _, _, _, _, _, _, _, _, _, _, _, _, _, _, _, _, _, _, by omega, by omega, hall2.out, rfl, HCI.out⟩, by simp [intOf]; omega⟩
  have hb8 : decide ((128 : Int) ≤ (s : Int)) = false := by simp; omega
  by_cases h0 : s = 0 ∧ 0 < j
  · have E := Lib.hid (gl_bad l j hjl h0.2 h9 HA.out (by rw [← HSJ.out]; exact h0.1))
    obtain ⟨h0, h0j⟩ := h0
    clear hov
    subst h0
    have hb0 : decide (0 < j) = true := by simpa using h0j
    rcases hpick with hb9 | ⟨hb9, hb1⟩
    · go_wp2
      simp only [Exit.jump]
      go_ret2
      exact ⟨by rw [E.out]; rfl, HCI.out⟩
    · go_wp2
      simp only [Exit.jump]
      go_ret2
      exact ⟨by rw [E.out]; rfl, HCI.out⟩
  · have E := Lib.hid (gl_ok l j hjl h9 HA.out (by rw [← HSJ.out]; omega) (by rw [← HSJ.out]; exact hov) (by rw [← HSJ.out]; exact h0))
    have hpk0 : ((s : Int) == 0) = false ∨ ((s : Int) == 0) = true ∧ decide (0 < j) = false := by
      by_cases h : s = 0
      · right; simp; omega
      · left; simp; omega
    clear hov h0
    rcases hpick with hb9 | ⟨hb9, hb1⟩ <;> rcases hpk0 with hb0 | ⟨hb0, hbj⟩
    all_goals
      go_wp2
      simp only [Exit.jump]
      go_ret2
      exact ⟨by rw [E.out]; rfl, HCI.out⟩

end Go.Proofs.Ytkbfbiklnjldgaa

namespace Go.Proofs.Ytkbfbiklnjldgaa
open Go.RowKit
set_option linter.unusedVariables false

theorem push_int (x : Int) (v b : Nat) (w : World) (hx : x = (v : Int)) (hv : v < 144115188075855872) (hb : b < 256) :
    Calls Try.prog 91 #[.int .u64 x, .int .u8 b] w fun e w' => e = .returned (.int .u64 ((b % 128 + 128 * v : Nat) : Int)) ∧ w = w' := by
  rw [hx]; exact push_any v b w hv hb

set_option maxRecDepth 100000 in
set_option maxHeartbeats 1000000 in
theorem join_1 (g off cap : Nat) (x0 : Nat) (w : World) (hc1 : 1 ≤ cap) (hc2 : cap ≤ 2 ^ 63 - 1) (c0 : w.cell? ⟨g, off, none⟩ = some (.int .u8 (x0 : Int))) (b0 : x0 < 256) :
    Calls Try.prog 77 #[.slice (some ⟨g, off, none⟩) 1 cap] w fun e w' => e = .returned (.int .u64 ((x0 % 128 + 128 * (0) : Nat) : Int)) ∧ w = w' := by
  go_enter Try.func77, Try.ntmps77
  go_wp2_with fail
  (with_reducible refine (push_int 0 0 x0 w rfl (by omega) b0).mono ?_)
  rintro e w0 ⟨rfl, rfl⟩
  go_wp2
  go_ret
  refine ⟨ret_int ?_, rfl⟩
  rfl

set_option maxRecDepth 100000 in
set_option maxHeartbeats 1000000 in
theorem join_2 (g off cap : Nat) (x0 x1 : Nat) (w : World) (hc1 : 2 ≤ cap) (hc2 : cap ≤ 2 ^ 63 - 1) (c0 : w.cell? ⟨g, off, none⟩ = some (.int .u8 (x0 : Int))) (c1 : w.cell? ⟨g, off + 1, none⟩ = some (.int .u8 (x1 : Int))) (b0 : x0 < 256) (b1 : x1 < 256) :
    Calls Try.prog 77 #[.slice (some ⟨g, off, none⟩) 2 cap] w fun e w' => e = .returned (.int .u64 ((x0 % 128 + 128 * (x1 % 128 + 128 * (0)) : Nat) : Int)) ∧ w = w' := by
  go_enter Try.func77, Try.ntmps77
  go_wp2_with fail
  (with_reducible refine (push_int 0 0 x1 w rfl (by omega) b1).mono ?_)
  rintro e w1 ⟨rfl, rfl⟩
  obtain ⟨y1, hy1⟩ : ∃ y, y = x1 % 128 + 128 * 0 := ⟨_, rfl⟩
  have l1 : y1 < 128 := by omega
  rw [← hy1]
  have H1 := Lib.hid hy1; clear hy1
  go_wp2_with fail
  (with_reducible refine (push_int _ y1 x0 w rfl (by omega) b0).mono ?_)
  rintro e w0 ⟨rfl, rfl⟩
  go_wp2
  go_ret
  refine ⟨ret_int ?_, rfl⟩
  rw [H1.out]
  omega

set_option maxRecDepth 100000 in
set_option maxHeartbeats 1000000 in
theorem join_3 (g off cap : Nat) (x0 x1 x2 : Nat) (w : World) (hc1 : 3 ≤ cap) (hc2 : cap ≤ 2 ^ 63 - 1) (c0 : w.cell? ⟨g, off, none⟩ = some (.int .u8 (x0 : Int))) (c1 : w.cell? ⟨g, off + 1, none⟩ = some (.int .u8 (x1 : Int))) (c2 : w.cell? ⟨g, off + 2, none⟩ = some (.int .u8 (x2 : Int))) (b0 : x0 < 256) (b1 : x1 < 256) (b2 : x2 < 256) :
    Calls Try.prog 77 #[.slice (some ⟨g, off, none⟩) 3 cap] w fun e w' => e = .returned (.int .u64 ((x0 % 128 + 128 * (x1 % 128 + 128 * (x2 % 128 + 128 * (0))) : Nat) : Int)) ∧ w = w' := by
  go_enter Try.func77, Try.ntmps77
  go_wp2_with fail
  (with_reducible refine (push_int 0 0 x2 w rfl (by omega) b2).mono ?_)
  rintro e w2 ⟨rfl, rfl⟩
  obtain ⟨y2, hy2⟩ : ∃ y, y = x2 % 128 + 128 * 0 := ⟨_, rfl⟩
  have l2 : y2 < 128 := by omega
  rw [← hy2]
  have H2 := Lib.hid hy2; clear hy2
  go_wp2_with fail
  (with_reducible refine (push_int _ y2 x1 w rfl (by omega) b1).mono ?_)
  rintro e w1 ⟨rfl, rfl⟩
  obtain ⟨y1, hy1⟩ : ∃ y, y = x1 % 128 + 128 * y2 := ⟨_, rfl⟩
  have l1 : y1 < 16384 := by omega
  rw [← hy1]
  have H1 := Lib.hid hy1; clear hy1
  go_wp2_with fail
  (with_reducible refine (push_int _ y1 x0 w rfl (by omega) b0).mono ?_)
  rintro e w0 ⟨rfl, rfl⟩
  go_wp2
  go_ret
  refine ⟨ret_int ?_, rfl⟩
  rw [H1.out, H2.out]
  omega

set_option maxRecDepth 100000 in
set_option maxHeartbeats 1000000 in
theorem join_4 (g off cap : Nat) (x0 x1 x2 x3 : Nat) (w : World) (hc1 : 4 ≤ cap) (hc2 : cap ≤ 2 ^ 63 - 1) (c0 : w.cell? ⟨g, off, none⟩ = some (.int .u8 (x0 : Int))) (c1 : w.cell? ⟨g, off + 1, none⟩ = some (.int .u8 (x1 : Int))) (c2 : w.cell? ⟨g, off + 2, none⟩ = some (.int .u8 (x2 : Int))) (c3 : w.cell? ⟨g, off + 3, none⟩ = some (.int .u8 (x3 : Int))) (b0 : x0 < 256) (b1 : x1 < 256) (b2 : x2 < 256) (b3 : x3 < 256) :
    Calls Try.prog 77 #[.slice (some ⟨g, off, none⟩) 4 cap] w fun e w' => e = .returned (.int .u64 ((x0 % 128 + 128 * (x1 % 128 + 128 * (x2 % 128 + 128 * (x3 % 128 + 128 * (0)))) : Nat) : Int)) ∧ w = w' := by
  go_enter Try.func77, Try.ntmps77
  go_wp2_with fail
  (with_reducible refine (push_int 0 0 x3 w rfl (by omega) b3).mono ?_)
  rintro e w3 ⟨rfl, rfl⟩
  obtain ⟨y3, hy3⟩ : ∃ y, y = x3 % 128 + 128 * 0 := ⟨_, rfl⟩
  have l3 : y3 < 128 := by omega
  rw [← hy3]
  have H3 := Lib.hid hy3; clear hy3
  go_wp2_with fail
  (with_reducible refine (push_int _ y3 x2 w rfl (by omega) b2).mono ?_)
  rintro e w2 ⟨rfl, rfl⟩
  obtain ⟨y2, hy2⟩ : ∃ y, y = x2 % 128 + 128 * y3 := ⟨_, rfl⟩
  have l2 : y2 < 16384 := by omega
  rw [← hy2]
  have H2 := Lib.hid hy2; clear hy2
  go_wp2_with fail
  (with_reducible refine (push_int _ y2 x1 w rfl (by omega) b1).mono ?_)
  rintro e w1 ⟨rfl, rfl⟩
  obtain ⟨y1, hy1⟩ : ∃ y, y = x1 % 128 + 128 * y2 := ⟨_, rfl⟩
  have l1 : y1 < 2097152 := by omega
  rw [← hy1]
  have H1 := Lib.hid hy1; clear hy1
  go_wp2_with fail
  (with_reducible refine (push_int _ y1 x0 w rfl (by omega) b0).mono ?_)
  rintro e w0 ⟨rfl, rfl⟩
  go_wp2
  go_ret
  refine ⟨ret_int ?_, rfl⟩
  rw [H1.out, H2.out, H3.out]
  omega

set_option maxRecDepth 100000 in
set_option maxHeartbeats 1000000 in
theorem join_5 (g off cap : Nat) (x0 x1 x2 x3 x4 : Nat) (w : World) (hc1 : 5 ≤ cap) (hc2 : cap ≤ 2 ^ 63 - 1) (c0 : w.cell? ⟨g, off, none⟩ = some (.int .u8 (x0 : Int))) (c1 : w.cell? ⟨g, off + 1, none⟩ = some (.int .u8 (x1 : Int))) (c2 : w.cell? ⟨g, off + 2, none⟩ = some (.int .u8 (x2 : Int))) (c3 : w.cell? ⟨g, off + 3, none⟩ = some (.int .u8 (x3 : Int))) (c4 : w.cell? ⟨g, off + 4, none⟩ = some (.int .u8 (x4 : Int))) (b0 : x0 < 256) (b1 : x1 < 256) (b2 : x2 < 256) (b3 : x3 < 256) (b4 : x4 < 256) :
    Calls Try.prog 77 #[.slice (some ⟨g, off, none⟩) 5 cap] w fun e w' => e = .returned (.int .u64 ((x0 % 128 + 128 * (x1 % 128 + 128 * (x2 % 128 + 128 * (x3 % 128 + 128 * (x4 % 128 + 128 * (0))))) : Nat) : Int)) ∧ w = w' := by
  go_enter Try.func77, Try.ntmps77
  go_wp2_with fail
  (with_reducible refine (push_int 0 0 x4 w rfl (by omega) b4).mono ?_)
  rintro e w4 ⟨rfl, rfl⟩
  obtain ⟨y4, hy4⟩ : ∃ y, y = x4 % 128 + 128 * 0 := ⟨_, rfl⟩
  have l4 : y4 < 128 := by omega
  rw [← hy4]
  have H4 := Lib.hid hy4; clear hy4
  go_wp2_with fail
  (with_reducible refine (push_int _ y4 x3 w rfl (by omega) b3).mono ?_)
  rintro e w3 ⟨rfl, rfl⟩
  obtain ⟨y3, hy3⟩ : ∃ y, y = x3 % 128 + 128 * y4 := ⟨_, rfl⟩
  have l3 : y3 < 16384 := by omega
  rw [← hy3]
  have H3 := Lib.hid hy3; clear hy3
  go_wp2_with fail
  (with_reducible refine (push_int _ y3 x2 w rfl (by omega) b2).mono ?_)
  rintro e w2 ⟨rfl, rfl⟩
  obtain ⟨y2, hy2⟩ : ∃ y, y = x2 % 128 + 128 * y3 := ⟨_, rfl⟩
  have l2 : y2 < 2097152 := by omega
  rw [← hy2]
  have H2 := Lib.hid hy2; clear hy2
  go_wp2_with fail
  (with_reducible refine (push_int _ y2 x1 w rfl (by omega) b1).mono ?_)
  rintro e w1 ⟨rfl, rfl⟩
  obtain ⟨y1, hy1⟩ : ∃ y, y = x1 % 128 + 128 * y2 := ⟨_, rfl⟩
  have l1 : y1 < 268435456 := by omega
  rw [← hy1]
  have H1 := Lib.hid hy1; clear hy1
  go_wp2_with fail
  (with_reducible refine (push_int _ y1 x0 w rfl (by omega) b0).mono ?_)
  rintro e w0 ⟨rfl, rfl⟩
  go_wp2
  go_ret
  refine ⟨ret_int ?_, rfl⟩
  rw [H1.out, H2.out, H3.out, H4.out]
  omega

set_option maxRecDepth 100000 in
set_option maxHeartbeats 1000000 in
theorem join_6 (g off cap : Nat) (x0 x1 x2 x3 x4 x5 : Nat) (w : World) (hc1 : 6 ≤ cap) (hc2 : cap ≤ 2 ^ 63 - 1) (c0 : w.cell? ⟨g, off, none⟩ = some (.int .u8 (x0 : Int))) (c1 : w.cell? ⟨g, off + 1, none⟩ = some (.int .u8 (x1 : Int))) (c2 : w.cell? ⟨g, off + 2, none⟩ = some (.int .u8 (x2 : Int))) (c3 : w.cell? ⟨g, off + 3, none⟩ = some (.int .u8 (x3 : Int))) (c4 : w.cell? ⟨g, off + 4, none⟩ = some (.int .u8 (x4 : Int))) (c5 : w.cell? ⟨g, off + 5, none⟩ = some (.int .u8 (x5 : Int))) (b0 : x0 < 256) (b1 : x1 < 256) (b2 : x2 < 256) (b3 : x3 < 256) (b4 : x4 < 256) (b5 : x5 < 256) :
    Calls Try.prog 77 #[.slice (some ⟨g, off, none⟩) 6 cap] w fun e w' => e = .returned (.int .u64 ((x0 % 128 + 128 * (x1 % 128 + 128 * (x2 % 128 + 128 * (x3 % 128 + 128 * (x4 % 128 + 128 * (x5 % 128 + 128 * (0)))))) : Nat) : Int)) ∧ w = w' := by
  go_enter Try.func77, Try.ntmps77
  go_wp2_with fail
  (with_reducible refine (push_int 0 0 x5 w rfl (by omega) b5).mono ?_)
  rintro e w5 ⟨rfl, rfl⟩
  obtain ⟨y5, hy5⟩ : ∃ y, y = x5 % 128 + 128 * 0 := ⟨_, rfl⟩
  have l5 : y5 < 128 := by omega
  rw [← hy5]
  have H5 := Lib.hid hy5; clear hy5
  go_wp2_with fail
  (with_reducible refine (push_int _ y5 x4 w rfl (by omega) b4).mono ?_)
  rintro e w4 ⟨rfl, rfl⟩
  obtain ⟨y4, hy4⟩ : ∃ y, y = x4 % 128 + 128 * y5 := ⟨_, rfl⟩
  have l4 : y4 < 16384 := by omega
  rw [← hy4]
  have H4 := Lib.hid hy4; clear hy4
  go_wp2_with fail
  (with_reducible refine (push_int _ y4 x3 w rfl (by omega) b3).mono ?_)
  rintro e w3 ⟨rfl, rfl⟩
  obtain ⟨y3, hy3⟩ : ∃ y, y = x3 % 128 + 128 * y4 := ⟨_, rfl⟩
  have l3 : y3 < 2097152 := by omega
  rw [← hy3]
  have H3 := Lib.hid hy3; clear hy3
  go_wp2_with fail
  (with_reducible refine (push_int _ y3 x2 w rfl (by omega) b2).mono ?_)
  rintro e w2 ⟨rfl, rfl⟩
  obtain ⟨y2, hy2⟩ : ∃ y, y = x2 % 128 + 128 * y3 := ⟨_, rfl⟩
  have l2 : y2 < 268435456 := by omega
  rw [← hy2]
  have H2 := Lib.hid hy2; clear hy2
  go_wp2_with fail
  (with_reducible refine (push_int _ y2 x1 w rfl (by omega) b1).mono ?_)
  rintro e w1 ⟨rfl, rfl⟩
  obtain ⟨y1, hy1⟩ : ∃ y, y = x1 % 128 + 128 * y2 := ⟨_, rfl⟩
  have l1 : y1 < 34359738368 := by omega
  rw [← hy1]
  have H1 := Lib.hid hy1; clear hy1
  go_wp2_with fail
  (with_reducible refine (push_int _ y1 x0 w rfl (by omega) b0).mono ?_)
  rintro e w0 ⟨rfl, rfl⟩
  go_wp2
  go_ret
  refine ⟨ret_int ?_, rfl⟩
  rw [H1.out, H2.out, H3.out, H4.out, H5.out]
  omega

set_option maxRecDepth 100000 in
set_option maxHeartbeats 1000000 in
theorem join_7 (g off cap : Nat) (x0 x1 x2 x3 x4 x5 x6 : Nat) (w : World) (hc1 : 7 ≤ cap) (hc2 : cap ≤ 2 ^ 63 - 1) (c0 : w.cell? ⟨g, off, none⟩ = some (.int .u8 (x0 : Int))) (c1 : w.cell? ⟨g, off + 1, none⟩ = some (.int .u8 (x1 : Int))) (c2 : w.cell? ⟨g, off + 2, none⟩ = some (.int .u8 (x2 : Int))) (c3 : w.cell? ⟨g, off + 3, none⟩ = some (.int .u8 (x3 : Int))) (c4 : w.cell? ⟨g, off + 4, none⟩ = some (.int .u8 (x4 : Int))) (c5 : w.cell? ⟨g, off + 5, none⟩ = some (.int .u8 (x5 : Int))) (c6 : w.cell? ⟨g, off + 6, none⟩ = some (.int .u8 (x6 : Int))) (b0 : x0 < 256) (b1 : x1 < 256) (b2 : x2 < 256) (b3 : x3 < 256) (b4 : x4 < 256) (b5 : x5 < 256) (b6 : x6 < 256) :
    Calls Try.prog 77 #[.slice (some ⟨g, off, none⟩) 7 cap] w fun e w' => e = .returned (.int .u64 ((x0 % 128 + 128 * (x1 % 128 + 128 * (x2 % 128 + 128 * (x3 % 128 + 128 * (x4 % 128 + 128 * (x5 % 128 + 128 * (x6 % 128 + 128 * (0))))))) : Nat) : Int)) ∧ w = w' := by
  go_enter Try.func77, Try.ntmps77
  go_wp2_with fail
  (with_reducible refine (push_int 0 0 x6 w rfl (by omega) b6).mono ?_)
  rintro e w6 ⟨rfl, rfl⟩
  obtain ⟨y6, hy6⟩ : ∃ y, y = x6 % 128 + 128 * 0 := ⟨_, rfl⟩
  have l6 : y6 < 128 := by omega
  rw [← hy6]
  have H6 := Lib.hid hy6; clear hy6
  go_wp2_with fail
  (with_reducible refine (push_int _ y6 x5 w rfl (by omega) b5).mono ?_)
  rintro e w5 ⟨rfl, rfl⟩
  obtain ⟨y5, hy5⟩ : ∃ y, y = x5 % 128 + 128 * y6 := ⟨_, rfl⟩
  have l5 : y5 < 16384 := by omega
  rw [← hy5]
  have H5 := Lib.hid hy5; clear hy5
  go_wp2_with fail
  (with_reducible refine (push_int _ y5 x4 w rfl (by omega) b4).mono ?_)
  rintro e w4 ⟨rfl, rfl⟩
  obtain ⟨y4, hy4⟩ : ∃ y, y = x4 % 128 + 128 * y5 := ⟨_, rfl⟩
  have l4 : y4 < 2097152 := by omega
  rw [← hy4]
  have H4 := Lib.hid hy4; clear hy4
  go_wp2_with fail
  (with_reducible refine (push_int _ y4 x3 w rfl (by omega) b3).mono ?_)
  rintro e w3 ⟨rfl, rfl⟩
  obtain ⟨y3, hy3⟩ : ∃ y, y = x3 % 128 + 128 * y4 := ⟨_, rfl⟩
  have l3 : y3 < 268435456 := by omega
  rw [← hy3]
  have H3 := Lib.hid hy3; clear hy3
  go_wp2_with fail
  (with_reducible refine (push_int _ y3 x2 w rfl (by omega) b2).mono ?_)
  rintro e w2 ⟨rfl, rfl⟩
  obtain ⟨y2, hy2⟩ : ∃ y, y = x2 % 128 + 128 * y3 := ⟨_, rfl⟩
  have l2 : y2 < 34359738368 := by omega
  rw [← hy2]
  have H2 := Lib.hid hy2; clear hy2
  go_wp2_with fail
  (with_reducible refine (push_int _ y2 x1 w rfl (by omega) b1).mono ?_)
  rintro e w1 ⟨rfl, rfl⟩
  obtain ⟨y1, hy1⟩ : ∃ y, y = x1 % 128 + 128 * y2 := ⟨_, rfl⟩
  have l1 : y1 < 4398046511104 := by omega
  rw [← hy1]
  have H1 := Lib.hid hy1; clear hy1
  go_wp2_with fail
  (with_reducible refine (push_int _ y1 x0 w rfl (by omega) b0).mono ?_)
  rintro e w0 ⟨rfl, rfl⟩
  go_wp2
  go_ret
  refine ⟨ret_int ?_, rfl⟩
  rw [H1.out, H2.out, H3.out, H4.out, H5.out, H6.out]
  omega

set_option maxRecDepth 100000 in
set_option maxHeartbeats 1000000 in
theorem join_8 (g off cap : Nat) (x0 x1 x2 x3 x4 x5 x6 x7 : Nat) (w : World) (hc1 : 8 ≤ cap) (hc2 : cap ≤ 2 ^ 63 - 1) (c0 : w.cell? ⟨g, off, none⟩ = some (.int .u8 (x0 : Int))) (c1 : w.cell? ⟨g, off + 1, none⟩ = some (.int .u8 (x1 : Int))) (c2 : w.cell? ⟨g, off + 2, none⟩ = some (.int .u8 (x2 : Int))) (c3 : w.cell? ⟨g, off + 3, none⟩ = some (.int .u8 (x3 : Int))) (c4 : w.cell? ⟨g, off + 4, none⟩ = some (.int .u8 (x4 : Int))) (c5 : w.cell? ⟨g, off + 5, none⟩ = some (.int .u8 (x5 : Int))) (c6 : w.cell? ⟨g, off + 6, none⟩ = some (.int .u8 (x6 : Int))) (c7 : w.cell? ⟨g, off + 7, none⟩ = some (.int .u8 (x7 : Int))) (b0 : x0 < 256) (b1 : x1 < 256) (b2 : x2 < 256) (b3 : x3 < 256) (b4 : x4 < 256) (b5 : x5 < 256) (b6 : x6 < 256) (b7 : x7 < 256) :
    Calls Try.prog 77 #[.slice (some ⟨g, off, none⟩) 8 cap] w fun e w' => e = .returned (.int .u64 ((x0 % 128 + 128 * (x1 % 128 + 128 * (x2 % 128 + 128 * (x3 % 128 + 128 * (x4 % 128 + 128 * (x5 % 128 + 128 * (x6 % 128 + 128 * (x7 % 128 + 128 * (0)))))))) : Nat) : Int)) ∧ w = w' := by
  go_enter Try.func77, Try.ntmps77
  go_wp2_with fail
  (with_reducible refine (push_int 0 0 x7 w rfl (by omega) b7).mono ?_)
  rintro e w7 ⟨rfl, rfl⟩
  obtain ⟨y7, hy7⟩ : ∃ y, y = x7 % 128 + 128 * 0 := ⟨_, rfl⟩
  have l7 : y7 < 128 := by omega
  rw [← hy7]
  have H7 := Lib.hid hy7; clear hy7
  go_wp2_with fail
  (with_reducible refine (push_int _ y7 x6 w rfl (by omega) b6).mono ?_)
  rintro e w6 ⟨rfl, rfl⟩
  obtain ⟨y6, hy6⟩ : ∃ y, y = x6 % 128 + 128 * y7 := ⟨_, rfl⟩
  have l6 : y6 < 16384 := by omega
  rw [← hy6]
  have H6 := Lib.hid hy6; clear hy6
  go_wp2_with fail
  (with_reducible refine (push_int _ y6 x5 w rfl (by omega) b5).mono ?_)
  rintro e w5 ⟨rfl, rfl⟩
  obtain ⟨y5, hy5⟩ : ∃ y, y = x5 % 128 + 128 * y6 := ⟨_, rfl⟩
  have l5 : y5 < 2097152 := by omega
  rw [← hy5]
  have H5 := Lib.hid hy5; clear hy5
  go_wp2_with fail
  (with_reducible refine (push_int _ y5 x4 w rfl (by omega) b4).mono ?_)
  rintro e w4 ⟨rfl, rfl⟩
  obtain ⟨y4, hy4⟩ : ∃ y, y = x4 % 128 + 128 * y5 := ⟨_, rfl⟩
  have l4 : y4 < 268435456 := by omega
  rw [← hy4]
  have H4 := Lib.hid hy4; clear hy4
  go_wp2_with fail
  (with_reducible refine (push_int _ y4 x3 w rfl (by omega) b3).mono ?_)
  rintro e w3 ⟨rfl, rfl⟩
  obtain ⟨y3, hy3⟩ : ∃ y, y = x3 % 128 + 128 * y4 := ⟨_, rfl⟩
  have l3 : y3 < 34359738368 := by omega
  rw [← hy3]
  have H3 := Lib.hid hy3; clear hy3
  go_wp2_with fail
  (with_reducible refine (push_int _ y3 x2 w rfl (by omega) b2).mono ?_)
  rintro e w2 ⟨rfl, rfl⟩
  obtain ⟨y2, hy2⟩ : ∃ y, y = x2 % 128 + 128 * y3 := ⟨_, rfl⟩
  have l2 : y2 < 4398046511104 := by omega
  rw [← hy2]
  have H2 := Lib.hid hy2; clear hy2
  go_wp2_with fail
  (with_reducible refine (push_int _ y2 x1 w rfl (by omega) b1).mono ?_)
  rintro e w1 ⟨rfl, rfl⟩
  obtain ⟨y1, hy1⟩ : ∃ y, y = x1 % 128 + 128 * y2 := ⟨_, rfl⟩
  have l1 : y1 < 562949953421312 := by omega
  rw [← hy1]
  have H1 := Lib.hid hy1; clear hy1
  go_wp2_with fail
  (with_reducible refine (push_int _ y1 x0 w rfl (by omega) b0).mono ?_)
  rintro e w0 ⟨rfl, rfl⟩
  go_wp2
  go_ret
  refine ⟨ret_int ?_, rfl⟩
  rw [H1.out, H2.out, H3.out, H4.out, H5.out, H6.out, H7.out]
  omega

set_option maxRecDepth 100000 in
set_option maxHeartbeats 1000000 in
theorem join_9 (g off cap : Nat) (x0 x1 x2 x3 x4 x5 x6 x7 x8 : Nat) (w : World) (hc1 : 9 ≤ cap) (hc2 : cap ≤ 2 ^ 63 - 1) (c0 : w.cell? ⟨g, off, none⟩ = some (.int .u8 (x0 : Int))) (c1 : w.cell? ⟨g, off + 1, none⟩ = some (.int .u8 (x1 : Int))) (c2 : w.cell? ⟨g, off + 2, none⟩ = some (.int .u8 (x2 : Int))) (c3 : w.cell? ⟨g, off + 3, none⟩ = some (.int .u8 (x3 : Int))) (c4 : w.cell? ⟨g, off + 4, none⟩ = some (.int .u8 (x4 : Int))) (c5 : w.cell? ⟨g, off + 5, none⟩ = some (.int .u8 (x5 : Int))) (c6 : w.cell? ⟨g, off + 6, none⟩ = some (.int .u8 (x6 : Int))) (c7 : w.cell? ⟨g, off + 7, none⟩ = some (.int .u8 (x7 : Int))) (c8 : w.cell? ⟨g, off + 8, none⟩ = some (.int .u8 (x8 : Int))) (b0 : x0 < 256) (b1 : x1 < 256) (b2 : x2 < 256) (b3 : x3 < 256) (b4 : x4 < 256) (b5 : x5 < 256) (b6 : x6 < 256) (b7 : x7 < 256) (b8 : x8 < 256) :
    Calls Try.prog 77 #[.slice (some ⟨g, off, none⟩) 9 cap] w fun e w' => e = .returned (.int .u64 ((x0 % 128 + 128 * (x1 % 128 + 128 * (x2 % 128 + 128 * (x3 % 128 + 128 * (x4 % 128 + 128 * (x5 % 128 + 128 * (x6 % 128 + 128 * (x7 % 128 + 128 * (x8 % 128 + 128 * (0))))))))) : Nat) : Int)) ∧ w = w' := by
  go_enter Try.func77, Try.ntmps77
  go_wp2_with fail
  (with_reducible refine (push_int 0 0 x8 w rfl (by omega) b8).mono ?_)
  rintro e w8 ⟨rfl, rfl⟩
  obtain ⟨y8, hy8⟩ : ∃ y, y = x8 % 128 + 128 * 0 := ⟨_, rfl⟩
  have l8 : y8 < 128 := by omega
  rw [← hy8]
  have H8 := Lib.hid hy8; clear hy8
  go_wp2_with fail
  (with_reducible refine (push_int _ y8 x7 w rfl (by omega) b7).mono ?_)
  rintro e w7 ⟨rfl, rfl⟩
  obtain ⟨y7, hy7⟩ : ∃ y, y = x7 % 128 + 128 * y8 := ⟨_, rfl⟩
  have l7 : y7 < 16384 := by omega
  rw [← hy7]
  have H7 := Lib.hid hy7; clear hy7
  go_wp2_with fail
  (with_reducible refine (push_int _ y7 x6 w rfl (by omega) b6).mono ?_)
  rintro e w6 ⟨rfl, rfl⟩
  obtain ⟨y6, hy6⟩ : ∃ y, y = x6 % 128 + 128 * y7 := ⟨_, rfl⟩
  have l6 : y6 < 2097152 := by omega
  rw [← hy6]
  have H6 := Lib.hid hy6; clear hy6
  go_wp2_with fail
  (with_reducible refine (push_int _ y6 x5 w rfl (by omega) b5).mono ?_)
  rintro e w5 ⟨rfl, rfl⟩
  obtain ⟨y5, hy5⟩ : ∃ y, y = x5 % 128 + 128 * y6 := ⟨_, rfl⟩
  have l5 : y5 < 268435456 := by omega
  rw [← hy5]
  have H5 := Lib.hid hy5; clear hy5
  go_wp2_with fail
  (with_reducible refine (push_int _ y5 x4 w rfl (by omega) b4).mono ?_)
  rintro e w4 ⟨rfl, rfl⟩
  obtain ⟨y4, hy4⟩ : ∃ y, y = x4 % 128 + 128 * y5 := ⟨_, rfl⟩
  have l4 : y4 < 34359738368 := by omega
  rw [← hy4]
  have H4 := Lib.hid hy4; clear hy4
  go_wp2_with fail
  (with_reducible refine (push_int _ y4 x3 w rfl (by omega) b3).mono ?_)
  rintro e w3 ⟨rfl, rfl⟩
  obtain ⟨y3, hy3⟩ : ∃ y, y = x3 % 128 + 128 * y4 := ⟨_, rfl⟩
  have l3 : y3 < 4398046511104 := by omega
  rw [← hy3]
  have H3 := Lib.hid hy3; clear hy3
  go_wp2_with fail
  (with_reducible refine (push_int _ y3 x2 w rfl (by omega) b2).mono ?_)
  rintro e w2 ⟨rfl, rfl⟩
  obtain ⟨y2, hy2⟩ : ∃ y, y = x2 % 128 + 128 * y3 := ⟨_, rfl⟩
  have l2 : y2 < 562949953421312 := by omega
  rw [← hy2]
  have H2 := Lib.hid hy2; clear hy2
  go_wp2_with fail
  (with_reducible refine (push_int _ y2 x1 w rfl (by omega) b1).mono ?_)
  rintro e w1 ⟨rfl, rfl⟩
  obtain ⟨y1, hy1⟩ : ∃ y, y = x1 % 128 + 128 * y2 := ⟨_, rfl⟩
  have l1 : y1 < 72057594037927936 := by omega
  rw [← hy1]
  have H1 := Lib.hid hy1; clear hy1
  go_wp2_with fail
  (with_reducible refine (push_int _ y1 x0 w rfl (by omega) b0).mono ?_)
  rintro e w0 ⟨rfl, rfl⟩
  go_wp2
  go_ret
  refine ⟨ret_int ?_, rfl⟩
  rw [H1.out, H2.out, H3.out, H4.out, H5.out, H6.out, H7.out, H8.out]
  omega

set_option maxRecDepth 100000 in
set_option maxHeartbeats 1000000 in
theorem join_10 (g off cap : Nat) (x0 x1 x2 x3 x4 x5 x6 x7 x8 x9 : Nat) (w : World) (hc1 : 10 ≤ cap) (hc2 : cap ≤ 2 ^ 63 - 1) (c0 : w.cell? ⟨g, off, none⟩ = some (.int .u8 (x0 : Int))) (c1 : w.cell? ⟨g, off + 1, none⟩ = some (.int .u8 (x1 : Int))) (c2 : w.cell? ⟨g, off + 2, none⟩ = some (.int .u8 (x2 : Int))) (c3 : w.cell? ⟨g, off + 3, none⟩ = some (.int .u8 (x3 : Int))) (c4 : w.cell? ⟨g, off + 4, none⟩ = some (.int .u8 (x4 : Int))) (c5 : w.cell? ⟨g, off + 5, none⟩ = some (.int .u8 (x5 : Int))) (c6 : w.cell? ⟨g, off + 6, none⟩ = some (.int .u8 (x6 : Int))) (c7 : w.cell? ⟨g, off + 7, none⟩ = some (.int .u8 (x7 : Int))) (c8 : w.cell? ⟨g, off + 8, none⟩ = some (.int .u8 (x8 : Int))) (c9 : w.cell? ⟨g, off + 9, none⟩ = some (.int .u8 (x9 : Int))) (b0 : x0 < 256) (b1 : x1 < 256) (b2 : x2 < 256) (b3 : x3 < 256) (b4 : x4 < 256) (b5 : x5 < 256) (b6 : x6 < 256) (b7 : x7 < 256) (b8 : x8 < 256) (b9 : x9 < 256) (h9 : x9 ≤ 1) :
    Calls Try.prog 77 #[.slice (some ⟨g, off, none⟩) 10 cap] w fun e w' => e = .returned (.int .u64 ((x0 % 128 + 128 * (x1 % 128 + 128 * (x2 % 128 + 128 * (x3 % 128 + 128 * (x4 % 128 + 128 * (x5 % 128 + 128 * (x6 % 128 + 128 * (x7 % 128 + 128 * (x8 % 128 + 128 * (x9 % 128 + 128 * (0)))))))))) : Nat) : Int)) ∧ w = w' := by
  go_enter Try.func77, Try.ntmps77
  go_wp2_with fail
  (with_reducible refine (push_int 0 0 x9 w rfl (by omega) b9).mono ?_)
  rintro e w9 ⟨rfl, rfl⟩
  obtain ⟨y9, hy9⟩ : ∃ y, y = x9 % 128 + 128 * 0 := ⟨_, rfl⟩
  have l9 : y9 < 2 := by omega
  rw [← hy9]
  have H9 := Lib.hid hy9; clear hy9
  go_wp2_with fail
  (with_reducible refine (push_int _ y9 x8 w rfl (by omega) b8).mono ?_)
  rintro e w8 ⟨rfl, rfl⟩
  obtain ⟨y8, hy8⟩ : ∃ y, y = x8 % 128 + 128 * y9 := ⟨_, rfl⟩
  have l8 : y8 < 256 := by omega
  rw [← hy8]
  have H8 := Lib.hid hy8; clear hy8
  go_wp2_with fail
  (with_reducible refine (push_int _ y8 x7 w rfl (by omega) b7).mono ?_)
  rintro e w7 ⟨rfl, rfl⟩
  obtain ⟨y7, hy7⟩ : ∃ y, y = x7 % 128 + 128 * y8 := ⟨_, rfl⟩
  have l7 : y7 < 32768 := by omega
  rw [← hy7]
  have H7 := Lib.hid hy7; clear hy7
  go_wp2_with fail
  (with_reducible refine (push_int _ y7 x6 w rfl (by omega) b6).mono ?_)
  rintro e w6 ⟨rfl, rfl⟩
  obtain ⟨y6, hy6⟩ : ∃ y, y = x6 % 128 + 128 * y7 := ⟨_, rfl⟩
  have l6 : y6 < 4194304 := by omega
  rw [← hy6]
  have H6 := Lib.hid hy6; clear hy6
  go_wp2_with fail
  (with_reducible refine (push_int _ y6 x5 w rfl (by omega) b5).mono ?_)
  rintro e w5 ⟨rfl, rfl⟩
  obtain ⟨y5, hy5⟩ : ∃ y, y = x5 % 128 + 128 * y6 := ⟨_, rfl⟩
  have l5 : y5 < 536870912 := by omega
  rw [← hy5]
  have H5 := Lib.hid hy5; clear hy5
  go_wp2_with fail
  (with_reducible refine (push_int _ y5 x4 w rfl (by omega) b4).mono ?_)
  rintro e w4 ⟨rfl, rfl⟩
  obtain ⟨y4, hy4⟩ : ∃ y, y = x4 % 128 + 128 * y5 := ⟨_, rfl⟩
  have l4 : y4 < 68719476736 := by omega
  rw [← hy4]
  have H4 := Lib.hid hy4; clear hy4
  go_wp2_with fail
  (with_reducible refine (push_int _ y4 x3 w rfl (by omega) b3).mono ?_)
  rintro e w3 ⟨rfl, rfl⟩
  obtain ⟨y3, hy3⟩ : ∃ y, y = x3 % 128 + 128 * y4 := ⟨_, rfl⟩
  have l3 : y3 < 8796093022208 := by omega
  rw [← hy3]
  have H3 := Lib.hid hy3; clear hy3
  go_wp2_with fail
  (with_reducible refine (push_int _ y3 x2 w rfl (by omega) b2).mono ?_)
  rintro e w2 ⟨rfl, rfl⟩
  obtain ⟨y2, hy2⟩ : ∃ y, y = x2 % 128 + 128 * y3 := ⟨_, rfl⟩
  have l2 : y2 < 1125899906842624 := by omega
  rw [← hy2]
  have H2 := Lib.hid hy2; clear hy2
  go_wp2_with fail
  (with_reducible refine (push_int _ y2 x1 w rfl (by omega) b1).mono ?_)
  rintro e w1 ⟨rfl, rfl⟩
  obtain ⟨y1, hy1⟩ : ∃ y, y = x1 % 128 + 128 * y2 := ⟨_, rfl⟩
  have l1 : y1 < 144115188075855872 := by omega
  rw [← hy1]
  have H1 := Lib.hid hy1; clear hy1
  go_wp2_with fail
  (with_reducible refine (push_int _ y1 x0 w rfl (by omega) b0).mono ?_)
  rintro e w0 ⟨rfl, rfl⟩
  go_wp2
  go_ret
  refine ⟨ret_int ?_, rfl⟩
  rw [H1.out, H2.out, H3.out, H4.out, H5.out, H6.out, H7.out, H8.out, H9.out]
  omega

theorem join_any (bv : Value) (l : List Nat) (w : World) (hS : Seen w bv (nv .u8 l)) (hb : ∀ x ∈ l, x < 2 ^ 8) (h1 : 1 ≤ l.length) (h2 : l.length ≤ 10) (h3 : l.getD 9 0 ≤ 1) :
    Calls Try.prog 77 #[bv] w fun e w' => e = .returned (.int .u64 (vv l : Nat)) ∧ w = w' := by
  obtain ⟨ao, cap, rfl, hc1, hc2⟩ := hS.shape
  rw [nv_length] at hc1 hS
  rw [nv_length]
  obtain ⟨g, off, rfl, hx⟩ := hS.at0 rfl (by omega)
  unfold maxLen at hc2
  clear hS
  rcases l with _ | ⟨x0, l⟩
  · simp at h1
  rcases l with _ | ⟨x1, l⟩
  · exact join_1 g off cap x0 w hc1 hc2 (hx 0 (by simp)) (hb x0 (by simp))
  rcases l with _ | ⟨x2, l⟩
  · exact join_2 g off cap x0 x1 w hc1 hc2 (hx 0 (by simp)) (hx 1 (by simp)) (hb x0 (by simp)) (hb x1 (by simp))
  rcases l with _ | ⟨x3, l⟩
  · exact join_3 g off cap x0 x1 x2 w hc1 hc2 (hx 0 (by simp)) (hx 1 (by simp)) (hx 2 (by simp)) (hb x0 (by simp)) (hb x1 (by simp)) (hb x2 (by simp))
  rcases l with _ | ⟨x4, l⟩
  · exact join_4 g off cap x0 x1 x2 x3 w hc1 hc2 (hx 0 (by simp)) (hx 1 (by simp)) (hx 2 (by simp)) (hx 3 (by simp)) (hb x0 (by simp)) (hb x1 (by simp)) (hb x2 (by simp)) (hb x3 (by simp))
  rcases l with _ | ⟨x5, l⟩
  · exact join_5 g off cap x0 x1 x2 x3 x4 w hc1 hc2 (hx 0 (by simp)) (hx 1 (by simp)) (hx 2 (by simp)) (hx 3 (by simp)) (hx 4 (by simp)) (hb x0 (by simp)) (hb x1 (by simp)) (hb x2 (by simp)) (hb x3 (by simp)) (hb x4 (by simp))
  rcases l with _ | ⟨x6, l⟩
  · exact join_6 g off cap x0 x1 x2 x3 x4 x5 w hc1 hc2 (hx 0 (by simp)) (hx 1 (by simp)) (hx 2 (by simp)) (hx 3 (by simp)) (hx 4 (by simp)) (hx 5 (by simp)) (hb x0 (by simp)) (hb x1 (by simp)) (hb x2 (by simp)) (hb x3 (by simp)) (hb x4 (by simp)) (hb x5 (by simp))
  rcases l with _ | ⟨x7, l⟩
  · exact join_7 g off cap x0 x1 x2 x3 x4 x5 x6 w hc1 hc2 (hx 0 (by simp)) (hx 1 (by simp)) (hx 2 (by simp)) (hx 3 (by simp)) (hx 4 (by simp)) (hx 5 (by simp)) (hx 6 (by simp)) (hb x0 (by simp)) (hb x1 (by simp)) (hb x2 (by simp)) (hb x3 (by simp)) (hb x4 (by simp)) (hb x5 (by simp)) (hb x6 (by simp))
  rcases l with _ | ⟨x8, l⟩
  · exact join_8 g off cap x0 x1 x2 x3 x4 x5 x6 x7 w hc1 hc2 (hx 0 (by simp)) (hx 1 (by simp)) (hx 2 (by simp)) (hx 3 (by simp)) (hx 4 (by simp)) (hx 5 (by simp)) (hx 6 (by simp)) (hx 7 (by simp)) (hb x0 (by simp)) (hb x1 (by simp)) (hb x2 (by simp)) (hb x3 (by simp)) (hb x4 (by simp)) (hb x5 (by simp)) (hb x6 (by simp)) (hb x7 (by simp))
  rcases l with _ | ⟨x9, l⟩
  · exact join_9 g off cap x0 x1 x2 x3 x4 x5 x6 x7 x8 w hc1 hc2 (hx 0 (by simp)) (hx 1 (by simp)) (hx 2 (by simp)) (hx 3 (by simp)) (hx 4 (by simp)) (hx 5 (by simp)) (hx 6 (by simp)) (hx 7 (by simp)) (hx 8 (by simp)) (hb x0 (by simp)) (hb x1 (by simp)) (hb x2 (by simp)) (hb x3 (by simp)) (hb x4 (by simp)) (hb x5 (by simp)) (hb x6 (by simp)) (hb x7 (by simp)) (hb x8 (by simp))
  rcases l with _ | ⟨x10, l⟩
  · exact join_10 g off cap x0 x1 x2 x3 x4 x5 x6 x7 x8 x9 w hc1 hc2 (hx 0 (by simp)) (hx 1 (by simp)) (hx 2 (by simp)) (hx 3 (by simp)) (hx 4 (by simp)) (hx 5 (by simp)) (hx 6 (by simp)) (hx 7 (by simp)) (hx 8 (by simp)) (hx 9 (by simp)) (hb x0 (by simp)) (hb x1 (by simp)) (hb x2 (by simp)) (hb x3 (by simp)) (hb x4 (by simp)) (hb x5 (by simp)) (hb x6 (by simp)) (hb x7 (by simp)) (hb x8 (by simp)) (hb x9 (by simp)) h3
  · simp at h2

end Go.Proofs.Ytkbfbiklnjldgaa

namespace Go.Proofs.Ytkbfbiklnjldgaa
open Go.RowKit
set_option linter.unusedVariables false

theorem gl_nine (l : List Nat) (h : (gl 0 l).2 = 0) : (l.take (gl 0 l).1).getD 9 0 ≤ 1 := by
  have hn := gl_len 0 l (by omega) h
  by_cases h10 : (gl 0 l).1 = 10
  · by_cases hc : ∃ j, j < 9 ∧ ¬ 128 ≤ l.getD j 0
    · exfalso
      obtain ⟨j, hj, h128, hmin⟩ : ∃ j, j < 9 ∧ ¬ 128 ≤ l.getD j 0 ∧ ∀ i, i < j → 128 ≤ l.getD i 0 := by
        obtain ⟨j, hj⟩ := hc
        induction j using Nat.strongRecOn with
        | _ j ih =>
          by_cases hm : ∃ i, i < j ∧ ¬ 128 ≤ l.getD i 0
          · obtain ⟨i, hi, hi2⟩ := hm
            exact ih i hi ⟨by omega, hi2⟩
          · exact ⟨j, hj.1, hj.2, fun i hi => by
              rcases Nat.lt_or_ge (l.getD i 0) 128 with h | h
              · exact absurd ⟨i, hi, by omega⟩ hm
              · exact h⟩
      have hs := gl_step l j (by omega) (by omega) hmin
      rw [gl_at l j (by omega), if_neg (by omega), if_neg h128] at hs
      rw [hs] at h10
      unfold up at h10
      split at h10 <;> simp at h10
      omega
    · have hall : ∀ i, i < 9 → 128 ≤ l.getD i 0 := fun i hi => by
        rcases Nat.lt_or_ge (l.getD i 0) 128 with h | h
        · exact absurd ⟨i, hi, by omega⟩ hc
        · exact h
      by_cases h9 : 1 < l.getD 9 0
      · rw [gl_over l (by omega) hall h9] at h10
        simp at h10
      · rw [h10]
        have : (l.take 10).getD 9 0 = l.getD 9 0 := by simp [List.getD]
        omega
  · have : (l.take (gl 0 l).1).getD 9 0 = 0 := by
      simp only [List.getD, List.getElem?_take]
      rw [if_neg (by omega)]; rfl
    omega

/-- What Get tells. -/
def GetOut (l : List Nat) (w : World) (e : Ending) (w' : World) : Prop := e = .returned (.tuple #[.int .u64 (gv l : Nat), .int .i64 ((gl 0 l).1 : Nat), .int .i64 ((gl 0 l).2 : Nat)]) ∧ Chg [] w w'

set_option maxRecDepth 100000 in
set_option maxHeartbeats 1000000 in
theorem get_any (bv : Value) (l : List Nat) (w : World) (hS : Seen w bv (nv .u8 l)) (hb : ∀ x ∈ l, x < 2 ^ 8) :
    Calls Try.prog 48 #[bv] w (GetOut l w) := by
  have hS0 := Lib.hid hS
  obtain ⟨ao, cap, rfl, hc1, hc2⟩ := hS.shape
  rw [nv_length] at hc1 hS
  rw [nv_length]
  have HS := Lib.hid hS; have HB := Lib.hid hb; clear hS hb hS0
  unfold maxLen at hc2
  have hgv : Hid (∀ n e, gl 0 l = (n, e) → gv l = if e = 0 then vv (l.take n) else 0) := Lib.hid (fun n e h => by unfold gv; rw [h])
  have hgl := Lib.hid (gl_len 0 l (by omega)); have hgz := Lib.hid (gl_zero 0 l); have hg9 := Lib.hid (gl_nine l); have hge := gl_err 0 l
  unfold GetOut
  go_enter Try.func48, Try.ntmps48
  go_wp2_with fail
  (with_reducible refine (length_any _ l w HS.out HB.out).mono ?_)
  rintro e w1 ⟨rfl, hc⟩
  have HC := Lib.hid hc; clear hc
  obtain ⟨n, hn⟩ : ∃ n, n = (gl 0 l).1 := ⟨_, rfl⟩
  obtain ⟨e, he⟩ : ∃ e, e = (gl 0 l).2 := ⟨_, rfl⟩
  rw [← hn, ← he]
  rw [← he] at hge
  by_cases h0 : e = 0
  · have hn1 := hgl.out (by rw [← he]; exact h0)
    rw [← hn] at hn1
    have h9 := hg9.out (by rw [← he]; exact h0)
    rw [← hn] at h9
    have HV := Lib.hid (hgv.out n e (by rw [hn, he]))
    have H9 := Lib.hid h9; have HN := Lib.hid hn; have HE := Lib.hid he
    clear h9 hn he hge hgv hgl hgz hg9
    subst h0
    rw [if_pos rfl] at HV
    have hlt : (l.take n).length = n := by simp; omega
    have hfr := HS.out.front rfl n hn1.2.1
    go_wp2_with fail
    (with_reducible refine (join_any _ (l.take n) w1 (hfr.keep HC.out) (fun x hx => HB.out x (List.mem_of_mem_take hx)) (by omega) (by omega) H9.out).mono ?_)
    rintro e w2 ⟨rfl, rfl⟩
    clear hfr hlt
    go_wp2
    go_ret3
    refine ⟨?_, HC.out⟩
    rw [HV.out, ← HN.out, ← HE.out]
    rfl
  · have HV := Lib.hid (hgv.out n e (by rw [hn, he]))
    have hz := hgz.out (by rw [← he]; exact h0)
    rw [← hn] at hz
    subst hz
    rw [if_neg h0] at HV
    have HN := Lib.hid hn; have HE := Lib.hid he
    clear hn he hgv hgl hgz hg9
    have hb : ((e : Int) == 0) = false := by simp; omega
    go_wp2
    go_ret3
    refine ⟨?_, HC.out⟩
    rw [HV.out, ← HN.out, ← HE.out]
    rfl

theorem vv_take (l : List Nat) (j : Nat) (hj : j < l.length) : vv (l.take (j + 1)) = vv (l.take j) + 128 ^ j * (l.getD j 0 % 128) := by
  have e : l.take (j + 1) = l.take j ++ [l.getD j 0] := by
    rw [List.take_add_one, List.getElem?_eq_getElem hj]
    simp [List.getD, hj]
  have hl : (l.take j).length = j := by simp; omega
  rw [e, vv_append, hl]
  simp [vv]

theorem ror_eq (v s j : Nat) (hj : j ≤ 9) (hs : s < 256) (h9 : j = 9 → s ≤ 1) (hv : v < 128 ^ j) :
    bits BinOp.or IntKind.u64 (v : Int) (IntKind.u64.wrap (IntKind.u64.wrap (bits BinOp.and IntKind.u8 (s : Int) 127) * 2 ^ (7 * j))) = ((v + 128 ^ j * (s % 128) : Nat) : Int) := by
  have hp : (128 : Nat) ^ j = 2 ^ (7 * j) := by rw [Nat.pow_mul]
  rw [hp] at hv ⊢
  have hle : 2 ^ (7 * j) ≤ 2 ^ 63 := Nat.pow_le_pow_right (by decide) (by omega)
  have hm : 2 ^ (7 * j) * (s % 128) < 18446744073709551616 := by
    by_cases h : j = 9
    · have := h9 h
      have : 2 ^ (7 * j) * (s % 128) ≤ 2 ^ 63 * 1 := Nat.mul_le_mul hle (by omega)
      omega
    · have hle2 : 2 ^ (7 * j) ≤ 2 ^ 56 := Nat.pow_le_pow_right (by decide) (by omega)
      have : 2 ^ (7 * j) * (s % 128) ≤ 2 ^ 56 * 127 := Nat.mul_le_mul hle2 (by omega)
      omega
  rw [and127 s hs, wraps64 ((s % 128 : Nat) : Int) (by omega) (by omega)]
  have e1 : ((s % 128 : Nat) : Int) * 2 ^ (7 * j) = ((2 ^ (7 * j) * (s % 128) : Nat) : Int) := by push_cast; exact Int.mul_comm _ _
  rw [e1, wraps64 _ (by omega) (by omega), bits_or_u64_nat _ _ (by omega) hm, Nat.add_comm]
  congr 1
  rw [Nat.two_pow_add_eq_or_of_lt hv, Nat.or_comm]

set_option maxRecDepth 100000 in
set_option maxHeartbeats 1000000 in
theorem rget_any (bv : Value) (l : List Nat) (w : World) (hS : Seen w bv (nv .u8 l)) (hb : ∀ x ∈ l, x < 2 ^ 8) :
    Calls Try.prog 79 #[bv] w (GetOut l w) := by
  obtain ⟨ao, cap, rfl, hc1, hc2⟩ := hS.shape
  rw [nv_length] at hc1 hS
  rw [nv_length]
  have HS := Lib.hid hS; have HB := Lib.hid hb; clear hS hb
  unfold maxLen at hc2
  have hgv : Hid (∀ n e, gl 0 l = (n, e) → gv l = if e = 0 then vv (l.take n) else 0) := Lib.hid (fun n e h => by unfold gv; rw [h])
  unfold GetOut
  go_enter Try.func79, Try.ntmps79
  go_wp2
  go_loopw [5, 6] (fun v i wr => ∃ j : Nat, j ≤ l.length ∧ j ≤ 9 ∧ i = .int .i64 (j : Int) ∧ v = .int .u64 ((vv (l.take j) : Nat) : Int) ∧ Hid (∀ i, i < j → 128 ≤ l.getD i 0) ∧ Chg [] w wr) (fun v i _ => l.length - (intOf i).toNat)
  case atStart => exact ⟨0, Nat.zero_le _, by omega, rfl, rfl, Lib.hid (by omega), Chg.refl _ _⟩
  case round =>
    obtain ⟨j, hj, h9, rfl, rfl, HA, hci⟩ := hrel
    have HCI := Lib.hid hci; clear hci
    by_cases hlt : j < l.length
    · obtain ⟨x, rfl, hx0⟩ := (HS.out.keep HCI.out).at rfl (by omega)
      have hx := hx0 j hlt
      clear hx0
      have hlt2 : decide (j < l.length) = true := by simpa using hlt
      obtain ⟨s, hs⟩ : ∃ s, s = l.getD j 0 := ⟨_, rfl⟩
      rw [← hs] at hx
      have hs8 : s < 256 := by rw [hs]; exact HB.out _ (getD_mem hlt)
      have HSJ := Lib.hid hs
      clear hs
      by_cases hov : j = 9 ∧ 1 < s
      · have hb9 : ((j : Int) == 9) = true := by simp; omega
        have hb1 : decide ((1 : Int) < (s : Int)) = true := by simp; omega
        have E := Lib.hid (gl_over l (by omega) (by rw [← hov.1]; exact HA.out) (by rw [← hov.1, ← HSJ.out]; exact hov.2))
        clear hov
        go_wp2
        go_ret3
        refine ⟨?_, HCI.out⟩
        rw [hgv.out _ _ E.out, E.out]
        rfl
      have hvl : vv (l.take j) < 128 ^ j := by
        have := vv_lt (l.take j)
        rwa [show (l.take j).length = j by simp; omega] at this
      obtain ⟨v, hv⟩ : ∃ v, v = vv (l.take j) := ⟨_, rfl⟩
      have hvt := vv_take l j hlt
      rw [← HSJ.out, ← hv] at hvt
      rw [← hv] at hvl ⊢
      have HVT := Lib.hid hvt
      have HOR := Lib.hid (ror_eq v s j h9 hs8 (by omega) hvl)
      have HV := Lib.hid hv
      clear hvt hvl hv
      have hpick : ((j : Int) == 9) = false ∨ ((j : Int) == 9) = true ∧ decide ((1 : Int) < (s : Int)) = false := by
        by_cases h : j = 9
        · right; simp; omega
        · left; simp; omega
      by_cases h128 : 128 ≤ s
      · have hj9 : j < 9 := by omega
        have hb9 : ((j : Int) == 9) = false := by simp; omega
        have hb8 : decide ((s : Int) < 128) = false := by simp; omega
        have hall2 := Lib.hid (show ∀ i, i < j + 1 → 128 ≤ l.getD i 0 from fun i hi => by
          by_cases h : i = j
          · rw [h, ← HSJ.out]; exact h128
          · exact HA.out i (by omega))
        clear hpick hov
        go_wp2
        go_roundw
        case rel => exact ⟨j + 1, hlt, hj9, by go_num, by rw [HOR.out, HVT.out], hall2, HCI.out⟩
        case measure => simp [intOf]; omega
      have hb8 : decide ((s : Int) < 128) = true := by simp; omega
      by_cases h0 : s = 0 ∧ 0 < j
      · have E := Lib.hid (gl_bad l j hlt h0.2 h9 HA.out (by rw [← HSJ.out]; exact h0.1))
        have hb0 : ((s : Int) == 0) = true := by simp; omega
        have hbj : decide (0 < j) = true := by simpa using h0.2
        clear hov h0
        rcases hpick with hb9 | ⟨hb9, hb1⟩
        all_goals
          go_wp2
          go_ret3
          refine ⟨?_, HCI.out⟩
          rw [hgv.out _ _ E.out, E.out]
          rfl
      · have E := Lib.hid (gl_ok l j hlt h9 HA.out (by rw [← HSJ.out]; omega) (by rw [← HSJ.out]; exact hov) (by rw [← HSJ.out]; exact h0))
        have hpk0 : ((s : Int) == 0) = false ∨ ((s : Int) == 0) = true ∧ decide (0 < j) = false := by
          by_cases h : s = 0
          · right; simp; omega
          · left; simp; omega
        clear hov h0
        rcases hpick with hb9 | ⟨hb9, hb1⟩ <;> rcases hpk0 with hb0 | ⟨hb0, hbj⟩
        all_goals
          go_wp2
          go_ret3
          refine ⟨?_, HCI.out⟩
          rw [hgv.out _ _ E.out, E.out, HOR.out, if_pos rfl, HVT.out]
          rfl
    · have hlt2 : decide (j < l.length) = false := by simpa using hlt
      have E := Lib.hid (gl_cut l (by omega) (by rw [← (show j = l.length by omega)]; exact HA.out))
      go_wp2
      go_ret3
      refine ⟨?_, HCI.out⟩
      rw [hgv.out _ _ E.out, E.out]
      rfl

end Go.Proofs.Ytkbfbiklnjldgaa
