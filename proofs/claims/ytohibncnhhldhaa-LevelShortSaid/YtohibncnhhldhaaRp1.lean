/- The reference's cursor.Put. -/
import Derived.Test.YtohibncnhhldhaaKa
import Derived.Test.YtohibncnhhldhaaOc
import Derived.Test.YtohibncnhhldhaaMp
namespace Go.Proofs.Ytohibncnhhldhaa
open Go.RowKit
set_option linter.unusedVariables false
set_option linter.unusedSimpArgs false

theorem lo_snoc : ∀ (n v : Nat), lo (n + 1) v = lo n v ++ [v / 256 ^ n % 256]
  | 0, v => by simp [lo]
  | n + 1, v => by
    have h := lo_snoc n (v / 256)
    have e : lo (n + 2) v = v % 256 :: lo (n + 1) (v / 256) := rfl
    rw [e, h]
    have e2 : lo (n + 1) v = v % 256 :: lo n (v / 256) := rfl
    rw [e2, Nat.div_div_eq_div_mul, Nat.pow_succ, Nat.mul_comm 256]
    rfl

set_option maxRecDepth 100000 in
set_option maxHeartbeats 1000000 in
theorem rcput_any (bv : Value) (b : List Nat) (k v : Nat) (w : World) (hk : k ≤ 8) (hv : v < 18446744073709551616) (hl : b.length < 137438953472) (hS : Seen w bv (nv .u8 b)) :
    Calls Try.prog 104 #[bv, .int .i64 (k : Int), .int .u64 (v : Int)] w fun e w' => ∃ x, e = .returned x ∧ Made 5 .u8 (b ++ lo k v) w x w' := by
  obtain ⟨i0, hi, hz0, hz1, hz2⟩ := info_u8
  obtain ⟨ao, cap, rfl, hc1, hc2⟩ := hS.shape
  rw [nv_length] at hc1 hS
  rw [nv_length]
  have HS := Lib.hid hS
  obtain ⟨m, hm⟩ : ∃ m, m = b.length := ⟨_, rfl⟩
  rw [← hm] at HS hc1 hl ⊢
  have HM := Lib.hid hm
  have hone := Lib.hid (nv_one .u8 b)
  clear hS hm hc2
  go_enter Try.func104, Try.ntmps104
  go_wp2_with (at_builtin; refine wpList_append_reads _ rfl _ _ 65 65 rfl w.heap.size 5 5 i0 (.int .u8 0) 1 Try.underlying65 Try.underlying65 hi hz0 hz1 hz2 rfl (.slice (some ⟨w.heap.size, 0, none⟩) 0 0) 0 [] rfl (own_lit w _ _ rfl (Nat.le_refl _) 5 _ _ 0 1 rfl rfl (by decide)) _ (nv .u8 b) rfl (HS.out.keep ((Chg.refl [] w).alloc _)) hone.out ?c1 ?c2 ?c3 ?_)
  case c1 => rw [nv_length, ← HM.out]; unfold maxLen; omega
  case c2 => rw [nv_length, ← HM.out]; omega
  case c3 => simp
  intro v1 w1 hown1 hgrow1
  have HC1 := Lib.hid (((Chg.refl [] w).alloc (.cells #[] 5)).grown hgrow1 (fun k hk => .inr (by simp [Value.ownBlock] at hk; omega)))
  have HO1 := Lib.hid (show w1.ownsRow w.heap.size 5 1 v1 m (nv .u8 b) by rw [HM.out]; exact hown1)
  obtain ⟨o1, c1, rfl⟩ := own_shape HO1.out
  clear hown1 hgrow1
  go_wp2
  go_loopw [0, 7] (fun x i w' => ∃ j : Nat, j ≤ k ∧ i = .int .i64 (j : Int) ∧ Chg [] w w' ∧ w'.ownsRow w.heap.size 5 1 x (m + j) (nv .u8 (b ++ lo j v))) (fun _ i _ => k - (intOf i).toNat)
  case atStart => exact ⟨0, Nat.zero_le _, rfl, HC1.out, by simpa [lo] using HO1.out⟩
  case round =>
    obtain ⟨j, hj, rfl, hc, ho⟩ := hrel
    obtain ⟨xo, xc, rfl⟩ := own_shape ho
    have HC := Lib.hid hc; have HO := Lib.hid ho
    have hB := hc.size
    clear hc ho
    by_cases hjk : j < k
    · have hlt : decide ((j : Int) < (k : Int)) = true := by simp; omega
      have hk8 : decide ((k : Int) ≤ 8) = true := by simp; omega
      have hs1 : IntKind.u64.wrap (j : Int) = (j : Int) := wraps64 _ (by omega) (by omega)
      have hs2 : IntKind.u64.wrap (8 * (j : Int)) = ((8 * j : Nat) : Int) := by rw [wraps64 _ (by omega) (by omega)]; omega
      have E := Lib.hid (show nv .u8 (b ++ lo j v) ++ [.int .u8 ((v : Int) / 2 ^ (8 * j) % 256)] = nv .u8 (b ++ lo (j + 1) v) by
        have e : (v : Int) / 2 ^ (8 * j) % 256 = ((v / 256 ^ j % 256 : Nat) : Int) := by
          rw [show (256 : Nat) ^ j = 2 ^ (8 * j) by rw [show (256 : Nat) = 2 ^ 8 by decide, ← Nat.pow_mul]]
          push_cast; rfl
        rw [e, lo_snoc, ← List.append_assoc]; simp [nv])
      go_wp2_with (at_builtin; refine wpList_append_own _ rfl _ _ 65 rfl w.heap.size 5 i0 (.int .u8 0) 1 1 Try.underlying65 hi hz0 hz1 hz2 rfl (by decide) _ _ _ rfl (HO.out.alloc _) ⟨wr.heap.size, 0, none⟩ 1 1 [.int .u8 ((v : Int) / 2 ^ (8 * j) % 256)] rfl rfl ?c1 ?c2 ?c3 ?c4 ?c5 ?_)
      case c1 => exact (cell_one_new _ _ _)
      case c2 => simp [Value.oneCell']
      case c3 => unfold maxLen; omega
      case c4 => omega
      case c5 => simp; omega
      intro v' w2 hown' hgrow _
      rw [E.out] at hown'
      have HG := Lib.hid ((HC.out.alloc (.cells #[.int .u8 ((v : Int) / 2 ^ (8 * j) % 256)] 5)).grown hgrow (fun k hk => .inr (HO.out.lt k hk).1))
      have HO2 := Lib.hid hown'
      clear hgrow hown'
      go_wp2
      go_roundw
      case rel => exact ⟨j + 1, hjk, by go_num, HG.out, HO2.out⟩
      case measure => simp [intOf]; omega
    · have hlt : decide ((j : Int) < (k : Int)) = false := by simp; omega
      have hjk : j = k := by omega
      subst hjk
      go_wp2
      go_ret
      refine ⟨_, rfl, HC.out, ?_⟩
      have h := HO.out
      rw [List.length_append, lo_length, ← HM.out]
      exact h

end Go.Proofs.Ytohibncnhhldhaa
