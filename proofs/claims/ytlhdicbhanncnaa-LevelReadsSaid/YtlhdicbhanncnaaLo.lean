/- Moved together from several texts. -/
import Derived.Test.YtlhdicbhanncnaaA2
import Derived.Test.YtlhdicbhanncnaaA3
import Derived.Test.YtlhdicbhanncnaaA1
namespace Go.Proofs.Ytlhdicbhanncnaa
open Go.RowKit
set_option linter.unusedVariables false
set_option linter.unusedSimpArgs false

theorem fault_packed (w : Nat) (S : List Nat) : faultOf (packed w S) (w * S.length) = 0 := by
  unfold faultOf
  rw [packed_length, if_neg (by omega), if_neg (by omega), if_pos]
  have h := strm_lt w S
  unfold packed
  rw [strm_pk]
  refine Nat.div_eq_of_lt (Nat.lt_of_le_of_lt (Nat.mod_le _ _) ?_)
  exact Nat.mod_lt _ (Nat.two_pow_pos _)

theorem unpacked_packed (w : Nat) (S : List Nat) : unpacked (packed w S) S.length w = S.map (· % 2 ^ w) := by
  rw [← pk_back w S]
  unfold unpacked
  have h := strm_lt w S
  have e : strm 8 (packed w S) = strm w S := by
    unfold packed
    rw [strm_pk, Nat.mod_eq_of_lt h, Nat.mod_eq_of_lt]
    exact Nat.lt_of_lt_of_le h (Nat.pow_le_pow_right (by decide) (by omega))
  rw [e]

theorem packed_bytes (w : Nat) (S : List Nat) : ∀ x ∈ packed w S, x < 2 ^ 8 := by
  intro x hx
  unfold packed pk at hx
  obtain ⟨j, _, rfl⟩ := List.mem_map.1 hx
  exact wd_lt _ _ _ _

/-- A number's lowest bytes, the lowest first. -/
def lo : Nat → Nat → List Nat
  | 0, _ => []
  | n + 1, v => v % 256 :: lo n (v / 256)

@[simp] theorem lo_length : ∀ n v, (lo n v).length = n
  | 0, _ => rfl
  | n + 1, v => by simp [lo, lo_length n]

theorem lo_bytes : ∀ n v, ∀ x ∈ lo n v, x < 2 ^ 8
  | 0, _ => by simp [lo]
  | n + 1, v => by
    intro x hx
    rcases List.mem_cons.1 hx with rfl | h
    · omega
    · exact lo_bytes n _ x h

theorem nm_lo : ∀ n v, v < 256 ^ n → nm (lo n v) = v
  | 0, v, h => by simp at h; subst h; rfl
  | n + 1, v, h => by
    rw [lo, nm, nm_lo n (v / 256) (by rw [Nat.pow_succ] at h; exact Nat.div_lt_of_lt_mul (by omega))]
    omega

theorem nm_lt8 : ∀ {a : List Nat}, (∀ x ∈ a, x < 256) → nm a < 256 ^ a.length
  | [], _ => by simp [nm]
  | x :: a, h => by
    have h1 := h x (by simp)
    have h2 := nm_lt8 (a := a) fun z hz => h z (by simp [hz])
    rw [nm, List.length_cons, Nat.pow_succ]
    omega

theorem low_lo : ∀ (k v : Nat), low k (v : Int) = zi (lo k v)
  | 0, v => rfl
  | k + 1, v => by
    have e : ((v : Int) / 256) = ((v / 256 : Nat) : Int) := by omega
    rw [low, lo, e, low_lo k (v / 256)]
    simp [zi]

theorem zi_app (a b : List Nat) : zi a ++ zi b = zi (a ++ b) := by simp [zi]

/-- cursor.Put, in natural numbers. -/
theorem cput_nat (bv : Value) (b : List Nat) (k v : Nat) (w : World) (hk : k ≤ 8) (hv : v < 18446744073709551616) (hl : b.length < 70368744177000) (hS : Seen w bv (nv .u8 b)) :
    Calls Try.prog 40 #[bv, .int .i64 (k : Int), .int .u64 (v : Int)] w fun e w' => ∃ x, e = .returned x ∧ Made 5 .u8 (b ++ lo k v) w x w' := by
  refine (cput_any bv (zi b) (k : Int) (v : Int) k w (by omega) (by omega) (by rw [zi_length]; exact hl) (by unfold widthOf; rw [if_neg (by omega)]) (by rw [bys_zi]; exact hS)).mono ?_
  rintro e w' ⟨sv, rfl, hc, ho⟩
  rw [low_lo, zi_app, bys_zi, zi_length] at ho
  exact ⟨sv, rfl, hc, by simpa using ho⟩

theorem lo_snoc : ∀ (n v : Nat), lo (n + 1) v = lo n v ++ [v / 256 ^ n % 256]
  | 0, v => by simp [lo]
  | n + 1, v => by
    have h := lo_snoc n (v / 256)
    have e : lo (n + 2) v = v % 256 :: lo (n + 1) (v / 256) := rfl
    rw [e, h]
    have e2 : lo (n + 1) v = v % 256 :: lo n (v / 256) := rfl
    rw [e2, Nat.div_div_eq_div_mul, Nat.pow_succ, Nat.mul_comm 256]
    rfl

set_option maxRecDepth 100000 in
set_option maxHeartbeats 1000000 in
theorem rcput_any (bv : Value) (b : List Nat) (k v : Nat) (w : World) (hk : k ≤ 8) (hv : v < 18446744073709551616) (hl : b.length < 137438953472) (hS : Seen w bv (nv .u8 b)) :
    Calls Try.prog 14 #[bv, .int .i64 (k : Int), .int .u64 (v : Int)] w fun e w' => ∃ x, e = .returned x ∧ Made 5 .u8 (b ++ lo k v) w x w' := by
  obtain ⟨i0, hi, hz0, hz1, hz2⟩ := info_u8
  obtain ⟨ao, cap, rfl, hc1, hc2⟩ := hS.shape
  rw [nv_length] at hc1 hS
  rw [nv_length]
  have HS := Lib.hid hS
  obtain ⟨m, hm⟩ : ∃ m, m = b.length := ⟨_, rfl⟩
  rw [← hm] at HS hc1 hl ⊢
  have HM := Lib.hid hm
  have hone := Lib.hid (nv_one .u8 b)
  clear hS hm hc2
  go_enter Try.func14, Try.ntmps14
  go_wp2_with (at_builtin; refine wpList_append_reads _ rfl _ _ 23 23 rfl w.heap.size 5 5 i0 (.int .u8 0) 1 Try.underlying23 Try.underlying23 hi hz0 hz1 hz2 rfl (.slice (some ⟨w.heap.size, 0, none⟩) 0 0) 0 [] rfl (own_lit w _ _ rfl (Nat.le_refl _) 5 _ _ 0 1 rfl rfl (by decide)) _ (nv .u8 b) rfl (HS.out.keep ((Chg.refl [] w).alloc _)) hone.out ?c1 ?c2 ?c3 ?_)
  case c1 => rw [nv_length, ← HM.out]; unfold maxLen; omega
  case c2 => rw [nv_length, ← HM.out]; omega
  case c3 => simp
  intro v1 w1 hown1 hgrow1
  have HC1 := Lib.hid (((Chg.refl [] w).alloc (.cells #[] 5)).grown hgrow1 (fun k hk => .inr (by simp [Value.ownBlock] at hk; omega)))
  have HO1 := Lib.hid (show w1.ownsRow w.heap.size 5 1 v1 m (nv .u8 b) by rw [HM.out]; exact hown1)
  obtain ⟨o1, c1, rfl⟩ := own_shape HO1.out
  clear hown1 hgrow1
  go_wp2
  go_loopw [0, 7] (fun x i w' => ∃ j : Nat, j ≤ k ∧ i = .int .i64 (j : Int) ∧ Chg [] w w' ∧ w'.ownsRow w.heap.size 5 1 x (m + j) (nv .u8 (b ++ lo j v))) (fun _ i _ => k - (intOf i).toNat)
  case atStart => exact ⟨0, Nat.zero_le _, rfl, HC1.out, by simpa [lo] using HO1.out⟩
  case round =>
    obtain ⟨j, hj, rfl, hc, ho⟩ := hrel
    obtain ⟨xo, xc, rfl⟩ := own_shape ho
    have HC := Lib.hid hc; have HO := Lib.hid ho
    have hB := hc.size
    clear hc ho
    by_cases hjk : j < k
    · have hlt : decide ((j : Int) < (k : Int)) = true := by simp; omega
      have hk8 : decide ((k : Int) ≤ 8) = true := by simp; omega
      have hs1 : IntKind.u64.wrap (j : Int) = (j : Int) := wraps64 _ (by omega) (by omega)
      have hs2 : IntKind.u64.wrap (8 * (j : Int)) = ((8 * j : Nat) : Int) := by rw [wraps64 _ (by omega) (by omega)]; omega
      have E := Lib.hid (show nv .u8 (b ++ lo j v) ++ [.int .u8 ((v : Int) / 2 ^ (8 * j) % 256)] = nv .u8 (b ++ lo (j + 1) v) by
        have e : (v : Int) / 2 ^ (8 * j) % 256 = ((v / 256 ^ j % 256 : Nat) : Int) := by
          rw [show (256 : Nat) ^ j = 2 ^ (8 * j) by rw [show (256 : Nat) = 2 ^ 8 by decide, ← Nat.pow_mul]]
          push_cast; rfl
        rw [e, lo_snoc, ← List.append_assoc]; simp [nv])
      go_wp2_with (at_builtin; refine wpList_append_own _ rfl _ _ 23 rfl w.heap.size 5 i0 (.int .u8 0) 1 1 Try.underlying23 hi hz0 hz1 hz2 rfl (by decide) _ _ _ rfl (HO.out.alloc _) ⟨wr.heap.size, 0, none⟩ 1 1 [.int .u8 ((v : Int) / 2 ^ (8 * j) % 256)] rfl rfl ?c1 ?c2 ?c3 ?c4 ?c5 ?_)
      case c1 => exact (cell_one_new _ _ _)
      case c2 => simp [Value.oneCell']
      case c3 => unfold maxLen; omega
      case c4 => omega
      case c5 => simp; omega
      intro v' w2 hown' hgrow _
      rw [E.out] at hown'
      have HG := Lib.hid ((HC.out.alloc (.cells #[.int .u8 ((v : Int) / 2 ^ (8 * j) % 256)] 5)).grown hgrow (fun k hk => .inr (HO.out.lt k hk).1))
      have HO2 := Lib.hid hown'
      clear hgrow hown'
      go_wp2
      go_roundw
      case rel => exact ⟨j + 1, hjk, by go_num, HG.out, HO2.out⟩
      case measure => simp [intOf]; omega
    · have hlt : decide ((j : Int) < (k : Int)) = false := by simp; omega
      have hjk : j = k := by omega
      subst hjk
      go_wp2
      go_ret
      refine ⟨_, rfl, HC.out, ?_⟩
      have h := HO.out
      rw [List.length_append, lo_length, ← HM.out]
      exact h

end Go.Proofs.Ytlhdicbhanncnaa
