/- The statements' ints; append of values as a step; the reference's width and Encode. -/
import Derived.Test.YtegidbbigjhapaaEh
import Derived.Test.YtegidbbigjhapaaEi
import Derived.Test.YtegidbbigjhapaaKt
import Derived.BigQuiet
import Derived.Deep.DeepCutAuto
import Derived.Deep.RegionLaw
namespace Go.Proofs.Ytegidbbigjhapaa
open Go.RowKit
set_option linter.unusedVariables false
set_option linter.unusedSimpArgs false

set_option maxRecDepth 100000 in
set_option maxHeartbeats 1000000 in
theorem ints13_any (va vb' : Value) (a b : List Nat) (w : World) (ha : Seen w va (nv .i64 a)) (hb : Seen w vb' (nv .i64 b)) (hla : a.length ≤ 1000000) (hlb : b.length ≤ 1000000) :
    Calls Try.prog 16 #[va, vb'] w fun e w' => (∃ r : Bool, e = .returned (.bool r) ∧ (r = true ↔ a = b)) ∧ Chg [] w w' := by
  obtain ⟨ao, ac, rfl, ha1, ha2⟩ := ha.shape
  obtain ⟨bo, bc, rfl, hb1, hb2⟩ := hb.shape
  rw [nv_length] at ha1 ha hb1 hb
  rw [nv_length, nv_length]
  have HA := Lib.hid ha; have HB := Lib.hid hb
  obtain ⟨n, hn⟩ : ∃ n, n = a.length := ⟨_, rfl⟩
  obtain ⟨m, hm⟩ : ∃ m, m = b.length := ⟨_, rfl⟩
  rw [← hn] at HA hla ha1 ⊢
  rw [← hm] at HB hlb hb1 ⊢
  have HN := Lib.hid hn; have HM := Lib.hid hm
  clear ha hb hn hm ha2 hb2
  by_cases hl : n = m
  · subst hl
    have hbl : ((n : Int) != (n : Int)) = false := by simp
    go_enter Try.func16, Try.ntmps16
    go_wp2
    go_loopw [5] (fun i w' => ∃ j : Nat, j ≤ n ∧ i = .int .i64 (j : Int) ∧ Chg [] w w' ∧ ∀ k, k < j → a.getD k 0 = b.getD k 0) (fun i _ => n - (intOf i).toNat)
    case atStart => exact ⟨0, Nat.zero_le _, rfl, Chg.refl _ _, fun k hk => by omega⟩
    case round =>
      obtain ⟨j, hj, rfl, hc, hall⟩ := hrel
      have HC := Lib.hid hc; have HALL := Lib.hid hall
      clear hc hall
      by_cases hjn : j < n
      · have hlt : decide ((j : Int) < (n : Int)) = true := by simp; omega
        obtain ⟨ga, offa, rfl, hca⟩ := (HA.out.keep HC.out).at0 HN.out.symm (by omega)
        obtain ⟨gb, offb, rfl, hcb⟩ := (HB.out.keep HC.out).at0 HM.out.symm (by omega)
        have x0 := hca j hjn
        have x1 := hcb j hjn
        obtain ⟨s, hs⟩ : ∃ s, s = a.getD j 0 := ⟨_, rfl⟩
        obtain ⟨t, ht⟩ : ∃ t, t = b.getD j 0 := ⟨_, rfl⟩
        rw [← hs] at x0; rw [← ht] at x1
        have HS := Lib.hid hs; have HT := Lib.hid ht
        clear hca hcb hs ht
        by_cases hst : s = t
        · have hne : ((s : Int) != (t : Int)) = false := by simp [hst]
          have HA2 := Lib.hid (show ∀ k, k < j + 1 → a.getD k 0 = b.getD k 0 from fun k hk => by
            by_cases e : k = j
            · rw [e, ← HS.out, ← HT.out]; exact hst
            · exact HALL.out k (by omega))
          clear hst
          go_wp2_with fail
          go_quiet (fail)
          go_wp2
          go_roundw
          case rel => exact ⟨j + 1, hjn, by go_num, HC.out.drewN _, HA2.out⟩
          case measure => simp [intOf]; omega
        · have hne : ((s : Int) != (t : Int)) = true := by simp; omega
          have hne2 : ¬ ((s : Int) = (t : Int)) := by omega
          have E := Lib.hid (show ¬ a = b from fun e => hst (by rw [HS.out, HT.out, e]))
          clear hst
          go_wp2_with fail
          go_quiet (fail)
          go_wp2
          go_ret
          exact ⟨⟨false, rfl, by simp; exact E.out⟩, HC.out.drewN _⟩
      · have hlt : decide ((j : Int) < (n : Int)) = false := by simp; omega
        have E := Lib.hid (show a = b from List.ext_getElem (by rw [← HN.out, ← HM.out]) fun i h1 h2 => by
          have h := HALL.out i (by have := HN.out; omega)
          simpa [List.getD, h1, h2] using h)
        go_wp2
        go_ret
        exact ⟨⟨true, rfl, by simp; exact E.out⟩, HC.out⟩
  · have hbl : ((n : Int) != (m : Int)) = true := by simp; omega
    have hbl2 : ¬ ((n : Int) = (m : Int)) := by omega
    have E := Lib.hid (show ¬ a = b from fun e => hl (by rw [HN.out, HM.out, e]))
    clear hl
    go_enter Try.func16, Try.ntmps16
    go_wp2
    go_ret
    exact ⟨⟨false, rfl, by simp; exact E.out⟩, Chg.refl _ _⟩

set_option maxRecDepth 100000 in
set_option maxHeartbeats 1000000 in
theorem rwd_any (v : Nat) (w : World) (hv : v < 18446744073709551616) :
    Calls Try.prog 46 #[.int .u64 (v : Int)] w fun e w' => e = .returned (.int .i64 (blen v : Nat)) ∧ w = w' := by
  obtain ⟨b1, b2, b3⟩ := blen_spec v hv
  obtain ⟨b, hb⟩ : ∃ b, b = blen v := ⟨_, rfl⟩
  rw [← hb] at b1 b2 b3 ⊢
  have B3 := Lib.hid b3
  have B2 := Lib.hid b2
  clear hb b3 b2
  go_enter Try.func46, Try.ntmps46
  go_wp2
  go_loopw [0, 3] (fun x n w' => ∃ k : Nat, k ≤ b ∧ x = .int .u64 ((v / 2 ^ k : Nat) : Int) ∧ n = .int .i64 (k : Int) ∧ w' = w) (fun _ n _ => b - (intOf n).toNat)
  case atStart => exact ⟨0, Nat.zero_le _, by simp, rfl, rfl⟩
  case round =>
    obtain ⟨k, hk, rfl, rfl, rfl⟩ := hrel
    have hdd : v / 2 ^ k / 2 = v / 2 ^ (k + 1) := by rw [Nat.div_div_eq_div_mul, Nat.pow_succ]
    have hz0 : v / 2 ^ k = 0 ∨ 0 < v / 2 ^ k := Nat.eq_zero_or_pos _
    have hle : v / 2 ^ k ≤ v := Nat.div_le_self _ _
    have hlow : 0 < v / 2 ^ k → k < b := fun h => by
      have h1 : 2 ^ k ≤ v := by
        rcases Nat.lt_or_ge v (2 ^ k) with h2 | h2
        · rw [Nat.div_eq_of_lt h2] at h; omega
        · exact h2
      have h2 := B2.out
      exact (Nat.pow_lt_pow_iff_right (by decide)).1 (Nat.lt_of_le_of_lt h1 h2)
    have hend : v / 2 ^ k = 0 → k = b := fun h => by
      have h1 : v < 2 ^ k := by
        rcases Nat.lt_or_ge v (2 ^ k) with h2 | h2
        · exact h2
        · have := Nat.div_pos h2 (Nat.two_pow_pos k); omega
      rcases B3.out with ⟨-, h2⟩ | ⟨h2, h3⟩
      · omega
      · have := (Nat.pow_lt_pow_iff_right (by decide)).1 (Nat.lt_of_le_of_lt h3 h1)
        omega
    obtain ⟨x, hx⟩ : ∃ x, x = v / 2 ^ k := ⟨_, rfl⟩
    rw [← hx] at hdd hz0 hle hlow hend ⊢
    have HDD := Lib.hid hdd
    clear hdd hx
    rcases hz0 with h0 | h0
    · have e := hend h0
      subst h0
      subst e
      clear hlow hend
      go_wp2
      go_ret
      exact ⟨rfl, rfl⟩
    · have hkb := hlow h0
      have d1 : decide ((0 : Int) < (x : Int)) = true := by simp; omega
      have hsh : (x : Int).fdiv (2 ^ min (Int.toNat 1) IntKind.u64.bits) = ((x / 2 : Nat) : Int) := by
        rw [show (2 : Int) ^ min (Int.toNat 1) IntKind.u64.bits = 2 from rfl, Int.fdiv_eq_ediv_of_nonneg _ (by decide)]
        omega
      clear hlow hend
      go_wp2
      go_roundw
      case rel => exact ⟨k + 1, hkb, by rw [← HDD.out]; go_num, by go_num, by first | rfl | trivial⟩
      case measure => simp [intOf]; omega

/-- append of a row of values, as one step of a region that draws its order. -/
theorem step_append_V {ops : Array Oper} {o : Oper} {a : Act} {w : World} {K : Act → World → Prop} {Q : Exit → Act → World → Prop} {E : Prop}
    (hg : o.guard = none) (s x : Operand) (hop : o.op = Op.call { callee := Callee.builtin Builtin.append, args := #[s, x], argTypes := #[22, 22] })
    (base B : Nat) (v xv : Value) (L M : List V) (hs : a.eval s = v) (hx : a.eval x = xv) (hown : w.ownsRow base 28 2 v L.length (L.flatMap V.cs)) (hxo : w.ownsRow B 28 2 xv M.length (M.flatMap V.cs)) (h63 : L.length + M.length ≤ 1000000) (hbase : base ≤ w.heap.size)
    (hK : ∀ v' w', w'.ownsRow base 28 2 v' (L ++ M).length ((L ++ M).flatMap V.cs) → w.grownBy w' v.ownBlock → K (a.put o.dst v') w') :
    if Region.wanted o (yielded ops a.tmps) = true then Oper.wp Try.prog o a w K Q else E := by
  have hw : Region.wanted o (yielded ops a.tmps) = true := by simp [Region.wanted, hg]
  rw [if_pos hw]
  obtain ⟨v', w', hrun, r1, r2⟩ := run_append_V w base B o.type v xv L M hown hxo h63 hbase
  unfold Oper.wp
  simp [execOp, hop, resolve, invoke, builtin, hs, hx, hrun, Result.andThen]
  exact hK v' w' r1 r2

set_option maxRecDepth 100000 in
set_option maxHeartbeats 1000000 in
theorem rwidth13_any (m : Nat) (w : World) (hm : m ≤ 9223372036854775807) :
    Calls Try.prog 28 #[.int .i64 (m : Int)] w fun e w' => e = .returned (.int .i64 ((widD m : Nat) : Int)) ∧ w = w' := by
  have h1 : IntKind.i64.wrap ((m : Int) - 1) = (m : Int) - 1 := IntWalk.i64_in _ (by omega)
  have h2 : max ((m : Int) - 1) 0 = ((m - 1 : Nat) : Int) := by omega
  have h3 : IntKind.u64.wrap ((m - 1 : Nat) : Int) = ((m - 1 : Nat) : Int) := by rw [un_wrap, un_nat _ (by omega)]
  have HB := Lib.hid (fun wx => rwd_any (m - 1) wx (by omega))
  have E := Lib.hid (show widD m = blen (m - 1) from rfl)
  rw [← E.out] at HB
  go_enter Try.func28, Try.ntmps28
  go_wp2_with (first
    | (go_at_call 46; (with_reducible refine (HB.out _).mono ?_); rintro e w2 ⟨rfl, rfl⟩)
    | fail)
  go_ret
  exact ⟨rfl, rfl⟩

set_option maxRecDepth 100000 in
set_option maxHeartbeats 1000000 in
theorem rencode13_any (av : Value) (A : List Nat) (m : Nat) (w : World) (hS : Seen w av (nv .i64 A)) (hm : m ≤ 256) (hA : ∀ x ∈ A, x < m) (hl : A.length ≤ 900000) :
    Calls Try.prog 19 #[av, .int .i64 (m : Int)] w fun e w' => ∃ x, e = .returned x ∧ Made 5 .u8 (encZ (widD m) A) w x w' := by
  have hw := widD_le hm
  have HE := Lib.hid (rencodeZ_any av A (widD m) w hS (by omega) (fun x hx => widD_lt hm (hA x hx)) hl)
  have HW := Lib.hid (rwidth13_any m w (by omega))
  obtain ⟨ao, cap, rfl, hc1, hc2⟩ := hS.shape
  rw [nv_length] at HE ⊢
  clear hS hA hw
  go_enter Try.func19, Try.ntmps19
  go_wp2_with (first
    | (go_at_call 28; (with_reducible refine HW.out.mono ?_); rintro e w2 ⟨rfl, rfl⟩)
    | (go_at_call 27; (with_reducible refine HE.out.mono ?_); rintro e w2 ⟨x, rfl, hm⟩; have HM := Lib.hid hm; clear hm)
    | fail)
  go_ret
  exact ⟨_, rfl, HM.out⟩

end Go.Proofs.Ytegidbbigjhapaa
