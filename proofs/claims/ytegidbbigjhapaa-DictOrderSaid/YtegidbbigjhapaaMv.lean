/- Contracts of package bits: move. -/
import Derived.Test.YtegidbbigjhapaaRows
import Derived.Test.YtegidbbigjhapaaMem
import Derived.Test.YtegidbbigjhapaaMp
import Derived.Test.YtegidbbigjhapaaBm
import Derived.Deep.QuietTactic
import Derived.BigQuiet
import Derived.BigRegion
import Derived.Outline
import Derived.StillTailTactics
namespace Go.Proofs.Ytegidbbigjhapaa
open Go.RowKit
set_option linter.unusedVariables false

theorem part_eq (s u k : Nat) (hs : s ≤ 18446744073709551615) (hk : k ≤ 8) :
    bits BinOp.and IntKind.u64 ((s : Int) / 2 ^ u) (IntKind.u64.wrap (IntKind.u64.wrap (2 ^ k) - 1)) = ((s / 2 ^ u % 2 ^ k : Nat) : Int) := by
  have hp : 0 < 2 ^ k := Nat.two_pow_pos k
  have hp2 : 2 ^ k ≤ 2 ^ 8 := Nat.pow_le_pow_right (by decide) hk
  have w64 : ∀ n : Int, 0 ≤ n → n < 2 ^ 64 → IntKind.u64.wrap n = n := fun n h0 h1 => by
    have e : IntKind.u64.wrap n = n % 18446744073709551616 := by simp [IntKind.wrap, IntKind.bits, IntKind.signed]
    rw [e]
    exact Int.emod_eq_of_lt h0 (by simpa using h1)
  have e1 : ((2 : Int) ^ k) = ((2 ^ k : Nat) : Int) := by simp
  have e2 : IntKind.u64.wrap (2 ^ k) = (2 : Int) ^ k := by rw [e1]; exact w64 _ (by omega) (by omega)
  have e3 : IntKind.u64.wrap ((2 : Int) ^ k - 1) = (2 : Int) ^ k - 1 := by rw [e1]; exact w64 _ (by omega) (by omega)
  have e4 : (s : Int) / 2 ^ u = ((s / 2 ^ u : Nat) : Int) := by simp
  have hl : s / 2 ^ u ≤ s := Nat.div_le_self _ _
  rw [e2, e3, e4, bits_mask .u64 64 (by decide) w64 k (by omega) _ (Int.natCast_nonneg _) (by omega)]
  simp

theorem or8_eq (d p r : Nat) (hd : d ≤ 255) (hp : p * 2 ^ r < 256) :
    bits BinOp.or IntKind.u8 (d : Int) (IntKind.u64.wrap ((p : Int) * 2 ^ r) % 256) = ((d ||| p * 2 ^ r : Nat) : Int) := by
  have e1 : ((p : Int) * 2 ^ r) = ((p * 2 ^ r : Nat) : Int) := by simp
  rw [e1, wraps64 _ (by omega) (by omega)]
  have e2 : ((p * 2 ^ r : Nat) : Int) % 256 = ((p * 2 ^ r : Nat) : Int) := by omega
  rw [e2]
  exact (bits_nat .u8 8 (by decide) wraps_u8 d _ (by omega) (by omega)).2

theorem or64_eq (d p r : Nat) (hd : d ≤ 18446744073709551615) (hp : p * 2 ^ r < 2 ^ 64) :
    bits BinOp.or IntKind.u64 (d : Int) (IntKind.u64.wrap ((p : Int) * 2 ^ r)) = ((d ||| p * 2 ^ r : Nat) : Int) := by
  have e1 : ((p : Int) * 2 ^ r) = ((p * 2 ^ r : Nat) : Int) := by simp
  rw [e1, wraps64 _ (by omega) (by omega)]
  exact (bits_nat .u64 64 (by decide) wraps64 d _ (by omega) (by omega)).2

set_option maxRecDepth 100000 in
set_option maxHeartbeats 1000000 in
theorem move8_any (B g w cnt N : Nat) (sv : Value) (S : List Nat) (W wr : World) (hw : w ≤ 64) (hN : N = w * S.length) (hN2 : N < 1099511627776) (hcnt : cnt = (N + 7) / 8)
    (hS : Seen W sv (nv .u64 S)) (hSl : ∀ x ∈ S, x < 2 ^ 64) (hc : Chg [] W wr) (hg : W.heap.size ≤ g)
    (hd : wr.ownsRow B 5 1 (.slice (some ⟨g, 0, none⟩) cnt cnt) cnt (nv .u8 (pk (strm w S) 0 8 cnt))) :
    Calls Try.prog 72 #[.slice (some ⟨g, 0, none⟩) cnt cnt, .int .i64 8, sv, .int .i64 w, .int .i64 N] wr fun e w' => e = .returned (.tuple #[]) ∧ Chg [g] wr w' ∧ w'.ownsRow B 5 1 (.slice (some ⟨g, 0, none⟩) cnt cnt) cnt (nv .u8 (pk (strm w S) N 8 cnt)) := by
  obtain ⟨ao, cap, rfl, hc1, hc2⟩ := hS.shape
  rw [nv_length] at hc1 hS
  rw [nv_length]
  have HS := Lib.hid hS; have HD := Lib.hid hd; have HN := Lib.hid hN; have HCN := Lib.hid hcnt; have HC := Lib.hid hc; have HSL := Lib.hid hSl
  clear hS hd hN hcnt hc hSl
  go_enter Try.func72, Try.ntmps72
  go_wp2
  refine wp_scope_pre 0 (fun a' w' => ∃ (i : Nat) (u11 u12 u13 u14 u15 u16 u17 u18 u19 u20 u21 u22 u23 u24 u25 u26 u27 u28 u29 u30 u31 u32 u33 u34 u35 u36 u37 u38 u39 u40 u41 u42 u43 u44 u45 u46 u47 u48 u49 u50 u51 u52 u53 u54 u55 u56 u57 : Value), i ≤ N ∧ a' = { tmps := #[.slice (some ⟨g, 0, none⟩) cnt cnt, .int .i64 8, .slice ao S.length cap, .int .i64 w, .int .i64 N, undef, undef, undef, undef, undef, .int .i64 (i : Int), u11, u12, u13, u14, u15, u16, u17, u18, u19, u20, u21, u22, u23, u24, u25, u26, u27, u28, u29, u30, u31, u32, u33, u34, u35, u36, u37, u38, u39, u40, u41, u42, u43, u44, u45, u46, u47, u48, u49, u50, u51, u52, u53, u54, u55, u56, u57], defers := [] } ∧ Chg [g] wr w' ∧ w'.ownsRow B 5 1 (.slice (some ⟨g, 0, none⟩) cnt cnt) cnt (nv .u8 (pk (strm w S) i 8 cnt))) (fun a' _ => N - (intOf (a'.tmps.getD 10 undef)).toNat) rfl ?_ ?_
  · go_wp2
    exact ⟨0, _, _, _, _, _, _, _, _, _, _, _, _, _, _, _, _, _, _, _, _, _, _, _, _, _, _, _, _, _, _, _, _, _, _, _, _, _, _, _, _, _, _, _, _, _, _, _, Nat.zero_le _, rfl, Chg.refl _ _, HD.out⟩
  rintro a' wi ⟨i, u11, u12, u13, u14, u15, u16, u17, u18, u19, u20, u21, u22, u23, u24, u25, u26, u27, u28, u29, u30, u31, u32, u33, u34, u35, u36, u37, u38, u39, u40, u41, u42, u43, u44, u45, u46, u47, u48, u49, u50, u51, u52, u53, u54, u55, u56, u57, hin, rfl, hci, hdi⟩
  have HCI := Lib.hid hci; have HDI := Lib.hid hdi; clear hci hdi
  by_cases hlt : i = N
  · have hb : ((i : Int) == (N : Int)) = true := by simp [hlt]
    have hb2 := Lib.hid hlt
    clear hlt
    go_wp2
    simp only [Exit.jump]
    refine bodyPost_ret (results_none rfl _ _ _) rfl ?_
    exact ⟨rfl, HCI.out, by have := HDI.out; rw [hb2.out] at this; exact this⟩
  · have hb : ((i : Int) == (N : Int)) = false := by simp; omega
    have hilt : i < N := by omega
    clear hlt
    have hw0 : 0 < w := by
      have h := HN.out
      rcases Nat.eq_zero_or_pos w with h0 | h0
      · rw [h0, Nat.zero_mul] at h; omega
      · exact h0
    obtain ⟨r, hr⟩ : ∃ r, r = i % 8 := ⟨_, rfl⟩
    obtain ⟨u, hu⟩ : ∃ u, u = i % w := ⟨_, rfl⟩
    have hr8 : r < 8 := by omega
    have huw : u < w := by rw [hu]; exact Nat.mod_lt _ hw0
    obtain ⟨k, hk⟩ : ∃ k, k = min (8 - r) (w - u) := ⟨_, rfl⟩
    have hk1 : 1 ≤ k := by omega
    have hk2 : k ≤ 8 - r := by omega
    have hk3 : k ≤ w - u := by omega
    have m1 : (i : Int).tmod 8 = (r : Int) := by rw [hr]; rfl
    have m2 : (i : Int).tmod (w : Int) = (u : Int) := by rw [hu]; rfl
    have m3 : IntKind.i64.wrap (8 - (r : Int)) = 8 - (r : Int) := IntWalk.i64_in _ (by omega)
    have m4 : IntKind.i64.wrap ((w : Int) - (u : Int)) = (w : Int) - (u : Int) := IntWalk.i64_in _ (by omega)
    have hmin : ∀ wx : World, (Builtin.min_ #[3, 3] 3 #[.int .i64 (8 - (r : Int)), .int .i64 ((w : Int) - (u : Int))]).run Try.prog wx = .ok (.int .i64 (k : Int)) wx := by
      intro wx
      rw [run_min_int2]
      congr 2
      split <;> omega
    have HK := Lib.hid hk; have HR := Lib.hid hr; have HU := Lib.hid hu
    clear hk hr hu
    go_wp2
    go_quiet (fail)
    rename Nat => nqa
    clear hmin m3 m4
    go_wp2
    obtain ⟨q, hq⟩ : ∃ q, q = i / w := ⟨_, rfl⟩
    have m5 : (i : Int).tdiv (w : Int) = (q : Int) := by rw [hq]; rfl
    have hqS : q < S.length := by
      rw [hq]
      exact (Nat.div_lt_iff_lt_mul hw0).2 (by have h := HN.out; rw [Nat.mul_comm] at h; omega)
    have hkN : i + k ≤ N := by
      have h := HN.out
      have h2 : w * (q + 1) ≤ w * S.length := Nat.mul_le_mul_left _ hqS
      have h3 := Nat.div_add_mod i w
      rw [Nat.mul_add, Nat.mul_one, hq] at h2
      rw [← HU.out] at h3
      omega
    have hWi : Chg [] W wi := HC.out.trans (T := [g]) HCI.out (by simp; exact hg)
    obtain ⟨x, rfl, hcell⟩ := (HS.out.keep hWi).at rfl (by omega)
    have hx := hcell q hqS
    have hs64 : S.getD q 0 ≤ 18446744073709551615 := by
      have h := HSL.out (S.getD q 0) (by simp only [List.getD, List.getElem?_eq_getElem hqS]; exact List.getElem_mem hqS)
      omega
    clear hcell
    obtain ⟨s, hs⟩ : ∃ s, s = S.getD q 0 := ⟨_, rfl⟩
    rw [← hs] at hx hs64
    have HSQ := Lib.hid hs; have HQ := Lib.hid hq; clear hs hq
    have hqi : q ≤ i := by rw [HQ.out]; exact Nat.div_le_self _ _
    have m6 : IntKind.i64.wrap (q : Int) = (q : Int) := IntWalk.i64_in _ (by omega)
    have PE := Lib.hid (part_eq s u k hs64 (by omega))
    go_quiet (fail)
    rw [PE.out]
    have hW3 : ∃ w3, w3 = (wi.drewN nqa).drewN nq ∧ Chg [g] wr w3 ∧ w3.ownsRow B 5 1 (.slice (some ⟨g, 0, none⟩) cnt cnt) cnt (nv .u8 (pk (strm w S) i 8 cnt)) := ⟨_, rfl, (HCI.out.drewN _).drewN _, HDI.out⟩
    obtain ⟨w3, hw3, hc3, hd3⟩ := hW3
    rw [← hw3]
    have HC3 := Lib.hid hc3; have HD3 := Lib.hid hd3
    clear hw3 hc3 hd3 HCI HDI
    obtain ⟨p, hp⟩ : ∃ p, p = s / 2 ^ u % 2 ^ k := ⟨_, rfl⟩
    rw [← hp]
    have HP := Lib.hid hp; clear hp
    go_wp2
    clear m2 m5 m6 hx hqS hqi hs64 hWi huw
    obtain ⟨j, hj⟩ : ∃ j, j = i / 8 := ⟨_, rfl⟩
    have m5 : (i : Int).tdiv 8 = (j : Int) := by rw [hj]; rfl
    have hji : j ≤ i := by rw [hj]; exact Nat.div_le_self _ _
    have m6 : IntKind.i64.wrap (j : Int) = (j : Int) := IntWalk.i64_in _ (by omega)
    have hjc : j < cnt := by have h := HCN.out; omega
    have hy := own_cell HD3.out (by simp) j hjc
    have hfy := HD3.out.frozenAt j
    obtain ⟨d, hd⟩ : ∃ d, d = (pk (strm w S) i 8 cnt).getD j 0 := ⟨_, rfl⟩
    rw [← hd] at hy
    have hd8 : d ≤ 255 := by
      rw [hd, pk_getD _ _ _ _ _ hjc]
      have := wd_lt (strm w S) i 8 j
      omega
    have HJ := Lib.hid hj; have HDD := Lib.hid hd; clear hj hd
    go_still_tail 14, (by kernel_rfl)
    go_wp2
    have hpr : p * 2 ^ r < 2 ^ 8 := by
      rw [HP.out, HU.out, HR.out]
      exact wd_move_lt (strm w S) i 8 w k s (by decide) hw0 (by rw [← HR.out]; exact hk2) (by rw [← HU.out]; exact hk3)
    have hOR := or8_eq d p r hd8 (by omega)
    have hst := HD3.out.stored j (.int .u8 ((d ||| p * 2 ^ r : Nat) : Int))
    have hpk : pk (strm w S) (i + k) 8 cnt = (pk (strm w S) i 8 cnt).set j (d ||| p * 2 ^ r) := by
      rw [HDD.out, pk_getD _ _ _ _ _ hjc, HP.out, HJ.out, HU.out, HR.out]
      refine pk_move (strm w S) i 8 w k s cnt (by decide) hw0 (by rw [← HR.out]; exact hk2) (by rw [← HU.out]; exact hk3) fun m hm => ?_
      rw [tb_strm w S _ m hm, HSQ.out, HQ.out]
    rw [nv_set, ← hpk] at hst
    rw [hOR]
    have hik : (i : Int) + k = ((i + k : Nat) : Int) := by omega
    rw [hik]
    have hcc : Chg [g] wr (w3.setCell ⟨g, j, none⟩ (.int .u8 ((d ||| p * 2 ^ r : Nat) : Int))).drew := (HC3.out.setCell (by simp) _).drew
    go_step3
    exact ⟨rfl, ⟨i + k, _, _, _, _, _, _, _, _, _, _, _, _, _, _, _, _, _, _, _, _, _, _, _, _, _, _, _, _, _, _, _, _, _, _, _, _, _, _, _, _, _, _, _, _, _, _, _, hkN, rfl, hcc, hst.1⟩, by simp [intOf]; omega⟩

set_option maxRecDepth 100000 in
set_option maxHeartbeats 1000000 in
theorem move64_any (B g w cnt N : Nat) (sv : Value) (S : List Nat) (W wr : World) (hw : w ≤ 64) (hN : N = w * cnt) (hN2 : N < 1099511627776) (hcnt : N ≤ 8 * S.length)
    (hS : Seen W sv (nv .u8 S)) (hSl : ∀ x ∈ S, x < 2 ^ 8) (hc : Chg [] W wr) (hg : W.heap.size ≤ g)
    (hd : wr.ownsRow B 65 1 (.slice (some ⟨g, 0, none⟩) cnt cnt) cnt (nv .u64 (pk (strm 8 S) 0 w cnt))) :
    Calls Try.prog 81 #[.slice (some ⟨g, 0, none⟩) cnt cnt, .int .i64 w, sv, .int .i64 8, .int .i64 N] wr fun e w' => e = .returned (.tuple #[]) ∧ Chg [g] wr w' ∧ w'.ownsRow B 65 1 (.slice (some ⟨g, 0, none⟩) cnt cnt) cnt (nv .u64 (pk (strm 8 S) N w cnt)) := by
  obtain ⟨ao, cap, rfl, hc1, hc2⟩ := hS.shape
  rw [nv_length] at hc1 hS
  rw [nv_length]
  have HS := Lib.hid hS; have HD := Lib.hid hd; have HN := Lib.hid hN; have HCN := Lib.hid hcnt; have HC := Lib.hid hc; have HSL := Lib.hid hSl
  clear hS hd hN hcnt hc hSl
  go_enter Try.func81, Try.ntmps81
  go_wp2
  refine wp_scope_pre 0 (fun a' w' => ∃ (i : Nat) (u11 u12 u13 u14 u15 u16 u17 u18 u19 u20 u21 u22 u23 u24 u25 u26 u27 u28 u29 u30 u31 u32 u33 u34 u35 u36 u37 u38 u39 u40 u41 u42 u43 u44 u45 u46 u47 u48 u49 u50 u51 u52 u53 u54 u55 u56 u57 : Value), i ≤ N ∧ a' = { tmps := #[.slice (some ⟨g, 0, none⟩) cnt cnt, .int .i64 w, .slice ao S.length cap, .int .i64 8, .int .i64 N, undef, undef, undef, undef, undef, .int .i64 (i : Int), u11, u12, u13, u14, u15, u16, u17, u18, u19, u20, u21, u22, u23, u24, u25, u26, u27, u28, u29, u30, u31, u32, u33, u34, u35, u36, u37, u38, u39, u40, u41, u42, u43, u44, u45, u46, u47, u48, u49, u50, u51, u52, u53, u54, u55, u56, u57], defers := [] } ∧ Chg [g] wr w' ∧ w'.ownsRow B 65 1 (.slice (some ⟨g, 0, none⟩) cnt cnt) cnt (nv .u64 (pk (strm 8 S) i w cnt))) (fun a' _ => N - (intOf (a'.tmps.getD 10 undef)).toNat) rfl ?_ ?_
  · go_wp2
    exact ⟨0, _, _, _, _, _, _, _, _, _, _, _, _, _, _, _, _, _, _, _, _, _, _, _, _, _, _, _, _, _, _, _, _, _, _, _, _, _, _, _, _, _, _, _, _, _, _, _, Nat.zero_le _, rfl, Chg.refl _ _, HD.out⟩
  rintro a' wi ⟨i, u11, u12, u13, u14, u15, u16, u17, u18, u19, u20, u21, u22, u23, u24, u25, u26, u27, u28, u29, u30, u31, u32, u33, u34, u35, u36, u37, u38, u39, u40, u41, u42, u43, u44, u45, u46, u47, u48, u49, u50, u51, u52, u53, u54, u55, u56, u57, hin, rfl, hci, hdi⟩
  have HCI := Lib.hid hci; have HDI := Lib.hid hdi; clear hci hdi
  by_cases hlt : i = N
  · have hb : ((i : Int) == (N : Int)) = true := by simp [hlt]
    have hb2 := Lib.hid hlt
    clear hlt
    go_wp2
    simp only [Exit.jump]
    refine bodyPost_ret (results_none rfl _ _ _) rfl ?_
    exact ⟨rfl, HCI.out, by have := HDI.out; rw [hb2.out] at this; exact this⟩
  · have hb : ((i : Int) == (N : Int)) = false := by simp; omega
    have hilt : i < N := by omega
    clear hlt
    have hw0 : 0 < w := by
      have h := HN.out
      rcases Nat.eq_zero_or_pos w with h0 | h0
      · rw [h0, Nat.zero_mul] at h; omega
      · exact h0
    obtain ⟨r, hr⟩ : ∃ r, r = i % 8 := ⟨_, rfl⟩
    obtain ⟨u, hu⟩ : ∃ u, u = i % w := ⟨_, rfl⟩
    have hr8 : r < 8 := by omega
    have huw : u < w := by rw [hu]; exact Nat.mod_lt _ hw0
    obtain ⟨k, hk⟩ : ∃ k, k = min (8 - r) (w - u) := ⟨_, rfl⟩
    have hk1 : 1 ≤ k := by omega
    have hk2 : k ≤ 8 - r := by omega
    have hk3 : k ≤ w - u := by omega
    have m1 : (i : Int).tmod 8 = (r : Int) := by rw [hr]; rfl
    have m2 : (i : Int).tmod (w : Int) = (u : Int) := by rw [hu]; rfl
    have m3 : IntKind.i64.wrap (8 - (r : Int)) = 8 - (r : Int) := IntWalk.i64_in _ (by omega)
    have m4 : IntKind.i64.wrap ((w : Int) - (u : Int)) = (w : Int) - (u : Int) := IntWalk.i64_in _ (by omega)
    have hmin : ∀ wx : World, (Builtin.min_ #[3, 3] 3 #[.int .i64 ((w : Int) - (u : Int)), .int .i64 (8 - (r : Int))]).run Try.prog wx = .ok (.int .i64 (k : Int)) wx := by
      intro wx
      rw [run_min_int2]
      congr 2
      split <;> omega
    have HK := Lib.hid hk; have HR := Lib.hid hr; have HU := Lib.hid hu
    clear hk hr hu
    go_wp2
    go_quiet (fail)
    rename Nat => nqa
    clear hmin m3 m4
    go_wp2
    obtain ⟨q, hq⟩ : ∃ q, q = i / 8 := ⟨_, rfl⟩
    have m5 : (i : Int).tdiv 8 = (q : Int) := by rw [hq]; rfl
    have hqS : q < S.length := by have h := HCN.out; omega
    have hWi : Chg [] W wi := HC.out.trans (T := [g]) HCI.out (by simp; exact hg)
    obtain ⟨x, rfl, hcell⟩ := (HS.out.keep hWi).at rfl (by omega)
    have hx := hcell q hqS
    have hs64 : S.getD q 0 ≤ 255 := by
      have h := HSL.out (S.getD q 0) (by simp only [List.getD, List.getElem?_eq_getElem hqS]; exact List.getElem_mem hqS)
      omega
    clear hcell
    obtain ⟨s, hs⟩ : ∃ s, s = S.getD q 0 := ⟨_, rfl⟩
    rw [← hs] at hx hs64
    have HSQ := Lib.hid hs; have HQ := Lib.hid hq; clear hs hq
    have hqi : q ≤ i := by rw [HQ.out]; exact Nat.div_le_self _ _
    have m6 : IntKind.i64.wrap (q : Int) = (q : Int) := IntWalk.i64_in _ (by omega)
    have PE := Lib.hid (part_eq s r k (by omega) (by omega))
    go_quiet (fail)
    rw [PE.out]
    have hW3 : ∃ w3, w3 = (wi.drewN nqa).drewN nq ∧ Chg [g] wr w3 ∧ w3.ownsRow B 65 1 (.slice (some ⟨g, 0, none⟩) cnt cnt) cnt (nv .u64 (pk (strm 8 S) i w cnt)) := ⟨_, rfl, (HCI.out.drewN _).drewN _, HDI.out⟩
    obtain ⟨w3, hw3, hc3, hd3⟩ := hW3
    rw [← hw3]
    have HC3 := Lib.hid hc3; have HD3 := Lib.hid hd3
    clear hw3 hc3 hd3 HCI HDI
    obtain ⟨p, hp⟩ : ∃ p, p = s / 2 ^ r % 2 ^ k := ⟨_, rfl⟩
    rw [← hp]
    have HP := Lib.hid hp; clear hp
    go_wp2
    clear m1 m5 m6 hx hqS hqi hs64 hWi hr8
    obtain ⟨j, hj⟩ : ∃ j, j = i / w := ⟨_, rfl⟩
    have m5 : (i : Int).tdiv (w : Int) = (j : Int) := by rw [hj]; rfl
    have hji : j ≤ i := by rw [hj]; exact Nat.div_le_self _ _
    have m6 : IntKind.i64.wrap (j : Int) = (j : Int) := IntWalk.i64_in _ (by omega)
    have hjc : j < cnt := by
      rw [hj]
      exact (Nat.div_lt_iff_lt_mul hw0).2 (by have h := HN.out; rw [Nat.mul_comm] at h; omega)
    have hkN : i + k ≤ N := by
      have h := HN.out
      have h2 : w * (j + 1) ≤ w * cnt := Nat.mul_le_mul_left _ hjc
      have h3 := Nat.div_add_mod i w
      rw [Nat.mul_add, Nat.mul_one, hj] at h2
      rw [← HU.out] at h3
      omega
    have hy := own_cell HD3.out (by simp) j hjc
    have hfy := HD3.out.frozenAt j
    obtain ⟨d, hd⟩ : ∃ d, d = (pk (strm 8 S) i w cnt).getD j 0 := ⟨_, rfl⟩
    rw [← hd] at hy
    have hpw : 2 ^ w ≤ 2 ^ 64 := Nat.pow_le_pow_right (by decide) hw
    have hd8 : d ≤ 18446744073709551615 := by
      rw [hd, pk_getD _ _ _ _ _ hjc]
      have := wd_lt (strm 8 S) i w j
      omega
    clear hpw
    have HJ := Lib.hid hj; have HDD := Lib.hid hd; clear hj hd
    have hwz : ¬ w = 0 := by omega
    have hwz2 : ((w : Int) == 0) = false := by simp; omega
    go_still_tail 13, (by kernel_rfl)
    go_wp2
    have hpr : p * 2 ^ u < 2 ^ w := by
      rw [HP.out, HU.out, HR.out]
      exact wd_move_lt (strm 8 S) i w 8 k s hw0 (by decide) (by rw [← HU.out]; exact hk3) (by rw [← HR.out]; exact hk2)
    have hpw : 2 ^ w ≤ 2 ^ 64 := Nat.pow_le_pow_right (by decide) hw
    have hOR := or64_eq d p u hd8 (by omega)
    have hst := HD3.out.stored j (.int .u64 ((d ||| p * 2 ^ u : Nat) : Int))
    have hpk : pk (strm 8 S) (i + k) w cnt = (pk (strm 8 S) i w cnt).set j (d ||| p * 2 ^ u) := by
      rw [HDD.out, pk_getD _ _ _ _ _ hjc, HP.out, HJ.out, HU.out, HR.out]
      refine pk_move (strm 8 S) i w 8 k s cnt hw0 (by decide) (by rw [← HU.out]; exact hk3) (by rw [← HR.out]; exact hk2) fun m hm => ?_
      rw [tb_strm 8 S _ m hm, HSQ.out, HQ.out]
    rw [nv_set, ← hpk] at hst
    rw [hOR]
    have hik : (i : Int) + k = ((i + k : Nat) : Int) := by omega
    rw [hik]
    have hcc : Chg [g] wr (w3.setCell ⟨g, j, none⟩ (.int .u64 ((d ||| p * 2 ^ u : Nat) : Int))).drew := (HC3.out.setCell (by simp) _).drew
    go_step3
    exact ⟨rfl, ⟨i + k, _, _, _, _, _, _, _, _, _, _, _, _, _, _, _, _, _, _, _, _, _, _, _, _, _, _, _, _, _, _, _, _, _, _, _, _, _, _, _, _, _, _, _, _, _, _, _, hkN, rfl, hcc, hst.1⟩, by simp [intOf]; omega⟩

end Go.Proofs.Ytegidbbigjhapaa
