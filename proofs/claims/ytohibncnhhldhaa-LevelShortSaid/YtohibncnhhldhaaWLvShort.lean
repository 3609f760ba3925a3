/- The walk of the statement LevelShort. -/
import Derived.Test.YtohibncnhhldhaaKt
import Derived.Deep.RegionLaw
namespace Go.Proofs.Ytohibncnhhldhaa
open Go.RowKit
set_option linter.unusedVariables false
set_option linter.unusedSimpArgs false

set_option maxRecDepth 100000 in
set_option maxHeartbeats 4000000 in
theorem walk_LevelShort (a0 : Option Addr) (len0 cap0 : Nat) (z0 : List Int) (a1 : Int) (a2 : Int) (a3 : Int) (w : World) (w0 : IsRow .i64 w a0 len0 cap0 z0) (w1 : (Lit.int .i64 a1).wf = true) (w2 : (Lit.int .i64 a2).wf = true) (w3 : (Lit.int .i64 a3).wf = true) :
    Calls Try.prog 17 #[.slice a0 len0 cap0, .int .i64 a1, .int .i64 a2, .int .i64 a3] w fun e w' => e = .returned (.bool true) ∧ Below w.heap.size w w' := by
  obtain ⟨ns, hS, hlen, hwf⟩ := w0.seenI
  obtain ⟨i0, hi, hz0, hz1, hz2⟩ := info_int
  have HS := Lib.hid hS; have HWF := Lib.hid hwf; have W1 := Lib.hid w1; have W2 := Lib.hid w2; have W3 := Lib.hid w3
  obtain ⟨q, hq⟩ : ∃ q, q = (a1 % (16 : Nat)).toNat := ⟨_, rfl⟩
  have hq2 : q < 16 := by rw [hq]; exact within_lt a1 16 (by decide)
  obtain ⟨p, hp⟩ : ∃ p, p = (a3 % (100 : Nat)).toNat := ⟨_, rfl⟩
  have hp2 : p < 100 := by rw [hp]; exact within_lt a3 100 (by decide)
  have HQ := Lib.hid (fun wx => w10_int a1 16 16 wx rfl (by decide) (by decide) W1.out)
  have HP := Lib.hid (fun wx => w10_int a3 100 100 wx rfl (by decide) (by decide) W3.out)
  rw [← hq] at HQ; rw [← hp] at HP
  obtain ⟨W, hW⟩ : ∃ W, W = q + 1 := ⟨_, rfl⟩
  have hWi : 1 + (q : Int) = (W : Int) := by omega
  obtain ⟨n, hn⟩ : ∃ n, n = 8 + p := ⟨_, rfl⟩
  have hni : 8 + (p : Int) = (n : Int) := by omega
  have hW1 : 1 ≤ W := by omega
  have hW16 : W ≤ 16 := by omega
  have hn8 : 8 ≤ n := by omega
  have hn2 : n ≤ 200 := by omega
  have hpw : 2 ^ W ≤ 2 ^ 16 := Nat.pow_le_pow_right (by decide) (by omega)
  obtain ⟨M, hM⟩ : ∃ M, M = 2 ^ W := ⟨_, rfl⟩
  have hMi : (2 : Int) ^ W = (M : Int) := by rw [hM]; push_cast; rfl
  have hM1 : 1 ≤ M := by rw [hM]; exact Nat.two_pow_pos W
  rw [← hM] at hpw
  have hMw : IntKind.i64.wrap (M : Int) = (M : Int) := IntWalk.i64_in _ (by omega)
  obtain ⟨v, hv⟩ : ∃ v, v = (a2 % (M : Nat)).toNat := ⟨_, rfl⟩
  have hv2 : v < M := by rw [hv]; exact within_lt a2 M hM1
  have HV := Lib.hid (fun wx => w10_int a2 (M : Int) M wx rfl hM1 (by omega) W2.out)
  rw [← hv] at HV
  have HM := Lib.hid hM
  clear w0 w1 w2 w3 hS hwf hlen hq hp hW hn hv hM
  go_enter Try.func17, Try.ntmps17
  go_wp2_with fail
  refine (known10_any _).mono ?_
  rintro e wA ⟨rfl, hk⟩
  have HK := Lib.hid hk
  clear hk
  go_wp2_with fail
  refine (HQ.out _).mono ?_
  rintro e wB ⟨rfl, rfl⟩
  go_wp2_with fail
  refine (levels_any _ ns W wA (HS.out.keep HK.out) hW16 HWF.out).mono ?_
  rintro e wB ⟨lv, L, rfl, hL3, hLx, hk, ho⟩
  obtain ⟨lo, lc, rfl⟩ := own_shape ho
  have HKB := Lib.hid (HK.out.trans hk (by simp)); have HL := Lib.hid ((reads_of_own ho).seen)
  have HLM := Lib.hid (show ∀ x ∈ L, x < M by rw [HM.out]; exact hLx)
  have HE1 := Lib.hid (fun wx (hs : Seen wx (.slice lo L.length lc) (nv .i64 L)) => encode_any _ L W wx hs hW1 hW16 hLx (by omega))
  have hs1 := encL_short W hW16 L (by omega)
  have hs2 := encL_long W n v hW16 hn8 hn2 L (by omega)
  obtain ⟨B, hB⟩ : ∃ B, B = encL W L := ⟨_, rfl⟩
  obtain ⟨C, hC⟩ : ∃ C, C = encL W (L ++ List.replicate n v) := ⟨_, rfl⟩
  have HCb := Lib.hid (show ∀ x ∈ C, x < 2 ^ 8 by rw [hC]; exact encL_bytes W _)
  have hLLx : ∀ x ∈ L ++ List.replicate n v, x < 2 ^ W := fun x hx => by
    rcases List.mem_append.1 hx with hx | hx
    · exact hLx x hx
    · rw [(List.mem_replicate.1 hx).2, ← HM.out]; exact hv2
  have HE2 := Lib.hid (fun lv wx (hs : Seen wx lv (nv .i64 (L ++ List.replicate n v))) => encode_any lv (L ++ List.replicate n v) W wx hs hW1 hW16 hLLx (by simp; omega))
  have HE3 := Lib.hid (fun lv wx (hs : Seen wx lv (nv .i64 (L ++ List.replicate n v))) => rencode_any lv (L ++ List.replicate n v) W wx hs hW1 hW16 hLLx (by simp; omega))
  rw [← hB] at HE1 hs1 hs2
  rw [← hC] at HE2 HE3 hs2
  obtain ⟨m, hm⟩ : ∃ m, m = L.length := ⟨_, rfl⟩
  obtain ⟨bl, hbl⟩ : ∃ bl, bl = B.length := ⟨_, rfl⟩
  obtain ⟨cl, hcl⟩ : ∃ cl, cl = C.length := ⟨_, rfl⟩
  rw [← hm] at HL HE1 hL3 hs1 ⊢
  rw [← hbl] at hs1 hs2
  rw [← hcl] at hs2
  obtain ⟨g, hg⟩ : ∃ g, g = (m + 7) / 8 := ⟨_, rfl⟩
  rw [← hg] at hs1
  have hgi : ((m : Int) + 7) / 8 = (g : Int) := by omega
  obtain ⟨gw, hgw⟩ : ∃ gw, gw = g * W := ⟨_, rfl⟩
  rw [← hgw] at hs1
  have hgwi : (g : Int) * (W : Int) = (gw : Int) := by rw [hgw]; push_cast; rfl
  have hgb : gw ≤ 38 * 16 := by rw [hgw]; exact Nat.mul_le_mul (by omega) hW16
  have HMm := Lib.hid hm; have HBL := Lib.hid hbl; have HCL := Lib.hid hcl
  clear hk ho hLx hB hC hLLx hm hbl hcl hg hgw
  go_wp2_with fail
  refine (HE1.out wB HL.out).mono ?_
  rintro e wC ⟨bv, rfl, hk, ho⟩
  rw [← HBL.out] at ho
  obtain ⟨bo, bc, rfl⟩ := own_shape ho
  have HKC := Lib.hid hk
  clear hk ho
  go_wp2_with fail
  refine (HP.out _).mono ?_
  rintro e wD ⟨rfl, rfl⟩
  go_wp2_with (at_builtin; refine wpList_append_reads _ rfl _ _ 22 22 rfl wC.heap.size 3 3 i0 (.int .i64 0) 8 Try.underlying22 Try.underlying22 hi hz0 hz1 hz2 rfl (.slice (some ⟨wC.heap.size, 0, none⟩) 0 0) 0 [] rfl (own_lit wC _ _ rfl (Nat.le_refl _) 3 _ _ 0 1 rfl rfl (by decide)) _ (nv .i64 L) rfl ((HL.out.keep HKC.out).keep ((Chg.refl [] wC).alloc _)) (nv_one _ _) ?c1 ?c2 ?c3 ?_)
  case c1 => rw [nv_length, ← HMm.out]; unfold maxLen; omega
  case c2 => rw [nv_length, ← HMm.out]; omega
  case c3 => simp
  intro v1 w1 hown1 hgrow1
  have HC1 := Lib.hid (((Chg.refl [] wC).alloc (.cells #[] 3)).grown hgrow1 (fun k hk => .inr (by simp [Value.ownBlock] at hk; omega)))
  have HO1 := Lib.hid (show w1.ownsRow wC.heap.size 3 1 v1 m (nv .i64 L) by rw [HMm.out]; simpa using hown1)
  obtain ⟨o1, c1, rfl⟩ := own_shape HO1.out
  clear hown1 hgrow1
  go_wp2
  go_loopw [13, 14] (fun x i w' => ∃ j : Nat, j ≤ n ∧ i = .int .i64 (j : Int) ∧ Chg [] wC w' ∧ w'.ownsRow wC.heap.size 3 1 x (m + j) (nv .i64 (L ++ List.replicate j v))) (fun _ i _ => n - (intOf i).toNat)
  case atStart => exact ⟨0, Nat.zero_le _, rfl, HC1.out, by simpa using HO1.out⟩
  case round =>
    obtain ⟨j, hj, rfl, hc, ho⟩ := hrel
    obtain ⟨xo, xc, rfl⟩ := own_shape ho
    have HC := Lib.hid hc; have HO := Lib.hid ho
    have hBz := hc.size
    clear hc ho
    by_cases hjn : j < n
    · have hlt : decide ((j : Int) < (n : Int)) = true := by simp; omega
      have E := Lib.hid (show nv .i64 (L ++ List.replicate j v) ++ [.int .i64 (v : Int)] = nv .i64 (L ++ List.replicate (j + 1) v) by rw [List.replicate_succ']; simp [nv])
      go_wp2_with fail
      refine (HV.out _).mono ?_
      rintro e wE ⟨rfl, rfl⟩
      go_wp2_with (at_builtin; refine wpList_append_own _ rfl _ _ 22 rfl wC.heap.size 3 i0 (.int .i64 0) 1 8 Try.underlying22 hi hz0 hz1 hz2 rfl (by decide) _ _ _ rfl (HO.out.alloc _) ⟨wr.heap.size, 0, none⟩ 1 1 [.int .i64 (v : Int)] rfl rfl ?c1 ?c2 ?c3 ?c4 ?c5 ?_)
      case c1 => exact (cell_one_new _ _ _)
      case c2 => simp [Value.oneCell']
      case c3 => unfold maxLen; omega
      case c4 => omega
      case c5 => simp; omega
      intro v' w2 hown' hgrow _
      rw [E.out] at hown'
      have HG := Lib.hid ((HC.out.alloc (.cells #[.int .i64 (v : Int)] 3)).grown hgrow (fun k hk => .inr (HO.out.lt k hk).1))
      have HO2 := Lib.hid hown'
      clear hgrow hown'
      go_wp2
      go_roundw
      case rel => exact ⟨j + 1, hjn, by go_num, HG.out, HO2.out⟩
      case measure => simp [intOf]; omega
    · have hlt : decide ((j : Int) < (n : Int)) = false := by simp; omega
      have hjn : j = n := by omega
      subst hjn
      have HLS := Lib.hid ((reads_of_own HO.out).seen)
      go_wp2_with fail
      refine (HE2.out _ _ HLS.out).mono ?_
      rintro e wF ⟨cv, rfl, hk, ho⟩
      rw [← HCL.out] at ho
      obtain ⟨co, cc, rfl⟩ := own_shape ho
      have HKF := Lib.hid hk
      have HCS := Lib.hid ((reads_of_own ho).seen)
      have HLF := Lib.hid (HLS.out.keep hk)
      clear hk ho
      obtain ⟨sE, hsE⟩ : ∃ s, s = str C := ⟨_, rfl⟩
      have HSE := Lib.hid hsE
      clear hsE
      have hcv := cvp HCS.out HCL.out HSE.out HCb.out
      have HQ1 := Lib.hid (Chg.refl [] wF)
      have HQ2 := Lib.hid (Chg.refl [] wF).drew
      have HT := Lib.hid (show Chg [] w wF from HKB.out.trans (HKC.out.trans (HC.out.trans HKF.out (by simp)) (by simp)) (by simp))
      have hee : (sE.toList == sE.toList) = true := by simp
      have k1 : IntKind.i64.wrap (gw : Int) = (gw : Int) := IntWalk.i64_in _ (by omega)
      have k2 : IntKind.i64.wrap (4 * (m : Int)) = 4 * (m : Int) := IntWalk.i64_in _ (by omega)
      have k3 : IntKind.i64.wrap ((gw : Int) + 4 * (m : Int)) = (gw : Int) + 4 * (m : Int) := IntWalk.i64_in _ (by omega)
      have k4 : IntKind.i64.wrap ((gw : Int) + 4 * (m : Int) + 8) = (gw : Int) + 4 * (m : Int) + 8 := IntWalk.i64_in _ (by omega)
      have k5 : decide ((bl : Int) ≤ (gw : Int) + 4 * (m : Int) + 8) = true := by simp; omega
      have k6 : IntKind.i64.wrap (2 * (W : Int)) = 2 * (W : Int) := IntWalk.i64_in _ (by omega)
      have k7 : IntKind.i64.wrap ((bl : Int) + 2 * (W : Int)) = (bl : Int) + 2 * (W : Int) := IntWalk.i64_in _ (by omega)
      have k8 : IntKind.i64.wrap ((bl : Int) + 2 * (W : Int) + 8) = (bl : Int) + 2 * (W : Int) + 8 := IntWalk.i64_in _ (by omega)
      have k9 : decide ((cl : Int) ≤ (bl : Int) + 2 * (W : Int) + 8) = true := by simp; omega
      go_upto_region 14 with fail
      have HSS := Lib.hid (show ∀ w', Chg [] wF w' → (convert 65 9 (.slice co cl cc)).run Try.prog w' = .ok (.string sE) w' from fun w' hk => hcv w' (Lib.hid hk))
      clear hcv HQ1 HQ2
      refine wp_region_held_drew (S := (fun w' => (convert 65 9 (.slice co cl cc)).run Try.prog w' = .ok (.string sE) w')) (by kernel_rfl) (HSS.out _ (Chg.refl _ _).drew) (fun hHeld => ?_)
      refine wpAnyH_take (i := 0) (oi := _) (v := ?_) rfl (by kernel_rfl) (by kernel_rfl) (by kernel_rfl) (fun _ _ _ h => h) (Or.inl ⟨by rfl, ?_⟩) (by assumption) ?_
      rotate_left
      · intro w hSw; (try dsimp only at hSw); go_simp; (try with_reducible rfl)
      try simp only [List.getElem_toArray, List.getElem_cons_succ, List.getElem_cons_zero, Act.put, List.setIfInBounds_toArray, List.set_cons_zero, List.set_cons_succ]
      refine wpAnyH_take (i := 1) (oi := _) (v := ?_) rfl (by kernel_rfl) (by kernel_rfl) (by kernel_rfl) (fun _ _ _ h => h) (Or.inl ⟨by rfl, ?_⟩) (by assumption) ?_
      rotate_left
      · intro w hSw; (try dsimp only at hSw); go_simp; (try with_reducible rfl)
      try simp only [List.getElem_toArray, List.getElem_cons_succ, List.getElem_cons_zero, Act.put, List.setIfInBounds_toArray, List.set_cons_zero, List.set_cons_succ]
      refine wpAnyH_take (i := 2) (oi := _) (v := ?_) rfl (by kernel_rfl) (by kernel_rfl) (by kernel_rfl) (fun _ _ _ h => h) (Or.inl ⟨by rfl, ?_⟩) (by assumption) ?_
      rotate_left
      · intro w hSw; (try dsimp only at hSw); go_simp; (try with_reducible rfl)
      try simp only [List.getElem_toArray, List.getElem_cons_succ, List.getElem_cons_zero, Act.put, List.setIfInBounds_toArray, List.set_cons_zero, List.set_cons_succ]
      refine wpAnyH_take (i := 3) (oi := _) (v := ?_) rfl (by kernel_rfl) (by kernel_rfl) (by kernel_rfl) (fun _ _ _ h => h) (Or.inl ⟨by rfl, ?_⟩) (by assumption) ?_
      rotate_left
      · intro w hSw; (try dsimp only at hSw); go_simp; (try with_reducible rfl)
      try simp only [List.getElem_toArray, List.getElem_cons_succ, List.getElem_cons_zero, Act.put, List.setIfInBounds_toArray, List.set_cons_zero, List.set_cons_succ]
      refine wpAnyH_take (i := 4) (oi := _) (v := ?_) rfl (by kernel_rfl) (by kernel_rfl) (by kernel_rfl) (fun _ _ _ h => h) (Or.inl ⟨by rfl, ?_⟩) (by assumption) ?_
      rotate_left
      · intro w hSw; (try dsimp only at hSw); go_simp; (try with_reducible rfl)
      try simp only [List.getElem_toArray, List.getElem_cons_succ, List.getElem_cons_zero, Act.put, List.setIfInBounds_toArray, List.set_cons_zero, List.set_cons_succ]
      refine wpAnyH_take (i := 5) (oi := _) (v := ?_) rfl (by kernel_rfl) (by kernel_rfl) (by kernel_rfl) (fun _ _ _ h => h) (Or.inl ⟨by rfl, ?_⟩) (by assumption) ?_
      rotate_left
      · intro w hSw; (try dsimp only at hSw); go_simp; (try with_reducible rfl)
      try simp only [List.getElem_toArray, List.getElem_cons_succ, List.getElem_cons_zero, Act.put, List.setIfInBounds_toArray, List.set_cons_zero, List.set_cons_succ]
      refine wpAnyH_take (i := 6) (oi := _) (v := ?_) rfl (by kernel_rfl) (by kernel_rfl) (by kernel_rfl) (fun _ _ _ h => h) (Or.inl ⟨by rfl, ?_⟩) (by assumption) ?_
      rotate_left
      · intro w hSw; (try dsimp only at hSw); go_simp; (try with_reducible rfl)
      try simp only [List.getElem_toArray, List.getElem_cons_succ, List.getElem_cons_zero, Act.put, List.setIfInBounds_toArray, List.set_cons_zero, List.set_cons_succ]
      refine wpAnyH_take (i := 7) (oi := _) (v := ?_) rfl (by kernel_rfl) (by kernel_rfl) (by kernel_rfl) (fun _ _ _ h => h) (Or.inl ⟨by rfl, ?_⟩) (by assumption) ?_
      rotate_left
      · intro w hSw; (try dsimp only at hSw); go_simp; (try with_reducible rfl)
      try simp only [List.getElem_toArray, List.getElem_cons_succ, List.getElem_cons_zero, Act.put, List.setIfInBounds_toArray, List.set_cons_zero, List.set_cons_succ]
      refine wpAnyH_take (i := 8) (oi := _) (v := ?_) rfl (by kernel_rfl) (by kernel_rfl) (by kernel_rfl) (fun _ _ _ h => h) (Or.inl ⟨by rfl, ?_⟩) (by assumption) ?_
      rotate_left
      · intro w hSw; (try dsimp only at hSw); go_simp; (try with_reducible rfl)
      try simp only [List.getElem_toArray, List.getElem_cons_succ, List.getElem_cons_zero, Act.put, List.setIfInBounds_toArray, List.set_cons_zero, List.set_cons_succ]
      refine wpAnyH_take (i := 9) (oi := _) (v := ?_) rfl (by kernel_rfl) (by kernel_rfl) (by kernel_rfl) (fun _ _ _ h => h) (Or.inl ⟨by rfl, ?_⟩) (by assumption) ?_
      rotate_left
      · intro w hSw; (try dsimp only at hSw); go_simp; (try with_reducible rfl)
      try simp only [List.getElem_toArray, List.getElem_cons_succ, List.getElem_cons_zero, Act.put, List.setIfInBounds_toArray, List.set_cons_zero, List.set_cons_succ]
      refine wpAnyH_take (i := 10) (oi := _) (v := ?_) rfl (by kernel_rfl) (by kernel_rfl) (by kernel_rfl) (fun _ _ _ h => h) (Or.inl ⟨by rfl, ?_⟩) (by assumption) ?_
      rotate_left
      · intro w hSw; (try dsimp only at hSw); go_simp; (try with_reducible rfl)
      try simp only [List.getElem_toArray, List.getElem_cons_succ, List.getElem_cons_zero, Act.put, List.setIfInBounds_toArray, List.set_cons_zero, List.set_cons_succ]
      refine wpAnyH_take (i := 11) (oi := _) (v := ?_) rfl (by kernel_rfl) (by kernel_rfl) (by kernel_rfl) (fun _ _ _ h => h) (Or.inl ⟨by rfl, ?_⟩) (by assumption) ?_
      rotate_left
      · intro w hSw; (try dsimp only at hSw); go_simp; (try with_reducible rfl)
      try simp only [List.getElem_toArray, List.getElem_cons_succ, List.getElem_cons_zero, Act.put, List.setIfInBounds_toArray, List.set_cons_zero, List.set_cons_succ]
      refine wpAnyH_take (i := 12) (oi := _) (v := ?_) rfl (by kernel_rfl) (by kernel_rfl) (by kernel_rfl) (fun _ _ _ h => h) (Or.inl ⟨by rfl, ?_⟩) (by assumption) ?_
      rotate_left
      · intro w hSw; (try dsimp only at hSw); go_simp; (try with_reducible rfl)
      try simp only [List.getElem_toArray, List.getElem_cons_succ, List.getElem_cons_zero, Act.put, List.setIfInBounds_toArray, List.set_cons_zero, List.set_cons_succ]
      refine wpAnyH_take (i := 13) (oi := _) (v := ?_) rfl (by kernel_rfl) (by kernel_rfl) (by kernel_rfl) (fun _ _ _ h => h) (Or.inl ⟨by rfl, ?_⟩) (by assumption) ?_
      rotate_left
      · intro w hSw; (try dsimp only at hSw); go_simp; (try with_reducible rfl)
      try simp only [List.getElem_toArray, List.getElem_cons_succ, List.getElem_cons_zero, Act.put, List.setIfInBounds_toArray, List.set_cons_zero, List.set_cons_succ]
      refine wpAnyH_take (i := 14) (oi := _) (v := ?_) rfl (by kernel_rfl) (by kernel_rfl) (by kernel_rfl) (fun _ _ _ h => h) (Or.inl ⟨by rfl, ?_⟩) (by assumption) ?_
      rotate_left
      · intro w hSw; (try dsimp only at hSw); go_simp; (try with_reducible rfl)
      try simp only [List.getElem_toArray, List.getElem_cons_succ, List.getElem_cons_zero, Act.put, List.setIfInBounds_toArray, List.set_cons_zero, List.set_cons_succ]
      refine wpAnyH_take (i := 15) (oi := _) (v := ?_) rfl (by kernel_rfl) (by kernel_rfl) (by kernel_rfl) (fun _ _ _ h => h) (Or.inl ⟨by rfl, ?_⟩) (by assumption) ?_
      rotate_left
      · intro w hSw; (try dsimp only at hSw); go_simp; (try with_reducible rfl)
      try simp only [List.getElem_toArray, List.getElem_cons_succ, List.getElem_cons_zero, Act.put, List.setIfInBounds_toArray, List.set_cons_zero, List.set_cons_succ]
      refine wpAnyH_take (i := 16) (oi := _) (v := ?_) rfl (by kernel_rfl) (by kernel_rfl) (by kernel_rfl) (fun _ _ _ h => h) (Or.inl ⟨by rfl, ?_⟩) (by assumption) ?_
      rotate_left
      · intro w hSw; (try dsimp only at hSw); go_simp; (try with_reducible rfl)
      try simp only [List.getElem_toArray, List.getElem_cons_succ, List.getElem_cons_zero, Act.put, List.setIfInBounds_toArray, List.set_cons_zero, List.set_cons_succ]
      refine wpAnyH_take (i := 17) (oi := _) (v := ?_) rfl (by kernel_rfl) (by kernel_rfl) (by kernel_rfl) (fun _ _ _ h => h) (Or.inl ⟨by rfl, ?_⟩) (by assumption) ?_
      rotate_left
      · intro w hSw; (try dsimp only at hSw); go_simp; (try with_reducible rfl)
      try simp only [List.getElem_toArray, List.getElem_cons_succ, List.getElem_cons_zero, Act.put, List.setIfInBounds_toArray, List.set_cons_zero, List.set_cons_succ]
      refine wpAnyH_take (i := 18) (oi := _) (v := ?_) rfl (by kernel_rfl) (by kernel_rfl) (by kernel_rfl) (fun _ _ _ h => h) (Or.inl ⟨by rfl, ?_⟩) (by assumption) ?_
      rotate_left
      · intro w hSw; (try dsimp only at hSw); go_simp; (try with_reducible rfl)
      try simp only [List.getElem_toArray, List.getElem_cons_succ, List.getElem_cons_zero, Act.put, List.setIfInBounds_toArray, List.set_cons_zero, List.set_cons_succ]
      refine wpAnyH_take (i := 19) (oi := _) (v := ?_) rfl (by kernel_rfl) (by kernel_rfl) (by kernel_rfl) (fun _ _ _ h => h) (Or.inl ⟨by rfl, ?_⟩) (by assumption) ?_
      rotate_left
      · intro w hSw; (try dsimp only at hSw); go_simp; (try with_reducible rfl)
      try simp only [List.getElem_toArray, List.getElem_cons_succ, List.getElem_cons_zero, Act.put, List.setIfInBounds_toArray, List.set_cons_zero, List.set_cons_succ]
      refine wpAnyH_take (i := 20) (oi := _) (v := ?_) rfl (by kernel_rfl) (by kernel_rfl) (by kernel_rfl) (fun _ _ _ h => h) (Or.inl ⟨by rfl, ?_⟩) (by assumption) ?_
      rotate_left
      · intro w hSw; (try dsimp only at hSw); go_simp; (try with_reducible rfl)
      try simp only [List.getElem_toArray, List.getElem_cons_succ, List.getElem_cons_zero, Act.put, List.setIfInBounds_toArray, List.set_cons_zero, List.set_cons_succ]
      refine wpAnyH_take (i := 21) (oi := _) (v := ?_) rfl (by kernel_rfl) (by kernel_rfl) (by kernel_rfl) (fun _ _ _ h => h) (Or.inl ⟨by rfl, ?_⟩) (by assumption) ?_
      rotate_left
      · intro w hSw; (try dsimp only at hSw); go_simp; (try with_reducible rfl)
      try simp only [List.getElem_toArray, List.getElem_cons_succ, List.getElem_cons_zero, Act.put, List.setIfInBounds_toArray, List.set_cons_zero, List.set_cons_succ]
      refine wpAnyH_take (i := 22) (oi := _) (v := ?_) rfl (by kernel_rfl) (by kernel_rfl) (by kernel_rfl) (fun _ _ _ h => h) (Or.inl ⟨by rfl, ?_⟩) (by assumption) ?_
      rotate_left
      · intro w hSw; (try dsimp only at hSw); go_simp; (try with_reducible rfl)
      try simp only [List.getElem_toArray, List.getElem_cons_succ, List.getElem_cons_zero, Act.put, List.setIfInBounds_toArray, List.set_cons_zero, List.set_cons_succ]
      refine wpAnyH_take (i := 23) (oi := _) (v := ?_) rfl (by kernel_rfl) (by kernel_rfl) (by kernel_rfl) (fun _ _ _ h => h) (Or.inl ⟨by rfl, ?_⟩) (by assumption) ?_
      rotate_left
      · intro w hSw; (try dsimp only at hSw); go_simp; (try with_reducible rfl)
      try simp only [List.getElem_toArray, List.getElem_cons_succ, List.getElem_cons_zero, Act.put, List.setIfInBounds_toArray, List.set_cons_zero, List.set_cons_succ]
      refine wpAnyH_take (i := 24) (oi := _) (v := ?_) rfl (by kernel_rfl) (by kernel_rfl) (by kernel_rfl) (fun _ _ _ h => h) (Or.inl ⟨by rfl, ?_⟩) (by assumption) ?_
      rotate_left
      · intro w hSw; (try dsimp only at hSw); go_simp; (try with_reducible rfl)
      try simp only [List.getElem_toArray, List.getElem_cons_succ, List.getElem_cons_zero, Act.put, List.setIfInBounds_toArray, List.set_cons_zero, List.set_cons_succ]
      refine wpAnyH_take (i := 25) (oi := _) (v := ?_) rfl (by kernel_rfl) (by kernel_rfl) (by kernel_rfl) (fun _ _ _ h => h) (Or.inl ⟨by rfl, ?_⟩) (by assumption) ?_
      rotate_left
      · intro w hSw; (try dsimp only at hSw); go_simp; (try with_reducible rfl)
      try simp only [List.getElem_toArray, List.getElem_cons_succ, List.getElem_cons_zero, Act.put, List.setIfInBounds_toArray, List.set_cons_zero, List.set_cons_succ]
      refine wpAnyH_take (i := 26) (oi := _) (v := ?_) rfl (by kernel_rfl) (by kernel_rfl) (by kernel_rfl) (fun _ _ _ h => h) (Or.inl ⟨by rfl, ?_⟩) (by assumption) ?_
      rotate_left
      · intro w hSw; (try dsimp only at hSw); go_simp; (try with_reducible rfl)
      try simp only [List.getElem_toArray, List.getElem_cons_succ, List.getElem_cons_zero, Act.put, List.setIfInBounds_toArray, List.set_cons_zero, List.set_cons_succ]
      refine wpAnyH_ready (rs := [27]) (by kernel_rfl) (by simp) ?_
      refine AllReadyH.cons (o := _) rfl (fun K hK => ?_) AllReadyH.nil
      go_simp
      go_at_call 54
      refine (HE3.out _ _ (HLF.out.keep (Chg.refl [] wF).drew)).mono ?_
      rintro e w5 ⟨rv, rfl, hk5, ho5⟩
      rw [← HCL.out] at ho5
      obtain ⟨ro, rc, rfl⟩ := own_shape ho5
      have HC5 : Hid (Chg [] wF w5) := Lib.hid ((Chg.refl [] wF).drew.trans hk5 (by simp))
      have hcv5 := cvp (reads_of_own ho5).seen HCL.out HSE.out HCb.out w5 (Lib.hid (Chg.refl [] w5))
      clear hk5 ho5
      refine hK.out _ _ (HSS.out _ HC5.out) (fun hHeld5 => ?_)
      clear hK K
      try simp only [Act.put, List.setIfInBounds_toArray, List.set_cons_zero, List.set_cons_succ]
      refine wpAnyH_ready (rs := [28]) (by kernel_rfl) (by simp) ?_
      refine AllReadyH.cons (o := _) rfl (fun K hK => ?_) AllReadyH.nil
      go_simp
      refine hK.out _ _ (HSS.out _ HC5.out) (fun hHeld6 => ?_)
      clear hK K
      try simp only [Act.put, List.setIfInBounds_toArray, List.set_cons_zero, List.set_cons_succ]
      refine wpAnyH_take (i := 29) (oi := _) (v := ?_) rfl (by kernel_rfl) (by kernel_rfl) (by kernel_rfl) (fun _ _ _ h => h) (Or.inl ⟨by rfl, ?_⟩) (by assumption) ?_
      rotate_left
      · intro w hSw; (try dsimp only at hSw); go_simp; (try with_reducible rfl)
      try simp only [List.getElem_toArray, List.getElem_cons_succ, List.getElem_cons_zero, Act.put, List.setIfInBounds_toArray, List.set_cons_zero, List.set_cons_succ]
      refine wpAnyH_take (i := 30) (oi := _) (v := ?_) rfl (by kernel_rfl) (by kernel_rfl) (by kernel_rfl) (fun _ _ _ h => h) (Or.inl ⟨by rfl, ?_⟩) (by assumption) ?_
      rotate_left
      · intro w hSw; (try dsimp only at hSw); go_simp; (try with_reducible rfl)
      try simp only [List.getElem_toArray, List.getElem_cons_succ, List.getElem_cons_zero, Act.put, List.setIfInBounds_toArray, List.set_cons_zero, List.set_cons_succ]
      refine wpAnyH_take (i := 31) (oi := _) (v := ?_) rfl (by kernel_rfl) (by kernel_rfl) (by kernel_rfl) (fun _ _ _ h => h) (Or.inl ⟨by rfl, ?_⟩) (by assumption) ?_
      rotate_left
      · intro w hSw; (try dsimp only at hSw); go_simp; (try with_reducible rfl)
      try simp only [List.getElem_toArray, List.getElem_cons_succ, List.getElem_cons_zero, Act.put, List.setIfInBounds_toArray, List.set_cons_zero, List.set_cons_succ]
      refine wpAnyH_done (by kernel_rfl) ?_ _
      go_wp2
      go_ret
      exact ⟨by simp, (HT.out.trans HC5.out (by simp)).below (Nat.le_refl _) (by simp)⟩

end Go.Proofs.Ytohibncnhhldhaa
