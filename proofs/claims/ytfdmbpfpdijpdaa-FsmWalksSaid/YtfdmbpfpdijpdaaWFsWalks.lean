/- FsmWalks. -/
import Derived.Test.YtfdmbpfpdijpdaaLc
import Derived.Test.YtfdmbpfpdijpdaaYC
namespace Go.Proofs.Ytfdmbpfpdijpdaa
open Go.RowKit
set_option linter.unusedVariables false
set_option linter.unusedSimpArgs false

/-- How far each column is read. -/
def cntR (Pre : List NC2) (j : Nat) : Nat := (Pre.filter fun x => x.1 == j).length

theorem cntR_snoc (Pre : List NC2) (x : NC2) (j : Nat) : cntR (Pre ++ [x]) j = cntR Pre j + if j = x.1 then 1 else 0 := by
  unfold cntR
  rw [List.filter_append, List.length_append]
  by_cases h : j = x.1
  · rw [if_pos h, List.filter_cons_of_pos (by simp [h])]; rfl
  · rw [if_neg h, List.filter_cons_of_neg (by simp; exact fun e => h e.symm)]; rfl

set_option maxRecDepth 100000 in
set_option maxHeartbeats 8000000 in
theorem walk_FsmWalks (a0 : Option Addr) (len0 cap0 : Nat) (z0 : List Int) (a1 : Option Addr) (len1 cap1 : Nat) (rs : List (List Int)) (w : World) (w0 : IsRow .i64 w a0 len0 cap0 z0) (w1 : RowsI w (.slice a1 len1 cap1) rs) :
    Calls Try.prog 10 #[.slice a0 len0 cap0, .slice a1 len1 cap1] w fun e w' => e = .returned (.bool true) ∧ Below w.heap.size w w' := by
  obtain ⟨ii, hii, hiz0, hiz1, hiz2⟩ := info_int
  obtain ⟨ns, hS, hlen, hwf⟩ := w0.seenI
  have HS := Lib.hid hS; have HWF := Lib.hid hwf; have HR := Lib.hid w1
  clear w0 hS hwf hlen
  have hmk := mk_ok ns
  have hm15 := mk15 ns
  obtain ⟨r0, fo, hMF⟩ := mk_mf ns
  have HMF := Lib.hid hMF
  obtain ⟨l, hl⟩ : ∃ l, l = mk ns := ⟨_, rfl⟩
  have HL := Lib.hid hl
  obtain ⟨TS, hTS⟩ : ∃ TS, TS = (rs.take 16).map (mk8 l) := ⟨_, rfl⟩
  have hTl : TS.length ≤ 16 := by rw [hTS, List.length_map, List.length_take]; omega
  have HLM := Lib.hid (show ∀ t ∈ TS, ∃ r, t = mk8 (mk ns) r from fun t ht => by rw [hTS, hl] at ht; obtain ⟨r, -, rfl⟩ := List.mem_map.1 ht; exact ⟨r, rfl⟩)
  have hln := hmk.le
  have hlp := hmk.pos
  rw [← hl] at hmk hln hlp hm15
  have HFC := Lib.hid (show ∀ f ∈ l, f.c ≤ 9223372036854775807 from fun f hf => by have := hmk.c f hf; omega)
  have HMK := Lib.hid (show ∀ wx sv, SeenF wx sv l → Chg [] w wx → Calls Try.prog 17 #[sv, .slice a1 len1 cap1] wx fun e w' => ∃ lv, e = .returned lv ∧ ListIn (wx.heap.size ≤ ·) w' l.length TS lv ∧ Chg [] wx w' from fun wx sv hs hk => by
    rw [hTS]
    exact many_any sv (.slice a1 len1 cap1) l rs wx hs (HR.out.keep hk) hlp (by omega) HFC.out)
  have HRC := Lib.hid (show ∀ sv lv wx, SeenF wx sv l → ListAt wx l.length TS lv → _ from fun sv lv wx hs hL => rcolumns_made sv lv ns TS l.length wx (by rw [← hl]; exact hs) hL HLM.out hTl)
  have HNX := Lib.hid (show ∀ sv wx, SeenF wx sv l → _ from fun sv wx hs => next_any sv l wx hs hm15.chk hm15.c hm15.n)
  obtain ⟨m, hm⟩ : ∃ m, m = TS.length := ⟨_, rfl⟩
  have HM := Lib.hid hm
  obtain ⟨N, hN⟩ : ∃ N, N = (leavesL (mk ns)).length := ⟨_, rfl⟩
  have hN40 : N ≤ 40 := by have h := leavesTo_le (mk ns) (mk ns).length; rw [hN]; unfold leavesL; rw [hl] at hln; omega
  have hN0 : 0 < N := by rw [hN]; exact hMF.pos
  have HNN := Lib.hid hN
  obtain ⟨T, hT⟩ : ∃ T, T = trs (mk ns) := ⟨_, rfl⟩
  have HTL := Lib.hid (show T.length = N by rw [hT, trs_length, hN])
  have HTT := Lib.hid hT
  have HC4 := Lib.hid (show ∀ j, j < N → (colA (mk ns) TS j).length ≤ 4000 from fun j hj => by
    obtain ⟨W, hW⟩ : ∃ W, (lways (mk ns))[j]? = some W := ⟨_, List.getElem?_eq_getElem (by rw [lways_len, ← hN]; exact hj)⟩
    rw [colA_col hW]
    exact ((made_cols ns TS HLM.out hTl).2 W (List.mem_of_getElem? hW)).2.2)
  have HTR := Lib.hid (show ∀ j, j < N → ∀ x ∈ colA (mk ns) TS j, x.r ≤ (T.getD j []).length from fun j hj x hx => by rw [hT]; exact col_trs ns (by rw [← hN]; exact hj) x hx)
  have HT40 := Lib.hid (show ∀ j, j < N → (T.getD j []).length ≤ 40 from fun j hj => by
    obtain ⟨lf, hlf⟩ : ∃ lf, (leavesL (mk ns))[j]? = some lf := ⟨_, List.getElem?_eq_getElem (by rw [← hN]; exact hj)⟩
    have := (leaf_trs hlf).2
    rw [hT]
    rw [hl] at hln
    omega)
  rw [← hN] at HRC
  rw [hl, ← hT, ← hl] at HNX
  rw [← hm] at hTl
  have q1 : ((N : Int) != (N : Int)) = false := by simp
  clear w1 hmk hm15 hMF hl hTS hm hN hT hln
  go_enter Try.func10, Try.ntmps10
  go_wp2_with fail
  refine (known15_any _).mono ?_
  rintro e wA ⟨rfl, hk⟩
  have HK1 := Lib.hid hk
  clear hk
  go_wp2_with fail
  refine (make_any _ ns _ (HS.out.keep HK1.out) HWF.out).mono ?_
  rintro e wB ⟨sv, rfl, hown, hk⟩
  rw [← HL.out] at hown
  have hSv := SeenF.own hown rfl
  obtain ⟨sa, sc, rfl⟩ := own_shape hown
  have HSF := Lib.hid hSv
  have HK2 := Lib.hid (HK1.out.trans hk (by simp))
  clear hown hSv hk
  go_wp2_with fail
  refine (HMK.out wB _ HSF.out HK2.out).mono ?_
  rintro e wC ⟨lv, rfl, hli, hk⟩
  have hla := hli.at
  obtain ⟨lo, lc, rfl, hlc1, hlc2⟩ := hla.shape
  rw [← HM.out] at hla hlc1 ⊢
  have HLV := Lib.hid hla
  have HK3 := Lib.hid (HK2.out.trans hk (by simp)); have HSF3 := Lib.hid (HSF.out.keep hk)
  clear hli hk hla
  go_wp2_with fail
  refine (HRC.out _ _ wC HSF3.out HLV.out).mono ?_
  rintro e wD ⟨cb, cc, wz, rfl, hk, hcc1, hcc2, hcb, hCS, hz⟩
  have HK4 := Lib.hid (HK3.out.trans hk (by simp)); have HSF4 := Lib.hid (HSF3.out.keep hk)
  have HCO := Lib.hid (hCS.cols (by omega))
  clear hk hCS hz
  go_wp2_with fail
  refine (HNX.out _ wD HSF4.out).mono ?_
  rintro e wE ⟨nv', rfl, hr, hk⟩
  obtain ⟨no, nc, rfl, hn1, hn2⟩ := hr.shape
  rw [nextL_length, HTL.out] at hn1 hr ⊢
  have HRW := Lib.hid hr
  have HK5 := Lib.hid (HK4.out.trans hk (by simp)); have HCO5 := Lib.hid (HCO.out.keep hk); have HLV5 := Lib.hid hk
  clear hr hk
  go_wp2_with (at_make; refine wpList_make_full _ rfl _ _ 22 rfl wE.heap.size 3 ii (.int .i64 0) 1 Try.underlying22 hii hiz0 hiz1 .i64 .i64 _ _ N rfl rfl rfl rfl ?c1 ?c2 (Nat.le_refl _) ?_)
  case c1 => rw [hiz2]; omega
  case c2 => unfold maxLen; omega
  intro wF hown2 hg2
  have hlt2 : wE.heap.size < wF.heap.size := (hown2.lt wE.heap.size rfl).2
  rw [cells_zeroi] at hown2
  have HA0 := Lib.hid (blkI_of_own hown2 rfl)
  have HK6 := Lib.hid ((Chg.refl [] wE).grown hg2 (by simp))
  clear hown2 hg2
  obtain ⟨ga, hga⟩ : ∃ g, g = wE.heap.size := ⟨_, rfl⟩
  rw [← hga] at HA0 hlt2 ⊢
  have HGA := Lib.hid hga
  clear hga
  obtain ⟨ng, noff, rfl, hat⟩ := HRW.out.get hN0 (by rw [nextL_length, HTL.out])
  have HAT := Lib.hid hat
  clear hat
  have HCC := Lib.hid (show ∀ wx, Chg [ga] wE wx → (∀ j, j < N → (∃ ro rc, wx.cell? ⟨cb, j * 3, none⟩ = some (.slice ro (colA (mk ns) TS j).length rc) ∧ (colA (mk ns) TS j).length ≤ rc ∧ ∀ q x, (colA (mk ns) TS j)[q]? = some x → ∃ g off, ro = some ⟨g, off, none⟩ ∧ wx.cell? ⟨g, off + q, none⟩ = some (.int .i64 (x.r : Int))) ∧ ∃ xg xoff xc, wx.cell? ⟨ng, noff + j, none⟩ = some (.slice (some ⟨xg, xoff, none⟩) ((T.getD j []).length + 1) xc) ∧ (T.getD j []).length + 1 ≤ xc ∧ ∀ q, q ≤ (T.getD j []).length → wx.cell? ⟨xg, xoff + q, none⟩ = some (.int .i64 (aft T j q : Int))) from fun wx h j hj => by
    have hga : ∀ {p : Addr} {v : Value}, wE.cell? p = some v → wx.cell? p = some v := fun hp => h.cell hp (by
      have := World.block_lt_of_cell? wE _ hp
      rw [← HGA.out] at this
      simp
      omega)
    obtain ⟨rv, dv, vv, a1, -, -, a4, -, -⟩ := HCO5.out.at' j hj
    obtain ⟨ro, rc, rfl, s1, s2⟩ := a4.shape
    rw [colR_length] at s1 a1
    refine ⟨⟨ro, rc, hga a1, s1, fun q x hx => ?_⟩, ?_⟩
    · have hq := (List.getElem?_eq_some_iff.1 hx).1
      obtain ⟨g, off, rfl, hc⟩ := SeenI.get a4 (by rw [colR_length]; omega) rfl
      have h2 := hc q (by rw [colR_length]; exact hq)
      rw [show (colR (colA (mk ns) TS j)).getD q 0 = (x.r : Int) by simp [colR, List.getD, hx]] at h2
      exact ⟨g, off, rfl, hga h2⟩
    · obtain ⟨xo, xc, x1, x2, x3, x4⟩ := HAT.out j hj
      rw [nextL_get T j (by rw [HTL.out]; exact hj), nxRow_length] at x1 x2 x4
      obtain ⟨xg, xoff, rfl, hx⟩ := x4.at0 (by rw [nxRow_length]) (by omega)
      refine ⟨xg, xoff, xc, hga x1, x2, fun q hq => hga ?_⟩
      have h := hx q (by omega)
      rwa [nxRow_get T j q hq] at h)
  have HZR := Lib.hid (show ∀ t ∈ TS, Rd (aft T) (fun _ => 0) 0 (ordR fo t) N ∧ (ordR fo t).length ≤ 4000 ∧ (∀ x ∈ ordR fo t, x.1 < N) ∧ ∀ j, cntR (ordR fo t) j = (atC (lways (mk ns)) 0 0 0 0 t j).length from fun t ht => by
    refine ⟨?_, ord_len HMF.out (HLM.out t ht), fun x hx => ?_, fun j => ?_⟩
    · rw [HTT.out, HNN.out]; exact rd_rec HMF.out (HLM.out t ht)
    · rw [HNN.out]; exact ord_lt HMF.out x hx
    · have := congrArg List.length (ord_cells HMF.out (HLM.out t ht) j)
      rw [List.length_map] at this
      exact this)
  go_wp2
  go_loopw [11] (fun x wx => ∃ (i : Nat) (A : List Int), x = .int .i64 (i : Int) ∧ i ≤ m ∧ Chg [ga] wE wx ∧ BlkI wx ga A ∧ Hid (A.length = N ∧ ∀ j, j < N → A[j]? = some ((colA (mk ns) (TS.take i) j).length : Int))) (fun x _ => m - (intOf x).toNat)
  case atStart => exact ⟨0, List.replicate N 0, rfl, Nat.zero_le _, HK6.out.mono (by simp), HA0.out, Lib.hid ⟨by simp, fun j hj => by rw [List.getElem?_replicate, if_pos hj]; simp [colA]⟩⟩
  case round =>
    obtain ⟨i, A, rfl, him, hc, hb, HA⟩ := hrel
    have HC := Lib.hid hc; have HB := Lib.hid hb
    clear hc hb
    by_cases hlt : i < m
    · have d0 : decide ((i : Int) < (m : Int)) = true := by simp; omega
      have hiw : IntKind.i64.wrap ((i : Int) + 1) = (i : Int) + 1 := IntWalk.i64_in _ (by omega)
      obtain ⟨t, ht⟩ : ∃ t, TS[i]? = some t := ⟨_, List.getElem?_eq_getElem (by rw [← HM.out]; exact hlt)⟩
      obtain ⟨hz1, hz2, hz3, hz4⟩ := HZR.out t (List.mem_of_getElem? ht)
      have HTI := Lib.hid ht; have HZ1 := Lib.hid hz1; have HZ2 := Lib.hid hz2; have HZ3 := Lib.hid hz3; have HZ4 := Lib.hid hz4
      clear ht hz1 hz2 hz3 hz4
      go_wp2
      go_loopw [12, 13] (fun x y wx => ∃ (j s : Nat) (A : List Int) (Pre Rest : List NC2), x = .int .i64 (j : Int) ∧ y = .int .i64 (s : Int) ∧ Chg [ga] wE wx ∧ BlkI wx ga A ∧ Hid (ordR fo t = Pre ++ Rest ∧ Pre.length = s ∧ Rd (aft T) (fun _ => 0) j Rest N ∧ A.length = N ∧ ∀ q, q < N → A[q]? = some (((colA (mk ns) (TS.take i) q).length + cntR Pre q : Nat) : Int))) (fun _ y _ => 4001 - (intOf y).toNat)
      case atStart => exact ⟨0, 0, A, [], ordR fo t, rfl, rfl, HC.out, HB.out, Lib.hid ⟨rfl, rfl, HZ1.out, HA.out.1, fun q hq => by rw [HA.out.2 q hq]; simp [cntR]⟩⟩
      case round =>
        obtain ⟨j, s, A2, Pre, Rest, rfl, rfl, hc, hb, HX⟩ := hrel
        have HC2 := Lib.hid hc; have HB2 := Lib.hid hb
        clear hc hb
        have hs4 : s ≤ 4000 := by
          have h1 := congrArg List.length HX.out.1
          rw [List.length_append, HX.out.2.1] at h1
          have := HZ2.out
          omega
        have hsw : IntKind.i64.wrap ((s : Int) + 1) = (s : Int) + 1 := IntWalk.i64_in _ (by omega)
        by_cases hjN : j < N
        · have d1 : decide ((j : Int) < (N : Int)) = true := by simp; omega
          obtain ⟨c, Rest2, hrest⟩ : ∃ c R, Rest = (j, c) :: R := by
            have h3 := HX.out.2.2.1
            cases Rest with
            | nil => have h3 : j = N := h3; omega
            | cons x R =>
              obtain ⟨h4, -⟩ := h3
              exact ⟨x.2, R, by rw [← h4]⟩
          have hs40 : s < 4000 := by
            have h1 := congrArg List.length HX.out.1
            rw [hrest, List.length_append, HX.out.2.1, List.length_cons] at h1
            have := HZ2.out
            omega
          obtain ⟨R, hcol, hnx⟩ := col_split HMF.out HLM.out HTI.out (show ordR fo t = Pre ++ (j, c) :: Rest2 by rw [HX.out.1, hrest]) (by rw [← HNN.out]; exact hjN)
          obtain ⟨a, ha⟩ : ∃ a, a = (colA (mk ns) (TS.take i) j).length + cntR Pre j := ⟨_, rfl⟩
          obtain ⟨q, hq⟩ : ∃ q, q = nextR j Rest2 (fun _ => 0) := ⟨_, rfl⟩
          obtain ⟨n, hn⟩ : ∃ n, n = (colA (mk ns) TS j).length := ⟨_, rfl⟩
          have hna : n = a + 1 + R.length := by rw [hn, hcol, ha]; simp [cntR]; omega
          have hn4 := HC4.out j hjN
          rw [← hn] at hn4
          have hqT : q ≤ (T.getD j []).length := by
            rw [hq, ← hnx]
            cases hR : R with
            | nil => exact Nat.zero_le _
            | cons x X => exact HTR.out j hjN x (by rw [hcol, hR]; simp)
          have hT40 := HT40.out j hjN
          obtain ⟨tl, htl⟩ : ∃ z, z = (T.getD j []).length := ⟨_, rfl⟩
          obtain ⟨⟨ro, rc, b1, b2, b3⟩, xg, xoff, xc, x1, x2, x3⟩ := HCC.out wr HC2.out j hjN
          rw [← hn] at b1 b2
          rw [← htl] at hqT hT40 x1 x2 x3
          have hAj : A2[j]? = some (a : Int) := by rw [ha]; exact HX.out.2.2.2.2 j hjN
          have y1 : wr.cell? ⟨ga, j, none⟩ = some (.int .i64 (a : Int)) := HB2.out.cell hAj
          have yf := HB2.out.frozen j
          have hcbE : cb < wE.heap.size := by
            obtain ⟨rv, _, _, h1, _⟩ := HCO5.out.at' j hjN
            exact World.block_lt_of_cell? wE _ h1
          have hngE : ng < wE.heap.size := by
            obtain ⟨_, _, h1, _⟩ := HAT.out j hjN
            exact World.block_lt_of_cell? wE _ h1
          have hcg : cb ≠ ga := by rw [HGA.out]; omega
          have hngg : ng ≠ ga := by rw [HGA.out]; omega
          have haw : IntKind.i64.wrap ((a : Int) + 1) = (a : Int) + 1 := IntWalk.i64_in _ (by omega)
          have HN2 := Lib.hid (show Hid (ordR fo t = (Pre ++ [(j, c)]) ++ Rest2 ∧ (Pre ++ [(j, c)]).length = s + 1 ∧ Rd (aft T) (fun _ => 0) (aft T j q) Rest2 N ∧ (A2.set j ((a : Int) + 1)).length = N ∧ ∀ p, p < N → (A2.set j ((a : Int) + 1))[p]? = some (((colA (mk ns) (TS.take i) p).length + cntR (Pre ++ [(j, c)]) p : Nat) : Int)) from Lib.hid ⟨by rw [HX.out.1, hrest]; simp, by simp [HX.out.2.1], by
              have h3 := HX.out.2.2.1
              rw [hrest] at h3
              rw [hq]
              exact h3.2, by rw [List.length_set]; exact HX.out.2.2.2.1, fun p hp => by
              rw [cntR_snoc]
              by_cases e : p = j
              · subst e
                rw [List.getElem?_set_self (by rw [HX.out.2.2.2.1]; exact hp), if_pos rfl, ha]
                push_cast
                rw [Int.add_assoc]
              · rw [List.getElem?_set_ne (fun h => e h.symm), if_neg e, Nat.add_zero]
                exact HX.out.2.2.2.2 p hp⟩)
          have e1 : decide ((j : Int) < 0) = false := by simp
          have e2 : decide ((4000 : Int) < (s : Int)) = false := by simp; omega
          have e3 : decide ((n : Int) ≤ (a : Int)) = false := by simp; omega
          have hjs : ¬ (j : Int) < 0 := by omega
          have hss : ¬ (4000 : Int) < (s : Int) := by omega
          have e4 : ¬ (n : Int) ≤ (a : Int) := by omega
          have e5 : ¬ n ≤ a := by omega
          have hR0 : a + 1 < n ∨ (¬ a + 1 < n ∧ q = 0) := by
            by_cases h : a + 1 < n
            · exact .inl h
            · refine .inr ⟨h, ?_⟩
              have : R = [] := List.eq_nil_of_length_eq_zero (by omega)
              rw [hq, ← hnx, this]
          have HXT := Lib.hid (show a + 1 < n → ∃ x, (colA (mk ns) TS j)[a + 1]? = some x ∧ x.r = q from fun h => by
            cases hRR : R with
            | nil => rw [hRR] at hna; simp at hna; omega
            | cons x X =>
              refine ⟨x, ?_, by rw [hq, ← hnx, hRR]⟩
              rw [hcol, ha, hRR]
              have e : (colA (mk ns) (TS.take i) j ++ (Pre.filter fun x => x.1 == j).map (·.2)).length = (colA (mk ns) (TS.take i) j).length + cntR Pre j := by simp [cntR]
              rw [List.getElem?_append_right (by rw [e]; omega), e, show (colA (mk ns) (TS.take i) j).length + cntR Pre j + 1 - ((colA (mk ns) (TS.take i) j).length + cntR Pre j) = 1 by omega]
              rfl)
          have HFUN := Lib.hid (show ∀ wx, Chg [ga] wE wx → (∃ ro rc, wx.cell? ⟨cb, j * 3, none⟩ = some (.slice ro n rc) ∧ n ≤ rc ∧ (a + 1 < n → ∃ g off, ro = some ⟨g, off, none⟩ ∧ wx.cell? ⟨g, off + (a + 1), none⟩ = some (.int .i64 (q : Int)))) ∧ ∃ xg xoff xc, wx.cell? ⟨ng, noff + j, none⟩ = some (.slice (some ⟨xg, xoff, none⟩) (tl + 1) xc) ∧ tl + 1 ≤ xc ∧ wx.cell? ⟨xg, xoff + q, none⟩ = some (.int .i64 (aft T j q : Int)) from fun wx h => by
            obtain ⟨⟨ro, rc, b1, b2, b3⟩, xg, xoff, xc, x1, x2, x3⟩ := HCC.out wx h j hjN
            rw [← hn] at b1 b2
            rw [← htl] at x1 x2 x3
            refine ⟨⟨ro, rc, b1, b2, fun h2 => ?_⟩, xg, xoff, xc, x1, x2, x3 q hqT⟩
            obtain ⟨x, hx, hxq⟩ := HXT.out h2
            obtain ⟨g, off, h3, h4⟩ := b3 (a + 1) x hx
            exact ⟨g, off, h3, by rw [h4, hxq]⟩)
          have HAJ := Lib.hid hAj; have HA2L := Lib.hid HX.out.2.2.2.1
          clear hq hcol ha hn htl hrest hAj x3 b3 hnx hna x1 x2 xg xoff xc
          go_upto_region 17 with fail
          go_quiet (fail)
          obtain ⟨wv, hwv⟩ : ∃ z, z = wr.drewN nq := ⟨_, rfl⟩
          rw [← hwv]
          have HC2v := Lib.hid (show Chg [ga] wE wv by rw [hwv]; exact HC2.out.drewN _)
          have HB2v := Lib.hid (show BlkI wv ga A2 by rw [hwv]; exact HB2.out.chg ((Chg.refl [] wr).drewN _) (by simp))
          clear hwv y1 yf b1
          have y1 : wv.cell? ⟨ga, j, none⟩ = some (.int .i64 (a : Int)) := HB2v.out.cell HAJ.out
          have yf := HB2v.out.frozen j
          go_upto_region 21 with fail
          obtain ⟨w3, hw3⟩ : ∃ z, z = wv.setCell ⟨ga, j, none⟩ (.int .i64 ((a : Int) + 1)) := ⟨_, rfl⟩
          rw [← hw3]
          have HB3 := Lib.hid (show BlkI w3 ga (A2.set j ((a : Int) + 1)) by rw [hw3]; exact HB2v.out.set j _)
          have HC3 := Lib.hid (show Chg [ga] wE w3 by rw [hw3]; exact HC2v.out.setCell (.inl (by simp)) _)
          have HZ := Lib.hid (show (A2.set j ((a : Int) + 1))[j]? = some ((a : Int) + 1) from by rw [List.getElem?_set_self (by rw [HA2L.out]; exact hjN)])
          clear hw3 y1 yf
          have z1 := HB3.out.cell HZ.out
          obtain ⟨⟨ro1, rc1, b1, b2', -⟩, -⟩ := HFUN.out w3 HC3.out
          rcases hR0 with h1 | ⟨h1, hq0⟩
          · have d2 : decide ((a : Int) + 1 < (n : Int)) = true := by simp; omega
            have h1' : (a : Int) + 1 < (n : Int) := by omega
            go_quiet (fail)
            obtain ⟨w4, hw4⟩ : ∃ z, z = w3.drewN nq := ⟨_, rfl⟩
            rw [← hw4]
            have HC4 := Lib.hid (show Chg [ga] wE w4 by rw [hw4]; exact HC3.out.drewN _)
            have HB4 := Lib.hid (show BlkI w4 ga (A2.set j ((a : Int) + 1)) by rw [hw4]; exact HB3.out.chg ((Chg.refl [] w3).drewN _) (by simp))
            clear hw4 z1 b1 b2'
            have z1 := HB4.out.cell HZ.out
            obtain ⟨⟨ro2, rc2, b1, b2', b3⟩, -⟩ := HFUN.out w4 HC4.out
            obtain ⟨g, off, rfl, b4⟩ := b3 h1
            clear b3
            go_upto_region 22 with fail
            go_quiet (fail)
            obtain ⟨w5, hw5⟩ : ∃ z, z = w4.drewN nq := ⟨_, rfl⟩
            rw [← hw5]
            have HC5 := Lib.hid (show Chg [ga] wE w5 by rw [hw5]; exact HC4.out.drewN _)
            have HB5 := Lib.hid (show BlkI w5 ga (A2.set j ((a : Int) + 1)) by rw [hw5]; exact HB4.out.chg ((Chg.refl [] w4).drewN _) (by simp))
            clear hw5 z1 b1 b2' b4
            obtain ⟨-, xg, xoff, xc, x1, x2, x3⟩ := HFUN.out w5 HC5.out
            have e7 : ¬ ((tl : Int) + 1 ≤ (q : Int)) := by omega
            go_wp2
            go_roundw
            case rel => exact ⟨aft T j q, s + 1, A2.set j ((a : Int) + 1), Pre ++ [(j, c)], Rest2, rfl, by go_num, HC5.out, HB5.out, HN2.out⟩
            case measure => simp [intOf]; omega
          · have d2 : decide ((a : Int) + 1 < (n : Int)) = false := by simp; omega
            have h1' : ¬ (a : Int) + 1 < (n : Int) := by omega
            subst hq0
            go_quiet (fail)
            obtain ⟨w5, hw5⟩ : ∃ z, z = w3.drewN nq := ⟨_, rfl⟩
            rw [← hw5]
            have HC5 := Lib.hid (show Chg [ga] wE w5 by rw [hw5]; exact HC3.out.drewN _)
            have HB5 := Lib.hid (show BlkI w5 ga (A2.set j ((a : Int) + 1)) by rw [hw5]; exact HB3.out.chg ((Chg.refl [] w3).drewN _) (by simp))
            clear hw5 z1 b1 b2'
            obtain ⟨-, xg, xoff, xc, x1, x2, x3⟩ := HFUN.out w5 HC5.out
            have e7 : ¬ ((tl : Int) + 1 ≤ 0) := by omega
            rw [Nat.add_zero] at x3
            go_wp2
            go_roundw
            case rel => exact ⟨aft T j 0, s + 1, A2.set j ((a : Int) + 1), Pre ++ [(j, c)], Rest2, rfl, by go_num, HC5.out, HB5.out, HN2.out⟩
            case measure => simp [intOf]; omega
        · have d1 : decide ((j : Int) < (N : Int)) = false := by simp; omega
          have hRest : Rest = [] := by
            have h3 := HX.out.2.2.1
            cases Rest with
            | nil => rfl
            | cons x R =>
              obtain ⟨h4, -⟩ := h3
              have := HZ3.out x (by rw [HX.out.1]; simp)
              omega
          have HA3 := Lib.hid (show Hid (A2.length = N ∧ ∀ q, q < N → A2[q]? = some ((colA (mk ns) (TS.take (i + 1)) q).length : Int)) from Lib.hid ⟨HX.out.2.2.2.1, fun q hq => by
            rw [HX.out.2.2.2.2 q hq, colA_take HTI.out, List.length_append, ← HZ4.out q, HX.out.1, hRest, List.append_nil]⟩)
          clear hRest
          go_wp2
          go_roundw
          case rel => exact ⟨i + 1, A2, by go_num, by omega, HC2.out, HB2.out, HA3.out⟩
          case measure => simp [intOf]; omega
    · have d0 : decide ((i : Int) < (m : Int)) = false := by simp; omega
      have ET := Lib.hid (show TS.take i = TS from List.take_of_length_le (by rw [← HM.out]; omega))
      go_wp2
      go_loopw [15] (fun x wx => ∃ k : Nat, x = .int .i64 (k : Int) ∧ k ≤ N ∧ Chg [ga] wE wx ∧ BlkI wx ga A) (fun x _ => N - (intOf x).toNat)
      case atStart => exact ⟨0, rfl, Nat.zero_le _, HC.out, HB.out⟩
      case round =>
        obtain ⟨k, rfl, hkN, hc, hb⟩ := hrel
        have HC2 := Lib.hid hc; have HB2 := Lib.hid hb
        clear hc hb
        have hkw : IntKind.i64.wrap ((k : Int) + 1) = (k : Int) + 1 := IntWalk.i64_in _ (by omega)
        by_cases hlt3 : k < N
        · have d3 : decide ((k : Int) < (N : Int)) = true := by simp; omega
          obtain ⟨n, hn⟩ : ∃ n, n = (colA (mk ns) TS k).length := ⟨_, rfl⟩
          obtain ⟨⟨ro, rc, b1, b2, -⟩, -⟩ := HCC.out wr HC2.out k hlt3
          have hAk : A[k]? = some (n : Int) := by rw [HA.out.2 k hlt3, ET.out, hn]
          rw [← hn] at b1 b2
          have y1 := HB2.out.cell hAk
          have e1 : ((n : Int) != (n : Int)) = false := by simp
          clear hn hAk
          go_upto_region 29 with fail
          go_quiet (fail)
          obtain ⟨w5, hw5⟩ : ∃ z, z = wr.drewN nq := ⟨_, rfl⟩
          rw [← hw5]
          have HC5 := Lib.hid (show Chg [ga] wE w5 by rw [hw5]; exact HC2.out.drewN _)
          have HB5 := Lib.hid (show BlkI w5 ga A by rw [hw5]; exact HB2.out.chg ((Chg.refl [] wr).drewN _) (by simp))
          clear hw5 b1 y1
          go_wp2
          go_roundw
          case rel => exact ⟨k + 1, by go_num, by omega, HC5.out, HB5.out⟩
          case measure => simp [intOf]; omega
        · have d3 : decide ((k : Int) < (N : Int)) = false := by simp; omega
          go_wp2
          go_ret
          exact ⟨rfl, (HK5.out.trans HC2.out (fun g hg => .inr (by simp at hg; subst hg; rw [HGA.out]; exact HK5.out.size))).below (Nat.le_refl _) (by simp)⟩

end Go.Proofs.Ytfdmbpfpdijpdaa
