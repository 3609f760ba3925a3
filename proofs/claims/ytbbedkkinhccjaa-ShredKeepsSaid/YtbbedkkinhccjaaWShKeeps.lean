/- ShredKeeps. -/
import Derived.Test.YtbbedkkinhccjaaSht
namespace Go.Proofs.Ytbbedkkinhccjaa
open Go.RowKit
set_option linter.unusedVariables false
set_option linter.unusedSimpArgs false

set_option maxRecDepth 100000 in
set_option maxHeartbeats 8000000 in
theorem walk_ShredKeeps (a0 : Option Addr) (len0 cap0 : Nat) (z0 : List Int) (a1 : Option Addr) (len1 cap1 : Nat) (z1 : List Int) (w : World) (w0 : IsRow .i64 w a0 len0 cap0 z0) (w1 : IsRow .i64 w a1 len1 cap1 z1) :
    Calls Try.prog 6 #[.slice a0 len0 cap0, .slice a1 len1 cap1] w fun e w' => e = .returned (.bool true) ∧ Below w.heap.size w w' := by
  obtain ⟨ns, hS, hlen, hwf⟩ := w0.seenI
  obtain ⟨rec', hS1, hlen1, hwf1⟩ := w1.seenI
  have HS := Lib.hid hS; have HWF := Lib.hid hwf; have HS1 := Lib.hid hS1; have HWF1 := Lib.hid hwf1
  clear w0 w1 hS hwf hlen hS1 hwf1 hlen1
  have hmk := mk_ok ns
  obtain ⟨l, hl⟩ : ∃ l, l = mk ns := ⟨_, rfl⟩
  have HL := Lib.hid hl
  have hln := hmk.le
  have hlp := hmk.pos
  rw [← hl] at hmk hln hlp
  have HFC := Lib.hid (show ∀ f ∈ l, f.c ≤ 9223372036854775807 from fun f hf => by have := hmk.c f hf; omega)
  obtain ⟨tr, htr⟩ : ∃ tr, tr = mk8 l rec' := ⟨_, rfl⟩
  have HTR := Lib.hid htr
  have HM8 := Lib.hid (show ∀ sv wx, SeenF wx sv l → Chg [] w wx → Calls Try.prog 19 #[sv, .slice a1 len1 cap1] wx fun e w' => ∃ kv, e = .returned (tv tr.n tr.s kv) ∧ KidsIn (wx.heap.size ≤ ·) w' l.length tr.k kv ∧ Chg [] wx w' from fun sv wx hs hk => by
    rw [htr]
    exact make8_any sv _ l rec' wx hs (HS1.out.keep hk) hlp (by omega) HFC.out HWF1.out)
  obtain ⟨TS, hTS⟩ : ∃ TS, TS = [tr] := ⟨_, rfl⟩
  have HCM := Lib.hid (show ∀ sv lv wx, SeenF wx sv l → ListAt wx l.length TS lv → _ from fun sv lv wx hs hL => columns_made sv lv ns TS l.length wx (by rw [← hl]; exact hs) hL (by rw [hTS]; intro t ht; simp at ht; subst ht; exact ⟨rec', by rw [htr, hl]⟩) (by rw [hTS]; simp))
  have hcells : ∀ W ∈ lways (mk ns), (colC W TS).length ≤ 4000 := fun W hW => ((made_cols ns TS (by rw [hTS]; intro t ht; simp at ht; subst ht; exact ⟨rec', by rw [htr, hl]⟩) (by rw [hTS]; simp)).2 W hW).2.2
  obtain ⟨N, hN⟩ : ∃ N, N = (leavesL (mk ns)).length := ⟨_, rfl⟩
  have hN40 : N ≤ 40 := by have h := leavesTo_le (mk ns) (mk ns).length; rw [hN]; unfold leavesL; rw [hl] at hln; omega
  have HNN := Lib.hid hN
  have HLW := Lib.hid (show (lways (mk ns)).length = N by rw [lways_len, ← hN])
  rw [← hN] at HCM
  have HTS := Lib.hid hTS; have HCL := Lib.hid hcells
  have q1 : ((N : Int) != (N : Int)) = false := by simp
  obtain ⟨tn, htn⟩ : ∃ x, x = tr.n := ⟨_, rfl⟩
  obtain ⟨ts, hts⟩ : ∃ x, x = tr.s := ⟨_, rfl⟩
  obtain ⟨tk, htk⟩ : ∃ x, x = tr.k := ⟨_, rfl⟩
  have HTP := Lib.hid (show tr = .mk tn ts tk by rw [htn, hts, htk]; cases tr; rfl)
  rw [← htn, ← hts, ← htk] at HM8
  clear hmk hl htr hTS hN hcells htn hts htk
  go_enter Try.func6, Try.ntmps6
  go_wp2_with fail
  refine (known14_any _).mono ?_
  rintro e wA ⟨rfl, hk⟩
  have HK1 := Lib.hid hk
  clear hk
  go_wp2_with fail
  refine (make_any _ ns _ (HS.out.keep HK1.out) HWF.out).mono ?_
  rintro e wB ⟨sv, rfl, hown, hk⟩
  rw [← HL.out] at hown
  have hSv := SeenF.own hown rfl
  obtain ⟨sa, sc, rfl⟩ := own_shape hown
  have HSF := Lib.hid hSv
  have HK2 := Lib.hid (HK1.out.trans hk (by simp))
  clear hown hSv hk
  go_wp2_with fail
  refine (HM8.out _ wB HSF.out HK2.out).mono ?_
  rintro e wC ⟨kv, rfl, hki, hk⟩
  have hka := hki.at
  obtain ⟨ko, kc, hkv, -, -⟩ := hka.shape
  obtain ⟨tl, htl⟩ : ∃ tl, tl = tk.length := ⟨_, rfl⟩
  rw [← htl] at hkv
  subst hkv
  clear htl
  have HKA := Lib.hid hka
  have HK3 := Lib.hid (HK2.out.trans hk (by simp)); have HSF3 := Lib.hid (HSF.out.keep hk)
  clear hki hk hka
  obtain ⟨cs, hcs⟩ : ∃ cs : Array Value, cs = #[.int .i64 tn, .string ts, (.slice ko tl kc)] := ⟨_, rfl⟩
  obtain ⟨bt, hbt⟩ : ∃ bt, bt = wC.heap.size := ⟨_, rfl⟩
  obtain ⟨w4, hw4⟩ : ∃ z, z = wC.alloc (.cells #[.int .i64 tn, .string ts, (.slice ko tl kc)] 51) := ⟨_, rfl⟩
  have hbk : w4.heap[bt]? = some (.cells #[.int .i64 tn, .string ts, (.slice ko tl kc)] 51 (0, 0)) := by rw [hw4, hbt]; exact heap_alloc_new wC _
  have HBK := Lib.hid hbk
  have HC4 := Lib.hid (show Chg [] wC w4 by rw [hw4]; exact (Chg.refl [] _).alloc _)
  have HCO := Lib.hid (show ∀ wx, Chg [] wC wx → Calls Try.prog 13 #[.slice sa l.length sc, .slice (some ⟨wx.heap.size, 0, none⟩) 1 1] (wx.alloc (.cells #[.int .i64 tn, .string ts, (.slice ko tl kc)] 51)) fun e w' => ∃ gc R, e = .returned (.tuple #[.slice (some ⟨gc, 0, none⟩) N N, .int .i64 0]) ∧ Chg [] wx w' ∧ CJ (leavesL (mk ns)) (lways (mk ns)) TS (wx.alloc (.cells #[.int .i64 tn, .string ts, (.slice ko tl kc)] 51)) w' gc N N R from fun wx hc => by
    have hca := (Chg.refl [] wx).alloc (.cells #[.int .i64 tn, .string ts, (.slice ko tl kc)] 51)
    have hL : ListAt (wx.alloc (.cells #[.int .i64 tn, .string ts, (.slice ko tl kc)] 51)) l.length TS (.slice (some ⟨wx.heap.size, 0, none⟩) 1 1) := by
      rw [HTS.out, HTP.out]
      exact listAt_lit (E := [(.mk tn ts tk, (.slice ko tl kc))]) (C := #[.int .i64 tn, .string ts, (.slice ko tl kc)]) (heap_alloc_new wx _) rfl rfl (by decide) (by intro p hp; simp at hp; subst hp; exact HKA.out.keep (hc.trans hca (by simp)))
    refine (HCM.out _ _ _ (HSF3.out.keep (hc.trans hca (by simp))) hL).mono ?_
    rintro e w' ⟨gc, R, rfl, hk, hJ⟩
    exact ⟨gc, R, rfl, hca.trans hk (by simp), hJ⟩)
  clear hcs
  go_upto_region 5 with fail
  rw [← hw4]
  clear hw4
  have b0 : w4.cell? ⟨bt, 0, none⟩ = some (.int .i64 tn) := by rw [cell_of_row w4 bt 0 _ _ _ hbk]; rfl
  have b1 : w4.cell? ⟨bt, 1, none⟩ = some (.string ts) := by rw [cell_of_row w4 bt 1 _ _ _ hbk]; rfl
  have b2 : w4.cell? ⟨bt, 2, none⟩ = some (.slice ko tl kc) := by rw [cell_of_row w4 bt 2 _ _ _ hbk]; rfl
  clear hbk
  rw [← hbt]
  clear hbt
  go_wp2_with fail
  refine (HCO.out w4 HC4.out).mono ?_
  rintro e wD ⟨ga, RA, rfl, hk, hJ⟩
  have HK4 := Lib.hid (HC4.out.trans hk (by simp))
  have HBK2 := Lib.hid (hk.heap HBK.out (by simp))
  have HJA := Lib.hid hJ
  have hgaw : w4.heap.size < ga + 1 ∧ ga < wD.heap.size := by have h := hJ.gl; have : w4.heap.size ≤ (w4.alloc (.cells #[.int .i64 tn, .string ts, (.slice ko tl kc)] 51)).heap.size := by simp
                                                              omega
  clear hk hJ b0 b1 b2
  have b0 : wD.cell? ⟨bt, 0, none⟩ = some (.int .i64 tn) := by rw [cell_of_row wD bt 0 _ _ _ HBK2.out]; rfl
  have b1 : wD.cell? ⟨bt, 1, none⟩ = some (.string ts) := by rw [cell_of_row wD bt 1 _ _ _ HBK2.out]; rfl
  have b2 : wD.cell? ⟨bt, 2, none⟩ = some (.slice ko tl kc) := by rw [cell_of_row wD bt 2 _ _ _ HBK2.out]; rfl
  go_wp2_with fail
  refine (HCO.out wD HK4.out).mono ?_
  rintro e wF ⟨gb, RB, rfl, hk, hJ⟩
  have HDF := Lib.hid hk
  have HK6 := Lib.hid (HK4.out.trans hk (by simp))
  have HJB := Lib.hid hJ
  clear hk hJ b0 b1 b2
  -- what a's rows are, and what may change
  obtain ⟨S, hS⟩ : ∃ S : List Nat, S = (List.range wD.heap.size).filter (fun k => decide (ga < k)) := ⟨_, rfl⟩
  have HSM := Lib.hid (show ∀ k, k ∈ S ↔ ga < k ∧ k < wD.heap.size from fun k => by rw [hS]; simp; omega)
  obtain ⟨nn, hnn⟩ : ∃ nn : Nat → Nat, nn = fun k => (colC ((lways (mk ns)).getD k []) TS).length := ⟨_, rfl⟩
  obtain ⟨kk, hkk⟩ : ∃ kk : Nat → Nat, kk = fun k => (colV ((leavesL (mk ns)).getD k default).d (colC ((lways (mk ns)).getD k []) TS)).length := ⟨_, rfl⟩
  obtain ⟨rvs, hrvs⟩ : ∃ f : Nat → Value, f = fun k => (RA.getD k C3.nil).rv := ⟨_, rfl⟩
  obtain ⟨dvs, hdvs⟩ : ∃ f : Nat → Value, f = fun k => (RA.getD k C3.nil).dv := ⟨_, rfl⟩
  obtain ⟨vvs, hvvs⟩ : ∃ f : Nat → Value, f = fun k => (RA.getD k C3.nil).vv := ⟨_, rfl⟩
  have HN4 := Lib.hid (show ∀ k, k < N → nn k ≤ 4000 ∧ kk k ≤ 4000 from fun k hk => by
    have h := HCL.out ((lways (mk ns)).getD k []) (by rw [List.getD, List.getElem?_eq_getElem (by rw [HLW.out]; exact hk)]; exact List.getElem_mem _)
    rw [hnn, hkk]
    refine ⟨h, Nat.le_trans ?_ h⟩
    simp only
    unfold colV
    rw [List.length_map]
    exact List.length_filter_le _ _)
  have HAC := Lib.hid (show ∀ k, k < N → (wD.cell? ⟨ga, k * 3, none⟩ = some (rvs k) ∧ wD.cell? ⟨ga, k * 3 + 1, none⟩ = some (dvs k) ∧ wD.cell? ⟨ga, k * 3 + 2, none⟩ = some (vvs k)) ∧ (RowW wD ga wD.heap.size 3 1 (rvs k) (nn k) ∧ RowW wD ga wD.heap.size 3 1 (dvs k) (nn k) ∧ RowW wD ga wD.heap.size 42 2 (vvs k) (kk k)) ∧ ∀ g, (rvs k).ownBlock = some g → (dvs k).ownBlock ≠ some g from fun k hk => by
    have e1 : (leavesL (mk ns))[k]? = some ((leavesL (mk ns)).getD k default) := by rw [List.getD, List.getElem?_eq_getElem (by rw [← HNN.out]; exact hk)]; rfl
    have e2 : (lways (mk ns))[k]? = some ((lways (mk ns)).getD k []) := by rw [List.getD, List.getElem?_eq_getElem (by rw [HLW.out]; exact hk)]; rfl
    obtain ⟨e, he, ⟨ht, hs, hg⟩, hlo, c0, c1, c2⟩ := HJA.out.get hk e1 e2
    have er : rvs k = e.rv ∧ dvs k = e.dv ∧ vvs k = e.vv := by rw [hrvs, hdvs, hvvs]; simp only [List.getD, he]; exact ⟨rfl, rfl, rfl⟩
    rw [er.1, er.2.1, er.2.2, hnn, hkk]
    refine ⟨⟨c0, c1, c2⟩, ⟨?_, ?_, ?_⟩, ht.rd⟩
    · exact RowW.own ht.r hlo (fun g h => Nat.lt_of_lt_of_le (hg g (.inl h)) hs)
    · exact RowW.own ht.d hlo (fun g h => Nat.lt_of_lt_of_le (hg g (.inr (.inl h))) hs)
    · exact RowW.own ht.v hlo (fun g h => Nat.lt_of_lt_of_le (hg g (.inr (.inr h))) hs))
  have hDFs := HDF.out.size
  have HAF := Lib.hid (show ∀ k, k < N → RowW wF ga wD.heap.size 3 1 (rvs k) (nn k) ∧ RowW wF ga wD.heap.size 3 1 (dvs k) (nn k) ∧ RowW wF ga wD.heap.size 42 2 (vvs k) (kk k) from fun k hk => by
    obtain ⟨-, ⟨h1, h2, h3⟩, -⟩ := HAC.out k hk
    exact ⟨h1.chg HDF.out (by simp), h2.chg HDF.out (by simp), h3.chg HDF.out (by simp)⟩)
  have HGA := Lib.hid (show ∀ k wx, k < N → Chg S wF wx → wx.cell? ⟨ga, k * 3, none⟩ = some (rvs k) ∧ wx.cell? ⟨ga, k * 3 + 1, none⟩ = some (dvs k) ∧ wx.cell? ⟨ga, k * 3 + 2, none⟩ = some (vvs k) from fun k wx hk hc => by
    obtain ⟨⟨c0, c1, c2⟩, -, -⟩ := HAC.out k hk
    have hn : ga ∉ S := fun hm => by have := (HSM.out ga).1 hm; omega
    exact ⟨hc.cell (HDF.out.cell c0 (by simp)) hn, hc.cell (HDF.out.cell c1 (by simp)) hn, hc.cell (HDF.out.cell c2 (by simp)) hn⟩)
  clear hS hnn hkk hrvs hdvs hvvs
  go_wp2
  go_loopw [11] (fun x w' => ∃ k : Nat, x = .int .i64 (k : Int) ∧ k ≤ N ∧ Chg S wF w' ∧ ∀ k, k < N → RowW w' ga wD.heap.size 3 1 (rvs k) (nn k) ∧ RowW w' ga wD.heap.size 3 1 (dvs k) (nn k) ∧ RowW w' ga wD.heap.size 42 2 (vvs k) (kk k)) (fun x _ => N - (intOf x).toNat)
  case atStart => exact ⟨0, rfl, Nat.zero_le _, Chg.refl _ _, HAF.out⟩
  case round =>
    obtain ⟨k, rfl, hkN, hc, hrows⟩ := hrel
    obtain ⟨wq, rfl⟩ : ∃ wq, wq = wr := ⟨_, rfl⟩
    have HC := Lib.hid hc; have HRW := Lib.hid hrows
    clear hc hrows
    by_cases hlt : k < N
    · have d0 : decide ((k : Int) < (N : Int)) = true := by simp; omega
      obtain ⟨hn4, hk4⟩ := HN4.out k hlt
      go_wp2
      go_loopw [12] (fun x w' => ∃ i : Nat, x = .int .i64 (i : Int) ∧ i ≤ nn k ∧ Chg S wF w' ∧ ∀ k, k < N → RowW w' ga wD.heap.size 3 1 (rvs k) (nn k) ∧ RowW w' ga wD.heap.size 3 1 (dvs k) (nn k) ∧ RowW w' ga wD.heap.size 42 2 (vvs k) (kk k)) (fun x _ => nn k - (intOf x).toNat)
      case atStart => exact ⟨0, rfl, Nat.zero_le _, HC.out, HRW.out⟩
      case round =>
        obtain ⟨i, rfl, hin, hc, hrows⟩ := hrel
        have HC2 := Lib.hid hc; have HRW2 := Lib.hid hrows
        obtain ⟨c0, c1, c2⟩ := HGA.out k wr hlt hc
        have hdist := (HAC.out k hlt).2.2
        obtain ⟨hr1, hr2, -⟩ := hrows k hlt
        clear hc hrows
        obtain ⟨m, hm⟩ : ∃ m, m = nn k := ⟨_, rfl⟩
        rw [← hm] at hr1 hr2 hn4 hin
        have HM := Lib.hid hm
        clear hm
        by_cases hil : i < m
        · have d1 : decide ((i : Int) < (m : Int)) = true := by simp; omega
          obtain ⟨g1, e1c, er1, l1, l2, hx1, hf1⟩ := hr1.at hil (by decide)
          obtain ⟨g2, e2c, er2, l3, l4, hx2, hf2⟩ := hr2.at hil (by decide)
          obtain ⟨u1, hu1⟩ := hx1 0 (by decide)
          obtain ⟨u2, hu2⟩ := hx2 0 (by decide)
          rw [Nat.mul_one, Nat.add_zero] at hu1 hu2
          rw [er1] at c0 hdist
          rw [er2] at c1 hdist
          have hne : g1 ≠ g2 := fun e => hdist g1 rfl (by rw [e]; rfl)
          have hne2 : g2 ≠ g1 := fun e => hne e.symm
          have hna1 : ga ≠ g1 := by omega
          have hna2 : ga ≠ g2 := by omega
          have ff1 := hf1 i
          have ff2 := hf2 i
          have HG1 := Lib.hid ((HSM.out g1).2 ⟨l1, l2⟩); have HG2 := Lib.hid ((HSM.out g2).2 ⟨l3, l4⟩)
          clear hr1 hr2 er1 er2 hx1 hx2 hf1 hf2 hdist c2
          go_wp2_with fail
          go_region
          go_wp2
          go_roundw
          case rel => exact ⟨i + 1, by go_num, by have := HM.out; omega, ((HC2.out.setCell (p := ⟨g1, i, none⟩) (.inl HG1.out) _).setCell (p := ⟨g2, i, none⟩) (.inl HG2.out) _).drew, fun k hk => by obtain ⟨r1, r2, r3⟩ := HRW2.out k hk; exact ⟨((r1.set _ _ _).set _ _ _).chg (Chg.refl [] _).drew (by simp), ((r2.set _ _ _).set _ _ _).chg (Chg.refl [] _).drew (by simp), ((r3.set _ _ _).set _ _ _).chg (Chg.refl [] _).drew (by simp)⟩⟩
          case measure => simp [intOf]; have := HM.out; omega
        · have d1 : decide ((i : Int) < (m : Int)) = false := by simp; omega
          obtain ⟨ro1, rc1, er1⟩ := hr1.shape
          rw [er1] at c0
          clear hr1 hr2 er1 hdist c1 c2
          go_wp2
          clear c0
          go_loopw [13] (fun x w' => ∃ i : Nat, x = .int .i64 (i : Int) ∧ i ≤ kk k ∧ Chg S wF w' ∧ ∀ k, k < N → RowW w' ga wD.heap.size 3 1 (rvs k) (nn k) ∧ RowW w' ga wD.heap.size 3 1 (dvs k) (nn k) ∧ RowW w' ga wD.heap.size 42 2 (vvs k) (kk k)) (fun x _ => kk k - (intOf x).toNat)
          case atStart => exact ⟨0, rfl, Nat.zero_le _, HC2.out, HRW2.out⟩
          case round =>
            obtain ⟨i, rfl, hin, hc, hrows⟩ := hrel
            have HC3 := Lib.hid hc; have HRW3 := Lib.hid hrows
            obtain ⟨-, -, c2⟩ := HGA.out k wr hlt hc
            obtain ⟨-, -, hr3⟩ := hrows k hlt
            clear hc hrows
            obtain ⟨p, hp⟩ : ∃ p, p = kk k := ⟨_, rfl⟩
            rw [← hp] at hr3 hk4 hin
            have HP := Lib.hid hp
            clear hp
            by_cases hil : i < p
            · have d1 : decide ((i : Int) < (p : Int)) = true := by simp; omega
              obtain ⟨g1, e1c, er1, l1, l2, hx1, hf1⟩ := hr3.at hil (by decide)
              obtain ⟨u1, hu1⟩ := hx1 0 (by decide)
              obtain ⟨u2, hu2⟩ := hx1 1 (by decide)
              rw [Nat.add_zero] at hu1
              rw [er1] at c2
              have hna1 : ga ≠ g1 := by omega
              have ff1 := hf1 (i * 2)
              have ff2 := hf1 (i * 2 + 1)
              have HG1 := Lib.hid ((HSM.out g1).2 ⟨l1, l2⟩)
              clear hr3 er1 hx1 hf1
              go_wp2
              go_roundw
              case rel => exact ⟨i + 1, by go_num, by have := HP.out; omega, ((HC3.out.setCell (p := ⟨g1, i * 2, none⟩) (.inl HG1.out) _).setCell (p := ⟨g1, i * 2 + 1, none⟩) (.inl HG1.out) _), fun k hk => by obtain ⟨r1, r2, r3⟩ := HRW3.out k hk; exact ⟨((r1.set _ _ _).set _ _ _), ((r2.set _ _ _).set _ _ _), ((r3.set _ _ _).set _ _ _)⟩⟩
              case measure => simp [intOf]; have := HP.out; omega
            · have d1 : decide ((i : Int) < (p : Int)) = false := by simp; omega
              obtain ⟨ro1, rc1, er1⟩ := hr3.shape
              rw [er1] at c2
              clear hr3 er1
              go_wp2
              go_roundw
              case rel => exact ⟨k + 1, by go_num, by omega, HC3.out, HRW3.out⟩
              case measure => simp [intOf]; omega
    · have d0 : decide ((k : Int) < (N : Int)) = false := by simp; omega
      have HCQ := Lib.hid (show Chg [] wC wq from HK6.out.trans HC.out (fun t ht => .inr (by have h := ((HSM.out t).1 ht).1; have := HC4.out.size; omega)))
      have hsb : bt ∉ S := fun hm => by have h1 := (HSM.out bt).1 hm; have h2 := Go.lt_of_block HBK.out; omega
      have hbq := HC.out.heap (HDF.out.heap HBK2.out (by simp)) hsb
      have b0 : wq.cell? ⟨bt, 0, none⟩ = some (.int .i64 tn) := by rw [cell_of_row wq bt 0 _ _ _ hbq]; rfl
      have b1 : wq.cell? ⟨bt, 1, none⟩ = some (.string ts) := by rw [cell_of_row wq bt 1 _ _ _ hbq]; rfl
      have b2 : wq.cell? ⟨bt, 2, none⟩ = some (.slice ko tl kc) := by rw [cell_of_row wq bt 2 _ _ _ hbq]; rfl
      have HSB := Lib.hid (HJB.out.seenS (by omega) HNN.out.symm HLW.out HC.out (fun k hk => by have h := ((HSM.out k).1 hk).2; simp; omega))
      clear hbq
      go_wp2_with fail
      refine (HCO.out wq HCQ.out).mono ?_
      rintro e wG ⟨gc, RC, rfl, hk, hJ⟩
      have HKG := Lib.hid (HCQ.out.trans hk (by simp))
      have HSC := Lib.hid (hJ.seen (by omega) HNN.out.symm HLW.out)
      have HSB2 := Lib.hid (HSB.out.keep hk)
      clear hk hJ b0 b1 b2
      go_wp2_with fail
      refine (lcolumns_any gb gc N _ _ _ wG HSB2.out HSC.out).mono ?_
      rintro e wH ⟨rfl, hk⟩
      have HKH := Lib.hid (HKG.out.trans hk (by simp))
      clear hk
      go_wp2
      go_ret
      exact ⟨rfl, (HK3.out.trans HKH.out (by simp)).below (Nat.le_refl _) (by simp)⟩

end Go.Proofs.Ytbbedkkinhccjaa
