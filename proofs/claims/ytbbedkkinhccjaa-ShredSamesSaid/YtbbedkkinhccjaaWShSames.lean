/- ShredSames. -/
import Derived.Test.YtbbedkkinhccjaaSho
import Derived.Test.YtbbedkkinhccjaaShq
import Derived.Test.YtbbedkkinhccjaaShr
namespace Go.Proofs.Ytbbedkkinhccjaa
open Go.RowKit
set_option linter.unusedVariables false
set_option linter.unusedSimpArgs false

/-- l[:hi], as a run equation, of integers. -/
theorem run_front14 {w : World} {ao : Option Addr} {len cap : Nat} {l : List Int} (h : SeenI w (.slice ao len cap) l) (hc : len ≤ cap) (hi : Nat) (h2 : hi ≤ len) :
    ∃ ao' cap', SeenI w (.slice ao' hi cap') (l.take hi) ∧ ∀ wx, (Instr.slice 22 (.slice ao len cap) none (some (.int .i64 (hi : Int))) none).run Try.prog wx = .ok (.slice ao' hi cap') wx := by
  have hs := h.sliced 0 hi (Nat.zero_le _) h2
  rw [List.drop_zero] at hs
  refine ⟨_, _, hs, fun wx => ?_⟩
  obtain ⟨i0, hi0, _, hz1, _⟩ := info_int
  rw [run_slice_h wx 22 ao len cap (by rw [show Try.prog.elem 22 = 3 by kernel_rfl]; exact Try.underlying22) .i64 hi (by omega) (by omega), show Try.prog.elem 22 = 3 by kernel_rfl]
  simp [sizeOf, typeInfo, hi0, hz1]
  rfl

theorem set_ne {l : List Int} {i : Nat} {x : Int} (h : l[i]? = some x) : l ≠ l.set i (x + 1) := by
  intro e
  have h2 : (l.set i (x + 1))[i]? = some (x + 1) := List.getElem?_set_self (List.getElem?_eq_some_iff.1 h).1
  rw [← e, h] at h2
  injection h2 with h2
  omega

set_option maxRecDepth 100000 in
set_option maxHeartbeats 8000000 in
theorem walk_ShredSames (a0 : Option Addr) (len0 cap0 : Nat) (z0 : List Int) (a1 : Option Addr) (len1 cap1 : Nat) (rs : List (List Int)) (a2 a3 : Int) (w : World) (w0 : IsRow .i64 w a0 len0 cap0 z0) (w1 : RowsI w (.slice a1 len1 cap1) rs) (w2 : (Lit.int .i64 a2).wf = true) (w3 : (Lit.int .i64 a3).wf = true) :
    Calls Try.prog 4 #[.slice a0 len0 cap0, .slice a1 len1 cap1, .int .i64 a2, .int .i64 a3] w fun e w' => e = .returned (.bool true) ∧ Below w.heap.size w w' := by
  obtain ⟨i0, hi, hz0, hz1, hz2⟩ := info_value
  obtain ⟨ns, hS, hlen, hwf⟩ := w0.seenI
  have HS := Lib.hid hS; have HWF := Lib.hid hwf; have HR := Lib.hid w1; have HW2 := Lib.hid w2; have HW3 := Lib.hid w3
  clear w0 w2 w3 hS hwf hlen
  have hmk := mk_ok ns
  obtain ⟨l, hl⟩ : ∃ l, l = mk ns := ⟨_, rfl⟩
  have HL := Lib.hid hl
  obtain ⟨TS, hTS⟩ : ∃ TS, TS = (rs.take 16).map (mk8 l) := ⟨_, rfl⟩
  have hTl : TS.length ≤ 16 := by rw [hTS, List.length_map, List.length_take]; omega
  have HLM := Lib.hid (show ∀ t ∈ TS, ∃ r, t = mk8 (mk ns) r from fun t ht => by rw [hTS, hl] at ht; obtain ⟨r, -, rfl⟩ := List.mem_map.1 ht; exact ⟨r, rfl⟩)
  have hln := hmk.le
  have hlp := hmk.pos
  rw [← hl] at hmk hln hlp
  have HFC := Lib.hid (show ∀ f ∈ l, f.c ≤ 9223372036854775807 from fun f hf => by have := hmk.c f hf; omega)
  have HMK := Lib.hid (show ∀ wx sv, SeenF wx sv l → Chg [] w wx → Calls Try.prog 12 #[sv, .slice a1 len1 cap1] wx fun e w' => ∃ lv, e = .returned lv ∧ ListIn (wx.heap.size ≤ ·) w' l.length TS lv ∧ Chg [] wx w' from fun wx sv hs hk => by
    rw [hTS]
    exact many_any sv (.slice a1 len1 cap1) l rs wx hs (HR.out.keep hk) hlp (by omega) HFC.out)
  have HCM := Lib.hid (show ∀ sv lv wx, SeenF wx sv l → ListAt wx l.length TS lv → _ from fun sv lv wx hs hL => columns_made sv lv ns TS l.length wx (by rw [← hl]; exact hs) hL HLM.out hTl)
  have hmd := made_cols ns TS HLM.out hTl
  obtain ⟨N, hN⟩ : ∃ N, N = (leavesL (mk ns)).length := ⟨_, rfl⟩
  have hN0 : 0 < N := by
    rw [hN]
    obtain ⟨f, hf, hk⟩ := hmk.leaf
    obtain ⟨j, hj⟩ := List.mem_iff_getElem?.1 hf
    have hjl := (List.getElem?_eq_some_iff.1 hj).1
    have hm : (⟨j, (rls l).getD j 0, (dls l).getD j 0, (l.getD j default).k⟩ : L) ∈ leavesL (mk ns) := by
      rw [← hl]
      unfold leavesL leavesTo
      refine List.mem_flatMap.2 ⟨j, List.mem_range.2 hjl, ?_⟩
      unfold leafAt
      have e : l.getD j default = f := by rw [List.getD, hj]; rfl
      rw [if_pos (by rw [e]; exact hk)]
      simp
    exact List.length_pos_of_mem hm
  have HNN := Lib.hid hN
  rw [← hN] at HCM
  obtain ⟨lf, hlf⟩ : ∃ lf, (leavesL (mk ns))[0]? = some lf := ⟨_, List.getElem?_eq_getElem (by rw [← HNN.out]; exact hN0)⟩
  obtain ⟨W, hW⟩ : ∃ W, (lways (mk ns))[0]? = some W := ⟨_, List.getElem?_eq_getElem (by rw [lways_len, ← HNN.out]; exact hN0)⟩
  have hWm := List.mem_of_getElem? hW
  have hWs := lways_short ns W hWm
  have hn4 : (colC W TS).length ≤ 4000 := ((hmd).2 W hWm).2.2
  have hlev : ∀ x ∈ colC W TS, x.r ≤ many2 W ∧ x.d ≤ manyD W := fun x hx => by
    obtain ⟨t, -, hx⟩ := List.mem_flatMap.1 hx
    have := cells_levels W 0 0 0 t (Nat.le_refl _) x hx
    omega
  have hm5 : many2 W ≤ 5 ∧ manyD W ≤ 5 := by
    have h1 := List.countP_le_length (p := fun s : Stp => decide (s.2 = 2)) (l := W)
    have h2 := List.countP_le_length (p := fun s : Stp => decide (s.2 ≠ 0)) (l := W)
    unfold many2 manyD; omega
  obtain ⟨C, hC⟩ : ∃ C, C = colC W TS := ⟨_, rfl⟩
  rw [← hC] at hn4 hlev
  obtain ⟨XR, hXR⟩ : ∃ XR, XR = colR C := ⟨_, rfl⟩
  obtain ⟨XD, hXD⟩ : ∃ XD, XD = colD C := ⟨_, rfl⟩
  obtain ⟨XV, hXV⟩ : ∃ XV, XV = colV lf.d C := ⟨_, rfl⟩
  obtain ⟨n, hn⟩ : ∃ n, n = C.length := ⟨_, rfl⟩
  obtain ⟨K, hK⟩ : ∃ K, K = XV.length := ⟨_, rfl⟩
  have hKn : K ≤ n := by rw [hK, hXV, hn]; unfold colV; rw [List.length_map]; exact List.length_filter_le _ _
  have HXL := Lib.hid (show XR.length = n ∧ XD.length = n by rw [hXR, hXD, hn]; simp)
  have HB5 := Lib.hid (show (∀ (i : Nat) (x : Int), XR[i]? = some x → 0 ≤ x ∧ x ≤ 5) ∧ (∀ (i : Nat) (x : Int), XD[i]? = some x → 0 ≤ x ∧ x ≤ 5) from by
    constructor
    · intro i x hx
      rw [hXR] at hx
      unfold colR at hx
      rw [List.getElem?_map] at hx
      cases hc : C[i]? with
      | none => rw [hc] at hx; cases hx
      | some c => rw [hc] at hx; simp at hx; have := hlev c (List.mem_of_getElem? hc); omega
    · intro i x hx
      rw [hXD] at hx
      unfold colD at hx
      rw [List.getElem?_map] at hx
      cases hc : C[i]? with
      | none => rw [hc] at hx; cases hx
      | some c => rw [hc] at hx; simp at hx; have := hlev c (List.mem_of_getElem? hc); omega)
  rw [← hn] at hn4
  -- what Columns gives, at its first leaf
  have HGET := Lib.hid (show ∀ w0 wi gc R, CJ (leavesL (mk ns)) (lways (mk ns)) TS w0 wi gc N N R → ∃ rv dv vv lo, w0.heap.size ≤ lo ∧ gc < lo ∧ Tri lo rv dv vv XR XD XV n n K wi ∧ wi.cell? ⟨gc, 0, none⟩ = some rv ∧ wi.cell? ⟨gc, 1, none⟩ = some dv ∧ wi.cell? ⟨gc, 2, none⟩ = some vv from fun w0 wi gc R hJ => by
    obtain ⟨e, he, h1, h2, c0, c1, c2⟩ := hJ.get hN0 hlf hW
    have ht := h1.t
    rw [← hC, ← hXR, ← hXD, ← hXV, ← hn, ← hK] at ht
    exact ⟨e.rv, e.dv, e.vv, e.lo, by have := hJ.gl.1; omega, h2, ht, by simpa using c0, by simpa using c1, by simpa using c2⟩)
  have HKE := Lib.hid hK
  clear w1 hmk hl hTS hN hlf hW hWm hWs hmd hlev hm5 hXR hXD hXV hn hK hC
  go_enter Try.func4, Try.ntmps4
  go_wp2_with fail
  refine (known14_any _).mono ?_
  rintro e wA ⟨rfl, hk⟩
  have HK1 := Lib.hid hk
  clear hk
  go_wp2_with fail
  refine (make_any _ ns _ (HS.out.keep HK1.out) HWF.out).mono ?_
  rintro e wB ⟨sv, rfl, hown, hk⟩
  rw [← HL.out] at hown
  have hSv := SeenF.own hown rfl
  obtain ⟨sa, sc, rfl⟩ := own_shape hown
  have HSF := Lib.hid hSv
  have HK2 := Lib.hid (HK1.out.trans hk (by simp))
  clear hown hSv hk
  go_wp2_with fail
  refine (HMK.out wB _ HSF.out HK2.out).mono ?_
  rintro e wC ⟨lv, rfl, hli, hk⟩
  have hla := hli.at
  have HLV := Lib.hid hla
  have HK3 := Lib.hid (HK2.out.trans hk (by simp)); have HSF3 := Lib.hid (HSF.out.keep hk)
  clear hli hk hla
  go_wp2_with fail
  refine (HCM.out _ _ wC HSF3.out HLV.out).mono ?_
  rintro e wD ⟨ga, RA, rfl, hk, hJ⟩
  have HK4 := Lib.hid (HK3.out.trans hk (by simp)); have HSF4 := Lib.hid (HSF3.out.keep hk)
  obtain ⟨ra, da, va, loA, hloA, hgA, htA, ca0, ca1, ca2⟩ := HGET.out _ _ _ _ hJ
  have hgaS : ga < wD.heap.size := hJ.gl.2
  have HTA := Lib.hid htA; have HCA := Lib.hid (show wD.cell? ⟨ga, 0, none⟩ = some ra ∧ wD.cell? ⟨ga, 1, none⟩ = some da ∧ wD.cell? ⟨ga, 2, none⟩ = some va from ⟨ca0, ca1, ca2⟩)
  clear hk hJ htA ca0 ca1 ca2
  go_wp2_with fail
  refine (HMK.out wD _ HSF4.out HK4.out).mono ?_
  rintro e wE ⟨lv2, rfl, hli, hk⟩
  have hla := hli.at
  have HLV2 := Lib.hid hla
  have HKDE := Lib.hid hk
  have HK5 := Lib.hid (HK4.out.trans hk (by simp)); have HSF5 := Lib.hid (HSF4.out.keep hk)
  clear hli hk hla
  go_wp2_with fail
  refine (HCM.out _ _ wE HSF5.out HLV2.out).mono ?_
  rintro e wF ⟨gb, RB, rfl, hk, hJ⟩
  have HK6 := Lib.hid (HK5.out.trans hk (by simp)); have HKDF := Lib.hid (HKDE.out.trans hk (by simp))
  obtain ⟨rb, db, vb, loB, hloB, hgB, htB, cb0, cb1, cb2⟩ := HGET.out _ _ _ _ hJ
  have hgbS : gb < wF.heap.size := hJ.gl.2
  have hloD : wD.heap.size ≤ loB := Nat.le_trans HKDE.out.size hloB
  have hloW : w.heap.size ≤ loB := Nat.le_trans HK4.out.size hloD
  have HTB := Lib.hid htB; have HCB := Lib.hid (show wF.cell? ⟨gb, 0, none⟩ = some rb ∧ wF.cell? ⟨gb, 1, none⟩ = some db ∧ wF.cell? ⟨gb, 2, none⟩ = some vb from ⟨cb0, cb1, cb2⟩)
  clear hk hJ htB cb0 cb1 cb2
  -- a's rows, as long as nothing of theirs changes
  obtain ⟨rao, rac, rfl⟩ := own_shape HTA.out.r
  obtain ⟨dao, dac, rfl⟩ := own_shape HTA.out.d
  obtain ⟨vao, vac, rfl⟩ := own_shape HTA.out.v
  obtain ⟨rbo, rbc, rfl⟩ := own_shape HTB.out.r
  obtain ⟨dbo, dbc, rfl⟩ := own_shape HTB.out.d
  obtain ⟨vbo, vbc, rfl⟩ := own_shape HTB.out.v
  have HAK := Lib.hid (show ∀ S wx, Chg S wD wx → (∀ k ∈ S, wD.heap.size ≤ k) → (wx.cell? ⟨ga, 0, none⟩ = some (.slice rao n rac) ∧ wx.cell? ⟨ga, 1, none⟩ = some (.slice dao n dac) ∧ wx.cell? ⟨ga, 2, none⟩ = some (.slice vao K vac)) ∧ SeenI wx (.slice rao n rac) XR ∧ SeenI wx (.slice dao n dac) XD ∧ SeenV wx (.slice vao K vac) XV from fun S wx hc hS => by
    have hn : ∀ g, g < wD.heap.size → g ∉ S := fun g hg hm => by have := hS g hm; omega
    obtain ⟨c0, c1, c2⟩ := HCA.out
    refine ⟨⟨hc.cell c0 (hn _ hgaS), hc.cell c1 (hn _ hgaS), hc.cell c2 (hn _ hgaS)⟩, ?_, ?_, ?_⟩
    · exact seenI_of_own (own_chg HTA.out.r hc (fun g hg => hn g (own_lt HTA.out.r g hg))) HXL.out.1.symm
    · exact seenI_of_own (own_chg HTA.out.d hc (fun g hg => hn g (own_lt HTA.out.d g hg))) HXL.out.2.symm
    · exact SeenK.own V.cs_len (own_chg HTA.out.v hc (fun g hg => hn g (own_lt HTA.out.v g hg))) HKE.out.symm)
  have HBR := Lib.hid (show SeenI wF (.slice rbo n rbc) XR ∧ SeenI wF (.slice dbo n dbc) XD ∧ SeenV wF (.slice vbo K vbc) XV from ⟨seenI_of_own HTB.out.r HXL.out.1.symm, seenI_of_own HTB.out.d HXL.out.2.symm, SeenK.own V.cs_len HTB.out.v HKE.out.symm⟩)
  have HSM := Lib.hid (show ∀ wx, Chg [] wF wx → Calls Try.prog 15 #[.agg #[.slice rao n rac, .slice dao n dac, .slice vao K vac], .agg #[.slice rbo n rbc, .slice dbo n dbc, .slice vbo K vbc]] wx fun e w' => e = .returned (.bool true) ∧ Chg [] wx w' from fun wx hc => by
    obtain ⟨-, a1, a2, a3⟩ := HAK.out [] wx (HKDF.out.trans hc (by simp)) (by simp)
    obtain ⟨b1, b2, b3⟩ := HBR.out
    have h := same14_any _ _ _ _ _ _ XR XD XR XD XV XV wx a1 a2 a3 (b1.keep hc) (b2.keep hc) (b3.keep hc)
    simpa using h)
  have HQ6 := Lib.hid (show ∀ wx, Chg [] wF wx → (wx.cell? ⟨ga, 0, none⟩ = some (.slice rao n rac) ∧ wx.cell? ⟨ga, 1, none⟩ = some (.slice dao n dac) ∧ wx.cell? ⟨ga, 2, none⟩ = some (.slice vao K vac)) ∧ wx.cell? ⟨gb, 0, none⟩ = some (.slice rbo n rbc) ∧ wx.cell? ⟨gb, 1, none⟩ = some (.slice dbo n dbc) ∧ wx.cell? ⟨gb, 2, none⟩ = some (.slice vbo K vbc) from fun wx hc => by
    obtain ⟨c0, c1, c2⟩ := HCB.out
    exact ⟨(HAK.out [] wx (HKDF.out.trans hc (by simp)) (by simp)).1, hc.cell c0 (by simp), hc.cell c1 (by simp), hc.cell c2 (by simp)⟩)
  have z0 : ((N : Int) == 0) = false := by simp; omega
  have z1 : ¬ (N : Int) = 0 := by omega
  have z2 : ¬ N = 0 := by omega
  have z3 : (0 : Int) < (N : Int) := by omega
  have q1 := HQ6.out wF (Chg.refl [] wF)
  have q2 := HQ6.out wF.drew (Chg.refl [] wF).drew
  have HK0 := Lib.hid (Chg.refl [] wF).drew
  go_upto_region 6 with fail
  go_cut [52] (fun s wx => s = .bool false ∧ Chg [] wF wx)
  case first =>
    go_region_held3 (fun w' => (w'.cell? ⟨ga, 0, none⟩ = some (.slice rao n rac) ∧ w'.cell? ⟨ga, 1, none⟩ = some (.slice dao n dac) ∧ w'.cell? ⟨ga, 2, none⟩ = some (.slice vao K vac)) ∧ w'.cell? ⟨gb, 0, none⟩ = some (.slice rbo n rbc) ∧ w'.cell? ⟨gb, 1, none⟩ = some (.slice dbo n dbc) ∧ w'.cell? ⟨gb, 2, none⟩ = some (.slice vbo K vbc)) (first | exact q1 | exact q2 | exact s1) (first
      | (go_simp; go_at_call 15; (with_reducible refine (HSM.out _ HK0.out).mono ?_); rintro e wx ⟨rfl, hk⟩; have HKA := Lib.hid (HK0.out.trans hk (by simp)); have s1 := HQ6.out wx HKA.out; clear hk))
    all_goals
      try go_wp2
      go_meet
      case rel => first | exact ⟨rfl, HKA.out⟩ | exact ⟨rfl, HKA.out.drew⟩
  case rest =>
  obtain ⟨rfl, hcw⟩ := hcut
  have HCW := Lib.hid hcw
  obtain ⟨-, c0, c1, c2⟩ := HQ6.out wc hcw
  clear hcw q1 q2
  have HCF := Lib.hid (HKDF.out.trans HCW.out (by simp))
  have hBS : wF.heap.size ≤ wc.heap.size := HCW.out.size
  by_cases hn0 : n = 0
  · have d1 : ((n : Int) == 0) = true := by simp [hn0]
    clear hn0
    go_wp2
    go_ret
    exact ⟨rfl, (HK4.out.trans (HCF.out.alloc _) (by simp)).below (Nat.le_refl _) (by simp)⟩
  have d1 : ((n : Int) == 0) = false := by simp [hn0]
  have hnp : 1 ≤ n := by omega
  clear hn0
  obtain ⟨Bx, hBx⟩ : ∃ z, z = wc.heap.size := ⟨_, rfl⟩
  obtain ⟨wg, hwg⟩ : ∃ z, z = wc.alloc (.cells #[.slice rbo n rbc, .slice dbo n dbc, .slice vbo K vbc] 36) := ⟨_, rfl⟩
  have hwb : wg.heap[Bx]? = some (.cells #[.slice rbo n rbc, .slice dbo n dbc, .slice vbo K vbc] 36 (0, 0)) := by rw [hwg, hBx]; exact heap_alloc_new wc _
  have HWB := Lib.hid hwb
  have HWG := Lib.hid (show Chg [] wF wg by rw [hwg]; exact HCW.out.alloc _)
  have HDG := Lib.hid (show Chg [] wD wg by rw [hwg]; exact HCF.out.alloc _)
  have HOR := Lib.hid (own_chg HTB.out.r HWG.out (by simp)); have HOD := Lib.hid (own_chg HTB.out.d HWG.out (by simp)); have HOV := Lib.hid (own_chg HTB.out.v HWG.out (by simp))
  have hBxg : Bx < wg.heap.size := Go.lt_of_block hwb
  have hBD : wD.heap.size ≤ Bx := by rw [hBx]; exact HCF.out.size
  go_upto_region 9 with fail
  rw [← hBx, ← hwg]
  clear hBx hwg c0 c1 c2
  have b0 : wg.cell? ⟨Bx, 0, none⟩ = some (.slice rbo n rbc) := by rw [cell_of_row wg Bx 0 _ _ _ hwb]; rfl
  have b1 : wg.cell? ⟨Bx, 1, none⟩ = some (.slice dbo n dbc) := by rw [cell_of_row wg Bx 1 _ _ _ hwb]; rfl
  have b2 : wg.cell? ⟨Bx, 2, none⟩ = some (.slice vbo K vbc) := by rw [cell_of_row wg Bx 2 _ _ _ hwb]; rfl
  have bf : ∀ i, wg.frozen? ⟨Bx, i, none⟩ = false := fun i => by simp [World.frozen?, hwb]
  clear hwb
  go_wp2_with fail
  refine (w14_nat a3 n wg hnp (by omega) HW3.out).mono ?_
  rintro e wg' ⟨rfl, rfl⟩
  obtain ⟨ii, hii⟩ : ∃ ii, ii = (a3 % (n : Int)).toNat := ⟨_, rfl⟩
  have hin : ii < n := by rw [hii]; exact within_lt a3 n hnp
  rw [← hii]
  clear hii
  go_wp2_with fail
  refine (w14_int a2 4 4 wg rfl (by omega) (by omega) HW2.out).mono ?_
  rintro e wg' ⟨rfl, rfl⟩
  obtain ⟨q, hq⟩ : ∃ q, q = (a2 % ((4 : Nat) : Int)).toNat := ⟨_, rfl⟩
  have hq4 : q = 0 ∨ q = 1 ∨ q = 2 ∨ q = 3 := by omega
  rw [← hq]
  clear hq
  rcases hq4 with rfl | rfl | rfl | rfl
  · have HO := HOR
    obtain ⟨gR, e9, hg1, hg2, hfz, hcell⟩ := own_ptr HO.out (by omega)
    obtain rfl := e9
    obtain ⟨x, hx⟩ : ∃ x, XR[ii]? = some x := ⟨_, List.getElem?_eq_getElem (by rw [HXL.out.1]; exact hin)⟩
    have c3 : wg.cell? ⟨gR, ii, none⟩ = some (.int .i64 x) := hcell ii _ (by simp [iv, hx])
    have f3 : wg.frozen? ⟨gR, ii, none⟩ = false := hfz ii
    have hx5 : 0 ≤ x ∧ x ≤ 5 := HB5.out.1 ii x hx
    have HX := Lib.hid hx
    have hne : gR ≠ Bx := by rintro rfl; exact (tagged_of_own HO.out).ne HWB.out (by decide) gR rfl rfl
    have hne2 : Bx ≠ gR := fun e => hne e.symm
    have HNE := Lib.hid (show ¬ (XR = XR.set ii (x + 1) ∧ XD = XD ∧ XV = XV) from fun h => set_ne hx h.1)
    have HST := Lib.hid ((Chg.refl [gR] wg).setCell (p := ⟨gR, ii, none⟩) (by simp) (.int .i64 (x + 1)))
    have HZX := Lib.hid (show (wg.setCell ⟨gR, ii, none⟩ (.int .i64 (x + 1))).cell? ⟨Bx, 0, none⟩ = some (.slice (some ⟨gR, 0, none⟩) n rbc) ∧ (wg.setCell ⟨gR, ii, none⟩ (.int .i64 (x + 1))).cell? ⟨Bx, 1, none⟩ = some (.slice dbo n dbc) ∧ (wg.setCell ⟨gR, ii, none⟩ (.int .i64 (x + 1))).cell? ⟨Bx, 2, none⟩ = some (.slice vbo K vbc) from ⟨HST.out.cell b0 (by simpa using hne2), HST.out.cell b1 (by simpa using hne2), HST.out.cell b2 (by simpa using hne2)⟩)
    have HZB := Lib.hid (show SeenI (wg.setCell ⟨gR, ii, none⟩ (.int .i64 (x + 1))) (.slice (some ⟨gR, 0, none⟩) n rbc) (XR.set ii (x + 1)) ∧ SeenI (wg.setCell ⟨gR, ii, none⟩ (.int .i64 (x + 1))) (.slice dbo n dbc) (XD) ∧ SeenV (wg.setCell ⟨gR, ii, none⟩ (.int .i64 (x + 1))) (.slice vbo K vbc) XV from by
      have h := own_set HO.out ii (by omega) (.int .i64 (x + 1))
      rw [show (iv XR).set ii (.int .i64 (x + 1)) = iv (XR.set ii (x + 1)) by simp [iv, List.map_set]] at h
      refine ⟨?_, ?_, ?_⟩
      · exact seenI_of_own h (by rw [List.length_set]; exact HXL.out.1.symm)
      · exact seenI_of_own (own_chg HOD.out HST.out (fun g hg hm => by simp at hm; subst hm; exact HTB.out.rd _ rfl hg)) HXL.out.2.symm
      · exact SeenK.own V.cs_len (own_chg HOV.out HST.out (fun g hg hm => by simp at hm; subst hm; exact HTB.out.rv' _ rfl hg)) HKE.out.symm)
    clear hx hcell hfz
    have HCZ := Lib.hid (show Chg [] wD (wg.setCell ⟨gR, ii, none⟩ (.int .i64 (x + 1))) from HDG.out.trans HST.out (fun t ht => .inr (by simp at ht; omega)))
    have HSS := Lib.hid (show ∀ k ∈ [], wD.heap.size ≤ k by simp)
    obtain ⟨wz, hwz⟩ : ∃ z, z = wg.setCell ⟨gR, ii, none⟩ (.int .i64 (x + 1)) := ⟨_, rfl⟩
    rw [← hwz] at HCZ HZB HZX
    have HSA := Lib.hid (show ∀ wx, Chg [] wz wx → Calls Try.prog 15 #[.agg #[.slice rao n rac, .slice dao n dac, .slice vao K vac], .agg #[.slice (some ⟨gR, 0, none⟩) n rbc, .slice dbo n dbc, .slice vbo K vbc]] wx fun e w' => e = .returned (.bool false) ∧ Chg [] wx w' from fun wx hc => by
      obtain ⟨-, a1, a2, a3⟩ := HAK.out _ wz HCZ.out HSS.out
      obtain ⟨b1, b2, b3⟩ := HZB.out
      have h := same14_any _ _ _ _ _ _ XR XD _ _ XV _ wx (a1.keep hc) (a2.keep hc) (a3.keep hc) (b1.keep hc) (b2.keep hc) (b3.keep hc)
      rwa [decide_eq_false HNE.out] at h)
    have HSB := Lib.hid (show ∀ wx, Chg [] wz wx → Calls Try.prog 15 #[.agg #[.slice (some ⟨gR, 0, none⟩) n rbc, .slice dbo n dbc, .slice vbo K vbc], .agg #[.slice rao n rac, .slice dao n dac, .slice vao K vac]] wx fun e w' => e = .returned (.bool false) ∧ Chg [] wx w' from fun wx hc => by
      obtain ⟨-, a1, a2, a3⟩ := HAK.out _ wz HCZ.out HSS.out
      obtain ⟨b1, b2, b3⟩ := HZB.out
      have h := same14_any _ _ _ _ _ _ _ _ XR XD _ XV wx (b1.keep hc) (b2.keep hc) (b3.keep hc) (a1.keep hc) (a2.keep hc) (a3.keep hc)
      rwa [decide_eq_false (fun h => HNE.out ⟨h.1.symm, h.2.1.symm, h.2.2.symm⟩)] at h)
    have HQZ := Lib.hid (show ∀ wx, Chg [] wz wx → (wx.cell? ⟨ga, 0, none⟩ = some (.slice rao n rac) ∧ wx.cell? ⟨ga, 1, none⟩ = some (.slice dao n dac) ∧ wx.cell? ⟨ga, 2, none⟩ = some (.slice vao K vac)) ∧ wx.cell? ⟨Bx, 0, none⟩ = some (.slice (some ⟨gR, 0, none⟩) n rbc) ∧ wx.cell? ⟨Bx, 1, none⟩ = some (.slice dbo n dbc) ∧ wx.cell? ⟨Bx, 2, none⟩ = some (.slice vbo K vbc) from fun wx hc => by
      obtain ⟨⟨c0, c1, c2⟩, -⟩ := HAK.out _ wz HCZ.out HSS.out
      obtain ⟨d0, d1, d2⟩ := HZX.out
      exact ⟨⟨hc.cell c0 (by simp), hc.cell c1 (by simp), hc.cell c2 (by simp)⟩, hc.cell d0 (by simp), hc.cell d1 (by simp), hc.cell d2 (by simp)⟩)
    go_upto_region 21 with fail
    rw [← hwz]
    clear hwz c3 f3 b0 b1 b2 bf
    have q1 := HQZ.out wz (Chg.refl [] wz)
    have q2 := HQZ.out wz.drew (Chg.refl [] wz).drew
    have HK0 := Lib.hid (Chg.refl [] wz).drew
    go_cut [8] (fun s wx => s = .bool true ∧ Chg [] wz wx)
    case first =>
      go_region_held3 (fun w' => (w'.cell? ⟨ga, 0, none⟩ = some (.slice rao n rac) ∧ w'.cell? ⟨ga, 1, none⟩ = some (.slice dao n dac) ∧ w'.cell? ⟨ga, 2, none⟩ = some (.slice vao K vac)) ∧ w'.cell? ⟨Bx, 0, none⟩ = some (.slice (some ⟨gR, 0, none⟩) n rbc) ∧ w'.cell? ⟨Bx, 1, none⟩ = some (.slice dbo n dbc) ∧ w'.cell? ⟨Bx, 2, none⟩ = some (.slice vbo K vbc)) (first | exact q1 | exact q2 | exact s1 | exact s2) (first
        | (go_simp; go_at_call 15; (with_reducible refine (HSA.out _ HK0.out).mono ?_); rintro e wx ⟨rfl, hk⟩; have HKA := Lib.hid (HK0.out.trans hk (by simp)); have s1 := HQZ.out wx HKA.out; clear hk)
        | (go_simp; go_at_call 15; (with_reducible refine (HSB.out _ HKA.out).mono ?_); rintro e wx ⟨rfl, hk⟩; have HKB := Lib.hid (HKA.out.trans hk (by simp)); have s2 := HQZ.out wx HKB.out; clear hk))
      all_goals
        try go_wp2
        go_meet
        case rel => first | exact ⟨rfl, HKB.out⟩ | exact ⟨rfl, HKB.out.drew⟩
    case rest =>
    obtain ⟨rfl, hcv⟩ := hcut
    have HCV := Lib.hid hcv
    clear hcv q1 q2
    go_wp2
    go_ret
    exact ⟨rfl, (HK4.out.trans (HCZ.out.trans HCV.out (by simp)) (fun t ht => .inr (Nat.le_trans HK4.out.size (HSS.out t ht)))).below (Nat.le_refl _) (fun k hk => Nat.le_trans HK4.out.size (HSS.out k hk))⟩
  · have HO := HOD
    obtain ⟨gR, e9, hg1, hg2, hfz, hcell⟩ := own_ptr HO.out (by omega)
    obtain rfl := e9
    obtain ⟨x, hx⟩ : ∃ x, XD[ii]? = some x := ⟨_, List.getElem?_eq_getElem (by rw [HXL.out.2]; exact hin)⟩
    have c3 : wg.cell? ⟨gR, ii, none⟩ = some (.int .i64 x) := hcell ii _ (by simp [iv, hx])
    have f3 : wg.frozen? ⟨gR, ii, none⟩ = false := hfz ii
    have hx5 : 0 ≤ x ∧ x ≤ 5 := HB5.out.2 ii x hx
    have HX := Lib.hid hx
    have hne : gR ≠ Bx := by rintro rfl; exact (tagged_of_own HO.out).ne HWB.out (by decide) gR rfl rfl
    have hne2 : Bx ≠ gR := fun e => hne e.symm
    have HNE := Lib.hid (show ¬ (XR = XR ∧ XD = XD.set ii (x + 1) ∧ XV = XV) from fun h => set_ne hx h.2.1)
    have HST := Lib.hid ((Chg.refl [gR] wg).setCell (p := ⟨gR, ii, none⟩) (by simp) (.int .i64 (x + 1)))
    have HZX := Lib.hid (show (wg.setCell ⟨gR, ii, none⟩ (.int .i64 (x + 1))).cell? ⟨Bx, 0, none⟩ = some (.slice rbo n rbc) ∧ (wg.setCell ⟨gR, ii, none⟩ (.int .i64 (x + 1))).cell? ⟨Bx, 1, none⟩ = some (.slice (some ⟨gR, 0, none⟩) n dbc) ∧ (wg.setCell ⟨gR, ii, none⟩ (.int .i64 (x + 1))).cell? ⟨Bx, 2, none⟩ = some (.slice vbo K vbc) from ⟨HST.out.cell b0 (by simpa using hne2), HST.out.cell b1 (by simpa using hne2), HST.out.cell b2 (by simpa using hne2)⟩)
    have HZB := Lib.hid (show SeenI (wg.setCell ⟨gR, ii, none⟩ (.int .i64 (x + 1))) (.slice rbo n rbc) (XR) ∧ SeenI (wg.setCell ⟨gR, ii, none⟩ (.int .i64 (x + 1))) (.slice (some ⟨gR, 0, none⟩) n dbc) (XD.set ii (x + 1)) ∧ SeenV (wg.setCell ⟨gR, ii, none⟩ (.int .i64 (x + 1))) (.slice vbo K vbc) XV from by
      have h := own_set HO.out ii (by omega) (.int .i64 (x + 1))
      rw [show (iv XD).set ii (.int .i64 (x + 1)) = iv (XD.set ii (x + 1)) by simp [iv, List.map_set]] at h
      refine ⟨?_, ?_, ?_⟩
      · exact seenI_of_own (own_chg HOR.out HST.out (fun g hg hm => by simp at hm; subst hm; exact HTB.out.rd _ hg rfl)) HXL.out.1.symm
      · exact seenI_of_own h (by rw [List.length_set]; exact HXL.out.2.symm)
      · exact SeenK.own V.cs_len (own_chg HOV.out HST.out (fun g hg hm => by simp at hm; subst hm; exact HTB.out.dv' _ rfl hg)) HKE.out.symm)
    clear hx hcell hfz
    have HCZ := Lib.hid (show Chg [] wD (wg.setCell ⟨gR, ii, none⟩ (.int .i64 (x + 1))) from HDG.out.trans HST.out (fun t ht => .inr (by simp at ht; omega)))
    have HSS := Lib.hid (show ∀ k ∈ [], wD.heap.size ≤ k by simp)
    obtain ⟨wz, hwz⟩ : ∃ z, z = wg.setCell ⟨gR, ii, none⟩ (.int .i64 (x + 1)) := ⟨_, rfl⟩
    rw [← hwz] at HCZ HZB HZX
    have HSA := Lib.hid (show ∀ wx, Chg [] wz wx → Calls Try.prog 15 #[.agg #[.slice rao n rac, .slice dao n dac, .slice vao K vac], .agg #[.slice rbo n rbc, .slice (some ⟨gR, 0, none⟩) n dbc, .slice vbo K vbc]] wx fun e w' => e = .returned (.bool false) ∧ Chg [] wx w' from fun wx hc => by
      obtain ⟨-, a1, a2, a3⟩ := HAK.out _ wz HCZ.out HSS.out
      obtain ⟨b1, b2, b3⟩ := HZB.out
      have h := same14_any _ _ _ _ _ _ XR XD _ _ XV _ wx (a1.keep hc) (a2.keep hc) (a3.keep hc) (b1.keep hc) (b2.keep hc) (b3.keep hc)
      rwa [decide_eq_false HNE.out] at h)
    have HSB := Lib.hid (show ∀ wx, Chg [] wz wx → Calls Try.prog 15 #[.agg #[.slice rbo n rbc, .slice (some ⟨gR, 0, none⟩) n dbc, .slice vbo K vbc], .agg #[.slice rao n rac, .slice dao n dac, .slice vao K vac]] wx fun e w' => e = .returned (.bool false) ∧ Chg [] wx w' from fun wx hc => by
      obtain ⟨-, a1, a2, a3⟩ := HAK.out _ wz HCZ.out HSS.out
      obtain ⟨b1, b2, b3⟩ := HZB.out
      have h := same14_any _ _ _ _ _ _ _ _ XR XD _ XV wx (b1.keep hc) (b2.keep hc) (b3.keep hc) (a1.keep hc) (a2.keep hc) (a3.keep hc)
      rwa [decide_eq_false (fun h => HNE.out ⟨h.1.symm, h.2.1.symm, h.2.2.symm⟩)] at h)
    have HQZ := Lib.hid (show ∀ wx, Chg [] wz wx → (wx.cell? ⟨ga, 0, none⟩ = some (.slice rao n rac) ∧ wx.cell? ⟨ga, 1, none⟩ = some (.slice dao n dac) ∧ wx.cell? ⟨ga, 2, none⟩ = some (.slice vao K vac)) ∧ wx.cell? ⟨Bx, 0, none⟩ = some (.slice rbo n rbc) ∧ wx.cell? ⟨Bx, 1, none⟩ = some (.slice (some ⟨gR, 0, none⟩) n dbc) ∧ wx.cell? ⟨Bx, 2, none⟩ = some (.slice vbo K vbc) from fun wx hc => by
      obtain ⟨⟨c0, c1, c2⟩, -⟩ := HAK.out _ wz HCZ.out HSS.out
      obtain ⟨d0, d1, d2⟩ := HZX.out
      exact ⟨⟨hc.cell c0 (by simp), hc.cell c1 (by simp), hc.cell c2 (by simp)⟩, hc.cell d0 (by simp), hc.cell d1 (by simp), hc.cell d2 (by simp)⟩)
    go_upto_region 21 with fail
    rw [← hwz]
    clear hwz c3 f3 b0 b1 b2 bf
    have q1 := HQZ.out wz (Chg.refl [] wz)
    have q2 := HQZ.out wz.drew (Chg.refl [] wz).drew
    have HK0 := Lib.hid (Chg.refl [] wz).drew
    go_cut [8] (fun s wx => s = .bool true ∧ Chg [] wz wx)
    case first =>
      go_region_held3 (fun w' => (w'.cell? ⟨ga, 0, none⟩ = some (.slice rao n rac) ∧ w'.cell? ⟨ga, 1, none⟩ = some (.slice dao n dac) ∧ w'.cell? ⟨ga, 2, none⟩ = some (.slice vao K vac)) ∧ w'.cell? ⟨Bx, 0, none⟩ = some (.slice rbo n rbc) ∧ w'.cell? ⟨Bx, 1, none⟩ = some (.slice (some ⟨gR, 0, none⟩) n dbc) ∧ w'.cell? ⟨Bx, 2, none⟩ = some (.slice vbo K vbc)) (first | exact q1 | exact q2 | exact s1 | exact s2) (first
        | (go_simp; go_at_call 15; (with_reducible refine (HSA.out _ HK0.out).mono ?_); rintro e wx ⟨rfl, hk⟩; have HKA := Lib.hid (HK0.out.trans hk (by simp)); have s1 := HQZ.out wx HKA.out; clear hk)
        | (go_simp; go_at_call 15; (with_reducible refine (HSB.out _ HKA.out).mono ?_); rintro e wx ⟨rfl, hk⟩; have HKB := Lib.hid (HKA.out.trans hk (by simp)); have s2 := HQZ.out wx HKB.out; clear hk))
      all_goals
        try go_wp2
        go_meet
        case rel => first | exact ⟨rfl, HKB.out⟩ | exact ⟨rfl, HKB.out.drew⟩
    case rest =>
    obtain ⟨rfl, hcv⟩ := hcut
    have HCV := Lib.hid hcv
    clear hcv q1 q2
    go_wp2
    go_ret
    exact ⟨rfl, (HK4.out.trans (HCZ.out.trans HCV.out (by simp)) (fun t ht => .inr (Nat.le_trans HK4.out.size (HSS.out t ht)))).below (Nat.le_refl _) (fun k hk => Nat.le_trans HK4.out.size (HSS.out k hk))⟩
  · have HM2 := Lib.hid (show K + 1 ≤ maxLen by unfold maxLen; omega)
    have HM3 := Lib.hid (show (K + 1) * 24 ≤ 140737488355328 by omega)
    have HBX := Lib.hid HDG.out.size
    have HOW := Lib.hid (own_mono HOV.out hloD)
    go_upto_region 18 with fail
    go_wp2_with (first
      | (at_builtin; refine wpList_append_at _ rfl (.tmp 88) (.tmp 90) _ rfl wD.heap.size 42 i0 (.agg #[.int .i64 0, .string ByteArray.empty]) 2 24 Try.underlying34 hi hz0 hz1 hz2 rfl (by omega) (.slice vbo K vbc) K _ rfl (HOW.out.alloc _) ⟨wg.heap.size, 0, none⟩ 1 1 [.int .i64 0, .string ByteArray.empty] rfl rfl (new_cells (C := #[.int .i64 0, .string ByteArray.empty]) _ (by simp)) (by intro u hu; simp at hu; rcases hu with rfl | rfl <;> rfl) HM2.out HM3.out (le_alloc HBX.out _) ?_; intro v2 w6 hown2 hg2 hat2; obtain ⟨va2, vc2, rfl⟩ := own_shape hown2; have HO2 := Lib.hid hown2; have HS6 := Lib.hid (((Chg.refl (Value.slice vbo K vbc).ownBlock.toList wg).alloc _).grown hg2 (fun q hq => .inl (by simp [← hq]))); have HD6 := Lib.hid ((HDG.out.alloc _).grown hg2 (fun q hq => .inr (own_ge HOW.out q hq))); have hnB : Bx ∉ (Value.slice vbo K vbc).ownBlock.toList := fun hm => (tagged_of_own HOV.out).ne HWB.out (by decide) Bx (by simpa using hm) rfl; have HB6 := Lib.hid (HS6.out.heap HWB.out hnB); have b2' := HS6.out.cell b2 hnB; have bf' : w6.frozen? ⟨Bx, 2, none⟩ = false := (by have h := HB6.out; simp [World.frozen?, h]); clear hown2 hg2 hat2)
      | fail)
    have HST := Lib.hid ((Chg.refl [Bx] w6).setCell (p := ⟨Bx, 2, none⟩) (by simp) (.slice va2 (K + 1) vc2))
    have HNE := Lib.hid (show ¬ (XR = XR ∧ XD = XD ∧ XV = XV ++ [⟨0, ByteArray.empty⟩]) from fun h => by have := congrArg List.length h.2.2; simp at this)
    have HB7 := Lib.hid (heap_set (i := 2) HB6.out (.slice va2 (K + 1) vc2))
    have HZX := Lib.hid (show (w6.setCell ⟨Bx, 2, none⟩ (.slice va2 (K + 1) vc2)).cell? ⟨Bx, 0, none⟩ = some (.slice rbo n rbc) ∧ (w6.setCell ⟨Bx, 2, none⟩ (.slice va2 (K + 1) vc2)).cell? ⟨Bx, 1, none⟩ = some (.slice dbo n dbc) ∧ (w6.setCell ⟨Bx, 2, none⟩ (.slice va2 (K + 1) vc2)).cell? ⟨Bx, 2, none⟩ = some (.slice va2 (K + 1) vc2) from ⟨by rw [cell_of_row _ _ _ _ _ _ HB7.out]; rfl, by rw [cell_of_row _ _ _ _ _ _ HB7.out]; rfl, by rw [cell_of_row _ _ _ _ _ _ HB7.out]; rfl⟩)
    have HZB := Lib.hid (show SeenI (w6.setCell ⟨Bx, 2, none⟩ (.slice va2 (K + 1) vc2)) (.slice rbo n rbc) XR ∧ SeenI (w6.setCell ⟨Bx, 2, none⟩ (.slice va2 (K + 1) vc2)) (.slice dbo n dbc) XD ∧ SeenV (w6.setCell ⟨Bx, 2, none⟩ (.slice va2 (K + 1) vc2)) (.slice va2 (K + 1) vc2) (XV ++ [⟨0, ByteArray.empty⟩]) from by
      have k1 := own_chg HOR.out HS6.out (fun g hg hm => HTB.out.rv' g hg (by simpa using hm))
      have k2 := own_chg HOD.out HS6.out (fun g hg hm => HTB.out.dv' g hg (by simpa using hm))
      refine ⟨?_, ?_, ?_⟩
      · exact seenI_of_own (own_chg k1 HST.out (fun g hg hm => (tagged_of_own k1).ne HB6.out (by decide) g hg (by simpa using hm))) HXL.out.1.symm
      · exact seenI_of_own (own_chg k2 HST.out (fun g hg hm => (tagged_of_own k2).ne HB6.out (by decide) g hg (by simpa using hm))) HXL.out.2.symm
      · refine SeenK.own V.cs_len (l := XV ++ [⟨0, ByteArray.empty⟩]) (by
          have h := own_chg HO2.out HST.out (fun g hg hm => (tagged_of_own HO2.out).ne HB6.out (by decide) g hg (by simpa using hm))
          rw [List.flatMap_append]
          exact h) (by rw [List.length_append, ← HKE.out]; rfl))
    have HCZ := Lib.hid (show Chg [] wD (w6.setCell ⟨Bx, 2, none⟩ (.slice va2 (K + 1) vc2)) from HD6.out.trans HST.out (fun t ht => .inr (by simp at ht; rw [ht]; exact hBD)))
    have HSS := Lib.hid (show ∀ k ∈ [], wD.heap.size ≤ k by simp)
    obtain ⟨wz, hwz⟩ : ∃ z, z = w6.setCell ⟨Bx, 2, none⟩ (.slice va2 (K + 1) vc2) := ⟨_, rfl⟩
    rw [← hwz] at HCZ HZB HZX
    have HSA := Lib.hid (show ∀ wx, Chg [] wz wx → Calls Try.prog 15 #[.agg #[.slice rao n rac, .slice dao n dac, .slice vao K vac], .agg #[.slice rbo n rbc, .slice dbo n dbc, .slice va2 (K + 1) vc2]] wx fun e w' => e = .returned (.bool false) ∧ Chg [] wx w' from fun wx hc => by
      obtain ⟨-, a1, a2, a3⟩ := HAK.out _ wz HCZ.out HSS.out
      obtain ⟨b1, b2, b3⟩ := HZB.out
      have h := same14_any _ _ _ _ _ _ XR XD _ _ XV _ wx (a1.keep hc) (a2.keep hc) (a3.keep hc) (b1.keep hc) (b2.keep hc) (b3.keep hc)
      rwa [decide_eq_false HNE.out] at h)
    have HSB := Lib.hid (show ∀ wx, Chg [] wz wx → Calls Try.prog 15 #[.agg #[.slice rbo n rbc, .slice dbo n dbc, .slice va2 (K + 1) vc2], .agg #[.slice rao n rac, .slice dao n dac, .slice vao K vac]] wx fun e w' => e = .returned (.bool false) ∧ Chg [] wx w' from fun wx hc => by
      obtain ⟨-, a1, a2, a3⟩ := HAK.out _ wz HCZ.out HSS.out
      obtain ⟨b1, b2, b3⟩ := HZB.out
      have h := same14_any _ _ _ _ _ _ _ _ XR XD _ XV wx (b1.keep hc) (b2.keep hc) (b3.keep hc) (a1.keep hc) (a2.keep hc) (a3.keep hc)
      rwa [decide_eq_false (fun h => HNE.out ⟨h.1.symm, h.2.1.symm, h.2.2.symm⟩)] at h)
    have HQZ := Lib.hid (show ∀ wx, Chg [] wz wx → (wx.cell? ⟨ga, 0, none⟩ = some (.slice rao n rac) ∧ wx.cell? ⟨ga, 1, none⟩ = some (.slice dao n dac) ∧ wx.cell? ⟨ga, 2, none⟩ = some (.slice vao K vac)) ∧ wx.cell? ⟨Bx, 0, none⟩ = some (.slice rbo n rbc) ∧ wx.cell? ⟨Bx, 1, none⟩ = some (.slice dbo n dbc) ∧ wx.cell? ⟨Bx, 2, none⟩ = some (.slice va2 (K + 1) vc2) from fun wx hc => by
      obtain ⟨⟨c0, c1, c2⟩, -⟩ := HAK.out _ wz HCZ.out HSS.out
      obtain ⟨d0, d1, d2⟩ := HZX.out
      exact ⟨⟨hc.cell c0 (by simp), hc.cell c1 (by simp), hc.cell c2 (by simp)⟩, hc.cell d0 (by simp), hc.cell d1 (by simp), hc.cell d2 (by simp)⟩)
    go_upto_region 21 with fail
    rw [← hwz]
    clear hwz b0 b1 b2 b2' bf bf'
    have q1 := HQZ.out wz (Chg.refl [] wz)
    have q2 := HQZ.out wz.drew (Chg.refl [] wz).drew
    have HK0 := Lib.hid (Chg.refl [] wz).drew
    go_cut [8] (fun s wx => s = .bool true ∧ Chg [] wz wx)
    case first =>
      go_region_held3 (fun w' => (w'.cell? ⟨ga, 0, none⟩ = some (.slice rao n rac) ∧ w'.cell? ⟨ga, 1, none⟩ = some (.slice dao n dac) ∧ w'.cell? ⟨ga, 2, none⟩ = some (.slice vao K vac)) ∧ w'.cell? ⟨Bx, 0, none⟩ = some (.slice rbo n rbc) ∧ w'.cell? ⟨Bx, 1, none⟩ = some (.slice dbo n dbc) ∧ w'.cell? ⟨Bx, 2, none⟩ = some (.slice va2 (K + 1) vc2)) (first | exact q1 | exact q2 | exact s1 | exact s2) (first
        | (go_simp; go_at_call 15; (with_reducible refine (HSA.out _ HK0.out).mono ?_); rintro e wx ⟨rfl, hk⟩; have HKA := Lib.hid (HK0.out.trans hk (by simp)); have s1 := HQZ.out wx HKA.out; clear hk)
        | (go_simp; go_at_call 15; (with_reducible refine (HSB.out _ HKA.out).mono ?_); rintro e wx ⟨rfl, hk⟩; have HKB := Lib.hid (HKA.out.trans hk (by simp)); have s2 := HQZ.out wx HKB.out; clear hk))
      all_goals
        try go_wp2
        go_meet
        case rel => first | exact ⟨rfl, HKB.out⟩ | exact ⟨rfl, HKB.out.drew⟩
    case rest =>
    obtain ⟨rfl, hcv⟩ := hcut
    have HCV := Lib.hid hcv
    clear hcv q1 q2
    go_wp2
    go_ret
    exact ⟨rfl, (HK4.out.trans (HCZ.out.trans HCV.out (by simp)) (fun t ht => .inr (Nat.le_trans HK4.out.size (HSS.out t ht)))).below (Nat.le_refl _) (fun k hk => Nat.le_trans HK4.out.size (HSS.out k hk))⟩
  · obtain ⟨fa, fc, hfs, hfr⟩ := run_front14 (seenI_of_own HOR.out HXL.out.1.symm) (own_room HOR.out).1 ii (by omega)
    obtain ⟨ea, ec, hes, her⟩ := run_front14 (seenI_of_own HOD.out HXL.out.2.symm) (own_room HOD.out).1 ii (by omega)
    have HFS := Lib.hid hfs; have HES := Lib.hid hes
    have bf0 := bf 0
    have bf1 := bf 1
    clear hfs hes bf
    go_upto_region 20 with fail
    go_region
    go_wp2
    have HB7 := Lib.hid (heap_set (i := 1) (heap_set (i := 0) HWB.out (.slice fa ii fc)) (.slice ea ii ec))
    have HST := Lib.hid ((((Chg.refl [Bx] wg).setCell (p := ⟨Bx, 0, none⟩) (by simp) (.slice fa ii fc)).setCell (p := ⟨Bx, 1, none⟩) (by simp) (.slice ea ii ec)).drew)
    have HNE := Lib.hid (show ¬ (XR = XR.take ii ∧ XD = XD.take ii ∧ XV = XV) from fun h => by have h1 := congrArg List.length h.1; have h2 := HXL.out.1; rw [List.length_take] at h1; omega)
    have HZX := Lib.hid (show (((wg.setCell ⟨Bx, 0, none⟩ (.slice fa ii fc)).setCell ⟨Bx, 1, none⟩ (.slice ea ii ec)).drew).cell? ⟨Bx, 0, none⟩ = some (.slice fa ii fc) ∧ (((wg.setCell ⟨Bx, 0, none⟩ (.slice fa ii fc)).setCell ⟨Bx, 1, none⟩ (.slice ea ii ec)).drew).cell? ⟨Bx, 1, none⟩ = some (.slice ea ii ec) ∧ (((wg.setCell ⟨Bx, 0, none⟩ (.slice fa ii fc)).setCell ⟨Bx, 1, none⟩ (.slice ea ii ec)).drew).cell? ⟨Bx, 2, none⟩ = some (.slice vbo K vbc) from ⟨(cell_of_row _ _ _ _ _ _ HB7.out).trans rfl, (cell_of_row _ _ _ _ _ _ HB7.out).trans rfl, (cell_of_row _ _ _ _ _ _ HB7.out).trans rfl⟩)
    have HZB := Lib.hid (show SeenI (((wg.setCell ⟨Bx, 0, none⟩ (.slice fa ii fc)).setCell ⟨Bx, 1, none⟩ (.slice ea ii ec)).drew) (.slice fa ii fc) (XR.take ii) ∧ SeenI (((wg.setCell ⟨Bx, 0, none⟩ (.slice fa ii fc)).setCell ⟨Bx, 1, none⟩ (.slice ea ii ec)).drew) (.slice ea ii ec) (XD.take ii) ∧ SeenV (((wg.setCell ⟨Bx, 0, none⟩ (.slice fa ii fc)).setCell ⟨Bx, 1, none⟩ (.slice ea ii ec)).drew) (.slice vbo K vbc) XV from by
      have k1 := own_chg HOR.out HST.out (fun g hg hm => (tagged_of_own HOR.out).ne HWB.out (by decide) g hg (by simpa using hm))
      have k2 := own_chg HOD.out HST.out (fun g hg hm => (tagged_of_own HOD.out).ne HWB.out (by decide) g hg (by simpa using hm))
      have k3 := own_chg HOV.out HST.out (fun g hg hm => (tagged_of_own HOV.out).ne HWB.out (by decide) g hg (by simpa using hm))
      obtain ⟨fa', fc', hfs, hfr'⟩ := run_front14 (seenI_of_own k1 HXL.out.1.symm) (own_room HOR.out).1 ii (by omega)
      obtain ⟨ea', ec', hes, her'⟩ := run_front14 (seenI_of_own k2 HXL.out.2.symm) (own_room HOD.out).1 ii (by omega)
      have e1 := (hfr' wg).symm.trans (hfr wg)
      have e2 := (her' wg).symm.trans (her wg)
      injection e1 with e1
      injection e2 with e2
      rw [e1] at hfs
      rw [e2] at hes
      exact ⟨hfs, hes, SeenK.own V.cs_len k3 HKE.out.symm⟩)
    have HCZ := Lib.hid (show Chg [] wD (((wg.setCell ⟨Bx, 0, none⟩ (.slice fa ii fc)).setCell ⟨Bx, 1, none⟩ (.slice ea ii ec)).drew) from HDG.out.trans HST.out (fun t ht => .inr (by simp at ht; rw [ht]; exact hBD)))
    have HSS := Lib.hid (show ∀ k ∈ [], wD.heap.size ≤ k by simp)
    obtain ⟨wz, hwz⟩ : ∃ z, z = ((wg.setCell ⟨Bx, 0, none⟩ (.slice fa ii fc)).setCell ⟨Bx, 1, none⟩ (.slice ea ii ec)).drew := ⟨_, rfl⟩
    rw [← hwz] at HCZ HZB HZX
    have HSA := Lib.hid (show ∀ wx, Chg [] wz wx → Calls Try.prog 15 #[.agg #[.slice rao n rac, .slice dao n dac, .slice vao K vac], .agg #[.slice fa ii fc, .slice ea ii ec, .slice vbo K vbc]] wx fun e w' => e = .returned (.bool false) ∧ Chg [] wx w' from fun wx hc => by
      obtain ⟨-, a1, a2, a3⟩ := HAK.out _ wz HCZ.out HSS.out
      obtain ⟨b1, b2, b3⟩ := HZB.out
      have h := same14_any _ _ _ _ _ _ XR XD _ _ XV _ wx (a1.keep hc) (a2.keep hc) (a3.keep hc) (b1.keep hc) (b2.keep hc) (b3.keep hc)
      rwa [decide_eq_false HNE.out] at h)
    have HSB := Lib.hid (show ∀ wx, Chg [] wz wx → Calls Try.prog 15 #[.agg #[.slice fa ii fc, .slice ea ii ec, .slice vbo K vbc], .agg #[.slice rao n rac, .slice dao n dac, .slice vao K vac]] wx fun e w' => e = .returned (.bool false) ∧ Chg [] wx w' from fun wx hc => by
      obtain ⟨-, a1, a2, a3⟩ := HAK.out _ wz HCZ.out HSS.out
      obtain ⟨b1, b2, b3⟩ := HZB.out
      have h := same14_any _ _ _ _ _ _ _ _ XR XD _ XV wx (b1.keep hc) (b2.keep hc) (b3.keep hc) (a1.keep hc) (a2.keep hc) (a3.keep hc)
      rwa [decide_eq_false (fun h => HNE.out ⟨h.1.symm, h.2.1.symm, h.2.2.symm⟩)] at h)
    have HQZ := Lib.hid (show ∀ wx, Chg [] wz wx → (wx.cell? ⟨ga, 0, none⟩ = some (.slice rao n rac) ∧ wx.cell? ⟨ga, 1, none⟩ = some (.slice dao n dac) ∧ wx.cell? ⟨ga, 2, none⟩ = some (.slice vao K vac)) ∧ wx.cell? ⟨Bx, 0, none⟩ = some (.slice fa ii fc) ∧ wx.cell? ⟨Bx, 1, none⟩ = some (.slice ea ii ec) ∧ wx.cell? ⟨Bx, 2, none⟩ = some (.slice vbo K vbc) from fun wx hc => by
      obtain ⟨⟨c0, c1, c2⟩, -⟩ := HAK.out _ wz HCZ.out HSS.out
      obtain ⟨d0, d1, d2⟩ := HZX.out
      exact ⟨⟨hc.cell c0 (by simp), hc.cell c1 (by simp), hc.cell c2 (by simp)⟩, hc.cell d0 (by simp), hc.cell d1 (by simp), hc.cell d2 (by simp)⟩)
    go_upto_region 21 with fail
    rw [← hwz]
    clear hwz b0 b1 b2 bf0 bf1
    have q1 := HQZ.out wz (Chg.refl [] wz)
    have q2 := HQZ.out wz.drew (Chg.refl [] wz).drew
    have HK0 := Lib.hid (Chg.refl [] wz).drew
    go_cut [8] (fun s wx => s = .bool true ∧ Chg [] wz wx)
    case first =>
      go_region_held3 (fun w' => (w'.cell? ⟨ga, 0, none⟩ = some (.slice rao n rac) ∧ w'.cell? ⟨ga, 1, none⟩ = some (.slice dao n dac) ∧ w'.cell? ⟨ga, 2, none⟩ = some (.slice vao K vac)) ∧ w'.cell? ⟨Bx, 0, none⟩ = some (.slice fa ii fc) ∧ w'.cell? ⟨Bx, 1, none⟩ = some (.slice ea ii ec) ∧ w'.cell? ⟨Bx, 2, none⟩ = some (.slice vbo K vbc)) (first | exact q1 | exact q2 | exact s1 | exact s2) (first
        | (go_simp; go_at_call 15; (with_reducible refine (HSA.out _ HK0.out).mono ?_); rintro e wx ⟨rfl, hk⟩; have HKA := Lib.hid (HK0.out.trans hk (by simp)); have s1 := HQZ.out wx HKA.out; clear hk)
        | (go_simp; go_at_call 15; (with_reducible refine (HSB.out _ HKA.out).mono ?_); rintro e wx ⟨rfl, hk⟩; have HKB := Lib.hid (HKA.out.trans hk (by simp)); have s2 := HQZ.out wx HKB.out; clear hk))
      all_goals
        try go_wp2
        go_meet
        case rel => first | exact ⟨rfl, HKB.out⟩ | exact ⟨rfl, HKB.out.drew⟩
    case rest =>
    obtain ⟨rfl, hcv⟩ := hcut
    have HCV := Lib.hid hcv
    clear hcv q1 q2
    go_wp2
    go_ret
    exact ⟨rfl, (HK4.out.trans (HCZ.out.trans HCV.out (by simp)) (fun t ht => .inr (Nat.le_trans HK4.out.size (HSS.out t ht)))).below (Nat.le_refl _) (fun k hk => Nat.le_trans HK4.out.size (HSS.out k hk))⟩

end Go.Proofs.Ytbbedkkinhccjaa
