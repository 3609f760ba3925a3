/- WireApart. -/
import Derived.Test.YthhcnlmjcpkbnaaHy
import Derived.Test.YthhcnlmjcpkbnaaHu
import Derived.Deep.RegionLaw
namespace Go.Proofs.Ythhcnlmjcpkbnaa
open Go.RowKit
set_option linter.unusedVariables false
set_option linter.unusedSimpArgs false

theorem wAll_one (fo : Fo) (t : Tr) : (wAll fo [t]).length = 1 + (wF fo t.k).length := by
  unfold wAll
  rw [show ([t] : List Tr).length = 1 from rfl, vb_lt (by decide)]
  simp; omega

theorem wF_lt : ∀ (fo : Fo) (ks : List (List Tr)), ∀ x ∈ wF fo ks, x < 256
  | .nil, ks, x, hx => by simp [wF] at hx
  | .leaf f t, ks, x, hx => by
    cases ks with
    | nil => simp [wF] at hx
    | cons l r =>
      rcases List.mem_append.1 hx with hx | hx
      · unfold wField at hx
        rcases List.mem_append.1 hx with hx | hx
        · split at hx
          · exact lw_lt _ _ x hx
          · split at hx
            · exact vb_bytes _ x hx
            · simp at hx
        · obtain ⟨t', ht, hx⟩ := List.mem_flatMap.1 hx
          unfold wLeaf at hx
          repeat' split at hx
          · exact lw_lt _ _ x hx
          · exact lw_lt _ _ x hx
          · exact lw_lt _ _ x hx
          · rcases List.mem_append.1 hx with hx | hx
            · exact vb_bytes _ x hx
            · obtain ⟨b, -, rfl⟩ := List.mem_map.1 hx
              exact b.toNat_lt
      · exact wF_lt t r x hx
  | .group f k t, ks, x, hx => by
    cases ks with
    | nil => simp [wF] at hx
    | cons l r =>
      rcases List.mem_append.1 hx with hx | hx
      · unfold wField at hx
        rcases List.mem_append.1 hx with hx | hx
        · split at hx
          · exact lw_lt _ _ x hx
          · split at hx
            · exact vb_bytes _ x hx
            · simp at hx
        · obtain ⟨t', ht, hx⟩ := List.mem_flatMap.1 hx
          exact wF_lt k t'.k x hx
      · exact wF_lt t r x hx

theorem wAll_lt (fo : Fo) (L : List Tr) : ∀ x ∈ wAll fo L, x < 256 := by
  intro x hx
  unfold wAll at hx
  rcases List.mem_append.1 hx with hx | hx
  · exact vb_bytes _ x hx
  · obtain ⟨t, -, hx⟩ := List.mem_flatMap.1 hx
    exact wF_lt fo t.k x hx

theorem bl_str9 {l : List Nat} (h : ∀ c ∈ l, c < 2 ^ 8) : bl (str l) = l := by
  unfold bl str
  rw [List.map_map]
  conv => rhs; rw [← List.map_id l]
  apply List.map_congr_left
  intro x hx
  have := h x hx
  simp
  omega

theorem toList_inj9 {a b : ByteArray} (h : a.toList = b.toList) : a = b := by
  rw [ByteArray.toList_eq, ByteArray.toList_eq] at h
  cases a; cases b
  simp at h
  rw [h]

theorem mk_small (ns : List Int) (l : List F) (hl : l = mk ns) : ∀ f ∈ l, f.n.size ≤ 1000 := fun f hf => by
  have := (mk_ok ns).n f (by rw [← hl]; exact hf)
  omega

set_option maxRecDepth 100000 in
set_option maxHeartbeats 8000000 in
theorem walk_WireApart (a0 : Option Addr) (len0 cap0 : Nat) (z0 : List Int) (a1 : Option Addr) (len1 cap1 : Nat) (z1 : List Int) (a2 : Option Addr) (len2 cap2 : Nat) (z2 : List Int) (w : World) (w0 : IsRow .i64 w a0 len0 cap0 z0) (w1 : IsRow .i64 w a1 len1 cap1 z1) (w2 : IsRow .i64 w a2 len2 cap2 z2) :
    Calls Try.prog 15 #[.slice a0 len0 cap0, .slice a1 len1 cap1, .slice a2 len2 cap2] w fun e w' => e = .returned (.bool true) ∧ Below w.heap.size w w' := by
  obtain ⟨ns, hS, hlen, hwf⟩ := w0.seenI
  obtain ⟨ra, hS2, hlen2, hwf2⟩ := w1.seenI
  obtain ⟨rb, hS3, hlen3, hwf3⟩ := w2.seenI
  obtain ⟨r0, fo, m1, m2, m3, m4, m5⟩ := mk_wf ns
  obtain ⟨m6, x1, x2, x3, x4, x5, x6⟩ := made_fits ns ra hwf2 r0 fo m1 m2 m3 m4
  obtain ⟨-, y1, y2, y3, y4, y5, y6⟩ := made_fits ns rb hwf3 r0 fo m1 m2 m3 m4
  have HS := Lib.hid hS; have HWF := Lib.hid hwf; have HS2 := Lib.hid hS2; have HWF2 := Lib.hid hwf2; have HS3 := Lib.hid hS3; have HWF3 := Lib.hid hwf3
  have hmk := mk_ok ns
  obtain ⟨l, hl⟩ : ∃ l, l = mk ns := ⟨_, rfl⟩
  rw [← hl] at m1 x1 x2 x3 x4 x5 x6 y1 y2 y3 y4 y5 y6 hmk
  have HL := Lib.hid hl
  have hln := hmk.le
  have hlp : 1 ≤ l.length := hmk.pos
  have HFC := Lib.hid (show ∀ f ∈ l, f.c ≤ 9223372036854775807 from fun f hf => by have := hmk.c f hf; omega)
  obtain ⟨X, hX⟩ : ∃ T, T = mk8 l ra := ⟨_, rfl⟩
  obtain ⟨Y, hY⟩ : ∃ T, T = mk8 l rb := ⟨_, rfl⟩
  rw [← hX] at x1 x2 x3 x4 x5 x6
  rw [← hY] at y1 y2 y3 y4 y5 y6
  have HX := Lib.hid hX; have HY := Lib.hid hY
  have hxe : wAll fo [X] = wAll fo [Y] → X = Y := fun e => by
    have e1 := pAll_back fo [X] m4 m6 (show 1 ≤ 200 by decide) (by intro t ht; simp at ht; subst ht; exact ⟨x1, x2, x3, x4⟩)
    have e2 := pAll_back fo [Y] m4 m6 (show 1 ≤ 200 by decide) (by intro t ht; simp at ht; subst ht; exact ⟨y1, y2, y3, y4⟩)
    rw [e, e2] at e1
    simpa using e1.symm
  have HXE := Lib.hid hxe
  have HNM := Lib.hid (show ∀ f ∈ l, f.n.size ≤ 1000 from mk_small ns l hl)
  have hBX := fun (D : Nat) (wx : World) (sv lv : Value) (hs : SeenF wx sv l) (hL : ListAt wx D [X] lv) => bytes_any sv lv l r0 fo [X] D wx hs m1 m2 m5 m3 m4 (by omega) HFC.out HNM.out hL (by intro t ht; simp at ht; subst ht; exact x5) (by intro t ht; simp at ht; subst ht; exact x4) (by rw [wAll_one]; omega)
  have hBY := fun (D : Nat) (wx : World) (sv lv : Value) (hs : SeenF wx sv l) (hL : ListAt wx D [Y] lv) => bytes_any sv lv l r0 fo [Y] D wx hs m1 m2 m5 m3 m4 (by omega) HFC.out HNM.out hL (by intro t ht; simp at ht; subst ht; exact y5) (by intro t ht; simp at ht; subst ht; exact y4) (by rw [wAll_one]; omega)
  obtain ⟨BX, hBX0⟩ : ∃ b, b = wAll fo [X] := ⟨_, rfl⟩
  obtain ⟨BY, hBY0⟩ : ∃ b, b = wAll fo [Y] := ⟨_, rfl⟩
  rw [← hBX0] at hBX
  rw [← hBY0] at hBY
  rw [← hBX0, ← hBY0] at HXE
  have HLX := Lib.hid (show ∀ x ∈ BX, x < 2 ^ 8 by rw [hBX0]; exact wAll_lt fo [X])
  have HLY := Lib.hid (show ∀ x ∈ BY, x < 2 ^ 8 by rw [hBY0]; exact wAll_lt fo [Y])
  have HBX := Lib.hid hBX; have HBY := Lib.hid hBY
  have HXY := Lib.hid (show X = Y → BX = BY from fun e => by rw [hBX0, hBY0, e])
  clear hS hwf hlen hS2 hwf2 hlen2 hS3 hwf3 hlen3 m1 m2 m3 m4 m5 m6 x1 x2 x3 x4 x5 x6 y1 y2 y3 y4 y5 y6 hmk hl hX hY hxe hBX hBY hBX0 hBY0 w0 w1 w2
  go_enter Try.func15, Try.ntmps15
  go_wp2_with fail
  (with_reducible refine (known9_any _).mono ?_)
  rintro e wA ⟨rfl, hk⟩
  have HK1 := Lib.hid hk
  clear hk
  go_wp2_with fail
  (with_reducible refine (make_any _ ns _ (HS.out.keep HK1.out) HWF.out).mono ?_)
  rintro e wB ⟨sv, rfl, hown, hk⟩
  rw [← HL.out] at hown
  have hSv := SeenF.own hown rfl
  obtain ⟨sa, sc, rfl⟩ := own_shape hown
  have HSF := Lib.hid hSv
  have HK2 := Lib.hid (HK1.out.trans hk (by simp))
  clear hown hSv hk
  go_wp2_with fail
  (with_reducible refine (make8_any _ _ l ra _ HSF.out (HS2.out.keep HK2.out) hlp (by omega) HFC.out HWF2.out).mono ?_)
  rintro e wC ⟨kx, rfl, hkx, hk⟩
  rw [← HX.out] at hkx ⊢
  have hkxa := hkx.at
  obtain ⟨xo, xcap, rfl, -, -⟩ := hkxa.shape
  have HK3 := Lib.hid (HK2.out.trans hk (by simp))
  have HKX := Lib.hid hkxa
  have HSF3 := Lib.hid (HSF.out.keep hk)
  clear hkx hkxa hk
  go_wp2_with fail
  (with_reducible refine (make8_any _ _ l rb _ HSF3.out (HS3.out.keep HK3.out) hlp (by omega) HFC.out HWF3.out).mono ?_)
  rintro e wD ⟨ky, rfl, hky, hk⟩
  rw [← HY.out] at hky ⊢
  have hkya := hky.at
  obtain ⟨yo, ycap, rfl, -, -⟩ := hkya.shape
  have HK4 := Lib.hid (HK3.out.trans hk (by simp))
  have HKY := Lib.hid hkya
  have HKX4 := Lib.hid (HKX.out.keep hk)
  have HSF4 := Lib.hid (HSF3.out.keep hk)
  clear hky hkya hk
  obtain ⟨b, hb⟩ : ∃ b, b = wD.heap.size := ⟨_, rfl⟩
  obtain ⟨W, hW⟩ : ∃ W, W = (wD.alloc (.cells #[.int .i64 X.n, .string X.s, .slice xo X.k.length xcap] 30)).alloc (.cells #[.int .i64 Y.n, .string Y.s, .slice yo Y.k.length ycap] 30) := ⟨_, rfl⟩
  have HKW := Lib.hid (show Chg [] w W by rw [hW]; exact (HK4.out.alloc _).alloc _)
  have hb1 : W.heap[b]? = some (.cells #[.int .i64 X.n, .string X.s, .slice xo X.k.length xcap] 30 (0, 0)) := by rw [hW]; exact hl_old (hl_new hb)
  have hb2 : W.heap[b + 1]? = some (.cells #[.int .i64 Y.n, .string Y.s, .slice yo Y.k.length ycap] 30 (0, 0)) := by rw [hW]; exact hl_new (by rw [hb]; simp)
  have hCW : Chg [] wD W := by rw [hW]; exact ((Chg.refl [] wD).alloc _).alloc _
  have HSW := Lib.hid (HSF4.out.keep hCW)
  have HXW := Lib.hid (HKX4.out.keep hCW)
  have HYW := Lib.hid (HKY.out.keep hCW)
  have HBB := Lib.hid hb; have HWW := Lib.hid hW
  have HB1 := Lib.hid hb1; have HB2 := Lib.hid hb2
  obtain ⟨D, hD⟩ : ∃ D, D = l.length := ⟨_, rfl⟩
  rw [← hD] at HXW HYW
  have c10 : W.cell? ⟨b, 0, none⟩ = some (.int .i64 X.n) := by rw [cell_of_row W b 0 _ _ _ hb1]; rfl
  have c11 : W.cell? ⟨b, 1, none⟩ = some (.string X.s) := by rw [cell_of_row W b 1 _ _ _ hb1]; rfl
  have c12 : W.cell? ⟨b, 2, none⟩ = some (.slice xo X.k.length xcap) := by rw [cell_of_row W b 2 _ _ _ hb1]; rfl
  have c20 : W.cell? ⟨b + 1, 0, none⟩ = some (.int .i64 Y.n) := by rw [cell_of_row W (b + 1) 0 _ _ _ hb2]; rfl
  have c21 : W.cell? ⟨b + 1, 1, none⟩ = some (.string Y.s) := by rw [cell_of_row W (b + 1) 1 _ _ _ hb2]; rfl
  have c22 : W.cell? ⟨b + 1, 2, none⟩ = some (.slice yo Y.k.length ycap) := by rw [cell_of_row W (b + 1) 2 _ _ _ hb2]; rfl
  -- a list of one record, laid in a block
  have HLX1 := Lib.hid (show ∀ (wx : World) (g : Nat), Chg [] W wx → wx.heap[g]? = some (.cells #[.int .i64 X.n, .string X.s, .slice xo X.k.length xcap] 30 (0, 0)) → ListAt wx D [X] (.slice (some ⟨g, 0, none⟩) 1 1) from fun wx g hk hg => listAt_one (by rw [cell_of_row wx g 0 _ _ _ hg]; rfl) (by rw [cell_of_row wx g _ _ _ _ hg]; rfl) (by rw [cell_of_row wx g _ _ _ _ hg]; rfl) (HXW.out.keep hk) (by decide) (by decide))
  have HLY1 := Lib.hid (show ∀ (wx : World) (g : Nat), Chg [] W wx → wx.heap[g]? = some (.cells #[.int .i64 Y.n, .string Y.s, .slice yo Y.k.length ycap] 30 (0, 0)) → ListAt wx D [Y] (.slice (some ⟨g, 0, none⟩) 1 1) from fun wx g hk hg => listAt_one (by rw [cell_of_row wx g 0 _ _ _ hg]; rfl) (by rw [cell_of_row wx g _ _ _ _ hg]; rfl) (by rw [cell_of_row wx g _ _ _ _ hg]; rfl) (HYW.out.keep hk) (by decide) (by decide))
  have HGX := Lib.hid (show ∀ (wx : World) (g : Nat), Chg [] W wx → wx.heap[g]? = some (.cells #[.int .i64 X.n, .string X.s, .slice xo X.k.length xcap] 30 (0, 0)) → Calls Try.prog 45 #[.slice sa l.length sc, .slice (some ⟨g, 0, none⟩) 1 1] wx fun e w' => ∃ ao ac, e = .returned (.slice ao BX.length ac) ∧ Seen w' (.slice ao BX.length ac) (nv .u8 BX) ∧ Chg [] wx w' from fun wx g hk hg => by
    refine (HBX.out D wx _ _ (HSW.out.keep hk) (HLX1.out wx g hk hg)).mono ?_
    rintro e w' ⟨x, rfl, hc, ho⟩
    obtain ⟨ao, ac, rfl⟩ := own_shape ho
    exact ⟨ao, ac, rfl, (reads_of_own ho).seen, hc⟩)
  have HGY := Lib.hid (show ∀ (wx : World) (g : Nat), Chg [] W wx → wx.heap[g]? = some (.cells #[.int .i64 Y.n, .string Y.s, .slice yo Y.k.length ycap] 30 (0, 0)) → Calls Try.prog 45 #[.slice sa l.length sc, .slice (some ⟨g, 0, none⟩) 1 1] wx fun e w' => ∃ ao ac, e = .returned (.slice ao BY.length ac) ∧ Seen w' (.slice ao BY.length ac) (nv .u8 BY) ∧ Chg [] wx w' from fun wx g hk hg => by
    refine (HBY.out D wx _ _ (HSW.out.keep hk) (HLY1.out wx g hk hg)).mono ?_
    rintro e w' ⟨x, rfl, hc, ho⟩
    obtain ⟨ao, ac, rfl⟩ := own_shape ho
    exact ⟨ao, ac, rfl, (reads_of_own ho).seen, hc⟩)
  have e10 : ∀ o, (W.alloc o).cell? ⟨b, 0, none⟩ = some (.int .i64 X.n) := fun o => ((Chg.refl [] W).alloc o).cell c10 (by simp)
  have e11 : ∀ o, (W.alloc o).cell? ⟨b, 1, none⟩ = some (.string X.s) := fun o => ((Chg.refl [] W).alloc o).cell c11 (by simp)
  have e12 : ∀ o, (W.alloc o).cell? ⟨b, 2, none⟩ = some (.slice xo X.k.length xcap) := fun o => ((Chg.refl [] W).alloc o).cell c12 (by simp)
  have e20 : ∀ o, (W.alloc o).cell? ⟨b + 1, 0, none⟩ = some (.int .i64 Y.n) := fun o => ((Chg.refl [] W).alloc o).cell c20 (by simp)
  have e21 : ∀ o, (W.alloc o).cell? ⟨b + 1, 1, none⟩ = some (.string Y.s) := fun o => ((Chg.refl [] W).alloc o).cell c21 (by simp)
  have e22 : ∀ o, (W.alloc o).cell? ⟨b + 1, 2, none⟩ = some (.slice yo Y.k.length ycap) := fun o => ((Chg.refl [] W).alloc o).cell c22 (by simp)
  have HB2C := Lib.hid (And.intro c20 (And.intro c21 c22))
  have HB1C := Lib.hid (And.intro c10 (And.intro c11 c12))
  clear hb hW hb1 hb2 hCW hD
  go_upto_region 5 with fail
  rw [← HWW.out, ← HBB.out]
  go_cut [10, 11] (fun s10 s11 wx => ∃ ao ac bo bc, s10 = .slice ao BX.length ac ∧ s11 = .slice bo BY.length bc ∧ Seen wx (.slice ao BX.length ac) (nv .u8 BX) ∧ Seen wx (.slice bo BY.length bc) (nv .u8 BY) ∧ Chg [] W wx)
  case first =>
    go_region_law (first
      | (go_simp; go_at_call 45; (with_reducible refine (HGX.out _ _ ?_ ?_).mono ?_); (focus (with_reducible repeat (first | exact Chg.refl _ _ | refine Chg.drew ?_ | refine Chg.drewN ?_ _ | refine Chg.alloc ?_ _))); (focus ((with_reducible repeat (first | refine hl_drew ?_ | exact hl_new (by simp) | refine hl_old ?_)); done)); rintro e wt ⟨ao, ac, rfl, hsx, hkt⟩; have hct : Chg [] W wt := Chg.trans (by (with_reducible repeat (first | exact Chg.refl _ _ | refine Chg.drew ?_ | refine Chg.drewN ?_ _ | refine Chg.alloc ?_ _))) hkt (by simp); have d20 := hct.cell HB2C.out.1 (by simp); have d21 := hct.cell HB2C.out.2.1 (by simp); have d22 := hct.cell HB2C.out.2.2 (by simp); have HKT := Lib.hid hkt; have HCT := Lib.hid hct; have HSX := Lib.hid hsx; clear hkt hct hsx)
      | (go_simp; go_at_call 45; (with_reducible refine (HGY.out _ _ ?_ ?_).mono ?_); (focus (with_reducible repeat (first | exact HCT.out | refine Chg.drew ?_ | refine Chg.drewN ?_ _ | refine Chg.alloc ?_ _))); (focus ((with_reducible repeat (first | refine hl_drew ?_ | exact hl_new (by simp) | refine hl_old ?_ | refine hl_chg HKT.out ?_)); done)); rintro e wu ⟨bo, bc, rfl, hsy, hku⟩; have hcu : Chg [] wt wu := Chg.trans (by (with_reducible repeat (first | exact Chg.refl _ _ | refine Chg.drew ?_ | refine Chg.drewN ?_ _ | refine Chg.alloc ?_ _))) hku (by simp); have HSX2 := Lib.hid (HSX.out.keep hcu); have HSY := Lib.hid hsy; have HCU := Lib.hid (HCT.out.trans hcu (by simp)); clear hku hcu hsy))
    all_goals
      go_wp2_with fail
      go_meet
      exact ⟨ao, ac, bo, bc, rfl, rfl, HSX2.out, HSY.out, HCU.out⟩
  case rest =>
    obtain ⟨ao, ac, bo, bc, rfl, rfl, hsx, hsy, hcw⟩ := hcut
    have hcx := cvp hsx rfl rfl HLX.out
    have hcy := cvp hsy rfl rfl HLY.out
    have HCW := Lib.hid hcw
    have f10 : wc.cell? ⟨b, 0, none⟩ = some (.int .i64 X.n) := hcw.cell HB1C.out.1 (by simp)
    have f11 : wc.cell? ⟨b, 1, none⟩ = some (.string X.s) := hcw.cell HB1C.out.2.1 (by simp)
    have f12 : wc.cell? ⟨b, 2, none⟩ = some (.slice xo X.k.length xcap) := hcw.cell HB1C.out.2.2 (by simp)
    have f20 : wc.cell? ⟨b + 1, 0, none⟩ = some (.int .i64 Y.n) := hcw.cell HB2C.out.1 (by simp)
    have f21 : wc.cell? ⟨b + 1, 1, none⟩ = some (.string Y.s) := hcw.cell HB2C.out.2.1 (by simp)
    have f22 : wc.cell? ⟨b + 1, 2, none⟩ = some (.slice yo Y.k.length ycap) := hcw.cell HB2C.out.2.2 (by simp)
    obtain ⟨t, ht⟩ : ∃ t : Bool, (t = true ↔ X = Y) := by
      by_cases h : X = Y
      · exact ⟨true, by simp [h]⟩
      · exact ⟨false, by simp [h]⟩
    have hstr : (str BX = str BY) ↔ X = Y := ⟨fun e => HXE.out (by
      have h := congrArg bl e
      rw [bl_str9 HLX.out, bl_str9 HLY.out] at h
      exact h), fun e => by rw [HXY.out e]⟩
    have hs1 : ((str BX).toList == (str BY).toList) = t := by
      cases t
      · exact beq_false_of_ne fun e => absurd (ht.2 (hstr.1 (toList_inj9 e))) (by decide)
      · have := hstr.2 (ht.1 rfl); rw [this]; exact beq_self_eq_true _
    have HTR := Lib.hid (show ∀ (wx : World) (g1 g2 : Nat), Chg [] W wx → wx.heap[g1]? = some (.cells #[.int .i64 X.n, .string X.s, .slice xo X.k.length xcap] 30 (0, 0)) → wx.heap[g2]? = some (.cells #[.int .i64 Y.n, .string Y.s, .slice yo Y.k.length ycap] 30 (0, 0)) → Calls Try.prog 48 #[.slice (some ⟨g1, 0, none⟩) 1 1, .slice (some ⟨g2, 0, none⟩) 1 1] wx fun e w' => e = .returned (.bool t) ∧ Chg [] wx w' from fun wx g1 g2 hk h1 h2 => by
      refine (rtrees_any D [X] [Y] _ _ wx (HLX1.out wx g1 hk h1) (HLY1.out wx g2 hk h2)).mono ?_
      rintro e w' ⟨⟨r, rfl, hr⟩, hc⟩
      have : r = t := by
        have h1 : r = true ↔ t = true := by rw [hr, ht]; simp
        cases r <;> cases t <;> simp at h1 ⊢
      rw [this]
      exact ⟨rfl, hc⟩)
    have HSF := Lib.hid (show ∀ w', Chg [] wc w' → w'.cell? ⟨b, 0, none⟩ = some (.int .i64 X.n) ∧ w'.cell? ⟨b, 1, none⟩ = some (.string X.s) ∧ w'.cell? ⟨b, 2, none⟩ = some (.slice xo X.k.length xcap) ∧ w'.cell? ⟨b + 1, 0, none⟩ = some (.int .i64 Y.n) ∧ w'.cell? ⟨b + 1, 1, none⟩ = some (.string Y.s) ∧ w'.cell? ⟨b + 1, 2, none⟩ = some (.slice yo Y.k.length ycap) ∧ (convert 67 9 (.slice ao BX.length ac)).run Try.prog w' = .ok (.string (str BX)) w' ∧ (convert 67 9 (.slice bo BY.length bc)).run Try.prog w' = .ok (.string (str BY)) w' from fun w' hk => ⟨hk.cell f10 (by simp), hk.cell f11 (by simp), hk.cell f12 (by simp), hk.cell f20 (by simp), hk.cell f21 (by simp), hk.cell f22 (by simp), hcx w' (Lib.hid hk), hcy w' (Lib.hid hk)⟩)
    have HW2 := Lib.hid (HKW.out.trans hcw (by simp))
    have HTT := Lib.hid ht
    clear hstr ht hcw hcx hcy f10 f11 f12 f20 f21 f22
    go_upto_region 6 with fail
    go_region_held3 (fun w' => w'.cell? ⟨b, 0, none⟩ = some (.int .i64 X.n) ∧ w'.cell? ⟨b, 1, none⟩ = some (.string X.s) ∧ w'.cell? ⟨b, 2, none⟩ = some (.slice xo X.k.length xcap) ∧ w'.cell? ⟨b + 1, 0, none⟩ = some (.int .i64 Y.n) ∧ w'.cell? ⟨b + 1, 1, none⟩ = some (.string Y.s) ∧ w'.cell? ⟨b + 1, 2, none⟩ = some (.slice yo Y.k.length ycap) ∧ (convert 67 9 (.slice ao BX.length ac)).run Try.prog w' = .ok (.string (str BX)) w' ∧ (convert 67 9 (.slice bo BY.length bc)).run Try.prog w' = .ok (.string (str BY)) w') (exact HSF.out _ (by with_reducible repeat (first | exact HC3.out | exact Chg.refl _ _ | refine Chg.drew ?_ | refine Chg.drewN ?_ _ | refine Chg.alloc ?_ _))) (first
      | (go_at_call 48; (with_reducible refine (HTR.out _ _ _ ?_ ?_ ?_).mono ?_); (focus (with_reducible repeat (first | exact HCW.out | refine Chg.drew ?_ | refine Chg.drewN ?_ _ | refine Chg.alloc ?_ _))); (focus ((with_reducible repeat (first | refine hl_drew ?_ | exact hl_new (by simp) | refine hl_old ?_)); done)); (focus ((with_reducible repeat (first | refine hl_drew ?_ | exact hl_new (by simp) | refine hl_old ?_)); done)); rintro e wz ⟨rfl, hkz⟩; have HC3 := Lib.hid (show Chg [] wc wz from Chg.trans (by (with_reducible repeat (first | exact Chg.refl _ _ | refine Chg.drew ?_ | refine Chg.drewN ?_ _ | refine Chg.alloc ?_ _))) hkz (by simp)); clear hkz))
    all_goals
      go_wp2
      go_ret
      exact ⟨by simp, (HW2.out.trans HC3.out (by simp)).below (Nat.le_refl _) (by simp)⟩

end Go.Proofs.Ythhcnlmjcpkbnaa
