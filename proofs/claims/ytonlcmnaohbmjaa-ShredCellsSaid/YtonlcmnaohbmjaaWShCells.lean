/- ShredCells. -/
import Derived.Test.YtonlcmnaohbmjaaSho
import Derived.Test.YtonlcmnaohbmjaaShq
import Derived.Test.YtonlcmnaohbmjaaRm
namespace Go.Proofs.Ytonlcmnaohbmjaa
open Go.RowKit
set_option linter.unusedVariables false
set_option linter.unusedSimpArgs false

theorem filter_take {C : List Cl} {p : Cl → Bool} {i : Nat} {c : Cl} (h : C[i]? = some c) : ((C.take (i + 1)).filter p).length = ((C.take i).filter p).length + (if p c = true then 1 else 0) := by
  rw [List.take_add_one, h, List.filter_append, List.length_append]
  congr 1
  by_cases hp : p c = true
  · simp [hp]
  · simp [hp]

set_option maxRecDepth 100000 in
set_option maxHeartbeats 4000000 in
theorem walk_ShredCells (a0 : Option Addr) (len0 cap0 : Nat) (z0 : List Int) (a1 : Option Addr) (len1 cap1 : Nat) (rs : List (List Int)) (w : World) (w0 : IsRow .i64 w a0 len0 cap0 z0) (w1 : RowsI w (.slice a1 len1 cap1) rs) :
    Calls Try.prog 5 #[.slice a0 len0 cap0, .slice a1 len1 cap1] w fun e w' => e = .returned (.bool true) ∧ Below w.heap.size w w' := by
  obtain ⟨ns, hS, hlen, hwf⟩ := w0.seenI
  have HS := Lib.hid hS; have HWF := Lib.hid hwf; have HR := Lib.hid w1
  clear w0 hS hwf hlen
  have hmk := mk_ok ns
  obtain ⟨l, hl⟩ : ∃ l, l = mk ns := ⟨_, rfl⟩
  have HL := Lib.hid hl
  obtain ⟨TS, hTS⟩ : ∃ TS, TS = (rs.take 16).map (mk8 l) := ⟨_, rfl⟩
  have hTl : TS.length ≤ 16 := by rw [hTS, List.length_map, List.length_take]; omega
  have HLM := Lib.hid (show ∀ t ∈ TS, ∃ r, t = mk8 (mk ns) r from fun t ht => by rw [hTS, hl] at ht; obtain ⟨r, -, rfl⟩ := List.mem_map.1 ht; exact ⟨r, rfl⟩)
  have hln := hmk.le
  have hlp := hmk.pos
  rw [← hl] at hmk hln hlp
  have HFC := Lib.hid (show ∀ f ∈ l, f.c ≤ 9223372036854775807 from fun f hf => by have := hmk.c f hf; omega)
  have HMK := Lib.hid (show ∀ wx sv, SeenF wx sv l → Chg [] w wx → Calls Try.prog 15 #[sv, .slice a1 len1 cap1] wx fun e w' => ∃ lv, e = .returned lv ∧ ListIn (wx.heap.size ≤ ·) w' l.length TS lv ∧ Chg [] wx w' from fun wx sv hs hk => by
    rw [hTS]
    exact many_any sv (.slice a1 len1 cap1) l rs wx hs (HR.out.keep hk) hlp (by omega) HFC.out)
  have HCM := Lib.hid (show ∀ sv lv wx, SeenF wx sv l → ListAt wx l.length TS lv → _ from fun sv lv wx hs hL => columns_made sv lv ns TS l.length wx (by rw [← hl]; exact hs) hL HLM.out hTl)
  have HRL := Lib.hid (show ∀ sv wx, SeenF wx sv l → _ from fun sv wx hs => rleaves_any sv l wx hs (by omega) HFC.out)
  obtain ⟨m, hm⟩ : ∃ m, m = TS.length := ⟨_, rfl⟩
  have HM := Lib.hid hm
  obtain ⟨N, hN⟩ : ∃ N, N = (leavesL (mk ns)).length := ⟨_, rfl⟩
  have hNl : N ≤ 1000 := by have h := leavesTo_le (mk ns) (mk ns).length; rw [hN]; unfold leavesL; rw [hl] at hln; omega
  have HNN := Lib.hid hN
  rw [← hN] at HCM
  have q1 : ((N : Int) != (N : Int)) = false := by simp
  clear w1 hmk hl hTS hm hN
  go_enter Try.func5, Try.ntmps5
  go_wp2_with fail
  refine (known14_any _).mono ?_
  rintro e wA ⟨rfl, hk⟩
  have HK1 := Lib.hid hk
  clear hk
  go_wp2_with fail
  refine (make_any _ ns _ (HS.out.keep HK1.out) HWF.out).mono ?_
  rintro e wB ⟨sv, rfl, hown, hk⟩
  rw [← HL.out] at hown
  have hSv := SeenF.own hown rfl
  obtain ⟨sa, sc, rfl⟩ := own_shape hown
  have HSF := Lib.hid hSv
  have HK2 := Lib.hid (HK1.out.trans hk (by simp))
  clear hown hSv hk
  go_wp2_with fail
  refine (HMK.out wB _ HSF.out HK2.out).mono ?_
  rintro e wC ⟨lv, rfl, hli, hk⟩
  have hla := hli.at
  obtain ⟨lo, lc, rfl, hlc1, hlc2⟩ := hla.shape
  rw [← HM.out] at hla hlc1 ⊢
  have HLV := Lib.hid hla
  have HK3 := Lib.hid (HK2.out.trans hk (by simp)); have HSF3 := Lib.hid (HSF.out.keep hk)
  clear hli hk hla
  go_wp2_with fail
  refine (HCM.out _ _ wC HSF3.out HLV.out).mono ?_
  rintro e wD ⟨gc, R, rfl, hk, hJ⟩
  have HK4 := Lib.hid (HK3.out.trans hk (by simp)); have HSF4 := Lib.hid (HSF3.out.keep hk)
  have HJ := Lib.hid hJ
  clear hk hJ
  go_wp2_with fail
  refine (HRL.out _ wD HSF4.out).mono ?_
  rintro e wE ⟨fv, rfl, hsl, hk⟩
  rw [HL.out] at hsl
  obtain ⟨fo, fc, rfl, hfl1, hfl2⟩ := hsl.shape
  have HSL := Lib.hid hsl
  rw [← HNN.out] at hfl1 HSL ⊢
  have HDE := Lib.hid hk
  have HK5 := Lib.hid (HK4.out.trans hk (by simp))
  clear hsl hk
  go_wp2
  go_loopw [10] (fun x w' => ∃ k : Nat, x = .int .i64 (k : Int) ∧ k ≤ N ∧ Chg [] wE w') (fun x _ => N - (intOf x).toNat)
  case atStart => exact ⟨0, rfl, Nat.zero_le _, Chg.refl _ _⟩
  case round =>
    obtain ⟨k, rfl, hkN, hc⟩ := hrel
    have HCR := Lib.hid hc
    clear hc
    by_cases hlt : k < N
    · have dk : decide ((k : Int) < (N : Int)) = true := by simp; omega
      obtain ⟨lf, hlf⟩ : ∃ lf, (leavesL (mk ns))[k]? = some lf := ⟨_, List.getElem?_eq_getElem (by rw [← HNN.out]; exact hlt)⟩
      obtain ⟨W, hW⟩ : ∃ W, (lways (mk ns))[k]? = some W := ⟨_, List.getElem?_eq_getElem (by rw [lways_len, ← HNN.out]; exact hlt)⟩
      obtain ⟨⟨rv, dv, vv, b1, b2⟩, -, ⟨ht, -, -⟩, -, c0, c1, c2⟩ := HJ.out.get hlt hlf hW
      simp only at ht c0 c1 c2
      obtain ⟨lv1, lv2⟩ := leaf_levels ns hlf hW
      obtain ⟨C, hC⟩ : ∃ C, C = colC W TS := ⟨_, rfl⟩
      have hlev : ∀ x ∈ C, x.r ≤ many2 W ∧ x.d ≤ manyD W := fun x hx => by
        rw [hC] at hx
        obtain ⟨t, -, hx⟩ := List.mem_flatMap.1 hx
        have := cells_levels W 0 0 0 t (Nat.le_refl _) x hx
        omega
      have hn4 : C.length ≤ 4000 := by rw [hC]; exact ((made_cols ns TS HLM.out hTl).2 W (List.mem_of_getElem? hW)).2.2
      have hbeg : (C.filter fun c => decide (c.r = 0)).length = m := by rw [hC, col_begins, HM.out]
      have hfst : 0 < m → ∃ c rest, C = c :: rest ∧ c.r = 0 := fun h => by
        cases hT : TS with
        | nil => rw [HM.out, hT] at h; cases h
        | cons t T => rw [hC, hT]; exact col_first W t T
      rw [← hC] at ht
      obtain ⟨ro, rc, rfl⟩ := own_shape ht.r
      obtain ⟨dso, dc, rfl⟩ := own_shape ht.d
      obtain ⟨vo, vc, rfl⟩ := own_shape ht.v
      have hrI := seenI_of_own ht.r (by simp)
      have hdI := seenI_of_own ht.d (by simp)
      obtain ⟨K, hK⟩ : ∃ K, K = (colV lf.d C).length := ⟨_, rfl⟩
      have hKf : K = (C.filter fun c => decide ((c.d : Int) = lf.d)).length := by rw [hK]; unfold colV; rw [List.length_map]
      rw [← hK] at c2
      obtain ⟨n, hn⟩ : ∃ n, n = C.length := ⟨_, rfl⟩
      rw [← hn] at c0 c1 hrI hdI hn4
      obtain ⟨mr, hmr⟩ : ∃ mr, mr = many2 W := ⟨_, rfl⟩
      obtain ⟨md, hmd⟩ : ∃ md, md = manyD W := ⟨_, rfl⟩
      rw [← hmr] at lv1 hlev
      rw [← hmd] at lv2 hlev
      rw [lv2] at hKf
      have HCDR := Lib.hid (HDE.out.trans HCR.out (by simp))
      replace c0 := HCDR.out.cell c0 (by simp); replace c1 := HCDR.out.cell c1 (by simp); replace c2 := HCDR.out.cell c2 (by simp)
      obtain ⟨fg, foff, rfl, hcs⟩ := SeenK.at HSL.out (by omega)
      obtain ⟨-, l1, l2, -⟩ := SeenL.cells hcs hlf
      rw [lv1] at l1
      rw [lv2] at l2
      have HL1 := Lib.hid (HCR.out.cell l1 (by simp)); have HL2 := Lib.hid (HCR.out.cell l2 (by simp))
      have HRI := Lib.hid hrI; have HDI := Lib.hid hdI; have HCN := Lib.hid hn; have HLEV := Lib.hid hlev
      obtain ⟨bg, hbg⟩ : ∃ bg : Nat → Nat, bg = fun i => ((C.take i).filter fun c => decide (c.r = 0)).length := ⟨_, rfl⟩
      obtain ⟨wh, hwh⟩ : ∃ wh : Nat → Nat, wh = fun i => ((C.take i).filter fun c => decide ((c.d : Int) = (md : Int))).length := ⟨_, rfl⟩
      have HB0 := Lib.hid (show bg 0 = 0 ∧ wh 0 = 0 by rw [hbg, hwh]; simp)
      have HBS := Lib.hid (show ∀ i c, C[i]? = some c → bg (i + 1) = bg i + (if c.r = 0 then 1 else 0) ∧ wh (i + 1) = wh i + (if c.d = md then 1 else 0) from fun i c h => by
        rw [hbg, hwh]
        simp only
        rw [filter_take h, filter_take h]
        constructor
        · by_cases e : c.r = 0 <;> simp [e]
        · by_cases e : c.d = md
          · simp [e]
          · have e2 : ¬ ((c.d : Int) = (md : Int)) := by omega
            simp [e, e2])
      have HBN := Lib.hid (show bg n = m ∧ wh n = K by rw [hbg, hwh, hn]; simp only [List.take_length]; exact ⟨hbeg, hKf.symm⟩)
      have HBL := Lib.hid (show ∀ i, bg i ≤ i ∧ wh i ≤ i from fun i => by
        rw [hbg, hwh]
        simp only
        have h1 := List.length_filter_le (fun c : Cl => decide (c.r = 0)) (C.take i)
        have h2 := List.length_filter_le (fun c : Cl => decide ((c.d : Int) = (md : Int))) (C.take i)
        rw [List.length_take] at h1 h2
        omega)
      have HFST := Lib.hid hfst
      have q2 : ((n : Int) != (n : Int)) = false := by simp
      have q3 : ((m : Int) != (m : Int)) = false := by simp
      have q4 : ((K : Int) != (K : Int)) = false := by simp
      clear hlev hbeg hfst ht hK hKf hn hmr hmd lv1 lv2 l1 l2 hcs hrI hdI hbg hwh hC hlf hW
      obtain ⟨b, hb⟩ : ∃ b, b = wr.heap.size := ⟨_, rfl⟩
      obtain ⟨wb, hwb⟩ : ∃ z, z = wr.alloc (.cells #[.slice ro n rc, .slice dso n dc, .slice vo K vc] 47) := ⟨_, rfl⟩
      have hcb : Chg [] wr wb := by rw [hwb]; exact (Chg.refl [] wr).alloc _
      have hkb : wb.heap[b]? = some (.cells #[.slice ro n rc, .slice dso n dc, .slice vo K vc] 47 (0, 0)) := by rw [hwb, hb]; exact heap_alloc_new wr _
      have HCB := Lib.hid hcb; have HWB := Lib.hid hwb
      have HBX := Lib.hid (show ∀ wx, Chg [] wb wx → wx.cell? ⟨b, 0, none⟩ = some (.slice ro n rc) ∧ wx.cell? ⟨b, 1, none⟩ = some (.slice dso n dc) ∧ wx.cell? ⟨b, 2, none⟩ = some (.slice vo K vc) from fun wx hc => by
        have h1 := hc.heap hkb (by simp)
        exact ⟨by rw [cell_of_row wx b 0 _ _ _ h1]; rfl, by rw [cell_of_row wx b 1 _ _ _ h1]; rfl, by rw [cell_of_row wx b 2 _ _ _ h1]; rfl⟩)
      clear hcb hkb hwb
      go_upto_region 13 with fail
      rw [← hb, ← HWB.out]
      obtain ⟨x0, x1, x2⟩ := HBX.out wb (Chg.refl _ _)
      clear hb c0 c1 c2
      have hcase : m = 0 ∨ 0 < m ∧ 0 < n := by
        rcases Nat.eq_zero_or_pos m with h | h
        · exact .inl h
        · obtain ⟨c, rest, e, -⟩ := HFST.out h
          exact .inr ⟨h, by rw [HCN.out, e]; simp⟩
      have hm0 : (m = 0) ∨ ((0 < m ∧ (0 : Int) < (m : Int) ∧ (0 : Int) < (n : Int) ∧ ¬ n = 0) ∧ ((n : Int) == 0) = false ∧ 0 < n ∧ ∃ gr or', ro = some ⟨gr, or', none⟩ ∧ wb.cell? ⟨gr, or', none⟩ = some (.int .i64 0)) := by
        rcases hcase with h | ⟨h, hn0⟩
        · exact .inl h
        · obtain ⟨c, rest, e, h0⟩ := HFST.out h
          obtain ⟨gr, or', rfl, hh⟩ := SeenI.get (HRI.out.keep (HCDR.out.trans HCB.out (by simp))) (by omega) (by rw [colR_length, ← HCN.out])
          have h9 := hh 0 (by omega)
          rw [e] at h9
          exact .inr ⟨⟨h, by omega, by omega, by omega⟩, by simp; omega, hn0, gr, or', rfl, by simpa [colR, h0] using h9⟩
      clear hcase
      rcases hm0 with rfl | ⟨⟨hm1, hm2, hm3, hm4⟩, dn, hn0, gr0, or0, rfl, r0⟩
      all_goals
        go_wp2
        clear x0 x1 x2
        try clear r0 dn hn0 hm1 hm2 hm3 hm4
        go_loopw [12, 13, 14] (fun x y z w' => ∃ i : Nat, i ≤ n ∧ z = .int .i64 (i : Int) ∧ x = .int .i64 (bg i : Int) ∧ y = .int .i64 (wh i : Int) ∧ Chg [] wb w') (fun _ _ z _ => n - (intOf z).toNat)
        case atStart => exact ⟨0, Nat.zero_le _, rfl, by rw [HB0.out.1]; rfl, by rw [HB0.out.2]; rfl, Chg.refl _ _⟩
        case round =>
          obtain ⟨i, hi, rfl, rfl, rfl, hci⟩ := hrel
          have HCI := Lib.hid hci
          obtain ⟨x0, x1, x2⟩ := HBX.out _ hci
          have HCF := Lib.hid (HCB.out.trans hci (by simp))
          clear hci
          by_cases hil : i < n
          · have di : decide ((i : Int) < (n : Int)) = true := by simp; omega
            obtain ⟨c, hcc⟩ : ∃ c, C[i]? = some c := ⟨_, List.getElem?_eq_getElem (by rw [← HCN.out]; exact hil)⟩
            obtain ⟨g1, o1, ee1, hh1⟩ := SeenI.get (HRI.out.keep (HCDR.out.trans HCF.out (by simp))) (by omega) (by rw [colR_length, ← HCN.out])
            cases ee1
            obtain ⟨g2, o2, ee2, hh2⟩ := SeenI.get (HDI.out.keep (HCDR.out.trans HCF.out (by simp))) (by omega) (by rw [colD_length, ← HCN.out])
            cases ee2
            have v1 := hh1 i hil
            have v2 := hh2 i hil
            rw [show (colR C).getD i 0 = (c.r : Int) by simp [colR, List.getD, hcc]] at v1
            rw [show (colD C).getD i 0 = (c.d : Int) by simp [colD, List.getD, hcc]] at v2
            obtain ⟨lr, ld⟩ := HLEV.out c (List.mem_of_getElem? hcc)
            obtain ⟨sb, sw⟩ := HBS.out i c hcc
            obtain ⟨cr, hcr⟩ : ∃ z, z = c.r := ⟨_, rfl⟩
            obtain ⟨cd, hcd⟩ : ∃ z, z = c.d := ⟨_, rfl⟩
            rw [← hcr] at v1 lr sb
            rw [← hcd] at v2 ld sw
            have l1 := HCF.out.cell HL1.out (by simp)
            have l2 := HCF.out.cell HL2.out (by simp)
            have SB := Lib.hid sb; have SW := Lib.hid sw
            have t1 : ¬ mr < cr := by omega
            have t2 : ¬ md < cd := by omega
            have t3 : ¬ (cr : Int) < 0 := by omega
            have t4 : ¬ (cd : Int) < 0 := by omega
            have t5 : ¬ (mr : Int) < (cr : Int) := by omega
            have t6 : ¬ (md : Int) < (cd : Int) := by omega
            obtain ⟨hb1, hb2⟩ := HBL.out i
            clear hh1 hh2 sb sw hcr hcd hcc
            have hn1 : IntKind.i64.wrap ((bg i : Int) + 1) = ((bg i + 1 : Nat) : Int) := by rw [show (bg i : Int) + 1 = ((bg i + 1 : Nat) : Int) by omega]; exact IntWalk.i64_in _ (by omega)
            have hn2 : IntKind.i64.wrap ((wh i : Int) + 1) = ((wh i + 1 : Nat) : Int) := by rw [show (wh i : Int) + 1 = ((wh i + 1 : Nat) : Int) by omega]; exact IntWalk.i64_in _ (by omega)
            have hcs1 : (cr = 0 ∧ ((cr : Int) == 0) = true ∧ bg (i + 1) = bg i + 1) ∨ (¬ cr = 0 ∧ ((cr : Int) == 0) = false ∧ bg (i + 1) = bg i) := by
              by_cases e : cr = 0
              · exact .inl ⟨e, by simp; omega, by rw [SB.out, if_pos e]⟩
              · exact .inr ⟨e, by simp; omega, by rw [SB.out, if_neg e]; rfl⟩
            have hcs2 : (cd = md ∧ ((cd : Int) == (md : Int)) = true ∧ wh (i + 1) = wh i + 1) ∨ (¬ cd = md ∧ ((cd : Int) == (md : Int)) = false ∧ wh (i + 1) = wh i) := by
              by_cases e : cd = md
              · exact .inl ⟨e, by simp; omega, by rw [SW.out, if_pos e]⟩
              · exact .inr ⟨e, by simp; omega, by rw [SW.out, if_neg e]; rfl⟩
            clear SB SW lr ld
            go_wp2_with fail
            go_quiet (fail)
            rcases hcs1 with ⟨e1, z1, s1⟩ | ⟨e1, z1, s1⟩
            all_goals
              rcases hcs2 with ⟨e2, z2, s2⟩ | ⟨e2, z2, s2⟩
            all_goals
              have S1 := Lib.hid s1; have S2 := Lib.hid s2
              clear s1 s2 e1 e2 t1 t2 t3 t4 t5 t6
              go_wp2_with fail
              go_quiet (fail)
              go_wp2
              go_roundw
            all_goals first
              | (case' measure => simp [intOf]; omega)
              | skip
            all_goals
              exact ⟨i + 1, by omega, by go_num, by rw [S1.out] <;> first | rfl | go_num, by rw [S2.out] <;> first | rfl | go_num, by first | exact (HCI.out.drewN _).drewN _ | exact HCI.out.drewN _⟩
          · have ein : i = n := by omega
            subst ein
            have di : decide ((i : Int) < (i : Int)) = false := by simp
            have hBN := HBN.out
            rw [hBN.1, hBN.2]
            go_wp2
            go_roundw
            case rel => exact ⟨k + 1, by go_num, by omega, HCR.out.trans HCF.out (by simp)⟩
            case measure => simp [intOf]; omega
    · have dk : decide ((k : Int) < (N : Int)) = false := by simp; omega
      go_wp2
      go_ret
      exact ⟨rfl, (HK5.out.trans HCR.out (by simp)).below (Nat.le_refl _) (by simp)⟩

end Go.Proofs.Ytonlcmnaohbmjaa
