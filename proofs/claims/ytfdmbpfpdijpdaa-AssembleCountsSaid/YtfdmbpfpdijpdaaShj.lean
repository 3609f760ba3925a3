/- shred.Columns, the walk. -/
import Derived.Test.YtfdmbpfpdijpdaaShi
import Derived.Test.YtfdmbpfpdijpdaaAnl
namespace Go.Proofs.Ytfdmbpfpdijpdaa
open Go.RowKit
set_option linter.unusedVariables false
set_option linter.unusedSimpArgs false

set_option maxRecDepth 100000 in
set_option maxHeartbeats 4000000 in
theorem columns_any (sv lv : Value) (l : List F) (L0 : List Tr) (d : Nat) (w : World) (hS : SeenF w sv l) (hL : ListAt w d L0 lv) (h1 : 1 ≤ l.length) (hl : l.length ≤ 1000) (hw : ∀ f ∈ l, f.c ≤ 9223372036854775807) (hn : ∀ f ∈ l, f.n.size ≤ 1000) (hr : ∀ f ∈ l, f.r = 0 ∨ f.r = 1 ∨ f.r = 2)
    (hok : faultT l L0 = 0 → ∀ W ∈ lways l, (∀ t ∈ L0, WayOk W t) ∧ ∀ x ∈ colC W L0, x.t.s.size ≤ 281474976710656) :
    Calls Try.prog 31 #[sv, lv] w (ColsOut l L0 w) := by
  obtain ⟨i1, ji, jz0, jz1, jz2⟩ := info_col
  obtain ⟨lo, lc, rfl, hl1, hl2⟩ := hL.shape
  have HFA := Lib.hid (sfault_any sv (.slice lo L0.length lc) l L0 d w hS hL hw hn)
  have HLV := Lib.hid (fun wz hc => leaves_any sv l wz (hS.keep hc) (by omega) hw)
  have HWY := Lib.hid (fun wz hc => waysOf_any sv l wz (hS.keep hc) h1 hl hw hr)
  have HX := Lib.hid hL; have HOK := Lib.hid hok; have HNL := Lib.hid hl
  obtain ⟨v, hv⟩ : ∃ v, v = faultT l L0 := ⟨_, rfl⟩
  have HV := Lib.hid hv
  rw [← hv] at HFA HOK
  obtain ⟨m, hm⟩ : ∃ m, m = L0.length := ⟨_, rfl⟩
  have HM := Lib.hid hm
  rw [← hm] at hl1 HX HFA ⊢
  have hmx : m ≤ 9223372036854775807 := by unfold maxLen at hl2; omega
  clear hS hL hw hn hr hok hv hm
  by_cases h2 : 200 < m
  · go_enter Try.func31, Try.ntmps31
    go_wp2
    go_ret2
    exact ⟨Chg.refl [] w, by rw [if_pos (by rw [← HM.out]; exact h2)]; rfl⟩
  have h2b : m ≤ 200 := by omega
  go_enter Try.func31, Try.ntmps31
  go_wp2_with fail
  (with_reducible refine HFA.out.mono ?_)
  rintro e w1 ⟨rfl, hk⟩
  have HC1 := Lib.hid hk
  clear hk
  by_cases hv0 : v = 0
  rotate_left
  · have e1 : (v != 0) = true := by simpa using hv0
    go_wp2
    go_ret2
    exact ⟨HC1.out, by rw [if_neg (by rw [← HM.out]; omega), if_pos (by rw [← HV.out]; exact hv0), ← HV.out]; rfl⟩
  subst hv0
  have HOK2 := Lib.hid (HOK.out rfl)
  clear HOK HFA
  go_wp2_with fail
  (with_reducible refine (HLV.out w1 HC1.out).mono ?_)
  rintro e w2 ⟨lfv, rfl, hsl, hk2⟩
  have HSL := Lib.hid hsl
  have HC2 := Lib.hid (HC1.out.trans hk2 (by simp))
  obtain ⟨fo, fc, rfl, hfl1, hfl2⟩ := hsl.shape
  clear hsl hk2
  go_wp2_with fail
  (with_reducible refine (HWY.out w2 HC2.out).mono ?_)
  rintro e w3 ⟨wv, rfl, hk3, R2, hR2, hwk, hws⟩
  have HC3 := Lib.hid (HC2.out.trans hk3 (by simp))
  replace HSL := Lib.hid (SeenK.keep HSL.out hk3)
  have hR2l : R2.length = l.length := by have h := congrArg List.length hR2; rw [List.length_map, wayTo_len] at h; exact h
  have HR2 := Lib.hid hR2; have HWK := Lib.hid hwk; have HWS := Lib.hid hws
  obtain ⟨wo, wc, rfl, hwl1, hwl2⟩ := hwk.shape
  obtain ⟨n, hnn⟩ : ∃ n, n = l.length := ⟨_, rfl⟩
  have HN := Lib.hid hnn
  rw [hR2l, ← hnn] at hwl1 HWK
  rw [hR2l, ← hnn]
  have hn1 : 1 ≤ n := by omega
  have hn2 : n ≤ 1000 := by omega
  obtain ⟨N, hN⟩ : ∃ N, N = (leavesL l).length := ⟨_, rfl⟩
  have HNN := Lib.hid hN
  have hNn : N ≤ n := by rw [hN, hnn]; exact leavesTo_le l l.length
  rw [← hN] at HSL hfl1 ⊢
  have hNm : N ≤ maxLen := by unfold maxLen; omega
  clear hk3 hR2 hwk hws hR2l hnn hN h1 hl
  go_wp2_with (at_make; refine wpList_make_full _ rfl _ _ 30 rfl w3.heap.size 42 i1 (.agg #[.slice none 0 0, .slice none 0 0, .slice none 0 0]) 3 Try.underlying30 ji jz0 jz1 .i64 .i64 _ _ N rfl rfl rfl rfl ?c1 ?c2 (Nat.le_refl _) ?_)
  case c1 => rw [jz2]; omega
  case c2 => exact hNm
  intro w4 hown1 hg1
  have hlt1 : w3.heap.size < w4.heap.size := (hown1.lt w3.heap.size rfl).2
  rw [cells_cols] at hown1
  have HB1 := Lib.hid (blk_of_own3 hown1 rfl)
  have HC4 := Lib.hid ((Chg.refl [] w3).grown hg1 (by simp))
  clear hown1 hg1
  obtain ⟨gc, hgc⟩ : ∃ g, g = w3.heap.size := ⟨_, rfl⟩
  rw [← hgc] at HB1 hlt1 ⊢
  have hgw : w.heap.size ≤ gc := by rw [hgc]; exact HC3.out.size
  have hgc3 : w3.heap.size ≤ gc := by rw [hgc]; exact Nat.le_refl _
  clear hgc
  have HCW := Lib.hid (HC3.out.trans HC4.out (by simp))
  go_wp2
  go_loopw [32] (fun x w' => ∃ (i : Nat) (R : List C3), x = .int .i64 (i : Int) ∧ i ≤ N ∧ Chg [] w3 w' ∧ CJ (leavesL l) (lways l) L0 w w' gc N i R ∧ ∀ j W, j < i → (lways l)[j]? = some W → (colC W L0).length ≤ 4000) (fun x _ => N - (intOf x).toNat)
  case atStart =>
    exact ⟨0, List.replicate N C3.nil, rfl, Nat.zero_le _, HC4.out, ⟨by simp, HB1.out, fun j e hj => by omega, fun j k _ _ _ hk => by omega, fun j _ hj => by rw [List.getElem?_replicate, if_pos hj], HCW.out, hgw, hlt1⟩, fun j W hj => by omega⟩
  case round =>
    obtain ⟨i, R, rfl, hiN, hcr, hJ, hall⟩ := hrel
    have HJ := Lib.hid hJ; have HALL := Lib.hid hall; have HCR := Lib.hid hcr
    clear hJ hall hcr
    by_cases hlt : i < N
    · obtain ⟨x, hx⟩ : ∃ x, (leavesL l)[i]? = some x := ⟨_, List.getElem?_eq_getElem (by rw [← HNN.out]; exact hlt)⟩
      obtain ⟨k, hkn, hxk⟩ := leaf_field (List.mem_of_getElem? hx)
      rw [← HN.out] at hkn
      have hWx := lways_at hx hxk
      obtain ⟨W, hWd⟩ : ∃ W, W = (wayTo l l.length).getD k [] := ⟨_, rfl⟩
      rw [← hWd] at hWx
      obtain ⟨hokT, hokS⟩ := HOK2.out W (List.mem_of_getElem? hWx)
      have hWs : W.length ≤ 1000 := by have := wayTo_short2 (l := l) (i := l.length) (q := k) (W := W) hWd.symm; have := HN.out; omega
      obtain ⟨⟨W', pv⟩, hp⟩ : ∃ p, R2[k]? = some p := ⟨_, List.getElem?_eq_getElem (by have h := congrArg List.length HR2.out; rw [List.length_map, wayTo_len] at h; rw [h, ← HN.out]; exact hkn)⟩
      have hp1 : W' = W := by have h := congrArg (·[k]?) HR2.out; simp only [List.getElem?_map, hp] at h; rw [hWd, List.getD, ← h]; rfl
      subst hp1
      have hpi := HWS.out _ (List.mem_of_getElem? hp)
      simp only at hpi
      obtain ⟨po, pc, rfl, -, -⟩ := hpi.shape
      obtain ⟨xf, xr, xd, xk⟩ := x
      simp only at hxk
      subst hxk
      obtain ⟨fg, foff, rfl, hcs⟩ := SeenK.at HSL.out (by omega)
      obtain ⟨a0, a1, a2, a3⟩ := SeenL.cells hcs hx
      simp only at a0 a1 a2 a3
      replace a0 := HCR.out.cell a0 (by simp); replace a1 := HCR.out.cell a1 (by simp); replace a2 := HCR.out.cell a2 (by simp); replace a3 := HCR.out.cell a3 (by simp)
      obtain ⟨wg, woff, rfl, hcw⟩ := SeenK.at HWK.out (by omega)
      obtain ⟨pn, hpn⟩ : ∃ pn, pn = (plc W').length := ⟨_, rfl⟩
      obtain ⟨sg, hsg⟩ : ∃ sg, sg = str (sgs W') := ⟨_, rfl⟩
      have x0 : wr.cell? ⟨wg, woff + k * 2, none⟩ = some (.slice po pn pc) := by rw [hpn]; exact HCR.out.cell (hcw k _ 0 _ hp rfl) (by simp)
      have x1 : wr.cell? ⟨wg, woff + k * 2 + 1, none⟩ = some (.string sg) := by rw [hsg]; exact HCR.out.cell (hcw k _ 1 _ hp rfl) (by simp)
      obtain ⟨ok, hok⟩ : ∃ b, b = decide ((colC W' L0).length ≤ 4000) := ⟨_, rfl⟩
      have HCO := Lib.hid (show ∀ wz, Chg [] wr wz → Calls Try.prog 60 #[.agg #[.int .i64 (k : Int), .int .i64 xr, .int .i64 xd, .int .i64 xk], .agg #[.slice po pn pc, .string sg], .slice lo m lc] wz fun e w' => ∃ ro rn rc dso dn dc vo vn vc, e = .returned (.tuple #[.agg #[.slice ro rn rc, .slice dso dn dc, .slice vo vn vc], .bool ok]) ∧ Chg [] wz w' ∧ (ok = true → Tri wz.heap.size (.slice ro rn rc) (.slice dso dn dc) (.slice vo vn vc) (colR (colC W' L0)) (colD (colC W' L0)) (colV xd (colC W' L0)) (colC W' L0).length (colC W' L0).length (colV xd (colC W' L0)).length w') from fun wz hc => by
        have hcc := HC3.out.trans (HCR.out.trans hc (by simp)) (by simp)
        have hpz := (hpi.keep (HCR.out.trans hc (by simp)))
        rw [← hpn] at hpz
        have h := column_any ⟨(k : Int), xr, xd, xk⟩ _ _ W' L0 d wz (HX.out.keep hcc) hpz hWs hokT hokS
        rw [← hsg] at h
        refine h.mono ?_
        rintro e w' ⟨hc', hh⟩
        by_cases hq : (colC W' L0).length ≤ 4000
        · rw [if_pos hq] at hh
          obtain ⟨rv, dv, vv, rfl, ht⟩ := hh
          obtain ⟨ro, rc, rfl⟩ := own_shape ht.r
          obtain ⟨dso, dc, rfl⟩ := own_shape ht.d
          obtain ⟨vo, vc, rfl⟩ := own_shape ht.v
          exact ⟨ro, _, rc, dso, _, dc, vo, _, vc, by rw [hok, decide_eq_true hq], hc', fun _ => ht⟩
        · rw [if_neg hq] at hh
          exact ⟨none, 0, 0, none, 0, 0, none, 0, 0, by rw [hh, hok, decide_eq_false hq], hc', fun e => by rw [hok, decide_eq_false hq] at e; cases e⟩)
      have HOKD := Lib.hid hok; have HLX := Lib.hid hx; have HWX := Lib.hid hWx
      clear hok hx hWx hWd hokT hokS hWs hp hpi hcs hcw hpn hsg
      have hwgw : wg < wr.heap.size := World.block_lt_of_cell? _ _ x1
      obtain ⟨Ad, hAd⟩ : ∃ z, z = (wr.alloc (.cells #[.int .i64 (k : Int), .int .i64 xr, .int .i64 xd, .int .i64 xk] 52)).drew := ⟨_, rfl⟩
      obtain ⟨bw, hbwE⟩ : ∃ z, z = wr.heap.size := ⟨_, rfl⟩
      have hcA : Chg [] wr Ad := by rw [hAd]; exact ((Chg.refl [] wr).alloc _).drew
      have hAs : Ad.heap.size = bw + 1 := by rw [hAd, hbwE]; show (wr.heap.push _).size = _; simp
      have hbwc : Ad.heap[bw]? = some (.cells #[.int .i64 (k : Int), .int .i64 xr, .int .i64 xd, .int .i64 xk] 52 (0, 0)) := by rw [hAd, hbwE]; exact heap_alloc_new wr _
      have y0 : Ad.cell? ⟨bw, 0, none⟩ = some (.int .i64 (k : Int)) := by rw [cell_of_row Ad bw 0 _ _ _ hbwc]; rfl
      have y1 : Ad.cell? ⟨bw, 1, none⟩ = some (.int .i64 xr) := by rw [cell_of_row Ad bw 1 _ _ _ hbwc]; rfl
      have y2 : Ad.cell? ⟨bw, 2, none⟩ = some (.int .i64 xd) := by rw [cell_of_row Ad bw 2 _ _ _ hbwc]; rfl
      have y3 : Ad.cell? ⟨bw, 3, none⟩ = some (.int .i64 xk) := by rw [cell_of_row Ad bw 3 _ _ _ hbwc]; rfl
      have y4 := hcA.cell x0 (by simp)
      have y5 := hcA.cell x1 (by simp)
      let SS : Bool → Bool → World → Prop := fun _ _ w' => w'.cell? ⟨bw, 0, none⟩ = some (.int .i64 (k : Int)) ∧ w'.cell? ⟨bw, 1, none⟩ = some (.int .i64 xr) ∧ w'.cell? ⟨bw, 2, none⟩ = some (.int .i64 xd) ∧ w'.cell? ⟨bw, 3, none⟩ = some (.int .i64 xk) ∧ w'.cell? ⟨wg, woff + k * 2, none⟩ = some (.slice po pn pc) ∧ w'.cell? ⟨wg, woff + k * 2 + 1, none⟩ = some (.string sg)
      have HBL := Lib.hid (show bw < Ad.heap.size ∧ wg < Ad.heap.size by omega)
      have HSG := Lib.hid (show ∀ (L1 L2 : Array Bool) wa wb T, SL SS 30 30 L1 wa → Chg T wa wb → (∀ q ∈ T, Ad.heap.size ≤ q) → SL SS 30 30 L2 wb from fun L1 L2 wa wb T h hc hT => by
        have hn : ∀ z, z < Ad.heap.size → z ∉ T := fun z hz hm => by have := hT z hm; omega
        exact ⟨hc.cell h.1 (hn _ HBL.out.1), hc.cell h.2.1 (hn _ HBL.out.1), hc.cell h.2.2.1 (hn _ HBL.out.1), hc.cell h.2.2.2.1 (hn _ HBL.out.1), hc.cell h.2.2.2.2.1 (hn _ HBL.out.2), hc.cell h.2.2.2.2.2 (hn _ HBL.out.2)⟩)
      have HSC := Lib.hid (show ∀ (L1 L2 : Array Bool) wa wb, SL SS 30 30 L1 wa → Chg [] wa wb → SL SS 30 30 L2 wb from fun L1 L2 wa wb h hc => HSG.out L1 L2 wa wb [] h hc (by simp))
      have hHeld0 : SL SS 30 30 (Array.replicate 14 false) Ad := ⟨y0, y1, y2, y3, y4, y5⟩
      have HCA := Lib.hid (Chg.refl [] Ad)
      have HC0 := Lib.hid hcA
      have HADE := Lib.hid hAd; have HBWE := Lib.hid hbwE
      clear hAd hbwE hcA hAs hbwc y0 y1 y2 y3 y4 y5
      go_upto_region 11 with fail
      rename_i K8 hK8
      refine region_L SS 30 30 (by kernel_rfl) ?_
      rw [← HBWE.out, ← HADE.out]
      clear x0 x1 a0 a1 a2 a3
      refine wpAnyL_take (i := 0) (oi := _) (v := ?_) false rfl (by kernel_rfl) (fun _ _ _ h => h) (Or.inl ⟨by rfl, ?_⟩) hHeld0 (fun hHeld1 => ?_)
      rotate_left
      · rintro w ⟨b1, b2, hok, hSw⟩; have h0 := hSw.1; have h1 := hSw.2.1; have h2 := hSw.2.2.1; have h3 := hSw.2.2.2.1; go_simp; (try with_reducible rfl)
      clear hHeld0
      try simp only [List.getElem_toArray, List.getElem_cons_succ, List.getElem_cons_zero, Act.put, List.setIfInBounds_toArray, List.set_cons_zero, List.set_cons_succ]
      refine wpAnyL_take (i := 1) (oi := _) (v := ?_) false rfl (by kernel_rfl) (fun _ _ _ h => h) (Or.inl ⟨by rfl, ?_⟩) hHeld1 (fun hHeld2 => ?_)
      rotate_left
      · rintro w ⟨b1, b2, hok, hSw⟩; go_simp; (try with_reducible rfl)
      clear hHeld1
      try simp only [List.getElem_toArray, List.getElem_cons_succ, List.getElem_cons_zero, Act.put, List.setIfInBounds_toArray, List.set_cons_zero, List.set_cons_succ]
      refine wpAnyL_take (i := 2) (oi := _) (v := ?_) false rfl (by kernel_rfl) (fun _ _ _ h => h) (Or.inl ⟨by rfl, ?_⟩) hHeld2 (fun hHeld3 => ?_)
      rotate_left
      · rintro w ⟨b1, b2, hok, hSw⟩; go_simp; (try with_reducible rfl)
      clear hHeld2
      try simp only [List.getElem_toArray, List.getElem_cons_succ, List.getElem_cons_zero, Act.put, List.setIfInBounds_toArray, List.set_cons_zero, List.set_cons_succ]
      refine wpAnyL_take (i := 3) (oi := _) (v := ?_) false rfl (by kernel_rfl) (fun _ _ _ h => h) (Or.inl ⟨by rfl, ?_⟩) hHeld3 (fun hHeld4 => ?_)
      rotate_left
      · rintro w ⟨b1, b2, hok, hSw⟩; have h0 := hSw.1; go_simp; (try with_reducible rfl)
      clear hHeld3
      try simp only [List.getElem_toArray, List.getElem_cons_succ, List.getElem_cons_zero, Act.put, List.setIfInBounds_toArray, List.set_cons_zero, List.set_cons_succ]
      refine wpAnyL_take (i := 4) (oi := _) (v := ?_) false rfl (by kernel_rfl) (fun _ _ _ h => h) (Or.inl ⟨by rfl, ?_⟩) hHeld4 (fun hHeld5 => ?_)
      rotate_left
      · rintro w ⟨b1, b2, hok, hSw⟩; go_simp; (try with_reducible rfl)
      clear hHeld4
      try simp only [List.getElem_toArray, List.getElem_cons_succ, List.getElem_cons_zero, Act.put, List.setIfInBounds_toArray, List.set_cons_zero, List.set_cons_succ]
      refine wpAnyL_take (i := 5) (oi := _) (v := ?_) false rfl (by kernel_rfl) (fun _ _ _ h => h) (Or.inl ⟨by rfl, ?_⟩) hHeld5 (fun hHeld6 => ?_)
      rotate_left
      · rintro w ⟨b1, b2, hok, hSw⟩; have h0 := hSw.2.2.2.2.1; have h1 := hSw.2.2.2.2.2; go_simp; (try with_reducible rfl)
      clear hHeld5
      try simp only [List.getElem_toArray, List.getElem_cons_succ, List.getElem_cons_zero, Act.put, List.setIfInBounds_toArray, List.set_cons_zero, List.set_cons_succ]
      refine wpAnyL_take (i := 6) (oi := _) (v := ?_) false rfl (by kernel_rfl) (fun _ _ _ h => h) (Or.inl ⟨by rfl, ?_⟩) hHeld6 (fun hHeld7 => ?_)
      rotate_left
      · rintro w ⟨b1, b2, hok, hSw⟩; go_simp; (try with_reducible rfl)
      clear hHeld6
      try simp only [List.getElem_toArray, List.getElem_cons_succ, List.getElem_cons_zero, Act.put, List.setIfInBounds_toArray, List.set_cons_zero, List.set_cons_succ]
      refine wpAnyL_ready (rs := [7, 11]) (by kernel_rfl) (by simp) ?_
      refine AllReadyL.cons (o := _) rfl (fun K hK => ?_) ?_
      · go_simp
        go_at_call 60
        (with_reducible refine (HCO.out Ad (HC0.out.trans HCA.out (by simp))).mono ?_)
        rintro e w1 ⟨ro, rn, rc, dso, dn, dc, vo, vn, vc, rfl, hc1, ht1⟩
        refine hK.out _ _ (HSC.out _ _ _ _ hHeld7 hc1) (fun hHeld8 => ?_)
        clear hK K hHeld7
        try simp only [List.getElem_toArray, List.getElem_cons_succ, List.getElem_cons_zero, Act.put, List.setIfInBounds_toArray, List.set_cons_zero, List.set_cons_succ]
        have HT1 := Lib.hid ht1
        replace HCA := Lib.hid (HCA.out.trans hc1 (by simp))
        have HBB := Lib.hid (Nat.le_refl Ad.heap.size)
        have hs1 := hc1.size
        clear hc1 ht1
        refine wpAnyL_take (i := 8) (oi := _) (v := ?_) false rfl (by kernel_rfl) (fun _ _ _ h => h) (Or.inl ⟨by rfl, ?_⟩) hHeld8 (fun hHeld9 => ?_)
        rotate_left
        · rintro w ⟨b1, b2, hok, hSw⟩; go_simp; (try with_reducible rfl)
        clear hHeld8
        try simp only [List.getElem_toArray, List.getElem_cons_succ, List.getElem_cons_zero, Act.put, List.setIfInBounds_toArray, List.set_cons_zero, List.set_cons_succ]
        refine wpAnyL_take (i := 9) (oi := _) (v := ?_) false rfl (by kernel_rfl) (fun _ _ _ h => h) (Or.inl ⟨by rfl, ?_⟩) hHeld9 (fun hHeld10 => ?_)
        rotate_left
        · rintro w ⟨b1, b2, hok, hSw⟩; go_simp; (try with_reducible rfl)
        clear hHeld9
        try simp only [List.getElem_toArray, List.getElem_cons_succ, List.getElem_cons_zero, Act.put, List.setIfInBounds_toArray, List.set_cons_zero, List.set_cons_succ]
        refine wpAnyL_take (i := 10) (oi := _) (v := ?_) false rfl (by kernel_rfl) (fun _ _ _ h => h) (Or.inl ⟨by rfl, ?_⟩) hHeld10 (fun hHeld11 => ?_)
        rotate_left
        · rintro w ⟨b1, b2, hok, hSw⟩; go_simp; (try with_reducible rfl)
        clear hHeld10
        try simp only [List.getElem_toArray, List.getElem_cons_succ, List.getElem_cons_zero, Act.put, List.setIfInBounds_toArray, List.set_cons_zero, List.set_cons_succ]
        refine wpAnyL_ready (rs := [11]) (by kernel_rfl) (by simp) ?_
        refine AllReadyL.cons (o := _) rfl (fun K hK => ?_) AllReadyL.nil
        go_simp
        refine hK.out _ _ (HSC.out _ _ _ _ hHeld11 ((Chg.refl [] w1).alloc _)) (fun hHeld12 => ?_)
        clear hK K hHeld11
        try simp only [List.getElem_toArray, List.getElem_cons_succ, List.getElem_cons_zero, Act.put, List.setIfInBounds_toArray, List.set_cons_zero, List.set_cons_succ]
        have hkc : (w1.alloc (.cells #[.slice none 0 0, .slice none 0 0, .slice none 0 0] 42)).heap[w1.heap.size]? = some (.cells #[.slice none 0 0, .slice none 0 0, .slice none 0 0] 42 (0, 0)) := heap_alloc_new w1 _
        obtain ⟨bc, hbc⟩ : ∃ g, g = w1.heap.size := ⟨_, rfl⟩
        rw [← hbc] at hkc ⊢
        obtain ⟨w2, hw2⟩ : ∃ z, z = w1.alloc (.cells #[.slice none 0 0, .slice none 0 0, .slice none 0 0] 42) := ⟨_, rfl⟩
        rw [← hw2] at hkc hHeld12 ⊢
        have hsw2 : w2.heap.size = bc + 1 := by rw [hw2, hbc]; simp
        have HCS := Lib.hid (show Chg [] w1 w2 by rw [hw2]; exact (Chg.refl [] w1).alloc _)
        clear hw2
        have HBC := Lib.hid (show Ad.heap.size ≤ bc ∧ (ok = true → ∀ g, (Value.slice ro rn rc).ownBlock = some g ∨ (Value.slice dso dn dc).ownBlock = some g ∨ (Value.slice vo vn vc).ownBlock = some g → ¬ g = bc) from ⟨by omega, fun e g hg eg => by
          have ht := HT1.out e
          have : g < w1.heap.size := by rcases hg with hg | hg | hg; exact (ht.r.lt g hg).2; exact (ht.d.lt g hg).2; exact (ht.v.lt g hg).2
          omega⟩)
        replace HT1 := Lib.hid (fun e => (HT1.out e).keep HCS.out (by simp))
        replace HCA := Lib.hid (HCA.out.trans HCS.out (by simp))
        clear HCS hsw2 hbc hs1
        refine wpAnyL_ready (rs := [12]) (by kernel_rfl) (by simp) ?_
        refine AllReadyL.cons (o := _) rfl (fun K hK => ?_) AllReadyL.nil
        have kz0 : w2.cell? ⟨bc, 0, none⟩ = some (.slice none 0 0) := by rw [cell_of_row w2 bc 0 _ _ _ hkc]; rfl
        have kz1 : w2.cell? ⟨bc, 1, none⟩ = some (.slice none 0 0) := by rw [cell_of_row w2 bc 1 _ _ _ hkc]; rfl
        have kz2 : w2.cell? ⟨bc, 2, none⟩ = some (.slice none 0 0) := by rw [cell_of_row w2 bc 2 _ _ _ hkc]; rfl
        have kf0 : w2.frozen? ⟨bc, 0, none⟩ = false := by simp [World.frozen?, hkc]
        have kf1 : w2.frozen? ⟨bc, 1, none⟩ = false := by simp [World.frozen?, hkc]
        have kf2 : w2.frozen? ⟨bc, 2, none⟩ = false := by simp [World.frozen?, hkc]
        have hcf : Chg [bc] w2 (((w2.setCell ⟨bc, 0, none⟩ (.slice ro rn rc)).setCell ⟨bc, 1, none⟩ (.slice dso dn dc)).setCell ⟨bc, 2, none⟩ (.slice vo vn vc)) := (((Chg.refl [bc] w2).setCell (.inl (by simp)) _).setCell (.inl (by simp)) _).setCell (.inl (by simp)) _
        have hbcA : ∀ q ∈ [bc], Ad.heap.size ≤ q := by simpa using HBC.out.1
        go_simp
        refine hK.out _ _ (HSG.out _ _ _ _ [bc] hHeld12 hcf hbcA) (fun hHeld13 => ?_)
        clear hK K hHeld12
        try simp only [List.getElem_toArray, List.getElem_cons_succ, List.getElem_cons_zero, Act.put, List.setIfInBounds_toArray, List.set_cons_zero, List.set_cons_succ]
        have hkf : (((w2.setCell ⟨bc, 0, none⟩ (.slice ro rn rc)).setCell ⟨bc, 1, none⟩ (.slice dso dn dc)).setCell ⟨bc, 2, none⟩ (.slice vo vn vc)).heap[bc]? = some (.cells #[.slice ro rn rc, .slice dso dn dc, .slice vo vn vc] 42 (0, 0)) := by
          rw [heap_set (i := 2) (heap_set (i := 1) (heap_set (i := 0) hkc (.slice ro rn rc)) (.slice dso dn dc)) (.slice vo vn vc)]
          rfl
        have htf := fun e => (HT1.out e).keep hcf (fun g hg hm => HBC.out.2 e g hg (by simpa using hm))
        replace HCA := Lib.hid (HCA.out.trans hcf (fun q hq => .inr (hbcA q hq)))
        clear kz0 kz1 kz2 kf0 kf1 kf2 hcf hbcA hkc HT1
        obtain ⟨wx, hwx⟩ : ∃ z, z = (((w2.setCell ⟨bc, 0, none⟩ (.slice ro rn rc)).setCell ⟨bc, 1, none⟩ (.slice dso dn dc)).setCell ⟨bc, 2, none⟩ (.slice vo vn vc)) := ⟨_, rfl⟩
        rw [← hwx] at hHeld13 hkf htf HCA ⊢
        clear hwx
        have HTF := Lib.hid htf; have HKF := Lib.hid hkf
        clear htf hkf
        refine wpAnyL_take (i := 13) (oi := _) (v := ?_) false rfl (by kernel_rfl) (fun _ _ _ h => h) (Or.inl ⟨by rfl, ?_⟩) hHeld13 (fun hHeld14 => ?_)
        rotate_left
        · rintro w ⟨b1, b2, hok, hSw⟩; go_simp; (try with_reducible rfl)
        clear hHeld13
        try simp only [List.getElem_toArray, List.getElem_cons_succ, List.getElem_cons_zero, Act.put, List.setIfInBounds_toArray, List.set_cons_zero, List.set_cons_succ]
        refine wpAnyL_done (by kernel_rfl) ?_ _
        clear hHeld14
        refine hK8 _ _ ?_
        cases ok with
        | false =>
          go_wp2
          go_ret2
          exact ⟨HJ.out.cw.trans (HC0.out.trans HCA.out (by simp)) (by simp), by rw [if_neg (by rw [← HM.out]; omega), if_neg (by rw [← HV.out]; simp), if_neg (fun h => absurd (h _ (List.mem_of_getElem? HWX.out)) (of_decide_eq_false HOKD.out.symm))]; rfl⟩
        | true =>
          have k0 : wx.cell? ⟨bc, 0, none⟩ = some (.slice ro rn rc) := by rw [cell_of_row wx bc 0 _ _ _ HKF.out]; rfl
          have k1 : wx.cell? ⟨bc, 1, none⟩ = some (.slice dso dn dc) := by rw [cell_of_row wx bc 1 _ _ _ HKF.out]; rfl
          have k2 : wx.cell? ⟨bc, 2, none⟩ = some (.slice vo vn vc) := by rw [cell_of_row wx bc 2 _ _ _ HKF.out]; rfl
          have hgb := (HC0.out.trans HCA.out (by simp)).heap HJ.out.bw (by simp)
          have hnil := HJ.out.nz i (Nat.le_refl _) hlt
          have z0 : wx.cell? ⟨gc, i * 3, none⟩ = some (.slice none 0 0) := by
            rw [cell_of_row wx gc _ _ _ _ hgb]
            have h := flat_get encC_len R i _ 0 (.slice none 0 0) hnil rfl
            simpa using h
          have z1 : wx.cell? ⟨gc, i * 3 + 1, none⟩ = some (.slice none 0 0) := by
            rw [cell_of_row wx gc _ _ _ _ hgb]
            have h := flat_get encC_len R i _ 1 (.slice none 0 0) hnil rfl
            simpa using h
          have z2 : wx.cell? ⟨gc, i * 3 + 2, none⟩ = some (.slice none 0 0) := by
            rw [cell_of_row wx gc _ _ _ _ hgb]
            have h := flat_get encC_len R i _ 2 (.slice none 0 0) hnil rfl
            simpa using h
          have f0 : wx.frozen? ⟨gc, i * 3, none⟩ = false := by simp [World.frozen?, hgb]
          have f1 : wx.frozen? ⟨gc, i * 3 + 1, none⟩ = false := by simp [World.frozen?, hgb]
          have f2 : wx.frozen? ⟨gc, i * 3 + 2, none⟩ = false := by simp [World.frozen?, hgb]
          clear hgb hnil
          go_wp2
          go_roundw
          case measure => simp [intOf]; omega
          case rel =>
            have hcx : Chg [] wr wx := HC0.out.trans HCA.out (by simp)
            have hnx := HJ.out.next hlt HLX.out HWX.out hcx (HTF.out rfl) (Nat.le_trans HC0.out.size HBB.out)
            refine ⟨i + 1, _, by go_num, by omega, ?_, hnx, fun j W hj hW => ?_⟩
            · exact ((HCR.out.trans hcx (by simp)).setCell (.inr hgc3) _ |>.setCell (.inr hgc3) _ |>.setCell (.inr hgc3) _)
            · by_cases ej : j = i
              · subst ej
                have := HWX.out.symm.trans hW
                injection this with this
                subst this
                exact of_decide_eq_true HOKD.out.symm
              · exact HALL.out j W (by omega) hW
      refine AllReadyL.cons (o := _) rfl (fun K hK => ?_) AllReadyL.nil
      go_simp
      refine hK.out _ _ (HSC.out _ _ _ _ hHeld7 ((Chg.refl [] Ad).alloc _)) (fun hHeld8 => ?_)
      clear hK K hHeld7
      try simp only [List.getElem_toArray, List.getElem_cons_succ, List.getElem_cons_zero, Act.put, List.setIfInBounds_toArray, List.set_cons_zero, List.set_cons_succ]
      have hkc : (Ad.alloc (.cells #[.slice none 0 0, .slice none 0 0, .slice none 0 0] 42)).heap[Ad.heap.size]? = some (.cells #[.slice none 0 0, .slice none 0 0, .slice none 0 0] 42 (0, 0)) := heap_alloc_new Ad _
      obtain ⟨bc, hbc⟩ : ∃ g, g = Ad.heap.size := ⟨_, rfl⟩
      rw [← hbc] at hkc ⊢
      obtain ⟨w1, hw1⟩ : ∃ z, z = Ad.alloc (.cells #[.slice none 0 0, .slice none 0 0, .slice none 0 0] 42) := ⟨_, rfl⟩
      rw [← hw1] at hkc hHeld8 ⊢
      have hsw1 : w1.heap.size = bc + 1 := by rw [hw1, hbc]; simp
      have HCS := Lib.hid (show Chg [] Ad w1 by rw [hw1]; exact (Chg.refl [] Ad).alloc _)
      clear hw1
      have HBC0 := Lib.hid (show Ad.heap.size ≤ bc ∧ w1.heap.size = bc + 1 from ⟨by omega, hsw1⟩)
      replace HCA := Lib.hid (HCA.out.trans HCS.out (by simp))
      clear HCS hsw1 hbc
      refine wpAnyL_ready (rs := [7]) (by kernel_rfl) (by simp) ?_
      refine AllReadyL.cons (o := _) rfl (fun K hK => ?_) AllReadyL.nil
      go_simp
      go_at_call 60
      (with_reducible refine (HCO.out w1 (HC0.out.trans HCA.out (by simp))).mono ?_)
      rintro e w2 ⟨ro, rn, rc, dso, dn, dc, vo, vn, vc, rfl, hc1, ht1⟩
      refine hK.out _ _ (HSC.out _ _ _ _ hHeld8 hc1) (fun hHeld9 => ?_)
      clear hK K hHeld8
      try simp only [List.getElem_toArray, List.getElem_cons_succ, List.getElem_cons_zero, Act.put, List.setIfInBounds_toArray, List.set_cons_zero, List.set_cons_succ]
      replace hkc := hc1.heap hkc (by simp)
      have HT1 := Lib.hid ht1
      have HBB := Lib.hid HCA.out.size
      have HBC := Lib.hid (show Ad.heap.size ≤ bc ∧ (ok = true → ∀ g, (Value.slice ro rn rc).ownBlock = some g ∨ (Value.slice dso dn dc).ownBlock = some g ∨ (Value.slice vo vn vc).ownBlock = some g → ¬ g = bc) from ⟨HBC0.out.1, fun e g hg eg => by
        have ht := HT1.out e
        have h2 := HBC0.out.2
        have : w1.heap.size ≤ g := by rcases hg with hg | hg | hg; exact (ht.r.lt g hg).1; exact (ht.d.lt g hg).1; exact (ht.v.lt g hg).1
        omega⟩)
      replace HCA := Lib.hid (HCA.out.trans hc1 (by simp))
      clear hc1 ht1 HBC0
      refine wpAnyL_take (i := 8) (oi := _) (v := ?_) false rfl (by kernel_rfl) (fun _ _ _ h => h) (Or.inl ⟨by rfl, ?_⟩) hHeld9 (fun hHeld10 => ?_)
      rotate_left
      · rintro w ⟨b1, b2, hok, hSw⟩; go_simp; (try with_reducible rfl)
      clear hHeld9
      try simp only [List.getElem_toArray, List.getElem_cons_succ, List.getElem_cons_zero, Act.put, List.setIfInBounds_toArray, List.set_cons_zero, List.set_cons_succ]
      refine wpAnyL_take (i := 9) (oi := _) (v := ?_) false rfl (by kernel_rfl) (fun _ _ _ h => h) (Or.inl ⟨by rfl, ?_⟩) hHeld10 (fun hHeld11 => ?_)
      rotate_left
      · rintro w ⟨b1, b2, hok, hSw⟩; go_simp; (try with_reducible rfl)
      clear hHeld10
      try simp only [List.getElem_toArray, List.getElem_cons_succ, List.getElem_cons_zero, Act.put, List.setIfInBounds_toArray, List.set_cons_zero, List.set_cons_succ]
      refine wpAnyL_take (i := 10) (oi := _) (v := ?_) false rfl (by kernel_rfl) (fun _ _ _ h => h) (Or.inl ⟨by rfl, ?_⟩) hHeld11 (fun hHeld12 => ?_)
      rotate_left
      · rintro w ⟨b1, b2, hok, hSw⟩; go_simp; (try with_reducible rfl)
      clear hHeld11
      try simp only [List.getElem_toArray, List.getElem_cons_succ, List.getElem_cons_zero, Act.put, List.setIfInBounds_toArray, List.set_cons_zero, List.set_cons_succ]
      refine wpAnyL_ready (rs := [12]) (by kernel_rfl) (by simp) ?_
      refine AllReadyL.cons (o := _) rfl (fun K hK => ?_) AllReadyL.nil
      have kz0 : w2.cell? ⟨bc, 0, none⟩ = some (.slice none 0 0) := by rw [cell_of_row w2 bc 0 _ _ _ hkc]; rfl
      have kz1 : w2.cell? ⟨bc, 1, none⟩ = some (.slice none 0 0) := by rw [cell_of_row w2 bc 1 _ _ _ hkc]; rfl
      have kz2 : w2.cell? ⟨bc, 2, none⟩ = some (.slice none 0 0) := by rw [cell_of_row w2 bc 2 _ _ _ hkc]; rfl
      have kf0 : w2.frozen? ⟨bc, 0, none⟩ = false := by simp [World.frozen?, hkc]
      have kf1 : w2.frozen? ⟨bc, 1, none⟩ = false := by simp [World.frozen?, hkc]
      have kf2 : w2.frozen? ⟨bc, 2, none⟩ = false := by simp [World.frozen?, hkc]
      have hcf : Chg [bc] w2 (((w2.setCell ⟨bc, 0, none⟩ (.slice ro rn rc)).setCell ⟨bc, 1, none⟩ (.slice dso dn dc)).setCell ⟨bc, 2, none⟩ (.slice vo vn vc)) := (((Chg.refl [bc] w2).setCell (.inl (by simp)) _).setCell (.inl (by simp)) _).setCell (.inl (by simp)) _
      have hbcA : ∀ q ∈ [bc], Ad.heap.size ≤ q := by simpa using HBC.out.1
      go_simp
      refine hK.out _ _ (HSG.out _ _ _ _ [bc] hHeld12 hcf hbcA) (fun hHeld13 => ?_)
      clear hK K hHeld12
      try simp only [List.getElem_toArray, List.getElem_cons_succ, List.getElem_cons_zero, Act.put, List.setIfInBounds_toArray, List.set_cons_zero, List.set_cons_succ]
      have hkf : (((w2.setCell ⟨bc, 0, none⟩ (.slice ro rn rc)).setCell ⟨bc, 1, none⟩ (.slice dso dn dc)).setCell ⟨bc, 2, none⟩ (.slice vo vn vc)).heap[bc]? = some (.cells #[.slice ro rn rc, .slice dso dn dc, .slice vo vn vc] 42 (0, 0)) := by
        rw [heap_set (i := 2) (heap_set (i := 1) (heap_set (i := 0) hkc (.slice ro rn rc)) (.slice dso dn dc)) (.slice vo vn vc)]
        rfl
      have htf := fun e => (HT1.out e).keep hcf (fun g hg hm => HBC.out.2 e g hg (by simpa using hm))
      replace HCA := Lib.hid (HCA.out.trans hcf (fun q hq => .inr (hbcA q hq)))
      clear kz0 kz1 kz2 kf0 kf1 kf2 hcf hbcA hkc HT1
      obtain ⟨wx, hwx⟩ : ∃ z, z = (((w2.setCell ⟨bc, 0, none⟩ (.slice ro rn rc)).setCell ⟨bc, 1, none⟩ (.slice dso dn dc)).setCell ⟨bc, 2, none⟩ (.slice vo vn vc)) := ⟨_, rfl⟩
      rw [← hwx] at hHeld13 hkf htf HCA ⊢
      clear hwx
      have HTF := Lib.hid htf; have HKF := Lib.hid hkf
      clear htf hkf
      refine wpAnyL_take (i := 13) (oi := _) (v := ?_) false rfl (by kernel_rfl) (fun _ _ _ h => h) (Or.inl ⟨by rfl, ?_⟩) hHeld13 (fun hHeld14 => ?_)
      rotate_left
      · rintro w ⟨b1, b2, hok, hSw⟩; go_simp; (try with_reducible rfl)
      clear hHeld13
      try simp only [List.getElem_toArray, List.getElem_cons_succ, List.getElem_cons_zero, Act.put, List.setIfInBounds_toArray, List.set_cons_zero, List.set_cons_succ]
      refine wpAnyL_done (by kernel_rfl) ?_ _
      clear hHeld14
      refine hK8 _ _ ?_
      cases ok with
      | false =>
        go_wp2
        go_ret2
        exact ⟨HJ.out.cw.trans (HC0.out.trans HCA.out (by simp)) (by simp), by rw [if_neg (by rw [← HM.out]; omega), if_neg (by rw [← HV.out]; simp), if_neg (fun h => absurd (h _ (List.mem_of_getElem? HWX.out)) (of_decide_eq_false HOKD.out.symm))]; rfl⟩
      | true =>
        have k0 : wx.cell? ⟨bc, 0, none⟩ = some (.slice ro rn rc) := by rw [cell_of_row wx bc 0 _ _ _ HKF.out]; rfl
        have k1 : wx.cell? ⟨bc, 1, none⟩ = some (.slice dso dn dc) := by rw [cell_of_row wx bc 1 _ _ _ HKF.out]; rfl
        have k2 : wx.cell? ⟨bc, 2, none⟩ = some (.slice vo vn vc) := by rw [cell_of_row wx bc 2 _ _ _ HKF.out]; rfl
        have hgb := (HC0.out.trans HCA.out (by simp)).heap HJ.out.bw (by simp)
        have hnil := HJ.out.nz i (Nat.le_refl _) hlt
        have z0 : wx.cell? ⟨gc, i * 3, none⟩ = some (.slice none 0 0) := by
          rw [cell_of_row wx gc _ _ _ _ hgb]
          have h := flat_get encC_len R i _ 0 (.slice none 0 0) hnil rfl
          simpa using h
        have z1 : wx.cell? ⟨gc, i * 3 + 1, none⟩ = some (.slice none 0 0) := by
          rw [cell_of_row wx gc _ _ _ _ hgb]
          have h := flat_get encC_len R i _ 1 (.slice none 0 0) hnil rfl
          simpa using h
        have z2 : wx.cell? ⟨gc, i * 3 + 2, none⟩ = some (.slice none 0 0) := by
          rw [cell_of_row wx gc _ _ _ _ hgb]
          have h := flat_get encC_len R i _ 2 (.slice none 0 0) hnil rfl
          simpa using h
        have f0 : wx.frozen? ⟨gc, i * 3, none⟩ = false := by simp [World.frozen?, hgb]
        have f1 : wx.frozen? ⟨gc, i * 3 + 1, none⟩ = false := by simp [World.frozen?, hgb]
        have f2 : wx.frozen? ⟨gc, i * 3 + 2, none⟩ = false := by simp [World.frozen?, hgb]
        clear hgb hnil
        go_wp2
        go_roundw
        case measure => simp [intOf]; omega
        case rel =>
          have hcx : Chg [] wr wx := HC0.out.trans HCA.out (by simp)
          have hnx := HJ.out.next hlt HLX.out HWX.out hcx (HTF.out rfl) (Nat.le_trans HC0.out.size HBB.out)
          refine ⟨i + 1, _, by go_num, by omega, ?_, hnx, fun j W hj hW => ?_⟩
          · exact ((HCR.out.trans hcx (by simp)).setCell (.inr hgc3) _ |>.setCell (.inr hgc3) _ |>.setCell (.inr hgc3) _)
          · by_cases ej : j = i
            · subst ej
              have := HWX.out.symm.trans hW
              injection this with this
              subst this
              exact of_decide_eq_true HOKD.out.symm
            · exact HALL.out j W (by omega) hW
    · have E : i = N := by omega
      subst E
      go_wp2
      go_ret2
      exact ⟨HJ.out.cw, by rw [if_neg (by rw [← HM.out]; omega), if_neg (by rw [← HV.out]; simp), if_pos (fun W hW => by obtain ⟨j, hj⟩ := List.getElem?_of_mem hW; exact HALL.out j W (by have h := (List.getElem?_eq_some_iff.mp hj).1; rw [lways_len, ← HNN.out] at h; exact h) hj)]; rw [← HNN.out]; exact ⟨gc, R, rfl, HJ.out⟩⟩

end Go.Proofs.Ytfdmbpfpdijpdaa
