/- The walk of the statement WireBytes. -/
import Derived.Test.YtkbfbiklnjldgaaWFronts9
import Derived.Test.YtkbfbiklnjldgaaJK
import Derived.Deep.RegionLaw
namespace Go.Proofs.Ytkbfbiklnjldgaa
open Go.RowKit
set_option linter.unusedVariables false
set_option linter.unusedSimpArgs false

set_option maxRecDepth 100000 in
set_option maxHeartbeats 4000000 in
theorem walk_WireBytes (a0 : Option Addr) (len0 cap0 : Nat) (z0 : List Int) (a1 : Option Addr) (len1 cap1 : Nat) (rs : List (List Int)) (w : World) (w0 : IsRow .i64 w a0 len0 cap0 z0) (w1 : RowsI w (.slice a1 len1 cap1) rs) :
    Calls Try.prog 3 #[.slice a0 len0 cap0, .slice a1 len1 cap1] w fun e w' => e = .returned (.bool true) ∧ Below w.heap.size w w' := by
  obtain ⟨ns, hS, hlen, hwf⟩ := w0.seenI
  have HS := Lib.hid hS; have HWF := Lib.hid hwf; have HR := Lib.hid w1
  clear w0 hS hwf hlen
  obtain ⟨r0, fo, m1, m2, m3, m4, m5⟩ := mk_wf ns
  have hmk := mk_ok ns
  have hfit : ∀ t ∈ (rs.take 16).map (mk8 (mk ns)), t.n = 0 ∧ t.s = ByteArray.empty ∧ fitF fo t.k ∧ okF fo t.k ∧ fitsT (mk ns) t = 0 := fun t ht => by
    obtain ⟨r, hr, rfl⟩ := List.mem_map.1 ht
    obtain ⟨-, x1, x2, x3, x4, x5, -⟩ := made_fits ns r (w1.wf r (List.mem_of_mem_take hr)) r0 fo m1 m2 m3 m4
    exact ⟨x1, x2, x3, x4, x5⟩
  have hr02 := (made_fits ns [] (by simp) r0 fo m1 m2 m3 m4).1
  have hbl := many_len ns rs w1.wf r0 fo m1 m2 m3 m4 (rs.take 16) (fun r hr => List.mem_of_mem_take hr)
  obtain ⟨l, hl⟩ : ∃ l, l = mk ns := ⟨_, rfl⟩
  rw [← hl] at m1 hmk hfit hbl
  obtain ⟨TS, hTS⟩ : ∃ TS, TS = (rs.take 16).map (mk8 l) := ⟨_, rfl⟩
  rw [← hTS] at hfit hbl
  have hTl : TS.length ≤ 16 := by rw [hTS, List.length_map, List.length_take]; omega
  have hbl2 : (wAll fo TS).length ≤ 90000000 := by
    unfold wAll
    rw [List.length_append, vb_lt (by omega)]
    have h1 : (rs.take 16).length ≤ 16 := by rw [List.length_take]; omega
    simp only [List.length_cons, List.length_nil]
    omega
  have hP := pAll_back fo TS m4 hr02 (by omega) (fun t ht => by obtain ⟨x1, x2, x3, x4, -⟩ := hfit t ht; exact ⟨x1, x2, x3, x4⟩)
  have HL := Lib.hid hl
  have hln := hmk.le
  have hlp : 1 ≤ l.length := hmk.pos
  have HFC := Lib.hid (show ∀ f ∈ l, f.c ≤ 9223372036854775807 from fun f hf => by have := hmk.c f hf; omega)
  have HNM := Lib.hid (show ∀ f ∈ l, f.n.size ≤ 1000 from fun f hf => by have := hmk.n f hf; omega)
  have hchk : chk l = 0 := by rw [hl]; exact mk_chk ns
  have hB1 : ∀ x ∈ wAll fo TS, x < 2 ^ 8 := wAll_by8 fo TS
  have HE1 := Lib.hid (fun (lv : Value) (wx : World) (sv : Value) (hs : SeenF wx sv l) (hL : ListAt wx l.length TS lv) => bytes_any sv lv l r0 fo TS l.length wx hs m1 m2 m5 m3 m4 (by omega) HFC.out HNM.out hL (fun t ht => (hfit t ht).2.2.2.2) (fun t ht => (hfit t ht).2.2.2.1) (by omega))
  have HE2 := Lib.hid (fun (lv : Value) (wx : World) (sv : Value) (hs : SeenF wx sv l) (hL : ListAt wx l.length TS lv) => rbytes9_any sv lv l r0 fo TS l.length wx hs m1 m2 m3 m4 (by omega) HFC.out hL (fun t ht => (hfit t ht).2.2.2.1) (by omega))
  have HD := Lib.hid (fun (wx : World) (sv bv : Value) (hs : SeenF wx sv l) (hb : Seen wx bv (nv .u8 (wAll fo TS))) => parse_any9 sv bv l r0 fo (wAll fo TS) wx hs m1 m2 m5 m3 m4 hchk (by omega) HFC.out (fun f hf => by have := HNM.out f hf; omega) hb (fun x hx => hB1 x hx) (by omega))
  rw [hP] at HD
  obtain ⟨E, hE⟩ : ∃ E, E = wAll fo TS := ⟨_, rfl⟩
  rw [← hE] at hB1 HE1 HE2 HD hbl2
  have HEB := Lib.hid hB1
  obtain ⟨b, hb⟩ : ∃ b, b = E.length := ⟨_, rfl⟩
  have HBL := Lib.hid hb
  have HTS := Lib.hid hTS
  have HMK := Lib.hid (show ∀ wx sv, SeenF wx sv l → Chg [] w wx → Calls Try.prog 7 #[sv, .slice a1 len1 cap1] wx fun e w' => ∃ lv, e = .returned lv ∧ ListIn (wx.heap.size ≤ ·) w' l.length TS lv ∧ Chg [] wx w' from fun wx sv hs hk => by
    rw [hTS]
    exact many_any sv (.slice a1 len1 cap1) l rs wx hs (HR.out.keep hk) hlp (by omega) HFC.out)
  obtain ⟨n, hn⟩ : ∃ n, n = TS.length := ⟨_, rfl⟩
  have HN := Lib.hid hn
  obtain ⟨D, hD⟩ : ∃ D, D = l.length + (fo.hi + 1) := ⟨_, rfl⟩
  have hD1 : l.length ≤ D := by omega
  have hD2 : fo.hi + 1 ≤ D := by omega
  rw [← hn] at hTl
  clear w1 m1 m2 m3 m4 m5 hmk hfit hr02 hbl hl hTS hn hbl2 hP hchk hB1 hE hb hD
  go_enter Try.func3, Try.ntmps3
  go_wp2_with fail
  refine (known9_any _).mono ?_
  rintro e wA ⟨rfl, hk⟩
  have HK1 := Lib.hid hk
  clear hk
  go_wp2_with fail
  refine (make_any _ ns _ (HS.out.keep HK1.out) HWF.out).mono ?_
  rintro e wB0 ⟨sv, rfl, hown, hk⟩
  rw [← HL.out] at hown
  have hSv := SeenF.own hown rfl
  obtain ⟨sa, sc, rfl⟩ := own_shape hown
  have HSF := Lib.hid hSv
  have HK2 := Lib.hid (HK1.out.trans hk (by simp))
  clear hown hSv hk
  go_wp2_with fail
  refine (HMK.out wB0 _ HSF.out HK2.out).mono ?_
  rintro e wB ⟨lv, rfl, hli, hk⟩
  have hla := hli.at
  obtain ⟨lo, lc, rfl, hlc1, hlc2⟩ := hla.shape
  rw [← HN.out] at hla hlc1 ⊢
  have HLV := Lib.hid hla
  have HL2 := Lib.hid (hla.mono hD1)
  have HKB := Lib.hid (HK2.out.trans hk (by simp)); have HSF3 := Lib.hid (HSF.out.keep hk)
  clear hli hk hla
  have HENC := Lib.hid (show ∀ wx, Chg [] wB wx → Calls Try.prog 8 #[.slice sa l.length sc, .slice lo n lc] wx fun e w' => ∃ bo bc, e = .returned (.slice bo b bc) ∧ Chg [] wx w' ∧ Seen w' (.slice bo b bc) (nv .u8 E) from fun wx hs => by
    refine (HE1.out _ wx _ (HSF3.out.keep hs) (HLV.out.keep hs)).mono ?_
    rintro e w' ⟨bv, rfl, hk, ho⟩
    rw [← HBL.out] at ho
    obtain ⟨bo, bc, rfl⟩ := own_shape ho
    exact ⟨bo, bc, rfl, hk, (reads_of_own ho).seen⟩)
  have HREF := Lib.hid (show ∀ wx, Chg [] wB wx → Calls Try.prog 10 #[.slice sa l.length sc, .slice lo n lc] wx fun e w' => ∃ bo bc, e = .returned (.slice bo b bc) ∧ Chg [] wx w' ∧ Seen w' (.slice bo b bc) (nv .u8 E) from fun wx hs => by
    refine (HE2.out _ wx _ (HSF3.out.keep hs) (HLV.out.keep hs)).mono ?_
    rintro e w' ⟨bv, rfl, hk, ho⟩
    rw [← HBL.out] at ho
    obtain ⟨bo, bc, rfl⟩ := own_shape ho
    exact ⟨bo, bc, rfl, hk, (reads_of_own ho).seen⟩)
  have HDEC := Lib.hid (show ∀ wx bv, Chg [] wB wx → Seen wx bv (nv .u8 E) → Calls Try.prog 9 #[.slice sa l.length sc, bv] wx fun e w' => ∃ xo xc, e = .returned (.tuple #[.slice xo n xc, .int .i64 0]) ∧ Chg [] wx w' ∧ ListAt w' D TS (.slice xo n xc) from fun wx bv hc hs => by
    refine (HD.out wx _ bv (HSF3.out.keep hc) hs).mono ?_
    rintro e w' ⟨xv, rfl, ho, hk⟩
    have ha := ho.at
    obtain ⟨xo, xc, rfl, -, -⟩ := ha.shape
    rw [← HN.out] at ha ⊢
    exact ⟨xo, xc, rfl, hk, ha.mono hD2⟩)
  have HL := HL2
  clear HE1 HE2 HD hD1 hD2 HMK
  go_wp2_with fail
  refine (HENC.out wB (Chg.refl _ _)).mono ?_
  rintro e wC ⟨bo, bc, rfl, hk, hs⟩
  have HKC := Lib.hid hk; have HB := Lib.hid hs
  clear hk hs
  go_wp2_with fail
  refine (HDEC.out wC _ HKC.out HB.out).mono ?_
  rintro e wD ⟨xo, xc, rfl, hk, hs⟩
  have HKD := Lib.hid hk
  have HX := Lib.hid hs
  have HBD := Lib.hid (HB.out.keep hk)
  have HLD := Lib.hid ((HL.out.keep HKC.out).keep hk)
  have HBWD := Lib.hid (HKC.out.trans hk (by simp))
  clear hk hs
  obtain ⟨sE, hsE⟩ : ∃ s, s = str E := ⟨_, rfl⟩
  have HSE := Lib.hid hsE
  clear hsE
  have hcv := cvp HBD.out HBL.out HSE.out HEB.out
  have HIN := Lib.hid (show ∀ wx, Chg [] wD wx → Calls Try.prog 11 #[.slice xo n xc, .slice lo n lc] wx fun e w' => e = .returned (.bool true) ∧ Chg [] wx w' from fun wx hk => by
    refine (rtrees_any D TS TS _ _ wx (HX.out.keep hk) (HLD.out.keep hk)).mono ?_
    rintro e w' ⟨⟨r, rfl, hr⟩, hc⟩
    rw [hr.2 rfl]
    exact ⟨rfl, hc⟩)
  have hee : (sE.toList == sE.toList) = true := by simp
  go_upto_region 7 with fail
  have HSS := Lib.hid (show ∀ w', Chg [] wD w' → (convert 30 9 (.slice bo b bc)).run Try.prog w' = .ok (.string sE) w' from fun w' hk => hcv w' (Lib.hid hk))
  clear hcv
  refine wp_region_held_drew (S := (fun w' => (convert 30 9 (.slice bo b bc)).run Try.prog w' = .ok (.string sE) w')) (by kernel_rfl) (HSS.out _ (Chg.refl _ _).drew) (fun hHeld => ?_)
  refine wpAnyH_take (i := 0) (oi := _) (v := ?_) rfl (by kernel_rfl) (by kernel_rfl) (by kernel_rfl) (fun _ _ _ h => h) (Or.inl ⟨by rfl, ?_⟩) (by assumption) ?_
  rotate_left
  · intro w hSw; (try dsimp only at hSw); go_simp; (try with_reducible rfl)
  try simp only [List.getElem_toArray, List.getElem_cons_succ, List.getElem_cons_zero, Act.put, List.setIfInBounds_toArray, List.set_cons_zero, List.set_cons_succ]
  refine wpAnyH_take (i := 1) (oi := _) (v := ?_) rfl (by kernel_rfl) (by kernel_rfl) (by kernel_rfl) (fun _ _ _ h => h) (Or.inl ⟨by rfl, ?_⟩) (by assumption) ?_
  rotate_left
  · intro w hSw; (try dsimp only at hSw); go_simp; (try with_reducible rfl)
  try simp only [List.getElem_toArray, List.getElem_cons_succ, List.getElem_cons_zero, Act.put, List.setIfInBounds_toArray, List.set_cons_zero, List.set_cons_succ]
  refine wpAnyH_take (i := 2) (oi := _) (v := ?_) rfl (by kernel_rfl) (by kernel_rfl) (by kernel_rfl) (fun _ _ _ h => h) (Or.inl ⟨by rfl, ?_⟩) (by assumption) ?_
  rotate_left
  · intro w hSw; (try dsimp only at hSw); go_simp; (try with_reducible rfl)
  try simp only [List.getElem_toArray, List.getElem_cons_succ, List.getElem_cons_zero, Act.put, List.setIfInBounds_toArray, List.set_cons_zero, List.set_cons_succ]
  refine wpAnyH_take (i := 3) (oi := _) (v := ?_) rfl (by kernel_rfl) (by kernel_rfl) (by kernel_rfl) (fun _ _ _ h => h) (Or.inl ⟨by rfl, ?_⟩) (by assumption) ?_
  rotate_left
  · intro w hSw; (try dsimp only at hSw); go_simp; (try with_reducible rfl)
  try simp only [List.getElem_toArray, List.getElem_cons_succ, List.getElem_cons_zero, Act.put, List.setIfInBounds_toArray, List.set_cons_zero, List.set_cons_succ]
  refine wpAnyH_ready (rs := [4]) (by kernel_rfl) (by simp) ?_
  refine AllReadyH.cons (o := _) rfl (fun K hK => ?_) AllReadyH.nil
  go_simp
  go_at_call 10
  refine (HREF.out _ (HBWD.out.trans (Chg.refl [] wD).drew (by simp))).mono ?_
  rintro e w5 ⟨ro, rc, rfl, hk5, hs5⟩
  have HC5 : Hid (Chg [] wD w5) := Lib.hid ((Chg.refl [] wD).drew.trans hk5 (by simp))
  have hcv5 := cvp hs5 HBL.out HSE.out HEB.out w5 (Lib.hid (Chg.refl [] w5))
  clear hk5 hs5
  refine hK.out _ _ (HSS.out _ HC5.out) (fun hHeld5 => ?_)
  clear hK K
  try simp only [Act.put, List.setIfInBounds_toArray, List.set_cons_zero, List.set_cons_succ]
  refine wpAnyH_ready (rs := [5]) (by kernel_rfl) (by simp) ?_
  refine AllReadyH.cons (o := _) rfl (fun K hK => ?_) AllReadyH.nil
  go_simp
  refine hK.out _ _ (HSS.out _ HC5.out) (fun hHeld6 => ?_)
  clear hK K
  try simp only [Act.put, List.setIfInBounds_toArray, List.set_cons_zero, List.set_cons_succ]
  refine wpAnyH_take (i := 6) (oi := _) (v := ?_) rfl (by kernel_rfl) (by kernel_rfl) (by kernel_rfl) (fun _ _ _ h => h) (Or.inl ⟨by rfl, ?_⟩) (by assumption) ?_
  rotate_left
  · intro w hSw; (try dsimp only at hSw); go_simp; (try with_reducible rfl)
  try simp only [List.getElem_toArray, List.getElem_cons_succ, List.getElem_cons_zero, Act.put, List.setIfInBounds_toArray, List.set_cons_zero, List.set_cons_succ]
  refine wpAnyH_take (i := 7) (oi := _) (v := ?_) rfl (by kernel_rfl) (by kernel_rfl) (by kernel_rfl) (fun _ _ _ h => h) (Or.inl ⟨by rfl, ?_⟩) (by assumption) ?_
  rotate_left
  · intro w hSw; (try dsimp only at hSw); go_simp; (try with_reducible rfl)
  try simp only [List.getElem_toArray, List.getElem_cons_succ, List.getElem_cons_zero, Act.put, List.setIfInBounds_toArray, List.set_cons_zero, List.set_cons_succ]
  refine wpAnyH_take (i := 8) (oi := _) (v := ?_) rfl (by kernel_rfl) (by kernel_rfl) (by kernel_rfl) (fun _ _ _ h => h) (Or.inl ⟨by rfl, ?_⟩) (by assumption) ?_
  rotate_left
  · intro w hSw; (try dsimp only at hSw); go_simp; (try with_reducible rfl)
  try simp only [List.getElem_toArray, List.getElem_cons_succ, List.getElem_cons_zero, Act.put, List.setIfInBounds_toArray, List.set_cons_zero, List.set_cons_succ]
  refine wpAnyH_take (i := 9) (oi := _) (v := ?_) rfl (by kernel_rfl) (by kernel_rfl) (by kernel_rfl) (fun _ _ _ h => h) (Or.inl ⟨by rfl, ?_⟩) (by assumption) ?_
  rotate_left
  · intro w hSw; (try dsimp only at hSw); go_simp; (try with_reducible rfl)
  try simp only [List.getElem_toArray, List.getElem_cons_succ, List.getElem_cons_zero, Act.put, List.setIfInBounds_toArray, List.set_cons_zero, List.set_cons_succ]
  refine wpAnyH_take (i := 10) (oi := _) (v := ?_) rfl (by kernel_rfl) (by kernel_rfl) (by kernel_rfl) (fun _ _ _ h => h) (Or.inl ⟨by rfl, ?_⟩) (by assumption) ?_
  rotate_left
  · intro w hSw; (try dsimp only at hSw); go_simp; (try with_reducible rfl)
  try simp only [List.getElem_toArray, List.getElem_cons_succ, List.getElem_cons_zero, Act.put, List.setIfInBounds_toArray, List.set_cons_zero, List.set_cons_succ]
  refine wpAnyH_take (i := 11) (oi := _) (v := ?_) rfl (by kernel_rfl) (by kernel_rfl) (by kernel_rfl) (fun _ _ _ h => h) (Or.inl ⟨by rfl, ?_⟩) (by assumption) ?_
  rotate_left
  · intro w hSw; (try dsimp only at hSw); go_simp; (try with_reducible rfl)
  try simp only [List.getElem_toArray, List.getElem_cons_succ, List.getElem_cons_zero, Act.put, List.setIfInBounds_toArray, List.set_cons_zero, List.set_cons_succ]
  refine wpAnyH_take (i := 12) (oi := _) (v := ?_) rfl (by kernel_rfl) (by kernel_rfl) (by kernel_rfl) (fun _ _ _ h => h) (Or.inl ⟨by rfl, ?_⟩) (by assumption) ?_
  rotate_left
  · intro w hSw; (try dsimp only at hSw); go_simp; (try with_reducible rfl)
  try simp only [List.getElem_toArray, List.getElem_cons_succ, List.getElem_cons_zero, Act.put, List.setIfInBounds_toArray, List.set_cons_zero, List.set_cons_succ]
  refine wpAnyH_take (i := 13) (oi := _) (v := ?_) rfl (by kernel_rfl) (by kernel_rfl) (by kernel_rfl) (fun _ _ _ h => h) (Or.inl ⟨by rfl, ?_⟩) (by assumption) ?_
  rotate_left
  · intro w hSw; (try dsimp only at hSw); go_simp; (try with_reducible rfl)
  try simp only [List.getElem_toArray, List.getElem_cons_succ, List.getElem_cons_zero, Act.put, List.setIfInBounds_toArray, List.set_cons_zero, List.set_cons_succ]
  refine wpAnyH_ready (rs := [14]) (by kernel_rfl) (by simp) ?_
  refine AllReadyH.cons (o := _) rfl (fun K hK => ?_) AllReadyH.nil
  go_simp
  go_at_call 11
  refine (HIN.out _ HC5.out).mono ?_
  rintro e w6 ⟨rfl, hk6⟩
  have HC6 : Hid (Chg [] wD w6) := Lib.hid (HC5.out.trans hk6 (by simp))
  clear hk6
  refine hK.out _ _ (HSS.out _ HC6.out) (fun hHeld7 => ?_)
  clear hK K
  try simp only [Act.put, List.setIfInBounds_toArray, List.set_cons_zero, List.set_cons_succ]
  refine wpAnyH_take (i := 15) (oi := _) (v := ?_) rfl (by kernel_rfl) (by kernel_rfl) (by kernel_rfl) (fun _ _ _ h => h) (Or.inl ⟨by rfl, ?_⟩) (by assumption) ?_
  rotate_left
  · intro w hSw; (try dsimp only at hSw); go_simp; (try with_reducible rfl)
  try simp only [List.getElem_toArray, List.getElem_cons_succ, List.getElem_cons_zero, Act.put, List.setIfInBounds_toArray, List.set_cons_zero, List.set_cons_succ]
  refine wpAnyH_take (i := 16) (oi := _) (v := ?_) rfl (by kernel_rfl) (by kernel_rfl) (by kernel_rfl) (fun _ _ _ h => h) (Or.inl ⟨by rfl, ?_⟩) (by assumption) ?_
  rotate_left
  · intro w hSw; (try dsimp only at hSw); go_simp; (try with_reducible rfl)
  try simp only [List.getElem_toArray, List.getElem_cons_succ, List.getElem_cons_zero, Act.put, List.setIfInBounds_toArray, List.set_cons_zero, List.set_cons_succ]
  refine wpAnyH_done (by kernel_rfl) ?_ _
  go_wp2
  go_ret
  exact ⟨by simp, (HKB.out.trans (HKC.out.trans (HKD.out.trans HC6.out (by simp)) (by simp)) (by simp)).below (Nat.le_refl _) (by simp)⟩

end Go.Proofs.Ytkbfbiklnjldgaa
