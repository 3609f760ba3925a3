/- The walk of the statement WireRows. -/
import Derived.Test.YtghgcfgibhnkgaaWFronts9
import Derived.Deep.RegionLaw
namespace Go.Proofs.Ytghgcfgibhnkgaa
open Go.RowKit
set_option linter.unusedVariables false
set_option linter.unusedSimpArgs false

theorem u8_wrap (n : Nat) (h : n < 256) : IntKind.u8.wrap (n : Int) = (n : Int) := by
  have e : IntKind.u8.wrap (n : Int) = (n : Int) % 256 := by simp [IntKind.wrap, IntKind.bits, IntKind.signed]
  rw [e]; omega

theorem listAt_oneR {W : World} {d gb o c : Nat} {t : Tr} {kv : Value} (c0 : W.cell? ⟨gb, o, none⟩ = some (.int .i64 t.n)) (c1 : W.cell? ⟨gb, o + 1, none⟩ = some (.string t.s)) (c2 : W.cell? ⟨gb, o + 2, none⟩ = some kv) (hk : KidsAt W d t.k kv) (h1 : 1 ≤ c) (h2 : c ≤ maxLen) : ListAt W d [t] (.slice (some ⟨gb, o, none⟩) 1 c) := by
  refine ⟨[(t, kv)], rfl, ⟨_, c, rfl, h1, h2, fun _ => ⟨gb, o, rfl, fun j x i u hx hu => ?_⟩⟩, by simpa using hk⟩
  cases j with
  | succ j => simp at hx
  | zero =>
    simp at hx
    subst hx
    rcases i with _ | _ | _ | i
    · simp [encT] at hu; subst hu; simpa using c0
    · simp [encT] at hu; subst hu; simpa using c1
    · simp [encT] at hu; subst hu; simpa using c2
    · simp [encT] at hu

theorem flat_take_snoc (g : Tr → List Nat) (l : List Tr) (j : Nat) (t : Tr) (h : l[j]? = some t) : (l.take (j + 1)).flatMap g = (l.take j).flatMap g ++ g t := by
  rw [List.take_add_one, h]; simp

theorem flat_take_len (g : Tr → List Nat) (l : List Tr) (j : Nat) : ((l.take j).flatMap g).length ≤ (l.flatMap g).length := by
  conv => rhs; rw [← List.take_append_drop j l]
  rw [List.flatMap_append, List.length_append]; omega

set_option maxRecDepth 100000 in
set_option maxHeartbeats 4000000 in
theorem walk_WireRows (a0 : Option Addr) (len0 cap0 : Nat) (z0 : List Int) (a1 : Option Addr) (len1 cap1 : Nat) (rs : List (List Int)) (w : World) (w0 : IsRow .i64 w a0 len0 cap0 z0) (w1 : RowsI w (.slice a1 len1 cap1) rs) :
    Calls Try.prog 4 #[.slice a0 len0 cap0, .slice a1 len1 cap1] w fun e w' => e = .returned (.bool true) ∧ Below w.heap.size w w' := by
  obtain ⟨ns, hS, hlen, hwf⟩ := w0.seenI
  obtain ⟨i8, hi8, hz08, hz18, hz28⟩ := info_u8
  have HS := Lib.hid hS; have HWF := Lib.hid hwf; have HR := Lib.hid w1
  clear w0 hS hwf hlen
  obtain ⟨r0, fo, m1, m2, m3, m4, m5⟩ := mk_wf ns
  have hmk := mk_ok ns
  have hfit : ∀ t ∈ (rs.take 16).map (mk8 (mk ns)), t.n = 0 ∧ t.s = ByteArray.empty ∧ fitF fo t.k ∧ okF fo t.k ∧ fitsT (mk ns) t = 0 := fun t ht => by
    obtain ⟨r, hr, rfl⟩ := List.mem_map.1 ht
    obtain ⟨-, x1, x2, x3, x4, x5, -⟩ := made_fits ns r (w1.wf r (List.mem_of_mem_take hr)) r0 fo m1 m2 m3 m4
    exact ⟨x1, x2, x3, x4, x5⟩
  have hr02 := (made_fits ns [] (by simp) r0 fo m1 m2 m3 m4).1
  have hbl := many_len ns rs w1.wf r0 fo m1 m2 m3 m4 (rs.take 16) (fun r hr => List.mem_of_mem_take hr)
  obtain ⟨l, hl⟩ : ∃ l, l = mk ns := ⟨_, rfl⟩
  rw [← hl] at m1 hmk hfit hbl
  obtain ⟨TS, hTS⟩ : ∃ TS, TS = (rs.take 16).map (mk8 l) := ⟨_, rfl⟩
  rw [← hTS] at hfit hbl
  have hTl : TS.length ≤ 16 := by rw [hTS, List.length_map, List.length_take]; omega
  have hbl2 : (wAll fo TS).length ≤ 90000000 := by
    unfold wAll
    rw [List.length_append, vb_lt (by omega)]
    have h1 : (rs.take 16).length ≤ 16 := by rw [List.length_take]; omega
    simp only [List.length_cons, List.length_nil]
    omega
  have hone : ∀ t ∈ TS, (wF fo t.k).length ≤ 60000000 := fun t ht => by
    rw [hTS, hl] at ht
    obtain ⟨r, hr, rfl⟩ := List.mem_map.1 ht
    exact (made_fits ns r (w1.wf r (List.mem_of_mem_take hr)) r0 fo (by rw [← hl]; exact m1) m2 m3 m4).2.2.2.2.2.2
  have HL := Lib.hid hl
  have hln := hmk.le
  have hlp : 1 ≤ l.length := hmk.pos
  have HFC := Lib.hid (show ∀ f ∈ l, f.c ≤ 9223372036854775807 from fun f hf => by have := hmk.c f hf; omega)
  have HNM := Lib.hid (show ∀ f ∈ l, f.n.size ≤ 1000 from fun f hf => by have := hmk.n f hf; omega)
  have HBA := Lib.hid (fun (lv : Value) (wx : World) (sv : Value) (hs : SeenF wx sv l) (hL : ListAt wx l.length TS lv) => bytes_any sv lv l r0 fo TS l.length wx hs m1 m2 m5 m3 m4 (by omega) HFC.out HNM.out hL (fun t ht => (hfit t ht).2.2.2.2) (fun t ht => (hfit t ht).2.2.2.1) (by omega))
  have HB1 := Lib.hid (fun (t : Tr) (ht : t ∈ TS) (lv : Value) (wx : World) (sv : Value) (hs : SeenF wx sv l) (hL : ListAt wx l.length [t] lv) => bytes_any sv lv l r0 fo [t] l.length wx hs m1 m2 m5 m3 m4 (by omega) HFC.out HNM.out hL (fun u hu => by simp at hu; subst hu; exact (hfit u ht).2.2.2.2) (fun u hu => by simp at hu; subst hu; exact (hfit u ht).2.2.2.1) (by
    have := hone t ht
    unfold wAll
    rw [List.length_append, vb_lt (by simp)]
    simp
    omega))
  have HW1 := Lib.hid (show ∀ t : Tr, wAll fo [t] = 1 :: wF fo t.k from fun t => by unfold wAll; rw [vb_lt (by simp)]; simp)
  have HWA := Lib.hid (show wAll fo TS = TS.length :: TS.flatMap (fun t => wF fo t.k) from by unfold wAll; rw [vb_lt (by omega)]; rfl)
  have HBY8 := Lib.hid (wAll_by8 fo TS)
  have HTS := Lib.hid hTS
  have HMK := Lib.hid (show ∀ wx sv, SeenF wx sv l → Chg [] w wx → Calls Try.prog 8 #[sv, .slice a1 len1 cap1] wx fun e w' => ∃ lv, e = .returned lv ∧ ListIn (wx.heap.size ≤ ·) w' l.length TS lv ∧ Chg [] wx w' from fun wx sv hs hk => by
    rw [hTS]
    exact many_any sv (.slice a1 len1 cap1) l rs wx hs (HR.out.keep hk) hlp (by omega) HFC.out)
  obtain ⟨g, hg⟩ : ∃ g : Tr → List Nat, g = fun t => wF fo t.k := ⟨_, rfl⟩
  have hW1 := HW1.out
  have hWA := HWA.out
  have HG := Lib.hid hg
  rw [← hg] at hWA
  obtain ⟨B, hB⟩ : ∃ B, B = wAll fo TS := ⟨_, rfl⟩
  rw [← hB] at hbl2 hWA HBY8 HBA
  have HWB := Lib.hid hWA
  have HBL2 := Lib.hid hbl2
  have HONE := Lib.hid (show ∀ t ∈ TS, (g t).length ≤ 60000000 from fun t ht => by rw [hg]; exact hone t ht)
  obtain ⟨n, hn⟩ : ∃ n, n = TS.length := ⟨_, rfl⟩
  have HN := Lib.hid hn
  rw [← hn] at hTl
  clear w1 m1 m2 m3 m4 m5 hmk hfit hr02 hbl hl hTS hone hg hWA hB hn hbl2 hW1
  go_enter Try.func4, Try.ntmps4
  go_wp2_with fail
  refine (known9_any _).mono ?_
  rintro e wA ⟨rfl, hk⟩
  have HK1 := Lib.hid hk
  clear hk
  go_wp2_with fail
  refine (make_any _ ns _ (HS.out.keep HK1.out) HWF.out).mono ?_
  rintro e wB ⟨sv, rfl, hown, hk⟩
  rw [← HL.out] at hown
  have hSv := SeenF.own hown rfl
  obtain ⟨sa, sc, rfl⟩ := own_shape hown
  have HSF := Lib.hid hSv
  have HK2 := Lib.hid (HK1.out.trans hk (by simp))
  clear hown hSv hk
  go_wp2_with fail
  refine (HMK.out wB _ HSF.out HK2.out).mono ?_
  rintro e wC ⟨lv, rfl, hli, hk⟩
  have hla := hli.at
  obtain ⟨lo, lc, rfl, hlc1, hlc2⟩ := hla.shape
  rw [← HN.out] at hla hlc1 ⊢
  have HLV := Lib.hid hla
  have HK3 := Lib.hid (HK2.out.trans hk (by simp)); have HSF3 := Lib.hid (HSF.out.keep hk)
  clear hli hk hla
  have hwn := u8_wrap n (by omega)
  have HO0 := Lib.hid (show (wC.alloc (.cells #[.int .u8 (n : Int)] 5)).ownsRow wC.heap.size 5 1 (.slice (some ⟨wC.heap.size, 0, none⟩) 1 1) 1 (nv .u8 (n :: (TS.take 0).flatMap g)) from own_lit wC _ _ rfl (Nat.le_refl _) 5 _ _ 1 1 rfl rfl (by decide))
  go_wp2
  go_loopw [7, 8] (fun x i w' => ∃ j : Nat, j ≤ n ∧ i = .int .i64 (j : Int) ∧ Chg [] wC w' ∧ w'.ownsRow wC.heap.size 5 1 x (1 + ((TS.take j).flatMap g).length) (nv .u8 (n :: (TS.take j).flatMap g))) (fun _ i _ => n - (intOf i).toNat)
  case atStart => exact ⟨0, Nat.zero_le _, rfl, (Chg.refl [] wC).alloc _, HO0.out⟩
  case round =>
    obtain ⟨j, hj, rfl, hc, ho⟩ := hrel
    obtain ⟨xo, xc, rfl⟩ := own_shape ho
    have HC := Lib.hid hc
    have hBw := hc.size
    by_cases hlt : j < n
    · have d1 : decide ((j : Int) < (n : Int)) = true := by simp; omega
      obtain ⟨t, ht⟩ : ∃ t, TS[j]? = some t := ⟨_, List.getElem?_eq_getElem (by rw [← HN.out]; exact hlt)⟩
      have htm := List.mem_of_getElem? ht
      obtain ⟨gl, off, rfl, hcell⟩ := (HLV.out.keep HC.out).get (by omega)
      obtain ⟨kv, c0, c1, c2, hk⟩ := hcell j t ht
      have hL1 := Lib.hid (listAt_oneR c0 c1 c2 hk (show 1 ≤ lc - j by omega) (by omega))
      have HBT := Lib.hid (HB1.out t htm _ wr _ (HSF3.out.keep HC.out) hL1.out)
      rw [HW1.out t] at HBT
      have hgt : wF fo t.k = g t := by rw [HG.out]
      rw [hgt] at HBT
      have HSN := Lib.hid (flat_take_snoc g TS j t ht)
      have hgl := HONE.out t htm
      have hfl := flat_take_len g TS (j + 1)
      rw [HSN.out] at hfl
      have hBl : B.length = 1 + (TS.flatMap g).length := by rw [HWB.out, List.length_cons]; omega
      have hb2 := HBL2.out
      obtain ⟨G, hG⟩ : ∃ G, G = g t := ⟨_, rfl⟩
      rw [← hG] at HBT HSN hgl hfl
      obtain ⟨P, hP⟩ : ∃ P, P = (TS.take j).flatMap g := ⟨_, rfl⟩
      rw [← hP] at ho HSN hfl ⊢
      obtain ⟨np, hnp⟩ : ∃ np, np = P.length := ⟨_, rfl⟩
      rw [← hnp] at ho ⊢
      have HO := Lib.hid ho; have HNP := Lib.hid hnp
      have hne : ¬ (lc = j) := by omega
      have hjn1 : ¬ ((n : Int) < (j : Int) + 1) := by omega
      obtain ⟨q, hq⟩ : ∃ q, q = G.length := ⟨_, rfl⟩
      have HQ := Lib.hid hq
      rw [List.length_append, ← hnp, ← hq] at hfl
      have hqb : q ≤ 90000000 := by omega
      have hnpb : np ≤ 90000000 := by omega
      have hj1 : j + 1 - j = 1 := by omega
      clear ho hc hP hnp hG hgt hcell c0 c1 c2 hk ht htm hgl hfl hBl hb2 hq
      go_upto_region 10 with (first
        | (go_at_call 7; (with_reducible refine HBT.out.mono ?_); rintro e w2 ⟨x, rfl, hc2, ho2⟩; rw [List.length_cons, ← HQ.out] at ho2; obtain ⟨bo, cx, rfl⟩ := own_shape ho2; obtain ⟨gx, rfl⟩ := own_some ho2 (Nat.succ_pos q); have HC2 := Lib.hid hc2; have HO2 := Lib.hid ho2; clear hc2 ho2)
        | fail)
      have y0 := own_cell HO2.out (by rw [List.length_cons, ← HQ.out]) 0 (Nat.succ_pos q)
      change w2.cell? ⟨gx, 0, none⟩ = some (.int .u8 1) at y0
      have hqn : ¬ (((q + 1 : Nat) : Int) < 1) := by omega
      have hqn2 : ¬ ((q : Int) + 1 < 1) := by omega
      have hcx := own_room HO2.out
      obtain ⟨-, -, -, htl⟩ := Seen.tail (x := .int .u8 1) (xs := nv .u8 G) (reads_of_own HO2.out).seen
      have HOW := Lib.hid (own_chg HO.out HC2.out (by simp))
      have HONG := Lib.hid (nv_one .u8 G)
      have HM1 := Lib.hid (show 1 + np + (nv .u8 G).length ≤ maxLen by rw [nv_length, ← HQ.out]; unfold maxLen; omega)
      have HM2 := Lib.hid (show (1 + np + (nv .u8 G).length) * 1 ≤ 140737488355328 by rw [nv_length, ← HQ.out]; omega)
      have HZ2 := Lib.hid (Nat.le_trans hBw HC2.out.size)
      by_cases hc1 : cx = 1
      · rw [if_pos hc1] at htl
        have hq0 : q = 0 := by omega
        subst hc1
        subst hq0
        have HTL := Lib.hid (show Seen w2 (.slice (some ⟨gx, 0, none⟩) 0 0) (nv .u8 G) from htl)
        clear htl
        go_wp2_with (first
          | (at_builtin; refine wpList_append_reads _ rfl _ _ 24 24 rfl wC.heap.size 5 5 i8 (.int .u8 0) 1 Try.underlying24 Try.underlying24 hi8 hz08 hz18 hz28 rfl (.slice xo (1 + np) xc) (1 + np) (nv .u8 (n :: P)) rfl HOW.out (.slice (some ⟨gx, 0, none⟩) 0 0) (nv .u8 G) rfl HTL.out HONG.out HM1.out HM2.out HZ2.out ?_)
          | fail)
        intro v3 w3 hown3 hgrow3
        have HC3 := Lib.hid ((HC.out.trans HC2.out (by simp)).grown hgrow3 (fun k hk => .inr (own_ge HO.out k hk)))
        have HO3 := Lib.hid (show w3.ownsRow wC.heap.size 5 1 v3 (1 + ((TS.take (j + 1)).flatMap g).length) (nv .u8 (n :: (TS.take (j + 1)).flatMap g)) by
          rw [HSN.out, List.length_append, ← HNP.out]
          try rw [nv_length] at hown3
          have e : nv .u8 (n :: P) ++ nv .u8 G = nv .u8 (n :: (P ++ G)) := by simp [nv]
          rw [e] at hown3
          rw [← Nat.add_assoc]
          exact hown3)
        clear hown3 hgrow3
        go_wp2
        go_roundw
        case rel => exact ⟨j + 1, hlt, by go_num, HC3.out, HO3.out⟩
        case measure => simp [intOf]; omega
      · rw [if_neg hc1, Nat.zero_add] at htl
        have HTL := Lib.hid htl
        clear htl
        go_wp2_with (first
          | (at_builtin; refine wpList_append_reads _ rfl _ _ 24 24 rfl wC.heap.size 5 5 i8 (.int .u8 0) 1 Try.underlying24 Try.underlying24 hi8 hz08 hz18 hz28 rfl (.slice xo (1 + np) xc) (1 + np) (nv .u8 (n :: P)) rfl HOW.out (.slice (some ⟨gx, 1, none⟩) q (cx - 1)) (nv .u8 G) rfl HTL.out HONG.out HM1.out HM2.out HZ2.out ?_)
          | fail)
        intro v3 w3 hown3 hgrow3
        have HC3 := Lib.hid ((HC.out.trans HC2.out (by simp)).grown hgrow3 (fun k hk => .inr (own_ge HO.out k hk)))
        have HO3 := Lib.hid (show w3.ownsRow wC.heap.size 5 1 v3 (1 + ((TS.take (j + 1)).flatMap g).length) (nv .u8 (n :: (TS.take (j + 1)).flatMap g)) by
          rw [HSN.out, List.length_append, ← HNP.out]
          try rw [nv_length] at hown3
          have e : nv .u8 (n :: P) ++ nv .u8 G = nv .u8 (n :: (P ++ G)) := by simp [nv]
          rw [e] at hown3
          rw [← Nat.add_assoc]
          exact hown3)
        clear hown3 hgrow3
        go_wp2
        go_roundw
        case rel => exact ⟨j + 1, hlt, by go_num, HC3.out, HO3.out⟩
        case measure => simp [intOf]; omega
    · obtain rfl : j = n := by omega
      have d1 : decide ((j : Int) < (j : Int)) = false := by simp
      have E := Lib.hid (show TS.take j = TS by rw [HN.out, List.take_length])
      rw [E.out] at ho ⊢
      have hBl : B.length = 1 + (TS.flatMap g).length := by rw [HWB.out, List.length_cons]; omega
      have hBe : (j :: TS.flatMap g) = B := by rw [HWB.out, ← HN.out]
      rw [hBe, ← hBl] at ho
      rw [← hBl]
      obtain ⟨b, hb⟩ : ∃ b, b = B.length := ⟨_, rfl⟩
      rw [← hb] at ho ⊢
      have HBL := Lib.hid hb
      have HWT := Lib.hid (reads_of_own ho).seen
      obtain ⟨sE, hsE⟩ : ∃ s, s = str B := ⟨_, rfl⟩
      have HSE := Lib.hid hsE
      have hcv := cvp HWT.out HBL.out HSE.out HBY8.out
      have HENC := Lib.hid (show ∀ wx, Chg [] wr wx → Calls Try.prog 7 #[.slice sa l.length sc, .slice lo j lc] wx fun e w' => ∃ bo bc, e = .returned (.slice bo b bc) ∧ Chg [] wx w' ∧ Seen w' (.slice bo b bc) (nv .u8 B) from fun wx hs => by
        refine (HBA.out _ wx _ ((HSF3.out.keep HC.out).keep hs) ((HLV.out.keep HC.out).keep hs)).mono ?_
        rintro e w' ⟨bv, rfl, hk, ho⟩
        rw [← HBL.out] at ho
        obtain ⟨bo, bc, rfl⟩ := own_shape ho
        exact ⟨bo, bc, rfl, hk, (reads_of_own ho).seen⟩)
      have hee : (sE.toList == sE.toList) = true := by simp
      clear hBl hBe hb hsE ho hc
      go_upto_region 13 with fail
      have HSS := Lib.hid (show ∀ w', Chg [] wr w' → (convert 24 9 (.slice xo b xc)).run Try.prog w' = .ok (.string sE) w' from fun w' hk => hcv w' (Lib.hid hk))
      clear hcv
      refine wp_region_held_drew (S := (fun w' => (convert 24 9 (.slice xo b xc)).run Try.prog w' = .ok (.string sE) w')) (by kernel_rfl) (HSS.out _ (Chg.refl _ _).drew) (fun hHeld => ?_)
      refine wpAnyH_take (i := 0) (oi := _) (v := ?_) rfl (by kernel_rfl) (by kernel_rfl) (by kernel_rfl) (fun _ _ _ h => h) (Or.inl ⟨by rfl, ?_⟩) (by assumption) ?_
      rotate_left
      · intro w hSw; (try dsimp only at hSw); go_simp; (try with_reducible rfl)
      try simp only [List.getElem_toArray, List.getElem_cons_succ, List.getElem_cons_zero, Act.put, List.setIfInBounds_toArray, List.set_cons_zero, List.set_cons_succ]
      refine wpAnyH_take (i := 1) (oi := _) (v := ?_) rfl (by kernel_rfl) (by kernel_rfl) (by kernel_rfl) (fun _ _ _ h => h) (Or.inl ⟨by rfl, ?_⟩) (by assumption) ?_
      rotate_left
      · intro w hSw; (try dsimp only at hSw); go_simp; (try with_reducible rfl)
      try simp only [List.getElem_toArray, List.getElem_cons_succ, List.getElem_cons_zero, Act.put, List.setIfInBounds_toArray, List.set_cons_zero, List.set_cons_succ]
      refine wpAnyH_take (i := 4) (oi := _) (v := ?_) rfl (by kernel_rfl) (by kernel_rfl) (by kernel_rfl) (fun _ _ _ h => h) (Or.inl ⟨by rfl, ?_⟩) (by assumption) ?_
      rotate_left
      · intro w hSw; (try dsimp only at hSw); go_simp; (try with_reducible rfl)
      try simp only [List.getElem_toArray, List.getElem_cons_succ, List.getElem_cons_zero, Act.put, List.setIfInBounds_toArray, List.set_cons_zero, List.set_cons_succ]
      refine wpAnyH_take (i := 5) (oi := _) (v := ?_) rfl (by kernel_rfl) (by kernel_rfl) (by kernel_rfl) (fun _ _ _ h => h) (Or.inl ⟨by rfl, ?_⟩) (by assumption) ?_
      rotate_left
      · intro w hSw; (try dsimp only at hSw); go_simp; (try with_reducible rfl)
      try simp only [List.getElem_toArray, List.getElem_cons_succ, List.getElem_cons_zero, Act.put, List.setIfInBounds_toArray, List.set_cons_zero, List.set_cons_succ]
      refine wpAnyH_ready (rs := [2]) (by kernel_rfl) (by simp) ?_
      refine AllReadyH.cons (o := _) rfl (fun K hK => ?_) AllReadyH.nil
      go_simp
      go_at_call 7
      refine (HENC.out _ (Chg.refl [] wr).drew).mono ?_
      rintro e w5 ⟨ro, rc, rfl, hk5, hs5⟩
      have HC5 : Hid (Chg [] wr w5) := Lib.hid ((Chg.refl [] wr).drew.trans hk5 (by simp))
      have hcv5 := cvp hs5 HBL.out HSE.out HBY8.out w5 (Lib.hid (Chg.refl [] w5))
      clear hk5 hs5
      refine hK.out _ _ (HSS.out _ HC5.out) (fun hHeld5 => ?_)
      clear hK K
      try simp only [Act.put, List.setIfInBounds_toArray, List.set_cons_zero, List.set_cons_succ]
      refine wpAnyH_ready (rs := [3]) (by kernel_rfl) (by simp) ?_
      refine AllReadyH.cons (o := _) rfl (fun K hK => ?_) AllReadyH.nil
      go_simp
      refine hK.out _ _ (HSS.out _ HC5.out) (fun hHeld6 => ?_)
      clear hK K
      try simp only [Act.put, List.setIfInBounds_toArray, List.set_cons_zero, List.set_cons_succ]
      refine wpAnyH_take (i := 6) (oi := _) (v := ?_) rfl (by kernel_rfl) (by kernel_rfl) (by kernel_rfl) (fun _ _ _ h => h) (Or.inl ⟨by rfl, ?_⟩) (by assumption) ?_
      rotate_left
      · intro w hSw; (try dsimp only at hSw); go_simp; (try with_reducible rfl)
      try simp only [List.getElem_toArray, List.getElem_cons_succ, List.getElem_cons_zero, Act.put, List.setIfInBounds_toArray, List.set_cons_zero, List.set_cons_succ]
      refine wpAnyH_take (i := 7) (oi := _) (v := ?_) rfl (by kernel_rfl) (by kernel_rfl) (by kernel_rfl) (fun _ _ _ h => h) (Or.inl ⟨by rfl, ?_⟩) (by assumption) ?_
      rotate_left
      · intro w hSw; (try dsimp only at hSw); go_simp; (try with_reducible rfl)
      try simp only [List.getElem_toArray, List.getElem_cons_succ, List.getElem_cons_zero, Act.put, List.setIfInBounds_toArray, List.set_cons_zero, List.set_cons_succ]
      refine wpAnyH_done (by kernel_rfl) ?_ _
      go_wp2
      go_ret
      exact ⟨by simp, (HK3.out.trans (HC.out.trans HC5.out (by simp)) (by simp)).below (Nat.le_refl _) (by simp)⟩

end Go.Proofs.Ytghgcfgibhnkgaa
