/- The walk of the statement WireFronts. -/
import Derived.Test.YtghgcfgibhnkgaaHG
import Derived.Test.YtghgcfgibhnkgaaHF
namespace Go.Proofs.Ytghgcfgibhnkgaa
open Go.RowKit
set_option linter.unusedVariables false
set_option linter.unusedSimpArgs false

theorem wF_by8 : ∀ (fo : Fo) (ks : List (List Tr)), ∀ x ∈ wF fo ks, x < 256
  | .nil, ks, x, hx => by simp [wF] at hx
  | .leaf f t, ks, x, hx => by
    cases ks with
    | nil => simp [wF] at hx
    | cons l r =>
      rcases List.mem_append.1 hx with hx | hx
      · unfold wField at hx
        rcases List.mem_append.1 hx with hx | hx
        · split at hx
          · exact lw_lt _ _ x hx
          · split at hx
            · exact vb_bytes _ x hx
            · simp at hx
        · obtain ⟨t', ht, hx⟩ := List.mem_flatMap.1 hx
          unfold wLeaf at hx
          repeat' split at hx
          · exact lw_lt _ _ x hx
          · exact lw_lt _ _ x hx
          · exact lw_lt _ _ x hx
          · rcases List.mem_append.1 hx with hx | hx
            · exact vb_bytes _ x hx
            · obtain ⟨b, -, rfl⟩ := List.mem_map.1 hx
              exact b.toNat_lt
      · exact wF_by8 t r x hx
  | .group f k t, ks, x, hx => by
    cases ks with
    | nil => simp [wF] at hx
    | cons l r =>
      rcases List.mem_append.1 hx with hx | hx
      · unfold wField at hx
        rcases List.mem_append.1 hx with hx | hx
        · split at hx
          · exact lw_lt _ _ x hx
          · split at hx
            · exact vb_bytes _ x hx
            · simp at hx
        · obtain ⟨t', ht, hx⟩ := List.mem_flatMap.1 hx
          exact wF_by8 k t'.k x hx
      · exact wF_by8 t r x hx

theorem wAll_by8 (fo : Fo) (L : List Tr) : ∀ x ∈ wAll fo L, x < 256 := by
  intro x hx
  unfold wAll at hx
  rcases List.mem_append.1 hx with hx | hx
  · exact vb_bytes _ x hx
  · obtain ⟨t, -, hx⟩ := List.mem_flatMap.1 hx
    exact wF_by8 fo t.k x hx

set_option maxRecDepth 100000 in
set_option maxHeartbeats 4000000 in
theorem walk_Fronts (a0 : Option Addr) (len0 cap0 : Nat) (z0 : List Int) (a1 : Option Addr) (len1 cap1 : Nat) (rs : List (List Int)) (a2 : Int) (a3 : Option Addr) (len3 cap3 : Nat) (z3 : List Int) (w : World) (w0 : IsRow .i64 w a0 len0 cap0 z0) (w1 : RowsI w (.slice a1 len1 cap1) rs) (w2 : (Lit.int .i64 a2).wf = true) (w3 : IsRow .u8 w a3 len3 cap3 z3) :
    Calls Try.prog 3 #[.slice a0 len0 cap0, .slice a1 len1 cap1, .int .i64 a2, .slice a3 len3 cap3] w fun e w' => e = .returned (.bool true) ∧ Below w.heap.size w w' := by
  obtain ⟨ns, hS, hlen, hwf⟩ := w0.seenI
  obtain ⟨mo, hM, rfl, hmo8⟩ := w3.u8s
  obtain ⟨i8, hi8, hz08, hz18, hz28⟩ := info_u8
  have hlm := w3.len.2
  have HS := Lib.hid hS; have HWF := Lib.hid hwf; have HR := Lib.hid w1; have W2 := Lib.hid w2; have HMO := Lib.hid hM; have HM8 := Lib.hid hmo8
  clear w0 w2 w3 hS hM hwf hlen hmo8
  by_cases hm0 : mo.length = 0 ∨ 50 < mo.length
  · have hpick : (((mo.length : Int) == 0) = true) ∨ ((((mo.length : Int) == 0) = false) ∧ decide ((50 : Int) < (mo.length : Int)) = true) := by
      by_cases h : mo.length = 0
      · left; simp [h]
      · right; exact ⟨beq_eq_false_iff_ne.2 (by omega), by simp; omega⟩
    clear hm0 w1
    obtain ⟨q, hq⟩ : ∃ q, q = mo.length := ⟨_, rfl⟩
    rw [← hq] at hpick hlm ⊢
    clear hq
    rcases hpick with d1 | ⟨d1, d2⟩
    all_goals
      go_enter Try.func3, Try.ntmps3
      go_wp2_with fail
      refine (known9_any _).mono ?_
      rintro e wA ⟨rfl, hk⟩
      have HK := Lib.hid hk
      clear hk
      go_wp2
      go_ret
      exact ⟨rfl, HK.out.below (Nat.le_refl _) (by simp)⟩
  obtain ⟨r0, fo, m1, m2, m3, m4, m5⟩ := mk_wf ns
  have hmk := mk_ok ns
  have hfit : ∀ t ∈ (rs.take 16).map (mk8 (mk ns)), t.n = 0 ∧ t.s = ByteArray.empty ∧ fitF fo t.k ∧ okF fo t.k ∧ fitsT (mk ns) t = 0 := fun t ht => by
    obtain ⟨r, hr, rfl⟩ := List.mem_map.1 ht
    obtain ⟨-, x1, x2, x3, x4, x5, -⟩ := made_fits ns r (w1.wf r (List.mem_of_mem_take hr)) r0 fo m1 m2 m3 m4
    exact ⟨x1, x2, x3, x4, x5⟩
  have hr02 := (made_fits ns [] (by simp) r0 fo m1 m2 m3 m4).1
  have hbl := many_len ns rs w1.wf r0 fo m1 m2 m3 m4 (rs.take 16) (fun r hr => List.mem_of_mem_take hr)
  obtain ⟨l, hl⟩ : ∃ l, l = mk ns := ⟨_, rfl⟩
  rw [← hl] at m1 hmk hfit hbl
  obtain ⟨TS, hTS⟩ : ∃ TS, TS = (rs.take 16).map (mk8 l) := ⟨_, rfl⟩
  rw [← hTS] at hfit hbl
  have hTl : TS.length ≤ 16 := by rw [hTS, List.length_map, List.length_take]; omega
  have hbl2 : (wAll fo TS).length ≤ 90000000 := by
    unfold wAll
    rw [List.length_append, vb_lt (by omega)]
    have h1 : (rs.take 16).length ≤ 16 := by rw [List.length_take]; omega
    simp only [List.length_cons, List.length_nil]
    omega
  have hP := pAll_back fo TS m4 hr02 (by omega) (fun t ht => by obtain ⟨x1, x2, x3, x4, -⟩ := hfit t ht; exact ⟨x1, x2, x3, x4⟩)
  have HL := Lib.hid hl
  have hln := hmk.le
  have hlp : 1 ≤ l.length := hmk.pos
  have HFC := Lib.hid (show ∀ f ∈ l, f.c ≤ 9223372036854775807 from fun f hf => by have := hmk.c f hf; omega)
  have HNM := Lib.hid (show ∀ f ∈ l, f.n.size ≤ 1000 from fun f hf => by have := hmk.n f hf; omega)
  have hchk : chk l = 0 := by rw [hl]; exact mk_chk ns
  have hB1 : ∀ x ∈ wAll fo TS, x < 2 ^ 8 := wAll_by8 fo TS
  obtain ⟨B, hB⟩ : ∃ B, B = wAll fo TS := ⟨_, rfl⟩
  have HBY := Lib.hid (fun (lv : Value) (wx : World) (sv : Value) (hs : SeenF wx sv l) (hL : ListAt wx l.length TS lv) => bytes_any sv lv l r0 fo TS l.length wx hs m1 m2 m5 m3 m4 (by omega) HFC.out HNM.out hL (fun t ht => (hfit t ht).2.2.2.2) (fun t ht => (hfit t ht).2.2.2.1) (by omega))
  rw [← hB] at hP hbl2 hB1 HBY
  obtain ⟨bl, hbll⟩ : ∃ bl, bl = B.length := ⟨_, rfl⟩
  have hbl1 : 1 ≤ bl := by
    rw [hbll, hB]; unfold wAll; rw [List.length_append, vb_lt (by omega)]; simp
  rw [← hbll] at hbl2
  obtain ⟨k, hk⟩ : ∃ k, k = (a2 % (bl : Nat)).toNat := ⟨_, rfl⟩
  have hkb : k < bl := by rw [hk]; exact within_lt a2 bl hbl1
  have HW := Lib.hid (fun wx => w9_int a2 (bl : Int) bl wx rfl hbl1 (by omega) W2.out)
  rw [← hk] at HW
  have hcut : (pAll fo (B.take k)).2 = 8 := pAll_cut fo (B.take k) (B.drop k) (by rw [Ne, List.drop_eq_nil_iff]; omega) (by rw [List.take_append_drop, hP])
  have hmore : pAll fo (B ++ mo) = ([], 9) := pAll_more fo B mo (by intro e; rw [e] at hm0; simp at hm0) (by rw [hP])
  have HP1 := Lib.hid (show ∀ wx sv bv, SeenF wx sv l → Seen wx bv (nv .u8 (B.take k)) → Calls Try.prog 9 #[sv, bv] wx fun e w' => ∃ lv, e = .returned (.tuple #[lv, .int .i64 8]) ∧ Chg [] wx w' from fun wx sv bv hs hb => by
    refine (parse_any9 sv bv l r0 fo (B.take k) wx hs m1 m2 m5 m3 m4 hchk (by omega) HFC.out (fun f hf => by have := HNM.out f hf; omega) hb (fun x hx => hB1 x (List.mem_of_mem_take hx)) (by rw [List.length_take]; omega)).mono ?_
    rintro e w' ⟨lv, rfl, -, hc⟩
    rw [hcut]
    exact ⟨lv, rfl, hc⟩)
  have HP2 := Lib.hid (show ∀ wx sv bv, SeenF wx sv l → Seen wx bv (nv .u8 (B ++ mo)) → Calls Try.prog 9 #[sv, bv] wx fun e w' => ∃ ao ac, e = .returned (.tuple #[.slice ao 0 ac, .int .i64 9]) ∧ Chg [] wx w' from fun wx sv bv hs hb => by
    refine (parse_any9 sv bv l r0 fo (B ++ mo) wx hs m1 m2 m5 m3 m4 hchk (by omega) HFC.out (fun f hf => by have := HNM.out f hf; omega) hb (fun x hx => by
      rcases List.mem_append.1 hx with hx | hx
      · exact hB1 x hx
      · exact HM8.out x hx) (by rw [List.length_append]; omega)).mono ?_
    rintro e w' ⟨lv, rfl, hli, hc⟩
    rw [hmore] at hli ⊢
    obtain ⟨ao, ac, rfl, -, -⟩ := hli.at.shape
    exact ⟨ao, ac, rfl, hc⟩)
  obtain ⟨q, hq⟩ : ∃ q, q = mo.length := ⟨_, rfl⟩
  have hq0 : 1 ≤ q := by omega
  have hq5 : q ≤ 50 := by omega
  have HBL := Lib.hid hbll; have HQQ := Lib.hid hq; have HB1 := Lib.hid hB1
  rw [← hq] at HMO ⊢
  have d1 : ((q : Int) == 0) = false := by simp; omega
  have d2 : decide ((50 : Int) < (q : Int)) = false := by simp; omega
  have HTS := Lib.hid hTS
  have HMK := Lib.hid (show ∀ wx sv, SeenF wx sv l → Chg [] w wx → Calls Try.prog 8 #[sv, .slice a1 len1 cap1] wx fun e w' => ∃ lv, e = .returned lv ∧ ListIn (wx.heap.size ≤ ·) w' l.length TS lv ∧ Chg [] wx w' from fun wx sv hs hk => by
    rw [hTS]
    exact many_any sv (.slice a1 len1 cap1) l rs wx hs (HR.out.keep hk) hlp (by omega) HFC.out)
  clear hm0 w1 m1 m2 m3 m4 m5 hmk hfit hr02 hbl hl hTS hTl hP hchk hB1 hB hbll hk hcut hmore hq hlm
  obtain ⟨ll, hll⟩ : ∃ ll, ll = l.length := ⟨_, rfl⟩
  go_enter Try.func3, Try.ntmps3
  go_wp2_with fail
  refine (known9_any _).mono ?_
  rintro e wA ⟨rfl, hk⟩
  have HK1 := Lib.hid hk
  clear hk
  go_wp2_with fail
  refine (make_any _ ns _ (HS.out.keep HK1.out) HWF.out).mono ?_
  rintro e wB ⟨sv, rfl, hown, hk⟩
  rw [← HL.out] at hown
  have hSv := SeenF.own hown rfl
  obtain ⟨sa, sc, rfl⟩ := own_shape hown
  have HSF := Lib.hid hSv
  have HK2 := Lib.hid (HK1.out.trans hk (by simp))
  clear hown hSv hk
  go_wp2_with fail
  refine (HMK.out wB _ HSF.out HK2.out).mono ?_
  rintro e wC ⟨lv, rfl, hli, hk⟩
  have HLV := Lib.hid hli.at
  have HK3 := Lib.hid (HK2.out.trans hk (by simp)); have HSF3 := Lib.hid (HSF.out.keep hk)
  clear hli hk
  go_wp2_with fail
  refine (HBY.out lv wC _ HSF3.out HLV.out).mono ?_
  rintro e wD ⟨bv, rfl, hk, ho⟩
  rw [← HBL.out] at ho
  obtain ⟨bo, bc, rfl⟩ := own_shape ho
  have HB := Lib.hid ((reads_of_own ho).seen)
  have hbc := HB.out.room.1
  have HK4 := Lib.hid (HK3.out.trans hk (by simp)); have HSF4 := Lib.hid (HSF3.out.keep hk)
  clear hk ho
  obtain ⟨fo', fc, hfs, hfr⟩ := run_front HB.out hbc k (by omega)
  have HFS := Lib.hid hfs
  clear hfs
  go_wp2_with fail
  refine (HW.out _).mono ?_
  rintro e wE ⟨rfl, rfl⟩
  go_wp2_with fail
  refine (HP1.out _ _ _ HSF4.out HFS.out).mono ?_
  rintro e wE ⟨lv1, rfl, hk⟩
  have HK5 := Lib.hid (HK4.out.trans hk (by simp)); have HSF5 := Lib.hid (HSF4.out.keep hk); have HB5 := Lib.hid (HB.out.keep hk)
  clear hk hfr
  have HO0 := Lib.hid (own_lit wE wE.heap.size wE.heap.size rfl (Nat.le_refl _) 5 #[] [] 0 1 rfl rfl (by decide))
  have HONE := Lib.hid (nv_one .u8 B); have HONE2 := Lib.hid (nv_one .u8 mo)
  go_wp2_with (at_builtin; refine wpList_append_reads _ rfl _ _ 24 24 rfl wE.heap.size 5 5 i8 (.int .u8 0) 1 Try.underlying24 Try.underlying24 hi8 hz08 hz18 hz28 rfl (.slice (some ⟨wE.heap.size, 0, none⟩) 0 0) 0 [] rfl HO0.out _ (nv .u8 B) rfl (HB5.out.keep ((Chg.refl [] wE).alloc _)) HONE.out ?c1 ?c2 ?c3 ?_)
  case c1 => rw [nv_length, ← HBL.out]; unfold maxLen; omega
  case c2 => rw [nv_length, ← HBL.out]; omega
  case c3 => simp
  intro v1 w1 hown1 hgrow1
  have HC1 := Lib.hid (((Chg.refl [] wE).alloc (.cells #[] 5)).grown hgrow1 (fun k hk => .inr (by simp [Value.ownBlock] at hk; omega)))
  have HO1 := Lib.hid (show w1.ownsRow wE.heap.size 5 1 v1 bl (nv .u8 B) by rw [HBL.out]; simpa using hown1)
  obtain ⟨o1, c1, rfl⟩ := own_shape HO1.out
  have HZ1 := Lib.hid HC1.out.size
  clear hown1 hgrow1
  go_wp2_with (at_builtin; refine wpList_append_reads _ rfl _ _ 24 24 rfl wE.heap.size 5 5 i8 (.int .u8 0) 1 Try.underlying24 Try.underlying24 hi8 hz08 hz18 hz28 rfl _ _ _ rfl HO1.out _ (nv .u8 mo) rfl (HMO.out.keep (HK5.out.trans HC1.out (by simp))) HONE2.out ?c1 ?c2 HZ1.out ?_)
  case c1 => rw [nv_length, ← HQQ.out]; unfold maxLen; omega
  case c2 => rw [nv_length, ← HQQ.out]; omega
  intro v2 w2 hown2 hgrow2
  have HC2 := Lib.hid (HC1.out.grown hgrow2 (fun k hk => .inr (own_ge HO1.out k hk)))
  have HS2 := Lib.hid (show Seen w2 v2 (nv .u8 (B ++ mo)) by
    have h := (reads_of_own hown2).seen
    have e : nv .u8 B ++ nv .u8 mo = nv .u8 (B ++ mo) := by simp [nv]
    rwa [e] at h)
  obtain ⟨o2, c2, rfl⟩ := own_shape hown2
  clear hown2 hgrow2
  go_wp2_with fail
  refine (HP2.out _ _ _ (HSF5.out.keep HC2.out) HS2.out).mono ?_
  rintro e wF ⟨xo, xc, rfl, hk⟩
  have HK6 := Lib.hid (HK5.out.trans (HC2.out.trans hk (by simp)) (by simp))
  clear hk
  go_wp2
  go_ret
  exact ⟨by simp, HK6.out.below (Nat.le_refl _) (by simp)⟩

end Go.Proofs.Ytghgcfgibhnkgaa
