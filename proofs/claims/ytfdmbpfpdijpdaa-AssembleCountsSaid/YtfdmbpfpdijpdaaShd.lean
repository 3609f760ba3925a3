/- shred: the cells at the end of a way: the walk whole. -/
import Derived.Test.YtfdmbpfpdijpdaaShc
namespace Go.Proofs.Ytfdmbpfpdijpdaa
open Go.RowKit
set_option linter.unusedVariables false
set_option linter.unusedSimpArgs false

set_option maxRecDepth 100000 in
set_option maxHeartbeats 4000000 in
theorem cells1_any (w0 w : World) (l b1 b2 d : Nat) (lv pv : Value) (W : List Stp) (L : List Tr) (J : List Cl → List Nat → World → Prop) (Jx : World → Prop) (S0 : List Nat)
    (hR : Rounds w0 l (colC W L) J Jx) (hJ : J [] S0 w) (hK : KI w0 b1 b2 lv pv (str (sgs W)) S0 w) (hL : ListAt w0 d L lv) (hP : SeenI w0 pv (plc W)) (hW : W.length ≤ 1000) (hok : ∀ t ∈ L, WayOk W t) :
    Calls Try.prog 109 #[.func (.yield l) #[] #[], .pointer (some ⟨b1, 0, none⟩), .pointer (some ⟨b2, 0, none⟩)] w fun e B => (∃ v, e = .returned v) ∧ Chg [] w0 B ∧ ((∃ S, J (colC W L) S B) ∨ Jx B) := by
  obtain ⟨i0, hi0, hz0, hz1, hz2⟩ := info_fork
  obtain ⟨lo, lc, rfl, -, -⟩ := hL.shape
  obtain ⟨po, pc, rfl, -, -⟩ := hP.shape
  rw [plc_length] at hP hK
  obtain ⟨sg, hsg⟩ : ∃ sg, sg = str (sgs W) := ⟨_, rfl⟩
  rw [← hsg] at hK
  obtain ⟨TOT, hTOT⟩ : ∃ T, T = colC W L := ⟨_, rfl⟩
  rw [← hTOT] at hR ⊢
  obtain ⟨m, hm⟩ : ∃ m, m = W.length := ⟨_, rfl⟩
  rw [← hm] at hK hP hW
  have HW0 := Lib.hid hK.c.size
  have HB12 := Lib.hid (And.intro hK.lt1 hK.lt2)
  have q1 := hK.c1
  have HK := Lib.hid hK; have HR := Lib.hid hR; have HP := Lib.hid hP; have HJ := Lib.hid hJ; have HL := Lib.hid hL; have HOK := Lib.hid hok; have HSG := Lib.hid hsg; have HTOT := Lib.hid hTOT; have HM := Lib.hid hm
  clear hK hR hP hJ hL hok hsg hTOT hm
  go_enter Try.func109, Try.ntmps109
  refine wp_scope_pre_n 0 (fun n a A => ∃ (pre : List Cl) (S : List Nat) (E : List (Fk × Value)) (fv : Value), (∃ u, a = KF l b1 b2 fv u) ∧ J pre S A ∧ KI w0 b1 b2 (.slice lo L.length lc) (.slice po m pc) sg S A ∧ FRk w0 w.heap.size W fv E.length E S A ∧ Hid (TOT = pre ++ forksC W (E.map (·.1))) ∧ n = (forksC W (E.map (·.1))).length * (m + 3) + E.length) rfl ?_ ?_
  · go_wp2
    refine ⟨_, [], S0, [(⟨L, 0, 0, 0⟩, .slice lo L.length lc)], _, KF_of rfl, HR.out.keep _ _ _ _ _ HJ.out ((Chg.refl [] w).alloc _) (by simp), HK.out.step ((Chg.refl [] w).alloc _) (by simp), ⟨?_, rfl, ?_, ?_, ?_, ?_, ?_⟩, Lib.hid ?_, rfl⟩
    · exact own_lit w w.heap.size _ rfl (Nat.le_refl _) _ _ _ 1 4 rfl rfl (by decide)
    · intro e he
      simp at he
      subst he
      exact ⟨d, HL.out⟩
    · intro g hg hgS
      have := HR.out.at' _ _ _ HJ.out g hgS
      simp [Value.ownBlock] at hg
      omega
    · intro e he
      simp at he
      subst he
      exact ⟨Nat.zero_le _, HOK.out⟩
    · intro j e he
      have := (List.getElem?_eq_some_iff.1 he).1
      simp at this
      omega
    · intro e he
      simp at he
      subst he
      exact ⟨Nat.le_refl _, Nat.le_refl _⟩
    · rw [HTOT.out]
      exact (forksC_one W L).symm
  rintro n a A ⟨pre, S, E, fv, ⟨u, rfl⟩, hj, hk, hf, HT, rfl⟩
  have HJ := Lib.hid hj; have HK := Lib.hid hk; have HF := Lib.hid hf
  clear hj
  rcases List.eq_nil_or_concat E with rfl | ⟨E0, e, rfl⟩
  · obtain ⟨fa, fc, rfl⟩ := own_shape hf.o
    have E1 := Lib.hid (show TOT = pre by rw [HT.out]; simp [forksC])
    clear hf hk
    go_wp2
    simp only [Exit.jump]
    refine bodyPost_ret (results_none rfl _ _ _) rfl ?_
    exact ⟨⟨_, rfl⟩, HK.out.c, .inl ⟨S, by rw [E1.out]; exact HJ.out⟩⟩
  obtain ⟨f, fl⟩ := e
  rw [List.concat_eq_append] at hf HF HT ⊢
  obtain ⟨k, hk0⟩ : ∃ k, k = E0.length := ⟨_, rfl⟩
  have hlen : (E0 ++ [(f, fl)]).length = k + 1 := by simp [hk0]
  rw [hlen] at hf HF ⊢
  obtain ⟨fa, fc, rfl⟩ := own_shape hf.o
  have hroom := own_room hf.o
  obtain ⟨g, rfl, hg1, hg2, hg3, hgc⟩ := own_ptr hf.o (by omega)
  have hFO := HF.out.k (f, fl) (by simp)
  have hfp := HF.out.p k (f, fl) (by rw [hk0]; simp)
  have hfq := HF.out.q (f, fl) (by simp)
  simp only at hFO hfp hfq
  obtain ⟨dd, hfl⟩ := HF.out.l (f, fl) (by simp)
  simp only at hfl
  have hkm : k ≤ m := by have := hFO.1; have := HM.out; omega
  have hx : ∀ i v, (encK (f, fl))[i]? = some v → A.cell? ⟨g, k * 4 + i, none⟩ = some v := fun i v h => hgc _ _ (by
    rw [List.flatMap_append, List.getElem?_append_right (by rw [flat_length encK_len, hk0]; omega), flat_length encK_len, ← hk0]
    simpa using h)
  have x0 := hx 0 _ rfl
  have x1 := hx 1 _ rfl
  have x2 := hx 2 _ rfl
  have x3 := hx 3 _ rfl
  rw [Nat.add_zero] at x0
  have hkw : IntKind.i64.wrap (k : Int) = (k : Int) := IntWalk.i64_in _ (by omega)
  obtain ⟨flo, flc, rfl, -, -⟩ := hfl.shape
  obtain ⟨fL, fp, fr, fd⟩ := f
  simp only at hFO hfp hfl x0 x1 x2 x3 hx hfq
  have HGF := Lib.hid hg3
  have HE := Lib.hid hk0
  clear hx hgc hf hk hg3 hk0
  cases fL with
  | nil =>
    have hsl : ∀ wx, (Instr.slice 174 (.slice (some ⟨g, 0, none⟩) (k + 1) fc) none (some (.int .i64 (k : Int))) none).run Try.prog wx = .ok (.slice (some ⟨g, 0, none⟩) k fc) wx := by
      intro wx
      have h := run_slice_h wx 174 (some ⟨g, 0, none⟩) (k + 1) fc (by rw [elem_forks]; exact Try.underlying174) .i64 k (by omega) (by omega)
      refine Eq.trans h ?_
      rw [elem_forks]
      simp [sizeOf, typeInfo, hi0, hz1, Go.sliced, addr_add]
    go_wp2
    go_step3
    refine ⟨rfl, _, ?_, pre, S, E0, _, KF_of rfl, HR.out.keep _ _ _ _ _ HJ.out ((Chg.refl [] A).alloc _) (by simp), HK.out.step ((Chg.refl [] A).alloc _) (by simp), ?_, Lib.hid ?_, rfl⟩
    · have := HE.out
      rw [List.map_append]
      show _ < (forksC W (E0.map (·.1) ++ [_])).length * (m + 3) + (k + 1)
      rw [forksC_snoc]
      simp [forkC]
      omega
    · rw [← HE.out]
      exact HF.out.pop HE.out ((Chg.refl [] A).alloc _)
    · rw [HT.out, List.map_append]
      show _ ++ forksC W (E0.map (·.1) ++ [_]) = _
      rw [forksC_snoc]
      simp [forkC]
  | cons t X =>
    obtain ⟨to', tc, htl, hsl⟩ := hfl.tail
    obtain ⟨tg, toff, rfl, htc⟩ := hfl.get (by simp)
    obtain ⟨tkv, t0, t1, t2, htk⟩ := htc 0 t rfl
    have hFO2 := hFO.2
    have hfp2 : fp ≤ m := by have h := hFO.1; have := HM.out; simp only at h; omega
    simp only [List.length_cons, Nat.add_sub_cancel] at htl hsl hfl x0
    have y0 := HK.out.c.cell t0 (by simp)
    have y1 := HK.out.c.cell t1 (by simp)
    have y2 := HK.out.c.cell t2 (by simp)
    obtain ⟨tko, tkc, rfl, -, -⟩ := htk.shape
    simp only [Nat.zero_mul, Nat.add_zero] at y0 y1 y2
    have s1 := HK.out.c1
    have s2 := HK.out.c2
    have s3 := HK.out.c3
    have hb1 := HK.out.lt1
    have hb2 := HK.out.lt2
    have ne1 : ¬ g = A.heap.size := by omega
    have fz := HGF.out (k * 4)
    have hxl : ¬ ((X.length : Int) + 1 = 0) := by omega
    obtain ⟨N, hN⟩ : ∃ N, N = X.length := ⟨_, rfl⟩
    rw [← hN] at hsl hxl x0 htl
    have HTL := Lib.hid htl; have HTK := Lib.hid htk; have HNX := Lib.hid hN; have HFO2 := Lib.hid hFO2
    obtain ⟨A1, hA1⟩ : ∃ A1, A1 = (A.setCell ⟨g, k * 4, none⟩ (.slice to' N tc)).alloc (.cells #[.slice (some ⟨tg, toff, none⟩) (N + 1) flc, .int .i64 (fp : Int), .int .i64 (fr : Int), .int .i64 (fd : Int)] 173) := ⟨_, rfl⟩
    have HF1 := Lib.hid (show FRk w0 w.heap.size W (.slice (some ⟨g, 0, none⟩) (k + 1) fc) (k + 1) (E0 ++ [(⟨X, fp, fr, fd⟩, .slice to' N tc)]) S A1 by
      rw [hA1]
      exact (HF.out.top (X := X) (A' := A) HE.out (fun u hu => by simp [hu]) ⟨dd, htl⟩ (Chg.refl [] A)).keep ((Chg.refl [] _).alloc _) (by simp))
    have HC1 := Lib.hid (show Chg [g] A A1 by rw [hA1]; exact (((Chg.refl [g] A).setCell (.inl (by simp)) _).alloc _))
    obtain ⟨b, hb⟩ : ∃ b, b = A.heap.size := ⟨_, rfl⟩
    have hbl : A1.heap.size = b + 1 := by rw [hA1, hb]; simp
    have hbs : b = (A.setCell ⟨g, k * 4, none⟩ (.slice to' N tc)).heap.size := by rw [hb]; simp
    have hfb : A1.heap[b]? = some (.cells #[.slice (some ⟨tg, toff, none⟩) (N + 1) flc, .int .i64 (fp : Int), .int .i64 (fr : Int), .int .i64 (fd : Int)] 173 (0, 0)) := by rw [hA1, hbs]; exact heap_alloc_new _ _
    have f0 : A1.cell? ⟨b, 0, none⟩ = some (.slice (some ⟨tg, toff, none⟩) (N + 1) flc) := by rw [cell_of_row A1 b 0 _ _ _ hfb]; rfl
    have f1 : A1.cell? ⟨b, 1, none⟩ = some (.int .i64 (fp : Int)) := by rw [cell_of_row A1 b 1 _ _ _ hfb]; rfl
    have f2 : A1.cell? ⟨b, 2, none⟩ = some (.int .i64 (fr : Int)) := by rw [cell_of_row A1 b 2 _ _ _ hfb]; rfl
    have f3 : A1.cell? ⟨b, 3, none⟩ = some (.int .i64 (fd : Int)) := by rw [cell_of_row A1 b 3 _ _ _ hfb]; rfl
    have hgt : g ≠ tg := by
      have h3 := World.block_lt_of_cell? w0 _ t0
      have h4 := HW0.out
      simp only at h3
      omega
    have z0 := HC1.out.cell y0 (by simpa using Ne.symm hgt)
    have z1 := HC1.out.cell y1 (by simpa using Ne.symm hgt)
    have z2 := HC1.out.cell y2 (by simpa using Ne.symm hgt)
    have hgb : g < b := by omega
    have HA1 := Lib.hid hA1; have HB := Lib.hid hb
    have HTL := Lib.hid htl; have HTK := Lib.hid htk; have HNX := Lib.hid hN; have HFO2 := Lib.hid hFO2
    clear htl htk hN hFO2 hfl hFO hlen t0 t1 t2 htc
    go_upto_region 6 with fail
    rw [← HA1.out, ← HB.out]
    have p0 : ∀ o, (A1.alloc o).cell? ⟨tg, toff, none⟩ = some (.int .i64 t.n) := fun o => ((Chg.refl [] A1).alloc o).cell z0 (by simp)
    have p1 : ∀ o, (A1.alloc o).cell? ⟨tg, toff + 1, none⟩ = some (.string t.s) := fun o => ((Chg.refl [] A1).alloc o).cell z1 (by simp)
    have p2 : ∀ o, (A1.alloc o).cell? ⟨tg, toff + 2, none⟩ = some (.slice tko t.k.length tkc) := fun o => ((Chg.refl [] A1).alloc o).cell z2 (by simp)
    clear hA1 hb hbs y0 y1 y2 x0 x1 x2 x3 hsl fz ne1
    go_region
    have hsz : sg.size = m := by rw [HSG.out, str_size, sgs_length, HM.out]
    obtain ⟨A2, hA2⟩ : ∃ A2, A2 = (A1.alloc (.cells #[.int .i64 (fr : Int), .int .i64 (fd : Int), .int .i64 t.n, .string t.s, .slice tko t.k.length tkc] 151)).drew := ⟨_, rfl⟩
    have HC2 := Lib.hid (show Chg [] A1 A2 by rw [hA2]; exact ((Chg.refl [] A1).alloc _).drew)
    have hs2 : A2.heap.size = b + 2 := by rw [hA2]; show (A1.heap.push _).size = _; simp [hbl]
    have HX2 := Lib.hid (show A2.heap[b + 1]? = some (.cells #[.int .i64 (fr : Int), .int .i64 (fd : Int), .int .i64 t.n, .string t.s, .slice tko t.k.length tkc] 151 (0, 0)) by rw [hA2, ← hbl]; exact heap_alloc_new A1 _)
    have hSb : ∀ j ∈ S, j < b := fun j hj => by have := (HK.out.sB j hj).2; have := HB.out; omega
    have hgS : g ∉ S := HF.out.s g rfl
    have HD2 := Lib.hid (show DS w0 w.heap.size b1 b2 b fp fr fd (.slice (some ⟨tg, toff, none⟩) (N + 1) flc) (.slice lo L.length lc) (.slice po m pc) sg W S (J pre S) (.slice (some ⟨g, 0, none⟩) (k + 1) fc) (E0 ++ [(⟨X, fp, fr, fd⟩, .slice to' N tc)]) A2 from
      ⟨(HK.out.step HC1.out (by intro j hj; simp at hj; subst hj; have := HW0.out; have := HB12.out; omega)).step HC2.out (by simp), HR.out.keep _ _ _ _ _ (HR.out.keep _ _ _ _ _ HJ.out HC1.out (by intro j hj; simp at hj; subst hj; exact hgS)) HC2.out (by simp), by
        have h := HF1.out.keep HC2.out (by simp)
        have e : (E0 ++ [((⟨X, fp, fr, fd⟩ : Fk), Value.slice to' N tc)]).length = k + 1 := by simp [HE.out]
        rw [e]; exact h, HC2.out.heap hfb (by simp), hSb, by have := HW0.out; have := HB12.out; omega, fun q hq => by simp [Value.ownBlock] at hq; subst hq; omega⟩)
    rw [← hA2]
    have v1 := HC2.out.cell f1 (by simp)
    have v3 := HD2.out.ki.c3
    have HSB := Lib.hid hSb
    obtain ⟨sub, hsub⟩ : ∃ s, s = sg.extract fp m := ⟨_, rfl⟩
    have HSUB := Lib.hid (show sub = str ((sgs W).drop fp) by rw [hsub, HSG.out]; exact str_drop (sgs_lt W) fp m (by rw [sgs_length, HM.out]))
    have hss : sub.size = m - fp := by rw [HSUB.out, str_size, List.length_drop, sgs_length, HM.out]
    have HGET := Lib.hid (show ∀ j (h : j < sub.size) (x : Stp), W[fp + j]? = some x → (sub[j]'h).toNat = sgn x.2 from fun j h x hx => by
      have h1 := bl_get sub j h
      have e : bl sub = (sgs W).drop fp := by rw [HSUB.out]; exact bl_str (fun c hc => sgs_lt W c (List.mem_of_mem_drop hc))
      rw [e, List.getElem?_drop, sgs, List.getElem?_map, hx] at h1
      simpa using h1.symm)
    have HOK2 := Lib.hid (HFO2.out t (by simp))
    have HSUBE := Lib.hid hsub
    have hi3 : (A2.iter sub 0).heap[b + 2]? = some (.stringIter sub 0) := by rw [← hs2]; exact heap_alloc_new A2 _
    have HC3 := Lib.hid (show Chg [] A2 (A2.iter sub 0) from (Chg.refl [] A2).alloc _)
    have HI3 := Lib.hid hi3
    have HT3 := Lib.hid (show forksC W ((E0 ++ [((⟨t :: X, fp, fr, fd⟩ : Fk), Value.slice (some ⟨tg, toff, none⟩) (N + 1) flc)]).map (·.1)) = (cellsV (W.drop (fp + 0)) fr fd fr t ++ forksC W ((E0 ++ [((⟨X, fp, fr, fd⟩ : Fk), Value.slice to' N tc)]).map (·.1))) by
      rw [List.map_append, List.map_append]
      show forksC W (E0.map (·.1) ++ [_]) = _ ++ forksC W (E0.map (·.1) ++ [_])
      rw [forksC_snoc, forksC_snoc, forkC_cons, List.append_assoc]; rfl)
    have HWC := Lib.hid (show WC w0 w.heap.size b1 b2 b m (.slice lo L.length lc) (.slice po m pc) sg sub fp W S (J pre S) from ⟨⟨HM.out, hW⟩, ⟨HW0.out, HB12.out.1, HB12.out.2, by omega⟩, hss, HGET.out, HP.out, HR.out.keep pre S⟩)
    obtain ⟨REST, hREST⟩ : ∃ R, R = forksC W ((E0 ++ [((⟨t :: X, fp, fr, fd⟩ : Fk), Value.slice (some ⟨tg, toff, none⟩) (N + 1) flc)]).map (·.1)) := ⟨_, rfl⟩
    have HTR := Lib.hid (show TOT = pre ++ REST by rw [HT.out, hREST]; simp)
    have HWR := Lib.hid (show WR w0 w.heap.size b1 b2 b fp fr fd m (.slice (some ⟨tg, toff, none⟩) (N + 1) flc) (.slice lo L.length lc) (.slice po m pc) sg sub W S (J pre S) REST 0 fr fd t (.slice tko t.k.length tkc) (E0 ++ [(⟨X, fp, fr, fd⟩, .slice to' N tc)]) (.slice (some ⟨g, 0, none⟩) (k + 1) fc) (A2.iter sub 0) from
      ⟨by omega, by have := HE.out; simp; omega, by omega, by omega, HD2.out.turn (HR.out.keep pre S) HC3.out (by simp), HC3.out.heap HX2.out (by simp), HI3.out, ⟨_, HTK.out⟩, HOK2.out, by rw [hREST]; exact HT3.out⟩)
    have HN2 := Lib.hid (show (forksC W (E0.map (·.1) ++ [(⟨t :: X, fp, fr, fd⟩ : Fk)])).length * (m + 3) + (k + 1) = REST.length * (m + 3) + (k + 1) by rw [hREST]; simp)
    have HNN := Lib.hid (show (forksC W ((E0 ++ [((⟨t :: X, fp, fr, fd⟩ : Fk), Value.slice (some ⟨tg, toff, none⟩) (t :: X).length flc)]).map (·.1))).length * (m + 3) + (k + 1) = REST.length * (m + 3) + (k + 1) by rw [hREST]; simp)
    clear f0 f1 f2 f3 z0 z1 z2 p0 p1 p2 hfb hA2 hbl s1 s2 s3 hb1 hb2 hSb hgS hsub hi3 hREST
    clear HT HD2 HX2 HC3 HI3 HT3 HGET HOK2
    go_upto_region 8 with fail
    rw [← HSUBE.out]
    refine down_any (LF_of rfl) HWC.out HWR.out ?_
    intro dq t4 tkv4 E4 fv4 rv4 u4 wx hE
    simp only [Exit.inBlock, if_true]
    rename_i K hK
    refine hK _ _ ?_
    obtain ⟨D4, hkt⟩ := hE.kt
    obtain ⟨tko4, tkc4, rfl, -, -⟩ := hkt.shape
    have HE4 := Lib.hid hE
    obtain ⟨fn, tmps, assign, body, hy, hRd⟩ := HR.out.yield pre S ⟨fr, dq, t4⟩ (forksC W (E4.map (·.1))) D4 _ wx hE.ds.j (by rw [HTR.out, hE.tot]) hE.ds.ki.c hkt
    obtain ⟨c0, c1, c2, c3, c4, -⟩ := xcells hE.hx
    dsimp only at hy
    clear hE hkt
    refine (wpIn_wide (n := 1)).1 ?_
    have HRD := Lib.hid hRd
    clear hRd
    gi_wp2
    refine HRD.out.mono ?_
    rintro e W3 (⟨rfl, S', hJ3, hc3, hS3⟩ | ⟨rfl, hJx3, hc3⟩)
    · have HJ3 := Lib.hid hJ3; have HC3 := Lib.hid hc3; have HS3 := Lib.hid hS3
      clear hJ3 hc3 hS3
      gi_wp2
      refine wpIn_goto ?_
      refine ⟨rfl, _, ?_, pre ++ [⟨fr, dq, t4⟩], S', E4, fv4, KF_of rfl, HJ3.out, HE4.out.ds.ki.round HC3.out (fun j hj => ⟨HS3.out j hj, HR.out.at' _ _ _ HJ3.out j hj⟩), HE4.out.ds.ro.round HC3.out HS3.out, Lib.hid (by rw [HTR.out, HE4.out.tot]; simp), rfl⟩
      refine Nat.lt_of_lt_of_eq (?_ : _ < REST.length * (m + 3) + (k + 1)) (by first | exact HNN.out.symm | exact HN2.out.symm)
      have h1 := HE4.out.e1
      rw [HE4.out.tot, List.length_cons, Nat.succ_mul]
      omega
    · gi_wp2
      simp only [Exit.jump]
      go_end0
      exact ⟨⟨_, rfl⟩, HE4.out.ds.ki.c.trans hc3 (fun k hk => .inr (HE4.out.ds.ki.sB k hk).1), .inr hJx3⟩

end Go.Proofs.Ytfdmbpfpdijpdaa
