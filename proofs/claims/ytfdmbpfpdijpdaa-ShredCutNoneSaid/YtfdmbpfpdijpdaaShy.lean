/- shred.Cut. -/
import Derived.Test.YtfdmbpfpdijpdaaShx
import Derived.Test.YtfdmbpfpdijpdaaYC
import Derived.Test.YtfdmbpfpdijpdaaA1
namespace Go.Proofs.Ytfdmbpfpdijpdaa
open Go.RowKit
set_option linter.unusedVariables false
set_option linter.unusedSimpArgs false

theorem ret_col {fn : Func} (hres : fn.results = #[.cell 8 42]) {post : Ending → World → Prop} {a : Act} {W : World} {gr : Nat} {x y z : Value} (h4 : a.tmps.getD 8 undef = .pointer (some ⟨gr, 0, none⟩)) (hd : a.defers = []) (hh : W.heap[gr]? = some (.cells #[x, y, z] 42 (0, 0))) (hp : post (.returned (.agg #[x, y, z])) W) : bodyPost Try.prog fn post .ret a W :=
  bodyPost_ret (results_cell_row hres a.tmps W gr _ _ _ _ h4 hh Try.underlying42 rfl (by kernel_rfl)) hd hp

/-- l[:hi], as a run equation, of integers. -/
theorem run_front_i {w : World} {ao : Option Addr} {len cap : Nat} {l : List Int} (h : SeenI w (.slice ao len cap) l) (hc : len ≤ cap) (hi : Nat) (h2 : hi ≤ len) :
    ∃ ao' cap', SeenI w (.slice ao' hi cap') (l.take hi) ∧ ∀ wx, (Instr.slice 22 (.slice ao len cap) none (some (.int .i64 (hi : Int))) none).run Try.prog wx = .ok (.slice ao' hi cap') wx := by
  have hs := h.sliced 0 hi (Nat.zero_le _) h2
  rw [List.drop_zero] at hs
  refine ⟨_, _, hs, fun wx => ?_⟩
  obtain ⟨i0, hi0, _, hz1, _⟩ := info_int
  rw [run_slice_h wx 22 ao len cap (by rw [show Try.prog.elem 22 = 3 by kernel_rfl]; exact Try.underlying22) .i64 hi (by omega) (by omega), show Try.prog.elem 22 = 3 by kernel_rfl]
  simp [sizeOf, typeInfo, hi0, hz1]
  rfl

/-- l[lo:hi], as a run equation, of integers. -/
theorem run_mid_i {w : World} {ao : Option Addr} {len cap : Nat} {l : List Int} (h : SeenI w (.slice ao len cap) l) (hc : len ≤ cap) (lo hi : Nat) (h1 : lo ≤ hi) (h2 : hi ≤ len) :
    ∃ ao' cap', SeenI w (.slice ao' (hi - lo) cap') ((l.take hi).drop lo) ∧ ∀ wx, (Instr.slice 22 (.slice ao len cap) (some (.int .i64 (lo : Int))) (some (.int .i64 (hi : Int))) none).run Try.prog wx = .ok (.slice ao' (hi - lo) cap') wx := by
  have hs := h.sliced lo hi h1 h2
  refine ⟨_, _, hs, fun wx => ?_⟩
  obtain ⟨i0, hi0, _, hz1, _⟩ := info_int
  rw [run_slice_lh wx 22 ao len cap (by rw [show Try.prog.elem 22 = 3 by kernel_rfl]; exact Try.underlying22) .i64 .i64 lo hi (by omega) (by omega) (by omega), show Try.prog.elem 22 = 3 by kernel_rfl]
  simp [sizeOf, typeInfo, hi0, hz1, Go.sliced]

/-- l[lo:hi], as a run equation, of values. -/
theorem run_mid_v {w : World} {ao : Option Addr} {len cap : Nat} {l : List V} (h : SeenV w (.slice ao len cap) l) (hc : len ≤ cap) (lo hi : Nat) (h1 : lo ≤ hi) (h2 : hi ≤ len) :
    ∃ ao' cap', SeenV w (.slice ao' (hi - lo) cap') ((l.take hi).drop lo) ∧ ∀ wx, (Instr.slice 40 (.slice ao len cap) (some (.int .i64 (lo : Int))) (some (.int .i64 (hi : Int))) none).run Try.prog wx = .ok (.slice ao' (hi - lo) cap') wx := by
  have hs := h.sliced lo hi h1 h2
  refine ⟨_, _, hs, fun wx => ?_⟩
  obtain ⟨i0, hi0, _, hz1, _⟩ := info_value
  rw [run_slice_lh wx 40 ao len cap (by rw [elem_values]; exact Try.underlying40) .i64 .i64 lo hi (by omega) (by omega) (by omega), elem_values]
  simp [sizeOf, typeInfo, hi0, hz1, Go.sliced]

theorem one_cell14 {w : World} {g : Nat} {v : Value} (h : w.cell? ⟨g, 0, none⟩ = some v) : ∀ j u, [v][j]? = some u → w.cell? ((⟨g, 0, none⟩ : Addr).add j) = some u := by
  intro j u hu
  cases j with
  | zero => simp at hu; subst hu; simpa [addr_add] using h
  | succ j => simp at hu

theorem wrap_small (s : Nat) (h : s ≤ 1000000) : Go.RowKit.wrap64 (s : Int) = (s : Int) := IntWalk.wrap64_in _ (by omega)
theorem wrap_small' (s : Nat) (h : s ≤ 1000000) : IntKind.i64.wrap (s : Int) = (s : Int) := IntWalk.i64_in _ (by omega)

/-- A row whose cells are no headers does not lie in a block of headers. -/
theorem SeenK.past {α : Type} {enc : α → List Value} {k : Nat} {w w' : World} {v : Value} {l : List α} (h : SeenK enc k w v l) (hk : ∀ x, ∃ u, (enc x)[0]? = some u ∧ u ≠ .slice none 0 0) {g : Nat} {T : TypeId} {fz : Nat × Nat}
    (hg : w.heap[g]? = some (.cells #[.slice none 0 0, .slice none 0 0, .slice none 0 0] T fz)) (hc : Chg [g] w w') : SeenK enc k w' v l := by
  refine h.keepS hc fun hn g' hg' hm => ?_
  obtain ⟨ao, cap, rfl, h2, h3, h4⟩ := h
  obtain ⟨g2, off, rfl, h5⟩ := h4 hn
  have e1 : g2 = g' := by injection hg'
  have e2 : g' = g := by simpa using hm
  subst e1 e2
  obtain ⟨x, hx⟩ : ∃ x, l[0]? = some x := ⟨_, List.getElem?_eq_getElem hn⟩
  obtain ⟨u, hu, hne⟩ := hk x
  have h6 := h5 0 x 0 u hx hu
  simp only [Nat.zero_mul, Nat.add_zero] at h6
  rw [show w.cell? ⟨g2, off, none⟩ = (#[.slice none 0 0, .slice none 0 0, .slice none 0 0] : Array Value)[off]? by simp [World.cell?, hg]] at h6
  match off, h6 with
  | 0, h => exact hne (by simpa using h.symm)
  | 1, h => exact hne (by simpa using h.symm)
  | 2, h => exact hne (by simpa using h.symm)
  | n + 3, h => simp at h

set_option maxRecDepth 100000 in
set_option maxHeartbeats 4000000 in
theorem cut_any (rv dv vv : Value) (R D : List Int) (VL : List V) (l0 l1 x l3 : Int) (fr tt : Int) (R' D' : List Int) (V' : List V) (w : World) (hr : SeenI w rv R) (hd : SeenI w dv D) (hv : SeenV w vv VL) (hDR : D.length = R.length) (hVD : cntX D x D.length = VL.length) (hl : R.length ≤ 100000) (hs : ∀ x ∈ VL, x.s.size ≤ 281474976710656)
    (hB : ((fr < 0 ∨ tt ≥ ((stTo R R.length).length + 1 : Nat) ∨ fr ≥ tt) ∧ R' = [] ∧ D' = [] ∧ V' = []) ∨
      (∃ p q f e a c : Nat, fr = p ∧ tt = q ∧ p < q ∧ q < (stTo R R.length).length + 1 ∧ (stTo R R.length ++ [(R.length : Int)])[p]? = some (f : Int) ∧ (stTo R R.length ++ [(R.length : Int)])[q]? = some (e : Int) ∧ f ≤ e ∧ e ≤ R.length ∧ a = cntX (D.take f) x f ∧ c = cntX ((D.take e).drop f) x (e - f) ∧ a + c ≤ VL.length ∧
        R' = (R.take e).drop f ∧ D' = (D.take e).drop f ∧ V' = (VL.take (a + c)).drop a)) :
    Calls Try.prog 37 #[.agg #[rv, dv, vv], .agg #[.int .i64 l0, .int .i64 l1, .int .i64 x, .int .i64 l3], .int .i64 fr, .int .i64 tt] w fun e w' => ∃ rv' dv' vv', e = .returned (.agg #[rv', dv', vv']) ∧ SeenI w' rv' R' ∧ SeenI w' dv' D' ∧ SeenV w' vv' V' ∧ Chg [] w w' := by
  obtain ⟨i0, hi, hz0, hz1, hz2⟩ := info_int
  obtain ⟨n, hn⟩ : ∃ n, n = R.length := ⟨_, rfl⟩
  obtain ⟨K, hK⟩ : ∃ K, K = VL.length := ⟨_, rfl⟩
  obtain ⟨ro, rc, rfl, hr1, hr2⟩ := hr.shape
  obtain ⟨do_, dc, rfl, hd1, hd2⟩ := hd.shape
  obtain ⟨vo, vc, rfl, hv1, hv2⟩ := hv.shape
  rw [hDR] at hd hd1 hVD ⊢
  rw [← hn] at hr hr1 hl hB hd hd1 hVD hDR ⊢
  rw [← hK] at hv hv1 hVD hB ⊢
  have hm := stTo_le R n
  obtain ⟨m, hmm⟩ : ∃ m, m = (stTo R n).length := ⟨_, rfl⟩
  rw [← hmm] at hm hB
  have HR := Lib.hid hr; have HD := Lib.hid hd; have HV := Lib.hid hv; have HN := Lib.hid hn; have HK := Lib.hid hK; have HVD := Lib.hid hVD; have HB := Lib.hid hB; have HS := Lib.hid hs; have HDL := Lib.hid hDR; have HMM := Lib.hid hmm
  clear hr hd hv hn hK hVD hB hs hDR hmm
  obtain ⟨b, hb⟩ : ∃ b, b = w.heap.size := ⟨_, rfl⟩
  obtain ⟨wq, hwq⟩ : ∃ wq, wq = ((w.alloc (.cells #[.slice ro n rc, .slice do_ n dc, .slice vo K vc] 42)).alloc (.cells #[.int .i64 l0, .int .i64 l1, .int .i64 x, .int .i64 l3] 52)).alloc (.cells #[.slice none 0 0, .slice none 0 0, .slice none 0 0] 42) := ⟨_, rfl⟩
  have HC0 := Lib.hid (show Chg [] w wq by rw [hwq]; exact (((Chg.refl [] w).alloc _).alloc _).alloc _)
  have HSZ := Lib.hid (show wq.heap.size = b + 3 by rw [hwq, hb]; simp)
  have hsz1 : ∀ (w : World) (o : Obj), (w.alloc o).heap.size = w.heap.size + 1 := fun w o => by simp
  have hA : wq.heap[b]? = some (.cells #[.slice ro n rc, .slice do_ n dc, .slice vo K vc] 42 (0, 0)) := by rw [hwq, hb]; exact (((Chg.refl [] _).alloc _).alloc _).heap (heap_alloc_new w _) (by simp)
  have hBB : wq.heap[b + 1]? = some (.cells #[.int .i64 l0, .int .i64 l1, .int .i64 x, .int .i64 l3] 52 (0, 0)) := by
    rw [hwq, hb]
    have h := heap_alloc_new (w.alloc (.cells #[.slice ro n rc, .slice do_ n dc, .slice vo K vc] 42)) (.cells #[.int .i64 l0, .int .i64 l1, .int .i64 x, .int .i64 l3] 52)
    rw [hsz1] at h
    exact ((Chg.refl [] _).alloc _).heap h (by simp)
  have HE8 := Lib.hid (show wq.heap[b + 2]? = some (.cells #[.slice none 0 0, .slice none 0 0, .slice none 0 0] 42 (0, 0)) by
    rw [hwq, hb]
    have h := heap_alloc_new ((w.alloc (.cells #[.slice ro n rc, .slice do_ n dc, .slice vo K vc] 42)).alloc (.cells #[.int .i64 l0, .int .i64 l1, .int .i64 x, .int .i64 l3] 52)) (.cells #[.slice none 0 0, .slice none 0 0, .slice none 0 0] 42)
    rw [hsz1, hsz1] at h
    exact h)
  have HE0 := Lib.hid (show wq.cell? ⟨b, 0, none⟩ = some (.slice ro n rc) ∧ wq.cell? ⟨b, 1, none⟩ = some (.slice do_ n dc) ∧ wq.cell? ⟨b, 2, none⟩ = some (.slice vo K vc) ∧ wq.cell? ⟨b + 1, 2, none⟩ = some (.int .i64 x) from ⟨by simp [World.cell?, hA], by simp [World.cell?, hA], by simp [World.cell?, hA], by simp [World.cell?, hBB]⟩)
  clear hA hBB hsz1
  have HBS := Lib.hid hb
  have HST := Lib.hid (show ∀ wx, Chg [] wq wx → Calls Try.prog 34 #[.agg #[.slice ro n rc, .slice do_ n dc, .slice vo K vc]] wx fun e w' => ∃ v, e = .returned v ∧ w'.ownsRow wq.heap.size 3 1 v m (iv (stTo R n)) ∧ Chg [] wx w' from fun wx hC => by
    have h := starts_any (.slice ro n rc) (.slice do_ n dc) (.slice vo K vc) R wx (HR.out.keep (HC0.out.trans hC (by simp))) ⟨_, _, _, rfl⟩ ⟨_, _, _, rfl⟩ (by rw [← HN.out]; omega)
    rw [← HN.out, ← HMM.out] at h
    exact h.mono fun e w' ⟨v, e1, e2, e3⟩ => ⟨v, e1, own_mono e2 hC.size, e3⟩)
  clear hb
  go_enter Try.func37, Try.ntmps37
  go_upto_region 1 with fail
  rw [← HBS.out, ← hwq]
  clear hwq
  have q1 := HE0.out
  have HQ := Lib.hid (show ∀ wx, Chg [] wq wx → wx.cell? ⟨b, 0, none⟩ = some (.slice ro n rc) ∧ wx.cell? ⟨b, 1, none⟩ = some (.slice do_ n dc) ∧ wx.cell? ⟨b, 2, none⟩ = some (.slice vo K vc) ∧ wx.cell? ⟨b + 1, 2, none⟩ = some (.int .i64 x) from fun wx h => ⟨h.cell HE0.out.1 (by simp), h.cell HE0.out.2.1 (by simp), h.cell HE0.out.2.2.1 (by simp), h.cell HE0.out.2.2.2 (by simp)⟩)
  clear q1
  have HK0 := Lib.hid (Chg.refl [] wq)
  have HKD := Lib.hid (Chg.refl [] wq).drew
  have HM4 := Lib.hid (show m + 1 ≤ maxLen by unfold maxLen; omega)
  have HM5 := Lib.hid (show (m + 1) * 8 ≤ 140737488355328 by omega)
  have HLIT := Lib.hid (show (wq.alloc (.cells #[.int .i64 (n : Int)] 3)).drew.cell? ⟨wq.heap.size, 0, none⟩ = some (.int .i64 (n : Int)) by
    have h := heap_alloc_new wq (.cells #[.int .i64 (n : Int)] 3)
    show (wq.alloc (.cells #[.int .i64 (n : Int)] 3)).cell? ⟨wq.heap.size, 0, none⟩ = some (.int .i64 (n : Int))
    simp only [World.cell?]
    rw [h]
    rfl)
  go_cut [9] (fun s wx => ∃ sl, s = sl ∧ Chg [] wq wx ∧ wx.ownsRow wq.heap.size 3 1 sl (m + 1) (iv (stTo R n) ++ [.int .i64 (n : Int)]))
  case first =>
    go_region_held3 (fun w' => w'.cell? ⟨b, 0, none⟩ = some (.slice ro n rc) ∧ w'.cell? ⟨b, 1, none⟩ = some (.slice do_ n dc) ∧ w'.cell? ⟨b, 2, none⟩ = some (.slice vo K vc) ∧ w'.cell? ⟨b + 1, 2, none⟩ = some (.int .i64 x)) (first | exact HQ.out _ HKD.out | exact HQ.out _ HK0.out | exact HQ.out _ HKA.out | exact HQ.out _ (HK0.out.alloc _).drew | exact HQ.out _ (HKA.out.alloc _) | exact HQ.out _ HK4.out) (first
      | (refine step_append_at (by rfl) (.tmp 17) (.tmp 21) _ (by rfl) wq.heap.size 3 i0 (.int .i64 0) 1 8 Try.underlying22 hi hz0 hz1 hz2 (by rfl) (by omega) (.slice va m vca) m (iv (stTo R n)) (by rfl) ?_ _ 1 1 [.int .i64 (n : Int)] (by rfl) (by rfl) ?_ (by simp [Value.oneCell']) HM4.out HM5.out ?_ ?_; (focus (first | exact HOA.out | exact HOA.out.alloc _)); (focus (first | exact one_cell14 HLA.out | exact new_cells (C := #[.int .i64 (n : Int)]) _ (by simp))); (focus (first | exact HKA.out.size | exact le_alloc HKA.out.size _)); intro v4 w4 hown4 hg4 hat4; obtain ⟨a4, c4, rfl⟩ := own_shape hown4; have HO4 := Lib.hid hown4; have HK4 := Lib.hid (show Chg [] wq w4 from Chg.grown (by first | exact HKA.out | exact HKA.out.alloc _) hg4 (fun k hk => .inr (own_ge HOA.out k hk))); clear hown4 hg4 hat4)
      | (go_simp; go_at_call 34; (with_reducible refine (HST.out _ (by first | exact HKD.out | exact (HK0.out.alloc _).drew)).mono ?_); rintro e wx ⟨v0, rfl, ho, hk⟩; obtain ⟨va, vca, rfl⟩ := own_shape ho; have HKA := Lib.hid (show Chg [] wq wx from Chg.trans (by first | exact HKD.out | exact (HK0.out.alloc _).drew) hk (by simp)); have HOA := Lib.hid ho; (try have HLA := Lib.hid (show wx.cell? ⟨wq.heap.size, 0, none⟩ = some (.int .i64 (n : Int)) from hk.cell HLIT.out (by simp))); clear ho hk))
    all_goals
      try go_wp2
      go_meet
      case rel => exact ⟨_, rfl, HK4.out, HO4.out⟩
  case rest =>
  obtain ⟨sl, rfl, hk, ho⟩ := hcut
  obtain ⟨ba, bc, rfl⟩ := own_shape ho
  have HKB := Lib.hid hk
  have HSB := Lib.hid (show SeenI wc (.slice ba (m + 1) bc) (stTo R n ++ [(n : Int)]) from seenI_of_own (by simpa [iv] using ho) (by simp [HMM.out]))
  clear hk ho
  have HVA := Lib.hid (show ∀ wx dv DL, Chg [] wq wx → SeenI wx dv DL → DL.length ≤ 1000000 → Calls Try.prog 63 #[dv, .pointer (some ⟨b + 1, 0, none⟩)] wx fun e w' => e = .returned (.int .i64 (cntX DL x DL.length : Nat)) ∧ Chg [] wx w' from fun wx dv DL hc hs hl => valued_any dv DL (b + 1) x wx hs (HQ.out wx hc).2.2.2 hl)
  have HV1 := Lib.hid (show ∀ wx, Chg [] wq wx → Calls Try.prog 63 #[.slice do_ n dc, .pointer (some ⟨b + 1, 0, none⟩)] wx fun e w' => e = .returned (.int .i64 (K : Nat)) ∧ Chg [] wx w' from fun wx hc => by
    have h := HVA.out wx _ D hc (HD.out.keep (HC0.out.trans hc (by simp))) (by rw [HDL.out]; omega)
    rwa [HDL.out, HVD.out] at h)
  have q3 := HQ.out wc HKB.out
  go_upto_region 3 with fail
  have HK5 := Lib.hid HKB.out.drew
  have e1 : ((n : Int) == (n : Int)) = true := by simp
  have e2 : ((K : Int) == (K : Int)) = true := by simp
  go_cut [11] (fun s wx => s = .bool true ∧ Chg [] wc wx)
  case first =>
    go_region_held3 (fun w' => w'.cell? ⟨b, 0, none⟩ = some (.slice ro n rc) ∧ w'.cell? ⟨b, 1, none⟩ = some (.slice do_ n dc) ∧ w'.cell? ⟨b, 2, none⟩ = some (.slice vo K vc) ∧ w'.cell? ⟨b + 1, 2, none⟩ = some (.int .i64 x)) (first | exact HQ.out _ HKB.out | exact HQ.out _ HKB.out.drew | exact HQ.out _ HK6.out) (first
      | (go_simp; go_at_call 63; (with_reducible refine (HV1.out _ HK5.out).mono ?_); rintro e wx ⟨rfl, hk⟩; have HK6 := Lib.hid (HK5.out.trans hk (by simp)); have HK7 := Lib.hid (show Chg [] wc wx from Chg.trans (Chg.refl [] wc).drew hk (by simp)); clear hk))
    all_goals
      try go_wp2
      go_meet
      case rel => exact ⟨rfl, HK7.out⟩
  case rest =>
  obtain ⟨rfl, hk⟩ := hcut
  have HKE := Lib.hid (HKB.out.trans hk (by simp)); have HSE := Lib.hid (HSB.out.keep hk)
  clear hk e1 e2 q3
  rcases HB.out with ⟨hbad, rfl, rfl, rfl⟩ | ⟨p, q, f, e, a, c, rfl, rfl, hpq, hqm, hf, he, hfe, hen, ha, hc, hac, rfl, rfl, rfl⟩
  · have HE9 := Lib.hid (HKE.out.heap HE8.out (by simp))
    have HFIN := Lib.hid (show ∀ X Y Z, Chg [] w (((wc.setCell ⟨b + 2, 0, none⟩ X).setCell ⟨b + 2, 1, none⟩ Y).setCell ⟨b + 2, 2, none⟩ Z) from fun X Y Z => (((HC0.out.trans HKE.out (by simp)).setCell (p := ⟨b + 2, 0, none⟩) (.inr (by rw [← HBS.out]; simp)) X).setCell (p := ⟨b + 2, 1, none⟩) (.inr (by rw [← HBS.out]; simp)) Y).setCell (p := ⟨b + 2, 2, none⟩) (.inr (by rw [← HBS.out]; simp)) Z)
    have f9 : ∀ i, wc.frozen? ⟨b + 2, i, none⟩ = false := fun i => by simp [World.frozen?, HE9.out]
    have fz0 := f9 0; have fz1 := f9 1; have fz2 := f9 2
    have c0 : wc.cell? ⟨b + 2, 0, none⟩ = some (.slice none 0 0) := by simp [World.cell?, HE9.out]
    have c1 : wc.cell? ⟨b + 2, 1, none⟩ = some (.slice none 0 0) := by simp [World.cell?, HE9.out]
    have c2 : wc.cell? ⟨b + 2, 2, none⟩ = some (.slice none 0 0) := by simp [World.cell?, HE9.out]
    clear f9
    by_cases g1 : fr < 0
    · clear hbad
      go_wp2
      exact ret_col rfl rfl rfl (set3 HE9.out _ _ _) ⟨_, _, _, rfl, ⟨none, 0, rfl, Nat.le_refl _, by decide, fun h => absurd h (by simp)⟩, ⟨none, 0, rfl, Nat.le_refl _, by decide, fun h => absurd h (by simp)⟩, ⟨none, 0, rfl, Nat.le_refl _, by decide, fun h => absurd h (by simp)⟩, HFIN.out _ _ _⟩
    · by_cases g2 : (m : Int) + 1 ≤ tt
      · clear hbad
        go_wp2
        exact ret_col rfl rfl rfl (set3 HE9.out _ _ _) ⟨_, _, _, rfl, ⟨none, 0, rfl, Nat.le_refl _, by decide, fun h => absurd h (by simp)⟩, ⟨none, 0, rfl, Nat.le_refl _, by decide, fun h => absurd h (by simp)⟩, ⟨none, 0, rfl, Nat.le_refl _, by decide, fun h => absurd h (by simp)⟩, HFIN.out _ _ _⟩
      · have g3 : tt ≤ fr := by omega
        clear hbad
        go_wp2
        exact ret_col rfl rfl rfl (set3 HE9.out _ _ _) ⟨_, _, _, rfl, ⟨none, 0, rfl, Nat.le_refl _, by decide, fun h => absurd h (by simp)⟩, ⟨none, 0, rfl, Nat.le_refl _, by decide, fun h => absurd h (by simp)⟩, ⟨none, 0, rfl, Nat.le_refl _, by decide, fun h => absurd h (by simp)⟩, HFIN.out _ _ _⟩
  · have g1 : ¬ ((p : Int) < 0) := by omega
    have g2 : ¬ ((m : Int) + 1 ≤ (q : Int)) := by omega
    have g3 : ¬ ((q : Int) ≤ (p : Int)) := by omega
    obtain ⟨gb, ob, rfl, hcb⟩ := SeenI.get HSE.out (by omega) (by simp [HMM.out])
    have r1 : wc.cell? ⟨gb, ob + p, none⟩ = some (.int .i64 (f : Int)) := by rw [hcb p (by omega), List.getD, hf]; rfl
    have r2 : wc.cell? ⟨gb, ob + q, none⟩ = some (.int .i64 (e : Int)) := by rw [hcb q hqm, List.getD, he]; rfl
    have hpm : p < m + 1 := by omega
    have hp2 : (p : Int) < (m : Int) + 1 := by omega
    have hq2 : (q : Int) < (m : Int) + 1 := by omega
    clear hcb hf he
    have HA := Lib.hid ha; have HC := Lib.hid hc
    clear ha hc
    go_upto_region 6 with fail
    go_region
    obtain ⟨fo, fc, hF, uF⟩ := run_front_i (HD.out.keep (HC0.out.trans HKE.out (by simp))) hd1 f (by omega)
    obtain ⟨mo, mc, hM, uM⟩ := run_mid_i (HD.out.keep (HC0.out.trans HKE.out (by simp))) hd1 f e hfe hen
    have HF := Lib.hid hF; have HM := Lib.hid hM
    clear hF hM
    have HV2 := Lib.hid (show ∀ wx, Chg [] wc wx → Calls Try.prog 63 #[.slice fo f fc, .pointer (some ⟨b + 1, 0, none⟩)] wx fun e w' => e = .returned (.int .i64 (a : Nat)) ∧ Chg [] wx w' from fun wx hc => by
      have h := HVA.out wx _ _ (HKE.out.trans hc (by simp)) (HF.out.keep hc) (by rw [List.length_take, HDL.out]; omega)
      rwa [List.length_take, HDL.out, show min f n = f by omega, ← HA.out] at h)
    have HV3 := Lib.hid (show ∀ wx, Chg [] wc wx → Calls Try.prog 63 #[.slice mo (e - f) mc, .pointer (some ⟨b + 1, 0, none⟩)] wx fun e w' => e = .returned (.int .i64 (c : Nat)) ∧ Chg [] wx w' from fun wx hc => by
      have h := HVA.out wx _ _ (HKE.out.trans hc (by simp)) (HM.out.keep hc) (by rw [List.length_drop, List.length_take, HDL.out]; omega)
      rwa [List.length_drop, List.length_take, HDL.out, show min e n = e by omega, ← HC.out] at h)
    have HQC := Lib.hid (show ∀ wx, Chg [] wc wx → _ from fun wx h => HQ.out wx (HKE.out.trans h (by simp)))
    go_upto_region 7 with fail
    have HK8 := Lib.hid (show Chg [] wc wc.drew.drew from (Chg.refl [] wc).drew.drew)
    go_cut [14, 15] (fun s t wx => s = .int .i64 (a : Int) ∧ t = .int .i64 (c : Int) ∧ Chg [] wc wx)
    case first =>
      go_region_held3 (fun w' => w'.cell? ⟨b, 0, none⟩ = some (.slice ro n rc) ∧ w'.cell? ⟨b, 1, none⟩ = some (.slice do_ n dc) ∧ w'.cell? ⟨b, 2, none⟩ = some (.slice vo K vc) ∧ w'.cell? ⟨b + 1, 2, none⟩ = some (.int .i64 x)) (first | exact HQC.out _ (Chg.refl [] wc).drew | exact HQC.out _ HK8.out | exact HQC.out _ HK8.out.drew | exact HQC.out _ HK9.out | exact HQC.out _ HKX.out) (first
        | (go_simp; go_at_call 63; (with_reducible refine (HV2.out _ (by first | exact HK8.out | exact HK8.out.drew)).mono ?_); rintro e1 wx ⟨rfl, hk⟩; have HK9 := Lib.hid (Chg.trans (show Chg [] wc _ by first | exact HK8.out | exact HK8.out.drew) hk (by simp)); clear hk)
        | (go_simp; go_at_call 63; (with_reducible refine (HV3.out _ HK9.out).mono ?_); rintro e1 wx ⟨rfl, hk⟩; have HKX := Lib.hid (HK9.out.trans hk (by simp)); clear hk))
      all_goals
        try go_wp2
        go_meet
        case rel => exact ⟨rfl, rfl, HKX.out⟩
    case rest =>
    obtain ⟨rfl, rfl, hk⟩ := hcut
    have HKY := Lib.hid (HKE.out.trans hk (by simp))
    have HCY := Lib.hid (HC0.out.trans HKY.out (by simp))
    clear hk r1 r2
    obtain ⟨ro2, rc2, hR2, uR⟩ := run_mid_i (HR.out.keep HCY.out) hr1 f e hfe hen
    obtain ⟨do2, dc2, hD2, uD⟩ := run_mid_i (HD.out.keep HCY.out) hd1 f e hfe hen
    obtain ⟨s, hs⟩ : ∃ s, s = a + c := ⟨_, rfl⟩
    rw [← hs] at hac
    have HSS := Lib.hid hs
    obtain ⟨vo2, vc2, hV2, uV⟩ := run_mid_v (HV.out.keep HCY.out) hv1 a s (by omega) hac
    obtain ⟨L, hL⟩ : ∃ L, L = e - f := ⟨_, rfl⟩
    obtain ⟨c', hc'⟩ : ∃ c', c' = s - a := ⟨_, rfl⟩
    rw [← hL] at hR2 uR hD2 uD
    rw [← hc'] at hV2 uV
    clear uF uM
    have hKb : K ≤ n := by rw [← HVD.out]; exact cntX_le D x n
    have HW := Lib.hid (show IntKind.i64.wrap ((a : Int) + (c : Int)) = (s : Int) ∧ Go.RowKit.wrap64 ((a : Int) + (c : Int)) = (s : Int) by
      rw [show (a : Int) + (c : Int) = (s : Int) by omega]
      exact ⟨wrap_small' s (by omega), wrap_small s (by omega)⟩)
    have HL := Lib.hid (show ((R.take e).drop f).length = L ∧ ((D.take e).drop f).length = L from by constructor <;> rw [List.length_drop, List.length_take] <;> first | (rw [HDL.out]; omega) | (rw [← HN.out]; omega))
    have HLV := Lib.hid (show ((VL.take s).drop a).length = c' from by rw [List.length_drop, List.length_take, ← HK.out]; omega)
    have HR2 := Lib.hid hR2; have HD2 := Lib.hid hD2; have HV2 := Lib.hid hV2
    have hcb : c' ≤ 1000000 := by omega
    clear hR2 hD2 hV2 hL hc' hs
    have hLb : L ≤ 1000000 := by have := HL.out.1; rw [List.length_drop, List.length_take] at this; omega
    have HCR := Lib.hid (show ∀ wx, Chg [] wc wx → Calls Try.prog 64 #[.slice ro2 L rc2] wx fun e1 w' => ∃ ao ac, e1 = .returned (.slice ao L ac) ∧ SeenI w' (.slice ao L ac) ((R.take e).drop f) ∧ Chg [] wx w' from fun wx hc => by
      refine (cloneI_any _ _ wx (HR2.out.keep hc) (by rw [HL.out.1]; exact hLb)).mono ?_
      rintro e1 w' ⟨v, e2, h1, h2⟩
      obtain ⟨ao, ac, e3, -, -⟩ := h1.shape
      rw [HL.out.1] at e3
      subst e3
      exact ⟨ao, ac, e2, h1, h2⟩)
    have HCD := Lib.hid (show ∀ wx, Chg [] wc wx → Calls Try.prog 64 #[.slice do2 L dc2] wx fun e1 w' => ∃ ao ac, e1 = .returned (.slice ao L ac) ∧ SeenI w' (.slice ao L ac) ((D.take e).drop f) ∧ Chg [] wx w' from fun wx hc => by
      refine (cloneI_any _ _ wx (HD2.out.keep hc) (by rw [HL.out.2]; exact hLb)).mono ?_
      rintro e1 w' ⟨v, e2, h1, h2⟩
      obtain ⟨ao, ac, e3, -, -⟩ := h1.shape
      rw [HL.out.2] at e3
      subst e3
      exact ⟨ao, ac, e2, h1, h2⟩)
    have HCV := Lib.hid (show ∀ wx, Chg [] wc wx → Calls Try.prog 65 #[.slice vo2 c' vc2] wx fun e1 w' => ∃ ao ac, e1 = .returned (.slice ao c' ac) ∧ SeenV w' (.slice ao c' ac) ((VL.take s).drop a) ∧ Chg [] wx w' from fun wx hc => by
      refine (copied_any _ _ wx (HV2.out.keep hc) (by rw [HLV.out]; exact hcb) (fun z hz => HS.out z (List.mem_of_mem_take (List.mem_of_mem_drop hz)))).mono ?_
      rintro e1 w' ⟨v, e2, h1, h2⟩
      obtain ⟨ao, ac, e3, -, -⟩ := h1.shape
      rw [HLV.out] at e3
      subst e3
      exact ⟨ao, ac, e2, h1, h2⟩)
    have HQZ := Lib.hid (show ∀ wx, Chg [] wc wx → _ from fun wx h => HQ.out wx (HKY.out.trans h (by simp)))
    have HFZ := Lib.hid (show ∀ wx, Chg [] wc wx → wx.heap[b + 2]? = some (.cells #[.slice none 0 0, .slice none 0 0, .slice none 0 0] 42 (0, 0)) from fun wx h => (HKY.out.trans h (by simp)).heap HE8.out (by simp))
    have HK8 := Lib.hid (Chg.refl [] wc).drew
    have HSW := Lib.hid (show ∀ (wx : World) X Y Z, Chg [b + 2] wx (((wx.setCell ⟨b + 2, 0, none⟩ X).setCell ⟨b + 2, 1, none⟩ Y).setCell ⟨b + 2, 2, none⟩ Z) from fun wx X Y Z => (((Chg.refl [b + 2] wx).setCell (p := ⟨b + 2, 0, none⟩) (.inl (by simp)) X).setCell (p := ⟨b + 2, 1, none⟩) (.inl (by simp)) Y).setCell (p := ⟨b + 2, 2, none⟩) (.inl (by simp)) Z)
    have HQS := Lib.hid (show ∀ wx, Chg [] wc wx → ∀ X Y Z, (((wx.setCell ⟨b + 2, 0, none⟩ X).setCell ⟨b + 2, 1, none⟩ Y).setCell ⟨b + 2, 2, none⟩ Z).cell? ⟨b, 0, none⟩ = some (.slice ro n rc) ∧ (((wx.setCell ⟨b + 2, 0, none⟩ X).setCell ⟨b + 2, 1, none⟩ Y).setCell ⟨b + 2, 2, none⟩ Z).cell? ⟨b, 1, none⟩ = some (.slice do_ n dc) ∧ (((wx.setCell ⟨b + 2, 0, none⟩ X).setCell ⟨b + 2, 1, none⟩ Y).setCell ⟨b + 2, 2, none⟩ Z).cell? ⟨b, 2, none⟩ = some (.slice vo K vc) ∧ (((wx.setCell ⟨b + 2, 0, none⟩ X).setCell ⟨b + 2, 1, none⟩ Y).setCell ⟨b + 2, 2, none⟩ Z).cell? ⟨b + 1, 2, none⟩ = some (.int .i64 x) from fun wx h X Y Z => by
      obtain ⟨k0, k1, k2, k3⟩ := HQZ.out wx h
      have hS := HSW.out wx X Y Z
      exact ⟨hS.cell k0 (by simp), hS.cell k1 (by simp), hS.cell k2 (by simp), hS.cell k3 (by simp)⟩)
    obtain ⟨hw1, hw2⟩ := HW.out
    clear hKb hfe hen hac hpq hqm g1 g2 g3 hpm hp2 hq2
    go_upto_region 8 with fail
    go_region_held3 (fun w' => w'.cell? ⟨b, 0, none⟩ = some (.slice ro n rc) ∧ w'.cell? ⟨b, 1, none⟩ = some (.slice do_ n dc) ∧ w'.cell? ⟨b, 2, none⟩ = some (.slice vo K vc) ∧ w'.cell? ⟨b + 1, 2, none⟩ = some (.int .i64 x)) (first | exact HQZ.out _ (Chg.refl [] wc) | exact HQZ.out _ HK8.out | exact HQZ.out _ HK9.out | exact HQZ.out _ HKX.out | exact HQZ.out _ HKW.out | exact HQS.out _ HKW.out _ _ _) (first
      | (go_simp; go_at_call 64; (with_reducible refine (HCR.out _ HK8.out).mono ?_); rintro e1 wx ⟨ao1, ac1, rfl, hs1, hk⟩; have HK9 := Lib.hid (HK8.out.trans hk (by simp)); have HX1 := Lib.hid hs1; clear hk hs1)
      | (go_simp; go_at_call 64; (with_reducible refine (HCD.out _ HK9.out).mono ?_); rintro e1 wx ⟨ao2, ac2, rfl, hs1, hk⟩; have HKX := Lib.hid (HK9.out.trans hk (by simp)); have HX2 := Lib.hid hs1; have HX3 := Lib.hid (HX1.out.keep hk); clear hk hs1)
      | (go_simp; go_at_call 65; (with_reducible refine (HCV.out _ HKX.out).mono ?_); rintro e1 wx ⟨ao3, ac3, rfl, hs1, hk⟩; have HKW := Lib.hid (HKX.out.trans hk (by simp)); have HX4 := Lib.hid hs1; have HX5 := Lib.hid (HX2.out.keep hk); have HX6 := Lib.hid (HX3.out.keep hk); have f9 : ∀ i, wx.frozen? ⟨b + 2, i, none⟩ = false := fun i => by simp [World.frozen?, HFZ.out wx HKW.out]
         have fz0 := f9 0; have fz1 := f9 1; have fz2 := f9 2
         have y0 : wx.cell? ⟨b + 2, 0, none⟩ = some (.slice none 0 0) := by simp [World.cell?, HFZ.out wx HKW.out]
         have y1 : wx.cell? ⟨b + 2, 1, none⟩ = some (.slice none 0 0) := by simp [World.cell?, HFZ.out wx HKW.out]
         have y2 : wx.cell? ⟨b + 2, 2, none⟩ = some (.slice none 0 0) := by simp [World.cell?, HFZ.out wx HKW.out]
         clear f9 hk hs1))
    all_goals
      go_wp2
      have hS := HSW.out wx (.slice ao1 L ac1) (.slice ao2 L ac2) (.slice ao3 c' ac3)
      have hH := HFZ.out wx HKW.out
      exact ret_col rfl rfl rfl (set3 hH _ _ _) ⟨_, _, _, rfl, HX6.out.past (fun x => ⟨_, rfl, by simp⟩) hH hS, HX5.out.past (fun x => ⟨_, rfl, by simp⟩) hH hS, by rw [← HSS.out]; exact HX4.out.past (fun x => ⟨_, rfl, by simp⟩) hH hS, (HCY.out.trans HKW.out (by simp)).trans hS (fun k hk => .inr (by simp at hk; rw [hk, ← HBS.out]; omega))⟩

end Go.Proofs.Ytfdmbpfpdijpdaa
