/- Going through a tree: the next value. -/
import Derived.Test.YthhcnlmjcpkbnaaYn
import Derived.BigQuiet
import Derived.Deep.RegionHeld3
import Derived.Laws.ResultCell
import Derived.Test.YthhcnlmjcpkbnaaYi
namespace Go.Proofs.Ythhcnlmjcpkbnaa
open Go.RowKit
set_option linter.unusedVariables false

theorem info_place : ∃ i, Try.prog.info? 142 = some i ∧ i.zero = some (.agg #[.slice none 0 0, .int .i64 0, .int .i64 0]) ∧ i.size = 3 ∧ i.bytes = 40 :=
  info_parts (show (Try.prog.info? 142).map (fun i => (i.zero, i.size, i.bytes)) = some (some (.agg #[.slice none 0 0, .int .i64 0, .int .i64 0]), 3, 40) by kernel_rfl)

theorem ret_pair {fn : Func} (hres : fn.results = #[.cell 2 30, .tmp 3]) {post : Ending → World → Prop} {a : Act} {W : World} {gr : Nat} {x y z b : Value} (h4 : a.tmps.getD 2 undef = .pointer (some ⟨gr, 0, none⟩)) (h3 : a.tmps.getD 3 undef = b) (hd : a.defers = []) (hh : W.heap[gr]? = some (.cells #[x, y, z] 30 (0, 0))) (hp : post (.returned (.tuple #[.agg #[x, y, z], b])) W) : bodyPost Try.prog fn post .ret a W := by
  refine bodyPost_ret (v := .tuple #[.agg #[x, y, z], b]) ?_ hd hp
  rw [results_cell_tmp hres, h4, h3]
  have h := run_loadVar_row (P := Try.prog) W gr 30 30 #[x, y, z] (0, 0) _ hh Try.underlying30 rfl (by kernel_rfl)
  simp [asAddr, h, Result.andThen]

theorem reads3 {w : World} {B T s g n cap : Nat} {xs : List Value} (h : w.ownsRow B T s (.slice (some ⟨g, 0, none⟩) n cap) n xs) : ∃ a b : Nat, n ≤ cap ∧ cap ≤ maxLen ∧ a = b := by
  obtain ⟨hl, h1⟩ := h
  rcases h1 with ⟨he, -⟩ | ⟨g', cap', cur, he, hb, hg, hc, hmx, hs, ht⟩
  · cases he
  · injection he with e1 e2 e3
    subst e3
    exact ⟨0, 0, hc, hmx, rfl⟩

theorem Wk.cells {X : List Nat} {w0 w : World} {gw : Nat} {sv : Value} {P : List Pl} {d : Nat} (h : Wk X w0 w gw sv P d) : w.cell? ⟨gw, 0, none⟩ = some sv ∧ w.frozen? ⟨gw, 0, none⟩ = false := by
  have hb := h.bw
  exact ⟨by rw [cell_of_row w gw 0 _ _ _ hb]; rfl, by simp [World.frozen?, hb]⟩

set_option maxRecDepth 100000 in
set_option maxHeartbeats 4000000 in
theorem nextW_any (X : List Nat) (w0 w : World) (gw : Nat) (sv : Value) (P : List Pl) (d : Nat) (hW : Wk X w0 w gw sv P d) (hd : d ≤ 1000000) :
    Calls Try.prog 74 #[.pointer (some ⟨gw, 0, none⟩)] w fun e w' => NxOut X w0 w gw sv P d e w' := by
  obtain ⟨i0, hi, hz0, hz1, hz2⟩ := info_place
  have hgl : gw < w.heap.size := Go.lt_of_block hW.bw
  have HW := Lib.hid hW
  obtain ⟨gr, hgr⟩ : ∃ gr, gr = w.heap.size := ⟨_, rfl⟩
  have hne : gr ≠ gw := by omega
  have HRB := Lib.hid (show gr ∉ wkB gw sv from fun hm => by
    unfold wkB at hm
    rcases List.mem_cons.1 hm with h | h
    · omega
    · simp at h
      have := (hW.ow.lt gr h).2
      omega)
  clear hW
  have HN0 := Lib.hid (show N0 X w0 w (w.alloc (.cells #[.int .i64 0, .string { data := #[] }, .slice none 0 0] 30)) gw gr sv P d P sv from
    ⟨⟨HW.out.hk, HW.out.hl, HW.out.c0.alloc _, ((Chg.refl [] w).alloc _).heap HW.out.bw (by simp), HW.out.ow.alloc _, HW.out.ne, HW.out.g0⟩, rfl, rfl, (Chg.refl _ w).alloc _, by rw [hgr]; exact heap_alloc_new w _⟩)
  have HGR := Lib.hid hgr
  clear hgr
  go_enter Try.func74, Try.ntmps74
  go_wp2_with fail
  refine wp_scope_two_n (fun n a' w' => ∃ P1 sv1, (∃ u, a' = NF gw gr u) ∧ plM P1 = n ∧ N0 X w0 w w' gw gr sv P d P1 sv1)
    (fun n a' w' => ∃ P1 p cap go, (∃ u, a' = NG gw gr ⟨go, P1.length * 3, none⟩ u) ∧ plM (P1 ++ [p]) = n ∧ N0 X w0 w w' gw gr sv P d (P1 ++ [p]) (.slice (some ⟨go, 0, none⟩) (P1.length + 1) cap)) rfl rfl ?p1 ?p0 ?first
  case first =>
    intro T hfall
    rw [← HGR.out]
    go_wp2_with fail
    refine wp_label ?_
    rename_i hK2
    exact hK2 _ _ (hfall _ _ _ ⟨P, sv, NF_of rfl, rfl, HN0.out⟩)
  case p0 =>
    rintro n a' w' ⟨P1, sv1, ⟨u, rfl⟩, hn, hJ⟩ T hfall hQ
    unfold NF
    have hfr : ∀ i, w'.frozen? ⟨gr, i, none⟩ = false := fun i => by simp [World.frozen?, hJ.br]
    have r0 : w'.cell? ⟨gr, 0, none⟩ = some (.int .i64 0) := by rw [cell_of_row w' gr 0 _ _ _ hJ.br]; rfl
    have r1 : w'.cell? ⟨gr, 1, none⟩ = some (.string { data := #[] }) := by rw [cell_of_row w' gr 1 _ _ _ hJ.br]; rfl
    have r2 : w'.cell? ⟨gr, 2, none⟩ = some (.slice none 0 0) := by rw [cell_of_row w' gr 2 _ _ _ hJ.br]; rfl
    obtain ⟨c0, cf⟩ := hJ.wk.cells
    rcases List.eq_nil_or_concat P1 with hP | ⟨P2, p, hP⟩
    · subst hP
      obtain ⟨ao, cap, rfl⟩ := own_shape hJ.wk.ow
      have HJ := Lib.hid hJ
      have hc0 : w'.cell? ⟨gw, 0, none⟩ = some (.slice ao 0 cap) := c0
      clear hJ c0
      go_wp2_with fail
      refine hQ _ _ _ (by intro l h; cases h) ?_
      refine ret_pair rfl rfl rfl rfl (set3 HJ.out.br _ _ _) ⟨.inl ⟨?_, _, rfl⟩, chg3 HJ.out.cg (.inr (by rw [HGR.out]; exact Nat.le_refl _)) _ _ _⟩
      rw [nextS_pop HJ.out.pe.symm]
      rfl
    · rw [List.concat_eq_append] at hP
      subst hP
      obtain ⟨q, hq⟩ : ∃ q, q = (P2 ++ [p]).length := ⟨_, rfl⟩
      obtain ⟨ao, cap, rfl⟩ := own_shape hJ.wk.ow
      obtain ⟨go, rfl, -⟩ := own_ptr hJ.wk.ow (by simp)
      rw [← hq] at c0 hJ
      have hq2 : q = P2.length + 1 := by rw [hq]; simp
      have hd2 := hJ.wk.depth
      obtain ⟨m, hm⟩ : ∃ m, m = P2.length := ⟨_, rfl⟩
      have hqm : q = m + 1 := by omega
      have HJ := Lib.hid hJ; have HM := Lib.hid hm; have HN := Lib.hid hn
      have hmd : m < 1000000 := by rw [← hq] at hd2; omega
      have hz : IntKind.i64.wrap ((q : Int) - 1) = (m : Int) := by rw [IntWalk.i64_in _ (by omega)]; omega
      have hiq : (m : Int) < (q : Int) := by omega
      have hq0 : ((q : Int) == 0) = false := by simp; omega
      clear hJ hn hq hq2 hd2 hm r0 r1 r2 hfr
      go_wp2_with fail
      go_quiet (fail)
      go_wp2_with fail
      refine wp_label ?_
      rename_i hK2
      refine hK2 _ _ (hfall _ _ ⟨P2, p, cap, go, ?_, HN.out, ?_⟩)
      · rw [← HM.out]; exact NG_of rfl
      · rw [← HM.out, ← hqm]
        obtain ⟨h1, h2, h3, h4, h5⟩ := HJ.out
        exact ⟨⟨h1.hk, h1.hl, h1.c0.drewN _, h1.bw, h1.ow, h1.ne, h1.g0⟩, h2, h3, h4.drewN _, h5⟩
  case p1 =>
    rintro n a' w' ⟨P1, p, cap, go, ⟨u, rfl⟩, hn, hJ⟩
    unfold NG
    obtain ⟨c0, cf⟩ := hJ.wk.cells
    have hdep := hJ.wk.depth
    have hfl : (P1 ++ [p]).length = P1.length + 1 := by simp
    rw [hfl] at hdep
    have hKp := hJ.wk.hk P1.length p (by simp)
    have hlp := hJ.wk.hl p (by simp)
    obtain ⟨vo, vcap, hv, hv1, hv2⟩ := hKp.shape
    have hown := hJ.wk.ow
    rw [hfl] at hown
    obtain ⟨g', e, hB1, hB2, hfz, hcs⟩ := own_ptr hown (by omega)
    injection e with e
    injection e with e1 e2 e3
    subst e1
    obtain ⟨m, hm⟩ : ∃ m, m = P1.length := ⟨_, rfl⟩
    have hgt : ∀ j u, (encP p)[j]? = some u → w'.cell? ⟨go, m * 3 + j, none⟩ = some u := fun j u hu => hcs _ _ (by rw [hm]; exact flat_get encP_len (P1 ++ [p]) P1.length p j u (by simp) hu)
    have p0 : w'.cell? ⟨go, m * 3, none⟩ = some p.v := hgt 0 _ rfl
    have p1 : w'.cell? ⟨go, m * 3 + 1, none⟩ = some (.int .i64 (p.li : Int)) := hgt 1 _ rfl
    have p2 : w'.cell? ⟨go, m * 3 + 2, none⟩ = some (.int .i64 (p.it : Int)) := hgt 2 _ rfl
    have f1 := hfz (m * 3 + 1)
    have f2 := hfz (m * 3 + 2)
    have hgog : go ≠ gw := fun e => hJ.wk.ne (by rw [e]; rfl)
    have hgogr : go ≠ gr := fun e => by
      have h1 := hJ.sb
      simp [Value.ownBlock] at h1
      have h2 := (HW.out.ow.lt go h1.symm).2
      have := HGR.out
      omega
    obtain ⟨k, hk⟩ : ∃ k, k = p.K.length := ⟨_, rfl⟩
    obtain ⟨li, hli⟩ : ∃ k, k = p.li := ⟨_, rfl⟩
    obtain ⟨it, hit⟩ : ∃ k, k = p.it := ⟨_, rfl⟩
    rw [← hk] at hv hv1
    rw [hv] at p0
    rw [← hli] at p1
    rw [← hit] at p2
    rw [← hm] at c0 hdep ⊢
    have HKP := Lib.hid hKp; have HLP := Lib.hid hlp; have HV := Lib.hid hv; have HOW := Lib.hid hown
    have HMM := Lib.hid hm; have HKL := Lib.hid hk; have HLI := Lib.hid hli; have HIT := Lib.hid hit; have HJ := Lib.hid hJ; have HNN := Lib.hid hn
    have hkx : k ≤ 9223372036854775807 := by unfold maxLen at hv2; omega
    have hlk : li ≤ k := by rw [hli, hk]; exact hlp.1
    have hmd : m < 1000000 := by omega
    have hmcap : m + 1 ≤ cap := by
      obtain ⟨_, _, h1, h2, -⟩ := (reads3 hown)
      omega
    clear hJ hown hKp hlp hcs hgt hfz hv hk hli hit hm hfl hn
    by_cases h1 : li = k
    · have d1 : ((li : Int) == (k : Int)) = true := by simp; omega
      have hz : IntKind.i64.wrap (((m + 1 : Nat) : Int) - 1) = (m : Int) := by rw [IntWalk.i64_in _ (by omega)]; omega
      have hwm : IntKind.i64.wrap (m : Int) = (m : Int) := IntWalk.i64_in _ (by omega)
      have hm0 : (0 : Int) ≤ (m : Int) := by omega
      have hmc : (m : Int) ≤ (cap : Int) := by omega
      have htn : (m : Int).toNat = m := by omega
      have HRE := Lib.hid (rem_end (p := p) (by rw [← HLI.out, ← HKL.out]; exact h1) HLP.out.2)
      clear h1 p2 f1 f2
      go_wp2_with fail
      go_quiet (fail)
      go_wp2_with fail
      go_region
      go_wp2_with fail
      refine wp_goto ?_
      have hN := (HJ.out.drew (nq + 1)).pop HRE.out hne
      rw [← HMM.out] at hN
      refine .inl ⟨rfl, plM P1, ?_, P1, _, NF_of rfl, rfl, hN⟩
      have := HNN.out
      rw [plM_snoc] at this
      omega
    have hlk2 : li < k := by omega
    obtain ⟨x, hx⟩ : ∃ x, p.K[p.li]? = some x := ⟨_, List.getElem?_eq_getElem (by rw [← HLI.out, ← HKL.out]; exact hlk2)⟩
    have hkp := HKP.out
    rw [HV.out] at hkp
    obtain ⟨d', gk, koff, hdd, rfl, hgk, hck⟩ := KidsIn.get hkp (by omega)
    obtain ⟨lv, hlc, hll⟩ := hck p.li x hx
    rw [← HLI.out] at hlc
    have hlc := HJ.out.wk.c0.cell hlc (by simpa using hgk)
    obtain ⟨lo, lcap, rfl, hq1, hq2⟩ := hll.shape
    obtain ⟨q, hq⟩ : ∃ q, q = x.length := ⟨_, rfl⟩
    rw [← hq] at hlc hll hq1
    have HX := Lib.hid hx; have HQ := Lib.hid hq; have HLL := Lib.hid hll; have HDD := Lib.hid hdd
    have hqx : q ≤ 9223372036854775807 := by unfold maxLen at hq2; omega
    have d1 : ((li : Int) == (k : Int)) = false := by simp; omega
    have hli : (li : Int) < (k : Int) := by omega
    clear hkp hck hll hx hq hdd h1 hgk
    by_cases h2 : it = q
    · have d2 : ((it : Int) == (q : Int)) = true := by simp; omega
      have hwl : IntKind.i64.wrap ((li : Int) + 1) = (li : Int) + 1 := IntWalk.i64_in _ (by omega)
      have HITQ := Lib.hid (show p.it = x.length by rw [← HIT.out, ← HQ.out]; exact h2)
      clear h2
      go_wp2_with fail
      go_quiet (fail)
      generalize nq = n1
      go_wp2_with fail
      go_quiet (fail)
      generalize nq = n2
      go_wp2_with fail
      refine wp_goto ?_
      have hN := (HJ.out.drew (n1 + n2)).on HX.out HITQ.out (fun e => hgogr e.symm)
      rw [← HMM.out, ← HLI.out] at hN
      refine .inr ⟨rfl, plM (P1 ++ [{ p with li := li + 1, it := 0 }]), ?_, P1, { p with li := li + 1, it := 0 }, cap, go, by rw [← HMM.out]; exact NG_of rfl, rfl, by rw [← HMM.out]; exact hN⟩
      have := HNN.out
      rw [plM_snoc] at this ⊢
      have h3 := HKL.out
      have h4 := HLI.out
      show plM P1 + 1 + (p.K.length - (li + 1)) < n
      omega
    have hit2 : it < q := by
      have h3 := HLP.out.2
      rw [List.drop_eq_getElem_cons (by rw [← HLI.out, ← HKL.out]; exact hlk2)] at h3
      have h4 := HX.out
      rw [List.getElem?_eq_getElem (by rw [← HLI.out, ← HKL.out]; exact hlk2)] at h4
      injection h4 with h4
      rw [h4] at h3
      simp at h3
      rw [← HIT.out, ← HQ.out] at h3
      omega
    have d2 : ((it : Int) == (q : Int)) = false := by simp; omega
    obtain ⟨t, ht⟩ : ∃ t, x[p.it]? = some t := ⟨_, List.getElem?_eq_getElem (by rw [← HIT.out, ← HQ.out]; exact hit2)⟩
    obtain ⟨gl, loff, rfl, hgl3, hcl⟩ := ListIn.get HLL.out (by omega)
    obtain ⟨kv, b1, b2, b3, hkv⟩ := hcl p.it t ht
    rw [← HIT.out] at b1 b2 b3
    have b1 := HJ.out.wk.c0.cell b1 (by simpa using hgl3)
    have b2 := HJ.out.wk.c0.cell b2 (by simpa using hgl3)
    have b3 := HJ.out.wk.c0.cell b3 (by simpa using hgl3)
    obtain ⟨ko, kcap, rfl, -, -⟩ := hkv.shape
    clear hgl3
    have HT := Lib.hid ht; have HKV := Lib.hid hkv
    obtain ⟨tn, htn⟩ : ∃ n, n = t.n := ⟨_, rfl⟩
    obtain ⟨ts, hts⟩ : ∃ s, s = t.s := ⟨_, rfl⟩
    obtain ⟨tm, htm⟩ : ∃ m, m = t.k.length := ⟨_, rfl⟩
    rw [← htn] at b1
    rw [← hts] at b2
    rw [← htm] at b3 HKV
    have HTN := Lib.hid htn; have HTS := Lib.hid hts; have HTM := Lib.hid htm
    have hit3 : (it : Int) < (q : Int) := by omega
    have g0 : w'.cell? ⟨gr, 0, none⟩ = some (.int .i64 0) := by rw [cell_of_row w' gr 0 _ _ _ HJ.out.br]; rfl
    have g1 : w'.cell? ⟨gr, 1, none⟩ = some (.string { data := #[] }) := by rw [cell_of_row w' gr 1 _ _ _ HJ.out.br]; rfl
    have g2 : w'.cell? ⟨gr, 2, none⟩ = some (.slice none 0 0) := by rw [cell_of_row w' gr 2 _ _ _ HJ.out.br]; rfl
    have gf0 : w'.frozen? ⟨gr, 0, none⟩ = false := by simp [World.frozen?, HJ.out.br]
    have gf1 : w'.frozen? ⟨gr, 1, none⟩ = false := by simp [World.frozen?, HJ.out.br]
    have gf2 : w'.frozen? ⟨gr, 2, none⟩ = false := by simp [World.frozen?, HJ.out.br]
    clear hcl hkv ht htn hts htm
    go_wp2_with fail
    go_quiet (fail)
    generalize nq = n1
    go_wp2_with fail
    go_quiet (fail)
    generalize nq = n2
    go_wp2_with fail
    go_region
    go_wp2_with fail
    have hNd : N0 X w0 w (w'.drewN (n1 + n2 + 1)) gw gr sv P d (P1 ++ [p]) (.slice (some ⟨go, 0, none⟩) (P1.length + 1) cap) := HJ.out.drew _
    have hgr0 : w0.heap.size ≤ gr := by
      have h1 := HW.out.c0.size
      have h2 := HGR.out
      omega
    obtain ⟨wA, hwA⟩ : ∃ wA, wA = w'.drewN (n1 + n2 + 1) := ⟨_, rfl⟩
    rw [← hwA] at hNd ⊢
    have hcB := chg3 (S := [gr]) (Chg.refl _ wA) (gr := gr) (by simp) (.int .i64 tn) (.string ts) (.slice ko tm kcap)
    have hbB := set3 hNd.br (.int .i64 tn) (.string ts) (.slice ko tm kcap)
    have hWB := hNd.wk.far hcB (by simpa using hne.symm) (fun g hg hm => by simp [Value.ownBlock] at hg hm; omega) (by simpa using hgr0)
    have hCB : Chg (wkB gw sv) w _ := hNd.cg.trans hcB (fun t ht => .inr (by simp at ht; have := HGR.out; omega))
    obtain ⟨wB, hwB⟩ : ∃ wB, wB = ((wA.setCell ⟨gr, 0, none⟩ (.int .i64 tn)).setCell ⟨gr, 1, none⟩ (.string ts)).setCell ⟨gr, 2, none⟩ (.slice ko tm kcap) := ⟨_, rfl⟩
    rw [← hwB] at hbB hWB hCB ⊢
    have hcC : Chg [go] wB (wB.setCell ⟨go, m * 3 + 2, none⟩ (.int .i64 ((it : Int) + 1))) := (Chg.refl [go] wB).setCell (by simp) _
    have hsb : sv.ownBlock = some go := by rw [← hNd.sb]; rfl
    have hoC : (wB.setCell ⟨go, m * 3 + 2, none⟩ (.int .i64 ((it : Int) + 1))).ownsRow w0.heap.size 142 3 (.slice (some ⟨go, 0, none⟩) (P1.length + 1) cap) (P1.length + 1) (P1.flatMap encP ++ encP { p with it := it + 1 }) := by
      have ho := hWB.ow
      rw [List.length_append, List.length_singleton] at ho
      have h2 := own_set ho (P1.length * 3 + 2) (by omega) (.int .i64 ((it : Int) + 1))
      rw [flat_set1, ← HMM.out] at h2
      rw [← HMM.out]
      exact h2
    have hWC := hWB.set (p' := { p with it := it + 1 }) rfl rfl ⟨HLP.out.1, by
      have h4 := HX.out
      have hlx := (List.getElem?_eq_some_iff.1 h4).1
      rw [List.getElem?_eq_getElem hlx] at h4
      injection h4 with h4
      show it + 1 ≤ ((p.K.drop p.li).headD []).length
      rw [List.drop_eq_getElem_cons hlx, h4, List.headD_cons, ← HQ.out]
      omega⟩ hcC hoC
    have hbC := hcC.heap hbB (by simpa using fun e => hgogr e.symm)
    have hCC : Chg (wkB gw sv) w _ := hCB.trans hcC (by intro t ht; left; simp at ht; rw [ht]; unfold wkB; rw [hsb]; simp)
    obtain ⟨wC, hwC⟩ : ∃ wC, wC = wB.setCell ⟨go, m * 3 + 2, none⟩ (.int .i64 ((it : Int) + 1)) := ⟨_, rfl⟩
    rw [← hwC] at hWC hbC hCC ⊢
    have hq0 : (P1 ++ [{ p with it := it + 1 }]).length = m + 1 := by rw [HMM.out]; simp
    rw [← HMM.out, ← hq0] at hWC
    obtain ⟨Q, hQ⟩ : ∃ Q, Q = P1 ++ [{ p with it := it + 1 }] := ⟨_, rfl⟩
    have HQQ := Lib.hid hQ
    rw [← hQ] at hWC hq0
    have HWC := Lib.hid hWC; have HBC := Lib.hid hbC; have HCC := Lib.hid hCC; have HSB := Lib.hid hsb
    obtain ⟨cw, cfw⟩ := hWC.cells
    have cg2 : wC.cell? ⟨gr, 2, none⟩ = some (.slice ko tm kcap) := by rw [cell_of_row wC gr 2 _ _ _ hbC]; rfl
    have how := hWC.ow
    rw [hq0] at how cw
    have HOW2 := Lib.hid how
    have HKV2 := Lib.hid (show KidsIn (fun g => g ∉ X) w0 (d - Q.length) t.k (.slice ko tm kcap) by
      have h1 := HDD.out
      have h2 := HMM.out
      rw [hq0, show d - (m + 1) = d' by omega]
      exact HKV.out)
    have HQ0 := Lib.hid hq0
    clear hNd hcB hbB hWB hCB hwA hwB hcC hsb hoC hWC hbC hCC hwC hQ how hq0 g0 g1 g2 gf0 gf1 gf2 b1 b2 b3 p0 p1 p2 f1 f2 c0 cf hlc
    have cw' : ∀ o, (wC.alloc o).cell? ⟨gw, 0, none⟩ = some (.slice (some ⟨go, 0, none⟩) (m + 1) cap) := fun o => ((Chg.refl [] wC).alloc o).cell cw (by simp)
    have cg2' : ∀ o, (wC.alloc o).cell? ⟨gr, 2, none⟩ = some (.slice ko tm kcap) := fun o => ((Chg.refl [] wC).alloc o).cell cg2 (by simp)
    have HM1 := Lib.hid (show m + 1 + 1 ≤ maxLen by unfold maxLen; omega)
    have HM2 := Lib.hid (show (m + 1 + 1) * 40 ≤ 140737488355328 by omega)
    have HBZ := Lib.hid (show w0.heap.size ≤ wC.heap.size from HWC.out.c0.size)
    have HPX := Lib.hid (show ∀ (v3 : Value) (w3 : World), w3.ownsRow w0.heap.size 142 3 v3 (m + 1 + 1) (Q.flatMap encP ++ encP ⟨t.k, .slice ko tm kcap, 0, 0⟩) → (wC.alloc (.cells #[.slice ko tm kcap, .int .i64 0, .int .i64 0] 142)).drew.grownBy w3 (Value.slice (some ⟨go, 0, none⟩) (m + 1) cap).ownBlock → (v3.ownBlock = (Value.slice (some ⟨go, 0, none⟩) (m + 1) cap).ownBlock ∨ v3.ownBlock = some (wC.alloc (.cells #[.slice ko tm kcap, .int .i64 0, .int .i64 0] 142)).drew.heap.size) →
        w3.cell? ⟨gw, 0, none⟩ = some (Value.slice (some ⟨go, 0, none⟩) (m + 1) cap) ∧ w3.frozen? ⟨gw, 0, none⟩ = false ∧ (Wk X w0 (w3.setCell ⟨gw, 0, none⟩ v3) gw v3 (Q ++ [⟨t.k, .slice ko tm kcap, 0, 0⟩]) d ∧ Chg (wkB gw sv) w (w3.setCell ⟨gw, 0, none⟩ v3) ∧ (v3.ownBlock = sv.ownBlock ∨ ∃ g, v3.ownBlock = some g ∧ wC.heap.size ≤ g)) ∧ w3.heap[gr]? = some (.cells #[.int .i64 tn, .string ts, .slice ko tm kcap] 30 (0, 0)) from fun v3 w3 h1 h2 h3 => by
      have h4 : (wC.alloc (.cells #[.slice ko tm kcap, .int .i64 0, .int .i64 0] 142)).grownBy w3 (some go) := ⟨h2.os, h2.tape, h2.output, h2.size, h2.block⟩
      have h5 : Chg [go] wC w3 := ((Chg.refl [go] wC).alloc (.cells #[.slice ko tm kcap, .int .i64 0, .int .i64 0] 142)).grown h4 (fun g hg => .inl (by injection hg with hg; simp [hg]))
      have hgw2 := h5.heap HWC.out.bw (by simpa using fun e => hgog e.symm)
      rw [HQ0.out] at hgw2
      have hat : v3.ownBlock = some go ∨ v3.ownBlock = some (wC.alloc (.cells #[.slice ko tm kcap, .int .i64 0, .int .i64 0] 142)).heap.size := h3
      have hpu := Wk.push (n := ⟨t.k, .slice ko tm kcap, 0, 0⟩) (o := (.cells #[.slice ko tm kcap, .int .i64 0, .int .i64 0] 142)) HWC.out HCC.out HSB.out HKV2.out (And.intro rfl rfl) (by rw [HQ0.out]; exact h1) h4 hat
      exact ⟨(by rw [cell_of_row w3 gw 0 _ _ _ hgw2]; rfl), (by simp [World.frozen?, hgw2]), hpu, h5.heap HBC.out (by simpa using fun e => hgogr e.symm)⟩)
    go_region_law (first
      | (refine step_append_at (by rfl) (.tmp 103) (.tmp 107) 143 (by rfl) w0.heap.size 142 i0 (.agg #[.slice none 0 0, .int .i64 0, .int .i64 0]) 3 40 Try.underlying143 hi hz0 hz1 hz2 (by rfl) (by decide) (.slice (some ⟨go, 0, none⟩) (m + 1) cap) (m + 1) (Q.flatMap encP) (by rfl) (HOW2.out.alloc _) ⟨wC.heap.size, 0, none⟩ 1 1 (encP ⟨t.k, .slice ko tm kcap, 0, 0⟩) (by rfl) (by rfl) (new_cells (C := #[.slice ko tm kcap, .int .i64 0, .int .i64 0]) wC.heap.size rfl) (by intro u hu; simp [encP] at hu; rcases hu with rfl | rfl | rfl <;> rfl) HM1.out HM2.out (Nat.le_trans HBZ.out ((Chg.refl [] wC).drew.alloc _).size) ?_; intro v3 w3 hown3 hg3 hat3; obtain ⟨va3, vc3, rfl⟩ := own_shape hown3; obtain ⟨c23, f23, hpu3, hbr3⟩ := HPX.out _ _ hown3 hg3 hat3; have HPU := Lib.hid hpu3; have HBR3 := Lib.hid hbr3; clear hown3 hg3 hat3 hpu3 hbr3))
    all_goals
      have hbr4 : (w3.setCell ⟨gw, 0, none⟩ (.slice va3 (m + 1 + 1) vc3)).heap[gr]? = some (.cells #[.int .i64 tn, .string ts, .slice ko tm kcap] 30 (0, 0)) := ((Chg.refl [gw] w3).setCell (p := ⟨gw, 0, none⟩) (by simp) _).heap HBR3.out (by simpa using hne)
      obtain ⟨W, hWW⟩ : ∃ W, W = w3.setCell ⟨gw, 0, none⟩ (.slice va3 (m + 1 + 1) vc3) := ⟨_, rfl⟩
      rw [← hWW] at hbr4 HPU ⊢
      clear hWW cw cg2 cw' cg2' cfw c23 f23
      have HB4 := Lib.hid hbr4
      have g0 : W.cell? ⟨gr, 0, none⟩ = some (.int .i64 tn) := by rw [cell_of_row W gr 0 _ _ _ hbr4]; rfl
      have g1 : W.cell? ⟨gr, 1, none⟩ = some (.string ts) := by rw [cell_of_row W gr 1 _ _ _ hbr4]; rfl
      have g2 : W.cell? ⟨gr, 2, none⟩ = some (.slice ko tm kcap) := by rw [cell_of_row W gr 2 _ _ _ hbr4]; rfl
      have gf0 : W.frozen? ⟨gr, 0, none⟩ = false := by simp [World.frozen?, hbr4]
      have gf1 : W.frozen? ⟨gr, 1, none⟩ = false := by simp [World.frozen?, hbr4]
      have gf2 : W.frozen? ⟨gr, 2, none⟩ = false := by simp [World.frozen?, hbr4]
      clear hbr4
      go_wp2
      simp only [Exit.jumps]
      refine ret_pair rfl rfl rfl rfl (set3 HB4.out _ _ _) ⟨.inr ⟨t, .slice ko tm kcap, _, Q ++ [⟨t.k, .slice ko tm kcap, 0, 0⟩], ?_, ?_, ?_, ?_, HPU.out.2.2.imp id (fun ⟨g2, h1, h2⟩ => ⟨g2, h1, Nat.le_trans HCC.out.size h2⟩)⟩, ?_⟩
      · rw [HTN.out, HTS.out]; rfl
      · rw [← nextS_pop HJ.out.pe, stk_snoc, rem_take HX.out HT.out, HQQ.out, stk_snoc, stk_snoc, rem_new, HIT.out]
        unfold nextS
        rfl
      · rw [HTM.out] at HKV
        have h := KidsIn.mono (d' := d) (fun _ h => h) HKV.out (by have := HDD.out; omega)
        rw [← HTM.out] at h
        exact h
      · exact HPU.out.1.far (chg3 (S := [gr]) (Chg.refl _ W) (gr := gr) (by simp) _ _ _) (by simpa using hne.symm) (fun g hg hm => by
          simp at hm
          rw [hm] at hg
          rcases HPU.out.2.2 with h1 | ⟨g2, h1, h2⟩
          · rw [h1, HSB.out] at hg
            injection hg with hg
            exact hgogr hg
          · rw [h1] at hg
            injection hg with hg
            have : gr < wC.heap.size := Go.lt_of_block HBC.out
            omega) (by simp; have := HWC.out.c0.size; have := HGR.out; have := HW.out.c0.size; omega)
      · exact chg3 HPU.out.2.1 (.inr (by rw [HGR.out]; exact Nat.le_refl _)) _ _ _

end Go.Proofs.Ythhcnlmjcpkbnaa
