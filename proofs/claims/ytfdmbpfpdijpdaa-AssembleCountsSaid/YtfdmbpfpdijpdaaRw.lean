/- Contract of the reference's walk: of each field its group, and its depth; of its Parents. -/
import Derived.Test.YtfdmbpfpdijpdaaA5
namespace Go.Proofs.Ytfdmbpfpdijpdaa
open Go.RowKit
set_option linter.unusedVariables false

/-- How the walk stands ahead of field i. -/
structure WJ (l : List F) (w w' : World) (i : Nat) (st : List (Nat × Int)) (P D : List Int) (pv dv ov lv : Value) : Prop where
  le : i ≤ l.length
  sl : st.length ≤ i
  fi : Fine st
  ep : P ++ parR i (l.drop i) st = parents l
  ed : D ++ depR i (l.drop i) st = depthsR l
  cg : Chg [] w w'
  op : w'.ownsRow w.heap.size 3 1 pv i (iv P)
  od : w'.ownsRow w.heap.size 3 1 dv i (iv D)
  oo : w'.ownsRow w.heap.size 3 1 ov st.length (iv (grS st))
  ol : w'.ownsRow w.heap.size 3 1 lv st.length (iv (ctS st))
  s1 : Sep pv dv
  s2 : Sep pv ov
  s3 : Sep pv lv
  s4 : Sep dv ov
  s5 : Sep dv lv
  s6 : Sep ov lv

theorem par_at {l : List F} {i : Nat} {f : F} {st : List (Nat × Int)} (hf : l[i]? = some f) : parR i (l.drop i) st = topS (popR st) :: parR (i + 1) (l.drop (i + 1)) (pushR i f (decS (popR st))) ∧ depR i (l.drop i) st = ((popR st).length : Int) :: depR (i + 1) (l.drop (i + 1)) (pushR i f (decS (popR st))) := by
  have hi := (List.getElem?_eq_some_iff.1 hf).1
  rw [List.getElem?_eq_getElem hi] at hf
  injection hf with hf
  rw [List.drop_eq_getElem_cons hi]
  simp only [parR, depR, hf, and_self]

/-- How the walk stands once field i has its group and its depth. -/
structure WK (l : List F) (w w' : World) (i : Nat) (f : F) (st : List (Nat × Int)) (P D : List Int) (pv dv ov lv : Value) : Prop where
  sl : st.length ≤ i
  fi : Fine st
  ep : P ++ parR (i + 1) (l.drop (i + 1)) (pushR i f st) = parents l
  ed : D ++ depR (i + 1) (l.drop (i + 1)) (pushR i f st) = depthsR l
  cg : Chg [] w w'
  op : w'.ownsRow w.heap.size 3 1 pv (i + 1) (iv P)
  od : w'.ownsRow w.heap.size 3 1 dv (i + 1) (iv D)
  oo : w'.ownsRow w.heap.size 3 1 ov st.length (iv (grS st))
  ol : w'.ownsRow w.heap.size 3 1 lv st.length (iv (ctS st))
  s1 : Sep pv dv
  s2 : Sep pv ov
  s3 : Sep pv lv
  s4 : Sep dv ov
  s5 : Sep dv lv
  s6 : Sep ov lv

/-- Both rows have one more. -/
theorem WK.of {l : List F} {w wi w2 w3 : World} {i : Nat} {f : F} {st : List (Nat × Int)} {P D : List Int} {x y : Int} {pv dv ov lv pv2 dv3 : Value} {o1 o2 : Obj}
    (sl : st.length ≤ i) (fi : Fine st) (ep : P ++ x :: parR (i + 1) (l.drop (i + 1)) (pushR i f st) = parents l) (ed : D ++ y :: depR (i + 1) (l.drop (i + 1)) (pushR i f st) = depthsR l) (cg : Chg [] w wi)
    (od : wi.ownsRow w.heap.size 3 1 dv i (iv D)) (op : wi.ownsRow w.heap.size 3 1 pv i (iv P)) (oo : wi.ownsRow w.heap.size 3 1 ov st.length (iv (grS st))) (ol : wi.ownsRow w.heap.size 3 1 lv st.length (iv (ctS st)))
    (s1 : Sep pv dv) (s2 : Sep pv ov) (s3 : Sep pv lv) (s4 : Sep dv ov) (s5 : Sep dv lv) (s6 : Sep ov lv)
    (h2 : w2.ownsRow w.heap.size 3 1 pv2 (i + 1) (iv P ++ [.int .i64 x])) (g2 : (wi.alloc o1).grownBy w2 pv.ownBlock) (a2 : pv2.ownBlock = pv.ownBlock ∨ pv2.ownBlock = some (wi.alloc o1).heap.size)
    (h3 : w3.ownsRow w.heap.size 3 1 dv3 (i + 1) (iv D ++ [.int .i64 y])) (g3 : (w2.alloc o2).grownBy w3 dv.ownBlock) (a3 : dv3.ownBlock = dv.ownBlock ∨ dv3.ownBlock = some (w2.alloc o2).heap.size) :
    WK l w w3 i f st (P ++ [x]) (D ++ [y]) pv2 dv3 ov lv := by
  have hp := own_ge op
  have hd := own_ge od
  have q1 : (w2.alloc o2).ownsRow w.heap.size 3 1 dv i (iv D) := (own_kept (od.alloc o1) g2 s1.symm).alloc o2
  have q2 : (w2.alloc o2).ownsRow w.heap.size 3 1 ov st.length (iv (grS st)) := (own_kept (oo.alloc o1) g2 s2.symm).alloc o2
  have q3 : (w2.alloc o2).ownsRow w.heap.size 3 1 lv st.length (iv (ctS st)) := (own_kept (ol.alloc o1) g2 s3.symm).alloc o2
  have t1 : Sep pv2 dv := s1.grow a2 (own_lt (od.alloc o1))
  have t2 : Sep pv2 ov := s2.grow a2 (own_lt (oo.alloc o1))
  have t3 : Sep pv2 lv := s3.grow a2 (own_lt (ol.alloc o1))
  have t4 : Sep dv3 pv2 := t1.symm.grow a3 (own_lt (h2.alloc o2))
  refine ⟨sl, fi, by rw [List.append_assoc]; exact ep, by rw [List.append_assoc]; exact ed, ?_, ?_, by rw [← iv_snoc]; exact h3, own_kept q2 g3 s4.symm, own_kept q3 g3 s5.symm, t4.symm, t2, t3, s4.grow a3 (own_lt q2), s5.grow a3 (own_lt q3), s6⟩
  · exact ((cg.alloc o1).grown g2 (fun k hk => .inr (hp k hk)) |>.alloc o2).grown g3 (fun k hk => .inr (hd k hk))
  · rw [← iv_snoc]; exact own_kept (h2.alloc o2) g3 t1

theorem WK.push {l : List F} {w w3 w4 w5 W4 W5 : World} {i : Nat} {f : F} {st : List (Nat × Int)} {P D : List Int} {pv dv ov lv ov4 lv5 : Value} {k : Nat} (hK : WK l w w3 i f st P D pv dv ov lv) (hi : i < l.length) (hk : f.k = 0 ∧ 0 < f.c) (hc : f.c ≤ 9223372036854775807) (hlen : k = st.length)
    (C4 : Chg [] w3 W4) (h4 : w4.ownsRow w.heap.size 3 1 ov4 (k + 1) (iv (grS st) ++ [.int .i64 (i : Int)])) (g4 : W4.grownBy w4 ov.ownBlock) (a4 : ov4.ownBlock = ov.ownBlock ∨ ov4.ownBlock = some W4.heap.size)
    (C5 : Chg [] w4 W5) (h5 : w5.ownsRow w.heap.size 3 1 lv5 (k + 1) (iv (ctS st) ++ [.int .i64 f.c])) (g5 : W5.grownBy w5 lv.ownBlock) (a5 : lv5.ownBlock = lv.ownBlock ∨ lv5.ownBlock = some W5.heap.size) :
    WJ l w w5 (i + 1) ((i, f.c) :: st) P D pv dv ov4 lv5 := by
  subst hlen
  have keep4 : ∀ {v n xs}, w3.ownsRow w.heap.size 3 1 v n xs → W4.ownsRow w.heap.size 3 1 v n xs := fun h => own_chg h C4 (by simp)
  have keep5 : ∀ {v n xs}, w4.ownsRow w.heap.size 3 1 v n xs → W5.ownsRow w.heap.size 3 1 v n xs := fun h => own_chg h C5 (by simp)
  have p4 := own_kept (keep4 hK.op) g4 hK.s2
  have d4 := own_kept (keep4 hK.od) g4 hK.s4
  have l4 := own_kept (keep4 hK.ol) g4 hK.s6.symm
  have t2 : Sep ov4 pv := hK.s2.symm.grow a4 (own_lt (keep4 hK.op))
  have t4 : Sep ov4 dv := hK.s4.symm.grow a4 (own_lt (keep4 hK.od))
  have t6 : Sep ov4 lv := hK.s6.grow a4 (own_lt (keep4 hK.ol))
  have hpush : pushR i f st = (i, f.c) :: st := by unfold pushR; rw [if_pos hk]
  refine ⟨hi, by simp; exact hK.sl, ?_, by rw [← hpush]; exact hK.ep, by rw [← hpush]; exact hK.ed, ?_, own_kept (keep5 p4) g5 hK.s3, own_kept (keep5 d4) g5 hK.s5, ?_, ?_, hK.s1, t2.symm, (hK.s3.symm.grow a5 (own_lt (keep5 p4))).symm, t4.symm, (hK.s5.symm.grow a5 (own_lt (keep5 d4))).symm, (t6.symm.grow a5 (own_lt (keep5 h4))).symm⟩
  · intro e he
    rcases List.mem_cons.1 he with rfl | he
    · exact ⟨by simp only; omega, hc⟩
    · exact hK.fi e he
  · exact (((hK.cg.trans C4 (by simp)).grown g4 (fun g hg => .inr (own_ge hK.oo g hg))).trans C5 (by simp)).grown g5 (fun g hg => .inr (own_ge hK.ol g hg))
  · rw [grS_cons, ← iv_snoc]; exact own_kept (keep5 h4) g5 t6
  · rw [ctS_cons, ← iv_snoc]; exact h5

theorem WK.skip {l : List F} {w w3 : World} {i : Nat} {f : F} {st : List (Nat × Int)} {P D : List Int} {pv dv ov lv : Value} (hK : WK l w w3 i f st P D pv dv ov lv) (hi : i < l.length) (hk : ¬ (f.k = 0 ∧ 0 < f.c)) : WJ l w w3 (i + 1) st P D pv dv ov lv := by
  have hpush : pushR i f st = st := by unfold pushR; rw [if_neg hk]
  exact ⟨hi, Nat.le_succ_of_le hK.sl, hK.fi, by rw [← hpush]; exact hK.ep, by rw [← hpush]; exact hK.ed, hK.cg, hK.op, hK.od, hK.oo, hK.ol, hK.s1, hK.s2, hK.s3, hK.s4, hK.s5, hK.s6⟩

set_option maxRecDepth 100000 in
set_option maxHeartbeats 8000000 in
theorem rwalk_any (sv : Value) (l : List F) (w : World) (hS : SeenF w sv l) (hl : l.length ≤ 1000000) (hw : ∀ f ∈ l, f.c ≤ 9223372036854775807) :
    Calls Try.prog 86 #[sv] w fun e w' => ∃ pv dv, e = .returned (.tuple #[pv, dv]) ∧ w'.ownsRow w.heap.size 3 1 pv l.length (iv (parents l)) ∧ w'.ownsRow w.heap.size 3 1 dv l.length (iv (depthsR l)) ∧ Chg [] w w' := by
  obtain ⟨i0, hi, hz0, hz1, hz2⟩ := info_int
  obtain ⟨ao, cap, rfl, hc1, hc2⟩ := hS.shape
  have HS := Lib.hid hS; have HW := Lib.hid hw
  clear hS hw
  obtain ⟨n, hn⟩ : ∃ n, n = l.length := ⟨_, rfl⟩
  rw [← hn] at hc1 hl HS ⊢
  have HN := Lib.hid hn
  clear hn
  go_enter Try.func86, Try.ntmps86
  go_wp2
  go_loopw [4, 5, 6, 7, 8] (fun pv dv ov lv x w' => ∃ (i : Nat) (st : List (Nat × Int)) (P D : List Int), x = .int .i64 (i : Int) ∧ WJ l w w' i st P D pv dv ov lv) (fun _ _ _ _ x _ => n - (intOf x).toNat)
  case atStart => exact ⟨0, [], [], [], rfl, ⟨by omega, by simp, by intro e he; simp at he, by simpa using parR_parents l, rfl, Chg.refl _ _, World.ownsRow_nil _ _ _ _, World.ownsRow_nil _ _ _ _, World.ownsRow_nil _ _ _ _, World.ownsRow_nil _ _ _ _, Sep.nil _, Sep.nil _, Sep.nil _, Sep.nil _, Sep.nil _, Sep.nil _⟩⟩
  case round =>
    obtain ⟨i, st, P, D, rfl, hJ⟩ := hrel
    have hle := hJ.le
    rw [← HN.out] at hle
    obtain ⟨pa, pc, rfl⟩ := own_shape hJ.op
    obtain ⟨da, dc, rfl⟩ := own_shape hJ.od
    obtain ⟨oa, oc, rfl⟩ := own_shape hJ.oo
    obtain ⟨la, lc, rfl⟩ := own_shape hJ.ol
    have HJ := Lib.hid hJ
    clear hJ
    by_cases hlt : i < n
    · obtain ⟨gs, os, rfl, hss⟩ := SeenF.get HS.out (by omega) HN.out.symm
      have HSS := Lib.hid hss
      clear hss
      go_wp2
      go_loopw [6, 7] (fun o' l' wx => ∃ (st' : List (Nat × Int)) (q : Nat), st' <:+ st ∧ popR st' = popR st ∧ o' = .slice oa st'.length oc ∧ l' = .slice la st'.length lc ∧ wx = wr.drewN q ∧ wx.ownsRow w.heap.size 3 1 o' st'.length (iv (grS st')) ∧ wx.ownsRow w.heap.size 3 1 l' st'.length (iv (ctS st'))) (fun o' _ _ => slen o')
      case atStart => exact ⟨st, 0, List.suffix_refl _, rfl, rfl, rfl, rfl, HJ.out.oo, HJ.out.ol⟩
      case round =>
        obtain ⟨st', q, hsuf, hpop, rfl, rfl, rfl, hoo, hol⟩ := hrel
        have hslen : st'.length ≤ i := Nat.le_trans hsuf.length_le HJ.out.sl
        have HSUF := Lib.hid hsuf; have HPOP := Lib.hid hpop; have HOO := Lib.hid hoo; have HOL := Lib.hid hol
        have HCG := Lib.hid (HJ.out.cg.drewN q)
        clear hsuf hpop hoo hol
        obtain ⟨wi, hwi⟩ : ∃ wi, wi = wr.drewN q := ⟨_, rfl⟩
        rw [← hwi] at HOO HOL HCG ⊢
        have HWI := Lib.hid hwi
        clear hwi
        have HFI := Lib.hid (show Fine st' from fun e he => HJ.out.fi e (HSUF.out.subset he))
        have HOP := Lib.hid (show wi.ownsRow w.heap.size 3 1 (.slice pa i pc) i (iv P) by rw [HWI.out]; exact HJ.out.op)
        have HOD := Lib.hid (show wi.ownsRow w.heap.size 3 1 (.slice da i dc) i (iv D) by rw [HWI.out]; exact HJ.out.od)
        obtain ⟨f, hf⟩ : ∃ f, l[i]? = some f := ⟨_, List.getElem?_eq_getElem (by rw [← HN.out]; exact hlt)⟩
        have hpa := par_at (st := st) hf
        rw [← HPOP.out] at hpa
        have HPA := Lib.hid hpa
        have hfc := HW.out f (List.mem_of_getElem? hf)
        have HF := Lib.hid hf
        have hm2 : i + 1 ≤ maxLen := by unfold maxLen; omega
        have hm3 : (i + 1) * 8 ≤ 140737488355328 := by omega
        have HM2 := Lib.hid hm2; have HM3 := Lib.hid hm3
        have HBS := Lib.hid (show w.heap.size ≤ wi.heap.size from HCG.out.size)
        clear hpa hf hm2 hm3
        rcases st' with - | ⟨⟨g, x⟩, t⟩
        · have HBSW := HBS
          go_upto_region 11 with (first
            | (at_builtin; refine wpList_append_at _ rfl (.tmp 40) (.tmp 41) _ rfl w.heap.size 3 i0 (.int .i64 0) 1 8 Try.underlying22 hi hz0 hz1 hz2 rfl (by omega) (.slice pa i pc) i (iv P) rfl (HOP.out.alloc _) ⟨wi.heap.size, 0, none⟩ 1 1 [.int .i64 (-1)] rfl rfl new_cell (by simp [Value.oneCell']) HM2.out HM3.out (by simp; have := HBS.out; omega) ?_; intro v2 w2 hown2 hg2 hat2; obtain ⟨pa2, pc2, rfl⟩ := own_shape hown2; have HO2 := Lib.hid hown2; have HG2 := Lib.hid hg2; have HA2 := Lib.hid hat2; have HB2 := Lib.hid (show w.heap.size ≤ w2.heap.size from by have := hg2.size; have := HBS.out; simp at *; omega); have HD2 := Lib.hid (own_kept (HOD.out.alloc _) hg2 HJ.out.s1.symm); clear hown2 hg2 hat2)
            | (at_builtin; refine wpList_append_at _ rfl (.tmp 43) (.tmp 44) _ rfl w.heap.size 3 i0 (.int .i64 0) 1 8 Try.underlying22 hi hz0 hz1 hz2 rfl (by omega) (.slice da i dc) i (iv D) rfl (HD2.out.alloc _) ⟨w2.heap.size, 0, none⟩ 1 1 [.int .i64 0] rfl rfl new_cell (by simp [Value.oneCell']) HM2.out HM3.out (by simp; have := HB2.out; omega) ?_; intro v3 w3 hown3 hg3 hat3; obtain ⟨da3, dc3, rfl⟩ := own_shape hown3; have HO3 := Lib.hid hown3; have HG3 := Lib.hid hg3; have HA3 := Lib.hid hat3; clear hown3 hg3 hat3)
            | fail)
          have HK := Lib.hid (WK.of (f := f) (st := []) (x := -1) (y := 0) (by simp) (by intro e he; simp at he) (by
              have h := HJ.out.ep
              rw [HPA.out.1, popR] at h
              exact h) (by
              have h := HJ.out.ed
              rw [HPA.out.2, popR] at h
              exact h) HCG.out HOD.out HOP.out HOO.out HOL.out HJ.out.s1 HJ.out.s2.symm.sl.symm HJ.out.s3.symm.sl.symm HJ.out.s4.symm.sl.symm HJ.out.s5.symm.sl.symm HJ.out.s6.sl.symm.sl.symm HO2.out HG2.out HA2.out HO3.out HG3.out HA3.out)
          have HK1 := Lib.hid HK.out.oo; have HK2 := Lib.hid HK.out.ol
          rw [List.length_nil] at HK1 HK2
          obtain ⟨a1, a2, a3, a4⟩ := HSS.out i hlt
          have hfd : l.getD i default = f := by rw [List.getD, HF.out]; rfl
          rw [hfd] at a3 a4
          have b3 := HK.out.cg.cell a3 (by simp)
          have b4 := HK.out.cg.cell a4 (by simp)
          clear a1 a2 a3 a4 hfd HG2 HG3 HA2 HA3 HO2 HO3 HD2
          have hwz : w.heap.size ≤ w3.heap.size := HK.out.cg.size
          have HWZ := Lib.hid hwz
          have HM4 := Lib.hid (show 0 + 1 ≤ maxLen by unfold maxLen; omega)
          have HM5 := Lib.hid (show (0 + 1) * 8 ≤ 140737488355328 by omega)
          clear hwz
          by_cases hk : f.k = 0 ∧ 0 < f.c
          · have HKK := Lib.hid hk
            obtain ⟨hk0, hc0⟩ := hk
            have d1 : (f.k == 0) = true := by simpa using hk0
            have d2 : decide (0 < f.c) = true := by simpa using hc0
            have hgs0 : gs < w.heap.size := World.block_lt_of_cell? w _ (HSS.out i hlt).1
            have hgs3 : gs < w3.heap.size := by have := HWZ.out; omega
            go_upto_region 12 with fail
            go_region_held3 (fun w' => w'.cell? ⟨gs, os + i * 4 + 3, none⟩ = some (.int .i64 f.c)) (first | (exact b4) | (exact HS4.out) | (exact ((Chg.refl [] _).alloc _).cell b4 (by simp)) | (exact ((Chg.refl [] _).alloc _).cell HS4.out (by simp)) | (exact (((Chg.refl [] _).alloc _).alloc _).cell b4 (by simp))) (first
              | (refine step_append_at (by rfl) (.tmp 82) (.tmp 84) _ (by rfl) w.heap.size 3 i0 (.int .i64 0) 1 8 Try.underlying22 hi hz0 hz1 hz2 (by rfl) (by omega) (.slice oa 0 oc) (0) (iv (grS ([] : List (Nat × Int)))) (by rfl) ?_ _ 1 1 [.int .i64 (i : Int)] (by rfl) (by rfl) ?_ one_i HM4.out HM5.out ?_ ?_; (focus (first | (exact HK1.out.alloc _) | (exact (HK1.out.alloc _).alloc _))); (focus (first | (exact new_cell) | (exact new_cell2) | (exact new_cells (C := #[.int .i64 (i : Int)]) _ (by simp)))); (focus (first | (refine le_alloc ?_ _; exact HWZ.out) | (refine le_alloc (le_alloc ?_ _) _; exact HWZ.out))); intro v4 w4 hown4 hg4 hat4; obtain ⟨oa4, oc4, rfl⟩ := own_shape hown4; have HO4 := Lib.hid hown4; have HG4 := Lib.hid hg4; have HA4 := Lib.hid hat4; have HB4 := Lib.hid (show w.heap.size ≤ w4.heap.size from Nat.le_trans (by first | (refine le_alloc ?_ _; exact HWZ.out) | (refine le_alloc (le_alloc ?_ _) _; exact HWZ.out)) hg4.size); have HS4 := Lib.hid (show w4.cell? ⟨gs, os + i * 4 + 3, none⟩ = some (.int .i64 f.c) from ((World.cell?_of_block (hg4.block gs (by first | (refine lt_alloc ?_ _; exact hgs3) | (refine lt_alloc (lt_alloc ?_ _) _; exact hgs3)) (fun e => absurd (own_ge HK1.out gs e.symm) (by omega)))).trans (by assumption))); have HL4 := Lib.hid (own_kept (by first | exact HK2.out.alloc _ | exact (HK2.out.alloc _).alloc _) hg4 HK.out.s6.symm); clear hown4 hg4 hat4)
              | (refine step_append_at (by rfl) (.tmp 86) (.tmp 92) _ (by rfl) w.heap.size 3 i0 (.int .i64 0) 1 8 Try.underlying22 hi hz0 hz1 hz2 (by rfl) (by omega) (.slice la 0 lc) (0) (iv (ctS ([] : List (Nat × Int)))) (by rfl) ?_ _ 1 1 [.int .i64 f.c] (by rfl) (by rfl) ?_ one_i HM4.out HM5.out ?_ ?_; (focus (first | (exact HL4.out.alloc _) | (exact HL4.out))); (focus (first | (exact new_cell) | (exact cell_old HG4.out (by simp) (fun e => absurd (own_lt HK1.out _ e) (by first | (simp; done) | omega | (simp; omega)))))); (focus (first | (exact le_alloc HB4.out _) | (exact HB4.out))); intro v5 w5 hown5 hg5 hat5; obtain ⟨la5, lc5, rfl⟩ := own_shape hown5; have HO5 := Lib.hid hown5; have HG5 := Lib.hid hg5; have HA5 := Lib.hid hat5; have HS4 := Lib.hid (show w5.cell? ⟨gs, os + i * 4 + 3, none⟩ = some (.int .i64 f.c) from (World.cell?_of_block (hg5.block gs (by first | exact lt_alloc (Nat.lt_of_lt_of_le hgs0 HB4.out) _ | exact Nat.lt_of_lt_of_le hgs0 HB4.out) (fun e => absurd (own_ge HK2.out gs e.symm) (by omega)))).trans (by assumption)); clear hown5 hg5 hat5))
            all_goals
              go_wp2
              go_roundw
            all_goals first
              | (case' measure => simp [intOf]; omega)
              | skip
            all_goals
              refine ⟨i + 1, (i, f.c) :: ([] : List (Nat × Int)), _, _, by go_num, WK.push HK.out (by rw [← HN.out]; exact hlt) HKK.out hfc rfl ?_ HO4.out HG4.out HA4.out ?_ HO5.out HG5.out HA5.out⟩
              · first | exact (Chg.refl [] w3).drew.alloc _ | exact ((Chg.refl [] w3).drew.alloc _).alloc _
              · first | exact Chg.refl [] w4 | exact (Chg.refl [] w4).alloc _
          · have HKK := Lib.hid hk
            have hways : ¬ f.k = 0 ∨ f.k = 0 ∧ ¬ 0 < f.c := by omega
            clear hk
            rcases hways with h | ⟨h, h'⟩
            · have d1 : (f.k == 0) = false := by simpa using h
              go_wp2
              go_roundw
              case rel => exact ⟨i + 1, ([] : List (Nat × Int)), _, _, by go_num, WK.skip (HK.out) (by rw [← HN.out]; exact hlt) HKK.out⟩
              case measure => simp [intOf]; omega
            · have d1 : (f.k == 0) = true := by simpa using h
              have d2 : decide (0 < f.c) = false := by simpa using h'
              go_wp2
              go_roundw
              case rel => exact ⟨i + 1, ([] : List (Nat × Int)), _, _, by go_num, WK.skip (HK.out) (by rw [← HN.out]; exact hlt) HKK.out⟩
              case measure => simp [intOf]; omega
        · obtain ⟨go, rfl, hgoB, hgow, hgof, hgoc⟩ := own_ptr HOO.out (by simp)
          obtain ⟨gl, rfl, hglB, hglw, hglf, hglc⟩ := own_ptr HOL.out (by simp)
          have hxf := HFI.out (g, x) (by simp)
          simp only at hxf
          have hc1 : wi.cell? ⟨go, t.length, none⟩ = some (.int .i64 (g : Int)) := hgoc _ _ (grS_last g x t)
          have hc2 : wi.cell? ⟨gl, t.length, none⟩ = some (.int .i64 x) := hglc _ _ (ctS_last g x t)
          have hr1 := (own_room HOO.out).1
          have hr2 := (own_room HOL.out).1
          have hfz := hglf t.length
          clear hgof hgoc hglf hglc
          rw [List.length_cons] at hr1 hr2 hslen
          obtain ⟨m, hm⟩ : ∃ m, m = t.length := ⟨_, rfl⟩
          rw [← hm] at hc1 hc2 hr1 hr2 hslen hfz
          rw [List.length_cons, ← hm] at HOO HOL ⊢
          have HM := Lib.hid hm
          have hoc0 : ¬ oc = 0 := by omega
          have hlc0 : ¬ lc = 0 := by omega
          clear hm
          by_cases hx : x = 0
          · have e1 : (x == 0) = true := by simpa using hx
            have HX := Lib.hid hx
            clear hx hfz
            go_wp2_with fail
            go_quiet (fail)
            go_wp2
            go_roundw
            case rel =>
              have h1 := own_front HOO.out m (by omega)
              have h2 := own_front HOL.out m (by omega)
              rw [HM.out, grS_pop, ← HM.out] at h1
              rw [HM.out, ctS_pop, ← HM.out] at h2
              refine ⟨t, _, (List.suffix_cons _ t).trans HSUF.out, ?_, by rw [← HM.out], by rw [← HM.out], by rw [HWI.out]; exact drew_drew wr q _, ?_, ?_⟩
              · rw [← HPOP.out, popR, if_pos HX.out]
              · rw [← HM.out]; exact h1
              · rw [← HM.out]; exact h2
            case measure => simp [slen]
          · have e1 : (x == 0) = false := by simpa using hx
            have hx1 : 1 ≤ x ∧ x ≤ 9223372036854775807 := by omega
            have HX := Lib.hid hx
            have hne : go ≠ gl := fun e => HJ.out.s6 go rfl (by rw [e]; rfl)
            have HL1 := Lib.hid (show (wi.setCell ⟨gl, m, none⟩ (.int .i64 (x - 1))).ownsRow w.heap.size 3 1 (.slice (some ⟨gl, 0, none⟩) (m + 1) lc) (m + 1) (iv (ctS ((g, x - 1) :: t))) by
              have h := own_set HOL.out m (by omega) (.int .i64 (x - 1))
              rw [HM.out, ctS_dec, ← HM.out] at h
              exact h)
            have HCS := Lib.hid (show Chg [gl] wi (wi.setCell ⟨gl, m, none⟩ (.int .i64 (x - 1))) from (Chg.refl [gl] wi).setCell (by simp) _)
            have HO1 := Lib.hid (own_chg HOO.out HCS.out (by intro q' hq'; simp [Value.ownBlock] at hq'; subst hq'; simpa using hne))
            have HP1 := Lib.hid (own_chg HOP.out HCS.out (fun q' hq' hm' => HJ.out.s3 q' hq' (by simp at hm'; rw [hm']; rfl)))
            have HD1 := Lib.hid (own_chg HOD.out HCS.out (fun q' hq' hm' => HJ.out.s5 q' hq' (by simp at hm'; rw [hm']; rfl)))
            have hc3 := HCS.out.cell hc1 (by simpa using hne)
            have HC1 := Lib.hid (HCG.out.setCell (p := ⟨gl, m, none⟩) (by exact Or.inr hglB) (.int .i64 (x - 1)))
            have hbs1 : w.heap.size ≤ (wi.setCell ⟨gl, m, none⟩ (.int .i64 (x - 1))).heap.size := by simpa using HBS.out
            clear hx
            go_upto_region 10 with fail
            generalize wi.setCell ⟨gl, m, none⟩ (.int .i64 (x - 1)) = W1 at HL1 HO1 HP1 HD1 hc3 HC1 hbs1 ⊢
            have HB1 := Lib.hid hbs1
            clear hfz hc1 hc2 HCS hbs1
            go_upto_region 11 with (first
              | (at_builtin; refine wpList_append_at _ rfl (.tmp 54) (.tmp 61) _ rfl w.heap.size 3 i0 (.int .i64 0) 1 8 Try.underlying22 hi hz0 hz1 hz2 rfl (by omega) (.slice pa i pc) i (iv P) rfl (HP1.out.alloc _) ⟨W1.heap.size, 0, none⟩ 1 1 [.int .i64 (g : Int)] rfl rfl new_cell (by simp [Value.oneCell']) HM2.out HM3.out (by simp; have := HB1.out; omega) ?_; intro v2 w2 hown2 hg2 hat2; obtain ⟨pa2, pc2, rfl⟩ := own_shape hown2; have HO2 := Lib.hid hown2; have HG2 := Lib.hid hg2; have HA2 := Lib.hid hat2; have HB2 := Lib.hid (show w.heap.size ≤ w2.heap.size from by have := hg2.size; have := HB1.out; simp at *; omega); have HD2 := Lib.hid (own_kept (HD1.out.alloc _) hg2 HJ.out.s1.symm); clear hown2 hg2 hat2)
              | (at_builtin; refine wpList_append_at _ rfl (.tmp 63) (.tmp 66) _ rfl w.heap.size 3 i0 (.int .i64 0) 1 8 Try.underlying22 hi hz0 hz1 hz2 rfl (by omega) (.slice da i dc) i (iv D) rfl (HD2.out.alloc _) ⟨w2.heap.size, 0, none⟩ 1 1 [.int .i64 ((m : Int) + 1)] rfl rfl new_cell (by simp [Value.oneCell']) HM2.out HM3.out (by simp; have := HB2.out; omega) ?_; intro v3 w3 hown3 hg3 hat3; obtain ⟨da3, dc3, rfl⟩ := own_shape hown3; have HO3 := Lib.hid hown3; have HG3 := Lib.hid hg3; have HA3 := Lib.hid hat3; clear hown3 hg3 hat3)
              | fail)
            have HK := Lib.hid (WK.of (f := f) (st := (g, x - 1) :: t) (x := (g : Int)) (y := (m : Int) + 1) (by rw [List.length_cons, ← HM.out]; exact hslen) (by
                intro e he
                rcases List.mem_cons.1 he with rfl | he
                · simp only; omega
                · exact HFI.out e (by simp [he])) (by
                have h := HJ.out.ep
                rw [HPA.out.1, popR, if_neg HX.out] at h
                exact h) (by
                have h := HJ.out.ed
                rw [HPA.out.2, popR, if_neg HX.out] at h
                have e : (((g, x) :: t).length : Int) = (m : Int) + 1 := by rw [List.length_cons, HM.out]; rfl
                rw [e] at h
                exact h) HC1.out HD1.out HP1.out (by rw [List.length_cons, ← HM.out]; exact HO1.out) (by rw [List.length_cons, ← HM.out]; exact HL1.out) HJ.out.s1 HJ.out.s2.symm.sl.symm HJ.out.s3.symm.sl.symm HJ.out.s4.symm.sl.symm HJ.out.s5.symm.sl.symm HJ.out.s6.sl.symm.sl.symm HO2.out HG2.out HA2.out HO3.out HG3.out HA3.out)
            have hk1 := HK.out.oo
            have hk2 := HK.out.ol
            rw [List.length_cons, ← HM.out] at hk1 hk2
            have HK1 := Lib.hid hk1; have HK2 := Lib.hid hk2
            clear hk1 hk2 hc3 HL1 HO1 HP1 HD1 HC1 HB1
            obtain ⟨a1, a2, a3, a4⟩ := HSS.out i hlt
            have hfd : l.getD i default = f := by rw [List.getD, HF.out]; rfl
            rw [hfd] at a3 a4
            have b3 := HK.out.cg.cell a3 (by simp)
            have b4 := HK.out.cg.cell a4 (by simp)
            clear a1 a2 a3 a4 hfd HG2 HG3 HA2 HA3 HO2 HO3 HD2
            have hwz : w.heap.size ≤ w3.heap.size := HK.out.cg.size
            have HWZ := Lib.hid hwz
            have HM4 := Lib.hid (show m + 1 + 1 ≤ maxLen by unfold maxLen; omega)
            have HM5 := Lib.hid (show (m + 1 + 1) * 8 ≤ 140737488355328 by omega)
            clear hwz
            by_cases hk : f.k = 0 ∧ 0 < f.c
            · have HKK := Lib.hid hk
              obtain ⟨hk0, hc0⟩ := hk
              have d1 : (f.k == 0) = true := by simpa using hk0
              have d2 : decide (0 < f.c) = true := by simpa using hc0
              have hgs0 : gs < w.heap.size := World.block_lt_of_cell? w _ (HSS.out i hlt).1
              have hgs3 : gs < w3.heap.size := by have := HWZ.out; omega
              go_upto_region 12 with fail
              go_region_held3 (fun w' => w'.cell? ⟨gs, os + i * 4 + 3, none⟩ = some (.int .i64 f.c)) (first | (exact b4) | (exact HS4.out) | (exact ((Chg.refl [] _).alloc _).cell b4 (by simp)) | (exact ((Chg.refl [] _).alloc _).cell HS4.out (by simp)) | (exact (((Chg.refl [] _).alloc _).alloc _).cell b4 (by simp))) (first
                | (refine step_append_at (by rfl) (.tmp 82) (.tmp 84) _ (by rfl) w.heap.size 3 i0 (.int .i64 0) 1 8 Try.underlying22 hi hz0 hz1 hz2 (by rfl) (by omega) (.slice (some ⟨go, 0, none⟩) (m + 1) oc) (m + 1) (iv (grS ((g, x - 1) :: t))) (by rfl) ?_ _ 1 1 [.int .i64 (i : Int)] (by rfl) (by rfl) ?_ one_i HM4.out HM5.out ?_ ?_; (focus (first | (exact HK1.out.alloc _) | (exact (HK1.out.alloc _).alloc _))); (focus (first | (exact new_cell) | (exact new_cell2) | (exact new_cells (C := #[.int .i64 (i : Int)]) _ (by simp)))); (focus (first | (refine le_alloc ?_ _; exact HWZ.out) | (refine le_alloc (le_alloc ?_ _) _; exact HWZ.out))); intro v4 w4 hown4 hg4 hat4; obtain ⟨oa4, oc4, rfl⟩ := own_shape hown4; have HO4 := Lib.hid hown4; have HG4 := Lib.hid hg4; have HA4 := Lib.hid hat4; have HB4 := Lib.hid (show w.heap.size ≤ w4.heap.size from Nat.le_trans (by first | (refine le_alloc ?_ _; exact HWZ.out) | (refine le_alloc (le_alloc ?_ _) _; exact HWZ.out)) hg4.size); have HS4 := Lib.hid (show w4.cell? ⟨gs, os + i * 4 + 3, none⟩ = some (.int .i64 f.c) from ((World.cell?_of_block (hg4.block gs (by first | (refine lt_alloc ?_ _; exact hgs3) | (refine lt_alloc (lt_alloc ?_ _) _; exact hgs3)) (fun e => absurd (own_ge HK1.out gs e.symm) (by omega)))).trans (by assumption))); have HL4 := Lib.hid (own_kept (by first | exact HK2.out.alloc _ | exact (HK2.out.alloc _).alloc _) hg4 HK.out.s6.symm); clear hown4 hg4 hat4)
                | (refine step_append_at (by rfl) (.tmp 86) (.tmp 92) _ (by rfl) w.heap.size 3 i0 (.int .i64 0) 1 8 Try.underlying22 hi hz0 hz1 hz2 (by rfl) (by omega) (.slice (some ⟨gl, 0, none⟩) (m + 1) lc) (m + 1) (iv (ctS ((g, x - 1) :: t))) (by rfl) ?_ _ 1 1 [.int .i64 f.c] (by rfl) (by rfl) ?_ one_i HM4.out HM5.out ?_ ?_; (focus (first | (exact HL4.out.alloc _) | (exact HL4.out))); (focus (first | (exact new_cell) | (exact cell_old HG4.out (by simp) (fun e => absurd (own_lt HK1.out _ e) (by first | (simp; done) | omega | (simp; omega)))))); (focus (first | (exact le_alloc HB4.out _) | (exact HB4.out))); intro v5 w5 hown5 hg5 hat5; obtain ⟨la5, lc5, rfl⟩ := own_shape hown5; have HO5 := Lib.hid hown5; have HG5 := Lib.hid hg5; have HA5 := Lib.hid hat5; have HS4 := Lib.hid (show w5.cell? ⟨gs, os + i * 4 + 3, none⟩ = some (.int .i64 f.c) from (World.cell?_of_block (hg5.block gs (by first | exact lt_alloc (Nat.lt_of_lt_of_le hgs0 HB4.out) _ | exact Nat.lt_of_lt_of_le hgs0 HB4.out) (fun e => absurd (own_ge HK2.out gs e.symm) (by omega)))).trans (by assumption)); clear hown5 hg5 hat5))
              all_goals
                go_wp2
                go_roundw
              all_goals first
                | (case' measure => simp [intOf]; omega)
                | skip
              all_goals
                refine ⟨i + 1, (i, f.c) :: ((g, x - 1) :: t), _, _, by go_num, WK.push HK.out (by rw [← HN.out]; exact hlt) HKK.out hfc (by rw [List.length_cons, ← HM.out]) ?_ HO4.out HG4.out HA4.out ?_ HO5.out HG5.out HA5.out⟩
                · first | exact (Chg.refl [] w3).drew.alloc _ | exact ((Chg.refl [] w3).drew.alloc _).alloc _
                · first | exact Chg.refl [] w4 | exact (Chg.refl [] w4).alloc _
            · have HKK := Lib.hid hk
              have hways : ¬ f.k = 0 ∨ f.k = 0 ∧ ¬ 0 < f.c := by omega
              clear hk
              rcases hways with h | ⟨h, h'⟩
              · have d1 : (f.k == 0) = false := by simpa using h
                go_wp2
                go_roundw
                case rel => exact ⟨i + 1, ((g, x - 1) :: t), _, _, by go_num, WK.skip (HK.out) (by rw [← HN.out]; exact hlt) HKK.out⟩
                case measure => simp [intOf]; omega
              · have d1 : (f.k == 0) = true := by simpa using h
                have d2 : decide (0 < f.c) = false := by simpa using h'
                go_wp2
                go_roundw
                case rel => exact ⟨i + 1, ((g, x - 1) :: t), _, _, by go_num, WK.skip (HK.out) (by rw [← HN.out]; exact hlt) HKK.out⟩
                case measure => simp [intOf]; omega
    · have ei : i = n := by omega
      have E := Lib.hid (show P = parents l ∧ D = depthsR l by
        have h1 := HJ.out.ep
        have h2 := HJ.out.ed
        rw [List.drop_of_length_le (by rw [← HN.out]; omega)] at h1 h2
        exact ⟨by simpa [parR] using h1, by simpa [depR] using h2⟩)
      go_wp2
      go_ret2
      exact ⟨_, _, rfl, by rw [← E.out.1, ← ei]; exact HJ.out.op, by rw [← E.out.2, ← ei]; exact HJ.out.od, HJ.out.cg⟩

end Go.Proofs.Ytfdmbpfpdijpdaa
