/- Hk, W9, Hl: texts of one group, one behind the other. -/
import Derived.Test.YtkbfbiklnjldgaaHD
import Derived.Test.YtkbfbiklnjldgaaV4
import Derived.Test.YtkbfbiklnjldgaaC1
import Derived.Test.YtkbfbiklnjldgaaA1
import Derived.Test.YtkbfbiklnjldgaaMw
import Derived.Test.YtkbfbiklnjldgaaA5
import Derived.Test.YtkbfbiklnjldgaaQk
namespace Go.Proofs.Ytkbfbiklnjldgaa
open Go.RowKit
set_option linter.unusedVariables false
set_option linter.unusedSimpArgs false

/-- How the writer stands. -/
structure WW (w0 w : World) (gw B : Nat) (fv : Value) (fm out : List Nat) : Prop where
  fs : Seen w0 fv (nv .i32 fm)
  c0 : Chg [] w0 w
  g0 : w0.heap.size ≤ gw
  g1 : gw < B
  lB : B ≤ w.heap.size
  st : ∃ bv, w.heap[gw]? = some (.cells #[fv, bv] 54 (0, 0)) ∧ w.ownsRow B 5 1 bv out.length (nv .u8 out)

theorem WW.keep {w0 w w' : World} {gw B : Nat} {fv : Value} {fm out : List Nat} (h : WW w0 w gw B fv fm out) (hc : Chg [] w w') : WW w0 w' gw B fv fm out := by
  obtain ⟨bv, h1, h2⟩ := h.st
  exact ⟨h.fs, h.c0.trans hc (by simp), h.g0, h.g1, Nat.le_trans h.lB hc.size, bv, hc.heap h1 (by simp), own_chg h2 hc (by simp)⟩

/-- The writer's row grew, and was stored. -/
theorem WW.grow {w0 w w3 : World} {gw B n : Nat} {fv bv v3 : Value} {fm out news : List Nat} (h : WW w0 w gw B fv fm out) (hbv : w.heap[gw]? = some (.cells #[fv, bv] 54 (0, 0))) (hc : Chg bv.ownBlock.toList w w3) (hB : ∀ g, bv.ownBlock = some g → B ≤ g) (ho : w3.ownsRow B 5 1 v3 n (nv .u8 out ++ nv .u8 news)) (hn : n = out.length + news.length) : WW w0 (w3.setCell ⟨gw, 1, none⟩ v3) gw B fv fm (out ++ news) := by
  have hg1 := h.g1
  have hb3 : w3.heap[gw]? = some (.cells #[fv, bv] 54 (0, 0)) := hc.heap hbv (fun hm => by simp at hm; have := hB gw hm; omega)
  have hs : Chg [gw] w3 (w3.setCell ⟨gw, 1, none⟩ v3) := (Chg.refl [gw] w3).setCell (by simp) _
  refine ⟨h.fs, (h.c0.trans hc (fun t ht => .inr ?_)).trans hs (fun t ht => .inr ?_), h.g0, h.g1, Nat.le_trans (Nat.le_trans h.lB hc.size) hs.size, v3, set21 hb3 _, ?_⟩
  · simp at ht
    have := hB t ht
    have := h.g0
    omega
  · simp at ht
    rw [ht]
    exact h.g0
  · rw [List.length_append, ← hn, show nv .u8 (out ++ news) = nv .u8 out ++ nv .u8 news by simp [nv]]
    exact own_chg ho hs (fun g hg hm => by simp at hm; have := own_ge ho g hg; omega)

set_option maxRecDepth 100000 in
set_option maxHeartbeats 4000000 in
theorem wcount_any {w0 w : World} {gw B : Nat} {fv : Value} {fm out : List Nat} (n : Nat) (hn : n < 9223372036854775808) (h : WW w0 w gw B fv fm out) (hl : out.length ≤ 100000000) :
    Calls Try.prog 19 #[.pointer (some ⟨gw, 0, none⟩), .int .i64 (n : Int)] w fun e w' => e = .returned (.tuple #[]) ∧ WW w0 w' gw B fv fm (out ++ vb n) := by
  obtain ⟨i0, hi, hz0, hz1, hz2⟩ := info_u8
  obtain ⟨bv, hb, ho⟩ := h.st
  obtain ⟨ba, bc, rfl⟩ := own_shape ho
  obtain ⟨c0, c1, f0, f1⟩ := cells2 hb
  have HB := Lib.hid hb; have HO := Lib.hid ho; have HW := Lib.hid h
  have hv : IntKind.u64.wrap (n : Int) = (n : Int) := wraps64 _ (by omega) (by omega)
  have hvl := (vb_len64 (v := n) (by omega)).2
  have HP := Lib.hid (fun (wx : World) => put_any (.slice none 0 0) [] n wx (Seen.nil wx) (by decide) (by omega))
  obtain ⟨m, hm⟩ : ∃ m, m = out.length := ⟨_, rfl⟩
  rw [← hm] at hl HO HB c1
  have HM := Lib.hid hm
  have HGE := Lib.hid (show ∀ g, (Value.slice ba m bc).ownBlock = some g → B ≤ g from fun g hg => own_ge HO.out g hg)
  have HG1 := Lib.hid h.g1
  have HLB := Lib.hid h.lB
  clear h hb ho hm
  have HWS := Lib.hid (show ∀ w2, Chg [] w w2 → w2.cell? ⟨gw, 1, none⟩ = some (.slice ba m bc) ∧ w2.frozen? ⟨gw, 1, none⟩ = false from fun w2 hc => by
    obtain ⟨-, k1, -, k2⟩ := cells2 (hc.heap HB.out (by simp))
    exact ⟨k1, k2⟩)
  have HWT := Lib.hid (show ∀ w2 w3, Chg [] w w2 → Chg (Value.slice ba m bc).ownBlock.toList w2 w3 → w3.cell? ⟨gw, 1, none⟩ = some (.slice ba m bc) ∧ w3.frozen? ⟨gw, 1, none⟩ = false from fun w2 w3 hc hd => by
    obtain ⟨-, k1, -, k2⟩ := cells2 (hd.heap (hc.heap HB.out (by simp)) (fun hm => by simp at hm; have := HGE.out gw hm; have := HG1.out; omega))
    exact ⟨k1, k2⟩)
  have HONE := Lib.hid (nv_one .u8 (vb n))
  have HM1 := Lib.hid (show m + (nv .u8 (vb n)).length ≤ maxLen by rw [nv_length]; unfold maxLen; omega)
  have HM2 := Lib.hid (show (m + (nv .u8 (vb n)).length) * 1 ≤ 140737488355328 by rw [nv_length]; omega)
  go_enter Try.func19, Try.ntmps19
  go_upto_region 0 with fail
  go_region_law (first
    | (go_simp; go_at_call 39; (with_reducible refine (HP.out _).mono ?_); rintro e w2 ⟨x, rfl, hc2, ho2⟩; obtain ⟨xa, xc, rfl⟩ := own_shape ho2; rw [List.nil_append] at ho2 ⊢; have hcc : Chg [] w w2 := (by first | exact hc2 | exact ((Chg.refl [] w).drew).trans hc2 (by simp) | exact ((Chg.refl [] w).drewN _).trans hc2 (by simp)); obtain ⟨k1, k2⟩ := HWS.out w2 hcc; have HO2 := Lib.hid (own_chg HO.out hcc (by simp)); have HX2 := Lib.hid (reads_of_own ho2).seen; have HC2 := Lib.hid hcc; have HL2 := Lib.hid (Nat.le_trans HLB.out hcc.size); clear hc2 ho2 hcc)
    | (refine step_append_reads (by rfl) (.tmp 8) (.tmp 11) 30 30 (by rfl) B 5 5 i0 (.int .u8 0) 1 Try.underlying30 Try.underlying30 hi hz0 hz1 hz2 (by rfl) (.slice ba m bc) m (nv .u8 out) (by rfl) HO2.out (.slice xa (vb n).length xc) (nv .u8 (vb n)) (by rfl) HX2.out HONE.out HM1.out HM2.out HL2.out ?_; intro v3 w3 hown3 hgrow3; rw [nv_length] at hown3; obtain ⟨va, vc, rfl⟩ := own_shape hown3; have hcd : Chg (Value.slice ba m bc).ownBlock.toList w2 w3 := ((Chg.refl _ w2)).grown hgrow3 (fun g hg => .inl (by simp [hg])); obtain ⟨k3, k4⟩ := HWT.out w2 w3 HC2.out hcd; have HO3 := Lib.hid hown3; have HC3 := Lib.hid hcd; clear hown3 hgrow3 hcd))
  all_goals
    go_end0
    exact ⟨rfl, (HW.out.keep HC2.out).grow (HC2.out.heap HB.out (by simp)) HC3.out HGE.out HO3.out (by rw [← HM.out])⟩

end Go.Proofs.Ytkbfbiklnjldgaa

namespace Go.Proofs.Ytkbfbiklnjldgaa
open Go.RowKit
set_option linter.unusedVariables false

set_option maxHeartbeats 400000 in
theorem w9_any (a n : Int) (w : World) (hn : 1 ≤ n) (hn2 : n ≤ 4611686018427387904) (ha : -9223372036854775808 ≤ a) (ha2 : a ≤ 9223372036854775807) :
    Calls Try.prog 12 #[.int .i64 a, .int .i64 n] w fun e w' => e = .returned (.int .i64 (a % n)) ∧ w = w' := by
  have hf := tmod_fix a n hn
  have hl : -n < a.tmod n := Int.lt_tmod_of_pos a (by omega)
  have hh : a.tmod n < n := Int.tmod_lt_of_pos a (by omega)
  have HF := Lib.hid hf; clear hf
  go_enter Try.func12, Try.ntmps12
  go_wp2
  · have hlt : a.tmod n < 0 := by assumption
    have E : a.tmod n + n = a % n := by rw [HF.out, if_pos hlt]
    go_ret
    exact ⟨ret_int E, rfl⟩
  · have hlt : ¬ a.tmod n < 0 := by omega
    have E : a.tmod n = a % n := by rw [HF.out, if_neg hlt]
    go_ret
    exact ⟨ret_int E, rfl⟩

theorem w9_nat (a : Int) (n : Nat) (w : World) (hn : 1 ≤ n) (hn2 : n ≤ 4611686018427387904) (h : (Lit.int .i64 a).wf = true) :
    Calls Try.prog 12 #[.int .i64 a, .int .i64 (n : Int)] w fun e w' => e = .returned (.int .i64 (((a % n).toNat : Nat) : Int)) ∧ w = w' := by
  have hb := wf_i64 h
  refine (w9_any a n w (by omega) (by omega) hb.1 hb.2).mono ?_
  rintro e w' ⟨rfl, rfl⟩
  have := Int.emod_nonneg a (show (n : Int) ≠ 0 by omega)
  exact ⟨ret_int (by omega), rfl⟩

theorem w9_int (a : Int) (n : Int) (m : Nat) (w : World) (hn : n = (m : Int)) (h1 : 1 ≤ m) (h2 : m ≤ 4611686018427387904) (h : (Lit.int .i64 a).wf = true) :
    Calls Try.prog 12 #[.int .i64 a, .int .i64 n] w fun e w' => e = .returned (.int .i64 (((a % m).toNat : Nat) : Int)) ∧ w = w' := by
  rw [hn]; exact w9_nat a m w h1 h2 h

end Go.Proofs.Ytkbfbiklnjldgaa

namespace Go.Proofs.Ytkbfbiklnjldgaa
open Go.RowKit
set_option linter.unusedVariables false
set_option linter.unusedSimpArgs false

theorem fo_wf : ∀ fo : Fo, fo.ok → (∀ f ∈ fo.flat, 0 ≤ f.k ∧ f.k ≤ 4) → fo.wf
  | .nil, _, _ => trivial
  | .leaf f t, ⟨h1, h2, h3⟩, h => ⟨by have := (h f (by simp [Fo.flat])).1; omega, (h f (by simp [Fo.flat])).2, fo_wf t h3 fun x hx => h x (by simp [Fo.flat, hx])⟩
  | .group f k t, ⟨h1, h2, h3, h4⟩, h => ⟨h1, h2, fo_wf k h3 fun x hx => h x (by simp [Fo.flat, hx]), fo_wf t h4 fun x hx => h x (by simp [Fo.flat, hx])⟩

/-- A made schema is a group of a forest. -/
theorem mk_wf (ns : List Int) : ∃ (r : F) (fo : Fo), mk ns = r :: fo.flat ∧ r.k = 0 ∧ r.c = fo.num ∧ fo.wf ∧ r.r = 0 := by
  obtain ⟨r, fo, h1, h2, h3, h4, h5, -⟩ := mk_forest ns
  refine ⟨r, fo, h1, h2, h3, fo_wf fo h4 fun f hf => ?_, h5⟩
  obtain ⟨j, hj⟩ := List.mem_iff_getElem?.1 (show f ∈ mk ns by rw [h1]; simp [hf])
  have := (mk_fields ns j f hj).1
  omega

set_option maxRecDepth 100000 in
set_option maxHeartbeats 1000000 in
theorem wvalues_nil (gw : Nat) (a : Int) (w : World) : Calls Try.prog 20 #[.pointer (some ⟨gw, 0, none⟩), .int .i64 a, .slice none 0 0] w fun e w' => e = .returned (.tuple #[]) ∧ Chg [] w w' := by
  go_enter Try.func20, Try.ntmps20
  go_wp2
  go_loopw [10] (fun x w' => x = .int .i64 0 ∧ Chg [] w w') (fun _ _ => 0)
  case atStart => exact ⟨rfl, Chg.refl _ _⟩
  case round =>
    obtain ⟨rfl, hc⟩ := hrel
    have HC := Lib.hid hc
    clear hc
    go_wp2
    go_end0
    exact ⟨rfl, HC.out⟩

set_option maxRecDepth 100000 in
set_option maxHeartbeats 2000000 in
theorem bytes_nil (sv : Value) (l : List F) (r0 : F) (fo : Fo) (w : World) (hS : SeenF w sv l) (hl : l = r0 :: fo.flat) (hr1 : r0.k = 0) (hr2 : r0.r = 0) (hr3 : r0.c = fo.num) (hwf : fo.wf) (hn : l.length ≤ 1000) :
    Calls Try.prog 8 #[sv, .slice none 0 0] w fun e w' => ∃ x, e = .returned x ∧ Made 5 .u8 [0] w x w' := by
  have hfl : (Fo.group r0 fo .nil).sg.length ≤ 100000 := by
    have h := (Fo.group r0 fo .nil).sg.length
    have h := (Fo.group r0 fo .nil).sg_le
    have h2 : (Fo.group r0 fo .nil).flat.length = l.length := by rw [hl]; simp [Fo.flat]
    omega
  have HFO := Lib.hid (show ∀ wx, Chg [] w wx → Calls Try.prog 18 #[sv] wx fun e w' => ∃ x, e = .returned x ∧ Made 21 .i32 (Fo.group r0 fo .nil).sg wx x w' from fun wx hk => formOf_any _ l (.group r0 fo .nil) wx (hS.keep hk) (by rw [hl]; simp [Fo.flat]) ⟨hr1, hr3, hwf, trivial⟩ hn hfl)
  obtain ⟨fm, hfm⟩ : ∃ fm, fm = (Fo.group r0 fo .nil).sg := ⟨_, rfl⟩
  rw [← hfm] at HFO
  clear hS hl hr1 hr2 hr3 hwf hfl hfm
  go_enter Try.func8, Try.ntmps8
  go_wp2
  go_loopw [10] (fun x w' => x = .int .i64 0 ∧ Chg [] w w') (fun _ _ => 0)
  case atStart => exact ⟨rfl, Chg.refl _ _⟩
  case round =>
    obtain ⟨rfl, hc⟩ := hrel
    have HC := Lib.hid hc
    clear hc
    go_wp2_with fail
    (with_reducible refine (HFO.out _ HC.out).mono ?_)
    rintro e w1 ⟨fv, rfl, hk1, ho1⟩
    obtain ⟨fa, fc, rfl⟩ := own_shape ho1
    have hww : WW w1 (w1.alloc (.cells #[.slice fa fm.length fc, .slice none 0 0] 54)) w1.heap.size (w1.heap.size + 1) (.slice fa fm.length fc) fm [] :=
      ⟨(reads_of_own ho1).seen, (Chg.refl [] w1).alloc _, Nat.le_refl _, Nat.lt_succ_self _, by simp, .slice none 0 0, heap_alloc_new w1 _, World.ownsRow_nil _ _ _ _⟩
    have HW := Lib.hid hww
    have HCN := Lib.hid (wcount_any 0 (by decide) hww (by decide))
    rw [show ((0 : Nat) : Int) = 0 from rfl] at HCN
    have HC1 := Lib.hid (HC.out.trans hk1 (by simp))
    clear hk1 ho1 hww
    go_wp2_with fail
    (with_reducible refine HCN.out.mono ?_)
    rintro e w2 ⟨rfl, hw2⟩
    have HW2 := Lib.hid hw2
    clear hw2
    go_wp2_with fail
    (with_reducible refine (wvalues_nil _ _ _).mono ?_)
    rintro e w3 ⟨rfl, hk3⟩
    have hw3 := HW2.out.keep hk3
    obtain ⟨bv, hb3, ho3⟩ := hw3.st
    obtain ⟨-, c1, -, -⟩ := cells2 hb3
    have HC3 := Lib.hid (HC1.out.trans hw3.c0 (by simp))
    rw [List.nil_append, show vb 0 = [0] from vb_lt (by decide)] at ho3
    have HO3 := Lib.hid ho3
    obtain ⟨ba, bc, rfl⟩ := own_shape ho3
    have HZ1 := Lib.hid HC1.out.size
    clear hk3 hw3 hb3 ho3
    go_wp2
    go_ret
    refine ⟨_, rfl, HC3.out, ?_⟩
    exact own_mono HO3.out (by have := HZ1.out; omega)

theorem mk_pos (ns : List Int) : 1 ≤ (mk ns).length ∧ (mk ns).length ≤ 1000 := by
  have h := mk_ok ns
  exact ⟨h.pos, by have := h.le; omega⟩

set_option maxRecDepth 100000 in
set_option maxHeartbeats 2000000 in
theorem known9_any (w : World) : Calls Try.prog 5 #[] w fun e w' => e = .returned (.bool true) ∧ Chg [] w w' := by
  have HNI := Lib.hid (show SeenI w nilS [] from ⟨none, 0, rfl, Nat.le_refl _, by decide, fun h => absurd h (by simp)⟩)
  go_enter Try.func5, Try.ntmps5
  go_wp2_with fail
  (with_reducible refine (make_any nilS [] w HNI.out (by simp)).mono ?_)
  rintro e w1 ⟨v, rfl, hown, hk1⟩
  obtain ⟨r, fo, m1, m2, m3, m4, m5⟩ := mk_wf []
  have HB := Lib.hid (bytes_nil v (mk []) r fo w1 (SeenF.own hown rfl) m1 m2 m5 m3 m4 (mk_pos []).2)
  have HC1 := Lib.hid hk1
  clear hown hk1 m1 m2 m3 m4 m5
  go_wp2_with fail
  (with_reducible refine HB.out.mono ?_)
  rintro e w2 ⟨x, rfl, hk2, ho2⟩
  obtain ⟨xa, xc, rfl⟩ := own_shape ho2
  obtain ⟨g, rfl, -, -, -, hc⟩ := own_ptr ho2 (by decide)
  have hc0 := hc 0 (.int .u8 0) rfl
  have HC2 := Lib.hid (HC1.out.trans hk2 (by simp))
  clear hk2 ho2 hc
  go_wp2
  go_ret
  exact ⟨rfl, HC2.out⟩

end Go.Proofs.Ytkbfbiklnjldgaa
