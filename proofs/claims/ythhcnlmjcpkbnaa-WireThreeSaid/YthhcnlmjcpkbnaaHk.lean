/- wire's writer: what it holds; count. -/
import Derived.Test.YthhcnlmjcpkbnaaHi
import Derived.Test.YthhcnlmjcpkbnaaPu
import Derived.Test.YthhcnlmjcpkbnaaCur
namespace Go.Proofs.Ythhcnlmjcpkbnaa
open Go.RowKit
set_option linter.unusedVariables false
set_option linter.unusedSimpArgs false

/-- How the writer stands. -/
structure WW (w0 w : World) (gw B : Nat) (fv : Value) (fm out : List Nat) : Prop where
  fs : Seen w0 fv (nv .i32 fm)
  c0 : Chg [] w0 w
  g0 : w0.heap.size ≤ gw
  g1 : gw < B
  lB : B ≤ w.heap.size
  st : ∃ bv, w.heap[gw]? = some (.cells #[fv, bv] 116 (0, 0)) ∧ w.ownsRow B 5 1 bv out.length (nv .u8 out)

theorem WW.keep {w0 w w' : World} {gw B : Nat} {fv : Value} {fm out : List Nat} (h : WW w0 w gw B fv fm out) (hc : Chg [] w w') : WW w0 w' gw B fv fm out := by
  obtain ⟨bv, h1, h2⟩ := h.st
  exact ⟨h.fs, h.c0.trans hc (by simp), h.g0, h.g1, Nat.le_trans h.lB hc.size, bv, hc.heap h1 (by simp), own_chg h2 hc (by simp)⟩

/-- The writer's row grew, and was stored. -/
theorem WW.grow {w0 w w3 : World} {gw B n : Nat} {fv bv v3 : Value} {fm out news : List Nat} (h : WW w0 w gw B fv fm out) (hbv : w.heap[gw]? = some (.cells #[fv, bv] 116 (0, 0))) (hc : Chg bv.ownBlock.toList w w3) (hB : ∀ g, bv.ownBlock = some g → B ≤ g) (ho : w3.ownsRow B 5 1 v3 n (nv .u8 out ++ nv .u8 news)) (hn : n = out.length + news.length) : WW w0 (w3.setCell ⟨gw, 1, none⟩ v3) gw B fv fm (out ++ news) := by
  have hg1 := h.g1
  have hb3 : w3.heap[gw]? = some (.cells #[fv, bv] 116 (0, 0)) := hc.heap hbv (fun hm => by simp at hm; have := hB gw hm; omega)
  have hs : Chg [gw] w3 (w3.setCell ⟨gw, 1, none⟩ v3) := (Chg.refl [gw] w3).setCell (by simp) _
  refine ⟨h.fs, (h.c0.trans hc (fun t ht => .inr ?_)).trans hs (fun t ht => .inr ?_), h.g0, h.g1, Nat.le_trans (Nat.le_trans h.lB hc.size) hs.size, v3, set21 hb3 _, ?_⟩
  · simp at ht
    have := hB t ht
    have := h.g0
    omega
  · simp at ht
    rw [ht]
    exact h.g0
  · rw [List.length_append, ← hn, show nv .u8 (out ++ news) = nv .u8 out ++ nv .u8 news by simp [nv]]
    exact own_chg ho hs (fun g hg hm => by simp at hm; have := own_ge ho g hg; omega)

set_option maxRecDepth 100000 in
set_option maxHeartbeats 4000000 in
theorem wcount_any {w0 w : World} {gw B : Nat} {fv : Value} {fm out : List Nat} (n : Nat) (hn : n < 9223372036854775808) (h : WW w0 w gw B fv fm out) (hl : out.length ≤ 100000000) :
    Calls Try.prog 77 #[.pointer (some ⟨gw, 0, none⟩), .int .i64 (n : Int)] w fun e w' => e = .returned (.tuple #[]) ∧ WW w0 w' gw B fv fm (out ++ vb n) := by
  obtain ⟨i0, hi, hz0, hz1, hz2⟩ := info_u8
  obtain ⟨bv, hb, ho⟩ := h.st
  obtain ⟨ba, bc, rfl⟩ := own_shape ho
  obtain ⟨c0, c1, f0, f1⟩ := cells2 hb
  have HB := Lib.hid hb; have HO := Lib.hid ho; have HW := Lib.hid h
  have hv : IntKind.u64.wrap (n : Int) = (n : Int) := wraps64 _ (by omega) (by omega)
  have hvl := (vb_len64 (v := n) (by omega)).2
  have HP := Lib.hid (fun (wx : World) => put_any (.slice none 0 0) [] n wx (Seen.nil wx) (by decide) (by omega))
  obtain ⟨m, hm⟩ : ∃ m, m = out.length := ⟨_, rfl⟩
  rw [← hm] at hl HO HB c1
  have HM := Lib.hid hm
  have HGE := Lib.hid (show ∀ g, (Value.slice ba m bc).ownBlock = some g → B ≤ g from fun g hg => own_ge HO.out g hg)
  have HG1 := Lib.hid h.g1
  have HLB := Lib.hid h.lB
  clear h hb ho hm
  have HWS := Lib.hid (show ∀ w2, Chg [] w w2 → w2.cell? ⟨gw, 1, none⟩ = some (.slice ba m bc) ∧ w2.frozen? ⟨gw, 1, none⟩ = false from fun w2 hc => by
    obtain ⟨-, k1, -, k2⟩ := cells2 (hc.heap HB.out (by simp))
    exact ⟨k1, k2⟩)
  have HWT := Lib.hid (show ∀ w2 w3, Chg [] w w2 → Chg (Value.slice ba m bc).ownBlock.toList w2 w3 → w3.cell? ⟨gw, 1, none⟩ = some (.slice ba m bc) ∧ w3.frozen? ⟨gw, 1, none⟩ = false from fun w2 w3 hc hd => by
    obtain ⟨-, k1, -, k2⟩ := cells2 (hd.heap (hc.heap HB.out (by simp)) (fun hm => by simp at hm; have := HGE.out gw hm; have := HG1.out; omega))
    exact ⟨k1, k2⟩)
  have HONE := Lib.hid (nv_one .u8 (vb n))
  have HM1 := Lib.hid (show m + (nv .u8 (vb n)).length ≤ maxLen by rw [nv_length]; unfold maxLen; omega)
  have HM2 := Lib.hid (show (m + (nv .u8 (vb n)).length) * 1 ≤ 140737488355328 by rw [nv_length]; omega)
  go_enter Try.func77, Try.ntmps77
  go_upto_region 0 with fail
  go_region_law (first
    | (go_simp; go_at_call 103; (with_reducible refine (HP.out _).mono ?_); rintro e w2 ⟨x, rfl, hc2, ho2⟩; obtain ⟨xa, xc, rfl⟩ := own_shape ho2; rw [List.nil_append] at ho2 ⊢; have hcc : Chg [] w w2 := (by first | exact hc2 | exact ((Chg.refl [] w).drew).trans hc2 (by simp) | exact ((Chg.refl [] w).drewN _).trans hc2 (by simp)); obtain ⟨k1, k2⟩ := HWS.out w2 hcc; have HO2 := Lib.hid (own_chg HO.out hcc (by simp)); have HX2 := Lib.hid (reads_of_own ho2).seen; have HC2 := Lib.hid hcc; have HL2 := Lib.hid (Nat.le_trans HLB.out hcc.size); clear hc2 ho2 hcc)
    | (refine step_append_reads (by rfl) (.tmp 8) (.tmp 11) 67 67 (by rfl) B 5 5 i0 (.int .u8 0) 1 Try.underlying67 Try.underlying67 hi hz0 hz1 hz2 (by rfl) (.slice ba m bc) m (nv .u8 out) (by rfl) HO2.out (.slice xa (vb n).length xc) (nv .u8 (vb n)) (by rfl) HX2.out HONE.out HM1.out HM2.out HL2.out ?_; intro v3 w3 hown3 hgrow3; rw [nv_length] at hown3; obtain ⟨va, vc, rfl⟩ := own_shape hown3; have hcd : Chg (Value.slice ba m bc).ownBlock.toList w2 w3 := ((Chg.refl _ w2)).grown hgrow3 (fun g hg => .inl (by simp [hg])); obtain ⟨k3, k4⟩ := HWT.out w2 w3 HC2.out hcd; have HO3 := Lib.hid hown3; have HC3 := Lib.hid hcd; clear hown3 hgrow3 hcd))
  all_goals
    go_end0
    exact ⟨rfl, (HW.out.keep HC2.out).grow (HC2.out.heap HB.out (by simp)) HC3.out HGE.out HO3.out (by rw [← HM.out])⟩

end Go.Proofs.Ythhcnlmjcpkbnaa
