/- plain: the writer's value, all; Encode. -/
import Derived.Test.YtohgnbgijleoaaaDoorUb
namespace Go.Proofs.YtohgnbgijleoaaaDoor
open Go.RowKit
set_option linter.unusedVariables false
set_option linter.unusedSimpArgs false

/-- A value, as an argument. -/
abbrev vvV (v : V) : Value := .agg #[.int .i64 v.n, .string v.s]
/-- A value's own block. -/
abbrev vo (v : V) : Obj := .cells #[.int .i64 v.n, .string v.s] 39

set_option maxRecDepth 100000 in
set_option maxHeartbeats 4000000 in
theorem pvalue_1 {w0 w : World} {gw B : Nat} {out ts : List Nat} (v : V) (h : WP w0 w gw B (sgK 1) out ts) (hl : ts.length ≤ 100000000) :
    Calls Tryd.prog 32 #[.pointer (some ⟨gw, 0, none⟩), vvV v] w fun e w' => e = .returned (.tuple #[]) ∧ WP w0 w' gw B (sgK 1) out (ts ++ [un v.n]) := by
  obtain ⟨i0, hi, hz0, hz1, hz2⟩ := info_u64
  have HW1 := Lib.hid (h.keep ((Chg.refl [] w).alloc (vo v)))
  obtain ⟨bv, tv, hb, ho, hot⟩ := HW1.out.st
  obtain ⟨ta, tc, rfl⟩ := own_shape hot
  have hb : (w.alloc (vo v)).heap[gw]? = some (.cells #[.int .i32 98, bv, .slice ta ts.length tc] 57 (0, 0)) := hb
  obtain ⟨p0, -, p2, -, -, f2⟩ := cells3 hb
  have hu := un_wrap v.n
  obtain ⟨u, hue⟩ : ∃ u, u = un v.n := ⟨_, rfl⟩
  rw [← hue] at hu ⊢
  obtain ⟨m, hm⟩ : ∃ m, m = ts.length := ⟨_, rfl⟩
  rw [← hm] at hb hot hl p2
  have HB := Lib.hid hb; have HO := Lib.hid ho; have HT := Lib.hid hot; have HM := Lib.hid hm
  have q0 : (w.alloc (vo v)).cell? ⟨w.heap.size, 0, none⟩ = some (.int .i64 v.n) := by rw [cell_of_row _ _ 0 _ _ _ (heap_alloc_new w (vo v))]; rfl
  obtain ⟨gb, hgb⟩ : ∃ gb, gb = w.heap.size := ⟨_, rfl⟩
  have HGB := Lib.hid hgb
  have hlB := HW1.out.lB
  have HM1 := Lib.hid (show m + 1 ≤ maxLen by unfold maxLen; omega)
  have HM2 := Lib.hid (show (m + 1) * 8 ≤ 140737488355328 by omega)
  have HGE := Lib.hid (own_ge hot)
  have HG1 := Lib.hid h.g1
  clear h hb ho hot hm hue
  go_enter Tryd.func32, Tryd.ntmps32
  go_upto_region 3 with fail
  obtain ⟨wa, hwa⟩ : ∃ wa, wa = w.alloc (vo v) := ⟨_, rfl⟩
  rw [← hwa] at HW1 HB HO HT p0 p2 f2 q0 hlB ⊢
  rw [← hgb] at q0 ⊢
  have HLB := Lib.hid hlB
  clear hwa hgb hlB
  have HWS := Lib.hid (show ∀ w2, Chg [] wa w2 → w2.cell? ⟨gw, 2, none⟩ = some (.slice ta m tc) ∧ w2.frozen? ⟨gw, 2, none⟩ = false ∧ w2.cell? ⟨gb, 0, none⟩ = some (.int .i64 v.n) from fun w2 hc => by
    obtain ⟨-, -, k1, -, -, k2⟩ := cells3 (hc.heap HB.out (by simp))
    exact ⟨k1, k2, hc.cell q0 (by simp)⟩)
  obtain ⟨r1, r2, r3⟩ := HWS.out (wa.drew.alloc (.cells #[.int .u64 (u : Int)] 67)) ((Chg.refl [] wa).drew.alloc _)
  obtain ⟨r4, r5, r6⟩ := HWS.out (wa.alloc (.cells #[.int .u64 (u : Int)] 67)) ((Chg.refl [] wa).alloc _)
  have HWT := Lib.hid (show ∀ w3, Chg (Value.slice ta m tc).ownBlock.toList (wa.drew.alloc (.cells #[.int .u64 (u : Int)] 67)) w3 → w3.cell? ⟨gw, 2, none⟩ = some (.slice ta m tc) ∧ w3.frozen? ⟨gw, 2, none⟩ = false from fun w3 hd => by
    obtain ⟨-, -, k1, -, -, k2⟩ := cells3 (hd.heap (((Chg.refl [] wa).drew.alloc (.cells #[.int .u64 (u : Int)] 67)).heap HB.out (by simp)) (fun hm => by simp at hm; have := HGE.out gw hm; have := HG1.out; omega))
    exact ⟨k1, k2⟩)
  go_region_law (first
    | (refine step_append_cells (by rfl) (.tmp 14) (.tmp 18) 55 (by rfl) B 67 i0 (.int .u64 0) 1 8 Tryd.underlying55 hi hz0 hz1 hz2 (by rfl) (by decide) (.slice ta m tc) m (nv .u64 ts) (by rfl) (own_chg HT.out ((Chg.refl [] wa).drew.alloc (.cells #[.int .u64 (u : Int)] 67)) (by simp)) ⟨wa.heap.size, 0, none⟩ 1 1 [.int .u64 (u : Int)] (by rfl) (by rfl) (new_cells (C := #[.int .u64 (u : Int)]) wa.heap.size rfl) (by simp [Value.oneCell']) HM1.out HM2.out (Nat.le_trans HLB.out ((Chg.refl [] wa).drew.alloc _).size) ?_; intro v3 w3 hown3 hgrow3; obtain ⟨va, vc, rfl⟩ := own_shape hown3; have hcd : Chg (Value.slice ta m tc).ownBlock.toList (wa.drew.alloc (.cells #[.int .u64 (u : Int)] 67)) w3 := (Chg.refl _ _).grown hgrow3 (fun g hg => .inl (by simp [hg])); obtain ⟨k3, k4⟩ := HWT.out w3 hcd; have HO3 := Lib.hid hown3; have HC3 := Lib.hid hcd; clear hown3 hgrow3 hcd))
  all_goals
    go_end0
    have hca : Chg [] wa (wa.drew.alloc (.cells #[.int .u64 (u : Int)] 67)) := (Chg.refl [] wa).drew.alloc _
    exact ⟨rfl, (HW1.out.keep hca).growT (hca.heap HB.out (by simp)) (own_chg HO.out hca (by simp)) (by rw [← HM.out]; exact own_chg HT.out hca (by simp)) HC3.out (by simpa [nv] using HO3.out) (by rw [← HM.out]; rfl)⟩

set_option maxRecDepth 100000 in
set_option maxHeartbeats 4000000 in
theorem pvalue_23 {w0 w : World} {gw B k : Nat} {out ts : List Nat} (hk : k = 2 ∨ k = 3) (v : V) (h : WP w0 w gw B (sgK k) out ts) (hl : out.length ≤ 100000000) :
    Calls Tryd.prog 32 #[.pointer (some ⟨gw, 0, none⟩), vvV v] w fun e w' => e = .returned (.tuple #[]) ∧ WP w0 w' gw B (sgK k) (out ++ enc1 k v) ts := by
  have HW1 := Lib.hid (h.keep ((Chg.refl [] w).alloc (vo v)))
  obtain ⟨bv, tv, hb, ho, hot⟩ := HW1.out.st
  have HT := Lib.hid (pnumber_any (by omega) v.n HW1.out hl)
  obtain ⟨p0, -, -, -, -, -⟩ := cells3 hb
  clear h hb ho hot hl
  rcases hk with rfl | rfl
  · rw [show sgK 2 = 52 from rfl] at p0
    rw [enc1_2]
    go_enter Tryd.func32, Tryd.ntmps32
    go_wp2_with (first
      | (go_at_call 60; (with_reducible refine HT.out.mono ?_); rintro e w2 ⟨rfl, hw2, -⟩; have HW2 := Lib.hid hw2; clear hw2)
      | fail)
    go_end0
    exact ⟨rfl, HW2.out⟩
  · rw [show sgK 3 = 56 from rfl] at p0
    rw [enc1_3]
    go_enter Tryd.func32, Tryd.ntmps32
    go_wp2_with (first
      | (go_at_call 60; (with_reducible refine HT.out.mono ?_); rintro e w2 ⟨rfl, hw2, -⟩; have HW2 := Lib.hid hw2; clear hw2)
      | fail)
    go_end0
    exact ⟨rfl, HW2.out⟩

set_option maxRecDepth 100000 in
set_option maxHeartbeats 4000000 in
theorem pvalue_4 {w0 w : World} {gw B : Nat} {out ts : List Nat} (v : V) (h : WP w0 w gw B (sgK 4) out ts) (hl : out.length ≤ 100000000) (hs : v.s.size ≤ 1000000) :
    Calls Tryd.prog 32 #[.pointer (some ⟨gw, 0, none⟩), vvV v] w fun e w' => e = .returned (.tuple #[]) ∧ WP w0 w' gw B (sgK 4) (out ++ enc1 4 v) ts := by
  have HW1 := Lib.hid (h.keep ((Chg.refl [] w).alloc (vo v)))
  have HT := Lib.hid (pnumber_any (k := 4) (by omega) (v.s.size : Int) HW1.out hl)
  rw [un_nat _ (by omega), show szK 4 = 4 from rfl] at HT
  rw [enc1_4]
  have HBX := Lib.hid (heap_alloc_new w (vo v))
  have HNE := Lib.hid (show w.heap.size ≠ gw from by have := h.g1; have := h.lB; omega)
  have HNB := Lib.hid (show ∀ bv, (w.alloc (vo v)).cell? ⟨gw, 1, none⟩ = some bv → bv.ownBlock ≠ some w.heap.size from fun bv hbv e => by
    obtain ⟨bv', tv', hb', ho', -⟩ := h.st
    have h1 := (cells3 (((Chg.refl [] w).alloc (vo v)).heap hb' (by simp))).2.1
    rw [h1] at hbv
    injection hbv with hbv
    subst hbv
    have := (ho'.lt _ e).2
    omega)
  obtain ⟨bv, tv, hb, ho, hot⟩ := HW1.out.st
  obtain ⟨p0, -, -, -, -, -⟩ := cells3 hb
  rw [show sgK 4 = 116 from rfl] at p0
  have HFS := Lib.hid h.g1
  have q0 : (w.alloc (vo v)).cell? ⟨w.heap.size, 1, none⟩ = some (.string v.s) := by rw [cell_of_row _ _ 1 _ _ _ (heap_alloc_new w (vo v))]; rfl
  obtain ⟨gb, hgb⟩ : ∃ gb, gb = w.heap.size := ⟨_, rfl⟩
  rw [← hgb] at HBX HNE HNB
  have HGB := Lib.hid hgb
  clear h hb ho hot hgb
  go_enter Tryd.func32, Tryd.ntmps32
  go_upto_region 9 with (first
    | (go_at_call 60; (with_reducible refine HT.out.mono ?_); rintro e w2 ⟨rfl, hw2, hk2⟩; have HW2 := Lib.hid hw2; have HX2 := Lib.hid (hk2 gb _ HBX.out HNE.out HNB.out); clear hw2 hk2)
    | fail)
  rw [← HGB.out]
  obtain ⟨bv, tv, hb2, ho2, hot2⟩ := HW2.out.st
  obtain ⟨ba, bc, rfl⟩ := own_shape ho2
  obtain ⟨-, c1, -, -, f1, -⟩ := cells3 hb2
  have r1 : w2.cell? ⟨gb, 1, none⟩ = some (.string v.s) := by rw [cell_of_row w2 gb 1 _ _ _ HX2.out]; rfl
  obtain ⟨L, hL⟩ : ∃ L, L = out ++ lo 4 v.s.size := ⟨_, rfl⟩
  have hLl : L.length ≤ 100000004 := by rw [hL, List.length_append, lo_length]; omega
  have HL := Lib.hid hL
  rw [← hL] at hb2 ho2 c1 HW2
  obtain ⟨m, hm⟩ : ∃ m, m = L.length := ⟨_, rfl⟩
  rw [← hm] at hb2 ho2 c1
  have HB2 := Lib.hid hb2; have HO2 := Lib.hid ho2; have HOT := Lib.hid hot2
  have HM := Lib.hid hm
  have HGE := Lib.hid (show ∀ g, (Value.slice ba m bc).ownBlock = some g → B ≤ g from fun g hg => own_ge HO2.out g hg)
  have HLB := Lib.hid HW2.out.lB
  have HMB := Lib.hid (show m + v.s.size ≤ 140737488355328 by omega)
  have HWT := Lib.hid (show ∀ w3, Chg (Value.slice ba m bc).ownBlock.toList w2 w3 → w3.cell? ⟨gw, 1, none⟩ = some (.slice ba m bc) ∧ w3.frozen? ⟨gw, 1, none⟩ = false from fun w3 hd => by
    obtain ⟨-, k1, -, -, k2, -⟩ := cells3 (hd.heap HB2.out (fun hm => by simp at hm; have := HGE.out gw hm; have := HFS.out; omega))
    exact ⟨k1, k2⟩)
  clear hb2 ho2 hm hot2 hL
  go_region_law (first
    | (refine step_append_text (by rfl) (.tmp 40) (.tmp 42) (by rfl) B (.slice ba m bc) m (nv .u8 L) (by rfl) HO2.out v.s (by rfl) HMB.out HLB.out ?_; intro v3 w3 hown3 hgrow3; obtain ⟨va, vc, rfl⟩ := own_shape hown3; have hcd : Chg (Value.slice ba m bc).ownBlock.toList w2 w3 := (Chg.refl _ w2).grown (w := w2) (by first | exact hgrow3 | exact ⟨hgrow3.os, hgrow3.tape, hgrow3.output, hgrow3.size, hgrow3.block⟩) (fun g hg => .inl (by simp [hg])); obtain ⟨k3, k4⟩ := HWT.out w3 hcd; have HO3 := Lib.hid hown3; have HC3 := Lib.hid hcd; clear hown3 hgrow3 hcd))
  all_goals
    go_end0
    rw [← List.append_assoc, ← HL.out]
    exact ⟨rfl, HW2.out.grow HB2.out (by rw [← HM.out]; exact HO2.out) HOT.out HC3.out HO3.out (by rw [← HM.out, bl_length])⟩

end Go.Proofs.YtohgnbgijleoaaaDoor
