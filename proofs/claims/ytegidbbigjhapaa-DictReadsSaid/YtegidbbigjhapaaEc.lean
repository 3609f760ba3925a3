/- dict: letter, the word's place, a new one if there is room. -/
import Derived.Test.YtegidbbigjhapaaEb
import Derived.Deep.DeepCutAuto
import Derived.Deep.CutBlock
import Derived.Deep.CutRange
namespace Go.Proofs.Ytegidbbigjhapaa
open Go.RowKit
set_option linter.unusedVariables false
set_option linter.unusedSimpArgs false

/-- How the alphabet stands. -/
structure AL (w0 w : World) (ga gm B : Nat) (ws : List V) (most : Int) (wv : Value) : Prop where
  c0 : Chg [] w0 w
  g0 : w0.heap.size ≤ ga
  g1 : w0.heap.size ≤ gm
  gaB : ga < B
  gmB : gm < B
  ne : gm ≠ ga
  lB : B ≤ w.heap.size
  box : w.heap[ga]? = some (.cells #[wv, .map (some gm), .int .i64 most] 51 (0, 0))
  map : MapV w gm ws
  own : w.ownsRow B 28 2 wv ws.length (ws.flatMap V.cs)

theorem AL.keep {w0 w w' : World} {ga gm B : Nat} {ws : List V} {most : Int} {wv : Value} (h : AL w0 w ga gm B ws most wv) (hc : Chg [] w w') : AL w0 w' ga gm B ws most wv :=
  ⟨h.c0.trans hc (by simp), h.g0, h.g1, h.gaB, h.gmB, h.ne, Nat.le_trans h.lB hc.size, hc.heap h.box (by simp), h.map.keep hc (by simp), own_chg h.own hc (by simp)⟩

theorem cells_al {w : World} {g : Nat} {x y z : Value} (h : w.heap[g]? = some (.cells #[x, y, z] 51 (0, 0))) :
    w.cell? ⟨g, 0, none⟩ = some x ∧ w.cell? ⟨g, 1, none⟩ = some y ∧ w.cell? ⟨g, 2, none⟩ = some z ∧ w.frozen? ⟨g, 0, none⟩ = false := by
  have hc : ∀ i u, [x, y, z][i]? = some u → w.cell? ⟨g, i, none⟩ = some u := fun i u hu => by
    rw [cell_of_row _ _ i _ _ _ h]; simpa using hu
  refine ⟨hc 0 x rfl, hc 1 y rfl, hc 2 z rfl, ?_⟩
  unfold World.frozen?; rw [h]; simp

/-- A word more in the row, not yet in the map. -/
structure AM (w0 w : World) (ga gm B : Nat) (ws : List V) (v : V) (most : Int) (wv : Value) : Prop where
  c0 : Chg [] w0 w
  lB : B ≤ w.heap.size
  box : w.heap[ga]? = some (.cells #[wv, .map (some gm), .int .i64 most] 51 (0, 0))
  map : MapV w gm ws
  own : w.ownsRow B 28 2 wv (ws ++ [v]).length ((ws ++ [v]).flatMap V.cs)

theorem AL.grow {w0 w w3 : World} {ga gm B n : Nat} {ws : List V} {v : V} {most : Int} {wv v3 : Value} (h : AL w0 w ga gm B ws most wv) (hc : Chg wv.ownBlock.toList w w3) (ho : w3.ownsRow B 28 2 v3 n (ws.flatMap V.cs ++ V.cs v)) (hn : n = ws.length + 1) :
    AM w0 (w3.setCell ⟨ga, 0, none⟩ v3) ga gm B ws v most v3 ∧ Chg (ga :: gm :: wv.ownBlock.toList) w (w3.setCell ⟨ga, 0, none⟩ v3) := by
  have hB := own_ge h.own
  have hgaB := h.gaB
  have hgmB := h.gmB
  have hb3 : w3.heap[ga]? = some (.cells #[wv, .map (some gm), .int .i64 most] 51 (0, 0)) := hc.heap h.box (fun hm => by simp at hm; have := hB ga hm; omega)
  have hs : Chg [ga] w3 (w3.setCell ⟨ga, 0, none⟩ v3) := (Chg.refl [ga] w3).setCell (by simp) _
  have h0 := h.g0
  have hlB := h.lB
  have h00 := h.c0.size
  refine ⟨⟨(h.c0.trans hc (fun t ht => .inr ?_)).trans hs (fun t ht => .inr ?_), Nat.le_trans (Nat.le_trans hlB hc.size) hs.size, ?_, (h.map.keep hc (fun hm => ?_)).keep hs (fun hm => ?_), ?_⟩, (hc.mono (fun k hk => .inl (by simp [hk]))).trans hs (fun t ht => .inl (by simp at ht; simp [ht]))⟩
  · simp at ht; have := hB t ht; omega
  · simp at ht; rw [ht]; exact h0
  · exact heap_set hb3 v3
  · simp at hm; have := hB gm hm; omega
  · simp at hm; exact h.ne hm
  · rw [List.length_append, List.flatMap_append]
    have := own_chg ho hs (fun g hg hm => by simp at hm; have := own_ge ho g hg; omega)
    rw [hn] at this
    simpa using this

theorem AM.put {w0 w1 w wx : World} {ga gm B : Nat} {ws : List V} {v : V} {most : Int} {wv wv0 : Value} (h : AM w0 w ga gm B ws v most wv) (h1 : AL w0 w1 ga gm B ws most wv0) (hc : Chg [] w wx) :
    AL w0 (ChangeMaps.setBlock wx gm (.map (ents (ws ++ [v])) (ws ++ [v]).length)) ga gm B (ws ++ [v]) most wv ∧ Chg [gm] w (ChangeMaps.setBlock wx gm (.map (ents (ws ++ [v])) (ws ++ [v]).length)) := by
  have hm := h.map.keep hc (by simp)
  have hp : Chg [gm] w (ChangeMaps.setBlock wx gm (.map (ents (ws ++ [v])) (ws ++ [v]).length)) := (hc.mono (T := [gm]) (by simp)).trans Chg.putV (fun t ht => .inl ht)
  have hne := h1.ne
  have hg1 := h1.g1
  have hgmB := h1.gmB
  refine ⟨⟨h.c0.trans hp (fun t ht => .inr (by simp at ht; rw [ht]; exact hg1)), h1.g0, h1.g1, h1.gaB, h1.gmB, h1.ne, Nat.le_trans h.lB hp.size, hp.heap h.box (fun hx => by simp at hx; exact hne hx.symm), hm.put, own_chg h.own hp (fun g hg hx => by simp at hx; have := own_ge h.own g hg; omega)⟩, hp⟩

/-- The number that letter answers; the words behind it. -/
def letR (ws : List V) (most : Int) (v : V) : Int := if v ∈ ws then (plcV ws v : Nat) else if (ws.length : Int) = most then -1 else ws.length
def letW (ws : List V) (most : Int) (v : V) : List V := if v ∈ ws then ws else if (ws.length : Int) = most then ws else ws ++ [v]

def LetOut (w0 w : World) (ga gm B : Nat) (ws : List V) (most : Int) (wv : Value) (v : V) (e : Ending) (w' : World) : Prop :=
  e = .returned (.int .i32 (letR ws most v)) ∧ ∃ wv', AL w0 w' ga gm B (letW ws most v) most wv' ∧ Chg (ga :: gm :: wv.ownBlock.toList) w w'

set_option maxRecDepth 100000 in
set_option maxHeartbeats 4000000 in
theorem letter_any {w0 w : World} {ga gm B : Nat} {ws : List V} {most : Int} {wv : Value} (v : V) (h : AL w0 w ga gm B ws most wv) (hl : ws.length ≤ 256) :
    Calls Try.prog 22 #[.pointer (some ⟨ga, 0, none⟩), vvV v] w (LetOut w0 w ga gm B ws most wv v) := by
  obtain ⟨i0, hi, hz0, hz1, hz2⟩ := info_value
  obtain ⟨wao, wac, rfl⟩ := own_shape h.own
  obtain ⟨m, hm⟩ : ∃ m, m = ws.length := ⟨_, rfl⟩
  have HA := Lib.hid (h.keep ((Chg.refl [] w).alloc (vo v)))
  have H0 := Lib.hid h
  rw [← hm] at hl HA H0
  have HM := Lib.hid hm
  obtain ⟨wa, hwa⟩ : ∃ wa, wa = w.alloc (vo v) := ⟨_, rfl⟩
  have HWA := Lib.hid hwa
  have q0 : wa.cell? ⟨w.heap.size, 0, none⟩ = some (.int .i64 v.n) := by rw [hwa, cell_of_row _ _ 0 _ _ _ (heap_alloc_new w (vo v))]; rfl
  have q1 : wa.cell? ⟨w.heap.size, 1, none⟩ = some (.string v.s) := by rw [hwa, cell_of_row _ _ 1 _ _ _ (heap_alloc_new w (vo v))]; rfl
  rw [← hwa] at HA
  obtain ⟨p0, p1, p2, pf⟩ := cells_al HA.out.box
  have hlk : ∀ n : Nat, (Instr.lookup 49 (.map (some gm)) (vvV v) true).run Try.prog (wa.drewN n) = .ok (.tuple #[.int .i32 (if v ∈ ws then ((plcV ws v : Nat) : Int) else 0), .bool (decide (v ∈ ws))]) (wa.drewN n) := fun n => run_lookV (HA.out.map.keep ((Chg.refl [] wa).drewN n) (by simp)) v
  obtain ⟨gb, hgb⟩ : ∃ gb, gb = w.heap.size := ⟨_, rfl⟩
  have HGB := Lib.hid hgb
  have HZ := Lib.hid (show gb ∉ ga :: gm :: (Value.slice wao m wac).ownBlock.toList from fun hx => by
    have hl := H0.out.lB
    have ha := H0.out.gaB
    have hb := H0.out.gmB
    have ho : w.ownsRow B 28 2 (.slice wao m wac) ws.length (ws.flatMap V.cs) := H0.out.own
    simp only [List.mem_cons, Option.mem_toList] at hx
    rcases hx with hx | hx | hx
    · omega
    · omega
    · have := (ho.lt gb hx).2; omega)
  clear h hm
  by_cases hin : v ∈ ws
  · have ER := Lib.hid (show letR ws most v = (plcV ws v : Nat) ∧ letW ws most v = ws from ⟨if_pos hin, if_pos hin⟩)
    rw [if_pos hin, show decide (v ∈ ws) = true by simpa using hin] at hlk
    clear hin
    go_enter Try.func22, Try.ntmps22
    go_upto_region 1 with fail
    rw [← hwa, ← hgb]
    rw [← hgb] at q0 q1
    clear hwa hgb
    go_quiet (fail)
    go_wp2
    go_ret
    refine ⟨by rw [ER.out.1]; rfl, _, by rw [ER.out.2]; exact (H0.out.keep (by rw [HWA.out]; exact (Chg.refl [] w).alloc _)).keep ((Chg.refl [] wa).drewN _), ?_⟩
    exact (by rw [HWA.out]; exact ((Chg.refl _ w).alloc _).drewN _)
  · by_cases hfull : (ws.length : Int) = most
    · have ER := Lib.hid (show letR ws most v = -1 ∧ letW ws most v = ws from ⟨by unfold letR; rw [if_neg hin, if_pos hfull], by unfold letW; rw [if_neg hin, if_pos hfull]⟩)
      rw [if_neg hin, show decide (v ∈ ws) = false by simpa using hin] at hlk
      have hml : ((m : Int) == most) = true := by rw [HM.out]; simpa using hfull
      clear hin hfull
      go_enter Try.func22, Try.ntmps22
      go_upto_region 1 with fail
      rw [← hwa, ← hgb]
      rw [← hgb] at q0 q1
      rw [← HM.out]
      clear hwa hgb
      go_quiet (fail)
      go_wp2
      go_quiet (fail)
      go_wp2
      go_ret
      refine ⟨by rw [ER.out.1]; rfl, _, by rw [ER.out.2]; exact (H0.out.keep (by rw [HWA.out]; exact (Chg.refl [] w).alloc _)).keep (((Chg.refl [] wa).drewN _).drewN _), ?_⟩
      exact (by rw [HWA.out]; exact (((Chg.refl _ w).alloc _).drewN _).drewN _)
    · have ER := Lib.hid (show letR ws most v = (m : Int) ∧ letW ws most v = ws ++ [v] from ⟨by unfold letR; rw [if_neg hin, if_neg hfull, HM.out], by unfold letW; rw [if_neg hin, if_neg hfull]⟩)
      rw [if_neg hin, show decide (v ∈ ws) = false by simpa using hin] at hlk
      have hml : ((m : Int) == most) = false := by rw [HM.out]; simpa using hfull
      have hwm : IntKind.i32.wrap (m : Int) = (m : Int) := by rw [w32]; omega
      have HIN := Lib.hid hin
      clear hin hfull
      go_enter Try.func22, Try.ntmps22
      go_upto_region 1 with fail
      rw [← hwa, ← hgb]
      rw [← hgb] at q0 q1
      rw [← HM.out]
      clear hwa hgb
      go_quiet (fail)
      generalize nq = n1
      go_wp2
      go_quiet (fail)
      go_upto_region 7 with fail
      obtain ⟨wb, hwb⟩ : ∃ wb, wb = wa.drewN (n1 + nq) := ⟨_, rfl⟩
      have hcb : Chg [] wa wb := by rw [hwb]; exact (Chg.refl [] wa).drewN _
      rw [← hwb]
      have HB0 := Lib.hid (HA.out.keep hcb)
      have HCB := Lib.hid hcb
      have s0 := hcb.cell q0 (by simp)
      have s1 := hcb.cell q1 (by simp)
      clear hwb hcb hlk q0 q1 p0 p1 p2 pf
      obtain ⟨O, hO⟩ : ∃ O, O = vo v := ⟨_, rfl⟩
      have HWS := Lib.hid (show ∀ w2, Chg [] wb w2 → w2.cell? ⟨ga, 0, none⟩ = some (.slice wao m wac) ∧ w2.frozen? ⟨ga, 0, none⟩ = false ∧ w2.cell? ⟨gb, 0, none⟩ = some (.int .i64 v.n) ∧ w2.cell? ⟨gb, 1, none⟩ = some (.string v.s) from fun w2 hc => by
        obtain ⟨k0, -, -, k3⟩ := cells_al (hc.heap HB0.out.box (by simp))
        exact ⟨k0, k3, hc.cell s0 (by simp), hc.cell s1 (by simp)⟩)
      obtain ⟨r1, r2, r3, r4⟩ := HWS.out (wb.drew.alloc (vo v)) ((Chg.refl [] wb).drew.alloc _)
      obtain ⟨r5, r6, r7, r8⟩ := HWS.out (wb.alloc (vo v)) ((Chg.refl [] wb).alloc _)
      obtain ⟨r9, r10, -, -⟩ := HWS.out wb (Chg.refl [] wb)
      have HGE := Lib.hid (own_ge HB0.out.own)
      have HWT := Lib.hid (show ∀ w3, Chg (Value.slice wao m wac).ownBlock.toList (wb.drew.alloc (vo v)) w3 → w3.cell? ⟨ga, 0, none⟩ = some (.slice wao m wac) ∧ w3.frozen? ⟨ga, 0, none⟩ = false from fun w3 hd => by
        obtain ⟨k0, -, -, k3⟩ := cells_al (hd.heap (((Chg.refl [] wb).drew.alloc (vo v)).heap HB0.out.box (by simp)) (fun hm => by simp at hm; have := HGE.out ga hm; have := HB0.out.gaB; omega))
        exact ⟨k0, k3⟩)
      have HM1 := Lib.hid (show m + 1 ≤ maxLen by unfold maxLen; omega)
      have HM2 := Lib.hid (show (m + 1) * 24 ≤ 140737488355328 by omega)
      have HONE := Lib.hid (V.one v)
      have HOW := Lib.hid (show (wb.drew.alloc (vo v)).ownsRow B 28 2 (.slice wao m wac) m (ws.flatMap V.cs) from by have := own_chg HB0.out.own ((Chg.refl [] wb).drew.alloc (vo v)) (by simp); rw [HM.out] at this ⊢; exact this)
      have HLB := Lib.hid (show B ≤ (wb.drew.alloc (vo v)).heap.size from Nat.le_trans HB0.out.lB ((Chg.refl [] wb).drew.alloc (vo v)).size)
      clear hO
      go_region_law (first
        | (refine step_append_cells (by rfl) (.tmp 39) (.tmp 41) 22 (by rfl) B 28 i0 (.agg #[.int .i64 0, .string ByteArray.empty]) 2 24 Try.underlying22 hi hz0 hz1 hz2 (by rfl) (by decide) (.slice wao m wac) m (ws.flatMap V.cs) (by rfl) HOW.out ⟨wb.heap.size, 0, none⟩ 1 1 (V.cs v) (by rfl) (by rfl) (new_cells (C := #[.int .i64 v.n, .string v.s]) wb.heap.size rfl) HONE.out HM1.out HM2.out HLB.out ?_; intro v3 w3 hown3 hgrow3; obtain ⟨va, vc, rfl⟩ := own_shape hown3; have hcd : Chg (Value.slice wao m wac).ownBlock.toList (wb.drew.alloc (vo v)) w3 := (Chg.refl _ _).grown hgrow3 (fun g hg => .inl (by simp [hg])); obtain ⟨k3, k4⟩ := HWT.out w3 hcd; have HO3 := Lib.hid hown3; have HC3 := Lib.hid hcd; clear hown3 hgrow3 hcd))
      all_goals
        obtain ⟨ham, hch⟩ := AL.grow (v := v) (HB0.out.keep ((Chg.refl [] wb).drew.alloc (vo v))) HC3.out HO3.out (by rw [HM.out])
        obtain ⟨w4, hw4⟩ : ∃ w4, w4 = w3.setCell ⟨ga, 0, none⟩ (.slice va (m + 1) vc) := ⟨_, rfl⟩
        rw [← hw4] at ham hch ⊢
        obtain ⟨-, y1, -, -⟩ := cells_al ham.box
        have HAM := Lib.hid ham; have HCH := Lib.hid hch
        have hd : Chg [] wb (wb.drew.alloc (vo v)) := (Chg.refl [] wb).drew.alloc (vo v)
        have z0 := hch.cell (hd.cell s0 (by simp)) HZ.out
        have z1 := hch.cell (hd.cell s1 (by simp)) HZ.out
        have hput := run_putV (w := w4) ham.map v HIN.out
        have hput2 := run_putV (w := w4.drew) ham.map v HIN.out
        rw [← HM.out] at hput hput2
        clear hw4 ham hch hd r1 r2 r3 r4 r5 r6 r7 r8 r9 r10 k3 k4 s0 s1
        go_upto_region 8 with fail
        go_region
        go_wp2
        go_ret
        have hpp := HAM.out.put H0.out (Chg.refl [] w4).drew
        rw [show (ws ++ [v]).length = ws.length + 1 by simp] at hpp
        have e1 : Chg [] w (wb.drew.alloc (vo v)) := by
          have a1 : Chg [] w wa := by rw [HWA.out]; exact (Chg.refl [] w).alloc _
          exact ((a1.trans HCB.out (by simp)).drew).alloc _
        have e2 : Chg (ga :: gm :: (Value.slice wao m wac).ownBlock.toList) w w4 := (e1.mono (T := ga :: gm :: (Value.slice wao m wac).ownBlock.toList) (by simp)).trans HCH.out (fun t ht => .inl ht)
        refine ⟨by rw [ER.out.1]; rfl, _, by rw [ER.out.2]; exact hpp.1, ?_⟩
        rw [HM.out] at e2
        exact e2.trans hpp.2 (fun t ht => .inl (by simp at ht; simp [ht]))

end Go.Proofs.Ytegidbbigjhapaa
