/- wire's writer: value of a leaf. -/
import Derived.Test.YthhcnlmjcpkbnaaHq
namespace Go.Proofs.Ythhcnlmjcpkbnaa
open Go.RowKit
set_option linter.unusedVariables false
set_option linter.unusedSimpArgs false

/-- A leaf's bytes. -/
def wLeaf (k : Int) (t : Tr) : List Nat := if k = 1 then lw 1 t.n else if k = 2 then lw 4 t.n else if k = 3 then lw 8 t.n else vb t.s.size ++ bl t.s
/-- What a leaf's value must be to be written. -/
def okLeaf (t : Tr) : Prop := (-9223372036854775808 ≤ t.n ∧ t.n ≤ 9223372036854775807) ∧ t.s.size ≤ 1000000

theorem WW.sign {w0 w : World} {gw B : Nat} {ao : Option Addr} {n cap : Nat} {fm out : List Nat} (h : WW w0 w gw B (.slice ao n cap) fm out) (hn : n = fm.length) {at0 : Nat} (hat : at0 < n) : ∃ g off, ao = some ⟨g, off, none⟩ ∧ ∀ w', Chg [] w0 w' → ∀ j, j < n → w'.cell? ⟨g, off + j, none⟩ = some (.int .i32 ((fm.getD j 0 : Nat) : Int)) := by
  obtain ⟨g, off, rfl, hx⟩ := h.fs.at0 hn.symm (by omega)
  exact ⟨g, off, rfl, fun w' hc j hj => hc.cell (hx j hj) (by simp)⟩

theorem WW.cells {w0 w : World} {gw B : Nat} {fv : Value} {fm out : List Nat} (h : WW w0 w gw B fv fm out) : w.cell? ⟨gw, 0, none⟩ = some fv := by
  obtain ⟨bv, hb, -⟩ := h.st
  exact (cells2 hb).1

/-- Other blocks than the writer's and its row's are as they were. -/
def WKeep (gw : Nat) (w w' : World) : Prop := ∀ (g : Nat) (o : Obj), w.heap[g]? = some o → g ≠ gw → (∀ bv, w.cell? ⟨gw, 1, none⟩ = some bv → bv.ownBlock ≠ some g) → w'.heap[g]? = some o

set_option maxRecDepth 100000 in
set_option maxHeartbeats 4000000 in
theorem wcount_keep {w0 w : World} {gw B : Nat} {fv : Value} {fm out : List Nat} (n : Nat) (hn : n < 9223372036854775808) (h : WW w0 w gw B fv fm out) (hl : out.length ≤ 100000000) :
    Calls Try.prog 77 #[.pointer (some ⟨gw, 0, none⟩), .int .i64 (n : Int)] w fun e w' => e = .returned (.tuple #[]) ∧ WW w0 w' gw B fv fm (out ++ vb n) ∧ WKeep gw w w' := by
  obtain ⟨i0, hi, hz0, hz1, hz2⟩ := info_u8
  obtain ⟨bv, hb, ho⟩ := h.st
  obtain ⟨ba, bc, rfl⟩ := own_shape ho
  obtain ⟨c0, c1, f0, f1⟩ := cells2 hb
  have HB := Lib.hid hb; have HO := Lib.hid ho; have HW := Lib.hid h; have HCL := Lib.hid c1
  have hv : IntKind.u64.wrap (n : Int) = (n : Int) := wraps64 _ (by omega) (by omega)
  have hvl := (vb_len64 (v := n) (by omega)).2
  have HP := Lib.hid (fun (wx : World) => put_any (.slice none 0 0) [] n wx (Seen.nil wx) (by decide) (by omega))
  obtain ⟨m, hm⟩ : ∃ m, m = out.length := ⟨_, rfl⟩
  rw [← hm] at hl HO HB c1 HCL
  have HM := Lib.hid hm
  have HGE := Lib.hid (show ∀ g, (Value.slice ba m bc).ownBlock = some g → B ≤ g from fun g hg => own_ge HO.out g hg)
  have HG1 := Lib.hid h.g1
  have HLB := Lib.hid h.lB
  clear h hb ho hm
  have HWS := Lib.hid (show ∀ w2, Chg [] w w2 → w2.cell? ⟨gw, 1, none⟩ = some (.slice ba m bc) ∧ w2.frozen? ⟨gw, 1, none⟩ = false from fun w2 hc => by
    obtain ⟨-, k1, -, k2⟩ := cells2 (hc.heap HB.out (by simp))
    exact ⟨k1, k2⟩)
  have HWT := Lib.hid (show ∀ w2 w3, Chg [] w w2 → Chg (Value.slice ba m bc).ownBlock.toList w2 w3 → w3.cell? ⟨gw, 1, none⟩ = some (.slice ba m bc) ∧ w3.frozen? ⟨gw, 1, none⟩ = false from fun w2 w3 hc hd => by
    obtain ⟨-, k1, -, k2⟩ := cells2 (hd.heap (hc.heap HB.out (by simp)) (fun hm => by simp at hm; have := HGE.out gw hm; have := HG1.out; omega))
    exact ⟨k1, k2⟩)
  have HONE := Lib.hid (nv_one .u8 (vb n))
  have HM1 := Lib.hid (show m + (nv .u8 (vb n)).length ≤ maxLen by rw [nv_length]; unfold maxLen; omega)
  have HM2 := Lib.hid (show (m + (nv .u8 (vb n)).length) * 1 ≤ 140737488355328 by rw [nv_length]; omega)
  go_enter Try.func77, Try.ntmps77
  go_upto_region 0 with fail
  go_region_law (first
    | (go_simp; go_at_call 103; (with_reducible refine (HP.out _).mono ?_); rintro e w2 ⟨x, rfl, hc2, ho2⟩; obtain ⟨xa, xc, rfl⟩ := own_shape ho2; rw [List.nil_append] at ho2 ⊢; have hcc : Chg [] w w2 := (by first | exact hc2 | exact ((Chg.refl [] w).drew).trans hc2 (by simp) | exact ((Chg.refl [] w).drewN _).trans hc2 (by simp)); obtain ⟨k1, k2⟩ := HWS.out w2 hcc; have HO2 := Lib.hid (own_chg HO.out hcc (by simp)); have HX2 := Lib.hid (reads_of_own ho2).seen; have HC2 := Lib.hid hcc; have HL2 := Lib.hid (Nat.le_trans HLB.out hcc.size); clear hc2 ho2 hcc)
    | (refine step_append_reads (by rfl) (.tmp 8) (.tmp 11) 67 67 (by rfl) B 5 5 i0 (.int .u8 0) 1 Try.underlying67 Try.underlying67 hi hz0 hz1 hz2 (by rfl) (.slice ba m bc) m (nv .u8 out) (by rfl) HO2.out (.slice xa (vb n).length xc) (nv .u8 (vb n)) (by rfl) HX2.out HONE.out HM1.out HM2.out HL2.out ?_; intro v3 w3 hown3 hgrow3; rw [nv_length] at hown3; obtain ⟨va, vc, rfl⟩ := own_shape hown3; have hcd : Chg (Value.slice ba m bc).ownBlock.toList w2 w3 := ((Chg.refl _ w2)).grown hgrow3 (fun g hg => .inl (by simp [hg])); obtain ⟨k3, k4⟩ := HWT.out w2 w3 HC2.out hcd; have HO3 := Lib.hid hown3; have HC3 := Lib.hid hcd; clear hown3 hgrow3 hcd))
  all_goals
    go_end0
    refine ⟨rfl, (HW.out.keep HC2.out).grow (HC2.out.heap HB.out (by simp)) HC3.out HGE.out HO3.out (by rw [← HM.out]), fun g o hg hne hbb => ?_⟩
    have hr := hbb _ HCL.out
    exact ((Chg.refl [gw] w3).setCell (p := ⟨gw, 1, none⟩) (by simp) _).heap (HC3.out.heap (HC2.out.heap hg (by simp)) (fun hm => hr (by simpa using hm))) (by simpa using hne)

set_option maxRecDepth 100000 in
set_option maxHeartbeats 4000000 in
theorem wvalue_leaf_1 {w0 : World} {gw B : Nat} {fv : Value} {fm : List Nat} {d at0 : Nat} (hat : at0 < fm.length) (hfm : fm.length ≤ 100000) (hs : fm.getD at0 0 = kd 1) : WVC w0 gw B fv fm d at0 (wLeaf 1) okLeaf := by
  intro w out t kv hW hK hok hb
  obtain ⟨ko, kc, rfl, -, -⟩ := hK.shape
  obtain ⟨ao, cap, rfl, hc1, hc2⟩ := hW.fs.shape
  rw [nv_length] at hc1 hW
  rw [nv_length]
  obtain ⟨n, hn⟩ : ∃ n, n = fm.length := ⟨_, rfl⟩
  rw [← hn] at hc1 hW hat hfm ⊢
  obtain ⟨g, off, rfl, hsg⟩ := hW.sign hn hat
  have HW1 := Lib.hid (hW.keep ((Chg.refl [] w).alloc (.cells #[.int .i64 t.n, .string t.s, .slice ko t.k.length kc] 30)))
  have p0 := HW1.out.cells
  have hx := hsg _ HW1.out.c0 at0 hat
  rw [hs, show kd 1 = 98 from rfl, show ((98 : Nat) : Int) = 98 from rfl] at hx
  obtain ⟨hok1, hok2⟩ := hok
  have HN := Lib.hid hn
  have E := Lib.hid (show wLeaf 1 t = lw 1 t.n by unfold wLeaf; rw [if_pos rfl])
  have HT := Lib.hid (wnumber_any 1 t.n (by decide) hok1 HW1.out (by omega))
  rw [show ((1 : Nat) : Int) = 1 from rfl] at HT
  clear hW hK hb hsg hs hn hok1 hok2
  go_enter Try.func104, Try.ntmps104
  go_wp2_with (first
    | (go_at_call 129; (with_reducible refine HT.out.mono ?_); rintro e w2 ⟨rfl, hw2⟩; have HW2 := Lib.hid hw2; clear hw2)
    | fail)
  go_end0
  rw [E.out]
  exact ⟨rfl, HW2.out⟩

set_option maxRecDepth 100000 in
set_option maxHeartbeats 4000000 in
theorem wvalue_leaf_2 {w0 : World} {gw B : Nat} {fv : Value} {fm : List Nat} {d at0 : Nat} (hat : at0 < fm.length) (hfm : fm.length ≤ 100000) (hs : fm.getD at0 0 = kd 2) : WVC w0 gw B fv fm d at0 (wLeaf 2) okLeaf := by
  intro w out t kv hW hK hok hb
  obtain ⟨ko, kc, rfl, -, -⟩ := hK.shape
  obtain ⟨ao, cap, rfl, hc1, hc2⟩ := hW.fs.shape
  rw [nv_length] at hc1 hW
  rw [nv_length]
  obtain ⟨n, hn⟩ : ∃ n, n = fm.length := ⟨_, rfl⟩
  rw [← hn] at hc1 hW hat hfm ⊢
  obtain ⟨g, off, rfl, hsg⟩ := hW.sign hn hat
  have HW1 := Lib.hid (hW.keep ((Chg.refl [] w).alloc (.cells #[.int .i64 t.n, .string t.s, .slice ko t.k.length kc] 30)))
  have p0 := HW1.out.cells
  have hx := hsg _ HW1.out.c0 at0 hat
  rw [hs, show kd 2 = 105 from rfl, show ((105 : Nat) : Int) = 105 from rfl] at hx
  obtain ⟨hok1, hok2⟩ := hok
  have HN := Lib.hid hn
  have E := Lib.hid (show wLeaf 2 t = lw 4 t.n by unfold wLeaf; rw [if_neg (by decide), if_pos rfl])
  have HT := Lib.hid (wnumber_any 4 t.n (by decide) hok1 HW1.out (by omega))
  rw [show ((4 : Nat) : Int) = 4 from rfl] at HT
  clear hW hK hb hsg hs hn hok1 hok2
  go_enter Try.func104, Try.ntmps104
  go_wp2_with (first
    | (go_at_call 129; (with_reducible refine HT.out.mono ?_); rintro e w2 ⟨rfl, hw2⟩; have HW2 := Lib.hid hw2; clear hw2)
    | fail)
  go_end0
  rw [E.out]
  exact ⟨rfl, HW2.out⟩

set_option maxRecDepth 100000 in
set_option maxHeartbeats 4000000 in
theorem wvalue_leaf_3 {w0 : World} {gw B : Nat} {fv : Value} {fm : List Nat} {d at0 : Nat} (hat : at0 < fm.length) (hfm : fm.length ≤ 100000) (hs : fm.getD at0 0 = kd 3) : WVC w0 gw B fv fm d at0 (wLeaf 3) okLeaf := by
  intro w out t kv hW hK hok hb
  obtain ⟨ko, kc, rfl, -, -⟩ := hK.shape
  obtain ⟨ao, cap, rfl, hc1, hc2⟩ := hW.fs.shape
  rw [nv_length] at hc1 hW
  rw [nv_length]
  obtain ⟨n, hn⟩ : ∃ n, n = fm.length := ⟨_, rfl⟩
  rw [← hn] at hc1 hW hat hfm ⊢
  obtain ⟨g, off, rfl, hsg⟩ := hW.sign hn hat
  have HW1 := Lib.hid (hW.keep ((Chg.refl [] w).alloc (.cells #[.int .i64 t.n, .string t.s, .slice ko t.k.length kc] 30)))
  have p0 := HW1.out.cells
  have hx := hsg _ HW1.out.c0 at0 hat
  rw [hs, show kd 3 = 108 from rfl, show ((108 : Nat) : Int) = 108 from rfl] at hx
  obtain ⟨hok1, hok2⟩ := hok
  have HN := Lib.hid hn
  have E := Lib.hid (show wLeaf 3 t = lw 8 t.n by unfold wLeaf; rw [if_neg (by decide), if_neg (by decide), if_pos rfl])
  have HT := Lib.hid (wnumber_any 8 t.n (by decide) hok1 HW1.out (by omega))
  rw [show ((8 : Nat) : Int) = 8 from rfl] at HT
  clear hW hK hb hsg hs hn hok1 hok2
  go_enter Try.func104, Try.ntmps104
  go_wp2_with (first
    | (go_at_call 129; (with_reducible refine HT.out.mono ?_); rintro e w2 ⟨rfl, hw2⟩; have HW2 := Lib.hid hw2; clear hw2)
    | fail)
  go_end0
  rw [E.out]
  exact ⟨rfl, HW2.out⟩

set_option maxRecDepth 100000 in
set_option maxHeartbeats 4000000 in
theorem wvalue_leaf_4 {w0 : World} {gw B : Nat} {fv : Value} {fm : List Nat} {d at0 : Nat} (hat : at0 < fm.length) (hfm : fm.length ≤ 100000) (hs : fm.getD at0 0 = kd 4) : WVC w0 gw B fv fm d at0 (wLeaf 4) okLeaf := by
  intro w out t kv hW hK hok hb
  obtain ⟨ko, kc, rfl, -, -⟩ := hK.shape
  obtain ⟨ao, cap, rfl, hc1, hc2⟩ := hW.fs.shape
  rw [nv_length] at hc1 hW
  rw [nv_length]
  obtain ⟨n, hn⟩ : ∃ n, n = fm.length := ⟨_, rfl⟩
  rw [← hn] at hc1 hW hat hfm ⊢
  obtain ⟨g, off, rfl, hsg⟩ := hW.sign hn hat
  have HW1 := Lib.hid (hW.keep ((Chg.refl [] w).alloc (.cells #[.int .i64 t.n, .string t.s, .slice ko t.k.length kc] 30)))
  have p0 := HW1.out.cells
  have hx := hsg _ HW1.out.c0 at0 hat
  rw [hs, show kd 4 = 116 from rfl, show ((116 : Nat) : Int) = 116 from rfl] at hx
  obtain ⟨hok1, hok2⟩ := hok
  have HN := Lib.hid hn
  have E := Lib.hid (show wLeaf 4 t = vb t.s.size ++ bl t.s by unfold wLeaf; rw [if_neg (by decide), if_neg (by decide), if_neg (by decide)])
  rw [E.out, List.length_append, bl_length] at hb
  have HT := Lib.hid (wcount_keep t.s.size (by omega) HW1.out (by omega))
  have HBX := Lib.hid (heap_alloc_new w (.cells #[.int .i64 t.n, .string t.s, .slice ko t.k.length kc] 30))
  have HOB := Lib.hid (show out.length + (vb t.s.size).length + t.s.size ≤ 100000000 by omega)
  have HNE := Lib.hid (show w.heap.size ≠ gw from by have := hW.g1; have := hW.lB; omega)
  have HNB := Lib.hid (show ∀ bv, (w.alloc (.cells #[.int .i64 t.n, .string t.s, .slice ko t.k.length kc] 30)).cell? ⟨gw, 1, none⟩ = some bv → bv.ownBlock ≠ some w.heap.size from fun bv hbv e => by
    obtain ⟨bv', hb', ho'⟩ := hW.st
    have h1 := (cells2 (((Chg.refl [] w).alloc (.cells #[.int .i64 t.n, .string t.s, .slice ko t.k.length kc] 30)).heap hb' (by simp))).2.1
    rw [h1] at hbv
    injection hbv with hbv
    subst hbv
    have := own_lt ho' _ e
    omega)
  obtain ⟨gb, hgb⟩ : ∃ gb, gb = w.heap.size := ⟨_, rfl⟩
  have HGB := Lib.hid hgb
  rw [← hgb] at HBX HNE HNB
  have HFS := Lib.hid hW.g1
  clear hW hK hb hsg hs hn hok1 hgb
  go_enter Try.func104, Try.ntmps104
  go_upto_region 11 with fail
  rw [← HGB.out]
  have q1 : (w.alloc (.cells #[.int .i64 t.n, .string t.s, .slice ko t.k.length kc] 30)).cell? ⟨gb, 1, none⟩ = some (.string t.s) := by rw [cell_of_row _ gb 1 _ _ _ HBX.out]; rfl
  go_upto_region 12 with (first
    | (go_at_call 77; (with_reducible refine HT.out.mono ?_); rintro e w2 ⟨rfl, hw2, hk2⟩; have HW2 := Lib.hid hw2; have HX2 := Lib.hid (hk2 gb _ HBX.out HNE.out HNB.out); clear hw2 hk2)
    | fail)
  obtain ⟨bv, hb2, ho2⟩ := HW2.out.st
  obtain ⟨ba, bc, rfl⟩ := own_shape ho2
  obtain ⟨-, c1, -, f1⟩ := cells2 hb2
  have r1 : w2.cell? ⟨gb, 1, none⟩ = some (.string t.s) := by rw [cell_of_row w2 gb 1 _ _ _ HX2.out]; rfl
  obtain ⟨m, hm⟩ : ∃ m, m = (out ++ vb t.s.size).length := ⟨_, rfl⟩
  have HB2 := Lib.hid hb2; have HO2 := Lib.hid ho2
  rw [← hm] at HB2 HO2 c1
  have HM := Lib.hid hm
  have HGE := Lib.hid (show ∀ g, (Value.slice ba m bc).ownBlock = some g → B ≤ g from fun g hg => own_ge HO2.out g hg)
  have HLB := Lib.hid HW2.out.lB
  have HMB := Lib.hid (show m + t.s.size ≤ 140737488355328 by have := HOB.out; rw [hm, List.length_append]; omega)
  have HWT := Lib.hid (show ∀ w3, Chg (Value.slice ba m bc).ownBlock.toList w2 w3 → w3.cell? ⟨gw, 1, none⟩ = some (.slice ba m bc) ∧ w3.frozen? ⟨gw, 1, none⟩ = false from fun w3 hd => by
    obtain ⟨-, k1, -, k2⟩ := cells2 (hd.heap HB2.out (fun hm => by simp at hm; have := HGE.out gw hm; have := HFS.out; omega))
    exact ⟨k1, k2⟩)
  clear hb2 ho2 hm
  go_region_law (first
    | (refine step_append_text (by rfl) (.tmp 50) (.tmp 52) (by rfl) B (.slice ba m bc) m (nv .u8 (out ++ vb t.s.size)) (by rfl) HO2.out t.s (by rfl) HMB.out HLB.out ?_; intro v3 w3 hown3 hgrow3; obtain ⟨va, vc, rfl⟩ := own_shape hown3; have hcd : Chg (Value.slice ba m bc).ownBlock.toList w2 w3 := (Chg.refl _ w2).grown (w := w2) (by first | exact hgrow3 | exact ⟨hgrow3.os, hgrow3.tape, hgrow3.output, hgrow3.size, hgrow3.block⟩) (fun g hg => .inl (by simp [hg])); obtain ⟨k3, k4⟩ := HWT.out w3 hcd; have HO3 := Lib.hid hown3; have HC3 := Lib.hid hcd; clear hown3 hgrow3 hcd))
  all_goals
    go_end0
    rw [E.out, ← List.append_assoc]
    exact ⟨rfl, HW2.out.grow HB2.out HC3.out HGE.out HO3.out (by rw [← HM.out, bl_length])⟩

end Go.Proofs.Ythhcnlmjcpkbnaa
