/- Hi, Hj: texts of one group, one behind the other. -/
import Derived.Test.YtkbfbiklnjldgaaHA
import Derived.Test.YtkbfbiklnjldgaaMw
import Derived.Test.YtkbfbiklnjldgaaHC
import Derived.Test.YtkbfbiklnjldgaaA4
namespace Go.Proofs.Ytkbfbiklnjldgaa
open Go.RowKit
set_option linter.unusedVariables false
set_option linter.unusedSimpArgs false

theorem Fo.num_le : ∀ k : Fo, k.num ≤ k.flat.length
  | .nil => Nat.le_refl _
  | .leaf f t => by have := t.num_le; simp [Fo.num, Fo.flat]; omega
  | .group f k t => by have := t.num_le; simp [Fo.num, Fo.flat]; omega

/-- How many each open group lacks, the innermost last. -/
def lkS (S : List Fo) : List Nat := (S.map Fo.num).reverse
theorem lkS_cons (k : Fo) (S : List Fo) : lkS (k :: S) = lkS S ++ [k.num] := by simp [lkS]
@[simp] theorem lkS_length (S : List Fo) : (lkS S).length = S.length := by simp [lkS]
theorem lkS_last (k : Fo) (S : List Fo) : (nv .i64 (lkS (k :: S)))[S.length]? = some (.int .i64 (k.num : Nat)) := by
  rw [lkS_cons, nv, List.map_append, List.getElem?_append_right (by simp)]
  simp
theorem lkS_pop (k : Fo) (S : List Fo) : (nv .i64 (lkS (k :: S))).take S.length = nv .i64 (lkS S) := by
  rw [lkS_cons, nv, List.map_append, List.take_left' (by simp)]
  rfl
theorem lkS_dec (k t : Fo) (S : List Fo) (h : k.num = t.num + 1) : (nv .i64 (lkS (k :: S))).set S.length (.int .i64 (t.num : Nat)) = nv .i64 (lkS (t :: S)) := by
  rw [lkS_cons, lkS_cons, nv, nv, List.map_append, List.map_append, List.set_append_right _ _ (by simp)]
  simp

def flS (S : List Fo) (T : Fo) : List F := S.flatMap Fo.flat ++ T.flat
def sgS (S : List Fo) (T : Fo) : List Nat := S.flatMap (fun k => k.sg ++ [41]) ++ T.sg

/-- How formOf stands. -/
structure FmJ (w w' : World) (l : List F) (tot : List Nat) (i : Nat) (e : List Nat) (S : List Fo) (T : Fo) (fv lv : Value) : Prop where
  ef : w'.ownsRow w.heap.size 21 1 fv e.length (nv .i32 e)
  el : w'.ownsRow w.heap.size 3 1 lv S.length (nv .i64 (lkS S))
  cg : Chg [] w w'
  dr : l.drop i = flS S T
  ws : ∀ k ∈ S, k.wf
  wt : T.wf
  em : e ++ sgS S T = tot
  il : i ≤ l.length
  sl : S.length ≤ i

theorem FmJ.ne {w w' : World} {l : List F} {tot : List Nat} {i : Nat} {e : List Nat} {S : List Fo} {T : Fo} {fv lv : Value} (h : FmJ w w' l tot i e S T fv lv) : ∀ g, fv.ownBlock = some g → lv.ownBlock ≠ some g := fun g hg hl => by
  obtain ⟨c1, f1, h1⟩ := tagged_of_own h.ef g hg
  obtain ⟨c2, f2, h2⟩ := tagged_of_own h.el g hl
  rw [h1] at h2
  injection h2 with h2
  injection h2 with _ h3 _
  exact absurd h3 (by decide)

theorem info_i32 : ∃ i, Try.prog.info? 21 = some i ∧ i.zero = some (.int .i32 0) ∧ i.size = 1 ∧ i.bytes = 4 :=
  info_parts (show (Try.prog.info? 21).map (fun i => (i.zero, i.size, i.bytes)) = some (some (.int .i32 0), 1, 4) by kernel_rfl)

theorem dr_next {l r : List F} {i : Nat} {f : F} (h : l.drop i = f :: r) : i < l.length ∧ l.getD i default = f ∧ l.drop (i + 1) = r := by
  have ha : i < l.length := by
    by_cases ha : i < l.length
    · exact ha
    · rw [List.drop_of_length_le (by omega)] at h; cases h
  rw [List.drop_eq_getElem_cons ha] at h
  injection h with h1 h2
  exact ⟨ha, by rw [List.getD, List.getElem?_eq_getElem ha]; exact h1, h2⟩

theorem rows_apart {w : World} {B n1 n2 : Nat} {x y : Value} {l1 l2 : List Value} (h1 : w.ownsRow B 21 1 x n1 l1) (h2 : w.ownsRow B 3 1 y n2 l2) (g : Nat) (hg : x.ownBlock = some g) (hl : y.ownBlock = some g) : False := by
  obtain ⟨c1, f1, h1⟩ := tagged_of_own h1 g hg
  obtain ⟨c2, f2, h2⟩ := tagged_of_own h2 g hl
  rw [h1] at h2
  injection h2 with h2
  injection h2 with _ h3 _
  exact absurd h3 (by decide)

abbrev FF (ao : Option Addr) (n cap : Nat) (fv lv : Value) (i : Nat) (u : Nat → Value) : Act :=
  { tmps := #[.slice ao n cap, undef, .slice none 0 0, fv, lv, .int .i64 (i : Int), u 6, u 7, u 8, u 9, u 10, u 11, u 12, u 13, u 14, u 15, u 16, u 17, u 18, u 19, u 20, u 21, u 22, u 23, u 24, u 25, u 26, u 27, u 28, u 29, u 30, u 31, u 32, u 33, u 34, u 35, u 36, u 37, u 38, u 39, u 40, u 41, u 42, u 43, u 44, u 45, u 46, u 47, u 48, u 49, u 50, u 51, u 52, u 53, u 54, u 55, u 56, u 57, u 58, u 59, u 60, u 61, u 62, u 63], defers := [] }
theorem FF_of {ao : Option Addr} {n cap : Nat} {fv lv : Value} {i : Nat} {x : Act} (h : x = FF ao n cap fv lv i (fun j => x.tmps.getD j undef)) : ∃ u, x = FF ao n cap fv lv i u := ⟨_, h⟩

set_option maxRecDepth 100000 in
set_option maxHeartbeats 8000000 in
theorem formOf_any (sv : Value) (l : List F) (T0 : Fo) (w : World) (hS : SeenF w sv l) (hT : l = T0.flat) (hwf : T0.wf) (hl : l.length ≤ 1000) (ht : T0.sg.length ≤ 100000) :
    Calls Try.prog 18 #[sv] w fun e w' => ∃ x, e = .returned x ∧ Made 21 .i32 T0.sg w x w' := by
  obtain ⟨ii, hi, hz0, hz1, hz2⟩ := info_i32
  obtain ⟨i1, ji, jz0, jz1, jz2⟩ := info_int
  obtain ⟨ao, cap, rfl, hc1, hc2⟩ := hS.shape
  obtain ⟨n, hn⟩ : ∃ n, n = l.length := ⟨_, rfl⟩
  rw [← hn] at hc1 hl hS ⊢
  have HS := Lib.hid hS; have HN := Lib.hid hn
  have HT := Lib.hid (show FmJ w w l T0.sg 0 [] [] T0 (.slice none 0 0) (.slice none 0 0) from ⟨World.ownsRow_nil _ _ _ _, World.ownsRow_nil _ _ _ _, Chg.refl _ _, by simp [flS, hT], by simp, hwf, by simp [sgS], Nat.zero_le _, Nat.le_refl _⟩)
  obtain ⟨tot, htot⟩ : ∃ t, t = T0.sg := ⟨_, rfl⟩
  rw [← htot] at HT ht ⊢
  clear hS hn hT hwf htot
  go_enter Try.func18, Try.ntmps18
  go_wp2_with fail
  refine wp_scope_pre3 0 (fun a' w' => ∃ (i : Nat) (e : List Nat) (S : List Fo) (T : Fo) (fv lv : Value), (∃ u, a' = FF ao n cap fv lv i u) ∧ FmJ w w' l tot i e S T fv lv) (fun a' _ => tot.length - slen (a'.tmps.getD 3 undef)) rfl ?_ ?_
  · go_wp2
    exact ⟨0, [], [], T0, _, _, FF_of rfl, HT.out⟩
  rintro a' wi ⟨i, e, S, T, fv, lv, ⟨u, rfl⟩, hJ⟩
  unfold FF
  obtain ⟨fa, fc, rfl⟩ := own_shape hJ.ef
  obtain ⟨la, lc, rfl⟩ := own_shape hJ.el
  obtain ⟨m, hm⟩ : ∃ m, m = e.length := ⟨_, rfl⟩
  have hil := hJ.il
  have hsl := hJ.sl
  rw [← HN.out] at hil
  have hto := congrArg List.length hJ.em
  rw [List.length_append] at hto
  have hwi : w.heap.size ≤ wi.heap.size := hJ.cg.size
  have HNE := Lib.hid hJ.ne
  rw [← hm] at hJ hto HNE ⊢
  have HJ := Lib.hid hJ; have HM := Lib.hid hm
  clear hJ hm
  cases S with
  | nil =>
    cases T with
    | nil =>
      have E1 := Lib.hid (show e = tot by have := HJ.out.em; simpa [sgS, Fo.sg] using this)
      have hin : i = n := by
        have := HJ.out.dr
        have h2 := congrArg List.length this
        simp [flS, Fo.flat] at h2
        have := HN.out
        omega
      subst hin
      have d1 : ((i : Int) == (i : Int)) = true := by simp
      have HEF := Lib.hid HJ.out.ef
      rw [← HM.out] at HEF
      clear hsl hto
      go_wp2
      simp only [Exit.jump]
      go_ret
      refine ⟨_, rfl, HJ.out.cg, ?_⟩
      have h := HEF.out
      rw [E1.out] at h
      rw [show tot.length = m by rw [HM.out, E1.out]]
      exact h
    | leaf f t =>
      have hdr := HJ.out.dr
      have hdr2 : l.drop i = f :: flS ([] : List Fo) t := by rw [hdr]; simp [flS, Fo.flat]
      obtain ⟨hlt, hfd, hdr3⟩ := dr_next hdr2
      rw [← HN.out] at hlt
      have hw := HJ.out.wt
      obtain ⟨hk1, hk4, hwt⟩ := hw
      have dk : (f.k == 0) = false := by simp; omega
      have din : ((i : Int) == (n : Int)) = false := by simp; omega
      have hwi1 : IntKind.i64.wrap ((i : Int) + 1) = (i : Int) + 1 := IntWalk.i64_in _ (by omega)
      have HDR3 := Lib.hid hdr3; have HWT := Lib.hid hwt
      have HEM := Lib.hid (show (e ++ sg f) ++ sgS ([] : List Fo) t = tot by rw [← HJ.out.em]; simp [sgS, Fo.sg])
      have HWS := Lib.hid (show ∀ x ∈ ([] : List Fo), x.wf from by simp)
      have HWT1 := Lib.hid (show Fo.wf t from HWT.out)
      obtain ⟨gs, os, rfl, hss⟩ := SeenF.get HS.out (by omega) HN.out.symm
      have HSS := Lib.hid (fun (wx : World) (hc : Chg [] w wx) => by have h := hss i hlt; rw [hfd] at h; exact (⟨hc.cell h.1 (by simp), hc.cell h.2.1 (by simp), hc.cell h.2.2.1 (by simp), hc.cell h.2.2.2 (by simp)⟩ : wx.cell? ⟨gs, os + i * 4, none⟩ = some (.string f.n) ∧ wx.cell? ⟨gs, os + i * 4 + 1, none⟩ = some (.int .i64 f.r) ∧ wx.cell? ⟨gs, os + i * 4 + 2, none⟩ = some (.int .i64 f.k) ∧ wx.cell? ⟨gs, os + i * 4 + 3, none⟩ = some (.int .i64 f.c)))
      clear hss hdr hdr2 hdr3 hfd hwt hk1 hk4
      obtain ⟨W1, hW1⟩ : ∃ W1, W1 = wi := ⟨_, rfl⟩
      have HC1 := Lib.hid (show Chg [] w W1 by rw [hW1]; exact HJ.out.cg)
      have HEF1 := Lib.hid (show W1.ownsRow w.heap.size 21 1 (.slice fa m fc) m (nv .i32 e) by rw [hW1]; have := HJ.out.ef; rw [← HM.out] at this; exact this)
      have HEL1 := Lib.hid (show W1.ownsRow w.heap.size 3 1 (.slice la 0 lc) 0 (nv .i64 (lkS [])) by rw [hW1]; exact HJ.out.el)
      rw [List.length_nil] at HNE ⊢
      rw [← hW1]
      clear hW1
      go_upto_region 11 with fail
      have HNE1 := Lib.hid (show ∀ g, (Value.slice fa m fc).ownBlock = some g → ((.slice la 0 lc) : Value).ownBlock ≠ some g from HNE.out)
      obtain ⟨a1, a2, a3, a4⟩ := HSS.out W1 HC1.out
      have HB := Lib.hid (sg_len f)
      have htl := congrArg List.length HEM.out
      rw [List.length_append, List.length_append, ← HM.out] at htl
      have hwz := HC1.out.size
      go_wp2_with (first
        | (go_at_call 38; (with_reducible refine (signs_any f _).mono ?_); rintro e2 w2 ⟨x, rfl, hc2, hx2⟩; obtain ⟨xa, xc, rfl⟩ := own_shape hx2; have HC2 := Lib.hid (HC1.out.trans hc2 (by simp)); have HSX := Lib.hid (reads_of_own hx2).seen; have HEF2 := Lib.hid (own_chg HEF1.out hc2 (by simp)); have HEL2 := Lib.hid (own_chg HEL1.out hc2 (by simp)); have HW2 := Lib.hid HC2.out.size; clear hc2 hx2)
        | (at_builtin; refine wpList_append_reads _ rfl _ _ 51 50 rfl w.heap.size 21 21 ii (.int .i32 0) 4 Try.underlying51 Try.underlying50 hi hz0 hz1 hz2 rfl (.slice fa m fc) m (nv .i32 e) rfl HEF2.out _ (nv .i32 (sg f)) rfl HSX.out (nv_one _ _) (by rw [nv_length]; unfold maxLen; omega) (by rw [nv_length]; omega) HW2.out ?_; intro v3 w3 hown3 hgrow3; obtain ⟨fa3, fc3, rfl⟩ := own_shape hown3; rw [nv_length] at hown3 ⊢; have hC3 : Chg (Value.slice fa m fc).ownBlock.toList w2 w3 := (Chg.refl _ w2).grown hgrow3 (fun g hg => .inl (by simp [hg])); have hC4 : Chg [] w w3 := HC2.out.trans hC3 (fun g hg => .inr (by simp at hg; exact own_ge HEF2.out g hg)); obtain ⟨b1, b2, b3, b4⟩ := HSS.out w3 hC4; have HEF3 := Lib.hid hown3; have HEL3 := Lib.hid (own_chg HEL2.out hC3 (fun g hg hm => by simp at hm; exact HNE1.out g hm hg)); have HC3 := Lib.hid hC4; have HW3 := Lib.hid hC4.size; clear hown3 hgrow3 hC3 hC4)
        | fail)
      go_step3
      refine ⟨rfl, ⟨i + 1, e ++ sg f, ([] : List Fo), t, _, _, FF_of rfl, ⟨?_, ?_, HC3.out, HDR3.out, HWS.out, HWT1.out, HEM.out, by rw [← HN.out]; omega, ?_⟩⟩, ?_⟩
      · rw [List.length_append, ← HM.out]; have h := HEF3.out; rw [show nv .i32 (e ++ sg f) = nv .i32 e ++ nv .i32 (sg f) by simp [nv]]; exact h
      · exact HEL3.out
      · simp; try omega
      · show tot.length - (m + (sg f).length) < tot.length - m
        have := HB.out
        omega
    | group f k t =>
      have hdr := HJ.out.dr
      have hdr2 : l.drop i = f :: flS [k] t := by rw [hdr]; simp [flS, Fo.flat]
      obtain ⟨hlt, hfd, hdr3⟩ := dr_next hdr2
      rw [← HN.out] at hlt
      have hw := HJ.out.wt
      obtain ⟨hk0, hfc, hwk, hwt⟩ := hw
      have dk : (f.k == 0) = true := by simpa using hk0
      have din : ((i : Int) == (n : Int)) = false := by simp; omega
      have hwi1 : IntKind.i64.wrap ((i : Int) + 1) = (i : Int) + 1 := IntWalk.i64_in _ (by omega)
      have HDR3 := Lib.hid hdr3; have HWT := Lib.hid hwt; have HWK := Lib.hid hwk; have HFC := Lib.hid hfc
      have HEM := Lib.hid (show (e ++ sg f) ++ sgS [k] t = tot by rw [← HJ.out.em]; simp [sgS, Fo.sg])
      have HWS := Lib.hid (show ∀ x ∈ [k], x.wf from fun x hx => by simp at hx; rw [hx]; exact HWK.out)
      have HWT1 := Lib.hid (show Fo.wf t from HWT.out)
      obtain ⟨gs, os, rfl, hss⟩ := SeenF.get HS.out (by omega) HN.out.symm
      have HSS := Lib.hid (fun (wx : World) (hc : Chg [] w wx) => by have h := hss i hlt; rw [hfd] at h; exact (⟨hc.cell h.1 (by simp), hc.cell h.2.1 (by simp), hc.cell h.2.2.1 (by simp), hc.cell h.2.2.2 (by simp)⟩ : wx.cell? ⟨gs, os + i * 4, none⟩ = some (.string f.n) ∧ wx.cell? ⟨gs, os + i * 4 + 1, none⟩ = some (.int .i64 f.r) ∧ wx.cell? ⟨gs, os + i * 4 + 2, none⟩ = some (.int .i64 f.k) ∧ wx.cell? ⟨gs, os + i * 4 + 3, none⟩ = some (.int .i64 f.c)))
      clear hss hdr hdr2 hdr3 hfd hwt hwk hfc hk0
      obtain ⟨W1, hW1⟩ : ∃ W1, W1 = wi := ⟨_, rfl⟩
      have HC1 := Lib.hid (show Chg [] w W1 by rw [hW1]; exact HJ.out.cg)
      have HEF1 := Lib.hid (show W1.ownsRow w.heap.size 21 1 (.slice fa m fc) m (nv .i32 e) by rw [hW1]; have := HJ.out.ef; rw [← HM.out] at this; exact this)
      have HEL1 := Lib.hid (show W1.ownsRow w.heap.size 3 1 (.slice la 0 lc) 0 (nv .i64 (lkS [])) by rw [hW1]; exact HJ.out.el)
      rw [List.length_nil] at HNE ⊢
      rw [← hW1]
      clear hW1
      go_upto_region 11 with fail
      have HNE1 := Lib.hid (show ∀ g, (Value.slice fa m fc).ownBlock = some g → ((.slice la 0 lc) : Value).ownBlock ≠ some g from HNE.out)
      obtain ⟨a1, a2, a3, a4⟩ := HSS.out W1 HC1.out
      have HB := Lib.hid (sg_len f)
      have htl := congrArg List.length HEM.out
      rw [List.length_append, List.length_append, ← HM.out] at htl
      have hwz := HC1.out.size
      have HK := Lib.hid (show f.c = (k.num : Nat) from HFC.out)
      have HNF := Lib.hid (fun (wx : World) (x y : Value) {n1 n2 : Nat} {l1 l2 : List Value} (h1 : wx.ownsRow w.heap.size 21 1 x n1 l1) (h2 : wx.ownsRow w.heap.size 3 1 y n2 l2) (g : Nat) (hg : x.ownBlock = some g) (hl : y.ownBlock = some g) => rows_apart h1 h2 g hg hl)
      go_wp2_with (first
        | (go_at_call 38; (with_reducible refine (signs_any f _).mono ?_); rintro e2 w2 ⟨x, rfl, hc2, hx2⟩; obtain ⟨xa, xc, rfl⟩ := own_shape hx2; have HC2 := Lib.hid (HC1.out.trans hc2 (by simp)); have HSX := Lib.hid (reads_of_own hx2).seen; have HEF2 := Lib.hid (own_chg HEF1.out hc2 (by simp)); have HEL2 := Lib.hid (own_chg HEL1.out hc2 (by simp)); have HW2 := Lib.hid HC2.out.size; clear hc2 hx2)
        | (at_builtin; refine wpList_append_reads _ rfl _ _ 51 50 rfl w.heap.size 21 21 ii (.int .i32 0) 4 Try.underlying51 Try.underlying50 hi hz0 hz1 hz2 rfl (.slice fa m fc) m (nv .i32 e) rfl HEF2.out _ (nv .i32 (sg f)) rfl HSX.out (nv_one _ _) (by rw [nv_length]; unfold maxLen; omega) (by rw [nv_length]; omega) HW2.out ?_; intro v3 w3 hown3 hgrow3; obtain ⟨fa3, fc3, rfl⟩ := own_shape hown3; rw [nv_length] at hown3 ⊢; have hC3 : Chg (Value.slice fa m fc).ownBlock.toList w2 w3 := (Chg.refl _ w2).grown hgrow3 (fun g hg => .inl (by simp [hg])); have hC4 : Chg [] w w3 := HC2.out.trans hC3 (fun g hg => .inr (by simp at hg; exact own_ge HEF2.out g hg)); obtain ⟨b1, b2, b3, b4⟩ := HSS.out w3 hC4; have HEF3 := Lib.hid hown3; have HEL3 := Lib.hid (own_chg HEL2.out hC3 (fun g hg hm => by simp at hm; exact HNE1.out g hm hg)); have HC3 := Lib.hid hC4; have HW3 := Lib.hid hC4.size; clear hown3 hgrow3 hC3 hC4; rw [HK.out] at b4)
        | (at_builtin; refine wpList_append_at _ rfl (.tmp 54) (.tmp 60) _ rfl w.heap.size 3 i1 (.int .i64 0) 1 8 Try.underlying22 ji jz0 jz1 jz2 rfl (by decide) (.slice la 0 lc) (0) (nv .i64 (lkS ([] : List Fo))) rfl (HEL3.out.alloc _) ⟨w3.heap.size, 0, none⟩ 1 1 [.int .i64 (k.num : Nat)] rfl rfl new_cell (by simp [Value.oneCell']) (by unfold maxLen; omega) (by omega) (le_alloc HW3.out _) ?_; intro v5 w5 hown5 hg5 hat5; obtain ⟨la5, lc5, rfl⟩ := own_shape hown5; have hC5 : Chg ((.slice la 0 lc) : Value).ownBlock.toList w3 w5 := ((Chg.refl _ w3).alloc _).grown hg5 (fun g hg => .inl (by simp [hg])); have HEF5 := Lib.hid (own_chg HEF3.out hC5 (fun g hg hm => HNF.out w3 _ _ HEF3.out HEL3.out g hg (by simpa using hm))); have HEL5 := Lib.hid hown5; have HC5 := Lib.hid (HC3.out.trans hC5 (fun g hg => .inr (own_ge HEL3.out g (by simpa using hg)))); clear hown5 hg5 hat5 hC5)
        | fail)
      go_step3
      refine ⟨rfl, ⟨i + 1, e ++ sg f, [k], t, _, _, FF_of rfl, ⟨?_, ?_, HC5.out, HDR3.out, HWS.out, HWT1.out, HEM.out, by rw [← HN.out]; omega, ?_⟩⟩, ?_⟩
      · rw [List.length_append, ← HM.out]; have h := HEF5.out; rw [show nv .i32 (e ++ sg f) = nv .i32 e ++ nv .i32 (sg f) by simp [nv]]; exact h
      · have h := HEL5.out; rw [show nv .i64 (lkS [k]) = nv .i64 (lkS ([] : List Fo)) ++ [.int .i64 (k.num : Nat)] by rw [lkS_cons k]; simp [nv]]; exact h
      · simp; try omega
      · show tot.length - (m + (sg f).length) < tot.length - m
        have := HB.out
        omega
  | cons k0 S =>
    cases k0 with
    | nil =>
      rw [List.length_cons] at hsl
      obtain ⟨q, hq⟩ : ∃ q, q = S.length := ⟨_, rfl⟩
      have hel := HJ.out.el
      rw [List.length_cons, ← hq] at hel ⊢
      obtain ⟨gl, rfl, hgl1, hgl2, hglf, hglc⟩ := own_ptr hel (by omega)
      have hc0 := hglc q (.int .i64 (Fo.nil.num : Nat)) (by rw [hq]; exact lkS_last _ _)
      rw [show ((Fo.nil.num : Nat) : Int) = 0 from rfl] at hc0
      have hwq2 : IntKind.i64.wrap (q : Int) = (q : Int) := IntWalk.i64_in _ (by omega)
      have hwq : IntKind.i64.wrap (((q + 1 : Nat) : Int) - 1) = (q : Int) := by rw [show ((q + 1 : Nat) : Int) - 1 = (q : Int) by omega]; exact IntWalk.i64_in _ (by omega)
      have hsh : q + 1 ≤ lc := by obtain ⟨a', c', h1, h2, h3⟩ := (reads_of_own hel).shape; injection h1 with e1 e2 e3; omega
      have HPOP := Lib.hid (own_front hel q (by omega))
      have HEF := Lib.hid (show wi.ownsRow w.heap.size 21 1 (.slice fa m fc) m (nv .i32 e) by have := HJ.out.ef; rw [← HM.out] at this; exact this)
      have HEM := Lib.hid (show (e ++ [41]) ++ sgS S T = tot by rw [← HJ.out.em]; simp [sgS, Fo.sg])
      have htl := congrArg List.length HEM.out
      rw [List.length_append, List.length_append, ← HM.out] at htl
      have HM1 := Lib.hid (show m + 1 ≤ maxLen by unfold maxLen; simp at htl; omega)
      have HM2 := Lib.hid (show (m + 1) * 4 ≤ 140737488355328 by simp at htl; omega)
      have HWI := Lib.hid hwi; have HQ := Lib.hid hq
      have hqc : (q : Int) ≤ (lc : Int) := by omega
      clear hel hq hglc hglf htl hto hsl
      go_upto_region 6 with fail
      go_region_held3 (fun _ => True) (exact trivial) (first
        | (refine step_append_at (by rfl) (.tmp 20) (.tmp 21) 51 (by rfl) w.heap.size 21 ii (.int .i32 0) 1 4 Try.underlying51 hi hz0 hz1 hz2 (by rfl) (by decide) (.slice fa m fc) m (nv .i32 e) (by rfl) (HEF.out.alloc _) ⟨wi.heap.size, 0, none⟩ 1 1 [.int .i32 41] (by rfl) (by rfl) new_cell (by simp [Value.oneCell']) HM1.out HM2.out (Nat.le_trans HWI.out ((Chg.refl [] wi).drew.alloc _).size) ?_; intro v3 w3 hown3 hg3 hat3; obtain ⟨fa3, fc3, rfl⟩ := own_shape hown3; have HO3 := Lib.hid hown3; have HC3 := Lib.hid (show Chg (Value.slice fa m fc).ownBlock.toList wi w3 from ((Chg.refl _ wi).drew.alloc (.cells #[.int .i32 41] 21)).grown hg3 (fun g hg => .inl (by simp [hg]))); clear hown3 hg3 hat3))
      go_wp2
      go_step3
      refine ⟨rfl, ⟨i, e ++ [41], S, T, _, _, FF_of rfl, ⟨?_, ?_, HJ.out.cg.trans HC3.out (fun g hg => .inr (own_ge HEF.out g (by simpa using hg))), HJ.out.dr, fun x hx => HJ.out.ws x (List.mem_cons_of_mem _ hx), HJ.out.wt, HEM.out, by rw [← HN.out]; exact hil, ?_⟩⟩, ?_⟩
      · rw [List.length_append, ← HM.out]; have h := HO3.out; rw [show nv .i32 (e ++ [41]) = nv .i32 e ++ [.int .i32 41] by simp [nv]]; exact h
      · have h := own_chg HPOP.out HC3.out (fun g hg hm => HNE.out g (by simpa using hm) hg)
        rw [HQ.out, lkS_pop, ← HQ.out] at h
        rw [← HQ.out]
        exact h
      · have h := HJ.out.sl
        rw [List.length_cons] at h
        omega
      · show tot.length - (m + 1) < tot.length - m
        have h := congrArg List.length HEM.out
        rw [List.length_append, List.length_append, ← HM.out] at h
        simp at h
        omega
    | leaf f t =>
      have hdr := HJ.out.dr
      have hdr2 : l.drop i = f :: flS (t :: S) T := by rw [hdr]; simp [flS, Fo.flat]
      obtain ⟨hlt, hfd, hdr3⟩ := dr_next hdr2
      rw [← HN.out] at hlt
      have hw := HJ.out.ws _ (List.mem_cons_self)
      obtain ⟨hk1, hk4, hwt⟩ := hw
      have dk : (f.k == 0) = false := by simp; omega
      have din : ((i : Int) == (n : Int)) = false := by simp; omega
      have hwi1 : IntKind.i64.wrap ((i : Int) + 1) = (i : Int) + 1 := IntWalk.i64_in _ (by omega)
      have HDR3 := Lib.hid hdr3; have HWT := Lib.hid hwt
      have HEM := Lib.hid (show (e ++ sg f) ++ sgS (t :: S) T = tot by rw [← HJ.out.em]; simp [sgS, Fo.sg])
      have HWS := Lib.hid (show ∀ x ∈ (t :: S), x.wf from fun x hx => by rcases List.mem_cons.1 hx with rfl | hx; exact HWT.out; exact HJ.out.ws x (List.mem_cons_of_mem _ hx))
      have HWT1 := Lib.hid (show Fo.wf T from HJ.out.wt)
      obtain ⟨gs, os, rfl, hss⟩ := SeenF.get HS.out (by omega) HN.out.symm
      have HSS := Lib.hid (fun (wx : World) (hc : Chg [] w wx) => by have h := hss i hlt; rw [hfd] at h; exact (⟨hc.cell h.1 (by simp), hc.cell h.2.1 (by simp), hc.cell h.2.2.1 (by simp), hc.cell h.2.2.2 (by simp)⟩ : wx.cell? ⟨gs, os + i * 4, none⟩ = some (.string f.n) ∧ wx.cell? ⟨gs, os + i * 4 + 1, none⟩ = some (.int .i64 f.r) ∧ wx.cell? ⟨gs, os + i * 4 + 2, none⟩ = some (.int .i64 f.k) ∧ wx.cell? ⟨gs, os + i * 4 + 3, none⟩ = some (.int .i64 f.c)))
      clear hss hdr hdr2 hdr3 hfd hwt hk1 hk4
      rw [List.length_cons] at hsl
      obtain ⟨q, hq⟩ : ∃ q, q = S.length := ⟨_, rfl⟩
      have hnum : (Fo.leaf f t).num = t.num + 1 := rfl
      have hnl : t.num < 100000 := by have h1 := Fo.num_le t; have h2 := congrArg List.length HJ.out.dr; rw [List.length_drop, ← HN.out] at h2; simp [flS, Fo.flat] at h2; omega
      have hel := HJ.out.el
      rw [List.length_cons, ← hq] at hel ⊢
      obtain ⟨gl, rfl, hgl1, hgl2, hglf, hglc⟩ := own_ptr hel (by omega)
      have hc0 := hglc q (.int .i64 ((Fo.leaf f t).num : Nat)) (by rw [hq]; exact lkS_last _ _)
      have hf0 := hglf q
      rw [hnum] at hc0
      obtain ⟨nu, hnu⟩ : ∃ nu, nu = t.num := ⟨_, rfl⟩
      rw [← hnu] at hc0 hnl
      have dz : (((nu + 1 : Nat) : Int) == 0) = false := by simp; omega
      have dz2 : ((nu : Int) + 1 == 0) = false := by simp; omega
      have hwn : IntKind.i64.wrap (((nu + 1 : Nat) : Int) - 1) = (nu : Int) := by rw [show ((nu + 1 : Nat) : Int) - 1 = (nu : Int) by omega]; exact IntWalk.i64_in _ (by omega)
      have hwq2 : IntKind.i64.wrap (q : Int) = (q : Int) := IntWalk.i64_in _ (by omega)
      have hwn2 : IntKind.i64.wrap (nu : Int) = (nu : Int) := IntWalk.i64_in _ (by omega)
      have hwq : IntKind.i64.wrap (((q + 1 : Nat) : Int) - 1) = (q : Int) := by rw [show ((q + 1 : Nat) : Int) - 1 = (q : Int) by omega]; exact IntWalk.i64_in _ (by omega)
      have hset := own_set hel q (by omega) (.int .i64 (nu : Int))
      rw [hnu, hq, lkS_dec _ t S hnum, ← hq, ← hnu] at hset
      have HC1 := Lib.hid (show Chg [] w (wi.setCell ⟨gl, q, none⟩ (.int .i64 (nu : Int))) from HJ.out.cg.trans ((Chg.refl [gl] wi).setCell (by simp) _) (fun g hg => .inr (by simp at hg; rw [hg]; exact hgl1)))
      have HEF1 := Lib.hid (Go.ownsRow_setCell_other HJ.out.ef (a := ⟨gl, q, none⟩) (fun hx => HNE.out gl hx rfl) (.int .i64 (nu : Int)))
      rw [← HM.out] at HEF1
      have HEL1 := Lib.hid hset; have HQ := Lib.hid hq
      clear hel hset hq hnu hglc hglf
      go_upto_region 11 with fail
      generalize wi.setCell ⟨gl, q, none⟩ (.int .i64 (nu : Int)) = W1 at HC1 HEF1 HEL1 ⊢
      have hq1 : q + 1 ≤ i := by rw [HQ.out]; exact hsl
      clear hc0 hf0 hwn hwq hwq2 hwn2 dz dz2
      have HNE1 := Lib.hid (show ∀ g, (Value.slice fa m fc).ownBlock = some g → ((.slice (some ⟨gl, 0, none⟩) (q + 1) lc) : Value).ownBlock ≠ some g from HNE.out)
      obtain ⟨a1, a2, a3, a4⟩ := HSS.out W1 HC1.out
      have HB := Lib.hid (sg_len f)
      have htl := congrArg List.length HEM.out
      rw [List.length_append, List.length_append, ← HM.out] at htl
      have hwz := HC1.out.size
      go_wp2_with (first
        | (go_at_call 38; (with_reducible refine (signs_any f _).mono ?_); rintro e2 w2 ⟨x, rfl, hc2, hx2⟩; obtain ⟨xa, xc, rfl⟩ := own_shape hx2; have HC2 := Lib.hid (HC1.out.trans hc2 (by simp)); have HSX := Lib.hid (reads_of_own hx2).seen; have HEF2 := Lib.hid (own_chg HEF1.out hc2 (by simp)); have HEL2 := Lib.hid (own_chg HEL1.out hc2 (by simp)); have HW2 := Lib.hid HC2.out.size; clear hc2 hx2)
        | (at_builtin; refine wpList_append_reads _ rfl _ _ 51 50 rfl w.heap.size 21 21 ii (.int .i32 0) 4 Try.underlying51 Try.underlying50 hi hz0 hz1 hz2 rfl (.slice fa m fc) m (nv .i32 e) rfl HEF2.out _ (nv .i32 (sg f)) rfl HSX.out (nv_one _ _) (by rw [nv_length]; unfold maxLen; omega) (by rw [nv_length]; omega) HW2.out ?_; intro v3 w3 hown3 hgrow3; obtain ⟨fa3, fc3, rfl⟩ := own_shape hown3; rw [nv_length] at hown3 ⊢; have hC3 : Chg (Value.slice fa m fc).ownBlock.toList w2 w3 := (Chg.refl _ w2).grown hgrow3 (fun g hg => .inl (by simp [hg])); have hC4 : Chg [] w w3 := HC2.out.trans hC3 (fun g hg => .inr (by simp at hg; exact own_ge HEF2.out g hg)); obtain ⟨b1, b2, b3, b4⟩ := HSS.out w3 hC4; have HEF3 := Lib.hid hown3; have HEL3 := Lib.hid (own_chg HEL2.out hC3 (fun g hg hm => by simp at hm; exact HNE1.out g hm hg)); have HC3 := Lib.hid hC4; have HW3 := Lib.hid hC4.size; clear hown3 hgrow3 hC3 hC4)
        | fail)
      go_step3
      refine ⟨rfl, ⟨i + 1, e ++ sg f, (t :: S), T, _, _, FF_of rfl, ⟨?_, ?_, HC3.out, HDR3.out, HWS.out, HWT1.out, HEM.out, by rw [← HN.out]; omega, ?_⟩⟩, ?_⟩
      · rw [List.length_append, ← HM.out]; have h := HEF3.out; rw [show nv .i32 (e ++ sg f) = nv .i32 e ++ nv .i32 (sg f) by simp [nv]]; exact h
      · have h := HEL3.out; simp only [List.length_cons, ← HQ.out]; exact h
      · simp only [List.length_cons, ← HQ.out]; omega
      · show tot.length - (m + (sg f).length) < tot.length - m
        have := HB.out
        omega
    | group f k t =>
      have hdr := HJ.out.dr
      have hdr2 : l.drop i = f :: flS (k :: t :: S) T := by rw [hdr]; simp [flS, Fo.flat]
      obtain ⟨hlt, hfd, hdr3⟩ := dr_next hdr2
      rw [← HN.out] at hlt
      have hw := HJ.out.ws _ (List.mem_cons_self)
      obtain ⟨hk0, hfc, hwk, hwt⟩ := hw
      have dk : (f.k == 0) = true := by simpa using hk0
      have din : ((i : Int) == (n : Int)) = false := by simp; omega
      have hwi1 : IntKind.i64.wrap ((i : Int) + 1) = (i : Int) + 1 := IntWalk.i64_in _ (by omega)
      have HDR3 := Lib.hid hdr3; have HWT := Lib.hid hwt; have HWK := Lib.hid hwk; have HFC := Lib.hid hfc
      have HEM := Lib.hid (show (e ++ sg f) ++ sgS (k :: t :: S) T = tot by rw [← HJ.out.em]; simp [sgS, Fo.sg])
      have HWS := Lib.hid (show ∀ x ∈ (k :: t :: S), x.wf from fun x hx => by rcases List.mem_cons.1 hx with rfl | hx; exact HWK.out; rcases List.mem_cons.1 hx with rfl | hx; exact HWT.out; exact HJ.out.ws x (List.mem_cons_of_mem _ hx))
      have HWT1 := Lib.hid (show Fo.wf T from HJ.out.wt)
      obtain ⟨gs, os, rfl, hss⟩ := SeenF.get HS.out (by omega) HN.out.symm
      have HSS := Lib.hid (fun (wx : World) (hc : Chg [] w wx) => by have h := hss i hlt; rw [hfd] at h; exact (⟨hc.cell h.1 (by simp), hc.cell h.2.1 (by simp), hc.cell h.2.2.1 (by simp), hc.cell h.2.2.2 (by simp)⟩ : wx.cell? ⟨gs, os + i * 4, none⟩ = some (.string f.n) ∧ wx.cell? ⟨gs, os + i * 4 + 1, none⟩ = some (.int .i64 f.r) ∧ wx.cell? ⟨gs, os + i * 4 + 2, none⟩ = some (.int .i64 f.k) ∧ wx.cell? ⟨gs, os + i * 4 + 3, none⟩ = some (.int .i64 f.c)))
      clear hss hdr hdr2 hdr3 hfd hwt hwk hfc hk0
      rw [List.length_cons] at hsl
      obtain ⟨q, hq⟩ : ∃ q, q = S.length := ⟨_, rfl⟩
      have hnum : (Fo.group f k t).num = t.num + 1 := rfl
      have hnl : t.num < 100000 := by have h1 := Fo.num_le t; have h2 := congrArg List.length HJ.out.dr; rw [List.length_drop, ← HN.out] at h2; simp [flS, Fo.flat] at h2; omega
      have hel := HJ.out.el
      rw [List.length_cons, ← hq] at hel ⊢
      obtain ⟨gl, rfl, hgl1, hgl2, hglf, hglc⟩ := own_ptr hel (by omega)
      have hc0 := hglc q (.int .i64 ((Fo.group f k t).num : Nat)) (by rw [hq]; exact lkS_last _ _)
      have hf0 := hglf q
      rw [hnum] at hc0
      obtain ⟨nu, hnu⟩ : ∃ nu, nu = t.num := ⟨_, rfl⟩
      rw [← hnu] at hc0 hnl
      have dz : (((nu + 1 : Nat) : Int) == 0) = false := by simp; omega
      have dz2 : ((nu : Int) + 1 == 0) = false := by simp; omega
      have hwn : IntKind.i64.wrap (((nu + 1 : Nat) : Int) - 1) = (nu : Int) := by rw [show ((nu + 1 : Nat) : Int) - 1 = (nu : Int) by omega]; exact IntWalk.i64_in _ (by omega)
      have hwq2 : IntKind.i64.wrap (q : Int) = (q : Int) := IntWalk.i64_in _ (by omega)
      have hwn2 : IntKind.i64.wrap (nu : Int) = (nu : Int) := IntWalk.i64_in _ (by omega)
      have hwq : IntKind.i64.wrap (((q + 1 : Nat) : Int) - 1) = (q : Int) := by rw [show ((q + 1 : Nat) : Int) - 1 = (q : Int) by omega]; exact IntWalk.i64_in _ (by omega)
      have hset := own_set hel q (by omega) (.int .i64 (nu : Int))
      rw [hnu, hq, lkS_dec _ t S hnum, ← hq, ← hnu] at hset
      have HC1 := Lib.hid (show Chg [] w (wi.setCell ⟨gl, q, none⟩ (.int .i64 (nu : Int))) from HJ.out.cg.trans ((Chg.refl [gl] wi).setCell (by simp) _) (fun g hg => .inr (by simp at hg; rw [hg]; exact hgl1)))
      have HEF1 := Lib.hid (Go.ownsRow_setCell_other HJ.out.ef (a := ⟨gl, q, none⟩) (fun hx => HNE.out gl hx rfl) (.int .i64 (nu : Int)))
      rw [← HM.out] at HEF1
      have HEL1 := Lib.hid hset; have HQ := Lib.hid hq
      clear hel hset hq hnu hglc hglf
      go_upto_region 11 with fail
      generalize wi.setCell ⟨gl, q, none⟩ (.int .i64 (nu : Int)) = W1 at HC1 HEF1 HEL1 ⊢
      have hq1 : q + 1 ≤ i := by rw [HQ.out]; exact hsl
      clear hc0 hf0 hwn hwq hwq2 hwn2 dz dz2
      have HNE1 := Lib.hid (show ∀ g, (Value.slice fa m fc).ownBlock = some g → ((.slice (some ⟨gl, 0, none⟩) (q + 1) lc) : Value).ownBlock ≠ some g from HNE.out)
      obtain ⟨a1, a2, a3, a4⟩ := HSS.out W1 HC1.out
      have HB := Lib.hid (sg_len f)
      have htl := congrArg List.length HEM.out
      rw [List.length_append, List.length_append, ← HM.out] at htl
      have hwz := HC1.out.size
      have HK := Lib.hid (show f.c = (k.num : Nat) from HFC.out)
      have HNF := Lib.hid (fun (wx : World) (x y : Value) {n1 n2 : Nat} {l1 l2 : List Value} (h1 : wx.ownsRow w.heap.size 21 1 x n1 l1) (h2 : wx.ownsRow w.heap.size 3 1 y n2 l2) (g : Nat) (hg : x.ownBlock = some g) (hl : y.ownBlock = some g) => rows_apart h1 h2 g hg hl)
      go_wp2_with (first
        | (go_at_call 38; (with_reducible refine (signs_any f _).mono ?_); rintro e2 w2 ⟨x, rfl, hc2, hx2⟩; obtain ⟨xa, xc, rfl⟩ := own_shape hx2; have HC2 := Lib.hid (HC1.out.trans hc2 (by simp)); have HSX := Lib.hid (reads_of_own hx2).seen; have HEF2 := Lib.hid (own_chg HEF1.out hc2 (by simp)); have HEL2 := Lib.hid (own_chg HEL1.out hc2 (by simp)); have HW2 := Lib.hid HC2.out.size; clear hc2 hx2)
        | (at_builtin; refine wpList_append_reads _ rfl _ _ 51 50 rfl w.heap.size 21 21 ii (.int .i32 0) 4 Try.underlying51 Try.underlying50 hi hz0 hz1 hz2 rfl (.slice fa m fc) m (nv .i32 e) rfl HEF2.out _ (nv .i32 (sg f)) rfl HSX.out (nv_one _ _) (by rw [nv_length]; unfold maxLen; omega) (by rw [nv_length]; omega) HW2.out ?_; intro v3 w3 hown3 hgrow3; obtain ⟨fa3, fc3, rfl⟩ := own_shape hown3; rw [nv_length] at hown3 ⊢; have hC3 : Chg (Value.slice fa m fc).ownBlock.toList w2 w3 := (Chg.refl _ w2).grown hgrow3 (fun g hg => .inl (by simp [hg])); have hC4 : Chg [] w w3 := HC2.out.trans hC3 (fun g hg => .inr (by simp at hg; exact own_ge HEF2.out g hg)); obtain ⟨b1, b2, b3, b4⟩ := HSS.out w3 hC4; have HEF3 := Lib.hid hown3; have HEL3 := Lib.hid (own_chg HEL2.out hC3 (fun g hg hm => by simp at hm; exact HNE1.out g hm hg)); have HC3 := Lib.hid hC4; have HW3 := Lib.hid hC4.size; clear hown3 hgrow3 hC3 hC4; rw [HK.out] at b4)
        | (at_builtin; refine wpList_append_at _ rfl (.tmp 54) (.tmp 60) _ rfl w.heap.size 3 i1 (.int .i64 0) 1 8 Try.underlying22 ji jz0 jz1 jz2 rfl (by decide) (.slice (some ⟨gl, 0, none⟩) (q + 1) lc) (q + 1) (nv .i64 (lkS (t :: S))) rfl (HEL3.out.alloc _) ⟨w3.heap.size, 0, none⟩ 1 1 [.int .i64 (k.num : Nat)] rfl rfl new_cell (by simp [Value.oneCell']) (by unfold maxLen; omega) (by omega) (le_alloc HW3.out _) ?_; intro v5 w5 hown5 hg5 hat5; obtain ⟨la5, lc5, rfl⟩ := own_shape hown5; have hC5 : Chg ((.slice (some ⟨gl, 0, none⟩) (q + 1) lc) : Value).ownBlock.toList w3 w5 := ((Chg.refl _ w3).alloc _).grown hg5 (fun g hg => .inl (by simp [hg])); have HEF5 := Lib.hid (own_chg HEF3.out hC5 (fun g hg hm => HNF.out w3 _ _ HEF3.out HEL3.out g hg (by simpa using hm))); have HEL5 := Lib.hid hown5; have HC5 := Lib.hid (HC3.out.trans hC5 (fun g hg => .inr (own_ge HEL3.out g (by simpa using hg)))); clear hown5 hg5 hat5 hC5)
        | fail)
      go_step3
      refine ⟨rfl, ⟨i + 1, e ++ sg f, (k :: t :: S), T, _, _, FF_of rfl, ⟨?_, ?_, HC5.out, HDR3.out, HWS.out, HWT1.out, HEM.out, by rw [← HN.out]; omega, ?_⟩⟩, ?_⟩
      · rw [List.length_append, ← HM.out]; have h := HEF5.out; rw [show nv .i32 (e ++ sg f) = nv .i32 e ++ nv .i32 (sg f) by simp [nv]]; exact h
      · have h := HEL5.out; rw [show nv .i64 (lkS (k :: t :: S)) = nv .i64 (lkS (t :: S)) ++ [.int .i64 (k.num : Nat)] by rw [lkS_cons k]; simp [nv]]; simp only [List.length_cons, ← HQ.out]; exact h
      · simp only [List.length_cons, ← HQ.out]; omega
      · show tot.length - (m + (sg f).length) < tot.length - m
        have := HB.out
        omega

end Go.Proofs.Ytkbfbiklnjldgaa

namespace Go.Proofs.Ytkbfbiklnjldgaa
open Go.RowKit
set_option linter.unusedVariables false
set_option linter.unusedSimpArgs false

/-- What Parse tells. -/
def pEnd (q : List Tr × St) : List Tr × Nat :=
  if q.2.1 = [] then (if q.2.2 = 0 then (q.1, 0) else ([], q.2.2)) else ([], 9)
def pAll (fo : Fo) (b : List Nat) : List Tr × Nat := pEnd (pVals (pGrp (pF fo)) (pCount 200 4 (b, 0)).1 (pCount 200 4 (b, 0)).2)

def endE (q : List Tr × St) : Nat := if q.2.1 = [] then q.2.2 else 9
theorem pEnd_eq (q : List Tr × St) : pEnd q = if endE q = 0 then (q.1, 0) else ([], endE q) := by
  unfold pEnd endE
  split
  · rfl
  · rw [if_neg (by decide)]

theorem Fo.sg_le : ∀ k : Fo, k.sg.length ≤ 3 * k.flat.length
  | .nil => Nat.le_refl _
  | .leaf f t => by have := t.sg_le; have := (sg_len f).2; simp [Fo.sg, Fo.flat]; omega
  | .group f k t => by have := t.sg_le; have := k.sg_le; have := (sg_len f).2; simp [Fo.sg, Fo.flat]; omega

theorem fmS_eq {r0 : F} {fo : Fo} (h1 : r0.k = 0) (h2 : r0.r = 0) : (Fo.group r0 fo .nil).sg = fmS fo := by
  have e : sg r0 = [40] := by unfold sg; rw [h1, h2]; rfl
  simp [Fo.sg, fmS, e]

set_option maxRecDepth 100000 in
set_option maxHeartbeats 4000000 in
theorem parse_any9 (sv bv : Value) (l : List F) (r0 : F) (fo : Fo) (b : List Nat) (w : World) (hS : SeenF w sv l) (hl : l = r0 :: fo.flat) (hr1 : r0.k = 0) (hr2 : r0.r = 0) (hr3 : r0.c = fo.num) (hwf : fo.wf) (hchk : chk l = 0) (hn : l.length ≤ 1000) (hc : ∀ f ∈ l, f.c ≤ 9223372036854775807) (hnm : ∀ f ∈ l, f.n.size ≤ 1000000)
    (hB : Seen w bv (nv .u8 b)) (hb : ∀ x ∈ b, x < 256) (hbl : b.length ≤ 100000000) :
    Calls Try.prog 9 #[sv, bv] w fun e w' => ∃ lv, e = .returned (.tuple #[lv, .int .i64 ((pAll fo b).2 : Nat)]) ∧ ListIn (w.heap.size ≤ ·) w' (fo.hi + 1) (pAll fo b).1 lv ∧ Chg [] w w' := by
  obtain ⟨ao, cap, rfl, hc1, hc2⟩ := hS.shape
  obtain ⟨bo, bcap, rfl, hb1, hb2⟩ := hB.shape
  have HCK := Lib.hid (check_any _ l w hS hc hnm)
  have hfl : (fmS fo).length ≤ 100000 := by
    rw [← fmS_eq hr1 hr2]
    have h := (Fo.group r0 fo .nil).sg_le
    have h2 : (Fo.group r0 fo .nil).flat.length = l.length := by rw [hl]; simp [Fo.flat]
    omega
  have HFO := Lib.hid (show ∀ wx, Chg [] w wx → Calls Try.prog 18 #[.slice ao l.length cap] wx fun e w' => ∃ x, e = .returned x ∧ Made 21 .i32 (fmS fo) wx x w' from fun wx hk => by
    rw [← fmS_eq hr1 hr2]
    exact formOf_any _ l (.group r0 fo .nil) wx (hS.keep hk) (by rw [hl]; simp [Fo.flat]) ⟨hr1, hr3, hwf, trivial⟩ hn (by rw [fmS_eq hr1 hr2]; exact hfl))
  have HB := Lib.hid hB
  have HNW := Lib.hid (fun (wx : World) (hk : Chg [] w wx) => new_any (.slice bo (nv .u8 b).length bcap) (zi b) wx (by rw [zi_length]; omega) (by rw [bys_zi]; exact hB.keep hk))
  rw [hchk] at HCK
  rw [nv_length] at HB HNW ⊢
  have HW := Lib.hid hwf; have HFL := Lib.hid hfl; have HBB := Lib.hid hb
  obtain ⟨n, hnn⟩ : ∃ n, n = l.length := ⟨_, rfl⟩
  rw [← hnn] at HCK HFO ⊢
  obtain ⟨bn, hbn⟩ : ∃ n, n = b.length := ⟨_, rfl⟩
  rw [← hbn] at HB HNW ⊢
  have HBN := Lib.hid hbn
  clear hS hB hl hwf hchk hc hnm hfl hb hnn hbn hr1 hr2 hr3
  go_enter Try.func9, Try.ntmps9
  go_wp2_with fail
  (with_reducible refine HCK.out.mono ?_)
  rintro e w0 ⟨rfl, hk0⟩
  have HK0 := Lib.hid hk0
  clear hk0
  go_wp2_with (first
    | (go_at_call 18; (with_reducible refine (HFO.out _ HK0.out).mono ?_); rintro e w1 ⟨fv, rfl, hm1⟩; obtain ⟨fa, fc, rfl⟩ := own_shape hm1.2; have HM1 := Lib.hid hm1; have HK1 := Lib.hid (HK0.out.trans hm1.1 (by simp)); clear hm1)
    | (go_at_call 22; (with_reducible refine (HNW.out _ HK1.out).mono ?_); rintro e w2 ⟨gr, rfl, hk2, hgr, hr2⟩; have HK2 := Lib.hid hk2; have HGR := Lib.hid hgr; have HR2 := Lib.hid hr2; clear hk2 hgr hr2)
    | fail)
  have hps : WPS w1 (w2.alloc (.cells #[.slice fa (fmS fo).length fc, .slice bo bn bcap, .pointer (some ⟨gr, 0, none⟩)] 61)) w2.heap.size gr (w2.heap.size + 1) (.slice fa (fmS fo).length fc) (.slice bo bn bcap) (fmS fo) b (b, 0) := by
    have hgl := HR2.out.lt
    refine ⟨(reads_of_own HM1.out.2).seen, HB.out.keep HK1.out, HBB.out, hbl, HK2.out.alloc _, HGR.out, HK2.out.size, by omega, by omega, by omega, by simp, heap_alloc_new w2 _, ?_, by simp, ⟨0, Nat.zero_le _, rfl⟩⟩
    exact (HR2.out.keep0 ((Chg.refl [] w2).alloc _)).mono (by omega)
  have HP := Lib.hid hps
  have hgpr : gr < w2.heap.size := HR2.out.lt
  have HC := Lib.hid (count_any9 200 4 (by decide) (by decide) hps)
  rw [show ((200 : Nat) : Int) = 200 from rfl, show ((4 : Nat) : Int) = 4 from rfl] at HC
  have HLE := Lib.hid (pCount_le 200 4 (b, 0))
  obtain ⟨v, hv⟩ : ∃ v, v = (pCount 200 4 (b, 0)).1 := ⟨_, rfl⟩
  obtain ⟨s2, hs2⟩ : ∃ v, v = (pCount 200 4 (b, 0)).2 := ⟨_, rfl⟩
  have HE := Lib.hid (show pAll fo b = pEnd (pVals (pGrp (pF fo)) v s2) by unfold pAll; rw [hv, hs2])
  rw [← hv] at HC HLE
  rw [← hs2] at HC
  have HVV := Lib.hid (fun (wx : World) (hp : WPS w1 wx w2.heap.size gr (w2.heap.size + 1) (.slice fa (fmS fo).length fc) (.slice bo bn bcap) (fmS fo) b s2) => values_any9 (records9 HW.out HFL.out) wx s2 v (Nat.le_trans HLE.out (by decide)) hp)
  obtain ⟨gp, hgp⟩ : ∃ gp, gp = w2.heap.size := ⟨_, rfl⟩
  have HC12 := Lib.hid (HK1.out.trans HK2.out (by simp))
  have HZG := Lib.hid (show w.heap.size ≤ gr from Nat.le_trans HK1.out.size HGR.out)
  have HZ2 := Lib.hid HC12.out.size
  clear hps hv hs2
  rw [← hgp] at HC HVV HP ⊢
  have HGP := Lib.hid hgp
  clear hgp
  rw [show ((0 : Nat) : Int) = 0 from rfl] at HVV
  (with_reducible refine HC.out.mono ?_)
  rintro e w3 ⟨rfl, hp3, hk3⟩
  have HK3 := Lib.hid (((Chg.refl [gr] w2).alloc _).trans hk3 (by simp))
  have HVX := Lib.hid (HVV.out w3 hp3)
  clear hp3 hk3
  obtain ⟨q, hq⟩ : ∃ q, q = pVals (pGrp (pF fo)) v s2 := ⟨_, rfl⟩
  rw [← hq] at HE HVX
  clear hq HVV HC
  have hE := HE.out
  rw [pEnd_eq] at hE
  go_wp2_with fail
  (with_reducible refine HVX.out.mono ?_)
  rintro e w4 ⟨lv, rfl, hl4, hp4, hk4⟩
  obtain ⟨lo, lc, rfl, -, -⟩ := hl4.shape
  obtain ⟨-, -, c2⟩ := hp4.cells
  have hn4 := end_any gr (zi q.2.1) (q.2.2 : Nat) w4 (by rw [zi_length]; have := hp4.len; omega) hp4.rd
  rw [show (if zi q.2.1 = [] then ((q.2.2 : Nat) : Int) else 9) = ((endE q : Nat) : Int) by
    unfold endE
    by_cases h : q.2.1 = []
    · rw [if_pos h, h]; rfl
    · rw [if_neg h, if_neg (show ¬ zi q.2.1 = [] from fun e => h (List.map_eq_nil_iff.1 e))]; rfl] at hn4
  have HN4 := Lib.hid hn4
  have HL4 := Lib.hid hl4; have HK4 := Lib.hid (HK3.out.trans hk4 (by simp))
  clear hl4 hp4 hk4 hn4
  obtain ⟨ee, hee⟩ : ∃ x, x = endE q := ⟨_, rfl⟩
  rw [← hee] at HN4 hE
  clear hee HE
  have HFIN := Lib.hid (show Chg [] w w4 from HC12.out.trans HK4.out (fun t ht => .inr (by simp at ht; rw [ht]; exact HZG.out)))
  have HZ3 := Lib.hid (show w2.heap.size ≤ w3.heap.size from HK3.out.size)
  by_cases h0 : ee = 0
  · rw [if_pos h0] at hE
    have E := Lib.hid hE
    subst h0
    clear hE
    rw [show ((0 : Nat) : Int) = 0 from rfl] at HN4
    go_wp2_with (first
      | (go_at_call 25; (with_reducible refine HN4.out.mono ?_); rintro e w5 ⟨rfl, rfl⟩)
      | fail)
    go_ret2
    rw [E.out]
    exact ⟨_, rfl, HL4.out.mono (fun x hx => Nat.le_trans (Nat.le_trans HZ2.out HZ3.out) hx) (Nat.le_refl _), HFIN.out⟩
  · rw [if_neg h0] at hE
    have E := Lib.hid hE
    have hb1 : ¬ ((ee : Int) = 0) := by omega
    have hb : ((ee : Int) != 0) = true := by simpa using hb1
    clear hE h0
    go_wp2_with (first
      | (go_at_call 25; (with_reducible refine HN4.out.mono ?_); rintro e w5 ⟨rfl, rfl⟩)
      | fail)
    go_ret2
    rw [E.out]
    exact ⟨_, rfl, listIn_nil, HFIN.out⟩

end Go.Proofs.Ytkbfbiklnjldgaa
