/- level's decoder: how it stands; lack, take, repeat. -/
import Derived.Test.YtlhdicbhanncnaaKe
import Derived.Test.YtlhdicbhanncnaaA2
import Derived.Test.YtlhdicbhanncnaaA1
namespace Go.Proofs.Ytlhdicbhanncnaa
open Go.RowKit
set_option linter.unusedVariables false
set_option linter.unusedSimpArgs false

/-- How the decoder stands: what is left to be read, what has been read. -/
structure DS (w0 w : World) (d width n : Nat) (bv lv : Value) (b l : List Nat) : Prop where
  c0 : Chg [] w0 w
  ge : w0.heap.size ≤ d
  bp : w.heap[d]? = some (.cells #[bv, .int .i64 (width : Int), .int .i64 (n : Int), lv] 46 (0, 0))
  bs : Seen w0 bv (nv .u8 b)
  by' : ∀ x ∈ b, x < 2 ^ 8
  lo : w.ownsRow w0.heap.size 3 1 lv l.length (nv .i64 l)
  ll : l.length ≤ n
  nl : n ≤ 4000
  wl : width ≤ 16

theorem DS.keep {w0 w w' : World} {d width n : Nat} {bv lv : Value} {b l : List Nat} (h : DS w0 w d width n bv lv b l) (hc : Chg [] w w') : DS w0 w' d width n bv lv b l :=
  ⟨h.c0.trans hc (by simp), h.ge, hc.heap h.bp (by simp), h.bs, h.by', own_chg h.lo hc (by simp), h.ll, h.nl, h.wl⟩

theorem DS.cells {w0 w : World} {d width n : Nat} {bv lv : Value} {b l : List Nat} (h : DS w0 w d width n bv lv b l) :
    w.cell? ⟨d, 0, none⟩ = some bv ∧ w.cell? ⟨d, 1, none⟩ = some (.int .i64 (width : Int)) ∧ w.cell? ⟨d, 2, none⟩ = some (.int .i64 (n : Int)) ∧ w.cell? ⟨d, 3, none⟩ = some lv := cells4 h.bp

theorem DS.free {w0 w : World} {d width n : Nat} {bv lv : Value} {b l : List Nat} (h : DS w0 w d width n bv lv b l) (k : Nat) : w.frozen? ⟨d, k, none⟩ = false := by
  simp [World.frozen?, h.bp]

theorem DS.ne {w0 w : World} {d width n : Nat} {bv lv : Value} {b l : List Nat} (h : DS w0 w d width n bv lv b l) : lv.ownBlock ≠ some d := tagged_ne1 h.lo h.bp (by decide)

set_option maxHeartbeats 400000 in
theorem lack_any {w0 w : World} {d width n : Nat} {bv lv : Value} {b l : List Nat} (h : DS w0 w d width n bv lv b l) :
    Calls Try.prog 19 #[.pointer (some ⟨d, 0, none⟩)] w fun e w' => e = .returned (.int .i64 ((n - l.length : Nat) : Int)) ∧ ∃ q, w' = w.drewN q := by
  obtain ⟨c0, c1, c2, c3⟩ := h.cells
  obtain ⟨lo, lcap, rfl⟩ := own_shape h.lo
  have hl := h.ll
  have hn := h.nl
  have hw : wrap64 ((n : Int) - (l.length : Int)) = ((n - l.length : Nat) : Int) := by
    rw [show (n : Int) - (l.length : Int) = ((n - l.length : Nat) : Int) by omega]; exact IntWalk.wrap64_in _ (by omega)
  have hw2 : IntKind.i64.wrap ((n : Int) - (l.length : Int)) = ((n - l.length : Nat) : Int) := by
    rw [show (n : Int) - (l.length : Int) = ((n - l.length : Nat) : Int) by omega]; exact IntWalk.i64_in _ (by omega)
  clear h
  go_enter Try.func19, Try.ntmps19
  go_wp2_with fail
  go_quiet (fail)
  go_wp2
  go_ret
  exact ⟨ret_int (by first | rfl | omega), _, rfl⟩

/-- A field of the decoder was written. -/
theorem DS.chgd (w : World) (d k : Nat) (v : Value) : Chg [d] w (w.setCell ⟨d, k, none⟩ v) := (Chg.refl [d] w).setCell (by simp) v

theorem DS.setB {w0 w : World} {d width n : Nat} {bv lv bv' : Value} {b l b' : List Nat} (h : DS w0 w d width n bv lv b l) (hs : Seen w0 bv' (nv .u8 b')) (hb : ∀ x ∈ b', x < 2 ^ 8) : DS w0 (w.setCell ⟨d, 0, none⟩ bv') d width n bv' lv b' l :=
  ⟨h.c0.setCell (.inr h.ge) _, h.ge, heap_setCell_same w d 0 _ _ _ h.bp, hs, hb, own_chg h.lo (DS.chgd w d 0 bv') (fun g hg hm => h.ne (by simp at hm; rw [hm] at hg; exact hg)), h.ll, h.nl, h.wl⟩

theorem DS.setL {w0 w w1 : World} {d width n : Nat} {bv lv lv' : Value} {b l l' : List Nat} (h : DS w0 w d width n bv lv b l) (hg : w.grownBy w1 lv.ownBlock) (ho : w1.ownsRow w0.heap.size 3 1 lv' l'.length (nv .i64 l')) (hl : l'.length ≤ n) : DS w0 (w1.setCell ⟨d, 3, none⟩ lv') d width n bv lv' b l' := by
  have hb1 : w1.heap[d]? = some (.cells #[bv, .int .i64 (width : Int), .int .i64 (n : Int), lv] 46 (0, 0)) := (hg.block d (Go.lt_of_block h.bp) (fun e => h.ne e.symm)).trans h.bp
  have hne : lv'.ownBlock ≠ some d := tagged_ne1 ho hb1 (by decide)
  exact ⟨(h.c0.grown hg (fun k hk => .inr (own_ge h.lo k hk))).setCell (.inr h.ge) _, h.ge, heap_setCell_same w1 d 3 _ _ _ hb1, h.bs, h.by', own_chg ho (DS.chgd w1 d 3 lv') (fun g hg2 hm => hne (by simp at hm; rw [hm] at hg2; exact hg2)), hl, h.nl, h.wl⟩

/-- What take gives: a front, and what is left behind it. -/
def TakeOut (w0 w : World) (d width n : Nat) (lv : Value) (b l : List Nat) (m : Nat) (e : Ending) (w' : World) : Prop :=
  ∃ fo fc q bv', q = (b.take m).length ∧ e = .returned (.slice fo q fc) ∧ Seen w0 (.slice fo q fc) (nv .u8 (b.take m)) ∧ DS w0 w' d width n bv' lv (b.drop m) l ∧ Chg [d] w w'

set_option maxHeartbeats 1000000 in
theorem take10_any {w0 w : World} {d width n : Nat} {bv lv : Value} {b l : List Nat} (m : Nat) (hm : m ≤ 1000000) (h : DS w0 w d width n bv lv b l) :
    Calls Try.prog 35 #[.pointer (some ⟨d, 0, none⟩), .int .i64 (m : Int)] w (TakeOut w0 w d width n lv b l m) := by
  obtain ⟨c0, c1, c2, c3⟩ := h.cells
  have f0 := h.free 0
  obtain ⟨ao, cap, rfl, hc1, hc2⟩ := h.bs.shape
  have HB := Lib.hid h
  have hbs := h.bs
  rw [nv_length] at hc1 hbs c0
  obtain ⟨q, hq⟩ : ∃ q, q = (b.take m).length := ⟨_, rfl⟩
  have hq2 : q ≤ b.length := by rw [hq]; simp; omega
  have hqm : min (m : Int) (b.length : Int) = (q : Int) := by
    rw [hq, List.length_take]; omega
  obtain ⟨fo, fc, hfs, hfr⟩ := run_front hbs hc1 q hq2
  obtain ⟨ko, kc, hks, hkr⟩ := run_back hbs rfl hc1 q hq2
  have et : b.take q = b.take m := by rw [hq, List.length_take]; rcases Nat.le_total m b.length with h1 | h1 <;> simp [Nat.min_eq_left, Nat.min_eq_right, h1, List.take_of_length_le]
  have ed : b.drop q = b.drop m := by
    rw [hq, List.length_take]
    rcases Nat.le_total m b.length with h1 | h1
    · rw [Nat.min_eq_left h1]
    · rw [Nat.min_eq_right h1, List.drop_length, List.drop_eq_nil_of_le h1]
  rw [et] at hfs
  rw [ed] at hks
  have HQ := Lib.hid hq; have HFS := Lib.hid hfs; have HKS := Lib.hid hks
  obtain ⟨p, hp⟩ : ∃ p, p = b.length := ⟨_, rfl⟩
  rw [← hp] at hqm hfr hkr c0 hc1 hq2 hks
  have HP := Lib.hid hp
  clear hq et ed hfs hks hp h hbs
  go_enter Try.func35, Try.ntmps35
  go_wp2_with fail
  go_quiet (fail)
  clear hqm hfr
  go_wp2
  go_ret
  have h := HB.out
  refine ⟨fo, fc, q, _, HQ.out, rfl, HFS.out, DS.setB (h.keep ((Chg.refl [] w).drewN nq)) (by rw [HP.out]; exact HKS.out) (fun x hx => h.by' x (List.mem_of_mem_drop hx)), ?_⟩
  exact ((Chg.refl [d] w).drewN nq).setCell (by simp) _

set_option maxRecDepth 100000 in
set_option maxHeartbeats 1000000 in
theorem repeat_any {w0 w : World} {d width n : Nat} {bv lv : Value} {b l : List Nat} (m v : Nat) (hv : v ≤ 65536) (hm : l.length + m ≤ n) (h : DS w0 w d width n bv lv b l) :
    Calls Try.prog 18 #[.pointer (some ⟨d, 0, none⟩), .int .i64 (m : Int), .int .i64 (v : Int)] w fun e w' => e = .returned (.tuple #[]) ∧ Chg [] w0 w' ∧ ∃ lv', DS w0 w' d width n bv lv' b (l ++ List.replicate m v) := by
  obtain ⟨i0, hi, hz0, hz1, hz2⟩ := info_int
  have H := Lib.hid h
  have hn4 := h.nl
  obtain ⟨L, hL⟩ : ∃ L, L = l.length := ⟨_, rfl⟩
  have HL := Lib.hid hL
  rw [← hL] at hm
  clear h hL
  go_enter Try.func18, Try.ntmps18
  go_wp2_with fail
  go_loopw [7] (fun i w' => ∃ (j : Nat) (lv' : Value), j ≤ m ∧ i = .int .i64 (j : Int) ∧ DS w0 w' d width n bv lv' b (l ++ List.replicate j v)) (fun i _ => m - (intOf i).toNat)
  case atStart => exact ⟨0, lv, Nat.zero_le _, rfl, by simpa using H.out⟩
  case round =>
    obtain ⟨j, lv', hj, rfl, hD⟩ := hrel
    have HD := Lib.hid hD
    have hlen : (l ++ List.replicate j v).length = L + j := by simp; exact HL.out.symm
    have hlo := hD.lo
    rw [hlen] at hlo
    obtain ⟨vo, vc, rfl⟩ := own_shape hlo
    obtain ⟨-, -, -, c3⟩ := hD.cells
    have f3 := hD.free 3
    have hB : w0.heap.size ≤ wr.heap.size := hD.c0.size
    have HO := Lib.hid hlo
    have HLE := Lib.hid hlen
    clear hD hlo hlen
    by_cases hjm : j < m
    · have hlt : decide ((j : Int) < (m : Int)) = true := by simp; omega
      have E := Lib.hid (show nv .i64 (l ++ List.replicate j v) ++ [.int .i64 (v : Int)] = nv .i64 (l ++ List.replicate (j + 1) v) by rw [List.replicate_succ']; simp [nv])
      have c3' : ∀ o, (wr.alloc o).cell? ⟨d, 3, none⟩ = some (.slice vo (L + j) vc) := fun o => ((Chg.refl [] wr).alloc o).cell c3 (by simp)
      go_wp2_with (at_builtin; refine wpList_append_own _ rfl _ _ 22 rfl w0.heap.size 3 i0 (.int .i64 0) 1 8 Try.underlying22 hi hz0 hz1 hz2 rfl (by decide) _ _ _ rfl (HO.out.alloc _) ⟨wr.heap.size, 0, none⟩ 1 1 [.int .i64 (v : Int)] rfl rfl ?c1 ?c2 ?c3 ?c4 ?c5 ?_)
      case c1 => exact (cell_one_new _ _ _)
      case c2 => simp [Value.oneCell']
      case c3 => unfold maxLen; omega
      case c4 => omega
      case c5 => simp; omega
      intro v' w1 hown' hgrow _
      rw [E.out] at hown'
      have hD2 := HD.out.keep ((Chg.refl [] wr).alloc (.cells #[.int .i64 (v : Int)] 3))
      have HDN := Lib.hid (DS.setL (l' := l ++ List.replicate (j + 1) v) hD2 hgrow (by have e : (l ++ List.replicate (j + 1) v).length = L + j + 1 := by (simp; have := HL.out; omega)
                                                                                       rw [e]; exact hown') (by simp; have := HL.out; omega))
      have f3' : w1.frozen? ⟨d, 3, none⟩ = false := by
        have hb := (hgrow.block d (Go.lt_of_block hD2.bp) (fun e => hD2.ne e.symm)).trans hD2.bp
        simp [World.frozen?, hb]
      have hcc : ∃ u, w1.cell? ⟨d, 3, none⟩ = some u := by
        have hb := (hgrow.block d (Go.lt_of_block hD2.bp) (fun e => hD2.ne e.symm)).trans hD2.bp
        exact ⟨_, (cells4 hb).2.2.2⟩
      obtain ⟨u, hu⟩ := hcc
      obtain ⟨xo, xc, rfl⟩ := own_shape hown'
      clear hD2 hgrow hown' c3 c3' f3
      go_wp2
      go_roundw
      case rel => exact ⟨j + 1, _, hjm, by go_num, HDN.out⟩
      case measure => simp [intOf]; omega
    · have hlt : decide ((j : Int) < (m : Int)) = false := by simp; omega
      have hjm : j = m := by omega
      subst hjm
      go_wp2
      go_end0
      exact ⟨rfl, HD.out.c0, _, HD.out⟩

end Go.Proofs.Ytlhdicbhanncnaa
