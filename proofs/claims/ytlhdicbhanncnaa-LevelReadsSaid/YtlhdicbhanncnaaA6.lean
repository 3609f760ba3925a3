/- Ref, Refg, Rx, Xs, Xe, Xv: texts of one group, one behind the other. -/
import Derived.Test.YtlhdicbhanncnaaA2
import Derived.Deep.QuietTactic
import Derived.BigQuiet
import Derived.BigRegion
import Derived.Deep.RegionLaw
import Derived.Deep.RegionHeld3
import Derived.Deep.AppendLies
import Derived.Test.YtlhdicbhanncnaaLo
import Derived.Test.YtlhdicbhanncnaaA4
import Derived.Deep.DeepCutAuto
namespace Go.Proofs.Ytlhdicbhanncnaa
open Go.RowKit
set_option linter.unusedVariables false

/-- The reference's Reader at block x has bs, is at a, its error is e. -/
def XR (w : World) (x : Nat) (bs : List Int) (a : Nat) (e : Int) (M : Nat) : Prop :=
  ∃ v, w.heap[x]? = some (.cells #[v, .int .i64 a, .int .i64 e] 53 (0, 0)) ∧ Reads w v (bys bs) ∧ Tagged w 5 v ∧ (∀ g, v.ownBlock = some g → g < M) ∧ a ≤ bs.length

theorem cells3 {w : World} {d : Nat} {u v y : Value} {t : TypeId} (h : w.heap[d]? = some (.cells #[u, v, y] t (0, 0))) :
    w.cell? ⟨d, 0, none⟩ = some u ∧ w.cell? ⟨d, 1, none⟩ = some v ∧ w.cell? ⟨d, 2, none⟩ = some y ∧ w.frozen? ⟨d, 0, none⟩ = false ∧ w.frozen? ⟨d, 1, none⟩ = false ∧ w.frozen? ⟨d, 2, none⟩ = false := by
  simp [World.cell?, World.frozen?, h]
theorem set31 {w : World} {d : Nat} {u v y : Value} {t : TypeId} (h : w.heap[d]? = some (.cells #[u, v, y] t (0, 0))) (x : Value) :
    (w.setCell ⟨d, 1, none⟩ x).heap[d]? = some (.cells #[u, x, y] t (0, 0)) := heap_setCell_same w d 1 _ t x h
theorem set32 {w : World} {d : Nat} {u v y : Value} {t : TypeId} (h : w.heap[d]? = some (.cells #[u, v, y] t (0, 0))) (x : Value) :
    (w.setCell ⟨d, 2, none⟩ x).heap[d]? = some (.cells #[u, v, x] t (0, 0)) := heap_setCell_same w d 2 _ t x h

section
variable {M : Nat}

theorem XR.lt {w : World} {x : Nat} {bs : List Int} {a : Nat} {e : Int} (h : XR w x bs a e M) : x < w.heap.size := by
  obtain ⟨v, h1, _⟩ := h
  exact Go.lt_of_block h1

theorem XR.keep0 {w w' : World} {x : Nat} {bs : List Int} {a : Nat} {e : Int} (h : XR w x bs a e M) (hc : Chg [] w w') : XR w' x bs a e M := by
  obtain ⟨v, h1, h2, h3, h4, h5⟩ := h
  exact ⟨v, hc.heap h1 (by simp), h2.keep hc (by simp), h3.keep hc (by simp), h4, h5⟩

theorem XR.keepRd {w w' : World} {x r : Nat} {bs zs : List Int} {a : Nat} {e e' : Int} {M' : Nat} (h : XR w x bs a e M) (hs : Rd w r zs e' M') (hc : Chg [r] w w') : XR w' x bs a e M := by
  obtain ⟨v, h1, h2, h3, h4, h5⟩ := h
  obtain ⟨v', h1', _⟩ := hs
  have hn := h3.ne h1' (by decide)
  have hne : x ≠ r := by
    intro e
    subst e
    rw [h1] at h1'
    simp at h1'
  exact ⟨v, hc.heap h1 (by simpa using hne), h2.keep hc (fun g hg => by simpa using hn g hg), h3.keep hc (fun g hg => by simpa using hn g hg), h4, h5⟩

theorem Rd.keepXR {w w' : World} {x r : Nat} {bs zs : List Int} {a : Nat} {e e' : Int} {M' : Nat} (h : Rd w r zs e M) (hs : XR w x bs a e' M') (hc : Chg [x] w w') : Rd w' r zs e M := by
  obtain ⟨v, h1, h2, h3, h4⟩ := h
  obtain ⟨v', h1', _⟩ := hs
  have hn := h3.ne h1' (by decide)
  have hne : r ≠ x := by
    intro e
    subst e
    rw [h1] at h1'
    simp at h1'
  exact ⟨v, hc.heap h1 (by simpa using hne), h2.keep hc (fun g hg => by simpa using hn g hg), h3.keep hc (fun g hg => by simpa using hn g hg), h4⟩

/-- A store into the second or third cell. -/
theorem XR.set1 {w : World} {x : Nat} {bs : List Int} {a a' : Nat} {e : Int} (h : XR w x bs a e M) (ha : a' ≤ bs.length) : XR (w.setCell ⟨x, 1, none⟩ (.int .i64 (a' : Int))) x bs a' e M := by
  obtain ⟨v, h1, h2, h3, h4, h5⟩ := h
  have hn := h3.ne h1 (by decide)
  have hc : Chg [x] w (w.setCell ⟨x, 1, none⟩ (.int .i64 (a' : Int))) := (Chg.refl _ _).setCell (by simp) _
  exact ⟨v, set31 h1 _, h2.keep hc (fun g hg => by simpa using hn g hg), h3.keep hc (fun g hg => by simpa using hn g hg), h4, ha⟩
theorem XR.set2 {w : World} {x : Nat} {bs : List Int} {a : Nat} {e e' : Int} (h : XR w x bs a e M) : XR (w.setCell ⟨x, 2, none⟩ (.int .i64 e')) x bs a e' M := by
  obtain ⟨v, h1, h2, h3, h4, h5⟩ := h
  have hn := h3.ne h1 (by decide)
  have hc : Chg [x] w (w.setCell ⟨x, 2, none⟩ (.int .i64 e')) := (Chg.refl _ _).setCell (by simp) _
  exact ⟨v, set32 h1 _, h2.keep hc (fun g hg => by simpa using hn g hg), h3.keep hc (fun g hg => by simpa using hn g hg), h4, h5⟩

set_option maxRecDepth 100000 in
set_option maxHeartbeats 1000000 in
theorem xfail_kept (x : Nat) (e0 e : Int) (w : World) (bs : List Int) (a : Nat) (h : XR w x bs a e0 M) (he : e0 ≠ 0) :
    Calls Try.prog 23 #[.pointer (some ⟨x, 0, none⟩), .int .i64 e] w fun y w' => y = .returned (.tuple #[]) ∧ w = w' := by
  obtain ⟨v, h1, h2, h3, h4, h5⟩ := h
  obtain ⟨c0, c1, c2, f0, f1, f2⟩ := cells3 h1
  have hb : (e0 == 0) = false := by simpa using he
  clear h1 h2 h3 h4 h5 he
  go_enter Try.func23, Try.ntmps23
  go_wp2
  go_end0
  exact ⟨rfl, rfl⟩

set_option maxRecDepth 100000 in
set_option maxHeartbeats 1000000 in
theorem xfail_set (x : Nat) (e : Int) (w : World) (bs : List Int) (a : Nat) (h : XR w x bs a 0 M) :
    Calls Try.prog 23 #[.pointer (some ⟨x, 0, none⟩), .int .i64 e] w fun y w' => y = .returned (.tuple #[]) ∧ Chg [x] w w' ∧ XR w' x bs a e M := by
  have H := Lib.hid h
  obtain ⟨v, h1, h2, h3, h4, h5⟩ := h
  obtain ⟨c0, c1, c2, f0, f1, f2⟩ := cells3 h1
  clear h1 h2 h3 h4 h5
  go_enter Try.func23, Try.ntmps23
  go_wp2
  go_end0
  exact ⟨rfl, (Chg.refl _ _).setCell (by simp) _, H.out.set2⟩

/-- A new reference Reader of bs. -/
def XNewed (bs : List Int) (w : World) (x : Ending) (w' : World) : Prop :=
  ∃ r, x = .returned (.pointer (some ⟨r, 0, none⟩)) ∧ Chg [] w w' ∧ w.heap.size ≤ r ∧ XR w' r bs 0 0 w'.heap.size

set_option maxRecDepth 100000 in
set_option maxHeartbeats 1000000 in
theorem xnew_any (bv : Value) (bs : List Int) (w : World) (hz : bs.length ≤ 140737488355328) (h : Seen w bv (bys bs)) :
    Calls Try.prog 21 #[bv] w fun x w' => XNewed bs w x w' := by
  obtain ⟨i0, hi, hz0, hz1, hz2⟩ := info_u8
  have hone := Lib.hid (bys_one bs)
  have hm : bs.length ≤ maxLen := by unfold maxLen; omega
  have HR := Lib.hid (h.keep ((Chg.refl [] w).alloc (.cells #[] 5)))
  obtain ⟨ao, cap, rfl, hc1, hc2⟩ := h.shape
  clear h
  have ho := Lib.hid (World.ownsRow_made (base := w.heap.size) (e := 5) (size := 1) w #[] 0 (Nat.le_refl _) (by simp) rfl)
  go_enter Try.func21, Try.ntmps21
  go_wp2_with (at_builtin; refine wpList_append_reads _ rfl _ _ 23 23 rfl w.heap.size 5 5 i0 (.int .u8 0) 1 Try.underlying23 Try.underlying23 hi hz0 hz1 hz2 rfl _ _ _ rfl ho.out _ (bys bs) rfl HR.out hone.out ?c1 ?c2 ?c3 ?_)
  case c1 => simpa using hm
  case c2 => simp; omega
  case c3 => simp
  intro v' w1 hown hgrow
  have hc := Lib.hid (((Chg.refl [] w).alloc (.cells #[] 5)).grown hgrow (by simp [Value.ownBlock]))
  obtain ⟨ao', cap', hv⟩ := own_shape hown
  rw [hv]
  have HO1 := Lib.hid hown; clear hown
  have HV := Lib.hid hv; clear hv hgrow hz1 hz2 hz0 hi
  go_wp2
  go_ret
  have hb := heap_alloc_new w1 (.cells #[v', .int .i64 0, .int .i64 0] 53)
  have hk : Chg [] w1 (w1.alloc (.cells #[v', .int .i64 0, .int .i64 0] 53)) := (Chg.refl _ _).alloc _
  rw [← HV.out]
  exact ⟨_, rfl, hc.out.alloc _, hc.out.size, v', hb, (reads_of_own HO1.out).keep hk (by simp), (tagged_of_own HO1.out).keep hk (by simp), fun g hg => Nat.lt_of_lt_of_le ((tagged_of_own HO1.out).lt g hg) hk.size, Nat.zero_le _⟩

theorem xtake_none (x : Nat) (n e : Int) (w : World) (bs : List Int) (a : Nat) (h : XR w x bs a e M) (hn : e ≠ 0 ∨ n ≤ 0) :
    Calls Try.prog 25 #[.pointer (some ⟨x, 0, none⟩), .int .i64 n] w fun y w' => y = .returned (.slice none 0 0) ∧ w = w' := by
  obtain ⟨v, h1, h2, h3, h4, h5⟩ := h
  obtain ⟨c0, c1, c2, f0, f1, f2⟩ := cells3 h1
  clear h1 h2 h3 h4
  by_cases he : e = 0
  · subst he
    have hn2 : n ≤ 0 := by omega
    clear hn
    go_enter Try.func25, Try.ntmps25
    go_wp2
    go_ret
    exact ⟨rfl, rfl⟩
  · have hb : (e == 0) = false := by simpa using he
    have hb2 : (e != 0) = true := by simpa using he
    clear he hn
    go_enter Try.func25, Try.ntmps25
    go_wp2
    go_ret
    exact ⟨rfl, rfl⟩

set_option maxRecDepth 100000 in
set_option maxHeartbeats 1000000 in
theorem xtake_cut (x : Nat) (n : Int) (w : World) (bs : List Int) (a : Nat) (hz : bs.length ≤ 140737488355328) (h : XR w x bs a 0 M) (hn : 0 < n) (hc : (bs.length : Int) - a < n) :
    Calls Try.prog 25 #[.pointer (some ⟨x, 0, none⟩), .int .i64 n] w fun y w' => y = .returned (.slice none 0 0) ∧ Chg [x] w w' ∧ XR w' x bs a 8 M := by
  have H := Lib.hid h
  obtain ⟨v, h1, h2, h3, h4, h5⟩ := h
  obtain ⟨ao, cap, rfl, hc1, hc2⟩ := h2.shape
  obtain ⟨c0, c1, c2, f0, f1, f2⟩ := cells3 h1
  simp only [bys_length] at c0 hc1
  clear h1 h2 h3 h4
  have hw : IntKind.i64.wrap ((bs.length : Int) - a) = (bs.length : Int) - a := IntWalk.i64_in _ (by omega)
  go_enter Try.func25, Try.ntmps25
  go_wp2
  go_quiet (fail)
  clear hw
  go_wp2_with fail
  refine (xfail_set x 8 _ bs a (H.out.keep0 ((Chg.refl _ _).drewN _))).mono ?_
  rintro y w1 ⟨rfl, g1, g2⟩
  go_wp2
  go_ret
  exact ⟨rfl, ((Chg.refl [x] w).drewN nq).trans g1 (by simp), g2⟩

theorem keepXcells {w w3 : World} {x h : Nat} {u y : Value} {o : Obj} (hg : (w.alloc o).drew.grownBy w3 (some w.heap.size)) (hx : x < w.heap.size) (d0 : w.cell? ⟨x, 0, none⟩ = some u) (d1 : w.cell? ⟨x, 1, none⟩ = some y) :
    w3.cell? ⟨x, 0, none⟩ = some u ∧ w3.cell? ⟨x, 1, none⟩ = some y := by
  have hb : w3.heap[x]? = w.heap[x]? := (hg.block x (by simp; omega) (by simp; omega)).trans (Go.heap_alloc_old w o hx)
  exact ⟨(World.cell?_of_block (w := w) hb).trans d0, (World.cell?_of_block (w := w) hb).trans d1⟩

set_option maxRecDepth 100000 in
set_option maxHeartbeats 1000000 in
theorem xtake_yes (x n : Nat) (w : World) (bs : List Int) (a : Nat) (hz : bs.length ≤ 140737488355328) (h : XR w x bs a 0 M) (hn : 0 < n) (hc : a + n ≤ bs.length) :
    Calls Try.prog 25 #[.pointer (some ⟨x, 0, none⟩), .int .i64 n] w fun y w' => ∃ v, y = .returned v ∧ Chg [x] w w' ∧ XR w' x bs (a + n) 0 M ∧ w'.ownsRow w.heap.size 5 1 v n (bys ((bs.drop a).take n)) := by
  obtain ⟨i0, hi, hz0, hz1, hz2⟩ := info_u8
  have H := Lib.hid h
  obtain ⟨v, h1, h2, h3, h4, h5⟩ := h
  obtain ⟨ao, cap, rfl, hc1, hc2⟩ := h2.shape
  rw [bys_length] at h2 hc1 h1
  obtain ⟨c0, c1, c2, f0, f1, f2⟩ := cells3 h1
  have hxlt := Go.lt_of_block h1
  clear h1 h3 h4
  have hw : IntKind.i64.wrap ((bs.length : Int) - a) = (bs.length : Int) - a := IntWalk.i64_in _ (by omega)
  have hcn : ¬ ((bs.length : Int) - a < n) := by omega
  go_enter Try.func25, Try.ntmps25
  go_wp2
  go_quiet (fail)
  clear hw
  go_wp2
  have HR := Lib.hid h2
  clear h2
  have hX2 : ∃ W2, W2 = (w.drewN nq).setCell ⟨x, 1, none⟩ (.int .i64 ((a : Int) + n)) ∧ Chg [x] w W2 ∧ XR W2 x bs (a + n) 0 M ∧ W2.cell? ⟨x, 0, none⟩ = some (.slice ao bs.length cap) ∧ W2.cell? ⟨x, 1, none⟩ = some (.int .i64 ((a : Int) + n)) ∧ Reads W2 (.slice ao bs.length cap) (bys bs) := by
    refine ⟨_, rfl, ((Chg.refl [x] w).drewN nq).setCell (by simp) _, ?_, ?_, ?_, ?_⟩
    · have := (H.out.keep0 ((Chg.refl [] w).drewN nq)).set1 (a' := a + n) hc
      rw [show ((a + n : Nat) : Int) = (a : Int) + n from by omega] at this
      exact this
    · rw [World.cell?_setCell_other _ _ _ _ (by simp)]; exact c0
    · exact World.cell?_setCell_same _ _ _ (u := .int .i64 a) c1
    · have hX := H.out
      obtain ⟨v', q1, q2, q3, q4, q5⟩ := hX
      have hn := q3.ne q1 (by decide)
      have e0 : v' = .slice ao bs.length cap := by
        have := (cells3 q1).1
        rw [c0] at this
        injection this with this
        exact this.symm
      rw [e0] at hn
      exact HR.out.keep (((Chg.refl [x] w).drewN nq).setCell (by simp) _) (fun g hg => by simpa using hn g hg)
  obtain ⟨W2, hW2, C2, X2, d0, d1, R2⟩ := hX2
  rw [← hW2]
  have HC2 := Lib.hid C2; have HX2 := Lib.hid X2
  clear hW2 C2 X2 c0 c1 c2 f0 f1 f2 hxlt
  have hx2 := HX2.out.lt
  have hone := Lib.hid (bys_one ((bs.drop a).take n))
  have hln0 : (bys ((bs.drop a).take n)).length = n := by simp; omega
  have hln := Lib.hid hln0; clear hln0
  have hmx : n ≤ maxLen := by unfold maxLen; omega
  obtain ⟨sv, s1, s2⟩ := run_slice_seen R2.seen hc1 a (a + n) (by omega) hc
  have e3 : ((bys bs).take (a + n)).drop a = bys ((bs.drop a).take n) := by simp only [bys, List.map_take, List.map_drop, List.drop_take, Nat.add_sub_cancel_left]
  rw [e3] at s1
  rw [show ((a + n : Nat) : Int) = (a : Int) + (n : Int) from by omega] at s2
  clear e3 R2
  have hw1 : IntKind.i64.wrap ((a : Int) + n - n) = (a : Int) := by rw [Int.add_sub_cancel]; exact IntWalk.i64_in _ (by omega)
  have hw2 : IntKind.i64.wrap (a : Int) = (a : Int) := IntWalk.i64_in _ (by omega)
  have HS1 := Lib.hid (s1.keep (((Chg.refl [] W2).alloc (.cells #[] 5)).drew))
  clear s1
  have ho0 : (W2.alloc (.cells #[] 5)).drew.ownsRow W2.heap.size 5 1 (.slice (some ⟨W2.heap.size, 0, none⟩) 0 0) 0 [] := World.ownsRow_made (base := W2.heap.size) (e := 5) (size := 1) W2.drew #[] 0 (Nat.le_refl _) (by simp) rfl
  have ho := Lib.hid ho0; clear ho0
  have hb1 : 0 + (bys ((bs.drop a).take n)).length ≤ maxLen := by rw [hln.out]; omega
  have hb2 : (0 + (bys ((bs.drop a).take n)).length) * 1 ≤ 140737488355328 := by rw [hln.out]; omega
  have hb3 : W2.heap.size ≤ (W2.alloc (.cells #[] 5)).drew.heap.size := by simp
  have HB1 := Lib.hid hb1; have HB2 := Lib.hid hb2; have HB3 := Lib.hid hb3
  clear hb1 hb2 hb3
  go_region_held3 (fun w' => w'.cell? ⟨x, 0, none⟩ = some (.slice ao bs.length cap) ∧ w'.cell? ⟨x, 1, none⟩ = some (.int .i64 ((a : Int) + n)))
    (first | go_keep | (go_split_ands; refine ⟨?_, ?_⟩ <;> (rw [hgrow.cell_far _ (by simp; omega) (by simp [Value.ownBlock]; omega)]; assumption)))
    ((refine step_append_reads (by rfl) (.tmp 37) (.tmp 52) 23 23 (by rfl) W2.heap.size 5 5 i0 (.int .u8 0) 1 Try.underlying23 Try.underlying23 hi hz0 hz1 hz2 (by rfl) (.slice (some ⟨W2.heap.size, 0, none⟩) 0 0) 0 [] (by rfl) ho.out sv (bys ((bs.drop a).take n)) (by rfl) HS1.out hone.out HB1.out HB2.out HB3.out ?_; intro v' w3 hown hgrow; rw [hln.out, Nat.zero_add, List.nil_append] at hown; obtain ⟨ao', cap', rfl⟩ := own_shape hown))
  have hc3 : Chg [] W2 w3 := (((Chg.refl [] W2).alloc (.cells #[] 5)).drew).grown hgrow (fun k hk => .inr (by simp [Value.ownBlock] at hk; omega))
  have HC3 := Lib.hid hc3; have HO3 := Lib.hid hown
  clear hgrow hown hc3
  go_wp2
  go_ret
  exact ⟨_, rfl, HC2.out.trans HC3.out (by simp), HX2.out.keep0 HC3.out, own_mono HO3.out HC2.out.size⟩

end
end Go.Proofs.Ytlhdicbhanncnaa

namespace Go.Proofs.Ytlhdicbhanncnaa
open Go.RowKit
set_option linter.unusedVariables false

section
variable {M : Nat}

set_option maxRecDepth 100000 in
set_option maxHeartbeats 1000000 in
theorem xget_none (x : Nat) (n e : Int) (w : World) (bs : List Int) (a : Nat) (h : XR w x bs a e M) (hn : e ≠ 0 ∨ widthOf n = 0) :
    Calls Try.prog 24 #[.pointer (some ⟨x, 0, none⟩), .int .i64 n] w fun y w' => y = .returned (.int .u64 0) ∧ w = w' := by
  have H := Lib.hid h; clear h
  have hn0 : n < 0 ∨ 8 < n ∨ (e ≠ 0 ∨ n ≤ 0) := by
    unfold widthOf at hn
    split at hn <;> omega
  clear hn
  rcases hn0 with h1 | h1 | h1
  · go_enter Try.func24, Try.ntmps24
    go_wp2_with fail
    refine (xtake_none x 0 e _ bs a H.out (.inr (by decide))).mono ?_
    rintro y w1 ⟨rfl, rfl⟩
    go_wp2
    go_loop [6, 7] (fun v i => v = .int .u64 0 ∧ i = .int .i64 0) (fun _ _ => 0)
    case atStart => exact ⟨rfl, rfl⟩
    case round =>
      obtain ⟨rfl, rfl⟩ := hrel
      go_wp2
      go_ret
      exact ⟨rfl, rfl⟩
  · go_enter Try.func24, Try.ntmps24
    go_wp2_with fail
    refine (xtake_none x 0 e _ bs a H.out (.inr (by decide))).mono ?_
    rintro y w1 ⟨rfl, rfl⟩
    go_wp2
    go_loop [6, 7] (fun v i => v = .int .u64 0 ∧ i = .int .i64 0) (fun _ _ => 0)
    case atStart => exact ⟨rfl, rfl⟩
    case round =>
      obtain ⟨rfl, rfl⟩ := hrel
      go_wp2
      go_ret
      exact ⟨rfl, rfl⟩
  · by_cases h2 : n < 0
    · go_enter Try.func24, Try.ntmps24
      go_wp2_with fail
      refine (xtake_none x 0 e _ bs a H.out (.inr (by decide))).mono ?_
      rintro y w1 ⟨rfl, rfl⟩
      go_wp2
      go_loop [6, 7] (fun v i => v = .int .u64 0 ∧ i = .int .i64 0) (fun _ _ => 0)
      case atStart => exact ⟨rfl, rfl⟩
      case round =>
        obtain ⟨rfl, rfl⟩ := hrel
        go_wp2
        go_ret
        exact ⟨rfl, rfl⟩
    · by_cases h3 : 8 < n
      · go_enter Try.func24, Try.ntmps24
        go_wp2_with fail
        refine (xtake_none x 0 e _ bs a H.out (.inr (by decide))).mono ?_
        rintro y w1 ⟨rfl, rfl⟩
        go_wp2
        go_loop [6, 7] (fun v i => v = .int .u64 0 ∧ i = .int .i64 0) (fun _ _ => 0)
        case atStart => exact ⟨rfl, rfl⟩
        case round =>
          obtain ⟨rfl, rfl⟩ := hrel
          go_wp2
          go_ret
          exact ⟨rfl, rfl⟩
      · have H1 := Lib.hid h1; clear h1
        go_enter Try.func24, Try.ntmps24
        go_wp2_with fail
        refine (xtake_none x n e _ bs a H.out H1.out).mono ?_
        rintro y w1 ⟨rfl, rfl⟩
        go_wp2
        go_loop [6, 7] (fun v i => v = .int .u64 0 ∧ i = .int .i64 0) (fun _ _ => 0)
        case atStart => exact ⟨rfl, rfl⟩
        case round =>
          obtain ⟨rfl, rfl⟩ := hrel
          go_wp2
          go_ret
          exact ⟨rfl, rfl⟩

set_option maxRecDepth 100000 in
set_option maxHeartbeats 1000000 in
theorem xget_cut (x k : Nat) (w : World) (bs : List Int) (a : Nat) (hz : bs.length ≤ 140737488355328) (h : XR w x bs a 0 M) (hk : 0 < k) (hk8 : k ≤ 8) (hc : (bs.length : Int) - a < k) :
    Calls Try.prog 24 #[.pointer (some ⟨x, 0, none⟩), .int .i64 k] w fun y w' => y = .returned (.int .u64 0) ∧ Chg [x] w w' ∧ XR w' x bs a 8 M := by
  have H := Lib.hid h; clear h
  go_enter Try.func24, Try.ntmps24
  go_wp2_with fail
  refine (xtake_cut x k _ bs a hz H.out (by omega) hc).mono ?_
  rintro y w1 ⟨rfl, g1, g2⟩
  have G1 := Lib.hid g1; have G2 := Lib.hid g2; clear g1 g2
  go_wp2
  go_loop [6, 7] (fun v i => v = .int .u64 0 ∧ i = .int .i64 0) (fun _ _ => 0)
  case atStart => exact ⟨rfl, rfl⟩
  case round =>
    obtain ⟨rfl, rfl⟩ := hrel
    go_wp2
    go_ret
    exact ⟨rfl, G1.out, G2.out⟩

set_option maxRecDepth 100000 in
set_option maxHeartbeats 1000000 in
theorem xget_yes (x k : Nat) (w : World) (bs : List Int) (a : Nat) (hz : bs.length ≤ 140737488355328) (hwf : Wf bs) (h : XR w x bs a 0 M) (hk : 0 < k) (hk8 : k ≤ 8) (hc : a + k ≤ bs.length) :
    Calls Try.prog 24 #[.pointer (some ⟨x, 0, none⟩), .int .i64 k] w fun y w' => y = .returned (.int .u64 (num ((bs.drop a).take k))) ∧ Chg [x] w w' ∧ XR w' x bs (a + k) 0 M := by
  have H := Lib.hid h; clear h
  have hlen : ((bs.drop a).take k).length = k := by simp; omega
  have hwf2 : Wf ((bs.drop a).take k) := (hwf.drop a).take k
  obtain ⟨zs, hzs⟩ : ∃ zs, zs = (bs.drop a).take k := ⟨_, rfl⟩
  rw [← hzs] at hlen hwf2
  have HZ := Lib.hid hzs; clear hzs
  go_enter Try.func24, Try.ntmps24
  have HL := Lib.hid hlen; clear hlen
  go_wp2_with fail
  refine (xtake_yes x k _ bs a hz H.out hk hc).mono ?_
  rintro y w1 ⟨v, rfl, g1, g2, g3⟩
  rw [← HZ.out] at g3
  have hrd := reads_of_own g3
  have G1 := Lib.hid g1; have G2 := Lib.hid g2; clear g1 g2 g3
  rcases hrd with ⟨rfl, h0⟩ | ⟨g, off, cap, rfl, h1, h2, h3⟩
  · have := congrArg List.length h0
    rw [bys_length, HL.out] at this
    simp at this
    omega
  rw [bys_length, HL.out] at h1 ⊢
  have H3 := Lib.hid h3; clear h3
  go_wp2
  go_loop [6, 7] (fun v i => ∃ j : Nat, j ≤ k ∧ v = .int .u64 (num (zs.take j)) ∧ i = .int .i64 j) (fun _ i => k - (intOf i).toNat)
  case atStart => exact ⟨0, Nat.zero_le _, rfl, rfl⟩
  case round =>
    obtain ⟨j, hj, rfl, rfl⟩ := hrel
    by_cases hjk : j < k
    · have hjl : j < zs.length := by rw [HL.out]; exact hjk
      obtain ⟨b, hbe, htk, hbm⟩ : ∃ b, zs[j]? = some b ∧ zs.take (j + 1) = zs.take j ++ [b] ∧ b ∈ zs :=
        ⟨zs[j], List.getElem?_eq_getElem hjl, List.take_succ_eq_append_getElem hjl, List.getElem_mem hjl⟩
      have hc0 : w1.cell? ⟨g, off + j, none⟩ = some (.int .u8 b) := H3.out j _ (bys_get hbe)
      have hz := hwf2 b hbm
      have htl : (zs.take j).length = j := by simp; omega
      have hb := num_bound _ (hwf2.take j)
      rw [htl] at hb
      have ho := or_add (num (zs.take j)) b (8 * j) (by omega) hb.1 hb.2 hz.1 hz.2
      have hn : num (zs.take j) + b * 2 ^ (8 * j) = num (zs.take (j + 1)) := by
        rw [htk, num_snoc, htl]
      rw [hn] at ho
      have HO := Lib.hid ho
      clear ho hn htl hb hjl hbe htk
      go_wp2
      go_round
      case rel => exact ⟨j + 1, by omega, by rw [HO.out], by go_num⟩
      case measure => simp [intOf]; omega
    · obtain rfl : j = k := by omega
      clear hjk hj
      have e : zs.take j = zs := List.take_of_length_le (by rw [HL.out]; exact Nat.le_refl _)
      have HE := Lib.hid e; clear e
      go_wp2
      go_ret
      exact ⟨by rw [HE.out, HZ.out]; rfl, G1.out, G2.out⟩

end
end Go.Proofs.Ytlhdicbhanncnaa

namespace Go.Proofs.Ytlhdicbhanncnaa
open Go.RowKit
set_option linter.unusedVariables false
set_option linter.unusedSimpArgs false
variable {M : Nat}

set_option maxRecDepth 100000 in
set_option maxHeartbeats 1000000 in
theorem xend_any (x : Nat) (e : Int) (w : World) (bs : List Int) (a : Nat) (hz : bs.length ≤ 140737488355328) (h : XR w x bs a e M) :
    Calls Try.prog 27 #[.pointer (some ⟨x, 0, none⟩)] w fun y w' => y = .returned (.int .i64 (if e = 0 ∧ a < bs.length then 9 else e)) ∧ ∃ n, w' = w.drewN n := by
  obtain ⟨v, h1, h2, h3, h4, h5⟩ := h
  obtain ⟨ao, cap, rfl, hc1, hc2⟩ := h2.shape
  obtain ⟨c0, c1, c2, f0, f1, f2⟩ := cells3 h1
  simp only [bys_length] at c0 hc1
  clear h1 h2 h3 h4
  by_cases he : e = 0
  · subst he
    by_cases hl : a < bs.length
    · rw [if_pos ⟨rfl, hl⟩]
      have hl2 : decide ((a : Int) < (bs.length : Int)) = true := by simpa using hl
      go_enter Try.func27, Try.ntmps27
      go_wp2
      go_quiet (fail)
      go_wp2
      go_ret
      exact ⟨rfl, _, rfl⟩
    · rw [if_neg (by omega)]
      have hl2 : decide ((a : Int) < (bs.length : Int)) = false := by simpa using hl
      go_enter Try.func27, Try.ntmps27
      go_wp2
      go_quiet (fail)
      go_wp2
      go_ret
      exact ⟨rfl, _, rfl⟩
  · rw [if_neg (by omega)]
    have hb : (e == 0) = false := by simpa using he
    clear he
    go_enter Try.func27, Try.ntmps27
    go_wp2
    go_quiet (fail)
    go_wp2
    go_ret
    exact ⟨rfl, _, rfl⟩

end Go.Proofs.Ytlhdicbhanncnaa

namespace Go.Proofs.Ytlhdicbhanncnaa
open Go.RowKit
set_option linter.unusedVariables false
set_option linter.unusedSimpArgs false

/-- The reference's reader stands. -/
structure XS (w : World) (x M : Nat) (b : List Nat) (a : Nat) (e : Int) : Prop where
  xr : XR w x (zi b) a e M
  by' : ∀ y ∈ b, y < 256
  bl : b.length ≤ 1000000000
  xM : x < M
  aL : a ≤ b.length

/-- What is left. -/
def leftX (b : List Nat) (a : Nat) (e : Int) : List Nat := if e = 0 then b.drop a else []

theorem leftX_ok (b : List Nat) (a : Nat) : leftX b a 0 = b.drop a := rfl

theorem leftX_err (b : List Nat) (a : Nat) (e : Int) (h : e ≠ 0) : leftX b a e = [] := by unfold leftX; rw [if_neg h]

theorem XS.keep {w w' : World} {x M : Nat} {b : List Nat} {a : Nat} {e : Int} (h : XS w x M b a e) (hc : Chg [] w w') : XS w' x M b a e :=
  ⟨h.xr.keep0 hc, h.by', h.bl, h.xM, h.aL⟩

/-- Another block, behind the reader's, was changed. -/
theorem XS.high {w w' : World} {x M k : Nat} {b : List Nat} {a : Nat} {e : Int} (h : XS w x M b a e) (hc : Chg [k] w w') (hk : M ≤ k) : XS w' x M b a e := by
  obtain ⟨v, h1, h2, h3, h4, h5⟩ := h.xr
  have hx := h.xM
  have hg : ∀ g, v.ownBlock = some g → g ∉ [k] := fun g hg hm => by have := h4 g hg; simp at hm; omega
  exact ⟨⟨v, hc.heap h1 (by simp; omega), h2.keep hc hg, h3.keep hc hg, h4, h5⟩, h.by', h.bl, h.xM, h.aL⟩

theorem XS.err {w : World} {x M : Nat} {b : List Nat} {a : Nat} {e : Int} (h : XS w x M b a e) : w.cell? ⟨x, 2, none⟩ = some (.int .i64 e) := by
  obtain ⟨v, h1, -⟩ := h.xr
  exact (cells3 h1).2.2.1

theorem xsGet {w : World} {x M : Nat} {b : List Nat} {a : Nat} (h : XS w x M b a 0) (n : Nat) (h1 : 1 ≤ n) (h8 : n ≤ 8) :
    Calls Try.prog 24 #[.pointer (some ⟨x, 0, none⟩), .int .i64 (n : Int)] w fun y w' =>
      if (b.drop a).length < n then y = .returned (.int .u64 0) ∧ Chg [x] w w' ∧ XS w' x M b a 8
      else y = .returned (.int .u64 ((nm ((b.drop a).take n) : Nat) : Int)) ∧ Chg [x] w w' ∧ XS w' x M b (a + n) 0 := by
  have hb := h.bl
  have ha := h.aL
  by_cases hn : (b.drop a).length < n
  · simp only [if_pos hn]
    rw [List.length_drop] at hn
    refine (xget_cut x n w (zi b) a (by rw [zi_length]; omega) h.xr (by omega) h8 (by rw [zi_length]; omega)).mono ?_
    rintro y w' ⟨rfl, hc, hr⟩
    exact ⟨rfl, hc, ⟨hr, h.by', h.bl, h.xM, h.aL⟩⟩
  · simp only [if_neg hn]
    rw [List.length_drop] at hn
    refine (xget_yes x n w (zi b) a (by rw [zi_length]; omega) (zi_wf h.by') h.xr (by omega) h8 (by rw [zi_length]; omega)).mono ?_
    rintro y w' ⟨rfl, hc, hr⟩
    rw [zi_drop, zi_take, num_zi]
    exact ⟨rfl, hc, ⟨hr, h.by', h.bl, h.xM, by omega⟩⟩

theorem xsTake_err {w : World} {x M : Nat} {b : List Nat} {a : Nat} {e : Int} (h : XS w x M b a e) (he : e ≠ 0) (n : Int) :
    Calls Try.prog 25 #[.pointer (some ⟨x, 0, none⟩), .int .i64 n] w fun y w' => y = .returned (.slice none 0 0) ∧ Chg [x] w w' ∧ XS w' x M b a e := by
  refine (xtake_none x n e w (zi b) a h.xr (.inl he)).mono ?_
  rintro y w' ⟨rfl, rfl⟩
  exact ⟨rfl, Chg.refl _ _, h⟩

theorem xsTake {w : World} {x M : Nat} {b : List Nat} {a : Nat} (h : XS w x M b a 0) (n : Nat) :
    Calls Try.prog 25 #[.pointer (some ⟨x, 0, none⟩), .int .i64 (n : Int)] w fun y w' => ∃ v, y = .returned v ∧ Chg [x] w w' ∧
      (if (b.drop a).length < n then v = .slice none 0 0 ∧ XS w' x M b a 8 else Seen w' v (nv .u8 ((b.drop a).take n)) ∧ XS w' x M b (a + n) 0) := by
  have hb := h.bl
  have ha := h.aL
  by_cases hn : (b.drop a).length < n
  · simp only [if_pos hn]
    rw [List.length_drop] at hn
    refine (xtake_cut x n w (zi b) a (by rw [zi_length]; omega) h.xr (by omega) (by rw [zi_length]; omega)).mono ?_
    rintro y w' ⟨rfl, hc, hr⟩
    exact ⟨_, rfl, hc, rfl, ⟨hr, h.by', h.bl, h.xM, h.aL⟩⟩
  · simp only [if_neg hn]
    rw [List.length_drop] at hn
    by_cases h0 : n = 0
    · subst h0
      refine (xtake_none x 0 0 w (zi b) a h.xr (.inr (by decide))).mono ?_
      rintro y w' ⟨rfl, rfl⟩
      exact ⟨_, rfl, Chg.refl _ _, by simpa [nv] using Seen.nil w, h⟩
    · refine (xtake_yes x n w (zi b) a (by rw [zi_length]; omega) h.xr (by omega) (by rw [zi_length]; omega)).mono ?_
      rintro y w' ⟨v, rfl, hc, hr, ho⟩
      rw [zi_drop, zi_take, bys_zi] at ho
      exact ⟨v, rfl, hc, (reads_of_own ho).seen, ⟨hr, h.by', h.bl, h.xM, by omega⟩⟩

/-- Blocks behind the reader's were changed. -/
theorem XS.above {w w' : World} {S : List Nat} {x M : Nat} {b : List Nat} {a : Nat} {e : Int} (h : XS w x M b a e) (hc : Chg S w w') (hS : ∀ k ∈ S, M ≤ k) : XS w' x M b a e := by
  obtain ⟨v, h1, h2, h3, h4, h5⟩ := h.xr
  have hx := h.xM
  have hg : ∀ g, v.ownBlock = some g → g ∉ S := fun g hg hm => by have := h4 g hg; have := hS g hm; omega
  exact ⟨⟨v, hc.heap h1 (fun hm => by have := hS x hm; omega), h2.keep hc hg, h3.keep hc hg, h4, h5⟩, h.by', h.bl, h.xM, h.aL⟩

/-- The reader of some bytes. -/
theorem xsNew (bv : Value) (b : List Nat) (w : World) (hS : Seen w bv (nv .u8 b)) (hb : ∀ x ∈ b, x < 256) (hbl : b.length ≤ 1000000000) :
    Calls Try.prog 21 #[bv] w fun e w' => ∃ x, e = .returned (.pointer (some ⟨x, 0, none⟩)) ∧ Chg [] w w' ∧ w.heap.size ≤ x ∧ XS w' x w'.heap.size b 0 0 := by
  refine (xnew_any bv (zi b) w (by rw [zi_length]; omega) (by rw [bys_zi]; exact hS)).mono ?_
  rintro e w' ⟨x, rfl, hc, hx, hr⟩
  exact ⟨x, rfl, hc, hx, ⟨hr, hb, hbl, hr.lt, Nat.zero_le _⟩⟩

end Go.Proofs.Ytlhdicbhanncnaa

namespace Go.Proofs.Ytlhdicbhanncnaa
open Go.RowKit
set_option linter.unusedVariables false
set_option linter.unusedSimpArgs false

theorem xsEnd {w : World} {x M : Nat} {b : List Nat} {a : Nat} {e : Int} (h : XS w x M b a e) :
    Calls Try.prog 27 #[.pointer (some ⟨x, 0, none⟩)] w fun y w' => y = .returned (.int .i64 (if e = 0 then (if b.drop a = [] then 0 else 9) else e)) ∧ Chg [] w w' := by
  refine (xend_any x e w (zi b) a (by have := h.bl; rw [zi_length]; omega) h.xr).mono ?_
  rintro y w' ⟨rfl, n, rfl⟩
  refine ⟨?_, (Chg.refl [] w).drewN n⟩
  rw [zi_length]
  have ha := h.aL
  by_cases he : e = 0
  · subst he
    by_cases hb : b.drop a = []
    · have : b.length ≤ a := by simpa using hb
      rw [if_neg (by omega), if_pos rfl, if_pos hb]
    · have : ¬ b.length ≤ a := fun h => hb (by simpa using h)
      rw [if_pos ⟨rfl, by omega⟩, if_pos rfl, if_neg hb]
  · rw [if_neg (fun h => he h.1), if_neg he]

end Go.Proofs.Ytlhdicbhanncnaa

namespace Go.Proofs.Ytlhdicbhanncnaa
open Go.RowKit
set_option linter.unusedVariables false
set_option linter.unusedSimpArgs false

theorem gl_room (l : List Nat) : (gl 0 l).2 = 0 → (gl 0 l).1 ≤ l.length := fun h => (gl_len 0 l (by decide) h).2.1

set_option maxRecDepth 100000 in
set_option maxHeartbeats 4000000 in
theorem xsVRead {w : World} {x M : Nat} {b : List Nat} {a : Nat} (h : XS w x M b a 0) :
    Calls Try.prog 22 #[.pointer (some ⟨x, 0, none⟩)] w fun y w' =>
      if (gl 0 (b.drop a)).2 ≠ 0 then y = .returned (.int .u64 0) ∧ Chg [x] w w' ∧ XS w' x M b a ((gl 0 (b.drop a)).2 : Nat)
      else y = .returned (.int .u64 ((gv (b.drop a) : Nat) : Int)) ∧ Chg [x] w w' ∧ XS w' x M b (a + (gl 0 (b.drop a)).1) 0 := by
  obtain ⟨v, h1, h2, h3, h4, h5⟩ := h.xr
  rw [bys_zi] at h2
  obtain ⟨ao, cap, rfl, hc1, hc2⟩ := h2.shape
  rw [nv_length] at h1 h2 h3 h4 hc1
  obtain ⟨c0, c1, c2, f0, f1, f2⟩ := cells3 h1
  have HX := Lib.hid h
  obtain ⟨ao', cap', hs, hrun⟩ := run_back h2.seen rfl hc1 a h.aL
  have HG := Lib.hid (fun (wx : World) (hc : Chg [] w wx) => rget_any (.slice ao' (b.length - a) cap') (b.drop a) wx (hs.keep hc) (fun y hy => h.by' y (List.mem_of_mem_drop hy)))
  unfold GetOut at HG
  have hgl := gl_room (b.drop a)
  rw [List.length_drop] at hgl
  obtain ⟨N, hN⟩ : ∃ N, N = (gl 0 (b.drop a)).1 := ⟨_, rfl⟩
  obtain ⟨E, hE⟩ : ∃ E, E = (gl 0 (b.drop a)).2 := ⟨_, rfl⟩
  obtain ⟨Z, hZ⟩ : ∃ Z, Z = gv (b.drop a) := ⟨_, rfl⟩
  rw [← hN, ← hE, ← hZ] at HG
  rw [← hN, ← hE] at hgl
  rw [← hN, ← hE, ← hZ]
  have hb := h.bl
  have hal := h.aL
  obtain ⟨B, hB⟩ : ∃ B, B = b.length := ⟨_, rfl⟩
  rw [← hB] at c0 hrun HG hgl hb hal hc1
  have HBB := Lib.hid hB
  have HCL := Lib.hid (show ∀ wx, Chg [] w wx → wx.cell? ⟨x, 0, none⟩ = some (.slice ao B cap) ∧ wx.cell? ⟨x, 1, none⟩ = some (.int .i64 (a : Int)) ∧ wx.frozen? ⟨x, 1, none⟩ = false ∧ XS wx x M b a 0 from fun wx hc => by
    obtain ⟨k0, k1, -, -, k4, -⟩ := cells3 (hc.heap h1 (by simp))
    exact ⟨by rw [hB]; exact k0, k1, k4, h.keep hc⟩)
  have HD0 := Lib.hid (Chg.refl [] w).drew
  obtain ⟨q0, q1, -, -⟩ := HCL.out w.drew (Chg.refl [] w).drew
  clear h h1 h2 h3 h4 h5 hs hN hE hZ hB f0 f1 f2
  go_enter Try.func22, Try.ntmps22
  go_upto_region 3 with fail
  go_cut [3, 4, 5] (fun s3 s4 s5 wx => s3 = .int .u64 ((Z : Nat) : Int) ∧ s4 = .int .i64 ((N : Nat) : Int) ∧ s5 = .int .i64 ((E : Nat) : Int) ∧ Chg [] w wx)
  case first =>
    go_region_held3 (fun w' => w'.cell? ⟨x, 0, none⟩ = some (.slice ao B cap) ∧ w'.cell? ⟨x, 1, none⟩ = some (.int .i64 (a : Int))) (first | exact ⟨q0, q1⟩ | exact ⟨u0, u1⟩) (first
      | (go_simp; go_at_call 38; (with_reducible refine (HG.out _ HD0.out).mono ?_); rintro e w2 ⟨rfl, hc2⟩; have HC2 := Lib.hid (HD0.out.trans hc2 (by simp)); obtain ⟨u0, u1, -, -⟩ := HCL.out w2 HC2.out; clear hc2))
    all_goals
      try go_wp2
      go_meet
      case rel => exact ⟨rfl, rfl, rfl, HC2.out⟩
  case rest =>
    obtain ⟨rfl, rfl, rfl, hcw⟩ := hcut
    obtain ⟨u0, u1, u2, u3⟩ := HCL.out wc hcw
    have HXC := Lib.hid u3
    have HCW := Lib.hid hcw
    clear hcw u3
    by_cases hE0 : E = 0
    · subst hE0
      have hN2 : a + N ≤ B := by omega
      go_wp2
      go_ret
      have hs1 := XR.set1 (a' := a + N) HXC.out.xr (by have := HBB.out; rw [zi_length]; omega)
      have hcast : (((a + N : Nat) : Nat) : Int) = (a : Int) + (N : Int) := by omega
      rw [hcast] at hs1
      exact ⟨rfl, (HCW.out.mono (T := [x]) (by simp)).setCell (by simp) _, ⟨hs1, HXC.out.by', HXC.out.bl, HXC.out.xM, by have := HBB.out; omega⟩⟩
    · have hne : ((E : Int) != 0) = true := by simp; omega
      have hne2 : ¬ ((E : Int) = 0) := by omega
      have HFL := Lib.hid (xfail_set x (E : Int) wc (zi b) a HXC.out.xr)
      go_wp2_with (first
        | (go_at_call 23; (with_reducible refine HFL.out.mono ?_); rintro e w3 ⟨rfl, hc3, hr3⟩; have HC3 := Lib.hid hc3; have HR3 := Lib.hid hr3; clear hc3 hr3)
        | fail)
      go_ret
      exact ⟨rfl, (HCW.out.mono (T := [x]) (by simp)).trans HC3.out (by simp), ⟨HR3.out, HXC.out.by', HXC.out.bl, HXC.out.xM, HXC.out.aL⟩⟩

end Go.Proofs.Ytlhdicbhanncnaa
