/- Contracts of the reference's Reader (shredderref1), as far as CursorReads calls it. -/
import Derived.Test.YtohgnbgijleoaaaDoorTake
import Derived.Test.YtohgnbgijleoaaaDoorPut
import Derived.Deep.QuietTactic
import Derived.BigQuiet
import Derived.BigRegion
import Derived.Deep.RegionLaw
import Derived.Deep.RegionHeld3
import Derived.Deep.AppendLies
namespace Go.Proofs.YtohgnbgijleoaaaDoor
open Go.RowKit
set_option linter.unusedVariables false

/-- The reference's Reader at block x has bs, is at a, its error is e. -/
def XR (w : World) (x : Nat) (bs : List Int) (a : Nat) (e : Int) (M : Nat) : Prop :=
  ∃ v, w.heap[x]? = some (.cells #[v, .int .i64 a, .int .i64 e] 77 (0, 0)) ∧ Reads w v (bys bs) ∧ Tagged w 5 v ∧ (∀ g, v.ownBlock = some g → g < M) ∧ a ≤ bs.length

theorem cells3 {w : World} {d : Nat} {u v y : Value} {t : TypeId} (h : w.heap[d]? = some (.cells #[u, v, y] t (0, 0))) :
    w.cell? ⟨d, 0, none⟩ = some u ∧ w.cell? ⟨d, 1, none⟩ = some v ∧ w.cell? ⟨d, 2, none⟩ = some y ∧ w.frozen? ⟨d, 0, none⟩ = false ∧ w.frozen? ⟨d, 1, none⟩ = false ∧ w.frozen? ⟨d, 2, none⟩ = false := by
  simp [World.cell?, World.frozen?, h]
theorem set31 {w : World} {d : Nat} {u v y : Value} {t : TypeId} (h : w.heap[d]? = some (.cells #[u, v, y] t (0, 0))) (x : Value) :
    (w.setCell ⟨d, 1, none⟩ x).heap[d]? = some (.cells #[u, x, y] t (0, 0)) := heap_setCell_same w d 1 _ t x h
theorem set32 {w : World} {d : Nat} {u v y : Value} {t : TypeId} (h : w.heap[d]? = some (.cells #[u, v, y] t (0, 0))) (x : Value) :
    (w.setCell ⟨d, 2, none⟩ x).heap[d]? = some (.cells #[u, v, x] t (0, 0)) := heap_setCell_same w d 2 _ t x h

section
variable {M : Nat}

theorem XR.lt {w : World} {x : Nat} {bs : List Int} {a : Nat} {e : Int} (h : XR w x bs a e M) : x < w.heap.size := by
  obtain ⟨v, h1, _⟩ := h
  exact Go.lt_of_block h1

theorem XR.keep0 {w w' : World} {x : Nat} {bs : List Int} {a : Nat} {e : Int} (h : XR w x bs a e M) (hc : Chg [] w w') : XR w' x bs a e M := by
  obtain ⟨v, h1, h2, h3, h4, h5⟩ := h
  exact ⟨v, hc.heap h1 (by simp), h2.keep hc (by simp), h3.keep hc (by simp), h4, h5⟩

theorem XR.keepRd {w w' : World} {x r : Nat} {bs zs : List Int} {a : Nat} {e e' : Int} {M' : Nat} (h : XR w x bs a e M) (hs : Rd w r zs e' M') (hc : Chg [r] w w') : XR w' x bs a e M := by
  obtain ⟨v, h1, h2, h3, h4, h5⟩ := h
  obtain ⟨v', h1', _⟩ := hs
  have hn := h3.ne h1' (by decide)
  have hne : x ≠ r := by
    intro e
    subst e
    rw [h1] at h1'
    simp at h1'
  exact ⟨v, hc.heap h1 (by simpa using hne), h2.keep hc (fun g hg => by simpa using hn g hg), h3.keep hc (fun g hg => by simpa using hn g hg), h4, h5⟩

theorem Rd.keepXR {w w' : World} {x r : Nat} {bs zs : List Int} {a : Nat} {e e' : Int} {M' : Nat} (h : Rd w r zs e M) (hs : XR w x bs a e' M') (hc : Chg [x] w w') : Rd w' r zs e M := by
  obtain ⟨v, h1, h2, h3, h4⟩ := h
  obtain ⟨v', h1', _⟩ := hs
  have hn := h3.ne h1' (by decide)
  have hne : r ≠ x := by
    intro e
    subst e
    rw [h1] at h1'
    simp at h1'
  exact ⟨v, hc.heap h1 (by simpa using hne), h2.keep hc (fun g hg => by simpa using hn g hg), h3.keep hc (fun g hg => by simpa using hn g hg), h4⟩

/-- A store into the second or third cell. -/
theorem XR.set1 {w : World} {x : Nat} {bs : List Int} {a a' : Nat} {e : Int} (h : XR w x bs a e M) (ha : a' ≤ bs.length) : XR (w.setCell ⟨x, 1, none⟩ (.int .i64 (a' : Int))) x bs a' e M := by
  obtain ⟨v, h1, h2, h3, h4, h5⟩ := h
  have hn := h3.ne h1 (by decide)
  have hc : Chg [x] w (w.setCell ⟨x, 1, none⟩ (.int .i64 (a' : Int))) := (Chg.refl _ _).setCell (by simp) _
  exact ⟨v, set31 h1 _, h2.keep hc (fun g hg => by simpa using hn g hg), h3.keep hc (fun g hg => by simpa using hn g hg), h4, ha⟩
theorem XR.set2 {w : World} {x : Nat} {bs : List Int} {a : Nat} {e e' : Int} (h : XR w x bs a e M) : XR (w.setCell ⟨x, 2, none⟩ (.int .i64 e')) x bs a e' M := by
  obtain ⟨v, h1, h2, h3, h4, h5⟩ := h
  have hn := h3.ne h1 (by decide)
  have hc : Chg [x] w (w.setCell ⟨x, 2, none⟩ (.int .i64 e')) := (Chg.refl _ _).setCell (by simp) _
  exact ⟨v, set32 h1 _, h2.keep hc (fun g hg => by simpa using hn g hg), h3.keep hc (fun g hg => by simpa using hn g hg), h4, h5⟩

set_option maxRecDepth 100000 in
set_option maxHeartbeats 1000000 in
theorem xfail_kept (x : Nat) (e0 e : Int) (w : World) (bs : List Int) (a : Nat) (h : XR w x bs a e0 M) (he : e0 ≠ 0) :
    Calls Tryd.prog 47 #[.pointer (some ⟨x, 0, none⟩), .int .i64 e] w fun y w' => y = .returned (.tuple #[]) ∧ w = w' := by
  obtain ⟨v, h1, h2, h3, h4, h5⟩ := h
  obtain ⟨c0, c1, c2, f0, f1, f2⟩ := cells3 h1
  have hb : (e0 == 0) = false := by simpa using he
  clear h1 h2 h3 h4 h5 he
  go_enter Tryd.func47, Tryd.ntmps47
  go_wp2
  go_end0
  exact ⟨rfl, rfl⟩

set_option maxRecDepth 100000 in
set_option maxHeartbeats 1000000 in
theorem xfail_set (x : Nat) (e : Int) (w : World) (bs : List Int) (a : Nat) (h : XR w x bs a 0 M) :
    Calls Tryd.prog 47 #[.pointer (some ⟨x, 0, none⟩), .int .i64 e] w fun y w' => y = .returned (.tuple #[]) ∧ Chg [x] w w' ∧ XR w' x bs a e M := by
  have H := Lib.hid h
  obtain ⟨v, h1, h2, h3, h4, h5⟩ := h
  obtain ⟨c0, c1, c2, f0, f1, f2⟩ := cells3 h1
  clear h1 h2 h3 h4 h5
  go_enter Tryd.func47, Tryd.ntmps47
  go_wp2
  go_end0
  exact ⟨rfl, (Chg.refl _ _).setCell (by simp) _, H.out.set2⟩

/-- A new reference Reader of bs. -/
def XNewed (bs : List Int) (w : World) (x : Ending) (w' : World) : Prop :=
  ∃ r, x = .returned (.pointer (some ⟨r, 0, none⟩)) ∧ Chg [] w w' ∧ w.heap.size ≤ r ∧ XR w' r bs 0 0 w'.heap.size

set_option maxRecDepth 100000 in
set_option maxHeartbeats 1000000 in
theorem xnew_any (bv : Value) (bs : List Int) (w : World) (hz : bs.length ≤ 140737488355328) (h : Seen w bv (bys bs)) :
    Calls Tryd.prog 45 #[bv] w fun x w' => XNewed bs w x w' := by
  obtain ⟨i0, hi, hz0, hz1, hz2⟩ := info_u8
  have hone := Lib.hid (bys_one bs)
  have hm : bs.length ≤ maxLen := by unfold maxLen; omega
  have HR := Lib.hid (h.keep ((Chg.refl [] w).alloc (.cells #[] 5)))
  obtain ⟨ao, cap, rfl, hc1, hc2⟩ := h.shape
  clear h
  have ho := Lib.hid (World.ownsRow_made (base := w.heap.size) (e := 5) (size := 1) w #[] 0 (Nat.le_refl _) (by simp) rfl)
  go_enter Tryd.func45, Tryd.ntmps45
  go_wp2_with (at_builtin; refine wpList_append_reads _ rfl _ _ 26 26 rfl w.heap.size 5 5 i0 (.int .u8 0) 1 Tryd.underlying26 Tryd.underlying26 hi hz0 hz1 hz2 rfl _ _ _ rfl ho.out _ (bys bs) rfl HR.out hone.out ?c1 ?c2 ?c3 ?_)
  case c1 => simpa using hm
  case c2 => simp; omega
  case c3 => simp
  intro v' w1 hown hgrow
  have hc := Lib.hid (((Chg.refl [] w).alloc (.cells #[] 5)).grown hgrow (by simp [Value.ownBlock]))
  obtain ⟨ao', cap', hv⟩ := own_shape hown
  rw [hv]
  have HO1 := Lib.hid hown; clear hown
  have HV := Lib.hid hv; clear hv hgrow hz1 hz2 hz0 hi
  go_wp2
  go_ret
  have hb := heap_alloc_new w1 (.cells #[v', .int .i64 0, .int .i64 0] 77)
  have hk : Chg [] w1 (w1.alloc (.cells #[v', .int .i64 0, .int .i64 0] 77)) := (Chg.refl _ _).alloc _
  rw [← HV.out]
  exact ⟨_, rfl, hc.out.alloc _, hc.out.size, v', hb, (reads_of_own HO1.out).keep hk (by simp), (tagged_of_own HO1.out).keep hk (by simp), fun g hg => Nat.lt_of_lt_of_le ((tagged_of_own HO1.out).lt g hg) hk.size, Nat.zero_le _⟩

theorem xtake_none (x : Nat) (n e : Int) (w : World) (bs : List Int) (a : Nat) (h : XR w x bs a e M) (hn : e ≠ 0 ∨ n ≤ 0) :
    Calls Tryd.prog 48 #[.pointer (some ⟨x, 0, none⟩), .int .i64 n] w fun y w' => y = .returned (.slice none 0 0) ∧ w = w' := by
  obtain ⟨v, h1, h2, h3, h4, h5⟩ := h
  obtain ⟨c0, c1, c2, f0, f1, f2⟩ := cells3 h1
  clear h1 h2 h3 h4
  by_cases he : e = 0
  · subst he
    have hn2 : n ≤ 0 := by omega
    clear hn
    go_enter Tryd.func48, Tryd.ntmps48
    go_wp2
    go_ret
    exact ⟨rfl, rfl⟩
  · have hb : (e == 0) = false := by simpa using he
    have hb2 : (e != 0) = true := by simpa using he
    clear he hn
    go_enter Tryd.func48, Tryd.ntmps48
    go_wp2
    go_ret
    exact ⟨rfl, rfl⟩

set_option maxRecDepth 100000 in
set_option maxHeartbeats 1000000 in
theorem xtake_cut (x : Nat) (n : Int) (w : World) (bs : List Int) (a : Nat) (hz : bs.length ≤ 140737488355328) (h : XR w x bs a 0 M) (hn : 0 < n) (hc : (bs.length : Int) - a < n) :
    Calls Tryd.prog 48 #[.pointer (some ⟨x, 0, none⟩), .int .i64 n] w fun y w' => y = .returned (.slice none 0 0) ∧ Chg [x] w w' ∧ XR w' x bs a 8 M := by
  have H := Lib.hid h
  obtain ⟨v, h1, h2, h3, h4, h5⟩ := h
  obtain ⟨ao, cap, rfl, hc1, hc2⟩ := h2.shape
  obtain ⟨c0, c1, c2, f0, f1, f2⟩ := cells3 h1
  simp only [bys_length] at c0 hc1
  clear h1 h2 h3 h4
  have hw : IntKind.i64.wrap ((bs.length : Int) - a) = (bs.length : Int) - a := IntWalk.i64_in _ (by omega)
  go_enter Tryd.func48, Tryd.ntmps48
  go_wp2
  go_quiet (fail)
  clear hw
  go_wp2_with fail
  refine (xfail_set x 8 _ bs a (H.out.keep0 ((Chg.refl _ _).drewN _))).mono ?_
  rintro y w1 ⟨rfl, g1, g2⟩
  go_wp2
  go_ret
  exact ⟨rfl, ((Chg.refl [x] w).drewN nq).trans g1 (by simp), g2⟩

theorem keepXcells {w w3 : World} {x h : Nat} {u y : Value} {o : Obj} (hg : (w.alloc o).drew.grownBy w3 (some w.heap.size)) (hx : x < w.heap.size) (d0 : w.cell? ⟨x, 0, none⟩ = some u) (d1 : w.cell? ⟨x, 1, none⟩ = some y) :
    w3.cell? ⟨x, 0, none⟩ = some u ∧ w3.cell? ⟨x, 1, none⟩ = some y := by
  have hb : w3.heap[x]? = w.heap[x]? := (hg.block x (by simp; omega) (by simp; omega)).trans (Go.heap_alloc_old w o hx)
  exact ⟨(World.cell?_of_block (w := w) hb).trans d0, (World.cell?_of_block (w := w) hb).trans d1⟩

set_option maxRecDepth 100000 in
set_option maxHeartbeats 1000000 in
theorem xtake_yes (x n : Nat) (w : World) (bs : List Int) (a : Nat) (hz : bs.length ≤ 140737488355328) (h : XR w x bs a 0 M) (hn : 0 < n) (hc : a + n ≤ bs.length) :
    Calls Tryd.prog 48 #[.pointer (some ⟨x, 0, none⟩), .int .i64 n] w fun y w' => ∃ v, y = .returned v ∧ Chg [x] w w' ∧ XR w' x bs (a + n) 0 M ∧ w'.ownsRow w.heap.size 5 1 v n (bys ((bs.drop a).take n)) := by
  obtain ⟨i0, hi, hz0, hz1, hz2⟩ := info_u8
  have H := Lib.hid h
  obtain ⟨v, h1, h2, h3, h4, h5⟩ := h
  obtain ⟨ao, cap, rfl, hc1, hc2⟩ := h2.shape
  rw [bys_length] at h2 hc1 h1
  obtain ⟨c0, c1, c2, f0, f1, f2⟩ := cells3 h1
  have hxlt := Go.lt_of_block h1
  clear h1 h3 h4
  have hw : IntKind.i64.wrap ((bs.length : Int) - a) = (bs.length : Int) - a := IntWalk.i64_in _ (by omega)
  have hcn : ¬ ((bs.length : Int) - a < n) := by omega
  go_enter Tryd.func48, Tryd.ntmps48
  go_wp2
  go_quiet (fail)
  clear hw
  go_wp2
  have HR := Lib.hid h2
  clear h2
  have hX2 : ∃ W2, W2 = (w.drewN nq).setCell ⟨x, 1, none⟩ (.int .i64 ((a : Int) + n)) ∧ Chg [x] w W2 ∧ XR W2 x bs (a + n) 0 M ∧ W2.cell? ⟨x, 0, none⟩ = some (.slice ao bs.length cap) ∧ W2.cell? ⟨x, 1, none⟩ = some (.int .i64 ((a : Int) + n)) ∧ Reads W2 (.slice ao bs.length cap) (bys bs) := by
    refine ⟨_, rfl, ((Chg.refl [x] w).drewN nq).setCell (by simp) _, ?_, ?_, ?_, ?_⟩
    · have := (H.out.keep0 ((Chg.refl [] w).drewN nq)).set1 (a' := a + n) hc
      rw [show ((a + n : Nat) : Int) = (a : Int) + n from by omega] at this
      exact this
    · rw [World.cell?_setCell_other _ _ _ _ (by simp)]; exact c0
    · exact World.cell?_setCell_same _ _ _ (u := .int .i64 a) c1
    · have hX := H.out
      obtain ⟨v', q1, q2, q3, q4, q5⟩ := hX
      have hn := q3.ne q1 (by decide)
      have e0 : v' = .slice ao bs.length cap := by
        have := (cells3 q1).1
        rw [c0] at this
        injection this with this
        exact this.symm
      rw [e0] at hn
      exact HR.out.keep (((Chg.refl [x] w).drewN nq).setCell (by simp) _) (fun g hg => by simpa using hn g hg)
  obtain ⟨W2, hW2, C2, X2, d0, d1, R2⟩ := hX2
  rw [← hW2]
  have HC2 := Lib.hid C2; have HX2 := Lib.hid X2
  clear hW2 C2 X2 c0 c1 c2 f0 f1 f2 hxlt
  have hx2 := HX2.out.lt
  have hone := Lib.hid (bys_one ((bs.drop a).take n))
  have hln0 : (bys ((bs.drop a).take n)).length = n := by simp; omega
  have hln := Lib.hid hln0; clear hln0
  have hmx : n ≤ maxLen := by unfold maxLen; omega
  obtain ⟨sv, s1, s2⟩ := run_slice_seen R2.seen hc1 a (a + n) (by omega) hc
  have e3 : ((bys bs).take (a + n)).drop a = bys ((bs.drop a).take n) := by simp only [bys, List.map_take, List.map_drop, List.drop_take, Nat.add_sub_cancel_left]
  rw [e3] at s1
  rw [show ((a + n : Nat) : Int) = (a : Int) + (n : Int) from by omega] at s2
  clear e3 R2
  have hw1 : IntKind.i64.wrap ((a : Int) + n - n) = (a : Int) := by rw [Int.add_sub_cancel]; exact IntWalk.i64_in _ (by omega)
  have hw2 : IntKind.i64.wrap (a : Int) = (a : Int) := IntWalk.i64_in _ (by omega)
  have HS1 := Lib.hid (s1.keep (((Chg.refl [] W2).alloc (.cells #[] 5)).drew))
  clear s1
  have ho0 : (W2.alloc (.cells #[] 5)).drew.ownsRow W2.heap.size 5 1 (.slice (some ⟨W2.heap.size, 0, none⟩) 0 0) 0 [] := World.ownsRow_made (base := W2.heap.size) (e := 5) (size := 1) W2.drew #[] 0 (Nat.le_refl _) (by simp) rfl
  have ho := Lib.hid ho0; clear ho0
  have hb1 : 0 + (bys ((bs.drop a).take n)).length ≤ maxLen := by rw [hln.out]; omega
  have hb2 : (0 + (bys ((bs.drop a).take n)).length) * 1 ≤ 140737488355328 := by rw [hln.out]; omega
  have hb3 : W2.heap.size ≤ (W2.alloc (.cells #[] 5)).drew.heap.size := by simp
  have HB1 := Lib.hid hb1; have HB2 := Lib.hid hb2; have HB3 := Lib.hid hb3
  clear hb1 hb2 hb3
  go_region_held3 (fun w' => w'.cell? ⟨x, 0, none⟩ = some (.slice ao bs.length cap) ∧ w'.cell? ⟨x, 1, none⟩ = some (.int .i64 ((a : Int) + n)))
    (first | go_keep | (go_split_ands; refine ⟨?_, ?_⟩ <;> (rw [hgrow.cell_far _ (by simp; omega) (by simp [Value.ownBlock]; omega)]; assumption)))
    ((refine step_append_reads (by rfl) (.tmp 37) (.tmp 52) 26 26 (by rfl) W2.heap.size 5 5 i0 (.int .u8 0) 1 Tryd.underlying26 Tryd.underlying26 hi hz0 hz1 hz2 (by rfl) (.slice (some ⟨W2.heap.size, 0, none⟩) 0 0) 0 [] (by rfl) ho.out sv (bys ((bs.drop a).take n)) (by rfl) HS1.out hone.out HB1.out HB2.out HB3.out ?_; intro v' w3 hown hgrow; rw [hln.out, Nat.zero_add, List.nil_append] at hown; obtain ⟨ao', cap', rfl⟩ := own_shape hown))
  have hc3 : Chg [] W2 w3 := (((Chg.refl [] W2).alloc (.cells #[] 5)).drew).grown hgrow (fun k hk => .inr (by simp [Value.ownBlock] at hk; omega))
  have HC3 := Lib.hid hc3; have HO3 := Lib.hid hown
  clear hgrow hown hc3
  go_wp2
  go_ret
  exact ⟨_, rfl, HC2.out.trans HC3.out (by simp), HX2.out.keep0 HC3.out, own_mono HO3.out HC2.out.size⟩

end
end Go.Proofs.YtohgnbgijleoaaaDoor
