/- Contracts of cursor's Reader: what a Reader holds, and what each method makes of it. -/
import Derived.Test.YtegidbbigjhapaaCur
namespace Go.Proofs.Ytegidbbigjhapaa
open Go.RowKit
set_option linter.unusedVariables false

/-- Bytes as cells. -/
def bys (zs : List Int) : List Value := zs.map (Value.int .u8)
@[simp] theorem bys_length (zs : List Int) : (bys zs).length = zs.length := by simp [bys]
theorem bys_get {zs : List Int} {j : Nat} {z : Int} (h : zs[j]? = some z) : (bys zs)[j]? = some (.int .u8 z) := by simp [bys, h]

theorem run_slice_seen {w : World} {ao : Option Addr} {len cap : Nat} {xs : List Value} (h : Seen w (.slice ao len cap) xs) (hc : len ≤ cap) (lo hi : Nat) (h1 : lo ≤ hi) (h2 : hi ≤ len) :
    ∃ sv, Seen w sv ((xs.take hi).drop lo) ∧ ∀ wx, (Instr.slice 34 (.slice ao len cap) (some (.int .i64 (lo : Int))) (some (.int .i64 (hi : Int))) none).run Try.prog wx = .ok sv wx := by
  refine ⟨_, h.sliced lo hi h1 h2, fun wx => ?_⟩
  obtain ⟨i0, hi0, _, hz1, _⟩ := info_u8
  rw [run_slice_lh wx 34 ao len cap (by rw [elem_bytes]; exact Try.underlying34) .i64 .i64 lo hi (by omega) (by omega) (by omega), elem_bytes]
  simp [sizeOf, typeInfo, hi0, hz1]

theorem run_convert_seen {P : Program} {w : World} {v : Value} {zs : List Int} (h : Seen w v (bys zs)) (src dst e : TypeId) (hs : P.underlying src = some (.slice e)) (he : P.underlying e = some (.int .u8)) (hd : P.underlying dst = some .string) :
    (convert src dst v).run P w = .ok (.string (strOfNums zs)) w := by
  rcases h with ⟨rfl, h0⟩ | ⟨a, cap, rfl, _, _, hc⟩
  · have : zs = [] := by simpa [bys] using h0
    subst this
    exact run_convert_bytes_nil w src e hs he 0 0 dst hd
  · have hl : (loadCells a (bys zs).length).run P w = .ok (zs.map (Value.int .u8)).toArray w := run_loadCells_list (P := P) w a (bys zs) (fun j v hj => hc j v hj)
    rw [run_convert_bytes_string w src dst e _ _ cap hs he hd, run_bytesToString w _ _ cap zs hl, foldl_push_bytes]
    simp [strOfNums, ByteArray.empty, ByteArray.emptyWithCapacity]
    rfl

/-- The Reader at block r has still to read zs, its error is e; its bytes lie below block M. -/
def Rd (w : World) (r : Nat) (zs : List Int) (e : Int) (M : Nat) : Prop :=
  ∃ v, w.heap[r]? = some (.cells #[v, .int .i64 e] 112 (0, 0)) ∧ Reads w v (bys zs) ∧ Tagged w 5 v ∧ ∀ g, v.ownBlock = some g → g < M

section
variable {M M' : Nat}

theorem Rd.lt {w : World} {r : Nat} {zs : List Int} {e : Int} (h : Rd w r zs e M) : r < w.heap.size := by
  obtain ⟨v, h1, _⟩ := h
  exact Go.lt_of_block h1

theorem Rd.keep0 {w w' : World} {r : Nat} {zs : List Int} {e : Int} (h : Rd w r zs e M) (hc : Chg [] w w') : Rd w' r zs e M := by
  obtain ⟨v, h1, h2, h3, h4⟩ := h
  exact ⟨v, hc.heap h1 (by simp), h2.keep hc (by simp), h3.keep hc (by simp), h4⟩

theorem Rd.mono {w : World} {r : Nat} {zs : List Int} {e : Int} (h : Rd w r zs e M) (hm : M ≤ M') : Rd w r zs e M' := by
  obtain ⟨v, h1, h2, h3, h4⟩ := h
  exact ⟨v, h1, h2, h3, fun g hg => Nat.lt_of_lt_of_le (h4 g hg) hm⟩

theorem Rd.keepHigh {w w' : World} {r k : Nat} {zs : List Int} {e : Int} (h : Rd w r zs e M) (hc : Chg [k] w w') (hk : M ≤ k) (hne : r ≠ k) : Rd w' r zs e M := by
  obtain ⟨v, h1, h2, h3, h4⟩ := h
  have hg : ∀ g, v.ownBlock = some g → g ∉ [k] := fun g hg => by have := h4 g hg; simp; omega
  exact ⟨v, hc.heap h1 (by simpa using hne), h2.keep hc hg, h3.keep hc hg, h4⟩

theorem Rd.keep1 {w w' : World} {r s : Nat} {zs zs' : List Int} {e e' : Int} (h : Rd w r zs e M) (hs : Rd w s zs' e' M') (hc : Chg [s] w w') (hne : r ≠ s) : Rd w' r zs e M := by
  obtain ⟨v, h1, h2, h3, h4⟩ := h
  obtain ⟨v', h1', h2', h3', _⟩ := hs
  have hn := h3.ne h1' (by decide)
  exact ⟨v, hc.heap h1 (by simpa using hne), h2.keep hc (fun g hg => by simpa using hn g hg), h3.keep hc (fun g hg => by simpa using hn g hg), h4⟩

set_option maxHeartbeats 400000 in
theorem end_any (r : Nat) (zs : List Int) (e : Int) (w : World) (hz : zs.length ≤ 140737488355328) (h : Rd w r zs e M) :
    Calls Try.prog 78 #[.pointer (some ⟨r, 0, none⟩)] w fun x w' => x = .returned (.int .i64 (if zs = [] then e else 9)) ∧ w = w' := by
  obtain ⟨v, h1, h2, h3, h4⟩ := h
  obtain ⟨ao, cap, rfl, hc1, hc2⟩ := h2.shape
  obtain ⟨c0, c1, f0, f1⟩ := cells2 h1
  simp only [bys_length] at c0 hc1
  clear h1 h2 h3 h4
  rcases zs with _ | ⟨z, zs⟩
  · rw [if_pos rfl]
    go_enter Try.func78, Try.ntmps78
    go_wp2
    go_ret
    exact ⟨rfl, rfl⟩
  · rw [if_neg (by simp)]
    simp only [List.length_cons] at c0 hz
    go_enter Try.func78, Try.ntmps78
    go_wp2
    go_ret
    exact ⟨rfl, rfl⟩

theorem Rd.setRest {w : World} {r : Nat} {v0 v : Value} {e : Int} {zs : List Int} (h1 : w.heap[r]? = some (.cells #[v0, .int .i64 e] 112 (0, 0))) (hr : Reads w v (bys zs)) (ht : Tagged w 5 v) (hM : ∀ g, v.ownBlock = some g → g < M) : Rd (w.setCell ⟨r, 0, none⟩ v) r zs e M := by
  have hn := ht.ne h1 (by decide)
  have hg : Chg [r] w (w.setCell ⟨r, 0, none⟩ v) := (Chg.refl _ _).setCell (by simp) _
  exact ⟨v, set20 h1 _, hr.keep hg (fun g hg => by simpa using hn g hg), ht.keep hg (fun g hg => by simpa using hn g hg), hM⟩

theorem Tagged.sub {w : World} {T : TypeId} {v v' : Value} (h : Tagged w T v) (hs : ∀ g, v'.ownBlock = some g → v.ownBlock = some g) : Tagged w T v' := fun g hg => h g (hs g hg)

/-- What is left of a Reader's bytes behind the first k. -/
theorem Rd.dropped {w : World} {r : Nat} {ao : Option Addr} {len cap k : Nat} {e : Int} {zs : List Int} (h1 : w.heap[r]? = some (.cells #[.slice ao len cap, .int .i64 e] 112 (0, 0)))
    (hr : Reads w (.slice ao len cap) (bys zs)) (ht : Tagged w 5 (.slice ao len cap)) (hM : ∀ g, (Value.slice ao len cap).ownBlock = some g → g < M) (hlen : len = zs.length) (hk : k ≤ len) : Rd (w.setCell ⟨r, 0, none⟩ (sliced ao k len cap 1)) r (zs.drop k) e M := by
  obtain ⟨a, b⟩ := hr.sliced k len hk (by omega)
  have e1 : (List.drop k ((bys zs).take len)) = bys (zs.drop k) := by
    rw [List.take_of_length_le (by simp; omega)]
    simp [bys]
  rw [e1] at a
  exact Rd.setRest h1 a (ht.sub b) (fun g hg => hM g (b g hg))

set_option maxHeartbeats 400000 in
theorem step_any (r : Nat) (z e0 : Int) (zs : List Int) (w : World) (hz : zs.length ≤ 140737488355328) (h : Rd w r (z :: zs) e0 M) :
    Calls Try.prog 83 #[.pointer (some ⟨r, 0, none⟩)] w fun x w' => x = .returned (.int .u8 z) ∧ Chg [r] w w' ∧ Rd w' r zs e0 M := by
  obtain ⟨v, h1, h2, h3, h4⟩ := h
  obtain ⟨c0, c1, f0, f1⟩ := cells2 h1
  have h20 := h2
  rcases h2 with ⟨rfl, h2⟩ | ⟨g, off, cap, rfl, hl, hm, hcell⟩
  · simp [bys] at h2
  simp only [bys_length, List.length_cons] at c0 hl h1 h3 h4 h20
  have H4 := Lib.hid h4; clear h4
  have H2 := Lib.hid h20; clear h20
  have hd : w.cell? ⟨g, off, none⟩ = some (.int .u8 z) := by simpa using hcell 0 _ (bys_get (zs := z :: zs) (j := 0) rfl)
  have H1 := Lib.hid h1; clear h1
  have HC := Lib.hid hcell; clear hcell
  have H3 := Lib.hid h3; clear h3
  by_cases hc : cap = 1
  · subst hc
    go_enter Try.func83, Try.ntmps83
    go_wp2
    go_ret
    refine ⟨rfl, (Chg.refl _ _).setCell (by simp) _, ?_⟩
    have hd := Rd.dropped (k := 1) H1.out H2.out H3.out H4.out rfl (by omega)
    simpa [Go.sliced, (show zs.length = 0 by omega)] using hd
  · have hc' := Lib.hid hc; clear hc
    go_enter Try.func83, Try.ntmps83
    go_wp2
    go_ret
    refine ⟨rfl, (Chg.refl _ _).setCell (by simp) _, ?_⟩
    have hd := Rd.dropped (k := 1) H1.out H2.out H3.out H4.out rfl (by omega)
    simpa [Go.sliced, Addr.add, hc'.out] using hd

/-! ### Fail, has -/

set_option maxHeartbeats 400000 in
theorem fail_kept (r : Nat) (e0 e : Int) (w : World) (zs : List Int) (h : Rd w r zs e0 M) (he : e0 ≠ 0 ∨ e = 0) :
    Calls Try.prog 85 #[.pointer (some ⟨r, 0, none⟩), .int .i64 e] w fun x w' => x = .returned (.tuple #[]) ∧ w = w' := by
  obtain ⟨v, h1, h2, h3, h4⟩ := h
  obtain ⟨c0, c1, f0, f1⟩ := cells2 h1
  clear h1 h2 h3 h4
  by_cases h0 : e0 = 0
  · subst h0
    obtain rfl : e = 0 := by omega
    clear he
    go_enter Try.func85, Try.ntmps85
    go_wp2
    refine bodyPost_ret (results_none rfl _ _ _) rfl ?_
    exact ⟨rfl, rfl⟩
  · have hb : (e0 == 0) = false := by simpa using h0
    clear h0 he
    go_enter Try.func85, Try.ntmps85
    go_wp2
    refine bodyPost_ret (results_none rfl _ _ _) rfl ?_
    exact ⟨rfl, rfl⟩

set_option maxHeartbeats 400000 in
theorem fail_set (r : Nat) (e : Int) (w : World) (zs : List Int) (h : Rd w r zs 0 M) (he : e ≠ 0) :
    Calls Try.prog 85 #[.pointer (some ⟨r, 0, none⟩), .int .i64 e] w fun x w' => x = .returned (.tuple #[]) ∧ Chg [r] w w' ∧ Rd w' r [] e 0 := by
  obtain ⟨v, h1, h2, h3, h4⟩ := h
  obtain ⟨c0, c1, f0, f1⟩ := cells2 h1
  have hb : (e == 0) = false := by simpa using he
  have H1 := Lib.hid h1
  clear h1 h2 h3 h4 he
  go_enter Try.func85, Try.ntmps85
  go_wp2
  go_end0
  exact ⟨rfl, ((Chg.refl _ _).setCell (by simp) _).setCell (by simp) _, _, set20 (set21 H1.out _) _, Reads.nil _, tagged_nil _ _, by simp [Value.ownBlock]⟩

set_option maxHeartbeats 400000 in
theorem has_yes (r : Nat) (n e0 : Int) (w : World) (zs : List Int) (hz : zs.length ≤ 140737488355328) (h : Rd w r zs e0 M) (hn : n ≤ zs.length) :
    Calls Try.prog 82 #[.pointer (some ⟨r, 0, none⟩), .int .i64 n] w fun x w' => x = .returned (.bool true) ∧ w = w' := by
  obtain ⟨v, h1, h2, h3, h4⟩ := h
  obtain ⟨ao, cap, rfl, hc1, hc2⟩ := h2.shape
  obtain ⟨c0, c1, f0, f1⟩ := cells2 h1
  simp only [bys_length] at c0 hc1
  clear h1 h2 h3 h4
  go_enter Try.func82, Try.ntmps82
  go_wp2
  go_ret
  exact ⟨rfl, rfl⟩

/-- What a call leaves of a Reader that has too few bytes. -/
def Cut (r : Nat) (e0 : Int) (M : Nat) (w w' : World) : Prop := Chg [r] w w' ∧ Rd w' r [] (if e0 = 0 then 8 else e0) M

set_option maxHeartbeats 400000 in
theorem has_no (r : Nat) (n e0 : Int) (w : World) (zs : List Int) (hz : zs.length ≤ 140737488355328) (h : Rd w r zs e0 M) (he : e0 ≠ 0 → zs = []) (hn : zs.length < n) :
    Calls Try.prog 82 #[.pointer (some ⟨r, 0, none⟩), .int .i64 n] w fun x w' => x = .returned (.bool false) ∧ Cut r e0 M w w' := by
  have H := Lib.hid h
  obtain ⟨v, h1, h2, h3, h4⟩ := h
  obtain ⟨ao, cap, rfl, hc1, hc2⟩ := h2.shape
  obtain ⟨c0, c1, f0, f1⟩ := cells2 h1
  simp only [bys_length] at c0 hc1
  clear h1 h2 h3 h4
  by_cases h0 : e0 = 0
  · subst h0
    clear he
    go_enter Try.func82, Try.ntmps82
    go_wp2_with fail
    refine (fail_set r 8 _ _ H.out (by decide)).mono ?_
    rintro x w1 ⟨rfl, g1, g2⟩
    go_wp2
    go_ret
    exact ⟨rfl, g1, g2.mono (Nat.zero_le _)⟩
  · have he' : zs = [] := he h0
    subst he'
    have H0 := Lib.hid h0
    clear h0 he
    go_enter Try.func82, Try.ntmps82
    go_wp2_with fail
    refine (fail_kept r e0 8 _ _ H.out (.inl H0.out)).mono ?_
    rintro x w1 ⟨rfl, rfl⟩
    go_wp2
    go_ret
    exact ⟨rfl, Chg.refl _ _, by rw [if_neg H0.out]; exact H.out⟩

/-! ### New -/

/-- A new Reader of zs. -/
def Newed (zs : List Int) (w : World) (x : Ending) (w' : World) : Prop :=
  ∃ r, x = .returned (.pointer (some ⟨r, 0, none⟩)) ∧ Chg [] w w' ∧ w.heap.size ≤ r ∧ Rd w' r zs 0 w'.heap.size

theorem bys_one (zs : List Int) : ∀ u ∈ bys zs, u.oneCell' = true := by
  intro u hu
  simp [bys] at hu
  obtain ⟨z, _, rfl⟩ := hu
  rfl

set_option maxHeartbeats 400000 in
theorem new_any (bv : Value) (zs : List Int) (w : World) (hz : zs.length ≤ 140737488355328) (h : Seen w bv (bys zs)) :
    Calls Try.prog 76 #[bv] w fun x w' => Newed zs w x w' := by
  obtain ⟨i0, hi, hz0, hz1, hz2⟩ := info_u8
  have hone := Lib.hid (bys_one zs)
  have hm : zs.length ≤ maxLen := by unfold maxLen; omega
  have HR := Lib.hid h
  obtain ⟨ao, cap, rfl, hc1, hc2⟩ := h.shape
  clear h
  go_enter Try.func76, Try.ntmps76
  go_wp2_with (at_builtin; refine wpList_append_reads _ rfl _ _ 34 34 rfl w.heap.size 5 5 i0 (.int .u8 0) 1 Try.underlying34 Try.underlying34 hi hz0 hz1 hz2 rfl _ _ _ rfl (World.ownsRow_nil _ _ _ _) _ (bys zs) rfl HR.out hone.out ?c1 ?c2 ?c3 ?_)
  case c1 => simpa using hm
  case c2 => simp; omega
  case c3 => exact Nat.le_refl _
  intro v' w1 hown hgrow
  have hc := Lib.hid ((Chg.refl [] w).grown hgrow (by simp [Value.ownBlock]))
  obtain ⟨ao', cap', hv⟩ := own_shape hown
  rw [hv]
  have HO1 := Lib.hid hown; clear hown
  have HV := Lib.hid hv; clear hv hgrow hz1 hz2 hz0 hi
  go_wp2
  go_ret
  have hb := heap_alloc_new w1 (.cells #[v', .int .i64 0] 112)
  have hk : Chg [] w1 (w1.alloc (.cells #[v', .int .i64 0] 112)) := (Chg.refl _ _).alloc _
  rw [← HV.out]
  exact ⟨_, rfl, hc.out.alloc _, hc.out.size, v', hb, (reads_of_own HO1.out).keep hk (by simp), (tagged_of_own HO1.out).keep hk (by simp), fun g hg => Nat.lt_of_lt_of_le ((tagged_of_own HO1.out).lt g hg) hk.size⟩

end
end Go.Proofs.Ytegidbbigjhapaa
