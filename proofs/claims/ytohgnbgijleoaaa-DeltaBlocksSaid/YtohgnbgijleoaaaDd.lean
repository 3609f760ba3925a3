/- delta: the reader of numbers: how it stands; signed, width, take. -/
import Derived.Test.YtohgnbgijleoaaaDb
import Derived.Test.YtohgnbgijleoaaaCur
import Derived.Test.YtohgnbgijleoaaaGq
import Derived.Test.YtohgnbgijleoaaaMp
namespace Go.Proofs.Ytohgnbgijleoaaa
open Go.RowKit
set_option linter.unusedVariables false
set_option linter.unusedSimpArgs false

/-- The reader of numbers stands. -/
structure DR (w0 w : World) (gr B : Nat) (b : List Nat) (l : List Int) : Prop where
  c0 : Chg [] w0 w
  g0 : w0.heap.size ≤ gr
  g1 : gr < B
  lB : B ≤ w.heap.size
  by' : ∀ x ∈ b, x < 2 ^ 8
  bl : b.length ≤ 1000000000
  st : ∃ bv lv, w.heap[gr]? = some (.cells #[bv, lv] 41 (0, 0)) ∧ Seen w0 bv (nv .u8 b) ∧ w.ownsRow B 3 1 lv l.length (iv l)

theorem DR.keep {w0 w w' : World} {gr B : Nat} {b : List Nat} {l : List Int} (h : DR w0 w gr B b l) (hc : Chg [] w w') : DR w0 w' gr B b l := by
  obtain ⟨bv, lv, h1, h2, h3⟩ := h.st
  exact ⟨h.c0.trans hc (by simp), h.g0, h.g1, Nat.le_trans h.lB hc.size, h.by', h.bl, bv, lv, hc.heap h1 (by simp), h2, own_chg h3 hc (by simp)⟩

/-- The row of the reader is not its box. -/
theorem own_notin {w : World} {B T s n g : Nat} {v : Value} {xs : List Value} (h : w.ownsRow B T s v n xs) (hg : g < B) : ∀ k, v.ownBlock = some k → k ∉ [g] := fun k hk hm => by
  have := own_ge h k hk
  simp at hm
  omega

/-- What is left to be read was set. -/
theorem DR.set0 {w0 w : World} {gr B : Nat} {b b' : List Nat} {l : List Int} (h : DR w0 w gr B b l) {x : Value} (hx : Seen w0 x (nv .u8 b')) (hb : ∀ x ∈ b', x < 2 ^ 8) (hl : b'.length ≤ 1000000000) : DR w0 (w.setCell ⟨gr, 0, none⟩ x) gr B b' l := by
  obtain ⟨bv, lv, h1, h2, h3⟩ := h.st
  have hc : Chg [gr] w (w.setCell ⟨gr, 0, none⟩ x) := (Chg.refl [gr] w).setCell (.inl (by simp)) x
  exact ⟨h.c0.setCell (.inr h.g0) x, h.g0, h.g1, Nat.le_trans h.lB hc.size, hb, hl, x, lv, set20 h1 x, hx, own_chg h3 hc (own_notin h3 h.g1)⟩

set_option maxRecDepth 100000 in
set_option maxHeartbeats 2000000 in
theorem drsigned_any {w0 w : World} {gr B : Nat} {b : List Nat} {l : List Int} (h : DR w0 w gr B b l) :
    Calls Try.prog 36 #[.pointer (some ⟨gr, 0, none⟩)] w fun e w' => e = .returned (.tuple #[.int .i64 (zagOf (gv b)), .int .i64 ((gl 0 b).2 : Nat)]) ∧ DR w0 w' gr B (b.drop (gl 0 b).1) l := by
  obtain ⟨bv, lv, h1, h2, h3⟩ := h.st
  have HB := Lib.hid h
  obtain ⟨ao, cap, rfl, hc1, hc2⟩ := h2.shape
  rw [nv_length] at h1 h2 hc1
  have hgl := gl_zero 0 b
  have hgl2 := gl_len 0 b (by omega)
  obtain ⟨no, nc, hns, hnr⟩ := run_back h2 rfl hc1 (gl 0 b).1 (by
    by_cases he : (gl 0 b).2 = 0
    · exact (hgl2 he).2.1
    · rw [hgl he]; exact Nat.zero_le _)
  have HGET := Lib.hid (get_any _ b w (h2.keep h.c0) h.by')
  unfold GetOut at HGET
  have hgv := gv_lt b h.by'
  have HZ := Lib.hid (fun wx => zag_any (gv b) wx hgv)
  obtain ⟨v, hv⟩ : ∃ v, v = gv b := ⟨_, rfl⟩
  obtain ⟨N, hN⟩ : ∃ N, N = (gl 0 b).1 := ⟨_, rfl⟩
  obtain ⟨e, he⟩ : ∃ e, e = (gl 0 b).2 := ⟨_, rfl⟩
  rw [← hv, ← hN, ← he] at HGET
  rw [← hv] at HZ
  rw [← hN] at hns hnr
  rw [← hv, ← hN, ← he]
  have HNS := Lib.hid hns
  have HK := Lib.hid (fun w' (hc : Chg [] w w') => cells2 (hc.heap h1 (by simp)))
  obtain ⟨c0, c1, f0, f1⟩ := cells2 h1
  clear h h1 h2 h3 hgl hgl2 hgv hv hN he hns
  go_enter Try.func36, Try.ntmps36
  go_wp2_with (first
    | (go_at_call 45; (with_reducible refine HGET.out.mono ?_); rintro e w2 ⟨rfl, hc⟩; obtain ⟨q0, q1, q2, q3⟩ := HK.out _ hc; have HC := Lib.hid hc; clear hc c0 c1 f0 f1)
    | (go_at_call 46; (with_reducible refine (HZ.out _).mono ?_); rintro e w3 ⟨rfl, rfl⟩)
    | fail)
  go_ret2
  exact ⟨rfl, (HB.out.keep HC.out).set0 HNS.out (fun x hx => HB.out.by' x (List.mem_of_mem_drop hx)) (by have := HB.out.bl; rw [List.length_drop]; omega)⟩

/-- What width answers: the number, the error. -/
def wdO (b : List Nat) : Nat × Nat := if b = [] then (0, 8) else if 64 < b.getD 0 0 then (0, 10) else (b.getD 0 0, 0)

set_option maxRecDepth 100000 in
set_option maxHeartbeats 2000000 in
theorem drwidth_any {w0 w : World} {gr B : Nat} {b : List Nat} {l : List Int} (h : DR w0 w gr B b l) :
    Calls Try.prog 47 #[.pointer (some ⟨gr, 0, none⟩)] w fun e w' => e = .returned (.tuple #[.int .i64 ((wdO b).1 : Nat), .int .i64 ((wdO b).2 : Nat)]) ∧ DR w0 w' gr B (b.drop 1) l := by
  obtain ⟨bv, lv, h1, h2, h3⟩ := h.st
  have HB := Lib.hid h
  obtain ⟨ao, cap, rfl, hc1, hc2⟩ := h2.shape
  rw [nv_length] at h1 h2 hc1
  obtain ⟨c0, c1, f0, f1⟩ := cells2 h1
  by_cases hb0 : b = []
  · subst hb0
    have E := Lib.hid (show wdO [] = (0, 8) from rfl)
    rw [E.out]
    simp only [List.length_nil] at c0
    have hb : ((0 : Int) == 0) = true := rfl
    clear h h1 h2 h3
    go_enter Try.func47, Try.ntmps47
    go_wp2
    go_ret2
    exact ⟨rfl, HB.out⟩
  have hp : 0 < b.length := List.length_pos_iff.2 hb0
  obtain ⟨no, nc, hns, hnr⟩ := run_back h2 rfl hc1 1 hp
  rw [show ((1 : Nat) : Int) = 1 from rfl] at hnr
  obtain ⟨g, off, hao, hcell⟩ := h2.at0 rfl hp
  subst hao
  have x0 := h.c0.cell (hcell 0 hp) (by simp)
  rw [Nat.add_zero] at x0
  obtain ⟨x, hx⟩ : ∃ x, x = b.getD 0 0 := ⟨_, rfl⟩
  have hx8 : x < 256 := by rw [hx]; exact h.by' _ (getD_mem hp)
  rw [← hx] at x0
  have hcx : IntKind.i64.wrap (x : Int) = (x : Int) := IntWalk.i64_in _ (by omega)
  have HNS := Lib.hid (show DR w0 (w.setCell ⟨gr, 0, none⟩ (.slice no (b.length - 1) nc)) gr B (b.drop 1) l from h.set0 hns (fun x hx => h.by' x (List.mem_of_mem_drop hx)) (by have := h.bl; rw [List.length_drop]; omega))
  have hbe : ((b.length : Int) == 0) = false := by simp; omega
  obtain ⟨n, hn⟩ : ∃ n, n = b.length := ⟨_, rfl⟩
  have hwd : wdO b = if 64 < x then (0, 10) else (x, 0) := by unfold wdO; rw [if_neg hb0, ← hx]
  rw [← hn] at c0 hnr HNS hbe hp
  by_cases h64 : 64 < x
  · have E := Lib.hid (show wdO b = (0, 10) by rw [hwd, if_pos h64])
    rw [E.out]
    have d1 : decide ((64 : Int) < (x : Int)) = true := by simp; omega
    clear h h1 h2 h3 hns hcell hx hn hwd hb0
    go_enter Try.func47, Try.ntmps47
    go_wp2
    go_ret2
    exact ⟨rfl, HNS.out⟩
  · have E := Lib.hid (show wdO b = (x, 0) by rw [hwd, if_neg h64])
    rw [E.out]
    have d1 : decide ((64 : Int) < (x : Int)) = false := by simp; omega
    clear h h1 h2 h3 hns hcell hx hn hwd hb0
    go_enter Try.func47, Try.ntmps47
    go_wp2
    go_ret2
    exact ⟨rfl, HNS.out⟩

set_option maxRecDepth 100000 in
set_option maxHeartbeats 2000000 in
theorem drtake_any {w0 w : World} {gr B : Nat} {b : List Nat} {l : List Int} (h : DR w0 w gr B b l) (n : Nat) (hn : n ≤ 4611686018427387000) :
    Calls Try.prog 49 #[.pointer (some ⟨gr, 0, none⟩), .int .i64 (n : Int)] w fun e w' => ∃ v, e = .returned v ∧ Seen w0 v (nv .u8 (b.take ((n + 7) / 8))) ∧ DR w0 w' gr B (b.drop ((n + 7) / 8)) l := by
  obtain ⟨bv, lv, h1, h2, h3⟩ := h.st
  have HB := Lib.hid h
  obtain ⟨ao, cap, rfl, hc1, hc2⟩ := h2.shape
  rw [nv_length] at h1 h2 hc1
  obtain ⟨c0, c1, f0, f1⟩ := cells2 h1
  obtain ⟨m, hm⟩ : ∃ m, m = min ((n + 7) / 8) b.length := ⟨_, rfl⟩
  have hmb : m ≤ b.length := by omega
  have et : b.take ((n + 7) / 8) = b.take m := by
    rw [hm]
    by_cases hle : (n + 7) / 8 ≤ b.length
    · rw [Nat.min_eq_left hle]
    · rw [Nat.min_eq_right (by omega), List.take_of_length_le (by omega), List.take_of_length_le (Nat.le_refl _)]
  have ed : b.drop ((n + 7) / 8) = b.drop m := by
    rw [hm]
    by_cases hle : (n + 7) / 8 ≤ b.length
    · rw [Nat.min_eq_left hle]
    · rw [Nat.min_eq_right (by omega), List.drop_of_length_le (by omega), List.drop_of_length_le (Nat.le_refl _)]
  rw [et, ed]
  obtain ⟨no, nc, hns, hnr⟩ := run_back h2 rfl hc1 m hmb
  obtain ⟨fo, fc, hfs, hfr⟩ := run_front h2 hc1 m hmb
  have HFS := Lib.hid hfs
  have HNS := Lib.hid (fun (wx : World) (hc : Chg [] w wx) => (h.keep hc).set0 hns (fun x hx => h.by' x (List.mem_of_mem_drop hx)) (by have := h.bl; rw [List.length_drop]; omega))
  have hw1 : IntKind.i64.wrap ((n : Int) + 8) = (n : Int) + 8 := IntWalk.i64_in _ (by omega)
  obtain ⟨t, ht⟩ : ∃ t, t = (n + 7) / 8 := ⟨_, rfl⟩
  rw [← ht] at hm
  obtain ⟨N7, hN7⟩ : ∃ N7, N7 = n + 7 := ⟨_, rfl⟩
  have hw2 : IntKind.i64.wrap ((n : Int) + 8 - 1) = (N7 : Int) := by rw [show (n : Int) + 8 - 1 = (N7 : Int) by omega]; exact IntWalk.i64_in _ (by omega)
  have hw3 : (N7 : Int).tdiv 8 = (t : Int) := by rw [Int.tdiv_eq_ediv_of_nonneg (by omega)]; omega
  have hw4 : IntKind.i64.wrap (t : Int) = (t : Int) := IntWalk.i64_in _ (by omega)
  obtain ⟨L, hL⟩ : ∃ L, L = b.length := ⟨_, rfl⟩
  rw [← hL] at c0 hm hnr hfr hmb HNS
  have hmin : min (t : Int) (L : Int) = (m : Int) := by omega
  have HCL := Lib.hid (fun w' (hc : Chg [] w w') => cells2 (hc.heap h1 (by simp)))
  clear h h1 h2 h3 hns hfs et ed hm ht hL hc1 hc2 hN7
  go_enter Try.func49, Try.ntmps49
  go_wp2
  go_quiet (fail)
  go_wp2
  go_ret
  exact ⟨_, rfl, HFS.out, HNS.out _ ((Chg.refl [] w).drewN _)⟩

end Go.Proofs.Ytohgnbgijleoaaa
