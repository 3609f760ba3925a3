/- Dd, De, Df: texts of one group, one behind the other. -/
import Derived.Test.YtohgnbgijleoaaaDoorE1
import Derived.Test.YtohgnbgijleoaaaDoorCur
import Derived.Test.YtohgnbgijleoaaaDoorGq
import Derived.Test.YtohgnbgijleoaaaDoorMp
import Derived.Test.YtohgnbgijleoaaaDoorRf
namespace Go.Proofs.YtohgnbgijleoaaaDoor
open Go.RowKit
set_option linter.unusedVariables false
set_option linter.unusedSimpArgs false

/-- The reader of numbers stands. -/
structure DR (w0 w : World) (gr B : Nat) (b : List Nat) (l : List Int) : Prop where
  c0 : Chg [] w0 w
  g0 : w0.heap.size ≤ gr
  g1 : gr < B
  lB : B ≤ w.heap.size
  by' : ∀ x ∈ b, x < 2 ^ 8
  bl : b.length ≤ 1000000000
  st : ∃ bv lv, w.heap[gr]? = some (.cells #[bv, lv] 108 (0, 0)) ∧ Seen w0 bv (nv .u8 b) ∧ w.ownsRow B 3 1 lv l.length (iv l)

theorem DR.keep {w0 w w' : World} {gr B : Nat} {b : List Nat} {l : List Int} (h : DR w0 w gr B b l) (hc : Chg [] w w') : DR w0 w' gr B b l := by
  obtain ⟨bv, lv, h1, h2, h3⟩ := h.st
  exact ⟨h.c0.trans hc (by simp), h.g0, h.g1, Nat.le_trans h.lB hc.size, h.by', h.bl, bv, lv, hc.heap h1 (by simp), h2, own_chg h3 hc (by simp)⟩

/-- The row of the reader is not its box. -/
theorem own_notin {w : World} {B T s n g : Nat} {v : Value} {xs : List Value} (h : w.ownsRow B T s v n xs) (hg : g < B) : ∀ k, v.ownBlock = some k → k ∉ [g] := fun k hk hm => by
  have := own_ge h k hk
  simp at hm
  omega

/-- What is left to be read was set. -/
theorem DR.set0 {w0 w : World} {gr B : Nat} {b b' : List Nat} {l : List Int} (h : DR w0 w gr B b l) {x : Value} (hx : Seen w0 x (nv .u8 b')) (hb : ∀ x ∈ b', x < 2 ^ 8) (hl : b'.length ≤ 1000000000) : DR w0 (w.setCell ⟨gr, 0, none⟩ x) gr B b' l := by
  obtain ⟨bv, lv, h1, h2, h3⟩ := h.st
  have hc : Chg [gr] w (w.setCell ⟨gr, 0, none⟩ x) := (Chg.refl [gr] w).setCell (.inl (by simp)) x
  exact ⟨h.c0.setCell (.inr h.g0) x, h.g0, h.g1, Nat.le_trans h.lB hc.size, hb, hl, x, lv, set20 h1 x, hx, own_chg h3 hc (own_notin h3 h.g1)⟩

set_option maxRecDepth 100000 in
set_option maxHeartbeats 2000000 in
theorem drsigned_any {w0 w : World} {gr B : Nat} {b : List Nat} {l : List Int} (h : DR w0 w gr B b l) :
    Calls Tryd.prog 89 #[.pointer (some ⟨gr, 0, none⟩)] w fun e w' => e = .returned (.tuple #[.int .i64 (zagOf (gv b)), .int .i64 ((gl 0 b).2 : Nat)]) ∧ DR w0 w' gr B (b.drop (gl 0 b).1) l := by
  obtain ⟨bv, lv, h1, h2, h3⟩ := h.st
  have HB := Lib.hid h
  obtain ⟨ao, cap, rfl, hc1, hc2⟩ := h2.shape
  rw [nv_length] at h1 h2 hc1
  have hgl := gl_zero 0 b
  have hgl2 := gl_len 0 b (by omega)
  obtain ⟨no, nc, hns, hnr⟩ := run_back h2 rfl hc1 (gl 0 b).1 (by
    by_cases he : (gl 0 b).2 = 0
    · exact (hgl2 he).2.1
    · rw [hgl he]; exact Nat.zero_le _)
  have HGET := Lib.hid (get_any _ b w (h2.keep h.c0) h.by')
  unfold GetOut at HGET
  have hgv := gv_lt b h.by'
  have HZ := Lib.hid (fun wx => zag_any (gv b) wx hgv)
  obtain ⟨v, hv⟩ : ∃ v, v = gv b := ⟨_, rfl⟩
  obtain ⟨N, hN⟩ : ∃ N, N = (gl 0 b).1 := ⟨_, rfl⟩
  obtain ⟨e, he⟩ : ∃ e, e = (gl 0 b).2 := ⟨_, rfl⟩
  rw [← hv, ← hN, ← he] at HGET
  rw [← hv] at HZ
  rw [← hN] at hns hnr
  rw [← hv, ← hN, ← he]
  have HNS := Lib.hid hns
  have HK := Lib.hid (fun w' (hc : Chg [] w w') => cells2 (hc.heap h1 (by simp)))
  obtain ⟨c0, c1, f0, f1⟩ := cells2 h1
  clear h h1 h2 h3 hgl hgl2 hgv hv hN he hns
  go_enter Tryd.func89, Tryd.ntmps89
  go_wp2_with (first
    | (go_at_call 91; (with_reducible refine HGET.out.mono ?_); rintro e w2 ⟨rfl, hc⟩; obtain ⟨q0, q1, q2, q3⟩ := HK.out _ hc; have HC := Lib.hid hc; clear hc c0 c1 f0 f1)
    | (go_at_call 92; (with_reducible refine (HZ.out _).mono ?_); rintro e w3 ⟨rfl, rfl⟩)
    | fail)
  go_ret2
  exact ⟨rfl, (HB.out.keep HC.out).set0 HNS.out (fun x hx => HB.out.by' x (List.mem_of_mem_drop hx)) (by have := HB.out.bl; rw [List.length_drop]; omega)⟩

/-- What width answers: the number, the error. -/
def wdO (b : List Nat) : Nat × Nat := if b = [] then (0, 8) else if 64 < b.getD 0 0 then (0, 10) else (b.getD 0 0, 0)

set_option maxRecDepth 100000 in
set_option maxHeartbeats 2000000 in
theorem drwidth_any {w0 w : World} {gr B : Nat} {b : List Nat} {l : List Int} (h : DR w0 w gr B b l) :
    Calls Tryd.prog 93 #[.pointer (some ⟨gr, 0, none⟩)] w fun e w' => e = .returned (.tuple #[.int .i64 ((wdO b).1 : Nat), .int .i64 ((wdO b).2 : Nat)]) ∧ DR w0 w' gr B (b.drop 1) l := by
  obtain ⟨bv, lv, h1, h2, h3⟩ := h.st
  have HB := Lib.hid h
  obtain ⟨ao, cap, rfl, hc1, hc2⟩ := h2.shape
  rw [nv_length] at h1 h2 hc1
  obtain ⟨c0, c1, f0, f1⟩ := cells2 h1
  by_cases hb0 : b = []
  · subst hb0
    have E := Lib.hid (show wdO [] = (0, 8) from rfl)
    rw [E.out]
    simp only [List.length_nil] at c0
    have hb : ((0 : Int) == 0) = true := rfl
    clear h h1 h2 h3
    go_enter Tryd.func93, Tryd.ntmps93
    go_wp2
    go_ret2
    exact ⟨rfl, HB.out⟩
  have hp : 0 < b.length := List.length_pos_iff.2 hb0
  obtain ⟨no, nc, hns, hnr⟩ := run_back h2 rfl hc1 1 hp
  rw [show ((1 : Nat) : Int) = 1 from rfl] at hnr
  obtain ⟨g, off, hao, hcell⟩ := h2.at0 rfl hp
  subst hao
  have x0 := h.c0.cell (hcell 0 hp) (by simp)
  rw [Nat.add_zero] at x0
  obtain ⟨x, hx⟩ : ∃ x, x = b.getD 0 0 := ⟨_, rfl⟩
  have hx8 : x < 256 := by rw [hx]; exact h.by' _ (getD_mem hp)
  rw [← hx] at x0
  have hcx : IntKind.i64.wrap (x : Int) = (x : Int) := IntWalk.i64_in _ (by omega)
  have HNS := Lib.hid (show DR w0 (w.setCell ⟨gr, 0, none⟩ (.slice no (b.length - 1) nc)) gr B (b.drop 1) l from h.set0 hns (fun x hx => h.by' x (List.mem_of_mem_drop hx)) (by have := h.bl; rw [List.length_drop]; omega))
  have hbe : ((b.length : Int) == 0) = false := by simp; omega
  obtain ⟨n, hn⟩ : ∃ n, n = b.length := ⟨_, rfl⟩
  have hwd : wdO b = if 64 < x then (0, 10) else (x, 0) := by unfold wdO; rw [if_neg hb0, ← hx]
  rw [← hn] at c0 hnr HNS hbe hp
  by_cases h64 : 64 < x
  · have E := Lib.hid (show wdO b = (0, 10) by rw [hwd, if_pos h64])
    rw [E.out]
    have d1 : decide ((64 : Int) < (x : Int)) = true := by simp; omega
    clear h h1 h2 h3 hns hcell hx hn hwd hb0
    go_enter Tryd.func93, Tryd.ntmps93
    go_wp2
    go_ret2
    exact ⟨rfl, HNS.out⟩
  · have E := Lib.hid (show wdO b = (x, 0) by rw [hwd, if_neg h64])
    rw [E.out]
    have d1 : decide ((64 : Int) < (x : Int)) = false := by simp; omega
    clear h h1 h2 h3 hns hcell hx hn hwd hb0
    go_enter Tryd.func93, Tryd.ntmps93
    go_wp2
    go_ret2
    exact ⟨rfl, HNS.out⟩

set_option maxRecDepth 100000 in
set_option maxHeartbeats 2000000 in
theorem drtake_any {w0 w : World} {gr B : Nat} {b : List Nat} {l : List Int} (h : DR w0 w gr B b l) (n : Nat) (hn : n ≤ 4611686018427387000) :
    Calls Tryd.prog 94 #[.pointer (some ⟨gr, 0, none⟩), .int .i64 (n : Int)] w fun e w' => ∃ v, e = .returned v ∧ Seen w0 v (nv .u8 (b.take ((n + 7) / 8))) ∧ DR w0 w' gr B (b.drop ((n + 7) / 8)) l := by
  obtain ⟨bv, lv, h1, h2, h3⟩ := h.st
  have HB := Lib.hid h
  obtain ⟨ao, cap, rfl, hc1, hc2⟩ := h2.shape
  rw [nv_length] at h1 h2 hc1
  obtain ⟨c0, c1, f0, f1⟩ := cells2 h1
  obtain ⟨m, hm⟩ : ∃ m, m = min ((n + 7) / 8) b.length := ⟨_, rfl⟩
  have hmb : m ≤ b.length := by omega
  have et : b.take ((n + 7) / 8) = b.take m := by
    rw [hm]
    by_cases hle : (n + 7) / 8 ≤ b.length
    · rw [Nat.min_eq_left hle]
    · rw [Nat.min_eq_right (by omega), List.take_of_length_le (by omega), List.take_of_length_le (Nat.le_refl _)]
  have ed : b.drop ((n + 7) / 8) = b.drop m := by
    rw [hm]
    by_cases hle : (n + 7) / 8 ≤ b.length
    · rw [Nat.min_eq_left hle]
    · rw [Nat.min_eq_right (by omega), List.drop_of_length_le (by omega), List.drop_of_length_le (Nat.le_refl _)]
  rw [et, ed]
  obtain ⟨no, nc, hns, hnr⟩ := run_back h2 rfl hc1 m hmb
  obtain ⟨fo, fc, hfs, hfr⟩ := run_front h2 hc1 m hmb
  have HFS := Lib.hid hfs
  have HNS := Lib.hid (fun (wx : World) (hc : Chg [] w wx) => (h.keep hc).set0 hns (fun x hx => h.by' x (List.mem_of_mem_drop hx)) (by have := h.bl; rw [List.length_drop]; omega))
  have hw1 : IntKind.i64.wrap ((n : Int) + 8) = (n : Int) + 8 := IntWalk.i64_in _ (by omega)
  obtain ⟨t, ht⟩ : ∃ t, t = (n + 7) / 8 := ⟨_, rfl⟩
  rw [← ht] at hm
  obtain ⟨N7, hN7⟩ : ∃ N7, N7 = n + 7 := ⟨_, rfl⟩
  have hw2 : IntKind.i64.wrap ((n : Int) + 8 - 1) = (N7 : Int) := by rw [show (n : Int) + 8 - 1 = (N7 : Int) by omega]; exact IntWalk.i64_in _ (by omega)
  have hw3 : (N7 : Int).tdiv 8 = (t : Int) := by rw [Int.tdiv_eq_ediv_of_nonneg (by omega)]; omega
  have hw4 : IntKind.i64.wrap (t : Int) = (t : Int) := IntWalk.i64_in _ (by omega)
  obtain ⟨L, hL⟩ : ∃ L, L = b.length := ⟨_, rfl⟩
  rw [← hL] at c0 hm hnr hfr hmb HNS
  have hmin : min (t : Int) (L : Int) = (m : Int) := by omega
  have HCL := Lib.hid (fun w' (hc : Chg [] w w') => cells2 (hc.heap h1 (by simp)))
  clear h h1 h2 h3 hns hfs et ed hm ht hL hc1 hc2 hN7
  go_enter Tryd.func94, Tryd.ntmps94
  go_wp2
  go_quiet (fail)
  go_wp2
  go_ret
  exact ⟨_, rfl, HFS.out, HNS.out _ ((Chg.refl [] w).drewN _)⟩

end Go.Proofs.YtohgnbgijleoaaaDoor

namespace Go.Proofs.YtohgnbgijleoaaaDoor
open Go.RowKit
set_option linter.unusedVariables false
set_option linter.unusedSimpArgs false

/-- A block's differences at the front of bytes: the error, the numbers, the bytes behind. -/
def blkD (n : Nat) (l : List Int) (least : Int) (b : List Nat) : Int × List Int × List Nat :=
  if b = [] then (8, [], [])
  else if 64 < b.getD 0 0 then (10, [], [])
  else if faultOf ((b.drop 1).take ((n * b.getD 0 0 + 7) / 8)) (b.getD 0 0 * n) ≠ 0 then (faultOf ((b.drop 1).take ((n * b.getD 0 0 + 7) / 8)) (b.getD 0 0 * n), [], [])
  else (0, runS (lastI 0 l) least (unpacked ((b.drop 1).take ((n * b.getD 0 0 + 7) / 8)) n (b.getD 0 0)), (b.drop 1).drop ((n * b.getD 0 0 + 7) / 8))

theorem partD_blk (k : Nat) (l : List Int) (b : List Nat) (h : (gl 0 b).2 = 0) (hl : l ≠ []) : partD k l b = blkD (min 32 k) l (zagOf (gv b)) (b.drop (gl 0 b).1) := by
  unfold partD blkD
  rw [if_neg (by omega), if_neg hl]

/-- What a part of reading answers. -/
def BlkOut (w0 : World) (gr B : Nat) (l : List Int) (p : Int × List Int × List Nat) (e : Ending) (w' : World) : Prop :=
  e = .returned (.int .i64 p.1) ∧ Chg [] w0 w' ∧ (p.1 = 0 → DR w0 w' gr B p.2.2 (l ++ p.2.1))

theorem DR.box {w0 w : World} {gr B : Nat} {b : List Nat} {l : List Int} (h : DR w0 w gr B b l) : ∃ bv lv, w.heap[gr]? = some (.cells #[bv, lv] 108 (0, 0)) ∧ Seen w0 bv (nv .u8 b) ∧ w.ownsRow B 3 1 lv l.length (iv l) := h.st

/-- The row grew: what the box holds behind it, and how the reader stands when the row is set. -/
theorem DR.grow {w0 w w' : World} {gr B : Nat} {b : List Nat} {l : List Int} {bv lv v' : Value} {o : Obj} {z : Int} (h : DR w0 w gr B b l) (h1 : w.heap[gr]? = some (.cells #[bv, lv] 108 (0, 0))) (h2 : Seen w0 bv (nv .u8 b)) (h3 : w.ownsRow B 3 1 lv l.length (iv l))
    (hg : (w.alloc o).grownBy w' lv.ownBlock) (ho : w'.ownsRow B 3 1 v' (l.length + 1) (iv l ++ [.int .i64 z])) :
    w'.cell? ⟨gr, 1, none⟩ = some lv ∧ w'.frozen? ⟨gr, 1, none⟩ = false ∧ DR w0 (w'.setCell ⟨gr, 1, none⟩ v') gr B b (l ++ [z]) := by
  have hge := own_ge h3
  have hcg : Chg lv.ownBlock.toList w w' := ((Chg.refl _ w).alloc o).grown hg (fun k hk => .inl (by simp [hk]))
  have hb : w'.heap[gr]? = some (.cells #[bv, lv] 108 (0, 0)) := hcg.heap h1 (fun hm => by
    simp at hm
    have := hge gr hm
    have := h.g1
    omega)
  obtain ⟨q0, q1, q2, q3⟩ := cells2 hb
  refine ⟨q1, q3, ?_⟩
  have hc0 : Chg [] w0 w' := h.c0.trans hcg (fun t ht => .inr (by
    simp at ht
    have := hge t ht
    have := h.g0; have := h.g1
    omega))
  have hcs : Chg [gr] w' (w'.setCell ⟨gr, 1, none⟩ v') := (Chg.refl [gr] w').setCell (.inl (by simp)) v'
  refine ⟨hc0.setCell (.inr h.g0) v', h.g0, h.g1, Nat.le_trans h.lB (Nat.le_trans hcg.size hcs.size), h.by', h.bl, bv, v', set21 hb v', h2, ?_⟩
  have := own_chg ho hcs (own_notin ho h.g1)
  rw [show iv (l ++ [z]) = iv l ++ [.int .i64 z] by simp [iv], List.length_append]
  exact this

theorem own_apart2 {w : World} {B B' T T' s s' : Nat} {v v' : Value} {n n' : Nat} {xs ys : List Value} (h : w.ownsRow B T s v n xs) (h' : w.ownsRow B' T' s' v' n' ys) (hT : T ≠ T') : ∀ g, v.ownBlock = some g → g ∉ v'.ownBlock.toList := by
  intro g hg hm
  simp at hm
  obtain ⟨c, f, h1⟩ := tagged_of_own h g hg
  obtain ⟨c', f', h2⟩ := tagged_of_own h' g hm
  rw [h1] at h2
  injection h2 with h2
  injection h2 with h3 h4 h5
  exact hT h4

theorem wdO_eq (b : List Nat) (hb : b ≠ []) (h : ¬ 64 < b.getD 0 0) : wdO b = (b.getD 0 0, 0) := by unfold wdO; rw [if_neg hb, if_neg h]

theorem runS_step (v least : Int) (A : List Nat) (j : Nat) (h : j < A.length) : runS v least (A.take (j + 1)) = runS v least (A.take j) ++ [wrp (lastI v (runS v least (A.take j)) + (least + ((A.getD j 0 : Nat) : Int)))] := by
  unfold runS
  rw [List.take_add_one, List.getElem?_eq_getElem h]
  simp only [Option.toList_some, List.map_append, List.map_cons, List.map_nil]
  rw [runI_app]
  simp [runI, List.getD, h]

theorem three_wrap (v least a : Int) : wrp (v + wrp (least + wrp a)) = wrp (v + (least + a)) := by unfold wrp; omega

theorem lastI_in (v : Int) (l : List Int) (hv : In64 v) (h : ∀ x ∈ l, In64 x) : In64 (lastI v l) := by
  induction l generalizing v with
  | nil => exact hv
  | cons x r ih => exact ih x (h x (by simp)) fun y hy => h y (by simp [hy])

set_option maxRecDepth 100000 in
set_option maxHeartbeats 4000000 in
theorem drblock_any {w0 w : World} {gr B : Nat} {b : List Nat} {l : List Int} (h : DR w0 w gr B b l) (hl : l ≠ []) (hll : l.length ≤ 5000) (least : Int) (n : Nat) (hn : n ≤ 32) :
    Calls Tryd.prog 90 #[.pointer (some ⟨gr, 0, none⟩), .int .i64 least, .int .i64 (n : Int)] w (BlkOut w0 gr B l (blkD n l least b)) := by
  have HB := Lib.hid h
  have HW := Lib.hid (drwidth_any h)
  by_cases hb0 : b = []
  · have E := Lib.hid (show blkD n l least b = (8, [], []) by unfold blkD; rw [if_pos hb0])
    have hw : wdO b = (0, 8) := by unfold wdO; rw [if_pos hb0]
    rw [hw] at HW
    unfold BlkOut
    rw [E.out]
    clear h hw hb0
    go_enter Tryd.func90, Tryd.ntmps90
    go_wp2_with (first
      | (go_at_call 93; (with_reducible refine HW.out.mono ?_); rintro e w2 ⟨rfl, hd⟩; have HD := Lib.hid hd; clear hd)
      | fail)
    go_ret
    exact ⟨rfl, HD.out.c0, fun h => by simp at h⟩
  obtain ⟨W, hWd⟩ : ∃ W, W = b.getD 0 0 := ⟨_, rfl⟩
  by_cases h64 : 64 < W
  · have E := Lib.hid (show blkD n l least b = (10, [], []) by unfold blkD; rw [if_neg hb0, ← hWd, if_pos h64])
    have hw : wdO b = (0, 10) := by unfold wdO; rw [if_neg hb0, ← hWd, if_pos h64]
    rw [hw] at HW
    unfold BlkOut
    rw [E.out]
    clear h hw hb0 hWd
    go_enter Tryd.func90, Tryd.ntmps90
    go_wp2_with (first
      | (go_at_call 93; (with_reducible refine HW.out.mono ?_); rintro e w2 ⟨rfl, hd⟩; have HD := Lib.hid hd; clear hd)
      | fail)
    go_ret
    exact ⟨rfl, HD.out.c0, fun h => by simp at h⟩
  have hw : wdO b = (W, 0) := by rw [hWd]; exact wdO_eq b hb0 (by rw [← hWd]; exact h64)
  rw [hw] at HW
  obtain ⟨N, hN⟩ : ∃ N, N = n * W := ⟨_, rfl⟩
  have hN2 : N ≤ 2048 := by
    rw [hN]
    exact Nat.le_trans (Nat.mul_le_mul hn (show W ≤ 64 by omega)) (by decide)
  have hmul : IntKind.i64.wrap ((n : Int) * (W : Int)) = (N : Int) := by
    rw [show (n : Int) * (W : Int) = (N : Int) by rw [hN]; push_cast; rfl]
    exact IntWalk.i64_in _ (by omega)
  obtain ⟨s, hs⟩ : ∃ s, s = (b.drop 1).take ((N + 7) / 8) := ⟨_, rfl⟩
  have hsb : ∀ x ∈ s, x < 2 ^ 8 := fun x hx => h.by' x (List.mem_of_mem_drop (List.mem_of_mem_take (by rw [← hs]; exact hx)))
  obtain ⟨f, hf⟩ : ∃ f, f = faultOf s (W * n) := ⟨_, rfl⟩
  have HU := Lib.hid (fun (sv : Value) (wx : World) (hS : Seen wx sv (nv .u8 s)) => unpack_any sv s n W wx (by omega) (by omega) hS hsb)
  unfold UnpackOut at HU
  rw [← hf] at HU
  have HT := Lib.hid (fun (wx : World) (hd : DR w0 wx gr B (b.drop 1) l) => drtake_any hd N (by omega))
  rw [← hs] at HT
  obtain ⟨t, ht⟩ : ∃ t, t = (b.drop 1).drop ((N + 7) / 8) := ⟨_, rfl⟩
  rw [← ht] at HT
  have hE : blkD n l least b = if f ≠ 0 then (f, [], []) else (0, runS (lastI 0 l) least (unpacked s n W), t) := by
    unfold blkD
    rw [if_neg hb0, ← hWd, if_neg h64, ← hN, ← hs, ← hf, ← ht]
  by_cases hf0 : f = 0
  · have E := Lib.hid (show blkD n l least b = (0, runS (lastI 0 l) least (unpacked s n W), t) by rw [hE, if_neg (by omega)])
    obtain ⟨A, hA⟩ : ∃ A, A = unpacked s n W := ⟨_, rfl⟩
    have hout : outU s n W = A := by unfold outU; rw [if_pos (by rw [← hf]; exact hf0), hA]
    have HAL := Lib.hid (show A.length = n by rw [hA]; exact unpacked_length _ _ _)
    rw [hout] at HU
    rw [← hA] at E
    unfold BlkOut
    rw [E.out]
    subst hf0
    obtain ⟨p, hp⟩ : ∃ p, p = l.length - 1 := ⟨_, rfl⟩
    have hl1 : 0 < l.length := List.length_pos_iff.2 hl
    have HPL := Lib.hid (show l.length = p + 1 by omega)
    have hp5 : p ≤ 5000 := by omega
    have hsub : IntKind.i64.wrap (((p + 1 : Nat) : Int) - 1) = (p : Int) := by rw [show ((p + 1 : Nat) : Int) - 1 = (p : Int) by omega]; exact IntWalk.i64_in _ (by omega)
    have HLA := Lib.hid (show l.getD p 0 = lastI 0 l by rw [lastI_get 0 l hl, hp])
    have hget : (iv l)[p]? = some (.int .i64 (l.getD p 0)) := by
      unfold iv
      rw [List.getElem?_map, List.getD, List.getElem?_eq_getElem (by omega)]
      rfl
    rw [HLA.out] at hget
    have HGE := Lib.hid hget
    obtain ⟨v0, hv0⟩ : ∃ v0, v0 = lastI 0 l := ⟨_, rfl⟩
    have HV0 := Lib.hid hv0
    rw [← hv0] at HGE
    rw [← hv0]
    clear h hw hb0 hWd hN hs hsb hf ht hE hA hout hp hl hl1 hll hget hv0 h64 HLA
    go_enter Tryd.func90, Tryd.ntmps90
    go_wp2_with (first
      | (go_at_call 93; (with_reducible refine HW.out.mono ?_); rintro e w2 ⟨rfl, hd⟩; have HD := Lib.hid hd; clear hd)
      | (go_at_call 94; (with_reducible refine (HT.out w2 HD.out).mono ?_); rintro e w3 ⟨sv, rfl, hsv, hd⟩; have HD3 := Lib.hid hd; have HSV := Lib.hid (hsv.keep hd.c0); clear hd hsv)
      | (go_at_call 61; (with_reducible refine (HU.out sv w3 HSV.out).mono ?_); rintro e w4 ⟨av, rfl, hc, ho⟩; rw [HAL.out] at ho; obtain ⟨ao, ac, rfl⟩ := own_shape ho; have HD4 := Lib.hid (HD3.out.keep hc); have HOA := Lib.hid (show w4.ownsRow B 67 1 (.slice ao n ac) n (nv .u64 A) from own_mono ho HD3.out.lB); clear hc ho; obtain ⟨bv, lv, hb4, hs4, ho4⟩ := HD4.out.st; obtain ⟨lo, lc, rfl⟩ := own_shape ho4; rw [HPL.out] at hb4 ho4; obtain ⟨c0, c1, f0, f1⟩ := cells2 hb4; obtain ⟨gl', hgl, -, -, -, hcl⟩ := own_ptr ho4 (by omega); subst hgl; have x0 := hcl p _ HGE.out; clear hcl ho4 hs4 hb4)
      | fail)
    go_quiet (fail)
    go_wp2
    have HD5 := Lib.hid (HD4.out.keep ((Chg.refl [] w4).drewN nq))
    have HOA5 := Lib.hid (own_chg HOA.out ((Chg.refl [] w4).drewN nq) (by simp))
    clear c0 c1 f0 f1 x0
    obtain ⟨w5, hw5⟩ : ∃ w5, w5 = w4.drewN nq := ⟨_, rfl⟩
    rw [← hw5] at HD5 HOA5 ⊢
    clear hw5 HD4 HOA
    obtain ⟨i0, hi, hz0, hz1, hz2⟩ := info_int
    go_loopw [10, 49] (fun v i w' => ∃ j : Nat, j ≤ n ∧ v = .int .i64 (lastI v0 (runS v0 least (A.take j))) ∧ i = .int .i64 (j : Int) ∧ w'.ownsRow B 67 1 (.slice ao n ac) n (nv .u64 A) ∧ DR w0 w' gr B t (l ++ runS v0 least (A.take j))) (fun _ i _ => n - (intOf i).toNat)
    case atStart => exact ⟨0, Nat.zero_le _, rfl, rfl, HOA5.out, by
      rw [List.take_zero, show runS v0 least [] = [] from rfl, List.append_nil]
      exact HD5.out⟩
    case round =>
      obtain ⟨j, hj, rfl, rfl, hoa, hd⟩ := hrel
      have HOA := Lib.hid hoa; have HDJ := Lib.hid hd
      clear hoa hd
      by_cases hlt : j < n
      · have d1 : decide ((j : Int) < (n : Int)) = true := by simp; omega
        obtain ⟨ga, hga, hage, halt, -, hacl⟩ := own_ptr HOA.out (by omega)
        have x1 := hacl j (.int .u64 ((A.getD j 0 : Nat) : Int)) (nv_get .u64 A j (by rw [HAL.out]; exact hlt))
        subst hga
        have HSTEP := Lib.hid (runS_step v0 least A j (by rw [HAL.out]; exact hlt))
        obtain ⟨a, ha⟩ : ∃ a, a = A.getD j 0 := ⟨_, rfl⟩
        rw [← ha] at x1 HSTEP
        have hv64 := three_wrap (lastI v0 (runS v0 least (A.take j))) least (a : Int)
        obtain ⟨X, hX⟩ : ∃ X, X = runS v0 least (A.take j) := ⟨_, rfl⟩
        rw [← hX] at HSTEP HDJ hv64 ⊢
        have hXl : X.length = j := by rw [hX, runS_length, List.length_take, HAL.out]; omega
        obtain ⟨v, hv⟩ : ∃ v, v = lastI v0 X := ⟨_, rfl⟩
        rw [← hv] at HSTEP hv64 ⊢
        obtain ⟨z, hz⟩ : ∃ z, z = wrp (v + (least + (a : Int))) := ⟨_, rfl⟩
        rw [← hz] at HSTEP hv64
        rw [← wr64, ← wr64, ← wr64] at hv64
        obtain ⟨bv5, lv5, hb5, hs5, ho5⟩ := HDJ.out.st
        obtain ⟨lo5, lc5, rfl⟩ := own_shape ho5
        obtain ⟨c0, c1, f0, f1⟩ := cells2 hb5
        have HB5 := Lib.hid hb5; have HS5 := Lib.hid hs5; have HO5 := Lib.hid ho5
        obtain ⟨M, hM⟩ : ∃ M, M = (l ++ X).length := ⟨_, rfl⟩
        have hMl : M ≤ 6000 := by rw [hM, List.length_append, HPL.out, hXl]; omega
        rw [← hM] at HO5 HB5 c1
        have HMM := Lib.hid hM
        have hlB := HDJ.out.lB
        clear ha hX hv hz hb5 hs5 ho5 hacl hM
        go_wp2_with (first
          | (at_builtin; refine wpList_append_own _ rfl _ _ 33 rfl B 3 i0 (.int .i64 0) 1 8 Tryd.underlying33 hi hz0 hz1 hz2 rfl (by decide) _ _ _ rfl (HO5.out.alloc _) ⟨wr.heap.size, 0, none⟩ 1 1 [.int .i64 z] rfl rfl ?c1 ?c2 ?c3 ?c4 ?c5 ?_)
          | fail)
        case c1 => exact cell_one_new _ _ _
        case c2 => simp [Value.oneCell']
        case c3 => unfold maxLen; omega
        case c4 => omega
        case c5 => simp; omega
        intro v6 w6 hown6 hgrow6 _
        obtain ⟨yo, yc, rfl⟩ := own_shape hown6
        obtain ⟨q1, q3, hd6⟩ := HDJ.out.grow (z := z) HB5.out HS5.out (by rw [← HMM.out]; exact HO5.out) hgrow6 (by rw [← HMM.out]; exact hown6)
        have hcg : Chg (Value.slice lo5 M lc5).ownBlock.toList wr w6 := ((Chg.refl _ wr).alloc _).grown hgrow6 (fun k hk => .inl (by simp [hk]))
        have hoa6 := own_chg HOA.out hcg (own_apart2 HOA.out HO5.out (by decide))
        have hcs : Chg [gr] w6 (w6.setCell ⟨gr, 1, none⟩ (.slice yo (M + 1) yc)) := (Chg.refl [gr] w6).setCell (.inl (by simp)) _
        have HOA6 := Lib.hid (own_chg hoa6 hcs (own_notin hoa6 HDJ.out.g1))
        have HD6 := Lib.hid hd6
        clear hown6 hgrow6 hd6 hcg hoa6 hcs
        go_wp2
        go_roundw
        case rel => exact ⟨j + 1, hlt, by rw [HSTEP.out, lastI_snoc], by go_num, HOA6.out, by
          have h := HD6.out
          rw [List.append_assoc] at h
          rw [HSTEP.out]
          exact h⟩
        case measure => simp [intOf]; omega
      · have d1 : decide ((j : Int) < (n : Int)) = false := by simp; omega
        obtain rfl : j = n := by omega
        have HF := Lib.hid HDJ.out
        rw [show A.take j = A by rw [← HAL.out, List.take_length]] at HF
        go_wp2
        go_ret
        exact ⟨rfl, HF.out.c0, fun _ => HF.out⟩
  · have E := Lib.hid (show blkD n l least b = (f, [], []) by rw [hE, if_pos hf0])
    unfold BlkOut
    rw [E.out]
    have hne : (f != 0) = true := by simpa using hf0
    have HF0 := Lib.hid hf0
    clear h hw hb0 hWd hN hs hsb hf ht hE h64
    go_enter Tryd.func90, Tryd.ntmps90
    go_wp2_with (first
      | (go_at_call 93; (with_reducible refine HW.out.mono ?_); rintro e w2 ⟨rfl, hd⟩; have HD := Lib.hid hd; clear hd)
      | (go_at_call 94; (with_reducible refine (HT.out w2 HD.out).mono ?_); rintro e w3 ⟨sv, rfl, hsv, hd⟩; have HD3 := Lib.hid hd; have HSV := Lib.hid (hsv.keep hd.c0); clear hd hsv)
      | (go_at_call 61; (with_reducible refine (HU.out sv w3 HSV.out).mono ?_); rintro e w4 ⟨av, rfl, hc, ho⟩; have HD4 := Lib.hid (HD3.out.keep hc); clear hc ho)
      | fail)
    go_ret
    exact ⟨rfl, HD4.out.c0, fun h => absurd h HF0.out⟩

end Go.Proofs.YtohgnbgijleoaaaDoor

namespace Go.Proofs.YtohgnbgijleoaaaDoor
open Go.RowKit
set_option linter.unusedVariables false
set_option linter.unusedSimpArgs false

set_option maxRecDepth 100000 in
set_option maxHeartbeats 4000000 in
theorem drpart_any {w0 w : World} {gr B : Nat} {b : List Nat} {l : List Int} (h : DR w0 w gr B b l) (hll : l.length ≤ 5000) (k : Nat) (hk : k ≤ 5000) :
    Calls Tryd.prog 79 #[.pointer (some ⟨gr, 0, none⟩), .int .i64 (k : Int)] w (BlkOut w0 gr B l (partD k l b)) := by
  have HS := Lib.hid (drsigned_any h)
  obtain ⟨e, he⟩ : ∃ e, e = (gl 0 b).2 := ⟨_, rfl⟩
  rw [← he] at HS
  by_cases he0 : e = 0
  · by_cases hl : l = []
    · have E := Lib.hid (show partD k l b = (0, [zagOf (gv b)], b.drop (gl 0 b).1) by unfold partD; rw [if_neg (by omega), if_pos hl])
      unfold BlkOut
      rw [E.out]
      obtain ⟨v, hv⟩ : ∃ v, v = zagOf (gv b) := ⟨_, rfl⟩
      rw [← hv] at HS ⊢
      obtain ⟨t, ht⟩ : ∃ t, t = b.drop (gl 0 b).1 := ⟨_, rfl⟩
      rw [← ht] at HS ⊢
      subst he0 hl
      obtain ⟨i0, hi, hz0, hz1, hz2⟩ := info_int
      have hb : ((0 : Int) == 0) = true := rfl
      clear h he hv ht
      go_enter Tryd.func79, Tryd.ntmps79
      go_wp2_with (first
        | (go_at_call 89; (with_reducible refine HS.out.mono ?_); rintro e w2 ⟨rfl, hd⟩; have HD := Lib.hid hd; clear hd; obtain ⟨bv5, lv5, hb5, hs5, ho5⟩ := HD.out.st; obtain ⟨lo5, lc5, rfl⟩ := own_shape ho5; obtain ⟨c0, c1, f0, f1⟩ := cells2 hb5; have HB5 := Lib.hid hb5; have HS5 := Lib.hid hs5; have HO5 := Lib.hid ho5; simp only [List.length_nil] at c1 HO5 HB5; have hlB := HD.out.lB; clear hb5 hs5 ho5)
        | (at_builtin; refine wpList_append_own _ rfl _ _ 33 rfl B 3 i0 (.int .i64 0) 1 8 Tryd.underlying33 hi hz0 hz1 hz2 rfl (by decide) _ _ _ rfl (HO5.out.alloc _) ⟨w2.heap.size, 0, none⟩ 1 1 [.int .i64 v] rfl rfl ?c1 ?c2 ?c3 ?c4 ?c5 ?_)
        | fail)
      case c1 => exact cell_one_new _ _ _
      case c2 => simp [Value.oneCell']
      case c3 => unfold maxLen; omega
      case c4 => omega
      case c5 => simp; omega
      intro v6 w6 hown6 hgrow6 _
      obtain ⟨yo, yc, rfl⟩ := own_shape hown6
      obtain ⟨q1, q3, hd6⟩ := HD.out.grow (z := v) HB5.out HS5.out HO5.out hgrow6 hown6
      have HD6 := Lib.hid hd6
      clear hown6 hgrow6 hd6
      go_wp2
      go_ret
      exact ⟨rfl, HD6.out.c0, fun _ => HD6.out⟩
    · have E := Lib.hid (partD_blk k l b (by omega) hl)
      rw [E.out]
      obtain ⟨v, hv⟩ : ∃ v, v = zagOf (gv b) := ⟨_, rfl⟩
      rw [← hv] at HS ⊢
      obtain ⟨t, ht⟩ : ∃ t, t = b.drop (gl 0 b).1 := ⟨_, rfl⟩
      rw [← ht] at HS ⊢
      obtain ⟨m, hm⟩ : ∃ m, m = min 32 k := ⟨_, rfl⟩
      rw [← hm]
      have hrun : ∀ (wx : World) (ts : Array TypeId) (ty : TypeId), (Builtin.min_ ts ty #[.int .i64 32, .int .i64 (k : Int)]).run Tryd.prog wx = .ok (.int .i64 (m : Int)) wx := fun wx ts ty => by
        rw [run_min_int2, minInt]
        rw [show min (32 : Int) (k : Int) = (m : Int) by omega]
      have hmin : min (32 : Int) (k : Int) = (m : Int) := by omega
      have HB := Lib.hid (fun (wx : World) (hd : DR w0 wx gr B t l) => drblock_any hd hl hll v m (by omega))
      subst he0
      obtain ⟨M, hM⟩ : ∃ M, M = l.length := ⟨_, rfl⟩
      have hM0 : ((M : Int) == 0) = false := by
        have : 0 < l.length := List.length_pos_iff.2 hl
        simp; omega
      have HM := Lib.hid hM
      obtain ⟨p, hp⟩ : ∃ p, p = blkD m l v t := ⟨_, rfl⟩
      rw [← hp] at HB ⊢
      clear h he hv ht hl hm hM hp
      go_enter Tryd.func79, Tryd.ntmps79
      go_wp2_with (first
        | (go_at_call 89; (with_reducible refine HS.out.mono ?_); rintro e w2 ⟨rfl, hd⟩; have HD := Lib.hid hd; clear hd; obtain ⟨bv5, lv5, hb5, hs5, ho5⟩ := HD.out.st; obtain ⟨lo5, lc5, rfl⟩ := own_shape ho5; rw [← HM.out] at hb5; obtain ⟨c0, c1, f0, f1⟩ := cells2 hb5; clear hb5 hs5 ho5)
        | (go_at_call 90; (with_reducible refine (HB.out w2 HD.out).mono ?_); rintro e w3 ⟨rfl, hc3, hd3⟩; have HC3 := Lib.hid hc3; have HD3 := Lib.hid hd3; clear hc3 hd3)
        | fail)
      go_ret
      exact ⟨rfl, HC3.out, HD3.out⟩
  · have E := Lib.hid (show partD k l b = ((e : Int), [], []) by unfold partD; rw [if_pos (by omega), he])
    unfold BlkOut
    rw [E.out]
    have hne : ((e : Int) != 0) = true := by simp; omega
    have HE0 := Lib.hid he0
    clear h he he0
    go_enter Tryd.func79, Tryd.ntmps79
    go_wp2_with (first
      | (go_at_call 89; (with_reducible refine HS.out.mono ?_); rintro e w2 ⟨rfl, hd⟩; have HD := Lib.hid hd; clear hd)
      | fail)
    go_ret
    exact ⟨rfl, HD.out.c0, fun h => absurd h (by have := HE0.out; simp; omega)⟩

theorem partD_rest (k : Nat) (l : List Int) (b : List Nat) : (partD k l b).2.2.length ≤ b.length := by
  unfold partD
  split
  · simp
  split
  · simp
  split
  · simp
  split
  · simp
  split
  · simp
  · simp

/-- What Read answers, with its memory. -/
def DReadOut (b : List Nat) (n : Int) (w : World) (e : Ending) (w' : World) : Prop :=
  ∃ v, e = .returned (.tuple #[v, .int .i64 ((readD b n).2.1 : Nat), .int .i64 (readD b n).2.2]) ∧ MadeI (readD b n).1 w v w'

theorem dread_args (bv : Value) (n : Int) (w : World) (h : n < 0 ∨ 4000 < n) :
    Calls Tryd.prog 65 #[bv, .int .i64 n] w fun e w' => e = .returned (.tuple #[.slice none 0 0, .int .i64 0, .int .i64 1]) ∧ w = w' := by
  rcases Int.lt_or_le n 0 with h1 | h1
  · have d1 : decide (n < 0) = true := by simpa using h1
    clear h
    go_enter Tryd.func65, Tryd.ntmps65
    go_wp2_with fail
    refine wp_scope_jumps 0 (fun _ _ => False) (fun _ _ => 0) rfl ?_ (fun a' w' h => h.elim)
    go_wp2
    simp only [Exit.jump]
    go_ret3
    exact ⟨rfl, rfl⟩
  · have d1 : decide (n < 0) = false := by simpa using h1
    have d2 : decide (4000 < n) = true := by simp; omega
    clear h
    go_enter Tryd.func65, Tryd.ntmps65
    go_wp2_with fail
    refine wp_scope_jumps 0 (fun _ _ => False) (fun _ _ => 0) rfl ?_ (fun a' w' h => h.elim)
    go_wp2
    simp only [Exit.jump]
    go_ret3
    exact ⟨rfl, rfl⟩

set_option maxRecDepth 100000 in
set_option maxHeartbeats 4000000 in
theorem dread_any (bv : Value) (b : List Nat) (n : Int) (w : World) (hS : Seen w bv (nv .u8 b)) (hb : ∀ x ∈ b, x < 2 ^ 8) (hbl : b.length ≤ 1000000000) :
    Calls Tryd.prog 65 #[bv, .int .i64 n] w (DReadOut b n w) := by
  by_cases hn : n < 0 ∨ 4000 < n
  · refine (dread_args bv n w hn).mono ?_
    rintro e w' ⟨rfl, rfl⟩
    unfold DReadOut readD
    rw [if_pos hn]
    exact ⟨_, rfl, Chg.refl _ _, World.ownsRow_nil _ _ _ _⟩
  obtain ⟨N, hN⟩ : ∃ N : Nat, n = (N : Int) := ⟨n.toNat, by omega⟩
  subst hN
  have hN4 : N ≤ 4000 := by omega
  have hR : readD b (N : Int) = if (decD N [] b).1 ≠ 0 then ([], 0, (decD N [] b).1) else ((decD N [] b).2.1, b.length - (decD N [] b).2.2.length, 0) := by
    unfold readD; rw [if_neg hn, Int.toNat_natCast]
  obtain ⟨ao, cap, rfl, hc1, hc2⟩ := hS.shape
  rw [nv_length] at hc1 hS ⊢
  obtain ⟨D, hD⟩ : ∃ D, D = decD N [] b := ⟨_, rfl⟩
  rw [← hD] at hR
  obtain ⟨R, hRR⟩ : ∃ R, R = readD b (N : Int) := ⟨_, rfl⟩
  unfold DReadOut
  rw [← hRR] at hR ⊢
  have HR := Lib.hid hR; have HDD := Lib.hid hD
  have d1 : decide ((N : Int) < 0) = false := by simp
  have d2 : decide (4000 < (N : Int)) = false := by simp; omega
  obtain ⟨L, hL⟩ : ∃ L, L = b.length := ⟨_, rfl⟩
  rw [← hL] at hc1 hS hbl ⊢
  have HL := Lib.hid hL
  have HS := Lib.hid hS; have HB := Lib.hid hb
  clear hS hb hn hR hD hRR hL
  go_enter Tryd.func65, Tryd.ntmps65
  go_wp2_with fail
  refine wp_scope_pre2 0 (fun a' w' => ∃ (l : List Int) (b' : List Nat) (u8 u9 u10 u11 u12 u13 u14 u15 u16 u17 u18 u19 u20 u21 u22 u23 u24 u25 u26 u27 u28 u29 u30 u31 u32 u33 u34 u35 u36 u2 u3 u6 : Value), l.length ≤ N ∧ b'.length ≤ L ∧ decD (N - l.length) l b' = D ∧ a' = { tmps := #[.slice ao L cap, .int .i64 (N : Int), u2, u3, .slice none 0 0, .int .i64 0, u6, .pointer (some ⟨w.heap.size, 0, none⟩), u8, u9, u10, u11, u12, u13, u14, u15, u16, u17, u18, u19, u20, u21, u22, u23, u24, u25, u26, u27, u28, u29, u30, u31, u32, u33, u34, u35, u36], defers := [] } ∧ DR w w' w.heap.size (w.heap.size + 1) b' l) (fun _ w' => N - slen ((w'.cell? ⟨w.heap.size, 1, none⟩).getD undef)) rfl ?_ ?_
  · go_wp2
    refine ⟨[], b, _, _, _, _, _, _, _, _, _, _, _, _, _, _, _, _, _, _, _, _, _, _, _, _, _, _, _, _, _, _, _, _, Nat.zero_le _, by rw [← HL.out]; exact Nat.le_refl _, by rw [HDD.out]; rfl, rfl, ?_⟩
    exact ⟨(Chg.refl [] w).alloc _, Nat.le_refl _, by omega, by simp, HB.out, by rw [← HL.out]; exact hbl, _, _, heap_alloc_new _ _, HS.out, World.ownsRow_nil _ _ _ _⟩
  rintro a' wi ⟨l, b', u8, u9, u10, u11, u12, u13, u14, u15, u16, u17, u18, u19, u20, u21, u22, u23, u24, u25, u26, u27, u28, u29, u30, u31, u32, u33, u34, u35, u36, u2, u3, u6, hlN, hbL, hdec, rfl, hd⟩
  have HD := Lib.hid hd; have HE := Lib.hid hdec
  obtain ⟨bv5, lv5, hb5, hs5, ho5⟩ := hd.st
  obtain ⟨lo5, lc5, rfl⟩ := own_shape ho5
  obtain ⟨bo5, bc5, rfl, -, -⟩ := hs5.shape
  rw [nv_length] at hb5 hs5
  obtain ⟨M, hM⟩ : ∃ M, M = l.length := ⟨_, rfl⟩
  obtain ⟨S, hS⟩ : ∃ S, S = b'.length := ⟨_, rfl⟩
  rw [← hM] at hlN hb5 ho5 HE
  rw [← hS] at hbL hb5
  have HM := Lib.hid hM; have HSS := Lib.hid hS; have HO5 := Lib.hid ho5
  obtain ⟨c0, c1, f0, f1⟩ := cells2 hb5
  have HC1 := Lib.hid c1
  obtain ⟨K, hK⟩ : ∃ K, K = N - M := ⟨_, rfl⟩
  rw [← hK] at HE
  have hsub : IntKind.i64.wrap ((N : Int) - (M : Int)) = (K : Int) := by rw [show (N : Int) - (M : Int) = (K : Int) by omega]; exact IntWalk.i64_in _ (by omega)
  clear hd hdec hb5 hs5 ho5 hM hS
  by_cases hk0 : K = 0
  · have dk : decide (0 < (K : Int)) = false := by simp; omega
    have dk2 : ¬ (0 < (K : Int)) := by omega
    have hsub2 : IntKind.i64.wrap ((L : Int) - (S : Int)) = ((L - S : Nat) : Int) := by rw [show (L : Int) - (S : Int) = ((L - S : Nat) : Int) by omega]; exact IntWalk.i64_in _ (by omega)
    obtain ⟨Q, hQ⟩ : ∃ Q, Q = L - S := ⟨_, rfl⟩
    rw [← hQ] at hsub2
    have HF := Lib.hid (show R = (l, Q, 0) by
      have h := HE.out
      rw [hk0, decD_zero] at h
      rw [HR.out, ← h, hQ, HL.out, HSS.out]
      simp)
    clear hK hk0 hQ
    go_wp2
    go_quiet (fail)
    go_wp2
    simp only [Exit.jump]
    go_ret3
    rw [HF.out]
    refine ⟨_, rfl, HD.out.c0.drewN _, ?_⟩
    have h := own_mono HO5.out (show w.heap.size ≤ w.heap.size + 1 by omega)
    rw [← HM.out]
    exact own_chg h ((Chg.refl [] wi).drewN _) (by simp)
  · have dk : decide (0 < (K : Int)) = true := by simp; omega
    have dk2 : 0 < (K : Int) := by omega
    have HP := Lib.hid (drpart_any HD.out (by rw [← HM.out]; omega) K (by omega))
    obtain ⟨p, hp⟩ : ∃ p, p = partD K l b' := ⟨_, rfl⟩
    rw [← hp] at HP
    have HPP := Lib.hid hp
    have HK := Lib.hid hk0; have HKK := Lib.hid hK
    clear hp hk0 hK
    by_cases hp0 : p.1 = 0
    · have hb0 : (p.1 != 0) = false := by rw [hp0]; rfl
      have HP0 := Lib.hid hp0
      clear hp0
      go_wp2_with (first
        | (go_at_call 79; (with_reducible refine HP.out.mono ?_); rintro e w3 ⟨rfl, hc3, hd3⟩; have HC3 := Lib.hid hc3; have HD3 := Lib.hid hd3; clear hc3 hd3)
        | fail)
      go_step3
      have hd := HD3.out HP0.out
      have hpl := partD_len (k := K) (l := l) (b := b') (by have := HK.out; omega) (by rw [← HPP.out]; exact HP0.out)
      rw [← HPP.out] at hpl
      have hdk := decD_ok (k := K) (l := l) (b := b') HK.out (by rw [← HPP.out]; exact HP0.out)
      rw [← HPP.out] at hdk
      obtain ⟨bv6, lv6, hb6, hs6, ho6⟩ := hd.st
      obtain ⟨lo6, lc6, rfl⟩ := own_shape ho6
      obtain ⟨-, r1, -, -⟩ := cells2 hb6
      have hlen : (l ++ p.2.1).length = M + p.2.1.length := by rw [List.length_append, ← HM.out]
      have hKK := HKK.out
      refine ⟨rfl, ⟨l ++ p.2.1, p.2.2, _, _, _, _, _, _, _, _, _, _, _, _, _, _, _, _, _, _, _, _, _, _, _, _, _, _, _, _, _, _, _, _, by rw [hlen]; omega, ?_, ?_, by rw [HP0.out], hd⟩, ?_⟩
      · have h := partD_rest K l b'
        rw [← HPP.out] at h
        have := HSS.out
        omega
      · rw [hlen, ← HE.out, hdk]
        congr 1
        omega
      · rw [r1, HC1.out]
        simp only [Option.getD_some, slen]
        rw [hlen]
        omega
    · have hb0 : (p.1 != 0) = true := by simpa using hp0
      have HF := Lib.hid (show R = ([], 0, p.1) by
        have h := HE.out
        rw [decD_bad HK.out (by rw [← HPP.out]; exact hp0), ← HPP.out] at h
        rw [HR.out, ← h, if_pos hp0])
      clear hp0
      go_wp2_with (first
        | (go_at_call 79; (with_reducible refine HP.out.mono ?_); rintro e w3 ⟨rfl, hc3, hd3⟩; have HC3 := Lib.hid hc3; have HD3 := Lib.hid hd3; clear hc3 hd3)
        | fail)
      simp only [Exit.jump]
      go_ret3
      rw [HF.out]
      exact ⟨_, rfl, HC3.out, World.ownsRow_nil _ _ _ _⟩

end Go.Proofs.YtohgnbgijleoaaaDoor
