/- The walk of the statement StatOf. -/
import Derived.Test.YtgfjmbjpikcffaaCh17
import Derived.Test.YtgfjmbjpikcffaaColf
import Derived.Test.YtgfjmbjpikcffaaRof17
import Derived.Test.YtgfjmbjpikcffaaUv
namespace Go.Proofs.Ytgfjmbjpikcffaa
open Go.RowKit
set_option linter.unusedVariables false
set_option linter.unusedSimpArgs false

theorem of_det (k : Nat) (hk : 1 ≤ k ∧ k ≤ 4) (rv dv vv : Value) (l : List V) (bs : List Bool) (s : St) (w : World) (hd : SeenI w dv (colD17 l bs)) (hv : SeenV w vv (colV17 l bs)) (hl : l.length ≤ 1000) (hok : ∀ x ∈ l, okV k x) (hs : Is k (l.length - (colV17 l bs).length) (colV17 l bs) s) :
    Calls Try.prog 12 #[.agg #[.int .i64 0, .int .i64 0, .int .i64 1, .int .i64 (k : Int)], .agg #[rv, dv, vv]] w fun e w' => e = .returned (stV s) ∧ Chg [] w w' := by
  have hok2 : ∀ x ∈ colV17 l bs, okV k x := fun x hx => hok x (colV17_mem l bs x hx)
  refine (of17_any k hk 0 0 1 rv dv vv (colD17 l bs) (colV17 l bs) w hd hv (by rw [colD17_len]; exact hl) hok2 (colV17_cnt l bs)).mono ?_
  rintro e w' ⟨t, rfl, hc, ht⟩
  rw [colD17_len] at ht
  rw [ht.eq hk hs (fun _ => Iff.rfl) hok2]
  exact ⟨rfl, hc⟩

theorem rof_det (k : Nat) (hk : 1 ≤ k ∧ k ≤ 4) (rv dv vv : Value) (l : List V) (bs : List Bool) (s : St) (w : World) (hd : SeenI w dv (colD17 l bs)) (hv : SeenV w vv (colV17 l bs)) (hl : l.length ≤ 1000) (hok : ∀ x ∈ l, okV k x) (hs : Is k (l.length - (colV17 l bs).length) (colV17 l bs) s) :
    Calls Try.prog 15 #[.agg #[.int .i64 0, .int .i64 0, .int .i64 1, .int .i64 (k : Int)], .agg #[rv, dv, vv]] w fun e w' => e = .returned (stV s) ∧ Chg [] w w' := by
  have hok2 : ∀ x ∈ colV17 l bs, okV k x := fun x hx => hok x (colV17_mem l bs x hx)
  refine (rof17_any k hk 0 0 1 rv dv vv (colD17 l bs) (colV17 l bs) w hd hv (by rw [colD17_len]; exact hl) hok2 (colV17_cnt l bs)).mono ?_
  rintro e w' ⟨t, rfl, hc, ht⟩
  rw [colD17_len] at ht
  rw [ht.eq hk hs (fun _ => Iff.rfl) hok2]
  exact ⟨rfl, hc⟩

theorem elem_bools17 : Try.prog.elem 23 = 4 := by kernel_rfl
theorem info_bool17 : ∃ i, Try.prog.info? 4 = some i ∧ i.size = 1 := by
  have h : (Try.prog.info? 4).map (fun i => i.size) = some 1 := by kernel_rfl
  cases hi : Try.prog.info? 4 with
  | none => rw [hi] at h; cases h
  | some i => rw [hi] at h; exact ⟨i, rfl, by simpa using h⟩

theorem set3 {W : World} {g : Nat} {T : TypeId} {a b c : Value} (h : W.heap[g]? = some (.cells #[a, b, c] T (0, 0))) (p q r : Value) : (((W.setCell ⟨g, 0, none⟩ p).setCell ⟨g, 1, none⟩ q).setCell ⟨g, 2, none⟩ r).heap[g]? = some (.cells #[p, q, r] T (0, 0)) := by
  rw [heap_set (heap_set (heap_set h p) q) r]; rfl

theorem run_back_B {w : World} {ao : Option Addr} {n cap : Nat} {l : List Bool} (h : SeenB w (.slice ao n cap) l) (hl : l.length = n) (hc : n ≤ cap) (lo : Nat) (h1 : lo ≤ n) :
    ∃ ao' cap', SeenB w (.slice ao' (n - lo) cap') (l.drop lo) ∧ ∀ wx, (Instr.slice 23 (.slice ao n cap) (some (.int .i64 (lo : Int))) none none).run Try.prog wx = .ok (.slice ao' (n - lo) cap') wx := by
  have hs := h.sliced lo n h1 (Nat.le_refl _)
  rw [show l.take n = l by rw [← hl, List.take_length]] at hs
  refine ⟨_, _, hs, fun wx => ?_⟩
  obtain ⟨i0, hi0, hz1⟩ := info_bool17
  rw [run_slice_l wx 23 ao n cap (by rw [elem_bools17]; exact Try.underlying23) .i64 lo (by omega) (by omega), elem_bools17]
  simp [sizeOf, typeInfo, hi0, hz1, Go.sliced]

abbrev FRSf10 (n cu mi len2 cap2 : Nat) (lo a2 so tO : Option Addr) (lc sc tc k g11 g12 g13 g16 : Nat) (Lb : List V) (bb : List Bool) (ga : Nat) (gb : Nat) (ro : Option Addr) (dO : Option Addr) (vO : Option Addr) (rc : Nat) (dc : Nat) (vc : Nat) (base u : Nat → Value) : Act := { tmps := #[base 0, base 1, .slice a2 len2 cap2, base 3, base 4, base 5, base 6, base 7, base 8, .int .i64 (k : Int), .slice lo n lc, .pointer (some ⟨g11, 0, none⟩), .pointer (some ⟨g12, 0, none⟩), .pointer (some ⟨g13, 0, none⟩), .int .i64 (cu : Int), base 15, .pointer (some ⟨g16, 0, none⟩), u 17, u 18, base 19, base 20, base 21, base 22, base 23, base 24, base 25, base 26, base 27, base 28, base 29, base 30, base 31, base 32, base 33, base 34, base 35, base 36, base 37, base 38, base 39, base 40, base 41, base 42, base 43, base 44, base 45, base 46, base 47, base 48, base 49, base 50, base 51, base 52, base 53, u 54, u 55, u 56, u 57, u 58, u 59, u 60, u 61, u 62, u 63, u 64, u 65, u 66, base 67, base 68, base 69, base 70, base 71, base 72, base 73, base 74, base 75, base 76, base 77, base 78, base 79, base 80, base 81, base 82, base 83, base 84, base 85, base 86, base 87, base 88, base 89, base 90, base 91, base 92, base 93, base 94, base 95, base 96, base 97, base 98, base 99], defers := [] }

structure RISf10 (n cu mi len2 cap2 : Nat) (lo a2 so tO : Option Addr) (lc sc tc k g11 g12 g13 g16 : Nat) (Lb : List V) (bb : List Bool) (wc : World) (b : Nat → Bool) (u : Nat → Value) (ga : Nat) (gb : Nat) (ro : Option Addr) (dO : Option Addr) (vO : Option Addr) (rc : Nat) (dc : Nat) (vc : Nat) (w' : World) : Prop where
  c0 : b 0 = true → u 55 = .slice lo n lc
  c1 : b 1 = true → u 56 = .int .i64 (cu : Int)
  c2 : b 2 = true → u 57 = .slice so (n - cu) sc
  c3 : b 3 = true → u 58 = .slice a2 len2 cap2
  c4 : b 4 = true → u 59 = .int .i64 (cu : Int)
  c5 : b 5 = true → u 60 = .slice a2 len2 cap2
  c6 : b 6 = true → u 61 = .int .i64 (len2 : Int)
  c7 : b 7 = true → u 62 = .int .i64 (mi : Int)
  c8 : b 8 = true → u 63 = .slice tO (len2 - mi) tc
  c9 : b 9 = true → u 64 = .tuple #[.agg #[.int .i64 0, .int .i64 0, .int .i64 1, .int .i64 0], .agg #[.slice ro Lb.length rc, .slice dO (colD17 Lb bb).length dc, .slice vO (colV17 Lb bb).length vc]]
  c10 : b 10 = true → u 54 = .tuple #[.agg #[.int .i64 0, .int .i64 0, .int .i64 1, .int .i64 0], .agg #[.slice ro Lb.length rc, .slice dO (colD17 Lb bb).length dc, .slice vO (colV17 Lb bb).length vc]]
  c11 : b 11 = true → u 65 = .agg #[.int .i64 0, .int .i64 0, .int .i64 1, .int .i64 0]
  c12 : b 12 = true → u 66 = .agg #[.slice ro Lb.length rc, .slice dO (colD17 Lb bb).length dc, .slice vO (colV17 Lb bb).length vc]
  c13 : b 13 = true → u 17 = .pointer (some ⟨ga, 0, none⟩)
  c14 : b 14 = true → u 18 = .pointer (some ⟨gb, 0, none⟩)
  cg : Chg [] wc w'
  m9 : b 9 = true → ∀ wz, Chg [ga, gb] w' wz → SeenI wz (.slice dO (colD17 Lb bb).length dc) (colD17 Lb bb) ∧ SeenV wz (.slice vO (colV17 Lb bb).length vc) (colV17 Lb bb)
  a0 : b 13 = false → ga = 0
  b0 : b 14 = false → gb = 0
  m13 : b 13 = true → wc.heap.size ≤ ga ∧ ga < w'.heap.size ∧ (b 15 = false → w'.heap[ga]? = some (.cells #[.int .i64 0, .int .i64 0, .int .i64 0, .int .i64 0] 28 (0, 0)))
  m14 : b 14 = true → wc.heap.size ≤ gb ∧ gb < w'.heap.size ∧ (b 16 = false → w'.heap[gb]? = some (.cells #[.slice none 0 0, .slice none 0 0, .slice none 0 0] 31 (0, 0)))
  n14 : b 16 = true → w'.heap[gb]? = some (.cells #[.slice ro Lb.length rc, .slice dO (colD17 Lb bb).length dc, .slice vO (colV17 Lb bb).length vc] 31 (0, 0))
  dd : b 13 = true → b 14 = true → ga ≠ gb
  z10_9 : b 10 = true → b 9 = true
  z12_9 : b 12 = true → b 9 = true
  z15_13 : b 15 = true → b 13 = true
  z16_14 : b 16 = true → b 14 = true
  z16_9 : b 16 = true → b 9 = true

def JISf10 (n cu mi len2 cap2 : Nat) (lo a2 so tO : Option Addr) (lc sc tc k g11 g12 g13 g16 : Nat) (Lb : List V) (bb : List Bool) (wc : World) (listed : Array Bool) (a' : Act) (w' : World) : Prop :=
  ∃ (b : Nat → Bool) (base u : Nat → Value) (ga : Nat) (gb : Nat) (ro : Option Addr) (dO : Option Addr) (vO : Option Addr) (rc : Nat) (dc : Nat) (vc : Nat), listed = #[b 0, b 1, b 2, b 3, b 4, b 5, b 6, b 7, b 8, b 9, b 10, b 11, b 12, b 13, b 14, b 15, b 16] ∧ a' = FRSf10 n cu mi len2 cap2 lo a2 so tO lc sc tc k g11 g12 g13 g16 Lb bb ga gb ro dO vO rc dc vc base u ∧ RISf10 n cu mi len2 cap2 lo a2 so tO lc sc tc k g11 g12 g13 g16 Lb bb wc b u ga gb ro dO vO rc dc vc w'

theorem JISf10_start {n cu mi len2 cap2 : Nat} {lo a2 so tO : Option Addr} {lc sc tc k g11 g12 g13 g16 : Nat} {Lb : List V} {bb : List Bool} {wc w' : World} {a : Act} (h : a = FRSf10 n cu mi len2 cap2 lo a2 so tO lc sc tc k g11 g12 g13 g16 Lb bb 0 0 none none none 0 0 0 (fun j => a.tmps.getD j undef) (fun j => a.tmps.getD j undef)) (hc : Chg [] wc w') : JISf10 n cu mi len2 cap2 lo a2 so tO lc sc tc k g11 g12 g13 g16 Lb bb wc (Array.replicate 17 false) a w' :=
  ⟨fun _ => false, _, _, 0, 0, none, none, none, 0, 0, 0, rfl, h, by constructor <;> simp [hc]⟩

theorem ltSf10 : ∀ i : Nat, i < 17 → i = 0 ∨ i = 1 ∨ i = 2 ∨ i = 3 ∨ i = 4 ∨ i = 5 ∨ i = 6 ∨ i = 7 ∨ i = 8 ∨ i = 9 ∨ i = 10 ∨ i = 11 ∨ i = 12 ∨ i = 13 ∨ i = 14 ∨ i = 15 ∨ i = 16 := by decide


abbrev FRSf11 (k g11 g12 g13 g16 g18 : Nat) (A1 A2 A3 B1 B2 B3 : Value) (x y : St) (ga : Nat) (gb : Nat) (base u : Nat → Value) : Act := { tmps := #[base 0, base 1, base 2, base 3, base 4, base 5, base 6, base 7, base 8, .int .i64 (k : Int), base 10, .pointer (some ⟨g11, 0, none⟩), .pointer (some ⟨g12, 0, none⟩), .pointer (some ⟨g13, 0, none⟩), base 14, base 15, .pointer (some ⟨g16, 0, none⟩), base 17, .pointer (some ⟨g18, 0, none⟩), u 19, u 20, base 21, base 22, base 23, base 24, base 25, base 26, base 27, base 28, base 29, base 30, base 31, base 32, base 33, base 34, base 35, base 36, base 37, base 38, base 39, base 40, base 41, base 42, base 43, base 44, base 45, base 46, base 47, base 48, base 49, base 50, base 51, base 52, base 53, base 54, base 55, base 56, base 57, base 58, base 59, base 60, base 61, base 62, base 63, base 64, base 65, base 66, u 67, u 68, u 69, u 70, u 71, u 72, base 73, base 74, base 75, base 76, base 77, base 78, base 79, base 80, base 81, base 82, base 83, base 84, base 85, base 86, base 87, base 88, base 89, base 90, base 91, base 92, base 93, base 94, base 95, base 96, base 97, base 98, base 99], defers := [] }

structure RISf11 (k g11 g12 g13 g16 g18 : Nat) (A1 A2 A3 B1 B2 B3 : Value) (x y : St) (wc : World) (b : Nat → Bool) (u : Nat → Value) (ga : Nat) (gb : Nat) (w' : World) : Prop where
  c0 : b 0 = true → u 67 = .agg #[.int .i64 0, .int .i64 0, .int .i64 1, .int .i64 (k : Int)]
  c1 : b 1 = true → u 68 = .agg #[A1, A2, A3]
  c2 : b 2 = true → u 69 = stV x
  c3 : b 3 = true → u 70 = .agg #[.int .i64 0, .int .i64 0, .int .i64 1, .int .i64 (k : Int)]
  c4 : b 4 = true → u 71 = .agg #[B1, B2, B3]
  c5 : b 5 = true → u 72 = stV y
  c6 : b 6 = true → u 19 = .pointer (some ⟨ga, 0, none⟩)
  c7 : b 7 = true → u 20 = .pointer (some ⟨gb, 0, none⟩)
  cg : Chg [] wc w'
  m6 : b 6 = true → wc.heap.size ≤ ga ∧ ga < w'.heap.size ∧ (b 8 = false → w'.heap[ga]? = some (.cells #[.int .i64 0, .bool false, .int .i64 0, .string { data := #[] }, .int .i64 0, .string { data := #[] }] 37 (0, 0)))
  n6 : b 8 = true → w'.heap[ga]? = some (.cells #[.int .i64 x.n, .bool x.h, .int .i64 x.a.n, .string x.a.s, .int .i64 x.b.n, .string x.b.s] 37 (0, 0))
  m7 : b 7 = true → wc.heap.size ≤ gb ∧ gb < w'.heap.size ∧ (b 9 = false → w'.heap[gb]? = some (.cells #[.int .i64 0, .bool false, .int .i64 0, .string { data := #[] }, .int .i64 0, .string { data := #[] }] 37 (0, 0)))
  n7 : b 9 = true → w'.heap[gb]? = some (.cells #[.int .i64 y.n, .bool y.h, .int .i64 y.a.n, .string y.a.s, .int .i64 y.b.n, .string y.b.s] 37 (0, 0))
  d6_7 : b 6 = true → b 7 = true → ga ≠ gb
  z8_6 : b 8 = true → b 6 = true
  z9_7 : b 9 = true → b 7 = true

def JISf11 (k g11 g12 g13 g16 g18 : Nat) (A1 A2 A3 B1 B2 B3 : Value) (x y : St) (wc : World) (listed : Array Bool) (a' : Act) (w' : World) : Prop :=
  ∃ (b : Nat → Bool) (base u : Nat → Value) (ga : Nat) (gb : Nat), listed = #[b 0, b 1, b 2, b 3, b 4, b 5, b 6, b 7, b 8, b 9] ∧ a' = FRSf11 k g11 g12 g13 g16 g18 A1 A2 A3 B1 B2 B3 x y ga gb base u ∧ RISf11 k g11 g12 g13 g16 g18 A1 A2 A3 B1 B2 B3 x y wc b u ga gb w'

theorem JISf11_start {k g11 g12 g13 g16 g18 : Nat} {A1 A2 A3 B1 B2 B3 : Value} {x y : St} {wc w' : World} {a : Act} (h : a = FRSf11 k g11 g12 g13 g16 g18 A1 A2 A3 B1 B2 B3 x y 0 0 (fun j => a.tmps.getD j undef) (fun j => a.tmps.getD j undef)) (hc : Chg [] wc w') : JISf11 k g11 g12 g13 g16 g18 A1 A2 A3 B1 B2 B3 x y wc (Array.replicate 10 false) a w' :=
  ⟨fun _ => false, _, _, 0, 0, rfl, h, by constructor <;> simp [hc]⟩

theorem ltSf11 : ∀ i : Nat, i < 10 → i = 0 ∨ i = 1 ∨ i = 2 ∨ i = 3 ∨ i = 4 ∨ i = 5 ∨ i = 6 ∨ i = 7 ∨ i = 8 ∨ i = 9 := by decide


set_option maxRecDepth 100000 in
set_option maxHeartbeats 4000000 in
theorem walk_StatOf (a0 : Int) (a1 : Option Addr) (len1 cap1 : Nat) (l1 : List V) (a2 : Option Addr) (len2 cap2 : Nat) (l2 : List Bool) (a3 : Int) (w : World) (w0 : (Lit.int .i64 a0).wf = true) (w1 : SeenV w (.slice a1 len1 cap1) l1) (v1 : ∀ v ∈ l1, (Lit.int .i64 v.n).wf = true) (w2 : SeenB w (.slice a2 len2 cap2) l2) (w3 : (Lit.int .i64 a3).wf = true) :
    Calls Try.prog 3 #[.int .i64 a0, .slice a1 len1 cap1, .slice a2 len2 cap2, .int .i64 a3] w fun e w' => e = .returned (.bool true) ∧ Below w.heap.size w w' := by
  have HS1 := Lib.hid w1; have HV1 := Lib.hid v1; have HS2 := Lib.hid w2
  obtain ⟨ao2, cc2, he2, hb1, hb2⟩ := w2.shape
  injection he2 with q1 q2 q3
  subst q1 q3
  obtain ⟨m, hm⟩ : ∃ m, m = len2 := ⟨_, rfl⟩
  have hml : l2.length = len2 := q2.symm
  have HML := Lib.hid hml
  have hmc : len2 ≤ cap2 := by omega
  have hmx : len2 ≤ 9223372036854775807 := by unfold maxLen at hb2; omega
  have HQ := Lib.hid (fun wx => within17 a0 4 4 wx rfl (by decide) (by decide) w0)
  have HQ2 := Lib.hid (fun (N : Nat) (hN : 1 ≤ N) (hN2 : N ≤ 100) wx => within17 a3 (N : Int) N wx rfl hN (by omega) w3)
  obtain ⟨K, hK⟩ : ∃ K, K = (a0 % ((4 : Nat) : Int)).toNat := ⟨_, rfl⟩
  have hK4 : K < 4 := by rw [hK]; exact within_lt a0 4 (by decide)
  rw [← hK] at HQ
  clear w1 v1 w2 w0 w3 hK hm q2 hml hb1 hb2
  go_enter Try.func3, Try.ntmps3
  go_wp2_with fail
  refine (known17_any _).mono ?_
  rintro e wA ⟨rfl, hk⟩
  have HKA := Lib.hid hk
  clear hk
  go_wp2_with fail
  refine (HQ.out _).mono ?_
  rintro e wB ⟨rfl, rfl⟩
  go_wp2_with fail
  obtain ⟨k, hk⟩ : ∃ k, k = K + 1 := ⟨_, rfl⟩
  have hk4 : 1 ≤ k ∧ k ≤ 4 := by omega
  simp only [show (1 : Int) + (K : Int) = (k : Int) by omega, show (K : Int) + 1 = (k : Int) by omega]
  clear hk hK4 HQ
  refine (all11_any k hk4 _ l1 wA (HS1.out.keep HKA.out) HV1.out).mono ?_
  rintro e wC ⟨xv, rfl, hc, ho⟩
  obtain ⟨lo, lc, rfl⟩ := own_shape ho
  have hL60 := allV_len k l1
  have HOK := Lib.hid (allV_ok k l1 HV1.out)
  obtain ⟨L, hL⟩ : ∃ L, L = allV k l1 := ⟨_, rfl⟩
  rw [← hL] at ho hL60 HOK ⊢
  obtain ⟨n, hn⟩ : ∃ n, n = L.length := ⟨_, rfl⟩
  rw [← hn] at ho hL60 ⊢
  have HN := Lib.hid hn
  have hro := own_room ho
  have HSL := Lib.hid (SeenK.own V.cs_len ho hn.symm)
  have HWC := Lib.hid (HKA.out.trans hc (by simp))
  clear hc ho hL hn
  go_wp2_with fail
  refine (column17_any _ _ L l2 wC HSL.out (HS2.out.keep HWC.out) (by rw [← HN.out]; omega)).mono ?_
  rintro e wD ⟨rv, dv, vv, rfl, hc, hd, hv, ro, rc, rfl⟩
  obtain ⟨dO, dc, rfl, -, -⟩ := hd.shape
  obtain ⟨vO, vc, rfl, -, -⟩ := hv.shape
  have HD := Lib.hid hc; have HSD := Lib.hid hd; have HSV := Lib.hid hv
  clear hc hd hv
  go_wp2_with fail
  obtain ⟨wE, hwE⟩ : ∃ z, z = (wD.alloc (.cells #[.int .i64 0, .int .i64 0, .int .i64 1, .int .i64 (k : Int)] 28)).alloc (.cells #[.slice ro L.length rc, .slice dO (colD17 L l2).length dc, .slice vO (colV17 L l2).length vc] 31) := ⟨_, rfl⟩
  rw [← hwE]
  have HE := Lib.hid (show Chg [] wD wE by rw [hwE]; exact ((Chg.refl [] _).alloc _).alloc _)
  have HG1 := Lib.hid (show wE.heap[wD.heap.size]? = some (.cells #[.int .i64 0, .int .i64 0, .int .i64 1, .int .i64 (k : Int)] 28 (0, 0)) by rw [hwE]; exact at20w wD _ _)
  have HG2 := Lib.hid (show wE.heap[wD.heap.size + 1]? = some (.cells #[.slice ro L.length rc, .slice dO (colD17 L l2).length dc, .slice vO (colV17 L l2).length vc] 31 (0, 0)) by rw [hwE]; exact new2 wD _ _)
  clear hwE
  generalize Value.slice ro L.length rc = P1 at HG2 ⊢
  generalize Value.slice dO (colD17 L l2).length dc = P2 at HG2 HSD ⊢
  generalize Value.slice vO (colV17 L l2).length vc = P3 at HG2 HSV ⊢
  generalize wD.heap.size + 1 = g12 at HG2 ⊢
  generalize wD.heap.size = g11 at HG1 ⊢
  obtain ⟨s, hs⟩ := Is.ex k (L.length - (colV17 L l2).length) (colV17 L l2)
  have HIS := Lib.hid hs
  have HOS := Lib.hid (fun wx (h : Chg [] wE wx) => of_det k hk4 P1 P2 P3 L l2 s wx (HSD.out.keep (HE.out.trans h (by simp))) (HSV.out.keep (HE.out.trans h (by simp))) (by rw [← HN.out]; omega) HOK.out hs)
  have HRS := Lib.hid (fun wx (h : Chg [] wE wx) => rof_det k hk4 P1 P2 P3 L l2 s wx (HSD.out.keep (HE.out.trans h (by simp))) (HSV.out.keep (HE.out.trans h (by simp))) (by rw [← HN.out]; omega) HOK.out hs)
  clear hs
  refine (HOS.out wE (Chg.refl _ _)).mono ?_
  rintro e wF ⟨rfl, hc⟩
  have HF := Lib.hid hc
  clear hc
  go_wp2_with fail
  have HQ3 := HQ2.out (n + 1) (by omega) (by omega)
  rw [show ((n + 1 : Nat) : Int) = (n : Int) + 1 by omega] at HQ3
  obtain ⟨cu, hcu⟩ : ∃ c, c = (a3 % ((n : Int) + 1)).toNat := ⟨_, rfl⟩
  have hcun : cu ≤ n := by
    have := within_lt a3 (n + 1) (by omega)
    rw [show ((n + 1 : Nat) : Int) = (n : Int) + 1 by omega] at this
    omega
  rw [← hcu] at HQ3
  refine (HQ3 _).mono ?_
  rintro e wX ⟨rfl, rfl⟩
  clear hcu HQ3 HQ2
  obtain ⟨wG, hwG⟩ : ∃ z, z = wF.alloc (.cells (stC s) 37) := ⟨_, rfl⟩
  rw [← hwG]
  have HG := Lib.hid (show Chg [] wF wG by rw [hwG]; exact (Chg.refl [] _).alloc _)
  have HG3 := Lib.hid (show wG.heap[wF.heap.size]? = some (.cells (stC s) 37 (0, 0)) by rw [hwG]; exact heap_alloc_new wF _)
  clear hwG
  generalize wF.heap.size = g13 at HG3 ⊢
  have HCQ := Lib.hid (show Chg [] wC wG from HD.out.trans (HE.out.trans (HF.out.trans HG.out (by simp)) (by simp)) (by simp))
  obtain ⟨fo, fc, hfs, hfr⟩ := run_front_v (HSL.out.keep HCQ.out) hro.1 cu hcun
  obtain ⟨so, sc, hss, hsr⟩ := run_back_v (HSL.out.keep HCQ.out) HN.out.symm hro.1 cu hcun
  obtain ⟨La, hLa⟩ : ∃ x, x = L.take cu := ⟨_, rfl⟩
  obtain ⟨Lb, hLb⟩ : ∃ x, x = L.drop cu := ⟨_, rfl⟩
  rw [← hLa] at hfs
  rw [← hLb] at hss
  have HFS := Lib.hid hfs; have HSS := Lib.hid hss
  have hla : La.length = cu := by rw [hLa, List.length_take, ← HN.out]; omega
  have hlb : Lb.length = n - cu := by rw [hLb, List.length_drop, ← HN.out]
  have HLA := Lib.hid hla; have HLB := Lib.hid hlb
  have HLAB := Lib.hid (show L = La ++ Lb by rw [hLa, hLb, List.take_append_drop])
  have hla60 : La.length ≤ 60 := by omega
  have hlb60 : Lb.length ≤ 60 := by omega
  clear hfs hss hLa hLb hla hlb
  have hcu64 : (cu : Int) ≤ 100 := by omega
  go_wp2_with fail
  refine (column17_any _ _ La l2 wG HFS.out (HS2.out.keep (HWC.out.trans HCQ.out (by simp))) (by omega)).mono ?_
  rintro e wH ⟨rv, dv, vv, rfl, hc, hd, hv, ro, rc, rfl⟩
  obtain ⟨dO, dc, rfl, -, -⟩ := hd.shape
  obtain ⟨vO, vc, rfl, -, -⟩ := hv.shape
  have HH := Lib.hid hc; have HSD2 := Lib.hid hd; have HSV2 := Lib.hid hv
  clear hc hd hv
  go_wp2_with fail
  obtain ⟨wI, hwI⟩ : ∃ z, z = (wH.alloc (.cells #[.int .i64 0, .int .i64 0, .int .i64 1, .int .i64 0] 28)).alloc (.cells #[.slice ro La.length rc, .slice dO (colD17 La l2).length dc, .slice vO (colV17 La l2).length vc] 31) := ⟨_, rfl⟩
  rw [← hwI]
  have HI := Lib.hid (show Chg [] wH wI by rw [hwI]; exact ((Chg.refl [] _).alloc _).alloc _)
  have HG4 := Lib.hid (show wI.heap[wH.heap.size + 1]? = some (.cells #[.slice ro La.length rc, .slice dO (colD17 La l2).length dc, .slice vO (colV17 La l2).length vc] 31 (0, 0)) by rw [hwI]; exact new2 wH _ _)
  clear hwI
  generalize Value.slice ro La.length rc = A1 at HG4 ⊢
  generalize Value.slice dO (colD17 La l2).length dc = A2 at HG4 HSD2 ⊢
  generalize Value.slice vO (colV17 La l2).length vc = A3 at HG4 HSV2 ⊢
  generalize wH.heap.size + 1 = g16 at HG4 ⊢
  have HGI := Lib.hid (show Chg [] wG wI from HH.out.trans HI.out (by simp))
  have HS3 := Lib.hid (HS2.out.keep (HWC.out.trans (HCQ.out.trans HGI.out (by simp)) (by simp)))
  obtain ⟨mi, hmi⟩ : ∃ z, z = min cu len2 := ⟨_, rfl⟩
  obtain ⟨tO, tc, hts, htr⟩ := run_back_B HS3.out HML.out hmc mi (by omega)
  have hmn : (if (len2 : Int) < (cu : Int) then (len2 : Int) else (cu : Int)) = (mi : Int) := by
    rw [hmi]
    split <;> omega
  have hmn2 : (if len2 < cu then (len2 : Int) else (cu : Int)) = (mi : Int) := by
    rw [hmi]
    split <;> omega
  have hmn3 : min (cu : Int) (len2 : Int) = (mi : Int) := by
    rw [hmi]
    omega
  have hdrop : l2.drop mi = l2.drop cu := by
    by_cases h : cu ≤ len2
    · rw [hmi, Nat.min_eq_left h]
    · rw [hmi, Nat.min_eq_right (by omega), List.drop_of_length_le (by rw [HML.out]; omega), List.drop_of_length_le (by rw [HML.out]; omega)]
  rw [hdrop] at hts
  have HTS := Lib.hid hts
  have hmi64 : (mi : Int) ≤ 100 := by omega
  clear hts hmi hdrop
  obtain ⟨bb, hbb⟩ : ∃ b, b = l2.drop cu := ⟨_, rfl⟩
  rw [← hbb] at HTS
  have HBB := Lib.hid hbb
  have HS5 := Lib.hid (HSS.out.keep HGI.out)
  clear hbb
  have HPOS := Lib.hid (show 0 < wI.heap.size from by
    have h1 := Go.lt_of_block HG4.out
    omega)
  have HCO := Lib.hid (fun wx (h : Chg [] wI wx) => columnF_any (.slice so (n - cu) sc) (.slice tO (len2 - mi) tc) Lb bb wx (HS5.out.keep h) (HTS.out.keep h) (by omega))
  refine wp_region_any (by kernel_rfl) ?_
  change wpAny _ _ _ _ _ _ _ (World.drew _)
  refine wpAny_inv (JISf10 n cu mi len2 cap2 lo a2 so tO lc sc tc k g11 g12 g13 g16 Lb bb wI) ?_ (fun listed a' w' hI hr => ?_) _ _ _ _ ?_ ?_
  rotate_left 2
  focus exact JISf10_start rfl ((Chg.refl [] wI).drew)
  focus exact count_rep _
  focus
    intro listed a' w' hI ii hi hr
    obtain ⟨b, base, u, ga, gb, ro, dO, vO, rc, dc, vc, rfl, rfl, R⟩ := hI
    have hcs := ltSf10 ii hi
    clear hi
    unfold FRSf10
    rcases hcs with rfl | rfl | rfl | rfl | rfl | rfl | rfl | rfl | rfl | rfl | rfl | rfl | rfl | rfl | rfl | rfl | rfl
    · have hrd := ready_at rfl hr
      clear hr
      simp [Region.binds] at hrd
      clear hrd
      refine wpOp_step rfl (fun K hK => ?_)
      go_simp
      refine hK _ _ ?_
      exact ⟨upd b 0 true, base, (upd u 55 (.slice lo n lc)), ga, gb, ro, dO, vO, rc, dc, vc, rfl, rfl, ⟨(fun _ => rfl), R.c1, R.c2, R.c3, R.c4, R.c5, R.c6, R.c7, R.c8, R.c9, R.c10, R.c11, R.c12, R.c13, R.c14, R.cg, R.m9, R.a0, R.b0, R.m13, R.m14, R.n14, R.dd, R.z10_9, R.z12_9, R.z15_13, R.z16_14, R.z16_9⟩⟩
    · have hrd := ready_at rfl hr
      clear hr
      simp [Region.binds] at hrd
      clear hrd
      refine wpOp_step rfl (fun K hK => ?_)
      go_simp
      refine hK _ _ ?_
      exact ⟨upd b 1 true, base, (upd u 56 (.int .i64 (cu : Int))), ga, gb, ro, dO, vO, rc, dc, vc, rfl, rfl, ⟨R.c0, (fun _ => rfl), R.c2, R.c3, R.c4, R.c5, R.c6, R.c7, R.c8, R.c9, R.c10, R.c11, R.c12, R.c13, R.c14, R.cg, R.m9, R.a0, R.b0, R.m13, R.m14, R.n14, R.dd, R.z10_9, R.z12_9, R.z15_13, R.z16_14, R.z16_9⟩⟩
    · have hrd := ready_at rfl hr
      clear hr
      simp [Region.binds] at hrd
      have h0 : b 0 = true := by simp [hrd]
      have e0 := R.c0 h0
      have h1 : b 1 = true := by simp [hrd]
      have e1 := R.c1 h1
      clear hrd
      refine wpOp_step rfl (fun K hK => ?_)
      go_simp
      refine hK _ _ ?_
      exact ⟨upd b 2 true, base, (upd (upd (upd u 55 (.slice lo n lc)) 56 (.int .i64 (cu : Int))) 57 (.slice so (n - cu) sc)), ga, gb, ro, dO, vO, rc, dc, vc, rfl, rfl, ⟨(fun _ => rfl), (fun _ => rfl), (fun _ => rfl), R.c3, R.c4, R.c5, R.c6, R.c7, R.c8, R.c9, R.c10, R.c11, R.c12, R.c13, R.c14, R.cg, R.m9, R.a0, R.b0, R.m13, R.m14, R.n14, R.dd, R.z10_9, R.z12_9, R.z15_13, R.z16_14, R.z16_9⟩⟩
    · have hrd := ready_at rfl hr
      clear hr
      simp [Region.binds] at hrd
      clear hrd
      refine wpOp_step rfl (fun K hK => ?_)
      go_simp
      refine hK _ _ ?_
      exact ⟨upd b 3 true, base, (upd u 58 (.slice a2 len2 cap2)), ga, gb, ro, dO, vO, rc, dc, vc, rfl, rfl, ⟨R.c0, R.c1, R.c2, (fun _ => rfl), R.c4, R.c5, R.c6, R.c7, R.c8, R.c9, R.c10, R.c11, R.c12, R.c13, R.c14, R.cg, R.m9, R.a0, R.b0, R.m13, R.m14, R.n14, R.dd, R.z10_9, R.z12_9, R.z15_13, R.z16_14, R.z16_9⟩⟩
    · have hrd := ready_at rfl hr
      clear hr
      simp [Region.binds] at hrd
      clear hrd
      refine wpOp_step rfl (fun K hK => ?_)
      go_simp
      refine hK _ _ ?_
      exact ⟨upd b 4 true, base, (upd u 59 (.int .i64 (cu : Int))), ga, gb, ro, dO, vO, rc, dc, vc, rfl, rfl, ⟨R.c0, R.c1, R.c2, R.c3, (fun _ => rfl), R.c5, R.c6, R.c7, R.c8, R.c9, R.c10, R.c11, R.c12, R.c13, R.c14, R.cg, R.m9, R.a0, R.b0, R.m13, R.m14, R.n14, R.dd, R.z10_9, R.z12_9, R.z15_13, R.z16_14, R.z16_9⟩⟩
    · have hrd := ready_at rfl hr
      clear hr
      simp [Region.binds] at hrd
      clear hrd
      refine wpOp_step rfl (fun K hK => ?_)
      go_simp
      refine hK _ _ ?_
      exact ⟨upd b 5 true, base, (upd u 60 (.slice a2 len2 cap2)), ga, gb, ro, dO, vO, rc, dc, vc, rfl, rfl, ⟨R.c0, R.c1, R.c2, R.c3, R.c4, (fun _ => rfl), R.c6, R.c7, R.c8, R.c9, R.c10, R.c11, R.c12, R.c13, R.c14, R.cg, R.m9, R.a0, R.b0, R.m13, R.m14, R.n14, R.dd, R.z10_9, R.z12_9, R.z15_13, R.z16_14, R.z16_9⟩⟩
    · have hrd := ready_at rfl hr
      clear hr
      simp [Region.binds] at hrd
      have h5 : b 5 = true := by simp [hrd]
      have e5 := R.c5 h5
      clear hrd
      refine wpOp_step rfl (fun K hK => ?_)
      go_simp
      refine hK _ _ ?_
      exact ⟨upd b 6 true, base, (upd (upd u 60 (.slice a2 len2 cap2)) 61 (.int .i64 (len2 : Int))), ga, gb, ro, dO, vO, rc, dc, vc, rfl, rfl, ⟨R.c0, R.c1, R.c2, R.c3, R.c4, (fun _ => rfl), (fun _ => rfl), R.c7, R.c8, R.c9, R.c10, R.c11, R.c12, R.c13, R.c14, R.cg, R.m9, R.a0, R.b0, R.m13, R.m14, R.n14, R.dd, R.z10_9, R.z12_9, R.z15_13, R.z16_14, R.z16_9⟩⟩
    · have hrd := ready_at rfl hr
      clear hr
      simp [Region.binds] at hrd
      have h4 : b 4 = true := by simp [hrd]
      have e4 := R.c4 h4
      have h6 : b 6 = true := by simp [hrd]
      have e6 := R.c6 h6
      clear hrd
      refine wpOp_step rfl (fun K hK => ?_)
      go_simp
      first | rw [hmn3] | rw [hmn] | rw [hmn2] | skip
      refine hK _ _ ?_
      exact ⟨upd b 7 true, base, (upd (upd (upd u 59 (.int .i64 (cu : Int))) 61 (.int .i64 (len2 : Int))) 62 (.int .i64 (mi : Int))), ga, gb, ro, dO, vO, rc, dc, vc, rfl, rfl, ⟨R.c0, R.c1, R.c2, R.c3, (fun _ => rfl), R.c5, (fun _ => rfl), (fun _ => rfl), R.c8, R.c9, R.c10, R.c11, R.c12, R.c13, R.c14, R.cg, R.m9, R.a0, R.b0, R.m13, R.m14, R.n14, R.dd, R.z10_9, R.z12_9, R.z15_13, R.z16_14, R.z16_9⟩⟩
    · have hrd := ready_at rfl hr
      clear hr
      simp [Region.binds] at hrd
      have h3 : b 3 = true := by simp [hrd]
      have e3 := R.c3 h3
      have h7 : b 7 = true := by simp [hrd]
      have e7 := R.c7 h7
      clear hrd
      refine wpOp_step rfl (fun K hK => ?_)
      go_simp
      refine hK _ _ ?_
      exact ⟨upd b 8 true, base, (upd (upd (upd u 58 (.slice a2 len2 cap2)) 62 (.int .i64 (mi : Int))) 63 (.slice tO (len2 - mi) tc)), ga, gb, ro, dO, vO, rc, dc, vc, rfl, rfl, ⟨R.c0, R.c1, R.c2, (fun _ => rfl), R.c4, R.c5, R.c6, (fun _ => rfl), (fun _ => rfl), R.c9, R.c10, R.c11, R.c12, R.c13, R.c14, R.cg, R.m9, R.a0, R.b0, R.m13, R.m14, R.n14, R.dd, R.z10_9, R.z12_9, R.z15_13, R.z16_14, R.z16_9⟩⟩
    · have hrd := ready_at rfl hr
      clear hr
      simp [Region.binds] at hrd
      have h2 : b 2 = true := by simp [hrd]
      have e2 := R.c2 h2
      have h8 : b 8 = true := by simp [hrd]
      have e8 := R.c8 h8
      have hb9 : b 9 = false := by simp [hrd]
      clear hrd
      refine wpOp_step rfl (fun K hK => ?_)
      go_simp
      go_at_call 11
      (with_reducible refine (HCO.out w' R.cg).mono ?_)
      rintro e w4 ⟨rv, dv, vv, rfl, hk3, hd, ro9, rc9, rfl⟩
      have hd0 := hd [] w4 (Chg.refl _ _) (by simp)
      obtain ⟨dO9, dc9, rfl, -, -⟩ := hd0.1.shape
      obtain ⟨vO9, vc9, rfl, -, -⟩ := hd0.2.shape
      refine hK _ _ ?_
      exact ⟨upd b 9 true, base, (upd (upd (upd u 57 (.slice so (n - cu) sc)) 63 (.slice tO (len2 - mi) tc)) 64 (.tuple #[.agg #[.int .i64 0, .int .i64 0, .int .i64 1, .int .i64 0], .agg #[.slice ro9 Lb.length rc9, .slice dO9 (colD17 Lb bb).length dc9, .slice vO9 (colV17 Lb bb).length vc9]])), ga, gb, ro9, dO9, vO9, rc9, dc9, vc9, rfl, rfl, ⟨R.c0, R.c1, (fun _ => rfl), R.c3, R.c4, R.c5, R.c6, R.c7, (fun _ => rfl), (fun _ => rfl), (fun h => absurd (R.z10_9 h) (by rw [hb9]; decide)), R.c11, (fun h => absurd (R.z12_9 h) (by rw [hb9]; decide)), R.c13, R.c14, (R.cg.trans hk3 (by simp)), (fun _ wz hz => hd _ wz hz (fun g hg => by rcases List.mem_cons.1 hg with rfl | hg2; (cases hq : b 13; (rw [R.a0 hq]; have := HPOS.out; have := R.cg.size; exact .inl (by omega)); exact .inl (R.m13 hq).2.1); (rw [List.mem_singleton] at hg2; subst hg2; cases hq : b 14; (rw [R.b0 hq]; have := HPOS.out; have := R.cg.size; exact .inl (by omega)); exact .inl (R.m14 hq).2.1))), R.a0, R.b0, (fun h => ⟨(R.m13 h).1, Nat.lt_of_lt_of_le (R.m13 h).2.1 hk3.size, fun h5 => hk3.heap ((R.m13 h).2.2 h5) (by simp)⟩), (fun h => ⟨(R.m14 h).1, Nat.lt_of_lt_of_le (R.m14 h).2.1 hk3.size, fun h5 => hk3.heap ((R.m14 h).2.2 h5) (by simp)⟩), (fun h => absurd (R.z16_9 h) (by rw [hb9]; decide)), R.dd, (fun _ => rfl), (fun _ => rfl), R.z15_13, R.z16_14, (fun _ => rfl)⟩⟩
    · have hrd := ready_at rfl hr
      clear hr
      simp [Region.binds] at hrd
      have h9 : b 9 = true := by simp [hrd]
      have e9 := R.c9 h9
      clear hrd
      refine wpOp_step rfl (fun K hK => ?_)
      go_simp
      refine hK _ _ ?_
      exact ⟨upd b 10 true, base, (upd (upd u 64 (.tuple #[.agg #[.int .i64 0, .int .i64 0, .int .i64 1, .int .i64 0], .agg #[.slice ro Lb.length rc, .slice dO (colD17 Lb bb).length dc, .slice vO (colV17 Lb bb).length vc]])) 54 (.tuple #[.agg #[.int .i64 0, .int .i64 0, .int .i64 1, .int .i64 0], .agg #[.slice ro Lb.length rc, .slice dO (colD17 Lb bb).length dc, .slice vO (colV17 Lb bb).length vc]])), ga, gb, ro, dO, vO, rc, dc, vc, rfl, rfl, ⟨R.c0, R.c1, R.c2, R.c3, R.c4, R.c5, R.c6, R.c7, R.c8, (fun _ => rfl), (fun _ => rfl), R.c11, R.c12, R.c13, R.c14, R.cg, R.m9, R.a0, R.b0, R.m13, R.m14, R.n14, R.dd, (fun _ => h9), R.z12_9, R.z15_13, R.z16_14, R.z16_9⟩⟩
    · have hrd := ready_at rfl hr
      clear hr
      simp [Region.binds] at hrd
      have h10 : b 10 = true := by simp [hrd]
      have e10 := R.c10 h10
      clear hrd
      refine wpOp_step rfl (fun K hK => ?_)
      go_simp
      refine hK _ _ ?_
      exact ⟨upd b 11 true, base, (upd (upd u 54 (.tuple #[.agg #[.int .i64 0, .int .i64 0, .int .i64 1, .int .i64 0], .agg #[.slice ro Lb.length rc, .slice dO (colD17 Lb bb).length dc, .slice vO (colV17 Lb bb).length vc]])) 65 (.agg #[.int .i64 0, .int .i64 0, .int .i64 1, .int .i64 0])), ga, gb, ro, dO, vO, rc, dc, vc, rfl, rfl, ⟨R.c0, R.c1, R.c2, R.c3, R.c4, R.c5, R.c6, R.c7, R.c8, R.c9, (fun _ => rfl), (fun _ => rfl), R.c12, R.c13, R.c14, R.cg, R.m9, R.a0, R.b0, R.m13, R.m14, R.n14, R.dd, R.z10_9, R.z12_9, R.z15_13, R.z16_14, R.z16_9⟩⟩
    · have hrd := ready_at rfl hr
      clear hr
      simp [Region.binds] at hrd
      have h10 : b 10 = true := by simp [hrd]
      have e10 := R.c10 h10
      clear hrd
      refine wpOp_step rfl (fun K hK => ?_)
      go_simp
      refine hK _ _ ?_
      exact ⟨upd b 12 true, base, (upd (upd u 54 (.tuple #[.agg #[.int .i64 0, .int .i64 0, .int .i64 1, .int .i64 0], .agg #[.slice ro Lb.length rc, .slice dO (colD17 Lb bb).length dc, .slice vO (colV17 Lb bb).length vc]])) 66 (.agg #[.slice ro Lb.length rc, .slice dO (colD17 Lb bb).length dc, .slice vO (colV17 Lb bb).length vc])), ga, gb, ro, dO, vO, rc, dc, vc, rfl, rfl, ⟨R.c0, R.c1, R.c2, R.c3, R.c4, R.c5, R.c6, R.c7, R.c8, R.c9, (fun _ => rfl), R.c11, (fun _ => rfl), R.c13, R.c14, R.cg, R.m9, R.a0, R.b0, R.m13, R.m14, R.n14, R.dd, R.z10_9, (fun _ => R.z10_9 h10), R.z15_13, R.z16_14, R.z16_9⟩⟩
    · have hrd := ready_at rfl hr
      clear hr
      simp [Region.binds] at hrd
      have hb13 : b 13 = false := by simp [hrd]
      clear hrd
      have hk3 := (Chg.refl [] w').alloc (.cells #[.int .i64 0, .int .i64 0, .int .i64 0, .int .i64 0] 28)
      refine wpOp_step rfl (fun K hK => ?_)
      go_simp
      refine hK _ _ ?_
      exact ⟨upd b 13 true, base, (upd u 17 (.pointer (some ⟨w'.heap.size, 0, none⟩))), w'.heap.size, gb, ro, dO, vO, rc, dc, vc, rfl, rfl, ⟨R.c0, R.c1, R.c2, R.c3, R.c4, R.c5, R.c6, R.c7, R.c8, R.c9, R.c10, R.c11, R.c12, (fun _ => rfl), R.c14, (R.cg.trans hk3 (by simp)), (fun h wz hz => R.m9 h wz (((hk3.mono (by simp)).trans hz (fun t ht => .inl ht)).mono (fun t ht => by rcases List.mem_cons.1 ht with rfl | ht2; exact .inr (Nat.le_refl _); exact .inl (by simp at ht2; simp [ht2])))), (fun h => by cases h), R.b0, (fun _ => ⟨R.cg.size, by simp, fun _ => hl_new rfl⟩), (fun h => ⟨(R.m14 h).1, Nat.lt_of_lt_of_le (R.m14 h).2.1 hk3.size, fun h5 => hk3.heap ((R.m14 h).2.2 h5) (by simp)⟩), (fun h => hk3.heap (R.n14 h) (by simp)), (fun _ h => by have := (R.m14 h).2.1; omega), R.z10_9, R.z12_9, (fun _ => rfl), R.z16_14, R.z16_9⟩⟩
    · have hrd := ready_at rfl hr
      clear hr
      simp [Region.binds] at hrd
      have hb14 : b 14 = false := by simp [hrd]
      clear hrd
      have hk3 := (Chg.refl [] w').alloc (.cells #[.slice none 0 0, .slice none 0 0, .slice none 0 0] 31)
      refine wpOp_step rfl (fun K hK => ?_)
      go_simp
      refine hK _ _ ?_
      exact ⟨upd b 14 true, base, (upd u 18 (.pointer (some ⟨w'.heap.size, 0, none⟩))), ga, w'.heap.size, ro, dO, vO, rc, dc, vc, rfl, rfl, ⟨R.c0, R.c1, R.c2, R.c3, R.c4, R.c5, R.c6, R.c7, R.c8, R.c9, R.c10, R.c11, R.c12, R.c13, (fun _ => rfl), (R.cg.trans hk3 (by simp)), (fun h wz hz => R.m9 h wz (((hk3.mono (by simp)).trans hz (fun t ht => .inl ht)).mono (fun t ht => by rcases List.mem_cons.1 ht with rfl | ht2; exact .inl (by simp); exact .inr (by simp at ht2; rw [ht2]; exact Nat.le_refl _)))), R.a0, (fun h => by cases h), (fun h => ⟨(R.m13 h).1, Nat.lt_of_lt_of_le (R.m13 h).2.1 hk3.size, fun h5 => hk3.heap ((R.m13 h).2.2 h5) (by simp)⟩), (fun _ => ⟨R.cg.size, by simp, fun _ => hl_new rfl⟩), (fun h => absurd (R.z16_14 h) (by rw [hb14]; decide)), (fun h _ => by have := (R.m13 h).2.1; omega), R.z10_9, R.z12_9, R.z15_13, (fun _ => rfl), R.z16_9⟩⟩
    · have hrd := ready_at rfl hr
      clear hr
      simp [Region.binds] at hrd
      have h11 : b 11 = true := by simp [hrd]
      have e11 := R.c11 h11
      have h13 : b 13 = true := by simp [hrd]
      have e13 := R.c13 h13
      have hb15 : b 15 = false := by simp [hrd]
      clear hrd
      have hx := (R.m13 h13).2.2 hb15
      have hfz : ∀ q, w'.frozen? ⟨ga, q, none⟩ = false := fun q => by simp [World.frozen?, hx]
      have hz0 : w'.cell? ⟨ga, 0, none⟩ = some (.int .i64 0) := by rw [cell_of_row _ _ _ _ _ _ hx]; rfl
      have hz1 : w'.cell? ⟨ga, 1, none⟩ = some (.int .i64 0) := by rw [cell_of_row _ _ _ _ _ _ hx]; rfl
      have hz2 : w'.cell? ⟨ga, 2, none⟩ = some (.int .i64 0) := by rw [cell_of_row _ _ _ _ _ _ hx]; rfl
      have hz3 : w'.cell? ⟨ga, 3, none⟩ = some (.int .i64 0) := by rw [cell_of_row _ _ _ _ _ _ hx]; rfl
      refine wpOp_step rfl (fun K hK => ?_)
      go_simp
      refine hK _ _ ?_
      exact ⟨upd b 15 true, base, (upd (upd u 65 (.agg #[.int .i64 0, .int .i64 0, .int .i64 1, .int .i64 0])) 17 (.pointer (some ⟨ga, 0, none⟩))), ga, gb, ro, dO, vO, rc, dc, vc, rfl, rfl, ⟨R.c0, R.c1, R.c2, R.c3, R.c4, R.c5, R.c6, R.c7, R.c8, R.c9, R.c10, (fun _ => rfl), R.c12, (fun _ => rfl), R.c14, ((((R.cg.setCell (.inr (R.m13 h13).1) _).setCell (.inr (R.m13 h13).1) _).setCell (.inr (R.m13 h13).1) _).setCell (.inr (R.m13 h13).1) _), (fun h wz hz => R.m9 h wz ((((((Chg.refl [ga, gb] w').setCell (.inl (by simp)) _).setCell (.inl (by simp)) _).setCell (.inl (by simp)) _).setCell (.inl (by simp)) _).trans hz (fun t ht => .inl ht))), R.a0, R.b0, (fun _ => ⟨(R.m13 h13).1, by simpa using (R.m13 h13).2.1, fun h => by cases h⟩), (fun h => ⟨(R.m14 h).1, by simpa using (R.m14 h).2.1, fun h5 => other2 (other2 ((R.m14 h).2.2 h5) (Ne.symm (R.dd h13 h))) (Ne.symm (R.dd h13 h))⟩), (fun h => other2 (other2 (R.n14 h) (Ne.symm (R.dd h13 (R.z16_14 h)))) (Ne.symm (R.dd h13 (R.z16_14 h)))), R.dd, R.z10_9, R.z12_9, (fun _ => h13), R.z16_14, R.z16_9⟩⟩
    · have hrd := ready_at rfl hr
      clear hr
      simp [Region.binds] at hrd
      have h12 : b 12 = true := by simp [hrd]
      have e12 := R.c12 h12
      have h14 : b 14 = true := by simp [hrd]
      have e14 := R.c14 h14
      have hb16 : b 16 = false := by simp [hrd]
      clear hrd
      have hx := (R.m14 h14).2.2 hb16
      have hfz : ∀ q, w'.frozen? ⟨gb, q, none⟩ = false := fun q => by simp [World.frozen?, hx]
      have hz0 : w'.cell? ⟨gb, 0, none⟩ = some (.slice none 0 0) := by rw [cell_of_row _ _ _ _ _ _ hx]; rfl
      have hz1 : w'.cell? ⟨gb, 1, none⟩ = some (.slice none 0 0) := by rw [cell_of_row _ _ _ _ _ _ hx]; rfl
      have hz2 : w'.cell? ⟨gb, 2, none⟩ = some (.slice none 0 0) := by rw [cell_of_row _ _ _ _ _ _ hx]; rfl
      refine wpOp_step rfl (fun K hK => ?_)
      go_simp
      refine hK _ _ ?_
      exact ⟨upd b 16 true, base, (upd (upd u 66 (.agg #[.slice ro Lb.length rc, .slice dO (colD17 Lb bb).length dc, .slice vO (colV17 Lb bb).length vc])) 18 (.pointer (some ⟨gb, 0, none⟩))), ga, gb, ro, dO, vO, rc, dc, vc, rfl, rfl, ⟨R.c0, R.c1, R.c2, R.c3, R.c4, R.c5, R.c6, R.c7, R.c8, R.c9, R.c10, R.c11, (fun _ => rfl), R.c13, (fun _ => rfl), (((R.cg.setCell (.inr (R.m14 h14).1) _).setCell (.inr (R.m14 h14).1) _).setCell (.inr (R.m14 h14).1) _), (fun h wz hz => R.m9 h wz (((((Chg.refl [ga, gb] w').setCell (.inl (by simp)) _).setCell (.inl (by simp)) _).setCell (.inl (by simp)) _).trans hz (fun t ht => .inl ht))), R.a0, R.b0, (fun h => ⟨(R.m13 h).1, by simpa using (R.m13 h).2.1, fun h5 => other1 (other2 ((R.m13 h).2.2 h5) (R.dd h h14)) (R.dd h h14)⟩), (fun _ => ⟨(R.m14 h14).1, by simpa using (R.m14 h14).2.1, fun h => by cases h⟩), (fun _ => set3 hx _ _ _), R.dd, R.z10_9, R.z12_9, R.z15_13, (fun _ => h14), (fun _ => R.z12_9 h12)⟩⟩
  obtain ⟨b, base, u, ga, gb, ro, dO, vO, rc, dc, vc, rfl, rfl, R⟩ := hI
  have hall := ready_all2 hr rfl (by kernel_rfl)
  have h9 : b 9 = true := Option.some.inj (hall 9 (by decide))
  have e9 := R.c9 h9
  have h10 : b 10 = true := Option.some.inj (hall 10 (by decide))
  have e10 := R.c10 h10
  have h11 : b 11 = true := Option.some.inj (hall 11 (by decide))
  have e11 := R.c11 h11
  have h12 : b 12 = true := Option.some.inj (hall 12 (by decide))
  have e12 := R.c12 h12
  have h13 : b 13 = true := Option.some.inj (hall 13 (by decide))
  have e13 := R.c13 h13
  have h14 : b 14 = true := Option.some.inj (hall 14 (by decide))
  have e14 := R.c14 h14
  have h15 : b 15 = true := Option.some.inj (hall 15 (by decide))
  have h16 : b 16 = true := Option.some.inj (hall 16 (by decide))
  have N14 := Lib.hid (R.n14 h16)
  have MB := Lib.hid (R.m9 h9 _ (Chg.refl _ _))
  have HCG := Lib.hid R.cg
  unfold FRSf10
  rw [e9, e10, e11, e12, e13, e14]
  clear e9 e10 e11 e12 e13 e14
  clear R hr hall h9 h10 h11 h12 h13 h14 h15 h16

  generalize w' = wK at HCG N14 MB ⊢
  have HIK := Lib.hid HCG.out
  generalize Value.slice ro Lb.length rc = B1 at N14 ⊢
  generalize Value.slice dO (colD17 Lb bb).length dc = B2 at N14 MB ⊢
  generalize Value.slice vO (colV17 Lb bb).length vc = B3 at N14 MB ⊢
  generalize gb = g18 at N14 ⊢
  have HEK := Lib.hid (show Chg [] wE wK from HF.out.trans (HG.out.trans (HGI.out.trans HIK.out (by simp)) (by simp)) (by simp))
  have HHK := Lib.hid (show Chg [] wH wK from HI.out.trans HIK.out (by simp))
  have HG1 := Lib.hid (HEK.out.heap HG1.out (by simp))
  have HG2 := Lib.hid (HEK.out.heap HG2.out (by simp))
  have HG3 := Lib.hid ((HGI.out.trans HIK.out (by simp)).heap HG3.out (by simp))
  have HG4 := Lib.hid (HIK.out.heap HG4.out (by simp))
  have hcl : ∀ wx, Chg [] wK wx → (wx.cell? ⟨g11, 0, none⟩ = some (.int .i64 0) ∧ wx.cell? ⟨g11, 1, none⟩ = some (.int .i64 0) ∧ wx.cell? ⟨g11, 2, none⟩ = some (.int .i64 1) ∧ wx.cell? ⟨g11, 3, none⟩ = some (.int .i64 (k : Int)) ∧ wx.cell? ⟨g16, 0, none⟩ = some A1 ∧ wx.cell? ⟨g16, 1, none⟩ = some A2 ∧ wx.cell? ⟨g16, 2, none⟩ = some A3 ∧ wx.cell? ⟨g18, 0, none⟩ = some B1 ∧ wx.cell? ⟨g18, 1, none⟩ = some B2 ∧ wx.cell? ⟨g18, 2, none⟩ = some B3) := fun wx h => by
    have X0 := h.heap HG1.out (by simp)
    have X1 := h.heap HG4.out (by simp)
    have X2 := h.heap N14.out (by simp)
    refine ⟨?_, ?_, ?_, ?_, ?_, ?_, ?_, ?_, ?_, ?_⟩
    · rw [cell_of_row _ _ _ _ _ _ X0]; rfl
    · rw [cell_of_row _ _ _ _ _ _ X0]; rfl
    · rw [cell_of_row _ _ _ _ _ _ X0]; rfl
    · rw [cell_of_row _ _ _ _ _ _ X0]; rfl
    · rw [cell_of_row _ _ _ _ _ _ X1]; rfl
    · rw [cell_of_row _ _ _ _ _ _ X1]; rfl
    · rw [cell_of_row _ _ _ _ _ _ X1]; rfl
    · rw [cell_of_row _ _ _ _ _ _ X2]; rfl
    · rw [cell_of_row _ _ _ _ _ _ X2]; rfl
    · rw [cell_of_row _ _ _ _ _ _ X2]; rfl
  have HCLA := Lib.hid hcl
  clear hcl
  obtain ⟨x, hx⟩ := Is.ex k (La.length - (colV17 La l2).length) (colV17 La l2)
  obtain ⟨y, hy⟩ := Is.ex k (Lb.length - (colV17 Lb bb).length) (colV17 Lb bb)
  have hokA : ∀ v ∈ La, okV k v := fun v hv => HOK.out v (by rw [HLAB.out]; exact List.mem_append_left _ hv)
  have hokB : ∀ v ∈ Lb, okV k v := fun v hv => HOK.out v (by rw [HLAB.out]; exact List.mem_append_right _ hv)
  have HO1 := Lib.hid (fun wx (h : Chg [] wK wx) => of_det k hk4 A1 A2 A3 La l2 x wx (HSD2.out.keep (HHK.out.trans h (by simp))) (HSV2.out.keep (HHK.out.trans h (by simp))) (by omega) hokA hx)
  have HO2 := Lib.hid (fun wx (h : Chg [] wK wx) => of_det k hk4 B1 B2 B3 Lb bb y wx (MB.out.1.keep h) (MB.out.2.keep h) (by omega) hokB hy)
  have HRK := Lib.hid (fun wx (h : Chg [] wK wx) => HRS.out wx (HEK.out.trans h (by simp)))
  have hV : colV17 L l2 = colV17 La l2 ++ colV17 Lb bb := by
    rw [HLAB.out, colV17_app, HLA.out, HBB.out]
  have hcle : ∀ (l : List V) (b : List Bool), (colV17 l b).length ≤ l.length := fun l b => by
    rw [colV17_cnt]
    have : cntD 1 (colD17 l b) ≤ _ := List.length_filter_le _ _
    rw [colD17_len] at this
    exact this
  have hZ : L.length - (colV17 L l2).length = (La.length - (colV17 La l2).length) + (Lb.length - (colV17 Lb bb).length) := by
    have h1 := hcle La l2; have h2 := hcle Lb bb
    have h3 : L.length = La.length + Lb.length := by rw [HLAB.out, List.length_append]
    rw [hV, List.length_append]
    omega
  have hs := HIS.out
  rw [hZ, hV] at hs
  have okA : ∀ v ∈ colV17 La l2, okV k v := fun v hv => hokA v (colV17_mem _ _ v hv)
  have okB : ∀ v ∈ colV17 Lb bb, okV k v := fun v hv => hokB v (colV17_mem _ _ v hv)
  have zA : La.length - (colV17 La l2).length ≤ 60 := by omega
  have zB : Lb.length - (colV17 Lb bb).length ≤ 60 := by omega
  have okAB : ∀ v ∈ colV17 La l2 ++ colV17 Lb bb, okV k v := fun v hv => (List.mem_append.1 hv).elim (okA v) (okB v)
  have e1 : jnS k x y = s := (hx.join hy).eq hk4 hs (fun v => Iff.rfl) okAB
  have e2 : jnS k y x = s := by
    have h := hy.join hx
    rw [Nat.add_comm] at h
    exact h.eq hk4 hs (fun v => by simp [or_comm]) (fun v hv => okAB v (by simpa [or_comm] using hv))
  have sx := hx.small hk4 (by omega) okA
  have sy := hy.small hk4 (by omega) okB
  have nx : x.n = ((La.length - (colV17 La l2).length : Nat) : Int) := hx.n
  have ny : y.n = ((Lb.length - (colV17 Lb bb).length : Nat) : Int) := hy.n
  have HJ1 := Lib.hid (show ∀ wx, Calls Try.prog 13 #[.int .i64 (k : Int), stV x, stV y] wx fun e w' => e = .returned (stV s) ∧ Chg [] wx w' from fun wx => e1 ▸ join17_any k x y wx sx sy (by omega))
  have HJ2 := Lib.hid (show ∀ wx, Calls Try.prog 13 #[.int .i64 (k : Int), stV y, stV x] wx fun e w' => e = .returned (stV s) ∧ Chg [] wx w' from fun wx => e2 ▸ join17_any k y x wx sy sx (by omega))
  clear e1 e2 sx sy nx ny hs hV hZ hcle okA okB okAB zA zB hokA hokB hx hy hmn hmn2 hmn3
  have HWK := Lib.hid (show Chg [] w wK from HWC.out.trans (HD.out.trans (HE.out.trans HEK.out (by simp)) (by simp)) (by simp))
  go_wp2_with fail
  refine wp_region_any (by kernel_rfl) ?_
  change wpAny _ _ _ _ _ _ _ (World.drew _)
  refine wpAny_inv (JISf11 k g11 g12 g13 g16 g18 A1 A2 A3 B1 B2 B3 x y wK) ?_ (fun listed a' w' hI hr => ?_) _ _ _ _ ?_ ?_
  rotate_left 2
  focus exact JISf11_start rfl ((Chg.refl [] wK).drew)
  focus exact count_rep _
  focus
    intro listed a' w' hI ii hi hr
    obtain ⟨b, base, u, ga, gb, rfl, rfl, R⟩ := hI
    have hcs := ltSf11 ii hi
    clear hi
    unfold FRSf11
    rcases hcs with rfl | rfl | rfl | rfl | rfl | rfl | rfl | rfl | rfl | rfl
    · have hrd := ready_at rfl hr
      clear hr
      simp [Region.binds] at hrd
      clear hrd
      obtain ⟨l0, l1, l2', l3, m0, m1, m2, m3, m4, m5⟩ := HCLA.out _ R.cg
      refine wpOp_step rfl (fun K hK => ?_)
      go_simp
      refine hK _ _ ?_
      exact ⟨upd b 0 true, base, (upd u 67 (.agg #[.int .i64 0, .int .i64 0, .int .i64 1, .int .i64 (k : Int)])), ga, gb, rfl, rfl, ⟨(fun _ => rfl), R.c1, R.c2, R.c3, R.c4, R.c5, R.c6, R.c7, R.cg, R.m6, R.n6, R.m7, R.n7, R.d6_7, R.z8_6, R.z9_7⟩⟩
    · have hrd := ready_at rfl hr
      clear hr
      simp [Region.binds] at hrd
      clear hrd
      obtain ⟨l0, l1, l2', l3, m0, m1, m2, m3, m4, m5⟩ := HCLA.out _ R.cg
      refine wpOp_step rfl (fun K hK => ?_)
      go_simp
      refine hK _ _ ?_
      exact ⟨upd b 1 true, base, (upd u 68 (.agg #[A1, A2, A3])), ga, gb, rfl, rfl, ⟨R.c0, (fun _ => rfl), R.c2, R.c3, R.c4, R.c5, R.c6, R.c7, R.cg, R.m6, R.n6, R.m7, R.n7, R.d6_7, R.z8_6, R.z9_7⟩⟩
    · have hrd := ready_at rfl hr
      clear hr
      simp [Region.binds] at hrd
      have h0 : b 0 = true := by simp [hrd]
      have e0 := R.c0 h0
      have h1 : b 1 = true := by simp [hrd]
      have e1 := R.c1 h1
      clear hrd
      refine wpOp_step rfl (fun K hK => ?_)
      go_simp
      go_at_call 12
      (with_reducible refine (HO1.out w' R.cg).mono ?_)
      rintro e w4 ⟨rfl, hk3⟩
      refine hK _ _ ?_
      exact ⟨upd b 2 true, base, (upd (upd (upd u 67 (.agg #[.int .i64 0, .int .i64 0, .int .i64 1, .int .i64 (k : Int)])) 68 (.agg #[A1, A2, A3])) 69 (stV x)), ga, gb, rfl, rfl, ⟨(fun _ => rfl), (fun _ => rfl), (fun _ => rfl), R.c3, R.c4, R.c5, R.c6, R.c7, (R.cg.trans hk3 (by simp)), (fun h => ⟨(R.m6 h).1, Nat.lt_of_lt_of_le (R.m6 h).2.1 hk3.size, fun h5 => hk3.heap ((R.m6 h).2.2 h5) (by simp)⟩), (fun h => hk3.heap (R.n6 h) (by simp)), (fun h => ⟨(R.m7 h).1, Nat.lt_of_lt_of_le (R.m7 h).2.1 hk3.size, fun h5 => hk3.heap ((R.m7 h).2.2 h5) (by simp)⟩), (fun h => hk3.heap (R.n7 h) (by simp)), R.d6_7, R.z8_6, R.z9_7⟩⟩
    · have hrd := ready_at rfl hr
      clear hr
      simp [Region.binds] at hrd
      clear hrd
      obtain ⟨l0, l1, l2', l3, m0, m1, m2, m3, m4, m5⟩ := HCLA.out _ R.cg
      refine wpOp_step rfl (fun K hK => ?_)
      go_simp
      refine hK _ _ ?_
      exact ⟨upd b 3 true, base, (upd u 70 (.agg #[.int .i64 0, .int .i64 0, .int .i64 1, .int .i64 (k : Int)])), ga, gb, rfl, rfl, ⟨R.c0, R.c1, R.c2, (fun _ => rfl), R.c4, R.c5, R.c6, R.c7, R.cg, R.m6, R.n6, R.m7, R.n7, R.d6_7, R.z8_6, R.z9_7⟩⟩
    · have hrd := ready_at rfl hr
      clear hr
      simp [Region.binds] at hrd
      clear hrd
      obtain ⟨l0, l1, l2', l3, m0, m1, m2, m3, m4, m5⟩ := HCLA.out _ R.cg
      refine wpOp_step rfl (fun K hK => ?_)
      go_simp
      refine hK _ _ ?_
      exact ⟨upd b 4 true, base, (upd u 71 (.agg #[B1, B2, B3])), ga, gb, rfl, rfl, ⟨R.c0, R.c1, R.c2, R.c3, (fun _ => rfl), R.c5, R.c6, R.c7, R.cg, R.m6, R.n6, R.m7, R.n7, R.d6_7, R.z8_6, R.z9_7⟩⟩
    · have hrd := ready_at rfl hr
      clear hr
      simp [Region.binds] at hrd
      have h3 : b 3 = true := by simp [hrd]
      have e3 := R.c3 h3
      have h4 : b 4 = true := by simp [hrd]
      have e4 := R.c4 h4
      clear hrd
      refine wpOp_step rfl (fun K hK => ?_)
      go_simp
      go_at_call 12
      (with_reducible refine (HO2.out w' R.cg).mono ?_)
      rintro e w4 ⟨rfl, hk3⟩
      refine hK _ _ ?_
      exact ⟨upd b 5 true, base, (upd (upd (upd u 70 (.agg #[.int .i64 0, .int .i64 0, .int .i64 1, .int .i64 (k : Int)])) 71 (.agg #[B1, B2, B3])) 72 (stV y)), ga, gb, rfl, rfl, ⟨R.c0, R.c1, R.c2, (fun _ => rfl), (fun _ => rfl), (fun _ => rfl), R.c6, R.c7, (R.cg.trans hk3 (by simp)), (fun h => ⟨(R.m6 h).1, Nat.lt_of_lt_of_le (R.m6 h).2.1 hk3.size, fun h5 => hk3.heap ((R.m6 h).2.2 h5) (by simp)⟩), (fun h => hk3.heap (R.n6 h) (by simp)), (fun h => ⟨(R.m7 h).1, Nat.lt_of_lt_of_le (R.m7 h).2.1 hk3.size, fun h5 => hk3.heap ((R.m7 h).2.2 h5) (by simp)⟩), (fun h => hk3.heap (R.n7 h) (by simp)), R.d6_7, R.z8_6, R.z9_7⟩⟩
    · have hrd := ready_at rfl hr
      clear hr
      simp [Region.binds] at hrd
      have hb6 : b 6 = false := by simp [hrd]
      clear hrd
      have hk3 := (Chg.refl [] w').alloc (.cells #[.int .i64 0, .bool false, .int .i64 0, .string { data := #[] }, .int .i64 0, .string { data := #[] }] 37)
      refine wpOp_step rfl (fun K hK => ?_)
      go_simp
      refine hK _ _ ?_
      exact ⟨upd b 6 true, base, (upd u 19 (.pointer (some ⟨w'.heap.size, 0, none⟩))), w'.heap.size, gb, rfl, rfl, ⟨R.c0, R.c1, R.c2, R.c3, R.c4, R.c5, (fun _ => rfl), R.c7, (R.cg.trans hk3 (by simp)), (fun _ => ⟨R.cg.size, by simp, fun _ => hl_new rfl⟩), (fun h => absurd (R.z8_6 h) (by rw [hb6]; decide)), (fun h => ⟨(R.m7 h).1, Nat.lt_of_lt_of_le (R.m7 h).2.1 hk3.size, fun h5 => hk3.heap ((R.m7 h).2.2 h5) (by simp)⟩), (fun h => hk3.heap (R.n7 h) (by simp)), (fun _ h => by have := (R.m7 h).2.1; omega), (fun _ => rfl), R.z9_7⟩⟩
    · have hrd := ready_at rfl hr
      clear hr
      simp [Region.binds] at hrd
      have hb7 : b 7 = false := by simp [hrd]
      clear hrd
      have hk3 := (Chg.refl [] w').alloc (.cells #[.int .i64 0, .bool false, .int .i64 0, .string { data := #[] }, .int .i64 0, .string { data := #[] }] 37)
      refine wpOp_step rfl (fun K hK => ?_)
      go_simp
      refine hK _ _ ?_
      exact ⟨upd b 7 true, base, (upd u 20 (.pointer (some ⟨w'.heap.size, 0, none⟩))), ga, w'.heap.size, rfl, rfl, ⟨R.c0, R.c1, R.c2, R.c3, R.c4, R.c5, R.c6, (fun _ => rfl), (R.cg.trans hk3 (by simp)), (fun h => ⟨(R.m6 h).1, Nat.lt_of_lt_of_le (R.m6 h).2.1 hk3.size, fun h5 => hk3.heap ((R.m6 h).2.2 h5) (by simp)⟩), (fun h => hk3.heap (R.n6 h) (by simp)), (fun _ => ⟨R.cg.size, by simp, fun _ => hl_new rfl⟩), (fun h => absurd (R.z9_7 h) (by rw [hb7]; decide)), (fun h _ => by have := (R.m6 h).2.1; omega), R.z8_6, (fun _ => rfl)⟩⟩
    · have hrd := ready_at rfl hr
      clear hr
      simp [Region.binds] at hrd
      have h2 : b 2 = true := by simp [hrd]
      have e2 := R.c2 h2
      have h6 : b 6 = true := by simp [hrd]
      have e6 := R.c6 h6
      have hb8 : b 8 = false := by simp [hrd]
      clear hrd
      have hx := (R.m6 h6).2.2 hb8
      have hfz : ∀ q, w'.frozen? ⟨ga, q, none⟩ = false := fun q => by simp [World.frozen?, hx]
      have hz0 : w'.cell? ⟨ga, 0, none⟩ = some (.int .i64 0) := by rw [cell_of_row _ _ _ _ _ _ hx]; rfl
      have hz1 : w'.cell? ⟨ga, 1, none⟩ = some (.bool false) := by rw [cell_of_row _ _ _ _ _ _ hx]; rfl
      have hz2 : w'.cell? ⟨ga, 2, none⟩ = some (.int .i64 0) := by rw [cell_of_row _ _ _ _ _ _ hx]; rfl
      have hz3 : w'.cell? ⟨ga, 3, none⟩ = some (.string { data := #[] }) := by rw [cell_of_row _ _ _ _ _ _ hx]; rfl
      have hz4 : w'.cell? ⟨ga, 4, none⟩ = some (.int .i64 0) := by rw [cell_of_row _ _ _ _ _ _ hx]; rfl
      have hz5 : w'.cell? ⟨ga, 5, none⟩ = some (.string { data := #[] }) := by rw [cell_of_row _ _ _ _ _ _ hx]; rfl
      refine wpOp_step rfl (fun K hK => ?_)
      go_simp
      refine hK _ _ ?_
      exact ⟨upd b 8 true, base, (upd (upd u 69 (stV x)) 19 (.pointer (some ⟨ga, 0, none⟩))), ga, gb, rfl, rfl, ⟨R.c0, R.c1, (fun _ => rfl), R.c3, R.c4, R.c5, (fun _ => rfl), R.c7, ((((((R.cg.setCell (.inr (R.m6 h6).1) _).setCell (.inr (R.m6 h6).1) _).setCell (.inr (R.m6 h6).1) _).setCell (.inr (R.m6 h6).1) _).setCell (.inr (R.m6 h6).1) _).setCell (.inr (R.m6 h6).1) _), (fun _ => ⟨(R.m6 h6).1, by simpa using (R.m6 h6).2.1, fun h => by cases h⟩), (fun _ => set6 hx _ _ _ _ _ _), (fun h => ⟨(R.m7 h).1, by simpa using (R.m7 h).2.1, fun h5 => other6 ((R.m7 h).2.2 h5) (Ne.symm (R.d6_7 h6 h))⟩), (fun h => other6 (R.n7 h) (Ne.symm (R.d6_7 h6 (R.z9_7 h)))), R.d6_7, (fun _ => h6), R.z9_7⟩⟩
    · have hrd := ready_at rfl hr
      clear hr
      simp [Region.binds] at hrd
      have h5 : b 5 = true := by simp [hrd]
      have e5 := R.c5 h5
      have h7 : b 7 = true := by simp [hrd]
      have e7 := R.c7 h7
      have hb9 : b 9 = false := by simp [hrd]
      clear hrd
      have hx := (R.m7 h7).2.2 hb9
      have hfz : ∀ q, w'.frozen? ⟨gb, q, none⟩ = false := fun q => by simp [World.frozen?, hx]
      have hz0 : w'.cell? ⟨gb, 0, none⟩ = some (.int .i64 0) := by rw [cell_of_row _ _ _ _ _ _ hx]; rfl
      have hz1 : w'.cell? ⟨gb, 1, none⟩ = some (.bool false) := by rw [cell_of_row _ _ _ _ _ _ hx]; rfl
      have hz2 : w'.cell? ⟨gb, 2, none⟩ = some (.int .i64 0) := by rw [cell_of_row _ _ _ _ _ _ hx]; rfl
      have hz3 : w'.cell? ⟨gb, 3, none⟩ = some (.string { data := #[] }) := by rw [cell_of_row _ _ _ _ _ _ hx]; rfl
      have hz4 : w'.cell? ⟨gb, 4, none⟩ = some (.int .i64 0) := by rw [cell_of_row _ _ _ _ _ _ hx]; rfl
      have hz5 : w'.cell? ⟨gb, 5, none⟩ = some (.string { data := #[] }) := by rw [cell_of_row _ _ _ _ _ _ hx]; rfl
      refine wpOp_step rfl (fun K hK => ?_)
      go_simp
      refine hK _ _ ?_
      exact ⟨upd b 9 true, base, (upd (upd u 72 (stV y)) 20 (.pointer (some ⟨gb, 0, none⟩))), ga, gb, rfl, rfl, ⟨R.c0, R.c1, R.c2, R.c3, R.c4, (fun _ => rfl), R.c6, (fun _ => rfl), ((((((R.cg.setCell (.inr (R.m7 h7).1) _).setCell (.inr (R.m7 h7).1) _).setCell (.inr (R.m7 h7).1) _).setCell (.inr (R.m7 h7).1) _).setCell (.inr (R.m7 h7).1) _).setCell (.inr (R.m7 h7).1) _), (fun h => ⟨(R.m6 h).1, by simpa using (R.m6 h).2.1, fun h5 => other6 ((R.m6 h).2.2 h5) (R.d6_7 h h7)⟩), (fun h => other6 (R.n6 h) (R.d6_7 (R.z8_6 h) h7)), (fun _ => ⟨(R.m7 h7).1, by simpa using (R.m7 h7).2.1, fun h => by cases h⟩), (fun _ => set6 hx _ _ _ _ _ _), R.d6_7, R.z8_6, (fun _ => h7)⟩⟩
  obtain ⟨b, base, u, ga, gb, rfl, rfl, R⟩ := hI
  have hall := ready_all2 hr rfl (by kernel_rfl)
  have h6 : b 6 = true := Option.some.inj (hall 6 (by decide))
  have e6 := R.c6 h6
  have h7 : b 7 = true := Option.some.inj (hall 7 (by decide))
  have e7 := R.c7 h7
  have h8 : b 8 = true := Option.some.inj (hall 8 (by decide))
  have h9 : b 9 = true := Option.some.inj (hall 9 (by decide))
  have M1 := Lib.hid (R.n6 h8)
  have M2 := Lib.hid (R.n7 h9)
  have HCG := Lib.hid R.cg
  unfold FRSf11
  rw [e6, e7]
  clear e6 e7
  clear R hr hall h6 h7 h8 h9

  generalize w' = wM at HCG M1 M2 ⊢
  generalize ga = g19 at M1 ⊢
  generalize gb = g20 at M2 ⊢
  obtain ⟨⟨u0, u1, u2, u3, u4, u5⟩, -⟩ := six_cells M1.out
  obtain ⟨⟨t0, t1, t2, t3, t4, t5⟩, -⟩ := six_cells M2.out
  go_wp2_with fail
  refine (HJ1.out _).mono ?_
  rintro e wN ⟨rfl, hc⟩
  have HMN := Lib.hid hc
  clear hc u0 u1 u2 u3 u4 u5 t0 t1 t2 t3 t4 t5
  go_wp2_with fail
  obtain ⟨wO, hwO⟩ : ∃ z, z = wN.alloc (.cells (stC s) 37) := ⟨_, rfl⟩
  rw [← hwO]
  have HNO := Lib.hid (show Chg [] wN wO by rw [hwO]; exact (Chg.refl [] _).alloc _)
  have HG5 := Lib.hid (show wO.heap[wN.heap.size]? = some (.cells (stC s) 37 (0, 0)) by rw [hwO]; exact heap_alloc_new wN _)
  clear hwO
  generalize wN.heap.size = g21 at HG5 ⊢
  have HMO := Lib.hid (show Chg [] wM wO from HMN.out.trans HNO.out (by simp))
  have HKO := Lib.hid (show Chg [] wK wO from HCG.out.trans HMO.out (by simp))
  have HCLZ := Lib.hid (show ∀ wx, Chg [] wO wx → (wx.cell? ⟨g11, 0, none⟩ = some (.int .i64 0) ∧ wx.cell? ⟨g11, 1, none⟩ = some (.int .i64 0) ∧ wx.cell? ⟨g11, 2, none⟩ = some (.int .i64 1) ∧ wx.cell? ⟨g11, 3, none⟩ = some (.int .i64 (k : Int)) ∧ wx.cell? ⟨g12, 0, none⟩ = some P1 ∧ wx.cell? ⟨g12, 1, none⟩ = some P2 ∧ wx.cell? ⟨g12, 2, none⟩ = some P3 ∧ wx.cell? ⟨g13, 0, none⟩ = some (.int .i64 s.n) ∧ wx.cell? ⟨g13, 1, none⟩ = some (.bool s.h) ∧ wx.cell? ⟨g13, 2, none⟩ = some (.int .i64 s.a.n) ∧ wx.cell? ⟨g13, 3, none⟩ = some (.string s.a.s) ∧ wx.cell? ⟨g13, 4, none⟩ = some (.int .i64 s.b.n) ∧ wx.cell? ⟨g13, 5, none⟩ = some (.string s.b.s) ∧ wx.cell? ⟨g21, 0, none⟩ = some (.int .i64 s.n) ∧ wx.cell? ⟨g21, 1, none⟩ = some (.bool s.h) ∧ wx.cell? ⟨g21, 2, none⟩ = some (.int .i64 s.a.n) ∧ wx.cell? ⟨g21, 3, none⟩ = some (.string s.a.s) ∧ wx.cell? ⟨g21, 4, none⟩ = some (.int .i64 s.b.n) ∧ wx.cell? ⟨g21, 5, none⟩ = some (.string s.b.s) ∧ wx.cell? ⟨g19, 0, none⟩ = some (.int .i64 x.n) ∧ wx.cell? ⟨g19, 1, none⟩ = some (.bool x.h) ∧ wx.cell? ⟨g19, 2, none⟩ = some (.int .i64 x.a.n) ∧ wx.cell? ⟨g19, 3, none⟩ = some (.string x.a.s) ∧ wx.cell? ⟨g19, 4, none⟩ = some (.int .i64 x.b.n) ∧ wx.cell? ⟨g19, 5, none⟩ = some (.string x.b.s) ∧ wx.cell? ⟨g20, 0, none⟩ = some (.int .i64 y.n) ∧ wx.cell? ⟨g20, 1, none⟩ = some (.bool y.h) ∧ wx.cell? ⟨g20, 2, none⟩ = some (.int .i64 y.a.n) ∧ wx.cell? ⟨g20, 3, none⟩ = some (.string y.a.s) ∧ wx.cell? ⟨g20, 4, none⟩ = some (.int .i64 y.b.n) ∧ wx.cell? ⟨g20, 5, none⟩ = some (.string y.b.s)) from fun wx h => by
    have X0 := (HKO.out.trans h (by simp)).heap HG1.out (by simp)
    have X1 := (HKO.out.trans h (by simp)).heap HG2.out (by simp)
    obtain ⟨a0, a1, a2, a3, a4, a5⟩ := (six_cells ((HKO.out.trans h (by simp)).heap HG3.out (by simp))).1
    obtain ⟨b0, b1, b2, b3, b4, b5⟩ := (six_cells (h.heap HG5.out (by simp))).1
    obtain ⟨c0, c1, c2, c3, c4, c5⟩ := (six_cells ((HMO.out.trans h (by simp)).heap M1.out (by simp))).1
    have X5 := (six_cells ((HMO.out.trans h (by simp)).heap M2.out (by simp))).1
    refine ⟨?_, ?_, ?_, ?_, ?_, ?_, ?_, a0, a1, a2, a3, a4, a5, b0, b1, b2, b3, b4, b5, c0, c1, c2, c3, c4, c5, X5⟩
    · rw [cell_of_row _ _ _ _ _ _ X0]; rfl
    · rw [cell_of_row _ _ _ _ _ _ X0]; rfl
    · rw [cell_of_row _ _ _ _ _ _ X0]; rfl
    · rw [cell_of_row _ _ _ _ _ _ X0]; rfl
    · rw [cell_of_row _ _ _ _ _ _ X1]; rfl
    · rw [cell_of_row _ _ _ _ _ _ X1]; rfl
    · rw [cell_of_row _ _ _ _ _ _ X1]; rfl)
  have HRO := Lib.hid (fun wx (h : Chg [] wO wx) => HRK.out wx (HKO.out.trans h (by simp)))
  go_region_held3 (fun wx => wx.cell? ⟨g11, 0, none⟩ = some (.int .i64 0) ∧ wx.cell? ⟨g11, 1, none⟩ = some (.int .i64 0) ∧ wx.cell? ⟨g11, 2, none⟩ = some (.int .i64 1) ∧ wx.cell? ⟨g11, 3, none⟩ = some (.int .i64 (k : Int)) ∧ wx.cell? ⟨g12, 0, none⟩ = some P1 ∧ wx.cell? ⟨g12, 1, none⟩ = some P2 ∧ wx.cell? ⟨g12, 2, none⟩ = some P3 ∧ wx.cell? ⟨g13, 0, none⟩ = some (.int .i64 s.n) ∧ wx.cell? ⟨g13, 1, none⟩ = some (.bool s.h) ∧ wx.cell? ⟨g13, 2, none⟩ = some (.int .i64 s.a.n) ∧ wx.cell? ⟨g13, 3, none⟩ = some (.string s.a.s) ∧ wx.cell? ⟨g13, 4, none⟩ = some (.int .i64 s.b.n) ∧ wx.cell? ⟨g13, 5, none⟩ = some (.string s.b.s) ∧ wx.cell? ⟨g21, 0, none⟩ = some (.int .i64 s.n) ∧ wx.cell? ⟨g21, 1, none⟩ = some (.bool s.h) ∧ wx.cell? ⟨g21, 2, none⟩ = some (.int .i64 s.a.n) ∧ wx.cell? ⟨g21, 3, none⟩ = some (.string s.a.s) ∧ wx.cell? ⟨g21, 4, none⟩ = some (.int .i64 s.b.n) ∧ wx.cell? ⟨g21, 5, none⟩ = some (.string s.b.s) ∧ wx.cell? ⟨g19, 0, none⟩ = some (.int .i64 x.n) ∧ wx.cell? ⟨g19, 1, none⟩ = some (.bool x.h) ∧ wx.cell? ⟨g19, 2, none⟩ = some (.int .i64 x.a.n) ∧ wx.cell? ⟨g19, 3, none⟩ = some (.string x.a.s) ∧ wx.cell? ⟨g19, 4, none⟩ = some (.int .i64 x.b.n) ∧ wx.cell? ⟨g19, 5, none⟩ = some (.string x.b.s) ∧ wx.cell? ⟨g20, 0, none⟩ = some (.int .i64 y.n) ∧ wx.cell? ⟨g20, 1, none⟩ = some (.bool y.h) ∧ wx.cell? ⟨g20, 2, none⟩ = some (.int .i64 y.a.n) ∧ wx.cell? ⟨g20, 3, none⟩ = some (.string y.a.s) ∧ wx.cell? ⟨g20, 4, none⟩ = some (.int .i64 y.b.n) ∧ wx.cell? ⟨g20, 5, none⟩ = some (.string y.b.s)) (first | exact HCLZ.out _ (by with_reducible repeat (first | exact HW.out | exact Chg.refl _ _ | refine Chg.drew ?_))) (first
    | (go_simp; go_at_call 15; (with_reducible refine (HRO.out _ (by with_reducible repeat (first | exact HW.out | exact Chg.refl _ _ | refine Chg.drew ?_))).mono ?_); rintro e w3 ⟨rfl, hk3⟩; have HW := Lib.hid (chg_via (by with_reducible repeat (first | exact HW.out | exact Chg.refl _ _ | refine Chg.drew ?_)) hk3 : Chg [] wO _); clear hk3)
    | (go_simp; go_at_call 14; (with_reducible refine (rsame17_any s _).mono ?_); rintro e w3 ⟨rfl, hk3⟩; have HW := Lib.hid (chg_via (by with_reducible repeat (first | exact HW.out | exact Chg.refl _ _ | refine Chg.drew ?_)) hk3 : Chg [] wO _); clear hk3)
    | (go_simp; go_at_call 16; (with_reducible refine (same17_any s _).mono ?_); rintro e w3 ⟨rfl, hk3⟩; have HW := Lib.hid (chg_via (by with_reducible repeat (first | exact HW.out | exact Chg.refl _ _ | refine Chg.drew ?_)) hk3 : Chg [] wO _); clear hk3)
    | (go_simp; go_at_call 13; (with_reducible refine (HJ2.out _).mono ?_); rintro e w3 ⟨rfl, hk3⟩; have HW := Lib.hid (chg_via (by with_reducible repeat (first | exact HW.out | exact Chg.refl _ _ | refine Chg.drew ?_)) hk3 : Chg [] wO _); clear hk3))
  all_goals
    go_wp2
    go_ret
    exact ⟨rfl, (HWK.out.trans (HKO.out.trans HW.out (by simp)) (by simp)).below (Nat.le_refl _) (by simp)⟩

end Go.Proofs.Ytgfjmbjpikcffaa
