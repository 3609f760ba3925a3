/- The walk of the statement StatJoins. -/
import Derived.Test.YtgfjmbjpikcffaaCh17
import Derived.Test.YtgfjmbjpikcffaaCol17
import Derived.Test.YtgfjmbjpikcffaaUv
namespace Go.Proofs.Ytgfjmbjpikcffaa
open Go.RowKit
set_option linter.unusedVariables false
set_option linter.unusedSimpArgs false

theorem of_det (k : Nat) (hk : 1 ≤ k ∧ k ≤ 4) (rv dv vv : Value) (l : List V) (bs : List Bool) (s : St) (w : World) (hd : SeenI w dv (colD17 l bs)) (hv : SeenV w vv (colV17 l bs)) (hl : l.length ≤ 1000) (hok : ∀ x ∈ l, okV k x) (hs : Is k (l.length - (colV17 l bs).length) (colV17 l bs) s) :
    Calls Try.prog 12 #[.agg #[.int .i64 0, .int .i64 0, .int .i64 1, .int .i64 (k : Int)], .agg #[rv, dv, vv]] w fun e w' => e = .returned (stV s) ∧ Chg [] w w' := by
  have hok2 : ∀ x ∈ colV17 l bs, okV k x := fun x hx => hok x (colV17_mem l bs x hx)
  refine (of17_any k hk 0 0 1 rv dv vv (colD17 l bs) (colV17 l bs) w hd hv (by rw [colD17_len]; exact hl) hok2 (colV17_cnt l bs)).mono ?_
  rintro e w' ⟨t, rfl, hc, ht⟩
  rw [colD17_len] at ht
  rw [ht.eq hk hs (fun _ => Iff.rfl) hok2]
  exact ⟨rfl, hc⟩

abbrev FRSj8 (k gl gp gq gr : Nat) (P1 P2 P3 Q1 Q2 Q3 R1 R2 R3 : Value) (x y z : St) (ga : Nat) (gb : Nat) (gc : Nat) (base u : Nat → Value) : Act := { tmps := #[base 0, base 1, base 2, base 3, base 4, base 5, base 6, base 7, base 8, base 9, base 10, .int .i64 (k : Int), .pointer (some ⟨gl, 0, none⟩), base 13, .pointer (some ⟨gp, 0, none⟩), base 15, .pointer (some ⟨gq, 0, none⟩), base 17, .pointer (some ⟨gr, 0, none⟩), u 19, u 20, u 21, base 22, base 23, base 24, base 25, base 26, base 27, base 28, base 29, base 30, base 31, base 32, base 33, base 34, base 35, base 36, base 37, base 38, base 39, base 40, base 41, base 42, base 43, base 44, base 45, base 46, base 47, base 48, base 49, base 50, base 51, base 52, base 53, u 54, u 55, u 56, u 57, u 58, u 59, u 60, u 61, u 62, base 63, base 64, base 65, base 66, base 67, base 68, base 69, base 70, base 71, base 72, base 73, base 74, base 75, base 76, base 77, base 78, base 79, base 80, base 81, base 82, base 83, base 84, base 85, base 86, base 87, base 88, base 89, base 90, base 91, base 92, base 93], defers := [] }

structure RISj8 (k gl gp gq gr : Nat) (P1 P2 P3 Q1 Q2 Q3 R1 R2 R3 : Value) (x y z : St) (wc : World) (b : Nat → Bool) (u : Nat → Value) (ga : Nat) (gb : Nat) (gc : Nat) (w' : World) : Prop where
  c0 : b 0 = true → u 54 = .agg #[.int .i64 0, .int .i64 0, .int .i64 1, .int .i64 (k : Int)]
  c1 : b 1 = true → u 55 = .agg #[P1, P2, P3]
  c2 : b 2 = true → u 56 = stV x
  c3 : b 3 = true → u 57 = .agg #[.int .i64 0, .int .i64 0, .int .i64 1, .int .i64 (k : Int)]
  c4 : b 4 = true → u 58 = .agg #[Q1, Q2, Q3]
  c5 : b 5 = true → u 59 = stV y
  c6 : b 6 = true → u 60 = .agg #[.int .i64 0, .int .i64 0, .int .i64 1, .int .i64 (k : Int)]
  c7 : b 7 = true → u 61 = .agg #[R1, R2, R3]
  c8 : b 8 = true → u 62 = stV z
  c9 : b 9 = true → u 19 = .pointer (some ⟨ga, 0, none⟩)
  c10 : b 10 = true → u 20 = .pointer (some ⟨gb, 0, none⟩)
  c11 : b 11 = true → u 21 = .pointer (some ⟨gc, 0, none⟩)
  cg : Chg [] wc w'
  m9 : b 9 = true → wc.heap.size ≤ ga ∧ ga < w'.heap.size ∧ (b 12 = false → w'.heap[ga]? = some (.cells #[.int .i64 0, .bool false, .int .i64 0, .string { data := #[] }, .int .i64 0, .string { data := #[] }] 37 (0, 0)))
  n9 : b 12 = true → w'.heap[ga]? = some (.cells #[.int .i64 x.n, .bool x.h, .int .i64 x.a.n, .string x.a.s, .int .i64 x.b.n, .string x.b.s] 37 (0, 0))
  m10 : b 10 = true → wc.heap.size ≤ gb ∧ gb < w'.heap.size ∧ (b 13 = false → w'.heap[gb]? = some (.cells #[.int .i64 0, .bool false, .int .i64 0, .string { data := #[] }, .int .i64 0, .string { data := #[] }] 37 (0, 0)))
  n10 : b 13 = true → w'.heap[gb]? = some (.cells #[.int .i64 y.n, .bool y.h, .int .i64 y.a.n, .string y.a.s, .int .i64 y.b.n, .string y.b.s] 37 (0, 0))
  m11 : b 11 = true → wc.heap.size ≤ gc ∧ gc < w'.heap.size ∧ (b 14 = false → w'.heap[gc]? = some (.cells #[.int .i64 0, .bool false, .int .i64 0, .string { data := #[] }, .int .i64 0, .string { data := #[] }] 37 (0, 0)))
  n11 : b 14 = true → w'.heap[gc]? = some (.cells #[.int .i64 z.n, .bool z.h, .int .i64 z.a.n, .string z.a.s, .int .i64 z.b.n, .string z.b.s] 37 (0, 0))
  d9_10 : b 9 = true → b 10 = true → ga ≠ gb
  d9_11 : b 9 = true → b 11 = true → ga ≠ gc
  d10_11 : b 10 = true → b 11 = true → gb ≠ gc
  z12_9 : b 12 = true → b 9 = true
  z13_10 : b 13 = true → b 10 = true
  z14_11 : b 14 = true → b 11 = true

def JISj8 (k gl gp gq gr : Nat) (P1 P2 P3 Q1 Q2 Q3 R1 R2 R3 : Value) (x y z : St) (wc : World) (listed : Array Bool) (a' : Act) (w' : World) : Prop :=
  ∃ (b : Nat → Bool) (base u : Nat → Value) (ga : Nat) (gb : Nat) (gc : Nat), listed = #[b 0, b 1, b 2, b 3, b 4, b 5, b 6, b 7, b 8, b 9, b 10, b 11, b 12, b 13, b 14] ∧ a' = FRSj8 k gl gp gq gr P1 P2 P3 Q1 Q2 Q3 R1 R2 R3 x y z ga gb gc base u ∧ RISj8 k gl gp gq gr P1 P2 P3 Q1 Q2 Q3 R1 R2 R3 x y z wc b u ga gb gc w'

theorem JISj8_start {k gl gp gq gr : Nat} {P1 P2 P3 Q1 Q2 Q3 R1 R2 R3 : Value} {x y z : St} {wc w' : World} {a : Act} (h : a = FRSj8 k gl gp gq gr P1 P2 P3 Q1 Q2 Q3 R1 R2 R3 x y z 0 0 0 (fun j => a.tmps.getD j undef) (fun j => a.tmps.getD j undef)) (hc : Chg [] wc w') : JISj8 k gl gp gq gr P1 P2 P3 Q1 Q2 Q3 R1 R2 R3 x y z wc (Array.replicate 15 false) a w' :=
  ⟨fun _ => false, _, _, 0, 0, 0, rfl, h, by constructor <;> simp [hc]⟩

theorem ltSj8 : ∀ i : Nat, i < 15 → i = 0 ∨ i = 1 ∨ i = 2 ∨ i = 3 ∨ i = 4 ∨ i = 5 ∨ i = 6 ∨ i = 7 ∨ i = 8 ∨ i = 9 ∨ i = 10 ∨ i = 11 ∨ i = 12 ∨ i = 13 ∨ i = 14 := by decide


set_option maxRecDepth 100000 in
set_option maxHeartbeats 4000000 in
theorem walk_StatJoins (a0 : Int) (a1 : Option Addr) (len1 cap1 : Nat) (l1 : List V) (a2 : Option Addr) (len2 cap2 : Nat) (l2 : List V) (a3 : Option Addr) (len3 cap3 : Nat) (l3 : List V) (a4 : Int) (w : World) (w0 : (Lit.int .i64 a0).wf = true) (w1 : SeenV w (.slice a1 len1 cap1) l1) (v1 : ∀ v ∈ l1, (Lit.int .i64 v.n).wf = true) (w2 : SeenV w (.slice a2 len2 cap2) l2) (v2 : ∀ v ∈ l2, (Lit.int .i64 v.n).wf = true) (w3 : SeenV w (.slice a3 len3 cap3) l3) (v3 : ∀ v ∈ l3, (Lit.int .i64 v.n).wf = true) (w4 : (Lit.int .i64 a4).wf = true) :
    Calls Try.prog 6 #[.int .i64 a0, .slice a1 len1 cap1, .slice a2 len2 cap2, .slice a3 len3 cap3, .int .i64 a4] w fun e w' => e = .returned (.bool true) ∧ Below w.heap.size w w' := by
  have HS1 := Lib.hid w1; have HV1 := Lib.hid v1
  have HS2 := Lib.hid w2; have HV2 := Lib.hid v2
  have HS3 := Lib.hid w3; have HV3 := Lib.hid v3
  have HQ := Lib.hid (fun wx => within17 a0 4 4 wx rfl (by decide) (by decide) w0)
  have HQ2 := Lib.hid (fun wx => within17 a4 2 2 wx rfl (by decide) (by decide) w4)
  obtain ⟨K, hK⟩ : ∃ K, K = (a0 % ((4 : Nat) : Int)).toNat := ⟨_, rfl⟩
  obtain ⟨o, ho⟩ : ∃ K, K = (a4 % ((2 : Nat) : Int)).toNat := ⟨_, rfl⟩
  have hK4 : K < 4 := by rw [hK]; exact within_lt a0 4 (by decide)
  rw [← hK] at HQ
  rw [← ho] at HQ2
  clear w1 v1 w2 v2 w3 v3 w0 w4 hK ho
  go_enter Try.func6, Try.ntmps6
  go_wp2_with fail
  refine (known17_any _).mono ?_
  rintro e wA ⟨rfl, hk⟩
  have HKA := Lib.hid hk
  clear hk
  go_wp2_with fail
  refine (HQ.out _).mono ?_
  rintro e wB ⟨rfl, rfl⟩
  go_wp2_with fail
  obtain ⟨k, hk⟩ : ∃ k, k = K + 1 := ⟨_, rfl⟩
  have hk4 : 1 ≤ k ∧ k ≤ 4 := by omega
  simp only [show (1 : Int) + (K : Int) = (k : Int) by omega, show (K : Int) + 1 = (k : Int) by omega]
  clear hk hK4 HQ
  obtain ⟨wB, hwB⟩ : ∃ z, z = wA.alloc (.cells #[.int .i64 0, .int .i64 0, .int .i64 1, .int .i64 (k : Int)] 28) := ⟨_, rfl⟩
  rw [← hwB]
  have HGL := Lib.hid (show wB.heap[wA.heap.size]? = some (.cells #[.int .i64 0, .int .i64 0, .int .i64 1, .int .i64 (k : Int)] 28 (0, 0)) by rw [hwB]; exact heap_alloc_new wA _)
  have H0 := Lib.hid (show Chg [] w wB by rw [hwB]; exact HKA.out.alloc _)
  generalize wA.heap.size = gl at HGL ⊢
  clear hwB
  refine (all11_any k hk4 _ l1 wB (HS1.out.keep H0.out) HV1.out).mono ?_
  rintro e wC1 ⟨xv, rfl, hc, ho⟩
  obtain ⟨lo1, lc1, rfl⟩ := own_shape ho
  have hL1 := allV_len k l1
  have HOK1 := Lib.hid (allV_ok k l1 HV1.out)
  obtain ⟨L1, hL⟩ : ∃ L, L = allV k l1 := ⟨_, rfl⟩
  rw [← hL] at ho hL1 HOK1 ⊢
  have HSL1 := Lib.hid (SeenK.own V.cs_len ho rfl)
  have HC1 := Lib.hid hc
  clear hc ho hL
  go_wp2_with fail
  refine (column17_any _ (.slice none 0 0) L1 [] wC1 HSL1.out (SeenK.none17 _) (by omega)).mono ?_
  rintro e wD1 ⟨rv, dv, vv, rfl, hc, hd, hv, ro, rc, rfl⟩
  obtain ⟨dO, dc, rfl, -, -⟩ := hd.shape
  obtain ⟨vO, vc, rfl, -, -⟩ := hv.shape
  have HD1 := Lib.hid hc; have HSD1 := Lib.hid hd; have HSV1 := Lib.hid hv
  clear hc hd hv
  go_wp2_with fail
  obtain ⟨wE1, hwE⟩ : ∃ z, z = (wD1.alloc (.cells #[.int .i64 0, .int .i64 0, .int .i64 1, .int .i64 0] 28)).alloc (.cells #[.slice ro L1.length rc, .slice dO (colD17 L1 []).length dc, .slice vO (colV17 L1 []).length vc] 31) := ⟨_, rfl⟩
  rw [← hwE]
  have HE1 := Lib.hid (show Chg [] wD1 wE1 by rw [hwE]; exact ((Chg.refl [] _).alloc _).alloc _)
  have HG1 := Lib.hid (show wE1.heap[wD1.heap.size + 1]? = some (.cells #[.slice ro L1.length rc, .slice dO (colD17 L1 []).length dc, .slice vO (colV17 L1 []).length vc] 31 (0, 0)) by rw [hwE]; exact new2 wD1 _ _)
  clear hwE
  generalize Value.slice ro L1.length rc = P1 at HG1 ⊢
  generalize Value.slice dO (colD17 L1 []).length dc = P2 at HG1 HSD1 ⊢
  generalize Value.slice vO (colV17 L1 []).length vc = P3 at HG1 HSV1 ⊢
  generalize wD1.heap.size + 1 = gp at HG1 ⊢
  have HSTEP1 := Lib.hid (show Chg [] wB wE1 from HC1.out.trans (HD1.out.trans HE1.out (by simp)) (by simp))
  have H1 := Lib.hid (H0.out.trans HSTEP1.out (by simp))
  refine (all11_any k hk4 _ l2 wE1 (HS2.out.keep H1.out) HV2.out).mono ?_
  rintro e wC2 ⟨xv, rfl, hc, ho⟩
  obtain ⟨lo2, lc2, rfl⟩ := own_shape ho
  have hL2 := allV_len k l2
  have HOK2 := Lib.hid (allV_ok k l2 HV2.out)
  obtain ⟨L2, hL⟩ : ∃ L, L = allV k l2 := ⟨_, rfl⟩
  rw [← hL] at ho hL2 HOK2 ⊢
  have HSL2 := Lib.hid (SeenK.own V.cs_len ho rfl)
  have HC2 := Lib.hid hc
  clear hc ho hL
  go_wp2_with fail
  refine (column17_any _ (.slice none 0 0) L2 [] wC2 HSL2.out (SeenK.none17 _) (by omega)).mono ?_
  rintro e wD2 ⟨rv, dv, vv, rfl, hc, hd, hv, ro, rc, rfl⟩
  obtain ⟨dO, dc, rfl, -, -⟩ := hd.shape
  obtain ⟨vO, vc, rfl, -, -⟩ := hv.shape
  have HD2 := Lib.hid hc; have HSD2 := Lib.hid hd; have HSV2 := Lib.hid hv
  clear hc hd hv
  go_wp2_with fail
  obtain ⟨wE2, hwE⟩ : ∃ z, z = (wD2.alloc (.cells #[.int .i64 0, .int .i64 0, .int .i64 1, .int .i64 0] 28)).alloc (.cells #[.slice ro L2.length rc, .slice dO (colD17 L2 []).length dc, .slice vO (colV17 L2 []).length vc] 31) := ⟨_, rfl⟩
  rw [← hwE]
  have HE2 := Lib.hid (show Chg [] wD2 wE2 by rw [hwE]; exact ((Chg.refl [] _).alloc _).alloc _)
  have HG2 := Lib.hid (show wE2.heap[wD2.heap.size + 1]? = some (.cells #[.slice ro L2.length rc, .slice dO (colD17 L2 []).length dc, .slice vO (colV17 L2 []).length vc] 31 (0, 0)) by rw [hwE]; exact new2 wD2 _ _)
  clear hwE
  generalize Value.slice ro L2.length rc = Q1 at HG2 ⊢
  generalize Value.slice dO (colD17 L2 []).length dc = Q2 at HG2 HSD2 ⊢
  generalize Value.slice vO (colV17 L2 []).length vc = Q3 at HG2 HSV2 ⊢
  generalize wD2.heap.size + 1 = gq at HG2 ⊢
  have HSTEP2 := Lib.hid (show Chg [] wE1 wE2 from HC2.out.trans (HD2.out.trans HE2.out (by simp)) (by simp))
  have H2 := Lib.hid (H1.out.trans HSTEP2.out (by simp))
  refine (all11_any k hk4 _ l3 wE2 (HS3.out.keep H2.out) HV3.out).mono ?_
  rintro e wC3 ⟨xv, rfl, hc, ho⟩
  obtain ⟨lo3, lc3, rfl⟩ := own_shape ho
  have hL3 := allV_len k l3
  have HOK3 := Lib.hid (allV_ok k l3 HV3.out)
  obtain ⟨L3, hL⟩ : ∃ L, L = allV k l3 := ⟨_, rfl⟩
  rw [← hL] at ho hL3 HOK3 ⊢
  have HSL3 := Lib.hid (SeenK.own V.cs_len ho rfl)
  have HC3 := Lib.hid hc
  clear hc ho hL
  go_wp2_with (first
    | (go_at_call 9; (with_reducible refine (HQ2.out _).mono ?_); rintro e wB ⟨rfl, rfl⟩)
    | fail)
  obtain ⟨ob, hob⟩ : ∃ b, b = ((o : Int) == 0) := ⟨_, rfl⟩
  rw [← hob]
  obtain ⟨wZ, hwZ⟩ : ∃ z, z = wC3.alloc (.cells #[.bool false, .bool ob] 4) := ⟨_, rfl⟩
  rw [← hwZ]
  have HZ := Lib.hid (show Chg [] wC3 wZ by rw [hwZ]; exact (Chg.refl [] wC3).alloc _)
  have HSB := Lib.hid (show SeenB wZ (.slice (some ⟨wC3.heap.size, 0, none⟩) 2 2) [false, ob] by rw [hwZ]; exact SeenK.lit (enc := bc1) (k := 1) (fun _ => rfl) (heap_alloc_new wC3 (.cells #[.bool false, .bool ob] 4)) [false, ob] 2 rfl rfl (by decide))
  generalize wC3.heap.size = gz at HSB ⊢
  clear hwZ hob
  refine (column17_any _ _ L3 [false, ob] wZ (HSL3.out.keep HZ.out) HSB.out (by omega)).mono ?_
  rintro e wD3 ⟨rv, dv, vv, rfl, hc, hd, hv, ro, rc, rfl⟩
  obtain ⟨dO, dc, rfl, -, -⟩ := hd.shape
  obtain ⟨vO, vc, rfl, -, -⟩ := hv.shape
  have HD3 := Lib.hid hc; have HSD3 := Lib.hid hd; have HSV3 := Lib.hid hv
  clear hc hd hv
  go_wp2_with fail
  obtain ⟨wE3, hwE⟩ : ∃ z, z = (wD3.alloc (.cells #[.int .i64 0, .int .i64 0, .int .i64 1, .int .i64 0] 28)).alloc (.cells #[.slice ro L3.length rc, .slice dO (colD17 L3 [false, ob]).length dc, .slice vO (colV17 L3 [false, ob]).length vc] 31) := ⟨_, rfl⟩
  rw [← hwE]
  have HE3 := Lib.hid (show Chg [] wD3 wE3 by rw [hwE]; exact ((Chg.refl [] _).alloc _).alloc _)
  have HG3 := Lib.hid (show wE3.heap[wD3.heap.size + 1]? = some (.cells #[.slice ro L3.length rc, .slice dO (colD17 L3 [false, ob]).length dc, .slice vO (colV17 L3 [false, ob]).length vc] 31 (0, 0)) by rw [hwE]; exact new2 wD3 _ _)
  clear hwE
  generalize Value.slice ro L3.length rc = R1 at HG3 ⊢
  generalize Value.slice dO (colD17 L3 [false, ob]).length dc = R2 at HG3 HSD3 ⊢
  generalize Value.slice vO (colV17 L3 [false, ob]).length vc = R3 at HG3 HSV3 ⊢
  generalize wD3.heap.size + 1 = gr at HG3 ⊢
  have HSTEP3 := Lib.hid (show Chg [] wE2 wE3 from HC3.out.trans (HZ.out.trans (HD3.out.trans HE3.out (by simp)) (by simp)) (by simp))
  have H3 := Lib.hid (H2.out.trans HSTEP3.out (by simp))
  obtain ⟨wH, hwH⟩ : ∃ wH, wH = wE3 := ⟨_, rfl⟩
  rw [← hwH] at HG3 HE3 HSTEP3 H3 ⊢
  clear hwH
  have HTL2 := Lib.hid (show Chg [] wE1 wH from HSTEP2.out.trans HSTEP3.out (by simp))
  have HG1 := Lib.hid (HTL2.out.heap HG1.out (by simp))
  have HG2 := Lib.hid (HSTEP3.out.heap HG2.out (by simp))
  have HGL := Lib.hid ((HSTEP1.out.trans HTL2.out (by simp)).heap HGL.out (by simp))
  have hcl : ∀ wx, Chg [] wH wx → (wx.cell? ⟨gl, 0, none⟩ = some (.int .i64 0) ∧ wx.cell? ⟨gl, 1, none⟩ = some (.int .i64 0) ∧ wx.cell? ⟨gl, 2, none⟩ = some (.int .i64 1) ∧ wx.cell? ⟨gl, 3, none⟩ = some (.int .i64 (k : Int)) ∧ wx.cell? ⟨gp, 0, none⟩ = some P1 ∧ wx.cell? ⟨gp, 1, none⟩ = some P2 ∧ wx.cell? ⟨gp, 2, none⟩ = some P3 ∧ wx.cell? ⟨gq, 0, none⟩ = some Q1 ∧ wx.cell? ⟨gq, 1, none⟩ = some Q2 ∧ wx.cell? ⟨gq, 2, none⟩ = some Q3 ∧ wx.cell? ⟨gr, 0, none⟩ = some R1 ∧ wx.cell? ⟨gr, 1, none⟩ = some R2 ∧ wx.cell? ⟨gr, 2, none⟩ = some R3) := fun wx h => by
    have X0 := h.heap HGL.out (by simp)
    have X1 := h.heap HG1.out (by simp)
    have X2 := h.heap HG2.out (by simp)
    have X3 := h.heap HG3.out (by simp)
    refine ⟨?_, ?_, ?_, ?_, ?_, ?_, ?_, ?_, ?_, ?_, ?_, ?_, ?_⟩
    · rw [cell_of_row _ _ _ _ _ _ X0]; rfl
    · rw [cell_of_row _ _ _ _ _ _ X0]; rfl
    · rw [cell_of_row _ _ _ _ _ _ X0]; rfl
    · rw [cell_of_row _ _ _ _ _ _ X0]; rfl
    · rw [cell_of_row _ _ _ _ _ _ X1]; rfl
    · rw [cell_of_row _ _ _ _ _ _ X1]; rfl
    · rw [cell_of_row _ _ _ _ _ _ X1]; rfl
    · rw [cell_of_row _ _ _ _ _ _ X2]; rfl
    · rw [cell_of_row _ _ _ _ _ _ X2]; rfl
    · rw [cell_of_row _ _ _ _ _ _ X2]; rfl
    · rw [cell_of_row _ _ _ _ _ _ X3]; rfl
    · rw [cell_of_row _ _ _ _ _ _ X3]; rfl
    · rw [cell_of_row _ _ _ _ _ _ X3]; rfl
  have HCLA := Lib.hid hcl
  clear hcl
  obtain ⟨x, hx⟩ := Is.ex k (L1.length - (colV17 L1 []).length) (colV17 L1 [])
  obtain ⟨y, hy⟩ := Is.ex k (L2.length - (colV17 L2 []).length) (colV17 L2 [])
  obtain ⟨z, hz⟩ := Is.ex k (L3.length - (colV17 L3 [false, ob]).length) (colV17 L3 [false, ob])
  have HO1 := Lib.hid (fun wx (h : Chg [] wH wx) => of_det k hk4 P1 P2 P3 L1 [] x wx (HSD1.out.keep (HE1.out.trans (HTL2.out.trans h (by simp)) (by simp))) (HSV1.out.keep (HE1.out.trans (HTL2.out.trans h (by simp)) (by simp))) (by omega) HOK1.out hx)
  have HO2 := Lib.hid (fun wx (h : Chg [] wH wx) => of_det k hk4 Q1 Q2 Q3 L2 [] y wx (HSD2.out.keep (HE2.out.trans (HSTEP3.out.trans h (by simp)) (by simp))) (HSV2.out.keep (HE2.out.trans (HSTEP3.out.trans h (by simp)) (by simp))) (by omega) HOK2.out hy)
  have HO3 := Lib.hid (fun wx (h : Chg [] wH wx) => of_det k hk4 R1 R2 R3 L3 [false, ob] z wx (HSD3.out.keep (HE3.out.trans h (by simp))) (HSV3.out.keep (HE3.out.trans h (by simp))) (by omega) HOK3.out hz)
  have ok1 : ∀ v ∈ colV17 L1 [], okV k v := fun v hv => HOK1.out v (colV17_mem _ _ v hv)
  have ok2 : ∀ v ∈ colV17 L2 [], okV k v := fun v hv => HOK2.out v (colV17_mem _ _ v hv)
  have ok3 : ∀ v ∈ colV17 L3 [false, ob], okV k v := fun v hv => HOK3.out v (colV17_mem _ _ v hv)
  generalize colV17 L1 [] = A1 at hx ok1
  generalize colV17 L2 [] = A2 at hy ok2
  generalize colV17 L3 [false, ob] = A3 at hz ok3
  obtain ⟨z1, hz1⟩ : ∃ n, n = L1.length - A1.length := ⟨_, rfl⟩
  obtain ⟨z2, hz2⟩ : ∃ n, n = L2.length - A2.length := ⟨_, rfl⟩
  obtain ⟨z3, hz3⟩ : ∃ n, n = L3.length - A3.length := ⟨_, rfl⟩
  have zb1 : z1 ≤ 60 := by omega
  have zb2 : z2 ≤ 60 := by omega
  have zb3 : z3 ≤ 60 := by omega
  rw [← hz1] at hx
  rw [← hz2] at hy
  rw [← hz3] at hz
  have ok12 : ∀ v ∈ A1 ++ A2, okV k v := fun v hv => (List.mem_append.1 hv).elim (ok1 v) (ok2 v)
  have ok23 : ∀ v ∈ A2 ++ A3, okV k v := fun v hv => (List.mem_append.1 hv).elim (ok2 v) (ok3 v)
  have ok123 : ∀ v ∈ A1 ++ A2 ++ A3, okV k v := fun v hv => (List.mem_append.1 hv).elim (ok12 v) (ok3 v)
  have hxy := hx.join hy
  have hyz := hy.join hz
  have hu := hxy.join hz
  have hu2 := hx.join hyz
  have e2 : jnS k x (jnS k y z) = jnS k (jnS k x y) z := (hu.eq hk4 (by rw [Nat.add_assoc]; exact hu2) (fun v => by simp) ok123).symm
  have e3 : jnS k x ⟨0, false, v0, v0⟩ = x := (hx.join (Is.zero k)).eq hk4 hx (fun v => by simp) (fun v hv => ok1 v (by simpa using hv))
  have e4 : jnS k ⟨0, false, v0, v0⟩ x = x := by
    have h := (Is.zero k).join hx
    rw [Nat.zero_add] at h
    exact h.eq hk4 hx (fun v => by simp) (fun v hv => ok1 v (by simpa using hv))
  have sx := hx.small hk4 (by omega) ok1
  have sy := hy.small hk4 (by omega) ok2
  have sz := hz.small hk4 (by omega) ok3
  have s0 : SmS ⟨0, false, v0, v0⟩ := (Is.zero k).small hk4 (by omega) (by simp)
  have sxy := hxy.small hk4 (by omega) ok12
  have syz := hyz.small hk4 (by omega) ok23
  have nx : x.n = (z1 : Int) := hx.n
  have ny : y.n = (z2 : Int) := hy.n
  have nz : z.n = (z3 : Int) := hz.n
  have nxy := hxy.n
  have nyz := hyz.n
  have HJJ1 := fun wx => join17_any k x y wx sx sy (by omega)
  have HJJ2 := fun wx => join17_any k (jnS k x y) z wx sxy sz (by omega)
  have HJJ3 := fun wx => join17_any k y z wx sy sz (by omega)
  have HJJ4 := fun wx => join17_any k x (jnS k y z) wx sx syz (by omega)
  have HJJ5 := fun wx => join17_any k x ⟨0, false, v0, v0⟩ wx sx s0 (by show x.n + 0 ≤ _; omega)
  have HJJ6 := fun wx => join17_any k ⟨0, false, v0, v0⟩ x wx s0 sx (by show (0 : Int) + x.n ≤ _; omega)
  rw [e2] at HJJ4
  rw [e3] at HJJ5
  rw [e4] at HJJ6
  clear e2 e3 e4 hu hu2 hxy hyz nx ny nz nxy nyz sx sy sz s0 sxy syz ok12 ok23 ok123 ok1 ok2 ok3 hx hy hz hz1 hz2 hz3 zb1 zb2 zb3
  generalize jnS k (jnS k x y) z = ju at HJJ2 HJJ4
  generalize jnS k x y = jxy at HJJ1 HJJ2
  generalize jnS k y z = jyz at HJJ3 HJJ4
  have HJ1 := Lib.hid (show ∀ wx, Calls Try.prog 13 #[.int .i64 (k : Int), stV x, stV y] wx fun e w' => e = .returned (stV jxy) ∧ Chg [] wx w' from fun wx => HJJ1 wx)
  have HJ2 := Lib.hid (show ∀ wx, Calls Try.prog 13 #[.int .i64 (k : Int), stV jxy, stV z] wx fun e w' => e = .returned (stV ju) ∧ Chg [] wx w' from fun wx => HJJ2 wx)
  have HJ3 := Lib.hid (show ∀ wx, Calls Try.prog 13 #[.int .i64 (k : Int), stV y, stV z] wx fun e w' => e = .returned (stV jyz) ∧ Chg [] wx w' from fun wx => HJJ3 wx)
  have HJ4 := Lib.hid (show ∀ wx, Calls Try.prog 13 #[.int .i64 (k : Int), stV x, stV jyz] wx fun e w' => e = .returned (stV ju) ∧ Chg [] wx w' from fun wx => HJJ4 wx)
  have HJ5 := Lib.hid (show ∀ wx, Calls Try.prog 13 #[.int .i64 (k : Int), stV x, .agg #[.int .i64 0, .bool false, .int .i64 0, .string { data := #[] }, .int .i64 0, .string { data := #[] }]] wx fun e w' => e = .returned (stV x) ∧ Chg [] wx w' from fun wx => HJJ5 wx)
  have HJ6 := Lib.hid (show ∀ wx, Calls Try.prog 13 #[.int .i64 (k : Int), .agg #[.int .i64 0, .bool false, .int .i64 0, .string { data := #[] }, .int .i64 0, .string { data := #[] }], stV x] wx fun e w' => e = .returned (stV x) ∧ Chg [] wx w' from fun wx => HJJ6 wx)
  clear HJJ1 HJJ2 HJJ3 HJJ4 HJJ5 HJJ6
  refine wp_region_any (by kernel_rfl) ?_
  change wpAny _ _ _ _ _ _ _ (World.drew _)
  refine wpAny_inv (JISj8 k gl gp gq gr P1 P2 P3 Q1 Q2 Q3 R1 R2 R3 x y z wH) ?_ (fun listed a' w' hI hr => ?_) _ _ _ _ ?_ ?_
  rotate_left 2
  focus exact JISj8_start rfl ((Chg.refl [] wH).drew)
  focus exact count_rep _
  focus
    intro listed a' w' hI ii hi hr
    obtain ⟨b, base, u, ga, gb, gc, rfl, rfl, R⟩ := hI
    have hcs := ltSj8 ii hi
    clear hi
    unfold FRSj8
    rcases hcs with rfl | rfl | rfl | rfl | rfl | rfl | rfl | rfl | rfl | rfl | rfl | rfl | rfl | rfl | rfl
    · have hrd := ready_at rfl hr
      clear hr
      simp [Region.binds] at hrd
      clear hrd
      obtain ⟨l0, l1, l2, l3, m0, m1, m2, m3, m4, m5, m6, m7, m8⟩ := HCLA.out _ R.cg
      refine wpOp_step rfl (fun K hK => ?_)
      go_simp
      refine hK _ _ ?_
      exact ⟨upd b 0 true, base, (upd u 54 (.agg #[.int .i64 0, .int .i64 0, .int .i64 1, .int .i64 (k : Int)])), ga, gb, gc, rfl, rfl, ⟨(fun _ => rfl), R.c1, R.c2, R.c3, R.c4, R.c5, R.c6, R.c7, R.c8, R.c9, R.c10, R.c11, R.cg, R.m9, R.n9, R.m10, R.n10, R.m11, R.n11, R.d9_10, R.d9_11, R.d10_11, R.z12_9, R.z13_10, R.z14_11⟩⟩
    · have hrd := ready_at rfl hr
      clear hr
      simp [Region.binds] at hrd
      clear hrd
      obtain ⟨l0, l1, l2, l3, m0, m1, m2, m3, m4, m5, m6, m7, m8⟩ := HCLA.out _ R.cg
      refine wpOp_step rfl (fun K hK => ?_)
      go_simp
      refine hK _ _ ?_
      exact ⟨upd b 1 true, base, (upd u 55 (.agg #[P1, P2, P3])), ga, gb, gc, rfl, rfl, ⟨R.c0, (fun _ => rfl), R.c2, R.c3, R.c4, R.c5, R.c6, R.c7, R.c8, R.c9, R.c10, R.c11, R.cg, R.m9, R.n9, R.m10, R.n10, R.m11, R.n11, R.d9_10, R.d9_11, R.d10_11, R.z12_9, R.z13_10, R.z14_11⟩⟩
    · have hrd := ready_at rfl hr
      clear hr
      simp [Region.binds] at hrd
      have h0 : b 0 = true := by simp [hrd]
      have e0 := R.c0 h0
      have h1 : b 1 = true := by simp [hrd]
      have e1 := R.c1 h1
      clear hrd
      refine wpOp_step rfl (fun K hK => ?_)
      go_simp
      go_at_call 12
      (with_reducible refine (HO1.out w' R.cg).mono ?_)
      rintro e w4 ⟨rfl, hk3⟩
      refine hK _ _ ?_
      exact ⟨upd b 2 true, base, (upd (upd (upd u 54 (.agg #[.int .i64 0, .int .i64 0, .int .i64 1, .int .i64 (k : Int)])) 55 (.agg #[P1, P2, P3])) 56 (stV x)), ga, gb, gc, rfl, rfl, ⟨(fun _ => rfl), (fun _ => rfl), (fun _ => rfl), R.c3, R.c4, R.c5, R.c6, R.c7, R.c8, R.c9, R.c10, R.c11, (R.cg.trans hk3 (by simp)), (fun h => ⟨(R.m9 h).1, Nat.lt_of_lt_of_le (R.m9 h).2.1 hk3.size, fun h5 => hk3.heap ((R.m9 h).2.2 h5) (by simp)⟩), (fun h => hk3.heap (R.n9 h) (by simp)), (fun h => ⟨(R.m10 h).1, Nat.lt_of_lt_of_le (R.m10 h).2.1 hk3.size, fun h5 => hk3.heap ((R.m10 h).2.2 h5) (by simp)⟩), (fun h => hk3.heap (R.n10 h) (by simp)), (fun h => ⟨(R.m11 h).1, Nat.lt_of_lt_of_le (R.m11 h).2.1 hk3.size, fun h5 => hk3.heap ((R.m11 h).2.2 h5) (by simp)⟩), (fun h => hk3.heap (R.n11 h) (by simp)), R.d9_10, R.d9_11, R.d10_11, R.z12_9, R.z13_10, R.z14_11⟩⟩
    · have hrd := ready_at rfl hr
      clear hr
      simp [Region.binds] at hrd
      clear hrd
      obtain ⟨l0, l1, l2, l3, m0, m1, m2, m3, m4, m5, m6, m7, m8⟩ := HCLA.out _ R.cg
      refine wpOp_step rfl (fun K hK => ?_)
      go_simp
      refine hK _ _ ?_
      exact ⟨upd b 3 true, base, (upd u 57 (.agg #[.int .i64 0, .int .i64 0, .int .i64 1, .int .i64 (k : Int)])), ga, gb, gc, rfl, rfl, ⟨R.c0, R.c1, R.c2, (fun _ => rfl), R.c4, R.c5, R.c6, R.c7, R.c8, R.c9, R.c10, R.c11, R.cg, R.m9, R.n9, R.m10, R.n10, R.m11, R.n11, R.d9_10, R.d9_11, R.d10_11, R.z12_9, R.z13_10, R.z14_11⟩⟩
    · have hrd := ready_at rfl hr
      clear hr
      simp [Region.binds] at hrd
      clear hrd
      obtain ⟨l0, l1, l2, l3, m0, m1, m2, m3, m4, m5, m6, m7, m8⟩ := HCLA.out _ R.cg
      refine wpOp_step rfl (fun K hK => ?_)
      go_simp
      refine hK _ _ ?_
      exact ⟨upd b 4 true, base, (upd u 58 (.agg #[Q1, Q2, Q3])), ga, gb, gc, rfl, rfl, ⟨R.c0, R.c1, R.c2, R.c3, (fun _ => rfl), R.c5, R.c6, R.c7, R.c8, R.c9, R.c10, R.c11, R.cg, R.m9, R.n9, R.m10, R.n10, R.m11, R.n11, R.d9_10, R.d9_11, R.d10_11, R.z12_9, R.z13_10, R.z14_11⟩⟩
    · have hrd := ready_at rfl hr
      clear hr
      simp [Region.binds] at hrd
      have h3 : b 3 = true := by simp [hrd]
      have e3 := R.c3 h3
      have h4 : b 4 = true := by simp [hrd]
      have e4 := R.c4 h4
      clear hrd
      refine wpOp_step rfl (fun K hK => ?_)
      go_simp
      go_at_call 12
      (with_reducible refine (HO2.out w' R.cg).mono ?_)
      rintro e w4 ⟨rfl, hk3⟩
      refine hK _ _ ?_
      exact ⟨upd b 5 true, base, (upd (upd (upd u 57 (.agg #[.int .i64 0, .int .i64 0, .int .i64 1, .int .i64 (k : Int)])) 58 (.agg #[Q1, Q2, Q3])) 59 (stV y)), ga, gb, gc, rfl, rfl, ⟨R.c0, R.c1, R.c2, (fun _ => rfl), (fun _ => rfl), (fun _ => rfl), R.c6, R.c7, R.c8, R.c9, R.c10, R.c11, (R.cg.trans hk3 (by simp)), (fun h => ⟨(R.m9 h).1, Nat.lt_of_lt_of_le (R.m9 h).2.1 hk3.size, fun h5 => hk3.heap ((R.m9 h).2.2 h5) (by simp)⟩), (fun h => hk3.heap (R.n9 h) (by simp)), (fun h => ⟨(R.m10 h).1, Nat.lt_of_lt_of_le (R.m10 h).2.1 hk3.size, fun h5 => hk3.heap ((R.m10 h).2.2 h5) (by simp)⟩), (fun h => hk3.heap (R.n10 h) (by simp)), (fun h => ⟨(R.m11 h).1, Nat.lt_of_lt_of_le (R.m11 h).2.1 hk3.size, fun h5 => hk3.heap ((R.m11 h).2.2 h5) (by simp)⟩), (fun h => hk3.heap (R.n11 h) (by simp)), R.d9_10, R.d9_11, R.d10_11, R.z12_9, R.z13_10, R.z14_11⟩⟩
    · have hrd := ready_at rfl hr
      clear hr
      simp [Region.binds] at hrd
      clear hrd
      obtain ⟨l0, l1, l2, l3, m0, m1, m2, m3, m4, m5, m6, m7, m8⟩ := HCLA.out _ R.cg
      refine wpOp_step rfl (fun K hK => ?_)
      go_simp
      refine hK _ _ ?_
      exact ⟨upd b 6 true, base, (upd u 60 (.agg #[.int .i64 0, .int .i64 0, .int .i64 1, .int .i64 (k : Int)])), ga, gb, gc, rfl, rfl, ⟨R.c0, R.c1, R.c2, R.c3, R.c4, R.c5, (fun _ => rfl), R.c7, R.c8, R.c9, R.c10, R.c11, R.cg, R.m9, R.n9, R.m10, R.n10, R.m11, R.n11, R.d9_10, R.d9_11, R.d10_11, R.z12_9, R.z13_10, R.z14_11⟩⟩
    · have hrd := ready_at rfl hr
      clear hr
      simp [Region.binds] at hrd
      clear hrd
      obtain ⟨l0, l1, l2, l3, m0, m1, m2, m3, m4, m5, m6, m7, m8⟩ := HCLA.out _ R.cg
      refine wpOp_step rfl (fun K hK => ?_)
      go_simp
      refine hK _ _ ?_
      exact ⟨upd b 7 true, base, (upd u 61 (.agg #[R1, R2, R3])), ga, gb, gc, rfl, rfl, ⟨R.c0, R.c1, R.c2, R.c3, R.c4, R.c5, R.c6, (fun _ => rfl), R.c8, R.c9, R.c10, R.c11, R.cg, R.m9, R.n9, R.m10, R.n10, R.m11, R.n11, R.d9_10, R.d9_11, R.d10_11, R.z12_9, R.z13_10, R.z14_11⟩⟩
    · have hrd := ready_at rfl hr
      clear hr
      simp [Region.binds] at hrd
      have h6 : b 6 = true := by simp [hrd]
      have e6 := R.c6 h6
      have h7 : b 7 = true := by simp [hrd]
      have e7 := R.c7 h7
      clear hrd
      refine wpOp_step rfl (fun K hK => ?_)
      go_simp
      go_at_call 12
      (with_reducible refine (HO3.out w' R.cg).mono ?_)
      rintro e w4 ⟨rfl, hk3⟩
      refine hK _ _ ?_
      exact ⟨upd b 8 true, base, (upd (upd (upd u 60 (.agg #[.int .i64 0, .int .i64 0, .int .i64 1, .int .i64 (k : Int)])) 61 (.agg #[R1, R2, R3])) 62 (stV z)), ga, gb, gc, rfl, rfl, ⟨R.c0, R.c1, R.c2, R.c3, R.c4, R.c5, (fun _ => rfl), (fun _ => rfl), (fun _ => rfl), R.c9, R.c10, R.c11, (R.cg.trans hk3 (by simp)), (fun h => ⟨(R.m9 h).1, Nat.lt_of_lt_of_le (R.m9 h).2.1 hk3.size, fun h5 => hk3.heap ((R.m9 h).2.2 h5) (by simp)⟩), (fun h => hk3.heap (R.n9 h) (by simp)), (fun h => ⟨(R.m10 h).1, Nat.lt_of_lt_of_le (R.m10 h).2.1 hk3.size, fun h5 => hk3.heap ((R.m10 h).2.2 h5) (by simp)⟩), (fun h => hk3.heap (R.n10 h) (by simp)), (fun h => ⟨(R.m11 h).1, Nat.lt_of_lt_of_le (R.m11 h).2.1 hk3.size, fun h5 => hk3.heap ((R.m11 h).2.2 h5) (by simp)⟩), (fun h => hk3.heap (R.n11 h) (by simp)), R.d9_10, R.d9_11, R.d10_11, R.z12_9, R.z13_10, R.z14_11⟩⟩
    · have hrd := ready_at rfl hr
      clear hr
      simp [Region.binds] at hrd
      have hb9 : b 9 = false := by simp [hrd]
      clear hrd
      have hk3 := (Chg.refl [] w').alloc (.cells #[.int .i64 0, .bool false, .int .i64 0, .string { data := #[] }, .int .i64 0, .string { data := #[] }] 37)
      refine wpOp_step rfl (fun K hK => ?_)
      go_simp
      refine hK _ _ ?_
      exact ⟨upd b 9 true, base, (upd u 19 (.pointer (some ⟨w'.heap.size, 0, none⟩))), w'.heap.size, gb, gc, rfl, rfl, ⟨R.c0, R.c1, R.c2, R.c3, R.c4, R.c5, R.c6, R.c7, R.c8, (fun _ => rfl), R.c10, R.c11, (R.cg.trans hk3 (by simp)), (fun _ => ⟨R.cg.size, by simp, fun _ => hl_new rfl⟩), (fun h => absurd (R.z12_9 h) (by rw [hb9]; decide)), (fun h => ⟨(R.m10 h).1, Nat.lt_of_lt_of_le (R.m10 h).2.1 hk3.size, fun h5 => hk3.heap ((R.m10 h).2.2 h5) (by simp)⟩), (fun h => hk3.heap (R.n10 h) (by simp)), (fun h => ⟨(R.m11 h).1, Nat.lt_of_lt_of_le (R.m11 h).2.1 hk3.size, fun h5 => hk3.heap ((R.m11 h).2.2 h5) (by simp)⟩), (fun h => hk3.heap (R.n11 h) (by simp)), (fun _ h => by have := (R.m10 h).2.1; omega), (fun _ h => by have := (R.m11 h).2.1; omega), R.d10_11, (fun _ => rfl), R.z13_10, R.z14_11⟩⟩
    · have hrd := ready_at rfl hr
      clear hr
      simp [Region.binds] at hrd
      have hb10 : b 10 = false := by simp [hrd]
      clear hrd
      have hk3 := (Chg.refl [] w').alloc (.cells #[.int .i64 0, .bool false, .int .i64 0, .string { data := #[] }, .int .i64 0, .string { data := #[] }] 37)
      refine wpOp_step rfl (fun K hK => ?_)
      go_simp
      refine hK _ _ ?_
      exact ⟨upd b 10 true, base, (upd u 20 (.pointer (some ⟨w'.heap.size, 0, none⟩))), ga, w'.heap.size, gc, rfl, rfl, ⟨R.c0, R.c1, R.c2, R.c3, R.c4, R.c5, R.c6, R.c7, R.c8, R.c9, (fun _ => rfl), R.c11, (R.cg.trans hk3 (by simp)), (fun h => ⟨(R.m9 h).1, Nat.lt_of_lt_of_le (R.m9 h).2.1 hk3.size, fun h5 => hk3.heap ((R.m9 h).2.2 h5) (by simp)⟩), (fun h => hk3.heap (R.n9 h) (by simp)), (fun _ => ⟨R.cg.size, by simp, fun _ => hl_new rfl⟩), (fun h => absurd (R.z13_10 h) (by rw [hb10]; decide)), (fun h => ⟨(R.m11 h).1, Nat.lt_of_lt_of_le (R.m11 h).2.1 hk3.size, fun h5 => hk3.heap ((R.m11 h).2.2 h5) (by simp)⟩), (fun h => hk3.heap (R.n11 h) (by simp)), (fun h _ => by have := (R.m9 h).2.1; omega), R.d9_11, (fun _ h => by have := (R.m11 h).2.1; omega), R.z12_9, (fun _ => rfl), R.z14_11⟩⟩
    · have hrd := ready_at rfl hr
      clear hr
      simp [Region.binds] at hrd
      have hb11 : b 11 = false := by simp [hrd]
      clear hrd
      have hk3 := (Chg.refl [] w').alloc (.cells #[.int .i64 0, .bool false, .int .i64 0, .string { data := #[] }, .int .i64 0, .string { data := #[] }] 37)
      refine wpOp_step rfl (fun K hK => ?_)
      go_simp
      refine hK _ _ ?_
      exact ⟨upd b 11 true, base, (upd u 21 (.pointer (some ⟨w'.heap.size, 0, none⟩))), ga, gb, w'.heap.size, rfl, rfl, ⟨R.c0, R.c1, R.c2, R.c3, R.c4, R.c5, R.c6, R.c7, R.c8, R.c9, R.c10, (fun _ => rfl), (R.cg.trans hk3 (by simp)), (fun h => ⟨(R.m9 h).1, Nat.lt_of_lt_of_le (R.m9 h).2.1 hk3.size, fun h5 => hk3.heap ((R.m9 h).2.2 h5) (by simp)⟩), (fun h => hk3.heap (R.n9 h) (by simp)), (fun h => ⟨(R.m10 h).1, Nat.lt_of_lt_of_le (R.m10 h).2.1 hk3.size, fun h5 => hk3.heap ((R.m10 h).2.2 h5) (by simp)⟩), (fun h => hk3.heap (R.n10 h) (by simp)), (fun _ => ⟨R.cg.size, by simp, fun _ => hl_new rfl⟩), (fun h => absurd (R.z14_11 h) (by rw [hb11]; decide)), R.d9_10, (fun h _ => by have := (R.m9 h).2.1; omega), (fun h _ => by have := (R.m10 h).2.1; omega), R.z12_9, R.z13_10, (fun _ => rfl)⟩⟩
    · have hrd := ready_at rfl hr
      clear hr
      simp [Region.binds] at hrd
      have h2 : b 2 = true := by simp [hrd]
      have e2 := R.c2 h2
      have h9 : b 9 = true := by simp [hrd]
      have e9 := R.c9 h9
      have hb12 : b 12 = false := by simp [hrd]
      clear hrd
      have hx := (R.m9 h9).2.2 hb12
      have hfz : ∀ q, w'.frozen? ⟨ga, q, none⟩ = false := fun q => by simp [World.frozen?, hx]
      have hz0 : w'.cell? ⟨ga, 0, none⟩ = some (.int .i64 0) := by rw [cell_of_row _ _ _ _ _ _ hx]; rfl
      have hz1 : w'.cell? ⟨ga, 1, none⟩ = some (.bool false) := by rw [cell_of_row _ _ _ _ _ _ hx]; rfl
      have hz2 : w'.cell? ⟨ga, 2, none⟩ = some (.int .i64 0) := by rw [cell_of_row _ _ _ _ _ _ hx]; rfl
      have hz3 : w'.cell? ⟨ga, 3, none⟩ = some (.string { data := #[] }) := by rw [cell_of_row _ _ _ _ _ _ hx]; rfl
      have hz4 : w'.cell? ⟨ga, 4, none⟩ = some (.int .i64 0) := by rw [cell_of_row _ _ _ _ _ _ hx]; rfl
      have hz5 : w'.cell? ⟨ga, 5, none⟩ = some (.string { data := #[] }) := by rw [cell_of_row _ _ _ _ _ _ hx]; rfl
      refine wpOp_step rfl (fun K hK => ?_)
      go_simp
      refine hK _ _ ?_
      exact ⟨upd b 12 true, base, (upd (upd u 56 (stV x)) 19 (.pointer (some ⟨ga, 0, none⟩))), ga, gb, gc, rfl, rfl, ⟨R.c0, R.c1, (fun _ => rfl), R.c3, R.c4, R.c5, R.c6, R.c7, R.c8, (fun _ => rfl), R.c10, R.c11, ((((((R.cg.setCell (.inr (R.m9 h9).1) _).setCell (.inr (R.m9 h9).1) _).setCell (.inr (R.m9 h9).1) _).setCell (.inr (R.m9 h9).1) _).setCell (.inr (R.m9 h9).1) _).setCell (.inr (R.m9 h9).1) _), (fun _ => ⟨(R.m9 h9).1, by simpa using (R.m9 h9).2.1, fun h => by cases h⟩), (fun _ => set6 hx _ _ _ _ _ _), (fun h => ⟨(R.m10 h).1, by simpa using (R.m10 h).2.1, fun h5 => other6 ((R.m10 h).2.2 h5) (Ne.symm (R.d9_10 h9 h))⟩), (fun h => other6 (R.n10 h) (Ne.symm (R.d9_10 h9 (R.z13_10 h)))), (fun h => ⟨(R.m11 h).1, by simpa using (R.m11 h).2.1, fun h5 => other6 ((R.m11 h).2.2 h5) (Ne.symm (R.d9_11 h9 h))⟩), (fun h => other6 (R.n11 h) (Ne.symm (R.d9_11 h9 (R.z14_11 h)))), R.d9_10, R.d9_11, R.d10_11, (fun _ => h9), R.z13_10, R.z14_11⟩⟩
    · have hrd := ready_at rfl hr
      clear hr
      simp [Region.binds] at hrd
      have h5 : b 5 = true := by simp [hrd]
      have e5 := R.c5 h5
      have h10 : b 10 = true := by simp [hrd]
      have e10 := R.c10 h10
      have hb13 : b 13 = false := by simp [hrd]
      clear hrd
      have hx := (R.m10 h10).2.2 hb13
      have hfz : ∀ q, w'.frozen? ⟨gb, q, none⟩ = false := fun q => by simp [World.frozen?, hx]
      have hz0 : w'.cell? ⟨gb, 0, none⟩ = some (.int .i64 0) := by rw [cell_of_row _ _ _ _ _ _ hx]; rfl
      have hz1 : w'.cell? ⟨gb, 1, none⟩ = some (.bool false) := by rw [cell_of_row _ _ _ _ _ _ hx]; rfl
      have hz2 : w'.cell? ⟨gb, 2, none⟩ = some (.int .i64 0) := by rw [cell_of_row _ _ _ _ _ _ hx]; rfl
      have hz3 : w'.cell? ⟨gb, 3, none⟩ = some (.string { data := #[] }) := by rw [cell_of_row _ _ _ _ _ _ hx]; rfl
      have hz4 : w'.cell? ⟨gb, 4, none⟩ = some (.int .i64 0) := by rw [cell_of_row _ _ _ _ _ _ hx]; rfl
      have hz5 : w'.cell? ⟨gb, 5, none⟩ = some (.string { data := #[] }) := by rw [cell_of_row _ _ _ _ _ _ hx]; rfl
      refine wpOp_step rfl (fun K hK => ?_)
      go_simp
      refine hK _ _ ?_
      exact ⟨upd b 13 true, base, (upd (upd u 59 (stV y)) 20 (.pointer (some ⟨gb, 0, none⟩))), ga, gb, gc, rfl, rfl, ⟨R.c0, R.c1, R.c2, R.c3, R.c4, (fun _ => rfl), R.c6, R.c7, R.c8, R.c9, (fun _ => rfl), R.c11, ((((((R.cg.setCell (.inr (R.m10 h10).1) _).setCell (.inr (R.m10 h10).1) _).setCell (.inr (R.m10 h10).1) _).setCell (.inr (R.m10 h10).1) _).setCell (.inr (R.m10 h10).1) _).setCell (.inr (R.m10 h10).1) _), (fun h => ⟨(R.m9 h).1, by simpa using (R.m9 h).2.1, fun h5 => other6 ((R.m9 h).2.2 h5) (R.d9_10 h h10)⟩), (fun h => other6 (R.n9 h) (R.d9_10 (R.z12_9 h) h10)), (fun _ => ⟨(R.m10 h10).1, by simpa using (R.m10 h10).2.1, fun h => by cases h⟩), (fun _ => set6 hx _ _ _ _ _ _), (fun h => ⟨(R.m11 h).1, by simpa using (R.m11 h).2.1, fun h5 => other6 ((R.m11 h).2.2 h5) (Ne.symm (R.d10_11 h10 h))⟩), (fun h => other6 (R.n11 h) (Ne.symm (R.d10_11 h10 (R.z14_11 h)))), R.d9_10, R.d9_11, R.d10_11, R.z12_9, (fun _ => h10), R.z14_11⟩⟩
    · have hrd := ready_at rfl hr
      clear hr
      simp [Region.binds] at hrd
      have h8 : b 8 = true := by simp [hrd]
      have e8 := R.c8 h8
      have h11 : b 11 = true := by simp [hrd]
      have e11 := R.c11 h11
      have hb14 : b 14 = false := by simp [hrd]
      clear hrd
      have hx := (R.m11 h11).2.2 hb14
      have hfz : ∀ q, w'.frozen? ⟨gc, q, none⟩ = false := fun q => by simp [World.frozen?, hx]
      have hz0 : w'.cell? ⟨gc, 0, none⟩ = some (.int .i64 0) := by rw [cell_of_row _ _ _ _ _ _ hx]; rfl
      have hz1 : w'.cell? ⟨gc, 1, none⟩ = some (.bool false) := by rw [cell_of_row _ _ _ _ _ _ hx]; rfl
      have hz2 : w'.cell? ⟨gc, 2, none⟩ = some (.int .i64 0) := by rw [cell_of_row _ _ _ _ _ _ hx]; rfl
      have hz3 : w'.cell? ⟨gc, 3, none⟩ = some (.string { data := #[] }) := by rw [cell_of_row _ _ _ _ _ _ hx]; rfl
      have hz4 : w'.cell? ⟨gc, 4, none⟩ = some (.int .i64 0) := by rw [cell_of_row _ _ _ _ _ _ hx]; rfl
      have hz5 : w'.cell? ⟨gc, 5, none⟩ = some (.string { data := #[] }) := by rw [cell_of_row _ _ _ _ _ _ hx]; rfl
      refine wpOp_step rfl (fun K hK => ?_)
      go_simp
      refine hK _ _ ?_
      exact ⟨upd b 14 true, base, (upd (upd u 62 (stV z)) 21 (.pointer (some ⟨gc, 0, none⟩))), ga, gb, gc, rfl, rfl, ⟨R.c0, R.c1, R.c2, R.c3, R.c4, R.c5, R.c6, R.c7, (fun _ => rfl), R.c9, R.c10, (fun _ => rfl), ((((((R.cg.setCell (.inr (R.m11 h11).1) _).setCell (.inr (R.m11 h11).1) _).setCell (.inr (R.m11 h11).1) _).setCell (.inr (R.m11 h11).1) _).setCell (.inr (R.m11 h11).1) _).setCell (.inr (R.m11 h11).1) _), (fun h => ⟨(R.m9 h).1, by simpa using (R.m9 h).2.1, fun h5 => other6 ((R.m9 h).2.2 h5) (R.d9_11 h h11)⟩), (fun h => other6 (R.n9 h) (R.d9_11 (R.z12_9 h) h11)), (fun h => ⟨(R.m10 h).1, by simpa using (R.m10 h).2.1, fun h5 => other6 ((R.m10 h).2.2 h5) (R.d10_11 h h11)⟩), (fun h => other6 (R.n10 h) (R.d10_11 (R.z13_10 h) h11)), (fun _ => ⟨(R.m11 h11).1, by simpa using (R.m11 h11).2.1, fun h => by cases h⟩), (fun _ => set6 hx _ _ _ _ _ _), R.d9_10, R.d9_11, R.d10_11, R.z12_9, R.z13_10, (fun _ => h11)⟩⟩
  obtain ⟨b, base, u, ga, gb, gc, rfl, rfl, R⟩ := hI
  have hall := ready_all2 hr rfl (by kernel_rfl)
  have h9 : b 9 = true := Option.some.inj (hall 9 (by decide))
  have e9 := R.c9 h9
  have h10 : b 10 = true := Option.some.inj (hall 10 (by decide))
  have e10 := R.c10 h10
  have h11 : b 11 = true := Option.some.inj (hall 11 (by decide))
  have e11 := R.c11 h11
  have h12 : b 12 = true := Option.some.inj (hall 12 (by decide))
  have h13 : b 13 = true := Option.some.inj (hall 13 (by decide))
  have h14 : b 14 = true := Option.some.inj (hall 14 (by decide))
  have M1 := Lib.hid (R.n9 h12)
  have M2 := Lib.hid (R.n10 h13)
  have M3 := Lib.hid (R.n11 h14)
  have HCG := Lib.hid R.cg
  unfold FRSj8
  rw [e9, e10, e11]
  clear e9 e10 e11
  clear R hr hall h9 h10 h11 h12 h13 h14

  generalize w' = wG at HCG M1 M2 M3 ⊢
  have HCLZ := Lib.hid (show ∀ wx, Chg [] wG wx → wx.cell? ⟨ga, 0, none⟩ = some (.int .i64 x.n) ∧ wx.cell? ⟨ga, 1, none⟩ = some (.bool x.h) ∧ wx.cell? ⟨ga, 2, none⟩ = some (.int .i64 x.a.n) ∧ wx.cell? ⟨ga, 3, none⟩ = some (.string x.a.s) ∧ wx.cell? ⟨ga, 4, none⟩ = some (.int .i64 x.b.n) ∧ wx.cell? ⟨ga, 5, none⟩ = some (.string x.b.s) ∧ wx.cell? ⟨gb, 0, none⟩ = some (.int .i64 y.n) ∧ wx.cell? ⟨gb, 1, none⟩ = some (.bool y.h) ∧ wx.cell? ⟨gb, 2, none⟩ = some (.int .i64 y.a.n) ∧ wx.cell? ⟨gb, 3, none⟩ = some (.string y.a.s) ∧ wx.cell? ⟨gb, 4, none⟩ = some (.int .i64 y.b.n) ∧ wx.cell? ⟨gb, 5, none⟩ = some (.string y.b.s) ∧ wx.cell? ⟨gc, 0, none⟩ = some (.int .i64 z.n) ∧ wx.cell? ⟨gc, 1, none⟩ = some (.bool z.h) ∧ wx.cell? ⟨gc, 2, none⟩ = some (.int .i64 z.a.n) ∧ wx.cell? ⟨gc, 3, none⟩ = some (.string z.a.s) ∧ wx.cell? ⟨gc, 4, none⟩ = some (.int .i64 z.b.n) ∧ wx.cell? ⟨gc, 5, none⟩ = some (.string z.b.s) from fun wx h => by
    have X1 := (six_cells (h.heap M1.out (by simp))).1
    have X2 := (six_cells (h.heap M2.out (by simp))).1
    have X3 := (six_cells (h.heap M3.out (by simp))).1
    obtain ⟨a0, a1, a2, a3, a4, a5⟩ := X1
    obtain ⟨b0, b1, b2, b3, b4, b5⟩ := X2
    exact ⟨a0, a1, a2, a3, a4, a5, b0, b1, b2, b3, b4, b5, X3⟩)
  go_wp2_with fail
  go_region_held3 (fun wx => wx.cell? ⟨ga, 0, none⟩ = some (.int .i64 x.n) ∧ wx.cell? ⟨ga, 1, none⟩ = some (.bool x.h) ∧ wx.cell? ⟨ga, 2, none⟩ = some (.int .i64 x.a.n) ∧ wx.cell? ⟨ga, 3, none⟩ = some (.string x.a.s) ∧ wx.cell? ⟨ga, 4, none⟩ = some (.int .i64 x.b.n) ∧ wx.cell? ⟨ga, 5, none⟩ = some (.string x.b.s) ∧ wx.cell? ⟨gb, 0, none⟩ = some (.int .i64 y.n) ∧ wx.cell? ⟨gb, 1, none⟩ = some (.bool y.h) ∧ wx.cell? ⟨gb, 2, none⟩ = some (.int .i64 y.a.n) ∧ wx.cell? ⟨gb, 3, none⟩ = some (.string y.a.s) ∧ wx.cell? ⟨gb, 4, none⟩ = some (.int .i64 y.b.n) ∧ wx.cell? ⟨gb, 5, none⟩ = some (.string y.b.s) ∧ wx.cell? ⟨gc, 0, none⟩ = some (.int .i64 z.n) ∧ wx.cell? ⟨gc, 1, none⟩ = some (.bool z.h) ∧ wx.cell? ⟨gc, 2, none⟩ = some (.int .i64 z.a.n) ∧ wx.cell? ⟨gc, 3, none⟩ = some (.string z.a.s) ∧ wx.cell? ⟨gc, 4, none⟩ = some (.int .i64 z.b.n) ∧ wx.cell? ⟨gc, 5, none⟩ = some (.string z.b.s)) (first | exact HCLZ.out _ (by with_reducible repeat (first | exact HW.out | exact Chg.refl _ _ | refine Chg.drew ?_))) (first
    | (go_simp; go_at_call 13; (with_reducible first | refine (HJ1.out _).mono ?_ | refine (HJ2.out _).mono ?_ | refine (HJ3.out _).mono ?_ | refine (HJ4.out _).mono ?_ | refine (HJ5.out _).mono ?_ | refine (HJ6.out _).mono ?_); rintro e w3 ⟨rfl, hk3⟩; have HW := Lib.hid (chg_via (by with_reducible repeat (first | exact HW.out | exact Chg.refl _ _ | refine Chg.drew ?_)) hk3 : Chg [] wG _); clear hk3)
    | (go_simp; go_at_call 16; (with_reducible first | refine (same17_any ju _).mono ?_ | refine (same17_any x _).mono ?_); rintro e w3 ⟨rfl, hk3⟩; have HW := Lib.hid (chg_via (by with_reducible repeat (first | exact HW.out | exact Chg.refl _ _ | refine Chg.drew ?_)) hk3 : Chg [] wG _); clear hk3))
  all_goals
    go_wp2
    go_ret
    exact ⟨rfl, (H3.out.trans (HCG.out.trans HW.out (by simp)) (by simp)).below (Nat.le_refl _) (by simp)⟩

end Go.Proofs.Ytgfjmbjpikcffaa
