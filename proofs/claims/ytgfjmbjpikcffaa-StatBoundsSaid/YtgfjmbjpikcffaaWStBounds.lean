/- The walk of the statement StatBounds. -/
import Derived.Test.YtgfjmbjpikcffaaKn17
import Derived.Test.YtgfjmbjpikcffaaCol17
import Derived.Test.YtgfjmbjpikcffaaRc17
import Derived.Test.YtgfjmbjpikcffaaUv
namespace Go.Proofs.Ytgfjmbjpikcffaa
open Go.RowKit
set_option linter.unusedVariables false
set_option linter.unusedSimpArgs false

/-- Two values, as they are held against each other. -/
theorem eqV_bool (x m : V) : (x.n == m.n && x.s.toList == m.s.toList) = decide (x = m) := by
  obtain ⟨xn, xs⟩ := x
  obtain ⟨mn, ms⟩ := m
  rw [Bool.eq_iff_iff]
  simp only [Bool.and_eq_true, beq_iff_eq, decide_eq_true_eq, V.mk.injEq]
  constructor
  · rintro ⟨h1, h2⟩
    refine ⟨h1, ?_⟩
    rw [ByteArray.toList_eq, ByteArray.toList_eq] at h2
    cases xs; cases ms
    congr 1
    exact Array.toList_inj.1 h2
  · rintro ⟨h1, h2⟩
    exact ⟨h1, by rw [h2]⟩

def lowB (L : List V) (m : V) (i : Nat) : Bool := decide (L.length = 0 ∨ m ∈ L.take i)
theorem lowB_step {L : List V} {i : Nat} {x m : V} (h : L[i]? = some x) : lowB L m (i + 1) = (lowB L m i || (x.n == m.n && x.s.toList == m.s.toList)) := by
  rw [eqV_bool]
  unfold lowB
  rw [List.take_add_one, h, Bool.eq_iff_iff]
  have hl := (List.getElem?_eq_some_iff.1 h).1
  simp only [Bool.or_eq_true, decide_eq_true_eq, Option.toList_some, List.mem_append, List.mem_singleton]
  constructor
  · rintro (h | h | h)
    · omega
    · exact .inl (.inr h)
    · exact .inr h.symm
  · rintro ((h | h) | h)
    · omega
    · exact .inr (.inl h)
    · exact .inr (.inr h.symm)

set_option maxRecDepth 100000 in
set_option maxHeartbeats 4000000 in
theorem walk_StatBounds (a0 : Int) (a1 : Option Addr) (len1 cap1 : Nat) (l1 : List V) (w : World) (w0 : (Lit.int .i64 a0).wf = true) (w1 : SeenV w (.slice a1 len1 cap1) l1) (v1 : ∀ v ∈ l1, (Lit.int .i64 v.n).wf = true) :
    Calls Try.prog 4 #[.int .i64 a0, .slice a1 len1 cap1] w fun e w' => e = .returned (.bool true) ∧ Below w.heap.size w w' := by
  have HS := Lib.hid w1; have HV := Lib.hid v1
  have HQ := Lib.hid (fun wx => within17 a0 4 4 wx rfl (by decide) (by decide) w0)
  obtain ⟨K, hK⟩ : ∃ K, K = (a0 % ((4 : Nat) : Int)).toNat := ⟨_, rfl⟩
  have hK4 : K < 4 := by rw [hK]; exact within_lt a0 4 (by decide)
  rw [← hK] at HQ
  clear w1 v1 w0 hK
  go_enter Try.func4, Try.ntmps4
  go_wp2_with fail
  refine (known17_any _).mono ?_
  rintro e wA ⟨rfl, hk⟩
  have HKA := Lib.hid hk
  clear hk
  go_wp2_with fail
  refine (HQ.out _).mono ?_
  rintro e wB ⟨rfl, rfl⟩
  go_wp2_with fail
  obtain ⟨k, hk⟩ : ∃ k, k = K + 1 := ⟨_, rfl⟩
  have hk4 : 1 ≤ k ∧ k ≤ 4 := by omega
  rw [show (1 : Int) + (K : Int) = (k : Int) by omega]
  clear hk hK4 HQ
  refine (all11_any k hk4 _ l1 wA (HS.out.keep HKA.out) HV.out).mono ?_
  rintro e wB ⟨x, rfl, hc, ho⟩
  obtain ⟨lo, lc, rfl⟩ := own_shape ho
  have hL60 := allV_len k l1
  have hOK := Lib.hid (allV_ok k l1 HV.out)
  obtain ⟨L, hL⟩ : ∃ L, L = allV k l1 := ⟨_, rfl⟩
  rw [← hL] at ho hL60 hOK ⊢
  obtain ⟨n, hn⟩ : ∃ n, n = L.length := ⟨_, rfl⟩
  rw [← hn] at ho hL60 ⊢
  have HN := Lib.hid hn
  have HSL := Lib.hid (SeenK.own V.cs_len ho hn.symm)
  have HWB := Lib.hid (HKA.out.trans hc (by simp))
  clear hc ho hL hn
  go_wp2_with fail
  have hC := column17_any (.slice lo n lc) (.slice none 0 0) L [] wB HSL.out (SeenK.none17 _) (by rw [← HN.out]; omega)
  refine hC.mono ?_
  rintro e wC ⟨rv, dv, vv, rfl, hc, hd, hv, ro, rc, rfl⟩
  obtain ⟨dO, dc, rfl, -, -⟩ := hd.shape
  obtain ⟨vO, vc, rfl, -, -⟩ := hv.shape
  clear hC
  have HWC := Lib.hid (HWB.out.trans hc (by simp))
  have HSL2 := Lib.hid (HSL.out.keep hc)
  have HSD := Lib.hid hd; have HSV := Lib.hid hv
  clear hc hd hv
  have HOF := Lib.hid (show ∀ wx, Chg [] wC wx → Calls Try.prog 12 #[.agg #[.int .i64 0, .int .i64 0, .int .i64 1, .int .i64 (k : Int)], .agg #[.slice ro L.length rc, .slice dO (colD17 L []).length dc, .slice vO (colV17 L []).length vc]] wx fun e w' => ∃ s, e = .returned (stV s) ∧ Chg [] wx w' ∧ Is k 0 L s from fun wx hx => by
    have h := of17_any k hk4 0 0 1 (.slice ro L.length rc) _ _ (colD17 L []) (colV17 L []) wx (HSD.out.keep hx) (HSV.out.keep hx) (by rw [colD17_len, ← HN.out]; omega) (by rw [colV17_nil]; exact hOK.out) (colV17_cnt L [])
    rw [colV17_nil, colD17_len, Nat.sub_self] at h
    rw [colV17_nil, colD17_len]
    exact h)
  generalize (colD17 L []).length = nd at HSD HOF ⊢
  generalize (colV17 L []).length = nv' at HSV HOF ⊢
  generalize L.length = nr at HOF ⊢
  go_wp2_with (first
    | (go_at_call 12; (with_reducible refine (HOF.out _ (by with_reducible repeat (first | exact Chg.refl _ _ | refine Chg.alloc ?_ _))).mono ?_); rintro e wD ⟨s, rfl, hc, hs⟩; have HWD := Lib.hid ((((HWC.out).alloc _).alloc _).trans hc (by simp)); have HSL3 := Lib.hid (HSL2.out.keep ((((Chg.refl [] wC).alloc _).alloc _).trans hc (by simp))); have HIS := Lib.hid hs; clear hc hs)
    | fail)
  obtain ⟨wE, hwE⟩ : ∃ wE, wE = wD.alloc (.cells (stC s) 37) := ⟨_, rfl⟩
  have HWE := Lib.hid (show Chg [] wD wE by rw [hwE]; exact (Chg.refl [] wD).alloc _)
  have HE := Lib.hid (show wE.heap[wD.heap.size]? = some (.cells (stC s) 37 (0, 0)) by rw [hwE]; exact heap_alloc_new wD _)
  have HSL4 := Lib.hid (HSL3.out.keep HWE.out)
  rw [← hwE]
  obtain ⟨ge, hge⟩ : ∃ g, g = wD.heap.size := ⟨_, rfl⟩
  rw [← hge] at HE ⊢
  clear hwE hge
  have hok2 := Lib.hid (⟨fun h => HIS.out.lo h, fun h => HIS.out.hi h⟩ : (L ≠ [] → _) ∧ (L ≠ [] → _))
  have HSZ := Lib.hid (HIS.out.small hk4 (by omega) hOK.out)
  go_loopw [10, 11, 12] (fun p q x w' => ∃ i : Nat, p = .bool (lowB L s.a i) ∧ q = .bool (lowB L s.b i) ∧ x = .int .i64 (i : Int) ∧ i ≤ n ∧ Chg [] wE w') (fun _ _ x _ => n - (intOf x).toNat)
  case atStart =>
    have e0 : ∀ m : V, ((n : Int) == 0) = lowB L m 0 := fun m => by
      unfold lowB
      rw [← HN.out, Bool.eq_iff_iff]
      simp
    exact ⟨0, by rw [← e0], by rw [← e0], rfl, Nat.zero_le _, Chg.refl _ _⟩
  case round =>
    obtain ⟨i, rfl, rfl, rfl, hin, hc⟩ := hrel
    have HC := Lib.hid hc
    have hcl : ∀ wx, Chg [] wr wx → wx.cell? ⟨ge, 0, none⟩ = some (.int .i64 s.n) ∧ wx.cell? ⟨ge, 1, none⟩ = some (.bool s.h) ∧ wx.cell? ⟨ge, 2, none⟩ = some (.int .i64 s.a.n) ∧ wx.cell? ⟨ge, 3, none⟩ = some (.string s.a.s) ∧ wx.cell? ⟨ge, 4, none⟩ = some (.int .i64 s.b.n) ∧ wx.cell? ⟨ge, 5, none⟩ = some (.string s.b.s) := fun wx h =>
      (six_cells ((HC.out.trans h (by simp)).heap HE.out (by simp))).1
    obtain ⟨m0, m1, m2, m3, m4, m5⟩ := hcl wr (Chg.refl _ _)
    have HCLE := Lib.hid hcl
    clear hc hcl
    by_cases hlt : i < n
    · have d1 : decide ((i : Int) < (n : Int)) = true := by simp; omega
      obtain ⟨x, hx⟩ : ∃ x, L[i]? = some x := ⟨_, List.getElem?_eq_getElem (by rw [← HN.out]; exact hlt)⟩
      have hmem := List.mem_of_getElem? hx
      have hne : L ≠ [] := List.ne_nil_of_mem hmem
      obtain ⟨gl, ol, rfl, hget⟩ := SeenV.get HSL4.out (by omega)
      have z0 := HC.out.cell (hget i x hx).1 (by simp)
      have z1 := HC.out.cell (hget i x hx).2 (by simp)
      have q1 := (hok2.out.1 hne).2 x hmem
      have q2 := (hok2.out.2 hne).2 x hmem
      have n1 := cv_neg k s.a x; have n2 := cv_neg k s.b x
      have hxs := ok_size hk4 (hOK.out x hmem)
      have HK1 := Lib.hid (fun wx => rcompare_any k x s.a wx (Nat.le_trans hxs (by decide)) (Nat.le_trans HSZ.out.a (by decide)))
      have HK2 := Lib.hid (fun wx => rcompare_any k x s.b wx (Nat.le_trans hxs (by decide)) (Nat.le_trans HSZ.out.b (by decide)))
      have d2 : decide (cv k x s.a < 0) = false := by simp; omega
      have d3 : decide (0 < cv k x s.b) = false := by simp; omega
      have HLA := Lib.hid (lowB_step (m := s.a) hx)
      have HLB := Lib.hid (lowB_step (m := s.b) hx)
      generalize cv k x s.a = c1 at HK1 d2
      generalize cv k x s.b = c2 at HK2 d3
      have HCLX := Lib.hid (show ∀ wx, Chg [] wr wx → wx.cell? ⟨ge, 2, none⟩ = some (.int .i64 s.a.n) ∧ wx.cell? ⟨ge, 3, none⟩ = some (.string s.a.s) ∧ wx.cell? ⟨ge, 4, none⟩ = some (.int .i64 s.b.n) ∧ wx.cell? ⟨ge, 5, none⟩ = some (.string s.b.s) ∧ wx.cell? ⟨gl, ol + i * 2, none⟩ = some (.int .i64 x.n) ∧ wx.cell? ⟨gl, ol + i * 2 + 1, none⟩ = some (.string x.s) from fun wx h => ⟨(HCLE.out wx h).2.2.1, (HCLE.out wx h).2.2.2.1, (HCLE.out wx h).2.2.2.2.1, (HCLE.out wx h).2.2.2.2.2, h.cell z0 (by simp), h.cell z1 (by simp)⟩)
      have hi0 : (i : Int).toNat = i := by omega
      have hi1 : (0 : Int) ≤ (i : Int) := by omega
      have hi2 : (i : Int) < (n : Int) := by omega
      clear hget hx hmem hne q1 q2 n1 n2 hxs m0 m1
      go_upto_region 12 with fail
      go_region_held3 (fun wx => wx.cell? ⟨ge, 2, none⟩ = some (.int .i64 s.a.n) ∧ wx.cell? ⟨ge, 3, none⟩ = some (.string s.a.s) ∧ wx.cell? ⟨ge, 4, none⟩ = some (.int .i64 s.b.n) ∧ wx.cell? ⟨ge, 5, none⟩ = some (.string s.b.s) ∧ wx.cell? ⟨gl, ol + i * 2, none⟩ = some (.int .i64 x.n) ∧ wx.cell? ⟨gl, ol + i * 2 + 1, none⟩ = some (.string x.s)) (first | exact HCLX.out _ (by with_reducible repeat (first | exact HW.out | exact Chg.refl _ _ | refine Chg.drew ?_))) (first
        | (go_simp; go_at_call 17; (with_reducible first | refine (HK1.out _).mono ?_ | refine (HK2.out _).mono ?_); rintro e w3 ⟨rfl, hk3⟩; have HW := Lib.hid (chg_via (by with_reducible repeat (first | exact HW.out | exact Chg.refl _ _ | refine Chg.drew ?_)) hk3 : Chg [] wr _); clear hk3))
      all_goals
        obtain ⟨x2, x3, x4, x5, x6, x7⟩ := HCLX.out w3 HW.out
        obtain ⟨bl, hbl⟩ : ∃ b, b = lowB L s.a i := ⟨_, rfl⟩
        obtain ⟨bh, hbh⟩ : ∃ b, b = lowB L s.b i := ⟨_, rfl⟩
        rw [← hbl] at HLA ⊢
        rw [← hbh] at HLB ⊢
        have HWX := Lib.hid (HC.out.trans HW.out (by simp))
        clear hbl hbh z0 z1 m2 m3 m4 m5
        have four : ∀ (b : Bool) (m : V), b = true ∨ (b = false ∧ (x.n == m.n) = true ∧ (x.s.toList == m.s.toList) = true) ∨ (b = false ∧ (x.n == m.n) = true ∧ (x.s.toList == m.s.toList) = false) ∨ (b = false ∧ (x.n == m.n) = false) := fun b m => by
          cases b <;> cases (x.n == m.n) <;> cases (x.s.toList == m.s.toList) <;> simp
        have hA := four bl s.a
        have hB := four bh s.b
        clear four
        rcases hA with rfl | ⟨rfl, a1, a2⟩ | ⟨rfl, a1, a2⟩ | ⟨rfl, a1⟩ <;> rcases hB with rfl | ⟨rfl, b1, b2⟩ | ⟨rfl, b1, b2⟩ | ⟨rfl, b1⟩
        all_goals
          go_upto_region 14 with fail
          go_quiet (fail)
          go_wp2
          go_roundw
          case rel => exact ⟨i + 1, by first | rfl | (rw [HLA.out]; simp [*]), by first | rfl | (rw [HLB.out]; simp [*]), by go_num, by omega, HWX.out.drewN _⟩
          case measure => simp [intOf]; omega
    · have d1 : decide ((i : Int) < (n : Int)) = false := by simp; omega
      have hin' : i = L.length := by rw [← HN.out]; omega
      have e1 : lowB L s.a i = true := by
        unfold lowB
        rw [hin', List.take_length, decide_eq_true_eq]
        by_cases h : L = []
        · left; rw [h]; rfl
        · right; exact (HIS.out.lo h).1
      have e2 : lowB L s.b i = true := by
        unfold lowB
        rw [hin', List.take_length, decide_eq_true_eq]
        by_cases h : L = []
        · left; rw [h]; rfl
        · right; exact (HIS.out.hi h).1
      have e3 : s.n = 0 := HIS.out.n
      have e4 : s.h = decide ((0 : Int) < (n : Int)) := by
        rw [HIS.out.h, HN.out, Bool.eq_iff_iff]
        simp [List.length_pos_iff]
      have HFIN := Lib.hid (HWD.out.trans (HWE.out.trans HC.out (by simp)) (by simp))
      rw [e1, e2]
      rw [e3] at m0
      rw [e4] at m1
      clear e1 e2 e3 e4 hin'
      go_wp2
      go_ret
      exact ⟨rfl, HFIN.out.below (Nat.le_refl _) (by simp)⟩

end Go.Proofs.Ytgfjmbjpikcffaa
