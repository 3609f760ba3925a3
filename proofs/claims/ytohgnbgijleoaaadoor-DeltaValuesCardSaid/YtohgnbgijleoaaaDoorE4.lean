/- Dl, Dm, Dn, Dp: texts of one group, one behind the other. -/
import Derived.Test.YtohgnbgijleoaaaDoorE3
import Derived.Test.YtohgnbgijleoaaaDoorE2
import Derived.Test.YtohgnbgijleoaaaDoorU2
import Derived.Deep.RegionLaw
import Derived.Deep.DeepCutAuto
import Derived.Deep.RegionHeld3
import Derived.Test.YtohgnbgijleoaaaDoorGq
namespace Go.Proofs.YtohgnbgijleoaaaDoor
open Go.RowKit
set_option linter.unusedVariables false
set_option linter.unusedSimpArgs false

/-- The decoder stands. -/
structure DD (w0 w : World) (gd B : Nat) (b : List Nat) (n : Int) (L : List V) : Prop where
  c0 : Chg [] w0 w
  g0 : w0.heap.size ≤ gd
  g1 : gd < B
  lB : B ≤ w.heap.size
  by' : ∀ x ∈ b, x < 2 ^ 8
  bl : b.length ≤ 1000000000
  st : ∃ bv lv, w.heap[gd]? = some (.cells #[bv, .int .i64 n, lv] 47 (0, 0)) ∧ Seen w0 bv (nv .u8 b) ∧ w.ownsRow B 39 2 lv L.length (L.flatMap V.cs)

/-- What lies beneath B stays, but for gd. -/
def LowK (w w' : World) (gd B : Nat) : Prop := ∀ q o, q < B → q ≠ gd → w.heap[q]? = some o → w'.heap[q]? = some o

/-- Numbers as values. -/
def nV (l : List Int) : List V := l.map fun v => ⟨v, e0⟩
@[simp] theorem nV_length (l : List Int) : (nV l).length = l.length := by simp [nV]

def fillV12 (d : List Int) (j : Nat) : List V := nV (d.take j) ++ List.replicate (d.length - j) ⟨0, e0⟩
theorem fillV12_len (d : List Int) (j : Nat) (h : j ≤ d.length) : (fillV12 d j).length = d.length := by unfold fillV12; simp; omega
theorem fillV12_all (d : List Int) : fillV12 d d.length = nV d := by unfold fillV12; simp
theorem fillV12_at (d : List Int) (j : Nat) (h : j < d.length) : (fillV12 d j)[j]? = some ⟨0, e0⟩ := by
  unfold fillV12
  rw [List.getElem?_append_right (by simp; omega)]
  rw [List.getElem?_replicate, if_pos (by simp; omega)]
theorem fillV12_set (d : List Int) (j : Nat) (h : j < d.length) : ((fillV12 d j).flatMap V.cs).set (j * 2) (.int .i64 (d.getD j 0)) = (fillV12 d (j + 1)).flatMap V.cs := by
  rw [flat_setV (fillV12 d j) j ⟨0, e0⟩ (d.getD j 0) (fillV12_at d j h)]
  congr 1
  have e : d.length - j = (d.length - (j + 1)) + 1 := by omega
  have hl : (nV (d.take j)).length = j := by simp; omega
  unfold fillV12
  rw [e, List.replicate_succ, List.set_append_right _ _ (by omega), hl, Nat.sub_self, List.set_cons_zero]
  unfold nV
  rw [List.take_add_one, List.getElem?_eq_getElem h, List.map_append, List.append_assoc]
  congr 1
  simp [List.getD, h]

/-- What numbers answers. -/
def numE (lo hi bey : Int) (R : List Int × Nat × Int) : Int := if R.2.2 ≠ 0 then R.2.2 else if R.1.all (fun v => decide (lo ≤ v) && decide (v ≤ hi)) = true then 0 else bey

def NumPost (w0 w : World) (gd B : Nat) (b : List Nat) (n lo hi bey : Int) (R : List Int × Nat × Int) (e : Ending) (w' : World) : Prop :=
  e = .returned (.int .i64 (numE lo hi bey R)) ∧ Chg [] w0 w' ∧ (R.2.2 = 0 → R.1.all (fun v => decide (lo ≤ v) && decide (v ≤ hi)) = true → DD w0 w' gd B (b.drop R.2.1) n (nV R.1) ∧ LowK w w' gd B)
def NumOut (w0 w : World) (gd B : Nat) (b : List Nat) (n lo hi bey : Int) (e : Ending) (w' : World) : Prop :=
  NumPost w0 w gd B b n lo hi bey (readD b n) e w'

theorem all_bad {N : List Int} {lo hi : Int} (j : Nat) (hj : j < N.length) (h : ¬ (lo ≤ N.getD j 0 ∧ N.getD j 0 ≤ hi)) : ¬ N.all (fun v => decide (lo ≤ v) && decide (v ≤ hi)) = true := by
  intro ha
  rw [List.all_eq_true] at ha
  have h1 := ha (N.getD j 0) (by rw [List.getD, List.getElem?_eq_getElem hj]; exact List.getElem_mem _)
  simp only [Bool.and_eq_true, decide_eq_true_eq] at h1
  exact h h1
theorem numE_bad {N : List Int} {lo hi bey : Int} {U : Nat} (h : ¬ N.all (fun v => decide (lo ≤ v) && decide (v ≤ hi)) = true) : numE lo hi bey (N, U, 0) = bey := by
  unfold numE
  rw [if_neg (by simp)]
  exact if_neg h
theorem numE_good {N : List Int} {lo hi bey : Int} {U : Nat} (h : N.all (fun v => decide (lo ≤ v) && decide (v ≤ hi)) = true) : numE lo hi bey (N, U, 0) = 0 := by
  unfold numE
  rw [if_neg (by simp)]
  exact if_pos h
theorem all_take_succ {N : List Int} {lo hi : Int} (j : Nat) (hj : j < N.length) (h : lo ≤ N.getD j 0 ∧ N.getD j 0 ≤ hi) (ha : (N.take j).all (fun v => decide (lo ≤ v) && decide (v ≤ hi)) = true) : (N.take (j + 1)).all (fun v => decide (lo ≤ v) && decide (v ≤ hi)) = true := by
  rw [List.getD, List.getElem?_eq_getElem hj] at h
  simp only [Option.getD_some] at h
  rw [List.take_add_one, List.getElem?_eq_getElem hj, List.all_append, ha]
  simp only [Option.toList_some, List.all_cons, List.all_nil, Bool.and_true, Bool.true_and, Bool.and_eq_true, decide_eq_true_eq]
  exact h

theorem readD_ok {b : List Nat} {n : Int} (h : (readD b n).2.2 = 0) : (readD b n).2.1 ≤ b.length ∧ (readD b n).1.length ≤ 4000 := by
  unfold readD at h ⊢
  split at h
  · simp at h
  · rename_i hn
    rw [if_neg hn]
    split at h
    · rename_i h2; exact absurd h h2
    · rename_i h2
      rw [if_neg h2]
      refine ⟨by simp, ?_⟩
      have key : ∀ k (l : List Int) (c : List Nat), (decD k l c).1 = 0 → (decD k l c).2.1.length = l.length + k := fun k => by
        induction k using Nat.strongRecOn with
        | _ k ih =>
          intro l c h
          by_cases hk : k = 0
          · subst hk; rw [decD_zero]; rfl
          · by_cases hp : (partD k l c).1 = 0
            · have hl := partD_len (by omega) hp
              rw [decD_ok hk hp] at h ⊢
              rw [ih _ (by omega) _ _ h, List.length_append]
              omega
            · rw [decD_bad hk hp] at h
              exact absurd h hp
      have := key n.toNat [] b (by simpa using h2)
      simp at this
      rw [this]
      omega

set_option maxRecDepth 100000 in
set_option maxHeartbeats 4000000 in
theorem ddnumbers_any {w0 w : World} {gd B : Nat} {b : List Nat} {n : Int} {L : List V} (h : DD w0 w gd B b n L) (lo hi bey : Int) :
    Calls Tryd.prog 37 #[.pointer (some ⟨gd, 0, none⟩), .int .i64 lo, .int .i64 hi, .int .i64 bey] w (NumOut w0 w gd B b n lo hi bey) := by
  obtain ⟨bv, lv, hb, hs, ho⟩ := h.st
  obtain ⟨i0, hi0, hz0, hz1, hz2⟩ := info_value
  obtain ⟨ao, cap, rfl, hc1, hc2⟩ := hs.shape
  rw [nv_length] at hb hs hc1
  have HBK := Lib.hid hb
  obtain ⟨c0, c1, c2, f0, f1, f2⟩ := cells3 hb
  have HR := Lib.hid (fun (wx : World) (hc : Chg [] w0 wx) => dread_any _ b n wx (hs.keep hc) h.by' h.bl)
  have hok := @readD_ok b n
  obtain ⟨R, hR⟩ : ∃ R, R = readD b n := ⟨_, rfl⟩
  unfold NumOut
  unfold DReadOut at HR
  rw [← hR] at HR hok ⊢
  obtain ⟨N, U, e⟩ := R
  simp only at HR hok
  have HRR := Lib.hid hR
  have HD := Lib.hid h
  have hcw := h.c0
  have HCW := Lib.hid hcw
  have HCL := Lib.hid (show ∀ wx, Chg [] w wx → wx.cell? ⟨gd, 0, none⟩ = some (.slice ao b.length cap) ∧ wx.cell? ⟨gd, 1, none⟩ = some (.int .i64 n) ∧ wx.frozen? ⟨gd, 0, none⟩ = false ∧ wx.frozen? ⟨gd, 2, none⟩ = false ∧ wx.cell? ⟨gd, 2, none⟩ = some lv from fun wx hc => by
    obtain ⟨k0, k1, k2, k3, -, k5⟩ := cells3 (hc.heap hb (by simp))
    exact ⟨k0, k1, k3, k5, k2⟩)
  obtain ⟨q0, q1, -, -, -⟩ := HCL.out w.drew (Chg.refl [] w).drew
  have HD0 := Lib.hid ((Chg.refl [] w).drew)
  have HS := Lib.hid hs
  have HOL := Lib.hid ho
  clear hb hs ho h hR hcw c0 c1 c2 f0 f1 f2
  go_enter Tryd.func37, Tryd.ntmps37
  go_upto_region 1 with fail
  go_cut [9, 10, 11] (fun s9 s10 s11 wx => ∃ xv, s9 = xv ∧ s10 = .int .i64 (U : Int) ∧ s11 = .int .i64 e ∧ Chg [] w wx ∧ wx.ownsRow w.heap.size 3 1 xv N.length (iv N))
  case first =>
    go_region_held3 (fun w' => w'.cell? ⟨gd, 0, none⟩ = some (.slice ao b.length cap) ∧ w'.cell? ⟨gd, 1, none⟩ = some (.int .i64 n)) (first | exact ⟨q0, q1⟩ | exact ⟨u0, u1⟩) (first
      | (go_simp; go_at_call 65; (with_reducible refine (HR.out _ (HCW.out.trans HD0.out (by simp))).mono ?_); rintro e2 w2 ⟨xv, rfl, hc2, ho2⟩; have HC2 := Lib.hid (HD0.out.trans hc2 (by simp)); have HO2 := Lib.hid ho2; obtain ⟨u0, u1, -, -, -⟩ := HCL.out w2 HC2.out; clear hc2 ho2))
    all_goals
      try go_wp2
      go_meet
      case rel => exact ⟨xv, rfl, rfl, rfl, HC2.out, HO2.out⟩
  case rest =>
    obtain ⟨xv, rfl, rfl, rfl, hc2, ho2⟩ := hcut
    obtain ⟨xo, xc, rfl⟩ := own_shape ho2
    have HC2 := Lib.hid hc2; have HO2 := Lib.hid ho2
    obtain ⟨u0, u1, u2, u3, u4⟩ := HCL.out wc hc2
    clear hc2 ho2
    by_cases he : e = 0
    · subst he
      obtain ⟨hU, hN4⟩ := hok rfl
      obtain ⟨no, nc, hns, hnr⟩ := run_back HS.out rfl hc1 U hU
      have HNS := Lib.hid hns
      have HSN := Lib.hid (ownI_seen HO2.out rfl)
      obtain ⟨m, hm⟩ : ∃ m, m = N.length := ⟨_, rfl⟩
      rw [← hm] at HO2 HSN hN4 ⊢
      have HM := Lib.hid hm
      have hE0 : ((0 : Int) != 0) = false := rfl
      obtain ⟨wS, hwS⟩ : ∃ x, x = wc.setCell ⟨gd, 0, none⟩ (.slice no (b.length - U) nc) := ⟨_, rfl⟩
      have hbS : wS.heap[gd]? = some (.cells #[.slice no (b.length - U) nc, .int .i64 n, lv] 47 (0, 0)) := by
        rw [hwS]; exact heap_setCell_same wc gd 0 _ _ _ (HC2.out.heap HBK.out (by simp))
      have hCS : Chg [gd] wc wS := by rw [hwS]; exact (Chg.refl [gd] wc).setCell (.inl (by simp)) _
      have HBS := Lib.hid hbS; have HCS := Lib.hid hCS
      clear hm hns hbS hCS
      go_upto_region 5 with fail
      rw [← hwS]
      clear hwS u0 u1 u2 u3 u4
      go_wp2_with (first
        | (at_make; refine wpList_make_full _ rfl _ _ 22 rfl wS.heap.size 39 i0 (.agg #[.int .i64 0, .string ByteArray.empty]) 2 Tryd.underlying22 hi0 hz0 hz1 .i64 .i64 _ _ m rfl rfl rfl rfl ?c1 ?c2 (Nat.le_refl _) ?_)
        | fail)
      case c1 => first | omega | (rw [hz2]; omega)
      case c2 => unfold maxLen; omega
      intro w4 hown4 hg4
      rw [show (madeCells #[Value.int .i64 0, .string ByteArray.empty] (m * 2)).toList = (fillV12 N 0).flatMap V.cs by rw [cells_values]; unfold fillV12; rw [← HM.out]; simp [nV]] at hown4
      have HC4 := Lib.hid ((Chg.refl [] wS).grown hg4 (by simp))
      have HO4 := Lib.hid hown4
      obtain ⟨gl, hgl⟩ : ∃ g, g = wS.heap.size := ⟨_, rfl⟩
      have HGL := Lib.hid hgl
      rw [← hgl] at HO4 ⊢
      have hBgl : B ≤ gl := by rw [hgl]; exact Nat.le_trans HD.out.lB (Nat.le_trans HC2.out.size HCS.out.size)
      have hgd := HD.out.g1
      have HBGL := Lib.hid hBgl
      have hb4 := HC4.out.heap HBS.out (by simp)
      obtain ⟨k0, k1, k2, k3, k4, k5⟩ := cells3 hb4
      obtain ⟨wT, hwT⟩ : ∃ x, x = w4.setCell ⟨gd, 2, none⟩ (.slice (some ⟨gl, 0, none⟩) m m) := ⟨_, rfl⟩
      have hbT : wT.heap[gd]? = some (.cells #[.slice no (b.length - U) nc, .int .i64 n, .slice (some ⟨gl, 0, none⟩) m m] 47 (0, 0)) := by
        rw [hwT]; exact heap_setCell_same w4 gd 2 _ _ _ hb4
      have hCT : Chg [gd] w4 wT := by rw [hwT]; exact (Chg.refl [gd] w4).setCell (.inl (by simp)) _
      have HBT := Lib.hid hbT; have HCT := Lib.hid hCT
      have HOT := Lib.hid (own_chg HO4.out hCT (own_notin HO4.out (by omega)))
      have HCX := Lib.hid ((HCS.out.trans HC4.out (by simp)).trans HCT.out (by simp))
      clear hown4 hg4 hgl hb4 hbT hCT
      go_upto_region 6 with fail
      rw [← hwT]
      clear hwT k0 k1 k2 k3 k4 k5
      go_wp2
      go_loopw [47] (fun i w' => ∃ j : Nat, j ≤ m ∧ i = .int .i64 (j : Int) ∧ (N.take j).all (fun v => decide (lo ≤ v) && decide (v ≤ hi)) = true ∧ Chg [gl] wT w' ∧ w'.ownsRow gl 39 2 (.slice (some ⟨gl, 0, none⟩) m m) m ((fillV12 N j).flatMap V.cs)) (fun i _ => m - (intOf i).toNat)
      case atStart => exact ⟨0, Nat.zero_le _, rfl, by simp, Chg.refl _ _, HOT.out⟩
      case round =>
        obtain ⟨j, hj, rfl, hall, hcj, hoj⟩ := hrel
        have HCJ := Lib.hid hcj; have HOJ := Lib.hid hoj; have HALL := Lib.hid hall
        have HXJ := Lib.hid (HCX.out.trans hcj (fun t ht => .inr (by simp at ht; rw [ht, HGL.out]; exact HCS.out.size)))
        have hbj := hcj.heap HBT.out (by simp; omega)
        obtain ⟨k0, k1, k2, k3, k4, k5⟩ := cells3 hbj
        have HBJ := Lib.hid hbj
        have HXW := Lib.hid ((HCW.out.trans HC2.out (by simp)).trans HXJ.out (fun t ht => .inr (by simp at ht; rw [ht]; exact HD.out.g0)) : Chg [] w0 wr)
        have HXS := Lib.hid (Nat.le_trans HC2.out.size HXJ.out.size : w.heap.size ≤ wr.heap.size)
        clear hall hcj hoj hbj
        have HSJ := Lib.hid (show SeenI wr (.slice xo m xc) N from by
          have h := own_chg (own_mono HO2.out HCW.out.size) HXJ.out (fun g hg hm => by
            have h1 := own_ge HO2.out g hg
            simp at hm
            have h2 := HD.out.lB
            omega)
          exact ownI_seen h HM.out.symm)
        by_cases hlt : j < m
        · have d1 : decide ((j : Int) < (m : Int)) = true := by simpa using hlt
          obtain ⟨gx, ox, rfl, hcs⟩ := SeenI.get HSJ.out (by omega) HM.out.symm
          have x0 := hcs j hlt
          have HJN := Lib.hid (show j < N.length by rw [← HM.out]; exact hlt)
          obtain ⟨v, hv⟩ : ∃ v, v = N.getD j 0 := ⟨_, rfl⟩
          have HV := Lib.hid hv
          rw [← hv] at x0
          have b2 : (j : Int) < (m : Int) := by omega
          have b3 : ¬ ((j : Int) < 0) := by omega
          clear hcs hv
          by_cases a1 : v < lo
          · have d2 : decide (v < lo) = true := by simpa using a1
            have HB := Lib.hid (all_bad (lo := lo) (hi := hi) j HJN.out (by rw [← HV.out]; omega))
            clear a1 k0 k1 k2 k3 k4 k5
            go_wp2
            go_ret
            exact ⟨by rw [numE_bad HB.out]; rfl, HXW.out, fun _ h => absurd h HB.out⟩
          · have d2 : decide (v < lo) = false := by simpa using a1
            by_cases a2 : hi < v
            · have d3 : decide (hi < v) = true := by simpa using a2
              have d3' : decide (v > hi) = true := by simpa using a2
              have HB := Lib.hid (all_bad (lo := lo) (hi := hi) j HJN.out (by rw [← HV.out]; omega))
              clear a1 a2 k0 k1 k2 k3 k4 k5
              go_wp2
              go_ret
              exact ⟨by rw [numE_bad HB.out]; rfl, HXW.out, fun _ h => absurd h HB.out⟩
            · have d3 : decide (hi < v) = false := by simpa using a2
              have d3' : decide (v > hi) = false := by simpa using a2
              have HA1 := Lib.hid (all_take_succ (lo := lo) (hi := hi) j HJN.out (by rw [← HV.out]; omega) HALL.out)
              obtain ⟨g', hg', hge, hlt', hfz, hcl⟩ := own_ptr HOJ.out (by omega)
              injection hg' with hg'
              injection hg' with hg'
              subst hg'
              have f0 := hfz (j * 2)
              have y0 := hcl (j * 2) (.int .i64 0) (by
                have := flat_get V.cs_len (fillV12 N j) j ⟨0, e0⟩ 0 (.int .i64 0) (fillV12_at N j HJN.out) rfl
                simpa using this)
              have HFS := Lib.hid (fillV12_set N j HJN.out)
              rw [← HV.out] at HFS
              clear a1 a2 k0 k1 k3 k4 k5 hfz hcl
              go_wp2
              go_roundw
              case rel => exact ⟨j + 1, hlt, by go_num, HA1.out, HCJ.out.setCell (.inl (by simp)) _, by
                have h := own_set HOJ.out (j * 2) (by omega) (.int .i64 v)
                rw [HFS.out] at h
                exact h⟩
              case measure => simp [intOf]; omega
        · have d1 : decide ((j : Int) < (m : Int)) = false := by simpa using hlt
          obtain rfl : j = m := by omega
          have HAA := Lib.hid (show N.all (fun v => decide (lo ≤ v) && decide (v ≤ hi)) = true by
            have h := HALL.out
            rw [HM.out, List.take_length] at h
            exact h)
          have HF := Lib.hid (show wr.ownsRow B 39 2 (.slice (some ⟨gl, 0, none⟩) j j) (nV N).length ((nV N).flatMap V.cs) by
            have h := own_mono HOJ.out HBGL.out
            rw [HM.out, fillV12_all N, ← HM.out] at h
            rw [nV_length, ← HM.out]
            exact h)
          clear k0 k1 k2 k3 k4 k5
          go_wp2
          go_ret
          refine ⟨by rw [numE_good HAA.out]; rfl, HXW.out, fun _ _ => ⟨⟨HXW.out, HD.out.g0, HD.out.g1, Nat.le_trans HD.out.lB HXS.out, fun x hx => HD.out.by' x (List.mem_of_mem_drop hx), by rw [List.length_drop]; have := HD.out.bl; omega, ⟨_, _, HBJ.out, HNS.out, HF.out⟩⟩, fun q o hq hne h => HXJ.out.heap (HC2.out.heap h (by simp)) (by simp; exact hne)⟩⟩
    · have hne : (e != 0) = true := by simpa using he
      have HE := Lib.hid he
      clear he hok
      go_wp2
      go_ret
      unfold NumPost
      refine ⟨?_, HCW.out.trans HC2.out (by simp), fun h0 => absurd h0 HE.out⟩
      unfold numE
      rw [if_pos HE.out]
      first | rfl | go_simp

end Go.Proofs.YtohgnbgijleoaaaDoor

namespace Go.Proofs.YtohgnbgijleoaaaDoor
open Go.RowKit
set_option linter.unusedVariables false
set_option linter.unusedSimpArgs false

/-- Texts of given lengths, one behind the other. -/
def txS : List V → List Nat → Int × List V × List Nat
  | [], b => (0, [], b)
  | v :: l, b => if (b.length : Int) < v.n then (8, [], b) else ((txS l (b.drop v.n.toNat)).1, (⟨0, str (b.take v.n.toNat)⟩ : V) :: (txS l (b.drop v.n.toNat)).2.1, (txS l (b.drop v.n.toNat)).2.2)

def TxJ (L : List V) (b : List Nat) (j : Nat) (LJ : List V) (bJ : List Nat) : Prop :=
  LJ.length = j ∧ txS L b = ((txS (L.drop j) bJ).1, LJ ++ (txS (L.drop j) bJ).2.1, (txS (L.drop j) bJ).2.2)

theorem TxJ.zero (L : List V) (b : List Nat) : TxJ L b 0 [] b := ⟨rfl, by simp⟩
theorem TxJ.step {L LJ : List V} {b bJ : List Nat} {j : Nat} (h : TxJ L b j LJ bJ) {v : V} (hv : L[j]? = some v) {U : Nat} (hU : v.n = (U : Int)) (hle : U ≤ bJ.length) : TxJ L b (j + 1) (LJ ++ [⟨0, str (bJ.take U)⟩]) (bJ.drop U) := by
  obtain ⟨h1, h2⟩ := h
  obtain ⟨hj, e⟩ := List.getElem?_eq_some_iff.1 hv
  have ed : L.drop j = v :: L.drop (j + 1) := by rw [← e]; exact List.drop_eq_getElem_cons hj
  have ec : txS (v :: L.drop (j + 1)) bJ = ((txS (L.drop (j + 1)) (bJ.drop U)).1, (⟨0, str (bJ.take U)⟩ : V) :: (txS (L.drop (j + 1)) (bJ.drop U)).2.1, (txS (L.drop (j + 1)) (bJ.drop U)).2.2) := by
    simp only [txS]
    rw [if_neg (by omega), show v.n.toNat = U by omega]
  rw [ed, ec] at h2
  refine ⟨by simp; omega, ?_⟩
  rw [h2]
  simp
theorem TxJ.bad {L LJ : List V} {b bJ : List Nat} {j : Nat} (h : TxJ L b j LJ bJ) {v : V} (hv : L[j]? = some v) (hlt : (bJ.length : Int) < v.n) : (txS L b).1 = 8 := by
  obtain ⟨h1, h2⟩ := h
  obtain ⟨hj, e⟩ := List.getElem?_eq_some_iff.1 hv
  have ed : L.drop j = v :: L.drop (j + 1) := by rw [← e]; exact List.drop_eq_getElem_cons hj
  rw [h2, ed]
  show (txS (v :: L.drop (j + 1)) bJ).1 = 8
  simp only [txS]
  rw [if_pos hlt]
theorem TxJ.done {L LJ : List V} {b bJ : List Nat} {j : Nat} (h : TxJ L b j LJ bJ) (hj : L.length ≤ j) : txS L b = (0, LJ, bJ) := by
  obtain ⟨h1, h2⟩ := h
  rw [h2, List.drop_of_length_le hj]
  simp [txS]

def TxPost (w0 w : World) (gd B : Nat) (b : List Nat) (n : Int) (L : List V) (e : Ending) (w' : World) : Prop :=
  e = .returned (.int .i64 (txS L b).1) ∧ Chg [] w0 w' ∧ ((txS L b).1 = 0 → DD w0 w' gd B (txS L b).2.2 n (txS L b).2.1 ∧ LowK w w' gd B)

theorem flat_set2 : ∀ (l : List V) (g : Nat) (f x : V), l[g]? = some f → (((l.flatMap V.cs).set (g * 2) (.int .i64 x.n)).set (g * 2 + 1) (.string x.s)) = (l.set g x).flatMap V.cs
  | [], _, _, _, h => by simp at h
  | a :: l, 0, f, x, h => by simp [V.cs]
  | a :: l, g + 1, f, x, h => by
    have ih := flat_set2 l g f x (by simpa using h)
    rw [List.set_cons_succ, List.flatMap_cons, List.flatMap_cons, ← ih]
    rw [show (g + 1) * 2 = g * 2 + 2 by omega]
    simp [V.cs]

set_option maxRecDepth 100000 in
set_option maxHeartbeats 4000000 in
theorem dtexts_any {w0 w : World} {gd B : Nat} {b : List Nat} {n : Int} {L : List V} (h : DD w0 w gd B b n L) (hpos : ∀ v ∈ L, 0 ≤ v.n) (hm4 : L.length ≤ 4000) :
    Calls Tryd.prog 38 #[.pointer (some ⟨gd, 0, none⟩)] w (TxPost w0 w gd B b n L) := by
  obtain ⟨bv, lv, hb, hs, ho⟩ := h.st
  obtain ⟨lo, lc, rfl⟩ := own_shape ho
  obtain ⟨c0, c1, c2, f0, f1, f2⟩ := cells3 hb
  obtain ⟨m, hm⟩ : ∃ m, m = L.length := ⟨_, rfl⟩
  rw [← hm] at hb ho c2 hm4
  have HD := Lib.hid h
  have HPOS := Lib.hid hpos
  have HM := Lib.hid hm
  have HB := Lib.hid hb
  have HS := Lib.hid hs
  have HO := Lib.hid ho
  have hgd := h.g1
  have hg0 := h.g0
  have hlB := h.lB
  clear hb hs ho h hpos hm c0 c1 f0 f1 f2
  go_enter Tryd.func38, Tryd.ntmps38
  go_wp2
  go_loopw [10] (fun i w' => ∃ (j : Nat) (LJ : List V) (bJ : List Nat) (bv : Value), j ≤ m ∧ i = .int .i64 (j : Int) ∧ TxJ L b j LJ bJ ∧ Chg [] w0 w' ∧ w.heap.size ≤ w'.heap.size ∧ w'.heap[gd]? = some (.cells #[bv, .int .i64 n, .slice lo m lc] 47 (0, 0)) ∧ Seen w0 bv (nv .u8 bJ) ∧ (∀ x ∈ bJ, x < 2 ^ 8) ∧ bJ.length ≤ 1000000000 ∧ w'.ownsRow B 39 2 (.slice lo m lc) m ((LJ ++ L.drop j).flatMap V.cs) ∧ LowK w w' gd B) (fun i _ => m - (intOf i).toNat)
  case atStart => exact ⟨0, [], b, bv, Nat.zero_le _, rfl, TxJ.zero L b, HD.out.c0, Nat.le_refl _, HB.out, HS.out, HD.out.by', HD.out.bl, HO.out, fun q o _ _ h => h⟩
  case round =>
    obtain ⟨j, LJ, bJ, bv', hj, rfl, hT, hc, hsz, hbj, hsj, hbb, hbl, hoj, hlw⟩ := hrel
    have HLW := Lib.hid hlw
    clear hlw
    have HT := Lib.hid hT; have HC := Lib.hid hc; have HBB := Lib.hid hbb; have HOJ := Lib.hid hoj
    by_cases hlt : j < m
    · have d1 : decide ((j : Int) < (m : Int)) = true := by simpa using hlt
      obtain ⟨v, hv⟩ : ∃ v, L[j]? = some v := ⟨_, List.getElem?_eq_getElem (by rw [← HM.out]; exact hlt)⟩
      have HV := Lib.hid hv
      have hvn := HPOS.out v (List.mem_of_getElem? hv)
      obtain ⟨U, hU⟩ : ∃ U : Nat, v.n = (U : Int) := ⟨v.n.toNat, by omega⟩
      have HU := Lib.hid hU
      have hget : (LJ ++ L.drop j)[j]? = some v := by
        have h1 := hT.1
        rw [List.getElem?_append_right (by omega), h1, Nat.sub_self]
        simpa using hv
      have HGET := Lib.hid hget
      obtain ⟨gl, rfl, hge, hltg, hfz, hcl⟩ := own_ptr hoj (by omega)
      have x0 := hcl (j * 2) (.int .i64 v.n) (by simpa using flat_get V.cs_len (LJ ++ L.drop j) j v 0 (.int .i64 v.n) hget rfl)
      have x1 := hcl (j * 2 + 1) (.string v.s) (flat_get V.cs_len (LJ ++ L.drop j) j v 1 (.string v.s) hget rfl)
      have y0 := hfz (j * 2)
      have y1 := hfz (j * 2 + 1)
      have b2 : (j : Int) < (m : Int) := by omega
      have b3 : ¬ ((j : Int) < 0) := by omega
      rw [hU] at x0
      obtain ⟨bo, bc, rfl, hc1, hc2⟩ := hsj.shape
      rw [nv_length] at hbj hsj hc1
      have HBJ := Lib.hid hbj
      have HSJ := Lib.hid hsj
      clear hT hc hbb hoj hv hvn hU hget hfz hcl hbj hsj
      go_upto_region 4 with fail
      have hk := heap_alloc_new wr (.cells #[.int .i64 (U : Int), .string v.s] 39 (0, 0))
      have hcA := (Chg.refl [] wr).alloc (.cells #[.int .i64 (U : Int), .string v.s] 39 (0, 0))
      obtain ⟨wA, hwA⟩ : ∃ x, x = wr.alloc (.cells #[.int .i64 (U : Int), .string v.s] 39 (0, 0)) := ⟨_, rfl⟩
      obtain ⟨k, hkk⟩ : ∃ k, k = wr.heap.size := ⟨_, rfl⟩
      rw [← hwA] at hk hcA ⊢
      have HK := Lib.hid hk
      have HCA := Lib.hid hcA
      have HOA := Lib.hid (own_chg HOJ.out hcA (by simp))
      have HBA := Lib.hid (hcA.heap HBJ.out (by simp))
      obtain ⟨q0, -, q2, g0, -, g2⟩ := cells3 HBA.out
      rw [← hkk] at hk hltg ⊢
      obtain ⟨k0, k1, -, -⟩ := cells2 hk
      have hkg : gl < k := hltg
      have hgk : gd < k := by omega
      have HKK := Lib.hid hkk
      clear hk hcA hwA x0 x1 y0 y1 hkk
      by_cases hU : U ≤ bJ.length
      · have d2 : decide ((bJ.length : Int) < (U : Int)) = false := by simp; omega
        obtain ⟨fo, fc, hfs, hfr⟩ := run_front HSJ.out hc1 U hU
        obtain ⟨no, nc, hns, hnr⟩ := run_back HSJ.out rfl hc1 U hU
        obtain ⟨t, ht⟩ : ∃ t, t = str (bJ.take U) := ⟨_, rfl⟩
        have hcv := cvp (hfs.keep (HC.out.trans HCA.out (by simp))) (by rw [List.length_take]; omega) ht (fun x hx => HBB.out x (List.mem_of_mem_take hx))
        have hcv0 := hcv wA (Lib.hid (Chg.refl [] wA))
        have hcv1 := hcv wA.drew (Lib.hid (Chg.refl [] wA).drew)
        have hcv2 := hcv wA.drew.drew (Lib.hid (Chg.refl [] wA).drew.drew)
        have HTT := Lib.hid ht
        have HNS := Lib.hid hns
        have HU2 := Lib.hid hU
        have b4 : j * 2 + 1 < m * 2 := by omega
        obtain ⟨g', hg', -, -, hfz, hcl⟩ := own_ptr HOA.out (by omega)
        injection hg' with hg'
        injection hg' with hg'
        subst hg'
        have x0 := hcl (j * 2) (.int .i64 v.n) (by simpa using flat_get V.cs_len (LJ ++ L.drop j) j v 0 (.int .i64 v.n) HGET.out rfl)
        have x1 := hcl (j * 2 + 1) (.string v.s) (flat_get V.cs_len (LJ ++ L.drop j) j v 1 (.string v.s) HGET.out rfl)
        have y0 := hfz (j * 2)
        have y1 := hfz (j * 2 + 1)
        have e1 : ¬ gd = gl := by omega
        have e2 : ¬ gl = gd := by omega
        have e3 : ¬ k = gl := by omega
        have e4 : ¬ gl = k := by omega
        clear hfs hns ht hcv hfz hcl
        go_region
        all_goals
          go_upto_region 6 with fail
          go_region
          all_goals
            go_upto_region 7 with fail
            obtain ⟨wS, hwS⟩ : ∃ x, x = ((wA.setCell ⟨gl, j * 2, none⟩ (.int .i64 0)).setCell ⟨gl, j * 2 + 1, none⟩ (.string t)).drew.drew := ⟨_, rfl⟩
            have hCS : Chg [gl] wA wS := by rw [hwS]; exact ((((Chg.refl [gl] wA).setCell (.inl (by simp)) _).setCell (.inl (by simp)) _).drew).drew
            have HOS : Hid (wS.ownsRow B 39 2 (.slice (some ⟨gl, 0, none⟩) m lc) m (((LJ ++ [(⟨0, t⟩ : V)]) ++ L.drop (j + 1)).flatMap V.cs)) := Lib.hid (by
              have h := own_set (own_set HOA.out (j * 2) (by omega) (.int .i64 0)) (j * 2 + 1) (by omega) (.string t)
              rw [flat_set2 (LJ ++ L.drop j) j v ⟨0, t⟩ HGET.out] at h
              have h1 := HT.out.1
              rw [List.set_append_right _ _ (by omega), h1, Nat.sub_self] at h
              have hjl : j < L.length := by rw [← HM.out]; exact hlt
              rw [List.drop_eq_getElem_cons hjl, List.set_cons_zero] at h
              rw [hwS, List.append_assoc]
              exact own_chg h (Chg.refl [] _).drew.drew (by simp))
            have HCS := Lib.hid hCS
            have hBS := hCS.heap HBA.out (by simp; omega)
            have HBS := Lib.hid hBS
            have hKS := hCS.heap HK.out (by rw [← HKK.out]; simp; omega)
            rw [← HKK.out] at hKS
            obtain ⟨q0', -, -, g0', -, -⟩ := cells3 hBS
            obtain ⟨k0', -, -, -⟩ := cells2 hKS
            rw [← hwS]
            clear hwS hCS hBS hKS q0 q2 g0 g2 k0 k1 x0 x1 y0 y1 hcv0 hcv1 hcv2 hfr
            go_region
            all_goals
              go_wp2
              go_roundw
              case rel => exact ⟨j + 1, LJ ++ [⟨0, t⟩], bJ.drop U, .slice no (bJ.length - U) nc, hlt, by go_num, by rw [HTT.out]; exact HT.out.step HV.out HU.out hU, by
                have h := ((HC.out.trans HCA.out (by simp)).trans HCS.out (fun g hg => .inr (by simp at hg; omega)))
                exact (h.setCell (.inr (by omega)) _).drew, by
                have h1 := HCA.out.size
                have h2 := HCS.out.size
                simp
                omega, by
                have h := heap_setCell_same wS gd 0 _ _ (Value.slice no (bJ.length - U) nc) HBS.out
                exact (Chg.refl [] _).drew.heap h (by simp), HNS.out, fun x hx => HBB.out x (List.mem_of_mem_drop hx), by rw [List.length_drop]; omega, by
                have h := own_chg HOS.out ((Chg.refl [gd] wS).setCell (p := ⟨gd, 0, none⟩) (.inl (by simp)) (.slice no (bJ.length - U) nc)) (own_notin HOS.out (by omega))
                exact own_chg h (Chg.refl [] _).drew (by simp), fun q o hq hne h => (Chg.refl [] _).drew.heap (((Chg.refl [gd] wS).setCell (p := ⟨gd, 0, none⟩) (.inl (by simp)) (.slice no (bJ.length - U) nc)).heap (HCS.out.heap (HCA.out.heap (HLW.out q o hq hne h) (by simp)) (by simp; omega)) (by simp; exact hne)) (by simp)⟩
              case measure => simp [intOf]; omega
      · have d2 : decide ((bJ.length : Int) < (U : Int)) = true := by simp; omega
        have HBAD := Lib.hid (HT.out.bad HV.out (by rw [HU.out]; omega))
        go_region
        all_goals
          go_wp2
          go_ret
          unfold TxPost
          rw [HBAD.out]
          exact ⟨rfl, (HC.out.trans HCA.out (by simp)).drewN _, fun h => by simp at h⟩
    · have d1 : decide ((j : Int) < (m : Int)) = false := by simpa using hlt
      have HE := Lib.hid (hT.done (by rw [← HM.out]; omega))
      obtain rfl : j = m := by omega
      have hz : LJ ++ L.drop j = LJ := by rw [List.drop_of_length_le (by rw [← HM.out]; exact Nat.le_refl _)]; simp
      rw [hz] at HOJ
      have h1 := hT.1
      have HF : Hid (DD w0 wr gd B bJ n LJ) := Lib.hid ⟨hc, HD.out.g0, hgd, Nat.le_trans hlB hsz, hbb, hbl, ⟨_, _, hbj, hsj, by rw [h1]; exact HOJ.out⟩⟩
      clear hT hc hbb hoj hbj hsj hz h1
      go_wp2
      go_ret
      unfold TxPost
      rw [HE.out]
      exact ⟨rfl, HF.out.c0, fun _ => ⟨HF.out, HLW.out⟩⟩

end Go.Proofs.YtohgnbgijleoaaaDoor

namespace Go.Proofs.YtohgnbgijleoaaaDoor
open Go.RowKit
set_option linter.unusedVariables false
set_option linter.unusedSimpArgs false

theorem zagOf_in {u : Nat} (h : u < 18446744073709551616) : In64 (zagOf u) := by
  unfold zagOf In64
  split <;> omega

theorem partD_in {k : Nat} {l : List Int} {b : List Nat} (hb : ∀ x ∈ b, x < 2 ^ 8) : ∀ x ∈ (partD k l b).2.1, In64 x := by
  intro x
  unfold partD
  split
  · intro h; simp at h
  split
  · intro h
    simp at h
    rw [h]
    exact zagOf_in (gv_lt b hb)
  split
  · intro h; simp at h
  split
  · intro h; simp at h
  split
  · intro h; simp at h
  · intro h
    exact runI_in _ _ x h

theorem partD_by {k : Nat} {l : List Int} {b : List Nat} (hb : ∀ x ∈ b, x < 2 ^ 8) : ∀ x ∈ (partD k l b).2.2, x < 2 ^ 8 := by
  intro x
  unfold partD
  split
  · intro h; simp at h
  split
  · intro h; exact hb x (List.mem_of_mem_drop h)
  split
  · intro h; simp at h
  split
  · intro h; simp at h
  split
  · intro h; simp at h
  · intro h; exact hb x (List.mem_of_mem_drop (List.mem_of_mem_drop (List.mem_of_mem_drop h)))

theorem decD_in : ∀ (k : Nat) (l : List Int) (b : List Nat), (∀ x ∈ b, x < 2 ^ 8) → (∀ x ∈ l, In64 x) → ∀ x ∈ (decD k l b).2.1, In64 x := fun k => by
  induction k using Nat.strongRecOn with
  | _ k ih =>
    intro l b hb hl
    by_cases hk : k = 0
    · subst hk; rw [decD_zero]; exact hl
    · by_cases hp : (partD k l b).1 = 0
      · have hln := partD_len (by omega) hp
        rw [decD_ok hk hp]
        exact ih _ (by omega) _ _ (partD_by hb) (fun x hx => by
          rcases List.mem_append.1 hx with h | h
          · exact hl x h
          · exact partD_in hb x h)
      · rw [decD_bad hk hp]
        intro x hx
        simp at hx

theorem readD_in {b : List Nat} {n : Int} (hb : ∀ x ∈ b, x < 2 ^ 8) : ∀ x ∈ (readD b n).1, In64 x := by
  unfold readD
  split
  · intro x hx; simp at hx
  split
  · intro x hx; simp at hx
  · exact decD_in _ _ _ hb (by simp)

/-- What a part answers: the error, the values, what is left. -/
def dpE (g : Nat) (n : Int) (L : List V) (b : List Nat) : Int × List V × List Nat :=
  if g = 115 then (numE (-2147483648) 2147483647 14 (readD b n), nV (readD b n).1, b.drop (readD b n).2.1)
  else if g = 108 then (numE 0 100 5 (readD b n), nV (readD b n).1, b.drop (readD b n).2.1)
  else if g = 116 then txS L b
  else (numE (-9223372036854775808) 9223372036854775807 0 (readD b n), nV (readD b n).1, b.drop (readD b n).2.1)

def DpPost (w0 w : World) (gd B : Nat) (b : List Nat) (n : Int) (g : Nat) (L : List V) (e : Ending) (w' : World) : Prop :=
  e = .returned (.int .i64 (dpE g n L b).1) ∧ Chg [] w0 w' ∧ ((dpE g n L b).1 = 0 → DD w0 w' gd B (dpE g n L b).2.2 n (dpE g n L b).2.1 ∧ LowK w w' gd B)

theorem numE_zero {lo hi bey : Int} {R : List Int × Nat × Int} (h : numE lo hi bey R = 0) : R.2.2 = 0 ∧ (R.1.all (fun v => decide (lo ≤ v) && decide (v ≤ hi)) = true ∨ bey = 0) := by
  unfold numE at h
  split at h
  · rename_i h2; exact absurd h h2
  · rename_i h2
    refine ⟨by simpa using h2, ?_⟩
    split at h
    · left; assumption
    · right; exact h

theorem num_post {w0 w w' : World} {gd B : Nat} {b : List Nat} {n lo hi bey : Int} {e : Ending} (h : NumOut w0 w gd B b n lo hi bey e w') (ha : bey ≠ 0 ∨ (readD b n).1.all (fun v => decide (lo ≤ v) && decide (v ≤ hi)) = true) :
    e = .returned (.int .i64 (numE lo hi bey (readD b n))) ∧ Chg [] w0 w' ∧ (numE lo hi bey (readD b n) = 0 → DD w0 w' gd B (b.drop (readD b n).2.1) n (nV (readD b n).1) ∧ LowK w w' gd B) := by
  obtain ⟨h1, h2, h3⟩ := h
  refine ⟨h1, h2, fun h0 => ?_⟩
  obtain ⟨h4, h5⟩ := numE_zero h0
  exact h3 h4 (by
    rcases h5 with h5 | h5
    · exact h5
    · rcases ha with ha | ha
      · exact absurd h5 ha
      · exact ha)

set_option maxRecDepth 100000 in
set_option maxHeartbeats 4000000 in
theorem dpart_any {w0 w : World} {gd B : Nat} {b : List Nat} {n : Int} {L : List V} (h : DD w0 w gd B b n L) (g : Nat) (hg : g = 115 ∨ g = 108 ∨ g = 116 ∨ g = 110) (ht : g = 116 → ∀ v ∈ L, 0 ≤ v.n) (hm4 : L.length ≤ 4000) :
    Calls Tryd.prog 21 #[.pointer (some ⟨gd, 0, none⟩), .int .i32 (g : Int)] w (DpPost w0 w gd B b n g L) := by
  have hby := h.by'
  rcases hg with rfl | rfl | rfl | rfl
  · have HN := Lib.hid ((ddnumbers_any h (-2147483648) 2147483647 14))
    clear h ht hby
    go_enter Tryd.func21, Tryd.ntmps21
    go_wp2_with (first
      | (go_at_call 37; (with_reducible refine HN.out.mono ?_); rintro e w2 hp; have hp := num_post hp (.inl (by decide)); obtain ⟨rfl, hp2⟩ := hp; have HP := Lib.hid hp2; clear hp2)
      | fail)
    go_ret
    exact ⟨rfl, HP.out⟩
  · have HN := Lib.hid ((ddnumbers_any h 0 100 5))
    clear h ht hby
    go_enter Tryd.func21, Tryd.ntmps21
    go_wp2_with (first
      | (go_at_call 37; (with_reducible refine HN.out.mono ?_); rintro e w2 hp; have hp := num_post hp (.inl (by decide)); obtain ⟨rfl, hp2⟩ := hp; have HP := Lib.hid hp2; clear hp2)
      | fail)
    go_ret
    exact ⟨rfl, HP.out⟩
  · have HN := Lib.hid (dtexts_any h (ht rfl) hm4)
    clear h ht hby
    go_enter Tryd.func21, Tryd.ntmps21
    go_wp2_with (first
      | (go_at_call 38; (with_reducible refine HN.out.mono ?_); rintro e w2 hp; unfold TxPost at hp; obtain ⟨rfl, hp2⟩ := hp; have HP := Lib.hid hp2; clear hp2)
      | fail)
    go_ret
    exact ⟨rfl, HP.out⟩
  · have HN := Lib.hid ((ddnumbers_any h (-9223372036854775808) 9223372036854775807 0))
    have HA := Lib.hid (show (readD b n).1.all (fun v => decide (-9223372036854775808 ≤ v) && decide (v ≤ 9223372036854775807)) = true by
      rw [List.all_eq_true]
      intro x hx
      have := readD_in hby x hx
      unfold In64 at this
      simp only [Bool.and_eq_true, decide_eq_true_eq]
      exact this)
    clear h ht hby
    go_enter Tryd.func21, Tryd.ntmps21
    go_wp2_with (first
      | (go_at_call 37; (with_reducible refine HN.out.mono ?_); rintro e w2 hp; have hp := num_post hp (.inr HA.out); obtain ⟨rfl, hp2⟩ := hp; have HP := Lib.hid hp2; clear hp2)
      | fail)
    go_ret
    exact ⟨rfl, HP.out⟩

end Go.Proofs.YtohgnbgijleoaaaDoor

namespace Go.Proofs.YtohgnbgijleoaaaDoor
open Go.RowKit
set_option linter.unusedVariables false
set_option linter.unusedSimpArgs false

/-- What the parts of a form answer. -/
def frD : List Nat → Int → List V → List Nat → Int × List V × List Nat
  | [], _, L, b => (0, L, b)
  | g :: S, n, L, b => if (dpE g n L b).1 = 0 then frD S n (dpE g n L b).2.1 (dpE g n L b).2.2 else ((dpE g n L b).1, [], [])

theorem frD_ok {S : List Nat} {n : Int} {L : List V} {b : List Nat} {j : Nat} (hj : j < S.length) (h : (dpE (S.getD j 0) n L b).1 = 0) : frD (S.drop j) n L b = frD (S.drop (j + 1)) n (dpE (S.getD j 0) n L b).2.1 (dpE (S.getD j 0) n L b).2.2 := by
  have e : S.getD j 0 = S[j] := by simp [List.getD, hj]
  rw [List.drop_eq_getElem_cons hj, ← e]
  simp only [frD]
  rw [if_pos h]
theorem frD_bad {S : List Nat} {n : Int} {L : List V} {b : List Nat} {j : Nat} (hj : j < S.length) (h : (dpE (S.getD j 0) n L b).1 ≠ 0) : frD (S.drop j) n L b = ((dpE (S.getD j 0) n L b).1, [], []) := by
  have e : S.getD j 0 = S[j] := by simp [List.getD, hj]
  rw [List.drop_eq_getElem_cons hj, ← e]
  simp only [frD]
  rw [if_neg h]

/-- What Decode answers. -/
def decD12 (k n : Int) (b : List Nat) : List V × Int :=
  if k = 2 ∨ k = 3 ∨ k = 4 then
    if (frD (sg12 k.toNat) n [] b).1 ≠ 0 then ([], (frD (sg12 k.toNat) n [] b).1)
    else if (frD (sg12 k.toNat) n [] b).2.2 = [] then ((frD (sg12 k.toNat) n [] b).2.1, 0) else ([], 9)
  else decP k b n

def DDecR (A : List V × Int) (w : World) (e : Ending) (w' : World) : Prop :=
  ∃ x, e = .returned (.tuple #[x, .int .i64 A.2]) ∧ Chg [] w w' ∧ w'.ownsRow w.heap.size 39 2 x A.1.length (A.1.flatMap V.cs)
def DDecOut (k n : Int) (b : List Nat) (w : World) (e : Ending) (w' : World) : Prop := DDecR (decD12 k n b) w e w'

theorem txS_len : ∀ (L : List V) (b : List Nat), (txS L b).2.1.length ≤ L.length
  | [], b => by simp [txS]
  | v :: l, b => by
    have ih := txS_len l (b.drop v.n.toNat)
    simp only [txS]
    split
    · simp
    · simp; omega

theorem dpE_len {g : Nat} {n : Int} {L : List V} {b : List Nat} (hL : L.length ≤ 4000) (h : (dpE g n L b).1 = 0) : (dpE g n L b).2.1.length ≤ 4000 := by
  revert h
  unfold dpE
  split
  · intro h; rw [nV_length]; exact (readD_ok (numE_zero h).1).2
  split
  · intro h; rw [nV_length]; exact (readD_ok (numE_zero h).1).2
  split
  · intro h; exact Nat.le_trans (txS_len L b) hL
  · intro h; rw [nV_length]; exact (readD_ok (numE_zero h).1).2

theorem dpE_pos {n : Int} {L : List V} {b : List Nat} (h : (dpE 108 n L b).1 = 0) : ∀ v ∈ (dpE 108 n L b).2.1, 0 ≤ v.n := by
  revert h
  unfold dpE
  rw [if_neg (by decide), if_pos rfl]
  intro h v hv
  obtain ⟨-, h2⟩ := numE_zero h
  rcases h2 with h2 | h2
  · obtain ⟨x, hx, rfl⟩ := List.mem_map.1 hv
    rw [List.all_eq_true] at h2
    have := h2 x hx
    simp only [Bool.and_eq_true, decide_eq_true_eq] at this
    exact this.1
  · exact absurd h2 (by decide)

theorem DD.iter {w0 w : World} {gd B : Nat} {b : List Nat} {n : Int} {L : List V} (h : DD w0 w gd B b n L) {k : Nat} {s : ByteArray} {p q : Nat} (hk : w.heap[k]? = some (.stringIter s p)) (hgk : gd ≠ k) (h0 : w0.heap.size ≤ k) : DD w0 (w.iterAt k s q) gd B b n L := by
  have hc : Chg [k] w (w.iterAt k s q) := Chg.iterAt12 (Chg.refl [k] w) (.inl (by simp)) s q
  obtain ⟨bv, lv, hb, hs, ho⟩ := h.st
  exact ⟨Chg.iterAt12 h.c0 (.inr h0) s q, h.g0, h.g1, Nat.le_trans h.lB hc.size, h.by', h.bl, ⟨bv, lv, hc.heap hb (by simpa using hgk), hs, own_iter12 ho hk⟩⟩

theorem sg12_next (k : Nat) (hk : k = 2 ∨ k = 3 ∨ k = 4) (j : Nat) (h : (sg12 k).getD (j + 1) 0 = 116) : (sg12 k).getD j 0 = 108 := by
  rcases hk with rfl | rfl | rfl
  · exact absurd h (by simp [sg12, frmS])
  · exact absurd h (by simp [sg12, frmS])
  · rcases j with _ | _ | j
    · rfl
    · exact absurd h (by decide)
    · exact absurd h (by simp [sg12, frmS])
theorem sg12_mem (k : Nat) (hk : k = 2 ∨ k = 3 ∨ k = 4) : ∀ g ∈ sg12 k, g = 115 ∨ g = 108 ∨ g = 116 ∨ g = 110 := by
  rcases hk with rfl | rfl | rfl <;> decide

set_option maxRecDepth 100000 in
set_option maxHeartbeats 4000000 in
theorem ddecode_form (k : Nat) (hk : k = 2 ∨ k = 3 ∨ k = 4) (n : Int) (bv : Value) (b : List Nat) (w : World) (hL : Laid w) (hS : Seen w bv (nv .u8 b)) (hb : ∀ x ∈ b, x < 2 ^ 8) (hbl : b.length ≤ 1000000000) :
    Calls Tryd.prog 11 #[.int .i64 (k : Int), bv, .int .i64 n] w (DDecOut (k : Int) n b w) := by
  have HF := Lib.hid (formOf_any12 (k : Int) w (by omega) hL)
  have hfr : frmB (k : Int) = str (sg12 k) := by unfold frmB; rw [if_neg (by omega), Int.toNat_natCast]; rfl
  rw [hfr] at HF
  have hsz : (str (sg12 k)).size = (sg12 k).length := str_size _
  have hsm : ∀ x ∈ sg12 k, x < 128 := by rcases hk with rfl | rfl | rfl <;> decide
  have hpos : 0 < (sg12 k).length := by rcases hk with rfl | rfl | rfl <;> decide
  have hle : (sg12 k).length ≤ 2 := by rcases hk with rfl | rfl | rfl <;> decide
  have hne : (str (sg12 k)).toList.isEmpty = false := by rcases hk with rfl | rfl | rfl <;> decide +kernel
  have hne2 : ¬ (str (sg12 k)).toList = [] := fun h => by rw [h] at hne; simp at hne
  have h0 : ¬ (sg12 k).getD 0 0 = 116 := by rcases hk with rfl | rfl | rfl <;> decide
  have HNX := Lib.hid (fun j => sg12_next k hk j)
  have HMEM := Lib.hid (sg12_mem k hk)
  have hE : decD12 (k : Int) n b = if (frD (sg12 k) n [] b).1 ≠ 0 then ([], (frD (sg12 k) n [] b).1) else if (frD (sg12 k) n [] b).2.2 = [] then ((frD (sg12 k) n [] b).2.1, 0) else ([], 9) := by
    unfold decD12
    rw [if_pos (by omega), Int.toNat_natCast]
  unfold DDecOut
  obtain ⟨A, hA⟩ : ∃ A, A = decD12 (k : Int) n b := ⟨_, rfl⟩
  rw [← hA] at hE ⊢
  clear hA
  obtain ⟨S, hSS⟩ : ∃ S, S = sg12 k := ⟨_, rfl⟩
  rw [← hSS] at HF hsz hsm hpos hle hne hne2 h0 HNX HMEM hE
  obtain ⟨s, hs⟩ : ∃ s, s = str S := ⟨_, rfl⟩
  rw [← hs] at HF hsz hne hne2
  have HGET := Lib.hid (show ∀ j (h : j < s.size), (s[j]'h).toNat = S.getD j 0 from fun j h => by
    have h1 := bl_get s j h
    have e : bl s = S := by rw [hs]; exact bl_str (fun c hc => by have := hsm c hc; omega)
    rw [e] at h1
    rw [List.getD, h1]; rfl)
  have HLT := Lib.hid (show ∀ j, j < S.length → S.getD j 0 < 128 from fun j hj => hsm _ (getD_mem hj))
  obtain ⟨nF, hnF⟩ : ∃ n, n = S.length := ⟨_, rfl⟩
  rw [← hnF] at hsz hpos hle HLT
  obtain ⟨R, hR⟩ : ∃ R, R = frD S n [] b := ⟨_, rfl⟩
  rw [← hR] at hE
  have HR := Lib.hid hR
  have HAE := Lib.hid hE
  have HSZ := Lib.hid hsz
  have HNF := Lib.hid hnF
  have H0 := Lib.hid h0
  obtain ⟨ao, cap, rfl, -, -⟩ := hS.shape
  rw [nv_length] at hS ⊢
  have HSEEN := Lib.hid hS
  have HBY := Lib.hid hb
  clear hL hfr hsm hSS hs hnF hR h0 hS hb hk hE
  go_enter Tryd.func11, Tryd.ntmps11
  go_wp2_with (first
    | (go_at_call 17; (with_reducible refine HF.out.mono ?_); rintro e w1 ⟨rfl, rfl⟩)
    | fail)
  go_loopw [12] (fun _ w' => ∃ (j : Nat) (LJ : List V) (bJ : List Nat), j ≤ nF ∧ w'.heap[w.heap.size + 1]? = some (.stringIter s j) ∧ R = frD (S.drop j) n LJ bJ ∧ DD w w' w.heap.size (w.heap.size + 2) bJ n LJ ∧ LJ.length ≤ 4000 ∧ (S.getD j 0 = 116 → ∀ v ∈ LJ, 0 ≤ v.n)) (fun _ w' => nF - itp12 w' (w.heap.size + 1))
  case atStart =>
    refine ⟨0, [], b, Nat.zero_le _, new2 w _ _, HR.out, ⟨((Chg.refl [] w).alloc _).alloc _, Nat.le_refl _, by omega, Go.lt_of_block (new2 w _ _), HBY.out, hbl, ⟨_, .slice none 0 0, ((Chg.refl [] (w.alloc _)).alloc _).heap (heap_alloc_new w _) (by simp), HSEEN.out, World.ownsRow_nil _ _ _ _⟩⟩, by simp, fun h => absurd h H0.out⟩
  case round =>
    obtain ⟨j, LJ, bJ, hj, hit, hfr, hd, hlen, hpv⟩ := hrel
    have HTP := Lib.hid (itp12_of hit)
    have HFR := Lib.hid hfr
    have HLEN := Lib.hid hlen
    by_cases hlt : j < nF
    · have hp : j < s.size := by omega
      have hnx : ∀ ty, (Instr.next (.pointer (some ⟨w.heap.size + 1, 0, none⟩)) true ty).run Tryd.prog wr = _ := fun ty => Lib.run_next_ascii_at wr (w.heap.size + 1) s j ty hit hp (by rw [HGET.out j hp]; exact HLT.out j hlt)
      rw [HGET.out j hp] at hnx
      have HI1 := Lib.hid (Lib.iterAt_heap wr (w.heap.size + 1) s j (j + 1) hit)
      have HD1 := Lib.hid (hd.iter (q := j + 1) hit (by omega) (by omega))
      have HJS := Lib.hid (show j < S.length by rw [← HNF.out]; exact hlt)
      have HGM := HMEM.out (S.getD j 0) (getD_mem HJS.out)
      have HQ := Lib.hid (dpart_any HD1.out (S.getD j 0) HGM hpv hlen)
      unfold DpPost at HQ
      have HOK := Lib.hid (frD_ok (n := n) (L := LJ) (b := bJ) HJS.out)
      have HBAD := Lib.hid (frD_bad (n := n) (L := LJ) (b := bJ) HJS.out)
      have HPL := Lib.hid (dpE_len (g := S.getD j 0) (n := n) (b := bJ) hlen)
      have HPP := Lib.hid (show S.getD (j + 1) 0 = 116 → (dpE (S.getD j 0) n LJ bJ).1 = 0 → ∀ v ∈ (dpE (S.getD j 0) n LJ bJ).2.1, 0 ≤ v.n from fun h => by
        rw [HNX.out j h]
        exact dpE_pos)
      obtain ⟨g, hg⟩ : ∃ g, g = S.getD j 0 := ⟨_, rfl⟩
      rw [← hg] at hnx HQ HOK HBAD HPL HPP
      obtain ⟨D, hD⟩ : ∃ D, D = dpE g n LJ bJ := ⟨_, rfl⟩
      rw [← hD] at HQ HOK HBAD HPL HPP
      clear hit hd hpv hg hD hp HGM hfr hlen
      generalize wr.iterAt (w.heap.size + 1) s (j + 1) = W1 at hnx HI1 HD1 HQ
      by_cases he : D.1 = 0
      · have HE := Lib.hid he
        have HOK2 := Lib.hid (HOK.out he)
        have HPL2 := Lib.hid (HPL.out he)
        rw [he] at HQ
        clear he
        go_wp2_with (first
          | (go_at_call 21; (with_reducible refine HQ.out.mono ?_); rintro e w4 ⟨rfl, hc4, hp4⟩; obtain ⟨hd4, hl4⟩ := hp4 rfl; have HD4 := Lib.hid hd4; have HI4 := Lib.hid (hl4 (w.heap.size + 1) _ (by omega) (by omega) HI1.out); clear hc4 hp4 hd4 hl4)
          | fail)
        go_roundw
        case rel => exact ⟨j + 1, D.2.1, D.2.2, hlt, HI4.out, by rw [HFR.out]; exact HOK2.out, HD4.out, HPL2.out, fun h => HPP.out h HE.out⟩
        case measure => rw [itp12_of HI4.out, HTP.out]; omega
      · have HB2 := Lib.hid (HBAD.out he)
        have hne3 : (D.1 != 0) = true := by simpa using he
        have HE := Lib.hid he
        clear he
        go_wp2_with (first
          | (go_at_call 21; (with_reducible refine HQ.out.mono ?_); rintro e w4 ⟨rfl, hc4, hp4⟩; have HC4 := Lib.hid hc4; clear hc4 hp4)
          | fail)
        go_ret2
        rw [HAE.out, HFR.out, HB2.out, if_pos HE.out]
        exact ⟨_, rfl, HC4.out, World.ownsRow_nil _ _ _ _⟩
    · have hp : ¬ j < s.size := by omega
      have hnx : ∀ ty, (Instr.next (.pointer (some ⟨w.heap.size + 1, 0, none⟩)) true ty).run Tryd.prog wr = _ := fun ty => Lib.run_next_end_at wr (w.heap.size + 1) s j ty hit hp
      have HE := Lib.hid (show R = (0, LJ, bJ) by
        rw [HFR.out, List.drop_of_length_le (show S.length ≤ j from by have := HNF.out; omega)]
        rfl)
      have HD := Lib.hid hd
      obtain ⟨bv', lv, hb', hs', ho'⟩ := hd.st
      obtain ⟨bo, bc, rfl, -, -⟩ := hs'.shape
      rw [nv_length] at hb'
      obtain ⟨c0, -, c2, -, -, -⟩ := cells3 hb'
      have HO := Lib.hid (own_mono ho' (show w.heap.size ≤ w.heap.size + 2 by omega))
      clear hit hfr hd hpv hb' hs' ho' hlen
      by_cases hz : bJ.length = 0
      · have d1 : decide ((0 : Int) < (bJ.length : Int)) = false := decide_eq_false (by omega)
        go_wp2
        go_ret2
        rw [HAE.out, HE.out, if_neg (by simp), if_pos (List.eq_nil_of_length_eq_zero hz)]
        exact ⟨_, rfl, HD.out.c0, HO.out⟩
      · have d1 : decide ((0 : Int) < (bJ.length : Int)) = true := by simp; omega
        go_wp2
        go_ret2
        rw [HAE.out, HE.out, if_neg (by simp), if_neg (fun h => hz (by have h : bJ = [] := h; rw [h]; rfl))]
        exact ⟨_, rfl, HD.out.c0, World.ownsRow_nil _ _ _ _⟩

set_option maxRecDepth 100000 in
set_option maxHeartbeats 4000000 in
theorem ddecode_any (k n : Int) (bv : Value) (b : List Nat) (w : World) (hk : (Lit.int .i64 k).wf = true) (hn : (Lit.int .i64 n).wf = true) (hL : Laid w) (hS : Seen w bv (nv .u8 b)) (hb : ∀ x ∈ b, x < 2 ^ 8) (hbl : b.length ≤ 1000000000) :
    Calls Tryd.prog 11 #[.int .i64 k, bv, .int .i64 n] w (DDecOut k n b w) := by
  have hk1 := wf_i64 hk
  by_cases h : k = 2 ∨ k = 3 ∨ k = 4
  · have h2 := ddecode_form k.toNat (by omega) n bv b w hL hS hb hbl
    rw [show ((k.toNat : Nat) : Int) = k by omega] at h2
    exact h2
  · have HF := Lib.hid (formOf_any12 k w (by omega) hL)
    have hfr : frmB k = e0 := by
      unfold frmB
      by_cases h1 : k < 0 ∨ 4 < k
      · rw [if_pos h1]
      · rw [if_neg h1]
        have : k = 0 ∨ k = 1 := by omega
        rcases this with rfl | rfl <;> rfl
    rw [hfr] at HF
    have HP := Lib.hid (pdecode_any k n bv b w hk hn hL hS hb (by omega))
    have E : decD12 k n b = decP k b n := by unfold decD12; rw [if_neg h]
    unfold DDecOut DDecR
    unfold PDecOut at HP
    rw [E]
    obtain ⟨A, hA⟩ : ∃ A, A = decP k b n := ⟨_, rfl⟩
    rw [← hA] at HP ⊢
    clear hL hS hb hA E hfr h hk1
    go_enter Tryd.func11, Tryd.ntmps11
    go_wp2_with (first
      | (go_at_call 17; (with_reducible refine HF.out.mono ?_); rintro e w1 ⟨rfl, rfl⟩)
      | (go_at_call 20; (with_reducible refine HP.out.mono ?_); rintro e w2 ⟨x, rfl, hc, ho⟩; have HC := Lib.hid hc; have HO := Lib.hid ho; clear hc ho)
      | fail)
    go_ret2
    exact ⟨_, rfl, HC.out, HO.out⟩

end Go.Proofs.YtohgnbgijleoaaaDoor
