/- The reference's Same, law 14's Columns: of columns alike. -/
import Derived.Test.YtfdmbpfpdijpdaaShn
import Derived.Test.YtfdmbpfpdijpdaaA1
namespace Go.Proofs.Ytfdmbpfpdijpdaa
open Go.RowKit
set_option linter.unusedVariables false
set_option linter.unusedSimpArgs false

set_option maxRecDepth 100000 in
set_option maxHeartbeats 4000000 in
theorem rsame14_any (r1 d1 v1 r2 d2 v2 : Value) (R D : List Int) (Vs : List V) (w : World) (hr1 : SeenI w r1 R) (hd1 : SeenI w d1 D) (hv1 : SeenV w v1 Vs) (hr2 : SeenI w r2 R) (hd2 : SeenI w d2 D) (hv2 : SeenV w v2 Vs) :
    Calls Try.prog 25 #[.agg #[r1, d1, v1], .agg #[r2, d2, v2]] w fun e w' => e = .returned (.bool true) ∧ Chg [] w w' := by
  obtain ⟨ra, rc, rfl, -, hrc⟩ := hr1.shape
  obtain ⟨da, dc, rfl, -, hdc⟩ := hd1.shape
  obtain ⟨va, vc, rfl, hvl, hvc⟩ := hv1.shape
  obtain ⟨rb, re, rfl, -, -⟩ := hr2.shape
  obtain ⟨db, de, rfl, -, -⟩ := hd2.shape
  obtain ⟨vb, ve, rfl, -, -⟩ := hv2.shape
  have hRm : R.length ≤ maxLen := by obtain ⟨_, _, h, h1, h2, -⟩ := hr1; omega
  have hDm : D.length ≤ maxLen := by obtain ⟨_, _, h, h1, h2, -⟩ := hd1; omega
  unfold maxLen at hRm hDm hvc
  obtain ⟨n1, hn1⟩ : ∃ n, n = R.length := ⟨_, rfl⟩
  obtain ⟨n2, hn2⟩ : ∃ n, n = D.length := ⟨_, rfl⟩
  obtain ⟨n3, hn3⟩ : ∃ n, n = Vs.length := ⟨_, rfl⟩
  rw [← hn1] at hr1 hr2 hRm ⊢
  rw [← hn2] at hd1 hd2 hDm ⊢
  rw [← hn3] at hv1 hv2 hvl ⊢
  have HN1 := Lib.hid hn1; have HN2 := Lib.hid hn2; have HN3 := Lib.hid hn3
  have HR1 := Lib.hid hr1; have HR2 := Lib.hid hr2; have HD1 := Lib.hid hd1; have HD2 := Lib.hid hd2; have HV1 := Lib.hid hv1; have HV2 := Lib.hid hv2
  have q1 : ((n1 : Int) != (n1 : Int)) = false := by simp
  have q2 : ((n2 : Int) != (n2 : Int)) = false := by simp
  have q3 : ((n3 : Int) != (n3 : Int)) = false := by simp
  have hn3m : n3 ≤ 9223372036854775807 := by omega
  clear hn1 hn2 hn3 hr1 hr2 hd1 hd2 hv1 hv2 hrc hdc hvl hvc
  obtain ⟨b, hb⟩ : ∃ b, b = w.heap.size := ⟨_, rfl⟩
  obtain ⟨w1, hw1⟩ : ∃ z, z = w.alloc (.cells #[.slice ra n1 rc, .slice da n2 dc, .slice va n3 vc] 42) := ⟨_, rfl⟩
  obtain ⟨w2, hw2⟩ : ∃ z, z = w1.alloc (.cells #[.slice rb n1 re, .slice db n2 de, .slice vb n3 ve] 42) := ⟨_, rfl⟩
  have hs1 : w1.heap.size = b + 1 := by rw [hw1, hb]; simp
  have hc1 : Chg [] w w1 := by rw [hw1]; exact (Chg.refl [] w).alloc _
  have hc2 : Chg [] w1 w2 := by rw [hw2]; exact (Chg.refl [] w1).alloc _
  have hk1 : w2.heap[b]? = some (.cells #[.slice ra n1 rc, .slice da n2 dc, .slice va n3 vc] 42 (0, 0)) := hc2.heap (by rw [hw1, hb]; exact heap_alloc_new w _) (by simp)
  have hk2 : w2.heap[b + 1]? = some (.cells #[.slice rb n1 re, .slice db n2 de, .slice vb n3 ve] 42 (0, 0)) := by rw [← hs1, hw2]; exact heap_alloc_new w1 _
  have HC := Lib.hid (hc1.trans hc2 (by simp))
  have HBX := Lib.hid (show ∀ wx, Chg [] w2 wx → (wx.cell? ⟨b, 0, none⟩ = some (.slice ra n1 rc) ∧ wx.cell? ⟨b, 1, none⟩ = some (.slice da n2 dc) ∧ wx.cell? ⟨b, 2, none⟩ = some (.slice va n3 vc)) ∧ wx.cell? ⟨b + 1, 0, none⟩ = some (.slice rb n1 re) ∧ wx.cell? ⟨b + 1, 1, none⟩ = some (.slice db n2 de) ∧ wx.cell? ⟨b + 1, 2, none⟩ = some (.slice vb n3 ve) from fun wx hc => by
    have h1 := hc.heap hk1 (by simp)
    have h2 := hc.heap hk2 (by simp)
    exact ⟨⟨by rw [cell_of_row wx b 0 _ _ _ h1]; rfl, by rw [cell_of_row wx b 1 _ _ _ h1]; rfl, by rw [cell_of_row wx b 2 _ _ _ h1]; rfl⟩, by rw [cell_of_row wx (b + 1) 0 _ _ _ h2]; rfl, by rw [cell_of_row wx (b + 1) 1 _ _ _ h2]; rfl, by rw [cell_of_row wx (b + 1) 2 _ _ _ h2]; rfl⟩)
  obtain ⟨⟨x0, x1, x2⟩, y0, y1, y2⟩ := HBX.out w2 (Chg.refl _ _)
  have HW1 := Lib.hid hw1; have HW2 := Lib.hid hw2; have HS1 := Lib.hid hs1
  clear hc1 hc2 hk1 hk2 hw1 hw2
  go_enter Try.func25, Try.ntmps25
  go_upto_region 1 with fail
  rw [← hb, ← HW1.out, ← HW2.out]
  clear hb hs1
  go_wp2
  clear x0 x1 x2 y0 y1 y2
  go_loopw [5] (fun x w' => ∃ k : Nat, x = .int .i64 (k : Int) ∧ k ≤ n1 ∧ Chg [] w2 w') (fun x _ => n1 - (intOf x).toNat)
  case atStart => exact ⟨0, rfl, Nat.zero_le _, Chg.refl _ _⟩
  case round =>
    obtain ⟨k, rfl, hk, hc⟩ := hrel
    have HC5 := Lib.hid hc
    obtain ⟨⟨x0, x1, x2⟩, y0, y1, y2⟩ := HBX.out _ hc
    have HCW := Lib.hid (HC.out.trans hc (by simp))
    clear hc
    by_cases hlt : k < n1
    · have d1 : decide ((k : Int) < (n1 : Int)) = true := by simp; omega
      obtain ⟨ga, oa, rfl, ha⟩ := SeenI.get (HR1.out.keep HCW.out) (by omega) HN1.out.symm
      obtain ⟨gb, ob, rfl, hb⟩ := SeenI.get (HR2.out.keep HCW.out) (by omega) HN1.out.symm
      obtain ⟨x, hx⟩ : ∃ z, z = R.getD k 0 := ⟨_, rfl⟩
      have a1 := ha k hlt
      have b1 := hb k hlt
      rw [← hx] at a1 b1
      have hee : (x != x) = false := by simp
      clear ha hb hx
      go_wp2_with fail
      go_quiet (fail)
      go_wp2
      go_roundw
      case rel => exact ⟨k + 1, by go_num, by omega, HC5.out.drewN _⟩
      case measure => simp [intOf]; omega
    · have d1 : decide ((k : Int) < (n1 : Int)) = false := by simp; omega
      go_wp2
      clear x0 x1 x2 y0 y1 y2
      go_loopw [6] (fun x w' => ∃ k : Nat, x = .int .i64 (k : Int) ∧ k ≤ n2 ∧ Chg [] w2 w') (fun x _ => n2 - (intOf x).toNat)
      case atStart => exact ⟨0, rfl, Nat.zero_le _, HC5.out⟩
      case round =>
        obtain ⟨k, rfl, hk, hc⟩ := hrel
        have HC6 := Lib.hid hc
        obtain ⟨⟨x0, x1, x2⟩, y0, y1, y2⟩ := HBX.out _ hc
        have HCW := Lib.hid (HC.out.trans hc (by simp))
        clear hc
        by_cases hlt : k < n2
        · have d1 : decide ((k : Int) < (n2 : Int)) = true := by simp; omega
          obtain ⟨ga, oa, rfl, ha⟩ := SeenI.get (HD1.out.keep HCW.out) (by omega) HN2.out.symm
          obtain ⟨gb, ob, rfl, hb⟩ := SeenI.get (HD2.out.keep HCW.out) (by omega) HN2.out.symm
          obtain ⟨x, hx⟩ : ∃ z, z = D.getD k 0 := ⟨_, rfl⟩
          have a1 := ha k hlt
          have b1 := hb k hlt
          rw [← hx] at a1 b1
          have hee : (x != x) = false := by simp
          clear ha hb hx
          go_wp2_with fail
          go_quiet (fail)
          go_wp2
          go_roundw
          case rel => exact ⟨k + 1, by go_num, by omega, HC6.out.drewN _⟩
          case measure => simp [intOf]; omega
        · have d1 : decide ((k : Int) < (n2 : Int)) = false := by simp; omega
          go_wp2
          clear x0 x1 x2 y0 y1 y2
          go_loopw [7] (fun x w' => ∃ k : Nat, x = .int .i64 (k : Int) ∧ k ≤ n3 ∧ Chg [] w2 w') (fun x _ => n3 - (intOf x).toNat)
          case atStart => exact ⟨0, rfl, Nat.zero_le _, HC6.out⟩
          case round =>
            obtain ⟨k, rfl, hk, hc⟩ := hrel
            have HC7 := Lib.hid hc
            obtain ⟨⟨x0, x1, x2⟩, y0, y1, y2⟩ := HBX.out _ hc
            have HCW := Lib.hid (HC.out.trans hc (by simp))
            clear hc
            by_cases hlt : k < n3
            · have d1 : decide ((k : Int) < (n3 : Int)) = true := by simp; omega
              obtain ⟨ga, oa, rfl, ha⟩ := SeenV.get (HV1.out.keep HCW.out) (by omega)
              obtain ⟨gb, ob, rfl, hb⟩ := SeenV.get (HV2.out.keep HCW.out) (by omega)
              obtain ⟨x, hx⟩ : ∃ x, Vs[k]? = some x := ⟨_, List.getElem?_eq_getElem (by rw [← HN3.out]; exact hlt)⟩
              obtain ⟨a1, a2⟩ := ha k x hx
              obtain ⟨b1, b2⟩ := hb k x hx
              have hee : (x.s.toList == x.s.toList) = true := by simp
              clear ha hb hx
              go_wp2_with fail
              go_quiet (fail)
              go_wp2
              go_roundw
              case rel => exact ⟨k + 1, by go_num, by omega, HC7.out.drewN _⟩
              case measure => simp [intOf]; omega
            · have d1 : decide ((k : Int) < (n3 : Int)) = false := by simp; omega
              go_wp2
              go_ret
              exact ⟨rfl, HC.out.trans HC7.out (by simp)⟩

/-- A row of columns of these contents. -/
structure ColsS (w : World) (g N : Nat) (R D : Nat → List Int) (Vs : Nat → List V) : Prop where
  le : N ≤ 1000000
  at' : ∀ j, j < N → ∃ rv dv vv, w.cell? ⟨g, j * 3, none⟩ = some rv ∧ w.cell? ⟨g, j * 3 + 1, none⟩ = some dv ∧ w.cell? ⟨g, j * 3 + 2, none⟩ = some vv ∧ SeenI w rv (R j) ∧ SeenI w dv (D j) ∧ SeenV w vv (Vs j)

theorem ColsS.keep {w w' : World} {g N : Nat} {R D : Nat → List Int} {Vs : Nat → List V} (h : ColsS w g N R D Vs) (hc : Chg [] w w') : ColsS w' g N R D Vs := by
  refine ⟨h.le, fun j hj => ?_⟩
  obtain ⟨rv, dv, vv, a1, a2, a3, a4, a5, a6⟩ := h.at' j hj
  exact ⟨rv, dv, vv, hc.cell a1 (by simp), hc.cell a2 (by simp), hc.cell a3 (by simp), a4.keep hc, a5.keep hc, a6.keep hc⟩

/-- What shred.Columns gave. -/
theorem CJ.seen {Ls : List L} {WS : List (List Stp)} {L0 : List Tr} {w wi : World} {gc N : Nat} {R : List C3} (h : CJ Ls WS L0 w wi gc N N R) (hN : N ≤ 1000000) (hl : Ls.length = N) (hW : WS.length = N) :
    ColsS wi gc N (fun j => colR (colC (WS.getD j []) L0)) (fun j => colD (colC (WS.getD j []) L0)) (fun j => colV (Ls.getD j default).d (colC (WS.getD j []) L0)) := by
  refine ⟨hN, fun j hj => ?_⟩
  obtain ⟨e, -, ⟨ht, -, -⟩, -, c0, c1, c2⟩ := h.get hj (List.getElem?_eq_getElem (by omega)) (List.getElem?_eq_getElem (by omega))
  refine ⟨e.rv, e.dv, e.vv, c0, c1, c2, ?_, ?_, ?_⟩
  · simp only [List.getD, List.getElem?_eq_getElem (show j < WS.length by omega), Option.getD_some]
    exact seenI_of_own ht.r (by simp)
  · simp only [List.getD, List.getElem?_eq_getElem (show j < WS.length by omega), Option.getD_some]
    exact seenI_of_own ht.d (by simp)
  · simp only [List.getD, List.getElem?_eq_getElem (show j < WS.length by omega), List.getElem?_eq_getElem (show j < Ls.length by omega), Option.getD_some]
    exact SeenK.own V.cs_len ht.v rfl

set_option maxRecDepth 100000 in
set_option maxHeartbeats 4000000 in
theorem lcolumns_any (g1 g2 N : Nat) (R D : Nat → List Int) (Vs : Nat → List V) (w : World) (h1 : ColsS w g1 N R D Vs) (h2 : ColsS w g2 N R D Vs) :
    Calls Try.prog 32 #[.slice (some ⟨g1, 0, none⟩) N N, .slice (some ⟨g2, 0, none⟩) N N] w fun e w' => e = .returned (.bool true) ∧ Chg [] w w' := by
  have H1 := Lib.hid h1; have H2 := Lib.hid h2
  have hN := h1.le
  have q1 : ((N : Int) != (N : Int)) = false := by simp
  clear h1 h2
  go_enter Try.func32, Try.ntmps32
  go_wp2
  go_loopw [5] (fun x w' => ∃ k : Nat, x = .int .i64 (k : Int) ∧ k ≤ N ∧ Chg [] w w') (fun x _ => N - (intOf x).toNat)
  case atStart => exact ⟨0, rfl, Nat.zero_le _, Chg.refl _ _⟩
  case round =>
    obtain ⟨k, rfl, hk, hc⟩ := hrel
    have HC := Lib.hid hc
    clear hc
    by_cases hlt : k < N
    · have d1 : decide ((k : Int) < (N : Int)) = true := by simp; omega
      obtain ⟨r1, d1', v1, a0, a1, a2, sr1, sd1, sv1⟩ := (H1.out.keep HC.out).at' k hlt
      obtain ⟨r2, d2, v2, b0, b1, b2, sr2, sd2, sv2⟩ := (H2.out.keep HC.out).at' k hlt
      have HSM := Lib.hid (fun wx (hc : Chg [] wr wx) => rsame14_any r1 d1' v1 r2 d2 v2 (R k) (D k) (Vs k) wx (sr1.keep hc) (sd1.keep hc) (sv1.keep hc) (sr2.keep hc) (sd2.keep hc) (sv2.keep hc))
      obtain ⟨_, _, rfl, -, -⟩ := sr1.shape
      obtain ⟨_, _, rfl, -, -⟩ := sd1.shape
      obtain ⟨_, _, rfl, -, -⟩ := sv1.shape
      obtain ⟨_, _, rfl, -, -⟩ := sr2.shape
      obtain ⟨_, _, rfl, -, -⟩ := sd2.shape
      obtain ⟨_, _, rfl, -, -⟩ := sv2.shape
      clear sr1 sd1 sv1 sr2 sd2 sv2
      go_upto_region 6 with fail
      go_still_tail 8, (by kernel_rfl)
      change wpList _ _ _ _ _ _
      go_wp2_with (first
        | (go_at_call 25; (with_reducible refine (HSM.out _ (Chg.refl [] _).drew).mono ?_); rintro e w3 ⟨rfl, hk3⟩; have HC3 := Lib.hid (HC.out.trans ((Chg.refl [] _).drew.trans hk3 (by simp)) (by simp)); clear hk3)
        | fail)
      go_roundw
      case rel => exact ⟨k + 1, by go_num, by omega, HC3.out⟩
      case measure => simp [intOf]; omega
    · have d1 : decide ((k : Int) < (N : Int)) = false := by simp; omega
      go_wp2
      go_ret
      exact ⟨rfl, HC.out⟩

end Go.Proofs.Ytfdmbpfpdijpdaa
