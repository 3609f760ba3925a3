/- The reference's Of. -/
import Derived.Test.YtgfjmbjpikcffaaRo17
import Derived.Test.YtgfjmbjpikcffaaOf17
namespace Go.Proofs.Ytgfjmbjpikcffaa
open Go.RowKit
set_option linter.unusedVariables false
set_option linter.unusedSimpArgs false

theorem cntD_snoc {D : Int} {l : List Int} {i : Nat} {x : Int} (h : l[i]? = some x) : cntD D (l.take (i + 1)) = cntD D (l.take i) + (if x = D then 1 else 0) := by
  unfold cntD
  rw [List.take_add_one, h, List.filter_append, List.length_append]
  congr 1
  by_cases hx : x = D
  · rw [if_pos hx]; simp [hx]
  · rw [if_neg hx]; simp [hx]
theorem cntD_le (D : Int) (l : List Int) : cntD D l ≤ l.length := List.length_filter_le _ _

set_option maxRecDepth 100000 in
set_option maxHeartbeats 4000000 in
theorem rof17_any (k : Nat) (hk : 1 ≤ k ∧ k ≤ 4) (f r D : Int) (rv dv vv : Value) (ds : List Int) (l : List V) (w : World) (hd : SeenI w dv ds) (hv : SeenV w vv l) (hl : ds.length ≤ 1000) (hok : ∀ x ∈ l, okV k x) (hc : l.length = cntD D ds) :
    Calls Try.prog 15 #[.agg #[.int .i64 f, .int .i64 r, .int .i64 D, .int .i64 (k : Int)], .agg #[rv, dv, vv]] w fun e w' => ∃ s, e = .returned (stV s) ∧ Chg [] w w' ∧ Is k (ds.length - l.length) l s := by
  obtain ⟨dao, dcap, rfl, dc1, dc2⟩ := hd.shape
  obtain ⟨vao, vcap, rfl, vc1, vc2⟩ := hv.shape
  obtain ⟨nd, hnd⟩ : ∃ n, n = ds.length := ⟨_, rfl⟩
  obtain ⟨nl, hnl⟩ : ∃ n, n = l.length := ⟨_, rfl⟩
  have HSD := Lib.hid hd; have HSV := Lib.hid hv
  rw [← hnd] at HSD dc1 hl ⊢
  rw [← hnl] at HSV hc ⊢ vc1
  have HCnt := Lib.hid hc; have HND := Lib.hid hnd; have HNL := Lib.hid hnl
  have hle : nl ≤ nd := by rw [hc, hnd]; exact cntD_le _ _
  obtain ⟨wb, hwb⟩ : ∃ wb, wb = (((w.alloc (.cells #[.int .i64 f, .int .i64 r, .int .i64 D, .int .i64 (k : Int)] 28)).alloc (.cells #[rv, .slice dao nd dcap, .slice vao nl vcap] 31)).alloc (.cells (stC ⟨0, false, v0, v0⟩) 37)).alloc (.cells (stC ⟨0, false, v0, v0⟩) 37) := ⟨_, rfl⟩
  have hcb : Chg [] w wb := by rw [hwb]; exact ((((Chg.refl [] w).alloc _).alloc _).alloc _).alloc _
  have hb0 : wb.heap[w.heap.size]? = some (.cells #[.int .i64 f, .int .i64 r, .int .i64 D, .int .i64 (k : Int)] 28 (0, 0)) := by rw [hwb]; exact at40 w _ _ _ _
  have hb1 : wb.heap[w.heap.size + 1]? = some (.cells #[rv, .slice dao nd dcap, .slice vao nl vcap] 31 (0, 0)) := by rw [hwb]; exact at41 w _ _ _ _
  have hb2 : wb.heap[w.heap.size + 2]? = some (.cells (stC ⟨0, false, v0, v0⟩) 37 (0, 0)) := by rw [hwb]; exact at42 w _ _ _ _
  have hb3 : wb.heap[w.heap.size + 3]? = some (.cells (stC ⟨0, false, v0, v0⟩) 37 (0, 0)) := by rw [hwb]; exact at43 w _ _ _ _
  have hbs : w.heap.size + 4 = wb.heap.size := by rw [hwb]; simp
  have HCB := Lib.hid hcb; have HB0 := Lib.hid hb0; have HB1 := Lib.hid hb1; have HB2 := Lib.hid hb2; have HB3 := Lib.hid hb3; have HWB := Lib.hid hwb; have HBS := Lib.hid hbs
  clear hcb hb0 hb1 hb2 hb3 hbs hd hv hc hnd hnl hwb
  go_enter Try.func15, Try.ntmps15
  go_wp2
  rw [← HWB.out]
  go_loopw [6] (fun x w' => ∃ i : Nat, x = .int .i64 (i : Int) ∧ i ≤ nd ∧ (∃ z : Nat, w'.heap[w.heap.size + 3]? = some (.cells (stC ⟨(z : Int), false, v0, v0⟩) 37 (0, 0)) ∧ z + cntD D (ds.take i) = i) ∧ Chg [w.heap.size + 3] wb w') (fun x _ => nd - (intOf x).toNat)
  case atStart => exact ⟨0, rfl, Nat.zero_le _, ⟨0, HB3.out, rfl⟩, Chg.refl _ _⟩
  case round =>
    obtain ⟨i, rfl, hi, ⟨z, hz, hzc⟩, hc⟩ := hrel
    have HC := Lib.hid hc; have HZ := Lib.hid hz; have HZC := Lib.hid hzc
    have X0 := hc.heap HB0.out (by simp)
    have X1 := hc.heap HB1.out (by simp)
    have c2 : wr.cell? ⟨w.heap.size, 2, none⟩ = some (.int .i64 D) := by rw [cell_of_row _ _ _ _ _ _ X0]; rfl
    have e1 : wr.cell? ⟨w.heap.size + 1, 1, none⟩ = some (.slice dao nd dcap) := by rw [cell_of_row _ _ _ _ _ _ X1]; rfl
    have e2 : wr.cell? ⟨w.heap.size + 1, 2, none⟩ = some (.slice vao nl vcap) := by rw [cell_of_row _ _ _ _ _ _ X1]; rfl
    have hcw : Chg [] w wr := HCB.out.trans hc (by simp)
    have HCW := Lib.hid hcw
    clear hc hz hzc X0 X1 hcw
    by_cases hlt : i < nd
    · have d1 : decide ((i : Int) < (nd : Int)) = true := by simp; omega
      obtain ⟨x, hx⟩ : ∃ x, ds[i]? = some x := ⟨_, List.getElem?_eq_getElem (by rw [← HND.out]; exact hlt)⟩
      obtain ⟨g, off, rfl, hget⟩ := SeenI.get HSD.out (by omega) HND.out.symm
      have x0 := HCW.out.cell (hget i hlt) (by simp)
      rw [List.getD, hx, Option.getD_some] at x0
      have HX := Lib.hid (cntD_snoc (D := D) hx)
      clear hget hx
      by_cases hxD : x = D
      · have d2 : (x != D) = false := by simpa using hxD
        rw [if_pos hxD] at HX
        go_upto_region 5 with fail
        go_quiet (fail)
        go_wp2
        go_roundw
        case rel => exact ⟨i + 1, by go_num, by omega, ⟨z, HZ.out, by rw [HX.out]; have := HZC.out; omega⟩, HC.out.drewN _⟩
        case measure => simp [intOf]; omega
      · have d2 : (x != D) = true := by simpa using hxD
        have hz2 : (z : Int) ≤ 1000 := by have := HZC.out; omega
        rw [if_neg hxD] at HX
        go_upto_region 5 with fail
        go_quiet (fail)
        have HK := Lib.hid ((Chg.refl [] wr).drewN nq)
        generalize wr.drewN nq = w2 at HK ⊢
        have X2 := Lib.hid (HK.out.heap HZ.out (by simp))
        obtain ⟨⟨r0, r1, r2, r3, r4, r5⟩, r6⟩ := six_cells X2.out
        go_wp2
        go_roundw
        case rel => exact ⟨i + 1, by go_num, by omega, ⟨z + 1, (heap_set X2.out _).trans (by simp), by rw [HX.out]; have := HZC.out; omega⟩, (HC.out.trans HK.out (by simp)).setCell (.inl (by simp)) _⟩
        case measure => simp [intOf]; omega
    · have d1 : decide ((i : Int) < (nd : Int)) = false := by simp; omega
      have HZ2 := Lib.hid (show Is k (nd - nl) [] ⟨(z : Int), false, v0, v0⟩ from ⟨by
        have a1 := HZC.out; have a2 := HCnt.out; have a3 := HND.out
        rw [List.take_of_length_le (by omega)] at a1
        show (z : Int) = _
        omega, rfl, fun _ => ⟨rfl, rfl⟩, fun h => absurd rfl h, fun h => absurd rfl h⟩)
      obtain ⟨wa, rfl⟩ : ∃ wa, wa = wr := ⟨_, rfl⟩
      go_wp2
      go_loopw [7] (fun x w' => ∃ j : Nat, x = .int .i64 (j : Int) ∧ j ≤ nl ∧ (∃ s, w'.heap[w.heap.size + 3]? = some (.cells (stC s) 37 (0, 0)) ∧ Is k (nd - nl) (l.take j) s) ∧ Chg [w.heap.size + 3] wa w') (fun x _ => nl - (intOf x).toNat)
      case atStart => exact ⟨0, rfl, Nat.zero_le _, ⟨_, HZ.out, HZ2.out⟩, Chg.refl _ _⟩
      case round =>
        obtain ⟨j, rfl, hj, ⟨s, hst, hIs⟩, hc⟩ := hrel
        have HST := Lib.hid hst; have HIS := Lib.hid hIs; have HC2 := Lib.hid (HC.out.trans hc (by simp)); have HCX := Lib.hid hc
        have HSM := Lib.hid (hIs.small hk (by omega) (fun x hx => hok x (List.mem_of_mem_take hx)))
        have HCW2 := Lib.hid (HCW.out.trans hc (by simp))
        have X0 := HC2.out.heap HB0.out (by simp)
        have X1 := HC2.out.heap HB1.out (by simp)
        have X2 := Lib.hid (HC2.out.heap HB2.out (by simp))
        have c3 : wr.cell? ⟨w.heap.size, 3, none⟩ = some (.int .i64 (k : Int)) := by rw [cell_of_row _ _ _ _ _ _ X0]; rfl
        have e3 : wr.cell? ⟨w.heap.size + 1, 2, none⟩ = some (.slice vao nl vcap) := by rw [cell_of_row _ _ _ _ _ _ X1]; rfl
        obtain ⟨⟨p0, p1, p2, p3, p4, p5⟩, p6⟩ := six_cells hst
        obtain ⟨⟨t0, t1, t2, t3, t4, t5⟩, t6⟩ := six_cells X2.out
        clear c2 e1 e2 hst hIs hc X0 X1
        by_cases hjl : j < nl
        · have d2 : decide ((j : Int) < (nl : Int)) = true := by simp; omega
          obtain ⟨g2, off2, rfl, hget2⟩ := SeenV.get HSV.out (by omega)
          obtain ⟨v, hv2⟩ : ∃ v, l[j]? = some v := ⟨_, List.getElem?_eq_getElem (by rw [← HNL.out]; exact hjl)⟩
          obtain ⟨z0, z1⟩ := hget2 j v hv2
          have y0 := HCW2.out.cell z0 (by simp)
          have y1 := HCW2.out.cell z1 (by simp)
          have hok1 := hok v (List.mem_of_getElem? hv2)
          have HB := Lib.hid (fun wx => rjoin17_any k s ⟨0, true, v, v⟩ wx HSM.out ⟨by simp, ok_size hk hok1, ok_size hk hok1⟩ (fun h => by cases h))
          have HJ := Lib.hid (show Is k (nd - nl) (l.take (j + 1)) (jnS k s ⟨0, true, v, v⟩) by
            have := HIS.out.join (Is.one k v)
            rw [List.take_add_one, hv2]
            exact this)
          generalize jnS k s ⟨0, true, v, v⟩ = sj at HB HJ
          have HCL := Lib.hid (show ∀ wx, Chg [w.heap.size + 3] wr wx → wx.cell? ⟨w.heap.size, 3, none⟩ = some (.int .i64 (k : Int)) ∧ wx.cell? ⟨w.heap.size + 1, 2, none⟩ = some (.slice (some ⟨g2, off2, none⟩) nl vcap) ∧ wx.cell? ⟨g2, off2 + j * 2, none⟩ = some (.int .i64 v.n) ∧ wx.cell? ⟨g2, off2 + j * 2 + 1, none⟩ = some (.string v.s) from fun wx h => ⟨h.cell c3 (by simp), h.cell e3 (by simp), (HCW2.out.trans h (by simp)).cell z0 (by simp), (HCW2.out.trans h (by simp)).cell z1 (by simp)⟩)
          have hj0 : (j : Int).toNat = j := by omega
          have hj1 : (0 : Int) ≤ (j : Int) := by omega
          have hj2 : (j : Int) < (nl : Int) := by omega
          clear hget2 hv2 hok1
          go_upto_region 10 with fail
          refine wp_region_held_drew (S := (fun wx => wx.cell? ⟨w.heap.size, 3, none⟩ = some (.int .i64 (k : Int)) ∧ wx.cell? ⟨w.heap.size + 1, 2, none⟩ = some (.slice (some ⟨g2, off2, none⟩) nl vcap) ∧ wx.cell? ⟨g2, off2 + j * 2, none⟩ = some (.int .i64 v.n) ∧ wx.cell? ⟨g2, off2 + j * 2 + 1, none⟩ = some (.string v.s))) (by kernel_rfl) (HCL.out _ (Chg.refl _ _).drew) (fun hHeld => ?_)
          refine wpAnyH_take (i := 0) (oi := _) (v := ?_) rfl (by kernel_rfl) (by kernel_rfl) (by kernel_rfl) (fun _ _ _ h => h) (Or.inl ⟨by rfl, ?_⟩) (by assumption) ?_
          rotate_left
          · intro w hSw; (try dsimp only at hSw); go_simp; (try with_reducible rfl)
          try simp only [List.getElem_toArray, List.getElem_cons_succ, List.getElem_cons_zero, Act.put, List.setIfInBounds_toArray, List.set_cons_zero, List.set_cons_succ]
          refine wpAnyH_take (i := 1) (oi := _) (v := ?_) rfl (by kernel_rfl) (by kernel_rfl) (by kernel_rfl) (fun _ _ _ h => h) (Or.inl ⟨by rfl, ?_⟩) (by assumption) ?_
          rotate_left
          · intro w hSw; (try dsimp only at hSw); go_simp; (try with_reducible rfl)
          try simp only [List.getElem_toArray, List.getElem_cons_succ, List.getElem_cons_zero, Act.put, List.setIfInBounds_toArray, List.set_cons_zero, List.set_cons_succ]
          refine wpAnyH_take (i := 3) (oi := _) (v := ?_) rfl (by kernel_rfl) (by kernel_rfl) (by kernel_rfl) (fun _ _ _ h => h) (Or.inl ⟨by rfl, ?_⟩) (by assumption) ?_
          rotate_left
          · intro w hSw; (try dsimp only at hSw); go_simp; (try with_reducible rfl)
          try simp only [List.getElem_toArray, List.getElem_cons_succ, List.getElem_cons_zero, Act.put, List.setIfInBounds_toArray, List.set_cons_zero, List.set_cons_succ]
          refine wpAnyH_take (i := 4) (oi := _) (v := ?_) rfl (by kernel_rfl) (by kernel_rfl) (by kernel_rfl) (fun _ _ _ h => h) (Or.inl ⟨by rfl, ?_⟩) (by assumption) ?_
          rotate_left
          · intro w hSw; (try dsimp only at hSw); go_simp; (try with_reducible rfl)
          try simp only [List.getElem_toArray, List.getElem_cons_succ, List.getElem_cons_zero, Act.put, List.setIfInBounds_toArray, List.set_cons_zero, List.set_cons_succ]
          refine wpAnyH_take (i := 5) (oi := _) (v := ?_) rfl (by kernel_rfl) (by kernel_rfl) (by kernel_rfl) (fun _ _ _ h => h) (Or.inl ⟨by rfl, ?_⟩) (by assumption) ?_
          rotate_left
          · intro w hSw; (try dsimp only at hSw); go_simp; (try with_reducible rfl)
          try simp only [List.getElem_toArray, List.getElem_cons_succ, List.getElem_cons_zero, Act.put, List.setIfInBounds_toArray, List.set_cons_zero, List.set_cons_succ]
          refine wpAnyH_take (i := 6) (oi := _) (v := ?_) rfl (by kernel_rfl) (by kernel_rfl) (by kernel_rfl) (fun _ _ _ h => h) (Or.inl ⟨by rfl, ?_⟩) (by assumption) ?_
          rotate_left
          · intro w hSw; (try dsimp only at hSw); go_simp; (try with_reducible rfl)
          try simp only [List.getElem_toArray, List.getElem_cons_succ, List.getElem_cons_zero, Act.put, List.setIfInBounds_toArray, List.set_cons_zero, List.set_cons_succ]
          refine wpAnyH_take (i := 7) (oi := _) (v := ?_) rfl (by kernel_rfl) (by kernel_rfl) (by kernel_rfl) (fun _ _ _ h => h) (Or.inl ⟨by rfl, ?_⟩) (by assumption) ?_
          rotate_left
          · intro w hSw; (try dsimp only at hSw); go_simp; (try with_reducible rfl)
          try simp only [List.getElem_toArray, List.getElem_cons_succ, List.getElem_cons_zero, Act.put, List.setIfInBounds_toArray, List.set_cons_zero, List.set_cons_succ]
          refine wpAnyH_take (i := 8) (oi := _) (v := ?_) rfl (by kernel_rfl) (by kernel_rfl) (by kernel_rfl) (fun _ _ _ h => h) (Or.inl ⟨by rfl, ?_⟩) (by assumption) ?_
          rotate_left
          · intro w hSw; (try dsimp only at hSw); go_simp; (try with_reducible rfl)
          try simp only [List.getElem_toArray, List.getElem_cons_succ, List.getElem_cons_zero, Act.put, List.setIfInBounds_toArray, List.set_cons_zero, List.set_cons_succ]
          refine wpAnyH_take (i := 9) (oi := _) (v := ?_) rfl (by kernel_rfl) (by kernel_rfl) (by kernel_rfl) (fun _ _ _ h => h) (Or.inl ⟨by rfl, ?_⟩) (by assumption) ?_
          rotate_left
          · intro w hSw; (try dsimp only at hSw); go_simp; (try with_reducible rfl)
          try simp only [List.getElem_toArray, List.getElem_cons_succ, List.getElem_cons_zero, Act.put, List.setIfInBounds_toArray, List.set_cons_zero, List.set_cons_succ]
          refine wpAnyH_take (i := 10) (oi := _) (v := ?_) rfl (by kernel_rfl) (by kernel_rfl) (by kernel_rfl) (fun _ _ _ h => h) (Or.inl ⟨by rfl, ?_⟩) (by assumption) ?_
          rotate_left
          · intro w hSw; (try dsimp only at hSw); go_simp; (try with_reducible rfl)
          try simp only [List.getElem_toArray, List.getElem_cons_succ, List.getElem_cons_zero, Act.put, List.setIfInBounds_toArray, List.set_cons_zero, List.set_cons_succ]
          refine wpAnyH_take (i := 11) (oi := _) (v := ?_) rfl (by kernel_rfl) (by kernel_rfl) (by kernel_rfl) (fun _ _ _ h => h) (Or.inl ⟨by rfl, ?_⟩) (by assumption) ?_
          rotate_left
          · intro w hSw; (try dsimp only at hSw); go_simp; (try with_reducible rfl)
          try simp only [List.getElem_toArray, List.getElem_cons_succ, List.getElem_cons_zero, Act.put, List.setIfInBounds_toArray, List.set_cons_zero, List.set_cons_succ]
          refine wpAnyH_take (i := 12) (oi := _) (v := ?_) rfl (by kernel_rfl) (by kernel_rfl) (by kernel_rfl) (fun _ _ _ h => h) (Or.inl ⟨by rfl, ?_⟩) (by assumption) ?_
          rotate_left
          · intro w hSw; (try dsimp only at hSw); go_simp; (try with_reducible rfl)
          try simp only [List.getElem_toArray, List.getElem_cons_succ, List.getElem_cons_zero, Act.put, List.setIfInBounds_toArray, List.set_cons_zero, List.set_cons_succ]
          refine wpAnyH_take (i := 13) (oi := _) (v := ?_) rfl (by kernel_rfl) (by kernel_rfl) (by kernel_rfl) (fun _ _ _ h => h) (Or.inl ⟨by rfl, ?_⟩) (by assumption) ?_
          rotate_left
          · intro w hSw; (try dsimp only at hSw); go_simp; (try with_reducible rfl)
          try simp only [List.getElem_toArray, List.getElem_cons_succ, List.getElem_cons_zero, Act.put, List.setIfInBounds_toArray, List.set_cons_zero, List.set_cons_succ]
          refine wpAnyH_ready (rs := [2]) (by kernel_rfl) (by simp) ?_
          refine AllReadyH.cons (o := _) rfl (fun K hK => ?_) AllReadyH.nil
          go_simp
          refine hK.out _ _ (HCL.out _ (Chg.refl _ _).drew) (fun hHeld2 => ?_)
          clear hK K
          try simp only [Act.put, List.setIfInBounds_toArray, List.set_cons_zero, List.set_cons_succ]
          refine wpAnyH_ready (rs := [14]) (by kernel_rfl) (by simp) ?_
          refine AllReadyH.cons (o := _) rfl (fun K hK => ?_) AllReadyH.nil
          go_simp
          go_at_call 22; (with_reducible refine (HB.out _).mono ?_); rintro e w3 ⟨rfl, hk3⟩; have HK3 := Lib.hid (((Chg.refl [] wr).drew).trans hk3 (by simp)); have X3 := Lib.hid (HK3.out.heap HST.out (by simp)); obtain ⟨⟨q0, q1, q2, q3, q4, q5⟩, q6⟩ := six_cells X3.out; clear hk3
          simp only [Act.put, List.setIfInBounds_toArray, List.set_cons_zero, List.set_cons_succ]
          refine hK.out _ _ (HCL.out _ (HK3.out.mono (by simp))) (fun hHeld3 => ?_)
          clear hK K
          try simp only [Act.put, List.setIfInBounds_toArray, List.set_cons_zero, List.set_cons_succ]
          refine wpAnyH_ready (rs := [15]) (by kernel_rfl) (by simp) ?_
          refine AllReadyH.cons (o := _) rfl (fun K hK => ?_) AllReadyH.nil
          go_simp
          refine hK.out _ _ (HCL.out _ (by refine Chg.setCell (Chg.setCell (Chg.setCell (Chg.setCell (Chg.setCell (Chg.setCell (HK3.out.mono (by simp)) (.inl (by simp)) _) (.inl (by simp)) _) (.inl (by simp)) _) (.inl (by simp)) _) (.inl (by simp)) _) (.inl (by simp)) _)) (fun hHeld4 => ?_)
          clear hK K
          try simp only [Act.put, List.setIfInBounds_toArray, List.set_cons_zero, List.set_cons_succ]
          refine wpAnyH_done (by kernel_rfl) ?_ _
          have h0 : Chg [w.heap.size + 3] wr _ := HK3.out.mono (by simp)
          have hfin := Lib.hid ((((((h0.setCell (p := ⟨w.heap.size + 3, 0, none⟩) (.inl (by simp)) (.int .i64 sj.n)).setCell (p := ⟨w.heap.size + 3, 1, none⟩) (.inl (by simp)) (.bool sj.h)).setCell (p := ⟨w.heap.size + 3, 2, none⟩) (.inl (by simp)) (.int .i64 sj.a.n)).setCell (p := ⟨w.heap.size + 3, 3, none⟩) (.inl (by simp)) (.string sj.a.s)).setCell (p := ⟨w.heap.size + 3, 4, none⟩) (.inl (by simp)) (.int .i64 sj.b.n)).setCell (p := ⟨w.heap.size + 3, 5, none⟩) (.inl (by simp)) (.string sj.b.s))
          have hset := Lib.hid (set6 X3.out (.int .i64 sj.n) (.bool sj.h) (.int .i64 sj.a.n) (.string sj.a.s) (.int .i64 sj.b.n) (.string sj.b.s))
          clear h0 hHeld hHeld2 hHeld3 hHeld4
          go_wp2
          go_roundw
          case rel => exact ⟨j + 1, by go_num, by omega, ⟨sj, hset.out, HJ.out⟩, HCX.out.trans hfin.out (by simp)⟩
          case measure => simp [intOf]; omega
        · have d2 : decide ((j : Int) < (nl : Int)) = false := by simp; omega
          have HE := Lib.hid (show l.take j = l from List.take_of_length_le (by have := HNL.out; omega))
          go_wp2
          refine ret_stat rfl rfl rfl (set6 X2.out _ _ _ _ _ _) ⟨s, rfl, ?_, by have := HIS.out; rw [HE.out] at this; exact this⟩
          exact (((((HCW2.out.setCell (.inr (by dsimp only; omega)) _).setCell (.inr (by dsimp only; omega)) _).setCell (.inr (by dsimp only; omega)) _).setCell (.inr (by dsimp only; omega)) _).setCell (.inr (by dsimp only; omega)) _).setCell (.inr (by dsimp only; omega)) _

end Go.Proofs.Ytgfjmbjpikcffaa
