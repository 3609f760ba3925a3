/- Contract of the reference's Leaves. -/
import Derived.Test.YtfdmbpfpdijpdaaRl
namespace Go.Proofs.Ytfdmbpfpdijpdaa
open Go.RowKit
set_option linter.unusedVariables false

theorem cellsL {w : World} {g : Nat} {T : TypeId} {a b c d : Value} (h : w.heap[g]? = some (.cells #[a, b, c, d] T (0, 0))) : w.cell? ⟨g, 0, none⟩ = some a ∧ w.cell? ⟨g, 1, none⟩ = some b ∧ w.cell? ⟨g, 2, none⟩ = some c ∧ w.cell? ⟨g, 3, none⟩ = some d ∧ ∀ i, w.frozen? ⟨g, i, none⟩ = false := by
  obtain ⟨h1, h2, h3, h4⟩ := cells4 h
  exact ⟨h1, h2, h3, h4, fun i => by simp [World.frozen?, h]⟩

set_option maxRecDepth 100000 in
set_option maxHeartbeats 4000000 in
theorem rleaves_any (sv : Value) (l : List F) (w : World) (hS : SeenF w sv l) (hl : l.length ≤ 1000000) (hw : ∀ f ∈ l, f.c ≤ 9223372036854775807) :
    Calls Try.prog 24 #[sv] w fun e w' => ∃ v, e = .returned v ∧ SeenL w' v (leavesL l) ∧ Chg [] w w' := by
  obtain ⟨i0, hi, hz0, hz1, hz2⟩ := info_leaf
  obtain ⟨ao, cap, rfl, hc1, hc2⟩ := hS.shape
  have HS := Lib.hid hS; have HW := Lib.hid hw
  clear hS hw
  obtain ⟨n, hn⟩ : ∃ n, n = l.length := ⟨_, rfl⟩
  rw [← hn] at hc1 hl HS ⊢
  have HN := Lib.hid hn
  clear hn
  go_enter Try.func24, Try.ntmps24
  go_wp2_with fail
  refine (rparents_any _ l w HS.out (by rw [← HN.out]; omega) HW.out).mono ?_
  rintro e w1 ⟨v1, rfl, hp1, hc⟩
  obtain ⟨po, pc, rfl, hpc1, hpc2⟩ := hp1.shape
  rw [parents_length, ← HN.out] at hpc1 hp1 ⊢
  have HP := Lib.hid hp1; have HC := Lib.hid hc
  clear hp1 hc
  go_wp2
  go_loopw [4, 5] (fun lv x w' => ∃ k : Nat, x = .int .i64 (k : Int) ∧ k ≤ n ∧ Chg [] w1 w' ∧ w'.ownsRow w1.heap.size 52 4 lv (leavesTo l k).length ((leavesTo l k).flatMap L.cs)) (fun _ x w' => n - (intOf x).toNat)
  case atStart => exact ⟨0, rfl, Nat.zero_le _, Chg.refl _ _, ⟨rfl, .inl ⟨rfl, rfl⟩⟩⟩
  case round =>
    obtain ⟨i, rfl, hk, hc, ho⟩ := hrel
    obtain ⟨wq, rfl⟩ : ∃ wq, wq = wr := ⟨_, rfl⟩
    obtain ⟨ao5, cap5, rfl⟩ := own_shape ho
    have HC1 := Lib.hid hc; have HO := Lib.hid ho
    clear hc ho
    by_cases hlt : i < n
    · obtain ⟨gs, os, rfl, hss⟩ := SeenF.get HS.out (by omega) HN.out.symm
      obtain ⟨gp, op, rfl, hpp⟩ := SeenI.get HP.out (by omega) (by rw [parents_length, ← HN.out])
      have HSS := Lib.hid (show ∀ j, j < n → wq.cell? ⟨gs, os + j * 4 + 1, none⟩ = some (.int .i64 (l.getD j default).r) from fun j hj => HC1.out.cell (HC.out.cell (hss j hj).2.1 (by simp)) (by simp))
      have HPP := Lib.hid (show ∀ j, j < n → wq.cell? ⟨gp, op + j, none⟩ = some (.int .i64 ((parents l).getD j 0)) from fun j hj => HC1.out.cell (hpp j hj) (by simp))
      obtain ⟨kd, hkd⟩ : ∃ kd, kd = (l.getD i default).k := ⟨_, rfl⟩
      have a3 : wq.cell? ⟨gs, os + i * 4 + 2, none⟩ = some (.int .i64 kd) := by rw [hkd]; exact HC1.out.cell (HC.out.cell (hss i hlt).2.2.1 (by simp)) (by simp)
      obtain ⟨ri, hri⟩ : ∃ x, x = (rls l).getD i 0 := ⟨_, rfl⟩
      obtain ⟨di, hdi⟩ : ∃ x, x = (dls l).getD i 0 := ⟨_, rfl⟩
      have HLA := Lib.hid (show leavesTo l (i + 1) = leavesTo l i ++ (if kd ≠ 0 then [⟨i, ri, di, kd⟩] else []) by rw [leavesTo_succ]; unfold leafAt; rw [hkd, hri, hdi])
      have HRI := Lib.hid hri; have HDI := Lib.hid hdi
      clear hss hpp hkd hri hdi
      by_cases hk0 : kd = 0
      · have e0 : (kd == 0) = true := by simp [hk0]
        have E := Lib.hid (show leavesTo l (i + 1) = leavesTo l i by rw [HLA.out, if_neg (by simp [hk0]), List.append_nil])
        clear hk0
        go_wp2
        go_roundw
        case rel => exact ⟨i + 1, by go_num, by omega, HC1.out, by rw [E.out]; exact HO.out⟩
        case measure => simp [intOf]; omega
      · have e0 : (kd == 0) = false := by simp [hk0]
        have E := Lib.hid (show leavesTo l (i + 1) = leavesTo l i ++ [⟨i, ri, di, kd⟩] by rw [HLA.out, if_pos hk0])
        clear hk0
        have hml := leavesTo_le l i
        obtain ⟨m, hm⟩ : ∃ m, m = (leavesTo l i).length := ⟨_, rfl⟩
        obtain ⟨Y, hY⟩ : ∃ Y, Y = (leavesTo l i).flatMap L.cs := ⟨_, rfl⟩
        rw [← hm] at hml
        rw [← hm, ← hY] at HO
        rw [← hm]
        have HM := Lib.hid hm; have HY := Lib.hid hY
        have HM2 := Lib.hid (show m + 1 ≤ maxLen by unfold maxLen; omega)
        have HM3 := Lib.hid (show (m + 1) * 32 ≤ 140737488355328 by omega)
        clear hm hY
        have hgs : gs < wq.heap.size := World.block_lt_of_cell? wq _ a3
        have hgp : gp < wq.heap.size := World.block_lt_of_cell? wq _ (HPP.out i hlt)
        have HB := Lib.hid (show w1.heap.size ≤ wq.heap.size from HC1.out.size)
        have HRL := Lib.hid (own_lt HO.out)
        go_wp2
        go_loopw [7] (fun y wx => ∃ (k rx dx : Int), y = .int .i64 k ∧ wx.heap[wq.heap.size]? = some (.cells #[.int .i64 (i : Int), .int .i64 rx, .int .i64 dx, .int .i64 kd] 52 (0, 0)) ∧ Chg [] wq wx ∧ -1 ≤ k ∧ k ≤ i ∧ 0 ≤ rx ∧ 0 ≤ dx ∧ rx + k ≤ i ∧ dx + k ≤ i ∧ rx + cat (rls l) k = ri ∧ dx + cat (dls l) k = di) (fun y _ => (intOf y + 1).toNat)
        case atStart =>
          refine ⟨(i : Int), 0, 0, rfl, ?_, ?_, by omega, by omega, by omega, by omega, by omega, by omega, ?_, ?_⟩
          · exact heap_alloc_new wq _
          · exact (Chg.refl [] wq).alloc _
          · rw [HRI.out]; unfold cat; rw [if_neg (by omega)]; simp
          · rw [HDI.out]; unfold cat; rw [if_neg (by omega)]; simp
        case round =>
          obtain ⟨k, rx, dx, rfl, hblk, hcx, hk1, hk2, hr0, hd0, hr1, hd1, hr, hd⟩ := hrel
          have HBK := Lib.hid hblk; have HCX := Lib.hid hcx
          obtain ⟨c0, c1, c2, c3, cf⟩ := cellsL hblk
          have cf1 := cf 1
          have cf2 := cf 2
          obtain ⟨g, hg⟩ : ∃ g, g = wq.heap.size := ⟨_, rfl⟩
          rw [← hg] at HBK c0 c1 c2 c3 cf1 cf2 ⊢
          have hgs2 : gs ≠ g := by omega
          have hgp2 : gp ≠ g := by omega
          have HG := Lib.hid hg
          clear hblk hcx cf hg
          by_cases hkn : k = -1
          · subst hkn
            have hr' : rx = ri := by rw [← hr]; simp [cat]
            have hd' : dx = di := by rw [← hd]; simp [cat]
            subst hr' hd'
            have HOW := Lib.hid (own_chg HO.out HCX.out (by simp))
            have HBX := Lib.hid (show w1.heap.size ≤ wr.heap.size from Nat.le_trans HB.out HCX.out.size)
            clear hr hd
            go_wp2_with (first
              | (at_builtin; refine wpList_append_at _ rfl (.tmp 56) (.tmp 58) _ rfl w1.heap.size 52 i0 (.agg #[.int .i64 0, .int .i64 0, .int .i64 0, .int .i64 0]) 4 32 Try.underlying49 hi hz0 hz1 hz2 rfl (by omega) (.slice ao5 m cap5) m Y rfl (HOW.out.alloc _) ⟨wr.heap.size, 0, none⟩ 1 1 (L.cs ⟨i, rx, dx, kd⟩) rfl rfl (new_cells (C := #[.int .i64 (i : Int), .int .i64 rx, .int .i64 dx, .int .i64 kd]) _ rfl) (L.one _) HM2.out HM3.out (le_alloc HBX.out _) ?_; intro v2 w2 hown2 hg2 hat2; obtain ⟨a2, c2', rfl⟩ := own_shape hown2; have HO2 := Lib.hid hown2; have HC2 := Lib.hid (((HC1.out.trans HCX.out (by simp)).alloc _).grown hg2 (fun k hk => .inr (own_ge HO.out k hk))); clear hown2 hg2 hat2)
              | fail)
            go_roundw
            case rel => exact ⟨i + 1, by go_num, by omega, HC2.out, by rw [E.out, List.length_append, List.flatMap_append, ← HM.out, ← HY.out]; simpa using HO2.out⟩
            case measure => simp [intOf]; omega
          · obtain ⟨kn, rfl⟩ : ∃ kn : Nat, k = kn := ⟨k.toNat, by omega⟩
            have hknn : kn < n := by omega
            have b2 := HCX.out.cell (HSS.out kn hknn) (by simp)
            have bp := HCX.out.cell (HPP.out kn hknn) (by simp)
            obtain ⟨x, hx⟩ : ∃ x, x = (l.getD kn default).r := ⟨_, rfl⟩
            obtain ⟨p, hp⟩ : ∃ p, p = (parents l).getD kn 0 := ⟨_, rfl⟩
            have hpp : p = -1 ∨ 0 ≤ p ∧ p < kn := by
              rw [hp]
              exact parents_lt (l := l) (j := kn) (by rw [List.getD, List.getElem?_eq_getElem (by rw [parents_length, ← HN.out]; exact hknn)]; rfl)
            have ha := cntL_at (repB l) (parents l) kn (by rw [parents_length, ← HN.out]; exact hknn) (fun j x => parents_lt)
            have hb := cntL_at (optB l) (parents l) kn (by rw [parents_length, ← HN.out]; exact hknn) (fun j x => parents_lt)
            rw [← hp] at ha hb
            have hca : cat (rls l) (kn : Int) = cat (rls l) p + (if repB l kn then 1 else 0) := by
              have e : cat (rls l) (kn : Int) = (rls l).getD kn 0 := by unfold cat; rw [if_neg (by omega)]; rfl
              rw [e]; exact ha
            have hcb : cat (dls l) (kn : Int) = cat (dls l) p + (if optB l kn then 1 else 0) := by
              have e : cat (dls l) (kn : Int) = (dls l).getD kn 0 := by unfold cat; rw [if_neg (by omega)]; rfl
              rw [e]; exact hb
            have hrb : repB l kn = decide (x = 2) := by unfold repB; rw [hx]
            have hob : optB l kn = decide (x ≠ 0) := by unfold optB; rw [hx]
            rw [hrb] at hca
            rw [hob] at hcb
            rw [← hx] at b2
            rw [← hp] at bp
            clear hx hp ha hb hrb hob
            have hw3 : x = 2 ∨ (x ≠ 2 ∧ x ≠ 0) ∨ x = 0 := by omega
            rcases hw3 with h | ⟨h, h'⟩ | h
            · have e1 : (x == 2) = true := by simp [h]
              have e2 : (x != 0) = true := by simp [h]
              have hca2 := Lib.hid (show cat (rls l) (kn : Int) = cat (rls l) p + 1 by rw [hca, h]; rfl)
              have hcb2 := Lib.hid (show cat (dls l) (kn : Int) = cat (dls l) p + 1 by rw [hcb, h]; rfl)
              have HR := Lib.hid hr; have HD := Lib.hid hd
              clear h hca hcb hr hd
              go_wp2
              go_roundw
              case rel =>
                refine ⟨p, rx + 1, dx + 1, rfl, ?_, ?_, by omega, by omega, by omega, by omega, by omega, by omega, by have := HR.out; have := hca2.out; omega, by have := HD.out; have := hcb2.out; omega⟩
                · exact heap_set (heap_set HBK.out _) _
                · exact (HCX.out.setCell (.inr (Nat.le_of_eq HG.out.symm)) _).setCell (.inr (Nat.le_of_eq HG.out.symm)) _
              case measure => simp [intOf]; omega
            · have e1 : (x == 2) = false := by simp [h]
              have e2 : (x != 0) = true := by simp [h']
              have hca2 := Lib.hid (show cat (rls l) (kn : Int) = cat (rls l) p by rw [hca]; simp [h])
              have hcb2 := Lib.hid (show cat (dls l) (kn : Int) = cat (dls l) p + 1 by rw [hcb]; simp [h'])
              have HR := Lib.hid hr; have HD := Lib.hid hd
              clear h h' hca hcb hr hd
              go_wp2
              go_roundw
              case rel =>
                refine ⟨p, rx, dx + 1, rfl, ?_, ?_, by omega, by omega, by omega, by omega, by omega, by omega, by have := HR.out; have := hca2.out; omega, by have := HD.out; have := hcb2.out; omega⟩
                · exact heap_set HBK.out _
                · exact HCX.out.setCell (.inr (Nat.le_of_eq HG.out.symm)) _
              case measure => simp [intOf]; omega
            · have e1 : (x == 2) = false := by simp [h]
              have e2 : (x != 0) = false := by simp [h]
              have hca2 := Lib.hid (show cat (rls l) (kn : Int) = cat (rls l) p by rw [hca]; simp [h])
              have hcb2 := Lib.hid (show cat (dls l) (kn : Int) = cat (dls l) p by rw [hcb]; simp [h])
              have HR := Lib.hid hr; have HD := Lib.hid hd
              clear h hca hcb hr hd
              go_wp2
              go_roundw
              case rel => exact ⟨p, rx, dx, rfl, HBK.out, HCX.out, by omega, by omega, by omega, by omega, by omega, by omega, by have := HR.out; have := hca2.out; omega, by have := HD.out; have := hcb2.out; omega⟩
              case measure => simp [intOf]; omega
    · have ei : i = n := by omega
      have E := Lib.hid (show leavesTo l i = leavesL l by rw [ei, HN.out]; rfl)
      clear ei
      go_wp2
      go_ret
      exact ⟨_, rfl, by rw [← E.out]; exact SeenL.own HO.out rfl, HC.out.trans HC1.out (by simp)⟩

end Go.Proofs.Ytfdmbpfpdijpdaa
