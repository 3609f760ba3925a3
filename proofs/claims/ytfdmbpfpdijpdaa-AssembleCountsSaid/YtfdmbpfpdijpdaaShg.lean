/- shred: the way to each field: the walk. -/
import Derived.Test.YtfdmbpfpdijpdaaShp
namespace Go.Proofs.Ytfdmbpfpdijpdaa
open Go.RowKit
set_option linter.unusedVariables false
set_option linter.unusedSimpArgs false

set_option maxRecDepth 100000 in
set_option maxHeartbeats 4000000 in
theorem waysOf_any (sv : Value) (l : List F) (w : World) (hS : SeenF w sv l) (h1 : 1 ≤ l.length) (hl : l.length ≤ 1000) (hw : ∀ f ∈ l, f.c ≤ 9223372036854775807) (hr : ∀ f ∈ l, f.r = 0 ∨ f.r = 1 ∨ f.r = 2) :
    Calls Try.prog 59 #[sv] w fun e w' => ∃ x, e = .returned x ∧ Chg [] w w' ∧ WaysAt w' (wayTo l l.length) x := by
  obtain ⟨ii, hii, hiz0, hiz1, hiz2⟩ := info_int
  obtain ⟨i1, ji, jz0, jz1, jz2⟩ := info_way
  obtain ⟨ao, cap, rfl, hc1, hc2⟩ := hS.shape
  have HS := Lib.hid hS; have HW := Lib.hid hw; have HR := Lib.hid hr
  clear hS hw hr
  obtain ⟨n, hn⟩ : ∃ n, n = l.length := ⟨_, rfl⟩
  rw [← hn] at hc1 hl h1 HS ⊢
  have HN := Lib.hid hn
  clear hn
  have hnm : n ≤ maxLen := by unfold maxLen; omega
  go_enter Try.func59, Try.ntmps59
  go_wp2_with (at_make; refine wpList_make_full _ rfl _ _ 104 rfl w.heap.size 109 i1 (.agg #[.slice none 0 0, .string ByteArray.empty]) 2 Try.underlying104 ji jz0 jz1 .i64 .i64 _ _ n rfl rfl rfl rfl ?c1 ?c2 (Nat.le_refl _) ?_)
  case c1 => rw [jz2]; omega
  case c2 => exact hnm
  intro w1 hown1 hg1
  have hlt1 : w.heap.size < w1.heap.size := (hown1.lt w.heap.size rfl).2
  rw [cells_ways] at hown1
  have HB1 := Lib.hid (blk_of_own2 hown1 rfl)
  have HC1 := Lib.hid ((Chg.refl [] w).grown hg1 (by simp))
  clear hown1 hg1
  obtain ⟨gw, hgw⟩ : ∃ g, g = w.heap.size := ⟨_, rfl⟩
  rw [← hgw] at HB1 hlt1 ⊢
  have HGW := Lib.hid hgw
  clear hgw
  go_wp2_with (at_make; refine wpList_make_full _ rfl _ _ 22 rfl w1.heap.size 3 ii (.int .i64 0) 1 Try.underlying22 hii hiz0 hiz1 .i64 .i64 _ _ n rfl rfl rfl rfl ?c1 ?c2 (Nat.le_refl _) ?_)
  case c1 => rw [hiz2]; omega
  case c2 => exact hnm
  intro w2 hown2 hg2
  have hlt2 : w1.heap.size < w2.heap.size := (hown2.lt w1.heap.size rfl).2
  rw [cells_zeroi] at hown2
  have HH2 := Lib.hid (blkI_of_own hown2 rfl)
  have HC2 := Lib.hid ((Chg.refl [] w1).grown hg2 (by simp))
  clear hown2 hg2
  obtain ⟨gh, hgh⟩ : ∃ g, g = w1.heap.size := ⟨_, rfl⟩
  rw [← hgh] at HH2 hlt1 hlt2 ⊢
  have HGH := Lib.hid hgh
  clear hgh
  go_wp2_with fail
  (with_reducible refine (parents_any _ l w2 (HS.out.keep (HC1.out.trans HC2.out (by simp))) (by rw [← HN.out]; omega) HW.out).mono ?_)
  rw [← HN.out]
  rintro e w3 ⟨rfl, hb3, hk3⟩
  have HP3 := Lib.hid hb3; have HC3 := Lib.hid hk3
  have hlt3 : w2.heap.size < w3.heap.size := hb3.lt
  clear hb3 hk3
  go_wp2
  obtain ⟨gp, hgp⟩ : ∃ gp, gp = w2.heap.size := ⟨_, rfl⟩
  rw [← hgp] at HP3 hlt2 hlt3 ⊢
  clear hgp
  have HPL := Lib.hid (parents_length l)
  have HC13 := Lib.hid ((HC1.out.trans HC2.out (by simp)).trans HC3.out (by simp))
  obtain ⟨lo, hlo⟩ : ∃ z, z = w3.heap.size := ⟨_, rfl⟩
  have hL3 : gw < lo ∧ gh < lo ∧ gp < lo ∧ gw ≠ gp ∧ gh ≠ gp := by omega
  have hgww : w.heap.size ≤ gw := by rw [HGW.out]; exact Nat.le_refl _
  have HLO := Lib.hid hlo
  clear hlo
  go_loopw [17] (fun x w' => ∃ (i : Nat) (R : List (List Stp × Value)) (H : List Int), x = .int .i64 (i : Int) ∧ i ≤ n ∧ BlkI w' gp (parents l) ∧ lo ≤ w'.heap.size ∧ WYJ l w w' gw gh lo n i R H) (fun x _ => n - (intOf x).toNat)
  case atStart =>
    refine ⟨0, List.replicate n ([], .slice none 0 0), List.replicate n 0, rfl, Nat.zero_le _, HP3.out, by rw [HLO.out]; exact Nat.le_refl _, ⟨by simp, by simp [wayTo], (HC2.out.trans HC3.out (by simp)).heap HB1.out (by simp), HH2.out.chg HC3.out (by simp), by simp, fun g hg => by simp [List.getD, List.getElem?_replicate, hg, kidsU_zero], fun p hp => ?_, fun j _ hj => by rw [List.getElem?_replicate, if_pos hj], HC13.out, by omega⟩⟩
    have := List.eq_of_mem_replicate hp
    subst this
    exact World.ownsRow_nil _ _ _ _
  case round =>
    obtain ⟨i, R, H, rfl, hin, hbp, hlo3, hJ⟩ := hrel
    have HJ := Lib.hid hJ; have HBP := Lib.hid hbp
    by_cases hlt : i < n
    · obtain ⟨p, hp⟩ : ∃ p, (parents l)[i]? = some p := ⟨_, List.getElem?_eq_getElem (by rw [HPL.out, ← HN.out]; exact hlt)⟩
      have hpr := parents_lt hp
      have hpc : wr.cell? ⟨gp, i, none⟩ = some (.int .i64 p) := hbp.cell hp
      have HPD := Lib.hid (show (parents l).getD i 0 = p by rw [List.getD, hp]; rfl)
      clear hp hJ hbp
      by_cases hp1 : p = -1
      · subst hp1
        clear hpr
        go_wp2
        go_roundw
        case rel => exact ⟨i + 1, R, H, by go_num, by omega, HBP.out, hlo3, HJ.out.skip HPD.out (by omega)⟩
        case measure => simp [intOf]; omega
      · obtain ⟨q, rfl⟩ : ∃ q : Nat, p = q := ⟨p.toNat, by omega⟩
        have hqi : q < i := by omega
        clear hpr hp1
        obtain ⟨⟨WG, vg⟩, hRq⟩ : ∃ x, R[q]? = some x := ⟨_, List.getElem?_eq_getElem (by rw [HJ.out.lr]; omega)⟩
        have hWG : (wayTo l i).getD q [] = WG := by
          have h := congrArg (·[q]?) HJ.out.fs
          simp only [List.getElem?_map, hRq] at h
          rw [List.getElem?_append_left (by rw [wayTo_len]; exact hqi)] at h
          rw [List.getD, ← h]; rfl
        have hog := HJ.out.ow _ (List.mem_of_getElem? hRq)
        simp only at hog
        obtain ⟨vgo, vgc, rfl⟩ := own_shape hog
        have hbwr := HJ.out.bw
        have x0 : wr.cell? ⟨gw, q * 2, none⟩ = some (.slice vgo WG.length vgc) := by
          rw [cell_of_row wr gw _ _ _ _ hbwr]
          have h := flat_get encW_len R q _ 0 _ hRq rfl
          simpa using h
        have x1 : wr.cell? ⟨gw, q * 2 + 1, none⟩ = some (.string (str (sgs WG))) := by
          rw [cell_of_row wr gw _ _ _ _ hbwr]
          have h := flat_get encW_len R q _ 1 _ hRq rfl
          simpa using h
        have z0 : wr.cell? ⟨gw, i * 2, none⟩ = some (.slice none 0 0) := by
          rw [cell_of_row wr gw _ _ _ _ hbwr]
          have h := flat_get encW_len R i _ 0 _ (HJ.out.nz i (Nat.le_refl _) hlt) rfl
          simpa using h
        have z1 : wr.cell? ⟨gw, i * 2 + 1, none⟩ = some (.string (str [])) := by
          rw [cell_of_row wr gw _ _ _ _ hbwr]
          have h := flat_get encW_len R i ([], .slice none 0 0) 1 (.string (str [])) (HJ.out.nz i (Nat.le_refl _) hlt) rfl
          simpa using h
        obtain ⟨hd, hhd⟩ : ∃ d, d = (kidsU (parents l) i q).length := ⟨_, rfl⟩
        have hHq : H[q]? = some (hd : Int) := by
          have h := HJ.out.hh q (by omega)
          rw [← hhd] at h
          have hl2 : q < H.length := by rw [HJ.out.hl]; omega
          rw [List.getD, List.getElem?_eq_getElem hl2] at h
          rw [List.getElem?_eq_getElem hl2]
          simpa using h
        have hdi : hd ≤ i := by rw [hhd]; exact kidsU_len _ _ _
        have x2 := HJ.out.bh.cell hHq
        have f2 := HJ.out.bh.frozen q
        obtain ⟨gs, off, rfl, hcs⟩ := SeenF.get HS.out (by omega) HN.out.symm
        obtain ⟨-, x3', -, -⟩ := hcs i hlt
        have x3 := HJ.out.cw.cell x3' (by simp)
        have hgs : gs < w.heap.size := World.block_lt_of_cell? w _ x3'
        obtain ⟨r, hrr⟩ : ∃ r, r = (l.getD i default).r := ⟨_, rfl⟩
        rw [← hrr] at x3
        have HRR := Lib.hid (show r = 0 ∨ r = 1 ∨ r = 2 by rw [hrr]; exact HR.out _ (by rw [List.getD, List.getElem?_eq_getElem (by rw [← HN.out]; exact hlt)]; exact List.getElem_mem _))
        have hggw : gw < wr.heap.size := Go.lt_of_block hbwr
        have hghw : gh < wr.heap.size := HJ.out.bh.lt
        obtain ⟨nl, hnl⟩ : ∃ z, z = WG.length := ⟨_, rfl⟩
        have hnle : nl ≤ i := by rw [hnl]; exact wayTo_short2 hWG
        obtain ⟨sg, hsg⟩ : ∃ z, z = str (sgs WG) := ⟨_, rfl⟩
        rw [← hnl] at x0 hog
        rw [← hsg] at x1
        obtain ⟨Ad, hAd⟩ : ∃ z, z = (wr.alloc (.cells #[.slice vgo nl vgc, .string sg] 109)).drew := ⟨_, rfl⟩
        obtain ⟨bw, hbwE⟩ : ∃ z, z = wr.heap.size := ⟨_, rfl⟩
        have hcA : Chg [] wr Ad := by rw [hAd]; exact ((Chg.refl [] wr).alloc _).drew
        have hAs : Ad.heap.size = bw + 1 := by rw [hAd, hbwE]; show (wr.heap.push _).size = _; simp
        have hbwc : Ad.heap[bw]? = some (.cells #[.slice vgo nl vgc, .string sg] 109 (0, 0)) := by rw [hAd, hbwE]; exact heap_alloc_new wr _
        have y0 : Ad.cell? ⟨bw, 0, none⟩ = some (.slice vgo nl vgc) := by rw [cell_of_row Ad bw 0 _ _ _ hbwc]; rfl
        have y1 : Ad.cell? ⟨bw, 1, none⟩ = some (.string sg) := by rw [cell_of_row Ad bw 1 _ _ _ hbwc]; rfl
        have y2 := hcA.cell x2 (by simp)
        have y3 := hcA.cell x3 (by simp)
        let SS : Bool → Bool → World → Prop := fun _ _ w' => w'.cell? ⟨bw, 0, none⟩ = some (.slice vgo nl vgc) ∧ w'.cell? ⟨bw, 1, none⟩ = some (.string sg) ∧ w'.cell? ⟨gh, q, none⟩ = some (.int .i64 (hd : Int)) ∧ w'.cell? ⟨gs, off + i * 4 + 1, none⟩ = some (.int .i64 r)
        have HLE := Lib.hid (show ¬ 9223372036854775807 < sg.size + (Utf8.encode ((sgn r : Nat) : Int)).size by rw [hsg, enc_sgn, str_size, str_size, sgs_length, ← hnl]; simp; omega)
        have HBL := Lib.hid (show bw < Ad.heap.size ∧ gh < Ad.heap.size ∧ gs < Ad.heap.size ∧ gw < Ad.heap.size by omega)
        have HNE := Lib.hid (show bw ≠ gw ∧ gh ≠ gw ∧ gs ≠ gw by have := HJ.out.gl; omega)
        have HSG := Lib.hid (show ∀ (L1 L2 : Array Bool) wa wb T, SL SS 30 30 L1 wa → Chg T wa wb → (∀ q ∈ T, Ad.heap.size ≤ q) → SL SS 30 30 L2 wb from fun L1 L2 wa wb T h hc hT => by
          have hn : ∀ z, z < Ad.heap.size → z ∉ T := fun z hz hm => by have := hT z hm; omega
          exact ⟨hc.cell h.1 (hn _ HBL.out.1), hc.cell h.2.1 (hn _ HBL.out.1), hc.cell h.2.2.1 (hn _ HBL.out.2.1), hc.cell h.2.2.2 (hn _ HBL.out.2.2.1)⟩)
        have HSC := Lib.hid (show ∀ (L1 L2 : Array Bool) wa wb, SL SS 30 30 L1 wa → Chg [] wa wb → SL SS 30 30 L2 wb from fun L1 L2 wa wb h hc => HSG.out L1 L2 wa wb [] h hc (by simp))
        have HSC9 := Lib.hid (show ∀ (L1 L2 : Array Bool) wa, SL SS 30 30 L1 wa → ∀ wb, Chg [gw] wa wb → SL SS 30 30 L2 wb from fun L1 L2 wa h wb hc => ⟨hc.cell h.1 (by simpa using HNE.out.1), hc.cell h.2.1 (by simpa using HNE.out.1), hc.cell h.2.2.1 (by simpa using HNE.out.2.1), hc.cell h.2.2.2 (by simpa using HNE.out.2.2)⟩)
        have hHeld0 : SL SS 30 30 (Array.replicate 24 false) Ad := ⟨y0, y1, y2, y3⟩
        have HCA := Lib.hid (Chg.refl [] Ad)
        have HSEE := Lib.hid (seenI_of_own (own_chg hog hcA (by simp)) (by rw [plc_length, hnl]))
        have HCL := Lib.hid (show ∀ wz, Chg [] Ad wz → Calls Try.prog 64 #[.slice vgo nl vgc] wz fun e w' => ∃ x, e = .returned x ∧ Chg [] wz w' ∧ w'.ownsRow wz.heap.size 3 1 x nl (iv (plc WG)) from fun wz hc => by
          have h := clonei_any _ (plc WG) wz (HSEE.out.keep hc) (by rw [plc_length, ← hnl]; omega)
          rw [plc_length, ← hnl] at h
          exact h)
        have HSI := Lib.hid (fun wz => sign_any14 r wz HRR.out)
        have HBW := Lib.hid (hcA.heap hbwr (by simp))
        have HZ0 := Lib.hid (show ∀ wz, Chg [] Ad wz → wz.cell? ⟨gw, i * 2, none⟩ = some (.slice none 0 0) from fun wz hc => hc.cell (hcA.cell z0 (by simp)) (by simp))
        have HZ1 := Lib.hid (show ∀ wz, Chg [] Ad wz → wz.cell? ⟨gw, i * 2 + 1, none⟩ = some (.string (str [])) from fun wz hc => hc.cell (hcA.cell z1 (by simp)) (by simp))
        have HC0 := Lib.hid hcA
        have HADE := Lib.hid hAd; have HBWE := Lib.hid hbwE; have HRQ := Lib.hid hRq; have HWG := Lib.hid hWG; have HHD := Lib.hid hhd; have HHQ := Lib.hid hHq; have HRE := Lib.hid hrr; have HNL := Lib.hid hnl; have HSGE := Lib.hid hsg
        have hpm1 : ¬ ((q : Int) = -1) := by omega
        have hqn : q < n := by omega
        clear hAd hbwE hcA hAs hbwc y0 y1 y2 y3 z0 z1 hbwr hog hRq hWG hhd hHq hcs x3' hrr hnl hsg
        go_upto_region 8 with fail
        rename_i K8 hK8
        refine region_L SS 30 30 (by kernel_rfl) ?_
        rw [← HBWE.out, ← HADE.out]
        clear x0 x1 x2 x3
        refine wpAnyL_take (i := 0) (oi := _) (v := ?_) false rfl (by kernel_rfl) (fun _ _ _ h => h) (Or.inl ⟨by rfl, ?_⟩) hHeld0 (fun hHeld1 => ?_)
        rotate_left
        · rintro w ⟨b1, b2, hok, hSw⟩; go_simp; (try with_reducible rfl)
        clear hHeld0
        try simp only [List.getElem_toArray, List.getElem_cons_succ, List.getElem_cons_zero, Act.put, List.setIfInBounds_toArray, List.set_cons_zero, List.set_cons_succ]
        refine wpAnyL_take (i := 1) (oi := _) (v := ?_) false rfl (by kernel_rfl) (fun _ _ _ h => h) (Or.inl ⟨by rfl, ?_⟩) hHeld1 (fun hHeld2 => ?_)
        rotate_left
        · rintro w ⟨b1, b2, hok, hSw⟩; go_simp; (try with_reducible rfl)
        clear hHeld1
        try simp only [List.getElem_toArray, List.getElem_cons_succ, List.getElem_cons_zero, Act.put, List.setIfInBounds_toArray, List.set_cons_zero, List.set_cons_succ]
        refine wpAnyL_take (i := 2) (oi := _) (v := ?_) false rfl (by kernel_rfl) (fun _ _ _ h => h) (Or.inl ⟨by rfl, ?_⟩) hHeld2 (fun hHeld3 => ?_)
        rotate_left
        · rintro w ⟨b1, b2, hok, hSw⟩; go_simp; (try with_reducible rfl)
        clear hHeld2
        try simp only [List.getElem_toArray, List.getElem_cons_succ, List.getElem_cons_zero, Act.put, List.setIfInBounds_toArray, List.set_cons_zero, List.set_cons_succ]
        refine wpAnyL_take (i := 3) (oi := _) (v := ?_) false rfl (by kernel_rfl) (fun _ _ _ h => h) (Or.inl ⟨by rfl, ?_⟩) hHeld3 (fun hHeld4 => ?_)
        rotate_left
        · rintro w ⟨b1, b2, hok, hSw⟩; have h0 := hSw.1; go_simp; (try with_reducible rfl)
        clear hHeld3
        try simp only [List.getElem_toArray, List.getElem_cons_succ, List.getElem_cons_zero, Act.put, List.setIfInBounds_toArray, List.set_cons_zero, List.set_cons_succ]
        refine wpAnyL_take (i := 5) (oi := _) (v := ?_) false rfl (by kernel_rfl) (fun _ _ _ h => h) (Or.inl ⟨by rfl, ?_⟩) hHeld4 (fun hHeld5 => ?_)
        rotate_left
        · rintro w ⟨b1, b2, hok, hSw⟩; go_simp; (try with_reducible rfl)
        clear hHeld4
        try simp only [List.getElem_toArray, List.getElem_cons_succ, List.getElem_cons_zero, Act.put, List.setIfInBounds_toArray, List.set_cons_zero, List.set_cons_succ]
        refine wpAnyL_take (i := 6) (oi := _) (v := ?_) false rfl (by kernel_rfl) (fun _ _ _ h => h) (Or.inl ⟨by rfl, ?_⟩) hHeld5 (fun hHeld6 => ?_)
        rotate_left
        · rintro w ⟨b1, b2, hok, hSw⟩; go_simp; (try with_reducible rfl)
        clear hHeld5
        try simp only [List.getElem_toArray, List.getElem_cons_succ, List.getElem_cons_zero, Act.put, List.setIfInBounds_toArray, List.set_cons_zero, List.set_cons_succ]
        refine wpAnyL_take (i := 7) (oi := _) (v := ?_) false rfl (by kernel_rfl) (fun _ _ _ h => h) (Or.inl ⟨by rfl, ?_⟩) hHeld6 (fun hHeld7 => ?_)
        rotate_left
        · rintro w ⟨b1, b2, hok, hSw⟩; go_simp; (try with_reducible rfl)
        clear hHeld6
        try simp only [List.getElem_toArray, List.getElem_cons_succ, List.getElem_cons_zero, Act.put, List.setIfInBounds_toArray, List.set_cons_zero, List.set_cons_succ]
        refine wpAnyL_take (i := 8) (oi := _) (v := ?_) false rfl (by kernel_rfl) (fun _ _ _ h => h) (Or.inl ⟨by rfl, ?_⟩) hHeld7 (fun hHeld8 => ?_)
        rotate_left
        · rintro w ⟨b1, b2, hok, hSw⟩; have h0 := hSw.2.2.1; go_simp; (try with_reducible rfl)
        clear hHeld7
        try simp only [List.getElem_toArray, List.getElem_cons_succ, List.getElem_cons_zero, Act.put, List.setIfInBounds_toArray, List.set_cons_zero, List.set_cons_succ]
        refine wpAnyL_take (i := 11) (oi := _) (v := ?_) false rfl (by kernel_rfl) (fun _ _ _ h => h) (Or.inl ⟨by rfl, ?_⟩) hHeld8 (fun hHeld9 => ?_)
        rotate_left
        · rintro w ⟨b1, b2, hok, hSw⟩; go_simp; (try with_reducible rfl)
        clear hHeld8
        try simp only [List.getElem_toArray, List.getElem_cons_succ, List.getElem_cons_zero, Act.put, List.setIfInBounds_toArray, List.set_cons_zero, List.set_cons_succ]
        refine wpAnyL_take (i := 12) (oi := _) (v := ?_) false rfl (by kernel_rfl) (fun _ _ _ h => h) (Or.inl ⟨by rfl, ?_⟩) hHeld9 (fun hHeld10 => ?_)
        rotate_left
        · rintro w ⟨b1, b2, hok, hSw⟩; have h0 := hSw.2.1; go_simp; (try with_reducible rfl)
        clear hHeld9
        try simp only [List.getElem_toArray, List.getElem_cons_succ, List.getElem_cons_zero, Act.put, List.setIfInBounds_toArray, List.set_cons_zero, List.set_cons_succ]
        refine wpAnyL_take (i := 13) (oi := _) (v := ?_) false rfl (by kernel_rfl) (fun _ _ _ h => h) (Or.inl ⟨by rfl, ?_⟩) hHeld10 (fun hHeld11 => ?_)
        rotate_left
        · rintro w ⟨b1, b2, hok, hSw⟩; go_simp; (try with_reducible rfl)
        clear hHeld10
        try simp only [List.getElem_toArray, List.getElem_cons_succ, List.getElem_cons_zero, Act.put, List.setIfInBounds_toArray, List.set_cons_zero, List.set_cons_succ]
        refine wpAnyL_take (i := 14) (oi := _) (v := ?_) false rfl (by kernel_rfl) (fun _ _ _ h => h) (Or.inl ⟨by rfl, ?_⟩) hHeld11 (fun hHeld12 => ?_)
        rotate_left
        · rintro w ⟨b1, b2, hok, hSw⟩; go_simp; (try with_reducible rfl)
        clear hHeld11
        try simp only [List.getElem_toArray, List.getElem_cons_succ, List.getElem_cons_zero, Act.put, List.setIfInBounds_toArray, List.set_cons_zero, List.set_cons_succ]
        refine wpAnyL_take (i := 15) (oi := _) (v := ?_) false rfl (by kernel_rfl) (fun _ _ _ h => h) (Or.inl ⟨by rfl, ?_⟩) hHeld12 (fun hHeld13 => ?_)
        rotate_left
        · rintro w ⟨b1, b2, hok, hSw⟩; go_simp; (try with_reducible rfl)
        clear hHeld12
        try simp only [List.getElem_toArray, List.getElem_cons_succ, List.getElem_cons_zero, Act.put, List.setIfInBounds_toArray, List.set_cons_zero, List.set_cons_succ]
        refine wpAnyL_take (i := 16) (oi := _) (v := ?_) false rfl (by kernel_rfl) (fun _ _ _ h => h) (Or.inl ⟨by rfl, ?_⟩) hHeld13 (fun hHeld14 => ?_)
        rotate_left
        · rintro w ⟨b1, b2, hok, hSw⟩; go_simp; (try with_reducible rfl)
        clear hHeld13
        try simp only [List.getElem_toArray, List.getElem_cons_succ, List.getElem_cons_zero, Act.put, List.setIfInBounds_toArray, List.set_cons_zero, List.set_cons_succ]
        refine wpAnyL_take (i := 17) (oi := _) (v := ?_) false rfl (by kernel_rfl) (fun _ _ _ h => h) (Or.inl ⟨by rfl, ?_⟩) hHeld14 (fun hHeld15 => ?_)
        rotate_left
        · rintro w ⟨b1, b2, hok, hSw⟩; have h0 := hSw.2.2.2; go_simp; (try with_reducible rfl)
        clear hHeld14
        try simp only [List.getElem_toArray, List.getElem_cons_succ, List.getElem_cons_zero, Act.put, List.setIfInBounds_toArray, List.set_cons_zero, List.set_cons_succ]
        refine wpAnyL_ready (rs := [4, 9]) (by kernel_rfl) (by simp) ?_
        refine AllReadyL.cons (o := _) rfl (fun K hK => ?_) ?_
        · go_simp
          go_at_call 64
          (with_reducible refine (HCL.out Ad HCA.out).mono ?_)
          rintro e w1 ⟨cv, rfl, hc1, ho1⟩
          obtain ⟨co, cc, rfl⟩ := own_shape ho1
          refine hK.out _ _ (HSC.out _ _ _ _ hHeld15 hc1) (fun hHeld16 => ?_)
          clear hK K hHeld15
          try simp only [List.getElem_toArray, List.getElem_cons_succ, List.getElem_cons_zero, Act.put, List.setIfInBounds_toArray, List.set_cons_zero, List.set_cons_succ]
          have HOC := Lib.hid ho1
          have HCS := Lib.hid hc1
          have HCB := Lib.hid HCA.out.size
          replace HCA := Lib.hid (HCA.out.trans HCS.out (by simp))
          clear hc1 ho1 HCS
          refine wpAnyL_ready (rs := [9]) (by kernel_rfl) (by simp) ?_
          refine AllReadyL.cons (o := _) rfl (fun K hK => ?_) AllReadyL.nil
          go_simp
          refine hK.out _ _ (HSC.out _ _ _ _ hHeld16 ((Chg.refl [] w1).alloc _)) (fun hHeld17 => ?_)
          clear hK K hHeld16
          try simp only [List.getElem_toArray, List.getElem_cons_succ, List.getElem_cons_zero, Act.put, List.setIfInBounds_toArray, List.set_cons_zero, List.set_cons_succ]
          have HL9 := Lib.hid (show (w1.alloc (.cells #[.int .i64 (hd : Int)] 3)).heap[w1.heap.size]? = some (.cells #[.int .i64 (hd : Int)] 3 (0, 0)) from heap_alloc_new w1 _)
          obtain ⟨g9, hg9⟩ : ∃ g, g = w1.heap.size := ⟨_, rfl⟩
          rw [← hg9] at HL9 ⊢
          clear hg9
          obtain ⟨w2, hw2⟩ : ∃ z, z = w1.alloc (.cells #[.int .i64 (hd : Int)] 3) := ⟨_, rfl⟩
          rw [← hw2] at HL9 hHeld17 ⊢
          have HCS := Lib.hid (show Chg [] w1 w2 by rw [hw2]; exact (Chg.refl [] w1).alloc _)
          clear hw2
          replace HCA := Lib.hid (HCA.out.trans HCS.out (by simp))
          replace HOC := Lib.hid (own_chg HOC.out HCS.out (by simp))
          clear HCS
          refine wpAnyL_ready (rs := [10]) (by kernel_rfl) (by simp) ?_
          refine AllReadyL.cons (o := _) rfl (fun K hK => ?_) AllReadyL.nil
          have hBW := HCA.out.size
          refine step_append_at (by rfl) (.tmp 32) (.tmp 37) 22 (by rfl) Ad.heap.size 3 ii (.int .i64 0) 1 8 Try.underlying22 hii hiz0 hiz1 hiz2 (by rfl) (by decide) (.slice co nl cc) nl (iv (plc WG)) (by rfl) (own_mono HOC.out HCB.out) ⟨g9, 0, none⟩ 1 1 [.int .i64 (hd : Int)] (by rfl) (by rfl) (cells_ofg HL9.out) (by simp [Value.oneCell']) (by unfold maxLen; omega) (by omega) hBW ?_
          intro v10 w3 hown hgrow hat
          obtain ⟨v10o, v10c, rfl⟩ := own_shape hown
          have HCS := Lib.hid (show Chg (Value.slice co nl cc).ownBlock.toList w2 w3 from (Chg.refl _ w2).grown hgrow (fun q hq => .inl (by simp [hq])))
          have HGE := Lib.hid (show ∀ q ∈ (Value.slice co nl cc).ownBlock.toList, Ad.heap.size ≤ q from fun q hq => Nat.le_trans HCB.out (own_ge HOC.out q (by simpa using hq)))
          refine hK.out _ _ (HSG.out _ _ _ _ _ hHeld17 HCS.out HGE.out) (fun hHeld18 => ?_)
          clear hK K hHeld17
          try simp only [List.getElem_toArray, List.getElem_cons_succ, List.getElem_cons_zero, Act.put, List.setIfInBounds_toArray, List.set_cons_zero, List.set_cons_succ]
          replace HCA := Lib.hid (HCA.out.trans HCS.out (fun q hq => .inr (HGE.out q hq)))
          have HOV := Lib.hid hown
          clear hown hgrow hat hBW HCS HGE
          refine wpAnyL_ready (rs := [18]) (by kernel_rfl) (by simp) ?_
          refine AllReadyL.cons (o := _) rfl (fun K hK => ?_) AllReadyL.nil
          go_simp
          go_at_call 92
          (with_reducible refine (HSI.out w3).mono ?_)
          rintro e w9 ⟨rfl, rfl⟩
          refine hK.out _ _ (HSC.out _ _ _ _ hHeld18 (Chg.refl _ _)) (fun hHeld19 => ?_)
          clear hK K hHeld18
          try simp only [List.getElem_toArray, List.getElem_cons_succ, List.getElem_cons_zero, Act.put, List.setIfInBounds_toArray, List.set_cons_zero, List.set_cons_succ]
          refine wpAnyL_take (i := 19) (oi := _) (v := ?_) false rfl (by kernel_rfl) (fun _ _ _ h => h) (Or.inl ⟨by rfl, ?_⟩) hHeld19 (fun hHeld20 => ?_)
          rotate_left
          · rintro w ⟨b1, b2, hok, hSw⟩; go_simp; (try with_reducible rfl)
          clear hHeld19
          try simp only [List.getElem_toArray, List.getElem_cons_succ, List.getElem_cons_zero, Act.put, List.setIfInBounds_toArray, List.set_cons_zero, List.set_cons_succ]
          refine wpAnyL_take (i := 20) (oi := _) (v := ?_) false rfl (by kernel_rfl) (fun _ _ _ h => h) (Or.inl ⟨by rfl, ?_⟩) hHeld20 (fun hHeld21 => ?_)
          rotate_left
          · rintro w ⟨b1, b2, hok, hSw⟩; have h0 := HLE.out; go_simp; (try with_reducible rfl)
          clear hHeld20
          try simp only [List.getElem_toArray, List.getElem_cons_succ, List.getElem_cons_zero, Act.put, List.setIfInBounds_toArray, List.set_cons_zero, List.set_cons_succ]
          refine wpAnyL_take (i := 21) (oi := _) (v := ?_) false rfl (by kernel_rfl) (fun _ _ _ h => h) (Or.inl ⟨by rfl, ?_⟩) hHeld21 (fun hHeld22 => ?_)
          rotate_left
          · rintro w ⟨b1, b2, hok, hSw⟩; go_simp; (try with_reducible rfl)
          clear hHeld21
          try simp only [List.getElem_toArray, List.getElem_cons_succ, List.getElem_cons_zero, Act.put, List.setIfInBounds_toArray, List.set_cons_zero, List.set_cons_succ]
          refine wpAnyL_take (i := 22) (oi := _) (v := ?_) false rfl (by kernel_rfl) (fun _ _ _ h => h) (Or.inl ⟨by rfl, ?_⟩) hHeld22 (fun hHeld23 => ?_)
          rotate_left
          · rintro w ⟨b1, b2, hok, hSw⟩; go_simp; (try with_reducible rfl)
          clear hHeld22
          try simp only [List.getElem_toArray, List.getElem_cons_succ, List.getElem_cons_zero, Act.put, List.setIfInBounds_toArray, List.set_cons_zero, List.set_cons_succ]
          refine wpAnyL_ready (rs := [23]) (by kernel_rfl) (by simp) ?_
          have hbk := HCA.out.heap HBW.out (by simp)
          have hz0 : w9.cell? ⟨gw, i * 2, none⟩ = some (.slice none 0 0) := HZ0.out w9 HCA.out
          have hz1 : w9.cell? ⟨gw, i * 2 + 1, none⟩ = some (.string (str [])) := HZ1.out w9 HCA.out
          have hf0 : w9.frozen? ⟨gw, i * 2, none⟩ = false := by simp [World.frozen?, hbk]
          have hf1 : w9.frozen? ⟨gw, i * 2 + 1, none⟩ = false := by simp [World.frozen?, hbk]
          refine AllReadyL.cons (o := _) rfl (fun K hK => ?_) AllReadyL.nil
          go_simp
          refine hK.out _ _ (HSC9.out _ _ _ hHeld23 _ (Chg.setCell (Chg.setCell (Chg.refl [gw] w9) (.inl (by simp)) _) (.inl (by simp)) _)) (fun hHeld24 => ?_)
          clear hK K hHeld23
          try simp only [List.getElem_toArray, List.getElem_cons_succ, List.getElem_cons_zero, Act.put, List.setIfInBounds_toArray, List.set_cons_zero, List.set_cons_succ]
          refine wpAnyL_done (by kernel_rfl) ?_ _
          clear hHeld24 hbk hz0 hz1 hf0 hf1
          refine hK8 _ _ ?_
          obtain ⟨wx, hwx⟩ : ∃ z, z = ((w9.setCell ⟨gw, i * 2, none⟩ (.slice v10o (nl + 1) v10c)).setCell ⟨gw, i * 2 + 1, none⟩ (.string (sg ++ Utf8.encode ((sgn r : Nat) : Int)))) := ⟨_, rfl⟩
          rw [← hwx]
          have hc9 : Chg [] wr w9 := HC0.out.trans HCA.out (by simp)
          have hcx : Chg [gw] w9 wx := by rw [hwx]; exact ((Chg.refl [gw] w9).setCell (.inl (by simp)) _).setCell (.inl (by simp)) _
          have hbx : BlkI wx gh H := (HJ.out.bh.chg hc9 (by simp)).chg hcx (by have := HJ.out.gl; simp; omega)
          have c2 := hbx.cell HHQ.out
          replace f2 := hbx.frozen q
          have HWX := Lib.hid hwx; have HC9 := Lib.hid hc9; have HCX := Lib.hid hcx
          clear hwx hbx hcx hc9
          go_wp2
          go_roundw
          case measure => simp [intOf]; omega
          case rel =>
            have hfin : Chg [gh] wx (wx.setCell ⟨gh, q, none⟩ (.int .i64 ((hd : Int) + 1))) := (Chg.refl [gh] wx).setCell (.inl (by simp)) _
            have hgl := HJ.out.gl
            have hs1 := HC9.out.size
            have hs2 := HCX.out.size
            have hs3 := hfin.size
            have hs4 := HC0.out.size
            have hbp1 := HBP.out.chg HC9.out (by simp)
            have hbp2 := hbp1.chg HCX.out (by simp; omega)
            have hbp3 := hbp2.chg hfin (by simp; omega)
            refine ⟨i + 1, R.set i (WG ++ [(hd, r)], .slice v10o (nl + 1) v10c), H.set q ((hd : Int) + 1), by go_num, by omega, hbp3, by omega, ?_⟩
            rw [HWX.out]
            exact HJ.out.next (s := sg ++ Utf8.encode ((sgn r : Nat) : Int)) HPD.out hlt hqn HWG.out HRE.out HHD.out HC9.out (B := Ad.heap.size) (by rw [← HNL.out]; exact HOV.out) (by omega) (by rw [HSGE.out])
        refine AllReadyL.cons (o := _) rfl (fun K hK => ?_) AllReadyL.nil
        go_simp
        refine hK.out _ _ (HSC.out _ _ _ _ hHeld15 ((Chg.refl [] Ad).alloc _)) (fun hHeld16 => ?_)
        clear hK K hHeld15
        try simp only [List.getElem_toArray, List.getElem_cons_succ, List.getElem_cons_zero, Act.put, List.setIfInBounds_toArray, List.set_cons_zero, List.set_cons_succ]
        have HL9 := Lib.hid (show (Ad.alloc (.cells #[.int .i64 (hd : Int)] 3)).heap[Ad.heap.size]? = some (.cells #[.int .i64 (hd : Int)] 3 (0, 0)) from heap_alloc_new Ad _)
        obtain ⟨g9, hg9⟩ : ∃ g, g = Ad.heap.size := ⟨_, rfl⟩
        rw [← hg9] at HL9 ⊢
        clear hg9
        obtain ⟨w1, hw1⟩ : ∃ z, z = Ad.alloc (.cells #[.int .i64 (hd : Int)] 3) := ⟨_, rfl⟩
        rw [← hw1] at HL9 hHeld16 ⊢
        have HCS := Lib.hid (show Chg [] Ad w1 by rw [hw1]; exact (Chg.refl [] Ad).alloc _)
        clear hw1
        replace HCA := Lib.hid (HCA.out.trans HCS.out (by simp))
        clear HCS
        refine wpAnyL_ready (rs := [4]) (by kernel_rfl) (by simp) ?_
        refine AllReadyL.cons (o := _) rfl (fun K hK => ?_) AllReadyL.nil
        go_simp
        go_at_call 64
        (with_reducible refine (HCL.out w1 HCA.out).mono ?_)
        rintro e w2 ⟨cv, rfl, hc1, ho1⟩
        obtain ⟨co, cc, rfl⟩ := own_shape ho1
        refine hK.out _ _ (HSC.out _ _ _ _ hHeld16 hc1) (fun hHeld17 => ?_)
        clear hK K hHeld16
        try simp only [List.getElem_toArray, List.getElem_cons_succ, List.getElem_cons_zero, Act.put, List.setIfInBounds_toArray, List.set_cons_zero, List.set_cons_succ]
        have HOC := Lib.hid ho1
        have HCS := Lib.hid hc1
        have HCB := Lib.hid HCA.out.size
        replace HCA := Lib.hid (HCA.out.trans HCS.out (by simp))
        replace HL9 := Lib.hid (HCS.out.heap HL9.out (by simp))
        clear hc1 ho1 HCS
        refine wpAnyL_ready (rs := [10]) (by kernel_rfl) (by simp) ?_
        refine AllReadyL.cons (o := _) rfl (fun K hK => ?_) AllReadyL.nil
        have hBW := HCA.out.size
        refine step_append_at (by rfl) (.tmp 32) (.tmp 37) 22 (by rfl) Ad.heap.size 3 ii (.int .i64 0) 1 8 Try.underlying22 hii hiz0 hiz1 hiz2 (by rfl) (by decide) (.slice co nl cc) nl (iv (plc WG)) (by rfl) (own_mono HOC.out HCB.out) ⟨g9, 0, none⟩ 1 1 [.int .i64 (hd : Int)] (by rfl) (by rfl) (cells_ofg HL9.out) (by simp [Value.oneCell']) (by unfold maxLen; omega) (by omega) hBW ?_
        intro v10 w3 hown hgrow hat
        obtain ⟨v10o, v10c, rfl⟩ := own_shape hown
        have HCS := Lib.hid (show Chg (Value.slice co nl cc).ownBlock.toList w2 w3 from (Chg.refl _ w2).grown hgrow (fun q hq => .inl (by simp [hq])))
        have HGE := Lib.hid (show ∀ q ∈ (Value.slice co nl cc).ownBlock.toList, Ad.heap.size ≤ q from fun q hq => Nat.le_trans HCB.out (own_ge HOC.out q (by simpa using hq)))
        refine hK.out _ _ (HSG.out _ _ _ _ _ hHeld17 HCS.out HGE.out) (fun hHeld18 => ?_)
        clear hK K hHeld17
        try simp only [List.getElem_toArray, List.getElem_cons_succ, List.getElem_cons_zero, Act.put, List.setIfInBounds_toArray, List.set_cons_zero, List.set_cons_succ]
        replace HCA := Lib.hid (HCA.out.trans HCS.out (fun q hq => .inr (HGE.out q hq)))
        have HOV := Lib.hid hown
        clear hown hgrow hat hBW HCS HGE
        refine wpAnyL_ready (rs := [18]) (by kernel_rfl) (by simp) ?_
        refine AllReadyL.cons (o := _) rfl (fun K hK => ?_) AllReadyL.nil
        go_simp
        go_at_call 92
        (with_reducible refine (HSI.out w3).mono ?_)
        rintro e w9 ⟨rfl, rfl⟩
        refine hK.out _ _ (HSC.out _ _ _ _ hHeld18 (Chg.refl _ _)) (fun hHeld19 => ?_)
        clear hK K hHeld18
        try simp only [List.getElem_toArray, List.getElem_cons_succ, List.getElem_cons_zero, Act.put, List.setIfInBounds_toArray, List.set_cons_zero, List.set_cons_succ]
        refine wpAnyL_take (i := 19) (oi := _) (v := ?_) false rfl (by kernel_rfl) (fun _ _ _ h => h) (Or.inl ⟨by rfl, ?_⟩) hHeld19 (fun hHeld20 => ?_)
        rotate_left
        · rintro w ⟨b1, b2, hok, hSw⟩; go_simp; (try with_reducible rfl)
        clear hHeld19
        try simp only [List.getElem_toArray, List.getElem_cons_succ, List.getElem_cons_zero, Act.put, List.setIfInBounds_toArray, List.set_cons_zero, List.set_cons_succ]
        refine wpAnyL_take (i := 20) (oi := _) (v := ?_) false rfl (by kernel_rfl) (fun _ _ _ h => h) (Or.inl ⟨by rfl, ?_⟩) hHeld20 (fun hHeld21 => ?_)
        rotate_left
        · rintro w ⟨b1, b2, hok, hSw⟩; have h0 := HLE.out; go_simp; (try with_reducible rfl)
        clear hHeld20
        try simp only [List.getElem_toArray, List.getElem_cons_succ, List.getElem_cons_zero, Act.put, List.setIfInBounds_toArray, List.set_cons_zero, List.set_cons_succ]
        refine wpAnyL_take (i := 21) (oi := _) (v := ?_) false rfl (by kernel_rfl) (fun _ _ _ h => h) (Or.inl ⟨by rfl, ?_⟩) hHeld21 (fun hHeld22 => ?_)
        rotate_left
        · rintro w ⟨b1, b2, hok, hSw⟩; go_simp; (try with_reducible rfl)
        clear hHeld21
        try simp only [List.getElem_toArray, List.getElem_cons_succ, List.getElem_cons_zero, Act.put, List.setIfInBounds_toArray, List.set_cons_zero, List.set_cons_succ]
        refine wpAnyL_take (i := 22) (oi := _) (v := ?_) false rfl (by kernel_rfl) (fun _ _ _ h => h) (Or.inl ⟨by rfl, ?_⟩) hHeld22 (fun hHeld23 => ?_)
        rotate_left
        · rintro w ⟨b1, b2, hok, hSw⟩; go_simp; (try with_reducible rfl)
        clear hHeld22
        try simp only [List.getElem_toArray, List.getElem_cons_succ, List.getElem_cons_zero, Act.put, List.setIfInBounds_toArray, List.set_cons_zero, List.set_cons_succ]
        refine wpAnyL_ready (rs := [23]) (by kernel_rfl) (by simp) ?_
        have hbk := HCA.out.heap HBW.out (by simp)
        have hz0 : w9.cell? ⟨gw, i * 2, none⟩ = some (.slice none 0 0) := HZ0.out w9 HCA.out
        have hz1 : w9.cell? ⟨gw, i * 2 + 1, none⟩ = some (.string (str [])) := HZ1.out w9 HCA.out
        have hf0 : w9.frozen? ⟨gw, i * 2, none⟩ = false := by simp [World.frozen?, hbk]
        have hf1 : w9.frozen? ⟨gw, i * 2 + 1, none⟩ = false := by simp [World.frozen?, hbk]
        refine AllReadyL.cons (o := _) rfl (fun K hK => ?_) AllReadyL.nil
        go_simp
        refine hK.out _ _ (HSC9.out _ _ _ hHeld23 _ (Chg.setCell (Chg.setCell (Chg.refl [gw] w9) (.inl (by simp)) _) (.inl (by simp)) _)) (fun hHeld24 => ?_)
        clear hK K hHeld23
        try simp only [List.getElem_toArray, List.getElem_cons_succ, List.getElem_cons_zero, Act.put, List.setIfInBounds_toArray, List.set_cons_zero, List.set_cons_succ]
        refine wpAnyL_done (by kernel_rfl) ?_ _
        clear hHeld24 hbk hz0 hz1 hf0 hf1
        refine hK8 _ _ ?_
        obtain ⟨wx, hwx⟩ : ∃ z, z = ((w9.setCell ⟨gw, i * 2, none⟩ (.slice v10o (nl + 1) v10c)).setCell ⟨gw, i * 2 + 1, none⟩ (.string (sg ++ Utf8.encode ((sgn r : Nat) : Int)))) := ⟨_, rfl⟩
        rw [← hwx]
        have hc9 : Chg [] wr w9 := HC0.out.trans HCA.out (by simp)
        have hcx : Chg [gw] w9 wx := by rw [hwx]; exact ((Chg.refl [gw] w9).setCell (.inl (by simp)) _).setCell (.inl (by simp)) _
        have hbx : BlkI wx gh H := (HJ.out.bh.chg hc9 (by simp)).chg hcx (by have := HJ.out.gl; simp; omega)
        have c2 := hbx.cell HHQ.out
        replace f2 := hbx.frozen q
        have HWX := Lib.hid hwx; have HC9 := Lib.hid hc9; have HCX := Lib.hid hcx
        clear hwx hbx hcx hc9
        go_wp2
        go_roundw
        case measure => simp [intOf]; omega
        case rel =>
          have hfin : Chg [gh] wx (wx.setCell ⟨gh, q, none⟩ (.int .i64 ((hd : Int) + 1))) := (Chg.refl [gh] wx).setCell (.inl (by simp)) _
          have hgl := HJ.out.gl
          have hs1 := HC9.out.size
          have hs2 := HCX.out.size
          have hs3 := hfin.size
          have hs4 := HC0.out.size
          have hbp1 := HBP.out.chg HC9.out (by simp)
          have hbp2 := hbp1.chg HCX.out (by simp; omega)
          have hbp3 := hbp2.chg hfin (by simp; omega)
          refine ⟨i + 1, R.set i (WG ++ [(hd, r)], .slice v10o (nl + 1) v10c), H.set q ((hd : Int) + 1), by go_num, by omega, hbp3, by omega, ?_⟩
          rw [HWX.out]
          exact HJ.out.next (s := sg ++ Utf8.encode ((sgn r : Nat) : Int)) HPD.out hlt hqn HWG.out HRE.out HHD.out HC9.out (B := Ad.heap.size) (by rw [← HNL.out]; exact HOV.out) (by omega) (by rw [HSGE.out])
    · have E : i = n := by omega
      subst E
      go_wp2
      go_ret
      have hJ := HJ.out
      refine ⟨_, rfl, hJ.cw, R, by have h := hJ.fs; rw [Nat.sub_self] at h; simpa using h, SeenK.lit encW_len hJ.bw R i (by simp) hJ.lr hnm, fun q hq => seenI_of_own (hJ.ow q hq) (by simp)⟩

end Go.Proofs.Ytfdmbpfpdijpdaa
