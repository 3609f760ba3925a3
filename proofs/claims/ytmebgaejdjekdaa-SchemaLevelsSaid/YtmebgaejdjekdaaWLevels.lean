/- The walk of the statement SchemaLevels. -/
import Derived.Test.YtmebgaejdjekdaaMp5
namespace Go.Proofs.Ytmebgaejdjekdaa
open Go.RowKit
set_option linter.unusedVariables false

theorem leaf_at (l : List F) (i : Nat) (hi : i < l.length) (hk : (l.getD i default).k ≠ 0) : (leavesL l)[(leavesTo l i).length]? = some ⟨i, (rls l).getD i 0, (dls l).getD i 0, (l.getD i default).k⟩ := by
  have e : ∀ m, i + 1 ≤ m → ∃ t, leavesTo l m = leavesTo l (i + 1) ++ t := by
    intro m hm
    induction m with
    | zero => omega
    | succ m ih =>
      by_cases h : i + 1 = m + 1
      · exact ⟨[], by rw [h]; simp⟩
      · obtain ⟨t, ht⟩ := ih (by omega)
        exact ⟨t ++ leafAt l m, by rw [leavesTo_succ, ht, List.append_assoc]⟩
  obtain ⟨t, ht⟩ := e l.length hi
  unfold leavesL
  rw [ht, leavesTo_succ]
  unfold leafAt
  rw [if_pos hk, List.append_assoc, List.getElem?_append_right (Nat.le_refl _), Nat.sub_self]
  rfl

set_option maxRecDepth 100000 in
set_option maxHeartbeats 2000000 in
theorem walk_SchemaLevels (a0 : Option Addr) (len0 cap0 : Nat) (z0 : List Int) (w : World) (w0 : IsRow .i64 w a0 len0 cap0 z0) :
    Calls Try.prog 5 #[.slice a0 len0 cap0] w fun e w' => e = .returned (.bool true) ∧ Below w.heap.size w w' := by
  obtain ⟨ns, hS, hlen, hwf⟩ := w0.seenI
  have HS := Lib.hid hS; have HWF := Lib.hid hwf
  clear w0 hS hwf hlen
  obtain ⟨l, hl⟩ : ∃ l, l = mk ns := ⟨_, rfl⟩
  have hmk := mk_ok ns
  rw [← hl] at hmk
  have HMK := Lib.hid hmk; have HL := Lib.hid hl
  have hln := hmk.le
  have hlp := leaves_ne hmk.leaf
  have HFC := Lib.hid (show ∀ f ∈ l, f.c ≤ 9223372036854775807 from fun f hf => by have := hmk.c f hf; omega)
  clear hmk hl
  go_enter Try.func5, Try.ntmps5
  go_wp2_with fail
  (with_reducible refine (known_any _).mono ?_)
  rintro e w1 ⟨rfl, hk⟩
  have HK1 := Lib.hid hk
  clear hk
  go_wp2_with fail
  (with_reducible refine (make_any _ ns _ (HS.out.keep HK1.out) HWF.out).mono ?_)
  rintro e w2 ⟨sv, rfl, hown, hk⟩
  rw [← HL.out] at hown
  have hSv := SeenF.own hown rfl
  obtain ⟨sa, sc, rfl⟩ := own_shape hown
  have HSF := Lib.hid hSv
  have HK2 := Lib.hid (HK1.out.trans hk (by simp))
  clear hown hSv hk
  go_wp2_with fail
  (with_reducible refine (parents_any _ l _ HSF.out (by omega) HFC.out).mono ?_)
  rintro e w3 ⟨rfl, hbp, hk⟩
  obtain ⟨BP, hBP⟩ : ∃ B, B = w2.heap.size := ⟨_, rfl⟩
  rw [← hBP] at hbp ⊢
  have HBP := Lib.hid hbp
  have HSF3 := Lib.hid (HSF.out.keep hk)
  have HK3 := Lib.hid (HK2.out.trans hk (by simp))
  clear hbp hk hBP
  go_wp2_with fail
  (with_reducible refine (leaves_any _ l _ HSF3.out (by omega) HFC.out).mono ?_)
  rintro e w4 ⟨v4, rfl, hl4, hk⟩
  obtain ⟨la, lc, rfl, -, -⟩ := hl4.shape
  have HL4 := Lib.hid hl4
  have HSF4 := Lib.hid (HSF3.out.keep hk)
  have HBP4 := Lib.hid (HBP.out.chg hk (by simp))
  have HK4 := Lib.hid (HK3.out.trans hk (by simp))
  clear hl4 hk
  obtain ⟨n, hn⟩ : ∃ n, n = l.length := ⟨_, rfl⟩
  obtain ⟨nl, hnl⟩ : ∃ n, n = (leavesL l).length := ⟨_, rfl⟩
  rw [← hn] at hln HSF4 ⊢
  rw [← hnl] at hlp HL4 ⊢
  have HN := Lib.hid hn; have HNL := Lib.hid hnl
  have hnl2 : nl ≤ n := by rw [hnl, hn]; exact leavesTo_le _ _
  clear hn hnl
  have hq1 : ¬ ((n : Int) ≠ (n : Int)) := by simp
  have hq2 : ((nl : Int) == 0) = false := by simp; omega
  obtain ⟨gs, offs, rfl, hcs⟩ := SeenF.get HSF4.out (by omega) HN.out.symm
  have HCS := Lib.hid hcs
  obtain ⟨gl, offl, rfl, hcl⟩ := HL4.out.at hlp
  have HCL := Lib.hid hcl
  have HPC := Lib.hid (show ∀ j, j < n → w4.cell? ⟨BP, j, none⟩ = some (.int .i64 ((parents l).getD j 0)) from fun j hj => HBP4.out.cell (by rw [List.getD, List.getElem?_eq_getElem (by rw [parents_length, ← HN.out]; exact hj)]; rfl))
  clear hcs hcl
  go_wp2
  go_loopw [6, 7] (fun c x w' => ∃ i q : Nat, x = .int .i64 (i : Int) ∧ i ≤ n ∧ c = .int .i64 ((leavesTo l i).length : Int) ∧ w' = w4.drewN q) (fun _ x _ => n - (intOf x).toNat)
  case atStart => exact ⟨0, 0, rfl, Nat.zero_le _, rfl, rfl⟩
  case round =>
    obtain ⟨i, q, rfl, hi, rfl, rfl⟩ := hrel
    by_cases hlt : i < n
    · obtain ⟨-, -, a3, -⟩ := HCS.out i hlt
      obtain ⟨c, hc⟩ : ∃ c, c = (leavesTo l i).length := ⟨_, rfl⟩
      obtain ⟨k, hk⟩ : ∃ k, k = (l.getD i default).k := ⟨_, rfl⟩
      obtain ⟨ri, hri⟩ : ∃ x, x = (rls l).getD i 0 := ⟨_, rfl⟩
      obtain ⟨di, hdi⟩ : ∃ x, x = (dls l).getD i 0 := ⟨_, rfl⟩
      have hrd : ri ≤ di := by rw [hri, hdi]; exact rd_le l i (by rw [← HN.out]; exact hlt)
      have HLA := Lib.hid (show leavesTo l (i + 1) = leavesTo l i ++ (if k ≠ 0 then [⟨i, ri, di, k⟩] else []) by rw [leavesTo_succ]; unfold leafAt; rw [hk, hri, hdi])
      have HLE := Lib.hid (show k ≠ 0 → (leavesL l)[c]? = some ⟨i, ri, di, k⟩ from fun h => by rw [hc, hk, hri, hdi]; exact leaf_at l i (by rw [← HN.out]; exact hlt) (by rw [← hk]; exact h))
      have HRI := Lib.hid hri; have HDI := Lib.hid hdi
      have hcn : c ≤ i := by rw [hc]; exact leavesTo_le l i
      have HCC := Lib.hid hc
      rw [← hk] at a3
      rw [← hc]
      obtain ⟨wi, hwi⟩ : ∃ wi, wi = w4.drewN q := ⟨_, rfl⟩
      have b3 : wi.cell? ⟨gs, offs + i * 4 + 2, none⟩ = some (.int .i64 k) := by rw [hwi]; exact a3
      rw [← hwi]
      have HWI := Lib.hid hwi
      clear hri hdi hc hk a3 hwi
      by_cases hk0 : k = 0
      · have e0 : (k == 0) = true := by simp [hk0]
        have E := Lib.hid (show (leavesTo l (i + 1)).length = c by rw [HLA.out, if_neg (by simp [hk0]), List.append_nil, HCC.out])
        clear hk0
        go_wp2
        go_roundw
        case rel => exact ⟨i + 1, q, by go_num, by omega, by rw [E.out], HWI.out⟩
        case measure => simp [intOf]; omega
      · have e0 : (k == 0) = false := by simp [hk0]
        have E := Lib.hid (show (leavesTo l (i + 1)).length = c + 1 by rw [HLA.out, if_pos hk0, List.length_append, HCC.out]; rfl)
        have hle := HLE.out hk0
        have hcl : c < nl := by rw [HNL.out]; exact (List.getElem?_eq_some_iff.1 hle).1
        obtain ⟨x1, x2, x3, x4⟩ := SeenL.cells HCL.out hle
        have y1 : wi.cell? ⟨gl, offl + c * 4, none⟩ = some (.int .i64 (i : Int)) := by rw [HWI.out]; exact x1
        have y2 : wi.cell? ⟨gl, offl + c * 4 + 1, none⟩ = some (.int .i64 ri) := by rw [HWI.out]; exact x2
        have y3 : wi.cell? ⟨gl, offl + c * 4 + 2, none⟩ = some (.int .i64 di) := by rw [HWI.out]; exact x3
        have y4 : wi.cell? ⟨gl, offl + c * 4 + 3, none⟩ = some (.int .i64 k) := by rw [HWI.out]; exact x4
        have d1 : decide (nl ≤ c) = false := by simp; omega
        clear x1 x2 x3 x4 hle hk0
        go_wp2_with fail
        go_quiet (fail)
        go_wp2
        have HR0 := Lib.hid (show cat (rls l) (i : Int) = ri by rw [HRI.out]; unfold cat; rw [if_neg (by omega)]; rfl)
        have HD0 := Lib.hid (show cat (dls l) (i : Int) = di by rw [HDI.out]; unfold cat; rw [if_neg (by omega)]; rfl)
        have HQW := Lib.hid (show ∀ (a : Addr) (v : Value), w4.cell? a = some v → (wi.drewN nq).cell? a = some v from fun a v h => by rw [HWI.out]; exact h)
        obtain ⟨wj, hwj⟩ : ∃ wj, wj = wi.drewN nq := ⟨_, rfl⟩
        rw [← hwj] at HQW ⊢
        have z2 : wj.cell? ⟨gl, offl + c * 4 + 1, none⟩ = some (.int .i64 ri) := by rw [hwj]; exact y2
        have z3 : wj.cell? ⟨gl, offl + c * 4 + 2, none⟩ = some (.int .i64 di) := by rw [hwj]; exact y3
        have HWJ := Lib.hid (show wj = w4.drewN (q + nq) by rw [hwj, HWI.out]; exact drew_drew w4 q nq)
        clear hwj y1 y2 y3 y4 b3
        go_loop [8, 9, 10, 11] (fun r d s k' => ∃ (kx rx dx : Int) (st : Nat), k' = .int .i64 kx ∧ r = .int .i64 rx ∧ d = .int .i64 dx ∧ s = .int .i64 (st : Int) ∧ (kx = -1 ∨ 0 ≤ kx ∧ kx ≤ i) ∧ (st : Int) + (kx + 1) ≤ i + 1 ∧ rx + cat (rls l) kx = ri ∧ dx + cat (dls l) kx = di ∧ 0 ≤ rx ∧ rx ≤ st ∧ 0 ≤ dx ∧ dx ≤ st) (fun _ _ _ k' => (intOf k' + 1).toNat)
        case atStart => exact ⟨(i : Int), 0, 0, 0, rfl, rfl, rfl, rfl, .inr ⟨by omega, by omega⟩, by omega, by rw [HR0.out]; omega, by rw [HD0.out]; omega, by omega, by omega, by omega, by omega⟩
        case round =>
          obtain ⟨kx, rx, dx, st, rfl, rfl, rfl, rfl, hkx, hst, hr, hd, g1, g2, g3, g4⟩ := hrel
          rcases hkx with hkx | ⟨hkx, hkx2⟩
          · subst hkx
            have er : rx = ri := by simpa [cat] using hr
            have ed : dx = di := by simpa [cat] using hd
            subst er ed
            have d9 : decide (dx < rx) = false := by simp; omega
            clear hr hd
            go_wp2
            go_roundw
            case rel => exact ⟨i + 1, q + nq, by go_num, by omega, by rw [E.out]; go_num, HWJ.out⟩
            case measure => simp [intOf]; omega
          · obtain ⟨kn, rfl⟩ : ∃ kn : Nat, kx = kn := ⟨kx.toNat, by omega⟩
            have hkn : kn < n := by omega
            have hst50 : st < 50 := by omega
            obtain ⟨-, a2, -, -⟩ := HCS.out kn hkn
            have b2 := HQW.out _ _ a2
            have bp := HQW.out _ _ (HPC.out kn hkn)
            obtain ⟨x, hx⟩ : ∃ x, x = (l.getD kn default).r := ⟨_, rfl⟩
            obtain ⟨p, hp⟩ : ∃ p, p = (parents l).getD kn 0 := ⟨_, rfl⟩
            have hpp : p = -1 ∨ 0 ≤ p ∧ p < kn := by
              rw [hp]
              exact parents_lt (l := l) (j := kn) (by rw [List.getD, List.getElem?_eq_getElem (by rw [parents_length, ← HN.out]; exact hkn)]; rfl)
            have ha := cntL_at (repB l) (parents l) kn (by rw [parents_length, ← HN.out]; exact hkn) (fun j x => parents_lt)
            have hb := cntL_at (optB l) (parents l) kn (by rw [parents_length, ← HN.out]; exact hkn) (fun j x => parents_lt)
            rw [← hp] at ha hb
            have hca : cat (rls l) (kn : Int) = cat (rls l) p + (if repB l kn then 1 else 0) := by
              have e : cat (rls l) (kn : Int) = (rls l).getD kn 0 := by unfold cat; rw [if_neg (by omega)]; rfl
              rw [e]; exact ha
            have hcb : cat (dls l) (kn : Int) = cat (dls l) p + (if optB l kn then 1 else 0) := by
              have e : cat (dls l) (kn : Int) = (dls l).getD kn 0 := by unfold cat; rw [if_neg (by omega)]; rfl
              rw [e]; exact hb
            have hrb : repB l kn = decide (x = 2) := by unfold repB; rw [hx]
            have hob : optB l kn = decide (x ≠ 0) := by unfold optB; rw [hx]
            rw [hrb] at hca
            rw [hob] at hcb
            rw [← hx] at b2
            rw [← hp] at bp
            clear a2 hx hp ha hb hrb hob
            have hw3 : x = 2 ∨ (x ≠ 2 ∧ x ≠ 0) ∨ x = 0 := by omega
            rcases hw3 with h | ⟨h, h'⟩ | h
            · have e1 : (x == 2) = true := by simp [h]
              have e2 : (x != 0) = true := by simp [h]
              have hca2 := Lib.hid (show cat (rls l) (kn : Int) = cat (rls l) p + 1 by rw [hca, h]; rfl)
              have hcb2 := Lib.hid (show cat (dls l) (kn : Int) = cat (dls l) p + 1 by rw [hcb, h]; rfl)
              have HR := Lib.hid hr; have HD := Lib.hid hd
              clear h hca hcb hr hd
              go_wp2
              go_round
              case rel => exact ⟨p, rx + 1, dx + 1, st + 1, rfl, by go_num, by go_num, by go_num, by omega, by push_cast; omega, by have := HR.out; have := hca2.out; omega, by have := HD.out; have := hcb2.out; omega, by omega, by push_cast; omega, by omega, by push_cast; omega⟩
              case measure => simp [intOf]; omega
            · have e1 : (x == 2) = false := by simp [h]
              have e2 : (x != 0) = true := by simp [h']
              have hca2 := Lib.hid (show cat (rls l) (kn : Int) = cat (rls l) p by rw [hca]; simp [h])
              have hcb2 := Lib.hid (show cat (dls l) (kn : Int) = cat (dls l) p + 1 by rw [hcb]; simp [h'])
              have HR := Lib.hid hr; have HD := Lib.hid hd
              clear h h' hca hcb hr hd
              go_wp2
              go_round
              case rel => exact ⟨p, rx, dx + 1, st + 1, rfl, by go_num, by go_num, by go_num, by omega, by push_cast; omega, by have := HR.out; have := hca2.out; omega, by have := HD.out; have := hcb2.out; omega, by omega, by push_cast; omega, by omega, by push_cast; omega⟩
              case measure => simp [intOf]; omega
            · have e1 : (x == 2) = false := by simp [h]
              have e2 : (x != 0) = false := by simp [h]
              have hca2 := Lib.hid (show cat (rls l) (kn : Int) = cat (rls l) p by rw [hca]; simp [h])
              have hcb2 := Lib.hid (show cat (dls l) (kn : Int) = cat (dls l) p by rw [hcb]; simp [h])
              have HR := Lib.hid hr; have HD := Lib.hid hd
              clear h hca hcb hr hd
              go_wp2
              go_round
              case rel => exact ⟨p, rx, dx, st + 1, rfl, by go_num, by go_num, by go_num, by omega, by push_cast; omega, by have := HR.out; have := hca2.out; omega, by have := HD.out; have := hcb2.out; omega, by omega, by push_cast; omega, by omega, by push_cast; omega⟩
              case measure => simp [intOf]; omega
    · have ei : i = n := by omega
      have E := Lib.hid (show ((leavesTo l i).length : Int) = nl by rw [ei, HN.out, HNL.out]; rfl)
      clear ei
      rw [E.out]
      go_wp2
      go_ret
      exact ⟨rfl, (HK4.out.drewN q).below (Nat.le_refl _) (by simp)⟩

end Go.Proofs.Ytmebgaejdjekdaa
