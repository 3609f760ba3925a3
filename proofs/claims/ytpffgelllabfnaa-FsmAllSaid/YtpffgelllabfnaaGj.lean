/- Contracts of the reference's in and Common of chapter 15. -/
import Derived.Test.YtpffgelllabfnaaGg
namespace Go.Proofs.Ytpffgelllabfnaa
open Go.RowKit
set_option linter.unusedVariables false
set_option linter.unusedSimpArgs false

def trAt (l : List F) (x : Int) : List Nat := if x < 0 then [] else trF l x.toNat
theorem trAt_nat (l : List F) (k : Nat) : trAt l (k : Int) = trF l k := by unfold trAt; rw [if_neg (by omega), Int.toNat_natCast]
theorem trAt_neg (l : List F) : trAt l (-1) = [] := rfl
theorem trAt_step (l : List F) (k : Nat) (hk : k < l.length) : trF l k = trAt l ((parents l).getD k 0) ++ (if repB l k then [k] else []) := by
  rw [trF_at l k hk]
  have hx : (parents l)[k]? = some ((parents l).getD k 0) := by rw [List.getD, List.getElem?_eq_getElem (by simpa using hk)]; rfl
  congr 1
  unfold trAt
  have h := parents_lt hx
  by_cases h1 : (parents l).getD k 0 = -1
  · rw [if_pos h1, if_pos (by omega)]
  · rw [if_neg h1, if_neg (by omega)]

theorem par_range (l : List F) (k : Nat) (hk : k < l.length) : -1 ≤ (parents l).getD k 0 ∧ (parents l).getD k 0 < (k : Int) := by
  have hx : (parents l)[k]? = some ((parents l).getD k 0) := by rw [List.getD, List.getElem?_eq_getElem (by simpa using hk)]; rfl
  have h := parents_lt hx
  omega

set_option maxHeartbeats 1000000 in
theorem rin_any (pv : Value) (l : List F) (i of : Nat) (w : World) (hp : SeenI w pv (parents l)) (hi : i < l.length) (hof : of < l.length) (hb : repB l of = true) (hl : l.length ≤ 1000) :
    Calls Try.prog 25 #[pv, .int .i64 (i : Int), .int .i64 (of : Int)] w fun e w' => e = .returned (.bool (decide (of ∈ trF l i))) ∧ Chg [] w w' := by
  obtain ⟨po, pc, rfl, h1, h2⟩ := hp.shape
  obtain ⟨n, hn⟩ : ∃ n, n = l.length := ⟨_, rfl⟩
  rw [parents_length, ← hn] at h1 hp ⊢
  rw [← hn] at hl
  obtain ⟨pg, poff, rfl, hpp⟩ := SeenI.get hp (by omega) (by rw [parents_length, ← hn])
  have HPP := Lib.hid hpp
  have HOF := Lib.hid (show of ∈ trF l of by rw [trAt_step l of hof, if_pos hb]; simp)
  have HST := Lib.hid (show ∀ k, k < n → k ≠ of → (of ∈ trF l k ↔ of ∈ trAt l ((parents l).getD k 0)) from fun k hk hne => by
    rw [trAt_step l k (by omega)]
    by_cases h : repB l k = true
    · rw [if_pos h]; simp; exact fun e => absurd e.symm hne
    · rw [if_neg h, List.append_nil])
  have HPR := Lib.hid (show ∀ k, k < n → _ from fun k hk => par_range l k (by omega))
  rw [← hn] at hi hof
  clear hp hpp hb hn
  go_enter Try.func25, Try.ntmps25
  go_wp2
  go_loopw [7] (fun y w' => ∃ x : Int, y = .int .i64 x ∧ -1 ≤ x ∧ x ≤ i ∧ (of ∈ trF l i ↔ of ∈ trAt l x) ∧ Chg [] w w') (fun y _ => (intOf y + 1).toNat)
  case atStart => exact ⟨(i : Int), rfl, by omega, by omega, by rw [trAt_nat], Chg.refl _ _⟩
  case round =>
    obtain ⟨x, rfl, hx1, hx2, hx3, hc⟩ := hrel
    have HX := Lib.hid hx3; have HC := Lib.hid hc
    clear hx3 hc
    by_cases hx : x = -1
    · subst hx
      have E := Lib.hid (show decide (of ∈ trF l i) = false by rw [decide_eq_false_iff_not, HX.out, trAt_neg]; simp)
      go_wp2
      go_ret
      exact ⟨ret_bool E.out.symm, HC.out⟩
    · obtain ⟨k, rfl⟩ : ∃ k : Nat, x = k := ⟨x.toNat, by omega⟩
      have hkn : k < n := by omega
      have hpk := HC.out.cell (HPP.out k hkn) (by simp)
      obtain ⟨p, hpe⟩ : ∃ p, p = (parents l).getD k 0 := ⟨_, rfl⟩
      have hpr := HPR.out k hkn
      rw [← hpe] at hpk hpr
      have HPE := Lib.hid hpe
      clear hpe
      by_cases hko : k = of
      · have e1 : ((k : Int) == (of : Int)) = true := by simp [hko]
        have E := Lib.hid (show decide (of ∈ trF l i) = true by rw [decide_eq_true_eq, HX.out, trAt_nat, hko]; exact HOF.out)
        clear hko
        go_wp2
        go_ret
        exact ⟨ret_bool E.out.symm, HC.out⟩
      · have e1 : ((k : Int) == (of : Int)) = false := by simp; omega
        have HX2 := Lib.hid (show of ∈ trF l i ↔ of ∈ trAt l p by rw [HX.out, trAt_nat, HPE.out]; exact HST.out k hkn hko)
        clear hko
        go_wp2
        go_roundw
        case rel => exact ⟨p, rfl, by omega, by omega, HX2.out, HC.out⟩
        case measure => simp [intOf]; omega

def cntAt (l : List F) (j : Nat) (x : Int) : Nat := ((trAt l x).filter fun a => decide (a ∈ trF l j)).length
theorem cntAt_step (l : List F) (j k : Nat) (hk : k < l.length) : cntAt l j (k : Int) = cntAt l j ((parents l).getD k 0) + (if repB l k = true ∧ k ∈ trF l j then 1 else 0) := by
  unfold cntAt
  rw [trAt_nat, trAt_step l k hk, List.filter_append, List.length_append]
  congr 1
  by_cases h1 : repB l k = true
  · rw [if_pos h1]
    by_cases h2 : k ∈ trF l j <;> simp [h1, h2]
  · rw [if_neg h1, if_neg (fun h => h1 h.1)]; rfl

theorem cntAt_top (l : List F) (i j : Nat) (hi : i < l.length) (hj : j < l.length) : cntAt l j (i : Int) = cpl (trF l i) (trF l j) := by
  unfold cntAt; rw [trAt_nat]; exact common_cpl l i j hi hj

set_option maxRecDepth 100000 in
set_option maxHeartbeats 2000000 in
theorem rcommon15_any (sv : Value) (l : List F) (i j : Int) (w : World) (hS : SeenF w sv l) (hl : l.length ≤ 1000) (hw : ∀ f ∈ l, f.c ≤ 9223372036854775807) :
    Calls Try.prog 14 #[sv, .int .i64 i, .int .i64 j] w fun e w' => e = .returned (.int .i64 (cmn (trs l) i j : Nat)) ∧ Chg [] w w' := by
  obtain ⟨so, sc, rfl, h1, h2⟩ := hS.shape
  have HS := Lib.hid hS
  have HRL := Lib.hid (show ∀ wx, SeenF wx (.slice so l.length sc) l → _ from fun wx hs => rleaves_any _ l wx hs (by omega) hw)
  have HRP := Lib.hid (show ∀ wx, SeenF wx (.slice so l.length sc) l → _ from fun wx hs => rparents_any _ l wx hs (by omega) hw)
  obtain ⟨N, hN⟩ : ∃ N, N = (leavesL l).length := ⟨_, rfl⟩
  have hNl : N ≤ l.length := by have h := leavesTo_le l l.length; rw [hN]; exact h
  have HN := Lib.hid hN
  obtain ⟨n, hn⟩ : ∃ n, n = l.length := ⟨_, rfl⟩
  have HNL := Lib.hid hn
  rw [← hn] at h1 hl hNl HS HRL HRP ⊢
  clear hS hw hN hn
  by_cases hok : (0 ≤ i ∧ i < (N : Int)) ∧ 0 ≤ j ∧ j < (N : Int)
  · obtain ⟨⟨i1, i2⟩, j1, j2⟩ := hok
    obtain ⟨p, rfl⟩ : ∃ p : Nat, i = p := ⟨i.toNat, by omega⟩
    obtain ⟨q, rfl⟩ : ∃ q : Nat, j = q := ⟨j.toNat, by omega⟩
    have hpN : p < N := by omega
    have hqN : q < N := by omega
    obtain ⟨lp, hlp⟩ : ∃ lf, (leavesL l)[p]? = some lf := ⟨_, List.getElem?_eq_getElem (by rw [← HN.out]; exact hpN)⟩
    obtain ⟨lq, hlq⟩ : ∃ lf, (leavesL l)[q]? = some lf := ⟨_, List.getElem?_eq_getElem (by rw [← HN.out]; exact hqN)⟩
    obtain ⟨fi, hfi, hpf, -⟩ := leaf_at l l.length lp (List.mem_of_getElem? hlp)
    obtain ⟨fj, hfj, hqf, -⟩ := leaf_at l l.length lq (List.mem_of_getElem? hlq)
    have E := Lib.hid (show cntAt l fj (fi : Int) = cmn (trs l) (p : Int) (q : Int) by
      rw [cntAt_top l fi fj hfi hfj]
      unfold cmn
      rw [if_pos (by rw [trs_length, ← HN.out]; omega), Int.toNat_natCast, Int.toNat_natCast]
      have e1 : (trs l).getD p [] = trF l fi := by simp [List.getD, trs, hlp, hpf]
      have e2 : (trs l).getD q [] = trF l fj := by simp [List.getD, trs, hlq, hqf]
      rw [e1, e2])
    obtain ⟨gs, soff, rfl, hss⟩ := SeenF.get HS.out (by omega) HNL.out.symm
    have HSS := Lib.hid (show ∀ k, k < n → w.cell? ⟨gs, soff + k * 4 + 1, none⟩ = some (.int .i64 (l.getD k default).r) from fun k hk => (hss k hk).2.1)
    rw [← HNL.out] at hfi hfj
    have HLP := Lib.hid hlp; have HLQ := Lib.hid hlq; have HPF := Lib.hid hpf; have HQF := Lib.hid hqf
    have t1 : ¬ ((p : Int) < 0) := by omega
    have t2 : ¬ ((q : Int) < 0) := by omega
    have t3 : ¬ ((N : Int) ≤ (p : Int)) := by omega
    have t4 : ¬ ((N : Int) ≤ (q : Int)) := by omega
    clear hss hlp hlq hpf hqf
    go_enter Try.func14, Try.ntmps14
    go_wp2_with fail
    refine (HRL.out w HS.out).mono ?_
    rintro e w1 ⟨fv, rfl, hsl, hk⟩
    obtain ⟨fo, fc, rfl, hfl1, hfl2⟩ := hsl.shape
    rw [← HN.out] at hfl1 hsl ⊢
    obtain ⟨gl, lo, rfl, hcl⟩ := SeenK.at hsl (by omega)
    have c1 := (SeenL.cells hcl HLP.out).1
    have c2 := (SeenL.cells hcl HLQ.out).1
    rw [HPF.out] at c1
    rw [HQF.out] at c2
    have HK1 := Lib.hid hk
    clear hk hcl hsl
    go_wp2_with fail
    refine (HRP.out w1 (HS.out.keep HK1.out)).mono ?_
    rintro e w2 ⟨pv, rfl, hp, hk⟩
    obtain ⟨po, pc, rfl, hp1, hp2⟩ := hp.shape
    rw [parents_length, ← HNL.out] at hp1 hp ⊢
    obtain ⟨pg, poff, rfl, hpp⟩ := SeenI.get hp (by omega) (by rw [parents_length, ← HNL.out])
    have HP := Lib.hid hp; have HPP := Lib.hid hpp
    have HK2 := Lib.hid (HK1.out.trans hk (by simp))
    have d1 := hk.cell c1 (by simp)
    have HD2 := Lib.hid (hk.cell c2 (by simp))
    clear hk hp hpp c1 c2
    go_wp2
    clear d1
    go_loopw [9, 10] (fun y z w' => ∃ (c : Nat) (x : Int), y = .int .i64 (c : Int) ∧ z = .int .i64 x ∧ -1 ≤ x ∧ x ≤ fi ∧ c + cntAt l fj x = cntAt l fj (fi : Int) ∧ (c : Int) + x ≤ fi ∧ Chg [] w2 w') (fun _ z _ => (intOf z + 1).toNat)
    case atStart => exact ⟨0, (fi : Int), rfl, rfl, by omega, by omega, by omega, by omega, Chg.refl _ _⟩
    case round =>
      obtain ⟨c, x, rfl, rfl, hx1, hx2, hx3, hx4, hc⟩ := hrel
      have HX := Lib.hid hx3; have HC := Lib.hid hc
      clear hx3 hc
      by_cases hx : x = -1
      · subst hx
        have EE := Lib.hid (show c = cmn (trs l) (p : Int) (q : Int) by rw [← E.out, ← HX.out]; rfl)
        go_wp2
        go_ret
        exact ⟨by rw [← EE.out]; rfl, HK2.out.trans HC.out (by simp)⟩
      · obtain ⟨k, rfl⟩ : ∃ k : Nat, x = k := ⟨x.toNat, by omega⟩
        have hkn : k < n := by omega
        have hst := cntAt_step l fj k (by rw [← HNL.out]; exact hkn)
        have hpk := HPP.out k hkn
        have hpr := par_range l k (by rw [← HNL.out]; exact hkn)
        obtain ⟨pp, hpe⟩ : ∃ p, p = (parents l).getD k 0 := ⟨_, rfl⟩
        rw [← hpe] at hpk hpr hst
        have hs1 := HC.out.cell (HK2.out.cell (HSS.out k hkn) (by simp)) (by simp)
        obtain ⟨r, hr⟩ : ∃ r, r = (l.getD k default).r := ⟨_, rfl⟩
        rw [← hr] at hs1
        have hrb : repB l k = decide (r = 2) := by unfold repB; rw [hr]
        rw [hrb] at hst
        have HRB := Lib.hid hrb; have HST := Lib.hid hst
        have c2 := HC.out.cell HD2.out (by simp)
        clear hst hpe hr hrb
        by_cases hr2 : r = 2
        · have e1 : (r == 2) = true := by simp [hr2]
          have HRT := Lib.hid (show repB l k = true by rw [HRB.out]; simpa using hr2)
          have HS2 := Lib.hid (show cntAt l fj (k : Int) = cntAt l fj pp + (if k ∈ trF l fj then 1 else 0) by rw [HST.out]; simp [hr2])
          clear hr2
          go_wp2_with fail
          refine (rin_any _ l fj k wr (HP.out.keep HC.out) (by rw [← HNL.out]; exact hfj) (by rw [← HNL.out]; exact hkn) HRT.out (by rw [← HNL.out]; exact hl)).mono ?_
          rintro e w5 ⟨rfl, hk⟩
          have HC5 := Lib.hid (HC.out.trans hk (by simp))
          have hpk5 := HC5.out.cell hpk (by simp)
          clear hk
          by_cases hin : k ∈ trF l fj
          · have HS3 := Lib.hid (show (c + 1) + cntAt l fj pp = cntAt l fj (fi : Int) by have h := HX.out; rw [HS2.out, if_pos hin] at h; omega)
            rw [show decide (k ∈ trF l fj) = true by simpa using hin]
            clear hin
            go_wp2
            go_roundw
            case rel => exact ⟨c + 1, pp, by go_num, rfl, by omega, by omega, HS3.out, by omega, HC5.out⟩
            case measure => simp [intOf]; omega
          · have HS3 := Lib.hid (show c + cntAt l fj pp = cntAt l fj (fi : Int) by have h := HX.out; rw [HS2.out, if_neg hin] at h; omega)
            rw [show decide (k ∈ trF l fj) = false by simpa using hin]
            clear hin
            go_wp2
            go_roundw
            case rel => exact ⟨c, pp, rfl, rfl, by omega, by omega, HS3.out, by omega, HC5.out⟩
            case measure => simp [intOf]; omega
        · have e1 : (r == 2) = false := by simp [hr2]
          have HS3 := Lib.hid (show c + cntAt l fj pp = cntAt l fj (fi : Int) by have h := HX.out; rw [HST.out, if_neg (fun h => hr2 (by simpa using h.1))] at h; omega)
          have hpk5 := HC.out.cell hpk (by simp)
          clear hr2
          go_wp2
          go_roundw
          case rel => exact ⟨c, pp, rfl, rfl, by omega, by omega, HS3.out, by omega, HC.out⟩
          case measure => simp [intOf]; omega
  · have E := Lib.hid (show cmn (trs l) i j = 0 by unfold cmn; rw [if_neg (by rw [trs_length, ← HN.out]; exact hok)])
    have hb : i < 0 ∨ (¬ i < 0 ∧ j < 0) ∨ (¬ i < 0 ∧ ¬ j < 0 ∧ (N : Int) ≤ i) ∨ (¬ i < 0 ∧ ¬ j < 0 ∧ ¬ (N : Int) ≤ i ∧ (N : Int) ≤ j) := by omega
    clear hok
    rcases hb with g1 | ⟨g1, g2⟩ | ⟨g1, g2, g3⟩ | ⟨g1, g2, g3, g4⟩
    all_goals
      go_enter Try.func14, Try.ntmps14
      go_wp2_with fail
      refine (HRL.out w HS.out).mono ?_
      rintro e w1 ⟨fv, rfl, hsl, hk⟩
      obtain ⟨fo, fc, rfl, hfl1, hfl2⟩ := hsl.shape
      rw [← HN.out]
      have HK1 := Lib.hid hk
      clear hk hsl hfl1
      go_wp2
      go_ret
      exact ⟨by rw [E.out]; rfl, HK1.out⟩

end Go.Proofs.Ytpffgelllabfnaa
