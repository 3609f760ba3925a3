/- Contract of the reference's Check. (Written by genrk.py.) -/
import Derived.Test.YtpffgelllabfnaaRk
namespace Go.Proofs.Ytpffgelllabfnaa
open Go.RowKit
set_option linter.unusedVariables false

set_option maxRecDepth 100000 in
set_option maxHeartbeats 8000000 in
theorem rcheck_any (sv : Value) (l : List F) (w : World) (hS : SeenF w sv l) (hw : ∀ f ∈ l, f.c ≤ 9223372036854775807) (hn : ∀ f ∈ l, f.n.size ≤ 1000000) :
    Calls Try.prog 20 #[sv] w fun e w' => e = .returned (.int .i64 (refChk l)) ∧ Chg [] w w' := by
  obtain ⟨ao, cap, rfl, hc1, hc2⟩ := hS.shape
  have HS := Lib.hid hS; have HW := Lib.hid hw; have HNM := Lib.hid hn
  clear hS hw hn
  obtain ⟨n, hnn⟩ : ∃ n, n = l.length := ⟨_, rfl⟩
  rw [← hnn] at hc1 HS ⊢
  have hnm : n ≤ 9223372036854775807 := by unfold maxLen at hc2; omega
  have HN := Lib.hid hnn
  clear hnn
  by_cases h1 : n < 1
  · have E := Lib.hid (show refChk l = 4 by unfold refChk; rw [if_pos (by rw [← HN.out]; omega)])
    have d1 : decide ((n : Int) < 1) = true := by simp; omega
    go_enter Try.func20, Try.ntmps20
    go_wp2
    go_ret
    exact ⟨ret_int E.out.symm, Chg.refl [] w⟩
  have d1 : decide ((n : Int) < 1) = false := by simp; omega
  by_cases h2 : 40 < n
  · have E := Lib.hid (show refChk l = 4 by unfold refChk; rw [if_pos (by rw [← HN.out]; omega)])
    have d2 : decide ((40 : Int) < (n : Int)) = true := by simp; omega
    go_enter Try.func20, Try.ntmps20
    go_wp2
    go_ret
    exact ⟨ret_int E.out.symm, Chg.refl [] w⟩
  have d2 : decide ((40 : Int) < (n : Int)) = false := by simp; omega
  have HLB := Lib.hid (show ¬ (l.length < 1 ∨ 40 < l.length) by rw [← HN.out]; omega)
  go_enter Try.func20, Try.ntmps20
  go_wp2_with fail
  (with_reducible refine (rwalk_any _ l w HS.out (by rw [← HN.out]; omega) HW.out).mono ?_)
  rw [← HN.out]
  rintro e w1 ⟨pv, dv, rfl, hp, hd, hk⟩
  obtain ⟨pa, pc, rfl⟩ := own_shape hp
  obtain ⟨da, dc, rfl⟩ := own_shape hd
  have HP := Lib.hid (own_seenI hp (by rw [parents_length, HN.out])); have HD := Lib.hid (own_seenI hd (by unfold depthsR; rw [depR_length, HN.out])); have HC1 := Lib.hid hk
  clear hp hd hk
  go_wp2
  go_loopw [5, 6] (fun kv x w' => ∃ i : Nat, x = .int .i64 (i : Int) ∧ kv = .int .i64 (kidsTo l i) ∧ i ≤ n ∧ Chg [] w1 w' ∧ (∀ j, j < i → fR l j = 0) ∧ (∀ j, j < i → (l.getD j default).c ≤ 40) ∧ 0 ≤ kidsTo l i ∧ kidsTo l i ≤ 40 * i) (fun _ x _ => n - (intOf x).toNat)
  case atStart => exact ⟨0, rfl, rfl, Nat.zero_le _, Chg.refl _ _, fun j hj => absurd hj (Nat.not_lt_zero j), fun j hj => absurd hj (Nat.not_lt_zero j), by simp [kidsTo], by simp [kidsTo]⟩
  case round =>
    obtain ⟨i, rfl, rfl, hi, hc, hz, hc40, hk0, hk40⟩ := hrel
    have HC := Lib.hid hc; have HZ := Lib.hid hz; have HC40 := Lib.hid hc40
    clear hc hz hc40
    obtain ⟨K, hK⟩ : ∃ K, K = kidsTo l i := ⟨_, rfl⟩
    rw [← hK] at hk0 hk40 ⊢
    have HK := Lib.hid hK
    clear hK
    by_cases hlt : i < n
    · have HSW := Lib.hid (HS.out.keep (HC1.out.trans HC.out (by simp)))
      have HPW := Lib.hid (HP.out.keep HC.out)
      obtain ⟨gs, os, rfl, hss⟩ := SeenF.get HSW.out (by omega) HN.out.symm
      obtain ⟨gp, op, rfl, hpp⟩ := SeenI.get HPW.out (by omega) (by rw [parents_length, ← HN.out])
      obtain ⟨gd, od, rfl, hdd⟩ := SeenI.get (SeenK.keep HD.out HC.out) (by omega) (by unfold depthsR; rw [depR_length, ← HN.out])
      obtain ⟨a1, a2, a3, a4⟩ := hss i hlt
      have a5 := hpp i hlt
      have a6 := hdd i hlt
      have hx : l[i]? = some (l.getD i default) := by rw [List.getD, List.getElem?_eq_getElem (by rw [← HN.out]; exact hlt)]; rfl
      have hpar : (parents l).getD i 0 = -1 ∨ 0 ≤ (parents l).getD i 0 ∧ (parents l).getD i 0 < i := parents_lt (l := l) (j := i) (by rw [List.getD, List.getElem?_eq_getElem (by rw [parents_length, ← HN.out]; exact hlt)]; rfl)
      obtain ⟨f, hf⟩ : ∃ f, f = l.getD i default := ⟨_, rfl⟩
      obtain ⟨p, hp⟩ : ∃ p, p = (parents l).getD i 0 := ⟨_, rfl⟩
      obtain ⟨d, hd⟩ : ∃ d, d = (depthsR l).getD i 0 := ⟨_, rfl⟩
      rw [← hf] at a1 a2 a3 a4 hx; rw [← hp] at a5 hpar; rw [← hd] at a6
      have HE := Lib.hid (show fR l i = if 0 < i ∧ p = -1 then 1 else if 8 < d then 11 else if nameB (bl f.n) = false ∨ takenB l (parents l) i = true then 7 else if knownB f = false ∨ (i = 0 ∧ rootB f = false) then 3 else if haveB f = false then 1 else 0 by unfold fR faultN; rw [hf, hp, hd])
      have HF := Lib.hid hf
      have hnl : f.n.size ≤ 1000000 := HNM.out f (List.mem_of_getElem? hx)
      have hfc : f.c ≤ 9223372036854775807 := HW.out f (List.mem_of_getElem? hx)
      clear hss hpp hdd hx hf hp hd
      have c5 : ∀ o, (wr.alloc o).cell? ⟨gp, op + i, none⟩ = some (.int .i64 p) := fun o => ((Chg.refl [] wr).alloc o).cell a5 (by simp)
      have c6 : ∀ o, (wr.alloc o).cell? ⟨gd, od + i, none⟩ = some (.int .i64 d) := fun o => ((Chg.refl [] wr).alloc o).cell a6 (by simp)
      have HA := Lib.hid (HC.out.alloc (.cells #[.string f.n, .int .i64 f.r, .int .i64 f.k, .int .i64 f.c] 46))
      have HBX := Lib.hid (Box.new wr f 46)
      have HSA := Lib.hid (SeenK.keep HSW.out ((Chg.refl [] wr).alloc (.cells #[.string f.n, .int .i64 f.r, .int .i64 f.k, .int .i64 f.c] 46)))
      have HPA := Lib.hid (SeenK.keep HPW.out ((Chg.refl [] wr).alloc (.cells #[.string f.n, .int .i64 f.r, .int .i64 f.k, .int .i64 f.c] 46)))
      by_cases hi0 : i = 0
      · have hnz : ¬ 0 < i := by omega
        have hi2 : decide ((0 : Int) < (i : Int)) = false := by simp; omega
        have hi3 : ((i : Int) == 0) = true := by simp; omega
        have HI0 := Lib.hid hi0
        clear hi0
        by_cases hd8 : 8 < d
        · have q2 : decide ((8 : Int) < d) = true := by simpa using hd8
          have E := Lib.hid (show refChk l = 11 from rc_at HLB.out HZ.out (by rw [← HN.out]; exact hlt) (by rw [HE.out, if_neg (by omega), if_pos hd8]) (by decide))
          clear HE HBX HSA HPA
          go_wp2
          go_ret
          exact ⟨ret_int E.out.symm, HC1.out.trans HA.out (by simp)⟩
        have q2 : decide ((8 : Int) < d) = false := by simpa using hd8
        rw [if_neg (by omega), if_neg hd8] at HE
        clear hd8 hpar
        cases hnb : nameB (bl f.n)
        case false =>
          have E := Lib.hid (show refChk l = 7 from rc_at HLB.out HZ.out (by rw [← HN.out]; exact hlt) (by rw [HE.out, if_pos (.inl hnb)]) (by decide))
          have HNB := Lib.hid hnb
          clear HE hnb
          go_wp2_with fail
          (with_reducible refine (name_any f.n _ hnl).mono ?_)
          rintro e w2 ⟨rfl, rfl⟩
          rw [HNB.out]
          go_wp2
          go_ret
          exact ⟨ret_int E.out.symm, HC1.out.trans HA.out (by simp)⟩
        have HNB := Lib.hid hnb
        have htk : takenB l (parents l) i = false := by rw [HI0.out]; rfl
        rw [if_neg (by rw [hnb, htk]; simp)] at HE
        clear hnb htk
        go_wp2_with fail
        (with_reducible refine (name_any f.n _ hnl).mono ?_)
        rintro e w2 ⟨rfl, rfl⟩
        rw [HNB.out]
        obtain ⟨b1, b2, b3, b4⟩ := HBX.out
        clear a1 a2 a3 a4 a5 a6 c5 c6 HBX HSA HPA
        have hways : (f.r < 0) ∨ (0 ≤ f.r ∧ 2 < f.r) ∨ (0 ≤ f.r ∧ f.r ≤ 2 ∧ f.k < 0) ∨ (0 ≤ f.r ∧ f.r ≤ 2 ∧ 0 ≤ f.k ∧ 4 < f.k) ∨ (0 ≤ f.r ∧ f.r ≤ 2 ∧ 0 ≤ f.k ∧ f.k ≤ 4 ∧ f.r ≠ 0) ∨ (0 ≤ f.r ∧ f.r ≤ 2 ∧ 0 ≤ f.k ∧ f.k ≤ 4 ∧ f.r = 0 ∧ f.k ≠ 0) ∨ (0 ≤ f.r ∧ f.r ≤ 2 ∧ 0 ≤ f.k ∧ f.k ≤ 4 ∧ f.r = 0 ∧ f.k = 0 ∧ f.c < 1) ∨ (0 ≤ f.r ∧ f.r ≤ 2 ∧ 0 ≤ f.k ∧ f.k ≤ 4 ∧ f.r = 0 ∧ f.k = 0 ∧ 1 ≤ f.c ∧ 40 < f.c) ∨ (0 ≤ f.r ∧ f.r ≤ 2 ∧ 0 ≤ f.k ∧ f.k ≤ 4 ∧ f.r = 0 ∧ f.k = 0 ∧ 1 ≤ f.c ∧ f.c ≤ 40) := by omega
        rcases hways with hw | hw | hw | hw | hw | hw | hw | hw | hw
        · have e0 : decide (f.r < 0) = true := by simp; omega
          have E := Lib.hid (show refChk l = 3 from rc_at HLB.out HZ.out (by rw [← HN.out]; exact hlt) (by rw [HE.out, if_pos (.inl (known_no (by omega)))]) (by decide))
          clear HE hw
          go_wp2
          go_ret
          exact ⟨ret_int E.out.symm, HC1.out.trans HA.out (by simp)⟩
        · have e0 : decide (f.r < 0) = false := by simp; omega
          have e1 : decide ((2 : Int) < f.r) = true := by simp; omega
          have E := Lib.hid (show refChk l = 3 from rc_at HLB.out HZ.out (by rw [← HN.out]; exact hlt) (by rw [HE.out, if_pos (.inl (known_no (by omega)))]) (by decide))
          clear HE hw
          go_wp2
          go_ret
          exact ⟨ret_int E.out.symm, HC1.out.trans HA.out (by simp)⟩
        · have e0 : decide (f.r < 0) = false := by simp; omega
          have e1 : decide ((2 : Int) < f.r) = false := by simp; omega
          have e2 : decide (f.k < 0) = true := by simp; omega
          have E := Lib.hid (show refChk l = 3 from rc_at HLB.out HZ.out (by rw [← HN.out]; exact hlt) (by rw [HE.out, if_pos (.inl (known_no (by omega)))]) (by decide))
          clear HE hw
          go_wp2
          go_ret
          exact ⟨ret_int E.out.symm, HC1.out.trans HA.out (by simp)⟩
        · have e0 : decide (f.r < 0) = false := by simp; omega
          have e1 : decide ((2 : Int) < f.r) = false := by simp; omega
          have e2 : decide (f.k < 0) = false := by simp; omega
          have e3 : decide ((4 : Int) < f.k) = true := by simp; omega
          have E := Lib.hid (show refChk l = 3 from rc_at HLB.out HZ.out (by rw [← HN.out]; exact hlt) (by rw [HE.out, if_pos (.inl (known_no (by omega)))]) (by decide))
          clear HE hw
          go_wp2
          go_ret
          exact ⟨ret_int E.out.symm, HC1.out.trans HA.out (by simp)⟩
        · have e0 : decide (f.r < 0) = false := by simp; omega
          have e1 : decide ((2 : Int) < f.r) = false := by simp; omega
          have e2 : decide (f.k < 0) = false := by simp; omega
          have e3 : decide ((4 : Int) < f.k) = false := by simp; omega
          have e4 : (f.r != 0) = true := by simp; omega
          have E := Lib.hid (show refChk l = 3 from rc_at HLB.out HZ.out (by rw [← HN.out]; exact hlt) (by rw [HE.out, if_pos (.inr ⟨HI0.out, root_no (by omega)⟩)]) (by decide))
          clear HE hw
          go_wp2
          go_ret
          exact ⟨ret_int E.out.symm, HC1.out.trans HA.out (by simp)⟩
        · have e0 : decide (f.r < 0) = false := by simp; omega
          have e1 : decide ((2 : Int) < f.r) = false := by simp; omega
          have e2 : decide (f.k < 0) = false := by simp; omega
          have e3 : decide ((4 : Int) < f.k) = false := by simp; omega
          have e4 : (f.r != 0) = false := by simp; omega
          have e5 : (f.k != 0) = true := by simp; omega
          have E := Lib.hid (show refChk l = 3 from rc_at HLB.out HZ.out (by rw [← HN.out]; exact hlt) (by rw [HE.out, if_pos (.inr ⟨HI0.out, root_no (by omega)⟩)]) (by decide))
          clear HE hw
          go_wp2
          go_ret
          exact ⟨ret_int E.out.symm, HC1.out.trans HA.out (by simp)⟩
        · have e0 : decide (f.r < 0) = false := by simp; omega
          have e1 : decide ((2 : Int) < f.r) = false := by simp; omega
          have e2 : decide (f.k < 0) = false := by simp; omega
          have e3 : decide ((4 : Int) < f.k) = false := by simp; omega
          have e4 : (f.r != 0) = false := by simp; omega
          have e5 : (f.k != 0) = false := by simp; omega
          have e6 : (f.k == 0) = true := by simp; omega
          have e7 : decide (f.c < 1) = true := by simp; omega
          have E := Lib.hid (show refChk l = 1 from rc_at HLB.out HZ.out (by rw [← HN.out]; exact hlt) (by rw [HE.out, if_neg (not3 (known_yes (by omega)) (.inr (root_yes (by omega)))), if_pos (have_no (by omega))]) (by decide))
          clear HE hw
          go_wp2
          go_ret
          exact ⟨ret_int E.out.symm, HC1.out.trans HA.out (by simp)⟩
        · have e0 : decide (f.r < 0) = false := by simp; omega
          have e1 : decide ((2 : Int) < f.r) = false := by simp; omega
          have e2 : decide (f.k < 0) = false := by simp; omega
          have e3 : decide ((4 : Int) < f.k) = false := by simp; omega
          have e4 : (f.r != 0) = false := by simp; omega
          have e5 : (f.k != 0) = false := by simp; omega
          have e6 : (f.k == 0) = true := by simp; omega
          have e7 : decide (f.c < 1) = false := by simp; omega
          have e8 : decide ((40 : Int) < f.c) = true := by simp; omega
          have HZ1 := Lib.hid (show fR l i = 0 from by rw [HE.out, if_neg (not3 (known_yes (by omega)) (.inr (root_yes (by omega)))), if_neg (nothave (have_yes (by omega)))])
          have E := Lib.hid (show refChk l = lackR l (i + 1) from rc_over HLB.out (fun j hj => upto_succ (P := fun j => fR l j = 0) HZ.out HZ1.out j (by omega)) (by rw [← HN.out]; exact hlt) (by rw [← HF.out]; omega))
          clear HE hw
          have hcast : ((i : Int) + 1) = ((i + 1 : Nat) : Int) := by omega
          have hrl := rlacks_any (.slice (some ⟨gs, os, none⟩) n cap) l (i + 1) _ (SeenK.keep HS.out (HC1.out.trans HA.out (by simp))) (by rw [← HN.out]; omega) (by omega) (by rw [← HN.out]; omega) HW.out HNM.out
          rw [← hcast] at hrl
          have HRL := Lib.hid hrl
          clear hrl hcast
          go_wp2_with fail
          (with_reducible refine HRL.out.mono ?_)
          rintro e w4 ⟨rfl, hk4⟩
          have HK4 := Lib.hid (HA.out.trans hk4 (by simp))
          clear hk4
          go_wp2
          go_ret
          exact ⟨ret_int E.out.symm, HC1.out.trans HK4.out (by simp)⟩
        · have e0 : decide (f.r < 0) = false := by simp; omega
          have e1 : decide ((2 : Int) < f.r) = false := by simp; omega
          have e2 : decide (f.k < 0) = false := by simp; omega
          have e3 : decide ((4 : Int) < f.k) = false := by simp; omega
          have e4 : (f.r != 0) = false := by simp; omega
          have e5 : (f.k != 0) = false := by simp; omega
          have e6 : (f.k == 0) = true := by simp; omega
          have e7 : decide (f.c < 1) = false := by simp; omega
          have e8 : decide ((40 : Int) < f.c) = false := by simp; omega
          have HZ1 := Lib.hid (show fR l i = 0 from by rw [HE.out, if_neg (not3 (known_yes (by omega)) (.inr (root_yes (by omega)))), if_neg (nothave (have_yes (by omega)))])
          have HKS := Lib.hid (show kidsTo l (i + 1) = K + f.c by rw [kidsTo_succ l i (by rw [← HN.out]; exact hlt), HK.out, HF.out])
          have hfc0 : 0 ≤ f.c ∧ f.c ≤ 40 := by omega
          clear HE hw
          go_wp2
          go_roundw
          case rel => exact ⟨i + 1, by go_num, by rw [HKS.out], by omega, HA.out, upto_succ (P := fun j => fR l j = 0) HZ.out HZ1.out, upto_succ (P := fun j => (l.getD j default).c ≤ 40) HC40.out (by rw [← HF.out]; exact hfc0.2), by rw [HKS.out]; omega, by rw [HKS.out]; push_cast; omega⟩
          case measure => simp [intOf]; omega
      · have hnz : 0 < i := by omega
        have hi2 : decide ((0 : Int) < (i : Int)) = true := by simp; omega
        have hi3 : ((i : Int) == 0) = false := by simp; omega
        by_cases hp1 : p = -1
        · have q1 : decide (p < 0) = true := by simp; omega
          have E := Lib.hid (show refChk l = 1 from rc_at HLB.out HZ.out (by rw [← HN.out]; exact hlt) (by rw [HE.out, if_pos ⟨by omega, hp1⟩]) (by decide))
          clear HE HBX HSA HPA hpar hp1
          go_wp2
          go_ret
          exact ⟨ret_int E.out.symm, HC1.out.trans HA.out (by simp)⟩
        have q1 : decide (p < 0) = false := by simp; omega
        by_cases hd8 : 8 < d
        · have q2 : decide ((8 : Int) < d) = true := by simpa using hd8
          have E := Lib.hid (show refChk l = 11 from rc_at HLB.out HZ.out (by rw [← HN.out]; exact hlt) (by rw [HE.out, if_neg (by omega), if_pos hd8]) (by decide))
          clear HE HBX HSA HPA
          go_wp2
          go_ret
          exact ⟨ret_int E.out.symm, HC1.out.trans HA.out (by simp)⟩
        have q2 : decide ((8 : Int) < d) = false := by simpa using hd8
        rw [if_neg (by omega), if_neg hd8] at HE
        clear hd8 hpar
        cases hnb : nameB (bl f.n)
        case false =>
          have E := Lib.hid (show refChk l = 7 from rc_at HLB.out HZ.out (by rw [← HN.out]; exact hlt) (by rw [HE.out, if_pos (.inl hnb)]) (by decide))
          have HNB := Lib.hid hnb
          clear HE hnb
          go_wp2_with fail
          (with_reducible refine (name_any f.n _ hnl).mono ?_)
          rintro e w2 ⟨rfl, rfl⟩
          rw [HNB.out]
          go_wp2
          go_ret
          exact ⟨ret_int E.out.symm, HC1.out.trans HA.out (by simp)⟩
        have HNB := Lib.hid hnb
        cases htk : takenB l (parents l) i
        case true =>
          have E := Lib.hid (show refChk l = 7 from rc_at HLB.out HZ.out (by rw [← HN.out]; exact hlt) (by rw [HE.out, if_pos (.inr htk)]) (by decide))
          have HTK := Lib.hid htk
          clear HE hnb htk
          go_wp2_with fail
          (with_reducible refine (name_any f.n _ hnl).mono ?_)
          rintro e w2 ⟨rfl, rfl⟩
          rw [HNB.out]
          go_wp2_with fail
          (with_reducible refine (twice_any _ _ l (parents l) i _ HSA.out HPA.out (parents_length l) (by rw [← HN.out]; exact hlt)).mono ?_)
          rintro e w3 ⟨rfl, hk3⟩
          have HK3 := Lib.hid (HA.out.trans hk3 (by simp))
          clear hk3
          rw [HTK.out]
          go_wp2
          go_ret
          exact ⟨ret_int E.out.symm, HC1.out.trans HK3.out (by simp)⟩
        have HTK := Lib.hid htk
        rw [if_neg (by rw [hnb, htk]; simp)] at HE
        clear hnb htk
        go_wp2_with fail
        (with_reducible refine (name_any f.n _ hnl).mono ?_)
        rintro e w2 ⟨rfl, rfl⟩
        rw [HNB.out]
        go_wp2_with fail
        (with_reducible refine (twice_any _ _ l (parents l) i _ HSA.out HPA.out (parents_length l) (by rw [← HN.out]; exact hlt)).mono ?_)
        rintro e w3 ⟨rfl, hk3⟩
        obtain ⟨b1, b2, b3, b4⟩ := HBX.out.keep hk3
        have HK3 := Lib.hid (HA.out.trans hk3 (by simp))
        clear hk3
        rw [HTK.out]
        clear a1 a2 a3 a4 a5 a6 c5 c6 HBX HSA HPA
        have hways : (f.r < 0) ∨ (0 ≤ f.r ∧ 2 < f.r) ∨ (0 ≤ f.r ∧ f.r ≤ 2 ∧ f.k < 0) ∨ (0 ≤ f.r ∧ f.r ≤ 2 ∧ 0 ≤ f.k ∧ 4 < f.k) ∨ (0 ≤ f.r ∧ f.r ≤ 2 ∧ 0 ≤ f.k ∧ f.k ≤ 4 ∧ f.k = 0 ∧ f.c < 1) ∨ (0 ≤ f.r ∧ f.r ≤ 2 ∧ 0 ≤ f.k ∧ f.k ≤ 4 ∧ f.k ≠ 0 ∧ f.c ≠ 0) ∨ (0 ≤ f.r ∧ f.r ≤ 2 ∧ 0 ≤ f.k ∧ f.k ≤ 4 ∧ f.k = 0 ∧ 1 ≤ f.c ∧ 40 < f.c) ∨ (0 ≤ f.r ∧ f.r ≤ 2 ∧ 0 ≤ f.k ∧ f.k ≤ 4 ∧ f.k = 0 ∧ 1 ≤ f.c ∧ f.c ≤ 40) ∨ (0 ≤ f.r ∧ f.r ≤ 2 ∧ 0 ≤ f.k ∧ f.k ≤ 4 ∧ f.k ≠ 0 ∧ f.c = 0) := by omega
        rcases hways with hw | hw | hw | hw | hw | hw | hw | hw | hw
        · have e0 : decide (f.r < 0) = true := by simp; omega
          have E := Lib.hid (show refChk l = 3 from rc_at HLB.out HZ.out (by rw [← HN.out]; exact hlt) (by rw [HE.out, if_pos (.inl (known_no (by omega)))]) (by decide))
          clear HE hw
          go_wp2
          go_ret
          exact ⟨ret_int E.out.symm, HC1.out.trans HK3.out (by simp)⟩
        · have e0 : decide (f.r < 0) = false := by simp; omega
          have e1 : decide ((2 : Int) < f.r) = true := by simp; omega
          have E := Lib.hid (show refChk l = 3 from rc_at HLB.out HZ.out (by rw [← HN.out]; exact hlt) (by rw [HE.out, if_pos (.inl (known_no (by omega)))]) (by decide))
          clear HE hw
          go_wp2
          go_ret
          exact ⟨ret_int E.out.symm, HC1.out.trans HK3.out (by simp)⟩
        · have e0 : decide (f.r < 0) = false := by simp; omega
          have e1 : decide ((2 : Int) < f.r) = false := by simp; omega
          have e2 : decide (f.k < 0) = true := by simp; omega
          have E := Lib.hid (show refChk l = 3 from rc_at HLB.out HZ.out (by rw [← HN.out]; exact hlt) (by rw [HE.out, if_pos (.inl (known_no (by omega)))]) (by decide))
          clear HE hw
          go_wp2
          go_ret
          exact ⟨ret_int E.out.symm, HC1.out.trans HK3.out (by simp)⟩
        · have e0 : decide (f.r < 0) = false := by simp; omega
          have e1 : decide ((2 : Int) < f.r) = false := by simp; omega
          have e2 : decide (f.k < 0) = false := by simp; omega
          have e3 : decide ((4 : Int) < f.k) = true := by simp; omega
          have E := Lib.hid (show refChk l = 3 from rc_at HLB.out HZ.out (by rw [← HN.out]; exact hlt) (by rw [HE.out, if_pos (.inl (known_no (by omega)))]) (by decide))
          clear HE hw
          go_wp2
          go_ret
          exact ⟨ret_int E.out.symm, HC1.out.trans HK3.out (by simp)⟩
        · have e0 : decide (f.r < 0) = false := by simp; omega
          have e1 : decide ((2 : Int) < f.r) = false := by simp; omega
          have e2 : decide (f.k < 0) = false := by simp; omega
          have e3 : decide ((4 : Int) < f.k) = false := by simp; omega
          have e4 : (f.k == 0) = true := by simp; omega
          have e5 : decide (f.c < 1) = true := by simp; omega
          have E := Lib.hid (show refChk l = 1 from rc_at HLB.out HZ.out (by rw [← HN.out]; exact hlt) (by rw [HE.out, if_neg (not3 (known_yes (by omega)) (.inl (by omega))), if_pos (have_no (by omega))]) (by decide))
          clear HE hw
          go_wp2
          go_ret
          exact ⟨ret_int E.out.symm, HC1.out.trans HK3.out (by simp)⟩
        · have e0 : decide (f.r < 0) = false := by simp; omega
          have e1 : decide ((2 : Int) < f.r) = false := by simp; omega
          have e2 : decide (f.k < 0) = false := by simp; omega
          have e3 : decide ((4 : Int) < f.k) = false := by simp; omega
          have e4 : (f.k == 0) = false := by simp; omega
          have e5 : (f.k != 0) = true := by simp; omega
          have e6 : (f.c != 0) = true := by simp; omega
          have E := Lib.hid (show refChk l = 1 from rc_at HLB.out HZ.out (by rw [← HN.out]; exact hlt) (by rw [HE.out, if_neg (not3 (known_yes (by omega)) (.inl (by omega))), if_pos (have_no (by omega))]) (by decide))
          clear HE hw
          go_wp2
          go_ret
          exact ⟨ret_int E.out.symm, HC1.out.trans HK3.out (by simp)⟩
        · have e0 : decide (f.r < 0) = false := by simp; omega
          have e1 : decide ((2 : Int) < f.r) = false := by simp; omega
          have e2 : decide (f.k < 0) = false := by simp; omega
          have e3 : decide ((4 : Int) < f.k) = false := by simp; omega
          have e4 : (f.k == 0) = true := by simp; omega
          have e5 : decide (f.c < 1) = false := by simp; omega
          have e6 : (f.k != 0) = false := by simp; omega
          have e7 : decide ((40 : Int) < f.c) = true := by simp; omega
          have HZ1 := Lib.hid (show fR l i = 0 from by rw [HE.out, if_neg (not3 (known_yes (by omega)) (.inl (by omega))), if_neg (nothave (have_yes (by omega)))])
          have E := Lib.hid (show refChk l = lackR l (i + 1) from rc_over HLB.out (fun j hj => upto_succ (P := fun j => fR l j = 0) HZ.out HZ1.out j (by omega)) (by rw [← HN.out]; exact hlt) (by rw [← HF.out]; omega))
          clear HE hw
          have hcast : ((i : Int) + 1) = ((i + 1 : Nat) : Int) := by omega
          have hrl := rlacks_any (.slice (some ⟨gs, os, none⟩) n cap) l (i + 1) _ (SeenK.keep HS.out (HC1.out.trans HK3.out (by simp))) (by rw [← HN.out]; omega) (by omega) (by rw [← HN.out]; omega) HW.out HNM.out
          rw [← hcast] at hrl
          have HRL := Lib.hid hrl
          clear hrl hcast
          go_wp2_with fail
          (with_reducible refine HRL.out.mono ?_)
          rintro e w4 ⟨rfl, hk4⟩
          have HK4 := Lib.hid (HK3.out.trans hk4 (by simp))
          clear hk4
          go_wp2
          go_ret
          exact ⟨ret_int E.out.symm, HC1.out.trans HK4.out (by simp)⟩
        · have e0 : decide (f.r < 0) = false := by simp; omega
          have e1 : decide ((2 : Int) < f.r) = false := by simp; omega
          have e2 : decide (f.k < 0) = false := by simp; omega
          have e3 : decide ((4 : Int) < f.k) = false := by simp; omega
          have e4 : (f.k == 0) = true := by simp; omega
          have e5 : decide (f.c < 1) = false := by simp; omega
          have e6 : (f.k != 0) = false := by simp; omega
          have e7 : decide ((40 : Int) < f.c) = false := by simp; omega
          have HZ1 := Lib.hid (show fR l i = 0 from by rw [HE.out, if_neg (not3 (known_yes (by omega)) (.inl (by omega))), if_neg (nothave (have_yes (by omega)))])
          have HKS := Lib.hid (show kidsTo l (i + 1) = K + f.c by rw [kidsTo_succ l i (by rw [← HN.out]; exact hlt), HK.out, HF.out])
          have hfc0 : 0 ≤ f.c ∧ f.c ≤ 40 := by omega
          clear HE hw
          go_wp2
          go_roundw
          case rel => exact ⟨i + 1, by go_num, by rw [HKS.out], by omega, HK3.out, upto_succ (P := fun j => fR l j = 0) HZ.out HZ1.out, upto_succ (P := fun j => (l.getD j default).c ≤ 40) HC40.out (by rw [← HF.out]; exact hfc0.2), by rw [HKS.out]; omega, by rw [HKS.out]; push_cast; omega⟩
          case measure => simp [intOf]; omega
        · have e0 : decide (f.r < 0) = false := by simp; omega
          have e1 : decide ((2 : Int) < f.r) = false := by simp; omega
          have e2 : decide (f.k < 0) = false := by simp; omega
          have e3 : decide ((4 : Int) < f.k) = false := by simp; omega
          have e4 : (f.k == 0) = false := by simp; omega
          have e5 : (f.k != 0) = true := by simp; omega
          have e6 : (f.c != 0) = false := by simp; omega
          have e7 : decide ((40 : Int) < f.c) = false := by simp; omega
          have HZ1 := Lib.hid (show fR l i = 0 from by rw [HE.out, if_neg (not3 (known_yes (by omega)) (.inl (by omega))), if_neg (nothave (have_yes (by omega)))])
          have HKS := Lib.hid (show kidsTo l (i + 1) = K + f.c by rw [kidsTo_succ l i (by rw [← HN.out]; exact hlt), HK.out, HF.out])
          have hfc0 : 0 ≤ f.c ∧ f.c ≤ 40 := by omega
          clear HE hw
          go_wp2
          go_roundw
          case rel => exact ⟨i + 1, by go_num, by rw [HKS.out], by omega, HK3.out, upto_succ (P := fun j => fR l j = 0) HZ.out HZ1.out, upto_succ (P := fun j => (l.getD j default).c ≤ 40) HC40.out (by rw [← HF.out]; exact hfc0.2), by rw [HKS.out]; omega, by rw [HKS.out]; push_cast; omega⟩
          case measure => simp [intOf]; omega
    · have ei : i = n := by omega
      have E := Lib.hid (show refChk l = if K ≠ (n : Int) - 1 then 1 else 0 by
        have e : K = (l.map F.c).sum := by rw [HK.out, ei, HN.out]; unfold kidsTo; rw [List.take_length]
        rw [rc_end HLB.out (by rw [← HN.out, ← ei]; exact HZ.out) (by rw [← HN.out, ← ei]; exact HC40.out), ← e, HN.out])
      clear ei
      by_cases hkk : K = (n : Int) - 1
      · have q9 : ¬ (K ≠ (n : Int) - 1) := by omega
        rw [if_neg q9] at E
        go_wp2
        go_ret
        exact ⟨ret_int E.out.symm, HC1.out.trans HC.out (by simp)⟩
      · have q9 : ¬ (K = (n : Int) - 1) := hkk
        rw [if_pos hkk] at E
        go_wp2
        go_ret
        exact ⟨ret_int E.out.symm, HC1.out.trans HC.out (by simp)⟩


end Go.Proofs.Ytpffgelllabfnaa
