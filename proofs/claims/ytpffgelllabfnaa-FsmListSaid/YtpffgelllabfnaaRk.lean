/- Contracts of the reference's lacks and Check. (Written by genrk.py.) -/
import Derived.Test.YtpffgelllabfnaaRl
import Derived.Test.YtpffgelllabfnaaTw
import Derived.Test.YtpffgelllabfnaaA5
namespace Go.Proofs.Ytpffgelllabfnaa
open Go.RowKit
set_option linter.unusedVariables false

def fR (l : List F) (j : Nat) : Int := faultN l (parents l) (depthsR l) j
/-- What is wrong first from a field on; else 1. -/
def lackR (l : List F) (from_ : Nat) : Int := if firstN (fun j => if j < from_ then 0 else fR l j) l.length ≠ 0 then firstN (fun j => if j < from_ then 0 else fR l j) l.length else 1

theorem lackR_at {l : List F} {a k : Nat} {v : Int} (h : ∀ j, a ≤ j → j < k → fR l j = 0) (ha : a ≤ k) (hk : k < l.length) (hv : fR l k = v) (h0 : v ≠ 0) : lackR l a = v := by
  have e : firstN (fun j => if j < a then 0 else fR l j) l.length = v := by
    rw [firstN_at (p := fun j => if j < a then 0 else fR l j) (k := k) _ hk _]
    · rw [if_neg (by omega), hv]
    · intro j hj
      split
      · rfl
      · exact h j (by omega) hj
    · rw [if_neg (by omega), hv]; exact h0
  unfold lackR
  rw [e, if_pos h0]

theorem lackR_end {l : List F} {a : Nat} (h : ∀ j, a ≤ j → j < l.length → fR l j = 0) : lackR l a = 1 := by
  have e : firstN (fun j => if j < a then 0 else fR l j) l.length = 0 := firstN_zero (fun j hj => by
    split
    · rfl
    · exact h j (by omega) hj)
  unfold lackR
  rw [e, if_neg (by simp)]

theorem rc_at {l : List F} {k : Nat} {v : Int} (hl : ¬ (l.length < 1 ∨ 40 < l.length)) (h : ∀ j, j < k → fR l j = 0) (hk : k < l.length) (hv : fR l k = v) (h0 : v ≠ 0) : refChk l = v := by
  have e : firstN (faultN l (parents l) (depthsR l)) l.length = v := by
    rw [firstN_at (p := faultN l (parents l) (depthsR l)) h hk (by rw [show faultN l (parents l) (depthsR l) k = v from hv]; exact h0)]
    exact hv
  unfold refChk
  rw [if_neg hl, e, if_pos h0]

theorem rc_over {l : List F} {k : Nat} (hl : ¬ (l.length < 1 ∨ 40 < l.length)) (h : ∀ j, j ≤ k → fR l j = 0) (hk : k < l.length) (hc : 40 < (l.getD k default).c) : refChk l = lackR l (k + 1) := by
  have e : firstN (faultN l (parents l) (depthsR l)) l.length = firstN (fun j => if j < k + 1 then 0 else fR l j) l.length := by
    apply firstN_congr
    intro i hi hz
    split
    · exact h i (by omega)
    · rfl
  have e2 : (l.any fun f => decide (40 < f.c)) = true := by
    rw [List.any_eq_true]
    refine ⟨l.getD k default, ?_, by simpa using hc⟩
    rw [List.getD, List.getElem?_eq_getElem hk]
    exact List.getElem_mem hk
  unfold refChk lackR
  rw [if_neg hl, e, e2]
  simp

theorem rc_end {l : List F} (hl : ¬ (l.length < 1 ∨ 40 < l.length)) (h : ∀ j, j < l.length → fR l j = 0) (hc : ∀ j, j < l.length → (l.getD j default).c ≤ 40) : refChk l = if (l.map F.c).sum ≠ (l.length : Int) - 1 then 1 else 0 := by
  have e : firstN (faultN l (parents l) (depthsR l)) l.length = 0 := firstN_zero h
  have e2 : (l.any fun f => decide (40 < f.c)) = false := by
    rw [Bool.eq_false_iff]
    intro h1
    rw [List.any_eq_true] at h1
    obtain ⟨f, hf, h2⟩ := h1
    obtain ⟨j, hj⟩ := List.mem_iff_getElem?.1 hf
    have := hc j (List.getElem?_eq_some_iff.1 hj).1
    rw [List.getD, hj] at this
    simp at h2 this
    omega
  unfold refChk
  rw [if_neg hl, e, if_neg (by simp), e2, if_neg (by simp)]

/-- How many fields the first i say. -/
def kidsTo (l : List F) (i : Nat) : Int := ((l.take i).map F.c).sum
theorem kidsTo_succ (l : List F) (i : Nat) (h : i < l.length) : kidsTo l (i + 1) = kidsTo l i + (l.getD i default).c := by
  unfold kidsTo
  rw [List.take_add_one, List.getElem?_eq_getElem h, Option.toList, List.map_append, List.sum_append]
  simp only [List.map_cons, List.map_nil, List.sum_cons, List.sum_nil, Int.add_zero, List.getD, List.getElem?_eq_getElem h, Option.getD_some]

theorem upto_succ {P : Nat → Prop} {i : Nat} (h : ∀ j, j < i → P j) (hi : P i) : ∀ j, j < i + 1 → P j := by
  intro j hj
  by_cases e : j = i
  · rw [e]; exact hi
  · exact h j (by omega)
theorem upto_succ2 {P : Nat → Prop} {a i : Nat} (h : ∀ j, a ≤ j → j < i → P j) (hi : P i) : ∀ j, a ≤ j → j < i + 1 → P j := by
  intro j ha hj
  by_cases e : j = i
  · rw [e]; exact hi
  · exact h j ha (by omega)

theorem known_yes {f : F} (h : 0 ≤ f.r ∧ f.r ≤ 2 ∧ 0 ≤ f.k ∧ f.k ≤ 4) : knownB f = true := by simp [knownB, h]
theorem known_no {f : F} (h : ¬ (0 ≤ f.r ∧ f.r ≤ 2 ∧ 0 ≤ f.k ∧ f.k ≤ 4)) : knownB f = false := by
  cases hb : knownB f
  · rfl
  · exact absurd (by simpa [knownB] using hb) h
theorem root_yes {f : F} (h : f.r = 0 ∧ f.k = 0) : rootB f = true := by simp [rootB, h]
theorem root_no {f : F} (h : ¬ (f.r = 0 ∧ f.k = 0)) : rootB f = false := by
  cases hb : rootB f
  · rfl
  · exact absurd (by simpa [rootB] using hb) h
theorem have_yes {f : F} (h : f.k = 0 ∧ 1 ≤ f.c ∨ f.k ≠ 0 ∧ f.c = 0) : haveB f = true := by
  unfold haveB
  rcases h with ⟨h1, h2⟩ | ⟨h1, h2⟩
  · rw [if_pos h1]; simpa using h2
  · rw [if_neg h1]; simpa using h2
theorem have_no {f : F} (h : f.k = 0 ∧ f.c < 1 ∨ f.k ≠ 0 ∧ f.c ≠ 0) : haveB f = false := by
  unfold haveB
  rcases h with ⟨h1, h2⟩ | ⟨h1, h2⟩
  · rw [if_pos h1]; simp; omega
  · rw [if_neg h1]; simpa using h2
theorem not3 {f : F} {i : Nat} (h : knownB f = true) (h2 : i ≠ 0 ∨ rootB f = true) : ¬ (knownB f = false ∨ i = 0 ∧ rootB f = false) := by
  rintro (h3 | ⟨h3, h4⟩)
  · rw [h] at h3; cases h3
  · rcases h2 with h2 | h2
    · exact h2 h3
    · rw [h2] at h4; cases h4
theorem nothave {f : F} (h : haveB f = true) : ¬ haveB f = false := by rw [h]; simp

set_option maxRecDepth 100000 in
set_option maxHeartbeats 8000000 in
theorem rlacks_any (sv : Value) (l : List F) (a : Nat) (w : World) (hS : SeenF w sv l) (hl : l.length ≤ 40) (ha : 0 < a) (hal : a ≤ l.length) (hw : ∀ f ∈ l, f.c ≤ 9223372036854775807) (hn : ∀ f ∈ l, f.n.size ≤ 1000000) :
    Calls Try.prog 34 #[sv, .int .i64 (a : Int)] w fun e w' => e = .returned (.int .i64 (lackR l a)) ∧ Chg [] w w' := by
  obtain ⟨ao, cap, rfl, hc1, hc2⟩ := hS.shape
  have HS := Lib.hid hS; have HW := Lib.hid hw; have HNM := Lib.hid hn
  clear hS hw hn
  obtain ⟨n, hnn⟩ : ∃ n, n = l.length := ⟨_, rfl⟩
  rw [← hnn] at hc1 hl hal HS ⊢
  have HN := Lib.hid hnn
  clear hnn
  go_enter Try.func34, Try.ntmps34
  go_wp2_with fail
  (with_reducible refine (rwalk_any _ l w HS.out (by rw [← HN.out]; omega) HW.out).mono ?_)
  rw [← HN.out]
  rintro e w1 ⟨pv, dv, rfl, hp, hd, hk⟩
  obtain ⟨pa, pc, rfl⟩ := own_shape hp
  obtain ⟨da, dc, rfl⟩ := own_shape hd
  have HP := Lib.hid (own_seenI hp (by rw [parents_length, HN.out])); have HD := Lib.hid (own_seenI hd (by unfold depthsR; rw [depR_length, HN.out])); have HC1 := Lib.hid hk
  clear hp hd hk
  go_wp2
  go_loopw [7] (fun x w' => ∃ i : Nat, x = .int .i64 (i : Int) ∧ a ≤ i ∧ i ≤ n ∧ Chg [] w1 w' ∧ (∀ j, a ≤ j → j < i → fR l j = 0)) (fun x _ => n - (intOf x).toNat)
  case atStart => exact ⟨a, rfl, Nat.le_refl _, hal, Chg.refl _ _, fun j h1 h2 => absurd h2 (by omega)⟩
  case round =>
    obtain ⟨i, rfl, hai, hi, hc, hz⟩ := hrel
    have HC := Lib.hid hc; have HZ := Lib.hid hz
    clear hc hz
    by_cases hlt : i < n
    · have HSW := Lib.hid (HS.out.keep (HC1.out.trans HC.out (by simp)))
      have HPW := Lib.hid (HP.out.keep HC.out)
      obtain ⟨gs, os, rfl, hss⟩ := SeenF.get HSW.out (by omega) HN.out.symm
      obtain ⟨gp, op, rfl, hpp⟩ := SeenI.get HPW.out (by omega) (by rw [parents_length, ← HN.out])
      obtain ⟨gd, od, rfl, hdd⟩ := SeenI.get (SeenK.keep HD.out HC.out) (by omega) (by unfold depthsR; rw [depR_length, ← HN.out])
      obtain ⟨a1, a2, a3, a4⟩ := hss i hlt
      have a5 := hpp i hlt
      have a6 := hdd i hlt
      have hx : l[i]? = some (l.getD i default) := by rw [List.getD, List.getElem?_eq_getElem (by rw [← HN.out]; exact hlt)]; rfl
      have hpar : (parents l).getD i 0 = -1 ∨ 0 ≤ (parents l).getD i 0 ∧ (parents l).getD i 0 < i := parents_lt (l := l) (j := i) (by rw [List.getD, List.getElem?_eq_getElem (by rw [parents_length, ← HN.out]; exact hlt)]; rfl)
      obtain ⟨f, hf⟩ : ∃ f, f = l.getD i default := ⟨_, rfl⟩
      obtain ⟨p, hp⟩ : ∃ p, p = (parents l).getD i 0 := ⟨_, rfl⟩
      obtain ⟨d, hd⟩ : ∃ d, d = (depthsR l).getD i 0 := ⟨_, rfl⟩
      rw [← hf] at a1 a2 a3 a4 hx; rw [← hp] at a5 hpar; rw [← hd] at a6
      have HE := Lib.hid (show fR l i = if 0 < i ∧ p = -1 then 1 else if 8 < d then 11 else if nameB (bl f.n) = false ∨ takenB l (parents l) i = true then 7 else if knownB f = false ∨ (i = 0 ∧ rootB f = false) then 3 else if haveB f = false then 1 else 0 by unfold fR faultN; rw [hf, hp, hd])
      have HF := Lib.hid hf
      have hnl : f.n.size ≤ 1000000 := HNM.out f (List.mem_of_getElem? hx)
      have hfc : f.c ≤ 9223372036854775807 := HW.out f (List.mem_of_getElem? hx)
      clear hss hpp hdd hx hf hp hd
      have c5 : ∀ o, (wr.alloc o).cell? ⟨gp, op + i, none⟩ = some (.int .i64 p) := fun o => ((Chg.refl [] wr).alloc o).cell a5 (by simp)
      have c6 : ∀ o, (wr.alloc o).cell? ⟨gd, od + i, none⟩ = some (.int .i64 d) := fun o => ((Chg.refl [] wr).alloc o).cell a6 (by simp)
      have HA := Lib.hid (HC.out.alloc (.cells #[.string f.n, .int .i64 f.r, .int .i64 f.k, .int .i64 f.c] 46))
      have HBX := Lib.hid (Box.new wr f 46)
      have HSA := Lib.hid (SeenK.keep HSW.out ((Chg.refl [] wr).alloc (.cells #[.string f.n, .int .i64 f.r, .int .i64 f.k, .int .i64 f.c] 46)))
      have HPA := Lib.hid (SeenK.keep HPW.out ((Chg.refl [] wr).alloc (.cells #[.string f.n, .int .i64 f.r, .int .i64 f.k, .int .i64 f.c] 46)))
      by_cases hp1 : p = -1
      · have q1 : decide (p < 0) = true := by simp; omega
        have E := Lib.hid (show lackR l a = 1 from lackR_at HZ.out hai (by rw [← HN.out]; exact hlt) (by rw [HE.out, if_pos ⟨by omega, hp1⟩]) (by decide))
        clear HE HBX HSA HPA hpar hp1
        go_wp2
        go_ret
        exact ⟨ret_int E.out.symm, HC1.out.trans HA.out (by simp)⟩
      have q1 : decide (p < 0) = false := by simp; omega
      by_cases hd8 : 8 < d
      · have q2 : decide ((8 : Int) < d) = true := by simpa using hd8
        have E := Lib.hid (show lackR l a = 11 from lackR_at HZ.out hai (by rw [← HN.out]; exact hlt) (by rw [HE.out, if_neg (by omega), if_pos hd8]) (by decide))
        clear HE HBX HSA HPA
        go_wp2
        go_ret
        exact ⟨ret_int E.out.symm, HC1.out.trans HA.out (by simp)⟩
      have q2 : decide ((8 : Int) < d) = false := by simpa using hd8
      rw [if_neg (by omega), if_neg hd8] at HE
      clear hd8 hpar
      cases hnb : nameB (bl f.n)
      case false =>
        have E := Lib.hid (show lackR l a = 7 from lackR_at HZ.out hai (by rw [← HN.out]; exact hlt) (by rw [HE.out, if_pos (.inl hnb)]) (by decide))
        have HNB := Lib.hid hnb
        clear HE hnb
        go_wp2_with fail
        (with_reducible refine (name_any f.n _ hnl).mono ?_)
        rintro e w2 ⟨rfl, rfl⟩
        rw [HNB.out]
        go_wp2
        go_ret
        exact ⟨ret_int E.out.symm, HC1.out.trans HA.out (by simp)⟩
      have HNB := Lib.hid hnb
      cases htk : takenB l (parents l) i
      case true =>
        have E := Lib.hid (show lackR l a = 7 from lackR_at HZ.out hai (by rw [← HN.out]; exact hlt) (by rw [HE.out, if_pos (.inr htk)]) (by decide))
        have HTK := Lib.hid htk
        clear HE hnb htk
        go_wp2_with fail
        (with_reducible refine (name_any f.n _ hnl).mono ?_)
        rintro e w2 ⟨rfl, rfl⟩
        rw [HNB.out]
        go_wp2_with fail
        (with_reducible refine (twice_any _ _ l (parents l) i _ HSA.out HPA.out (parents_length l) (by rw [← HN.out]; exact hlt)).mono ?_)
        rintro e w3 ⟨rfl, hk3⟩
        have HK3 := Lib.hid (HA.out.trans hk3 (by simp))
        clear hk3
        rw [HTK.out]
        go_wp2
        go_ret
        exact ⟨ret_int E.out.symm, HC1.out.trans HK3.out (by simp)⟩
      have HTK := Lib.hid htk
      rw [if_neg (by rw [hnb, htk]; simp)] at HE
      clear hnb htk
      go_wp2_with fail
      (with_reducible refine (name_any f.n _ hnl).mono ?_)
      rintro e w2 ⟨rfl, rfl⟩
      rw [HNB.out]
      go_wp2_with fail
      (with_reducible refine (twice_any _ _ l (parents l) i _ HSA.out HPA.out (parents_length l) (by rw [← HN.out]; exact hlt)).mono ?_)
      rintro e w3 ⟨rfl, hk3⟩
      obtain ⟨b1, b2, b3, b4⟩ := HBX.out.keep hk3
      have HK3 := Lib.hid (HA.out.trans hk3 (by simp))
      clear hk3
      rw [HTK.out]
      clear a1 a2 a3 a4 a5 a6 c5 c6 HBX HSA HPA
      have hways : (f.r < 0) ∨ (0 ≤ f.r ∧ 2 < f.r) ∨ (0 ≤ f.r ∧ f.r ≤ 2 ∧ f.k < 0) ∨ (0 ≤ f.r ∧ f.r ≤ 2 ∧ 0 ≤ f.k ∧ 4 < f.k) ∨ (0 ≤ f.r ∧ f.r ≤ 2 ∧ 0 ≤ f.k ∧ f.k ≤ 4 ∧ f.k = 0 ∧ f.c < 1) ∨ (0 ≤ f.r ∧ f.r ≤ 2 ∧ 0 ≤ f.k ∧ f.k ≤ 4 ∧ f.k ≠ 0 ∧ f.c ≠ 0) ∨ (0 ≤ f.r ∧ f.r ≤ 2 ∧ 0 ≤ f.k ∧ f.k ≤ 4 ∧ f.k = 0 ∧ 1 ≤ f.c) ∨ (0 ≤ f.r ∧ f.r ≤ 2 ∧ 0 ≤ f.k ∧ f.k ≤ 4 ∧ f.k ≠ 0 ∧ f.c = 0) := by omega
      rcases hways with hw | hw | hw | hw | hw | hw | hw | hw
      · have e0 : decide (f.r < 0) = true := by simp; omega
        have E := Lib.hid (show lackR l a = 3 from lackR_at HZ.out hai (by rw [← HN.out]; exact hlt) (by rw [HE.out, if_pos (.inl (known_no (by omega)))]) (by decide))
        clear HE hw
        go_wp2
        go_ret
        exact ⟨ret_int E.out.symm, HC1.out.trans HK3.out (by simp)⟩
      · have e0 : decide (f.r < 0) = false := by simp; omega
        have e1 : decide ((2 : Int) < f.r) = true := by simp; omega
        have E := Lib.hid (show lackR l a = 3 from lackR_at HZ.out hai (by rw [← HN.out]; exact hlt) (by rw [HE.out, if_pos (.inl (known_no (by omega)))]) (by decide))
        clear HE hw
        go_wp2
        go_ret
        exact ⟨ret_int E.out.symm, HC1.out.trans HK3.out (by simp)⟩
      · have e0 : decide (f.r < 0) = false := by simp; omega
        have e1 : decide ((2 : Int) < f.r) = false := by simp; omega
        have e2 : decide (f.k < 0) = true := by simp; omega
        have E := Lib.hid (show lackR l a = 3 from lackR_at HZ.out hai (by rw [← HN.out]; exact hlt) (by rw [HE.out, if_pos (.inl (known_no (by omega)))]) (by decide))
        clear HE hw
        go_wp2
        go_ret
        exact ⟨ret_int E.out.symm, HC1.out.trans HK3.out (by simp)⟩
      · have e0 : decide (f.r < 0) = false := by simp; omega
        have e1 : decide ((2 : Int) < f.r) = false := by simp; omega
        have e2 : decide (f.k < 0) = false := by simp; omega
        have e3 : decide ((4 : Int) < f.k) = true := by simp; omega
        have E := Lib.hid (show lackR l a = 3 from lackR_at HZ.out hai (by rw [← HN.out]; exact hlt) (by rw [HE.out, if_pos (.inl (known_no (by omega)))]) (by decide))
        clear HE hw
        go_wp2
        go_ret
        exact ⟨ret_int E.out.symm, HC1.out.trans HK3.out (by simp)⟩
      · have e0 : decide (f.r < 0) = false := by simp; omega
        have e1 : decide ((2 : Int) < f.r) = false := by simp; omega
        have e2 : decide (f.k < 0) = false := by simp; omega
        have e3 : decide ((4 : Int) < f.k) = false := by simp; omega
        have e4 : (f.k == 0) = true := by simp; omega
        have e5 : decide (f.c < 1) = true := by simp; omega
        have E := Lib.hid (show lackR l a = 1 from lackR_at HZ.out hai (by rw [← HN.out]; exact hlt) (by rw [HE.out, if_neg (not3 (known_yes (by omega)) (.inl (by omega))), if_pos (have_no (by omega))]) (by decide))
        clear HE hw
        go_wp2
        go_ret
        exact ⟨ret_int E.out.symm, HC1.out.trans HK3.out (by simp)⟩
      · have e0 : decide (f.r < 0) = false := by simp; omega
        have e1 : decide ((2 : Int) < f.r) = false := by simp; omega
        have e2 : decide (f.k < 0) = false := by simp; omega
        have e3 : decide ((4 : Int) < f.k) = false := by simp; omega
        have e4 : (f.k == 0) = false := by simp; omega
        have e5 : (f.k != 0) = true := by simp; omega
        have e6 : (f.c != 0) = true := by simp; omega
        have E := Lib.hid (show lackR l a = 1 from lackR_at HZ.out hai (by rw [← HN.out]; exact hlt) (by rw [HE.out, if_neg (not3 (known_yes (by omega)) (.inl (by omega))), if_pos (have_no (by omega))]) (by decide))
        clear HE hw
        go_wp2
        go_ret
        exact ⟨ret_int E.out.symm, HC1.out.trans HK3.out (by simp)⟩
      · have e0 : decide (f.r < 0) = false := by simp; omega
        have e1 : decide ((2 : Int) < f.r) = false := by simp; omega
        have e2 : decide (f.k < 0) = false := by simp; omega
        have e3 : decide ((4 : Int) < f.k) = false := by simp; omega
        have e4 : (f.k == 0) = true := by simp; omega
        have e5 : decide (f.c < 1) = false := by simp; omega
        have e6 : (f.k != 0) = false := by simp; omega
        have HZ1 := Lib.hid (show fR l i = 0 from by rw [HE.out, if_neg (not3 (known_yes (by omega)) (.inl (by omega))), if_neg (nothave (have_yes (by omega)))])
        clear HE hw
        go_wp2
        go_roundw
        case rel => exact ⟨i + 1, by go_num, by omega, by omega, HK3.out, upto_succ2 (P := fun j => fR l j = 0) HZ.out HZ1.out⟩
        case measure => simp [intOf]; omega
      · have e0 : decide (f.r < 0) = false := by simp; omega
        have e1 : decide ((2 : Int) < f.r) = false := by simp; omega
        have e2 : decide (f.k < 0) = false := by simp; omega
        have e3 : decide ((4 : Int) < f.k) = false := by simp; omega
        have e4 : (f.k == 0) = false := by simp; omega
        have e5 : (f.k != 0) = true := by simp; omega
        have e6 : (f.c != 0) = false := by simp; omega
        have HZ1 := Lib.hid (show fR l i = 0 from by rw [HE.out, if_neg (not3 (known_yes (by omega)) (.inl (by omega))), if_neg (nothave (have_yes (by omega)))])
        clear HE hw
        go_wp2
        go_roundw
        case rel => exact ⟨i + 1, by go_num, by omega, by omega, HK3.out, upto_succ2 (P := fun j => fR l j = 0) HZ.out HZ1.out⟩
        case measure => simp [intOf]; omega
    · have ei : i = n := by omega
      have E := Lib.hid (show lackR l a = 1 from lackR_end (by rw [← HN.out, ← ei]; exact HZ.out))
      clear ei
      go_wp2
      go_ret
      exact ⟨ret_int E.out.symm, HC1.out.trans HC.out (by simp)⟩


end Go.Proofs.Ytpffgelllabfnaa
