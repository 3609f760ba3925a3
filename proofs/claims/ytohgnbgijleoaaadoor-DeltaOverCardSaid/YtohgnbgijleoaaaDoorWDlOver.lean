/- The walk of the statement DeltaOver. -/
import Derived.Test.YtohgnbgijleoaaaDoorDq
import Derived.Test.YtohgnbgijleoaaaDoorDg
namespace Go.Proofs.YtohgnbgijleoaaaDoor
open Go.RowKit
set_option linter.unusedVariables false
set_option linter.unusedSimpArgs false

theorem in_int32 {n : Int} : (-2147483648 ≤ n ∧ n ≤ 2147483647) ∨ n < -2147483648 ∨ 2147483647 < n := by omega

set_option maxRecDepth 100000 in
set_option maxHeartbeats 4000000 in
theorem walk_DeltaOver (a0 a1 : Int) (w : World) (hT : Laid w) (w0 : (Lit.int .i64 a0).wf = true) (w1 : (Lit.int .i64 a1).wf = true) :
    Calls Tryd.prog 6 #[.int .i64 a0, .int .i64 a1] w fun e w' => e = .returned (.bool true) ∧ Below w.heap.size w w' := by
  have HT := Lib.hid hT
  have h64 := wf_i64 w0
  have HIN := Lib.hid (show In64 a0 by unfold In64; exact h64)
  have HQ := Lib.hid (fun wx => within12 a1 300 300 wx rfl (by decide) (by decide) w1)
  obtain ⟨K, hK⟩ : ∃ K, K = (a1 % ((300 : Nat) : Int)).toNat := ⟨_, rfl⟩
  have hK3 : K < 300 := by rw [hK]; exact within_lt a1 300 (by decide)
  rw [← hK] at HQ
  obtain ⟨m, hm⟩ : ∃ m : Int, m = (K : Int) - 100 := ⟨_, rfl⟩
  have hwr : IntKind.i64.wrap ((K : Int) - 100) = m := by rw [← hm]; exact IntWalk.i64_in _ (by omega)
  have hmb : -100 ≤ m ∧ m ≤ 200 := by omega
  obtain ⟨z, hz⟩ : ∃ z : Nat, max m 0 = (z : Int) := ⟨(max m 0).toNat, by omega⟩
  have HMI := Lib.hid (show ∀ x ∈ [m], In64 x from fun x hx => by simp at hx; subst hx; unfold In64; omega)
  have HNI := Lib.hid (show ∀ x ∈ [a0, 5], In64 x from fun x hx => by
    simp at hx
    rcases hx with rfl | rfl
    · exact HIN.out
    · unfold In64; omega)
  have hl1 := intsE_len [a0, 5] HNI.out
  have hl2 := intsE_len [m] HMI.out
  have D2 := Lib.hid (dec_two a0 HIN.out)
  have D4 := Lib.hid (dec_long m hmb (List.replicate z 0) (by rw [List.length_replicate]; exact hz.symm))
  have HB1 := Lib.hid (intsE_bytes [a0, 5])
  have HB2 := Lib.hid (intsE_bytes [m])
  have HST := Lib.hid (str_size (List.replicate z 0))
  obtain ⟨I1, hI1⟩ : ∃ I, I = intsE [a0, 5] := ⟨_, rfl⟩
  obtain ⟨I2, hI2⟩ : ∃ I, I = intsE [m] := ⟨_, rfl⟩
  rw [← hI1] at D2 HB1 hl1
  rw [← hI2] at D4 HB2 hl2
  have HI1 := Lib.hid hI1; have HI2 := Lib.hid hI2
  obtain ⟨n1, hn1⟩ : ∃ n, n = I1.length := ⟨_, rfl⟩
  obtain ⟨n2, hn2⟩ : ∃ n, n = I2.length := ⟨_, rfl⟩
  have HN1 := Lib.hid hn1; have HN2 := Lib.hid hn2
  simp only [List.length_cons, List.length_nil] at hl1 hl2
  rw [← hn1] at hl1
  rw [← hn2] at hl2
  have HZ := Lib.hid hz
  clear hT w0 w1 hK hm hI1 hI2 hn1 hn2
  go_enter Tryd.func6, Tryd.ntmps6
  go_wp2_with fail
  refine (known12_any _).mono ?_
  rintro e wA ⟨rfl, hk⟩
  have HKA := Lib.hid hk
  clear hk
  go_wp2_with fail
  refine (dints_any _ [a0, 5] _ (SeenI.lit [a0, 5] 2 (heap_alloc_new wA _) rfl rfl (by decide)) (by simp) HNI.out).mono ?_
  rintro e wB ⟨x, rfl, hc, ho⟩
  rw [← HI1.out, ← HN1.out] at ho
  obtain ⟨xo, xc, rfl⟩ := own_shape ho
  have HKB := Lib.hid ((HKA.out.alloc (.cells #[.int .i64 a0, .int .i64 5] 3)).trans hc (by simp))
  have HSB := Lib.hid (reads_of_own ho).seen
  clear hc ho
  go_wp2_with fail
  have HD := ddecode_any 2 2 (.slice xo n1 xc) I1 wB (by decide) (by decide) (HT.out.keep HKB.out) HSB.out HB1.out (by rw [← HN1.out]; omega)
  unfold DDecOut DDecR at HD
  rw [D2.out] at HD
  refine HD.mono ?_
  clear HD
  rintro e wC ⟨x, rfl, hc, ho⟩
  have HKC := Lib.hid (HKB.out.trans hc (by simp))
  obtain ⟨N, hN⟩ : ∃ N, N = (if -2147483648 ≤ a0 ∧ a0 ≤ 2147483647 then ([(⟨a0, e0⟩ : V), ⟨5, e0⟩], (0 : Int)) else ([], 14)).1.length := ⟨_, rfl⟩
  obtain ⟨E, hE⟩ : ∃ E, E = (if -2147483648 ≤ a0 ∧ a0 ≤ 2147483647 then ([(⟨a0, e0⟩ : V), ⟨5, e0⟩], (0 : Int)) else ([], 14)).2 := ⟨_, rfl⟩
  rw [← hN] at ho
  rw [← hE]
  obtain ⟨yo, yc, rfl⟩ := own_shape ho
  have HCASE : Hid ((decide (-2147483648 ≤ a0) = true ∧ decide (a0 < 2147483648) = true ∧ E = 0 ∧ N = 2) ∨ (decide (-2147483648 ≤ a0) = false ∧ decide (a0 < 2147483648) = true ∧ E = 14 ∧ N = 0) ∨ (decide (-2147483648 ≤ a0) = true ∧ decide (a0 < 2147483648) = false ∧ E = 14 ∧ N = 0)) := Lib.hid (by
    rcases @in_int32 a0 with h | h | h
    · rw [if_pos h] at hN hE
      exact .inl ⟨by simp; omega, by simp; omega, hE, hN⟩
    · rw [if_neg (by omega)] at hN hE
      exact .inr (.inl ⟨by simp; omega, by simp; omega, hE, hN⟩)
    · rw [if_neg (by omega)] at hN hE
      exact .inr (.inr ⟨by simp; omega, by simp; omega, hE, hN⟩))
  clear hc ho hN hE
  go_upto_region 5 with fail
  rcases HCASE.out with ⟨d1, d2, rfl, rfl⟩ | ⟨d1, d2, rfl, rfl⟩ | ⟨d1, d2, rfl, rfl⟩
  all_goals
    have p1 := d1
    have p2 := d2
    simp only [decide_eq_true_eq, decide_eq_false_iff_not] at p1 p2
    clear HCASE
    go_wp2_with fail
    refine (HQ.out _).mono ?_
    rintro e wD ⟨rfl, rfl⟩
    go_wp2_with fail
    refine (dints_any _ [m] _ (SeenI.lit [m] 1 (heap_alloc_new wC _) rfl rfl (by decide)) (by simp) HMI.out).mono ?_
    rintro e wE ⟨x, rfl, hc, ho⟩
    rw [← HI2.out, ← HN2.out] at ho
    obtain ⟨uo, uc, rfl⟩ := own_shape ho
    have HKE := Lib.hid ((HKC.out.alloc (.cells #[.int .i64 m] 3)).trans hc (by simp))
    have HOE := Lib.hid ho
    have hsE := hc.size
    clear hc ho
    have hz := HZ.out
    go_wp2_with (first
      | (at_builtin; refine wpList_append_noughts rfl _ _ rfl _ _ n2 I2 rfl HOE.out z rfl ?c1 hsE ?_)
      | fail)
    case c1 => omega
    intro v6 w6 hown6 hgrow6
    obtain ⟨qo, qc, rfl⟩ := own_shape hown6
    have HK6 := Lib.hid (HKE.out.grown hgrow6 (fun k hk => .inr (by have := own_ge HOE.out k hk; have := HKC.out.size; simp at *; omega)))
    have HS6 := Lib.hid (reads_of_own hown6).seen
    clear hown6 hgrow6
    go_wp2_with fail
    have HD := ddecode_any 4 1 (.slice qo (n2 + z) qc) (I2 ++ List.replicate z 0) w6 (by decide) (by decide) (HT.out.keep HK6.out) HS6.out (by
      intro x hx
      rcases List.mem_append.1 hx with h | h
      · exact HB2.out x h
      · rw [(List.mem_replicate.1 h).2]; decide) (by rw [List.length_append, List.length_replicate, ← HN2.out]; omega)
    unfold DDecOut DDecR at HD
    rw [D4.out] at HD
    refine HD.mono ?_
    clear HD
    rintro e wG ⟨x, rfl, hc, ho⟩
    have HKG := Lib.hid (HK6.out.trans hc (by simp))
    by_cases hb : 0 ≤ m ∧ m ≤ 100
    · rw [if_pos hb] at ho ⊢
      obtain ⟨ro, rc, rfl⟩ := own_shape ho
      obtain ⟨g, hg, -, -, -, hcl⟩ := own_ptr ho (by simp)
      subst hg
      have x1 := hcl 1 (.string (str (List.replicate z 0))) rfl
      have hsz : (((str (List.replicate z 0)).size : Nat) : Int) = m := by rw [HST.out, List.length_replicate, ← hz]; omega
      obtain ⟨s, hs⟩ : ∃ s, s = str (List.replicate z 0) := ⟨_, rfl⟩
      rw [← hs] at x1 hsz
      have e1 : decide (0 ≤ m) = true := by simp; omega
      have e2 : decide (m ≤ 100) = true := by simp; omega
      obtain ⟨b1, b2⟩ := hb
      clear hc ho hcl hs hz
      go_wp2
      go_ret
      exact ⟨rfl, HKG.out.below (Nat.le_refl _) (by simp)⟩
    · rw [if_neg hb] at ho ⊢
      obtain ⟨ro, rc, rfl⟩ := own_shape ho
      clear hc ho hz
      by_cases hm0 : 0 ≤ m
      · have e1 : decide (0 ≤ m) = true := by simp; omega
        have e2 : decide (m ≤ 100) = false := by simp; omega
        have b2 : ¬ m ≤ 100 := by omega
        clear hb
        go_wp2
        go_ret
        exact ⟨rfl, HKG.out.below (Nat.le_refl _) (by simp)⟩
      · have e1 : decide (0 ≤ m) = false := by simp; omega
        clear hb
        go_wp2
        go_ret
        exact ⟨rfl, HKG.out.below (Nat.le_refl _) (by simp)⟩

end Go.Proofs.YtohgnbgijleoaaaDoor
