/- The walk of the statement TextDeep. -/
import Derived.Test.YtpbclmcngafngaaDp6
namespace Go.Proofs.Ytpbclmcngafngaa
open Go.RowKit
set_option linter.unusedVariables false

theorem cv_two {w : World} {g a b : Nat} {T : TypeId} {fr : Nat × Nat} (hb : w.heap[g]? = some (.cells #[.int .u8 (a : Int), .int .u8 (b : Int)] T fr)) (ha : a < 256) (hb2 : b < 256) :
    (convert 47 9 (.slice (some ⟨g, 0, none⟩) 2 2)).run Try.prog w = .ok (.string (str [a, b])) w := by
  refine conv_seen Try.underlying47 Try.underlying5 Try.underlying9 (.inr ⟨⟨g, 0, none⟩, 2, rfl, Nat.le_refl _, by decide, fun j u hu => ?_⟩) rfl (by intro x hx; simp at hx; omega)
  rw [addr_add, Nat.zero_add, cell_of_row w g j _ _ _ hb, ← hu]
  simp [nv]

theorem read_form {R : Int × List F} {w w' : World} {e : Ending} (h : ReadOut R w e w') : ∃ a len c, e = .returned (.tuple #[.slice a len c, .int .i64 R.1]) ∧ (R.1 = 0 → len = R.2.length) := by
  rcases h with ⟨h0, v, rfl, hown⟩ | ⟨h0, rfl⟩
  · obtain ⟨a, c, rfl⟩ := own_shape hown
    exact ⟨a, _, c, by rw [h0], fun _ => rfl⟩
  · exact ⟨none, 0, 0, rfl, fun h => absurd h h0⟩

set_option maxRecDepth 100000 in
set_option maxHeartbeats 8000000 in
theorem walk_TextDeep (a0 a1 : Int) (w : World) (w0 : (Lit.int .i64 a0).wf = true) (w1 : (Lit.int .i64 a1).wf = true) :
    Calls Try.prog 8 #[.int .i64 a0, .int .i64 a1] w fun e w' => e = .returned (.bool true) ∧ Below w.heap.size w w' := by
  have hn6 := within_lt a0 6 (by decide)
  have hm7 := within_lt a1 7 (by decide)
  have HW0 := Lib.hid (fun wx => w6_int a0 6 6 wx rfl (by decide) (by decide) w0)
  have HW1 := Lib.hid (fun wx => w6_int a1 7 7 wx rfl (by decide) (by decide) w1)
  obtain ⟨n0, hn0⟩ : ∃ k, k = (a0 % ((6 : Nat) : Int)).toNat := ⟨_, rfl⟩
  obtain ⟨m0, hm0⟩ : ∃ k, k = (a1 % ((7 : Nat) : Int)).toNat := ⟨_, rfl⟩
  rw [← hn0] at hn6 HW0
  rw [← hm0] at hm7 HW1
  clear hn0 hm0 w0 w1
  have HD := Lib.hid (d_ok n0 hn6)
  have HT := Lib.hid (t_ok m0 hm7)
  obtain ⟨n, hn⟩ : ∃ n, n = 5 + n0 := ⟨_, rfl⟩
  obtain ⟨m, hm⟩ : ∃ m, m = 36 + m0 := ⟨_, rfl⟩
  rw [← hn] at HD
  rw [← hm] at HT
  have en : (5 : Int) + (n0 : Int) = (n : Int) := by omega
  have em : (36 : Int) + (m0 : Int) = (m : Int) := by omega
  have hn10 : n ≤ 10 := by omega
  have hm42 : m ≤ 42 := by omega
  clear hn hm
  go_enter Try.func8, Try.ntmps8
  go_wp2_with fail
  (with_reducible refine (known6_any _).mono ?_)
  rintro e w2 ⟨rfl, hk⟩
  have HK1 := Lib.hid hk
  clear hk
  go_wp2_with fail
  (with_reducible refine (HW0.out _).mono ?_)
  rintro e w3 ⟨rfl, rfl⟩
  rw [show Value.int IntKind.i64 (n0 : Int) = Value.int IntKind.i64 (n0 : Int) from rfl]
  go_wp2_with fail
  (with_reducible refine (HW1.out _).mono ?_)
  rintro e w3 ⟨rfl, rfl⟩
  go_wp2
  go_loop [5, 6] (fun s i => ∃ k : Nat, s = .string (sD k) ∧ i = .int .i64 (k : Int) ∧ k ≤ n) (fun _ i => n - (intOf i).toNat)
  case atStart => exact ⟨0, rfl, rfl, by omega⟩
  case round =>
    obtain ⟨k, rfl, rfl, hk⟩ := hrel
    have hz := sD_size k
    by_cases hkn : k < n
    · have E := Lib.hid (show sD (k + 1) = sD k ++ dG from rfl)
      generalize sD k = x at hz E ⊢
      unfold dG at E
      go_wp2
      go_round
      case rel => exact ⟨k + 1, by rw [E.out], by go_num, by omega⟩
      case measure => simp [intOf]; omega
    · have ek : k = n := by omega
      subst ek
      have E := Lib.hid (show sE k 0 = sD k ++ dB from rfl)
      generalize sD k = x at hz E ⊢
      unfold dB at E
      go_wp2
      go_loop [5, 7] (fun s i => ∃ j : Nat, s = .string (sE k j) ∧ i = .int .i64 (j : Int) ∧ j ≤ k) (fun _ i => k - (intOf i).toNat)
      case atStart => exact ⟨0, by rw [E.out], rfl, by omega⟩
      case round =>
        obtain ⟨j, rfl, rfl, hj⟩ := hrel
        have hz2 := sE_size k j
        by_cases hjn : j < k
        · have E2 := Lib.hid (show sE k (j + 1) = sE k j ++ dC from rfl)
          generalize sE k j = y at hz2 E2 ⊢
          unfold dC at E2
          go_wp2
          go_round
          case rel => exact ⟨j + 1, by rw [E2.out], by go_num, by omega⟩
          case measure => simp [intOf]; omega
        · have ej : j = k := by omega
          subst ej
          have HPD := Lib.hid (fun wx => parse_any (sE j j ++ dE) wx (by rw [ByteArray.size_append, hz2]; show _ + 1 ≤ _; omega))
          obtain ⟨PD, hPD⟩ : ∃ R, R = parseL (bl (sE j j ++ dE)) := ⟨_, rfl⟩
          have hd := HD.out
          unfold dOk at hd
          rw [← hPD] at hd HPD
          have HDD := Lib.hid hd
          clear hPD hd
          generalize sE j j = y at hz2 HPD ⊢
          unfold dE at HPD
          go_wp2_with fail
          (with_reducible refine (HPD.out _).mono ?_)
          rintro e w4 ⟨hk4, hout⟩
          have HK4 := Lib.hid (HK1.out.trans hk4 (by simp))
          obtain ⟨xa, xl, xc, rfl, hxl⟩ := read_form hout
          obtain ⟨ev, hev⟩ : ∃ ev, ev = PD.1 := ⟨_, rfl⟩
          rw [← hev] at hxl ⊢
          have HEV := Lib.hid (show (j + 1 ≤ 8 ∧ ev = 0 ∧ xl = j + 2) ∨ (8 < j + 1 ∧ ev = 11) by
            have h := HDD.out
            by_cases h8 : j + 1 ≤ 8
            · rw [if_pos h8] at h
              simp at h
              exact .inl ⟨h8, by rw [hev]; exact h.1, by rw [hxl (by rw [hev]; exact h.1)]; exact h.2⟩
            · rw [if_neg h8] at h
              simp at h
              exact .inr ⟨by omega, by rw [hev]; exact h⟩)
          clear hk4 hout hxl hev HDD HPD
          go_wp2
          go_loopw [10, 11] (fun s i w' => ∃ k : Nat, s = .string (tD k) ∧ i = .int .i64 (k : Int) ∧ k ≤ m ∧ Chg [] w w') (fun _ i _ => m - (intOf i).toNat)
          case atStart => exact ⟨0, rfl, rfl, by omega, HK4.out⟩
          case round =>
            obtain ⟨k, rfl, rfl, hk, hc⟩ := hrel
            have HC := Lib.hid hc
            have hz3 := tD_size k
            clear hc
            by_cases hkm : k < m
            · have E3 := Lib.hid (show tD (k + 1) = tD k ++ dI ++ str [97 + k % 26, 97 + k / 26] ++ dS from rfl)
              obtain ⟨A, hA⟩ : ∃ A, A = 97 + k % 26 := ⟨_, rfl⟩
              obtain ⟨B, hB⟩ : ∃ B, B = 97 + k / 26 := ⟨_, rfl⟩
              rw [← hA, ← hB] at E3
              have hA2 : A < 256 := by omega
              have hB2 : B < 256 := by omega
              have hcv := cv_two (w := wr.alloc (.cells #[.int .u8 (A : Int), .int .u8 (B : Int)] 5)) (a := A) (b := B) (heap_alloc_new wr _) hA2 hB2
              have hss : (str [A, B]).size = 2 := rfl
              obtain ⟨ab, hab⟩ : ∃ ab, ab = str [A, B] := ⟨_, rfl⟩
              rw [← hab] at E3 hcv hss
              have t1 : (k : Int).tmod 26 = (A : Int) - 97 := by rw [Int.tmod_eq_emod_of_nonneg (by omega)]; omega
              have t2 : (k : Int).tdiv 26 = (B : Int) - 97 := by rw [Int.tdiv_eq_ediv_of_nonneg (by omega)]; omega
              have t3 : IntKind.i64.wrap ((A : Int) - 97) = (A : Int) - 97 := IntWalk.i64_in _ (by omega)
              have t4 : IntKind.i64.wrap ((B : Int) - 97) = (B : Int) - 97 := IntWalk.i64_in _ (by omega)
              have t5 : (97 : Int) + ((A : Int) - 97) = (A : Int) := by omega
              have t6 : (97 : Int) + ((B : Int) - 97) = (B : Int) := by omega
              have w8 : ∀ c : Nat, c < 256 → IntKind.u8.wrap (c : Int) = (c : Int) := fun c hc => by
                have e : IntKind.u8.wrap (c : Int) = (c : Int) % 256 := by simp [IntKind.wrap, IntKind.bits, IntKind.signed]
                rw [e]; omega
              have t7 := w8 A hA2
              have t8 := w8 B hB2
              have t9 : IntKind.i64.wrap (A : Int) = (A : Int) := IntWalk.i64_in _ (by omega)
              have t10 : IntKind.i64.wrap (B : Int) = (B : Int) := IntWalk.i64_in _ (by omega)
              generalize tD k = z at hz3 E3 ⊢
              unfold dI dS at E3
              clear hA hB hab w8
              go_wp2
              go_roundw
              case rel => exact ⟨k + 1, by rw [E3.out], by go_num, by omega, HC.out.alloc _⟩
              case measure => simp [intOf]; omega
            · have ek : k = m := by omega
              subst ek
              have HPT := Lib.hid (fun wx => parse_any (tD k ++ dE) wx (by rw [ByteArray.size_append, hz3]; show _ + 1 ≤ _; omega))
              obtain ⟨PT, hPT⟩ : ∃ R, R = parseL (bl (tD k ++ dE)) := ⟨_, rfl⟩
              have ht := HT.out
              unfold tOk at ht
              rw [← hPT] at ht HPT
              have HTT := Lib.hid ht
              clear hPT ht
              generalize tD k = z at hz3 HPT ⊢
              unfold dE at HPT
              go_wp2_with fail
              (with_reducible refine (HPT.out _).mono ?_)
              rintro e w5 ⟨hk5, hout⟩
              have HK5 := Lib.hid (HC.out.trans hk5 (by simp))
              obtain ⟨ya, yl, yc, rfl, hyl⟩ := read_form hout
              obtain ⟨fv, hfv⟩ : ∃ ev, ev = PT.1 := ⟨_, rfl⟩
              rw [← hfv] at hyl ⊢
              have hm2 : (k + 1 ≤ 40 ∧ fv = 0 ∧ yl = k + 1) ∨ (40 < k + 1 ∧ fv = 4) := by
                have h := HTT.out
                by_cases h8 : k + 1 ≤ 40
                · rw [if_pos h8] at h
                  simp at h
                  exact .inl ⟨h8, by rw [hfv]; exact h.1, by rw [hyl (by rw [hfv]; exact h.1)]; exact h.2⟩
                · rw [if_neg h8] at h
                  simp at h
                  exact .inr ⟨by omega, by rw [hfv]; exact h⟩
              have hm1 := HEV.out
              clear hk5 hout hyl hfv HTT HPT hz2 hz3 hz E
              rcases hm1 with ⟨p1, rfl, rfl⟩ | ⟨p1, rfl⟩
              · have q1 : decide ((j : Int) + 1 ≤ 8) = true := by simp; omega
                have q2 : decide ((8 : Int) < (j : Int) + 1) = false := by simp; omega
                have q3 : ¬ ((((j + 2 : Nat) : Int)) ≠ (j : Int) + 2) := by simp
                rcases hm2 with ⟨p2, rfl, rfl⟩ | ⟨p2, rfl⟩
                · have s1 : decide ((k : Int) + 1 ≤ 40) = true := by simp; omega
                  go_wp2
                  go_ret
                  exact ⟨by simp, HK5.out.below (Nat.le_refl _) (by simp)⟩
                · have s1 : decide ((k : Int) + 1 ≤ 40) = false := by simp; omega
                  have s2 : decide ((40 : Int) < (k : Int) + 1) = true := by simp; omega
                  go_wp2
                  go_ret
                  exact ⟨by simp, HK5.out.below (Nat.le_refl _) (by simp)⟩
              · have q1 : decide ((j : Int) + 1 ≤ 8) = false := by simp; omega
                have q2 : decide ((8 : Int) < (j : Int) + 1) = true := by simp; omega
                rcases hm2 with ⟨p2, rfl, rfl⟩ | ⟨p2, rfl⟩
                · have s1 : decide ((k : Int) + 1 ≤ 40) = true := by simp; omega
                  go_wp2
                  go_ret
                  exact ⟨by simp, HK5.out.below (Nat.le_refl _) (by simp)⟩
                · have s1 : decide ((k : Int) + 1 ≤ 40) = false := by simp; omega
                  have s2 : decide ((40 : Int) < (k : Int) + 1) = true := by simp; omega
                  go_wp2
                  go_ret
                  exact ⟨by simp, HK5.out.below (Nat.le_refl _) (by simp)⟩

end Go.Proofs.Ytpbclmcngafngaa
