/- The walk of the statement SchemaTells. -/
import Derived.Test.YtpbclmcngafngaaRm
import Derived.Test.YtpbclmcngafngaaSe
namespace Go.Proofs.Ytpbclmcngafngaa
open Go.RowKit
set_option linter.unusedVariables false

set_option maxRecDepth 100000 in
set_option maxHeartbeats 4000000 in
theorem walk_SchemaTells (a0 : Option Addr) (len0 cap0 : Nat) (z0 : List Int) (a1 : Int) (w : World) (w0 : IsRow .i64 w a0 len0 cap0 z0) (w1 : (Lit.int .i64 a1).wf = true) :
    Calls Try.prog 4 #[.slice a0 len0 cap0, .int .i64 a1] w fun e w' => e = .returned (.bool true) ∧ Below w.heap.size w w' := by
  obtain ⟨ns, hS, hlen, hwf⟩ := w0.seenI
  have HS := Lib.hid hS; have HWF := Lib.hid hwf
  clear w0 w1 hS hwf hlen
  have hmk := mk_ok ns
  obtain ⟨l, hl⟩ : ∃ l, l = mk ns := ⟨_, rfl⟩
  rw [← hl] at hmk
  have HL := Lib.hid hl
  have hln := hmk.le
  have HLN := Lib.hid (show l.length ≤ 1000000 by omega)
  have HFC := Lib.hid (show ∀ f ∈ l, f.c ≤ 9223372036854775807 from fun f hf => by have := hmk.c f hf; omega)
  have HFN := Lib.hid (show ∀ f ∈ l, f.n.size ≤ 1000 from fun f hf => by have := hmk.n f hf; omega)
  clear hmk hl
  go_enter Try.func4, Try.ntmps4
  go_wp2_with fail
  (with_reducible refine (known_any _).mono ?_)
  rintro e w1 ⟨rfl, hk⟩
  have HK1 := Lib.hid hk
  clear hk
  go_wp2_with fail
  (with_reducible refine (make_any _ ns _ (HS.out.keep HK1.out) HWF.out).mono ?_)
  rintro e w2 ⟨sv, rfl, hown, hk⟩
  rw [← HL.out] at hown
  have hSv := SeenF.own hown rfl
  obtain ⟨sa, sc, rfl⟩ := own_shape hown
  have HSF := Lib.hid hSv
  have HK2 := Lib.hid (HK1.out.trans hk (by simp))
  clear hown hSv hk
  go_wp2_with (first
    | (go_at_call 21; (with_reducible refine (leaves_any _ l _ HSF.out HLN.out HFC.out).mono ?_); rintro e w3 ⟨v3, rfl, h3, k3⟩; have HC3 := Lib.hid k3; have HV3 := Lib.hid h3; clear h3 k3)
    | (go_at_call 22; (with_reducible refine (rleaves_any _ l _ (HSF.out.keep HC3.out) HLN.out HFC.out).mono ?_); rintro e w4 ⟨v4, rfl, h4, k4⟩; have HC4 := Lib.hid (HC3.out.trans k4 (by simp)); have HV4 := Lib.hid h4; have HV3 := Lib.hid (HV3.out.keep k4); clear h4 k4)
    | (go_at_call 20; (with_reducible refine (leaves_same _ _ _ _ HV3.out HV4.out).mono ?_); rintro e w5 ⟨rfl, k5⟩; have HC5 := Lib.hid (HC4.out.trans k5 (by simp)); clear k5)
    | (go_at_call 24; (with_reducible refine (parents_any _ l _ (HSF.out.keep HC5.out) HLN.out HFC.out).mono ?_); rintro e w6 ⟨rfl, h6, k6⟩; have HC6 := Lib.hid (HC5.out.trans k6 (by simp)); have h7 := BlkI.seen h6 (by rw [parents_length]; have := HLN.out; unfold maxLen; omega); rw [parents_length] at h7; have HV6 := Lib.hid h7; clear h6 h7 k6)
    | (go_at_call 25; refine (rparents_any _ l _ (HSF.out.keep HC6.out) HLN.out HFC.out).mono ?_; rintro e w7 ⟨v7, rfl, h7, k7⟩; have HC7 := Lib.hid (HC6.out.trans k7 (by simp)); have HV7 := Lib.hid h7; have HV6 := Lib.hid (HV6.out.keep k7); clear h7 k7)
    | (go_at_call 23; (with_reducible refine (ints_same _ _ _ _ HV6.out HV7.out).mono ?_); rintro e w8 ⟨rfl, k8⟩; have HC8 := Lib.hid (HC7.out.trans k8 (by simp)); clear k8)
    | (go_at_call 26; (with_reducible refine (path_any _ l a1 _ (HSF.out.keep HC8.out) HLN.out HFC.out HFN.out).mono ?_); rintro e w9 ⟨rfl, k9⟩; have HC9 := Lib.hid (HC8.out.trans k9 (by simp)); clear k9)
    | (go_at_call 27; (with_reducible refine (rpath_any rparents_any _ l a1 _ (HSF.out.keep HC9.out) HLN.out HFC.out HFN.out).mono ?_); rintro e w10 ⟨rfl, k10⟩; have HC10 := Lib.hid (HC9.out.trans k10 (by simp)); clear k10)
    | fail)
  obtain ⟨n, hn⟩ : ∃ n, n = l.length := ⟨_, rfl⟩
  rw [← hn] at hln HSF ⊢
  have HN := Lib.hid hn
  clear hn
  go_loopw [6] (fun x w' => ∃ i : Int, x = .int .i64 i ∧ -1 ≤ i ∧ i ≤ n + 1 ∧ Chg [] w2 w') (fun x _ => (n + 1 - intOf x).toNat)
  case atStart => exact ⟨-1, rfl, by omega, by omega, HC10.out⟩
  case round =>
    obtain ⟨i, rfl, hi1, hi2, hc⟩ := hrel
    have HC := Lib.hid hc
    clear hc
    by_cases hlt : i ≤ n
    · have d1 : decide (i ≤ (n : Int)) = true := by simpa using hlt
      go_wp2_with (first
        | (go_at_call 26; (with_reducible refine (path_any _ l i _ (HSF.out.keep HC.out) HLN.out HFC.out HFN.out).mono ?_); rintro e w11 ⟨rfl, k11⟩; have HC11 := Lib.hid (HC.out.trans k11 (by simp)); clear k11)
        | (go_at_call 27; (with_reducible refine (rpath_any rparents_any _ l i _ (HSF.out.keep HC11.out) HLN.out HFC.out HFN.out).mono ?_); rintro e w12 ⟨rfl, k12⟩; have HC12 := Lib.hid (HC11.out.trans k12 (by simp)); clear k12)
        | fail)
      go_roundw
      case rel => exact ⟨i + 1, by go_num, by omega, by omega, HC12.out⟩
      case measure => simp [intOf]; omega
    · have d1 : decide (i ≤ (n : Int)) = false := by simpa using hlt
      go_wp2_with (first
        | (go_at_call 18; (with_reducible refine (make_any _ ns _ (HS.out.keep (HK2.out.trans HC.out (by simp))) HWF.out).mono ?_); rintro e w13 ⟨sv', rfl, hown, k13⟩; rw [← HL.out] at hown; have HSG := Lib.hid (SeenF.own hown rfl); have HC13 := Lib.hid (HC.out.trans k13 (by simp)); clear hown k13)
        | (go_at_call 28; (with_reducible refine (same_any _ _ l _ (HSF.out.keep HC13.out) HSG.out).mono ?_); rintro e w14 ⟨rfl, k14⟩; have HC14 := Lib.hid (HC13.out.trans k14 (by simp)); clear k14)
        | fail)
      go_ret
      exact ⟨rfl, (HK2.out.trans HC14.out (by simp)).below (Nat.le_refl _) (by simp)⟩

end Go.Proofs.Ytpbclmcngafngaa
