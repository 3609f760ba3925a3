/- Contracts of fsm.commons, Common, after. -/
import Derived.Test.YtfdmbpfpdijpdaaGd
import Derived.Laws.EntriesVeiled
namespace Go.Proofs.Ytfdmbpfpdijpdaa
open Go.RowKit
set_option linter.unusedVariables false
set_option linter.unusedSimpArgs false

/-- The closure that commons hands out. -/
abbrev cmF (Bt Bf : Nat) : Value := .func (.func 90) #[] #[.pointer (some ⟨Bf, 0, none⟩), .pointer (some ⟨Bt, 0, none⟩)]

set_option maxHeartbeats 400000 in
theorem commons_any (tv : Value) (T : List (List Nat)) (w : World) (hR : RowsN .i32 w tv (T.map rn)) :
    Calls Try.prog 55 #[tv] w fun e w' => ∃ Bt Bf, e = .returned (cmF Bt Bf) ∧ CmJ w' Bt Bf T ∧ Chg [] w w' := by
  have hmf : ∀ (fn : Fn) (first cap : Array Value) (w : World), (Instr.makeFunc fn first cap).run Try.prog w = .ok (.func fn first cap) w := fun _ _ _ _ => rfl
  obtain ⟨ao, cap, rfl, h1, h2⟩ := hR.shape
  obtain ⟨n, hn⟩ : ∃ n, n = (T.map rn).length := ⟨_, rfl⟩
  rw [← hn] at hR ⊢
  have HR := Lib.hid hR
  clear hR h1 hn
  go_enter Try.func55, Try.ntmps55
  go_wp2
  go_ret
  have hCA := ((Chg.refl [] w).alloc (.cells #[.slice ao n cap] 96)).alloc (.cells #[.func (.func 89) #[] #[.pointer (some ⟨w.heap.size, 0, none⟩)]] 121)
  refine ⟨w.heap.size, w.heap.size + 1, rfl, ⟨⟨_, ((Chg.refl [] (w.alloc (.cells #[.slice ao n cap] 96))).alloc _).cell (by simp) (by simp), HR.out.keep hCA⟩, ?_⟩, hCA⟩
  rw [cell_of_row _ _ _ _ _ _ (new2 w _ _)]
  rfl

abbrev AF (Bt Bf i r j : Nat) (u : Nat → Value) : Act :=
  { tmps := #[cmF Bt Bf, .int .i64 (i : Int), .int .i64 (r : Int), u 3, u 4, u 5, .int .i64 0, .int .i64 (j : Int), u 8, u 9, u 10, u 11, u 12, u 13, u 14, u 15, u 16, u 17, u 18, u 19, u 20, u 21, u 22, u 23, u 24, u 25], defers := [] }

theorem AF_of {Bt Bf i r j : Nat} {a : Act} (h : a = AF Bt Bf i r j (fun j => a.tmps.getD j undef)) : ∃ u, a = AF Bt Bf i r j u := ⟨_, h⟩

set_option maxRecDepth 100000 in
set_option maxHeartbeats 1000000 in
theorem after_any (Bt Bf : Nat) (T : List (List Nat)) (i r : Nat) (w : World) (hJ : CmJ w Bt Bf T) (hi : i < T.length) (hr : r ≤ (T.getD i []).length) (hT : T.length ≤ 1000) :
    Calls Try.prog 56 #[cmF Bt Bf, .int .i64 (i : Int), .int .i64 (r : Int)] w fun e w' => e = .returned (.int .i64 (aft T i r : Nat)) ∧ Chg [] w w' := by
  have eg : ∀ args w, (callFunc 90 args).run Try.prog w = .ok (.enter 90 args) w := Go.Proofs.enters_of Try.func90 (by kernel_rfl) rfl
  have HJ := Lib.hid hJ
  have HC := Lib.hid (fun (p q : Int) w0 (h : CmJ w0 Bt Bf T) => commons2_any Bt Bf T p q w0 h)
  have HII := Lib.hid (show r ≤ cmn T (i : Int) (i : Int) by rw [cmn_self T i hi]; exact hr)
  have hi2 : i ≤ 1000 := by omega
  obtain ⟨D, hD⟩ : ∃ D, D = cmn T (i : Int) ((i : Int) + 1) := ⟨_, rfl⟩
  have HD := Lib.hid hD
  clear hJ hi hr hT hD
  by_cases h1 : r ≤ D
  · have E := Lib.hid (show aft T i r = i + 1 by unfold aft; rw [if_pos (by rw [← HD.out]; exact h1)])
    have h2 : (r : Int) ≤ (D : Int) := by omega
    go_enter Try.func56, Try.ntmps56
    go_wp2_with fail
    refine wp_scope_jumps 0 (fun _ _ => False) (fun _ _ => 0) rfl ?_ (fun _ _ h => h.elim)
    go_wp2_with fail
    refine (HC.out i (i + 1) w HJ.out).mono ?_
    rintro e w1 ⟨rfl, hk⟩
    rw [← HD.out]
    have HK := Lib.hid hk
    clear hk
    go_wp2
    simp only [Exit.jump]
    go_ret
    exact ⟨by rw [E.out]; rfl, HK.out⟩
  · obtain ⟨p, hp⟩ : ∃ p : Nat → Bool, p = fun (j : Nat) => decide (r ≤ cmn T (i : Int) (j : Int)) := ⟨_, rfl⟩
    have HP := Lib.hid (show ∀ j, p j = decide (r ≤ cmn T (i : Int) (j : Int)) from fun j => by rw [hp])
    have E := Lib.hid (show aft T i r = fstJ p i 0 by unfold aft; rw [if_neg (by rw [← HD.out]; exact h1), hp])
    have h2 : ¬ (r : Int) ≤ (D : Int) := by omega
    clear hp
    go_enter Try.func56, Try.ntmps56
    go_wp2_with fail
    refine wp_scope_pre2 0 (fun a' w' => ∃ j : Nat, (∃ u, a' = AF Bt Bf i r j u) ∧ Chg [] w w' ∧ j ≤ i ∧ fstJ p (i - j) j = fstJ p i 0) (fun a' _ => i - (intOf (a'.tmps.getD 7 undef)).toNat) rfl ?_ ?_
    · go_wp2_with fail
      refine (HC.out i (i + 1) w HJ.out).mono ?_
      rintro e w1 ⟨rfl, hk⟩
      rw [← HD.out]
      have HK := Lib.hid hk
      clear hk
      go_wp2
      exact ⟨0, AF_of rfl, HK.out, Nat.zero_le _, rfl⟩
    · rintro a' wi ⟨j, ⟨u, rfl⟩, hc, hj, hf⟩
      unfold AF
      have HCW := Lib.hid hc; have HF := Lib.hid hf
      clear hc hf h1 h2
      go_wp2_with fail
      refine (HC.out i j wi (HJ.out.keep HCW.out)).mono ?_
      rintro e w1 ⟨rfl, hk⟩
      have HK := Lib.hid (HCW.out.trans hk (by simp))
      obtain ⟨c, hcc⟩ : ∃ c, c = cmn T (i : Int) (j : Int) := ⟨_, rfl⟩
      rw [← hcc]
      have HCC := Lib.hid hcc
      clear hk hcc
      by_cases h3 : c < r
      · have h4 : (c : Int) < (r : Int) := by omega
        have hji : j < i := by
          refine Classical.byContradiction fun h => ?_
          have e : j = i := by omega
          subst e
          have := HII.out
          rw [← HCC.out] at this
          omega
        have HF2 := Lib.hid (show fstJ p (i - (j + 1)) (j + 1) = fstJ p i 0 by
          have h := HF.out
          rw [show i - j = (i - (j + 1)) + 1 by omega, fstJ, HP.out, ← HCC.out, if_neg (by simp; omega)] at h
          exact h)
        go_wp2
        go_step3
        refine ⟨rfl, ⟨j + 1, AF_of (by simp), HK.out, by omega, HF2.out⟩, ?_⟩
        simp [intOf]; omega
      · have h4 : ¬ (c : Int) < (r : Int) := by omega
        have HF2 := Lib.hid (show j = fstJ p i 0 by
          have h := HF.out
          by_cases e : j = i
          · rw [show i - j = 0 by omega, fstJ] at h; exact h
          · rw [show i - j = (i - j - 1) + 1 by omega, fstJ, HP.out, ← HCC.out, if_pos (by simp; omega)] at h
            exact h)
        go_wp2
        simp only [Exit.jump]
        go_ret
        exact ⟨by rw [E.out, ← HF2.out]; rfl, HK.out⟩

end Go.Proofs.Ytfdmbpfpdijpdaa
