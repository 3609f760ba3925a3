/- level: between, whole, alike, mixed. -/
import Derived.Test.YtlhdicbhanncnaaKb
import Derived.Test.YtlhdicbhanncnaaA1
namespace Go.Proofs.Ytlhdicbhanncnaa
open Go.RowKit
set_option linter.unusedVariables false
set_option linter.unusedSimpArgs false

set_option maxHeartbeats 400000 in
theorem lbetween_yes (n m : Int) (w : World) (h0 : 0 ≤ n) (h1 : n ≤ m) :
    Calls Try.prog 17 #[.int .i64 n, .int .i64 m] w fun e w' => e = .returned (.bool true) ∧ w = w' := by
  go_enter Try.func17, Try.ntmps17
  go_wp2
  go_ret
  exact ⟨rfl, rfl⟩

set_option maxHeartbeats 400000 in
theorem lbetween_no (n m : Int) (w : World) (h0 : n < 0 ∨ m < n) :
    Calls Try.prog 17 #[.int .i64 n, .int .i64 m] w fun e w' => e = .returned (.bool false) ∧ w = w' := by
  by_cases h : 0 ≤ n
  · have h1 : m < n := by omega
    have hd : decide (n ≤ m) = false := by simp; omega
    clear h0
    go_enter Try.func17, Try.ntmps17
    go_wp2
    go_ret
    exact ⟨rfl, rfl⟩
  · have h1 : n < 0 := by omega
    clear h0 h
    go_enter Try.func17, Try.ntmps17
    go_wp2
    go_ret
    exact ⟨rfl, rfl⟩

set_option maxHeartbeats 400000 in
theorem whole_any (n : Nat) (w : World) (hn : n < 1099511627776) :
    Calls Try.prog 42 #[.int .i64 n, .int .i64 8] w fun e w' => e = .returned (.int .i64 (((n + 7) / 8 : Nat) : Int)) ∧ w = w' := by
  go_enter Try.func42, Try.ntmps42
  go_wp2
  go_ret
  exact ⟨ret_int (by omega), rfl⟩

/-- What alike tells: nought where no run is written. -/
def ak (l : List Nat) : Nat := if nR l = true then 0 else alk l

set_option maxRecDepth 100000 in
set_option maxHeartbeats 1000000 in
theorem alike10_any (lv : Value) (l : List Nat) (w : World) (hS : Seen w lv (nv .i64 l)) (hl : l ≠ []) (hl2 : l.length ≤ 1000000) :
    Calls Try.prog 29 #[lv] w fun e w' => e = .returned (.int .i64 (ak l : Nat)) ∧ Chg [] w w' := by
  obtain ⟨ao, cap, rfl, hc1, hc2⟩ := hS.shape
  rw [nv_length] at hc1 hS
  rw [nv_length]
  have h0 := List.length_pos_iff.2 hl
  obtain ⟨g, off, rfl, hcell⟩ := hS.at0 rfl h0
  obtain ⟨s0, hs0⟩ : ∃ s, s = l.getD 0 0 := ⟨_, rfl⟩
  have HC := Lib.hid hcell
  have HS0 := Lib.hid hs0
  obtain ⟨n, hn⟩ : ∃ n, n = l.length := ⟨_, rfl⟩
  rw [← hn] at h0 hc1 hl2 ⊢
  have HN := Lib.hid hn
  obtain ⟨m, hm⟩ : ∃ m, m = alk l := ⟨_, rfl⟩
  have hmn : m ≤ n := by rw [hm, hn]; exact alk_le l
  have HM := Lib.hid hm
  clear hS hl hcell hs0 hn hm hc2
  go_enter Try.func29, Try.ntmps29
  go_wp2_with fail
  refine wp_scope_pre 0 (fun a' w' => ∃ (j : Nat) (u4 u5 u6 u7 u8 u9 u10 u11 u12 u13 u14 u15 u16 u17 u18 u19 u20 u21 u22 u23 u24 u25 : Value), j ≤ m ∧ a' = { tmps := #[.slice (some ⟨g, off, none⟩) n cap, undef, .int .i64 0, .int .i64 (j : Int), u4, u5, u6, u7, u8, u9, u10, u11, u12, u13, u14, u15, u16, u17, u18, u19, u20, u21, u22, u23, u24, u25], defers := [] } ∧ Chg [] w w') (fun a' _ => n - (intOf (a'.tmps.getD 3 undef)).toNat) rfl ?_ ?_
  · go_wp2
    exact ⟨0, _, _, _, _, _, _, _, _, _, _, _, _, _, _, _, _, _, _, _, _, _, _, Nat.zero_le _, rfl, Chg.refl _ _⟩
  rintro a' wi ⟨j, u4, u5, u6, u7, u8, u9, u10, u11, u12, u13, u14, u15, u16, u17, u18, u19, u20, u21, u22, u23, u24, u25, hj, rfl, hci⟩
  have HCI := Lib.hid hci; clear hci
  by_cases hjm : j < m
  · have hlt : decide ((j : Int) < (n : Int)) = true := by simp; omega
    have hx : wi.cell? ⟨g, off + j, none⟩ = some (.int .i64 (s0 : Int)) := by
      have h := HCI.out.cell (HC.out j (by have := HN.out; omega)) (by simp)
      have e : l.getD j 0 = s0 := by rw [HS0.out]; exact rn_get _ _ _ (by have := HM.out; unfold alk at this; omega)
      rw [e] at h; exact h
    have hx0 : wi.cell? ⟨g, off, none⟩ = some (.int .i64 (s0 : Int)) := by
      have h := HCI.out.cell (HC.out 0 (by have := HN.out; omega)) (by simp)
      rw [← HS0.out] at h; exact h
    have hb : ((s0 : Int) == (s0 : Int)) = true := by simp
    have hjn : j < n := by omega
    go_wp2_with fail
    go_quiet (fail)
    go_wp2
    go_step3
    exact ⟨rfl, ⟨j + 1, _, _, _, _, _, _, _, _, _, _, _, _, _, _, _, _, _, _, _, _, _, _, by omega, rfl, HCI.out.drewN _⟩, by simp [intOf]; omega⟩
  · have hjm : j = m := by omega
    subst hjm
    have E := Lib.hid (show ak l = if nR l = true then 0 else j by unfold ak; rw [← HM.out])
    by_cases hlt : j < n
    · have hlt2 : decide ((j : Int) < (n : Int)) = true := by simp; omega
      obtain ⟨s, hs⟩ : ∃ s, s = l.getD j 0 := ⟨_, rfl⟩
      have hx : wi.cell? ⟨g, off + j, none⟩ = some (.int .i64 (s : Int)) := by
        have h := HCI.out.cell (HC.out j (by have := HN.out; omega)) (by simp)
        rw [← hs] at h; exact h
      have hx0 : wi.cell? ⟨g, off, none⟩ = some (.int .i64 (s0 : Int)) := by
        have h := HCI.out.cell (HC.out 0 (by have := HN.out; omega)) (by simp)
        rw [← HS0.out] at h; exact h
      have hne : s ≠ s0 := by
        rw [hs, HS0.out, HM.out]; exact rn_stop _ _ (by have h1 := HM.out; have h2 := HN.out; show alk l < l.length; omega)
      have hb : ((s : Int) == (s0 : Int)) = false := by simp; omega
      clear hs hne
      by_cases hr : nR l = true
      · have hd : decide ((j : Int) < (if (n : Int) < 8 then (n : Int) else 8)) = true := by
          have h1 : alk l < min 8 l.length := by simpa [nR] using hr
          rw [← HM.out, ← HN.out] at h1
          split <;> simp <;> omega
        rw [if_pos hr] at E
        clear hr
        go_wp2_with fail
        go_quiet (fail)
        go_wp2
        all_goals
          simp only [Exit.jump]
          go_ret
          exact ⟨by rw [E.out]; rfl, HCI.out.drewN _⟩
      · have hd : decide ((j : Int) < (if (n : Int) < 8 then (n : Int) else 8)) = false := by
          have h1 : ¬ alk l < min 8 l.length := by simpa [nR] using hr
          rw [← HM.out, ← HN.out] at h1
          split <;> simp <;> omega
        rw [if_neg hr] at E
        clear hr
        go_wp2_with fail
        go_quiet (fail)
        go_wp2
        all_goals
          simp only [Exit.jump]
          go_ret
          exact ⟨by rw [E.out]; rfl, HCI.out.drewN _⟩
    · have hlt2 : decide ((j : Int) < (n : Int)) = false := by simp; omega
      have hr : ¬ nR l = true := by
        unfold nR; rw [← HM.out, ← HN.out]; simp; omega
      have hd : decide ((j : Int) < (if (n : Int) < 8 then (n : Int) else 8)) = false := by
        split <;> simp <;> omega
      rw [if_neg hr] at E
      clear hr
      go_wp2_with fail
      go_quiet (fail)
      go_wp2
      all_goals
        simp only [Exit.jump]
        go_ret
        exact ⟨by rw [E.out]; rfl, HCI.out.drewN _⟩

end Go.Proofs.Ytlhdicbhanncnaa
