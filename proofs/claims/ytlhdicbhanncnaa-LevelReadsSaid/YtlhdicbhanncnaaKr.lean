/- The reference's levels: same, run, Encode. -/
import Derived.Test.YtlhdicbhanncnaaRp1
import Derived.Test.YtlhdicbhanncnaaKc
import Derived.Test.YtlhdicbhanncnaaKi
import Derived.Test.YtlhdicbhanncnaaA3
import Derived.Deep.RegionHeld3
import Derived.Deep.DeepCutAuto
import Derived.Deep.CutBlock
namespace Go.Proofs.Ytlhdicbhanncnaa
open Go.RowKit
set_option linter.unusedVariables false
set_option linter.unusedSimpArgs false

theorem getD_drop (l : List Nat) (a j : Nat) : (l.drop a).getD j 0 = l.getD (a + j) 0 := by simp [List.getD, List.getElem?_drop]

set_option maxRecDepth 100000 in
set_option maxHeartbeats 1000000 in
theorem rsame10_any (lv : Value) (l : List Nat) (a : Nat) (w : World) (hS : Seen w lv (nv .i64 l)) (ha : a < l.length) (hl2 : l.length ≤ 1000000) :
    Calls Try.prog 13 #[lv, .int .i64 (a : Int)] w fun e w' => e = .returned (.int .i64 (alk (l.drop a) : Nat)) ∧ Chg [] w w' := by
  obtain ⟨ao, cap, rfl, hc1, hc2⟩ := hS.shape
  rw [nv_length] at hc1 hS
  rw [nv_length]
  obtain ⟨g, off, rfl, hcell⟩ := hS.at0 rfl (by omega)
  have HC := Lib.hid hcell
  obtain ⟨n, hn⟩ : ∃ n, n = l.length := ⟨_, rfl⟩
  rw [← hn] at ha hc1 hl2 ⊢
  have HN := Lib.hid hn
  obtain ⟨m, hm⟩ : ∃ m, m = alk (l.drop a) := ⟨_, rfl⟩
  have hdl : (l.drop a).length = n - a := by rw [List.length_drop, hn]
  have hmn : m ≤ n - a := by rw [hm, ← hdl]; exact alk_le _
  have hm1 : 1 ≤ m := by rw [hm]; exact alk_pos _ (by intro e; rw [e] at hdl; simp at hdl; omega)
  have HA0 := Lib.hid (show ∀ j, j < m → l.getD (a + j) 0 = l.getD a 0 from fun j hj => by
    have h := rn_get ((l.drop a).getD 0 0) (l.drop a) j (by rw [hm] at hj; exact hj)
    rw [getD_drop, getD_drop] at h; simpa using h)
  have HA1 := Lib.hid (show m < n - a → l.getD (a + m) 0 ≠ l.getD a 0 from fun hj => by
    have h := rn_stop ((l.drop a).getD 0 0) (l.drop a) (by rw [hdl]; have : rn ((l.drop a).getD 0 0) (l.drop a) = m := hm.symm
                                                           omega)
    have e : rn ((l.drop a).getD 0 0) (l.drop a) = m := hm.symm
    rw [e, getD_drop, getD_drop] at h; simpa using h)
  rw [← hm]
  clear hS hcell hn hm hc2 hdl
  go_enter Try.func13, Try.ntmps13
  go_wp2
  go_loopw [5] (fun i w' => ∃ j : Nat, 1 ≤ j ∧ j ≤ m ∧ i = .int .i64 (j : Int) ∧ Chg [] w w') (fun i _ => n - (intOf i).toNat)
  case atStart => exact ⟨1, Nat.le_refl _, hm1, rfl, Chg.refl _ _⟩
  case round =>
    obtain ⟨j, hj1, hj, rfl, hci⟩ := hrel
    have HCI := Lib.hid hci; clear hci
    obtain ⟨p, hp⟩ : ∃ p, p = a + j := ⟨_, rfl⟩
    have hpi : (a : Int) + (j : Int) = (p : Int) := by omega
    have hpw : IntKind.i64.wrap (p : Int) = (p : Int) := IntWalk.i64_in _ (by omega)
    by_cases hjm : j < m
    · have hpn : p < n := by omega
      have hlt : decide ((p : Int) < (n : Int)) = true := by simp; omega
      obtain ⟨s0, hs0⟩ : ∃ s, s = l.getD a 0 := ⟨_, rfl⟩
      have hx : wr.cell? ⟨g, off + p, none⟩ = some (.int .i64 (s0 : Int)) := by
        have h := HCI.out.cell (HC.out p (by have := HN.out; omega)) (by simp)
        rw [hp, HA0.out j hjm, ← hs0] at h; rw [hp]; exact h
      have hx0 : wr.cell? ⟨g, off + a, none⟩ = some (.int .i64 (s0 : Int)) := by
        have h := HCI.out.cell (HC.out a (by have := HN.out; omega)) (by simp)
        rw [← hs0] at h; exact h
      have hb : ((s0 : Int) == (s0 : Int)) = true := by simp
      clear hs0 hp
      go_wp2_with fail
      go_quiet (fail)
      go_wp2
      go_roundw
      case rel => exact ⟨j + 1, by omega, hjm, by go_num, HCI.out.drewN _⟩
      case measure => simp [intOf]; omega
    · have hjm : j = m := by omega
      subst hjm
      by_cases hpn : p < n
      · have hlt : decide ((p : Int) < (n : Int)) = true := by simp; omega
        obtain ⟨s0, hs0⟩ : ∃ s, s = l.getD a 0 := ⟨_, rfl⟩
        obtain ⟨s, hs⟩ : ∃ s, s = l.getD p 0 := ⟨_, rfl⟩
        have hx : wr.cell? ⟨g, off + p, none⟩ = some (.int .i64 (s : Int)) := by
          have h := HCI.out.cell (HC.out p (by have := HN.out; omega)) (by simp)
          rw [← hs] at h; exact h
        have hx0 : wr.cell? ⟨g, off + a, none⟩ = some (.int .i64 (s0 : Int)) := by
          have h := HCI.out.cell (HC.out a (by have := HN.out; omega)) (by simp)
          rw [← hs0] at h; exact h
        have hne : s ≠ s0 := by rw [hs, hs0, hp]; exact HA1.out (by omega)
        have hb : ((s : Int) == (s0 : Int)) = false := by simp; omega
        clear hs0 hs hp hne
        go_wp2_with fail
        go_quiet (fail)
        go_wp2
        go_ret
        exact ⟨rfl, HCI.out.drewN _⟩
      · have hlt : decide ((p : Int) < (n : Int)) = false := by simp; omega
        clear hp
        go_wp2_with fail
        go_quiet (fail)
        go_wp2
        go_ret
        exact ⟨rfl, HCI.out.drewN _⟩

set_option maxRecDepth 100000 in
set_option maxHeartbeats 1000000 in
theorem rrun10_any (lv : Value) (l : List Nat) (a : Nat) (w : World) (hS : Seen w lv (nv .i64 l)) (ha : a < l.length) (hl2 : l.length ≤ 1000000) :
    Calls Try.prog 12 #[lv, .int .i64 (a : Int)] w fun e w' => e = .returned (.bool (!nR (l.drop a))) ∧ Chg [] w w' := by
  have HR := Lib.hid (rsame10_any lv l a w hS ha hl2)
  obtain ⟨ao, cap, rfl, hc1, hc2⟩ := hS.shape
  rw [nv_length] at hc1 hS
  rw [nv_length] at HR ⊢
  obtain ⟨n, hn⟩ : ∃ n, n = l.length := ⟨_, rfl⟩
  have hdl : (l.drop a).length = n - a := by rw [List.length_drop, hn]
  rw [← hn] at ha hc1 hl2 HR ⊢
  obtain ⟨m, hm⟩ : ∃ m, m = alk (l.drop a) := ⟨_, rfl⟩
  have hmn : m ≤ n - a := by rw [hm, ← hdl]; exact alk_le _
  rw [← hm] at HR
  have hE : (!nR (l.drop a)) = (decide (8 ≤ m) || decide (a + m = n)) := by
    unfold nR
    rw [← hm, hdl]
    by_cases h8 : 8 ≤ m
    · simp [h8]; omega
    · by_cases hx : a + m = n
      · simp [hx]; omega
      · simp [h8, hx]; omega
  have HE := Lib.hid hE
  clear hS hn hm hdl hE hc2
  by_cases h8 : 8 ≤ m
  · have hd : decide ((8 : Int) ≤ (m : Int)) = true := by simp; omega
    have E := Lib.hid (show (!nR (l.drop a)) = true by rw [HE.out]; simp [h8])
    go_enter Try.func12, Try.ntmps12
    go_wp2_with fail
    refine HR.out.mono ?_
    rintro e w1 ⟨rfl, hc⟩
    have HC := Lib.hid hc
    clear hc
    go_wp2
    go_ret
    exact ⟨by rw [E.out]; rfl, HC.out⟩
  · have hd : decide ((8 : Int) ≤ (m : Int)) = false := by simp; omega
    obtain ⟨p, hp⟩ : ∃ p, p = a + m := ⟨_, rfl⟩
    have hpi : (a : Int) + (m : Int) = (p : Int) := by omega
    by_cases hx : p = n
    · have hb : ((p : Int) == (n : Int)) = true := by simp [hx]
      have E := Lib.hid (show (!nR (l.drop a)) = true by rw [HE.out, ← hp]; simp [hx])
      clear hp hx
      go_enter Try.func12, Try.ntmps12
      go_wp2_with fail
      refine HR.out.mono ?_
      rintro e w1 ⟨rfl, hc⟩
      have HC := Lib.hid hc
      clear hc
      go_wp2
      go_ret
      exact ⟨by rw [E.out]; rfl, HC.out⟩
    · have hb : ((p : Int) == (n : Int)) = false := by simp; omega
      have E := Lib.hid (show (!nR (l.drop a)) = false by rw [HE.out, ← hp]; simp [h8, hx])
      clear hp hx
      go_enter Try.func12, Try.ntmps12
      go_wp2_with fail
      refine HR.out.mono ?_
      rintro e w1 ⟨rfl, hc⟩
      have HC := Lib.hid hc
      clear hc
      go_wp2
      go_ret
      exact ⟨by rw [E.out]; rfl, HC.out⟩

end Go.Proofs.Ytlhdicbhanncnaa
