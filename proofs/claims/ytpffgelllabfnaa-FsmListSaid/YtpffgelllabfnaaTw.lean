/- Contracts: the reference's twice; Few. (For SchemaChecks.) -/
import Derived.Test.YtpffgelllabfnaaA2
namespace Go.Proofs.Ytpffgelllabfnaa
open Go.RowKit
set_option linter.unusedVariables false

set_option maxRecDepth 100000 in
set_option maxHeartbeats 1000000 in
theorem twice_any (sv pv : Value) (l : List F) (ps : List Int) (i : Nat) (w : World) (hS : SeenF w sv l) (hP : SeenI w pv ps) (hl : ps.length = l.length) (hi : i < l.length) :
    Calls Try.prog 33 #[sv, pv, .int .i64 (i : Int)] w fun e w' => e = .returned (.bool (takenB l ps i)) ∧ Chg [] w w' := by
  obtain ⟨ao, cap, rfl, hc1, hc2⟩ := hS.shape
  obtain ⟨ao', cap', rfl, hc1', hc2'⟩ := hP.shape
  obtain ⟨n, hn⟩ : ∃ n, n = l.length := ⟨_, rfl⟩
  rw [hl] at hc1' hP ⊢
  rw [← hn] at hi hc1 hc1' hS hP hl ⊢
  have hnm : n ≤ maxLen := by omega
  obtain ⟨g, off, rfl, hcs⟩ := hS.get (by omega) hn.symm
  obtain ⟨g', off', rfl, hcp⟩ := hP.get (by omega) hl
  have HS := Lib.hid hcs; have HP := Lib.hid hcp
  clear hS hP hcs hcp hn hl
  unfold maxLen at hnm
  go_enter Try.func33, Try.ntmps33
  go_wp2
  go_loopw [7] (fun x w' => ∃ k q : Nat, x = .int .i64 (k : Int) ∧ k ≤ i ∧ w' = w.drewN q ∧ (List.range k).any (sameN l ps i) = false) (fun x w' => i - (intOf x).toNat)
  case atStart => exact ⟨0, 0, rfl, by omega, rfl, rfl⟩
  case round =>
    obtain ⟨k, q, rfl, hk, rfl, hno⟩ := hrel
    have HNO := Lib.hid hno
    clear hno
    by_cases hlt : k < i
    · have a1 : (w.drewN q).cell? ⟨g, off + k * 4, none⟩ = some (.string (l.getD k default).n) := (HS.out k (by omega)).1
      have a2 : (w.drewN q).cell? ⟨g, off + i * 4, none⟩ = some (.string (l.getD i default).n) := (HS.out i (by omega)).1
      have a3 : (w.drewN q).cell? ⟨g', off' + k, none⟩ = some (.int .i64 (ps.getD k 0)) := HP.out k (by omega)
      have a4 : (w.drewN q).cell? ⟨g', off' + i, none⟩ = some (.int .i64 (ps.getD i 0)) := HP.out i (by omega)
      obtain ⟨wi, hwi⟩ : ∃ wi, wi = w.drewN q := ⟨_, rfl⟩
      rw [← hwi] at a1 a2 a3 a4 ⊢
      have HW := Lib.hid hwi
      clear hwi
      obtain ⟨nk, hnk⟩ : ∃ x, x = (l.getD k default).n := ⟨_, rfl⟩
      obtain ⟨ni, hni⟩ : ∃ x, x = (l.getD i default).n := ⟨_, rfl⟩
      obtain ⟨pk, hpk⟩ : ∃ x, x = ps.getD k 0 := ⟨_, rfl⟩
      obtain ⟨pi, hpi⟩ : ∃ x, x = ps.getD i 0 := ⟨_, rfl⟩
      have HB := Lib.hid (show sameN l ps i k = (decide (pk = pi) && decide (nk = ni)) by unfold sameN; rw [hnk, hni, hpk, hpi])
      rw [← hnk] at a1; rw [← hni] at a2; rw [← hpk] at a3; rw [← hpi] at a4
      clear hnk hni hpk hpi
      by_cases hps : pk = pi
      · have e1 : (pk == pi) = true := by simpa using hps
        have HPS := Lib.hid hps
        clear hps
        by_cases hn : nk = ni
        · have e2 : (nk.toList == ni.toList) = true := by simp [hn]
          have E := Lib.hid (show takenB l ps i = true from any_range_yes (by rw [HB.out]; simp [HPS.out, hn]) hlt)
          clear hn
          go_wp2_with fail
          go_quiet (fail)
          go_wp2
          go_ret
          exact ⟨ret_bool E.out.symm, by rw [HW.out]; exact ((Chg.refl [] w).drewN q).drewN _⟩
        · have e2 : (nk.toList == ni.toList) = false := by
            rw [Bool.eq_false_iff]
            intro h
            exact hn (bytes_ext h)
          have E := Lib.hid (show (List.range (k + 1)).any (sameN l ps i) = false from any_range_no HNO.out (by rw [HB.out]; simp [hn]))
          clear hn
          go_wp2_with fail
          go_quiet (fail)
          go_wp2
          go_roundw
          case rel => exact ⟨k + 1, _, by go_num, by omega, by rw [HW.out]; exact drew_drew w q _, E.out⟩
          case measure => simp [intOf]; omega
      · have e1 : (pk == pi) = false := by simpa using hps
        have E := Lib.hid (show (List.range (k + 1)).any (sameN l ps i) = false from any_range_no HNO.out (by rw [HB.out]; simp [hps]))
        clear hps
        go_wp2_with fail
        go_quiet (fail)
        go_wp2
        go_roundw
        case rel => exact ⟨k + 1, _, by go_num, by omega, by rw [HW.out]; exact drew_drew w q _, E.out⟩
        case measure => simp [intOf]; omega
    · have e : k = i := by omega
      have E := Lib.hid (show takenB l ps i = false by have h := HNO.out; rw [e] at h; exact h)
      clear e
      go_wp2
      go_ret
      exact ⟨ret_bool E.out.symm, (Chg.refl [] w).drewN q⟩

/-- Not too much. -/
def fewOk (l : List F) : Bool := (l.all fun f => decide (f.n.size ≤ 20)) && decide (l.length ≤ 50)

end Go.Proofs.Ytpffgelllabfnaa
