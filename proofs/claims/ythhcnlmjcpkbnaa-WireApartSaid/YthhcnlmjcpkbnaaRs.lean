/- Contract of the reference's Same, at two slices that read alike. -/
import Derived.Test.YthhcnlmjcpkbnaaA4
import Derived.Deep.QuietTactic
import Derived.BigQuiet
namespace Go.Proofs.Ythhcnlmjcpkbnaa
open Go.RowKit
set_option linter.unusedVariables false

set_option maxRecDepth 100000 in
set_option maxHeartbeats 1000000 in
theorem rsame_any (av bv : Value) (l : List F) (w : World) (hA : SeenF w av l) (hB : SeenF w bv l) :
    Calls Try.prog 24 #[av, bv] w fun e w' => e = .returned (.bool true) ∧ Chg [] w w' := by
  obtain ⟨ao, cap, rfl, hc1, hc2⟩ := hA.shape
  obtain ⟨bo, cap', rfl, hc1', hc2'⟩ := hB.shape
  obtain ⟨n, hn⟩ : ∃ n, n = l.length := ⟨_, rfl⟩
  rw [← hn] at hc1 hc1' hA hB ⊢
  have hnm : n ≤ 9223372036854775807 := by unfold maxLen at hc2; omega
  have HA := Lib.hid hA; have HB := Lib.hid hB; have HN := Lib.hid hn
  clear hA hB hn
  go_enter Try.func24, Try.ntmps24
  go_wp2
  go_loopw [5] (fun x w' => ∃ k q : Nat, x = .int .i64 (k : Int) ∧ k ≤ n ∧ w' = w.drewN q) (fun x _ => n - (intOf x).toNat)
  case atStart => exact ⟨0, 0, rfl, Nat.zero_le _, rfl⟩
  case round =>
    obtain ⟨k, q, rfl, hk, rfl⟩ := hrel
    by_cases hlt : k < n
    · obtain ⟨ga, oa, rfl, ha⟩ := HA.out.at (by omega)
      obtain ⟨gb, ob, rfl, hb⟩ := HB.out.at (by omega)
      obtain ⟨x, hx⟩ : ∃ x, l[k]? = some x := ⟨_, List.getElem?_eq_getElem (by rw [← HN.out]; exact hlt)⟩
      obtain ⟨a1, a2, a3, a4⟩ := SeenF.cells ha hx
      obtain ⟨b1, b2, b3, b4⟩ := SeenF.cells hb hx
      obtain ⟨wi, hwi⟩ : ∃ wi, wi = w.drewN q := ⟨_, rfl⟩
      have HW := Lib.hid hwi
      have c1 : wi.cell? ⟨ga, oa + k * 4, none⟩ = some (.string x.n) := by rw [hwi]; exact a1
      have c2 : wi.cell? ⟨ga, oa + k * 4 + 1, none⟩ = some (.int .i64 x.r) := by rw [hwi]; exact a2
      have c3 : wi.cell? ⟨ga, oa + k * 4 + 2, none⟩ = some (.int .i64 x.k) := by rw [hwi]; exact a3
      have c4 : wi.cell? ⟨ga, oa + k * 4 + 3, none⟩ = some (.int .i64 x.c) := by rw [hwi]; exact a4
      have d1 : wi.cell? ⟨gb, ob + k * 4, none⟩ = some (.string x.n) := by rw [hwi]; exact b1
      have d2 : wi.cell? ⟨gb, ob + k * 4 + 1, none⟩ = some (.int .i64 x.r) := by rw [hwi]; exact b2
      have d3 : wi.cell? ⟨gb, ob + k * 4 + 2, none⟩ = some (.int .i64 x.k) := by rw [hwi]; exact b3
      have d4 : wi.cell? ⟨gb, ob + k * 4 + 3, none⟩ = some (.int .i64 x.c) := by rw [hwi]; exact b4
      rw [← hwi]
      clear ha hb hx hwi a1 a2 a3 a4 b1 b2 b3 b4
      go_wp2_with fail
      go_quiet (fail)
      go_wp2
      go_roundw
      case rel => exact ⟨k + 1, _, by go_num, by omega, by rw [HW.out]; exact drew_drew w q _⟩
      case measure => simp [intOf]; omega
    · go_wp2
      go_ret
      exact ⟨rfl, (Chg.refl [] w).drewN q⟩

end Go.Proofs.Ythhcnlmjcpkbnaa
