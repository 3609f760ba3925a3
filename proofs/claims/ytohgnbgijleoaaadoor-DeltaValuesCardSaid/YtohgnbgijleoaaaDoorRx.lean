/- The reference's reader: End. -/
import Derived.Test.YtohgnbgijleoaaaDoorRef
namespace Go.Proofs.YtohgnbgijleoaaaDoor
open Go.RowKit
set_option linter.unusedVariables false
set_option linter.unusedSimpArgs false
variable {M : Nat}

set_option maxRecDepth 100000 in
set_option maxHeartbeats 1000000 in
theorem xend_any (x : Nat) (e : Int) (w : World) (bs : List Int) (a : Nat) (hz : bs.length ≤ 140737488355328) (h : XR w x bs a e M) :
    Calls Tryd.prog 49 #[.pointer (some ⟨x, 0, none⟩)] w fun y w' => y = .returned (.int .i64 (if e = 0 ∧ a < bs.length then 9 else e)) ∧ ∃ n, w' = w.drewN n := by
  obtain ⟨v, h1, h2, h3, h4, h5⟩ := h
  obtain ⟨ao, cap, rfl, hc1, hc2⟩ := h2.shape
  obtain ⟨c0, c1, c2, f0, f1, f2⟩ := cells3 h1
  simp only [bys_length] at c0 hc1
  clear h1 h2 h3 h4
  by_cases he : e = 0
  · subst he
    by_cases hl : a < bs.length
    · rw [if_pos ⟨rfl, hl⟩]
      have hl2 : decide ((a : Int) < (bs.length : Int)) = true := by simpa using hl
      go_enter Tryd.func49, Tryd.ntmps49
      go_wp2
      go_quiet (fail)
      go_wp2
      go_ret
      exact ⟨rfl, _, rfl⟩
    · rw [if_neg (by omega)]
      have hl2 : decide ((a : Int) < (bs.length : Int)) = false := by simpa using hl
      go_enter Tryd.func49, Tryd.ntmps49
      go_wp2
      go_quiet (fail)
      go_wp2
      go_ret
      exact ⟨rfl, _, rfl⟩
  · rw [if_neg (by omega)]
    have hb : (e == 0) = false := by simpa using he
    clear he
    go_enter Tryd.func49, Tryd.ntmps49
    go_wp2
    go_quiet (fail)
    go_wp2
    go_ret
    exact ⟨rfl, _, rfl⟩

end Go.Proofs.YtohgnbgijleoaaaDoor
