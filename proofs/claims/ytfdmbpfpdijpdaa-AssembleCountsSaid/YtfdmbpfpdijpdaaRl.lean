/- Contracts of the reference's Parents and Leaves. -/
import Derived.Test.YtfdmbpfpdijpdaaRw
import Derived.Test.YtfdmbpfpdijpdaaA5
namespace Go.Proofs.Ytfdmbpfpdijpdaa
open Go.RowKit
set_option linter.unusedVariables false

theorem own_seenI {w : World} {B n : Nat} {v : Value} {l : List Int} (h : w.ownsRow B 3 1 v n (iv l)) (hn : l.length = n) : SeenI w v l := by
  subst hn
  obtain ⟨hl, h1⟩ := h
  rcases h1 with ⟨rfl, hn⟩ | ⟨g, cap, cur, rfl, _, hg, hc, hm, hs, ht⟩
  · exact ⟨none, 0, by rw [hn], by omega, by decide, fun hp => by omega⟩
  · refine ⟨_, cap, rfl, by omega, by omega, fun _ => ⟨g, 0, rfl, fun j x i u hx hu => ?_⟩⟩
    have hi : i = 0 := by
      cases i with
      | zero => rfl
      | succ i => simp [ic] at hu
    subst hi
    simp [ic] at hu
    subst hu
    rw [Nat.zero_add, cell_of_row w g _ _ _ _ hg]
    have h : (iv l)[j]? = some (.int .i64 x) := by simp [iv, hx]
    rw [← ht, List.getElem?_take] at h
    split at h
    · simpa using h
    · cases h

set_option maxHeartbeats 400000 in
theorem rparents_any : RParents := by
  intro sl l w hS hl hw
  obtain ⟨ao, cap, rfl, hc1, hc2⟩ := hS.shape
  have HS := Lib.hid hS; have HW := Lib.hid hw; have HL := Lib.hid hl
  clear hS hw hl
  go_enter Try.func52, Try.ntmps52
  go_wp2_with fail
  (with_reducible refine (rwalk_any _ l w HS.out HL.out HW.out).mono ?_)
  rintro e w1 ⟨pv, dv, rfl, h1, h2, h3⟩
  have HP := Lib.hid h1; have HC := Lib.hid h3
  clear h1 h2 h3
  go_wp2
  go_ret
  exact ⟨_, rfl, own_seenI HP.out (by simp), HC.out⟩

end Go.Proofs.Ytfdmbpfpdijpdaa
