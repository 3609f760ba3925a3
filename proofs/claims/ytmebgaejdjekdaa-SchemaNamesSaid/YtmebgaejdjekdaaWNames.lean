/- The walk of the statement SchemaNames. -/
import Derived.Test.YtmebgaejdjekdaaRn
import Derived.Test.YtmebgaejdjekdaaBd
namespace Go.Proofs.Ytmebgaejdjekdaa
open Go.RowKit
set_option linter.unusedVariables false

def bm : ByteArray := { data := #[109] }
def ba : ByteArray := { data := #[97] }

theorem chk_names1 (name : ByteArray) : chk [⟨bm, 0, 0, 1⟩, ⟨name, 0, 1, 0⟩] = if nameB (bl name) = true then 0 else 7 := by
  cases hn : nameB (bl name)
  all_goals
    have e : nameB (bl bm) = true := by decide
    simp [chk, firstN, faultN, hn, e, parents, par, popS, topS, decS, pushS, depths, cntL, takenB, sameN, knownB, rootB, haveB, lacksB, fewB, List.range_succ]

theorem chk_names2 (name : ByteArray) : chk [⟨name, 0, 0, 1⟩, ⟨ba, 0, 1, 0⟩] = if nameB (bl name) = true then 0 else 7 := by
  cases hn : nameB (bl name)
  all_goals
    have e : nameB (bl ba) = true := by decide
    simp [chk, firstN, faultN, hn, e, parents, par, popS, topS, decS, pushS, depths, cntL, takenB, sameN, knownB, rootB, haveB, lacksB, fewB, List.range_succ]

set_option maxRecDepth 100000 in
set_option maxHeartbeats 1000000 in
theorem walk_SchemaNames (a0 : ByteArray) (w : World) (w0 : a0.size ≤ maxLen) :
    Calls Try.prog 8 #[.string a0] w fun e w' => e = .returned (.bool true) ∧ Below w.heap.size w w' := by
  unfold maxLen at w0
  by_cases h1 : 20 < a0.size
  · have d1 : decide ((20 : Int) < (a0.size : Int)) = true := by simp; omega
    go_enter Try.func8, Try.ntmps8
    go_wp2_with fail
    (with_reducible refine (known_any _).mono ?_)
    rintro e w1 ⟨rfl, hk⟩
    have HK := Lib.hid hk
    clear hk
    go_wp2
    go_ret
    exact ⟨rfl, HK.out.below (Nat.le_refl _) (by simp)⟩
  have d1 : decide ((20 : Int) < (a0.size : Int)) = false := by simp; omega
  go_enter Try.func8, Try.ntmps8
  go_wp2_with fail
  (with_reducible refine (known_any _).mono ?_)
  rintro e w1 ⟨rfl, hk⟩
  have HK := Lib.hid hk
  clear hk
  have hS1 := (SeenF.lit w1 w1.heap.size rfl 33 #[.string bm, .int .i64 0, .int .i64 0, .int .i64 1, .string a0, .int .i64 0, .int .i64 1, .int .i64 0] [⟨bm, 0, 0, 1⟩, ⟨a0, 0, 1, 0⟩] 2 rfl rfl (by decide))
  have hS2 := (SeenF.lit (w1.alloc (.cells #[.string bm, .int .i64 0, .int .i64 0, .int .i64 1, .string a0, .int .i64 0, .int .i64 1, .int .i64 0] 33)) (w1.heap.size + 1) (by simp) 33 #[.string a0, .int .i64 0, .int .i64 0, .int .i64 1, .string ba, .int .i64 0, .int .i64 1, .int .i64 0] [⟨a0, 0, 0, 1⟩, ⟨ba, 0, 1, 0⟩] 2 rfl rfl (by decide))
  have hch := (HK.out.alloc (.cells #[.string bm, .int .i64 0, .int .i64 0, .int .i64 1, .string a0, .int .i64 0, .int .i64 1, .int .i64 0] 33)).alloc (.cells #[.string a0, .int .i64 0, .int .i64 0, .int .i64 1, .string ba, .int .i64 0, .int .i64 1, .int .i64 0] 33)
  have HS1 := Lib.hid (hS1.keep ((Chg.refl [] _).alloc (.cells #[.string a0, .int .i64 0, .int .i64 0, .int .i64 1, .string ba, .int .i64 0, .int .i64 1, .int .i64 0] 33)))
  have HS2 := Lib.hid hS2; have HCH := Lib.hid hch
  clear hS1 hS2 hch
  have hz : a0.size ≤ 1000000 := by omega
  have HNB := Lib.hid (chk_names1 a0); have HNB2 := Lib.hid (chk_names2 a0)
  unfold bm ba at HS1
  unfold bm ba at HCH
  unfold ba at HS2
  unfold bm at HNB
  unfold ba at HNB2
  have hbm : bm.size ≤ 1000000 := by decide
  have hba : ba.size ≤ 1000000 := by decide
  unfold bm at hbm
  unfold ba at hba
  have HBM := Lib.hid hbm; have HBA := Lib.hid hba
  clear hbm hba
  cases hnb : nameB (bl a0)
  all_goals
    rw [hnb] at HNB HNB2
    have HN := Lib.hid hnb
    clear hnb
    simp only [if_pos, Bool.false_eq_true, if_false] at HNB HNB2
    go_wp2_with fail
    (with_reducible refine (check_any _ _ _ HS1.out (by intro f hf; simp at hf; rcases hf with rfl | rfl <;> simp) (by intro f hf; simp at hf; rcases hf with rfl | rfl <;> first | exact hz | exact HBM.out)).mono ?_)
    rintro e w2 ⟨rfl, hk⟩
    rw [HNB.out]
    have HS3 := Lib.hid (HS2.out.keep hk)
    have HK2 := Lib.hid (HCH.out.trans hk (by simp))
    clear hk
    go_wp2_with fail
    (with_reducible refine (name_any a0 _ hz).mono ?_)
    rintro e w3 ⟨rfl, rfl⟩
    rw [HN.out]
    go_wp2_with fail
    (with_reducible refine (check_any _ _ _ HS3.out (by intro f hf; simp at hf; rcases hf with rfl | rfl <;> simp) (by intro f hf; simp at hf; rcases hf with rfl | rfl <;> first | exact hz | exact HBA.out)).mono ?_)
    rintro e w4 ⟨rfl, hk⟩
    rw [HNB2.out]
    have HK3 := Lib.hid (HK2.out.trans hk (by simp))
    clear hk
    go_wp2_with fail
    (with_reducible refine (name_any a0 _ hz).mono ?_)
    rintro e w5 ⟨rfl, rfl⟩
    rw [HN.out]
    go_wp2
    go_ret
    exact ⟨rfl, HK3.out.below (Nat.le_refl _) (by simp)⟩

end Go.Proofs.Ytmebgaejdjekdaa
