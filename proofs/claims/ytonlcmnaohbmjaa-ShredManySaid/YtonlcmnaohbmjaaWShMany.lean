/- ShredMany. -/
import Derived.Test.YtonlcmnaohbmjaaShm
namespace Go.Proofs.Ytonlcmnaohbmjaa
open Go.RowKit
set_option linter.unusedVariables false
set_option linter.unusedSimpArgs false

set_option maxRecDepth 100000 in
set_option maxHeartbeats 4000000 in
theorem walk_ShredMany (a0 a1 : Int) (w : World) (w0 : (Lit.int .i64 a0).wf = true) (w1 : (Lit.int .i64 a1).wf = true) :
    Calls Try.prog 8 #[.int .i64 a0, .int .i64 a1] w fun e w' => e = .returned (.bool true) ∧ Below w.heap.size w w' := by
  have HA := Lib.hid (fun wx => w14_int a0 6 6 wx rfl (by decide) (by decide) w0)
  have HB := Lib.hid (fun wx => w14_int a1 5 5 wx rfl (by decide) (by decide) w1)
  obtain ⟨qa, hqa⟩ : ∃ q, q = (a0 % ((6 : Nat) : Int)).toNat := ⟨_, rfl⟩
  obtain ⟨qb, hqb⟩ : ∃ q, q = (a1 % ((5 : Nat) : Int)).toNat := ⟨_, rfl⟩
  have hqa1 : qa < 6 := by rw [hqa]; exact within_lt a0 6 (by decide)
  have hqb1 : qb < 5 := by rw [hqb]; exact within_lt a1 5 (by decide)
  rw [← hqa] at HA
  rw [← hqb] at HB
  clear hqa hqb w0 w1
  obtain ⟨n, hn⟩ : ∃ n, n = 197 + qa := ⟨_, rfl⟩
  obtain ⟨m, hm⟩ : ∃ m, m = 78 + qb := ⟨_, rfl⟩
  have e1 : (197 : Int) + (qa : Int) = (n : Int) := by omega
  have e2 : (78 : Int) + (qb : Int) = (m : Int) := by omega
  have e3 : IntKind.i64.wrap (197 + (qa : Int)) = (n : Int) := by rw [e1]; exact IntWalk.i64_in _ (by omega)
  have e4 : IntKind.i64.wrap (78 + (qb : Int)) = (m : Int) := by rw [e2]; exact IntWalk.i64_in _ (by omega)
  obtain ⟨M, hM⟩ : ∃ M, M = m * 50 := ⟨_, rfl⟩
  have hM2 : M < 4200 := by omega
  have e5 : (m : Int) * 50 = (M : Int) := by omega
  have e6 : (50 : Int) * (m : Int) = (M : Int) := by omega
  have e7 : IntKind.i64.wrap (M : Int) = (M : Int) := IntWalk.i64_in _ (by omega)
  have HMM := Lib.hid hM
  have hn2 : 197 ≤ n ∧ n < 203 := by omega
  have hm2 : 78 ≤ m ∧ m < 83 := by omega
  have HN := Lib.hid hn; have HM := Lib.hid hm
  clear hn hm hM
  go_enter Try.func8, Try.ntmps8
  go_wp2_with fail
  (with_reducible refine (known14_any w).mono ?_)
  rintro e wA ⟨rfl, hkA⟩
  have HKA := Lib.hid hkA
  obtain ⟨W1, hW1⟩ : ∃ W1, W1 = wA.alloc (.cells #[.string { data := #[109] }, .int .i64 0, .int .i64 0, .int .i64 1, .string { data := #[97] }, .int .i64 2, .int .i64 1, .int .i64 0] 56) := ⟨_, rfl⟩
  have hb1 : W1.heap[wA.heap.size]? = some (.cells #[.string { data := #[109] }, .int .i64 0, .int .i64 0, .int .i64 1, .string { data := #[97] }, .int .i64 2, .int .i64 1, .int .i64 0] 56 (0, 0)) := by rw [hW1]; exact heap_alloc_new wA _
  have hsA : SeenF W1 (.slice (some ⟨wA.heap.size, 0, none⟩) 2 2) klM := SeenF.blk hb1 klM 2 rfl rfl (by decide)
  have HC1 := Lib.hid (show Chg [] w W1 by rw [hW1]; exact hkA.alloc _)
  have HY := Lib.hid (show ∀ (n k : Nat) wx, n ≤ 1000 → k ≤ 1000 → Chg [] W1 wx → Calls Try.prog 27 #[.int .i64 (n : Int), .int .i64 (k : Int)] wx fun e w' => ∃ lo lc, e = .returned (.slice lo n lc) ∧ ListAt w' 2 (List.replicate n (tM k)) (.slice lo n lc) ∧ Chg [] wx w' from fun n k wx h1 h2 hc => by
    refine (manyK_any n k wx (Nat.lt_of_lt_of_le (Nat.lt_of_le_of_lt (Nat.zero_le _) (Go.lt_of_block hb1)) hc.size) h1 h2).mono ?_
    rintro e w' ⟨lv, rfl, hl, hk⟩
    obtain ⟨lo, lc, rfl, -, -⟩ := hl.shape
    rw [List.length_replicate] at hl ⊢
    exact ⟨lo, lc, rfl, hl, hk⟩)
  have HY1 := Lib.hid (show ∀ wx, Chg [] W1 wx → Calls Try.prog 27 #[.int .i64 (n : Int), .int .i64 1] wx fun e w' => ∃ lo lc, e = .returned (.slice lo n lc) ∧ ListAt w' 2 (List.replicate n (tM 1)) (.slice lo n lc) ∧ Chg [] wx w' from fun wx hc => HY.out n 1 wx (by omega) (by omega) hc)
  have HY2 := Lib.hid (show ∀ wx, Chg [] W1 wx → Calls Try.prog 27 #[.int .i64 (m : Int), .int .i64 50] wx fun e w' => ∃ lo lc, e = .returned (.slice lo m lc) ∧ ListAt w' 2 (List.replicate m (tM 50)) (.slice lo m lc) ∧ Chg [] wx w' from fun wx hc => HY.out m 50 wx (by omega) (by omega) hc)
  have HCO := Lib.hid (fun (n k : Nat) wx lv (hc : Chg [] W1 wx) hl h1 h2 => colsM (.slice (some ⟨wA.heap.size, 0, none⟩) 2 2) lv n k wx (hsA.keep hc) hl h1 h2)
  have HW1 := Lib.hid hW1
  clear hb1 hsA hkA hW1 HY
  go_wp2_with fail
  (with_reducible refine (HA.out _).mono ?_)
  rintro e wq ⟨rfl, rfl⟩
  go_wp2_with fail
  (with_reducible refine (HB.out _).mono ?_)
  rintro e wq ⟨rfl, rfl⟩
  go_wp2_with fail
  rw [← HW1.out]
  (with_reducible refine (HY1.out _ (Chg.refl [] _)).mono ?_)
  rintro e w2 ⟨lo1, lc1, rfl, hl1, hk1⟩
  have HL1 := Lib.hid hl1; have HK1 := Lib.hid hk1
  clear hl1 hk1
  go_wp2_with fail
  (with_reducible refine (HCO.out n 1 _ _ HK1.out HL1.out (by decide) (by decide)).mono ?_)
  rintro e w3 ⟨hk3, hh1⟩
  have HK3 := Lib.hid (HK1.out.trans hk3 (by simp))
  obtain ⟨po, pn, pc, er, rfl, her⟩ : ∃ po pn pc er, e = .returned (.tuple #[.slice po pn pc, .int .i64 er]) ∧ (er = 0 ∧ n ≤ 200 ∨ er = 4 ∧ ¬ n ≤ 200) := by
    by_cases h : n ≤ 200
    · rw [if_pos ⟨h, by omega⟩] at hh1
      obtain ⟨gc, vo, vc, rfl, -⟩ := hh1
      exact ⟨_, _, _, _, rfl, .inl ⟨rfl, h⟩⟩
    · rw [if_neg (by omega)] at hh1
      exact ⟨_, _, _, _, hh1, .inr ⟨rfl, h⟩⟩
  clear hk3 hh1
  go_wp2_with fail
  (with_reducible refine (HY2.out _ HK3.out).mono ?_)
  rintro e w4 ⟨lo2, lc2, rfl, hl2, hk4⟩
  have HL2 := Lib.hid hl2; have HK4 := Lib.hid (HK3.out.trans hk4 (by simp))
  clear hl2 hk4
  go_wp2_with fail
  (with_reducible refine (HCO.out m 50 _ _ HK4.out HL2.out (by decide) (by decide)).mono ?_)
  rintro e w5 ⟨hk5, hh2⟩
  have HK5 := Lib.hid (HC1.out.trans (HK4.out.trans hk5 (by simp)) (by simp))
  clear hk5
  by_cases h80 : m ≤ 80
  · rw [if_pos ⟨by omega, by omega⟩] at hh2
    obtain ⟨gc, vo, vc, rfl, c2⟩ := hh2
    rw [← HMM.out] at c2
    have hMM := HMM.out
    have d3 : decide ((M : Int) ≤ 4000) = true := decide_eq_true (by omega)
    clear hMM
    rcases her with ⟨rfl, h⟩ | ⟨rfl, h⟩
    · have d1 : decide ((n : Int) ≤ 200) = true := decide_eq_true (by omega)
      go_wp2
      go_ret
      exact ⟨rfl, HK5.out.below (Nat.le_refl _) (by simp)⟩
    · have d1 : decide ((n : Int) ≤ 200) = false := decide_eq_false (by omega)
      go_wp2
      go_ret
      exact ⟨rfl, HK5.out.below (Nat.le_refl _) (by simp)⟩
  · rw [if_neg (by omega)] at hh2
    subst hh2
    have hMM := HMM.out
    have d3 : decide ((M : Int) ≤ 4000) = false := decide_eq_false (by omega)
    have d4 : decide ((4000 : Int) < (M : Int)) = true := decide_eq_true (by omega)
    clear hMM
    rcases her with ⟨rfl, h⟩ | ⟨rfl, h⟩
    · have d1 : decide ((n : Int) ≤ 200) = true := decide_eq_true (by omega)
      go_wp2
      go_ret
      exact ⟨rfl, HK5.out.below (Nat.le_refl _) (by simp)⟩
    · have d1 : decide ((n : Int) ≤ 200) = false := decide_eq_false (by omega)
      go_wp2
      go_ret
      exact ⟨rfl, HK5.out.below (Nat.le_refl _) (by simp)⟩

end Go.Proofs.Ytonlcmnaohbmjaa
