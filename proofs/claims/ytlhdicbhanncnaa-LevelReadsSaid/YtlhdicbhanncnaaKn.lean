/- level's statements: known, ints. -/
import Derived.Test.YtlhdicbhanncnaaKi
import Derived.Test.YtlhdicbhanncnaaKm
import Derived.Test.YtlhdicbhanncnaaA1
namespace Go.Proofs.Ytlhdicbhanncnaa
open Go.RowKit
set_option linter.unusedVariables false
set_option linter.unusedSimpArgs false

theorem enc_known : encL 1 (List.replicate 10 1) = [20, 1] := by
  rw [encL_rep 1 10 1 (by decide), vb_lt (by decide)]
  rfl

set_option maxRecDepth 100000 in
set_option maxHeartbeats 1000000 in
theorem known10_any (w : World) : Calls Try.prog 4 #[] w fun x w' => x = .returned (.bool true) ∧ Chg [] w w' := by
  go_enter Try.func4, Try.ntmps4
  go_wp2_with fail
  have hS : Seen (w.alloc (.cells #[.int .i64 1, .int .i64 1, .int .i64 1, .int .i64 1, .int .i64 1, .int .i64 1, .int .i64 1, .int .i64 1, .int .i64 1, .int .i64 1] 3)) (.slice (some ⟨w.heap.size, 0, none⟩) 10 10) (nv .i64 (List.replicate 10 1)) :=
    (reads_of_own (own_lit w w.heap.size 0 rfl (Nat.zero_le _) 3 _ (nv .i64 (List.replicate 10 1)) 10 1 rfl rfl (by unfold maxLen; decide))).seen
  refine (encode_any _ (List.replicate 10 1) 1 _ hS (by decide) (by decide) (by decide) (by decide)).mono ?_
  rintro e w1 ⟨x, rfl, hc, ho⟩
  rw [enc_known] at ho
  obtain ⟨xo, xc, rfl⟩ := own_shape ho
  obtain ⟨g, rfl⟩ := own_some ho (by decide)
  have x0 := own_cell ho rfl 0 (by decide)
  have x1 := own_cell ho rfl 1 (by decide)
  have HC := Lib.hid (((Chg.refl [] w).alloc _).trans hc (by simp))
  clear hc ho hS
  go_wp2
  go_ret
  exact ⟨rfl, HC.out⟩

set_option maxRecDepth 100000 in
set_option maxHeartbeats 1000000 in
theorem ints10_any (va vb' : Value) (a b : List Nat) (w : World) (ha : Seen w va (nv .i64 a)) (hb : Seen w vb' (nv .i64 b)) (hla : a.length ≤ 1000000) (hlb : b.length ≤ 1000000) :
    Calls Try.prog 10 #[va, vb'] w fun e w' => (∃ r : Bool, e = .returned (.bool r) ∧ (r = true ↔ a = b)) ∧ Chg [] w w' := by
  obtain ⟨ao, ac, rfl, ha1, ha2⟩ := ha.shape
  obtain ⟨bo, bc, rfl, hb1, hb2⟩ := hb.shape
  rw [nv_length] at ha1 ha hb1 hb
  rw [nv_length, nv_length]
  have HA := Lib.hid ha; have HB := Lib.hid hb
  obtain ⟨n, hn⟩ : ∃ n, n = a.length := ⟨_, rfl⟩
  obtain ⟨m, hm⟩ : ∃ m, m = b.length := ⟨_, rfl⟩
  rw [← hn] at HA hla ha1 ⊢
  rw [← hm] at HB hlb hb1 ⊢
  have HN := Lib.hid hn; have HM := Lib.hid hm
  clear ha hb hn hm ha2 hb2
  by_cases hl : n = m
  · subst hl
    have hbl : ((n : Int) != (n : Int)) = false := by simp
    go_enter Try.func10, Try.ntmps10
    go_wp2
    go_loopw [5] (fun i w' => ∃ j : Nat, j ≤ n ∧ i = .int .i64 (j : Int) ∧ Chg [] w w' ∧ ∀ k, k < j → a.getD k 0 = b.getD k 0) (fun i _ => n - (intOf i).toNat)
    case atStart => exact ⟨0, Nat.zero_le _, rfl, Chg.refl _ _, fun k hk => by omega⟩
    case round =>
      obtain ⟨j, hj, rfl, hc, hall⟩ := hrel
      have HC := Lib.hid hc; have HALL := Lib.hid hall
      clear hc hall
      by_cases hjn : j < n
      · have hlt : decide ((j : Int) < (n : Int)) = true := by simp; omega
        obtain ⟨ga, offa, rfl, hca⟩ := (HA.out.keep HC.out).at0 HN.out.symm (by omega)
        obtain ⟨gb, offb, rfl, hcb⟩ := (HB.out.keep HC.out).at0 HM.out.symm (by omega)
        have x0 := hca j hjn
        have x1 := hcb j hjn
        obtain ⟨s, hs⟩ : ∃ s, s = a.getD j 0 := ⟨_, rfl⟩
        obtain ⟨t, ht⟩ : ∃ t, t = b.getD j 0 := ⟨_, rfl⟩
        rw [← hs] at x0; rw [← ht] at x1
        have HS := Lib.hid hs; have HT := Lib.hid ht
        clear hca hcb hs ht
        by_cases hst : s = t
        · have hne : ((s : Int) != (t : Int)) = false := by simp [hst]
          have HA2 := Lib.hid (show ∀ k, k < j + 1 → a.getD k 0 = b.getD k 0 from fun k hk => by
            by_cases e : k = j
            · rw [e, ← HS.out, ← HT.out]; exact hst
            · exact HALL.out k (by omega))
          clear hst
          go_wp2_with fail
          go_quiet (fail)
          go_wp2
          go_roundw
          case rel => exact ⟨j + 1, hjn, by go_num, HC.out.drewN _, HA2.out⟩
          case measure => simp [intOf]; omega
        · have hne : ((s : Int) != (t : Int)) = true := by simp; omega
          have hne2 : ¬ ((s : Int) = (t : Int)) := by omega
          have E := Lib.hid (show ¬ a = b from fun e => hst (by rw [HS.out, HT.out, e]))
          clear hst
          go_wp2_with fail
          go_quiet (fail)
          go_wp2
          go_ret
          exact ⟨⟨false, rfl, by simp; exact E.out⟩, HC.out.drewN _⟩
      · have hlt : decide ((j : Int) < (n : Int)) = false := by simp; omega
        have E := Lib.hid (show a = b from List.ext_getElem (by rw [← HN.out, ← HM.out]) fun i h1 h2 => by
          have h := HALL.out i (by have := HN.out; omega)
          simpa [List.getD, h1, h2] using h)
        go_wp2
        go_ret
        exact ⟨⟨true, rfl, by simp; exact E.out⟩, HC.out⟩
  · have hbl : ((n : Int) != (m : Int)) = true := by simp; omega
    have hbl2 : ¬ ((n : Int) = (m : Int)) := by omega
    have E := Lib.hid (show ¬ a = b from fun e => hl (by rw [HN.out, HM.out, e]))
    clear hl
    go_enter Try.func10, Try.ntmps10
    go_wp2
    go_ret
    exact ⟨⟨false, rfl, by simp; exact E.out⟩, Chg.refl _ _⟩

end Go.Proofs.Ytlhdicbhanncnaa
