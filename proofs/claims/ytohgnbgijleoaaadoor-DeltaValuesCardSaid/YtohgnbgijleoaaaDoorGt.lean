/- Contracts of Get: the program's and the reference's. -/
import Derived.Test.YtohgnbgijleoaaaDoorLn
import Derived.Test.YtohgnbgijleoaaaDoorJn
namespace Go.Proofs.YtohgnbgijleoaaaDoor
open Go.RowKit
set_option linter.unusedVariables false

theorem gl_nine (l : List Nat) (h : (gl 0 l).2 = 0) : (l.take (gl 0 l).1).getD 9 0 ≤ 1 := by
  have hn := gl_len 0 l (by omega) h
  by_cases h10 : (gl 0 l).1 = 10
  · by_cases hc : ∃ j, j < 9 ∧ ¬ 128 ≤ l.getD j 0
    · exfalso
      obtain ⟨j, hj, h128, hmin⟩ : ∃ j, j < 9 ∧ ¬ 128 ≤ l.getD j 0 ∧ ∀ i, i < j → 128 ≤ l.getD i 0 := by
        obtain ⟨j, hj⟩ := hc
        induction j using Nat.strongRecOn with
        | _ j ih =>
          by_cases hm : ∃ i, i < j ∧ ¬ 128 ≤ l.getD i 0
          · obtain ⟨i, hi, hi2⟩ := hm
            exact ih i hi ⟨by omega, hi2⟩
          · exact ⟨j, hj.1, hj.2, fun i hi => by
              rcases Nat.lt_or_ge (l.getD i 0) 128 with h | h
              · exact absurd ⟨i, hi, by omega⟩ hm
              · exact h⟩
      have hs := gl_step l j (by omega) (by omega) hmin
      rw [gl_at l j (by omega), if_neg (by omega), if_neg h128] at hs
      rw [hs] at h10
      unfold up at h10
      split at h10 <;> simp at h10
      omega
    · have hall : ∀ i, i < 9 → 128 ≤ l.getD i 0 := fun i hi => by
        rcases Nat.lt_or_ge (l.getD i 0) 128 with h | h
        · exact absurd ⟨i, hi, by omega⟩ hc
        · exact h
      by_cases h9 : 1 < l.getD 9 0
      · rw [gl_over l (by omega) hall h9] at h10
        simp at h10
      · rw [h10]
        have : (l.take 10).getD 9 0 = l.getD 9 0 := by simp [List.getD]
        omega
  · have : (l.take (gl 0 l).1).getD 9 0 = 0 := by
      simp only [List.getD, List.getElem?_take]
      rw [if_neg (by omega)]; rfl
    omega

/-- What Get tells. -/
def GetOut (l : List Nat) (w : World) (e : Ending) (w' : World) : Prop := e = .returned (.tuple #[.int .u64 (gv l : Nat), .int .i64 ((gl 0 l).1 : Nat), .int .i64 ((gl 0 l).2 : Nat)]) ∧ Chg [] w w'

set_option maxRecDepth 100000 in
set_option maxHeartbeats 1000000 in
theorem get_any (bv : Value) (l : List Nat) (w : World) (hS : Seen w bv (nv .u8 l)) (hb : ∀ x ∈ l, x < 2 ^ 8) :
    Calls Tryd.prog 91 #[bv] w (GetOut l w) := by
  have hS0 := Lib.hid hS
  obtain ⟨ao, cap, rfl, hc1, hc2⟩ := hS.shape
  rw [nv_length] at hc1 hS
  rw [nv_length]
  have HS := Lib.hid hS; have HB := Lib.hid hb; clear hS hb hS0
  unfold maxLen at hc2
  have hgv : Hid (∀ n e, gl 0 l = (n, e) → gv l = if e = 0 then vv (l.take n) else 0) := Lib.hid (fun n e h => by unfold gv; rw [h])
  have hgl := Lib.hid (gl_len 0 l (by omega)); have hgz := Lib.hid (gl_zero 0 l); have hg9 := Lib.hid (gl_nine l); have hge := gl_err 0 l
  unfold GetOut
  go_enter Tryd.func91, Tryd.ntmps91
  go_wp2_with fail
  (with_reducible refine (length_any _ l w HS.out HB.out).mono ?_)
  rintro e w1 ⟨rfl, hc⟩
  have HC := Lib.hid hc; clear hc
  obtain ⟨n, hn⟩ : ∃ n, n = (gl 0 l).1 := ⟨_, rfl⟩
  obtain ⟨e, he⟩ : ∃ e, e = (gl 0 l).2 := ⟨_, rfl⟩
  rw [← hn, ← he]
  rw [← he] at hge
  by_cases h0 : e = 0
  · have hn1 := hgl.out (by rw [← he]; exact h0)
    rw [← hn] at hn1
    have h9 := hg9.out (by rw [← he]; exact h0)
    rw [← hn] at h9
    have HV := Lib.hid (hgv.out n e (by rw [hn, he]))
    have H9 := Lib.hid h9; have HN := Lib.hid hn; have HE := Lib.hid he
    clear h9 hn he hge hgv hgl hgz hg9
    subst h0
    rw [if_pos rfl] at HV
    have hlt : (l.take n).length = n := by simp; omega
    have hfr := HS.out.front rfl n hn1.2.1
    go_wp2_with fail
    (with_reducible refine (join_any _ (l.take n) w1 (hfr.keep HC.out) (fun x hx => HB.out x (List.mem_of_mem_take hx)) (by omega) (by omega) H9.out).mono ?_)
    rintro e w2 ⟨rfl, rfl⟩
    clear hfr hlt
    go_wp2
    go_ret3
    refine ⟨?_, HC.out⟩
    rw [HV.out, ← HN.out, ← HE.out]
    rfl
  · have HV := Lib.hid (hgv.out n e (by rw [hn, he]))
    have hz := hgz.out (by rw [← he]; exact h0)
    rw [← hn] at hz
    subst hz
    rw [if_neg h0] at HV
    have HN := Lib.hid hn; have HE := Lib.hid he
    clear hn he hgv hgl hgz hg9
    have hb : ((e : Int) == 0) = false := by simp; omega
    go_wp2
    go_ret3
    refine ⟨?_, HC.out⟩
    rw [HV.out, ← HN.out, ← HE.out]
    rfl

theorem vv_take (l : List Nat) (j : Nat) (hj : j < l.length) : vv (l.take (j + 1)) = vv (l.take j) + 128 ^ j * (l.getD j 0 % 128) := by
  have e : l.take (j + 1) = l.take j ++ [l.getD j 0] := by
    rw [List.take_add_one, List.getElem?_eq_getElem hj]
    simp [List.getD, hj]
  have hl : (l.take j).length = j := by simp; omega
  rw [e, vv_append, hl]
  simp [vv]

theorem ror_eq (v s j : Nat) (hj : j ≤ 9) (hs : s < 256) (h9 : j = 9 → s ≤ 1) (hv : v < 128 ^ j) :
    bits BinOp.or IntKind.u64 (v : Int) (IntKind.u64.wrap (IntKind.u64.wrap (bits BinOp.and IntKind.u8 (s : Int) 127) * 2 ^ (7 * j))) = ((v + 128 ^ j * (s % 128) : Nat) : Int) := by
  have hp : (128 : Nat) ^ j = 2 ^ (7 * j) := by rw [Nat.pow_mul]
  rw [hp] at hv ⊢
  have hle : 2 ^ (7 * j) ≤ 2 ^ 63 := Nat.pow_le_pow_right (by decide) (by omega)
  have hm : 2 ^ (7 * j) * (s % 128) < 18446744073709551616 := by
    by_cases h : j = 9
    · have := h9 h
      have : 2 ^ (7 * j) * (s % 128) ≤ 2 ^ 63 * 1 := Nat.mul_le_mul hle (by omega)
      omega
    · have hle2 : 2 ^ (7 * j) ≤ 2 ^ 56 := Nat.pow_le_pow_right (by decide) (by omega)
      have : 2 ^ (7 * j) * (s % 128) ≤ 2 ^ 56 * 127 := Nat.mul_le_mul hle2 (by omega)
      omega
  rw [and127 s hs, wraps64 ((s % 128 : Nat) : Int) (by omega) (by omega)]
  have e1 : ((s % 128 : Nat) : Int) * 2 ^ (7 * j) = ((2 ^ (7 * j) * (s % 128) : Nat) : Int) := by push_cast; exact Int.mul_comm _ _
  rw [e1, wraps64 _ (by omega) (by omega), bits_or_u64_nat _ _ (by omega) hm, Nat.add_comm]
  congr 1
  rw [Nat.two_pow_add_eq_or_of_lt hv, Nat.or_comm]

set_option maxRecDepth 100000 in
set_option maxHeartbeats 1000000 in
theorem rget_any (bv : Value) (l : List Nat) (w : World) (hS : Seen w bv (nv .u8 l)) (hb : ∀ x ∈ l, x < 2 ^ 8) :
    Calls Tryd.prog 67 #[bv] w (GetOut l w) := by
  obtain ⟨ao, cap, rfl, hc1, hc2⟩ := hS.shape
  rw [nv_length] at hc1 hS
  rw [nv_length]
  have HS := Lib.hid hS; have HB := Lib.hid hb; clear hS hb
  unfold maxLen at hc2
  have hgv : Hid (∀ n e, gl 0 l = (n, e) → gv l = if e = 0 then vv (l.take n) else 0) := Lib.hid (fun n e h => by unfold gv; rw [h])
  unfold GetOut
  go_enter Tryd.func67, Tryd.ntmps67
  go_wp2
  go_loopw [5, 6] (fun v i wr => ∃ j : Nat, j ≤ l.length ∧ j ≤ 9 ∧ i = .int .i64 (j : Int) ∧ v = .int .u64 ((vv (l.take j) : Nat) : Int) ∧ Hid (∀ i, i < j → 128 ≤ l.getD i 0) ∧ Chg [] w wr) (fun v i _ => l.length - (intOf i).toNat)
  case atStart => exact ⟨0, Nat.zero_le _, by omega, rfl, rfl, Lib.hid (by omega), Chg.refl _ _⟩
  case round =>
    obtain ⟨j, hj, h9, rfl, rfl, HA, hci⟩ := hrel
    have HCI := Lib.hid hci; clear hci
    by_cases hlt : j < l.length
    · obtain ⟨x, rfl, hx0⟩ := (HS.out.keep HCI.out).at rfl (by omega)
      have hx := hx0 j hlt
      clear hx0
      have hlt2 : decide (j < l.length) = true := by simpa using hlt
      obtain ⟨s, hs⟩ : ∃ s, s = l.getD j 0 := ⟨_, rfl⟩
      rw [← hs] at hx
      have hs8 : s < 256 := by rw [hs]; exact HB.out _ (getD_mem hlt)
      have HSJ := Lib.hid hs
      clear hs
      by_cases hov : j = 9 ∧ 1 < s
      · have hb9 : ((j : Int) == 9) = true := by simp; omega
        have hb1 : decide ((1 : Int) < (s : Int)) = true := by simp; omega
        have E := Lib.hid (gl_over l (by omega) (by rw [← hov.1]; exact HA.out) (by rw [← hov.1, ← HSJ.out]; exact hov.2))
        clear hov
        go_wp2
        go_ret3
        refine ⟨?_, HCI.out⟩
        rw [hgv.out _ _ E.out, E.out]
        rfl
      have hvl : vv (l.take j) < 128 ^ j := by
        have := vv_lt (l.take j)
        rwa [show (l.take j).length = j by simp; omega] at this
      obtain ⟨v, hv⟩ : ∃ v, v = vv (l.take j) := ⟨_, rfl⟩
      have hvt := vv_take l j hlt
      rw [← HSJ.out, ← hv] at hvt
      rw [← hv] at hvl ⊢
      have HVT := Lib.hid hvt
      have HOR := Lib.hid (ror_eq v s j h9 hs8 (by omega) hvl)
      have HV := Lib.hid hv
      clear hvt hvl hv
      have hpick : ((j : Int) == 9) = false ∨ ((j : Int) == 9) = true ∧ decide ((1 : Int) < (s : Int)) = false := by
        by_cases h : j = 9
        · right; simp; omega
        · left; simp; omega
      by_cases h128 : 128 ≤ s
      · have hj9 : j < 9 := by omega
        have hb9 : ((j : Int) == 9) = false := by simp; omega
        have hb8 : decide ((s : Int) < 128) = false := by simp; omega
        have hall2 := Lib.hid (show ∀ i, i < j + 1 → 128 ≤ l.getD i 0 from fun i hi => by
          by_cases h : i = j
          · rw [h, ← HSJ.out]; exact h128
          · exact HA.out i (by omega))
        clear hpick hov
        go_wp2
        go_roundw
        case rel => exact ⟨j + 1, hlt, hj9, by go_num, by rw [HOR.out, HVT.out], hall2, HCI.out⟩
        case measure => simp [intOf]; omega
      have hb8 : decide ((s : Int) < 128) = true := by simp; omega
      by_cases h0 : s = 0 ∧ 0 < j
      · have E := Lib.hid (gl_bad l j hlt h0.2 h9 HA.out (by rw [← HSJ.out]; exact h0.1))
        have hb0 : ((s : Int) == 0) = true := by simp; omega
        have hbj : decide (0 < j) = true := by simpa using h0.2
        clear hov h0
        rcases hpick with hb9 | ⟨hb9, hb1⟩
        all_goals
          go_wp2
          go_ret3
          refine ⟨?_, HCI.out⟩
          rw [hgv.out _ _ E.out, E.out]
          rfl
      · have E := Lib.hid (gl_ok l j hlt h9 HA.out (by rw [← HSJ.out]; omega) (by rw [← HSJ.out]; exact hov) (by rw [← HSJ.out]; exact h0))
        have hpk0 : ((s : Int) == 0) = false ∨ ((s : Int) == 0) = true ∧ decide (0 < j) = false := by
          by_cases h : s = 0
          · right; simp; omega
          · left; simp; omega
        clear hov h0
        rcases hpick with hb9 | ⟨hb9, hb1⟩ <;> rcases hpk0 with hb0 | ⟨hb0, hbj⟩
        all_goals
          go_wp2
          go_ret3
          refine ⟨?_, HCI.out⟩
          rw [hgv.out _ _ E.out, E.out, HOR.out, if_pos rfl, HVT.out]
          rfl
    · have hlt2 : decide (j < l.length) = false := by simpa using hlt
      have E := Lib.hid (gl_cut l (by omega) (by rw [← (show j = l.length by omega)]; exact HA.out))
      go_wp2
      go_ret3
      refine ⟨?_, HCI.out⟩
      rw [hgv.out _ _ E.out, E.out]
      rfl

end Go.Proofs.YtohgnbgijleoaaaDoor
