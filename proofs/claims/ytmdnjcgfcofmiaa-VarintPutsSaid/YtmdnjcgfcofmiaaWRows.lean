/- The walk of the statement VarintRows. -/
import Derived.Test.YtmdnjcgfcofmiaaWZigs
namespace Go.Proofs.Ytmdnjcgfcofmiaa
open Go.RowKit
set_option linter.unusedVariables false

/-- The bytes of several numbers, one behind the other. -/
def fl (xs : List Nat) : List Nat := xs.flatMap vb

theorem fl_bytes (xs : List Nat) : ∀ x ∈ fl xs, x < 2 ^ 8 := by
  intro x hx
  obtain ⟨y, _, hy⟩ := List.mem_flatMap.1 hx
  exact vb_bytes y x hy

theorem fl_len (xs : List Nat) (h : ∀ x ∈ xs, x < 2 ^ 64) : (fl xs).length ≤ 10 * xs.length := by
  induction xs with
  | nil => simp [fl]
  | cons x r ih =>
    have h1 := vb_len64 (show x < 18446744073709551616 from h x (by simp))
    have h2 := ih (fun y hy => h y (by simp [hy]))
    simp only [fl, List.flatMap_cons, List.length_append, List.length_cons] at *
    omega

theorem fl_snoc (S : List Nat) (j : Nat) (hj : j < S.length) : fl (S.take (j + 1)) = fl (S.take j) ++ vb (S.getD j 0) := by
  have e : S.take (j + 1) = S.take j ++ [S.getD j 0] := by
    rw [List.take_add_one, List.getElem?_eq_getElem hj]
    simp [List.getD, hj]
  rw [e]
  simp [fl]

theorem fl_drop (S : List Nat) (n j : Nat) (hj : j < n) (hn : n ≤ S.length) : fl ((S.take n).drop j) = vb (S.getD j 0) ++ fl ((S.take n).drop (j + 1)) := by
  have hjl : j < (S.take n).length := by simp; omega
  rw [List.drop_eq_getElem_cons hjl]
  simp [fl, List.getD, show j < S.length by omega]

set_option maxRecDepth 100000 in
set_option maxHeartbeats 1000000 in
theorem walk_VarintRows (a0 : Option Addr) (len0 cap0 : Nat) (z0 : List Int) (w : World) (w0 : IsRow .u64 w a0 len0 cap0 z0) :
    Calls Try.prog 7 #[.slice a0 len0 cap0] w fun e w' => e = .returned (.bool true) ∧ Below w.heap.size w w' := by
  obtain ⟨S, hS, rfl, hSl⟩ := w0.u64s
  have hlen := w0.len.2
  have HS := Lib.hid hS; have HSL := Lib.hid hSl
  clear w0 hS hSl
  unfold maxLen at hlen
  obtain ⟨n, hn⟩ : ∃ n, n = min S.length 30 := ⟨_, rfl⟩
  have hn1 : n ≤ S.length := by omega
  have hn2 : n ≤ 30 := by omega
  have hmin : ∀ wx : World, (Builtin.min_ #[3, 3] 3 #[.int .i64 (S.length : Int), .int .i64 30]).run Try.prog wx = .ok (.int .i64 (n : Int)) wx := by
    intro wx
    rw [run_min_int2]
    congr 2
    split <;> omega
  clear hn
  go_enter Try.func7, Try.ntmps7
  go_wp2_with fail
  (with_reducible refine (known_any _).mono ?_)
  rintro x w1 ⟨rfl, hk⟩
  have HC := Lib.hid hk; clear hk
  go_wp2
  clear hmin
  go_loopw [3, 5] (fun b i wr => ∃ (j m : Nat) (ao : Option Addr) (cap : Nat), j ≤ n ∧ i = .int .i64 (j : Int) ∧ b = .slice ao m cap ∧ m = (fl (S.take j)).length ∧ Chg [] w wr ∧ Reads wr (.slice ao m cap) (nv .u8 (fl (S.take j)))) (fun b i _ => n - (intOf i).toNat)
  case atStart => exact ⟨0, 0, none, 0, Nat.zero_le _, rfl, rfl, rfl, HC.out, Reads.nil _⟩
  case round =>
    obtain ⟨j, m, ao, cap, hj, rfl, rfl, hm, hci, hrd⟩ := hrel
    have HCI := Lib.hid hci; have HR := Lib.hid hrd; have HM := Lib.hid hm
    clear hci hrd hm
    by_cases hlt : j < n
    · obtain ⟨x, rfl, hx0⟩ := (HS.out.keep HCI.out).at rfl (by omega)
      have hx := hx0 j (by omega)
      clear hx0
      have hlt2 : decide (j < n) = true := by simpa using hlt
      obtain ⟨v, hv⟩ : ∃ v, v = S.getD j 0 := ⟨_, rfl⟩
      rw [← hv] at hx
      have hv64 : v < 18446744073709551616 := by rw [hv]; exact HSL.out _ (getD_mem (by omega))
      have HV := Lib.hid hv; clear hv
      go_wp2_with fail
      (with_reducible refine (put_any _ (fl (S.take j)) v wr HR.out.seen ?_ hv64).mono ?_)
      · have := fl_len (S.take j) (fun x hx => HSL.out x (List.mem_of_mem_take hx))
        have h2 : (S.take j).length ≤ j := by simp; omega
        omega
      rintro y w2 ⟨x', rfl, h1, h2⟩
      obtain ⟨ao2, cap2, rfl⟩ := own_shape h2
      have HC2 := Lib.hid (HCI.out.trans h1 (by simp))
      have HR2 := Lib.hid (reads_of_own h2)
      have E := Lib.hid (fl_snoc S j (by omega))
      clear h1 h2
      obtain ⟨c2, hc2⟩ : ∃ c, c = (fl (S.take j) ++ vb v).length := ⟨_, rfl⟩
      rw [← hc2] at HR2 ⊢
      have HC2' := Lib.hid hc2; clear hc2
      go_wp2
      go_roundw
      case rel => exact ⟨j + 1, _, ao2, cap2, hlt, by go_num, rfl, by rw [E.out, ← HV.out]; exact HC2'.out, HC2.out, by rw [E.out, ← HV.out]; exact HR2.out⟩
      case measure => simp [intOf]; omega
    · have hlt2 : decide (j < n) = false := by simpa using hlt
      have HRn : Hid (Reads wr (.slice ao m cap) (nv .u8 (fl ((S.take n).drop 0)))) := Lib.hid (by
        have h := HR.out
        rw [show j = n by omega] at h
        exact h)
      have HMn := Lib.hid (show m = (fl ((S.take n).drop 0)).length by
        have h := HM.out
        rw [show j = n by omega] at h
        exact h)
      clear HR HM
      go_wp2
      go_loopw [3, 6] (fun b i wr => ∃ (j m : Nat) (ao : Option Addr) (cap : Nat), j ≤ n ∧ i = .int .i64 (j : Int) ∧ b = .slice ao m cap ∧ m = (fl ((S.take n).drop j)).length ∧ Chg [] w wr ∧ Reads wr (.slice ao m cap) (nv .u8 (fl ((S.take n).drop j)))) (fun b i _ => n - (intOf i).toNat)
      case atStart => exact ⟨0, m, ao, cap, Nat.zero_le _, rfl, rfl, HMn.out, HCI.out, HRn.out⟩
      case round =>
        clear HRn HMn HCI
        clear hlt hlt2 hj
        obtain ⟨j, m, ao, cap, hj, rfl, rfl, hm, hci, hrd⟩ := hrel
        have HCI := Lib.hid hci; have HR := Lib.hid hrd; have HM := Lib.hid hm
        clear hci hrd hm
        by_cases hlt : j < n
        · obtain ⟨x, rfl, hx0⟩ := (HS.out.keep HCI.out).at rfl (by omega)
          have hx := hx0 j (by omega)
          clear hx0
          have hlt2 : decide (j < n) = true := by simpa using hlt
          obtain ⟨v, hv⟩ : ∃ v, v = S.getD j 0 := ⟨_, rfl⟩
          rw [← hv] at hx
          have hv64 : v < 18446744073709551616 := by rw [hv]; exact HSL.out _ (getD_mem (by omega))
          have E := Lib.hid (fl_drop S n j hlt hn1)
          have hg := gv_vb v (fl ((S.take n).drop (j + 1))) hv64
          obtain ⟨q, hq⟩ : ∃ q, q = (vb v).length := ⟨_, rfl⟩
          have hqm : q ≤ m := by rw [HM.out, E.out, List.length_append, ← hv]; omega
          rw [← hq] at hg
          have HG := Lib.hid hg; have HV := Lib.hid hv; have HQ := Lib.hid hq
          clear hv hg hq
          have hml : m < 1000 := by
            have := fl_len ((S.take n).drop j) (fun x hx => HSL.out x (List.mem_of_mem_take (List.mem_of_mem_drop hx)))
            have h2 : ((S.take n).drop j).length ≤ n := by simp; omega
            rw [HM.out]; omega
          go_wp2_with fail
          (with_reducible refine (get_any _ (fl ((S.take n).drop j)) wr HR.out.seen (fl_bytes _)).mono ?_)
          rintro y w2 ⟨rfl, hc2⟩
          have HC2 := Lib.hid (HCI.out.trans hc2 (by simp))
          have HR2 := Lib.hid (HR.out.keep hc2 (by simp))
          have hx2 := hc2.cell hx (by simp)
          rw [E.out, ← HV.out, HG.out.1, HG.out.2]
          clear hc2 hx
          have hgt : decide (m < q) = false := by simpa using hqm
          have hs := (HR2.out.sliced q m hqm (Nat.le_refl _)).1
          have hX : ((nv .u8 (fl ((S.take n).drop j))).take m).drop q = nv .u8 (fl ((S.take n).drop (j + 1))) := by
            rw [List.take_of_length_le (by rw [nv_length, HM.out]; omega), E.out, ← HV.out, HQ.out]
            simp [nv]
          rw [hX] at hs
          have hmq : m - q = (fl ((S.take n).drop (j + 1))).length := by
            rw [HM.out, E.out, List.length_append, ← HV.out, ← HQ.out]; omega
          obtain ⟨ao', cap', e', _, _⟩ := hs.shape
          rw [nv_length, ← hmq] at e'
          rw [e'] at hs
          have HSS := Lib.hid hs; have HE' := Lib.hid e'; have HMQ := Lib.hid hmq
          clear hs hX hmq e'
          go_wp2
          go_roundw
          case rel => exact ⟨j + 1, m - q, ao', cap', hlt, by go_num, by simpa [Go.sliced] using HE'.out, HMQ.out, HC2.out, HSS.out⟩
          case measure => simp [intOf]; omega
        · have hlt2 : decide (j < n) = false := by simpa using hlt
          have hm0 : m = 0 := by
            rw [HM.out, List.drop_of_length_le (by simp; omega)]; rfl
          have hm1 : ((m : Int) == 0) = true := by rw [hm0]; rfl
          go_wp2
          go_ret
          exact ⟨rfl, HCI.out.below (Nat.le_refl _) (by simp)⟩

end Go.Proofs.Ytmdnjcgfcofmiaa
