/- The contract of the reference Reader's Get. -/
import Derived.Test.YtohgnbgijleoaaaRef
namespace Go.Proofs.Ytohgnbgijleoaaa
open Go.RowKit
set_option linter.unusedVariables false

section
variable {M : Nat}

set_option maxRecDepth 100000 in
set_option maxHeartbeats 1000000 in
theorem xget_none (x : Nat) (n e : Int) (w : World) (bs : List Int) (a : Nat) (h : XR w x bs a e M) (hn : e ≠ 0 ∨ widthOf n = 0) :
    Calls Try.prog 25 #[.pointer (some ⟨x, 0, none⟩), .int .i64 n] w fun y w' => y = .returned (.int .u64 0) ∧ w = w' := by
  have H := Lib.hid h; clear h
  have hn0 : n < 0 ∨ 8 < n ∨ (e ≠ 0 ∨ n ≤ 0) := by
    unfold widthOf at hn
    split at hn <;> omega
  clear hn
  rcases hn0 with h1 | h1 | h1
  · go_enter Try.func25, Try.ntmps25
    go_wp2_with fail
    refine (xtake_none x 0 e _ bs a H.out (.inr (by decide))).mono ?_
    rintro y w1 ⟨rfl, rfl⟩
    go_wp2
    go_loop [6, 7] (fun v i => v = .int .u64 0 ∧ i = .int .i64 0) (fun _ _ => 0)
    case atStart => exact ⟨rfl, rfl⟩
    case round =>
      obtain ⟨rfl, rfl⟩ := hrel
      go_wp2
      go_ret
      exact ⟨rfl, rfl⟩
  · go_enter Try.func25, Try.ntmps25
    go_wp2_with fail
    refine (xtake_none x 0 e _ bs a H.out (.inr (by decide))).mono ?_
    rintro y w1 ⟨rfl, rfl⟩
    go_wp2
    go_loop [6, 7] (fun v i => v = .int .u64 0 ∧ i = .int .i64 0) (fun _ _ => 0)
    case atStart => exact ⟨rfl, rfl⟩
    case round =>
      obtain ⟨rfl, rfl⟩ := hrel
      go_wp2
      go_ret
      exact ⟨rfl, rfl⟩
  · by_cases h2 : n < 0
    · go_enter Try.func25, Try.ntmps25
      go_wp2_with fail
      refine (xtake_none x 0 e _ bs a H.out (.inr (by decide))).mono ?_
      rintro y w1 ⟨rfl, rfl⟩
      go_wp2
      go_loop [6, 7] (fun v i => v = .int .u64 0 ∧ i = .int .i64 0) (fun _ _ => 0)
      case atStart => exact ⟨rfl, rfl⟩
      case round =>
        obtain ⟨rfl, rfl⟩ := hrel
        go_wp2
        go_ret
        exact ⟨rfl, rfl⟩
    · by_cases h3 : 8 < n
      · go_enter Try.func25, Try.ntmps25
        go_wp2_with fail
        refine (xtake_none x 0 e _ bs a H.out (.inr (by decide))).mono ?_
        rintro y w1 ⟨rfl, rfl⟩
        go_wp2
        go_loop [6, 7] (fun v i => v = .int .u64 0 ∧ i = .int .i64 0) (fun _ _ => 0)
        case atStart => exact ⟨rfl, rfl⟩
        case round =>
          obtain ⟨rfl, rfl⟩ := hrel
          go_wp2
          go_ret
          exact ⟨rfl, rfl⟩
      · have H1 := Lib.hid h1; clear h1
        go_enter Try.func25, Try.ntmps25
        go_wp2_with fail
        refine (xtake_none x n e _ bs a H.out H1.out).mono ?_
        rintro y w1 ⟨rfl, rfl⟩
        go_wp2
        go_loop [6, 7] (fun v i => v = .int .u64 0 ∧ i = .int .i64 0) (fun _ _ => 0)
        case atStart => exact ⟨rfl, rfl⟩
        case round =>
          obtain ⟨rfl, rfl⟩ := hrel
          go_wp2
          go_ret
          exact ⟨rfl, rfl⟩

set_option maxRecDepth 100000 in
set_option maxHeartbeats 1000000 in
theorem xget_cut (x k : Nat) (w : World) (bs : List Int) (a : Nat) (hz : bs.length ≤ 140737488355328) (h : XR w x bs a 0 M) (hk : 0 < k) (hk8 : k ≤ 8) (hc : (bs.length : Int) - a < k) :
    Calls Try.prog 25 #[.pointer (some ⟨x, 0, none⟩), .int .i64 k] w fun y w' => y = .returned (.int .u64 0) ∧ Chg [x] w w' ∧ XR w' x bs a 8 M := by
  have H := Lib.hid h; clear h
  go_enter Try.func25, Try.ntmps25
  go_wp2_with fail
  refine (xtake_cut x k _ bs a hz H.out (by omega) hc).mono ?_
  rintro y w1 ⟨rfl, g1, g2⟩
  have G1 := Lib.hid g1; have G2 := Lib.hid g2; clear g1 g2
  go_wp2
  go_loop [6, 7] (fun v i => v = .int .u64 0 ∧ i = .int .i64 0) (fun _ _ => 0)
  case atStart => exact ⟨rfl, rfl⟩
  case round =>
    obtain ⟨rfl, rfl⟩ := hrel
    go_wp2
    go_ret
    exact ⟨rfl, G1.out, G2.out⟩

set_option maxRecDepth 100000 in
set_option maxHeartbeats 1000000 in
theorem xget_yes (x k : Nat) (w : World) (bs : List Int) (a : Nat) (hz : bs.length ≤ 140737488355328) (hwf : Wf bs) (h : XR w x bs a 0 M) (hk : 0 < k) (hk8 : k ≤ 8) (hc : a + k ≤ bs.length) :
    Calls Try.prog 25 #[.pointer (some ⟨x, 0, none⟩), .int .i64 k] w fun y w' => y = .returned (.int .u64 (num ((bs.drop a).take k))) ∧ Chg [x] w w' ∧ XR w' x bs (a + k) 0 M := by
  have H := Lib.hid h; clear h
  have hlen : ((bs.drop a).take k).length = k := by simp; omega
  have hwf2 : Wf ((bs.drop a).take k) := (hwf.drop a).take k
  obtain ⟨zs, hzs⟩ : ∃ zs, zs = (bs.drop a).take k := ⟨_, rfl⟩
  rw [← hzs] at hlen hwf2
  have HZ := Lib.hid hzs; clear hzs
  go_enter Try.func25, Try.ntmps25
  have HL := Lib.hid hlen; clear hlen
  go_wp2_with fail
  refine (xtake_yes x k _ bs a hz H.out hk hc).mono ?_
  rintro y w1 ⟨v, rfl, g1, g2, g3⟩
  rw [← HZ.out] at g3
  have hrd := reads_of_own g3
  have G1 := Lib.hid g1; have G2 := Lib.hid g2; clear g1 g2 g3
  rcases hrd with ⟨rfl, h0⟩ | ⟨g, off, cap, rfl, h1, h2, h3⟩
  · have := congrArg List.length h0
    rw [bys_length, HL.out] at this
    simp at this
    omega
  rw [bys_length, HL.out] at h1 ⊢
  have H3 := Lib.hid h3; clear h3
  go_wp2
  go_loop [6, 7] (fun v i => ∃ j : Nat, j ≤ k ∧ v = .int .u64 (num (zs.take j)) ∧ i = .int .i64 j) (fun _ i => k - (intOf i).toNat)
  case atStart => exact ⟨0, Nat.zero_le _, rfl, rfl⟩
  case round =>
    obtain ⟨j, hj, rfl, rfl⟩ := hrel
    by_cases hjk : j < k
    · have hjl : j < zs.length := by rw [HL.out]; exact hjk
      obtain ⟨b, hbe, htk, hbm⟩ : ∃ b, zs[j]? = some b ∧ zs.take (j + 1) = zs.take j ++ [b] ∧ b ∈ zs :=
        ⟨zs[j], List.getElem?_eq_getElem hjl, List.take_succ_eq_append_getElem hjl, List.getElem_mem hjl⟩
      have hc0 : w1.cell? ⟨g, off + j, none⟩ = some (.int .u8 b) := H3.out j _ (bys_get hbe)
      have hz := hwf2 b hbm
      have htl : (zs.take j).length = j := by simp; omega
      have hb := num_bound _ (hwf2.take j)
      rw [htl] at hb
      have ho := or_add (num (zs.take j)) b (8 * j) (by omega) hb.1 hb.2 hz.1 hz.2
      have hn : num (zs.take j) + b * 2 ^ (8 * j) = num (zs.take (j + 1)) := by
        rw [htk, num_snoc, htl]
      rw [hn] at ho
      have HO := Lib.hid ho
      clear ho hn htl hb hjl hbe htk
      go_wp2
      go_round
      case rel => exact ⟨j + 1, by omega, by rw [HO.out], by go_num⟩
      case measure => simp [intOf]; omega
    · obtain rfl : j = k := by omega
      clear hjk hj
      have e : zs.take j = zs := List.take_of_length_le (by rw [HL.out]; exact Nat.le_refl _)
      have HE := Lib.hid e; clear e
      go_wp2
      go_ret
      exact ⟨by rw [HE.out, HZ.out]; rfl, G1.out, G2.out⟩

end
end Go.Proofs.Ytohgnbgijleoaaa
