/- The walk of the statement CursorBack: numbers that were put are read as their lowest bytes. -/
import Derived.Test.YthfdfmdeojaabaaWFails
import Derived.StillTailTactics
namespace Go.Proofs.Ythfdfmdeojaabaa
open Go.RowKit
set_option linter.unusedVariables false

/-- How many bytes number k has; what it is. -/
def kn (ns : List Int) (k : Nat) : Nat := ((ns.getD k 0) % 9).toNat
def acc (vs ns : List Int) : Nat → List Int
  | 0 => []
  | k + 1 => acc vs ns k ++ low (kn ns k) (vs.getD k 0)
def tl (vs ns : List Int) (k : Nat) : Nat → List Int
  | 0 => []
  | m + 1 => low (kn ns k) (vs.getD k 0) ++ tl vs ns (k + 1) m

theorem kn_eq (ns : List Int) (k : Nat) : ns.getD k 0 % 9 = ((kn ns k : Nat) : Int) := by
  have h0 := Int.emod_nonneg (ns.getD k 0) (show (9 : Int) ≠ 0 by decide)
  unfold kn
  omega

theorem kn_width (ns : List Int) (k : Nat) : widthOf (ns.getD k 0 % 9) = ((kn ns k : Nat) : Int) := by
  have h0 := Int.emod_nonneg (ns.getD k 0) (show (9 : Int) ≠ 0 by decide)
  have h1 := Int.emod_lt_of_pos (ns.getD k 0) (show (0 : Int) < 9 by decide)
  unfold widthOf kn
  rw [if_neg (by omega)]
  omega

theorem kn_le (ns : List Int) (k : Nat) : kn ns k ≤ 8 := by unfold kn; omega

theorem acc_tl (vs ns : List Int) : ∀ (m k : Nat), acc vs ns k ++ tl vs ns k m = acc vs ns (k + m)
  | 0, k => by simp [tl]
  | m + 1, k => by
    have := acc_tl vs ns m (k + 1)
    rw [tl, ← List.append_assoc, ← acc, this]
    congr 1; omega

theorem acc_length (vs ns : List Int) : ∀ k, (acc vs ns k).length ≤ 8 * k
  | 0 => by simp [acc]
  | k + 1 => by
    have := acc_length vs ns k
    have := kn_le ns k
    simp [acc, low_length]; omega

theorem acc_wf (vs ns : List Int) : ∀ k, Wf (acc vs ns k)
  | 0 => by simp [acc, Wf]
  | k + 1 => by
    intro z hz
    simp only [acc, List.mem_append] at hz
    rcases hz with hz | hz
    · exact acc_wf vs ns k z hz
    · exact low_wf _ _ z hz

theorem tl_wf (vs ns : List Int) : ∀ m k, Wf (tl vs ns k m)
  | 0, k => by simp [tl, Wf]
  | m + 1, k => by
    intro z hz
    simp only [tl, List.mem_append] at hz
    rcases hz with hz | hz
    · exact low_wf _ _ z hz
    · exact tl_wf vs ns m (k + 1) z hz

theorem tl_length (vs ns : List Int) (m k : Nat) : (tl vs ns k m).length ≤ 8 * (k + m) := by
  have h1 := acc_tl vs ns m k
  have h2 := acc_length vs ns (k + m)
  have h3 := congrArg List.length h1
  rw [List.length_append] at h3
  omega

theorem emod_split (v m : Int) (hm : 0 < m) : v % 256 + 256 * (v / 256 % m) = v % (256 * m) := by
  have h1 := Int.emod_add_mul_ediv v 256
  have h2 := Int.emod_add_mul_ediv (v / 256) m
  have r1 := Int.emod_nonneg v (show (256 : Int) ≠ 0 by decide)
  have r2 := Int.emod_lt_of_pos v (show (0 : Int) < 256 by decide)
  have s1 := Int.emod_nonneg (v / 256) (show m ≠ 0 by omega)
  have s2 := Int.emod_lt_of_pos (v / 256) hm
  generalize hq : v / 256 = q at *
  generalize hr : v % 256 = r at *
  generalize hq2 : q / m = q' at *
  generalize hr2 : q % m = r' at *
  have e : v = (r + 256 * r') + (256 * m) * q' := by
    rw [← h1, ← h2, Int.mul_add, Int.mul_assoc, Int.add_assoc]
  rw [e, Int.add_mul_emod_self_left]
  have h3 : 256 * r' ≤ 256 * (m - 1) := Int.mul_le_mul_of_nonneg_left (by omega) (by decide)
  exact (Int.emod_eq_of_lt (by omega) (by omega)).symm

theorem num_low : ∀ (k : Nat) (v : Int), num (low k v) = v % 256 ^ k
  | 0, v => by simp [low, num, Int.emod_one]
  | k + 1, v => by
    have hp : (0 : Int) < 256 ^ k := Int.pow_pos (by decide)
    rw [low, num, num_low k, Int.pow_succ, Int.mul_comm (256 ^ k) 256, emod_split v _ hp]

theorem pow256 (k : Nat) : (256 : Int) ^ k = 2 ^ (8 * k) := by
  rw [Int.pow_mul]; rfl

theorem mask_eq (v : Int) (k : Nat) (hk : k < 8) (h0 : 0 ≤ v) (h1 : v ≤ 18446744073709551615) :
    bits BinOp.and IntKind.u64 v (IntKind.u64.wrap (IntKind.u64.wrap (2 ^ (8 * k)) - 1)) = v % 256 ^ k := by
  have hp : (2 : Int) ^ (8 * k) ≤ 2 ^ 56 := by
    have : (2 : Nat) ^ (8 * k) ≤ 2 ^ 56 := Nat.pow_le_pow_right (by decide) (by omega)
    exact_mod_cast this
  have hq : (0 : Int) < 2 ^ (8 * k) := Int.pow_pos (by decide)
  have he : (2 : Int) ^ 56 < 2 ^ 64 := by decide +kernel
  have h2 : v < 2 ^ 64 := by
    have e : (18446744073709551615 : Int) < 2 ^ 64 := by decide +kernel
    omega
  rw [wraps_u64 (2 ^ (8 * k)) (by omega) (by omega), wraps_u64 _ (by omega) (by omega), bits_mask .u64 64 (by decide) wraps_u64 (8 * k) (by omega) v h0 h2, pow256]

theorem tl_take (vs ns : List Int) (j m : Nat) : (tl vs ns j (m + 1)).take (kn ns j) = low (kn ns j) (vs.getD j 0) ∧ (tl vs ns j (m + 1)).drop (kn ns j) = tl vs ns (j + 1) m ∧ kn ns j ≤ (tl vs ns j (m + 1)).length := by
  have e := low_length (kn ns j) (vs.getD j 0)
  refine ⟨?_, ?_, ?_⟩
  · rw [tl, List.take_left' e]
  · rw [tl, List.drop_left' e]
  · rw [tl, List.length_append, e]; omega

/-- What Get reads of number j is its lowest bytes, in the two forms in which the statement reckons them. -/
theorem want_eq (vs ns : List Int) (j m : Nat) (h0 : 0 ≤ vs.getD j 0) (h1 : vs.getD j 0 ≤ 18446744073709551615) :
    (kn ns j < 8 → bits BinOp.and IntKind.u64 (vs[j]?.getD 0) (IntKind.u64.wrap (IntKind.u64.wrap (2 ^ (8 * kn ns j)) - 1)) = num ((tl vs ns j (m + 1)).take (kn ns j))) ∧
    (¬ kn ns j < 8 → vs[j]?.getD 0 = num ((tl vs ns j (m + 1)).take (kn ns j))) := by
  rw [(tl_take vs ns j m).1, num_low]
  refine ⟨fun h => mask_eq (vs.getD j 0) _ h h0 h1, fun h => ?_⟩
  have := kn_le ns j
  have e : kn ns j = 8 := by omega
  rw [e]
  have e2 : (18446744073709551615 : Int) < 256 ^ 8 := by decide +kernel
  exact (Int.emod_eq_of_lt h0 (by omega)).symm

theorem IsRow.at {k : IntKind} {w : World} {a : Option Addr} {len cap : Nat} {zs : List Int} (h : IsRow k w a len cap zs) {i : Nat} (hi : i < len) :
    ∃ g off, a = some ⟨g, off, none⟩ ∧ ∀ j, j < len → w.cell? ⟨g, off + j, none⟩ = some (.int k (zs.getD j 0)) := by
  rcases h with ⟨rfl, rfl, rfl, rfl⟩ | ⟨⟨g, off, sp⟩, rfl, h1, h2, h3, h4, h5⟩
  · omega
  · have hc := h4 0 (by omega)
    have hsp : sp = none := by simpa [Addr.add] using World.cell?_spot hc
    subst hsp
    exact ⟨g, off, rfl, fun j hj => by have := h4 j (by omega); rwa [addr_add] at this⟩

theorem wf_u64 {a : Int} (h : (Lit.int .u64 a).wf = true) : 0 ≤ a ∧ a ≤ 18446744073709551615 := by
  simp [Lit.wf, IntKind.min, IntKind.max, IntKind.signed, IntKind.bits] at h
  omega

theorem wf_getD {k : IntKind} {zs : List Int} (h : ∀ n ∈ zs, (Lit.int k n).wf = true) {i : Nat} (hi : i < zs.length) : (Lit.int k (zs.getD i 0)).wf = true := by
  simp only [List.getD, List.getElem?_eq_getElem hi]
  exact h _ (List.getElem_mem hi)

theorem IsRow.len {k : IntKind} {w : World} {a : Option Addr} {len cap : Nat} {zs : List Int} (h : IsRow k w a len cap zs) : len ≤ zs.length ∧ len ≤ maxLen := by
  rcases h with ⟨rfl, rfl, rfl, rfl⟩ | ⟨x, rfl, h1, h2, h3, h4, h5⟩
  · simp
  · omega

/-- How many numbers are put. -/
def cnt (a b : Nat) : Nat := min (min a b) 30

set_option maxRecDepth 100000 in
set_option maxHeartbeats 2000000 in
theorem walk_CursorBack (a0 : Option Addr) (len0 cap0 : Nat) (z0 : List Int) (a1 : Option Addr) (len1 cap1 : Nat) (z1 : List Int) (w : World) (w0 : IsRow .u64 w a0 len0 cap0 z0) (w1 : IsRow .i64 w a1 len1 cap1 z1) :
    Calls Try.prog 4 #[.slice a0 len0 cap0, .slice a1 len1 cap1] w fun e w' => e = .returned (.bool true) ∧ Below w.heap.size w w' := by
  have W0 := Lib.hid w0; have W1 := Lib.hid w1
  have hl0 := w0.len
  have hl1 := w1.len
  unfold maxLen at hl0 hl1
  clear w0 w1
  obtain ⟨n, hn⟩ : ∃ n, n = cnt len0 len1 := ⟨_, rfl⟩
  have hn0 : n ≤ len0 := by rw [hn]; unfold cnt; omega
  have hn1 : n ≤ len1 := by rw [hn]; unfold cnt; omega
  have hn30 : n ≤ 30 := by rw [hn]; unfold cnt; omega
  have hmin : ∀ wx : World, (Builtin.min_ #[3, 3, 3] 3 #[.int .i64 (len0 : Int), .int .i64 (len1 : Int), .int .i64 30]).run Try.prog wx = .ok (.int .i64 (n : Int)) wx := by
    intro wx
    rw [run_min_int3]
    congr 2
    rw [hn]; unfold cnt
    split <;> split <;> omega
  clear hn
  go_enter Try.func4, Try.ntmps4
  go_wp2_with fail
  refine (known_any _).mono ?_
  rintro x w1 ⟨rfl, hk⟩
  have HK := Lib.hid hk; clear hk
  go_wp2_with fail
  go_loopw [5, 7] (fun b i wr => ∃ k : Nat, k ≤ n ∧ i = .int .i64 k ∧ Chg [] w wr ∧ Seen wr b (bys (acc z0 z1 k))) (fun _ i _ => n - (intOf i).toNat)
  case atStart => exact ⟨0, by omega, rfl, HK.out, Seen.nil _⟩
  case round =>
    obtain ⟨k, hk, rfl, hc, hs⟩ := hrel
    have HC := Lib.hid hc; have HS := Lib.hid hs
    clear hc hs
    by_cases hkn : k < n
    · obtain ⟨g0, o0, rfl, hd0⟩ := W0.out.at (i := k) (by omega)
      obtain ⟨g1, o1, rfl, hd1⟩ := W1.out.at (i := k) (by omega)
      have d0 := HC.out.cell (hd0 k (by omega)) (by simp)
      have d1 := HC.out.cell (hd1 k (by omega)) (by simp)
      clear hd0 hd1
      have b1 := Lib.hid (wf_i64 (wf_getD W1.out.wf (i := k) (by omega)))
      have b0 := Lib.hid (wf_u64 (wf_getD W0.out.wf (i := k) (by omega)))
      have hk0 : k < len0 := by omega
      have hk1 : k < len1 := by omega
      go_wp2
      go_still_tail 10, (by kernel_rfl)
      still_call ((within_any _ 9 _ (by decide) (by decide) b1.out.1 b1.out.2).mono fun e w'' h => ⟨h.1, h.2.symm⟩)
      repeat still_step
      refine wpStill_nil ?_
      have hal := acc_length z0 z1 k
      have hw := Lib.hid (kn_width z1 k)
      have HS2 := Lib.hid (HS.out.keep (Chg.refl [] wr).drew)
      go_wp2_with fail
      refine (put_any _ (acc z0 z1 k) _ _ (kn z1 k) _ b0.out.1 b0.out.2 (by omega) hw.out HS2.out).mono ?_
      rintro x w2 ⟨sv, rfl, g1, g2⟩
      have C2 := Lib.hid (HC.out.drew.trans g1 (by simp))
      have S2 := Lib.hid (reads_of_own g2).seen
      clear g1 g2 hw
      go_wp2
      go_roundw
      case rel => exact ⟨k + 1, by omega, by go_num, C2.out, S2.out⟩
      case measure => simp [intOf]; omega
    · obtain rfl : k = n := by omega
      clear hkn hk
      have hal := acc_length z0 z1 k
      have haz : (acc z0 z1 k).length ≤ 140737488355328 := by omega
      go_wp2_with fail
      refine (new_any _ (acc z0 z1 k) _ haz HS.out).mono ?_
      rintro x w2 ⟨r, rfl, g1, g2, g3⟩
      have C2 := Lib.hid (HC.out.trans g1 (by simp)); clear g1
      have hr : w.heap.size ≤ r := Nat.le_trans HC.out.size g2
      have R2 := Lib.hid g3; clear g3 g2
      have htl : tl z0 z1 0 k = acc z0 z1 k := by have := acc_tl z0 z1 k 0; simpa [acc] using this
      have R3 : Rd w2 r (tl z0 z1 0 k) 0 w2.heap.size := by rw [htl]; exact R2.out
      have R3 := Lib.hid R3; clear htl
      go_wp2_with fail
      go_loopw [9] (fun i wr => ∃ j : Nat, j ≤ k ∧ i = .int .i64 j ∧ Chg [] w wr ∧ Rd wr r (tl z0 z1 j (k - j)) 0 w2.heap.size) (fun i _ => k - (intOf i).toNat)
      case atStart => exact ⟨0, by omega, rfl, C2.out, R3.out⟩
      case round =>
        clear R3
        obtain ⟨j, hj, rfl, hc, hs⟩ := hrel
        have HC3 := Lib.hid hc; have HS3 := Lib.hid hs
        clear hc hs
        by_cases hjk : j < k
        · obtain ⟨g0, o0, rfl, hd0⟩ := W0.out.at (i := j) (by omega)
          obtain ⟨g1, o1, rfl, hd1⟩ := W1.out.at (i := j) (by omega)
          have d0 := HC3.out.cell (hd0 j (by omega)) (by simp)
          have d1 := HC3.out.cell (hd1 j (by omega)) (by simp)
          clear hd0 hd1
          have b1 := Lib.hid (wf_i64 (wf_getD W1.out.wf (i := j) (by omega)))
          have b0 := Lib.hid (wf_u64 (wf_getD W0.out.wf (i := j) (by omega)))
          have hk0 : j < len0 := by omega
          have hk1 : j < len1 := by omega
          have hK8 := kn_le z1 j
          have hKE := Lib.hid (kn_eq z1 j)
          have hKW := Lib.hid (kn_width z1 j)
          have htl := tl_length z0 z1 (k - j) j
          have htz : (tl z0 z1 j (k - j)).length ≤ 140737488355328 := by omega
          have hwf := Lib.hid (tl_wf z0 z1 (k - j) j)
          go_wp2_with fail
          refine (within_any _ 9 _ (by decide) (by decide) b1.out.1 b1.out.2).mono ?_
          rintro x w3 ⟨rfl, rfl⟩
          rw [hKE.out]
          obtain ⟨m, hm⟩ : ∃ m, k - j = m + 1 := ⟨k - j - 1, by omega⟩
          have hm2 : k - (j + 1) = m := by omega
          have WE := Lib.hid (want_eq z0 z1 j m b0.out.1 b0.out.2)
          have TT := Lib.hid (tl_take z0 z1 j m)
          rw [hm] at htz
          have HS4 : Rd wr r (tl z0 z1 j (m + 1)) 0 w2.heap.size := by rw [← hm]; exact HS3.out
          have HWF : Wf (tl z0 z1 j (m + 1)) := tl_wf z0 z1 (m + 1) j
          have HS4 := Lib.hid HS4
          have HWF := Lib.hid HWF
          have HM := Lib.hid hm; have HM2 := Lib.hid hm2
          clear hm hm2 htl
          have hKW2 : widthOf ((kn z1 j : Nat) : Int) = ((kn z1 j : Nat) : Int) := by rw [← hKE.out]; exact hKW.out.trans hKE.out.symm
          have hKW2 := Lib.hid hKW2
          by_cases h8 : kn z1 j < 8
          · go_wp2_with fail
            rw [WE.out.1 h8]
            refine (get_yes r _ 0 (kn z1 j) _ _ htz HWF.out HS4.out hKW2.out TT.out.2.2).mono ?_
            rintro x w3 ⟨rfl, g1, g3⟩
            rw [TT.out.2.1] at g3
            have C4 := Lib.hid (HC3.out.trans (T := [r]) g1 (by simp; exact hr))
            have R4 := Lib.hid g3
            clear g1 g3
            go_wp2
            go_roundw
            case rel => exact ⟨j + 1, by omega, by go_num, C4.out, by rw [HM2.out]; exact R4.out⟩
            case measure => simp [intOf]; omega
          · go_wp2_with fail
            rw [WE.out.2 h8]
            refine (get_yes r _ 0 (kn z1 j) _ _ htz HWF.out HS4.out hKW2.out TT.out.2.2).mono ?_
            rintro x w3 ⟨rfl, g1, g3⟩
            rw [TT.out.2.1] at g3
            have C4 := Lib.hid (HC3.out.trans (T := [r]) g1 (by simp; exact hr))
            have R4 := Lib.hid g3
            clear g1 g3
            go_wp2
            go_roundw
            case rel => exact ⟨j + 1, by omega, by go_num, C4.out, by rw [HM2.out]; exact R4.out⟩
            case measure => simp [intOf]; omega
        · obtain rfl : j = k := by omega
          clear hjk hj
          have HS4 : Rd wr r [] 0 w2.heap.size := by have := HS3.out; rw [Nat.sub_self] at this; exact this
          have HS4 := Lib.hid HS4
          go_wp2_with fail
          refine (left_any r [] 0 _ (by simp) HS4.out).mono ?_
          rintro x w5 ⟨rfl, rfl⟩
          go_wp2_with fail
          refine (end_any r [] 0 _ (by simp) HS4.out).mono ?_
          rw [if_pos rfl]
          rintro x w5 ⟨rfl, rfl⟩
          go_wp2
          go_ret
          exact ⟨rfl, HC3.out.below (Nat.le_refl _) (by simp)⟩

end Go.Proofs.Ythfdfmdeojaabaa
