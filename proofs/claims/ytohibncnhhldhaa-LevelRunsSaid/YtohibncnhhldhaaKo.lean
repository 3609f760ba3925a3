/- Levels: what small bytes are read as. -/
import Derived.Test.YtohibncnhhldhaaKj
import Derived.Test.YtohibncnhhldhaaKc
namespace Go.Proofs.Ytohibncnhhldhaa
open Go.RowKit
set_option linter.unusedVariables false
set_option linter.unusedSimpArgs false

theorem gl_small (x : Nat) (r : List Nat) (hx : x < 128) : gl 0 (x :: r) = (1, 0) ∧ gv (x :: r) = x := by
  have h := gv_vb x r (by omega)
  rw [vb_lt hx] at h
  exact h

theorem part_even (w k c : Nat) (r : List Nat) (h : 2 * c < 128) : partL w k (2 * c :: r) = runL w k c r := by
  obtain ⟨e1, e2⟩ := gl_small (2 * c) r h
  rw [partL_eq, e1, e2, if_neg (by decide), if_pos (by omega), show 2 * c / 2 = c by omega]
  rfl

theorem part_odd (w k g : Nat) (r : List Nat) (h : 2 * g + 1 < 128) : partL w k ((2 * g + 1) :: r) = grpL w k g r := by
  obtain ⟨e1, e2⟩ := gl_small (2 * g + 1) r h
  rw [partL_eq, e1, e2, if_neg (by decide), if_neg (by omega), show (2 * g + 1) / 2 = g by omega]
  rfl

theorem dec_err (b : List Nat) (N W e : Nat) (hN : 1 ≤ N) (hN2 : N ≤ 4000) (hW : 1 ≤ W) (hW2 : W ≤ 16) (he : e ≠ 0) (h : (partL W N b).1 = e) : decA b (N : Int) (W : Int) = (e, []) := by
  have h1 : decL W N b = (e, []) := by rw [decL_bad W N b (by omega) (by omega), h]
  unfold decA
  rw [if_neg (by omega), if_neg (by omega), Int.toNat_natCast, Int.toNat_natCast, h1, if_neg he]

theorem strm_zero (w : Nat) : ∀ n, strm w (List.replicate n 0) = 0
  | 0 => rfl
  | n + 1 => by rw [List.replicate_succ, strm, strm_zero w n]; simp

theorem packed_zero (w g : Nat) : packed w (List.replicate (8 * g) 0) = List.replicate (g * w) 0 := by
  have hl : (packed w (List.replicate (8 * g) 0)).length = g * w := by
    rw [packed_length, List.length_replicate, show w * (8 * g) = 8 * (g * w) by rw [Nat.mul_comm g w, Nat.mul_left_comm]]; omega
  refine List.eq_replicate_iff.2 ⟨hl, fun x hx => ?_⟩
  unfold packed pk at hx
  obtain ⟨j, _, rfl⟩ := List.mem_map.1 hx
  rw [strm_zero]
  simp [wd]

theorem dec_zeros (N W g : Nat) (hN : 1 ≤ N) (hN2 : N ≤ 4000) (hW : 1 ≤ W) (hW2 : W ≤ 16) (hg : g = (N + 7) / 8) (h : 2 * g + 1 < 128) : decA ((2 * g + 1) :: List.replicate (g * W) 0) (N : Int) (W : Int) = (0, List.replicate N 0) := by
  have hp := partL_mix W N g (List.replicate (8 * g) 0) [] (by simp) (by omega) (by omega) (by omega) (fun x hx => by rw [(List.mem_replicate.1 hx).2]; exact Nat.two_pow_pos W) (fun x hx => (List.mem_replicate.1 (List.mem_of_mem_drop hx)).2)
  rw [vb_lt h, packed_zero, List.append_nil] at hp
  have hp : partL W N ((2 * g + 1) :: List.replicate (g * W) 0) = (0, (List.replicate (8 * g) 0).take N, []) := hp
  have hl : ((List.replicate (8 * g) 0).take N).length = N := by simp; omega
  have ht : (List.replicate (8 * g) 0).take N = List.replicate N 0 := by rw [List.take_replicate, Nat.min_eq_left (by omega)]
  have hd : decL W N ((2 * g + 1) :: List.replicate (g * W) 0) = (0, List.replicate N 0) := by
    rw [decL_ok W N _ (by omega) (by rw [hp]), hp]
    have e0 : decL W 0 [] = (0, []) := decL_zero W []
    simp only [ht, List.length_replicate, Nat.sub_self, e0, List.append_nil]
  unfold decA
  rw [if_neg (by omega), if_neg (by omega), Int.toNat_natCast, Int.toNat_natCast, hd, if_pos rfl]

end Go.Proofs.Ytohibncnhhldhaa
