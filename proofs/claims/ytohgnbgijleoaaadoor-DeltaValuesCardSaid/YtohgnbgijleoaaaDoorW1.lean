/- Wi12, Dg: texts of one group, one behind the other. -/
import Derived.Test.YtohgnbgijleoaaaDoorNv
import Derived.Test.YtohgnbgijleoaaaDoorE1
import Derived.Test.YtohgnbgijleoaaaDoorE2
import Derived.BigQuiet
namespace Go.Proofs.YtohgnbgijleoaaaDoor
open Go.RowKit
set_option linter.unusedVariables false

set_option maxHeartbeats 400000 in
theorem within12_any (a n : Int) (w : World) (hn : 1 ≤ n) (hn2 : n ≤ 4611686018427387904) (ha : -9223372036854775808 ≤ a) (ha2 : a ≤ 9223372036854775807) :
    Calls Tryd.prog 8 #[.int .i64 a, .int .i64 n] w fun e w' => e = .returned (.int .i64 (a % n)) ∧ w = w' := by
  have hf := tmod_fix a n hn
  have hl : -n < a.tmod n := Int.lt_tmod_of_pos a (by omega)
  have hh : a.tmod n < n := Int.tmod_lt_of_pos a (by omega)
  have HF := Lib.hid hf; clear hf
  go_enter Tryd.func8, Tryd.ntmps8
  go_wp2
  · have hlt : a.tmod n < 0 := by assumption
    have E : a.tmod n + n = a % n := by rw [HF.out, if_pos hlt]
    go_ret
    exact ⟨ret_int E, rfl⟩
  · have hlt : ¬ a.tmod n < 0 := by omega
    have E : a.tmod n = a % n := by rw [HF.out, if_neg hlt]
    go_ret
    exact ⟨ret_int E, rfl⟩

theorem within12_nat (a : Int) (n : Nat) (w : World) (hn : 1 ≤ n) (hn2 : n ≤ 4611686018427387904) (h : (Lit.int .i64 a).wf = true) :
    Calls Tryd.prog 8 #[.int .i64 a, .int .i64 (n : Int)] w fun e w' => e = .returned (.int .i64 (((a % n).toNat : Nat) : Int)) ∧ w = w' := by
  have hb := wf_i64 h
  refine (within12_any a n w (by omega) (by omega) hb.1 hb.2).mono ?_
  rintro e w' ⟨rfl, rfl⟩
  have := Int.emod_nonneg a (show (n : Int) ≠ 0 by omega)
  exact ⟨ret_int (by omega), rfl⟩

theorem within12_int (a : Int) (n : Int) (m : Nat) (w : World) (hn : n = (m : Int)) (h1 : 1 ≤ m) (h2 : m ≤ 4611686018427387904) (h : (Lit.int .i64 a).wf = true) :
    Calls Tryd.prog 8 #[.int .i64 a, .int .i64 n] w fun e w' => e = .returned (.int .i64 (((a % m).toNat : Nat) : Int)) ∧ w = w' := by
  rw [hn]; exact within12_nat a m w h1 h2 h

end Go.Proofs.YtohgnbgijleoaaaDoor

namespace Go.Proofs.YtohgnbgijleoaaaDoor
open Go.RowKit
set_option linter.unusedVariables false
set_option linter.unusedSimpArgs false

theorem known_ints : intsE [5, 6, 7] = [10, 2, 0] := by
  have h1 : difs [5, 6, 7] = [1, 1] := by decide
  show vb (zigOf 5) ++ blksE (difs [5, 6, 7]) = _
  rw [h1, blksE_cons (by simp), show ([1, 1] : List Int).drop 32 = [] from rfl, blksE_nil, show ([1, 1] : List Int).take 32 = [1, 1] from rfl]
  unfold blkE
  rw [show wdB [1, 1] = 0 by decide +kernel, show zigOf 5 = 10 by decide, vb_lt (by decide), show zigOf (mn [1, 1]) = 2 by decide, vb_lt (by decide), show packed 0 (abv [1, 1]) = [] by decide +kernel]
  rfl

theorem SeenI.lit {w : World} {g : Nat} {C : Array Value} {T : TypeId} {fr : Nat × Nat} (l : List Int) (n : Nat) (hb : w.heap[g]? = some (.cells C T fr)) (hC : C.toList = iv l) (hn : l.length = n) (hm : n ≤ maxLen) : SeenI w (.slice (some ⟨g, 0, none⟩) n n) l :=
  SeenK.lit ic_len hb l n (by rw [hC, iv_flat]) hn hm

theorem dread_back (bv : Value) (l : List Int) (r : List Nat) (w : World) (hS : Seen w bv (nv .u8 (intsE l ++ r))) (hr : ∀ x ∈ r, x < 2 ^ 8) (hin : ∀ x ∈ l, In64 x) (hl : l.length ≤ 4000) (hrl : r.length ≤ 1000000) :
    Calls Tryd.prog 65 #[bv, .int .i64 (l.length : Int)] w fun e w' => ∃ v, e = .returned (.tuple #[v, .int .i64 ((intsE l).length : Nat), .int .i64 0]) ∧ MadeI l w v w' := by
  have hlen := intsE_len l hin
  refine (dread_any bv (intsE l ++ r) (l.length : Int) w hS (fun x hx => ?_) (by rw [List.length_append]; omega)).mono ?_
  · rcases List.mem_append.1 hx with h | h
    · exact intsE_bytes l x h
    · exact hr x h
  rintro e w' ⟨v, rfl, hm⟩
  rw [read_ints l hin hl r] at hm ⊢
  exact ⟨v, rfl, hm⟩

set_option maxRecDepth 100000 in
set_option maxHeartbeats 2000000 in
theorem known12_any (w : World) : Calls Tryd.prog 7 #[] w fun x w' => x = .returned (.bool true) ∧ Chg [] w w' := by
  go_enter Tryd.func7, Tryd.ntmps7
  go_wp2_with fail
  refine (dints_any _ [5, 6, 7] _ (SeenI.lit [5, 6, 7] 3 (heap_alloc_new w _) rfl rfl (by decide)) (by decide) (fun x hx => by simp at hx; unfold In64; omega)).mono ?_
  rintro e w2 ⟨x, rfl, hm⟩
  rw [known_ints] at hm
  obtain ⟨hc, ho⟩ := hm
  obtain ⟨xo, xc, rfl⟩ := own_shape ho
  obtain ⟨g, rfl⟩ := own_some ho (by decide)
  have hc0 := own_cell ho rfl 0 (by decide)
  have hc1 := own_cell ho rfl 1 (by decide)
  have hc2 := own_cell ho rfl 2 (by decide)
  have HC := Lib.hid (((Chg.refl [] w).alloc (.cells #[.int .i64 5, .int .i64 6, .int .i64 7] 3)).trans hc (by simp))
  simp only [List.length_cons, List.length_nil] at *
  clear hc ho
  go_wp2
  go_ret
  exact ⟨rfl, HC.out⟩

theorem IsRow.seenT {w : World} {a : Option Addr} {len cap : Nat} {z : List Int} (h : IsRow .i64 w a len cap z) : SeenI w (.slice a len cap) (z.take len) ∧ (z.take len).length = len := by
  have hlen := h.len
  have hl : (z.take len).length = len := by simp; omega
  refine ⟨?_, hl⟩
  by_cases h0 : len = 0
  · subst h0
    rcases h with ⟨rfl, -, rfl, rfl⟩ | ⟨x, rfl, h1, h2, h3, h4, h5⟩
    · exact ⟨none, 0, rfl, by simp, by simp, fun h => absurd h (by simp)⟩
    · exact ⟨some x, cap, by simp, by simp, h2, fun hp => absurd hp (by simp)⟩
  · obtain ⟨g, off, rfl, hc⟩ := h.at (i := 0) (by omega)
    have hcap : len ≤ cap ∧ cap ≤ maxLen := by
      have hs := h.seen.1.room
      exact hs
    refine ⟨some ⟨g, off, none⟩, cap, by rw [hl], by omega, hcap.2, fun hp => ⟨g, off, rfl, fun j x i u hx hu => ?_⟩⟩
    have hj : j < len := by have := (List.getElem?_eq_some_iff.1 hx).1; omega
    have hi : i = 0 := by
      cases i with
      | zero => rfl
      | succ i => simp [ic] at hu
    subst hi
    simp only [Nat.mul_one, Nat.add_zero]
    rw [hc j hj, ← hu]
    rw [List.getElem?_take, if_pos hj] at hx
    simp [ic, List.getD, hx]

theorem within12 (a n : Int) (N : Nat) (wx : World) (hN : (N : Int) = n) (hn : 1 ≤ N) (hn2 : N ≤ 4611686018427387904) (h : (Lit.int .i64 a).wf = true) :
    Calls Tryd.prog 8 #[.int .i64 a, .int .i64 n] wx fun e w' => e = .returned (.int .i64 (((a % (N : Int)).toNat : Nat) : Int)) ∧ wx = w' := by
  rw [← hN]
  exact within12_nat a N wx hn hn2 h

end Go.Proofs.YtohgnbgijleoaaaDoor
