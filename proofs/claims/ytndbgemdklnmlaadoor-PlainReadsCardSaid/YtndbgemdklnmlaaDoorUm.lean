/- plain's reference: Decode, of any numbers. -/
import Derived.Test.YtndbgemdklnmlaaDoorUl
import Derived.Test.YtndbgemdklnmlaaDoorUj
namespace Go.Proofs.YtndbgemdklnmlaaDoor
open Go.RowKit
set_option linter.unusedVariables false
set_option linter.unusedSimpArgs false

set_option maxRecDepth 100000 in
set_option maxHeartbeats 4000000 in
theorem rdecode11_any (k n : Int) (bv : Value) (b : List Nat) (w : World) (hk : (Lit.int .i64 k).wf = true) (hn : (Lit.int .i64 n).wf = true) (hS : Seen w bv (nv .u8 b)) (hb : ∀ x ∈ b, x < 2 ^ 8) (hbl : b.length ≤ 1000000000) :
    Calls Tryd.prog 17 #[.int .i64 k, bv, .int .i64 n] w (PDecOut k b n w) := by
  have hk1 := wf_i64 hk
  have hn1 := wf_i64 hn
  by_cases hbad : k < 1 ∨ 4 < k ∨ n < 0 ∨ 4000 < n
  · have E := Lib.hid (show decP k b n = ([], 1) by unfold decP; rw [if_pos hbad])
    unfold PDecOut
    rw [E.out]
    by_cases h1 : k < 1
    · go_enter Tryd.func17, Tryd.ntmps17
      go_wp2
      go_ret2
      exact ⟨_, rfl, Chg.refl _ _, World.ownsRow_nil _ _ _ _⟩
    by_cases h2 : 4 < k
    · go_enter Tryd.func17, Tryd.ntmps17
      go_wp2
      go_ret2
      exact ⟨_, rfl, Chg.refl _ _, World.ownsRow_nil _ _ _ _⟩
    by_cases h3 : n < 0
    · go_enter Tryd.func17, Tryd.ntmps17
      go_wp2
      go_ret2
      exact ⟨_, rfl, Chg.refl _ _, World.ownsRow_nil _ _ _ _⟩
    have h4 : 4000 < n := by omega
    clear hbad
    go_enter Tryd.func17, Tryd.ntmps17
    go_wp2
    go_ret2
    exact ⟨_, rfl, Chg.refl _ _, World.ownsRow_nil _ _ _ _⟩
  · obtain ⟨N, rfl⟩ : ∃ N : Nat, n = (N : Int) := ⟨n.toNat, by omega⟩
    obtain ⟨K, rfl⟩ : ∃ K : Nat, k = (K : Int) := ⟨k.toNat, by omega⟩
    have hN : N ≤ 4000 := by omega
    by_cases h1 : K = 1
    · subst h1
      have HT := Lib.hid (rbools_any bv b N w hN (by omega) hS hb)
      have hn0 : ¬ ((N : Int) < 0) := by omega
      have hn2 : ¬ ((4000 : Int) < (N : Int)) := by omega
      rw [show ((1 : Nat) : Int) = 1 from rfl]
      unfold PDecOut at HT ⊢
      obtain ⟨q, hq⟩ : ∃ q, q = decP 1 b (N : Int) := ⟨_, rfl⟩
      rw [← hq] at HT ⊢
      clear hS hbad hb hq
      go_enter Tryd.func17, Tryd.ntmps17
      go_wp2_with (first
        | (go_at_call 26; (with_reducible refine HT.out.mono ?_); rintro e w2 ⟨x, rfl, hc, ho⟩; have HC := Lib.hid hc; have HO := Lib.hid ho; clear hc ho)
        | fail)
      go_ret2
      exact ⟨_, rfl, HC.out, HO.out⟩
    · exact rdecode11_vals K (by omega) bv b N w hN hbl hS hb

/-- What both Decodes answer, the row at a slice. -/
def PlOut (k : Int) (b : List Nat) (n : Int) (w : World) (e : Ending) (w' : World) : Prop :=
  ∃ ao cap, e = .returned (.tuple #[.slice ao (decP k b n).1.length cap, .int .i64 (decP k b n).2]) ∧ Chg [] w w' ∧ SeenV w' (.slice ao (decP k b n).1.length cap) (decP k b n).1

theorem PDecOut.out {k n : Int} {b : List Nat} {w : World} {e : Ending} {w' : World} (h : PDecOut k b n w e w') : PlOut k b n w e w' := by
  obtain ⟨x, rfl, hc, ho⟩ := h
  obtain ⟨xo, xc, rfl⟩ := own_shape ho
  exact ⟨xo, xc, rfl, hc, SeenK.own V.cs_len ho rfl⟩

theorem plz (k n : Int) (bv : Value) (b : List Nat) (w : World) (hk : (Lit.int .i64 k).wf = true) (hn : (Lit.int .i64 n).wf = true) (hL : Laid w) (hS : Seen w bv (nv .u8 b)) (hb : ∀ x ∈ b, x < 2 ^ 8) (hbl : b.length < 1000000) :
    Calls Tryd.prog 14 #[.int .i64 k, bv, .int .i64 n] w (PlOut k b n w) :=
  (pdecode_any k n bv b w hk hn hL hS hb (by omega)).mono fun _ _ h => h.out

theorem rplz (k n : Int) (bv : Value) (b : List Nat) (w : World) (hk : (Lit.int .i64 k).wf = true) (hn : (Lit.int .i64 n).wf = true) (hS : Seen w bv (nv .u8 b)) (hb : ∀ x ∈ b, x < 2 ^ 8) (hbl : b.length < 1000000) :
    Calls Tryd.prog 17 #[.int .i64 k, bv, .int .i64 n] w (PlOut k b n w) :=
  (rdecode11_any k n bv b w hk hn hS hb (by omega)).mono fun _ _ h => h.out

/-- Bytes that are read at a slice. -/
def Bs (w : World) (v : Value) : Prop := ∃ l : List Nat, Seen w v (nv .u8 l) ∧ (∀ x ∈ l, x < 2 ^ 8) ∧ l.length < 100000

theorem Bs.keep {w w' : World} {v : Value} (h : Bs w v) (hc : Chg [] w w') : Bs w' v := by
  obtain ⟨l, h1, h2, h3⟩ := h
  exact ⟨l, h1.keep hc, h2, h3⟩

end Go.Proofs.YtndbgemdklnmlaaDoor
