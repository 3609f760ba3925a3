/- Words in memory; contract of the function that hands out a text's next word. -/
import Derived.Test.YtofnpcfclcfgfaaTs
namespace Go.Proofs.Ytofnpcfclcfgfaa
open Go.RowKit
set_option linter.unusedVariables false

def sc (s : ByteArray) : List Value := [.string s]
abbrev SeenS := SeenK sc 1

theorem SeenS.cell {w : World} {g off : Nat} {l : List ByteArray} (h : ∀ j x i u, l[j]? = some x → (sc x)[i]? = some u → w.cell? ⟨g, off + j * 1 + i, none⟩ = some u) {j : Nat} {x : ByteArray} (hj : l[j]? = some x) : w.cell? ⟨g, off + j, none⟩ = some (.string x) := by
  simpa using h j x 0 _ hj rfl

theorem own_seenS {w : World} {B n : Nat} {v : Value} {l : List ByteArray} (h : w.ownsRow B 9 1 v n (sv l)) (hn : l.length = n) : SeenS w v l := by
  subst hn
  obtain ⟨hl, h1⟩ := h
  rcases h1 with ⟨rfl, hn⟩ | ⟨g, cap, cur, rfl, _, hg, hc, hm, hs, ht⟩
  · exact ⟨none, 0, by rw [hn], by omega, by decide, fun hp => by omega⟩
  · refine ⟨_, cap, rfl, by omega, by omega, fun _ => ⟨g, 0, rfl, fun j x i u hx hu => ?_⟩⟩
    have hi : i = 0 := by
      cases i with
      | zero => rfl
      | succ i => simp [sc] at hu
    subst hi
    simp [sc] at hu
    subst hu
    rw [Nat.zero_add, cell_of_row w g _ _ _ _ hg]
    have h : (sv l)[j]? = some (.string x) := by simp [sv, hx]
    rw [← ht, List.getElem?_take] at h
    split at h
    · simpa using h
    · cases h

/-- The words behind the first one, as the model slices. -/
theorem SeenS.tail {w : World} {g off n cap : Nat} {x : ByteArray} {l : List ByteArray} (h : SeenS w (.slice (some ⟨g, off, none⟩) (n + 1) cap) (x :: l)) : SeenS w (.slice (if cap = 1 then some ⟨g, off, none⟩ else some ⟨g, off + 1, none⟩) n (cap - 1)) l := by
  obtain ⟨ao', cap', h1, h2, h3, h4⟩ := h
  injection h1 with e1 e2 e3
  have hn : n = l.length := by rw [List.length_cons] at e2; omega
  subst e3 hn
  rw [List.length_cons] at h2 h4
  obtain ⟨g', off', e, hc⟩ := h4 (by omega)
  rw [← e1] at e
  injection e with e; injection e with e5 e6
  subst e5 e6
  refine ⟨_, cap - 1, rfl, by omega, by omega, fun hp => ?_⟩
  rw [if_neg (by omega)]
  refine ⟨g, off + 1, rfl, fun j y i u hy hu => ?_⟩
  have := hc (j + 1) y i u (by simpa using hy) hu
  rwa [show off + (j + 1) * 1 + i = off + 1 + j * 1 + i by omega] at this

set_option maxRecDepth 100000 in
set_option maxHeartbeats 1000000 in
theorem next_any (gW : Nat) (wv : Value) (ws : List ByteArray) (w0 w : World) (hb : w.heap[gW]? = some (.cells #[wv] 35 (0, 0))) (hS : SeenS w0 wv ws) (hc : Chg [] w0 w) (hg : w0.heap.size ≤ gW) :
    Calls Try.prog 82 #[.pointer (some ⟨gW, 0, none⟩)] w fun e w' => e = .returned (.string (ws.headD ByteArray.empty)) ∧ ∃ wv', w'.heap[gW]? = some (.cells #[wv'] 35 (0, 0)) ∧ SeenS w0 wv' ws.tail ∧ Chg [gW] w w' := by
  obtain ⟨ao, cap, rfl, hc1, hc2⟩ := hS.shape
  have hcell : w.cell? ⟨gW, 0, none⟩ = some (.slice ao ws.length cap) := by simp [World.cell?, hb]
  have hfz : w.frozen? ⟨gW, 0, none⟩ = false := by simp [World.frozen?, hb]
  have HB := Lib.hid hb; have HC := Lib.hid hc
  clear hb hc
  cases ws with
  | nil =>
    have HS := Lib.hid hS
    clear hS
    rw [List.length_nil] at hcell hc1 HB HS
    go_enter Try.func82, Try.ntmps82
    go_wp2
    go_ret
    exact ⟨rfl, _, HB.out, HS.out, Chg.refl _ w⟩
  | cons x t =>
    obtain ⟨g, off, rfl, hx⟩ := hS.at (by simp)
    have h0 := SeenS.cell hx (j := 0) (x := x) rfl
    have hgs : g < w0.heap.size := World.block_lt_of_cell? w0 _ h0
    have c0 := HC.out.cell h0 (by simp)
    rw [Nat.add_zero] at c0
    have HS := Lib.hid hS
    obtain ⟨n, hn⟩ : ∃ n, n = t.length := ⟨_, rfl⟩
    rw [List.length_cons, ← hn] at hcell hc1 HB HS
    clear hS hx h0 hn
    have hne : g ≠ gW := by omega
    go_enter Try.func82, Try.ntmps82
    go_wp2_with fail
    go_region
    generalize hv : (Value.slice (if cap = 1 then some (⟨g, off, none⟩ : Addr) else some ⟨g, off + 1, none⟩) n (cap - 1)) = wv'
    have HV := Lib.hid hv
    clear hv
    go_wp2
    go_ret
    refine ⟨rfl, wv', heap_set (i := 0) HB.out wv', ?_, ((Chg.refl [gW] w).setCell (by simp) _).drew⟩
    rw [← HV.out]
    exact SeenS.tail HS.out

end Go.Proofs.Ytofnpcfclcfgfaa
