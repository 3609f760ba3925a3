/- The reference's parser in memory: next, fail, must, which. -/
import Derived.Test.YtofnpcfclcfgfaaA9
import Derived.Test.YtofnpcfclcfgfaaA8
import Derived.Test.YtofnpcfclcfgfaaA1
import Derived.Deep.QuietTactic
import Derived.BigQuiet
namespace Go.Proofs.Ytofnpcfclcfgfaa
open Go.RowKit
set_option linter.unusedVariables false

/-- How the reference's parser lies: its words, how many are gone past, its fields, its error. -/
structure PS (w0 w : World) (gp : Nat) (W : List ByteArray) (wv : Value) (i : Nat) (S : List F) (sv : Value) (e : Int) : Prop where
  hb : w.heap[gp]? = some (.cells #[wv, .int .i64 (i : Int), sv, .int .i64 e] 91 (0, 0))
  hw : SeenS w0 wv W
  os : w.ownsRow w0.heap.size 41 4 sv S.length (S.flatMap F.cs)
  cg : Chg [] w0 w
  g1 : w0.heap.size ≤ gp
  le : i ≤ W.length
  ls : S.length ≤ 40
  wl : W.length ≤ 8002

theorem PS.cells {w0 w : World} {gp : Nat} {W : List ByteArray} {wv : Value} {i : Nat} {S : List F} {sv : Value} {e : Int} (h : PS w0 w gp W wv i S sv e) :
    w.cell? ⟨gp, 0, none⟩ = some wv ∧ w.cell? ⟨gp, 1, none⟩ = some (.int .i64 (i : Int)) ∧ w.cell? ⟨gp, 2, none⟩ = some sv ∧ w.cell? ⟨gp, 3, none⟩ = some (.int .i64 e) ∧ ∀ j, w.frozen? ⟨gp, j, none⟩ = false := by
  have hb := h.hb
  refine ⟨?_, ?_, ?_, ?_, fun j => ?_⟩ <;> simp [World.cell?, World.frozen?, hb]

theorem PS.keep {w0 w w' : World} {gp : Nat} {W : List ByteArray} {wv : Value} {i : Nat} {S : List F} {sv : Value} {e : Int} (h : PS w0 w gp W wv i S sv e) (hc : Chg [] w w') : PS w0 w' gp W wv i S sv e :=
  ⟨hc.heap h.hb (by simp), h.hw, own_chg h.os hc (by simp), h.cg.trans hc (by simp), h.g1, h.le, h.ls, h.wl⟩

theorem PS.sep {w0 w : World} {gp : Nat} {W : List ByteArray} {wv : Value} {i : Nat} {S : List F} {sv : Value} {e : Int} (h : PS w0 w gp W wv i S sv e) : sv.ownBlock ≠ some gp := fun hg => own_ne h.os h.hb (by decide) gp hg rfl

theorem PS.set {w0 w : World} {gp : Nat} {W : List ByteArray} {wv : Value} {i : Nat} {S : List F} {sv : Value} {e : Int} (h : PS w0 w gp W wv i S sv e) (j : Nat) (v : Value) :
    (w.setCell ⟨gp, j, none⟩ v).heap[gp]? = some (.cells ((#[wv, .int .i64 (i : Int), sv, .int .i64 e] : Array Value).setIfInBounds j v) 91 (0, 0)) ∧ Chg [] w0 (w.setCell ⟨gp, j, none⟩ v) ∧ (w.setCell ⟨gp, j, none⟩ v).ownsRow w0.heap.size 41 4 sv S.length (S.flatMap F.cs) :=
  ⟨heap_set h.hb v, h.cg.setCell (.inr h.g1) v, own_chg h.os ((Chg.refl [gp] w).setCell (by simp) v) fun g hg hm => by
    simp at hm
    subst hm
    exact h.sep hg⟩

theorem PS.err {w0 w : World} {gp : Nat} {W : List ByteArray} {wv : Value} {i : Nat} {S : List F} {sv : Value} {e : Int} (h : PS w0 w gp W wv i S sv e) (e' : Int) : PS w0 (w.setCell ⟨gp, 3, none⟩ (.int .i64 e')) gp W wv i S sv e' := by
  obtain ⟨h1, h2, h3⟩ := h.set 3 (.int .i64 e')
  exact ⟨h1, h.hw, h3, h2, h.g1, h.le, h.ls, h.wl⟩

theorem PS.step {w0 w : World} {gp : Nat} {W : List ByteArray} {wv : Value} {i : Nat} {S : List F} {sv : Value} {e : Int} (h : PS w0 w gp W wv i S sv e) (hi : i < W.length) : PS w0 (w.setCell ⟨gp, 1, none⟩ (.int .i64 ((i : Int) + 1))) gp W wv (i + 1) S sv e := by
  obtain ⟨h1, h2, h3⟩ := h.set 1 (.int .i64 ((i : Int) + 1))
  exact ⟨h1, h.hw, h3, h2, h.g1, hi, h.ls, h.wl⟩

theorem PS.drew {w0 w : World} {gp : Nat} {W : List ByteArray} {wv : Value} {i : Nat} {S : List F} {sv : Value} {e : Int} (h : PS w0 w gp W wv i S sv e) (n : Nat) : PS w0 (w.drewN n) gp W wv i S sv e :=
  h.keep ((Chg.refl [] w).drewN n)

theorem drop_at' {α : Type} {l : List α} {i : Nat} {c : α} (h : l[i]? = some c) : l.drop i = c :: l.drop (i + 1) := by
  have hi := (List.getElem?_eq_some_iff.1 h).1
  rw [List.drop_eq_getElem_cons hi]
  rw [List.getElem?_eq_getElem hi] at h
  injection h with h
  rw [h]

set_option maxRecDepth 100000 in
set_option maxHeartbeats 1000000 in
/-- Where an error is set there is no word. -/
theorem rnext_err (w0 w : World) (gp : Nat) (W : List ByteArray) (wv : Value) (i : Nat) (S : List F) (sv : Value) (e : Int) (h : PS w0 w gp W wv i S sv e) (he : e ≠ 0) :
    Calls Try.prog 87 #[.pointer (some ⟨gp, 0, none⟩)] w fun en w' => en = .returned (.string ByteArray.empty) ∧ PS w0 w' gp W wv i S sv e ∧ Chg [gp] w w' := by
  obtain ⟨c0, c1, c2, c3, -⟩ := h.cells
  have H := Lib.hid h
  have q1 : (e != 0) = true := by simpa using he
  clear h he
  go_enter Try.func87, Try.ntmps87
  go_wp2_with fail
  go_quiet (fail)
  go_wp2
  go_ret
  exact ⟨rfl, H.out.drew _, (Chg.refl _ w).drewN _⟩

set_option maxRecDepth 100000 in
set_option maxHeartbeats 1000000 in
theorem rnext_ok (w0 w : World) (gp : Nat) (W : List ByteArray) (wv : Value) (i : Nat) (S : List F) (sv : Value) (h : PS w0 w gp W wv i S sv 0) :
    Calls Try.prog 87 #[.pointer (some ⟨gp, 0, none⟩)] w fun en w' => en = .returned (.string ((W.drop i).headD ByteArray.empty)) ∧ ∃ i', PS w0 w' gp W wv i' S sv 0 ∧ W.drop i' = (W.drop i).tail ∧ i ≤ i' ∧ (i < W.length → i < i') ∧ Chg [gp] w w' := by
  obtain ⟨c0, c1, c2, c3, hfz⟩ := h.cells
  obtain ⟨ao, cap, rfl, hc1, hc2⟩ := h.hw.shape
  have hle := h.le
  have hwl := h.wl
  have H := Lib.hid h
  obtain ⟨n, hn⟩ : ∃ n, n = W.length := ⟨_, rfl⟩
  rw [← hn] at c0 hc1 hle hwl H ⊢
  have HN := Lib.hid hn
  by_cases hi : i < n
  · obtain ⟨g, off, rfl, hcs⟩ := h.hw.at (by omega)
    obtain ⟨x, hx⟩ : ∃ x, W[i]? = some x := ⟨_, List.getElem?_eq_getElem (by omega)⟩
    have cx0 := SeenS.cell hcs hx
    have hgs : g < w0.heap.size := World.block_lt_of_cell? w0 _ cx0
    have hne : g ≠ gp := by have := h.g1; omega
    have cx := h.cg.cell cx0 (by simp)
    have HD := Lib.hid (drop_at' hx)
    have d1 : decide ((n : Int) ≤ (i : Int)) = false := by simp; omega
    have d1' : ¬ n ≤ i := by omega
    have hz1 : IntKind.i64.wrap ((i : Int) + 1) = (i : Int) + 1 := IntWalk.i64_in _ (by omega)
    have hz2 : IntKind.i64.wrap ((i : Int) + 1 - 1) = (i : Int) := by rw [Int.add_sub_cancel]; exact IntWalk.i64_in _ (by omega)
    clear h hcs hx cx0 hgs hn
    go_enter Try.func87, Try.ntmps87
    go_wp2_with fail
    go_quiet (fail)
    go_wp2_with fail
    have hP : PS w0 ((w.drewN nq).setCell ⟨gp, 1, none⟩ (.int .i64 ((i : Int) + 1))) gp W (.slice (some ⟨g, off, none⟩) n cap) (i + 1) S sv 0 := (H.out.drew nq).step (by rw [← HN.out]; exact hi)
    have hcx : ((w.drewN nq).setCell ⟨gp, 1, none⟩ (.int .i64 ((i : Int) + 1))).cell? ⟨g, off + i, none⟩ = some (.string x) := (((Chg.refl [gp] w).drewN nq).setCell (by simp) _).cell cx (by simpa using hne)
    have HCW := Lib.hid (show Chg [gp] w ((w.drewN nq).setCell ⟨gp, 1, none⟩ (.int .i64 ((i : Int) + 1))) from ((Chg.refl [gp] w).drewN nq).setCell (by simp) _)
    generalize (w.drewN nq).setCell ⟨gp, 1, none⟩ (.int .i64 ((i : Int) + 1)) = W1 at hP hcx HCW ⊢
    obtain ⟨b0, b1, b2, b3, -⟩ := hP.cells
    rw [show (((i + 1 : Nat)) : Int) = (i : Int) + 1 by omega] at b1
    have HP := Lib.hid hP
    clear hP c0 c1 c2 c3 hfz cx d1 d1'
    go_quiet (fail)
    go_wp2
    go_ret
    rw [HD.out]
    exact ⟨rfl, i + 1, HP.out.drew _, rfl, by omega, fun _ => by omega, HCW.out.drewN _⟩
  · have hd : W.drop i = [] := List.drop_of_length_le (by omega)
    have HD := Lib.hid hd
    have d1 : decide ((n : Int) ≤ (i : Int)) = true := by simp; omega
    have d1' : n ≤ i := by omega
    clear h hd hn
    go_enter Try.func87, Try.ntmps87
    go_wp2_with fail
    go_quiet (fail)
    go_wp2
    go_ret
    rw [HD.out]
    exact ⟨rfl, i, H.out.drew _, HD.out, Nat.le_refl _, fun h => absurd h hi, (Chg.refl _ w).drewN _⟩

end Go.Proofs.Ytofnpcfclcfgfaa
