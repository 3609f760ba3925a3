/- Rows of rows of numbers; what slices.Clone makes of a trail. -/
import Derived.Test.YtfdmbpfpdijpdaaGa
import Derived.Test.YtfdmbpfpdijpdaaA4
import Derived.Test.YtfdmbpfpdijpdaaA5
import Derived.Test.YtfdmbpfpdijpdaaA1
namespace Go.Proofs.Ytfdmbpfpdijpdaa
open Go.RowKit
set_option linter.unusedVariables false
set_option linter.unusedSimpArgs false

/-- A row of rows of numbers. -/
def RowsN (k : IntKind) (w : World) (v : Value) (T : List (List Nat)) : Prop :=
  ∃ ao cap, v = .slice ao T.length cap ∧ T.length ≤ cap ∧ cap ≤ maxLen ∧ (0 < T.length → ∃ g off, ao = some ⟨g, off, none⟩ ∧ ∀ j, j < T.length → ∃ x, w.cell? ⟨g, off + j, none⟩ = some x ∧ Seen w x (nv k (T.getD j [])))

theorem RowsN.keep {k : IntKind} {w w' : World} {v : Value} {T : List (List Nat)} (h : RowsN k w v T) (hc : Chg [] w w') : RowsN k w' v T := by
  obtain ⟨ao, cap, e, h2, h3, h4⟩ := h
  refine ⟨ao, cap, e, h2, h3, fun hp => ?_⟩
  obtain ⟨g, off, e2, h6⟩ := h4 hp
  exact ⟨g, off, e2, fun j hj => by obtain ⟨x, q1, q2⟩ := h6 j hj; exact ⟨x, hc.cell q1 (by simp), q2.keep hc⟩⟩

theorem RowsN.shape {k : IntKind} {w : World} {v : Value} {T : List (List Nat)} (h : RowsN k w v T) : ∃ ao cap, v = .slice ao T.length cap ∧ T.length ≤ cap ∧ cap ≤ maxLen := by
  obtain ⟨ao, cap, e, h2, h3, -⟩ := h
  exact ⟨ao, cap, e, h2, h3⟩

theorem RowsN.get {k : IntKind} {w : World} {ao : Option Addr} {n cap : Nat} {T : List (List Nat)} (h : RowsN k w (.slice ao n cap) T) (hn : 0 < n) (hl : T.length = n) :
    ∃ g off, ao = some ⟨g, off, none⟩ ∧ ∀ j, j < n → ∃ xo xc, w.cell? ⟨g, off + j, none⟩ = some (.slice xo (T.getD j []).length xc) ∧ (T.getD j []).length ≤ xc ∧ xc ≤ maxLen ∧ Seen w (.slice xo (T.getD j []).length xc) (nv k (T.getD j [])) := by
  obtain ⟨ao', cap', e, h2, h3, h4⟩ := h
  injection e with e1 e2 e3
  subst e1
  obtain ⟨g, off, e4, h5⟩ := h4 (by omega)
  refine ⟨g, off, e4, fun j hj => ?_⟩
  obtain ⟨x, q1, q2⟩ := h5 j (by omega)
  obtain ⟨xo, xc, rfl, q3, q4⟩ := q2.shape
  rw [nv_length] at q1 q2 q3
  exact ⟨xo, xc, q1, q3, q4, q2⟩

theorem RowsN.own {k : IntKind} {w : World} {B T0 n : Nat} {v : Value} {VL : List Value} {T : List (List Nat)} (h : w.ownsRow B T0 1 v n VL) (hn : T.length = n) (hs : ∀ j, j < n → ∃ x, VL[j]? = some x ∧ Seen w x (nv k (T.getD j []))) : RowsN k w v T := by
  subst hn
  obtain ⟨hl, h1⟩ := h
  rcases h1 with ⟨rfl, hn⟩ | ⟨g, cap, cur, rfl, _, hg, hc, hm, hs', ht⟩
  · exact ⟨none, 0, by rw [hn], by omega, by decide, fun hp => by omega⟩
  · refine ⟨_, cap, rfl, by omega, by omega, fun _ => ⟨g, 0, rfl, fun j hj => ?_⟩⟩
    obtain ⟨x, q1, q2⟩ := hs j hj
    refine ⟨x, ?_, q2⟩
    rw [Nat.zero_add, cell_of_row w g _ _ _ _ hg]
    rw [← ht, List.getElem?_take] at q1
    split at q1
    · simpa using q1
    · cases q1

/-- The runes of a trail. -/
def rn (t : List Nat) : List Nat := t.map (· + 65)
@[simp] theorem rn_length (t : List Nat) : (rn t).length = t.length := by simp [rn]

/-- Block g is the row V. -/
def BlkV (w : World) (g : Nat) (T : TypeId) (V : List Value) : Prop := w.heap[g]? = some (.cells V.toArray T (0, 0))

theorem BlkV.cell {w : World} {g : Nat} {T : TypeId} {V : List Value} (h : BlkV w g T V) {j : Nat} {x : Value} (hj : V[j]? = some x) : w.cell? ⟨g, j, none⟩ = some x := by
  rw [cell_of_row w g j _ _ _ h]
  simp [hj]
theorem BlkV.frozen {w : World} {g : Nat} {T : TypeId} {V : List Value} (h : BlkV w g T V) (i : Nat) : w.frozen? ⟨g, i, none⟩ = false := by
  unfold BlkV at h
  simp [World.frozen?, h]
theorem BlkV.lt {w : World} {g : Nat} {T : TypeId} {V : List Value} (h : BlkV w g T V) : g < w.heap.size := Go.lt_of_block h
theorem BlkV.set {w : World} {g : Nat} {T : TypeId} {V : List Value} (h : BlkV w g T V) (j : Nat) (x : Value) : BlkV (w.setCell ⟨g, j, none⟩ x) g T (V.set j x) := by
  unfold BlkV at h ⊢
  simp [World.setCell, Array.getElem?_modify, h]
theorem BlkV.chg {w w' : World} {S : List Nat} {g : Nat} {T : TypeId} {V : List Value} (h : BlkV w g T V) (hc : Chg S w w') (hg : g ∉ S) : BlkV w' g T V := hc.heap h hg

theorem blkV_of_own {w : World} {B g n cap : Nat} {T : TypeId} {V : List Value} (h : w.ownsRow B T 1 (.slice (some ⟨g, 0, none⟩) n cap) n V) (hc : cap = n) : BlkV w g T V := by
  obtain ⟨hl, h1⟩ := h
  rcases h1 with ⟨he, hn⟩ | ⟨g', cap', cur, he, _, hg, hcc, hm, hs, ht⟩
  · cases he
  · injection he with e1 e2 e3
    injection e1 with e1
    injection e1 with e1
    subst e1 e3 hc
    unfold BlkV
    rw [hg]
    have hcur : cur = V.toArray := by
      apply Array.ext'
      rw [← ht]
      simp at hl hs ⊢
      rw [List.take_of_length_le (by simp; omega)]
    rw [hcur]

theorem info_i32 : ∃ i, Try.prog.info? 21 = some i ∧ i.zero = some (.int .i32 0) ∧ i.size = 1 ∧ i.bytes = 4 :=
  info_parts (show (Try.prog.info? 21).map (fun i => (i.zero, i.size, i.bytes)) = some (some (.int .i32 0), 1, 4) by kernel_rfl)
theorem info_trail : ∃ i, Try.prog.info? 100 = some i ∧ i.zero = some (.slice none 0 0) ∧ i.size = 1 ∧ i.bytes = 24 :=
  info_parts (show (Try.prog.info? 100).map (fun i => (i.zero, i.size, i.bytes)) = some (some (.slice none 0 0), 1, 24) by kernel_rfl)

set_option maxHeartbeats 400000 in
/-- slices.Clone of a trail: nil of nil, else a row of one's own. -/
theorem clone_any (v : Value) (t : List Nat) (w : World) (hR : Reads w v (nv .i32 (rn t))) (h0 : t = [] → v = .slice none 0 0) (ht : t.length ≤ 1000) :
    Calls Try.prog 88 #[v] w fun e w' => ∃ v', e = .returned v' ∧ w'.ownsRow w.heap.size 21 1 v' t.length (nv .i32 (rn t)) ∧ Chg [] w w' ∧ (t = [] → v' = .slice none 0 0) := by
  obtain ⟨i0, hi, hz0, hz1, hz2⟩ := info_i32
  have hq : ∀ (w : World) (a : Option Addr) (n c n' c' : Nat), (binOp .eql 100 (.slice a n c) (.slice none n' c')).run Try.prog w = .ok (.bool a.isNone) w := fun w a n c n' c' => Lib.run_eql_slice_nil w _ _ a n c n' c' Try.underlying100
  by_cases hz : t = []
  · obtain rfl := h0 hz
    subst hz
    clear hR h0
    go_enter Try.func88, Try.ntmps88
    go_wp2
    go_ret
    exact ⟨_, rfl, ⟨rfl, .inl ⟨rfl, rfl⟩⟩, Chg.refl [] w, fun _ => rfl⟩
  · have hl : 0 < t.length := List.length_pos_iff.2 hz
    have HSN := Lib.hid hR.seen
    obtain ⟨ao, cap, rfl, hc1, hc2⟩ := hR.shape
    obtain ⟨g, off, rfl⟩ := hR.ptr (by simpa using hl)
    rw [nv_length, rn_length] at hc1 HSN ⊢
    clear hR h0
    have HZ := Lib.hid hz
    clear hz
    obtain ⟨m, hm⟩ : ∃ m, m = t.length := ⟨_, rfl⟩
    have HM := Lib.hid hm
    rw [← hm] at hc1 ht hl HSN ⊢
    clear hm
    have HA1 := Lib.hid (show 0 + (nv .i32 (rn t)).length ≤ maxLen by rw [nv_length, rn_length, ← HM.out]; unfold maxLen; omega)
    have HA2 := Lib.hid (show (0 + (nv .i32 (rn t)).length) * 4 ≤ 140737488355328 by rw [nv_length, rn_length, ← HM.out]; omega)
    have H0 := Lib.hid (own_lit w w.heap.size w.heap.size rfl (Nat.le_refl _) 21 #[] [] 0 1 rfl rfl (by decide))
    go_enter Try.func88, Try.ntmps88
    go_wp2_with (first
      | (at_builtin; refine wpList_append_reads _ rfl (.tmp 5) (.tmp 6) 100 100 rfl w.heap.size 21 21 i0 (.int .i32 0) 4 Try.underlying100 Try.underlying100 hi hz0 hz1 hz2 rfl (.slice (some ⟨w.heap.size, 0, none⟩) 0 0) 0 [] rfl H0.out _ (nv .i32 (rn t)) rfl (HSN.out.keep ((Chg.refl [] w).alloc _)) (nv_one _ _) HA1.out HA2.out (le_alloc (Nat.le_refl _) _) ?_; intro v2 w2 hown hg; obtain ⟨a2, c2, rfl⟩ := own_shape hown; have HO := Lib.hid hown; have HG := Lib.hid hg; clear hown hg)
      | fail)
    go_ret
    refine ⟨_, rfl, ?_, ((Chg.refl [] w).alloc _).grown HG.out (fun k hk => .inr (by simp [Value.ownBlock] at hk; omega)), fun e => absurd e HZ.out⟩
    have h := HO.out
    rw [nv_length, rn_length, Nat.zero_add, List.nil_append] at h
    rw [HM.out]
    exact h

end Go.Proofs.Ytfdmbpfpdijpdaa
