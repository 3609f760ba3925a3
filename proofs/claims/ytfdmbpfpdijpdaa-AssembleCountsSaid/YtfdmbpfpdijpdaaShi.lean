/- shred.Columns: what is known once so many leaves have their columns. -/
import Derived.Test.YtfdmbpfpdijpdaaShh
import Derived.Test.YtfdmbpfpdijpdaaShg
import Derived.Test.YtfdmbpfpdijpdaaShf
namespace Go.Proofs.Ytfdmbpfpdijpdaa
open Go.RowKit
set_option linter.unusedVariables false
set_option linter.unusedSimpArgs false

theorem leaf_field {l : List F} {x : L} (h : x ∈ leavesL l) : ∃ k : Nat, k < l.length ∧ x.f = k := by
  unfold leavesL leavesTo at h
  rw [List.mem_flatMap] at h
  obtain ⟨k, hk, hx⟩ := h
  refine ⟨k, by simpa using hk, ?_⟩
  unfold leafAt at hx
  split at hx
  · simp at hx; rw [hx]
  · simp at hx

theorem lways_len (l : List F) : (lways l).length = (leavesL l).length := by unfold lways; rw [List.length_map]

theorem lways_at {l : List F} {i k : Nat} {x : L} (h : (leavesL l)[i]? = some x) (hk : x.f = (k : Int)) : (lways l)[i]? = some ((wayTo l l.length).getD k []) := by
  unfold lways
  rw [List.getElem?_map, h, Option.map_some, hk, Int.toNat_natCast]

/-- A column's three rows, and between which blocks they lie. -/
structure C3 where
  rv : Value
  dv : Value
  vv : Value
  lo : Nat
  hi : Nat
def encC (e : C3) : List Value := [e.rv, e.dv, e.vv]
theorem encC_len (e : C3) : (encC e).length = 3 := rfl
def C3.nil : C3 := ⟨.slice none 0 0, .slice none 0 0, .slice none 0 0, 0, 0⟩
/-- The column of these cells. -/
structure C3.At (e : C3) (lf : L) (C : List Cl) (w : World) : Prop where
  t : Tri e.lo e.rv e.dv e.vv (colR C) (colD C) (colV lf.d C) C.length C.length (colV lf.d C).length w
  s : e.hi ≤ w.heap.size
  g : ∀ g, e.rv.ownBlock = some g ∨ e.dv.ownBlock = some g ∨ e.vv.ownBlock = some g → g < e.hi

theorem C3.At.keep {e : C3} {lf : L} {C : List Cl} {w w' : World} {T : List Nat} (h : e.At lf C w) (hc : Chg T w w') (hT : ∀ g, e.lo ≤ g → g < e.hi → g ∉ T) : e.At lf C w' :=
  ⟨h.t.keep hc (fun g hg => hT g (by rcases hg with hg | hg | hg; exact own_ge h.t.r g hg; exact own_ge h.t.d g hg; exact own_ge h.t.v g hg) (h.g g hg)), Nat.le_trans h.s hc.size, h.g⟩

/-- Once i leaves have their columns. -/
structure CJ (Ls : List L) (WS : List (List Stp)) (L0 : List Tr) (w wi : World) (gc N i : Nat) (R : List C3) : Prop where
  lr : R.length = N
  bw : wi.heap[gc]? = some (.cells (R.flatMap encC).toArray 42 (0, 0))
  tr : ∀ j e, j < i → R[j]? = some e → ∃ lf W, Ls[j]? = some lf ∧ WS[j]? = some W ∧ e.At lf (colC W L0) wi ∧ gc < e.lo
  pw : ∀ j k ej ek, j < k → k < i → R[j]? = some ej → R[k]? = some ek → ej.hi ≤ ek.lo
  nz : ∀ j, i ≤ j → j < N → R[j]? = some C3.nil
  cw : Chg [] w wi
  gl : w.heap.size ≤ gc ∧ gc < wi.heap.size

theorem flat_set3c {α : Type} {enc : α → List Value} (hk : ∀ x, (enc x).length = 3) : ∀ (l : List α) (i : Nat) (e : α) (a b c : Value), enc e = [a, b, c] → (l.set i e).flatMap enc = (((l.flatMap enc).set (i * 3) a).set (i * 3 + 1) b).set (i * 3 + 2) c
  | [], i, e, a, b, c, _ => by simp
  | x :: l, 0, e, a, b, c, h => by
    have hx := hk x
    match hx2 : enc x, hx with
    | [p, q, r], _ => simp [hx2, h]
  | x :: l, i + 1, e, a, b, c, h => by
    rw [List.set_cons_succ, List.flatMap_cons, List.flatMap_cons, flat_set3c hk l i e a b c h]
    rw [List.set_append_right _ _ (by rw [hk]; omega), hk, show (i + 1) * 3 - 3 = i * 3 by omega, List.set_append_right _ _ (by rw [hk]; omega), hk, show (i + 1) * 3 + 1 - 3 = i * 3 + 1 by omega, List.set_append_right _ _ (by rw [hk]; omega), hk, show (i + 1) * 3 + 2 - 3 = i * 3 + 2 by omega]

theorem CJ.next {Ls : List L} {WS : List (List Stp)} {L0 : List Tr} {w wr w9 : World} {gc N i B : Nat} {R : List C3} {rv dv vv : Value} {lf : L} {W : List Stp} (h : CJ Ls WS L0 w wr gc N i R) (hi : i < N) (hl : Ls[i]? = some lf) (hW : WS[i]? = some W) (hc : Chg [] wr w9)
    (ht : Tri B rv dv vv (colR (colC W L0)) (colD (colC W L0)) (colV lf.d (colC W L0)) (colC W L0).length (colC W L0).length (colV lf.d (colC W L0)).length w9) (hB : wr.heap.size ≤ B) :
    CJ Ls WS L0 w (((w9.setCell ⟨gc, i * 3, none⟩ rv).setCell ⟨gc, i * 3 + 1, none⟩ dv).setCell ⟨gc, i * 3 + 2, none⟩ vv) gc N (i + 1) (R.set i ⟨rv, dv, vv, B, w9.heap.size⟩) := by
  have hgl := h.gl
  have hcc : Chg [gc] w9 (((w9.setCell ⟨gc, i * 3, none⟩ rv).setCell ⟨gc, i * 3 + 1, none⟩ dv).setCell ⟨gc, i * 3 + 2, none⟩ vv) :=
    (((Chg.refl [gc] w9).setCell (.inl (by simp)) _).setCell (.inl (by simp)) _).setCell (.inl (by simp)) _
  have hA : C3.At ⟨rv, dv, vv, B, w9.heap.size⟩ lf (colC W L0) w9 := ⟨ht, Nat.le_refl _, fun g hg => by
    rcases hg with hg | hg | hg
    · exact (ht.r.lt g hg).2
    · exact (ht.d.lt g hg).2
    · exact (ht.v.lt g hg).2⟩
  refine ⟨by rw [List.length_set]; exact h.lr, ?_, ?_, ?_, ?_, ?_, ⟨hgl.1, Nat.lt_of_lt_of_le hgl.2 (Nat.le_trans hc.size hcc.size)⟩⟩
  · have h1 := heap_set (i := i * 3) (hc.heap h.bw (by simp)) rv
    have h2 := heap_set (i := i * 3 + 1) h1 dv
    have h3 := heap_set (i := i * 3 + 2) h2 vv
    rw [h3, flat_set3c encC_len R i ⟨rv, dv, vv, B, w9.heap.size⟩ rv dv vv rfl]
    simp
  · intro j e hj he
    by_cases ej : j = i
    · subst ej
      rw [List.getElem?_set_self (by rw [h.lr]; exact hi)] at he
      injection he with he
      subst he
      exact ⟨lf, W, hl, hW, hA.keep hcc (fun g hg _ hm => by simp at hm; simp at hg; omega), by simp; omega⟩
    · rw [List.getElem?_set_ne (by omega)] at he
      obtain ⟨lf', W', a1, a2, a3, a4⟩ := h.tr j e (by omega) he
      exact ⟨lf', W', a1, a2, (a3.keep hc (by simp)).keep hcc (fun g hg _ hm => by simp at hm; omega), a4⟩
  · intro j k ej ek hjk hk h1 h2
    rw [List.getElem?_set_ne (by omega)] at h1
    by_cases e : k = i
    · subst e
      rw [List.getElem?_set_self (by rw [h.lr]; exact hi)] at h2
      injection h2 with h2
      subst h2
      obtain ⟨_, _, _, _, a3, _⟩ := h.tr j ej hjk h1
      exact Nat.le_trans a3.s hB
    · rw [List.getElem?_set_ne (by omega)] at h2
      exact h.pw j k ej ek hjk (by omega) h1 h2
  · intro j hj hjn
    rw [List.getElem?_set_ne (by omega)]
    exact h.nz j (by omega) hjn
  · exact (((h.cw.trans hc (by simp)).setCell (.inr hgl.1) _).setCell (.inr hgl.1) _).setCell (.inr hgl.1) _

theorem cells_cols (n : Nat) : (madeCells #[.slice none 0 0, .slice none 0 0, .slice none 0 0] (n * 3)).toList = (List.replicate n C3.nil).flatMap encC := by
  apply List.ext_getElem?
  intro j
  by_cases hj : j < n * 3
  · have key : ∀ u, (encC C3.nil)[j % 3]? = some u → ((List.replicate n C3.nil).flatMap encC)[j]? = some u := fun u hu => by
      have h := flat_get encC_len (List.replicate n C3.nil) (j / 3) C3.nil (j % 3) u (by rw [List.getElem?_replicate, if_pos (by omega)]) hu
      rwa [show j / 3 * 3 + j % 3 = j by omega] at h
    have h3 : j % 3 = 0 ∨ j % 3 = 1 ∨ j % 3 = 2 := by omega
    rcases h3 with h3 | h3 | h3
    all_goals
      rw [h3] at key
      rw [key _ rfl]
      simp [madeCells, hj, h3]
    all_goals rfl
  · rw [List.getElem?_eq_none (by simp [madeCells]; omega), List.getElem?_eq_none (by rw [flat_length encC_len]; simp; omega)]

theorem blk_of_own3 {w : World} {B T g n cap size : Nat} {xs : List Value} (h : w.ownsRow B T size (.slice (some ⟨g, 0, none⟩) n cap) n xs) (hc : cap = n) : w.heap[g]? = some (.cells xs.toArray T (0, 0)) := blk_of_own2 h hc

theorem info_col : ∃ i, Try.prog.info? 42 = some i ∧ i.zero = some (.agg #[.slice none 0 0, .slice none 0 0, .slice none 0 0]) ∧ i.size = 3 ∧ i.bytes = 72 :=
  info_parts (show (Try.prog.info? 42).map (fun i => (i.zero, i.size, i.bytes)) = some (some (.agg #[.slice none 0 0, .slice none 0 0, .slice none 0 0]), 3, 72) by kernel_rfl)

/-- What shred.Columns gives. -/
def ColsOut (l : List F) (L0 : List Tr) (w : World) (e : Ending) (w' : World) : Prop :=
  Chg [] w w' ∧
  if 200 < L0.length then e = .returned (.tuple #[.slice none 0 0, .int .i64 4])
  else if faultT l L0 ≠ 0 then e = .returned (.tuple #[.slice none 0 0, .int .i64 (faultT l L0)])
  else if ∀ W ∈ lways l, (colC W L0).length ≤ 4000 then ∃ gc R, e = .returned (.tuple #[.slice (some ⟨gc, 0, none⟩) (leavesL l).length (leavesL l).length, .int .i64 0]) ∧ CJ (leavesL l) (lways l) L0 w w' gc (leavesL l).length (leavesL l).length R
  else e = .returned (.tuple #[.slice none 0 0, .int .i64 4])

end Go.Proofs.Ytfdmbpfpdijpdaa
