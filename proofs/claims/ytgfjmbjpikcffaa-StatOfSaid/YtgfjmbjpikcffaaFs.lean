/- Rows of structs in memory; rows of integers with a sign; a schema's fields and leaves. -/
import Derived.Test.YtgfjmbjpikcffaaNv
namespace Go.Proofs.Ytgfjmbjpikcffaa
open Go.RowKit
set_option linter.unusedVariables false

/-- A field of a schema: its name, how often, its kind, how many it has. -/
structure F where
  n : ByteArray
  r : Int
  k : Int
  c : Int
deriving DecidableEq, Inhabited

/-- A leaf. -/
structure L where
  f : Int
  r : Int
  d : Int
  k : Int
deriving DecidableEq, Inhabited

def F.cs (f : F) : List Value := [.string f.n, .int .i64 f.r, .int .i64 f.k, .int .i64 f.c]
def L.cs (l : L) : List Value := [.int .i64 l.f, .int .i64 l.r, .int .i64 l.d, .int .i64 l.k]
def ic (x : Int) : List Value := [.int .i64 x]

/-- The slice value v reads as the list l, an element taking k cells. -/
def SeenK {α : Type} (enc : α → List Value) (k : Nat) (w : World) (v : Value) (l : List α) : Prop :=
  ∃ ao cap, v = .slice ao l.length cap ∧ l.length ≤ cap ∧ cap ≤ maxLen ∧ (0 < l.length → ∃ g off, ao = some ⟨g, off, none⟩ ∧ ∀ j x i u, l[j]? = some x → (enc x)[i]? = some u → w.cell? ⟨g, off + j * k + i, none⟩ = some u)

theorem SeenK.shape {α : Type} {enc : α → List Value} {k : Nat} {w : World} {v : Value} {l : List α} (h : SeenK enc k w v l) : ∃ ao cap, v = .slice ao l.length cap ∧ l.length ≤ cap ∧ cap ≤ maxLen := by
  obtain ⟨ao, cap, h1, h2, h3, _⟩ := h
  exact ⟨ao, cap, h1, h2, h3⟩

theorem SeenK.keep {α : Type} {enc : α → List Value} {k : Nat} {w w' : World} {v : Value} {l : List α} (h : SeenK enc k w v l) (hc : Chg [] w w') : SeenK enc k w' v l := by
  obtain ⟨ao, cap, h1, h2, h3, h4⟩ := h
  refine ⟨ao, cap, h1, h2, h3, fun hn => ?_⟩
  obtain ⟨g, off, e, h5⟩ := h4 hn
  exact ⟨g, off, e, fun j x i u hx hu => hc.cell (h5 j x i u hx hu) (by simp)⟩

theorem SeenK.at {α : Type} {enc : α → List Value} {k : Nat} {w : World} {ao : Option Addr} {n cap : Nat} {l : List α} (h : SeenK enc k w (.slice ao n cap) l) (hn : 0 < n) :
    ∃ g off, ao = some ⟨g, off, none⟩ ∧ ∀ j x i u, l[j]? = some x → (enc x)[i]? = some u → w.cell? ⟨g, off + j * k + i, none⟩ = some u := by
  obtain ⟨ao', cap', h1, h2, h3, h4⟩ := h
  injection h1 with e1 e2 e3
  subst e1
  exact h4 (by omega)

abbrev SeenF := SeenK F.cs 4
abbrev SeenL := SeenK L.cs 4
abbrev SeenI := SeenK ic 1

/-- The four cells of a field. -/
theorem SeenF.cells {w : World} {g off : Nat} {l : List F} (h : ∀ j x i u, l[j]? = some x → (F.cs x)[i]? = some u → w.cell? ⟨g, off + j * 4 + i, none⟩ = some u) {j : Nat} {f : F} (hj : l[j]? = some f) :
    w.cell? ⟨g, off + j * 4, none⟩ = some (.string f.n) ∧ w.cell? ⟨g, off + j * 4 + 1, none⟩ = some (.int .i64 f.r) ∧ w.cell? ⟨g, off + j * 4 + 2, none⟩ = some (.int .i64 f.k) ∧ w.cell? ⟨g, off + j * 4 + 3, none⟩ = some (.int .i64 f.c) :=
  ⟨h j f 0 _ hj rfl, h j f 1 _ hj rfl, h j f 2 _ hj rfl, h j f 3 _ hj rfl⟩

theorem SeenL.cells {w : World} {g off : Nat} {l : List L} (h : ∀ j x i u, l[j]? = some x → (L.cs x)[i]? = some u → w.cell? ⟨g, off + j * 4 + i, none⟩ = some u) {j : Nat} {f : L} (hj : l[j]? = some f) :
    w.cell? ⟨g, off + j * 4, none⟩ = some (.int .i64 f.f) ∧ w.cell? ⟨g, off + j * 4 + 1, none⟩ = some (.int .i64 f.r) ∧ w.cell? ⟨g, off + j * 4 + 2, none⟩ = some (.int .i64 f.d) ∧ w.cell? ⟨g, off + j * 4 + 3, none⟩ = some (.int .i64 f.k) :=
  ⟨h j f 0 _ hj rfl, h j f 1 _ hj rfl, h j f 2 _ hj rfl, h j f 3 _ hj rfl⟩

theorem SeenI.cell {w : World} {g off : Nat} {l : List Int} (h : ∀ j x i u, l[j]? = some x → (ic x)[i]? = some u → w.cell? ⟨g, off + j * 1 + i, none⟩ = some u) {j : Nat} {f : Int} (hj : l[j]? = some f) :
    w.cell? ⟨g, off + j, none⟩ = some (.int .i64 f) := by simpa using h j f 0 _ hj rfl

/-- A scope in which three pieces of code stand ahead of the label to which it jumps. -/
theorem wp_scope_pre3 {P : Program} {a : Act} {w : World} {Q : Exit → Act → World → Prop} {pre pre2 pre3 rest : Code} (l : Nat) (J : Act → World → Prop) (m : Act → World → Nat) (hf : findLabel (.seq pre (.seq pre2 (.seq pre3 (.seq (.label l) rest)))) l = some (.seq .skip rest))
    (h0 : pre.wp P (Exit.then (fun a w => pre2.wp P (Exit.then (fun a w => pre3.wp P (Exit.then J (fun _ _ _ => False)) a w) (fun _ _ _ => False)) a w) (fun _ _ _ => False)) a w)
    (pass : ∀ a w, J a w → rest.wp P (Exit.jump l (fun a' w' => J a' w' ∧ m a' w' < m a w) Q) a w) : (Code.scope (.seq pre (.seq pre2 (.seq pre3 (.seq (.label l) rest))))).wp P Q a w := by
  refine wp_scope_jumps l J m hf (wp_seq (wp_mono h0 fun e a' w' h => ?_)) fun a' w' h => wp_seq (wp_skip (pass a' w' h))
  cases e with
  | normal =>
    refine wp_seq (wp_mono h fun e a' w' h => ?_)
    cases e with
    | normal =>
      refine wp_seq (wp_mono h fun e a' w' h => ?_)
      cases e with
      | normal =>
        refine wp_seq (wp_label (wp_mono (pass a' w' h) fun e a' w' h => ?_))
        cases e with
        | goto l' => exact ⟨h.1, h.2.1⟩
        | _ => exact h
      | _ => exact h.elim
    | _ => exact h.elim
  | _ => exact h.elim

/-- A row of integers, as values. -/
def iv (l : List Int) : List Value := l.map (.int .i64)
@[simp] theorem iv_length (l : List Int) : (iv l).length = l.length := by simp [iv]

/-- Block g is the row l of integers. -/
def BlkI (w : World) (g : Nat) (l : List Int) : Prop := w.heap[g]? = some (.cells (iv l).toArray 3 (0, 0))

theorem BlkI.cell {w : World} {g : Nat} {l : List Int} (h : BlkI w g l) {j : Nat} {x : Int} (hj : l[j]? = some x) : w.cell? ⟨g, j, none⟩ = some (.int .i64 x) := by
  rw [cell_of_row w g j _ _ _ h]
  simp [iv, hj]

theorem BlkI.frozen {w : World} {g : Nat} {l : List Int} (h : BlkI w g l) (i : Nat) : w.frozen? ⟨g, i, none⟩ = false := by
  unfold BlkI at h
  simp [World.frozen?, h]

theorem BlkI.lt {w : World} {g : Nat} {l : List Int} (h : BlkI w g l) : g < w.heap.size := Go.lt_of_block h

theorem BlkI.set {w : World} {g : Nat} {l : List Int} (h : BlkI w g l) (j : Nat) (x : Int) : BlkI (w.setCell ⟨g, j, none⟩ (.int .i64 x)) g (l.set j x) := by
  unfold BlkI at h ⊢
  simp [World.setCell, Array.getElem?_modify, h, iv, List.map_set]

theorem BlkI.far {w : World} {g : Nat} {l : List Int} (h : BlkI w g l) {p : Addr} (hp : g ≠ p.block) (u : Value) : BlkI (w.setCell p u) g l := (Below.heap_setCell w p u g hp).trans h

theorem BlkI.chg {w w' : World} {S : List Nat} {g : Nat} {l : List Int} (h : BlkI w g l) (hc : Chg S w w') (hg : g ∉ S) : BlkI w' g l := hc.heap h hg

theorem BlkI.seen {w : World} {g : Nat} {l : List Int} (h : BlkI w g l) (hm : l.length ≤ maxLen) : SeenI w (.slice (some ⟨g, 0, none⟩) l.length l.length) l :=
  ⟨_, _, rfl, Nat.le_refl _, hm, fun _ => ⟨g, 0, rfl, fun j x i u hx hu => by
    have hi : i = 0 := by
      cases i with
      | zero => rfl
      | succ i => simp [ic] at hu
    subst hi
    simp [ic] at hu
    subst hu
    simpa using h.cell hx⟩⟩

theorem blkI_of_own {w : World} {B g n cap : Nat} {l : List Int} (h : w.ownsRow B 3 1 (.slice (some ⟨g, 0, none⟩) n cap) n (iv l)) (hc : cap = n) : BlkI w g l := by
  obtain ⟨hl, h1⟩ := h
  rcases h1 with ⟨he, hn⟩ | ⟨g', cap', cur, he, _, hg, hcc, hm, hs, ht⟩
  · cases he
  · injection he with e1 e2 e3
    injection e1 with e1
    injection e1 with e1
    subst e1 e3 hc
    unfold BlkI
    rw [hg]
    have hcur : cur = (iv l).toArray := by
      apply Array.ext'
      rw [← ht]
      simp at hl hs ⊢
      rw [List.take_of_length_le (by simp; omega)]
    rw [hcur]

theorem info_int : ∃ i, Try.prog.info? 3 = some i ∧ i.zero = some (.int .i64 0) ∧ i.size = 1 ∧ i.bytes = 8 :=
  info_parts (show (Try.prog.info? 3).map (fun i => (i.zero, i.size, i.bytes)) = some (some (.int .i64 0), 1, 8) by kernel_rfl)

theorem cells_zeroi (n : Nat) : (madeCells #[Value.int .i64 0] n).toList = iv (List.replicate n 0) := by
  rw [toList_madeCells_one]; simp [iv]

end Go.Proofs.Ytgfjmbjpikcffaa
