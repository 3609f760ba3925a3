/- shred: the cells at the end of a way, one by one. -/
import Derived.Test.YtfdmbpfpdijpdaaSha
import Derived.Test.YtfdmbpfpdijpdaaA1
import Derived.Test.YtfdmbpfpdijpdaaYA
import Derived.Lib.OthersKept
import Derived.RangeFuncNested
import Derived.RangeFuncBound
import Derived.RangeFuncCalls
import Derived.OwnWalkIn
import Derived.TacticsInMore
import Derived.LoopNIn
import Derived.LoopIn
namespace Go.Proofs.Ytfdmbpfpdijpdaa
open Go.RowKit
set_option linter.unusedVariables false
set_option linter.unusedSimpArgs false

/-- A fork's four cells. -/
def encK (e : Fk × Value) : List Value := [e.2, .int .i64 (e.1.p : Int), .int .i64 (e.1.r : Int), .int .i64 (e.1.d : Int)]
theorem encK_len (e : Fk × Value) : (encK e).length = 4 := rfl

/-- A way's signs, and its places. -/
def sgn (k : Int) : Nat := if k = 1 then 63 else if k = 2 then 42 else 33
def sgs (W : List Stp) : List Nat := W.map fun s => sgn s.2
def plc (W : List Stp) : List Int := W.map fun s => (s.1 : Int)
@[simp] theorem sgs_length (W : List Stp) : (sgs W).length = W.length := by simp [sgs]
@[simp] theorem plc_length (W : List Stp) : (plc W).length = W.length := by simp [plc]
theorem sgn_lt (k : Int) : sgn k < 128 := by
  unfold sgn
  split
  · decide
  · split <;> decide
theorem sgs_lt (W : List Stp) : ∀ c ∈ sgs W, c < 256 := by
  intro c hc
  obtain ⟨s, _, rfl⟩ := List.mem_map.1 hc
  have := sgn_lt s.2
  omega

theorem str_drop {l : List Nat} (hl : ∀ c ∈ l, c < 256) (a n : Nat) (hn : n = l.length) : (str l).extract a n = str (l.drop a) := by
  rw [extract_str _ _ _ (by rw [str_size]; omega), bl_str hl, List.take_of_length_le (by omega)]

theorem elem_forks : Try.prog.elem 174 = 173 := by kernel_rfl
theorem elem_trees : Try.prog.elem 28 = 57 := by kernel_rfl

/-- l[1:] of a list of trees. -/
theorem ListAt.tail {w : World} {d n cap : Nat} {x : Tr} {X : List Tr} {ao : Option Addr} (h : ListAt w d (x :: X) (.slice ao n cap)) :
    ∃ ao' cap', ListAt w d X (.slice ao' (n - 1) cap') ∧ ∀ wx, (Instr.slice 28 (.slice ao n cap) (some (.int .i64 1)) none none).run Try.prog wx = .ok (.slice ao' (n - 1) cap') wx := by
  obtain ⟨E, h1, h2, h3⟩ := h
  obtain ⟨ao', cap', he, hc, hm⟩ := h2.shape
  injection he with e1 e2 e3
  subst e1 e3
  cases E with
  | nil => simp at h1
  | cons e E =>
    simp at h1 e2
    subst e2
    have hs := h2.sliced 1 (E.length + 1) (by omega) (Nat.le_refl _)
    have ht : ((e :: E).take (E.length + 1)).drop 1 = E := by simp
    rw [ht] at hs
    obtain ⟨i0, hi0, _, hz1, _⟩ := info_tree
    have hrun : ∀ wx, (Instr.slice 28 (.slice ao (E.length + 1) cap) (some (.int .i64 1)) none none).run Try.prog wx = .ok (Go.sliced ao 1 (E.length + 1) cap 3) wx := fun wx => by
      have h := run_slice_l wx 28 ao (E.length + 1) cap (by rw [elem_trees]; exact Try.underlying28) .i64 1 (by omega) (by simp at hc; omega)
      rw [elem_trees] at h
      refine Eq.trans h ?_
      simp [sizeOf, typeInfo, hi0, hz1, Go.sliced]
    obtain ⟨so, sc, hse, -, -⟩ := hs.shape
    rw [hse] at hs hrun
    exact ⟨so, sc, ⟨E, h1.2, hs, fun q hq => h3 q (by simp [hq])⟩, hrun⟩

theorem own_shrink {w : World} {B T size n m cap : Nat} {ao : Option Addr} {xs : List Value} (h : w.ownsRow B T size (.slice ao n cap) n xs) (hm : m ≤ n) : w.ownsRow B T size (.slice ao m cap) m (xs.take (m * size)) := by
  obtain ⟨hl, h1⟩ := h
  have hle : m * size ≤ n * size := Nat.mul_le_mul_right _ hm
  refine ⟨by rw [List.length_take]; omega, ?_⟩
  rcases h1 with ⟨he, hn⟩ | ⟨g', cap', cur, he, hb, hg, hc, hmx, hs, ht⟩
  · injection he with e1 e2 e3
    subst e1 e3
    refine .inl ⟨by rw [show m = 0 by omega], by omega⟩
  · injection he with e1 e2 e3
    subst e1 e3
    exact .inr ⟨g', cap, cur, rfl, hb, hg, by omega, hmx, hs, by rw [← ht, List.take_take, Nat.min_eq_left hle]⟩

theorem info_fork : ∃ i, Try.prog.info? 173 = some i ∧ i.zero = some (.agg #[.slice none 0 0, .int .i64 0, .int .i64 0, .int .i64 0]) ∧ i.size = 4 ∧ i.bytes = 48 :=
  info_parts (show (Try.prog.info? 173).map (fun i => (i.zero, i.size, i.bytes)) = some (some (.agg #[.slice none 0 0, .int .i64 0, .int .i64 0, .int .i64 0]), 4, 48) by kernel_rfl)

/-- What an iterator reads lies as it lay; S are the blocks that the rounds write. -/
structure KI (w0 : World) (b1 b2 : Nat) (lv pv : Value) (sg : ByteArray) (S : List Nat) (A : World) : Prop where
  c : Chg [] w0 A
  c1 : A.cell? ⟨b1, 0, none⟩ = some lv
  c2 : A.cell? ⟨b2, 0, none⟩ = some pv
  c3 : A.cell? ⟨b2, 1, none⟩ = some (.string sg)
  n1 : b1 ∉ S
  n2 : b2 ∉ S
  sB : ∀ k ∈ S, w0.heap.size ≤ k ∧ k < A.heap.size

theorem KI.lt1 {w0 : World} {b1 b2 : Nat} {lv pv : Value} {sg : ByteArray} {S : List Nat} {A : World} (h : KI w0 b1 b2 lv pv sg S A) : b1 < A.heap.size := World.block_lt_of_cell? A _ h.c1
theorem KI.lt2 {w0 : World} {b1 b2 : Nat} {lv pv : Value} {sg : ByteArray} {S : List Nat} {A : World} (h : KI w0 b1 b2 lv pv sg S A) : b2 < A.heap.size := World.block_lt_of_cell? A _ h.c2

/-- The iterator changes blocks of its own. -/
theorem KI.step {w0 : World} {b1 b2 : Nat} {lv pv : Value} {sg : ByteArray} {S T : List Nat} {A B : World} (h : KI w0 b1 b2 lv pv sg S A) (hc : Chg T A B) (hT : ∀ k ∈ T, w0.heap.size ≤ k ∧ k ≠ b1 ∧ k ≠ b2) : KI w0 b1 b2 lv pv sg S B :=
  ⟨h.c.trans hc (fun k hk => .inr (hT k hk).1), hc.cell h.c1 (fun hk => (hT _ hk).2.1 rfl), hc.cell h.c2 (fun hk => (hT _ hk).2.2 rfl), hc.cell h.c3 (fun hk => (hT _ hk).2.2 rfl), h.n1, h.n2, fun k hk => ⟨(h.sB k hk).1, Nat.lt_of_lt_of_le (h.sB k hk).2 hc.size⟩⟩

/-- A round was made. -/
theorem KI.round {w0 : World} {b1 b2 : Nat} {lv pv : Value} {sg : ByteArray} {S S' : List Nat} {A B : World} (h : KI w0 b1 b2 lv pv sg S A) (hc : Chg S A B) (hS : ∀ k ∈ S', (k ∈ S ∨ A.heap.size ≤ k) ∧ k < B.heap.size) : KI w0 b1 b2 lv pv sg S' B := by
  have h1 := h.lt1
  have h2 := h.lt2
  refine ⟨h.c.trans hc (fun k hk => .inr (h.sB k hk).1), hc.cell h.c1 h.n1, hc.cell h.c2 h.n2, hc.cell h.c3 h.n2, fun hk => ?_, fun hk => ?_, fun k hk => ⟨?_, (hS k hk).2⟩⟩
  · rcases (hS _ hk).1 with h3 | h3
    · exact h.n1 h3
    · omega
  · rcases (hS _ hk).1 with h3 | h3
    · exact h.n2 h3
    · omega
  · rcases (hS k hk).1 with h3 | h3
    · exact (h.sB k h3).1
    · exact Nat.le_trans h.c.size h3

/-- The row of forks. -/
structure FRk (w0 : World) (B : Nat) (W : List Stp) (fv : Value) (n : Nat) (E : List (Fk × Value)) (S : List Nat) (A : World) : Prop where
  o : A.ownsRow B 173 4 fv n (E.flatMap encK)
  n : E.length = n
  l : ∀ e ∈ E, ∃ dd, ListAt w0 dd e.1.left e.2
  s : ∀ g, fv.ownBlock = some g → g ∉ S
  k : ∀ e ∈ E, FkOk W e.1
  p : ∀ (j : Nat) (e : Fk × Value), E[j]? = some e → j ≤ e.1.p
  q : ∀ e ∈ E, e.1.r ≤ e.1.p ∧ e.1.d ≤ e.1.p

theorem FRk.keep {w0 : World} {B : Nat} {W : List Stp} {fv : Value} {n : Nat} {E : List (Fk × Value)} {S T : List Nat} {A A' : World} (h : FRk w0 B W fv n E S A) (hc : Chg T A A') (hT : ∀ g, fv.ownBlock = some g → g ∉ T) : FRk w0 B W fv n E S A' :=
  ⟨own_chg h.o hc hT, h.n, h.l, h.s, h.k, h.p, h.q⟩

/-- How it stands on the way down: b is the fork's copy, b + 1 the cell, b + 2 the signs' walk. -/
structure DS (w0 : World) (B b1 b2 b fp fr fd : Nat) (flv lv pv : Value) (sg : ByteArray) (W : List Stp) (S : List Nat) (JP : World → Prop) (fv : Value) (E : List (Fk × Value)) (A : World) : Prop where
  ki : KI w0 b1 b2 lv pv sg S A
  j : JP A
  ro : FRk w0 B W fv E.length E S A
  fb : A.heap[b]? = some (.cells #[flv, .int .i64 (fp : Int), .int .i64 (fr : Int), .int .i64 (fd : Int)] 173 (0, 0))
  bS : ∀ k ∈ S, k < b
  bb : b1 < b ∧ b2 < b ∧ w0.heap.size ≤ b
  own : ∀ g, fv.ownBlock = some g → g < b ∨ b + 2 < g

theorem DS.turn {w0 : World} {B b1 b2 b fp fr fd : Nat} {flv lv pv : Value} {sg : ByteArray} {W : List Stp} {S T : List Nat} {JP : World → Prop} {fv : Value} {E : List (Fk × Value)} {A A' : World} (h : DS w0 B b1 b2 b fp fr fd flv lv pv sg W S JP fv E A)
    (hJ : ∀ A A' T, JP A → Chg T A A' → (∀ k ∈ T, k ∉ S) → JP A') (hc : Chg T A A') (hT : ∀ k ∈ T, b < k ∧ k ≤ b + 2) : DS w0 B b1 b2 b fp fr fd flv lv pv sg W S JP fv E A' := by
  obtain ⟨h1, h2, h3⟩ := h.bb
  have hS : ∀ k ∈ T, k ∉ S := fun k hk hs => by have := hT k hk; have := h.bS k hs; omega
  exact ⟨h.ki.step hc fun k hk => by have := hT k hk; omega, hJ _ _ _ h.j hc hS, h.ro.keep hc fun g hg hm => by have := hT g hm; have := h.own g hg; omega, hc.heap h.fb fun hm => by have := hT b hm; omega, h.bS, h.bb, h.own⟩

/-- What is asked of the rounds. -/
structure Rounds (w0 : World) (l : Nat) (TOT : List Cl) (J : List Cl → List Nat → World → Prop) (Jx : World → Prop) : Prop where
  keep : ∀ pre S A B T, J pre S A → Chg T A B → (∀ t ∈ T, t ∉ S) → J pre S B
  at' : ∀ pre S A, J pre S A → ∀ k ∈ S, k < A.heap.size
  yield : ∀ pre S x post dd kv A, J pre S A → TOT = pre ++ x :: post → Chg [] w0 A → KidsAt w0 dd x.t.k kv →
    YieldAt Fence.wide 0 Try.prog l #[.agg #[.int .i64 (x.r : Int), .int .i64 (x.d : Int), .int .i64 x.t.n, .string x.t.s, kv]] A fun e B =>
      (e = .returned (.bool true) ∧ ∃ S', J (pre ++ [x]) S' B ∧ Chg S A B ∧ ∀ k ∈ S', k ∈ S ∨ A.heap.size ≤ k) ∨ (e = .returned (.bool false) ∧ Jx B ∧ Chg S A B)

abbrev KF (l b1 b2 : Nat) (fv : Value) (u : Nat → Value) : Act :=
  { tmps := #[.func (.yield l) #[] #[], .pointer (some ⟨b1, 0, none⟩), .pointer (some ⟨b2, 0, none⟩), u 3, fv, u 5, u 6, u 7, u 8, u 9, u 10, u 11, u 12, u 13, u 14, u 15, u 16, u 17, u 18, u 19, u 20, u 21, u 22, u 23, u 24, u 25, u 26, u 27, u 28, u 29, u 30, u 31, u 32, u 33, u 34, u 35, u 36, u 37, u 38, u 39, u 40, u 41, u 42, u 43, u 44, u 45, u 46, u 47, u 48, u 49, u 50, u 51, u 52, u 53, u 54, u 55, u 56, u 57, u 58, u 59, u 60, u 61, u 62, u 63, u 64, u 65, u 66, u 67, u 68, u 69, u 70, u 71, u 72, u 73, u 74, u 75, u 76, u 77, u 78, u 79, u 80, u 81, u 82, u 83, u 84, u 85, u 86, u 87, u 88, u 89, u 90, u 91, u 92, u 93, u 94, u 95, u 96, u 97, u 98, u 99, u 100, u 101, u 102, u 103, u 104, u 105, u 106, u 107, u 108], defers := [] }

def itpS (w : World) (g : Nat) : Nat := match w.heap[g]? with | some (.stringIter _ p) => p | _ => 0
theorem itpS_of {w : World} {g p : Nat} {s : ByteArray} (h : w.heap[g]? = some (.stringIter s p)) : itpS w g = p := by unfold itpS; rw [h]

theorem KF_of {l b1 b2 : Nat} {fv : Value} {a : Act} (h : a = KF l b1 b2 fv (fun j => a.tmps.getD j undef)) : ∃ u, a = KF l b1 b2 fv u := ⟨_, h⟩

theorem FRk.pop {w0 : World} {B : Nat} {W : List Stp} {g k fc : Nat} {E0 : List (Fk × Value)} {e : Fk × Value} {S : List Nat} {A A' : World} (h : FRk w0 B W (.slice (some ⟨g, 0, none⟩) (k + 1) fc) (k + 1) (E0 ++ [e]) S A) (hk : k = E0.length) (hc : Chg [] A A') : FRk w0 B W (.slice (some ⟨g, 0, none⟩) k fc) k E0 S A' := by
  refine ⟨?_, hk.symm, fun e he => h.l e (by simp [he]), h.s, fun e he => h.k e (by simp [he]), fun j e he => h.p j e ?_, fun e he => h.q e (by simp [he])⟩
  · have h1 := own_chg (own_shrink h.o (Nat.le_succ k)) hc (by simp)
    rw [List.flatMap_append, List.take_left' (by rw [flat_length encK_len, hk])] at h1
    exact h1
  · rw [List.getElem?_append_left (List.getElem?_eq_some_iff.1 he).1]; exact he

theorem FRk.round {w0 : World} {B : Nat} {W : List Stp} {fv : Value} {n : Nat} {E : List (Fk × Value)} {S S' : List Nat} {A A' : World} (h : FRk w0 B W fv n E S A) (hc : Chg S A A') (hS : ∀ k ∈ S', k ∈ S ∨ A.heap.size ≤ k) : FRk w0 B W fv n E S' A' :=
  ⟨own_chg h.o hc h.s, h.n, h.l, fun g hg hm => by
    rcases hS g hm with h1 | h1
    · exact h.s g hg h1
    · have := (h.o.lt g hg).2
      omega, h.k, h.p, h.q⟩

theorem FRk.top {w0 : World} {B : Nat} {W : List Stp} {g k fc p r d : Nat} {E0 : List (Fk × Value)} {Y X : List Tr} {yv tv : Value} {S : List Nat} {A A' : World} (h : FRk w0 B W (.slice (some ⟨g, 0, none⟩) (k + 1) fc) (k + 1) (E0 ++ [(⟨Y, p, r, d⟩, yv)]) S A) (hk : k = E0.length) (hX : ∀ t ∈ X, t ∈ Y) (hl : ∃ dd, ListAt w0 dd X tv) (hc : Chg [] A A') :
    FRk w0 B W (.slice (some ⟨g, 0, none⟩) (k + 1) fc) (k + 1) (E0 ++ [(⟨X, p, r, d⟩, tv)]) S (A'.setCell ⟨g, k * 4, none⟩ tv) := by
  have h1 := own_set (own_chg h.o hc (by simp)) (k * 4) (by omega) tv
  have hlen : (E0.flatMap encK).length = k * 4 := by rw [flat_length encK_len, hk]
  refine ⟨?_, by simp [hk], fun e he => ?_, h.s, fun e he => ?_, fun j e he => ?_, fun e he => ?_⟩
  · rw [List.flatMap_append, List.set_append_right _ _ (by omega), hlen, Nat.sub_self] at h1
    rw [List.flatMap_append]
    exact h1
  · rcases List.mem_append.1 he with he | he
    · exact h.l e (by simp [he])
    · simp at he
      subst he
      exact hl
  · rcases List.mem_append.1 he with he | he
    · exact h.k e (by simp [he])
    · simp at he
      subst he
      have h2 := h.k (⟨Y, p, r, d⟩, yv) (by simp)
      exact ⟨h2.1, fun t ht => h2.2 t (hX t ht)⟩
  · by_cases hj : j < E0.length
    · rw [List.getElem?_append_left hj] at he
      exact h.p j e (by rw [List.getElem?_append_left hj]; exact he)
    · rw [List.getElem?_append_right (by omega)] at he
      have h0 : j - E0.length = 0 := by have := (List.getElem?_eq_some_iff.1 he).1; simp at this; omega
      rw [h0] at he
      simp at he
      subst he
      exact h.p j (⟨Y, p, r, d⟩, yv) (by rw [List.getElem?_append_right (by omega), h0]; rfl)
  · rcases List.mem_append.1 he with he | he
    · exact h.q e (by simp [he])
    · simp at he
      subst he
      exact h.q (⟨Y, p, r, d⟩, yv) (by simp)


end Go.Proofs.Ytfdmbpfpdijpdaa
