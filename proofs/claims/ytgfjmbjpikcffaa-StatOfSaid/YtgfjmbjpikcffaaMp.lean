/- Still more plain words, of no stage (for regions that draw their order and make memory, too): the rest of a slice, slices as run equations, blocks behind allocations, a row of bytes. -/
import Derived.Test.YtgfjmbjpikcffaaMo
import Derived.Laws.BitsAllLaws
import Derived.Deep.RegionHeld3
namespace Go.Proofs.Ytgfjmbjpikcffaa
open Go.RowKit
set_option linter.unusedVariables false

/-- A scope in which two pieces of code stand ahead of the label to which it jumps. -/
theorem wp_scope_pre2 {P : Program} {a : Act} {w : World} {Q : Exit → Act → World → Prop} {pre pre2 rest : Code} (l : Nat) (J : Act → World → Prop) (m : Act → World → Nat) (hf : findLabel (.seq pre (.seq pre2 (.seq (.label l) rest))) l = some (.seq .skip rest))
    (h0 : pre.wp P (Exit.then (fun a w => pre2.wp P (Exit.then J (fun _ _ _ => False)) a w) (fun _ _ _ => False)) a w)
    (pass : ∀ a w, J a w → rest.wp P (Exit.jump l (fun a' w' => J a' w' ∧ m a' w' < m a w) Q) a w) : (Code.scope (.seq pre (.seq pre2 (.seq (.label l) rest)))).wp P Q a w := by
  refine wp_scope_jumps l J m hf (wp_seq (wp_mono h0 fun e a' w' h => ?_)) fun a' w' h => wp_seq (wp_skip (pass a' w' h))
  cases e with
  | normal =>
    refine wp_seq (wp_mono h fun e a' w' h => ?_)
    cases e with
    | normal =>
      refine wp_seq (wp_label (wp_mono (pass a' w' h) fun e a' w' h => ?_))
      cases e with
      | goto l' => exact ⟨h.1, h.2.1⟩
      | _ => exact h
    | _ => exact h.elim
  | _ => exact h.elim

/-- The rest of a slice behind its first element, whichever slice type. -/
theorem Seen.tail {w : World} {g off n cap : Nat} {x : Value} {xs : List Value} (h : Seen w (.slice (some ⟨g, off, none⟩) (n + 1) cap) (x :: xs)) :
    xs.length = n ∧ n + 1 ≤ cap ∧ w.cell? ⟨g, off, none⟩ = some x ∧ Seen w (.slice (if cap = 1 then some ⟨g, off, none⟩ else some ⟨g, off + 1, none⟩) n (cap - 1)) xs := by
  rcases h with ⟨e, _⟩ | ⟨a, cap', e, h1, h2, h3⟩
  · injection e with e1; cases e1
  · injection e with e1 e2 e3
    injection e1 with e1
    subst e1 e3
    have hl : xs.length = n := by simpa using e2.symm
    refine ⟨hl, by simpa [hl] using h1, by simpa [addr_add] using h3 0 x rfl, ?_⟩
    refine .inr ⟨if cap = 1 then ⟨g, off, none⟩ else ⟨g, off + 1, none⟩, cap - 1, by rw [hl]; split <;> rfl, by rw [hl]; simp at h1; omega, by omega, fun k u hu => ?_⟩
    have hk : k < xs.length := (List.getElem?_eq_some_iff.1 hu).1
    have := h3 (k + 1) u (by simpa using hu)
    simp at h1
    rw [if_neg (by omega), addr_add]
    rw [addr_add] at this
    rwa [show off + 1 + k = off + (k + 1) by omega]

theorem Seen.ptr {w : World} {ao : Option Addr} {n cap : Nat} {x : Value} {xs : List Value} (h : Seen w (.slice ao (n + 1) cap) (x :: xs)) : ∃ g off, ao = some ⟨g, off, none⟩ := by
  rcases h with ⟨e, _⟩ | ⟨⟨g, off, sp⟩, cap', e, h1, h2, h3⟩
  · injection e with e1 e2 e3; omega
  · injection e with e1 e2 e3
    have hc := h3 0 x rfl
    have hsp : sp = none := by simpa [Addr.add] using World.cell?_spot hc
    subst hsp
    exact ⟨g, off, e1⟩

theorem addr_add_add (a : Addr) (m n : Nat) : (a.add m).add n = a.add (m + n) := by
  unfold Addr.add
  by_cases hm : m = 0
  · subst hm; simp
  · by_cases hn : n = 0
    · subst hn; simp
    · simp [hm, hn, Nat.add_assoc]

/-- v[lo:hi] as the model slices, wherever v's array lies. -/
theorem Seen.sliced {w : World} {ao : Option Addr} {len cap : Nat} {xs : List Value} (h : Seen w (.slice ao len cap) xs) (lo hi : Nat) (h1 : lo ≤ hi) (h2 : hi ≤ len) :
    Seen w (Go.sliced ao lo hi cap 1) ((xs.take hi).drop lo) := by
  rcases h with ⟨he, rfl⟩ | ⟨a, cap', he, hc, hm, hcell⟩
  · injection he with e1 e2 e3
    subst e1 e2 e3
    obtain rfl : hi = 0 := by omega
    obtain rfl : lo = 0 := by omega
    exact .inl ⟨by simp [Go.sliced], by simp⟩
  · injection he with e1 e2 e3
    subst e1 e2 e3
    have hlen : ((xs.take hi).drop lo).length = hi - lo := by simp; omega
    by_cases hcl : cap = lo
    · have : hi = lo := by omega
      subst this
      refine .inr ⟨a, 0, ?_, by omega, by simp, ?_⟩
      · simp [Go.sliced, hcl]
      · intro j u hu
        have : j < ((xs.take hi).drop hi).length := (List.getElem?_eq_some_iff.1 hu).1
        omega
    · refine .inr ⟨a.add (lo * 1), cap - lo, ?_, by omega, by omega, ?_⟩
      · simp only [Go.sliced, hcl, if_false, Option.map_some, hlen]
      · intro j u hu
        rw [List.getElem?_drop, List.getElem?_take] at hu
        split at hu
        · rw [addr_add_add, Nat.mul_one]
          exact hcell (lo + j) u hu
        · cases hu

theorem Seen.room {w : World} {ao : Option Addr} {n cap : Nat} {xs : List Value} (h : Seen w (.slice ao n cap) xs) : n ≤ cap ∧ cap ≤ maxLen := by
  obtain ⟨_, _, e, h1, h2⟩ := h.shape
  injection e with _ e2 e3
  omega

theorem elem_bytes : Try.prog.elem 55 = 5 := by kernel_rfl

theorem nv_take_drop (k : IntKind) (l : List Nat) (lo hi : Nat) : ((nv k l).take hi).drop lo = nv k ((l.take hi).drop lo) := by simp [nv, List.map_take, List.map_drop]

/-- v[:hi], as a run equation. -/
theorem run_front {w : World} {ao : Option Addr} {len cap : Nat} {l : List Nat} (h : Seen w (.slice ao len cap) (nv .u8 l)) (hc : len ≤ cap) (hi : Nat) (h2 : hi ≤ len) :
    ∃ ao' cap', Seen w (.slice ao' hi cap') (nv .u8 (l.take hi)) ∧ ∀ wx, (Instr.slice 55 (.slice ao len cap) none (some (.int .i64 (hi : Int))) none).run Try.prog wx = .ok (.slice ao' hi cap') wx := by
  have hs := h.sliced 0 hi (Nat.zero_le _) h2
  rw [nv_take_drop, List.drop_zero] at hs
  refine ⟨_, _, hs, fun wx => ?_⟩
  obtain ⟨i0, hi0, _, hz1, _⟩ := info_u8
  rw [run_slice_h wx 55 ao len cap (by rw [elem_bytes]; exact Try.underlying55) .i64 hi (by omega) (by omega), elem_bytes]
  simp [sizeOf, typeInfo, hi0, hz1]
  rfl

/-- v[lo:], as a run equation. -/
theorem run_back {w : World} {ao : Option Addr} {len cap : Nat} {l : List Nat} (h : Seen w (.slice ao len cap) (nv .u8 l)) (hl : l.length = len) (hc : len ≤ cap) (lo : Nat) (h2 : lo ≤ len) :
    ∃ ao' cap', Seen w (.slice ao' (len - lo) cap') (nv .u8 (l.drop lo)) ∧ ∀ wx, (Instr.slice 55 (.slice ao len cap) (some (.int .i64 (lo : Int))) none none).run Try.prog wx = .ok (.slice ao' (len - lo) cap') wx := by
  have hs := h.sliced lo len h2 (Nat.le_refl _)
  rw [nv_take_drop, show l.take len = l by rw [← hl, List.take_length]] at hs
  refine ⟨_, _, hs, fun wx => ?_⟩
  obtain ⟨i0, hi0, _, hz1, _⟩ := info_u8
  rw [run_slice_l wx 55 ao len cap (by rw [elem_bytes]; exact Try.underlying55) .i64 lo (by omega) (by omega), elem_bytes]
  simp [sizeOf, typeInfo, hi0, hz1, Go.sliced]

theorem hl_new {w : World} {g : Nat} {o : Obj} (h : g = w.heap.size) : (w.alloc o).heap[g]? = some o := by
  subst h
  show (w.heap.push o)[w.heap.size]? = _
  simp

theorem hl_old {w : World} {g : Nat} {o p : Obj} (h : w.heap[g]? = some p) : (w.alloc o).heap[g]? = some p :=
  (Go.heap_alloc_old w o (Go.lt_of_block h)).trans h

theorem hl_drew {w : World} {g : Nat} {p : Obj} (h : w.heap[g]? = some p) : w.drew.heap[g]? = some p := h

theorem hl_chg {w w' : World} {g : Nat} {p : Obj} (hc : Chg [] w w') (h : w.heap[g]? = some p) : w'.heap[g]? = some p := hc.heap h (by simp)

theorem Seen.empty (w : World) (ao : Option Addr) : Seen w (.slice ao 0 0) (nv .u8 []) := by
  cases ao with
  | none => exact Seen.nil w
  | some a => exact .inr ⟨a, 0, rfl, Nat.le_refl _, by decide, fun j u hu => by simp [nv] at hu⟩

/-- A row of bytes that a slice reads as. -/
structure Row (w : World) (bv : Value) (l : List Nat) : Prop where
  seen : Seen w bv (nv .u8 l)
  byte : ∀ x ∈ l, x < 2 ^ 8

theorem Row.nil (w : World) : Row w (.slice none 0 0) [] := ⟨Seen.nil w, by simp⟩

theorem Row.keep {w w' : World} {bv : Value} {l : List Nat} (h : Row w bv l) (hc : Chg [] w w') : Row w' bv l := ⟨h.seen.keep hc, h.byte⟩

theorem own_drew {w : World} {B T n : Nat} {v : Value} {xs : List Value} (h : w.ownsRow B T 1 v n xs) : w.drew.ownsRow B T 1 v n xs := h

theorem run_min_int4 {P : Program} {w : World} (ts : Array TypeId) (t : TypeId) (x y z u : Int) : (Builtin.min_ ts t #[.int .i64 x, .int .i64 y, .int .i64 z, .int .i64 u]).run P w = .ok (.int .i64 (if u < (if z < (if y < x then y else x) then z else (if y < x then y else x)) then u else (if z < (if y < x then y else x) then z else (if y < x then y else x)))) w := by
  simp [Builtin.min_, Builtin.min2]

end Go.Proofs.Ytgfjmbjpikcffaa
