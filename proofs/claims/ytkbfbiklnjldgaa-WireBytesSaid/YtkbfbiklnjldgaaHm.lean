/- append of so many noughts (append(x, make([]byte, n)...)). -/
import Derived.Test.YtkbfbiklnjldgaaMp
namespace Go.Proofs.Ytkbfbiklnjldgaa
open Go.RowKit
set_option linter.unusedVariables false
set_option linter.unusedSimpArgs false

theorem run_append_make {P : Program} (w : World) (t tx ty e : TypeId) (i : TypeInfo) (z : Value) (ht : P.underlying t = some (.slice e)) (htx : P.underlying tx = some (.int .i64)) (hi : P.info? e = some i) (hz : i.zero = some z) (hsize : i.size = 1) (hby : i.bytes = 1)
    (b : Addr) (sLen sCap : Nat) (olds : List Value) (hlo : olds.length = sLen) (holds : ∀ j v, olds[j]? = some v → w.cell? (b.add j) = some v) (n : Nat) (hn0 : 0 < n) (hg : sCap < sLen + n) (hb : sLen + n ≤ 1000000) :
    (Builtin.append_ #[t, tx] ty #[.slice (some b) sLen sCap, .int .i64 (n : Int)]).run P w =
      .ok (.slice (some ⟨w.heap.size, 0, none⟩) (sLen + n) (grownCap w (sLen + n) sCap e))
        (w.drew.alloc (.cells (olds.toArray ++ Builtin.zeroCells z.cells n ++ Builtin.zeroCells z.cells (grownCap w (sLen + n) sCap e - (sLen + n))) e)) := by
  have hn : ¬ (sLen + n ≤ sCap) := by omega
  have h63' : ¬ (9223372036854775807 < ((sLen : Int) + (n : Int))) := by omega
  have hfit := growslice_fits (bytes := 1) hg (by omega)
  have h48' : ¬ (281474976710656 < Builtin.nextslicecap (sLen + n) sCap) := by omega
  have hfo := run_firstCells_some (P := P) w.drew i.size sLen b sLen sCap olds (by rw [hsize]; omega) (by simpa using holds)
  rw [hsize] at hfo
  have hw : IntKind.i64.wrap (n : Int) = (n : Int) := IntWalk.i64_in _ (by omega)
  have hw2 : Go.RowKit.wrap64 (n : Int) = (n : Int) := by unfold Go.RowKit.wrap64; omega
  have hneg : ¬ ((n : Int) < 0) := by omega
  have hbig : ¬ (281474976710656 < (n : Int)) := by omega
  have hn1 : n ≠ 0 := by omega
  simp [Builtin.append_, run_underlying ht, run_underlying htx, sizeOf, typeInfo, zeroValue, hi, hz, Builtin.lenOf, hn, h63', h48', Question.forced, hfo, newRow, grownCap, asInt, asIntOf, hw, hw2, hneg, hbig, hsize, hby, hn1]

theorem zero8 (n : Nat) : (Builtin.zeroCells (Value.cells (.int .u8 0)) n).toList = nv .u8 (List.replicate n 0) := by
  simp [Builtin.zeroCells, Value.cells, nv]
  apply List.ext_getElem?
  intro j
  by_cases hj : j < n
  · simp [hj, Nat.mod_one]
  · simp [hj]

theorem wpList_append_make {w : World} {ops : Array Oper} {rest : List Oper} {o : Oper} {a : Act} {Q : Exit → Act → World → Prop} (hgd : o.guard = none) (s x : Operand)
    (ho : o.op = .call { callee := .builtin .append, args := #[s, x], argTypes := #[30, 3] }) (b : Addr) (k n : Nat) (l : List Nat) (hs : a.eval s = .slice (some b) k k) (hx : a.eval x = .int .i64 (n : Int)) (hl : l.length = k) (holds : ∀ j v, (nv .u8 l)[j]? = some v → w.cell? (b.add j) = some v) (hn : 0 < n) (hb : k + n ≤ 1000000)
    (h : ∀ v' w', w'.ownsRow w.heap.size 5 1 v' (k + n) (nv .u8 (l ++ List.replicate n 0)) → Chg [] w w' → wpList Try.prog ops Q rest (a.put o.dst v') w') : wpList Try.prog ops Q (o :: rest) a w := by
  obtain ⟨i0, hi, hz0, hz1, hz2⟩ := info_u8
  have hr := run_append_make (P := Try.prog) w 30 3 o.type 5 i0 (.int .u8 0) Try.underlying30 Try.underlying3 hi hz0 hz1 hz2 b k k (nv .u8 l) (by rw [nv_length]; exact hl) holds n hn (by omega) hb
  have hge := grownCap_ge w (k + n) k 5
  have hcm := grownCap_le_maxLen w (k + n) k 5 (by unfold maxLen; omega)
  refine wpList_plain hgd fun K hK => ?_
  unfold Oper.wp execOp
  simp only [ho, resolve, invoke, builtin, Sem.run_bind, Sem.run_pure, Result.andThen_ok, List.map_toArray, List.map_cons, List.map_nil, hs, hx, hr]
  refine hK _ _ (h _ _ ⟨by simp; omega, .inr ⟨w.heap.size, _, _, rfl, Nat.le_refl _, heap_alloc_new w.drew _, hge, hcm, ?_, ?_⟩⟩ ((Chg.refl [] w).drew.alloc _))
  · simp [size_zeroCells, Value.cells, hl]; omega
  · simp only [Array.toList_append, zero8]
    rw [show nv .u8 (l ++ List.replicate n 0) = nv .u8 l ++ nv .u8 (List.replicate n 0) by simp [nv]]
    exact List.take_left' (by simp [hl])

end Go.Proofs.Ytkbfbiklnjldgaa
