/- Moved together from several texts. -/
import Derived.Test.YtgfjmbjpikcffaaBs
import Derived.Lib.AppendStr
import Derived.Test.YtgfjmbjpikcffaaOc
namespace Go.Proofs.Ytgfjmbjpikcffaa
open Go.RowKit
set_option linter.unusedVariables false
set_option linter.unusedSimpArgs false

/-- append(v, s...) of a text, in a drawn region. -/
theorem step_append_text {ops : Array Oper} {o : Oper} {a : Act} {w : World} {K : Act → World → Prop} {Q : Exit → Act → World → Prop} {E : Prop}
    (hg : o.guard = none) (s x : Operand) (hop : o.op = Op.call { callee := Callee.builtin Builtin.append, args := #[s, x], argTypes := #[55, 9] })
    (base : Nat) (v : Value) (n : Nat) (xs : List Value) (hs : a.eval s = v) (hown : w.ownsRow base 5 1 v n xs) (b : ByteArray) (hx : a.eval x = .string b) (hb : n + b.size ≤ 140737488355328) (hbase : base ≤ w.heap.size)
    (hK : ∀ v' w', w'.ownsRow base 5 1 v' (n + b.size) (xs ++ nv .u8 (bl b)) → w.grownBy w' v.ownBlock → K (a.put o.dst v') w') :
    if Region.wanted o (yielded ops a.tmps) = true then Oper.wp Try.prog o a w K Q else E := by
  have hw : Region.wanted o (yielded ops a.tmps) = true := by simp [Region.wanted, hg]
  rw [if_pos hw]
  obtain ⟨i0, hi, hz0, hz1, hz2⟩ := info_u8
  obtain ⟨v', w', hrun, r1, r2, -⟩ := Go.Lib.run_append_own_string (P := Try.prog) w base 55 9 o.type 5 i0 Try.underlying55 Try.underlying9 hi hz0 hz1 hz2 v n xs hown b (by unfold maxLen; omega) hb hbase
  have e : Go.Lib.strCells b = nv .u8 (bl b) := by
    simp [Go.Lib.strCells, nv, bl]
  rw [e] at r1
  unfold Oper.wp
  simp [execOp, hop, resolve, invoke, builtin, hs, hx, hrun, Result.andThen]
  exact hK v' w' r1 r2

end Go.Proofs.Ytgfjmbjpikcffaa
