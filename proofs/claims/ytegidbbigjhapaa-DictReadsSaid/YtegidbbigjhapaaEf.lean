/- append of a row of values to a row of values. -/
import Derived.Test.YtegidbbigjhapaaEe
namespace Go.Proofs.Ytegidbbigjhapaa
open Go.RowKit
set_option linter.unusedVariables false
set_option linter.unusedSimpArgs false

theorem V.ones (L : List V) : ∀ u ∈ L.flatMap V.cs, u.oneCell' = true := by
  intro u hu
  obtain ⟨v, -, hv⟩ := List.mem_flatMap.1 hu
  exact V.one v u hv

theorem run_append_V (w : World) (base B : Nat) (ty : TypeId) (v xv : Value) (L M : List V) (hown : w.ownsRow base 28 2 v L.length (L.flatMap V.cs)) (hx : w.ownsRow B 28 2 xv M.length (M.flatMap V.cs)) (h63 : L.length + M.length ≤ 1000000) (hbase : base ≤ w.heap.size) :
    ∃ v' w', (Builtin.append_ #[22, 22] ty #[v, xv]).run Try.prog w = .ok v' w' ∧ w'.ownsRow base 28 2 v' (L ++ M).length ((L ++ M).flatMap V.cs) ∧ w.grownBy w' v.ownBlock := by
  obtain ⟨i0, hi, hz0, hz1, hz2⟩ := info_value
  have hx0 := hx
  obtain ⟨hl, h1⟩ := hx
  rw [List.length_append, List.flatMap_append]
  rcases h1 with ⟨rfl, he⟩ | ⟨g, cap, cur, rfl, -⟩
  · have hM : M = [] := by
      cases M with
      | nil => rfl
      | cons x M => simp [V.cs] at he
    subst hM
    exact ⟨v, w, run_append_owned_none (P := Try.prog) (w := w) base 22 ty 28 i0 2 Try.underlying22 hi v L.length (L.flatMap V.cs) hown, by simpa using hown, World.grownBy.refl _ _⟩
  · obtain ⟨v', w', q1, q2, q3, _⟩ := run_append_own (P := Try.prog) w base 22 ty 28 i0 (.agg #[.int .i64 0, .string ByteArray.empty]) 2 24 Try.underlying22 hi hz0 hz1 hz2 rfl (by decide) v L.length (L.flatMap V.cs) hown ⟨g, 0, none⟩ M.length cap (M.flatMap V.cs) (by rw [flat_length V.cs_len]) (fun j u hu => by
      rw [addr_add, Nat.zero_add]
      have hj := (List.getElem?_eq_some_iff.1 hu).1
      rw [hx0.cellAt j (by rw [← hl]; exact hj), hu]) (V.ones M) (by unfold maxLen; omega) (by omega) hbase
    exact ⟨v', w', q1, q2, q3⟩

theorem wpList_append_V (w : World) {ops : Array Oper} {rest : List Oper} {o : Oper} {a : Act} {Q : Exit → Act → World → Prop} (hgd : o.guard = none) (s x : Operand)
    (ho : o.op = .call { callee := .builtin .append, args := #[s, x], argTypes := #[22, 22] })
    (base B : Nat) (v xv : Value) (L M : List V) (hs : a.eval s = v) (hx : a.eval x = xv) (hown : w.ownsRow base 28 2 v L.length (L.flatMap V.cs)) (hxo : w.ownsRow B 28 2 xv M.length (M.flatMap V.cs)) (h63 : L.length + M.length ≤ 1000000) (hbase : base ≤ w.heap.size)
    (h : ∀ v' w', w'.ownsRow base 28 2 v' (L ++ M).length ((L ++ M).flatMap V.cs) → w.grownBy w' v.ownBlock → wpList Try.prog ops Q rest (a.put o.dst v') w') : wpList Try.prog ops Q (o :: rest) a w := by
  obtain ⟨v', w', q1, q2, q3⟩ := run_append_V w base B o.type v xv L M hown hxo h63 hbase
  refine wpList_plain hgd fun K hK => ?_
  unfold Oper.wp execOp
  simp only [ho, resolve, invoke, builtin, Sem.run_bind, Sem.run_pure, Result.andThen_ok, List.map_toArray, List.map_cons, List.map_nil, hs, hx, q1]
  exact hK _ _ (h v' w' q2 q3)

end Go.Proofs.Ytegidbbigjhapaa
