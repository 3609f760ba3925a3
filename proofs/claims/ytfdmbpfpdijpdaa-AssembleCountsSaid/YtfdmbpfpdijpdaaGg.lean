/- What the statements of stage 15 want of made schemas: leaves and their trails, what is read next. -/
import Derived.Test.YtfdmbpfpdijpdaaGf
import Derived.Test.YtfdmbpfpdijpdaaRm
import Derived.Test.YtfdmbpfpdijpdaaA5
namespace Go.Proofs.Ytfdmbpfpdijpdaa
open Go.RowKit
set_option linter.unusedVariables false
set_option linter.unusedSimpArgs false

theorem leaf_trs {l : List F} {k : Nat} {lf : L} (h : (leavesL l)[k]? = some lf) : lf.r = (((trs l).getD k []).length : Int) ∧ ((trs l).getD k []).length ≤ l.length := by
  obtain ⟨i, hin, hfi, hr⟩ := leaf_at l l.length lf (List.mem_of_getElem? h)
  have e : (trs l).getD k [] = trF l i := by simp [List.getD, trs, h, hfi]
  have hl := trF_len l i
  have hb := cntL_bound (repB l) (parents l) (fun j x => parents_lt) l.length (by simp)
  rw [show (parents l).take l.length = parents l by rw [List.take_of_length_le (by simp)]] at hb
  have hx : (rls l)[i]? = some ((rls l).getD i 0) := by rw [List.getD, List.getElem?_eq_getElem (by simpa using hin)]; rfl
  have hb := hb i _ hx
  rw [e, hr, trF_len l i]
  exact ⟨rfl, by omega⟩

theorem nextL_get (T : List (List Nat)) (k : Nat) (h : k < T.length) : (nextL T).getD k [] = nxRow T k := by simp [List.getD, nextL, h]
theorem nextL_length (T : List (List Nat)) : (nextL T).length = T.length := by simp [nextL]
theorem nxRow_get (T : List (List Nat)) (k r : Nat) (h : r ≤ (T.getD k []).length) : (nxRow T k).getD r 0 = aft T k r := by
  unfold nxRow
  rw [List.getD, List.getElem?_map, List.getElem?_range (show r < (T.getD k []).length + 1 by omega)]
  rfl

/-- What a made schema is good for, all at once. -/
structure Mk15 (l : List F) : Prop where
  chk : chk l = 0
  c : ∀ f ∈ l, f.c ≤ 9223372036854775807
  n : ∀ f ∈ l, f.n.size ≤ 1000000
  pos : 1 ≤ l.length
  le : l.length ≤ 40

theorem mk15 (ns : List Int) : Mk15 (mk ns) := by
  have h := mk_ok ns
  have hc := mk_chk ns
  have hl := chk_len hc
  exact ⟨hc, fun f hf => by have := h.c f hf; omega, fun f hf => by have := h.n f hf; omega, hl.1, hl.2⟩

end Go.Proofs.Ytfdmbpfpdijpdaa
