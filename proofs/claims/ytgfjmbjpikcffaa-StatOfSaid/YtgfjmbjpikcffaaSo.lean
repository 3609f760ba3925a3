/- Moved together from several texts. -/
import Derived.Test.YtgfjmbjpikcffaaBd
namespace Go.Proofs.Ytgfjmbjpikcffaa
open Go.RowKit
set_option linter.unusedVariables false
set_option linter.unusedSimpArgs false

/-- A row of the call's own reads as a list. -/
theorem SeenK.own {α : Type} {enc : α → List Value} {k : Nat} (hk : ∀ x, (enc x).length = k) {w : World} {B T : Nat} {v : Value} {n : Nat} {l : List α} (h : w.ownsRow B T k v n (l.flatMap enc)) (hn : l.length = n) : SeenK enc k w v l := by
  subst hn
  obtain ⟨hl, h1⟩ := h
  rcases h1 with ⟨rfl, hn⟩ | ⟨g, cap, cur, rfl, _, hg, hc, hm, hs, ht⟩
  · exact ⟨none, 0, by rw [hn], by omega, by decide, fun hp => by omega⟩
  · refine ⟨_, cap, rfl, by omega, by omega, fun _ => ⟨g, 0, rfl, fun j x i u hx hu => ?_⟩⟩
    rw [Nat.zero_add, cell_of_row w g _ _ _ _ hg]
    have h := flat_get hk l j x i u hx hu
    rw [← ht, List.getElem?_take] at h
    split at h
    · simpa using h
    · cases h

/-- A row laid at once. -/
theorem SeenK.lit {α : Type} {enc : α → List Value} {k : Nat} (hk : ∀ x, (enc x).length = k) {w : World} {g : Nat} {T : TypeId} {C : Array Value} {fr : Nat × Nat} (hb : w.heap[g]? = some (.cells C T fr)) (l : List α) (n : Nat) (hC : C.toList = l.flatMap enc) (hn : l.length = n) (hm : n ≤ maxLen) : SeenK enc k w (.slice (some ⟨g, 0, none⟩) n n) l := by
  subst hn
  refine ⟨_, _, rfl, Nat.le_refl _, hm, fun _ => ⟨g, 0, rfl, fun j x i u hx hu => ?_⟩⟩
  rw [Nat.zero_add, cell_of_row w g _ _ _ _ hb]
  have h := flat_get hk l j x i u hx hu
  rw [← hC] at h
  simpa using h

/-- append of cells that lie in memory, as one step of a region that draws its order. -/
theorem step_append_cells {P : Program} {ops : Array Oper} {o : Oper} {a : Act} {w : World} {K : Act → World → Prop} {Q : Exit → Act → World → Prop} {E : Prop}
    (hg : o.guard = none) (s x : Operand) (t : TypeId) (hop : o.op = Op.call { callee := Callee.builtin Builtin.append, args := #[s, x], argTypes := #[t, t] })
    (base : Nat) (e : TypeId) (i : TypeInfo) (z : Value) (size bytes : Nat) (ht : P.underlying t = some (.slice e)) (hi : P.info? e = some i) (hz : i.zero = some z)
    (hsize : i.size = size) (hby : i.bytes = bytes) (hzs : z.cells.size = size) (hsz : 0 < size)
    (v : Value) (n : Nat) (xs : List Value) (hs : a.eval s = v) (hown : w.ownsRow base e size v n xs)
    (ad : Addr) (m c : Nat) (news : List Value) (hx : a.eval x = .slice (some ad) m c) (hl : news.length = m * size) (hnews : ∀ j u, news[j]? = some u → w.cell? (ad.add j) = some u) (h1 : ∀ u ∈ news, u.oneCell' = true)
    (h63 : n + m ≤ maxLen) (hbytes : (n + m) * bytes ≤ 140737488355328) (hbase : base ≤ w.heap.size)
    (hK : ∀ v' w', w'.ownsRow base e size v' (n + m) (xs ++ news) → w.grownBy w' v.ownBlock → K (a.put o.dst v') w') :
    if Region.wanted o (yielded ops a.tmps) = true then Oper.wp P o a w K Q else E := by
  have hw : Region.wanted o (yielded ops a.tmps) = true := by simp [Region.wanted, hg]
  rw [if_pos hw]
  obtain ⟨v', w', hrun, r1, r2, _⟩ := run_append_own (P := P) w base t o.type e i z size bytes ht hi hz hsize hby hzs hsz v n xs hown ad m c news hl hnews h1 h63 hbytes hbase
  unfold Oper.wp
  simp [execOp, hop, resolve, invoke, builtin, hs, hx, hrun, Result.andThen]
  exact hK v' w' r1 r2

theorem new_cells {w : World} {T : TypeId} {C : Array Value} (g : Nat) (hg : g = w.heap.size) : ∀ j u, C.toList[j]? = some u → (w.alloc (.cells C T)).cell? ((⟨g, 0, none⟩ : Addr).add j) = some u := by
  intro j u hu
  subst hg
  rw [addr_add, World.cell?_alloc_mark, Nat.zero_add, ← hu]
  simp

end Go.Proofs.Ytgfjmbjpikcffaa
