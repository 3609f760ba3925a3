/- Contract of schema.Leaves, and of the closures that it counts by. -/
import Derived.Test.YtofnpcfclcfgfaaCk
import Derived.Test.YtofnpcfclcfgfaaBd
import Derived.Deep.RegionHeld3
namespace Go.Proofs.Ytofnpcfclcfgfaa
open Go.RowKit
set_option linter.unusedVariables false

theorem info_leaf : ∃ i, Try.prog.info? 65 = some i ∧ i.zero = some (.agg #[.int .i64 0, .int .i64 0, .int .i64 0, .int .i64 0]) ∧ i.size = 4 ∧ i.bytes = 32 :=
  info_parts (show (Try.prog.info? 65).map (fun i => (i.zero, i.size, i.bytes)) = some (some (.agg #[.int .i64 0, .int .i64 0, .int .i64 0, .int .i64 0]), 4, 32) by kernel_rfl)
theorem info_field : ∃ i, Try.prog.info? 41 = some i ∧ i.zero = some (.agg #[.string ByteArray.empty, .int .i64 0, .int .i64 0, .int .i64 0]) ∧ i.size = 4 ∧ i.bytes = 40 :=
  info_parts (show (Try.prog.info? 41).map (fun i => (i.zero, i.size, i.bytes)) = some (some (.agg #[.string ByteArray.empty, .int .i64 0, .int .i64 0, .int .i64 0]), 4, 40) by kernel_rfl)

/-- append of cells that lie in memory, as one step of a region that draws its order. -/
theorem step_append_cells {P : Program} {ops : Array Oper} {o : Oper} {a : Act} {w : World} {K : Act → World → Prop} {Q : Exit → Act → World → Prop} {E : Prop}
    (hg : o.guard = none) (s x : Operand) (t : TypeId) (hop : o.op = Op.call { callee := Callee.builtin Builtin.append, args := #[s, x], argTypes := #[t, t] })
    (base : Nat) (e : TypeId) (i : TypeInfo) (z : Value) (size bytes : Nat) (ht : P.underlying t = some (.slice e)) (hi : P.info? e = some i) (hz : i.zero = some z)
    (hsize : i.size = size) (hby : i.bytes = bytes) (hzs : z.cells.size = size) (hsz : 0 < size)
    (v : Value) (n : Nat) (xs : List Value) (hs : a.eval s = v) (hown : w.ownsRow base e size v n xs)
    (ad : Addr) (m c : Nat) (news : List Value) (hx : a.eval x = .slice (some ad) m c) (hl : news.length = m * size) (hnews : ∀ j u, news[j]? = some u → w.cell? (ad.add j) = some u) (h1 : ∀ u ∈ news, u.oneCell' = true)
    (h63 : n + m ≤ maxLen) (hbytes : (n + m) * bytes ≤ 140737488355328) (hbase : base ≤ w.heap.size)
    (hK : ∀ v' w', w'.ownsRow base e size v' (n + m) (xs ++ news) → w.grownBy w' v.ownBlock → K (a.put o.dst v') w') :
    if Region.wanted o (yielded ops a.tmps) = true then Oper.wp P o a w K Q else E := by
  have hw : Region.wanted o (yielded ops a.tmps) = true := by simp [Region.wanted, hg]
  rw [if_pos hw]
  obtain ⟨v', w', hrun, r1, r2, _⟩ := run_append_own (P := P) w base t o.type e i z size bytes ht hi hz hsize hby hzs hsz v n xs hown ad m c news hl hnews h1 h63 hbytes hbase
  unfold Oper.wp
  simp [execOp, hop, resolve, invoke, builtin, hs, hx, hrun, Result.andThen]
  exact hK v' w' r1 r2

theorem new_cells {w : World} {T : TypeId} {C : Array Value} (g : Nat) (hg : g = w.heap.size) : ∀ j u, C.toList[j]? = some u → (w.alloc (.cells C T)).cell? ((⟨g, 0, none⟩ : Addr).add j) = some u := by
  intro j u hu
  subst hg
  rw [addr_add, World.cell?_alloc_mark, Nat.zero_add, ← hu]
  simp
theorem L.one (x : L) : ∀ u ∈ L.cs x, u.oneCell' = true := by
  intro u hu
  simp [L.cs] at hu
  rcases hu with rfl | rfl | rfl | rfl <;> rfl
theorem F.one (x : F) : ∀ u ∈ F.cs x, u.oneCell' = true := by
  intro u hu
  simp [F.cs] at hu
  rcases hu with rfl | rfl | rfl | rfl <;> rfl

def repB (l : List F) (i : Nat) : Bool := decide ((l.getD i default).r = 2)
def optB (l : List F) (i : Nat) : Bool := decide ((l.getD i default).r ≠ 0)
def rls (l : List F) : List Int := cntL (repB l) (parents l)
def dls (l : List F) : List Int := cntL (optB l) (parents l)
@[simp] theorem rls_length (l : List F) : (rls l).length = l.length := by simp [rls]
@[simp] theorem dls_length (l : List F) : (dls l).length = l.length := by simp [dls]

/-- The leaf that field i is, if it is one. -/
def leafAt (l : List F) (i : Nat) : List L := if (l.getD i default).k ≠ 0 then [⟨i, (rls l).getD i 0, (dls l).getD i 0, (l.getD i default).k⟩] else []
def leavesTo (l : List F) (n : Nat) : List L := (List.range n).flatMap (leafAt l)
def leavesL (l : List F) : List L := leavesTo l l.length
theorem leavesTo_succ (l : List F) (n : Nat) : leavesTo l (n + 1) = leavesTo l n ++ leafAt l n := by
  simp [leavesTo, List.range_succ, List.flatMap_append]
theorem leavesTo_le (l : List F) (n : Nat) : (leavesTo l n).length ≤ n := by
  induction n with
  | zero => simp [leavesTo]
  | succ n ih =>
    rw [leavesTo_succ, List.length_append]
    have : (leafAt l n).length ≤ 1 := by unfold leafAt; split <;> simp
    omega

theorem held3 {wb w3 : World} {o : Obj} {B1 B2 Bx k : Nat} {v x y z : Value} {lo : Nat} (h : wb.cell? ⟨B1, k, none⟩ = some x ∧ wb.cell? ⟨B2, k, none⟩ = some y ∧ wb.cell? ⟨Bx, 2, none⟩ = some z) (hg : (wb.drew.alloc o).grownBy w3 v.ownBlock)
    (hq : ∀ q, v.ownBlock = some q → q ≠ B1 ∧ q ≠ B2 ∧ q ≠ Bx ∧ lo ≤ q) : w3.cell? ⟨B1, k, none⟩ = some x ∧ w3.cell? ⟨B2, k, none⟩ = some y ∧ w3.cell? ⟨Bx, 2, none⟩ = some z := by
  have hc := ((Chg.refl v.ownBlock.toList wb).drew.alloc o).grown hg (fun q hq => .inl (by simp [← hq]))
  refine ⟨hc.cell h.1 ?_, hc.cell h.2.1 ?_, hc.cell h.2.2 ?_⟩
  all_goals
    intro hm
    have hq' := hq _ (by simpa using hm)
    first
    | exact hq'.1 rfl
    | exact hq'.2.1 rfl
    | exact hq'.2.2.1 rfl

end Go.Proofs.Ytofnpcfclcfgfaa
