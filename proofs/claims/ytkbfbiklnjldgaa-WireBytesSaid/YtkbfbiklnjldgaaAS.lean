/- Shl, Ph, Rq: texts of one group, one behind the other. -/
import Derived.Test.YtkbfbiklnjldgaaA5
import Derived.Test.YtkbfbiklnjldgaaLl
import Derived.Shelf.Strings.OnBuilder
import Derived.Shelf.Slices.ReverseS
import Derived.Shelf.Slices.Cells
import Derived.Lib.Join
namespace Go.Proofs.Ytkbfbiklnjldgaa
end Go.Proofs.Ytkbfbiklnjldgaa

namespace Go.Proofs.Ytkbfbiklnjldgaa
open Go.RowKit
set_option linter.unusedVariables false

def sv (ns : List ByteArray) : List Value := ns.map .string
@[simp] theorem sv_length (ns : List ByteArray) : (sv ns).length = ns.length := by simp [sv]

theorem info_string : ∃ i, Try.prog.info? 9 = some i ∧ i.zero = some (.string ByteArray.empty) ∧ i.size = 1 ∧ i.bytes = 16 :=
  info_parts (show (Try.prog.info? 9).map (fun i => (i.zero, i.size, i.bytes)) = some (some (.string ByteArray.empty), 1, 16) by kernel_rfl)

theorem Chg.setCells {S : List Nat} {a : World} {b : Nat} (hb : b ∈ S ∨ a.heap.size ≤ b) : ∀ (vs : List Value) (o : Nat) (w : World), Chg S a w → Chg S a (w.setCells b o vs)
  | [], o, w, h => h
  | v :: vs, o, w, h => Chg.setCells hb vs (o + 1) _ (h.setCell (p := ⟨b, o, none⟩) hb v)

/-- How Path stands at its label. -/
structure PHJ (l : List F) (f0 : Int) (wa w' : World) (x : Int) (ns : List ByteArray) (v : Value) : Prop where
  eq : ns ++ namesUp l x = namesUp l f0
  lt : x < l.length
  own : w'.ownsRow wa.heap.size 9 1 v ns.length (sv ns)
  cg : Chg [] wa w'
  len : ns.length ≤ l.length

theorem rev_cells (ns : List ByteArray) : (Lib.strsOf (fun i => ns.getD i ByteArray.empty) ns.length).reverse.map encStr = sv ns.reverse := by
  unfold sv Lib.strsOf
  rw [List.map_reverse, List.map_map, List.map_reverse]
  congr 1
  apply List.ext_getElem?
  intro i
  by_cases h : i < ns.length
  · simp [h, List.getD, encStr]
  · rw [List.getElem?_eq_none (by simp; omega), List.getElem?_eq_none (by simp; omega)]

theorem upN_mem (l : List F) (hn : ∀ f ∈ l, f.n.size ≤ 1000) : ∀ (f : Nat) (k : Int), k < l.length → ∀ z ∈ upN l f k, z.data.toList.length ≤ 1000 := by
  intro f
  induction f with
  | zero => intro k _ z hz; simp [upN] at hz
  | succ f ih =>
    intro k hk z hz
    rw [upN_succ] at hz
    split at hz
    · rename_i h0
      have hx : (parents l)[k.toNat]? = some ((parents l).getD k.toNat 0) := by rw [List.getD, List.getElem?_eq_getElem (by simp; omega)]; rfl
      have hp := parents_lt hx
      rcases List.mem_cons.1 hz with rfl | h1
      · have h2 : l.getD k.toNat default ∈ l := by rw [List.getD, List.getElem?_eq_getElem (by omega)]; exact List.getElem_mem _
        have := hn _ h2
        rw [Array.length_toList]
        exact this
      · exact ih _ (by omega) z h1
    · simp at hz

theorem names_size (l : List F) (hn : ∀ f ∈ l, f.n.size ≤ 1000) {k : Int} (hk : k < l.length) {z : ByteArray} (hz : z ∈ namesUp l k) : z.data.toList.length ≤ 1000 := upN_mem l hn _ k hk z hz

abbrev QF (ao : Option Addr) (n cap B : Nat) (x : Int) (v : Value) (u : Nat → Value) : Act :=
  { tmps := #[.slice ao n cap, .int .i64 x, undef, undef, .string { data := #[] }, .slice (some ⟨B, 0, none⟩) n n, v, u 7, u 8, u 9, u 10, u 11, u 12, u 13, u 14, u 15, u 16, u 17, u 18, u 19, u 20, u 21, u 22, u 23, u 24, u 25, u 26, u 27, u 28, u 29, u 30], defers := [] }

theorem QF_of {ao : Option Addr} {n cap B : Nat} {x : Int} {v : Value} {a : Act} (h : a = QF ao n cap B x v (fun j => a.tmps.getD j undef)) : ∃ u, a = QF ao n cap B x v u := ⟨_, h⟩

end Go.Proofs.Ytkbfbiklnjldgaa

namespace Go.Proofs.Ytkbfbiklnjldgaa
open Go.RowKit
set_option linter.unusedVariables false

/-- What the reference's Parents answers (proved where its walk is). -/
def RParents : Prop := ∀ (sl : Value) (l : List F) (w : World), SeenF w sl l → l.length ≤ 1000000 → (∀ f ∈ l, f.c ≤ 9223372036854775807) →
  Calls Try.prog 26 #[sl] w fun e w' => ∃ v, e = .returned v ∧ SeenI w' v (parents l) ∧ Chg [] w w'

theorem join_more (n : ByteArray) (ns : List ByteArray) (h : ns ≠ []) : Lib.join ((ns ++ [n]).reverse.map (·.data.toList)) [46] = n.data.toList ++ [46] ++ Lib.join (ns.reverse.map (·.data.toList)) [46] := by
  rw [List.reverse_append, List.reverse_cons, List.reverse_nil, List.nil_append, List.singleton_append, List.map_cons, Lib.join_cons]
  have hne : ns.reverse.map (·.data.toList) ≠ [] := by simpa using h
  cases hq : ns.reverse.map (·.data.toList) with
  | nil => exact absurd hq hne
  | cons y r =>
    rw [Lib.join_cons]
    simp [Lib.joinTail]

end Go.Proofs.Ytkbfbiklnjldgaa
