/- Shl, Ph, Rq: texts of one group, one behind the other. -/
import Derived.Test.YthhcnlmjcpkbnaaA5
import Derived.Shelf.Strconv.Itoa0
import Derived.Shelf.LaysM
import Derived.Shelf.Strconv.Clone
import Derived.Shelf.Strings.OnBuilder
import Derived.Ground.Names2Prog
import Derived.Shelf.Slices.ReverseS
import Derived.Shelf.Slices.Cells
namespace Go.Proofs.Ythhcnlmjcpkbnaa
open Go.Shelf
def lays129_ren : Go.Shelf.Ren := ⟨fun | 129 => 138 | n => n, fun | 53 => 124 | 3 => 3 | 4 => 4 | 46 => 80 | 5 => 5 | 9 => 9 | n => n, fun | n => n⟩
theorem lays129 : Go.Proofs.Lays.n129 Try.prog lays129_ren := {
  mixed := by kernel_rfl
  f129 := Try.func138.trans (congrArg some (by kernel_rfl))
  t3 := Try.underlying3
  a3 := Try.isAgg3
  z3 := Try.sizeOf3
  v3 := Try.zeroValue3
  t4 := Try.underlying4
  a4 := Try.isAgg4
  z4 := Try.sizeOf4
  v4 := Try.zeroValue4
  t5 := Try.underlying5
  a5 := Try.isAgg5
  z5 := Try.sizeOf5
  v5 := Try.zeroValue5
  t9 := Try.underlying9
  a9 := Try.isAgg9
  z9 := Try.sizeOf9
  v9 := Try.zeroValue9
  t46 := Try.underlying80
  a46 := Try.isAgg80
  z46 := Try.sizeOf80
  v46 := Try.zeroValue80
  t53 := Try.underlying124
  a53 := Try.isAgg124
  z53 := Try.sizeOf124
  v53 := Try.zeroValue124 }
/-- bits.Len64: "Len64 returns the minimum number of bits required to represent x; the result is 0 for x == 0.": IT RETURNS 'Lib.bitLen x'; the world is as it was. ('h0', 'h1': x is a uint64.) (LAID: no walk: one application.) -/
theorem bits_Len64 (x : Int) (w : World) (h0 : 0 ≤ x) (h1 : x ≤ 18446744073709551615) :
    Calls Try.prog 138 #[.int .u64 x] w fun e w' => e = .returned (.int .i64 (Lib.bitLen x.toNat)) ∧ w' = w := Any.bits_Len64 lays129 x w h0 h1
def laysM316_ren : Go.Shelf.Ren := ⟨fun | 316 => 95 | n => n, fun | 9 => 9 | 3 => 3 | 4 => 4 | 37 => 67 | 0 => 0 | 127 => 165 | 5 => 5 | n => n, fun | n => n⟩
theorem laysM316 : Go.Proofs.LaysM.n316 Try.prog laysM316_ren := {
  mixed := by kernel_rfl
  f316 := Try.func95.trans (congrArg some (by kernel_rfl))
  t0 := Try.underlying0
  a0 := Try.isAgg0
  z0 := Try.sizeOf0
  v0 := Try.zeroValue0
  t3 := Try.underlying3
  a3 := Try.isAgg3
  z3 := Try.sizeOf3
  v3 := Try.zeroValue3
  t4 := Try.underlying4
  a4 := Try.isAgg4
  z4 := Try.sizeOf4
  v4 := Try.zeroValue4
  t9 := Try.underlying9
  a9 := Try.isAgg9
  z9 := Try.sizeOf9
  v9 := Try.zeroValue9
  t37 := Try.underlying67
  a37 := Try.isAgg67
  z37 := Try.sizeOf67
  v37 := Try.zeroValue67
  t127 := Try.underlying165
  a127 := Try.isAgg165
  z127 := Try.sizeOf165
  v127 := Try.zeroValue165
  t5 := Try.underlying5
  a5 := Try.isAgg5
  z5 := Try.sizeOf5
  v5 := Try.zeroValue5
  i0 := by kernel_rfl
  i3 := by kernel_rfl
  i4 := by kernel_rfl
  i5 := by kernel_rfl
  i9 := by kernel_rfl
  i37 := by kernel_rfl
  i127 := by kernel_rfl }
open Go.RowKit in
/-- internal/stringslite.Clone (what strings.Clone calls): "Clone returns a fresh copy of s.": THE SAME BYTES. Of what was there nothing has turned (a new row is laid, and frozen, where s is not empty). (LAID: no walk: one application.) -/
theorem stringslite_Clone (s : ByteArray) (w : World) (hlim : s.size ≤ 281474976710656) :
    Calls Try.prog 95 #[.string s] w fun e w' => e = .returned (.string s) ∧ Below w.heap.size w w' := Any.stringslite_Clone laysM316 s w hlim

end Go.Proofs.Ythhcnlmjcpkbnaa

namespace Go.Proofs.Ythhcnlmjcpkbnaa
open Go.RowKit
set_option linter.unusedVariables false

def sv (ns : List ByteArray) : List Value := ns.map .string
@[simp] theorem sv_length (ns : List ByteArray) : (sv ns).length = ns.length := by simp [sv]

theorem info_string : ∃ i, Try.prog.info? 9 = some i ∧ i.zero = some (.string ByteArray.empty) ∧ i.size = 1 ∧ i.bytes = 16 :=
  info_parts (show (Try.prog.info? 9).map (fun i => (i.zero, i.size, i.bytes)) = some (some (.string ByteArray.empty), 1, 16) by kernel_rfl)

theorem Chg.setCells {S : List Nat} {a : World} {b : Nat} (hb : b ∈ S ∨ a.heap.size ≤ b) : ∀ (vs : List Value) (o : Nat) (w : World), Chg S a w → Chg S a (w.setCells b o vs)
  | [], o, w, h => h
  | v :: vs, o, w, h => Chg.setCells hb vs (o + 1) _ (h.setCell (p := ⟨b, o, none⟩) hb v)

/-- How Path stands at its label. -/
structure PHJ (l : List F) (f0 : Int) (wa w' : World) (x : Int) (ns : List ByteArray) (v : Value) : Prop where
  eq : ns ++ namesUp l x = namesUp l f0
  lt : x < l.length
  own : w'.ownsRow wa.heap.size 9 1 v ns.length (sv ns)
  cg : Chg [] wa w'
  len : ns.length ≤ l.length

theorem rev_cells (ns : List ByteArray) : (Lib.strsOf (fun i => ns.getD i ByteArray.empty) ns.length).reverse.map encStr = sv ns.reverse := by
  unfold sv Lib.strsOf
  rw [List.map_reverse, List.map_map, List.map_reverse]
  congr 1
  apply List.ext_getElem?
  intro i
  by_cases h : i < ns.length
  · simp [h, List.getD, encStr]
  · rw [List.getElem?_eq_none (by simp; omega), List.getElem?_eq_none (by simp; omega)]

theorem upN_mem (l : List F) (hn : ∀ f ∈ l, f.n.size ≤ 1000) : ∀ (f : Nat) (k : Int), k < l.length → ∀ z ∈ upN l f k, z.data.toList.length ≤ 1000 := by
  intro f
  induction f with
  | zero => intro k _ z hz; simp [upN] at hz
  | succ f ih =>
    intro k hk z hz
    rw [upN_succ] at hz
    split at hz
    · rename_i h0
      have hx : (parents l)[k.toNat]? = some ((parents l).getD k.toNat 0) := by rw [List.getD, List.getElem?_eq_getElem (by simp; omega)]; rfl
      have hp := parents_lt hx
      rcases List.mem_cons.1 hz with rfl | h1
      · have h2 : l.getD k.toNat default ∈ l := by rw [List.getD, List.getElem?_eq_getElem (by omega)]; exact List.getElem_mem _
        have := hn _ h2
        rw [Array.length_toList]
        exact this
      · exact ih _ (by omega) z h1
    · simp at hz

theorem names_size (l : List F) (hn : ∀ f ∈ l, f.n.size ≤ 1000) {k : Int} (hk : k < l.length) {z : ByteArray} (hz : z ∈ namesUp l k) : z.data.toList.length ≤ 1000 := upN_mem l hn _ k hk z hz

abbrev QF (ao : Option Addr) (n cap B : Nat) (x : Int) (v : Value) (u : Nat → Value) : Act :=
  { tmps := #[.slice ao n cap, .int .i64 x, undef, undef, .string { data := #[] }, .slice (some ⟨B, 0, none⟩) n n, v, u 7, u 8, u 9, u 10, u 11, u 12, u 13, u 14, u 15, u 16, u 17, u 18, u 19, u 20, u 21, u 22, u 23, u 24, u 25, u 26, u 27, u 28, u 29, u 30], defers := [] }

theorem QF_of {ao : Option Addr} {n cap B : Nat} {x : Int} {v : Value} {a : Act} (h : a = QF ao n cap B x v (fun j => a.tmps.getD j undef)) : ∃ u, a = QF ao n cap B x v u := ⟨_, h⟩

end Go.Proofs.Ythhcnlmjcpkbnaa

namespace Go.Proofs.Ythhcnlmjcpkbnaa
open Go.RowKit
set_option linter.unusedVariables false

/-- What the reference's Parents answers (proved where its walk is). -/
def RParents : Prop := ∀ (sl : Value) (l : List F) (w : World), SeenF w sl l → l.length ≤ 1000000 → (∀ f ∈ l, f.c ≤ 9223372036854775807) →
  Calls Try.prog 34 #[sl] w fun e w' => ∃ v, e = .returned v ∧ SeenI w' v (parents l) ∧ Chg [] w w'

theorem join_more (n : ByteArray) (ns : List ByteArray) (h : ns ≠ []) : Lib.join ((ns ++ [n]).reverse.map (·.data.toList)) [46] = n.data.toList ++ [46] ++ Lib.join (ns.reverse.map (·.data.toList)) [46] := by
  rw [List.reverse_append, List.reverse_cons, List.reverse_nil, List.nil_append, List.singleton_append, List.map_cons, Lib.join_cons]
  have hne : ns.reverse.map (·.data.toList) ≠ [] := by simpa using h
  cases hq : ns.reverse.map (·.data.toList) with
  | nil => exact absurd hq hne
  | cons y r =>
    rw [Lib.join_cons]
    simp [Lib.joinTail]

set_option maxRecDepth 100000 in
set_option maxHeartbeats 2000000 in
theorem rpath_any (hR : RParents) (sl : Value) (l : List F) (f0 : Int) (w : World) (hS : SeenF w sl l) (hl : l.length ≤ 1000000) (hw : ∀ f ∈ l, f.c ≤ 9223372036854775807) (hn : ∀ f ∈ l, f.n.size ≤ 1000) :
    Calls Try.prog 32 #[sl, .int .i64 f0] w fun e w' => e = .returned (.string (pathB l f0)) ∧ Chg [] w w' := by
  obtain ⟨ao, cap, rfl, hc1, hc2⟩ := hS.shape
  have HS := Lib.hid hS; have HW := Lib.hid hw; have HNM := Lib.hid hn; have HR := Lib.hid hR
  clear hS hw hn hR
  obtain ⟨n, hnn⟩ : ∃ n, n = l.length := ⟨_, rfl⟩
  rw [← hnn] at hc1 hl HS ⊢
  have HN := Lib.hid hnn
  clear hnn
  by_cases h0 : f0 ≤ 0
  · have E := Lib.hid (path_none l f0 (.inl h0))
    have d1 : decide (f0 ≤ 0) = true := by simpa using h0
    go_enter Try.func32, Try.ntmps32
    go_wp2
    go_ret
    exact ⟨by rw [E.out]; rfl, Chg.refl [] w⟩
  have d1 : decide (f0 ≤ 0) = false := by simpa using h0
  by_cases hge : (n : Int) ≤ f0
  · have E := Lib.hid (path_none l f0 (.inr (by rw [← HN.out]; exact hge)))
    have d2 : decide ((n : Int) ≤ f0) = true := by simpa using hge
    go_enter Try.func32, Try.ntmps32
    go_wp2
    go_ret
    exact ⟨by rw [E.out]; rfl, Chg.refl [] w⟩
  have d2 : decide ((n : Int) ≤ f0) = false := by simpa using hge
  obtain ⟨k0, rfl⟩ : ∃ k : Nat, f0 = k := ⟨f0.toNat, by omega⟩
  have hk0 : 0 < k0 := by omega
  have hk1 : k0 < n := by omega
  have HP := Lib.hid (show pathB l (k0 : Int) = ⟨(Lib.join ((namesUp l (k0 : Int)).reverse.map (·.data.toList)) [46]).toArray⟩ by unfold pathB; rw [if_neg (by rw [← HN.out]; omega)])
  go_enter Try.func32, Try.ntmps32
  go_wp2_with fail
  refine (HR.out _ l w HS.out (by rw [← HN.out]; omega) HW.out).mono ?_
  rintro e w1 ⟨v1, rfl, hp1, hc⟩
  obtain ⟨po, pc, rfl, hpc1, hpc2⟩ := hp1.shape
  rw [parents_length, ← HN.out] at hpc1 hp1 ⊢
  obtain ⟨gp, op, rfl, hpp⟩ := SeenI.get hp1 (by omega) (by rw [parents_length, ← HN.out])
  obtain ⟨gs, os, rfl, hss⟩ := SeenF.get (SeenK.keep HS.out hc) (by omega) HN.out.symm
  have HPP := Lib.hid hpp; have HSS := Lib.hid hss; have HC := Lib.hid hc
  obtain ⟨a1, -, -, -⟩ := hss k0 hk1
  have p1 := hpp k0 hk1
  clear hp1 hc hpp hss
  go_wp2
  go_loop [6, 7] (fun o k => ∃ (x : Int) (ns : List ByteArray) (po : ByteArray), o = .string po ∧ k = .int .i64 x ∧ x < n ∧ ns ≠ [] ∧ ns ++ namesUp l x = namesUp l (k0 : Int) ∧ po.data.toList = Lib.join (ns.reverse.map (·.data.toList)) [46] ∧ po.size ≤ ns.length * 1001) (fun _ k => (intOf k).toNat)
  case atStart =>
    have hx : (parents l)[k0]? = some ((parents l).getD k0 0) := by rw [List.getD, List.getElem?_eq_getElem (by rw [parents_length, ← HN.out]; exact hk1)]; rfl
    have hpl := parents_lt hx
    have hm : (l.getD k0 default).n.size ≤ 1000 := HNM.out _ (by rw [List.getD, List.getElem?_eq_getElem (by rw [← HN.out]; exact hk1)]; exact List.getElem_mem _)
    exact ⟨(parents l).getD k0 0, [(l.getD k0 default).n], _, rfl, rfl, by omega, by simp, (namesUp_step l k0 hk0 (by rw [← HN.out]; exact hk1)).symm, by simp [Lib.join_one], by rw [List.getD_eq_getElem?_getD] at hm; simp only [List.length_singleton]; omega⟩
  case round =>
    obtain ⟨x, ns, po, rfl, rfl, hx, hne, heq, hpo, hsz⟩ := hrel
    have hnl : ns.length ≤ 1000000 := by
      have h1 := congrArg List.length heq
      have h2 := namesUp_len l n (k0 : Int) (by omega) (by rw [← HN.out]; omega)
      simp at h1
      omega
    have HNE := Lib.hid hne; have HEQ := Lib.hid heq; have HPO := Lib.hid hpo; have HSZ := Lib.hid hsz
    have hpz : po.size ≤ 1001000000 := by omega
    clear hne heq hpo hsz
    by_cases hx0 : 0 < x
    · obtain ⟨j, rfl⟩ : ∃ j : Nat, x = j := ⟨x.toNat, by omega⟩
      have hj0 : 0 < j := by omega
      have hjn : j < n := by omega
      obtain ⟨b1, -, -, -⟩ := HSS.out j hjn
      have q1 := HPP.out j hjn
      have hxx : (parents l)[j]? = some ((parents l).getD j 0) := by rw [List.getD, List.getElem?_eq_getElem (by rw [parents_length, ← HN.out]; exact hjn)]; rfl
      have hpl := parents_lt hxx
      obtain ⟨p, hp⟩ : ∃ p, p = (parents l).getD j 0 := ⟨_, rfl⟩
      obtain ⟨nj, hnj⟩ : ∃ nj, nj = (l.getD j default).n := ⟨_, rfl⟩
      have hm : nj.size ≤ 1000 := by rw [hnj]; exact HNM.out _ (by rw [List.getD, List.getElem?_eq_getElem (by rw [← HN.out]; exact hjn)]; exact List.getElem_mem _)
      have HST := Lib.hid (show namesUp l (j : Int) = nj :: namesUp l p by rw [hnj, hp]; exact namesUp_step l j hj0 (by rw [← HN.out]; exact hjn))
      rw [← hp] at q1 hpl
      rw [← hnj] at b1
      have HPL := Lib.hid hpl
      have e1 : (nj ++ ({ data := #[46] } : ByteArray)).size = nj.size + 1 := by rw [ByteArray.size_append]; rfl
      have s1 : ¬ (9223372036854775807 < nj.size + 1) := by omega
      have s2 : ¬ (9223372036854775807 < nj.size + 1 + po.size) := by omega
      clear hxx hp hnj hpl
      go_wp2
      go_round
      case rel =>
        refine ⟨p, ns ++ [nj], _, rfl, rfl, by have := HPL.out; omega, by simp, ?_, ?_, ?_⟩
        · rw [List.append_assoc, List.singleton_append, ← HST.out]; exact HEQ.out
        · rw [join_more nj ns HNE.out, ← HPO.out]
          simp [ByteArray.data_append, Array.toList_append]
        · rw [List.length_append, ByteArray.size_append, ByteArray.size_append]
          have := HSZ.out
          show nj.size + 1 + po.size ≤ _
          simp only [List.length_singleton]
          omega
      case measure => have := HPL.out; simp [intOf]; omega
    · have d3 : decide (0 < x) = false := by simpa using hx0
      have E := Lib.hid (show pathB l (k0 : Int) = po by
        have h1 := HEQ.out
        rw [namesUp_none l x (by omega), List.append_nil] at h1
        rw [HP.out, ← h1, ← HPO.out])
      go_wp2
      go_ret
      exact ⟨by rw [E.out]; rfl, HC.out⟩

end Go.Proofs.Ythhcnlmjcpkbnaa
