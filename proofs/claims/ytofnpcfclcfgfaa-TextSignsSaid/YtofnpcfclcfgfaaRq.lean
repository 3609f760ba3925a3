/- Contract of the reference's Path, out of its Parents'. (For SchemaTells.) -/
import Derived.Test.YtofnpcfclcfgfaaPh
namespace Go.Proofs.Ytofnpcfclcfgfaa
open Go.RowKit
set_option linter.unusedVariables false

/-- What the reference's Parents answers (proved where its walk is). -/
def RParents : Prop := ∀ (sl : Value) (l : List F) (w : World), SeenF w sl l → l.length ≤ 1000000 → (∀ f ∈ l, f.c ≤ 9223372036854775807) →
  Calls Try.prog 38 #[sl] w fun e w' => ∃ v, e = .returned v ∧ SeenI w' v (parents l) ∧ Chg [] w w'

theorem join_more (n : ByteArray) (ns : List ByteArray) (h : ns ≠ []) : Lib.join ((ns ++ [n]).reverse.map (·.data.toList)) [46] = n.data.toList ++ [46] ++ Lib.join (ns.reverse.map (·.data.toList)) [46] := by
  rw [List.reverse_append, List.reverse_cons, List.reverse_nil, List.nil_append, List.singleton_append, List.map_cons, Lib.join_cons]
  have hne : ns.reverse.map (·.data.toList) ≠ [] := by simpa using h
  cases hq : ns.reverse.map (·.data.toList) with
  | nil => exact absurd hq hne
  | cons y r =>
    rw [Lib.join_cons]
    simp [Lib.joinTail]

set_option maxRecDepth 100000 in
set_option maxHeartbeats 2000000 in
theorem rpath_any (hR : RParents) (sl : Value) (l : List F) (f0 : Int) (w : World) (hS : SeenF w sl l) (hl : l.length ≤ 1000000) (hw : ∀ f ∈ l, f.c ≤ 9223372036854775807) (hn : ∀ f ∈ l, f.n.size ≤ 1000) :
    Calls Try.prog 37 #[sl, .int .i64 f0] w fun e w' => e = .returned (.string (pathB l f0)) ∧ Chg [] w w' := by
  obtain ⟨ao, cap, rfl, hc1, hc2⟩ := hS.shape
  have HS := Lib.hid hS; have HW := Lib.hid hw; have HNM := Lib.hid hn; have HR := Lib.hid hR
  clear hS hw hn hR
  obtain ⟨n, hnn⟩ : ∃ n, n = l.length := ⟨_, rfl⟩
  rw [← hnn] at hc1 hl HS ⊢
  have HN := Lib.hid hnn
  clear hnn
  by_cases h0 : f0 ≤ 0
  · have E := Lib.hid (path_none l f0 (.inl h0))
    have d1 : decide (f0 ≤ 0) = true := by simpa using h0
    go_enter Try.func37, Try.ntmps37
    go_wp2
    go_ret
    exact ⟨by rw [E.out]; rfl, Chg.refl [] w⟩
  have d1 : decide (f0 ≤ 0) = false := by simpa using h0
  by_cases hge : (n : Int) ≤ f0
  · have E := Lib.hid (path_none l f0 (.inr (by rw [← HN.out]; exact hge)))
    have d2 : decide ((n : Int) ≤ f0) = true := by simpa using hge
    go_enter Try.func37, Try.ntmps37
    go_wp2
    go_ret
    exact ⟨by rw [E.out]; rfl, Chg.refl [] w⟩
  have d2 : decide ((n : Int) ≤ f0) = false := by simpa using hge
  obtain ⟨k0, rfl⟩ : ∃ k : Nat, f0 = k := ⟨f0.toNat, by omega⟩
  have hk0 : 0 < k0 := by omega
  have hk1 : k0 < n := by omega
  have HP := Lib.hid (show pathB l (k0 : Int) = ⟨(Lib.join ((namesUp l (k0 : Int)).reverse.map (·.data.toList)) [46]).toArray⟩ by unfold pathB; rw [if_neg (by rw [← HN.out]; omega)])
  go_enter Try.func37, Try.ntmps37
  go_wp2_with fail
  refine (HR.out _ l w HS.out (by rw [← HN.out]; omega) HW.out).mono ?_
  rintro e w1 ⟨v1, rfl, hp1, hc⟩
  obtain ⟨po, pc, rfl, hpc1, hpc2⟩ := hp1.shape
  rw [parents_length, ← HN.out] at hpc1 hp1 ⊢
  obtain ⟨gp, op, rfl, hpp⟩ := SeenI.get hp1 (by omega) (by rw [parents_length, ← HN.out])
  obtain ⟨gs, os, rfl, hss⟩ := SeenF.get (SeenK.keep HS.out hc) (by omega) HN.out.symm
  have HPP := Lib.hid hpp; have HSS := Lib.hid hss; have HC := Lib.hid hc
  obtain ⟨a1, -, -, -⟩ := hss k0 hk1
  have p1 := hpp k0 hk1
  clear hp1 hc hpp hss
  go_wp2
  go_loop [6, 7] (fun o k => ∃ (x : Int) (ns : List ByteArray) (po : ByteArray), o = .string po ∧ k = .int .i64 x ∧ x < n ∧ ns ≠ [] ∧ ns ++ namesUp l x = namesUp l (k0 : Int) ∧ po.data.toList = Lib.join (ns.reverse.map (·.data.toList)) [46] ∧ po.size ≤ ns.length * 1001) (fun _ k => (intOf k).toNat)
  case atStart =>
    have hx : (parents l)[k0]? = some ((parents l).getD k0 0) := by rw [List.getD, List.getElem?_eq_getElem (by rw [parents_length, ← HN.out]; exact hk1)]; rfl
    have hpl := parents_lt hx
    have hm : (l.getD k0 default).n.size ≤ 1000 := HNM.out _ (by rw [List.getD, List.getElem?_eq_getElem (by rw [← HN.out]; exact hk1)]; exact List.getElem_mem _)
    exact ⟨(parents l).getD k0 0, [(l.getD k0 default).n], _, rfl, rfl, by omega, by simp, (namesUp_step l k0 hk0 (by rw [← HN.out]; exact hk1)).symm, by simp [Lib.join_one], by rw [List.getD_eq_getElem?_getD] at hm; simp only [List.length_singleton]; omega⟩
  case round =>
    obtain ⟨x, ns, po, rfl, rfl, hx, hne, heq, hpo, hsz⟩ := hrel
    have hnl : ns.length ≤ 1000000 := by
      have h1 := congrArg List.length heq
      have h2 := namesUp_len l n (k0 : Int) (by omega) (by rw [← HN.out]; omega)
      simp at h1
      omega
    have HNE := Lib.hid hne; have HEQ := Lib.hid heq; have HPO := Lib.hid hpo; have HSZ := Lib.hid hsz
    have hpz : po.size ≤ 1001000000 := by omega
    clear hne heq hpo hsz
    by_cases hx0 : 0 < x
    · obtain ⟨j, rfl⟩ : ∃ j : Nat, x = j := ⟨x.toNat, by omega⟩
      have hj0 : 0 < j := by omega
      have hjn : j < n := by omega
      obtain ⟨b1, -, -, -⟩ := HSS.out j hjn
      have q1 := HPP.out j hjn
      have hxx : (parents l)[j]? = some ((parents l).getD j 0) := by rw [List.getD, List.getElem?_eq_getElem (by rw [parents_length, ← HN.out]; exact hjn)]; rfl
      have hpl := parents_lt hxx
      obtain ⟨p, hp⟩ : ∃ p, p = (parents l).getD j 0 := ⟨_, rfl⟩
      obtain ⟨nj, hnj⟩ : ∃ nj, nj = (l.getD j default).n := ⟨_, rfl⟩
      have hm : nj.size ≤ 1000 := by rw [hnj]; exact HNM.out _ (by rw [List.getD, List.getElem?_eq_getElem (by rw [← HN.out]; exact hjn)]; exact List.getElem_mem _)
      have HST := Lib.hid (show namesUp l (j : Int) = nj :: namesUp l p by rw [hnj, hp]; exact namesUp_step l j hj0 (by rw [← HN.out]; exact hjn))
      rw [← hp] at q1 hpl
      rw [← hnj] at b1
      have HPL := Lib.hid hpl
      have e1 : (nj ++ ({ data := #[46] } : ByteArray)).size = nj.size + 1 := by rw [ByteArray.size_append]; rfl
      have s1 : ¬ (9223372036854775807 < nj.size + 1) := by omega
      have s2 : ¬ (9223372036854775807 < nj.size + 1 + po.size) := by omega
      clear hxx hp hnj hpl
      go_wp2
      go_round
      case rel =>
        refine ⟨p, ns ++ [nj], _, rfl, rfl, by have := HPL.out; omega, by simp, ?_, ?_, ?_⟩
        · rw [List.append_assoc, List.singleton_append, ← HST.out]; exact HEQ.out
        · rw [join_more nj ns HNE.out, ← HPO.out]
          simp [ByteArray.data_append, Array.toList_append]
        · rw [List.length_append, ByteArray.size_append, ByteArray.size_append]
          have := HSZ.out
          show nj.size + 1 + po.size ≤ _
          simp only [List.length_singleton]
          omega
      case measure => have := HPL.out; simp [intOf]; omega
    · have d3 : decide (0 < x) = false := by simpa using hx0
      have E := Lib.hid (show pathB l (k0 : Int) = po by
        have h1 := HEQ.out
        rw [namesUp_none l x (by omega), List.append_nil] at h1
        rw [HP.out, ← h1, ← HPO.out])
      go_wp2
      go_ret
      exact ⟨by rw [E.out]; rfl, HC.out⟩

end Go.Proofs.Ytofnpcfclcfgfaa
