/- Contract of schema.Path. -/
import Derived.Test.YtpbclmcngafngaaShl
namespace Go.Proofs.Ytpbclmcngafngaa
open Go.RowKit
set_option linter.unusedVariables false

def sv (ns : List ByteArray) : List Value := ns.map .string
@[simp] theorem sv_length (ns : List ByteArray) : (sv ns).length = ns.length := by simp [sv]

theorem info_string : ∃ i, Try.prog.info? 9 = some i ∧ i.zero = some (.string ByteArray.empty) ∧ i.size = 1 ∧ i.bytes = 16 :=
  info_parts (show (Try.prog.info? 9).map (fun i => (i.zero, i.size, i.bytes)) = some (some (.string ByteArray.empty), 1, 16) by kernel_rfl)

theorem Chg.setCells {S : List Nat} {a : World} {b : Nat} (hb : b ∈ S ∨ a.heap.size ≤ b) : ∀ (vs : List Value) (o : Nat) (w : World), Chg S a w → Chg S a (w.setCells b o vs)
  | [], o, w, h => h
  | v :: vs, o, w, h => Chg.setCells hb vs (o + 1) _ (h.setCell (p := ⟨b, o, none⟩) hb v)

/-- How Path stands at its label. -/
structure PHJ (l : List F) (f0 : Int) (wa w' : World) (x : Int) (ns : List ByteArray) (v : Value) : Prop where
  eq : ns ++ namesUp l x = namesUp l f0
  lt : x < l.length
  own : w'.ownsRow wa.heap.size 9 1 v ns.length (sv ns)
  cg : Chg [] wa w'
  len : ns.length ≤ l.length

theorem rev_cells (ns : List ByteArray) : (Lib.strsOf (fun i => ns.getD i ByteArray.empty) ns.length).reverse.map encStr = sv ns.reverse := by
  unfold sv Lib.strsOf
  rw [List.map_reverse, List.map_map, List.map_reverse]
  congr 1
  apply List.ext_getElem?
  intro i
  by_cases h : i < ns.length
  · simp [h, List.getD, encStr]
  · rw [List.getElem?_eq_none (by simp; omega), List.getElem?_eq_none (by simp; omega)]

theorem upN_mem (l : List F) (hn : ∀ f ∈ l, f.n.size ≤ 1000) : ∀ (f : Nat) (k : Int), k < l.length → ∀ z ∈ upN l f k, z.data.toList.length ≤ 1000 := by
  intro f
  induction f with
  | zero => intro k _ z hz; simp [upN] at hz
  | succ f ih =>
    intro k hk z hz
    rw [upN_succ] at hz
    split at hz
    · rename_i h0
      have hx : (parents l)[k.toNat]? = some ((parents l).getD k.toNat 0) := by rw [List.getD, List.getElem?_eq_getElem (by simp; omega)]; rfl
      have hp := parents_lt hx
      rcases List.mem_cons.1 hz with rfl | h1
      · have h2 : l.getD k.toNat default ∈ l := by rw [List.getD, List.getElem?_eq_getElem (by omega)]; exact List.getElem_mem _
        have := hn _ h2
        rw [Array.length_toList]
        exact this
      · exact ih _ (by omega) z h1
    · simp at hz

theorem names_size (l : List F) (hn : ∀ f ∈ l, f.n.size ≤ 1000) {k : Int} (hk : k < l.length) {z : ByteArray} (hz : z ∈ namesUp l k) : z.data.toList.length ≤ 1000 := upN_mem l hn _ k hk z hz

abbrev QF (ao : Option Addr) (n cap B : Nat) (x : Int) (v : Value) (u : Nat → Value) : Act :=
  { tmps := #[.slice ao n cap, .int .i64 x, undef, undef, .string { data := #[] }, .slice (some ⟨B, 0, none⟩) n n, v, u 7, u 8, u 9, u 10, u 11, u 12, u 13, u 14, u 15, u 16, u 17, u 18, u 19, u 20, u 21, u 22, u 23, u 24, u 25, u 26, u 27, u 28, u 29, u 30], defers := [] }

theorem QF_of {ao : Option Addr} {n cap B : Nat} {x : Int} {v : Value} {a : Act} (h : a = QF ao n cap B x v (fun j => a.tmps.getD j undef)) : ∃ u, a = QF ao n cap B x v u := ⟨_, h⟩

set_option maxRecDepth 100000 in
set_option maxHeartbeats 2000000 in
theorem path_any (sl : Value) (l : List F) (f0 : Int) (w : World) (hS : SeenF w sl l) (hl : l.length ≤ 1000000) (hw : ∀ f ∈ l, f.c ≤ 9223372036854775807) (hn : ∀ f ∈ l, f.n.size ≤ 1000) :
    Calls Try.prog 26 #[sl, .int .i64 f0] w fun e w' => e = .returned (.string (pathB l f0)) ∧ Chg [] w w' := by
  obtain ⟨i0, hi, hz0, hz1, hz2⟩ := info_string
  obtain ⟨ao, cap, rfl, hc1, hc2⟩ := hS.shape
  have HS := Lib.hid hS; have HW := Lib.hid hw; have HNM := Lib.hid hn
  clear hS hw hn
  obtain ⟨n, hnn⟩ : ∃ n, n = l.length := ⟨_, rfl⟩
  rw [← hnn] at hc1 hl HS ⊢
  have HN := Lib.hid hnn
  by_cases hge : (n : Int) ≤ f0
  · have E := Lib.hid (path_none l f0 (.inr (by rw [← hnn]; exact hge)))
    have d1 : decide ((n : Int) ≤ f0) = true := by simpa using hge
    clear hnn
    go_enter Try.func26, Try.ntmps26
    go_wp2_with fail
    refine wp_scope_jumps 0 (fun _ _ => False) (fun _ _ => 0) rfl ?_ (fun _ _ h => h.elim)
    go_wp2
    simp only [Exit.jump]
    go_ret
    exact ⟨by rw [E.out]; rfl, Chg.refl [] w⟩
  have d1 : decide ((n : Int) ≤ f0) = false := by simpa using hge
  have HP := Lib.hid (show pathB l f0 = ⟨(Lib.join ((namesUp l f0).reverse.map (·.data.toList)) [46]).toArray⟩ by unfold pathB; rw [if_neg (by omega)])
  clear hnn
  go_enter Try.func26, Try.ntmps26
  go_wp2_with fail
  refine wp_scope_pre3 0 (fun a' w' => ∃ (wa : World) (x : Int) (ns : List ByteArray) (v : Value), (∃ u, a' = QF ao n cap w.heap.size x v u) ∧ BlkI wa w.heap.size (parents l) ∧ Chg [] w wa ∧ PHJ l f0 wa w' x ns v)
    (fun a' _ => (intOf (a'.tmps.getD 1 undef)).toNat) rfl ?_ ?_
  · go_wp2_with fail
    (with_reducible refine (parents_any _ l w HS.out (by rw [← HN.out]; omega) HW.out).mono ?_)
    rw [← HN.out]
    rintro e w1 ⟨rfl, hb1, hk1⟩
    have HB1 := Lib.hid hb1; have HC1 := Lib.hid hk1
    clear hb1 hk1
    go_wp2
    exact ⟨w1, f0, [], .slice none 0 0, QF_of rfl, HB1.out, HC1.out, ⟨rfl, by rw [← HN.out]; omega, ⟨rfl, .inl ⟨rfl, rfl⟩⟩, Chg.refl _ _, by simp⟩⟩
  rintro a' wi ⟨wa, x, ns, v, ⟨u, rfl⟩, hba, hca, hJ⟩
  unfold QF
  obtain ⟨va, vc, rfl⟩ := own_shape hJ.own
  have HBA := Lib.hid hba; have HCA := Lib.hid hca; have HJ := Lib.hid hJ
  clear hba hca hJ
  by_cases hx : 0 < x
  · obtain ⟨k, rfl⟩ : ∃ k : Nat, x = k := ⟨x.toNat, by omega⟩
    have hkn : k < n := by have := HJ.out.lt; rw [← HN.out] at this; omega
    have hk0 : 0 < k := by omega
    obtain ⟨gs, off, rfl, hcs⟩ := HS.out.get (by omega) HN.out.symm
    obtain ⟨a1, -, -, -⟩ := hcs k hkn
    have hci : Chg [] w wi := HCA.out.trans HJ.out.cg (by simp)
    have b1 := hci.cell a1 (by simp)
    obtain ⟨p, hp⟩ : ∃ p, p = (parents l).getD k 0 := ⟨_, rfl⟩
    have hpx : (parents l)[k]? = some p := by rw [hp, List.getD, List.getElem?_eq_getElem (by rw [parents_length, ← HN.out]; exact hkn)]; rfl
    have hpl := parents_lt hpx
    have bp : ∀ w', Chg [] wa w' → w'.cell? ⟨w.heap.size, k, none⟩ = some (.int .i64 p) := fun w' h => (HBA.out.chg h (by simp)).cell hpx
    obtain ⟨nk, hnk⟩ : ∃ nk, nk = (l.getD k default).n := ⟨_, rfl⟩
    rw [← hnk] at b1
    have HST := Lib.hid (show namesUp l k = nk :: namesUp l p by rw [hnk, hp]; exact namesUp_step l k hk0 (by rw [← HN.out]; exact hkn))
    have HBP := Lib.hid bp; have HPL := Lib.hid hpl
    have hlen : ns.length < l.length := by
      have h1 := congrArg List.length HJ.out.eq
      rw [HST.out] at h1
      have h2 := namesUp_len l n f0 (by omega) (by rw [← HN.out]; omega)
      rw [HN.out] at h2
      simp at h1
      have h3 : (namesUp l f0).length ≤ l.length := h2
      omega
    have hwz : wa.heap.size ≤ wi.heap.size := HJ.out.cg.size
    have hm2 : ns.length + 1 ≤ maxLen := by unfold maxLen; rw [← HN.out] at hlen; omega
    have hm3 : (ns.length + 1) * 16 ≤ 140737488355328 := by rw [← HN.out] at hlen; omega
    have HM2 := Lib.hid hm2; have HM3 := Lib.hid hm3; have HLEN := Lib.hid hlen
    clear hcs a1 hp hpx bp hnk hlen hm2 hm3 hci
    go_wp2_with (at_builtin; refine wpList_append_own _ rfl _ _ 48 rfl wa.heap.size 9 i0 (.string ByteArray.empty) 1 16 Try.underlying48 hi hz0 hz1 hz2 rfl (by decide) _ _ _ rfl (HJ.out.own.alloc _) ⟨wi.heap.size, 0, none⟩ 1 1 [.string nk] rfl rfl (new_cells (C := #[.string nk]) wi.heap.size rfl) (by intro u hu; simp at hu; subst hu; rfl) HM2.out HM3.out (Nat.le_trans hwz (by simp)) ?_)
    intro v3 w3 hown hgrow _
    have HC3 := Lib.hid ((HJ.out.cg.alloc (.cells #[.string nk] 9)).grown hgrow (fun q hq => .inr (own_ge HJ.out.own q hq)))
    have HO3 := Lib.hid hown
    obtain ⟨ao3, cap3, rfl⟩ := own_shape hown
    have bp3 := HBP.out w3 HC3.out
    clear hown hgrow
    go_wp2
    go_step3
    refine ⟨rfl, ⟨wa, p, ns ++ [nk], _, QF_of rfl, HBA.out, HCA.out, ⟨?_, ?_, ?_, HC3.out, ?_⟩⟩, ?_⟩
    · rw [List.append_assoc, List.singleton_append, ← HST.out]; exact HJ.out.eq
    · rw [← HN.out]; have := HPL.out; omega
    · simpa [sv] using HO3.out
    · rw [List.length_append]; exact HLEN.out
    · have := HPL.out; simp [intOf]; omega
  · have HE := Lib.hid (show ns = namesUp l f0 by have h := HJ.out.eq; rw [namesUp_none l x (by omega), List.append_nil] at h; exact h)
    have d2 : decide (0 < x) = false := by simpa using hx
    have HCI := Lib.hid (show Chg [] w wi from HCA.out.trans HJ.out.cg (by simp))
    by_cases h0 : ns = []
    · have HP0 := Lib.hid (show pathB l f0 = ⟨#[]⟩ by rw [HP.out, ← HE.out, h0]; rfl)
      subst h0
      simp only [List.length_nil]
      go_wp2_with fail
      (with_reducible refine (slices_Reverse_string_empty va vc _).mono ?_)
      rintro e w3 ⟨rfl, rfl⟩
      go_wp2_with fail
      (with_reducible refine (strings_Join_none va vc _ _).mono ?_)
      rintro e w4 ⟨rfl, rfl⟩
      go_wp2
      simp only [Exit.jump]
      go_ret
      exact ⟨by rw [HP0.out]; rfl, HCI.out⟩
    · have hlp : 0 < ns.length := List.length_pos_iff.2 h0
      obtain ⟨g, rfl, hgB, hgw, hgf, hgc⟩ := own_ptr HJ.out.own hlp
      have hroom := own_room HJ.out.own
      have hnl : ns.length ≤ 1000000 := by have := HJ.out.len; rw [← HN.out] at this; omega
      have hcr : ∀ i, i < ns.length → wi.cell? ⟨g, 0 + i, none⟩ = some (.string (ns.getD i ByteArray.empty)) := fun i hi => by
        rw [Nat.zero_add]
        exact hgc i _ (by simp [sv, List.getD, hi])
      have hcv : (Lib.strsOf (fun i => ns.getD i ByteArray.empty) ns.length).reverse.map encStr = sv ns.reverse := rev_cells ns
      have hlen2 : (Lib.join (ns.reverse.map (·.data.toList)) [46]).length ≤ 140737488355328 := by
        have h1 := join_len [46] (ns.reverse.map (·.data.toList)) 1000 (fun y hy => by
          simp only [List.mem_map, List.mem_reverse] at hy
          obtain ⟨z, hz, rfl⟩ := hy
          rw [HE.out] at hz
          exact names_size l HNM.out (by rw [← HN.out]; omega) hz)
        simp only [List.length_map, List.length_reverse, List.length_cons, List.length_nil] at h1
        omega
      have HCR := Lib.hid hcr; have HCV := Lib.hid hcv; have HL2 := Lib.hid hlen2; have HGF := Lib.hid (show ∀ j, j < ns.length → wi.frozen? ⟨g, 0 + j, none⟩ = false from fun j _ => hgf _)
      have HGC := Lib.hid hgc
      have HP1 := Lib.hid (show pathB l f0 = ⟨(Lib.join (ns.reverse.map (·.data.toList)) [46]).toArray⟩ by rw [HP.out, ← HE.out])
      clear hcr hcv hlen2 hgf hgc h0
      go_wp2_with fail
      (with_reducible refine (slices_Reverse_string_cells g 0 ns.length vc (fun i => ns.getD i ByteArray.empty) _ (by omega) HCR.out HGF.out).mono ?_)
      rintro e w3 ⟨rfl, q, hw3⟩
      rw [HCV.out] at hw3
      have hc3 : Chg [] w w3 := by
        rw [hw3]
        exact Chg.setCells (.inr (Nat.le_trans HCA.out.size hgB)) _ _ _ (HCI.out.drewN q)
      have hcl3 : ∀ (j : Nat) x, ns.reverse[j]? = some x → w3.cell? ⟨g, 0 + j, none⟩ = some (.string x) := fun j y hy => by
        rw [hw3]
        have hj : j < (sv ns.reverse).length := by have := (List.getElem?_eq_some_iff.1 hy).1; simpa [sv] using this
        rw [World.cell?_setCells_in g (sv ns.reverse) 0 (wi.drewN q) (fun j hj => by
          have h1 := HCR.out j (by simpa [sv] using hj)
          show (wi.cell? ⟨g, 0 + j, none⟩).isSome = true
          rw [h1]; rfl) j hj]
        have h2 : (sv ns.reverse)[j]? = some (.string y) := by rw [sv, List.getElem?_map, hy]; rfl
        rw [List.getElem?_eq_getElem hj] at h2
        exact h2
      have hgw3 : g < w3.heap.size := by
        have h1 := hcl3 0 (ns.reverse[0]'(by simpa using hlp)) (List.getElem?_eq_getElem _)
        exact World.block_lt_of_cell? w3 _ h1
      have HC3 := Lib.hid hc3; have HCL3 := Lib.hid hcl3
      clear hw3 hc3 hcl3
      have hjn := strings_Join g 0 vc ns.reverse { data := #[46] } w3 HCL3.out hgw3 (by simp; omega) (by simp; omega) HL2.out
      rw [List.length_reverse] at hjn
      have HJN := Lib.hid hjn
      clear hjn
      go_wp2_with fail
      (with_reducible refine HJN.out.mono ?_)
      rintro e w4 ⟨rfl, hb4⟩
      have HC4 := Lib.hid (HC3.out.trans (Below.chg hb4) (by simp))
      clear hb4
      go_wp2
      simp only [Exit.jump]
      go_ret
      exact ⟨by rw [HP1.out, List.map_reverse]; rfl, HC4.out⟩

end Go.Proofs.Ytpbclmcngafngaa
