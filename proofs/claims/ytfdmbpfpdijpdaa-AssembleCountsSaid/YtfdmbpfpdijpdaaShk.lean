/- The statements of law 14: known. -/
import Derived.Test.YtfdmbpfpdijpdaaShj
import Derived.Test.YtfdmbpfpdijpdaaYB
namespace Go.Proofs.Ytfdmbpfpdijpdaa
open Go.RowKit
set_option linter.unusedVariables false
set_option linter.unusedSimpArgs false

theorem CJ.get {Ls : List L} {WS : List (List Stp)} {L0 : List Tr} {w wi : World} {gc N j : Nat} {R : List C3} {lf : L} {W : List Stp} (h : CJ Ls WS L0 w wi gc N N R) (hj : j < N) (hl : Ls[j]? = some lf) (hW : WS[j]? = some W) :
    ∃ e, R[j]? = some e ∧ e.At lf (colC W L0) wi ∧ gc < e.lo ∧ wi.cell? ⟨gc, j * 3, none⟩ = some e.rv ∧ wi.cell? ⟨gc, j * 3 + 1, none⟩ = some e.dv ∧ wi.cell? ⟨gc, j * 3 + 2, none⟩ = some e.vv := by
  obtain ⟨e, he⟩ : ∃ e, R[j]? = some e := ⟨_, List.getElem?_eq_getElem (by rw [h.lr]; exact hj)⟩
  obtain ⟨lf', W', a1, a2, a3, a4⟩ := h.tr j e hj he
  rw [hl] at a1
  rw [hW] at a2
  cases a1
  cases a2
  refine ⟨e, he, a3, a4, ?_, ?_, ?_⟩
  · rw [cell_of_row wi gc _ _ _ _ h.bw]
    have h := flat_get encC_len R j e 0 e.rv he rfl
    simpa using h
  · rw [cell_of_row wi gc _ _ _ _ h.bw]
    have h := flat_get encC_len R j e 1 e.dv he rfl
    simpa using h
  · rw [cell_of_row wi gc _ _ _ _ h.bw]
    have h := flat_get encC_len R j e 2 e.vv he rfl
    simpa using h

set_option maxRecDepth 100000 in
theorem kl8_ways : lways kl8 = [[(0, 1)]] ∧ leavesL kl8 = [⟨1, 0, 1, 1⟩] ∧ chk kl8 = 0 := by decide +kernel
abbrev kt14 : Tr := .mk 0 ByteArray.empty [[]]
set_option maxRecDepth 100000 in
theorem kl8_fault : faultT kl8 [kt14] = 0 := by decide +kernel
theorem kl8_col : colC [(0, 1)] [kt14] = [⟨0, 0, kt14⟩] := by
  unfold colC
  rw [List.flatMap_cons, List.flatMap_nil, cellsV_none (by rfl)]
  rfl

theorem columns_ok (sv lv : Value) (l : List F) (L0 : List Tr) (d : Nat) (w : World) (hS : SeenF w sv l) (hL : ListAt w d L0 lv) (h1 : 1 ≤ l.length) (hl : l.length ≤ 1000) (hw : ∀ f ∈ l, f.c ≤ 9223372036854775807) (hn : ∀ f ∈ l, f.n.size ≤ 1000) (hr : ∀ f ∈ l, f.r = 0 ∨ f.r = 1 ∨ f.r = 2)
    (h0 : faultT l L0 = 0) (hm : L0.length ≤ 200) (Ls : List L) (WS : List (List Stp)) (hLs : leavesL l = Ls) (hWS : lways l = WS) (hok : ∀ W ∈ WS, (∀ t ∈ L0, WayOk W t) ∧ ∀ x ∈ colC W L0, x.t.s.size ≤ 281474976710656) (hC : ∀ W ∈ WS, (colC W L0).length ≤ 4000) :
    Calls Try.prog 31 #[sv, lv] w fun e w' => ∃ gc R, e = .returned (.tuple #[.slice (some ⟨gc, 0, none⟩) Ls.length Ls.length, .int .i64 0]) ∧ Chg [] w w' ∧ CJ Ls WS L0 w w' gc Ls.length Ls.length R := by
  subst hLs hWS
  refine (columns_any sv lv l L0 d w hS hL h1 hl hw hn hr (fun _ => hok)).mono ?_
  rintro e w' ⟨hk, hh⟩
  rw [if_neg (by omega), if_neg (by rw [h0]; simp), if_pos hC] at hh
  obtain ⟨gc, R, rfl, hJ⟩ := hh
  exact ⟨gc, R, rfl, hk, hJ⟩

set_option maxRecDepth 100000 in
set_option maxHeartbeats 1000000 in
theorem known14_any (w : World) : Calls Try.prog 29 #[] w fun e w' => e = .returned (.bool true) ∧ Chg [] w w' := by
  obtain ⟨A, hA⟩ : ∃ A : Array Value, A = #[.string { data := #[109] }, .int .i64 0, .int .i64 0, .int .i64 1, .string { data := #[97] }, .int .i64 1, .int .i64 1, .int .i64 0] := ⟨_, rfl⟩
  have hS1 : SeenF (w.alloc (.cells A 62)) (.slice (some ⟨w.heap.size, 0, none⟩) 2 2) kl8 := SeenF.lit w w.heap.size rfl _ A kl8 2 (by rw [hA]; rfl) rfl (by decide)
  have hS2 := hS1.keep ((Chg.refl [] _).alloc (.cells #[nilS] 28))
  have hK2 : KidsAt ((w.alloc (.cells A 62)).alloc (.cells #[nilS] 28)) 2 [[]] (.slice (some ⟨w.heap.size + 1, 0, none⟩) 1 1) :=
    kidsAt_lit (R := [([], nilS)]) (C := #[nilS]) (T := 28) (fr := (0, 0)) (by have := heap_alloc_new (w.alloc (.cells A 62)) (.cells #[nilS] 28); simpa using this) rfl rfl (by decide) (by intro p hp; simp at hp; subst hp; exact list_nil)
  obtain ⟨w2, hw2⟩ : ∃ z, z = ((w.alloc (.cells A 62)).alloc (.cells #[nilS] 28)) := ⟨_, rfl⟩
  have hz2 : w2.heap.size = w.heap.size + 2 := by rw [hw2]; simp
  rw [← hw2] at hS2 hK2
  have hC3 : Chg [] w2 (w2.alloc (.cells #[.int .i64 0, .string ByteArray.empty, .slice (some ⟨w.heap.size + 1, 0, none⟩) 1 1] 57)) := (Chg.refl [] _).alloc _
  have hL3 : ListAt (w2.alloc (.cells #[.int .i64 0, .string ByteArray.empty, .slice (some ⟨w.heap.size + 1, 0, none⟩) 1 1] 57)) 2 [kt14] (.slice (some ⟨w.heap.size + 2, 0, none⟩) 1 1) :=
    listAt_lit (E := [(kt14, .slice (some ⟨w.heap.size + 1, 0, none⟩) 1 1)]) (C := #[.int .i64 0, .string ByteArray.empty, .slice (some ⟨w.heap.size + 1, 0, none⟩) 1 1]) (T := 57) (fr := (0, 0)) (by have := heap_alloc_new w2 (.cells #[.int .i64 0, .string ByteArray.empty, .slice (some ⟨w.heap.size + 1, 0, none⟩) 1 1] 57); rw [hz2] at this; exact this) rfl rfl (by decide) (by intro p hp; simp at hp; subst hp; exact hK2.keep hC3)
  have HC := Lib.hid ((((Chg.refl [] w).alloc (.cells A 62)).alloc (.cells #[nilS] 28)).alloc (.cells #[.int .i64 0, .string ByteArray.empty, .slice (some ⟨w.heap.size + 1, 0, none⟩) 1 1] 57))
  have HF1 := Lib.hid (columns_ok _ _ kl8 [kt14] 2 _ (hS2.keep hC3) hL3 (by decide) (by decide) (by decide) (by decide) (by decide) kl8_fault (by decide) _ _ kl8_ways.2.1 kl8_ways.1 (by
    intro W hW
    rw [List.mem_singleton] at hW
    subst hW
    rw [kl8_col]
    exact ⟨by intro t ht; rw [List.mem_singleton] at ht; subst ht; exact ⟨by decide, by decide, by decide, fun x hx => by cases hx⟩, by intro x hx; rw [List.mem_singleton] at hx; subst hx; decide⟩) (by intro W hW; rw [List.mem_singleton] at hW; subst hW; rw [kl8_col]; decide))
  rw [hw2, hA, eS_eq] at HF1
  rw [hA, eS_eq] at HC
  clear hS1 hS2 hK2 hA hw2 hz2 hC3 hL3
  go_enter Try.func29, Try.ntmps29
  go_wp2_with fail
  (with_reducible refine HF1.out.mono ?_)
  rintro e w4 ⟨gc, R, rfl, hk, hJ⟩
  have HC4 := Lib.hid (HC.out.trans hk (by simp))
  obtain ⟨⟨rv, dv, vv, b1, b2⟩, -, ⟨ht, -, -⟩, -, c0, c1, c2⟩ := hJ.get (j := 0) (by decide) rfl rfl
  simp only at ht c0 c1 c2
  rw [kl8_col] at ht
  obtain ⟨ro, rc, rfl⟩ := own_shape ht.r
  obtain ⟨dso, dc, rfl⟩ := own_shape ht.d
  obtain ⟨vo, vc, rfl⟩ := own_shape ht.v
  obtain ⟨gr, rfl, -, -, -, hr⟩ := own_ptr ht.r (by decide)
  obtain ⟨gd, rfl, -, -, -, hd⟩ := own_ptr ht.d (by decide)
  have r0 := hr 0 (.int .i64 0) rfl
  have d0 := hd 0 (.int .i64 0) rfl
  clear hk hJ ht hr hd
  rw [show (colV 1 [(⟨0, 0, kt14⟩ : Cl)]).length = 0 from rfl] at c2
  go_wp2
  go_ret
  exact ⟨rfl, HC4.out⟩

end Go.Proofs.Ytfdmbpfpdijpdaa
