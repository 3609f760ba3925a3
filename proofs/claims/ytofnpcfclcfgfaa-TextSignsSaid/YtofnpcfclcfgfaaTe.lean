/- How text.read goes on: a field more, one more in its group, a group that opens. -/
import Derived.Test.YtofnpcfclcfgfaaTd
namespace Go.Proofs.Ytofnpcfclcfgfaa
open Go.RowKit
set_option linter.unusedVariables false

theorem wnB_empty : wnB ByteArray.empty = false := by decide
theorem refN_empty (a d : Nat) : refN ByteArray.empty a d = 6 := by unfold refN; rw [if_pos wnB_empty]
theorem refN_zero {x : ByteArray} {a d : Nat} (h : refN x a d = 0) : a < 40 ∧ d ≤ 8 ∧ wnB x = true := by
  unfold refN at h
  split at h
  · cases h
  · rename_i h1
    split at h
    · cases h
    · split at h
      · cases h
      · exact ⟨by omega, by omega, by simpa using h1⟩

theorem nmR_bad {ws : List ByteArray} {r k : Int} {S : List F} {o : List (Nat × Int)} (h : refN (ws.headD ByteArray.empty) S.length o.length ≠ 0) : nmR ws r k S o = (refN (ws.headD ByteArray.empty) S.length o.length, []) := by
  cases ws with
  | nil => simp only [List.headD_nil, refN_empty]; rfl
  | cons x t =>
    simp only [List.headD_cons] at h ⊢
    unfold nmR
    simp only
    rw [if_pos h]

theorem nmR_ok {ws : List ByteArray} {r k : Int} {S : List F} {o : List (Nat × Int)} (h : refN (ws.headD ByteArray.empty) S.length o.length = 0) :
    ws ≠ [] ∧ nmR ws r k S o = if k = 0 ∧ ws.tail.headD ByteArray.empty = wOp then rdM true ws.tail.tail (S ++ [⟨ws.headD ByteArray.empty, r, k, 0⟩]) ((S.length, 0) :: bumpO o) else if k ≠ 0 ∧ ws.tail.headD ByteArray.empty = wSc then rdM false ws.tail.tail (S ++ [⟨ws.headD ByteArray.empty, r, k, 0⟩]) (bumpO o) else (6, []) := by
  cases ws with
  | nil => rw [List.headD_nil, refN_empty] at h; cases h
  | cons x t =>
    refine ⟨by simp, ?_⟩
    simp only [List.headD_cons, List.tail_cons] at h ⊢
    unfold nmR
    simp only
    rw [if_neg (by rw [h]; simp)]
    cases t with
    | nil =>
      have e1 : ByteArray.empty ≠ wOp := by decide
      have e2 : ByteArray.empty ≠ wSc := by decide
      simp [e1, e2]
    | cons z t3 => simp

theorem RD.append {w w4 w5 : World} {gW gF : Nat} {ws : List ByteArray} {S : List F} {o : List (Nat × Int)} {r k : Int} {sv ov sv5 : Value} {ob : Obj} {f : F} {L : List Value} (h : RD w w4 gW gF ws S o r k sv ov)
    (hL : L = (withC S o).flatMap F.cs) (hown : w5.ownsRow w.heap.size 41 4 sv5 (S.length + 1) (L ++ F.cs f)) (hg : (w4.alloc ob).grownBy w5 sv.ownBlock) (hat : sv5.ownBlock = sv.ownBlock ∨ sv5.ownBlock = some (w4.alloc ob).heap.size) (hl : S.length < 40) : RD w w5 gW gF ws (S ++ [f]) o r k sv5 ov := by
  obtain ⟨wv0, hW, hs⟩ := h.hW
  obtain ⟨nm, hF⟩ := h.hF
  have hc : Chg sv.ownBlock.toList w4 w5 := ((Chg.refl _ w4).alloc ob).grown hg (fun g hg => .inl (by rw [hg]; simp))
  have hm : ∀ {g : Nat}, g ∈ sv.ownBlock.toList → sv.ownBlock = some g := fun hg => by simpa [eq_comm] using hg
  have hgF : gF < w4.heap.size := Go.lt_of_block hF
  refine ⟨h.cg.trans hc (fun g hg => .inr (own_ge h.os g (hm hg))), h.w1, h.f1, ⟨wv0, hc.heap hW (fun hg => own_ne h.os hW (by decide) gW (hm hg) rfl), hs⟩, ⟨nm, hc.heap hF (fun hg => h.sf (hm hg))⟩, ?_, own_chg h.oo hc (fun g hg hg2 => ?_), ?_, by simp; omega, h.lo, fun e he => ?_, h.nd, h.wz, h.wl⟩
  · rw [List.length_append, List.length_singleton, withC_snoc o S f (fun e he => (h.od e he).1), List.flatMap_append, ← hL]
    simpa using hown
  · obtain ⟨c1, f1, b1⟩ := tagged_of_own h.oo g hg
    obtain ⟨c2, f2, b2⟩ := tagged_of_own h.os g (hm hg2)
    exact blk_ne b1 b2 (by decide) rfl
  · rcases hat with e | e
    · rw [e]; exact h.sf
    · rw [e]; intro e2; injection e2 with e2; simp at e2; omega
  · have := h.od e he
    simp
    omega

theorem RD.bump {w w5 : World} {gW gF gs n5 c5 : Nat} {ws : List ByteArray} {S : List F} {g : Nat} {n : Int} {o : List (Nat × Int)} {r k : Int} {ov : Value} (h : RD w w5 gW gF ws S ((g, n) :: o) r k (.slice (some ⟨gs, 0, none⟩) n5 c5) ov) (hn5 : n5 = S.length) (hlt : n + 1 ≤ S.length) :
    RD w (w5.setCell ⟨gs, g * 4 + 3, none⟩ (.int .i64 (n + 1))) gW gF ws S ((g, n + 1) :: o) r k (.slice (some ⟨gs, 0, none⟩) n5 c5) ov := by
  subst hn5
  obtain ⟨wv0, hW, hs⟩ := h.hW
  obtain ⟨nm, hF⟩ := h.hF
  have hgd := h.od (g, n) (by simp)
  simp only at hgd
  have hnd := List.pairwise_cons.1 h.nd
  have hne : ∀ e ∈ o, e.1 ≠ g := fun e he => (hnd.1 e he).symm
  have hc : Chg [gs] w5 (w5.setCell ⟨gs, g * 4 + 3, none⟩ (.int .i64 (n + 1))) := (Chg.refl [gs] w5).setCell (by simp) _
  have hx : (withC S ((g, n) :: o))[g]? = some ((withC S ((g, n) :: o)).getD g default) := by rw [List.getD, List.getElem?_eq_getElem (by rw [withC_length]; exact hgd.1)]; rfl
  have hrow := own_set h.os (g * 4 + 3) (by omega) (.int .i64 (n + 1))
  have hat := withC_at (n := n) hgd.1 hne
  have hbf := bump_flat hx
  rw [hat] at hbf
  rw [hbf, ← withC_bump hgd.1 hne] at hrow
  refine ⟨h.cg.trans hc (by simp; exact own_ge h.os gs rfl), h.w1, h.f1, ⟨wv0, hc.heap hW (by simpa using (own_ne h.os hW (by decide) gs rfl).symm), hs⟩, ⟨nm, hc.heap hF (by simpa using fun e : gF = gs => h.sf (by rw [e]; rfl))⟩, hrow, own_chg h.oo hc (fun q hq hq2 => ?_), h.sf, h.ls, by simpa using h.lo, fun e he => ?_, List.pairwise_cons.2 ⟨hnd.1, hnd.2⟩, h.wz, h.wl⟩
  · simp at hq2
    obtain ⟨c1, f1, b1⟩ := tagged_of_own h.oo q hq
    obtain ⟨c2, f2, b2⟩ := tagged_of_own h.os gs rfl
    rw [hq2] at b1
    exact blk_ne b1 b2 (by decide) rfl
  · rcases List.mem_cons.1 he with rfl | he
    · exact ⟨hgd.1, by simp only; omega, by simp only; omega⟩
    · exact h.od e (by simp [he])

theorem RD.top {w w5 : World} {gW gF n5 c5 m5 c6 : Nat} {sa oa : Option Addr} {ws : List ByteArray} {S : List F} {g : Nat} {n : Int} {o : List (Nat × Int)} {r k : Int} (h : RD w w5 gW gF ws S ((g, n) :: o) r k (.slice sa n5 c5) (.slice oa m5 c6)) (hn5 : n5 = S.length) (hm5 : m5 = o.length + 1) :
    ∃ gs go, sa = some ⟨gs, 0, none⟩ ∧ oa = some ⟨go, 0, none⟩ ∧ w5.cell? ⟨gs, g * 4 + 3, none⟩ = some (.int .i64 n) ∧ w5.cell? ⟨go, o.length, none⟩ = some (.int .i64 (g : Int)) ∧ w5.frozen? ⟨gs, g * 4 + 3, none⟩ = false := by
  subst hn5 hm5
  have hgd := h.od (g, n) (by simp)
  simp only at hgd
  obtain ⟨gs, rfl, -, -, hfz, hcl⟩ := own_ptr h.os (by omega)
  obtain ⟨go, rfl, -, -, -, hco⟩ := own_ptr h.oo (by simp)
  have hnd := List.pairwise_cons.1 h.nd
  have hat := withC_at (n := n) hgd.1 (fun e he => (hnd.1 e he).symm)
  have hx : (withC S ((g, n) :: o))[g]? = some ((withC S ((g, n) :: o)).getD g default) := by rw [List.getD, List.getElem?_eq_getElem (by rw [withC_length]; exact hgd.1)]; rfl
  refine ⟨gs, go, rfl, rfl, ?_, hco _ _ (grS_last g n o), hfz _⟩
  have := hcl (g * 4 + 3) _ (flat_get F.cs_len _ g _ 3 _ hx rfl)
  rw [this, hat]

theorem grS_bump (o : List (Nat × Int)) : grS (bumpO o) = grS o := by
  cases o with
  | nil => rfl
  | cons e o => obtain ⟨g, n⟩ := e; simp [grS, bumpO]

theorem RD.open_ {w w4 w5 : World} {gW gF m : Nat} {ws : List ByteArray} {S : List F} {f : F} {o : List (Nat × Int)} {r k : Int} {sv ov ov5 : Value} {ob : Obj} {L : List Value} (h : RD w w4 gW gF ws (S ++ [f]) o r k sv ov) (hf : f.c = 0) (hm : m = o.length)
    (hL : L = iv (grS o)) (hown : w5.ownsRow w.heap.size 3 1 ov5 (m + 1) (L ++ [.int .i64 (S.length : Int)])) (hg : (w4.alloc ob).grownBy w5 ov.ownBlock) (hlo : o.length ≤ 8) (hod : ∀ e ∈ o, e.1 < S.length) : RD w w5 gW gF ws (S ++ [f]) ((S.length, 0) :: o) r k sv ov5 := by
  subst hm
  obtain ⟨wv0, hW, hs⟩ := h.hW
  obtain ⟨nm, hF⟩ := h.hF
  have hc : Chg ov.ownBlock.toList w4 w5 := ((Chg.refl _ w4).alloc ob).grown hg (fun g hg => .inl (by rw [hg]; simp))
  have hm : ∀ {g : Nat}, g ∈ ov.ownBlock.toList → ov.ownBlock = some g := fun hg => by simpa [eq_comm] using hg
  refine ⟨h.cg.trans hc (fun g hg => .inr (own_ge h.oo g (hm hg))), h.w1, h.f1, ⟨wv0, hc.heap hW (fun hg => own_ne h.oo hW (by decide) gW (hm hg) rfl), hs⟩, ⟨nm, hc.heap hF (fun hg => own_ne h.oo hF (by decide) gF (hm hg) rfl)⟩, ?_, ?_, h.sf, h.ls, by simp; omega, fun e he => ?_, List.pairwise_cons.2 ⟨fun e he => by have := hod e he; simp only; omega, h.nd⟩, h.wz, h.wl⟩
  · rw [withC_new hf]
    refine own_chg h.os hc (fun g hg hg2 => ?_)
    obtain ⟨c1, f1, b1⟩ := tagged_of_own h.oo g (hm hg2)
    obtain ⟨c2, f2, b2⟩ := tagged_of_own h.os g hg
    exact blk_ne b1 b2 (by decide) rfl
  · rw [List.length_cons, grS_cons, ← iv_snoc, ← hL]; exact hown
  · rcases List.mem_cons.1 he with rfl | he
    · simp; omega
    · exact h.od e he

end Go.Proofs.Ytofnpcfclcfgfaa
