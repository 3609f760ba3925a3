/- project's kids: of each field which ones are in it, in order. -/
import Derived.Test.YtkbfbiklnjldgaaA5
import Derived.Test.YtkbfbiklnjldgaaA3
namespace Go.Proofs.Ytkbfbiklnjldgaa
open Go.RowKit
set_option linter.unusedVariables false

abbrev nilS : Value := .slice none 0 0

/-- Those of the first m whose group is g. -/
def kidsU (ps : List Int) (m g : Nat) : List Int := ((List.range m).filter fun i => ps.getD i 0 == (g : Int)).map fun (i : Nat) => (i : Int)

theorem kidsU_zero (ps : List Int) (g : Nat) : kidsU ps 0 g = [] := rfl

theorem kidsU_succ (ps : List Int) (m g : Nat) : kidsU ps (m + 1) g = if ps.getD m 0 = (g : Int) then kidsU ps m g ++ [(m : Int)] else kidsU ps m g := by
  unfold kidsU
  rw [List.range_succ, List.filter_append, List.map_append]
  split
  · rename_i h
    rw [List.getD] at h
    simp [h]
  · rename_i h
    rw [List.getD] at h
    simp [h]

theorem kidsU_len (ps : List Int) (m g : Nat) : (kidsU ps m g).length ≤ m := by
  unfold kidsU
  rw [List.length_map]
  exact Nat.le_trans (List.length_filter_le _ _) (by simp)

theorem blk_of_own {w : World} {B T g n cap : Nat} {xs : List Value} (h : w.ownsRow B T 1 (.slice (some ⟨g, 0, none⟩) n cap) n xs) (hc : cap = n) : w.heap[g]? = some (.cells xs.toArray T (0, 0)) := by
  obtain ⟨hl, h1⟩ := h
  rcases h1 with ⟨he, hn⟩ | ⟨g', cap', cur, he, _, hg, hcc, hm, hs, ht⟩
  · cases he
  · injection he with e1 e2 e3
    injection e1 with e1
    injection e1 with e1
    subst e1 e3 hc
    rw [hg]
    have hcur : cur = xs.toArray := by
      apply Array.ext'
      rw [← ht]
      simp at hl hs ⊢
      rw [List.take_of_length_le (by simp; omega)]
    rw [hcur]

theorem info_ints : ∃ i, Try.prog.info? 22 = some i ∧ i.zero = some nilS ∧ i.size = 1 ∧ i.bytes = 24 :=
  info_parts (show (Try.prog.info? 22).map (fun i => (i.zero, i.size, i.bytes)) = some (some nilS, 1, 24) by kernel_rfl)

theorem cells_zeros (n : Nat) : (madeCells #[nilS] n).toList = List.replicate n nilS := by
  rw [toList_madeCells_one]

/-- How kids stands once i fields have been looked at. -/
structure KJ (l : List F) (w wi : World) (g gp i : Nat) (R : List Value) : Prop where
  lr : R.length = l.length
  gb : w.heap.size ≤ g
  bl : wi.heap[g]? = some (.cells R.toArray 22 (0, 0))
  cg : Chg [] w wi
  ow : ∀ j, j < l.length → wi.ownsRow w.heap.size 3 1 (R.getD j nilS) (kidsU (parents l) i j).length (iv (kidsU (parents l) i j))
  sp : ∀ j k, j < l.length → k < l.length → j ≠ k → Sep (R.getD j nilS) (R.getD k nilS)
  ne : ∀ j, j < l.length → (R.getD j nilS).ownBlock ≠ some g
  np : ∀ j, j < l.length → (R.getD j nilS).ownBlock ≠ some gp
  bp : BlkI wi gp (parents l)
  gg : gp ≠ g

theorem KJ.skip {l : List F} {w wi w' : World} {g gp i : Nat} {R : List Value} (h : KJ l w wi g gp i R) (hp : (parents l).getD i 0 = -1) (hc : Chg [] wi w') : KJ l w w' g gp (i + 1) R := by
  refine ⟨h.lr, h.gb, hc.heap h.bl (by simp), h.cg.trans hc (by simp), fun j hj => ?_, h.sp, h.ne, h.np, h.bp.chg hc (by simp), h.gg⟩
  have e : kidsU (parents l) (i + 1) j = kidsU (parents l) i j := by rw [kidsU_succ, if_neg (by rw [hp]; omega)]
  rw [e]
  exact own_chg (h.ow j hj) hc (by simp)

theorem getD_setV (R : List Value) (p j : Nat) (v d : Value) (hp : p < R.length) : (R.set p v).getD j d = if j = p then v else R.getD j d := by
  split
  · rename_i h
    subst h
    rw [List.getD, List.getElem?_set_self hp]; rfl
  · rename_i h
    rw [List.getD, List.getElem?_set_ne (fun e => h e.symm), List.getD]

theorem KJ.put {l : List F} {w wi W w2 w3 : World} {g gp i p : Nat} {R : List Value} {v : Value} (h : KJ l w wi g gp i R) (hp : (parents l).getD i 0 = (p : Int)) (hpl : p < l.length)
    (C1 : Chg [] wi W) (h2 : w2.ownsRow w.heap.size 3 1 v ((kidsU (parents l) i p).length + 1) (iv (kidsU (parents l) i p) ++ [.int .i64 (i : Int)])) (g2 : W.grownBy w2 (R.getD p nilS).ownBlock) (a2 : v.ownBlock = (R.getD p nilS).ownBlock ∨ v.ownBlock = some W.heap.size)
    (hw3 : w3 = w2.setCell ⟨g, p, none⟩ v) : KJ l w w3 g gp (i + 1) (R.set p v) := by
  subst hw3
  have hW : ∀ {j}, j < l.length → W.ownsRow w.heap.size 3 1 (R.getD j nilS) (kidsU (parents l) i j).length (iv (kidsU (parents l) i j)) := fun hj => own_chg (h.ow _ hj) C1 (by simp)
  have hgW : W.heap[g]? = some (.cells R.toArray 22 (0, 0)) := C1.heap h.bl (by simp)
  have hg2 : w2.heap[g]? = some (.cells R.toArray 22 (0, 0)) := (g2.block g (Go.lt_of_block hgW) (fun e => h.ne p hpl e.symm)).trans hgW
  have hgl : g < W.heap.size := Go.lt_of_block hgW
  have hvg : v.ownBlock ≠ some g := by
    rcases a2 with e | e
    · rw [e]; exact h.ne p hpl
    · rw [e]; intro e2; injection e2 with e2; omega
  have hpW : BlkI W gp (parents l) := h.bp.chg C1 (by simp)
  have hp2 : BlkI w2 gp (parents l) := (g2.block gp hpW.lt (fun e => h.np p hpl e.symm)).trans hpW
  have hpl2 : gp < W.heap.size := hpW.lt
  have hvp : v.ownBlock ≠ some gp := by
    rcases a2 with e | e
    · rw [e]; exact h.np p hpl
    · rw [e]; intro e2; injection e2 with e2; omega
  have hk : Chg [g] w2 (w2.setCell ⟨g, p, none⟩ v) := (Chg.refl [g] w2).setCell (by simp) _
  refine ⟨by simp [h.lr], h.gb, ?_, ?_, fun j hj => ?_, fun j k hj hk' hjk => ?_, fun j hj => ?_, fun j hj => ?_, hp2.far (by simpa using h.gg) _, h.gg⟩
  · rw [heap_set hg2]; simp
  · exact ((h.cg.trans C1 (by simp)).grown g2 (fun q hq => .inr (own_ge (h.ow p hpl) q hq))).setCell (.inr h.gb) _
  · rw [getD_setV _ _ _ _ _ (by rw [h.lr]; exact hpl), kidsU_succ]
    by_cases hjp : j = p
    · subst hjp
      rw [if_pos rfl, if_pos hp]
      have := own_chg h2 hk (by intro q hq hm; simp at hm; rw [hm] at hq; exact hvg hq)
      rw [iv_snoc] at this
      simpa using this
    · rw [if_neg hjp, if_neg (by rw [hp]; omega)]
      exact own_chg (own_kept (hW hj) g2 (h.sp j p hj hpl hjp)) hk (by intro q hq hm; simp at hm; rw [hm] at hq; exact h.ne j hj hq)
  · rw [getD_setV _ _ _ _ _ (by rw [h.lr]; exact hpl), getD_setV _ _ _ _ _ (by rw [h.lr]; exact hpl)]
    by_cases h1 : j = p
    · rw [if_pos h1, if_neg (by omega)]
      exact (h.sp p k hpl hk' (by omega)).grow a2 (own_lt (hW hk'))
    · rw [if_neg h1]
      by_cases h2' : k = p
      · rw [if_pos h2']
        exact ((h.sp p j hpl hj (by omega)).grow a2 (own_lt (hW hj))).symm
      · rw [if_neg h2']; exact h.sp j k hj hk' hjk
  · rw [getD_setV _ _ _ _ _ (by rw [h.lr]; exact hpl)]
    by_cases h1 : j = p
    · rw [if_pos h1]; exact hvg
    · rw [if_neg h1]; exact h.ne j hj
  · rw [getD_setV _ _ _ _ _ (by rw [h.lr]; exact hpl)]
    by_cases h1 : j = p
    · rw [if_pos h1]; exact hvp
    · rw [if_neg h1]; exact h.np j hj

/-- A row of rows: what is in each field. -/
def KidsM (w : World) (g : Nat) (l : List F) : Prop := ∃ R : List Value, R.length = l.length ∧ w.heap[g]? = some (.cells R.toArray 22 (0, 0)) ∧ ∀ j, j < l.length → SeenI w (R.getD j nilS) (kidsU (parents l) l.length j)

theorem seenI_of_own {w : World} {B n : Nat} {v : Value} {l : List Int} (h : w.ownsRow B 3 1 v n (iv l)) (hn : n = l.length) : SeenI w v l := by
  have hr := reads_of_own h
  subst hn
  have hsh := hr.shape
  rw [show (iv l).length = l.length by simp [iv]] at hsh
  obtain ⟨ao, cap, rfl, hc1, hc2⟩ := hsh
  refine ⟨ao, cap, rfl, hc1, hc2, fun hn => ?_⟩
  obtain ⟨g, rfl, -, -, -, hc⟩ := own_ptr h hn
  refine ⟨g, 0, rfl, fun j x i u hx hu => ?_⟩
  have hi : i = 0 := by
    cases i with
    | zero => rfl
    | succ i => simp [ic] at hu
  subst hi
  simp [ic] at hu
  subst hu
  have := hc j (.int .i64 x) (by simp [iv, hx])
  simpa using this

theorem KJ.out {l : List F} {w wi : World} {g gp : Nat} {R : List Value} (h : KJ l w wi g gp l.length R) : KidsM wi g l :=
  ⟨R, h.lr, h.bl, fun j hj => seenI_of_own (h.ow j hj) rfl⟩

theorem KidsM.chg {w w' : World} {g : Nat} {l : List F} (h : KidsM w g l) (hc : Chg [] w w') : KidsM w' g l := by
  obtain ⟨R, h1, h2, h3⟩ := h
  exact ⟨R, h1, hc.heap h2 (by simp), fun j hj => (h3 j hj).keep hc⟩

end Go.Proofs.Ytkbfbiklnjldgaa
