/- Vg, Vh, Vj: texts of one group, one behind the other. -/
import Derived.Test.YtfdmbpfpdijpdaaVf
import Derived.Test.YtfdmbpfpdijpdaaRm
import Derived.Test.YtfdmbpfpdijpdaaShi
namespace Go.Proofs.Ytfdmbpfpdijpdaa
open Go.RowKit
set_option linter.unusedVariables false
set_option linter.unusedSimpArgs false

theorem kd_ok {w0 w1 : World} {wb cb N cc : Nat} {l : List F} {sv pv lv rv : Value} (K : WK14 w0 w1 wb cb N cc l sv pv lv rv) (hr : ∀ i, i < l.length → (l.getD i default).r = 0 ∨ (l.getD i default).r = 1 ∨ (l.getD i default).r = 2) :
    ∀ (fo : Fo) (i : Nat), fo.wf → HasK l i fo → i + fo.flat.length ≤ l.length → ∀ x ∈ kds i (lno l i) fo, KdOk w0 w1 wb cb N l x
  | .nil, i, _, _, _, x, hx => by simp [kds] at hx
  | .leaf f t, i, ⟨h1, h2, h3⟩, ⟨k1, k2⟩, hb, x, hx => by
    simp only [Fo.flat, List.length_cons] at hb
    have hk : (l.getD i default).k ≠ 0 := by rw [k1]; omega
    have hs := lno_succ l i
    rw [if_pos hk] at hs
    rcases List.mem_cons.1 hx with rfl | hx
    · refine ⟨by show i < l.length; omega, by show (l.getD i default).r = f.r; rw [k1], by have := hr i (by omega); rw [k1] at this; exact this, rnone_leaf K i (by omega) hk, fun rr dd _ hd => rvalue_leaf K i rr dd (by omega) hk hd, fun q h1 h2 => ?_⟩
      have e : q = lno l i := by
        have a1 : lno l i ≤ q := h1
        have a2 : q < lno l i + 1 := h2
        omega
      rw [e, List.getD, List.getD, leaf_no (by omega) hk]
      exact Int.le_refl _
    · rw [← hs] at hx
      exact kd_ok K hr t (i + 1) h3 k2 (by omega) x hx
  | .group f k t, i, ⟨h1, h2, h3, h4⟩, ⟨k1, k2, k3, k4⟩, hb, x, hx => by
    simp only [Fo.flat, List.length_cons, List.length_append] at hb
    have hk : (l.getD i default).k = 0 := by rw [k1]; exact h1
    have hs := lno_succ l i
    rw [if_neg (fun h => h hk), Nat.add_zero] at hs
    have hlk := lno_fo k (i + 1) h3 k3
    rw [hs] at hlk
    simp only [Nat.add_zero] at hlk
    have ihk := kd_ok K hr k (i + 1) h3 k3 (by omega)
    rw [hs] at ihk
    have hX : kidsU (parents l) l.length i = (kds (i + 1) (lno l i) k).map fun x => (x.i : Int) := by rw [k2, kds_tops]
    have hW := lwF_acc k (i + 1) (lno l i) 0
    rcases List.mem_cons.1 hx with rfl | hx
    · refine ⟨by show i < l.length; omega, by show (l.getD i default).r = f.r; rw [k1], by have := hr i (by omega); rw [k1] at this; exact this, ?_, fun rr dd h5 h6 => ?_, fun q h1 h2 => ?_⟩
      · have h := rnone_grp K i (lno l i) (by omega) hk _ hX (fun y hy => (ihk y hy).c) (kds_n k (i + 1) (lno l i))
        rw [← hW] at h
        exact h
      · have h := rvalue_grp K i (lno l i) rr dd (by omega) hk _ hX ihk (kds_n k (i + 1) (lno l i)) h5 h6
        rw [← hW] at h
        intro D w C r u kv a1 a2 a3 a4 a5
        exact h D w C r u kv a1 a2 a3 (kds_fit k (i + 1) (lno l i) u.k a4) a5
      · have a1 : lno l i ≤ q := h1
        have a2 : q < lno l i + (lwF [] k 0).length := h2
        refine leaf_ge hr k (i + 1) h3 k3 (by omega) (fun y hy => ?_) q (by omega) (by omega)
        rw [← k2] at hy
        obtain ⟨y', hyy, b1, b2⟩ := kidsU_mem.1 hy
        obtain rfl : y = y' := by omega
        have h5 := (lev_kid b1 b2 (hr y b1)).2
        show (dls l).getD i 0 ≤ _
        split at h5 <;> omega
    · have hlk2 : lno l (i + 1 + k.flat.length) = lno l i + (lwF [] k 0).length := hlk
      rw [← hlk2] at hx
      exact kd_ok K hr t (i + 1 + k.flat.length) h4 k4 (by omega) x hx

/-- The root's value: a record. -/
theorem rvalue_root {w0 w1 : World} {wb cb N cc : Nat} {l : List F} {sv pv lv rv : Value} (K : WK14 w0 w1 wb cb N cc l sv pv lv rv) (hr : ∀ i, i < l.length → (l.getD i default).r = 0 ∨ (l.getD i default).r = 1 ∨ (l.getD i default).r = 2) {r0 : F} {fo : Fo} (hl : l = r0 :: fo.flat) (hr1 : r0.k = 0) (hr0 : r0.r = 0) (hr3 : r0.c = fo.num) (hwf : fo.wf) :
    VC w0 w1 wb cb N (leavesL l) 0 0 0 0 (lways l) (fun t => fitF fo t.k) := by
  obtain ⟨hp, q1, q2⟩ := hasK_root hl hr1 hr3 hwf
  have hlen : l.length = 1 + fo.flat.length := by rw [hl, List.length_cons]; omega
  have hk : (l.getD 0 default).k = 0 := by rw [hl]; exact hr1
  have hs := lno_succ l 0
  rw [if_neg (fun h => h hk), Nat.add_zero] at hs
  have h0 : lno l 0 = 0 := rfl
  rw [h0] at hs
  have ih := kd_ok K hr fo 1 hwf q2 (by omega)
  rw [hs] at ih
  have hlv : ∀ b, b 0 = false → (cntL b (parents l)).getD 0 0 = 0 := fun b hb => by
    have h1 := cntL_at b (parents l) 0 (by rw [parents_length]; omega) (fun j x => parents_lt)
    have hp0 : (parents l).getD 0 0 = -1 := by rw [hp]; rfl
    rw [hp0, hb] at h1
    unfold cat at h1
    rw [if_pos rfl] at h1
    simpa using h1
  have hg0 : (l.getD 0 default).r = 0 := by rw [hl]; exact hr0
  have h := rvalue_grp K 0 0 0 0 (by omega) hk (kds 1 0 fo) (by rw [q1, kds_tops]) ih (kds_n fo 1 0) (hlv _ (by unfold repB; rw [hg0]; rfl)) (hlv _ (by unfold optB; rw [hg0]; rfl))
  rw [lways_root hl hr1 hr3 hwf, lwF_acc fo 1 0 0]
  intro D w C r u kv a1 a2 a3 a4 a5
  exact h D w C r u kv a1 a2 a3 (kds_fit fo 1 0 u.k a4) a5

end Go.Proofs.Ytfdmbpfpdijpdaa

namespace Go.Proofs.Ytfdmbpfpdijpdaa
open Go.RowKit
set_option linter.unusedVariables false
set_option linter.unusedSimpArgs false

theorem info_work14 : ∃ i, Try.prog.info? 81 = some i ∧ i.zero = some (.agg #[.slice none 0 0, .slice none 0 0, .slice none 0 0, .slice none 0 0, .slice none 0 0]) ∧ i.size = 5 :=
  let ⟨i, h⟩ := info_parts (show (Try.prog.info? 81).map (fun i => (i.zero, i.size, i.bytes)) = some (some (.agg #[.slice none 0 0, .slice none 0 0, .slice none 0 0, .slice none 0 0, .slice none 0 0]), 5, 120) by kernel_rfl)
  ⟨i, h.1, h.2.1, h.2.2.1⟩

/-- The columns' cells, while none has a cell. -/
def nils (m : Nat) : List Value := List.replicate (m * 3) (.slice none 0 0)
theorem nils_succ (m : Nat) : nils (m + 1) = nils m ++ [.slice none 0 0, .slice none 0 0, .slice none 0 0] := by
  unfold nils
  rw [show (m + 1) * 3 = m * 3 + 3 by omega, ← List.replicate_append_replicate]; rfl

/-- How it stands once i fields are gone past. -/
structure BJ (l : List F) (w1 w : World) (sv pv : Value) (i m : Nat) (lv rv cv : Value) : Prop where
  c : Chg [] w1 w
  b : w.heap[w1.heap.size]? = some (.cells #[sv, pv, lv, rv, cv] 81 (0, 0))
  r : w.ownsRow (w1.heap.size + 1) 3 1 rv i (iv ((rls l).take i))
  l : w.ownsRow (w1.heap.size + 1) 3 1 lv i (iv ((lfs l).take i))
  v : w.ownsRow (w1.heap.size + 1) 42 3 cv m (nils m)
  s : Sep rv lv

theorem lfs_succ {l : List F} {i : Nat} (hi : i < l.length) : (lfs l).take (i + 1) = (lfs l).take i ++ [if (l.getD i default).k = 0 then -1 else (lno l i : Int)] := by
  rw [List.take_add_one]
  congr 1
  unfold lfs
  rw [List.getElem?_map, List.getElem?_range hi]
  rfl

theorem rls_succ {l : List F} {i : Nat} (hi : i < l.length) : (rls l).take (i + 1) = (rls l).take i ++ [(rls l).getD i 0] := by
  rw [List.take_add_one]
  congr 1
  rw [List.getD, List.getElem?_eq_getElem (by rw [rls_length]; exact hi)]
  rfl

/-- One of the int rows has grown, and is laid into the struct. -/
theorem BJ.goR {l : List F} {w1 w w2 : World} {sv pv lv rv rv' cv : Value} {i m : Nat} (h : BJ l w1 w sv pv i m lv rv cv) (hi : i < l.length) (o : Obj) (hg : (w.alloc o).grownBy w2 rv.ownBlock) (ho : w2.ownsRow (w1.heap.size + 1) 3 1 rv' (i + 1) (iv ((rls l).take (i + 1)))) (hat : rv'.ownBlock = rv.ownBlock ∨ rv'.ownBlock = some (w.alloc o).heap.size) :
    Chg [] w1 (w2.setCell ⟨w1.heap.size, 3, none⟩ rv') ∧ (w2.setCell ⟨w1.heap.size, 3, none⟩ rv').heap[w1.heap.size]? = some (.cells #[sv, pv, lv, rv', cv] 81 (0, 0)) ∧ (w2.setCell ⟨w1.heap.size, 3, none⟩ rv').ownsRow (w1.heap.size + 1) 3 1 rv' (i + 1) (iv ((rls l).take (i + 1))) ∧
    (w2.setCell ⟨w1.heap.size, 3, none⟩ rv').ownsRow (w1.heap.size + 1) 3 1 lv i (iv ((lfs l).take i)) ∧ (w2.setCell ⟨w1.heap.size, 3, none⟩ rv').ownsRow (w1.heap.size + 1) 42 3 cv m (nils m) ∧ Sep rv' lv := by
  have hal : Chg [] w (w.alloc o) := (Chg.refl [] w).alloc o
  have hc : Chg rv.ownBlock.toList (w.alloc o) w2 := (Chg.refl _ _).grown hg (fun q hq => .inl (by simp [← hq]))
  have hrn : ∀ g, rv.ownBlock = some g → w1.heap.size + 1 ≤ g := fun g hg => own_ge h.r g hg
  have hb2 : w2.heap[w1.heap.size]? = some (.cells #[sv, pv, lv, rv, cv] 81 (0, 0)) := hc.heap (hal.heap h.b (by simp)) (fun hm => by have := hrn _ (by simpa using hm); omega)
  have hs : Chg [w1.heap.size] w2 (w2.setCell ⟨w1.heap.size, 3, none⟩ rv') := (Chg.refl _ _).setCell (.inl (by simp)) _
  have hlow : ∀ {v : Value} {T s n : Nat} {xs : List Value}, w2.ownsRow (w1.heap.size + 1) T s v n xs → ∀ g, v.ownBlock = some g → g ∉ [w1.heap.size] := fun hh g hg hm => by have := own_ge hh g hg; simp at hm; omega
  have hl2 : w2.ownsRow (w1.heap.size + 1) 3 1 lv i (iv ((lfs l).take i)) := own_chg (own_chg h.l hal (by simp)) hc (fun g hg hm => h.s g (by simpa using hm) hg)
  have hv2 : w2.ownsRow (w1.heap.size + 1) 42 3 cv m (nils m) := own_chg (own_chg h.v hal (by simp)) hc (fun g hg hm => by
    obtain ⟨A, fr, hA⟩ := tagged_of_own h.r g (by simpa using hm)
    exact (tagged_of_own h.v).ne hA (by decide) g hg rfl)
  refine ⟨((h.c.alloc o).trans hc (fun g hg => .inr (by have := hrn g (by simpa using hg); omega))).setCell (.inr (Nat.le_refl _)) _, heap_set hb2 rv', own_chg ho hs (hlow ho), own_chg hl2 hs (hlow hl2), own_chg hv2 hs (hlow hv2), ?_⟩
  exact Sep.grow h.s hat (fun g hg => by have := own_lt (own_chg h.l hal (by simp)) g hg; exact this)

theorem BJ.goL {l : List F} {w1 w w2 : World} {sv pv lv lv' rv cv : Value} {i m : Nat} (hc1 : Chg [] w1 w) (hb : w.heap[w1.heap.size]? = some (.cells #[sv, pv, lv, rv, cv] 81 (0, 0))) (hr : w.ownsRow (w1.heap.size + 1) 3 1 rv (i + 1) (iv ((rls l).take (i + 1)))) (hl : w.ownsRow (w1.heap.size + 1) 3 1 lv i (iv ((lfs l).take i))) (hv : w.ownsRow (w1.heap.size + 1) 42 3 cv m (nils m)) (hs : Sep rv lv)
    (o : Obj) (hg : (w.alloc o).grownBy w2 lv.ownBlock) (ho : w2.ownsRow (w1.heap.size + 1) 3 1 lv' (i + 1) (iv ((lfs l).take (i + 1)))) (hat : lv'.ownBlock = lv.ownBlock ∨ lv'.ownBlock = some (w.alloc o).heap.size) : BJ l w1 (w2.setCell ⟨w1.heap.size, 2, none⟩ lv') sv pv (i + 1) m lv' rv cv := by
  have hal : Chg [] w (w.alloc o) := (Chg.refl [] w).alloc o
  have hc : Chg lv.ownBlock.toList (w.alloc o) w2 := (Chg.refl _ _).grown hg (fun q hq => .inl (by simp [← hq]))
  have hrn : ∀ g, lv.ownBlock = some g → w1.heap.size + 1 ≤ g := fun g hg => own_ge hl g hg
  have hb2 : w2.heap[w1.heap.size]? = some (.cells #[sv, pv, lv, rv, cv] 81 (0, 0)) := hc.heap (hal.heap hb (by simp)) (fun hm => by have := hrn _ (by simpa using hm); omega)
  have hs2 : Chg [w1.heap.size] w2 (w2.setCell ⟨w1.heap.size, 2, none⟩ lv') := (Chg.refl _ _).setCell (.inl (by simp)) _
  have hlow : ∀ {v : Value} {T s n : Nat} {xs : List Value}, w2.ownsRow (w1.heap.size + 1) T s v n xs → ∀ g, v.ownBlock = some g → g ∉ [w1.heap.size] := fun hh g hg hm => by have := own_ge hh g hg; simp at hm; omega
  have hr2 : w2.ownsRow (w1.heap.size + 1) 3 1 rv (i + 1) (iv ((rls l).take (i + 1))) := own_chg (own_chg hr hal (by simp)) hc (fun g hg hm => hs g hg (by simpa using hm))
  have hv2 : w2.ownsRow (w1.heap.size + 1) 42 3 cv m (nils m) := own_chg (own_chg hv hal (by simp)) hc (fun g hg hm => by
    obtain ⟨A, fr, hA⟩ := tagged_of_own hl g (by simpa using hm)
    exact (tagged_of_own hv).ne hA (by decide) g hg rfl)
  refine ⟨((hc1.alloc o).trans hc (fun g hg => .inr (by have := hrn g (by simpa using hg); omega))).setCell (.inr (Nat.le_refl _)) _, heap_set hb2 lv', own_chg hr2 hs2 (hlow hr2), own_chg ho hs2 (hlow ho), own_chg hv2 hs2 (hlow hv2), ?_⟩
  exact (Sep.grow hs.symm hat (fun g hg => by have := own_lt (own_chg hr hal (by simp)) g hg; exact this)).symm

theorem BJ.goC {l : List F} {w1 w w2 : World} {sv pv lv rv cv cv' : Value} {i m : Nat} (h : BJ l w1 w sv pv i m lv rv cv) (o : Obj) (hg : (w.alloc o).grownBy w2 cv.ownBlock) (ho : w2.ownsRow (w1.heap.size + 1) 42 3 cv' (m + 1) (nils (m + 1))) : BJ l w1 (w2.setCell ⟨w1.heap.size, 4, none⟩ cv') sv pv i (m + 1) lv rv cv' := by
  have hal : Chg [] w (w.alloc o) := (Chg.refl [] w).alloc o
  have hc : Chg cv.ownBlock.toList (w.alloc o) w2 := (Chg.refl _ _).grown hg (fun q hq => .inl (by simp [← hq]))
  have hrn : ∀ g, cv.ownBlock = some g → w1.heap.size + 1 ≤ g := fun g hg => own_ge h.v g hg
  have hb2 : w2.heap[w1.heap.size]? = some (.cells #[sv, pv, lv, rv, cv] 81 (0, 0)) := hc.heap (hal.heap h.b (by simp)) (fun hm => by have := hrn _ (by simpa using hm); omega)
  have hs2 : Chg [w1.heap.size] w2 (w2.setCell ⟨w1.heap.size, 4, none⟩ cv') := (Chg.refl _ _).setCell (.inl (by simp)) _
  have hlow : ∀ {v : Value} {T s n : Nat} {xs : List Value}, w2.ownsRow (w1.heap.size + 1) T s v n xs → ∀ g, v.ownBlock = some g → g ∉ [w1.heap.size] := fun hh g hg hm => by have := own_ge hh g hg; simp at hm; omega
  have hne : ∀ {v : Value} {n : Nat} {xs : List Value}, w.ownsRow (w1.heap.size + 1) 3 1 v n xs → w2.ownsRow (w1.heap.size + 1) 3 1 v n xs := fun hh => own_chg (own_chg hh hal (by simp)) hc (fun g hg hm => by
    obtain ⟨A, fr, hA⟩ := tagged_of_own h.v g (by simpa using hm)
    exact (tagged_of_own hh).ne hA (by decide) g hg rfl)
  have hr2 := hne h.r
  have hl2 := hne h.l
  exact ⟨((h.c.alloc o).trans hc (fun g hg => .inr (by have := hrn g (by simpa using hg); omega))).setCell (.inr (Nat.le_refl _)) _, heap_set hb2 cv', own_chg hr2 hs2 (hlow hr2), own_chg hl2 hs2 (hlow hl2), own_chg ho hs2 (hlow ho), h.s⟩

theorem cells5 {w : World} {g : Nat} {T : TypeId} {a b c d e : Value} (h : w.heap[g]? = some (.cells #[a, b, c, d, e] T (0, 0))) : w.cell? ⟨g, 0, none⟩ = some a ∧ w.cell? ⟨g, 1, none⟩ = some b ∧ w.cell? ⟨g, 2, none⟩ = some c ∧ w.cell? ⟨g, 3, none⟩ = some d ∧ w.cell? ⟨g, 4, none⟩ = some e ∧ ∀ i, w.frozen? ⟨g, i, none⟩ = false :=
  ⟨by rw [cell_of_row w g 0 _ _ _ h]; rfl, by rw [cell_of_row w g 1 _ _ _ h]; rfl, by rw [cell_of_row w g 2 _ _ _ h]; rfl, by rw [cell_of_row w g 3 _ _ _ h]; rfl, by rw [cell_of_row w g 4 _ _ _ h]; rfl, fun i => by simp [World.frozen?, h]⟩

/-- It has begun. -/
theorem BJ.done {l : List F} {w0 w1 w : World} {sv pv lv rv cv : Value} (h : BJ l w1 w sv pv l.length (leavesL l).length lv rv cv) (hS : SeenF w0 sv l) (h01 : Chg [] w0 w1) (hP : SeenI w1 pv (parents l)) (hn : l.length ≤ 1000) (hN : 0 < (leavesL l).length) :
    ∃ cb cc, cv = .slice (some ⟨cb, 0, none⟩) (leavesL l).length cc ∧ ((leavesL l).length ≤ cc ∧ cc ≤ maxLen) ∧ WK14 w0 w w1.heap.size cb (leavesL l).length cc l sv pv lv rv ∧ CS w cb (leavesL l).length (leavesL l) (fun _ => []) w := by
  obtain ⟨cb, cc, A, he, hb, hA, hr1, hr2, -, hxx⟩ : ∃ cb cc A, cv = .slice (some ⟨cb, 0, none⟩) (leavesL l).length cc ∧ w1.heap.size + 1 ≤ cb ∧ w.heap[cb]? = some (.cells A 42 (0, 0)) ∧ (leavesL l).length ≤ cc ∧ cc ≤ maxLen ∧ A.size = cc * 3 ∧ A.toList.take ((leavesL l).length * 3) = nils (leavesL l).length := by
    obtain ⟨-, hv⟩ := h.v
    rcases hv with ⟨-, hn⟩ | ⟨g, cap, cur, he, hb, hg, hc, hm, hs, hx⟩
    · omega
    · exact ⟨g, cap, cur, he, hb, hg, hc, hm, hs, hx⟩
  have hcb : cb < w.heap.size := Go.lt_of_block hA
  have hsz := h01.size
  have hlr : (rls l).take l.length = rls l := List.take_of_length_le (by rw [rls_length]; exact Nat.le_refl _)
  have hll : (lfs l).take l.length = lfs l := List.take_of_length_le (by rw [lfs_len]; exact Nat.le_refl _)
  have hr := h.r
  have hl := h.l
  rw [hlr] at hr
  rw [hll] at hl
  refine ⟨cb, cc, he, ⟨hr1, hr2⟩, ⟨h01.trans h.c (by simp), by omega, Go.lt_of_block h.b, hcb, by omega, rfl, hn, fun w' hc => ?_, fun w' hc => ?_, fun w' hc => ?_, fun w' hc => ?_, fun w' hc => ?_⟩, ⟨Chg.refl _ _, fun _ => nil0, A, hA, fun p hp => ?_, GR.nils _ _ _ _ fun p => ?_⟩⟩
  · obtain ⟨a, b, c, d, e, -⟩ := cells5 (hc.heap h.b (by simp; omega))
    exact ⟨a, b, c, d, by rw [e, he]⟩
  · exact hS.keep ((h01.trans h.c (by simp)).trans hc (fun g hg => .inr (by simp at hg; omega)))
  · exact hP.keep (h.c.trans hc (fun g hg => .inr (by simp at hg; omega)))
  · exact seenI_of_own (own_chg hl hc (fun g hg hm => by simp at hm; exact (tagged_of_own hl).ne hA (by decide) g hg hm)) (by rw [lfs_len])
  · exact seenI_of_own (own_chg hr hc (fun g hg hm => by simp at hm; exact (tagged_of_own hr).ne hA (by decide) g hg hm)) (by rw [rls_length])
  · have h2 := congrArg (·[p]?) hxx
    simp only [List.getElem?_take, if_pos hp] at h2
    rw [← Array.getElem?_toList, h2]
    unfold nils
    rw [List.getElem?_replicate, if_pos hp]
  · unfold refX
    by_cases e : p % 3 = 2
    · rw [if_pos e]; right; rfl
    · rw [if_neg e]; left; split <;> rfl

end Go.Proofs.Ytfdmbpfpdijpdaa

namespace Go.Proofs.Ytfdmbpfpdijpdaa
open Go.RowKit
set_option linter.unusedVariables false
set_option linter.unusedSimpArgs false

set_option maxRecDepth 100000 in
set_option maxHeartbeats 8000000 in
theorem rbegin14_any (sv : Value) (l : List F) (w : World) (hS : SeenF w sv l) (h1 : 1 ≤ l.length) (hl : l.length ≤ 1000) (hw : ∀ f ∈ l, f.c ≤ 9223372036854775807) (hN : 0 < (leavesL l).length) :
    Calls Try.prog 41 #[sv] w fun e w' => ∃ wb cb cc pv lv rv, e = .returned (.pointer (some ⟨wb, 0, none⟩)) ∧ Chg [] w w' ∧ ((leavesL l).length ≤ cc ∧ cc ≤ maxLen) ∧ WK14 w w' wb cb (leavesL l).length cc l sv pv lv rv ∧ CS w' cb (leavesL l).length (leavesL l) (fun _ => []) w' := by
  obtain ⟨i0, hi, hz0, hz1, hz2⟩ := info_int
  obtain ⟨i2, ji, jz0, jz1, jz2⟩ := info_col
  obtain ⟨ao, cap, rfl, hc1, hc2⟩ := hS.shape
  have HS := Lib.hid hS; have HW := Lib.hid hw; have HNL := Lib.hid hN
  clear hS hw hN
  obtain ⟨n, hn⟩ : ∃ n, n = l.length := ⟨_, rfl⟩
  rw [← hn] at hc1 hl h1 HS ⊢
  have HN := Lib.hid hn
  clear hn
  go_enter Try.func41, Try.ntmps41
  go_wp2_with fail
  refine (rparents_any _ l w HS.out (by rw [← HN.out]; omega) HW.out).mono ?_
  rintro e w1 ⟨v1, rfl, hp1, hc⟩
  obtain ⟨po, pc, rfl, hpc1, hpc2⟩ := hp1.shape
  rw [parents_length, ← HN.out] at hpc1 hp1 ⊢
  have HP := Lib.hid hp1; have HC := Lib.hid hc
  clear hp1 hc
  go_wp2
  obtain ⟨gb, hgb⟩ : ∃ g, g = w1.heap.size := ⟨_, rfl⟩
  rw [← hgb]
  have HGB := Lib.hid hgb
  clear hgb
  have hmw : ∀ m : Nat, m ≤ n → IntKind.i64.wrap ((m : Int) + 1) = (m : Int) + 1 := fun m hm => IntWalk.i64_in _ (by omega)
  have HMW := Lib.hid hmw
  clear hmw
  go_loopw [4, 5] (fun s x wx => ∃ (i : Nat) (lv rv cv : Value), s = .int .i64 (lno l i : Int) ∧ x = .int .i64 (i : Int) ∧ i ≤ n ∧ BJ l w1 wx (.slice ao n cap) (.slice po n pc) i (lno l i) lv rv cv) (fun _ x _ => n - (intOf x).toNat)
  case atStart =>
    refine ⟨0, .slice none 0 0, .slice none 0 0, .slice none 0 0, rfl, rfl, Nat.zero_le _, (Chg.refl [] w1).alloc _, heap_alloc_new w1 _, World.ownsRow_nil _ _ _ _, World.ownsRow_nil _ _ _ _, World.ownsRow_nil _ _ _ _, Sep.nil _⟩
  case round =>
    obtain ⟨i, lv, rv, cv, rfl, rfl, hin, hJ⟩ := hrel
    obtain ⟨m, hm⟩ : ∃ m, m = lno l i := ⟨_, rfl⟩
    have hmi : m ≤ i := by rw [hm]; exact leavesTo_le l i
    rw [← hm] at hJ ⊢
    have HM := Lib.hid hm
    clear hm
    obtain ⟨lo', lc, rfl⟩ := own_shape hJ.l
    obtain ⟨ro', rc, rfl⟩ := own_shape hJ.r
    obtain ⟨co', cc, rfl⟩ := own_shape hJ.v
    have HJ := Lib.hid hJ
    obtain ⟨b0, b1, b2, b3, b4, bf⟩ := cells5 hJ.b
    rw [← HGB.out] at b0 b1 b2 b3 b4 bf
    have bf2 := bf 2
    have bf3 := bf 3
    have bf4 := bf 4
    clear hJ bf
    by_cases hlt : i < n
    · have d0 : decide ((i : Int) < (n : Int)) = true := by simp; omega
      have hiw := HMW.out i (by omega)
      have hmw := HMW.out m (by omega)
      obtain ⟨gs, os, rfl, hss⟩ := SeenF.get HS.out (by omega) HN.out.symm
      obtain ⟨gp, op, rfl, hpp⟩ := SeenI.get HP.out (by omega) (by rw [parents_length, ← HN.out])
      have HC1 := Lib.hid HJ.out.c
      have HSS := Lib.hid (show ∀ j, j < n → wr.cell? ⟨gs, os + j * 4 + 1, none⟩ = some (.int .i64 (l.getD j default).r) from fun j hj => HC1.out.cell (HC.out.cell (hss j hj).2.1 (by simp)) (by simp))
      have HPP := Lib.hid (show ∀ j, j < n → wr.cell? ⟨gp, op + j, none⟩ = some (.int .i64 ((parents l).getD j 0)) from fun j hj => HC1.out.cell (hpp j hj) (by simp))
      obtain ⟨kd, hkd⟩ : ∃ kd, kd = (l.getD i default).k := ⟨_, rfl⟩
      have a3 : wr.cell? ⟨gs, os + i * 4 + 2, none⟩ = some (.int .i64 kd) := by rw [hkd]; exact HC1.out.cell (HC.out.cell (hss i hlt).2.2.1 (by simp)) (by simp)
      have A3 := Lib.hid (show ∀ wx, Chg [] w1 wx → wx.cell? ⟨gs, os + i * 4 + 2, none⟩ = some (.int .i64 kd) from fun wx h => by rw [hkd]; exact h.cell (HC.out.cell (hss i hlt).2.2.1 (by simp)) (by simp))
      obtain ⟨ri, hri⟩ : ∃ x, x = (rls l).getD i 0 := ⟨_, rfl⟩
      have HKD := Lib.hid hkd; have HRI := Lib.hid hri
      have hlp := lev_pos l i
      rw [← hri, ← HN.out] at hlp
      have hri0 : 0 ≤ ri ∧ ri ≤ n := ⟨hlp.1, hlp.2.2.1⟩
      clear hss hpp hkd hri hlp a3
      go_wp2
      go_loopw [6, 7] (fun x y wx => ∃ (k rx : Int), x = .int .i64 rx ∧ y = .int .i64 k ∧ wx = wr ∧ -1 ≤ k ∧ k ≤ i ∧ 0 ≤ rx ∧ rx + k ≤ i ∧ rx + cat (rls l) k = ri) (fun _ y _ => (intOf y + 1).toNat)
      case atStart =>
        refine ⟨(i : Int), 0, rfl, rfl, rfl, by omega, by omega, by omega, by omega, ?_⟩
        rw [HRI.out]; unfold cat; rw [if_neg (by omega)]; simp
      case round =>
        obtain ⟨k, rx, rfl, rfl, hwq, hk1, hk2, hr0, hr1, hr⟩ := hrel
        obtain ⟨wq, rfl⟩ : ∃ wq, wq = wr := ⟨_, rfl⟩
        subst hwq
        by_cases hkn : k = -1
        · subst hkn
          have hr' : rx = ri := by rw [← hr]; simp [cat]
          subst hr'
          clear hr hr0 hr1 hk1 hk2
          have HE1 := Lib.hid (show iv ((rls l).take i) ++ [.int .i64 rx] = iv ((rls l).take (i + 1)) by rw [rls_succ (by rw [← HN.out]; exact hlt), ← HRI.out]; simp [iv])
          go_upto_region 13 with (first
            | (at_builtin; refine wpList_append_at _ rfl (.tmp 41) (.tmp 43) _ rfl (w1.heap.size + 1) 3 i0 (.int .i64 0) 1 8 Try.underlying22 hi hz0 hz1 hz2 rfl (by omega) (.slice ro' i rc) i (iv ((rls l).take i)) rfl (HJ.out.r.alloc _) ⟨_, 0, none⟩ 1 1 [.int .i64 rx] rfl rfl (new_cells (C := #[.int .i64 rx]) _ rfl) (fun u hu => by simp at hu; subst hu; rfl) (by unfold maxLen; omega) (by omega) (le_alloc (by have := Go.lt_of_block HJ.out.b; omega) _) ?_; intro v2 w2 hown2 hg2 hat2; rw [HE1.out] at hown2; have HGO := Lib.hid (HJ.out.goR (by rw [← HN.out]; exact hlt) _ hg2 hown2 hat2); have hcl : Chg (Value.slice ro' i rc).ownBlock.toList (wq.alloc (.cells #[.int .i64 rx] 3)) w2 := (Chg.refl _ _).grown hg2 (fun q hq => .inl (by simp [← hq])); have hb2 := hcl.heap (((Chg.refl [] wq).alloc _).heap HJ.out.b (by simp)) (fun hm => by have := own_ge HJ.out.r _ (by simpa using hm); omega); rw [← HGB.out] at hb2; have c23 := (cells5 hb2).2.2.2.1; have f23 := (cells5 hb2).2.2.2.2.2 3; clear hcl hb2; obtain ⟨a2, c2', rfl⟩ := own_shape hown2; clear hown2 hg2 hat2)
            | fail)
          rw [← HGB.out] at HGO
          obtain ⟨w3, hw3⟩ : ∃ z, z = w2.setCell ⟨gb, 3, none⟩ (.slice a2 (i + 1) c2') := ⟨_, rfl⟩
          rw [← hw3] at HGO ⊢
          obtain ⟨g1, g2, g3, g4, g5, g6⟩ := HGO.out
          obtain ⟨e0, e1, e2, e3, e4, ef⟩ := cells5 g2
          have ef2 := ef 2
          have kf := A3.out w3 g1
          have hgb3 : gb < w3.heap.size := Go.lt_of_block g2
          rw [HGB.out] at HGO
          have HG1 := Lib.hid g1
          clear hw3 g1 g2 g3 g4 g5 g6 ef b0 b1 b2 b3 b4 bf2 bf3 bf4 HE1
          by_cases hk0 : kd = 0
          · have q0 : (kd == 0) = true := by simp [hk0]
            have HE2 := Lib.hid (show iv ((lfs l).take i) ++ [.int .i64 (-1)] = iv ((lfs l).take (i + 1)) by rw [lfs_succ (by rw [← HN.out]; exact hlt), if_pos (by rw [← HKD.out]; exact hk0)]; simp [iv])
            have HM2 := Lib.hid (show lno l (i + 1) = m by rw [lno_succ, ← HKD.out, if_neg (by simp [hk0]), ← HM.out, Nat.add_zero])
            clear hk0
            go_wp2_with (first
              | (at_builtin; refine wpList_append_at _ rfl (.tmp 57) (.tmp 58) _ rfl (w1.heap.size + 1) 3 i0 (.int .i64 0) 1 8 Try.underlying22 hi hz0 hz1 hz2 rfl (by omega) (.slice lo' i lc) i (iv ((lfs l).take i)) rfl (HGO.out.2.2.2.1.alloc _) ⟨_, 0, none⟩ 1 1 [.int .i64 (-1)] rfl rfl (new_cells (C := #[.int .i64 (-1)]) _ rfl) (fun u hu => by simp at hu; subst hu; rfl) (by unfold maxLen; omega) (by omega) (le_alloc (by have := Go.lt_of_block HGO.out.2.1; omega) _) ?_; intro v4 w4 hown4 hg4 hat4; rw [HE2.out] at hown4; have HBL := Lib.hid (BJ.goL HGO.out.1 HGO.out.2.1 HGO.out.2.2.1 HGO.out.2.2.2.1 HGO.out.2.2.2.2.1 HGO.out.2.2.2.2.2 _ hg4 hown4 hat4); have hcl : Chg (Value.slice lo' i lc).ownBlock.toList (w3.alloc (.cells #[.int .i64 (-1)] 3)) w4 := (Chg.refl _ _).grown hg4 (fun q hq => .inl (by simp [← hq])); have hb4 := hcl.heap (((Chg.refl [] w3).alloc _).heap HGO.out.2.1 (by simp)) (fun hm => by have := own_ge HGO.out.2.2.2.1 _ (by simpa using hm); omega); rw [← HGB.out] at hb4 HBL; have c42 := (cells5 hb4).2.2.1; have f42 := (cells5 hb4).2.2.2.2.2 2; obtain ⟨a4, c4, rfl⟩ := own_shape hown4; clear hown4 hg4 hat4 hcl hb4)
              | fail)
            go_roundw
            case rel => exact ⟨i + 1, _, _, _, by rw [HM2.out], by go_num, by omega, by rw [HM2.out]; exact HBL.out⟩
            case measure => simp [intOf]; omega
          · have q0 : (kd == 0) = false := by simpa using hk0
            have HE2 := Lib.hid (show iv ((lfs l).take i) ++ [.int .i64 (m : Int)] = iv ((lfs l).take (i + 1)) by rw [lfs_succ (by rw [← HN.out]; exact hlt), if_neg (by rw [← HKD.out]; exact hk0), ← HM.out]; simp [iv])
            have HM2 := Lib.hid (show lno l (i + 1) = m + 1 by rw [lno_succ, ← HKD.out, if_pos hk0, ← HM.out])
            clear hk0
            go_upto_region 16 with (first
              | (at_builtin; refine wpList_append_at _ rfl (.tmp 66) (.tmp 68) _ rfl (w1.heap.size + 1) 3 i0 (.int .i64 0) 1 8 Try.underlying22 hi hz0 hz1 hz2 rfl (by omega) (.slice lo' i lc) i (iv ((lfs l).take i)) rfl (HGO.out.2.2.2.1.alloc _) ⟨_, 0, none⟩ 1 1 [.int .i64 (m : Int)] rfl rfl (new_cells (C := #[.int .i64 (m : Int)]) _ rfl) (fun u hu => by simp at hu; subst hu; rfl) (by unfold maxLen; omega) (by omega) (le_alloc (by have := Go.lt_of_block HGO.out.2.1; omega) _) ?_; intro v4 w4 hown4 hg4 hat4; rw [HE2.out] at hown4; have HBL := Lib.hid (BJ.goL HGO.out.1 HGO.out.2.1 HGO.out.2.2.1 HGO.out.2.2.2.1 HGO.out.2.2.2.2.1 HGO.out.2.2.2.2.2 _ hg4 hown4 hat4); have hcl : Chg (Value.slice lo' i lc).ownBlock.toList (w3.alloc (.cells #[.int .i64 (m : Int)] 3)) w4 := (Chg.refl _ _).grown hg4 (fun q hq => .inl (by simp [← hq])); have hb4 := hcl.heap (((Chg.refl [] w3).alloc _).heap HGO.out.2.1 (by simp)) (fun hm => by have := own_ge HGO.out.2.2.2.1 _ (by simpa using hm); omega); rw [← HGB.out] at hb4 HBL; have c42 := (cells5 hb4).2.2.1; have f42 := (cells5 hb4).2.2.2.2.2 2; obtain ⟨a4, c4, rfl⟩ := own_shape hown4; clear hown4 hg4 hat4 hcl hb4)
              | fail)
            obtain ⟨w5, hw5⟩ : ∃ z, z = w4.setCell ⟨gb, 2, none⟩ (.slice a4 (i + 1) c4) := ⟨_, rfl⟩
            rw [← hw5] at HBL ⊢
            obtain ⟨-, -, -, -, e4', ef'⟩ := cells5 (show w5.heap[gb]? = _ by rw [HGB.out]; exact HBL.out.b)
            have ef4 := ef' 4
            have hgb5 : gb < w5.heap.size := by rw [HGB.out]; exact Go.lt_of_block HBL.out.b
            have HE3 := Lib.hid (nils_succ m)
            clear hw5 ef' e0 e1 e2 e3 e4 ef2 kf
            go_wp2_with (first
              | (at_builtin; refine wpList_append_at _ rfl (.tmp 76) (.tmp 78) _ rfl (w1.heap.size + 1) 42 i2 (.agg #[.slice none 0 0, .slice none 0 0, .slice none 0 0]) 3 72 Try.underlying30 ji jz0 jz1 jz2 rfl (by omega) (.slice co' m cc) m (nils m) rfl (HBL.out.v.alloc _) ⟨_, 0, none⟩ 1 1 [.slice none 0 0, .slice none 0 0, .slice none 0 0] rfl rfl (new_cells (C := #[.slice none 0 0, .slice none 0 0, .slice none 0 0]) _ rfl) (fun u hu => by simp at hu; subst hu; rfl) (by unfold maxLen; omega) (by omega) (le_alloc (by have := Go.lt_of_block HBL.out.b; omega) _) ?_; intro v6 w6 hown6 hg6 hat6; rw [← HE3.out] at hown6; have HBC := Lib.hid (HBL.out.goC _ hg6 hown6); have hcl : Chg (Value.slice co' m cc).ownBlock.toList (w5.alloc (.cells #[.slice none 0 0, .slice none 0 0, .slice none 0 0] 42)) w6 := (Chg.refl _ _).grown hg6 (fun q hq => .inl (by simp [← hq])); have hb6 := hcl.heap (((Chg.refl [] w5).alloc _).heap HBL.out.b (by simp)) (fun hm => by have := own_ge HBL.out.v _ (by simpa using hm); omega); rw [← HGB.out] at hb6 HBC; have c64 := (cells5 hb6).2.2.2.2.1; have f64 := (cells5 hb6).2.2.2.2.2 4; obtain ⟨a6, c6, rfl⟩ := own_shape hown6; clear hown6 hg6 hat6 hcl hb6)
              | fail)
            go_roundw
            case rel => exact ⟨i + 1, _, _, _, by rw [HM2.out]; first | rfl | (congr 1; omega) | simp, by go_num, by omega, by rw [HM2.out]; exact HBC.out⟩
            case measure => simp [intOf]; omega
        · obtain ⟨kn, rfl⟩ : ∃ kn : Nat, k = kn := ⟨k.toNat, by omega⟩
          have hknn : kn < n := by omega
          have b2' := HSS.out kn hknn
          have bp := HPP.out kn hknn
          obtain ⟨x, hx⟩ : ∃ x, x = (l.getD kn default).r := ⟨_, rfl⟩
          obtain ⟨p, hp⟩ : ∃ p, p = (parents l).getD kn 0 := ⟨_, rfl⟩
          have hpp : p = -1 ∨ 0 ≤ p ∧ p < kn := by
            rw [hp]
            exact parents_lt (l := l) (j := kn) (by rw [List.getD, List.getElem?_eq_getElem (by rw [parents_length, ← HN.out]; exact hknn)]; rfl)
          have ha := cntL_at (repB l) (parents l) kn (by rw [parents_length, ← HN.out]; exact hknn) (fun j x => parents_lt)
          rw [← hp] at ha
          have hca : cat (rls l) (kn : Int) = cat (rls l) p + (if repB l kn then 1 else 0) := by
            have e : cat (rls l) (kn : Int) = (rls l).getD kn 0 := by unfold cat; rw [if_neg (by omega)]; rfl
            rw [e]; exact ha
          have hrb : repB l kn = decide (x = 2) := by unfold repB; rw [hx]
          rw [hrb] at hca
          rw [← hx] at b2'
          rw [← hp] at bp
          have hkge : decide ((0 : Int) ≤ (kn : Int)) = true := by simp
          clear hx hp ha hrb
          by_cases h2 : x = 2
          · subst h2
            have HR := Lib.hid (show rx + 1 + cat (rls l) p = ri by rw [← hr, hca]; simp; omega)
            have hrw : IntKind.i64.wrap (rx + 1) = rx + 1 := IntWalk.i64_in _ (by omega)
            clear hca hr
            go_wp2
            go_roundw
            case rel => exact ⟨p, rx + 1, by first | rfl | rw [hrw], rfl, by trivial, by omega, by omega, by omega, by omega, HR.out⟩
            case measure => simp [intOf]; omega
          · have e1 : (x == 2) = false := by simpa using h2
            have HR := Lib.hid (show rx + cat (rls l) p = ri by rw [← hr, hca]; simp [h2])
            clear hca hr h2
            go_wp2
            go_roundw
            case rel => exact ⟨p, rx, rfl, rfl, by trivial, by omega, by omega, by omega, by omega, HR.out⟩
            case measure => simp [intOf]; omega
    · have ei : i = l.length := by rw [← HN.out]; omega
      have d0 : decide ((i : Int) < (n : Int)) = false := by simp; omega
      have HD := Lib.hid (show BJ l w1 wr (.slice ao n cap) (.slice po n pc) l.length (leavesL l).length (.slice lo' i lc) (.slice ro' i rc) (.slice co' m cc) from by
        have h := HJ.out
        have e2 : m = (leavesL l).length := by rw [HM.out, ei]; rfl
        rw [e2] at h ⊢
        rw [ei] at h ⊢
        exact h)
      go_wp2
      go_ret
      obtain ⟨cb, cc', he, hroom, hK, hCS⟩ := HD.out.done HS.out HC.out HP.out (by rw [← HN.out]; exact hl) HNL.out
      exact ⟨gb, cb, cc', _, _, _, rfl, HC.out.trans HD.out.c (by simp), hroom, by rw [HGB.out]; exact hK, hCS⟩

end Go.Proofs.Ytfdmbpfpdijpdaa
