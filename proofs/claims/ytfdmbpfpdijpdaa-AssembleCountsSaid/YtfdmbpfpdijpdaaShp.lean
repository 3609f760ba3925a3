/- shred: the way to each field. -/
import Derived.Test.YtfdmbpfpdijpdaaShb
import Derived.Test.YtfdmbpfpdijpdaaAnl
import Derived.Laws.Cover3
namespace Go.Proofs.Ytfdmbpfpdijpdaa
open Go.RowKit
set_option linter.unusedVariables false
set_option linter.unusedSimpArgs false

set_option maxRecDepth 100000 in
theorem clonei_any (v : Value) (l : List Int) (w : World) (hS : SeenI w v l) (hl : l.length ≤ 100000000) :
    Calls Try.prog 64 #[v] w fun e w' => ∃ x, e = .returned x ∧ Chg [] w w' ∧ w'.ownsRow w.heap.size 3 1 x l.length (iv l) := by
  obtain ⟨i0, hi, hz0, hz1, hz2⟩ := info_int
  obtain ⟨ao, cap, rfl, hc1, hc2⟩ := hS.shape
  have hnil : ∀ wx a n c, (binOp .eql 22 (.slice a n c) (.slice none 0 0)).run Try.prog wx = .ok (.bool a.isNone) wx := fun wx a n c => by simp [binOp, run_equal_slice_nil wx _ _ a n c Try.underlying22]
  cases ao with
  | none =>
    have hl0 : l = [] := by
      obtain ⟨ao', cap', he, h2, h3, h4⟩ := hS
      injection he with e1 e2 e3
      cases l with
      | nil => rfl
      | cons x l => obtain ⟨g, off, h5, -⟩ := h4 (by simp); rw [← e1] at h5; cases h5
    subst hl0
    clear hS hc1
    rw [List.length_nil]
    go_enter Try.func64, Try.ntmps64
    go_wp2
    go_ret
    exact ⟨_, rfl, Chg.refl _ _, World.ownsRow_nil _ _ _ _⟩
  | some a =>
    obtain ⟨n, hn⟩ : ∃ n, n = l.length := ⟨_, rfl⟩
    rw [← hn] at hc1 hS hl ⊢
    have hsn : Seen w (.slice (some a) n cap) (iv l) := by
      obtain ⟨ao', cap', he, h2, h3, h4⟩ := hS
      injection he with e1 e2 e3
      subst e1 e3
      refine .inr ⟨a, cap, by rw [iv_length, ← hn], by rw [iv_length]; exact h2, h3, fun j u hu => ?_⟩
      simp only [iv, List.getElem?_map] at hu
      cases hx : l[j]? with
      | none => rw [hx] at hu; cases hu
      | some x =>
        obtain ⟨g, off, he, h5⟩ := h4 (Nat.lt_of_le_of_lt (Nat.zero_le _) (List.getElem?_eq_some_iff.1 hx).1)
        injection he with he
        subst he
        rw [addr_add]
        rw [hx] at hu
        simp at hu
        subst hu
        exact SeenI.cell h5 hx
    have HS := Lib.hid hsn
    have HN := Lib.hid hn
    have hone : ∀ u ∈ iv l, u.oneCell' = true := by
      intro u hu
      simp [iv] at hu
      obtain ⟨x, -, rfl⟩ := hu
      rfl
    have hil : (iv l).length = n := by simp [hn]
    clear hS hsn hn
    go_enter Try.func64, Try.ntmps64
    go_wp2_with (at_builtin; refine wpList_append_reads _ rfl _ _ 22 22 rfl w.heap.size 3 3 i0 (.int .i64 0) 8 Try.underlying22 Try.underlying22 hi hz0 hz1 hz2 rfl _ 0 [] rfl (own_lit w w.heap.size _ rfl (Nat.le_refl _) 3 #[] [] 0 1 rfl rfl (by decide)) _ (iv l) rfl (HS.out.keep ((Chg.refl [] w).alloc _)) hone ?c1 ?c2 ?c3 ?_)
    case c1 => rw [hil]; unfold maxLen; omega
    case c2 => rw [hil]; omega
    case c3 => simp
    intro v' w' hown hgrow
    obtain ⟨vo, vc, rfl⟩ := own_shape hown
    have HC := Lib.hid ((((Chg.refl [] w).alloc (.cells #[] 3))).grown hgrow (fun k hk => .inr (by simp [Value.ownBlock] at hk; omega)))
    go_wp2
    go_ret
    exact ⟨_, rfl, HC.out, hown⟩

theorem sign_any14 (r : Int) (w : World) (hr : r = 0 ∨ r = 1 ∨ r = 2) : Calls Try.prog 92 #[.int .i64 r] w fun e w' => e = .returned (.int .i32 (sgn r : Nat)) ∧ w' = w := by
  rcases hr with rfl | rfl | rfl
  all_goals
    go_enter Try.func92, Try.ntmps92
    go_wp2
    go_ret
    exact ⟨rfl, rfl⟩

theorem str_app (a b : List Nat) : str a ++ str b = str (a ++ b) := by
  apply ByteArray.ext
  simp [str]

theorem enc_sgn (r : Int) : Utf8.encode ((sgn r : Nat) : Int) = str [sgn r] := by
  unfold sgn
  split
  · decide +kernel
  · split <;> decide +kernel

/-- A way's two cells. -/
def encW (p : List Stp × Value) : List Value := [p.2, .string (str (sgs p.1))]
theorem encW_len (p : List Stp × Value) : (encW p).length = 2 := rfl

/-- The ways WS, in memory. -/
def WaysAt (w : World) (WS : List (List Stp)) (v : Value) : Prop := ∃ R : List (List Stp × Value), R.map (·.1) = WS ∧ SeenK encW 2 w v R ∧ ∀ p ∈ R, SeenI w p.2 (plc p.1)

theorem flat_set2 {α : Type} {enc : α → List Value} (hk : ∀ x, (enc x).length = 2) : ∀ (l : List α) (i : Nat) (e : α) (a b : Value), enc e = [a, b] → (l.set i e).flatMap enc = ((l.flatMap enc).set (i * 2) a).set (i * 2 + 1) b
  | [], i, e, a, b, _ => by simp
  | x :: l, 0, e, a, b, h => by
    have hx := hk x
    match hx2 : enc x, hx with
    | [p, q], _ => simp [hx2, h]
  | x :: l, i + 1, e, a, b, h => by
    rw [List.set_cons_succ, List.flatMap_cons, List.flatMap_cons, flat_set2 hk l i e a b h]
    rw [List.set_append_right _ _ (by rw [hk]; omega), hk, show (i + 1) * 2 - 2 = i * 2 by omega, List.set_append_right _ _ (by rw [hk]; omega), hk, show (i + 1) * 2 + 1 - 2 = i * 2 + 1 by omega]

/-- The ways, once i fields have been looked at. -/
structure WYJ (l : List F) (w wi : World) (gw gh lo n i : Nat) (R : List (List Stp × Value)) (H : List Int) : Prop where
  lr : R.length = n
  fs : R.map (·.1) = wayTo l i ++ List.replicate (n - i) []
  bw : wi.heap[gw]? = some (.cells (R.flatMap encW).toArray 109 (0, 0))
  bh : BlkI wi gh H
  hl : H.length = n
  hh : ∀ g : Nat, g < n → H.getD g 0 = ((kidsU (parents l) i g).length : Int)
  ow : ∀ p ∈ R, wi.ownsRow lo 3 1 p.2 p.1.length (iv (plc p.1))
  nz : ∀ j, i ≤ j → j < n → R[j]? = some ([], .slice none 0 0)
  cw : Chg [] w wi
  gl : gw < lo ∧ gh < lo ∧ w.heap.size ≤ gw ∧ w.heap.size ≤ gh ∧ gw ≠ gh ∧ w.heap.size ≤ lo

theorem WYJ.skip {l : List F} {w wi : World} {gw gh lo n i : Nat} {R : List (List Stp × Value)} {H : List Int} (h : WYJ l w wi gw gh lo n i R H) (hp : (parents l).getD i 0 = -1) (hi : i < n) : WYJ l w wi gw gh lo n (i + 1) R H := by
  refine ⟨h.lr, ?_, h.bw, h.bh, h.hl, fun g hg => ?_, h.ow, fun j hj => h.nz j (by omega), h.cw, h.gl⟩
  · rw [h.fs, wayTo, if_pos hp, show n - i = (n - (i + 1)) + 1 by omega, List.replicate_succ]
    simp
  · rw [h.hh g hg, kidsU_succ, if_neg (by rw [hp]; omega)]

theorem cells_ways (n : Nat) : (madeCells #[.slice none 0 0, .string ByteArray.empty] (n * 2)).toList = (List.replicate n (([] : List Stp), (.slice none 0 0 : Value))).flatMap encW := by
  apply List.ext_getElem?
  intro j
  by_cases hj : j < n * 2
  · have key : ∀ u, (encW ([], .slice none 0 0))[j % 2]? = some u → ((List.replicate n (([] : List Stp), (.slice none 0 0 : Value))).flatMap encW)[j]? = some u := fun u hu => by
      have h := flat_get encW_len (List.replicate n (([] : List Stp), (.slice none 0 0 : Value))) (j / 2) ([], .slice none 0 0) (j % 2) u (by rw [List.getElem?_replicate, if_pos (by omega)]) hu
      rwa [show j / 2 * 2 + j % 2 = j by omega] at h
    have h3 : j % 2 = 0 ∨ j % 2 = 1 := by omega
    rcases h3 with h3 | h3
    all_goals
      rw [h3] at key
      rw [key _ rfl]
      simp [madeCells, hj, h3]
    rfl
  · rw [List.getElem?_eq_none (by simp [madeCells]; omega), List.getElem?_eq_none (by rw [flat_length encW_len]; simp; omega)]

theorem blk_of_own2 {w : World} {B T g n cap size : Nat} {xs : List Value} (h : w.ownsRow B T size (.slice (some ⟨g, 0, none⟩) n cap) n xs) (hc : cap = n) : w.heap[g]? = some (.cells xs.toArray T (0, 0)) := by
  obtain ⟨hl, h1⟩ := h
  rcases h1 with ⟨he, hn⟩ | ⟨g', cap', cur, he, _, hg, hcc, hm, hs, ht⟩
  · cases he
  · injection he with e1 e2 e3
    injection e1 with e1
    injection e1 with e1
    subst e1 e3 hc
    rw [hg]
    have hcur : cur = xs.toArray := by
      apply Array.ext'
      rw [← ht]
      simp at hl hs ⊢
      rw [List.take_of_length_le (by simp; omega)]
    rw [hcur]

theorem cells_ofg {w : World} {g : Nat} {C : Array Value} {T : TypeId} {fr : Nat × Nat} (h : w.heap[g]? = some (.cells C T fr)) : ∀ j u, C.toList[j]? = some u → w.cell? ((⟨g, 0, none⟩ : Addr).add j) = some u := by
  intro j u hu
  rw [addr_add, Nat.zero_add, cell_of_row w g j _ _ _ h]
  simpa using hu

theorem info_way : ∃ i, Try.prog.info? 109 = some i ∧ i.zero = some (.agg #[.slice none 0 0, .string ByteArray.empty]) ∧ i.size = 2 ∧ i.bytes = 40 :=
  info_parts (show (Try.prog.info? 109).map (fun i => (i.zero, i.size, i.bytes)) = some (some (.agg #[.slice none 0 0, .string ByteArray.empty]), 2, 40) by kernel_rfl)

theorem wayTo_short (l : List F) : ∀ i, ∀ W ∈ wayTo l i, W.length ≤ i
  | 0, W, h => by simp [wayTo] at h
  | i + 1, W, h => by
    have hd : ∀ q, ((wayTo l i).getD q []).length ≤ i := fun q => by
      rw [List.getD]
      cases hq : (wayTo l i)[q]? with
      | none => simp
      | some x => exact wayTo_short l i x (List.mem_of_getElem? hq)
    rw [wayTo, List.mem_append] at h
    rcases h with h | h
    · have := wayTo_short l i W h; omega
    · rw [List.mem_singleton] at h
      subst h
      split
      · simp
      · have := hd ((parents l).getD i 0).toNat
        simp only [List.length_append, List.length_cons, List.length_nil]
        omega

theorem wayTo_short2 {l : List F} {i q : Nat} {W : List Stp} (h : (wayTo l i).getD q [] = W) : W.length ≤ i := by
  subst h
  rw [List.getD]
  cases hq : (wayTo l i)[q]? with
  | none => simp
  | some x => exact wayTo_short l i x (List.mem_of_getElem? hq)

theorem WYJ.next {l : List F} {w wr w9 : World} {gw gh lo n i q B : Nat} {R : List (List Stp × Value)} {H : List Int} {WG : List Stp} {hd : Nat} {r : Int} {v : Value} {s : ByteArray}
    (h : WYJ l w wr gw gh lo n i R H) (hp : (parents l).getD i 0 = (q : Int)) (hi : i < n) (hq : q < n) (hWG : (wayTo l i).getD q [] = WG) (hr : r = (l.getD i default).r) (hhd : hd = (kidsU (parents l) i q).length)
    (hc : Chg [] wr w9) (ho : w9.ownsRow B 3 1 v (WG.length + 1) (iv (plc WG) ++ [.int .i64 (hd : Int)])) (hB : lo ≤ B) (hs : s = str (sgs WG) ++ Utf8.encode ((sgn r : Nat) : Int)) :
    WYJ l w (((w9.setCell ⟨gw, i * 2, none⟩ v).setCell ⟨gw, i * 2 + 1, none⟩ (.string s)).setCell ⟨gh, q, none⟩ (.int .i64 ((hd : Int) + 1))) gw gh lo n (i + 1) (R.set i (WG ++ [(hd, r)], v)) (H.set q ((hd : Int) + 1)) := by
  have hgl := h.gl
  have hcc : Chg [gw, gh] w9 (((w9.setCell ⟨gw, i * 2, none⟩ v).setCell ⟨gw, i * 2 + 1, none⟩ (.string s)).setCell ⟨gh, q, none⟩ (.int .i64 ((hd : Int) + 1))) :=
    (((Chg.refl [gw, gh] w9).setCell (.inl (by simp)) _).setCell (.inl (by simp)) _).setCell (.inl (by simp)) _
  have hplc : iv (plc (WG ++ [(hd, r)])) = iv (plc WG) ++ [.int .i64 (hd : Int)] := by simp [plc, iv]
  have hsgs : str (sgs (WG ++ [(hd, r)])) = s := by rw [hs, enc_sgn, str_app]; simp [sgs]
  refine ⟨by rw [List.length_set]; exact h.lr, ?_, ?_, ?_, by rw [List.length_set]; exact h.hl, ?_, ?_, ?_, ?_, hgl⟩
  · rw [List.map_set, h.fs, List.set_append_right _ _ (by rw [wayTo_len]; exact Nat.le_refl _), wayTo_len, Nat.sub_self, show n - i = (n - (i + 1)) + 1 by omega, List.replicate_succ, List.set_cons_zero, wayTo, if_neg (by rw [hp]; omega), hp, Int.toNat_natCast, hWG, ← hhd, ← hr]
    simp
  · have h1 := heap_set (i := i * 2) (hc.heap h.bw (by simp)) v
    have h2 := heap_set (i := i * 2 + 1) h1 (.string s)
    have h3 := (Below.heap_setCell _ ⟨gh, q, none⟩ (.int .i64 ((hd : Int) + 1)) gw hgl.2.2.2.2.1).trans h2
    rw [h3, flat_set2 encW_len R i (WG ++ [(hd, r)], v) v (.string s) (by simp [encW, hsgs])]
    simp
  · exact (((h.bh.chg hc (by simp)).far (p := ⟨gw, i * 2, none⟩) (by exact fun e => hgl.2.2.2.2.1 e.symm) _).far (p := ⟨gw, i * 2 + 1, none⟩) (by exact fun e => hgl.2.2.2.2.1 e.symm) _).set q _
  · intro g hg
    rw [kidsU_succ, hp]
    by_cases e : g = q
    · subst e
      rw [if_pos rfl, List.length_append, ← hhd, List.getD, List.getElem?_set_self (by rw [h.hl]; exact hq)]
      simp
    · rw [if_neg (by omega), ← h.hh g hg, List.getD, List.getElem?_set_ne (by omega), ← List.getD]
  · intro p hp2
    rcases List.mem_or_eq_of_mem_set hp2 with h1 | h1
    · have h2 := own_chg (h.ow p h1) hc (by simp)
      exact own_chg h2 hcc (fun g hg => by have := own_ge h2 g hg; simp; omega)
    · subst h1
      simp only [hplc, List.length_append, List.length_cons, List.length_nil]
      exact own_chg (own_mono ho hB) hcc (fun g hg => by have := own_ge ho g hg; simp; omega)
  · intro j hj hjn
    rw [List.getElem?_set_ne (by omega)]
    exact h.nz j (by omega) hjn
  · exact (((h.cw.trans hc (by simp)).setCell (.inr hgl.2.2.1) _).setCell (.inr hgl.2.2.1) _).setCell (.inr hgl.2.2.2.1) _


end Go.Proofs.Ytfdmbpfpdijpdaa
