/- project's kids: of each field which ones are in it, in order. -/
import Derived.Test.YthhcnlmjcpkbnaaA5
import Derived.Test.YthhcnlmjcpkbnaaA3
namespace Go.Proofs.Ythhcnlmjcpkbnaa
open Go.RowKit
set_option linter.unusedVariables false

abbrev nilS : Value := .slice none 0 0

/-- Those of the first m whose group is g. -/
def kidsU (ps : List Int) (m g : Nat) : List Int := ((List.range m).filter fun i => ps.getD i 0 == (g : Int)).map fun (i : Nat) => (i : Int)

theorem kidsU_zero (ps : List Int) (g : Nat) : kidsU ps 0 g = [] := rfl

theorem kidsU_succ (ps : List Int) (m g : Nat) : kidsU ps (m + 1) g = if ps.getD m 0 = (g : Int) then kidsU ps m g ++ [(m : Int)] else kidsU ps m g := by
  unfold kidsU
  rw [List.range_succ, List.filter_append, List.map_append]
  split
  · rename_i h
    rw [List.getD] at h
    simp [h]
  · rename_i h
    rw [List.getD] at h
    simp [h]

theorem kidsU_len (ps : List Int) (m g : Nat) : (kidsU ps m g).length ≤ m := by
  unfold kidsU
  rw [List.length_map]
  exact Nat.le_trans (List.length_filter_le _ _) (by simp)

theorem blk_of_own {w : World} {B T g n cap : Nat} {xs : List Value} (h : w.ownsRow B T 1 (.slice (some ⟨g, 0, none⟩) n cap) n xs) (hc : cap = n) : w.heap[g]? = some (.cells xs.toArray T (0, 0)) := by
  obtain ⟨hl, h1⟩ := h
  rcases h1 with ⟨he, hn⟩ | ⟨g', cap', cur, he, _, hg, hcc, hm, hs, ht⟩
  · cases he
  · injection he with e1 e2 e3
    injection e1 with e1
    injection e1 with e1
    subst e1 e3 hc
    rw [hg]
    have hcur : cur = xs.toArray := by
      apply Array.ext'
      rw [← ht]
      simp at hl hs ⊢
      rw [List.take_of_length_le (by simp; omega)]
    rw [hcur]

theorem info_ints : ∃ i, Try.prog.info? 22 = some i ∧ i.zero = some nilS ∧ i.size = 1 ∧ i.bytes = 24 :=
  info_parts (show (Try.prog.info? 22).map (fun i => (i.zero, i.size, i.bytes)) = some (some nilS, 1, 24) by kernel_rfl)

theorem cells_zeros (n : Nat) : (madeCells #[nilS] n).toList = List.replicate n nilS := by
  rw [toList_madeCells_one]

/-- How kids stands once i fields have been looked at. -/
structure KJ (l : List F) (w wi : World) (g gp i : Nat) (R : List Value) : Prop where
  lr : R.length = l.length
  gb : w.heap.size ≤ g
  bl : wi.heap[g]? = some (.cells R.toArray 22 (0, 0))
  cg : Chg [] w wi
  ow : ∀ j, j < l.length → wi.ownsRow w.heap.size 3 1 (R.getD j nilS) (kidsU (parents l) i j).length (iv (kidsU (parents l) i j))
  sp : ∀ j k, j < l.length → k < l.length → j ≠ k → Sep (R.getD j nilS) (R.getD k nilS)
  ne : ∀ j, j < l.length → (R.getD j nilS).ownBlock ≠ some g
  np : ∀ j, j < l.length → (R.getD j nilS).ownBlock ≠ some gp
  bp : BlkI wi gp (parents l)
  gg : gp ≠ g

theorem KJ.skip {l : List F} {w wi w' : World} {g gp i : Nat} {R : List Value} (h : KJ l w wi g gp i R) (hp : (parents l).getD i 0 = -1) (hc : Chg [] wi w') : KJ l w w' g gp (i + 1) R := by
  refine ⟨h.lr, h.gb, hc.heap h.bl (by simp), h.cg.trans hc (by simp), fun j hj => ?_, h.sp, h.ne, h.np, h.bp.chg hc (by simp), h.gg⟩
  have e : kidsU (parents l) (i + 1) j = kidsU (parents l) i j := by rw [kidsU_succ, if_neg (by rw [hp]; omega)]
  rw [e]
  exact own_chg (h.ow j hj) hc (by simp)

theorem getD_setV (R : List Value) (p j : Nat) (v d : Value) (hp : p < R.length) : (R.set p v).getD j d = if j = p then v else R.getD j d := by
  split
  · rename_i h
    subst h
    rw [List.getD, List.getElem?_set_self hp]; rfl
  · rename_i h
    rw [List.getD, List.getElem?_set_ne (fun e => h e.symm), List.getD]

theorem KJ.put {l : List F} {w wi W w2 w3 : World} {g gp i p : Nat} {R : List Value} {v : Value} (h : KJ l w wi g gp i R) (hp : (parents l).getD i 0 = (p : Int)) (hpl : p < l.length)
    (C1 : Chg [] wi W) (h2 : w2.ownsRow w.heap.size 3 1 v ((kidsU (parents l) i p).length + 1) (iv (kidsU (parents l) i p) ++ [.int .i64 (i : Int)])) (g2 : W.grownBy w2 (R.getD p nilS).ownBlock) (a2 : v.ownBlock = (R.getD p nilS).ownBlock ∨ v.ownBlock = some W.heap.size)
    (hw3 : w3 = w2.setCell ⟨g, p, none⟩ v) : KJ l w w3 g gp (i + 1) (R.set p v) := by
  subst hw3
  have hW : ∀ {j}, j < l.length → W.ownsRow w.heap.size 3 1 (R.getD j nilS) (kidsU (parents l) i j).length (iv (kidsU (parents l) i j)) := fun hj => own_chg (h.ow _ hj) C1 (by simp)
  have hgW : W.heap[g]? = some (.cells R.toArray 22 (0, 0)) := C1.heap h.bl (by simp)
  have hg2 : w2.heap[g]? = some (.cells R.toArray 22 (0, 0)) := (g2.block g (Go.lt_of_block hgW) (fun e => h.ne p hpl e.symm)).trans hgW
  have hgl : g < W.heap.size := Go.lt_of_block hgW
  have hvg : v.ownBlock ≠ some g := by
    rcases a2 with e | e
    · rw [e]; exact h.ne p hpl
    · rw [e]; intro e2; injection e2 with e2; omega
  have hpW : BlkI W gp (parents l) := h.bp.chg C1 (by simp)
  have hp2 : BlkI w2 gp (parents l) := (g2.block gp hpW.lt (fun e => h.np p hpl e.symm)).trans hpW
  have hpl2 : gp < W.heap.size := hpW.lt
  have hvp : v.ownBlock ≠ some gp := by
    rcases a2 with e | e
    · rw [e]; exact h.np p hpl
    · rw [e]; intro e2; injection e2 with e2; omega
  have hk : Chg [g] w2 (w2.setCell ⟨g, p, none⟩ v) := (Chg.refl [g] w2).setCell (by simp) _
  refine ⟨by simp [h.lr], h.gb, ?_, ?_, fun j hj => ?_, fun j k hj hk' hjk => ?_, fun j hj => ?_, fun j hj => ?_, hp2.far (by simpa using h.gg) _, h.gg⟩
  · rw [heap_set hg2]; simp
  · exact ((h.cg.trans C1 (by simp)).grown g2 (fun q hq => .inr (own_ge (h.ow p hpl) q hq))).setCell (.inr h.gb) _
  · rw [getD_setV _ _ _ _ _ (by rw [h.lr]; exact hpl), kidsU_succ]
    by_cases hjp : j = p
    · subst hjp
      rw [if_pos rfl, if_pos hp]
      have := own_chg h2 hk (by intro q hq hm; simp at hm; rw [hm] at hq; exact hvg hq)
      rw [iv_snoc] at this
      simpa using this
    · rw [if_neg hjp, if_neg (by rw [hp]; omega)]
      exact own_chg (own_kept (hW hj) g2 (h.sp j p hj hpl hjp)) hk (by intro q hq hm; simp at hm; rw [hm] at hq; exact h.ne j hj hq)
  · rw [getD_setV _ _ _ _ _ (by rw [h.lr]; exact hpl), getD_setV _ _ _ _ _ (by rw [h.lr]; exact hpl)]
    by_cases h1 : j = p
    · rw [if_pos h1, if_neg (by omega)]
      exact (h.sp p k hpl hk' (by omega)).grow a2 (own_lt (hW hk'))
    · rw [if_neg h1]
      by_cases h2' : k = p
      · rw [if_pos h2']
        exact ((h.sp p j hpl hj (by omega)).grow a2 (own_lt (hW hj))).symm
      · rw [if_neg h2']; exact h.sp j k hj hk' hjk
  · rw [getD_setV _ _ _ _ _ (by rw [h.lr]; exact hpl)]
    by_cases h1 : j = p
    · rw [if_pos h1]; exact hvg
    · rw [if_neg h1]; exact h.ne j hj
  · rw [getD_setV _ _ _ _ _ (by rw [h.lr]; exact hpl)]
    by_cases h1 : j = p
    · rw [if_pos h1]; exact hvp
    · rw [if_neg h1]; exact h.np j hj

/-- A row of rows: what is in each field. -/
def KidsM (w : World) (g : Nat) (l : List F) : Prop := ∃ R : List Value, R.length = l.length ∧ w.heap[g]? = some (.cells R.toArray 22 (0, 0)) ∧ ∀ j, j < l.length → SeenI w (R.getD j nilS) (kidsU (parents l) l.length j)

theorem seenI_of_own {w : World} {B n : Nat} {v : Value} {l : List Int} (h : w.ownsRow B 3 1 v n (iv l)) (hn : n = l.length) : SeenI w v l := by
  have hr := reads_of_own h
  subst hn
  have hsh := hr.shape
  rw [show (iv l).length = l.length by simp [iv]] at hsh
  obtain ⟨ao, cap, rfl, hc1, hc2⟩ := hsh
  refine ⟨ao, cap, rfl, hc1, hc2, fun hn => ?_⟩
  obtain ⟨g, rfl, -, -, -, hc⟩ := own_ptr h hn
  refine ⟨g, 0, rfl, fun j x i u hx hu => ?_⟩
  have hi : i = 0 := by
    cases i with
    | zero => rfl
    | succ i => simp [ic] at hu
  subst hi
  simp [ic] at hu
  subst hu
  have := hc j (.int .i64 x) (by simp [iv, hx])
  simpa using this

theorem KJ.out {l : List F} {w wi : World} {g gp : Nat} {R : List Value} (h : KJ l w wi g gp l.length R) : KidsM wi g l :=
  ⟨R, h.lr, h.bl, fun j hj => seenI_of_own (h.ow j hj) rfl⟩

theorem KidsM.chg {w w' : World} {g : Nat} {l : List F} (h : KidsM w g l) (hc : Chg [] w w') : KidsM w' g l := by
  obtain ⟨R, h1, h2, h3⟩ := h
  exact ⟨R, h1, hc.heap h2 (by simp), fun j hj => (h3 j hj).keep hc⟩

set_option maxRecDepth 100000 in
set_option maxHeartbeats 1000000 in
theorem kids_any (sv : Value) (l : List F) (w : World) (hS : SeenF w sv l) (hl : l.length ≤ 1000) (hw : ∀ f ∈ l, f.c ≤ 9223372036854775807) :
    Calls Try.prog 55 #[sv] w fun e w' => e = .returned (.slice (some ⟨w.heap.size, 0, none⟩) l.length l.length) ∧ KidsM w' w.heap.size l ∧ Chg [] w w' := by
  obtain ⟨i0, hi, hz0, hz1, hz2⟩ := info_int
  obtain ⟨i1, ji, jz0, jz1, jz2⟩ := info_ints
  obtain ⟨ao, cap, rfl, hc1, hc2⟩ := hS.shape
  have HS := Lib.hid hS; have HW := Lib.hid hw
  clear hS hw
  obtain ⟨n, hn⟩ : ∃ n, n = l.length := ⟨_, rfl⟩
  rw [← hn] at hc1 hl HS ⊢
  have HN := Lib.hid hn
  clear hn
  have hnm : n ≤ maxLen := by unfold maxLen; omega
  go_enter Try.func55, Try.ntmps55
  go_wp2_with (at_make; refine wpList_make_full _ rfl _ _ 65 rfl w.heap.size 22 i1 nilS 1 Try.underlying65 ji jz0 jz1 .i64 .i64 _ _ n rfl rfl rfl rfl ?c1 ?c2 (Nat.le_refl _) ?_)
  case c1 => rw [jz2]; omega
  case c2 => exact hnm
  intro w1 hown1 hg1
  have hlt1 : w.heap.size < w1.heap.size := (hown1.lt w.heap.size rfl).2
  rw [cells_zeros] at hown1
  have HB1 := Lib.hid (blk_of_own hown1 rfl)
  have HC1 := Lib.hid ((Chg.refl [] w).grown hg1 (by simp))
  clear hown1 hg1
  go_wp2_with fail
  (with_reducible refine (parents_any _ l w1 (HS.out.keep HC1.out) (by rw [← HN.out]; omega) HW.out).mono ?_)
  rw [← HN.out]
  rintro e w2 ⟨rfl, hb2, hk2⟩
  have HP2 := Lib.hid hb2; have HC12 := Lib.hid hk2
  clear hb2 hk2
  go_wp2
  obtain ⟨gp, hgp⟩ : ∃ gp, gp = w1.heap.size := ⟨_, rfl⟩
  rw [← hgp] at HP2 hlt1 ⊢
  clear hgp
  have HPL := Lib.hid (parents_length l)
  go_loopw [12] (fun x w' => ∃ (i : Nat) (R : List Value), x = .int .i64 (i : Int) ∧ i ≤ n ∧ KJ l w w' w.heap.size gp i R) (fun x _ => n - (intOf x).toNat)
  case atStart =>
    refine ⟨0, List.replicate n nilS, rfl, Nat.zero_le _, ⟨by simp [HN.out], Nat.le_refl _, HC12.out.heap HB1.out (by simp), HC1.out.trans HC12.out (by simp), fun j hj => ?_, fun j k _ _ _ => ?_, fun j hj => ?_, fun j hj => ?_, HP2.out, by omega⟩⟩
    · have e : (List.replicate n nilS).getD j nilS = nilS := by simp [List.getD, List.getElem?_replicate]; split <;> rfl
      rw [e]
      exact World.ownsRow_nil _ _ _ _
    · have e : (List.replicate n nilS).getD j nilS = nilS := by simp [List.getD, List.getElem?_replicate]; split <;> rfl
      rw [e]
      exact Sep.nil _
    · have e : (List.replicate n nilS).getD j nilS = nilS := by simp [List.getD, List.getElem?_replicate]; split <;> rfl
      rw [e]
      simp [Value.ownBlock]
    · have e : (List.replicate n nilS).getD j nilS = nilS := by simp [List.getD, List.getElem?_replicate]; split <;> rfl
      rw [e]
      simp [Value.ownBlock]
  case round =>
    obtain ⟨i, R, rfl, hin, hJ⟩ := hrel
    have HJ := Lib.hid hJ
    clear hJ
    by_cases hlt : i < n
    · obtain ⟨p, hp⟩ : ∃ p, (parents l)[i]? = some p := ⟨_, List.getElem?_eq_getElem (by rw [HPL.out, ← HN.out]; exact hlt)⟩
      have hpr := parents_lt hp
      have hpc : wr.cell? ⟨gp, i, none⟩ = some (.int .i64 p) := HJ.out.bp.cell hp
      have HPD := Lib.hid (show (parents l).getD i 0 = p by rw [List.getD, hp]; rfl)
      clear hp
      by_cases hp1 : p = -1
      · subst hp1
        clear hpr
        go_wp2
        go_roundw
        case rel => exact ⟨i + 1, R, by go_num, by omega, HJ.out.skip HPD.out (Chg.refl [] _)⟩
        case measure => simp [intOf]; omega
      · have hq : 0 ≤ p ∧ p < i := by
          rcases hpr with h | h
          · contradiction
          · exact h
        clear hpr
        obtain ⟨q, rfl⟩ : ∃ q : Nat, p = q := ⟨p.toNat, by omega⟩
        have hql : q < l.length := by rw [← HN.out]; omega
        have hn1 : ((q : Int) != -1) = true := by simp
        obtain ⟨v, hv⟩ : ∃ v, v = R.getD q nilS := ⟨_, rfl⟩
        have hvc : wr.cell? ⟨w.heap.size, q, none⟩ = some v := by
          rw [cell_of_row wr w.heap.size q _ _ _ HJ.out.bl, hv, List.getD]
          have : q < R.length := by rw [HJ.out.lr]; exact hql
          simp [List.getElem?_eq_getElem this]
        have hown := HJ.out.ow q hql
        rw [← hv] at hown
        obtain ⟨K, hK⟩ : ∃ K, K = kidsU (parents l) i q := ⟨_, rfl⟩
        rw [← hK] at hown
        have hKl : K.length ≤ i := by rw [hK]; exact kidsU_len _ _ _
        obtain ⟨m, hm⟩ : ∃ m, m = K.length := ⟨_, rfl⟩
        rw [← hm] at hown hKl
        have HK := Lib.hid hK; have HM := Lib.hid hm; have HV := Lib.hid hv
        obtain ⟨va, vc, rfl⟩ := own_shape hown
        have HOW := Lib.hid hown
        have HM2 := Lib.hid (show m + 1 ≤ maxLen by unfold maxLen; omega)
        have HM3 := Lib.hid (show (m + 1) * 8 ≤ 140737488355328 by omega)
        have HBZ := Lib.hid (show w.heap.size ≤ wr.heap.size from HJ.out.cg.size)
        have hfr : wr.frozen? ⟨w.heap.size, q, none⟩ = false := by simp [World.frozen?, HJ.out.bl]
        have HF2 := Lib.hid (show ∀ wx, (wr.alloc (.cells #[.int .i64 (i : Int)] 3)).grownBy wx (Value.slice va m vc).ownBlock → wx.frozen? ⟨w.heap.size, q, none⟩ = false ∧ wx.cell? ⟨w.heap.size, q, none⟩ = some (.slice va m vc) from fun wx hg => by
          have h1 : (wr.alloc (.cells #[.int .i64 (i : Int)] 3)).heap[w.heap.size]? = some (.cells R.toArray 22 (0, 0)) := ((Chg.refl [] wr).alloc _).heap HJ.out.bl (by simp)
          have h2 := (hg.block w.heap.size (Go.lt_of_block h1) (fun e => HJ.out.ne q hql (by rw [← HV.out]; exact e.symm))).trans h1
          refine ⟨by simp [World.frozen?, h2], ?_⟩
          rw [cell_of_row wx w.heap.size q _ _ _ h2, HV.out, List.getD]
          have : q < R.length := by rw [HJ.out.lr]; exact hql
          simp [List.getElem?_eq_getElem this])
        clear hK hm hv hown hp1
        go_wp2_with (first
          | (at_builtin; refine wpList_append_at _ rfl (.tmp 24) (.tmp 26) _ rfl w.heap.size 3 i0 (.int .i64 0) 1 8 Try.underlying22 hi hz0 hz1 hz2 rfl (by omega) (.slice va m vc) m (iv K) rfl (HOW.out.alloc _) ⟨wr.heap.size, 0, none⟩ 1 1 [.int .i64 (i : Int)] rfl rfl new_cell (by simp [Value.oneCell']) HM2.out HM3.out (by simp; have := HBZ.out; omega) ?_; intro v2 w2' hown2 hg2 hat2; obtain ⟨va2, vc2, rfl⟩ := own_shape hown2; obtain ⟨hfr2, hcl2⟩ := HF2.out _ hg2; have HO2 := Lib.hid hown2; have HG2 := Lib.hid hg2; have HA2 := Lib.hid hat2; clear hown2 hg2 hat2)
          | fail)
        go_roundw
        case rel =>
          have hK2 := KJ.put HJ.out HPD.out hql ((Chg.refl [] wr).alloc _) (v := .slice va2 (m + 1) vc2) (by rw [← HK.out, ← HM.out]; exact HO2.out) (by rw [← HV.out]; exact HG2.out) (by rw [← HV.out]; exact HA2.out) rfl
          exact ⟨i + 1, _, by go_num, by omega, hK2⟩
        case measure => simp [intOf]; omega
    · have e : i = n := by omega
      subst e
      go_wp2
      go_ret
      exact ⟨rfl, by have h := HJ.out; rw [HN.out] at h; exact h.out, HJ.out.cg⟩

end Go.Proofs.Ythhcnlmjcpkbnaa
