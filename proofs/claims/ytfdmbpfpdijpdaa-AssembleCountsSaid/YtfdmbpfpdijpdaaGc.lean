/- Contract of fsm.trailsOf. -/
import Derived.Test.YtfdmbpfpdijpdaaGb
import Derived.Test.YtfdmbpfpdijpdaaA4
import Derived.Test.YtfdmbpfpdijpdaaA5
namespace Go.Proofs.Ytfdmbpfpdijpdaa
open Go.RowKit
set_option linter.unusedVariables false
set_option linter.unusedSimpArgs false

theorem chk_len {l : List F} (h : chk l = 0) : 1 ≤ l.length ∧ l.length ≤ 40 := by
  unfold chk at h
  split at h
  · cases h
  · omega

/-- A leaf is a field. -/
theorem leaf_at (l : List F) : ∀ (n : Nat) (x : L), x ∈ leavesTo l n → ∃ i : Nat, i < n ∧ x.f = (i : Int) ∧ x.r = (rls l).getD i 0 := by
  intro n
  induction n with
  | zero => intro x h; simp [leavesTo] at h
  | succ n ih =>
    intro x h
    rw [leavesTo_succ] at h
    rcases List.mem_append.1 h with h | h
    · obtain ⟨i, h1, h2⟩ := ih x h; exact ⟨i, by omega, h2⟩
    · unfold leafAt at h
      split at h
      · simp at h; subst h; exact ⟨n, by omega, rfl, rfl⟩
      · simp at h

/-- A trail in memory: nil, or a row that lies behind Bw. -/
structure Tr1 (w : World) (Bw : Nat) (v : Value) (t : List Nat) : Prop where
  nil : t = [] → v = .slice none 0 0
  rd : Reads w v (nv .i32 (rn t))
  lt : ∀ g, v.ownBlock = some g → Bw < g

theorem Tr1.keep {w w' : World} {Bw : Nat} {v : Value} {t : List Nat} (h : Tr1 w Bw v t) (hc : Chg [Bw] w w') : Tr1 w' Bw v t :=
  ⟨h.nil, h.rd.keep hc (fun g hg hm => by simp at hm; have := h.lt g hg; omega), h.lt⟩

theorem wrap_i32 (x : Int) : IntKind.i32.wrap x = (x + 2147483648) % 4294967296 - 2147483648 := by
  simp [IntKind.wrap, IntKind.bits, IntKind.signed]
  split <;> omega

abbrev nilV : Value := .slice none 0 0

/-- How the ways stand once i of n are made. -/
structure WaJ (l : List F) (n Bw : Nat) (w : World) (i : Nat) (V : List Value) : Prop where
  len : V.length = n
  blk : BlkV w Bw 100 V
  done : ∀ j, j < i → Tr1 w Bw (V.getD j nilV) (trF l j)
  rest : ∀ j, i ≤ j → V.getD j nilV = nilV

theorem getD_set_ne {V : List Value} {i j : Nat} {x d : Value} (h : i ≠ j) : (V.set i x).getD j d = V.getD j d := by
  simp only [List.getD, List.getElem?_set_ne h]
theorem getD_set_at {V : List Value} {i : Nat} {x d : Value} (h : i < V.length) : (V.set i x).getD i d = x := by
  simp [List.getD, List.getElem?_set_self h]

/-- One more. -/
theorem WaJ.step {l : List F} {n Bw : Nat} {w w' : World} {i : Nat} {V : List Value} {x : Value} (h : WaJ l n Bw w i V) (hi : i < n) (hc : Chg [Bw] w w') (hb : BlkV w' Bw 100 (V.set i x)) (ht : Tr1 w' Bw x (trF l i)) : WaJ l n Bw w' (i + 1) (V.set i x) := by
  refine ⟨by simp [h.len], hb, fun j hj => ?_, fun j hj => ?_⟩
  · by_cases e : j = i
    · subst e; rw [getD_set_at (by rw [h.len]; exact hi)]; exact ht
    · rw [getD_set_ne (fun e2 => e e2.symm)]; exact (h.done j (by omega)).keep hc
  · rw [getD_set_ne (by omega)]; exact h.rest j (by omega)

theorem Tr1.own {w : World} {B Bw : Nat} {v : Value} {t : List Nat} {n : Nat} (h : w.ownsRow B 21 1 v n (nv .i32 (rn t))) (hB : Bw < B) (h0 : t = [] → v = .slice none 0 0) : Tr1 w Bw v t :=
  ⟨h0, reads_of_own h, fun g hg => by have := own_ge h g hg; omega⟩

set_option maxRecDepth 100000 in
set_option maxHeartbeats 2000000 in
theorem trailsOf_any (sv : Value) (l : List F) (w : World) (hS : SeenF w sv l) (hch : chk l = 0) (hw : ∀ f ∈ l, f.c ≤ 9223372036854775807) (hnm : ∀ f ∈ l, f.n.size ≤ 1000000) :
    Calls Try.prog 54 #[sv] w fun e w' => ∃ v, e = .returned v ∧ RowsN .i32 w' v ((trs l).map rn) ∧ Chg [] w w' := by
  obtain ⟨i0, hi, hz0, hz1, hz2⟩ := info_trail
  obtain ⟨i1, hi1, hy0, hy1, hy2⟩ := info_i32
  obtain ⟨ao, cap, rfl, hc1, hc2⟩ := hS.shape
  have hl40 := chk_len hch
  have HS := Lib.hid hS; have HW := Lib.hid hw
  have HCK := Lib.hid (fun w0 (hs : SeenF w0 (.slice ao l.length cap) l) => check_any _ l w0 hs hw hnm)
  rw [hch] at HCK
  have HPA := Lib.hid (fun w0 (hs : SeenF w0 (.slice ao l.length cap) l) => parents_any _ l w0 hs (by omega) hw)
  have HLV := Lib.hid (fun w0 (hs : SeenF w0 (.slice ao l.length cap) l) => leaves_any _ l w0 hs (by omega) hw)
  clear hS hw hnm hch
  obtain ⟨n, hn⟩ : ∃ n, n = l.length := ⟨_, rfl⟩
  rw [← hn] at hc1 hl40 HS HCK HPA HLV ⊢
  have HN := Lib.hid hn
  clear hn
  obtain ⟨ps, hps⟩ : ∃ ps, ps = parents l := ⟨_, rfl⟩
  rw [← hps] at HPA
  have HPL := Lib.hid (show ∀ (j : Nat) (x : Int), ps[j]? = some x → x = -1 ∨ 0 ≤ x ∧ x < j from fun j x h => parents_lt (l := l) (by rw [← hps]; exact h))
  have HLN := Lib.hid (show ps.length = n by rw [hps, parents_length, ← HN.out])
  have HTA := Lib.hid (show ∀ k, k < n → trF l k = (if ps.getD k 0 = -1 then [] else trF l (ps.getD k 0).toNat) ++ (if repB l k then [k] else []) from fun k hk => by rw [hps]; exact trF_at l k (by rw [← HN.out]; exact hk))
  have HTL := Lib.hid (show ∀ k, k < n → (trF l k).length ≤ k + 1 from by
    intro k
    induction k using Nat.strongRecOn with
    | _ k ih =>
      intro hk
      rw [HTA.out k hk, List.length_append]
      have hx : ps[k]? = some (ps.getD k 0) := by rw [List.getD, List.getElem?_eq_getElem (by rw [HLN.out]; exact hk)]; rfl
      have h1 : (if repB l k then [k] else []).length ≤ 1 := by split <;> simp
      have h2 : (if ps.getD k 0 = -1 then [] else trF l (ps.getD k 0).toNat).length ≤ k := by
        split
        · simp
        · have h3 := HPL.out k _ hx
          have h4 := ih (ps.getD k 0).toNat (by omega) (by omega)
          omega
      omega)
  clear hps
  go_enter Try.func54, Try.ntmps54
  go_wp2_with fail
  refine (HCK.out w HS.out).mono ?_
  rintro e w1 ⟨rfl, hk⟩
  have HC1 := Lib.hid hk
  clear hk
  go_wp2_with (at_make; refine wpList_make_full _ rfl _ _ 96 rfl w1.heap.size 100 i0 (.slice none 0 0) 1 Try.underlying96 hi hz0 hz1 .i64 .i64 _ _ n rfl rfl rfl rfl ?c1 ?c2 (Nat.le_refl _) ?_)
  case c1 => rw [hz2]; omega
  case c2 => unfold maxLen; omega
  intro w2 hown1 hg1
  obtain ⟨Bw, hBw⟩ : ∃ Bw, Bw = w1.heap.size := ⟨_, rfl⟩
  rw [← hBw] at hown1 ⊢
  have hlt1 : Bw < w2.heap.size := (hown1.lt Bw rfl).2
  rw [toList_madeCells_one] at hown1
  have HC2 := Lib.hid (HC1.out.grown hg1 (by simp))
  have HWA := Lib.hid (show WaJ l n Bw w2 0 (List.replicate n nilV) from ⟨by simp, blkV_of_own hown1 rfl, fun j hj => by omega, fun j _ => by simp only [List.getD, List.getElem?_replicate]; split <;> rfl⟩)
  have hwB : w.heap.size ≤ Bw := by rw [hBw]; exact HC1.out.size
  clear hown1 hg1 hBw
  go_wp2_with fail
  refine (HPA.out w2 (HS.out.keep HC2.out)).mono ?_
  rintro e w3 ⟨rfl, hb, hk⟩
  obtain ⟨B2, hB2⟩ : ∃ B2, B2 = w2.heap.size := ⟨_, rfl⟩
  rw [← hB2] at hb ⊢
  have HB2 := Lib.hid hb
  have hne : B2 ≠ Bw := by omega
  have HWA3 := Lib.hid (show WaJ l n Bw w3 0 (List.replicate n nilV) from ⟨HWA.out.len, HWA.out.blk.chg hk (by simp), fun j hj => by omega, HWA.out.rest⟩)
  have HC3 := Lib.hid (HC2.out.trans hk (by simp))
  clear hb hk hB2 HWA
  go_wp2
  go_loopw [17] (fun x w' => ∃ (k : Nat) (V : List Value), x = .int .i64 (k : Int) ∧ k ≤ n ∧ Chg [Bw] w3 w' ∧ WaJ l n Bw w' k V) (fun x _ => n - (intOf x).toNat)
  case atStart => exact ⟨0, _, rfl, Nat.zero_le _, Chg.refl _ _, HWA3.out⟩
  case round =>
    obtain ⟨k, V, rfl, hk, hc, hJ⟩ := hrel
    have HC := Lib.hid hc; have HJ := Lib.hid hJ
    clear hc hJ
    by_cases hlt : k < n
    · obtain ⟨p, hp⟩ : ∃ p, ps[k]? = some p := ⟨_, List.getElem?_eq_getElem (by rw [HLN.out]; exact hlt)⟩
      have hpr := HPL.out k p hp
      have hpg : ps.getD k 0 = p := by rw [List.getD, hp]; rfl
      have hpc : wr.cell? ⟨B2, k, none⟩ = some (.int .i64 p) := (HB2.out.chg HC.out (by simpa using hne)).cell hp
      obtain ⟨gs, off, rfl, hcs⟩ := SeenF.get HS.out (by omega) HN.out.symm
      have hgs : gs < w.heap.size := World.block_lt_of_cell? w _ (hcs 0 (by omega)).1
      obtain ⟨r, hr⟩ : ∃ r, r = (l.getD k default).r := ⟨_, rfl⟩
      have a2 : wr.cell? ⟨gs, off + k * 4 + 1, none⟩ = some (.int .i64 r) := by rw [hr]; exact HC.out.cell (HC3.out.cell (hcs k hlt).2.1 (by simp)) (by simp; omega)
      have hrb : repB l k = decide (r = 2) := by unfold repB; rw [hr]
      have htk := HTA.out k hlt
      rw [hpg, hrb] at htk
      have htl := HTL.out k hlt
      clear hcs hp hr hrb
      have hVk : V.getD k nilV = nilV := HJ.out.rest k (Nat.le_refl _)
      have hVl := HJ.out.len
      have hVc : V[k]? = some nilV := by
        rw [List.getD, List.getElem?_eq_getElem (by omega)] at hVk
        rw [List.getElem?_eq_getElem (by omega)]
        exact congrArg some hVk
      have hBr : Bw < wr.heap.size := HJ.out.blk.lt
      have hw1 : IntKind.i32.wrap (k : Int) = (k : Int) := by rw [wrap_i32]; omega
      have hw2 : IntKind.i32.wrap (65 + (k : Int)) = ((k + 65 : Nat) : Int) := by rw [wrap_i32]; omega
      obtain ⟨Bz, hBz⟩ : ∃ Bz, Bz = wr.heap.size := ⟨_, rfl⟩
      rw [← hBz] at hBr
      have HBZ := Lib.hid hBz
      have hVc2 : wr.cell? ⟨Bw, k, none⟩ = some (.slice none 0 0) := HJ.out.blk.cell hVc
      have hfr : wr.frozen? ⟨Bw, k, none⟩ = false := HJ.out.blk.frozen k
      clear hBz
      have hrr : (r == 2) = true ∨ (r == 2) = false := by cases (r == 2) <;> simp
      have hgB : gs ≠ Bw := by omega
      rcases hrr with e1 | e1
      · by_cases hp1 : p = -1
        · subst hp1
          have HBK := Lib.hid (show BlkV wr Bw 100 (V.set k (.slice none 0 0)) by
            have e : V.set k (.slice none 0 0) = V := by
              apply List.ext_getElem?
              intro j
              by_cases h : k = j
              · subst h; rw [List.getElem?_set_self (by omega), hVc]
              · rw [List.getElem?_set_ne h]
            rw [e]; exact HJ.out.blk)
          have HWB := Lib.hid (Chg.refl [Bw] wr)
          obtain ⟨t0, ht0⟩ : ∃ t0 : List Nat, t0 = [] := ⟨_, rfl⟩
          obtain ⟨m, hm⟩ : ∃ m, m = t0.length := ⟨_, rfl⟩
          have HB0 := Lib.hid (show trF l k = t0 ++ (if decide (r = 2) = true then [k] else []) by rw [htk, ht0, if_pos rfl])
          have HOB := Lib.hid (show wr.ownsRow Bz 21 1 (.slice none 0 0) m (nv .i32 (rn t0)) by rw [hm, ht0]; exact ⟨rfl, .inl ⟨rfl, rfl⟩⟩)
          obtain ⟨bo, bc, hbv⟩ : ∃ bo bc, Value.slice none 0 0 = .slice bo m bc := ⟨none, 0, by rw [hm, ht0]; rfl⟩
          rw [hbv] at HBK HOB hVc2
          have HN0 := Lib.hid (show t0 = [] → Value.slice bo m bc = .slice none 0 0 from fun _ => hbv.symm)
          have HM := Lib.hid hm
          have hml : m ≤ k := by simp [hm, ht0]
          clear hpr htk hVc hVk hVl ht0 hbv hm
          have HM2 := Lib.hid (show m + 1 ≤ maxLen by unfold maxLen; omega)
          have HM3 := Lib.hid (show (m + 1) * 4 ≤ 140737488355328 by omega)
          have HBX := Lib.hid (show Bz ≤ wr.heap.size by have h := HWB.out.size; rw [HBZ.out]; exact h)
          have HE := Lib.hid (show trF l k = t0 ++ [k] by rw [HB0.out, if_pos (by simpa using e1)])
          have HBlt := Lib.hid hBr

          go_wp2_with (first
            | (at_builtin; refine wpList_append_at _ rfl (.tmp 43) (.tmp 47) _ rfl Bz 21 i1 (.int .i32 0) 1 4 Try.underlying100 hi1 hy0 hy1 hy2 rfl (by omega) (.slice bo m bc) m (nv .i32 (rn t0)) rfl (HOB.out.alloc _) ⟨wr.heap.size, 0, none⟩ 1 1 [.int .i32 ((k + 65 : Nat) : Int)] rfl rfl (new_cells (C := #[.int .i32 ((k + 65 : Nat) : Int)]) _ (by simp)) (by simp [Value.oneCell']) HM2.out HM3.out (le_alloc HBX.out _) ?_; intro v2 w4 hown2 hg2 hat2; obtain ⟨a4, c4, rfl⟩ := own_shape hown2; have HO2 := Lib.hid hown2; have HC4 := Lib.hid ((HWB.out.alloc _).grown hg2 (fun k hk => .inr (by rw [← HBZ.out]; exact own_ge HOB.out k hk))); have HBK4 := Lib.hid (((HBK.out.chg ((Chg.refl [] _).alloc _) (by simp))).chg (((Chg.refl (Value.slice bo m bc).ownBlock.toList _)).grown hg2 (fun q hq => .inl (by simp [← hq]))) (fun hm => by simp at hm; have := own_ge HOB.out _ hm; have := HBlt.out; omega)); have hfr4 : w4.frozen? ⟨Bw, k, none⟩ = false := HBK4.out.frozen k; have hvk4 : w4.cell? ⟨Bw, k, none⟩ = some (.slice bo m bc) := HBK4.out.cell (List.getElem?_set_self (by rw [HJ.out.len]; omega)); clear hown2 hg2 hat2)
            | fail)
          go_roundw
          case rel =>
            have hst := (HBK4.out.set k (.slice a4 (m + 1) c4))
            rw [List.set_set] at hst
            refine ⟨k + 1, _, by go_num, by omega, HC.out.trans (HC4.out.setCell (p := ⟨Bw, k, none⟩) (by simp) _) (by simp), HJ.out.step hlt (HC4.out.setCell (p := ⟨Bw, k, none⟩) (by simp) _) hst ?_⟩
            refine (Tr1.own (B := Bz) (n := m + 1) ?_ HBlt.out (fun e => absurd e (by rw [HE.out]; simp))).keep ((Chg.refl [Bw] w4).setCell (p := ⟨Bw, k, none⟩) (by simp) _)
            have h := HO2.out
            rw [HE.out]
            simpa [nv, rn] using h
          case measure => simp [intOf]; omega
        · obtain ⟨q, rfl⟩ : ∃ q : Nat, p = q := ⟨p.toNat, by omega⟩
          have hqk : q < k := by omega
          have hT := HJ.out.done q hqk
          obtain ⟨t0, ht0⟩ : ∃ t0 : List Nat, t0 = trF l q := ⟨_, rfl⟩
          obtain ⟨m, hm⟩ : ∃ m, m = t0.length := ⟨_, rfl⟩
          have hml : m ≤ k := by have := HTL.out q (by omega); rw [hm, ht0]; omega
          have HB0 := Lib.hid (show trF l k = t0 ++ (if decide (r = 2) = true then [k] else []) by rw [htk, ht0, if_neg hp1, Int.toNat_natCast])
          rw [← ht0] at hT
          obtain ⟨qv, hqv⟩ : ∃ qv, qv = V.getD q nilV := ⟨_, rfl⟩
          have hqc : wr.cell? ⟨Bw, q, none⟩ = some qv := HJ.out.blk.cell (by rw [hqv, List.getD, List.getElem?_eq_getElem (by omega)]; rfl)
          rw [← hqv] at hT
          have HTQ := Lib.hid hT
          have HM := Lib.hid hm
          have hn1 : ((q : Int) != -1) = true := by simp
          clear hpr htk hVc hVc2 hVk ht0 hqv hT hp1 hfr hm
          go_wp2_with fail
          refine (clone_any _ t0 _ HTQ.out.rd HTQ.out.nil (by rw [← HM.out]; omega)).mono ?_
          rintro e wc ⟨bv, rfl, hown, hkc, hn0⟩
          rw [← HBZ.out, ← HM.out] at hown
          obtain ⟨bo, bc, rfl⟩ := own_shape hown
          have HN0 := Lib.hid hn0
          clear hn0
          have HBC := Lib.hid (HJ.out.blk.chg hkc (by simp))
          have hvc : wc.cell? ⟨Bw, k, none⟩ = some (.slice none 0 0) := by
            refine HBC.out.cell ?_
            have := HJ.out.rest k (Nat.le_refl _)
            rw [List.getD, List.getElem?_eq_getElem (by omega)] at this
            rw [List.getElem?_eq_getElem (by omega)]
            exact congrArg some this
          have hfr : wc.frozen? ⟨Bw, k, none⟩ = false := HBC.out.frozen k
          have HOB := Lib.hid (own_chg hown ((Chg.refl [Bw] wc).setCell (p := ⟨Bw, k, none⟩) (by simp) (.slice bo m bc)) (fun g hg hm => by simp at hm; have := own_ge hown g hg; omega))
          have HWB := Lib.hid ((hkc.mono (T := [Bw]) (by simp)).setCell (p := ⟨Bw, k, none⟩) (by simp) (.slice bo m bc))
          have HBK := Lib.hid (HBC.out.set k (.slice bo m bc))
          have a2' := hkc.cell a2 (by simp)
          clear hown hkc a2
          have HM2 := Lib.hid (show m + 1 ≤ maxLen by unfold maxLen; omega)
          have HM3 := Lib.hid (show (m + 1) * 4 ≤ 140737488355328 by omega)
          have HBX := Lib.hid (show Bz ≤ (wc.setCell ⟨Bw, k, none⟩ (.slice bo m bc)).heap.size by have h := HWB.out.size; rw [HBZ.out]; exact h)
          have HE := Lib.hid (show trF l k = t0 ++ [k] by rw [HB0.out, if_pos (by simpa using e1)])
          have HBlt := Lib.hid hBr

          go_wp2_with (first
            | (at_builtin; refine wpList_append_at _ rfl (.tmp 43) (.tmp 47) _ rfl Bz 21 i1 (.int .i32 0) 1 4 Try.underlying100 hi1 hy0 hy1 hy2 rfl (by omega) (.slice bo m bc) m (nv .i32 (rn t0)) rfl (HOB.out.alloc _) ⟨wc.heap.size, 0, none⟩ 1 1 [.int .i32 ((k + 65 : Nat) : Int)] rfl rfl (new_cells (C := #[.int .i32 ((k + 65 : Nat) : Int)]) _ (by simp)) (by simp [Value.oneCell']) HM2.out HM3.out (le_alloc HBX.out _) ?_; intro v2 w4 hown2 hg2 hat2; obtain ⟨a4, c4, rfl⟩ := own_shape hown2; have HO2 := Lib.hid hown2; have HC4 := Lib.hid ((HWB.out.alloc _).grown hg2 (fun k hk => .inr (by rw [← HBZ.out]; exact own_ge HOB.out k hk))); have HBK4 := Lib.hid (((HBK.out.chg ((Chg.refl [] _).alloc _) (by simp))).chg (((Chg.refl (Value.slice bo m bc).ownBlock.toList _)).grown hg2 (fun q hq => .inl (by simp [← hq]))) (fun hm => by simp at hm; have := own_ge HOB.out _ hm; have := HBlt.out; omega)); have hfr4 : w4.frozen? ⟨Bw, k, none⟩ = false := HBK4.out.frozen k; have hvk4 : w4.cell? ⟨Bw, k, none⟩ = some (.slice bo m bc) := HBK4.out.cell (List.getElem?_set_self (by rw [HJ.out.len]; omega)); clear hown2 hg2 hat2)
            | fail)
          go_roundw
          case rel =>
            have hst := (HBK4.out.set k (.slice a4 (m + 1) c4))
            rw [List.set_set] at hst
            refine ⟨k + 1, _, by go_num, by omega, HC.out.trans (HC4.out.setCell (p := ⟨Bw, k, none⟩) (by simp) _) (by simp), HJ.out.step hlt (HC4.out.setCell (p := ⟨Bw, k, none⟩) (by simp) _) hst ?_⟩
            refine (Tr1.own (B := Bz) (n := m + 1) ?_ HBlt.out (fun e => absurd e (by rw [HE.out]; simp))).keep ((Chg.refl [Bw] w4).setCell (p := ⟨Bw, k, none⟩) (by simp) _)
            have h := HO2.out
            rw [HE.out]
            simpa [nv, rn] using h
          case measure => simp [intOf]; omega
      · by_cases hp1 : p = -1
        · subst hp1
          have HBK := Lib.hid (show BlkV wr Bw 100 (V.set k (.slice none 0 0)) by
            have e : V.set k (.slice none 0 0) = V := by
              apply List.ext_getElem?
              intro j
              by_cases h : k = j
              · subst h; rw [List.getElem?_set_self (by omega), hVc]
              · rw [List.getElem?_set_ne h]
            rw [e]; exact HJ.out.blk)
          have HWB := Lib.hid (Chg.refl [Bw] wr)
          obtain ⟨t0, ht0⟩ : ∃ t0 : List Nat, t0 = [] := ⟨_, rfl⟩
          obtain ⟨m, hm⟩ : ∃ m, m = t0.length := ⟨_, rfl⟩
          have HB0 := Lib.hid (show trF l k = t0 ++ (if decide (r = 2) = true then [k] else []) by rw [htk, ht0, if_pos rfl])
          have HOB := Lib.hid (show wr.ownsRow Bz 21 1 (.slice none 0 0) m (nv .i32 (rn t0)) by rw [hm, ht0]; exact ⟨rfl, .inl ⟨rfl, rfl⟩⟩)
          obtain ⟨bo, bc, hbv⟩ : ∃ bo bc, Value.slice none 0 0 = .slice bo m bc := ⟨none, 0, by rw [hm, ht0]; rfl⟩
          rw [hbv] at HBK HOB hVc2
          have HN0 := Lib.hid (show t0 = [] → Value.slice bo m bc = .slice none 0 0 from fun _ => hbv.symm)
          have HM := Lib.hid hm
          have hml : m ≤ k := by simp [hm, ht0]
          clear hpr htk hVc hVk hVl ht0 hbv hm
          have HE := Lib.hid (show trF l k = t0 by rw [HB0.out, if_neg (by simpa using e1), List.append_nil])
          have HBlt := Lib.hid hBr

          go_wp2
          go_roundw
          case rel =>
            refine ⟨k + 1, _, by go_num, by omega, HC.out.trans HWB.out (by simp), HJ.out.step hlt HWB.out HBK.out ?_⟩
            rw [HE.out]
            exact Tr1.own (B := Bz) (n := m) HOB.out HBlt.out HN0.out
          case measure => simp [intOf]; omega
        · obtain ⟨q, rfl⟩ : ∃ q : Nat, p = q := ⟨p.toNat, by omega⟩
          have hqk : q < k := by omega
          have hT := HJ.out.done q hqk
          obtain ⟨t0, ht0⟩ : ∃ t0 : List Nat, t0 = trF l q := ⟨_, rfl⟩
          obtain ⟨m, hm⟩ : ∃ m, m = t0.length := ⟨_, rfl⟩
          have hml : m ≤ k := by have := HTL.out q (by omega); rw [hm, ht0]; omega
          have HB0 := Lib.hid (show trF l k = t0 ++ (if decide (r = 2) = true then [k] else []) by rw [htk, ht0, if_neg hp1, Int.toNat_natCast])
          rw [← ht0] at hT
          obtain ⟨qv, hqv⟩ : ∃ qv, qv = V.getD q nilV := ⟨_, rfl⟩
          have hqc : wr.cell? ⟨Bw, q, none⟩ = some qv := HJ.out.blk.cell (by rw [hqv, List.getD, List.getElem?_eq_getElem (by omega)]; rfl)
          rw [← hqv] at hT
          have HTQ := Lib.hid hT
          have HM := Lib.hid hm
          have hn1 : ((q : Int) != -1) = true := by simp
          clear hpr htk hVc hVc2 hVk ht0 hqv hT hp1 hfr hm
          go_wp2_with fail
          refine (clone_any _ t0 _ HTQ.out.rd HTQ.out.nil (by rw [← HM.out]; omega)).mono ?_
          rintro e wc ⟨bv, rfl, hown, hkc, hn0⟩
          rw [← HBZ.out, ← HM.out] at hown
          obtain ⟨bo, bc, rfl⟩ := own_shape hown
          have HN0 := Lib.hid hn0
          clear hn0
          have HBC := Lib.hid (HJ.out.blk.chg hkc (by simp))
          have hvc : wc.cell? ⟨Bw, k, none⟩ = some (.slice none 0 0) := by
            refine HBC.out.cell ?_
            have := HJ.out.rest k (Nat.le_refl _)
            rw [List.getD, List.getElem?_eq_getElem (by omega)] at this
            rw [List.getElem?_eq_getElem (by omega)]
            exact congrArg some this
          have hfr : wc.frozen? ⟨Bw, k, none⟩ = false := HBC.out.frozen k
          have HOB := Lib.hid (own_chg hown ((Chg.refl [Bw] wc).setCell (p := ⟨Bw, k, none⟩) (by simp) (.slice bo m bc)) (fun g hg hm => by simp at hm; have := own_ge hown g hg; omega))
          have HWB := Lib.hid ((hkc.mono (T := [Bw]) (by simp)).setCell (p := ⟨Bw, k, none⟩) (by simp) (.slice bo m bc))
          have HBK := Lib.hid (HBC.out.set k (.slice bo m bc))
          have a2' := hkc.cell a2 (by simp)
          clear hown hkc a2
          have HE := Lib.hid (show trF l k = t0 by rw [HB0.out, if_neg (by simpa using e1), List.append_nil])
          have HBlt := Lib.hid hBr

          go_wp2
          go_roundw
          case rel =>
            refine ⟨k + 1, _, by go_num, by omega, HC.out.trans HWB.out (by simp), HJ.out.step hlt HWB.out HBK.out ?_⟩
            rw [HE.out]
            exact Tr1.own (B := Bz) (n := m) HOB.out HBlt.out HN0.out
          case measure => simp [intOf]; omega
    · have ek : k = n := by omega
      have hWD := HJ.out
      rw [ek] at hWD
      have HWD := Lib.hid hWD
      have HCE := Lib.hid (show Chg [] w wr from HC3.out.trans HC.out (by simp; omega))
      clear ek hWD hk
      go_wp2_with fail
      clear hlt
      refine (HLV.out wr (HS.out.keep HCE.out)).mono ?_
      rintro e w5 ⟨fv, rfl, hsl, hkl⟩
      obtain ⟨fo, fc, rfl, hfl1, hfl2⟩ := hsl.shape
      have HSL := Lib.hid hsl
      obtain ⟨N, hN⟩ : ∃ N, N = (leavesL l).length := ⟨_, rfl⟩
      have hNn : N ≤ n := by have h := leavesTo_le l l.length; rw [hN, HN.out]; exact h
      rw [← hN] at hfl1 HSL ⊢
      have HNN := Lib.hid hN
      have HC5 := Lib.hid (HCE.out.trans hkl (by simp))
      have HB5 := Lib.hid (HWD.out.blk.chg hkl (by simp))
      have HD5 := Lib.hid (show ∀ j, j < n → Tr1 w5 Bw (V.getD j nilV) (trF l j) from fun j hj => (HWD.out.done j hj).keep (hkl.mono (by simp)))
      have hVl : V.length = n := HWD.out.len
      have HVL := Lib.hid hVl
      have hB5 : Bw < w5.heap.size := HB5.out.lt
      clear hsl hN hkl hVl
      go_wp2
      go_loopw [2, 54] (fun lv x w' => ∃ (k : Nat) (VL : List Value), x = .int .i64 (k : Int) ∧ k ≤ N ∧ Chg [] w5 w' ∧ w'.ownsRow w5.heap.size 100 1 lv k VL ∧ VL = ((leavesL l).take k).map fun x => V.getD x.f.toNat nilV) (fun _ x _ => N - (intOf x).toNat)
      case atStart => exact ⟨0, [], rfl, Nat.zero_le _, Chg.refl _ _, ⟨rfl, .inl ⟨rfl, rfl⟩⟩, rfl⟩
      case round =>
        obtain ⟨k, VL, rfl, hkN, hc, ho, hVLe⟩ := hrel
        have HCR := Lib.hid hc
        obtain ⟨lo, lc, rfl⟩ := own_shape ho
        have HO := Lib.hid ho; have HVE := Lib.hid hVLe
        clear hc ho hVLe
        by_cases hlt : k < N
        · obtain ⟨gl, ol, rfl, hcl⟩ := HSL.out.at (by omega)
          obtain ⟨lf, hlf⟩ : ∃ lf, (leavesL l)[k]? = some lf := ⟨_, List.getElem?_eq_getElem (by rw [← HNN.out]; exact hlt)⟩
          obtain ⟨b0, b1, b2, b3⟩ := SeenL.cells hcl hlf
          obtain ⟨i, hin, hfi, -⟩ := leaf_at l l.length lf (List.mem_of_getElem? hlf)
          rw [← HN.out] at hin
          have c0 := HCR.out.cell b0 (by simp)
          have c1 := HCR.out.cell b1 (by simp)
          have c2 := HCR.out.cell b2 (by simp)
          have c3 := HCR.out.cell b3 (by simp)
          rw [hfi] at c0
          obtain ⟨x, hx⟩ : ∃ x, x = V.getD i nilV := ⟨_, rfl⟩
          have hxc : wr.cell? ⟨Bw, i, none⟩ = some x := (HB5.out.chg HCR.out (by simp)).cell (by rw [hx, List.getD, List.getElem?_eq_getElem (by rw [HVL.out]; exact hin)]; rfl)
          have HE := Lib.hid (show ((leavesL l).take (k + 1)).map (fun x => V.getD x.f.toNat nilV) = VL ++ [x] by rw [List.take_add_one, hlf, List.map_append, ← HVE.out, hx]; simp [hfi])
          obtain ⟨xo, xl, xc, rfl⟩ : ∃ xo xl xc, x = .slice xo xl xc := by
            obtain ⟨a, b, c, -⟩ := (HD5.out i hin).rd.shape
            exact ⟨a, _, b, by rw [hx]; exact c⟩
          clear hcl b0 b1 b2 b3 hlf hfi hx
          have hBr : Bw < wr.heap.size := Nat.lt_of_lt_of_le hB5 HCR.out.size
          have hxc2 : (wr.alloc (.cells #[.int .i64 (i : Int), .int .i64 lf.r, .int .i64 lf.d, .int .i64 lf.k] 52)).cell? ⟨Bw, i, none⟩ = some (.slice xo xl xc) := ((Chg.refl [] wr).alloc _).cell hxc (by simp)
          have HM2 := Lib.hid (show k + 1 ≤ maxLen by unfold maxLen; omega)
          have HM3 := Lib.hid (show (k + 1) * 24 ≤ 140737488355328 by omega)
          have HBX := Lib.hid HCR.out.size
          go_wp2_with (first
            | (at_builtin; refine wpList_append_at _ rfl (.tmp 58) (.tmp 64) _ rfl w5.heap.size 100 i0 (.slice none 0 0) 1 24 Try.underlying96 hi hz0 hz1 hz2 rfl (by omega) (.slice lo k lc) k VL rfl ((HO.out.alloc _).alloc _) ⟨wr.heap.size + 1, 0, none⟩ 1 1 [.slice xo xl xc] rfl rfl (new_cells (C := #[.slice xo xl xc]) _ (by simp)) (by simp [Value.oneCell']) HM2.out HM3.out (le_alloc (le_alloc HBX.out _) _) ?_; intro v2 w6 hown2 hg2 hat2; obtain ⟨a4, c4, rfl⟩ := own_shape hown2; have HO2 := Lib.hid hown2; have HC6 := Lib.hid (((HCR.out.alloc _).alloc _).grown hg2 (fun k hk => .inr (own_ge HO.out k hk))); clear hown2 hg2 hat2)
            | fail)
          go_roundw
          case rel => exact ⟨k + 1, _, by go_num, by omega, HC6.out, HO2.out, HE.out.symm⟩
          case measure => simp [intOf]; omega
        · have ek : k = N := by omega
          have hVf : VL = (leavesL l).map fun x => V.getD x.f.toNat nilV := by rw [HVE.out, ek, HNN.out, List.take_length]
          have HVF := Lib.hid hVf
          have hO := HO.out
          rw [ek] at hO
          have HOF := Lib.hid hO
          clear ek hVf hO
          go_wp2
          go_ret
          refine ⟨_, rfl, ?_, HC5.out.trans HCR.out (by simp)⟩
          have ek : k = N := by omega
          rw [ek]
          refine RowsN.own HOF.out (by rw [List.length_map, trs_length, HNN.out]) fun j hj => ?_
          obtain ⟨lf, hlf⟩ : ∃ lf, (leavesL l)[j]? = some lf := ⟨_, List.getElem?_eq_getElem (by rw [← HNN.out]; exact hj)⟩
          obtain ⟨i, hin, hfi, -⟩ := leaf_at l l.length lf (List.mem_of_getElem? hlf)
          have ht := (HD5.out i (by rw [HN.out]; exact hin)).rd.seen
          refine ⟨V.getD i nilV, by rw [HVF.out, List.getElem?_map, hlf]; simp [hfi], ?_⟩
          have e : ((trs l).map rn).getD j [] = rn (trF l i) := by simp [List.getD, trs, hlf, hfi]
          rw [e]
          exact ht.keep HCR.out

end Go.Proofs.Ytfdmbpfpdijpdaa
