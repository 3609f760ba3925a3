/- Uk, Ul, Um: texts of one group, one behind the other. -/
import Derived.Test.YtohgnbgijleoaaaDoorX1
import Derived.Test.YtohgnbgijleoaaaDoorU2
import Derived.Test.YtohgnbgijleoaaaDoorU4
namespace Go.Proofs.YtohgnbgijleoaaaDoor
open Go.RowKit
set_option linter.unusedVariables false
set_option linter.unusedSimpArgs false

theorem XS.keepOwn {w w' : World} {x M B n : Nat} {b : List Nat} {a : Nat} {e : Int} {v : Value} {xs : List Value} (h : XS w x M b a e) (ho : w.ownsRow B 39 2 v n xs) (hc : Chg v.ownBlock.toList w w') : XS w' x M b a e := by
  obtain ⟨rv, h1, h2, h3, h4, h5⟩ := h.xr
  have hn : ∀ g, v.ownBlock = some g → g ≠ x := (tagged_of_own ho).ne h1 (by decide)
  have hn2 : ∀ g, rv.ownBlock = some g → g ∉ v.ownBlock.toList := fun g hg hm => by
    simp at hm
    obtain ⟨cur, fr, hb⟩ := h3 g hg
    exact (tagged_of_own ho).ne hb (by decide) g hm rfl
  exact ⟨⟨rv, hc.heap h1 (fun hm => by simp at hm; exact hn x hm rfl), h2.keep hc hn2, h3.keep hc hn2, h4, h5⟩, h.by', h.bl, h.xM, h.aL⟩

theorem XS.far {w : World} {x M B n : Nat} {b : List Nat} {a : Nat} {e : Int} {v : Value} {xs : List Value} (h : XS w x M b a e) (ho : w.ownsRow B 39 2 v n xs) : ∀ g, v.ownBlock = some g → g ∉ [x] := fun g hg hm => by
  obtain ⟨rv, h1, -⟩ := h.xr
  simp at hm
  exact (tagged_of_own ho).ne h1 (by decide) g hg hm

theorem mapV_snoc (A : List Nat) (j : Nat) (h : j < A.length) : (A.take (j + 1)).map (fun x : Nat => (⟨(x : Int), e0⟩ : V)) = (A.take j).map (fun x : Nat => (⟨(x : Int), e0⟩ : V)) ++ [⟨((A.getD j 0 : Nat) : Int), e0⟩] := by
  rw [List.take_succ_eq_append_getElem h, List.map_append]
  simp [List.getD, h]

set_option maxRecDepth 100000 in
set_option maxHeartbeats 4000000 in
theorem rbools_any (bv : Value) (b : List Nat) (n : Nat) (w : World) (hn : n ≤ 4000) (hbl : b.length < 137438953472) (hS : Seen w bv (nv .u8 b)) (hb : ∀ x ∈ b, x < 2 ^ 8) :
    Calls Tryd.prog 44 #[bv, .int .i64 (n : Int)] w (PDecOut 1 b (n : Int) w) := by
  obtain ⟨i0, hi, hz0, hz1, hz2⟩ := info_value
  have HU := Lib.hid (runpack_any bv b n 1 w hn (by decide) hbl hS hb)
  rw [show ((1 : Nat) : Int) = 1 from rfl] at HU
  have E := Lib.hid (show decP 1 b (n : Int) = ((outU b n 1).map (fun x : Nat => (⟨(x : Int), e0⟩ : V)), faultOf b (1 * n)) by
    unfold decP; rw [if_neg (by omega), if_pos rfl, Int.toNat_natCast])
  have hbd : ∀ x ∈ outU b n 1, x < 2 := by
    intro x hx
    unfold outU at hx
    split at hx
    · unfold unpacked pk at hx
      obtain ⟨j, _, rfl⟩ := List.mem_map.1 hx
      exact wd_lt _ _ _ _
    · simp at hx
  have hlen : (outU b n 1).length ≤ n := by
    unfold outU
    split
    · rw [unpacked_length]; exact Nat.le_refl _
    · simp
  have hnil : faultOf b (1 * n) ≠ 0 → outU b n 1 = [] := fun h => by unfold outU; rw [if_neg h]
  unfold PDecOut
  unfold UnpackOut at HU
  rw [E.out]
  obtain ⟨f, hf⟩ : ∃ f, f = faultOf b (1 * n) := ⟨_, rfl⟩
  obtain ⟨A, hA⟩ : ∃ A, A = outU b n 1 := ⟨_, rfl⟩
  rw [← hf, ← hA] at HU ⊢
  rw [← hf] at hnil
  rw [← hA] at hbd hlen hnil
  have HBD := Lib.hid hbd
  obtain ⟨m, hm⟩ : ∃ m, m = A.length := ⟨_, rfl⟩
  rw [← hm] at hlen
  have HM := Lib.hid hm
  clear hS hb hf hA hbd E
  by_cases hf0 : f = 0
  · subst hf0
    clear hnil
    go_enter Tryd.func44, Tryd.ntmps44
    go_wp2_with (first
      | (go_at_call 52; (with_reducible refine HU.out.mono ?_); rintro e w1 ⟨v, rfl, hc, ho⟩; rw [← hm] at ho; obtain ⟨vo, vc, rfl⟩ := own_shape ho; have HC1 := Lib.hid hc; have HA := Lib.hid (reads_of_own ho).seen; clear hc ho hm)
      | fail)
    go_loopw [8, 9] (fun x i w' => ∃ j : Nat, j ≤ m ∧ i = .int .i64 (j : Int) ∧ Chg [] w1 w' ∧ w'.ownsRow w1.heap.size 39 2 x j (((A.take j).map (fun x : Nat => (⟨(x : Int), e0⟩ : V))).flatMap V.cs)) (fun _ i _ => m - (intOf i).toNat)
    case atStart => exact ⟨0, Nat.zero_le _, rfl, Chg.refl _ _, by simpa using World.ownsRow_nil _ _ _ _⟩
    case round =>
      obtain ⟨j, hj, rfl, hc, ho⟩ := hrel
      obtain ⟨xo, xc, rfl⟩ := own_shape ho
      have HC := Lib.hid hc; have HO := Lib.hid ho
      have hB := hc.size
      clear hc ho
      by_cases hlt : j < m
      · have d1 : decide ((j : Int) < (m : Int)) = true := by simp; omega
        obtain ⟨g, off, rfl, hcell⟩ := (HA.out.keep HC.out).at0 HM.out.symm (by omega)
        have x0 := hcell j hlt
        have HSN := Lib.hid (mapV_snoc A j (by rw [← HM.out]; exact hlt))
        obtain ⟨s, hs⟩ : ∃ s, s = A.getD j 0 := ⟨_, rfl⟩
        rw [← hs] at x0 HSN
        have hs2 : s < 2 := by rw [hs]; exact HBD.out _ (getD_mem (by rw [← HM.out]; exact hlt))
        have hwr : IntKind.i64.wrap (s : Int) = (s : Int) := IntWalk.i64_in _ (by omega)
        clear hcell hs
        go_wp2_with (first
          | (at_builtin; refine wpList_append_own _ rfl _ _ 22 rfl w1.heap.size 39 i0 (.agg #[.int .i64 0, .string ByteArray.empty]) 2 24 Tryd.underlying22 hi hz0 hz1 hz2 rfl (by decide) _ _ _ rfl (HO.out.alloc _) ⟨wr.heap.size, 0, none⟩ 1 1 (V.cs ⟨(s : Int), e0⟩) rfl rfl (new_cells (C := #[.int .i64 (s : Int), .string e0]) _ rfl) (V.one _) (by unfold maxLen; omega) (by omega) (by simp; omega) ?_)
          | fail)
        intro v' w3 hown' hgrow _
        have HG3 := Lib.hid ((HC.out.alloc (.cells #[.int .i64 (s : Int), .string e0] 39)).grown hgrow (fun g hg => .inr (HO.out.lt g hg).1))
        have HO3 := Lib.hid (show w3.ownsRow w1.heap.size 39 2 v' (j + 1) (((A.take (j + 1)).map (fun x : Nat => (⟨(x : Int), e0⟩ : V))).flatMap V.cs) by rw [HSN.out, List.flatMap_append]; simpa using hown')
        clear hgrow hown'
        go_wp2
        go_roundw
        case rel => exact ⟨j + 1, hlt, by go_num, HG3.out, HO3.out⟩
        case measure => simp [intOf]; omega
      · have d1 : decide ((j : Int) < (m : Int)) = false := by simp; omega
        obtain rfl : j = m := by omega
        have HF := Lib.hid (show wr.ownsRow w.heap.size 39 2 (.slice xo j xc) (A.map (fun x : Nat => (⟨(x : Int), e0⟩ : V))).length ((A.map (fun x : Nat => (⟨(x : Int), e0⟩ : V))).flatMap V.cs) by
          have h := own_mono HO.out HC1.out.size
          rw [show A.take j = A by rw [HM.out, List.take_length]] at h
          rw [List.length_map, ← HM.out]
          exact h)
        go_wp2
        go_ret2
        exact ⟨_, rfl, HC1.out.trans HC.out (by simp), HF.out⟩
  · have hAn := hnil hf0
    subst hAn
    have hne : (f != 0) = true := by simpa using hf0
    clear hlen hnil hm
    go_enter Tryd.func44, Tryd.ntmps44
    go_wp2_with (first
      | (go_at_call 52; (with_reducible refine HU.out.mono ?_); rintro e w1 ⟨v, rfl, hc, ho⟩; have HC1 := Lib.hid hc; clear hc ho)
      | fail)
    go_ret2
    exact ⟨_, rfl, HC1.out, World.ownsRow_nil _ _ _ _⟩

end Go.Proofs.YtohgnbgijleoaaaDoor

namespace Go.Proofs.YtohgnbgijleoaaaDoor
open Go.RowKit
set_option linter.unusedVariables false
set_option linter.unusedSimpArgs false

/-- How the reference stands while it reads values. -/
structure XJ (w wi : World) (k n x M : Nat) (b : List Nat) (j : Nat) (lv : Value) (L : List V) (a : Nat) (e : Int) : Prop where
  c0 : Chg [] w wi
  rj : RdJ k n b j L (leftX b a e) e
  xs : XS wi x M b a e
  ow : wi.ownsRow w.heap.size 39 2 lv j (L.flatMap V.cs)
  hx : w.heap.size ≤ x
  hM : M ≤ wi.heap.size

theorem wrap64_in (m : Int) (h : -2147483648 ≤ m ∧ m < 2147483648) : IntKind.i64.wrap m = m := IntWalk.i64_in _ (by omega)

theorem decP_stop {k n : Nat} {b : List Nat} {j : Nat} {L : List V} {b' : List Nat} {e' : Int} (hk : k = 2 ∨ k = 3 ∨ k = 4) (hn : n ≤ 4000) (h : RdJ k n b j L b' e') (he : e' ≠ 0) : decP (k : Int) b (n : Int) = ([], e') := by
  have h3 := h.2.2 he
  unfold decP
  rw [if_neg (by omega), if_neg (by omega), Int.toNat_natCast, Int.toNat_natCast, h3, if_pos he]

set_option maxRecDepth 100000 in
set_option maxHeartbeats 8000000 in
theorem rdecode11_vals (k : Nat) (hk' : k = 2 ∨ k = 3 ∨ k = 4) (bv : Value) (b : List Nat) (n : Nat) (w : World) (hn : n ≤ 4000) (hbl : b.length ≤ 1000000000) (hS : Seen w bv (nv .u8 b)) (hb : ∀ x ∈ b, x < 256) :
    Calls Tryd.prog 24 #[.int .i64 (k : Int), bv, .int .i64 (n : Int)] w (PDecOut (k : Int) b (n : Int) w) := by
  obtain ⟨i0, hi, hz0, hz1, hz2⟩ := info_value
  have HSB := Lib.hid hS; have HB' := Lib.hid hb
  have hk1 : ((k : Int) == 1) = false := by simp; omega
  have hk2 : ¬ ((k : Int) < 1) := by omega
  have hk3 : ¬ ((4 : Int) < (k : Int)) := by omega
  have hn1 : ¬ ((n : Int) < 0) := by omega
  have hn2 : ¬ ((4000 : Int) < (n : Int)) := by omega
  have HN := Lib.hid (xnew_any bv (zi b) w (by rw [zi_length]; omega) (by rw [bys_zi]; exact hS))
  clear hS hb
  go_enter Tryd.func24, Tryd.ntmps24
  go_wp2_with (first
    | (go_at_call 45; (with_reducible refine HN.out.mono ?_); rintro e w1 ⟨x, rfl, hc, hx, hxr⟩; have HC1 := Lib.hid hc; have HX1 := Lib.hid hx; have HXR := Lib.hid hxr; clear hc hx hxr)
    | fail)
  obtain ⟨M, hMe⟩ : ∃ M, M = w1.heap.size := ⟨_, rfl⟩
  have HXS := Lib.hid (show XS w1 x M b 0 0 from ⟨by rw [hMe]; exact HXR.out, HB'.out, hbl, by rw [hMe]; exact HXR.out.lt, Nat.zero_le _⟩)
  have HMM1 := Lib.hid (show M ≤ w1.heap.size by omega)
  clear hMe
  go_loopw [9, 10] (fun lv i w' => ∃ (j a : Nat) (e : Int) (L : List V), j ≤ n ∧ i = .int .i64 (j : Int) ∧ XJ w w' k n x M b j lv L a e) (fun _ i _ => n - (intOf i).toNat)
  case atStart => exact ⟨0, 0, 0, [], Nat.zero_le _, rfl, ⟨HC1.out, ⟨rfl, fun _ => by simp [leftX], fun h => absurd rfl h⟩, HXS.out, World.ownsRow_nil _ _ _ _, HX1.out, HMM1.out⟩⟩
  case round =>
    obtain ⟨j, a, e, L, hj, rfl, hJ⟩ := hrel
    obtain ⟨lo, lc, rfl⟩ := own_shape hJ.ow
    have HJ := Lib.hid hJ
    have c2 := hJ.xs.err
    have hBw := hJ.c0.size
    clear hJ
    by_cases hgo : j < n ∧ e = 0
    · obtain ⟨hlt, rfl⟩ := hgo
      have d1 : decide ((j : Int) < (n : Int)) = true := by simp; omega
      have HRJ0 := Lib.hid (show RdJ k n b (j + 1) (L ++ [(rd1 k (b.drop a)).1]) (rd1 k (b.drop a)).2.1 (rd1 k (b.drop a)).2.2 from HJ.out.rj.step hlt)
      have HXW0 := Lib.hid HJ.out.hx
      have HBY := Lib.hid (show ∀ y ∈ b.drop a, y < 256 from fun y hy => HJ.out.xs.by' y (List.mem_of_mem_drop hy))
      have hxM := HJ.out.xs.xM
      have hMw := HJ.out.hM
      have HXW := Lib.hid (show wr.heap.size ≠ x by omega)
      have HM := Lib.hid (show M ≤ wr.heap.size from hMw)
      have HB := Lib.hid (show w.heap.size ≤ wr.heap.size from hBw)
      have HOW := Lib.hid HJ.out.ow
      obtain ⟨wa, hwa⟩ : ∃ wa, wa = wr.alloc (.cells #[.int .i64 0, .string e0] 39) := ⟨_, rfl⟩
      have HBX := Lib.hid (show wa.heap[wr.heap.size]? = some (.cells #[.int .i64 0, .string e0] 39 (0, 0)) by rw [hwa]; exact heap_alloc_new wr _)
      have hcwa : Chg [] wr wa := by rw [hwa]; exact (Chg.refl [] wr).alloc _
      have HC0 := Lib.hid (show Chg [] w wa from HJ.out.c0.trans hcwa (by simp))
      have HPX := Lib.hid (HJ.out.xs.keep hcwa)
      have HOB := Lib.hid (own_chg HJ.out.ow hcwa (by simp))
      have HSW := Lib.hid hcwa.size
      have HWA := Lib.hid hwa
      clear hwa hcwa
      go_upto_region 11 with fail
      rw [← HWA.out]
      rcases hk' with hk | hk | hk
      · have kb2 : ((k : Int) == 2) = true := by simp [hk]
        have HK := Lib.hid hk
        clear hk
        have HG := Lib.hid (xsGet HPX.out 4 (by decide) (by decide))
        rw [show ((4 : Nat) : Int) = 4 from rfl] at HG
        by_cases hl : (b.drop a).length < 4
        · have hl0 := hl
          simp only [if_pos hl] at HG
          clear hl
          go_upto_region 20 with (first
            | (go_at_call 46; (with_reducible refine HG.out.mono ?_); rintro e w2 ⟨rfl, hc, hp⟩; have HC2 := Lib.hid hc; have HP2 := Lib.hid hp; have HB2 := Lib.hid (hc.heap HBX.out (by simpa using HXW.out)); obtain ⟨b0, b1, g0, g1⟩ := cells2 HB2.out; have HCZ := Lib.hid (HC0.out.trans HC2.out (by have := HXW0.out; simp; omega)); have HBZ := Lib.hid HB2.out; have HPZ := Lib.hid HP2.out; have HOZ0 := Lib.hid (own_chg HOB.out HC2.out (HPX.out.far HOB.out)); have HSZ := Lib.hid HC2.out.size; clear hc hp)
            | fail)
          obtain ⟨wz, hwz⟩ : ∃ wz, wz = (w2.setCell ⟨wr.heap.size, 0, none⟩ (.int .i64 0)) := ⟨_, rfl⟩
          rw [← hwz]
          have hcz : Chg [] w wz := by rw [hwz]; exact (HCZ.out).setCell (.inr HB.out) _
          have hbz : wz.heap[wr.heap.size]? = some (.cells #[.int .i64 0, .string e0] 39 (0, 0)) := by rw [hwz]; exact heap_set1 HBZ.out _
          have hpz : XS wz x M b a 8 := by rw [hwz]; exact HPZ.out.high ((Chg.refl _ _).setCell (by simp) _) HM.out
          have hoz : wz.ownsRow w.heap.size 39 2 (.slice lo j lc) j (L.flatMap V.cs) := by rw [hwz]; exact Go.ownsRow_setCell_other HOZ0.out (fun e => absurd (HOW.out.lt _ e).2 (Nat.lt_irrefl wr.heap.size)) _
          have HZ2 := Lib.hid (show w2.heap.size ≤ wz.heap.size by rw [hwz]; exact ((Chg.refl [wr.heap.size] w2).setCell (.inl (by simp)) _).size)
          obtain ⟨y0, y1, -, -⟩ := cells2 hbz
          have HCW := Lib.hid hcz; have HPW := Lib.hid hpz; have HOZ := Lib.hid hoz
          have hBz := hcz.size
          clear hwz hcz hbz hpz hoz
          go_wp2_with (first
            | (at_builtin; refine wpList_append_own _ rfl _ _ 22 rfl w.heap.size 39 i0 (.agg #[.int .i64 0, .string ByteArray.empty]) 2 24 Tryd.underlying22 hi hz0 hz1 hz2 rfl (by decide) _ _ _ rfl (HOZ.out.alloc _) ⟨_, 0, none⟩ 1 1 (V.cs (⟨0, e0⟩ : V)) rfl rfl (new_cells (C := #[.int .i64 0, .string e0]) _ rfl) (V.one _) (by unfold maxLen; omega) (by omega) (by simp; omega) ?_)
            | fail)
          intro v' w9 hown' hgrow _
          have hca : Chg [] wz (wz.alloc (vo (⟨0, e0⟩ : V))) := (Chg.refl [] wz).alloc _
          have hcg : Chg (Value.slice lo j lc).ownBlock.toList (wz.alloc (vo (⟨0, e0⟩ : V))) w9 := (Chg.refl _ _).grown hgrow (fun g hg => .inl (by simp [hg]))
          have HP9 := Lib.hid ((HPW.out.keep hca).keepOwn (own_chg HOZ.out hca (by simp)) hcg)
          have HC9 := Lib.hid (show Chg [] w w9 from (HCW.out.alloc (vo (⟨0, e0⟩ : V))).grown hgrow (fun g hg => .inr (HOZ.out.lt g hg).1))
          have HO9 := Lib.hid (show w9.ownsRow w.heap.size 39 2 v' (j + 1) ((L ++ [(⟨0, e0⟩ : V)]).flatMap V.cs) by rw [List.flatMap_append]; simpa using hown')
          have HM9 := Lib.hid (show M ≤ w9.heap.size by have := HM.out; have := hca.size; have := hcg.size; have := HSZ.out; have := HZ2.out; have := HSW.out; omega)
          have HRJ := Lib.hid (show RdJ k n b (j + 1) (L ++ [(⟨0, e0⟩ : V)]) (leftX b a 8) 8 from by
            have h := HRJ0.out
            rw [show rd1 k (b.drop a) = ((⟨0, e0⟩ : V), leftX b a 8, 8) from by rw [HK.out, rd1_2, if_pos hl0]; rfl] at h
            exact h)
          obtain ⟨vo', vc', rfl⟩ := own_shape HO9.out
          clear hgrow hown' hca hcg
          go_wp2
          go_roundw
          case rel => exact ⟨j + 1, a, 8, L ++ [(⟨0, e0⟩ : V)], hlt, by go_num, ⟨HC9.out, HRJ.out, HP9.out, HO9.out, HXW0.out, HM9.out⟩⟩
          case measure => simp [intOf]; omega
        · have hl0 := hl
          simp only [if_neg hl] at HG
          have hx := nm_take_lt HBY.out 4
          obtain ⟨x4, hxe⟩ : ∃ x4, x4 = nm ((b.drop a).take 4) := ⟨_, rfl⟩
          rw [← hxe] at HG hx
          have HX4 := Lib.hid hxe
          obtain ⟨m, hm⟩ : ∃ m, m = s32 x4 := ⟨_, rfl⟩
          have HMM := Lib.hid hm
          have hm2 : -2147483648 ≤ m ∧ m < 2147483648 := by rw [hm]; unfold s32; omega
          have z3 : IntKind.i64.wrap m = m := wrap64_in m hm2
          have z1 : IntKind.u32.wrap (x4 : Int) = (x4 : Int) := by
            have e : IntKind.u32.wrap (x4 : Int) = (x4 : Int) % 4294967296 := by simp [IntKind.wrap, IntKind.bits, IntKind.signed]
            rw [e]; omega
          have z2 : IntKind.i32.wrap (x4 : Int) = m := by rw [hm, w32, s32]
          clear hl hxe hm
          go_upto_region 20 with (first
            | (go_at_call 46; (with_reducible refine HG.out.mono ?_); rintro e w2 ⟨rfl, hc, hp⟩; have HC2 := Lib.hid hc; have HP2 := Lib.hid hp; have HB2 := Lib.hid (hc.heap HBX.out (by simpa using HXW.out)); obtain ⟨b0, b1, g0, g1⟩ := cells2 HB2.out; have HCZ := Lib.hid (HC0.out.trans HC2.out (by have := HXW0.out; simp; omega)); have HBZ := Lib.hid HB2.out; have HPZ := Lib.hid HP2.out; have HOZ0 := Lib.hid (own_chg HOB.out HC2.out (HPX.out.far HOB.out)); have HSZ := Lib.hid HC2.out.size; clear hc hp)
            | fail)
          obtain ⟨wz, hwz⟩ : ∃ wz, wz = (w2.setCell ⟨wr.heap.size, 0, none⟩ (.int .i64 m)) := ⟨_, rfl⟩
          rw [← hwz]
          have hcz : Chg [] w wz := by rw [hwz]; exact (HCZ.out).setCell (.inr HB.out) _
          have hbz : wz.heap[wr.heap.size]? = some (.cells #[.int .i64 m, .string e0] 39 (0, 0)) := by rw [hwz]; exact heap_set1 HBZ.out _
          have hpz : XS wz x M b (a + 4) 0 := by rw [hwz]; exact HPZ.out.high ((Chg.refl _ _).setCell (by simp) _) HM.out
          have hoz : wz.ownsRow w.heap.size 39 2 (.slice lo j lc) j (L.flatMap V.cs) := by rw [hwz]; exact Go.ownsRow_setCell_other HOZ0.out (fun e => absurd (HOW.out.lt _ e).2 (Nat.lt_irrefl wr.heap.size)) _
          have HZ2 := Lib.hid (show w2.heap.size ≤ wz.heap.size by rw [hwz]; exact ((Chg.refl [wr.heap.size] w2).setCell (.inl (by simp)) _).size)
          obtain ⟨y0, y1, -, -⟩ := cells2 hbz
          have HCW := Lib.hid hcz; have HPW := Lib.hid hpz; have HOZ := Lib.hid hoz
          have hBz := hcz.size
          clear hwz hcz hbz hpz hoz
          go_wp2_with (first
            | (at_builtin; refine wpList_append_own _ rfl _ _ 22 rfl w.heap.size 39 i0 (.agg #[.int .i64 0, .string ByteArray.empty]) 2 24 Tryd.underlying22 hi hz0 hz1 hz2 rfl (by decide) _ _ _ rfl (HOZ.out.alloc _) ⟨_, 0, none⟩ 1 1 (V.cs (⟨m, e0⟩ : V)) rfl rfl (new_cells (C := #[.int .i64 m, .string e0]) _ rfl) (V.one _) (by unfold maxLen; omega) (by omega) (by simp; omega) ?_)
            | fail)
          intro v' w9 hown' hgrow _
          have hca : Chg [] wz (wz.alloc (vo (⟨m, e0⟩ : V))) := (Chg.refl [] wz).alloc _
          have hcg : Chg (Value.slice lo j lc).ownBlock.toList (wz.alloc (vo (⟨m, e0⟩ : V))) w9 := (Chg.refl _ _).grown hgrow (fun g hg => .inl (by simp [hg]))
          have HP9 := Lib.hid ((HPW.out.keep hca).keepOwn (own_chg HOZ.out hca (by simp)) hcg)
          have HC9 := Lib.hid (show Chg [] w w9 from (HCW.out.alloc (vo (⟨m, e0⟩ : V))).grown hgrow (fun g hg => .inr (HOZ.out.lt g hg).1))
          have HO9 := Lib.hid (show w9.ownsRow w.heap.size 39 2 v' (j + 1) ((L ++ [(⟨m, e0⟩ : V)]).flatMap V.cs) by rw [List.flatMap_append]; simpa using hown')
          have HM9 := Lib.hid (show M ≤ w9.heap.size by have := HM.out; have := hca.size; have := hcg.size; have := HSZ.out; have := HZ2.out; have := HSW.out; omega)
          have HRJ := Lib.hid (show RdJ k n b (j + 1) (L ++ [(⟨m, e0⟩ : V)]) (leftX b (a + 4) 0) 0 from by
            have h := HRJ0.out
            rw [show rd1 k (b.drop a) = ((⟨m, e0⟩ : V), leftX b (a + 4) 0, 0) from by rw [HK.out, rd1_2, if_neg hl0, ← HX4.out, ← HMM.out, leftX_ok, List.drop_drop]] at h
            exact h)
          obtain ⟨vo', vc', rfl⟩ := own_shape HO9.out
          clear hgrow hown' hca hcg
          go_wp2
          go_roundw
          case rel => exact ⟨j + 1, (a + 4), 0, L ++ [(⟨m, e0⟩ : V)], hlt, by go_num, ⟨HC9.out, HRJ.out, HP9.out, HO9.out, HXW0.out, HM9.out⟩⟩
          case measure => simp [intOf]; omega
      · have kb2 : ((k : Int) == 2) = false := by simp; omega
        have kb3 : ((k : Int) == 3) = true := by simp [hk]
        have HK := Lib.hid hk
        clear hk
        have HG := Lib.hid (xsGet HPX.out 8 (by decide) (by decide))
        rw [show ((8 : Nat) : Int) = 8 from rfl] at HG
        by_cases hl : (b.drop a).length < 8
        · have hl0 := hl
          simp only [if_pos hl] at HG
          clear hl
          go_upto_region 20 with (first
            | (go_at_call 46; (with_reducible refine HG.out.mono ?_); rintro e w2 ⟨rfl, hc, hp⟩; have HC2 := Lib.hid hc; have HP2 := Lib.hid hp; have HB2 := Lib.hid (hc.heap HBX.out (by simpa using HXW.out)); obtain ⟨b0, b1, g0, g1⟩ := cells2 HB2.out; have HCZ := Lib.hid (HC0.out.trans HC2.out (by have := HXW0.out; simp; omega)); have HBZ := Lib.hid HB2.out; have HPZ := Lib.hid HP2.out; have HOZ0 := Lib.hid (own_chg HOB.out HC2.out (HPX.out.far HOB.out)); have HSZ := Lib.hid HC2.out.size; clear hc hp)
            | fail)
          obtain ⟨wz, hwz⟩ : ∃ wz, wz = (w2.setCell ⟨wr.heap.size, 0, none⟩ (.int .i64 0)) := ⟨_, rfl⟩
          rw [← hwz]
          have hcz : Chg [] w wz := by rw [hwz]; exact (HCZ.out).setCell (.inr HB.out) _
          have hbz : wz.heap[wr.heap.size]? = some (.cells #[.int .i64 0, .string e0] 39 (0, 0)) := by rw [hwz]; exact heap_set1 HBZ.out _
          have hpz : XS wz x M b a 8 := by rw [hwz]; exact HPZ.out.high ((Chg.refl _ _).setCell (by simp) _) HM.out
          have hoz : wz.ownsRow w.heap.size 39 2 (.slice lo j lc) j (L.flatMap V.cs) := by rw [hwz]; exact Go.ownsRow_setCell_other HOZ0.out (fun e => absurd (HOW.out.lt _ e).2 (Nat.lt_irrefl wr.heap.size)) _
          have HZ2 := Lib.hid (show w2.heap.size ≤ wz.heap.size by rw [hwz]; exact ((Chg.refl [wr.heap.size] w2).setCell (.inl (by simp)) _).size)
          obtain ⟨y0, y1, -, -⟩ := cells2 hbz
          have HCW := Lib.hid hcz; have HPW := Lib.hid hpz; have HOZ := Lib.hid hoz
          have hBz := hcz.size
          clear hwz hcz hbz hpz hoz
          go_wp2_with (first
            | (at_builtin; refine wpList_append_own _ rfl _ _ 22 rfl w.heap.size 39 i0 (.agg #[.int .i64 0, .string ByteArray.empty]) 2 24 Tryd.underlying22 hi hz0 hz1 hz2 rfl (by decide) _ _ _ rfl (HOZ.out.alloc _) ⟨_, 0, none⟩ 1 1 (V.cs (⟨0, e0⟩ : V)) rfl rfl (new_cells (C := #[.int .i64 0, .string e0]) _ rfl) (V.one _) (by unfold maxLen; omega) (by omega) (by simp; omega) ?_)
            | fail)
          intro v' w9 hown' hgrow _
          have hca : Chg [] wz (wz.alloc (vo (⟨0, e0⟩ : V))) := (Chg.refl [] wz).alloc _
          have hcg : Chg (Value.slice lo j lc).ownBlock.toList (wz.alloc (vo (⟨0, e0⟩ : V))) w9 := (Chg.refl _ _).grown hgrow (fun g hg => .inl (by simp [hg]))
          have HP9 := Lib.hid ((HPW.out.keep hca).keepOwn (own_chg HOZ.out hca (by simp)) hcg)
          have HC9 := Lib.hid (show Chg [] w w9 from (HCW.out.alloc (vo (⟨0, e0⟩ : V))).grown hgrow (fun g hg => .inr (HOZ.out.lt g hg).1))
          have HO9 := Lib.hid (show w9.ownsRow w.heap.size 39 2 v' (j + 1) ((L ++ [(⟨0, e0⟩ : V)]).flatMap V.cs) by rw [List.flatMap_append]; simpa using hown')
          have HM9 := Lib.hid (show M ≤ w9.heap.size by have := HM.out; have := hca.size; have := hcg.size; have := HSZ.out; have := HZ2.out; have := HSW.out; omega)
          have HRJ := Lib.hid (show RdJ k n b (j + 1) (L ++ [(⟨0, e0⟩ : V)]) (leftX b a 8) 8 from by
            have h := HRJ0.out
            rw [show rd1 k (b.drop a) = ((⟨0, e0⟩ : V), leftX b a 8, 8) from by rw [HK.out, rd1_3, if_pos hl0]; rfl] at h
            exact h)
          obtain ⟨vo', vc', rfl⟩ := own_shape HO9.out
          clear hgrow hown' hca hcg
          go_wp2
          go_roundw
          case rel => exact ⟨j + 1, a, 8, L ++ [(⟨0, e0⟩ : V)], hlt, by go_num, ⟨HC9.out, HRJ.out, HP9.out, HO9.out, HXW0.out, HM9.out⟩⟩
          case measure => simp [intOf]; omega
        · have hl0 := hl
          simp only [if_neg hl] at HG
          have hx := nm_take_lt HBY.out 8
          obtain ⟨x4, hxe⟩ : ∃ x4, x4 = nm ((b.drop a).take 8) := ⟨_, rfl⟩
          rw [← hxe] at HG hx
          have HX4 := Lib.hid hxe
          obtain ⟨m, hm⟩ : ∃ m, m = s64 x4 := ⟨_, rfl⟩
          have HMM := Lib.hid hm
          have z2 : IntKind.i64.wrap (x4 : Int) = m := by rw [hm]; unfold s64; simp [IntKind.wrap, IntKind.bits, IntKind.signed]; omega
          clear hl hxe hm
          go_upto_region 20 with (first
            | (go_at_call 46; (with_reducible refine HG.out.mono ?_); rintro e w2 ⟨rfl, hc, hp⟩; have HC2 := Lib.hid hc; have HP2 := Lib.hid hp; have HB2 := Lib.hid (hc.heap HBX.out (by simpa using HXW.out)); obtain ⟨b0, b1, g0, g1⟩ := cells2 HB2.out; have HCZ := Lib.hid (HC0.out.trans HC2.out (by have := HXW0.out; simp; omega)); have HBZ := Lib.hid HB2.out; have HPZ := Lib.hid HP2.out; have HOZ0 := Lib.hid (own_chg HOB.out HC2.out (HPX.out.far HOB.out)); have HSZ := Lib.hid HC2.out.size; clear hc hp)
            | fail)
          obtain ⟨wz, hwz⟩ : ∃ wz, wz = (w2.setCell ⟨wr.heap.size, 0, none⟩ (.int .i64 m)) := ⟨_, rfl⟩
          rw [← hwz]
          have hcz : Chg [] w wz := by rw [hwz]; exact (HCZ.out).setCell (.inr HB.out) _
          have hbz : wz.heap[wr.heap.size]? = some (.cells #[.int .i64 m, .string e0] 39 (0, 0)) := by rw [hwz]; exact heap_set1 HBZ.out _
          have hpz : XS wz x M b (a + 8) 0 := by rw [hwz]; exact HPZ.out.high ((Chg.refl _ _).setCell (by simp) _) HM.out
          have hoz : wz.ownsRow w.heap.size 39 2 (.slice lo j lc) j (L.flatMap V.cs) := by rw [hwz]; exact Go.ownsRow_setCell_other HOZ0.out (fun e => absurd (HOW.out.lt _ e).2 (Nat.lt_irrefl wr.heap.size)) _
          have HZ2 := Lib.hid (show w2.heap.size ≤ wz.heap.size by rw [hwz]; exact ((Chg.refl [wr.heap.size] w2).setCell (.inl (by simp)) _).size)
          obtain ⟨y0, y1, -, -⟩ := cells2 hbz
          have HCW := Lib.hid hcz; have HPW := Lib.hid hpz; have HOZ := Lib.hid hoz
          have hBz := hcz.size
          clear hwz hcz hbz hpz hoz
          go_wp2_with (first
            | (at_builtin; refine wpList_append_own _ rfl _ _ 22 rfl w.heap.size 39 i0 (.agg #[.int .i64 0, .string ByteArray.empty]) 2 24 Tryd.underlying22 hi hz0 hz1 hz2 rfl (by decide) _ _ _ rfl (HOZ.out.alloc _) ⟨_, 0, none⟩ 1 1 (V.cs (⟨m, e0⟩ : V)) rfl rfl (new_cells (C := #[.int .i64 m, .string e0]) _ rfl) (V.one _) (by unfold maxLen; omega) (by omega) (by simp; omega) ?_)
            | fail)
          intro v' w9 hown' hgrow _
          have hca : Chg [] wz (wz.alloc (vo (⟨m, e0⟩ : V))) := (Chg.refl [] wz).alloc _
          have hcg : Chg (Value.slice lo j lc).ownBlock.toList (wz.alloc (vo (⟨m, e0⟩ : V))) w9 := (Chg.refl _ _).grown hgrow (fun g hg => .inl (by simp [hg]))
          have HP9 := Lib.hid ((HPW.out.keep hca).keepOwn (own_chg HOZ.out hca (by simp)) hcg)
          have HC9 := Lib.hid (show Chg [] w w9 from (HCW.out.alloc (vo (⟨m, e0⟩ : V))).grown hgrow (fun g hg => .inr (HOZ.out.lt g hg).1))
          have HO9 := Lib.hid (show w9.ownsRow w.heap.size 39 2 v' (j + 1) ((L ++ [(⟨m, e0⟩ : V)]).flatMap V.cs) by rw [List.flatMap_append]; simpa using hown')
          have HM9 := Lib.hid (show M ≤ w9.heap.size by have := HM.out; have := hca.size; have := hcg.size; have := HSZ.out; have := HZ2.out; have := HSW.out; omega)
          have HRJ := Lib.hid (show RdJ k n b (j + 1) (L ++ [(⟨m, e0⟩ : V)]) (leftX b (a + 8) 0) 0 from by
            have h := HRJ0.out
            rw [show rd1 k (b.drop a) = ((⟨m, e0⟩ : V), leftX b (a + 8) 0, 0) from by rw [HK.out, rd1_3, if_neg hl0, ← HX4.out, ← HMM.out, leftX_ok, List.drop_drop]] at h
            exact h)
          obtain ⟨vo', vc', rfl⟩ := own_shape HO9.out
          clear hgrow hown' hca hcg
          go_wp2
          go_roundw
          case rel => exact ⟨j + 1, (a + 8), 0, L ++ [(⟨m, e0⟩ : V)], hlt, by go_num, ⟨HC9.out, HRJ.out, HP9.out, HO9.out, HXW0.out, HM9.out⟩⟩
          case measure => simp [intOf]; omega
      · have kb2 : ((k : Int) == 2) = false := by simp; omega
        have kb3 : ((k : Int) == 3) = false := by simp; omega
        have HK := Lib.hid hk
        clear hk
        have HG := Lib.hid (xsGet HPX.out 4 (by decide) (by decide))
        rw [show ((4 : Nat) : Int) = 4 from rfl] at HG
        by_cases hl : (b.drop a).length < 4
        · have hl0 := hl
          simp only [if_pos hl] at HG
          have HTK := Lib.hid (fun (wx : World) (hp : XS wx x M b a 8) => xsTake_err hp (by decide) 0)
          clear hl
          go_upto_region 20 with (first
            | (go_at_call 46; (with_reducible refine HG.out.mono ?_); rintro e w2 ⟨rfl, hc, hp⟩; have HC2 := Lib.hid hc; have HP2 := Lib.hid hp; have HB2 := Lib.hid (hc.heap HBX.out (by simpa using HXW.out)); obtain ⟨b0, b1, g0, g1⟩ := cells2 HB2.out; have HCG := Lib.hid (HC0.out.trans HC2.out (by have := HXW0.out; simp; omega)); have HOG := Lib.hid (own_chg HOB.out HC2.out (HPX.out.far HOB.out)); have HSG := Lib.hid HC2.out.size; have HPT := Lib.hid HP2.out; have HCT := Lib.hid HCG.out; have HBT := Lib.hid HB2.out; have HOT := Lib.hid HOG.out; have HST := Lib.hid HSG.out; clear hc hp)
            | (go_at_call 48; (with_reducible refine (HTK.out _ HPT.out).mono ?_); rintro e w3 ⟨rfl, hc, hp⟩; have HC3 := Lib.hid hc; have HPZ := Lib.hid hp; have HCZ := Lib.hid (HCT.out.trans hc (by have := HXW0.out; simp; omega)); have HBZ := Lib.hid (hc.heap HBT.out (by simpa using HXW.out)); obtain ⟨bb0, bb1, gg0, gg1⟩ := cells2 HBZ.out; have HOZ0 := Lib.hid (own_chg HOT.out hc (HPT.out.far HOT.out)); have HSZ := Lib.hid (Nat.le_trans HST.out hc.size); have hcv := cvp (w := w3) (s := e0) (Seen.nil w3) (l := []) rfl rfl (by simp) w3 (Lib.hid (Chg.refl [] w3)); clear hc hp)
            | fail)
          obtain ⟨wz, hwz⟩ : ∃ wz, wz = (w3.setCell ⟨wr.heap.size, 1, none⟩ (.string e0)) := ⟨_, rfl⟩
          rw [← hwz]
          have hcz : Chg [] w wz := by rw [hwz]; exact (HCZ.out).setCell (.inr HB.out) _
          have hbz : wz.heap[wr.heap.size]? = some (.cells #[.int .i64 0, .string e0] 39 (0, 0)) := by rw [hwz]; exact heap_set2 HBZ.out _
          have hpz : XS wz x M b a 8 := by rw [hwz]; exact HPZ.out.high ((Chg.refl _ _).setCell (by simp) _) HM.out
          have hoz : wz.ownsRow w.heap.size 39 2 (.slice lo j lc) j (L.flatMap V.cs) := by rw [hwz]; exact Go.ownsRow_setCell_other HOZ0.out (fun e => absurd (HOW.out.lt _ e).2 (Nat.lt_irrefl wr.heap.size)) _
          have HZ2 := Lib.hid (show w3.heap.size ≤ wz.heap.size by rw [hwz]; exact ((Chg.refl [wr.heap.size] w3).setCell (.inl (by simp)) _).size)
          obtain ⟨y0, y1, -, -⟩ := cells2 hbz
          have HCW := Lib.hid hcz; have HPW := Lib.hid hpz; have HOZ := Lib.hid hoz
          have hBz := hcz.size
          clear hwz hcz hbz hpz hoz
          go_wp2_with (first
            | (at_builtin; refine wpList_append_own _ rfl _ _ 22 rfl w.heap.size 39 i0 (.agg #[.int .i64 0, .string ByteArray.empty]) 2 24 Tryd.underlying22 hi hz0 hz1 hz2 rfl (by decide) _ _ _ rfl (HOZ.out.alloc _) ⟨_, 0, none⟩ 1 1 (V.cs (⟨0, e0⟩ : V)) rfl rfl (new_cells (C := #[.int .i64 0, .string e0]) _ rfl) (V.one _) (by unfold maxLen; omega) (by omega) (by simp; omega) ?_)
            | fail)
          intro v' w9 hown' hgrow _
          have hca : Chg [] wz (wz.alloc (vo (⟨0, e0⟩ : V))) := (Chg.refl [] wz).alloc _
          have hcg : Chg (Value.slice lo j lc).ownBlock.toList (wz.alloc (vo (⟨0, e0⟩ : V))) w9 := (Chg.refl _ _).grown hgrow (fun g hg => .inl (by simp [hg]))
          have HP9 := Lib.hid ((HPW.out.keep hca).keepOwn (own_chg HOZ.out hca (by simp)) hcg)
          have HC9 := Lib.hid (show Chg [] w w9 from (HCW.out.alloc (vo (⟨0, e0⟩ : V))).grown hgrow (fun g hg => .inr (HOZ.out.lt g hg).1))
          have HO9 := Lib.hid (show w9.ownsRow w.heap.size 39 2 v' (j + 1) ((L ++ [(⟨0, e0⟩ : V)]).flatMap V.cs) by rw [List.flatMap_append]; simpa using hown')
          have HM9 := Lib.hid (show M ≤ w9.heap.size by have := HM.out; have := hca.size; have := hcg.size; have := HSZ.out; have := HZ2.out; have := HSW.out; omega)
          have HRJ := Lib.hid (show RdJ k n b (j + 1) (L ++ [(⟨0, e0⟩ : V)]) (leftX b a 8) 8 from by
            have h := HRJ0.out
            rw [show rd1 k (b.drop a) = ((⟨0, e0⟩ : V), leftX b a 8, 8) from by rw [HK.out, rd1_4, if_pos hl0]; rfl] at h
            exact h)
          obtain ⟨vo', vc', rfl⟩ := own_shape HO9.out
          clear hgrow hown' hca hcg
          go_wp2
          go_roundw
          case rel => exact ⟨j + 1, a, 8, L ++ [(⟨0, e0⟩ : V)], hlt, by go_num, ⟨HC9.out, HRJ.out, HP9.out, HO9.out, HXW0.out, HM9.out⟩⟩
          case measure => simp [intOf]; omega
        · have hl0 := hl
          by_cases h100 : 100 < nm ((b.drop a).take 4)
          · simp only [if_neg hl] at HG
            have hx := nm_take_lt HBY.out 4
            obtain ⟨x4, hxe⟩ : ∃ x4, x4 = nm ((b.drop a).take 4) := ⟨_, rfl⟩
            rw [← hxe] at HG hx
            have HX4 := Lib.hid hxe
            have z2 : IntKind.i64.wrap (x4 : Int) = (x4 : Int) := IntWalk.i64_in _ (by omega)
            rw [← HX4.out] at h100
            clear hl hxe
            have h100i : (100 : Int) < (x4 : Int) := by omega
            have HFL := Lib.hid (fun (wx : World) (hp : XS wx x M b (a + 4) 0) => show Calls Tryd.prog 47 #[.pointer (some ⟨x, 0, none⟩), .int .i64 5] wx fun y w' => y = .returned (.tuple #[]) ∧ Chg [x] wx w' ∧ XS w' x M b (a + 4) 5 from by
              refine (xfail_set x 5 wx (zi b) (a + 4) hp.xr).mono ?_
              rintro y w' ⟨rfl, hc, hr⟩
              exact ⟨rfl, hc, ⟨hr, hp.by', hp.bl, hp.xM, hp.aL⟩⟩)
            have HTK := Lib.hid (fun (wx : World) (hp : XS wx x M b (a + 4) 5) => xsTake_err hp (by decide) (x4 : Int))
            have H100 := Lib.hid h100
            clear h100
            go_upto_region 20 with (first
              | (go_at_call 46; (with_reducible refine HG.out.mono ?_); rintro e w2 ⟨rfl, hc, hp⟩; have HC2 := Lib.hid hc; have HP2 := Lib.hid hp; have HB2 := Lib.hid (hc.heap HBX.out (by simpa using HXW.out)); obtain ⟨b0, b1, g0, g1⟩ := cells2 HB2.out; have HCG := Lib.hid (HC0.out.trans HC2.out (by have := HXW0.out; simp; omega)); have HOG := Lib.hid (own_chg HOB.out HC2.out (HPX.out.far HOB.out)); have HSG := Lib.hid HC2.out.size; clear hc hp)
              | (go_at_call 47; (with_reducible refine (HFL.out _ HP2.out).mono ?_); rintro e wf ⟨rfl, hc, hp⟩; have HPT := Lib.hid hp; have HCT := Lib.hid (HCG.out.trans hc (by have := HXW0.out; simp; omega)); have HBT := Lib.hid (hc.heap HB2.out (by simpa using HXW.out)); have HOT := Lib.hid (own_chg HOG.out hc (HP2.out.far HOG.out)); have HST := Lib.hid (Nat.le_trans HSG.out hc.size); clear hc hp)
              | (go_at_call 48; (with_reducible refine (HTK.out _ HPT.out).mono ?_); rintro e w3 ⟨rfl, hc, hp⟩; have HC3 := Lib.hid hc; have HPZ := Lib.hid hp; have HCZ := Lib.hid (HCT.out.trans hc (by have := HXW0.out; simp; omega)); have HBZ := Lib.hid (hc.heap HBT.out (by simpa using HXW.out)); obtain ⟨bb0, bb1, gg0, gg1⟩ := cells2 HBZ.out; have HOZ0 := Lib.hid (own_chg HOT.out hc (HPT.out.far HOT.out)); have HSZ := Lib.hid (Nat.le_trans HST.out hc.size); have hcv := cvp (w := w3) (s := e0) (Seen.nil w3) (l := []) rfl rfl (by simp) w3 (Lib.hid (Chg.refl [] w3)); clear hc hp)
              | fail)
            obtain ⟨wz, hwz⟩ : ∃ wz, wz = (w3.setCell ⟨wr.heap.size, 1, none⟩ (.string e0)) := ⟨_, rfl⟩
            rw [← hwz]
            have hcz : Chg [] w wz := by rw [hwz]; exact (HCZ.out).setCell (.inr HB.out) _
            have hbz : wz.heap[wr.heap.size]? = some (.cells #[.int .i64 0, .string e0] 39 (0, 0)) := by rw [hwz]; exact heap_set2 HBZ.out _
            have hpz : XS wz x M b (a + 4) 5 := by rw [hwz]; exact HPZ.out.high ((Chg.refl _ _).setCell (by simp) _) HM.out
            have hoz : wz.ownsRow w.heap.size 39 2 (.slice lo j lc) j (L.flatMap V.cs) := by rw [hwz]; exact Go.ownsRow_setCell_other HOZ0.out (fun e => absurd (HOW.out.lt _ e).2 (Nat.lt_irrefl wr.heap.size)) _
            have HZ2 := Lib.hid (show w3.heap.size ≤ wz.heap.size by rw [hwz]; exact ((Chg.refl [wr.heap.size] w3).setCell (.inl (by simp)) _).size)
            obtain ⟨y0, y1, -, -⟩ := cells2 hbz
            have HCW := Lib.hid hcz; have HPW := Lib.hid hpz; have HOZ := Lib.hid hoz
            have hBz := hcz.size
            clear hwz hcz hbz hpz hoz
            go_wp2_with (first
              | (at_builtin; refine wpList_append_own _ rfl _ _ 22 rfl w.heap.size 39 i0 (.agg #[.int .i64 0, .string ByteArray.empty]) 2 24 Tryd.underlying22 hi hz0 hz1 hz2 rfl (by decide) _ _ _ rfl (HOZ.out.alloc _) ⟨_, 0, none⟩ 1 1 (V.cs (⟨0, e0⟩ : V)) rfl rfl (new_cells (C := #[.int .i64 0, .string e0]) _ rfl) (V.one _) (by unfold maxLen; omega) (by omega) (by simp; omega) ?_)
              | fail)
            intro v' w9 hown' hgrow _
            have hca : Chg [] wz (wz.alloc (vo (⟨0, e0⟩ : V))) := (Chg.refl [] wz).alloc _
            have hcg : Chg (Value.slice lo j lc).ownBlock.toList (wz.alloc (vo (⟨0, e0⟩ : V))) w9 := (Chg.refl _ _).grown hgrow (fun g hg => .inl (by simp [hg]))
            have HP9 := Lib.hid ((HPW.out.keep hca).keepOwn (own_chg HOZ.out hca (by simp)) hcg)
            have HC9 := Lib.hid (show Chg [] w w9 from (HCW.out.alloc (vo (⟨0, e0⟩ : V))).grown hgrow (fun g hg => .inr (HOZ.out.lt g hg).1))
            have HO9 := Lib.hid (show w9.ownsRow w.heap.size 39 2 v' (j + 1) ((L ++ [(⟨0, e0⟩ : V)]).flatMap V.cs) by rw [List.flatMap_append]; simpa using hown')
            have HM9 := Lib.hid (show M ≤ w9.heap.size by have := HM.out; have := hca.size; have := hcg.size; have := HSZ.out; have := HZ2.out; have := HSW.out; omega)
            have HRJ := Lib.hid (show RdJ k n b (j + 1) (L ++ [(⟨0, e0⟩ : V)]) (leftX b (a + 4) 5) 5 from by
              have h := HRJ0.out
              rw [show rd1 k (b.drop a) = ((⟨0, e0⟩ : V), leftX b (a + 4) 5, 5) from by rw [HK.out, rd1_4, if_neg hl0, ← HX4.out, if_pos H100.out]; rfl] at h
              exact h)
            obtain ⟨vo', vc', rfl⟩ := own_shape HO9.out
            clear hgrow hown' hca hcg
            go_wp2
            go_roundw
            case rel => exact ⟨j + 1, (a + 4), 5, L ++ [(⟨0, e0⟩ : V)], hlt, by go_num, ⟨HC9.out, HRJ.out, HP9.out, HO9.out, HXW0.out, HM9.out⟩⟩
            case measure => simp [intOf]; omega
          · by_cases hs : ((b.drop a).drop 4).length < nm ((b.drop a).take 4)
            · simp only [if_neg hl] at HG
              have hx := nm_take_lt HBY.out 4
              obtain ⟨x4, hxe⟩ : ∃ x4, x4 = nm ((b.drop a).take 4) := ⟨_, rfl⟩
              rw [← hxe] at HG hx
              have HX4 := Lib.hid hxe
              have z2 : IntKind.i64.wrap (x4 : Int) = (x4 : Int) := IntWalk.i64_in _ (by omega)
              rw [← HX4.out] at h100
              clear hl hxe
              have h100i : ¬ ((100 : Int) < (x4 : Int)) := by omega
              have H100 := Lib.hid h100
              rw [← HX4.out] at hs
              have HSH := Lib.hid hs
              have HTK := Lib.hid (fun (wx : World) (hp : XS wx x M b (a + 4) 0) => xsTake hp x4)
              rw [show b.drop (a + 4) = (b.drop a).drop 4 by rw [List.drop_drop]] at HTK
              simp only [if_pos hs] at HTK
              clear h100 hs
              go_upto_region 20 with (first
                | (go_at_call 46; (with_reducible refine HG.out.mono ?_); rintro e w2 ⟨rfl, hc, hp⟩; have HC2 := Lib.hid hc; have HP2 := Lib.hid hp; have HB2 := Lib.hid (hc.heap HBX.out (by simpa using HXW.out)); obtain ⟨b0, b1, g0, g1⟩ := cells2 HB2.out; have HCG := Lib.hid (HC0.out.trans HC2.out (by have := HXW0.out; simp; omega)); have HOG := Lib.hid (own_chg HOB.out HC2.out (HPX.out.far HOB.out)); have HSG := Lib.hid HC2.out.size; have HPT := Lib.hid HP2.out; have HCT := Lib.hid HCG.out; have HBT := Lib.hid HB2.out; have HOT := Lib.hid HOG.out; have HST := Lib.hid HSG.out; clear hc hp)
                | (go_at_call 48; (with_reducible refine (HTK.out _ HPT.out).mono ?_); rintro e w3 ⟨vt, rfl, hc, rfl, hp⟩; have HC3 := Lib.hid hc; have HPZ := Lib.hid hp; have HCZ := Lib.hid (HCT.out.trans hc (by have := HXW0.out; simp; omega)); have HBZ := Lib.hid (hc.heap HBT.out (by simpa using HXW.out)); obtain ⟨bb0, bb1, gg0, gg1⟩ := cells2 HBZ.out; have HOZ0 := Lib.hid (own_chg HOT.out hc (HPT.out.far HOT.out)); have HSZ := Lib.hid (Nat.le_trans HST.out hc.size); have hcv := cvp (w := w3) (s := e0) (Seen.nil w3) (l := []) rfl rfl (by simp) w3 (Lib.hid (Chg.refl [] w3)); clear hc hp)
                | fail)
              obtain ⟨wz, hwz⟩ : ∃ wz, wz = (w3.setCell ⟨wr.heap.size, 1, none⟩ (.string e0)) := ⟨_, rfl⟩
              rw [← hwz]
              have hcz : Chg [] w wz := by rw [hwz]; exact (HCZ.out).setCell (.inr HB.out) _
              have hbz : wz.heap[wr.heap.size]? = some (.cells #[.int .i64 0, .string e0] 39 (0, 0)) := by rw [hwz]; exact heap_set2 HBZ.out _
              have hpz : XS wz x M b (a + 4) 8 := by rw [hwz]; exact HPZ.out.high ((Chg.refl _ _).setCell (by simp) _) HM.out
              have hoz : wz.ownsRow w.heap.size 39 2 (.slice lo j lc) j (L.flatMap V.cs) := by rw [hwz]; exact Go.ownsRow_setCell_other HOZ0.out (fun e => absurd (HOW.out.lt _ e).2 (Nat.lt_irrefl wr.heap.size)) _
              have HZ2 := Lib.hid (show w3.heap.size ≤ wz.heap.size by rw [hwz]; exact ((Chg.refl [wr.heap.size] w3).setCell (.inl (by simp)) _).size)
              obtain ⟨y0, y1, -, -⟩ := cells2 hbz
              have HCW := Lib.hid hcz; have HPW := Lib.hid hpz; have HOZ := Lib.hid hoz
              have hBz := hcz.size
              clear hwz hcz hbz hpz hoz
              go_wp2_with (first
                | (at_builtin; refine wpList_append_own _ rfl _ _ 22 rfl w.heap.size 39 i0 (.agg #[.int .i64 0, .string ByteArray.empty]) 2 24 Tryd.underlying22 hi hz0 hz1 hz2 rfl (by decide) _ _ _ rfl (HOZ.out.alloc _) ⟨_, 0, none⟩ 1 1 (V.cs (⟨0, e0⟩ : V)) rfl rfl (new_cells (C := #[.int .i64 0, .string e0]) _ rfl) (V.one _) (by unfold maxLen; omega) (by omega) (by simp; omega) ?_)
                | fail)
              intro v' w9 hown' hgrow _
              have hca : Chg [] wz (wz.alloc (vo (⟨0, e0⟩ : V))) := (Chg.refl [] wz).alloc _
              have hcg : Chg (Value.slice lo j lc).ownBlock.toList (wz.alloc (vo (⟨0, e0⟩ : V))) w9 := (Chg.refl _ _).grown hgrow (fun g hg => .inl (by simp [hg]))
              have HP9 := Lib.hid ((HPW.out.keep hca).keepOwn (own_chg HOZ.out hca (by simp)) hcg)
              have HC9 := Lib.hid (show Chg [] w w9 from (HCW.out.alloc (vo (⟨0, e0⟩ : V))).grown hgrow (fun g hg => .inr (HOZ.out.lt g hg).1))
              have HO9 := Lib.hid (show w9.ownsRow w.heap.size 39 2 v' (j + 1) ((L ++ [(⟨0, e0⟩ : V)]).flatMap V.cs) by rw [List.flatMap_append]; simpa using hown')
              have HM9 := Lib.hid (show M ≤ w9.heap.size by have := HM.out; have := hca.size; have := hcg.size; have := HSZ.out; have := HZ2.out; have := HSW.out; omega)
              have HRJ := Lib.hid (show RdJ k n b (j + 1) (L ++ [(⟨0, e0⟩ : V)]) (leftX b (a + 4) 8) 8 from by
                have h := HRJ0.out
                rw [show rd1 k (b.drop a) = ((⟨0, e0⟩ : V), leftX b (a + 4) 8, 8) from by rw [HK.out, rd1_4, if_neg hl0, ← HX4.out, if_neg H100.out, if_pos HSH.out]; rfl] at h
                exact h)
              obtain ⟨vo', vc', rfl⟩ := own_shape HO9.out
              clear hgrow hown' hca hcg
              go_wp2
              go_roundw
              case rel => exact ⟨j + 1, (a + 4), 8, L ++ [(⟨0, e0⟩ : V)], hlt, by go_num, ⟨HC9.out, HRJ.out, HP9.out, HO9.out, HXW0.out, HM9.out⟩⟩
              case measure => simp [intOf]; omega
            · simp only [if_neg hl] at HG
              have hx := nm_take_lt HBY.out 4
              obtain ⟨x4, hxe⟩ : ∃ x4, x4 = nm ((b.drop a).take 4) := ⟨_, rfl⟩
              rw [← hxe] at HG hx
              have HX4 := Lib.hid hxe
              have z2 : IntKind.i64.wrap (x4 : Int) = (x4 : Int) := IntWalk.i64_in _ (by omega)
              rw [← HX4.out] at h100
              clear hl hxe
              have h100i : ¬ ((100 : Int) < (x4 : Int)) := by omega
              have H100 := Lib.hid h100
              rw [← HX4.out] at hs
              have HSH := Lib.hid hs
              have HTK := Lib.hid (fun (wx : World) (hp : XS wx x M b (a + 4) 0) => xsTake hp x4)
              rw [show b.drop (a + 4) = (b.drop a).drop 4 by rw [List.drop_drop]] at HTK
              simp only [if_neg hs] at HTK
              obtain ⟨TX, hTX⟩ : ∃ TX, TX = ((b.drop a).drop 4).take x4 := ⟨_, rfl⟩
              rw [← hTX] at HTK
              have HTL := Lib.hid (show x4 = TX.length by rw [hTX, List.length_take]; omega)
              have HTB := Lib.hid (show ∀ y ∈ TX, y < 2 ^ 8 from fun y hy => by rw [hTX] at hy; exact HBY.out y (List.mem_of_mem_drop (List.mem_of_mem_take hy)))
              have HTX := Lib.hid hTX
              obtain ⟨s, hse⟩ : ∃ s, s = str TX := ⟨_, rfl⟩
              have HSE := Lib.hid hse
              clear h100 hs hTX hse
              go_upto_region 20 with (first
                | (go_at_call 46; (with_reducible refine HG.out.mono ?_); rintro e w2 ⟨rfl, hc, hp⟩; have HC2 := Lib.hid hc; have HP2 := Lib.hid hp; have HB2 := Lib.hid (hc.heap HBX.out (by simpa using HXW.out)); obtain ⟨b0, b1, g0, g1⟩ := cells2 HB2.out; have HCG := Lib.hid (HC0.out.trans HC2.out (by have := HXW0.out; simp; omega)); have HOG := Lib.hid (own_chg HOB.out HC2.out (HPX.out.far HOB.out)); have HSG := Lib.hid HC2.out.size; have HPT := Lib.hid HP2.out; have HCT := Lib.hid HCG.out; have HBT := Lib.hid HB2.out; have HOT := Lib.hid HOG.out; have HST := Lib.hid HSG.out; clear hc hp)
                | (go_at_call 48; (with_reducible refine (HTK.out _ HPT.out).mono ?_); rintro e w3 ⟨vt, rfl, hc, hsn, hp⟩; have HC3 := Lib.hid hc; have HPZ := Lib.hid hp; have HCZ := Lib.hid (HCT.out.trans hc (by have := HXW0.out; simp; omega)); have HBZ := Lib.hid (hc.heap HBT.out (by simpa using HXW.out)); obtain ⟨bb0, bb1, gg0, gg1⟩ := cells2 HBZ.out; have HOZ0 := Lib.hid (own_chg HOT.out hc (HPT.out.far HOT.out)); have HSZ := Lib.hid (Nat.le_trans HST.out hc.size); obtain ⟨tvo, tc, rfl, -, -⟩ := hsn.shape; rw [nv_length, ← HTL.out] at hsn ⊢; have hcv := cvp hsn HTL.out HSE.out HTB.out w3 (Lib.hid (Chg.refl [] w3)); clear hsn; clear hc hp)
                | fail)
              obtain ⟨wz, hwz⟩ : ∃ wz, wz = (w3.setCell ⟨wr.heap.size, 1, none⟩ (.string s)) := ⟨_, rfl⟩
              rw [← hwz]
              have hcz : Chg [] w wz := by rw [hwz]; exact (HCZ.out).setCell (.inr HB.out) _
              have hbz : wz.heap[wr.heap.size]? = some (.cells #[.int .i64 0, .string s] 39 (0, 0)) := by rw [hwz]; exact heap_set2 HBZ.out _
              have hpz : XS wz x M b (a + 4 + x4) 0 := by rw [hwz]; exact HPZ.out.high ((Chg.refl _ _).setCell (by simp) _) HM.out
              have hoz : wz.ownsRow w.heap.size 39 2 (.slice lo j lc) j (L.flatMap V.cs) := by rw [hwz]; exact Go.ownsRow_setCell_other HOZ0.out (fun e => absurd (HOW.out.lt _ e).2 (Nat.lt_irrefl wr.heap.size)) _
              have HZ2 := Lib.hid (show w3.heap.size ≤ wz.heap.size by rw [hwz]; exact ((Chg.refl [wr.heap.size] w3).setCell (.inl (by simp)) _).size)
              obtain ⟨y0, y1, -, -⟩ := cells2 hbz
              have HCW := Lib.hid hcz; have HPW := Lib.hid hpz; have HOZ := Lib.hid hoz
              have hBz := hcz.size
              clear hwz hcz hbz hpz hoz
              go_wp2_with (first
                | (at_builtin; refine wpList_append_own _ rfl _ _ 22 rfl w.heap.size 39 i0 (.agg #[.int .i64 0, .string ByteArray.empty]) 2 24 Tryd.underlying22 hi hz0 hz1 hz2 rfl (by decide) _ _ _ rfl (HOZ.out.alloc _) ⟨_, 0, none⟩ 1 1 (V.cs (⟨0, s⟩ : V)) rfl rfl (new_cells (C := #[.int .i64 0, .string s]) _ rfl) (V.one _) (by unfold maxLen; omega) (by omega) (by simp; omega) ?_)
                | fail)
              intro v' w9 hown' hgrow _
              have hca : Chg [] wz (wz.alloc (vo (⟨0, s⟩ : V))) := (Chg.refl [] wz).alloc _
              have hcg : Chg (Value.slice lo j lc).ownBlock.toList (wz.alloc (vo (⟨0, s⟩ : V))) w9 := (Chg.refl _ _).grown hgrow (fun g hg => .inl (by simp [hg]))
              have HP9 := Lib.hid ((HPW.out.keep hca).keepOwn (own_chg HOZ.out hca (by simp)) hcg)
              have HC9 := Lib.hid (show Chg [] w w9 from (HCW.out.alloc (vo (⟨0, s⟩ : V))).grown hgrow (fun g hg => .inr (HOZ.out.lt g hg).1))
              have HO9 := Lib.hid (show w9.ownsRow w.heap.size 39 2 v' (j + 1) ((L ++ [(⟨0, s⟩ : V)]).flatMap V.cs) by rw [List.flatMap_append]; simpa using hown')
              have HM9 := Lib.hid (show M ≤ w9.heap.size by have := HM.out; have := hca.size; have := hcg.size; have := HSZ.out; have := HZ2.out; have := HSW.out; omega)
              have HRJ := Lib.hid (show RdJ k n b (j + 1) (L ++ [(⟨0, s⟩ : V)]) (leftX b (a + 4 + x4) 0) 0 from by
                have h := HRJ0.out
                rw [show rd1 k (b.drop a) = ((⟨0, s⟩ : V), leftX b (a + 4 + x4) 0, 0) from by rw [HK.out, rd1_4, if_neg hl0, ← HX4.out, if_neg H100.out, if_neg HSH.out, ← HTX.out, ← HSE.out]; simp only [leftX_ok, List.drop_drop, Nat.add_assoc]] at h
                exact h)
              obtain ⟨vo', vc', rfl⟩ := own_shape HO9.out
              clear hgrow hown' hca hcg
              go_wp2
              go_roundw
              case rel => exact ⟨j + 1, (a + 4 + x4), 0, L ++ [(⟨0, s⟩ : V)], hlt, by go_num, ⟨HC9.out, HRJ.out, HP9.out, HO9.out, HXW0.out, HM9.out⟩⟩
              case measure => simp [intOf]; omega
    · have HE := Lib.hid (xsEnd HJ.out.xs)
      have hz2' : ¬ (j < n ∧ e = 0) := hgo
      by_cases he : e = 0
      · subst he
        have hjn : j = n := by omega
        subst hjn
        have E := Lib.hid (decP_err hk' hn HJ.out.rj (fun h => absurd rfl h))
        have d1 : decide ((j : Int) < (j : Int)) = false := by simp
        have HLN := Lib.hid HJ.out.rj.1
        rw [if_pos rfl, leftX_ok] at E
        rw [if_pos rfl] at HE
        clear hgo hz2'
        by_cases hb0 : b.drop a = []
        · rw [if_pos hb0] at HE E
          clear hb0
          go_wp2_with (first
            | (go_at_call 49; (with_reducible refine HE.out.mono ?_); rintro e w2 ⟨rfl, hc⟩; have HCE := Lib.hid hc; clear hc)
            | fail)
          go_ret2
          unfold PDecOut
          rw [E.out]
          exact ⟨_, rfl, HJ.out.c0.trans HCE.out (by simp), by have h := own_chg HJ.out.ow HCE.out (by simp); rw [← HLN.out] at h ⊢; exact h⟩
        · rw [if_neg hb0] at HE E
          clear hb0
          go_wp2_with (first
            | (go_at_call 49; (with_reducible refine HE.out.mono ?_); rintro e w2 ⟨rfl, hc⟩; have HCE := Lib.hid hc; clear hc)
            | fail)
          go_ret2
          unfold PDecOut
          rw [E.out]
          exact ⟨_, rfl, HJ.out.c0.trans HCE.out (by simp), World.ownsRow_nil _ _ _ _⟩
      · have E := Lib.hid (decP_stop hk' hn HJ.out.rj he)
        rw [if_neg he] at HE
        have hne : (e != 0) = true := by simpa using he
        have heb : (e == 0) = false := by simpa using he
        clear hgo hz2'
        by_cases hlt : j < n
        · have d1 : decide ((j : Int) < (n : Int)) = true := by simp; omega
          go_wp2_with (first
            | (go_at_call 49; (with_reducible refine HE.out.mono ?_); rintro e w2 ⟨rfl, hc⟩; have HCE := Lib.hid hc; clear hc)
            | fail)
          go_ret2
          unfold PDecOut
          rw [E.out]
          exact ⟨_, rfl, HJ.out.c0.trans HCE.out (by simp), World.ownsRow_nil _ _ _ _⟩
        · have d1 : decide ((j : Int) < (n : Int)) = false := by simp; omega
          go_wp2_with (first
            | (go_at_call 49; (with_reducible refine HE.out.mono ?_); rintro e w2 ⟨rfl, hc⟩; have HCE := Lib.hid hc; clear hc)
            | fail)
          go_ret2
          unfold PDecOut
          rw [E.out]
          exact ⟨_, rfl, HJ.out.c0.trans HCE.out (by simp), World.ownsRow_nil _ _ _ _⟩

end Go.Proofs.YtohgnbgijleoaaaDoor

namespace Go.Proofs.YtohgnbgijleoaaaDoor
open Go.RowKit
set_option linter.unusedVariables false
set_option linter.unusedSimpArgs false

set_option maxRecDepth 100000 in
set_option maxHeartbeats 4000000 in
theorem rdecode11_any (k n : Int) (bv : Value) (b : List Nat) (w : World) (hk : (Lit.int .i64 k).wf = true) (hn : (Lit.int .i64 n).wf = true) (hS : Seen w bv (nv .u8 b)) (hb : ∀ x ∈ b, x < 2 ^ 8) (hbl : b.length ≤ 1000000000) :
    Calls Tryd.prog 24 #[.int .i64 k, bv, .int .i64 n] w (PDecOut k b n w) := by
  have hk1 := wf_i64 hk
  have hn1 := wf_i64 hn
  by_cases hbad : k < 1 ∨ 4 < k ∨ n < 0 ∨ 4000 < n
  · have E := Lib.hid (show decP k b n = ([], 1) by unfold decP; rw [if_pos hbad])
    unfold PDecOut
    rw [E.out]
    by_cases h1 : k < 1
    · go_enter Tryd.func24, Tryd.ntmps24
      go_wp2
      go_ret2
      exact ⟨_, rfl, Chg.refl _ _, World.ownsRow_nil _ _ _ _⟩
    by_cases h2 : 4 < k
    · go_enter Tryd.func24, Tryd.ntmps24
      go_wp2
      go_ret2
      exact ⟨_, rfl, Chg.refl _ _, World.ownsRow_nil _ _ _ _⟩
    by_cases h3 : n < 0
    · go_enter Tryd.func24, Tryd.ntmps24
      go_wp2
      go_ret2
      exact ⟨_, rfl, Chg.refl _ _, World.ownsRow_nil _ _ _ _⟩
    have h4 : 4000 < n := by omega
    clear hbad
    go_enter Tryd.func24, Tryd.ntmps24
    go_wp2
    go_ret2
    exact ⟨_, rfl, Chg.refl _ _, World.ownsRow_nil _ _ _ _⟩
  · obtain ⟨N, rfl⟩ : ∃ N : Nat, n = (N : Int) := ⟨n.toNat, by omega⟩
    obtain ⟨K, rfl⟩ : ∃ K : Nat, k = (K : Int) := ⟨k.toNat, by omega⟩
    have hN : N ≤ 4000 := by omega
    by_cases h1 : K = 1
    · subst h1
      have HT := Lib.hid (rbools_any bv b N w hN (by omega) hS hb)
      have hn0 : ¬ ((N : Int) < 0) := by omega
      have hn2 : ¬ ((4000 : Int) < (N : Int)) := by omega
      rw [show ((1 : Nat) : Int) = 1 from rfl]
      unfold PDecOut at HT ⊢
      obtain ⟨q, hq⟩ : ∃ q, q = decP 1 b (N : Int) := ⟨_, rfl⟩
      rw [← hq] at HT ⊢
      clear hS hbad hb hq
      go_enter Tryd.func24, Tryd.ntmps24
      go_wp2_with (first
        | (go_at_call 44; (with_reducible refine HT.out.mono ?_); rintro e w2 ⟨x, rfl, hc, ho⟩; have HC := Lib.hid hc; have HO := Lib.hid ho; clear hc ho)
        | fail)
      go_ret2
      exact ⟨_, rfl, HC.out, HO.out⟩
    · exact rdecode11_vals K (by omega) bv b N w hN hbl hS hb

/-- What both Decodes answer, the row at a slice. -/
def PlOut (k : Int) (b : List Nat) (n : Int) (w : World) (e : Ending) (w' : World) : Prop :=
  ∃ ao cap, e = .returned (.tuple #[.slice ao (decP k b n).1.length cap, .int .i64 (decP k b n).2]) ∧ Chg [] w w' ∧ SeenV w' (.slice ao (decP k b n).1.length cap) (decP k b n).1

theorem PDecOut.out {k n : Int} {b : List Nat} {w : World} {e : Ending} {w' : World} (h : PDecOut k b n w e w') : PlOut k b n w e w' := by
  obtain ⟨x, rfl, hc, ho⟩ := h
  obtain ⟨xo, xc, rfl⟩ := own_shape ho
  exact ⟨xo, xc, rfl, hc, SeenK.own V.cs_len ho rfl⟩

theorem plz (k n : Int) (bv : Value) (b : List Nat) (w : World) (hk : (Lit.int .i64 k).wf = true) (hn : (Lit.int .i64 n).wf = true) (hL : Laid w) (hS : Seen w bv (nv .u8 b)) (hb : ∀ x ∈ b, x < 2 ^ 8) (hbl : b.length < 1000000) :
    Calls Tryd.prog 20 #[.int .i64 k, bv, .int .i64 n] w (PlOut k b n w) :=
  (pdecode_any k n bv b w hk hn hL hS hb (by omega)).mono fun _ _ h => h.out

theorem rplz (k n : Int) (bv : Value) (b : List Nat) (w : World) (hk : (Lit.int .i64 k).wf = true) (hn : (Lit.int .i64 n).wf = true) (hS : Seen w bv (nv .u8 b)) (hb : ∀ x ∈ b, x < 2 ^ 8) (hbl : b.length < 1000000) :
    Calls Tryd.prog 24 #[.int .i64 k, bv, .int .i64 n] w (PlOut k b n w) :=
  (rdecode11_any k n bv b w hk hn hS hb (by omega)).mono fun _ _ h => h.out

/-- Bytes that are read at a slice. -/
def Bs (w : World) (v : Value) : Prop := ∃ l : List Nat, Seen w v (nv .u8 l) ∧ (∀ x ∈ l, x < 2 ^ 8) ∧ l.length < 100000

theorem Bs.keep {w w' : World} {v : Value} (h : Bs w v) (hc : Chg [] w w') : Bs w' v := by
  obtain ⟨l, h1, h2, h3⟩ := h
  exact ⟨l, h1.keep hc, h2, h3⟩

end Go.Proofs.YtohgnbgijleoaaaDoor
