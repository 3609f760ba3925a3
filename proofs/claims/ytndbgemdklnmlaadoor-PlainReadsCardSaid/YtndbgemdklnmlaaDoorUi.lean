/- plain: truths, Decode. -/
import Derived.Test.YtndbgemdklnmlaaDoorUh
namespace Go.Proofs.YtndbgemdklnmlaaDoor
open Go.RowKit
set_option linter.unusedVariables false
set_option linter.unusedSimpArgs false

theorem cells_values (n : Nat) : (madeCells #[.int .i64 0, .string ByteArray.empty] (n * 2)).toList = (List.replicate n (⟨0, e0⟩ : V)).flatMap V.cs := by
  apply List.ext_getElem?
  intro j
  by_cases hj : j < n * 2
  · have key : ∀ u, (V.cs ⟨0, e0⟩)[j % 2]? = some u → ((List.replicate n (⟨0, e0⟩ : V)).flatMap V.cs)[j]? = some u := fun u hu => by
      have h := flat_get V.cs_len (List.replicate n (⟨0, e0⟩ : V)) (j / 2) ⟨0, e0⟩ (j % 2) u (by rw [List.getElem?_replicate, if_pos (by omega)]) hu
      rwa [show j / 2 * 2 + j % 2 = j by omega] at h
    have h3 : j % 2 = 0 ∨ j % 2 = 1 := by omega
    rcases h3 with h3 | h3
    all_goals
      rw [h3] at key
      rw [key _ rfl]
      simp [madeCells, hj, h3]
    rfl
  · rw [List.getElem?_eq_none (by simp [madeCells]; omega), List.getElem?_eq_none (by rw [flat_length V.cs_len]; simp; omega)]

theorem flat_setV : ∀ (l : List V) (g : Nat) (f : V) (v : Int), l[g]? = some f → (l.flatMap V.cs).set (g * 2) (.int .i64 v) = (l.set g ⟨v, f.s⟩).flatMap V.cs
  | [], g, f, v, h => by simp at h
  | x :: l, 0, f, v, h => by
    simp at h
    subst h
    rw [List.flatMap_cons, List.set_cons_zero, List.flatMap_cons]
    rfl
  | x :: l, g + 1, f, v, h => by
    rw [List.getElem?_cons_succ] at h
    rw [List.flatMap_cons, List.set_cons_succ, List.flatMap_cons, ← flat_setV l g f v h, List.set_append, if_neg (by rw [V.cs_len]; omega), V.cs_len, show (g + 1) * 2 - 2 = g * 2 by omega]

/-- The first j of A as values, noughts behind them. -/
def fillV (A : List Nat) (j : Nat) : List V := (A.take j).map (fun x : Nat => (⟨(x : Int), e0⟩ : V)) ++ List.replicate (A.length - j) ⟨0, e0⟩
theorem fillV_len (A : List Nat) (j : Nat) (h : j ≤ A.length) : (fillV A j).length = A.length := by unfold fillV; simp; omega
theorem fillV_set (A : List Nat) (j : Nat) (h : j < A.length) : ((fillV A j).flatMap V.cs).set (j * 2) (.int .i64 ((A.getD j 0 : Nat) : Int)) = (fillV A (j + 1)).flatMap V.cs := by
  have e1 : fillV A j = (A.take j).map (fun x : Nat => (⟨(x : Int), e0⟩ : V)) ++ (⟨0, e0⟩ :: List.replicate (A.length - (j + 1)) ⟨0, e0⟩) := by
    unfold fillV; rw [show A.length - j = (A.length - (j + 1)) + 1 by omega, List.replicate_succ]
  have hl : ((A.take j).map (fun x : Nat => (⟨(x : Int), e0⟩ : V))).length = j := by simp; omega
  have e2 : fillV A (j + 1) = (A.take j).map (fun x : Nat => (⟨(x : Int), e0⟩ : V)) ++ (⟨((A.getD j 0 : Nat) : Int), e0⟩ :: List.replicate (A.length - (j + 1)) ⟨0, e0⟩) := by
    unfold fillV
    rw [List.take_succ_eq_append_getElem h, List.map_append, List.append_assoc]
    congr 1
    simp [List.getD, h]
  have hg : (fillV A j)[j]? = some ⟨0, e0⟩ := by
    rw [e1, List.getElem?_append_right (by omega), hl]; simp
  rw [flat_setV _ _ _ _ hg, e2, e1, List.set_append, if_neg (by omega), hl, Nat.sub_self, List.set_cons_zero]
theorem fillV_at (A : List Nat) (j : Nat) (h : j < A.length) : ((fillV A j).flatMap V.cs)[j * 2]? = some (.int .i64 0) := by
  have hl : ((A.take j).map (fun x : Nat => (⟨(x : Int), e0⟩ : V))).length = j := by simp; omega
  have hg : (fillV A j)[j]? = some ⟨0, e0⟩ := by
    unfold fillV
    rw [show A.length - j = (A.length - (j + 1)) + 1 by omega, List.replicate_succ, List.getElem?_append_right (by omega), hl]; simp
  have := flat_get V.cs_len (fillV A j) j ⟨0, e0⟩ 0 (.int .i64 0) hg rfl
  simpa using this
theorem fillV_all (A : List Nat) : fillV A A.length = A.map (fun x : Nat => (⟨(x : Int), e0⟩ : V)) := by unfold fillV; simp

set_option maxRecDepth 100000 in
set_option maxHeartbeats 4000000 in
theorem ptruths_any (bv : Value) (b : List Nat) (n : Nat) (w : World) (hn : n ≤ 4000) (hS : Seen w bv (nv .u8 b)) (hb : ∀ x ∈ b, x < 2 ^ 8) :
    Calls Tryd.prog 22 #[bv, .int .i64 (n : Int)] w (PDecOut 1 b (n : Int) w) := by
  obtain ⟨i0, hi, hz0, hz1, hz2⟩ := info_value
  have HU := Lib.hid (unpack_any bv b n 1 w hn (by decide) hS hb)
  rw [show ((1 : Nat) : Int) = 1 from rfl] at HU
  have E := Lib.hid (show decP 1 b (n : Int) = ((outU b n 1).map (fun x : Nat => (⟨(x : Int), e0⟩ : V)), faultOf b (1 * n)) by
    unfold decP; rw [if_neg (by omega), if_pos rfl, Int.toNat_natCast])
  have hbd : ∀ x ∈ outU b n 1, x < 2 := by
    intro x hx
    unfold outU at hx
    split at hx
    · unfold unpacked pk at hx
      obtain ⟨j, _, rfl⟩ := List.mem_map.1 hx
      exact wd_lt _ _ _ _
    · simp at hx
  have hlen : faultOf b (1 * n) = 0 → (outU b n 1).length = n := fun h => by unfold outU; rw [if_pos h, unpacked_length]
  have hnil : faultOf b (1 * n) ≠ 0 → outU b n 1 = [] := fun h => by unfold outU; rw [if_neg h]
  unfold PDecOut
  unfold UnpackOut at HU
  rw [E.out]
  obtain ⟨f, hf⟩ : ∃ f, f = faultOf b (1 * n) := ⟨_, rfl⟩
  obtain ⟨A, hA⟩ : ∃ A, A = outU b n 1 := ⟨_, rfl⟩
  rw [← hf, ← hA] at HU ⊢
  rw [← hf] at hlen hnil
  rw [← hA] at hbd hlen hnil
  have HBD := Lib.hid hbd
  clear hS hb hf hA hbd E
  by_cases hf0 : f = 0
  · subst hf0
    have hAl := hlen rfl
    have HAL := Lib.hid hAl
    clear hlen hnil
    go_enter Tryd.func22, Tryd.ntmps22
    go_wp2_with (first
      | (go_at_call 34; (with_reducible refine HU.out.mono ?_); rintro e w1 ⟨v, rfl, hc, ho⟩; rw [hAl] at ho; obtain ⟨vo, vc, rfl⟩ := own_shape ho; have HC1 := Lib.hid hc; have HA := Lib.hid (reads_of_own ho).seen; clear hc ho hAl)
      | (at_make; refine wpList_make_full _ rfl _ _ 22 rfl w1.heap.size 39 i0 (.agg #[.int .i64 0, .string ByteArray.empty]) 2 Tryd.underlying22 hi hz0 hz1 .i64 .i64 _ _ n rfl rfl rfl rfl ?c1 ?c2 (Nat.le_refl _) ?_)
      | fail)
    case c1 => rw [hz2]; omega
    case c2 => unfold maxLen; omega
    intro w2 hown hg
    rw [show (madeCells #[Value.int .i64 0, .string ByteArray.empty] (n * 2)).toList = (fillV A 0).flatMap V.cs by rw [cells_values]; unfold fillV; rw [HAL.out]; simp] at hown
    have HC2 := Lib.hid ((Chg.refl [] w1).grown hg (by simp))
    have HO2 := Lib.hid hown
    obtain ⟨gl, hgl⟩ : ∃ g, g = w1.heap.size := ⟨_, rfl⟩
    have HGL := Lib.hid hgl
    have hgw : w.heap.size ≤ gl := by rw [hgl]; exact HC1.out.size
    rw [← hgl] at HO2 ⊢
    clear hown hg hgl
    go_wp2
    go_loopw [24] (fun i w' => ∃ j : Nat, j ≤ n ∧ i = .int .i64 (j : Int) ∧ Chg [] w1 w' ∧ w'.ownsRow gl 39 2 (.slice (some ⟨gl, 0, none⟩) n n) n ((fillV A j).flatMap V.cs)) (fun i _ => n - (intOf i).toNat)
    case atStart => exact ⟨0, Nat.zero_le _, rfl, HC2.out, HO2.out⟩
    case round =>
      obtain ⟨j, hj, rfl, hc, ho⟩ := hrel
      have HC := Lib.hid hc; have HO := Lib.hid ho
      clear hc ho
      by_cases hlt : j < n
      · have d1 : decide ((j : Int) < (n : Int)) = true := by simp; omega
        obtain ⟨g, off, rfl, hcell⟩ := (HA.out.keep HC.out).at0 HAL.out (by omega)
        have x0 := hcell j hlt
        obtain ⟨s, hs⟩ : ∃ s, s = A.getD j 0 := ⟨_, rfl⟩
        rw [← hs] at x0
        have hs2 : s < 2 := by rw [hs]; exact HBD.out _ (getD_mem (by rw [HAL.out]; exact hlt))
        have hwr : IntKind.i64.wrap (s : Int) = (s : Int) := IntWalk.i64_in _ (by omega)
        obtain ⟨g', hg', hge, hlt', hfz, hcl⟩ := own_ptr HO.out (by omega)
        injection hg' with hg'
        injection hg' with hg'
        subst hg'
        have f0 := hfz (j * 2)
        have y0 := hcl (j * 2) (.int .i64 0) (fillV_at A j (by rw [HAL.out]; exact hlt))
        have HFS := Lib.hid (fillV_set A j (by rw [HAL.out]; exact hlt))
        rw [← hs] at HFS
        clear hcell hs hfz hcl
        go_wp2
        go_roundw
        case rel => exact ⟨j + 1, hlt, by go_num, HC.out.setCell (.inr (by rw [← HGL.out]; exact Nat.le_refl _)) _, by
          have h := own_set HO.out (j * 2) (by omega) (.int .i64 (s : Int))
          rw [HFS.out] at h
          exact h⟩
        case measure => simp [intOf]; omega
      · have d1 : decide ((j : Int) < (n : Int)) = false := by simp; omega
        obtain rfl : j = n := by omega
        have HF := Lib.hid (show wr.ownsRow w.heap.size 39 2 (.slice (some ⟨gl, 0, none⟩) j j) (A.map (fun x : Nat => (⟨(x : Int), e0⟩ : V))).length ((A.map (fun x : Nat => (⟨(x : Int), e0⟩ : V))).flatMap V.cs) by
          have h := own_mono HO.out hgw
          rw [show fillV A j = A.map (fun x : Nat => (⟨(x : Int), e0⟩ : V)) by rw [← HAL.out]; exact fillV_all A] at h
          rw [List.length_map, HAL.out]
          exact h)
        go_wp2
        go_ret2
        exact ⟨_, rfl, HC1.out.trans HC.out (by simp), HF.out⟩
  · have hAn := hnil hf0
    subst hAn
    have hne : (f != 0) = true := by simpa using hf0
    clear hlen hnil
    go_enter Tryd.func22, Tryd.ntmps22
    go_wp2_with (first
      | (go_at_call 34; (with_reducible refine HU.out.mono ?_); rintro e w1 ⟨v, rfl, hc, ho⟩; have HC1 := Lib.hid hc; clear hc ho)
      | fail)
    go_ret2
    exact ⟨_, rfl, HC1.out, World.ownsRow_nil _ _ _ _⟩

set_option maxRecDepth 100000 in
set_option maxHeartbeats 4000000 in
theorem pdecode_any (k n : Int) (bv : Value) (b : List Nat) (w : World) (hk : (Lit.int .i64 k).wf = true) (hn : (Lit.int .i64 n).wf = true) (hL : Laid w) (hS : Seen w bv (nv .u8 b)) (hb : ∀ x ∈ b, x < 2 ^ 8) (hbl : b.length ≤ 140737488355328) :
    Calls Tryd.prog 14 #[.int .i64 k, bv, .int .i64 n] w (PDecOut k b n w) := by
  have hk1 := wf_i64 hk
  have hn1 := wf_i64 hn
  have HSG := Lib.hid (signOf_any k w hk1 hL)
  by_cases hbad : k < 1 ∨ 4 < k ∨ n < 0 ∨ 4000 < n
  · have E := Lib.hid (show decP k b n = ([], 1) by unfold decP; rw [if_pos hbad])
    unfold PDecOut
    rw [E.out]
    by_cases hkb : k < 1 ∨ 4 < k
    · rw [show sgI k = 45 by unfold sgI; rw [if_pos hkb]] at HSG
      clear hL hS hbad hkb
      go_enter Tryd.func14, Tryd.ntmps14
      go_wp2_with (first
        | (go_at_call 19; (with_reducible refine HSG.out.mono ?_); rintro e w1 ⟨rfl, rfl⟩)
        | fail)
      go_ret2
      exact ⟨_, rfl, Chg.refl _ _, World.ownsRow_nil _ _ _ _⟩
    · have hs : sgI k = 98 ∨ sgI k = 52 ∨ sgI k = 56 ∨ sgI k = 116 := by
        unfold sgI
        rw [if_neg hkb]
        have : k = 1 ∨ k = 2 ∨ k = 3 ∨ k = 4 := by omega
        rcases this with rfl | rfl | rfl | rfl
        · exact .inl rfl
        · exact .inr (.inl rfl)
        · exact .inr (.inr (.inl rfl))
        · exact .inr (.inr (.inr rfl))
      have hnb : n < 0 ∨ 4000 < n := by omega
      obtain ⟨sg, hsg⟩ : ∃ s, s = sgI k := ⟨_, rfl⟩
      rw [← hsg] at HSG hs
      have h45 : (sg == 45) = false := by rcases hs with rfl | rfl | rfl | rfl <;> rfl
      clear hL hS hbad hkb hs hsg
      rcases hnb with hnb | hnb
      · go_enter Tryd.func14, Tryd.ntmps14
        go_wp2_with (first
          | (go_at_call 19; (with_reducible refine HSG.out.mono ?_); rintro e w1 ⟨rfl, rfl⟩)
          | fail)
        go_ret2
        exact ⟨_, rfl, Chg.refl _ _, World.ownsRow_nil _ _ _ _⟩
      · have hn0 : ¬ n < 0 := by omega
        go_enter Tryd.func14, Tryd.ntmps14
        go_wp2_with (first
          | (go_at_call 19; (with_reducible refine HSG.out.mono ?_); rintro e w1 ⟨rfl, rfl⟩)
          | fail)
        go_ret2
        exact ⟨_, rfl, Chg.refl _ _, World.ownsRow_nil _ _ _ _⟩
  · obtain ⟨N, rfl⟩ : ∃ N : Nat, n = (N : Int) := ⟨n.toNat, by omega⟩
    obtain ⟨K, rfl⟩ : ∃ K : Nat, k = (K : Int) := ⟨k.toNat, by omega⟩
    have hK : 1 ≤ K ∧ K ≤ 4 := by omega
    have hN : N ≤ 4000 := by omega
    rw [sgI_nat K hK] at HSG
    have hn0 : ¬ ((N : Int) < 0) := by omega
    have hn2 : ¬ ((4000 : Int) < (N : Int)) := by omega
    by_cases h1 : K = 1
    · subst h1
      have HT := Lib.hid (ptruths_any bv b N w hN hS hb)
      rw [show sgK 1 = 98 from rfl] at HSG
      rw [show ((1 : Nat) : Int) = 1 from rfl] at HSG ⊢
      unfold PDecOut at HT ⊢
      obtain ⟨q, hq⟩ : ∃ q, q = decP 1 b (N : Int) := ⟨_, rfl⟩
      rw [← hq] at HT ⊢
      clear hL hS hbad hb hq
      go_enter Tryd.func14, Tryd.ntmps14
      go_wp2_with (first
        | (go_at_call 19; (with_reducible refine HSG.out.mono ?_); rintro e w1 ⟨rfl, rfl⟩)
        | (go_at_call 22; (with_reducible refine HT.out.mono ?_); rintro e w2 ⟨x, rfl, hc, ho⟩; have HC := Lib.hid hc; have HO := Lib.hid ho; clear hc ho)
        | fail)
      go_ret2
      exact ⟨_, rfl, HC.out, HO.out⟩
    · have hK' : K = 2 ∨ K = 3 ∨ K = 4 := by omega
      have HT := Lib.hid (pvalues_any K hK' bv b N w hN hS hb hbl)
      have hs : sgK K = 52 ∨ sgK K = 56 ∨ sgK K = 116 := by
        rcases hK' with rfl | rfl | rfl
        · exact .inl rfl
        · exact .inr (.inl rfl)
        · exact .inr (.inr rfl)
      obtain ⟨sg, hsg⟩ : ∃ s, s = sgK K := ⟨_, rfl⟩
      rw [← hsg] at HSG HT hs
      have h45 : (sg == 45) = false := by rcases hs with rfl | rfl | rfl <;> rfl
      have h98 : (sg == 98) = false := by rcases hs with rfl | rfl | rfl <;> rfl
      unfold PDecOut at HT ⊢
      obtain ⟨q, hq⟩ : ∃ q, q = decP (K : Int) b (N : Int) := ⟨_, rfl⟩
      rw [← hq] at HT ⊢
      clear hL hS hbad hb hq hs hsg hK'
      go_enter Tryd.func14, Tryd.ntmps14
      go_wp2_with (first
        | (go_at_call 19; (with_reducible refine HSG.out.mono ?_); rintro e w1 ⟨rfl, rfl⟩)
        | (go_at_call 23; (with_reducible refine HT.out.mono ?_); rintro e w2 ⟨x, rfl, hc, ho⟩; have HC := Lib.hid hc; have HO := Lib.hid ho; clear hc ho)
        | fail)
      go_ret2
      exact ⟨_, rfl, HC.out, HO.out⟩

end Go.Proofs.YtndbgemdklnmlaaDoor
