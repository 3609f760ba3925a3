/- plain's reference: the reader, bools. -/
import Derived.Test.YtndbgemdklnmlaaDoorUi
import Derived.Test.YtndbgemdklnmlaaDoorRefg
namespace Go.Proofs.YtndbgemdklnmlaaDoor
open Go.RowKit
set_option linter.unusedVariables false
set_option linter.unusedSimpArgs false

/-- The reference's reader stands. -/
structure XS (w : World) (x M : Nat) (b : List Nat) (a : Nat) (e : Int) : Prop where
  xr : XR w x (zi b) a e M
  by' : ∀ y ∈ b, y < 256
  bl : b.length ≤ 1000000000
  xM : x < M
  aL : a ≤ b.length

/-- What is left. -/
def leftX (b : List Nat) (a : Nat) (e : Int) : List Nat := if e = 0 then b.drop a else []
theorem leftX_ok (b : List Nat) (a : Nat) : leftX b a 0 = b.drop a := rfl
theorem leftX_err (b : List Nat) (a : Nat) (e : Int) (h : e ≠ 0) : leftX b a e = [] := by unfold leftX; rw [if_neg h]

theorem XS.keep {w w' : World} {x M : Nat} {b : List Nat} {a : Nat} {e : Int} (h : XS w x M b a e) (hc : Chg [] w w') : XS w' x M b a e :=
  ⟨h.xr.keep0 hc, h.by', h.bl, h.xM, h.aL⟩

/-- Another block, behind the reader's, was changed. -/
theorem XS.high {w w' : World} {x M k : Nat} {b : List Nat} {a : Nat} {e : Int} (h : XS w x M b a e) (hc : Chg [k] w w') (hk : M ≤ k) : XS w' x M b a e := by
  obtain ⟨v, h1, h2, h3, h4, h5⟩ := h.xr
  have hx := h.xM
  have hg : ∀ g, v.ownBlock = some g → g ∉ [k] := fun g hg hm => by have := h4 g hg; simp at hm; omega
  exact ⟨⟨v, hc.heap h1 (by simp; omega), h2.keep hc hg, h3.keep hc hg, h4, h5⟩, h.by', h.bl, h.xM, h.aL⟩

theorem XS.keepOwn {w w' : World} {x M B n : Nat} {b : List Nat} {a : Nat} {e : Int} {v : Value} {xs : List Value} (h : XS w x M b a e) (ho : w.ownsRow B 39 2 v n xs) (hc : Chg v.ownBlock.toList w w') : XS w' x M b a e := by
  obtain ⟨rv, h1, h2, h3, h4, h5⟩ := h.xr
  have hn : ∀ g, v.ownBlock = some g → g ≠ x := (tagged_of_own ho).ne h1 (by decide)
  have hn2 : ∀ g, rv.ownBlock = some g → g ∉ v.ownBlock.toList := fun g hg hm => by
    simp at hm
    obtain ⟨cur, fr, hb⟩ := h3 g hg
    exact (tagged_of_own ho).ne hb (by decide) g hm rfl
  exact ⟨⟨rv, hc.heap h1 (fun hm => by simp at hm; exact hn x hm rfl), h2.keep hc hn2, h3.keep hc hn2, h4, h5⟩, h.by', h.bl, h.xM, h.aL⟩

theorem XS.far {w : World} {x M B n : Nat} {b : List Nat} {a : Nat} {e : Int} {v : Value} {xs : List Value} (h : XS w x M b a e) (ho : w.ownsRow B 39 2 v n xs) : ∀ g, v.ownBlock = some g → g ∉ [x] := fun g hg hm => by
  obtain ⟨rv, h1, -⟩ := h.xr
  simp at hm
  exact (tagged_of_own ho).ne h1 (by decide) g hg hm

theorem XS.err {w : World} {x M : Nat} {b : List Nat} {a : Nat} {e : Int} (h : XS w x M b a e) : w.cell? ⟨x, 2, none⟩ = some (.int .i64 e) := by
  obtain ⟨v, h1, -⟩ := h.xr
  exact (cells3 h1).2.2.1

theorem xsGet {w : World} {x M : Nat} {b : List Nat} {a : Nat} (h : XS w x M b a 0) (n : Nat) (h1 : 1 ≤ n) (h8 : n ≤ 8) :
    Calls Tryd.prog 28 #[.pointer (some ⟨x, 0, none⟩), .int .i64 (n : Int)] w fun y w' =>
      if (b.drop a).length < n then y = .returned (.int .u64 0) ∧ Chg [x] w w' ∧ XS w' x M b a 8
      else y = .returned (.int .u64 ((nm ((b.drop a).take n) : Nat) : Int)) ∧ Chg [x] w w' ∧ XS w' x M b (a + n) 0 := by
  have hb := h.bl
  have ha := h.aL
  by_cases hn : (b.drop a).length < n
  · simp only [if_pos hn]
    rw [List.length_drop] at hn
    refine (xget_cut x n w (zi b) a (by rw [zi_length]; omega) h.xr (by omega) h8 (by rw [zi_length]; omega)).mono ?_
    rintro y w' ⟨rfl, hc, hr⟩
    exact ⟨rfl, hc, ⟨hr, h.by', h.bl, h.xM, h.aL⟩⟩
  · simp only [if_neg hn]
    rw [List.length_drop] at hn
    refine (xget_yes x n w (zi b) a (by rw [zi_length]; omega) (zi_wf h.by') h.xr (by omega) h8 (by rw [zi_length]; omega)).mono ?_
    rintro y w' ⟨rfl, hc, hr⟩
    rw [zi_drop, zi_take, num_zi]
    exact ⟨rfl, hc, ⟨hr, h.by', h.bl, h.xM, by omega⟩⟩

theorem xsTake_err {w : World} {x M : Nat} {b : List Nat} {a : Nat} {e : Int} (h : XS w x M b a e) (he : e ≠ 0) (n : Int) :
    Calls Tryd.prog 30 #[.pointer (some ⟨x, 0, none⟩), .int .i64 n] w fun y w' => y = .returned (.slice none 0 0) ∧ Chg [x] w w' ∧ XS w' x M b a e := by
  refine (xtake_none x n e w (zi b) a h.xr (.inl he)).mono ?_
  rintro y w' ⟨rfl, rfl⟩
  exact ⟨rfl, Chg.refl _ _, h⟩

theorem xsTake {w : World} {x M : Nat} {b : List Nat} {a : Nat} (h : XS w x M b a 0) (n : Nat) :
    Calls Tryd.prog 30 #[.pointer (some ⟨x, 0, none⟩), .int .i64 (n : Int)] w fun y w' => ∃ v, y = .returned v ∧ Chg [x] w w' ∧
      (if (b.drop a).length < n then v = .slice none 0 0 ∧ XS w' x M b a 8 else Seen w' v (nv .u8 ((b.drop a).take n)) ∧ XS w' x M b (a + n) 0) := by
  have hb := h.bl
  have ha := h.aL
  by_cases hn : (b.drop a).length < n
  · simp only [if_pos hn]
    rw [List.length_drop] at hn
    refine (xtake_cut x n w (zi b) a (by rw [zi_length]; omega) h.xr (by omega) (by rw [zi_length]; omega)).mono ?_
    rintro y w' ⟨rfl, hc, hr⟩
    exact ⟨_, rfl, hc, rfl, ⟨hr, h.by', h.bl, h.xM, h.aL⟩⟩
  · simp only [if_neg hn]
    rw [List.length_drop] at hn
    by_cases h0 : n = 0
    · subst h0
      refine (xtake_none x 0 0 w (zi b) a h.xr (.inr (by decide))).mono ?_
      rintro y w' ⟨rfl, rfl⟩
      exact ⟨_, rfl, Chg.refl _ _, by simpa [nv] using Seen.nil w, h⟩
    · refine (xtake_yes x n w (zi b) a (by rw [zi_length]; omega) h.xr (by omega) (by rw [zi_length]; omega)).mono ?_
      rintro y w' ⟨v, rfl, hc, hr, ho⟩
      rw [zi_drop, zi_take, bys_zi] at ho
      exact ⟨v, rfl, hc, (reads_of_own ho).seen, ⟨hr, h.by', h.bl, h.xM, by omega⟩⟩

theorem xsEnd {w : World} {x M : Nat} {b : List Nat} {a : Nat} {e : Int} (h : XS w x M b a e) :
    Calls Tryd.prog 31 #[.pointer (some ⟨x, 0, none⟩)] w fun y w' => y = .returned (.int .i64 (if e = 0 then (if b.drop a = [] then 0 else 9) else e)) ∧ Chg [] w w' := by
  refine (xend_any x e w (zi b) a (by have := h.bl; rw [zi_length]; omega) h.xr).mono ?_
  rintro y w' ⟨rfl, n, rfl⟩
  refine ⟨?_, (Chg.refl [] w).drewN n⟩
  rw [zi_length]
  have ha := h.aL
  by_cases he : e = 0
  · subst he
    by_cases hb : b.drop a = []
    · have : b.length ≤ a := by simpa using hb
      rw [if_neg (by omega), if_pos rfl, if_pos hb]
    · have : ¬ b.length ≤ a := fun h => hb (by simpa using h)
      rw [if_pos ⟨rfl, by omega⟩, if_pos rfl, if_neg hb]
  · rw [if_neg (fun h => he h.1), if_neg he]

theorem mapV_snoc (A : List Nat) (j : Nat) (h : j < A.length) : (A.take (j + 1)).map (fun x : Nat => (⟨(x : Int), e0⟩ : V)) = (A.take j).map (fun x : Nat => (⟨(x : Int), e0⟩ : V)) ++ [⟨((A.getD j 0 : Nat) : Int), e0⟩] := by
  rw [List.take_succ_eq_append_getElem h, List.map_append]
  simp [List.getD, h]

set_option maxRecDepth 100000 in
set_option maxHeartbeats 4000000 in
theorem rbools_any (bv : Value) (b : List Nat) (n : Nat) (w : World) (hn : n ≤ 4000) (hbl : b.length < 137438953472) (hS : Seen w bv (nv .u8 b)) (hb : ∀ x ∈ b, x < 2 ^ 8) :
    Calls Tryd.prog 26 #[bv, .int .i64 (n : Int)] w (PDecOut 1 b (n : Int) w) := by
  obtain ⟨i0, hi, hz0, hz1, hz2⟩ := info_value
  have HU := Lib.hid (runpack_any bv b n 1 w hn (by decide) hbl hS hb)
  rw [show ((1 : Nat) : Int) = 1 from rfl] at HU
  have E := Lib.hid (show decP 1 b (n : Int) = ((outU b n 1).map (fun x : Nat => (⟨(x : Int), e0⟩ : V)), faultOf b (1 * n)) by
    unfold decP; rw [if_neg (by omega), if_pos rfl, Int.toNat_natCast])
  have hbd : ∀ x ∈ outU b n 1, x < 2 := by
    intro x hx
    unfold outU at hx
    split at hx
    · unfold unpacked pk at hx
      obtain ⟨j, _, rfl⟩ := List.mem_map.1 hx
      exact wd_lt _ _ _ _
    · simp at hx
  have hlen : (outU b n 1).length ≤ n := by
    unfold outU
    split
    · rw [unpacked_length]; exact Nat.le_refl _
    · simp
  have hnil : faultOf b (1 * n) ≠ 0 → outU b n 1 = [] := fun h => by unfold outU; rw [if_neg h]
  unfold PDecOut
  unfold UnpackOut at HU
  rw [E.out]
  obtain ⟨f, hf⟩ : ∃ f, f = faultOf b (1 * n) := ⟨_, rfl⟩
  obtain ⟨A, hA⟩ : ∃ A, A = outU b n 1 := ⟨_, rfl⟩
  rw [← hf, ← hA] at HU ⊢
  rw [← hf] at hnil
  rw [← hA] at hbd hlen hnil
  have HBD := Lib.hid hbd
  obtain ⟨m, hm⟩ : ∃ m, m = A.length := ⟨_, rfl⟩
  rw [← hm] at hlen
  have HM := Lib.hid hm
  clear hS hb hf hA hbd E
  by_cases hf0 : f = 0
  · subst hf0
    clear hnil
    go_enter Tryd.func26, Tryd.ntmps26
    go_wp2_with (first
      | (go_at_call 39; (with_reducible refine HU.out.mono ?_); rintro e w1 ⟨v, rfl, hc, ho⟩; rw [← hm] at ho; obtain ⟨vo, vc, rfl⟩ := own_shape ho; have HC1 := Lib.hid hc; have HA := Lib.hid (reads_of_own ho).seen; clear hc ho hm)
      | fail)
    go_loopw [8, 9] (fun x i w' => ∃ j : Nat, j ≤ m ∧ i = .int .i64 (j : Int) ∧ Chg [] w1 w' ∧ w'.ownsRow w1.heap.size 39 2 x j (((A.take j).map (fun x : Nat => (⟨(x : Int), e0⟩ : V))).flatMap V.cs)) (fun _ i _ => m - (intOf i).toNat)
    case atStart => exact ⟨0, Nat.zero_le _, rfl, Chg.refl _ _, by simpa using World.ownsRow_nil _ _ _ _⟩
    case round =>
      obtain ⟨j, hj, rfl, hc, ho⟩ := hrel
      obtain ⟨xo, xc, rfl⟩ := own_shape ho
      have HC := Lib.hid hc; have HO := Lib.hid ho
      have hB := hc.size
      clear hc ho
      by_cases hlt : j < m
      · have d1 : decide ((j : Int) < (m : Int)) = true := by simp; omega
        obtain ⟨g, off, rfl, hcell⟩ := (HA.out.keep HC.out).at0 HM.out.symm (by omega)
        have x0 := hcell j hlt
        have HSN := Lib.hid (mapV_snoc A j (by rw [← HM.out]; exact hlt))
        obtain ⟨s, hs⟩ : ∃ s, s = A.getD j 0 := ⟨_, rfl⟩
        rw [← hs] at x0 HSN
        have hs2 : s < 2 := by rw [hs]; exact HBD.out _ (getD_mem (by rw [← HM.out]; exact hlt))
        have hwr : IntKind.i64.wrap (s : Int) = (s : Int) := IntWalk.i64_in _ (by omega)
        clear hcell hs
        go_wp2_with (first
          | (at_builtin; refine wpList_append_own _ rfl _ _ 22 rfl w1.heap.size 39 i0 (.agg #[.int .i64 0, .string ByteArray.empty]) 2 24 Tryd.underlying22 hi hz0 hz1 hz2 rfl (by decide) _ _ _ rfl (HO.out.alloc _) ⟨wr.heap.size, 0, none⟩ 1 1 (V.cs ⟨(s : Int), e0⟩) rfl rfl (new_cells (C := #[.int .i64 (s : Int), .string e0]) _ rfl) (V.one _) (by unfold maxLen; omega) (by omega) (by simp; omega) ?_)
          | fail)
        intro v' w3 hown' hgrow _
        have HG3 := Lib.hid ((HC.out.alloc (.cells #[.int .i64 (s : Int), .string e0] 39)).grown hgrow (fun g hg => .inr (HO.out.lt g hg).1))
        have HO3 := Lib.hid (show w3.ownsRow w1.heap.size 39 2 v' (j + 1) (((A.take (j + 1)).map (fun x : Nat => (⟨(x : Int), e0⟩ : V))).flatMap V.cs) by rw [HSN.out, List.flatMap_append]; simpa using hown')
        clear hgrow hown'
        go_wp2
        go_roundw
        case rel => exact ⟨j + 1, hlt, by go_num, HG3.out, HO3.out⟩
        case measure => simp [intOf]; omega
      · have d1 : decide ((j : Int) < (m : Int)) = false := by simp; omega
        obtain rfl : j = m := by omega
        have HF := Lib.hid (show wr.ownsRow w.heap.size 39 2 (.slice xo j xc) (A.map (fun x : Nat => (⟨(x : Int), e0⟩ : V))).length ((A.map (fun x : Nat => (⟨(x : Int), e0⟩ : V))).flatMap V.cs) by
          have h := own_mono HO.out HC1.out.size
          rw [show A.take j = A by rw [HM.out, List.take_length]] at h
          rw [List.length_map, ← HM.out]
          exact h)
        go_wp2
        go_ret2
        exact ⟨_, rfl, HC1.out.trans HC.out (by simp), HF.out⟩
  · have hAn := hnil hf0
    subst hAn
    have hne : (f != 0) = true := by simpa using hf0
    clear hlen hnil hm
    go_enter Tryd.func26, Tryd.ntmps26
    go_wp2_with (first
      | (go_at_call 39; (with_reducible refine HU.out.mono ?_); rintro e w1 ⟨v, rfl, hc, ho⟩; have HC1 := Lib.hid hc; clear hc ho)
      | fail)
    go_ret2
    exact ⟨_, rfl, HC1.out, World.ownsRow_nil _ _ _ _⟩

end Go.Proofs.YtndbgemdklnmlaaDoor
