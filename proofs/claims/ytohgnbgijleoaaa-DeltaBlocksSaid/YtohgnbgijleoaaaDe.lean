/- delta: the reader's block, part; Read. -/
import Derived.Test.YtohgnbgijleoaaaDd
import Derived.Test.YtohgnbgijleoaaaRf
namespace Go.Proofs.Ytohgnbgijleoaaa
open Go.RowKit
set_option linter.unusedVariables false
set_option linter.unusedSimpArgs false

/-- A block's differences at the front of bytes: the error, the numbers, the bytes behind. -/
def blkD (n : Nat) (l : List Int) (least : Int) (b : List Nat) : Int × List Int × List Nat :=
  if b = [] then (8, [], [])
  else if 64 < b.getD 0 0 then (10, [], [])
  else if faultOf ((b.drop 1).take ((n * b.getD 0 0 + 7) / 8)) (b.getD 0 0 * n) ≠ 0 then (faultOf ((b.drop 1).take ((n * b.getD 0 0 + 7) / 8)) (b.getD 0 0 * n), [], [])
  else (0, runS (lastI 0 l) least (unpacked ((b.drop 1).take ((n * b.getD 0 0 + 7) / 8)) n (b.getD 0 0)), (b.drop 1).drop ((n * b.getD 0 0 + 7) / 8))

theorem partD_blk (k : Nat) (l : List Int) (b : List Nat) (h : (gl 0 b).2 = 0) (hl : l ≠ []) : partD k l b = blkD (min 32 k) l (zagOf (gv b)) (b.drop (gl 0 b).1) := by
  unfold partD blkD
  rw [if_neg (by omega), if_neg hl]

/-- What a part of reading answers. -/
def BlkOut (w0 : World) (gr B : Nat) (l : List Int) (p : Int × List Int × List Nat) (e : Ending) (w' : World) : Prop :=
  e = .returned (.int .i64 p.1) ∧ Chg [] w0 w' ∧ (p.1 = 0 → DR w0 w' gr B p.2.2 (l ++ p.2.1))

theorem DR.box {w0 w : World} {gr B : Nat} {b : List Nat} {l : List Int} (h : DR w0 w gr B b l) : ∃ bv lv, w.heap[gr]? = some (.cells #[bv, lv] 41 (0, 0)) ∧ Seen w0 bv (nv .u8 b) ∧ w.ownsRow B 3 1 lv l.length (iv l) := h.st

/-- The row grew: what the box holds behind it, and how the reader stands when the row is set. -/
theorem DR.grow {w0 w w' : World} {gr B : Nat} {b : List Nat} {l : List Int} {bv lv v' : Value} {o : Obj} {z : Int} (h : DR w0 w gr B b l) (h1 : w.heap[gr]? = some (.cells #[bv, lv] 41 (0, 0))) (h2 : Seen w0 bv (nv .u8 b)) (h3 : w.ownsRow B 3 1 lv l.length (iv l))
    (hg : (w.alloc o).grownBy w' lv.ownBlock) (ho : w'.ownsRow B 3 1 v' (l.length + 1) (iv l ++ [.int .i64 z])) :
    w'.cell? ⟨gr, 1, none⟩ = some lv ∧ w'.frozen? ⟨gr, 1, none⟩ = false ∧ DR w0 (w'.setCell ⟨gr, 1, none⟩ v') gr B b (l ++ [z]) := by
  have hge := own_ge h3
  have hcg : Chg lv.ownBlock.toList w w' := ((Chg.refl _ w).alloc o).grown hg (fun k hk => .inl (by simp [hk]))
  have hb : w'.heap[gr]? = some (.cells #[bv, lv] 41 (0, 0)) := hcg.heap h1 (fun hm => by
    simp at hm
    have := hge gr hm
    have := h.g1
    omega)
  obtain ⟨q0, q1, q2, q3⟩ := cells2 hb
  refine ⟨q1, q3, ?_⟩
  have hc0 : Chg [] w0 w' := h.c0.trans hcg (fun t ht => .inr (by
    simp at ht
    have := hge t ht
    have := h.g0; have := h.g1
    omega))
  have hcs : Chg [gr] w' (w'.setCell ⟨gr, 1, none⟩ v') := (Chg.refl [gr] w').setCell (.inl (by simp)) v'
  refine ⟨hc0.setCell (.inr h.g0) v', h.g0, h.g1, Nat.le_trans h.lB (Nat.le_trans hcg.size hcs.size), h.by', h.bl, bv, v', set21 hb v', h2, ?_⟩
  have := own_chg ho hcs (own_notin ho h.g1)
  rw [show iv (l ++ [z]) = iv l ++ [.int .i64 z] by simp [iv], List.length_append]
  exact this

theorem own_apart2 {w : World} {B B' T T' s s' : Nat} {v v' : Value} {n n' : Nat} {xs ys : List Value} (h : w.ownsRow B T s v n xs) (h' : w.ownsRow B' T' s' v' n' ys) (hT : T ≠ T') : ∀ g, v.ownBlock = some g → g ∉ v'.ownBlock.toList := by
  intro g hg hm
  simp at hm
  obtain ⟨c, f, h1⟩ := tagged_of_own h g hg
  obtain ⟨c', f', h2⟩ := tagged_of_own h' g hm
  rw [h1] at h2
  injection h2 with h2
  injection h2 with h3 h4 h5
  exact hT h4

theorem wdO_eq (b : List Nat) (hb : b ≠ []) (h : ¬ 64 < b.getD 0 0) : wdO b = (b.getD 0 0, 0) := by unfold wdO; rw [if_neg hb, if_neg h]

theorem runS_step (v least : Int) (A : List Nat) (j : Nat) (h : j < A.length) : runS v least (A.take (j + 1)) = runS v least (A.take j) ++ [wrp (lastI v (runS v least (A.take j)) + (least + ((A.getD j 0 : Nat) : Int)))] := by
  unfold runS
  rw [List.take_add_one, List.getElem?_eq_getElem h]
  simp only [Option.toList_some, List.map_append, List.map_cons, List.map_nil]
  rw [runI_app]
  simp [runI, List.getD, h]

theorem three_wrap (v least a : Int) : wrp (v + wrp (least + wrp a)) = wrp (v + (least + a)) := by unfold wrp; omega

theorem lastI_in (v : Int) (l : List Int) (hv : In64 v) (h : ∀ x ∈ l, In64 x) : In64 (lastI v l) := by
  induction l generalizing v with
  | nil => exact hv
  | cons x r ih => exact ih x (h x (by simp)) fun y hy => h y (by simp [hy])

set_option maxRecDepth 100000 in
set_option maxHeartbeats 4000000 in
theorem drblock_any {w0 w : World} {gr B : Nat} {b : List Nat} {l : List Int} (h : DR w0 w gr B b l) (hl : l ≠ []) (hll : l.length ≤ 5000) (least : Int) (n : Nat) (hn : n ≤ 32) :
    Calls Try.prog 37 #[.pointer (some ⟨gr, 0, none⟩), .int .i64 least, .int .i64 (n : Int)] w (BlkOut w0 gr B l (blkD n l least b)) := by
  have HB := Lib.hid h
  have HW := Lib.hid (drwidth_any h)
  by_cases hb0 : b = []
  · have E := Lib.hid (show blkD n l least b = (8, [], []) by unfold blkD; rw [if_pos hb0])
    have hw : wdO b = (0, 8) := by unfold wdO; rw [if_pos hb0]
    rw [hw] at HW
    unfold BlkOut
    rw [E.out]
    clear h hw hb0
    go_enter Try.func37, Try.ntmps37
    go_wp2_with (first
      | (go_at_call 47; (with_reducible refine HW.out.mono ?_); rintro e w2 ⟨rfl, hd⟩; have HD := Lib.hid hd; clear hd)
      | fail)
    go_ret
    exact ⟨rfl, HD.out.c0, fun h => by simp at h⟩
  obtain ⟨W, hWd⟩ : ∃ W, W = b.getD 0 0 := ⟨_, rfl⟩
  by_cases h64 : 64 < W
  · have E := Lib.hid (show blkD n l least b = (10, [], []) by unfold blkD; rw [if_neg hb0, ← hWd, if_pos h64])
    have hw : wdO b = (0, 10) := by unfold wdO; rw [if_neg hb0, ← hWd, if_pos h64]
    rw [hw] at HW
    unfold BlkOut
    rw [E.out]
    clear h hw hb0 hWd
    go_enter Try.func37, Try.ntmps37
    go_wp2_with (first
      | (go_at_call 47; (with_reducible refine HW.out.mono ?_); rintro e w2 ⟨rfl, hd⟩; have HD := Lib.hid hd; clear hd)
      | fail)
    go_ret
    exact ⟨rfl, HD.out.c0, fun h => by simp at h⟩
  have hw : wdO b = (W, 0) := by rw [hWd]; exact wdO_eq b hb0 (by rw [← hWd]; exact h64)
  rw [hw] at HW
  obtain ⟨N, hN⟩ : ∃ N, N = n * W := ⟨_, rfl⟩
  have hN2 : N ≤ 2048 := by
    rw [hN]
    exact Nat.le_trans (Nat.mul_le_mul hn (show W ≤ 64 by omega)) (by decide)
  have hmul : IntKind.i64.wrap ((n : Int) * (W : Int)) = (N : Int) := by
    rw [show (n : Int) * (W : Int) = (N : Int) by rw [hN]; push_cast; rfl]
    exact IntWalk.i64_in _ (by omega)
  obtain ⟨s, hs⟩ : ∃ s, s = (b.drop 1).take ((N + 7) / 8) := ⟨_, rfl⟩
  have hsb : ∀ x ∈ s, x < 2 ^ 8 := fun x hx => h.by' x (List.mem_of_mem_drop (List.mem_of_mem_take (by rw [← hs]; exact hx)))
  obtain ⟨f, hf⟩ : ∃ f, f = faultOf s (W * n) := ⟨_, rfl⟩
  have HU := Lib.hid (fun (sv : Value) (wx : World) (hS : Seen wx sv (nv .u8 s)) => unpack_any sv s n W wx (by omega) (by omega) hS hsb)
  unfold UnpackOut at HU
  rw [← hf] at HU
  have HT := Lib.hid (fun (wx : World) (hd : DR w0 wx gr B (b.drop 1) l) => drtake_any hd N (by omega))
  rw [← hs] at HT
  obtain ⟨t, ht⟩ : ∃ t, t = (b.drop 1).drop ((N + 7) / 8) := ⟨_, rfl⟩
  rw [← ht] at HT
  have hE : blkD n l least b = if f ≠ 0 then (f, [], []) else (0, runS (lastI 0 l) least (unpacked s n W), t) := by
    unfold blkD
    rw [if_neg hb0, ← hWd, if_neg h64, ← hN, ← hs, ← hf, ← ht]
  by_cases hf0 : f = 0
  · have E := Lib.hid (show blkD n l least b = (0, runS (lastI 0 l) least (unpacked s n W), t) by rw [hE, if_neg (by omega)])
    obtain ⟨A, hA⟩ : ∃ A, A = unpacked s n W := ⟨_, rfl⟩
    have hout : outU s n W = A := by unfold outU; rw [if_pos (by rw [← hf]; exact hf0), hA]
    have HAL := Lib.hid (show A.length = n by rw [hA]; exact unpacked_length _ _ _)
    rw [hout] at HU
    rw [← hA] at E
    unfold BlkOut
    rw [E.out]
    subst hf0
    obtain ⟨p, hp⟩ : ∃ p, p = l.length - 1 := ⟨_, rfl⟩
    have hl1 : 0 < l.length := List.length_pos_iff.2 hl
    have HPL := Lib.hid (show l.length = p + 1 by omega)
    have hp5 : p ≤ 5000 := by omega
    have hsub : IntKind.i64.wrap (((p + 1 : Nat) : Int) - 1) = (p : Int) := by rw [show ((p + 1 : Nat) : Int) - 1 = (p : Int) by omega]; exact IntWalk.i64_in _ (by omega)
    have HLA := Lib.hid (show l.getD p 0 = lastI 0 l by rw [lastI_get 0 l hl, hp])
    have hget : (iv l)[p]? = some (.int .i64 (l.getD p 0)) := by
      unfold iv
      rw [List.getElem?_map, List.getD, List.getElem?_eq_getElem (by omega)]
      rfl
    rw [HLA.out] at hget
    have HGE := Lib.hid hget
    obtain ⟨v0, hv0⟩ : ∃ v0, v0 = lastI 0 l := ⟨_, rfl⟩
    have HV0 := Lib.hid hv0
    rw [← hv0] at HGE
    rw [← hv0]
    clear h hw hb0 hWd hN hs hsb hf ht hE hA hout hp hl hl1 hll hget hv0 h64 HLA
    go_enter Try.func37, Try.ntmps37
    go_wp2_with (first
      | (go_at_call 47; (with_reducible refine HW.out.mono ?_); rintro e w2 ⟨rfl, hd⟩; have HD := Lib.hid hd; clear hd)
      | (go_at_call 49; (with_reducible refine (HT.out w2 HD.out).mono ?_); rintro e w3 ⟨sv, rfl, hsv, hd⟩; have HD3 := Lib.hid hd; have HSV := Lib.hid (hsv.keep hd.c0); clear hd hsv)
      | (go_at_call 48; (with_reducible refine (HU.out sv w3 HSV.out).mono ?_); rintro e w4 ⟨av, rfl, hc, ho⟩; rw [HAL.out] at ho; obtain ⟨ao, ac, rfl⟩ := own_shape ho; have HD4 := Lib.hid (HD3.out.keep hc); have HOA := Lib.hid (show w4.ownsRow B 44 1 (.slice ao n ac) n (nv .u64 A) from own_mono ho HD3.out.lB); clear hc ho; obtain ⟨bv, lv, hb4, hs4, ho4⟩ := HD4.out.st; obtain ⟨lo, lc, rfl⟩ := own_shape ho4; rw [HPL.out] at hb4 ho4; obtain ⟨c0, c1, f0, f1⟩ := cells2 hb4; obtain ⟨gl', hgl, -, -, -, hcl⟩ := own_ptr ho4 (by omega); subst hgl; have x0 := hcl p _ HGE.out; clear hcl ho4 hs4 hb4)
      | fail)
    go_quiet (fail)
    go_wp2
    have HD5 := Lib.hid (HD4.out.keep ((Chg.refl [] w4).drewN nq))
    have HOA5 := Lib.hid (own_chg HOA.out ((Chg.refl [] w4).drewN nq) (by simp))
    clear c0 c1 f0 f1 x0
    obtain ⟨w5, hw5⟩ : ∃ w5, w5 = w4.drewN nq := ⟨_, rfl⟩
    rw [← hw5] at HD5 HOA5 ⊢
    clear hw5 HD4 HOA
    obtain ⟨i0, hi, hz0, hz1, hz2⟩ := info_int
    go_loopw [10, 49] (fun v i w' => ∃ j : Nat, j ≤ n ∧ v = .int .i64 (lastI v0 (runS v0 least (A.take j))) ∧ i = .int .i64 (j : Int) ∧ w'.ownsRow B 44 1 (.slice ao n ac) n (nv .u64 A) ∧ DR w0 w' gr B t (l ++ runS v0 least (A.take j))) (fun _ i _ => n - (intOf i).toNat)
    case atStart => exact ⟨0, Nat.zero_le _, rfl, rfl, HOA5.out, by
      rw [List.take_zero, show runS v0 least [] = [] from rfl, List.append_nil]
      exact HD5.out⟩
    case round =>
      obtain ⟨j, hj, rfl, rfl, hoa, hd⟩ := hrel
      have HOA := Lib.hid hoa; have HDJ := Lib.hid hd
      clear hoa hd
      by_cases hlt : j < n
      · have d1 : decide ((j : Int) < (n : Int)) = true := by simp; omega
        obtain ⟨ga, hga, hage, halt, -, hacl⟩ := own_ptr HOA.out (by omega)
        have x1 := hacl j (.int .u64 ((A.getD j 0 : Nat) : Int)) (nv_get .u64 A j (by rw [HAL.out]; exact hlt))
        subst hga
        have HSTEP := Lib.hid (runS_step v0 least A j (by rw [HAL.out]; exact hlt))
        obtain ⟨a, ha⟩ : ∃ a, a = A.getD j 0 := ⟨_, rfl⟩
        rw [← ha] at x1 HSTEP
        have hv64 := three_wrap (lastI v0 (runS v0 least (A.take j))) least (a : Int)
        obtain ⟨X, hX⟩ : ∃ X, X = runS v0 least (A.take j) := ⟨_, rfl⟩
        rw [← hX] at HSTEP HDJ hv64 ⊢
        have hXl : X.length = j := by rw [hX, runS_length, List.length_take, HAL.out]; omega
        obtain ⟨v, hv⟩ : ∃ v, v = lastI v0 X := ⟨_, rfl⟩
        rw [← hv] at HSTEP hv64 ⊢
        obtain ⟨z, hz⟩ : ∃ z, z = wrp (v + (least + (a : Int))) := ⟨_, rfl⟩
        rw [← hz] at HSTEP hv64
        rw [← wr64, ← wr64, ← wr64] at hv64
        obtain ⟨bv5, lv5, hb5, hs5, ho5⟩ := HDJ.out.st
        obtain ⟨lo5, lc5, rfl⟩ := own_shape ho5
        obtain ⟨c0, c1, f0, f1⟩ := cells2 hb5
        have HB5 := Lib.hid hb5; have HS5 := Lib.hid hs5; have HO5 := Lib.hid ho5
        obtain ⟨M, hM⟩ : ∃ M, M = (l ++ X).length := ⟨_, rfl⟩
        have hMl : M ≤ 6000 := by rw [hM, List.length_append, HPL.out, hXl]; omega
        rw [← hM] at HO5 HB5 c1
        have HMM := Lib.hid hM
        have hlB := HDJ.out.lB
        clear ha hX hv hz hb5 hs5 ho5 hacl hM
        go_wp2_with (first
          | (at_builtin; refine wpList_append_own _ rfl _ _ 22 rfl B 3 i0 (.int .i64 0) 1 8 Try.underlying22 hi hz0 hz1 hz2 rfl (by decide) _ _ _ rfl (HO5.out.alloc _) ⟨wr.heap.size, 0, none⟩ 1 1 [.int .i64 z] rfl rfl ?c1 ?c2 ?c3 ?c4 ?c5 ?_)
          | fail)
        case c1 => exact cell_one_new _ _ _
        case c2 => simp [Value.oneCell']
        case c3 => unfold maxLen; omega
        case c4 => omega
        case c5 => simp; omega
        intro v6 w6 hown6 hgrow6 _
        obtain ⟨yo, yc, rfl⟩ := own_shape hown6
        obtain ⟨q1, q3, hd6⟩ := HDJ.out.grow (z := z) HB5.out HS5.out (by rw [← HMM.out]; exact HO5.out) hgrow6 (by rw [← HMM.out]; exact hown6)
        have hcg : Chg (Value.slice lo5 M lc5).ownBlock.toList wr w6 := ((Chg.refl _ wr).alloc _).grown hgrow6 (fun k hk => .inl (by simp [hk]))
        have hoa6 := own_chg HOA.out hcg (own_apart2 HOA.out HO5.out (by decide))
        have hcs : Chg [gr] w6 (w6.setCell ⟨gr, 1, none⟩ (.slice yo (M + 1) yc)) := (Chg.refl [gr] w6).setCell (.inl (by simp)) _
        have HOA6 := Lib.hid (own_chg hoa6 hcs (own_notin hoa6 HDJ.out.g1))
        have HD6 := Lib.hid hd6
        clear hown6 hgrow6 hd6 hcg hoa6 hcs
        go_wp2
        go_roundw
        case rel => exact ⟨j + 1, hlt, by rw [HSTEP.out, lastI_snoc], by go_num, HOA6.out, by
          have h := HD6.out
          rw [List.append_assoc] at h
          rw [HSTEP.out]
          exact h⟩
        case measure => simp [intOf]; omega
      · have d1 : decide ((j : Int) < (n : Int)) = false := by simp; omega
        obtain rfl : j = n := by omega
        have HF := Lib.hid HDJ.out
        rw [show A.take j = A by rw [← HAL.out, List.take_length]] at HF
        go_wp2
        go_ret
        exact ⟨rfl, HF.out.c0, fun _ => HF.out⟩
  · have E := Lib.hid (show blkD n l least b = (f, [], []) by rw [hE, if_pos hf0])
    unfold BlkOut
    rw [E.out]
    have hne : (f != 0) = true := by simpa using hf0
    have HF0 := Lib.hid hf0
    clear h hw hb0 hWd hN hs hsb hf ht hE h64
    go_enter Try.func37, Try.ntmps37
    go_wp2_with (first
      | (go_at_call 47; (with_reducible refine HW.out.mono ?_); rintro e w2 ⟨rfl, hd⟩; have HD := Lib.hid hd; clear hd)
      | (go_at_call 49; (with_reducible refine (HT.out w2 HD.out).mono ?_); rintro e w3 ⟨sv, rfl, hsv, hd⟩; have HD3 := Lib.hid hd; have HSV := Lib.hid (hsv.keep hd.c0); clear hd hsv)
      | (go_at_call 48; (with_reducible refine (HU.out sv w3 HSV.out).mono ?_); rintro e w4 ⟨av, rfl, hc, ho⟩; have HD4 := Lib.hid (HD3.out.keep hc); clear hc ho)
      | fail)
    go_ret
    exact ⟨rfl, HD4.out.c0, fun h => absurd h HF0.out⟩

end Go.Proofs.Ytohgnbgijleoaaa
