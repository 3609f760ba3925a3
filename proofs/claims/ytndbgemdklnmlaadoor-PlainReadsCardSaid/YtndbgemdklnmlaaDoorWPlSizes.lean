/- The walk of the statement PlainSizes. -/
import Derived.Test.YtndbgemdklnmlaaDoorUe
namespace Go.Proofs.YtndbgemdklnmlaaDoor
open Go.RowKit
set_option linter.unusedVariables false
set_option linter.unusedSimpArgs false

/-- The place of a kind. -/
theorem within11 (a n : Int) (N : Nat) (wx : World) (hN : (N : Int) = n) (hn : 1 ≤ N) (hn2 : N ≤ 4611686018427387904) (h : (Lit.int .i64 a).wf = true) :
    Calls Tryd.prog 11 #[.int .i64 a, .int .i64 n] wx fun e w' => e = .returned (.int .i64 (((a % (N : Int)).toNat : Nat) : Int)) ∧ wx = w' := by
  subst hN
  exact within_nat a N wx hn hn2 h

/-- How many bytes each value has. -/
def hd4 (k : Nat) : Nat := if k = 2 then 4 else if k = 3 then 8 else if k = 4 then 4 else 0
theorem enc1_size (k : Nat) (hk : k = 2 ∨ k = 3 ∨ k = 4) (v : V) (h : okV k v) : (enc1 k v).length = hd4 k + v.s.size := by
  obtain ⟨-, h2, h3, -⟩ := h
  rcases hk with rfl | rfl | rfl
  · rw [enc1_2, lo_length, (h2 rfl).2]; rfl
  · rw [enc1_3, lo_length, (h3 rfl).2]; rfl
  · rw [enc1_4, List.length_append, lo_length, bl_length]; rfl

/-- The sum of their sizes. -/
def sumP (k : Nat) (l : List V) : Nat := (l.map fun v => hd4 k + v.s.size).sum
theorem encP_size (k : Nat) (hk : k = 2 ∨ k = 3 ∨ k = 4) : ∀ l : List V, (∀ v ∈ l, okV k v) → (encP k l).length = sumP k l := by
  have h1 : k ≠ 1 := by omega
  intro l h
  unfold encP
  rw [if_neg h1]
  induction l with
  | nil => rfl
  | cons v l ih =>
    have := ih fun x hx => h x (by simp [hx])
    unfold sumP at this ⊢
    rw [List.flatMap_cons, List.length_append, enc1_size k hk v (h v (by simp)), this, List.map_cons, List.sum_cons]
theorem sumP_snoc (k : Nat) (l : List V) (j : Nat) (v : V) (h : l[j]? = some v) : sumP k (l.take (j + 1)) = sumP k (l.take j) + (hd4 k + v.s.size) := by
  unfold sumP
  rw [List.take_add_one, h]; simp

set_option maxRecDepth 100000 in
set_option maxHeartbeats 4000000 in
theorem walk_PlainSizes (a0 : Int) (a1 : Option Addr) (len1 cap1 : Nat) (l1 : List V) (w : World) (hT : Laid w) (w0 : (Lit.int .i64 a0).wf = true) (w1 : SeenV w (.slice a1 len1 cap1) l1) (v1 : ∀ v ∈ l1, (Lit.int .i64 v.n).wf = true) :
    Calls Tryd.prog 5 #[.int .i64 a0, .slice a1 len1 cap1] w fun e w' => e = .returned (.bool true) ∧ Below w.heap.size w w' := by
  have HT := Lib.hid hT; have HS := Lib.hid w1; have HV := Lib.hid v1
  have HQ := Lib.hid (fun wx => within11 a0 4 4 wx rfl (by decide) (by decide) w0)
  obtain ⟨K, hK⟩ : ∃ K, K = (a0 % ((4 : Nat) : Int)).toNat := ⟨_, rfl⟩
  have hK4 : K < 4 := by rw [hK]; exact within_lt a0 4 (by decide)
  rw [← hK] at HQ
  clear hT w1 v1 w0 hK
  go_enter Tryd.func5, Tryd.ntmps5
  go_wp2_with fail
  refine (known11_any _ HT.out).mono ?_
  rintro e wA ⟨rfl, hk⟩
  have HKA := Lib.hid hk
  clear hk
  go_wp2_with fail
  refine (HQ.out _).mono ?_
  rintro e wB ⟨rfl, rfl⟩
  go_wp2_with fail
  obtain ⟨k, hk⟩ : ∃ k, k = K + 1 := ⟨_, rfl⟩
  have hk4 : 1 ≤ k ∧ k ≤ 4 := by omega
  rw [show (1 : Int) + (K : Int) = (k : Int) by omega]
  refine (all11_any k hk4 _ l1 wA (HS.out.keep HKA.out) HV.out).mono ?_
  rintro e wC ⟨x, rfl, hc, ho⟩
  obtain ⟨xo, xc, rfl⟩ := own_shape ho
  have HOK := Lib.hid (allV_ok k l1 HV.out)
  have hL60 := allV_len k l1
  obtain ⟨L, hL⟩ : ∃ L, L = allV k l1 := ⟨_, rfl⟩
  rw [← hL] at ho HOK hL60 ⊢
  obtain ⟨m, hm⟩ : ∃ m, m = L.length := ⟨_, rfl⟩
  rw [← hm] at ho hL60 ⊢
  have HM := Lib.hid hm
  have HC := Lib.hid (HKA.out.trans hc (by simp))
  have HX := Lib.hid (show SeenV wC (.slice xo m xc) L from SeenK.own V.cs_len ho hm.symm)
  have HSM := Lib.hid (show ∀ j, j ≤ m → sumP k (L.take j) ≤ 108 * j from fun j => by
    induction j with
    | zero => intro _; simp [sumP]
    | succ j ih =>
      intro hj
      obtain ⟨v, hv⟩ : ∃ v, L[j]? = some v := ⟨_, List.getElem?_eq_getElem (by omega)⟩
      have := okV_size hk4 (HOK.out v (List.mem_of_getElem? hv))
      have h4 : hd4 k ≤ 8 := by unfold hd4; split <;> (try split) <;> (try split) <;> omega
      rw [sumP_snoc k L j v hv]
      have := ih (by omega)
      omega)
  have HENC := Lib.hid (fun wx (h : Laid wx) (hs : SeenV wx (.slice xo m xc) L) => pencode_any k hk4 _ L wx h hs (by omega) (fun v hv => okV_size hk4 (HOK.out v hv)))
  have HLEN := Lib.hid (show (k = 1 → (encP k L).length = (m + 7) / 8) ∧ (k ≠ 1 → (encP k L).length = sumP k L) from ⟨fun h => by subst h; unfold encP; rw [if_pos rfl, packed_length, List.length_map, Nat.one_mul, HM.out], fun h => encP_size k (by omega) L HOK.out⟩)
  clear hc ho hL hm hK4 hk HQ HKA HS HV
  go_wp2
  go_loopw [7, 8] (fun x i w' => ∃ j : Nat, j ≤ m ∧ x = .int .i64 ((sumP k (L.take j) : Nat) : Int) ∧ i = .int .i64 (j : Int) ∧ Chg [] w w' ∧ Chg [] wC w') (fun _ i _ => m - (intOf i).toNat)
  case atStart => exact ⟨0, Nat.zero_le _, rfl, rfl, HC.out, Chg.refl _ _⟩
  case round =>
    obtain ⟨j, hj, rfl, rfl, hc, hcc⟩ := hrel
    have HCJ := Lib.hid hc; have HCC := Lib.hid hcc
    clear hc hcc
    by_cases hlt : j < m
    · have d1 : decide ((j : Int) < (m : Int)) = true := by simp; omega
      obtain ⟨v, hv⟩ : ∃ v, L[j]? = some v := ⟨_, List.getElem?_eq_getElem (by rw [← HM.out]; exact hlt)⟩
      obtain ⟨g, off, rfl, hcell⟩ := HX.out.get (by omega)
      obtain ⟨-, q1⟩ := hcell j v hv
      have hb1 := HSM.out j hj
      have hb2 := HSM.out (j + 1) hlt
      have HS2 := Lib.hid (sumP_snoc k L j v hv)
      have hb3 := HS2.out
      have x1 := (HCC.out.alloc (.cells #[.int .i64 0, .int .i64 0, .int .i64 4, .int .i64 8, .int .i64 4] 3)).drew.cell q1 (by simp)
      have x2 := HCC.out.drew.cell q1 (by simp)
      have k5 : (k : Int) < 5 := by omega
      obtain ⟨h4, hh4⟩ : ∃ h, h = hd4 k := ⟨_, rfl⟩
      have x3 : (wr.alloc (.cells #[.int .i64 0, .int .i64 0, .int .i64 4, .int .i64 8, .int .i64 4] 3)).drew.cell? ⟨wr.heap.size, k, none⟩ = some (.int .i64 (h4 : Int)) := by
        show (wr.alloc (.cells #[.int .i64 0, .int .i64 0, .int .i64 4, .int .i64 8, .int .i64 4] 3)).cell? ⟨wr.heap.size, k, none⟩ = _
        rw [cell_of_row _ _ k _ _ _ (heap_alloc_new wr _), hh4]
        have : k = 1 ∨ k = 2 ∨ k = 3 ∨ k = 4 := by omega
        rcases this with rfl | rfl | rfl | rfl <;> rfl
      rw [← hh4] at hb3 HS2
      obtain ⟨p, hp⟩ : ∃ p, p = sumP k (L.take j) := ⟨_, rfl⟩
      rw [← hp] at hb3 HS2
      rw [← hp] at hb1 ⊢
      obtain ⟨p2, hp2⟩ : ∃ p, p = sumP k (L.take (j + 1)) := ⟨_, rfl⟩
      rw [← hp2] at hb3 HS2 hb2
      have HP2 := Lib.hid hp2
      clear hcell q1 hv hh4 hp hp2
      go_upto_region 9 with fail
      go_region_law (fail)
      all_goals
        go_wp2
        go_roundw
        case rel => exact ⟨j + 1, hlt, by rw [← HP2.out]; go_num, by go_num, (HCJ.out.alloc _).drew, (HCC.out.alloc _).drew⟩
        case measure => simp [intOf]; omega
    · obtain rfl : j = m := by omega
      have E := Lib.hid (show L.take j = L by rw [HM.out, List.take_length])
      rw [E.out]
      have hb := HSM.out j (Nat.le_refl _)
      rw [E.out] at hb
      have d1 : decide ((j : Int) < (j : Int)) = false := by simp
      have HE := Lib.hid (HENC.out wr (HT.out.keep HCJ.out) (HX.out.keep HCC.out))
      obtain ⟨n, hn⟩ : ∃ n, n = (encP k L).length := ⟨_, rfl⟩
      obtain ⟨p, hp⟩ : ∃ p, p = sumP k L := ⟨_, rfl⟩
      rw [← hn, ← hp] at HLEN
      have HN := Lib.hid hn
      rw [← hp] at hb ⊢
      clear hn hp
      by_cases h1 : k = 1
      · have hk1 : ((k : Int) == 1) = true := by simp [h1]
        have E2 := Lib.hid (show n = (j + 7) / 8 from HLEN.out.1 h1)
        have E3 := Lib.hid (show (((j : Int) + 7).tdiv 8) = (n : Int) by rw [E2.out, Int.tdiv_eq_ediv_of_nonneg (by omega)]; omega)
        clear h1
        go_wp2_with (first
          | (go_at_call 13; (with_reducible refine HE.out.mono ?_); rintro e w2 ⟨x, rfl, hc2, ho2⟩; rw [← HN.out] at ho2; obtain ⟨xa, xc2, rfl⟩ := own_shape ho2; have HC2 := Lib.hid hc2; clear hc2 ho2)
          | fail)
        go_ret
        exact ⟨by simp; rw [E2.out]; omega, (HCJ.out.trans HC2.out (by simp)).below (Nat.le_refl _) (by simp)⟩
      · have hk1 : ((k : Int) == 1) = false := by simp; omega
        have E2 := Lib.hid (show n = p from HLEN.out.2 h1)
        clear h1
        go_wp2_with (first
          | (go_at_call 13; (with_reducible refine HE.out.mono ?_); rintro e w2 ⟨x, rfl, hc2, ho2⟩; rw [← HN.out] at ho2; obtain ⟨xa, xc2, rfl⟩ := own_shape ho2; have HC2 := Lib.hid hc2; clear hc2 ho2)
          | fail)
        go_ret
        exact ⟨by simp; rw [E2.out], (HCJ.out.trans HC2.out (by simp)).below (Nat.le_refl _) (by simp)⟩

end Go.Proofs.YtndbgemdklnmlaaDoor
