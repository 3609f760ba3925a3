/- The walk of the statement PlainCuts. -/
import Derived.Test.YtndbgemdklnmlaaDoorUi
import Derived.Test.YtndbgemdklnmlaaDoorWPlSizes
namespace Go.Proofs.YtndbgemdklnmlaaDoor
open Go.RowKit
set_option linter.unusedVariables false
set_option linter.unusedSimpArgs false

theorem encP_pos (k : Nat) (hk : 1 ≤ k ∧ k ≤ 4) (l : List V) (h : l ≠ []) : 0 < (encP k l).length := by
  cases l with
  | nil => exact absurd rfl h
  | cons v l =>
    unfold encP
    split
    · rw [packed_length, List.length_map, List.length_cons]; omega
    · rw [List.flatMap_cons, List.length_append]
      have : 0 < (enc1 k v).length := by
        unfold enc1
        split
        · simp
        · split
          · simp
          · simp; omega
      omega

set_option maxRecDepth 100000 in
set_option maxHeartbeats 4000000 in
theorem walk_PlainCuts (a0 : Int) (a1 : Option Addr) (len1 cap1 : Nat) (l1 : List V) (a2 : Int) (a3 : Option Addr) (len3 cap3 : Nat) (z3 : List Int) (w : World) (hT : Laid w) (w0 : (Lit.int .i64 a0).wf = true) (w1 : SeenV w (.slice a1 len1 cap1) l1) (v1 : ∀ v ∈ l1, (Lit.int .i64 v.n).wf = true) (w2 : (Lit.int .i64 a2).wf = true) (w3 : IsRow .u8 w a3 len3 cap3 z3) :
    Calls Tryd.prog 6 #[.int .i64 a0, .slice a1 len1 cap1, .int .i64 a2, .slice a3 len3 cap3] w fun e w' => e = .returned (.bool true) ∧ Below w.heap.size w w' := by
  obtain ⟨i0, hi, hz0, hz1, hz2⟩ := info_u8
  obtain ⟨R, hR, hRl, hRb⟩ := w3.u8s
  have HT := Lib.hid hT; have HS := Lib.hid w1; have HV := Lib.hid v1; have HR := Lib.hid hR; have HRL := Lib.hid hRl; have HRB := Lib.hid hRb
  have hl1 : len1 = l1.length := by
    obtain ⟨ao, cap, he, -, -⟩ := w1.shape
    injection he with _ e2 _
  have HL1 := Lib.hid hl1
  have HQ := Lib.hid (fun wx => within11 a0 4 4 wx rfl (by decide) (by decide) w0)
  obtain ⟨K, hK⟩ : ∃ K, K = (a0 % ((4 : Nat) : Int)).toNat := ⟨_, rfl⟩
  have hK4 : K < 4 := by rw [hK]; exact within_lt a0 4 (by decide)
  rw [← hK] at HQ
  have W2 := Lib.hid w2
  clear hT w1 v1 w0 hK w2 w3 hR hRl hRb hl1
  go_enter Tryd.func6, Tryd.ntmps6
  go_wp2_with fail
  refine (known11_any _ HT.out).mono ?_
  rintro e wA ⟨rfl, hk⟩
  have HKA := Lib.hid hk
  clear hk
  by_cases h1 : len3 = 0
  · subst h1
    go_wp2
    go_ret
    exact ⟨rfl, HKA.out.below (Nat.le_refl _) (by simp)⟩
  have h1b : (((len3 : Nat) : Int) == 0) = false := by simpa using h1
  by_cases h2 : 30 < len3
  · have h2i : (30 : Int) < (len3 : Int) := by omega
    go_wp2
    go_ret
    exact ⟨rfl, HKA.out.below (Nat.le_refl _) (by simp)⟩
  have h2b : ¬ (30 : Int) < (len3 : Int) := by omega
  by_cases h3 : len1 = 0
  · subst h3
    go_wp2
    go_ret
    exact ⟨rfl, HKA.out.below (Nat.le_refl _) (by simp)⟩
  have h3b : (((len1 : Nat) : Int) == 0) = false := by simpa using h3
  go_wp2_with fail
  refine (HQ.out _).mono ?_
  rintro e wB ⟨rfl, rfl⟩
  go_wp2_with fail
  obtain ⟨k, hk⟩ : ∃ k, k = K + 1 := ⟨_, rfl⟩
  have hk4 : 1 ≤ k ∧ k ≤ 4 := by omega
  rw [show (1 : Int) + (K : Int) = (k : Int) by omega]
  refine (all11_any k hk4 _ l1 wA (HS.out.keep HKA.out) HV.out).mono ?_
  rintro e wC ⟨x, rfl, hc, ho⟩
  obtain ⟨xo, xc, rfl⟩ := own_shape ho
  have HOK := Lib.hid (allV_ok k l1 HV.out)
  have hL60 := allV_len k l1
  have HNE := Lib.hid (show allV k l1 ≠ [] from fun h => by
    have h := congrArg List.length h
    unfold allV at h
    rw [List.length_map, List.length_take] at h
    have := HL1.out
    simp only [List.length_nil] at h; omega)
  obtain ⟨L, hL⟩ : ∃ L, L = allV k l1 := ⟨_, rfl⟩
  rw [← hL] at ho HOK hL60 HNE ⊢
  obtain ⟨m, hm⟩ : ∃ m, m = L.length := ⟨_, rfl⟩
  rw [← hm] at ho hL60 ⊢
  have HM := Lib.hid hm
  have HC := Lib.hid (HKA.out.trans hc (by simp))
  have HX := Lib.hid (show SeenV wC (.slice xo m xc) L from SeenK.own V.cs_len ho hm.symm)
  have HENC := Lib.hid (pencode_any k hk4 _ L wC (HT.out.keep HC.out) HX.out (by omega) (fun v hv => okV_size hk4 (HOK.out v hv)))
  have HLE := Lib.hid (encP_len hk4 HOK.out)
  have HLP := Lib.hid (encP_pos k hk4 L HNE.out)
  have HDC := Lib.hid (dec_cut k hk4 L (by omega) HOK.out)
  have HDM := Lib.hid (dec_more k hk4 L (by omega) HOK.out R (fun h => h1 (by rw [HRL.out, h]; rfl)))
  have HEB := Lib.hid (encP_bytes k L)
  obtain ⟨E, hE⟩ : ∃ E, E = encP k L := ⟨_, rfl⟩
  rw [← hE] at HENC HLE HLP HDC HDM HEB
  rw [← hm] at HLE HDC HDM
  obtain ⟨q, hq⟩ : ∃ q, q = E.length := ⟨_, rfl⟩
  rw [← hq] at HLE HLP HDC
  have hqb := HLE.out
  have hqp := HLP.out
  have HQE := Lib.hid hq
  obtain ⟨p, hp⟩ : ∃ p, p = (a2 % ((q : Nat) : Int)).toNat := ⟨_, rfl⟩
  have hpq : p < q := by rw [hp]; exact within_lt a2 q hqp
  have HW := Lib.hid (fun wx => within11 a2 (q : Int) q wx rfl hqp (by omega) W2.out)
  rw [← hp] at HW
  have HD1 := Lib.hid (fun (wx : World) (bv : Value) (hL : Laid wx) (hs : Seen wx bv (nv .u8 (E.take p))) => pdecode_any (k : Int) (m : Int) bv (E.take p) wx (wf64_of _ (by omega)) (wf64_of _ (by omega)) hL hs (fun x hx => HEB.out x (List.mem_of_mem_take hx)) (by rw [List.length_take]; omega))
  have HD2 := Lib.hid (fun (wx : World) (bv : Value) (hL : Laid wx) (hs : Seen wx bv (nv .u8 (E ++ R))) => pdecode_any (k : Int) (m : Int) bv (E ++ R) wx (wf64_of _ (by omega)) (wf64_of _ (by omega)) hL hs (fun x hx => by
    rcases List.mem_append.1 hx with h | h
    · exact HEB.out x h
    · exact HRB.out x h) (by have := HRL.out; have := HQE.out; rw [List.length_append]; omega))
  unfold PDecOut at HD1 HD2
  rw [HDC.out p hpq] at HD1
  rw [HDM.out] at HD2
  clear hc ho hL hm hE hq hp hk HQ HKA HS HV
  go_wp2_with fail
  refine HENC.out.mono ?_
  rintro e wD ⟨bv, rfl, hc, ho⟩
  rw [← HQE.out] at ho
  obtain ⟨bo, bc, rfl⟩ := own_shape ho
  have hbc := own_room ho
  have HB := Lib.hid (reads_of_own ho).seen
  have HCD := Lib.hid (HC.out.trans hc (by simp))
  have HF := Lib.hid (HB.out.front HQE.out.symm p (by omega))
  clear hc ho
  go_wp2_with fail
  refine (HW.out _).mono ?_
  rintro e wE ⟨rfl, rfl⟩
  go_upto_region 9 with (first
    | (go_at_call 14; (with_reducible refine (HD1.out _ _ (HT.out.keep HCD.out) HF.out).mono ?_); rintro e wF ⟨x, rfl, hc, -⟩; have HCF := Lib.hid (HCD.out.trans hc (by simp)); have HBF := Lib.hid (HB.out.keep hc); clear hc)
    | fail)
  have HONE := Lib.hid (nv_one .u8 E)
  have HONR := Lib.hid (nv_one .u8 R)
  have HRF := Lib.hid ((HR.out.keep HCF.out))
  go_wp2_with (first
    | (at_builtin; refine wpList_append_reads _ rfl _ _ 26 26 rfl wF.heap.size 5 5 i0 (.int .u8 0) 1 Tryd.underlying26 Tryd.underlying26 hi hz0 hz1 hz2 rfl (.slice (some ⟨wF.heap.size, 0, none⟩) 0 0) 0 [] rfl (own_lit wF _ _ rfl (Nat.le_refl _) 5 _ _ 0 1 rfl rfl (by decide)) _ (nv .u8 E) rfl (HBF.out.keep ((Chg.refl [] wF).alloc _)) HONE.out ?c1 ?c2 ?c3 ?_)
    | fail)
  case c1 => rw [nv_length, ← HQE.out]; unfold maxLen; omega
  case c2 => rw [nv_length, ← HQE.out]; omega
  case c3 => simp
  intro v1 wG hown1 hgrow1
  have HCG1 := Lib.hid (((Chg.refl [] wF).alloc (.cells #[] 5)).grown hgrow1 (fun k hk => .inr (by simp [Value.ownBlock] at hk; omega)))
  rw [← HQE.out] at hown1
  have HO1 := Lib.hid hown1
  obtain ⟨o1, c1, rfl⟩ := own_shape HO1.out
  clear hown1 hgrow1
  go_wp2_with (first
    | (at_builtin; refine wpList_append_reads _ rfl _ _ 26 26 rfl wF.heap.size 5 5 i0 (.int .u8 0) 1 Tryd.underlying26 Tryd.underlying26 hi hz0 hz1 hz2 rfl (.slice o1 q c1) q (nv .u8 E) rfl HO1.out _ (nv .u8 R) rfl (HRF.out.keep HCG1.out) HONR.out ?c1 ?c2 ?c3 ?_)
    | fail)
  case c1 => rw [nv_length, ← HRL.out]; unfold maxLen; omega
  case c2 => rw [nv_length, ← HRL.out]; omega
  case c3 => exact HCG1.out.size
  intro v2 wH hown2 hgrow2
  have HCH := Lib.hid (HCF.out.trans (HCG1.out.grown hgrow2 (fun k hk => .inr (HO1.out.lt k hk).1)) (by simp))
  have HO2 := Lib.hid (show Seen wH v2 (nv .u8 (E ++ R)) by
    have h := (reads_of_own hown2).seen
    simpa [nv] using h)
  obtain ⟨o2, c2, rfl⟩ := own_shape hown2
  clear hown2 hgrow2
  go_wp2_with (first
    | (go_at_call 14; (with_reducible refine (HD2.out _ _ (HT.out.keep HCH.out) HO2.out).mono ?_); rintro e wI ⟨x2, rfl, hc, -⟩; have HCI := Lib.hid (HCH.out.trans hc (by simp)); clear hc)
    | fail)
  go_ret
  exact ⟨rfl, HCI.out.below (Nat.le_refl _) (by simp)⟩

end Go.Proofs.YtndbgemdklnmlaaDoor
