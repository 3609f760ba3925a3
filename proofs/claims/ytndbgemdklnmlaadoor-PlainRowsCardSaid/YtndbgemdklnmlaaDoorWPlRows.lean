/- The walk of the statement PlainRows. -/
import Derived.Test.YtndbgemdklnmlaaDoorWPlSizes
namespace Go.Proofs.YtndbgemdklnmlaaDoor
open Go.RowKit
set_option linter.unusedVariables false
set_option linter.unusedSimpArgs false

theorem str_app (a b : List Nat) : str (a ++ b) = str a ++ str b := by
  unfold str
  apply ByteArray.ext
  simp

set_option maxRecDepth 100000 in
set_option maxHeartbeats 4000000 in
theorem walk_PlainRows (a0 : Int) (a1 : Option Addr) (len1 cap1 : Nat) (l1 : List V) (a2 : Int) (w : World) (hT : Laid w) (w0 : (Lit.int .i64 a0).wf = true) (w1 : SeenV w (.slice a1 len1 cap1) l1) (v1 : ∀ v ∈ l1, (Lit.int .i64 v.n).wf = true) (w2 : (Lit.int .i64 a2).wf = true) :
    Calls Tryd.prog 9 #[.int .i64 a0, .slice a1 len1 cap1, .int .i64 a2] w fun e w' => e = .returned (.bool true) ∧ Below w.heap.size w w' := by
  have HT := Lib.hid hT; have HS := Lib.hid w1; have HV := Lib.hid v1
  have HQ := Lib.hid (fun wx => within11 a0 3 3 wx rfl (by decide) (by decide) w0)
  obtain ⟨K, hK⟩ : ∃ K, K = (a0 % ((3 : Nat) : Int)).toNat := ⟨_, rfl⟩
  have hK4 : K < 3 := by rw [hK]; exact within_lt a0 3 (by decide)
  rw [← hK] at HQ
  have W2 := Lib.hid w2
  clear hT w1 v1 w0 hK w2
  go_enter Tryd.func9, Tryd.ntmps9
  go_wp2_with fail
  refine (known11_any _ HT.out).mono ?_
  rintro e wA ⟨rfl, hk⟩
  have HKA := Lib.hid hk
  clear hk
  go_wp2_with fail
  refine (HQ.out _).mono ?_
  rintro e wB ⟨rfl, rfl⟩
  go_wp2_with fail
  obtain ⟨k, hk⟩ : ∃ k, k = K + 2 := ⟨_, rfl⟩
  have hk4 : 1 ≤ k ∧ k ≤ 4 := by omega
  have hk1 : k ≠ 1 := by omega
  rw [show (2 : Int) + (K : Int) = (k : Int) by omega]
  refine (all11_any k hk4 _ l1 wA (HS.out.keep HKA.out) HV.out).mono ?_
  rintro e wC ⟨x, rfl, hc, ho⟩
  obtain ⟨xo, xc, rfl⟩ := own_shape ho
  have HOK := Lib.hid (allV_ok k l1 HV.out)
  have hL60 := allV_len k l1
  obtain ⟨L, hL⟩ : ∃ L, L = allV k l1 := ⟨_, rfl⟩
  rw [← hL] at ho HOK hL60 ⊢
  obtain ⟨m, hm⟩ : ∃ m, m = L.length := ⟨_, rfl⟩
  rw [← hm] at ho hL60 ⊢
  have HM := Lib.hid hm
  have hmc := own_room ho
  have HC := Lib.hid (HKA.out.trans hc (by simp))
  have HX := Lib.hid (show SeenV wC (.slice xo m xc) L from SeenK.own V.cs_len ho hm.symm)
  obtain ⟨n, hn⟩ : ∃ n, n = (a2 % ((m + 1 : Nat) : Int)).toNat := ⟨_, rfl⟩
  have hnm : n < m + 1 := by rw [hn]; exact within_lt a2 (m + 1) (by omega)
  have HW := Lib.hid (fun wx => within11 a2 ((m : Int) + 1) (m + 1) wx (by omega) (by omega) (by omega) W2.out)
  rw [← hn] at HW
  clear hc ho hL hk HQ HKA HS HV hn hm
  go_wp2_with fail
  refine (HW.out _).mono ?_
  rintro e wD ⟨rfl, rfl⟩
  obtain ⟨fo, fc, hfs, hfr⟩ := run_front_v HX.out (by omega) n (by omega)
  obtain ⟨bo, bc, hbs, hbr⟩ := run_back_v HX.out HM.out.symm (by omega) n (by omega)
  have hsz : ∀ v ∈ L, v.s.size ≤ 100 := fun v hv => okV_size hk4 (HOK.out v hv)
  have HEA := Lib.hid (fun wx (h : Laid wx) (hs : SeenV wx (.slice xo m xc) L) => pencode_any k hk4 _ L wx h hs (by have := HM.out; omega) hsz)
  have HEB := Lib.hid (fun wx (h : Laid wx) (hs : SeenV wx (.slice fo n fc) (L.take n)) => pencode_any k hk4 _ (L.take n) wx h hs (by have := HM.out; rw [List.length_take]; omega) (fun v hv => hsz v (List.mem_of_mem_take hv)))
  have HEC := Lib.hid (fun wx (h : Laid wx) (hs : SeenV wx (.slice bo (m - n) bc) (L.drop n)) => pencode_any k hk4 _ (L.drop n) wx h hs (by have := HM.out; rw [List.length_drop]; omega) (fun v hv => hsz v (List.mem_of_mem_drop hv)))
  have happ := enc_app k hk1 (L.take n) (L.drop n)
  rw [List.take_append_drop] at happ
  have HBA := Lib.hid (encP_bytes k L)
  have HBB := Lib.hid (encP_bytes k (L.take n))
  have HBC := Lib.hid (encP_bytes k (L.drop n))
  obtain ⟨EA, hEA⟩ : ∃ E, E = encP k L := ⟨_, rfl⟩
  obtain ⟨EB, hEB⟩ : ∃ E, E = encP k (L.take n) := ⟨_, rfl⟩
  obtain ⟨EC, hEC⟩ : ∃ E, E = encP k (L.drop n) := ⟨_, rfl⟩
  rw [← hEA] at happ HEA HBA
  rw [← hEB] at happ HEB HBB
  rw [← hEC] at happ HEC HBC
  obtain ⟨sB, hsB⟩ : ∃ s, s = str EB := ⟨_, rfl⟩
  obtain ⟨sC, hsC⟩ : ∃ s, s = str EC := ⟨_, rfl⟩
  have HSA := Lib.hid (show sB ++ sC = str EA by rw [happ, str_app, hsB, hsC])
  have HSB := Lib.hid hsB; have HSC := Lib.hid hsC
  obtain ⟨bA, hbA⟩ : ∃ b, b = EA.length := ⟨_, rfl⟩
  obtain ⟨bB, hbB⟩ : ∃ b, b = EB.length := ⟨_, rfl⟩
  obtain ⟨bC, hbC⟩ : ∃ b, b = EC.length := ⟨_, rfl⟩
  have HLA := Lib.hid hbA; have HLB := Lib.hid hbB; have HLC := Lib.hid hbC
  have HCA := Lib.hid (show ∀ wx, Chg [] wC wx → Calls Tryd.prog 13 #[.int .i64 (k : Int), .slice xo m xc] wx fun e w' => ∃ po pc, e = .returned (.slice po bA pc) ∧ Chg [] wx w' ∧ Seen w' (.slice po bA pc) (nv .u8 EA) from fun wx hs => by
    refine (HEA.out wx (HT.out.keep (HC.out.trans hs (by simp))) (HX.out.keep hs)).mono ?_
    rintro e w' ⟨bv, rfl, hk, ho⟩
    rw [← HLA.out] at ho
    obtain ⟨bo, bc, rfl⟩ := own_shape ho
    exact ⟨bo, bc, rfl, hk, (reads_of_own ho).seen⟩)
  have HCB := Lib.hid (show ∀ wx, Chg [] wC wx → Calls Tryd.prog 13 #[.int .i64 (k : Int), .slice fo n fc] wx fun e w' => ∃ po pc, e = .returned (.slice po bB pc) ∧ Chg [] wx w' ∧ Seen w' (.slice po bB pc) (nv .u8 EB) from fun wx hs => by
    refine (HEB.out wx (HT.out.keep (HC.out.trans hs (by simp))) (hfs.keep hs)).mono ?_
    rintro e w' ⟨bv, rfl, hk, ho⟩
    rw [← HLB.out] at ho
    obtain ⟨bo, bc, rfl⟩ := own_shape ho
    exact ⟨bo, bc, rfl, hk, (reads_of_own ho).seen⟩)
  have HCC := Lib.hid (show ∀ wx, Chg [] wC wx → Calls Tryd.prog 13 #[.int .i64 (k : Int), .slice bo (m - n) bc] wx fun e w' => ∃ po pc, e = .returned (.slice po bC pc) ∧ Chg [] wx w' ∧ Seen w' (.slice po bC pc) (nv .u8 EC) from fun wx hs => by
    refine (HEC.out wx (HT.out.keep (HC.out.trans hs (by simp))) (hbs.keep hs)).mono ?_
    rintro e w' ⟨bv, rfl, hk, ho⟩
    rw [← HLC.out] at ho
    obtain ⟨bo, bc, rfl⟩ := own_shape ho
    exact ⟨bo, bc, rfl, hk, (reads_of_own ho).seen⟩)
  have hss : ¬ 9223372036854775807 < sB.size + sC.size := by
    have h1 := encP_len hk4 (l := L.take n) (fun v hv => HOK.out v (List.mem_of_mem_take hv))
    have h2 := encP_len hk4 (l := L.drop n) (fun v hv => HOK.out v (List.mem_of_mem_drop hv))
    have := HM.out
    rw [← hEB, List.length_take] at h1
    rw [← hEC, List.length_drop] at h2
    rw [hsB, hsC, str_size, str_size]
    omega
  have hee : ((sB ++ sC).toList == (sB ++ sC).toList) = true := by simp
  clear hEA hEB hEC hbA hbB hbC hsB hsC happ HEA HEB HEC hsz hfs hbs HW
  go_upto_region 6 with fail
  have HD0 := Lib.hid (Chg.refl [] wC).drew
  go_region_law (first
    | (go_simp; go_at_call 13; (with_reducible refine (HCA.out _ HD0.out).mono ?_); rintro e wE ⟨po, pc, rfl, hc, hs⟩; have hcvA := cvp hs HLA.out HSA.out HBA.out; have HGA := Lib.hid (HD0.out.trans hc (by simp)); have HAA := Lib.hid (Chg.refl [] wE); clear hc hs)
    | (go_simp; go_at_call 13; (with_reducible refine (HCB.out _ HGA.out).mono ?_); rintro e wF ⟨qo, qc, rfl, hc, hs⟩; have hcvB := cvp hs HLB.out HSB.out HBB.out; have HGB := Lib.hid (HGA.out.trans hc (by simp)); have HAB := Lib.hid hc; have HBB2 := Lib.hid (Chg.refl [] wF); clear hc hs)
    | (go_simp; go_at_call 13; (with_reducible refine (HCC.out _ HGB.out).mono ?_); rintro e wG ⟨ro, rc, rfl, hc, hs⟩; have hcvC := cvp hs HLC.out HSC.out HBC.out; have HGC := Lib.hid (HGB.out.trans hc (by simp)); have HAC := Lib.hid (HAB.out.trans hc (by simp)); have HBC2 := Lib.hid hc; have HCC2 := Lib.hid (Chg.refl [] wG); clear hc hs))
  all_goals
    go_wp2
    go_ret
    exact ⟨rfl, (HC.out.trans HGC.out (by simp)).below (Nat.le_refl _) (by simp)⟩

end Go.Proofs.YtndbgemdklnmlaaDoor
