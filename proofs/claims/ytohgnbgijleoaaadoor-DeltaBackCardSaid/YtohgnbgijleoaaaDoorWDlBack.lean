/- The walk of the statement DeltaBack. -/
import Derived.Test.YtohgnbgijleoaaaDoorDr
import Derived.Test.YtohgnbgijleoaaaDoorDg
import Derived.Deep.RegionLaw
namespace Go.Proofs.YtohgnbgijleoaaaDoor
open Go.RowKit
set_option linter.unusedVariables false
set_option linter.unusedSimpArgs false

theorem encD12_len {k : Nat} (hk : 1 ≤ k ∧ k ≤ 4) {L : List V} (hl : L.length ≤ 60) (hok : ∀ v ∈ L, okV k v) : (encD12 k L).length ≤ 20000 := by
  unfold encD12
  split
  · rename_i h1
    subst h1
    have := encP_len hk hok
    omega
  · rename_i h1
    have hin := fun v hv => okV_in k (by omega) v (hok v hv)
    split
    · have h1 := intsE_len (L.map fun v => (v.s.size : Int)) (fun x hx => by
        obtain ⟨v, hv, rfl⟩ := List.mem_map.1 hx
        have := (hin v hv).2
        unfold In64; omega)
      have h2 := txt12_len L (fun v hv => (hin v hv).2)
      rw [List.length_map] at h1
      rw [List.length_append]
      omega
    · have h1 := intsE_len (L.map V.n) (fun x hx => by
        obtain ⟨v, hv, rfl⟩ := List.mem_map.1 hx
        exact (hin v hv).1)
      rw [List.length_map] at h1
      omega

theorem encD12_bytes (k : Nat) (L : List V) : ∀ x ∈ encD12 k L, x < 2 ^ 8 := by
  unfold encD12
  split
  · exact encP_bytes 1 L
  split
  · intro x hx
    rcases List.mem_append.1 hx with h | h
    · exact intsE_bytes _ x h
    · obtain ⟨v, -, hv⟩ := List.mem_flatMap.1 h
      exact bl_lt _ x hv
  · exact intsE_bytes _

set_option maxRecDepth 100000 in
set_option maxHeartbeats 4000000 in
theorem walk_DeltaBack (a0 : Int) (a1 : Option Addr) (len1 cap1 : Nat) (l1 : List V) (w : World) (hT : Laid w) (w0 : (Lit.int .i64 a0).wf = true) (w1 : SeenV w (.slice a1 len1 cap1) l1) (v1 : ∀ v ∈ l1, (Lit.int .i64 v.n).wf = true) :
    Calls Tryd.prog 3 #[.int .i64 a0, .slice a1 len1 cap1] w fun e w' => e = .returned (.bool true) ∧ Below w.heap.size w w' := by
  have HT := Lib.hid hT; have HS := Lib.hid w1; have HV := Lib.hid v1
  have HQ := Lib.hid (fun wx => within12 a0 4 4 wx rfl (by decide) (by decide) w0)
  obtain ⟨K, hK⟩ : ∃ K, K = (a0 % ((4 : Nat) : Int)).toNat := ⟨_, rfl⟩
  have hK4 : K < 4 := by rw [hK]; exact within_lt a0 4 (by decide)
  rw [← hK] at HQ
  clear hT w1 v1 w0 hK
  go_enter Tryd.func3, Tryd.ntmps3
  go_wp2_with fail
  refine (known12_any _).mono ?_
  rintro e wA ⟨rfl, hk⟩
  have HKA := Lib.hid hk
  clear hk
  go_wp2_with fail
  refine (HQ.out _).mono ?_
  rintro e wB ⟨rfl, rfl⟩
  go_wp2_with fail
  obtain ⟨k, hk⟩ : ∃ k, k = K + 1 := ⟨_, rfl⟩
  have hk4 : 1 ≤ k ∧ k ≤ 4 := by omega
  rw [show (1 : Int) + (K : Int) = (k : Int) by omega]
  refine (all11_any k hk4 _ l1 wA (HS.out.keep HKA.out) HV.out).mono ?_
  rintro e wB ⟨x, rfl, hc, ho⟩
  obtain ⟨lo, lc, rfl⟩ := own_shape ho
  have HOK := Lib.hid (allV_ok k l1 HV.out)
  have hL60 := allV_len k l1
  obtain ⟨L, hL⟩ : ∃ L, L = allV k l1 := ⟨_, rfl⟩
  rw [← hL] at ho HOK hL60 ⊢
  obtain ⟨n, hn⟩ : ∃ n, n = L.length := ⟨_, rfl⟩
  rw [← hn] at ho hL60 ⊢
  have HN := Lib.hid hn
  have HKB := Lib.hid (HKA.out.trans hc (by simp))
  have HL := Lib.hid (show SeenV wB (.slice lo n lc) L from SeenK.own V.cs_len ho hn.symm)
  have hsz : ∀ v ∈ L, v.s.size ≤ 100 := fun v hv => okV_size hk4 (HOK.out v hv)
  have HE1 := Lib.hid (fun wx (hT : Laid wx) (hs : SeenV wx (.slice lo n lc) L) => encode12_any k hk4 _ L wx hT hs (by omega) HOK.out)
  have HE2 := Lib.hid (fun wx (hs : SeenV wx (.slice lo n lc) L) => rencode12_any k hk4 _ L wx hs (by omega) HOK.out)
  have HD := Lib.hid (dec12_back k hk4 L (by omega) HOK.out)
  have HLE := Lib.hid (encD12_len hk4 (by omega) HOK.out)
  have HEB := Lib.hid (encD12_bytes k L)
  obtain ⟨E, hE⟩ : ∃ E, E = encD12 k L := ⟨_, rfl⟩
  rw [← hE] at HD HLE HEB HE1 HE2
  rw [← hn] at HD
  obtain ⟨b, hb⟩ : ∃ b, b = E.length := ⟨_, rfl⟩
  rw [← hb] at HLE
  have hble := HLE.out
  have HBL := Lib.hid hb
  have HENC := Lib.hid (show ∀ wx, Chg [] wB wx → Calls Tryd.prog 10 #[.int .i64 (k : Int), .slice lo n lc] wx fun e w' => ∃ bo bc, e = .returned (.slice bo b bc) ∧ Chg [] wx w' ∧ Seen w' (.slice bo b bc) (nv .u8 E) from fun wx hs => by
    refine (HE1.out wx (HT.out.keep (HKB.out.trans hs (by simp))) (HL.out.keep hs)).mono ?_
    rintro e w' ⟨bv, rfl, hk, ho⟩
    rw [← HBL.out] at ho
    obtain ⟨bo, bc, rfl⟩ := own_shape ho
    exact ⟨bo, bc, rfl, hk, (reads_of_own ho).seen⟩)
  have HREF := Lib.hid (show ∀ wx, Chg [] wB wx → Calls Tryd.prog 12 #[.int .i64 (k : Int), .slice lo n lc] wx fun e w' => ∃ bo bc, e = .returned (.slice bo b bc) ∧ Chg [] wx w' ∧ Seen w' (.slice bo b bc) (nv .u8 E) from fun wx hs => by
    refine (HE2.out wx (HL.out.keep hs)).mono ?_
    rintro e w' ⟨bv, rfl, hk, ho⟩
    rw [← HBL.out] at ho
    obtain ⟨bo, bc, rfl⟩ := own_shape ho
    exact ⟨bo, bc, rfl, hk, (reads_of_own ho).seen⟩)
  have HDEC := Lib.hid (show ∀ wx bv, Chg [] wB wx → Seen wx bv (nv .u8 E) → Calls Tryd.prog 11 #[.int .i64 (k : Int), bv, .int .i64 (n : Int)] wx fun e w' => ∃ xo xc, e = .returned (.tuple #[.slice xo n xc, .int .i64 0]) ∧ Chg [] wx w' ∧ SeenV w' (.slice xo n xc) L from fun wx bv hc hs => by
    have HDD := ddecode_any (k : Int) (n : Int) bv E wx (wf64_of _ (by omega)) (wf64_of _ (by omega)) (HT.out.keep (HKB.out.trans hc (by simp))) hs HEB.out (by have := HBL.out; omega)
    unfold DDecOut DDecR at HDD
    rw [HD.out] at HDD
    refine HDD.mono ?_
    rintro e w' ⟨xv, rfl, hk, ho⟩
    have ho : w'.ownsRow wx.heap.size 39 2 xv n (L.flatMap V.cs) := by rw [HN.out]; exact ho
    obtain ⟨xo, xc, rfl⟩ := own_shape ho
    exact ⟨xo, xc, rfl, hk, SeenK.own V.cs_len ho HN.out.symm⟩)
  clear hk hc ho hE hn hb hL HQ HKA HS HV hsz HE1 HE2 HLE
  go_wp2_with fail
  refine (HENC.out wB (Chg.refl _ _)).mono ?_
  rintro e wC ⟨bo, bc, rfl, hk, hs⟩
  have HKC := Lib.hid hk; have HB := Lib.hid hs
  clear hk hs
  go_wp2_with fail
  refine (HDEC.out wC _ HKC.out HB.out).mono ?_
  rintro e wD ⟨xo, xc, rfl, hk, hs⟩
  have HKD := Lib.hid hk
  have HX := Lib.hid hs
  have HBD := Lib.hid (HB.out.keep hk)
  have HLD := Lib.hid ((HL.out.keep HKC.out).keep hk)
  have HBWD := Lib.hid (HKC.out.trans hk (by simp))
  clear hk hs
  obtain ⟨sE, hsE⟩ : ∃ s, s = str E := ⟨_, rfl⟩
  have HSE := Lib.hid hsE
  clear hsE
  have hcv := cvp HBD.out HBL.out HSE.out HEB.out
  have HIN := Lib.hid (show ∀ wx, Chg [] wD wx → Calls Tryd.prog 13 #[.slice xo n xc, .slice lo n lc] wx fun e w' => e = .returned (.bool true) ∧ Chg [] wx w' from fun wx hk =>
    same11_any _ _ L wx (HX.out.keep hk) (HLD.out.keep hk))
  have hee : (sE.toList == sE.toList) = true := by simp
  go_upto_region 7 with fail
  have HSS := Lib.hid (show ∀ w', Chg [] wD w' → (convert 26 9 (.slice bo b bc)).run Tryd.prog w' = .ok (.string sE) w' from fun w' hk => hcv w' (Lib.hid hk))
  clear hcv
  refine wp_region_held_drew (S := (fun w' => (convert 26 9 (.slice bo b bc)).run Tryd.prog w' = .ok (.string sE) w')) (by kernel_rfl) (HSS.out _ (Chg.refl _ _).drew) (fun hHeld => ?_)
  refine wpAnyH_take (i := 0) (oi := _) (v := ?_) rfl (by kernel_rfl) (by kernel_rfl) (by kernel_rfl) (fun _ _ _ h => h) (Or.inl ⟨by rfl, ?_⟩) (by assumption) ?_
  rotate_left
  · intro w hSw; (try dsimp only at hSw); go_simp; (try with_reducible rfl)
  try simp only [List.getElem_toArray, List.getElem_cons_succ, List.getElem_cons_zero, Act.put, List.setIfInBounds_toArray, List.set_cons_zero, List.set_cons_succ]
  refine wpAnyH_take (i := 1) (oi := _) (v := ?_) rfl (by kernel_rfl) (by kernel_rfl) (by kernel_rfl) (fun _ _ _ h => h) (Or.inl ⟨by rfl, ?_⟩) (by assumption) ?_
  rotate_left
  · intro w hSw; (try dsimp only at hSw); go_simp; (try with_reducible rfl)
  try simp only [List.getElem_toArray, List.getElem_cons_succ, List.getElem_cons_zero, Act.put, List.setIfInBounds_toArray, List.set_cons_zero, List.set_cons_succ]
  refine wpAnyH_take (i := 2) (oi := _) (v := ?_) rfl (by kernel_rfl) (by kernel_rfl) (by kernel_rfl) (fun _ _ _ h => h) (Or.inl ⟨by rfl, ?_⟩) (by assumption) ?_
  rotate_left
  · intro w hSw; (try dsimp only at hSw); go_simp; (try with_reducible rfl)
  try simp only [List.getElem_toArray, List.getElem_cons_succ, List.getElem_cons_zero, Act.put, List.setIfInBounds_toArray, List.set_cons_zero, List.set_cons_succ]
  refine wpAnyH_take (i := 3) (oi := _) (v := ?_) rfl (by kernel_rfl) (by kernel_rfl) (by kernel_rfl) (fun _ _ _ h => h) (Or.inl ⟨by rfl, ?_⟩) (by assumption) ?_
  rotate_left
  · intro w hSw; (try dsimp only at hSw); go_simp; (try with_reducible rfl)
  try simp only [List.getElem_toArray, List.getElem_cons_succ, List.getElem_cons_zero, Act.put, List.setIfInBounds_toArray, List.set_cons_zero, List.set_cons_succ]
  refine wpAnyH_ready (rs := [4]) (by kernel_rfl) (by simp) ?_
  refine AllReadyH.cons (o := _) rfl (fun K hK => ?_) AllReadyH.nil
  go_simp
  go_at_call 12
  refine (HREF.out _ (HBWD.out.trans (Chg.refl [] wD).drew (by simp))).mono ?_
  rintro e w5 ⟨ro, rc, rfl, hk5, hs5⟩
  have HC5 : Hid (Chg [] wD w5) := Lib.hid ((Chg.refl [] wD).drew.trans hk5 (by simp))
  have hcv5 := cvp hs5 HBL.out HSE.out HEB.out w5 (Lib.hid (Chg.refl [] w5))
  clear hk5 hs5
  refine hK.out _ _ (HSS.out _ HC5.out) (fun hHeld5 => ?_)
  clear hK K
  try simp only [Act.put, List.setIfInBounds_toArray, List.set_cons_zero, List.set_cons_succ]
  refine wpAnyH_ready (rs := [5]) (by kernel_rfl) (by simp) ?_
  refine AllReadyH.cons (o := _) rfl (fun K hK => ?_) AllReadyH.nil
  go_simp
  refine hK.out _ _ (HSS.out _ HC5.out) (fun hHeld6 => ?_)
  clear hK K
  try simp only [Act.put, List.setIfInBounds_toArray, List.set_cons_zero, List.set_cons_succ]
  refine wpAnyH_take (i := 6) (oi := _) (v := ?_) rfl (by kernel_rfl) (by kernel_rfl) (by kernel_rfl) (fun _ _ _ h => h) (Or.inl ⟨by rfl, ?_⟩) (by assumption) ?_
  rotate_left
  · intro w hSw; (try dsimp only at hSw); go_simp; (try with_reducible rfl)
  try simp only [List.getElem_toArray, List.getElem_cons_succ, List.getElem_cons_zero, Act.put, List.setIfInBounds_toArray, List.set_cons_zero, List.set_cons_succ]
  refine wpAnyH_take (i := 7) (oi := _) (v := ?_) rfl (by kernel_rfl) (by kernel_rfl) (by kernel_rfl) (fun _ _ _ h => h) (Or.inl ⟨by rfl, ?_⟩) (by assumption) ?_
  rotate_left
  · intro w hSw; (try dsimp only at hSw); go_simp; (try with_reducible rfl)
  try simp only [List.getElem_toArray, List.getElem_cons_succ, List.getElem_cons_zero, Act.put, List.setIfInBounds_toArray, List.set_cons_zero, List.set_cons_succ]
  refine wpAnyH_take (i := 8) (oi := _) (v := ?_) rfl (by kernel_rfl) (by kernel_rfl) (by kernel_rfl) (fun _ _ _ h => h) (Or.inl ⟨by rfl, ?_⟩) (by assumption) ?_
  rotate_left
  · intro w hSw; (try dsimp only at hSw); go_simp; (try with_reducible rfl)
  try simp only [List.getElem_toArray, List.getElem_cons_succ, List.getElem_cons_zero, Act.put, List.setIfInBounds_toArray, List.set_cons_zero, List.set_cons_succ]
  refine wpAnyH_take (i := 9) (oi := _) (v := ?_) rfl (by kernel_rfl) (by kernel_rfl) (by kernel_rfl) (fun _ _ _ h => h) (Or.inl ⟨by rfl, ?_⟩) (by assumption) ?_
  rotate_left
  · intro w hSw; (try dsimp only at hSw); go_simp; (try with_reducible rfl)
  try simp only [List.getElem_toArray, List.getElem_cons_succ, List.getElem_cons_zero, Act.put, List.setIfInBounds_toArray, List.set_cons_zero, List.set_cons_succ]
  refine wpAnyH_take (i := 10) (oi := _) (v := ?_) rfl (by kernel_rfl) (by kernel_rfl) (by kernel_rfl) (fun _ _ _ h => h) (Or.inl ⟨by rfl, ?_⟩) (by assumption) ?_
  rotate_left
  · intro w hSw; (try dsimp only at hSw); go_simp; (try with_reducible rfl)
  try simp only [List.getElem_toArray, List.getElem_cons_succ, List.getElem_cons_zero, Act.put, List.setIfInBounds_toArray, List.set_cons_zero, List.set_cons_succ]
  refine wpAnyH_take (i := 11) (oi := _) (v := ?_) rfl (by kernel_rfl) (by kernel_rfl) (by kernel_rfl) (fun _ _ _ h => h) (Or.inl ⟨by rfl, ?_⟩) (by assumption) ?_
  rotate_left
  · intro w hSw; (try dsimp only at hSw); go_simp; (try with_reducible rfl)
  try simp only [List.getElem_toArray, List.getElem_cons_succ, List.getElem_cons_zero, Act.put, List.setIfInBounds_toArray, List.set_cons_zero, List.set_cons_succ]
  refine wpAnyH_take (i := 12) (oi := _) (v := ?_) rfl (by kernel_rfl) (by kernel_rfl) (by kernel_rfl) (fun _ _ _ h => h) (Or.inl ⟨by rfl, ?_⟩) (by assumption) ?_
  rotate_left
  · intro w hSw; (try dsimp only at hSw); go_simp; (try with_reducible rfl)
  try simp only [List.getElem_toArray, List.getElem_cons_succ, List.getElem_cons_zero, Act.put, List.setIfInBounds_toArray, List.set_cons_zero, List.set_cons_succ]
  refine wpAnyH_take (i := 13) (oi := _) (v := ?_) rfl (by kernel_rfl) (by kernel_rfl) (by kernel_rfl) (fun _ _ _ h => h) (Or.inl ⟨by rfl, ?_⟩) (by assumption) ?_
  rotate_left
  · intro w hSw; (try dsimp only at hSw); go_simp; (try with_reducible rfl)
  try simp only [List.getElem_toArray, List.getElem_cons_succ, List.getElem_cons_zero, Act.put, List.setIfInBounds_toArray, List.set_cons_zero, List.set_cons_succ]
  refine wpAnyH_ready (rs := [14]) (by kernel_rfl) (by simp) ?_
  refine AllReadyH.cons (o := _) rfl (fun K hK => ?_) AllReadyH.nil
  go_simp
  go_at_call 13
  refine (HIN.out _ HC5.out).mono ?_
  rintro e w6 ⟨rfl, hk6⟩
  have HC6 : Hid (Chg [] wD w6) := Lib.hid (HC5.out.trans hk6 (by simp))
  clear hk6
  refine hK.out _ _ (HSS.out _ HC6.out) (fun hHeld7 => ?_)
  clear hK K
  try simp only [Act.put, List.setIfInBounds_toArray, List.set_cons_zero, List.set_cons_succ]
  refine wpAnyH_take (i := 15) (oi := _) (v := ?_) rfl (by kernel_rfl) (by kernel_rfl) (by kernel_rfl) (fun _ _ _ h => h) (Or.inl ⟨by rfl, ?_⟩) (by assumption) ?_
  rotate_left
  · intro w hSw; (try dsimp only at hSw); go_simp; (try with_reducible rfl)
  try simp only [List.getElem_toArray, List.getElem_cons_succ, List.getElem_cons_zero, Act.put, List.setIfInBounds_toArray, List.set_cons_zero, List.set_cons_succ]
  refine wpAnyH_take (i := 16) (oi := _) (v := ?_) rfl (by kernel_rfl) (by kernel_rfl) (by kernel_rfl) (fun _ _ _ h => h) (Or.inl ⟨by rfl, ?_⟩) (by assumption) ?_
  rotate_left
  · intro w hSw; (try dsimp only at hSw); go_simp; (try with_reducible rfl)
  try simp only [List.getElem_toArray, List.getElem_cons_succ, List.getElem_cons_zero, Act.put, List.setIfInBounds_toArray, List.set_cons_zero, List.set_cons_succ]
  refine wpAnyH_done (by kernel_rfl) ?_ _
  go_wp2
  go_ret
  exact ⟨by simp, (HKB.out.trans (HKC.out.trans (HKD.out.trans HC6.out (by simp)) (by simp)) (by simp)).below (Nat.le_refl _) (by simp)⟩

end Go.Proofs.YtohgnbgijleoaaaDoor
