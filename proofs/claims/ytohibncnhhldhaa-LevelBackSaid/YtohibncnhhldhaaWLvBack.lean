/- The walk of the statement LevelBack. -/
import Derived.Test.YtohibncnhhldhaaKt
import Derived.Deep.RegionLaw
namespace Go.Proofs.Ytohibncnhhldhaa
open Go.RowKit
set_option linter.unusedVariables false
set_option linter.unusedSimpArgs false

set_option maxRecDepth 100000 in
set_option maxHeartbeats 4000000 in
theorem walk_LevelBack (a0 : Option Addr) (len0 cap0 : Nat) (z0 : List Int) (a1 : Int) (w : World) (w0 : IsRow .i64 w a0 len0 cap0 z0) (w1 : (Lit.int .i64 a1).wf = true) :
    Calls Try.prog 12 #[.slice a0 len0 cap0, .int .i64 a1] w fun e w' => e = .returned (.bool true) ∧ Below w.heap.size w w' := by
  obtain ⟨ns, hS, hlen, hwf⟩ := w0.seenI
  have HS := Lib.hid hS; have HWF := Lib.hid hwf; have W1 := Lib.hid w1
  obtain ⟨W, hW⟩ : ∃ W, W = (a1 % (17 : Nat)).toNat := ⟨_, rfl⟩
  have hW2 : W < 17 := by rw [hW]; exact within_lt a1 17 (by decide)
  have HQ := Lib.hid (fun wx => w10_int a1 17 17 wx rfl (by decide) (by decide) W1.out)
  rw [← hW] at HQ
  clear w0 w1 hS hwf hlen hW
  go_enter Try.func12, Try.ntmps12
  go_wp2_with fail
  refine (known10_any _).mono ?_
  rintro e wA ⟨rfl, hk⟩
  have HK := Lib.hid hk
  clear hk
  go_wp2_with fail
  refine (HQ.out _).mono ?_
  rintro e wB ⟨rfl, rfl⟩
  go_wp2_with fail
  refine (levels_any _ ns W wA (HS.out.keep HK.out) (by omega) HWF.out).mono ?_
  rintro e wB ⟨lv, L, rfl, hL3, hLx, hk, ho⟩
  obtain ⟨lo, lc, rfl⟩ := own_shape ho
  have HKB := Lib.hid (HK.out.trans hk (by simp)); have HL := Lib.hid ((reads_of_own ho).seen); have HLX := Lib.hid hLx
  have HD := Lib.hid (decZ_back L W (by omega) (by omega) hLx)
  have hel := encZ_len W (by omega) L (by omega)
  have HEB := Lib.hid (encZ_bytes W L)
  have HE1 := Lib.hid (fun wx (hs : Seen wx (.slice lo L.length lc) (nv .i64 L)) => encodeZ_any _ L W wx hs (by omega) hLx (by omega))
  have HE2 := Lib.hid (fun wx (hs : Seen wx (.slice lo L.length lc) (nv .i64 L)) => rencodeZ_any _ L W wx hs (by omega) hLx (by omega))
  obtain ⟨E, hE⟩ : ∃ E, E = encZ W L := ⟨_, rfl⟩
  rw [← hE] at HD hel HEB HE1 HE2
  obtain ⟨n, hn⟩ : ∃ n, n = L.length := ⟨_, rfl⟩
  rw [← hn] at HL HD hel HE1 HE2 hL3 ⊢
  have HN := Lib.hid hn
  obtain ⟨b, hb⟩ : ∃ b, b = E.length := ⟨_, rfl⟩
  rw [← hb] at hel
  have HBL := Lib.hid hb
  have HENC := Lib.hid (show ∀ wx, Seen wx (.slice lo n lc) (nv .i64 L) → Calls Try.prog 52 #[.slice lo n lc, .int .i64 (W : Int)] wx fun e w' => ∃ bo bc, e = .returned (.slice bo b bc) ∧ Chg [] wx w' ∧ Seen w' (.slice bo b bc) (nv .u8 E) from fun wx hs => by
    refine (HE1.out wx hs).mono ?_
    rintro e w' ⟨bv, rfl, hk, ho⟩
    rw [← HBL.out] at ho
    obtain ⟨bo, bc, rfl⟩ := own_shape ho
    exact ⟨bo, bc, rfl, hk, (reads_of_own ho).seen⟩)
  have HREF := Lib.hid (show ∀ wx, Seen wx (.slice lo n lc) (nv .i64 L) → Calls Try.prog 54 #[.slice lo n lc, .int .i64 (W : Int)] wx fun e w' => ∃ bo bc, e = .returned (.slice bo b bc) ∧ Chg [] wx w' ∧ Seen w' (.slice bo b bc) (nv .u8 E) from fun wx hs => by
    refine (HE2.out wx hs).mono ?_
    rintro e w' ⟨bv, rfl, hk, ho⟩
    rw [← HBL.out] at ho
    obtain ⟨bo, bc, rfl⟩ := own_shape ho
    exact ⟨bo, bc, rfl, hk, (reads_of_own ho).seen⟩)
  have HDEC := Lib.hid (show ∀ wx bv, Seen wx bv (nv .u8 E) → Calls Try.prog 53 #[bv, .int .i64 (n : Int), .int .i64 (W : Int)] wx fun e w' => ∃ xo xc, e = .returned (.tuple #[.slice xo n xc, .int .i64 0]) ∧ Chg [] wx w' ∧ Seen w' (.slice xo n xc) (nv .i64 L) from fun wx bv hs => by
    refine (decode_any bv E (n : Int) (W : Int) wx hs HEB.out).mono ?_
    rintro e w' ⟨xv, rfl, hk, ho⟩
    rw [HD.out] at ho ⊢
    have ho : w'.ownsRow wx.heap.size 3 1 xv n (nv .i64 L) := by rw [HN.out]; exact ho
    obtain ⟨xo, xc, rfl⟩ := own_shape ho
    exact ⟨xo, xc, rfl, hk, (reads_of_own ho).seen⟩)
  clear hk ho hLx hE hn hb
  go_wp2_with fail
  refine (HENC.out wB HL.out).mono ?_
  rintro e wC ⟨bo, bc, rfl, hk, hs⟩
  have HKC := Lib.hid hk; have HB := Lib.hid hs
  clear hk hs
  go_wp2_with fail
  refine (HDEC.out wC _ HB.out).mono ?_
  rintro e wD ⟨xo, xc, rfl, hk, hs⟩
  have HKD := Lib.hid hk
  have HX := Lib.hid hs
  have HBD := Lib.hid (HB.out.keep hk)
  have HLD := Lib.hid ((HL.out.keep HKC.out).keep hk)
  clear hk hs
  obtain ⟨sE, hsE⟩ : ∃ s, s = str E := ⟨_, rfl⟩
  have HSE := Lib.hid hsE
  clear hsE
  have hcv := cvp HBD.out HBL.out HSE.out HEB.out
  have HQ1 := Lib.hid (Chg.refl [] wD)
  have HQ2 := Lib.hid (Chg.refl [] wD).drew
  have HIN := Lib.hid (show ∀ wx, Chg [] wD wx → Calls Try.prog 55 #[.slice xo n xc, .slice lo n lc] wx fun e w' => e = .returned (.bool true) ∧ Chg [] wx w' from fun wx hk => by
    refine (ints10_any _ _ L L wx (HX.out.keep hk) (HLD.out.keep hk) (by rw [← HN.out]; omega) (by rw [← HN.out]; omega)).mono ?_
    rintro e w' ⟨⟨r, rfl, hr⟩, hc⟩
    rw [hr.2 rfl]
    exact ⟨rfl, hc⟩)
  have hee : (sE.toList == sE.toList) = true := by simp
  go_upto_region 7 with fail
  have HSS := Lib.hid (show ∀ w', Chg [] wD w' → (convert 65 9 (.slice bo b bc)).run Try.prog w' = .ok (.string sE) w' from fun w' hk => hcv w' (Lib.hid hk))
  clear hcv HQ1 HQ2
  refine wp_region_held_drew (S := (fun w' => (convert 65 9 (.slice bo b bc)).run Try.prog w' = .ok (.string sE) w')) (by kernel_rfl) (HSS.out _ (Chg.refl _ _).drew) (fun hHeld => ?_)
  refine wpAnyH_take (i := 0) (oi := _) (v := ?_) rfl (by kernel_rfl) (by kernel_rfl) (by kernel_rfl) (fun _ _ _ h => h) (Or.inl ⟨by rfl, ?_⟩) (by assumption) ?_
  rotate_left
  · intro w hSw; (try dsimp only at hSw); go_simp; (try with_reducible rfl)
  try simp only [List.getElem_toArray, List.getElem_cons_succ, List.getElem_cons_zero, Act.put, List.setIfInBounds_toArray, List.set_cons_zero, List.set_cons_succ]
  refine wpAnyH_take (i := 1) (oi := _) (v := ?_) rfl (by kernel_rfl) (by kernel_rfl) (by kernel_rfl) (fun _ _ _ h => h) (Or.inl ⟨by rfl, ?_⟩) (by assumption) ?_
  rotate_left
  · intro w hSw; (try dsimp only at hSw); go_simp; (try with_reducible rfl)
  try simp only [List.getElem_toArray, List.getElem_cons_succ, List.getElem_cons_zero, Act.put, List.setIfInBounds_toArray, List.set_cons_zero, List.set_cons_succ]
  refine wpAnyH_take (i := 2) (oi := _) (v := ?_) rfl (by kernel_rfl) (by kernel_rfl) (by kernel_rfl) (fun _ _ _ h => h) (Or.inl ⟨by rfl, ?_⟩) (by assumption) ?_
  rotate_left
  · intro w hSw; (try dsimp only at hSw); go_simp; (try with_reducible rfl)
  try simp only [List.getElem_toArray, List.getElem_cons_succ, List.getElem_cons_zero, Act.put, List.setIfInBounds_toArray, List.set_cons_zero, List.set_cons_succ]
  refine wpAnyH_take (i := 3) (oi := _) (v := ?_) rfl (by kernel_rfl) (by kernel_rfl) (by kernel_rfl) (fun _ _ _ h => h) (Or.inl ⟨by rfl, ?_⟩) (by assumption) ?_
  rotate_left
  · intro w hSw; (try dsimp only at hSw); go_simp; (try with_reducible rfl)
  try simp only [List.getElem_toArray, List.getElem_cons_succ, List.getElem_cons_zero, Act.put, List.setIfInBounds_toArray, List.set_cons_zero, List.set_cons_succ]
  refine wpAnyH_ready (rs := [4]) (by kernel_rfl) (by simp) ?_
  refine AllReadyH.cons (o := _) rfl (fun K hK => ?_) AllReadyH.nil
  go_simp
  go_at_call 54
  refine (HREF.out _ (HLD.out.keep (Chg.refl [] wD).drew)).mono ?_
  rintro e w5 ⟨ro, rc, rfl, hk5, hs5⟩
  have HC5 : Hid (Chg [] wD w5) := Lib.hid ((Chg.refl [] wD).drew.trans hk5 (by simp))
  have hcv5 := cvp hs5 HBL.out HSE.out HEB.out w5 (Lib.hid (Chg.refl [] w5))
  clear hk5 hs5
  refine hK.out _ _ (HSS.out _ HC5.out) (fun hHeld5 => ?_)
  clear hK K
  try simp only [Act.put, List.setIfInBounds_toArray, List.set_cons_zero, List.set_cons_succ]
  refine wpAnyH_ready (rs := [5]) (by kernel_rfl) (by simp) ?_
  refine AllReadyH.cons (o := _) rfl (fun K hK => ?_) AllReadyH.nil
  go_simp
  refine hK.out _ _ (HSS.out _ HC5.out) (fun hHeld6 => ?_)
  clear hK K
  try simp only [Act.put, List.setIfInBounds_toArray, List.set_cons_zero, List.set_cons_succ]
  refine wpAnyH_take (i := 6) (oi := _) (v := ?_) rfl (by kernel_rfl) (by kernel_rfl) (by kernel_rfl) (fun _ _ _ h => h) (Or.inl ⟨by rfl, ?_⟩) (by assumption) ?_
  rotate_left
  · intro w hSw; (try dsimp only at hSw); go_simp; (try with_reducible rfl)
  try simp only [List.getElem_toArray, List.getElem_cons_succ, List.getElem_cons_zero, Act.put, List.setIfInBounds_toArray, List.set_cons_zero, List.set_cons_succ]
  refine wpAnyH_take (i := 7) (oi := _) (v := ?_) rfl (by kernel_rfl) (by kernel_rfl) (by kernel_rfl) (fun _ _ _ h => h) (Or.inl ⟨by rfl, ?_⟩) (by assumption) ?_
  rotate_left
  · intro w hSw; (try dsimp only at hSw); go_simp; (try with_reducible rfl)
  try simp only [List.getElem_toArray, List.getElem_cons_succ, List.getElem_cons_zero, Act.put, List.setIfInBounds_toArray, List.set_cons_zero, List.set_cons_succ]
  refine wpAnyH_take (i := 8) (oi := _) (v := ?_) rfl (by kernel_rfl) (by kernel_rfl) (by kernel_rfl) (fun _ _ _ h => h) (Or.inl ⟨by rfl, ?_⟩) (by assumption) ?_
  rotate_left
  · intro w hSw; (try dsimp only at hSw); go_simp; (try with_reducible rfl)
  try simp only [List.getElem_toArray, List.getElem_cons_succ, List.getElem_cons_zero, Act.put, List.setIfInBounds_toArray, List.set_cons_zero, List.set_cons_succ]
  refine wpAnyH_take (i := 9) (oi := _) (v := ?_) rfl (by kernel_rfl) (by kernel_rfl) (by kernel_rfl) (fun _ _ _ h => h) (Or.inl ⟨by rfl, ?_⟩) (by assumption) ?_
  rotate_left
  · intro w hSw; (try dsimp only at hSw); go_simp; (try with_reducible rfl)
  try simp only [List.getElem_toArray, List.getElem_cons_succ, List.getElem_cons_zero, Act.put, List.setIfInBounds_toArray, List.set_cons_zero, List.set_cons_succ]
  refine wpAnyH_take (i := 10) (oi := _) (v := ?_) rfl (by kernel_rfl) (by kernel_rfl) (by kernel_rfl) (fun _ _ _ h => h) (Or.inl ⟨by rfl, ?_⟩) (by assumption) ?_
  rotate_left
  · intro w hSw; (try dsimp only at hSw); go_simp; (try with_reducible rfl)
  try simp only [List.getElem_toArray, List.getElem_cons_succ, List.getElem_cons_zero, Act.put, List.setIfInBounds_toArray, List.set_cons_zero, List.set_cons_succ]
  refine wpAnyH_take (i := 11) (oi := _) (v := ?_) rfl (by kernel_rfl) (by kernel_rfl) (by kernel_rfl) (fun _ _ _ h => h) (Or.inl ⟨by rfl, ?_⟩) (by assumption) ?_
  rotate_left
  · intro w hSw; (try dsimp only at hSw); go_simp; (try with_reducible rfl)
  try simp only [List.getElem_toArray, List.getElem_cons_succ, List.getElem_cons_zero, Act.put, List.setIfInBounds_toArray, List.set_cons_zero, List.set_cons_succ]
  refine wpAnyH_take (i := 12) (oi := _) (v := ?_) rfl (by kernel_rfl) (by kernel_rfl) (by kernel_rfl) (fun _ _ _ h => h) (Or.inl ⟨by rfl, ?_⟩) (by assumption) ?_
  rotate_left
  · intro w hSw; (try dsimp only at hSw); go_simp; (try with_reducible rfl)
  try simp only [List.getElem_toArray, List.getElem_cons_succ, List.getElem_cons_zero, Act.put, List.setIfInBounds_toArray, List.set_cons_zero, List.set_cons_succ]
  refine wpAnyH_take (i := 13) (oi := _) (v := ?_) rfl (by kernel_rfl) (by kernel_rfl) (by kernel_rfl) (fun _ _ _ h => h) (Or.inl ⟨by rfl, ?_⟩) (by assumption) ?_
  rotate_left
  · intro w hSw; (try dsimp only at hSw); go_simp; (try with_reducible rfl)
  try simp only [List.getElem_toArray, List.getElem_cons_succ, List.getElem_cons_zero, Act.put, List.setIfInBounds_toArray, List.set_cons_zero, List.set_cons_succ]
  refine wpAnyH_ready (rs := [14]) (by kernel_rfl) (by simp) ?_
  refine AllReadyH.cons (o := _) rfl (fun K hK => ?_) AllReadyH.nil
  go_simp
  go_at_call 55
  refine (HIN.out _ HC5.out).mono ?_
  rintro e w6 ⟨rfl, hk6⟩
  have HC6 : Hid (Chg [] wD w6) := Lib.hid (HC5.out.trans hk6 (by simp))
  clear hk6
  refine hK.out _ _ (HSS.out _ HC6.out) (fun hHeld7 => ?_)
  clear hK K
  try simp only [Act.put, List.setIfInBounds_toArray, List.set_cons_zero, List.set_cons_succ]
  refine wpAnyH_take (i := 15) (oi := _) (v := ?_) rfl (by kernel_rfl) (by kernel_rfl) (by kernel_rfl) (fun _ _ _ h => h) (Or.inl ⟨by rfl, ?_⟩) (by assumption) ?_
  rotate_left
  · intro w hSw; (try dsimp only at hSw); go_simp; (try with_reducible rfl)
  try simp only [List.getElem_toArray, List.getElem_cons_succ, List.getElem_cons_zero, Act.put, List.setIfInBounds_toArray, List.set_cons_zero, List.set_cons_succ]
  refine wpAnyH_take (i := 16) (oi := _) (v := ?_) rfl (by kernel_rfl) (by kernel_rfl) (by kernel_rfl) (fun _ _ _ h => h) (Or.inl ⟨by rfl, ?_⟩) (by assumption) ?_
  rotate_left
  · intro w hSw; (try dsimp only at hSw); go_simp; (try with_reducible rfl)
  try simp only [List.getElem_toArray, List.getElem_cons_succ, List.getElem_cons_zero, Act.put, List.setIfInBounds_toArray, List.set_cons_zero, List.set_cons_succ]
  refine wpAnyH_done (by kernel_rfl) ?_ _
  go_wp2
  go_ret
  exact ⟨by simp, (HKB.out.trans (HKC.out.trans (HKD.out.trans HC6.out (by simp)) (by simp)) (by simp)).below (Nat.le_refl _) (by simp)⟩

end Go.Proofs.Ytohibncnhhldhaa
