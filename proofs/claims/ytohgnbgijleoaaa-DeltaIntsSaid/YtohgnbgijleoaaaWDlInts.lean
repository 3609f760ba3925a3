/- The walk of the statement DeltaInts. -/
import Derived.Test.YtohgnbgijleoaaaDg
import Derived.Test.YtohgnbgijleoaaaDh
import Derived.OrdersHeld
import Derived.Deep.RegionHeld3
namespace Go.Proofs.Ytohgnbgijleoaaa
open Go.RowKit
set_option linter.unusedVariables false
set_option linter.unusedSimpArgs false

set_option maxRecDepth 100000 in
set_option maxHeartbeats 8000000 in
theorem walk_DeltaInts (a0 : Option Addr) (len0 cap0 : Nat) (z0 : List Int) (a1 : Option Addr) (len1 cap1 : Nat) (z1 : List Int) (w : World) (w0 : IsRow .i64 w a0 len0 cap0 z0) (w1 : IsRow .u8 w a1 len1 cap1 z1) :
    Calls Try.prog 3 #[.slice a0 len0 cap0, .slice a1 len1 cap1] w fun e w' => e = .returned (.bool true) ∧ Below w.heap.size w w' := by
  obtain ⟨R, hR, rfl, hRl⟩ := w1.u8s
  have HK := Lib.hid (known12_any w)
  have hln := w0.len.2
  unfold maxLen at hln
  have hs0 := w0.seen
  have HWF := Lib.hid w0.wf
  obtain ⟨l, hl⟩ : ∃ l, l = z0.take len0 := ⟨_, rfl⟩
  have HSV := Lib.hid (show Seen w (.slice a0 len0 cap0) (iv l) from by rw [hl]; exact hs0.1)
  have HLN := Lib.hid (show l.length = len0 by rw [hl]; exact hs0.2)
  have HIN := Lib.hid (show ∀ x ∈ l, In64 x from fun x hx => by
    have := wf_i64 (HWF.out x (List.mem_of_mem_take (by rw [← hl]; exact hx)))
    exact this)
  have HSI := Lib.hid (show SeenI w (.slice a0 len0 cap0) l by rw [hl]; exact w0.seenT.1)
  have HR := Lib.hid hR; have HRB := Lib.hid hRl
  clear w0 w1 hs0 hl hR hRl HWF
  by_cases hbig : 150 < len0
  · have d1 : decide ((150 : Int) < (len0 : Int)) = true := by simp; omega
    go_enter Try.func3, Try.ntmps3
    go_wp2_with (first
      | (go_at_call 8; (with_reducible refine HK.out.mono ?_); rintro e wA ⟨rfl, hk⟩; have HKA := Lib.hid hk; clear hk)
      | fail)
    go_ret
    exact ⟨rfl, HKA.out.below (Nat.le_refl _) (by simp)⟩
  have d1 : decide ((150 : Int) < (len0 : Int)) = false := by simp; omega
  by_cases hbig2 : 50 < R.length
  · have d2 : decide ((50 : Int) < (R.length : Int)) = true := by simp; omega
    go_enter Try.func3, Try.ntmps3
    go_wp2_with (first
      | (go_at_call 8; (with_reducible refine HK.out.mono ?_); rintro e wA ⟨rfl, hk⟩; have HKA := Lib.hid hk; clear hk)
      | fail)
    go_ret
    exact ⟨rfl, HKA.out.below (Nat.le_refl _) (by simp)⟩
  have d2 : decide ((50 : Int) < (R.length : Int)) = false := by simp; omega
  obtain ⟨i0, hi, hz0, hz1, hz2⟩ := info_int
  obtain ⟨i8, hi8, hz08, hz18, hz28⟩ := info_u8
  obtain ⟨r, hr⟩ : ∃ r, r = R.length := ⟨_, rfl⟩
  rw [← hr] at hbig2 d2 ⊢
  have HRL := Lib.hid hr
  rw [← hr] at HR
  have HRN := Lib.hid (nv_one .u8 R)
  have HIO := Lib.hid (show ∀ u ∈ iv l, u.oneCell' = true from fun u hu => by
    obtain ⟨x, -, rfl⟩ := List.mem_map.1 hu
    simp [Value.oneCell'])
  have hEl := intsE_len l HIN.out
  rw [HLN.out] at hEl
  have HEB := Lib.hid (intsE_bytes l)
  have HDB := Lib.hid (fun (bv : Value) (wx : World) (hs : Seen wx bv (nv .u8 (intsE l ++ R))) => dread_back bv l R wx hs HRB.out HIN.out (by rw [HLN.out]; omega) (by rw [← HRL.out]; omega))
  have HDI := Lib.hid (fun (bv : Value) (wx : World) (hs : SeenI wx bv l) => dints_any bv l wx hs (by rw [HLN.out]; omega) HIN.out)
  have HRI := Lib.hid (fun (wx : World) (hc : Chg [] w wx) => rints12_any (.slice a0 len0 cap0) l wx (HSI.out.keep hc) (by rw [HLN.out]; omega) HIN.out)
  rw [HLN.out] at HDB
  unfold Made at HDI HRI
  obtain ⟨E, hE⟩ : ∃ E, E = intsE l := ⟨_, rfl⟩
  rw [← hE] at hEl HEB HDB HDI HRI
  obtain ⟨b, hb⟩ : ∃ b, b = E.length := ⟨_, rfl⟩
  rw [← hb] at hEl HDB HDI HRI
  have HBL := Lib.hid hb
  have HEN := Lib.hid (nv_one .u8 E)
  have hxi : (iv l).length = len0 := by rw [iv_length, HLN.out]
  have HXI := Lib.hid hxi
  clear hr hE hb hxi
  go_enter Try.func3, Try.ntmps3
  go_wp2_with (first
    | (go_at_call 8; (with_reducible refine HK.out.mono ?_); rintro e wA ⟨rfl, hk⟩; have HKA := Lib.hid hk; clear hk)
    | (at_builtin; refine wpList_append_reads _ rfl _ _ 22 22 rfl wA.heap.size 3 3 i0 (.int .i64 0) 8 Try.underlying22 Try.underlying22 hi hz0 hz1 hz2 rfl (.slice (some ⟨wA.heap.size, 0, none⟩) 0 0) 0 [] rfl (own_lit wA _ _ rfl (Nat.le_refl _) 3 _ _ 0 1 rfl rfl (by decide)) _ (iv l) rfl (HSV.out.keep (HKA.out.alloc _)) HIO.out ?c1 ?c2 ?c3 ?_)
    | fail)
  case c1 => rw [HXI.out]; unfold maxLen; omega
  case c2 => rw [HXI.out]; omega
  case c3 => simp
  intro v1 w1 hown1 hgrow1
  have HC1 := Lib.hid ((HKA.out.alloc _).grown hgrow1 (fun k hk => .inr (by have := HKA.out.size; simp [Value.ownBlock] at hk; omega)))
  first | rw [HLN.out] at hown1 | rw [HXI.out, Nat.zero_add, List.nil_append] at hown1
  have HL1 := Lib.hid (ownI_seen hown1 HLN.out)
  obtain ⟨lo, lc, rfl⟩ := own_shape hown1
  clear hown1 hgrow1
  go_wp2_with (first
    | (go_at_call 9; (with_reducible refine (HDI.out _ w1 HL1.out).mono ?_); rintro e w2 ⟨bv, rfl, hc2, ho2⟩; obtain ⟨bo, bc, rfl⟩ := own_shape ho2; have HC2 := Lib.hid (HC1.out.trans hc2 (by simp)); have HB2 := Lib.hid (reads_of_own ho2).seen; clear hc2 ho2)
    | (at_builtin; refine wpList_append_reads _ rfl _ _ 23 23 rfl w2.heap.size 5 5 i8 (.int .u8 0) 1 Try.underlying23 Try.underlying23 hi8 hz08 hz18 hz28 rfl (.slice (some ⟨w2.heap.size, 0, none⟩) 0 0) 0 [] rfl (own_lit w2 _ _ rfl (Nat.le_refl _) 5 _ _ 0 1 rfl rfl (by decide)) _ (nv .u8 E) rfl (HB2.out.keep ((Chg.refl [] w2).alloc _)) HEN.out ?c1 ?c2 ?c3 ?_)
    | fail)
  case c1 => rw [nv_length, ← HBL.out]; unfold maxLen; omega
  case c2 => rw [nv_length, ← HBL.out]; omega
  case c3 => simp
  intro v3 w3 hown3 hgrow3
  have HC3 := Lib.hid (((Chg.refl [] w2).alloc _).grown hgrow3 (fun k hk => .inr (by simp [Value.ownBlock] at hk; omega)))
  first | rw [← HBL.out] at hown3 | rw [nv_length, ← HBL.out, Nat.zero_add, List.nil_append] at hown3
  have HO3 := Lib.hid hown3
  obtain ⟨eo, ec, rfl⟩ := own_shape hown3
  have hB3 := HC3.out.size
  clear hown3 hgrow3
  go_wp2_with (first
    | (at_builtin; refine wpList_append_reads _ rfl _ _ 23 23 rfl w2.heap.size 5 5 i8 (.int .u8 0) 1 Try.underlying23 Try.underlying23 hi8 hz08 hz18 hz28 rfl _ _ _ rfl HO3.out _ (nv .u8 R) rfl (HR.out.keep (HC2.out.trans HC3.out (by simp))) HRN.out ?c1 ?c2 hB3 ?_)
    | fail)
  case c1 => rw [nv_length, ← HRL.out]; unfold maxLen; omega
  case c2 => rw [nv_length, ← HRL.out]; omega
  intro v4 w4 hown4 hgrow4
  have HC4 := Lib.hid (HC3.out.grown hgrow4 (fun k hk => .inr (own_ge HO3.out k hk)))
  rw [show nv .u8 E ++ nv .u8 R = nv .u8 (E ++ R) by simp [nv], ← HRL.out] at hown4
  have HO4 := Lib.hid hown4
  have hS4 : Seen w4 v4 (nv .u8 (E ++ R)) := by
    have h := (reads_of_own hown4).seen
    exact h
  obtain ⟨fo, fc, rfl⟩ := own_shape hown4
  have HS4 := Lib.hid hS4
  clear hown4 hgrow4 hS4
  have HB4 := Lib.hid (HB2.out.keep HC4.out)
  go_wp2_with (first
    | (go_at_call 10; (with_reducible refine (HDB.out _ w4 HS4.out).mono ?_); rintro e wD ⟨xv, rfl, hc5, ho5⟩; rw [HLN.out] at ho5; obtain ⟨xo, xc, rfl⟩ := own_shape ho5; have HCD := Lib.hid (HC4.out.trans hc5 (by simp)); have HX := Lib.hid (ownI_seen ho5 HLN.out); have HBD := Lib.hid (HB4.out.keep hc5); clear hc5 ho5)
    | fail)
  have HCWD := Lib.hid (HC2.out.trans HCD.out (by simp))
  obtain ⟨sE, hsE⟩ : ∃ s, s = str E := ⟨_, rfl⟩
  have HSE := Lib.hid hsE
  clear hsE
  have hcv := cvp HBD.out HBL.out HSE.out HEB.out
  have HINT := Lib.hid (show ∀ wx, Chg [] wD wx → Calls Try.prog 12 #[.slice xo len0 xc, .slice a0 len0 cap0] wx fun e w' => e = .returned (.bool true) ∧ Chg [] wx w' from fun wx hk =>
    ints12_any _ _ l wx (HX.out.keep hk) (HSI.out.keep (HCWD.out.trans hk (by simp))))
  have hee : (sE.toList == sE.toList) = true := by simp
  have hbb : ((b : Int) == (b : Int)) = true := by simp
  go_upto_region 7 with fail
  have HSS := Lib.hid (show ∀ w', Chg [] wD w' → (convert 23 9 (.slice bo b bc)).run Try.prog w' = .ok (.string sE) w' from fun w' hk => hcv w' (Lib.hid hk))
  clear hcv
  refine wp_region_held_drew (S := (fun w' => (convert 23 9 (.slice bo b bc)).run Try.prog w' = .ok (.string sE) w')) (by kernel_rfl) (HSS.out _ (Chg.refl _ _).drew) (fun hHeld => ?_)
  refine wpAnyH_take (i := 0) (oi := _) (v := ?_) rfl (by kernel_rfl) (by kernel_rfl) (by kernel_rfl) (fun _ _ _ h => h) (Or.inl ⟨by rfl, ?_⟩) (by assumption) ?_
  rotate_left
  · intro w hSw; (try dsimp only at hSw); go_simp; (try with_reducible rfl)
  try simp only [List.getElem_toArray, List.getElem_cons_succ, List.getElem_cons_zero, Act.put, List.setIfInBounds_toArray, List.set_cons_zero, List.set_cons_succ]
  refine wpAnyH_take (i := 1) (oi := _) (v := ?_) rfl (by kernel_rfl) (by kernel_rfl) (by kernel_rfl) (fun _ _ _ h => h) (Or.inl ⟨by rfl, ?_⟩) (by assumption) ?_
  rotate_left
  · intro w hSw; (try dsimp only at hSw); go_simp; (try with_reducible rfl)
  try simp only [List.getElem_toArray, List.getElem_cons_succ, List.getElem_cons_zero, Act.put, List.setIfInBounds_toArray, List.set_cons_zero, List.set_cons_succ]
  refine wpAnyH_take (i := 2) (oi := _) (v := ?_) rfl (by kernel_rfl) (by kernel_rfl) (by kernel_rfl) (fun _ _ _ h => h) (Or.inl ⟨by rfl, ?_⟩) (by assumption) ?_
  rotate_left
  · intro w hSw; (try dsimp only at hSw); go_simp; (try with_reducible rfl)
  try simp only [List.getElem_toArray, List.getElem_cons_succ, List.getElem_cons_zero, Act.put, List.setIfInBounds_toArray, List.set_cons_zero, List.set_cons_succ]
  refine wpAnyH_ready (rs := [3]) (by kernel_rfl) (by simp) ?_
  refine AllReadyH.cons (o := _) rfl (fun K hK => ?_) AllReadyH.nil
  go_simp
  go_at_call 11
  refine (HRI.out _ (HCWD.out.trans (Chg.refl [] wD).drew (by simp))).mono ?_
  rintro e w5 ⟨rv, rfl, hk5, ho5⟩
  obtain ⟨ro, rc, rfl⟩ := own_shape ho5
  have HC5 : Hid (Chg [] wD w5) := Lib.hid ((Chg.refl [] wD).drew.trans hk5 (by simp))
  have hcv5 := cvp (reads_of_own ho5).seen HBL.out HSE.out HEB.out w5 (Lib.hid (Chg.refl [] w5))
  clear hk5 ho5
  refine hK.out _ _ (HSS.out _ HC5.out) (fun hHeld5 => ?_)
  clear hK K
  try simp only [Act.put, List.setIfInBounds_toArray, List.set_cons_zero, List.set_cons_succ]
  refine wpAnyH_ready (rs := [4]) (by kernel_rfl) (by simp) ?_
  refine AllReadyH.cons (o := _) rfl (fun K hK => ?_) AllReadyH.nil
  go_simp
  refine hK.out _ _ (HSS.out _ HC5.out) (fun hHeld6 => ?_)
  clear hK K
  try simp only [Act.put, List.setIfInBounds_toArray, List.set_cons_zero, List.set_cons_succ]
  refine wpAnyH_take (i := 5) (oi := _) (v := ?_) rfl (by kernel_rfl) (by kernel_rfl) (by kernel_rfl) (fun _ _ _ h => h) (Or.inl ⟨by rfl, ?_⟩) (by assumption) ?_
  rotate_left
  · intro w hSw; (try dsimp only at hSw); go_simp; (try with_reducible rfl)
  try simp only [List.getElem_toArray, List.getElem_cons_succ, List.getElem_cons_zero, Act.put, List.setIfInBounds_toArray, List.set_cons_zero, List.set_cons_succ]
  refine wpAnyH_take (i := 6) (oi := _) (v := ?_) rfl (by kernel_rfl) (by kernel_rfl) (by kernel_rfl) (fun _ _ _ h => h) (Or.inl ⟨by rfl, ?_⟩) (by assumption) ?_
  rotate_left
  · intro w hSw; (try dsimp only at hSw); go_simp; (try with_reducible rfl)
  try simp only [List.getElem_toArray, List.getElem_cons_succ, List.getElem_cons_zero, Act.put, List.setIfInBounds_toArray, List.set_cons_zero, List.set_cons_succ]
  refine wpAnyH_take (i := 7) (oi := _) (v := ?_) rfl (by kernel_rfl) (by kernel_rfl) (by kernel_rfl) (fun _ _ _ h => h) (Or.inl ⟨by rfl, ?_⟩) (by assumption) ?_
  rotate_left
  · intro w hSw; (try dsimp only at hSw); go_simp; (try with_reducible rfl)
  try simp only [List.getElem_toArray, List.getElem_cons_succ, List.getElem_cons_zero, Act.put, List.setIfInBounds_toArray, List.set_cons_zero, List.set_cons_succ]
  refine wpAnyH_take (i := 8) (oi := _) (v := ?_) rfl (by kernel_rfl) (by kernel_rfl) (by kernel_rfl) (fun _ _ _ h => h) (Or.inl ⟨by rfl, ?_⟩) (by assumption) ?_
  rotate_left
  · intro w hSw; (try dsimp only at hSw); go_simp; (try with_reducible rfl)
  try simp only [List.getElem_toArray, List.getElem_cons_succ, List.getElem_cons_zero, Act.put, List.setIfInBounds_toArray, List.set_cons_zero, List.set_cons_succ]
  refine wpAnyH_take (i := 9) (oi := _) (v := ?_) rfl (by kernel_rfl) (by kernel_rfl) (by kernel_rfl) (fun _ _ _ h => h) (Or.inl ⟨by rfl, ?_⟩) (by assumption) ?_
  rotate_left
  · intro w hSw; (try dsimp only at hSw); go_simp; (try with_reducible rfl)
  try simp only [List.getElem_toArray, List.getElem_cons_succ, List.getElem_cons_zero, Act.put, List.setIfInBounds_toArray, List.set_cons_zero, List.set_cons_succ]
  refine wpAnyH_take (i := 10) (oi := _) (v := ?_) rfl (by kernel_rfl) (by kernel_rfl) (by kernel_rfl) (fun _ _ _ h => h) (Or.inl ⟨by rfl, ?_⟩) (by assumption) ?_
  rotate_left
  · intro w hSw; (try dsimp only at hSw); go_simp; (try with_reducible rfl)
  try simp only [List.getElem_toArray, List.getElem_cons_succ, List.getElem_cons_zero, Act.put, List.setIfInBounds_toArray, List.set_cons_zero, List.set_cons_succ]
  refine wpAnyH_take (i := 11) (oi := _) (v := ?_) rfl (by kernel_rfl) (by kernel_rfl) (by kernel_rfl) (fun _ _ _ h => h) (Or.inl ⟨by rfl, ?_⟩) (by assumption) ?_
  rotate_left
  · intro w hSw; (try dsimp only at hSw); go_simp; (try with_reducible rfl)
  try simp only [List.getElem_toArray, List.getElem_cons_succ, List.getElem_cons_zero, Act.put, List.setIfInBounds_toArray, List.set_cons_zero, List.set_cons_succ]
  refine wpAnyH_take (i := 12) (oi := _) (v := ?_) rfl (by kernel_rfl) (by kernel_rfl) (by kernel_rfl) (fun _ _ _ h => h) (Or.inl ⟨by rfl, ?_⟩) (by assumption) ?_
  rotate_left
  · intro w hSw; (try dsimp only at hSw); go_simp; (try with_reducible rfl)
  try simp only [List.getElem_toArray, List.getElem_cons_succ, List.getElem_cons_zero, Act.put, List.setIfInBounds_toArray, List.set_cons_zero, List.set_cons_succ]
  refine wpAnyH_take (i := 13) (oi := _) (v := ?_) rfl (by kernel_rfl) (by kernel_rfl) (by kernel_rfl) (fun _ _ _ h => h) (Or.inl ⟨by rfl, ?_⟩) (by assumption) ?_
  rotate_left
  · intro w hSw; (try dsimp only at hSw); go_simp; (try with_reducible rfl)
  try simp only [List.getElem_toArray, List.getElem_cons_succ, List.getElem_cons_zero, Act.put, List.setIfInBounds_toArray, List.set_cons_zero, List.set_cons_succ]
  refine wpAnyH_take (i := 14) (oi := _) (v := ?_) rfl (by kernel_rfl) (by kernel_rfl) (by kernel_rfl) (fun _ _ _ h => h) (Or.inl ⟨by rfl, ?_⟩) (by assumption) ?_
  rotate_left
  · intro w hSw; (try dsimp only at hSw); go_simp; (try with_reducible rfl)
  try simp only [List.getElem_toArray, List.getElem_cons_succ, List.getElem_cons_zero, Act.put, List.setIfInBounds_toArray, List.set_cons_zero, List.set_cons_succ]
  refine wpAnyH_take (i := 15) (oi := _) (v := ?_) rfl (by kernel_rfl) (by kernel_rfl) (by kernel_rfl) (fun _ _ _ h => h) (Or.inl ⟨by rfl, ?_⟩) (by assumption) ?_
  rotate_left
  · intro w hSw; (try dsimp only at hSw); go_simp; (try with_reducible rfl)
  try simp only [List.getElem_toArray, List.getElem_cons_succ, List.getElem_cons_zero, Act.put, List.setIfInBounds_toArray, List.set_cons_zero, List.set_cons_succ]
  refine wpAnyH_take (i := 16) (oi := _) (v := ?_) rfl (by kernel_rfl) (by kernel_rfl) (by kernel_rfl) (fun _ _ _ h => h) (Or.inl ⟨by rfl, ?_⟩) (by assumption) ?_
  rotate_left
  · intro w hSw; (try dsimp only at hSw); go_simp; (try with_reducible rfl)
  try simp only [List.getElem_toArray, List.getElem_cons_succ, List.getElem_cons_zero, Act.put, List.setIfInBounds_toArray, List.set_cons_zero, List.set_cons_succ]
  refine wpAnyH_take (i := 17) (oi := _) (v := ?_) rfl (by kernel_rfl) (by kernel_rfl) (by kernel_rfl) (fun _ _ _ h => h) (Or.inl ⟨by rfl, ?_⟩) (by assumption) ?_
  rotate_left
  · intro w hSw; (try dsimp only at hSw); go_simp; (try with_reducible rfl)
  try simp only [List.getElem_toArray, List.getElem_cons_succ, List.getElem_cons_zero, Act.put, List.setIfInBounds_toArray, List.set_cons_zero, List.set_cons_succ]
  refine wpAnyH_take (i := 18) (oi := _) (v := ?_) rfl (by kernel_rfl) (by kernel_rfl) (by kernel_rfl) (fun _ _ _ h => h) (Or.inl ⟨by rfl, ?_⟩) (by assumption) ?_
  rotate_left
  · intro w hSw; (try dsimp only at hSw); go_simp; (try with_reducible rfl)
  try simp only [List.getElem_toArray, List.getElem_cons_succ, List.getElem_cons_zero, Act.put, List.setIfInBounds_toArray, List.set_cons_zero, List.set_cons_succ]
  refine wpAnyH_ready (rs := [19]) (by kernel_rfl) (by simp) ?_
  refine AllReadyH.cons (o := _) rfl (fun K hK => ?_) AllReadyH.nil
  go_simp
  go_at_call 12
  refine (HINT.out _ HC5.out).mono ?_
  rintro e w6 ⟨rfl, hk6⟩
  have HC6 : Hid (Chg [] wD w6) := Lib.hid (HC5.out.trans hk6 (by simp))
  clear hk6
  refine hK.out _ _ (HSS.out _ HC6.out) (fun hHeld7 => ?_)
  clear hK K
  try simp only [Act.put, List.setIfInBounds_toArray, List.set_cons_zero, List.set_cons_succ]
  refine wpAnyH_take (i := 20) (oi := _) (v := ?_) rfl (by kernel_rfl) (by kernel_rfl) (by kernel_rfl) (fun _ _ _ h => h) (Or.inl ⟨by rfl, ?_⟩) (by assumption) ?_
  rotate_left
  · intro w hSw; (try dsimp only at hSw); go_simp; (try with_reducible rfl)
  try simp only [List.getElem_toArray, List.getElem_cons_succ, List.getElem_cons_zero, Act.put, List.setIfInBounds_toArray, List.set_cons_zero, List.set_cons_succ]
  refine wpAnyH_take (i := 21) (oi := _) (v := ?_) rfl (by kernel_rfl) (by kernel_rfl) (by kernel_rfl) (fun _ _ _ h => h) (Or.inl ⟨by rfl, ?_⟩) (by assumption) ?_
  rotate_left
  · intro w hSw; (try dsimp only at hSw); go_simp; (try with_reducible rfl)
  try simp only [List.getElem_toArray, List.getElem_cons_succ, List.getElem_cons_zero, Act.put, List.setIfInBounds_toArray, List.set_cons_zero, List.set_cons_succ]
  refine wpAnyH_done (by kernel_rfl) ?_ _
  go_wp2
  go_ret
  exact ⟨by simp, (HCWD.out.trans HC6.out (by simp)).below (Nat.le_refl _) (by simp)⟩

end Go.Proofs.Ytohgnbgijleoaaa
