/- level.Encode. -/
import Derived.Test.YtlhdicbhanncnaaKh
import Derived.Test.YtlhdicbhanncnaaKc
namespace Go.Proofs.Ytlhdicbhanncnaa
open Go.RowKit
set_option linter.unusedVariables false
set_option linter.unusedSimpArgs false

theorem lt_64 {l : List Nat} {w : Nat} (hw : w ≤ 16) (hl : ∀ x ∈ l, x < 2 ^ w) : ∀ x ∈ l, x ≤ 65536 := fun x hx => by
  have h := hl x hx
  have hp : 2 ^ w ≤ 2 ^ 16 := Nat.pow_le_pow_right (by decide) hw
  omega

theorem vb_app_len (w : Nat) (hw : w ≤ 16) : ∀ l : List Nat, l.length ≤ 900000 → (encL w l).length ≤ 40 * l.length + 40 := by
  intro l
  induction l using encL.induct with
  | case1 => intro _; rw [encL_nil]; simp
  | case2 l h hr ih =>
    intro hl
    have h1 := mix_le l
    have h2 := mix_pos l h
    have hi := ih (by simp; omega)
    have hv := vb_len64 (v := 2 * ((mix l + 7) / 8) + 1) (by omega)
    have e1 : (l.take (mix l)).length = mix l := by simp; omega
    have e2 : (l.drop (mix l)).length = l.length - mix l := by simp
    rw [encL_mix w l h hr]
    simp only [List.length_append, packed_pad, e1]
    rw [e2] at hi
    have h3 : (mix l + 7) / 8 * w ≤ (mix l + 7) / 8 * 16 := Nat.mul_le_mul_left _ hw
    omega
  | case3 l h hr ih =>
    intro hl
    have h1 := alk_le l
    have h2 := alk_pos l h
    have hi := ih (by simp; omega)
    have hv := vb_len64 (v := 2 * alk l) (by omega)
    have e2 : (l.drop (alk l)).length = l.length - alk l := by simp
    rw [encL_run w l h hr]
    simp only [List.length_append, lo_length]
    rw [e2] at hi
    omega

set_option maxRecDepth 100000 in
set_option maxHeartbeats 1000000 in
theorem encode_none (lv : Value) (w : World) : Calls Try.prog 11 #[lv, .int .i64 0] w fun e w' => e = .returned (.slice none 0 0) ∧ w = w' := by
  have hb : ((0 : Int) == 0) = true := rfl
  go_enter Try.func11, Try.ntmps11
  go_wp2_with fail
  refine wp_scope_jumps 0 (fun _ _ => False) (fun _ _ => 0) rfl ?_ (fun a' w' h => h.elim)
  go_wp2
  simp only [Exit.jump]
  go_ret
  exact ⟨rfl, rfl⟩

set_option maxRecDepth 100000 in
set_option maxHeartbeats 2000000 in
theorem encode_any (lv : Value) (l : List Nat) (width : Nat) (w : World) (hS : Seen w lv (nv .i64 l)) (hw1 : 1 ≤ width) (hw : width ≤ 16) (hl : ∀ x ∈ l, x < 2 ^ width) (hl2 : l.length ≤ 900000) :
    Calls Try.prog 11 #[lv, .int .i64 (width : Int)] w fun e w' => ∃ x, e = .returned x ∧ Made 5 .u8 (encL width l) w x w' := by
  obtain ⟨i8, hi8, hz08, hz18, hz28⟩ := info_u8
  obtain ⟨ao, cap, rfl, hc1, hc2⟩ := hS.shape
  rw [nv_length] at hc1 hS
  rw [nv_length]
  have HA := Lib.hid (allowed_yes _ l width w hS hw hl (by omega))
  have HS := Lib.hid hS
  have hlen := vb_app_len width hw l hl2
  obtain ⟨E, hE⟩ : ∃ E, E = encL width l := ⟨_, rfl⟩
  rw [← hE] at hlen ⊢
  have HE := Lib.hid hE
  have HL := Lib.hid hl
  have hb : ((width : Int) == 0) = false := by simp; omega
  obtain ⟨N, hN⟩ : ∃ N, N = l.length := ⟨_, rfl⟩
  rw [← hN] at HS HA hc1 hl2 hlen ⊢
  have HN := Lib.hid hN
  clear hS hE hl hN hc2
  go_enter Try.func11, Try.ntmps11
  go_wp2_with fail
  refine wp_scope_pre2 0 (fun a' w' => ∃ (r X : List Nat) (n m : Nat) (so bo : Option Addr) (sc bc : Nat) (u6 u7 u8 u9 u10 u11 u12 u13 u14 u15 u16 u17 u18 u19 u20 u21 u22 u23 u24 u25 u26 u27 u28 u29 u30 u31 u32 u33 u34 u35 u36 u37 u38 u39 u40 u41 u42 : Value), n = r.length ∧ m = X.length ∧ n ≤ N ∧ (∀ x ∈ r, x < 2 ^ width) ∧ X ++ encL width r = E ∧ a' = { tmps := #[.slice so n sc, .int .i64 (width : Int), undef, undef, .slice none 0 0, .slice bo m bc, u6, u7, u8, u9, u10, u11, u12, u13, u14, u15, u16, u17, u18, u19, u20, u21, u22, u23, u24, u25, u26, u27, u28, u29, u30, u31, u32, u33, u34, u35, u36, u37, u38, u39, u40, u41, u42], defers := [] } ∧ Chg [] w w' ∧ Seen w (.slice so n sc) (nv .i64 r) ∧ w'.ownsRow w.heap.size 5 1 (.slice bo m bc) m (nv .u8 X)) (fun a' _ => slen (a'.tmps.getD 0 undef)) rfl ?_ ?_
  · go_wp2_with fail
    refine HA.out.mono ?_
    rintro e w1 ⟨rfl, hc1⟩
    have HC1 := Lib.hid hc1
    clear hc1
    go_wp2
    exact ⟨l, [], N, 0, ao, none, cap, 0, _, _, _, _, _, _, _, _, _, _, _, _, _, _, _, _, _, _, _, _, _, _, _, _, _, _, _, _, _, _, _, _, _, _, _, _, _, HN.out, rfl, Nat.le_refl _, HL.out, by rw [List.nil_append, HE.out], rfl, HC1.out, HS.out, ⟨rfl, .inl ⟨rfl, rfl⟩⟩⟩
  rintro a' wi ⟨r, X, n, m, so, bo, sc, bc, u6, u7, u8, u9, u10, u11, u12, u13, u14, u15, u16, u17, u18, u19, u20, u21, u22, u23, u24, u25, u26, u27, u28, u29, u30, u31, u32, u33, u34, u35, u36, u37, u38, u39, u40, u41, u42, hn, hm, hrN, hr2, hX, rfl, hci, hsi, hoi⟩
  have HCI := Lib.hid hci; have HSI := Lib.hid hsi; have HOI := Lib.hid hoi; have HX := Lib.hid hX; have HR2 := Lib.hid hr2; have HN2 := Lib.hid hn; have HM := Lib.hid hm
  have hsc := hsi.room.1
  have hXl : m ≤ 40 * N + 40 := by have := congrArg List.length hX; rw [List.length_append] at this; omega
  have hBi := hci.size
  clear hci hsi hoi hX hr2 hn hm
  by_cases h0 : n = 0
  · have h1 : r = [] := List.eq_nil_of_length_eq_zero (by have := HN2.out; omega)
    have HX1 := Lib.hid (show X = E by have := HX.out; rwa [h1, encL_nil, List.append_nil] at this)
    subst h0
    clear h1
    have hb0 : ((0 : Int) == 0) = true := rfl
    go_wp2
    simp only [Exit.jump]
    go_ret
    refine ⟨_, rfl, HCI.out, ?_⟩
    rw [← HX1.out, ← HM.out]
    exact HOI.out
  have H0 := Lib.hid (show r ≠ [] from fun h => h0 (by have h1 := HN2.out; rw [h] at h1; simpa using h1))
  have hbn : ((n : Int) == 0) = false := by simp; omega
  have HAL := Lib.hid (alike10_any _ r wi (HSI.out.keep HCI.out) H0.out (by have := HN2.out; omega))
  obtain ⟨z, hz⟩ : ∃ z, z = ak r := ⟨_, rfl⟩
  rw [← hz] at HAL
  have HZ := Lib.hid hz
  clear hz
  by_cases hz0 : z = 0
  · have hnr : nR r = true := by
      by_cases h : nR r = true
      · exact h
      · have h2 := HZ.out
        unfold ak at h2
        rw [if_neg h] at h2
        have := alk_pos r H0.out
        omega
    have hd : ¬ 0 < z := by omega
    have hml := mix_le r
    have hmp := mix_pos r H0.out
    obtain ⟨q, hq⟩ : ∃ q, q = mix r := ⟨_, rfl⟩
    rw [← hq, ← HN2.out] at hml
    rw [← hq] at hmp
    have HMX := Lib.hid (mixed10_any (.slice so n sc) r)
    have HEE := Lib.hid (show encL width r = vb (2 * ((q + 7) / 8) + 1) ++ packed width (pad8 (r.take q)) ++ encL width (r.drop q) by rw [hq]; exact encL_mix width r H0.out hnr)
    have HQ := Lib.hid hq
    obtain ⟨fo, fc, hfs, hfr⟩ := run_front_i HSI.out hsc q hml
    obtain ⟨ko, kc, hks, hkr⟩ := run_back_i HSI.out HN2.out.symm hsc q hml
    have htl : (r.take q).length = q := by rw [List.length_take]; have := HN2.out; omega
    have hG : ∀ wx, Chg [] w wx → Calls Try.prog 32 #[.slice fo q fc, .int .i64 (width : Int)] wx fun e w' => ∃ x, e = .returned x ∧ Made 5 .u8 (vb (2 * ((q + 7) / 8) + 1) ++ packed width (pad8 (r.take q))) wx x w' := fun wx hk => by
      have := groups10_any (.slice fo q fc) (r.take q) width wx (hfs.keep hk) hw (fun x hx => by have := lt_64 hw HR2.out x (List.mem_of_mem_take hx); omega) (by rw [htl]; omega)
      rwa [htl] at this
    obtain ⟨P, hP⟩ : ∃ P, P = vb (2 * ((q + 7) / 8) + 1) ++ packed width (pad8 (r.take q)) := ⟨_, rfl⟩
    have hPl : P.length ≤ 40 * N + 40 := by
      have h1 := HX.out
      rw [HEE.out, ← hP] at h1
      have := congrArg List.length h1
      simp only [List.length_append] at this
      omega
    rw [← hP] at hG
    have HG := Lib.hid hG; have HP := Lib.hid (show X ++ P ++ encL width (r.drop q) = E by rw [← HX.out, HEE.out, hP, List.append_assoc])
    have HKS := Lib.hid hks
    have HDL := Lib.hid (show n - q = (r.drop q).length by rw [List.length_drop, ← HN2.out])
    clear hfs hks hG htl hP hz0 hnr hq
    go_wp2_with fail
    refine HAL.out.mono ?_
    rintro e w2 ⟨rfl, hc2⟩
    have HC2 := Lib.hid (HCI.out.trans hc2 (by simp)); have HO2 := Lib.hid (own_chg HOI.out hc2 (by simp))
    clear hc2
    go_wp2_with fail
    refine (HMX.out w2 (HSI.out.keep HC2.out) H0.out (by have := HN2.out; omega)).mono ?_
    rintro e w3 ⟨rfl, hc3⟩
    rw [← HQ.out]
    have HC3 := Lib.hid (HC2.out.trans hc3 (by simp)); have HO3 := Lib.hid (own_chg HO2.out hc3 (by simp))
    clear hc3
    go_wp2_with fail
    refine (HG.out w3 HC3.out).mono ?_
    rintro e w4 ⟨gv, rfl, hc4, ho4⟩
    obtain ⟨go, gc, rfl⟩ := own_shape ho4
    have HC4 := Lib.hid (HC3.out.trans hc4 (by simp)); have HO4 := Lib.hid (own_chg HO3.out hc4 (by simp)); have HG4 := Lib.hid ((reads_of_own ho4).seen)
    have hB4 := HC4.out.size
    clear hc4 ho4
    go_wp2_with (at_builtin; refine wpList_append_reads _ rfl _ _ 23 23 rfl w.heap.size 5 5 i8 (.int .u8 0) 1 Try.underlying23 Try.underlying23 hi8 hz08 hz18 hz28 rfl _ _ _ rfl HO4.out _ (nv .u8 P) rfl HG4.out (nv_one _ _) ?c1 ?c2 hB4 ?_)
    case c1 => rw [nv_length]; unfold maxLen; omega
    case c2 => rw [nv_length]; omega
    intro v5 w5 hown5 hgrow5
    have HC5 := Lib.hid (HC4.out.grown hgrow5 (fun k hk => .inr (own_ge HO4.out k hk)))
    obtain ⟨vo, vc, rfl⟩ := own_shape hown5
    have HO5 := Lib.hid (show w5.ownsRow w.heap.size 5 1 (.slice vo (m + P.length) vc) (m + P.length) (nv .u8 (X ++ P)) by
      have e : nv .u8 X ++ nv .u8 P = nv .u8 (X ++ P) := by simp [nv]
      rw [← e]; simpa using hown5)
    clear hown5 hgrow5
    go_wp2
    go_step3
    exact ⟨rfl, ⟨r.drop q, X ++ P, n - q, m + P.length, ko, vo, kc, vc, _, _, _, _, _, _, _, _, _, _, _, _, _, _, _, _, _, _, _, _, _, _, _, _, _, _, _, _, _, _, _, _, _, _, _, _, _, HDL.out, by rw [List.length_append, ← HM.out], by omega, fun x hx => HR2.out x (List.mem_of_mem_drop hx), HP.out, rfl, HC5.out, HKS.out, HO5.out⟩, by simp [slen]; omega⟩
  · have hnr : ¬ nR r = true := fun h => hz0 (by rw [HZ.out]; unfold ak; rw [if_pos h])
    have hd : 0 < z := by omega
    have hza : z = alk r := by rw [HZ.out]; unfold ak; rw [if_neg hnr]
    have hml := alk_le r
    rw [← hza, ← HN2.out] at hml
    obtain ⟨g, off, rfl, hcell⟩ := (HSI.out).at0 HN2.out.symm (by omega)
    obtain ⟨s, hs⟩ : ∃ s, s = r.getD 0 0 := ⟨_, rfl⟩
    have hs0 := hcell 0 (by omega)
    rw [← hs, Nat.add_zero] at hs0
    have hs6 : s ≤ 65536 := by rw [hs]; exact lt_64 hw HR2.out _ (getD_mem (by have := HN2.out; omega))
    have HS0 := Lib.hid hs0
    have HEE := Lib.hid (show encL width r = vb (2 * z) ++ lo ((width + 7) / 8) s ++ encL width (r.drop z) by rw [hza, hs]; exact encL_run width r H0.out hnr)
    obtain ⟨ko, kc, hks, hkr⟩ := run_back_i HSI.out HN2.out.symm hsc z hml
    have hG := fun wx => run10_any z s width wx (by omega) hw hs6
    obtain ⟨P, hP⟩ : ∃ P, P = vb (2 * z) ++ lo ((width + 7) / 8) s := ⟨_, rfl⟩
    have hPl : P.length ≤ 40 * N + 40 := by
      have h1 := HX.out
      rw [HEE.out, ← hP] at h1
      have := congrArg List.length h1
      simp only [List.length_append] at this
      omega
    rw [← hP] at hG
    have HG := Lib.hid hG; have HP := Lib.hid (show X ++ P ++ encL width (r.drop z) = E by rw [← HX.out, HEE.out, hP, List.append_assoc])
    have HKS := Lib.hid hks
    have HDL := Lib.hid (show n - z = (r.drop z).length by rw [List.length_drop, ← HN2.out])
    clear hks hG hP hnr hza hs hs0 hcell
    go_wp2_with fail
    refine HAL.out.mono ?_
    rintro e w2 ⟨rfl, hc2⟩
    have HC2 := Lib.hid (HCI.out.trans hc2 (by simp)); have HO2 := Lib.hid (own_chg HOI.out hc2 (by simp))
    have hx := HC2.out.cell HS0.out (by simp)
    clear hc2
    go_wp2_with fail
    refine (HG.out w2).mono ?_
    rintro e w4 ⟨gv, rfl, hc4, ho4⟩
    obtain ⟨go, gc, rfl⟩ := own_shape ho4
    have HC4 := Lib.hid (HC2.out.trans hc4 (by simp)); have HO4 := Lib.hid (own_chg HO2.out hc4 (by simp)); have HG4 := Lib.hid ((reads_of_own ho4).seen)
    have hB4 := HC4.out.size
    clear hc4 ho4 hx
    go_wp2_with (at_builtin; refine wpList_append_reads _ rfl _ _ 23 23 rfl w.heap.size 5 5 i8 (.int .u8 0) 1 Try.underlying23 Try.underlying23 hi8 hz08 hz18 hz28 rfl _ _ _ rfl HO4.out _ (nv .u8 P) rfl HG4.out (nv_one _ _) ?c1 ?c2 hB4 ?_)
    case c1 => rw [nv_length]; unfold maxLen; omega
    case c2 => rw [nv_length]; omega
    intro v5 w5 hown5 hgrow5
    have HC5 := Lib.hid (HC4.out.grown hgrow5 (fun k hk => .inr (own_ge HO4.out k hk)))
    obtain ⟨vo, vc, rfl⟩ := own_shape hown5
    have HO5 := Lib.hid (show w5.ownsRow w.heap.size 5 1 (.slice vo (m + P.length) vc) (m + P.length) (nv .u8 (X ++ P)) by
      have e : nv .u8 X ++ nv .u8 P = nv .u8 (X ++ P) := by simp [nv]
      rw [← e]; simpa using hown5)
    clear hown5 hgrow5
    go_wp2
    go_step3
    exact ⟨rfl, ⟨r.drop z, X ++ P, n - z, m + P.length, ko, vo, kc, vc, _, _, _, _, _, _, _, _, _, _, _, _, _, _, _, _, _, _, _, _, _, _, _, _, _, _, _, _, _, _, _, _, _, _, _, _, _, HDL.out, by rw [List.length_append, ← HM.out], by omega, fun x hx => HR2.out x (List.mem_of_mem_drop hx), HP.out, rfl, HC5.out, HKS.out, HO5.out⟩, by simp [slen]; omega⟩

end Go.Proofs.Ytlhdicbhanncnaa
