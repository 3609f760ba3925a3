/- level.Decode. -/
import Derived.Test.YtlhdicbhanncnaaKl
namespace Go.Proofs.Ytlhdicbhanncnaa
open Go.RowKit
set_option linter.unusedVariables false
set_option linter.unusedSimpArgs false

/-- What Decode answers, the program's and the reference's. -/
def DecOut (b : List Nat) (n wd : Int) (w : World) (e : Ending) (w' : World) : Prop :=
  ∃ v, e = .returned (.tuple #[v, .int .i64 ((decA b n wd).1 : Int)]) ∧ Made 3 .i64 (decA b n wd).2 w v w'

theorem made_nil_i (w w' : World) (h : Chg [] w w') : Made 3 .i64 [] w (.slice none 0 0) w' := ⟨h, ⟨rfl, .inl ⟨rfl, rfl⟩⟩⟩

set_option maxRecDepth 100000 in
set_option maxHeartbeats 2000000 in
theorem decode_args (bv : Value) (b : List Nat) (n wd : Int) (w : World) (h : n < 0 ∨ 4000 < n ∨ wd < 0 ∨ 16 < wd) :
    Calls Try.prog 8 #[bv, .int .i64 n, .int .i64 wd] w (DecOut b n wd w) := by
  have E := Lib.hid (show decA b n wd = (1, []) by unfold decA; rw [if_pos h])
  by_cases h1 : n < 0 ∨ 4000 < n
  · clear h
    go_enter Try.func8, Try.ntmps8
    go_wp2_with fail
    refine wp_scope_jumps 0 (fun _ _ => False) (fun _ _ => 0) rfl ?_ (fun a' w' h => h.elim)
    go_wp2_with fail
    refine (lbetween_no _ _ _ h1).mono ?_
    rintro e w1 ⟨rfl, rfl⟩
    go_wp2
    simp only [Exit.jump]
    go_ret2
    refine ⟨.slice none 0 0, by rw [E.out]; rfl, ?_⟩
    rw [E.out]
    exact made_nil_i _ _ (Chg.refl _ _)
  · have h2 : wd < 0 ∨ 16 < wd := by omega
    have h3 : 0 ≤ n := by omega
    have h4 : n ≤ 4000 := by omega
    clear h h1
    go_enter Try.func8, Try.ntmps8
    go_wp2_with fail
    refine wp_scope_jumps 0 (fun _ _ => False) (fun _ _ => 0) rfl ?_ (fun a' w' h => h.elim)
    go_wp2_with fail
    refine (lbetween_yes _ _ _ h3 h4).mono ?_
    rintro e w1 ⟨rfl, rfl⟩
    go_wp2_with fail
    refine (lbetween_no _ _ _ h2).mono ?_
    rintro e w1 ⟨rfl, rfl⟩
    go_wp2
    simp only [Exit.jump]
    go_ret2
    refine ⟨.slice none 0 0, by rw [E.out]; rfl, ?_⟩
    rw [E.out]
    exact made_nil_i _ _ (Chg.refl _ _)

set_option maxRecDepth 100000 in
set_option maxHeartbeats 2000000 in
theorem decode_yes (bv : Value) (b : List Nat) (N W : Nat) (w : World) (hN : N ≤ 4000) (hW : W ≤ 16) (hS : Seen w bv (nv .u8 b)) (hb : ∀ x ∈ b, x < 2 ^ 8) :
    Calls Try.prog 8 #[bv, .int .i64 (N : Int), .int .i64 (W : Int)] w (DecOut b N W w) := by
  obtain ⟨E, V, hE⟩ : ∃ (E : Nat) (V : List Nat), decA b N W = (E, if E = 0 then V else []) ∧ (W = 0 → (decL W 0 b).1 = E ∧ V = List.replicate N 0) ∧ (W ≠ 0 → (decL W N b).1 = E ∧ V = (decL W N b).2) := by
    by_cases h0 : W = 0
    · subst h0
      refine ⟨(decL 0 0 b).1, List.replicate N 0, ?_, fun _ => ⟨rfl, rfl⟩, fun h => absurd rfl h⟩
      unfold decA
      rw [if_neg (by omega), if_pos (by rfl), decL_zero]
      by_cases hb : b = [] <;> simp [hb]
    · refine ⟨(decL W N b).1, (decL W N b).2, ?_, fun h => absurd h h0, fun _ => ⟨rfl, rfl⟩⟩
      unfold decA
      rw [if_neg (by omega), if_neg (by omega), Int.toNat_natCast, Int.toNat_natCast]
      split <;> rfl
  obtain ⟨hE1, hE2, hE3⟩ := hE
  unfold DecOut
  rw [hE1]
  have HE2 := Lib.hid hE2; have HE3 := Lib.hid hE3
  obtain ⟨ao, cap, rfl, hc1, hc2⟩ := hS.shape
  rw [nv_length] at hc1 hS
  rw [nv_length]
  obtain ⟨p, hp⟩ : ∃ p, p = b.length := ⟨_, rfl⟩
  rw [← hp] at hc1 hS ⊢
  have HS := Lib.hid hS; have HB := Lib.hid hb; have HP := Lib.hid hp
  obtain ⟨d, hd⟩ : ∃ d, d = w.heap.size := ⟨_, rfl⟩
  have HD := Lib.hid hd
  clear hS hb hp hE1 hE2 hE3 hd
  go_enter Try.func8, Try.ntmps8
  go_wp2_with fail
  refine wp_scope_pre3 0 (fun a' w' => ∃ (r X : List Nat) (bv' lv' : Value) (u9 u10 u11 u12 u13 u14 u15 u16 u17 u18 u19 u20 u21 u22 u23 u24 u25 u26 u27 u28 u29 u30 u31 u32 u33 u34 u35 u36 u37 : Value), (decL W (N - X.length) r).1 = E ∧ (E = 0 → X ++ (decL W (N - X.length) r).2 = V) ∧ (W = 0 → X.length = N) ∧ a' = { tmps := #[.slice ao p cap, .int .i64 (N : Int), .int .i64 (W : Int), undef, undef, undef, .slice none 0 0, .int .i64 0, .pointer (some ⟨d, 0, none⟩), u9, u10, u11, u12, u13, u14, u15, u16, u17, u18, u19, u20, u21, u22, u23, u24, u25, u26, u27, u28, u29, u30, u31, u32, u33, u34, u35, u36, u37], defers := [] } ∧ DS w w' d W N bv' lv' r X) (fun _ w' => N - slen ((w'.cell? ⟨d, 3, none⟩).getD undef)) rfl ?_ ?_
  · go_wp2_with fail
    refine (lbetween_yes _ _ _ (by omega) (by omega)).mono ?_
    rintro e w1 ⟨rfl, rfl⟩
    go_wp2_with fail
    refine (lbetween_yes _ _ _ (by omega) (by omega)).mono ?_
    rintro e w1 ⟨rfl, rfl⟩
    have hb0 : (w.alloc (.cells #[.slice ao p cap, .int .i64 (W : Int), .int .i64 (N : Int), .slice none 0 0] 46)).heap[d]? = some (.cells #[.slice ao p cap, .int .i64 (W : Int), .int .i64 (N : Int), .slice none 0 0] 46 (0, 0)) := by rw [HD.out]; exact heap_alloc_new w _
    have HD0 := Lib.hid (show DS w (w.alloc (.cells #[.slice ao p cap, .int .i64 (W : Int), .int .i64 (N : Int), .slice none 0 0] 46)) d W N (.slice ao p cap) (.slice none 0 0) b [] from
      ⟨(Chg.refl [] w).alloc _, by rw [HD.out]; exact Nat.le_refl _, hb0, HS.out, HB.out, ⟨rfl, .inl ⟨rfl, rfl⟩⟩, Nat.zero_le _, hN, hW⟩)
    clear hb0
    by_cases h0 : W = 0
    · subst h0
      have hbw : ((0 : Int) == 0) = true := rfl
      have HR := Lib.hid (repeat_any N 0 (by decide) (by simp) HD0.out)
      go_wp2_with fail
      rw [← HD.out]
      refine HR.out.mono ?_
      rintro e w2 ⟨rfl, hc2, lv2, hD2⟩
      rw [List.nil_append] at hD2
      have HD2 := Lib.hid hD2
      obtain ⟨e1, e2⟩ : (decL 0 0 b).1 = E ∧ V = List.replicate N 0 := by first | exact HE2.out rfl | exact HE2.out trivial
      have hx : N - (List.replicate N 0).length = 0 := by simp
      clear hc2 hD2
      go_wp2
      refine ⟨b, List.replicate N 0, _, _, _, _, _, _, _, _, _, _, _, _, _, _, _, _, _, _, _, _, _, _, _, _, _, _, _, _, _, _, _, by rw [hx]; exact e1, fun _ => ?_, fun _ => by simp, rfl, HD2.out⟩
      rw [hx, decL_zero, e2]; simp
    · have hbw : ((W : Int) == 0) = false := by simp; omega
      obtain ⟨e1, e2⟩ := HE3.out h0
      have H0 := Lib.hid h0
      clear h0
      go_wp2
      rw [← HD.out]
      exact ⟨b, [], _, _, _, _, _, _, _, _, _, _, _, _, _, _, _, _, _, _, _, _, _, _, _, _, _, _, _, _, _, _, _, e1, fun _ => by rw [e2]; rfl, fun h => absurd h H0.out, rfl, HD0.out⟩
  rintro a' wi ⟨r, X, bv', lv', u9, u10, u11, u12, u13, u14, u15, u16, u17, u18, u19, u20, u21, u22, u23, u24, u25, u26, u27, u28, u29, u30, u31, u32, u33, u34, u35, u36, u37, hE1, hE2, hWX, rfl, hD⟩
  have HDI := Lib.hid hD; have HE1 := Lib.hid hE1; have HEV := Lib.hid hE2; have HWX := Lib.hid hWX
  have hll := hD.ll
  have HLK := Lib.hid (lack_any hD)
  obtain ⟨k, hk⟩ : ∃ k, k = N - X.length := ⟨_, rfl⟩
  rw [← hk] at HLK HE1 HEV
  have HK := Lib.hid hk
  clear hD hE1 hE2 hWX hk
  by_cases hk0 : k = 0
  · have hd0 : ¬ 0 < k := by omega
    subst hk0
    go_wp2_with fail
    refine HLK.out.mono ?_
    rintro e w2 ⟨rfl, q, rfl⟩
    have HD2 := Lib.hid (HDI.out.keep ((Chg.refl [] wi).drewN q))
    obtain ⟨bo, bc, hbv, hb1, hb2⟩ := HD2.out.bs.shape
    subst hbv
    have hlo := HD2.out.lo
    obtain ⟨lo, lc, rfl⟩ := own_shape hlo
    obtain ⟨c0, -, -, c3⟩ := HD2.out.cells
    rw [nv_length] at c0
    have hz := HE1.out
    rw [decL_zero] at hz
    have hz : (if r = [] then 0 else 9) = E := hz
    have HLO := Lib.hid hlo
    obtain ⟨W2, hW2⟩ : ∃ W2, W2 = wi.drewN q := ⟨_, rfl⟩
    rw [← hW2] at c0 c3 HD2 HLO ⊢
    obtain ⟨rl, hrl⟩ : ∃ rl, rl = r.length := ⟨_, rfl⟩
    rw [← hrl] at c0
    clear hW2 hlo hb1
    by_cases hr : r = []
    · have hE0 : E = 0 := by rw [← hz, if_pos hr]
      have hrz : ¬ 0 < rl := by rw [hrl, hr]; simp
      have HV := Lib.hid (HEV.out hE0)
      subst hE0
      clear hz hr hrl
      go_wp2
      go_wp2
      simp only [Exit.jump]
      go_ret2
      refine ⟨_, rfl, ?_⟩
      rw [if_pos rfl]
      have hv := HV.out
      rw [decL_zero, List.append_nil] at hv
      rw [← hv]
      exact ⟨HD2.out.c0, HLO.out⟩
    · have hE0 : E = 9 := by rw [← hz, if_neg hr]
      have hrz : 0 < rl := by rw [hrl]; exact List.length_pos_iff.2 hr
      subst hE0
      clear hz hr hrl
      go_wp2
      simp only [Exit.jump]
      go_ret2
      refine ⟨.slice none 0 0, rfl, ?_⟩
      rw [if_neg (by decide)]
      exact made_nil_i _ _ HD2.out.c0
  · have hd0 : 0 < k := by omega
    have hW1 : 1 ≤ W := by
      have h1 := HWX.out; have h2 := HK.out
      by_cases h : W = 0
      · have := h1 h; omega
      · omega
    go_wp2_with fail
    refine HLK.out.mono ?_
    rintro e w2 ⟨rfl, q, rfl⟩
    have HPA := Lib.hid (part10_any hW1 (HDI.out.keep ((Chg.refl [] wi).drewN q)))
    rw [← HK.out] at HPA
    go_wp2_with fail
    refine HPA.out.mono ?_
    rintro e w3 ⟨rfl, hc3, hD3⟩
    have HC3 := Lib.hid hc3; have HD3 := Lib.hid hD3
    obtain ⟨x, hx⟩ : ∃ x, x = partL W k r := ⟨_, rfl⟩
    rw [← hx] at HD3 ⊢
    have HX := Lib.hid hx
    clear hc3 hD3 hx
    by_cases hx0 : x.1 = 0
    · have hbx : ((x.1 : Int) != 0) = false := by rw [hx0]; rfl
      obtain ⟨bv3, lv3, hD4⟩ := HD3.out hx0
      have hlen := partL_len W k r hd0 (by rw [← HX.out]; exact hx0)
      rw [← HX.out] at hlen
      have hok := decL_ok W k r (by omega) (by rw [← HX.out]; exact hx0)
      rw [← HX.out] at hok
      have hka : N - (X ++ x.2.1).length = k - x.2.1.length := by rw [List.length_append]; have := HK.out; omega
      have HD4 := Lib.hid hD4
      have hm : N - slen ((w3.cell? ⟨d, 3, none⟩).getD undef) < N - slen ((wi.cell? ⟨d, 3, none⟩).getD undef) := by
        rw [hD4.cells.2.2.2, HDI.out.cells.2.2.2]
        obtain ⟨o1, c1, e1⟩ := own_shape hD4.lo
        obtain ⟨o2, c2, e2⟩ := own_shape HDI.out.lo
        rw [e1, e2]
        simp only [Option.getD_some, slen, List.length_append]
        have := HK.out
        omega
      have HM := Lib.hid hm
      have H1 := Lib.hid (show (decL W (N - (X ++ x.2.1).length) x.2.2).1 = E by rw [hka, ← HE1.out, hok])
      have H2 := Lib.hid (show E = 0 → (X ++ x.2.1) ++ (decL W (N - (X ++ x.2.1).length) x.2.2).2 = V from fun h => by
        rw [hka, ← HEV.out h, hok, List.append_assoc])
      clear hx0 hD4 hlen hok hka hm
      go_wp2
      go_step3
      exact ⟨rfl, ⟨x.2.2, X ++ x.2.1, bv3, lv3, _, _, _, _, _, _, _, _, _, _, _, _, _, _, _, _, _, _, _, _, _, _, _, _, _, _, _, _, _, H1.out, H2.out, fun h => absurd h (by omega), rfl, HD4.out⟩, HM.out⟩
    · have hbx : ((x.1 : Int) != 0) = true := by simpa using hx0
      have hbad := decL_bad W k r (by omega) (by rw [← HX.out]; exact hx0)
      rw [← HX.out] at hbad
      have hEx : E = x.1 := by rw [← HE1.out, hbad]
      have HEX := Lib.hid hEx; have HX0 := Lib.hid hx0
      clear hx0 hbad hEx
      go_wp2
      simp only [Exit.jump]
      go_ret2
      refine ⟨.slice none 0 0, by rw [HEX.out]; rfl, ?_⟩
      rw [if_neg (by rw [HEX.out]; exact HX0.out)]
      exact made_nil_i _ _ HC3.out

theorem decode_any (bv : Value) (b : List Nat) (n wd : Int) (w : World) (hS : Seen w bv (nv .u8 b)) (hb : ∀ x ∈ b, x < 2 ^ 8) :
    Calls Try.prog 8 #[bv, .int .i64 n, .int .i64 wd] w (DecOut b n wd w) := by
  by_cases h : n < 0 ∨ 4000 < n ∨ wd < 0 ∨ 16 < wd
  · exact decode_args bv b n wd w h
  · have := decode_yes bv b n.toNat wd.toNat w (by omega) (by omega) hS hb
    rwa [Int.toNat_of_nonneg (by omega), Int.toNat_of_nonneg (by omega)] at this

end Go.Proofs.Ytlhdicbhanncnaa
