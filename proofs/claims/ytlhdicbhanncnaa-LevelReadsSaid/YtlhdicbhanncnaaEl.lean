/- level's reference: Decode of width 1 to 16, any bytes. -/
import Derived.Test.YtlhdicbhanncnaaEk
namespace Go.Proofs.Ytlhdicbhanncnaa
open Go.RowKit
set_option linter.unusedVariables false
set_option linter.unusedSimpArgs false

theorem u64_nat (n : Nat) (h : n < 18446744073709551616) : IntKind.u64.wrap (n : Int) = (n : Int) := by
  have e : IntKind.u64.wrap (n : Int) = (n : Int) % 18446744073709551616 := by simp [IntKind.wrap, IntKind.bits, IntKind.signed]
  rw [e]; omega

theorem XS.err0 {w : World} {x M : Nat} {b : List Nat} {a : Nat} (h : XS w x M b a 0) : Go.Proofs.Ytlhdicbhanncnaa.errM w x = 1 := by rw [h.errM, if_pos rfl]
theorem XS.err1 {w : World} {x M : Nat} {b : List Nat} {a : Nat} {e : Int} (h : XS w x M b a e) (he : e ≠ 0) : Go.Proofs.Ytlhdicbhanncnaa.errM w x = 0 := by rw [h.errM, if_neg he]
theorem grp_nums (k : Nat) (h1 : 1 ≤ k) (h : k ≤ 4000) : ∃ k1 gA : Nat, IntKind.u64.wrap ((k : Int) - 1) = (k1 : Int) ∧ IntKind.u64.wrap (8 * (k1 : Int)) = (gA : Int) ∧ gA = 8 * (k - 1) := by
  refine ⟨k - 1, 8 * (k - 1), ?_, ?_, rfl⟩
  · rw [show (k : Int) - 1 = ((k - 1 : Nat) : Int) by omega]
    exact u64_nat _ (by omega)
  · rw [show 8 * ((k - 1 : Nat) : Int) = ((8 * (k - 1) : Nat) : Int) by omega]
    exact u64_nat _ (by omega)
theorem mul_nums (k wd kw : Nat) (h : kw = k * wd) (hb : kw ≤ 8000) : IntKind.i64.wrap ((k : Int) * (wd : Int)) = (kw : Int) ∧ Go.RowKit.wrap64 ((k : Int) * (wd : Int)) = (kw : Int) := by
  have e : (k : Int) * (wd : Int) = (kw : Int) := by rw [h]; exact (Int.natCast_mul k wd).symm
  rw [e]
  exact ⟨IntWalk.i64_in _ (by omega), IntWalk.wrap64_in _ (by omega)⟩
theorem min_pos {j q : Nat} (h : 8 ≤ j) (hq : 1 ≤ q) : 1 ≤ min j q := by omega
theorem meas_down {n p m e1 e2 : Nat} (hp : p < n) (hm : 1 ≤ m) (h1 : e1 ≤ 1) (h2 : e2 = 1) : 2 * (n - (p + m)) + e1 < 2 * (n - p) + e2 := by omega
theorem u64_small {j : Nat} (h : j ≤ 4000) : IntKind.u64.wrap (j : Int) = (j : Int) := u64_nat j (by omega)
theorem succ_wraps {j : Nat} (h : j ≤ 4000) : IntKind.i64.wrap ((j : Int) + 1) = (j : Int) + 1 ∧ Go.RowKit.wrap64 ((j : Int) + 1) = (j : Int) + 1 := ⟨IntWalk.i64_in _ (by omega), IntWalk.wrap64_in _ (by omega)⟩
theorem i64_16 {g : Nat} (h : g < 65536) : IntKind.i64.wrap (g : Int) = (g : Int) := IntWalk.i64_in _ (by omega)
theorem get_at {G : List Nat} {g8 j : Nat} (hl : G.length = g8) (hj : j < g8) : G[j]? = some (G.getD j 0) := by
  rw [List.getD_eq_getElem?_getD, List.getElem?_eq_getElem (by omega)]; rfl
theorem take_lt {G : List Nat} {j q g : Nat} (h : j < q) (hg : G[j]? = some g) : (G.take j).take q = G.take j ∧ (G.take (j + 1)).take q = G.take j ++ [g] ∧ (G.take j).drop q = [] ∧ (G.take (j + 1)).drop q = [] := by
  refine ⟨?_, ?_, ?_, ?_⟩
  · rw [List.take_take, Nat.min_eq_right (by omega)]
  · rw [List.take_take, Nat.min_eq_right (by omega), List.take_add_one, hg]; rfl
  · rw [List.drop_eq_nil_iff, List.length_take]; omega
  · rw [List.drop_eq_nil_iff, List.length_take]; omega
theorem take_ge {G : List Nat} {g8 j q g : Nat} (h : ¬ j < q) (hl : G.length = g8) (hg : G[j]? = some g) : min (j + 1) q = min j q ∧ (G.take (j + 1)).take q = (G.take j).take q ∧ (G.take (j + 1)).drop q = (G.take j).drop q ++ [g] := by
  have hj := (List.getElem?_eq_some_iff.1 hg).1
  refine ⟨by omega, ?_, ?_⟩
  · rw [List.take_take, List.take_take]; congr 1; omega
  · rw [List.take_add_one, hg, List.drop_append_of_le_length (by rw [List.length_take]; omega)]; rfl
theorem app_room {p j : Nat} (hp : p ≤ 4000) (hj : j ≤ 4000) : p + j + 1 ≤ maxLen ∧ (p + j + 1) * 8 ≤ 140737488355328 := by
  unfold maxLen
  omega
theorem meas_up {j g : Nat} (h : j < g) : g - ((j : Int) + 1).toNat < g - ((j : Int)).toNat := by omega
theorem own_apart10 {w : World} {B B' T T' s s' : Nat} {v v' : Value} {n n' : Nat} {xs ys : List Value} (h : w.ownsRow B T s v n xs) (h' : w.ownsRow B' T' s' v' n' ys) (hT : T ≠ T') : ∀ g, v.ownBlock = some g → g ∉ v'.ownBlock.toList := by
  intro g hg hm
  simp at hm
  obtain ⟨cur, fr, hb⟩ := tagged_of_own h' g hm
  exact (tagged_of_own h).ne hb hT g hg rfl
theorem len_take {c : List Nat} {m : Nat} (h : ¬ c.length < m) : (c.take m).length = m := by rw [List.length_take]; omega
theorem eight_nums {k g8 : Nat} (h1 : 1 ≤ k) (h5 : k ≤ 500) (h : g8 = k * 8) : 8 ≤ g8 ∧ g8 ≤ 4000 := by omega
theorem eight_wraps {k g8 : Nat} (h5 : k ≤ 500) (h : g8 = k * 8) : IntKind.i64.wrap (8 * (k : Int)) = (g8 : Int) ∧ Go.RowKit.wrap64 (8 * (k : Int)) = (g8 : Int) := by
  have e : 8 * (k : Int) = (g8 : Int) := by omega
  rw [e]
  exact ⟨IntWalk.i64_in _ (by omega), IntWalk.wrap64_in _ (by omega)⟩

set_option maxRecDepth 100000 in
set_option maxHeartbeats 8000000 in
theorem rdec_yes (bv : Value) (b : List Nat) (n wd : Nat) (w : World) (hn : n ≤ 4000) (hwd : 1 ≤ wd ∧ wd ≤ 16) (hS : Seen w bv (nv .u8 b)) (hb : ∀ x ∈ b, x < 256) (hbl : b.length ≤ 1000000000) :
    Calls Try.prog 9 #[bv, .int .i64 (n : Int), .int .i64 (wd : Int)] w (DecOut b n wd w) := by
  obtain ⟨i0, hi, hz0, hz1, hz2⟩ := info_int
  have HN := Lib.hid (xsNew bv b w hS hb hbl)
  have HBY := Lib.hid hb
  have hn1 : ¬ ((n : Int) < 0) := by omega
  have hn2 : ¬ ((4000 : Int) < (n : Int)) := by omega
  have hw1 : ¬ ((wd : Int) < 0) := by omega
  have hw2 : ¬ ((16 : Int) < (wd : Int)) := by omega
  have hw3 : ((wd : Int) == 0) = false := by simp; omega
  have hw4 : ¬ ((wd : Int) = 0) := by omega
  obtain ⟨z8, hz8⟩ : ∃ z8, z8 = (wd + 7) / 8 := ⟨_, rfl⟩
  have hz8b : 1 ≤ z8 ∧ z8 ≤ 2 := by omega
  obtain ⟨s7, hs7⟩ : ∃ s7, s7 = wd + 7 := ⟨_, rfl⟩
  have hwz : IntKind.i64.wrap ((wd : Int) + 7) = (s7 : Int) := by rw [IntWalk.i64_in _ (by omega)]; omega
  have hwz6 : Go.RowKit.wrap64 ((wd : Int) + 7) = (s7 : Int) := by rw [show (wd : Int) + 7 = (s7 : Int) by omega]; exact IntWalk.wrap64_in _ (by omega)
  have hwq : (s7 : Int).tdiv 8 = (z8 : Int) := by rw [Int.tdiv_eq_ediv_of_nonneg (by omega), hz8]; omega
  have hwq1 : (s7 : Int) / 8 = (z8 : Int) := by rw [hz8]; omega
  have hwq2 : IntKind.i64.wrap (z8 : Int) = (z8 : Int) := IntWalk.i64_in _ (by omega)
  have hwq3 : Go.RowKit.wrap64 (z8 : Int) = (z8 : Int) := IntWalk.wrap64_in _ (by omega)
  clear hs7
  have HZ8 := Lib.hid hz8
  obtain ⟨T1, hT1⟩ : ∃ T1, T1 = 2 ^ wd := ⟨_, rfl⟩
  have hT1b : 2 ≤ T1 ∧ T1 ≤ 65536 := by
    rw [hT1]
    have h1 := Nat.pow_le_pow_right (show 0 < 2 by decide) hwd.1
    have h2 := Nat.pow_le_pow_right (show 0 < 2 by decide) hwd.2
    omega
  have hTp : (2 : Int) ^ wd = (T1 : Int) := by rw [hT1]; exact (Int.natCast_pow 2 wd).symm
  have hTw : IntKind.u64.wrap ((2 : Int) ^ wd) = (T1 : Int) := by rw [hTp]; exact u64_nat T1 (by omega)
  obtain ⟨T, hT⟩ : ∃ T, T = T1 - 1 := ⟨_, rfl⟩
  have hTb : T + 1 = T1 := by omega
  have hTw2 : IntKind.u64.wrap ((T1 : Int) - 1) = (T : Int) := by rw [← u64_nat T (by omega)]; congr 1; omega
  have hT0 : decide ((T : Int) < 0) = false := by simp
  have HT1 := Lib.hid hT1
  clear hTp hT hT1
  clear hS hb hz8
  go_enter Try.func9, Try.ntmps9
  go_wp2_with (first
    | (go_at_call 21; (with_reducible refine HN.out.mono ?_); rintro e w1 ⟨x, rfl, hc, hx, hxr⟩; have HC1 := Lib.hid hc; have HX1 := Lib.hid hx; have HXR := Lib.hid hxr; clear hc hx hxr)
    | fail)
  obtain ⟨M, hM⟩ : ∃ M, M = w1.heap.size := ⟨_, rfl⟩
  rw [← hM] at HXR
  have HM := Lib.hid hM
  clear hM
  go_loopw [9] (fun lv w' => lv = .slice none 0 0 ∧ w' = w1) (fun _ _ => 0)
  case atStart => exact ⟨rfl, rfl⟩
  case round =>
    obtain ⟨rfl, hwr⟩ := hrel
    subst hwr
    have hBw : w.heap.size ≤ M := by rw [HM.out]; exact HC1.out.size
    go_wp2
    go_loopw [9] (fun lv w' => ∃ (a e : Nat) (l : List Nat), slen lv = l.length ∧ Chg [] w w' ∧ M ≤ w'.heap.size ∧ w'.ownsRow M 3 1 lv l.length (nv .i64 l) ∧ XS w' x M b a (e : Int) ∧ LvJ wd n b a e l) (fun lv w' => 2 * (n - slen lv) + errM w' x)
    case atStart => exact ⟨0, 0, [], rfl, HC1.out, by rw [HM.out]; exact Nat.le_refl _, World.ownsRow_nil _ _ _ _, HXR.out, LvJ.start wd n b⟩
    case round =>
      obtain ⟨a, e, l, hsl, hc, hB, ho, hxs, hlv⟩ := hrel
      obtain ⟨xo, xc, rfl⟩ := own_shape ho
      have HC := Lib.hid hc; have HO := Lib.hid ho; have HXS := Lib.hid hxs; have HLV := Lib.hid hlv
      have ec := hxs.err
      obtain ⟨p, hp⟩ : ∃ p, p = l.length := ⟨_, rfl⟩
      rw [← hp] at HO ⊢
      have HP := Lib.hid hp
      clear hc ho hxs hlv hsl hp
      by_cases he : e = 0
      · subst he
        have hpn : p ≤ n := by rw [HP.out]; exact (HLV.out.1 rfl).1
        by_cases hlt : p < n
        · have d1 : decide ((p : Int) < (n : Int)) = true := by simp; omega
          have HVR := Lib.hid (xsVRead HXS.out)
          obtain ⟨N, hNe⟩ : ∃ N, N = (gl 0 (b.drop a)).1 := ⟨_, rfl⟩
          obtain ⟨E, hEe⟩ : ∃ E, E = (gl 0 (b.drop a)).2 := ⟨_, rfl⟩
          obtain ⟨Z, hZe⟩ : ∃ Z, Z = gv (b.drop a) := ⟨_, rfl⟩
          have hZlt : Z < 18446744073709551616 := by rw [hZe]; exact gv_lt _ (fun y hy => HBY.out y (List.mem_of_mem_drop hy))
          rw [← hNe, ← hEe, ← hZe] at HVR
          have HNe := Lib.hid hNe; have HEe := Lib.hid hEe; have HZe := Lib.hid hZe
          have hlp : l.length < n := by rw [← HP.out]; exact hlt
          have HLP := Lib.hid hlp
          clear hNe hEe hZe hlp
          by_cases hE0 : E ≠ 0
          · simp only [if_pos hE0] at HVR
            have HLF := Lib.hid (HLV.out.fail (a' := a) (l' := l) HLP.out (by rw [part_head (by rw [← HEe.out]; exact hE0), ← HEe.out]) hE0)
            have HR := Lib.hid (dec_bad hn hwd HLF.out hE0)
            have hne : ((E : Int) != 0) = true := by simpa using hE0
            have HNE := Lib.hid (show (E : Int) ≠ 0 by omega)
            clear hE0
            go_wp2_with (first
              | (go_at_call 22; (with_reducible refine HVR.out.mono ?_); rintro e w2 ⟨rfl, hc2, hx2⟩; have HC2 := Lib.hid (HC.out.trans hc2 (by intro t ht; simp at ht; rw [ht]; exact .inr HX1.out)); have HX2 := Lib.hid hx2; have ec2 := hx2.err; have HO2 := Lib.hid (own_chg HO.out hc2 (fun g hg hm => by simp at hm; have := own_ge HO.out g hg; have := HXS.out.xM; omega)); have hB2 := Nat.le_trans hB hc2.size; clear hc2 hx2)
              | (go_at_call 27; (with_reducible refine (xsEnd_err HX2.out HNE.out).mono ?_); rintro e w9 ⟨rfl, hc9⟩; have HC9 := Lib.hid (HC2.out.trans hc9 (by simp)); clear hc9)
              | fail)
            go_ret2
            exact DecOut.bad HR.out rfl HC9.out
          · have hE00 : E = 0 := by omega
            have HEz := Lib.hid hE00
            simp only [if_neg hE0] at HVR
            clear hE0 hE00
            obtain ⟨k, hke⟩ : ∃ k, k = Z / 2 := ⟨_, rfl⟩
            obtain ⟨r, hre⟩ : ∃ r, r = Z % 2 := ⟨_, rfl⟩
            have hr2 : r < 2 := by omega
            have hdv : (Z : Int) / 2 = (k : Int) := by omega
            have hsr : (Z : Int) >>> (1 : Nat) = (k : Int) := by rw [Int.shiftRight_eq_div_pow]; omega
            have hand : bits BinOp.and IntKind.u64 (Z : Int) 1 = (r : Int) := by rw [and1_64 Z hZlt, hre]
            obtain ⟨q, hqe⟩ : ∃ q, q = n - p := ⟨_, rfl⟩
            have hq : 1 ≤ q ∧ q ≤ 4000 := by omega
            have hwl : IntKind.i64.wrap ((n : Int) - (p : Int)) = (q : Int) := by rw [IntWalk.i64_in _ (by omega)]; omega
            have hwl6 : Go.RowKit.wrap64 ((n : Int) - (p : Int)) = (q : Int) := by rw [show (n : Int) - (p : Int) = (q : Int) by omega]; exact IntWalk.wrap64_in _ (by omega)
            have hul : IntKind.u64.wrap (q : Int) = (q : Int) := u64_nat q (by omega)
            have hqnp : q = n - p := hqe
            obtain ⟨c, hce⟩ : ∃ c, c = b.drop (a + N) := ⟨_, rfl⟩
            have HQ := Lib.hid (show n - l.length = q by rw [hqe, HP.out])
            have hpq : p + q = n := by omega
            have HCE := Lib.hid hce
            have HPT := Lib.hid (show partL wd q (b.drop a) = if r = 0 then runL wd q k c else grpL wd q k c by
              rw [partL_eq, ← HEe.out, ← HNe.out, ← HZe.out, if_neg (by simp [HEz.out]), ← hke, ← hre, List.drop_drop, hce])
            clear hke hre hqe hce hqnp hZlt
            by_cases hr0 : r = 0
            · rw [if_pos hr0] at HPT
              subst hr0
              have hb0 : (((0 : Nat) : Int) == 0) = true := rfl
              by_cases hkb : k = 0 ∨ q < k
              · have HLF := Lib.hid (fun (l' : List Nat) => HLV.out.fail (a' := a + N) (l' := l') (e := 10) HLP.out (by rw [HQ.out, HPT.out]; unfold runL; rw [if_pos hkb]) (by decide))
                by_cases hk0 : k = 0
                · subst hk0
                  clear hkb
                  go_wp2_with (first
                    | (go_at_call 22; (with_reducible refine HVR.out.mono ?_); rintro e w2 ⟨rfl, hc2, hx2⟩; have HC2 := Lib.hid (HC.out.trans hc2 (by intro t ht; simp at ht; rw [ht]; exact .inr HX1.out)); have HX2 := Lib.hid hx2; have ec2 := hx2.err; have HO2 := Lib.hid (own_chg HO.out hc2 (fun g hg hm => by simp at hm; have := own_ge HO.out g hg; have := HXS.out.xM; omega)); have hB2 := Nat.le_trans hB hc2.size; clear hc2 hx2)
                    | (go_at_call 23; (with_reducible refine (xsFail HX2.out 10).mono ?_); rintro e w3 ⟨rfl, hc3, hx3⟩; have HC3 := Lib.hid (HC2.out.trans hc3 (by intro t ht; simp at ht; rw [ht]; exact .inr HX1.out)); have HX3 := Lib.hid hx3; have ec3 := hx3.err; have HO3 := Lib.hid (own_chg HO2.out hc3 (fun g hg hm => by simp at hm; have := own_ge HO2.out g hg; have := HX2.out.xM; omega)); have hB3 := Nat.le_trans hB2 hc3.size; clear hc3 hx3)
                    | (go_at_call 24; (with_reducible refine (xsGet_err HX3.out (by decide) _).mono ?_); rintro e w8 ⟨rfl, rfl⟩)
                    | fail)
                  go_loopw [9, 14] (fun lv i w' => lv = .slice xo p xc ∧ i = .int .u64 0 ∧ w' = w3) (fun _ _ _ => 0)
                  case atStart => exact ⟨rfl, rfl, rfl⟩
                  case round =>
                    obtain ⟨rfl, rfl, hw⟩ := hrel
                    subst hw
                    go_wp2
                    go_roundw
                    case rel => exact ⟨a + N, 10, l, by rw [← HP.out]; rfl, HC3.out, hB3, by rw [← HP.out]; exact HO3.out, HX3.out, HLF.out l⟩
                    case measure =>
                      have h1 := HX3.out.err1 (by decide)
                      have h2 := HXS.out.err0
                      simp only [slen]
                      omega
                · have hk0b : ((k : Int) == 0) = false := by simpa using hk0
                  have hqkn : q < k := by omega
                  have hqk : decide ((q : Int) < (k : Int)) = true := by simpa using hqkn
                  have hkpn : 0 < k := by omega
                  have hkp : decide ((0 : Int) < (k : Int)) = true := by simpa using hkpn
                  clear hkb
                  go_wp2_with (first
                    | (go_at_call 22; (with_reducible refine HVR.out.mono ?_); rintro e w2 ⟨rfl, hc2, hx2⟩; have HC2 := Lib.hid (HC.out.trans hc2 (by intro t ht; simp at ht; rw [ht]; exact .inr HX1.out)); have HX2 := Lib.hid hx2; have ec2 := hx2.err; have HO2 := Lib.hid (own_chg HO.out hc2 (fun g hg hm => by simp at hm; have := own_ge HO.out g hg; have := HXS.out.xM; omega)); have hB2 := Nat.le_trans hB hc2.size; clear hc2 hx2)
                    | (go_at_call 23; (with_reducible refine (xsFail HX2.out 10).mono ?_); rintro e w3 ⟨rfl, hc3, hx3⟩; have HC3 := Lib.hid (HC2.out.trans hc3 (by intro t ht; simp at ht; rw [ht]; exact .inr HX1.out)); have HX3 := Lib.hid hx3; have ec3 := hx3.err; have HO3 := Lib.hid (own_chg HO2.out hc3 (fun g hg hm => by simp at hm; have := own_ge HO2.out g hg; have := HX2.out.xM; omega)); have hB3 := Nat.le_trans hB2 hc3.size; clear hc3 hx3)
                    | (go_at_call 24; (with_reducible refine (xsGet_err HX3.out (by decide) _).mono ?_); rintro e w8 ⟨rfl, rfl⟩)
                    | fail)
                  go_loopw [9, 14] (fun lv i w' => lv = .slice xo p xc ∧ i = .int .u64 0 ∧ w' = w3) (fun _ _ _ => 0)
                  case atStart => exact ⟨rfl, rfl, rfl⟩
                  case round =>
                    obtain ⟨rfl, rfl, hw⟩ := hrel
                    subst hw
                    go_wp2
                    go_roundw
                    case rel => exact ⟨a + N, 10, l, by rw [← HP.out]; rfl, HC3.out, hB3, by rw [← HP.out]; exact HO3.out, HX3.out, HLF.out l⟩
                    case measure =>
                      have h1 := HX3.out.err1 (by decide)
                      have h2 := HXS.out.err0
                      simp only [slen]
                      omega
              · have hk0b : ((k : Int) == 0) = false := by
                  have : ¬ k = 0 := by omega
                  simpa using this
                have hqkn : ¬ q < k := by omega
                have hqk : decide ((q : Int) < (k : Int)) = false := by simpa using hqkn
                have hkpn : 0 < k := by omega
                have hkp : decide ((0 : Int) < (k : Int)) = true := by simpa using hkpn
                have hkq : 1 ≤ k ∧ k ≤ q := by omega
                have HZ88 := Lib.hid (show z8 ≤ 8 from Nat.le_trans hz8b.2 (by decide))
                have HKB := Lib.hid hkb
                clear hkb
                by_cases hcc : c.length < z8
                · have HCC := Lib.hid (show (b.drop (a + N)).length < z8 by rw [← HCE.out]; exact hcc)
                  have HLF := Lib.hid (fun (l' : List Nat) => HLV.out.fail (a' := a + N) (l' := l') (e := 8) HLP.out (by rw [HQ.out, HPT.out]; exact run_part_cut HKB.out HZ8.out hcc) (by decide))
                  clear hcc
                  go_wp2_with (first
                    | (go_at_call 22; (with_reducible refine HVR.out.mono ?_); rintro e w2 ⟨rfl, hc2, hx2⟩; have HC2 := Lib.hid (HC.out.trans hc2 (by intro t ht; simp at ht; rw [ht]; exact .inr HX1.out)); have HX2 := Lib.hid hx2; have ec2 := hx2.err; have HO2 := Lib.hid (own_chg HO.out hc2 (fun g hg hm => by simp at hm; have := own_ge HO.out g hg; have := HXS.out.xM; omega)); have hB2 := Nat.le_trans hB hc2.size; clear hc2 hx2)
                    | (go_at_call 24; (with_reducible refine (xsGet_cut HX2.out z8 hz8b.1 HZ88.out HCC.out).mono ?_); rintro e w3 ⟨rfl, hc3, hx3⟩; have HC3 := Lib.hid (HC2.out.trans hc3 (by intro t ht; simp at ht; rw [ht]; exact .inr HX1.out)); have HX3 := Lib.hid hx3; have ec3 := hx3.err; have HO3 := Lib.hid (own_chg HO2.out hc3 (fun g hg hm => by simp at hm; have := own_ge HO2.out g hg; have := HX2.out.xM; omega)); have hB3 := Nat.le_trans hB2 hc3.size; clear hc3 hx3)
                    | fail)
                  go_loopw [9, 14] (fun lv i w' => lv = .slice xo p xc ∧ i = .int .u64 0 ∧ w' = w3) (fun _ _ _ => 0)
                  case atStart => exact ⟨rfl, rfl, rfl⟩
                  case round =>
                    obtain ⟨rfl, rfl, hw⟩ := hrel
                    subst hw
                    go_wp2
                    go_roundw
                    case rel => exact ⟨a + N, 8, l, by rw [← HP.out]; rfl, HC3.out, hB3, by rw [← HP.out]; exact HO3.out, HX3.out, HLF.out l⟩
                    case measure =>
                      have h1 := HX3.out.err1 (by decide)
                      have h2 := HXS.out.err0
                      simp only [slen]
                      omega
                · have HCC := Lib.hid (show ¬ (b.drop (a + N)).length < z8 by rw [← HCE.out]; exact hcc)
                  obtain ⟨V, hV⟩ : ∃ V, V = nm (c.take z8) := ⟨_, rfl⟩
                  have HVV := Lib.hid (show V = nm ((b.drop (a + N)).take z8) by rw [← HCE.out]; exact hV)
                  have hV64 : V < 65536 := by
                    rw [hV]
                    have h1 := nm_lt8 (a := c.take z8) (fun y hy => HBY.out y (List.mem_of_mem_drop (by rw [← HCE.out]; exact List.mem_of_mem_take hy)))
                    rw [List.length_take] at h1
                    have h2 : min z8 c.length ≤ 2 := Nat.le_trans (Nat.min_le_left _ _) hz8b.2
                    have h3 := Nat.pow_le_pow_right (show 0 < 256 by decide) h2
                    exact Nat.lt_of_lt_of_le h1 (Nat.le_trans h3 (by decide))
                  have HV0 := Lib.hid hV
                  clear hV
                  by_cases hbig : T1 ≤ V
                  · have hTVn : T < V := by omega
                    have hTV : decide ((T : Int) < (V : Int)) = true := by simpa using hTVn
                    have HLF := Lib.hid (fun (l' : List Nat) => HLV.out.fail (a' := a + N + z8) (l' := l') (e := 10) HLP.out (by rw [HQ.out, HPT.out]; exact run_part_big HKB.out HZ8.out hcc HV0.out (by rw [← HT1.out]; exact hbig)) (by decide))
                    clear hcc hbig
                    go_wp2_with (first
                      | (go_at_call 22; (with_reducible refine HVR.out.mono ?_); rintro e w2 ⟨rfl, hc2, hx2⟩; have HC2 := Lib.hid (HC.out.trans hc2 (by intro t ht; simp at ht; rw [ht]; exact .inr HX1.out)); have HX2 := Lib.hid hx2; have ec2 := hx2.err; have HO2 := Lib.hid (own_chg HO.out hc2 (fun g hg hm => by simp at hm; have := own_ge HO.out g hg; have := HXS.out.xM; omega)); have hB2 := Nat.le_trans hB hc2.size; clear hc2 hx2)
                      | (go_at_call 24; (with_reducible refine (xsGet_yes HX2.out z8 V hz8b.1 HZ88.out HCC.out HVV.out).mono ?_); rintro e w3 ⟨rfl, hc3, hx3⟩; have HC3 := Lib.hid (HC2.out.trans hc3 (by intro t ht; simp at ht; rw [ht]; exact .inr HX1.out)); have HX3 := Lib.hid hx3; have ec3 := hx3.err; have HO3 := Lib.hid (own_chg HO2.out hc3 (fun g hg hm => by simp at hm; have := own_ge HO2.out g hg; have := HX2.out.xM; omega)); have hB3 := Nat.le_trans hB2 hc3.size; clear hc3 hx3)
                      | (go_at_call 23; (with_reducible refine (xsFail HX3.out 10).mono ?_); rintro e w4 ⟨rfl, hc4, hx4⟩; have HC4 := Lib.hid (HC3.out.trans hc4 (by intro t ht; simp at ht; rw [ht]; exact .inr HX1.out)); have HX4 := Lib.hid hx4; have ec4 := hx4.err; have HO4 := Lib.hid (own_chg HO3.out hc4 (fun g hg hm => by simp at hm; have := own_ge HO3.out g hg; have := HX3.out.xM; omega)); have hB4 := Nat.le_trans hB3 hc4.size; clear hc4 hx4)
                      | fail)
                    go_loopw [9, 14] (fun lv i w' => lv = .slice xo p xc ∧ i = .int .u64 0 ∧ w' = w4) (fun _ _ _ => 0)
                    case atStart => exact ⟨rfl, rfl, rfl⟩
                    case round =>
                      obtain ⟨rfl, rfl, hw⟩ := hrel
                      subst hw
                      go_wp2
                      go_roundw
                      case rel => exact ⟨a + N + z8, 10, l, by rw [← HP.out]; rfl, HC4.out, hB4, by rw [← HP.out]; exact HO4.out, HX4.out, HLF.out l⟩
                      case measure =>
                        have h1 := HX4.out.err1 (by decide)
                        have h2 := HXS.out.err0
                        simp only [slen]
                        omega
                  · have hTVn : ¬ T < V := by omega
                    have hTV : decide ((T : Int) < (V : Int)) = false := by simpa using hTVn
                    have HPK := Lib.hid (show partL wd (n - l.length) (b.drop a) = (0, List.replicate k V, b.drop (a + N + z8)) by
                      rw [HQ.out, HPT.out, run_part_ok HKB.out HZ8.out hcc HV0.out (by rw [← HT1.out]; exact hbig), HCE.out, List.drop_drop])
                    have hwV : IntKind.i64.wrap (V : Int) = (V : Int) := IntWalk.i64_in _ (by omega)
                    clear hcc hbig
                    go_wp2_with (first
                      | (go_at_call 22; (with_reducible refine HVR.out.mono ?_); rintro e w2 ⟨rfl, hc2, hx2⟩; have HC2 := Lib.hid (HC.out.trans hc2 (by intro t ht; simp at ht; rw [ht]; exact .inr HX1.out)); have HX2 := Lib.hid hx2; have ec2 := hx2.err; have HO2 := Lib.hid (own_chg HO.out hc2 (fun g hg hm => by simp at hm; have := own_ge HO.out g hg; have := HXS.out.xM; omega)); have hB2 := Nat.le_trans hB hc2.size; clear hc2 hx2)
                      | (go_at_call 24; (with_reducible refine (xsGet_yes HX2.out z8 V hz8b.1 HZ88.out HCC.out HVV.out).mono ?_); rintro e w3 ⟨rfl, hc3, hx3⟩; have HC3 := Lib.hid (HC2.out.trans hc3 (by intro t ht; simp at ht; rw [ht]; exact .inr HX1.out)); have HX3 := Lib.hid hx3; have ec3 := hx3.err; have HO3 := Lib.hid (own_chg HO2.out hc3 (fun g hg hm => by simp at hm; have := own_ge HO2.out g hg; have := HX2.out.xM; omega)); have hB3 := Nat.le_trans hB2 hc3.size; clear hc3 hx3)
                      | fail)
                    go_loopw [9, 14] (fun lv i w' => ∃ j : Nat, j ≤ k ∧ i = .int .u64 (j : Int) ∧ slen lv = p + j ∧ Chg [] w w' ∧ M ≤ w'.heap.size ∧ w'.ownsRow M 3 1 lv (p + j) (nv .i64 (l ++ List.replicate j V)) ∧ XS w' x M b (a + N + z8) 0) (fun _ i _ => k - (intOf i).toNat)
                    case atStart => exact ⟨0, Nat.zero_le _, rfl, rfl, HC3.out, hB3, by simpa using HO3.out, HX3.out⟩
                    case round =>
                      obtain ⟨j, hj, rfl, hsl, hcj, hBj, hoj, hxj⟩ := hrel
                      obtain ⟨yo, yc, rfl⟩ := own_shape hoj
                      have HCj := Lib.hid hcj; have HOj := Lib.hid hoj; have HXj := Lib.hid hxj
                      have ecj := hxj.err
                      clear hcj hoj hxj hsl
                      by_cases hjk : j < k
                      · have e1 : decide ((j : Int) < (k : Int)) = true := by simpa using hjk
                        have hwj : IntKind.u64.wrap ((j : Int) + 1) = ((j + 1 : Nat) : Int) := by rw [← u64_nat (j + 1) (by omega)]; rfl
                        go_wp2_with (first
                          | (at_builtin; refine wpList_append_own _ rfl _ _ 22 rfl M 3 i0 (.int .i64 0) 1 8 Try.underlying22 hi hz0 hz1 hz2 rfl (by decide) _ _ _ rfl (HOj.out.alloc _) ⟨wr.heap.size, 0, none⟩ 1 1 [.int .i64 (V : Int)] rfl rfl (cell_one_new _ _ _) (by simp [Value.oneCell']) (by unfold maxLen; omega) (by omega) (by simp; omega) ?_; intro v5 w5 ho5 hg5 _; obtain ⟨uo, uc, rfl⟩ := own_shape ho5; have HCG := Lib.hid (show Chg (Value.slice yo (p + j) yc).ownBlock.toList (wr.alloc (.cells #[.int .i64 (V : Int)] 3)) w5 from (Chg.refl _ _).grown hg5 (fun g hg => .inl (by have h : (Value.slice yo (p + j) yc).ownBlock = some g := hg; simp [h]))); have HO5 := Lib.hid ho5; clear ho5 hg5)
                          | fail)
                        have HCA := Lib.hid (show Chg [] wr (wr.alloc (.cells #[.int .i64 (V : Int)] 3)) from (Chg.refl [] wr).alloc _)
                        have HX5 := Lib.hid ((HXj.out.keep HCA.out).above HCG.out (fun g hg => by simp at hg; exact (HOj.out.lt g hg).1))
                        have HC5 := Lib.hid (show Chg [] w w5 from (HCj.out.trans HCA.out (by simp)).trans HCG.out (fun g hg => .inr (by simp at hg; have := (HOj.out.lt g hg).1; omega)))
                        have hB5 : M ≤ w5.heap.size := Nat.le_trans hBj (Nat.le_trans HCA.out.size HCG.out.size)
                        go_roundw
                        case rel => exact ⟨j + 1, hjk, by first | rfl | go_num, by first | rfl | (simp only [slen]; omega), HC5.out, hB5, by
                          rw [List.replicate_succ', ← List.append_assoc, ← Nat.add_assoc]
                          simpa [nv] using HO5.out, HX5.out⟩
                        case measure => simp [intOf]; omega
                      · have e1 : decide ((j : Int) < (k : Int)) = false := by simpa using hjk
                        obtain rfl : j = k := by omega
                        have HLS := Lib.hid (HLV.out.step HLP.out HPK.out (by rw [HQ.out, List.length_replicate]; exact hkq.2))
                        go_wp2
                        go_roundw
                        case rel => exact ⟨a + N + z8, 0, l ++ List.replicate j V, by simp [slen, HP.out], HCj.out, hBj, by rw [List.length_append, List.length_replicate, ← HP.out]; exact HOj.out, HXj.out, HLS.out⟩
                        case measure =>
                          have h1 := HXj.out.err0
                          have h2 := HXS.out.err0
                          simp only [slen]
                          omega
            · have hr1 : r = 1 := by omega
              rw [if_neg hr0] at HPT
              subst hr1
              clear hr0
              have hb0 : (((1 : Nat) : Int) == 0) = false := rfl
              by_cases hkb : k = 0 ∨ (q + 7) / 8 < k
              · have HLF := Lib.hid (HLV.out.fail (a' := a + N) (l' := l) (e := 10) HLP.out (by rw [HQ.out, HPT.out]; unfold grpL; rw [if_pos hkb]) (by decide))
                have HR := Lib.hid (dec_bad hn hwd HLF.out (by decide))
                have HNE := Lib.hid (show (10 : Int) ≠ 0 by decide)
                by_cases hk0 : k = 0
                · subst hk0
                  clear hkb
                  go_wp2_with (first
                    | (go_at_call 22; (with_reducible refine HVR.out.mono ?_); rintro e w2 ⟨rfl, hc2, hx2⟩; have HC2 := Lib.hid (HC.out.trans hc2 (by intro t ht; simp at ht; rw [ht]; exact .inr HX1.out)); have HX2 := Lib.hid hx2; have ec2 := hx2.err; have HO2 := Lib.hid (own_chg HO.out hc2 (fun g hg hm => by simp at hm; have := own_ge HO.out g hg; have := HXS.out.xM; omega)); have hB2 := Nat.le_trans hB hc2.size; clear hc2 hx2)
                    | (go_at_call 23; (with_reducible refine (xsFail HX2.out 10).mono ?_); rintro e w3 ⟨rfl, hc3, hx3⟩; have HC3 := Lib.hid (HC2.out.trans hc3 (by intro t ht; simp at ht; rw [ht]; exact .inr HX1.out)); have HX3 := Lib.hid hx3; have ec3 := hx3.err; have HO3 := Lib.hid (own_chg HO2.out hc3 (fun g hg hm => by simp at hm; have := own_ge HO2.out g hg; have := HX2.out.xM; omega)); have hB3 := Nat.le_trans hB2 hc3.size; clear hc3 hx3)
                    | (go_at_call 27; (with_reducible refine (xsEnd_err HX3.out HNE.out).mono ?_); rintro e w9 ⟨rfl, hc9⟩; have HC9 := Lib.hid (HC3.out.trans hc9 (by simp)); clear hc9)
                    | fail)
                  go_ret2
                  exact DecOut.bad HR.out rfl HC9.out
                · have hk0b : ((k : Int) == 0) = false := by simpa using hk0
                  by_cases hk4 : 4000 < k
                  · have hk4b : decide ((4000 : Int) < (k : Int)) = true := by simp; omega
                    clear hkb
                    go_wp2_with (first
                      | (go_at_call 22; (with_reducible refine HVR.out.mono ?_); rintro e w2 ⟨rfl, hc2, hx2⟩; have HC2 := Lib.hid (HC.out.trans hc2 (by intro t ht; simp at ht; rw [ht]; exact .inr HX1.out)); have HX2 := Lib.hid hx2; have ec2 := hx2.err; have HO2 := Lib.hid (own_chg HO.out hc2 (fun g hg hm => by simp at hm; have := own_ge HO.out g hg; have := HXS.out.xM; omega)); have hB2 := Nat.le_trans hB hc2.size; clear hc2 hx2)
                      | (go_at_call 23; (with_reducible refine (xsFail HX2.out 10).mono ?_); rintro e w3 ⟨rfl, hc3, hx3⟩; have HC3 := Lib.hid (HC2.out.trans hc3 (by intro t ht; simp at ht; rw [ht]; exact .inr HX1.out)); have HX3 := Lib.hid hx3; have ec3 := hx3.err; have HO3 := Lib.hid (own_chg HO2.out hc3 (fun g hg hm => by simp at hm; have := own_ge HO2.out g hg; have := HX2.out.xM; omega)); have hB3 := Nat.le_trans hB2 hc3.size; clear hc3 hx3)
                      | (go_at_call 27; (with_reducible refine (xsEnd_err HX3.out HNE.out).mono ?_); rintro e w9 ⟨rfl, hc9⟩; have HC9 := Lib.hid (HC3.out.trans hc9 (by simp)); clear hc9)
                      | fail)
                    go_ret2
                    exact DecOut.bad HR.out rfl HC9.out
                  · have hk4b : decide ((4000 : Int) < (k : Int)) = false := by simp; omega
                    obtain ⟨k1, gA, hk1, hk8, hkg⟩ := grp_nums k (by omega) (by omega)
                    have hqgn : q ≤ gA := by omega
                    have hqg : decide ((q : Int) ≤ (gA : Int)) = true := by simpa using hqgn
                    clear hkg
                    clear hkb
                    go_wp2_with (first
                      | (go_at_call 22; (with_reducible refine HVR.out.mono ?_); rintro e w2 ⟨rfl, hc2, hx2⟩; have HC2 := Lib.hid (HC.out.trans hc2 (by intro t ht; simp at ht; rw [ht]; exact .inr HX1.out)); have HX2 := Lib.hid hx2; have ec2 := hx2.err; have HO2 := Lib.hid (own_chg HO.out hc2 (fun g hg hm => by simp at hm; have := own_ge HO.out g hg; have := HXS.out.xM; omega)); have hB2 := Nat.le_trans hB hc2.size; clear hc2 hx2)
                      | (go_at_call 23; (with_reducible refine (xsFail HX2.out 10).mono ?_); rintro e w3 ⟨rfl, hc3, hx3⟩; have HC3 := Lib.hid (HC2.out.trans hc3 (by intro t ht; simp at ht; rw [ht]; exact .inr HX1.out)); have HX3 := Lib.hid hx3; have ec3 := hx3.err; have HO3 := Lib.hid (own_chg HO2.out hc3 (fun g hg hm => by simp at hm; have := own_ge HO2.out g hg; have := HX2.out.xM; omega)); have hB3 := Nat.le_trans hB2 hc3.size; clear hc3 hx3)
                      | (go_at_call 27; (with_reducible refine (xsEnd_err HX3.out HNE.out).mono ?_); rintro e w9 ⟨rfl, hc9⟩; have HC9 := Lib.hid (HC3.out.trans hc9 (by simp)); clear hc9)
                      | fail)
                    go_ret2
                    exact DecOut.bad HR.out rfl HC9.out
              · have hk0 : ¬ k = 0 := by omega
                have hk5 : k ≤ 500 := by omega
                have hk0b : ((k : Int) == 0) = false := by simpa using hk0
                have hk4b : decide ((4000 : Int) < (k : Int)) = false := by simp; omega
                have hk1k : 1 ≤ k := by omega
                obtain ⟨k1, gA, hk1, hk8, hkg⟩ := grp_nums k hk1k (by omega)
                have hqgn : ¬ q ≤ gA := by omega
                have hqg : decide ((q : Int) ≤ (gA : Int)) = false := by simpa using hqgn
                clear hkg
                have hki : IntKind.i64.wrap (k : Int) = (k : Int) := IntWalk.i64_in _ (by omega)
                obtain ⟨kw, hkw⟩ : ∃ kw, kw = k * wd := ⟨_, rfl⟩
                have hkwb : kw ≤ 8000 := by
                  rw [hkw]
                  exact Nat.mul_le_mul hk5 hwd.2
                obtain ⟨hkwi, hkwi6⟩ := mul_nums k wd kw hkw hkwb
                have HKB := Lib.hid hkb
                have HKW := Lib.hid hkw
                clear hkb hkw hk0
                by_cases hcc : c.length < kw
                · have HCC := Lib.hid (show (b.drop (a + N)).length < kw by rw [← HCE.out]; exact hcc)
                  have HLF := Lib.hid (HLV.out.fail (a' := a + N) (l' := l) (e := 8) HLP.out (by rw [HQ.out, HPT.out]; exact grp_part_cut HKB.out (by rw [← HKW.out]; exact hcc)) (by decide))
                  have HR := Lib.hid (dec_bad hn hwd HLF.out (by decide))
                  have HNE := Lib.hid (show (8 : Int) ≠ 0 by decide)
                  clear hcc
                  go_wp2_with (first
                    | (go_at_call 22; (with_reducible refine HVR.out.mono ?_); rintro e w2 ⟨rfl, hc2, hx2⟩; have HC2 := Lib.hid (HC.out.trans hc2 (by intro t ht; simp at ht; rw [ht]; exact .inr HX1.out)); have HX2 := Lib.hid hx2; have ec2 := hx2.err; have HO2 := Lib.hid (own_chg HO.out hc2 (fun g hg hm => by simp at hm; have := own_ge HO.out g hg; have := HXS.out.xM; omega)); have hB2 := Nat.le_trans hB hc2.size; clear hc2 hx2)
                    | (go_at_call 25; (with_reducible refine (xsTake_cut HX2.out kw HCC.out).mono ?_); rintro e w3 ⟨rfl, hc3, hx3⟩; have HC3 := Lib.hid (HC2.out.trans hc3 (by intro t ht; simp at ht; rw [ht]; exact .inr HX1.out)); have HX3 := Lib.hid hx3; have ec3 := hx3.err; have HO3 := Lib.hid (own_chg HO2.out hc3 (fun g hg hm => by simp at hm; have := own_ge HO2.out g hg; have := HX2.out.xM; omega)); have hB3 := Nat.le_trans hB2 hc3.size; clear hc3 hx3)
                    | (go_at_call 27; (with_reducible refine (xsEnd_err HX3.out HNE.out).mono ?_); rintro e w9 ⟨rfl, hc9⟩; have HC9 := Lib.hid (HC3.out.trans hc9 (by simp)); clear hc9)
                    | fail)
                  go_ret2
                  exact DecOut.bad HR.out rfl HC9.out
                · have HCC := Lib.hid (show ¬ (b.drop (a + N)).length < kw by rw [← HCE.out]; exact hcc)
                  obtain ⟨G, hG⟩ : ∃ G, G = unpacked (c.take kw) (k * 8) wd := ⟨_, rfl⟩
                  have hGlt : ∀ y ∈ G, y < 65536 := fun y hy => by
                    have h1 := unpacked_lt (c.take kw) (k * 8) wd y (by rw [← hG]; exact hy)
                    have h2 := Nat.pow_le_pow_right (show 0 < 2 by decide) hwd.2
                    exact Nat.lt_of_lt_of_le h1 h2
                  obtain ⟨g8, hg8⟩ : ∃ g8, g8 = k * 8 := ⟨_, rfl⟩
                  have hGl : G.length = g8 := by rw [hG, unpacked_length, hg8]
                  have hg8b : 8 ≤ g8 ∧ g8 ≤ 4000 := eight_nums hk1k hk5 hg8
                  obtain ⟨hw8, hw86⟩ := eight_wraps hk5 hg8
                  have HRG := Lib.hid (fun (wx : World) (bv' : Value) (hs : Seen wx bv' (nv .u8 (c.take kw))) => rgroups_any bv' (c.take kw) k wd wx hk5 hwd.2 ((len_take hcc).trans HKW.out) hs (fun y hy => HBY.out y (List.mem_of_mem_drop (by rw [← HCE.out]; exact List.mem_of_mem_take hy))))
                  rw [← hG, ← hg8] at HRG
                  have HPA := Lib.hid (show (G.drop q).any (fun y => y != 0) = true → (partL wd (n - l.length) (b.drop a)).1 = 10 from fun h => by
                    rw [HQ.out, HPT.out]
                    exact grp_part_bad HKB.out (by rw [← HKW.out]; exact hcc) (by rw [← HKW.out, ← hG]; exact h))
                  have HPO := Lib.hid (show ¬ (G.drop q).any (fun y => y != 0) = true → partL wd (n - l.length) (b.drop a) = (0, G.take q, b.drop (a + N + kw)) from fun h => by
                    rw [HQ.out, HPT.out, grp_part_ok HKB.out (by rw [← HKW.out]; exact hcc) (by rw [← HKW.out, ← hG]; exact h), ← HKW.out, ← hG, HCE.out, List.drop_drop])
                  have HGL := Lib.hid hGl; have HGT := Lib.hid hGlt
                  have HCT := Lib.hid (show (b.drop (a + N)).take kw = c.take kw by rw [← HCE.out])
                  clear hcc hG hg8 hGl hGlt
                  go_wp2_with (first
                    | (go_at_call 22; (with_reducible refine HVR.out.mono ?_); rintro e w2 ⟨rfl, hc2, hx2⟩; have HC2 := Lib.hid (HC.out.trans hc2 (by intro t ht; simp at ht; rw [ht]; exact .inr HX1.out)); have HX2 := Lib.hid hx2; have ec2 := hx2.err; have HO2 := Lib.hid (own_chg HO.out hc2 (fun g hg hm => by simp at hm; have := own_ge HO.out g hg; have := HXS.out.xM; omega)); have hB2 := Nat.le_trans hB hc2.size; clear hc2 hx2)
                    | (go_at_call 25; (with_reducible refine (xsTake_yes HX2.out kw HCC.out).mono ?_); rintro e w3 ⟨tko, tc, rfl, hc3, hs3, hx3⟩; have HS3 := Lib.hid hs3; have HC3 := Lib.hid (HC2.out.trans hc3 (by intro t ht; simp at ht; rw [ht]; exact .inr HX1.out)); have HX3 := Lib.hid hx3; have ec3 := hx3.err; have HO3 := Lib.hid (own_chg HO2.out hc3 (fun g hg hm => by simp at hm; have := own_ge HO2.out g hg; have := HX2.out.xM; omega)); have hB3 := Nat.le_trans hB2 hc3.size; clear hc3 hx3)
                    | (go_at_call 26; (with_reducible refine (HRG.out _ _ (by rw [← HCT.out]; exact HS3.out)).mono ?_); rintro e w4 ⟨go, gc, rfl, hc4, hg4⟩; have HC4 := Lib.hid (HC3.out.trans hc4 (by simp)); have HX4 := Lib.hid (HX3.out.keep hc4); have HO4 := Lib.hid (own_chg HO3.out hc4 (by simp)); have HG4 := Lib.hid hg4; have hB4 := Nat.le_trans hB3 hc4.size; clear hc4 hg4)
                    | fail)
                  have hxg : x < w3.heap.size := Nat.lt_of_lt_of_le HX3.out.xM hB3
                  go_loopw [9, 18] (fun lv i w' => ∃ j : Nat, j ≤ g8 ∧ i = .int .i64 (j : Int) ∧ slen lv = p + min j q ∧ Chg [] w w' ∧ M ≤ w'.heap.size ∧ w'.ownsRow M 3 1 lv (p + min j q) (nv .i64 (l ++ (G.take j).take q)) ∧ w'.ownsRow w3.heap.size 41 1 (.slice go g8 gc) g8 (nv .u64 G) ∧ XS w' x M b (a + N + kw) (if ((G.take j).drop q).any (fun y => y != 0) = true then 10 else 0)) (fun _ i _ => g8 - (intOf i).toNat)
                  case atStart => exact ⟨0, Nat.zero_le _, rfl, by simp [slen], HC4.out, hB4, by simpa using HO4.out, HG4.out, by simpa using HX4.out⟩
                  case round =>
                    obtain ⟨j, hj, rfl, hsl, hcj, hBj, hoj, hgj, hxj⟩ := hrel
                    obtain ⟨yo, yc, rfl⟩ := own_shape hoj
                    have HCj := Lib.hid hcj; have HOj := Lib.hid hoj; have HXj := Lib.hid hxj; have HGj := Lib.hid hgj
                    clear hcj hoj hxj hsl hgj
                    by_cases hjk : j < g8
                    · have e1 : decide ((j : Int) < (g8 : Int)) = true := by simpa using hjk
                      have hju : IntKind.u64.wrap (j : Int) = (j : Int) := u64_small (Nat.le_trans hj hg8b.2)
                      obtain ⟨hwj1, hwj2⟩ := succ_wraps (Nat.le_trans hj hg8b.2)
                      have hGj := get_at HGL.out hjk
                      obtain ⟨gg, rfl⟩ := own_some HGj.out (Nat.lt_of_lt_of_le (by decide) hg8b.1)
                      have x0 := own_cell HGj.out HGL.out j hjk
                      obtain ⟨g, hg⟩ : ∃ g, g = G.getD j 0 := ⟨_, rfl⟩
                      have hg16 : g < 65536 := by rw [hg]; exact HGT.out _ (getD_mem (by rw [HGL.out]; exact hjk))
                      rw [← hg] at x0 hGj
                      have HGJ := Lib.hid hGj
                      have hwg : IntKind.i64.wrap (g : Int) = (g : Int) := i64_16 hg16
                      clear hg hGj
                      by_cases hjq : j < q
                      · have e2 : decide ((j : Int) < (q : Int)) = true := by simpa using hjq
                        have hmin : min j q = j := Nat.min_eq_left (Nat.le_of_lt hjq)
                        have hmin2 : min (j + 1) q = j + 1 := Nat.min_eq_left hjq
                        obtain ⟨t1, t2, t3, t4⟩ := take_lt hjq HGJ.out
                        have HT1' := Lib.hid t1; have HT2 := Lib.hid t2; have HD1 := Lib.hid t3; have HD2 := Lib.hid t4
                        clear t1 t2 t3 t4
                        rw [HT1'.out, hmin] at HOj
                        rw [hmin]
                        have HM2' := Lib.hid hmin2
                        clear hmin hmin2
                        obtain ⟨rm1, rm2⟩ := app_room (show p ≤ 4000 from Nat.le_trans hpn hn) (show j ≤ 4000 from Nat.le_trans hj hg8b.2)
                        have HRM1 := Lib.hid rm1; have HRM2 := Lib.hid rm2
                        clear rm1 rm2
                        go_wp2_with (first
                          | (at_builtin; refine wpList_append_own _ rfl _ _ 22 rfl M 3 i0 (.int .i64 0) 1 8 Try.underlying22 hi hz0 hz1 hz2 rfl (by decide) _ _ _ rfl (HOj.out.alloc _) ⟨wr.heap.size, 0, none⟩ 1 1 [.int .i64 (g : Int)] rfl rfl (cell_one_new _ _ _) (by simp [Value.oneCell']) HRM1.out HRM2.out (Nat.le_trans hBj ((Chg.refl [] wr).alloc _).size) ?_; intro v5 w5 ho5 hg5 _; obtain ⟨uo, uc, rfl⟩ := own_shape ho5; have HCG := Lib.hid (show Chg (Value.slice yo (p + j) yc).ownBlock.toList (wr.alloc (.cells #[.int .i64 (g : Int)] 3)) w5 from (Chg.refl _ _).grown hg5 (fun g hg => .inl (by have h : (Value.slice yo (p + j) yc).ownBlock = some g := hg; simp [h]))); have HO5 := Lib.hid ho5; clear ho5 hg5)
                          | fail)
                        have HCA := Lib.hid (show Chg [] wr (wr.alloc (.cells #[.int .i64 (g : Int)] 3)) from (Chg.refl [] wr).alloc _)
                        have HX5 := Lib.hid ((HXj.out.keep HCA.out).above HCG.out (fun g hg => by simp at hg; exact (HOj.out.lt g hg).1))
                        have HC5 := Lib.hid (show Chg [] w w5 from (HCj.out.trans HCA.out (by simp)).trans HCG.out (fun g hg => .inr (by simp at hg; exact Nat.le_trans hBw (HOj.out.lt g hg).1)))
                        have hB5 : M ≤ w5.heap.size := Nat.le_trans hBj (Nat.le_trans HCA.out.size HCG.out.size)
                        have HG5 := Lib.hid (own_chg (own_chg HGj.out HCA.out (by simp)) HCG.out (own_apart10 HGj.out HOj.out (by decide)))
                        go_roundw
                        case rel => exact ⟨j + 1, hjk, by rfl, by rw [HM2'.out]; rfl, HC5.out, hB5, by
                          rw [HM2'.out, HT2.out, ← List.append_assoc, ← Nat.add_assoc]
                          simpa [nv] using HO5.out, HG5.out, by
                          have h := HX5.out
                          rw [HD1.out] at h
                          rw [HD2.out]
                          exact h⟩
                        case measure => exact meas_up hjk
                      · have e2 : decide ((j : Int) < (q : Int)) = false := by simpa using hjq
                        obtain ⟨hmin, t2, t4⟩ := take_ge hjq HGL.out HGJ.out
                        have HMIN := Lib.hid hmin; have HT2 := Lib.hid t2; have HD2 := Lib.hid t4
                        clear hmin t2 t4
                        by_cases hg0 : g = 0
                        · have hg0b : ((g : Int) != 0) = false := by simp [hg0]
                          have HG0 := Lib.hid hg0
                          clear hg0
                          go_wp2
                          go_roundw
                          case rel => exact ⟨j + 1, hjk, by rfl, by rw [HMIN.out]; rfl, HCj.out, hBj, by rw [HMIN.out, HT2.out]; exact HOj.out, HGj.out, by
                            rw [HD2.out, List.any_append]
                            have h := HXj.out
                            simpa [HG0.out] using h⟩
                          case measure => exact meas_up hjk
                        · have hg0b : ((g : Int) != 0) = true := by simpa using hg0
                          have hg0c : ¬ ((g : Int) = 0) := fun h => hg0 (Int.natCast_eq_zero.1 h)
                          have HAN := Lib.hid (show ((G.take (j + 1)).drop q).any (fun y => y != 0) = true by
                            rw [HD2.out, List.any_append]
                            have : (g != 0) = true := by simpa using hg0
                            simp [this])
                          clear hg0
                          by_cases han : ((G.take j).drop q).any (fun y => y != 0) = true
                          · rw [if_pos han] at HXj
                            have ecj := HXj.out.err
                            clear han
                            go_wp2_with (first
                              | (go_at_call 23; (with_reducible refine (xsKept HXj.out (by decide) 10).mono ?_); rintro e w6 ⟨rfl, rfl⟩)
                              | fail)
                            go_roundw
                            case rel => exact ⟨j + 1, hjk, by rfl, by rw [HMIN.out]; rfl, HCj.out, hBj, by rw [HMIN.out, HT2.out]; exact HOj.out, HGj.out, by rw [if_pos HAN.out]; exact HXj.out⟩
                            case measure => exact meas_up hjk
                          · rw [if_neg han] at HXj
                            clear han
                            go_wp2_with (first
                              | (go_at_call 23; (with_reducible refine (xsFail HXj.out 10).mono ?_); rintro e w6 ⟨rfl, hc6, hx6⟩; have HC6 := Lib.hid hc6; have HX6 := Lib.hid hx6; clear hc6 hx6)
                              | fail)
                            go_roundw
                            case rel => exact ⟨j + 1, hjk, by rfl, by rw [HMIN.out]; rfl, HCj.out.trans HC6.out (by intro t ht; simp at ht; rw [ht]; exact .inr HX1.out), Nat.le_trans hBj HC6.out.size, by rw [HMIN.out, HT2.out]; exact own_chg HOj.out HC6.out (fun g hg hm => by simp at hm; exact absurd (hm ▸ own_ge HOj.out g hg) (Nat.not_le.2 HXj.out.xM)), own_chg HGj.out HC6.out (fun g hg hm => by simp at hm; exact absurd (hm ▸ own_ge HGj.out g hg) (Nat.not_le.2 hxg)), by rw [if_pos HAN.out]; exact HX6.out⟩
                            case measure => exact meas_up hjk
                    · have e1 : decide ((j : Int) < (g8 : Int)) = false := by simpa using hjk
                      obtain rfl : j = g8 := Nat.le_antisymm hj (Nat.not_lt.1 hjk)
                      have HGA := Lib.hid (show G.take j = G by rw [← HGL.out, List.take_length])
                      rw [HGA.out] at HOj HXj
                      have hmq : 1 ≤ min j q := min_pos hg8b.1 hq.1
                      have HGQ := Lib.hid (show (G.take q).length = min j q by rw [List.length_take, HGL.out]; exact Nat.min_comm _ _)
                      by_cases han : (G.drop q).any (fun y => y != 0) = true
                      · rw [if_pos han] at HXj
                        have HLF := Lib.hid (HLV.out.fail (a' := a + N + kw) (l' := l ++ G.take q) (e := 10) HLP.out (HPA.out han) (by decide))
                        clear han
                        go_wp2
                        go_roundw
                        case rel => exact ⟨a + N + kw, 10, l ++ G.take q, by rw [List.length_append, HGQ.out, ← HP.out]; rfl, HCj.out, hBj, by rw [List.length_append, HGQ.out, ← HP.out]; exact HOj.out, HXj.out, HLF.out⟩
                        case measure =>
                          have h1 := HXj.out.err1 (by decide)
                          have h2 := HXS.out.err0
                          simp only [slen]
                          exact meas_down hlt hmq (by rw [h1]; decide) h2
                      · rw [if_neg han] at HXj
                        have HLS := Lib.hid (HLV.out.step HLP.out (HPO.out han) (by rw [HQ.out, HGQ.out]; exact Nat.min_le_right _ _))
                        clear han
                        go_wp2
                        go_roundw
                        case rel => exact ⟨a + N + kw, 0, l ++ G.take q, by rw [List.length_append, HGQ.out, ← HP.out]; rfl, HCj.out, hBj, by rw [List.length_append, HGQ.out, ← HP.out]; exact HOj.out, HXj.out, HLS.out⟩
                        case measure =>
                          have h1 := HXj.out.err0
                          have h2 := HXS.out.err0
                          simp only [slen]
                          exact meas_down hlt hmq (by rw [h1]; decide) h2
        · have d1 : decide ((p : Int) < (n : Int)) = false := by simp; omega
          have hpe : p = n := by omega
          have HPN := Lib.hid (show l.length = n by rw [← HP.out]; exact hpe)
          have HE := Lib.hid (xsEnd HXS.out)
          rw [if_pos (show (((0 : Nat) : Int)) = 0 from rfl)] at HE
          clear hpe
          by_cases hz : b.drop a = []
          · rw [if_pos hz] at HE
            have HR := Lib.hid (dec_good hn hwd HLV.out HPN.out hz)
            clear hz
            go_wp2_with (first
              | (go_at_call 27; (with_reducible refine HE.out.mono ?_); rintro e w3 ⟨rfl, hc3⟩; have HC3 := Lib.hid hc3; clear hc3)
              | fail)
            go_ret2
            unfold DecOut
            rw [HR.out]
            exact ⟨_, rfl, HC.out.trans HC3.out (by simp), by rw [← HP.out]; exact own_mono (own_chg HO.out HC3.out (by simp)) hBw⟩
          · rw [if_neg hz] at HE
            have HR := Lib.hid (dec_nine hn hwd HLV.out HPN.out hz)
            clear hz
            go_wp2_with (first
              | (go_at_call 27; (with_reducible refine HE.out.mono ?_); rintro e w3 ⟨rfl, hc3⟩; have HC3 := Lib.hid hc3; clear hc3)
              | fail)
            go_ret2
            exact DecOut.bad HR.out rfl (HC.out.trans HC3.out (by simp))
      · have HR := Lib.hid (dec_bad hn hwd HLV.out he)
        have HE := Lib.hid (xsEnd_err HXS.out (by omega))
        have he1 : ((e : Int) == 0) = false := by simpa using he
        have he2 : ((e : Int) != 0) = true := by simpa using he
        have he3 : ¬ ((e : Int) = 0) := by omega
        clear he
        by_cases hlt : p < n
        · have d1 : decide ((p : Int) < (n : Int)) = true := by simp; omega
          go_wp2_with (first
            | (go_at_call 27; (with_reducible refine HE.out.mono ?_); rintro e w3 ⟨rfl, hc3⟩; have HC3 := Lib.hid hc3; clear hc3)
            | fail)
          go_ret2
          exact DecOut.bad HR.out rfl (HC.out.trans HC3.out (by simp))
        · have d1 : decide ((p : Int) < (n : Int)) = false := by simp; omega
          go_wp2_with (first
            | (go_at_call 27; (with_reducible refine HE.out.mono ?_); rintro e w3 ⟨rfl, hc3⟩; have HC3 := Lib.hid hc3; clear hc3)
            | fail)
          go_ret2
          exact DecOut.bad HR.out rfl (HC.out.trans HC3.out (by simp))

end Go.Proofs.Ytlhdicbhanncnaa
