/- The reference's Encode of levels. -/
import Derived.Test.YtlhdicbhanncnaaKr
import Derived.Test.YtlhdicbhanncnaaKk
namespace Go.Proofs.Ytlhdicbhanncnaa
open Go.RowKit
set_option linter.unusedVariables false
set_option linter.unusedSimpArgs false

theorem take_drop_get (l : List Nat) (a j k : Nat) : (l.drop a).take j = (l.drop a).take j := rfl

/-- The levels of groups, up to the j-th. -/
def blk (r : List Nat) (j : Nat) : List Nat := r.take j ++ List.replicate (j - r.length) 0

theorem blk_succ (r : List Nat) (j : Nat) : blk r (j + 1) = blk r j ++ [r.getD j 0] := by
  unfold blk
  by_cases h : j < r.length
  · have e : r.getD j 0 = r[j] := by simp [List.getD, h]
    rw [List.take_add_one, List.getElem?_eq_getElem h, show j + 1 - r.length = 0 by omega, show j - r.length = 0 by omega, e]
    simp
  · rw [List.take_of_length_le (by omega), List.take_of_length_le (by omega), show j + 1 - r.length = (j - r.length) + 1 by omega, List.replicate_succ', show r.getD j 0 = 0 by simp [List.getD, show r.length ≤ j by omega], List.append_assoc]

@[simp] theorem blk_length (r : List Nat) (j : Nat) : (blk r j).length = j := by unfold blk; simp; omega

theorem blk_pad (r : List Nat) (j m : Nat) (hj : j % 8 = 0) (hm : m = min j r.length) (hr : r.length < j → j - 8 < r.length) (hj8 : 8 ≤ j) : blk r j = pad8 (r.take m) := by
  unfold blk pad8
  have hl : (r.take m).length = m := by rw [List.length_take]; omega
  rw [hl]
  by_cases h : j ≤ r.length
  · have e : m = j := by omega
    rw [e, show j - r.length = 0 by omega, show 8 * ((j + 7) / 8) - j = 0 by omega]
  · have e : m = r.length := by omega
    rw [e, List.take_of_length_le (by omega), List.take_length, show 8 * ((r.length + 7) / 8) - r.length = j - r.length by omega]

set_option maxRecDepth 100000 in
set_option maxHeartbeats 8000000 in
theorem rencode_any (lv : Value) (l : List Nat) (width : Nat) (w : World) (hS : Seen w lv (nv .i64 l)) (hw1 : 1 ≤ width) (hw : width ≤ 16) (hl : ∀ x ∈ l, x < 2 ^ width) (hl2 : l.length ≤ 900000) :
    Calls Try.prog 7 #[lv, .int .i64 (width : Int)] w fun e w' => ∃ x, e = .returned x ∧ Made 5 .u8 (encL width l) w x w' := by
  obtain ⟨i8, hi8, hz08, hz18, hz28⟩ := info_u8
  obtain ⟨i6, hi6, hz06, hz16, hz26⟩ := info_u64
  obtain ⟨ao, cap, rfl, hc1, hc2⟩ := hS.shape
  rw [nv_length] at hc1 hS
  rw [nv_length]
  have HS := Lib.hid hS
  have hlen := vb_app_len width hw l hl2
  obtain ⟨E, hE⟩ : ∃ E, E = encL width l := ⟨_, rfl⟩
  rw [← hE] at hlen ⊢
  have HE := Lib.hid hE
  have HL := Lib.hid (lt_64 hw hl)
  obtain ⟨N, hN⟩ : ∃ N, N = l.length := ⟨_, rfl⟩
  rw [← hN] at HS hc1 hl2 hlen ⊢
  have HN := Lib.hid hN
  have hwp : decide ((0 : Int) < (width : Int)) = true := by simp; omega
  have hwp2 : 0 < width := by omega
  obtain ⟨s, hs⟩ : ∃ s, s = (width + 7) / 8 := ⟨_, rfl⟩
  have hsi : ((width : Int) + 7) / 8 = (s : Int) := by omega
  have hs2 : s ≤ 2 := by omega
  have HSS := Lib.hid hs
  clear hS hE hl hN hc2 hs
  go_enter Try.func7, Try.ntmps7
  go_wp2
  go_loopw [5, 6] (fun bv at_ w' => ∃ (a : Nat) (X : List Nat), a ≤ N ∧ at_ = .int .i64 (a : Int) ∧ X ++ encL width (l.drop a) = E ∧ Chg [] w w' ∧ w'.ownsRow w.heap.size 5 1 bv X.length (nv .u8 X)) (fun _ at_ _ => N - (intOf at_).toNat)
  case atStart => exact ⟨0, [], Nat.zero_le _, rfl, by rw [List.drop_zero, List.nil_append, HE.out], Chg.refl _ _, ⟨rfl, .inl ⟨rfl, rfl⟩⟩⟩
  case round =>
    obtain ⟨a, X, ha, rfl, hX, hc, ho⟩ := hrel
    obtain ⟨xo, xc, rfl⟩ := own_shape ho
    have HC := Lib.hid hc; have HO := Lib.hid ho; have HX := Lib.hid hX
    have hB := hc.size
    have hXl : X.length ≤ 40 * N + 40 := by have := congrArg List.length hX; rw [List.length_append] at this; omega
    obtain ⟨m, hm⟩ : ∃ m, m = X.length := ⟨_, rfl⟩
    rw [← hm] at HO hXl ⊢
    have HM := Lib.hid hm
    clear hc ho hX hm
    by_cases haN : a < N
    · have hlt : decide ((a : Int) < (N : Int)) = true := by simp; omega
      have HRUN := Lib.hid (fun wx (hk : Chg [] w wx) => rrun10_any (.slice ao N cap) l a wx (HS.out.keep hk) (by have := HN.out; omega) (by have := HN.out; omega))
      have hdl : (l.drop a).length = N - a := by rw [List.length_drop]; have := HN.out; omega
      have hne : l.drop a ≠ [] := by intro e; rw [e] at hdl; simp at hdl; omega
      have HDL := Lib.hid hdl
      by_cases hr : nR (l.drop a) = true
      · have hb : (!nR (l.drop a)) = false := by simp [hr]
        rw [hb] at HRUN
        have HEE := Lib.hid (encL_mix width _ hne hr)
        clear hb hr hne hdl
        go_wp2_with fail
        refine (HRUN.out _ HC.out).mono ?_
        rintro e w1 ⟨rfl, hk⟩
        have HC1 := Lib.hid (HC.out.trans hk (by simp)); have HO1 := Lib.hid (own_chg HO.out hk (by simp))
        clear hk
        obtain ⟨r, hr0⟩ : ∃ r, r = l.drop a := ⟨_, rfl⟩
        rw [← hr0] at HDL HEE
        have HR0 := Lib.hid hr0
        clear hr0
        go_wp2
        go_loopw [6, 8] (fun at_ gv w' => ∃ (j p : Nat), p = a + j ∧ j % 8 = 0 ∧ j < N - a ∧ mixA r j = mix r ∧ at_ = .int .i64 (p : Int) ∧ Chg [] w w' ∧ w'.ownsRow w.heap.size 5 1 (.slice xo m xc) m (nv .u8 X) ∧ w'.ownsRow w1.heap.size 41 1 gv j (nv .u64 (blk r j)) ∧ w1.heap.size ≤ w'.heap.size) (fun at_ _ _ => N - (intOf at_).toNat)
        case atStart => exact ⟨0, a, rfl, rfl, by omega, rfl, rfl, HC1.out, HO1.out, ⟨by simp [blk, nv], .inl ⟨rfl, rfl⟩⟩, Nat.le_refl _⟩
        case round =>
          obtain ⟨j, p, hp, hj8, hjN, hmx, rfl, hc2, ho2, hg2, hb2⟩ := hrel
          have HP := Lib.hid hp
          obtain ⟨go, gc, rfl⟩ := own_shape hg2
          have HC2 := Lib.hid hc2; have HO2 := Lib.hid ho2; have HG2 := Lib.hid hg2; have HMX := Lib.hid hmx
          have hpN : p < N := by omega
          have HB2 := Lib.hid hb2
          clear hc2 ho2 hg2 hmx hp hb2
          go_wp2
          go_loopw [8, 9] (fun gv k w' => ∃ i : Nat, i ≤ 8 ∧ k = .int .i64 (i : Int) ∧ Chg [] w w' ∧ w'.ownsRow w.heap.size 5 1 (.slice xo m xc) m (nv .u8 X) ∧ w'.ownsRow w1.heap.size 41 1 gv (j + i) (nv .u64 (blk r (j + i))) ∧ w1.heap.size ≤ w'.heap.size) (fun _ k _ => 8 - (intOf k).toNat)
          case atStart => exact ⟨0, by decide, rfl, HC2.out, HO2.out, HG2.out, HB2.out⟩
          case round =>
            obtain ⟨i, hi8', rfl, hc3, ho3, hg3, hsz⟩ := hrel
            obtain ⟨uo, uc, rfl⟩ := own_shape hg3
            have HC3 := Lib.hid hc3; have HO3 := Lib.hid ho3; have HG3 := Lib.hid hg3
            clear hc3 ho3 hg3
            by_cases hi : i < 8
            · have hlti : decide ((i : Int) < 8) = true := by simp; omega
              obtain ⟨q, hq⟩ : ∃ q, q = p + i := ⟨_, rfl⟩
              have hqi : (p : Int) + (i : Int) = (q : Int) := by omega
              obtain ⟨v, hv⟩ : ∃ v, v = r.getD (j + i) 0 := ⟨_, rfl⟩
              have hvq : v = l.getD q 0 := by rw [hv, HR0.out, getD_drop, hq, HP.out, Nat.add_assoc]
              have hv6 : v ≤ 65536 := by
                rw [hvq]
                by_cases h : q < l.length
                · exact HL.out _ (getD_mem h)
                · rw [show l.getD q 0 = 0 by simp [List.getD, show l.length ≤ q by omega]]; decide
              have hvw : IntKind.u64.wrap (v : Int) = (v : Int) := wraps64 _ (by omega) (by omega)
              have EB := Lib.hid (show nv .u64 (blk r (j + i)) ++ [.int .u64 (v : Int)] = nv .u64 (blk r (j + (i + 1))) by rw [← Nat.add_assoc, blk_succ, ← hv]; simp [nv])
              have HVQ := Lib.hid hvq
              clear hv hvq hq
              by_cases hqN : q < N
              · have hltq : decide ((q : Int) < (N : Int)) = true := by simp; omega
                obtain ⟨g, off, rfl, hcell⟩ := (HS.out.keep HC3.out).at0 HN.out.symm (by omega)
                have hx := hcell q hqN
                rw [← HVQ.out] at hx
                clear hcell
                go_wp2_with (at_builtin; refine wpList_append_own _ rfl _ _ 42 rfl w1.heap.size 41 i6 (.int .u64 0) 1 8 Try.underlying42 hi6 hz06 hz16 hz26 rfl (by decide) _ _ _ rfl (HG3.out.alloc _) ⟨wr.heap.size, 0, none⟩ 1 1 [.int .u64 (v : Int)] rfl rfl ?c1 ?c2 ?c3 ?c4 ?c5 ?_)
                case c1 => exact (cell_one_new _ _ _)
                case c2 => simp [Value.oneCell']
                case c3 => unfold maxLen; omega
                case c4 => omega
                case c5 => simp; omega
                intro v' w4 hown' hgrow _
                rw [EB.out] at hown'
                have hoA := own_chg HO3.out ((Chg.refl [] wr).alloc (.cells #[.int .u64 (v : Int)] 41)) (by simp)
                have HO4 := Lib.hid (own_far hoA hgrow (fun g hg e => tags_ne hoA (HG3.out.alloc (.cells #[.int .u64 (v : Int)] 41)) (by decide) g hg e))
                have HC4 := Lib.hid ((HC3.out.alloc (.cells #[.int .u64 (v : Int)] 41)).grown hgrow (fun k hk => .inr (by have := (HG3.out.lt k hk).1; have := HC1.out.size; omega)))
                have HG4 := Lib.hid hown'
                have hsz4 : w1.heap.size ≤ w4.heap.size := by have := hgrow.size; simp at this; omega
                clear hgrow hown' hoA
                go_wp2
                go_roundw
                case rel => exact ⟨i + 1, hi, by go_num, HC4.out, HO4.out, by rw [← Nat.add_assoc]; rw [← Nat.add_assoc] at HG4; exact HG4.out, hsz4⟩
                case measure => simp [intOf]; omega
              · have hltq : decide ((q : Int) < (N : Int)) = false := by simp; omega
                have hv0 : v = 0 := by rw [HVQ.out]; simp [List.getD, show l.length ≤ q by have := HN.out; omega]
                subst hv0
                go_wp2_with (at_builtin; refine wpList_append_own _ rfl _ _ 42 rfl w1.heap.size 41 i6 (.int .u64 0) 1 8 Try.underlying42 hi6 hz06 hz16 hz26 rfl (by decide) _ _ _ rfl (HG3.out.alloc _) ⟨wr.heap.size, 0, none⟩ 1 1 [.int .u64 0] rfl rfl ?c1 ?c2 ?c3 ?c4 ?c5 ?_)
                case c1 => exact (cell_one_new _ _ _)
                case c2 => simp [Value.oneCell']
                case c3 => unfold maxLen; omega
                case c4 => omega
                case c5 => simp; omega
                intro v' w4 hown' hgrow _
                have EB2 : nv .u64 (blk r (j + i)) ++ [.int .u64 0] = nv .u64 (blk r (j + (i + 1))) := EB.out
                rw [EB2] at hown'
                have hoA := own_chg HO3.out ((Chg.refl [] wr).alloc (.cells #[.int .u64 0] 41)) (by simp)
                have HO4 := Lib.hid (own_far hoA hgrow (fun g hg e => tags_ne hoA (HG3.out.alloc (.cells #[.int .u64 0] 41)) (by decide) g hg e))
                have HC4 := Lib.hid ((HC3.out.alloc (.cells #[.int .u64 0] 41)).grown hgrow (fun k hk => .inr (by have := (HG3.out.lt k hk).1; have := HC1.out.size; omega)))
                have HG4 := Lib.hid hown'
                have hsz4 : w1.heap.size ≤ w4.heap.size := by have := hgrow.size; simp at this; omega
                clear hgrow hown' hoA EB2
                go_wp2
                go_roundw
                case rel => exact ⟨i + 1, hi, by go_num, HC4.out, HO4.out, by rw [← Nat.add_assoc]; rw [← Nat.add_assoc] at HG4; exact HG4.out, hsz4⟩
                case measure => simp [intOf]; omega
            · have hlti : decide ((i : Int) < 8) = false := by simp; omega
              have hi : i = 8 := by omega
              subst hi
              obtain ⟨P, hP⟩ : ∃ P, P = min (p + 8) N := ⟨_, rfl⟩
              have hmin : min ((p : Int) + 8) (N : Int) = (P : Int) := by omega
              have hRun := Lib.hid (fun wx (hk : Chg [] w wx) (h : P < N) => rrun10_any (.slice ao N cap) l P wx (HS.out.keep hk) (by have := HN.out; omega) (by have := HN.out; omega))
              have hrl := HDL.out
              have hdrop : P < N → l.drop P = r.drop (j + 8) := fun h => by
                rw [HR0.out, List.drop_drop]; congr 1; have := HP.out; omega
              have HC3' := HC3.out
              by_cases hgo : j + 8 < r.length ∧ nR (r.drop (j + 8)) = true
              · obtain ⟨hg1, hg2⟩ := hgo
                have hPN : P < N := by have := HP.out; omega
                have hPe : P = a + (j + 8) := by have := HP.out; omega
                have hb : ((P : Int) == (N : Int)) = false := by simp; omega
                have HRUN2 := Lib.hid (hRun.out wr HC3.out hPN)
                rw [hdrop hPN, hg2] at HRUN2
                have HMX2 := Lib.hid (show mixA r (j + 8) = mix r by rw [← HMX.out, mixA.eq_1 r j, dif_pos ⟨hg1, hg2⟩])
                have HPE := Lib.hid hPe
                have hj8N : j + 8 < N - a := by omega
                clear hdrop hg1 hg2 hPe hP hRun
                go_wp2_with fail
                refine HRUN2.out.mono ?_
                rintro e w5 ⟨rfl, hk⟩
                have HC5 := Lib.hid (HC3.out.trans hk (by simp)); have HO5 := Lib.hid (own_chg HO3.out hk (by simp)); have HG5 := Lib.hid (own_chg HG3.out hk (by simp)); have HB5 := Lib.hid hk.size
                clear hk
                go_wp2
                go_roundw
                case rel => exact ⟨j + 8, P, HPE.out, by omega, hj8N, HMX2.out, rfl, HC5.out, HO5.out, HG5.out, by have := HB5.out; omega⟩
                case measure => simp [intOf]; have := HPE.out; have := HP.out; omega
              · have hmx : mix r = min (j + 8) r.length := by rw [← HMX.out, mixA.eq_1 r j, dif_neg hgo]
                have hPa : P = a + mix r := by rw [hmx, hrl]; have := HP.out; omega
                have hmr : mix r ≤ r.length := mix_le r
                have hpd : blk r (j + 8) = pad8 (r.take (mix r)) := blk_pad r (j + 8) (mix r) (by omega) hmx (fun _ => by omega) (by omega)
                have hcnt : (mix r + 7) / 8 = (j + 8) / 8 := by omega
                have hpick : ((P : Int) == (N : Int)) = true ∨ (((P : Int) == (N : Int)) = false ∧ ∃ h : P < N, (!nR (l.drop P)) = true) := by
                  by_cases h : P = N
                  · left; simp [h]
                  · right
                    have h2 : P < N := by omega
                    refine ⟨by simp; omega, h2, ?_⟩
                    have h3 : j + 8 < r.length := by have := HP.out; omega
                    rw [hdrop h2]
                    have h4 : ¬ nR (r.drop (j + 8)) = true := fun h5 => hgo ⟨h3, h5⟩
                    simpa using h4
                obtain ⟨c, hc⟩ : ∃ c, c = (j + 8) / 8 := ⟨_, rfl⟩
                rw [← hc] at hcnt
                obtain ⟨G, hG⟩ : ∃ G, G = j + 8 := ⟨_, rfl⟩
                have hci : (G : Int) / 8 = (c : Int) := by omega
                have hc2 : c ≤ 200000 := by have := HP.out; omega
                have hcw : IntKind.u64.wrap (2 * (c : Int) + 1) = ((2 * c + 1 : Nat) : Int) := by rw [wraps64 _ (by omega) (by omega)]; omega
                have hvl := vb_len64 (v := 2 * c + 1) (by omega)
                have HGP := Lib.hid (show wr.ownsRow w1.heap.size 41 1 (.slice uo G uc) G (nv .u64 (pad8 (r.take (mix r)))) by have h := HG3.out; rw [← hG] at h; rw [← hpd, ← hG]; exact h)
                have hG9 : G ≤ 900008 := by omega
                have hXP : X ++ (vb (2 * c + 1) ++ packed width (pad8 (r.take (mix r)))) ++ encL width (r.drop (mix r)) = E := by
                  rw [← hcnt, ← HX.out, ← HR0.out, HEE.out]; simp only [List.append_assoc]
                have hdropm : r.drop (mix r) = l.drop P := by rw [HR0.out, List.drop_drop, hPa]; congr 1; rw [HR0.out]
                rw [hdropm] at hXP
                have hPN2 : P ≤ N := by omega
                have hlt6 : ∀ x ∈ pad8 (r.take (mix r)), x < 2 ^ 64 := fun x hx => by
                  rcases List.mem_append.1 hx with hx | hx
                  · have := HL.out x (by rw [HR0.out] at hx; exact List.mem_of_mem_drop (List.mem_of_mem_take hx)); omega
                  · rw [(List.mem_replicate.1 hx).2]; decide
                have hplen : (pad8 (r.take (mix r))).length = G := by rw [← hpd, hG]; simp
                obtain ⟨PD, hPD⟩ : ∃ PD, PD = pad8 (r.take (mix r)) := ⟨_, rfl⟩
                rw [← hPD] at HGP hXP hlt6 hplen
                obtain ⟨PK, hPK⟩ : ∃ PK, PK = packed width PD := ⟨_, rfl⟩
                have hpk : PK.length ≤ 16 * 900008 := by
                  rw [hPK, packed_length, hplen]
                  have : width * G ≤ 16 * 900008 := Nat.mul_le_mul hw hG9
                  omega
                have HPA := Lib.hid (fun wx (hs : Seen wx (.slice uo G uc) (nv .u64 PD)) => rpack_yes (.slice uo G uc) PD width wx (by omega) (by omega) hs hlt6)
                rw [← hPK] at hXP
                have HPK := Lib.hid hPK; have HXP := Lib.hid hXP; have HGG := Lib.hid hG
                have haP : a < P := by have := mix_pos r (by intro e; rw [e] at hrl; simp at hrl; omega); omega
                have HRUN2 := Lib.hid (show ∀ h : P < N, (!nR (l.drop P)) = true → Calls Try.prog 12 #[.slice ao N cap, .int .i64 (P : Int)] wr fun e w' => e = .returned (.bool true) ∧ Chg [] wr w' from fun h h2 => by
                  have h3 := hRun.out wr HC3.out h
                  rwa [h2] at h3)
                rw [← hG] at HG3 ⊢
                clear hdrop hgo hmx hPa hmr hpd hcnt hG hXP hdropm hlt6 hplen hPD hPK hc hP hRun hrl
                rcases hpick with hb | ⟨hb, hPN, hnr⟩
                · have HC5 := Lib.hid (Chg.refl [] wr)
                  have HCa := Lib.hid (HC3.out.trans HC5.out (by simp)); have HOa := Lib.hid (own_chg HO3.out HC5.out (by simp)); have HGa := Lib.hid (own_chg HGP.out HC5.out (by simp))
                  have HPT := Lib.hid (rput_any (.slice xo m xc) X (2 * c + 1) wr (by have h := (reads_of_own HOa.out).seen; exact h) (by rw [← HM.out]; omega) (by omega))
                  unfold PutOut at HPT
                  obtain ⟨YB, hYB⟩ : ∃ YB, YB = X ++ vb (2 * c + 1) := ⟨_, rfl⟩
                  rw [← hYB] at HPT
                  have hYl : YB.length ≤ m + 10 := by rw [hYB, List.length_append, HM.out]; omega
                  have HYB := Lib.hid hYB
                  clear hYB
                  go_wp2_with fail
                  refine HPT.out.mono ?_
                  rintro e w6 ⟨yv, rfl, hc6, ho6⟩
                  obtain ⟨yo, yc, rfl⟩ := own_shape ho6
                  have HC6 := Lib.hid hc6; have HO6 := Lib.hid ho6; have HG6 := Lib.hid (own_chg HGa.out hc6 (by simp))
                  clear hc6 ho6
                  have HPB := Lib.hid (HPA.out w6 (reads_of_own HG6.out).seen)
                  rw [← HPK.out] at HPB
                  go_wp2_with fail
                  refine HPB.out.mono ?_
                  rintro e w7 ⟨gk, rfl, hc7, ho7⟩
                  have HC7 := Lib.hid hc7; have HO7 := Lib.hid (own_chg HO6.out hc7 (by simp)); have HK7 := Lib.hid ((reads_of_own ho7).seen)
                  have hs6 := HC6.out.size
                  have hs7 := hc7.size
                  clear hc7 ho7
                  go_wp2_with (at_builtin; refine wpList_append_reads _ rfl _ _ 23 23 rfl wr.heap.size 5 5 i8 (.int .u8 0) 1 Try.underlying23 Try.underlying23 hi8 hz08 hz18 hz28 rfl _ _ _ rfl HO7.out _ (nv .u8 PK) rfl HK7.out (nv_one _ _) ?c1 ?c2 ?c3 ?_)
                  case c1 => rw [nv_length]; unfold maxLen; omega
                  case c2 => rw [nv_length]; omega
                  case c3 => omega
                  intro v8 w8 hown8 hgrow8
                  have HC8 := Lib.hid (HCa.out.trans ((HC6.out.trans HC7.out (by simp)).grown hgrow8 (fun k hk => .inr (own_ge HO7.out k hk))) (by simp))
                  have HO8 := Lib.hid (show w8.ownsRow w.heap.size 5 1 v8 (X ++ (vb (2 * c + 1) ++ PK)).length (nv .u8 (X ++ (vb (2 * c + 1) ++ PK))) by
                    have e : nv .u8 YB ++ nv .u8 PK = nv .u8 (X ++ (vb (2 * c + 1) ++ PK)) := by rw [HYB.out]; simp [nv]
                    have h := own_mono hown8 HCa.out.size
                    rw [e] at h
                    have e2 : YB.length + PK.length = (X ++ (vb (2 * c + 1) ++ PK)).length := by rw [HYB.out]; simp [Nat.add_assoc]
                    rw [← e2]
                    simpa using h)
                  clear hown8 hgrow8
                  go_wp2
                  go_roundw
                  case rel => exact ⟨P, X ++ (vb (2 * c + 1) ++ PK), hPN2, rfl, HXP.out, HC8.out, HO8.out⟩
                  case measure => simp [intOf]; omega
                · have HRR := Lib.hid (HRUN2.out hPN hnr)
                  clear hPN hnr
                  go_wp2_with fail
                  refine HRR.out.mono ?_
                  rintro e w5 ⟨rfl, hk⟩
                  have HC5 := Lib.hid hk
                  clear hk
                  have HCa := Lib.hid (HC3.out.trans HC5.out (by simp)); have HOa := Lib.hid (own_chg HO3.out HC5.out (by simp)); have HGa := Lib.hid (own_chg HGP.out HC5.out (by simp))
                  have HPT := Lib.hid (rput_any (.slice xo m xc) X (2 * c + 1) w5 (by have h := (reads_of_own HOa.out).seen; exact h) (by rw [← HM.out]; omega) (by omega))
                  unfold PutOut at HPT
                  obtain ⟨YB, hYB⟩ : ∃ YB, YB = X ++ vb (2 * c + 1) := ⟨_, rfl⟩
                  rw [← hYB] at HPT
                  have hYl : YB.length ≤ m + 10 := by rw [hYB, List.length_append, HM.out]; omega
                  have HYB := Lib.hid hYB
                  clear hYB
                  go_wp2_with fail
                  refine HPT.out.mono ?_
                  rintro e w6 ⟨yv, rfl, hc6, ho6⟩
                  obtain ⟨yo, yc, rfl⟩ := own_shape ho6
                  have HC6 := Lib.hid hc6; have HO6 := Lib.hid ho6; have HG6 := Lib.hid (own_chg HGa.out hc6 (by simp))
                  clear hc6 ho6
                  have HPB := Lib.hid (HPA.out w6 (reads_of_own HG6.out).seen)
                  rw [← HPK.out] at HPB
                  go_wp2_with fail
                  refine HPB.out.mono ?_
                  rintro e w7 ⟨gk, rfl, hc7, ho7⟩
                  have HC7 := Lib.hid hc7; have HO7 := Lib.hid (own_chg HO6.out hc7 (by simp)); have HK7 := Lib.hid ((reads_of_own ho7).seen)
                  have hs6 := HC6.out.size
                  have hs7 := hc7.size
                  clear hc7 ho7
                  go_wp2_with (at_builtin; refine wpList_append_reads _ rfl _ _ 23 23 rfl w5.heap.size 5 5 i8 (.int .u8 0) 1 Try.underlying23 Try.underlying23 hi8 hz08 hz18 hz28 rfl _ _ _ rfl HO7.out _ (nv .u8 PK) rfl HK7.out (nv_one _ _) ?c1 ?c2 ?c3 ?_)
                  case c1 => rw [nv_length]; unfold maxLen; omega
                  case c2 => rw [nv_length]; omega
                  case c3 => omega
                  intro v8 w8 hown8 hgrow8
                  have HC8 := Lib.hid (HCa.out.trans ((HC6.out.trans HC7.out (by simp)).grown hgrow8 (fun k hk => .inr (own_ge HO7.out k hk))) (by simp))
                  have HO8 := Lib.hid (show w8.ownsRow w.heap.size 5 1 v8 (X ++ (vb (2 * c + 1) ++ PK)).length (nv .u8 (X ++ (vb (2 * c + 1) ++ PK))) by
                    have e : nv .u8 YB ++ nv .u8 PK = nv .u8 (X ++ (vb (2 * c + 1) ++ PK)) := by rw [HYB.out]; simp [nv]
                    have h := own_mono hown8 HCa.out.size
                    rw [e] at h
                    have e2 : YB.length + PK.length = (X ++ (vb (2 * c + 1) ++ PK)).length := by rw [HYB.out]; simp [Nat.add_assoc]
                    rw [← e2]
                    simpa using h)
                  clear hown8 hgrow8
                  go_wp2
                  go_roundw
                  case rel => exact ⟨P, X ++ (vb (2 * c + 1) ++ PK), hPN2, rfl, HXP.out, HC8.out, HO8.out⟩
                  case measure => simp [intOf]; omega
      · have hb : (!nR (l.drop a)) = true := by simpa using hr
        rw [hb] at HRUN
        have HEE := Lib.hid (encL_run width _ hne hr)
        have HSM := Lib.hid (fun wx (hk : Chg [] w wx) => rsame10_any (.slice ao N cap) l a wx (HS.out.keep hk) (by have := HN.out; omega) (by have := HN.out; omega))
        have hz1 := alk_pos _ hne
        have hz2 := alk_le (l.drop a)
        rw [hdl] at hz2
        obtain ⟨z, hz⟩ : ∃ z, z = alk (l.drop a) := ⟨_, rfl⟩
        rw [← hz] at HEE HSM hz1 hz2
        have e0 : (l.drop a).getD 0 0 = l.getD a 0 := by rw [getD_drop, Nat.add_zero]
        rw [List.drop_drop, e0] at HEE
        clear e0
        obtain ⟨g, off, rfl, hcell⟩ := HS.out.at0 HN.out.symm (by omega)
        have hxa := hcell a haN
        obtain ⟨v, hv⟩ : ∃ v, v = l.getD a 0 := ⟨_, rfl⟩
        rw [← hv] at HEE hxa
        have hv6 : v ≤ 65536 := by rw [hv]; exact HL.out _ (getD_mem (by have := HN.out; omega))
        have hw1' : IntKind.i64.wrap (2 * (z : Int)) = ((2 * z : Nat) : Int) := by rw [IntWalk.i64_in _ (by omega)]; omega
        have hw2' : IntKind.u64.wrap (2 * (z : Int)) = ((2 * z : Nat) : Int) := by rw [wraps64 _ (by omega) (by omega)]; omega
        have hw3' : IntKind.u64.wrap (v : Int) = (v : Int) := wraps64 _ (by omega) (by omega)
        have hw4' : IntKind.i64.wrap ((width : Int) + 7) = (width : Int) + 7 := IntWalk.i64_in _ (by omega)
        have hw5' : ((width : Int) + 7).tdiv 8 = (s : Int) := by rw [Int.tdiv_eq_ediv_of_nonneg (by omega)]; omega
        have hw6' : IntKind.i64.wrap (s : Int) = (s : Int) := IntWalk.i64_in _ (by omega)
        have hw7' : ((width : Int) + 7) / 8 = (s : Int) := by omega
        have hvl := vb_len64 (v := 2 * z) (by omega)
        have HVW := Lib.hid (And.intro hw1' (And.intro hw2' (And.intro hw3' (And.intro hw4' (And.intro hw5' (And.intro hw6' hw7'))))))
        have HXA := Lib.hid hxa
        have HXP := Lib.hid (show X ++ (vb (2 * z) ++ lo s v) ++ encL width (l.drop (a + z)) = E by
          rw [← HX.out, HEE.out, HSS.out]; simp only [List.append_assoc])
        have haz : a + z ≤ N := by omega
        clear hb hr hne hdl hz hcell hv hxa hw1' hw2' hw3' hw4' hw5' hw6' hw7'
        go_wp2_with fail
        refine (HRUN.out _ HC.out).mono ?_
        rintro e w1 ⟨rfl, hk⟩
        have HC1 := Lib.hid (HC.out.trans hk (by simp)); have HO1 := Lib.hid (own_chg HO.out hk (by simp))
        clear hk
        go_wp2_with fail
        refine (HSM.out _ HC1.out).mono ?_
        rintro e w2 ⟨rfl, hk⟩
        have HC2 := Lib.hid (HC1.out.trans hk (by simp)); have HO2 := Lib.hid (own_chg HO1.out hk (by simp))
        clear hk
        have HPUT := Lib.hid (show ∀ wx, Chg [] w2 wx → Calls Try.prog 15 #[.slice xo m xc, .int .u64 (2 * (z : Int))] wx (PutOut X (2 * z) wx) from fun wx hk => by
          rw [show (2 * (z : Int)) = ((2 * z : Nat) : Int) by omega]
          exact rput_any (.slice xo m xc) X (2 * z) wx (by have h := (reads_of_own (own_chg HO2.out hk (by simp))).seen; exact h) (by rw [← HM.out]; omega) (by omega))
        have HCP := Lib.hid (show ∀ wx yv, Seen wx yv (nv .u8 (X ++ vb (2 * z))) → Calls Try.prog 14 #[yv, .int .i64 (s : Int), .int .u64 (v : Int)] wx fun e w' => ∃ x, e = .returned x ∧ Made 5 .u8 ((X ++ vb (2 * z)) ++ lo s v) wx x w' from fun wx yv hs =>
          rcput_any yv _ s v wx (by omega) (by omega) (by rw [List.length_append, ← HM.out]; omega) hs)
        have HSC := Lib.hid (show ∀ w', Chg [] w2 w' → w'.cell? ⟨g, off + a, none⟩ = some (.int .i64 (v : Int)) from fun w' hk => (HC2.out.trans hk (by simp)).cell HXA.out (by simp))
        obtain ⟨hw1', hw2', hw3', hw4', hw5', hw6', hw7'⟩ := HVW.out
        go_upto_region 6 with fail
        go_region_held3 (fun w' => w'.cell? ⟨g, off + a, none⟩ = some (.int .i64 (v : Int))) (exact HSC.out _ (by with_reducible repeat (first | exact HC4.out | exact HC3.out | exact Chg.refl _ _ | refine Chg.drew ?_ | refine Chg.drewN ?_ _))) (first
          | (go_at_call 15; (with_reducible refine (HPUT.out _ (by with_reducible repeat (first | exact Chg.refl _ _ | refine Chg.drew ?_ | refine Chg.drewN ?_ _))).mono ?_); rintro e w3 ⟨yv, rfl, hc3, ho3⟩; have HC3 := Lib.hid (show Chg [] w2 w3 from Chg.trans (by with_reducible repeat (first | exact Chg.refl _ _ | refine Chg.drew ?_ | refine Chg.drewN ?_ _)) hc3 (by simp)); have HS3 := Lib.hid ((reads_of_own ho3).seen); clear hc3 ho3)
          | (go_at_call 14; (with_reducible refine (HCP.out _ _ (HS3.out.keep ?_)).mono ?_); (focus (with_reducible repeat (first | exact Chg.refl _ _ | refine Chg.drew ?_ | refine Chg.drewN ?_ _))); rintro e w4 ⟨zv, rfl, hc4, ho4⟩; have hc34 : Chg [] w3 w4 := Chg.trans (S := []) (T := []) (by with_reducible repeat (first | exact Chg.refl _ _ | refine Chg.drew ?_ | refine Chg.drewN ?_ _)) hc4 (by simp); have HC4 := Lib.hid (show Chg [] w2 w4 from HC3.out.trans hc34 (by simp)); have HO4 := Lib.hid (show w4.ownsRow w.heap.size 5 1 zv ((X ++ vb (2 * z)) ++ lo s v).length (nv .u8 ((X ++ vb (2 * z)) ++ lo s v)) from own_mono ho4 (by first | exact Nat.le_trans HC2.out.size HC3.out.size | exact Nat.le_trans HC2.out.size HC3.out.drew.size)); clear hc4 ho4 hc34))
        all_goals
          clear hw1' hw2' hw3' hw4' hw5' hw6' hw7'
          have HC8 := Lib.hid (HC2.out.trans HC4.out (by simp))
          go_wp2
          go_roundw
          case rel => exact ⟨a + z, X ++ (vb (2 * z) ++ lo s v), haz, by go_num, HXP.out, HC8.out, by rw [← List.append_assoc]; exact HO4.out⟩
          case measure => simp [intOf]; omega
    · have hlt : decide ((a : Int) < (N : Int)) = false := by simp; omega
      have haN2 : ¬ a < N := haN
      have hXE : X = E := by
        have h := HX.out
        rwa [List.drop_eq_nil_of_le (by have := HN.out; omega), encL_nil, List.append_nil] at h
      go_wp2
      go_ret
      refine ⟨_, rfl, HC.out, ?_⟩
      rw [← hXE, ← HM.out]
      exact HO.out

end Go.Proofs.Ytlhdicbhanncnaa
