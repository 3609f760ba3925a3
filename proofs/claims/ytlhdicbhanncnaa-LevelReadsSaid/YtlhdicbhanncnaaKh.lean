/- level: groups. -/
import Derived.Test.YtlhdicbhanncnaaKg
import Derived.Test.YtlhdicbhanncnaaA3
namespace Go.Proofs.Ytlhdicbhanncnaa
open Go.RowKit
set_option linter.unusedVariables false
set_option linter.unusedSimpArgs false

theorem take_snoc_nv (k : IntKind) (l : List Nat) (j : Nat) (h : j < l.length) : nv k (l.take j) ++ [.int k ((l.getD j 0 : Nat) : Int)] = nv k (l.take (j + 1)) := by
  have e : l.getD j 0 = l[j] := by simp [List.getD, h]
  rw [List.take_add_one, List.getElem?_eq_getElem h, e]
  simp only [nv, List.map_append, Option.toList_some, List.map_cons, List.map_nil]

set_option maxRecDepth 100000 in
set_option maxHeartbeats 1000000 in
theorem groups10_any (lv : Value) (l : List Nat) (width : Nat) (w : World) (hS : Seen w lv (nv .i64 l)) (hw : width ≤ 16) (hl : ∀ x ∈ l, x < 18446744073709551616) (hl2 : l.length ≤ 900000) :
    Calls Try.prog 32 #[lv, .int .i64 (width : Int)] w fun e w' => ∃ x, e = .returned x ∧ Made 5 .u8 (vb (2 * ((l.length + 7) / 8) + 1) ++ packed width (pad8 l)) w x w' := by
  obtain ⟨i0, hi, hz0, hz1, hz2⟩ := info_u64
  obtain ⟨i8, hi8, hz08, hz18, hz28⟩ := info_u8
  obtain ⟨ao, cap, rfl, hc1, hc2⟩ := hS.shape
  rw [nv_length] at hc1 hS
  rw [nv_length]
  have HS := Lib.hid hS
  have HL := Lib.hid hl
  obtain ⟨m, hm⟩ : ∃ m, m = l.length := ⟨_, rfl⟩
  rw [← hm] at hc1 hl2 HS ⊢
  have HM := Lib.hid hm
  obtain ⟨n, hn⟩ : ∃ n, n = (m + 7) / 8 := ⟨_, rfl⟩
  rw [← hn]
  have HN := Lib.hid hn
  have hn2 : n ≤ 200000 := by omega
  have hmn : m ≤ n * 8 := by omega
  obtain ⟨C, hC⟩ : ∃ C, C = n * 8 := ⟨_, rfl⟩
  have HCC := Lib.hid hC
  have hC2 : C ≤ 900007 := by omega
  have hCm : m ≤ C := by omega
  have hci : (n : Int) * 8 = (C : Int) := by omega
  have hcw : IntKind.i64.wrap (C : Int) = (C : Int) := IntWalk.i64_in _ (by omega)
  clear hS hl hm hn hc2 hC hmn
  go_enter Try.func32, Try.ntmps32
  go_wp2_with fail
  refine (whole_any m w (by omega)).mono ?_
  rintro e w1 ⟨rfl, rfl⟩
  rw [← HN.out]
  go_wp2_with (at_make; refine wpList_make_own _ rfl _ _ 42 rfl w.heap.size 41 i0 (.int .u64 0) 1 Try.underlying42 hi hz0 hz1 _ _ _ C rfl rfl ?b1 ?b2 ?b3 (Nat.le_refl _) ?_)
  case b1 => omega
  case b2 => rw [hz2]; omega
  case b3 => unfold maxLen; omega
  intro w1 hown1 hgrow1
  have HC1 := Lib.hid ((Chg.refl [] w).grown hgrow1 (by simp))
  have HO1 := Lib.hid hown1
  clear hown1 hgrow1
  go_wp2
  go_loopw [6, 17] (fun v i w' => ∃ j : Nat, j ≤ m ∧ i = .int .i64 (j : Int) ∧ Chg [] w w' ∧ w'.ownsRow w.heap.size 41 1 v j (nv .u64 (l.take j))) (fun _ i _ => m - (intOf i).toNat)
  case atStart => exact ⟨0, Nat.zero_le _, rfl, HC1.out, by simpa [nv] using HO1.out⟩
  case round =>
    obtain ⟨j, hj, rfl, hcj, hoj⟩ := hrel
    have HCJ := Lib.hid hcj
    have hBw : w.heap.size ≤ wr.heap.size := hcj.size
    obtain ⟨vo, vc, rfl⟩ := own_shape hoj
    have HOJ := Lib.hid hoj
    clear hcj hoj
    by_cases hjm : j < m
    · have hlt : decide ((j : Int) < (m : Int)) = true := by simp; omega
      obtain ⟨g, off, rfl, hcell⟩ := (HS.out.keep HCJ.out).at0 HM.out.symm (by omega)
      obtain ⟨s, hs⟩ : ∃ s, s = l.getD j 0 := ⟨_, rfl⟩
      have hx : wr.cell? ⟨g, off + j, none⟩ = some (.int .i64 (s : Int)) := by rw [hs]; exact hcell j hjm
      have hs2 : s < 18446744073709551616 := by rw [hs]; exact HL.out _ (getD_mem (by rw [← HM.out]; exact hjm))
      have hsw : IntKind.u64.wrap (s : Int) = (s : Int) := wraps64 _ (by omega) (by omega)
      have E := Lib.hid (show nv .u64 (l.take j) ++ [.int .u64 (s : Int)] = nv .u64 (l.take (j + 1)) by rw [hs]; exact take_snoc_nv .u64 l j (by rw [← HM.out]; exact hjm))
      clear hcell hs
      go_wp2_with (at_builtin; refine wpList_append_own _ rfl _ _ 42 rfl w.heap.size 41 i0 (.int .u64 0) 1 8 Try.underlying42 hi hz0 hz1 hz2 rfl (by decide) _ _ _ rfl (HOJ.out.alloc _) ⟨wr.heap.size, 0, none⟩ 1 1 [.int .u64 (s : Int)] rfl rfl ?c1 ?c2 ?c3 ?c4 ?c5 ?_)
      case c1 => exact (cell_one_new _ _ _)
      case c2 => simp [Value.oneCell']
      case c3 => unfold maxLen; omega
      case c4 => omega
      case c5 => simp; omega
      intro v' w1 hown' hgrow _
      rw [E.out] at hown'
      have HG := Lib.hid ((HCJ.out.alloc (.cells #[.int .u64 (s : Int)] 41)).grown hgrow (fun k hk => .inr (HOJ.out.lt k hk).1))
      have HO2 := Lib.hid hown'
      clear hgrow hown'
      go_wp2
      go_roundw
      case rel => exact ⟨j + 1, hjm, by go_num, HG.out, HO2.out⟩
      case measure => simp [intOf]; omega
    · have hlt : decide ((j : Int) < (m : Int)) = false := by simp; omega
      have hjm : j = m := by omega
      subst hjm
      have HO3 := Lib.hid (show wr.ownsRow w.heap.size 41 1 (.slice vo j vc) j (nv .u64 l) by have h := HOJ.out; rwa [List.take_of_length_le (by rw [← HM.out]; exact Nat.le_refl _)] at h)
      have hsb : IntKind.i64.wrap ((C : Int) - (j : Int)) = ((C - j : Nat) : Int) := by rw [show (C : Int) - (j : Int) = ((C - j : Nat) : Int) by omega]; exact IntWalk.i64_in _ (by omega)
      obtain ⟨q, hq⟩ : ∃ q, q = C - j := ⟨_, rfl⟩
      rw [← hq] at hsb
      have HQ := Lib.hid hq
      have hq8 : q ≤ 1600000 := by omega
      have hqj : q + j = C := by omega
      clear hq
      go_wp2
      go_loopw [6, 32] (fun v i w' => ∃ k : Nat, k ≤ q ∧ i = .int .i64 (k : Int) ∧ Chg [] w w' ∧ w'.ownsRow w.heap.size 41 1 v (j + k) (nv .u64 (l ++ List.replicate k 0))) (fun _ i _ => q - (intOf i).toNat)
      case atStart => exact ⟨0, Nat.zero_le _, rfl, HCJ.out, by simpa using HO3.out⟩
      case round =>
        obtain ⟨k, hk, rfl, hck, hok⟩ := hrel
        have HCK := Lib.hid hck
        have hBk := hck.size
        obtain ⟨ko, kc, rfl⟩ := own_shape hok
        have HOK := Lib.hid hok
        clear hck hok
        by_cases hkq : k < q
        · have hlt2 : decide ((k : Int) < (q : Int)) = true := by simp; omega
          have E := Lib.hid (show nv .u64 (l ++ List.replicate k 0) ++ [.int .u64 0] = nv .u64 (l ++ List.replicate (k + 1) 0) by rw [List.replicate_succ']; simp [nv])
          go_wp2_with (at_builtin; refine wpList_append_own _ rfl _ _ 42 rfl w.heap.size 41 i0 (.int .u64 0) 1 8 Try.underlying42 hi hz0 hz1 hz2 rfl (by decide) _ _ _ rfl (HOK.out.alloc _) ⟨wr.heap.size, 0, none⟩ 1 1 [.int .u64 0] rfl rfl ?c1 ?c2 ?c3 ?c4 ?c5 ?_)
          case c1 => exact (cell_one_new _ _ _)
          case c2 => simp [Value.oneCell']
          case c3 => unfold maxLen; omega
          case c4 => omega
          case c5 => simp; omega
          intro v' w1 hown' hgrow _
          rw [E.out] at hown'
          have HG := Lib.hid ((HCK.out.alloc (.cells #[.int .u64 0] 41)).grown hgrow (fun k hk => .inr (HOK.out.lt k hk).1))
          have HO2 := Lib.hid hown'
          clear hgrow hown'
          go_wp2
          go_roundw
          case rel => exact ⟨k + 1, hkq, by go_num, HG.out, by rw [← Nat.add_assoc]; exact HO2.out⟩
          case measure => simp [intOf]; omega
        · have hlt2 : decide ((k : Int) < (q : Int)) = false := by simp; omega
          have hkq : k = q := by omega
          subst hkq
          have hpad : pad8 l = l ++ List.replicate k 0 := by
            have h1 := HM.out; have h2 := HN.out; have h3 := HCC.out; have h4 := HQ.out
            unfold pad8
            rw [← h1, ← h2, show 8 * n - j = k by omega]
          have hpl : (pad8 l).length = C := by rw [hpad]; simp; have := HM.out; omega
          have HSP := Lib.hid (show Seen wr (.slice ko (j + k) kc) (nv .u64 (pad8 l)) by rw [hpad]; exact (reads_of_own HOK.out).seen)
          have HLP := Lib.hid (show ∀ x ∈ pad8 l, x < 2 ^ 64 from fun x hx => by
            rw [hpad] at hx
            rcases List.mem_append.1 hx with hx | hx
            · exact HL.out x hx
            · rw [(List.mem_replicate.1 hx).2]; decide)
          have HPL := Lib.hid hpl
          have hw1 : IntKind.u64.wrap (n : Int) = (n : Int) := wraps64 _ (by omega) (by omega)
          have hw2 : IntKind.u64.wrap (2 * (n : Int)) = ((2 * n : Nat) : Int) := by rw [wraps64 _ (by omega) (by omega)]; omega
          have hw3 : IntKind.u64.wrap (((2 * n : Nat) : Int) + 1) = ((2 * n + 1 : Nat) : Int) := by rw [wraps64 _ (by omega) (by omega)]; omega
          have HP := Lib.hid (put_any (.slice none 0 0) [] (2 * n + 1) wr (Seen.nil wr) (by simp) (by omega))
          have hvl := vb_len64 (v := 2 * n + 1) (by omega)
          have hpk : (packed width (pad8 l)).length ≤ 16 * 1600000 := by
            rw [packed_length, hpl]
            have : width * C ≤ 16 * 1600000 := Nat.mul_le_mul hw (Nat.le_trans hC2 (by decide))
            omega
          obtain ⟨PK, hPK⟩ : ∃ PK, PK = packed width (pad8 l) := ⟨_, rfl⟩
          rw [← hPK] at hpk
          have HPK := Lib.hid hPK
          clear hpad hpl hPK
          go_wp2_with fail
          refine HP.out.mono ?_
          rintro e wp ⟨px, rfl, hcp, hop⟩
          rw [List.nil_append] at hop
          have HCP := Lib.hid hcp
          obtain ⟨po, pc, rfl⟩ := own_shape hop
          have HOP := Lib.hid hop
          clear hcp hop
          have HPA := Lib.hid (pack_yes (.slice ko (j + k) kc) (pad8 l) width wp (by omega) (by rw [HPL.out]; omega) (HSP.out.keep HCP.out) HLP.out)
          rw [← HPK.out] at HPA
          go_wp2_with fail
          refine HPA.out.mono ?_
          rintro e wk ⟨gk, rfl, hck2, hok2⟩
          have HCK2 := Lib.hid hck2
          have HOK2 := Lib.hid hok2
          have HOP2 := Lib.hid (own_chg HOP.out hck2 (by simp))
          have hsz := (HCK.out.trans (HCP.out.trans hck2 (by simp)) (by simp)).size
          have hsz2 := hck2.size
          have hsz3 := HCP.out.size
          clear hck2 hok2
          go_wp2_with (at_builtin; refine wpList_append_reads _ rfl _ _ 23 23 rfl wr.heap.size 5 5 i8 (.int .u8 0) 1 Try.underlying23 Try.underlying23 hi8 hz08 hz18 hz28 rfl _ _ _ rfl HOP2.out _ (nv .u8 PK) rfl ((reads_of_own HOK2.out).seen) (nv_one _ _) ?c1 ?c2 ?c3 ?_)
          case c1 => rw [nv_length]; unfold maxLen; omega
          case c2 => rw [nv_length]; omega
          case c3 => omega
          intro v2 w2 hown2 hgrow2
          have HC2 := Lib.hid ((HCP.out.trans HCK2.out (by simp)).grown hgrow2 (fun k hk => .inr (own_ge HOP2.out k hk)))
          have HO2 := Lib.hid hown2
          clear hown2 hgrow2
          go_wp2
          go_ret
          refine ⟨_, rfl, HCK.out.trans HC2.out (by simp), ?_⟩
          have h := own_mono HO2.out HCK.out.size
          rw [← HPK.out, List.length_append]
          have e : nv .u8 (vb (2 * n + 1)) ++ nv .u8 PK = nv .u8 (vb (2 * n + 1) ++ PK) := by simp [nv]
          rw [e] at h
          exact h

end Go.Proofs.Ytlhdicbhanncnaa
