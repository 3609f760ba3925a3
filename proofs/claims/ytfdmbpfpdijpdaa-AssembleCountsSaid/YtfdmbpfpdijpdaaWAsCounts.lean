/- AssembleCounts. -/
import Derived.Test.YtfdmbpfpdijpdaaLA
import Derived.Test.YtfdmbpfpdijpdaaYC
import Derived.Test.YtfdmbpfpdijpdaaLB
import Derived.Test.YtfdmbpfpdijpdaaA1
namespace Go.Proofs.Ytfdmbpfpdijpdaa
open Go.RowKit
set_option linter.unusedVariables false
set_option linter.unusedSimpArgs false

set_option maxRecDepth 100000 in
set_option maxHeartbeats 8000000 in
theorem walk_AssembleCounts (a0 : Option Addr) (len0 cap0 : Nat) (z0 : List Int) (a1 : Option Addr) (len1 cap1 : Nat) (rs : List (List Int)) (a2 : Int) (w : World) (w0 : IsRow .i64 w a0 len0 cap0 z0) (w1 : RowsI w (.slice a1 len1 cap1) rs) (w2 : (Lit.int .i64 a2).wf = true) :
    Calls Try.prog 7 #[.slice a0 len0 cap0, .slice a1 len1 cap1, .int .i64 a2] w fun e w' => e = .returned (.bool true) ∧ Below w.heap.size w w' := by
  obtain ⟨ic0, hic, hcz0, hcz1, hcz2⟩ := info_col
  obtain ⟨ns, hS, hlen, hwf⟩ := w0.seenI
  have HS := Lib.hid hS; have HWF := Lib.hid hwf; have HR := Lib.hid w1; have HWN := Lib.hid w2
  clear w0 hS hwf hlen w2
  have hmk := mk_ok ns
  have hm15 := mk15 ns
  obtain ⟨r0, fo, hMF⟩ := mk_mf ns
  obtain ⟨l, hl⟩ : ∃ l, l = mk ns := ⟨_, rfl⟩
  have HL := Lib.hid hl
  obtain ⟨TS, hTS⟩ : ∃ TS, TS = (rs.take 16).map (mk8 l) := ⟨_, rfl⟩
  have hTl : TS.length ≤ 16 := by rw [hTS, List.length_map, List.length_take]; omega
  have HLM := Lib.hid (show ∀ t ∈ TS, ∃ r, t = mk8 (mk ns) r from fun t ht => by rw [hTS, hl] at ht; obtain ⟨r, -, rfl⟩ := List.mem_map.1 ht; exact ⟨r, rfl⟩)
  have hln := hmk.le
  have hlp := hmk.pos
  rw [← hl] at hmk hln hlp hm15
  have HFC := Lib.hid (show ∀ f ∈ l, f.c ≤ 9223372036854775807 from fun f hf => by have := hmk.c f hf; omega)
  have HMK := Lib.hid (show ∀ wx sv, SeenF wx sv l → Chg [] w wx → Calls Try.prog 17 #[sv, .slice a1 len1 cap1] wx fun e w' => ∃ lv, e = .returned lv ∧ ListIn (wx.heap.size ≤ ·) w' l.length TS lv ∧ Chg [] wx w' from fun wx sv hs hk => by
    rw [hTS]
    exact many_any sv (.slice a1 len1 cap1) l rs wx hs (HR.out.keep hk) hlp (by omega) HFC.out)
  have HRC := Lib.hid (show ∀ sv lv wx, SeenF wx sv l → ListAt wx l.length TS lv → _ from fun sv lv wx hs hL => rcolumns_made sv lv ns TS l.length wx (by rw [← hl]; exact hs) hL HLM.out hTl)
  obtain ⟨m, hm⟩ : ∃ m, m = TS.length := ⟨_, rfl⟩
  have HM := Lib.hid hm
  obtain ⟨N, hN⟩ : ∃ N, N = (leavesL (mk ns)).length := ⟨_, rfl⟩
  have hN40 : N ≤ 40 := by have h := leavesTo_le (mk ns) (mk ns).length; rw [hN]; unfold leavesL; rw [hl] at hln; omega
  have hN0 : 0 < N := by rw [hN]; exact hMF.pos
  have HNN := Lib.hid (show N = (leavesL l).length by rw [hN, hl])
  have HRA := Lib.hid (show ∀ sv bo cn cc wx, SeenF wx sv l → cn ≠ N → Calls Try.prog 19 #[sv, .slice bo cn cc, .int .i64 (m : Int)] wx fun e w' => e = .returned (.tuple #[.slice none 0 0, .int .i64 1]) ∧ Chg [] wx w' from fun sv bo cn cc wx hs hc => recs_cols sv l bo cn cc m wx hs hm15.chk hm15.c hm15.n (by omega) (by rw [← HNN.out]; exact hc))
  rw [← hN] at HRC
  rw [← hm] at hTl
  have HW := Lib.hid (fun wx => w16_int a2 99 99 wx rfl (by decide) (by decide) HWN.out)
  obtain ⟨q, hq⟩ : ∃ q, q = (a2 % (99 : Nat)).toNat := ⟨_, rfl⟩
  rw [← hq] at HW
  have hq99 : q < 99 := by omega
  have hz1 : IntKind.i64.wrap (201 + (q : Int)) = 201 + (q : Int) := IntWalk.i64_in _ (by omega)
  have hz2 : IntKind.i64.wrap (-1 - (q : Int)) = -1 - (q : Int) := IntWalk.i64_in _ (by omega)
  clear w1 hmk hm15 hMF hl hTS hm hN hln hq
  go_enter Try.func7, Try.ntmps7
  go_wp2_with fail
  refine (known16_any _).mono ?_
  rintro e wA ⟨rfl, hk⟩
  have HK1 := Lib.hid hk
  clear hk
  go_wp2_with fail
  refine (make_any _ ns _ (HS.out.keep HK1.out) HWF.out).mono ?_
  rintro e wB ⟨sv, rfl, hown, hk⟩
  rw [← HL.out] at hown
  have hSv := SeenF.own hown rfl
  obtain ⟨sa, sc, rfl⟩ := own_shape hown
  have HSF := Lib.hid hSv
  have HK2 := Lib.hid (HK1.out.trans hk (by simp))
  clear hown hSv hk
  go_wp2_with fail
  refine (HMK.out wB _ HSF.out HK2.out).mono ?_
  rintro e wC ⟨lv, rfl, hli, hk⟩
  have hla := hli.at
  obtain ⟨lo, lc, rfl, hlc1, hlc2⟩ := hla.shape
  rw [← HM.out] at hla hlc1 ⊢
  have HLV := Lib.hid hla
  have HK3 := Lib.hid (HK2.out.trans hk (by simp)); have HSF3 := Lib.hid (HSF.out.keep hk)
  clear hli hk hla
  go_wp2_with fail
  refine (HRC.out _ _ wC HSF3.out HLV.out).mono ?_
  rintro e wD ⟨cb, cc, wz, rfl, hk, hcc1, hcc2, hcb, hCS, hz⟩
  have HK4 := Lib.hid (HK3.out.trans hk (by simp)); have HSF4 := Lib.hid (HSF3.out.keep hk)
  have HCO := Lib.hid (hCS.cols (by omega))
  clear hk hCS hz
  have H0 := Lib.hid (own_lit wD wD.heap.size wD.heap.size rfl (Nat.le_refl _) 42 #[] [] 0 3 rfl rfl (by decide))
  have HM1 := Lib.hid (show 0 + N ≤ maxLen by unfold maxLen; omega)
  have HM2 := Lib.hid (show (0 + N) * 72 ≤ 140737488355328 by omega)
  have HM3 := Lib.hid (show N + 1 ≤ maxLen by unfold maxLen; omega)
  have HM4 := Lib.hid (show (N + 1) * 72 ≤ 140737488355328 by omega)
  have HCX := Lib.hid (show ∃ XS : List Value, XS.length = N * 3 ∧ (∀ u ∈ XS, u.oneCell' = true) ∧ ∀ wx, Chg [] wD wx → ∀ j u, XS[j]? = some u → wx.cell? ((⟨cb, 0, none⟩ : Addr).add j) = some u from by
    refine ⟨(List.range (N * 3)).map fun k => (wD.cell? ⟨cb, k, none⟩).getD undef, by simp, fun u hu => ?_, fun wx hc j u hu => ?_⟩
    · obtain ⟨k, hk, rfl⟩ := List.mem_map.1 hu
      have hk' := List.mem_range.1 hk
      obtain ⟨rv, dv, vv, c0, c1, c2, s0, s1, s2⟩ := HCO.out.at' (k / 3) (by omega)
      obtain ⟨_, _, rfl, -, -⟩ := s0.shape
      obtain ⟨_, _, rfl, -, -⟩ := s1.shape
      obtain ⟨_, _, rfl, -, -⟩ := s2.shape
      rcases (show k = k / 3 * 3 ∨ k = k / 3 * 3 + 1 ∨ k = k / 3 * 3 + 2 by omega) with e | e | e <;> rw [e]
      · rw [c0]; rfl
      · rw [c1]; rfl
      · rw [c2]; rfl
    · rw [addr_add, Nat.zero_add]
      rw [List.getElem?_map] at hu
      by_cases hj : j < N * 3
      · rw [List.getElem?_range hj] at hu
        simp only [Option.map_some, Option.some.injEq] at hu
        obtain ⟨rv, dv, vv, c0, c1, c2, -⟩ := HCO.out.at' (j / 3) (by omega)
        have : ∃ x, wD.cell? ⟨cb, j, none⟩ = some x := by
          rcases (show j = j / 3 * 3 ∨ j = j / 3 * 3 + 1 ∨ j = j / 3 * 3 + 2 by omega) with e | e | e <;> rw [e]
          · exact ⟨_, c0⟩
          · exact ⟨_, c1⟩
          · exact ⟨_, c2⟩
        obtain ⟨x, hx⟩ := this
        rw [hx] at hu
        rw [← hu]
        exact hc.cell hx (by simp)
      · rw [List.getElem?_eq_none (by simp; omega)] at hu
        exact absurd hu (by simp))
  obtain ⟨XS, hXl, hX1, hXc⟩ := HCX.out
  have HXL := Lib.hid hXl; have HX1 := Lib.hid hX1; have HXC := Lib.hid hXc
  clear hXl hX1 hXc HCX
  go_wp2_with (first
    | (at_builtin; refine wpList_append_own _ rfl (.tmp 34) (.tmp 35) 30 rfl wD.heap.size 42 ic0 _ 3 72 Try.underlying30 hic hcz0 hcz1 hcz2 rfl (by decide) _ 0 [] rfl H0.out ⟨cb, 0, none⟩ N cc XS rfl HXL.out (HXC.out _ ((Chg.refl [] wD).alloc _)) HX1.out HM1.out HM2.out (le_alloc (Nat.le_refl _) _) ?_; intro v1 wE hown hgrow _; rw [Nat.zero_add] at hown; obtain ⟨ea, ec, rfl⟩ := own_shape hown; have HO1 := Lib.hid hown; have HE1 := Lib.hid (((Chg.refl [] wD).alloc (.cells #[] 42)).grown hgrow (fun k hk => .inr (own_ge H0.out k hk))); clear hown hgrow)
    | (at_builtin; refine wpList_append_own _ rfl (.tmp 36) (.tmp 38) 30 rfl wD.heap.size 42 ic0 _ 3 72 Try.underlying30 hic hcz0 hcz1 hcz2 rfl (by decide) (.slice ea N ec) N _ rfl (HO1.out.alloc _) ⟨wE.heap.size, 0, none⟩ 1 1 [.slice none 0 0, .slice none 0 0, .slice none 0 0] rfl rfl (new_cells (C := #[.slice none 0 0, .slice none 0 0, .slice none 0 0]) wE.heap.size rfl) (by simp [Value.oneCell']) HM3.out HM4.out (le_alloc HE1.out.size _) ?_; intro v2 wF hown hgrow _; obtain ⟨fa, fc, rfl⟩ := own_shape hown; have HE2 := Lib.hid ((HE1.out.alloc (.cells #[.slice none 0 0, .slice none 0 0, .slice none 0 0] 42)).grown hgrow (fun k hk => .inr (own_ge HO1.out k hk))); clear hown hgrow)
    | fail)
  have HSF5 := Lib.hid (HSF4.out.keep HE2.out)
  have HK5 := Lib.hid (HK4.out.trans HE2.out (by simp))
  refine (HRA.out _ _ _ _ _ HSF5.out (by omega)).mono ?_
  rintro e wG ⟨rfl, hk⟩
  have HK6 := Lib.hid (HK5.out.trans hk (by simp)); have HSF6 := Lib.hid (HSF5.out.keep hk)
  clear hk
  go_wp2_with fail
  refine (HRA.out _ none 0 0 _ HSF6.out (by omega)).mono ?_
  rintro e wH ⟨rfl, hk⟩
  have HK7 := Lib.hid (HK6.out.trans hk (by simp))
  clear hk
  go_wp2_with fail
  refine (HW.out _).mono ?_
  rintro e _ ⟨rfl, rfl⟩
  go_wp2_with fail
  refine (recs_many nilS nilS _ _ _ _ _ _ _ _ (.inr (by omega))).mono ?_
  rintro e wI ⟨rfl, hk⟩
  have HK8 := Lib.hid (HK7.out.trans hk (by simp))
  clear hk
  go_wp2_with fail
  refine (HW.out _).mono ?_
  rintro e _ ⟨rfl, rfl⟩
  go_wp2_with fail
  refine (recs_many nilS nilS _ _ _ _ _ _ _ _ (.inl (by omega))).mono ?_
  rintro e wJ ⟨rfl, hk⟩
  have HK9 := Lib.hid (HK8.out.trans hk (by simp))
  clear hk
  go_wp2
  go_ret
  exact ⟨rfl, HK9.out.below (Nat.le_refl _) (by simp)⟩

end Go.Proofs.Ytfdmbpfpdijpdaa
