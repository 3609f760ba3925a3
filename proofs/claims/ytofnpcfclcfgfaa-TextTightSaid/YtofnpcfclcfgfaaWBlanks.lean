/- The walk of the statement TextBlanks. -/
import Derived.Test.YtofnpcfclcfgfaaRt
import Derived.Test.YtofnpcfclcfgfaaRs
namespace Go.Proofs.Ytofnpcfclcfgfaa
open Go.RowKit
set_option linter.unusedVariables false

def gapL : List ByteArray := [{ data := #[32] }, { data := #[9] }, { data := #[10] }, { data := #[32, 32, 32] }]

theorem blk_same {c : Nat} (h : c = 32 ∨ c = 10 ∨ c = 9) (s : WS) : wst s c = wst s 32 := by
  cases s with
  | none => rfl
  | some p =>
    obtain ⟨ws, cur⟩ := p
    rw [wst_blk (ws := ws) (cur := cur) (c := 32) (by decide) (by decide) (by decide)]
    rcases h with rfl | rfl | rfl <;> exact wst_blk (by decide) (by decide) (by decide)

theorem blk_twice (s : WS) : wst (wst s 32) 32 = wst s 32 := by
  cases s with
  | none => rfl
  | some p =>
    obtain ⟨ws, cur⟩ := p
    rw [wst_blk (ws := ws) (cur := cur) (c := 32) (by decide) (by decide) (by decide), wst_blk (by decide) (by decide) (by decide)]
    simp [flush]

theorem gap_run : ∀ k, k < 4 → ∀ s : WS, wrun s (bl (gapL.getD k ByteArray.empty)) = wst s 32 := by
  intro k hk s
  have hw : k = 0 ∨ k = 1 ∨ k = 2 ∨ k = 3 := by omega
  rcases hw with rfl | rfl | rfl | rfl
  · rfl
  · exact blk_same (.inr (.inr rfl)) s
  · exact blk_same (.inr (.inl rfl)) s
  · show wst (wst (wst s 32) 32) 32 = wst s 32
    rw [blk_twice, blk_twice]
theorem gap_size : ∀ k, k < 4 → (gapL.getD k ByteArray.empty).size ≤ 3 := by decide

theorem run_take {l : List Nat} {i c : Nat} (h : l[i]? = some c) (s : WS) : wrun s (l.take (i + 1)) = wst (wrun s (l.take i)) c := by
  rw [List.take_add_one, h, wrun_append]
  rfl

theorem bl_one_at (T : ByteArray) (i : Nat) (c : Nat) (h : (bl T)[i]? = some c) : bl (T.extract i (i + 1)) = [c] := by
  have hl : i < (bl T).length := (List.getElem?_eq_some_iff.1 h).1
  rw [bl_length] at hl
  rw [extract_str T i (i + 1) (by omega), List.take_add_one, h, List.drop_append_of_le_length (by simp; omega), List.drop_of_length_le (by rw [List.length_take]; exact Nat.min_le_left _ _)]
  have hc : c < 256 := by
    rw [bl_get T i hl] at h
    injection h with h
    rw [← h]
    exact (T[i]'hl).toNat_lt
  exact bl_one c hc

set_option maxRecDepth 100000 in
set_option maxHeartbeats 4000000 in
theorem walk_TextBlanks (a0 : Option Addr) (len0 cap0 : Nat) (z0 : List Int) (a1 : Int) (w : World) (w0 : IsRow .i64 w a0 len0 cap0 z0) (w1 : (Lit.int .i64 a1).wf = true) :
    Calls Try.prog 5 #[.slice a0 len0 cap0, .int .i64 a1] w fun e w' => e = .returned (.bool true) ∧ Below w.heap.size w w' := by
  obtain ⟨ns, hS, hlen, hwf⟩ := w0.seenI
  have HS := Lib.hid hS; have HWF := Lib.hid hwf
  clear w0 w1 hS hwf hlen
  obtain ⟨r, fo, hF⟩ := mkF ns
  have HF := Lib.hid hF
  have hts := hF.size
  obtain ⟨l, hl⟩ : ∃ l, l = r :: fo.flat := ⟨_, rfl⟩
  have HPS := Lib.hid (fun (x : ByteArray) (h1 : x.size ≤ 4000) (h2 : wrun w0 (bl x) = wrun w0 (bl (txtR r fo))) => hF.parse (l := bl x) (by rw [bl_length]; exact h1) (wordsL_done (h2.trans hF.run)))
  have HEQ := Lib.hid hF.eq
  rw [← hl] at HPS HEQ
  clear hF hl
  go_enter Try.func5, Try.ntmps5
  go_wp2_with fail
  (with_reducible refine (known6_any _).mono ?_)
  rintro e wa ⟨rfl, hk⟩
  have HK1 := Lib.hid hk
  clear hk
  go_wp2_with fail
  (with_reducible refine (make_any _ ns _ (HS.out.keep HK1.out) HWF.out).mono ?_)
  rintro e wb ⟨sv, rfl, hown, hk⟩
  have hSv := SeenF.own hown rfl
  obtain ⟨sa, sc, rfl⟩ := own_shape hown
  have HSF := Lib.hid hSv
  have HK2 := Lib.hid (HK1.out.trans hk (by simp))
  clear hown hSv hk
  go_wp2_with fail
  (with_reducible refine (rPrint_any ns r fo HF.out _ _ HSF.out).mono ?_)
  rintro e wc ⟨rfl, hk⟩
  have HK3 := Lib.hid (HK2.out.trans hk (by simp))
  have HSC := Lib.hid (show SeenF wc (.slice sa (mk ns).length sc) l by rw [← HEQ.out]; exact HSF.out.keep hk)
  clear hk
  obtain ⟨T, hT⟩ : ∃ T, T = txtR r fo := ⟨_, rfl⟩
  rw [← hT] at hts HPS ⊢
  clear hT
  go_wp2
  go_loopw [7, 8] (fun s7 s8 wx => ∃ (out : ByteArray) (i : Nat), s7 = .string out ∧ s8 = .int .i64 (i : Int) ∧ i ≤ T.size ∧ out.size ≤ 3 * i ∧ wrun w0 (bl out) = wrun w0 ((bl T).take i) ∧ Chg [] wc wx) (fun _ s8 _ => T.size - (intOf s8).toNat)
  case atStart => exact ⟨{ data := #[] }, 0, rfl, rfl, Nat.zero_le _, Nat.le_refl _, rfl, Chg.refl [] wc⟩
  case round =>
    obtain ⟨out, i, rfl, rfl, hi, hos, hrun, hcg⟩ := hrel
    have HRU := Lib.hid hrun; have HCG := Lib.hid hcg
    clear hrun hcg
    by_cases hlt : i < T.size
    · obtain ⟨c, hc⟩ : ∃ c, (T[i]'hlt).toNat = c := ⟨_, rfl⟩
      have hbc : (bl T)[i]? = some c := by rw [bl_get T i hlt, hc]
      have HBC := Lib.hid hbc
      clear hbc
      by_cases hb : c = 32 ∨ c = 10
      · have hsame := Lib.hid (fun s => blk_same (c := c) (by omega) s)
        have HW := Lib.hid (fun wx => w6_int (wrap64 (a1 + (i : Int))) 4 4 wx rfl (by decide) (by decide) (wrap64_wf _))
        have hkl := within_lt (wrap64 (a1 + (i : Int))) 4 (by decide)
        obtain ⟨k, hk⟩ : ∃ k, k = (wrap64 (a1 + (i : Int)) % ((4 : Nat) : Int)).toNat := ⟨_, rfl⟩
        rw [← hk] at HW hkl
        clear hk
        have hgs := gap_size k hkl
        have HGR := Lib.hid (gap_run k hkl)
        have hcell : ∀ W : World, (W.alloc (.cells #[.string { data := #[32] }, .string { data := #[9] }, .string { data := #[10] }, .string { data := #[32, 32, 32] }] 9)).cell? ⟨W.heap.size, k, none⟩ = some (.string (gapL.getD k ByteArray.empty)) := fun W => lit_cell (l := gapL) rfl hkl rfl rfl
        obtain ⟨x, hx⟩ : ∃ x, x = gapL.getD k ByteArray.empty := ⟨_, rfl⟩
        rw [← hx] at hgs HGR hcell
        clear hx
        have hways : ((c : Int) == 32) = true ∨ ((c : Int) == 32) = false ∧ ((c : Int) == 10) = true := by
          rcases hb with h | h <;> simp [h]
        clear hb
        rcases hways with q1 | ⟨q1, q2⟩
        all_goals
          go_wp2_with fail
          (with_reducible refine (HW.out _).mono ?_)
          rintro e w2 ⟨rfl, rfl⟩
          go_wp2
          go_roundw
          case rel =>
            refine ⟨out ++ x, i + 1, rfl, by go_num, by omega, by rw [ByteArray.size_append]; omega, ?_, HCG.out.alloc _⟩
            rw [bl_append, wrun_append, HGR.out, HRU.out, run_take HBC.out, hsame.out]
          case measure => simp [intOf]; omega
      · have q1 : ((c : Int) == 32) = false := by simp; omega
        have q2 : ((c : Int) == 10) = false := by simp; omega
        have hes : (T.extract i (i + 1)).size = 1 := by rw [ByteArray.size_extract]; omega
        clear hb
        go_wp2
        go_roundw
        case rel =>
          refine ⟨out ++ T.extract i (i + 1), i + 1, rfl, by go_num, by omega, by rw [ByteArray.size_append]; omega, ?_, HCG.out⟩
          rw [bl_append, wrun_append, bl_one_at T i c HBC.out, HRU.out, run_take HBC.out]
          rfl
        case measure => simp [intOf]; omega
    · have hie : i = T.size := by omega
      have hpa := parse_any out wr (by omega)
      rw [HPS.out out (by omega) (by rw [HRU.out, hie, List.take_of_length_le (by rw [bl_length]; omega)])] at hpa
      have HPA := Lib.hid hpa
      clear hie hpa
      go_wp2_with fail
      (with_reducible refine HPA.out.mono ?_)
      rintro e wd ⟨hk, hout⟩
      have HC2 := Lib.hid (HCG.out.trans hk (by simp))
      clear hk
      rcases hout with ⟨-, v, rfl, hown⟩ | ⟨h0, -⟩
      · have hSx := SeenF.own hown rfl
        obtain ⟨xa, xc, rfl⟩ := own_shape hown
        have HSX := Lib.hid hSx
        clear hown hSx
        go_wp2_with fail
        (with_reducible refine (rsame_any _ _ _ _ HSX.out (HSC.out.keep HC2.out)).mono ?_)
        rintro e we ⟨rfl, hk⟩
        have HC3 := Lib.hid ((HK3.out.trans HC2.out (by simp)).trans hk (by simp))
        clear hk
        go_wp2
        go_ret
        exact ⟨by simp, HC3.out.below (Nat.le_refl _) (by simp)⟩
      · exact absurd rfl h0

end Go.Proofs.Ytofnpcfclcfgfaa
