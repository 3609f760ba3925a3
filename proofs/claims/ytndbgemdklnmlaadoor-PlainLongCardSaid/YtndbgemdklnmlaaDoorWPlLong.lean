/- The walk of the statement PlainLong. -/
import Derived.Test.YtndbgemdklnmlaaDoorUi
import Derived.Test.YtndbgemdklnmlaaDoorHm
import Derived.Test.YtndbgemdklnmlaaDoorWPlSizes
namespace Go.Proofs.YtndbgemdklnmlaaDoor
open Go.RowKit
set_option linter.unusedVariables false
set_option linter.unusedSimpArgs false

theorem nm_four (n : Nat) (h : n < 256) (r : List Nat) : nm (([n, 0, 0, 0] ++ r).take 4) = n := by
  show nm [n, 0, 0, 0] = n
  simp [nm]

theorem dec_text (n : Nat) (h : n < 256) : decP 4 ([n, 0, 0, 0] ++ List.replicate n 0) 1 = if 100 < n then ([], 5) else ([⟨0, str (List.replicate n 0)⟩], 0) := by
  have e1 : rd1 4 ([n, 0, 0, 0] ++ List.replicate n 0) = if 100 < n then (⟨0, e0⟩, [], 5) else (⟨0, str (List.replicate n 0)⟩, [], 0) := by
    rw [rd1_4, if_neg (by simp), nm_four n h]
    have ed : ([n, 0, 0, 0] ++ List.replicate n 0).drop 4 = List.replicate n 0 := rfl
    rw [ed]
    by_cases h100 : 100 < n
    · rw [if_pos h100, if_pos h100]
    · rw [if_neg h100, if_neg h100, if_neg (by simp), List.take_of_length_le (by simp), List.drop_of_length_le (by simp)]
  unfold decP
  rw [if_neg (by omega), if_neg (by omega)]
  have e2 : rdN (4 : Int).toNat (1 : Int).toNat ([n, 0, 0, 0] ++ List.replicate n 0) = if 100 < n then ([], [], 5) else ([⟨0, str (List.replicate n 0)⟩], [], 0) := by
    show rdN 4 (0 + 1) _ = _
    rw [rdN, e1]
    by_cases h100 : 100 < n
    · rw [if_pos h100, if_pos h100, if_neg (by decide)]
    · rw [if_neg h100, if_neg h100, if_pos rfl]; rfl
  rw [e2]
  by_cases h100 : 100 < n
  · rw [if_pos h100, if_pos h100]; rfl
  · rw [if_neg h100, if_neg h100]; rfl

set_option maxRecDepth 100000 in
set_option maxHeartbeats 4000000 in
theorem walk_PlainLong (a0 : Int) (w : World) (hT : Laid w) (w0 : (Lit.int .i64 a0).wf = true) :
    Calls Tryd.prog 7 #[.int .i64 a0] w fun e w' => e = .returned (.bool true) ∧ Below w.heap.size w w' := by
  have HT := Lib.hid hT
  have HQ := Lib.hid (fun wx => within11 a0 8 8 wx rfl (by decide) (by decide) w0)
  obtain ⟨K, hK⟩ : ∃ K, K = (a0 % ((8 : Nat) : Int)).toNat := ⟨_, rfl⟩
  have hK8 : K < 8 := by rw [hK]; exact within_lt a0 8 (by decide)
  rw [← hK] at HQ
  obtain ⟨n, hn⟩ : ∃ n, n = 97 + K := ⟨_, rfl⟩
  have hnn : 97 ≤ n ∧ n < 105 := by omega
  have hni : (97 : Int) + (K : Int) = (n : Int) := by omega
  have hwr : IntKind.u8.wrap (n : Int) = (n : Int) := by
    have e : IntKind.u8.wrap (n : Int) = (n : Int) % 256 := by simp [IntKind.wrap, IntKind.bits, IntKind.signed]
    rw [e]; omega
  have HD := Lib.hid (show ∀ (wx : World) (bv : Value), Laid wx → Seen wx bv (nv .u8 ([n, 0, 0, 0] ++ List.replicate n 0)) → Calls Tryd.prog 14 #[.int .i64 4, bv, .int .i64 1] wx (PDecOut 4 ([n, 0, 0, 0] ++ List.replicate n 0) 1 wx) from fun wx bv hL hS =>
    pdecode_any 4 1 bv _ wx (by decide) (by decide) hL hS (by
      intro x hx
      rcases List.mem_append.1 hx with h | h
      · simp at h; omega
      · have := List.eq_of_mem_replicate h; omega) (by simp; omega))
  unfold PDecOut at HD
  rw [dec_text n (by omega)] at HD
  have HST := Lib.hid (str_size (List.replicate n 0))
  rw [List.length_replicate] at HST
  obtain ⟨s, hs⟩ : ∃ s, s = str (List.replicate n 0) := ⟨_, rfl⟩
  rw [← hs] at HD HST
  clear hT w0 hK hn hs
  go_enter Tryd.func7, Tryd.ntmps7
  go_wp2_with fail
  refine (known11_any _ HT.out).mono ?_
  rintro e wA ⟨rfl, hk⟩
  have HKA := Lib.hid hk
  clear hk
  go_wp2_with fail
  refine (HQ.out _).mono ?_
  rintro e wB ⟨rfl, rfl⟩
  go_upto_region 4 with fail
  clear hni HQ
  go_wp2_with (at_builtin; refine wpList_append_make rfl _ _ rfl ⟨wA.heap.size, 0, none⟩ 4 n [n, 0, 0, 0] rfl rfl rfl ?c0 (by omega) (by omega) ?_)
  case c0 => intro j v hj; rw [addr_add, Nat.zero_add, cell_of_row _ wA.heap.size j _ _ _ (hl_new rfl)]; simpa [nv] using hj
  intro v' w2 hown hc
  obtain ⟨vo, vc, rfl⟩ := own_shape hown
  have HC2 := Lib.hid ((HKA.out.alloc (.cells #[.int .u8 (n : Int), .int .u8 0, .int .u8 0, .int .u8 0] 5)).trans hc (by simp))
  have HO2 := Lib.hid (reads_of_own hown).seen
  clear hown hc
  by_cases h100 : 100 < n
  · rw [if_pos h100] at HD
    have hd : (100 : Int) < (n : Int) := by omega
    clear h100
    go_wp2_with (first
      | (go_at_call 14; (with_reducible refine (HD.out _ _ (HT.out.keep HC2.out) HO2.out).mono ?_); rintro e wE ⟨x, rfl, hc, ho⟩; obtain ⟨xo, xc, rfl⟩ := own_shape ho; have HC3 := Lib.hid (HC2.out.trans hc (by simp)); clear hc ho)
      | fail)
    go_ret
    exact ⟨rfl, HC3.out.below (Nat.le_refl _) (by simp)⟩
  · rw [if_neg h100] at HD
    have hd : ¬ ((100 : Int) < (n : Int)) := by omega
    have HS1 := Lib.hid (show s.size = n from HST.out)
    clear h100
    go_upto_region 5 with (first
      | (go_at_call 14; (with_reducible refine (HD.out _ _ (HT.out.keep HC2.out) HO2.out).mono ?_); rintro e wE ⟨x, rfl, hc, ho⟩; obtain ⟨xo, xc, rfl⟩ := own_shape ho; obtain ⟨g, hg, -, -, -, hcl⟩ := own_ptr ho (by simp); have x1 := hcl 1 (.string s) rfl; have HC3 := Lib.hid (HC2.out.trans hc (by simp)); clear hc ho hcl)
      | fail)
    subst hg
    have hsz : ((s.size : Nat) : Int) = (n : Int) := by rw [HS1.out]
    go_wp2
    go_ret
    exact ⟨rfl, HC3.out.below (Nat.le_refl _) (by simp)⟩

end Go.Proofs.YtndbgemdklnmlaaDoor
