/- slices.Equal of integers and of values; shred.Same. -/
import Derived.Test.YtfdmbpfpdijpdaaA1
namespace Go.Proofs.Ytfdmbpfpdijpdaa
open Go.RowKit
set_option linter.unusedVariables false
set_option linter.unusedSimpArgs false

theorem ret_b {a b : Bool} (h : a = b) : Ending.returned (.bool a) = .returned (.bool b) := by rw [h]

theorem toList_inj14 {a b : ByteArray} (h : a.toList = b.toList) : a = b := by
  rw [ByteArray.toList_eq, ByteArray.toList_eq] at h
  cases a; cases b
  congr 1
  exact Array.ext' h

/-- Rows of the same length that are alike so far. -/
theorem eq_of_get {α : Type} {A B : List α} (hl : A.length = B.length) (h : ∀ i, i < A.length → A[i]? = B[i]?) : A = B := by
  apply List.ext_getElem?
  intro i
  by_cases hi : i < A.length
  · exact h i hi
  · rw [List.getElem?_eq_none (by omega), List.getElem?_eq_none (by omega)]

set_option maxRecDepth 100000 in
set_option maxHeartbeats 1000000 in
theorem equalI_any (a b : Value) (A B : List Int) (w : World) (ha : SeenI w a A) (hb : SeenI w b B) :
    Calls Try.prog 61 #[a, b] w fun e w' => e = .returned (.bool (decide (A = B))) ∧ Chg [] w w' := by
  obtain ⟨ao, ac, rfl, ha1, ha2⟩ := ha.shape
  obtain ⟨bo, bc, rfl, hb1, hb2⟩ := hb.shape
  obtain ⟨n, hn⟩ : ∃ n, n = A.length := ⟨_, rfl⟩
  obtain ⟨m, hm⟩ : ∃ m, m = B.length := ⟨_, rfl⟩
  rw [← hn] at ha ha1 ⊢
  rw [← hm] at hb hb1 ⊢
  have HA := Lib.hid ha; have HB := Lib.hid hb; have HN := Lib.hid hn; have HM := Lib.hid hm
  have hnm : n ≤ 9223372036854775807 := by unfold maxLen at ha2; omega
  obtain ⟨D, hD⟩ : ∃ D, D = decide (A = B) := ⟨_, rfl⟩
  rw [← hD]
  have HD := Lib.hid hD
  clear ha hb hn hm hD
  by_cases hl : n = m
  · have HL := Lib.hid hl
    have q1 : ((n : Int) != (m : Int)) = false := by simp [hl]
    clear hl
    go_enter Try.func61, Try.ntmps61
    go_wp2
    go_loopw [13] (fun x w' => ∃ k : Nat, x = .int .i64 (k : Int) ∧ k ≤ n ∧ Chg [] w w' ∧ ∀ i, i < k → A[i]? = B[i]?) (fun x _ => n - (intOf x).toNat)
    case atStart => exact ⟨0, rfl, Nat.zero_le _, Chg.refl _ _, fun i h => by omega⟩
    case round =>
      obtain ⟨k, rfl, hk, hc, heq⟩ := hrel
      have HC := Lib.hid hc; have HE := Lib.hid heq
      clear hc heq
      by_cases hlt : k < n
      · have d1 : decide ((k : Int) < (n : Int)) = true := by simp; omega
        obtain ⟨ga, oa, rfl, hga⟩ := SeenI.get (HA.out.keep HC.out) (by omega) HN.out.symm
        obtain ⟨gb, ob, rfl, hgb⟩ := SeenI.get (HB.out.keep HC.out) (by have := HL.out; omega) HM.out.symm
        have a1 := hga k hlt
        have b1 := hgb k (by have := HL.out; omega)
        obtain ⟨x, hx⟩ : ∃ z, z = A.getD k 0 := ⟨_, rfl⟩
        obtain ⟨y, hy⟩ : ∃ z, z = B.getD k 0 := ⟨_, rfl⟩
        rw [← hx] at a1
        rw [← hy] at b1
        have hkm : k < m := by have := HL.out; omega
        have HX := Lib.hid (show A[k]? = some x by rw [hx, List.getD, List.getElem?_eq_getElem (by rw [← HN.out]; exact hlt)]; rfl)
        have HY := Lib.hid (show B[k]? = some y by rw [hy, List.getD, List.getElem?_eq_getElem (by rw [← HM.out]; exact hkm)]; rfl)
        clear hga hgb hx hy
        by_cases he : x = y
        · have hee : (x != y) = false := by simp [he]
          have HEE := Lib.hid (show ∀ i, i < k + 1 → A[i]? = B[i]? from fun i hi => by
            by_cases e : i = k
            · subst e; rw [HX.out, HY.out, he]
            · exact HE.out i (by omega))
          clear he
          go_wp2_with fail
          go_region
          go_wp2
          go_roundw
          case rel => exact ⟨k + 1, by go_num, by omega, HC.out.drew, HEE.out⟩
          case measure => simp [intOf]; omega
        · have hee : (x != y) = true := by simp [he]
          have E := Lib.hid (show D = false by
            rw [HD.out, decide_eq_false_iff_not]
            intro e
            have h1 := HX.out
            rw [e, HY.out] at h1
            injection h1 with h1
            exact he h1.symm)
          clear he
          go_wp2_with fail
          go_region
          go_wp2
          go_ret
          exact ⟨ret_b E.out.symm, HC.out.drew⟩
      · have d1 : decide ((k : Int) < (n : Int)) = false := by simp; omega
        have E := Lib.hid (show D = true by
          rw [HD.out, decide_eq_true_eq]
          exact eq_of_get (by rw [← HN.out, ← HM.out]; exact HL.out) fun i hi => HE.out i (by rw [← HN.out] at hi; omega))
        go_wp2
        go_ret
        exact ⟨ret_b E.out.symm, HC.out⟩
  · have q1 : ((n : Int) != (m : Int)) = true := by simp; omega
    have E := Lib.hid (show D = false by
      rw [HD.out, decide_eq_false_iff_not]
      intro e
      exact hl (by rw [HN.out, HM.out, e]))
    clear hl
    go_enter Try.func61, Try.ntmps61
    go_wp2
    go_ret
    exact ⟨ret_b E.out.symm, Chg.refl _ _⟩

set_option maxRecDepth 100000 in
set_option maxHeartbeats 1000000 in
theorem equalV_any (a b : Value) (A B : List V) (w : World) (ha : SeenV w a A) (hb : SeenV w b B) :
    Calls Try.prog 62 #[a, b] w fun e w' => e = .returned (.bool (decide (A = B))) ∧ Chg [] w w' := by
  obtain ⟨ao, ac, rfl, ha1, ha2⟩ := ha.shape
  obtain ⟨bo, bc, rfl, hb1, hb2⟩ := hb.shape
  obtain ⟨n, hn⟩ : ∃ n, n = A.length := ⟨_, rfl⟩
  obtain ⟨m, hm⟩ : ∃ m, m = B.length := ⟨_, rfl⟩
  rw [← hn] at ha ha1 ⊢
  rw [← hm] at hb hb1 ⊢
  have HA := Lib.hid ha; have HB := Lib.hid hb; have HN := Lib.hid hn; have HM := Lib.hid hm
  have hnm : n ≤ 9223372036854775807 := by unfold maxLen at ha2; omega
  obtain ⟨D, hD⟩ : ∃ D, D = decide (A = B) := ⟨_, rfl⟩
  rw [← hD]
  have HD := Lib.hid hD
  clear ha hb hn hm hD
  by_cases hl : n = m
  · have HL := Lib.hid hl
    have q1 : ((n : Int) != (m : Int)) = false := by simp [hl]
    clear hl
    go_enter Try.func62, Try.ntmps62
    go_wp2
    go_loopw [13] (fun x w' => ∃ k : Nat, x = .int .i64 (k : Int) ∧ k ≤ n ∧ Chg [] w w' ∧ ∀ i, i < k → A[i]? = B[i]?) (fun x _ => n - (intOf x).toNat)
    case atStart => exact ⟨0, rfl, Nat.zero_le _, Chg.refl _ _, fun i h => by omega⟩
    case round =>
      obtain ⟨k, rfl, hk, hc, heq⟩ := hrel
      have HC := Lib.hid hc; have HE := Lib.hid heq
      clear hc heq
      by_cases hlt : k < n
      · have d1 : decide ((k : Int) < (n : Int)) = true := by simp; omega
        have hkm : k < m := by have := HL.out; omega
        obtain ⟨ga, oa, rfl, hga⟩ := SeenV.get (HA.out.keep HC.out) (by omega)
        obtain ⟨gb, ob, rfl, hgb⟩ := SeenV.get (HB.out.keep HC.out) (by omega)
        obtain ⟨x, hx⟩ : ∃ x, A[k]? = some x := ⟨_, List.getElem?_eq_getElem (by rw [← HN.out]; exact hlt)⟩
        obtain ⟨y, hy⟩ : ∃ x, B[k]? = some x := ⟨_, List.getElem?_eq_getElem (by rw [← HM.out]; exact hkm)⟩
        obtain ⟨a1, a2⟩ := hga k x hx
        obtain ⟨b1, b2⟩ := hgb k y hy
        obtain ⟨xn, xs⟩ := x
        obtain ⟨yn, ys⟩ := y
        simp only at a1 a2 b1 b2
        have HX := Lib.hid hx; have HY := Lib.hid hy
        clear hga hgb hx hy
        by_cases he : xn = yn
        · by_cases hs : xs = ys
          · subst he hs
            have hee : (xs.toList == xs.toList) = true := by simp
            have HEE := Lib.hid (show ∀ i, i < k + 1 → A[i]? = B[i]? from fun i hi => by
              by_cases e : i = k
              · subst e; rw [HX.out, HY.out]
              · exact HE.out i (by omega))
            go_wp2_with fail
            go_region
            go_wp2
            go_roundw
            case rel => exact ⟨k + 1, by go_num, by omega, HC.out.drew, HEE.out⟩
            case measure => simp [intOf]; omega
          · have hnn : (xn == yn) = true := by simp [he]
            have hee : (xs.toList == ys.toList) = false := by
              simp only [beq_eq_false_iff_ne, ne_eq]
              intro h
              exact hs (toList_inj14 h)
            have E := Lib.hid (show D = false by
              rw [HD.out, decide_eq_false_iff_not]
              intro e
              have h1 := HX.out
              rw [e, HY.out] at h1
              injection h1 with h1
              injection h1 with h1 h2
              exact hs h2.symm)
            clear he hs
            go_wp2_with fail
            go_region
            go_wp2
            go_ret
            exact ⟨ret_b E.out.symm, HC.out.drew⟩
        · have hnn : (xn == yn) = false := by simp [he]
          have E := Lib.hid (show D = false by
            rw [HD.out, decide_eq_false_iff_not]
            intro e
            have h1 := HX.out
            rw [e, HY.out] at h1
            injection h1 with h1
            injection h1 with h1 h2
            exact he h1.symm)
          clear he
          go_wp2_with fail
          go_region
          go_wp2
          go_ret
          exact ⟨ret_b E.out.symm, HC.out.drew⟩
      · have d1 : decide ((k : Int) < (n : Int)) = false := by simp; omega
        have E := Lib.hid (show D = true by
          rw [HD.out, decide_eq_true_eq]
          exact eq_of_get (by rw [← HN.out, ← HM.out]; exact HL.out) fun i hi => HE.out i (by rw [← HN.out] at hi; omega))
        go_wp2
        go_ret
        exact ⟨ret_b E.out.symm, HC.out⟩
  · have q1 : ((n : Int) != (m : Int)) = true := by simp; omega
    have E := Lib.hid (show D = false by
      rw [HD.out, decide_eq_false_iff_not]
      intro e
      exact hl (by rw [HN.out, HM.out, e]))
    clear hl
    go_enter Try.func62, Try.ntmps62
    go_wp2
    go_ret
    exact ⟨ret_b E.out.symm, Chg.refl _ _⟩

set_option maxRecDepth 100000 in
set_option maxHeartbeats 1000000 in
/-- shred.Same of any two columns. -/
theorem same14_any (r1 d1 v1 r2 d2 v2 : Value) (R1 D1 R2 D2 : List Int) (V1 V2 : List V) (w : World) (hr1 : SeenI w r1 R1) (hd1 : SeenI w d1 D1) (hv1 : SeenV w v1 V1) (hr2 : SeenI w r2 R2) (hd2 : SeenI w d2 D2) (hv2 : SeenV w v2 V2) :
    Calls Try.prog 36 #[.agg #[r1, d1, v1], .agg #[r2, d2, v2]] w fun e w' => e = .returned (.bool (decide (R1 = R2 ∧ D1 = D2 ∧ V1 = V2))) ∧ Chg [] w w' := by
  have hc1 := (Chg.refl [] w).alloc (.cells #[r1, d1, v1] 42)
  have hc2 := hc1.alloc (.cells #[r2, d2, v2] 42)
  have HC2 := Lib.hid hc2
  have HR := Lib.hid (fun wx (h : Chg [] w wx) => equalI_any r1 r2 R1 R2 wx (hr1.keep h) (hr2.keep h))
  have HD := Lib.hid (fun wx (h : Chg [] w wx) => equalI_any d1 d2 D1 D2 wx (hd1.keep h) (hd2.keep h))
  have HV := Lib.hid (fun wx (h : Chg [] w wx) => equalV_any v1 v2 V1 V2 wx (hv1.keep h) (hv2.keep h))
  obtain ⟨D, hD⟩ : ∃ D, D = decide (R1 = R2 ∧ D1 = D2 ∧ V1 = V2) := ⟨_, rfl⟩
  rw [← hD]
  have HDD := Lib.hid hD
  obtain ⟨ra, rc, rfl, -, -⟩ := hr1.shape
  obtain ⟨da, dc, rfl, -, -⟩ := hd1.shape
  obtain ⟨va, vc, rfl, -, -⟩ := hv1.shape
  obtain ⟨rb, re, rfl, -, -⟩ := hr2.shape
  obtain ⟨db, de, rfl, -, -⟩ := hd2.shape
  obtain ⟨vb, ve, rfl, -, -⟩ := hv2.shape
  clear hr1 hd1 hv1 hr2 hd2 hv2 hc1 hc2 hD
  obtain ⟨b, hb⟩ : ∃ b, b = w.heap.size := ⟨_, rfl⟩
  have HBX := Lib.hid (show ∀ wx, Chg [] ((w.alloc (.cells #[.slice ra R1.length rc, .slice da D1.length dc, .slice va V1.length vc] 42)).alloc (.cells #[.slice rb R2.length re, .slice db D2.length de, .slice vb V2.length ve] 42)) wx → (wx.cell? ⟨w.heap.size, 1, none⟩ = some (.slice da D1.length dc) ∧ wx.cell? ⟨w.heap.size, 2, none⟩ = some (.slice va V1.length vc)) ∧ wx.cell? ⟨w.heap.size + 1, 1, none⟩ = some (.slice db D2.length de) ∧ wx.cell? ⟨w.heap.size + 1, 2, none⟩ = some (.slice vb V2.length ve) from fun wx hc => by
    have h1 := hc.heap (((Chg.refl [] _).alloc (.cells #[.slice rb R2.length re, .slice db D2.length de, .slice vb V2.length ve] 42)).heap (heap_alloc_new w (.cells #[.slice ra R1.length rc, .slice da D1.length dc, .slice va V1.length vc] 42)) (by simp)) (by simp)
    have h2 := hc.heap (new2 w (.cells #[.slice ra R1.length rc, .slice da D1.length dc, .slice va V1.length vc] 42) (.cells #[.slice rb R2.length re, .slice db D2.length de, .slice vb V2.length ve] 42)) (by simp)
    exact ⟨⟨by rw [cell_of_row wx _ 1 _ _ _ h1]; rfl, by rw [cell_of_row wx _ 2 _ _ _ h1]; rfl⟩, by rw [cell_of_row wx _ 1 _ _ _ h2]; rfl, by rw [cell_of_row wx _ 2 _ _ _ h2]; rfl⟩)
  clear hb
  go_enter Try.func36, Try.ntmps36
  go_wp2_with fail
  refine (HR.out _ HC2.out).mono ?_
  rintro e w3 ⟨rfl, hk⟩
  have HK3 := Lib.hid hk
  obtain ⟨⟨x1, x2⟩, y1, y2⟩ := HBX.out w3 hk
  clear hk
  by_cases hR : R1 = R2
  · rw [show decide (R1 = R2) = true by simpa using hR]
    have HRR := Lib.hid hR
    clear hR
    go_wp2_with fail
    refine (HD.out _ (HC2.out.trans HK3.out (by simp))).mono ?_
    rintro e w4 ⟨rfl, hk⟩
    have HK4 := Lib.hid (HK3.out.trans hk (by simp))
    clear hk x1 x2 y1 y2
    obtain ⟨⟨x1, x2⟩, y1, y2⟩ := HBX.out w4 HK4.out
    by_cases hD : D1 = D2
    · rw [show decide (D1 = D2) = true by simpa using hD]
      have HDE := Lib.hid hD
      clear hD
      go_wp2_with fail
      refine (HV.out _ (HC2.out.trans HK4.out (by simp))).mono ?_
      rintro e w5 ⟨rfl, hk⟩
      have HK5 := Lib.hid (HK4.out.trans hk (by simp))
      have E := Lib.hid (show decide (V1 = V2) = D by rw [HDD.out]; simp [HRR.out, HDE.out])
      rw [E.out]
      clear hk x1 x2 y1 y2
      go_wp2
      go_ret
      exact ⟨rfl, HC2.out.trans HK5.out (by simp)⟩
    · rw [show decide (D1 = D2) = false by simpa using hD]
      have E := Lib.hid (show false = D by rw [HDD.out]; simp [hD])
      clear hD x1 x2 y1 y2
      go_wp2
      go_ret
      exact ⟨ret_b E.out, HC2.out.trans HK4.out (by simp)⟩
  · rw [show decide (R1 = R2) = false by simpa using hR]
    have E := Lib.hid (show false = D by rw [HDD.out]; simp [hR])
    clear hR x1 x2 y1 y2
    go_wp2
    go_ret
    exact ⟨ret_b E.out, HC2.out.trans HK3.out (by simp)⟩

end Go.Proofs.Ytfdmbpfpdijpdaa
