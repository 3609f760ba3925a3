/- The walk of the statement TreeValues. -/
import Derived.Test.YtamcpebnfckdmaaYd
namespace Go.Proofs.Ytamcpebnfckdmaa
open Go.RowKit
set_option linter.unusedVariables false

def vl8 (k : Int) : List F := [⟨bm8, 0, 0, 1⟩, ⟨ba8, 0, k, 0⟩]
set_option maxRecDepth 100000 in
theorem vl8_chk : chk (vl8 1) = 0 ∧ chk (vl8 2) = 0 ∧ chk (vl8 3) = 0 ∧ chk (vl8 4) = 0 := by decide +kernel

theorem vl8_fits {k : Int} (hk : k = 1 ∨ k = 2 ∨ k = 3 ∨ k = 4) (t : Tr) : fitsT (vl8 k) (.mk 0 ByteArray.empty [[t]]) = leafE k t := by
  have hc : chk (vl8 k) = 0 := by
    rcases hk with rfl | rfl | rfl | rfl
    · exact vl8_chk.1
    · exact vl8_chk.2.1
    · exact vl8_chk.2.2.1
    · exact vl8_chk.2.2.2
  have hk0 : ((vl8 k).getD 1 default).k ≠ 0 := by show k ≠ 0; omega
  unfold fitsT
  rw [hc, fit_one rfl rfl]
  unfold listE
  rw [fitL, fitL, fitV_leaf hk0, orE_zero]
  rfl

theorem vl8_c {r : Int} : ∀ f ∈ vl8 r, f.c ≤ 9223372036854775807 := by
  intro f hf
  simp [vl8] at hf
  rcases hf with rfl | rfl
  · decide
  · show (0 : Int) ≤ _; decide
theorem vl8_n {r : Int} : ∀ f ∈ vl8 r, f.n.size ≤ 1000 := by
  intro f hf
  simp [vl8] at hf
  rcases hf with rfl | rfl
  · decide
  · show ba8.size ≤ _; decide

/-- What the statement reckons of a number, of a text. -/
def wantN (k n : Int) : Int := if overB k n = true then 14 else if k = 4 ∧ n ≠ 0 then 13 else 0
def wantS (k : Int) (s : ByteArray) : Int := if k ≠ 4 ∧ s ≠ ByteArray.empty then 13 else if 100 < s.size then 5 else 0

theorem leafE_mk (k n : Int) (s : ByteArray) (K : List (List Tr)) : leafE k (.mk n s K) = if 0 < K.length ∨ (k = 4 ∧ n ≠ 0) ∨ (k ≠ 4 ∧ s ≠ ByteArray.empty) then 13 else if overB k n = true then 14 else if 100 < s.size then 5 else 0 := rfl

theorem leafN (k n : Int) : leafE k (.mk n ByteArray.empty []) = wantN k n := by
  rw [leafE_mk]
  unfold wantN
  by_cases h4 : k = 4
  · have e : overB k n = false := by unfold overB; rw [decide_eq_false_iff_not]; omega
    rw [e]
    by_cases hn : n = 0 <;> simp [h4, hn]
  · simp [h4]

theorem leafS (k : Int) (s : ByteArray) : leafE k (.mk 0 s []) = wantS k s := by
  rw [leafE_mk]
  unfold wantS
  have e : overB k 0 = false := by unfold overB; rw [decide_eq_false_iff_not]; omega
  rw [e]
  simp

set_option maxRecDepth 100000 in
theorem leafK {k : Int} (t : Tr) (h : 0 < t.k.length) : leafE k t = 13 := by unfold leafE; rw [if_pos (.inl h)]

set_option maxRecDepth 100000 in
set_option maxHeartbeats 4000000 in
theorem walk_TreeValues (a0 : Int) (a1 : Int) (a2 : ByteArray) (w : World) (w0 : (Lit.int .i64 a0).wf = true) (w1 : (Lit.int .i64 a1).wf = true) (w2 : a2.size ≤ maxLen) :
    Calls Try.prog 11 #[.int .i64 a0, .int .i64 a1, .string a2] w fun e w' => e = .returned (.bool true) ∧ Below w.heap.size w w' := by
  have HWR := Lib.hid (fun wx => w8_int a0 4 4 wx rfl (by decide) (by decide) w0)
  obtain ⟨i, hr⟩ : ∃ r, r = (a0 % (4 : Nat)).toNat := ⟨_, rfl⟩
  have hi4 : i < 4 := by rw [hr]; exact within_lt a0 4 (by decide)
  rw [← hr] at HWR
  clear hr w0 w1
  by_cases hz : 150 < a2.size
  · have d1 : decide ((150 : Int) < (a2.size : Int)) = true := by simp; omega
    go_enter Try.func11, Try.ntmps11
    go_wp2_with fail
    (with_reducible refine (known8_any _).mono ?_)
    rintro e w1 ⟨rfl, hk⟩
    have HK := Lib.hid hk
    clear hk
    go_wp2
    go_ret
    exact ⟨rfl, HK.out.below (Nat.le_refl _) (by simp)⟩
  have d1 : decide ((150 : Int) < (a2.size : Int)) = false := by simp; omega
  obtain ⟨kk, hkk⟩ : ∃ kk : Int, kk = 1 + (i : Int) := ⟨_, rfl⟩
  have hk4 : kk = 1 ∨ kk = 2 ∨ kk = 3 ∨ kk = 4 := by omega
  have HKK := Lib.hid hkk
  obtain ⟨u, hu⟩ : ∃ u, u = wantN kk a1 := ⟨_, rfl⟩
  obtain ⟨v, hv⟩ : ∃ v, v = wantS kk a2 := ⟨_, rfl⟩
  have HU := Lib.hid hu; have HV := Lib.hid hv
  clear hu hv
  have hwk : IntKind.i64.wrap (1 + (i : Int)) = kk := by rw [hkk]; simp only [IntKind.wrap, IntKind.bits, IntKind.signed]; simp; omega
  clear hkk
  go_enter Try.func11, Try.ntmps11
  go_wp2_with fail
  (with_reducible refine (known8_any _).mono ?_)
  rintro e w1 ⟨rfl, hk⟩
  have HK1 := Lib.hid hk
  clear hk
  have HF1 := Lib.hid (show Calls Try.prog 35 #[.slice (some ⟨w1.heap.size, 0, none⟩) 2 2, tv 0 eS (.slice (some ⟨w1.heap.size + 1 + 1, 0, none⟩) 1 1)] (((((w1.alloc (.cells #[.string { data := #[109] }, .int .i64 0, .int .i64 0, .int .i64 1, .string { data := #[97] }, .int .i64 0, .int .i64 kk, .int .i64 0] 57)).alloc (.cells #[.int .i64 a1, .string { data := #[] }, .slice none 0 0] 30)).alloc (.cells #[.slice (some ⟨w1.heap.size + 1, 0, none⟩) 1 1] 59)))) fun e w' => e = .returned (.int .i64 u) ∧ Chg [] (((((w1.alloc (.cells #[.string { data := #[109] }, .int .i64 0, .int .i64 0, .int .i64 1, .string { data := #[97] }, .int .i64 0, .int .i64 kk, .int .i64 0] 57)).alloc (.cells #[.int .i64 a1, .string { data := #[] }, .slice none 0 0] 30)).alloc (.cells #[.slice (some ⟨w1.heap.size + 1, 0, none⟩) 1 1] 59)))) w' by
    have hS : SeenF (w1.alloc (.cells #[.string { data := #[109] }, .int .i64 0, .int .i64 0, .int .i64 1, .string { data := #[97] }, .int .i64 0, .int .i64 kk, .int .i64 0] 57)) (.slice (some ⟨w1.heap.size, 0, none⟩) 2 2) (vl8 kk) := SeenF.lit w1 w1.heap.size rfl _ _ (vl8 kk) 2 rfl rfl (by decide)
    have hS2 := hS.keep (((Chg.refl [] _).alloc (.cells #[.int .i64 a1, .string { data := #[] }, .slice none 0 0] 30)).alloc (.cells #[.slice (some ⟨w1.heap.size + 1, 0, none⟩) 1 1] 59))
    have hq1 : (((((w1.alloc (.cells #[.string { data := #[109] }, .int .i64 0, .int .i64 0, .int .i64 1, .string { data := #[97] }, .int .i64 0, .int .i64 kk, .int .i64 0] 57)).alloc (.cells #[.int .i64 a1, .string { data := #[] }, .slice none 0 0] 30)).alloc (.cells #[.slice (some ⟨w1.heap.size + 1, 0, none⟩) 1 1] 59)))).heap[w1.heap.size + 1]? = some (.cells #[.int .i64 a1, .string { data := #[] }, .slice none 0 0] 30) := ((Chg.refl [] _).alloc _).heap (by have := heap_alloc_new (w1.alloc (.cells #[.string { data := #[109] }, .int .i64 0, .int .i64 0, .int .i64 1, .string { data := #[97] }, .int .i64 0, .int .i64 kk, .int .i64 0] 57)) (.cells #[.int .i64 a1, .string { data := #[] }, .slice none 0 0] 30); simpa using this) (by simp)
    have hq2 : (((((w1.alloc (.cells #[.string { data := #[109] }, .int .i64 0, .int .i64 0, .int .i64 1, .string { data := #[97] }, .int .i64 0, .int .i64 kk, .int .i64 0] 57)).alloc (.cells #[.int .i64 a1, .string { data := #[] }, .slice none 0 0] 30)).alloc (.cells #[.slice (some ⟨w1.heap.size + 1, 0, none⟩) 1 1] 59)))).heap[w1.heap.size + 1 + 1]? = some (.cells #[.slice (some ⟨w1.heap.size + 1, 0, none⟩) 1 1] 59) := by have := heap_alloc_new ((w1.alloc (.cells #[.string { data := #[109] }, .int .i64 0, .int .i64 0, .int .i64 1, .string { data := #[97] }, .int .i64 0, .int .i64 kk, .int .i64 0] 57)).alloc (.cells #[.int .i64 a1, .string { data := #[] }, .slice none 0 0] 30)) (.cells #[.slice (some ⟨w1.heap.size + 1, 0, none⟩) 1 1] 59); simpa using this
    have h := fits_mk _ (.slice (some ⟨w1.heap.size + 1 + 1, 0, none⟩) 1 1) (vl8 kk) 0 ByteArray.empty [[.mk a1 ByteArray.empty []]] 2 _ hS2 (kidsAt_lit (R := [([.mk a1 ByteArray.empty []], .slice (some ⟨w1.heap.size + 1, 0, none⟩) 1 1)]) hq2 rfl rfl (by decide) (by
      intro p hp
      simp at hp
      subst hp
      exact listAt_lit hq1 [(.mk a1 ByteArray.empty [], nilS)] rfl rfl (by decide) (by intro p hp; simp at hp; subst hp; exact kids_nil))) vl8_c vl8_n
    rw [vl8_fits hk4, leafN, ← HU.out] at h
    exact h)
  go_wp2_with (first
    | (go_at_call 37; (with_reducible refine (HWR.out _).mono ?_); rintro e w2 ⟨rfl, rfl⟩)
    | (go_at_call 35; (with_reducible refine HF1.out.mono ?_); rintro e w3 ⟨rfl, hk3⟩)
    | fail)
  have HC3 := Lib.hid ((((HK1.out.alloc (.cells #[.string { data := #[109] }, .int .i64 0, .int .i64 0, .int .i64 1, .string { data := #[97] }, .int .i64 0, .int .i64 kk, .int .i64 0] 57)).alloc (.cells #[.int .i64 a1, .string { data := #[] }, .slice none 0 0] 30)).alloc (.cells #[.slice (some ⟨w1.heap.size + 1, 0, none⟩) 1 1] 59)).trans hk3 (by simp))
  have HS3 := Lib.hid ((SeenF.lit w1 w1.heap.size rfl 57 #[.string { data := #[109] }, .int .i64 0, .int .i64 0, .int .i64 1, .string { data := #[97] }, .int .i64 0, .int .i64 kk, .int .i64 0] (vl8 kk) 2 rfl rfl (by decide)).keep ((((Chg.refl [] _).alloc (.cells #[.int .i64 a1, .string { data := #[] }, .slice none 0 0] 30)).alloc (.cells #[.slice (some ⟨w1.heap.size + 1, 0, none⟩) 1 1] 59)).trans hk3 (by simp)))
  clear hk3
  obtain ⟨b, hb⟩ : ∃ b, b = w1.heap.size := ⟨_, rfl⟩
  rw [← hb] at HS3 ⊢
  clear hb
  have HF2 := Lib.hid (show Calls Try.prog 35 #[.slice (some ⟨b, 0, none⟩) 2 2, tv 0 eS (.slice (some ⟨w3.heap.size + 1, 0, none⟩) 1 1)] (((w3.alloc (.cells #[.int .i64 0, .string a2, .slice none 0 0] 30)).alloc (.cells #[.slice (some ⟨w3.heap.size, 0, none⟩) 1 1] 59))) fun e w' => e = .returned (.int .i64 v) ∧ Chg [] (((w3.alloc (.cells #[.int .i64 0, .string a2, .slice none 0 0] 30)).alloc (.cells #[.slice (some ⟨w3.heap.size, 0, none⟩) 1 1] 59))) w' by
    have hS2 := HS3.out.keep (((Chg.refl [] _).alloc (.cells #[.int .i64 0, .string a2, .slice none 0 0] 30)).alloc (.cells #[.slice (some ⟨w3.heap.size, 0, none⟩) 1 1] 59))
    have hq1 : (((w3.alloc (.cells #[.int .i64 0, .string a2, .slice none 0 0] 30)).alloc (.cells #[.slice (some ⟨w3.heap.size, 0, none⟩) 1 1] 59))).heap[w3.heap.size]? = some (.cells #[.int .i64 0, .string a2, .slice none 0 0] 30) := ((Chg.refl [] _).alloc _).heap (heap_alloc_new w3 _) (by simp)
    have hq2 : (((w3.alloc (.cells #[.int .i64 0, .string a2, .slice none 0 0] 30)).alloc (.cells #[.slice (some ⟨w3.heap.size, 0, none⟩) 1 1] 59))).heap[w3.heap.size + 1]? = some (.cells #[.slice (some ⟨w3.heap.size, 0, none⟩) 1 1] 59) := by have := heap_alloc_new (w3.alloc (.cells #[.int .i64 0, .string a2, .slice none 0 0] 30)) (.cells #[.slice (some ⟨w3.heap.size, 0, none⟩) 1 1] 59); simpa using this
    have h := fits_mk _ (.slice (some ⟨w3.heap.size + 1, 0, none⟩) 1 1) (vl8 kk) 0 ByteArray.empty [[.mk 0 a2 []]] 2 _ hS2 (kidsAt_lit (R := [([.mk 0 a2 []], .slice (some ⟨w3.heap.size, 0, none⟩) 1 1)]) hq2 rfl rfl (by decide) (by
      intro p hp
      simp at hp
      subst hp
      exact listAt_lit hq1 [(.mk 0 a2 [], nilS)] rfl rfl (by decide) (by intro p hp; simp at hp; subst hp; exact kids_nil))) vl8_c vl8_n
    rw [vl8_fits hk4, leafS, ← HV.out] at h
    exact h)
  go_wp2_with (first
    | (go_at_call 35; (with_reducible refine HF2.out.mono ?_); rintro e w4 ⟨rfl, hk4'⟩)
    | fail)
  have HS4 := Lib.hid (HS3.out.keep ((((Chg.refl [] _).alloc (.cells #[.int .i64 0, .string a2, .slice none 0 0] 30)).alloc (.cells #[.slice (some ⟨w3.heap.size, 0, none⟩) 1 1] 59)).trans hk4' (by simp)))
  have HC4 := Lib.hid (HC3.out.trans ((((Chg.refl [] _).alloc (.cells #[.int .i64 0, .string a2, .slice none 0 0] 30)).alloc (.cells #[.slice (some ⟨w3.heap.size, 0, none⟩) 1 1] 59)).trans hk4' (by simp)) (by simp))
  clear hk4'
  have HF3 := Lib.hid (show Calls Try.prog 35 #[.slice (some ⟨b, 0, none⟩) 2 2, tv 0 eS (.slice (some ⟨w4.heap.size + 1 + 1, 0, none⟩) 1 1)] ((((w4.alloc (.cells #[.slice none 0 0] 59)).alloc (.cells #[.int .i64 0, .string { data := #[] }, .slice (some ⟨w4.heap.size, 0, none⟩) 1 1] 30)).alloc (.cells #[.slice (some ⟨w4.heap.size + 1, 0, none⟩) 1 1] 59))) fun e w' => e = .returned (.int .i64 13) ∧ Chg [] ((((w4.alloc (.cells #[.slice none 0 0] 59)).alloc (.cells #[.int .i64 0, .string { data := #[] }, .slice (some ⟨w4.heap.size, 0, none⟩) 1 1] 30)).alloc (.cells #[.slice (some ⟨w4.heap.size + 1, 0, none⟩) 1 1] 59))) w' by
    have hS2 := HS4.out.keep ((((Chg.refl [] _).alloc (.cells #[.slice none 0 0] 59)).alloc (.cells #[.int .i64 0, .string { data := #[] }, .slice (some ⟨w4.heap.size, 0, none⟩) 1 1] 30)).alloc (.cells #[.slice (some ⟨w4.heap.size + 1, 0, none⟩) 1 1] 59))
    have hq0 : ((((w4.alloc (.cells #[.slice none 0 0] 59)).alloc (.cells #[.int .i64 0, .string { data := #[] }, .slice (some ⟨w4.heap.size, 0, none⟩) 1 1] 30)).alloc (.cells #[.slice (some ⟨w4.heap.size + 1, 0, none⟩) 1 1] 59))).heap[w4.heap.size]? = some (.cells #[.slice none 0 0] 59) := (((Chg.refl [] _).alloc _).alloc _).heap (heap_alloc_new w4 _) (by simp)
    have hq1 : ((((w4.alloc (.cells #[.slice none 0 0] 59)).alloc (.cells #[.int .i64 0, .string { data := #[] }, .slice (some ⟨w4.heap.size, 0, none⟩) 1 1] 30)).alloc (.cells #[.slice (some ⟨w4.heap.size + 1, 0, none⟩) 1 1] 59))).heap[w4.heap.size + 1]? = some (.cells #[.int .i64 0, .string { data := #[] }, .slice (some ⟨w4.heap.size, 0, none⟩) 1 1] 30) := ((Chg.refl [] _).alloc _).heap (by have := heap_alloc_new (w4.alloc (.cells #[.slice none 0 0] 59)) (.cells #[.int .i64 0, .string { data := #[] }, .slice (some ⟨w4.heap.size, 0, none⟩) 1 1] 30); simpa using this) (by simp)
    have hq2 : ((((w4.alloc (.cells #[.slice none 0 0] 59)).alloc (.cells #[.int .i64 0, .string { data := #[] }, .slice (some ⟨w4.heap.size, 0, none⟩) 1 1] 30)).alloc (.cells #[.slice (some ⟨w4.heap.size + 1, 0, none⟩) 1 1] 59))).heap[w4.heap.size + 1 + 1]? = some (.cells #[.slice (some ⟨w4.heap.size + 1, 0, none⟩) 1 1] 59) := by have := heap_alloc_new ((w4.alloc (.cells #[.slice none 0 0] 59)).alloc (.cells #[.int .i64 0, .string { data := #[] }, .slice (some ⟨w4.heap.size, 0, none⟩) 1 1] 30)) (.cells #[.slice (some ⟨w4.heap.size + 1, 0, none⟩) 1 1] 59); simpa using this
    have h := fits_mk _ (.slice (some ⟨w4.heap.size + 1 + 1, 0, none⟩) 1 1) (vl8 kk) 0 ByteArray.empty [[.mk 0 ByteArray.empty [[]]]] 3 _ hS2 (kidsAt_lit (R := [([.mk 0 ByteArray.empty [[]]], .slice (some ⟨w4.heap.size + 1, 0, none⟩) 1 1)]) hq2 rfl rfl (by decide) (by
      intro p hp
      simp at hp
      subst hp
      exact listAt_lit hq1 [(.mk 0 ByteArray.empty [[]], .slice (some ⟨w4.heap.size, 0, none⟩) 1 1)] rfl rfl (by decide) (by
        intro p hp
        simp at hp
        subst hp
        exact kidsAt_lit (R := [([], nilS)]) hq0 rfl rfl (by decide) (by intro p hp; simp at hp; subst hp; exact list_nil)))) vl8_c vl8_n
    rw [vl8_fits hk4, leafK _ (by decide)] at h
    exact h)
  go_upto_region 10 with (first
    | (go_at_call 35; (with_reducible refine HF3.out.mono ?_); rintro e w5 ⟨rfl, hk5⟩; have HC5 := Lib.hid (HC4.out.trans (((((Chg.refl [] _).alloc (.cells #[.slice none 0 0] 59)).alloc (.cells #[.int .i64 0, .string { data := #[] }, .slice (some ⟨w4.heap.size, 0, none⟩) 1 1] 30)).alloc (.cells #[.slice (some ⟨w4.heap.size + 1, 0, none⟩) 1 1] 59)).trans hk5 (by simp)) (by simp)); clear hk5)
    | fail)
  clear HF1 HF2 HF3 HS3 HS4 HC3 HC4 HK1 hwk HWR
  rcases hk4 with rfl | rfl | rfl | rfl
  · by_cases h1 : a1 < 0
    · have hu : u = 14 := by rw [HU.out]; unfold wantN overB; rw [if_pos (by rw [decide_eq_true_iff]; omega)]
      have d2 : decide (a1 < 0) = true := by simpa using h1
      subst hu
      by_cases hs : a2 = ByteArray.empty
      · have hv : v = 0 := by rw [HV.out, hs]; unfold wantS; rw [if_neg (by rintro ⟨-, h⟩; exact h rfl), if_neg (by decide)]
        subst hv hs
        go_wp2
        go_ret
        exact ⟨rfl, HC5.out.below (Nat.le_refl _) (by simp)⟩
      · have hv : v = 13 := by rw [HV.out]; unfold wantS; rw [if_pos ⟨by decide, hs⟩]
        have hs1 : ¬ a2.toList = [] := fun h => hs (empty_list.1 h)
        have hs2 : a2.toList.isEmpty = false := by simpa using hs1
        subst hv
        go_wp2
        go_ret
        exact ⟨rfl, HC5.out.below (Nat.le_refl _) (by simp)⟩
    · have d2 : decide (a1 < 0) = false := by simpa using h1
      by_cases h2 : 1 < a1
      · have hu : u = 14 := by rw [HU.out]; unfold wantN overB; rw [if_pos (by rw [decide_eq_true_iff]; omega)]
        have d3 : decide ((1 : Int) < a1) = true := by simpa using h2
        subst hu
        by_cases hs : a2 = ByteArray.empty
        · have hv : v = 0 := by rw [HV.out, hs]; unfold wantS; rw [if_neg (by rintro ⟨-, h⟩; exact h rfl), if_neg (by decide)]
          subst hv hs
          go_wp2
          go_ret
          exact ⟨rfl, HC5.out.below (Nat.le_refl _) (by simp)⟩
        · have hv : v = 13 := by rw [HV.out]; unfold wantS; rw [if_pos ⟨by decide, hs⟩]
          have hs1 : ¬ a2.toList = [] := fun h => hs (empty_list.1 h)
          have hs2 : a2.toList.isEmpty = false := by simpa using hs1
          subst hv
          go_wp2
          go_ret
          exact ⟨rfl, HC5.out.below (Nat.le_refl _) (by simp)⟩
      · have hu : u = 0 := by rw [HU.out]; unfold wantN overB; rw [if_neg (by rw [decide_eq_true_iff]; omega), if_neg (by omega)]
        have d3 : decide ((1 : Int) < a1) = false := by simpa using h2
        subst hu
        by_cases hs : a2 = ByteArray.empty
        · have hv : v = 0 := by rw [HV.out, hs]; unfold wantS; rw [if_neg (by rintro ⟨-, h⟩; exact h rfl), if_neg (by decide)]
          subst hv hs
          go_wp2
          go_ret
          exact ⟨rfl, HC5.out.below (Nat.le_refl _) (by simp)⟩
        · have hv : v = 13 := by rw [HV.out]; unfold wantS; rw [if_pos ⟨by decide, hs⟩]
          have hs1 : ¬ a2.toList = [] := fun h => hs (empty_list.1 h)
          have hs2 : a2.toList.isEmpty = false := by simpa using hs1
          subst hv
          go_wp2
          go_ret
          exact ⟨rfl, HC5.out.below (Nat.le_refl _) (by simp)⟩
  · have hw := wrap32 a1
    obtain ⟨m, hm⟩ : ∃ m, m = IntKind.i32.wrap a1 := ⟨_, rfl⟩
    rw [← hm] at hw
    have hm1 : -2147483648 ≤ m ∧ m ≤ 2147483647 := by omega
    have hm2 : IntKind.i64.wrap m = m := by simp only [IntKind.wrap, IntKind.bits, IntKind.signed]; simp; omega
    have hm' := hm.symm
    by_cases h3 : a1 < -2147483648 ∨ 2147483647 < a1
    · have hu : u = 14 := by rw [HU.out]; unfold wantN overB; rw [if_pos (by rw [decide_eq_true_iff]; omega)]
      have hne : ¬ (a1 = m) := by omega
      have d2 : (a1 != m) = true := by simpa using hne
      subst hu
      clear hw h3 hm
      by_cases hs : a2 = ByteArray.empty
      · have hv : v = 0 := by rw [HV.out, hs]; unfold wantS; rw [if_neg (by rintro ⟨-, h⟩; exact h rfl), if_neg (by decide)]
        subst hv hs
        go_wp2
        go_ret
        exact ⟨rfl, HC5.out.below (Nat.le_refl _) (by simp)⟩
      · have hv : v = 13 := by rw [HV.out]; unfold wantS; rw [if_pos ⟨by decide, hs⟩]
        have hs1 : ¬ a2.toList = [] := fun h => hs (empty_list.1 h)
        have hs2 : a2.toList.isEmpty = false := by simpa using hs1
        subst hv
        go_wp2
        go_ret
        exact ⟨rfl, HC5.out.below (Nat.le_refl _) (by simp)⟩
    · have hu : u = 0 := by rw [HU.out]; unfold wantN overB; rw [if_neg (by rw [decide_eq_true_iff]; omega), if_neg (by omega)]
      have he : m = a1 := by omega
      subst he
      have d2 : (m != m) = false := by simp
      subst hu
      clear hw h3 hm
      by_cases hs : a2 = ByteArray.empty
      · have hv : v = 0 := by rw [HV.out, hs]; unfold wantS; rw [if_neg (by rintro ⟨-, h⟩; exact h rfl), if_neg (by decide)]
        subst hv hs
        go_wp2
        go_ret
        exact ⟨rfl, HC5.out.below (Nat.le_refl _) (by simp)⟩
      · have hv : v = 13 := by rw [HV.out]; unfold wantS; rw [if_pos ⟨by decide, hs⟩]
        have hs1 : ¬ a2.toList = [] := fun h => hs (empty_list.1 h)
        have hs2 : a2.toList.isEmpty = false := by simpa using hs1
        subst hv
        go_wp2
        go_ret
        exact ⟨rfl, HC5.out.below (Nat.le_refl _) (by simp)⟩
  · have hu : u = 0 := by rw [HU.out]; unfold wantN overB; rw [if_neg (by rw [decide_eq_true_iff]; omega), if_neg (by omega)]
    subst hu
    by_cases hs : a2 = ByteArray.empty
    · have hv : v = 0 := by rw [HV.out, hs]; unfold wantS; rw [if_neg (by rintro ⟨-, h⟩; exact h rfl), if_neg (by decide)]
      subst hv hs
      go_wp2
      go_ret
      exact ⟨rfl, HC5.out.below (Nat.le_refl _) (by simp)⟩
    · have hv : v = 13 := by rw [HV.out]; unfold wantS; rw [if_pos ⟨by decide, hs⟩]
      have hs1 : ¬ a2.toList = [] := fun h => hs (empty_list.1 h)
      have hs2 : a2.toList.isEmpty = false := by simpa using hs1
      subst hv
      go_wp2
      go_ret
      exact ⟨rfl, HC5.out.below (Nat.le_refl _) (by simp)⟩
  · by_cases h1 : a1 = 0
    · have hu : u = 0 := by rw [HU.out]; unfold wantN overB; rw [if_neg (by rw [decide_eq_true_iff]; omega), if_neg (by omega)]
      have d2 : (a1 != 0) = false := by simpa using h1
      subst hu
      by_cases hz1 : 100 < a2.size
      · have hv : v = 5 := by rw [HV.out]; unfold wantS; rw [if_neg (by rintro ⟨h, -⟩; exact h rfl), if_pos hz1]
        have d5 : decide ((100 : Int) < (a2.size : Int)) = true := by simp; omega
        subst hv
        go_wp2
        go_ret
        exact ⟨rfl, HC5.out.below (Nat.le_refl _) (by simp)⟩
      · have hv : v = 0 := by rw [HV.out]; unfold wantS; rw [if_neg (by rintro ⟨h, -⟩; exact h rfl), if_neg hz1]
        have d5 : decide ((100 : Int) < (a2.size : Int)) = false := by simp; omega
        subst hv
        go_wp2
        go_ret
        exact ⟨rfl, HC5.out.below (Nat.le_refl _) (by simp)⟩
    · have hu : u = 13 := by rw [HU.out]; unfold wantN overB; rw [if_neg (by rw [decide_eq_true_iff]; omega), if_pos ⟨rfl, h1⟩]
      have d2 : (a1 != 0) = true := by simpa using h1
      subst hu
      by_cases hz1 : 100 < a2.size
      · have hv : v = 5 := by rw [HV.out]; unfold wantS; rw [if_neg (by rintro ⟨h, -⟩; exact h rfl), if_pos hz1]
        have d5 : decide ((100 : Int) < (a2.size : Int)) = true := by simp; omega
        subst hv
        go_wp2
        go_ret
        exact ⟨rfl, HC5.out.below (Nat.le_refl _) (by simp)⟩
      · have hv : v = 0 := by rw [HV.out]; unfold wantS; rw [if_neg (by rintro ⟨h, -⟩; exact h rfl), if_neg hz1]
        have d5 : decide ((100 : Int) < (a2.size : Int)) = false := by simp; omega
        subst hv
        go_wp2
        go_ret
        exact ⟨rfl, HC5.out.below (Nat.le_refl _) (by simp)⟩

end Go.Proofs.Ytamcpebnfckdmaa
