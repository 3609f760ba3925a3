/- The walk of the statement TreeCounts. -/
import Derived.Test.YtamcpebnfckdmaaYd
namespace Go.Proofs.Ytamcpebnfckdmaa
open Go.RowKit
set_option linter.unusedVariables false

def tz : Tr := .mk 0 ByteArray.empty []

theorem cells_trees (n : Nat) : (madeCells #[.int .i64 0, .string ByteArray.empty, .slice none 0 0] (n * 3)).toList = (List.replicate n (tz, nilS)).flatMap encT := by
  apply List.ext_getElem?
  intro j
  by_cases hj : j < n * 3
  · have key : ∀ u, (encT (tz, nilS))[j % 3]? = some u → ((List.replicate n (tz, nilS)).flatMap encT)[j]? = some u := fun u hu => by
      have h := flat_get encT_len (List.replicate n (tz, nilS)) (j / 3) (tz, nilS) (j % 3) u (by rw [List.getElem?_replicate, if_pos (by omega)]) hu
      rwa [show j / 3 * 3 + j % 3 = j by omega] at h
    have h3 : j % 3 = 0 ∨ j % 3 = 1 ∨ j % 3 = 2 := by omega
    rcases h3 with h3 | h3 | h3
    all_goals
      rw [h3] at key
      rw [key _ rfl]
      simp [madeCells, hj, h3, tz]
  · rw [List.getElem?_eq_none (by simp [madeCells]; omega), List.getElem?_eq_none (by rw [flat_length encT_len]; simp; omega)]

def cl8 (r : Int) : List F := [⟨bm8, 0, 0, 1⟩, ⟨ba8, r, 3, 0⟩]
set_option maxRecDepth 100000 in
theorem cl8_chk : chk (cl8 0) = 0 ∧ chk (cl8 1) = 0 ∧ chk (cl8 2) = 0 := by decide +kernel
theorem cl8_fits (r : Nat) (hr : r < 3) (n : Nat) : fitsT (cl8 (r : Int)) (.mk 0 ByteArray.empty [List.replicate n tz]) = timesE (r : Int) n := by
  have hc : chk (cl8 (r : Int)) = 0 := by
    have h3 : r = 0 ∨ r = 1 ∨ r = 2 := by omega
    rcases h3 with rfl | rfl | rfl
    · exact cl8_chk.1
    · exact cl8_chk.2.1
    · exact cl8_chk.2.2
  have hz : fitL (cl8 (r : Int)) 1 (List.replicate n tz) = 0 := fitL_zero fun t ht => by
    have := List.eq_of_mem_replicate ht
    subst this
    rw [fitV_leaf (by show (3 : Int) ≠ 0; decide)]
    show leafE 3 tz = 0
    decide +kernel
  unfold fitsT
  rw [hc, fit_one rfl rfl]
  unfold listE
  rw [hz, orE_zero, List.length_replicate]
  rfl

theorem cl8_c {r : Int} : ∀ f ∈ cl8 r, f.c ≤ 9223372036854775807 := by
  intro f hf
  simp [cl8] at hf
  rcases hf with rfl | rfl
  · decide
  · show (0 : Int) ≤ _; decide
theorem cl8_n {r : Int} : ∀ f ∈ cl8 r, f.n.size ≤ 1000 := by
  intro f hf
  simp [cl8] at hf
  rcases hf with rfl | rfl
  · decide
  · show ba8.size ≤ _; decide

set_option maxRecDepth 100000 in
set_option maxHeartbeats 1000000 in
theorem walk_TreeCounts (a0 : Int) (a1 : Int) (w : World) (w0 : (Lit.int .i64 a0).wf = true) (w1 : (Lit.int .i64 a1).wf = true) :
    Calls Try.prog 10 #[.int .i64 a0, .int .i64 a1] w fun e w' => e = .returned (.bool true) ∧ Below w.heap.size w w' := by
  obtain ⟨i0, hi, hz0, hz1, hz2⟩ := info_tree
  have HWR := Lib.hid (fun wx => w8_int a0 3 3 wx rfl (by decide) (by decide) w0)
  have HWM := Lib.hid (fun wx => w8_int a1 53 53 wx rfl (by decide) (by decide) w1)
  clear w0 w1
  obtain ⟨r, hr⟩ : ∃ r, r = (a0 % (3 : Nat)).toNat := ⟨_, rfl⟩
  obtain ⟨m, hm⟩ : ∃ m, m = (a1 % (53 : Nat)).toNat := ⟨_, rfl⟩
  have hr3 : r < 3 := by rw [hr]; exact within_lt a0 3 (by decide)
  have hm53 : m < 53 := by rw [hm]; exact within_lt a1 53 (by decide)
  rw [← hr] at HWR
  rw [← hm] at HWM
  clear hr hm
  have hmx : m ≤ maxLen := by unfold maxLen; omega
  have hmb : i0.bytes * m ≤ 281474976710656 := by rw [hz2]; omega
  go_enter Try.func10, Try.ntmps10
  go_wp2_with fail
  (with_reducible refine (known8_any _).mono ?_)
  rintro e w1 ⟨rfl, hk⟩
  have HK1 := Lib.hid hk
  clear hk
  obtain ⟨A, hA⟩ : ∃ A : Array Value, A = #[.string { data := #[109] }, .int .i64 0, .int .i64 0, .int .i64 1, .string { data := #[97] }, .int .i64 (r : Int), .int .i64 3, .int .i64 0] := ⟨_, rfl⟩
  have hS1 : SeenF (w1.alloc (.cells A 57)) (.slice (some ⟨w1.heap.size, 0, none⟩) 2 2) (cl8 (r : Int)) := SeenF.lit w1 w1.heap.size rfl _ A (cl8 (r : Int)) 2 (by rw [hA]; rfl) rfl (by decide)
  have HC1 := Lib.hid (HK1.out.alloc (.cells A 57))
  rw [hA] at hS1 HC1
  have HS1 := Lib.hid hS1
  clear hA hS1
  go_wp2_with (first
    | (go_at_call 37; (with_reducible refine (HWR.out _).mono ?_); rintro e w2 ⟨rfl, rfl⟩)
    | (go_at_call 37; (with_reducible refine (HWM.out _).mono ?_); rintro e w2 ⟨rfl, rfl⟩)
    | (at_make; refine wpList_make_full _ rfl _ _ 59 rfl w1.heap.size 30 i0 (.agg #[.int .i64 0, .string ByteArray.empty, .slice none 0 0]) 3 Try.underlying59 hi hz0 hz1 .i64 .i64 _ _ m rfl rfl rfl rfl hmb hmx (le_alloc (Nat.le_refl _) _) ?_; intro w3 hown3 hg3)
    | fail)
  rw [Nat.mul_comm] at hown3
  have hcs : (madeCells (Value.agg #[.int .i64 0, .string ByteArray.empty, .slice none 0 0]).cells (3 * m)).toList = (List.replicate m (tz, nilS)).flatMap encT := by
    rw [Nat.mul_comm]; exact cells_trees m
  rw [hcs] at hown3
  have hse := SeenK.own encT_len hown3 (by simp)
  have hg1 : (w1.alloc (.cells #[.string { data := #[109] }, .int .i64 0, .int .i64 0, .int .i64 1, .string { data := #[97] }, .int .i64 (r : Int), .int .i64 3, .int .i64 0] 57)).heap.size = w1.heap.size + 1 := by simp
  have hc3 := (Chg.refl [] _).grown hg3 (by simp)
  have HS3 := Lib.hid (HS1.out.keep hc3)
  have HC3 := Lib.hid (HC1.out.trans hc3 (by simp))
  rw [hg1] at hse
  have hls : ListAt w3 1 (List.replicate m tz) (.slice (some ⟨w1.heap.size + 1, 0, none⟩) m m) := ⟨_, by simp, hse, fun q hq => by
    have := List.eq_of_mem_replicate hq
    subst this
    exact kids_nil⟩
  have hks : KidsAt (w3.alloc (.cells #[.slice (some ⟨w1.heap.size + 1, 0, none⟩) m m] 59)) 2 [List.replicate m tz] (.slice (some ⟨w3.heap.size, 0, none⟩) 1 1) :=
    kidsAt_lit (R := [(List.replicate m tz, .slice (some ⟨w1.heap.size + 1, 0, none⟩) m m)]) (heap_alloc_new w3 _) rfl rfl (by decide) (by intro p hp; simp at hp; subst hp; exact hls.keep ((Chg.refl [] w3).alloc _))
  have HF := Lib.hid (fits_mk _ _ (cl8 (r : Int)) 0 ByteArray.empty _ 2 _ (HS3.out.keep ((Chg.refl [] w3).alloc _)) hks cl8_c cl8_n)
  rw [cl8_fits r hr3 m, eS_eq] at HF
  clear hown3 hg3 hse hc3 hls hks hcs hg1
  have h3 : r = 0 ∨ r = 1 ∨ r = 2 := by omega
  rcases h3 with rfl | rfl | rfl
  · by_cases h1 : m = 1
    · have e1 : ((m : Int) == 1) = true := by simp; omega
      rw [show timesE ((0 : Nat) : Int) m = 0 by unfold timesE; (repeat' split) <;> omega] at HF
      (with_reducible refine HF.out.mono ?_)
      rintro e w4 ⟨rfl, hk4⟩
      have HC4 := Lib.hid ((HC3.out.alloc _).trans hk4 (by simp))
      clear hk4
      go_wp2
      go_ret
      exact ⟨rfl, HC4.out.below (Nat.le_refl _) (by simp)⟩
    · have e1 : ((m : Int) == 1) = false := by simp; omega
      rw [show timesE ((0 : Nat) : Int) m = 13 by unfold timesE; (repeat' split) <;> omega] at HF
      (with_reducible refine HF.out.mono ?_)
      rintro e w4 ⟨rfl, hk4⟩
      have HC4 := Lib.hid ((HC3.out.alloc _).trans hk4 (by simp))
      clear hk4
      go_wp2
      go_ret
      exact ⟨rfl, HC4.out.below (Nat.le_refl _) (by simp)⟩
  · by_cases h1 : m = 1
    · have e1 : ((m : Int) == 1) = true := by simp; omega
      rw [show timesE ((1 : Nat) : Int) m = 0 by unfold timesE; (repeat' split) <;> omega] at HF
      (with_reducible refine HF.out.mono ?_)
      rintro e w4 ⟨rfl, hk4⟩
      have HC4 := Lib.hid ((HC3.out.alloc _).trans hk4 (by simp))
      clear hk4
      go_wp2
      go_ret
      exact ⟨rfl, HC4.out.below (Nat.le_refl _) (by simp)⟩
    · have e1 : ((m : Int) == 1) = false := by simp; omega
      by_cases h2 : m = 0
      · have e2 : ((m : Int) == 0) = true := by simp; omega
        rw [show timesE ((1 : Nat) : Int) m = 0 by unfold timesE; (repeat' split) <;> omega] at HF
        (with_reducible refine HF.out.mono ?_)
        rintro e w4 ⟨rfl, hk4⟩
        have HC4 := Lib.hid ((HC3.out.alloc _).trans hk4 (by simp))
        clear hk4
        go_wp2
        go_ret
        exact ⟨rfl, HC4.out.below (Nat.le_refl _) (by simp)⟩
      · have e2 : ((m : Int) == 0) = false := by simp; omega
        rw [show timesE ((1 : Nat) : Int) m = 13 by unfold timesE; (repeat' split) <;> omega] at HF
        (with_reducible refine HF.out.mono ?_)
        rintro e w4 ⟨rfl, hk4⟩
        have HC4 := Lib.hid ((HC3.out.alloc _).trans hk4 (by simp))
        clear hk4
        go_wp2
        go_ret
        exact ⟨rfl, HC4.out.below (Nat.le_refl _) (by simp)⟩
  · by_cases h1 : 50 < m
    · have e1 : decide ((50 : Int) < (m : Int)) = true := by simp; omega
      rw [show timesE ((2 : Nat) : Int) m = 4 by unfold timesE; (repeat' split) <;> omega] at HF
      (with_reducible refine HF.out.mono ?_)
      rintro e w4 ⟨rfl, hk4⟩
      have HC4 := Lib.hid ((HC3.out.alloc _).trans hk4 (by simp))
      clear hk4
      go_wp2
      go_ret
      exact ⟨rfl, HC4.out.below (Nat.le_refl _) (by simp)⟩
    · have e1 : decide ((50 : Int) < (m : Int)) = false := by simp; omega
      rw [show timesE ((2 : Nat) : Int) m = 0 by unfold timesE; (repeat' split) <;> omega] at HF
      (with_reducible refine HF.out.mono ?_)
      rintro e w4 ⟨rfl, hk4⟩
      have HC4 := Lib.hid ((HC3.out.alloc _).trans hk4 (by simp))
      clear hk4
      go_wp2
      go_ret
      exact ⟨rfl, HC4.out.below (Nat.le_refl _) (by simp)⟩

end Go.Proofs.Ytamcpebnfckdmaa
