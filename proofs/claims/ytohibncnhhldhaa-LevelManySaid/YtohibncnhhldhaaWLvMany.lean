/- The walk of the statement LevelMany. -/
import Derived.Test.YtohibncnhhldhaaKn
namespace Go.Proofs.Ytohibncnhhldhaa
open Go.RowKit
set_option linter.unusedVariables false
set_option linter.unusedSimpArgs false

theorem dec_bad (bv : Value) (b : List Nat) (x y : Int) (w : World) (h : x < 0 ∨ 4000 < x ∨ y < 0 ∨ 16 < y) :
    Calls Try.prog 53 #[bv, .int .i64 x, .int .i64 y] w fun e w' => ∃ v, e = .returned (.tuple #[v, .int .i64 1]) ∧ Chg [] w w' := by
  have E : decA b x y = (1, []) := by unfold decA; rw [if_pos h]
  refine (decode_args bv b x y w h).mono ?_
  rintro e w' ⟨v, rfl, hc, ho⟩
  rw [E]
  exact ⟨v, rfl, hc⟩

set_option maxRecDepth 100000 in
set_option maxHeartbeats 2000000 in
theorem walk_LevelMany (a0 : Int) (a1 : Int) (a2 : Option Addr) (len2 cap2 : Nat) (z2 : List Int) (w : World) (w0 : (Lit.int .i64 a0).wf = true) (w1 : (Lit.int .i64 a1).wf = true) (w2 : IsRow .u8 w a2 len2 cap2 z2) :
    Calls Try.prog 16 #[.int .i64 a0, .int .i64 a1, .slice a2 len2 cap2] w fun e w' => e = .returned (.bool true) ∧ Below w.heap.size w w' := by
  have hlm := w2.len.2
  have W0 := Lib.hid w0; have W1 := Lib.hid w1
  clear w0 w1 w2
  by_cases hlen : 20 < len2
  · go_enter Try.func16, Try.ntmps16
    go_wp2_with fail
    refine (known10_any _).mono ?_
    rintro e wA ⟨rfl, hk⟩
    have HK := Lib.hid hk
    clear hk
    go_wp2
    go_ret
    exact ⟨rfl, HK.out.below (Nat.le_refl _) (by simp)⟩
  obtain ⟨p, hp⟩ : ∃ p, p = (a0 % (999 : Nat)).toNat := ⟨_, rfl⟩
  obtain ⟨q, hq⟩ : ∃ q, q = (a1 % (17 : Nat)).toNat := ⟨_, rfl⟩
  obtain ⟨r, hr⟩ : ∃ r, r = (a0 % (99 : Nat)).toNat := ⟨_, rfl⟩
  obtain ⟨s, hs⟩ : ∃ s, s = (a1 % (99 : Nat)).toNat := ⟨_, rfl⟩
  have hp2 : p < 999 := by rw [hp]; exact within_lt a0 999 (by decide)
  have hq2 : q < 17 := by rw [hq]; exact within_lt a1 17 (by decide)
  have hr2 : r < 99 := by rw [hr]; exact within_lt a0 99 (by decide)
  have hs2 : s < 99 := by rw [hs]; exact within_lt a1 99 (by decide)
  have HP := Lib.hid (fun wx => w10_int a0 999 999 wx rfl (by decide) (by decide) W0.out)
  have HQ := Lib.hid (fun wx => w10_int a1 17 17 wx rfl (by decide) (by decide) W1.out)
  have HR := Lib.hid (fun wx => w10_int a0 99 99 wx rfl (by decide) (by decide) W0.out)
  have HS := Lib.hid (fun wx => w10_int a1 99 99 wx rfl (by decide) (by decide) W1.out)
  rw [← hp] at HP; rw [← hq] at HQ; rw [← hr] at HR; rw [← hs] at HS
  clear hp hq hr hs hlm
  have hw1 : IntKind.i64.wrap (4001 + (p : Int)) = 4001 + (p : Int) := IntWalk.i64_in _ (by omega)
  have hw2 : IntKind.i64.wrap (-1 - (p : Int)) = -1 - (p : Int) := IntWalk.i64_in _ (by omega)
  have hw3 : IntKind.i64.wrap (17 + (s : Int)) = 17 + (s : Int) := IntWalk.i64_in _ (by omega)
  have hw4 : IntKind.i64.wrap (-1 - (s : Int)) = -1 - (s : Int) := IntWalk.i64_in _ (by omega)
  go_enter Try.func16, Try.ntmps16
  go_wp2_with fail
  refine (known10_any _).mono ?_
  rintro e wA ⟨rfl, hk⟩
  have HK := Lib.hid hk
  clear hk
  go_wp2_with fail
  refine (HP.out _).mono ?_
  rintro e wB ⟨rfl, rfl⟩
  go_wp2_with fail
  refine (HQ.out _).mono ?_
  rintro e wB ⟨rfl, rfl⟩
  go_wp2_with fail
  refine (dec_bad _ [] _ _ _ (by omega)).mono ?_
  rintro e wB ⟨v1, rfl, hk⟩
  have HK1 := Lib.hid (HK.out.trans hk (by simp))
  clear hk
  go_wp2_with fail
  refine (HP.out _).mono ?_
  rintro e wC ⟨rfl, rfl⟩
  go_wp2_with fail
  refine (HQ.out _).mono ?_
  rintro e wC ⟨rfl, rfl⟩
  go_wp2_with fail
  refine (dec_bad _ [] _ _ _ (by omega)).mono ?_
  rintro e wC ⟨v2, rfl, hk⟩
  have HK2 := Lib.hid (HK1.out.trans hk (by simp))
  clear hk
  go_wp2_with fail
  refine (HR.out _).mono ?_
  rintro e wD ⟨rfl, rfl⟩
  go_wp2_with fail
  refine (HS.out _).mono ?_
  rintro e wD ⟨rfl, rfl⟩
  go_wp2_with fail
  refine (dec_bad _ [] _ _ _ (by omega)).mono ?_
  rintro e wD ⟨v3, rfl, hk⟩
  have HK3 := Lib.hid (HK2.out.trans hk (by simp))
  clear hk
  go_wp2_with fail
  refine (HR.out _).mono ?_
  rintro e wE ⟨rfl, rfl⟩
  go_wp2_with fail
  refine (HS.out _).mono ?_
  rintro e wE ⟨rfl, rfl⟩
  go_wp2_with fail
  refine (dec_bad _ [] _ _ _ (by omega)).mono ?_
  rintro e wE ⟨v4, rfl, hk⟩
  have HK4 := Lib.hid (HK3.out.trans hk (by simp))
  clear hk
  go_wp2
  go_ret
  exact ⟨rfl, HK4.out.below (Nat.le_refl _) (by simp)⟩

end Go.Proofs.Ytohibncnhhldhaa
