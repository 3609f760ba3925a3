/- The walk of the statement PlainInts. -/
import Derived.Test.YtndbgemdklnmlaaDoorUi
namespace Go.Proofs.YtndbgemdklnmlaaDoor
open Go.RowKit
set_option linter.unusedVariables false
set_option linter.unusedSimpArgs false

/-- One number written. -/
theorem enc_one (k : Nat) (hk : 1 ≤ k ∧ k ≤ 4) (m : Int) (hok : okV k ⟨m, e0⟩) (w : World) (hL : Laid w) (lv : Value) (hS : SeenV w lv [⟨m, e0⟩]) :
    Calls Tryd.prog 13 #[.int .i64 (k : Int), lv] w fun e w' => ∃ bv, e = .returned bv ∧ Chg [] w w' ∧ Seen w' bv (nv .u8 (encP k [⟨m, e0⟩])) := by
  refine (pencode_any k hk lv [⟨m, e0⟩] w hL hS (by simp) (by simp; decide)).mono ?_
  rintro e w' ⟨bv, rfl, hc, ho⟩
  exact ⟨bv, rfl, hc, (reads_of_own ho).seen⟩

/-- One number read back. -/
theorem dec_one (k : Nat) (hk : 1 ≤ k ∧ k ≤ 4) (m : Int) (hok : okV k ⟨m, e0⟩) (w : World) (hL : Laid w) (bv : Value) (hS : Seen w bv (nv .u8 (encP k [⟨m, e0⟩]))) :
    Calls Tryd.prog 14 #[.int .i64 (k : Int), bv, .int .i64 1] w fun e w' => ∃ g cap, e = .returned (.tuple #[.slice (some ⟨g, 0, none⟩) 1 cap, .int .i64 0]) ∧ Chg [] w w' ∧ w'.cell? ⟨g, 0, none⟩ = some (.int .i64 m) ∧ w'.cell? ⟨g, 1, none⟩ = some (.string e0) := by
  have hl := encP_len hk (l := [⟨m, e0⟩]) (by simpa using hok)
  have hd := dec_enc k hk [⟨m, e0⟩] (by simp) (by simpa using hok)
  refine (pdecode_any (k : Int) 1 bv (encP k [⟨m, e0⟩]) w (wf64_of _ (by omega)) (by decide) hL hS (encP_bytes _ _) (by simp at hl; omega)).mono ?_
  rintro e w' ⟨x, rfl, hc, ho⟩
  rw [show (1 : Int) = (([⟨m, e0⟩] : List V).length : Int) from rfl, hd] at ho ⊢
  obtain ⟨xo, cap, rfl⟩ := own_shape ho
  obtain ⟨g, hg, -, -, -, hcl⟩ := own_ptr ho (by simp)
  subst hg
  exact ⟨g, cap, rfl, hc, hcl 0 _ rfl, hcl 1 _ rfl⟩

set_option maxRecDepth 100000 in
set_option maxHeartbeats 4000000 in
theorem walk_PlainInts (a0 : Int) (w : World) (hT : Laid w) (w0 : (Lit.int .i64 a0).wf = true) :
    Calls Tryd.prog 8 #[.int .i64 a0] w fun e w' => e = .returned (.bool true) ∧ Below w.heap.size w w' := by
  have HT := Lib.hid hT
  have hb := wf_i64 w0
  obtain ⟨m, hm⟩ : ∃ m, m = IntKind.i32.wrap a0 := ⟨_, rfl⟩
  have hm32 : -2147483648 ≤ m ∧ m < 2147483648 := by rw [hm, w32]; omega
  have y1 : IntKind.i32.wrap a0 = m := hm.symm
  have y2 : IntKind.i64.wrap m = m := IntWalk.i64_in _ (by omega)
  have hok2 : okV 2 ⟨m, e0⟩ := ⟨by simp, fun _ => ⟨hm32, rfl⟩, by simp, by simp⟩
  have hok3 : okV 3 ⟨a0, e0⟩ := ⟨by simp, by simp, fun _ => ⟨by show -9223372036854775808 ≤ a0 ∧ a0 < 9223372036854775808; omega, rfl⟩, by simp⟩
  have HE2 := Lib.hid (enc_one 2 (by decide) m hok2)
  have HE3 := Lib.hid (enc_one 3 (by decide) a0 hok3)
  have HD2 := Lib.hid (dec_one 2 (by decide) m hok2)
  have HD3 := Lib.hid (dec_one 3 (by decide) a0 hok3)
  rw [show ((2 : Nat) : Int) = 2 from rfl] at HE2 HD2
  rw [show ((3 : Nat) : Int) = 3 from rfl] at HE3 HD3
  clear hT hm hok2 hok3 w0
  go_enter Tryd.func8, Tryd.ntmps8
  go_wp2_with fail
  refine (known11_any _ HT.out).mono ?_
  rintro e wA ⟨rfl, hk⟩
  have HKA := Lib.hid hk
  have HS2 := Lib.hid (show SeenV (wA.alloc (.cells #[.int .i64 m, .string e0] 39)) (.slice (some ⟨wA.heap.size, 0, none⟩) 1 1) [⟨m, e0⟩] from SeenK.lit V.cs_len (heap_alloc_new wA _) _ 1 rfl rfl (by decide))
  have HK2 := Lib.hid (HKA.out.alloc (.cells #[.int .i64 m, .string e0] 39))
  clear hk
  go_upto_region 5 with (first
    | (go_at_call 13; (with_reducible refine (HE2.out _ (HT.out.keep HK2.out) _ HS2.out).mono ?_); rintro e wB ⟨bv, rfl, hc, hs⟩; have HKB := Lib.hid (HK2.out.trans hc (by simp)); have HB := Lib.hid hs; clear hc hs)
    | (go_at_call 14; (with_reducible refine (HD2.out _ (HT.out.keep HKB.out) _ HB.out).mono ?_); rintro e wC ⟨g2, cap2, rfl, hc, x0, x1⟩; have HKC := Lib.hid (HKB.out.trans hc (by simp)); clear hc)
    | fail)
  have HS3 := Lib.hid (show SeenV (wC.alloc (.cells #[.int .i64 a0, .string e0] 39)) (.slice (some ⟨wC.heap.size, 0, none⟩) 1 1) [⟨a0, e0⟩] from SeenK.lit V.cs_len (heap_alloc_new wC _) _ 1 rfl rfl (by decide))
  have HCC := Lib.hid ((Chg.refl [] wC).alloc (.cells #[.int .i64 a0, .string e0] 39))
  go_upto_region 6 with (first
    | (go_at_call 13; (with_reducible refine (HE3.out _ (HT.out.keep (HKC.out.alloc _)) _ HS3.out).mono ?_); rintro e wD ⟨bv3, rfl, hc, hs⟩; have HKD := Lib.hid (HCC.out.trans hc (by simp)); have HB3 := Lib.hid hs; clear hc hs)
    | (go_at_call 14; (with_reducible refine (HD3.out _ (HT.out.keep (HKC.out.trans HKD.out (by simp))) _ HB3.out).mono ?_); rintro e wE ⟨g3, cap3, rfl, hc, x2, x3⟩; have HKE := Lib.hid (HKD.out.trans hc (by simp)); clear hc)
    | fail)
  have z0 := HKE.out.cell x0 (by simp)
  have z1 := HKE.out.cell x1 (by simp)
  clear x0 x1
  go_wp2
  go_ret
  exact ⟨rfl, (HKC.out.trans HKE.out (by simp)).below (Nat.le_refl _) (by simp)⟩

end Go.Proofs.YtndbgemdklnmlaaDoor
