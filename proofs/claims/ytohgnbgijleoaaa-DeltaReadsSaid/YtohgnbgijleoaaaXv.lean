/- The reference's varint.Read, of the reference's reader. -/
import Derived.Test.YtohgnbgijleoaaaXs
import Derived.Test.YtohgnbgijleoaaaGt
import Derived.Deep.RegionLaw
import Derived.Deep.DeepCutAuto
namespace Go.Proofs.Ytohgnbgijleoaaa
open Go.RowKit
set_option linter.unusedVariables false
set_option linter.unusedSimpArgs false

theorem gl_room (l : List Nat) : (gl 0 l).2 = 0 → (gl 0 l).1 ≤ l.length := fun h => (gl_len 0 l (by decide) h).2.1

set_option maxRecDepth 100000 in
set_option maxHeartbeats 4000000 in
theorem xsVRead {w : World} {x M : Nat} {b : List Nat} {a : Nat} (h : XS w x M b a 0) :
    Calls Try.prog 24 #[.pointer (some ⟨x, 0, none⟩)] w fun y w' =>
      if (gl 0 (b.drop a)).2 ≠ 0 then y = .returned (.int .u64 0) ∧ Chg [x] w w' ∧ XS w' x M b a ((gl 0 (b.drop a)).2 : Nat)
      else y = .returned (.int .u64 ((gv (b.drop a) : Nat) : Int)) ∧ Chg [x] w w' ∧ XS w' x M b (a + (gl 0 (b.drop a)).1) 0 := by
  obtain ⟨v, h1, h2, h3, h4, h5⟩ := h.xr
  rw [bys_zi] at h2
  obtain ⟨ao, cap, rfl, hc1, hc2⟩ := h2.shape
  rw [nv_length] at h1 h2 h3 h4 hc1
  obtain ⟨c0, c1, c2, f0, f1, f2⟩ := cells3 h1
  have HX := Lib.hid h
  obtain ⟨ao', cap', hs, hrun⟩ := run_back h2.seen rfl hc1 a h.aL
  have HG := Lib.hid (fun (wx : World) (hc : Chg [] w wx) => rget_any (.slice ao' (b.length - a) cap') (b.drop a) wx (hs.keep hc) (fun y hy => h.by' y (List.mem_of_mem_drop hy)))
  unfold GetOut at HG
  have hgl := gl_room (b.drop a)
  rw [List.length_drop] at hgl
  obtain ⟨N, hN⟩ : ∃ N, N = (gl 0 (b.drop a)).1 := ⟨_, rfl⟩
  obtain ⟨E, hE⟩ : ∃ E, E = (gl 0 (b.drop a)).2 := ⟨_, rfl⟩
  obtain ⟨Z, hZ⟩ : ∃ Z, Z = gv (b.drop a) := ⟨_, rfl⟩
  rw [← hN, ← hE, ← hZ] at HG
  rw [← hN, ← hE] at hgl
  rw [← hN, ← hE, ← hZ]
  have hb := h.bl
  have hal := h.aL
  obtain ⟨B, hB⟩ : ∃ B, B = b.length := ⟨_, rfl⟩
  rw [← hB] at c0 hrun HG hgl hb hal hc1
  have HBB := Lib.hid hB
  have HCL := Lib.hid (show ∀ wx, Chg [] w wx → wx.cell? ⟨x, 0, none⟩ = some (.slice ao B cap) ∧ wx.cell? ⟨x, 1, none⟩ = some (.int .i64 (a : Int)) ∧ wx.frozen? ⟨x, 1, none⟩ = false ∧ XS wx x M b a 0 from fun wx hc => by
    obtain ⟨k0, k1, -, -, k4, -⟩ := cells3 (hc.heap h1 (by simp))
    exact ⟨by rw [hB]; exact k0, k1, k4, h.keep hc⟩)
  have HD0 := Lib.hid (Chg.refl [] w).drew
  obtain ⟨q0, q1, -, -⟩ := HCL.out w.drew (Chg.refl [] w).drew
  clear h h1 h2 h3 h4 h5 hs hN hE hZ hB f0 f1 f2
  go_enter Try.func24, Try.ntmps24
  go_upto_region 3 with fail
  go_cut [3, 4, 5] (fun s3 s4 s5 wx => s3 = .int .u64 ((Z : Nat) : Int) ∧ s4 = .int .i64 ((N : Nat) : Int) ∧ s5 = .int .i64 ((E : Nat) : Int) ∧ Chg [] w wx)
  case first =>
    go_region_held3 (fun w' => w'.cell? ⟨x, 0, none⟩ = some (.slice ao B cap) ∧ w'.cell? ⟨x, 1, none⟩ = some (.int .i64 (a : Int))) (first | exact ⟨q0, q1⟩ | exact ⟨u0, u1⟩) (first
      | (go_simp; go_at_call 39; (with_reducible refine (HG.out _ HD0.out).mono ?_); rintro e w2 ⟨rfl, hc2⟩; have HC2 := Lib.hid (HD0.out.trans hc2 (by simp)); obtain ⟨u0, u1, -, -⟩ := HCL.out w2 HC2.out; clear hc2))
    all_goals
      try go_wp2
      go_meet
      case rel => exact ⟨rfl, rfl, rfl, HC2.out⟩
  case rest =>
    obtain ⟨rfl, rfl, rfl, hcw⟩ := hcut
    obtain ⟨u0, u1, u2, u3⟩ := HCL.out wc hcw
    have HXC := Lib.hid u3
    have HCW := Lib.hid hcw
    clear hcw u3
    by_cases hE0 : E = 0
    · subst hE0
      have hN2 : a + N ≤ B := by omega
      go_wp2
      go_ret
      have hs1 := XR.set1 (a' := a + N) HXC.out.xr (by have := HBB.out; rw [zi_length]; omega)
      have hcast : (((a + N : Nat) : Nat) : Int) = (a : Int) + (N : Int) := by omega
      rw [hcast] at hs1
      exact ⟨rfl, (HCW.out.mono (T := [x]) (by simp)).setCell (by simp) _, ⟨hs1, HXC.out.by', HXC.out.bl, HXC.out.xM, by have := HBB.out; omega⟩⟩
    · have hne : ((E : Int) != 0) = true := by simp; omega
      have hne2 : ¬ ((E : Int) = 0) := by omega
      have HFL := Lib.hid (xfail_set x (E : Int) wc (zi b) a HXC.out.xr)
      go_wp2_with (first
        | (go_at_call 26; (with_reducible refine HFL.out.mono ?_); rintro e w3 ⟨rfl, hc3, hr3⟩; have HC3 := Lib.hid hc3; have HR3 := Lib.hid hr3; clear hc3 hr3)
        | fail)
      go_ret
      exact ⟨rfl, (HCW.out.mono (T := [x]) (by simp)).trans HC3.out (by simp), ⟨HR3.out, HXC.out.by', HXC.out.bl, HXC.out.xM, HXC.out.aL⟩⟩

end Go.Proofs.Ytohgnbgijleoaaa
