/- The walk of the statement TextPrints. -/
import Derived.Test.YtofnpcfclcfgfaaPn
import Derived.Test.YtofnpcfclcfgfaaRs
namespace Go.Proofs.Ytofnpcfclcfgfaa
open Go.RowKit
set_option linter.unusedVariables false

set_option maxRecDepth 100000 in
set_option maxHeartbeats 4000000 in
theorem walk_TextPrints (a0 : Option Addr) (len0 cap0 : Nat) (z0 : List Int) (w : World) (w0 : IsRow .i64 w a0 len0 cap0 z0) :
    Calls Try.prog 3 #[.slice a0 len0 cap0] w fun e w' => e = .returned (.bool true) ∧ Below w.heap.size w w' := by
  obtain ⟨ns, hS, hlen, hwf⟩ := w0.seenI
  have HS := Lib.hid hS; have HWF := Lib.hid hwf
  clear w0 hS hwf hlen
  obtain ⟨r, fo, hF⟩ := mkF ns
  have HF := Lib.hid hF
  have hts := hF.size
  obtain ⟨l, hl⟩ : ∃ l, l = r :: fo.flat := ⟨_, rfl⟩
  have HBK := Lib.hid hF.back
  have HEQ := Lib.hid hF.eq
  rw [← hl] at HBK HEQ
  clear hF hl
  go_enter Try.func3, Try.ntmps3
  go_wp2_with fail
  (with_reducible refine (known6_any _).mono ?_)
  rintro e wa ⟨rfl, hk⟩
  have HK1 := Lib.hid hk
  clear hk
  go_wp2_with fail
  (with_reducible refine (make_any _ ns _ (HS.out.keep HK1.out) HWF.out).mono ?_)
  rintro e wb ⟨sv, rfl, hown, hk⟩
  have hSv := SeenF.own hown rfl
  obtain ⟨sa, sc, rfl⟩ := own_shape hown
  have HSF := Lib.hid hSv
  have HK2 := Lib.hid (HK1.out.trans hk (by simp))
  clear hown hSv hk
  have HPN := Lib.hid (print_any _ (mk ns) r fo wb HSF.out (mkf_sf HF.out) (by omega))
  go_wp2_with fail
  (with_reducible refine HPN.out.mono ?_)
  rintro e wc ⟨rfl, hk⟩
  have HC1 := Lib.hid hk
  clear hk
  have HPA := Lib.hid (parse_any (txtR r fo) wc (by omega))
  rw [HBK.out] at HPA
  have HRP := Lib.hid (fun wx (h : Chg [] wb wx) => rPrint_any ns r fo HF.out _ wx (HSF.out.keep h))
  obtain ⟨T, hT⟩ : ∃ T, T = txtR r fo := ⟨_, rfl⟩
  rw [← hT] at hts HPA HRP ⊢
  clear hT
  go_wp2_with fail
  (with_reducible refine HPA.out.mono ?_)
  rintro e wd ⟨hk, hout⟩
  have HC2 := Lib.hid (HC1.out.trans hk (by simp))
  clear hk
  rcases hout with ⟨-, v, rfl, hown⟩ | ⟨h0, -⟩
  · have hSx := SeenF.own hown rfl
    obtain ⟨xa, xc, rfl⟩ := own_shape hown
    have HSX := Lib.hid hSx
    clear hown hSx
    go_wp2_with fail
    (with_reducible refine (HRP.out _ HC2.out).mono ?_)
    rintro e we ⟨rfl, hk⟩
    have HC3 := Lib.hid (HC2.out.trans hk (by simp))
    have HSY := Lib.hid (HSX.out.keep hk)
    have HSZ := Lib.hid (show SeenF we (.slice sa (mk ns).length sc) l by rw [← HEQ.out]; exact HSF.out.keep HC3.out)
    clear hk
    go_wp2_with fail
    (with_reducible refine (rsame_any _ _ _ _ HSY.out HSZ.out).mono ?_)
    rintro e wf ⟨rfl, hk⟩
    have HC4 := Lib.hid ((HK2.out.trans HC3.out (by simp)).trans hk (by simp))
    clear hk
    go_wp2
    go_ret
    exact ⟨by simp, HC4.out.below (Nat.le_refl _) (by simp)⟩
  · exact absurd rfl h0

end Go.Proofs.Ytofnpcfclcfgfaa
