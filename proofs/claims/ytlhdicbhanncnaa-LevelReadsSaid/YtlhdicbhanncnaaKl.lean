/- level's decoder: part; Decode. -/
import Derived.Test.YtlhdicbhanncnaaA4
import Derived.Test.YtlhdicbhanncnaaKk
namespace Go.Proofs.Ytlhdicbhanncnaa
open Go.RowKit
set_option linter.unusedVariables false
set_option linter.unusedSimpArgs false

set_option maxRecDepth 100000 in
set_option maxHeartbeats 2000000 in
theorem part10_any {w0 w : World} {d width n : Nat} {bv lv : Value} {b l : List Nat} (hw1 : 1 ≤ width) (h : DS w0 w d width n bv lv b l) :
    Calls Try.prog 20 #[.pointer (some ⟨d, 0, none⟩)] w (PartOut w0 d width n l (partL width (n - l.length) b)) := by
  have H := Lib.hid h
  obtain ⟨c0, -, -, -⟩ := h.cells
  have HG := Lib.hid (get_any bv b w (h.bs.keep h.c0) h.by')
  have hv := gv_lt b h.by'
  have hgl := gl_len 0 b (by omega)
  obtain ⟨v, hv0⟩ : ∃ v, v = gv b := ⟨_, rfl⟩
  obtain ⟨p, hp0⟩ : ∃ p, p = (gl 0 b).1 := ⟨_, rfl⟩
  obtain ⟨er, he0⟩ : ∃ er, er = (gl 0 b).2 := ⟨_, rfl⟩
  unfold GetOut at HG
  obtain ⟨k, hk⟩ : ∃ k, k = n - l.length := ⟨_, rfl⟩
  have hE := partL_eq width k b
  rw [← hv0, ← hp0, ← he0] at hE
  rw [← hv0] at HG hv
  rw [← hp0, ← he0] at HG hgl
  rw [← hk]
  have HE := Lib.hid hE
  have HK := Lib.hid hk
  clear h hE hv0 hp0 he0 hk
  by_cases herr : er ≠ 0
  · have E := Lib.hid (show partL width k b = (er, [], []) by rw [HE.out, if_pos herr])
    have hb : ((er : Int) != 0) = true := by simpa using herr
    have HN := Lib.hid herr
    clear herr hgl
    go_enter Try.func20, Try.ntmps20
    go_wp2_with fail
    refine HG.out.mono ?_
    rintro e w1 ⟨rfl, hc1⟩
    have HC1 := Lib.hid hc1
    clear hc1
    go_wp2
    go_ret
    rw [E.out]
    exact ⟨rfl, H.out.c0.trans HC1.out (by simp), fun h => absurd h HN.out⟩
  have her0 : er = 0 := by omega
  have hpl := hgl her0
  have hb : ((er : Int) != 0) = false := by rw [her0]; rfl
  have hdv : (v : Int) / 2 = ((v / 2 : Nat) : Int) := by omega
  have hmv : (v : Int) % 2 = ((v % 2 : Nat) : Int) := by omega
  have htd : (v : Int).tdiv 2 = ((v / 2 : Nat) : Int) := by rw [Int.tdiv_eq_ediv_of_nonneg (by omega)]; exact hdv
  have htm : (v : Int).tmod 2 = ((v % 2 : Nat) : Int) := by rw [Int.tmod_eq_emod_of_nonneg (by omega)]; exact hmv
  have hcw : IntKind.i64.wrap ((v / 2 : Nat) : Int) = ((v / 2 : Nat) : Int) := IntWalk.i64_in _ (by omega)
  obtain ⟨c, hc⟩ : ∃ c, c = v / 2 := ⟨_, rfl⟩
  obtain ⟨r, hr⟩ : ∃ r, r = v % 2 := ⟨_, rfl⟩
  rw [← hc] at hdv htd hcw
  rw [← hr] at hmv htm
  have hE2 : partL width k b = if r = 0 then runL width k c (b.drop p) else grpL width k c (b.drop p) := by
    rw [HE.out, if_neg (by omega), hr, hc]
  have HE2 := Lib.hid hE2
  have hr2 : r < 2 := by omega
  have hc2 : c ≤ 9223372036854775807 := by omega
  subst her0
  clear hE2 hc hr herr hgl HE
  go_enter Try.func20, Try.ntmps20
  go_wp2_with fail
  refine HG.out.mono ?_
  rintro e w1 ⟨rfl, hc1⟩
  have HD1 := Lib.hid (H.out.keep hc1)
  clear hc1 c0
  have HT := Lib.hid (take10_any p (by omega) HD1.out)
  go_wp2_with fail
  refine HT.out.mono ?_
  rintro e w2 ⟨fo, fc, q, bv', hq, rfl, hfs, hD2, hc2⟩
  have HD2 := Lib.hid hD2
  clear hq hfs hD2 hc2
  by_cases hr1 : r = 1
  · subst hr1
    have hbr : ((1 : Int) == 1) = true := rfl
    have HA := Lib.hid (dgroups_any c hw1 (by omega) HD2.out)
    rw [← HK.out] at HA
    have E := Lib.hid (show partL width k b = grpL width k c (b.drop p) by rw [HE2.out, if_neg (by decide)])
    go_wp2_with fail
    refine HA.out.mono ?_
    rintro e w3 ⟨rfl, hc3, hD3⟩
    have HC3 := Lib.hid hc3; have HD3 := Lib.hid hD3
    clear hc3 hD3
    go_wp2
    go_ret
    rw [E.out]
    exact ⟨rfl, HC3.out, HD3.out⟩
  · have hr1 : r = 0 := by omega
    subst hr1
    have hbr : ((0 : Int) == 1) = false := rfl
    have HA := Lib.hid (drun_any c hw1 (by omega) HD2.out)
    rw [← HK.out] at HA
    have E := Lib.hid (show partL width k b = runL width k c (b.drop p) by rw [HE2.out, if_pos rfl])
    go_wp2_with fail
    refine HA.out.mono ?_
    rintro e w3 ⟨rfl, hc3, hD3⟩
    have HC3 := Lib.hid hc3; have HD3 := Lib.hid hD3
    clear hc3 hD3
    go_wp2
    go_ret
    rw [E.out]
    exact ⟨rfl, HC3.out, HD3.out⟩

end Go.Proofs.Ytlhdicbhanncnaa
