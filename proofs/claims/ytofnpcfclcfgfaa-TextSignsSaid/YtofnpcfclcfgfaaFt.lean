/- Contract of schema.fault. -/
import Derived.Test.YtofnpcfclcfgfaaTk
namespace Go.Proofs.Ytofnpcfclcfgfaa
open Go.RowKit
set_option linter.unusedVariables false

def faultN (l : List F) (ps ds : List Int) (i : Nat) : Int :=
  if 0 < i ∧ ps.getD i 0 = -1 then 1
  else if 8 < ds.getD i 0 then 11
  else if nameB (bl (l.getD i default).n) = false ∨ takenB l ps i = true then 7
  else if knownB (l.getD i default) = false ∨ (i = 0 ∧ rootB (l.getD i default) = false) then 3
  else if haveB (l.getD i default) = false then 1 else 0

/-- A field in a block of its own. -/
structure Box (w : World) (B : Nat) (f : F) : Prop where
  n : w.cell? ⟨B, 0, none⟩ = some (.string f.n)
  r : w.cell? ⟨B, 1, none⟩ = some (.int .i64 f.r)
  k : w.cell? ⟨B, 2, none⟩ = some (.int .i64 f.k)
  c : w.cell? ⟨B, 3, none⟩ = some (.int .i64 f.c)
theorem Box.keep {w w' : World} {B : Nat} {f : F} (h : Box w B f) (hc : Chg [] w w') : Box w' B f :=
  ⟨hc.cell h.n (by simp), hc.cell h.r (by simp), hc.cell h.k (by simp), hc.cell h.c (by simp)⟩
theorem Box.new (w : World) (f : F) (T : TypeId) : Box (w.alloc (.cells #[.string f.n, .int .i64 f.r, .int .i64 f.k, .int .i64 f.c] T)) w.heap.size f := by
  constructor <;> simp

set_option maxRecDepth 100000 in
set_option maxHeartbeats 1000000 in
theorem fault_any (sv pv dv : Value) (l : List F) (ps ds : List Int) (i : Nat) (w : World) (hS : SeenF w sv l) (hP : SeenI w pv ps) (hD : SeenI w dv ds) (hl : ps.length = l.length) (hl2 : ds.length = l.length) (hi : i < l.length) (hn : ∀ f ∈ l, f.n.size ≤ 1000000) :
    Calls Try.prog 73 #[sv, pv, dv, .int .i64 (i : Int)] w fun e w' => e = .returned (.int .i64 (faultN l ps ds i)) ∧ Chg [] w w' := by
  obtain ⟨ao, cap, rfl, hc1, hc2⟩ := hS.shape
  obtain ⟨ao', cap', rfl, hc1', hc2'⟩ := hP.shape
  obtain ⟨ao2, cap2, rfl, hc12, hc22⟩ := hD.shape
  rw [hl] at hc1' hP ⊢
  rw [hl2] at hc12 hD ⊢
  have HS0 := Lib.hid hS; have HP0 := Lib.hid hP; have HL0 := Lib.hid hl; have HI0 := Lib.hid hi
  obtain ⟨n, hnn⟩ : ∃ n, n = l.length := ⟨_, rfl⟩
  rw [← hnn] at hi hc1 hc1' hc12 hS hP hD hl hl2 HS0 HP0 ⊢
  have hnm : n ≤ maxLen := by omega
  obtain ⟨g, off, rfl, hcs⟩ := hS.get (by omega) hnn.symm
  obtain ⟨g', off', rfl, hcp⟩ := hP.get (by omega) hl
  obtain ⟨g2, off2, rfl, hcd⟩ := hD.get (by omega) hl2
  obtain ⟨a1, a2, a3, a4⟩ := hcs i hi
  have a5 := hcp i hi
  have a6 := hcd i hi
  have hnl : (l.getD i default).n.size ≤ 1000000 := hn _ (by rw [List.getD, List.getElem?_eq_getElem (by omega)]; exact List.getElem_mem _)
  clear hS hP hD hcs hcp hcd hnn hl hl2 hn
  obtain ⟨f, hf⟩ : ∃ f, f = l.getD i default := ⟨_, rfl⟩
  obtain ⟨p, hp⟩ : ∃ p, p = ps.getD i 0 := ⟨_, rfl⟩
  obtain ⟨d, hd⟩ : ∃ d, d = ds.getD i 0 := ⟨_, rfl⟩
  have HE := Lib.hid (show faultN l ps ds i = if 0 < i ∧ p = -1 then 1 else if 8 < d then 11 else if nameB (bl f.n) = false ∨ takenB l ps i = true then 7 else if knownB f = false ∨ (i = 0 ∧ rootB f = false) then 3 else if haveB f = false then 1 else 0 by unfold faultN; rw [hf, hp, hd])
  rw [← hf] at a1 a2 a3 a4 hnl; rw [← hp] at a5; rw [← hd] at a6
  clear hf hp hd
  unfold maxLen at hnm
  have c5 : ∀ o, (w.alloc o).cell? ⟨g', off' + i, none⟩ = some (.int .i64 p) := fun o => ((Chg.refl [] w).alloc o).cell a5 (by simp)
  have c6 : ∀ o, (w.alloc o).cell? ⟨g2, off2 + i, none⟩ = some (.int .i64 d) := fun o => ((Chg.refl [] w).alloc o).cell a6 (by simp)
  have HA := Lib.hid ((Chg.refl [] w).alloc (.cells #[.string f.n, .int .i64 f.r, .int .i64 f.k, .int .i64 f.c] 41))
  by_cases h1 : 0 < i ∧ p = -1
  · have d1 : 0 < i := h1.1
    have d2 : (p == -1) = true := by simp; omega
    have E := Lib.hid (show faultN l ps ds i = 1 by rw [HE.out, if_pos h1])
    clear HE h1
    go_enter Try.func73, Try.ntmps73
    go_wp2
    go_ret
    exact ⟨ret_int E.out.symm, HA.out⟩
  have hq : ¬ 0 < i ∨ 0 < i ∧ (p == -1) = false := by
    by_cases h : 0 < i
    · right; simp; omega
    · left; exact h
  by_cases h2 : 8 < d
  · have d3 : decide ((8 : Int) < d) = true := by simpa using h2
    have E := Lib.hid (show faultN l ps ds i = 11 by rw [HE.out, if_neg h1, if_pos h2])
    clear HE h1
    rcases hq with d1 | ⟨d1, d2⟩
    all_goals
      go_enter Try.func73, Try.ntmps73
      go_wp2
      go_ret
      exact ⟨ret_int E.out.symm, HA.out⟩
  have d3 : decide ((8 : Int) < d) = false := by simpa using h2
  rw [if_neg h1, if_neg h2] at HE
  clear h1 h2
  have hbox : Box (w.alloc (.cells #[.string f.n, .int .i64 f.r, .int .i64 f.k, .int .i64 f.c] 41)) w.heap.size f := Box.new w f _
  have HBX := Lib.hid hbox
  clear hbox
  by_cases h3 : nameB (bl f.n) = false
  · have E := Lib.hid (show faultN l ps ds i = 7 by rw [HE.out, if_pos (.inl h3)])
    have H3 := Lib.hid h3
    clear HE h3
    rcases hq with d1 | ⟨d1, d2⟩
    all_goals
      go_enter Try.func73, Try.ntmps73
      go_wp2_with fail
      (with_reducible refine (isName_any f.n _ hnl).mono ?_)
      rintro e w1 ⟨rfl, hk⟩
      have HK := Lib.hid (HA.out.trans hk (by simp)); clear hk
      rw [H3.out]
      go_wp2
      go_ret
      exact ⟨ret_int E.out.symm, HK.out⟩
  have h3 : nameB (bl f.n) = true := by simpa using h3
  by_cases h4 : takenB l ps i = true
  · have E := Lib.hid (show faultN l ps ds i = 7 by rw [HE.out, if_pos (.inr h4)])
    have H3 := Lib.hid h3; have H4 := Lib.hid h4
    clear HE h3 h4
    rcases hq with d1 | ⟨d1, d2⟩
    all_goals
      go_enter Try.func73, Try.ntmps73
      go_wp2_with fail
      (with_reducible refine (isName_any f.n _ hnl).mono ?_)
      rintro e w1 ⟨rfl, hk⟩
      have HK := Lib.hid (HA.out.trans hk (by simp)); clear hk
      rw [H3.out]
      go_wp2_with fail
      (with_reducible refine (isTaken_any _ _ l ps i w1 (HS0.out.keep HK.out) (HP0.out.keep HK.out) HL0.out HI0.out).mono ?_)
      rintro e w2 ⟨rfl, hk⟩
      have HK2 := Lib.hid (HK.out.trans hk (by simp)); clear hk
      rw [H4.out]
      go_wp2
      go_ret
      exact ⟨ret_int E.out.symm, HK2.out⟩
  have h4 : takenB l ps i = false := by simpa using h4
  rw [if_neg (by rw [h3, h4]; simp)] at HE
  have H3 := Lib.hid h3; have H4 := Lib.hid h4
  clear h3 h4
  by_cases h5 : knownB f = false
  · have E := Lib.hid (show faultN l ps ds i = 3 by rw [HE.out, if_pos (.inl h5)])
    have H5 := Lib.hid h5
    clear HE h5
    rcases hq with d1 | ⟨d1, d2⟩
    all_goals
      go_enter Try.func73, Try.ntmps73
      go_wp2_with fail
      (with_reducible refine (isName_any f.n _ hnl).mono ?_)
      rintro e w1 ⟨rfl, hk⟩
      have HB1 := Lib.hid (HBX.out.keep hk)
      have HK := Lib.hid (HA.out.trans hk (by simp)); clear hk
      rw [H3.out]
      go_wp2_with fail
      (with_reducible refine (isTaken_any _ _ l ps i w1 (HS0.out.keep HK.out) (HP0.out.keep HK.out) HL0.out HI0.out).mono ?_)
      rintro e w2 ⟨rfl, hk⟩
      have hb := HB1.out.keep hk
      obtain ⟨b1, b2, b3, b4⟩ := hb
      have HK2 := Lib.hid (HK.out.trans hk (by simp)); clear hk
      rw [H4.out]
      go_wp2_with fail
      (with_reducible refine (known_f f _).mono ?_)
      rintro e w3 ⟨rfl, hk⟩
      have HK3 := Lib.hid (HK2.out.trans hk (by simp)); clear hk
      rw [H5.out]
      go_wp2
      go_ret
      exact ⟨ret_int E.out.symm, HK3.out⟩
  have h5 : knownB f = true := by simpa using h5
  by_cases h6 : i = 0 ∧ rootB f = false
  · have E := Lib.hid (show faultN l ps ds i = 3 by rw [HE.out, if_pos (.inr h6)])
    have H5 := Lib.hid h5; have H6 := Lib.hid h6.2
    have e0 : ((i : Int) == 0) = true := by simp [h6.1]
    have d1 : ¬ 0 < i := by omega
    clear HE h5 hq h6
    go_enter Try.func73, Try.ntmps73
    go_wp2_with fail
    (with_reducible refine (isName_any f.n _ hnl).mono ?_)
    rintro e w1 ⟨rfl, hk⟩
    have HB1 := Lib.hid (HBX.out.keep hk)
    have HK := Lib.hid (HA.out.trans hk (by simp)); clear hk
    rw [H3.out]
    go_wp2_with fail
    (with_reducible refine (isTaken_any _ _ l ps i w1 (HS0.out.keep HK.out) (HP0.out.keep HK.out) HL0.out HI0.out).mono ?_)
    rintro e w2 ⟨rfl, hk⟩
    have HB2 := Lib.hid (HB1.out.keep hk)
    obtain ⟨b1, b2, b3, b4⟩ := HB2.out
    have HK2 := Lib.hid (HK.out.trans hk (by simp)); clear hk
    rw [H4.out]
    go_wp2_with fail
    (with_reducible refine (known_f f _).mono ?_)
    rintro e w3 ⟨rfl, hk⟩
    obtain ⟨b1, b2, b3, b4⟩ := HB2.out.keep hk
    have HK3 := Lib.hid (HK2.out.trans hk (by simp)); clear hk
    rw [H5.out]
    go_wp2_with fail
    (with_reducible refine (root_f f _).mono ?_)
    rintro e w4 ⟨rfl, hk⟩
    have HK4 := Lib.hid (HK3.out.trans hk (by simp)); clear hk
    rw [H6.out]
    go_wp2
    go_ret
    exact ⟨ret_int E.out.symm, HK4.out⟩
  rw [if_neg (by rw [h5]; simp; simpa using h6)] at HE
  have H5 := Lib.hid h5
  clear h5
  have HE2 := Lib.hid (show faultN l ps ds i = if haveB f = true then 0 else 1 by rw [HE.out]; cases haveB f <;> rfl)
  clear HE
  have hways : (i = 0 ∧ rootB f = true) ∨ (¬ i = 0) := by
    by_cases h : i = 0
    · left; exact ⟨h, by simpa [h] using h6⟩
    · right; exact h
  clear h6
  rcases hways with ⟨h0, h7⟩ | h7
  · have H7 := Lib.hid h7
    have e0 : ((i : Int) == 0) = true := by simp [h0]
    have d1 : ¬ 0 < i := by omega
    clear h7 hq h0
    go_enter Try.func73, Try.ntmps73
    go_wp2_with fail
    (with_reducible refine (isName_any f.n _ hnl).mono ?_)
    rintro e w1 ⟨rfl, hk⟩
    have HB1 := Lib.hid (HBX.out.keep hk)
    have HK := Lib.hid (HA.out.trans hk (by simp)); clear hk
    rw [H3.out]
    go_wp2_with fail
    (with_reducible refine (isTaken_any _ _ l ps i w1 (HS0.out.keep HK.out) (HP0.out.keep HK.out) HL0.out HI0.out).mono ?_)
    rintro e w2 ⟨rfl, hk⟩
    have HB2 := Lib.hid (HB1.out.keep hk)
    obtain ⟨b1, b2, b3, b4⟩ := HB2.out
    have HK2 := Lib.hid (HK.out.trans hk (by simp)); clear hk
    rw [H4.out]
    go_wp2_with fail
    (with_reducible refine (known_f f _).mono ?_)
    rintro e w3 ⟨rfl, hk⟩
    have HB3 := Lib.hid (HB2.out.keep hk)
    obtain ⟨b1, b2, b3, b4⟩ := HB3.out
    have HK3 := Lib.hid (HK2.out.trans hk (by simp)); clear hk
    rw [H5.out]
    go_wp2_with fail
    (with_reducible refine (root_f f _).mono ?_)
    rintro e w4 ⟨rfl, hk⟩
    obtain ⟨b1, b2, b3, b4⟩ := HB3.out.keep hk
    have HK4 := Lib.hid (HK3.out.trans hk (by simp)); clear hk
    rw [H7.out]
    go_wp2_with fail
    (with_reducible refine (have_f f _).mono ?_)
    rintro e w5 ⟨rfl, hk⟩
    have HK5 := Lib.hid (HK4.out.trans hk (by simp)); clear hk
    cases hh : haveB f
    all_goals
      have E := Lib.hid HE2.out
      rw [hh] at E
      clear hh HE2
      go_wp2
      go_ret
      exact ⟨ret_int E.out.symm, HK5.out⟩
  · have e0 : ((i : Int) == 0) = false := by simp; omega
    rcases hq with d1 | ⟨d1, d2⟩
    · omega
    go_enter Try.func73, Try.ntmps73
    go_wp2_with fail
    (with_reducible refine (isName_any f.n _ hnl).mono ?_)
    rintro e w1 ⟨rfl, hk⟩
    have HB1 := Lib.hid (HBX.out.keep hk)
    have HK := Lib.hid (HA.out.trans hk (by simp)); clear hk
    rw [H3.out]
    go_wp2_with fail
    (with_reducible refine (isTaken_any _ _ l ps i w1 (HS0.out.keep HK.out) (HP0.out.keep HK.out) HL0.out HI0.out).mono ?_)
    rintro e w2 ⟨rfl, hk⟩
    have HB2 := Lib.hid (HB1.out.keep hk)
    obtain ⟨b1, b2, b3, b4⟩ := HB2.out
    have HK2 := Lib.hid (HK.out.trans hk (by simp)); clear hk
    rw [H4.out]
    go_wp2_with fail
    (with_reducible refine (known_f f _).mono ?_)
    rintro e w3 ⟨rfl, hk⟩
    obtain ⟨b1, b2, b3, b4⟩ := HB2.out.keep hk
    have HK3 := Lib.hid (HK2.out.trans hk (by simp)); clear hk
    rw [H5.out]
    go_wp2_with fail
    (with_reducible refine (have_f f _).mono ?_)
    rintro e w5 ⟨rfl, hk⟩
    have HK5 := Lib.hid (HK3.out.trans hk (by simp)); clear hk
    cases hh : haveB f
    all_goals
      have E := Lib.hid HE2.out
      rw [hh] at E
      clear hh HE2
      go_wp2
      go_ret
      exact ⟨ret_int E.out.symm, HK5.out⟩

end Go.Proofs.Ytofnpcfclcfgfaa
