/- wire's parser: truth, count. -/
import Derived.Test.YthhcnlmjcpkbnaaHc
namespace Go.Proofs.Ythhcnlmjcpkbnaa
open Go.RowKit
set_option linter.unusedVariables false
set_option linter.unusedSimpArgs false

theorem pNum1_lt {s : St} (hb : ∀ x ∈ s.1, x < 256) : (pNum 1 s).1 < 256 := by
  unfold pNum
  split
  · show 0 < 256; decide
  · rcases hs : s.1 with _ | ⟨a, t⟩
    · rename_i h; rw [hs] at h; simp at h
    · have := hb a (by rw [hs]; simp)
      simp [nm]; omega
theorem pNum_ok {n : Nat} {s : St} (h : 1 < (pNum n s).1) (ok : s.2 ≠ 0 → s.1 = []) (hn : 1 ≤ n) : (pNum n s).2.2 = 0 := by
  unfold pNum at h ⊢
  split
  · rename_i hc; rw [if_pos hc] at h; simp at h
  · rename_i hc
    show s.2 = 0
    by_cases h0 : s.2 = 0
    · exact h0
    · rw [ok h0] at hc; simp at hc; omega

set_option maxRecDepth 100000 in
set_option maxHeartbeats 1000000 in
theorem truth_any {w0 w : World} {gp gr B : Nat} {fv bv : Value} {fm b : List Nat} {s : St} (h : WPS w0 w gp gr B fv bv fm b s) :
    Calls Try.prog 131 #[.pointer (some ⟨gp, 0, none⟩)] w fun x w' => x = .returned (.int .i64 ((pTruth s).1 : Nat)) ∧ WPS w0 w' gp gr B fv bv fm b (pTruth s).2 ∧ Chg [gr] w w' := by
  obtain ⟨c0, c1, c2⟩ := h.cells
  have HG := Lib.hid (psGet h 1 (by decide) (by decide))
  have hlt := pNum1_lt h.bytes
  have HN := Lib.hid (fun h1 => pNum_ok (n := 1) h1 h.ok (by decide))
  have hne := Lib.hid h.ne
  obtain ⟨v, hv⟩ : ∃ v, v = (pNum 1 s).1 := ⟨_, rfl⟩
  rw [← hv] at HG HN hlt
  rw [show ((1 : Nat) : Int) = 1 from rfl] at HG
  clear h c0 c1
  by_cases h1 : 1 < v
  · have E := Lib.hid (show pTruth s = (0, ([], 10)) by unfold pTruth; rw [if_pos (by rw [← hv]; exact h1)])
    have h0 := Lib.hid (HN.out h1)
    have d1 : decide ((1 : Int) < (v : Int)) = true := by simp; omega
    clear h1 hv HN
    go_enter Try.func131, Try.ntmps131
    go_wp2_with fail
    (with_reducible refine HG.out.mono ?_)
    rintro e w1 ⟨rfl, hP, hC⟩
    have HF := Lib.hid (psFail hP 10 h0.out (by decide))
    obtain ⟨-, -, k2⟩ := hP.cells
    have HC := Lib.hid hC
    clear hP hC
    rw [show ((10 : Nat) : Int) = 10 from rfl] at HF
    go_wp2_with fail
    (with_reducible refine HF.out.mono ?_)
    rintro e w2 ⟨rfl, hP2, hC2⟩
    have HP2 := Lib.hid hP2
    have HC2 := Lib.hid (HC.out.trans hC2 (by simp))
    clear hP2 hC2
    go_wp2
    go_ret
    rw [E.out]
    exact ⟨rfl, HP2.out, HC2.out⟩
  · have E := Lib.hid (show pTruth s = pNum 1 s by unfold pTruth; rw [if_neg (by rw [← hv]; exact h1)])
    have d1 : decide ((1 : Int) < (v : Int)) = false := by simp; omega
    have hw : IntKind.i64.wrap (v : Int) = (v : Int) := IntWalk.i64_in _ (by omega)
    have HV := Lib.hid hv
    clear h1 hv HN
    go_enter Try.func131, Try.ntmps131
    go_wp2_with fail
    (with_reducible refine HG.out.mono ?_)
    rintro e w1 ⟨rfl, hP, hC⟩
    have HP := Lib.hid hP
    have HC := Lib.hid hC
    clear hP hC
    go_wp2
    go_ret
    rw [E.out, ← HV.out]
    exact ⟨rfl, HP.out, HC.out⟩

theorem pTruth_le (s : St) : (pTruth s).1 ≤ 1 := by
  unfold pTruth
  split
  · exact Nat.zero_le _
  · omega

/-- Take, of the parser's reader. -/
theorem psTake {w0 w : World} {gp gr B : Nat} {fv bv : Value} {fm b : List Nat} {s : St} (h : WPS w0 w gp gr B fv bv fm b s) (n : Nat) (hn : n ≤ s.1.length) :
    Calls Try.prog 110 #[.pointer (some ⟨gr, 0, none⟩), .int .i64 (n : Int)] w fun x w' => ∃ ao cap, x = .returned (.slice ao n cap) ∧ w'.ownsRow w.heap.size 5 1 (.slice ao n cap) n (nv .u8 (s.1.take n)) ∧ WPS w0 w' gp gr B fv bv fm b (s.1.drop n, s.2) ∧ Chg [gr] w w' := by
  have hl := h.len
  refine (rtake_any gr n (n : Int) (s.2 : Nat) w (zi s.1) (by rw [zi_length]; omega) h.rd (by omega) (by rw [zi_length]; exact hn)).mono ?_
  rintro x w' ⟨v, rfl, hc, hr, ho⟩
  obtain ⟨ao, cap, rfl⟩ := own_shape ho
  rw [zi_take, bys_zi] at ho
  rw [zi_drop] at hr
  refine ⟨ao, cap, rfl, ho, h.goOn hc hr (fun he => ?_) (.inr ⟨n, hn, rfl⟩), hc⟩
  have := h.ok he
  show s.1.drop n = []
  rw [this]
  simp

set_option maxRecDepth 100000 in
set_option maxHeartbeats 1000000 in
theorem count_any9 {w0 w : World} {gp gr B : Nat} {fv bv : Value} {fm b : List Nat} {s : St} (most er : Nat) (hm : most < 1000) (her : 1 ≤ er ∧ er < 1000) (h : WPS w0 w gp gr B fv bv fm b s) :
    Calls Try.prog 81 #[.pointer (some ⟨gp, 0, none⟩), .int .u64 (most : Int), .int .i64 (er : Int)] w fun x w' => x = .returned (.int .i64 ((pCount most er s).1 : Nat)) ∧ WPS w0 w' gp gr B fv bv fm b (pCount most er s).2 ∧ Chg [gr] w w' := by
  obtain ⟨c0, c1, c2⟩ := h.cells
  have hl := h.len
  have HL := Lib.hid (show ∀ wx, Chg [] w wx → Calls Try.prog 108 #[.pointer (some ⟨gr, 0, none⟩)] wx fun x w' => x = .returned (.int .i64 (s.1.length : Int)) ∧ wx = w' from fun wx hk => by
    have := left_any gr (zi s.1) (s.2 : Nat) wx (by rw [zi_length]; omega) (h.rd.keep0 hk)
    rw [zi_length] at this
    exact this)
  have hbb := h.bs.keep h.c0
  obtain ⟨ao, cap, rfl, hb1, hb2⟩ := hbb.shape
  rw [nv_length] at hbb c1 hb1
  have hbl := h.bl
  have hpos : ∃ k, k + s.1.length = b.length ∧ s.1 = b.drop k := by
    obtain ⟨k, hk, e⟩ := h.suf
    exact ⟨k, by rw [e, List.length_drop]; omega, e⟩
  obtain ⟨k, hk, hsk⟩ := hpos
  obtain ⟨ao', cap', hsv, hrun⟩ := run_back hbb rfl (by omega) k (by omega)
  rw [← hsk] at hsv
  have hsub : (b.length : Int) - (s.1.length : Int) = (k : Int) := by omega
  obtain ⟨v, hv⟩ : ∃ v, v = gv s.1 := ⟨_, rfl⟩
  obtain ⟨c, hc⟩ : ∃ c, c = (gl 0 s.1).1 := ⟨_, rfl⟩
  obtain ⟨bad, hbad⟩ : ∃ bad, bad = (gl 0 s.1).2 := ⟨_, rfl⟩
  have HG := Lib.hid (show ∀ wx, Chg [] w wx → Calls Try.prog 107 #[.slice ao' (b.length - k) cap'] wx fun e w' => e = .returned (.tuple #[.int .u64 (v : Int), .int .i64 (c : Int), .int .i64 (bad : Int)]) ∧ Chg [] wx w' from fun wx hk => by
    rw [hv, hc, hbad]
    exact get_any _ s.1 wx (hsv.keep hk) (fun x hx => h.bytes x hx))
  have hw1 : IntKind.i64.wrap ((b.length : Int) - (s.1.length : Int)) = (k : Int) := by rw [hsub]; exact IntWalk.i64_in _ (by omega)
  -- what Fail leaves
  obtain ⟨s1, hs1⟩ : ∃ s1 : St, s1 = if s.2 ≠ 0 then s else if bad ≠ 0 then ([], bad) else s := ⟨_, rfl⟩
  have hA : s.2 ≠ 0 → bad = 8 ∧ c = 0 ∧ v = 0 := fun h0 => by
    have e := h.ok h0
    rw [hv, hc, hbad, e]
    exact ⟨rfl, rfl, rfl⟩
  have hB : bad ≠ 0 → c = 0 ∧ v = 0 := fun h0 => by
    refine ⟨by rw [hc]; exact gl_zero 0 s.1 (by rw [← hbad]; exact h0), ?_⟩
    rw [hv]; unfold gv; rw [if_neg (by rw [← hbad]; exact h0)]
  have hcl : c ≤ s1.1.length := by
    rw [hs1]
    by_cases h0 : s.2 ≠ 0
    · rw [if_pos h0, (hA h0).2.1]; exact Nat.zero_le _
    · rw [if_neg h0]
      by_cases hb : bad ≠ 0
      · rw [(hB hb).1]; exact Nat.zero_le _
      · rw [if_neg hb, hc]
        exact (gl_len 0 s.1 (by omega) (by rw [← hbad]; omega)).2.1
  have HF := Lib.hid (show ∀ wx, WPS w0 wx gp gr B fv (.slice ao b.length cap) fm b s → Calls Try.prog 109 #[.pointer (some ⟨gr, 0, none⟩), .int .i64 (bad : Int)] wx fun x w' => x = .returned (.tuple #[]) ∧ WPS w0 w' gp gr B fv (.slice ao b.length cap) fm b s1 ∧ Chg [gr] wx w' from fun wx hp => by
    by_cases h0 : s.2 ≠ 0
    · refine (psFailNot hp bad (.inl h0)).mono ?_
      rintro x w' ⟨rfl, rfl⟩
      rw [hs1, if_pos h0]
      exact ⟨rfl, hp, Chg.refl _ _⟩
    · by_cases hb : bad ≠ 0
      · rw [hs1, if_neg h0, if_pos hb]
        exact psFail hp bad (by omega) hb
      · refine (psFailNot hp bad (.inr (by omega))).mono ?_
        rintro x w' ⟨rfl, rfl⟩
        rw [hs1, if_neg h0, if_neg hb]
        exact ⟨rfl, hp, Chg.refl _ _⟩)
  have HT := Lib.hid (fun wx (hp : WPS w0 wx gp gr B fv (.slice ao b.length cap) fm b s1) => psTake hp c hcl)
  obtain ⟨s2, hs2⟩ : ∃ s2 : St, s2 = (s1.1.drop c, s1.2) := ⟨_, rfl⟩
  rw [← hs2] at HT
  have hz : most < v → s2.2 = 0 := fun hlt => by
    have hb : ¬ bad ≠ 0 := fun hb => by have := (hB hb).2; omega
    have h0 : ¬ s.2 ≠ 0 := fun h0 => by have := (hA h0).2.2; omega
    rw [hs2, hs1, if_neg h0, if_neg hb]
    show s.2 = 0
    omega
  have hE : pCount most er s = if most < v then (0, ([], er)) else (v, s2) := by
    unfold pCount
    rw [← hv, ← hc, ← hbad, hs2, hs1]
    by_cases h0 : s.2 ≠ 0
    · obtain ⟨e1, e2, e3⟩ := hA h0
      rw [if_pos h0, if_pos h0, e3, if_neg (by omega), e2]
      rfl
    · rw [if_neg h0, if_neg h0]
      by_cases hb : bad ≠ 0
      · obtain ⟨e2, e3⟩ := hB hb
        rw [if_pos hb, if_pos hb, e3, if_neg (by omega), e2]
        rfl
      · rw [if_neg hb, if_neg hb]
        have : s.2 = 0 := by omega
        rw [this]
  have HZ := Lib.hid hz; have HE := Lib.hid hE
  obtain ⟨n, hn⟩ : ∃ n, n = s.1.length := ⟨_, rfl⟩
  rw [← hn] at hw1 HL hl
  have HP := Lib.hid (show WPS w0 w gp gr B fv (.slice ao b.length cap) fm b s by rw [nv_length] at h; exact h)
  rw [nv_length]
  obtain ⟨q, hq⟩ : ∃ q, q = b.length := ⟨_, rfl⟩
  rw [← hq] at hw1 HG c1 hb1 hbl hrun HP HF HT ⊢
  have HPR := Lib.hid (show w.cell? ⟨gp, 1, none⟩ = some (.slice ao q cap) ∧ w.cell? ⟨gp, 2, none⟩ = some (.pointer (some ⟨gr, 0, none⟩)) from ⟨c1, c2⟩)
  have HC0 := Lib.hid (Chg.refl [] w)
  clear hbb hsv hsub hk hsk hn hq h hl c0 c1 c2 hv hc hbad hs1 hs2 hA hB hcl hz hE
  go_enter Try.func81, Try.ntmps81
  go_upto_region 1 with fail
  go_region_held3 (fun w' => w'.cell? ⟨gp, 1, none⟩ = some (.slice ao q cap) ∧ w'.cell? ⟨gp, 2, none⟩ = some (.pointer (some ⟨gr, 0, none⟩))) (first | exact HPR.out | exact HPR3.out) (first
    | (go_at_call 108; (with_reducible refine (HL.out _ (by first | exact HC0.out | exact HC0.out.drew | exact HC0.out.drewN _)).mono ?_); rintro e wq ⟨rfl, rfl⟩)
    | (go_at_call 107; (with_reducible refine (HG.out _ (by first | exact HC0.out | exact HC0.out.drew | exact HC0.out.drewN _)).mono ?_); rintro e w1 ⟨rfl, hC⟩; have HC1 := Lib.hid (show Chg [] w w1 from by first | exact hC | exact HC0.out.drew.trans hC (by simp) | exact (HC0.out.drewN _).trans hC (by simp)); have HPR3 := Lib.hid (show w1.cell? ⟨gp, 1, none⟩ = some (.slice ao q cap) ∧ w1.cell? ⟨gp, 2, none⟩ = some (.pointer (some ⟨gr, 0, none⟩)) from ⟨HC1.out.cell HPR.out.1 (by simp), HC1.out.cell HPR.out.2 (by simp)⟩); clear hC))
  have HP1 := Lib.hid (HP.out.keep HC1.out (by simp))
  have c2 := HPR3.out.2
  clear hrun hw1
  go_wp2_with fail
  (with_reducible refine (HF.out _ HP1.out).mono ?_)
  rintro e w2 ⟨rfl, hP2, hC2⟩
  obtain ⟨-, -, k2⟩ := hP2.cells
  have HP2 := Lib.hid hP2; have HC2 := Lib.hid ((HC1.out.mono (T := [gr]) (by simp)).trans hC2 (by simp))
  clear hP2 hC2 c2
  go_wp2_with fail
  (with_reducible refine (HT.out _ HP2.out).mono ?_)
  rintro e w3 ⟨tao, tcap, rfl, -, hP3, hC3⟩
  obtain ⟨-, -, k3⟩ := hP3.cells
  have HP3 := Lib.hid hP3; have HC3 := Lib.hid (HC2.out.trans hC3 (by simp))
  clear hP3 hC3 k2
  by_cases hlt : most < v
  · have E := HE.out
    rw [if_pos hlt] at E
    have E := Lib.hid E
    have HFF := Lib.hid (psFail HP3.out er (HZ.out hlt) (by omega))
    have d1 : decide (most < v) = true := decide_eq_true hlt
    clear hlt
    go_wp2_with fail
    (with_reducible refine HFF.out.mono ?_)
    rintro e w4 ⟨rfl, hP4, hC4⟩
    have HP4 := Lib.hid hP4; have HC4 := Lib.hid (HC3.out.trans hC4 (by simp))
    clear hP4 hC4
    go_wp2
    go_ret
    rw [E.out]
    exact ⟨rfl, HP4.out, HC4.out⟩
  · have E := HE.out
    rw [if_neg hlt] at E
    have E := Lib.hid E
    have d1 : decide (most < v) = false := decide_eq_false hlt
    have hw : IntKind.i64.wrap (v : Int) = (v : Int) := IntWalk.i64_in _ (by omega)
    clear hlt
    go_wp2
    go_ret
    rw [E.out]
    exact ⟨rfl, HP3.out, HC3.out⟩

end Go.Proofs.Ythhcnlmjcpkbnaa
