/- Hc, Hd, He, Hf: texts of one group, one behind the other. -/
import Derived.Test.YtkbfbiklnjldgaaHA
import Derived.Test.YtkbfbiklnjldgaaC1
import Derived.Test.YtkbfbiklnjldgaaZi
import Derived.Test.YtkbfbiklnjldgaaV3
import Derived.Test.YtkbfbiklnjldgaaYC
namespace Go.Proofs.Ytkbfbiklnjldgaa
open Go.RowKit
set_option linter.unusedVariables false
set_option linter.unusedSimpArgs false

/-- What is left, and the error. -/
abbrev St := List Nat × Nat

/-- A number of n bytes. -/
def pNum (n : Nat) (s : St) : Nat × St := if s.1.length < n then (0, ([], if s.2 = 0 then 8 else s.2)) else (nm (s.1.take n), (s.1.drop n, s.2))
def pTruth (s : St) : Nat × St := if 1 < (pNum 1 s).1 then (0, ([], 10)) else pNum 1 s
def pCount (most e : Nat) (s : St) : Nat × St :=
  if s.2 ≠ 0 then (0, s) else if (gl 0 s.1).2 ≠ 0 then (0, ([], (gl 0 s.1).2)) else if most < gv s.1 then (0, ([], e)) else (gv s.1, (s.1.drop (gl 0 s.1).1, 0))

/-- How the parser stands. -/
structure WPS (w0 w : World) (gp gr B : Nat) (fv bv : Value) (fm b : List Nat) (s : St) : Prop where
  fs : Seen w0 fv (nv .i32 fm)
  bs : Seen w0 bv (nv .u8 b)
  by' : ∀ x ∈ b, x < 256
  bl : b.length ≤ 100000000
  c0 : Chg [] w0 w
  g0 : w0.heap.size ≤ gr
  g1 : w0.heap.size ≤ gp
  ne : gp ≠ gr
  lr : gr < B
  lp : gp < B
  lB : B ≤ w.heap.size
  bp : w.heap[gp]? = some (.cells #[fv, bv, .pointer (some ⟨gr, 0, none⟩)] 61 (0, 0))
  rd : Rd w gr (zi s.1) (s.2 : Nat) B
  ok : s.2 ≠ 0 → s.1 = []
  suf : ∃ k, k ≤ b.length ∧ s.1 = b.drop k

theorem WPS.len {w0 w : World} {gp gr B : Nat} {fv bv : Value} {fm b : List Nat} {s : St} (h : WPS w0 w gp gr B fv bv fm b s) : s.1.length ≤ 100000000 := by
  obtain ⟨k, hk, e⟩ := h.suf
  have := h.bl
  rw [e, List.length_drop]; omega

theorem WPS.bytes {w0 w : World} {gp gr B : Nat} {fv bv : Value} {fm b : List Nat} {s : St} (h : WPS w0 w gp gr B fv bv fm b s) : ∀ x ∈ s.1, x < 256 := by
  obtain ⟨k, hk, e⟩ := h.suf
  rw [e]
  exact fun x hx => h.by' x (List.mem_of_mem_drop hx)

/-- The reader went on. -/
theorem WPS.goOn {w0 w w' : World} {gp gr B : Nat} {fv bv : Value} {fm b : List Nat} {s s' : St} (h : WPS w0 w gp gr B fv bv fm b s) (hc : Chg [gr] w w') (hr : Rd w' gr (zi s'.1) (s'.2 : Nat) B) (ok : s'.2 ≠ 0 → s'.1 = []) (suf : s'.1 = [] ∨ ∃ k, k ≤ s.1.length ∧ s'.1 = s.1.drop k) : WPS w0 w' gp gr B fv bv fm b s' := by
  refine ⟨h.fs, h.bs, h.by', h.bl, h.c0.trans hc (by have := h.g0; simpa using this), h.g0, h.g1, h.ne, h.lr, h.lp, Nat.le_trans h.lB hc.size, hc.heap h.bp (by simpa using h.ne), hr, ok, ?_⟩
  rcases suf with e | ⟨k, hk, e⟩
  · exact ⟨b.length, Nat.le_refl _, by rw [e]; simp⟩
  · obtain ⟨j, hj, e2⟩ := h.suf
    have : s.1.length = b.length - j := by rw [e2, List.length_drop]
    exact ⟨j + k, by omega, by rw [e, e2, List.drop_drop]⟩

theorem WPS.keep {w0 w w' : World} {S : List Nat} {gp gr B : Nat} {fv bv : Value} {fm b : List Nat} {s : St} (h : WPS w0 w gp gr B fv bv fm b s) (hc : Chg S w w') (hS : ∀ g ∈ S, B ≤ g) : WPS w0 w' gp gr B fv bv fm b s := by
  have hb : ∀ {g : Nat}, g < B → g ∉ S := fun hg hm => by have := hS _ hm; omega
  obtain ⟨v, h1, h2, h3, h4⟩ := h.rd
  refine ⟨h.fs, h.bs, h.by', h.bl, h.c0.trans hc (fun t ht => .inr ?_), h.g0, h.g1, h.ne, h.lr, h.lp, Nat.le_trans h.lB hc.size, hc.heap h.bp (hb h.lp), ⟨v, hc.heap h1 (hb h.lr), h2.keep hc fun g hg => hb (h4 g hg), h3.keep hc fun g hg => hb (h4 g hg), h4⟩, h.ok, h.suf⟩
  have := hS t ht
  have := h.g0
  have := h.lr
  omega

theorem WPS.cells {w0 w : World} {gp gr B : Nat} {fv bv : Value} {fm b : List Nat} {s : St} (h : WPS w0 w gp gr B fv bv fm b s) : w.cell? ⟨gp, 0, none⟩ = some fv ∧ w.cell? ⟨gp, 1, none⟩ = some bv ∧ w.cell? ⟨gp, 2, none⟩ = some (.pointer (some ⟨gr, 0, none⟩)) := by
  have hb := h.bp
  exact ⟨by rw [cell_of_row w gp 0 _ _ _ hb]; rfl, by rw [cell_of_row w gp 1 _ _ _ hb]; rfl, by rw [cell_of_row w gp 2 _ _ _ hb]; rfl⟩

theorem widthOf_nat (n : Nat) (h : n ≤ 8) : widthOf (n : Int) = (n : Int) := by unfold widthOf; rw [if_neg (by omega)]

/-- Get, of the parser's reader. -/
theorem psGet {w0 w : World} {gp gr B : Nat} {fv bv : Value} {fm b : List Nat} {s : St} (h : WPS w0 w gp gr B fv bv fm b s) (n : Nat) (h1 : 1 ≤ n) (h8 : n ≤ 8) :
    Calls Try.prog 75 #[.pointer (some ⟨gr, 0, none⟩), .int .i64 (n : Int)] w fun x w' => x = .returned (.int .u64 ((pNum n s).1 : Nat)) ∧ WPS w0 w' gp gr B fv bv fm b (pNum n s).2 ∧ Chg [gr] w w' := by
  have hl := h.len
  by_cases hn : s.1.length < n
  · have e : pNum n s = (0, ([], if s.2 = 0 then 8 else s.2)) := by unfold pNum; rw [if_pos hn]
    rw [e]
    refine (get_no gr n (s.2 : Nat) w (zi s.1) (by rw [zi_length]; omega) h.rd (fun he => by rw [h.ok (by omega)]; rfl) (by rw [widthOf_nat n h8, zi_length]; omega)).mono ?_
    rintro x w' ⟨rfl, hc, hr⟩
    refine ⟨rfl, h.goOn hc ?_ (fun _ => rfl) (.inl rfl), hc⟩
    by_cases h0 : s.2 = 0
    · simp only [if_pos h0]
      rw [if_pos (by omega)] at hr
      exact hr
    · simp only [if_neg h0]
      rw [if_neg (by omega)] at hr
      exact hr
  · have e : pNum n s = (nm (s.1.take n), (s.1.drop n, s.2)) := by unfold pNum; rw [if_neg hn]
    rw [e]
    refine (get_yes gr n (s.2 : Nat) n w (zi s.1) (by rw [zi_length]; omega) (zi_wf h.bytes) h.rd (widthOf_nat n h8) (by rw [zi_length]; omega)).mono ?_
    rintro x w' ⟨rfl, hc, hr⟩
    rw [zi_take, num_zi]
    rw [zi_drop] at hr
    refine ⟨rfl, h.goOn hc hr (fun he => ?_) (.inr ⟨n, by omega, rfl⟩), hc⟩
    have := h.ok he
    rw [this] at hn
    simp at hn
    omega

/-- Fail, where there was no error. -/
theorem psFail {w0 w : World} {gp gr B : Nat} {fv bv : Value} {fm b : List Nat} {s : St} (h : WPS w0 w gp gr B fv bv fm b s) (e : Nat) (h0 : s.2 = 0) (he : e ≠ 0) :
    Calls Try.prog 50 #[.pointer (some ⟨gr, 0, none⟩), .int .i64 (e : Int)] w fun x w' => x = .returned (.tuple #[]) ∧ WPS w0 w' gp gr B fv bv fm b ([], e) ∧ Chg [gr] w w' := by
  refine (fail_set (M := B) gr (e : Int) w (zi s.1) (by have := h.rd; rw [h0] at this; exact this) (by omega)).mono ?_
  rintro x w' ⟨rfl, hc, hr⟩
  exact ⟨rfl, h.goOn hc (hr.mono (Nat.zero_le _)) (fun _ => rfl) (.inl rfl), hc⟩

theorem psFailNot {w0 w : World} {gp gr B : Nat} {fv bv : Value} {fm b : List Nat} {s : St} (h : WPS w0 w gp gr B fv bv fm b s) (e : Nat) (he : s.2 ≠ 0 ∨ e = 0) :
    Calls Try.prog 50 #[.pointer (some ⟨gr, 0, none⟩), .int .i64 (e : Int)] w fun x w' => x = .returned (.tuple #[]) ∧ w = w' :=
  fail_kept gr (s.2 : Nat) (e : Int) w (zi s.1) h.rd (by omega)

set_option maxRecDepth 100000 in
set_option maxHeartbeats 1000000 in
theorem failed_any {w0 w : World} {gp gr B : Nat} {fv bv : Value} {fm b : List Nat} {s : St} (h : WPS w0 w gp gr B fv bv fm b s) :
    Calls Try.prog 46 #[.pointer (some ⟨gp, 0, none⟩)] w fun x w' => x = .returned (.bool (decide (s.2 ≠ 0))) ∧ w = w' := by
  obtain ⟨c0, c1, c2⟩ := h.cells
  have hl := h.len
  have HL := Lib.hid (left_any gr (zi s.1) (s.2 : Nat) w (by rw [zi_length]; omega) h.rd)
  have HE := Lib.hid (end_any gr (zi s.1) (s.2 : Nat) w (by rw [zi_length]; omega) h.rd)
  have hok := h.ok
  clear h c0 c1
  by_cases h0 : s.1 = []
  · rw [h0] at HL HE
    have e1 : ((zi []).length : Int) = 0 := rfl
    have e2 : zi [] = [] := rfl
    rw [e1] at HL
    rw [if_pos e2] at HE
    clear e1 e2
    by_cases he : s.2 = 0
    · have E := Lib.hid (show decide (s.2 ≠ 0) = false by simpa using he)
      rw [he] at HE
      clear h0 he hok hl
      go_enter Try.func46, Try.ntmps46
      go_wp2_with (first
        | (go_at_call 49; (with_reducible refine HL.out.mono ?_); rintro e w1 ⟨rfl, rfl⟩)
        | (go_at_call 25; (with_reducible refine HE.out.mono ?_); rintro e w1 ⟨rfl, rfl⟩)
        | fail)
      go_ret
      exact ⟨by rw [E.out]; rfl, rfl⟩
    · have E := Lib.hid (show decide (s.2 ≠ 0) = true by simpa using he)
      have hb1 : ¬ ((s.2 : Int) = 0) := by omega
      have hb : ((s.2 : Int) != 0) = true := by simpa using hb1
      clear h0 he hok hl
      go_enter Try.func46, Try.ntmps46
      go_wp2_with (first
        | (go_at_call 49; (with_reducible refine HL.out.mono ?_); rintro e w1 ⟨rfl, rfl⟩)
        | (go_at_call 25; (with_reducible refine HE.out.mono ?_); rintro e w1 ⟨rfl, rfl⟩)
        | fail)
      go_ret
      exact ⟨by rw [E.out]; rfl, rfl⟩
  · have he : s.2 = 0 := by
      by_cases he : s.2 = 0
      · exact he
      · exact absurd (hok he) h0
    have E := Lib.hid (show decide (s.2 ≠ 0) = false by simpa using he)
    have hn : 1 ≤ (zi s.1).length := by
      rw [zi_length]
      rcases hs : s.1 with _ | ⟨a, t⟩
      · exact absurd hs h0
      · simp
    obtain ⟨n, hn2⟩ : ∃ n, n = (zi s.1).length := ⟨_, rfl⟩
    rw [← hn2] at HL hn
    have hb : ((n : Int) == 0) = false := by simp; omega
    clear h0 he hok hl HE hn2
    go_enter Try.func46, Try.ntmps46
    go_wp2_with (first
      | (go_at_call 49; (with_reducible refine HL.out.mono ?_); rintro e w1 ⟨rfl, rfl⟩)
      | fail)
    go_ret
    exact ⟨by rw [E.out]; rfl, rfl⟩

end Go.Proofs.Ytkbfbiklnjldgaa

namespace Go.Proofs.Ytkbfbiklnjldgaa
open Go.RowKit
set_option linter.unusedVariables false
set_option linter.unusedSimpArgs false

theorem pNum1_lt {s : St} (hb : ∀ x ∈ s.1, x < 256) : (pNum 1 s).1 < 256 := by
  unfold pNum
  split
  · show 0 < 256; decide
  · rcases hs : s.1 with _ | ⟨a, t⟩
    · rename_i h; rw [hs] at h; simp at h
    · have := hb a (by rw [hs]; simp)
      simp [nm]; omega
theorem pNum_ok {n : Nat} {s : St} (h : 1 < (pNum n s).1) (ok : s.2 ≠ 0 → s.1 = []) (hn : 1 ≤ n) : (pNum n s).2.2 = 0 := by
  unfold pNum at h ⊢
  split
  · rename_i hc; rw [if_pos hc] at h; simp at h
  · rename_i hc
    show s.2 = 0
    by_cases h0 : s.2 = 0
    · exact h0
    · rw [ok h0] at hc; simp at hc; omega

set_option maxRecDepth 100000 in
set_option maxHeartbeats 1000000 in
theorem truth_any {w0 w : World} {gp gr B : Nat} {fv bv : Value} {fm b : List Nat} {s : St} (h : WPS w0 w gp gr B fv bv fm b s) :
    Calls Try.prog 74 #[.pointer (some ⟨gp, 0, none⟩)] w fun x w' => x = .returned (.int .i64 ((pTruth s).1 : Nat)) ∧ WPS w0 w' gp gr B fv bv fm b (pTruth s).2 ∧ Chg [gr] w w' := by
  obtain ⟨c0, c1, c2⟩ := h.cells
  have HG := Lib.hid (psGet h 1 (by decide) (by decide))
  have hlt := pNum1_lt h.bytes
  have HN := Lib.hid (fun h1 => pNum_ok (n := 1) h1 h.ok (by decide))
  have hne := Lib.hid h.ne
  obtain ⟨v, hv⟩ : ∃ v, v = (pNum 1 s).1 := ⟨_, rfl⟩
  rw [← hv] at HG HN hlt
  rw [show ((1 : Nat) : Int) = 1 from rfl] at HG
  clear h c0 c1
  by_cases h1 : 1 < v
  · have E := Lib.hid (show pTruth s = (0, ([], 10)) by unfold pTruth; rw [if_pos (by rw [← hv]; exact h1)])
    have h0 := Lib.hid (HN.out h1)
    have d1 : decide ((1 : Int) < (v : Int)) = true := by simp; omega
    clear h1 hv HN
    go_enter Try.func74, Try.ntmps74
    go_wp2_with fail
    (with_reducible refine HG.out.mono ?_)
    rintro e w1 ⟨rfl, hP, hC⟩
    have HF := Lib.hid (psFail hP 10 h0.out (by decide))
    obtain ⟨-, -, k2⟩ := hP.cells
    have HC := Lib.hid hC
    clear hP hC
    rw [show ((10 : Nat) : Int) = 10 from rfl] at HF
    go_wp2_with fail
    (with_reducible refine HF.out.mono ?_)
    rintro e w2 ⟨rfl, hP2, hC2⟩
    have HP2 := Lib.hid hP2
    have HC2 := Lib.hid (HC.out.trans hC2 (by simp))
    clear hP2 hC2
    go_wp2
    go_ret
    rw [E.out]
    exact ⟨rfl, HP2.out, HC2.out⟩
  · have E := Lib.hid (show pTruth s = pNum 1 s by unfold pTruth; rw [if_neg (by rw [← hv]; exact h1)])
    have d1 : decide ((1 : Int) < (v : Int)) = false := by simp; omega
    have hw : IntKind.i64.wrap (v : Int) = (v : Int) := IntWalk.i64_in _ (by omega)
    have HV := Lib.hid hv
    clear h1 hv HN
    go_enter Try.func74, Try.ntmps74
    go_wp2_with fail
    (with_reducible refine HG.out.mono ?_)
    rintro e w1 ⟨rfl, hP, hC⟩
    have HP := Lib.hid hP
    have HC := Lib.hid hC
    clear hP hC
    go_wp2
    go_ret
    rw [E.out, ← HV.out]
    exact ⟨rfl, HP.out, HC.out⟩

theorem pTruth_le (s : St) : (pTruth s).1 ≤ 1 := by
  unfold pTruth
  split
  · exact Nat.zero_le _
  · omega

/-- Take, of the parser's reader. -/
theorem psTake {w0 w : World} {gp gr B : Nat} {fv bv : Value} {fm b : List Nat} {s : St} (h : WPS w0 w gp gr B fv bv fm b s) (n : Nat) (hn : n ≤ s.1.length) :
    Calls Try.prog 51 #[.pointer (some ⟨gr, 0, none⟩), .int .i64 (n : Int)] w fun x w' => ∃ ao cap, x = .returned (.slice ao n cap) ∧ w'.ownsRow w.heap.size 5 1 (.slice ao n cap) n (nv .u8 (s.1.take n)) ∧ WPS w0 w' gp gr B fv bv fm b (s.1.drop n, s.2) ∧ Chg [gr] w w' := by
  have hl := h.len
  refine (rtake_any gr n (n : Int) (s.2 : Nat) w (zi s.1) (by rw [zi_length]; omega) h.rd (by omega) (by rw [zi_length]; exact hn)).mono ?_
  rintro x w' ⟨v, rfl, hc, hr, ho⟩
  obtain ⟨ao, cap, rfl⟩ := own_shape ho
  rw [zi_take, bys_zi] at ho
  rw [zi_drop] at hr
  refine ⟨ao, cap, rfl, ho, h.goOn hc hr (fun he => ?_) (.inr ⟨n, hn, rfl⟩), hc⟩
  have := h.ok he
  show s.1.drop n = []
  rw [this]
  simp

set_option maxRecDepth 100000 in
set_option maxHeartbeats 1000000 in
theorem count_any9 {w0 w : World} {gp gr B : Nat} {fv bv : Value} {fm b : List Nat} {s : St} (most er : Nat) (hm : most < 1000) (her : 1 ≤ er ∧ er < 1000) (h : WPS w0 w gp gr B fv bv fm b s) :
    Calls Try.prog 24 #[.pointer (some ⟨gp, 0, none⟩), .int .u64 (most : Int), .int .i64 (er : Int)] w fun x w' => x = .returned (.int .i64 ((pCount most er s).1 : Nat)) ∧ WPS w0 w' gp gr B fv bv fm b (pCount most er s).2 ∧ Chg [gr] w w' := by
  obtain ⟨c0, c1, c2⟩ := h.cells
  have hl := h.len
  have HL := Lib.hid (show ∀ wx, Chg [] w wx → Calls Try.prog 49 #[.pointer (some ⟨gr, 0, none⟩)] wx fun x w' => x = .returned (.int .i64 (s.1.length : Int)) ∧ wx = w' from fun wx hk => by
    have := left_any gr (zi s.1) (s.2 : Nat) wx (by rw [zi_length]; omega) (h.rd.keep0 hk)
    rw [zi_length] at this
    exact this)
  have hbb := h.bs.keep h.c0
  obtain ⟨ao, cap, rfl, hb1, hb2⟩ := hbb.shape
  rw [nv_length] at hbb c1 hb1
  have hbl := h.bl
  have hpos : ∃ k, k + s.1.length = b.length ∧ s.1 = b.drop k := by
    obtain ⟨k, hk, e⟩ := h.suf
    exact ⟨k, by rw [e, List.length_drop]; omega, e⟩
  obtain ⟨k, hk, hsk⟩ := hpos
  obtain ⟨ao', cap', hsv, hrun⟩ := run_back hbb rfl (by omega) k (by omega)
  rw [← hsk] at hsv
  have hsub : (b.length : Int) - (s.1.length : Int) = (k : Int) := by omega
  obtain ⟨v, hv⟩ : ∃ v, v = gv s.1 := ⟨_, rfl⟩
  obtain ⟨c, hc⟩ : ∃ c, c = (gl 0 s.1).1 := ⟨_, rfl⟩
  obtain ⟨bad, hbad⟩ : ∃ bad, bad = (gl 0 s.1).2 := ⟨_, rfl⟩
  have HG := Lib.hid (show ∀ wx, Chg [] w wx → Calls Try.prog 48 #[.slice ao' (b.length - k) cap'] wx fun e w' => e = .returned (.tuple #[.int .u64 (v : Int), .int .i64 (c : Int), .int .i64 (bad : Int)]) ∧ Chg [] wx w' from fun wx hk => by
    rw [hv, hc, hbad]
    exact get_any _ s.1 wx (hsv.keep hk) (fun x hx => h.bytes x hx))
  have hw1 : IntKind.i64.wrap ((b.length : Int) - (s.1.length : Int)) = (k : Int) := by rw [hsub]; exact IntWalk.i64_in _ (by omega)
  -- what Fail leaves
  obtain ⟨s1, hs1⟩ : ∃ s1 : St, s1 = if s.2 ≠ 0 then s else if bad ≠ 0 then ([], bad) else s := ⟨_, rfl⟩
  have hA : s.2 ≠ 0 → bad = 8 ∧ c = 0 ∧ v = 0 := fun h0 => by
    have e := h.ok h0
    rw [hv, hc, hbad, e]
    exact ⟨rfl, rfl, rfl⟩
  have hB : bad ≠ 0 → c = 0 ∧ v = 0 := fun h0 => by
    refine ⟨by rw [hc]; exact gl_zero 0 s.1 (by rw [← hbad]; exact h0), ?_⟩
    rw [hv]; unfold gv; rw [if_neg (by rw [← hbad]; exact h0)]
  have hcl : c ≤ s1.1.length := by
    rw [hs1]
    by_cases h0 : s.2 ≠ 0
    · rw [if_pos h0, (hA h0).2.1]; exact Nat.zero_le _
    · rw [if_neg h0]
      by_cases hb : bad ≠ 0
      · rw [(hB hb).1]; exact Nat.zero_le _
      · rw [if_neg hb, hc]
        exact (gl_len 0 s.1 (by omega) (by rw [← hbad]; omega)).2.1
  have HF := Lib.hid (show ∀ wx, WPS w0 wx gp gr B fv (.slice ao b.length cap) fm b s → Calls Try.prog 50 #[.pointer (some ⟨gr, 0, none⟩), .int .i64 (bad : Int)] wx fun x w' => x = .returned (.tuple #[]) ∧ WPS w0 w' gp gr B fv (.slice ao b.length cap) fm b s1 ∧ Chg [gr] wx w' from fun wx hp => by
    by_cases h0 : s.2 ≠ 0
    · refine (psFailNot hp bad (.inl h0)).mono ?_
      rintro x w' ⟨rfl, rfl⟩
      rw [hs1, if_pos h0]
      exact ⟨rfl, hp, Chg.refl _ _⟩
    · by_cases hb : bad ≠ 0
      · rw [hs1, if_neg h0, if_pos hb]
        exact psFail hp bad (by omega) hb
      · refine (psFailNot hp bad (.inr (by omega))).mono ?_
        rintro x w' ⟨rfl, rfl⟩
        rw [hs1, if_neg h0, if_neg hb]
        exact ⟨rfl, hp, Chg.refl _ _⟩)
  have HT := Lib.hid (fun wx (hp : WPS w0 wx gp gr B fv (.slice ao b.length cap) fm b s1) => psTake hp c hcl)
  obtain ⟨s2, hs2⟩ : ∃ s2 : St, s2 = (s1.1.drop c, s1.2) := ⟨_, rfl⟩
  rw [← hs2] at HT
  have hz : most < v → s2.2 = 0 := fun hlt => by
    have hb : ¬ bad ≠ 0 := fun hb => by have := (hB hb).2; omega
    have h0 : ¬ s.2 ≠ 0 := fun h0 => by have := (hA h0).2.2; omega
    rw [hs2, hs1, if_neg h0, if_neg hb]
    show s.2 = 0
    omega
  have hE : pCount most er s = if most < v then (0, ([], er)) else (v, s2) := by
    unfold pCount
    rw [← hv, ← hc, ← hbad, hs2, hs1]
    by_cases h0 : s.2 ≠ 0
    · obtain ⟨e1, e2, e3⟩ := hA h0
      rw [if_pos h0, if_pos h0, e3, if_neg (by omega), e2]
      rfl
    · rw [if_neg h0, if_neg h0]
      by_cases hb : bad ≠ 0
      · obtain ⟨e2, e3⟩ := hB hb
        rw [if_pos hb, if_pos hb, e3, if_neg (by omega), e2]
        rfl
      · rw [if_neg hb, if_neg hb]
        have : s.2 = 0 := by omega
        rw [this]
  have HZ := Lib.hid hz; have HE := Lib.hid hE
  obtain ⟨n, hn⟩ : ∃ n, n = s.1.length := ⟨_, rfl⟩
  rw [← hn] at hw1 HL hl
  have HP := Lib.hid (show WPS w0 w gp gr B fv (.slice ao b.length cap) fm b s by rw [nv_length] at h; exact h)
  rw [nv_length]
  obtain ⟨q, hq⟩ : ∃ q, q = b.length := ⟨_, rfl⟩
  rw [← hq] at hw1 HG c1 hb1 hbl hrun HP HF HT ⊢
  have HPR := Lib.hid (show w.cell? ⟨gp, 1, none⟩ = some (.slice ao q cap) ∧ w.cell? ⟨gp, 2, none⟩ = some (.pointer (some ⟨gr, 0, none⟩)) from ⟨c1, c2⟩)
  have HC0 := Lib.hid (Chg.refl [] w)
  clear hbb hsv hsub hk hsk hn hq h hl c0 c1 c2 hv hc hbad hs1 hs2 hA hB hcl hz hE
  go_enter Try.func24, Try.ntmps24
  go_upto_region 1 with fail
  go_region_held3 (fun w' => w'.cell? ⟨gp, 1, none⟩ = some (.slice ao q cap) ∧ w'.cell? ⟨gp, 2, none⟩ = some (.pointer (some ⟨gr, 0, none⟩))) (first | exact HPR.out | exact HPR3.out) (first
    | (go_at_call 49; (with_reducible refine (HL.out _ (by first | exact HC0.out | exact HC0.out.drew | exact HC0.out.drewN _)).mono ?_); rintro e wq ⟨rfl, rfl⟩)
    | (go_at_call 48; (with_reducible refine (HG.out _ (by first | exact HC0.out | exact HC0.out.drew | exact HC0.out.drewN _)).mono ?_); rintro e w1 ⟨rfl, hC⟩; have HC1 := Lib.hid (show Chg [] w w1 from by first | exact hC | exact HC0.out.drew.trans hC (by simp) | exact (HC0.out.drewN _).trans hC (by simp)); have HPR3 := Lib.hid (show w1.cell? ⟨gp, 1, none⟩ = some (.slice ao q cap) ∧ w1.cell? ⟨gp, 2, none⟩ = some (.pointer (some ⟨gr, 0, none⟩)) from ⟨HC1.out.cell HPR.out.1 (by simp), HC1.out.cell HPR.out.2 (by simp)⟩); clear hC))
  have HP1 := Lib.hid (HP.out.keep HC1.out (by simp))
  have c2 := HPR3.out.2
  clear hrun hw1
  go_wp2_with fail
  (with_reducible refine (HF.out _ HP1.out).mono ?_)
  rintro e w2 ⟨rfl, hP2, hC2⟩
  obtain ⟨-, -, k2⟩ := hP2.cells
  have HP2 := Lib.hid hP2; have HC2 := Lib.hid ((HC1.out.mono (T := [gr]) (by simp)).trans hC2 (by simp))
  clear hP2 hC2 c2
  go_wp2_with fail
  (with_reducible refine (HT.out _ HP2.out).mono ?_)
  rintro e w3 ⟨tao, tcap, rfl, -, hP3, hC3⟩
  obtain ⟨-, -, k3⟩ := hP3.cells
  have HP3 := Lib.hid hP3; have HC3 := Lib.hid (HC2.out.trans hC3 (by simp))
  clear hP3 hC3 k2
  by_cases hlt : most < v
  · have E := HE.out
    rw [if_pos hlt] at E
    have E := Lib.hid E
    have HFF := Lib.hid (psFail HP3.out er (HZ.out hlt) (by omega))
    have d1 : decide (most < v) = true := decide_eq_true hlt
    clear hlt
    go_wp2_with fail
    (with_reducible refine HFF.out.mono ?_)
    rintro e w4 ⟨rfl, hP4, hC4⟩
    have HP4 := Lib.hid hP4; have HC4 := Lib.hid (HC3.out.trans hC4 (by simp))
    clear hP4 hC4
    go_wp2
    go_ret
    rw [E.out]
    exact ⟨rfl, HP4.out, HC4.out⟩
  · have E := HE.out
    rw [if_neg hlt] at E
    have E := Lib.hid E
    have d1 : decide (most < v) = false := decide_eq_false hlt
    have hw : IntKind.i64.wrap (v : Int) = (v : Int) := IntWalk.i64_in _ (by omega)
    clear hlt
    go_wp2
    go_ret
    rw [E.out]
    exact ⟨rfl, HP3.out, HC3.out⟩

end Go.Proofs.Ytkbfbiklnjldgaa

namespace Go.Proofs.Ytkbfbiklnjldgaa
open Go.RowKit
set_option linter.unusedVariables false
set_option linter.unusedSimpArgs false

/-- So many values, up to an error. -/
def pVals (g : St → Tr × St) : Nat → St → List Tr × St
  | 0, s => ([], s)
  | n + 1, s => if s.2 ≠ 0 then ([], s) else ((g s).1 :: (pVals g n (g s).2).1, (pVals g n (g s).2).2)

theorem pVals_len (g : St → Tr × St) : ∀ n s, (pVals g n s).1.length ≤ n
  | 0, s => Nat.le_refl _
  | n + 1, s => by
    unfold pVals
    split
    · exact Nat.zero_le _
    · have := pVals_len g n (g s).2
      simpa using this

/-- What is asked of value, at a place. -/
def VC (w0 : World) (gp gr B : Nat) (fv bv : Value) (fm b : List Nat) (d at0 : Nat) (g : St → Tr × St) : Prop :=
  ∀ (w : World) (s : St), WPS w0 w gp gr B fv bv fm b s → Calls Try.prog 47 #[.pointer (some ⟨gp, 0, none⟩), .int .i64 (at0 : Int)] w fun e w' =>
    ∃ kv, e = .returned (.agg #[.int .i64 (g s).1.n, .string (g s).1.s, kv]) ∧ KidsIn (w.heap.size ≤ ·) w' d (g s).1.k kv ∧ WPS w0 w' gp gr B fv bv fm b (g s).2 ∧ Chg [gr] w w'

/-- A row of trees grows. -/
theorem grow_trees {W d gr : Nat} {wx w4 w5 : World} {E : List (Tr × Value)} {lv kv4 v5 : Value} {t : Tr} {o : Obj}
    (how : wx.ownsRow W 44 3 lv E.length (E.flatMap encT)) (hli : ∀ q ∈ E, KidsIn (fun g => W ≤ g ∧ lv.ownBlock ≠ some g) wx d q.1.k q.2) (hW : W ≤ wx.heap.size) (hgr : gr < W)
    (hk4 : KidsIn (wx.heap.size ≤ ·) w4 d t.k kv4) (hc4 : Chg [gr] wx w4)
    (hown5 : w5.ownsRow W 44 3 v5 (E.length + 1) (E.flatMap encT ++ encT (t, kv4))) (hg5 : (w4.alloc o).grownBy w5 lv.ownBlock) (hat5 : v5.ownBlock = lv.ownBlock ∨ v5.ownBlock = some (w4.alloc o).heap.size) :
    w5.ownsRow W 44 3 v5 (E ++ [(t, kv4)]).length ((E ++ [(t, kv4)]).flatMap encT) ∧ (∀ q ∈ E ++ [(t, kv4)], KidsIn (fun g => W ≤ g ∧ v5.ownBlock ≠ some g) w5 d q.1.k q.2) ∧ Chg lv.ownBlock.toList w4 w5 ∧ ∀ g ∈ lv.ownBlock.toList, W ≤ g := by
  have hlB : ∀ g, lv.ownBlock = some g → W ≤ g ∧ g < wx.heap.size := fun g hg => ⟨own_ge how g hg, own_lt how g hg⟩
  have hcW : Chg lv.ownBlock.toList w4 w5 := ((Chg.refl _ w4).alloc o).grown hg5 (fun q hq => .inl (by simp [hq]))
  have hsz4 := hc4.size
  have hfin : ∀ {k : List (List Tr)} {v : Value}, KidsIn (fun g => W ≤ g ∧ lv.ownBlock ≠ some g) w4 d k v → KidsIn (fun g => W ≤ g ∧ v5.ownBlock ≠ some g) w5 d k v := fun hk => by
    have h1 := hk.lt
    have h2 := h1.keep hcW (fun g hg hm => by simp at hm; exact hg.1.2 hm)
    refine h2.mono (fun g hg => ⟨hg.1.1, fun e => ?_⟩) (Nat.le_refl _)
    rcases hat5 with h3 | h3
    · rw [h3] at e; exact hg.1.2 e
    · rw [h3] at e
      injection e with e
      have : (w4.alloc o).heap.size = w4.heap.size + 1 := by simp
      have := hg.2
      omega
  refine ⟨?_, fun q hq => ?_, hcW, fun g hg => by simp at hg; exact (hlB g hg).1⟩
  · rw [List.length_append, List.flatMap_append]
    simpa using hown5
  · rcases List.mem_append.1 hq with hq | hq
    · refine hfin ((hli q hq).keep hc4 fun g hg hm => ?_)
      simp at hm
      omega
    · simp at hq
      subst hq
      refine hfin (hk4.mono (fun g hg => ⟨Nat.le_trans hW hg, fun e => ?_⟩) (Nat.le_refl _))
      have := (hlB g e).2
      omega

/-- How values stands. -/
structure VLJ (w0 w wi : World) (gp gr B : Nat) (fv bv : Value) (fm b : List Nat) (d n : Nat) (g : St → Tr × St) (s s1 : St) (E : List (Tr × Value)) (lv : Value) : Prop where
  ow : wi.ownsRow w.heap.size 44 3 lv E.length (E.flatMap encT)
  li : ∀ q ∈ E, KidsIn (fun x => w.heap.size ≤ x ∧ lv.ownBlock ≠ some x) wi d q.1.k q.2
  ps : WPS w0 wi gp gr B fv bv fm b s1
  cg : Chg [gr] w wi
  le : E.length ≤ n
  eq : pVals g n s = (E.map (·.1) ++ (pVals g (n - E.length) s1).1, (pVals g (n - E.length) s1).2)

set_option maxRecDepth 100000 in
set_option maxHeartbeats 2000000 in
theorem values_any9 {w0 : World} {gp gr B : Nat} {fv bv : Value} {fm b : List Nat} {d at0 : Nat} {g : St → Tr × St} (hV : VC w0 gp gr B fv bv fm b d at0 g) (w : World) (s : St) (n : Nat) (hn : n ≤ 1000) (hP : WPS w0 w gp gr B fv bv fm b s) :
    Calls Try.prog 23 #[.pointer (some ⟨gp, 0, none⟩), .int .i64 (at0 : Int), .int .i64 (n : Int)] w fun e w' =>
      ∃ lv, e = .returned lv ∧ ListIn (w.heap.size ≤ ·) w' d (pVals g n s).1 lv ∧ WPS w0 w' gp gr B fv bv fm b (pVals g n s).2 ∧ Chg [gr] w w' := by
  obtain ⟨i0, hi, hz0, hz1, hz2⟩ := info_tree
  have HV := Lib.hid hV; have HP := Lib.hid hP
  have hgr : gr < w.heap.size := Nat.lt_of_lt_of_le hP.lr hP.lB
  have hBw := hP.lB
  clear hV hP
  go_enter Try.func23, Try.ntmps23
  go_wp2_with fail
  refine wp_scope_head 0 (fun a' w' => ∃ (s1 : St) (E : List (Tr × Value)) (lv : Value) (u7 u8 u9 u10 u11 u12 u13 u14 u15 u16 u17 u18 u19 u20 u21 : Value), a' = { tmps := #[.pointer (some ⟨gp, 0, none⟩), .int .i64 (at0 : Int), .int .i64 (n : Int), undef, undef, undef, lv, u7, u8, u9, u10, u11, u12, u13, u14, u15, u16, u17, u18, u19, u20, u21], defers := [] } ∧ VLJ w0 w w' gp gr B fv bv fm b d n g s s1 E lv) (fun a' _ => n - slen (a'.tmps.getD 6 undef)) rfl ?_ ?_
  · exact ⟨s, [], _, _, _, _, _, _, _, _, _, _, _, _, _, _, _, _, rfl, ⟨⟨rfl, .inl ⟨rfl, rfl⟩⟩, by simp, HP.out, Chg.refl _ _, Nat.zero_le _, by simp⟩⟩
  rintro a' wi ⟨s1, E, lv, u7, u8, u9, u10, u11, u12, u13, u14, u15, u16, u17, u18, u19, u20, u21, rfl, hJ⟩
  obtain ⟨la, lc, rfl⟩ := own_shape hJ.ow
  obtain ⟨m, hm⟩ : ∃ m, m = E.length := ⟨_, rfl⟩
  have hle := hJ.le
  have HOW := Lib.hid hJ.ow
  have HF := Lib.hid (failed_any hJ.ps)
  have HVC := Lib.hid (HV.out wi s1 hJ.ps)
  have hwi : w.heap.size ≤ wi.heap.size := hJ.cg.size
  rw [← hm] at hle HOW hJ ⊢
  have HJ := Lib.hid hJ; have HM := Lib.hid hm
  clear hJ hm
  by_cases hmn : m = n
  · have E1 := Lib.hid (show pVals g n s = (E.map (·.1), s1) by
      have := HJ.out.eq
      rw [← HM.out, hmn, Nat.sub_self] at this
      rw [this]; simp [pVals])
    subst hmn
    have d1 : ((m : Int) == (m : Int)) = true := by simp
    go_wp2
    simp only [Exit.jump]
    go_ret
    rw [E1.out]
    refine ⟨_, rfl, ?_, HJ.out.ps, HJ.out.cg⟩
    exact listIn_own HOW.out HM.out.symm (fun g hg => hg) fun q hq => (HJ.out.li q hq).mono (fun g hg => hg.1) (Nat.le_refl _)
  have d1 : ((m : Int) == (n : Int)) = false := by simp; omega
  by_cases he : s1.2 ≠ 0
  · have E1 := Lib.hid (show pVals g n s = (E.map (·.1), s1) by
      have := HJ.out.eq
      rw [← HM.out, show n - m = (n - m - 1) + 1 by omega, pVals, if_pos he] at this
      rw [this]; simp)
    have d2 : decide (s1.2 ≠ 0) = true := decide_eq_true he
    rw [d2] at HF
    clear he
    go_wp2_with (first
      | (go_at_call 46; (with_reducible refine HF.out.mono ?_); rintro e wq ⟨rfl, rfl⟩)
      | fail)
    simp only [Exit.jump]
    go_ret
    rw [E1.out]
    refine ⟨_, rfl, ?_, HJ.out.ps, HJ.out.cg⟩
    exact listIn_own HOW.out HM.out.symm (fun g hg => hg) fun q hq => (HJ.out.li q hq).mono (fun g hg => hg.1) (Nat.le_refl _)
  · have E1 := Lib.hid (show pVals g n s = (E.map (·.1) ++ ((g s1).1 :: (pVals g (n - (m + 1)) (g s1).2).1), (pVals g (n - (m + 1)) (g s1).2).2) by
      have := HJ.out.eq
      rw [← HM.out, show n - m = (n - (m + 1)) + 1 by omega, pVals, if_neg he] at this
      exact this)
    have d2 : decide (s1.2 ≠ 0) = false := decide_eq_false he
    rw [d2] at HF
    obtain ⟨t4, ht4⟩ : ∃ t, t = (g s1).1 := ⟨_, rfl⟩
    obtain ⟨s4, hs4⟩ : ∃ t, t = (g s1).2 := ⟨_, rfl⟩
    rw [← ht4, ← hs4] at HVC E1
    clear he ht4 hs4
    go_wp2_with (first
      | (go_at_call 46; (with_reducible refine HF.out.mono ?_); rintro e wq ⟨rfl, rfl⟩)
      | (go_at_call 47; (with_reducible refine HVC.out.mono ?_); rintro e w4 ⟨kv4, rfl, hk4, hp4, hc4⟩; obtain ⟨ko4, kc4, rfl, -, -⟩ := hk4.shape; have HO4 := Lib.hid (own_chg HOW.out hc4 (fun g hg hm => by simp at hm; have := own_ge HOW.out g hg; omega)); have HZ4 := Lib.hid (Nat.le_trans hwi hc4.size); have HK4 := Lib.hid hk4; have HP4 := Lib.hid hp4; have HC4 := Lib.hid hc4; clear hk4 hp4 hc4)
      | (at_builtin; refine wpList_append_at _ rfl (.tmp 16) (.tmp 20) _ rfl w.heap.size 44 i0 (.agg #[.int .i64 0, .string ByteArray.empty, .slice none 0 0]) 3 48 Try.underlying28 hi hz0 hz1 hz2 rfl (by decide) (.slice la m lc) m (E.flatMap encT) rfl (HO4.out.alloc _) ⟨w4.heap.size, 0, none⟩ 1 1 (encT (t4, .slice ko4 t4.k.length kc4)) rfl rfl (new_cells (C := #[.int .i64 t4.n, .string t4.s, .slice ko4 t4.k.length kc4]) _ rfl) (encT_one _ rfl) (by unfold maxLen; omega) (by omega) (le_alloc HZ4.out _) ?_; intro v5 w5 hown5 hg5 hat5; obtain ⟨la5, lc5, rfl⟩ := own_shape hown5; have HO5 := Lib.hid hown5; have HG5 := Lib.hid hg5; have HA5 := Lib.hid hat5; clear hown5 hg5 hat5)
      | fail)
    go_step3
    obtain ⟨a1, a2, a3, a4⟩ := grow_trees (lv := .slice la m lc) (E := E) (by rw [← HM.out]; exact HOW.out) HJ.out.li hwi hgr HK4.out HC4.out (by rw [← HM.out]; exact HO5.out) HG5.out HA5.out
    refine ⟨rfl, ⟨s4, _, _, _, _, _, _, _, _, _, _, _, _, _, _, _, _, _, rfl, ⟨?_, a2, HP4.out.keep a3 (fun g hg => Nat.le_trans hBw (a4 g hg)), (HJ.out.cg.trans HC4.out (by simp)).trans a3 (fun t ht => .inr (a4 t ht)), ?_, ?_⟩⟩, ?_⟩
    · exact a1
    · rw [List.length_append, ← HM.out]; simp; omega
    · rw [E1.out, List.length_append, ← HM.out]
      simp
    · show n - (m + 1) < n - m
      omega

end Go.Proofs.Ytkbfbiklnjldgaa

namespace Go.Proofs.Ytkbfbiklnjldgaa
open Go.RowKit
set_option linter.unusedVariables false
set_option linter.unusedSimpArgs false

/-- So many bytes. -/
def pTake (n : Nat) (s : St) : List Nat × St := if s.1.length < n then ([], ([], if s.2 = 0 then 8 else s.2)) else (s.1.take n, (s.1.drop n, s.2))

/-- A leaf's value. -/
def pLeaf (k : Int) (s : St) : Tr × St :=
  if k = 1 then (.mk (pTruth s).1 ByteArray.empty [], (pTruth s).2)
  else if k = 2 then (.mk (Go.RowKit.wrap32 (pNum 4 s).1) ByteArray.empty [], (pNum 4 s).2)
  else if k = 3 then (.mk (wrap64 (pNum 8 s).1) ByteArray.empty [], (pNum 8 s).2)
  else (.mk 0 (str (pTake (pCount 100 5 s).1 (pCount 100 5 s).2).1) [], (pTake (pCount 100 5 s).1 (pCount 100 5 s).2).2)

theorem WPS.sign {w0 w : World} {gp gr B : Nat} {ao : Option Addr} {n cap : Nat} {bv : Value} {fm b : List Nat} {s : St} (h : WPS w0 w gp gr B (.slice ao n cap) bv fm b s) (hn : n = fm.length) {at0 : Nat} (hat : at0 < n) : ∃ g off, ao = some ⟨g, off, none⟩ ∧ ∀ w', Chg [gr] w w' → ∀ j, j < n → w'.cell? ⟨g, off + j, none⟩ = some (.int .i32 ((fm.getD j 0 : Nat) : Int)) := by
  obtain ⟨g, off, rfl, hx⟩ := h.fs.at0 hn.symm (by omega)
  refine ⟨g, off, rfl, fun w' hc j hj => ?_⟩
  have hg : g < w0.heap.size := World.block_lt_of_cell? w0 _ (hx j hj)
  exact (h.c0.trans hc (by have := h.g0; simpa using this)).cell (hx j hj) (by simp)

theorem psTakeAny {w0 w : World} {gp gr B : Nat} {fv bv : Value} {fm b : List Nat} {s : St} (h : WPS w0 w gp gr B fv bv fm b s) (n : Nat) :
    Calls Try.prog 51 #[.pointer (some ⟨gr, 0, none⟩), .int .i64 (n : Int)] w fun x w' => ∃ ao m cap, x = .returned (.slice ao m cap) ∧ m = (pTake n s).1.length ∧ Seen w' (.slice ao m cap) (nv .u8 (pTake n s).1) ∧ WPS w0 w' gp gr B fv bv fm b (pTake n s).2 ∧ Chg [gr] w w' := by
  have hl := h.len
  by_cases hn : s.1.length < n
  · have e : pTake n s = ([], ([], if s.2 = 0 then 8 else s.2)) := by unfold pTake; rw [if_pos hn]
    rw [e]
    refine (take_no gr (n : Int) (s.2 : Nat) w (zi s.1) (by rw [zi_length]; omega) h.rd (fun he => by rw [h.ok (by omega)]; rfl) (by rw [zi_length]; omega)).mono ?_
    rintro x w' ⟨rfl, hc, hr⟩
    refine ⟨none, 0, 0, rfl, rfl, Seen.nil w', h.goOn hc ?_ (fun _ => rfl) (.inl rfl), hc⟩
    by_cases h0 : s.2 = 0
    · simp only [if_pos h0]
      rw [if_pos (by omega)] at hr
      exact hr
    · simp only [if_neg h0]
      rw [if_neg (by omega)] at hr
      exact hr
  · have e : pTake n s = (s.1.take n, (s.1.drop n, s.2)) := by unfold pTake; rw [if_neg hn]
    rw [e]
    refine (psTake h n (by omega)).mono ?_
    rintro x w' ⟨ao, cap, rfl, ho, hp, hc⟩
    have hm : (s.1.take n).length = n := by rw [List.length_take]; omega
    exact ⟨ao, n, cap, rfl, hm.symm, (reads_of_own ho).seen, hp, hc⟩

theorem w32_in (x : Int) : Go.RowKit.wrap64 (Go.RowKit.wrap32 x) = Go.RowKit.wrap32 x := by unfold Go.RowKit.wrap32 Go.RowKit.wrap64; omega

theorem pTake_bytes {s : St} (h : ∀ x ∈ s.1, x < 256) (n : Nat) : ∀ x ∈ (pTake n s).1, x < 2 ^ 8 := by
  unfold pTake
  split
  · simp
  · exact fun x hx => h x (List.mem_of_mem_take hx)

/-- How value stands behind its allocation. -/
theorem WPS.alloc {w0 w : World} {gp gr B : Nat} {fv bv : Value} {fm b : List Nat} {s : St} (h : WPS w0 w gp gr B fv bv fm b s) (o : Obj) : WPS w0 (w.alloc o) gp gr B fv bv fm b s := h.keep ((Chg.refl [] w).alloc o) (by simp)

set_option maxRecDepth 100000 in
set_option maxHeartbeats 4000000 in
theorem value_leaf9_1 {w0 : World} {gp gr B : Nat} {fv bv : Value} {fm b : List Nat} {d at0 : Nat} (hat : at0 < fm.length) (hfm : fm.length ≤ 100000) (hs : fm.getD at0 0 = kd 1) : VC w0 gp gr B fv bv fm b (d + 1) at0 (pLeaf 1) := by
  intro w s hP
  obtain ⟨ao, cap, rfl, hc1, hc2⟩ := hP.fs.shape
  rw [nv_length] at hc1 hP
  rw [nv_length]
  obtain ⟨n, hn⟩ : ∃ n, n = fm.length := ⟨_, rfl⟩
  rw [← hn] at hc1 hP hat hfm ⊢
  obtain ⟨g, off, rfl, hsg⟩ := hP.sign hn hat
  obtain ⟨gb, hgb⟩ : ∃ gb, gb = w.heap.size := ⟨_, rfl⟩
  have HGB := Lib.hid hgb
  have HP := Lib.hid hP
  have HP1 := Lib.hid (hP.alloc (.cells #[.int .i64 0, .string { data := #[] }, .slice none 0 0] 44))
  have HB1 := Lib.hid (show (w.alloc (.cells #[.int .i64 0, .string { data := #[] }, .slice none 0 0] 44)).heap[gb]? = some (.cells #[.int .i64 0, .string { data := #[] }, .slice none 0 0] 44 (0, 0)) by rw [hgb]; exact heap_alloc_new w _)
  have hgrl : gr < gb := by rw [hgb]; exact Nat.lt_of_lt_of_le hP.lr hP.lB
  have HBG := Lib.hid (show B ≤ gb by rw [hgb]; exact hP.lB)
  have HC1 := Lib.hid ((Chg.refl [gr] w).alloc (.cells #[.int .i64 0, .string { data := #[] }, .slice none 0 0] 44))
  obtain ⟨p0, p1, p2⟩ := HP1.out.cells
  have hx := hsg _ HC1.out at0 hat
  rw [hs] at hx
  have HN := Lib.hid hn
  clear hP hgb hsg hs hn
  have hb2 : ∀ w2 : World, Chg [gr] (w.alloc (.cells #[.int .i64 0, .string { data := #[] }, .slice none 0 0] 44)) w2 → w2.heap[gb]? = some (.cells #[.int .i64 0, .string { data := #[] }, .slice none 0 0] 44 (0, 0)) := fun w2 hc => hc.heap HB1.out (by simp; omega)
  have HB2 := Lib.hid hb2
  clear hb2
  have HFIN := Lib.hid (show ∀ (w2 : World) (R : Tr × St) (c : Nat) (u x y : Value), Chg [gr] (w.alloc (.cells #[.int .i64 0, .string { data := #[] }, .slice none 0 0] 44)) w2 → WPS w0 w2 gp gr B (.slice (some ⟨g, off, none⟩) n cap) bv fm b R.2 → pLeaf 1 s = R → R.1.k = [] → x = .int .i64 R.1.n → y = .string R.1.s →
      (∃ kv, Ending.returned (.agg #[x, y, .slice none 0 0]) = .returned (.agg #[.int .i64 (pLeaf 1 s).1.n, .string (pLeaf 1 s).1.s, kv]) ∧ KidsIn (w.heap.size ≤ ·) ((((w2.setCell ⟨gb, c, none⟩ u).setCell ⟨gb, 0, none⟩ x).setCell ⟨gb, 1, none⟩ y).setCell ⟨gb, 2, none⟩ (.slice none 0 0)) (d + 1) (pLeaf 1 s).1.k kv ∧ WPS w0 ((((w2.setCell ⟨gb, c, none⟩ u).setCell ⟨gb, 0, none⟩ x).setCell ⟨gb, 1, none⟩ y).setCell ⟨gb, 2, none⟩ (.slice none 0 0)) gp gr B (.slice (some ⟨g, off, none⟩) n cap) bv fm b (pLeaf 1 s).2 ∧ Chg [gr] w ((((w2.setCell ⟨gb, c, none⟩ u).setCell ⟨gb, 0, none⟩ x).setCell ⟨gb, 1, none⟩ y).setCell ⟨gb, 2, none⟩ (.slice none 0 0))) from fun w2 R c u x y hc hp hR hk0 hx hy => by
    rw [hR, hk0, hx, hy]
    have h3 : Chg [gb] w2 _ := chg3 ((Chg.refl [gb] w2).setCell (p := ⟨gb, c, none⟩) (by simp) u) (gr := gb) (by simp) (.int .i64 R.1.n) (.string R.1.s) (.slice none 0 0)
    refine ⟨_, rfl, kidsIn_nil, hp.keep h3 (fun t ht => by simp at ht; rw [ht]; exact HBG.out), (HC1.out.trans hc (by simp)).trans h3 (fun t ht => .inr ?_)⟩
    simp at ht
    rw [ht, HGB.out]
    exact Nat.le_refl _)
  have hcell : ∀ w2 : World, w2.heap[gb]? = some (.cells #[.int .i64 0, .string { data := #[] }, .slice none 0 0] 44 (0, 0)) → w2.cell? ⟨gb, 0, none⟩ = some (.int .i64 0) ∧ w2.cell? ⟨gb, 1, none⟩ = some (.string { data := #[] }) ∧ w2.cell? ⟨gb, 2, none⟩ = some (.slice none 0 0) ∧ w2.frozen? ⟨gb, 0, none⟩ = false ∧ w2.frozen? ⟨gb, 1, none⟩ = false ∧ w2.frozen? ⟨gb, 2, none⟩ = false := fun w2 hb =>
    ⟨by rw [cell_of_row w2 gb 0 _ _ _ hb]; rfl, by rw [cell_of_row w2 gb 1 _ _ _ hb]; rfl, by rw [cell_of_row w2 gb 2 _ _ _ hb]; rfl, by simp [World.frozen?, hb], by simp [World.frozen?, hb], by simp [World.frozen?, hb]⟩
  have HCL := Lib.hid hcell
  clear hcell
  rw [show kd 1 = 98 from rfl, show ((98 : Nat) : Int) = 98 from rfl] at hx
  have HT := Lib.hid (truth_any HP1.out)
  have E := Lib.hid (show pLeaf 1 s = (.mk (pTruth s).1 ByteArray.empty [], (pTruth s).2) by unfold pLeaf; rw [if_pos rfl])
  go_enter Try.func47, Try.ntmps47
  go_wp2_with (first
    | (go_at_call 74; (with_reducible refine HT.out.mono ?_); rintro e w2 ⟨rfl, hP2, hC2⟩; obtain ⟨r0, r1, r2, f0, f1, f2⟩ := HCL.out _ (HB2.out _ hC2); have HP2 := Lib.hid hP2; have HC2 := Lib.hid hC2; clear hP2 hC2; rw [← HGB.out])
    | fail)
  exact ret_tree rfl rfl rfl (set3 (heap_set (HB2.out _ HC2.out) _) _ _ _) (HFIN.out _ _ _ _ _ _ HC2.out HP2.out E.out rfl rfl rfl)

set_option maxRecDepth 100000 in
set_option maxHeartbeats 4000000 in
theorem value_leaf9_2 {w0 : World} {gp gr B : Nat} {fv bv : Value} {fm b : List Nat} {d at0 : Nat} (hat : at0 < fm.length) (hfm : fm.length ≤ 100000) (hs : fm.getD at0 0 = kd 2) : VC w0 gp gr B fv bv fm b (d + 1) at0 (pLeaf 2) := by
  intro w s hP
  obtain ⟨ao, cap, rfl, hc1, hc2⟩ := hP.fs.shape
  rw [nv_length] at hc1 hP
  rw [nv_length]
  obtain ⟨n, hn⟩ : ∃ n, n = fm.length := ⟨_, rfl⟩
  rw [← hn] at hc1 hP hat hfm ⊢
  obtain ⟨g, off, rfl, hsg⟩ := hP.sign hn hat
  obtain ⟨gb, hgb⟩ : ∃ gb, gb = w.heap.size := ⟨_, rfl⟩
  have HGB := Lib.hid hgb
  have HP := Lib.hid hP
  have HP1 := Lib.hid (hP.alloc (.cells #[.int .i64 0, .string { data := #[] }, .slice none 0 0] 44))
  have HB1 := Lib.hid (show (w.alloc (.cells #[.int .i64 0, .string { data := #[] }, .slice none 0 0] 44)).heap[gb]? = some (.cells #[.int .i64 0, .string { data := #[] }, .slice none 0 0] 44 (0, 0)) by rw [hgb]; exact heap_alloc_new w _)
  have hgrl : gr < gb := by rw [hgb]; exact Nat.lt_of_lt_of_le hP.lr hP.lB
  have HBG := Lib.hid (show B ≤ gb by rw [hgb]; exact hP.lB)
  have HC1 := Lib.hid ((Chg.refl [gr] w).alloc (.cells #[.int .i64 0, .string { data := #[] }, .slice none 0 0] 44))
  obtain ⟨p0, p1, p2⟩ := HP1.out.cells
  have hx := hsg _ HC1.out at0 hat
  rw [hs] at hx
  have HN := Lib.hid hn
  clear hP hgb hsg hs hn
  have hb2 : ∀ w2 : World, Chg [gr] (w.alloc (.cells #[.int .i64 0, .string { data := #[] }, .slice none 0 0] 44)) w2 → w2.heap[gb]? = some (.cells #[.int .i64 0, .string { data := #[] }, .slice none 0 0] 44 (0, 0)) := fun w2 hc => hc.heap HB1.out (by simp; omega)
  have HB2 := Lib.hid hb2
  clear hb2
  have HFIN := Lib.hid (show ∀ (w2 : World) (R : Tr × St) (c : Nat) (u x y : Value), Chg [gr] (w.alloc (.cells #[.int .i64 0, .string { data := #[] }, .slice none 0 0] 44)) w2 → WPS w0 w2 gp gr B (.slice (some ⟨g, off, none⟩) n cap) bv fm b R.2 → pLeaf 2 s = R → R.1.k = [] → x = .int .i64 R.1.n → y = .string R.1.s →
      (∃ kv, Ending.returned (.agg #[x, y, .slice none 0 0]) = .returned (.agg #[.int .i64 (pLeaf 2 s).1.n, .string (pLeaf 2 s).1.s, kv]) ∧ KidsIn (w.heap.size ≤ ·) ((((w2.setCell ⟨gb, c, none⟩ u).setCell ⟨gb, 0, none⟩ x).setCell ⟨gb, 1, none⟩ y).setCell ⟨gb, 2, none⟩ (.slice none 0 0)) (d + 1) (pLeaf 2 s).1.k kv ∧ WPS w0 ((((w2.setCell ⟨gb, c, none⟩ u).setCell ⟨gb, 0, none⟩ x).setCell ⟨gb, 1, none⟩ y).setCell ⟨gb, 2, none⟩ (.slice none 0 0)) gp gr B (.slice (some ⟨g, off, none⟩) n cap) bv fm b (pLeaf 2 s).2 ∧ Chg [gr] w ((((w2.setCell ⟨gb, c, none⟩ u).setCell ⟨gb, 0, none⟩ x).setCell ⟨gb, 1, none⟩ y).setCell ⟨gb, 2, none⟩ (.slice none 0 0))) from fun w2 R c u x y hc hp hR hk0 hx hy => by
    rw [hR, hk0, hx, hy]
    have h3 : Chg [gb] w2 _ := chg3 ((Chg.refl [gb] w2).setCell (p := ⟨gb, c, none⟩) (by simp) u) (gr := gb) (by simp) (.int .i64 R.1.n) (.string R.1.s) (.slice none 0 0)
    refine ⟨_, rfl, kidsIn_nil, hp.keep h3 (fun t ht => by simp at ht; rw [ht]; exact HBG.out), (HC1.out.trans hc (by simp)).trans h3 (fun t ht => .inr ?_)⟩
    simp at ht
    rw [ht, HGB.out]
    exact Nat.le_refl _)
  have hcell : ∀ w2 : World, w2.heap[gb]? = some (.cells #[.int .i64 0, .string { data := #[] }, .slice none 0 0] 44 (0, 0)) → w2.cell? ⟨gb, 0, none⟩ = some (.int .i64 0) ∧ w2.cell? ⟨gb, 1, none⟩ = some (.string { data := #[] }) ∧ w2.cell? ⟨gb, 2, none⟩ = some (.slice none 0 0) ∧ w2.frozen? ⟨gb, 0, none⟩ = false ∧ w2.frozen? ⟨gb, 1, none⟩ = false ∧ w2.frozen? ⟨gb, 2, none⟩ = false := fun w2 hb =>
    ⟨by rw [cell_of_row w2 gb 0 _ _ _ hb]; rfl, by rw [cell_of_row w2 gb 1 _ _ _ hb]; rfl, by rw [cell_of_row w2 gb 2 _ _ _ hb]; rfl, by simp [World.frozen?, hb], by simp [World.frozen?, hb], by simp [World.frozen?, hb]⟩
  have HCL := Lib.hid hcell
  clear hcell
  rw [show kd 2 = 105 from rfl, show ((105 : Nat) : Int) = 105 from rfl] at hx
  have HT := Lib.hid (psGet HP1.out 4 (by decide) (by decide))
  rw [show ((4 : Nat) : Int) = 4 from rfl] at HT
  have E := Lib.hid (show pLeaf 2 s = (.mk (Go.RowKit.wrap32 (pNum 4 s).1) ByteArray.empty [], (pNum 4 s).2) by unfold pLeaf; rw [if_neg (by decide), if_pos rfl])
  obtain ⟨v, hv⟩ : ∃ v, v = (pNum 4 s).1 := ⟨_, rfl⟩
  rw [← hv] at HT E
  have hw := w32_in (v : Int)
  clear hv
  go_enter Try.func47, Try.ntmps47
  go_wp2_with (first
    | (go_at_call 75; (with_reducible refine HT.out.mono ?_); rintro e w2 ⟨rfl, hP2, hC2⟩; obtain ⟨r0, r1, r2, f0, f1, f2⟩ := HCL.out _ (HB2.out _ hC2); have HP2 := Lib.hid hP2; have HC2 := Lib.hid hC2; clear hP2 hC2; rw [← HGB.out])
    | fail)
  obtain ⟨z, hz⟩ : ∃ z, z = Go.RowKit.wrap32 (v : Int) := ⟨_, rfl⟩
  have E2 := E.out
  rw [← hz] at E2 ⊢
  clear hz E
  exact ret_tree rfl rfl rfl (set3 (heap_set (HB2.out _ HC2.out) _) _ _ _) (HFIN.out _ _ _ _ _ _ HC2.out HP2.out E2 rfl rfl rfl)

set_option maxRecDepth 100000 in
set_option maxHeartbeats 4000000 in
theorem value_leaf9_3 {w0 : World} {gp gr B : Nat} {fv bv : Value} {fm b : List Nat} {d at0 : Nat} (hat : at0 < fm.length) (hfm : fm.length ≤ 100000) (hs : fm.getD at0 0 = kd 3) : VC w0 gp gr B fv bv fm b (d + 1) at0 (pLeaf 3) := by
  intro w s hP
  obtain ⟨ao, cap, rfl, hc1, hc2⟩ := hP.fs.shape
  rw [nv_length] at hc1 hP
  rw [nv_length]
  obtain ⟨n, hn⟩ : ∃ n, n = fm.length := ⟨_, rfl⟩
  rw [← hn] at hc1 hP hat hfm ⊢
  obtain ⟨g, off, rfl, hsg⟩ := hP.sign hn hat
  obtain ⟨gb, hgb⟩ : ∃ gb, gb = w.heap.size := ⟨_, rfl⟩
  have HGB := Lib.hid hgb
  have HP := Lib.hid hP
  have HP1 := Lib.hid (hP.alloc (.cells #[.int .i64 0, .string { data := #[] }, .slice none 0 0] 44))
  have HB1 := Lib.hid (show (w.alloc (.cells #[.int .i64 0, .string { data := #[] }, .slice none 0 0] 44)).heap[gb]? = some (.cells #[.int .i64 0, .string { data := #[] }, .slice none 0 0] 44 (0, 0)) by rw [hgb]; exact heap_alloc_new w _)
  have hgrl : gr < gb := by rw [hgb]; exact Nat.lt_of_lt_of_le hP.lr hP.lB
  have HBG := Lib.hid (show B ≤ gb by rw [hgb]; exact hP.lB)
  have HC1 := Lib.hid ((Chg.refl [gr] w).alloc (.cells #[.int .i64 0, .string { data := #[] }, .slice none 0 0] 44))
  obtain ⟨p0, p1, p2⟩ := HP1.out.cells
  have hx := hsg _ HC1.out at0 hat
  rw [hs] at hx
  have HN := Lib.hid hn
  clear hP hgb hsg hs hn
  have hb2 : ∀ w2 : World, Chg [gr] (w.alloc (.cells #[.int .i64 0, .string { data := #[] }, .slice none 0 0] 44)) w2 → w2.heap[gb]? = some (.cells #[.int .i64 0, .string { data := #[] }, .slice none 0 0] 44 (0, 0)) := fun w2 hc => hc.heap HB1.out (by simp; omega)
  have HB2 := Lib.hid hb2
  clear hb2
  have HFIN := Lib.hid (show ∀ (w2 : World) (R : Tr × St) (c : Nat) (u x y : Value), Chg [gr] (w.alloc (.cells #[.int .i64 0, .string { data := #[] }, .slice none 0 0] 44)) w2 → WPS w0 w2 gp gr B (.slice (some ⟨g, off, none⟩) n cap) bv fm b R.2 → pLeaf 3 s = R → R.1.k = [] → x = .int .i64 R.1.n → y = .string R.1.s →
      (∃ kv, Ending.returned (.agg #[x, y, .slice none 0 0]) = .returned (.agg #[.int .i64 (pLeaf 3 s).1.n, .string (pLeaf 3 s).1.s, kv]) ∧ KidsIn (w.heap.size ≤ ·) ((((w2.setCell ⟨gb, c, none⟩ u).setCell ⟨gb, 0, none⟩ x).setCell ⟨gb, 1, none⟩ y).setCell ⟨gb, 2, none⟩ (.slice none 0 0)) (d + 1) (pLeaf 3 s).1.k kv ∧ WPS w0 ((((w2.setCell ⟨gb, c, none⟩ u).setCell ⟨gb, 0, none⟩ x).setCell ⟨gb, 1, none⟩ y).setCell ⟨gb, 2, none⟩ (.slice none 0 0)) gp gr B (.slice (some ⟨g, off, none⟩) n cap) bv fm b (pLeaf 3 s).2 ∧ Chg [gr] w ((((w2.setCell ⟨gb, c, none⟩ u).setCell ⟨gb, 0, none⟩ x).setCell ⟨gb, 1, none⟩ y).setCell ⟨gb, 2, none⟩ (.slice none 0 0))) from fun w2 R c u x y hc hp hR hk0 hx hy => by
    rw [hR, hk0, hx, hy]
    have h3 : Chg [gb] w2 _ := chg3 ((Chg.refl [gb] w2).setCell (p := ⟨gb, c, none⟩) (by simp) u) (gr := gb) (by simp) (.int .i64 R.1.n) (.string R.1.s) (.slice none 0 0)
    refine ⟨_, rfl, kidsIn_nil, hp.keep h3 (fun t ht => by simp at ht; rw [ht]; exact HBG.out), (HC1.out.trans hc (by simp)).trans h3 (fun t ht => .inr ?_)⟩
    simp at ht
    rw [ht, HGB.out]
    exact Nat.le_refl _)
  have hcell : ∀ w2 : World, w2.heap[gb]? = some (.cells #[.int .i64 0, .string { data := #[] }, .slice none 0 0] 44 (0, 0)) → w2.cell? ⟨gb, 0, none⟩ = some (.int .i64 0) ∧ w2.cell? ⟨gb, 1, none⟩ = some (.string { data := #[] }) ∧ w2.cell? ⟨gb, 2, none⟩ = some (.slice none 0 0) ∧ w2.frozen? ⟨gb, 0, none⟩ = false ∧ w2.frozen? ⟨gb, 1, none⟩ = false ∧ w2.frozen? ⟨gb, 2, none⟩ = false := fun w2 hb =>
    ⟨by rw [cell_of_row w2 gb 0 _ _ _ hb]; rfl, by rw [cell_of_row w2 gb 1 _ _ _ hb]; rfl, by rw [cell_of_row w2 gb 2 _ _ _ hb]; rfl, by simp [World.frozen?, hb], by simp [World.frozen?, hb], by simp [World.frozen?, hb]⟩
  have HCL := Lib.hid hcell
  clear hcell
  rw [show kd 3 = 108 from rfl, show ((108 : Nat) : Int) = 108 from rfl] at hx
  have HT := Lib.hid (psGet HP1.out 8 (by decide) (by decide))
  rw [show ((8 : Nat) : Int) = 8 from rfl] at HT
  have E := Lib.hid (show pLeaf 3 s = (.mk (wrap64 (pNum 8 s).1) ByteArray.empty [], (pNum 8 s).2) by unfold pLeaf; rw [if_neg (by decide), if_neg (by decide), if_pos rfl])
  obtain ⟨v, hv⟩ : ∃ v, v = (pNum 8 s).1 := ⟨_, rfl⟩
  rw [← hv] at HT E
  clear hv
  go_enter Try.func47, Try.ntmps47
  go_wp2_with (first
    | (go_at_call 75; (with_reducible refine HT.out.mono ?_); rintro e w2 ⟨rfl, hP2, hC2⟩; obtain ⟨r0, r1, r2, f0, f1, f2⟩ := HCL.out _ (HB2.out _ hC2); have HP2 := Lib.hid hP2; have HC2 := Lib.hid hC2; clear hP2 hC2; rw [← HGB.out])
    | fail)
  obtain ⟨z, hz⟩ : ∃ z, z = Go.RowKit.wrap64 (v : Int) := ⟨_, rfl⟩
  have E2 := E.out
  rw [← hz] at E2 ⊢
  clear hz E
  exact ret_tree rfl rfl rfl (set3 (heap_set (HB2.out _ HC2.out) _) _ _ _) (HFIN.out _ _ _ _ _ _ HC2.out HP2.out E2 rfl rfl rfl)

set_option maxRecDepth 100000 in
set_option maxHeartbeats 4000000 in
theorem value_leaf9_4 {w0 : World} {gp gr B : Nat} {fv bv : Value} {fm b : List Nat} {d at0 : Nat} (hat : at0 < fm.length) (hfm : fm.length ≤ 100000) (hs : fm.getD at0 0 = kd 4) : VC w0 gp gr B fv bv fm b (d + 1) at0 (pLeaf 4) := by
  intro w s hP
  obtain ⟨ao, cap, rfl, hc1, hc2⟩ := hP.fs.shape
  rw [nv_length] at hc1 hP
  rw [nv_length]
  obtain ⟨n, hn⟩ : ∃ n, n = fm.length := ⟨_, rfl⟩
  rw [← hn] at hc1 hP hat hfm ⊢
  obtain ⟨g, off, rfl, hsg⟩ := hP.sign hn hat
  obtain ⟨gb, hgb⟩ : ∃ gb, gb = w.heap.size := ⟨_, rfl⟩
  have HGB := Lib.hid hgb
  have HP := Lib.hid hP
  have HP1 := Lib.hid (hP.alloc (.cells #[.int .i64 0, .string { data := #[] }, .slice none 0 0] 44))
  have HB1 := Lib.hid (show (w.alloc (.cells #[.int .i64 0, .string { data := #[] }, .slice none 0 0] 44)).heap[gb]? = some (.cells #[.int .i64 0, .string { data := #[] }, .slice none 0 0] 44 (0, 0)) by rw [hgb]; exact heap_alloc_new w _)
  have hgrl : gr < gb := by rw [hgb]; exact Nat.lt_of_lt_of_le hP.lr hP.lB
  have HBG := Lib.hid (show B ≤ gb by rw [hgb]; exact hP.lB)
  have HC1 := Lib.hid ((Chg.refl [gr] w).alloc (.cells #[.int .i64 0, .string { data := #[] }, .slice none 0 0] 44))
  obtain ⟨p0, p1, p2⟩ := HP1.out.cells
  have hx := hsg _ HC1.out at0 hat
  rw [hs] at hx
  have HN := Lib.hid hn
  clear hP hgb hsg hs hn
  have hb2 : ∀ w2 : World, Chg [gr] (w.alloc (.cells #[.int .i64 0, .string { data := #[] }, .slice none 0 0] 44)) w2 → w2.heap[gb]? = some (.cells #[.int .i64 0, .string { data := #[] }, .slice none 0 0] 44 (0, 0)) := fun w2 hc => hc.heap HB1.out (by simp; omega)
  have HB2 := Lib.hid hb2
  clear hb2
  have HFIN := Lib.hid (show ∀ (w2 : World) (R : Tr × St) (c : Nat) (u x y : Value), Chg [gr] (w.alloc (.cells #[.int .i64 0, .string { data := #[] }, .slice none 0 0] 44)) w2 → WPS w0 w2 gp gr B (.slice (some ⟨g, off, none⟩) n cap) bv fm b R.2 → pLeaf 4 s = R → R.1.k = [] → x = .int .i64 R.1.n → y = .string R.1.s →
      (∃ kv, Ending.returned (.agg #[x, y, .slice none 0 0]) = .returned (.agg #[.int .i64 (pLeaf 4 s).1.n, .string (pLeaf 4 s).1.s, kv]) ∧ KidsIn (w.heap.size ≤ ·) ((((w2.setCell ⟨gb, c, none⟩ u).setCell ⟨gb, 0, none⟩ x).setCell ⟨gb, 1, none⟩ y).setCell ⟨gb, 2, none⟩ (.slice none 0 0)) (d + 1) (pLeaf 4 s).1.k kv ∧ WPS w0 ((((w2.setCell ⟨gb, c, none⟩ u).setCell ⟨gb, 0, none⟩ x).setCell ⟨gb, 1, none⟩ y).setCell ⟨gb, 2, none⟩ (.slice none 0 0)) gp gr B (.slice (some ⟨g, off, none⟩) n cap) bv fm b (pLeaf 4 s).2 ∧ Chg [gr] w ((((w2.setCell ⟨gb, c, none⟩ u).setCell ⟨gb, 0, none⟩ x).setCell ⟨gb, 1, none⟩ y).setCell ⟨gb, 2, none⟩ (.slice none 0 0))) from fun w2 R c u x y hc hp hR hk0 hx hy => by
    rw [hR, hk0, hx, hy]
    have h3 : Chg [gb] w2 _ := chg3 ((Chg.refl [gb] w2).setCell (p := ⟨gb, c, none⟩) (by simp) u) (gr := gb) (by simp) (.int .i64 R.1.n) (.string R.1.s) (.slice none 0 0)
    refine ⟨_, rfl, kidsIn_nil, hp.keep h3 (fun t ht => by simp at ht; rw [ht]; exact HBG.out), (HC1.out.trans hc (by simp)).trans h3 (fun t ht => .inr ?_)⟩
    simp at ht
    rw [ht, HGB.out]
    exact Nat.le_refl _)
  have hcell : ∀ w2 : World, w2.heap[gb]? = some (.cells #[.int .i64 0, .string { data := #[] }, .slice none 0 0] 44 (0, 0)) → w2.cell? ⟨gb, 0, none⟩ = some (.int .i64 0) ∧ w2.cell? ⟨gb, 1, none⟩ = some (.string { data := #[] }) ∧ w2.cell? ⟨gb, 2, none⟩ = some (.slice none 0 0) ∧ w2.frozen? ⟨gb, 0, none⟩ = false ∧ w2.frozen? ⟨gb, 1, none⟩ = false ∧ w2.frozen? ⟨gb, 2, none⟩ = false := fun w2 hb =>
    ⟨by rw [cell_of_row w2 gb 0 _ _ _ hb]; rfl, by rw [cell_of_row w2 gb 1 _ _ _ hb]; rfl, by rw [cell_of_row w2 gb 2 _ _ _ hb]; rfl, by simp [World.frozen?, hb], by simp [World.frozen?, hb], by simp [World.frozen?, hb]⟩
  have HCL := Lib.hid hcell
  clear hcell
  rw [show kd 4 = 116 from rfl, show ((116 : Nat) : Int) = 116 from rfl] at hx
  have HT := Lib.hid (show ∀ wx, Chg [] (w.alloc (.cells #[.int .i64 0, .string { data := #[] }, .slice none 0 0] 44)) wx → Calls Try.prog 24 #[.pointer (some ⟨gp, 0, none⟩), .int .u64 100, .int .i64 5] wx fun x w' => x = .returned (.int .i64 ((pCount 100 5 s).1 : Nat)) ∧ WPS w0 w' gp gr B (.slice (some ⟨g, off, none⟩) n cap) bv fm b (pCount 100 5 s).2 ∧ Chg [gr] wx w' from fun wx hk => count_any9 100 5 (by decide) (by decide) (HP1.out.keep hk (by simp)))
  obtain ⟨v, hv⟩ : ∃ v, v = (pCount 100 5 s).1 := ⟨_, rfl⟩
  obtain ⟨s2, hs2⟩ : ∃ v, v = (pCount 100 5 s).2 := ⟨_, rfl⟩
  have E := Lib.hid (show pLeaf 4 s = (.mk 0 (str (pTake v s2).1) [], (pTake v s2).2) by unfold pLeaf; rw [if_neg (by decide), if_neg (by decide), if_neg (by decide), hv, hs2])
  rw [← hv, ← hs2] at HT
  clear hv hs2
  have HPR := Lib.hid (show (w.alloc (.cells #[.int .i64 0, .string { data := #[] }, .slice none 0 0] 44)).cell? ⟨gp, 2, none⟩ = some (.pointer (some ⟨gr, 0, none⟩)) from p2)
  have HC0 := Lib.hid (Chg.refl [] (w.alloc (.cells #[.int .i64 0, .string { data := #[] }, .slice none 0 0] 44)))
  go_enter Try.func47, Try.ntmps47
  go_upto_region 11 with fail
  obtain ⟨wa, hwa⟩ : ∃ wa, wa = w.alloc (.cells #[.int .i64 0, .string { data := #[] }, .slice none 0 0] 44) := ⟨_, rfl⟩
  rw [← HGB.out]
  rw [← hwa] at p2 HT HP1 HC1 HB1 HB2 HFIN HPR HC0 ⊢
  clear p0 p1 hwa
  go_region_with (first
    | (go_at_call 24; (with_reducible refine (HT.out _ (by first | exact HC0.out | exact HC0.out.drew | exact HC0.out.drewN _)).mono ?_); rintro e w2 ⟨rfl, hP2, hC2⟩; have HP2 := Lib.hid hP2; have HC2 := Lib.hid (show Chg [gr] wa w2 from by first | exact hC2 | exact ((Chg.refl [gr] _).drew).trans hC2 (by simp) | exact ((Chg.refl [gr] _).drewN _).trans hC2 (by simp)); have hk2 := hP2.cells.2.2; have HTB := Lib.hid (pTake_bytes hP2.bytes v); clear hP2 hC2)
    | (go_at_call 51; (with_reducible refine (psTakeAny HP2.out v).mono ?_); rintro e w3 ⟨tao, tm, tcap, rfl, hm, hsn, hP3, hC3⟩; have HP3 := Lib.hid hP3; have hk3 := hP3.cells.2.2; have HC3 := Lib.hid (HC2.out.trans hC3 (by simp)); obtain ⟨r0, r1, r2, f0, f1, f2⟩ := HCL.out _ (HB2.out _ HC3.out); have hcv := conv_seen (P := Try.prog) (src := 30) (dst := 9) Try.underlying30 Try.underlying5 Try.underlying9 hsn hm.symm HTB.out; clear hP3 hC3 hm hsn))
  all_goals
    go_wp2
    exact ret_tree rfl rfl rfl (set3 (heap_set (HB2.out _ HC3.out) _) _ _ _) (HFIN.out _ _ _ _ _ _ HC3.out HP3.out E.out rfl rfl rfl)

theorem value_leaf9 {w0 : World} {gp gr B : Nat} {fv bv : Value} {fm b : List Nat} {d at0 : Nat} {k : Int} (hk : 1 ≤ k ∧ k ≤ 4) (hat : at0 < fm.length) (hfm : fm.length ≤ 100000) (hs : fm.getD at0 0 = kd k) : VC w0 gp gr B fv bv fm b (d + 1) at0 (pLeaf k) := by
  have hkk : k = 1 ∨ k = 2 ∨ k = 3 ∨ k = 4 := by omega
  rcases hkk with rfl | rfl | rfl | rfl
  · exact value_leaf9_1 hat hfm hs
  · exact value_leaf9_2 hat hfm hs
  · exact value_leaf9_3 hat hfm hs
  · exact value_leaf9_4 hat hfm hs

end Go.Proofs.Ytkbfbiklnjldgaa
