/- wire's parser: what it holds; truth, count, failed. -/
import Derived.Test.YthhcnlmjcpkbnaaHb
import Derived.Test.YthhcnlmjcpkbnaaTake
import Derived.Test.YthhcnlmjcpkbnaaGt
namespace Go.Proofs.Ythhcnlmjcpkbnaa
open Go.RowKit
set_option linter.unusedVariables false
set_option linter.unusedSimpArgs false

/-- Natural numbers as numbers. -/
def zi (l : List Nat) : List Int := l.map fun (n : Nat) => (n : Int)
@[simp] theorem zi_length (l : List Nat) : (zi l).length = l.length := by simp [zi]
theorem bys_zi (l : List Nat) : bys (zi l) = nv .u8 l := by simp [bys, zi, nv]
theorem zi_wf {l : List Nat} (h : ∀ x ∈ l, x < 256) : Wf (zi l) := by
  intro z hz
  obtain ⟨n, hn, rfl⟩ := List.mem_map.1 hz
  have := h n hn
  omega
theorem zi_drop (l : List Nat) (k : Nat) : (zi l).drop k = zi (l.drop k) := by simp [zi, List.map_drop]
theorem zi_take (l : List Nat) (k : Nat) : (zi l).take k = zi (l.take k) := by simp [zi, List.map_take]
/-- A number by its bytes, the lowest first. -/
def nm : List Nat → Nat
  | [] => 0
  | z :: l => z + 256 * nm l
theorem num_zi (l : List Nat) : num (zi l) = (nm l : Nat) := by
  induction l with
  | nil => rfl
  | cons z l ih =>
    have e : zi (z :: l) = (z : Int) :: zi l := rfl
    rw [e, num, nm, ih]
    omega

/-- What is left, and the error. -/
abbrev St := List Nat × Nat

/-- A number of n bytes. -/
def pNum (n : Nat) (s : St) : Nat × St := if s.1.length < n then (0, ([], if s.2 = 0 then 8 else s.2)) else (nm (s.1.take n), (s.1.drop n, s.2))
def pTruth (s : St) : Nat × St := if 1 < (pNum 1 s).1 then (0, ([], 10)) else pNum 1 s
def pCount (most e : Nat) (s : St) : Nat × St :=
  if s.2 ≠ 0 then (0, s) else if (gl 0 s.1).2 ≠ 0 then (0, ([], (gl 0 s.1).2)) else if most < gv s.1 then (0, ([], e)) else (gv s.1, (s.1.drop (gl 0 s.1).1, 0))

/-- How the parser stands. -/
structure WPS (w0 w : World) (gp gr B : Nat) (fv bv : Value) (fm b : List Nat) (s : St) : Prop where
  fs : Seen w0 fv (nv .i32 fm)
  bs : Seen w0 bv (nv .u8 b)
  by' : ∀ x ∈ b, x < 256
  bl : b.length ≤ 1000000
  c0 : Chg [] w0 w
  g0 : w0.heap.size ≤ gr
  g1 : w0.heap.size ≤ gp
  ne : gp ≠ gr
  lr : gr < B
  lp : gp < B
  lB : B ≤ w.heap.size
  bp : w.heap[gp]? = some (.cells #[fv, bv, .pointer (some ⟨gr, 0, none⟩)] 121 (0, 0))
  rd : Rd w gr (zi s.1) (s.2 : Nat) B
  ok : s.2 ≠ 0 → s.1 = []
  suf : ∃ k, k ≤ b.length ∧ s.1 = b.drop k

theorem WPS.len {w0 w : World} {gp gr B : Nat} {fv bv : Value} {fm b : List Nat} {s : St} (h : WPS w0 w gp gr B fv bv fm b s) : s.1.length ≤ 1000000 := by
  obtain ⟨k, hk, e⟩ := h.suf
  have := h.bl
  rw [e, List.length_drop]; omega

theorem WPS.bytes {w0 w : World} {gp gr B : Nat} {fv bv : Value} {fm b : List Nat} {s : St} (h : WPS w0 w gp gr B fv bv fm b s) : ∀ x ∈ s.1, x < 256 := by
  obtain ⟨k, hk, e⟩ := h.suf
  rw [e]
  exact fun x hx => h.by' x (List.mem_of_mem_drop hx)

/-- The reader went on. -/
theorem WPS.goOn {w0 w w' : World} {gp gr B : Nat} {fv bv : Value} {fm b : List Nat} {s s' : St} (h : WPS w0 w gp gr B fv bv fm b s) (hc : Chg [gr] w w') (hr : Rd w' gr (zi s'.1) (s'.2 : Nat) B) (ok : s'.2 ≠ 0 → s'.1 = []) (suf : s'.1 = [] ∨ ∃ k, k ≤ s.1.length ∧ s'.1 = s.1.drop k) : WPS w0 w' gp gr B fv bv fm b s' := by
  refine ⟨h.fs, h.bs, h.by', h.bl, h.c0.trans hc (by have := h.g0; simpa using this), h.g0, h.g1, h.ne, h.lr, h.lp, Nat.le_trans h.lB hc.size, hc.heap h.bp (by simpa using h.ne), hr, ok, ?_⟩
  rcases suf with e | ⟨k, hk, e⟩
  · exact ⟨b.length, Nat.le_refl _, by rw [e]; simp⟩
  · obtain ⟨j, hj, e2⟩ := h.suf
    have : s.1.length = b.length - j := by rw [e2, List.length_drop]
    exact ⟨j + k, by omega, by rw [e, e2, List.drop_drop]⟩

theorem WPS.keep {w0 w w' : World} {S : List Nat} {gp gr B : Nat} {fv bv : Value} {fm b : List Nat} {s : St} (h : WPS w0 w gp gr B fv bv fm b s) (hc : Chg S w w') (hS : ∀ g ∈ S, B ≤ g) : WPS w0 w' gp gr B fv bv fm b s := by
  have hb : ∀ {g : Nat}, g < B → g ∉ S := fun hg hm => by have := hS _ hm; omega
  obtain ⟨v, h1, h2, h3, h4⟩ := h.rd
  refine ⟨h.fs, h.bs, h.by', h.bl, h.c0.trans hc (fun t ht => .inr ?_), h.g0, h.g1, h.ne, h.lr, h.lp, Nat.le_trans h.lB hc.size, hc.heap h.bp (hb h.lp), ⟨v, hc.heap h1 (hb h.lr), h2.keep hc fun g hg => hb (h4 g hg), h3.keep hc fun g hg => hb (h4 g hg), h4⟩, h.ok, h.suf⟩
  have := hS t ht
  have := h.g0
  have := h.lr
  omega

theorem WPS.cells {w0 w : World} {gp gr B : Nat} {fv bv : Value} {fm b : List Nat} {s : St} (h : WPS w0 w gp gr B fv bv fm b s) : w.cell? ⟨gp, 0, none⟩ = some fv ∧ w.cell? ⟨gp, 1, none⟩ = some bv ∧ w.cell? ⟨gp, 2, none⟩ = some (.pointer (some ⟨gr, 0, none⟩)) := by
  have hb := h.bp
  exact ⟨by rw [cell_of_row w gp 0 _ _ _ hb]; rfl, by rw [cell_of_row w gp 1 _ _ _ hb]; rfl, by rw [cell_of_row w gp 2 _ _ _ hb]; rfl⟩

theorem widthOf_nat (n : Nat) (h : n ≤ 8) : widthOf (n : Int) = (n : Int) := by unfold widthOf; rw [if_neg (by omega)]

/-- Get, of the parser's reader. -/
theorem psGet {w0 w : World} {gp gr B : Nat} {fv bv : Value} {fm b : List Nat} {s : St} (h : WPS w0 w gp gr B fv bv fm b s) (n : Nat) (h1 : 1 ≤ n) (h8 : n ≤ 8) :
    Calls Try.prog 132 #[.pointer (some ⟨gr, 0, none⟩), .int .i64 (n : Int)] w fun x w' => x = .returned (.int .u64 ((pNum n s).1 : Nat)) ∧ WPS w0 w' gp gr B fv bv fm b (pNum n s).2 ∧ Chg [gr] w w' := by
  have hl := h.len
  by_cases hn : s.1.length < n
  · have e : pNum n s = (0, ([], if s.2 = 0 then 8 else s.2)) := by unfold pNum; rw [if_pos hn]
    rw [e]
    refine (get_no gr n (s.2 : Nat) w (zi s.1) (by rw [zi_length]; omega) h.rd (fun he => by rw [h.ok (by omega)]; rfl) (by rw [widthOf_nat n h8, zi_length]; omega)).mono ?_
    rintro x w' ⟨rfl, hc, hr⟩
    refine ⟨rfl, h.goOn hc ?_ (fun _ => rfl) (.inl rfl), hc⟩
    by_cases h0 : s.2 = 0
    · simp only [if_pos h0]
      rw [if_pos (by omega)] at hr
      exact hr
    · simp only [if_neg h0]
      rw [if_neg (by omega)] at hr
      exact hr
  · have e : pNum n s = (nm (s.1.take n), (s.1.drop n, s.2)) := by unfold pNum; rw [if_neg hn]
    rw [e]
    refine (get_yes gr n (s.2 : Nat) n w (zi s.1) (by rw [zi_length]; omega) (zi_wf h.bytes) h.rd (widthOf_nat n h8) (by rw [zi_length]; omega)).mono ?_
    rintro x w' ⟨rfl, hc, hr⟩
    rw [zi_take, num_zi]
    rw [zi_drop] at hr
    refine ⟨rfl, h.goOn hc hr (fun he => ?_) (.inr ⟨n, by omega, rfl⟩), hc⟩
    have := h.ok he
    rw [this] at hn
    simp at hn
    omega

/-- Fail, where there was no error. -/
theorem psFail {w0 w : World} {gp gr B : Nat} {fv bv : Value} {fm b : List Nat} {s : St} (h : WPS w0 w gp gr B fv bv fm b s) (e : Nat) (h0 : s.2 = 0) (he : e ≠ 0) :
    Calls Try.prog 109 #[.pointer (some ⟨gr, 0, none⟩), .int .i64 (e : Int)] w fun x w' => x = .returned (.tuple #[]) ∧ WPS w0 w' gp gr B fv bv fm b ([], e) ∧ Chg [gr] w w' := by
  refine (fail_set (M := B) gr (e : Int) w (zi s.1) (by have := h.rd; rw [h0] at this; exact this) (by omega)).mono ?_
  rintro x w' ⟨rfl, hc, hr⟩
  exact ⟨rfl, h.goOn hc (hr.mono (Nat.zero_le _)) (fun _ => rfl) (.inl rfl), hc⟩

theorem psFailNot {w0 w : World} {gp gr B : Nat} {fv bv : Value} {fm b : List Nat} {s : St} (h : WPS w0 w gp gr B fv bv fm b s) (e : Nat) (he : s.2 ≠ 0 ∨ e = 0) :
    Calls Try.prog 109 #[.pointer (some ⟨gr, 0, none⟩), .int .i64 (e : Int)] w fun x w' => x = .returned (.tuple #[]) ∧ w = w' :=
  fail_kept gr (s.2 : Nat) (e : Int) w (zi s.1) h.rd (by omega)

set_option maxRecDepth 100000 in
set_option maxHeartbeats 1000000 in
theorem failed_any {w0 w : World} {gp gr B : Nat} {fv bv : Value} {fm b : List Nat} {s : St} (h : WPS w0 w gp gr B fv bv fm b s) :
    Calls Try.prog 105 #[.pointer (some ⟨gp, 0, none⟩)] w fun x w' => x = .returned (.bool (decide (s.2 ≠ 0))) ∧ w = w' := by
  obtain ⟨c0, c1, c2⟩ := h.cells
  have hl := h.len
  have HL := Lib.hid (left_any gr (zi s.1) (s.2 : Nat) w (by rw [zi_length]; omega) h.rd)
  have HE := Lib.hid (end_any gr (zi s.1) (s.2 : Nat) w (by rw [zi_length]; omega) h.rd)
  have hok := h.ok
  clear h c0 c1
  by_cases h0 : s.1 = []
  · rw [h0] at HL HE
    have e1 : ((zi []).length : Int) = 0 := rfl
    have e2 : zi [] = [] := rfl
    rw [e1] at HL
    rw [if_pos e2] at HE
    clear e1 e2
    by_cases he : s.2 = 0
    · have E := Lib.hid (show decide (s.2 ≠ 0) = false by simpa using he)
      rw [he] at HE
      clear h0 he hok hl
      go_enter Try.func105, Try.ntmps105
      go_wp2_with (first
        | (go_at_call 108; (with_reducible refine HL.out.mono ?_); rintro e w1 ⟨rfl, rfl⟩)
        | (go_at_call 82; (with_reducible refine HE.out.mono ?_); rintro e w1 ⟨rfl, rfl⟩)
        | fail)
      go_ret
      exact ⟨by rw [E.out]; rfl, rfl⟩
    · have E := Lib.hid (show decide (s.2 ≠ 0) = true by simpa using he)
      have hb1 : ¬ ((s.2 : Int) = 0) := by omega
      have hb : ((s.2 : Int) != 0) = true := by simpa using hb1
      clear h0 he hok hl
      go_enter Try.func105, Try.ntmps105
      go_wp2_with (first
        | (go_at_call 108; (with_reducible refine HL.out.mono ?_); rintro e w1 ⟨rfl, rfl⟩)
        | (go_at_call 82; (with_reducible refine HE.out.mono ?_); rintro e w1 ⟨rfl, rfl⟩)
        | fail)
      go_ret
      exact ⟨by rw [E.out]; rfl, rfl⟩
  · have he : s.2 = 0 := by
      by_cases he : s.2 = 0
      · exact he
      · exact absurd (hok he) h0
    have E := Lib.hid (show decide (s.2 ≠ 0) = false by simpa using he)
    have hn : 1 ≤ (zi s.1).length := by
      rw [zi_length]
      rcases hs : s.1 with _ | ⟨a, t⟩
      · exact absurd hs h0
      · simp
    obtain ⟨n, hn2⟩ : ∃ n, n = (zi s.1).length := ⟨_, rfl⟩
    rw [← hn2] at HL hn
    have hb : ((n : Int) == 0) = false := by simp; omega
    clear h0 he hok hl HE hn2
    go_enter Try.func105, Try.ntmps105
    go_wp2_with (first
      | (go_at_call 108; (with_reducible refine HL.out.mono ?_); rintro e w1 ⟨rfl, rfl⟩)
      | fail)
    go_ret
    exact ⟨by rw [E.out]; rfl, rfl⟩

end Go.Proofs.Ythhcnlmjcpkbnaa
