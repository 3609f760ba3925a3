/- tree's times, isOver, leaf. -/
import Derived.Test.YthhcnlmjcpkbnaaYa
import Derived.Test.YthhcnlmjcpkbnaaA2
namespace Go.Proofs.Ythhcnlmjcpkbnaa
open Go.RowKit
set_option linter.unusedVariables false

/-- What is wrong with a field's being there so often. -/
def timesE (r : Int) (m : Nat) : Int :=
  if r = 0 then (if m = 1 then 0 else 13) else if r = 1 then (if m ≤ 1 then 0 else 13) else if r = 2 then (if m ≤ 50 then 0 else 4) else 0

/-- Is a number beyond those of a kind? -/
def overB (k n : Int) : Bool := decide (k = 1 ∧ (n < 0 ∨ 1 < n) ∨ k = 2 ∧ (n < -2147483648 ∨ 2147483647 < n))

/-- What is wrong with a leaf's value. -/
def leafE (k : Int) (t : Tr) : Int :=
  if 0 < t.k.length ∨ (k = 4 ∧ t.n ≠ 0) ∨ (k ≠ 4 ∧ t.s ≠ ByteArray.empty) then 13 else if overB k t.n = true then 14 else if 100 < t.s.size then 5 else 0

set_option maxRecDepth 100000 in
theorem times_any (r : Int) (m : Nat) (w : World) (hm : m ≤ maxLen) : Calls Try.prog 137 #[.int .i64 r, .int .i64 (m : Int)] w fun e w' => e = .returned (.int .i64 (timesE r m)) ∧ Chg [] w w' := by
  have HE := Lib.hid (show timesE r m = timesE r m from rfl)
  by_cases h0 : r = 0
  · subst h0
    by_cases h1 : m < 1
    · have d1 : decide ((m : Int) < 1) = true := by simp; omega
      have E := Lib.hid (show timesE 0 m = 13 by unfold timesE; rw [if_pos rfl, if_neg (by omega)])
      go_enter Try.func137, Try.ntmps137
      go_wp2
      go_ret
      exact ⟨ret_int E.out.symm, Chg.refl [] w⟩
    · by_cases h2 : 1 < m
      · have d1 : decide ((m : Int) < 1) = false := by simp; omega
        have d2 : decide ((1 : Int) < (m : Int)) = true := by simp; omega
        have E := Lib.hid (show timesE 0 m = 13 by unfold timesE; rw [if_pos rfl, if_neg (by omega)])
        go_enter Try.func137, Try.ntmps137
        go_wp2
        go_ret
        exact ⟨ret_int E.out.symm, Chg.refl [] w⟩
      · have d1 : decide ((m : Int) < 1) = false := by simp; omega
        have d2 : decide ((1 : Int) < (m : Int)) = false := by simp; omega
        have E := Lib.hid (show timesE 0 m = 0 by unfold timesE; rw [if_pos rfl, if_pos (by omega)])
        go_enter Try.func137, Try.ntmps137
        go_wp2
        go_ret
        exact ⟨ret_int E.out.symm, Chg.refl [] w⟩
  have e0 : (r == 0) = false := by simpa using h0
  by_cases h1 : r = 1
  · subst h1
    by_cases h2 : 1 < m
    · have d2 : decide ((1 : Int) < (m : Int)) = true := by simp; omega
      have E := Lib.hid (show timesE 1 m = 13 by unfold timesE; rw [if_neg (by omega), if_pos rfl, if_neg (by omega)])
      go_enter Try.func137, Try.ntmps137
      go_wp2
      go_ret
      exact ⟨ret_int E.out.symm, Chg.refl [] w⟩
    · have d2 : decide ((1 : Int) < (m : Int)) = false := by simp; omega
      have E := Lib.hid (show timesE 1 m = 0 by unfold timesE; rw [if_neg (by omega), if_pos rfl, if_pos (by omega)])
      go_enter Try.func137, Try.ntmps137
      go_wp2
      go_ret
      exact ⟨ret_int E.out.symm, Chg.refl [] w⟩
  have e1 : (r == 1) = false := by simpa using h1
  by_cases h2 : r = 2
  · subst h2
    by_cases h3 : 50 < m
    · have d2 : decide ((50 : Int) < (m : Int)) = true := by simp; omega
      have E := Lib.hid (show timesE 2 m = 4 by unfold timesE; rw [if_neg (by omega), if_neg (by omega), if_pos rfl, if_neg (by omega)])
      go_enter Try.func137, Try.ntmps137
      go_wp2
      go_ret
      exact ⟨ret_int E.out.symm, Chg.refl [] w⟩
    · have d2 : decide ((50 : Int) < (m : Int)) = false := by simp; omega
      have E := Lib.hid (show timesE 2 m = 0 by unfold timesE; rw [if_neg (by omega), if_neg (by omega), if_pos rfl, if_pos (by omega)])
      go_enter Try.func137, Try.ntmps137
      go_wp2
      go_ret
      exact ⟨ret_int E.out.symm, Chg.refl [] w⟩
  have e2 : (r == 2) = false := by simpa using h2
  have E := Lib.hid (show timesE r m = 0 by unfold timesE; rw [if_neg h0, if_neg h1, if_neg h2])
  clear h0 h1 h2
  go_enter Try.func137, Try.ntmps137
  go_wp2
  go_ret
  exact ⟨ret_int E.out.symm, Chg.refl [] w⟩

theorem wrap32 (n : Int) : IntKind.i32.wrap n = (n + 2147483648) % 4294967296 - 2147483648 := by
  simp only [IntKind.wrap, IntKind.bits, IntKind.signed]
  simp
  omega

set_option maxRecDepth 100000 in
theorem isOver_any (k n : Int) (w : World) : Calls Try.prog 125 #[.int .i64 k, .int .i64 n] w fun e w' => e = .returned (.bool (overB k n)) ∧ Chg [] w w' := by
  by_cases h1 : k = 1
  · subst h1
    by_cases h2 : n < 0
    · have d1 : decide (n < 0) = true := by simpa using h2
      have E := Lib.hid (show overB 1 n = true by unfold overB; rw [decide_eq_true_iff]; exact .inl ⟨rfl, .inl h2⟩)
      go_enter Try.func125, Try.ntmps125
      go_wp2
      go_ret
      exact ⟨ret_bool E.out.symm, Chg.refl [] w⟩
    · have d1 : decide (n < 0) = false := by simpa using h2
      by_cases h3 : 1 < n
      · have d2 : decide ((1 : Int) < n) = true := by simpa using h3
        have E := Lib.hid (show overB 1 n = true by unfold overB; rw [decide_eq_true_iff]; exact .inl ⟨rfl, .inr h3⟩)
        go_enter Try.func125, Try.ntmps125
        go_wp2
        go_ret
        exact ⟨ret_bool E.out.symm, Chg.refl [] w⟩
      · have d2 : decide ((1 : Int) < n) = false := by simpa using h3
        have E := Lib.hid (show overB 1 n = false by unfold overB; rw [decide_eq_false_iff_not]; omega)
        go_enter Try.func125, Try.ntmps125
        go_wp2
        go_ret
        exact ⟨ret_bool E.out.symm, Chg.refl [] w⟩
  have e1 : (k == 1) = false := by simpa using h1
  by_cases h2 : k = 2
  · subst h2
    have hw := wrap32 n
    obtain ⟨m, hm⟩ : ∃ m, m = IntKind.i32.wrap n := ⟨_, rfl⟩
    rw [← hm] at hw
    have hm1 : -2147483648 ≤ m ∧ m ≤ 2147483647 := by omega
    have hm2 : IntKind.i64.wrap m = m := by simp only [IntKind.wrap, IntKind.bits, IntKind.signed]; simp; omega
    by_cases h3 : n < -2147483648 ∨ 2147483647 < n
    · have E := Lib.hid (show overB 2 n = true by unfold overB; rw [decide_eq_true_iff]; exact .inr ⟨rfl, h3⟩)
      have hne : ¬ (n = m) := by omega
      have d1 : (n != m) = true := by simpa using hne
      have HM := Lib.hid hm
      have hm' := hm.symm
      clear hw h3 hm e1 h1
      go_enter Try.func125, Try.ntmps125
      go_wp2
      go_ret
      exact ⟨ret_bool E.out.symm, Chg.refl [] w⟩
    · have E := Lib.hid (show overB 2 n = false by unfold overB; rw [decide_eq_false_iff_not]; omega)
      have he : m = n := by omega
      subst he
      have hm' := hm.symm
      have d1 : (m != m) = false := by simp
      clear hw h3 hm e1 h1
      go_enter Try.func125, Try.ntmps125
      go_wp2
      go_ret
      exact ⟨ret_bool E.out.symm, Chg.refl [] w⟩
  have e2 : (k == 2) = false := by simpa using h2
  have E := Lib.hid (show overB k n = false by unfold overB; rw [decide_eq_false_iff_not]; omega)
  clear h1 h2
  go_enter Try.func125, Try.ntmps125
  go_wp2
  go_ret
  exact ⟨ret_bool E.out.symm, Chg.refl [] w⟩

/-- A tree as an argument. -/
abbrev tv (n : Int) (s : ByteArray) (kv : Value) : Value := .agg #[.int .i64 n, .string s, kv]

theorem empty_list {s : ByteArray} : s.toList = [] ↔ s = ByteArray.empty := by
  rw [ByteArray.toList_eq]
  constructor
  · intro h
    cases s
    simp only at h
    have e := Array.toList_eq_nil_iff.1 h
    rw [e]; rfl
  · rintro rfl; rfl

set_option maxRecDepth 100000 in
set_option maxHeartbeats 1000000 in
theorem leaf_any (k n : Int) (s : ByteArray) (ao : Option Addr) (m cap : Nat) (w : World) (K : List (List Tr)) (hK : K.length = m) :
    Calls Try.prog 99 #[.int .i64 k, tv n s (.slice ao m cap)] w fun e w' => e = .returned (.int .i64 (leafE k (.mk n s K))) ∧ Chg [] w w' := by
  have HE := Lib.hid (show leafE k (.mk n s K) = if 0 < m ∨ (k = 4 ∧ n ≠ 0) ∨ (k ≠ 4 ∧ s ≠ ByteArray.empty) then 13 else if overB k n = true then 14 else if 100 < s.size then 5 else 0 by unfold leafE; rw [← hK]; rfl)
  have HA := Lib.hid ((Chg.refl [] w).alloc (.cells #[.int .i64 n, .string s, .slice ao m cap] 30))
  clear hK
  by_cases h1 : 0 < m
  · have d1 : decide ((0 : Int) < (m : Int)) = true := by simp; omega
    have E := Lib.hid (show leafE k (.mk n s K) = 13 by rw [HE.out, if_pos (.inl h1)])
    clear HE d1
    obtain ⟨b, hb⟩ : ∃ b, b = (k == 4) := ⟨_, rfl⟩
    have hb' := hb.symm
    clear hb
    go_enter Try.func99, Try.ntmps99
    go_wp2
    go_ret
    exact ⟨ret_int E.out.symm, HA.out⟩
  have hov : ∀ b, Hid (overB k n = b) → (leafE k (.mk n s K) = if (k = 4 ∧ n ≠ 0) ∨ (k ≠ 4 ∧ s ≠ ByteArray.empty) then 13 else if b = true then 14 else if 100 < s.size then 5 else 0) := fun b hb => by
    rw [HE.out, ← hb.out]
    have e : (0 < m ∨ (k = 4 ∧ n ≠ 0) ∨ (k ≠ 4 ∧ s ≠ ByteArray.empty)) ↔ ((k = 4 ∧ n ≠ 0) ∨ (k ≠ 4 ∧ s ≠ ByteArray.empty)) := ⟨fun h => h.elim (fun h => absurd h h1) id, .inr⟩
    simp only [e]
  have HOV := Lib.hid hov
  clear hov
  obtain ⟨ob, hob⟩ : ∃ b, overB k n = b := ⟨_, rfl⟩
  have HOB := Lib.hid hob
  clear hob HE
  by_cases h4 : k = 4
  · have e4 : (k == 4) = true := by simpa using h4
    by_cases hn0 : n = 0
    · have d3 : (n != 0) = false := by simpa using hn0
      have E1 := Lib.hid (show leafE k (.mk n s K) = if ob = true then 14 else if 100 < s.size then 5 else 0 by rw [HOV.out ob HOB, if_neg (by rintro (h | h); exact h.2 hn0; exact h.1 h4)])
      clear h4 hn0
      cases ob
      case true =>
        go_enter Try.func99, Try.ntmps99
        go_wp2_with fail
        (with_reducible refine (isOver_any k n _).mono ?_)
        rw [HOB.out]
        rintro e w1 ⟨rfl, hk⟩
        have HK := Lib.hid (HA.out.trans hk (by simp)); clear hk
        go_wp2
        go_ret
        exact ⟨ret_int (by rw [E1.out]; rfl), HK.out⟩
      case false =>
        by_cases hz : 100 < s.size
        · have d5 : decide ((100 : Int) < (s.size : Int)) = true := by simp; omega
          go_enter Try.func99, Try.ntmps99
          go_wp2_with fail
          (with_reducible refine (isOver_any k n _).mono ?_)
          rw [HOB.out]
          rintro e w1 ⟨rfl, hk⟩
          have HC1 : ∀ {p v}, (w.alloc (.cells #[.int .i64 n, .string s, .slice ao m cap] 30)).cell? p = some v → w1.cell? p = some v := fun h => hk.cell h (by simp)
          have c1 : w1.cell? ⟨w.heap.size, 1, none⟩ = some (.string s) := HC1 (by simp)
          have HK := Lib.hid (HA.out.trans hk (by simp)); clear hk HC1
          go_wp2
          go_ret
          exact ⟨ret_int (by rw [E1.out]; simp [hz]), HK.out⟩
        · have d5 : decide ((100 : Int) < (s.size : Int)) = false := by simp; omega
          go_enter Try.func99, Try.ntmps99
          go_wp2_with fail
          (with_reducible refine (isOver_any k n _).mono ?_)
          rw [HOB.out]
          rintro e w1 ⟨rfl, hk⟩
          have HC1 : ∀ {p v}, (w.alloc (.cells #[.int .i64 n, .string s, .slice ao m cap] 30)).cell? p = some v → w1.cell? p = some v := fun h => hk.cell h (by simp)
          have c1 : w1.cell? ⟨w.heap.size, 1, none⟩ = some (.string s) := HC1 (by simp)
          have HK := Lib.hid (HA.out.trans hk (by simp)); clear hk HC1
          go_wp2
          go_ret
          exact ⟨ret_int (by rw [E1.out]; simp [hz]), HK.out⟩
    · have d3 : (n != 0) = true := by simpa using hn0
      have E1 := Lib.hid (show leafE k (.mk n s K) = 13 by rw [HOV.out ob HOB, if_pos (.inl ⟨h4, hn0⟩)])
      clear h4
      go_enter Try.func99, Try.ntmps99
      go_wp2
      go_ret
      exact ⟨ret_int E1.out.symm, HA.out⟩
  have e4 : (k == 4) = false := by simpa using h4
  by_cases hs0 : s = ByteArray.empty
  · have E1 := Lib.hid (show leafE k (.mk n s K) = if ob = true then 14 else 0 by
      rw [HOV.out ob HOB, if_neg (by rintro (h | h); exact h4 h.1; exact h.2 hs0), hs0]
      simp)
    subst hs0
    clear h4
    cases ob
    all_goals
      go_enter Try.func99, Try.ntmps99
      go_wp2_with fail
      (with_reducible refine (isOver_any k n _).mono ?_)
      rw [HOB.out]
      rintro e w1 ⟨rfl, hk⟩
      have HC1 : ∀ {p v}, (w.alloc (.cells #[.int .i64 n, .string ByteArray.empty, .slice ao m cap] 30)).cell? p = some v → w1.cell? p = some v := fun h => hk.cell h (by simp)
      have c1 : w1.cell? ⟨w.heap.size, 1, none⟩ = some (.string ByteArray.empty) := HC1 (by simp)
      have HK := Lib.hid (HA.out.trans hk (by simp)); clear hk HC1
      go_wp2
      go_ret
      exact ⟨ret_int (by rw [E1.out]; rfl), HK.out⟩
  · have hs1 : ¬ s.toList = [] := fun h => hs0 (empty_list.1 h)
    have hs2 : s.toList.isEmpty = false := by simpa using hs1
    have E1 := Lib.hid (show leafE k (.mk n s K) = 13 by rw [HOV.out ob HOB, if_pos (.inr ⟨h4, hs0⟩)])
    clear h4 hs0
    go_enter Try.func99, Try.ntmps99
    go_wp2
    go_ret
    exact ⟨ret_int E1.out.symm, HA.out⟩

end Go.Proofs.Ythhcnlmjcpkbnaa
