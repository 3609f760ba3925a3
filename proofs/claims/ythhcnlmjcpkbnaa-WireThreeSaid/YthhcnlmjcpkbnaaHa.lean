/- wire: signs, and what kind and signs tell of a field. -/
import Derived.Test.YthhcnlmjcpkbnaaYb
import Derived.Test.YthhcnlmjcpkbnaaA5
namespace Go.Proofs.Ythhcnlmjcpkbnaa
open Go.RowKit
set_option linter.unusedVariables false

/-- The sign of a kind. -/
def kd (k : Int) : Nat := if k = 1 then 98 else if k = 2 then 105 else if k = 3 then 108 else if k = 4 then 116 else 40
/-- The signs of a field itself. -/
def sg (f : F) : List Nat := if f.r = 1 then [63, kd f.k] else if f.r = 2 then [42, kd f.k] else [kd f.k]
/-- The signs of fields beside one another. -/
def Fo.sg : Fo → List Nat
  | .nil => []
  | .leaf f t => Go.Proofs.Ythhcnlmjcpkbnaa.sg f ++ t.sg
  | .group f k t => Go.Proofs.Ythhcnlmjcpkbnaa.sg f ++ (k.sg ++ (41 :: t.sg))

theorem kd_lt (k : Int) : kd k < 128 := by unfold kd; repeat (first | (split) | omega)
theorem sg_lt (f : F) : ∀ x ∈ sg f, x < 128 := by
  intro x hx
  have := kd_lt f.k
  unfold sg at hx
  split at hx
  · simp at hx; omega
  · split at hx
    · simp at hx; omega
    · simp at hx; omega
theorem sg_len (f : F) : 1 ≤ (sg f).length ∧ (sg f).length ≤ 2 := by unfold sg; split <;> (try split) <;> simp

set_option maxRecDepth 100000 in
theorem kind_any (k : Int) (w : World) : Calls Try.prog 126 #[.int .i64 k] w fun e w' => e = .returned (.int .i32 (kd k : Nat)) ∧ w = w' := by
  by_cases h1 : k = 1
  · subst h1
    go_enter Try.func126, Try.ntmps126
    go_wp2
    go_ret
    exact ⟨rfl, rfl⟩
  by_cases h2 : k = 2
  · subst h2
    go_enter Try.func126, Try.ntmps126
    go_wp2
    go_ret
    exact ⟨rfl, rfl⟩
  by_cases h3 : k = 3
  · subst h3
    go_enter Try.func126, Try.ntmps126
    go_wp2
    go_ret
    exact ⟨rfl, rfl⟩
  by_cases h4 : k = 4
  · subst h4
    go_enter Try.func126, Try.ntmps126
    go_wp2
    go_ret
    exact ⟨rfl, rfl⟩
  have e1 : (k == 1) = false := by simpa using h1
  have e2 : (k == 2) = false := by simpa using h2
  have e3 : (k == 3) = false := by simpa using h3
  have e4 : (k == 4) = false := by simpa using h4
  have E := Lib.hid (show kd k = 40 by unfold kd; rw [if_neg h1, if_neg h2, if_neg h3, if_neg h4])
  clear h1 h2 h3 h4
  go_enter Try.func126, Try.ntmps126
  go_wp2
  go_ret
  rw [E.out]
  exact ⟨rfl, rfl⟩

/-- A literal row of numbers. -/
theorem made_lit (w0 w : World) (hc : Chg [] w0 w) (T : TypeId) (k : IntKind) (l : List Nat) (C : Array Value) (g n : Nat) (hg : g = w.heap.size) (hC : C.toList = nv k l) (hn : n = l.length) (hm : n ≤ maxLen) : Made T k l w0 (.slice (some ⟨g, 0, none⟩) n n) (w.alloc (.cells C T)) := by
  subst hn hg
  have hs : C.size = l.length := by rw [← Array.length_toList, hC, nv_length]
  refine ⟨hc.alloc _, ?_⟩
  exact own_lit w w.heap.size w0.heap.size rfl hc.size T C (nv k l) l.length 1 hC (by rw [hs]; omega) hm

set_option maxRecDepth 100000 in
set_option maxHeartbeats 400000 in
theorem signs_any (f : F) (w : World) : Calls Try.prog 102 #[.agg #[.string f.n, .int .i64 f.r, .int .i64 f.k, .int .i64 f.c]] w fun e w' => ∃ x, e = .returned x ∧ Made 21 .i32 (sg f) w x w' := by
  have HC := Lib.hid ((Chg.refl [] w).alloc (.cells #[.string f.n, .int .i64 f.r, .int .i64 f.k, .int .i64 f.c] 78))
  obtain ⟨kk, hk⟩ : ∃ kk, kk = kd f.k := ⟨_, rfl⟩
  by_cases h1 : f.r = 1
  · have e1 : (f.r == 1) = true := by simpa using h1
    have E := Lib.hid (show sg f = [63, kk] by unfold sg; rw [if_pos h1, hk])
    have HK := Lib.hid hk
    clear h1 hk
    go_enter Try.func102, Try.ntmps102
    go_wp2_with fail
    refine (kind_any f.k _).mono ?_
    rintro e w1 ⟨rfl, rfl⟩
    rw [← HK.out]
    go_wp2
    go_ret
    rw [E.out]
    exact ⟨_, rfl, made_lit w _ HC.out _ _ _ _ _ _ (by simp) rfl rfl (by decide)⟩
  have e1 : (f.r == 1) = false := by simpa using h1
  by_cases h2 : f.r = 2
  · have e2 : (f.r == 2) = true := by simpa using h2
    have E := Lib.hid (show sg f = [42, kk] by unfold sg; rw [if_neg h1, if_pos h2, hk])
    have HK := Lib.hid hk
    clear h1 h2 hk
    go_enter Try.func102, Try.ntmps102
    go_wp2_with fail
    refine (kind_any f.k _).mono ?_
    rintro e w1 ⟨rfl, rfl⟩
    rw [← HK.out]
    go_wp2
    go_ret
    rw [E.out]
    exact ⟨_, rfl, made_lit w _ HC.out _ _ _ _ _ _ (by simp) rfl rfl (by decide)⟩
  have e2 : (f.r == 2) = false := by simpa using h2
  have E := Lib.hid (show sg f = [kk] by unfold sg; rw [if_neg h1, if_neg h2, hk])
  have HK := Lib.hid hk
  clear h1 h2 hk
  go_enter Try.func102, Try.ntmps102
  go_wp2_with fail
  refine (kind_any f.k _).mono ?_
  rintro e w1 ⟨rfl, rfl⟩
  rw [← HK.out]
  go_wp2
  go_ret
  rw [E.out]
  exact ⟨_, rfl, made_lit w _ HC.out _ _ _ _ _ _ (by simp) rfl rfl (by decide)⟩

end Go.Proofs.Ythhcnlmjcpkbnaa
