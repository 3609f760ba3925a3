/- The cursor's Reader and the reference's, side by side: each method of both. -/
import Derived.Test.YthfdfmdeojaabaaRefg
namespace Go.Proofs.Ythfdfmdeojaabaa
open Go.RowKit
set_option linter.unusedVariables false

/-- What a Reader has still to read, when the reference's is at a with error e. -/
def restOf (zs : List Int) (a : Nat) (e : Int) : List Int := if e = 0 then zs.drop a else []

theorem restOf_len (zs : List Int) (a : Nat) (e : Int) (ha : a ≤ zs.length) : ((restOf zs a e).length : Int) = if e = 0 then (zs.length : Int) - a else 0 := by
  unfold restOf
  split
  · simp; omega
  · rfl

theorem restOf_le (zs : List Int) (a : Nat) (e : Int) : (restOf zs a e).length ≤ zs.length := by
  unfold restOf
  split <;> simp

theorem restOf_end (zs : List Int) (a : Nat) (e : Int) (ha : a ≤ zs.length) : (if restOf zs a e = [] then e else 9) = if e = 0 ∧ a < zs.length then 9 else e := by
  unfold restOf
  by_cases he : e = 0
  · subst he
    by_cases hl : a < zs.length
    · rw [if_pos rfl, if_neg, if_pos ⟨rfl, hl⟩]
      intro h
      have := congrArg List.length h
      simp at this
      omega
    · rw [if_pos rfl, if_pos, if_neg (by omega)]
      apply List.eq_nil_of_length_eq_zero
      simp; omega
  · rw [if_neg he, if_pos rfl, if_neg (by omega)]

theorem restOf_nil {zs : List Int} {a : Nat} {e : Int} (h : e ≠ 0) : restOf zs a e = [] := by unfold restOf; rw [if_neg h]
theorem restOf_ok (zs : List Int) (a : Nat) : restOf zs a 0 = zs.drop a := by unfold restOf; rw [if_pos rfl]

/-- The two Readers stand at the same place. -/
def Pair (zs : List Int) (r x M1 M2 : Nat) (w w' : World) : Prop :=
  ∃ (a : Nat) (e : Int), a ≤ zs.length ∧ Chg [] w w' ∧ XR w' x zs a e M2 ∧ Rd w' r (restOf zs a e) e M1

section
variable {zs : List Int} {r x M1 M2 : Nat} {w0 : World}

/-- Both Readers from here: what the second call answers, and that they stand together again. -/
def GetMid (zs : List Int) (r x M1 M2 : Nat) (n v : Int) (w0 w : World) : Prop :=
  Calls Try.prog 14 #[.pointer (some ⟨x, 0, none⟩), .int .i64 n] w fun y w' => y = .returned (.int .u64 v) ∧ Pair zs r x M1 M2 w0 w'

theorem chg0 {w w' : World} {k : Nat} (h : Chg [] w0 w) (g : Chg [k] w w') (hk : w0.heap.size ≤ k) : Chg [] w0 w' := h.trans g (by simp; exact hk)

theorem pair_get (n : Int) (w : World) (hz : zs.length ≤ 140737488355328) (hwf : Wf zs) (hr : w0.heap.size ≤ r) (hx : w0.heap.size ≤ x) (hP : Pair zs r x M1 M2 w0 w) :
    Calls Try.prog 13 #[.pointer (some ⟨r, 0, none⟩), .int .i64 n] w fun y w' => ∃ v, y = .returned (.int .u64 v) ∧ GetMid zs r x M1 M2 n v w0 w' := by
  obtain ⟨a, e, ha, hc, hX, hR⟩ := hP
  obtain ⟨k, hk, hk8⟩ := width_nat n
  have hle := restOf_le zs a e
  have hrz : (restOf zs a e).length ≤ 140737488355328 := by omega
  by_cases hk0 : k = 0
  · subst hk0
    refine (get_yes r n e 0 w _ hrz (by unfold restOf; split; exact hwf.drop a; simp [Wf]) hR hk (Nat.zero_le _)).mono ?_
    rintro y w1 ⟨rfl, g1, g2⟩
    refine ⟨0, rfl, ?_⟩
    refine (xget_none x n e w1 zs a (hX.keepRd hR g1) (.inr hk)).mono ?_
    rintro y w2 ⟨rfl, rfl⟩
    exact ⟨rfl, a, e, ha, chg0 hc g1 hr, hX.keepRd hR g1, g2⟩
  · have hkp : 0 < k := by omega
    have hnk : n = (k : Int) := by unfold widthOf at hk; split at hk <;> omega
    by_cases he : e = 0
    · subst he
      rw [restOf_ok] at hR hrz
      have hdl : (zs.drop a).length = zs.length - a := by simp
      by_cases hl : a + k ≤ zs.length
      · refine (get_yes r n 0 k w _ hrz (hwf.drop a) hR hk (by omega)).mono ?_
        rintro y w1 ⟨rfl, g1, g2⟩
        refine ⟨_, rfl, ?_⟩
        subst hnk
        refine (xget_yes x k w1 zs a hz hwf (hX.keepRd hR g1) hkp hk8 hl).mono ?_
        rintro y w2 ⟨rfl, g3, g4⟩
        refine ⟨rfl, a + k, 0, hl, chg0 (chg0 hc g1 hr) g3 hx, g4, ?_⟩
        rw [restOf_ok]
        rw [List.drop_drop] at g2
        exact g2.keepXR (hX.keepRd hR g1) g3
      · refine (get_no r n 0 w _ hrz hR (fun h => absurd rfl h) (by rw [hk]; omega)).mono ?_
        rintro y w1 ⟨rfl, g1, g2⟩
        refine ⟨0, rfl, ?_⟩
        subst hnk
        refine (xget_cut x k w1 zs a hz (hX.keepRd hR g1) hkp hk8 (by omega)).mono ?_
        rintro y w2 ⟨rfl, g3, g4⟩
        rw [if_pos rfl] at g2
        exact ⟨rfl, a, 8, ha, chg0 (chg0 hc g1 hr) g3 hx, g4, by rw [restOf_nil (by decide)]; exact g2.keepXR (hX.keepRd hR g1) g3⟩
    · rw [restOf_nil he] at hR
      refine (get_no r n e w [] (by simp) hR (fun _ => rfl) (by rw [hk]; simp; omega)).mono ?_
      rintro y w1 ⟨rfl, g1, g2⟩
      refine ⟨0, rfl, ?_⟩
      refine (xget_none x n e w1 zs a (hX.keepRd hR g1) (.inl he)).mono ?_
      rintro y w2 ⟨rfl, rfl⟩
      rw [if_neg he] at g2
      exact ⟨rfl, a, e, ha, chg0 hc g1 hr, hX.keepRd hR g1, by rw [restOf_nil he]; exact g2⟩

/-- The second Take: both slices read alike, and the Readers stand together again. -/
def TakeMid (zs : List Int) (r x M1 M2 : Nat) (n : Int) (v : Value) (l : List Int) (w0 w : World) : Prop :=
  Calls Try.prog 16 #[.pointer (some ⟨x, 0, none⟩), .int .i64 n] w fun y w' => ∃ v2, y = .returned v2 ∧ Seen w' v (bys l) ∧ Seen w' v2 (bys l) ∧ Pair zs r x M1 M2 w0 w'

theorem seen_keepX {w w' : World} {v : Value} {l : List Int} {k B : Nat} {n : Nat} (h : w.ownsRow B 5 1 v n (bys l)) {bs : List Int} {a : Nat} {e : Int} {M : Nat} (hX : XR w k bs a e M) (hc : Chg [k] w w') : Seen w' v (bys l) := by
  obtain ⟨v', h1, _⟩ := hX
  have hn := (tagged_of_own h).ne h1 (by decide)
  exact ((reads_of_own h).keep hc (fun g hg => by simpa using hn g hg)).seen

theorem pair_take (n : Int) (w : World) (hz : zs.length ≤ 140737488355328) (hr : w0.heap.size ≤ r) (hx : w0.heap.size ≤ x) (hP : Pair zs r x M1 M2 w0 w) :
    Calls Try.prog 15 #[.pointer (some ⟨r, 0, none⟩), .int .i64 n] w fun y w' => ∃ v l, y = .returned v ∧ Seen w' v (bys l) ∧ TakeMid zs r x M1 M2 n v l w0 w' := by
  obtain ⟨a, e, ha, hc, hX, hR⟩ := hP
  have hle := restOf_le zs a e
  have hrz : (restOf zs a e).length ≤ 140737488355328 := by omega
  rcases Int.lt_or_le 0 n with hp | hp
  · obtain ⟨k, rfl⟩ : ∃ k : Nat, n = (k : Int) := ⟨n.toNat, by omega⟩
    by_cases he : e = 0
    · subst he
      rw [restOf_ok] at hR hrz
      have hdl : (zs.drop a).length = zs.length - a := by simp
      by_cases hl : a + k ≤ zs.length
      · refine (take_any r k k 0 w _ hrz hR (by omega) (by omega)).mono ?_
        rintro y w1 ⟨v, rfl, g1, g2, g3⟩
        refine ⟨v, _, rfl, (reads_of_own g3).seen, ?_⟩
        refine (xtake_yes x k w1 zs a hz (hX.keepRd hR g1) (by omega) hl).mono ?_
        rintro y w2 ⟨v2, rfl, g4, g5, g6⟩
        refine ⟨v2, rfl, seen_keepX g3 (hX.keepRd hR g1) g4, (reads_of_own g6).seen, a + k, 0, hl, chg0 (chg0 hc g1 hr) g4 hx, g5, ?_⟩
        rw [restOf_ok]
        rw [List.drop_drop] at g2
        exact g2.keepXR (hX.keepRd hR g1) g4
      · refine (take_no r k 0 w _ hrz hR (fun h => absurd rfl h) (by omega)).mono ?_
        rintro y w1 ⟨rfl, g1, g2⟩
        refine ⟨_, [], rfl, Seen.nil _, ?_⟩
        refine (xtake_cut x k w1 zs a hz (hX.keepRd hR g1) hp (by omega)).mono ?_
        rintro y w2 ⟨rfl, g3, g4⟩
        rw [if_pos rfl] at g2
        exact ⟨_, rfl, Seen.nil _, Seen.nil _, a, 8, ha, chg0 (chg0 hc g1 hr) g3 hx, g4, by rw [restOf_nil (by decide)]; exact g2.keepXR (hX.keepRd hR g1) g3⟩
    · rw [restOf_nil he] at hR
      refine (take_no r k e w [] (by simp) hR (fun _ => rfl) (by simpa using hp)).mono ?_
      rintro y w1 ⟨rfl, g1, g2⟩
      refine ⟨_, [], rfl, Seen.nil _, ?_⟩
      refine (xtake_none x k e w1 zs a (hX.keepRd hR g1) (.inl he)).mono ?_
      rintro y w2 ⟨rfl, rfl⟩
      rw [if_neg he] at g2
      exact ⟨_, rfl, Seen.nil _, Seen.nil _, a, e, ha, chg0 hc g1 hr, hX.keepRd hR g1, by rw [restOf_nil he]; exact g2⟩
  · refine (take_zero r e w _ hrz hR n hp).mono ?_
    rintro y w1 ⟨v, rfl, g1, g2, g3⟩
    rw [List.take_zero] at g3
    refine ⟨v, [], rfl, (reads_of_own g3).seen, ?_⟩
    refine (xtake_none x n e w1 zs a (hX.keepRd hR g1) (.inr hp)).mono ?_
    rintro y w2 ⟨rfl, rfl⟩
    exact ⟨_, rfl, (reads_of_own g3).seen, Seen.nil _, a, e, ha, chg0 hc g1 hr, hX.keepRd hR g1, g2⟩

/-- The second Fail. -/
def FailMid (zs : List Int) (r x M1 M2 : Nat) (e' : Int) (w0 w : World) : Prop :=
  Chg [] w0 w ∧ Calls Try.prog 18 #[.pointer (some ⟨x, 0, none⟩), .int .i64 e'] w fun y w' => y = .returned (.tuple #[]) ∧ Pair zs r x M1 M2 w0 w'

theorem pair_fail (e' : Int) (w : World) (hr : w0.heap.size ≤ r) (hx : w0.heap.size ≤ x) (hP : Pair zs r x M1 M2 w0 w) :
    Calls Try.prog 17 #[.pointer (some ⟨r, 0, none⟩), .int .i64 e'] w fun y w' => y = .returned (.tuple #[]) ∧ FailMid zs r x M1 M2 e' w0 w' := by
  obtain ⟨a, e, ha, hc, hX, hR⟩ := hP
  by_cases he : e = 0
  · subst he
    by_cases he' : e' = 0
    · subst he'
      refine (fail_kept r 0 0 w _ hR (.inr rfl)).mono ?_
      rintro y w1 ⟨rfl, rfl⟩
      refine ⟨rfl, hc, ?_⟩
      refine (xfail_set x 0 w zs a hX).mono ?_
      rintro y w2 ⟨rfl, g3, g4⟩
      exact ⟨rfl, a, 0, ha, chg0 hc g3 hx, g4, hR.keepXR hX g3⟩
    · rw [restOf_ok] at hR
      refine (fail_set r e' w _ hR he').mono ?_
      rintro y w1 ⟨rfl, g1, g2⟩
      refine ⟨rfl, chg0 hc g1 hr, ?_⟩
      refine (xfail_set x e' w1 zs a (hX.keepRd hR g1)).mono ?_
      rintro y w2 ⟨rfl, g3, g4⟩
      exact ⟨rfl, a, e', ha, chg0 (chg0 hc g1 hr) g3 hx, g4, by rw [restOf_nil he']; exact (g2.mono (Nat.zero_le _)).keepXR (hX.keepRd hR g1) g3⟩
  · refine (fail_kept r e e' w _ hR (.inl he)).mono ?_
    rintro y w1 ⟨rfl, rfl⟩
    refine ⟨rfl, hc, ?_⟩
    refine (xfail_kept x e e' w zs a hX he).mono ?_
    rintro y w2 ⟨rfl, rfl⟩
    exact ⟨rfl, a, e, ha, hc, hX, hR⟩

theorem pair_drewN {w : World} (h : Pair zs r x M1 M2 w0 w) (n : Nat) : Pair zs r x M1 M2 w0 (w.drewN n) := by
  obtain ⟨a, e, ha, hc, hX, hR⟩ := h
  exact ⟨a, e, ha, hc.drewN n, hX.keep0 ((Chg.refl _ _).drewN n), hR.keep0 ((Chg.refl _ _).drewN n)⟩

theorem convs {w : World} {v : Value} {l : List Int} (h : Seen w v (bys l)) : (convert 22 9 v).run Try.prog w = .ok (.string (strOfNums l)) w :=
  run_convert_seen h 22 9 5 Try.underlying22 Try.underlying5 Try.underlying9

end
end Go.Proofs.Ythfdfmdeojaabaa
