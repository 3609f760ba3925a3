/- stat: what is known of cells, as an argument; which it is; Same. -/
import Derived.Test.YtgfjmbjpikcffaaCa
import Derived.Test.YtgfjmbjpikcffaaUa
namespace Go.Proofs.Ytgfjmbjpikcffaa
open Go.RowKit
set_option linter.unusedVariables false
set_option linter.unusedSimpArgs false

/-- The order of two values of a kind. -/
def cv (k : Nat) (a b : V) : Int := cmpV (k : Int) a.n a.s b.n b.s

theorem ordI_cases (x y : Int) : (ordI x y = -1 ∧ x < y) ∨ (ordI x y = 0 ∧ x = y) ∨ (ordI x y = 1 ∧ y < x) := by
  unfold ordI
  (repeat' split) <;> omega

theorem cmpL_neg : ∀ a b : List Nat, cmpL b a = - cmpL a b
  | [], [] => rfl
  | [], _ :: _ => rfl
  | _ :: _, [] => rfl
  | x :: xs, y :: ys => by
    rw [cmpL, cmpL]
    by_cases h : x = y
    · subst h; rw [if_pos rfl, if_pos rfl]; exact cmpL_neg xs ys
    · rw [if_neg h, if_neg (fun e => h e.symm)]
      have h1 := ordI_cases (x : Int) y; have h2 := ordI_cases (y : Int) x
      omega

theorem cmpL_rng : ∀ a b : List Nat, -1 ≤ cmpL a b ∧ cmpL a b ≤ 1
  | [], [] => by decide
  | [], _ :: _ => by rw [cmpL]; omega
  | _ :: _, [] => by rw [cmpL]; omega
  | x :: xs, y :: ys => by
    rw [cmpL]
    split
    · exact cmpL_rng xs ys
    · have h1 := ordI_cases (x : Int) y; omega

theorem cmpL_le : ∀ a b c : List Nat, cmpL a b ≤ 0 → cmpL b c ≤ 0 → cmpL a c ≤ 0
  | [], _, [], _, _ => by decide
  | [], _, _ :: _, _, _ => by rw [cmpL]; omega
  | _ :: _, [], _, h, _ => absurd h (by rw [cmpL]; omega)
  | _ :: _, _ :: _, [], _, h => absurd h (by rw [cmpL]; omega)
  | x :: xs, y :: ys, z :: zs, h1, h2 => by
    rw [cmpL] at h1 h2 ⊢
    have o1 := ordI_cases (x : Int) y; have o2 := ordI_cases (y : Int) z; have o3 := ordI_cases (x : Int) z
    by_cases e1 : x = y <;> by_cases e2 : y = z
    · subst e1 e2; rw [if_pos rfl] at h1 h2 ⊢; exact cmpL_le xs ys zs h1 h2
    · subst e1; rw [if_neg e2] at h2 ⊢; exact h2
    · subst e2; rw [if_neg e1] at h1 ⊢; exact h1
    · rw [if_neg e1] at h1; rw [if_neg e2] at h2
      rw [if_neg (by omega)]; omega

theorem cmpL_same : ∀ a b : List Nat, cmpL a b = 0 → a = b
  | [], [], _ => rfl
  | [], _ :: _, h => absurd h (by rw [cmpL]; omega)
  | _ :: _, [], h => absurd h (by rw [cmpL]; omega)
  | x :: xs, y :: ys, h => by
    rw [cmpL] at h
    by_cases e : x = y
    · subst e; rw [if_pos rfl] at h; rw [cmpL_same xs ys h]
    · rw [if_neg e] at h
      have h1 := ordI_cases (x : Int) y; omega

theorem cmpL_refl : ∀ a : List Nat, cmpL a a = 0
  | [] => rfl
  | x :: xs => by rw [cmpL, if_pos rfl]; exact cmpL_refl xs

theorem bl_inj {a b : ByteArray} (h : bl a = bl b) : a = b := by
  have e : ∀ s : ByteArray, s.data.toList.map (·.toNat) = bl s := fun s => rfl
  rw [← e, ← e] at h
  have := (List.map_inj_right (fun x y hxy => UInt8.toNat_inj.1 hxy)).1 h
  cases a; cases b
  congr 1
  exact Array.toList_inj.1 this

theorem cv_neg (k : Nat) (a b : V) : cv k b a = - cv k a b := by
  unfold cv cmpV
  split
  · exact cmpL_neg _ _
  · have h1 := ordI_cases a.n b.n; have h2 := ordI_cases b.n a.n; omega
theorem cv_rng (k : Nat) (a b : V) : -1 ≤ cv k a b ∧ cv k a b ≤ 1 := by
  unfold cv cmpV
  split
  · exact cmpL_rng _ _
  · have h1 := ordI_cases a.n b.n; omega
theorem cv_le (k : Nat) (a b c : V) (h1 : cv k a b ≤ 0) (h2 : cv k b c ≤ 0) : cv k a c ≤ 0 := by
  unfold cv cmpV at *
  split at h1
  · rename_i e; rw [if_pos e] at h2 ⊢; exact cmpL_le _ _ _ h1 h2
  · rename_i e; rw [if_neg e] at h2 ⊢
    have h1 := ordI_cases a.n b.n; have h2 := ordI_cases b.n c.n; have h3 := ordI_cases a.n c.n; omega
theorem cv_self (k : Nat) (a : V) : cv k a a = 0 := by
  have := cv_neg k a a; omega
theorem cv_same {k : Nat} (hk : 1 ≤ k ∧ k ≤ 4) {a b : V} (ha : okV k a) (hb : okV k b) (h : cv k a b = 0) : a = b := by
  obtain ⟨an, at'⟩ := a
  obtain ⟨bn, bs⟩ := b
  unfold cv cmpV at h
  unfold okV at ha hb
  have hc : k = 1 ∨ k = 2 ∨ k = 3 ∨ k = 4 := by omega
  rcases hc with rfl | rfl | rfl | rfl
  · rw [if_neg (by decide)] at h
    have h1 := ordI_cases an bn
    have e1 : at' = e0 := (ha.1 rfl).2
    have e2 : bs = e0 := (hb.1 rfl).2
    simp only at h
    rw [e1, e2, show an = bn by omega]
  · rw [if_neg (by decide)] at h
    have h1 := ordI_cases an bn
    have e1 : at' = e0 := (ha.2.1 rfl).2
    have e2 : bs = e0 := (hb.2.1 rfl).2
    simp only at h
    rw [e1, e2, show an = bn by omega]
  · rw [if_neg (by decide)] at h
    have h1 := ordI_cases an bn
    have e1 : at' = e0 := (ha.2.2.1 rfl).2
    have e2 : bs = e0 := (hb.2.2.1 rfl).2
    simp only at h
    rw [e1, e2, show an = bn by omega]
  · rw [if_pos (by decide)] at h
    have e1 : an = 0 := (ha.2.2.2 rfl).1
    have e2 : bn = 0 := (hb.2.2.2 rfl).1
    have e3 : at' = bs := bl_inj (cmpL_same _ _ h)
    rw [e1, e2, e3]

theorem ok_size {k : Nat} (hk : 1 ≤ k ∧ k ≤ 4) {a : V} (ha : okV k a) : a.s.size ≤ 100 := by
  unfold okV at ha
  have hc : k = 1 ∨ k = 2 ∨ k = 3 ∨ k = 4 := by omega
  rcases hc with rfl | rfl | rfl | rfl
  · rw [(ha.1 rfl).2]; decide
  · rw [(ha.2.1 rfl).2]; decide
  · rw [(ha.2.2.1 rfl).2]; decide
  · exact (ha.2.2.2 rfl).2

/-- What is known. -/
structure St where
  n : Int
  h : Bool
  a : V
  b : V

/-- As an argument. -/
abbrev stV (s : St) : Value := .agg #[.int .i64 s.n, .bool s.h, .int .i64 s.a.n, .string s.a.s, .int .i64 s.b.n, .string s.b.s]

abbrev v0 : V := ⟨0, e0⟩

/-- What is known of z cells without a value, and these values. -/
structure Is (k : Nat) (z : Nat) (l : List V) (s : St) : Prop where
  n : s.n = (z : Int)
  h : s.h = !l.isEmpty
  none : l = [] → s.a = v0 ∧ s.b = v0
  lo : l ≠ [] → s.a ∈ l ∧ ∀ x ∈ l, cv k s.a x ≤ 0
  hi : l ≠ [] → s.b ∈ l ∧ ∀ x ∈ l, 0 ≤ cv k s.b x

theorem Is.zero (k : Nat) : Is k 0 [] ⟨0, false, v0, v0⟩ := ⟨rfl, rfl, fun _ => ⟨rfl, rfl⟩, fun h => absurd rfl h, fun h => absurd rfl h⟩
theorem Is.one (k : Nat) (v : V) : Is k 0 [v] ⟨0, true, v, v⟩ :=
  ⟨rfl, rfl, fun h => absurd h (by simp), fun _ => ⟨by simp, fun x hx => by rw [List.mem_singleton.1 hx, cv_self]; omega⟩, fun _ => ⟨by simp, fun x hx => by rw [List.mem_singleton.1 hx, cv_self]; omega⟩⟩
theorem Is.null {k z : Nat} {l : List V} {s : St} (h : Is k z l s) : Is k (z + 1) l ⟨s.n + 1, s.h, s.a, s.b⟩ := ⟨by show s.n + 1 = _; rw [h.n]; omega, h.h, h.none, h.lo, h.hi⟩

/-- It is one alone. -/
theorem Is.eq {k z : Nat} {l l' : List V} {s t : St} (hk : 1 ≤ k ∧ k ≤ 4) (hs : Is k z l s) (ht : Is k z l' t) (hm : ∀ x, x ∈ l ↔ x ∈ l') (hok : ∀ x ∈ l, okV k x) : s = t := by
  obtain ⟨sn, sh, sa, sb⟩ := s
  obtain ⟨tn, th, ta, tb⟩ := t
  have e1 := hs.n; have e2 := ht.n; have e3 := hs.h; have e4 := ht.h
  simp only at e1 e2 e3 e4
  by_cases h : l = []
  · have h' : l' = [] := List.eq_nil_iff_forall_not_mem.2 fun x hx => by rw [h] at hm; exact absurd ((hm x).2 hx) (by simp)
    have a1 := hs.none h; have a2 := ht.none h'
    simp only at a1 a2
    subst h h'
    rw [e1, e2, e3, e4, a1.1, a1.2, a2.1, a2.2]
  · have h' : l' ≠ [] := fun e => h (List.eq_nil_iff_forall_not_mem.2 fun x hx => by rw [e] at hm; exact absurd ((hm x).1 hx) (by simp))
    obtain ⟨p1, p2⟩ := hs.lo h; obtain ⟨q1, q2⟩ := ht.lo h'
    obtain ⟨r1, r2⟩ := hs.hi h; obtain ⟨s1, s2⟩ := ht.hi h'
    simp only at p1 p2 q1 q2 r1 r2 s1 s2
    have b1 := p2 ta ((hm _).2 q1); have b2 := q2 sa ((hm _).1 p1)
    have b3 := r2 tb ((hm _).2 s1); have b4 := s2 sb ((hm _).1 r1)
    have n1 := cv_neg k sa ta; have n2 := cv_neg k sb tb
    have x1 : sa = ta := cv_same hk (hok _ p1) (hok _ ((hm _).2 q1)) (by omega)
    have x2 : sb = tb := cv_same hk (hok _ r1) (hok _ ((hm _).2 s1)) (by omega)
    have y1 : l.isEmpty = false := by simpa using h
    have y2 : l'.isEmpty = false := by simpa using h'
    rw [e1, e2, e3, e4, x1, x2, y1, y2]

/-- The least of two. -/
def mnV (k : Nat) (a b : V) : V := if cv k b a < 0 then b else a
def mxV (k : Nat) (a b : V) : V := if 0 < cv k b a then b else a
/-- What is known of both. -/
def jnS (k : Nat) (a b : St) : St := ⟨a.n + b.n, a.h || b.h, if a.h then (if b.h then mnV k a.a b.a else a.a) else if b.h then b.a else v0, if a.h then (if b.h then mxV k a.b b.b else a.b) else if b.h then b.b else v0⟩

theorem Is.join {k z y : Nat} {l m : List V} {a b : St} (ha : Is k z l a) (hb : Is k y m b) : Is k (z + y) (l ++ m) (jnS k a b) := by
  by_cases hl : l = [] <;> by_cases hm : m = []
  · subst hl hm
    have h1 : a.h = false := ha.h; have h2 : b.h = false := hb.h
    unfold jnS; rw [h1, h2]
    exact ⟨by show a.n + b.n = _; rw [ha.n, hb.n]; omega, rfl, fun _ => ⟨rfl, rfl⟩, fun h => absurd rfl h, fun h => absurd rfl h⟩
  · subst hl
    have h1 : a.h = false := ha.h; have h2 : b.h = true := by rw [hb.h]; simpa using hm
    unfold jnS; rw [h1, h2]
    refine ⟨by show a.n + b.n = _; rw [ha.n, hb.n]; omega, ?_, fun h => absurd h (by simpa using hm), fun _ => ?_, fun _ => ?_⟩
    · show true = !(([] ++ m : List V).isEmpty); simpa using hm
    · exact hb.lo hm
    · exact hb.hi hm
  · subst hm
    have h1 : a.h = true := by rw [ha.h]; simpa using hl
    have h2 : b.h = false := hb.h
    unfold jnS; rw [h1, h2, List.append_nil]
    refine ⟨by show a.n + b.n = _; rw [ha.n, hb.n]; omega, ?_, fun h => absurd h hl, fun _ => ?_, fun _ => ?_⟩
    · show true = !(l.isEmpty); simpa using hl
    · exact ha.lo hl
    · exact ha.hi hl
  · have h1 : a.h = true := by rw [ha.h]; simpa using hl
    have h2 : b.h = true := by rw [hb.h]; simpa using hm
    unfold jnS; rw [h1, h2]
    refine ⟨by show a.n + b.n = _; rw [ha.n, hb.n]; omega, ?_, fun h => absurd h (by simp [hl]), fun _ => ?_, fun _ => ?_⟩
    · show true = !((l ++ m).isEmpty); simp [hl]
    · obtain ⟨p1, p2⟩ := ha.lo hl; obtain ⟨q1, q2⟩ := hb.lo hm
      show mnV k a.a b.a ∈ _ ∧ ∀ x ∈ _, cv k (mnV k a.a b.a) x ≤ 0
      have n1 := cv_neg k a.a b.a
      unfold mnV
      split
      · refine ⟨by simp [q1], fun x hx => ?_⟩
        rcases List.mem_append.1 hx with h | h
        · exact cv_le k _ _ _ (by omega) (p2 x h)
        · exact q2 x h
      · refine ⟨by simp [p1], fun x hx => ?_⟩
        rcases List.mem_append.1 hx with h | h
        · exact p2 x h
        · exact cv_le k _ _ _ (by omega) (q2 x h)
    · obtain ⟨p1, p2⟩ := ha.hi hl; obtain ⟨q1, q2⟩ := hb.hi hm
      show mxV k a.b b.b ∈ _ ∧ ∀ x ∈ _, 0 ≤ cv k (mxV k a.b b.b) x
      have key : ∀ u v x : V, 0 ≤ cv k u v → 0 ≤ cv k v x → 0 ≤ cv k u x := fun u v x h1 h2 => by
        have n1 := cv_neg k u v; have n2 := cv_neg k v x; have n3 := cv_neg k u x
        have := cv_le k x v u (by omega) (by omega)
        omega
      have n1 := cv_neg k a.b b.b
      unfold mxV
      split
      · refine ⟨by simp [q1], fun x hx => ?_⟩
        rcases List.mem_append.1 hx with h | h
        · exact key _ _ _ (by omega) (p2 x h)
        · exact q2 x h
      · refine ⟨by simp [p1], fun x hx => ?_⟩
        rcases List.mem_append.1 hx with h | h
        · exact p2 x h
        · exact key _ _ _ (by omega) (q2 x h)

/-- Small enough to be reckoned with. -/
structure SmS (s : St) : Prop where
  n : 0 ≤ s.n ∧ s.n ≤ 100000
  a : s.a.s.size ≤ 100
  b : s.b.s.size ≤ 100

theorem Is.small {k z : Nat} {l : List V} {s : St} (hk : 1 ≤ k ∧ k ≤ 4) (h : Is k z l s) (hz : z ≤ 100000) (hok : ∀ x ∈ l, okV k x) : SmS s := by
  refine ⟨by rw [h.n]; omega, ?_, ?_⟩
  · by_cases hl : l = []
    · rw [(h.none hl).1]; decide
    · exact ok_size hk (hok _ (h.lo hl).1)
  · by_cases hl : l = []
    · rw [(h.none hl).2]; decide
    · exact ok_size hk (hok _ (h.hi hl).1)

set_option maxRecDepth 100000 in
set_option maxHeartbeats 1000000 in
theorem same17_any (s : St) (w : World) : Calls Try.prog 16 #[stV s, stV s] w fun e w' => e = .returned (.bool true) ∧ Chg [] w w' := by
  go_enter Try.func16, Try.ntmps16
  go_wp2
  go_ret
  exact ⟨rfl, ((Chg.refl [] w).alloc _).alloc _⟩

set_option maxRecDepth 100000 in
set_option maxHeartbeats 1000000 in
theorem rsame17_any (s : St) (w : World) : Calls Try.prog 14 #[stV s, stV s] w fun e w' => e = .returned (.bool true) ∧ Chg [] w w' := by
  go_enter Try.func14, Try.ntmps14
  go_wp2
  go_ret
  exact ⟨rfl, ((Chg.refl [] w).alloc _).alloc _⟩

theorem compare17_any (k : Nat) (a b : V) (w : World) (h1 : a.s.size ≤ 1000000) (h2 : b.s.size ≤ 1000000) :
    Calls Try.prog 26 #[.int .i64 (k : Int), vvV a, vvV b] w fun e w' => e = .returned (.int .i64 (cv k a b)) ∧ Chg [] w w' := compare_any k a.n a.s b.n b.s w h1 h2

end Go.Proofs.Ytgfjmbjpikcffaa
