/- Ha, Hb: texts of one group, one behind the other. -/
import Derived.Test.YtkbfbiklnjldgaaYA
import Derived.Test.YtkbfbiklnjldgaaA5
import Derived.Test.YtkbfbiklnjldgaaA1
namespace Go.Proofs.Ytkbfbiklnjldgaa
open Go.RowKit
set_option linter.unusedVariables false

/-- The sign of a kind. -/
def kd (k : Int) : Nat := if k = 1 then 98 else if k = 2 then 105 else if k = 3 then 108 else if k = 4 then 116 else 40
/-- The signs of a field itself. -/
def sg (f : F) : List Nat := if f.r = 1 then [63, kd f.k] else if f.r = 2 then [42, kd f.k] else [kd f.k]
/-- The signs of fields beside one another. -/
def Fo.sg : Fo → List Nat
  | .nil => []
  | .leaf f t => Go.Proofs.Ytkbfbiklnjldgaa.sg f ++ t.sg
  | .group f k t => Go.Proofs.Ytkbfbiklnjldgaa.sg f ++ (k.sg ++ (41 :: t.sg))

theorem kd_lt (k : Int) : kd k < 128 := by unfold kd; repeat (first | (split) | omega)
theorem sg_lt (f : F) : ∀ x ∈ sg f, x < 128 := by
  intro x hx
  have := kd_lt f.k
  unfold sg at hx
  split at hx
  · simp at hx; omega
  · split at hx
    · simp at hx; omega
    · simp at hx; omega
theorem sg_len (f : F) : 1 ≤ (sg f).length ∧ (sg f).length ≤ 2 := by unfold sg; split <;> (try split) <;> simp

set_option maxRecDepth 100000 in
theorem kind_any (k : Int) (w : World) : Calls Try.prog 64 #[.int .i64 k] w fun e w' => e = .returned (.int .i32 (kd k : Nat)) ∧ w = w' := by
  by_cases h1 : k = 1
  · subst h1
    go_enter Try.func64, Try.ntmps64
    go_wp2
    go_ret
    exact ⟨rfl, rfl⟩
  by_cases h2 : k = 2
  · subst h2
    go_enter Try.func64, Try.ntmps64
    go_wp2
    go_ret
    exact ⟨rfl, rfl⟩
  by_cases h3 : k = 3
  · subst h3
    go_enter Try.func64, Try.ntmps64
    go_wp2
    go_ret
    exact ⟨rfl, rfl⟩
  by_cases h4 : k = 4
  · subst h4
    go_enter Try.func64, Try.ntmps64
    go_wp2
    go_ret
    exact ⟨rfl, rfl⟩
  have e1 : (k == 1) = false := by simpa using h1
  have e2 : (k == 2) = false := by simpa using h2
  have e3 : (k == 3) = false := by simpa using h3
  have e4 : (k == 4) = false := by simpa using h4
  have E := Lib.hid (show kd k = 40 by unfold kd; rw [if_neg h1, if_neg h2, if_neg h3, if_neg h4])
  clear h1 h2 h3 h4
  go_enter Try.func64, Try.ntmps64
  go_wp2
  go_ret
  rw [E.out]
  exact ⟨rfl, rfl⟩

/-- A literal row of numbers. -/
theorem made_lit (w0 w : World) (hc : Chg [] w0 w) (T : TypeId) (k : IntKind) (l : List Nat) (C : Array Value) (g n : Nat) (hg : g = w.heap.size) (hC : C.toList = nv k l) (hn : n = l.length) (hm : n ≤ maxLen) : Made T k l w0 (.slice (some ⟨g, 0, none⟩) n n) (w.alloc (.cells C T)) := by
  subst hn hg
  have hs : C.size = l.length := by rw [← Array.length_toList, hC, nv_length]
  refine ⟨hc.alloc _, ?_⟩
  exact own_lit w w.heap.size w0.heap.size rfl hc.size T C (nv k l) l.length 1 hC (by rw [hs]; omega) hm

set_option maxRecDepth 100000 in
set_option maxHeartbeats 400000 in
theorem signs_any (f : F) (w : World) : Calls Try.prog 38 #[.agg #[.string f.n, .int .i64 f.r, .int .i64 f.k, .int .i64 f.c]] w fun e w' => ∃ x, e = .returned x ∧ Made 21 .i32 (sg f) w x w' := by
  have HC := Lib.hid ((Chg.refl [] w).alloc (.cells #[.string f.n, .int .i64 f.r, .int .i64 f.k, .int .i64 f.c] 47))
  obtain ⟨kk, hk⟩ : ∃ kk, kk = kd f.k := ⟨_, rfl⟩
  by_cases h1 : f.r = 1
  · have e1 : (f.r == 1) = true := by simpa using h1
    have E := Lib.hid (show sg f = [63, kk] by unfold sg; rw [if_pos h1, hk])
    have HK := Lib.hid hk
    clear h1 hk
    go_enter Try.func38, Try.ntmps38
    go_wp2_with fail
    refine (kind_any f.k _).mono ?_
    rintro e w1 ⟨rfl, rfl⟩
    rw [← HK.out]
    go_wp2
    go_ret
    rw [E.out]
    exact ⟨_, rfl, made_lit w _ HC.out _ _ _ _ _ _ (by simp) rfl rfl (by decide)⟩
  have e1 : (f.r == 1) = false := by simpa using h1
  by_cases h2 : f.r = 2
  · have e2 : (f.r == 2) = true := by simpa using h2
    have E := Lib.hid (show sg f = [42, kk] by unfold sg; rw [if_neg h1, if_pos h2, hk])
    have HK := Lib.hid hk
    clear h1 h2 hk
    go_enter Try.func38, Try.ntmps38
    go_wp2_with fail
    refine (kind_any f.k _).mono ?_
    rintro e w1 ⟨rfl, rfl⟩
    rw [← HK.out]
    go_wp2
    go_ret
    rw [E.out]
    exact ⟨_, rfl, made_lit w _ HC.out _ _ _ _ _ _ (by simp) rfl rfl (by decide)⟩
  have e2 : (f.r == 2) = false := by simpa using h2
  have E := Lib.hid (show sg f = [kk] by unfold sg; rw [if_neg h1, if_neg h2, hk])
  have HK := Lib.hid hk
  clear h1 h2 hk
  go_enter Try.func38, Try.ntmps38
  go_wp2_with fail
  refine (kind_any f.k _).mono ?_
  rintro e w1 ⟨rfl, rfl⟩
  rw [← HK.out]
  go_wp2
  go_ret
  rw [E.out]
  exact ⟨_, rfl, made_lit w _ HC.out _ _ _ _ _ _ (by simp) rfl rfl (by decide)⟩

end Go.Proofs.Ytkbfbiklnjldgaa

namespace Go.Proofs.Ytkbfbiklnjldgaa
open Go.RowKit
set_option linter.unusedVariables false
set_option linter.unusedSimpArgs false

/-- How deep one stands behind a sign. -/
def skD (d c : Nat) : Nat := if c = 40 then d + 1 else if c = 41 then d - 1 else d
/-- How many signs there are up to a field's end, from a depth on. -/
def sk : Nat → List Nat → Option Nat
  | _, [] => none
  | d, c :: l => if c = 63 ∨ c = 42 then (sk d l).map (· + 1) else if skD d c = 0 then some 1 else (sk (skD d c) l).map (· + 1)

theorem sk_none (d : Nat) : sk d [] = none := by cases d <;> rfl
theorem sk_cons (d c : Nat) (l : List Nat) : sk d (c :: l) = if c = 63 ∨ c = 42 then (sk d l).map (· + 1) else if skD d c = 0 then some 1 else (sk (skD d c) l).map (· + 1) := by
  cases d <;> rw [sk]

theorem sk_at {d m a : Nat} {l : List Nat} (h : sk d (l.drop a) = some m) : a < l.length ∧ 1 ≤ m ∧
    (if l.getD a 0 = 63 ∨ l.getD a 0 = 42 then sk d (l.drop (a + 1)) = some (m - 1) else if skD d (l.getD a 0) = 0 then m = 1 else sk (skD d (l.getD a 0)) (l.drop (a + 1)) = some (m - 1)) := by
  by_cases ha : a < l.length
  · have e : l.drop a = l.getD a 0 :: l.drop (a + 1) := by
      rw [List.drop_eq_getElem_cons ha, List.getD, List.getElem?_eq_getElem ha]; rfl
    rw [e, sk_cons] at h
    refine ⟨ha, ?_⟩
    split at h
    · rename_i hc
      rw [if_pos hc]
      obtain ⟨m', h1, h2⟩ := Option.map_eq_some_iff.1 h
      subst h2
      exact ⟨by omega, by simpa using h1⟩
    · rename_i hc
      rw [if_neg hc]
      split at h
      · rename_i hd
        rw [if_pos hd]
        injection h with h
        subst h
        exact ⟨Nat.le_refl _, rfl⟩
      · rename_i hd
        rw [if_neg hd]
        obtain ⟨m', h1, h2⟩ := Option.map_eq_some_iff.1 h
        subst h2
        exact ⟨by omega, by simpa using h1⟩
  · rw [List.drop_of_length_le (by omega), sk_none] at h
    cases h

set_option maxRecDepth 100000 in
set_option maxHeartbeats 1000000 in
theorem past_any (fv : Value) (l : List Nat) (at0 n : Nat) (w : World) (hS : Seen w fv (nv .i32 l)) (h : sk 0 (l.drop at0) = some n) (hl : l.length ≤ 100000) :
    Calls Try.prog 84 #[fv, .int .i64 (at0 : Int)] w fun e w' => e = .returned (.int .i64 ((at0 + n : Nat) : Int)) ∧ Chg [] w w' := by
  obtain ⟨ao, cap, rfl, hc1, hc2⟩ := hS.shape
  rw [nv_length] at hc1 hS
  rw [nv_length]
  have HS := Lib.hid hS; have H0 := Lib.hid h; clear hS h
  go_enter Try.func84, Try.ntmps84
  go_wp2_with fail
  refine wp_scope_pre 0 (fun a' w' => ∃ (a d m : Nat) (u6 u7 u8 u9 u10 u11 u12 u13 u14 u15 u16 u17 u18 u19 u20 u21 u22 u23 u24 u25 u26 u27 : Value), a' = { tmps := #[.slice ao l.length cap, .int .i64 (a : Int), undef, undef, .int .i64 0, .int .i64 (d : Int), u6, u7, u8, u9, u10, u11, u12, u13, u14, u15, u16, u17, u18, u19, u20, u21, u22, u23, u24, u25, u26, u27], defers := [] } ∧ Hid (sk d (l.drop a) = some m) ∧ a + m = at0 + n ∧ d ≤ a ∧ Chg [] w w') (fun a' _ => l.length - (intOf (a'.tmps.getD 1 undef)).toNat) rfl ?_ ?_
  · go_wp2
    exact ⟨at0, 0, n, _, _, _, _, _, _, _, _, _, _, _, _, _, _, _, _, _, _, _, _, _, _, rfl, H0, rfl, Nat.zero_le _, Chg.refl _ _⟩
  rintro a' wi ⟨a, d, m, u6, u7, u8, u9, u10, u11, u12, u13, u14, u15, u16, u17, u18, u19, u20, u21, u22, u23, u24, u25, u26, u27, rfl, HK, ham, hda, hci⟩
  have HCI := Lib.hid hci; clear hci
  have hk := sk_at HK.out
  obtain ⟨ha, hm, hk⟩ := hk
  obtain ⟨g, off, rfl, hx0⟩ := (HS.out.keep HCI.out).at0 rfl (by omega)
  have hx := hx0 a ha
  obtain ⟨c, hc⟩ : ∃ c, c = l.getD a 0 := ⟨_, rfl⟩
  rw [← hc] at hx hk
  clear hx0 hc
  have hdn : decide ((0 : Int) < (d : Int)) = decide (0 < d) := by simp
  have hw : IntKind.i64.wrap ((a : Int) + 1) = (a : Int) + 1 := IntWalk.i64_in _ (by omega)
  have hwd : IntKind.i64.wrap ((d : Int) + 1) = (d : Int) + 1 := IntWalk.i64_in _ (by omega)
  have hwm : IntKind.i64.wrap ((d : Int) - 1) = (d : Int) - 1 := IntWalk.i64_in _ (by omega)
  by_cases h1 : c = 63
  · subst h1
    rw [if_pos (.inl rfl)] at hk
    have HK2 := Lib.hid hk
    clear hk
    go_wp2
    go_step3
    exact ⟨rfl, ⟨a + 1, d, m - 1, _, _, _, _, _, _, _, _, _, _, _, _, _, _, _, _, _, _, _, _, _, _, rfl, HK2, by omega, by omega, HCI.out⟩, by show l.length - ((a : Int) + 1).toNat < l.length - ((a : Int)).toNat; omega⟩
  by_cases h2 : c = 42
  · subst h2
    rw [if_pos (.inr rfl)] at hk
    have HK2 := Lib.hid hk
    clear hk
    go_wp2
    go_step3
    exact ⟨rfl, ⟨a + 1, d, m - 1, _, _, _, _, _, _, _, _, _, _, _, _, _, _, _, _, _, _, _, _, _, _, rfl, HK2, by omega, by omega, HCI.out⟩, by show l.length - ((a : Int) + 1).toNat < l.length - ((a : Int)).toNat; omega⟩
  rw [if_neg (by omega)] at hk
  by_cases h3 : c = 40
  · subst h3
    have e : skD d 40 = d + 1 := by unfold skD; rw [if_pos rfl]
    rw [e, if_neg (by omega)] at hk
    have HK2 := Lib.hid hk
    have d1 : decide ((0 : Int) < (d : Int) + 1) = true := decide_eq_true (by omega)
    clear hk h1 h2
    go_wp2
    go_step3
    exact ⟨rfl, ⟨a + 1, d + 1, m - 1, _, _, _, _, _, _, _, _, _, _, _, _, _, _, _, _, _, _, _, _, _, _, rfl, HK2, by omega, by omega, HCI.out⟩, by show l.length - ((a : Int) + 1).toNat < l.length - ((a : Int)).toNat; omega⟩
  by_cases h4 : c = 41
  · subst h4
    have e : skD d 41 = d - 1 := by unfold skD; rw [if_neg (by decide), if_pos rfl]
    rw [e] at hk
    by_cases hd : d - 1 = 0
    · rw [if_pos hd] at hk
      have d1 : decide ((0 : Int) < (d : Int) - 1) = false := by simp; omega
      clear h1 h2 h3
      go_wp2
      simp only [Exit.jump]
      go_ret
      exact ⟨ret_int (by omega), HCI.out⟩
    · rw [if_neg hd] at hk
      have HK2 := Lib.hid hk
      have d1 : decide ((0 : Int) < (d : Int) - 1) = true := by simp; omega
      have HD := Lib.hid (show (d : Int) - 1 = ((d - 1 : Nat) : Int) by omega)
      clear hk h1 h2 h3
      go_wp2
      go_step3
      rw [HD.out]
      exact ⟨rfl, ⟨a + 1, d - 1, m - 1, _, _, _, _, _, _, _, _, _, _, _, _, _, _, _, _, _, _, _, _, _, _, rfl, HK2, by omega, by omega, HCI.out⟩, by show l.length - ((a : Int) + 1).toNat < l.length - ((a : Int)).toNat; omega⟩
  have e : skD d c = d := by unfold skD; rw [if_neg h3, if_neg h4]
  rw [e] at hk
  have b1 : ((c : Int) == 63) = false := by simp; omega
  have b2 : ((c : Int) == 42) = false := by simp; omega
  have b3 : ((c : Int) == 40) = false := by simp; omega
  have b4 : ((c : Int) == 41) = false := by simp; omega
  by_cases hd : d = 0
  · rw [if_pos hd] at hk
    have d1 : decide (0 < d) = false := by simp; omega
    clear h1 h2 h3 h4
    go_wp2
    simp only [Exit.jump]
    go_ret
    exact ⟨ret_int (by omega), HCI.out⟩
  · rw [if_neg hd] at hk
    have HK2 := Lib.hid hk
    have d1 : decide (0 < d) = true := by simp; omega
    clear hk h1 h2 h3 h4
    go_wp2
    go_step3
    exact ⟨rfl, ⟨a + 1, d, m - 1, _, _, _, _, _, _, _, _, _, _, _, _, _, _, _, _, _, _, _, _, _, _, rfl, HK2, by omega, by omega, HCI.out⟩, by show l.length - ((a : Int) + 1).toNat < l.length - ((a : Int)).toNat; omega⟩

/-! ### A field's own length -/

/-- What is said of a forest's fields. -/
def Fo.wf : Fo → Prop
  | .nil => True
  | .leaf f t => 1 ≤ f.k ∧ f.k ≤ 4 ∧ t.wf
  | .group f k t => f.k = 0 ∧ f.c = k.num ∧ k.wf ∧ t.wf

theorem kd_leaf {k : Int} (h : 1 ≤ k ∧ k ≤ 4) : kd k ≠ 63 ∧ kd k ≠ 42 ∧ kd k ≠ 40 ∧ kd k ≠ 41 := by
  obtain ⟨h1, h2⟩ := h
  have : k = 1 ∨ k = 2 ∨ k = 3 ∨ k = 4 := by omega
  rcases this with rfl | rfl | rfl | rfl <;> decide

theorem sk_kd {k : Int} (h : 1 ≤ k ∧ k ≤ 4) {d m : Nat} {r : List Nat} (hr : sk (d + 1) r = some m) : sk (d + 1) (kd k :: r) = some (m + 1) := by
  obtain ⟨a, b, c, e⟩ := kd_leaf h
  have hs : skD (d + 1) (kd k) = d + 1 := by unfold skD; rw [if_neg c, if_neg e]
  rw [sk_cons, if_neg (by omega), hs, if_neg (by omega), hr]; rfl

theorem sk_kd0 {k : Int} (h : 1 ≤ k ∧ k ≤ 4) (r : List Nat) : sk 0 (kd k :: r) = some 1 := by
  obtain ⟨a, b, c, e⟩ := kd_leaf h
  have hs : skD 0 (kd k) = 0 := by unfold skD; rw [if_neg c, if_neg e]
  rw [sk_cons, if_neg (by omega), hs, if_pos rfl]

theorem sk_open {d m : Nat} {r : List Nat} (hr : sk (d + 1) r = some m) : sk d (40 :: r) = some (m + 1) := by
  have hs : skD d 40 = d + 1 := by unfold skD; rw [if_pos rfl]
  rw [sk_cons, if_neg (by omega), hs, if_neg (by omega), hr]; rfl

theorem sk_shut {d m : Nat} {r : List Nat} (hr : sk (d + 1) r = some m) : sk (d + 2) (41 :: r) = some (m + 1) := by
  have hs : skD (d + 2) 41 = d + 1 := by unfold skD; rw [if_neg (by decide), if_pos rfl]; omega
  rw [sk_cons, if_neg (by omega), hs, if_neg (by omega), hr]; rfl

theorem sk_shut1 (r : List Nat) : sk 1 (41 :: r) = some 1 := by
  have hs : skD 1 41 = 0 := by unfold skD; rw [if_neg (by decide), if_pos rfl]
  rw [sk_cons, if_neg (by omega), hs, if_pos rfl]

/-- The sign ahead of what a field is. -/
def rp (r : Int) : List Nat := if r = 1 then [63] else if r = 2 then [42] else []
theorem sg_eq (f : F) : sg f = rp f.r ++ [kd f.k] := by
  unfold sg rp
  split
  · rfl
  · split <;> rfl
theorem sk_rp (r : Int) {d m : Nat} {x : List Nat} (h : sk d x = some m) : sk d (rp r ++ x) = some ((rp r).length + m) := by
  unfold rp
  split
  · show sk d (63 :: x) = _
    rw [sk_cons, if_pos (.inl rfl), h]; simp; omega
  · split
    · show sk d (42 :: x) = _
      rw [sk_cons, if_pos (.inr rfl), h]; simp; omega
    · simpa using h

theorem sk_sg : ∀ (k : Fo) (d : Nat) (r : List Nat) (m : Nat), k.wf → sk (d + 1) r = some m → sk (d + 1) (k.sg ++ r) = some (k.sg.length + m)
  | .nil, d, r, m, _, h => by simpa [Fo.sg] using h
  | .leaf f t, d, r, m, hw, h => by
    obtain ⟨h1, h2, h3⟩ := hw
    have := sk_rp f.r (sk_kd (k := f.k) ⟨h1, h2⟩ (sk_sg t d r m h3 h))
    rw [Fo.sg, sg_eq]
    simp only [List.append_assoc, List.cons_append, List.nil_append, List.length_append, List.length_cons, List.length_nil] at this ⊢
    rw [this]
    congr 1; omega
  | .group f k t, d, r, m, hw, h => by
    obtain ⟨h1, h2, h3, h4⟩ := hw
    have e : kd f.k = 40 := by rw [h1]; rfl
    have h5 := sk_sg k (d + 1) (41 :: (t.sg ++ r)) _ h3 (sk_shut (sk_sg t d r m h4 h))
    have := sk_rp f.r (sk_open h5)
    rw [Fo.sg, sg_eq, e]
    simp only [List.append_assoc, List.cons_append, List.nil_append, List.length_append, List.length_cons, List.length_nil] at this ⊢
    rw [this]
    congr 1; omega

/-- A leaf's signs are skipped. -/
theorem sk_leaf {f : F} (h : 1 ≤ f.k ∧ f.k ≤ 4) (r : List Nat) : sk 0 (sg f ++ r) = some (sg f).length := by
  rw [sg_eq]
  have := sk_rp f.r (sk_kd0 (k := f.k) h r)
  simpa using this

/-- A group's signs are skipped. -/
theorem sk_grp {f : F} {k : Fo} (h0 : f.k = 0) (h : k.wf) (r : List Nat) : sk 0 (sg f ++ (k.sg ++ 41 :: r)) = some ((sg f).length + (k.sg.length + 1)) := by
  have e : kd f.k = 40 := by rw [h0]; rfl
  have := sk_rp f.r (sk_open (d := 0) (sk_sg k 0 (41 :: r) 1 h (sk_shut1 r)))
  rw [sg_eq, e]
  simp only [List.append_assoc, List.cons_append, List.nil_append, List.length_append, List.length_cons, List.length_nil] at this ⊢
  rw [this]
  congr 1; omega

end Go.Proofs.Ytkbfbiklnjldgaa
