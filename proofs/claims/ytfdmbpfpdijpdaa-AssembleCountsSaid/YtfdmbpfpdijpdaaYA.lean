/- Ya, Yb, Yg, Gw: texts of one group, one behind the other. -/
import Derived.Test.YtfdmbpfpdijpdaaA1
import Derived.Test.YtfdmbpfpdijpdaaA5
import Derived.Test.YtfdmbpfpdijpdaaA2
namespace Go.Proofs.Ytfdmbpfpdijpdaa
open Go.RowKit
set_option linter.unusedVariables false

/-- A value: of a leaf a number or a text; of a group, of each of its fields, all that is there of it. -/
inductive Tr where
  | mk (n : Int) (s : ByteArray) (k : List (List Tr))

instance : Inhabited Tr := ⟨.mk 0 ByteArray.empty []⟩

def Tr.n : Tr → Int | .mk n _ _ => n
def Tr.s : Tr → ByteArray | .mk _ s _ => s
def Tr.k : Tr → List (List Tr) | .mk _ _ k => k
@[simp] theorem Tr.n_mk (n : Int) (s : ByteArray) (k : List (List Tr)) : (Tr.mk n s k).n = n := rfl
@[simp] theorem Tr.s_mk (n : Int) (s : ByteArray) (k : List (List Tr)) : (Tr.mk n s k).s = s := rfl
@[simp] theorem Tr.k_mk (n : Int) (s : ByteArray) (k : List (List Tr)) : (Tr.mk n s k).k = k := rfl
theorem Tr.eta (t : Tr) : t = .mk t.n t.s t.k := by cases t; rfl

/-- A tree's three cells, the last one the slice of its lists. -/
def encT (p : Tr × Value) : List Value := [.int .i64 p.1.n, .string p.1.s, p.2]
/-- A list's cell. -/
def encR (p : List Tr × Value) : List Value := [p.2]
theorem encT_len (p : Tr × Value) : (encT p).length = 3 := rfl
theorem encR_len (p : List Tr × Value) : (encR p).length = 1 := rfl

/-- The slice value v reads as the lists k, no deeper than d. -/
def KidsAt (w : World) : Nat → List (List Tr) → Value → Prop
  | 0, _, _ => False
  | d + 1, k, v => ∃ R : List (List Tr × Value), R.map (·.1) = k ∧ SeenK encR 1 w v R ∧ ∀ p ∈ R, ∃ E : List (Tr × Value), E.map (·.1) = p.1 ∧ SeenK encT 3 w p.2 E ∧ ∀ q ∈ E, KidsAt w d q.1.k q.2

/-- The slice value v reads as the list l of trees, each no deeper than d. -/
def ListAt (w : World) (d : Nat) (l : List Tr) (v : Value) : Prop := ∃ E : List (Tr × Value), E.map (·.1) = l ∧ SeenK encT 3 w v E ∧ ∀ q ∈ E, KidsAt w d q.1.k q.2

theorem kidsAt_succ {w : World} {d : Nat} {k : List (List Tr)} {v : Value} : KidsAt w (d + 1) k v ↔ ∃ R : List (List Tr × Value), R.map (·.1) = k ∧ SeenK encR 1 w v R ∧ ∀ p ∈ R, ListAt w d p.1 p.2 := Iff.rfl

theorem KidsAt.keep {w w' : World} (hc : Chg [] w w') : ∀ {d : Nat} {k : List (List Tr)} {v : Value}, KidsAt w d k v → KidsAt w' d k v
  | 0, _, _, h => h
  | d + 1, k, v, ⟨R, h1, h2, h3⟩ => ⟨R, h1, h2.keep hc, fun p hp => by
    obtain ⟨E, q1, q2, q3⟩ := h3 p hp
    exact ⟨E, q1, q2.keep hc, fun q hq => (q3 q hq).keep hc⟩⟩

theorem ListAt.keep {w w' : World} (hc : Chg [] w w') {d : Nat} {l : List Tr} {v : Value} (h : ListAt w d l v) : ListAt w' d l v := by
  obtain ⟨E, q1, q2, q3⟩ := h
  exact ⟨E, q1, q2.keep hc, fun q hq => (q3 q hq).keep hc⟩

theorem KidsAt.mono {w : World} : ∀ {d d' : Nat} {k : List (List Tr)} {v : Value}, KidsAt w d k v → d ≤ d' → KidsAt w d' k v
  | 0, _, _, _, h, _ => h.elim
  | d + 1, 0, _, _, _, h => absurd h (by omega)
  | d + 1, d' + 1, k, v, ⟨R, h1, h2, h3⟩, hd => ⟨R, h1, h2, fun p hp => by
    obtain ⟨E, q1, q2, q3⟩ := h3 p hp
    exact ⟨E, q1, q2, fun q hq => (q3 q hq).mono (by omega)⟩⟩

theorem ListAt.mono {w : World} {d d' : Nat} {l : List Tr} {v : Value} (h : ListAt w d l v) (hd : d ≤ d') : ListAt w d' l v := by
  obtain ⟨E, q1, q2, q3⟩ := h
  exact ⟨E, q1, q2, fun q hq => (q3 q hq).mono hd⟩

theorem KidsAt.shape {w : World} {d : Nat} {k : List (List Tr)} {v : Value} (h : KidsAt w d k v) : ∃ ao cap, v = .slice ao k.length cap ∧ k.length ≤ cap ∧ cap ≤ maxLen := by
  cases d with
  | zero => exact h.elim
  | succ d =>
    obtain ⟨R, rfl, h2, -⟩ := h
    rw [List.length_map]
    exact h2.shape

theorem ListAt.shape {w : World} {d : Nat} {l : List Tr} {v : Value} (h : ListAt w d l v) : ∃ ao cap, v = .slice ao l.length cap ∧ l.length ≤ cap ∧ cap ≤ maxLen := by
  obtain ⟨R, rfl, h2, -⟩ := h
  rw [List.length_map]
  exact h2.shape

theorem KidsAt.get {w : World} {d n cap : Nat} {k : List (List Tr)} {ao : Option Addr} (h : KidsAt w d k (.slice ao n cap)) (hn : 0 < n) : ∃ d' g off, d = d' + 1 ∧ ao = some ⟨g, off, none⟩ ∧ ∀ i l, k[i]? = some l → ∃ lv, w.cell? ⟨g, off + i, none⟩ = some lv ∧ ListAt w d' l lv := by
  cases d with
  | zero => exact h.elim
  | succ d =>
    obtain ⟨R, rfl, h2, h3⟩ := kidsAt_succ.1 h
    obtain ⟨g, off, rfl, hc⟩ := h2.at hn
    refine ⟨d, g, off, rfl, rfl, fun i l hl => ?_⟩
    rw [List.getElem?_map] at hl
    cases hR : R[i]? with
    | none => rw [hR] at hl; cases hl
    | some p =>
      rw [hR] at hl
      simp at hl
      subst hl
      exact ⟨p.2, by simpa using hc i p 0 _ hR rfl, h3 p (List.mem_of_getElem? hR)⟩

theorem ListAt.get {w : World} {d n cap : Nat} {l : List Tr} {ao : Option Addr} (h : ListAt w d l (.slice ao n cap)) (hn : 0 < n) : ∃ g off, ao = some ⟨g, off, none⟩ ∧ ∀ j t, l[j]? = some t → ∃ kv, w.cell? ⟨g, off + j * 3, none⟩ = some (.int .i64 t.n) ∧ w.cell? ⟨g, off + j * 3 + 1, none⟩ = some (.string t.s) ∧ w.cell? ⟨g, off + j * 3 + 2, none⟩ = some kv ∧ KidsAt w d t.k kv := by
  obtain ⟨R, rfl, h2, h3⟩ := h
  obtain ⟨g, off, rfl, hc⟩ := h2.at hn
  refine ⟨g, off, rfl, fun i l hl => ?_⟩
  rw [List.getElem?_map] at hl
  cases hR : R[i]? with
  | none => rw [hR] at hl; cases hl
  | some p =>
    rw [hR] at hl
    simp at hl
    subst hl
    exact ⟨p.2, by simpa using hc i p 0 _ hR rfl, hc i p 1 _ hR rfl, hc i p 2 _ hR rfl, h3 p (List.mem_of_getElem? hR)⟩

theorem kidsAt_nil {w : World} {v : Value} {d : Nat} (h : ∃ ao cap, v = .slice ao 0 cap ∧ cap ≤ maxLen) : KidsAt w (d + 1) [] v := by
  obtain ⟨ao, cap, rfl, h2⟩ := h
  exact ⟨[], rfl, ⟨ao, cap, rfl, Nat.zero_le _, h2, fun h => absurd h (by simp)⟩, by simp⟩

theorem listAt_nil {w : World} {v : Value} {d : Nat} (h : ∃ ao cap, v = .slice ao 0 cap ∧ cap ≤ maxLen) : ListAt w d [] v := by
  obtain ⟨ao, cap, rfl, h2⟩ := h
  exact ⟨[], rfl, ⟨ao, cap, rfl, Nat.zero_le _, h2, fun h => absurd h (by simp)⟩, by simp⟩

theorem info_tree : ∃ i, Try.prog.info? 57 = some i ∧ i.zero = some (.agg #[.int .i64 0, .string ByteArray.empty, .slice none 0 0]) ∧ i.size = 3 ∧ i.bytes = 48 :=
  info_parts (show (Try.prog.info? 57).map (fun i => (i.zero, i.size, i.bytes)) = some (some (.agg #[.int .i64 0, .string ByteArray.empty, .slice none 0 0]), 3, 48) by kernel_rfl)

theorem info_list : ∃ i, Try.prog.info? 28 = some i ∧ i.zero = some (.slice none 0 0) ∧ i.size = 1 ∧ i.bytes = 24 :=
  info_parts (show (Try.prog.info? 28).map (fun i => (i.zero, i.size, i.bytes)) = some (some (.slice none 0 0), 1, 24) by kernel_rfl)

end Go.Proofs.Ytfdmbpfpdijpdaa

namespace Go.Proofs.Ytfdmbpfpdijpdaa
open Go.RowKit
set_option linter.unusedVariables false

/-- What is wrong with a field's being there so often. -/
def timesE (r : Int) (m : Nat) : Int :=
  if r = 0 then (if m = 1 then 0 else 13) else if r = 1 then (if m ≤ 1 then 0 else 13) else if r = 2 then (if m ≤ 50 then 0 else 4) else 0

/-- Is a number beyond those of a kind? -/
def overB (k n : Int) : Bool := decide (k = 1 ∧ (n < 0 ∨ 1 < n) ∨ k = 2 ∧ (n < -2147483648 ∨ 2147483647 < n))

/-- What is wrong with a leaf's value. -/
def leafE (k : Int) (t : Tr) : Int :=
  if 0 < t.k.length ∨ (k = 4 ∧ t.n ≠ 0) ∨ (k ≠ 4 ∧ t.s ≠ ByteArray.empty) then 13 else if overB k t.n = true then 14 else if 100 < t.s.size then 5 else 0

set_option maxRecDepth 100000 in
theorem times_any (r : Int) (m : Nat) (w : World) (hm : m ≤ maxLen) : Calls Try.prog 116 #[.int .i64 r, .int .i64 (m : Int)] w fun e w' => e = .returned (.int .i64 (timesE r m)) ∧ Chg [] w w' := by
  have HE := Lib.hid (show timesE r m = timesE r m from rfl)
  by_cases h0 : r = 0
  · subst h0
    by_cases h1 : m < 1
    · have d1 : decide ((m : Int) < 1) = true := by simp; omega
      have E := Lib.hid (show timesE 0 m = 13 by unfold timesE; rw [if_pos rfl, if_neg (by omega)])
      go_enter Try.func116, Try.ntmps116
      go_wp2
      go_ret
      exact ⟨ret_int E.out.symm, Chg.refl [] w⟩
    · by_cases h2 : 1 < m
      · have d1 : decide ((m : Int) < 1) = false := by simp; omega
        have d2 : decide ((1 : Int) < (m : Int)) = true := by simp; omega
        have E := Lib.hid (show timesE 0 m = 13 by unfold timesE; rw [if_pos rfl, if_neg (by omega)])
        go_enter Try.func116, Try.ntmps116
        go_wp2
        go_ret
        exact ⟨ret_int E.out.symm, Chg.refl [] w⟩
      · have d1 : decide ((m : Int) < 1) = false := by simp; omega
        have d2 : decide ((1 : Int) < (m : Int)) = false := by simp; omega
        have E := Lib.hid (show timesE 0 m = 0 by unfold timesE; rw [if_pos rfl, if_pos (by omega)])
        go_enter Try.func116, Try.ntmps116
        go_wp2
        go_ret
        exact ⟨ret_int E.out.symm, Chg.refl [] w⟩
  have e0 : (r == 0) = false := by simpa using h0
  by_cases h1 : r = 1
  · subst h1
    by_cases h2 : 1 < m
    · have d2 : decide ((1 : Int) < (m : Int)) = true := by simp; omega
      have E := Lib.hid (show timesE 1 m = 13 by unfold timesE; rw [if_neg (by omega), if_pos rfl, if_neg (by omega)])
      go_enter Try.func116, Try.ntmps116
      go_wp2
      go_ret
      exact ⟨ret_int E.out.symm, Chg.refl [] w⟩
    · have d2 : decide ((1 : Int) < (m : Int)) = false := by simp; omega
      have E := Lib.hid (show timesE 1 m = 0 by unfold timesE; rw [if_neg (by omega), if_pos rfl, if_pos (by omega)])
      go_enter Try.func116, Try.ntmps116
      go_wp2
      go_ret
      exact ⟨ret_int E.out.symm, Chg.refl [] w⟩
  have e1 : (r == 1) = false := by simpa using h1
  by_cases h2 : r = 2
  · subst h2
    by_cases h3 : 50 < m
    · have d2 : decide ((50 : Int) < (m : Int)) = true := by simp; omega
      have E := Lib.hid (show timesE 2 m = 4 by unfold timesE; rw [if_neg (by omega), if_neg (by omega), if_pos rfl, if_neg (by omega)])
      go_enter Try.func116, Try.ntmps116
      go_wp2
      go_ret
      exact ⟨ret_int E.out.symm, Chg.refl [] w⟩
    · have d2 : decide ((50 : Int) < (m : Int)) = false := by simp; omega
      have E := Lib.hid (show timesE 2 m = 0 by unfold timesE; rw [if_neg (by omega), if_neg (by omega), if_pos rfl, if_pos (by omega)])
      go_enter Try.func116, Try.ntmps116
      go_wp2
      go_ret
      exact ⟨ret_int E.out.symm, Chg.refl [] w⟩
  have e2 : (r == 2) = false := by simpa using h2
  have E := Lib.hid (show timesE r m = 0 by unfold timesE; rw [if_neg h0, if_neg h1, if_neg h2])
  clear h0 h1 h2
  go_enter Try.func116, Try.ntmps116
  go_wp2
  go_ret
  exact ⟨ret_int E.out.symm, Chg.refl [] w⟩

theorem wrap32 (n : Int) : IntKind.i32.wrap n = (n + 2147483648) % 4294967296 - 2147483648 := by
  simp only [IntKind.wrap, IntKind.bits, IntKind.signed]
  simp
  omega

set_option maxRecDepth 100000 in
theorem isOver_any (k n : Int) (w : World) : Calls Try.prog 115 #[.int .i64 k, .int .i64 n] w fun e w' => e = .returned (.bool (overB k n)) ∧ Chg [] w w' := by
  by_cases h1 : k = 1
  · subst h1
    by_cases h2 : n < 0
    · have d1 : decide (n < 0) = true := by simpa using h2
      have E := Lib.hid (show overB 1 n = true by unfold overB; rw [decide_eq_true_iff]; exact .inl ⟨rfl, .inl h2⟩)
      go_enter Try.func115, Try.ntmps115
      go_wp2
      go_ret
      exact ⟨ret_bool E.out.symm, Chg.refl [] w⟩
    · have d1 : decide (n < 0) = false := by simpa using h2
      by_cases h3 : 1 < n
      · have d2 : decide ((1 : Int) < n) = true := by simpa using h3
        have E := Lib.hid (show overB 1 n = true by unfold overB; rw [decide_eq_true_iff]; exact .inl ⟨rfl, .inr h3⟩)
        go_enter Try.func115, Try.ntmps115
        go_wp2
        go_ret
        exact ⟨ret_bool E.out.symm, Chg.refl [] w⟩
      · have d2 : decide ((1 : Int) < n) = false := by simpa using h3
        have E := Lib.hid (show overB 1 n = false by unfold overB; rw [decide_eq_false_iff_not]; omega)
        go_enter Try.func115, Try.ntmps115
        go_wp2
        go_ret
        exact ⟨ret_bool E.out.symm, Chg.refl [] w⟩
  have e1 : (k == 1) = false := by simpa using h1
  by_cases h2 : k = 2
  · subst h2
    have hw := wrap32 n
    obtain ⟨m, hm⟩ : ∃ m, m = IntKind.i32.wrap n := ⟨_, rfl⟩
    rw [← hm] at hw
    have hm1 : -2147483648 ≤ m ∧ m ≤ 2147483647 := by omega
    have hm2 : IntKind.i64.wrap m = m := by simp only [IntKind.wrap, IntKind.bits, IntKind.signed]; simp; omega
    by_cases h3 : n < -2147483648 ∨ 2147483647 < n
    · have E := Lib.hid (show overB 2 n = true by unfold overB; rw [decide_eq_true_iff]; exact .inr ⟨rfl, h3⟩)
      have hne : ¬ (n = m) := by omega
      have d1 : (n != m) = true := by simpa using hne
      have HM := Lib.hid hm
      have hm' := hm.symm
      clear hw h3 hm e1 h1
      go_enter Try.func115, Try.ntmps115
      go_wp2
      go_ret
      exact ⟨ret_bool E.out.symm, Chg.refl [] w⟩
    · have E := Lib.hid (show overB 2 n = false by unfold overB; rw [decide_eq_false_iff_not]; omega)
      have he : m = n := by omega
      subst he
      have hm' := hm.symm
      have d1 : (m != m) = false := by simp
      clear hw h3 hm e1 h1
      go_enter Try.func115, Try.ntmps115
      go_wp2
      go_ret
      exact ⟨ret_bool E.out.symm, Chg.refl [] w⟩
  have e2 : (k == 2) = false := by simpa using h2
  have E := Lib.hid (show overB k n = false by unfold overB; rw [decide_eq_false_iff_not]; omega)
  clear h1 h2
  go_enter Try.func115, Try.ntmps115
  go_wp2
  go_ret
  exact ⟨ret_bool E.out.symm, Chg.refl [] w⟩

/-- A tree as an argument. -/
abbrev tv (n : Int) (s : ByteArray) (kv : Value) : Value := .agg #[.int .i64 n, .string s, kv]

theorem empty_list {s : ByteArray} : s.toList = [] ↔ s = ByteArray.empty := by
  rw [ByteArray.toList_eq]
  constructor
  · intro h
    cases s
    simp only at h
    have e := Array.toList_eq_nil_iff.1 h
    rw [e]; rfl
  · rintro rfl; rfl

set_option maxRecDepth 100000 in
set_option maxHeartbeats 1000000 in
theorem leaf_any (k n : Int) (s : ByteArray) (ao : Option Addr) (m cap : Nat) (w : World) (K : List (List Tr)) (hK : K.length = m) :
    Calls Try.prog 112 #[.int .i64 k, tv n s (.slice ao m cap)] w fun e w' => e = .returned (.int .i64 (leafE k (.mk n s K))) ∧ Chg [] w w' := by
  have HE := Lib.hid (show leafE k (.mk n s K) = if 0 < m ∨ (k = 4 ∧ n ≠ 0) ∨ (k ≠ 4 ∧ s ≠ ByteArray.empty) then 13 else if overB k n = true then 14 else if 100 < s.size then 5 else 0 by unfold leafE; rw [← hK]; rfl)
  have HA := Lib.hid ((Chg.refl [] w).alloc (.cells #[.int .i64 n, .string s, .slice ao m cap] 57))
  clear hK
  by_cases h1 : 0 < m
  · have d1 : decide ((0 : Int) < (m : Int)) = true := by simp; omega
    have E := Lib.hid (show leafE k (.mk n s K) = 13 by rw [HE.out, if_pos (.inl h1)])
    clear HE d1
    obtain ⟨b, hb⟩ : ∃ b, b = (k == 4) := ⟨_, rfl⟩
    have hb' := hb.symm
    clear hb
    go_enter Try.func112, Try.ntmps112
    go_wp2
    go_ret
    exact ⟨ret_int E.out.symm, HA.out⟩
  have hov : ∀ b, Hid (overB k n = b) → (leafE k (.mk n s K) = if (k = 4 ∧ n ≠ 0) ∨ (k ≠ 4 ∧ s ≠ ByteArray.empty) then 13 else if b = true then 14 else if 100 < s.size then 5 else 0) := fun b hb => by
    rw [HE.out, ← hb.out]
    have e : (0 < m ∨ (k = 4 ∧ n ≠ 0) ∨ (k ≠ 4 ∧ s ≠ ByteArray.empty)) ↔ ((k = 4 ∧ n ≠ 0) ∨ (k ≠ 4 ∧ s ≠ ByteArray.empty)) := ⟨fun h => h.elim (fun h => absurd h h1) id, .inr⟩
    simp only [e]
  have HOV := Lib.hid hov
  clear hov
  obtain ⟨ob, hob⟩ : ∃ b, overB k n = b := ⟨_, rfl⟩
  have HOB := Lib.hid hob
  clear hob HE
  by_cases h4 : k = 4
  · have e4 : (k == 4) = true := by simpa using h4
    by_cases hn0 : n = 0
    · have d3 : (n != 0) = false := by simpa using hn0
      have E1 := Lib.hid (show leafE k (.mk n s K) = if ob = true then 14 else if 100 < s.size then 5 else 0 by rw [HOV.out ob HOB, if_neg (by rintro (h | h); exact h.2 hn0; exact h.1 h4)])
      clear h4 hn0
      cases ob
      case true =>
        go_enter Try.func112, Try.ntmps112
        go_wp2_with fail
        (with_reducible refine (isOver_any k n _).mono ?_)
        rw [HOB.out]
        rintro e w1 ⟨rfl, hk⟩
        have HK := Lib.hid (HA.out.trans hk (by simp)); clear hk
        go_wp2
        go_ret
        exact ⟨ret_int (by rw [E1.out]; rfl), HK.out⟩
      case false =>
        by_cases hz : 100 < s.size
        · have d5 : decide ((100 : Int) < (s.size : Int)) = true := by simp; omega
          go_enter Try.func112, Try.ntmps112
          go_wp2_with fail
          (with_reducible refine (isOver_any k n _).mono ?_)
          rw [HOB.out]
          rintro e w1 ⟨rfl, hk⟩
          have HC1 : ∀ {p v}, (w.alloc (.cells #[.int .i64 n, .string s, .slice ao m cap] 57)).cell? p = some v → w1.cell? p = some v := fun h => hk.cell h (by simp)
          have c1 : w1.cell? ⟨w.heap.size, 1, none⟩ = some (.string s) := HC1 (by simp)
          have HK := Lib.hid (HA.out.trans hk (by simp)); clear hk HC1
          go_wp2
          go_ret
          exact ⟨ret_int (by rw [E1.out]; simp [hz]), HK.out⟩
        · have d5 : decide ((100 : Int) < (s.size : Int)) = false := by simp; omega
          go_enter Try.func112, Try.ntmps112
          go_wp2_with fail
          (with_reducible refine (isOver_any k n _).mono ?_)
          rw [HOB.out]
          rintro e w1 ⟨rfl, hk⟩
          have HC1 : ∀ {p v}, (w.alloc (.cells #[.int .i64 n, .string s, .slice ao m cap] 57)).cell? p = some v → w1.cell? p = some v := fun h => hk.cell h (by simp)
          have c1 : w1.cell? ⟨w.heap.size, 1, none⟩ = some (.string s) := HC1 (by simp)
          have HK := Lib.hid (HA.out.trans hk (by simp)); clear hk HC1
          go_wp2
          go_ret
          exact ⟨ret_int (by rw [E1.out]; simp [hz]), HK.out⟩
    · have d3 : (n != 0) = true := by simpa using hn0
      have E1 := Lib.hid (show leafE k (.mk n s K) = 13 by rw [HOV.out ob HOB, if_pos (.inl ⟨h4, hn0⟩)])
      clear h4
      go_enter Try.func112, Try.ntmps112
      go_wp2
      go_ret
      exact ⟨ret_int E1.out.symm, HA.out⟩
  have e4 : (k == 4) = false := by simpa using h4
  by_cases hs0 : s = ByteArray.empty
  · have E1 := Lib.hid (show leafE k (.mk n s K) = if ob = true then 14 else 0 by
      rw [HOV.out ob HOB, if_neg (by rintro (h | h); exact h4 h.1; exact h.2 hs0), hs0]
      simp)
    subst hs0
    clear h4
    cases ob
    all_goals
      go_enter Try.func112, Try.ntmps112
      go_wp2_with fail
      (with_reducible refine (isOver_any k n _).mono ?_)
      rw [HOB.out]
      rintro e w1 ⟨rfl, hk⟩
      have HC1 : ∀ {p v}, (w.alloc (.cells #[.int .i64 n, .string ByteArray.empty, .slice ao m cap] 57)).cell? p = some v → w1.cell? p = some v := fun h => hk.cell h (by simp)
      have c1 : w1.cell? ⟨w.heap.size, 1, none⟩ = some (.string ByteArray.empty) := HC1 (by simp)
      have HK := Lib.hid (HA.out.trans hk (by simp)); clear hk HC1
      go_wp2
      go_ret
      exact ⟨ret_int (by rw [E1.out]; rfl), HK.out⟩
  · have hs1 : ¬ s.toList = [] := fun h => hs0 (empty_list.1 h)
    have hs2 : s.toList.isEmpty = false := by simpa using hs1
    have E1 := Lib.hid (show leafE k (.mk n s K) = 13 by rw [HOV.out ob HOB, if_pos (.inr ⟨h4, hs0⟩)])
    clear h4 hs0
    go_enter Try.func112, Try.ntmps112
    go_wp2
    go_ret
    exact ⟨ret_int E1.out.symm, HA.out⟩

end Go.Proofs.Ytfdmbpfpdijpdaa

namespace Go.Proofs.Ytfdmbpfpdijpdaa
open Go.RowKit
set_option linter.unusedVariables false

/-- Where v has cells, they lie in a block that P allows. -/
def OkB (P : Nat → Prop) (v : Value) (n : Nat) : Prop := 0 < n → ∀ g, v.ownBlock = some g → P g

/-- As KidsAt, all blocks being allowed by P. -/
def KidsIn (P : Nat → Prop) (w : World) : Nat → List (List Tr) → Value → Prop
  | 0, _, _ => False
  | d + 1, k, v => ∃ R : List (List Tr × Value), R.map (·.1) = k ∧ SeenK encR 1 w v R ∧ OkB P v R.length ∧ ∀ p ∈ R, ∃ E : List (Tr × Value), E.map (·.1) = p.1 ∧ SeenK encT 3 w p.2 E ∧ OkB P p.2 E.length ∧ ∀ q ∈ E, KidsIn P w d q.1.k q.2

def ListIn (P : Nat → Prop) (w : World) (d : Nat) (l : List Tr) (v : Value) : Prop := ∃ E : List (Tr × Value), E.map (·.1) = l ∧ SeenK encT 3 w v E ∧ OkB P v E.length ∧ ∀ q ∈ E, KidsIn P w d q.1.k q.2

theorem kidsIn_succ {P : Nat → Prop} {w : World} {d : Nat} {k : List (List Tr)} {v : Value} : KidsIn P w (d + 1) k v ↔ ∃ R : List (List Tr × Value), R.map (·.1) = k ∧ SeenK encR 1 w v R ∧ OkB P v R.length ∧ ∀ p ∈ R, ListIn P w d p.1 p.2 := Iff.rfl

theorem KidsIn.at {P : Nat → Prop} {w : World} : ∀ {d : Nat} {k : List (List Tr)} {v : Value}, KidsIn P w d k v → KidsAt w d k v
  | 0, _, _, h => h
  | d + 1, k, v, ⟨R, h1, h2, _, h3⟩ => ⟨R, h1, h2, fun p hp => by
    obtain ⟨E, q1, q2, _, q3⟩ := h3 p hp
    exact ⟨E, q1, q2, fun q hq => (q3 q hq).at⟩⟩

theorem ListIn.at {P : Nat → Prop} {w : World} {d : Nat} {l : List Tr} {v : Value} (h : ListIn P w d l v) : ListAt w d l v := by
  obtain ⟨E, q1, q2, _, q3⟩ := h
  exact ⟨E, q1, q2, fun q hq => (q3 q hq).at⟩

theorem SeenK.keepS {α : Type} {enc : α → List Value} {k : Nat} {w w' : World} {S : List Nat} {v : Value} {l : List α} (h : SeenK enc k w v l) (hc : Chg S w w') (hS : 0 < l.length → ∀ g, v.ownBlock = some g → g ∉ S) : SeenK enc k w' v l := by
  obtain ⟨ao, cap, rfl, h2, h3, h4⟩ := h
  refine ⟨ao, cap, rfl, h2, h3, fun hn => ?_⟩
  obtain ⟨g, off, rfl, h5⟩ := h4 hn
  exact ⟨g, off, rfl, fun j x i u hx hu => hc.cell (h5 j x i u hx hu) (hS hn g rfl)⟩

theorem KidsIn.keep {P : Nat → Prop} {w w' : World} {S : List Nat} (hc : Chg S w w') (hS : ∀ g, P g → g ∉ S) : ∀ {d : Nat} {k : List (List Tr)} {v : Value}, KidsIn P w d k v → KidsIn P w' d k v
  | 0, _, _, h => h
  | d + 1, k, v, ⟨R, h1, h2, h4, h3⟩ => ⟨R, h1, h2.keepS hc fun hn g hg => hS g (h4 hn g hg), h4, fun p hp => by
    obtain ⟨E, q1, q2, q4, q3⟩ := h3 p hp
    exact ⟨E, q1, q2.keepS hc fun hn g hg => hS g (q4 hn g hg), q4, fun q hq => (q3 q hq).keep hc hS⟩⟩

theorem ListIn.keep {P : Nat → Prop} {w w' : World} {S : List Nat} (hc : Chg S w w') (hS : ∀ g, P g → g ∉ S) {d : Nat} {l : List Tr} {v : Value} (h : ListIn P w d l v) : ListIn P w' d l v := by
  obtain ⟨E, q1, q2, q4, q3⟩ := h
  exact ⟨E, q1, q2.keepS hc fun hn g hg => hS g (q4 hn g hg), q4, fun q hq => (q3 q hq).keep hc hS⟩

theorem KidsIn.mono {P Q : Nat → Prop} {w : World} (hPQ : ∀ g, P g → Q g) : ∀ {d d' : Nat} {k : List (List Tr)} {v : Value}, KidsIn P w d k v → d ≤ d' → KidsIn Q w d' k v
  | 0, _, _, _, h, _ => h.elim
  | d + 1, 0, _, _, _, h => absurd h (by omega)
  | d + 1, d' + 1, k, v, ⟨R, h1, h2, h4, h3⟩, hd => ⟨R, h1, h2, fun hn g hg => hPQ g (h4 hn g hg), fun p hp => by
    obtain ⟨E, q1, q2, q4, q3⟩ := h3 p hp
    exact ⟨E, q1, q2, fun hn g hg => hPQ g (q4 hn g hg), fun q hq => (q3 q hq).mono hPQ (by omega)⟩⟩

theorem kidsIn_nil {P : Nat → Prop} {w : World} {d : Nat} : KidsIn P w (d + 1) [] (.slice none 0 0) :=
  ⟨[], rfl, ⟨none, 0, rfl, Nat.zero_le _, by decide, fun h => absurd h (by simp)⟩, fun h => absurd h (by simp), by simp⟩

theorem listIn_nil {P : Nat → Prop} {w : World} {d : Nat} : ListIn P w d [] (.slice none 0 0) :=
  ⟨[], rfl, ⟨none, 0, rfl, Nat.zero_le _, by decide, fun h => absurd h (by simp)⟩, fun h => absurd h (by simp), by simp⟩

/-- A row of trees of the call's own. -/
theorem listIn_own {P : Nat → Prop} {w : World} {B d n : Nat} {v : Value} {E : List (Tr × Value)} (h : w.ownsRow B 57 3 v n (E.flatMap encT)) (hn : E.length = n) (hB : ∀ g, B ≤ g → P g) (hq : ∀ q ∈ E, KidsIn P w d q.1.k q.2) : ListIn P w d (E.map (·.1)) v :=
  ⟨E, rfl, SeenK.own encT_len h hn, fun _ g hg => hB g (own_ge h g hg), hq⟩

/-- A row of lists of the call's own. -/
theorem kidsIn_own {P : Nat → Prop} {w : World} {B d n : Nat} {v : Value} {R : List (List Tr × Value)} (h : w.ownsRow B 28 1 v n (R.flatMap encR)) (hn : R.length = n) (hB : ∀ g, B ≤ g → P g) (hq : ∀ q ∈ R, ListIn P w d q.1 q.2) : KidsIn P w (d + 1) (R.map (·.1)) v :=
  kidsIn_succ.2 ⟨R, rfl, SeenK.own encR_len h hn, fun _ g hg => hB g (own_ge h g hg), hq⟩

theorem ListIn.shape {P : Nat → Prop} {w : World} {d : Nat} {l : List Tr} {v : Value} (h : ListIn P w d l v) : ∃ ao cap, v = .slice ao l.length cap ∧ l.length ≤ cap ∧ cap ≤ maxLen := h.at.shape
theorem KidsIn.shape {P : Nat → Prop} {w : World} {d : Nat} {k : List (List Tr)} {v : Value} (h : KidsIn P w d k v) : ∃ ao cap, v = .slice ao k.length cap ∧ k.length ≤ cap ∧ cap ≤ maxLen := h.at.shape

theorem encT_one (p : Tr × Value) (hp : p.2.oneCell' = true) : ∀ u ∈ encT p, u.oneCell' = true := by
  intro u hu
  simp [encT] at hu
  rcases hu with rfl | rfl | rfl
  · rfl
  · rfl
  · exact hp

/-- Blocks that are read are there. -/
theorem KidsIn.lt {P : Nat → Prop} {w : World} : ∀ {d : Nat} {k : List (List Tr)} {v : Value}, KidsIn P w d k v → KidsIn (fun g => P g ∧ g < w.heap.size) w d k v
  | 0, _, _, h => h
  | d + 1, k, v, ⟨R, h1, h2, h4, h3⟩ => by
    have hb : ∀ {α : Type} {enc : α → List Value} {m : Nat} {x : Value} {l : List α}, (∀ a, (enc a)[0]? ≠ none) → SeenK enc m w x l → OkB P x l.length → OkB (fun g => P g ∧ g < w.heap.size) x l.length := fun he hs ho hn g hg => by
      refine ⟨ho hn g hg, ?_⟩
      obtain ⟨ao, cap, rfl, -, -, h5⟩ := hs
      obtain ⟨g', off, rfl, h6⟩ := h5 hn
      simp [Value.ownBlock] at hg
      subst hg
      rename_i l
      obtain ⟨a, ha⟩ : ∃ a, l[0]? = some a := ⟨_, List.getElem?_eq_getElem hn⟩
      cases hu : (_ : List Value)[0]? with
      | none => exact absurd hu (he a)
      | some u => exact World.block_lt_of_cell? w _ (h6 0 a 0 u ha hu)
    refine ⟨R, h1, h2, hb (fun a => by simp [encR]) h2 h4, fun p hp => ?_⟩
    obtain ⟨E, q1, q2, q4, q3⟩ := h3 p hp
    exact ⟨E, q1, q2, hb (fun a => by simp [encT]) q2 q4, fun q hq => (q3 q hq).lt⟩

theorem ListIn.lt {P : Nat → Prop} {w : World} {d : Nat} {l : List Tr} {v : Value} (h : ListIn P w d l v) : ListIn (fun g => P g ∧ g < w.heap.size) w d l v := by
  obtain ⟨E, q1, q2, q4, q3⟩ := h
  refine ⟨E, q1, q2, fun hn g hg => ⟨q4 hn g hg, ?_⟩, fun q hq => (q3 q hq).lt⟩
  obtain ⟨ao, cap, rfl, -, -, h5⟩ := q2
  obtain ⟨g', off, rfl, h6⟩ := h5 hn
  simp [Value.ownBlock] at hg
  subst hg
  obtain ⟨a, ha⟩ : ∃ a, E[0]? = some a := ⟨_, List.getElem?_eq_getElem hn⟩
  exact World.block_lt_of_cell? w _ (h6 0 a 0 _ ha rfl)

theorem ListIn.mono {P Q : Nat → Prop} {w : World} (hPQ : ∀ g, P g → Q g) {d d' : Nat} {l : List Tr} {v : Value} (h : ListIn P w d l v) (hd : d ≤ d') : ListIn Q w d' l v := by
  obtain ⟨E, q1, q2, q4, q3⟩ := h
  exact ⟨E, q1, q2, fun hn g hg => hPQ g (q4 hn g hg), fun q hq => (q3 q hq).mono hPQ hd⟩

end Go.Proofs.Ytfdmbpfpdijpdaa

namespace Go.Proofs.Ytfdmbpfpdijpdaa
open Go.RowKit
set_option linter.unusedVariables false
set_option linter.unusedSimpArgs false

/-- A row of trees grows. -/
theorem grow_trees {W d gr : Nat} {wx w4 w5 : World} {E : List (Tr × Value)} {lv kv4 v5 : Value} {t : Tr} {o : Obj}
    (how : wx.ownsRow W 57 3 lv E.length (E.flatMap encT)) (hli : ∀ q ∈ E, KidsIn (fun g => W ≤ g ∧ lv.ownBlock ≠ some g) wx d q.1.k q.2) (hW : W ≤ wx.heap.size) (hgr : gr < W)
    (hk4 : KidsIn (wx.heap.size ≤ ·) w4 d t.k kv4) (hc4 : Chg [gr] wx w4)
    (hown5 : w5.ownsRow W 57 3 v5 (E.length + 1) (E.flatMap encT ++ encT (t, kv4))) (hg5 : (w4.alloc o).grownBy w5 lv.ownBlock) (hat5 : v5.ownBlock = lv.ownBlock ∨ v5.ownBlock = some (w4.alloc o).heap.size) :
    w5.ownsRow W 57 3 v5 (E ++ [(t, kv4)]).length ((E ++ [(t, kv4)]).flatMap encT) ∧ (∀ q ∈ E ++ [(t, kv4)], KidsIn (fun g => W ≤ g ∧ v5.ownBlock ≠ some g) w5 d q.1.k q.2) ∧ Chg lv.ownBlock.toList w4 w5 ∧ ∀ g ∈ lv.ownBlock.toList, W ≤ g := by
  have hlB : ∀ g, lv.ownBlock = some g → W ≤ g ∧ g < wx.heap.size := fun g hg => ⟨own_ge how g hg, own_lt how g hg⟩
  have hcW : Chg lv.ownBlock.toList w4 w5 := ((Chg.refl _ w4).alloc o).grown hg5 (fun q hq => .inl (by simp [hq]))
  have hsz4 := hc4.size
  have hfin : ∀ {k : List (List Tr)} {v : Value}, KidsIn (fun g => W ≤ g ∧ lv.ownBlock ≠ some g) w4 d k v → KidsIn (fun g => W ≤ g ∧ v5.ownBlock ≠ some g) w5 d k v := fun hk => by
    have h1 := hk.lt
    have h2 := h1.keep hcW (fun g hg hm => by simp at hm; exact hg.1.2 hm)
    refine h2.mono (fun g hg => ⟨hg.1.1, fun e => ?_⟩) (Nat.le_refl _)
    rcases hat5 with h3 | h3
    · rw [h3] at e; exact hg.1.2 e
    · rw [h3] at e
      injection e with e
      have : (w4.alloc o).heap.size = w4.heap.size + 1 := by simp
      have := hg.2
      omega
  refine ⟨?_, fun q hq => ?_, hcW, fun g hg => by simp at hg; exact (hlB g hg).1⟩
  · rw [List.length_append, List.flatMap_append]
    simpa using hown5
  · rcases List.mem_append.1 hq with hq | hq
    · refine hfin ((hli q hq).keep hc4 fun g hg hm => ?_)
      simp at hm
      omega
    · simp at hq
      subst hq
      refine hfin (hk4.mono (fun g hg => ⟨Nat.le_trans hW hg, fun e => ?_⟩) (Nat.le_refl _))
      have := (hlB g e).2
      omega

end Go.Proofs.Ytfdmbpfpdijpdaa
