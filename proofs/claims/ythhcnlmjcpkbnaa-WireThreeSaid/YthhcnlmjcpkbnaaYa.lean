/- Trees: as data, and in memory. -/
import Derived.Test.YthhcnlmjcpkbnaaA1
import Derived.Test.YthhcnlmjcpkbnaaA5
namespace Go.Proofs.Ythhcnlmjcpkbnaa
open Go.RowKit
set_option linter.unusedVariables false

/-- A value: of a leaf a number or a text; of a group, of each of its fields, all that is there of it. -/
inductive Tr where
  | mk (n : Int) (s : ByteArray) (k : List (List Tr))

instance : Inhabited Tr := ⟨.mk 0 ByteArray.empty []⟩

def Tr.n : Tr → Int | .mk n _ _ => n
def Tr.s : Tr → ByteArray | .mk _ s _ => s
def Tr.k : Tr → List (List Tr) | .mk _ _ k => k
@[simp] theorem Tr.n_mk (n : Int) (s : ByteArray) (k : List (List Tr)) : (Tr.mk n s k).n = n := rfl
@[simp] theorem Tr.s_mk (n : Int) (s : ByteArray) (k : List (List Tr)) : (Tr.mk n s k).s = s := rfl
@[simp] theorem Tr.k_mk (n : Int) (s : ByteArray) (k : List (List Tr)) : (Tr.mk n s k).k = k := rfl
theorem Tr.eta (t : Tr) : t = .mk t.n t.s t.k := by cases t; rfl

/-- A tree's three cells, the last one the slice of its lists. -/
def encT (p : Tr × Value) : List Value := [.int .i64 p.1.n, .string p.1.s, p.2]
/-- A list's cell. -/
def encR (p : List Tr × Value) : List Value := [p.2]
theorem encT_len (p : Tr × Value) : (encT p).length = 3 := rfl
theorem encR_len (p : List Tr × Value) : (encR p).length = 1 := rfl

/-- The slice value v reads as the lists k, no deeper than d. -/
def KidsAt (w : World) : Nat → List (List Tr) → Value → Prop
  | 0, _, _ => False
  | d + 1, k, v => ∃ R : List (List Tr × Value), R.map (·.1) = k ∧ SeenK encR 1 w v R ∧ ∀ p ∈ R, ∃ E : List (Tr × Value), E.map (·.1) = p.1 ∧ SeenK encT 3 w p.2 E ∧ ∀ q ∈ E, KidsAt w d q.1.k q.2

/-- The slice value v reads as the list l of trees, each no deeper than d. -/
def ListAt (w : World) (d : Nat) (l : List Tr) (v : Value) : Prop := ∃ E : List (Tr × Value), E.map (·.1) = l ∧ SeenK encT 3 w v E ∧ ∀ q ∈ E, KidsAt w d q.1.k q.2

theorem kidsAt_succ {w : World} {d : Nat} {k : List (List Tr)} {v : Value} : KidsAt w (d + 1) k v ↔ ∃ R : List (List Tr × Value), R.map (·.1) = k ∧ SeenK encR 1 w v R ∧ ∀ p ∈ R, ListAt w d p.1 p.2 := Iff.rfl

theorem KidsAt.keep {w w' : World} (hc : Chg [] w w') : ∀ {d : Nat} {k : List (List Tr)} {v : Value}, KidsAt w d k v → KidsAt w' d k v
  | 0, _, _, h => h
  | d + 1, k, v, ⟨R, h1, h2, h3⟩ => ⟨R, h1, h2.keep hc, fun p hp => by
    obtain ⟨E, q1, q2, q3⟩ := h3 p hp
    exact ⟨E, q1, q2.keep hc, fun q hq => (q3 q hq).keep hc⟩⟩

theorem ListAt.keep {w w' : World} (hc : Chg [] w w') {d : Nat} {l : List Tr} {v : Value} (h : ListAt w d l v) : ListAt w' d l v := by
  obtain ⟨E, q1, q2, q3⟩ := h
  exact ⟨E, q1, q2.keep hc, fun q hq => (q3 q hq).keep hc⟩

theorem KidsAt.mono {w : World} : ∀ {d d' : Nat} {k : List (List Tr)} {v : Value}, KidsAt w d k v → d ≤ d' → KidsAt w d' k v
  | 0, _, _, _, h, _ => h.elim
  | d + 1, 0, _, _, _, h => absurd h (by omega)
  | d + 1, d' + 1, k, v, ⟨R, h1, h2, h3⟩, hd => ⟨R, h1, h2, fun p hp => by
    obtain ⟨E, q1, q2, q3⟩ := h3 p hp
    exact ⟨E, q1, q2, fun q hq => (q3 q hq).mono (by omega)⟩⟩

theorem ListAt.mono {w : World} {d d' : Nat} {l : List Tr} {v : Value} (h : ListAt w d l v) (hd : d ≤ d') : ListAt w d' l v := by
  obtain ⟨E, q1, q2, q3⟩ := h
  exact ⟨E, q1, q2, fun q hq => (q3 q hq).mono hd⟩

theorem KidsAt.shape {w : World} {d : Nat} {k : List (List Tr)} {v : Value} (h : KidsAt w d k v) : ∃ ao cap, v = .slice ao k.length cap ∧ k.length ≤ cap ∧ cap ≤ maxLen := by
  cases d with
  | zero => exact h.elim
  | succ d =>
    obtain ⟨R, rfl, h2, -⟩ := h
    rw [List.length_map]
    exact h2.shape

theorem ListAt.shape {w : World} {d : Nat} {l : List Tr} {v : Value} (h : ListAt w d l v) : ∃ ao cap, v = .slice ao l.length cap ∧ l.length ≤ cap ∧ cap ≤ maxLen := by
  obtain ⟨R, rfl, h2, -⟩ := h
  rw [List.length_map]
  exact h2.shape

theorem KidsAt.get {w : World} {d n cap : Nat} {k : List (List Tr)} {ao : Option Addr} (h : KidsAt w d k (.slice ao n cap)) (hn : 0 < n) : ∃ d' g off, d = d' + 1 ∧ ao = some ⟨g, off, none⟩ ∧ ∀ i l, k[i]? = some l → ∃ lv, w.cell? ⟨g, off + i, none⟩ = some lv ∧ ListAt w d' l lv := by
  cases d with
  | zero => exact h.elim
  | succ d =>
    obtain ⟨R, rfl, h2, h3⟩ := kidsAt_succ.1 h
    obtain ⟨g, off, rfl, hc⟩ := h2.at hn
    refine ⟨d, g, off, rfl, rfl, fun i l hl => ?_⟩
    rw [List.getElem?_map] at hl
    cases hR : R[i]? with
    | none => rw [hR] at hl; cases hl
    | some p =>
      rw [hR] at hl
      simp at hl
      subst hl
      exact ⟨p.2, by simpa using hc i p 0 _ hR rfl, h3 p (List.mem_of_getElem? hR)⟩

theorem ListAt.get {w : World} {d n cap : Nat} {l : List Tr} {ao : Option Addr} (h : ListAt w d l (.slice ao n cap)) (hn : 0 < n) : ∃ g off, ao = some ⟨g, off, none⟩ ∧ ∀ j t, l[j]? = some t → ∃ kv, w.cell? ⟨g, off + j * 3, none⟩ = some (.int .i64 t.n) ∧ w.cell? ⟨g, off + j * 3 + 1, none⟩ = some (.string t.s) ∧ w.cell? ⟨g, off + j * 3 + 2, none⟩ = some kv ∧ KidsAt w d t.k kv := by
  obtain ⟨R, rfl, h2, h3⟩ := h
  obtain ⟨g, off, rfl, hc⟩ := h2.at hn
  refine ⟨g, off, rfl, fun i l hl => ?_⟩
  rw [List.getElem?_map] at hl
  cases hR : R[i]? with
  | none => rw [hR] at hl; cases hl
  | some p =>
    rw [hR] at hl
    simp at hl
    subst hl
    exact ⟨p.2, by simpa using hc i p 0 _ hR rfl, hc i p 1 _ hR rfl, hc i p 2 _ hR rfl, h3 p (List.mem_of_getElem? hR)⟩

theorem kidsAt_nil {w : World} {v : Value} {d : Nat} (h : ∃ ao cap, v = .slice ao 0 cap ∧ cap ≤ maxLen) : KidsAt w (d + 1) [] v := by
  obtain ⟨ao, cap, rfl, h2⟩ := h
  exact ⟨[], rfl, ⟨ao, cap, rfl, Nat.zero_le _, h2, fun h => absurd h (by simp)⟩, by simp⟩

theorem listAt_nil {w : World} {v : Value} {d : Nat} (h : ∃ ao cap, v = .slice ao 0 cap ∧ cap ≤ maxLen) : ListAt w d [] v := by
  obtain ⟨ao, cap, rfl, h2⟩ := h
  exact ⟨[], rfl, ⟨ao, cap, rfl, Nat.zero_le _, h2, fun h => absurd h (by simp)⟩, by simp⟩

/-- A row of the call's own reads as a list. -/
theorem SeenK.own {α : Type} {enc : α → List Value} {k : Nat} (hk : ∀ x, (enc x).length = k) {w : World} {B T : Nat} {v : Value} {n : Nat} {l : List α} (h : w.ownsRow B T k v n (l.flatMap enc)) (hn : l.length = n) : SeenK enc k w v l := by
  subst hn
  obtain ⟨hl, h1⟩ := h
  rcases h1 with ⟨rfl, hn⟩ | ⟨g, cap, cur, rfl, _, hg, hc, hm, hs, ht⟩
  · exact ⟨none, 0, by rw [hn], by omega, by decide, fun hp => by omega⟩
  · refine ⟨_, cap, rfl, by omega, by omega, fun _ => ⟨g, 0, rfl, fun j x i u hx hu => ?_⟩⟩
    rw [Nat.zero_add, cell_of_row w g _ _ _ _ hg]
    have h := flat_get hk l j x i u hx hu
    rw [← ht, List.getElem?_take] at h
    split at h
    · simpa using h
    · cases h

/-- A row laid at once. -/
theorem SeenK.lit {α : Type} {enc : α → List Value} {k : Nat} (hk : ∀ x, (enc x).length = k) {w : World} {g : Nat} {T : TypeId} {C : Array Value} {fr : Nat × Nat} (hb : w.heap[g]? = some (.cells C T fr)) (l : List α) (n : Nat) (hC : C.toList = l.flatMap enc) (hn : l.length = n) (hm : n ≤ maxLen) : SeenK enc k w (.slice (some ⟨g, 0, none⟩) n n) l := by
  subst hn
  refine ⟨_, _, rfl, Nat.le_refl _, hm, fun _ => ⟨g, 0, rfl, fun j x i u hx hu => ?_⟩⟩
  rw [Nat.zero_add, cell_of_row w g _ _ _ _ hb]
  have h := flat_get hk l j x i u hx hu
  rw [← hC] at h
  simpa using h

theorem info_tree : ∃ i, Try.prog.info? 30 = some i ∧ i.zero = some (.agg #[.int .i64 0, .string ByteArray.empty, .slice none 0 0]) ∧ i.size = 3 ∧ i.bytes = 48 :=
  info_parts (show (Try.prog.info? 30).map (fun i => (i.zero, i.size, i.bytes)) = some (some (.agg #[.int .i64 0, .string ByteArray.empty, .slice none 0 0]), 3, 48) by kernel_rfl)

theorem info_list : ∃ i, Try.prog.info? 55 = some i ∧ i.zero = some (.slice none 0 0) ∧ i.size = 1 ∧ i.bytes = 24 :=
  info_parts (show (Try.prog.info? 55).map (fun i => (i.zero, i.size, i.bytes)) = some (some (.slice none 0 0), 1, 24) by kernel_rfl)

end Go.Proofs.Ythhcnlmjcpkbnaa
