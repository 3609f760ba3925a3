/- How a schema's text is printed line by line, as lists: what is still to be printed at each group that is open. -/
import Derived.Test.YtofnpcfclcfgfaaA9
import Derived.Test.YtofnpcfclcfgfaaA8
namespace Go.Proofs.Ytofnpcfclcfgfaa
open Go.RowKit
set_option linter.unusedVariables false

def begS (i : Nat) (f : F) : ByteArray := (if i = 0 then wMsg else repW f ++ { data := #[32] } ++ kindW f) ++ { data := #[32] } ++ f.n ++ (if f.k = 0 then { data := #[32, 123] } else { data := #[59] })
def lineS (d : Nat) (s : ByteArray) : ByteArray := blkS d ++ s ++ { data := #[10] }

theorem line_group {d i : Nat} {f : F} (hd : 1 ≤ d) (hi : 1 ≤ i) (hk : f.k = 0) : lineS d (begS i f) = headS d f ++ { data := #[32, 123, 10] } := by
  unfold lineS begS headS
  rw [if_neg (show ¬ i = 0 by omega), if_neg (show ¬ d = 0 by omega), if_pos hk, show ({ data := #[32, 123, 10] } : ByteArray) = { data := #[32, 123] } ++ { data := #[10] } from rfl]
  simp only [ByteArray.append_assoc]
theorem line_leaf {d i : Nat} {f : F} (hd : 1 ≤ d) (hi : 1 ≤ i) (hk : f.k ≠ 0) : lineS d (begS i f) = headS d f ++ { data := #[59, 10] } := by
  unfold lineS begS headS
  rw [if_neg (show ¬ i = 0 by omega), if_neg (show ¬ d = 0 by omega), if_neg hk, show ({ data := #[59, 10] } : ByteArray) = { data := #[59] } ++ { data := #[10] } from rfl]
  simp only [ByteArray.append_assoc]
theorem ba_nil_r (a : ByteArray) : a ++ ({ data := #[] } : ByteArray) = a := ByteArray.append_empty
theorem ba_nil_l (a : ByteArray) : ({ data := #[] } : ByteArray) ++ a = a := ByteArray.empty_append
theorem line_root {f : F} (hk : f.k = 0) : lineS 0 (begS 0 f) = headS 0 f ++ { data := #[32, 123, 10] } := by
  unfold lineS begS headS
  rw [if_pos rfl, if_pos rfl, if_pos hk, show ({ data := #[32, 123, 10] } : ByteArray) = { data := #[32, 123] } ++ { data := #[10] } from rfl,
    show ({ data := #[109, 101, 115, 115, 97, 103, 101, 32] } : ByteArray) = wMsg ++ { data := #[32] } from rfl, show blkS 0 = ({ data := #[] } : ByteArray) from rfl, ba_nil_l]
  simp only [ByteArray.append_assoc]

/-- Of each field of a forest its group. -/
def Fo.parz : Nat → Int → Fo → List Int
  | _, _, .nil => []
  | i, g, .leaf _ t => g :: t.parz (i + 1) g
  | i, g, .group _ k t => g :: (k.parz (i + 1) (i : Int) ++ t.parz (i + 1 + k.flat.length) g)
theorem parz_pars (fo : Fo) : ∀ (i g : Nat), fo.parz i (g : Int) = fo.pars i g := by
  induction fo with
  | nil => intro i g; rfl
  | leaf f t ih => intro i g; simp [Fo.parz, Fo.pars, ih]
  | group f k t ihk iht => intro i g; simp [Fo.parz, Fo.pars, ihk, iht]

/-- The groups that are open, the innermost first, each with what is still to come in it; the last is the one in which the root lies. -/
abbrev Lvs := List (Int × Fo)
def Lvs.flat : Lvs → List F
  | [] => []
  | e :: L => e.2.flat ++ Lvs.flat L
def Lvs.pars : Nat → Lvs → List Int
  | _, [] => []
  | i, e :: L => e.2.parz i e.1 ++ Lvs.pars (i + e.2.flat.length) L
def Lvs.txt : Lvs → ByteArray
  | [] => { data := #[] }
  | e :: [] => Go.Proofs.Ytofnpcfclcfgfaa.txt 0 e.2
  | e :: e' :: L => Go.Proofs.Ytofnpcfclcfgfaa.txt (L.length + 1) e.2 ++ blkS L.length ++ { data := #[125, 10] } ++ Lvs.txt (e' :: L)
def Lvs.ok (n : Nat) (ps : List Int) : Lvs → Prop
  | [] => False
  | e :: [] => e.1 = -1 ∧ e.2 = .nil
  | e :: e' :: L => e'.1 < e.1 ∧ 0 ≤ e.1 ∧ e.1 < n ∧ ps[e.1.toNat]? = some e'.1 ∧ e.2.ok ∧ Lvs.ok n ps (e' :: L)

theorem Lvs.lt {n : Nat} {ps : List Int} : ∀ {L : Lvs} {e : Int × Fo}, Lvs.ok n ps (e :: L) → ∀ x ∈ L, x.1 < e.1 := by
  intro L
  induction L with
  | nil => intro e _ x hx; cases hx
  | cons e' L ih =>
    intro e h x hx
    obtain ⟨h1, -, -, -, -, h2⟩ := h
    rcases List.mem_cons.1 hx with rfl | hx
    · exact h1
    · have := ih h2 x hx; omega

theorem Lvs.head_mem {L : Lvs} : ∀ {i : Nat} {x : Int} {r : List Int}, Lvs.pars i L = x :: r → ∃ e ∈ L, e.1 = x := by
  induction L with
  | nil => intro i x r h; cases h
  | cons e L ih =>
    intro i x r h
    obtain ⟨g, fo⟩ := e
    cases fo with
    | nil =>
      obtain ⟨e, he, h2⟩ := ih (i := i) (by simpa [Lvs.pars, Fo.parz, Fo.flat] using h)
      exact ⟨e, by simp [he], h2⟩
    | leaf f t => simp [Lvs.pars, Fo.parz] at h; exact ⟨(g, .leaf f t), List.mem_cons_self .., h.1⟩
    | group f k t => simp [Lvs.pars, Fo.parz] at h; exact ⟨(g, .group f k t), List.mem_cons_self .., h.1⟩

/-- How printing stands: i: the next field; g: the innermost group that is open; out: what is printed. -/
structure PJ0 (l : List F) (ps : List Int) (T : ByteArray) (i : Nat) (g : Int) (dep : Nat) (out : ByteArray) (L : Lvs) (rem : Fo) : Prop where
  fl : l.drop i = rem.flat ++ L.flat
  pa : ps.drop i = rem.parz i g ++ Lvs.pars (i + rem.flat.length) L
  tx : out ++ Lvs.txt ((g, rem) :: L) = T
  dp : dep = L.length
  le : i ≤ l.length
  lt : g < (i : Int)
  ok : i = 0 ∧ g = -1 ∧ L = [] ∧ (∃ r fo, rem = .group r fo .nil ∧ r.k = 0 ∧ r.c = fo.num ∧ fo.ok) ∨ 1 ≤ i ∧ Lvs.ok l.length ps ((g, rem) :: L)

theorem PJ0.size {l : List F} {ps : List Int} {T out : ByteArray} {i dep : Nat} {g : Int} {L : Lvs} {rem : Fo} (h : PJ0 l ps T i g dep out L rem) : out.size ≤ T.size := by
  rw [← h.tx, ByteArray.size_append]; omega

theorem drop_one {α : Type} {l r : List α} {i : Nat} {x : α} (h : l.drop i = x :: r) : l[i]? = some x ∧ l.drop (i + 1) = r ∧ i < l.length := by
  have h0 : i < l.length := by
    have := congrArg List.length h
    simp at this
    omega
  rw [List.drop_eq_getElem_cons h0] at h
  injection h with h1 h2
  exact ⟨by rw [List.getElem?_eq_getElem h0, h1], h2, h0⟩

theorem PJ0.next {l : List F} {ps : List Int} {T out : ByteArray} {i dep : Nat} {g : Int} {L : Lvs} {rem : Fo} (h : PJ0 l ps T i g dep out L rem) (hl : ps.length = l.length) :
    (∃ f, l[i]? = some f ∧ ps[i]? = some g ∧ (f.k = 0 → ∃ L' rem', PJ0 l ps T (i + 1) (i : Int) (dep + 1) (out ++ lineS dep (begS i f)) L' rem') ∧ (f.k ≠ 0 → ∃ L' rem', PJ0 l ps T (i + 1) g dep (out ++ lineS dep (begS i f)) L' rem')) ∨
    ((∀ x, ps[i]? = some x → x ≠ g) ∧ 0 ≤ g ∧ g < l.length ∧ 1 ≤ dep ∧ ∃ g', ps[g.toNat]? = some g' ∧ ∃ L' rem', PJ0 l ps T i g' (dep - 1) (out ++ lineS (dep - 1) { data := #[125] }) L' rem') ∨
    (i = l.length ∧ g = -1 ∧ out = T) := by
  obtain ⟨fl, pa, tx, dp, le, lt, ok⟩ := h
  rcases ok with ⟨rfl, rfl, rfl, r, fo, rfl, hk, hc, hok⟩ | ⟨hi, ok⟩
  · left
    subst dp
    simp only [Fo.flat, List.append_nil, Lvs.flat] at fl
    simp only [Fo.parz, Lvs.pars, List.append_nil] at pa
    obtain ⟨f1, f2, f3⟩ := drop_one fl
    obtain ⟨p1, p2, -⟩ := drop_one pa
    refine ⟨r, f1, p1, fun _ => ⟨[(-1, .nil)], fo, ?_, ?_, ?_, rfl, f3, by show ((0 : Nat) : Int) < ((0 + 1 : Nat) : Int); decide, .inr ⟨by omega, by show (-1 : Int) < 0; decide, Int.le_refl _, by simpa using f3, p1, hok, rfl, rfl⟩⟩, fun h => absurd hk h⟩
    · rw [f2]; simp [Lvs.flat, Fo.flat]
    · rw [p2]; simp [Lvs.pars, Fo.parz]
    · rw [← tx, List.length_nil, line_root hk]
      simp only [Lvs.txt, List.length_nil, txt, ba_nil_r, Nat.zero_add, ByteArray.append_assoc]
  · cases rem with
    | leaf f t =>
      left
      cases L with
      | nil => exact absurd ok.2 (by simp)
      | cons e' L =>
        obtain ⟨o1, o2, o3, o4, ⟨hk, hc, hok⟩, o6⟩ := ok
        simp only [Fo.flat, List.cons_append] at fl
        simp only [Fo.parz, List.cons_append, Fo.flat, List.length_cons] at pa
        obtain ⟨f1, f2, f3⟩ := drop_one fl
        obtain ⟨p1, p2, -⟩ := drop_one pa
        refine ⟨f, f1, p1, fun h => absurd h hk, fun _ => ⟨e' :: L, t, f2, ?_, ?_, dp, f3, by omega, .inr ⟨by omega, o1, o2, o3, o4, hok, o6⟩⟩⟩
        · rw [p2, show i + 1 + t.flat.length = i + (t.flat.length + 1) by omega]
        · rw [← tx, dp, line_leaf (by simp) hi hk]
          simp only [Lvs.txt, List.length_cons, txt, ByteArray.append_assoc]
    | group f k t =>
      left
      cases L with
      | nil => exact absurd ok.2 (by simp)
      | cons e' L =>
        obtain ⟨o1, o2, o3, o4, ⟨hk, hc, hok, hok2⟩, o6⟩ := ok
        simp only [Fo.flat, List.cons_append] at fl
        simp only [Fo.parz, List.cons_append, Fo.flat, List.length_cons, List.length_append] at pa
        obtain ⟨f1, f2, f3⟩ := drop_one fl
        obtain ⟨p1, p2, -⟩ := drop_one pa
        refine ⟨f, f1, p1, fun _ => ⟨(g, t) :: e' :: L, k, ?_, ?_, ?_, by simp [dp], f3, by omega, .inr ⟨by omega, by show g < (i : Int); exact lt, by simp, by simpa using f3, by simpa using p1, hok, o1, o2, o3, o4, hok2, o6⟩⟩, fun h => absurd hk h⟩
        · rw [f2]; simp [Lvs.flat]
        · rw [p2]; simp [Lvs.pars, Nat.add_assoc, Nat.add_comm 1]
        · rw [← tx, dp, line_group (by simp) hi hk]
          simp only [Lvs.txt, List.length_cons, txt, ByteArray.append_assoc]
    | nil =>
      right
      simp only [Fo.flat, List.nil_append] at fl
      simp only [Fo.parz, List.nil_append, Fo.flat, List.length_nil, Nat.add_zero] at pa
      cases L with
      | nil =>
        right
        refine ⟨?_, ok.1, ?_⟩
        · have := congrArg List.length fl
          simp [Lvs.flat] at this
          omega
        · rw [← tx]; simp only [Lvs.txt, txt, ba_nil_r]
      | cons e' L =>
        left
        obtain ⟨o1, o2, o3, o4, hok, o6⟩ := ok
        refine ⟨fun x hx => ?_, o2, o3, by simp [dp], e'.1, o4, L, e'.2, ?_⟩
        · have hil : i < ps.length := (List.getElem?_eq_some_iff.1 hx).1
          rw [List.drop_eq_getElem_cons hil] at pa
          obtain ⟨e, he, h2⟩ := Lvs.head_mem pa.symm
          have h3 : x = ps[i] := by rw [List.getElem?_eq_getElem hil] at hx; injection hx with hx; exact hx.symm
          have h4 : e.1 < g := by
            rcases List.mem_cons.1 he with rfl | he
            · exact o1
            · have := Lvs.lt o6 e he; have h5 : e'.1 < g := o1; omega
          omega
        · refine ⟨fl, pa, ?_, by simp [dp], le, by have h5 : e'.1 < g := o1; omega, .inr ⟨hi, o6⟩⟩
          have e : ({ data := #[125, 10] } : ByteArray) = { data := #[125] } ++ { data := #[10] } := rfl
          rw [← tx, dp]
          simp only [Lvs.txt, List.length_cons, txt, ba_nil_l, lineS, Nat.add_sub_cancel, ByteArray.append_assoc, e]

end Go.Proofs.Ytofnpcfclcfgfaa
