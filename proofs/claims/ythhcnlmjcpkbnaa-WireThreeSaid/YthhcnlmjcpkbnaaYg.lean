/- Trees whose blocks are known apart. -/
import Derived.Test.YthhcnlmjcpkbnaaYa
namespace Go.Proofs.Ythhcnlmjcpkbnaa
open Go.RowKit
set_option linter.unusedVariables false

/-- Where v has cells, they lie in a block that P allows. -/
def OkB (P : Nat → Prop) (v : Value) (n : Nat) : Prop := 0 < n → ∀ g, v.ownBlock = some g → P g

/-- As KidsAt, all blocks being allowed by P. -/
def KidsIn (P : Nat → Prop) (w : World) : Nat → List (List Tr) → Value → Prop
  | 0, _, _ => False
  | d + 1, k, v => ∃ R : List (List Tr × Value), R.map (·.1) = k ∧ SeenK encR 1 w v R ∧ OkB P v R.length ∧ ∀ p ∈ R, ∃ E : List (Tr × Value), E.map (·.1) = p.1 ∧ SeenK encT 3 w p.2 E ∧ OkB P p.2 E.length ∧ ∀ q ∈ E, KidsIn P w d q.1.k q.2

def ListIn (P : Nat → Prop) (w : World) (d : Nat) (l : List Tr) (v : Value) : Prop := ∃ E : List (Tr × Value), E.map (·.1) = l ∧ SeenK encT 3 w v E ∧ OkB P v E.length ∧ ∀ q ∈ E, KidsIn P w d q.1.k q.2

theorem kidsIn_succ {P : Nat → Prop} {w : World} {d : Nat} {k : List (List Tr)} {v : Value} : KidsIn P w (d + 1) k v ↔ ∃ R : List (List Tr × Value), R.map (·.1) = k ∧ SeenK encR 1 w v R ∧ OkB P v R.length ∧ ∀ p ∈ R, ListIn P w d p.1 p.2 := Iff.rfl

theorem KidsIn.at {P : Nat → Prop} {w : World} : ∀ {d : Nat} {k : List (List Tr)} {v : Value}, KidsIn P w d k v → KidsAt w d k v
  | 0, _, _, h => h
  | d + 1, k, v, ⟨R, h1, h2, _, h3⟩ => ⟨R, h1, h2, fun p hp => by
    obtain ⟨E, q1, q2, _, q3⟩ := h3 p hp
    exact ⟨E, q1, q2, fun q hq => (q3 q hq).at⟩⟩

theorem ListIn.at {P : Nat → Prop} {w : World} {d : Nat} {l : List Tr} {v : Value} (h : ListIn P w d l v) : ListAt w d l v := by
  obtain ⟨E, q1, q2, _, q3⟩ := h
  exact ⟨E, q1, q2, fun q hq => (q3 q hq).at⟩

theorem SeenK.keepS {α : Type} {enc : α → List Value} {k : Nat} {w w' : World} {S : List Nat} {v : Value} {l : List α} (h : SeenK enc k w v l) (hc : Chg S w w') (hS : 0 < l.length → ∀ g, v.ownBlock = some g → g ∉ S) : SeenK enc k w' v l := by
  obtain ⟨ao, cap, rfl, h2, h3, h4⟩ := h
  refine ⟨ao, cap, rfl, h2, h3, fun hn => ?_⟩
  obtain ⟨g, off, rfl, h5⟩ := h4 hn
  exact ⟨g, off, rfl, fun j x i u hx hu => hc.cell (h5 j x i u hx hu) (hS hn g rfl)⟩

theorem KidsIn.keep {P : Nat → Prop} {w w' : World} {S : List Nat} (hc : Chg S w w') (hS : ∀ g, P g → g ∉ S) : ∀ {d : Nat} {k : List (List Tr)} {v : Value}, KidsIn P w d k v → KidsIn P w' d k v
  | 0, _, _, h => h
  | d + 1, k, v, ⟨R, h1, h2, h4, h3⟩ => ⟨R, h1, h2.keepS hc fun hn g hg => hS g (h4 hn g hg), h4, fun p hp => by
    obtain ⟨E, q1, q2, q4, q3⟩ := h3 p hp
    exact ⟨E, q1, q2.keepS hc fun hn g hg => hS g (q4 hn g hg), q4, fun q hq => (q3 q hq).keep hc hS⟩⟩

theorem ListIn.keep {P : Nat → Prop} {w w' : World} {S : List Nat} (hc : Chg S w w') (hS : ∀ g, P g → g ∉ S) {d : Nat} {l : List Tr} {v : Value} (h : ListIn P w d l v) : ListIn P w' d l v := by
  obtain ⟨E, q1, q2, q4, q3⟩ := h
  exact ⟨E, q1, q2.keepS hc fun hn g hg => hS g (q4 hn g hg), q4, fun q hq => (q3 q hq).keep hc hS⟩

theorem KidsIn.mono {P Q : Nat → Prop} {w : World} (hPQ : ∀ g, P g → Q g) : ∀ {d d' : Nat} {k : List (List Tr)} {v : Value}, KidsIn P w d k v → d ≤ d' → KidsIn Q w d' k v
  | 0, _, _, _, h, _ => h.elim
  | d + 1, 0, _, _, _, h => absurd h (by omega)
  | d + 1, d' + 1, k, v, ⟨R, h1, h2, h4, h3⟩, hd => ⟨R, h1, h2, fun hn g hg => hPQ g (h4 hn g hg), fun p hp => by
    obtain ⟨E, q1, q2, q4, q3⟩ := h3 p hp
    exact ⟨E, q1, q2, fun hn g hg => hPQ g (q4 hn g hg), fun q hq => (q3 q hq).mono hPQ (by omega)⟩⟩

theorem kidsIn_nil {P : Nat → Prop} {w : World} {d : Nat} : KidsIn P w (d + 1) [] (.slice none 0 0) :=
  ⟨[], rfl, ⟨none, 0, rfl, Nat.zero_le _, by decide, fun h => absurd h (by simp)⟩, fun h => absurd h (by simp), by simp⟩

theorem listIn_nil {P : Nat → Prop} {w : World} {d : Nat} : ListIn P w d [] (.slice none 0 0) :=
  ⟨[], rfl, ⟨none, 0, rfl, Nat.zero_le _, by decide, fun h => absurd h (by simp)⟩, fun h => absurd h (by simp), by simp⟩

/-- A row of trees of the call's own. -/
theorem listIn_own {P : Nat → Prop} {w : World} {B d n : Nat} {v : Value} {E : List (Tr × Value)} (h : w.ownsRow B 30 3 v n (E.flatMap encT)) (hn : E.length = n) (hB : ∀ g, B ≤ g → P g) (hq : ∀ q ∈ E, KidsIn P w d q.1.k q.2) : ListIn P w d (E.map (·.1)) v :=
  ⟨E, rfl, SeenK.own encT_len h hn, fun _ g hg => hB g (own_ge h g hg), hq⟩

/-- A row of lists of the call's own. -/
theorem kidsIn_own {P : Nat → Prop} {w : World} {B d n : Nat} {v : Value} {R : List (List Tr × Value)} (h : w.ownsRow B 55 1 v n (R.flatMap encR)) (hn : R.length = n) (hB : ∀ g, B ≤ g → P g) (hq : ∀ q ∈ R, ListIn P w d q.1 q.2) : KidsIn P w (d + 1) (R.map (·.1)) v :=
  kidsIn_succ.2 ⟨R, rfl, SeenK.own encR_len h hn, fun _ g hg => hB g (own_ge h g hg), hq⟩

theorem ListIn.shape {P : Nat → Prop} {w : World} {d : Nat} {l : List Tr} {v : Value} (h : ListIn P w d l v) : ∃ ao cap, v = .slice ao l.length cap ∧ l.length ≤ cap ∧ cap ≤ maxLen := h.at.shape
theorem KidsIn.shape {P : Nat → Prop} {w : World} {d : Nat} {k : List (List Tr)} {v : Value} (h : KidsIn P w d k v) : ∃ ao cap, v = .slice ao k.length cap ∧ k.length ≤ cap ∧ cap ≤ maxLen := h.at.shape

theorem encT_one (p : Tr × Value) (hp : p.2.oneCell' = true) : ∀ u ∈ encT p, u.oneCell' = true := by
  intro u hu
  simp [encT] at hu
  rcases hu with rfl | rfl | rfl
  · rfl
  · rfl
  · exact hp

/-- Blocks that are read are there. -/
theorem KidsIn.lt {P : Nat → Prop} {w : World} : ∀ {d : Nat} {k : List (List Tr)} {v : Value}, KidsIn P w d k v → KidsIn (fun g => P g ∧ g < w.heap.size) w d k v
  | 0, _, _, h => h
  | d + 1, k, v, ⟨R, h1, h2, h4, h3⟩ => by
    have hb : ∀ {α : Type} {enc : α → List Value} {m : Nat} {x : Value} {l : List α}, (∀ a, (enc a)[0]? ≠ none) → SeenK enc m w x l → OkB P x l.length → OkB (fun g => P g ∧ g < w.heap.size) x l.length := fun he hs ho hn g hg => by
      refine ⟨ho hn g hg, ?_⟩
      obtain ⟨ao, cap, rfl, -, -, h5⟩ := hs
      obtain ⟨g', off, rfl, h6⟩ := h5 hn
      simp [Value.ownBlock] at hg
      subst hg
      rename_i l
      obtain ⟨a, ha⟩ : ∃ a, l[0]? = some a := ⟨_, List.getElem?_eq_getElem hn⟩
      cases hu : (_ : List Value)[0]? with
      | none => exact absurd hu (he a)
      | some u => exact World.block_lt_of_cell? w _ (h6 0 a 0 u ha hu)
    refine ⟨R, h1, h2, hb (fun a => by simp [encR]) h2 h4, fun p hp => ?_⟩
    obtain ⟨E, q1, q2, q4, q3⟩ := h3 p hp
    exact ⟨E, q1, q2, hb (fun a => by simp [encT]) q2 q4, fun q hq => (q3 q hq).lt⟩

theorem ListIn.lt {P : Nat → Prop} {w : World} {d : Nat} {l : List Tr} {v : Value} (h : ListIn P w d l v) : ListIn (fun g => P g ∧ g < w.heap.size) w d l v := by
  obtain ⟨E, q1, q2, q4, q3⟩ := h
  refine ⟨E, q1, q2, fun hn g hg => ⟨q4 hn g hg, ?_⟩, fun q hq => (q3 q hq).lt⟩
  obtain ⟨ao, cap, rfl, -, -, h5⟩ := q2
  obtain ⟨g', off, rfl, h6⟩ := h5 hn
  simp [Value.ownBlock] at hg
  subst hg
  obtain ⟨a, ha⟩ : ∃ a, E[0]? = some a := ⟨_, List.getElem?_eq_getElem hn⟩
  exact World.block_lt_of_cell? w _ (h6 0 a 0 _ ha rfl)

theorem ListIn.mono {P Q : Nat → Prop} {w : World} (hPQ : ∀ g, P g → Q g) {d d' : Nat} {l : List Tr} {v : Value} (h : ListIn P w d l v) (hd : d ≤ d') : ListIn Q w d' l v := by
  obtain ⟨E, q1, q2, q4, q3⟩ := h
  exact ⟨E, q1, q2, fun hn g hg => hPQ g (q4 hn g hg), fun q hq => (q3 q hq).mono hPQ hd⟩

end Go.Proofs.Ythhcnlmjcpkbnaa
