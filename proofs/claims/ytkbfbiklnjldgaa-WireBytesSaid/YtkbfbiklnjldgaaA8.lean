/- Tp, Td: texts of one group, one behind the other. -/
import Derived.Test.YtkbfbiklnjldgaaA6
import Derived.Test.YtkbfbiklnjldgaaA4
import Derived.ScopeJumps
import Derived.Test.YtkbfbiklnjldgaaA7
namespace Go.Proofs.Ytkbfbiklnjldgaa
open Go.RowKit
set_option linter.unusedVariables false

/-! ### a scope with four labels -/

/-- By a goto: what its label asks; else as Q. -/
def Exit.jumps (J : Nat → Act → World → Prop) (Q : Exit → Act → World → Prop) : Exit → Act → World → Prop
  | .goto l, a, w => J l a w
  | e, a, w => Q e a w

theorem wp_scope_labels {P : Program} {a : Act} {w : World} {Q : Exit → Act → World → Prop} {c : Code} (J : Nat → Act → World → Prop) (μ : Nat → Act → World → Nat) (hf : ∀ l a w, J l a w → ∃ rest, findLabel c l = some rest)
    (first : c.wp P (Exit.jumps J Q) a w)
    (pass : ∀ l rest a w, findLabel c l = some rest → J l a w → rest.wp P (Exit.jumps (fun l' a' w' => J l' a' w' ∧ μ l' a' w' < μ l a w) Q) a w) : (Code.scope c).wp P Q a w := by
  intro b k cs
  have key : ∀ n l a w, μ l a w = n → J l a w → ∀ rest, findLabel c l = some rest → ∃ e a' w', Q e a' w' ∧ Arrives P (lone (b.at a (.code rest :: .inScope c :: k)) cs w) b k cs e a' w' := by
    intro n
    induction n using Nat.strongRecOn with
    | _ n ih =>
      intro l a w hn hJ rest hl
      obtain ⟨e, a₁, w₁, hq, harr⟩ := pass l rest a w hl hJ b (.inScope c :: k) cs
      cases e with
      | normal => exact ⟨.normal, a₁, w₁, hq, Steps.trans harr (.one step_inScope)⟩
      | exit id => exact ⟨.exit id, a₁, w₁, hq, fun k' hk => harr k' (by simp [exitTo, hk])⟩
      | goto l' =>
        obtain ⟨hJ', hlt⟩ := hq
        obtain ⟨rest', hl'⟩ := hf l' a₁ w₁ hJ'
        obtain ⟨e₂, a₂, w₂, hq₂, harr₂⟩ := ih _ (by omega) l' a₁ w₁ rfl hJ' rest' hl'
        have hg : gotoIn l' (.inScope c :: k) = some (.code rest' :: .inScope c :: k) := by simp [gotoIn, hl']
        exact ⟨e₂, a₂, w₂, hq₂, .of_steps (harr _ hg) harr₂⟩
      | ret => exact ⟨_, a₁, w₁, hq, harr⟩
      | panic ch => exact ⟨_, a₁, w₁, hq, harr⟩
      | outgrown => exact ⟨_, a₁, w₁, hq, harr⟩
  obtain ⟨e, a₁, w₁, hq, harr⟩ := first b (.inScope c :: k) cs
  cases e with
  | normal => exact ⟨.normal, a₁, w₁, hq, .head step_scope (Steps.trans harr (.one step_inScope))⟩
  | exit id => exact ⟨.exit id, a₁, w₁, hq, fun k' hk => .head step_scope (harr k' (by simp [exitTo, hk]))⟩
  | goto l' =>
    obtain ⟨rest', hl'⟩ := hf l' a₁ w₁ hq
    have hg : gotoIn l' (.inScope c :: k) = some (.code rest' :: .inScope c :: k) := by simp [gotoIn, hl']
    obtain ⟨e₂, a₂, w₂, hq₂, harr₂⟩ := key _ l' a₁ w₁ rfl hq rest' hl'
    exact ⟨e₂, a₂, w₂, hq₂, .of_steps (.head step_scope (harr _ hg)) harr₂⟩
  | ret => exact ⟨_, a₁, w₁, hq, .of_steps (.one step_scope) harr⟩
  | panic ch => exact ⟨_, a₁, w₁, hq, .of_steps (.one step_scope) harr⟩
  | outgrown => exact ⟨_, a₁, w₁, hq, .of_steps (.one step_scope) harr⟩

theorem jumps_mono {J J' : Nat → Act → World → Prop} {Q : Exit → Act → World → Prop} (h : ∀ l a w, J l a w → J' l a w) : ∀ e a w, Exit.jumps J Q e a w → Exit.jumps J' Q e a w := by
  intro e a w he
  cases e with
  | goto l => exact h l a w he
  | _ => exact he

theorem wp_scope4 {P : Program} {a : Act} {w : World} {Q : Exit → Act → World → Prop} {c r0 r1 r2 r3 : Code} (J : Nat → Act → World → Prop) (μ : Nat → Act → World → Nat)
    (h0 : findLabel c 0 = some (.seq .skip r0)) (h1 : findLabel c 1 = some (.seq .skip r1)) (h2 : findLabel c 2 = some (.seq .skip r2)) (h3 : findLabel c 3 = some (.seq .skip r3)) (hJ : ∀ l a w, J l a w → l < 4)
    (p0 : ∀ a w, J 0 a w → r0.wp P (Exit.jumps (fun l' a' w' => J l' a' w' ∧ μ l' a' w' < μ 0 a w) Q) a w)
    (p1 : ∀ a w, J 1 a w → r1.wp P (Exit.jumps (fun l' a' w' => J l' a' w' ∧ μ l' a' w' < μ 1 a w) Q) a w)
    (p2 : ∀ a w, J 2 a w → r2.wp P (Exit.jumps (fun l' a' w' => J l' a' w' ∧ μ l' a' w' < μ 2 a w) Q) a w)
    (p3 : ∀ a w, J 3 a w → r3.wp P (Exit.jumps (fun l' a' w' => J l' a' w' ∧ μ l' a' w' < μ 3 a w) Q) a w)
    (first : (∀ a w, J 1 a w → r1.wp P (Exit.jumps J Q) a w) → c.wp P (Exit.jumps J Q) a w) : (Code.scope c).wp P Q a w := by
  have hall : ∀ l, l < 4 → l = 0 ∨ l = 1 ∨ l = 2 ∨ l = 3 := by omega
  refine wp_scope_labels J μ (fun l a w h => ?_) (first fun a w h => wp_mono (p1 a w h) (jumps_mono fun l a w h => h.1)) fun l rest a w hl h => ?_
  · rcases hall l (hJ l a w h) with rfl | rfl | rfl | rfl
    · exact ⟨_, h0⟩
    · exact ⟨_, h1⟩
    · exact ⟨_, h2⟩
    · exact ⟨_, h3⟩
  · rcases hall l (hJ l a w h) with rfl | rfl | rfl | rfl
    · rw [h0] at hl; injection hl with hl; subst hl; exact wp_seq (wp_skip (p0 a w h))
    · rw [h1] at hl; injection hl with hl; subst hl; exact wp_seq (wp_skip (p1 a w h))
    · rw [h2] at hl; injection hl with hl; subst hl; exact wp_seq (wp_skip (p2 a w h))
    · rw [h3] at hl; injection hl with hl; subst hl; exact wp_seq (wp_skip (p3 a w h))

/-! ### the machine -/

def wOp : ByteArray := { data := #[123] }
def wCl : ByteArray := { data := #[125] }
def wSc : ByteArray := { data := #[59] }
def wMsg : ByteArray := { data := #[109, 101, 115, 115, 97, 103, 101] }
def repsL : List ByteArray := [{ data := #[114, 101, 113, 117, 105, 114, 101, 100] }, { data := #[111, 112, 116, 105, 111, 110, 97, 108] }, { data := #[114, 101, 112, 101, 97, 116, 101, 100] }]
def kindsL : List ByteArray := [{ data := #[103, 114, 111, 117, 112] }, { data := #[98, 111, 111, 108] }, { data := #[105, 110, 116, 51, 50] }, { data := #[105, 110, 116, 54, 52] }, { data := #[98, 121, 116, 101, 115] }]
def ixR (w : ByteArray) : Int := Lib.idxOfS repsL w
def ixK (w : ByteArray) : Int := Lib.idxOfS kindsL w

def setC (S : List F) (g : Nat) (n : Int) : List F := S.set g { S.getD g default with c := n }
def bumpO : List (Nat × Int) → List (Nat × Int)
  | [] => []
  | (g, n) :: o => (g, n + 1) :: o

def rdM : Bool → List ByteArray → List F → List (Nat × Int) → Int × List F
  | _, [], _, _ => (6, [])
  | b, w :: t, S, o =>
    if b = false ∧ w = wCl then
      match o with
      | [] => (6, [])
      | (g, n) :: o' => if o' = [] then (if t = [] then (0, setC S g n) else (6, [])) else rdM false t (setC S g n) o'
    else match t with
      | k :: nm :: t2 =>
        if ixR w < 0 ∨ ixK k < 0 then (6, [])
        else if refN nm S.length o.length ≠ 0 then (refN nm S.length o.length, [])
        else match t2 with
          | z :: t3 =>
            if ixK k = 0 ∧ z = wOp then rdM true t3 (S ++ [⟨nm, ixR w, ixK k, 0⟩]) ((S.length, 0) :: bumpO o)
            else if ixK k ≠ 0 ∧ z = wSc then rdM false t3 (S ++ [⟨nm, ixR w, ixK k, 0⟩]) (bumpO o)
            else (6, [])
          | [] => (6, [])
      | _ => (6, [])

/-- From a field's name on. -/
def nmR (ws : List ByteArray) (r k : Int) (S : List F) (o : List (Nat × Int)) : Int × List F :=
  match ws with
  | [] => (6, [])
  | nm :: t => if refN nm S.length o.length ≠ 0 then (refN nm S.length o.length, []) else
    match t with
    | [] => (6, [])
    | z :: t3 =>
      if k = 0 ∧ z = wOp then rdM true t3 (S ++ [⟨nm, r, k, 0⟩]) ((S.length, 0) :: bumpO o)
      else if k ≠ 0 ∧ z = wSc then rdM false t3 (S ++ [⟨nm, r, k, 0⟩]) (bumpO o)
      else (6, [])

/-- From a field's second word on. -/
def fdR (w : ByteArray) (ws : List ByteArray) (S : List F) (o : List (Nat × Int)) : Int × List F :=
  if ixR w < 0 ∨ ixK (ws.headD ByteArray.empty) < 0 then (6, []) else nmR ws.tail (ixR w) (ixK (ws.headD ByteArray.empty)) S o

theorem ixK_empty : ixK ByteArray.empty < 0 := by decide
theorem ixR_empty : ixR ByteArray.empty < 0 := by decide

theorem rdM_fd {b : Bool} {w : ByteArray} {t : List ByteArray} {S : List F} {o : List (Nat × Int)} (h : ¬ (b = false ∧ w = wCl)) : rdM b (w :: t) S o = fdR w t S o := by
  unfold fdR nmR
  rw [rdM.eq_def]
  simp only
  rw [if_neg h]
  match t with
  | [] => simp [ixK_empty]
  | [k] => simp
  | k :: nm :: [] => simp
  | k :: nm :: z :: t3 => simp

theorem rdM_none (b : Bool) (S : List F) (o : List (Nat × Int)) : rdM b [] S o = fdR ByteArray.empty [] S o := by
  unfold fdR
  rw [rdM.eq_def, if_pos (.inl ixR_empty)]

theorem rdM_close {t : List ByteArray} {S : List F} {g : Nat} {n : Int} {o : List (Nat × Int)} : rdM false (wCl :: t) S ((g, n) :: o) = if o = [] then (if t = [] then (0, setC S g n) else (6, [])) else rdM false t (setC S g n) o := by
  rw [rdM.eq_def]
  simp only
  rw [if_pos ⟨trivial, trivial⟩]

/-! ### what lies in memory while groups are open -/

def withC (S : List F) : List (Nat × Int) → List F
  | [] => S
  | (g, n) :: o => withC (setC S g n) o
@[simp] theorem setC_length (S : List F) (g : Nat) (n : Int) : (setC S g n).length = S.length := by simp [setC]
@[simp] theorem withC_length (S : List F) (o : List (Nat × Int)) : (withC S o).length = S.length := by
  induction o generalizing S with
  | nil => rfl
  | cons e o ih => obtain ⟨g, n⟩ := e; rw [withC, ih, setC_length]

theorem setC_comm (S : List F) {g h : Nat} (hne : g ≠ h) (m n : Int) : setC (setC S g m) h n = setC (setC S h n) g m := by
  unfold setC
  have e1 : (S.set g { S.getD g default with c := m }).getD h default = S.getD h default := by simp [List.getD, List.getElem?_set_ne hne]
  have e2 : (S.set h { S.getD h default with c := n }).getD g default = S.getD g default := by simp [List.getD, List.getElem?_set_ne (Ne.symm hne)]
  rw [e1, e2, List.set_comm _ _ hne]

theorem withC_set (o : List (Nat × Int)) : ∀ (S : List F) (g : Nat) (n : Int), (∀ e ∈ o, e.1 ≠ g) → withC (setC S g n) o = setC (withC S o) g n := by
  induction o with
  | nil => intro S g n _; rfl
  | cons e o ih =>
    intro S g n h
    obtain ⟨h', m⟩ := e
    rw [withC, withC, setC_comm S (Ne.symm (h (h', m) (by simp))) n m, ih _ g n (fun e he => h e (by simp [he]))]

theorem withC_snoc (o : List (Nat × Int)) : ∀ (S : List F) (f : F), (∀ e ∈ o, e.1 < S.length) → withC (S ++ [f]) o = withC S o ++ [f] := by
  induction o with
  | nil => intro S f _; rfl
  | cons e o ih =>
    intro S f h
    obtain ⟨g, n⟩ := e
    have hg := h (g, n) (by simp)
    have e1 : setC (S ++ [f]) g n = setC S g n ++ [f] := by
      unfold setC
      have e2 : (S ++ [f]).getD g default = S.getD g default := by simp [List.getD, List.getElem?_append_left hg]
      rw [e2, List.set_append, if_pos hg]
    rw [withC, withC, e1, ih _ f (fun e he => by rw [setC_length]; exact h e (by simp [he]))]

theorem setC_bump (S : List F) (g : Nat) (n : Int) (h : g < S.length) : bump (setC S g n) g = setC S g (n + 1) := by
  unfold bump
  have e1 : (setC S g n).getD g default = { S.getD g default with c := n } := by unfold setC; simp [List.getD, List.getElem?_set_self h]
  rw [e1]
  unfold setC
  rw [List.set_set]

theorem withC_bump {S : List F} {g : Nat} {n : Int} {o : List (Nat × Int)} (hg : g < S.length) (ho : ∀ e ∈ o, e.1 ≠ g) : withC S ((g, n + 1) :: o) = bump (withC S ((g, n) :: o)) g := by
  rw [withC, withC, withC_set o S g _ ho, withC_set o S g _ ho, setC_bump _ _ _ (by rw [withC_length]; exact hg)]

theorem withC_at {S : List F} {g : Nat} {n : Int} {o : List (Nat × Int)} (hg : g < S.length) (ho : ∀ e ∈ o, e.1 ≠ g) : ((withC S ((g, n) :: o)).getD g default).c = n := by
  rw [withC, withC_set o S g _ ho]
  unfold setC
  simp [List.getD, List.getElem?_set_self (show g < (withC S o).length by rw [withC_length]; exact hg)]

theorem withC_new {S : List F} {f : F} {o : List (Nat × Int)} (hf : f.c = 0) : withC (S ++ [f]) ((S.length, 0) :: o) = withC (S ++ [f]) o := by
  rw [withC]
  congr 1
  unfold setC
  have e : (S ++ [f]).getD S.length default = f := by simp [List.getD]
  have e2 : ({ f with c := 0 } : F) = f := by cases f; simp at hf; simp [hf]
  rw [e, e2]
  simp

end Go.Proofs.Ytkbfbiklnjldgaa

namespace Go.Proofs.Ytkbfbiklnjldgaa
open Go.RowKit
set_option linter.unusedVariables false

theorem lit_cells {w : World} {g : Nat} {l : List ByteArray} {T : TypeId} (h : w.heap[g]? = some (.cells (sv l).toArray T (0, 0))) : ∀ j, j < l.length → w.cell? ⟨g, 0 + j, none⟩ = some (.string (l.getD j ByteArray.empty)) := by
  intro j hj
  rw [Nat.zero_add, cell_of_row w g j _ _ _ h]
  simp [sv, List.getD, List.getElem?_eq_getElem hj]

theorem blk_ne {w : World} {a b : Nat} {C D : Array Value} {T T' : TypeId} {fr fr' : Nat × Nat} (h : w.heap[a]? = some (.cells C T fr)) (h' : w.heap[b]? = some (.cells D T' fr')) (hT : T ≠ T') : a ≠ b := by
  rintro rfl
  rw [h] at h'
  injection h' with h'
  injection h' with _ h2
  exact hT h2

theorem own_ne {w : World} {B T size n b : Nat} {v : Value} {xs : List Value} {D : Array Value} {T' : TypeId} {fr : Nat × Nat} (h : w.ownsRow B T size v n xs) (h' : w.heap[b]? = some (.cells D T' fr)) (hT : T ≠ T') : ∀ g, v.ownBlock = some g → g ≠ b := by
  intro g hg
  obtain ⟨cur, fr', hc⟩ := tagged_of_own h g hg
  exact blk_ne hc h' hT

theorem b_eq {x y : ByteArray} {l : List UInt8} (hl : y.toList = l) (h : x = y) : (x.toList == l) = true := by rw [h, hl]; simp
theorem b_ne {x y : ByteArray} {l : List UInt8} (hl : y.toList = l) (h : x ≠ y) : (x.toList == l) = false := by
  rw [Bool.eq_false_iff]
  intro hb
  exact h (bytes_ext (by rw [hl]; exact hb))
theorem lCl : wCl.toList = [125] := by simp [wCl]
theorem lOp : wOp.toList = [123] := by simp [wOp]
theorem lSc : wSc.toList = [59] := by simp [wSc]
theorem lMsg : wMsg.toList = [109, 101, 115, 115, 97, 103, 101] := by simp [wMsg]

/-- How many words are left. -/
def left (w : World) (v : Value) : Nat := match v with
  | .pointer (some a) => slen ((w.cell? a).getD undef)
  | _ => 0
theorem left_of {w : World} {g n c : Nat} {a : Option Addr} {T : TypeId} {fr : Nat × Nat} (h : w.heap[g]? = some (.cells #[.slice a n c] T fr)) : left w (.pointer (some ⟨g, 0, none⟩)) = n := by
  have e : w.cell? ⟨g, 0, none⟩ = some (.slice a n c) := by simp [World.cell?, h]
  unfold left
  simp only [e]
  rfl

def MR (l : Nat) (a : Act) (w : World) : Nat := 4 * left w (a.tmps.getD 1 undef) + l

/-- What read answers. -/
def ReadOut (R : Int × List F) (w : World) (e : Ending) (w' : World) : Prop :=
  (R.1 = 0 ∧ ∃ v, e = .returned (.tuple #[v, .int .i64 0]) ∧ w'.ownsRow w.heap.size 47 4 v R.2.length (R.2.flatMap F.cs)) ∨ (R.1 ≠ 0 ∧ e = .returned (.tuple #[.slice none 0 0, .int .i64 R.1]))

end Go.Proofs.Ytkbfbiklnjldgaa
