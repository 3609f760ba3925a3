/- Tp, Pr, Td, Te, Ty: texts of one group, one behind the other. -/
import Derived.Test.YthhcnlmjcpkbnaaA6
import Derived.Test.YthhcnlmjcpkbnaaA4
import Derived.ScopeJumps
import Derived.Test.YthhcnlmjcpkbnaaA5
import Derived.Test.YthhcnlmjcpkbnaaA7
namespace Go.Proofs.Ythhcnlmjcpkbnaa
open Go.RowKit
set_option linter.unusedVariables false

/-! ### a scope with four labels -/

/-- By a goto: what its label asks; else as Q. -/
def Exit.jumps (J : Nat → Act → World → Prop) (Q : Exit → Act → World → Prop) : Exit → Act → World → Prop
  | .goto l, a, w => J l a w
  | e, a, w => Q e a w

theorem wp_scope_labels {P : Program} {a : Act} {w : World} {Q : Exit → Act → World → Prop} {c : Code} (J : Nat → Act → World → Prop) (μ : Nat → Act → World → Nat) (hf : ∀ l a w, J l a w → ∃ rest, findLabel c l = some rest)
    (first : c.wp P (Exit.jumps J Q) a w)
    (pass : ∀ l rest a w, findLabel c l = some rest → J l a w → rest.wp P (Exit.jumps (fun l' a' w' => J l' a' w' ∧ μ l' a' w' < μ l a w) Q) a w) : (Code.scope c).wp P Q a w := by
  intro b k cs
  have key : ∀ n l a w, μ l a w = n → J l a w → ∀ rest, findLabel c l = some rest → ∃ e a' w', Q e a' w' ∧ Arrives P (lone (b.at a (.code rest :: .inScope c :: k)) cs w) b k cs e a' w' := by
    intro n
    induction n using Nat.strongRecOn with
    | _ n ih =>
      intro l a w hn hJ rest hl
      obtain ⟨e, a₁, w₁, hq, harr⟩ := pass l rest a w hl hJ b (.inScope c :: k) cs
      cases e with
      | normal => exact ⟨.normal, a₁, w₁, hq, Steps.trans harr (.one step_inScope)⟩
      | exit id => exact ⟨.exit id, a₁, w₁, hq, fun k' hk => harr k' (by simp [exitTo, hk])⟩
      | goto l' =>
        obtain ⟨hJ', hlt⟩ := hq
        obtain ⟨rest', hl'⟩ := hf l' a₁ w₁ hJ'
        obtain ⟨e₂, a₂, w₂, hq₂, harr₂⟩ := ih _ (by omega) l' a₁ w₁ rfl hJ' rest' hl'
        have hg : gotoIn l' (.inScope c :: k) = some (.code rest' :: .inScope c :: k) := by simp [gotoIn, hl']
        exact ⟨e₂, a₂, w₂, hq₂, .of_steps (harr _ hg) harr₂⟩
      | ret => exact ⟨_, a₁, w₁, hq, harr⟩
      | panic ch => exact ⟨_, a₁, w₁, hq, harr⟩
      | outgrown => exact ⟨_, a₁, w₁, hq, harr⟩
  obtain ⟨e, a₁, w₁, hq, harr⟩ := first b (.inScope c :: k) cs
  cases e with
  | normal => exact ⟨.normal, a₁, w₁, hq, .head step_scope (Steps.trans harr (.one step_inScope))⟩
  | exit id => exact ⟨.exit id, a₁, w₁, hq, fun k' hk => .head step_scope (harr k' (by simp [exitTo, hk]))⟩
  | goto l' =>
    obtain ⟨rest', hl'⟩ := hf l' a₁ w₁ hq
    have hg : gotoIn l' (.inScope c :: k) = some (.code rest' :: .inScope c :: k) := by simp [gotoIn, hl']
    obtain ⟨e₂, a₂, w₂, hq₂, harr₂⟩ := key _ l' a₁ w₁ rfl hq rest' hl'
    exact ⟨e₂, a₂, w₂, hq₂, .of_steps (.head step_scope (harr _ hg)) harr₂⟩
  | ret => exact ⟨_, a₁, w₁, hq, .of_steps (.one step_scope) harr⟩
  | panic ch => exact ⟨_, a₁, w₁, hq, .of_steps (.one step_scope) harr⟩
  | outgrown => exact ⟨_, a₁, w₁, hq, .of_steps (.one step_scope) harr⟩

theorem jumps_mono {J J' : Nat → Act → World → Prop} {Q : Exit → Act → World → Prop} (h : ∀ l a w, J l a w → J' l a w) : ∀ e a w, Exit.jumps J Q e a w → Exit.jumps J' Q e a w := by
  intro e a w he
  cases e with
  | goto l => exact h l a w he
  | _ => exact he

theorem wp_scope4 {P : Program} {a : Act} {w : World} {Q : Exit → Act → World → Prop} {c r0 r1 r2 r3 : Code} (J : Nat → Act → World → Prop) (μ : Nat → Act → World → Nat)
    (h0 : findLabel c 0 = some (.seq .skip r0)) (h1 : findLabel c 1 = some (.seq .skip r1)) (h2 : findLabel c 2 = some (.seq .skip r2)) (h3 : findLabel c 3 = some (.seq .skip r3)) (hJ : ∀ l a w, J l a w → l < 4)
    (p0 : ∀ a w, J 0 a w → r0.wp P (Exit.jumps (fun l' a' w' => J l' a' w' ∧ μ l' a' w' < μ 0 a w) Q) a w)
    (p1 : ∀ a w, J 1 a w → r1.wp P (Exit.jumps (fun l' a' w' => J l' a' w' ∧ μ l' a' w' < μ 1 a w) Q) a w)
    (p2 : ∀ a w, J 2 a w → r2.wp P (Exit.jumps (fun l' a' w' => J l' a' w' ∧ μ l' a' w' < μ 2 a w) Q) a w)
    (p3 : ∀ a w, J 3 a w → r3.wp P (Exit.jumps (fun l' a' w' => J l' a' w' ∧ μ l' a' w' < μ 3 a w) Q) a w)
    (first : (∀ a w, J 1 a w → r1.wp P (Exit.jumps J Q) a w) → c.wp P (Exit.jumps J Q) a w) : (Code.scope c).wp P Q a w := by
  have hall : ∀ l, l < 4 → l = 0 ∨ l = 1 ∨ l = 2 ∨ l = 3 := by omega
  refine wp_scope_labels J μ (fun l a w h => ?_) (first fun a w h => wp_mono (p1 a w h) (jumps_mono fun l a w h => h.1)) fun l rest a w hl h => ?_
  · rcases hall l (hJ l a w h) with rfl | rfl | rfl | rfl
    · exact ⟨_, h0⟩
    · exact ⟨_, h1⟩
    · exact ⟨_, h2⟩
    · exact ⟨_, h3⟩
  · rcases hall l (hJ l a w h) with rfl | rfl | rfl | rfl
    · rw [h0] at hl; injection hl with hl; subst hl; exact wp_seq (wp_skip (p0 a w h))
    · rw [h1] at hl; injection hl with hl; subst hl; exact wp_seq (wp_skip (p1 a w h))
    · rw [h2] at hl; injection hl with hl; subst hl; exact wp_seq (wp_skip (p2 a w h))
    · rw [h3] at hl; injection hl with hl; subst hl; exact wp_seq (wp_skip (p3 a w h))

/-! ### the machine -/

def wOp : ByteArray := { data := #[123] }
def wCl : ByteArray := { data := #[125] }
def wSc : ByteArray := { data := #[59] }
def wMsg : ByteArray := { data := #[109, 101, 115, 115, 97, 103, 101] }
def repsL : List ByteArray := [{ data := #[114, 101, 113, 117, 105, 114, 101, 100] }, { data := #[111, 112, 116, 105, 111, 110, 97, 108] }, { data := #[114, 101, 112, 101, 97, 116, 101, 100] }]
def kindsL : List ByteArray := [{ data := #[103, 114, 111, 117, 112] }, { data := #[98, 111, 111, 108] }, { data := #[105, 110, 116, 51, 50] }, { data := #[105, 110, 116, 54, 52] }, { data := #[98, 121, 116, 101, 115] }]
def ixR (w : ByteArray) : Int := Lib.idxOfS repsL w
def ixK (w : ByteArray) : Int := Lib.idxOfS kindsL w

def setC (S : List F) (g : Nat) (n : Int) : List F := S.set g { S.getD g default with c := n }
def bumpO : List (Nat × Int) → List (Nat × Int)
  | [] => []
  | (g, n) :: o => (g, n + 1) :: o

def rdM : Bool → List ByteArray → List F → List (Nat × Int) → Int × List F
  | _, [], _, _ => (6, [])
  | b, w :: t, S, o =>
    if b = false ∧ w = wCl then
      match o with
      | [] => (6, [])
      | (g, n) :: o' => if o' = [] then (if t = [] then (0, setC S g n) else (6, [])) else rdM false t (setC S g n) o'
    else match t with
      | k :: nm :: t2 =>
        if ixR w < 0 ∨ ixK k < 0 then (6, [])
        else if refN nm S.length o.length ≠ 0 then (refN nm S.length o.length, [])
        else match t2 with
          | z :: t3 =>
            if ixK k = 0 ∧ z = wOp then rdM true t3 (S ++ [⟨nm, ixR w, ixK k, 0⟩]) ((S.length, 0) :: bumpO o)
            else if ixK k ≠ 0 ∧ z = wSc then rdM false t3 (S ++ [⟨nm, ixR w, ixK k, 0⟩]) (bumpO o)
            else (6, [])
          | [] => (6, [])
      | _ => (6, [])

/-- From a field's name on. -/
def nmR (ws : List ByteArray) (r k : Int) (S : List F) (o : List (Nat × Int)) : Int × List F :=
  match ws with
  | [] => (6, [])
  | nm :: t => if refN nm S.length o.length ≠ 0 then (refN nm S.length o.length, []) else
    match t with
    | [] => (6, [])
    | z :: t3 =>
      if k = 0 ∧ z = wOp then rdM true t3 (S ++ [⟨nm, r, k, 0⟩]) ((S.length, 0) :: bumpO o)
      else if k ≠ 0 ∧ z = wSc then rdM false t3 (S ++ [⟨nm, r, k, 0⟩]) (bumpO o)
      else (6, [])

/-- From a field's second word on. -/
def fdR (w : ByteArray) (ws : List ByteArray) (S : List F) (o : List (Nat × Int)) : Int × List F :=
  if ixR w < 0 ∨ ixK (ws.headD ByteArray.empty) < 0 then (6, []) else nmR ws.tail (ixR w) (ixK (ws.headD ByteArray.empty)) S o

theorem ixK_empty : ixK ByteArray.empty < 0 := by decide
theorem ixR_empty : ixR ByteArray.empty < 0 := by decide

theorem rdM_fd {b : Bool} {w : ByteArray} {t : List ByteArray} {S : List F} {o : List (Nat × Int)} (h : ¬ (b = false ∧ w = wCl)) : rdM b (w :: t) S o = fdR w t S o := by
  unfold fdR nmR
  rw [rdM.eq_def]
  simp only
  rw [if_neg h]
  match t with
  | [] => simp [ixK_empty]
  | [k] => simp
  | k :: nm :: [] => simp
  | k :: nm :: z :: t3 => simp

theorem rdM_none (b : Bool) (S : List F) (o : List (Nat × Int)) : rdM b [] S o = fdR ByteArray.empty [] S o := by
  unfold fdR
  rw [rdM.eq_def, if_pos (.inl ixR_empty)]

theorem rdM_close {t : List ByteArray} {S : List F} {g : Nat} {n : Int} {o : List (Nat × Int)} : rdM false (wCl :: t) S ((g, n) :: o) = if o = [] then (if t = [] then (0, setC S g n) else (6, [])) else rdM false t (setC S g n) o := by
  rw [rdM.eq_def]
  simp only
  rw [if_pos ⟨trivial, trivial⟩]

/-! ### what lies in memory while groups are open -/

def withC (S : List F) : List (Nat × Int) → List F
  | [] => S
  | (g, n) :: o => withC (setC S g n) o
@[simp] theorem setC_length (S : List F) (g : Nat) (n : Int) : (setC S g n).length = S.length := by simp [setC]
@[simp] theorem withC_length (S : List F) (o : List (Nat × Int)) : (withC S o).length = S.length := by
  induction o generalizing S with
  | nil => rfl
  | cons e o ih => obtain ⟨g, n⟩ := e; rw [withC, ih, setC_length]

theorem setC_comm (S : List F) {g h : Nat} (hne : g ≠ h) (m n : Int) : setC (setC S g m) h n = setC (setC S h n) g m := by
  unfold setC
  have e1 : (S.set g { S.getD g default with c := m }).getD h default = S.getD h default := by simp [List.getD, List.getElem?_set_ne hne]
  have e2 : (S.set h { S.getD h default with c := n }).getD g default = S.getD g default := by simp [List.getD, List.getElem?_set_ne (Ne.symm hne)]
  rw [e1, e2, List.set_comm _ _ hne]

theorem withC_set (o : List (Nat × Int)) : ∀ (S : List F) (g : Nat) (n : Int), (∀ e ∈ o, e.1 ≠ g) → withC (setC S g n) o = setC (withC S o) g n := by
  induction o with
  | nil => intro S g n _; rfl
  | cons e o ih =>
    intro S g n h
    obtain ⟨h', m⟩ := e
    rw [withC, withC, setC_comm S (Ne.symm (h (h', m) (by simp))) n m, ih _ g n (fun e he => h e (by simp [he]))]

theorem withC_snoc (o : List (Nat × Int)) : ∀ (S : List F) (f : F), (∀ e ∈ o, e.1 < S.length) → withC (S ++ [f]) o = withC S o ++ [f] := by
  induction o with
  | nil => intro S f _; rfl
  | cons e o ih =>
    intro S f h
    obtain ⟨g, n⟩ := e
    have hg := h (g, n) (by simp)
    have e1 : setC (S ++ [f]) g n = setC S g n ++ [f] := by
      unfold setC
      have e2 : (S ++ [f]).getD g default = S.getD g default := by simp [List.getD, List.getElem?_append_left hg]
      rw [e2, List.set_append, if_pos hg]
    rw [withC, withC, e1, ih _ f (fun e he => by rw [setC_length]; exact h e (by simp [he]))]

theorem setC_bump (S : List F) (g : Nat) (n : Int) (h : g < S.length) : bump (setC S g n) g = setC S g (n + 1) := by
  unfold bump
  have e1 : (setC S g n).getD g default = { S.getD g default with c := n } := by unfold setC; simp [List.getD, List.getElem?_set_self h]
  rw [e1]
  unfold setC
  rw [List.set_set]

theorem withC_bump {S : List F} {g : Nat} {n : Int} {o : List (Nat × Int)} (hg : g < S.length) (ho : ∀ e ∈ o, e.1 ≠ g) : withC S ((g, n + 1) :: o) = bump (withC S ((g, n) :: o)) g := by
  rw [withC, withC, withC_set o S g _ ho, withC_set o S g _ ho, setC_bump _ _ _ (by rw [withC_length]; exact hg)]

theorem withC_at {S : List F} {g : Nat} {n : Int} {o : List (Nat × Int)} (hg : g < S.length) (ho : ∀ e ∈ o, e.1 ≠ g) : ((withC S ((g, n) :: o)).getD g default).c = n := by
  rw [withC, withC_set o S g _ ho]
  unfold setC
  simp [List.getD, List.getElem?_set_self (show g < (withC S o).length by rw [withC_length]; exact hg)]

theorem withC_new {S : List F} {f : F} {o : List (Nat × Int)} (hf : f.c = 0) : withC (S ++ [f]) ((S.length, 0) :: o) = withC (S ++ [f]) o := by
  rw [withC]
  congr 1
  unfold setC
  have e : (S ++ [f]).getD S.length default = f := by simp [List.getD]
  have e2 : ({ f with c := 0 } : F) = f := by cases f; simp at hf; simp [hf]
  rw [e, e2]
  simp

end Go.Proofs.Ythhcnlmjcpkbnaa

namespace Go.Proofs.Ythhcnlmjcpkbnaa
open Go.RowKit
set_option linter.unusedVariables false

def blkS : Nat → ByteArray
  | 0 => { data := #[] }
  | n + 1 => blkS n ++ { data := #[32, 32] }
theorem blkS_size (n : Nat) : (blkS n).size = 2 * n := by
  induction n with
  | zero => rfl
  | succ n ih => rw [blkS, ByteArray.size_append, ih]; show _ + 2 = _; omega

def repW (f : F) : ByteArray := repsL.getD f.r.toNat ByteArray.empty
def kindW (f : F) : ByteArray := kindsL.getD f.k.toNat ByteArray.empty
/-- What a field's line begins with. -/
def headS (d : Nat) (f : F) : ByteArray := (if d = 0 then { data := #[109, 101, 115, 115, 97, 103, 101, 32] } else blkS d ++ repW f ++ { data := #[32] } ++ kindW f ++ { data := #[32] }) ++ f.n
def txt : Nat → Fo → ByteArray
  | _, .nil => { data := #[] }
  | d, .leaf f t => (headS d f ++ { data := #[59, 10] }) ++ txt d t
  | d, .group f k t => (headS d f ++ { data := #[32, 123, 10] } ++ txt (d + 1) k ++ blkS d ++ { data := #[125, 10] }) ++ txt d t

end Go.Proofs.Ythhcnlmjcpkbnaa

namespace Go.Proofs.Ythhcnlmjcpkbnaa
open Go.RowKit
set_option linter.unusedVariables false

theorem clone_any (s : ByteArray) (w : World) (hs : s.size ≤ 4000) : Calls Try.prog 63 #[.string s] w fun e w' => e = .returned (.string s) ∧ Chg [] w w' := by
  go_enter Try.func63, Try.ntmps63
  go_wp2_with fail
  (with_reducible refine (stringslite_Clone s w (by omega)).mono ?_)
  rintro e w1 ⟨rfl, hk⟩
  have HK := Lib.hid (Below.chg hk)
  clear hk
  go_wp2
  go_ret
  exact ⟨rfl, HK.out⟩

theorem lit_cells {w : World} {g : Nat} {l : List ByteArray} {T : TypeId} (h : w.heap[g]? = some (.cells (sv l).toArray T (0, 0))) : ∀ j, j < l.length → w.cell? ⟨g, 0 + j, none⟩ = some (.string (l.getD j ByteArray.empty)) := by
  intro j hj
  rw [Nat.zero_add, cell_of_row w g j _ _ _ h]
  simp [sv, List.getD, List.getElem?_eq_getElem hj]

structure RD (w w' : World) (gW gF : Nat) (ws : List ByteArray) (S : List F) (o : List (Nat × Int)) (r k : Int) (sv ov : Value) : Prop where
  cg : Chg [] w w'
  w1 : w.heap.size ≤ gW
  f1 : w.heap.size ≤ gF
  hW : ∃ wv, w'.heap[gW]? = some (.cells #[wv] 23 (0, 0)) ∧ SeenS w wv ws
  hF : ∃ nm, w'.heap[gF]? = some (.cells #[.string nm, .int .i64 r, .int .i64 k, .int .i64 0] 78 (0, 0))
  os : w'.ownsRow w.heap.size 78 4 sv S.length ((withC S o).flatMap F.cs)
  oo : w'.ownsRow w.heap.size 3 1 ov o.length (iv (grS o))
  sf : sv.ownBlock ≠ some gF
  ls : S.length ≤ 40
  lo : o.length ≤ 9
  od : ∀ e ∈ o, e.1 < S.length ∧ 0 ≤ e.2 ∧ e.2 ≤ S.length
  nd : o.Pairwise fun a b => a.1 ≠ b.1
  wz : ∀ x ∈ ws, x.size ≤ 4000
  wl : ws.length ≤ 8002

theorem blk_ne {w : World} {a b : Nat} {C D : Array Value} {T T' : TypeId} {fr fr' : Nat × Nat} (h : w.heap[a]? = some (.cells C T fr)) (h' : w.heap[b]? = some (.cells D T' fr')) (hT : T ≠ T') : a ≠ b := by
  rintro rfl
  rw [h] at h'
  injection h' with h'
  injection h' with _ h2
  exact hT h2

theorem own_ne {w : World} {B T size n b : Nat} {v : Value} {xs : List Value} {D : Array Value} {T' : TypeId} {fr : Nat × Nat} (h : w.ownsRow B T size v n xs) (h' : w.heap[b]? = some (.cells D T' fr)) (hT : T ≠ T') : ∀ g, v.ownBlock = some g → g ≠ b := by
  intro g hg
  obtain ⟨cur, fr', hc⟩ := tagged_of_own h g hg
  exact blk_ne hc h' hT

theorem RD.next {w w' w2 : World} {gW gF : Nat} {ws : List ByteArray} {S : List F} {o : List (Nat × Int)} {r k : Int} {sv ov wv : Value} (h : RD w w' gW gF ws S o r k sv ov) (hb : w2.heap[gW]? = some (.cells #[wv] 23 (0, 0))) (hs : SeenS w wv ws.tail) (hc : Chg [gW] w' w2) : RD w w2 gW gF ws.tail S o r k sv ov := by
  obtain ⟨wv0, hW, -⟩ := h.hW
  obtain ⟨nm, hF⟩ := h.hF
  refine ⟨h.cg.trans hc (by simp; exact h.w1), h.w1, h.f1, ⟨wv, hb, hs⟩, ⟨nm, hc.heap hF (by simpa using blk_ne hF hW (by decide))⟩, ?_, ?_, h.sf, h.ls, h.lo, h.od, h.nd, fun x hx => h.wz x (List.mem_of_mem_tail hx), by have := h.wl; simp; omega⟩
  · exact own_chg h.os hc (fun g hg => by simpa using own_ne h.os hW (by decide) g hg)
  · exact own_chg h.oo hc (fun g hg => by simpa using own_ne h.oo hW (by decide) g hg)

/-- Nothing of it has changed. -/
theorem RD.keep {w w' w2 : World} {gW gF : Nat} {ws : List ByteArray} {S : List F} {o : List (Nat × Int)} {r k : Int} {sv ov : Value} (h : RD w w' gW gF ws S o r k sv ov) (hc : Chg [] w' w2) : RD w w2 gW gF ws S o r k sv ov := by
  obtain ⟨wv0, hW, hs⟩ := h.hW
  obtain ⟨nm, hF⟩ := h.hF
  exact ⟨h.cg.trans hc (by simp), h.w1, h.f1, ⟨wv0, hc.heap hW (by simp), hs⟩, ⟨nm, hc.heap hF (by simp)⟩, own_chg h.os hc (by simp), own_chg h.oo hc (by simp), h.sf, h.ls, h.lo, h.od, h.nd, h.wz, h.wl⟩

/-- The field that is read has changed. -/
theorem RD.field {w w' w2 : World} {gW gF : Nat} {ws : List ByteArray} {S : List F} {o : List (Nat × Int)} {r k r' k' : Int} {sv ov : Value} {nm : ByteArray} (h : RD w w' gW gF ws S o r k sv ov) (hc : Chg [gF] w' w2) (hF2 : w2.heap[gF]? = some (.cells #[.string nm, .int .i64 r', .int .i64 k', .int .i64 0] 78 (0, 0))) : RD w w2 gW gF ws S o r' k' sv ov := by
  obtain ⟨wv0, hW, hs⟩ := h.hW
  obtain ⟨nm0, hF⟩ := h.hF
  refine ⟨h.cg.trans hc (by simp; exact h.f1), h.w1, h.f1, ⟨wv0, hc.heap hW (by simpa using (blk_ne hF hW (by decide)).symm), hs⟩, ⟨nm, hF2⟩, own_chg h.os hc (fun g hg => ?_), own_chg h.oo hc (fun g hg => by simpa using own_ne h.oo hF (by decide) g hg), h.sf, h.ls, h.lo, h.od, h.nd, h.wz, h.wl⟩
  rintro hm
  simp at hm
  exact h.sf (by rw [hg, hm])

theorem b_eq {x y : ByteArray} {l : List UInt8} (hl : y.toList = l) (h : x = y) : (x.toList == l) = true := by rw [h, hl]; simp
theorem b_ne {x y : ByteArray} {l : List UInt8} (hl : y.toList = l) (h : x ≠ y) : (x.toList == l) = false := by
  rw [Bool.eq_false_iff]
  intro hb
  exact h (bytes_ext (by rw [hl]; exact hb))
theorem lCl : wCl.toList = [125] := by simp [wCl]
theorem lOp : wOp.toList = [123] := by simp [wOp]
theorem lSc : wSc.toList = [59] := by simp [wSc]
theorem lMsg : wMsg.toList = [109, 101, 115, 115, 97, 103, 101] := by simp [wMsg]

theorem RD.left {w w' : World} {gW gF : Nat} {ws : List ByteArray} {S : List F} {o : List (Nat × Int)} {r k : Int} {sv ov : Value} (h : RD w w' gW gF ws S o r k sv ov) : ∃ wv, w'.heap[gW]? = some (.cells #[wv] 23 (0, 0)) ∧ SeenS w wv ws ∧ ∃ a c, wv = .slice a ws.length c := by
  obtain ⟨wv, h1, h2⟩ := h.hW
  obtain ⟨a, c, e, _⟩ := h2.shape
  exact ⟨wv, h1, h2, a, c, e⟩

/-- How many words are left. -/
def left (w : World) (v : Value) : Nat := match v with
  | .pointer (some a) => slen ((w.cell? a).getD undef)
  | _ => 0
theorem left_of {w : World} {g n c : Nat} {a : Option Addr} {T : TypeId} {fr : Nat × Nat} (h : w.heap[g]? = some (.cells #[.slice a n c] T fr)) : left w (.pointer (some ⟨g, 0, none⟩)) = n := by
  have e : w.cell? ⟨g, 0, none⟩ = some (.slice a n c) := by simp [World.cell?, h]
  unfold left
  simp only [e]
  rfl

def MR (l : Nat) (a : Act) (w : World) : Nat := 4 * left w (a.tmps.getD 1 undef) + l

/-- What read answers. -/
def ReadOut (R : Int × List F) (w : World) (e : Ending) (w' : World) : Prop :=
  (R.1 = 0 ∧ ∃ v, e = .returned (.tuple #[v, .int .i64 0]) ∧ w'.ownsRow w.heap.size 78 4 v R.2.length (R.2.flatMap F.cs)) ∨ (R.1 ≠ 0 ∧ e = .returned (.tuple #[.slice none 0 0, .int .i64 R.1]))

theorem RD.num {w w' : World} {gW gF : Nat} {ws : List ByteArray} {S : List F} {o : List (Nat × Int)} {r k : Int} {sv ov : Value} (h : RD w w' gW gF ws S o r k sv ov) : Go.Proofs.Ythhcnlmjcpkbnaa.left w' (.pointer (some ⟨gW, 0, none⟩)) = ws.length := by
  obtain ⟨wv, h1, h2, a, c, rfl⟩ := h.left
  exact left_of h1

/-- A group ends. -/
theorem RD.close {w w' : World} {gW gF : Nat} {ws : List ByteArray} {S : List F} {g : Nat} {n : Int} {o : List (Nat × Int)} {r k : Int} {sv : Value} {go c : Nat} (h : RD w w' gW gF ws S ((g, n) :: o) r k sv (.slice (some ⟨go, 0, none⟩) (o.length + 1) c)) : RD w w' gW gF ws (setC S g n) o r k sv (.slice (some ⟨go, 0, none⟩) o.length c) := by
  have h1 := own_front h.oo o.length (by simp)
  rw [grS_pop] at h1
  refine ⟨h.cg, h.w1, h.f1, h.hW, h.hF, by simpa [withC] using h.os, h1, h.sf, by simpa using h.ls, by have := h.lo; simp at this; omega, fun e he => by simpa using h.od e (by simp [he]), (List.pairwise_cons.1 h.nd).2, h.wz, h.wl⟩

end Go.Proofs.Ythhcnlmjcpkbnaa

namespace Go.Proofs.Ythhcnlmjcpkbnaa
open Go.RowKit
set_option linter.unusedVariables false

theorem wnB_empty : wnB ByteArray.empty = false := by decide
theorem refN_empty (a d : Nat) : refN ByteArray.empty a d = 6 := by unfold refN; rw [if_pos wnB_empty]
theorem refN_zero {x : ByteArray} {a d : Nat} (h : refN x a d = 0) : a < 40 ∧ d ≤ 8 ∧ wnB x = true := by
  unfold refN at h
  split at h
  · cases h
  · rename_i h1
    split at h
    · cases h
    · split at h
      · cases h
      · exact ⟨by omega, by omega, by simpa using h1⟩

theorem nmR_bad {ws : List ByteArray} {r k : Int} {S : List F} {o : List (Nat × Int)} (h : refN (ws.headD ByteArray.empty) S.length o.length ≠ 0) : nmR ws r k S o = (refN (ws.headD ByteArray.empty) S.length o.length, []) := by
  cases ws with
  | nil => simp only [List.headD_nil, refN_empty]; rfl
  | cons x t =>
    simp only [List.headD_cons] at h ⊢
    unfold nmR
    simp only
    rw [if_pos h]

theorem nmR_ok {ws : List ByteArray} {r k : Int} {S : List F} {o : List (Nat × Int)} (h : refN (ws.headD ByteArray.empty) S.length o.length = 0) :
    ws ≠ [] ∧ nmR ws r k S o = if k = 0 ∧ ws.tail.headD ByteArray.empty = wOp then rdM true ws.tail.tail (S ++ [⟨ws.headD ByteArray.empty, r, k, 0⟩]) ((S.length, 0) :: bumpO o) else if k ≠ 0 ∧ ws.tail.headD ByteArray.empty = wSc then rdM false ws.tail.tail (S ++ [⟨ws.headD ByteArray.empty, r, k, 0⟩]) (bumpO o) else (6, []) := by
  cases ws with
  | nil => rw [List.headD_nil, refN_empty] at h; cases h
  | cons x t =>
    refine ⟨by simp, ?_⟩
    simp only [List.headD_cons, List.tail_cons] at h ⊢
    unfold nmR
    simp only
    rw [if_neg (by rw [h]; simp)]
    cases t with
    | nil =>
      have e1 : ByteArray.empty ≠ wOp := by decide
      have e2 : ByteArray.empty ≠ wSc := by decide
      simp [e1, e2]
    | cons z t3 => simp

theorem RD.append {w w4 w5 : World} {gW gF : Nat} {ws : List ByteArray} {S : List F} {o : List (Nat × Int)} {r k : Int} {sv ov sv5 : Value} {ob : Obj} {f : F} {L : List Value} (h : RD w w4 gW gF ws S o r k sv ov)
    (hL : L = (withC S o).flatMap F.cs) (hown : w5.ownsRow w.heap.size 78 4 sv5 (S.length + 1) (L ++ F.cs f)) (hg : (w4.alloc ob).grownBy w5 sv.ownBlock) (hat : sv5.ownBlock = sv.ownBlock ∨ sv5.ownBlock = some (w4.alloc ob).heap.size) (hl : S.length < 40) : RD w w5 gW gF ws (S ++ [f]) o r k sv5 ov := by
  obtain ⟨wv0, hW, hs⟩ := h.hW
  obtain ⟨nm, hF⟩ := h.hF
  have hc : Chg sv.ownBlock.toList w4 w5 := ((Chg.refl _ w4).alloc ob).grown hg (fun g hg => .inl (by rw [hg]; simp))
  have hm : ∀ {g : Nat}, g ∈ sv.ownBlock.toList → sv.ownBlock = some g := fun hg => by simpa [eq_comm] using hg
  have hgF : gF < w4.heap.size := Go.lt_of_block hF
  refine ⟨h.cg.trans hc (fun g hg => .inr (own_ge h.os g (hm hg))), h.w1, h.f1, ⟨wv0, hc.heap hW (fun hg => own_ne h.os hW (by decide) gW (hm hg) rfl), hs⟩, ⟨nm, hc.heap hF (fun hg => h.sf (hm hg))⟩, ?_, own_chg h.oo hc (fun g hg hg2 => ?_), ?_, by simp; omega, h.lo, fun e he => ?_, h.nd, h.wz, h.wl⟩
  · rw [List.length_append, List.length_singleton, withC_snoc o S f (fun e he => (h.od e he).1), List.flatMap_append, ← hL]
    simpa using hown
  · obtain ⟨c1, f1, b1⟩ := tagged_of_own h.oo g hg
    obtain ⟨c2, f2, b2⟩ := tagged_of_own h.os g (hm hg2)
    exact blk_ne b1 b2 (by decide) rfl
  · rcases hat with e | e
    · rw [e]; exact h.sf
    · rw [e]; intro e2; injection e2 with e2; simp at e2; omega
  · have := h.od e he
    simp
    omega

theorem RD.bump {w w5 : World} {gW gF gs n5 c5 : Nat} {ws : List ByteArray} {S : List F} {g : Nat} {n : Int} {o : List (Nat × Int)} {r k : Int} {ov : Value} (h : RD w w5 gW gF ws S ((g, n) :: o) r k (.slice (some ⟨gs, 0, none⟩) n5 c5) ov) (hn5 : n5 = S.length) (hlt : n + 1 ≤ S.length) :
    RD w (w5.setCell ⟨gs, g * 4 + 3, none⟩ (.int .i64 (n + 1))) gW gF ws S ((g, n + 1) :: o) r k (.slice (some ⟨gs, 0, none⟩) n5 c5) ov := by
  subst hn5
  obtain ⟨wv0, hW, hs⟩ := h.hW
  obtain ⟨nm, hF⟩ := h.hF
  have hgd := h.od (g, n) (by simp)
  simp only at hgd
  have hnd := List.pairwise_cons.1 h.nd
  have hne : ∀ e ∈ o, e.1 ≠ g := fun e he => (hnd.1 e he).symm
  have hc : Chg [gs] w5 (w5.setCell ⟨gs, g * 4 + 3, none⟩ (.int .i64 (n + 1))) := (Chg.refl [gs] w5).setCell (by simp) _
  have hx : (withC S ((g, n) :: o))[g]? = some ((withC S ((g, n) :: o)).getD g default) := by rw [List.getD, List.getElem?_eq_getElem (by rw [withC_length]; exact hgd.1)]; rfl
  have hrow := own_set h.os (g * 4 + 3) (by omega) (.int .i64 (n + 1))
  have hat := withC_at (n := n) hgd.1 hne
  have hbf := bump_flat hx
  rw [hat] at hbf
  rw [hbf, ← withC_bump hgd.1 hne] at hrow
  refine ⟨h.cg.trans hc (by simp; exact own_ge h.os gs rfl), h.w1, h.f1, ⟨wv0, hc.heap hW (by simpa using (own_ne h.os hW (by decide) gs rfl).symm), hs⟩, ⟨nm, hc.heap hF (by simpa using fun e : gF = gs => h.sf (by rw [e]; rfl))⟩, hrow, own_chg h.oo hc (fun q hq hq2 => ?_), h.sf, h.ls, by simpa using h.lo, fun e he => ?_, List.pairwise_cons.2 ⟨hnd.1, hnd.2⟩, h.wz, h.wl⟩
  · simp at hq2
    obtain ⟨c1, f1, b1⟩ := tagged_of_own h.oo q hq
    obtain ⟨c2, f2, b2⟩ := tagged_of_own h.os gs rfl
    rw [hq2] at b1
    exact blk_ne b1 b2 (by decide) rfl
  · rcases List.mem_cons.1 he with rfl | he
    · exact ⟨hgd.1, by simp only; omega, by simp only; omega⟩
    · exact h.od e (by simp [he])

theorem RD.top {w w5 : World} {gW gF n5 c5 m5 c6 : Nat} {sa oa : Option Addr} {ws : List ByteArray} {S : List F} {g : Nat} {n : Int} {o : List (Nat × Int)} {r k : Int} (h : RD w w5 gW gF ws S ((g, n) :: o) r k (.slice sa n5 c5) (.slice oa m5 c6)) (hn5 : n5 = S.length) (hm5 : m5 = o.length + 1) :
    ∃ gs go, sa = some ⟨gs, 0, none⟩ ∧ oa = some ⟨go, 0, none⟩ ∧ w5.cell? ⟨gs, g * 4 + 3, none⟩ = some (.int .i64 n) ∧ w5.cell? ⟨go, o.length, none⟩ = some (.int .i64 (g : Int)) ∧ w5.frozen? ⟨gs, g * 4 + 3, none⟩ = false := by
  subst hn5 hm5
  have hgd := h.od (g, n) (by simp)
  simp only at hgd
  obtain ⟨gs, rfl, -, -, hfz, hcl⟩ := own_ptr h.os (by omega)
  obtain ⟨go, rfl, -, -, -, hco⟩ := own_ptr h.oo (by simp)
  have hnd := List.pairwise_cons.1 h.nd
  have hat := withC_at (n := n) hgd.1 (fun e he => (hnd.1 e he).symm)
  have hx : (withC S ((g, n) :: o))[g]? = some ((withC S ((g, n) :: o)).getD g default) := by rw [List.getD, List.getElem?_eq_getElem (by rw [withC_length]; exact hgd.1)]; rfl
  refine ⟨gs, go, rfl, rfl, ?_, hco _ _ (grS_last g n o), hfz _⟩
  have := hcl (g * 4 + 3) _ (flat_get F.cs_len _ g _ 3 _ hx rfl)
  rw [this, hat]

theorem grS_bump (o : List (Nat × Int)) : grS (bumpO o) = grS o := by
  cases o with
  | nil => rfl
  | cons e o => obtain ⟨g, n⟩ := e; simp [grS, bumpO]

theorem RD.open_ {w w4 w5 : World} {gW gF m : Nat} {ws : List ByteArray} {S : List F} {f : F} {o : List (Nat × Int)} {r k : Int} {sv ov ov5 : Value} {ob : Obj} {L : List Value} (h : RD w w4 gW gF ws (S ++ [f]) o r k sv ov) (hf : f.c = 0) (hm : m = o.length)
    (hL : L = iv (grS o)) (hown : w5.ownsRow w.heap.size 3 1 ov5 (m + 1) (L ++ [.int .i64 (S.length : Int)])) (hg : (w4.alloc ob).grownBy w5 ov.ownBlock) (hlo : o.length ≤ 8) (hod : ∀ e ∈ o, e.1 < S.length) : RD w w5 gW gF ws (S ++ [f]) ((S.length, 0) :: o) r k sv ov5 := by
  subst hm
  obtain ⟨wv0, hW, hs⟩ := h.hW
  obtain ⟨nm, hF⟩ := h.hF
  have hc : Chg ov.ownBlock.toList w4 w5 := ((Chg.refl _ w4).alloc ob).grown hg (fun g hg => .inl (by rw [hg]; simp))
  have hm : ∀ {g : Nat}, g ∈ ov.ownBlock.toList → ov.ownBlock = some g := fun hg => by simpa [eq_comm] using hg
  refine ⟨h.cg.trans hc (fun g hg => .inr (own_ge h.oo g (hm hg))), h.w1, h.f1, ⟨wv0, hc.heap hW (fun hg => own_ne h.oo hW (by decide) gW (hm hg) rfl), hs⟩, ⟨nm, hc.heap hF (fun hg => own_ne h.oo hF (by decide) gF (hm hg) rfl)⟩, ?_, ?_, h.sf, h.ls, by simp; omega, fun e he => ?_, List.pairwise_cons.2 ⟨fun e he => by have := hod e he; simp only; omega, h.nd⟩, h.wz, h.wl⟩
  · rw [withC_new hf]
    refine own_chg h.os hc (fun g hg hg2 => ?_)
    obtain ⟨c1, f1, b1⟩ := tagged_of_own h.oo g (hm hg2)
    obtain ⟨c2, f2, b2⟩ := tagged_of_own h.os g hg
    exact blk_ne b1 b2 (by decide) rfl
  · rw [List.length_cons, grS_cons, ← iv_snoc, ← hL]; exact hown
  · rcases List.mem_cons.1 he with rfl | he
    · simp; omega
    · exact h.od e he

end Go.Proofs.Ythhcnlmjcpkbnaa

namespace Go.Proofs.Ythhcnlmjcpkbnaa
open Go.RowKit
set_option linter.unusedVariables false

/-- What comes back: the fields, or nil and why. -/
def ParseOut (R : Int × List F) (w : World) (e : Ending) (w' : World) : Prop :=
  (R.1 = 0 ∧ ∃ v, e = .returned (.tuple #[v, .int .i64 0]) ∧ w'.ownsRow w.heap.size 78 4 v R.2.length (R.2.flatMap F.cs)) ∨ (R.1 ≠ 0 ∧ e = .returned (.tuple #[.slice none 0 0, .int .i64 R.1]))

/-- No word is longer than the text. -/
theorem wdM_len (l : List Nat) : ∀ (cur : List Nat) (r : List (List Nat)), wdM cur (l ++ [10]) = some r → ∀ x ∈ r, x.length ≤ cur.length + l.length := by
  induction l with
  | nil =>
    intro cur r h x hx
    rw [List.nil_append, wdM_blk (by decide) (by decide) (by decide)] at h
    simp [wdM] at h
    subst h
    split at hx
    · simp at hx
    · simp at hx; subst hx; simp
  | cons c t ih =>
    intro cur r h x hx
    rw [List.cons_append, wdM] at h
    split at h
    · have := ih _ _ h x hx
      simp at this ⊢
      omega
    · split at h
      · cases h
      · rw [Option.map_eq_some_iff] at h
        obtain ⟨r', h1, rfl⟩ := h
        rcases List.mem_append.1 hx with h2 | h2
        · split at h2
          · simp at h2
          · simp at h2; subst h2; simp
        · rcases List.mem_append.1 h2 with h3 | h3
          · split at h3
            · simp at h3; subst h3; simp; omega
            · simp at h3
          · have := ih _ _ h1 x h3
            simp at this ⊢
            omega

theorem str_size (l : List Nat) : (str l).size = l.length := by show ((l.map UInt8.ofNat).toArray).size = _; simp

theorem words_size {s : ByteArray} {ws : List (List Nat)} (h : wordsL (bl s) = some ws) (hs : s.size ≤ 4000) : ∀ x ∈ ws.map str, x.size ≤ 4000 := by
  intro x hx
  obtain ⟨y, hy, rfl⟩ := List.mem_map.1 hx
  have := wdM_len _ _ _ h y hy
  rw [str_size]
  simp at this
  omega

end Go.Proofs.Ythhcnlmjcpkbnaa
