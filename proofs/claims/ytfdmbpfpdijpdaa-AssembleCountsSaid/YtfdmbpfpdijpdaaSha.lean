/- Records as columns, as lists: ways, cells. -/
import Derived.Test.YtfdmbpfpdijpdaaYB
import Derived.Test.YtfdmbpfpdijpdaaA1
namespace Go.Proofs.Ytfdmbpfpdijpdaa
open Go.RowKit
set_option linter.unusedVariables false
set_option linter.unusedSimpArgs false

/-- A field that is passed: its place among its group's, and how often it is there. -/
abbrev Stp := Nat × Int

/-- A cell: its levels, and the last value that is there on the way. -/
structure Cl where
  r : Nat
  d : Nat
  t : Tr

def cellsV : List Stp → Nat → Nat → Nat → Tr → List Cl
  | [], _, d, r, t => [⟨r, d, t⟩]
  | (p, k) :: W, rr, d, r, t => match t.k.getD p [] with
    | [] => [⟨r, d, t⟩]
    | x :: X => cellsV W (if k = 2 then rr + 1 else rr) (if k = 0 then d else d + 1) r x ++ (if k = 2 then X.flatMap fun y => cellsV W (rr + 1) (d + 1) (rr + 1) y else [])

theorem cellsV_nil (rr d r : Nat) (t : Tr) : cellsV [] rr d r t = [⟨r, d, t⟩] := rfl
theorem cellsV_none {p : Nat} {k : Int} {W : List Stp} {rr d r : Nat} {t : Tr} (h : t.k.getD p [] = []) : cellsV ((p, k) :: W) rr d r t = [⟨r, d, t⟩] := by
  rw [cellsV, h]
theorem cellsV_some {p : Nat} {k : Int} {W : List Stp} {rr d r : Nat} {t x : Tr} {X : List Tr} (h : t.k.getD p [] = x :: X) : cellsV ((p, k) :: W) rr d r t = cellsV W (if k = 2 then rr + 1 else rr) (if k = 0 then d else d + 1) r x ++ (if k = 2 then X.flatMap fun y => cellsV W (rr + 1) (d + 1) (rr + 1) y else []) := by
  rw [cellsV, h]

/-- A way goes through a value. -/
def WayOk : List Stp → Tr → Prop
  | [], _ => True
  | (p, k) :: W, t => p < t.k.length ∧ (k = 0 ∨ k = 1 ∨ k = 2) ∧ (t.k.getD p []).length ≤ 50 ∧ ∀ x ∈ t.k.getD p [], WayOk W x

/-- Values from which a way goes on. -/
structure Fk where
  left : List Tr
  p : Nat
  r : Nat
  d : Nat

def forkC (W : List Stp) (f : Fk) : List Cl := f.left.flatMap fun y => cellsV (W.drop f.p) f.r f.d f.r y
/-- The innermost fork is the last one. -/
def forksC (W : List Stp) (S : List Fk) : List Cl := S.reverse.flatMap (forkC W)

theorem forksC_nil (W : List Stp) : forksC W [] = [] := rfl
theorem forksC_snoc (W : List Stp) (S : List Fk) (f : Fk) : forksC W (S ++ [f]) = forkC W f ++ forksC W S := by
  simp [forksC]
theorem forkC_cons (W : List Stp) (x : Tr) (X : List Tr) (p r d : Nat) : forkC W ⟨x :: X, p, r, d⟩ = cellsV (W.drop p) r d r x ++ forkC W ⟨X, p, r, d⟩ := by
  simp [forkC]

def FkOk (W : List Stp) (f : Fk) : Prop := f.p ≤ W.length ∧ ∀ t ∈ f.left, WayOk (W.drop f.p) t

/-- All cells of records, at the end of a way. -/
def colC (W : List Stp) (L : List Tr) : List Cl := L.flatMap fun t => cellsV W 0 0 0 t

theorem forksC_one (W : List Stp) (L : List Tr) : forksC W [⟨L, 0, 0, 0⟩] = colC W L := by
  simp [forksC, forkC, colC]

/-- Down a way: at place q of it. -/
theorem down_end {W : List Stp} {q rr d r : Nat} {t : Tr} {S : List Fk} (h : W.length ≤ q) : cellsV (W.drop q) rr d r t ++ forksC W S = ⟨r, d, t⟩ :: forksC W S := by
  rw [List.drop_of_length_le h, cellsV_nil]; rfl
theorem down_none {W : List Stp} {q rr d r p : Nat} {k : Int} {t : Tr} {S : List Fk} (h : W[q]? = some (p, k)) (h0 : t.k.getD p [] = []) : cellsV (W.drop q) rr d r t ++ forksC W S = ⟨r, d, t⟩ :: forksC W S := by
  obtain ⟨hq, e⟩ := List.getElem?_eq_some_iff.1 h
  rw [List.drop_eq_getElem_cons hq, e, cellsV_none h0]; rfl
theorem down_step {W : List Stp} {q rr d r p : Nat} {k : Int} {t x : Tr} {X : List Tr} {S : List Fk} (h : W[q]? = some (p, k)) (h0 : t.k.getD p [] = x :: X) (hk : k ≠ 2) :
    cellsV (W.drop q) rr d r t ++ forksC W S = cellsV (W.drop (q + 1)) rr (if k = 0 then d else d + 1) r x ++ forksC W S := by
  obtain ⟨hq, e⟩ := List.getElem?_eq_some_iff.1 h
  rw [List.drop_eq_getElem_cons hq, e, cellsV_some h0, if_neg hk, if_neg hk, List.append_nil]
theorem down_many {W : List Stp} {q rr d r p : Nat} {t x : Tr} {X : List Tr} {S : List Fk} (h : W[q]? = some (p, 2)) (h0 : t.k.getD p [] = x :: X) :
    cellsV (W.drop q) rr d r t ++ forksC W S = cellsV (W.drop (q + 1)) (rr + 1) (d + 1) r x ++ forksC W (S ++ [⟨X, q + 1, rr + 1, d + 1⟩]) := by
  obtain ⟨hq, e⟩ := List.getElem?_eq_some_iff.1 h
  rw [List.drop_eq_getElem_cons hq, e, cellsV_some h0, if_pos rfl, if_neg (by decide), if_pos rfl, forksC_snoc, List.append_assoc]
  rfl

theorem WayOk.next {W : List Stp} {q p : Nat} {k : Int} {t : Tr} (h : WayOk (W.drop q) t) (hq : W[q]? = some (p, k)) : p < t.k.length ∧ (k = 0 ∨ k = 1 ∨ k = 2) ∧ (t.k.getD p []).length ≤ 50 ∧ ∀ x ∈ t.k.getD p [], WayOk (W.drop (q + 1)) x := by
  obtain ⟨hl, e⟩ := List.getElem?_eq_some_iff.1 hq
  rw [List.drop_eq_getElem_cons hl, e] at h
  exact h

/-! ### the way to each field -/

def wayTo (l : List F) : Nat → List (List Stp)
  | 0 => []
  | i + 1 => wayTo l i ++ [if (parents l).getD i 0 = -1 then [] else (wayTo l i).getD ((parents l).getD i 0).toNat [] ++ [((kidsU (parents l) i ((parents l).getD i 0).toNat).length, (l.getD i default).r)]]

theorem wayTo_len (l : List F) : ∀ i, (wayTo l i).length = i
  | 0 => rfl
  | i + 1 => by rw [wayTo, List.length_append, wayTo_len l i]; rfl

/-- The ways to a forest's fields. -/
def waysF : List Stp → Fo → Nat → List (List Stp)
  | _, .nil, _ => []
  | pre, .leaf f t, p => (pre ++ [(p, f.r)]) :: waysF pre t (p + 1)
  | pre, .group f k t, p => (pre ++ [(p, f.r)]) :: (waysF (pre ++ [(p, f.r)]) k 0 ++ waysF pre t (p + 1))

theorem waysF_len : ∀ (fo : Fo) (pre : List Stp) (p : Nat), (waysF pre fo p).length = fo.flat.length
  | .nil, pre, p => rfl
  | .leaf f t, pre, p => by simp [waysF, Fo.flat, waysF_len t]
  | .group f k t, pre, p => by simp [waysF, Fo.flat, waysF_len t, waysF_len k]

theorem kidsU_app {ps : List Int} {i n : Nat} {g : Nat} (hn : i + n ≤ ps.length) (h : ∀ j, i ≤ j → j < i + n → ps.getD j 0 ≠ (g : Int)) : kidsU ps (i + n) g = kidsU ps i g := by
  induction n with
  | zero => rfl
  | succ n ih =>
    rw [← Nat.add_assoc, kidsU_succ, if_neg (h (i + n) (by omega) (by omega))]
    exact ih (by omega) fun j h1 h2 => h j h1 (by omega)

theorem getD_drop {α : Type} (l : List α) (i j : Nat) (d : α) : (l.drop i).getD j d = l.getD (i + j) d := by
  simp [List.getD]

theorem wayTo_fo {l : List F} : ∀ (fo : Fo) (i p pl : Nat) (pre : List Stp) (rest : List F) (prest : List Int), p < i → i + fo.flat.length ≤ l.length → l.drop i = fo.flat ++ rest → (parents l).drop i = pf i p fo ++ prest → (wayTo l i).getD p [] = pre → (kidsU (parents l) i p).length = pl →
    wayTo l (i + fo.flat.length) = wayTo l i ++ waysF pre fo pl ∧ (kidsU (parents l) (i + fo.flat.length) p).length = pl + fo.num
  | .nil, i, p, pl, pre, rest, prest, hp, hb, hd, hpd, hw, hk => by
    show wayTo l (i + 0) = wayTo l i ++ [] ∧ (kidsU (parents l) (i + 0) p).length = pl + 0
    simp [hk]
  | .leaf f t, i, p, pl, pre, rest, prest, hp, hb, hd, hpd, hw, hk => by
    simp only [Fo.flat, List.length_cons] at hb
    rw [Fo.flat, List.cons_append] at hd
    rw [pf, List.cons_append] at hpd
    obtain ⟨h1, h2, h3⟩ := dr_next hd
    have hpi : (parents l).getD i 0 = (p : Int) := by
      have h := getD_drop (parents l) i 0 0
      rw [hpd] at h
      simpa using h.symm
    have hpd2 : (parents l).drop (i + 1) = pf (i + 1) p t ++ prest := by rw [← List.drop_drop, hpd]; rfl
    have hw1 : wayTo l (i + 1) = wayTo l i ++ [pre ++ [(pl, f.r)]] := by
      rw [wayTo, hpi, if_neg (by omega), Int.toNat_natCast, hw, hk, h2]
    have hk1 : (kidsU (parents l) (i + 1) p).length = pl + 1 := by rw [kidsU_succ, if_pos hpi, List.length_append, hk]; rfl
    obtain ⟨q1, q2⟩ := wayTo_fo t (i + 1) p (pl + 1) pre rest prest (by omega) (by omega) h3 hpd2 (by rw [hw1, List.getD, List.getElem?_append_left (by rw [wayTo_len]; exact hp)]; exact hw) hk1
    have e : i + (Fo.leaf f t).flat.length = i + 1 + t.flat.length := by simp [Fo.flat]; omega
    rw [e, q1, hw1, q2]
    exact ⟨by simp [waysF], by simp [Fo.num]; omega⟩
  | .group f k t, i, p, pl, pre, rest, prest, hp, hb, hd, hpd, hw, hk => by
    simp only [Fo.flat, List.length_cons, List.length_append] at hb
    rw [Fo.flat, List.cons_append, List.append_assoc] at hd
    rw [pf, List.cons_append, List.append_assoc] at hpd
    obtain ⟨h1, h2, h3⟩ := dr_next hd
    have hpi : (parents l).getD i 0 = (p : Int) := by
      have h := getD_drop (parents l) i 0 0
      rw [hpd] at h
      simpa using h.symm
    have hpd2 : (parents l).drop (i + 1) = pf (i + 1) i k ++ (pf (i + 1 + k.flat.length) p t ++ prest) := by rw [← List.drop_drop, hpd]; rfl
    have hw1 : wayTo l (i + 1) = wayTo l i ++ [pre ++ [(pl, f.r)]] := by
      rw [wayTo, hpi, if_neg (by omega), Int.toNat_natCast, hw, hk, h2]
    have hk1 : (kidsU (parents l) (i + 1) p).length = pl + 1 := by rw [kidsU_succ, if_pos hpi, List.length_append, hk]; rfl
    have hki : (kidsU (parents l) (i + 1) i).length = 0 := by rw [kidsU_low l i (i + 1) (Nat.le_refl _) (by omega)]; rfl
    have hwi : (wayTo l (i + 1)).getD i [] = pre ++ [(pl, f.r)] := by
      rw [hw1, List.getD, List.getElem?_append_right (by rw [wayTo_len]; exact Nat.le_refl _), wayTo_len, Nat.sub_self]; rfl
    obtain ⟨q1, q2⟩ := wayTo_fo k (i + 1) i 0 (pre ++ [(pl, f.r)]) (t.flat ++ rest) (pf (i + 1 + k.flat.length) p t ++ prest) (by omega) (by omega) h3 hpd2 hwi hki
    have h4 : l.drop (i + 1 + k.flat.length) = t.flat ++ rest := by rw [← List.drop_drop, h3]; simp
    have hpd3 : (parents l).drop (i + 1 + k.flat.length) = pf (i + 1 + k.flat.length) p t ++ prest := by
      rw [← List.drop_drop, hpd2, List.drop_append_of_le_length (by rw [pf_len]; exact Nat.le_refl _), List.drop_of_length_le (by rw [pf_len]; exact Nat.le_refl _)]; rfl
    have hkp : (kidsU (parents l) (i + 1 + k.flat.length) p).length = pl + 1 := by
      rw [kidsU_app (by rw [parents_length]; omega) (fun j hj1 hj2 e => ?_), hk1]
      have h5 := getD_drop (parents l) (i + 1) (j - (i + 1)) 0
      rw [show i + 1 + (j - (i + 1)) = j by omega, e, hpd2] at h5
      have hlt : j - (i + 1) < (pf (i + 1) i k).length := by rw [pf_len]; omega
      rw [List.getD, List.getElem?_append_left hlt, List.getElem?_eq_getElem hlt] at h5
      have h6 := pf_vals k (i + 1) i _ (List.getElem_mem hlt)
      simp only [Option.getD_some] at h5
      omega
    have hwp : (wayTo l (i + 1 + k.flat.length)).getD p [] = pre := by
      rw [q1, hw1, List.getD, List.append_assoc, List.getElem?_append_left (by rw [wayTo_len]; exact hp)]; exact hw
    obtain ⟨r1, r2⟩ := wayTo_fo t (i + 1 + k.flat.length) p (pl + 1) pre rest prest (by omega) (by omega) h4 hpd3 hwp hkp
    have e : i + (Fo.group f k t).flat.length = i + 1 + k.flat.length + t.flat.length := by simp [Fo.flat]; omega
    rw [e, r1, q1, hw1, r2]
    exact ⟨by simp [waysF], by simp [Fo.num]; omega⟩

/-- The ways to all fields of a schema. -/
theorem wayTo_root {l : List F} {r0 : F} {fo : Fo} (hl : l = r0 :: fo.flat) (hr1 : r0.k = 0) (hr3 : r0.c = fo.num) (hwf : fo.wf) : wayTo l l.length = [] :: waysF [] fo 0 := by
  obtain ⟨hp, -, -⟩ := hasK_root hl hr1 hr3 hwf
  have hlen : l.length = 1 + fo.flat.length := by rw [hl, List.length_cons]; omega
  have h1 : wayTo l 1 = [[]] := by
    rw [wayTo, if_pos (by rw [hp]; rfl)]; rfl
  have hk : (kidsU (parents l) 1 0).length = 0 := by rw [kidsU_low l 0 1 (Nat.le_refl _) (by omega)]; rfl
  obtain ⟨q1, -⟩ := wayTo_fo (l := l) fo 1 0 0 [] [] [] (by omega) (by omega) (by rw [hl]; simp) (by rw [hp]; simp) (by rw [h1]; rfl) hk
  rw [hlen, q1, h1]
  rfl

/-! ### the ways to the leaves -/

def lwF : List Stp → Fo → Nat → List (List Stp)
  | _, .nil, _ => []
  | pre, .leaf f t, p => (pre ++ [(p, f.r)]) :: lwF pre t (p + 1)
  | pre, .group f k t, p => lwF (pre ++ [(p, f.r)]) k 0 ++ lwF pre t (p + 1)

/-- Of fields and what belongs to them: what belongs to leaves. -/
def onlyL {α : Type} : List F → List α → List α
  | f :: l, x :: X => if f.k ≠ 0 then x :: onlyL l X else onlyL l X
  | _, _ => []
theorem onlyL_append {α : Type} : ∀ (a b : List F) (x y : List α), a.length = x.length → onlyL (a ++ b) (x ++ y) = onlyL a x ++ onlyL b y
  | [], b, [], y, _ => rfl
  | f :: a, b, u :: x, y, h => by
    have ih := onlyL_append a b x y (by simpa using h)
    simp only [List.cons_append, onlyL, ih]
    split <;> simp
  | [], b, u :: x, y, h => by simp at h
  | f :: a, b, [], y, h => by simp at h

theorem lwF_only : ∀ (fo : Fo) (pre : List Stp) (p : Nat), fo.wf → onlyL fo.flat (waysF pre fo p) = lwF pre fo p
  | .nil, pre, p, _ => rfl
  | .leaf f t, pre, p, ⟨h1, h2, h3⟩ => by
    rw [Fo.flat, waysF, onlyL, if_pos (by omega), lwF_only t pre (p + 1) h3, lwF]
  | .group f k t, pre, p, ⟨h1, h2, h3, h4⟩ => by
    rw [Fo.flat, waysF, onlyL, if_neg (by omega), onlyL_append _ _ _ _ (by rw [waysF_len]), lwF_only k _ 0 h3, lwF_only t pre (p + 1) h4, lwF]

theorem leaves_only {α : Type} (l : List F) (X : List α) (hX : X.length = l.length) (dflt : α) : ∀ n, n ≤ l.length → (leavesTo l n).map (fun x => X.getD x.f.toNat dflt) = onlyL (l.take n) (X.take n)
  | 0, _ => rfl
  | n + 1, h => by
    have hf : l[n]? = some l[n] := List.getElem?_eq_getElem (by omega)
    have hx : X[n]? = some X[n] := List.getElem?_eq_getElem (by omega)
    rw [leavesTo_succ, List.map_append, leaves_only l X hX dflt n (by omega), List.take_add_one, List.take_add_one, hf, hx, onlyL_append _ _ _ _ (by simp; omega)]
    congr 1
    have e : l.getD n default = l[n] := by rw [List.getD, hf]; rfl
    unfold leafAt
    rw [e]
    simp only [Option.toList_some, onlyL]
    split
    · simp [List.getD, hx]
    · rfl

/-- The way to each leaf. -/
def lways (l : List F) : List (List Stp) := (leavesL l).map fun x => (wayTo l l.length).getD x.f.toNat []

theorem lways_root {l : List F} {r0 : F} {fo : Fo} (hl : l = r0 :: fo.flat) (hr1 : r0.k = 0) (hr3 : r0.c = fo.num) (hwf : fo.wf) : lways l = lwF [] fo 0 := by
  unfold lways leavesL
  rw [leaves_only l _ (wayTo_len l _) [] l.length (Nat.le_refl _), wayTo_root hl hr1 hr3 hwf]
  rw [List.take_of_length_le (Nat.le_refl _), List.take_of_length_le (by rw [List.length_cons, waysF_len, hl, List.length_cons]; exact Nat.le_refl _), hl, onlyL, if_neg (by omega), lwF_only fo [] 0 hwf]

/-! ### records that fit have their ways -/

theorem times_le14 {r : Int} {m : Nat} (hr : 0 ≤ r ∧ r ≤ 2) (h : timesE r m = 0) : m ≤ 50 ∧ (r = 0 → m = 1) ∧ (r = 1 → m ≤ 1) := by
  have hc : r = 0 ∨ r = 1 ∨ r = 2 := by omega
  unfold timesE at h
  rcases hc with rfl | rfl | rfl
  · rw [if_pos rfl] at h
    have : m = 1 := Decidable.byContradiction fun e => by rw [if_neg e] at h; cases h
    omega
  · rw [if_neg (by decide), if_pos rfl] at h
    have : m ≤ 1 := Decidable.byContradiction fun e => by rw [if_neg (by omega)] at h; cases h
    omega
  · rw [if_neg (by decide), if_neg (by decide), if_pos rfl] at h
    have : m ≤ 50 := Decidable.byContradiction fun e => by rw [if_neg (by omega)] at h; cases h
    omega

theorem lwF_pre : ∀ (fo : Fo) (pre : List Stp) (p : Nat), lwF pre fo p = (lwF [] fo p).map (pre ++ ·)
  | .nil, pre, p => rfl
  | .leaf f t, pre, p => by rw [lwF, lwF, lwF_pre t pre (p + 1)]; rfl
  | .group f k t, pre, p => by
    rw [lwF, lwF, lwF_pre k (pre ++ [(p, f.r)]) 0, lwF_pre k ([] ++ [(p, f.r)]) 0, lwF_pre t pre (p + 1), List.map_append, List.map_map]
    congr 1
    exact List.map_congr_left fun x _ => by simp

theorem lwF_ok : ∀ (fo : Fo) (p : Nat) (t : Tr) (ks : List (List Tr)), fo.wf → (∀ f ∈ fo.flat, 0 ≤ f.r ∧ f.r ≤ 2) → t.k.drop p = ks → fitF fo ks → ∀ W ∈ lwF [] fo p, WayOk W t
  | .nil, p, t, ks, _, _, _, _, W, hW => by simp [lwF] at hW
  | .leaf f g, p, t, [], _, _, _, hf, W, hW => hf.elim
  | .leaf f g, p, t, x :: r, ⟨w1, w2, w3⟩, hr, hd, ⟨f1, f2, f3⟩, W, hW => by
    have hx : t.k[p]? = some x := by have h := congrArg (·[0]?) hd; simpa using h
    have hg : t.k.getD p [] = x := by rw [List.getD, hx]; rfl
    have hrf := hr f (by simp [Fo.flat])
    rcases List.mem_cons.1 hW with rfl | hW
    · exact ⟨(List.getElem?_eq_some_iff.1 hx).1, by omega, by rw [hg]; exact (times_le14 hrf f1).1, fun _ _ => trivial⟩
    · exact lwF_ok g (p + 1) t r w3 (fun y hy => hr y (by simp [Fo.flat, hy])) (by rw [← List.drop_drop, hd]; rfl) f3 W hW
  | .group f k g, p, t, [], _, _, _, hf, W, hW => hf.elim
  | .group f k g, p, t, x :: r, ⟨w1, w2, w3, w4⟩, hr, hd, ⟨f1, f2, f3⟩, W, hW => by
    have hx : t.k[p]? = some x := by have h := congrArg (·[0]?) hd; simpa using h
    have hg : t.k.getD p [] = x := by rw [List.getD, hx]; rfl
    have hrf := hr f (by simp [Fo.flat])
    rw [lwF] at hW
    rcases List.mem_append.1 hW with hW | hW
    · rw [lwF_pre] at hW
      obtain ⟨V, hV, rfl⟩ := List.mem_map.1 hW
      exact ⟨(List.getElem?_eq_some_iff.1 hx).1, by omega, by rw [hg]; exact (times_le14 hrf f1).1, fun u hu => by
        rw [hg] at hu
        exact lwF_ok k 0 u u.k w3 (fun y hy => hr y (by simp [Fo.flat, hy])) (List.drop_zero ..) (f2 u hu).2.2 V hV⟩
    · exact lwF_ok g (p + 1) t r w4 (fun y hy => hr y (by simp [Fo.flat, hy])) (by rw [← List.drop_drop, hd]; rfl) f3 W hW

end Go.Proofs.Ytfdmbpfpdijpdaa
