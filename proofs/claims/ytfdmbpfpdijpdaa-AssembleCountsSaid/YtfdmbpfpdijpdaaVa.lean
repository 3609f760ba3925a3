/- The reference's columns, as lists: what a field's value adds to each column. -/
import Derived.Test.YtfdmbpfpdijpdaaShv
import Derived.Test.YtfdmbpfpdijpdaaYB
import Derived.Test.YtfdmbpfpdijpdaaA5
namespace Go.Proofs.Ytfdmbpfpdijpdaa
open Go.RowKit
set_option linter.unusedVariables false
set_option linter.unusedSimpArgs false

/-! ### rows of columns -/

/-- What the three rows of each column hold. -/
def refX (Ls : List L) (C : Nat → List Cl) (p : Nat) : Rw :=
  if p % 3 = 2 then .v (colV (Ls.getD (p / 3) default).d (C (p / 3))) else .i (if p % 3 = 1 then colD (C (p / 3)) else colR (C (p / 3)))

theorem refX_at (Ls : List L) (C : Nat → List Cl) (k : Nat) :
    refX Ls C (k * 3) = .i (colR (C k)) ∧ refX Ls C (k * 3 + 1) = .i (colD (C k)) ∧ refX Ls C (k * 3 + 2) = .v (colV (Ls.getD k default).d (C k)) := by
  have e0 : k * 3 / 3 = k := by omega
  have e1 : (k * 3 + 1) / 3 = k := by omega
  have e2 : (k * 3 + 2) / 3 = k := by omega
  unfold refX
  refine ⟨?_, ?_, ?_⟩
  · rw [if_neg (by omega), if_neg (by omega), e0]
  · rw [if_neg (by omega), if_pos (by omega), e1]
  · rw [if_pos (by omega), e2]

theorem colV_one (d : Int) (x : Cl) : colV d [x] = if (x.d : Int) = d then [⟨x.t.n, x.t.s⟩] else [] := by
  unfold colV
  by_cases h : (x.d : Int) = d
  · rw [if_pos h]; simp [h]
  · rw [if_neg h]; simp [h]

theorem refX_step (Ls : List L) (C C' : Nat → List Cl) (k : Nat) (x : Cl) (has : Bool) (hh : has = decide ((x.d : Int) = (Ls.getD k default).d)) (h : ∀ j, C' j = if j = k then C k ++ [x] else C j) (u : Rw)
    (hu : has = true → u = .v (colV (Ls.getD k default).d (C k) ++ [⟨x.t.n, x.t.s⟩])) (q : Nat) :
    refX Ls C' q = FB (refX Ls C) (k * 3) true true has (.i (colR (C k) ++ [(x.r : Int)])) (.i (colD (C k) ++ [(x.d : Int)])) u q := by
  have hk : C' k = C k ++ [x] := by rw [h, if_pos rfl]
  obtain ⟨a0, a1, a2⟩ := refX_at Ls C' k
  obtain ⟨b0, b1, b2⟩ := refX_at Ls C k
  unfold FB
  by_cases e2 : q = k * 3 + 2
  · subst e2
    cases has with
    | true =>
      rw [if_pos ⟨rfl, rfl⟩, a2, hu rfl, hk]
      have hd := of_decide_eq_true hh.symm
      have h1 := colV_one (Ls.getD k default).d x
      rw [if_pos hd] at h1
      rw [← h1]
      simp [colV]
    | false =>
      rw [if_neg (by simp), if_neg (by simp), if_neg (by simp), a2, b2, hk]
      have hd := of_decide_eq_false hh.symm
      have h1 := colV_one (Ls.getD k default).d x
      rw [if_neg hd] at h1
      have h2 : colV (Ls.getD k default).d (C k ++ [x]) = colV (Ls.getD k default).d (C k) ++ colV (Ls.getD k default).d [x] := by simp [colV]
      rw [h2, h1, List.append_nil]
  · rw [if_neg (fun e => e2 e.1)]
    by_cases e1 : q = k * 3 + 1
    · subst e1; rw [if_pos ⟨rfl, rfl⟩, a1, hk]; simp [colD]
    · rw [if_neg (fun e => e1 e.1)]
      by_cases e0 : q = k * 3
      · subst e0; rw [if_pos ⟨rfl, rfl⟩, a0, hk]; simp [colR]
      · rw [if_neg (fun e => e0 e.1)]
        have hne : q / 3 ≠ k := by omega
        unfold refX
        rw [h, if_neg hne]

/-! ### what a value adds -/

def atC (Ws : List (List Stp)) (n rr dd r : Nat) (t : Tr) (j : Nat) : List Cl :=
  if n ≤ j then match Ws[j - n]? with
    | some W => cellsV W rr dd r t
    | none => []
  else []

def nonC (n m r d : Nat) (t : Tr) (j : Nat) : List Cl := if n ≤ j ∧ j < n + m then [⟨r, d, t⟩] else []

theorem atC_nil (n rr dd r : Nat) (t : Tr) (j : Nat) : atC [] n rr dd r t j = [] := by unfold atC; split <;> rfl

theorem atC_app (A B : List (List Stp)) (n rr dd r : Nat) (t : Tr) (j : Nat) : atC (A ++ B) n rr dd r t j = atC A n rr dd r t j ++ atC B (n + A.length) rr dd r t j := by
  unfold atC
  by_cases h : n ≤ j
  · rw [if_pos h, if_pos h]
    by_cases h2 : j - n < A.length
    · rw [List.getElem?_append_left h2, if_neg (by omega), List.append_nil]
    · rw [List.getElem?_append_right (by omega), if_pos (by omega), show A[j - n]? = none from List.getElem?_eq_none (by omega), show j - (n + A.length) = j - n - A.length by omega]
      rfl
  · rw [if_neg h, if_neg h, if_neg (by omega)]; rfl

theorem nonC_app (n a b r d : Nat) (t : Tr) (j : Nat) : nonC n (a + b) r d t j = nonC n a r d t j ++ nonC (n + a) b r d t j := by
  unfold nonC
  by_cases h1 : n ≤ j ∧ j < n + a
  · rw [if_pos (by omega), if_pos h1, if_neg (by omega)]; rfl
  · rw [if_neg h1, List.nil_append]
    by_cases h2 : n + a ≤ j ∧ j < n + a + b
    · rw [if_pos (by omega), if_pos h2]
    · rw [if_neg (by omega), if_neg h2]

theorem nonC_none (n r d : Nat) (t : Tr) (j : Nat) : nonC n 0 r d t j = [] := by unfold nonC; rw [if_neg (by omega)]

/-- A list of values of one field: rr how far it is repeated itself. -/
def lstC (Ws : List (List Stp)) (n rr dd r : Nat) (L : List Tr) (j : Nat) : List Cl :=
  match L with
  | [] => []
  | y :: X => atC Ws n rr dd r y j ++ X.flatMap fun z => atC Ws n rr dd rr z j

theorem lstC_take (Ws : List (List Stp)) (n rr dd r : Nat) (L : List Tr) (m : Nat) (y : Tr) (h : L[m]? = some y) (j : Nat) :
    lstC Ws n rr dd r (L.take (m + 1)) j = lstC Ws n rr dd r (L.take m) j ++ atC Ws n rr dd (if m = 0 then r else rr) y j := by
  cases L with
  | nil => simp at h
  | cons z X =>
    cases m with
    | zero => simp at h; subst h; simp [lstC]
    | succ m =>
      have h' : X[m]? = some y := by simpa using h
      rw [List.take_succ_cons, List.take_succ_cons, lstC, lstC, if_neg (by omega), List.take_add_one, h', List.append_assoc, Option.toList_some, List.flatMap_append]
      simp

theorem atC_cons (Ws : List (List Stp)) (p : Nat) (k : Int) (n rr dd r : Nat) (t : Tr) (h : k = 2 ∨ (t.k.getD p []).length ≤ 1) (j : Nat) :
    atC (Ws.map fun W => (p, k) :: W) n rr dd r t j = if t.k.getD p [] = [] then nonC n Ws.length r dd t j else lstC Ws n (if k = 2 then rr + 1 else rr) (if k = 0 then dd else dd + 1) r (t.k.getD p []) j := by
  unfold atC
  by_cases hj : n ≤ j
  · rw [if_pos hj, List.getElem?_map]
    by_cases hl : j - n < Ws.length
    · obtain ⟨W, hW⟩ : ∃ W, Ws[j - n]? = some W := ⟨_, List.getElem?_eq_getElem hl⟩
      rw [hW]
      simp only [Option.map_some]
      cases hg : t.k.getD p [] with
      | nil =>
        rw [cellsV_none hg, if_pos rfl]
        unfold nonC
        rw [if_pos (by omega)]
      | cons x X =>
        rw [cellsV_some hg, if_neg (show ¬ (x :: X = []) by simp)]
        unfold lstC atC
        simp only [if_pos hj, hW]
        by_cases hk : k = 2
        · subst hk
          rfl
        · rw [hg] at h
          have : X = [] := by
            rcases h with h | h
            · exact absurd h hk
            · exact List.eq_nil_of_length_eq_zero (by rw [List.length_cons] at h; omega)
          subst this
          rw [if_neg hk, if_neg hk, List.flatMap_nil]
    · rw [List.getElem?_eq_none (by omega)]
      simp only [Option.map_none]
      split
      · unfold nonC; rw [if_neg (by omega)]
      · unfold lstC
        cases t.k.getD p [] with
        | nil => rfl
        | cons x X =>
          have e : ∀ a b c (y : Tr), atC Ws n a b c y j = [] := fun a b c y => by
            unfold atC; rw [if_pos hj, List.getElem?_eq_none (by omega)]
          simp [e]
  · rw [if_neg hj]
    split
    · unfold nonC; rw [if_neg (by omega)]
    · unfold lstC
      cases t.k.getD p [] with
      | nil => rfl
      | cons x X =>
        have e : ∀ a b c (y : Tr), atC Ws n a b c y j = [] := fun a b c y => by unfold atC; rw [if_neg hj]
        simp [e]

/-! ### a group's fields, one by one -/

/-- A field of a group: where, how often, its first leaf's number, the ways in it, which values fit. -/
structure Kd where
  i : Nat
  r : Int
  n : Nat
  Ws : List (List Stp)
  ok : Tr → Prop

def kds (i n : Nat) : Fo → List Kd
  | .nil => []
  | .leaf f t => ⟨i, f.r, n, [[]], fun _ => True⟩ :: kds (i + 1) (n + 1) t
  | .group f k t => ⟨i, f.r, n, lwF [] k 0, fun u => fitF k u.k⟩ :: kds (i + 1 + k.flat.length) (n + (lwF [] k 0).length) t

theorem kds_tops : ∀ (fo : Fo) (i n : Nat), (kds i n fo).map (fun x => (x.i : Int)) = tops i fo
  | .nil, i, n => rfl
  | .leaf f t, i, n => by simp [kds, tops, kds_tops t]
  | .group f k t, i, n => by simp [kds, tops, kds_tops t]

def accW : List Kd → Nat → List (List Stp)
  | [], _ => []
  | x :: X, p => (x.Ws.map fun W => (p, x.r) :: W) ++ accW X (p + 1)

theorem lwF_acc : ∀ (fo : Fo) (i n p : Nat), lwF [] fo p = accW (kds i n fo) p
  | .nil, i, n, p => rfl
  | .leaf f t, i, n, p => by rw [lwF, kds, accW, ← lwF_acc t (i + 1) (n + 1) (p + 1)]; rfl
  | .group f k t, i, n, p => by rw [lwF, kds, accW, ← lwF_acc t _ _ (p + 1), lwF_pre k]; rfl

theorem accW_len : ∀ (X : List Kd) (p q : Nat), (accW X p).length = (accW X q).length
  | [], _, _ => rfl
  | x :: X, p, q => by simp [accW, accW_len X (p + 1) (q + 1)]

theorem accW_take : ∀ (X : List Kd) (j p : Nat) (x : Kd), X[j]? = some x → accW (X.take (j + 1)) p = accW (X.take j) p ++ x.Ws.map fun W => (p + j, x.r) :: W
  | [], j, p, x, h => by simp at h
  | y :: X, 0, p, x, h => by simp at h; subst h; simp [accW]
  | y :: X, j + 1, p, x, h => by
    have h' : X[j]? = some x := by simpa using h
    rw [List.take_succ_cons, List.take_succ_cons, accW, accW, accW_take X j (p + 1) x h', List.append_assoc, show p + 1 + j = p + (j + 1) by omega]

theorem kds_n : ∀ (fo : Fo) (i n j : Nat) (x : Kd), (kds i n fo)[j]? = some x → x.n = n + (accW ((kds i n fo).take j) 0).length
  | .nil, i, n, j, x, h => by simp [kds] at h
  | .leaf f t, i, n, 0, x, h => by simp [kds] at h; subst h; simp [accW]
  | .leaf f t, i, n, j + 1, x, h => by
    have h' : (kds (i + 1) (n + 1) t)[j]? = some x := by simpa [kds] using h
    have ih := kds_n t (i + 1) (n + 1) j x h'
    rw [kds, List.take_succ_cons, accW, List.length_append, accW_len _ (0 + 1) 0, ih]
    simp; omega
  | .group f k t, i, n, 0, x, h => by simp [kds] at h; subst h; simp [accW]
  | .group f k t, i, n, j + 1, x, h => by
    have h' : (kds (i + 1 + k.flat.length) (n + (lwF [] k 0).length) t)[j]? = some x := by simpa [kds] using h
    have ih := kds_n t _ _ j x h'
    rw [kds, List.take_succ_cons, accW, List.length_append, accW_len _ (0 + 1) 0, ih]
    simp; omega

theorem kds_len : ∀ (fo : Fo) (i n : Nat), (kds i n fo).length = fo.num
  | .nil, i, n => rfl
  | .leaf f t, i, n => by simp [kds, Fo.num, kds_len t]
  | .group f k t, i, n => by simp [kds, Fo.num, kds_len t]

theorem kds_fit : ∀ (fo : Fo) (i n : Nat) (ks : List (List Tr)), fitF fo ks → (kds i n fo).length = ks.length ∧ ∀ (j : Nat) (x : Kd) (M : List Tr), (kds i n fo)[j]? = some x → ks[j]? = some M → timesE x.r M.length = 0 ∧ ∀ u ∈ M, x.ok u
  | .nil, i, n, ks, h => by
    have h : ks = [] := h
    subst h
    exact ⟨rfl, fun j x M h => by simp [kds] at h⟩
  | .leaf f t, i, n, [], h => h.elim
  | .leaf f t, i, n, M :: ks, ⟨f1, f2, f3⟩ => by
    obtain ⟨h1, h2⟩ := kds_fit t (i + 1) (n + 1) ks f3
    refine ⟨by simp [kds, h1], fun j x N hx hN => ?_⟩
    cases j with
    | zero => simp [kds] at hx hN; subst hx hN; exact ⟨f1, fun _ _ => trivial⟩
    | succ j => exact h2 j x N (by simpa [kds] using hx) (by simpa using hN)
  | .group f k t, i, n, [], h => h.elim
  | .group f k t, i, n, M :: ks, ⟨f1, f2, f3⟩ => by
    obtain ⟨h1, h2⟩ := kds_fit t (i + 1 + k.flat.length) (n + (lwF [] k 0).length) ks f3
    refine ⟨by simp [kds, h1], fun j x N hx hN => ?_⟩
    cases j with
    | zero => simp [kds] at hx hN; subst hx hN; exact ⟨f1, fun u hu => (f2 u hu).2.2⟩
    | succ j => exact h2 j x N (by simpa [kds] using hx) (by simpa using hN)

/-- What a group's value adds: its fields one behind the other. -/
theorem atC_kid {X : List Kd} {n j : Nat} {x : Kd} (hx : X[j]? = some x) (hn : x.n = n + (accW (X.take j) 0).length) (rr dd r : Nat) (t : Tr) (q : Nat) :
    atC (accW (X.take (j + 1)) 0) n rr dd r t q = atC (accW (X.take j) 0) n rr dd r t q ++ atC (x.Ws.map fun W => (j, x.r) :: W) x.n rr dd r t q := by
  rw [accW_take X j 0 x hx, atC_app, hn, Nat.zero_add]

/-! ### the leaves' numbers -/

def lno (l : List F) (i : Nat) : Nat := (leavesTo l i).length

theorem lno_succ (l : List F) (i : Nat) : lno l (i + 1) = lno l i + if (l.getD i default).k ≠ 0 then 1 else 0 := by
  unfold lno
  rw [leavesTo_succ, List.length_append]
  unfold leafAt
  split <;> simp

theorem leavesTo_pre (l : List F) (i : Nat) : ∀ n, ∃ R, leavesTo l (i + n) = leavesTo l i ++ R
  | 0 => ⟨[], by simp⟩
  | n + 1 => by
    obtain ⟨R, hR⟩ := leavesTo_pre l i n
    exact ⟨R ++ leafAt l (i + n), by rw [← Nat.add_assoc, leavesTo_succ, hR, List.append_assoc]⟩

theorem leaf_no {l : List F} {i : Nat} (hi : i < l.length) (hk : (l.getD i default).k ≠ 0) : (leavesL l)[lno l i]? = some ⟨i, (rls l).getD i 0, (dls l).getD i 0, (l.getD i default).k⟩ := by
  obtain ⟨R, hR⟩ := leavesTo_pre l (i + 1) (l.length - (i + 1))
  rw [show i + 1 + (l.length - (i + 1)) = l.length by omega] at hR
  unfold leavesL lno
  rw [hR, leavesTo_succ, List.append_assoc, List.getElem?_append_right (Nat.le_refl _), Nat.sub_self]
  unfold leafAt
  rw [if_pos hk]
  rfl

theorem lno_fo : ∀ (fo : Fo) {l : List F} (i : Nat), fo.wf → HasK l i fo → lno l (i + fo.flat.length) = lno l i + (lwF [] fo 0).length
  | .nil, l, i, _, _ => rfl
  | .leaf f t, l, i, ⟨h1, h2, h3⟩, ⟨k1, k2⟩ => by
    have ih := lno_fo t (i + 1) h3 k2
    have hs := lno_succ l i
    rw [k1, if_pos (by omega)] at hs
    have e : i + (Fo.leaf f t).flat.length = i + 1 + t.flat.length := by simp [Fo.flat]; omega
    have e2 : (lwF [] (.leaf f t) 0).length = 1 + (lwF [] t 0).length := by
      rw [lwF_acc _ 0 0 0, lwF_acc t 1 1 0, kds, accW, List.length_append, accW_len _ (0 + 1) 0]; simp
    rw [e, ih, hs, e2]
    omega
  | .group f k t, l, i, ⟨h1, h2, h3, h4⟩, ⟨k1, k2, k3, k4⟩ => by
    have ih1 := lno_fo k (i + 1) h3 k3
    have ih2 := lno_fo t (i + 1 + k.flat.length) h4 k4
    have hs := lno_succ l i
    rw [k1, h1, if_neg (by simp)] at hs
    have e : i + (Fo.group f k t).flat.length = i + 1 + k.flat.length + t.flat.length := by simp [Fo.flat]; omega
    have e2 : (lwF [] (.group f k t) 0).length = (lwF [] k 0).length + (lwF [] t 0).length := by
      rw [lwF_acc _ 0 0 0, kds, accW, List.length_append, accW_len _ (0 + 1) 0, ← lwF_acc t, List.length_map]
    rw [e, ih2, ih1, hs, e2]
    omega

/-- A group's field: how far it is repeated, defined. -/
theorem lev_kid {l : List F} {i g : Nat} (hi : i < l.length) (hp : (parents l).getD i 0 = (g : Int)) (hr : (l.getD i default).r = 0 ∨ (l.getD i default).r = 1 ∨ (l.getD i default).r = 2) :
    (rls l).getD i 0 = (rls l).getD g 0 + (if (l.getD i default).r = 2 then 1 else 0) ∧ (dls l).getD i 0 = (dls l).getD g 0 + (if (l.getD i default).r = 0 then 0 else 1) := by
  have h1 := cntL_at (repB l) (parents l) i (by rw [parents_length]; exact hi) (fun j x => parents_lt)
  have h2 := cntL_at (optB l) (parents l) i (by rw [parents_length]; exact hi) (fun j x => parents_lt)
  have hx : (parents l)[i]? = some (g : Int) := by rw [← hp, List.getD, List.getElem?_eq_getElem (by rw [parents_length]; exact hi)]; rfl
  have hg : g < i := by
    have := parents_lt hx
    omega
  rw [hp] at h1 h2
  unfold cat at h1 h2
  rw [if_neg (by omega), Int.toNat_natCast] at h1 h2
  unfold rls dls
  rw [h1, h2]
  unfold repB optB
  constructor
  · simp
  · congr 1
    by_cases e : (l.getD i default).r = 0
    · simp [e]
    · simp [e]

theorem lev_pos (l : List F) (i : Nat) : 0 ≤ (rls l).getD i 0 ∧ 0 ≤ (dls l).getD i 0 ∧ (rls l).getD i 0 ≤ l.length ∧ (dls l).getD i 0 ≤ l.length := by
  have hb : ∀ b, 0 ≤ (cntL b (parents l)).getD i 0 ∧ (cntL b (parents l)).getD i 0 ≤ l.length := fun b => by
    have h := cntL_bound b (parents l) (fun j x => parents_lt) l.length (by simp)
    rw [show (parents l).take l.length = parents l by rw [List.take_of_length_le (by simp)]] at h
    by_cases hi : i < l.length
    · have hx : (cntL b (parents l))[i]? = some ((cntL b (parents l)).getD i 0) := by rw [List.getD, List.getElem?_eq_getElem (by simpa using hi)]; rfl
      have := h i _ hx
      omega
    · rw [List.getD, List.getElem?_eq_none (by simp; omega)]
      simp
  exact ⟨(hb _).1, (hb _).1, (hb _).2, (hb _).2⟩

/-- All leaves in fields are at least as far defined as these. -/
theorem leaf_ge {l : List F} {D : Int} (hr : ∀ i, i < l.length → (l.getD i default).r = 0 ∨ (l.getD i default).r = 1 ∨ (l.getD i default).r = 2) : ∀ (fo : Fo) (i : Nat), fo.wf → HasK l i fo → i + fo.flat.length ≤ l.length → (∀ x : Nat, (x : Int) ∈ tops i fo → D ≤ (dls l).getD x 0) →
    ∀ j, lno l i ≤ j → j < lno l i + (lwF [] fo 0).length → D ≤ ((leavesL l).getD j default).d
  | .nil, i, _, _, _, _, j, h1, h2 => by simp [lwF] at h2; omega
  | .leaf f t, i, ⟨h1, h2, h3⟩, ⟨k1, k2⟩, hb, hD, j, hj1, hj2 => by
    simp only [Fo.flat, List.length_cons] at hb
    have hs := lno_succ l i
    rw [k1, if_pos (by omega)] at hs
    have e2 : (lwF [] (.leaf f t) 0).length = 1 + (lwF [] t 0).length := by
      rw [lwF_acc _ 0 0 0, lwF_acc t 1 1 0, kds, accW, List.length_append, accW_len _ (0 + 1) 0]; simp
    by_cases e : j = lno l i
    · subst e
      rw [List.getD, leaf_no (by omega) (by rw [k1]; omega)]
      exact hD i (by simp [tops])
    · exact leaf_ge hr t (i + 1) h3 k2 (by omega) (fun x hx => hD x (by simp [tops, hx])) j (by omega) (by omega)
  | .group f k t, i, ⟨h1, h2, h3, h4⟩, ⟨k1, k2, k3, k4⟩, hb, hD, j, hj1, hj2 => by
    simp only [Fo.flat, List.length_cons, List.length_append] at hb
    have hs := lno_succ l i
    rw [k1, h1, if_neg (by simp)] at hs
    have e2 : (lwF [] (.group f k t) 0).length = (lwF [] k 0).length + (lwF [] t 0).length := by
      rw [lwF_acc _ 0 0 0, kds, accW, List.length_append, accW_len _ (0 + 1) 0, ← lwF_acc t, List.length_map]
    have hl := lno_fo k (i + 1) h3 k3
    by_cases e : j < lno l i + (lwF [] k 0).length
    · refine leaf_ge hr k (i + 1) h3 k3 (by omega) (fun x hx => ?_) j (by omega) (by omega)
      rw [← k2] at hx
      obtain ⟨x', hxx, a, b⟩ := kidsU_mem.1 hx
      obtain rfl : x = x' := by omega
      have h5 := (lev_kid a b (hr x a)).2
      have h6 := hD i (by simp [tops])
      split at h5 <;> omega
    · exact leaf_ge hr t (i + 1 + k.flat.length) h4 k4 (by omega) (fun x hx => hD x (by simp [tops, hx])) j (by omega) (by omega)

end Go.Proofs.Ytfdmbpfpdijpdaa
