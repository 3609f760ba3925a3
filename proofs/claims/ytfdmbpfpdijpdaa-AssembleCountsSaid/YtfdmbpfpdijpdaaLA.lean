/- La, Lb, Lc: texts of one group, one behind the other. -/
import Derived.Test.YtfdmbpfpdijpdaaVa
import Derived.Test.YtfdmbpfpdijpdaaGa
import Derived.Test.YtfdmbpfpdijpdaaVl
import Derived.Test.YtfdmbpfpdijpdaaGg
namespace Go.Proofs.Ytfdmbpfpdijpdaa
open Go.RowKit
set_option linter.unusedVariables false
set_option linter.unusedSimpArgs false

/-- A leaf's number and its cell. -/
abbrev NC2 := Nat × Cl

def listO (f : Nat → Tr → List NC2) (rr r : Nat) : List Tr → List NC2
  | [] => []
  | y :: Y => f r y ++ Y.flatMap (f rr)

/-- The cells of a group's fields in the order of their values. -/
def ordF : Fo → Nat → Nat → Nat → Nat → Nat → Tr → List NC2
  | .nil, _, _, _, _, _, _ => []
  | .leaf f g, n, p, rr, dd, r, t =>
    (if t.k.getD p [] = [] then [(n, ⟨r, dd, t⟩)] else listO (fun r' y => [(n, ⟨r', if f.r = 0 then dd else dd + 1, y⟩)]) (if f.r = 2 then rr + 1 else rr) r (t.k.getD p [])) ++ ordF g (n + 1) (p + 1) rr dd r t
  | .group f k g, n, p, rr, dd, r, t =>
    (if t.k.getD p [] = [] then (List.range (lwF [] k 0).length).map (fun j => (n + j, ⟨r, dd, t⟩)) else listO (fun r' y => ordF k n 0 (if f.r = 2 then rr + 1 else rr) (if f.r = 0 then dd else dd + 1) r' y) (if f.r = 2 then rr + 1 else rr) r (t.k.getD p [])) ++ ordF g (n + (lwF [] k 0).length) (p + 1) rr dd r t

/-! ### reading -/

/-- The r of a leaf's next cell. -/
def nextR (i : Nat) (O : List NC2) (ρ : Nat → Nat) : Nat := match O.find? (fun x => x.1 == i) with
  | some x => x.2.r
  | none => ρ i

theorem nextR_app (i : Nat) (O P : List NC2) (ρ : Nat → Nat) : nextR i (O ++ P) ρ = nextR i O (fun q => nextR q P ρ) := by
  unfold nextR
  rw [List.find?_append]
  cases O.find? (fun x => x.1 == i) with
  | none => rfl
  | some x => rfl

theorem nextR_none {i : Nat} {O : List NC2} {ρ : Nat → Nat} (h : ∀ x ∈ O, x.1 ≠ i) : nextR i O ρ = ρ i := by
  unfold nextR
  rw [List.find?_eq_none.2 (fun x hx => by simpa using h x hx)]

theorem nextR_cons_ne {i : Nat} {x : NC2} {O : List NC2} {ρ : Nat → Nat} (h : x.1 ≠ i) : nextR i (x :: O) ρ = nextR i O ρ := by
  unfold nextR
  rw [List.find?_cons_of_neg (by simpa using h)]

theorem nextR_cons_eq {i : Nat} {x : NC2} {O : List NC2} {ρ : Nat → Nat} (h : x.1 = i) : nextR i (x :: O) ρ = x.2.r := by
  unfold nextR
  rw [List.find?_cons_of_pos (by simpa using h)]

/-- From leaf j the cells O are read, each the one that it goes to; then it goes to j'. -/
def Rd (nx : Nat → Nat → Nat) (ρ : Nat → Nat) : Nat → List NC2 → Nat → Prop
  | j, [], j' => j = j'
  | j, x :: O, j' => x.1 = j ∧ Rd nx ρ (nx j (nextR j O ρ)) O j'

theorem Rd.app {nx : Nat → Nat → Nat} {ρ : Nat → Nat} {P : List NC2} : ∀ {O : List NC2} {j j1 j' : Nat}, Rd nx (fun q => nextR q P ρ) j O j1 → Rd nx ρ j1 P j' → Rd nx ρ j (O ++ P) j'
  | [], j, j1, j', h, k => by
    have h : j = j1 := h
    subst h
    exact k
  | x :: O, j, j1, j', ⟨h1, h2⟩, k => by
    refine ⟨h1, ?_⟩
    show Rd nx ρ (nx j (nextR j (O ++ P) ρ)) (O ++ P) j'
    rw [nextR_app]
    exact Rd.app h2 k

theorem Rd.congr {nx : Nat → Nat → Nat} {ρ σ : Nat → Nat} : ∀ {O : List NC2} {j j' : Nat}, Rd nx ρ j O j' → (∀ x ∈ O, ρ x.1 = σ x.1) → Rd nx σ j O j'
  | [], j, j', h, _ => h
  | x :: O, j, j', ⟨h1, h2⟩, e => by
    refine ⟨h1, ?_⟩
    have he : nextR j O σ = nextR j O ρ := by
      unfold nextR
      cases O.find? (fun x => x.1 == j) with
      | none => rw [← h1]; exact (e x (by simp)).symm
      | some y => rfl
    rw [he]
    exact Rd.congr h2 (fun y hy => e y (by simp [hy]))

/-! ### which leaves are read -/

theorem ordF_leaf : ∀ (fo : Fo) (n p rr dd r : Nat) (t : Tr), ∀ x ∈ ordF fo n p rr dd r t, n ≤ x.1 ∧ x.1 < n + (lwF [] fo 0).length
  | .nil, n, p, rr, dd, r, t, x, hx => by simp [ordF] at hx
  | .leaf f g, n, p, rr, dd, r, t, x, hx => by
    have e2 : (lwF [] (.leaf f g) 0).length = 1 + (lwF [] g 0).length := by
      rw [lwF_acc _ 0 0 0, lwF_acc g 1 1 0, kds, accW, List.length_append, accW_len _ (0 + 1) 0]; simp
    rw [e2]
    rw [ordF, List.mem_append] at hx
    rcases hx with hx | hx
    · have : x.1 = n := by
        split at hx
        · simp at hx; rw [hx]
        · cases hg : t.k.getD p [] with
          | nil => rw [hg] at hx; simp [listO] at hx
          | cons y Y =>
            rw [hg] at hx
            simp only [listO, List.mem_append, List.mem_flatMap, List.mem_singleton] at hx
            rcases hx with rfl | ⟨z, _, rfl⟩ <;> rfl
      omega
    · have := ordF_leaf g (n + 1) (p + 1) rr dd r t x hx
      omega
  | .group f k g, n, p, rr, dd, r, t, x, hx => by
    have e2 : (lwF [] (.group f k g) 0).length = (lwF [] k 0).length + (lwF [] g 0).length := by
      rw [lwF_acc _ 0 0 0, kds, accW, List.length_append, accW_len _ (0 + 1) 0, ← lwF_acc g, List.length_map]
    rw [e2]
    rw [ordF, List.mem_append] at hx
    rcases hx with hx | hx
    · have : n ≤ x.1 ∧ x.1 < n + (lwF [] k 0).length := by
        split at hx
        · obtain ⟨j, hj, rfl⟩ := List.mem_map.1 hx
          have := List.mem_range.1 hj
          simp only
          omega
        · cases hg : t.k.getD p [] with
          | nil => rw [hg] at hx; simp [listO] at hx
          | cons y Y =>
            rw [hg] at hx
            simp only [listO, List.mem_append, List.mem_flatMap] at hx
            rcases hx with hx | ⟨z, _, hx⟩
            · exact ordF_leaf k _ _ _ _ _ _ x hx
            · exact ordF_leaf k _ _ _ _ _ _ x hx
      omega
    · have := ordF_leaf g (n + (lwF [] k 0).length) (p + 1) rr dd r t x hx
      omega

/-- Of each leaf its cells. -/
theorem ordF_cells : ∀ (fo : Fo) (n p rr dd r : Nat) (t : Tr) (j : Nat), fitF fo (t.k.drop p) → (∀ f ∈ fo.flat, 0 ≤ f.r ∧ f.r ≤ 2) → ((ordF fo n p rr dd r t).filter fun x => x.1 == j).map (·.2) = atC (lwF [] fo p) n rr dd r t j
  | .nil, n, p, rr, dd, r, t, j, _, _ => by rw [ordF, lwF, atC_nil]; rfl
  | .leaf f g, n, p, rr, dd, r, t, j, hf, hr => by
    have hrf := hr f (by simp [Fo.flat])
    cases hd : t.k.drop p with
    | nil => rw [hd] at hf; exact hf.elim
    | cons M ks =>
      rw [hd] at hf
      obtain ⟨f1, f2, f3⟩ := hf
      have hx : t.k[p]? = some M := by have h := congrArg (·[0]?) hd; simpa using h
      have hg : t.k.getD p [] = M := by rw [List.getD, hx]; rfl
      have hd2 : t.k.drop (p + 1) = ks := by rw [← List.drop_drop, hd]; rfl
      have ih := ordF_cells g (n + 1) (p + 1) rr dd r t j (by rw [hd2]; exact f3) (fun y hy => hr y (by simp [Fo.flat, hy]))
      have htt := times_le14 hrf f1
      have e : lwF [] (.leaf f g) p = ([[]].map fun W => (p, f.r) :: W) ++ lwF [] g (p + 1) := by rw [lwF]; rfl
      rw [ordF, List.filter_append, List.map_append, ih, e, atC_app, atC_cons [[]] p f.r n rr dd r t (by rw [hg]; omega)]
      congr 1
      rw [hg]
      have one : ∀ (r' d' : Nat) (y : Tr), (([(n, (⟨r', d', y⟩ : Cl))] : List NC2).filter fun x => x.1 == j).map (·.2) = if j = n then [⟨r', d', y⟩] else [] := fun r' d' y => by
        by_cases e : j = n
        · subst e; simp
        · rw [if_neg e]; simp; exact fun h => e h.symm
      by_cases hM : M = []
      · rw [if_pos hM, if_pos hM, one]
        unfold nonC
        by_cases e : j = n
        · subst e; rw [if_pos rfl, if_pos (by simp)]
        · rw [if_neg e, if_neg (by simp; omega)]
      · rw [if_neg hM, if_neg hM]
        have hat : ∀ a b c (y : Tr), atC [[]] n a b c y j = if j = n then [⟨c, b, y⟩] else [] := fun a b c y => by
          unfold atC
          by_cases h : n ≤ j
          · rw [if_pos h]
            by_cases e : j = n
            · subst e; rw [if_pos rfl, Nat.sub_self]; rfl
            · rw [if_neg e, List.getElem?_eq_none (by simp; omega)]
          · rw [if_neg h, if_neg (by omega)]
        cases M with
        | nil => exact absurd rfl hM
        | cons y Y =>
          rw [listO, lstC, List.filter_append, List.map_append, one, hat]
          congr 1
          rw [List.filter_flatMap, List.map_flatMap]
          congr 1
          funext z
          rw [one, hat]
  | .group f k g, n, p, rr, dd, r, t, j, hf, hr => by
    have hrf := hr f (by simp [Fo.flat])
    cases hd : t.k.drop p with
    | nil => rw [hd] at hf; exact hf.elim
    | cons M ks =>
      rw [hd] at hf
      obtain ⟨f1, f2, f3⟩ := hf
      have hx : t.k[p]? = some M := by have h := congrArg (·[0]?) hd; simpa using h
      have hg : t.k.getD p [] = M := by rw [List.getD, hx]; rfl
      have hd2 : t.k.drop (p + 1) = ks := by rw [← List.drop_drop, hd]; rfl
      have ih := ordF_cells g (n + (lwF [] k 0).length) (p + 1) rr dd r t j (by rw [hd2]; exact f3) (fun y hy => hr y (by simp [Fo.flat, hy]))
      have htt := times_le14 hrf f1
      have e : lwF [] (.group f k g) p = ((lwF [] k 0).map fun W => (p, f.r) :: W) ++ lwF [] g (p + 1) := by rw [lwF, lwF_pre k]; rfl
      rw [ordF, List.filter_append, List.map_append, ih, e, atC_app, List.length_map, atC_cons _ p f.r n rr dd r t (by rw [hg]; omega)]
      congr 1
      rw [hg]
      by_cases hM : M = []
      · rw [if_pos hM, if_pos hM]
        unfold nonC
        rw [List.filter_map, List.map_map]
        by_cases e : n ≤ j ∧ j < n + (lwF [] k 0).length
        · rw [if_pos e]
          have hfil : ∀ m, (List.range m).filter ((fun x : NC2 => x.1 == j) ∘ fun q => (n + q, (⟨r, dd, t⟩ : Cl))) = if j - n < m then [j - n] else [] := fun m => by
            induction m with
            | zero => rfl
            | succ m ih =>
              rw [List.range_succ, List.filter_append, ih]
              by_cases e2 : j - n = m
              · rw [if_neg (by omega), if_pos (by omega), List.filter_cons_of_pos (by simp only [Function.comp]; simp; omega), e2]; rfl
              · rw [List.filter_cons_of_neg (by simp only [Function.comp]; simp; omega)]
                by_cases e3 : j - n < m
                · rw [if_pos e3, if_pos (by omega)]; rfl
                · rw [if_neg e3, if_neg (by omega)]; rfl
          rw [hfil, if_pos (by omega)]; rfl
        · rw [if_neg e]
          rw [List.filter_eq_nil_iff.2 (fun q hq => by have := List.mem_range.1 hq; simp only [Function.comp, beq_iff_eq]; omega)]
          rfl
      · rw [if_neg hM, if_neg hM]
        have ihk : ∀ (r' : Nat) (y : Tr), y ∈ M → ((ordF k n 0 (if f.r = 2 then rr + 1 else rr) (if f.r = 0 then dd else dd + 1) r' y).filter fun x => x.1 == j).map (·.2) = atC (lwF [] k 0) n (if f.r = 2 then rr + 1 else rr) (if f.r = 0 then dd else dd + 1) r' y j := fun r' y hy =>
          ordF_cells k n 0 _ _ r' y j (by rw [List.drop_zero]; exact (f2 y hy).2.2) (fun z hz => hr z (by simp [Fo.flat, hz]))
        cases M with
        | nil => exact absurd rfl hM
        | cons y Y =>
          rw [listO, lstC, List.filter_append, List.map_append, ihk r y (by simp)]
          congr 1
          rw [List.filter_flatMap, List.map_flatMap, List.flatMap_def, List.flatMap_def]
          congr 1
          exact List.map_congr_left fun z hz => ihk _ z (by simp [hz])

end Go.Proofs.Ytfdmbpfpdijpdaa

namespace Go.Proofs.Ytfdmbpfpdijpdaa
open Go.RowKit
set_option linter.unusedVariables false
set_option linter.unusedSimpArgs false

theorem lw_leaf (f : F) (g : Fo) : (lwF [] (.leaf f g) 0).length = 1 + (lwF [] g 0).length := by
  rw [lwF_acc _ 0 0 0, lwF_acc g 1 1 0, kds, accW, List.length_append, accW_len _ (0 + 1) 0]; simp
theorem lw_group (f : F) (k g : Fo) : (lwF [] (.group f k g) 0).length = (lwF [] k 0).length + (lwF [] g 0).length := by
  rw [lwF_acc _ 0 0 0, kds, accW, List.length_append, accW_len _ (0 + 1) 0, ← lwF_acc g, List.length_map]

/-! ### trails of a forest's leaves -/

def rep1 (f : F) (i : Nat) : List Nat := if f.r = 2 then [i] else []

def trl : Fo → Nat → List Nat → List (List Nat)
  | .nil, _, _ => []
  | .leaf f g, i, P => (P ++ rep1 f i) :: trl g (i + 1) P
  | .group f k g, i, P => trl k (i + 1) (P ++ rep1 f i) ++ trl g (i + 1 + k.flat.length) P

theorem trl_len : ∀ (fo : Fo) (i : Nat) (P : List Nat), (trl fo i P).length = (lwF [] fo 0).length
  | .nil, _, _ => rfl
  | .leaf f g, i, P => by rw [trl, List.length_cons, trl_len g, lw_leaf]; omega
  | .group f k g, i, P => by rw [trl, List.length_append, trl_len k, trl_len g, lw_group]

theorem rep1_mem {f : F} {i a : Nat} (h : a ∈ rep1 f i) : a = i := by
  unfold rep1 at h
  split at h
  · simpa using h
  · simp at h

theorem trl_mem : ∀ (fo : Fo) (i : Nat) (P : List Nat), ∀ x ∈ trl fo i P, ∃ s, x = P ++ s ∧ ∀ a ∈ s, i ≤ a ∧ a < i + fo.flat.length
  | .nil, i, P, x, hx => by simp [trl] at hx
  | .leaf f g, i, P, x, hx => by
    rw [trl] at hx
    rcases List.mem_cons.1 hx with rfl | hx
    · exact ⟨_, rfl, fun a ha => by have := rep1_mem ha; simp [Fo.flat]; omega⟩
    · obtain ⟨s, h1, h2⟩ := trl_mem g (i + 1) P x hx
      exact ⟨s, h1, fun a ha => by have := h2 a ha; simp [Fo.flat]; omega⟩
  | .group f k g, i, P, x, hx => by
    rw [trl] at hx
    rcases List.mem_append.1 hx with hx | hx
    · obtain ⟨s, h1, h2⟩ := trl_mem k (i + 1) _ x hx
      refine ⟨rep1 f i ++ s, by rw [h1, List.append_assoc], fun a ha => ?_⟩
      simp only [Fo.flat, List.length_cons, List.length_append]
      rcases List.mem_append.1 ha with ha | ha
      · have := rep1_mem ha; omega
      · have := h2 a ha; omega
    · obtain ⟨s, h1, h2⟩ := trl_mem g _ P x hx
      exact ⟨s, h1, fun a ha => by have := h2 a ha; simp [Fo.flat]; omega⟩

theorem trs_fo {l : List F} : ∀ (fo : Fo) (i : Nat) (P : List Nat), fo.wf → HasK l i fo → i + fo.flat.length ≤ l.length → (∀ x : Nat, (x : Int) ∈ tops i fo → trF l x = P ++ if repB l x then [x] else []) →
    ∃ R, leavesTo l (i + fo.flat.length) = leavesTo l i ++ R ∧ R.map (fun x => trF l x.f.toNat) = trl fo i P
  | .nil, i, P, _, _, _, _ => ⟨[], by simp [Fo.flat], rfl⟩
  | .leaf f g, i, P, ⟨h1, h2, h3⟩, ⟨k1, k2⟩, hb, hT => by
    simp only [Fo.flat, List.length_cons] at hb
    obtain ⟨R, hR, hM⟩ := trs_fo g (i + 1) P h3 k2 (by omega) (fun x hx => hT x (by simp [tops, hx]))
    have hk : (l.getD i default).k ≠ 0 := by rw [k1]; omega
    refine ⟨leafAt l i ++ R, ?_, ?_⟩
    · rw [show i + (Fo.leaf f g).flat.length = i + 1 + g.flat.length by simp [Fo.flat]; omega, hR, leavesTo_succ, List.append_assoc]
    · unfold leafAt
      rw [if_pos hk, List.map_append, hM, trl]
      have h4 := hT i (by simp [tops])
      have h5 : (if repB l i = true then [i] else []) = rep1 f i := by unfold repB rep1; rw [k1]; simp
      simp only [List.map_cons, List.map_nil, Int.toNat_natCast, h4, h5]
      rfl
  | .group f k g, i, P, ⟨h1, h2, h3, h4⟩, ⟨k1, k2, k3, k4⟩, hb, hT => by
    simp only [Fo.flat, List.length_cons, List.length_append] at hb
    have h5 : (if repB l i = true then [i] else []) = rep1 f i := by unfold repB rep1; rw [k1]; simp
    have hi := hT i (by simp [tops])
    rw [h5] at hi
    obtain ⟨R, hR, hM⟩ := trs_fo k (i + 1) (P ++ rep1 f i) h3 k3 (by omega) (fun x hx => by
      rw [← k2] at hx
      obtain ⟨x', hxx, a, b⟩ := kidsU_mem.1 hx
      obtain rfl : x = x' := by omega
      rw [trF_at l x a, b, if_neg (by omega), Int.toNat_natCast, hi])
    obtain ⟨S, hS, hN⟩ := trs_fo g (i + 1 + k.flat.length) P h4 k4 (by omega) (fun x hx => hT x (by simp [tops, hx]))
    have hk : (l.getD i default).k = 0 := by rw [k1]; exact h1
    refine ⟨R ++ S, ?_, by rw [List.map_append, hM, hN, trl]⟩
    have h6 : leavesTo l (i + 1) = leavesTo l i := by
      rw [leavesTo_succ]; unfold leafAt; rw [if_neg (fun h => h hk), List.append_nil]
    rw [show i + (Fo.group f k g).flat.length = i + 1 + k.flat.length + g.flat.length by simp [Fo.flat]; omega, hS, hR, h6, List.append_assoc]

theorem trs_root {l : List F} {r0 : F} {fo : Fo} (hl : l = r0 :: fo.flat) (hr1 : r0.k = 0) (hr0 : r0.r = 0) (hr3 : r0.c = fo.num) (hwf : fo.wf) : trs l = trl fo 1 [] := by
  obtain ⟨hp, q1, q2⟩ := hasK_root hl hr1 hr3 hwf
  have hlen : l.length = 1 + fo.flat.length := by rw [hl, List.length_cons]; omega
  have hk : (l.getD 0 default).k = 0 := by rw [hl]; exact hr1
  have h0 : trF l 0 = [] := by
    rw [trF_at l 0 (by omega), hp]
    have : repB l 0 = false := by unfold repB; rw [hl]; show decide (r0.r = 2) = false; rw [hr0]; rfl
    rw [this]
    rfl
  obtain ⟨R, hR, hM⟩ := trs_fo fo 1 [] hwf q2 (by omega) (fun x hx => by
    rw [← q1] at hx
    obtain ⟨x', hxx, a, b⟩ := kidsU_mem.1 hx
    obtain rfl : x = x' := by omega
    rw [trF_at l x a, b, if_neg (by omega), Int.toNat_natCast, h0])
  have h6 : leavesTo l 1 = [] := by
    rw [leavesTo_succ]; unfold leafAt; rw [if_neg (fun h => h hk)]; rfl
  unfold trs leavesL
  rw [hlen, hR, h6, List.nil_append, hM]

/-! ### where the automaton goes -/

theorem aft_next {T : List (List Nat)} {j q : Nat} (h : q ≤ cmn T (j : Int) ((j : Int) + 1)) : aft T j q = j + 1 := by
  unfold aft; rw [if_pos h]

theorem getD_mid {A Q B : List (List Nat)} {j : Nat} (h1 : A.length ≤ j) (h2 : j < A.length + Q.length) : (A ++ Q ++ B).getD j [] ∈ Q := by
  rw [List.getD, List.getElem?_append_left (by simp; omega), List.getElem?_append_right h1, List.getElem?_eq_getElem (by omega)]
  exact List.getElem_mem _

theorem getD_out {A Q B : List (List Nat)} {j : Nat} (h0 : j < (A ++ Q ++ B).length) (h : j < A.length ∨ A.length + Q.length ≤ j) : (A ++ Q ++ B).getD j [] ∈ A ∨ (A ++ Q ++ B).getD j [] ∈ B := by
  rcases h with h | h
  · left
    rw [List.append_assoc, List.getD, List.getElem?_append_left h, List.getElem?_eq_getElem h]
    exact List.getElem_mem _
  · right
    simp only [List.length_append] at h0
    rw [List.getD, List.getElem?_append_right (by simp; omega), List.getElem?_eq_getElem (by simp; omega)]
    exact List.getElem_mem _

theorem cmn_pre {T : List (List Nat)} {P : List Nat} {i j : Nat} (hi : i < T.length) (hj : j < T.length) (h1 : ∃ s, T.getD i [] = P ++ s) (h2 : ∃ s, T.getD j [] = P ++ s) : P.length ≤ cmn T (i : Int) (j : Int) := by
  obtain ⟨s, hs⟩ := h1
  obtain ⟨u, hu⟩ := h2
  unfold cmn
  rw [if_pos (by omega), Int.toNat_natCast, Int.toNat_natCast, hs, hu]
  exact cpl_pre _ _ _

theorem cpl_lt {P s x : List Nat} (h : ∀ u, x ≠ P ++ u) : cpl (P ++ s) x < P.length := by
  refine Nat.lt_of_not_le fun hle => ?_
  have ht := cpl_take (P ++ s) x
  have h2 := congrArg (List.take P.length) ht
  rw [List.take_take, List.take_take, Nat.min_eq_left hle, List.take_left] at h2
  refine h (x.drop P.length) ?_
  conv => lhs; rw [← List.take_append_drop P.length x, ← h2]

/-- One goes back to where a repeated field begins. -/
theorem aft_back {A Q B T : List (List Nat)} {P : List Nat} (hT : T = A ++ Q ++ B) (hQ : Q ≠ []) (h1 : ∀ x ∈ Q, ∃ s, x = P ++ s) (h2 : ∀ x, x ∈ A ∨ x ∈ B → ∀ s, x ≠ P ++ s) (hP : 0 < P.length) : aft T (A.length + Q.length - 1) P.length = A.length := by
  subst hT
  have hq : 0 < Q.length := List.length_pos_iff.2 hQ
  have hlen : (A ++ Q ++ B).length = A.length + Q.length + B.length := by simp; omega
  have hlast := h1 _ (getD_mid (A := A) (Q := Q) (B := B) (j := A.length + Q.length - 1) (by omega) (by omega))
  have hno : ∀ j, j < (A ++ Q ++ B).length → (j < A.length ∨ A.length + Q.length ≤ j) → cmn (A ++ Q ++ B) ((A.length + Q.length - 1 : Nat) : Int) (j : Int) < P.length := fun j hj h => by
    obtain ⟨s, hs⟩ := hlast
    have hx := h2 _ (getD_out hj h)
    unfold cmn
    rw [if_pos (by omega), Int.toNat_natCast, Int.toNat_natCast, hs]
    exact cpl_lt hx
  unfold aft
  rw [if_neg ?_]
  · obtain ⟨f1, f2, f3, f4⟩ := fstJ_spec (fun j => decide (P.length ≤ cmn (A ++ Q ++ B) ((A.length + Q.length - 1 : Nat) : Int) (j : Int))) (A.length + Q.length - 1) 0 (by
      rw [Nat.zero_add, decide_eq_true_iff]
      exact cmn_pre (by omega) (by omega) hlast hlast)
    generalize fstJ (fun j => decide (P.length ≤ cmn (A ++ Q ++ B) ((A.length + Q.length - 1 : Nat) : Int) (j : Int))) (A.length + Q.length - 1) 0 = q at f1 f2 f3 f4
    rw [decide_eq_true_iff] at f1
    have g1 : ¬ q < A.length := fun h => by have := hno q (by omega) (.inl h); omega
    have g2 : ¬ A.length < q := fun h => by
      have h5 := f4 A.length (by omega) h
      rw [decide_eq_false_iff_not] at h5
      exact h5 (cmn_pre (by omega) (by omega) hlast (h1 _ (getD_mid (Nat.le_refl _) (by omega))))
    omega
  · intro hle
    by_cases h : A.length + Q.length < (A ++ Q ++ B).length
    · have := hno (A.length + Q.length) h (.inr (Nat.le_refl _))
      rw [show ((A.length + Q.length - 1 : Nat) : Int) + 1 = ((A.length + Q.length : Nat) : Int) by omega] at hle
      omega
    · unfold cmn at hle
      rw [if_neg (by omega)] at hle
      omega

/-! ### reading in order -/

theorem rd_range {T : List (List Nat)} {n ρ0 : Nat} {ρ : Nat → Nat} {c : Cl} : ∀ m, 0 < m → (∀ j, n ≤ j → j + 1 < n + m → aft T j ρ0 = j + 1) → (∀ j, n ≤ j → j < n + m → ρ j = ρ0) → Rd (aft T) ρ n ((List.range m).map fun j => (n + j, c)) (aft T (n + m - 1) ρ0)
  | 0, h, _, _ => absurd h (by omega)
  | 1, _, h1, h2 => by
    refine ⟨rfl, ?_⟩
    show aft T n (nextR n [] ρ) = _
    rw [nextR_none (by simp), h2 n (Nat.le_refl _) (by omega)]
    rfl
  | m + 2, _, h1, h2 => by
    rw [List.range_succ, List.map_append]
    refine Rd.app (j1 := n + (m + 1)) ?_ ?_
    · have ih := rd_range (T := T) (n := n) (ρ0 := ρ0) (ρ := fun q => nextR q ([m + 1].map fun j => (n + j, c)) ρ) (c := c) (m + 1) (by omega) (fun j a b => h1 j a (by omega)) (fun j a b => by
        rw [nextR_none (by intro x hx; simp at hx; subst hx; simp; omega)]
        exact h2 j a (by omega))
      rw [show n + (m + 1) - 1 = n + m by omega, h1 (n + m) (by omega) (by omega)] at ih
      exact ih
    · refine ⟨rfl, ?_⟩
      show aft T (n + (m + 1)) (nextR (n + (m + 1)) [] ρ) = _
      rw [nextR_none (by simp), h2 _ (by omega) (by omega)]
      rfl

/-- A list's values, one behind the other. -/
theorem rd_list {T : List (List Nat)} {n m rr : Nat} {V : Nat → Tr → List NC2} : ∀ (M : List Tr) (r ρ0 : Nat) (ρ : Nat → Nat), M ≠ [] → ρ0 ≤ rr → (M.length ≤ 1 ∨ aft T (n + m - 1) rr = n) →
    (∀ q, q ≤ rr → ∀ (σ : Nat → Nat), (∀ j, n ≤ j → j < n + m → σ j = q) → ∀ r', ∀ y ∈ M, Rd (aft T) σ n (V r' y) (aft T (n + m - 1) q)) →
    (∀ j, n ≤ j → j < n + m → ∀ r', ∀ y ∈ M, ∀ σ, nextR j (V r' y) σ = r') → (∀ j, n ≤ j → j < n + m → ρ j = ρ0) →
    Rd (aft T) ρ n (listO V rr r M) (aft T (n + m - 1) ρ0)
  | [], r, ρ0, ρ, h, _, _, _, _, _ => absurd rfl h
  | [y], r, ρ0, ρ, _, h0, hB, hV, hF, hρ => by
    show Rd (aft T) ρ n (V r y ++ []) _
    rw [List.append_nil]
    exact hV ρ0 h0 ρ hρ r y (by simp)
  | y :: z :: Z, r, ρ0, ρ, _, h0, hB, hV, hF, hρ => by
    have hb : aft T (n + m - 1) rr = n := by
      rcases hB with h | h
      · simp at h
      · exact h
    have ih := rd_list (z :: Z) rr ρ0 ρ (by simp) h0 (.inr hb) (fun q hq σ hσ r' u hu => hV q hq σ hσ r' u (by simp [hu])) (fun j a b r' u hu => hF j a b r' u (by simp [hu])) hρ
    show Rd (aft T) ρ n (V r y ++ (z :: Z).flatMap (V rr)) _
    refine Rd.app (j1 := n) ?_ ih
    have h := hV rr (Nat.le_refl _) (fun q => nextR q ((z :: Z).flatMap (V rr)) ρ) (fun j a b => by
      rw [List.flatMap_cons, nextR_app]
      exact hF j a b rr z (by simp) _) r y (by simp)
    rw [hb] at h
    exact h

/-- Groups are not empty. -/
def NEF : Fo → Prop
  | .nil => True
  | .leaf f g => NEF g
  | .group f k g => k ≠ .nil ∧ NEF k ∧ NEF g

theorem NEF.pos : ∀ {fo : Fo}, fo ≠ .nil → NEF fo → 0 < (lwF [] fo 0).length
  | .nil, h, _ => absurd rfl h
  | .leaf f g, _, _ => by rw [lw_leaf]; omega
  | .group f k g, _, h => by rw [lw_group]; have := NEF.pos h.1 h.2.1; omega

/-- Each leaf's first cell has the record's r. -/
theorem ordF_first : ∀ (fo : Fo) (n p rr dd r : Nat) (t : Tr) (j : Nat) (ρ : Nat → Nat), NEF fo → fitF fo (t.k.drop p) → n ≤ j → j < n + (lwF [] fo 0).length → nextR j (ordF fo n p rr dd r t) ρ = r
  | .nil, n, p, rr, dd, r, t, j, ρ, _, _, h1, h2 => by simp [lwF] at h2; omega
  | .leaf f g, n, p, rr, dd, r, t, j, ρ, hN, hf, h1, h2 => by
    rw [lw_leaf] at h2
    cases hd : t.k.drop p with
    | nil => rw [hd] at hf; exact hf.elim
    | cons M ks =>
      rw [hd] at hf
      obtain ⟨f1, f2, f3⟩ := hf
      have hx : t.k[p]? = some M := by have h := congrArg (·[0]?) hd; simpa using h
      have hg : t.k.getD p [] = M := by rw [List.getD, hx]; rfl
      have hd2 : t.k.drop (p + 1) = ks := by rw [← List.drop_drop, hd]; rfl
      rw [ordF, hg]
      by_cases e : j = n
      · subst e
        by_cases hM : M = []
        · rw [if_pos hM]; exact nextR_cons_eq rfl
        · rw [if_neg hM]
          cases M with
          | nil => exact absurd rfl hM
          | cons y Y => exact nextR_cons_eq rfl
      · rw [nextR_app, nextR_none]
        · exact ordF_first g (n + 1) (p + 1) rr dd r t j ρ hN (by rw [hd2]; exact f3) (by omega) (by omega)
        · intro x hx
          by_cases hM : M = []
          · rw [if_pos hM] at hx; simp at hx; rw [hx]; exact fun h => e h.symm
          · rw [if_neg hM] at hx
            cases M with
            | nil => exact absurd rfl hM
            | cons y Y =>
              simp only [listO, List.mem_append, List.mem_flatMap, List.mem_singleton] at hx
              rcases hx with rfl | ⟨z, _, rfl⟩ <;> exact fun h => e h.symm
  | .group f k g, n, p, rr, dd, r, t, j, ρ, ⟨n1, n2, n3⟩, hf, h1, h2 => by
    rw [lw_group] at h2
    cases hd : t.k.drop p with
    | nil => rw [hd] at hf; exact hf.elim
    | cons M ks =>
      rw [hd] at hf
      obtain ⟨f1, f2, f3⟩ := hf
      have hx : t.k[p]? = some M := by have h := congrArg (·[0]?) hd; simpa using h
      have hg : t.k.getD p [] = M := by rw [List.getD, hx]; rfl
      have hd2 : t.k.drop (p + 1) = ks := by rw [← List.drop_drop, hd]; rfl
      rw [ordF, hg, nextR_app]
      by_cases e : j < n + (lwF [] k 0).length
      · by_cases hM : M = []
        · rw [if_pos hM]
          have hfind : ∀ (σ : Nat → Nat) m, j - n < m → nextR j ((List.range m).map fun q => (n + q, (⟨r, dd, t⟩ : Cl))) σ = r := fun σ m => by
            induction m generalizing σ with
            | zero => intro h; omega
            | succ m ih =>
              intro h
              rw [List.range_succ, List.map_append, nextR_app]
              by_cases e2 : j - n < m
              · exact ih _ e2
              · rw [nextR_none (by intro x hx; obtain ⟨q, hq, rfl⟩ := List.mem_map.1 hx; have := List.mem_range.1 hq; simp only; omega)]
                exact nextR_cons_eq (by simp only; omega)
          exact hfind _ _ (by omega)
        · rw [if_neg hM]
          cases M with
          | nil => exact absurd rfl hM
          | cons y Y =>
            rw [listO, nextR_app]
            exact ordF_first k n 0 _ _ r y j _ n2 (by rw [List.drop_zero]; exact (f2 y (by simp)).2.2) h1 e
      · rw [nextR_none]
        · exact ordF_first g _ (p + 1) rr dd r t j ρ n3 (by rw [hd2]; exact f3) (by omega) (by omega)
        · intro x hx
          have hk : n ≤ x.1 ∧ x.1 < n + (lwF [] k 0).length := by
            by_cases hM : M = []
            · rw [if_pos hM] at hx
              obtain ⟨q, hq, rfl⟩ := List.mem_map.1 hx
              have := List.mem_range.1 hq
              simp only
              omega
            · rw [if_neg hM] at hx
              cases M with
              | nil => exact absurd rfl hM
              | cons y Y =>
                simp only [listO, List.mem_append, List.mem_flatMap] at hx
                rcases hx with hx | ⟨z, _, hx⟩ <;> exact ordF_leaf k _ _ _ _ _ _ x hx
          omega

/-- A trail outside: it does not go on from P into these fields. -/
def Out (P : List Nat) (lo hi : Nat) (x : List Nat) : Prop := ∀ a s, lo ≤ a → a < hi → x ≠ P ++ a :: s

theorem out_of {P x s : List Nat} {lo hi a b : Nat} (hx : x = P ++ s) (hs : ∀ c ∈ s, a ≤ c ∧ c < b) (h : hi ≤ a ∨ b ≤ lo) : Out P lo hi x := fun c u h1 h2 e => by
  rw [hx] at e
  have e2 := List.append_cancel_left e
  have := hs c (by rw [e2]; simp)
  omega

theorem rd_fo : ∀ (fo : Fo) (i n p rr dd r : Nat) (P : List Nat) (A B T : List (List Nat)) (t : Tr) (ρ0 : Nat) (ρ : Nat → Nat), fo ≠ .nil → NEF fo → T = A ++ trl fo i P ++ B → A.length = n → P.length = rr →
    (∀ x, x ∈ A ∨ x ∈ B → Out P i (i + fo.flat.length) x) → fitF fo (t.k.drop p) → (∀ f ∈ fo.flat, 0 ≤ f.r ∧ f.r ≤ 2) → ρ0 ≤ rr → (∀ j, n ≤ j → j < n + (lwF [] fo 0).length → ρ j = ρ0) →
    Rd (aft T) ρ n (ordF fo n p rr dd r t) (aft T (n + (lwF [] fo 0).length - 1) ρ0)
  | .nil, i, n, p, rr, dd, r, P, A, B, T, t, ρ0, ρ, h, _, _, _, _, _, _, _, _, _ => absurd rfl h
  | .leaf f g, i, n, p, rr, dd, r, P, A, B, T, t, ρ0, ρ, _, hN, hT, hA, hP, hO, hf, hr, hρ0, hρ => by
    have hrf := hr f (by simp [Fo.flat])
    have hlw := lw_leaf f g
    rw [hlw] at hρ
    cases hd : t.k.drop p with
    | nil => rw [hd] at hf; exact hf.elim
    | cons M ks =>
      rw [hd] at hf
      obtain ⟨f1, f2, f3⟩ := hf
      have hx : t.k[p]? = some M := by have h := congrArg (·[0]?) hd; simpa using h
      have hg : t.k.getD p [] = M := by rw [List.getD, hx]; rfl
      have hd2 : t.k.drop (p + 1) = ks := by rw [← List.drop_drop, hd]; rfl
      have htt := times_le14 hrf f1
      have hfl : (Fo.leaf f g).flat.length = 1 + g.flat.length := by simp [Fo.flat]; omega
      rw [hfl] at hO
      have hT2 : T = A ++ [P ++ rep1 f i] ++ (trl g (i + 1) P ++ B) := by rw [hT, trl]; simp
      have hT3 : T = (A ++ [P ++ rep1 f i]) ++ trl g (i + 1) P ++ B := by rw [hT, trl]; simp
      -- what is read of this field
      have item : ∀ σ : Nat → Nat, σ n = ρ0 → Rd (aft T) σ n (if M = [] then [(n, ⟨r, dd, t⟩)] else listO (fun r' y => [(n, ⟨r', if f.r = 0 then dd else dd + 1, y⟩)]) (if f.r = 2 then rr + 1 else rr) r M) (aft T n ρ0) := fun σ hσ => by
        have one : ∀ (q : Nat) (τ : Nat → Nat), τ n = q → ∀ c : Cl, Rd (aft T) τ n [(n, c)] (aft T n q) := fun q τ hτ c => ⟨rfl, by show aft T n (nextR n [] τ) = _; rw [nextR_none (by simp), hτ]⟩
        by_cases hM : M = []
        · rw [if_pos hM]; exact one ρ0 σ hσ _
        · rw [if_neg hM]
          have h := rd_list (T := T) (n := n) (m := 1) (rr := if f.r = 2 then rr + 1 else rr) (V := fun r' y => [(n, ⟨r', if f.r = 0 then dd else dd + 1, y⟩)]) M r ρ0 σ hM (by split <;> omega) (by
            by_cases h2 : f.r = 2
            · right
              rw [if_pos h2]
              have hb := aft_back hT2 (by simp) (P := P ++ [i]) (fun x hx => by simp at hx; subst hx; exact ⟨[], by unfold rep1; rw [if_pos h2]; simp⟩) (fun x hx s e => by
                rw [List.append_assoc] at e
                rcases hx with hx | hx
                · exact hO x (.inl hx) i s (Nat.le_refl _) (by omega) e
                · rcases List.mem_append.1 hx with hx | hx
                  · obtain ⟨s', h1, h2⟩ := trl_mem g (i + 1) P x hx
                    rw [h1] at e
                    have e2 := List.append_cancel_left e
                    have := h2 i (by rw [e2]; simp)
                    omega
                  · exact hO x (.inr hx) i s (Nat.le_refl _) (by omega) e) (by simp)
              rw [hA] at hb
              simp only [List.length_append, List.length_cons, List.length_nil, hP] at hb
              exact hb
            · left; omega) (fun q hq τ hτ r' y hy => one q τ (hτ n (Nat.le_refl _) (by omega)) _) (fun j a b r' y hy τ => by
              obtain rfl : j = n := by omega
              exact nextR_cons_eq rfl) (fun j a b => by obtain rfl : j = n := by omega
                                                        exact hσ)
          exact h
      rw [ordF, hg, hlw]
      by_cases hgn : g = .nil
      · subst hgn
        rw [ordF, List.append_nil]
        exact item ρ (hρ n (Nat.le_refl _) (by omega))
      · have hgp := NEF.pos hgn hN
        refine Rd.app (j1 := n + 1) ?_ ?_
        · have h := item (fun q => nextR q (ordF g (n + 1) (p + 1) rr dd r t) ρ) (by
            rw [nextR_none (fun x hx => by have := ordF_leaf g _ _ _ _ _ _ x hx; omega)]
            exact hρ n (Nat.le_refl _) (by omega))
          have hn : aft T n ρ0 = n + 1 := aft_next (by
            have hTl : T.length = A.length + (1 + (lwF [] g 0).length) + B.length := by rw [hT3]; simp [trl_len]; omega
            have h1 := getD_mid (A := A) (Q := [P ++ rep1 f i]) (B := trl g (i + 1) P ++ B) (j := n) (by omega) (by simp; omega)
            rw [← hT2] at h1
            have h2 := getD_mid (A := A ++ [P ++ rep1 f i]) (Q := trl g (i + 1) P) (B := B) (j := n + 1) (by simp; omega) (by simp [trl_len]; omega)
            rw [← hT3] at h2
            obtain ⟨s2, hs2, -⟩ := trl_mem g (i + 1) P _ h2
            have := cmn_pre (T := T) (P := P) (i := n) (j := n + 1) (by omega) (by omega) ⟨rep1 f i, by simpa using h1⟩ ⟨s2, hs2⟩
            push_cast at this
            omega)
          rw [hn] at h
          exact h
        · have h := rd_fo g (i + 1) (n + 1) (p + 1) rr dd r P (A ++ [P ++ rep1 f i]) B T t ρ0 ρ hgn hN hT3 (by simp; omega) hP (fun x hx => by
            rcases hx with hx | hx
            · rcases List.mem_append.1 hx with hx | hx
              · exact fun a s h1 h2 => hO x (.inl hx) a s (by omega) (by omega)
              · simp at hx
                exact out_of hx (a := i) (b := i + 1) (fun c hc => by have := rep1_mem hc; omega) (.inr (Nat.le_refl _))
            · exact fun a s h1 h2 => hO x (.inr hx) a s (by omega) (by omega)) (by rw [hd2]; exact f3) (fun y hy => hr y (by simp [Fo.flat, hy])) hρ0 (fun j a b => hρ j (by omega) (by omega))
          rw [show n + (1 + (lwF [] g 0).length) - 1 = n + 1 + (lwF [] g 0).length - 1 by omega]
          exact h
  | .group f k g, i, n, p, rr, dd, r, P, A, B, T, t, ρ0, ρ, _, ⟨n1, n2, n3⟩, hT, hA, hP, hO, hf, hr, hρ0, hρ => by
    have hrf := hr f (by simp [Fo.flat])
    have hlw := lw_group f k g
    have hkp := NEF.pos n1 n2
    rw [hlw] at hρ
    cases hd : t.k.drop p with
    | nil => rw [hd] at hf; exact hf.elim
    | cons M ks =>
      rw [hd] at hf
      obtain ⟨f1, f2, f3⟩ := hf
      have hx : t.k[p]? = some M := by have h := congrArg (·[0]?) hd; simpa using h
      have hg : t.k.getD p [] = M := by rw [List.getD, hx]; rfl
      have hd2 : t.k.drop (p + 1) = ks := by rw [← List.drop_drop, hd]; rfl
      have htt := times_le14 hrf f1
      have hfl : (Fo.group f k g).flat.length = 1 + k.flat.length + g.flat.length := by simp [Fo.flat]; omega
      rw [hfl] at hO
      have hT2 : T = A ++ trl k (i + 1) (P ++ rep1 f i) ++ (trl g (i + 1 + k.flat.length) P ++ B) := by rw [hT, trl]; simp
      have hT3 : T = (A ++ trl k (i + 1) (P ++ rep1 f i)) ++ trl g (i + 1 + k.flat.length) P ++ B := by rw [hT, trl]; simp
      have hkm : ∀ x ∈ trl k (i + 1) (P ++ rep1 f i), ∃ s, x = P ++ s ∧ ∀ c ∈ s, i ≤ c ∧ c < i + 1 + k.flat.length := fun x hx => by
        obtain ⟨s, h1, h2⟩ := trl_mem k (i + 1) _ x hx
        refine ⟨rep1 f i ++ s, by rw [h1, List.append_assoc], fun c hc => ?_⟩
        rcases List.mem_append.1 hc with hc | hc
        · have := rep1_mem hc; omega
        · have := h2 c hc; omega
      have hnx : ∀ j, n ≤ j → j + 1 < n + ((lwF [] k 0).length + (lwF [] g 0).length) → aft T j ρ0 = j + 1 := fun j a b => aft_next (by
        have hTl : T.length = A.length + ((lwF [] k 0).length + (lwF [] g 0).length) + B.length := by rw [hT3]; simp [trl_len]; omega
        have hpre : ∀ q, n ≤ q → q < n + ((lwF [] k 0).length + (lwF [] g 0).length) → ∃ s, T.getD q [] = P ++ s := fun q a b => by
          by_cases e : q < n + (lwF [] k 0).length
          · have h1 := getD_mid (A := A) (Q := trl k (i + 1) (P ++ rep1 f i)) (B := trl g (i + 1 + k.flat.length) P ++ B) (j := q) (by omega) (by rw [trl_len]; omega)
            rw [← hT2] at h1
            obtain ⟨s, h2, -⟩ := hkm _ h1
            exact ⟨s, h2⟩
          · have h1 := getD_mid (A := A ++ trl k (i + 1) (P ++ rep1 f i)) (Q := trl g (i + 1 + k.flat.length) P) (B := B) (j := q) (by simp [trl_len]; omega) (by simp [trl_len]; omega)
            rw [← hT3] at h1
            obtain ⟨s, h2, -⟩ := trl_mem g _ P _ h1
            exact ⟨s, h2⟩
        have := cmn_pre (T := T) (P := P) (i := j) (j := j + 1) (by omega) (by omega) (hpre j a (by omega)) (hpre (j + 1) (by omega) b)
        push_cast at this
        omega)
      have item : ∀ σ : Nat → Nat, (∀ j, n ≤ j → j < n + (lwF [] k 0).length → σ j = ρ0) → Rd (aft T) σ n (if M = [] then (List.range (lwF [] k 0).length).map (fun j => (n + j, ⟨r, dd, t⟩)) else listO (fun r' y => ordF k n 0 (if f.r = 2 then rr + 1 else rr) (if f.r = 0 then dd else dd + 1) r' y) (if f.r = 2 then rr + 1 else rr) r M) (aft T (n + (lwF [] k 0).length - 1) ρ0) := fun σ hσ => by
        by_cases hM : M = []
        · rw [if_pos hM]
          exact rd_range _ hkp (fun j a b => hnx j a (by omega)) hσ
        · rw [if_neg hM]
          refine rd_list M r ρ0 σ hM (by split <;> omega) ?_ ?_ ?_ hσ
          · by_cases h2 : f.r = 2
            · right
              rw [if_pos h2]
              have hb := aft_back hT2 (fun e => by have := congrArg List.length e; rw [trl_len, List.length_nil] at this; omega) (P := P ++ [i]) (fun x hx => by
                obtain ⟨s, h1, -⟩ := trl_mem k (i + 1) _ x hx
                exact ⟨s, by rw [h1]; unfold rep1; rw [if_pos h2]⟩) (fun x hx s e => by
                rw [List.append_assoc] at e
                rcases hx with hx | hx
                · exact hO x (.inl hx) i s (Nat.le_refl _) (by omega) e
                · rcases List.mem_append.1 hx with hx | hx
                  · obtain ⟨s', h1, h2⟩ := trl_mem g _ P x hx
                    rw [h1] at e
                    have e2 := List.append_cancel_left e
                    have := h2 i (by rw [e2]; simp)
                    omega
                  · exact hO x (.inr hx) i s (Nat.le_refl _) (by omega) e) (by simp)
              rw [hA, trl_len] at hb
              simp only [List.length_append, List.length_cons, List.length_nil, hP] at hb
              exact hb
            · left; omega
          · intro q hq τ hτ r' y hy
            refine rd_fo k (i + 1) n 0 _ _ r' (P ++ rep1 f i) A (trl g (i + 1 + k.flat.length) P ++ B) T y q τ n1 n2 hT2 hA ?_ ?_ (by rw [List.drop_zero]; exact (f2 y hy).2.2) (fun z hz => hr z (by simp [Fo.flat, hz])) hq hτ
            · unfold rep1
              split <;> simp [hP]
            · intro x hx
              have hout : Out P i (i + (1 + k.flat.length + g.flat.length)) x ∨ ∃ s, x = P ++ s ∧ ∀ c ∈ s, i + 1 + k.flat.length ≤ c ∧ c < i + 1 + k.flat.length + g.flat.length := by
                rcases hx with hx | hx
                · exact .inl (hO x (.inl hx))
                · rcases List.mem_append.1 hx with hx | hx
                  · obtain ⟨s', h1, h2⟩ := trl_mem g _ P x hx
                    exact .inr ⟨s', h1, h2⟩
                  · exact .inl (hO x (.inr hx))
              intro a s h1 h2 e
              by_cases h3 : f.r = 2
              · have e' : x = P ++ i :: (a :: s) := by rw [e]; unfold rep1; rw [if_pos h3]; simp
                rcases hout with h | ⟨s', h4, h5⟩
                · exact h i _ (Nat.le_refl _) (by omega) e'
                · rw [h4] at e'
                  have e2 := List.append_cancel_left e'
                  have := h5 i (by rw [e2]; simp)
                  omega
              · have e' : x = P ++ a :: s := by rw [e]; unfold rep1; rw [if_neg h3]; simp
                rcases hout with h | ⟨s', h4, h5⟩
                · exact h a _ (by omega) (by omega) e'
                · rw [h4] at e'
                  have e2 := List.append_cancel_left e'
                  have := h5 a (by rw [e2]; simp)
                  omega
          · intro j a b r' y hy τ
            exact ordF_first k n 0 _ _ r' y j τ n2 (by rw [List.drop_zero]; exact (f2 y hy).2.2) a b
      rw [ordF, hg, hlw]
      by_cases hgn : g = .nil
      · subst hgn
        have h0 : (lwF [] Fo.nil 0).length = 0 := rfl
        rw [ordF, List.append_nil, h0, Nat.add_zero]
        exact item ρ (fun j a b => hρ j a (by omega))
      · have hgp := NEF.pos hgn n3
        refine Rd.app (j1 := n + (lwF [] k 0).length) ?_ ?_
        · have h := item (fun q => nextR q (ordF g (n + (lwF [] k 0).length) (p + 1) rr dd r t) ρ) (fun j a b => by
            rw [nextR_none (fun x hx => by have := ordF_leaf g _ _ _ _ _ _ x hx; omega)]
            exact hρ j a (by omega))
          rw [hnx (n + (lwF [] k 0).length - 1) (by omega) (by omega), show n + (lwF [] k 0).length - 1 + 1 = n + (lwF [] k 0).length by omega] at h
          exact h
        · have h := rd_fo g (i + 1 + k.flat.length) (n + (lwF [] k 0).length) (p + 1) rr dd r P (A ++ trl k (i + 1) (P ++ rep1 f i)) B T t ρ0 ρ hgn n3 hT3 (by simp [trl_len]; omega) hP (fun x hx => by
            rcases hx with hx | hx
            · rcases List.mem_append.1 hx with hx | hx
              · exact fun a s h1 h2 => hO x (.inl hx) a s (by omega) (by omega)
              · obtain ⟨s, h1, h2⟩ := hkm x hx
                exact out_of h1 h2 (.inr (Nat.le_refl _))
            · exact fun a s h1 h2 => hO x (.inr hx) a s (by omega) (by omega)) (by rw [hd2]; exact f3) (fun y hy => hr y (by simp [Fo.flat, hy])) hρ0 (fun j a b => hρ j (by omega) (by omega))
          rw [show n + ((lwF [] k 0).length + (lwF [] g 0).length) - 1 = n + (lwF [] k 0).length + (lwF [] g 0).length - 1 by omega]
          exact h

end Go.Proofs.Ytfdmbpfpdijpdaa

namespace Go.Proofs.Ytfdmbpfpdijpdaa
open Go.RowKit
set_option linter.unusedVariables false
set_option linter.unusedSimpArgs false

theorem nef_of : ∀ (fo : Fo), fo.wf → (∀ f ∈ fo.flat, f.k = 0 → 1 ≤ f.c) → NEF fo
  | .nil, _, _ => trivial
  | .leaf f g, ⟨_, _, h3⟩, h => nef_of g h3 (fun y hy => h y (by simp [Fo.flat, hy]))
  | .group f k g, ⟨h1, h2, h3, h4⟩, h => by
    refine ⟨fun e => ?_, nef_of k h3 (fun y hy => h y (by simp [Fo.flat, hy])), nef_of g h4 (fun y hy => h y (by simp [Fo.flat, hy]))⟩
    have hc := h f (by simp [Fo.flat]) h1
    rw [h2, e] at hc
    simp [Fo.num] at hc

theorem chk_have {l : List F} (h : chk l = 0) : ∀ f ∈ l, f.k = 0 → 1 ≤ f.c := by
  intro f hf hk
  obtain ⟨i, hi⟩ := List.mem_iff_getElem?.1 hf
  have hil := (List.getElem?_eq_some_iff.1 hi).1
  have h1 := chk_good h i hil
  have hg : l.getD i default = f := by rw [List.getD, hi]; rfl
  unfold faultN at h1
  split at h1
  · cases h1
  · split at h1
    · cases h1
    · split at h1
      · cases h1
      · split at h1
        · cases h1
        · split at h1
          · cases h1
          · rename_i h3
            have h2 : haveB (l.getD i default) = true := by cases hx : haveB (l.getD i default) <;> simp_all
            rw [hg] at h2
            unfold haveB at h2
            rw [if_pos hk, decide_eq_true_iff] at h2
            exact h2

/-- What a made schema's forest is good for. -/
structure MF (l : List F) (r0 : F) (fo : Fo) : Prop where
  eq : l = r0 :: fo.flat
  k : r0.k = 0
  r : r0.r = 0
  c : r0.c = fo.num
  wf : fo.wf
  ne : fo ≠ .nil
  nef : NEF fo
  fr : ∀ f ∈ fo.flat, 0 ≤ f.r ∧ f.r ≤ 2
  pos : 0 < (leavesL l).length
  lw : (lwF [] fo 0).length = (leavesL l).length

theorem mk_mf (ns : List Int) : ∃ r0 fo, MF (mk ns) r0 fo := by
  obtain ⟨r0, fo, m1, m2, m3, m4, m5⟩ := mk_wf ns
  have hh := chk_have (mk_chk ns)
  have hne : fo ≠ .nil := fun e => by
    have := hh r0 (by rw [m1]; simp) m2
    rw [m3, e] at this
    simp [Fo.num] at this
  have hnef := nef_of fo m4 (fun f hf => hh f (by rw [m1]; simp [hf]))
  have hlw : (lwF [] fo 0).length = (leavesL (mk ns)).length := by rw [← lways_root m1 m2 m3 m4, lways_len]
  exact ⟨r0, fo, m1, m2, m5, m3, m4, hne, hnef, fun f hf => by
    obtain ⟨j, hj⟩ := List.mem_iff_getElem?.1 (show f ∈ mk ns by rw [m1]; simp [hf])
    have := (mk_fields ns j f hj).1
    omega, by have := NEF.pos hne hnef; omega, hlw⟩

theorem made_fit {ns : List Int} {r0 : F} {fo : Fo} (h : MF (mk ns) r0 fo) {t : Tr} (ht : ∃ rs, t = mk8 (mk ns) rs) : fitF fo t.k := by
  obtain ⟨rs, rfl⟩ := ht
  obtain ⟨hv, -⟩ := mk8_fits rs (mk_chk ns)
  obtain ⟨-, hk0, hHK⟩ := hasK_root h.eq h.k h.c h.wf
  have hg0 : ((mk ns).getD 0 default).k = 0 := by rw [h.eq]; exact h.k
  rw [fitV_group hg0, hk0] at hv
  split at hv
  · contradiction
  rename_i h7
  rw [tops_len] at h7
  have h8 : (mk8 (mk ns) rs).k.length = fo.num := Decidable.byContradiction fun e => h7 (.inr (.inr e))
  exact fitF_of (mk ns) fo 1 (mk8 (mk ns) rs).k hHK h.wf hv h8

theorem made_at (ns : List Int) {t : Tr} (ht : ∃ rs, t = mk8 (mk ns) rs) (p : Nat) : (atC (lways (mk ns)) 0 0 0 0 t p).length ≤ 243 := by
  obtain ⟨rs, rfl⟩ := ht
  unfold atC
  rw [if_pos (Nat.zero_le _), Nat.sub_zero]
  cases hW : (lways (mk ns))[p]? with
  | none => simp
  | some W =>
    have hs := lways_short ns W (List.mem_of_getElem? hW)
    exact Nat.le_trans (cells_ok3 W W.length 0 0 0 _ (Nat.le_refl _) (mk8_ok3 (mk ns) rs W.length)).1 (Nat.le_trans (Nat.pow_le_pow_right (by decide) hs) (by decide))

/-- The reference's Columns of such records. -/
theorem rcolumns_made (sv lv : Value) (ns : List Int) (L0 : List Tr) (d : Nat) (w : World) (hS : SeenF w sv (mk ns)) (hL : ListAt w d L0 lv) (hLm : ∀ t ∈ L0, ∃ rs, t = mk8 (mk ns) rs) (hm : L0.length ≤ 16) :
    Calls Try.prog 18 #[sv, lv] w fun e w' => ∃ cb cc w1, e = .returned (.tuple #[.slice (some ⟨cb, 0, none⟩) (leavesL (mk ns)).length cc, .int .i64 0]) ∧ Chg [] w w' ∧ (leavesL (mk ns)).length ≤ cc ∧ cc ≤ maxLen ∧ w.heap.size ≤ cb ∧ CS w1 cb (leavesL (mk ns)).length (leavesL (mk ns)) (colA (mk ns) L0) w' ∧ w.heap.size ≤ w1.heap.size := by
  obtain ⟨r0, fo, h⟩ := mk_mf ns
  obtain ⟨q1, q2⟩ := made_cols ns L0 hLm hm
  have hmk := mk_ok ns
  refine (rcolumns14_any sv lv (mk ns) L0 d w hS hL (mk_chk ns) h.eq h.k h.r h.c h.wf (fun f hf => by have := hmk.c f hf; omega) h.pos (fun t ht _ p => Nat.le_trans (made_at ns (hLm t ht) p) (by decide))).mono ?_
  rintro e w' ⟨hk, hh⟩
  have hfl : fitL (mk ns) 0 L0 = 0 := by
    have := q1
    unfold faultT orE at this
    rw [mk_chk] at this
    simpa using this
  rw [if_neg (by omega), if_neg (by rw [hfl]; simp), if_pos (fun p hp => by
    obtain ⟨W, hW⟩ : ∃ W, (lways (mk ns))[p]? = some W := ⟨_, List.getElem?_eq_getElem (by rw [lways_len]; exact hp)⟩
    rw [colA_col hW]
    exact (q2 W (List.mem_of_getElem? hW)).2.2)] at hh
  obtain ⟨cb, cc, w1, rfl, h1, h2, h3, h4, h5⟩ := hh
  exact ⟨cb, cc, w1, rfl, hk, h1, h2, h3, h4, h5⟩

/-! ### a record, read -/

def ordR (fo : Fo) (t : Tr) : List NC2 := ordF fo 0 0 0 0 0 t

theorem rd_rec {ns : List Int} {r0 : F} {fo : Fo} (h : MF (mk ns) r0 fo) {t : Tr} (ht : ∃ rs, t = mk8 (mk ns) rs) : Rd (aft (trs (mk ns))) (fun _ => 0) 0 (ordR fo t) (leavesL (mk ns)).length := by
  have hT := trs_root h.eq h.k h.r h.c h.wf
  have hf := made_fit h ht
  have hlw := h.lw
  have hp := h.pos
  have hr := rd_fo fo 1 0 0 0 0 0 [] [] [] (trs (mk ns)) t 0 (fun _ => 0) h.ne h.nef (by rw [hT]; simp) rfl rfl (by simp) (by rw [List.drop_zero]; exact hf) h.fr (Nat.le_refl _) (fun _ _ _ => rfl)
  rw [aft_zero, hlw, Nat.zero_add, show (leavesL (mk ns)).length - 1 + 1 = (leavesL (mk ns)).length by omega] at hr
  exact hr

theorem ord_cells {ns : List Int} {r0 : F} {fo : Fo} (h : MF (mk ns) r0 fo) {t : Tr} (ht : ∃ rs, t = mk8 (mk ns) rs) (j : Nat) : ((ordR fo t).filter fun x => x.1 == j).map (·.2) = atC (lways (mk ns)) 0 0 0 0 t j := by
  rw [lways_root h.eq h.k h.c h.wf]
  exact ordF_cells fo 0 0 0 0 0 t j (by rw [List.drop_zero]; exact made_fit h ht) h.fr

theorem ord_lt {ns : List Int} {r0 : F} {fo : Fo} (h : MF (mk ns) r0 fo) {t : Tr} : ∀ x ∈ ordR fo t, x.1 < (leavesL (mk ns)).length := fun x hx => by
  have := ordF_leaf fo 0 0 0 0 0 t x hx
  rw [h.lw] at this
  omega

theorem len_split (p : NC2 → Bool) : ∀ O : List NC2, O.length = (O.filter p).length + (O.filter fun x => !p x).length
  | [] => rfl
  | x :: O => by
    have ih := len_split p O
    cases h : p x
    · rw [List.filter_cons_of_neg (by simp [h]), List.filter_cons_of_pos (by simp [h]), List.length_cons, List.length_cons]; omega
    · rw [List.filter_cons_of_pos (by simp [h]), List.filter_cons_of_neg (by simp [h]), List.length_cons, List.length_cons]; omega

theorem len_filters {c : Nat} : ∀ (N : Nat) (O : List NC2), (∀ x ∈ O, x.1 < N) → (∀ j, (O.filter fun x => x.1 == j).length ≤ c) → O.length ≤ N * c
  | 0, O, h, _ => by
    cases O with
    | nil => simp
    | cons x O => have := h x (by simp); omega
  | N + 1, O, h, hc => by
    have h1 := len_split (fun x => x.1 == N) O
    have h2 := hc N
    have h3 := len_filters N (O.filter fun x => !(x.1 == N)) (fun x hx => by
      obtain ⟨a, b⟩ := List.mem_filter.1 hx
      have := h x a
      simp at b
      omega) (fun j => Nat.le_trans (List.Sublist.filter (fun x : NC2 => x.1 == j) List.filter_sublist).length_le (hc j))
    rw [Nat.succ_mul]
    omega

theorem ord_len {ns : List Int} {r0 : F} {fo : Fo} (h : MF (mk ns) r0 fo) {t : Tr} (ht : ∃ rs, t = mk8 (mk ns) rs) : (ordR fo t).length ≤ 4000 := by
  have h1 := len_filters (c := 243) (leavesL (mk ns)).length (ordR fo t) (ord_lt h) (fun j => by
    have := congrArg List.length (ord_cells h ht j)
    rw [List.length_map] at this
    rw [this]
    exact made_at ns ht j)
  have h2 := leavesTo_le (mk ns) (mk ns).length
  have h3 := (mk_ok ns).le
  have h4 : (leavesL (mk ns)).length ≤ 14 := by unfold leavesL; omega
  have h5 : (leavesL (mk ns)).length * 243 ≤ 14 * 243 := Nat.mul_le_mul_right _ h4
  omega

theorem nextR_head (j : Nat) (O : List NC2) : nextR j O (fun _ => 0) = match ((O.filter fun x => x.1 == j).map (·.2)) with | [] => 0 | c :: _ => c.r := by
  induction O with
  | nil => rfl
  | cons x O ih =>
    by_cases h : x.1 = j
    · rw [nextR_cons_eq h, List.filter_cons_of_pos (by simpa using h)]; rfl
    · rw [nextR_cons_ne h, List.filter_cons_of_neg (by simpa using h)]; exact ih

/-- The column, where one reads in it. -/
theorem col_split {ns : List Int} {r0 : F} {fo : Fo} (h : MF (mk ns) r0 fo) {TS : List Tr} (hTS : ∀ t ∈ TS, ∃ rs, t = mk8 (mk ns) rs) {i j : Nat} {t : Tr} (ht : TS[i]? = some t) {Pre Rest : List NC2} {c : Cl} (hO : ordR fo t = Pre ++ (j, c) :: Rest) (hj : j < (leavesL (mk ns)).length) :
    ∃ R, colA (mk ns) TS j = colA (mk ns) (TS.take i) j ++ ((Pre.filter fun x => x.1 == j).map (·.2)) ++ c :: R ∧ (match R with | [] => 0 | c :: _ => c.r) = nextR j Rest (fun _ => 0) := by
  have hc := ord_cells h (hTS t (List.mem_of_getElem? ht)) j
  rw [hO, List.filter_append, List.map_append, List.filter_cons_of_pos (by simp), List.map_cons] at hc
  obtain ⟨hlt, he⟩ := List.getElem?_eq_some_iff.1 ht
  have hd : TS = TS.take i ++ t :: TS.drop (i + 1) := by
    conv => lhs; rw [← List.take_append_drop i TS, List.drop_eq_getElem_cons hlt, he]
  have hcol : colA (mk ns) TS j = colA (mk ns) (TS.take i) j ++ (atC (lways (mk ns)) 0 0 0 0 t j ++ colA (mk ns) (TS.drop (i + 1)) j) := by
    conv => lhs; rw [hd]
    unfold colA
    rw [List.flatMap_append, List.flatMap_cons]
  refine ⟨((Rest.filter fun x => x.1 == j).map (·.2)) ++ colA (mk ns) (TS.drop (i + 1)) j, ?_, ?_⟩
  · rw [hcol, ← hc]; simp
  · rw [nextR_head]
    cases hq : (Rest.filter fun x => x.1 == j).map (·.2) with
    | cons x X => rfl
    | nil =>
      rw [List.nil_append]
      cases hr : TS.drop (i + 1) with
      | nil => rfl
      | cons u U =>
        obtain ⟨W, hW⟩ : ∃ W, (lways (mk ns))[j]? = some W := ⟨_, List.getElem?_eq_getElem (by rw [lways_len]; exact hj)⟩
        rw [colA_col hW]
        obtain ⟨a, b, h1, h2⟩ := col_first W u U
        rw [h1]
        exact h2

/-- No cell is further repeated than its leaf. -/
theorem col_trs (ns : List Int) {TS : List Tr} {j : Nat} (hj : j < (leavesL (mk ns)).length) : ∀ x ∈ colA (mk ns) TS j, x.r ≤ ((trs (mk ns)).getD j []).length := by
  intro x hx
  obtain ⟨W, hW⟩ : ∃ W, (lways (mk ns))[j]? = some W := ⟨_, List.getElem?_eq_getElem (by rw [lways_len]; exact hj)⟩
  obtain ⟨lf, hlf⟩ : ∃ lf, (leavesL (mk ns))[j]? = some lf := ⟨_, List.getElem?_eq_getElem hj⟩
  rw [colA_col hW] at hx
  unfold colC at hx
  obtain ⟨t, -, hx⟩ := List.mem_flatMap.1 hx
  have h1 := (cells_levels W 0 0 0 t (Nat.le_refl _) x hx).1
  have h2 := (leaf_levels ns hlf hW).1
  have h3 := (leaf_trs hlf).1
  omega

end Go.Proofs.Ytfdmbpfpdijpdaa
