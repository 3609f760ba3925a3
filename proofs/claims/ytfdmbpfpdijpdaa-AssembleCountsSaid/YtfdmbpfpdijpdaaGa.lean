/- Trails: the repeated fields on the way to a field, as lists; how far two of them go together; which leaf is read next. -/
import Derived.Test.YtfdmbpfpdijpdaaA5
namespace Go.Proofs.Ytfdmbpfpdijpdaa
open Go.RowKit
set_option linter.unusedVariables false

def trL (b : Nat → Bool) (ps : List Int) : List (List Nat) :=
  ps.foldl (fun acc p => acc ++ [(if p = -1 then [] else acc.getD p.toNat []) ++ (if b acc.length then [acc.length] else [])]) []

theorem trL_snoc (b : Nat → Bool) (ps : List Int) (p : Int) : trL b (ps ++ [p]) = trL b ps ++ [(if p = -1 then [] else (trL b ps).getD p.toNat []) ++ (if b (trL b ps).length then [(trL b ps).length] else [])] := by
  simp [trL, List.foldl_append]

@[simp] theorem trL_length (b : Nat → Bool) (ps : List Int) : (trL b ps).length = ps.length := by
  refine snoc_ind (p := fun ps => (trL b ps).length = ps.length) rfl (fun ps p ih => ?_) ps
  rw [trL_snoc]
  simp [ih]

theorem trL_take (b : Nat → Bool) (ps : List Int) (i : Nat) (x : Int) (h : ps[i]? = some x) : trL b (ps.take (i + 1)) = trL b (ps.take i) ++ [(if x = -1 then [] else (trL b (ps.take i)).getD x.toNat []) ++ (if b i then [i] else [])] := by
  have hi : i < ps.length := (List.getElem?_eq_some_iff.1 h).1
  rw [List.take_add_one, h]
  simp only [Option.toList]
  rw [trL_snoc, trL_length, List.length_take, Nat.min_eq_left (by omega)]

theorem trL_pre (b : Nat → Bool) (ps : List Int) (n : Nat) (hn : n ≤ ps.length) (j : Nat) (hj : j < n) : (trL b ps).getD j [] = (trL b (ps.take n)).getD j [] := by
  have e : ∀ m, n ≤ m → m ≤ ps.length → ∃ t, trL b (ps.take m) = trL b (ps.take n) ++ t := by
    intro m hm
    induction m with
    | zero => intro _; exact ⟨[], by rw [show n = 0 by omega]; simp⟩
    | succ m ih =>
      intro hml
      by_cases hnm : n = m + 1
      · exact ⟨[], by rw [hnm]; simp⟩
      · obtain ⟨t, ht⟩ := ih (by omega) (by omega)
        rw [trL_take b ps m _ (List.getElem?_eq_getElem (by omega)), ht]
        exact ⟨_, List.append_assoc _ _ _⟩
  obtain ⟨t, ht⟩ := e ps.length hn (Nat.le_refl _)
  rw [List.take_length] at ht
  rw [ht, List.getD, List.getD, List.getElem?_append_left (by simp; omega)]

theorem trL_at (b : Nat → Bool) (ps : List Int) (i : Nat) (hi : i < ps.length) (hp : ∀ (j : Nat) (x : Int), ps[j]? = some x → x = -1 ∨ 0 ≤ x ∧ x < j) :
    (trL b ps).getD i [] = (if ps.getD i 0 = -1 then [] else (trL b ps).getD (ps.getD i 0).toNat []) ++ (if b i then [i] else []) := by
  have hx : ps[i]? = some (ps.getD i 0) := by rw [List.getD, List.getElem?_eq_getElem hi]; rfl
  rw [trL_pre b ps (i + 1) hi i (by omega), trL_take b ps i _ hx]
  have hl : (trL b (ps.take i)).length = i := by simp; omega
  have e1 : ∀ v : List Nat, (trL b (ps.take i) ++ [v]).getD i [] = v := by
    intro v
    rw [List.getD, List.getElem?_append_right (by omega), hl, Nat.sub_self]
    rfl
  rw [e1]
  by_cases h1 : ps.getD i 0 = -1
  · rw [if_pos h1, if_pos h1]
  · rw [if_neg h1, if_neg h1, trL_pre b ps i (by omega) _ (by have := hp i _ hx; omega)]

theorem trL_cnt (b : Nat → Bool) (ps : List Int) : (trL b ps).map (fun t => (t.length : Int)) = cntL b ps := by
  refine snoc_ind (p := fun ps => (trL b ps).map (fun t => (t.length : Int)) = cntL b ps) rfl (fun ps p ih => ?_) ps
  rw [trL_snoc, cntL_snoc, List.map_append, ih]
  congr 1
  have hl : (trL b ps).length = (cntL b ps).length := by simp
  have hg : ∀ k, (((trL b ps).getD k []).length : Int) = (cntL b ps).getD k 0 := by
    intro k
    rw [← ih]
    simp only [List.getD, List.getElem?_map]
    cases (trL b ps)[k]? <;> rfl
  rw [hl]
  simp only [List.map_cons, List.map_nil, List.length_append]
  congr 1
  have h1 := hg p.toNat
  simp only [List.getD] at h1
  split <;> split <;> simp [h1]

/-! ### of a schema -/

def trF (l : List F) (k : Nat) : List Nat := (trL (repB l) (parents l)).getD k []

theorem trF_len (l : List F) (k : Nat) : ((trF l k).length : Int) = (rls l).getD k 0 := by
  unfold trF rls
  rw [← trL_cnt]
  simp only [List.getD, List.getElem?_map]
  cases (trL (repB l) (parents l))[k]? <;> rfl

theorem trF_at (l : List F) (k : Nat) (hk : k < l.length) : trF l k = (if (parents l).getD k 0 = -1 then [] else trF l ((parents l).getD k 0).toNat) ++ (if repB l k then [k] else []) :=
  trL_at (repB l) (parents l) k (by simpa using hk) fun j x => parents_lt

/-- What stands in a trail: its own trail is the front. -/
theorem trF_mem (l : List F) : ∀ (n k : Nat), k < n → k < l.length → (∀ a ∈ trF l k, a ≤ k ∧ repB l a = true ∧ (∃ s, trF l a = s ++ [a]) ∧ ∃ r, trF l k = trF l a ++ r) ∧ (trF l k).Nodup := by
  intro n
  induction n with
  | zero => intro k h; omega
  | succ n ih =>
    intro k hkn hk
    have hat := trF_at l k hk
    have hx : (parents l)[k]? = some ((parents l).getD k 0) := by rw [List.getD, List.getElem?_eq_getElem (by simpa using hk)]; rfl
    obtain ⟨P, hP⟩ : ∃ P, P = (if (parents l).getD k 0 = -1 then [] else trF l ((parents l).getD k 0).toNat) := ⟨_, rfl⟩
    rw [← hP] at hat
    have key : (∀ a ∈ P, a < k ∧ repB l a = true ∧ (∃ s, trF l a = s ++ [a]) ∧ ∃ r, P = trF l a ++ r) ∧ P.Nodup := by
      by_cases h1 : (parents l).getD k 0 = -1
      · rw [if_pos h1] at hP; rw [hP]; simp
      · rw [if_neg h1] at hP
        have hlt := parents_lt hx
        obtain ⟨h2, h3⟩ := ih ((parents l).getD k 0).toNat (by omega) (by omega)
        rw [hP]
        exact ⟨fun a ha => by obtain ⟨q1, q2, q3, q4⟩ := h2 a ha; exact ⟨by omega, q2, q3, q4⟩, h3⟩
    obtain ⟨k1, k2⟩ := key
    constructor
    · intro a ha
      rw [hat] at ha
      rcases List.mem_append.1 ha with h1 | h1
      · obtain ⟨q1, q2, q3, r, q4⟩ := k1 a h1
        exact ⟨by omega, q2, q3, r ++ (if repB l k then [k] else []), by rw [hat, q4, List.append_assoc]⟩
      · by_cases hb : repB l k = true
        · rw [if_pos hb] at h1
          simp at h1
          subst h1
          rw [if_pos hb] at hat
          exact ⟨Nat.le_refl _, hb, ⟨P, hat⟩, [], by simp⟩
        · rw [if_neg hb] at h1; simp at h1
    · rw [hat]
      by_cases hb : repB l k = true
      · rw [if_pos hb]
        refine List.nodup_append.2 ⟨k2, by simp, ?_⟩
        intro a ha b hb'
        simp at hb'
        have := (k1 a ha).1
        omega
      · rw [if_neg hb, List.append_nil]; exact k2

/-! ### how far two go together -/

def cpl : List Nat → List Nat → Nat
  | a :: s, b :: t => if a = b then cpl s t + 1 else 0
  | _, _ => 0

theorem cpl_self : ∀ s : List Nat, cpl s s = s.length
  | [] => rfl
  | a :: s => by simp [cpl, cpl_self s]

theorem cpl_comm : ∀ s t : List Nat, cpl s t = cpl t s
  | [], [] => rfl
  | [], _ :: _ => rfl
  | _ :: _, [] => rfl
  | a :: s, b :: t => by
    simp only [cpl]
    by_cases h : a = b
    · subst h; simp [cpl_comm s t]
    · rw [if_neg h, if_neg (fun e => h e.symm)]

theorem cpl_le : ∀ s t : List Nat, cpl s t ≤ s.length
  | [], [] => Nat.le_refl _
  | [], _ :: _ => Nat.le_refl _
  | _ :: _, [] => Nat.zero_le _
  | a :: s, b :: t => by
    simp only [cpl]
    split
    · have := cpl_le s t; simp; omega
    · simp

theorem cpl_le2 (s t : List Nat) : cpl s t ≤ t.length := by rw [cpl_comm]; exact cpl_le t s

theorem cpl_step : ∀ (s t : List Nat) (n : Nat), n < cpl s t → s.getD n 0 = t.getD n 0
  | [], [], n, h => by simp [cpl] at h
  | [], _ :: _, n, h => by simp [cpl] at h
  | _ :: _, [], n, h => by simp [cpl] at h
  | a :: s, b :: t, n, h => by
    simp only [cpl] at h
    split at h
    · rename_i e
      cases n with
      | zero => simpa using e
      | succ n => simpa using cpl_step s t n (by omega)
    · omega

theorem cpl_end : ∀ (s t : List Nat), cpl s t < s.length → cpl s t < t.length → s.getD (cpl s t) 0 ≠ t.getD (cpl s t) 0
  | [], [], h, _ => by simp [cpl] at h
  | [], _ :: _, h, _ => by simp [cpl] at h
  | _ :: _, [], _, h => by simp [cpl] at h
  | a :: s, b :: t, h1, h2 => by
    by_cases e : a = b
    · have hc : cpl (a :: s) (b :: t) = cpl s t + 1 := by simp [cpl, e]
      rw [hc] at h1 h2 ⊢
      simpa using cpl_end s t (by simpa using h1) (by simpa using h2)
    · have hc : cpl (a :: s) (b :: t) = 0 := by simp [cpl, e]
      rw [hc]
      simpa using e

theorem cpl_pre : ∀ (a s t : List Nat), a.length ≤ cpl (a ++ s) (a ++ t)
  | [], s, t => Nat.zero_le _
  | x :: a, s, t => by simp [cpl]; exact cpl_pre a s t

theorem cpl_take : ∀ s t : List Nat, s.take (cpl s t) = t.take (cpl s t)
  | [], [] => rfl
  | [], _ :: _ => rfl
  | _ :: _, [] => rfl
  | a :: s, b :: t => by
    by_cases e : a = b
    · have hc : cpl (a :: s) (b :: t) = cpl s t + 1 := by simp [cpl, e]
      rw [hc, List.take_succ_cons, List.take_succ_cons, e, cpl_take s t]
    · have hc : cpl (a :: s) (b :: t) = 0 := by simp [cpl, e]
      rw [hc]; rfl

/-- The repeated fields that both are in are those with which both trails begin. -/
theorem common_cpl (l : List F) (i j : Nat) (hi : i < l.length) (hj : j < l.length) : ((trF l i).filter fun a => decide (a ∈ trF l j)).length = cpl (trF l i) (trF l j) := by
  obtain ⟨mi, ni⟩ := trF_mem l (i + 1) i (by omega) hi
  obtain ⟨mj, nj⟩ := trF_mem l (j + 1) j (by omega) hj
  obtain ⟨c, hc⟩ : ∃ c, c = cpl (trF l i) (trF l j) := ⟨_, rfl⟩
  have hci : c ≤ (trF l i).length := by rw [hc]; exact cpl_le _ _
  have htk := cpl_take (trF l i) (trF l j)
  rw [← hc] at htk
  rw [← hc]
  have hall : ((trF l i).take c).filter (fun a => decide (a ∈ trF l j)) = (trF l i).take c := by
    refine List.filter_eq_self.2 fun a ha => ?_
    rw [htk] at ha
    simpa using List.mem_of_mem_take ha
  have hnone : ((trF l i).drop c).filter (fun a => decide (a ∈ trF l j)) = [] := by
    refine List.filter_eq_nil_iff.2 fun a ha => ?_
    simp only [decide_eq_true_eq]
    intro haj
    obtain ⟨-, -, ⟨s, hs⟩, r, hr⟩ := mi a (List.mem_of_mem_drop ha)
    obtain ⟨-, -, -, r2, hr2⟩ := mj a haj
    have hle : (trF l a).length ≤ c := by
      rw [hc, hr, hr2]; exact cpl_pre _ _ _
    have h1 : a ∈ (trF l i).take c := by
      rw [hr, List.take_append, List.take_of_length_le hle]
      exact List.mem_append_left _ (by rw [hs]; simp)
    have hd : (trF l i) = (trF l i).take c ++ (trF l i).drop c := (List.take_append_drop c _).symm
    rw [hd] at ni
    exact (List.nodup_append.1 ni).2.2 a h1 a ha rfl
  rw [← List.take_append_drop c (trF l i), List.filter_append, hall, hnone, List.append_nil, List.length_take]
  omega

/-! ### of leaves; what is read next -/

def trs (l : List F) : List (List Nat) := (leavesL l).map fun x => trF l x.f.toNat
@[simp] theorem trs_length (l : List F) : (trs l).length = (leavesL l).length := by simp [trs]

def cmn (T : List (List Nat)) (i j : Int) : Nat := if (0 ≤ i ∧ i < T.length) ∧ 0 ≤ j ∧ j < T.length then cpl (T.getD i.toNat []) (T.getD j.toNat []) else 0

def fstJ (p : Nat → Bool) : Nat → Nat → Nat
  | 0, j => j
  | k + 1, j => if p j = true then j else fstJ p k (j + 1)

def aft (T : List (List Nat)) (i r : Nat) : Nat := if r ≤ cmn T (i : Int) ((i : Int) + 1) then i + 1 else fstJ (fun j => decide (r ≤ cmn T (i : Int) (j : Int))) i 0

def nxRow (T : List (List Nat)) (i : Nat) : List Nat := (List.range ((T.getD i []).length + 1)).map (aft T i)
def nextL (T : List (List Nat)) : List (List Nat) := (List.range T.length).map (nxRow T)

theorem cmn_self (T : List (List Nat)) (i : Nat) (h : i < T.length) : cmn T (i : Int) (i : Int) = (T.getD i []).length := by
  unfold cmn
  rw [if_pos (by omega)]
  exact cpl_self _

theorem cmn_comm (T : List (List Nat)) (i j : Int) : cmn T i j = cmn T j i := by
  unfold cmn
  by_cases h : (0 ≤ i ∧ i < T.length) ∧ 0 ≤ j ∧ j < T.length
  · rw [if_pos h, if_pos ⟨h.2, h.1⟩]; exact cpl_comm _ _
  · rw [if_neg h, if_neg (fun e => h ⟨e.2, e.1⟩)]

theorem cmn_le (T : List (List Nat)) (i : Nat) (j : Int) : cmn T (i : Int) j ≤ (T.getD i []).length := by
  unfold cmn
  split
  · exact cpl_le _ _
  · exact Nat.zero_le _

theorem fstJ_spec (p : Nat → Bool) : ∀ (k j : Nat), p (j + k) = true → p (fstJ p k j) = true ∧ j ≤ fstJ p k j ∧ fstJ p k j ≤ j + k ∧ ∀ q, j ≤ q → q < fstJ p k j → p q = false
  | 0, j, h => ⟨h, Nat.le_refl _, Nat.le_refl _, fun q h1 h2 => by simp [fstJ] at h2; omega⟩
  | k + 1, j, h => by
    unfold fstJ
    by_cases hp : p j = true
    · rw [if_pos hp]; exact ⟨hp, Nat.le_refl _, by omega, fun q h1 h2 => by omega⟩
    · rw [if_neg hp]
      obtain ⟨h1, h2, h3, h4⟩ := fstJ_spec p k (j + 1) (by rwa [show j + 1 + k = j + (k + 1) by omega])
      refine ⟨h1, by omega, by omega, fun q q1 q2 => ?_⟩
      by_cases e : q = j
      · subst e; simpa using hp
      · exact h4 q (by omega) q2

/-- Where one goes: to the next one, or to the first one that is repeated as far. -/
theorem aft_spec (T : List (List Nat)) (i r : Nat) (hi : i < T.length) (hr : r ≤ (T.getD i []).length) : aft T i r = i + 1 ∨ (aft T i r ≤ i ∧ r ≤ cmn T (i : Int) (aft T i r : Nat) ∧ ∀ q, q < aft T i r → cmn T (i : Int) (q : Nat) < r) := by
  unfold aft
  split
  · exact .inl rfl
  · right
    obtain ⟨h1, h2, h3, h4⟩ := fstJ_spec (fun j => decide (r ≤ cmn T (i : Int) (j : Int))) i 0 (by rw [Nat.zero_add, cmn_self T i hi]; simpa using hr)
    refine ⟨by omega, by simpa using h1, fun q hq => ?_⟩
    have := h4 q (by omega) hq
    simpa using this

theorem aft_zero (T : List (List Nat)) (i : Nat) : aft T i 0 = i + 1 := by unfold aft; rw [if_pos (Nat.zero_le _)]

end Go.Proofs.Ytfdmbpfpdijpdaa
