/- WOrder, WGroups, Qv: texts of one group, one behind the other. -/
import Derived.Test.YtkbfbiklnjldgaaQa
import Derived.Test.YtkbfbiklnjldgaaRs
import Derived.StillTailTactics
import Derived.Test.YtkbfbiklnjldgaaQu
namespace Go.Proofs.Ytkbfbiklnjldgaa
open Go.RowKit
set_option linter.unusedVariables false

theorem partTo_congr {l : List F} {κ κ2 : Nat → Bool} (h : ∀ j, j < l.length → κ j = κ2 j) : partTo l κ l.length = partTo l κ2 l.length := by
  unfold partTo
  have e1 : (List.range l.length).filter κ = (List.range l.length).filter κ2 := List.filter_congr fun j hj => h j (List.mem_range.1 hj)
  rw [e1]
  refine List.map_congr_left fun j hj => ?_
  unfold pfK cntK
  have e2 : (kidsOf l (j : Int)).filter (fun x => κ x.toNat) = (kidsOf l (j : Int)).filter (fun x => κ2 x.toNat) := List.filter_congr fun x hx => by
    obtain ⟨h0, h1⟩ := kidsOf_mem hx
    exact h x.toNat (by omega)
  rw [e2]

theorem kept_same {l : List F} {ps qs : List ByteArray} {κ κ2 : Nat → Bool} (h1 : KeptK l ps κ) (h2 : KeptK l qs κ2) (hp : ps ≠ []) (hq : qs ≠ []) (hm : ∀ p, p ∈ ps ↔ p ∈ qs) : ∀ j, j < l.length → κ j = κ2 j := by
  intro j hj
  have e : κ j = true ↔ κ2 j = true := by
    rw [h1 j hj, h2 j hj]
    constructor
    · rintro ⟨f, h3 | ⟨p, hp3, h3⟩, h4⟩
      · exact absurd h3.1 hp
      · exact ⟨f, .inr ⟨p, (hm p).1 hp3, h3⟩, h4⟩
    · rintro ⟨f, h3 | ⟨p, hp3, h3⟩, h4⟩
      · exact absurd h3.1 hq
      · exact ⟨f, .inr ⟨p, (hm p).2 hp3, h3⟩, h4⟩
  cases hx : κ j <;> cases hy : κ2 j <;> simp_all

theorem paths_ok {l : List F} (h : Good l) (h2 : 2 ≤ l.length) (ns : List Int) : ∀ p ∈ pathsL l ns, findI l p ≠ -1 := by
  intro p hp
  unfold pathsL at hp
  obtain ⟨x, -, rfl⟩ := List.mem_map.1 hp
  have h0 := Int.emod_nonneg x (show ((l.length - 1 : Nat) : Int) ≠ 0 by omega)
  have h1 := Int.emod_lt_of_pos x (show (0 : Int) < ((l.length - 1 : Nat) : Int) by omega)
  obtain ⟨k, hk⟩ : ∃ k : Nat, 1 + x % ((l.length - 1 : Nat) : Int) = (k : Int) := ⟨(1 + x % ((l.length - 1 : Nat) : Int)).toNat, by omega⟩
  rw [hk, find_path h (by omega) (by omega)]
  omega

theorem paths_small {l : List F} (hn : ∀ f ∈ l, f.n.size ≤ 1000) (hl : l.length ≤ 1000) (h2 : 2 ≤ l.length) (ns : List Int) : ∀ p ∈ pathsL l ns, p.size ≤ 9223372036854775806 := by
  intro p hp
  unfold pathsL at hp
  obtain ⟨x, -, rfl⟩ := List.mem_map.1 hp
  have h0 := Int.emod_nonneg x (show ((l.length - 1 : Nat) : Int) ≠ 0 by omega)
  have h1 := Int.emod_lt_of_pos x (show (0 : Int) < ((l.length - 1 : Nat) : Int) by omega)
  obtain ⟨k, hk⟩ : ∃ k : Nat, 1 + x % ((l.length - 1 : Nat) : Int) = (k : Int) := ⟨(1 + x % ((l.length - 1 : Nat) : Int)).toNat, by omega⟩
  rw [hk]
  unfold pathB
  rw [if_neg (by omega)]
  have h3 := join_len [46] ((namesUp l (k : Int)).reverse.map (·.data.toList)) 1000 (fun y hy => by
    obtain ⟨z, hz, rfl⟩ := List.mem_map.1 hy
    exact names_size l hn (by omega) (List.mem_reverse.1 hz))
  have h4 := namesUp_len l l.length (k : Int) (by omega) (by omega)
  rw [List.length_map, List.length_reverse] at h3
  have h5 : (namesUp l (k : Int)).length * (([46] : List UInt8).length + 1000) ≤ l.length * 1001 := Nat.mul_le_mul h4 (by simp)
  show (Lib.join _ [46]).toArray.size ≤ _
  rw [List.size_toArray]
  omega

theorem mk_two (ns : List Int) : 2 ≤ (mk ns).length := by
  have h := mk_ok ns
  have hp := h.pos
  obtain ⟨f, hf, hk⟩ := h.leaf
  obtain ⟨j, hj⟩ := List.mem_iff_getElem?.1 hf
  have hjl := (List.getElem?_eq_some_iff.1 hj).1
  by_cases h0 : j = 0
  · subst h0
    have hr := (mk_root ns).2
    rw [List.getD, hj] at hr
    simp at hr
    omega
  · omega

end Go.Proofs.Ytkbfbiklnjldgaa

namespace Go.Proofs.Ytkbfbiklnjldgaa
open Go.RowKit
set_option linter.unusedVariables false

def UpI (ps : List Int) (j : Int) (f : Nat) : Prop := ∃ m : Nat, j = (m : Int) ∧ Up ps m f

theorem upI_nat {ps : List Int} {i f : Nat} : UpI ps (i : Int) f ↔ Up ps i f :=
  ⟨fun ⟨m, h1, h2⟩ => by have e : i = m := by omega
                         rw [e]; exact h2, fun h => ⟨i, rfl, h⟩⟩

theorem upI_step {ps : List Int} {j f : Nat} {x : Int} (h : ps[j]? = some x) : UpI ps (j : Int) f ↔ ((j : Int) == (f : Int)) = true ∨ UpI ps x f := by
  rw [upI_nat, beq_iff_eq]
  constructor
  · intro h2
    cases h2 with
    | refl => exact .inl rfl
    | @step _ q _ h3 h4 =>
      rw [h] at h3
      injection h3 with h3
      exact .inr ⟨q, h3, h4⟩
  · rintro (h2 | ⟨m, rfl, h2⟩)
    · have e : j = f := by omega
      rw [e]; exact .refl f
    · exact .step h h2

theorem upI_none {ps : List Int} {f : Nat} : ¬ UpI ps (-1) f := fun ⟨m, h, _⟩ => by omega

end Go.Proofs.Ytkbfbiklnjldgaa

namespace Go.Proofs.Ytkbfbiklnjldgaa
open Go.RowKit
set_option linter.unusedVariables false

theorem par_kind_aux (F0 : List F) : ∀ (l : List F) (i : Nat) (st : List (Nat × Int)), (∀ j f, l[j]? = some f → F0[i + j]? = some f) → (∀ e ∈ st, (F0.getD e.1 default).k = 0) → ∀ (j : Nat) (x : Int), (par i l st)[j]? = some x → x = -1 ∨ ∃ p : Nat, x = (p : Int) ∧ (F0.getD p default).k = 0 := by
  intro l
  induction l with
  | nil => intro i st _ _ j x h; simp [par] at h
  | cons f l ih =>
    intro i st hF hst j x h
    rw [par] at h
    have hpop : ∀ e ∈ popS st, (F0.getD e.1 default).k = 0 := fun e he => hst e (mem_popS he)
    cases j with
    | zero =>
      simp at h
      subst h
      rcases topS_mem (st := popS st) with h1 | ⟨e, he, h1⟩
      · exact .inl h1
      · exact .inr ⟨e.1, h1, hpop e he⟩
    | succ j =>
      refine ih (i + 1) (pushS i f (decS (popS st))) (fun j g hg => ?_) (fun e he => ?_) j x (by simpa using h)
      · have := hF (j + 1) g (by simpa using hg)
        rwa [show i + 1 + j = i + (j + 1) by omega]
      · have hd : ∀ e ∈ decS (popS st), (F0.getD e.1 default).k = 0 := by
          intro e he
          obtain ⟨e2, he2, h2⟩ := mem_decS he
          rw [← h2]
          exact hpop e2 he2
        unfold pushS at he
        split at he
        · rename_i hk
          rcases List.mem_cons.1 he with rfl | he
          · have := hF 0 f rfl
            rw [Nat.add_zero] at this
            show (F0.getD i default).k = 0
            rw [List.getD, this]
            exact hk
          · exact hd e he
        · exact hd e he

/-- A field's group is a group. -/
theorem par_kind {l : List F} {k p : Nat} (h : (parents l)[k]? = some (p : Int)) : (l.getD p default).k = 0 := by
  rcases par_kind_aux l l 0 [] (fun j f hf => by rwa [Nat.zero_add]) (by simp) k p h with h1 | ⟨q, h1, h2⟩
  · omega
  · have e : p = q := by omega
    rw [e]; exact h2

theorem up_leaf {l : List F} {f j : Nat} (h : Up (parents l) j f) (hk : (l.getD f default).k ≠ 0) : j = f := by
  generalize hps : parents l = ps at h
  induction h with
  | refl i => rfl
  | @step i m j h1 h2 ih =>
    have e := ih hk
    subst e
    rw [← hps] at h1
    exact absurd (par_kind h1) hk

theorem cnt_add (j : Nat) (b : Nat → Bool) (hb : b j = false) : ∀ n, j < n → ((List.range n).filter fun k => decide (k = j) || b k).length = ((List.range n).filter b).length + 1
  | 0, h => absurd h (Nat.not_lt_zero j)
  | n + 1, h => by
    rw [List.range_succ, List.filter_append, List.filter_append, List.length_append, List.length_append]
    by_cases e : j = n
    · subst e
      have h1 : (List.range j).filter (fun k => decide (k = j) || b k) = (List.range j).filter b := List.filter_congr fun k hk => by
        have := List.mem_range.1 hk
        have h2 : ¬ k = j := by omega
        simp [h2]
      rw [h1]
      simp [hb]
    · have ih := cnt_add j b hb n (by omega)
      rw [ih]
      have h2 : ¬ n = j := fun h => e h.symm
      simp [List.filter_cons, h2]
      omega

open Classical in
/-- How many fields one passes, climbing. -/
noncomputable def cU (ps : List Int) (n : Nat) (x : Int) : Nat := ((List.range n).filter fun j => decide (UpI ps x j)).length

open Classical in
theorem cU_none (ps : List Int) (n : Nat) : cU ps n (-1) = 0 := by
  unfold cU
  rw [List.length_eq_zero_iff, List.filter_eq_nil_iff]
  intro j _
  simp [upI_none]

open Classical in
theorem cU_step {l : List F} {n j : Nat} {x : Int} (h : (parents l)[j]? = some x) (hj : j < n) : cU (parents l) n (j : Int) = cU (parents l) n x + 1 := by
  unfold cU
  have e : (List.range n).filter (fun k => decide (UpI (parents l) (j : Int) k)) = (List.range n).filter (fun k => decide (k = j) || decide (UpI (parents l) x k)) := List.filter_congr fun k _ => by
    rw [Bool.eq_iff_iff]
    simp only [decide_eq_true_iff, Bool.or_eq_true]
    rw [upI_step h]
    simp only [beq_iff_eq]
    constructor
    · rintro (h1 | h1)
      · left; omega
      · exact .inr h1
    · rintro (h1 | h1)
      · left; omega
      · exact .inr h1
  rw [e]
  refine cnt_add j _ ?_ n hj
  simp only [decide_eq_false_iff_not]
  rintro ⟨m, rfl, h2⟩
  have h3 := h2.le
  have := parents_lt h
  omega

theorem cU_le (ps : List Int) (n : Nat) (x : Int) : cU ps n x ≤ n := by
  unfold cU
  exact Nat.le_trans (List.length_filter_le _ _) (by simp)

/-- Of a leaf's path just the groups that it is in are kept. -/
theorem kept_one {l : List F} {p : ByteArray} {κ : Nat → Bool} {f : Nat} (h : KeptK l [p] κ) (hp : findI l p = (f : Int)) (hf : f < l.length) (hk : (l.getD f default).k ≠ 0) : ∀ j, j < l.length → (κ j = true ↔ UpI (parents l) (f : Int) j) := by
  intro j hj
  rw [h j hj, upI_nat]
  constructor
  · rintro ⟨g, h1 | ⟨q, hq, h1⟩, h2⟩
    · exact absurd h1.1 (by simp)
    · simp at hq
      subst hq
      rw [hp] at h1
      have e : f = g := by omega
      subst e
      rcases h2 with h2 | h2
      · rw [up_leaf ((sub_iff hj).1 h2) hk]
        exact .refl f
      · exact h2
  · intro h1
    exact ⟨f, .inr ⟨p, by simp, hp⟩, .inr h1⟩

open Classical in
theorem kept_count {l : List F} {κ : Nat → Bool} {f : Nat} (h : ∀ j, j < l.length → (κ j = true ↔ UpI (parents l) (f : Int) j)) : ((List.range l.length).filter κ).length = cU (parents l) l.length (f : Int) := by
  unfold cU
  congr 1
  exact List.filter_congr fun k hk => by
    rw [Bool.eq_iff_iff, h k (List.mem_range.1 hk)]
    simp

/-- The part ends with the leaf. -/
theorem part_last {l : List F} {κ : Nat → Bool} {f : Nat} (hf : κ f = true) : ∀ n, f < n → (∀ j, f < j → j < n → κ j = false) → partTo l κ n = partTo l κ f ++ [pfK l κ f]
  | 0, h, _ => absurd h (Nat.not_lt_zero f)
  | n + 1, h, hk => by
    rw [partTo_succ]
    by_cases e : f = n
    · subst e
      rw [hf]; rfl
    · rw [hk n (by omega) (Nat.lt_succ_self n)]
      exact part_last hf n (by omega) fun j h1 h2 => hk j h1 (by omega)

theorem leaves_count (l : List F) : ∀ n, n ≤ l.length → (leavesTo l n).length = ((l.take n).filter fun f => decide (f.k ≠ 0)).length
  | 0, _ => by simp [leavesTo]
  | n + 1, h => by
    rw [leavesTo_succ, List.length_append, leaves_count l n (by omega), List.take_add_one, List.filter_append, List.length_append]
    congr 1
    rw [List.getElem?_eq_getElem (by omega)]
    have e : l.getD n default = l[n] := by rw [List.getD, List.getElem?_eq_getElem (by omega)]; rfl
    unfold leafAt
    rw [e]
    by_cases hk : l[n].k = 0
    · simp [hk]
    · simp [hk]

theorem leaves_map {α : Type} (l : List α) (g : α → F) : ((l.map g).filter fun f => decide (f.k ≠ 0)).length = (l.filter fun j => decide ((g j).k ≠ 0)).length := by
  rw [List.filter_map, List.length_map]
  rfl

/-- One leaf is kept. -/
theorem part_leaves {l : List F} {κ : Nat → Bool} {f : Nat} (h : ∀ j, j < l.length → (κ j = true ↔ UpI (parents l) (f : Int) j)) (hf : f < l.length) (hk : (l.getD f default).k ≠ 0) : (leavesL (partTo l κ l.length)).length = 1 := by
  unfold leavesL
  rw [leaves_count _ _ (Nat.le_refl _), List.take_length]
  unfold partTo
  rw [leaves_map, List.filter_filter]
  have e : (List.range l.length).filter (fun a => decide ((pfK l κ a).k ≠ 0) && κ a) = (List.range l.length).filter (fun k => decide (k = f) || (fun _ => false) k) := List.filter_congr fun k hkm => by
    have hkl := List.mem_range.1 hkm
    rw [Bool.eq_iff_iff]
    simp only [Bool.and_eq_true, decide_eq_true_iff, Bool.or_false]
    rw [h k hkl, upI_nat]
    show (l.getD k default).k ≠ 0 ∧ Up (parents l) f k ↔ k = f
    constructor
    · rintro ⟨h1, h2⟩
      exact (up_leaf h2 h1).symm
    · rintro rfl
      exact ⟨hk, .refl k⟩
  rw [e, cnt_add f (fun _ => false) rfl _ hf]
  simp

theorem leavesTo_mem {l : List F} {x : L} : ∀ {n : Nat}, x ∈ leavesTo l n → ∃ i : Nat, i < n ∧ x.f = (i : Int) ∧ (l.getD i default).k ≠ 0
  | 0, h => by simp [leavesTo] at h
  | n + 1, h => by
    rw [leavesTo_succ, List.mem_append] at h
    rcases h with h | h
    · obtain ⟨i, h1, h2⟩ := leavesTo_mem h
      exact ⟨i, by omega, h2⟩
    · unfold leafAt at h
      split at h
      · rename_i hk
        simp at h
        subst h
        exact ⟨n, Nat.lt_succ_self n, rfl, hk⟩
      · simp at h

end Go.Proofs.Ytkbfbiklnjldgaa
