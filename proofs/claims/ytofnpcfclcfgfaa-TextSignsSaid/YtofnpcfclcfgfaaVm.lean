/- The groups of what Make makes are those in which it laid its fields. (For SchemaChecks.) -/
import Derived.Test.YtofnpcfclcfgfaaRp
namespace Go.Proofs.Ytofnpcfclcfgfaa
open Go.RowKit
set_option linter.unusedVariables false

/-- The groups into which the fields to come are laid. -/
def endM (m : MS) : List Nat := if (m.s.getD (m.o.headD 0) default).c = 0 then [m.o.headD 0] else []
def piM : List Int → Nat → MS → List Nat
  | [], _, m => endM m
  | x :: l, i, m => if i < 12 then (popK ((x.tdiv 64) % 3).toNat m.s m.o).headD 0 :: piM l (i + 1) (stepM i x m) else endM m
def fin (l : List Int) (i : Nat) (m : MS) : List F := finM (goM l i m)

/-- Beside Lf: the groups that are open rise from the root; each is a group; leaves have nothing in them. -/
structure Vm (i : Nat) (m : MS) : Prop where
  lf : Lf i m
  pw : m.o.Pairwise (· > ·)
  gr : ∀ g ∈ m.o, (m.s.getD g default).k = 0
  lv : ∀ f ∈ m.s, f.k ≠ 0 → f.c = 0
  kn : ∀ f ∈ m.s, 0 ≤ f.r ∧ f.r ≤ 2 ∧ 0 ≤ f.k ∧ f.k ≤ 4

theorem Vm.start : Vm 0 startM := ⟨Lf.start, by simp [startM], by intro g hg; simp [startM] at hg; subst hg; rfl, by intro f hf; simp [startM] at hf; subst hf; intro h; rfl, by intro f hf; simp [startM] at hf; subst hf; decide⟩

theorem bump_get {s : List F} {g : Nat} (hg : g < s.length) (j : Nat) (hj : j < s.length) : (bump s g).getD j default = { s.getD j default with c := (s.getD j default).c + (if j = g then 1 else 0) } := by
  unfold bump
  by_cases e : g = j
  · subst e
    rw [List.getD, List.getElem?_set_self hg]
    simp
  · rw [List.getD, List.getElem?_set_ne e, if_neg (fun h => e h.symm), Int.add_zero]
    rfl

theorem piM_in (l : List Int) : ∀ (i : Nat) (m : MS), Lf i m → ∀ g ∈ piM l i m, g ∈ m.o ∨ m.s.length ≤ g := by
  induction l with
  | nil =>
    intro i m h g hg
    simp only [piM, endM] at hg
    split at hg
    · simp at hg; subst hg; exact .inl (by simpa using headD_mem h.ok.ne)
    · cases hg
  | cons x l ih =>
    intro i m h g hg
    rw [piM] at hg
    split at hg
    · rcases List.mem_cons.1 hg with rfl | h1
      · exact .inl ((popK_suffix _ m.s m.o).subset (headD_mem (popK_ne h.ok _)))
      · rcases ih (i + 1) _ (h.step x) g h1 with h2 | h2
        · simp only [stepM] at h2
          split at h2
          · rcases List.mem_cons.1 h2 with rfl | h3
            · exact .inr (Nat.le_refl _)
            · exact .inl ((popK_suffix _ m.s m.o).subset h3)
          · exact .inl ((popK_suffix _ m.s m.o).subset h2)
        · right
          simp only [stepM, List.length_append, bump_length, List.length_singleton] at h2
          omega
    · simp only [endM] at hg
      split at hg
      · simp at hg; subst hg; exact .inl (by simpa using headD_mem h.ok.ne)
      · cases hg

/-- What the fields that are there have in the end. -/
theorem fin_get (l : List Int) : ∀ (i : Nat) (m : MS), Lf i m → (fin l i m).length = m.s.length + (piM l i m).length ∧ ∀ j, j < m.s.length → (fin l i m).getD j default = { m.s.getD j default with c := (m.s.getD j default).c + ((piM l i m).count j : Nat) } := by
  have hend : ∀ (i : Nat) (m : MS), Lf i m → (finM m).length = m.s.length + (endM m).length ∧ ∀ j, j < m.s.length → (finM m).getD j default = { m.s.getD j default with c := (m.s.getD j default).c + ((endM m).count j : Nat) } := by
    intro i m h
    have hg : m.o.headD 0 < m.s.length := by rw [h.ok.len]; exact h.ok.lt _ (headD_mem h.ok.ne)
    unfold finM endM
    split
    · refine ⟨by simp, fun j hj => ?_⟩
      rw [List.getD, List.getElem?_append_left (by simpa using hj)]
      have e := bump_get hg j hj
      rw [List.getD] at e
      rw [e]
      congr 2
      by_cases h1 : j = m.o.headD 0
      · rw [if_pos h1, h1]; simp
      · rw [if_neg h1, List.count_eq_zero_of_not_mem (by simpa using h1)]; rfl
    · exact ⟨by simp, fun j _ => by simp⟩
  induction l with
  | nil => intro i m h; exact hend i m h
  | cons x l ih =>
    intro i m h
    unfold fin
    rw [goM, piM]
    split
    · obtain ⟨h1, h2⟩ := ih (i + 1) _ (h.step x)
      have hlen : (stepM i x m).s.length = m.s.length + 1 := by simp [stepM]
      refine ⟨by unfold fin at h1; rw [h1, hlen, List.length_cons]; omega, fun j hj => ?_⟩
      have h3 := h2 j (by omega)
      unfold fin at h3
      rw [h3]
      have e : (stepM i x m).s.getD j default = (bump m.s ((popK ((x.tdiv 64) % 3).toNat m.s m.o).headD 0)).getD j default := by
        simp only [stepM]
        rw [List.getD, List.getElem?_append_left (by simpa using hj)]
        rfl
      rw [e, bump_get (popK_lt h.ok _) j hj, List.count_cons]
      congr 1
      generalize (popK ((x.tdiv 64) % 3).toNat m.s m.o).headD 0 = g0
      generalize (piM l (i + 1) (stepM i x m)).count j = n0
      generalize (m.s.getD j default).c = c0
      by_cases h4 : j = g0
      · rw [if_pos h4, if_pos (by rw [h4]; simp)]; exact congrArg (fun c => (⟨(m.s.getD j default).n, (m.s.getD j default).r, (m.s.getD j default).k, c⟩ : F)) (show c0 + 1 + (n0 : Int) = c0 + ((n0 + 1 : Nat) : Int) by omega)
      · rw [if_neg h4, if_neg (by simpa using fun h5 => h4 h5.symm)]; simp
    · exact hend i m h

theorem Vm.step {i : Nat} {m : MS} (h : Vm i m) (x : Int) : Vm (i + 1) (stepM i x m) := by
  have hg := popK_lt h.lf.ok ((x.tdiv 64) % 3).toNat
  have hsuf := popK_suffix ((x.tdiv 64) % 3).toNat m.s m.o
  have hlo : ∀ g ∈ m.o, g < m.s.length := fun g hg => by rw [h.lf.ok.len]; exact h.lf.ok.lt g hg
  have hget : ∀ j, j < m.s.length → (stepM i x m).s.getD j default = (bump m.s ((popK ((x.tdiv 64) % 3).toNat m.s m.o).headD 0)).getD j default := by
    intro j hj
    simp only [stepM]
    rw [List.getD, List.getElem?_append_left (by simpa using hj)]
    rfl
  have hnew : (stepM i x m).s.getD m.s.length default = fieldM i x (popK ((x.tdiv 64) % 3).toNat m.s m.o) := by
    simp only [stepM]
    rw [List.getD, List.getElem?_append_right (by simp), bump_length, Nat.sub_self]
    rfl
  refine ⟨h.lf.step x, ?_, ?_, ?_, ?_⟩
  · simp only [stepM]
    have h1 : (popK ((x.tdiv 64) % 3).toNat m.s m.o).Pairwise (· > ·) := h.pw.sublist hsuf.sublist
    split
    · exact List.pairwise_cons.2 ⟨fun g hg => hlo g (hsuf.subset hg), h1⟩
    · exact h1
  · intro g hgo
    have hcase : g ∈ m.o ∨ g = m.s.length ∧ kindM x (popK ((x.tdiv 64) % 3).toNat m.s m.o) = 0 := by
      simp only [stepM] at hgo
      split at hgo
      · rename_i hk
        rcases List.mem_cons.1 hgo with h1 | h1
        · exact .inr ⟨h1, hk⟩
        · exact .inl (hsuf.subset h1)
      · exact .inl (hsuf.subset hgo)
    rcases hcase with h1 | ⟨h1, h2⟩
    · rw [hget g (hlo g h1), bump_get hg g (hlo g h1)]
      exact h.gr g h1
    · rw [h1, hnew]
      exact h2
  · intro f hf hk
    simp only [stepM] at hf
    rcases List.mem_append.1 hf with h1 | h1
    · rcases List.mem_or_eq_of_mem_set h1 with h2 | rfl
      · exact h.lv f h2 hk
      · exact absurd (h.gr _ (hsuf.subset (headD_mem (popK_ne h.lf.ok _)))) hk
    · simp only [List.mem_singleton] at h1
      subst h1
      rfl
  · intro f hf
    simp only [stepM] at hf
    rcases List.mem_append.1 hf with h1 | h1
    · rcases List.mem_or_eq_of_mem_set h1 with h2 | rfl
      · exact h.kn f h2
      · have h2 : m.s.getD ((popK ((x.tdiv 64) % 3).toNat m.s m.o).headD 0) default ∈ m.s := by rw [List.getD, List.getElem?_eq_getElem hg]; exact List.getElem_mem hg
        exact h.kn (m.s.getD ((popK ((x.tdiv 64) % 3).toNat m.s m.o).headD 0) default) h2
    · simp only [List.mem_singleton] at h1
      subst h1
      simp only [fieldM]
      have e1 := Int.emod_nonneg (x.tdiv 8) (show (3 : Int) ≠ 0 by decide)
      have e2 := Int.emod_lt_of_pos (x.tdiv 8) (show (0 : Int) < 3 by decide)
      have e3 := Int.emod_nonneg (x % 8) (show (5 : Int) ≠ 0 by decide)
      have e4 := Int.emod_lt_of_pos (x % 8) (show (0 : Int) < 5 by decide)
      unfold kindM
      refine ⟨e1, by omega, ?_, ?_⟩
      · split <;> omega
      · split <;> omega

/-- The machine of the groups, from any state of Make's on, goes as Make went. -/
theorem par_fin (l : List Int) : ∀ (i : Nat) (m : MS), Vm i m → par m.s.length ((fin l i m).drop m.s.length) (m.o.map fun g => (g, (((piM l i m).count g : Nat) : Int))) = (piM l i m).map fun (g : Nat) => (g : Int) := by
  have hend : ∀ (i : Nat) (m : MS), Vm i m → par m.s.length ((finM m).drop m.s.length) (m.o.map fun g => (g, (((endM m).count g : Nat) : Int))) = (endM m).map fun (g : Nat) => (g : Int) := by
    intro i m h
    obtain ⟨s, o⟩ := m
    have hne := h.lf.ok.ne
    cases o with
    | nil => exact absurd rfl hne
    | cons g t =>
      unfold finM endM
      simp only [List.headD_cons]
      by_cases h0 : (s.getD g default).c = 0
      · simp only [h0, if_true]
        rw [List.drop_append_of_le_length (by simp), List.drop_of_length_le (by simp), List.nil_append]
        simp [par, popS, topS]
      · simp only [h0, if_false]
        rw [List.drop_length]
        simp [par]
  induction l with
  | nil => intro i m h; exact hend i m h
  | cons x l ih =>
    intro i m h
    unfold fin
    rw [goM, piM]
    split
    · rename_i h12
      have hv := h.step x
      have hIH := ih (i + 1) _ hv
      have hsuf := popK_suffix ((x.tdiv 64) % 3).toNat m.s m.o
      have hne := popK_ne h.lf.ok ((x.tdiv 64) % 3).toNat
      have hlo : ∀ g ∈ m.o, g < m.s.length := fun g hg => by rw [h.lf.ok.len]; exact h.lf.ok.lt g hg
      have hin := piM_in l (i + 1) _ hv.lf
      have hfg := fin_get l (i + 1) _ hv.lf
      have hsl : (stepM i x m).s.length = m.s.length + 1 := by simp [stepM]
      have hso : (stepM i x m).o = if kindM x (popK ((x.tdiv 64) % 3).toNat m.s m.o) = 0 then m.s.length :: popK ((x.tdiv 64) % 3).toNat m.s m.o else popK ((x.tdiv 64) % 3).toNat m.s m.o := rfl
      have hsn : (stepM i x m).s.getD m.s.length default = fieldM i x (popK ((x.tdiv 64) % 3).toNat m.s m.o) := by
        simp only [stepM]
        rw [List.getD, List.getElem?_append_right (by simp), bump_length, Nat.sub_self]
        rfl
      generalize hO : popK ((x.tdiv 64) % 3).toNat m.s m.o = O at *
      generalize hM : stepM i x m = m' at *
      generalize hP : piM l (i + 1) m' = P at *
      cases O with
      | nil => exact absurd rfl hne
      | cons g1 t1 =>
        obtain ⟨pre, hpre⟩ := hsuf
        have hpw := h.pw
        rw [← hpre] at hpw hlo
        rw [← hpre]
        have hg1 : g1 < m.s.length := hlo g1 (by simp)
        have hcnt : ∀ g ∈ pre, ((g1 :: P).count g) = 0 := by
          intro g hg
          rw [List.count_eq_zero]
          intro hm
          have hgl := hlo g (by simp [hg])
          have hng : g ∉ g1 :: t1 := fun h1 => by
            have := (List.pairwise_append.1 hpw).2.2 g hg g h1
            omega
          rcases List.mem_cons.1 hm with h1 | h1
          · exact hng (by rw [h1]; simp)
          · rcases hin g h1 with h2 | h2
            · rw [hso] at h2
              split at h2
              · rcases List.mem_cons.1 h2 with h3 | h3
                · omega
                · exact hng h3
              · exact hng h2
            · omega
        have hpop : popS ((pre ++ g1 :: t1).map fun g => (g, (((g1 :: P).count g : Nat) : Int))) = (g1, (((g1 :: P).count g1 : Nat) : Int)) :: t1.map fun g => (g, (((g1 :: P).count g : Nat) : Int)) := by
          clear hpre hpw hlo
          induction pre with
          | nil =>
            rw [List.nil_append, List.map_cons, popS, if_neg (by simp; omega)]
          | cons a pre ihp =>
            rw [List.cons_append, List.map_cons, popS, if_pos (by rw [hcnt a (by simp)]; decide)]
            exact ihp fun g hg => hcnt g (by simp [hg])
        have hdrop : (finM (goM l (i + 1) m')).drop m.s.length = (finM (goM l (i + 1) m')).getD m.s.length default :: (finM (goM l (i + 1) m')).drop (m.s.length + 1) := by
          have hl : m.s.length < (finM (goM l (i + 1) m')).length := by have := hfg.1; unfold fin at this; omega
          rw [List.drop_eq_getElem_cons hl, List.getD, List.getElem?_eq_getElem hl]
          rfl
        have hf := hfg.2 m.s.length (by omega)
        unfold fin at hf hIH
        rw [hsn] at hf
        simp only [List.headD_cons]
        rw [hdrop, par, hpop]
        simp only [topS, decS, List.map_cons]
        rw [hf]
        have ht1 : (t1.map fun g => (g, (((g1 :: P).count g : Nat) : Int))) = t1.map fun g => (g, ((P.count g : Nat) : Int)) := by
          apply List.map_congr_left
          intro g hg
          have hne1 : g1 ≠ g := fun e => by
            have := (List.pairwise_cons.1 (List.pairwise_append.1 hpw).2.1).1 g hg
            omega
          rw [List.count_cons_of_ne hne1]
        have hc1 : (((g1 :: P).count g1 : Nat) : Int) - 1 = ((P.count g1 : Nat) : Int) := by
          rw [List.count_cons_self]
          omega
        rw [ht1, hc1]
        congr 1
        rw [hsl] at hIH
        rw [← hIH, hso]
        congr 1
        unfold pushS
        simp only [fieldM]
        split
        · rename_i hk0
          simp [hk0]
        · rename_i hk0
          simp [hk0]
    · exact hend i m h

theorem mk_fin (ns : List Int) : mk ns = fin ns 0 startM := rfl

theorem mk_parents (ns : List Int) : parents (mk ns) = -1 :: (piM ns 0 startM).map fun (g : Nat) => (g : Int) := by
  have h := par_fin ns 0 startM Vm.start
  have hg := fin_get ns 0 startM Lf.start
  have h0 := hg.2 0 (by simp [startM])
  have hl : 0 < (fin ns 0 startM).length := by rw [hg.1]; show 0 < 1 + _; omega
  unfold parents
  rw [mk_fin]
  have e : fin ns 0 startM = (fin ns 0 startM).getD 0 default :: (fin ns 0 startM).drop 1 := by
    have e1 := List.drop_eq_getElem_cons hl
    rw [List.drop_zero] at e1
    rw [List.getD, List.getElem?_eq_getElem hl]
    exact e1
  rw [e, par]
  have hs : startM.s.length = 1 := rfl
  rw [hs] at h
  rw [← h, h0]
  simp [popS, topS, decS, pushS, startM]

theorem dep_at (l : List F) (j : Nat) (hj : j < l.length) : (depths l).getD j 0 = cat (depths l) ((parents l).getD j 0) + (if 0 < j then 1 else 0) := by
  have h := cntL_at (fun i => decide (0 < i)) (parents l) j (by simpa using hj) (fun j x => parents_lt)
  unfold depths
  rw [h]
  congr 1
  by_cases h0 : 0 < j <;> simp [h0]

/-- No field lies deeper than five. -/
theorem dep_le (F0 : List F) (l : List Int) : ∀ (i : Nat) (m : MS), Vm i m → (∀ (p g : Nat), m.o[p]? = some g → (depths F0).getD g 0 = (m.o.length : Int) - 1 - p) → (parents F0).drop m.s.length = (piM l i m).map (fun (g : Nat) => (g : Int)) → ∀ j, m.s.length ≤ j → j < F0.length → (depths F0).getD j 0 ≤ 5 := by
  have one : ∀ (m : MS) (i : Nat) (O : List Nat) (P : List Nat), Vm i m → O <:+ m.o → O ≠ [] → (∀ (p g : Nat), m.o[p]? = some g → (depths F0).getD g 0 = (m.o.length : Int) - 1 - p) → (parents F0).drop m.s.length = (O.headD 0 :: P).map (fun (g : Nat) => (g : Int)) → m.s.length < F0.length ∧ (depths F0).getD m.s.length 0 = O.length ∧ ∀ (p g : Nat), O[p]? = some g → (depths F0).getD g 0 = (O.length : Int) - 1 - p := by
    intro m i O P h hsuf hne hd hp
    obtain ⟨pre, hpre⟩ := hsuf
    have hO : ∀ (p g : Nat), O[p]? = some g → (depths F0).getD g 0 = (O.length : Int) - 1 - p := by
      intro p g hpg
      have h1 := hd (p + pre.length) g (by rw [← hpre, List.getElem?_append_right (by omega), Nat.add_sub_cancel]; exact hpg)
      rw [h1, ← hpre, List.length_append]
      omega
    have hlt : m.s.length < F0.length := by
      have h1 := congrArg List.length hp
      simp at h1
      omega
    have hx : (parents F0)[m.s.length]? = some ((O.headD 0 : Nat) : Int) := by
      have h1 := congrArg (fun l : List Int => l[0]?) hp
      simp only [List.getElem?_drop, Nat.add_zero] at h1
      rw [h1]; rfl
    have hpos : 0 < m.s.length := by rw [h.lf.ok.len]; omega
    refine ⟨hlt, ?_, hO⟩
    rw [dep_at F0 _ hlt, if_pos hpos, List.getD, hx]
    simp only [Option.getD_some]
    unfold cat
    rw [if_neg (by omega)]
    cases O with
    | nil => exact absurd rfl hne
    | cons g t =>
      have h2 := hO 0 g rfl
      simp only [List.headD_cons, Int.toNat_natCast]
      rw [h2]
      simp only [List.length_cons]
      omega
  have hend : ∀ (i : Nat) (m : MS), Vm i m → (∀ (p g : Nat), m.o[p]? = some g → (depths F0).getD g 0 = (m.o.length : Int) - 1 - p) → (parents F0).drop m.s.length = (endM m).map (fun (g : Nat) => (g : Int)) → ∀ j, m.s.length ≤ j → j < F0.length → (depths F0).getD j 0 ≤ 5 := by
    intro i m h hd hp j hj hjl
    unfold endM at hp
    split at hp
    · have h1 := congrArg List.length hp
      simp at h1
      obtain ⟨-, h2, -⟩ := one m i m.o [] h (List.suffix_refl _) h.lf.ok.ne hd hp
      have hjj : j = m.s.length := by omega
      rw [hjj, h2]
      have := h.lf.ok.sm
      omega
    · have h1 := congrArg List.length hp
      simp at h1
      omega
  induction l with
  | nil => intro i m h hd hp; exact hend i m h hd hp
  | cons x l ih =>
    intro i m h hd hp j hj hjl
    rw [piM] at hp
    split at hp
    · have hsuf := popK_suffix ((x.tdiv 64) % 3).toNat m.s m.o
      obtain ⟨h1, h2, h3⟩ := one m i _ _ h hsuf (popK_ne h.lf.ok _) hd hp
      have hsl : (stepM i x m).s.length = m.s.length + 1 := by simp [stepM]
      have hol := hsuf.length_le
      have hsm := h.lf.ok.sm
      by_cases hjj : j = m.s.length
      · rw [hjj, h2]; omega
      · refine ih (i + 1) _ (h.step x) ?_ ?_ j (by omega) hjl
        · intro p g hpg
          simp only [stepM] at hpg ⊢
          split at hpg
          · rename_i hk
            rw [if_pos hk]
            cases p with
            | zero =>
              simp at hpg
              rw [← hpg, h2, List.length_cons]
              omega
            | succ p =>
              rw [List.getElem?_cons_succ] at hpg
              rw [h3 p g hpg, List.length_cons]
              omega
          · rename_i hk
            rw [if_neg hk]
            exact h3 p g hpg
        · rw [hsl, ← List.drop_drop, hp]
          simp
    · exact hend i m h hd hp j hj hjl

end Go.Proofs.Ytofnpcfclcfgfaa
