/- What Make makes is a schema. (For SchemaChecks.) -/
import Derived.Test.YtofnpcfclcfgfaaVm
import Derived.Test.YtofnpcfclcfgfaaNd
namespace Go.Proofs.Ytofnpcfclcfgfaa
open Go.RowKit
set_option linter.unusedVariables false

/-- Each group but the innermost open one has a field. -/
def Gd (m : MS) : Prop := ∀ (j : Nat) (f : F), m.s[j]? = some f → f.k = 0 → 1 ≤ f.c ∨ j = m.o.headD 0

theorem popK_head (k : Nat) (s : List F) (g : Nat) (t : List Nat) : popK k s (g :: t) = g :: t ∨ 0 < (s.getD g default).c := by
  cases k with
  | zero => exact .inl rfl
  | succ k =>
    simp only [popK]
    split
    · rename_i h; exact .inr h.2
    · exact .inl rfl

theorem Gd.step {i : Nat} {m : MS} (h : Vm i m) (hG : Gd m) (x : Int) : Gd (stepM i x m) := by
  have hg := popK_lt h.lf.ok ((x.tdiv 64) % 3).toNat
  have hne := h.lf.ok.ne
  intro j f hf hk
  by_cases hj : j < m.s.length
  · left
    have hf2 : (bump m.s ((popK ((x.tdiv 64) % 3).toNat m.s m.o).headD 0))[j]? = some f := by
      simp only [stepM] at hf
      rwa [List.getElem?_append_left (by simpa using hj)] at hf
    have hb := bump_get hg j hj
    have e1 : (bump m.s ((popK ((x.tdiv 64) % 3).toNat m.s m.o).headD 0)).getD j default = f := by rw [List.getD, hf2]; rfl
    rw [e1] at hb
    have hm : m.s[j]? = some (m.s.getD j default) := by rw [List.getD, List.getElem?_eq_getElem hj]; rfl
    have hmem := List.mem_of_getElem? hm
    have hc0 := (h.lf.ok.cb _ hmem).1
    have hkm : (m.s.getD j default).k = 0 := by rw [hb] at hk; exact hk
    have hcf : f.c = (m.s.getD j default).c + (if j = (popK ((x.tdiv 64) % 3).toNat m.s m.o).headD 0 then 1 else 0) := by rw [hb]
    rcases hG j _ hm hkm with h1 | h1
    · rw [hcf]; split <;> omega
    · by_cases h2 : j = (popK ((x.tdiv 64) % 3).toNat m.s m.o).headD 0
      · rw [hcf, if_pos h2]; omega
      · rw [hcf, if_neg h2]
        cases ho : m.o with
        | nil => exact absurd ho hne
        | cons g t =>
          rw [ho] at h1 h2
          simp only [List.headD_cons] at h1
          rcases popK_head ((x.tdiv 64) % 3).toNat m.s g t with h3 | h3
          · rw [h3] at h2
            exact absurd h1 h2
          · rw [← h1] at h3; omega
  · right
    have hjl := (List.getElem?_eq_some_iff.1 hf).1
    have hjj : j = m.s.length := by simp [stepM] at hjl; omega
    have hf2 : f = fieldM i x (popK ((x.tdiv 64) % 3).toNat m.s m.o) := by
      simp only [stepM] at hf
      rw [List.getElem?_append_right (by simp; omega), bump_length, hjj, Nat.sub_self] at hf
      simpa using hf.symm
    rw [hf2] at hk
    have hk2 : kindM x (popK ((x.tdiv 64) % 3).toNat m.s m.o) = 0 := hk
    simp only [stepM]
    rw [if_pos hk2, hjj]
    rfl

theorem goM_vm (l : List Int) : ∀ (i : Nat) (m : MS), Vm i m → Gd m → i ≤ 12 → ∃ j, j ≤ 12 ∧ Vm j (goM l i m) ∧ Gd (goM l i m) := by
  induction l with
  | nil => intro i m h hG hi; exact ⟨i, hi, h, hG⟩
  | cons x l ih =>
    intro i m h hG hi
    rw [goM]
    split
    · exact ih (i + 1) _ (h.step x) (hG.step h x) (by omega)
    · exact ⟨i, hi, h, hG⟩

theorem mk_fields (ns : List Int) : ∀ (j : Nat) (f : F), (mk ns)[j]? = some f → (0 ≤ f.r ∧ f.r ≤ 2 ∧ 0 ≤ f.k ∧ f.k ≤ 4) ∧ (f.k = 0 → 1 ≤ f.c) ∧ (f.k ≠ 0 → f.c = 0) := by
  obtain ⟨i, hi, h, hG⟩ := goM_vm ns 0 startM Vm.start (by
    intro j f hf _
    right
    simp only [startM] at hf ⊢
    have := (List.getElem?_eq_some_iff.1 hf).1
    simp at this
    simp [this]) (by omega)
  have hg : (goM ns 0 startM).o.headD 0 < (goM ns 0 startM).s.length := by
    rw [h.lf.ok.len]
    exact h.lf.ok.lt _ (headD_mem h.lf.ok.ne)
  intro j f hf
  unfold mk finM at hf
  split at hf
  · rename_i h0
    by_cases hj : j < (goM ns 0 startM).s.length
    · rw [List.getElem?_append_left (by simpa using hj)] at hf
      have hb := bump_get hg j hj
      have e1 : (bump (goM ns 0 startM).s ((goM ns 0 startM).o.headD 0)).getD j default = f := by rw [List.getD, hf]; rfl
      rw [e1] at hb
      have hm : (goM ns 0 startM).s[j]? = some ((goM ns 0 startM).s.getD j default) := by rw [List.getD, List.getElem?_eq_getElem hj]; rfl
      have hmem := List.mem_of_getElem? hm
      have hc0 := (h.lf.ok.cb _ hmem).1
      have hkn := h.kn _ hmem
      have hcf : f.c = ((goM ns 0 startM).s.getD j default).c + (if j = (goM ns 0 startM).o.headD 0 then 1 else 0) := by rw [hb]
      have hkf : f.k = ((goM ns 0 startM).s.getD j default).k := by rw [hb]
      have hrf : f.r = ((goM ns 0 startM).s.getD j default).r := by rw [hb]
      refine ⟨by rw [hrf, hkf]; exact hkn, fun hk => ?_, fun hk => ?_⟩
      · rw [hcf]
        rcases hG j _ hm (by rw [← hkf]; exact hk) with h1 | h1
        · split <;> omega
        · rw [if_pos h1]; omega
      · rw [hcf]
        have h1 := h.lv _ hmem (by rw [← hkf]; exact hk)
        rw [h1]
        by_cases h2 : j = (goM ns 0 startM).o.headD 0
        · exfalso
          apply hk
          rw [hkf, h2]
          exact h.gr _ (headD_mem h.lf.ok.ne)
        · rw [if_neg h2]; rfl
    · rw [List.getElem?_append_right (by simp; omega)] at hf
      have h1 := (List.getElem?_eq_some_iff.1 hf).1
      simp only [List.length_singleton] at h1
      have hj0 : j - (bump (goM ns 0 startM).s ((goM ns 0 startM).o.headD 0)).length = 0 := by omega
      rw [hj0] at hf
      simp at hf
      subst hf
      exact ⟨by decide, fun h => by simp at h, fun _ => rfl⟩
  · rename_i h0
    have hmem := List.mem_of_getElem? hf
    refine ⟨h.kn _ hmem, fun hk => ?_, h.lv f hmem⟩
    rcases hG j f hf hk with h1 | h1
    · exact h1
    · have hc0 := (h.lf.ok.cb f hmem).1
      have e : (goM ns 0 startM).s.getD ((goM ns 0 startM).o.headD 0) default = f := by rw [← h1, List.getD, hf]; rfl
      rw [e] at h0
      omega

theorem fin_new (l : List Int) : ∀ (i : Nat) (m : MS), Vm i m → ∀ (j : Nat), m.s.length ≤ j → j < (fin l i m).length → ((fin l i m).getD j default).c = ((piM l i m).count j : Nat) := by
  have hend : ∀ (i : Nat) (m : MS), Vm i m → ∀ (j : Nat), m.s.length ≤ j → j < (finM m).length → ((finM m).getD j default).c = ((endM m).count j : Nat) := by
    intro i m h j hj hjl
    have hg : m.o.headD 0 < m.s.length := by rw [h.lf.ok.len]; exact h.lf.ok.lt _ (headD_mem h.lf.ok.ne)
    unfold finM at hjl ⊢
    unfold endM
    split at hjl
    · rename_i h0
      rw [if_pos h0, if_pos h0]
      simp at hjl
      have hjj : j = m.s.length := by omega
      rw [List.getD, List.getElem?_append_right (by simp; omega), bump_length, hjj, Nat.sub_self, List.count_eq_zero_of_not_mem (by rw [List.mem_singleton]; omega)]
      rfl
    · omega
  induction l with
  | nil => intro i m h; exact hend i m h
  | cons x l ih =>
    intro i m h j hj hjl
    unfold fin at hjl ⊢
    rw [goM] at hjl ⊢
    rw [piM]
    split at hjl
    · rename_i h12
      rw [if_pos h12, if_pos h12]
      have hv := h.step x
      have hsl : (stepM i x m).s.length = m.s.length + 1 := by simp [stepM]
      have hg1 := popK_lt h.lf.ok ((x.tdiv 64) % 3).toNat
      rw [List.count_cons_of_ne (by omega)]
      by_cases hjj : j = m.s.length
      · have h1 := (fin_get l (i + 1) _ hv.lf).2 j (by omega)
        unfold fin at h1
        rw [h1]
        have h2 : (stepM i x m).s.getD j default = fieldM i x (popK ((x.tdiv 64) % 3).toNat m.s m.o) := by
          simp only [stepM]
          rw [List.getD, List.getElem?_append_right (by simp; omega), bump_length, hjj, Nat.sub_self]
          rfl
        rw [h2]
        simp only [fieldM]
        omega
      · exact ih (i + 1) _ hv j (by omega) hjl
    · rename_i h12
      rw [if_neg h12, if_neg h12]
      exact hend i m h j hj hjl

theorem mk_count (ns : List Int) (j : Nat) (hj : j < (mk ns).length) : ((mk ns).getD j default).c = ((piM ns 0 startM).count j : Nat) := by
  rw [mk_fin] at hj ⊢
  by_cases h0 : j = 0
  · have h1 := (fin_get ns 0 startM Lf.start).2 j (by simp [startM]; omega)
    rw [h1, h0]
    simp [startM]
  · exact fin_new ns 0 startM Vm.start j (by simp [startM]; omega) hj

theorem count_cast (l : List Nat) (k : Nat) : (l.map fun (g : Nat) => (g : Int)).count (k : Int) = l.count k := by
  induction l with
  | nil => rfl
  | cons a l ih =>
    rw [List.map_cons, List.count_cons, List.count_cons, ih]
    congr 1
    by_cases h : a = k
    · simp [h]
    · have h2 : ¬ ((a : Int) = (k : Int)) := by omega
      simp [h, h2]

theorem mk_lacks (ns : List Int) : lacksB (mk ns) (parents (mk ns)) = false := by
  rw [Bool.eq_false_iff]
  intro h
  unfold lacksB at h
  rw [List.any_eq_true] at h
  obtain ⟨k, hk, hs⟩ := h
  have hkl := List.mem_range.1 hk
  unfold fewB at hs
  have hs := of_decide_eq_true hs
  rw [mk_parents, List.drop_one, List.tail_cons, mk_count ns k hkl] at hs
  rw [count_cast] at hs
  omega

theorem mk_root (ns : List Int) : ((mk ns).getD 0 default).n = bm ∧ ((mk ns).getD 0 default).r = 0 ∧ ((mk ns).getD 0 default).k = 0 := by
  rw [mk_fin, (fin_get ns 0 startM Lf.start).2 0 (by simp [startM])]
  exact ⟨rfl, rfl, rfl⟩

theorem mk_depth (ns : List Int) (j : Nat) (hj : j < (mk ns).length) : (depths (mk ns)).getD j 0 ≤ 5 := by
  have h00 : (depths (mk ns)).getD 0 0 = 0 := by
    rw [dep_at _ 0 (mk_ok ns).pos, mk_parents]
    rfl
  by_cases h0 : j = 0
  · rw [h0, h00]; decide
  · refine dep_le (mk ns) ns 0 startM Vm.start ?_ ?_ j (by simp [startM]; omega) hj
    · intro p g hp
      have hpl := (List.getElem?_eq_some_iff.1 hp).1
      simp [startM] at hpl
      subst hpl
      simp [startM] at hp
      rw [← hp, h00]
      rfl
    · rw [mk_parents]
      simp [startM]

theorem bl_one (a : Nat) (h : a < 256) : bl (str [a]) = [a] := by
  simp [bl, str]
  omega

theorem mk_name (ns : List Int) (j : Nat) (hj : j < (mk ns).length) : nameB (bl ((mk ns).getD j default).n) = true := by
  by_cases h0 : j = 0
  · rw [h0, (mk_root ns).1]; decide
  · have hf : (mk ns)[j]? = some ((mk ns).getD j default) := by rw [List.getD, List.getElem?_eq_getElem hj]; rfl
    rcases mk_names ns j _ (by omega) hf with ⟨h1, h2⟩ | ⟨h1, -⟩
    · rw [h1, bl_one _ (by omega)]
      have hl : letB (96 + j) = true := by simp [letB]; omega
      simp [nameB, sgnB, hl]
    · rw [h1]; decide

theorem mk_taken (ns : List Int) (j : Nat) (hj : j < (mk ns).length) : takenB (mk ns) (parents (mk ns)) j = false := by
  rw [Bool.eq_false_iff]
  intro ht
  unfold takenB at ht
  rw [List.any_eq_true] at ht
  obtain ⟨k, hk, hs⟩ := ht
  have hkj := List.mem_range.1 hk
  unfold sameN at hs
  simp only [Bool.and_eq_true, decide_eq_true_eq] at hs
  have h3 := hs.2
  have hle := (mk_ok ns).le
  have hfj : (mk ns)[j]? = some ((mk ns).getD j default) := by rw [List.getD, List.getElem?_eq_getElem hj]; rfl
  have hfk : (mk ns)[k]? = some ((mk ns).getD k default) := by rw [List.getD, List.getElem?_eq_getElem (by omega)]; rfl
  have hbz : bz = str [122] := rfl
  have hbm : bm = str [109] := rfl
  have hk1 : ((mk ns).getD k default).n = str [109] ∧ k = 0 ∨ ((mk ns).getD k default).n = str [96 + k] ∧ 1 ≤ k ∧ k ≤ 12 ∨ k + 1 = (mk ns).length := by
    by_cases h0 : k = 0
    · left; rw [h0]; exact ⟨(mk_root ns).1, rfl⟩
    · rcases mk_names ns k _ (by omega) hfk with ⟨h5, h5'⟩ | ⟨-, h5'⟩
      · exact .inr (.inl ⟨h5, by omega, h5'⟩)
      · exact .inr (.inr h5')
  rcases mk_names ns j _ (by omega) hfj with ⟨h6, h6'⟩ | ⟨h6, h6'⟩
  · rcases hk1 with ⟨h5, h7⟩ | ⟨h5, h7, h8⟩ | h5
    · rw [h5, h6] at h3
      have := str_one _ _ (by omega) (by omega) h3
      omega
    · rw [h5, h6] at h3
      have := str_one _ _ (by omega) (by omega) h3
      omega
    · omega
  · rcases hk1 with ⟨h5, h7⟩ | ⟨h5, h7, h8⟩ | h5
    · rw [h5, h6, hbz] at h3
      have := str_one _ _ (by omega) (by omega) h3
      omega
    · rw [h5, h6, hbz] at h3
      have := str_one _ _ (by omega) (by omega) h3
      omega
    · omega

theorem mk_fault (ns : List Int) (j : Nat) (hj : j < (mk ns).length) : faultN (mk ns) (parents (mk ns)) (depths (mk ns)) j = 0 := by
  have hf : (mk ns)[j]? = some ((mk ns).getD j default) := by rw [List.getD, List.getElem?_eq_getElem hj]; rfl
  obtain ⟨⟨k1, k2, k3, k4⟩, k5, k6⟩ := mk_fields ns j _ hf
  have hp : ¬ (0 < j ∧ (parents (mk ns)).getD j 0 = -1) := by
    rintro ⟨h1, h2⟩
    rw [mk_parents] at h2
    obtain ⟨q, rfl⟩ : ∃ q, j = q + 1 := ⟨j - 1, by omega⟩
    rw [List.getD_cons_succ] at h2
    have hl : q < (piM ns 0 startM).length := by
      have h3 := congrArg List.length (mk_parents ns)
      simp at h3
      omega
    simp [List.getD, hl] at h2
  have hd := mk_depth ns j hj
  have hkn : knownB ((mk ns).getD j default) = true := by unfold knownB; simp only [Bool.and_eq_true, decide_eq_true_eq]; exact ⟨k1, k2, k3, k4⟩
  have hrt : ¬ (j = 0 ∧ rootB ((mk ns).getD j default) = false) := by
    rintro ⟨h1, h2⟩
    rw [h1] at h2
    unfold rootB at h2
    rw [(mk_root ns).2.1, (mk_root ns).2.2] at h2
    cases h2
  have hhv : haveB ((mk ns).getD j default) = true := by
    unfold haveB
    split
    · rename_i h; simpa using k5 h
    · rename_i h; simpa using k6 h
  unfold faultN
  rw [if_neg hp, if_neg (by omega), mk_name ns j hj, mk_taken ns j hj, if_neg (by simp), hkn, if_neg (by simpa using hrt), hhv]
  rfl

theorem mk_chk (ns : List Int) : chk (mk ns) = 0 := by
  have h := mk_ok ns
  unfold chk
  rw [if_neg (by have := h.le; have := h.pos; omega), firstN_zero (fun j hj => mk_fault ns j hj), mk_lacks]
  rfl

end Go.Proofs.Ytofnpcfclcfgfaa
