/- The names that Make gives. -/
import Derived.Test.YtofnpcfclcfgfaaMp5
namespace Go.Proofs.Ytofnpcfclcfgfaa
open Go.RowKit
set_option linter.unusedVariables false

theorem bump_name {s : List F} {g j : Nat} {f : F} (hg : g < s.length) (h : (bump s g)[j]? = some f) : ∃ f', s[j]? = some f' ∧ f.n = f'.n := by
  unfold bump at h
  by_cases e : g = j
  · subst e
    rw [List.getElem?_set_self hg] at h
    injection h with h
    refine ⟨s.getD g default, by rw [List.getD, List.getElem?_eq_getElem hg]; rfl, ?_⟩
    rw [← h]
  · rw [List.getElem?_set_ne e] at h
    exact ⟨f, h, rfl⟩

def Nmd (s : List F) : Prop := ∀ (j : Nat) (f : F), 1 ≤ j → s[j]? = some f → f.n = str [96 + j]

theorem Nmd.step {i : Nat} {m : MS} (hL : Lf i m) (h : Nmd m.s) (x : Int) : Nmd (stepM i x m).s := by
  intro j f hj hf
  simp only [stepM] at hf
  by_cases hlt : j < (bump m.s ((popK ((x.tdiv 64) % 3).toNat m.s m.o).headD 0)).length
  · rw [List.getElem?_append_left hlt] at hf
    obtain ⟨f', h1, h2⟩ := bump_name (popK_lt hL.ok _) hf
    rw [h2]
    exact h j f' hj h1
  · rw [List.getElem?_append_right (by omega)] at hf
    have hjj : j = i + 1 := by
      have h1 := (List.getElem?_eq_some_iff.1 hf).1
      simp only [List.length_singleton, bump_length, hL.ok.len] at h1 hlt
      omega
    rw [bump_length, hL.ok.len, hjj, Nat.sub_self] at hf
    simp at hf
    rw [← hf, hjj]
    simp only [fieldM]
    congr 2
    omega

theorem goM_nm (l : List Int) : ∀ (i : Nat) (m : MS), Lf i m → Nmd m.s → Nmd (goM l i m).s := by
  induction l with
  | nil => intro i m _ h; exact h
  | cons x l ih =>
    intro i m hL h
    rw [goM]
    split
    · exact ih (i + 1) _ (hL.step x) (h.step hL x)
    · exact h

theorem mk_names (ns : List Int) : ∀ (j : Nat) (f : F), 1 ≤ j → (mk ns)[j]? = some f → f.n = str [96 + j] ∧ j ≤ 12 ∨ f.n = bz ∧ j + 1 = (mk ns).length := by
  obtain ⟨i, hi, hL⟩ := goM_ok ns 0 startM Lf.start (by omega)
  have hN := goM_nm ns 0 startM Lf.start (by
    intro j f hj hf
    simp only [startM] at hf
    have h1 := (List.getElem?_eq_some_iff.1 hf).1
    simp at h1
    omega)
  have hg : (goM ns 0 startM).o.headD 0 < (goM ns 0 startM).s.length := by
    rw [hL.ok.len]
    exact hL.ok.lt _ (headD_mem hL.ok.ne)
  intro j f hj hf
  unfold mk finM at hf ⊢
  split at hf
  · rename_i h0
    rw [if_pos h0]
    by_cases hlt : j < (bump (goM ns 0 startM).s ((goM ns 0 startM).o.headD 0)).length
    · rw [List.getElem?_append_left hlt] at hf
      obtain ⟨f', h1, h2⟩ := bump_name hg hf
      left
      rw [h2]
      refine ⟨hN j f' hj h1, ?_⟩
      have := (List.getElem?_eq_some_iff.1 h1).1
      rw [hL.ok.len] at this
      omega
    · right
      rw [List.getElem?_append_right (by omega)] at hf
      have h1 := (List.getElem?_eq_some_iff.1 hf).1
      simp only [List.length_singleton] at h1
      have hj0 : j - (bump (goM ns 0 startM).s ((goM ns 0 startM).o.headD 0)).length = 0 := by omega
      rw [hj0] at hf
      simp at hf
      refine ⟨by rw [← hf], ?_⟩
      rw [List.length_append, List.length_singleton]
      omega
  · rename_i h0
    rw [if_neg h0]
    left
    refine ⟨hN j f hj hf, ?_⟩
    have := (List.getElem?_eq_some_iff.1 hf).1
    rw [hL.ok.len] at this
    omega

theorem str_one (a b : Nat) (ha : a < 256) (hb : b < 256) (h : str [a] = str [b]) : a = b := by
  have h1 : UInt8.ofNat a = UInt8.ofNat b := by
    have := congrArg (fun s : ByteArray => s.data.toList) h
    simpa [str] using this
  have h2 := congrArg UInt8.toNat h1
  simp at h2
  omega

end Go.Proofs.Ytofnpcfclcfgfaa
