/- The walk of the statement SchemaPaths. -/
import Derived.Test.YtmebgaejdjekdaaPh
namespace Go.Proofs.Ytmebgaejdjekdaa
open Go.RowKit
set_option linter.unusedVariables false

theorem bump_name {s : List F} {g j : Nat} {f : F} (hg : g < s.length) (h : (bump s g)[j]? = some f) : ∃ f', s[j]? = some f' ∧ f.n = f'.n := by
  unfold bump at h
  by_cases e : g = j
  · subst e
    rw [List.getElem?_set_self hg] at h
    injection h with h
    refine ⟨s.getD g default, by rw [List.getD, List.getElem?_eq_getElem hg]; rfl, ?_⟩
    rw [← h]
  · rw [List.getElem?_set_ne e] at h
    exact ⟨f, h, rfl⟩

def Nmd (s : List F) : Prop := ∀ (j : Nat) (f : F), 1 ≤ j → s[j]? = some f → f.n = str [96 + j]

theorem Nmd.step {i : Nat} {m : MS} (hL : Lf i m) (h : Nmd m.s) (x : Int) : Nmd (stepM i x m).s := by
  intro j f hj hf
  simp only [stepM] at hf
  by_cases hlt : j < (bump m.s ((popK ((x.tdiv 64) % 3).toNat m.s m.o).headD 0)).length
  · rw [List.getElem?_append_left hlt] at hf
    obtain ⟨f', h1, h2⟩ := bump_name (popK_lt hL.ok _) hf
    rw [h2]
    exact h j f' hj h1
  · rw [List.getElem?_append_right (by omega)] at hf
    have hjj : j = i + 1 := by
      have h1 := (List.getElem?_eq_some_iff.1 hf).1
      simp only [List.length_singleton, bump_length, hL.ok.len] at h1 hlt
      omega
    rw [bump_length, hL.ok.len, hjj, Nat.sub_self] at hf
    simp at hf
    rw [← hf, hjj]
    simp only [fieldM]
    congr 2
    omega

theorem goM_nm (l : List Int) : ∀ (i : Nat) (m : MS), Lf i m → Nmd m.s → Nmd (goM l i m).s := by
  induction l with
  | nil => intro i m _ h; exact h
  | cons x l ih =>
    intro i m hL h
    rw [goM]
    split
    · exact ih (i + 1) _ (hL.step x) (h.step hL x)
    · exact h

theorem mk_names (ns : List Int) : ∀ (j : Nat) (f : F), 1 ≤ j → (mk ns)[j]? = some f → f.n = str [96 + j] ∧ j ≤ 12 ∨ f.n = bz ∧ j + 1 = (mk ns).length := by
  obtain ⟨i, hi, hL⟩ := goM_ok ns 0 startM Lf.start (by omega)
  have hN := goM_nm ns 0 startM Lf.start (by
    intro j f hj hf
    simp only [startM] at hf
    have h1 := (List.getElem?_eq_some_iff.1 hf).1
    simp at h1
    omega)
  have hg : (goM ns 0 startM).o.headD 0 < (goM ns 0 startM).s.length := by
    rw [hL.ok.len]
    exact hL.ok.lt _ (headD_mem hL.ok.ne)
  intro j f hj hf
  unfold mk finM at hf ⊢
  split at hf
  · rename_i h0
    rw [if_pos h0]
    by_cases hlt : j < (bump (goM ns 0 startM).s ((goM ns 0 startM).o.headD 0)).length
    · rw [List.getElem?_append_left hlt] at hf
      obtain ⟨f', h1, h2⟩ := bump_name hg hf
      left
      rw [h2]
      refine ⟨hN j f' hj h1, ?_⟩
      have := (List.getElem?_eq_some_iff.1 h1).1
      rw [hL.ok.len] at this
      omega
    · right
      rw [List.getElem?_append_right (by omega)] at hf
      have h1 := (List.getElem?_eq_some_iff.1 hf).1
      simp only [List.length_singleton] at h1
      have hj0 : j - (bump (goM ns 0 startM).s ((goM ns 0 startM).o.headD 0)).length = 0 := by omega
      rw [hj0] at hf
      simp at hf
      refine ⟨by rw [← hf], ?_⟩
      rw [List.length_append, List.length_singleton]
      omega
  · rename_i h0
    rw [if_neg h0]
    left
    refine ⟨hN j f hj hf, ?_⟩
    have := (List.getElem?_eq_some_iff.1 hf).1
    rw [hL.ok.len] at this
    omega

theorem str_one (a b : Nat) (ha : a < 256) (hb : b < 256) (h : str [a] = str [b]) : a = b := by
  have h1 : UInt8.ofNat a = UInt8.ofNat b := by
    have := congrArg (fun s : ByteArray => s.data.toList) h
    simpa [str] using this
  have h2 := congrArg UInt8.toNat h1
  simp at h2
  omega

theorem path_ne (ns : List Int) (i k : Nat) (hi : i < (mk ns).length) (hk : k < i) : pathB (mk ns) i ≠ pathB (mk ns) k := by
  intro h
  have hM := mk_ok ns
  obtain ⟨t, ht⟩ := path_last (mk ns) i (by omega) hi
  have hfi : (mk ns)[i]? = some ((mk ns).getD i default) := by rw [List.getD, List.getElem?_eq_getElem hi]; rfl
  have hni := hM.n _ (List.mem_of_getElem? hfi)
  by_cases hk0 : k = 0
  · subst hk0
    rw [path_none (mk ns) ((0 : Nat) : Int) (.inl (by omega))] at h
    rw [h] at ht
    have h2 := congrArg List.length ht
    have h3 : ((mk ns).getD i default).n.data.toList.length = 1 := by rw [Array.length_toList]; exact hni
    rw [List.length_append, h3] at h2
    have h4 : ByteArray.empty.data.toList.length = 0 := rfl
    omega
  · obtain ⟨t', ht'⟩ := path_last (mk ns) k (by omega) (by omega)
    have hfk : (mk ns)[k]? = some ((mk ns).getD k default) := by rw [List.getD, List.getElem?_eq_getElem (by omega)]; rfl
    have hnk := hM.n _ (List.mem_of_getElem? hfk)
    rw [h, ht'] at ht
    have h2 := (List.append_inj' ht (by rw [Array.length_toList, Array.length_toList]; exact hnk.trans hni.symm)).2
    have h3 : ((mk ns).getD k default).n = ((mk ns).getD i default).n := by
      have h4 := Array.toList_inj.1 h2
      cases hx : ((mk ns).getD k default).n
      cases hy : ((mk ns).getD i default).n
      rw [hx, hy] at h4
      simp only [ByteArray.mk.injEq]
      exact h4
    have hle := hM.le
    have hbz : bz = str [122] := rfl
    rcases mk_names ns k _ (by omega) hfk with ⟨h5, h5'⟩ | ⟨h5, h5'⟩
    · rcases mk_names ns i _ (by omega) hfi with ⟨h6, h6'⟩ | ⟨h6, h6'⟩
      · rw [h5, h6] at h3
        have := str_one _ _ (by omega) (by omega) h3
        omega
      · rw [h5, h6, hbz] at h3
        have := str_one _ _ (by omega) (by omega) h3
        omega
    · omega

set_option maxRecDepth 100000 in
set_option maxHeartbeats 2000000 in
theorem walk_SchemaPaths (a0 : Option Addr) (len0 cap0 : Nat) (z0 : List Int) (w : World) (w0 : IsRow .i64 w a0 len0 cap0 z0) :
    Calls Try.prog 7 #[.slice a0 len0 cap0] w fun e w' => e = .returned (.bool true) ∧ Below w.heap.size w w' := by
  obtain ⟨ns, hS, hlen, hwf⟩ := w0.seenI
  have HS := Lib.hid hS; have HWF := Lib.hid hwf
  clear w0 hS hwf hlen
  have HNE := Lib.hid (path_ne ns)
  have hmk := mk_ok ns
  obtain ⟨l, hl⟩ : ∃ l, l = mk ns := ⟨_, rfl⟩
  rw [← hl] at hmk HNE
  have HL := Lib.hid hl
  have hln := hmk.le
  have HFC := Lib.hid (show ∀ f ∈ l, f.c ≤ 9223372036854775807 from fun f hf => by have := hmk.c f hf; omega)
  have HFN := Lib.hid (show ∀ f ∈ l, f.n.size ≤ 1000 from fun f hf => by have := hmk.n f hf; omega)
  clear hmk hl
  go_enter Try.func7, Try.ntmps7
  go_wp2_with fail
  (with_reducible refine (known_any _).mono ?_)
  rintro e w1 ⟨rfl, hk⟩
  have HK1 := Lib.hid hk
  clear hk
  go_wp2_with fail
  (with_reducible refine (make_any _ ns _ (HS.out.keep HK1.out) HWF.out).mono ?_)
  rintro e w2 ⟨sv, rfl, hown, hk⟩
  rw [← HL.out] at hown
  have hSv := SeenF.own hown rfl
  obtain ⟨sa, sc, rfl⟩ := own_shape hown
  have HSF := Lib.hid hSv
  have HK2 := Lib.hid (HK1.out.trans hk (by simp))
  clear hown hSv hk
  obtain ⟨n, hn⟩ : ∃ n, n = l.length := ⟨_, rfl⟩
  rw [← hn] at hln HSF HNE ⊢
  have HN := Lib.hid hn
  have HPC := Lib.hid (show ∀ (f0 : Int) (w' : World), Chg [] w2 w' → Calls Try.prog 22 #[.slice sa n sc, .int .i64 f0] w' fun e w'' => e = .returned (.string (pathB l f0)) ∧ Chg [] w' w'' from
    fun f0 w' h => path_any _ l f0 w' (HSF.out.keep h) (by rw [← hn]; omega) HFC.out HFN.out)
  clear hn
  go_wp2
  go_loopw [4] (fun x w' => ∃ i : Nat, x = .int .i64 (i : Int) ∧ (i ≤ n ∨ i = 1) ∧ Chg [] w2 w') (fun x _ => n - (intOf x).toNat)
  case atStart => exact ⟨1, rfl, .inr rfl, Chg.refl _ _⟩
  case round =>
    obtain ⟨i, rfl, hi, hc⟩ := hrel
    have HC := Lib.hid hc
    clear hc
    by_cases hlt : i < n
    · go_wp2
      go_loopw [5] (fun x w' => ∃ k : Nat, x = .int .i64 (k : Int) ∧ k ≤ i ∧ Chg [] w2 w') (fun x _ => i - (intOf x).toNat)
      case atStart => exact ⟨0, rfl, Nat.zero_le _, HC.out⟩
      case round =>
        obtain ⟨k, rfl, hk, hc2⟩ := hrel
        have HC2 := Lib.hid hc2
        clear hc2
        by_cases hki : k < i
        · go_wp2_with fail
          refine (HPC.out (i : Int) _ HC2.out).mono ?_
          rintro e w3 ⟨rfl, hk3⟩
          have HC3 := Lib.hid (HC2.out.trans hk3 (by simp))
          clear hk3
          go_wp2_with fail
          refine (HPC.out (k : Int) _ HC3.out).mono ?_
          rintro e w4 ⟨rfl, hk4⟩
          have HC4 := Lib.hid (HC3.out.trans hk4 (by simp))
          clear hk4
          obtain ⟨pi, hpi⟩ : ∃ p, p = pathB l (i : Int) := ⟨_, rfl⟩
          obtain ⟨pk, hpk⟩ : ∃ p, p = pathB l (k : Int) := ⟨_, rfl⟩
          have hne : (pi.toList == pk.toList) = false := by
            rw [Bool.eq_false_iff]
            intro h
            exact HNE.out i k (by omega) hki (by rw [← hpi, ← hpk]; exact bytes_ext h)
          rw [← hpi, ← hpk]
          clear hpi hpk
          go_wp2
          go_roundw
          case rel => exact ⟨k + 1, by go_num, by omega, HC4.out⟩
          case measure => simp [intOf]; omega
        · go_wp2
          go_roundw
          case rel => exact ⟨i + 1, by go_num, by omega, HC2.out⟩
          case measure => simp [intOf]; omega
    · have H0 := Lib.hid (path_none l 0 (.inl (by omega)))
      have H1 := Lib.hid (path_none l (n : Int) (.inr (by rw [← HN.out]; omega)))
      have H2 := Lib.hid (path_none l (-1) (.inl (by omega)))
      go_wp2_with fail
      refine (HPC.out 0 _ HC.out).mono ?_
      rintro e w3 ⟨rfl, hk3⟩
      have HC3 := Lib.hid (HC.out.trans hk3 (by simp))
      clear hk3
      rw [H0.out]
      go_wp2_with fail
      refine (HPC.out (n : Int) _ HC3.out).mono ?_
      rintro e w4 ⟨rfl, hk4⟩
      have HC4 := Lib.hid (HC3.out.trans hk4 (by simp))
      clear hk4
      rw [H1.out]
      go_wp2_with fail
      refine (HPC.out (-1) _ HC4.out).mono ?_
      rintro e w5 ⟨rfl, hk5⟩
      have HC5 := Lib.hid (HK2.out.trans (HC4.out.trans hk5 (by simp)) (by simp))
      clear hk5
      rw [H2.out]
      go_wp2
      go_ret
      exact ⟨rfl, HC5.out.below (Nat.le_refl _) (by simp)⟩

end Go.Proofs.Ytmebgaejdjekdaa
