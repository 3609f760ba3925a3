/- The fields that text.read answers are small; contract of text.Parse. -/
import Derived.Test.YtofnpcfclcfgfaaTr
import Derived.Test.YtofnpcfclcfgfaaTy
namespace Go.Proofs.Ytofnpcfclcfgfaa
open Go.RowKit
set_option linter.unusedVariables false

def Small (f : F) : Prop := f.n.size ≤ 12 ∧ f.c ≤ 1000

theorem wnB_size {x : ByteArray} (h : wnB x = true) : x.size ≤ 12 := by
  unfold wnB at h
  simp at h
  omega

theorem setC_small {S : List F} {g : Nat} {n : Int} (hS : ∀ f ∈ S, Small f) (hn : n ≤ 1000) : ∀ f ∈ setC S g n, Small f := by
  intro f hf
  unfold setC at hf
  by_cases hg : g < S.length
  · rcases List.mem_or_eq_of_mem_set hf with h | rfl
    · exact hS f h
    · have h2 : S.getD g default ∈ S := by rw [List.getD, List.getElem?_eq_getElem hg]; exact List.getElem_mem hg
      exact ⟨(hS _ h2).1, hn⟩
  · rw [List.set_eq_of_length_le (by omega)] at hf
    exact hS f hf

theorem bumpO_le {o : List (Nat × Int)} {m : Nat} (h : ∀ e ∈ o, e.2 ≤ (m : Int)) : ∀ e ∈ bumpO o, e.2 ≤ ((m + 1 : Nat) : Int) := by
  cases o with
  | nil => intro e he; simp [bumpO] at he
  | cons a o =>
    obtain ⟨g, n⟩ := a
    intro e he
    rcases List.mem_cons.1 he with rfl | he
    · have := h (g, n) (by simp); simp only at this ⊢; omega
    · have := h e (by simp [he]); omega

theorem snoc_small {S : List F} {f : F} (hS : ∀ f ∈ S, Small f) (hf : Small f) : ∀ y ∈ S ++ [f], Small y := by
  intro y hy
  rcases List.mem_append.1 hy with h | h
  · exact hS y h
  · rw [List.mem_singleton] at h; rw [h]; exact hf

def RdOk (n : Nat) : Prop := ∀ (ws : List ByteArray) (b : Bool) (S : List F) (o : List (Nat × Int)), ws.length ≤ n → (∀ f ∈ S, Small f) → (∀ e ∈ o, e.2 ≤ (S.length : Int)) → S.length ≤ 40 → ∀ f ∈ (rdM b ws S o).2, Small f

theorem nmR_small {n : Nat} (ih : RdOk n) {ws : List ByteArray} {r k : Int} {S : List F} {o : List (Nat × Int)} (hl : ws.length ≤ n + 1) (hS : ∀ f ∈ S, Small f) (ho : ∀ e ∈ o, e.2 ≤ (S.length : Int)) : ∀ f ∈ (nmR ws r k S o).2, Small f := by
  by_cases h : refN (ws.headD ByteArray.empty) S.length o.length = 0
  · obtain ⟨hne, e⟩ := nmR_ok (r := r) (k := k) h
    obtain ⟨h40, h8, hw⟩ := refN_zero h
    have hf : Small ⟨ws.headD ByteArray.empty, r, k, 0⟩ := ⟨wnB_size hw, by simp⟩
    have hpos : 0 < ws.length := List.length_pos_iff.2 hne
    have hlt : ws.tail.tail.length ≤ n := by simp; omega
    have hS' := snoc_small hS hf
    have hlen : (S ++ [(⟨ws.headD ByteArray.empty, r, k, 0⟩ : F)]).length = S.length + 1 := by simp
    rw [e]
    split
    · refine ih _ _ _ _ hlt hS' ?_ (by rw [hlen]; omega)
      intro e he
      rw [hlen]
      rcases List.mem_cons.1 he with rfl | he
      · simp only; omega
      · exact bumpO_le ho e he
    · split
      · refine ih _ _ _ _ hlt hS' ?_ (by rw [hlen]; omega)
        rw [hlen]
        exact bumpO_le ho
      · intro f hf; simp at hf
  · rw [nmR_bad h]; intro f hf; simp at hf

theorem rdM_small : ∀ n, RdOk n := by
  intro n
  induction n with
  | zero =>
    intro ws b S o hl _ _ _ f hf
    have : ws = [] := List.eq_nil_of_length_eq_zero (by omega)
    subst this
    rw [rdM.eq_def] at hf
    simp at hf
  | succ n ih =>
    intro ws b S o hl hS ho h40
    cases ws with
    | nil => intro f hf; rw [rdM.eq_def] at hf; simp at hf
    | cons w t =>
      have ht : t.length ≤ n := by simp at hl; omega
      by_cases hc : b = false ∧ w = wCl
      · obtain ⟨rfl, rfl⟩ := hc
        cases o with
        | nil => intro f hf; rw [rdM.eq_def] at hf; simp at hf
        | cons e o =>
          obtain ⟨g, c⟩ := e
          have hcl := ho (g, c) (by simp)
          simp only at hcl
          have hSC := setC_small (g := g) hS (show c ≤ 1000 by omega)
          rw [rdM_close]
          split
          · split
            · exact hSC
            · intro f hf; simp at hf
          · refine ih t false _ o ht hSC ?_ (by simpa using h40)
            intro e he
            rw [setC_length]
            exact ho e (by simp [he])
      · rw [rdM_fd hc]
        unfold fdR
        split
        · intro f hf; simp at hf
        · refine nmR_small ih (by simp; omega) hS ho

theorem rdS_small (ws : List ByteArray) : ∀ f ∈ (rdS ws).2, Small f := by
  unfold rdS
  split
  · exact nmR_small (rdM_small ws.length) (by simp; omega) (by simp) (by simp)
  · intro f hf; simp at hf

/-- What Parse answers of these bytes. -/
def parseL (l : List Nat) : Int × List F :=
  if 4000 < l.length then (5, []) else
  match wordsL l with
  | none => (6, [])
  | some ws => if (rdS (ws.map str)).1 ≠ 0 then ((rdS (ws.map str)).1, []) else if chk (rdS (ws.map str)).2 ≠ 0 then (chk (rdS (ws.map str)).2, []) else (0, (rdS (ws.map str)).2)

theorem parseL_long {l : List Nat} (h : 4000 < l.length) : parseL l = (5, []) := by unfold parseL; rw [if_pos h]
theorem parseL_none {l : List Nat} (h : ¬ 4000 < l.length) (hw : wordsL l = none) : parseL l = (6, []) := by unfold parseL; rw [if_neg h, hw]
theorem parseL_some {l : List Nat} {ws : List (List Nat)} (h : ¬ 4000 < l.length) (hw : wordsL l = some ws) : parseL l = if (rdS (ws.map str)).1 ≠ 0 then ((rdS (ws.map str)).1, []) else if chk (rdS (ws.map str)).2 ≠ 0 then (chk (rdS (ws.map str)).2, []) else (0, (rdS (ws.map str)).2) := by unfold parseL; rw [if_neg h, hw]

set_option maxRecDepth 100000 in
set_option maxHeartbeats 2000000 in
theorem parse_any (s : ByteArray) (w : World) (hs : s.size ≤ 9223372036854775807) :
    Calls Try.prog 19 #[.string s] w fun e w' => Chg [] w w' ∧ ReadOut (parseL (bl s)) w e w' := by
  by_cases h4 : 4000 < s.size
  · have d1 : decide ((4000 : Int) < (s.size : Int)) = true := by simp; omega
    have E := Lib.hid (parseL_long (l := bl s) (by simpa using h4))
    clear h4
    go_enter Try.func19, Try.ntmps19
    go_wp2
    go_ret2
    exact ⟨Chg.refl [] w, .inr ⟨by rw [E.out]; decide, by rw [E.out]; rfl⟩⟩
  have d1 : decide ((4000 : Int) < (s.size : Int)) = false := by simp; omega
  have H4 := Lib.hid (show ¬ 4000 < (bl s).length by simpa using h4)
  have hs4 : s.size ≤ 4000 := by omega
  clear h4
  go_enter Try.func19, Try.ntmps19
  go_wp2_with fail
  (with_reducible refine (split_any s w hs4).mono ?_)
  rintro e w1 ⟨hk1, hout⟩
  have HK1 := Lib.hid hk1
  clear hk1
  unfold SplitOut at hout
  cases hw : wordsL (bl s) with
  | none =>
    rw [hw] at hout
    have E := Lib.hid (parseL_none H4.out hw)
    clear hw
    simp only at hout
    subst hout
    go_wp2
    go_ret2
    exact ⟨HK1.out, .inr ⟨by rw [E.out]; decide, by rw [E.out]; rfl⟩⟩
  | some ws =>
    rw [hw] at hout
    have E := Lib.hid (parseL_some H4.out hw)
    have HWZ := Lib.hid (words_size hw hs4)
    clear hw
    obtain ⟨v, rfl, hown, hwl⟩ := hout
    obtain ⟨va, vc, rfl⟩ := own_shape hown
    have HS1 := Lib.hid (own_seenS hown (by simp))
    clear hown
    obtain ⟨R, hR⟩ : ∃ R, R = rdS (ws.map str) := ⟨_, rfl⟩
    rw [← hR] at E
    have HSM := Lib.hid (show ∀ f ∈ R.2, Small f by rw [hR]; exact rdS_small _)
    have HRA := Lib.hid (read_any _ (ws.map str) w1 HS1.out HWZ.out (by simpa using hwl))
    rw [← hR] at HRA
    clear hR
    go_wp2_with fail
    (with_reducible refine HRA.out.mono ?_)
    rintro e w2 ⟨hk2, hout⟩
    have HK2 := Lib.hid (HK1.out.trans hk2 (by simp))
    clear hk2
    rcases hout with ⟨h0, v2, rfl, hown⟩ | ⟨h0, rfl⟩
    · have hE := E.out
      rw [if_neg (by rw [h0]; simp)] at hE
      have HO2 := Lib.hid (own_mono hown HK1.out.size)
      obtain ⟨a2, c2, rfl⟩ := own_shape hown
      have HSF := Lib.hid (SeenF.own HO2.out rfl)
      have HCK := Lib.hid (check_any _ R.2 w2 HSF.out (fun f hf => by have := (HSM.out f hf).2; omega) (fun f hf => by have := (HSM.out f hf).1; omega))
      obtain ⟨cv, hcv⟩ : ∃ c, c = chk R.2 := ⟨_, rfl⟩
      rw [← hcv] at hE HCK
      have HE := Lib.hid hE
      clear hown hE hcv h0
      go_wp2_with fail
      (with_reducible refine HCK.out.mono ?_)
      rintro e w3 ⟨rfl, hk3⟩
      have HO3 := Lib.hid (own_chg HO2.out hk3 (by simp))
      have HK3 := Lib.hid (HK2.out.trans hk3 (by simp))
      clear hk3
      by_cases hc0 : cv = 0
      · have q1 : (cv != 0) = false := by simpa using hc0
        have HE2 := Lib.hid (show parseL (bl s) = (0, R.2) by rw [HE.out, if_neg (by rw [hc0]; simp)])
        clear hc0
        go_wp2
        go_ret2
        exact ⟨HK3.out, .inl ⟨by rw [HE2.out], _, rfl, by rw [HE2.out]; exact HO3.out⟩⟩
      · have q1 : (cv != 0) = true := by simpa using hc0
        have HE2 := Lib.hid (show parseL (bl s) = (cv, []) by rw [HE.out, if_pos hc0])
        have HC0 := Lib.hid hc0
        clear hc0
        go_wp2
        go_ret2
        exact ⟨HK3.out, .inr ⟨by rw [HE2.out]; exact HC0.out, by rw [HE2.out]; rfl⟩⟩
    · have hE := E.out
      rw [if_pos h0] at hE
      obtain ⟨rv, hrv⟩ : ∃ r, r = R.1 := ⟨_, rfl⟩
      rw [← hrv] at hE h0 ⊢
      have HE := Lib.hid hE
      have q1 : (rv != 0) = true := by simpa using h0
      have H0 := Lib.hid h0
      clear hE hrv h0
      go_wp2
      go_ret2
      exact ⟨HK2.out, .inr ⟨by rw [HE.out]; exact H0.out, by rw [HE.out]; rfl⟩⟩

end Go.Proofs.Ytofnpcfclcfgfaa
