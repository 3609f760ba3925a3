/- Tz, K6, Fw, Fm: texts of one group, one behind the other. -/
import Derived.Test.YtofnpcfclcfgfaaTr
import Derived.Test.YtofnpcfclcfgfaaA8
import Derived.Test.YtofnpcfclcfgfaaA5
namespace Go.Proofs.Ytofnpcfclcfgfaa
open Go.RowKit
set_option linter.unusedVariables false

def Small (f : F) : Prop := f.n.size ≤ 12 ∧ f.c ≤ 1000

theorem wnB_size {x : ByteArray} (h : wnB x = true) : x.size ≤ 12 := by
  unfold wnB at h
  simp at h
  omega

theorem setC_small {S : List F} {g : Nat} {n : Int} (hS : ∀ f ∈ S, Small f) (hn : n ≤ 1000) : ∀ f ∈ setC S g n, Small f := by
  intro f hf
  unfold setC at hf
  by_cases hg : g < S.length
  · rcases List.mem_or_eq_of_mem_set hf with h | rfl
    · exact hS f h
    · have h2 : S.getD g default ∈ S := by rw [List.getD, List.getElem?_eq_getElem hg]; exact List.getElem_mem hg
      exact ⟨(hS _ h2).1, hn⟩
  · rw [List.set_eq_of_length_le (by omega)] at hf
    exact hS f hf

theorem bumpO_le {o : List (Nat × Int)} {m : Nat} (h : ∀ e ∈ o, e.2 ≤ (m : Int)) : ∀ e ∈ bumpO o, e.2 ≤ ((m + 1 : Nat) : Int) := by
  cases o with
  | nil => intro e he; simp [bumpO] at he
  | cons a o =>
    obtain ⟨g, n⟩ := a
    intro e he
    rcases List.mem_cons.1 he with rfl | he
    · have := h (g, n) (by simp); simp only at this ⊢; omega
    · have := h e (by simp [he]); omega

theorem snoc_small {S : List F} {f : F} (hS : ∀ f ∈ S, Small f) (hf : Small f) : ∀ y ∈ S ++ [f], Small y := by
  intro y hy
  rcases List.mem_append.1 hy with h | h
  · exact hS y h
  · rw [List.mem_singleton] at h; rw [h]; exact hf

def RdOk (n : Nat) : Prop := ∀ (ws : List ByteArray) (b : Bool) (S : List F) (o : List (Nat × Int)), ws.length ≤ n → (∀ f ∈ S, Small f) → (∀ e ∈ o, e.2 ≤ (S.length : Int)) → S.length ≤ 40 → ∀ f ∈ (rdM b ws S o).2, Small f

theorem nmR_small {n : Nat} (ih : RdOk n) {ws : List ByteArray} {r k : Int} {S : List F} {o : List (Nat × Int)} (hl : ws.length ≤ n + 1) (hS : ∀ f ∈ S, Small f) (ho : ∀ e ∈ o, e.2 ≤ (S.length : Int)) : ∀ f ∈ (nmR ws r k S o).2, Small f := by
  by_cases h : refN (ws.headD ByteArray.empty) S.length o.length = 0
  · obtain ⟨hne, e⟩ := nmR_ok (r := r) (k := k) h
    obtain ⟨h40, h8, hw⟩ := refN_zero h
    have hf : Small ⟨ws.headD ByteArray.empty, r, k, 0⟩ := ⟨wnB_size hw, by simp⟩
    have hpos : 0 < ws.length := List.length_pos_iff.2 hne
    have hlt : ws.tail.tail.length ≤ n := by simp; omega
    have hS' := snoc_small hS hf
    have hlen : (S ++ [(⟨ws.headD ByteArray.empty, r, k, 0⟩ : F)]).length = S.length + 1 := by simp
    rw [e]
    split
    · refine ih _ _ _ _ hlt hS' ?_ (by rw [hlen]; omega)
      intro e he
      rw [hlen]
      rcases List.mem_cons.1 he with rfl | he
      · simp only; omega
      · exact bumpO_le ho e he
    · split
      · refine ih _ _ _ _ hlt hS' ?_ (by rw [hlen]; omega)
        rw [hlen]
        exact bumpO_le ho
      · intro f hf; simp at hf
  · rw [nmR_bad h]; intro f hf; simp at hf

theorem rdM_small : ∀ n, RdOk n := by
  intro n
  induction n with
  | zero =>
    intro ws b S o hl _ _ _ f hf
    have : ws = [] := List.eq_nil_of_length_eq_zero (by omega)
    subst this
    rw [rdM.eq_def] at hf
    simp at hf
  | succ n ih =>
    intro ws b S o hl hS ho h40
    cases ws with
    | nil => intro f hf; rw [rdM.eq_def] at hf; simp at hf
    | cons w t =>
      have ht : t.length ≤ n := by simp at hl; omega
      by_cases hc : b = false ∧ w = wCl
      · obtain ⟨rfl, rfl⟩ := hc
        cases o with
        | nil => intro f hf; rw [rdM.eq_def] at hf; simp at hf
        | cons e o =>
          obtain ⟨g, c⟩ := e
          have hcl := ho (g, c) (by simp)
          simp only at hcl
          have hSC := setC_small (g := g) hS (show c ≤ 1000 by omega)
          rw [rdM_close]
          split
          · split
            · exact hSC
            · intro f hf; simp at hf
          · refine ih t false _ o ht hSC ?_ (by simpa using h40)
            intro e he
            rw [setC_length]
            exact ho e (by simp [he])
      · rw [rdM_fd hc]
        unfold fdR
        split
        · intro f hf; simp at hf
        · refine nmR_small ih (by simp; omega) hS ho

theorem rdS_small (ws : List ByteArray) : ∀ f ∈ (rdS ws).2, Small f := by
  unfold rdS
  split
  · exact nmR_small (rdM_small ws.length) (by simp; omega) (by simp) (by simp)
  · intro f hf; simp at hf

/-- What Parse answers of these bytes. -/
def parseL (l : List Nat) : Int × List F :=
  if 4000 < l.length then (5, []) else
  match wordsL l with
  | none => (6, [])
  | some ws => if (rdS (ws.map str)).1 ≠ 0 then ((rdS (ws.map str)).1, []) else if chk (rdS (ws.map str)).2 ≠ 0 then (chk (rdS (ws.map str)).2, []) else (0, (rdS (ws.map str)).2)

theorem parseL_long {l : List Nat} (h : 4000 < l.length) : parseL l = (5, []) := by unfold parseL; rw [if_pos h]
theorem parseL_none {l : List Nat} (h : ¬ 4000 < l.length) (hw : wordsL l = none) : parseL l = (6, []) := by unfold parseL; rw [if_neg h, hw]
theorem parseL_some {l : List Nat} {ws : List (List Nat)} (h : ¬ 4000 < l.length) (hw : wordsL l = some ws) : parseL l = if (rdS (ws.map str)).1 ≠ 0 then ((rdS (ws.map str)).1, []) else if chk (rdS (ws.map str)).2 ≠ 0 then (chk (rdS (ws.map str)).2, []) else (0, (rdS (ws.map str)).2) := by unfold parseL; rw [if_neg h, hw]

set_option maxRecDepth 100000 in
set_option maxHeartbeats 2000000 in
theorem parse_any (s : ByteArray) (w : World) (hs : s.size ≤ 9223372036854775807) :
    Calls Try.prog 19 #[.string s] w fun e w' => Chg [] w w' ∧ ReadOut (parseL (bl s)) w e w' := by
  by_cases h4 : 4000 < s.size
  · have d1 : decide ((4000 : Int) < (s.size : Int)) = true := by simp; omega
    have E := Lib.hid (parseL_long (l := bl s) (by simpa using h4))
    clear h4
    go_enter Try.func19, Try.ntmps19
    go_wp2
    go_ret2
    exact ⟨Chg.refl [] w, .inr ⟨by rw [E.out]; decide, by rw [E.out]; rfl⟩⟩
  have d1 : decide ((4000 : Int) < (s.size : Int)) = false := by simp; omega
  have H4 := Lib.hid (show ¬ 4000 < (bl s).length by simpa using h4)
  have hs4 : s.size ≤ 4000 := by omega
  clear h4
  go_enter Try.func19, Try.ntmps19
  go_wp2_with fail
  (with_reducible refine (split_any s w hs4).mono ?_)
  rintro e w1 ⟨hk1, hout⟩
  have HK1 := Lib.hid hk1
  clear hk1
  unfold SplitOut at hout
  cases hw : wordsL (bl s) with
  | none =>
    rw [hw] at hout
    have E := Lib.hid (parseL_none H4.out hw)
    clear hw
    simp only at hout
    subst hout
    go_wp2
    go_ret2
    exact ⟨HK1.out, .inr ⟨by rw [E.out]; decide, by rw [E.out]; rfl⟩⟩
  | some ws =>
    rw [hw] at hout
    have E := Lib.hid (parseL_some H4.out hw)
    have HWZ := Lib.hid (words_size hw hs4)
    clear hw
    obtain ⟨v, rfl, hown, hwl⟩ := hout
    obtain ⟨va, vc, rfl⟩ := own_shape hown
    have HS1 := Lib.hid (own_seenS hown (by simp))
    clear hown
    obtain ⟨R, hR⟩ : ∃ R, R = rdS (ws.map str) := ⟨_, rfl⟩
    rw [← hR] at E
    have HSM := Lib.hid (show ∀ f ∈ R.2, Small f by rw [hR]; exact rdS_small _)
    have HRA := Lib.hid (read_any _ (ws.map str) w1 HS1.out HWZ.out (by simpa using hwl))
    rw [← hR] at HRA
    clear hR
    go_wp2_with fail
    (with_reducible refine HRA.out.mono ?_)
    rintro e w2 ⟨hk2, hout⟩
    have HK2 := Lib.hid (HK1.out.trans hk2 (by simp))
    clear hk2
    rcases hout with ⟨h0, v2, rfl, hown⟩ | ⟨h0, rfl⟩
    · have hE := E.out
      rw [if_neg (by rw [h0]; simp)] at hE
      have HO2 := Lib.hid (own_mono hown HK1.out.size)
      obtain ⟨a2, c2, rfl⟩ := own_shape hown
      have HSF := Lib.hid (SeenF.own HO2.out rfl)
      have HCK := Lib.hid (check_any _ R.2 w2 HSF.out (fun f hf => by have := (HSM.out f hf).2; omega) (fun f hf => by have := (HSM.out f hf).1; omega))
      obtain ⟨cv, hcv⟩ : ∃ c, c = chk R.2 := ⟨_, rfl⟩
      rw [← hcv] at hE HCK
      have HE := Lib.hid hE
      clear hown hE hcv h0
      go_wp2_with fail
      (with_reducible refine HCK.out.mono ?_)
      rintro e w3 ⟨rfl, hk3⟩
      have HO3 := Lib.hid (own_chg HO2.out hk3 (by simp))
      have HK3 := Lib.hid (HK2.out.trans hk3 (by simp))
      clear hk3
      by_cases hc0 : cv = 0
      · have q1 : (cv != 0) = false := by simpa using hc0
        have HE2 := Lib.hid (show parseL (bl s) = (0, R.2) by rw [HE.out, if_neg (by rw [hc0]; simp)])
        clear hc0
        go_wp2
        go_ret2
        exact ⟨HK3.out, .inl ⟨by rw [HE2.out], _, rfl, by rw [HE2.out]; exact HO3.out⟩⟩
      · have q1 : (cv != 0) = true := by simpa using hc0
        have HE2 := Lib.hid (show parseL (bl s) = (cv, []) by rw [HE.out, if_pos hc0])
        have HC0 := Lib.hid hc0
        clear hc0
        go_wp2
        go_ret2
        exact ⟨HK3.out, .inr ⟨by rw [HE2.out]; exact HC0.out, by rw [HE2.out]; rfl⟩⟩
    · have hE := E.out
      rw [if_pos h0] at hE
      obtain ⟨rv, hrv⟩ : ∃ r, r = R.1 := ⟨_, rfl⟩
      rw [← hrv] at hE h0 ⊢
      have HE := Lib.hid hE
      have q1 : (rv != 0) = true := by simpa using h0
      have H0 := Lib.hid h0
      clear hE hrv h0
      go_wp2
      go_ret2
      exact ⟨HK2.out, .inr ⟨by rw [HE.out]; exact H0.out, by rw [HE.out]; rfl⟩⟩

end Go.Proofs.Ytofnpcfclcfgfaa

namespace Go.Proofs.Ytofnpcfclcfgfaa
open Go.RowKit
set_option linter.unusedVariables false

def knT : ByteArray := { data := #[109, 101, 115, 115, 97, 103, 101, 32, 109, 32, 123, 32, 114, 101, 113, 117, 105, 114, 101, 100, 32, 98, 111, 111, 108, 32, 97, 59, 32, 125] }
def badL : List ByteArray := [{ data := #[] }, { data := #[109, 101, 115, 115, 97, 103, 101] }, { data := #[109, 101, 115, 115, 97, 103, 101, 32, 109] }, { data := #[109, 101, 115, 115, 97, 103, 101, 32, 109, 32, 123] }, { data := #[109, 101, 115, 115, 97, 103, 101, 32, 109, 32, 123, 32, 125] }, { data := #[109, 101, 115, 115, 97, 103, 101, 32, 109, 32, 123, 32, 114, 101, 113, 117, 105, 114, 101, 100, 32, 98, 111, 111, 108, 32, 97, 32, 125] }, { data := #[109, 101, 115, 115, 97, 103, 101, 32, 109, 32, 123, 32, 114, 101, 113, 117, 105, 114, 101, 100, 32, 98, 111, 111, 108, 59, 32, 125] }, { data := #[109, 101, 115, 115, 97, 103, 101, 32, 109, 32, 123, 32, 98, 111, 111, 108, 32, 97, 59, 32, 125] }, { data := #[109, 101, 115, 115, 97, 103, 101, 32, 109, 32, 123, 32, 114, 101, 113, 117, 105, 114, 101, 100, 32, 103, 114, 111, 117, 112, 32, 103, 32, 123, 32, 125, 32, 125] }, { data := #[109, 101, 115, 115, 97, 103, 101, 32, 109, 32, 123, 32, 114, 101, 113, 117, 105, 114, 101, 100, 32, 98, 111, 111, 108, 32, 97, 59, 32, 125, 32, 59] }, { data := #[109, 101, 115, 115, 97, 103, 101, 32, 109, 32, 123, 32, 114, 101, 113, 117, 105, 114, 101, 100, 32, 98, 111, 111, 108, 32, 97, 59, 59, 32, 125] }, { data := #[109, 101, 115, 115, 97, 103, 101, 32, 109, 32, 123, 32, 114, 101, 113, 117, 105, 114, 101, 100, 32, 116, 101, 120, 116, 32, 97, 59, 32, 125] }, { data := #[77, 101, 115, 115, 97, 103, 101, 32, 109, 32, 123, 32, 114, 101, 113, 117, 105, 114, 101, 100, 32, 98, 111, 111, 108, 32, 97, 59, 32, 125] }, { data := #[109, 101, 115, 115, 97, 103, 101, 32, 109, 32, 123, 32, 114, 101, 113, 117, 105, 114, 101, 100, 32, 98, 111, 111, 108, 32, 65, 59, 32, 125] }, { data := #[109, 101, 115, 115, 97, 103, 101, 32, 109, 32, 123, 32, 114, 101, 113, 117, 105, 114, 101, 100, 32, 98, 111, 111, 108, 32, 97, 59, 32, 111, 112, 116, 105, 111, 110, 97, 108, 32, 98, 111, 111, 108, 32, 97, 59, 32, 125] }, { data := #[109, 101, 115, 115, 97, 103, 101, 32, 49, 109, 32, 123, 32, 114, 101, 113, 117, 105, 114, 101, 100, 32, 98, 111, 111, 108, 32, 97, 59, 32, 125] }, { data := #[109, 101, 115, 115, 97, 103, 101, 32, 97, 98, 99, 100, 101, 102, 103, 104, 105, 106, 107, 108, 109, 32, 123, 32, 114, 101, 113, 117, 105, 114, 101, 100, 32, 98, 111, 111, 108, 32, 97, 59, 32, 125] }, { data := #[109, 101, 115, 115, 97, 103, 101, 32, 109, 32, 123, 32, 114, 101, 113, 117, 105, 114, 101, 100, 32, 98, 111, 111, 108, 32, 97, 59, 32, 125, 32, 125] }]
def wdL : List ByteArray := [{ data := #[109, 101, 115, 115, 97, 103, 101] }, { data := #[103, 114, 111, 117, 112] }, { data := #[114, 101, 113, 117, 105, 114, 101, 100] }, { data := #[111, 112, 116, 105, 111, 110, 97, 108] }, { data := #[114, 101, 112, 101, 97, 116, 101, 100] }, { data := #[98, 111, 111, 108] }, { data := #[105, 110, 116, 51, 50] }, { data := #[105, 110, 116, 54, 52] }, { data := #[98, 121, 116, 101, 115] }]
def wA : ByteArray := { data := #[109, 101, 115, 115, 97, 103, 101, 32] }
def wB : ByteArray := { data := #[32, 123, 32, 114, 101, 112, 101, 97, 116, 101, 100, 32, 103, 114, 111, 117, 112, 32] }
def wC : ByteArray := { data := #[32, 123, 32, 111, 112, 116, 105, 111, 110, 97, 108, 32, 105, 110, 116, 51, 50, 32] }
def wD : ByteArray := { data := #[59, 32, 125, 32, 125] }
def wdT (x : ByteArray) : ByteArray := wA ++ x ++ wB ++ x ++ wC ++ x ++ wD
def knS : List F := [⟨{ data := #[109] }, 0, 0, 1⟩, ⟨{ data := #[97] }, 0, 1, 0⟩]

set_option maxRecDepth 100000 in
theorem kn_parse : parseL (bl knT) = (0, knS) := by decide +kernel
set_option maxRecDepth 100000 in
theorem bad_parse : ∀ k, k < 18 → parseL (bl (badL.getD k ByteArray.empty)) = (if k = 14 then 7 else 6, []) := by decide +kernel
set_option maxRecDepth 100000 in
theorem wd_parse : ∀ k, k < 9 → parseL (bl (wdT (wdL.getD k ByteArray.empty))) = (0, [⟨wdL.getD k ByteArray.empty, 0, 0, 1⟩, ⟨wdL.getD k ByteArray.empty, 2, 0, 1⟩, ⟨wdL.getD k ByteArray.empty, 1, 2, 0⟩]) := by decide +kernel
theorem wd_size : ∀ k, k < 9 → (wdL.getD k ByteArray.empty).size ≤ 10 := by decide +kernel

set_option maxHeartbeats 1000000 in
theorem known6_any (w : World) : Calls Try.prog 16 #[] w fun e w' => e = .returned (.bool true) ∧ Chg [] w w' := by
  have HP := Lib.hid (parse_any knT w (by decide))
  rw [kn_parse] at HP
  unfold knT at HP
  go_enter Try.func16, Try.ntmps16
  go_wp2_with fail
  (with_reducible refine HP.out.mono ?_)
  rintro e w1 ⟨hk, hout⟩
  have HK := Lib.hid hk
  clear hk
  rcases hout with ⟨-, v, rfl, hown⟩ | ⟨h0, -⟩
  · obtain ⟨a, c, rfl⟩ := own_shape hown
    obtain ⟨g, rfl, -, -, -, hcl⟩ := own_ptr hown (by decide)
    have c6 := hcl 6 (.int .i64 1) rfl
    clear hcl hown
    go_wp2
    go_ret
    exact ⟨rfl, HK.out⟩
  · exact absurd rfl h0

end Go.Proofs.Ytofnpcfclcfgfaa

namespace Go.Proofs.Ytofnpcfclcfgfaa
open Go.RowKit
set_option linter.unusedVariables false

/-! ### words, sign by sign -/

abbrev WS := Option (List (List Nat) × List Nat)
def flush (cur : List Nat) : List (List Nat) := if cur = [] then [] else [cur]
def wst : WS → Nat → WS
  | none, _ => none
  | some (ws, cur), c => if sgnB c = true then some (ws, cur ++ [c]) else if stnB c = false ∧ blkB c = false then none else some (ws ++ (flush cur ++ (if stnB c = true then [[c]] else [])), [])
def wrun (s : WS) (l : List Nat) : WS := l.foldl wst s

@[simp] theorem wrun_nil (s : WS) : wrun s [] = s := rfl
theorem wrun_cons (s : WS) (c : Nat) (l : List Nat) : wrun s (c :: l) = wrun (wst s c) l := rfl
theorem wrun_append (s : WS) (a b : List Nat) : wrun s (a ++ b) = wrun (wrun s a) b := List.foldl_append
theorem wrun_none (l : List Nat) : wrun none l = none := by
  induction l with
  | nil => rfl
  | cons c l ih => rw [wrun_cons]; exact ih

theorem wst_sgn {ws : List (List Nat)} {cur : List Nat} {c : Nat} (h : sgnB c = true) : wst (some (ws, cur)) c = some (ws, cur ++ [c]) := by rw [wst, if_pos h]
theorem wst_bad {s : WS} {c : Nat} (h : sgnB c = false) (h1 : stnB c = false) (h2 : blkB c = false) : wst s c = none := by
  cases s with
  | none => rfl
  | some p => obtain ⟨ws, cur⟩ := p; rw [wst, if_neg (by rw [h]; simp), if_pos ⟨h1, h2⟩]
theorem wst_stn {ws : List (List Nat)} {cur : List Nat} {c : Nat} (h : sgnB c = false) (h1 : stnB c = true) : wst (some (ws, cur)) c = some (ws ++ (flush cur ++ [[c]]), []) := by
  rw [wst, if_neg (by rw [h]; simp), if_neg (by rw [h1]; simp), if_pos h1]
theorem wst_blk {ws : List (List Nat)} {cur : List Nat} {c : Nat} (h : sgnB c = false) (h1 : stnB c = false) (h2 : blkB c = true) : wst (some (ws, cur)) c = some (ws ++ flush cur, []) := by
  rw [wst, if_neg (by rw [h]; simp), if_neg (by rw [h2]; simp), if_neg (by rw [h1]; simp), List.append_nil]

theorem wdM_run (l : List Nat) : ∀ (ws : List (List Nat)) (cur : List Nat), (wdM cur l).map (ws ++ ·) = (wrun (some (ws, cur)) l).map (·.1) := by
  induction l with
  | nil => intro ws cur; simp [wdM]
  | cons c l ih =>
    intro ws cur
    rw [wrun_cons]
    cases h : sgnB c
    · cases h1 : stnB c
      · cases h2 : blkB c
        · rw [wdM_bad h h1 h2, wst_bad h h1 h2, wrun_none]; rfl
        · rw [wdM_blk h h1 h2, wst_blk h h1 h2, ← ih, map_app]; rfl
      · rw [wdM_stn h h1, wst_stn h h1, ← ih]
        unfold flush
        cases wdM [] l <;> simp
    · rw [wdM_sgn h, wst_sgn h, ih]

def w0 : WS := some ([], [])
theorem wordsL_run (l : List Nat) : wordsL l = (wrun w0 (l ++ [10])).map (·.1) := by
  have h := wdM_run (l ++ [10]) [] []
  unfold wordsL w0
  rw [← h]
  cases wdM [] (l ++ [10]) <;> simp

theorem wordsL_bad (a b : List Nat) (c : Nat) (h : sgnB c = false) (h1 : stnB c = false) (h2 : blkB c = false) : wordsL (a ++ c :: b) = none := by
  rw [wordsL_run, List.append_assoc, wrun_append, List.cons_append, wrun_cons, wst_bad h h1 h2, wrun_none]
  rfl

/-- What ends behind a blank is done. -/
theorem wordsL_done {l : List Nat} {ws : List (List Nat)} (h : wrun w0 l = some (ws, [])) : wordsL l = some ws := by
  rw [wordsL_run, wrun_append, h, wrun_cons, wst_blk (by decide) (by decide) (by decide)]
  simp [flush]

theorem wrun_word {w : List Nat} (hw : ∀ c ∈ w, sgnB c = true) : ∀ (ws : List (List Nat)) (cur : List Nat), wrun (some (ws, cur)) w = some (ws, cur ++ w) := by
  induction w with
  | nil => intro ws cur; simp
  | cons c w ih =>
    intro ws cur
    rw [wrun_cons, wst_sgn (hw c (by simp)), ih fun x hx => hw x (by simp [hx])]
    simp

/-! ### bytes of texts -/

theorem bl_append (a b : ByteArray) : bl (a ++ b) = bl a ++ bl b := by
  unfold bl
  rw [← List.map_append]
  congr 1
theorem bl_mk (a : Array UInt8) : bl { data := a } = a.toList.map (·.toNat) := rfl

theorem blkS_run (d : Nat) : ∀ (ws : List (List Nat)), wrun (some (ws, [])) (bl (blkS d)) = some (ws, []) := by
  induction d with
  | zero => intro ws; rfl
  | succ d ih =>
    intro ws
    rw [blkS, bl_append, wrun_append, ih]
    rw [show bl ({ data := #[32, 32] } : ByteArray) = [32, 32] from rfl, wrun_cons, wst_blk (by decide) (by decide) (by decide), wrun_cons, wst_blk (by decide) (by decide) (by decide)]
    simp [flush]

/-- A field that a schema may have. -/
structure FFine (f : F) : Prop where
  r : 0 ≤ f.r ∧ f.r ≤ 2
  k : 0 ≤ f.k ∧ f.k ≤ 4
  n : nameB (bl f.n) = true
  c : f.k = 0 → 1 ≤ f.c

theorem nameB_sgn {l : List Nat} (h : nameB l = true) : (∀ c ∈ l, sgnB c = true) ∧ l ≠ [] ∧ l.length ≤ 12 ∧ letB (l.getD 0 0) = true := by
  unfold nameB at h
  simp only [Bool.and_eq_true, decide_eq_true_eq, List.all_eq_true] at h
  refine ⟨h.2.2.2, ?_, h.2.1, h.2.2.1⟩
  intro e
  rw [e] at h
  exact absurd h.1 (by decide)

theorem rep_word : ∀ k, k < 3 → (∀ c ∈ bl (repsL.getD k ByteArray.empty), sgnB c = true) ∧ bl (repsL.getD k ByteArray.empty) ≠ [] ∧ ixR (repsL.getD k ByteArray.empty) = k ∧ (repsL.getD k ByteArray.empty).size ≤ 8 := by decide
theorem kind_word : ∀ k, k < 5 → (∀ c ∈ bl (kindsL.getD k ByteArray.empty), sgnB c = true) ∧ bl (kindsL.getD k ByteArray.empty) ≠ [] ∧ ixK (kindsL.getD k ByteArray.empty) = k ∧ (kindsL.getD k ByteArray.empty).size ≤ 5 := by decide

theorem wrun_blank {ws : List (List Nat)} {cur : List Nat} (h : cur ≠ []) : wrun (some (ws, cur)) [32] = some (ws ++ [cur], []) := by
  rw [wrun_cons, wst_blk (by decide) (by decide) (by decide)]
  simp [flush, h]

theorem head_run (d : Nat) (f : F) (hf : FFine f) (ws : List (List Nat)) : wrun (some (ws, [])) (bl (headS (d + 1) f)) = some (ws ++ [bl (repW f), bl (kindW f)], bl f.n) := by
  obtain ⟨r1, r2, -, -⟩ := rep_word f.r.toNat (by have := hf.r; omega)
  obtain ⟨k1, k2, -, -⟩ := kind_word f.k.toNat (by have := hf.k; omega)
  obtain ⟨n1, -, -, -⟩ := nameB_sgn hf.n
  unfold headS repW kindW
  rw [if_neg (by omega), bl_append, bl_append, bl_append, bl_append, bl_append, wrun_append, wrun_append, wrun_append, wrun_append, wrun_append, blkS_run, wrun_word r1, List.nil_append]
  rw [show bl ({ data := #[32] } : ByteArray) = [32] from rfl, wrun_blank r2, wrun_word k1, List.nil_append, wrun_blank k2, wrun_word n1, List.nil_append]
  simp

theorem end_leaf {ws : List (List Nat)} {cur : List Nat} (h : cur ≠ []) : wrun (some (ws, cur)) (bl ({ data := #[59, 10] } : ByteArray)) = some (ws ++ [cur, [59]], []) := by
  rw [show bl ({ data := #[59, 10] } : ByteArray) = [59, 10] from rfl, wrun_cons, wst_stn (by decide) (by decide), wrun_cons, wst_blk (by decide) (by decide) (by decide)]
  simp [flush, h]
theorem end_group {ws : List (List Nat)} {cur : List Nat} (h : cur ≠ []) : wrun (some (ws, cur)) (bl ({ data := #[32, 123, 10] } : ByteArray)) = some (ws ++ [cur, [123]], []) := by
  rw [show bl ({ data := #[32, 123, 10] } : ByteArray) = [32, 123, 10] from rfl, wrun_cons, wst_blk (by decide) (by decide) (by decide), wrun_cons, wst_stn (by decide) (by decide), wrun_cons, wst_blk (by decide) (by decide) (by decide)]
  simp [flush, h]
theorem end_close {ws : List (List Nat)} : wrun (some (ws, [])) (bl ({ data := #[125, 10] } : ByteArray)) = some (ws ++ [[125]], []) := by
  rw [show bl ({ data := #[125, 10] } : ByteArray) = [125, 10] from rfl, wrun_cons, wst_stn (by decide) (by decide), wrun_cons, wst_blk (by decide) (by decide) (by decide)]
  simp [flush]

/-- A forest's words. -/
def fwd : Fo → List (List Nat)
  | .nil => []
  | .leaf f t => [bl (repW f), bl (kindW f), bl f.n, [59]] ++ fwd t
  | .group f k t => [bl (repW f), bl (kindW f), bl f.n, [123]] ++ fwd k ++ [[125]] ++ fwd t

theorem txt_run (fo : Fo) : ∀ (d : Nat) (ws : List (List Nat)), (∀ f ∈ fo.flat, FFine f) → wrun (some (ws, [])) (bl (txt (d + 1) fo)) = some (ws ++ fwd fo, []) := by
  induction fo with
  | nil => intro d ws _; simp [txt, bl_mk, fwd]
  | leaf f t iht =>
    intro d ws h
    have hf := h f (by simp [Fo.flat])
    obtain ⟨n1, n2, -, -⟩ := nameB_sgn hf.n
    rw [txt, bl_append, bl_append, wrun_append, wrun_append, head_run d f hf, end_leaf n2, iht d _ fun x hx => h x (by simp [Fo.flat, hx])]
    simp [fwd]
  | group f k t ihk iht =>
    intro d ws h
    have hf := h f (by simp [Fo.flat])
    obtain ⟨n1, n2, -, -⟩ := nameB_sgn hf.n
    rw [txt, bl_append, bl_append, bl_append, bl_append, bl_append, wrun_append, wrun_append, wrun_append, wrun_append, wrun_append, head_run d f hf, end_group n2,
      ihk (d + 1) _ fun x hx => h x (by simp [Fo.flat, hx]), blkS_run, end_close, iht d _ fun x hx => h x (by simp [Fo.flat, hx])]
    simp [fwd]

/-- The whole text of a root with its forest. -/
def txtR (r : F) (fo : Fo) : ByteArray := txt 0 (.group r fo .nil)

theorem txtR_run (r : F) (fo : Fo) (hr : nameB (bl r.n) = true) (h : ∀ f ∈ fo.flat, FFine f) : wrun w0 (bl (txtR r fo)) = some ([bl wMsg, bl r.n, [123]] ++ fwd fo ++ [[125]], []) := by
  obtain ⟨n1, n2, -, -⟩ := nameB_sgn hr
  unfold txtR w0
  rw [txt, txt, headS, if_pos rfl, bl_append, bl_append, bl_append, bl_append, bl_append, bl_append, wrun_append, wrun_append, wrun_append, wrun_append, wrun_append, wrun_append]
  have e1 : wrun (some (([] : List (List Nat)), [])) (bl ({ data := #[109, 101, 115, 115, 97, 103, 101, 32] } : ByteArray)) = some ([bl wMsg], []) := by decide
  have e2 : bl ({ data := #[] } : ByteArray) = [] := rfl
  rw [e1, wrun_word n1, List.nil_append, end_group n2, txt_run fo 0 _ h, blkS_run, end_close, e2, wrun_nil]
  simp

/-! ### what is read of them -/

theorem str_bl (s : ByteArray) : str (bl s) = s := by
  have h := extract_str s 0 s.size (Nat.le_refl _)
  rw [List.drop_zero, List.take_of_length_le (by simp)] at h
  rw [← h]
  cases s with
  | mk d =>
    apply ByteArray.ext
    simp

theorem wn_of {s : ByteArray} (h : nameB (bl s) = true) : wnB s = true := by
  obtain ⟨n1, n2, n3, n4⟩ := nameB_sgn h
  unfold wnB
  rw [n4]
  rw [bl_length] at n3
  have : 1 ≤ s.size := by
    rw [← bl_length]
    cases hb : bl s with
    | nil => exact absurd hb n2
    | cons a t => simp
  simp [n3, this]

theorem refN_ok {s : ByteArray} {a d : Nat} (h : nameB (bl s) = true) (ha : a < 40) (hd : d ≤ 8) : refN s a d = 0 := by
  unfold refN
  rw [if_neg (by rw [wn_of h]; simp), if_neg (by omega), if_neg (by omega)]


def bAfter (b : Bool) : Fo → Bool
  | .nil => b
  | _ => false

theorem rdM_leaf {b : Bool} {f : F} {S : List F} {o : List (Nat × Int)} {t : List ByteArray} (hf : FFine f) (hk : f.k ≠ 0) (hc : f.c = 0) (hs : S.length < 40) (ho : o.length ≤ 8) :
    rdM b (repW f :: kindW f :: f.n :: wSc :: t) S o = rdM false t (S ++ [f]) (bumpO o) := by
  obtain ⟨-, -, r3, -⟩ := rep_word f.r.toNat (by have := hf.r; omega)
  obtain ⟨-, -, k3, -⟩ := kind_word f.k.toNat (by have := hf.k; omega)
  have hr := hf.r
  have hkk := hf.k
  have er : ixR (repW f) = f.r := by unfold repW; rw [r3]; omega
  have ek : ixK (kindW f) = f.k := by unfold kindW; rw [k3]; omega
  have hne : ¬ (b = false ∧ repW f = wCl) := fun h => by
    have h2 := er
    rw [h.2] at h2
    have : ixR wCl < 0 := by decide
    omega
  rw [rdM_fd hne]
  unfold fdR nmR
  rw [List.headD_cons, List.tail_cons, er, ek, if_neg (by omega)]
  simp only
  rw [refN_ok hf.n hs ho]
  simp only [ne_eq, not_true_eq_false, if_false]
  rw [if_neg (fun h => hk h.1), if_pos ⟨hk, trivial⟩]
  have : (⟨f.n, f.r, f.k, 0⟩ : F) = f := by cases f; simp at hc; simp [hc]
  rw [this]

theorem rdM_group {b : Bool} {f : F} {S : List F} {o : List (Nat × Int)} {t : List ByteArray} (hf : FFine f) (hk : f.k = 0) (hs : S.length < 40) (ho : o.length ≤ 8) :
    rdM b (repW f :: kindW f :: f.n :: wOp :: t) S o = rdM true t (S ++ [{ f with c := 0 }]) ((S.length, 0) :: bumpO o) := by
  obtain ⟨-, -, r3, -⟩ := rep_word f.r.toNat (by have := hf.r; omega)
  obtain ⟨-, -, k3, -⟩ := kind_word f.k.toNat (by have := hf.k; omega)
  have hr := hf.r
  have hkk := hf.k
  have er : ixR (repW f) = f.r := by unfold repW; rw [r3]; omega
  have ek : ixK (kindW f) = f.k := by unfold kindW; rw [k3]; omega
  have hne : ¬ (b = false ∧ repW f = wCl) := fun h => by
    have h2 := er
    rw [h.2] at h2
    have : ixR wCl < 0 := by decide
    omega
  rw [rdM_fd hne]
  unfold fdR nmR
  rw [List.headD_cons, List.tail_cons, er, ek, if_neg (by omega)]
  simp only
  rw [refN_ok hf.n hs ho]
  simp only [ne_eq, not_true_eq_false, if_false]
  rw [if_pos ⟨hk, trivial⟩]

theorem setC_at (S : List F) (f : F) (T : List F) (n : Int) : setC (S ++ f :: T) S.length n = S ++ { f with c := n } :: T := by
  unfold setC
  simp [List.getD]

def strL (ws : List (List Nat)) : List ByteArray := ws.map str

theorem rdM_fo (fo : Fo) : ∀ (h : Nat) (b : Bool) (S : List F) (g : Nat) (n : Int) (o : List (Nat × Int)) (rest : List ByteArray), (∀ f ∈ fo.flat, FFine f) → fo.ok → fo.le h → o.length + h ≤ 8 → S.length + fo.flat.length ≤ 40 →
    rdM b (strL (fwd fo) ++ rest) S ((g, n) :: o) = rdM (bAfter b fo) rest (S ++ fo.flat) ((g, n + fo.num) :: o) := by
  induction fo with
  | nil => intro h b S g n o rest _ _ _ _ _; simp [fwd, strL, bAfter, Fo.flat, Fo.num]
  | leaf f t iht =>
    intro h b S g n o rest hf hok hle ho hs
    obtain ⟨hk, hc, hok⟩ := hok
    obtain ⟨h1, hle⟩ := hle
    simp only [Fo.flat, List.length_cons] at hs
    have e : strL (fwd (.leaf f t)) ++ rest = repW f :: kindW f :: f.n :: wSc :: (strL (fwd t) ++ rest) := by
      simp only [fwd, strL, List.map_append, List.map_cons, List.map_nil, str_bl]
      rfl
    rw [e, rdM_leaf (hf f (by simp [Fo.flat])) hk hc (by omega) (by simp; omega), bumpO, iht h false _ g _ o rest (fun x hx => hf x (by simp [Fo.flat, hx])) hok hle ho (by simp; omega)]
    have eb : bAfter false t = false := by cases t <;> rfl
    rw [eb]
    simp only [bAfter, Fo.flat, Fo.num, List.append_assoc, List.cons_append, List.nil_append]
    congr 3
    omega
  | group f k t ihk iht =>
    intro h b S g n o rest hf hok hle ho hs
    obtain ⟨hk, hc, hok, hok2⟩ := hok
    obtain ⟨h1, hle, hle2⟩ := hle
    simp only [Fo.flat, List.length_cons, List.length_append] at hs
    have e : strL (fwd (.group f k t)) ++ rest = repW f :: kindW f :: f.n :: wOp :: (strL (fwd k) ++ wCl :: (strL (fwd t) ++ rest)) := by
      simp only [fwd, strL, List.map_append, List.map_cons, List.map_nil, str_bl, List.append_assoc]
      rfl
    rw [e, rdM_group (hf f (by simp [Fo.flat])) hk (by omega) (by simp; omega), bumpO]
    have hb : bAfter true k = false := by
      have hc1 := (hf f (by simp [Fo.flat])).c hk
      cases k with
      | nil => rw [hc] at hc1; simp [Fo.num] at hc1
      | _ => rfl
    rw [ihk (h - 1) true _ S.length 0 ((g, n + 1) :: o) _ (fun x hx => hf x (by simp [Fo.flat, hx])) hok hle (by simp; omega) (by simp; omega), hb, rdM_close, if_neg (by simp)]
    have e2 : setC (S ++ [{ f with c := 0 }] ++ k.flat) S.length (0 + (k.num : Int)) = (S ++ [f]) ++ k.flat := by
      rw [List.append_assoc, List.singleton_append, setC_at]
      have : ({ ({ f with c := 0 } : F) with c := 0 + (k.num : Int) } : F) = f := by cases f; simp at hc; simp [hc]
      rw [this]
      simp
    rw [e2, iht h false _ g _ o rest (fun x hx => hf x (by simp [Fo.flat, hx])) hok2 hle2 ho (by simp; omega)]
    have eb : bAfter false t = false := by cases t <;> rfl
    rw [eb]
    simp only [bAfter, Fo.flat, Fo.num, List.append_assoc, List.cons_append, List.nil_append]
    congr 3
    omega

/-- What is read of a root's words. -/
theorem rdS_fo (r : F) (fo : Fo) (hr : nameB (bl r.n) = true) (hk : r.k = 0) (h0 : r.r = 0) (hc : r.c = fo.num) (hc1 : 1 ≤ r.c) (hf : ∀ f ∈ fo.flat, FFine f) (hok : fo.ok) (hle : fo.le 7) (hl : fo.flat.length < 40) :
    rdS (strL ([bl wMsg, bl r.n, [123]] ++ fwd fo ++ [[125]])) = (0, r :: fo.flat) := by
  have e : strL ([bl wMsg, bl r.n, [123]] ++ fwd fo ++ [[125]]) = wMsg :: r.n :: wOp :: (strL (fwd fo) ++ [wCl]) := by
    simp only [strL, List.map_append, List.map_cons, List.map_nil, str_bl, List.append_assoc]
    rfl
  rw [e]
  unfold rdS
  rw [List.headD_cons, if_pos rfl, List.tail_cons]
  unfold nmR
  simp only
  rw [refN_ok hr (by simp) (by simp)]
  simp only [ne_eq, not_true_eq_false, if_false]
  rw [if_pos ⟨trivial, trivial⟩]
  simp only [List.nil_append, List.length_nil, bumpO]
  rw [rdM_fo fo 7 true [⟨r.n, 0, 0, 0⟩] 0 0 [] [wCl] hf hok hle (by simp) (by simp; omega)]
  have hb : bAfter true fo = false := by
    cases fo with
    | nil => rw [hc] at hc1; simp [Fo.num] at hc1
    | _ => rfl
  rw [hb, rdM_close, if_pos rfl, if_pos rfl]
  have e2 := setC_at [] ⟨r.n, 0, 0, 0⟩ fo.flat (0 + (fo.num : Int))
  simp only [List.nil_append, List.length_nil] at e2
  rw [List.singleton_append, e2]
  have : ({ (⟨r.n, 0, 0, 0⟩ : F) with c := 0 + (fo.num : Int) } : F) = r := by cases r; simp at hc h0 hk; simp [hc, h0, hk]
  rw [this]

end Go.Proofs.Ytofnpcfclcfgfaa

namespace Go.Proofs.Ytofnpcfclcfgfaa
open Go.RowKit
set_option linter.unusedVariables false

theorem rep_size (f : F) (h : FFine f) : (repW f).size ≤ 8 := by
  obtain ⟨-, -, -, h1⟩ := rep_word f.r.toNat (by have := h.r; omega)
  exact h1
theorem kind_size (f : F) (h : FFine f) : (kindW f).size ≤ 5 := by
  obtain ⟨-, -, -, h1⟩ := kind_word f.k.toNat (by have := h.k; omega)
  exact h1
theorem name_size {s : ByteArray} (h : nameB (bl s) = true) : s.size ≤ 12 := by
  have := (nameB_sgn h).2.2.1
  rwa [bl_length] at this

theorem size_mk (a : Array UInt8) : ({ data := a } : ByteArray).size = a.size := rfl

theorem head_size (d : Nat) (f : F) (h : FFine f) : (headS (d + 1) f).size ≤ 2 * (d + 1) + 27 := by
  have h1 := rep_size f h
  have h2 := kind_size f h
  have h3 := name_size h.n
  unfold headS
  rw [if_neg (by omega)]
  simp only [ByteArray.size_append, blkS_size, size_mk, List.size_toArray, List.length_cons, List.length_nil]
  omega

theorem txt_size (fo : Fo) : ∀ (d h : Nat), fo.le h → d + 1 + h ≤ 8 → (∀ f ∈ fo.flat, FFine f) → (txt (d + 1) fo).size ≤ 70 * fo.flat.length := by
  induction fo with
  | nil => intro d h _ _ _; simp [txt, size_mk]
  | leaf f t ih =>
    intro d h hle hd hf
    have h1 := head_size d f (hf f (by simp [Fo.flat]))
    have h2 := ih d h hle.2 hd fun x hx => hf x (by simp [Fo.flat, hx])
    have h3 := hle.1
    simp only [txt, ByteArray.size_append, size_mk, List.size_toArray, List.length_cons, List.length_nil, Fo.flat]
    omega
  | group f k t ihk iht =>
    intro d h hle hd hf
    have h1 := head_size d f (hf f (by simp [Fo.flat]))
    have h3 := hle.1
    have h2 := iht d h hle.2.2 hd fun x hx => hf x (by simp [Fo.flat, hx])
    have h4 := ihk (d + 1) (h - 1) hle.2.1 (by omega) fun x hx => hf x (by simp [Fo.flat, hx])
    simp only [txt, ByteArray.size_append, size_mk, List.size_toArray, List.length_cons, List.length_nil, Fo.flat, List.length_append, blkS_size]
    omega

/-- What the statements make is a root with a forest, and all that is wanted of it. -/
structure MkF (ns : List Int) (r : F) (fo : Fo) : Prop where
  eq : mk ns = r :: fo.flat
  k : r.k = 0
  r0 : r.r = 0
  c : r.c = fo.num
  c1 : 1 ≤ r.c
  nm : r.n = bm
  ok : fo.ok
  le : fo.le 5
  fine : ∀ f ∈ fo.flat, FFine f
  len : fo.flat.length ≤ 13

theorem mkF (ns : List Int) : ∃ (r : F) (fo : Fo), MkF ns r fo := by
  obtain ⟨r, fo, hm, hk, hc, hok, hr, hn⟩ := mk_forest ns
  have hlen := (mk_ok ns).le
  rw [hm] at hlen
  simp at hlen
  have h0 := mk_fields ns 0 r (by rw [hm]; rfl)
  refine ⟨r, fo, hm, hk, hr, hc, h0.2.1 hk, hn, hok, mk_le ns r fo hm hk hc hok, fun f hf => ?_, by omega⟩
  obtain ⟨j, hj⟩ := List.mem_iff_getElem?.1 hf
  have hjl : j < fo.flat.length := (List.getElem?_eq_some_iff.1 hj).1
  have h1 := mk_fields ns (j + 1) f (by rw [hm, List.getElem?_cons_succ]; exact hj)
  have h2 := mk_name ns (j + 1) (by rw [hm]; simp; omega)
  have e : (mk ns).getD (j + 1) default = f := by rw [hm, List.getD, List.getElem?_cons_succ, hj]; rfl
  rw [e] at h2
  exact ⟨⟨h1.1.1, h1.1.2.1⟩, ⟨h1.1.2.2.1, h1.1.2.2.2⟩, h2, h1.2.1⟩

theorem bm_name : nameB (bl bm) = true := by decide

theorem MkF.nb {ns : List Int} {r : F} {fo : Fo} (h : MkF ns r fo) : nameB (bl r.n) = true := by rw [h.nm]; exact bm_name

theorem MkF.run {ns : List Int} {r : F} {fo : Fo} (h : MkF ns r fo) : wrun w0 (bl (txtR r fo)) = some ([bl wMsg, bl r.n, [123]] ++ fwd fo ++ [[125]], []) := txtR_run r fo h.nb h.fine

theorem MkF.size {ns : List Int} {r : F} {fo : Fo} (h : MkF ns r fo) : (txtR r fo).size ≤ 1000 := by
  have h1 := txt_size fo 0 5 h.le (by omega) h.fine
  have h2 := name_size h.nb
  have h3 := h.len
  unfold txtR
  simp only [txt, ByteArray.size_append, size_mk, List.size_toArray, List.length_cons, List.length_nil, blkS_size, headS, if_true]
  omega

/-- Whatever text has the words of what was made is read as it. -/
theorem MkF.parse {ns : List Int} {r : F} {fo : Fo} (h : MkF ns r fo) {l : List Nat} (hl : l.length ≤ 4000) (hw : wordsL l = some ([bl wMsg, bl r.n, [123]] ++ fwd fo ++ [[125]])) : parseL l = (0, r :: fo.flat) := by
  rw [parseL_some (by omega) hw]
  have e := rdS_fo r fo h.nb h.k h.r0 h.c h.c1 h.fine h.ok (h.le.mono (by omega)) (by have := h.len; omega)
  unfold strL at e
  rw [e, if_neg (by simp)]
  have hc := mk_chk ns
  rw [h.eq] at hc
  simp only
  rw [hc, if_neg (by simp)]

theorem MkF.back {ns : List Int} {r : F} {fo : Fo} (h : MkF ns r fo) : parseL (bl (txtR r fo)) = (0, r :: fo.flat) := h.parse (by rw [bl_length]; have := h.size; omega) (wordsL_done h.run)

end Go.Proofs.Ytofnpcfclcfgfaa
