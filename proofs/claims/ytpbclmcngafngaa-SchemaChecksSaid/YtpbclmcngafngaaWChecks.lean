/- The walk of the statement SchemaChecks. (Written by genwc.py.) -/
import Derived.Test.YtpbclmcngafngaaRc
import Derived.Test.YtpbclmcngafngaaVk
import Derived.Test.YtpbclmcngafngaaWithin
import Derived.StillTailTactics
namespace Go.Proofs.Ytpbclmcngafngaa
open Go.RowKit
set_option linter.unusedVariables false

theorem flat_setj (l : List F) (g : Nat) (f f' : F) (j : Nat) (v : Value) (h : l[g]? = some f) (hj : j < 4) (hf : F.cs f' = (F.cs f).set j v) : (l.flatMap F.cs).set (g * 4 + j) v = (l.set g f').flatMap F.cs := by
  induction l generalizing g with
  | nil => simp at h
  | cons y l ih =>
    cases g with
    | zero =>
      simp at h
      subst h
      rw [List.flatMap_cons, List.set_cons_zero, List.flatMap_cons, hf, Nat.zero_mul, Nat.zero_add, List.set_append, if_pos (by rw [F.cs_len]; exact hj)]
    | succ g =>
      rw [List.getElem?_cons_succ] at h
      rw [List.flatMap_cons, List.set_cons_succ, List.flatMap_cons, ← ih g h, List.set_append, if_neg (by rw [F.cs_len]; omega), F.cs_len]
      congr 2
      omega

theorem SeenK.front {α : Type} {enc : α → List Value} {k : Nat} {w : World} {ao : Option Addr} {n cap : Nat} {l : List α} (h : SeenK enc k w (.slice ao n cap) l) (m : Nat) (hm : m ≤ n) : SeenK enc k w (.slice ao m cap) (l.take m) := by
  obtain ⟨ao', cap', h1, h2, h3, h4⟩ := h
  injection h1 with e1 e2 e3
  subst e1 e3
  have hl : (l.take m).length = m := by simp; omega
  refine ⟨ao, cap, by rw [hl], by omega, h3, fun hp => ?_⟩
  obtain ⟨g, off, e, hc⟩ := h4 (by omega)
  refine ⟨g, off, e, fun j x i u hx hu => hc j x i u ?_ hu⟩
  rw [List.getElem?_take] at hx
  split at hx
  · exact hx
  · cases hx

theorem snoc_mem {l : List F} {f' : F} (P : F → Prop) (h : ∀ f ∈ l, P f) (h' : P f') : ∀ f ∈ l ++ [f'], P f := by
  intro f hf
  rcases List.mem_append.1 hf with h1 | h1
  · exact h f h1
  · rw [List.mem_singleton] at h1; rw [h1]; exact h'

theorem set_mem {l : List F} (g : Nat) (f' : F) (P : F → Prop) (h : ∀ f ∈ l, P f) (h' : P f') : ∀ f ∈ l.set g f', P f := by
  intro f hf
  rcases List.mem_or_eq_of_mem_set hf with h1 | rfl
  · exact h f h1
  · exact h'

set_option maxRecDepth 100000 in
set_option maxHeartbeats 8000000 in
theorem walk_SchemaChecks (rv : Value) (raw : List F) (a1 : Option Addr) (len1 cap1 : Nat) (z1 : List Int) (a2 a3 a4 : Int) (nm : ByteArray) (w : World)
    (w0 : SeenF w rv raw) (w0c : ∀ f ∈ raw, (Lit.int .i64 f.c).wf = true) (w1 : IsRow .i64 w a1 len1 cap1 z1) (w2 : (Lit.int .i64 a2).wf = true) (w3 : (Lit.int .i64 a3).wf = true) (w4 : (Lit.int .i64 a4).wf = true) :
    Calls Try.prog 3 #[rv, .slice a1 len1 cap1, .int .i64 a2, .int .i64 a3, .int .i64 a4, .string nm] w fun e w' => e = .returned (.bool true) ∧ Below w.heap.size w w' := by
  obtain ⟨i0, hi, hz0, hz1, hz2⟩ := info_field
  obtain ⟨ns, hS, hlen, hwf⟩ := w1.seenI
  obtain ⟨ra, rc, rfl, hrc1, hrc2⟩ := w0.shape
  have HR := Lib.hid w0; have HRC := Lib.hid (show ∀ f ∈ raw, f.c ≤ 9223372036854775807 from fun f hf => (wf_i64 (w0c f hf)).2)
  have HS := Lib.hid hS; have HWF := Lib.hid hwf; have HW2 := Lib.hid w2; have HW3 := Lib.hid w3; have HW4 := Lib.hid w4
  have ha4 := wf_i64 w4
  clear w0 w0c w1 w2 w3 w4 hS hwf hlen hrc1 hrc2
  have hmk := mk_ok ns
  obtain ⟨l, hl⟩ : ∃ l, l = mk ns := ⟨_, rfl⟩
  have HL := Lib.hid hl
  have hln := hmk.le
  have hpos : 0 < (mk ns).length := by
    rw [List.length_pos_iff]
    intro e
    obtain ⟨f, hf, _⟩ := hmk.leaf
    rw [e] at hf; cases hf
  have HFC := Lib.hid (show ∀ f ∈ l, f.c ≤ 9223372036854775807 from fun f hf => by rw [hl] at hf; have := hmk.c f hf; omega)
  have HFC2 := Lib.hid (show ∀ f ∈ l, 0 ≤ f.c ∧ f.c ≤ 1000 from fun f hf => by rw [hl] at hf; have := hmk.c f hf; omega)
  have HFN := Lib.hid (show ∀ f ∈ l, f.n.size ≤ 1000000 from fun f hf => by rw [hl] at hf; have := hmk.n f hf; omega)
  have HCH := Lib.hid (show chk l = 0 by rw [hl]; exact mk_chk ns)
  rw [← hl] at hln hpos
  clear hmk hl
  go_enter Try.func3, Try.ntmps3
  go_wp2_with fail
  (with_reducible refine (known_any _).mono ?_)
  rintro e w1 ⟨rfl, hk⟩
  have HK1 := Lib.hid hk
  clear hk
  go_wp2_with fail
  (with_reducible refine (few_any _ raw _ (HR.out.keep HK1.out)).mono ?_)
  rintro e w2 ⟨rfl, rfl⟩
  cases hfew : fewOk raw
  case false =>
    go_wp2
    go_ret
    exact ⟨rfl, HK1.out.below (Nat.le_refl _) (by simp)⟩
  have HRN := Lib.hid (show ∀ f ∈ raw, f.n.size ≤ 1000000 from fun f hf => by
    unfold fewOk at hfew
    rw [Bool.and_eq_true, List.all_eq_true] at hfew
    have := of_decide_eq_true (hfew.1 f hf)
    omega)
  clear hfew
  by_cases hnm : 20 < nm.size
  · have d1 : decide ((20 : Int) < (nm.size : Int)) = true := by simp; omega
    go_wp2
    go_ret
    exact ⟨rfl, HK1.out.below (Nat.le_refl _) (by simp)⟩
  have d1 : decide ((20 : Int) < (nm.size : Int)) = false := by simp; omega
  have HRF := Lib.hid (refChk_eq raw)
  go_wp2_with fail
  (with_reducible refine (check_any _ raw _ (HR.out.keep HK1.out) HRC.out HRN.out).mono ?_)
  rintro e w3 ⟨rfl, hk⟩
  have HK3 := Lib.hid (HK1.out.trans hk (by simp))
  clear hk
  go_wp2_with fail
  (with_reducible refine (rcheck_any _ raw _ (HR.out.keep HK3.out) HRC.out HRN.out).mono ?_)
  rintro e w4 ⟨rfl, hk⟩
  have HK4 := Lib.hid (HK3.out.trans hk (by simp))
  clear hk
  rw [HRF.out]
  obtain ⟨cr, hcr⟩ : ∃ c, c = chk raw := ⟨_, rfl⟩
  rw [← hcr]
  clear hcr
  have q1 : ¬ (cr ≠ cr) := by simp
  go_wp2_with fail
  (with_reducible refine (make_any _ ns _ (HS.out.keep HK4.out) HWF.out).mono ?_)
  rintro e w5 ⟨sv, rfl, hown, hk⟩
  rw [← HL.out] at hown
  have hSv := SeenF.own hown rfl
  obtain ⟨sa, sc, rfl⟩ := own_shape hown
  have HSF := Lib.hid hSv
  have HOWN := Lib.hid hown
  have HK5 := Lib.hid (HK4.out.trans hk (by simp))
  have HB45 := Lib.hid (show w.heap.size ≤ w4.heap.size from HK4.out.size)
  clear hown hSv hk
  go_wp2_with fail
  (with_reducible refine (check_any _ l _ HSF.out HFC.out HFN.out).mono ?_)
  rintro e w6 ⟨rfl, hk⟩
  have HO6 := Lib.hid (own_chg HOWN.out hk (by simp))
  have HK6 := Lib.hid (HK5.out.trans hk (by simp))
  clear hk
  rw [HCH.out]
  obtain ⟨n, hn⟩ : ∃ n, n = l.length := ⟨_, rfl⟩
  rw [← hn] at hln hpos HO6 ⊢
  have HN := Lib.hid hn
  clear hn
  go_wp2_with fail
  (with_reducible refine (within_int a2 (n : Int) n _ rfl (by omega) (by omega) HW2.out).mono ?_)
  rintro e w7 ⟨rfl, rfl⟩
  have hin := within_lt a2 n (by omega)
  obtain ⟨i, hi⟩ : ∃ i, i = (a2 % (n : Int)).toNat := ⟨_, rfl⟩
  rw [← hi] at hin ⊢
  clear hi
  go_wp2_with fail
  (with_reducible refine (within_int a3 7 7 _ rfl (by decide) (by decide) HW3.out).mono ?_)
  rintro e w8 ⟨rfl, rfl⟩
  have hk7 := within_lt a3 7 (by decide)
  obtain ⟨k, hk⟩ : ∃ k, k = (a3 % ((7 : Nat) : Int)).toNat := ⟨_, rfl⟩
  rw [← hk] at hk7 ⊢
  clear hk
  obtain ⟨f, hf⟩ : ∃ f, l[i]? = some f := ⟨_, List.getElem?_eq_getElem (by rw [← HN.out]; exact hin)⟩
  have hfc2 := HFC2.out f (List.mem_of_getElem? hf)
  obtain ⟨g, rfl, hgB, hgw, hfz, hcl⟩ := own_ptr HO6.out hpos
  have b0 := hcl (i * 4 + 0) _ (flat_get F.cs_len l i f 0 _ hf rfl)
  have b1 := hcl (i * 4 + 1) _ (flat_get F.cs_len l i f 1 _ hf rfl)
  have b2 := hcl (i * 4 + 2) _ (flat_get F.cs_len l i f 2 _ hf rfl)
  have b3 := hcl (i * 4 + 3) _ (flat_get F.cs_len l i f 3 _ hf rfl)
  rw [Nat.add_zero] at b0
  have z0 := hfz (i * 4)
  have z1 := hfz (i * 4 + 1)
  have z2 := hfz (i * 4 + 2)
  have z3 := hfz (i * 4 + 3)
  have HF := Lib.hid hf
  have hroom := (own_room HO6.out).1
  have hsc0 : ¬ sc = 0 := by omega
  have hi4 : i * 4 + 3 < n * 4 := by omega
  have HM2 := Lib.hid (show n + 1 ≤ maxLen by unfold maxLen; omega)
  have HM3 := Lib.hid (show (n + 1) * 40 ≤ 140737488355328 by omega)
  have HB6 := Lib.hid (show w4.heap.size ≤ w6.heap.size from Nat.le_trans hgB (Nat.le_of_lt hgw))
  clear hcl hfz hf
  have hways : k = 0 ∨ k = 1 ∨ k = 2 ∨ k = 3 ∨ k = 4 ∨ k = 5 ∨ k = 6 := by omega
  rcases hways with rfl | rfl | rfl | rfl | rfl | rfl | rfl
  · go_upto_region 26 with fail
    have hrow := own_set HO6.out (i * 4 + 3) (by omega) (.int .i64 a4)
    rw [flat_setj l i f { f with c := a4 } 3 _ HF.out (by decide) rfl] at hrow
    have HRW := Lib.hid hrow
    clear hrow b0 b1 b2 b3 z0 z1 z2 z3
    have HKW := Lib.hid (HK6.out.setCell (p := ⟨g, i * 4 + 3, none⟩) (.inr (Nat.le_trans HB45.out hgB)) (.int .i64 a4))
    generalize World.setCell _ _ _ = ws at HRW HKW ⊢
    have HSN := Lib.hid (show SeenF _ _ (l.set i { f with c := a4 }) from SeenF.own HRW.out (by rw [List.length_set, HN.out]))
    have HNC := Lib.hid (show ∀ y ∈ (l.set i { f with c := a4 }), y.c ≤ 9223372036854775807 from set_mem i { f with c := a4 } ( fun f => f.c ≤ 9223372036854775807) HFC.out ha4.2)
    have HNN := Lib.hid (show ∀ y ∈ (l.set i { f with c := a4 }), y.n.size ≤ 1000000 from set_mem i { f with c := a4 } ( fun f => f.n.size ≤ 1000000) HFN.out (HFN.out f (List.mem_of_getElem? HF.out)))
    have HKN := Lib.hid HKW.out
    have HRE := Lib.hid (refChk_eq (l.set i { f with c := a4 }))
    obtain ⟨cn, hcn⟩ : ∃ c, c = chk (l.set i { f with c := a4 }) := ⟨_, rfl⟩
    have HCN := Lib.hid hcn
    clear hcn
    go_wp2_with fail
    (with_reducible refine (check_any _ _ _ HSN.out HNC.out HNN.out).mono ?_)
    rintro e w9 ⟨rfl, hk9⟩
    have HK9 := Lib.hid (HKN.out.trans hk9 (by simp))
    have HSN9 := Lib.hid (HSN.out.keep hk9)
    clear hk9
    go_wp2_with fail
    (with_reducible refine (rcheck_any _ _ _ HSN9.out HNC.out HNN.out).mono ?_)
    rintro e w10 ⟨rfl, hk10⟩
    have HK10 := Lib.hid (HK9.out.trans hk10 (by simp))
    clear hk10
    rw [HRE.out, ← HCN.out]
    go_wp2
    go_ret
    exact ⟨ret_bool (by simp), HK10.out.below (Nat.le_refl _) (by simp)⟩
  · go_upto_region 26 with fail
    have hrow := own_set HO6.out (i * 4 + 2) (by omega) (.int .i64 a4)
    rw [flat_setj l i f { f with k := a4 } 2 _ HF.out (by decide) rfl] at hrow
    have HRW := Lib.hid hrow
    clear hrow b0 b1 b2 b3 z0 z1 z2 z3
    have HKW := Lib.hid (HK6.out.setCell (p := ⟨g, i * 4 + 2, none⟩) (.inr (Nat.le_trans HB45.out hgB)) (.int .i64 a4))
    generalize World.setCell _ _ _ = ws at HRW HKW ⊢
    have HSN := Lib.hid (show SeenF _ _ (l.set i { f with k := a4 }) from SeenF.own HRW.out (by rw [List.length_set, HN.out]))
    have HNC := Lib.hid (show ∀ y ∈ (l.set i { f with k := a4 }), y.c ≤ 9223372036854775807 from set_mem i { f with k := a4 } ( fun f => f.c ≤ 9223372036854775807) HFC.out (HFC.out f (List.mem_of_getElem? HF.out)))
    have HNN := Lib.hid (show ∀ y ∈ (l.set i { f with k := a4 }), y.n.size ≤ 1000000 from set_mem i { f with k := a4 } ( fun f => f.n.size ≤ 1000000) HFN.out (HFN.out f (List.mem_of_getElem? HF.out)))
    have HKN := Lib.hid HKW.out
    have HRE := Lib.hid (refChk_eq (l.set i { f with k := a4 }))
    obtain ⟨cn, hcn⟩ : ∃ c, c = chk (l.set i { f with k := a4 }) := ⟨_, rfl⟩
    have HCN := Lib.hid hcn
    clear hcn
    go_wp2_with fail
    (with_reducible refine (check_any _ _ _ HSN.out HNC.out HNN.out).mono ?_)
    rintro e w9 ⟨rfl, hk9⟩
    have HK9 := Lib.hid (HKN.out.trans hk9 (by simp))
    have HSN9 := Lib.hid (HSN.out.keep hk9)
    clear hk9
    go_wp2_with fail
    (with_reducible refine (rcheck_any _ _ _ HSN9.out HNC.out HNN.out).mono ?_)
    rintro e w10 ⟨rfl, hk10⟩
    have HK10 := Lib.hid (HK9.out.trans hk10 (by simp))
    clear hk10
    rw [HRE.out, ← HCN.out]
    go_wp2
    go_ret
    exact ⟨ret_bool (by simp), HK10.out.below (Nat.le_refl _) (by simp)⟩
  · go_upto_region 26 with fail
    have hrow := own_set HO6.out (i * 4 + 1) (by omega) (.int .i64 a4)
    rw [flat_setj l i f { f with r := a4 } 1 _ HF.out (by decide) rfl] at hrow
    have HRW := Lib.hid hrow
    clear hrow b0 b1 b2 b3 z0 z1 z2 z3
    have HKW := Lib.hid (HK6.out.setCell (p := ⟨g, i * 4 + 1, none⟩) (.inr (Nat.le_trans HB45.out hgB)) (.int .i64 a4))
    generalize World.setCell _ _ _ = ws at HRW HKW ⊢
    have HSN := Lib.hid (show SeenF _ _ (l.set i { f with r := a4 }) from SeenF.own HRW.out (by rw [List.length_set, HN.out]))
    have HNC := Lib.hid (show ∀ y ∈ (l.set i { f with r := a4 }), y.c ≤ 9223372036854775807 from set_mem i { f with r := a4 } ( fun f => f.c ≤ 9223372036854775807) HFC.out (HFC.out f (List.mem_of_getElem? HF.out)))
    have HNN := Lib.hid (show ∀ y ∈ (l.set i { f with r := a4 }), y.n.size ≤ 1000000 from set_mem i { f with r := a4 } ( fun f => f.n.size ≤ 1000000) HFN.out (HFN.out f (List.mem_of_getElem? HF.out)))
    have HKN := Lib.hid HKW.out
    have HRE := Lib.hid (refChk_eq (l.set i { f with r := a4 }))
    obtain ⟨cn, hcn⟩ : ∃ c, c = chk (l.set i { f with r := a4 }) := ⟨_, rfl⟩
    have HCN := Lib.hid hcn
    clear hcn
    go_wp2_with fail
    (with_reducible refine (check_any _ _ _ HSN.out HNC.out HNN.out).mono ?_)
    rintro e w9 ⟨rfl, hk9⟩
    have HK9 := Lib.hid (HKN.out.trans hk9 (by simp))
    have HSN9 := Lib.hid (HSN.out.keep hk9)
    clear hk9
    go_wp2_with fail
    (with_reducible refine (rcheck_any _ _ _ HSN9.out HNC.out HNN.out).mono ?_)
    rintro e w10 ⟨rfl, hk10⟩
    have HK10 := Lib.hid (HK9.out.trans hk10 (by simp))
    clear hk10
    rw [HRE.out, ← HCN.out]
    go_wp2
    go_ret
    exact ⟨ret_bool (by simp), HK10.out.below (Nat.le_refl _) (by simp)⟩
  · go_upto_region 26 with fail
    have hrow := own_set HO6.out (i * 4 + 0) (by omega) (.string nm)
    rw [flat_setj l i f { f with n := nm } 0 _ HF.out (by decide) rfl] at hrow
    rw [Nat.add_zero] at hrow
    have HRW := Lib.hid hrow
    clear hrow b0 b1 b2 b3 z0 z1 z2 z3
    have HKW := Lib.hid (HK6.out.setCell (p := ⟨g, i * 4, none⟩) (.inr (Nat.le_trans HB45.out hgB)) (.string nm))
    generalize World.setCell _ _ _ = ws at HRW HKW ⊢
    have HSN := Lib.hid (show SeenF _ _ (l.set i { f with n := nm }) from SeenF.own HRW.out (by rw [List.length_set, HN.out]))
    have HNC := Lib.hid (show ∀ y ∈ (l.set i { f with n := nm }), y.c ≤ 9223372036854775807 from set_mem i { f with n := nm } ( fun f => f.c ≤ 9223372036854775807) HFC.out (HFC.out f (List.mem_of_getElem? HF.out)))
    have HNN := Lib.hid (show ∀ y ∈ (l.set i { f with n := nm }), y.n.size ≤ 1000000 from set_mem i { f with n := nm } ( fun f => f.n.size ≤ 1000000) HFN.out (show nm.size ≤ 1000000 by omega))
    have HKN := Lib.hid HKW.out
    have HRE := Lib.hid (refChk_eq (l.set i { f with n := nm }))
    obtain ⟨cn, hcn⟩ : ∃ c, c = chk (l.set i { f with n := nm }) := ⟨_, rfl⟩
    have HCN := Lib.hid hcn
    clear hcn
    go_wp2_with fail
    (with_reducible refine (check_any _ _ _ HSN.out HNC.out HNN.out).mono ?_)
    rintro e w9 ⟨rfl, hk9⟩
    have HK9 := Lib.hid (HKN.out.trans hk9 (by simp))
    have HSN9 := Lib.hid (HSN.out.keep hk9)
    clear hk9
    go_wp2_with fail
    (with_reducible refine (rcheck_any _ _ _ HSN9.out HNC.out HNN.out).mono ?_)
    rintro e w10 ⟨rfl, hk10⟩
    have HK10 := Lib.hid (HK9.out.trans hk10 (by simp))
    clear hk10
    rw [HRE.out, ← HCN.out]
    go_wp2
    go_ret
    exact ⟨ret_bool (by simp), HK10.out.below (Nat.le_refl _) (by simp)⟩
  · go_upto_region 26 with fail
    have HSN := Lib.hid (show SeenF _ _ (l.take i) from (SeenF.own HO6.out HN.out.symm).front i (by omega))
    have HNC := Lib.hid (show ∀ y ∈ (l.take i), y.c ≤ 9223372036854775807 from fun f hf => HFC.out f (List.mem_of_mem_take hf))
    have HNN := Lib.hid (show ∀ y ∈ (l.take i), y.n.size ≤ 1000000 from fun f hf => HFN.out f (List.mem_of_mem_take hf))
    have HKN := Lib.hid HK6.out
    have HRE := Lib.hid (refChk_eq (l.take i))
    obtain ⟨cn, hcn⟩ : ∃ c, c = chk (l.take i) := ⟨_, rfl⟩
    have HCN := Lib.hid hcn
    clear hcn
    go_wp2_with fail
    (with_reducible refine (check_any _ _ _ HSN.out HNC.out HNN.out).mono ?_)
    rintro e w9 ⟨rfl, hk9⟩
    have HK9 := Lib.hid (HKN.out.trans hk9 (by simp))
    have HSN9 := Lib.hid (HSN.out.keep hk9)
    clear hk9
    go_wp2_with fail
    (with_reducible refine (rcheck_any _ _ _ HSN9.out HNC.out HNN.out).mono ?_)
    rintro e w10 ⟨rfl, hk10⟩
    have HK10 := Lib.hid (HK9.out.trans hk10 (by simp))
    clear hk10
    rw [HRE.out, ← HCN.out]
    go_wp2
    go_ret
    exact ⟨ret_bool (by simp), HK10.out.below (Nat.le_refl _) (by simp)⟩
  · go_upto_region 26 with (first
      | (at_builtin; refine wpList_append_at _ rfl (.tmp 76) (.tmp 81) _ rfl w4.heap.size 33 i0 (.agg #[.string ByteArray.empty, .int .i64 0, .int .i64 0, .int .i64 0]) 4 40 Try.underlying23 hi hz0 hz1 hz2 rfl (by omega) (.slice (some ⟨g, 0, none⟩) n sc) n (l.flatMap F.cs) rfl (HO6.out.alloc _) ⟨_, 0, none⟩ 1 1 (F.cs f) rfl rfl (new_cells (C := #[.string f.n, .int .i64 f.r, .int .i64 f.k, .int .i64 f.c]) _ rfl) (F.one _) HM2.out HM3.out (le_alloc HB6.out _) ?_; intro v9 w9 hown9 hg9 hat9; obtain ⟨a9, c9, rfl⟩ := own_shape hown9; have HO9 := Lib.hid hown9; have HC9 := Lib.hid ((HK6.out.alloc _).grown hg9 (fun k hk => .inr (Nat.le_trans HB45.out (own_ge HO6.out k hk)))); clear hown9 hg9 hat9)
      | fail)
    have HSN := Lib.hid (show SeenF _ _ (l ++ [f]) from SeenF.own (n := n + 1) (l := l ++ [f]) (by rw [List.flatMap_append]; simpa using HO9.out) (by rw [List.length_append, ← HN.out]; rfl))
    have HNC := Lib.hid (show ∀ y ∈ (l ++ [f]), y.c ≤ 9223372036854775807 from snoc_mem (fun f => f.c ≤ 9223372036854775807) HFC.out (HFC.out f (List.mem_of_getElem? HF.out)))
    have HNN := Lib.hid (show ∀ y ∈ (l ++ [f]), y.n.size ≤ 1000000 from snoc_mem (fun f => f.n.size ≤ 1000000) HFN.out (HFN.out f (List.mem_of_getElem? HF.out)))
    have HKN := Lib.hid HC9.out
    have HRE := Lib.hid (refChk_eq (l ++ [f]))
    obtain ⟨cn, hcn⟩ : ∃ c, c = chk (l ++ [f]) := ⟨_, rfl⟩
    have HCN := Lib.hid hcn
    clear hcn
    go_wp2_with fail
    (with_reducible refine (check_any _ _ _ HSN.out HNC.out HNN.out).mono ?_)
    rintro e w9' ⟨rfl, hk9⟩
    have HK9 := Lib.hid (HKN.out.trans hk9 (by simp))
    have HSN9 := Lib.hid (HSN.out.keep hk9)
    clear hk9
    go_wp2_with fail
    (with_reducible refine (rcheck_any _ _ _ HSN9.out HNC.out HNN.out).mono ?_)
    rintro e w10 ⟨rfl, hk10⟩
    have HK10 := Lib.hid (HK9.out.trans hk10 (by simp))
    clear hk10
    rw [HRE.out, ← HCN.out]
    go_wp2
    go_ret
    exact ⟨ret_bool (by simp), HK10.out.below (Nat.le_refl _) (by simp)⟩
  · have hn3 := within_lt a4 3 (by decide)
    obtain ⟨q, hq⟩ : ∃ q, q = (a4 % ((3 : Nat) : Int)).toNat := ⟨_, rfl⟩
    have HWI := Lib.hid (fun wx => within_int a4 3 3 wx rfl (by decide) (by decide) HW4.out)
    rw [← hq] at hn3 HWI
    clear hq
    have hx1 : -1 ≤ f.c + (q : Int) - 1 ∧ f.c + (q : Int) - 1 ≤ 2000 := by omega
    go_upto_region 25 with fail
    go_still_tail 13, (by kernel_rfl)
    still_call ((HWI.out _).mono fun e w'' h => ⟨h.1, h.2.symm⟩)
    repeat still_step
    refine wpStill_nil ?_
    change wpList _ _ _ _ _ w6.drew
    generalize hw6 : w6.drew = wd
    have HWD := Lib.hid hw6
    have z3' : wd.frozen? ⟨g, i * 4 + 3, none⟩ = false := by rw [← hw6]; exact z3
    have b3' : wd.cell? ⟨g, i * 4 + 3, none⟩ = some (.int .i64 f.c) := by rw [← hw6]; exact b3
    clear hw6
    go_wp2_with fail
    have hrow := own_set HO6.out (i * 4 + 3) (by omega) (.int .i64 (f.c + (q : Int) - 1))
    rw [flat_setj l i f { f with c := f.c + (q : Int) - 1 } 3 _ HF.out (by decide) rfl] at hrow
    have HRW := Lib.hid (show (wd.setCell ⟨g, i * 4 + 3, none⟩ (.int .i64 (f.c + (q : Int) - 1))).ownsRow _ _ _ _ _ _ by rw [← HWD.out]; exact hrow)
    have HKW := Lib.hid (show Chg [] w (wd.setCell ⟨g, i * 4 + 3, none⟩ (.int .i64 (f.c + (q : Int) - 1))) by rw [← HWD.out]; exact (HK6.out.drew).setCell (p := ⟨g, i * 4 + 3, none⟩) (.inr (Nat.le_trans HB45.out hgB)) _)
    clear hrow b0 b1 b2 b3 z0 z1 z2 z3 z3' b3'
    generalize World.setCell _ _ _ = ws at HRW HKW ⊢
    have HSN := Lib.hid (show SeenF _ _ (l.set i { f with c := f.c + (q : Int) - 1 }) from SeenF.own HRW.out (by rw [List.length_set, HN.out]))
    have HNC := Lib.hid (show ∀ y ∈ (l.set i { f with c := f.c + (q : Int) - 1 }), y.c ≤ 9223372036854775807 from set_mem i { f with c := f.c + (q : Int) - 1 } (fun f => f.c ≤ 9223372036854775807) HFC.out (show f.c + (q : Int) - 1 ≤ 9223372036854775807 by omega))
    have HNN := Lib.hid (show ∀ y ∈ (l.set i { f with c := f.c + (q : Int) - 1 }), y.n.size ≤ 1000000 from set_mem i { f with c := f.c + (q : Int) - 1 } (fun f => f.n.size ≤ 1000000) HFN.out (HFN.out f (List.mem_of_getElem? HF.out)))
    have HKN := Lib.hid HKW.out
    have HRE := Lib.hid (refChk_eq (l.set i { f with c := f.c + (q : Int) - 1 }))
    obtain ⟨cn, hcn⟩ : ∃ c, c = chk (l.set i { f with c := f.c + (q : Int) - 1 }) := ⟨_, rfl⟩
    have HCN := Lib.hid hcn
    clear hcn
    (with_reducible refine (check_any _ _ _ HSN.out HNC.out HNN.out).mono ?_)
    rintro e w9 ⟨rfl, hk9⟩
    have HK9 := Lib.hid (HKN.out.trans hk9 (by simp))
    have HSN9 := Lib.hid (HSN.out.keep hk9)
    clear hk9
    go_wp2_with fail
    (with_reducible refine (rcheck_any _ _ _ HSN9.out HNC.out HNN.out).mono ?_)
    rintro e w10 ⟨rfl, hk10⟩
    have HK10 := Lib.hid (HK9.out.trans hk10 (by simp))
    clear hk10
    rw [HRE.out, ← HCN.out]
    go_wp2
    go_ret
    exact ⟨ret_bool (by simp), HK10.out.below (Nat.le_refl _) (by simp)⟩

end Go.Proofs.Ytpbclmcngafngaa
