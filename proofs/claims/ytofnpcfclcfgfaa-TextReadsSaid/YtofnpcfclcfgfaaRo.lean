/- The reference's parser: one, where group is known; both. -/
import Derived.Test.YtofnpcfclcfgfaaRv
namespace Go.Proofs.Ytofnpcfclcfgfaa
open Go.RowKit
set_option linter.unusedVariables false

theorem one_eq {b : Bool} {ws : List ByteArray} {S : List F} {o : List (Nat × Int)} (h : b = true ∨ ws.headD ByteArray.empty ≠ wCl) :
    rdM b ws S o = if ixR (ws.headD ByteArray.empty) < 0 ∨ ixK (ws.tail.headD ByteArray.empty) < 0 then (6, []) else nmR ws.tail.tail (ixR (ws.headD ByteArray.empty)) (ixK (ws.tail.headD ByteArray.empty)) S o := by
  cases ws with
  | nil => rw [rdM_none]; rfl
  | cons w t =>
    rw [rdM_fd]
    · rfl
    · rintro ⟨h1, h2⟩
      rcases h with h | h
      · rw [h1] at h; cases h
      · exact h h2

theorem seenS_lit {W : World} {C : Array Value} {l : List ByteArray} {n : Nat} (hC : C.toList = sv l) (hn : l.length = n) (hm : n ≤ maxLen) : SeenS (W.alloc (.cells C 9)) (.slice (some ⟨W.heap.size, 0, none⟩) n n) l :=
  own_seenS (own_lit W W.heap.size 0 rfl (Nat.zero_le _) 9 C (sv l) n 1 hC (by
    have := congrArg List.length hC
    simp at this
    omega) hm) hn

theorem which_reps (x : ByteArray) (W : World) : Calls Try.prog 106 #[.string x, .slice (some ⟨W.heap.size, 0, none⟩) 3 3] (W.alloc (.cells #[.string { data := #[114, 101, 113, 117, 105, 114, 101, 100] }, .string { data := #[111, 112, 116, 105, 111, 110, 97, 108] }, .string { data := #[114, 101, 112, 101, 97, 116, 101, 100] }] 9)) fun e w' => e = .returned (.int .i64 (ixR x)) ∧ (W.alloc (.cells #[.string { data := #[114, 101, 113, 117, 105, 114, 101, 100] }, .string { data := #[111, 112, 116, 105, 111, 110, 97, 108] }, .string { data := #[114, 101, 112, 101, 97, 116, 101, 100] }] 9)) = w' :=
  rwhich_any x _ repsL _ (seenS_lit rfl rfl (by decide)) (by decide)
theorem which_kinds (x : ByteArray) (W : World) : Calls Try.prog 106 #[.string x, .slice (some ⟨W.heap.size, 0, none⟩) 5 5] (W.alloc (.cells #[.string { data := #[103, 114, 111, 117, 112] }, .string { data := #[98, 111, 111, 108] }, .string { data := #[105, 110, 116, 51, 50] }, .string { data := #[105, 110, 116, 54, 52] }, .string { data := #[98, 121, 116, 101, 115] }] 9)) fun e w' => e = .returned (.int .i64 (ixK x)) ∧ (W.alloc (.cells #[.string { data := #[103, 114, 111, 117, 112] }, .string { data := #[98, 111, 111, 108] }, .string { data := #[105, 110, 116, 51, 50] }, .string { data := #[105, 110, 116, 54, 52] }, .string { data := #[98, 121, 116, 101, 115] }] 9)) = w' :=
  rwhich_any x _ kindsL _ (seenS_lit rfl rfl (by decide)) (by decide)

theorem bumpO_len (o : List (Nat × Int)) : (bumpO o).length = o.length := by
  cases o with
  | nil => rfl
  | cons e o => obtain ⟨g, n⟩ := e; rfl

theorem PS.kids {w0 w : World} {gp : Nat} {W : List ByteArray} {wv : Value} {i : Nat} {S : List F} {gs n c : Nat} {e : Int} (h : PS w0 w gp W wv i S (.slice (some ⟨gs, 0, none⟩) n c) e) (hn : n = S.length) {g : Nat} (hg : g < S.length) (v : Int) :
    PS w0 (w.setCell ⟨gs, g * 4 + 3, none⟩ (.int .i64 v)) gp W wv i (setC S g v) (.slice (some ⟨gs, 0, none⟩) n c) e := by
  subst hn
  have hne : gp ≠ gs := fun e => h.sep (by rw [e]; rfl)
  have hB := (h.os.lt gs rfl).1
  have ho := own_set h.os (g * 4 + 3) (by omega) (.int .i64 v)
  refine ⟨((Chg.refl [gs] w).setCell (by simp) _).heap h.hb (by simpa using hne), h.hw, ?_, h.cg.setCell (.inr hB) _, h.g1, h.le, by rw [setC_length]; exact h.ls, h.wl⟩
  rw [setC_length]
  have e1 : (S.flatMap F.cs).set (g * 4 + 3) (.int .i64 v) = (setC S g v).flatMap F.cs := by
    have hgf : S[g]? = some S[g] := List.getElem?_eq_getElem hg
    rw [flat_set3 S g S[g] v hgf]
    unfold setC
    rw [List.getD, hgf]
    rfl
  rw [← e1]
  exact ho

set_option maxRecDepth 100000 in
set_option maxHeartbeats 4000000 in
theorem one_of_group (d : Nat) (hd : 1 ≤ d) (hd2 : d ≤ 100) (hG : d ≤ 8 → GroupC (d + 1)) : OneC d := by
  intro w0 w gp W wv i S sv b hW h hb
  have hNX := rnext_ok w0 w gp W wv i S sv h
  have HEQ := Lib.hid (fun o => one_eq (S := S) (o := o) hb)
  have hls := h.ls
  have hil := h.le
  obtain ⟨x0, hx0⟩ : ∃ x, x = (W.drop i).headD ByteArray.empty := ⟨_, rfl⟩
  rw [← hx0] at hNX HEQ
  have HNX := Lib.hid hNX
  have HW := Lib.hid hW
  clear h hb hNX hx0 hW
  go_enter Try.func88, Try.ntmps88
  go_wp2_with fail
  (with_reducible refine HNX.out.mono ?_)
  rintro en w1 ⟨rfl, i1, hP1, hd1, hle1, hlt1, -⟩
  rw [← hd1] at HEQ
  obtain ⟨x1, hx1⟩ : ∃ x, x = (W.drop i1).headD ByteArray.empty := ⟨_, rfl⟩
  rw [← hx1] at HEQ
  have HP1 := Lib.hid hP1; have HD1 := Lib.hid hd1; have HLT1 := Lib.hid hlt1
  clear hP1 hd1 hlt1
  go_wp2_with fail
  (with_reducible refine (which_reps x0 w1).mono ?_)
  rintro en w2 ⟨rfl, rfl⟩
  have HA1 := Lib.hid (HP1.out.keep ((Chg.refl [] w1).alloc (.cells #[.string { data := #[114, 101, 113, 117, 105, 114, 101, 100] }, .string { data := #[111, 112, 116, 105, 111, 110, 97, 108] }, .string { data := #[114, 101, 112, 101, 97, 116, 101, 100] }] 9)))
  generalize w1.alloc (.cells #[.string { data := #[114, 101, 113, 117, 105, 114, 101, 100] }, .string { data := #[111, 112, 116, 105, 111, 110, 97, 108] }, .string { data := #[114, 101, 112, 101, 97, 116, 101, 100] }] 9) = w2 at HA1 ⊢
  obtain ⟨r, hr⟩ : ∃ r, r = ixR x0 := ⟨_, rfl⟩
  rw [← hr] at HEQ ⊢
  clear hr
  by_cases hr0 : r < 0
  · have HF := Lib.hid (rfail_set w0 w2 gp W wv i1 S sv 6 HA1.out)
    have HR0 := Lib.hid hr0
    have q1 : decide (r < 0) = true := by simpa using hr0
    clear hr0
    go_wp2_with fail
    (with_reducible refine HF.out.mono ?_)
    rintro en w3 ⟨rfl, hP⟩
    have HP := Lib.hid hP
    clear hP
    go_wp2
    refine bodyPost_ret (results_none rfl _ _ _) rfl ?_
    exact ⟨rfl, i1, S, sv, 6, HP.out, Nat.le_refl _, .inr ⟨by decide, fun o _ => by rw [HEQ.out o, if_pos (.inl HR0.out)]⟩⟩
  have q1 : decide (r < 0) = false := by simpa using hr0
  have HNX2 := Lib.hid (rnext_ok w0 w2 gp W wv i1 S sv HA1.out)
  rw [← hx1] at HNX2
  have HX1 := Lib.hid hx1
  clear hx1
  go_wp2_with fail
  (with_reducible refine HNX2.out.mono ?_)
  rintro en w3 ⟨rfl, i2, hP2, hd2, hle2, hlt2, -⟩
  have HP2 := Lib.hid hP2; have HD2 := Lib.hid hd2
  clear hP2 hd2 hlt2
  go_wp2_with fail
  (with_reducible refine (which_kinds x1 w3).mono ?_)
  rintro en w4 ⟨rfl, rfl⟩
  have HA2 := Lib.hid (HP2.out.keep ((Chg.refl [] w3).alloc (.cells #[.string { data := #[103, 114, 111, 117, 112] }, .string { data := #[98, 111, 111, 108] }, .string { data := #[105, 110, 116, 51, 50] }, .string { data := #[105, 110, 116, 54, 52] }, .string { data := #[98, 121, 116, 101, 115] }] 9)))
  generalize w3.alloc (.cells #[.string { data := #[103, 114, 111, 117, 112] }, .string { data := #[98, 111, 111, 108] }, .string { data := #[105, 110, 116, 51, 50] }, .string { data := #[105, 110, 116, 54, 52] }, .string { data := #[98, 121, 116, 101, 115] }] 9) = w4 at HA2 ⊢
  obtain ⟨k, hk⟩ : ∃ k, k = ixK x1 := ⟨_, rfl⟩
  rw [← hk] at HEQ ⊢
  clear hk
  by_cases hk0 : k < 0
  · have HF := Lib.hid (rfail_set w0 w4 gp W wv i2 S sv 6 HA2.out)
    have HK0 := Lib.hid hk0
    have q2 : decide (k < 0) = true := by simpa using hk0
    clear hk0
    go_wp2_with fail
    (with_reducible refine HF.out.mono ?_)
    rintro en w5 ⟨rfl, hP⟩
    have HP := Lib.hid hP
    clear hP
    go_wp2
    refine bodyPost_ret (results_none rfl _ _ _) rfl ?_
    exact ⟨rfl, i2, S, sv, 6, HP.out, Nat.le_refl _, .inr ⟨by decide, fun o _ => by rw [HEQ.out o, if_pos (.inr HK0.out)]⟩⟩
  have q2 : decide (k < 0) = false := by simpa using hk0
  have HEQ2 := Lib.hid (show ∀ o, rdM b (W.drop i) S o = nmR (W.drop i2) r k S o from fun o => by rw [HEQ.out o, if_neg (by omega), HD2.out])
  have HFD := Lib.hid (rfield_ok ⟨{ data := #[] }, r, k, 0⟩ d w0 w4 gp W wv i2 S sv HA2.out (HW.out.head i2).1 (HW.out.head i2).2 (by omega))
  obtain ⟨c0, c1, c2, c3, -⟩ := HA2.out.cells
  obtain ⟨sa, sc, rfl⟩ := own_shape HA2.out.os
  obtain ⟨ns, hns⟩ : ∃ n, n = S.length := ⟨_, rfl⟩
  rw [← hns] at hls c2
  have HNS := Lib.hid hns
  clear hr0 hk0 hns
  go_wp2_with fail
  (with_reducible refine HFD.out.mono ?_)
  rintro en w5 ⟨rfl, i3, sv3, hd3, hle3, hlt3, hcase⟩
  have HD3 := Lib.hid hd3
  clear hd3
  rcases hcase with ⟨hz, hP3⟩ | ⟨hz, hP3⟩
  · obtain ⟨n40, hd8, -⟩ := refN_zero hz
    have hne2 : W.drop i2 ≠ [] := fun h => by rw [h, List.headD_nil, refN_empty] at hz; cases hz
    have hi23 : i2 < i3 := hlt3 (by
      rcases Nat.lt_or_ge i2 W.length with h1 | h1
      · exact h1
      · exact absurd (List.drop_of_length_le h1) hne2)
    obtain ⟨x2, hx2⟩ : ∃ x, x = (W.drop i2).headD ByteArray.empty := ⟨_, rfl⟩
    have HNM := Lib.hid (show ∀ o, o.length = d → rdM b (W.drop i) S o = if k = 0 ∧ (W.drop i3).headD ByteArray.empty = wOp then rdM true (W.drop i3).tail (S ++ [⟨x2, r, k, 0⟩]) ((S.length, 0) :: bumpO o) else if k ≠ 0 ∧ (W.drop i3).headD ByteArray.empty = wSc then rdM false (W.drop i3).tail (S ++ [⟨x2, r, k, 0⟩]) (bumpO o) else (6, []) from fun o ho => by
      rw [HEQ2.out o, (nmR_ok (ws := W.drop i2) (r := r) (k := k) (S := S) (o := o) (by rw [ho]; exact hz)).2, hx2, HD3.out])
    rw [← hx2] at hP3
    have HP3 := Lib.hid hP3
    obtain ⟨-, -, -, b3, -⟩ := hP3.cells
    obtain ⟨ta, tc, rfl⟩ := own_shape hP3.os
    clear hP3 hx2 hz c0 c1 c2 c3 hne2 hlt3
    by_cases hkz : k = 0
    · have q3 : (k != 0) = false := by simpa using hkz
      have HG := Lib.hid (hG hd8 w0 w5 gp W wv i3 _ _ HW.out HP3.out)
      rw [show (((d + 1 : Nat)) : Int) = (d : Int) + 1 by omega] at HG
      have HKZ := Lib.hid hkz
      clear hkz
      go_wp2_with fail
      (with_reducible refine HG.out.mono ?_)
      rintro en w6 ⟨n, i4, S4, sv4, e4, rfl, hP4, hl4, h4⟩
      have HP4 := Lib.hid hP4; have H4 := Lib.hid h4
      obtain ⟨ua, uc, rfl⟩ := own_shape hP4.os
      have hl4' : ns + 1 ≤ S4.length := by rw [HNS.out]; simpa using hl4
      obtain ⟨gs, rfl, hgB, hgl, hfz, hcl⟩ := own_ptr hP4.os (by omega)
      obtain ⟨-, -, b2, -, -⟩ := hP4.cells
      have hls4 := hP4.ls
      have hcst : ∃ u, w6.cell? ⟨gs, ns * 4 + 3, none⟩ = some u := by
        have hx : S4[ns]? = some (S4[ns]'(by omega)) := List.getElem?_eq_getElem _
        have := flat_get F.cs_len S4 ns _ 3 _ hx rfl
        exact ⟨_, hcl _ _ this⟩
      obtain ⟨u, hcst⟩ := hcst
      have hf1 := hfz (ns * 4 + 3)
      obtain ⟨n4, hn4⟩ : ∃ n, n = S4.length := ⟨_, rfl⟩
      rw [← hn4] at b2 hl4' hls4 HP4
      have HN4 := Lib.hid hn4
      clear hP4 h4 hfz hcl hn4 hl4
      go_wp2
      go_end0
      refine ⟨rfl, i4, setC S4 ns n, _, e4, HP4.out.kids HN4.out (by rw [← HN4.out]; omega) n, by rw [setC_length, ← HN4.out, ← HNS.out]; omega, ?_⟩
      rcases H4.out with ⟨h0, hlt4, heq⟩ | ⟨h0, heq⟩
      · refine .inl ⟨h0, by omega, fun o ho => ?_⟩
        have hm := heq S.length (bumpO o) (by rw [bumpO_len, ho])
        have hbo : bumpO o ≠ [] := fun h => by have := bumpO_len o; rw [h, ho] at this; simp at this; omega
        rw [if_neg hbo] at hm
        rw [HNM.out o ho, HNS.out, ← hm]
        unfold mG
        rw [HKZ.out]
        by_cases hx : (W.drop i3).headD ByteArray.empty = wOp
        · rw [if_pos ⟨rfl, hx⟩, if_pos hx]
        · rw [if_neg (fun h => hx h.2), if_neg (fun h => h.1 rfl), if_neg hx]
      · refine .inr ⟨h0, fun o ho => ?_⟩
        have hm := heq S.length (bumpO o) (by rw [bumpO_len, ho])
        rw [HNM.out o ho, ← hm]
        unfold mG
        rw [HKZ.out]
        by_cases hx : (W.drop i3).headD ByteArray.empty = wOp
        · rw [if_pos ⟨rfl, hx⟩, if_pos hx]
        · rw [if_neg (fun h => hx h.2), if_neg (fun h => h.1 rfl), if_neg hx]
    · have q3 : (k != 0) = true := by simpa using hkz
      have HMU := Lib.hid (rmust_ok { data := #[59] } w0 w5 gp W wv i3 _ _ HP3.out (by decide))
      have HKZ := Lib.hid hkz
      clear hkz
      go_wp2_with fail
      (with_reducible refine HMU.out.mono ?_)
      rintro en w6 ⟨rfl, i4, hP4, hd4, hle4, hlt4⟩
      have HP4 := Lib.hid hP4; have HD4 := Lib.hid hd4
      clear hP4 hd4 hlt4
      go_wp2
      refine bodyPost_ret (results_none rfl _ _ _) rfl ?_
      refine ⟨rfl, i4, _, _, _, HP4.out, by simp, ?_⟩
      by_cases hx : (W.drop i3).headD ByteArray.empty = { data := #[59] }
      · refine .inl ⟨if_pos hx, by omega, fun o ho => ?_⟩
        rw [HNM.out o ho, if_neg (fun h => HKZ.out h.1), if_pos ⟨HKZ.out, hx⟩, HD4.out]
      · refine .inr ⟨by rw [if_neg hx]; decide, fun o ho => ?_⟩
        rw [HNM.out o ho, if_neg (fun h => HKZ.out h.1), if_neg (fun h => hx h.2), if_neg hx]
  · obtain ⟨e3, he3⟩ : ∃ e, e = refN ((W.drop i2).headD ByteArray.empty) S.length d := ⟨_, rfl⟩
    rw [← he3] at hP3 hz
    obtain ⟨-, -, -, b3, -⟩ := hP3.cells
    have HP3 := Lib.hid hP3; have HE3 := Lib.hid he3; have HZ := Lib.hid hz
    have q3 : (e3 != 0) = true := by simpa using hz
    clear hP3 he3 hz c0 c1 c2 c3
    go_wp2
    refine bodyPost_ret (results_none rfl _ _ _) rfl ?_
    exact ⟨rfl, i3, S, sv3, e3, HP3.out, Nat.le_refl _, .inr ⟨HZ.out, fun o ho => by rw [HEQ2.out o, nmR_bad (by rw [ho, ← HE3.out]; exact HZ.out), ho, ← HE3.out]⟩⟩

end Go.Proofs.Ytofnpcfclcfgfaa
