/- Contract of the reference's Parse of a text. -/
import Derived.Test.YtofnpcfclcfgfaaRy
namespace Go.Proofs.Ytofnpcfclcfgfaa
open Go.RowKit
set_option linter.unusedVariables false

/-- The row that an own slice is, of whatever base lies below. -/
theorem own_up {w : World} {B B' T size n : Nat} {v : Value} {xs : List Value} (h : w.ownsRow B T size v n xs) (hB : B' ≤ B) : w.ownsRow B' T size v n xs := own_mono h hB

/-- How Parse stands ahead of its group, and behind it. -/
def PJ1 (w1 : World) (gp : Nat) (W : List ByteArray) (wv : Value) (R : Int × List F) (wx : World) : Prop :=
  ∃ i S sv e, PS w1 wx gp W wv i S sv e ∧ (e ≠ 0 ∧ R = (e, []) ∨ e = 0 ∧ S.length = 1 ∧ R = mG (W.drop i) S 0 [])
def PJ2 (w1 : World) (gp : Nat) (W : List ByteArray) (wv : Value) (R : Int × List F) (wx : World) : Prop :=
  ∃ i S sv e, PS w1 wx gp W wv i S sv e ∧ (e ≠ 0 ∧ R = (e, []) ∨ e = 0 ∧ R = if W.drop i = [] then (0, S) else (6, []))

set_option maxRecDepth 100000 in
set_option maxHeartbeats 4000000 in
theorem rparse_any (s : ByteArray) (w : World) (hs : s.size ≤ 9223372036854775807) :
    Calls Try.prog 23 #[.string s] w fun e w' => Chg [] w w' ∧ ReadOut (parseL (bl s)) w e w' := by
  by_cases h4 : 4000 < s.size
  · have d1 : decide ((4000 : Int) < (s.size : Int)) = true := by simp; omega
    have E := Lib.hid (parseL_long (l := bl s) (by simpa using h4))
    clear h4
    go_enter Try.func23, Try.ntmps23
    go_wp2
    go_ret2
    exact ⟨Chg.refl [] w, .inr ⟨by rw [E.out]; decide, by rw [E.out]; rfl⟩⟩
  have d1 : decide ((4000 : Int) < (s.size : Int)) = false := by simp; omega
  have H4 := Lib.hid (show ¬ 4000 < (bl s).length by simpa using h4)
  have hs4 : s.size ≤ 4000 := by omega
  clear h4
  go_enter Try.func23, Try.ntmps23
  go_wp2_with fail
  (with_reducible refine (rwords_any s w hs4).mono ?_)
  rintro e w1 ⟨hk1, hout⟩
  have HK1 := Lib.hid hk1
  clear hk1
  rcases hout with ⟨hw, rfl⟩ | ⟨ws, v, hw, rfl, hown, hwl⟩
  · have E := Lib.hid (parseL_none H4.out hw)
    clear hw
    go_wp2
    go_ret2
    exact ⟨HK1.out, .inr ⟨by rw [E.out]; decide, by rw [E.out]; rfl⟩⟩
  have E := Lib.hid (parseL_some H4.out hw)
  have HWO := Lib.hid (words_ok hw (words_size hw hs4))
  obtain ⟨va, vc, rfl⟩ := own_shape hown
  have HSW := Lib.hid (own_seenS hown (by simp))
  clear hw hown
  obtain ⟨W, hW⟩ : ∃ W, W = ws.map str := ⟨_, rfl⟩
  have HWL := Lib.hid (show W.length = ws.length by rw [hW]; simp)
  rw [← hW] at E HWO HSW
  obtain ⟨R, hR⟩ : ∃ R, R = rdS W := ⟨_, rfl⟩
  rw [← hR] at E
  have HR := Lib.hid hR
  clear hW hR
  go_upto_region 7 with fail
  have hP0 : PS w1 (w1.alloc (.cells #[.slice va ws.length vc, .int .i64 0, .slice none 0 0, .int .i64 0] 91)) w1.heap.size W (.slice va ws.length vc) 0 [] (.slice none 0 0) 0 :=
    ⟨heap_alloc_new w1 _, HSW.out, World.ownsRow_nil _ _ _ _, (Chg.refl [] w1).alloc _, Nat.le_refl _, Nat.zero_le _, by simp, by rw [HWL.out]; omega⟩
  have HP0 := Lib.hid hP0
  generalize w1.alloc (.cells #[.slice va ws.length vc, .int .i64 0, .slice none 0 0, .int .i64 0] 91) = W2 at hP0 HP0 ⊢
  obtain ⟨gp, hgp⟩ : ∃ gp, gp = w1.heap.size := ⟨_, rfl⟩
  rw [← hgp] at HP0 ⊢
  clear hP0 hgp
  obtain ⟨n, hn⟩ : ∃ n, n = ws.length := ⟨_, rfl⟩
  rw [← hn] at HP0 HSW HWL hwl ⊢
  clear hn
  obtain ⟨wv, hwv⟩ : ∃ wv, wv = Value.slice va n vc := ⟨_, rfl⟩
  rw [← hwv] at HP0
  have HWV := Lib.hid hwv
  clear hwv
  go_cut [] (fun wx => ∃ i e, PS w1 wx gp W wv i [] (.slice none 0 0) e ∧ (e = 0 ∧ W.headD ByteArray.empty = wMsg ∧ W.drop i = W.tail ∨ e = 6 ∧ W.headD ByteArray.empty ≠ wMsg))
  case first =>
    have HM := Lib.hid (rmust_ok { data := #[109, 101, 115, 115, 97, 103, 101] } w1 W2 gp W wv 0 [] (.slice none 0 0) HP0.out (by decide))
    go_wp2_with fail
    (with_reducible refine HM.out.mono ?_)
    rintro en w3 ⟨rfl, i, hP, hd, -, -⟩
    have HP := Lib.hid hP; have HD := Lib.hid hd
    clear hP hd
    go_wp2_with fail
    go_meet
    case rel =>
      rw [List.drop_zero] at HP HD
      by_cases hx : W.headD ByteArray.empty = { data := #[109, 101, 115, 115, 97, 103, 101] }
      · exact ⟨i, 0, by have := HP.out; rw [if_pos hx] at this; exact this, .inl ⟨rfl, hx, HD.out⟩⟩
      · exact ⟨i, 6, by have := HP.out; rw [if_neg hx] at this; exact this, .inr ⟨rfl, hx⟩⟩
  case rest =>
    obtain ⟨i, e, hP, hcase⟩ := hcut
    go_upto_region 8 with fail
    go_cut [] (fun wx => PJ1 w1 gp W wv R wx)
    case first =>
      rcases hcase with ⟨rfl, hx, hd⟩ | ⟨rfl, hx⟩
      · have HF := Lib.hid (rfield_ok ⟨{ data := #[] }, 0, 0, 0⟩ 0 w1 wc gp W wv i [] _ hP (HWO.out.head i).1 (HWO.out.head i).2 (by omega))
        rw [show (((0 : Nat)) : Int) = 0 from rfl] at HF
        have HX := Lib.hid hx; have HD := Lib.hid hd
        clear hP hx hd
        go_wp2_with fail
        (with_reducible refine HF.out.mono ?_)
        rintro en w3 ⟨rfl, i3, sv3, hd3, -, -, hc3⟩
        have HC3 := Lib.hid hc3; have HD3 := Lib.hid hd3
        clear hc3 hd3
        go_wp2_with fail
        go_meet
        case rel =>
          have hRS : R = nmR (W.drop i) 0 0 [] [] := by rw [HR.out]; unfold rdS; rw [if_pos HX.out, HD.out]
          rcases HC3.out with ⟨hz, hP3⟩ | ⟨hz, hP3⟩
          · refine ⟨i3, _, sv3, 0, hP3, .inr ⟨rfl, rfl, ?_⟩⟩
            rw [hRS, (nmR_ok (ws := W.drop i) (r := 0) (k := 0) (S := []) (o := []) hz).2, HD3.out]
            unfold mG
            by_cases hop : (W.drop i).tail.headD ByteArray.empty = wOp
            · rw [if_pos ⟨rfl, hop⟩, if_pos hop]; rfl
            · rw [if_neg (fun h => hop h.2), if_neg (fun h => h.1 rfl), if_neg hop]
          · exact ⟨i3, _, sv3, _, hP3, .inl ⟨hz, by rw [hRS]; exact nmR_bad hz⟩⟩
      · have HF := Lib.hid (rfield_err ⟨{ data := #[] }, 0, 0, 0⟩ 0 w1 wc gp W wv i [] _ 6 hP (by decide))
        rw [show (((0 : Nat)) : Int) = 0 from rfl] at HF
        have HX := Lib.hid hx
        clear hP hx
        go_wp2_with fail
        (with_reducible refine HF.out.mono ?_)
        rintro en w3 ⟨rfl, hP3⟩
        have HP3 := Lib.hid hP3
        clear hP3
        go_wp2_with fail
        go_meet
        case rel => exact ⟨i, _, _, 6, HP3.out, .inl ⟨by decide, by rw [HR.out]; unfold rdS; rw [if_neg HX.out]⟩⟩
    case rest =>
      obtain ⟨i1, S, sv1, e1, hP1, hc1⟩ := hcut
      obtain ⟨-, -, -, b3, -⟩ := hP1.cells
      have HP1 := Lib.hid hP1; have HC1 := Lib.hid hc1
      clear hP hcase hP1 hc1
      go_upto_if 30 with fail
      go_cut [] (fun wx => PJ2 w1 gp W wv R wx)
      case first =>
        by_cases he : e1 = 0
        · have hq : ((e1 : Int) == 0) = true := by simp [he]
          obtain ⟨-, hS1, hRG⟩ : e1 = 0 ∧ S.length = 1 ∧ R = mG (W.drop i1) S 0 [] := by
            rcases HC1.out with h | h
            · exact absurd he h.1
            · exact h
          have HRG := Lib.hid hRG
          have HG := Lib.hid (group_one w1 wc gp W wv i1 S sv1 HWO.out (by have := HP1.out; rw [he] at this; exact this))
          rw [show (((1 : Nat)) : Int) = 1 from rfl] at HG
          clear he hRG
          go_wp2_with fail
          (with_reducible refine HG.out.mono ?_)
          rintro en w6 ⟨m, i4, S4, sv4, e4, rfl, hP4, hl4, h4⟩
          have HP4 := Lib.hid hP4; have H4' := Lib.hid h4
          obtain ⟨ua, uc, rfl⟩ := own_shape hP4.os
          obtain ⟨gs, rfl, hgB, hgl, hfz, hcl⟩ := own_ptr hP4.os (by omega)
          obtain ⟨-, -, b2, -, -⟩ := hP4.cells
          have hcst : ∃ u, w6.cell? ⟨gs, 3, none⟩ = some u := by
            have hx : S4[0]? = some (S4[0]'(by omega)) := List.getElem?_eq_getElem _
            have := flat_get F.cs_len S4 0 _ 3 _ hx rfl
            exact ⟨_, hcl _ _ this⟩
          obtain ⟨u, hcst⟩ := hcst
          have hf1 := hfz 3
          obtain ⟨n4, hn4⟩ : ∃ n, n = S4.length := ⟨_, rfl⟩
          have hls4 := hP4.ls
          rw [← hn4] at b2 hl4 HP4 hls4
          have hn4p : 0 < n4 := by omega
          have HN4 := Lib.hid hn4
          clear hP4 h4 hfz hcl hn4
          go_wp2_with fail
          go_meet
          case rel =>
            refine ⟨i4, setC S4 0 m, _, e4, by have := HP4.out.kids HN4.out (g := 0) (by rw [← HN4.out]; omega) (m : Int); simpa using this, ?_⟩
            rcases H4'.out with ⟨h0, -, heq⟩ | ⟨h0, heq⟩
            · refine .inr ⟨h0, ?_⟩
              rw [HRG.out, heq 0 [] rfl, if_pos rfl]
            · exact .inl ⟨h0, by rw [HRG.out, heq 0 [] rfl]⟩
        · have hq : ((e1 : Int) == 0) = false := by simpa using he
          go_wp2_with fail
          go_meet
          case rel =>
            rcases HC1.out with h | h
            · exact ⟨i1, S, sv1, e1, HP1.out, .inl h⟩
            · exact absurd h.1 he
      case rest =>
        obtain ⟨i, S2, sv2, e2, hP2, hc2⟩ := hcut
        have HC2 := Lib.hid hc2
        have hCGW := Lib.hid (HK1.out.trans hP2.cg (by simp))
        have hile := hP2.le
        rw [HWL.out] at hile
        have hP2' := hP2
        rw [HWV.out] at hP2'
        obtain ⟨c0, c1, c2, c3, hfg⟩ := hP2'.cells
        have HP2 := Lib.hid hP2'
        clear hP2 hP2' hc2 b3
        by_cases he : e2 = 0
        · subst he
          have hRE : R = if W.drop i = [] then (0, S2) else (6, []) := by
            rcases HC2.out with h | h
            · exact absurd rfl h.1
            · exact h.2
          by_cases hin : i < n
          · have hdr : W.drop i ≠ [] := fun h => by
              have := congrArg List.length h
              simp at this
              rw [HWL.out] at this
              omega
            rw [if_neg hdr] at hRE
            have HPL := Lib.hid (show parseL (bl s) = (6, []) by rw [E.out, hRE, if_pos (by decide)])
            have d2 : decide ((i : Int) < (n : Int)) = true := by simpa using hin
            have HFL := Lib.hid (fun q => rfail_set w1 (wc.drewN q) gp W _ i S2 sv2 6 (HP2.out.drew q))
            clear hRE hdr
            go_wp2_with fail
            go_quiet (fail)
            go_wp2_with fail
            (with_reducible refine (HFL.out _).mono ?_)
            rintro en w7 ⟨rfl, hP7⟩
            obtain ⟨f0, f1, f2, f3, -⟩ := hP7.cells
            have HC7 := Lib.hid (HK1.out.trans hP7.cg (by simp))
            clear hP7 c0 c1 c2 c3 hfg
            go_wp2_with fail
            go_quiet (fail)
            go_wp2
            go_ret2
            exact ⟨HC7.out.drewN _, .inr ⟨by rw [HPL.out]; decide, by rw [HPL.out]; rfl⟩⟩
          · have hdr : W.drop i = [] := List.drop_of_length_le (by rw [HWL.out]; omega)
            rw [if_pos hdr] at hRE
            have HSM := Lib.hid (show ∀ f ∈ S2, Small f by
              have := rdS_small W
              rw [← HR.out, hRE] at this
              exact this)
            have HPL0 := Lib.hid (show parseL (bl s) = if chk S2 ≠ 0 then (chk S2, []) else (0, S2) by rw [E.out, hRE, if_neg (by simp)])
            have d2 : decide ((i : Int) < (n : Int)) = false := by simpa using hin
            obtain ⟨ta, tc, rfl⟩ := own_shape HP2.out.os
            have HCK := Lib.hid (fun q => rcheck_any (.slice ta S2.length tc) S2 (wc.drewN q) (SeenF.own ((HP2.out.drew q).os) rfl) (fun f hf => by have := (HSM.out f hf).2; omega) (fun f hf => by have := (HSM.out f hf).1; omega))
            rw [refChk_eq] at HCK
            obtain ⟨cv, hcv⟩ : ∃ c, c = chk S2 := ⟨_, rfl⟩
            rw [← hcv] at HCK HPL0
            have HPE := Lib.hid (fun (q : Nat) (wy : World) (h : Chg [] (wc.drewN q) wy) => ((HP2.out.drew q).keep h).err cv)
            obtain ⟨m2, hm2⟩ : ∃ m, m = S2.length := ⟨_, rfl⟩
            rw [← hm2] at c2 HCK HPE
            have HM2 := Lib.hid hm2
            clear hRE hdr hcv hm2
            go_wp2_with fail
            go_quiet (fail)
            go_wp2_with fail
            (with_reducible refine (HCK.out _).mono ?_)
            rintro en w7 ⟨rfl, hk7⟩
            have hP7 := HPE.out _ _ hk7
            have hk2 := hk7.cell (p := ⟨gp, 3, none⟩) (v := .int .i64 0) c3 (by simp)
            have hfz7 : w7.frozen? ⟨gp, 3, none⟩ = false := by
              have h8 := hk7.heap (show (wc.drewN _).heap[gp]? = _ from HP2.out.hb) (by simp)
              simp [World.frozen?, h8]
            have HP7 := Lib.hid hP7
            clear hk7 c0 c1 c2 c3 hfg hP7
            go_upto_region 16 with fail
            have hP7 := HP7.out
            generalize w7.setCell ⟨gp, 3, none⟩ (.int .i64 cv) = W7 at hP7 HP7 ⊢
            obtain ⟨f0, f1, f2, f3, -⟩ := hP7.cells
            have HC7 := Lib.hid (HK1.out.trans hP7.cg (by simp))
            have HO7 := Lib.hid (own_mono hP7.os HK1.out.size)
            clear hP7 hk2 hfz7
            by_cases hc0 : cv = 0
            · have q3 : ((cv : Int) != 0) = false := by simpa using hc0
              have HPL := Lib.hid (show parseL (bl s) = (0, S2) by rw [HPL0.out, if_neg (by rw [hc0]; simp)])
              clear hc0
              go_wp2
              go_ret2
              exact ⟨HC7.out, .inl ⟨by rw [HPL.out], _, rfl, by rw [HPL.out]; rw [HM2.out] at HO7 ⊢; exact HO7.out⟩⟩
            · have q3 : ((cv : Int) != 0) = true := by simpa using hc0
              have HPL := Lib.hid (show parseL (bl s) = (cv, []) by rw [HPL0.out, if_pos hc0])
              have HC0 := Lib.hid hc0
              clear hc0
              go_wp2_with fail
              go_quiet (fail)
              go_wp2
              go_ret2
              exact ⟨HC7.out.drewN _, .inr ⟨by rw [HPL.out]; exact HC0.out, by rw [HPL.out]; rfl⟩⟩
        · have hq : ((e2 : Int) == 0) = false := by simpa using he
          have hq2 : ((e2 : Int) != 0) = true := by simpa using he
          have HRE := Lib.hid (show R = (e2, []) by
            rcases HC2.out with h | h
            · exact h.2
            · exact absurd h.1 he)
          have HPL := Lib.hid (show parseL (bl s) = (e2, []) by rw [E.out, HRE.out, if_pos he])
          have HE2 := Lib.hid he
          clear he
          go_wp2_with fail
          go_quiet (fail)
          go_wp2_with fail
          go_quiet (fail)
          go_wp2
          go_ret2
          exact ⟨(hCGW.out.drewN _).drewN _, .inr ⟨by rw [HPL.out]; exact HE2.out, by rw [HPL.out]; rfl⟩⟩

end Go.Proofs.Ytofnpcfclcfgfaa
