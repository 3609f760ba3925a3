/- The walk of the statement DeltaTexts. -/
import Derived.Test.YtohgnbgijleoaaaDoorDk
import Derived.Test.YtohgnbgijleoaaaDoorDg
import Derived.Deep.RegionLaw
namespace Go.Proofs.YtohgnbgijleoaaaDoor
open Go.RowKit
set_option linter.unusedVariables false
set_option linter.unusedSimpArgs false

theorem str_app12 (a b : List Nat) : str (a ++ b) = str a ++ str b := by
  unfold str
  apply ByteArray.ext
  simp

theorem map_snoc12 {β : Type} (f : V → β) (l : List V) (j : Nat) (v : V) (h : l[j]? = some v) : (l.take (j + 1)).map f = (l.take j).map f ++ [f v] := by
  rw [List.take_add_one, h]
  simp

set_option maxRecDepth 100000 in
set_option maxHeartbeats 4000000 in
theorem walk_DeltaTexts (a0 : Option Addr) (len0 cap0 : Nat) (l0 : List V) (w : World) (hT : Laid w) (w0 : SeenV w (.slice a0 len0 cap0) l0) (v0 : ∀ v ∈ l0, (Lit.int .i64 v.n).wf = true) :
    Calls Tryd.prog 5 #[.slice a0 len0 cap0] w fun e w' => e = .returned (.bool true) ∧ Below w.heap.size w w' := by
  obtain ⟨i0, hi, hz0, hz1, hz2⟩ := info_int
  have HT := Lib.hid hT
  have HK := Lib.hid (known12_any w)
  have HALL := Lib.hid (fun (wx : World) (hc : Chg [] w wx) => all11_any 4 (by omega) _ l0 wx (w0.keep hc) v0)
  have HOK := Lib.hid (allV_ok 4 l0 v0)
  have hL60 := allV_len 4 l0
  obtain ⟨L, hL⟩ : ∃ L, L = allV 4 l0 := ⟨_, rfl⟩
  rw [← hL] at HALL HOK hL60
  obtain ⟨n, hn⟩ : ∃ n, n = L.length := ⟨_, rfl⟩
  rw [← hn] at HALL hL60
  have HN := Lib.hid hn
  rw [show ((4 : Nat) : Int) = 4 from rfl] at HALL
  clear hT w0 v0 hL hn
  go_enter Tryd.func5, Tryd.ntmps5
  go_wp2_with (first
    | (go_at_call 7; (with_reducible refine HK.out.mono ?_); rintro e wA ⟨rfl, hk⟩; have HKA := Lib.hid hk; clear hk)
    | (go_at_call 9; (with_reducible refine (HALL.out _ HKA.out).mono ?_); rintro e wB ⟨x, rfl, hc, ho⟩; obtain ⟨lo, lc, rfl⟩ := own_shape ho; have HKB := Lib.hid (HKA.out.trans hc (by simp)); have HL := Lib.hid (show SeenV wB (.slice lo n lc) L from SeenK.own V.cs_len ho HN.out.symm); clear hc ho)
    | fail)
  go_loopw [4, 5, 6] (fun nv' sv i w' => ∃ j : Nat, j ≤ n ∧ i = .int .i64 (j : Int) ∧ sv = .string (str (txt12 (L.take j))) ∧ Chg [] wB w' ∧ w'.ownsRow wB.heap.size 3 1 nv' j (iv ((L.take j).map fun v => (v.s.size : Int)))) (fun _ _ i _ => n - (intOf i).toNat)
  case atStart => exact ⟨0, Nat.zero_le _, rfl, rfl, Chg.refl _ _, World.ownsRow_nil _ _ _ _⟩
  case round =>
    obtain ⟨j, hj, rfl, rfl, hc, ho⟩ := hrel
    obtain ⟨no, nc, rfl⟩ := own_shape ho
    have HC := Lib.hid hc; have HO := Lib.hid ho
    have hB := hc.size
    clear hc ho
    by_cases hlt : j < n
    · have d1 : decide ((j : Int) < (n : Int)) = true := by simp; omega
      obtain ⟨v, hv⟩ : ∃ v, L[j]? = some v := ⟨_, List.getElem?_eq_getElem (by rw [← HN.out]; exact hlt)⟩
      obtain ⟨g, off, rfl, hcell⟩ := SeenV.get HL.out (by omega)
      obtain ⟨q0, q1⟩ := hcell j v hv
      have HQ1 := Lib.hid q1
      have x0 := HC.out.cell q0 (by simp)
      have x1 := HC.out.cell q1 (by simp)
      clear q0 q1
      have hvs := (okV_in 4 (by omega) v (HOK.out v (List.mem_of_getElem? hv))).2
      have HMS := Lib.hid (map_snoc12 (fun v : V => (v.s.size : Int)) L j v hv)
      have HTS := Lib.hid (show str (txt12 (L.take (j + 1))) = str (txt12 (L.take j)) ++ v.s by rw [txt12_snoc L j v hv, str_app12, str_bl'])
      have htl := txt12_len (L.take j) (fun x hx => (okV_in 4 (by omega) x (HOK.out x (List.mem_of_mem_take hx))).2)
      rw [List.length_take] at htl
      have hts : (str (txt12 (L.take j))).size ≤ 6000 := by rw [str_size]; omega
      obtain ⟨T, hTT⟩ : ∃ T, T = str (txt12 (L.take j)) := ⟨_, rfl⟩
      rw [← hTT] at HTS hts ⊢
      obtain ⟨X, hX⟩ : ∃ X, X = (L.take j).map fun v => (v.s.size : Int) := ⟨_, rfl⟩
      rw [← hX] at HMS HO
      have hsum : ¬ (9223372036854775807 < T.size + v.s.size) := by omega
      have b1 : (j : Int) < (n : Int) := by omega
      clear hcell hv hTT hX htl
      go_wp2_with (first
        | (at_builtin; refine wpList_append_own _ rfl _ _ 33 rfl wB.heap.size 3 i0 (.int .i64 0) 1 8 Tryd.underlying33 hi hz0 hz1 hz2 rfl (by decide) _ _ _ rfl (HO.out.alloc _) ⟨wr.heap.size, 0, none⟩ 1 1 [.int .i64 (v.s.size : Int)] rfl rfl ?c1 ?c2 ?c3 ?c4 ?c5 ?_)
        | fail)
      case c1 => exact cell_one_new _ _ _
      case c2 => simp [Value.oneCell']
      case c3 => unfold maxLen; omega
      case c4 => omega
      case c5 => simp; omega
      intro v6 w6 hown6 hgrow6 _
      have HC6 := Lib.hid ((HC.out.alloc _).grown hgrow6 (fun k hk => .inr (own_ge HO.out k hk)))
      rw [show iv X ++ [Value.int .i64 (v.s.size : Int)] = iv (X ++ [(v.s.size : Int)]) by simp [iv], ← HMS.out] at hown6
      have HO6 := Lib.hid hown6
      have y1 := HC6.out.cell HQ1.out (by simp)
      clear hown6 hgrow6 x0 x1
      go_wp2
      go_roundw
      case rel => exact ⟨j + 1, hlt, by go_num, by rw [HTS.out], HC6.out, HO6.out⟩
      case measure => simp [intOf]; omega
    · have d1 : decide ((j : Int) < (n : Int)) = false := by simp; omega
      obtain rfl : j = n := by omega
      have hLT : L.take j = L := by rw [HN.out, List.take_length]
      rw [hLT] at HO ⊢
      have HIN := Lib.hid (show ∀ x ∈ (L.map fun v => (v.s.size : Int)), In64 x from fun x hx => by
        obtain ⟨v, hv, rfl⟩ := List.mem_map.1 hx
        have := (okV_in 4 (by omega) v (HOK.out v hv)).2
        unfold In64; omega)
      have HE4 := Lib.hid (show encD12 4 L = intsE (L.map fun v => (v.s.size : Int)) ++ txt12 L by unfold encD12; rw [if_neg (by decide), if_pos rfl])
      have HLE := intsE_len _ HIN.out
      rw [List.length_map, ← HN.out] at HLE
      have HTL := txt12_len L (fun v hv => (okV_in 4 (by omega) v (HOK.out v hv)).2)
      rw [← HN.out] at HTL
      have HEN := Lib.hid (fun (wx : World) (hc : Chg [] wB wx) => encode12_any 4 (by omega) (.slice lo j lc) L wx (HT.out.keep (HKB.out.trans hc (by simp))) (HL.out.keep hc) (by rw [← HN.out]; omega) HOK.out)
      have HSI := Lib.hid (ownI_seen HO.out (by rw [List.length_map]; exact HN.out.symm))
      have HIT := Lib.hid (fun (wx : World) (hc : Chg [] wr wx) => dints_any (.slice no j nc) _ wx (HSI.out.keep hc) (by rw [List.length_map, ← HN.out]; omega) HIN.out)
      rw [HE4.out] at HEN
      have HIB := Lib.hid (intsE_bytes (L.map fun v => (v.s.size : Int)))
      obtain ⟨I, hI⟩ : ∃ I, I = intsE (L.map fun v => (v.s.size : Int)) := ⟨_, rfl⟩
      rw [← hI] at HEN HIT HLE HIB
      obtain ⟨T, hTT⟩ : ∃ T, T = txt12 L := ⟨_, rfl⟩
      rw [← hTT] at HEN HTL ⊢
      have HTB := Lib.hid (show ∀ x ∈ I ++ T, x < 2 ^ 8 from fun x hx => by
        rcases List.mem_append.1 hx with h | h
        · exact HIB.out x h
        · rw [hTT] at h
          obtain ⟨v, -, hv⟩ := List.mem_flatMap.1 h
          exact bl_lt _ x hv)
      unfold Made at HEN HIT
      obtain ⟨b1, hb1⟩ : ∃ b, b = I.length := ⟨_, rfl⟩
      obtain ⟨b2, hb2⟩ : ∃ b, b = (I ++ T).length := ⟨_, rfl⟩
      rw [← hb1] at HIT HLE
      rw [← hb2] at HEN
      have HB1 := Lib.hid hb1; have HB2 := Lib.hid hb2
      have hbs : b2 ≤ 60000 := by rw [hb2, List.length_append, ← hb1]; omega
      obtain ⟨sA, hsA⟩ : ∃ s, s = str (I ++ T) := ⟨_, rfl⟩
      obtain ⟨sB, hsB⟩ : ∃ s, s = str I := ⟨_, rfl⟩
      obtain ⟨sC, hsC⟩ : ∃ s, s = str T := ⟨_, rfl⟩
      have HSA := Lib.hid hsA; have HSB := Lib.hid hsB
      have HAB := Lib.hid (show sB ++ sC = sA by rw [hsA, hsB, hsC, str_app12])
      have hsz : ¬ (9223372036854775807 < sB.size + sC.size) := by rw [hsB, hsC, str_size, str_size, ← hb1]; omega
      have hab := HAB.out
      have hee : (sA.toList == sA.toList) = true := by simp
      rw [← hsC]
      have HCN := Lib.hid (show ∀ wx, Chg [] wr wx → Calls Tryd.prog 10 #[.int .i64 4, .slice lo j lc] wx fun e w' => ∃ bo bc, e = .returned (.slice bo b2 bc) ∧ Chg [] wx w' ∧ Seen w' (.slice bo b2 bc) (nv .u8 (I ++ T)) from fun wx hc => by
        refine (HEN.out wx (HC.out.trans hc (by simp))).mono ?_
        rintro e w' ⟨bv, rfl, hk, ho⟩
        obtain ⟨bo, bc, rfl⟩ := own_shape ho
        exact ⟨bo, bc, rfl, hk, (reads_of_own ho).seen⟩)
      have HCI := Lib.hid (show ∀ wx, Chg [] wr wx → Calls Tryd.prog 15 #[.slice no j nc] wx fun e w' => ∃ bo bc, e = .returned (.slice bo b1 bc) ∧ Chg [] wx w' ∧ Seen w' (.slice bo b1 bc) (nv .u8 I) from fun wx hc => by
        refine (HIT.out wx hc).mono ?_
        rintro e w' ⟨bv, rfl, hk, ho⟩
        obtain ⟨bo, bc, rfl⟩ := own_shape ho
        exact ⟨bo, bc, rfl, hk, (reads_of_own ho).seen⟩)
      have HD0 := Lib.hid ((Chg.refl [] wr).drew)
      clear hI hTT hb1 hb2 hsA hsB hsC hLT HEN HIT HLE HTL
      go_upto_region 11 with fail
      go_region_law (first
        | (go_simp; go_at_call 10; (with_reducible refine (HCN.out _ HD0.out).mono ?_); rintro e wE ⟨po, pc, rfl, hc, hs⟩; have hcvA := cvp hs HB2.out HSA.out HTB.out; have HGA := Lib.hid (HD0.out.trans hc (by simp)); have HAA := Lib.hid (Chg.refl [] wE); clear hc hs)
        | (go_simp; go_at_call 15; (with_reducible refine (HCI.out _ HGA.out).mono ?_); rintro e wF ⟨qo, qc, rfl, hc, hs⟩; have hcvB := cvp hs HB1.out HSB.out HIB.out; have HGB := Lib.hid (HGA.out.trans hc (by simp)); have HAB2 := Lib.hid hc; have HBB2 := Lib.hid (Chg.refl [] wF); clear hc hs))
      all_goals
        go_wp2
        go_ret
        exact ⟨rfl, (HKB.out.trans (HC.out.trans HGB.out (by simp)) (by simp)).below (Nat.le_refl _) (by simp)⟩

end Go.Proofs.YtohgnbgijleoaaaDoor
