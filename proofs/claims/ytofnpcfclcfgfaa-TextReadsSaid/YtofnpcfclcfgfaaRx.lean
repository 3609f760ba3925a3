/- The reference's words. -/
import Derived.Test.YtofnpcfclcfgfaaA9
import Derived.Test.YtofnpcfclcfgfaaA4
namespace Go.Proofs.Ytofnpcfclcfgfaa
open Go.RowKit
set_option linter.unusedVariables false

/-- A word ends where no sign of a word follows. -/
theorem wdM_end {cur t : List Nat} {c : Nat} (hc : cur ≠ []) (h : sgnB c = false) : wdM cur (c :: t) = (wdM [] (c :: t)).map ([cur] ++ ·) := by
  cases h1 : stnB c
  · cases h2 : blkB c
    · rw [wdM_bad h h1 h2, wdM_bad h h1 h2]; rfl
    · rw [wdM_blk h h1 h2, wdM_blk h h1 h2, if_neg hc, if_pos rfl]
      cases wdM [] t <;> simp
  · rw [wdM_stn h h1, wdM_stn h h1, if_neg hc, if_pos rfl]
    cases wdM [] t <;> simp

theorem wdM_word {w : List Nat} (hw : ∀ c ∈ w, sgnB c = true) : ∀ (cur t : List Nat), wdM cur (w ++ t) = wdM (cur ++ w) t := by
  induction w with
  | nil => intro cur t; simp
  | cons c w ih =>
    intro cur t
    rw [List.cons_append, wdM_sgn (hw c (by simp)), ih fun x hx => hw x (by simp [hx])]
    simp

/-- How the reference's words stand at place i. -/
structure WX (l : List Nat) (w wx : World) (i : Nat) (ws : List (List Nat)) (v : Value) : Prop where
  eq : (wdM [] (l.drop i ++ [10])).map (ws ++ ·) = wordsL l
  cg : Chg [] w wx
  ow : wx.ownsRow w.heap.size 9 1 v ws.length (sv (ws.map str))
  ln : ws.length ≤ i

theorem WX.word {l : List Nat} {w wx wy : World} {i k : Nat} {ws : List (List Nat)} {v v' : Value} {cur : List Nat} (h : WX l w wx i ws v) (hik : i < k) (hk : k ≤ l.length) (hc : cur = (l.take k).drop i) (hs : ∀ c ∈ cur, sgnB c = true) (he : ∀ c, l[k]? = some c → sgnB c = false)
    (hg : Chg [] w wy) (ho : wy.ownsRow w.heap.size 9 1 v' (ws.length + 1) (sv (ws.map str) ++ [.string (str cur)])) : WX l w wy k (ws ++ [cur]) v' := by
  have hne : cur ≠ [] := by
    intro e
    have := congrArg List.length hc
    rw [e] at this
    simp at this
    omega
  have hd : l.drop i = cur ++ l.drop k := by
    have e1 : l.drop i = (l.take k ++ l.drop k).drop i := by rw [List.take_append_drop]
    rw [e1, List.drop_append_of_le_length (by simp; omega), ← hc]
  refine ⟨?_, hg, ?_, by simp; have := h.ln; omega⟩
  · rw [← h.eq, hd, List.append_assoc, wdM_word hs, List.nil_append]
    have e2 : ∃ c t, l.drop k ++ [10] = c :: t ∧ sgnB c = false := by
      cases hd2 : l[k]? with
      | none =>
        rw [List.getElem?_eq_none_iff] at hd2
        exact ⟨10, [], by rw [List.drop_of_length_le hd2]; rfl, by decide⟩
      | some c =>
        have hlt := (List.getElem?_eq_some_iff.1 hd2).1
        refine ⟨c, l.drop (k + 1) ++ [10], ?_, he c hd2⟩
        rw [List.drop_eq_getElem_cons hlt]
        rw [List.getElem?_eq_getElem hlt] at hd2
        injection hd2 with hd2
        rw [hd2]; rfl
    obtain ⟨c, t, e3, e4⟩ := e2
    rw [e3, wdM_end hne e4, map_app]
  · simpa [sv] using ho

theorem WX.at {l : List Nat} {w wx : World} {i c : Nat} {ws : List (List Nat)} {v : Value} (h : WX l w wx i ws v) (hc : l[i]? = some c) : (wdM [] (c :: (l.drop (i + 1) ++ [10]))).map (ws ++ ·) = wordsL l := by
  have hlt := (List.getElem?_eq_some_iff.1 hc).1
  rw [← h.eq, List.drop_eq_getElem_cons hlt]
  rw [List.getElem?_eq_getElem hlt] at hc
  injection hc with hc
  rw [hc]; rfl

def RWords (s : ByteArray) (w : World) (en : Ending) (w' : World) : Prop :=
  (wordsL (bl s) = none ∧ en = .returned (.tuple #[.slice none 0 0, .bool false])) ∨ ∃ ws v, wordsL (bl s) = some ws ∧ en = .returned (.tuple #[v, .bool true]) ∧ w'.ownsRow w.heap.size 9 1 v ws.length (sv (ws.map str)) ∧ ws.length ≤ 4000

set_option maxRecDepth 100000 in
set_option maxHeartbeats 4000000 in
theorem rwords_any (s : ByteArray) (w : World) (hs : s.size ≤ 4000) :
    Calls Try.prog 50 #[.string s] w fun en w' => Chg [] w w' ∧ RWords s w en w' := by
  obtain ⟨i0, hi, hz0, hz1, hz2⟩ := info_string
  go_enter Try.func50, Try.ntmps50
  go_wp2
  go_loopw [4, 5] (fun s4 s5 wx => ∃ (i : Nat) (ws : List (List Nat)), s5 = .int .i64 (i : Int) ∧ i ≤ s.size ∧ WX (bl s) w wx i ws s4) (fun _ s5 _ => s.size - (intOf s5).toNat)
  case atStart => exact ⟨0, [], rfl, Nat.zero_le _, ⟨by rw [List.drop_zero]; unfold wordsL; cases wdM [] (bl s ++ [10]) <;> simp, Chg.refl [] w, World.ownsRow_nil _ _ _ _, Nat.le_refl _⟩⟩
  case round =>
    obtain ⟨i, ws, rfl, hin, hJ⟩ := hrel
    obtain ⟨va, vc, rfl⟩ := own_shape hJ.ow
    have hln := hJ.ln
    have HJ := Lib.hid hJ
    clear hJ
    by_cases hlt : i < s.size
    · obtain ⟨c, hc⟩ : ∃ c, (s[i]'hlt).toNat = c := ⟨_, rfl⟩
      have hbc : (bl s)[i]? = some c := by rw [bl_get s i hlt, hc]
      have hc8 : c < 256 := by rw [← hc]; exact (s[i]'hlt).toNat_lt
      have HAT := Lib.hid (HJ.out.at hbc)
      have HBC := Lib.hid hbc
      clear hbc
      obtain ⟨n, hn⟩ : ∃ n, n = ws.length := ⟨_, rfl⟩
      have HO := Lib.hid HJ.out.ow
      rw [← hn] at hln HO ⊢
      have HNN := Lib.hid hn
      clear hn
      have HM1 := Lib.hid (show n + 1 ≤ maxLen by unfold maxLen; omega)
      have HM2 := Lib.hid (show (n + 1) * 16 ≤ 140737488355328 by omega)
      have HBZ := Lib.hid (show w.heap.size ≤ wr.heap.size from HJ.out.cg.size)
      cases hsg : sgnB c
      case true =>
        have HSG := Lib.hid (fun wx => sign_any c wx hc8)
        rw [hsg] at HSG
        have HSGT := Lib.hid hsg
        clear hsg
        go_wp2_with fail
        (with_reducible refine (HSG.out _).mono ?_)
        rintro en wy ⟨rfl, rfl⟩
        go_wp2_with fail
        go_loop [7] (fun s7 => ∃ k : Nat, s7 = .int .i64 (k : Int) ∧ i ≤ k ∧ k ≤ s.size ∧ ∀ j x, i ≤ j → j < k → (bl s)[j]? = some x → sgnB x = true) (fun s7 => s.size - (intOf s7).toNat)
        case atStart => exact ⟨i, rfl, Nat.le_refl _, hin, fun j x h1 h2 => absurd h2 (by omega)⟩
        case round =>
          obtain ⟨k, rfl, hik, hks, hall⟩ := hrel
          have HALL := Lib.hid hall
          clear hall
          by_cases hkt : k < s.size
          · obtain ⟨x, hx⟩ : ∃ x, (s[k]'hkt).toNat = x := ⟨_, rfl⟩
            have hbx : (bl s)[k]? = some x := by rw [bl_get s k hkt, hx]
            have hx8 : x < 256 := by rw [← hx]; exact (s[k]'hkt).toNat_lt
            have HSX := Lib.hid (fun wx => sign_any x wx hx8)
            have HBX := Lib.hid hbx
            clear hbx
            cases hsx : sgnB x
            case true =>
              rw [hsx] at HSX
              have HSXX := Lib.hid hsx
              clear hsx
              go_wp2_with fail
              (with_reducible refine (HSX.out _).mono ?_)
              rintro en wy ⟨rfl, rfl⟩
              go_wp2
              go_round
              case rel =>
                refine ⟨k + 1, by go_num, by omega, by omega, fun j y h1 h2 hy => ?_⟩
                by_cases hjk : j < k
                · exact HALL.out j y h1 hjk hy
                · have : j = k := by omega
                  rw [this, HBX.out] at hy
                  injection hy with hy
                  rw [← hy]; exact HSXX.out
              case measure => simp [intOf]; omega
            case false =>
              rw [hsx] at HSX
              have HSXX := Lib.hid hsx
              clear hsx
              go_wp2_with fail
              (with_reducible refine (HSX.out _).mono ?_)
              rintro en wy ⟨rfl, rfl⟩
              have hik2 : i < k := by
                rcases Nat.lt_or_ge i k with h | h
                · exact h
                · have e : k = i := by omega
                  have h2 := HBX.out
                  rw [e, HBC.out] at h2
                  injection h2 with h2
                  have h3 := HSXX.out
                  rw [← h2, HSGT.out] at h3
                  cases h3
              have HEE := Lib.hid (show ∀ c, (bl s)[k]? = some c → sgnB c = false from fun y hy => by
                rw [HBX.out] at hy
                injection hy with hy
                rw [← hy]; exact HSXX.out)
              obtain ⟨cur, hcur⟩ : ∃ cur, cur = ((bl s).take k).drop i := ⟨_, rfl⟩
              have hext : s.extract i k = str cur := by rw [hcur, extract_str s i k (by omega)]
              have HCS := Lib.hid (show ∀ c ∈ cur, sgnB c = true from fun c hc => by
                rw [hcur] at hc
                obtain ⟨j, hj⟩ := List.mem_iff_getElem?.1 hc
                rw [List.getElem?_drop, List.getElem?_take] at hj
                split at hj
                · exact HALL.out (i + j) c (by omega) (by omega) hj
                · cases hj)
              have HCU := Lib.hid hcur
              clear hcur
              go_wp2_with (first
                | (at_builtin; refine wpList_append_at _ rfl (.tmp 33) (.tmp 38) _ rfl w.heap.size 9 i0 (.string ByteArray.empty) 1 16 Try.underlying35 hi hz0 hz1 hz2 rfl (by omega) (.slice va n vc) n (sv (ws.map str)) rfl (HO.out.alloc _) ⟨_, 0, none⟩ 1 1 [.string (str cur)] rfl rfl new_cell one_s HM1.out HM2.out (le_alloc HBZ.out _) ?_; intro v2 w2 hown2 hg2 hat2; have HO2 := Lib.hid hown2; have HC2 := Lib.hid ((HJ.out.cg.alloc _).grown hg2 (fun k hk => .inr (own_ge HO.out k hk))); clear hown2 hg2 hat2)
                | fail)
              go_roundw
              case rel => exact ⟨k, ws ++ [cur], by go_num, hks, HJ.out.word hik2 (by rw [bl_length]; exact hks) HCU.out HCS.out HEE.out HC2.out (by rw [← HNN.out]; exact HO2.out)⟩
              case measure => simp [intOf]; omega
          · have hik2 : i < k := by omega
            have HEE := Lib.hid (show ∀ c, (bl s)[k]? = some c → sgnB c = false from fun y hy => by
              have := (List.getElem?_eq_some_iff.1 hy).1
              rw [bl_length] at this
              omega)
            obtain ⟨cur, hcur⟩ : ∃ cur, cur = ((bl s).take k).drop i := ⟨_, rfl⟩
            have hext : s.extract i k = str cur := by rw [hcur, extract_str s i k (by omega)]
            have HCS := Lib.hid (show ∀ c ∈ cur, sgnB c = true from fun c hc => by
              rw [hcur] at hc
              obtain ⟨j, hj⟩ := List.mem_iff_getElem?.1 hc
              rw [List.getElem?_drop, List.getElem?_take] at hj
              split at hj
              · exact HALL.out (i + j) c (by omega) (by omega) hj
              · cases hj)
            have HCU := Lib.hid hcur
            clear hcur
            go_wp2_with (first
              | (at_builtin; refine wpList_append_at _ rfl (.tmp 33) (.tmp 38) _ rfl w.heap.size 9 i0 (.string ByteArray.empty) 1 16 Try.underlying35 hi hz0 hz1 hz2 rfl (by omega) (.slice va n vc) n (sv (ws.map str)) rfl (HO.out.alloc _) ⟨_, 0, none⟩ 1 1 [.string (str cur)] rfl rfl new_cell one_s HM1.out HM2.out (le_alloc HBZ.out _) ?_; intro v2 w2 hown2 hg2 hat2; have HO2 := Lib.hid hown2; have HC2 := Lib.hid ((HJ.out.cg.alloc _).grown hg2 (fun k hk => .inr (own_ge HO.out k hk))); clear hown2 hg2 hat2)
              | fail)
            go_roundw
            case rel => exact ⟨k, ws ++ [cur], by go_num, hks, HJ.out.word hik2 (by rw [bl_length]; exact hks) HCU.out HCS.out HEE.out HC2.out (by rw [← HNN.out]; exact HO2.out)⟩
            case measure => simp [intOf]; omega
      case false =>
        have HSG := Lib.hid (fun wx => sign_any c wx hc8)
        rw [hsg] at HSG
        have HSGF := Lib.hid hsg
        clear hsg
        have hways : (((c : Int) == 123) = true ∨ ((c : Int) == 123) = false ∧ ((c : Int) == 125) = true ∨ ((c : Int) == 123) = false ∧ ((c : Int) == 125) = false ∧ ((c : Int) == 59) = true) ∧ stnB c = true ∨
            ((c : Int) == 123) = false ∧ ((c : Int) == 125) = false ∧ ((c : Int) == 59) = false ∧ stnB c = false := by
          simp only [beq_iff_eq, beq_eq_false_iff_ne, ne_eq, Bool.or_eq_true, Bool.or_eq_false_iff, stnB, decide_eq_true_eq, decide_eq_false_iff_not]
          omega
        rcases hways with ⟨hw3, hst⟩ | ⟨q1, q2, q3, hst⟩
        · have hext : s.extract i (i + 1) = str [c] := by
            rw [extract_str s i (i + 1) (by omega), List.take_add_one, HBC.out, List.drop_append_of_le_length (by simp; omega), List.drop_of_length_le (by rw [List.length_take]; exact Nat.min_le_left _ _)]
            rfl
          have HW2 := Lib.hid (show ∀ (wy : World) (v2 : Value), Chg [] w wy → wy.ownsRow w.heap.size 9 1 v2 (n + 1) (sv (ws.map str) ++ [.string (str [c])]) → WX (bl s) w wy (i + 1) (ws ++ [[c]]) v2 from fun wy v2 h1 h2 => by
            refine ⟨?_, h1, by rw [HNN.out] at h2; simpa [sv] using h2, by simp; rw [← HNN.out]; omega⟩
            rw [← HAT.out, wdM_stn HSGF.out hst, if_pos rfl]
            cases wdM [] ((bl s).drop (i + 1) ++ [10]) <;> simp)
          clear hst
          rcases hw3 with q1 | ⟨q1, q2⟩ | ⟨q1, q2, q3⟩
          all_goals
            go_wp2_with fail
            (with_reducible refine (HSG.out _).mono ?_)
            rintro en wy ⟨rfl, rfl⟩
            go_wp2_with (first
              | (at_builtin; refine wpList_append_at _ rfl (.tmp 53) (.tmp 59) _ rfl w.heap.size 9 i0 (.string ByteArray.empty) 1 16 Try.underlying35 hi hz0 hz1 hz2 rfl (by omega) (.slice va n vc) n (sv (ws.map str)) rfl (HO.out.alloc _) ⟨_, 0, none⟩ 1 1 [.string (str [c])] rfl rfl new_cell one_s HM1.out HM2.out (le_alloc HBZ.out _) ?_; intro v2 w2 hown2 hg2 hat2; have HO2 := Lib.hid hown2; have HC2 := Lib.hid ((HJ.out.cg.alloc _).grown hg2 (fun k hk => .inr (own_ge HO.out k hk))); clear hown2 hg2 hat2)
              | fail)
            go_roundw
            case rel => exact ⟨i + 1, ws ++ [[c]], by go_num, by omega, HW2.out _ _ HC2.out HO2.out⟩
            case measure => simp [intOf]; omega
        · have hways : (((c : Int) != 32) = false ∨ ¬ ((c : Int) = 32) ∧ ((c : Int) != 9) = false ∨ ¬ ((c : Int) = 32) ∧ ¬ ((c : Int) = 9) ∧ ((c : Int) != 10) = false) ∧ blkB c = true ∨
              ¬ ((c : Int) = 32) ∧ ¬ ((c : Int) = 9) ∧ ¬ ((c : Int) = 10) ∧ blkB c = false := by
            simp only [bne_eq_false_iff_eq, Bool.or_eq_true, Bool.or_eq_false_iff, blkB, decide_eq_true_eq, decide_eq_false_iff_not]
            omega
          rcases hways with ⟨hw3, hbk⟩ | ⟨p1, p2, p3, hbk⟩
          · have HW2 := Lib.hid (show WX (bl s) w wr (i + 1) ws (.slice va n vc) from by
              refine ⟨?_, HJ.out.cg, by have := HJ.out.ow; rw [← HNN.out] at this ⊢; exact this, by rw [← HNN.out]; omega⟩
              rw [← HAT.out, wdM_blk HSGF.out hst hbk, if_pos rfl]
              cases wdM [] ((bl s).drop (i + 1) ++ [10]) <;> simp)
            clear hst hbk
            rcases hw3 with p1 | ⟨p1, p2⟩ | ⟨p1, p2, p3⟩
            all_goals
              go_wp2_with fail
              (with_reducible refine (HSG.out _).mono ?_)
              rintro en wy ⟨rfl, rfl⟩
              go_wp2
              go_roundw
              case rel => exact ⟨i + 1, ws, by go_num, by omega, HW2.out⟩
              case measure => simp [intOf]; omega
          · have E := Lib.hid (show wordsL (bl s) = none by rw [← HAT.out, wdM_bad HSGF.out hst hbk]; rfl)
            have p1' : ((c : Int) != 32) = true := by simpa using p1
            have p2' : ((c : Int) != 9) = true := by simpa using p2
            have p3' : ((c : Int) != 10) = true := by simpa using p3
            clear hst hbk
            go_wp2_with fail
            (with_reducible refine (HSG.out _).mono ?_)
            rintro en wy ⟨rfl, rfl⟩
            go_wp2
            go_ret2
            exact ⟨HJ.out.cg, .inl ⟨E.out, rfl⟩⟩
    · have hie : i = s.size := by omega
      have E := Lib.hid (show wordsL (bl s) = some ws by
        rw [← HJ.out.eq, List.drop_of_length_le (by rw [bl_length]; omega)]
        simp [wdM, show sgnB 10 = false from by decide, show stnB 10 = false from by decide, show blkB 10 = true from by decide])
      clear hie
      go_wp2
      go_ret2
      exact ⟨HJ.out.cg, .inr ⟨ws, _, E.out, rfl, HJ.out.ow, by omega⟩⟩

end Go.Proofs.Ytofnpcfclcfgfaa
