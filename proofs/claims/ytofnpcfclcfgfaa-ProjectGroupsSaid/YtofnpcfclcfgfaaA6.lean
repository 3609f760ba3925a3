/- Ts, Tn: texts of one group, one behind the other. -/
import Derived.Test.YtofnpcfclcfgfaaA2
import Derived.Test.YtofnpcfclcfgfaaA5
import Derived.Lib.OthersKept
namespace Go.Proofs.Ytofnpcfclcfgfaa
open Go.RowKit
set_option linter.unusedVariables false

/-- The words of what is left, the word so far being cur. -/
def wdM (cur : List Nat) : List Nat → Option (List (List Nat))
  | [] => some []
  | c :: t => if sgnB c = true then wdM (cur ++ [c]) t
    else if stnB c = false ∧ blkB c = false then none
    else (wdM [] t).map fun r => (if cur = [] then [] else [cur]) ++ ((if stnB c = true then [[c]] else []) ++ r)

def wordsL (l : List Nat) : Option (List (List Nat)) := wdM [] (l ++ [10])

theorem wdM_sgn {cur t : List Nat} {c : Nat} (h : sgnB c = true) : wdM cur (c :: t) = wdM (cur ++ [c]) t := by rw [wdM, if_pos h]
theorem wdM_bad {cur t : List Nat} {c : Nat} (h : sgnB c = false) (h1 : stnB c = false) (h2 : blkB c = false) : wdM cur (c :: t) = none := by
  rw [wdM, if_neg (by rw [h]; simp), if_pos ⟨h1, h2⟩]
theorem wdM_stn {cur t : List Nat} {c : Nat} (h : sgnB c = false) (h1 : stnB c = true) : wdM cur (c :: t) = (wdM [] t).map fun r => (if cur = [] then [] else [cur]) ++ ([[c]] ++ r) := by
  rw [wdM, if_neg (by rw [h]; simp), if_neg (by rw [h1]; simp), if_pos h1]
theorem wdM_blk {cur t : List Nat} {c : Nat} (h : sgnB c = false) (h1 : stnB c = false) (h2 : blkB c = true) : wdM cur (c :: t) = (wdM [] t).map fun r => (if cur = [] then [] else [cur]) ++ r := by
  rw [wdM, if_neg (by rw [h]; simp), if_neg (by rw [h2]; simp)]
  simp only [h1, Bool.false_eq_true, if_false, List.nil_append]

theorem map_app {ws X : List (List Nat)} {o : Option (List (List Nat))} : (o.map fun r => X ++ r).map (ws ++ ·) = o.map ((ws ++ X) ++ ·) := by
  cases o <;> simp

theorem extract_str (s : ByteArray) (a b : Nat) (hb : b ≤ s.size) : s.extract a b = str (((bl s).take b).drop a) := by
  cases s with
  | mk d =>
    have e : ∀ l : List UInt8, l.map (fun x => UInt8.ofNat x.toNat) = l := fun l => by
      induction l with
      | nil => rfl
      | cons x t ih => simp
    simp only [bl, str, ← List.map_take, ← List.map_drop, List.map_map]
    have e2 : (UInt8.ofNat ∘ fun x : UInt8 => x.toNat) = fun x => UInt8.ofNat x.toNat := rfl
    rw [e2, e]
    apply ByteArray.ext
    apply Array.ext'
    simp [ByteArray.data_extract, Array.toList_extract, List.extract]
    rw [List.drop_take]

theorem own_iter {w : World} {B T size n k : Nat} {v : Value} {xs : List Value} {s : ByteArray} {pos q : Nat} (h : w.ownsRow B T size v n xs) (hk : w.heap[k]? = some (.stringIter s pos)) : (w.iterAt k s q).ownsRow B T size v n xs := by
  obtain ⟨hl, h1⟩ := h
  refine ⟨hl, ?_⟩
  rcases h1 with h1 | ⟨g, cap, cur, rfl, hb, hg, h2⟩
  · exact .inl h1
  · refine .inr ⟨g, cap, cur, rfl, hb, ?_, h2⟩
    have hne : k ≠ g := by rintro rfl; rw [hk] at hg; cases hg
    show (w.heap.setIfInBounds k _)[g]? = _
    rw [Array.getElem?_setIfInBounds_ne hne]
    exact hg

theorem Chg.iterAt {S : List Nat} {a w : World} (h : Chg S a w) {k : Nat} (hk : k ∈ S ∨ a.heap.size ≤ k) (s : ByteArray) (q : Nat) : Chg S a (w.iterAt k s q) :=
  h.trans (T := [k]) ⟨rfl, rfl, rfl, by show _ ≤ (w.heap.setIfInBounds k _).size; simp, fun j _ hj => by
    show (w.heap.setIfInBounds k _)[j]? = _
    rw [Array.getElem?_setIfInBounds_ne (by simpa [eq_comm] using hj)]⟩ (by simpa using hk)

theorem iter_kept {w w' : World} {B T size n k : Nat} {v : Value} {xs : List Value} {s : ByteArray} {pos : Nat} (h : w.ownsRow B T size v n xs) (hk : w.heap[k]? = some (.stringIter s pos)) (hg : w.grownBy w' v.ownBlock) : w'.heap[k]? = some (.stringIter s pos) := by
  refine (hg.block k (Go.lt_of_block hk) fun e => ?_).trans hk
  obtain ⟨hl, h1⟩ := h
  rcases h1 with ⟨rfl, hn⟩ | ⟨g, cap, cur, rfl, hb, hgg, h2⟩
  · simp [Value.ownBlock] at e
  · simp [Value.ownBlock] at e
    subst e
    rw [hk] at hgg
    cases hgg

theorem bl_lf (s : ByteArray) : bl (s ++ ({ data := #[10] } : ByteArray)) = bl s ++ [10] := by
  simp [bl, ByteArray.data_append]

/-- How split stands ahead of sign pos. -/
structure SJ (s : ByteArray) (w w' : World) (pos fr : Nat) (ws : List (List Nat)) (v : Value) : Prop where
  le : pos ≤ s.size + 1
  fl : fr ≤ pos
  eq : (wdM (((bl s ++ [10]).take pos).drop fr) ((bl s ++ [10]).drop pos)).map (ws ++ ·) = wordsL (bl s)
  it : w'.heap[w.heap.size]? = some (.stringIter (s ++ ({ data := #[10] } : ByteArray)) pos)
  cg : Chg [] w w'
  ow : w'.ownsRow w.heap.size 9 1 v ws.length (sv (ws.map str))
  ln : ws.length ≤ 2 * pos

theorem take_one {l : List Nat} {pos c : Nat} (h : l[pos]? = some c) : l.take (pos + 1) = l.take pos ++ [c] ∧ l.drop pos = c :: l.drop (pos + 1) := by
  have hl := (List.getElem?_eq_some_iff.1 h).1
  rw [List.getElem?_eq_getElem hl] at h
  injection h with h
  refine ⟨?_, by rw [List.drop_eq_getElem_cons hl, h]⟩
  rw [List.take_add_one, List.getElem?_eq_getElem hl, h]
  rfl

theorem sgn_lf : sgnB 10 = false := by decide

/-- What split answers. -/
def SplitOut (l : List Nat) (w : World) (e : Ending) (w' : World) : Prop :=
  match wordsL l with
  | some ws => ∃ v, e = .returned (.tuple #[v, .int .i64 0]) ∧ w'.ownsRow w.heap.size 9 1 v ws.length (sv (ws.map str)) ∧ ws.length ≤ 8002
  | none => e = .returned (.tuple #[.slice none 0 0, .int .i64 6])
theorem SplitOut.some {l : List Nat} {w w' : World} {e : Ending} {ws : List (List Nat)} (h : wordsL l = some ws) (h2 : ∃ v, e = .returned (.tuple #[v, .int .i64 0]) ∧ w'.ownsRow w.heap.size 9 1 v ws.length (sv (ws.map str)) ∧ ws.length ≤ 8002) : SplitOut l w e w' := by
  unfold SplitOut; rw [h]; exact h2
theorem SplitOut.none {l : List Nat} {w w' : World} {e : Ending} (h : wordsL l = none) (h2 : e = .returned (.tuple #[.slice none 0 0, .int .i64 6])) : SplitOut l w e w' := by
  unfold SplitOut; rw [h]; exact h2

/-- Where an iterator stands. -/
def itp (w : World) (g : Nat) : Nat := match w.heap[g]? with | some (.stringIter _ p) => p | _ => 0
theorem itp_of {w : World} {g p : Nat} {s : ByteArray} (h : w.heap[g]? = some (.stringIter s p)) : itp w g = p := by unfold itp; rw [h]

theorem app_str {w : World} {B n : Nat} {v : Value} {ws : List (List Nat)} {x : List Nat} (h : w.ownsRow B 9 1 v n (sv (ws.map str) ++ [.string (str x)])) : w.ownsRow B 9 1 v n (sv ((ws ++ [x]).map str)) := by
  have e : sv ((ws ++ [x]).map str) = sv (ws.map str) ++ [.string (str x)] := by simp [sv]
  rw [e]; exact h

theorem one_s {x : ByteArray} : ∀ u ∈ [Value.string x], u.oneCell' = true := by intro u hu; simp at hu; subst hu; rfl

set_option maxRecDepth 100000 in
set_option maxHeartbeats 4000000 in
theorem split_any (s : ByteArray) (w : World) (hs : s.size ≤ 4000) :
    Calls Try.prog 47 #[.string s] w fun e w' => Chg [] w w' ∧ SplitOut (bl s) w e w' := by
  obtain ⟨i0, hi, hz0, hz1, hz2⟩ := info_string
  obtain ⟨s2, hs2⟩ : ∃ s2, s2 = s ++ ({ data := #[10] } : ByteArray) := ⟨_, rfl⟩
  have hz : s2.size = s.size + 1 := by rw [hs2, ByteArray.size_append]; rfl
  have HS2 := Lib.hid hs2
  have hsum : ¬ (9223372036854775807 < s.size + 1) := by omega
  go_enter Try.func47, Try.ntmps47
  go_wp2
  go_loopw [4, 5] (fun v x w' => ∃ (pos fr : Nat) (ws : List (List Nat)), x = .int .i64 (fr : Int) ∧ SJ s w w' pos fr ws v) (fun _ _ w' => s2.size - itp w' w.heap.size)
  case atStart => exact ⟨0, 0, [], rfl, ⟨by omega, by omega, by show (wdM [] _).map _ = _; rw [List.drop_zero]; unfold wordsL; cases wdM [] (bl s ++ [10]) <;> simp, by rw [← HS2.out]; exact heap_alloc_new w _, (Chg.refl [] w).alloc _, World.ownsRow_nil _ _ _ _, by simp⟩⟩
  case round =>
    obtain ⟨pos, fr, ws, rfl, hJ⟩ := hrel
    obtain ⟨va, vc, rfl⟩ := own_shape hJ.ow
    have hle := hJ.le
    have hfl := hJ.fl
    have hln := hJ.ln
    have hit := hJ.it
    rw [← HS2.out] at hit
    have HJ := Lib.hid hJ
    have HTP := Lib.hid (itp_of hit)
    clear hJ
    by_cases hp : pos < s2.size
    · obtain ⟨b, r, q, hb, hr, hq, hr2, hbr⟩ := dec_pos s2 pos hp
      have hnx : ∀ ty, (Instr.next (.pointer (some ⟨w.heap.size, 0, none⟩)) true ty).run Try.prog wr = _ := fun ty => Lib.run_next_any_at wr w.heap.size s2 pos ty hit hp
      rw [hr, hq] at hnx
      have HBL := Lib.hid (show (bl s ++ [10])[pos]? = some b by rw [← bl_lf, ← HS2.out]; exact hb)
      have HI1 := Lib.hid (Lib.iterAt_heap wr w.heap.size s2 pos q hit)
      have HC1 := Lib.hid (Chg.iterAt HJ.out.cg (k := w.heap.size) (by simp) s2 q)
      obtain ⟨n, hn⟩ : ∃ n, n = ws.length := ⟨_, rfl⟩
      have HO1 := Lib.hid (own_iter (q := q) HJ.out.ow hit)
      rw [← hn] at HO1 hln ⊢
      have HN := Lib.hid hn
      have HB1 := Lib.hid (show w.heap.size ≤ (wr.iterAt w.heap.size s2 q).heap.size from HC1.out.size)
      have HM1 := Lib.hid (show n + 1 ≤ maxLen by unfold maxLen; omega)
      have HM2 := Lib.hid (show (n + 1) * 16 ≤ 140737488355328 by omega)
      have HM3 := Lib.hid (show n + 1 + 1 ≤ maxLen by unfold maxLen; omega)
      have HM4 := Lib.hid (show (n + 1 + 1) * 16 ≤ 140737488355328 by omega)
      obtain ⟨cur, hcur⟩ : ∃ cur, cur = ((bl s ++ [10]).take pos).drop fr := ⟨_, rfl⟩
      have hcl : cur.length = pos - fr := by rw [hcur]; simp; omega
      have hext : s.extract fr pos = str cur := by
        rw [hcur, extract_str s fr pos (by omega), List.take_append_of_le_length (by rw [bl_length]; omega)]
      obtain ⟨T1, hT1, hT2⟩ : ∃ T, (bl s ++ [10]).take (pos + 1) = (bl s ++ [10]).take pos ++ [b] ∧ (bl s ++ [10]).drop pos = b :: T ∧ T = (bl s ++ [10]).drop (pos + 1) := ⟨_, (take_one HBL.out).1, (take_one HBL.out).2, rfl⟩
      have HEQ := Lib.hid (show (wdM cur (b :: T1)).map (ws ++ ·) = wordsL (bl s) by rw [hcur, ← hT2.1]; exact HJ.out.eq)
      have HCUR := Lib.hid hcur; have HT1 := Lib.hid hT1; have HT2 := Lib.hid hT2.2
      have HBR := Lib.hid hbr
      have HCL := Lib.hid hcl
      clear hb hr hq hbr hit hn hcur hT1 hT2 hcl
      generalize wr.iterAt w.heap.size s2 q = W1 at hnx HI1 HC1 HO1 HB1
      cases hsg : sgnB r
      case true =>
        have hq1 : b = r ∧ q = pos + 1 := by
          have h1 := HBR.out
          have h2 : r < 128 := by unfold sgnB letB at hsg; simp at hsg; omega
          omega
        obtain ⟨rfl, rfl⟩ := hq1
        have HJN := Lib.hid (show ∀ wx, Calls Try.prog 79 #[.int .i32 (b : Int)] wx fun e w' => e = .returned (.bool true) ∧ wx = w' from fun wx => by rw [← hsg]; exact joins_any b wx)
        have HSG := Lib.hid hsg
        clear hsg
        go_wp2_with (first
          | (go_at_call 79; (with_reducible refine (HJN.out _).mono ?_); rintro e wj ⟨rfl, rfl⟩)
          | fail)
        go_roundw
        case rel =>
          refine ⟨pos + 1, fr, ws, rfl, ⟨by omega, by omega, ?_, by rw [← HS2.out]; exact HI1.out, HC1.out, by rw [← HN.out]; exact HO1.out, by rw [← HN.out]; omega⟩⟩
          have h := HEQ.out
          rw [wdM_sgn HSG.out] at h
          rw [HT1.out, List.drop_append_of_le_length (by simp; omega), ← HCUR.out, ← HT2.out]
          exact h
        case measure => rw [itp_of HI1.out, HTP.out]; omega
      cases hst : stnB r
      case true =>
        have hr3 : r = 123 ∨ r = 125 ∨ r = 59 := by simp [stnB] at hst; omega
        have hq1 : b = r ∧ q = pos + 1 := by
          have h1 := HBR.out
          omega
        obtain ⟨rfl, rfl⟩ := hq1
        have hcv : ∀ wx, (convert 21 9 (.int .i32 (b : Int))).run Try.prog wx = .ok (.string (str [b])) wx := fun wx => by
          rcases hr3 with rfl | rfl | rfl <;> rfl
        have HJN := Lib.hid (show ∀ wx, Calls Try.prog 79 #[.int .i32 (b : Int)] wx fun e w' => e = .returned (.bool false) ∧ wx = w' from fun wx => by rw [← hsg]; exact joins_any b wx)
        have HST := Lib.hid (show ∀ wx, Calls Try.prog 80 #[.int .i32 (b : Int)] wx fun e w' => e = .returned (.bool true) ∧ wx = w' from fun wx => by rw [← hst]; exact stands_any b wx)
        have HPT := Lib.hid (show ∀ wx, Calls Try.prog 81 #[.int .i32 (b : Int)] wx fun e w' => e = .returned (.bool (blkB b)) ∧ wx = w' from fun wx => parts_any b wx)
        have HSG := Lib.hid hsg; have HSTN := Lib.hid hst
        clear hsg hst hr3 hr2
        have hEQ := HEQ.out
        rw [wdM_stn HSG.out HSTN.out] at hEQ
        by_cases hfp : fr < pos
        · have hd : decide ((fr : Int) < (pos : Int)) = true := by simpa using hfp
          have hne : cur ≠ [] := by intro e; have := HCL.out; rw [e] at this; simp at this; omega
          rw [if_neg hne] at hEQ
          have HE2 := Lib.hid (show (wdM [] T1).map (((ws ++ [cur]) ++ [[b]]) ++ ·) = wordsL (bl s) by rw [← hEQ]; cases wdM [] T1 <;> simp)
          clear hEQ hne
          go_wp2_with (first
        | (go_at_call 79; (with_reducible refine (HJN.out _).mono ?_); rintro e wj ⟨rfl, rfl⟩)
        | (go_at_call 80; (with_reducible refine (HST.out _).mono ?_); rintro e wj ⟨rfl, rfl⟩)
        | (go_at_call 81; (with_reducible refine (HPT.out _).mono ?_); rintro e wj ⟨rfl, rfl⟩)
          | (at_builtin; refine wpList_append_at _ rfl (.tmp 28) (.tmp 33) _ rfl w.heap.size 9 i0 (.string ByteArray.empty) 1 16 Try.underlying35 hi hz0 hz1 hz2 rfl (by omega) (.slice va n vc) n (sv (ws.map str)) rfl (HO1.out.alloc _) ⟨_, 0, none⟩ 1 1 [.string (str cur)] rfl rfl new_cell one_s HM1.out HM2.out (le_alloc HB1.out _) ?_; intro v2 w2 hown2 hg2 hat2; obtain ⟨va2, vc2, rfl⟩ := own_shape hown2; have HO2 := Lib.hid (app_str hown2); have HI2 := Lib.hid (iter_kept (HO1.out.alloc _) (heap_alloc_old _ _ (Go.lt_of_block HI1.out) |>.trans HI1.out) hg2); have HC2 := Lib.hid ((HC1.out.alloc _).grown hg2 (fun k hk => .inr (own_ge HO1.out k hk))); have HB2 := Lib.hid (show w.heap.size ≤ w2.heap.size from HC2.out.size); clear hown2 hg2 hat2)
          | (at_builtin; refine wpList_append_at _ rfl (.tmp 37) (.tmp 40) _ rfl w.heap.size 9 i0 (.string ByteArray.empty) 1 16 Try.underlying35 hi hz0 hz1 hz2 rfl (by omega) (.slice va2 (n + 1) vc2) (n + 1) (sv ((ws ++ [cur]).map str)) rfl (HO2.out.alloc _) ⟨_, 0, none⟩ 1 1 [.string (str [b])] rfl rfl new_cell one_s HM3.out HM4.out (le_alloc HB2.out _) ?_; intro v3 w3 hown3 hg3 hat3; obtain ⟨va3, vc3, rfl⟩ := own_shape hown3; have HO3 := Lib.hid (app_str hown3); have HI3 := Lib.hid (iter_kept (HO2.out.alloc _) (heap_alloc_old _ _ (Go.lt_of_block HI2.out) |>.trans HI2.out) hg3); have HC3 := Lib.hid ((HC2.out.alloc _).grown hg3 (fun k hk => .inr (own_ge HO2.out k hk))); clear hown3 hg3 hat3)
            | fail)
          go_roundw
          case rel =>
            refine ⟨pos + 1, pos + 1, (ws ++ [cur]) ++ [[b]], by go_num, ⟨by omega, by omega, ?_, by rw [← HS2.out]; exact HI3.out, HC3.out, by simpa [HN.out] using HO3.out, by simp [← HN.out]; omega⟩⟩
            rw [List.drop_of_length_le (by rw [List.length_take]; omega), ← HT2.out]
            exact HE2.out
          case measure => rw [itp_of HI3.out, HTP.out]; omega
        · have hd : decide ((fr : Int) < (pos : Int)) = false := by simpa using hfp
          have hne : cur = [] := List.eq_nil_of_length_eq_zero (by rw [HCL.out]; omega)
          rw [if_pos hne] at hEQ
          have HE2 := Lib.hid (show (wdM [] T1).map ((ws ++ [[b]]) ++ ·) = wordsL (bl s) by rw [← hEQ]; cases wdM [] T1 <;> simp)
          clear hEQ hne
          go_wp2_with (first
        | (go_at_call 79; (with_reducible refine (HJN.out _).mono ?_); rintro e wj ⟨rfl, rfl⟩)
        | (go_at_call 80; (with_reducible refine (HST.out _).mono ?_); rintro e wj ⟨rfl, rfl⟩)
        | (go_at_call 81; (with_reducible refine (HPT.out _).mono ?_); rintro e wj ⟨rfl, rfl⟩)
          | (at_builtin; refine wpList_append_at _ rfl (.tmp 37) (.tmp 40) _ rfl w.heap.size 9 i0 (.string ByteArray.empty) 1 16 Try.underlying35 hi hz0 hz1 hz2 rfl (by omega) (.slice va n vc) n (sv ((ws).map str)) rfl (HO1.out.alloc _) ⟨_, 0, none⟩ 1 1 [.string (str [b])] rfl rfl new_cell one_s HM1.out HM2.out (le_alloc HB1.out _) ?_; intro v3 w3 hown3 hg3 hat3; obtain ⟨va3, vc3, rfl⟩ := own_shape hown3; have HO3 := Lib.hid (app_str hown3); have HI3 := Lib.hid (iter_kept (HO1.out.alloc _) (heap_alloc_old _ _ (Go.lt_of_block HI1.out) |>.trans HI1.out) hg3); have HC3 := Lib.hid ((HC1.out.alloc _).grown hg3 (fun k hk => .inr (own_ge HO1.out k hk))); clear hown3 hg3 hat3)
            | fail)
          go_roundw
          case rel =>
            refine ⟨pos + 1, pos + 1, ws ++ [[b]], by go_num, ⟨by omega, by omega, ?_, by rw [← HS2.out]; exact HI3.out, HC3.out, by simpa [HN.out] using HO3.out, by simp [← HN.out]; omega⟩⟩
            rw [List.drop_of_length_le (by rw [List.length_take]; omega), ← HT2.out]
            exact HE2.out
          case measure => rw [itp_of HI3.out, HTP.out]; omega
      cases hpt : blkB r
      case true =>
        have hr3 : r = 32 ∨ r = 9 ∨ r = 10 := by simp [blkB] at hpt; omega
        have hq1 : b = r ∧ q = pos + 1 := by
          have h1 := HBR.out
          omega
        obtain ⟨rfl, rfl⟩ := hq1
        have HJN := Lib.hid (show ∀ wx, Calls Try.prog 79 #[.int .i32 (b : Int)] wx fun e w' => e = .returned (.bool false) ∧ wx = w' from fun wx => by rw [← hsg]; exact joins_any b wx)
        have HST := Lib.hid (show ∀ wx, Calls Try.prog 80 #[.int .i32 (b : Int)] wx fun e w' => e = .returned (.bool false) ∧ wx = w' from fun wx => by rw [← hst]; exact stands_any b wx)
        have HPT := Lib.hid (show ∀ wx, Calls Try.prog 81 #[.int .i32 (b : Int)] wx fun e w' => e = .returned (.bool true) ∧ wx = w' from fun wx => by rw [← hpt]; exact parts_any b wx)
        have HSG := Lib.hid hsg; have HSTN := Lib.hid hst; have HBLK := Lib.hid hpt
        clear hsg hst hpt hr3 hr2
        have hEQ := HEQ.out
        rw [wdM_blk HSG.out HSTN.out HBLK.out, map_app] at hEQ
        by_cases hfp : fr < pos
        · have hd : decide ((fr : Int) < (pos : Int)) = true := by simpa using hfp
          have hne : cur ≠ [] := by intro e; have := HCL.out; rw [e] at this; simp at this; omega
          rw [if_neg hne] at hEQ
          have HE2 := Lib.hid hEQ
          clear hEQ hne
          go_wp2_with (first
        | (go_at_call 79; (with_reducible refine (HJN.out _).mono ?_); rintro e wj ⟨rfl, rfl⟩)
        | (go_at_call 80; (with_reducible refine (HST.out _).mono ?_); rintro e wj ⟨rfl, rfl⟩)
        | (go_at_call 81; (with_reducible refine (HPT.out _).mono ?_); rintro e wj ⟨rfl, rfl⟩)
          | (at_builtin; refine wpList_append_at _ rfl (.tmp 28) (.tmp 33) _ rfl w.heap.size 9 i0 (.string ByteArray.empty) 1 16 Try.underlying35 hi hz0 hz1 hz2 rfl (by omega) (.slice va n vc) n (sv (ws.map str)) rfl (HO1.out.alloc _) ⟨_, 0, none⟩ 1 1 [.string (str cur)] rfl rfl new_cell one_s HM1.out HM2.out (le_alloc HB1.out _) ?_; intro v2 w2 hown2 hg2 hat2; obtain ⟨va2, vc2, rfl⟩ := own_shape hown2; have HO2 := Lib.hid (app_str hown2); have HI2 := Lib.hid (iter_kept (HO1.out.alloc _) (heap_alloc_old _ _ (Go.lt_of_block HI1.out) |>.trans HI1.out) hg2); have HC2 := Lib.hid ((HC1.out.alloc _).grown hg2 (fun k hk => .inr (own_ge HO1.out k hk))); have HB2 := Lib.hid (show w.heap.size ≤ w2.heap.size from HC2.out.size); clear hown2 hg2 hat2)
            | fail)
          go_roundw
          case rel =>
            refine ⟨pos + 1, pos + 1, ws ++ [cur], by go_num, ⟨by omega, by omega, ?_, by rw [← HS2.out]; exact HI2.out, HC2.out, by simpa [HN.out] using HO2.out, by simp [← HN.out]; omega⟩⟩
            rw [List.drop_of_length_le (by rw [List.length_take]; omega), ← HT2.out]
            exact HE2.out
          case measure => rw [itp_of HI2.out, HTP.out]; omega
        · have hd : decide ((fr : Int) < (pos : Int)) = false := by simpa using hfp
          have hne : cur = [] := List.eq_nil_of_length_eq_zero (by rw [HCL.out]; omega)
          rw [if_pos hne] at hEQ
          have HE2 := Lib.hid (show (wdM [] T1).map (ws ++ ·) = wordsL (bl s) by rw [← hEQ]; cases wdM [] T1 <;> simp)
          clear hEQ hne
          go_wp2_with (first
        | (go_at_call 79; (with_reducible refine (HJN.out _).mono ?_); rintro e wj ⟨rfl, rfl⟩)
        | (go_at_call 80; (with_reducible refine (HST.out _).mono ?_); rintro e wj ⟨rfl, rfl⟩)
        | (go_at_call 81; (with_reducible refine (HPT.out _).mono ?_); rintro e wj ⟨rfl, rfl⟩)
            | fail)
          go_roundw
          case rel =>
            refine ⟨pos + 1, pos + 1, ws, by go_num, ⟨by omega, by omega, ?_, by rw [← HS2.out]; exact HI1.out, HC1.out, by rw [← HN.out]; exact HO1.out, by rw [← HN.out]; omega⟩⟩
            rw [List.drop_of_length_le (by rw [List.length_take]; omega), ← HT2.out]
            exact HE2.out
          case measure => rw [itp_of HI1.out, HTP.out]; omega
      have HJN := Lib.hid (show ∀ wx, Calls Try.prog 79 #[.int .i32 (r : Int)] wx fun e w' => e = .returned (.bool false) ∧ wx = w' from fun wx => by rw [← hsg]; exact joins_any r wx)
      have HST := Lib.hid (show ∀ wx, Calls Try.prog 80 #[.int .i32 (r : Int)] wx fun e w' => e = .returned (.bool false) ∧ wx = w' from fun wx => by rw [← hst]; exact stands_any r wx)
      have HPT := Lib.hid (show ∀ wx, Calls Try.prog 81 #[.int .i32 (r : Int)] wx fun e w' => e = .returned (.bool false) ∧ wx = w' from fun wx => by rw [← hpt]; exact parts_any r wx)
      have E := Lib.hid (show wordsL (bl s) = none by
        have h1 := HBR.out
        rw [← HEQ.out]
        rcases h1 with ⟨h1, h2, h3⟩ | ⟨h1, h2, h3⟩
        · rw [wdM_bad (by rw [← h2]; exact hsg) (by rw [← h2]; exact hst) (by rw [← h2]; exact hpt)]; rfl
        · rw [wdM_bad (by unfold sgnB letB; simp; omega) (by unfold stnB; simp; omega) (by unfold blkB; simp; omega)]; rfl)
      clear hsg hst hpt
      go_wp2_with (first
      | (go_at_call 79; (with_reducible refine (HJN.out _).mono ?_); rintro e wj ⟨rfl, rfl⟩)
      | (go_at_call 80; (with_reducible refine (HST.out _).mono ?_); rintro e wj ⟨rfl, rfl⟩)
      | (go_at_call 81; (with_reducible refine (HPT.out _).mono ?_); rintro e wj ⟨rfl, rfl⟩)
        | fail)
      go_ret2
      exact ⟨HC1.out, .none E.out rfl⟩
    · have hpe : pos = s.size + 1 := by omega
      have hnx : ∀ ty, (Instr.next (.pointer (some ⟨w.heap.size, 0, none⟩)) true ty).run Try.prog wr = _ := fun ty => Lib.run_next_end_at wr w.heap.size s2 pos ty hit hp
      have E := Lib.hid (show wordsL (bl s) = some ws by
        have e : (bl s ++ [10]).drop pos = [] := List.drop_of_length_le (by rw [List.length_append, bl_length]; simp; omega)
        rw [← HJ.out.eq, e]
        simp [wdM])
      clear hpe
      go_wp2
      go_ret2
      exact ⟨HJ.out.cg, .some E.out ⟨_, rfl, HJ.out.ow, by omega⟩⟩

end Go.Proofs.Ytofnpcfclcfgfaa

namespace Go.Proofs.Ytofnpcfclcfgfaa
open Go.RowKit
set_option linter.unusedVariables false

def sc (s : ByteArray) : List Value := [.string s]
abbrev SeenS := SeenK sc 1

theorem SeenS.cell {w : World} {g off : Nat} {l : List ByteArray} (h : ∀ j x i u, l[j]? = some x → (sc x)[i]? = some u → w.cell? ⟨g, off + j * 1 + i, none⟩ = some u) {j : Nat} {x : ByteArray} (hj : l[j]? = some x) : w.cell? ⟨g, off + j, none⟩ = some (.string x) := by
  simpa using h j x 0 _ hj rfl

theorem own_seenS {w : World} {B n : Nat} {v : Value} {l : List ByteArray} (h : w.ownsRow B 9 1 v n (sv l)) (hn : l.length = n) : SeenS w v l := by
  subst hn
  obtain ⟨hl, h1⟩ := h
  rcases h1 with ⟨rfl, hn⟩ | ⟨g, cap, cur, rfl, _, hg, hc, hm, hs, ht⟩
  · exact ⟨none, 0, by rw [hn], by omega, by decide, fun hp => by omega⟩
  · refine ⟨_, cap, rfl, by omega, by omega, fun _ => ⟨g, 0, rfl, fun j x i u hx hu => ?_⟩⟩
    have hi : i = 0 := by
      cases i with
      | zero => rfl
      | succ i => simp [sc] at hu
    subst hi
    simp [sc] at hu
    subst hu
    rw [Nat.zero_add, cell_of_row w g _ _ _ _ hg]
    have h : (sv l)[j]? = some (.string x) := by simp [sv, hx]
    rw [← ht, List.getElem?_take] at h
    split at h
    · simpa using h
    · cases h

/-- The words behind the first one, as the model slices. -/
theorem SeenS.tail {w : World} {g off n cap : Nat} {x : ByteArray} {l : List ByteArray} (h : SeenS w (.slice (some ⟨g, off, none⟩) (n + 1) cap) (x :: l)) : SeenS w (.slice (if cap = 1 then some ⟨g, off, none⟩ else some ⟨g, off + 1, none⟩) n (cap - 1)) l := by
  obtain ⟨ao', cap', h1, h2, h3, h4⟩ := h
  injection h1 with e1 e2 e3
  have hn : n = l.length := by rw [List.length_cons] at e2; omega
  subst e3 hn
  rw [List.length_cons] at h2 h4
  obtain ⟨g', off', e, hc⟩ := h4 (by omega)
  rw [← e1] at e
  injection e with e; injection e with e5 e6
  subst e5 e6
  refine ⟨_, cap - 1, rfl, by omega, by omega, fun hp => ?_⟩
  rw [if_neg (by omega)]
  refine ⟨g, off + 1, rfl, fun j y i u hy hu => ?_⟩
  have := hc (j + 1) y i u (by simpa using hy) hu
  rwa [show off + (j + 1) * 1 + i = off + 1 + j * 1 + i by omega] at this

set_option maxRecDepth 100000 in
set_option maxHeartbeats 1000000 in
theorem next_any (gW : Nat) (wv : Value) (ws : List ByteArray) (w0 w : World) (hb : w.heap[gW]? = some (.cells #[wv] 35 (0, 0))) (hS : SeenS w0 wv ws) (hc : Chg [] w0 w) (hg : w0.heap.size ≤ gW) :
    Calls Try.prog 82 #[.pointer (some ⟨gW, 0, none⟩)] w fun e w' => e = .returned (.string (ws.headD ByteArray.empty)) ∧ ∃ wv', w'.heap[gW]? = some (.cells #[wv'] 35 (0, 0)) ∧ SeenS w0 wv' ws.tail ∧ Chg [gW] w w' := by
  obtain ⟨ao, cap, rfl, hc1, hc2⟩ := hS.shape
  have hcell : w.cell? ⟨gW, 0, none⟩ = some (.slice ao ws.length cap) := by simp [World.cell?, hb]
  have hfz : w.frozen? ⟨gW, 0, none⟩ = false := by simp [World.frozen?, hb]
  have HB := Lib.hid hb; have HC := Lib.hid hc
  clear hb hc
  cases ws with
  | nil =>
    have HS := Lib.hid hS
    clear hS
    rw [List.length_nil] at hcell hc1 HB HS
    go_enter Try.func82, Try.ntmps82
    go_wp2
    go_ret
    exact ⟨rfl, _, HB.out, HS.out, Chg.refl _ w⟩
  | cons x t =>
    obtain ⟨g, off, rfl, hx⟩ := hS.at (by simp)
    have h0 := SeenS.cell hx (j := 0) (x := x) rfl
    have hgs : g < w0.heap.size := World.block_lt_of_cell? w0 _ h0
    have c0 := HC.out.cell h0 (by simp)
    rw [Nat.add_zero] at c0
    have HS := Lib.hid hS
    obtain ⟨n, hn⟩ : ∃ n, n = t.length := ⟨_, rfl⟩
    rw [List.length_cons, ← hn] at hcell hc1 HB HS
    clear hS hx h0 hn
    have hne : g ≠ gW := by omega
    go_enter Try.func82, Try.ntmps82
    go_wp2_with fail
    go_region
    generalize hv : (Value.slice (if cap = 1 then some (⟨g, off, none⟩ : Addr) else some ⟨g, off + 1, none⟩) n (cap - 1)) = wv'
    have HV := Lib.hid hv
    clear hv
    go_wp2
    go_ret
    refine ⟨rfl, wv', heap_set (i := 0) HB.out wv', ?_, ((Chg.refl [gW] w).setCell (by simp) _).drew⟩
    rw [← HV.out]
    exact SeenS.tail HS.out

end Go.Proofs.Ytofnpcfclcfgfaa
