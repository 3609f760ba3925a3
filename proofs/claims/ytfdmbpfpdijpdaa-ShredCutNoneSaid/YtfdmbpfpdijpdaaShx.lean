/- What shred.Cut calls: Starts, how many cells have a value, slices.Clone of integers, copied. -/
import Derived.Test.YtfdmbpfpdijpdaaShe
import Derived.Test.YtfdmbpfpdijpdaaShr
import Derived.Test.YtfdmbpfpdijpdaaA5
import Derived.Test.YtfdmbpfpdijpdaaA1
namespace Go.Proofs.Ytfdmbpfpdijpdaa
open Go.RowKit
set_option linter.unusedVariables false
set_option linter.unusedSimpArgs false

/-- Where records begin, among the first k cells. -/
def stTo (R : List Int) : Nat → List Int
  | 0 => []
  | k + 1 => stTo R k ++ (if R.getD k 0 = 0 then [(k : Int)] else [])
theorem stTo_le (R : List Int) : ∀ k, (stTo R k).length ≤ k
  | 0 => Nat.le_refl _
  | k + 1 => by
    have := stTo_le R k
    unfold stTo
    rw [List.length_append]
    split <;> simp <;> omega

set_option maxRecDepth 100000 in
set_option maxHeartbeats 1000000 in
theorem starts_any (rv dv vv : Value) (R : List Int) (w : World) (hr : SeenI w rv R) (hd : ∃ a n c, dv = .slice a n c) (hv : ∃ a n c, vv = .slice a n c) (hl : R.length ≤ 1000000) :
    Calls Try.prog 34 #[.agg #[rv, dv, vv]] w fun e w' => ∃ v, e = .returned v ∧ w'.ownsRow w.heap.size 3 1 v (stTo R R.length).length (iv (stTo R R.length)) ∧ Chg [] w w' := by
  obtain ⟨i0, hi, hz0, hz1, hz2⟩ := info_int
  obtain ⟨ro, rc, rfl, h1, h2⟩ := hr.shape
  obtain ⟨da, dn, dc, rfl⟩ := hd
  obtain ⟨va, vn, vc, rfl⟩ := hv
  obtain ⟨n, hn⟩ : ∃ n, n = R.length := ⟨_, rfl⟩
  rw [← hn] at hr h1 hl ⊢
  have HR := Lib.hid hr; have HN := Lib.hid hn
  have hca := (Chg.refl [] w).alloc (.cells #[.slice ro n rc, .slice da dn dc, .slice va vn vc] 42)
  have HCA := Lib.hid hca
  clear hr hn hca
  go_enter Try.func34, Try.ntmps34
  go_wp2
  go_loopw [3, 9] (fun lv x w' => ∃ k : Nat, x = .int .i64 (k : Int) ∧ k ≤ n ∧ Chg [] w w' ∧ w'.ownsRow w.heap.size 3 1 lv (stTo R k).length (iv (stTo R k))) (fun _ x _ => n - (intOf x).toNat)
  case atStart => exact ⟨0, rfl, Nat.zero_le _, HCA.out, ⟨rfl, .inl ⟨rfl, rfl⟩⟩⟩
  case round =>
    obtain ⟨k, rfl, hk, hc, ho⟩ := hrel
    obtain ⟨lo, lc, rfl⟩ := own_shape ho
    have HC := Lib.hid hc; have HO := Lib.hid ho
    clear hc ho
    by_cases hlt : k < n
    · have d1 : (k : Int) < (n : Int) := by omega
      obtain ⟨g, off, rfl, hg⟩ := SeenI.get (HR.out.keep HC.out) (by omega) HN.out.symm
      have c1 := hg k hlt
      obtain ⟨x, hx⟩ : ∃ x, x = R.getD k 0 := ⟨_, rfl⟩
      rw [← hx] at c1
      have hm := stTo_le R k
      obtain ⟨m, hmm⟩ : ∃ m, m = (stTo R k).length := ⟨_, rfl⟩
      rw [← hmm] at hm HO ⊢
      have HMM := Lib.hid hmm
      clear hg hmm
      by_cases hx0 : x = 0
      · have e1 : (x == 0) = true := by simp [hx0]
        have HE := Lib.hid (show stTo R (k + 1) = stTo R k ++ [(k : Int)] by rw [stTo, ← hx, if_pos hx0])
        have HM2 := Lib.hid (show m + 1 ≤ maxLen by unfold maxLen; omega)
        have HM3 := Lib.hid (show (m + 1) * 8 ≤ 140737488355328 by omega)
        have HBX := Lib.hid HC.out.size
        clear hx0 hx
        go_wp2_with (first
          | (at_builtin; refine wpList_append_at _ rfl (.tmp 16) (.tmp 18) _ rfl w.heap.size 3 i0 (.int .i64 0) 1 8 Try.underlying22 hi hz0 hz1 hz2 rfl (by omega) (.slice lo m lc) m _ rfl (HO.out.alloc _) ⟨wr.heap.size, 0, none⟩ 1 1 [.int .i64 (k : Int)] rfl rfl (new_cells (C := #[.int .i64 (k : Int)]) _ (by simp)) (by simp [Value.oneCell']) HM2.out HM3.out (le_alloc HBX.out _) ?_; intro v2 w6 hown2 hg2 hat2; obtain ⟨a4, c4, rfl⟩ := own_shape hown2; have HO2 := Lib.hid hown2; have HC6 := Lib.hid ((HC.out.alloc _).grown hg2 (fun k hk => .inr (own_ge HO.out k hk))); clear hown2 hg2 hat2)
          | fail)
        go_roundw
        case rel =>
          refine ⟨k + 1, by go_num, by omega, HC6.out, ?_⟩
          have h := HO2.out
          rw [HE.out, List.length_append, ← HMM.out]
          simpa [iv] using h
        case measure => simp [intOf]; omega
      · have e1 : (x == 0) = false := by simp [hx0]
        have HE := Lib.hid (show stTo R (k + 1) = stTo R k by rw [stTo, ← hx, if_neg hx0, List.append_nil])
        clear hx0 hx
        go_wp2
        go_roundw
        case rel => exact ⟨k + 1, by go_num, by omega, HC.out, by rw [HE.out, ← HMM.out]; exact HO.out⟩
        case measure => simp [intOf]; omega
    · have d1 : ¬ ((k : Int) < (n : Int)) := by omega
      have ek : k = n := by omega
      have hO := HO.out
      rw [ek] at hO
      have HOF := Lib.hid hO
      clear hO
      go_wp2
      go_ret
      exact ⟨_, rfl, HOF.out, HC.out⟩

/-- How many of the first k are x. -/
def cntX (D : List Int) (x : Int) : Nat → Nat
  | 0 => 0
  | k + 1 => cntX D x k + (if D.getD k 0 = x then 1 else 0)
theorem cntX_le (D : List Int) (x : Int) : ∀ k, cntX D x k ≤ k
  | 0 => Nat.le_refl _
  | k + 1 => by have := cntX_le D x k; unfold cntX; split <;> omega

set_option maxRecDepth 100000 in
set_option maxHeartbeats 1000000 in
theorem valued_any (dv : Value) (D : List Int) (b : Nat) (x : Int) (w : World) (hd : SeenI w dv D) (hb : w.cell? ⟨b, 2, none⟩ = some (.int .i64 x)) (hl : D.length ≤ 1000000) :
    Calls Try.prog 63 #[dv, .pointer (some ⟨b, 0, none⟩)] w fun e w' => e = .returned (.int .i64 (cntX D x D.length : Nat)) ∧ Chg [] w w' := by
  obtain ⟨ro, rc, rfl, h1, h2⟩ := hd.shape
  obtain ⟨n, hn⟩ : ∃ n, n = D.length := ⟨_, rfl⟩
  rw [← hn] at hd h1 hl ⊢
  have HR := Lib.hid hd; have HN := Lib.hid hn; have HB := Lib.hid hb
  clear hd hn hb
  go_enter Try.func63, Try.ntmps63
  go_wp2
  go_loopw [3, 8] (fun y z w' => ∃ k : Nat, z = .int .i64 (k : Int) ∧ y = .int .i64 (cntX D x k : Nat) ∧ k ≤ n ∧ Chg [] w w') (fun _ z _ => n - (intOf z).toNat)
  case atStart => exact ⟨0, rfl, rfl, Nat.zero_le _, Chg.refl _ _⟩
  case round =>
    obtain ⟨k, rfl, rfl, hk, hc⟩ := hrel
    have HC := Lib.hid hc
    have c2 := hc.cell HB.out (by simp)
    have hcl := cntX_le D x k
    obtain ⟨c, hcc⟩ : ∃ c, c = cntX D x k := ⟨_, rfl⟩
    rw [← hcc] at hcl ⊢
    clear hc
    by_cases hlt : k < n
    · have d1 : (k : Int) < (n : Int) := by omega
      obtain ⟨g, off, rfl, hg⟩ := SeenI.get (HR.out.keep HC.out) (by omega) HN.out.symm
      have c1 := hg k hlt
      obtain ⟨y, hy⟩ : ∃ x, x = D.getD k 0 := ⟨_, rfl⟩
      rw [← hy] at c1
      clear hg
      by_cases hxy : y = x
      · have e1 : (y == x) = true := by simp [hxy]
        have HE := Lib.hid (show cntX D x (k + 1) = c + 1 by rw [cntX, ← hy, if_pos hxy, ← hcc])
        clear hxy hy hcc
        go_wp2
        go_roundw
        case rel => exact ⟨k + 1, by go_num, by rw [HE.out]; go_num, by omega, HC.out⟩
        case measure => simp [intOf]; omega
      · have e1 : (y == x) = false := by simp [hxy]
        have HE := Lib.hid (show cntX D x (k + 1) = c by rw [cntX, ← hy, if_neg hxy, ← hcc]; rfl)
        clear hxy hy hcc
        go_wp2
        go_roundw
        case rel => exact ⟨k + 1, by go_num, by rw [HE.out], by omega, HC.out⟩
        case measure => simp [intOf]; omega
    · have d1 : ¬ ((k : Int) < (n : Int)) := by omega
      have ek : k = n := by omega
      have HE := Lib.hid (show c = cntX D x n by rw [hcc, ek])
      clear hcc
      go_wp2
      go_ret
      exact ⟨by rw [← HE.out]; rfl, HC.out⟩

set_option maxHeartbeats 400000 in
/-- slices.Clone of integers. -/
theorem cloneI_any (v : Value) (xs : List Int) (w : World) (hS : SeenI w v xs) (hl : xs.length ≤ 1000000) :
    Calls Try.prog 64 #[v] w fun e w' => ∃ v', e = .returned v' ∧ SeenI w' v' xs ∧ Chg [] w w' := by
  obtain ⟨i0, hi, hz0, hz1, hz2⟩ := info_int
  have hq : ∀ (w : World) (a : Option Addr) (n c n' c' : Nat), (binOp .eql 22 (.slice a n c) (.slice none n' c')).run Try.prog w = .ok (.bool a.isNone) w := fun w a n c n' c' => Lib.run_eql_slice_nil w _ _ a n c n' c' Try.underlying22
  obtain ⟨ao, cap, rfl, hc1, hc2⟩ := hS.shape
  obtain ⟨m, hm⟩ : ∃ m, m = xs.length := ⟨_, rfl⟩
  rw [← hm] at hS hc1 hl ⊢
  cases ao with
  | none =>
    have hm0 : m = 0 := by
      refine Classical.byContradiction fun h => ?_
      obtain ⟨g, off, e, -⟩ := hS.at (by omega)
      cases e
    have HX := Lib.hid (show xs = [] from List.eq_nil_of_length_eq_zero (by omega))
    clear hS hm
    go_enter Try.func64, Try.ntmps64
    go_wp2
    go_ret
    exact ⟨_, rfl, by rw [HX.out]; exact ⟨none, 0, rfl, Nat.le_refl _, by decide, fun h => absurd h (by simp)⟩, Chg.refl [] w⟩
  | some a =>
    have hsn : Seen w (.slice (some a) m cap) (iv xs) := by
      refine .inr ⟨a, cap, by rw [iv_length, ← hm], by rw [iv_length, ← hm]; exact hc1, hc2, fun j u hu => ?_⟩
      have hj : j < xs.length := by have := (List.getElem?_eq_some_iff.1 hu).1; simpa using this
      obtain ⟨g, off, e, hcell⟩ := SeenI.get hS (by omega) hm.symm
      cases e
      have h := hcell j (by omega)
      rw [addr_add, h, ← hu]
      simp [iv, List.getD, List.getElem?_eq_getElem hj]
    have HSN := Lib.hid hsn; have HM := Lib.hid hm
    have H0 := Lib.hid (own_lit w w.heap.size w.heap.size rfl (Nat.le_refl _) 3 #[] [] 0 1 rfl rfl (by decide))
    have HA1 := Lib.hid (show 0 + (iv xs).length ≤ maxLen by rw [iv_length, ← hm]; unfold maxLen; omega)
    have HA2 := Lib.hid (show (0 + (iv xs).length) * 8 ≤ 140737488355328 by rw [iv_length, ← hm]; omega)
    clear hS hsn hm
    go_enter Try.func64, Try.ntmps64
    go_wp2_with (first
      | (at_builtin; refine wpList_append_reads _ rfl (.tmp 5) (.tmp 6) 22 22 rfl w.heap.size 3 3 i0 (.int .i64 0) 8 Try.underlying22 Try.underlying22 hi hz0 hz1 hz2 rfl (.slice (some ⟨w.heap.size, 0, none⟩) 0 0) 0 [] rfl H0.out _ (iv xs) rfl (HSN.out.keep ((Chg.refl [] w).alloc _)) (fun u hu => by simp [iv] at hu; obtain ⟨_, _, rfl⟩ := hu; rfl) HA1.out HA2.out (le_alloc (Nat.le_refl _) _) ?_; intro v2 w2 hown hg; obtain ⟨a2, c2, rfl⟩ := own_shape hown; have HO := Lib.hid hown; have HG := Lib.hid hg; clear hown hg)
      | fail)
    go_ret
    refine ⟨_, rfl, ?_, ((Chg.refl [] w).alloc _).grown HG.out (fun k hk => .inr (by simp [Value.ownBlock] at hk; omega))⟩
    have h := HO.out
    rw [iv_length, Nat.zero_add, List.nil_append] at h
    have h2 := seenI_of_own h rfl
    rw [← iv_length xs] at h2
    simpa using h2

set_option maxRecDepth 100000 in
set_option maxHeartbeats 1000000 in
theorem copied_any (v : Value) (xs : List V) (w : World) (hS : SeenV w v xs) (hl : xs.length ≤ 1000000) (hs : ∀ x ∈ xs, x.s.size ≤ 281474976710656) :
    Calls Try.prog 65 #[v] w fun e w' => ∃ v', e = .returned v' ∧ SeenV w' v' xs ∧ Chg [] w w' := by
  obtain ⟨i0, hi, hz0, hz1, hz2⟩ := info_value
  obtain ⟨ao, cap, rfl, h1, h2⟩ := hS.shape
  obtain ⟨n, hn⟩ : ∃ n, n = xs.length := ⟨_, rfl⟩
  rw [← hn] at hS h1 hl ⊢
  have HS := Lib.hid hS; have HN := Lib.hid hn; have HZ := Lib.hid hs
  clear hS hn hs
  go_enter Try.func65, Try.ntmps65
  go_wp2
  go_loopw [2, 7] (fun lv x w' => ∃ k : Nat, x = .int .i64 (k : Int) ∧ k ≤ n ∧ Chg [] w w' ∧ w'.ownsRow w.heap.size 44 2 lv k ((xs.take k).flatMap V.cs)) (fun _ x _ => n - (intOf x).toNat)
  case atStart => exact ⟨0, rfl, Nat.zero_le _, Chg.refl _ _, ⟨rfl, .inl ⟨rfl, rfl⟩⟩⟩
  case round =>
    obtain ⟨k, rfl, hk, hc, ho⟩ := hrel
    obtain ⟨lo, lc, rfl⟩ := own_shape ho
    have HC := Lib.hid hc; have HO := Lib.hid ho
    clear hc ho
    by_cases hlt : k < n
    · have d1 : (k : Int) < (n : Int) := by omega
      obtain ⟨g, off, rfl, hg⟩ := SeenV.get (HS.out.keep HC.out) (by omega)
      obtain ⟨x, hx⟩ : ∃ x, xs[k]? = some x := ⟨_, List.getElem?_eq_getElem (by rw [← HN.out]; exact hlt)⟩
      obtain ⟨c0, c1⟩ := hg k x hx
      have hsz := HZ.out x (List.mem_of_getElem? hx)
      obtain ⟨xn, xs'⟩ := x
      simp only at c0 c1 hsz
      have HE := Lib.hid (show (xs.take (k + 1)).flatMap V.cs = (xs.take k).flatMap V.cs ++ [.int .i64 xn, .string xs'] by rw [List.take_add_one, hx, List.flatMap_append]; rfl)
      have HV := Lib.hid (fun wx => value14_any xn xs' wx hsz)
      have HM2 := Lib.hid (show k + 1 ≤ maxLen by unfold maxLen; omega)
      have HM3 := Lib.hid (show (k + 1) * 24 ≤ 140737488355328 by omega)
      have HBX := Lib.hid HC.out.size
      clear hg hx hsz
      go_wp2_with fail
      refine (HV.out _).mono ?_
      rintro e w5 ⟨rfl, hk5⟩
      have HC5 := Lib.hid ((HC.out.alloc _).trans hk5 (by simp))
      have HO5 := Lib.hid (own_chg (HO.out.alloc _) hk5 (by simp))
      have HB5 := Lib.hid HC5.out.size
      clear hk5
      go_wp2_with (first
        | (at_builtin; refine wpList_append_at _ rfl (.tmp 11) (.tmp 17) _ rfl w.heap.size 44 i0 (.agg #[.int .i64 0, .string ByteArray.empty]) 2 24 Try.underlying40 hi hz0 hz1 hz2 rfl (by omega) (.slice lo k lc) k _ rfl (HO5.out.alloc _) ⟨w5.heap.size, 0, none⟩ 1 1 [.int .i64 xn, .string xs'] rfl rfl (new_cells (C := #[.int .i64 xn, .string xs']) _ (by simp)) (by intro u hu; simp at hu; rcases hu with rfl | rfl <;> rfl) HM2.out HM3.out (le_alloc HB5.out _) ?_; intro v2 w6 hown2 hg2 hat2; obtain ⟨a4, c4, rfl⟩ := own_shape hown2; have HO2 := Lib.hid hown2; have HC6 := Lib.hid ((HC5.out.alloc _).grown hg2 (fun k hk => .inr (own_ge HO5.out k hk))); clear hown2 hg2 hat2)
        | fail)
      go_roundw
      case rel => exact ⟨k + 1, by go_num, by omega, HC6.out, by rw [HE.out]; exact HO2.out⟩
      case measure => simp [intOf]; omega
    · have d1 : ¬ ((k : Int) < (n : Int)) := by omega
      have ek : k = n := by omega
      have hO := HO.out
      rw [ek, HN.out, List.take_length] at hO
      rw [← HN.out] at hO
      have HOF := Lib.hid (SeenK.own V.cs_len hO HN.out.symm)
      clear hO
      go_wp2
      go_ret
      exact ⟨_, rfl, HOF.out, HC.out⟩

end Go.Proofs.Ytfdmbpfpdijpdaa
