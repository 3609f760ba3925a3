/- level's reference: Decode of arguments that may not be; of width nought. -/
import Derived.Test.YtlhdicbhanncnaaA6
import Derived.Test.YtlhdicbhanncnaaA1
namespace Go.Proofs.Ytlhdicbhanncnaa
open Go.RowKit
set_option linter.unusedVariables false
set_option linter.unusedSimpArgs false

set_option maxRecDepth 100000 in
set_option maxHeartbeats 4000000 in
theorem rdec_args (bv : Value) (n width : Int) (w : World) (h : n < 0 ∨ 4000 < n ∨ width < 0 ∨ 16 < width) :
    Calls Try.prog 9 #[bv, .int .i64 n, .int .i64 width] w fun e w' => e = .returned (.tuple #[.slice none 0 0, .int .i64 1]) ∧ w = w' := by
  by_cases h1 : n < 0
  · go_enter Try.func9, Try.ntmps9
    go_wp2
    go_ret2
    exact ⟨rfl, rfl⟩
  by_cases h2 : 4000 < n
  · go_enter Try.func9, Try.ntmps9
    go_wp2
    go_ret2
    exact ⟨rfl, rfl⟩
  by_cases h3 : width < 0
  · go_enter Try.func9, Try.ntmps9
    go_wp2
    go_ret2
    exact ⟨rfl, rfl⟩
  have h4 : 16 < width := by omega
  clear h
  go_enter Try.func9, Try.ntmps9
  go_wp2
  go_ret2
  exact ⟨rfl, rfl⟩

/-- What is read of width nought. -/
def zOut (b : List Nat) (n : Nat) : Nat × List Nat := if b = [] then (0, List.replicate n 0) else (9, [])

set_option maxRecDepth 100000 in
set_option maxHeartbeats 4000000 in
theorem rdec_zero (bv : Value) (b : List Nat) (n : Nat) (w : World) (hn : n ≤ 4000) (hS : Seen w bv (nv .u8 b)) (hb : ∀ x ∈ b, x < 256) (hbl : b.length ≤ 1000000000) :
    Calls Try.prog 9 #[bv, .int .i64 (n : Int), .int .i64 0] w fun e w' => ∃ v, e = .returned (.tuple #[v, .int .i64 ((zOut b n).1 : Int)]) ∧ Made 3 .i64 (zOut b n).2 w v w' := by
  obtain ⟨i0, hi, hz0, hz1, hz2⟩ := info_int
  have HN := Lib.hid (xsNew bv b w hS hb hbl)
  have hn1 : ¬ ((n : Int) < 0) := by omega
  have hn2 : ¬ ((4000 : Int) < (n : Int)) := by omega
  clear hS hb
  go_enter Try.func9, Try.ntmps9
  go_wp2_with (first
    | (go_at_call 21; (with_reducible refine HN.out.mono ?_); rintro e w1 ⟨x, rfl, hc, hx, hxr⟩; have HC1 := Lib.hid hc; have HX1 := Lib.hid hx; have HXR := Lib.hid hxr; clear hc hx hxr)
    | fail)
  obtain ⟨M, hM⟩ : ∃ M, M = w1.heap.size := ⟨_, rfl⟩
  rw [← hM] at HXR
  have HM := Lib.hid hM
  clear hM
  go_loopw [9] (fun lv w' => ∃ j : Nat, j ≤ n ∧ slen lv = j ∧ Chg [] w1 w' ∧ w'.ownsRow M 3 1 lv j (nv .i64 (List.replicate j 0)) ∧ XS w' x M b 0 0) (fun lv _ => n - slen lv)
  case atStart => exact ⟨0, Nat.zero_le _, rfl, Chg.refl _ _, World.ownsRow_nil _ _ _ _, HXR.out⟩
  case round =>
    obtain ⟨j, hj, hsl, hc, ho, hxs⟩ := hrel
    obtain ⟨xo, xc, rfl⟩ := own_shape ho
    have HC := Lib.hid hc; have HO := Lib.hid ho; have HXS := Lib.hid hxs
    have hB : M ≤ wr.heap.size := by rw [HM.out]; exact hc.size
    clear hc ho hxs hsl
    by_cases hlt : j < n
    · have d1 : decide ((j : Int) < (n : Int)) = true := by simp; omega
      go_wp2_with (first
        | (at_builtin; refine wpList_append_own _ rfl _ _ 22 rfl M 3 i0 (.int .i64 0) 1 8 Try.underlying22 hi hz0 hz1 hz2 rfl (by decide) _ _ _ rfl (HO.out.alloc _) ⟨wr.heap.size, 0, none⟩ 1 1 [.int .i64 0] rfl rfl (cell_one_new _ _ _) (by simp [Value.oneCell']) (by unfold maxLen; omega) (by omega) (by simp; omega) ?_)
        | fail)
      intro v' w2 hown' hgrow _
      have hca : Chg [] wr (wr.alloc (.cells #[.int .i64 0] 3)) := (Chg.refl [] wr).alloc _
      have hcg : Chg (Value.slice xo j xc).ownBlock.toList (wr.alloc (.cells #[.int .i64 0] 3)) w2 := (Chg.refl _ _).grown hgrow (fun g hg => .inl (by simp [hg]))
      have HX2 := Lib.hid ((HXS.out.keep hca).above hcg (fun k hk => by simp at hk; exact (HO.out.lt k hk).1))
      have HC2 := Lib.hid (show Chg [] w1 w2 from (HC.out.alloc _).grown hgrow (fun k hk => .inr (by rw [← HM.out]; exact (HO.out.lt k hk).1)))
      have HO2 := Lib.hid (show w2.ownsRow M 3 1 v' (j + 1) (nv .i64 (List.replicate (j + 1) 0)) by
        rw [List.replicate_succ']; simpa [nv] using hown')
      obtain ⟨vo, vc, rfl⟩ := own_shape HO2.out
      clear hown' hgrow hca hcg
      go_wp2
      go_roundw
      case rel => exact ⟨j + 1, hlt, rfl, HC2.out, HO2.out, HX2.out⟩
      case measure => simp [slen]; omega
    · have d1 : decide ((j : Int) < (n : Int)) = false := by simp; omega
      obtain rfl : j = n := by omega
      have HE := Lib.hid (xsEnd HXS.out)
      rw [if_pos rfl, List.drop_zero] at HE
      obtain ⟨E, hE⟩ : ∃ E : Int, E = if b = [] then 0 else 9 := ⟨_, rfl⟩
      rw [← hE] at HE
      have HEE := Lib.hid hE
      clear hE
      go_wp2
      go_loopw [9] (fun lv w' => lv = .slice xo j xc ∧ w' = wr) (fun _ _ => 0)
      case atStart => exact ⟨rfl, rfl⟩
      case round =>
        obtain ⟨rfl, rfl⟩ := hrel
        have HCW := Lib.hid (HC1.out.trans HC.out (by simp))
        have hBw : w.heap.size ≤ M := by rw [HM.out]; exact HC1.out.size
        by_cases hb0 : b = []
        · have hE0 : E = 0 := by rw [HEE.out, if_pos hb0]
          subst hE0
          have HZ := Lib.hid (show zOut b j = (0, List.replicate j 0) by unfold zOut; rw [if_pos hb0])
          clear hb0
          go_wp2_with (first
            | (go_at_call 27; (with_reducible refine HE.out.mono ?_); rintro e w3 ⟨rfl, hc3⟩; have HC3 := Lib.hid hc3; clear hc3)
            | fail)
          go_ret2
          rw [HZ.out]
          exact ⟨_, rfl, HCW.out.trans HC3.out (by simp), by rw [List.length_replicate]; exact own_mono (own_chg HO.out HC3.out (by simp)) hBw⟩
        · have hE9 : E = 9 := by rw [HEE.out, if_neg hb0]
          subst hE9
          have HZ := Lib.hid (show zOut b j = (9, []) by unfold zOut; rw [if_neg hb0])
          clear hb0
          go_wp2_with (first
            | (go_at_call 27; (with_reducible refine HE.out.mono ?_); rintro e w3 ⟨rfl, hc3⟩; have HC3 := Lib.hid hc3; clear hc3)
            | fail)
          go_ret2
          rw [HZ.out]
          exact ⟨_, rfl, HCW.out.trans HC3.out (by simp), ⟨rfl, .inl ⟨rfl, rfl⟩⟩⟩

end Go.Proofs.Ytlhdicbhanncnaa
