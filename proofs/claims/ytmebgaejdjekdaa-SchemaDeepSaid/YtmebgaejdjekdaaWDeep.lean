/- The walk of the statement SchemaDeep. -/
import Derived.Test.YtmebgaejdjekdaaDp
namespace Go.Proofs.Ytmebgaejdjekdaa
open Go.RowKit
set_option linter.unusedVariables false

theorem own_lit (w : World) (T : TypeId) (C : Array Value) (xs : List Value) (n size : Nat) (hC : C.toList = xs) (hn : C.size = n * size) (hm : n ≤ maxLen) : (w.alloc (.cells C T)).ownsRow w.heap.size T size (.slice (some ⟨w.heap.size, 0, none⟩) n n) n xs := by
  subst hC
  refine ⟨by simpa using hn, .inr ⟨w.heap.size, n, C, rfl, Nat.le_refl _, heap_alloc_new w _, Nat.le_refl _, hm, hn, ?_⟩⟩
  rw [← hn]
  exact List.take_of_length_le (by simp)

/-- The front of a deep schema, as it grows. -/
def deepF (R : Nat → Int) (n : Nat) : List F := ⟨bm, 0, 0, 1⟩ :: deepG R n
@[simp] theorem deepF_length (R : Nat → Int) (n : Nat) : (deepF R n).length = n + 1 := by simp [deepF]
theorem deepF_succ (R : Nat → Int) (n : Nat) : deepF R (n + 1) = deepF R n ++ [⟨bg, R n, 0, 1⟩] := by simp [deepF, deepG_succ]

theorem wf_wrap64 (x : Int) : (Lit.int .i64 (wrap64 x)).wf = true := WalkArith.wf_i64 (by simp only [wrap64]; omega)

theorem deep_c (R : Nat → Int) (rz : Int) (n : Nat) : ∀ f ∈ deepL R rz n, f.c ≤ 9223372036854775807 := by
  intro f hf
  simp [deepL, deepG] at hf
  rcases hf with rfl | ⟨i, _, rfl⟩ | rfl <;> simp
theorem deep_n (R : Nat → Int) (rz : Int) (n : Nat) : ∀ f ∈ deepL R rz n, f.n.size ≤ 1000000 := by
  intro f hf
  simp [deepL, deepG] at hf
  rcases hf with rfl | ⟨i, _, rfl⟩ | rfl
  · show bm.size ≤ _; decide
  · show bg.size ≤ _; decide
  · show bz.size ≤ _; decide

set_option maxRecDepth 100000 in
set_option maxHeartbeats 1000000 in
theorem walk_SchemaDeep (a0 a1 : Int) (w : World) (w0 : (Lit.int .i64 a0).wf = true) (w1 : (Lit.int .i64 a1).wf = true) :
    Calls Try.prog 9 #[.int .i64 a0, .int .i64 a1] w fun e w' => e = .returned (.bool true) ∧ Below w.heap.size w w' := by
  obtain ⟨i0, hi, hz0, hz1, hz2⟩ := info_field
  have W0 := Lib.hid w0; have W1 := Lib.hid w1
  clear w0 w1
  go_enter Try.func9, Try.ntmps9
  go_wp2_with fail
  (with_reducible refine (known_any _).mono ?_)
  rintro e w1 ⟨rfl, hk⟩
  have HK := Lib.hid hk
  clear hk
  go_wp2_with fail
  (with_reducible refine (within_int a0 12 12 _ rfl (by decide) (by decide) W0.out).mono ?_)
  rintro e w2 ⟨rfl, rfl⟩
  have hnl : (a0 % (12 : Nat)).toNat < 12 := within_lt a0 12 (by decide)
  obtain ⟨n, hn⟩ : ∃ n, n = (a0 % (12 : Nat)).toNat := ⟨_, rfl⟩
  rw [← hn] at hnl ⊢
  clear hn
  obtain ⟨R, hR⟩ : ∃ R : Nat → Int, R = fun (i : Nat) => (((wrap64 (a1 + (i : Int)) % (3 : Nat)).toNat : Nat) : Int) := ⟨_, rfl⟩
  have HR := Lib.hid hR
  clear hR
  have HOL := Lib.hid (own_lit w1 33 #[.string bm, .int .i64 0, .int .i64 0, .int .i64 1] ((deepF R 0).flatMap F.cs) 1 4 rfl rfl (by decide))
  go_wp2
  go_loopw [5, 6] (fun sv x w' => ∃ k : Nat, x = .int .i64 (k : Int) ∧ k ≤ n ∧ Chg [] w1 w' ∧ w'.ownsRow w1.heap.size 33 4 sv (k + 1) ((deepF R k).flatMap F.cs)) (fun _ x w' => n - (intOf x).toNat)
  case atStart => exact ⟨0, rfl, Nat.zero_le _, (Chg.refl [] w1).alloc _, HOL.out⟩
  case round =>
    obtain ⟨k, rfl, hk, hc, ho⟩ := hrel
    obtain ⟨ao5, cap5, rfl⟩ := own_shape ho
    have HC := Lib.hid hc; have HO := Lib.hid ho
    clear hc ho
    by_cases hlt : k < n
    · have hsz : w1.heap.size ≤ wr.heap.size := HC.out.size
      have hm2 : k + 1 + 1 ≤ maxLen := by unfold maxLen; omega
      have hm3 : (k + 1 + 1) * 40 ≤ 140737488355328 := by omega
      have HM2 := Lib.hid hm2; have HM3 := Lib.hid hm3
      clear hm2 hm3
      go_wp2_with fail
      (with_reducible refine (within_int _ 3 3 _ rfl (by decide) (by decide) (wf_wrap64 (a1 + (k : Int)))).mono ?_)
      rintro e w2 ⟨rfl, rfl⟩
      obtain ⟨r, hr⟩ : ∃ r : Int, r = (((wrap64 (a1 + (k : Int)) % (3 : Nat)).toNat : Nat) : Int) := ⟨_, rfl⟩
      have HRK := Lib.hid (show R k = r by rw [HR.out, hr])
      rw [← hr]
      clear hr
      go_wp2_with (at_builtin; refine wpList_append_own _ rfl _ _ 23 rfl w1.heap.size 33 i0 (.agg #[.string ByteArray.empty, .int .i64 0, .int .i64 0, .int .i64 0]) 4 40 Try.underlying23 hi hz0 hz1 hz2 rfl (by decide) _ _ _ rfl (HO.out.alloc _) ⟨wr.heap.size, 0, none⟩ 1 1 (F.cs ⟨bg, r, 0, 1⟩) rfl rfl (new_cells (C := #[.string bg, .int .i64 r, .int .i64 0, .int .i64 1]) wr.heap.size rfl) (F.one _) HM2.out HM3.out (Nat.le_trans hsz ((Chg.refl [] wr).alloc _).size) ?_)
      intro v3 w3 hown hgrow _
      have HCW := Lib.hid ((HC.out.alloc (.cells #[.string bg, .int .i64 r, .int .i64 0, .int .i64 1] 33)).grown hgrow (fun q hq => .inr (own_ge HO.out q hq)))
      have HO3 := Lib.hid hown
      clear hown hgrow
      go_wp2
      go_roundw
      case rel => exact ⟨k + 1, by go_num, by omega, HCW.out, by rw [deepF_succ, List.flatMap_append, HRK.out]; simpa using HO3.out⟩
      case measure => simp [intOf]; omega
    · have ek : k = n := by omega
      subst ek
      have hsz : w1.heap.size ≤ wr.heap.size := HC.out.size
      have hm2 : k + 1 + 1 ≤ maxLen := by unfold maxLen; omega
      have hm3 : (k + 1 + 1) * 40 ≤ 140737488355328 := by omega
      have HM2 := Lib.hid hm2; have HM3 := Lib.hid hm3
      clear hm2 hm3 hlt
      go_wp2_with fail
      (with_reducible refine (within_int _ 3 3 _ rfl (by decide) (by decide) W1.out).mono ?_)
      rintro e w2 ⟨rfl, rfl⟩
      have hz3 : (a1 % (3 : Nat)).toNat < 3 := within_lt a1 3 (by decide)
      obtain ⟨r, hr⟩ : ∃ r : Nat, r = (a1 % (3 : Nat)).toNat := ⟨_, rfl⟩
      rw [← hr] at hz3 ⊢
      clear hr
      go_wp2_with (at_builtin; refine wpList_append_own _ rfl _ _ 23 rfl w1.heap.size 33 i0 (.agg #[.string ByteArray.empty, .int .i64 0, .int .i64 0, .int .i64 0]) 4 40 Try.underlying23 hi hz0 hz1 hz2 rfl (by decide) _ _ _ rfl (HO.out.alloc _) ⟨wr.heap.size, 0, none⟩ 1 1 (F.cs ⟨bz, (r : Int), 3, 0⟩) rfl rfl (new_cells (C := #[.string bz, .int .i64 (r : Int), .int .i64 3, .int .i64 0]) wr.heap.size rfl) (F.one _) HM2.out HM3.out (Nat.le_trans hsz ((Chg.refl [] wr).alloc _).size) ?_)
      intro v3 w3 hown hgrow _
      have HCW := Lib.hid (HK.out.trans ((HC.out.alloc (.cells #[.string bz, .int .i64 (r : Int), .int .i64 3, .int .i64 0] 33)).grown hgrow (fun q hq => .inr (own_ge HO.out q hq))) (by simp))
      have hdl : (deepF R k).flatMap F.cs ++ F.cs ⟨bz, (r : Int), 3, 0⟩ = (deepL R r k).flatMap F.cs := by
        show _ = (deepF R k ++ [(⟨bz, (r : Int), 3, 0⟩ : F)]).flatMap F.cs
        rw [List.flatMap_append]
        simp
      rw [hdl] at hown
      have HS := Lib.hid (SeenF.own hown (by simp))
      obtain ⟨ao3, cap3, rfl⟩ := own_shape hown
      have hRb : ∀ i, 0 ≤ R i ∧ R i ≤ 2 := fun i => by
        rw [HR.out]
        have := within_lt (wrap64 (a1 + (i : Int))) 3 (by decide)
        simp only
        omega
      have HCK := Lib.hid (deep_chk R r k (by omega) hRb (by omega))
      have HLV := Lib.hid (deep_leaves R r k)
      have HFC := Lib.hid (show ∀ f ∈ deepL R r k, f.c ≤ 9223372036854775807 from deep_c R r k)
      have HFN := Lib.hid (show ∀ f ∈ deepL R r k, f.n.size ≤ 1000000 from deep_n R r k)
      have hlen : k + 1 + 1 = (deepL R r k).length := by simp
      have HLEN := Lib.hid hlen
      clear hown hgrow hdl hRb hlen
      obtain ⟨l, hl⟩ : ∃ l, l = deepL R r k := ⟨_, rfl⟩
      rw [← hl] at HS HCK HLV HFC HFN HLEN
      have HL := Lib.hid hl
      clear hl
      go_wp2_with fail
      (with_reducible refine (check_any _ l _ HS.out HFC.out HFN.out).mono ?_)
      rintro e w4 ⟨rfl, hk4⟩
      rw [HCK.out]
      have HC4 := Lib.hid (HCW.out.trans hk4 (by simp))
      have HS4 := Lib.hid (HS.out.keep hk4)
      clear hk4
      by_cases h8 : 8 < k + 1
      · rw [if_pos h8]
        have d8 : decide ((8 : Int) < (k : Int) + 1) = true := by simp; omega
        go_wp2_with fail
        (with_reducible refine (leaves_any _ l _ HS4.out (by rw [← HLEN.out]; omega) HFC.out).mono ?_)
        rintro e w5 ⟨v5, rfl, hl5, hk5⟩
        obtain ⟨ao5', cap5', rfl, -, -⟩ := hl5.shape
        have HC5 := Lib.hid (HC4.out.trans hk5 (by simp))
        clear hk5 hl5
        go_wp2
        go_ret
        exact ⟨rfl, HC5.out.below (Nat.le_refl _) (by simp)⟩
      · rw [if_neg h8]
        have d8 : decide ((8 : Int) < (k : Int) + 1) = false := by simp; omega
        go_wp2_with fail
        (with_reducible refine (leaves_any _ l _ HS4.out (by rw [← HLEN.out]; omega) HFC.out).mono ?_)
        rintro e w5 ⟨v5, rfl, hl5, hk5⟩
        rw [HLV.out] at hl5
        obtain ⟨ao5', cap5', rfl, hca, hcb⟩ := hl5.shape
        have HL5 := Lib.hid hl5
        have HC5 := Lib.hid (HC4.out.trans hk5 (by simp))
        have HS5 := Lib.hid (HS4.out.keep hk5)
        clear hk5 hl5
        simp only [List.length_cons, List.length_nil, Nat.zero_add] at hca HL5 ⊢
        obtain ⟨gl, offl, rfl, hcl⟩ := HL5.out.at (by decide)
        obtain ⟨c1, c2, c3, c4⟩ := SeenL.cells hcl (j := 0) rfl
        clear hcl c3 c4
        simp only [Nat.zero_mul, Nat.add_zero] at c1 c2
        obtain ⟨Cn, hCn⟩ : ∃ Cn : Nat → Nat, Cn = fun j => (List.range j).countP (repB l) := ⟨_, rfl⟩
        have c2' : w5.cell? ⟨gl, offl + 1, none⟩ = some (.int .i64 (Cn (k + 2) : Int)) := by rw [hCn]; exact c2
        have c1' : w5.cell? ⟨gl, offl, none⟩ = some (.int .i64 ((k : Int) + 1)) := by rw [c1]; congr 1
        have HS1 := Lib.hid (show ∀ j, ((Cn (j + 1) : Nat) : Int) = (Cn j : Int) + (if repB l j then 1 else 0) by intro j; rw [hCn]; exact countP_succ _ _)
        have HLE := Lib.hid (show ∀ j, Cn j ≤ j by intro j; rw [hCn]; exact Nat.le_trans List.countP_le_length (by simp))
        have HC0 := Lib.hid (show Cn 0 = 0 by rw [hCn]; rfl)
        clear c1 c2 hCn
        obtain ⟨gs, offs, rfl, hcs⟩ := SeenF.get HS5.out (by omega) HLEN.out.symm
        have HCS := Lib.hid hcs
        clear hcs
        go_wp2
        go_loop [9, 10] (fun c x => ∃ j : Nat, x = .int .i64 (j : Int) ∧ j ≤ k + 2 ∧ c = .int .i64 (Cn j : Int)) (fun _ x => k + 2 - (intOf x).toNat)
        case atStart => exact ⟨0, rfl, by omega, by rw [HC0.out]; rfl⟩
        case round =>
          obtain ⟨j, rfl, hj, rfl⟩ := hrel
          by_cases hjl : j < k + 1 + 1
          · obtain ⟨-, a2, -, -⟩ := HCS.out j hjl
            obtain ⟨x, hx⟩ : ∃ x, x = (l.getD j default).r := ⟨_, rfl⟩
            have hs1 := HS1.out j
            have hle := HLE.out j
            rw [← hx] at a2
            by_cases hx2 : x = 2
            · have e2 : (x == 2) = true := by simp [hx2]
              have hb : repB l j = true := by unfold repB; rw [← hx, hx2]; rfl
              rw [hb, if_pos rfl] at hs1
              have HS2 := Lib.hid hs1
              clear hs1 hb hx2 hx
              go_wp2
              go_round
              case rel => exact ⟨j + 1, by go_num, by omega, by rw [HS2.out]⟩
              case measure => simp [intOf]; omega
            · have e2 : (x == 2) = false := by simp [hx2]
              have hb : repB l j = false := by unfold repB; rw [← hx]; simp [hx2]
              rw [hb] at hs1
              have HS2 := Lib.hid (show ((Cn (j + 1) : Nat) : Int) = (Cn j : Int) by simpa using hs1)
              clear hs1 hb hx2 hx
              go_wp2
              go_round
              case rel => exact ⟨j + 1, by go_num, by omega, by rw [HS2.out]⟩
              case measure => simp [intOf]; omega
          · have ej : j = k + 2 := by omega
            subst ej
            go_wp2
            go_ret
            exact ⟨rfl, HC5.out.below (Nat.le_refl _) (by simp)⟩

end Go.Proofs.Ytmebgaejdjekdaa
