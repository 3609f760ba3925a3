/- The walk of the statement TextSigns. -/
import Derived.Test.YtofnpcfclcfgfaaRt
import Derived.Test.YtofnpcfclcfgfaaK6
import Derived.Test.YtofnpcfclcfgfaaW6
import Derived.Test.YtofnpcfclcfgfaaIg
namespace Go.Proofs.Ytofnpcfclcfgfaa
open Go.RowKit
set_option linter.unusedVariables false

theorem cv_one {w : World} {g c : Nat} {fr : Nat × Nat} (hb : w.heap[g]? = some (.cells #[.int .u8 (c : Int)] 5 fr)) (hc : c < 256) :
    (convert 33 9 (.slice (some ⟨g, 0, none⟩) 1 1)).run Try.prog w = .ok (.string (str [c])) w := by
  refine conv_seen Try.underlying33 Try.underlying5 Try.underlying9 (.inr ⟨⟨g, 0, none⟩, 1, rfl, Nat.le_refl _, by decide, fun j u hu => ?_⟩) rfl (by intro x hx; simp at hx; omega)
  rw [addr_add, Nat.zero_add, cell_of_row w g j _ _ _ hb, ← hu]
  simp [nv]

def fineB (c : Nat) : Bool := sgnB c || (stnB c || blkB c)

theorem signs_parse (T : ByteArray) (k c : Nat) (hk : k ≤ T.size) (hT : T.size ≤ 3000) (hc : c < 256) (hf : fineB c = false) : parseL (bl (T.extract 0 k ++ str [c] ++ T.extract k T.size)) = (6, []) := by
  unfold fineB at hf
  simp only [Bool.or_eq_false_iff] at hf
  have hb : bl (str [c]) = [c] := bl_one c hc
  refine parseL_none ?_ ?_
  · rw [bl_length, ByteArray.size_append, ByteArray.size_append, ByteArray.size_extract, ByteArray.size_extract]
    have : (str [c]).size = 1 := by rw [← bl_length, hb]; rfl
    omega
  · rw [bl_append, bl_append, hb, List.append_assoc, List.singleton_append]
    exact wordsL_bad _ _ c hf.1 hf.2.1 hf.2.2

abbrev FRS8 (s0 : Value) (a1 : Int) (T : ByteArray) (c k : Nat) (base u : Nat → Value) : Act := { tmps := #[s0, .int .i64 a1, .int .u8 (c : Int), undef, undef, undef, .bool false, .string T, .int .i64 (k : Int), .bool false, u 10, u 11, base 12, base 13, base 14, base 15, base 16, base 17, base 18, base 19, base 20, base 21, base 22, base 23, base 24, base 25, base 26, base 27, base 28, base 29, base 30, base 31, base 32, base 33, base 34, base 35, base 36, base 37, base 38, base 39, base 40, base 41, base 42, base 43, base 44, base 45, base 46, base 47, base 48, base 49, base 50, base 51, base 52, base 53, base 54, base 55, base 56, base 57, base 58, base 59, base 60, base 61, base 62, base 63, base 64, u 65, u 66, u 67, u 68, u 69, u 70, u 71, u 72, u 73, u 74, u 75, u 76, u 77, u 78, u 79, base 80, base 81], defers := [] }

structure RIS8 (s0 : Value) (a1 : Int) (T : ByteArray) (c k : Nat) (wc : World) (b : Nat → Bool) (u : Nat → Value) (g1 : Nat) (w' : World) : Prop where
  c0 : b 0 = true → u 66 = .string T
  c1 : b 1 = true → u 67 = .int .i64 (k : Int)
  c2 : b 2 = true → u 68 = .string (T.extract 0 k)
  c3 : b 3 = true → u 69 = .int .u8 (c : Int)
  c4 : b 4 = true → u 70 = .slice (some ⟨g1, 0, none⟩) 1 1
  c5 : b 5 = true → u 71 = .string (str [c])
  c6 : b 6 = true → u 72 = .string (T.extract 0 k ++ str [c])
  c7 : b 7 = true → u 73 = .string T
  c8 : b 8 = true → u 74 = .int .i64 (k : Int)
  c9 : b 9 = true → u 75 = .string (T.extract k T.size)
  c10 : b 10 = true → u 76 = .string (T.extract 0 k ++ str [c] ++ T.extract k T.size)
  c11 : b 11 = true → u 77 = .tuple #[.slice none 0 0, .int .i64 6]
  c12 : b 12 = true → u 65 = .tuple #[.slice none 0 0, .int .i64 6]
  c13 : b 13 = true → u 78 = .slice none 0 0
  c14 : b 14 = true → u 79 = .int .i64 6
  c15 : b 15 = true → u 10 = .slice none 0 0
  c16 : b 16 = true → u 11 = .int .i64 6
  cg : Chg [] wc w'
  m4 : b 4 = true → w'.heap[g1]? = some (.cells #[.int .u8 (c : Int)] 5 (0, 0)) ∧ wc.heap.size ≤ g1

def JIS8 (s0 : Value) (a1 : Int) (T : ByteArray) (c k : Nat) (wc : World) (listed : Array Bool) (a' : Act) (w' : World) : Prop :=
  ∃ (b : Nat → Bool) (base u : Nat → Value) (g1 : Nat), listed = #[b 0, b 1, b 2, b 3, b 4, b 5, b 6, b 7, b 8, b 9, b 10, b 11, b 12, b 13, b 14, b 15, b 16] ∧ a' = FRS8 s0 a1 T c k base u ∧ RIS8 s0 a1 T c k wc b u g1 w'

theorem JIS8_start {s0 : Value} {a1 : Int} {T : ByteArray} {c k : Nat} {wc w' : World} {a : Act} (h : a = FRS8 s0 a1 T c k (fun j => a.tmps.getD j undef) (fun j => a.tmps.getD j undef)) (hc : Chg [] wc w') : JIS8 s0 a1 T c k wc (Array.replicate 17 false) a w' :=
  ⟨fun _ => false, _, _, 0, rfl, h, by constructor <;> simp [hc]⟩

theorem ltS8 : ∀ i : Nat, i < 17 → i = 0 ∨ i = 1 ∨ i = 2 ∨ i = 3 ∨ i = 4 ∨ i = 5 ∨ i = 6 ∨ i = 7 ∨ i = 8 ∨ i = 9 ∨ i = 10 ∨ i = 11 ∨ i = 12 ∨ i = 13 ∨ i = 14 ∨ i = 15 ∨ i = 16 := by decide


set_option maxRecDepth 100000 in
set_option maxHeartbeats 4000000 in
theorem walk_TextSigns (a0 : Option Addr) (len0 cap0 : Nat) (z0 : List Int) (a1 a2 : Int) (w : World) (w0 : IsRow .i64 w a0 len0 cap0 z0) (w1 : (Lit.int .i64 a1).wf = true) (w2 : (Lit.int .u8 a2).wf = true) :
    Calls Try.prog 8 #[.slice a0 len0 cap0, .int .i64 a1, .int .u8 a2] w fun e w' => e = .returned (.bool true) ∧ Below w.heap.size w w' := by
  obtain ⟨ns, hS, hlen, hwf⟩ := w0.seenI
  have HS := Lib.hid hS; have HWF := Lib.hid hwf
  have hc2 := wf_u8 w2
  obtain ⟨c, rfl⟩ : ∃ c : Nat, a2 = c := ⟨a2.toNat, by omega⟩
  have hc : c < 256 := by omega
  have W1 := Lib.hid w1
  clear w0 w1 w2 hS hwf hlen hc2
  obtain ⟨r, fo, hF⟩ := mkF ns
  have HF := Lib.hid hF
  have hts := hF.size
  clear hF
  go_enter Try.func8, Try.ntmps8
  go_wp2_with fail
  (with_reducible refine (known6_any _).mono ?_)
  rintro e wa ⟨rfl, hk⟩
  have HK1 := Lib.hid hk
  clear hk
  go_wp2_with fail
  (with_reducible refine (make_any _ ns _ (HS.out.keep HK1.out) HWF.out).mono ?_)
  rintro e wb ⟨sv, rfl, hown, hk⟩
  have hSv := SeenF.own hown rfl
  obtain ⟨sa, sc, rfl⟩ := own_shape hown
  have HSF := Lib.hid hSv
  have HK2 := Lib.hid (HK1.out.trans hk (by simp))
  clear hown hSv hk
  go_wp2_with fail
  (with_reducible refine (rPrint_any ns r fo HF.out _ _ HSF.out).mono ?_)
  rintro e wc ⟨rfl, hk⟩
  have HK3 := Lib.hid (HK2.out.trans hk (by simp))
  clear hk
  obtain ⟨T, hT⟩ : ∃ T, T = txtR r fo := ⟨_, rfl⟩
  rw [← hT] at hts ⊢
  clear hT
  have hlt := within_lt a1 (T.size + 1) (by omega)
  have HW := Lib.hid (fun wx => w6_int a1 ((T.size : Int) + 1) (T.size + 1) wx (by omega) (by omega) (by omega) W1.out)
  obtain ⟨k, hk⟩ : ∃ k, k = (a1 % ((T.size + 1 : Nat) : Int)).toNat := ⟨_, rfl⟩
  rw [← hk] at hlt HW
  clear hk
  have hkt : k ≤ T.size := by omega
  go_wp2_with fail
  (with_reducible refine (HW.out _).mono ?_)
  rintro e wd ⟨rfl, rfl⟩
  go_upto_region 5 with fail
  go_cut [2, 9] (fun s2 s9 wx => s2 = .int .u8 (c : Int) ∧ s9 = .bool (fineB c) ∧ wx = wc)
  case first =>
    go_wp2_with fail
    all_goals
      go_meet
      case rel =>
        refine ⟨congrArg (Value.int .u8) (by omega), congrArg Value.bool ?_, rfl⟩
        rw [Bool.eq_iff_iff]
        unfold fineB sgnB letB stnB blkB
        simp only [Bool.or_eq_true, Bool.and_eq_true, decide_eq_true_eq, beq_iff_eq, true_iff]
        omega
  case rest =>
    obtain ⟨rfl, rfl, hwx⟩ := hcut
    subst hwx
    cases hf : fineB c
    case true =>
      go_wp2
      go_ret
      exact ⟨rfl, HK3.out.below (Nat.le_refl _) (by simp)⟩
    case false =>
      have HP := Lib.hid (fun wx => parse_any (T.extract 0 k ++ str [c] ++ T.extract k T.size) wx (by
        have e1 : (str [c]).size = 1 := by rw [← bl_length, bl_one c hc]; rfl
        rw [ByteArray.size_append, ByteArray.size_append, ByteArray.size_extract, ByteArray.size_extract]; omega))
      rw [signs_parse T k c hkt (by omega) hc hf] at HP
      clear hf
      have z1 : (str [c]).size ≤ 1 := by rw [← bl_length, bl_one c hc]; exact Nat.le_refl 1
      have y1 : ¬ 9223372036854775807 < k + (str [c]).size := by omega
      have y2 : ¬ 9223372036854775807 < k + (str [c]).size + (T.size - k) := by omega
      go_wp2_with fail
      refine wp_region_any (by kernel_rfl) ?_
      change wpAny _ _ _ _ _ _ _ (World.drew _)
      refine wpAny_inv (JIS8 (.slice a0 len0 cap0) a1 T c k wc) ?hs (fun listed a' w' hI hr => ?hq) _ _ _ _ ?h0 ?hcnt
      case hcnt => exact count_rep _
      case h0 => exact JIS8_start rfl ((Chg.refl [] wc).drew)
      case hs =>
        intro listed a' w' hI ii hi hr
        obtain ⟨b, base, u, g1, rfl, rfl, R⟩ := hI
        have hcs := ltS8 ii hi
        clear hi
        unfold FRS8
        rcases hcs with rfl | rfl | rfl | rfl | rfl | rfl | rfl | rfl | rfl | rfl | rfl | rfl | rfl | rfl | rfl | rfl | rfl
        · have hrd := ready_at rfl hr
          clear hr
          simp [Region.binds] at hrd
          clear hrd
          refine wpOp_step rfl (fun K hK => ?_)
          go_simp
          refine hK _ _ ?_
          exact ⟨upd b 0 true, base, (upd u 66 (.string T)), g1, rfl, rfl, ⟨(fun _ => rfl), R.c1, R.c2, R.c3, R.c4, R.c5, R.c6, R.c7, R.c8, R.c9, R.c10, R.c11, R.c12, R.c13, R.c14, R.c15, R.c16, R.cg, R.m4⟩⟩
        · have hrd := ready_at rfl hr
          clear hr
          simp [Region.binds] at hrd
          clear hrd
          refine wpOp_step rfl (fun K hK => ?_)
          go_simp
          refine hK _ _ ?_
          exact ⟨upd b 1 true, base, (upd u 67 (.int .i64 (k : Int))), g1, rfl, rfl, ⟨R.c0, (fun _ => rfl), R.c2, R.c3, R.c4, R.c5, R.c6, R.c7, R.c8, R.c9, R.c10, R.c11, R.c12, R.c13, R.c14, R.c15, R.c16, R.cg, R.m4⟩⟩
        · have hrd := ready_at rfl hr
          clear hr
          simp [Region.binds] at hrd
          have h0 : b 0 = true := by simp [hrd]
          have e0 := R.c0 h0
          have h1 : b 1 = true := by simp [hrd]
          have e1 := R.c1 h1
          clear hrd
          refine wpOp_step rfl (fun K hK => ?_)
          go_simp
          refine hK _ _ ?_
          exact ⟨upd b 2 true, base, (upd (upd (upd u 66 (.string T)) 67 (.int .i64 (k : Int))) 68 (.string (T.extract 0 k))), g1, rfl, rfl, ⟨(fun _ => rfl), (fun _ => rfl), (fun _ => rfl), R.c3, R.c4, R.c5, R.c6, R.c7, R.c8, R.c9, R.c10, R.c11, R.c12, R.c13, R.c14, R.c15, R.c16, R.cg, R.m4⟩⟩
        · have hrd := ready_at rfl hr
          clear hr
          simp [Region.binds] at hrd
          clear hrd
          refine wpOp_step rfl (fun K hK => ?_)
          go_simp
          refine hK _ _ ?_
          exact ⟨upd b 3 true, base, (upd u 69 (.int .u8 (c : Int))), g1, rfl, rfl, ⟨R.c0, R.c1, R.c2, (fun _ => rfl), R.c4, R.c5, R.c6, R.c7, R.c8, R.c9, R.c10, R.c11, R.c12, R.c13, R.c14, R.c15, R.c16, R.cg, R.m4⟩⟩
        · have hrd := ready_at rfl hr
          clear hr
          simp [Region.binds] at hrd
          have h3 : b 3 = true := by simp [hrd]
          have e3 := R.c3 h3
          have hb4 : b 4 = false := by simp [hrd]
          clear hrd
          refine wpOp_step rfl (fun K hK => ?_)
          go_simp
          refine hK _ _ ?_
          exact ⟨upd b 4 true, base, (upd (upd u 69 (.int .u8 (c : Int))) 70 (.slice (some ⟨w'.heap.size, 0, none⟩) 1 1)), w'.heap.size, rfl, rfl, ⟨R.c0, R.c1, R.c2, (fun _ => rfl), (fun _ => rfl), R.c5, R.c6, R.c7, R.c8, R.c9, R.c10, R.c11, R.c12, R.c13, R.c14, R.c15, R.c16, (R.cg.alloc _), (fun _ => ⟨hl_new rfl, R.cg.size⟩)⟩⟩
        · have hrd := ready_at rfl hr
          clear hr
          simp [Region.binds] at hrd
          have h4 : b 4 = true := by simp [hrd]
          have e4 := R.c4 h4
          clear hrd
          have hcv := cv_one (R.m4 h4).1 hc
          refine wpOp_step rfl (fun K hK => ?_)
          go_simp
          refine hK _ _ ?_
          exact ⟨upd b 5 true, base, (upd (upd u 70 (.slice (some ⟨g1, 0, none⟩) 1 1)) 71 (.string (str [c]))), g1, rfl, rfl, ⟨R.c0, R.c1, R.c2, R.c3, (fun _ => rfl), (fun _ => rfl), R.c6, R.c7, R.c8, R.c9, R.c10, R.c11, R.c12, R.c13, R.c14, R.c15, R.c16, R.cg, R.m4⟩⟩
        · have hrd := ready_at rfl hr
          clear hr
          simp [Region.binds] at hrd
          have h2 : b 2 = true := by simp [hrd]
          have e2 := R.c2 h2
          have h5 : b 5 = true := by simp [hrd]
          have e5 := R.c5 h5
          clear hrd
          refine wpOp_step rfl (fun K hK => ?_)
          go_simp
          refine hK _ _ ?_
          exact ⟨upd b 6 true, base, (upd (upd (upd u 68 (.string (T.extract 0 k))) 71 (.string (str [c]))) 72 (.string (T.extract 0 k ++ str [c]))), g1, rfl, rfl, ⟨R.c0, R.c1, (fun _ => rfl), R.c3, R.c4, (fun _ => rfl), (fun _ => rfl), R.c7, R.c8, R.c9, R.c10, R.c11, R.c12, R.c13, R.c14, R.c15, R.c16, R.cg, R.m4⟩⟩
        · have hrd := ready_at rfl hr
          clear hr
          simp [Region.binds] at hrd
          clear hrd
          refine wpOp_step rfl (fun K hK => ?_)
          go_simp
          refine hK _ _ ?_
          exact ⟨upd b 7 true, base, (upd u 73 (.string T)), g1, rfl, rfl, ⟨R.c0, R.c1, R.c2, R.c3, R.c4, R.c5, R.c6, (fun _ => rfl), R.c8, R.c9, R.c10, R.c11, R.c12, R.c13, R.c14, R.c15, R.c16, R.cg, R.m4⟩⟩
        · have hrd := ready_at rfl hr
          clear hr
          simp [Region.binds] at hrd
          clear hrd
          refine wpOp_step rfl (fun K hK => ?_)
          go_simp
          refine hK _ _ ?_
          exact ⟨upd b 8 true, base, (upd u 74 (.int .i64 (k : Int))), g1, rfl, rfl, ⟨R.c0, R.c1, R.c2, R.c3, R.c4, R.c5, R.c6, R.c7, (fun _ => rfl), R.c9, R.c10, R.c11, R.c12, R.c13, R.c14, R.c15, R.c16, R.cg, R.m4⟩⟩
        · have hrd := ready_at rfl hr
          clear hr
          simp [Region.binds] at hrd
          have h7 : b 7 = true := by simp [hrd]
          have e7 := R.c7 h7
          have h8 : b 8 = true := by simp [hrd]
          have e8 := R.c8 h8
          clear hrd
          refine wpOp_step rfl (fun K hK => ?_)
          go_simp
          refine hK _ _ ?_
          exact ⟨upd b 9 true, base, (upd (upd (upd u 73 (.string T)) 74 (.int .i64 (k : Int))) 75 (.string (T.extract k T.size))), g1, rfl, rfl, ⟨R.c0, R.c1, R.c2, R.c3, R.c4, R.c5, R.c6, (fun _ => rfl), (fun _ => rfl), (fun _ => rfl), R.c10, R.c11, R.c12, R.c13, R.c14, R.c15, R.c16, R.cg, R.m4⟩⟩
        · have hrd := ready_at rfl hr
          clear hr
          simp [Region.binds] at hrd
          have h6 : b 6 = true := by simp [hrd]
          have e6 := R.c6 h6
          have h9 : b 9 = true := by simp [hrd]
          have e9 := R.c9 h9
          clear hrd
          refine wpOp_step rfl (fun K hK => ?_)
          go_simp
          refine hK _ _ ?_
          exact ⟨upd b 10 true, base, (upd (upd (upd u 72 (.string (T.extract 0 k ++ str [c]))) 75 (.string (T.extract k T.size))) 76 (.string (T.extract 0 k ++ str [c] ++ T.extract k T.size))), g1, rfl, rfl, ⟨R.c0, R.c1, R.c2, R.c3, R.c4, R.c5, (fun _ => rfl), R.c7, R.c8, (fun _ => rfl), (fun _ => rfl), R.c11, R.c12, R.c13, R.c14, R.c15, R.c16, R.cg, R.m4⟩⟩
        · have hrd := ready_at rfl hr
          clear hr
          simp [Region.binds] at hrd
          have h10 : b 10 = true := by simp [hrd]
          have e10 := R.c10 h10
          clear hrd
          refine wpOp_step rfl (fun K hK => ?_)
          go_simp
          go_at_call 19
          (with_reducible refine (HP.out w').mono ?_)
          rintro e w4 ⟨hk, hout⟩
          rcases hout with ⟨h0, -⟩ | ⟨-, rfl⟩
          · exact absurd h0 (by decide)
          refine hK _ _ ?_
          exact ⟨upd b 11 true, base, (upd (upd u 76 (.string (T.extract 0 k ++ str [c] ++ T.extract k T.size))) 77 (.tuple #[.slice none 0 0, .int .i64 6])), g1, rfl, rfl, ⟨R.c0, R.c1, R.c2, R.c3, R.c4, R.c5, R.c6, R.c7, R.c8, R.c9, (fun _ => rfl), (fun _ => rfl), R.c12, R.c13, R.c14, R.c15, R.c16, (R.cg.trans hk (by simp)), (fun h => ⟨hk.heap (R.m4 h).1 (by simp), (R.m4 h).2⟩)⟩⟩
        · have hrd := ready_at rfl hr
          clear hr
          simp [Region.binds] at hrd
          have h11 : b 11 = true := by simp [hrd]
          have e11 := R.c11 h11
          clear hrd
          refine wpOp_step rfl (fun K hK => ?_)
          go_simp
          refine hK _ _ ?_
          exact ⟨upd b 12 true, base, (upd (upd u 77 (.tuple #[.slice none 0 0, .int .i64 6])) 65 (.tuple #[.slice none 0 0, .int .i64 6])), g1, rfl, rfl, ⟨R.c0, R.c1, R.c2, R.c3, R.c4, R.c5, R.c6, R.c7, R.c8, R.c9, R.c10, (fun _ => rfl), (fun _ => rfl), R.c13, R.c14, R.c15, R.c16, R.cg, R.m4⟩⟩
        · have hrd := ready_at rfl hr
          clear hr
          simp [Region.binds] at hrd
          have h12 : b 12 = true := by simp [hrd]
          have e12 := R.c12 h12
          clear hrd
          refine wpOp_step rfl (fun K hK => ?_)
          go_simp
          refine hK _ _ ?_
          exact ⟨upd b 13 true, base, (upd (upd u 65 (.tuple #[.slice none 0 0, .int .i64 6])) 78 (.slice none 0 0)), g1, rfl, rfl, ⟨R.c0, R.c1, R.c2, R.c3, R.c4, R.c5, R.c6, R.c7, R.c8, R.c9, R.c10, R.c11, (fun _ => rfl), (fun _ => rfl), R.c14, R.c15, R.c16, R.cg, R.m4⟩⟩
        · have hrd := ready_at rfl hr
          clear hr
          simp [Region.binds] at hrd
          have h12 : b 12 = true := by simp [hrd]
          have e12 := R.c12 h12
          clear hrd
          refine wpOp_step rfl (fun K hK => ?_)
          go_simp
          refine hK _ _ ?_
          exact ⟨upd b 14 true, base, (upd (upd u 65 (.tuple #[.slice none 0 0, .int .i64 6])) 79 (.int .i64 6)), g1, rfl, rfl, ⟨R.c0, R.c1, R.c2, R.c3, R.c4, R.c5, R.c6, R.c7, R.c8, R.c9, R.c10, R.c11, (fun _ => rfl), R.c13, (fun _ => rfl), R.c15, R.c16, R.cg, R.m4⟩⟩
        · have hrd := ready_at rfl hr
          clear hr
          simp [Region.binds] at hrd
          have h13 : b 13 = true := by simp [hrd]
          have e13 := R.c13 h13
          clear hrd
          refine wpOp_step rfl (fun K hK => ?_)
          go_simp
          refine hK _ _ ?_
          exact ⟨upd b 15 true, base, (upd (upd u 78 (.slice none 0 0)) 10 (.slice none 0 0)), g1, rfl, rfl, ⟨R.c0, R.c1, R.c2, R.c3, R.c4, R.c5, R.c6, R.c7, R.c8, R.c9, R.c10, R.c11, R.c12, (fun _ => rfl), R.c14, (fun _ => rfl), R.c16, R.cg, R.m4⟩⟩
        · have hrd := ready_at rfl hr
          clear hr
          simp [Region.binds] at hrd
          have h14 : b 14 = true := by simp [hrd]
          have e14 := R.c14 h14
          clear hrd
          refine wpOp_step rfl (fun K hK => ?_)
          go_simp
          refine hK _ _ ?_
          exact ⟨upd b 16 true, base, (upd (upd u 79 (.int .i64 6)) 11 (.int .i64 6)), g1, rfl, rfl, ⟨R.c0, R.c1, R.c2, R.c3, R.c4, R.c5, R.c6, R.c7, R.c8, R.c9, R.c10, R.c11, R.c12, R.c13, (fun _ => rfl), R.c15, (fun _ => rfl), R.cg, R.m4⟩⟩
      obtain ⟨b, base, u, g1, rfl, rfl, R⟩ := hI
      have hall := ready_all2 hr rfl (by kernel_rfl)
      have h15 : b 15 = true := Option.some.inj (hall 15 (by decide))
      have e15 := R.c15 h15
      have h16 : b 16 = true := Option.some.inj (hall 16 (by decide))
      have e16 := R.c16 h16
      have HCG := Lib.hid R.cg
      unfold FRS8
      rw [e15, e16]
      clear e15 e16
      clear R hr hall h15 h16
      go_wp2
      go_ret
      exact ⟨rfl, (HK3.out.trans HCG.out (by simp)).below (Nat.le_refl _) (by simp)⟩

end Go.Proofs.Ytofnpcfclcfgfaa
