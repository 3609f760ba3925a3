/- Contract of text.Print. -/
import Derived.Test.YtofnpcfclcfgfaaPl
import Derived.Test.YtofnpcfclcfgfaaRt
namespace Go.Proofs.Ytofnpcfclcfgfaa
open Go.RowKit
set_option linter.unusedVariables false

abbrev FRB2 (s0 : Value) (i B r k : Nat) (x y : ByteArray) (base u : Nat → Value) : Act := { tmps := #[s0, .int .i64 (i : Int), undef, undef, .string { data := #[] }, .pointer (some ⟨B, 0, none⟩), u 6, u 7, base 8, base 9, base 10, base 11, u 12, u 13, u 14, u 15, u 16, u 17, u 18, u 19, u 20, u 21, u 22, u 23, base 24, base 25, base 26, base 27, base 28, base 29, base 30, base 31, base 32, base 33, base 34, base 35], defers := [] }

structure RIB2 (s0 : Value) (i B r k : Nat) (x y : ByteArray) (wc : World) (b : Nat → Bool) (u : Nat → Value) (g1 g2 : Nat) (w' : World) : Prop where
  c0 : b 0 = true → u 12 = .slice (some ⟨g1, 0, none⟩) 3 3
  c1 : b 1 = true → u 13 = .pointer (some ⟨B, 1, none⟩)
  c2 : b 2 = true → u 14 = .int .i64 (r : Int)
  c3 : b 3 = true → u 15 = .pointer (some ⟨g1, r, none⟩)
  c4 : b 4 = true → u 16 = .string x
  c5 : b 5 = true → u 17 = .string (x ++ ({ data := #[32] } : ByteArray))
  c6 : b 6 = true → u 18 = .slice (some ⟨g2, 0, none⟩) 5 5
  c7 : b 7 = true → u 19 = .pointer (some ⟨B, 2, none⟩)
  c8 : b 8 = true → u 20 = .int .i64 (k : Int)
  c9 : b 9 = true → u 21 = .pointer (some ⟨g2, k, none⟩)
  c10 : b 10 = true → u 22 = .string y
  c11 : b 11 = true → u 23 = .string (x ++ ({ data := #[32] } : ByteArray) ++ y)
  c12 : b 12 = true → u 6 = .string (x ++ ({ data := #[32] } : ByteArray) ++ y)
  c13 : b 13 = true → u 7 = .string { data := #[59] }
  cg : Chg [] wc w'
  m0 : b 0 = true → w'.heap[g1]? = some (.cells (sv repsL).toArray 9 (0, 0)) ∧ wc.heap.size ≤ g1
  m6 : b 6 = true → w'.heap[g2]? = some (.cells (sv kindsL).toArray 9 (0, 0)) ∧ wc.heap.size ≤ g2
  z3_0 : b 3 = true → b 0 = true
  z9_6 : b 9 = true → b 6 = true

def JIB2 (s0 : Value) (i B r k : Nat) (x y : ByteArray) (wc : World) (listed : Array Bool) (a' : Act) (w' : World) : Prop :=
  ∃ (b : Nat → Bool) (base u : Nat → Value) (g1 g2 : Nat), listed = #[b 0, b 1, b 2, b 3, b 4, b 5, b 6, b 7, b 8, b 9, b 10, b 11, b 12, b 13] ∧ a' = FRB2 s0 i B r k x y base u ∧ RIB2 s0 i B r k x y wc b u g1 g2 w'

theorem JIB2_start {s0 : Value} {i B r k : Nat} {x y : ByteArray} {wc w' : World} {a : Act} (h : a = FRB2 s0 i B r k x y (fun j => a.tmps.getD j undef) (fun j => a.tmps.getD j undef)) (hc : Chg [] wc w') : JIB2 s0 i B r k x y wc (Array.replicate 14 false) a w' :=
  ⟨fun _ => false, _, _, 0, 0, rfl, h, by constructor <;> simp [hc]⟩

theorem ltB2 : ∀ i : Nat, i < 14 → i = 0 ∨ i = 1 ∨ i = 2 ∨ i = 3 ∨ i = 4 ∨ i = 5 ∨ i = 6 ∨ i = 7 ∨ i = 8 ∨ i = 9 ∨ i = 10 ∨ i = 11 ∨ i = 12 ∨ i = 13 := by decide


set_option maxRecDepth 100000 in
set_option maxHeartbeats 1000000 in
theorem begin_any (sl : Value) (l : List F) (i : Nat) (f : F) (w : World) (hS : SeenF w sl l) (hl : l.length ≤ 1000) (hi : l[i]? = some f) (hf : FFine f) :
    Calls Try.prog 45 #[sl, .int .i64 (i : Int)] w fun e w' => e = .returned (.string (begS i f)) ∧ Chg [] w w' := by
  obtain ⟨ao, cap, rfl, hc1, hc2⟩ := hS.shape
  have hil : i < l.length := (List.getElem?_eq_some_iff.1 hi).1
  have hfi : l.getD i default = f := by rw [List.getD, hi]; rfl
  obtain ⟨g, off, rfl, hcs⟩ := hS.get (by omega) rfl
  obtain ⟨a1, a2, a3, a4⟩ := hcs i hil
  rw [hfi] at a1 a2 a3 a4
  obtain ⟨n, hn⟩ : ∃ n, n = l.length := ⟨_, rfl⟩
  rw [← hn] at hc1 hl hil ⊢
  have HF := Lib.hid hf
  have hr := hf.r; have hk := hf.k
  clear hS hcs hfi hn hi hf
  go_enter Try.func45, Try.ntmps45
  go_upto_region 2 with fail
  have hbx : Box (w.alloc (.cells #[.string f.n, .int .i64 f.r, .int .i64 f.k, .int .i64 f.c] 41)) w.heap.size f := Box.new w f _
  have HC := Lib.hid ((Chg.refl [] w).alloc (.cells #[.string f.n, .int .i64 f.r, .int .i64 f.k, .int .i64 f.c] 41))
  generalize (w.alloc (.cells #[.string f.n, .int .i64 f.r, .int .i64 f.k, .int .i64 f.c] 41)) = W at hbx HC ⊢
  obtain ⟨B, hB⟩ : ∃ B, B = w.heap.size := ⟨_, rfl⟩
  rw [← hB] at hbx ⊢
  clear hB a1 a2 a3 a4
  obtain ⟨b1, b2, b3, b4⟩ := hbx
  obtain ⟨r, hrr⟩ : ∃ r : Nat, f.r = r := ⟨f.r.toNat, by omega⟩
  obtain ⟨k, hkk⟩ : ∃ k : Nat, f.k = k := ⟨f.k.toNat, by omega⟩
  have HR := Lib.hid hrr; have HK := Lib.hid hkk
  rw [hrr] at b2 hr; rw [hkk] at b3 hk
  clear hrr hkk
  have z2 : (repW f).size ≤ 8 := rep_size f HF.out
  have z3 : (kindW f).size ≤ 5 := kind_size f HF.out
  have zn : f.n.size ≤ 12 := name_size HF.out.n
  have hr3 : (r : Int) < 3 := by omega
  have hk5 : (k : Int) < 5 := by omega
  have hr3' : r < repsL.length := by show r < 3; omega
  have hk5' : k < kindsL.length := by show k < 5; omega
  have HB1 := Lib.hid b1; have HB2 := Lib.hid b2; have HB3 := Lib.hid b3
  obtain ⟨x, hx⟩ : ∃ x, x = repW f := ⟨_, rfl⟩
  obtain ⟨y, hy⟩ : ∃ y, y = kindW f := ⟨_, rfl⟩
  have HX := Lib.hid (show repsL.getD r ByteArray.empty = x by rw [hx, repW, HR.out]; rfl)
  have HY := Lib.hid (show kindsL.getD k ByteArray.empty = y by rw [hy, kindW, HK.out]; rfl)
  rw [← hx] at z2; rw [← hy] at z3
  have HX2 := Lib.hid hx; have HY2 := Lib.hid hy
  clear hx hy b1 b2 b3 b4
  have y1 : ¬ 9223372036854775807 < x.size + 1 := by omega
  have y2 : ¬ 9223372036854775807 < x.size + 1 + y.size := by omega
  refine wp_region_any (by kernel_rfl) ?_
  change wpAny _ _ _ _ _ _ _ (World.drew _)
  refine wpAny_inv (JIB2 (.slice (some ⟨g, off, none⟩) n cap) i B r k x y W) ?hs (fun listed a' w' hI hr => ?hq) _ _ _ _ ?h0 ?hcnt
  case hcnt => exact count_rep _
  case h0 => exact JIB2_start rfl ((Chg.refl [] W).drew)
  case hs =>
    intro listed a' w' hI ii hi hr
    obtain ⟨b, base, u, g1, g2, rfl, rfl, R⟩ := hI
    have hcs := ltB2 ii hi
    clear hi
    unfold FRB2
    rcases hcs with rfl | rfl | rfl | rfl | rfl | rfl | rfl | rfl | rfl | rfl | rfl | rfl | rfl | rfl
    · have hrd := ready_at rfl hr
      clear hr
      simp [Region.binds] at hrd
      have hb0 : b 0 = false := by simp [hrd]
      clear hrd
      refine wpOp_step rfl (fun K hK => ?_)
      go_simp
      go_at_call 77
      refine (reps_any w').mono ?_
      rintro e w4 ⟨rfl, rfl⟩
      refine hK _ _ ?_
      exact ⟨upd b 0 true, base, (upd u 12 (.slice (some ⟨w'.heap.size, 0, none⟩) 3 3)), w'.heap.size, g2, rfl, rfl, ⟨(fun _ => rfl), R.c1, R.c2, (fun h => absurd (R.z3_0 h) (by rw [hb0]; decide)), R.c4, R.c5, R.c6, R.c7, R.c8, R.c9, R.c10, R.c11, R.c12, R.c13, (R.cg.alloc _), (fun _ => ⟨hl_new rfl, R.cg.size⟩), (fun h => ⟨hl_old (R.m6 h).1, (R.m6 h).2⟩), (fun _ => rfl), R.z9_6⟩⟩
    · have hrd := ready_at rfl hr
      clear hr
      simp [Region.binds] at hrd
      clear hrd
      refine wpOp_step rfl (fun K hK => ?_)
      go_simp
      refine hK _ _ ?_
      exact ⟨upd b 1 true, base, (upd u 13 (.pointer (some ⟨B, 1, none⟩))), g1, g2, rfl, rfl, ⟨R.c0, (fun _ => rfl), R.c2, R.c3, R.c4, R.c5, R.c6, R.c7, R.c8, R.c9, R.c10, R.c11, R.c12, R.c13, R.cg, R.m0, R.m6, R.z3_0, R.z9_6⟩⟩
    · have hrd := ready_at rfl hr
      clear hr
      simp [Region.binds] at hrd
      have h1 : b 1 = true := by simp [hrd]
      have e1 := R.c1 h1
      clear hrd
      have hld := R.cg.cell HB2.out (by simp)
      refine wpOp_step rfl (fun K hK => ?_)
      go_simp
      refine hK _ _ ?_
      exact ⟨upd b 2 true, base, (upd (upd u 13 (.pointer (some ⟨B, 1, none⟩))) 14 (.int .i64 (r : Int))), g1, g2, rfl, rfl, ⟨R.c0, (fun _ => rfl), (fun _ => rfl), R.c3, R.c4, R.c5, R.c6, R.c7, R.c8, R.c9, R.c10, R.c11, R.c12, R.c13, R.cg, R.m0, R.m6, R.z3_0, R.z9_6⟩⟩
    · have hrd := ready_at rfl hr
      clear hr
      simp [Region.binds] at hrd
      have h0 : b 0 = true := by simp [hrd]
      have e0 := R.c0 h0
      have h2 : b 2 = true := by simp [hrd]
      have e2 := R.c2 h2
      clear hrd
      refine wpOp_step rfl (fun K hK => ?_)
      go_simp
      refine hK _ _ ?_
      exact ⟨upd b 3 true, base, (upd (upd (upd u 12 (.slice (some ⟨g1, 0, none⟩) 3 3)) 14 (.int .i64 (r : Int))) 15 (.pointer (some ⟨g1, r, none⟩))), g1, g2, rfl, rfl, ⟨(fun _ => rfl), R.c1, (fun _ => rfl), (fun _ => rfl), R.c4, R.c5, R.c6, R.c7, R.c8, R.c9, R.c10, R.c11, R.c12, R.c13, R.cg, R.m0, R.m6, (fun _ => h0), R.z9_6⟩⟩
    · have hrd := ready_at rfl hr
      clear hr
      simp [Region.binds] at hrd
      have h3 : b 3 = true := by simp [hrd]
      have e3 := R.c3 h3
      clear hrd
      have hld := lit_heap (l := repsL) (R.m0 (R.z3_0 h3)).1 (by simp) hr3' HX.out
      refine wpOp_step rfl (fun K hK => ?_)
      go_simp
      refine hK _ _ ?_
      exact ⟨upd b 4 true, base, (upd (upd u 15 (.pointer (some ⟨g1, r, none⟩))) 16 (.string x)), g1, g2, rfl, rfl, ⟨R.c0, R.c1, R.c2, (fun _ => rfl), (fun _ => rfl), R.c5, R.c6, R.c7, R.c8, R.c9, R.c10, R.c11, R.c12, R.c13, R.cg, R.m0, R.m6, R.z3_0, R.z9_6⟩⟩
    · have hrd := ready_at rfl hr
      clear hr
      simp [Region.binds] at hrd
      have h4 : b 4 = true := by simp [hrd]
      have e4 := R.c4 h4
      clear hrd
      refine wpOp_step rfl (fun K hK => ?_)
      go_simp
      refine hK _ _ ?_
      exact ⟨upd b 5 true, base, (upd (upd u 16 (.string x)) 17 (.string (x ++ ({ data := #[32] } : ByteArray)))), g1, g2, rfl, rfl, ⟨R.c0, R.c1, R.c2, R.c3, (fun _ => rfl), (fun _ => rfl), R.c6, R.c7, R.c8, R.c9, R.c10, R.c11, R.c12, R.c13, R.cg, R.m0, R.m6, R.z3_0, R.z9_6⟩⟩
    · have hrd := ready_at rfl hr
      clear hr
      simp [Region.binds] at hrd
      have hb6 : b 6 = false := by simp [hrd]
      clear hrd
      refine wpOp_step rfl (fun K hK => ?_)
      go_simp
      go_at_call 78
      refine (kinds_any w').mono ?_
      rintro e w4 ⟨rfl, rfl⟩
      refine hK _ _ ?_
      exact ⟨upd b 6 true, base, (upd u 18 (.slice (some ⟨w'.heap.size, 0, none⟩) 5 5)), g1, w'.heap.size, rfl, rfl, ⟨R.c0, R.c1, R.c2, R.c3, R.c4, R.c5, (fun _ => rfl), R.c7, R.c8, (fun h => absurd (R.z9_6 h) (by rw [hb6]; decide)), R.c10, R.c11, R.c12, R.c13, (R.cg.alloc _), (fun h => ⟨hl_old (R.m0 h).1, (R.m0 h).2⟩), (fun _ => ⟨hl_new rfl, R.cg.size⟩), R.z3_0, (fun _ => rfl)⟩⟩
    · have hrd := ready_at rfl hr
      clear hr
      simp [Region.binds] at hrd
      clear hrd
      refine wpOp_step rfl (fun K hK => ?_)
      go_simp
      refine hK _ _ ?_
      exact ⟨upd b 7 true, base, (upd u 19 (.pointer (some ⟨B, 2, none⟩))), g1, g2, rfl, rfl, ⟨R.c0, R.c1, R.c2, R.c3, R.c4, R.c5, R.c6, (fun _ => rfl), R.c8, R.c9, R.c10, R.c11, R.c12, R.c13, R.cg, R.m0, R.m6, R.z3_0, R.z9_6⟩⟩
    · have hrd := ready_at rfl hr
      clear hr
      simp [Region.binds] at hrd
      have h7 : b 7 = true := by simp [hrd]
      have e7 := R.c7 h7
      clear hrd
      have hld := R.cg.cell HB3.out (by simp)
      refine wpOp_step rfl (fun K hK => ?_)
      go_simp
      refine hK _ _ ?_
      exact ⟨upd b 8 true, base, (upd (upd u 19 (.pointer (some ⟨B, 2, none⟩))) 20 (.int .i64 (k : Int))), g1, g2, rfl, rfl, ⟨R.c0, R.c1, R.c2, R.c3, R.c4, R.c5, R.c6, (fun _ => rfl), (fun _ => rfl), R.c9, R.c10, R.c11, R.c12, R.c13, R.cg, R.m0, R.m6, R.z3_0, R.z9_6⟩⟩
    · have hrd := ready_at rfl hr
      clear hr
      simp [Region.binds] at hrd
      have h6 : b 6 = true := by simp [hrd]
      have e6 := R.c6 h6
      have h8 : b 8 = true := by simp [hrd]
      have e8 := R.c8 h8
      clear hrd
      refine wpOp_step rfl (fun K hK => ?_)
      go_simp
      refine hK _ _ ?_
      exact ⟨upd b 9 true, base, (upd (upd (upd u 18 (.slice (some ⟨g2, 0, none⟩) 5 5)) 20 (.int .i64 (k : Int))) 21 (.pointer (some ⟨g2, k, none⟩))), g1, g2, rfl, rfl, ⟨R.c0, R.c1, R.c2, R.c3, R.c4, R.c5, (fun _ => rfl), R.c7, (fun _ => rfl), (fun _ => rfl), R.c10, R.c11, R.c12, R.c13, R.cg, R.m0, R.m6, R.z3_0, (fun _ => h6)⟩⟩
    · have hrd := ready_at rfl hr
      clear hr
      simp [Region.binds] at hrd
      have h9 : b 9 = true := by simp [hrd]
      have e9 := R.c9 h9
      clear hrd
      have hld := lit_heap (l := kindsL) (R.m6 (R.z9_6 h9)).1 (by simp) hk5' HY.out
      refine wpOp_step rfl (fun K hK => ?_)
      go_simp
      refine hK _ _ ?_
      exact ⟨upd b 10 true, base, (upd (upd u 21 (.pointer (some ⟨g2, k, none⟩))) 22 (.string y)), g1, g2, rfl, rfl, ⟨R.c0, R.c1, R.c2, R.c3, R.c4, R.c5, R.c6, R.c7, R.c8, (fun _ => rfl), (fun _ => rfl), R.c11, R.c12, R.c13, R.cg, R.m0, R.m6, R.z3_0, R.z9_6⟩⟩
    · have hrd := ready_at rfl hr
      clear hr
      simp [Region.binds] at hrd
      have h5 : b 5 = true := by simp [hrd]
      have e5 := R.c5 h5
      have h10 : b 10 = true := by simp [hrd]
      have e10 := R.c10 h10
      clear hrd
      refine wpOp_step rfl (fun K hK => ?_)
      go_simp
      refine hK _ _ ?_
      exact ⟨upd b 11 true, base, (upd (upd (upd u 17 (.string (x ++ ({ data := #[32] } : ByteArray)))) 22 (.string y)) 23 (.string (x ++ ({ data := #[32] } : ByteArray) ++ y))), g1, g2, rfl, rfl, ⟨R.c0, R.c1, R.c2, R.c3, R.c4, (fun _ => rfl), R.c6, R.c7, R.c8, R.c9, (fun _ => rfl), (fun _ => rfl), R.c12, R.c13, R.cg, R.m0, R.m6, R.z3_0, R.z9_6⟩⟩
    · have hrd := ready_at rfl hr
      clear hr
      simp [Region.binds] at hrd
      have h11 : b 11 = true := by simp [hrd]
      have e11 := R.c11 h11
      clear hrd
      refine wpOp_step rfl (fun K hK => ?_)
      go_simp
      refine hK _ _ ?_
      exact ⟨upd b 12 true, base, (upd (upd u 23 (.string (x ++ ({ data := #[32] } : ByteArray) ++ y))) 6 (.string (x ++ ({ data := #[32] } : ByteArray) ++ y))), g1, g2, rfl, rfl, ⟨R.c0, R.c1, R.c2, R.c3, R.c4, R.c5, R.c6, R.c7, R.c8, R.c9, R.c10, (fun _ => rfl), (fun _ => rfl), R.c13, R.cg, R.m0, R.m6, R.z3_0, R.z9_6⟩⟩
    · have hrd := ready_at rfl hr
      clear hr
      simp [Region.binds] at hrd
      clear hrd
      refine wpOp_step rfl (fun K hK => ?_)
      go_simp
      refine hK _ _ ?_
      exact ⟨upd b 13 true, base, (upd u 7 (.string { data := #[59] })), g1, g2, rfl, rfl, ⟨R.c0, R.c1, R.c2, R.c3, R.c4, R.c5, R.c6, R.c7, R.c8, R.c9, R.c10, R.c11, R.c12, (fun _ => rfl), R.cg, R.m0, R.m6, R.z3_0, R.z9_6⟩⟩
  obtain ⟨b, base, u, g1, g2, rfl, rfl, R⟩ := hI
  have hall := ready_all2 hr rfl (by kernel_rfl)
  have h12 : b 12 = true := Option.some.inj (hall 12 (by decide))
  have e12 := R.c12 h12
  have h13 : b 13 = true := Option.some.inj (hall 13 (by decide))
  have e13 := R.c13 h13
  have HCG := Lib.hid R.cg
  unfold FRB2
  rw [e12, e13]
  clear e12 e13
  clear R hr hall h12 h13
  have c1 := HCG.out.cell HB1.out (by simp)
  have c3 := HCG.out.cell HB3.out (by simp)
  have HCW := Lib.hid (HC.out.trans HCG.out (by simp))
  clear HCG
  by_cases hi0 : i = 0
  · have q1 : ((i : Int) == 0) = true := by simp [hi0]
    by_cases hk0 : k = 0
    · have q2 : ((k : Int) == 0) = true := by simp [hk0]
      have E := Lib.hid (show begS i f = wMsg ++ { data := #[32] } ++ f.n ++ { data := #[32, 123] } by unfold begS; rw [if_pos hi0, if_pos (by rw [HK.out, hk0]; rfl)])
      clear hi0 hk0
      go_wp2
      go_ret
      exact ⟨by rw [E.out]; rfl, HCW.out⟩
    · have q2 : ((k : Int) == 0) = false := by simp; omega
      have E := Lib.hid (show begS i f = wMsg ++ { data := #[32] } ++ f.n ++ { data := #[59] } by unfold begS; rw [if_pos hi0, if_neg (by rw [HK.out]; omega)])
      clear hi0 hk0
      go_wp2
      go_ret
      exact ⟨by rw [E.out]; rfl, HCW.out⟩
  · have q1 : ((i : Int) == 0) = false := by simp; omega
    by_cases hk0 : k = 0
    · have q2 : ((k : Int) == 0) = true := by simp [hk0]
      have E := Lib.hid (show begS i f = x ++ { data := #[32] } ++ y ++ { data := #[32] } ++ f.n ++ { data := #[32, 123] } by unfold begS; rw [if_neg hi0, if_pos (by rw [HK.out, hk0]; rfl), ← HX2.out, ← HY2.out])
      clear hi0 hk0
      go_wp2
      go_ret
      exact ⟨by rw [E.out]; rfl, HCW.out⟩
    · have q2 : ((k : Int) == 0) = false := by simp; omega
      have E := Lib.hid (show begS i f = x ++ { data := #[32] } ++ y ++ { data := #[32] } ++ f.n ++ { data := #[59] } by unfold begS; rw [if_neg hi0, if_neg (by rw [HK.out]; omega), ← HX2.out, ← HY2.out])
      clear hi0 hk0
      go_wp2
      go_ret
      exact ⟨by rw [E.out]; rfl, HCW.out⟩

theorem repeat_blk (d : Nat) : (⟨(Lib.repeatL ({ data := #[32, 32] } : ByteArray).data.toList d).toArray⟩ : ByteArray) = blkS d := by
  have h : ∀ d, Lib.repeatL [32, 32] d = (blkS d).data.toList := by
    intro d
    induction d with
    | zero => rfl
    | succ d ih =>
      have e : ∀ d, Lib.repeatL [32, 32] d ++ [32, 32] = [32, 32] ++ Lib.repeatL [32, 32] d := by
        intro d
        induction d with
        | zero => rfl
        | succ d ih => rw [Lib.repeatL, List.append_assoc, ih]
      rw [Lib.repeatL, ← e, ih, blkS]
      have h2 : (blkS d ++ ({ data := #[32, 32] } : ByteArray)).data = (blkS d).data ++ #[32, 32] := ByteArray.data_append
      rw [h2, Array.toList_append]
  apply ByteArray.ext
  show (Lib.repeatL [32, 32] d).toArray = _
  rw [h d]

set_option maxHeartbeats 400000 in
theorem line_any (d : Nat) (s : ByteArray) (w : World) (hd : d ≤ 1000) (hs : s.size ≤ 1000000) :
    Calls Try.prog 44 #[.int .i64 (d : Int), .string s] w fun e w' => e = .returned (.string (lineS d s)) ∧ Chg [] w w' := by
  have HR := Lib.hid (strings_Repeat { data := #[32, 32] } d w (by omega) (by show 2 * d ≤ _; omega))
  rw [repeat_blk d] at HR
  have z := blkS_size d
  go_enter Try.func44, Try.ntmps44
  go_wp2_with fail
  (with_reducible refine HR.out.mono ?_)
  rintro e w1 ⟨rfl, hk⟩
  have HK := Lib.hid (Below.chg hk)
  clear hk
  go_wp2
  go_ret
  exact ⟨rfl, HK.out⟩

/-- What a schema with its forest is. -/
structure SF (l : List F) (r : F) (fo : Fo) : Prop where
  eq : l = r :: fo.flat
  k : r.k = 0
  c : r.c = fo.num
  ok : fo.ok
  fine : ∀ f ∈ l, FFine f
  chk : Go.Proofs.Ytofnpcfclcfgfaa.chk l = 0
  len : l.length ≤ 40
  cb : ∀ f ∈ l, f.c ≤ 1000

theorem mkf_sf {ns : List Int} {r : F} {fo : Fo} (h : MkF ns r fo) : SF (mk ns) r fo :=
  ⟨h.eq, h.k, h.c, h.ok, fun f hf => by
    rw [h.eq] at hf
    rcases List.mem_cons.1 hf with rfl | hf
    · exact ⟨by rw [h.r0]; decide, by rw [h.k]; decide, h.nb, fun _ => h.c1⟩
    · exact h.fine f hf, mk_chk ns, by rw [h.eq]; have := h.len; simp; omega, fun f hf => by have := (mk_ok ns).c f hf; omega⟩

theorem SF.start {l : List F} {r : F} {fo : Fo} (h : SF l r fo) : PJ0 l (parents l) (txtR r fo) 0 (-1) 0 { data := #[] } [] (.group r fo .nil) := by
  have hp := parents_fo r fo h.k h.c h.ok
  refine ⟨by rw [h.eq]; simp [Fo.flat, Lvs.flat], ?_, ba_nil_l _, rfl, Nat.zero_le _, by decide, .inl ⟨rfl, rfl, rfl, r, fo, rfl, h.k, h.c, h.ok⟩⟩
  rw [h.eq, hp, ← parz_pars]
  simp [Fo.parz, Lvs.pars]

theorem builder_write (B b : Nat) (bs : List Value) (s : ByteArray) (w : World) (h : Lib.IsBuilder 75 5 B b bs w) (hlen : bs.length + s.size ≤ 140737488355328) (hBw : B ≤ w.heap.size) :
    Calls Try.prog 43 #[.pointer (some ⟨b, 0, none⟩), .string s] w fun e w' => e = .returned (.tuple #[.int .i64 s.size, .nilIface]) ∧ (Lib.BuilderAt 75 5 B b (.pointer (some ⟨b, 0, none⟩)) (bs ++ Lib.strCells s) w' ∧ Below B w w') :=
  Any.Builder_WriteString { lays105 with } Builder_Extra_105 B b bs s w h hlen hBw

theorem begS_size (i : Nat) (f : F) (h : FFine f) : (begS i f).size ≤ 100 := by
  have h1 := rep_size f h
  have h2 := kind_size f h
  have h3 := name_size h.n
  have h4 : wMsg.size = 7 := rfl
  unfold begS
  split <;> split <;> simp only [ByteArray.size_append, size_mk, List.size_toArray, List.length_cons, List.length_nil] <;> omega

theorem wp_scope_first {P : Program} {a : Act} {w : World} {Q : Exit → Act → World → Prop} {c rest : Code} (l : Nat) (J : Act → World → Prop) (m : Act → World → Nat) (hf : findLabel c l = some (.seq .skip rest))
    (pass : ∀ a w, J a w → rest.wp P (Exit.jump l (fun a' w' => J a' w' ∧ m a' w' < m a w) Q) a w)
    (first : (∀ a w, J a w → rest.wp P (Exit.jump l J Q) a w) → c.wp P (Exit.jump l J Q) a w) : (Code.scope c).wp P Q a w := by
  refine wp_scope_jumps l J m hf (first fun a w h => wp_mono (pass a w h) fun e a' w' h => ?_) fun a' w' h => wp_seq (wp_skip (pass a' w' h))
  cases e with
  | goto l' => exact ⟨h.1, h.2.1⟩
  | _ => exact h

abbrev PnF (s0 : Value) (n Bp b : Nat) (g : Int) (dep i : Nat) (u : Nat → Value) : Act :=
  { tmps := #[s0, undef, .string { data := #[] }, .slice (some ⟨Bp, 0, none⟩) n n, .pointer (some ⟨b, 0, none⟩), .int .i64 g, .int .i64 (dep : Int), .int .i64 (i : Int), u 8, u 9, u 10, u 11, u 12, u 13, u 14, u 15, u 16, u 17, u 18, u 19, u 20, u 21, u 22, u 23, u 24, u 25, u 26, u 27, u 28, u 29, u 30, u 31, u 32, u 33, u 34, u 35, u 36, u 37, u 38, u 39, u 40, u 41, u 42, u 43, u 44, u 45, u 46, u 47, u 48, u 49, u 50, u 51, u 52, u 53, u 54, u 55], defers := [] }
theorem PnF_of {s0 : Value} {n Bp b : Nat} {g : Int} {dep i : Nat} {a : Act} (h : a = PnF s0 n Bp b g dep i (fun j => a.tmps.getD j undef)) : ∃ u, a = PnF s0 n Bp b g dep i u := ⟨_, h⟩

theorem chg_below {w wx wy : World} {B : Nat} (h : Chg [] w wx) (hb : Below B wx wy) (hB : w.heap.size ≤ B) : Chg [] w wy :=
  ⟨hb.os.trans h.os, hb.tape.trans h.tape, hb.output.trans h.output, Nat.le_trans h.size hb.size, fun k hk hS => (hb.block k (by omega)).trans (h.block k hk hS)⟩

/-- How Print stands at its label. -/
structure PnJ (l : List F) (T : ByteArray) (w wx : World) (Bp b : Nat) (g : Int) (dep i : Nat) (out : ByteArray) (L : Lvs) (rem : Fo) : Prop where
  pj : PJ0 l (parents l) T i g dep out L rem
  bi : BlkI wx Bp (parents l)
  bu : Lib.IsBuilder 75 5 b b (Lib.strCells out) wx
  cg : Chg [] w wx
  lt : w.heap.size ≤ Bp ∧ Bp < b ∧ b ≤ wx.heap.size
  db : dep ≤ i

theorem PnJ.put {l : List F} {T : ByteArray} {w wx wy wz : World} {Bp b : Nat} {g g' : Int} {dep i dep' i' : Nat} {out s : ByteArray} {L L' : Lvs} {rem rem' : Fo} (h : PnJ l T w wx Bp b g dep i out L rem) (hc : Chg [] wx wy)
    (hb : Lib.BuilderAt 75 5 b b (.pointer (some ⟨b, 0, none⟩)) (Lib.strCells out ++ Lib.strCells s) wz) (hw : Below b wy wz) (hp : PJ0 l (parents l) T i' g' dep' (out ++ s) L' rem') (hd : dep' ≤ i') : PnJ l T w wz Bp b g' dep' i' (out ++ s) L' rem' := by
  have e : Lib.strCells (out ++ s) = Lib.strCells out ++ Lib.strCells s := by
    unfold Lib.strCells
    rw [← List.map_append, ← Array.toList_append]
    congr 1
    rw [ByteArray.data_append]
  refine ⟨hp, ?_, by rw [e]; exact .inr hb, chg_below (h.cg.trans hc (by simp)) hw (by have := h.lt; omega), ⟨h.lt.1, h.lt.2.1, Nat.le_trans h.lt.2.2 (Nat.le_trans hc.size hw.size)⟩, hd⟩
  have h1 := h.bi.chg hc (by simp)
  exact (hw.block Bp h.lt.2.1).trans h1

theorem builder_keep {T e B b : Nat} {bs : List Value} {w w' : World} (h : Lib.IsBuilder T e B b bs w) (hc : Chg [] w w') : Lib.IsBuilder T e B b bs w' := by
  rcases h with ⟨h1, v, h2, h3, h4⟩ | ⟨h1, v, h2, h3, h4⟩
  · exact .inl ⟨h1, v, hc.heap h2 (by simp), own_chg h3 hc (by simp), h4⟩
  · exact .inr ⟨h1, v, hc.heap h2 (by simp), own_chg h3 hc (by simp), h4⟩

set_option maxRecDepth 100000 in
set_option maxHeartbeats 4000000 in
theorem print_any (sl : Value) (l : List F) (r : F) (fo : Fo) (w : World) (hS : SeenF w sl l) (hF : SF l r fo) (hz : (txtR r fo).size ≤ 1000000) :
    Calls Try.prog 18 #[sl] w fun e w' => e = .returned (.string (txtR r fo)) ∧ Chg [] w w' := by
  obtain ⟨ao, cap, rfl, hc1, hc2⟩ := hS.shape
  have HS := Lib.hid hS; have HF := Lib.hid hF
  have hl := hF.len
  have HCK := Lib.hid (check_any _ l w hS (fun f hf => by have := hF.cb f hf; omega) (fun f hf => by have := name_size (hF.fine f hf).n; omega))
  rw [hF.chk] at HCK
  clear hS hF
  obtain ⟨n, hn⟩ : ∃ n, n = l.length := ⟨_, rfl⟩
  rw [← hn] at hc1 hl HS HCK ⊢
  have HN := Lib.hid hn
  clear hn
  have HSZ := Lib.hid hz
  obtain ⟨T, hT⟩ : ∃ T, T = txtR r fo := ⟨_, rfl⟩
  rw [← hT] at hz ⊢
  have HST := Lib.hid (show PJ0 l (parents l) T 0 (-1) 0 { data := #[] } [] (.group r fo .nil) by rw [hT]; exact HF.out.start)
  clear hT
  have HPL := Lib.hid (show (parents l).length = l.length from parents_length l)
  go_enter Try.func18, Try.ntmps18
  go_wp2_with fail
  refine wp_scope_first 0 (fun a' w' => ∃ (Bp b : Nat) (g : Int) (dep i : Nat) (out : ByteArray) (L : Lvs) (rem : Fo), (∃ u, a' = PnF (.slice ao n cap) n Bp b g dep i u) ∧ PnJ l T w w' Bp b g dep i out L rem)
    (fun a' _ => 2 * (n - (intOf (a'.tmps.getD 7 undef)).toNat) + (intOf (a'.tmps.getD 6 undef)).toNat) rfl ?_ ?_
  · rintro a' wx ⟨Bp, b, g, dep, i, out, L, rem, ⟨u, rfl⟩, hJ⟩
    unfold PnF
    have HJ := Lib.hid hJ
    have hos := hJ.pj.size
    have hil := hJ.pj.le
    have hbsz := hJ.lt
    rw [← HN.out] at hil
    rcases hJ.pj.next HPL.out with ⟨f, hf, hp, hgr, hlf⟩ | ⟨hne, hg0, hgn, hdp, g', hg', L', rem', hP⟩ | ⟨hi, hg, ho⟩
    · have hilt : i < n := by rw [HN.out]; exact (List.getElem?_eq_some_iff.1 hf).1
      have hdi := hJ.db
      have c0 := hJ.bi.cell hp
      have q0 : (g == g) = true := by simp
      have HFF := Lib.hid (HF.out.fine f (List.mem_of_getElem? hf))
      have hbs := begS_size i f HFF.out
      have hls : (lineS dep (begS i f)).size ≤ 3000 := by unfold lineS; simp only [ByteArray.size_append, blkS_size, size_mk, List.size_toArray, List.length_cons, List.length_nil]; omega
      have HB1 := Lib.hid (begin_any (.slice ao n cap) l i f wx (HS.out.keep hJ.cg) (by rw [← HN.out]; omega) hf HFF.out)
      have HLN := Lib.hid (fun wy => line_any dep (begS i f) wy (by omega) (by omega))
      have HFI := Lib.hid hf; have HGR := Lib.hid hgr; have HLF := Lib.hid hlf
      clear hJ hf hp hgr hlf
      go_wp2_with fail
      (with_reducible refine HB1.out.mono ?_)
      rintro e wa ⟨rfl, hka⟩
      have HKA := Lib.hid hka
      clear hka
      go_wp2_with fail
      (with_reducible refine (HLN.out _).mono ?_)
      rintro e wb ⟨rfl, hkb⟩
      have HKB := Lib.hid (HKA.out.trans hkb (by simp))
      clear hkb
      obtain ⟨S, hS⟩ : ∃ S, S = lineS dep (begS i f) := ⟨_, rfl⟩
      rw [← hS] at hls HGR HLF ⊢
      clear hS
      have HWR := Lib.hid (builder_write b b (Lib.strCells out) S wb (builder_keep HJ.out.bu HKB.out) (by rw [Lib.strCells_length]; omega) (Nat.le_trans hbsz.2.2 HKB.out.size))
      go_wp2_with fail
      (with_reducible refine HWR.out.mono ?_)
      rintro e wc ⟨rfl, hbu, hbl⟩
      have HBU := Lib.hid hbu; have HBL := Lib.hid hbl
      have HCC := Lib.hid (chg_below (HJ.out.cg.trans HKB.out (by simp)) hbl (by omega))
      clear hbu hbl
      obtain ⟨gs, off, rfl, hcs⟩ := SeenF.get (HS.out.keep HCC.out) (by omega) HN.out.symm
      obtain ⟨-, -, c3, -⟩ := hcs i hilt
      have hfd : l.getD i default = f := by rw [List.getD, HFI.out]; rfl
      rw [hfd] at c3
      clear hcs hfd
      by_cases hk0 : f.k = 0
      · obtain ⟨L', rem', hP⟩ := HGR.out hk0
        have HP := Lib.hid hP
        have q1 : (f.k == 0) = true := by simpa using hk0
        clear hP hk0
        go_wp2_with fail
        go_step3
        refine ⟨rfl, ⟨Bp, b, (i : Int), dep + 1, i + 1, out ++ S, L', rem', PnF_of rfl, HJ.out.put HKB.out HBU.out HBL.out HP.out (by omega)⟩, ?_⟩
        simp [intOf]; omega
      · obtain ⟨L', rem', hP⟩ := HLF.out hk0
        have HP := Lib.hid hP
        have q1 : (f.k == 0) = false := by simpa using hk0
        clear hP hk0
        go_wp2_with fail
        go_step3
        refine ⟨rfl, ⟨Bp, b, g, dep, i + 1, out ++ S, L', rem', PnF_of rfl, HJ.out.put HKB.out HBU.out HBL.out HP.out (by omega)⟩, ?_⟩
        simp [intOf]; omega
    · have hdi := hJ.db
      rw [← HN.out] at hgn
      have hgl : g.toNat < n := by omega
      have c1 : wx.cell? ⟨Bp, g.toNat, none⟩ = some (.int .i64 g') := hJ.bi.cell hg'
      have hg't : g = ((g.toNat : Nat) : Int) := by omega
      have q1 : (g != -1) = true := by simp; omega
      have hin : n ≤ i ∨ i < n ∧ ∃ x, wx.cell? ⟨Bp, i, none⟩ = some (.int .i64 x) ∧ (x == g) = false := by
        by_cases h : i < n
        · have hx : (parents l)[i]? = some ((parents l)[i]'(by rw [HPL.out, ← HN.out]; exact h)) := List.getElem?_eq_getElem _
          exact .inr ⟨h, _, hJ.bi.cell hx, by simpa using hne _ hx⟩
        · exact .inl (by omega)
      have HLN := Lib.hid (fun wy => line_any (dep - 1) { data := #[125] } wy (by omega) (by decide))
      have hls : (lineS (dep - 1) { data := #[125] }).size ≤ 3000 := by unfold lineS; simp only [ByteArray.size_append, blkS_size, size_mk, List.size_toArray, List.length_cons, List.length_nil]; omega
      obtain ⟨gn, hgnn⟩ : ∃ gn : Nat, g.toNat = gn := ⟨_, rfl⟩
      rw [hgnn] at c1 hgl hg't
      obtain rfl : g = (gn : Int) := hg't
      obtain ⟨dm, rfl⟩ : ∃ dm, dep = dm + 1 := ⟨dep - 1, by omega⟩
      rw [Nat.add_sub_cancel] at HLN hls hP
      have HP := Lib.hid hP
      clear hJ hne hg' hP hgnn hg0 hgn hdp
      obtain ⟨S, hS⟩ : ∃ S, S = lineS dm { data := #[125] } := ⟨_, rfl⟩
      rw [← hS] at hls HP HLN
      clear hS
      rcases hin with hin | ⟨hin, x, c0, q0⟩
      · have d0 : decide ((i : Int) < (n : Int)) = false := by simp; omega
        go_wp2_with fail
        (with_reducible refine (HLN.out _).mono ?_)
        rintro e wb ⟨rfl, hkb⟩
        have HKB := Lib.hid hkb
        clear hkb
        have HWR := Lib.hid (builder_write b b (Lib.strCells out) S wb (builder_keep HJ.out.bu HKB.out) (by rw [Lib.strCells_length]; omega) (Nat.le_trans hbsz.2.2 HKB.out.size))
        go_wp2_with fail
        (with_reducible refine HWR.out.mono ?_)
        rintro e wc ⟨rfl, hbu, hbl⟩
        have HBU := Lib.hid hbu; have HBL := Lib.hid hbl
        clear hbu hbl
        go_wp2_with fail
        go_step3
        refine ⟨rfl, ⟨Bp, b, g', dm, i, out ++ S, L', rem', PnF_of rfl, HJ.out.put HKB.out HBU.out HBL.out HP.out (by omega)⟩, ?_⟩
        simp [intOf]
      · go_wp2_with fail
        (with_reducible refine (HLN.out _).mono ?_)
        rintro e wb ⟨rfl, hkb⟩
        have HKB := Lib.hid hkb
        clear hkb
        have HWR := Lib.hid (builder_write b b (Lib.strCells out) S wb (builder_keep HJ.out.bu HKB.out) (by rw [Lib.strCells_length]; omega) (Nat.le_trans hbsz.2.2 HKB.out.size))
        go_wp2_with fail
        (with_reducible refine HWR.out.mono ?_)
        rintro e wc ⟨rfl, hbu, hbl⟩
        have HBU := Lib.hid hbu; have HBL := Lib.hid hbl
        clear hbu hbl
        go_wp2_with fail
        go_step3
        refine ⟨rfl, ⟨Bp, b, g', dm, i, out ++ S, L', rem', PnF_of rfl, HJ.out.put HKB.out HBU.out HBL.out HP.out (by omega)⟩, ?_⟩
        simp [intOf]
    · have hin : n = i := by rw [HN.out, hi]
      subst hg
      subst hin
      have q1 : ((-1 : Int) != -1) = false := by decide
      have HST2 := Lib.hid (Builder_String_any b b out.data.toList wx hJ.bu hbsz.2.2)
      have HO := Lib.hid ho
      clear hJ hi ho
      go_wp2_with fail
      (with_reducible refine HST2.out.mono ?_)
      rintro e wc ⟨rfl, hbl⟩
      have HBL := Lib.hid hbl
      clear hbl
      go_wp2
      simp only [Exit.jump]
      go_ret
      exact ⟨by rw [← HO.out]; rfl, chg_below HJ.out.cg HBL.out (by omega)⟩
  · intro hpass
    go_wp2_with fail
    (with_reducible refine HCK.out.mono ?_)
    rintro e w1 ⟨rfl, hk⟩
    have HK1 := Lib.hid hk
    clear hk
    go_wp2_with fail
    (with_reducible refine (parents_any _ l w1 (HS.out.keep HK1.out) (by rw [← HN.out]; omega) (fun f hf => by have := HF.out.cb f hf; omega)).mono ?_)
    rintro e w2 ⟨rfl, hbi, hk⟩
    rw [← HN.out]
    have HB := Lib.hid hbi
    have HK2 := Lib.hid (HK1.out.trans hk (by simp))
    have hlt1 := hbi.lt
    have hlt2 := HK1.out.size
    clear hbi hk
    go_wp2
    refine wp_label ?_
    rename_i hKK
    refine hKK _ _ (hpass _ _ ⟨w1.heap.size, w2.heap.size, -1, 0, 0, { data := #[] }, [], .group r fo .nil, PnF_of rfl, ?_⟩)
    exact ⟨HST.out, HB.out.chg ((Chg.refl [] w2).alloc _) (by simp), Lib.fresh_isBuilder _ _ _, HK2.out.alloc _, ⟨hlt2, hlt1, by simp⟩, Nat.le_refl _⟩

end Go.Proofs.Ytofnpcfclcfgfaa
