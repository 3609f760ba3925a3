/- wire's writer: number; a text's bytes. -/
import Derived.Test.YthhcnlmjcpkbnaaHk
import Derived.Test.YthhcnlmjcpkbnaaHc
import Derived.Test.YthhcnlmjcpkbnaaPut
import Derived.Lib.AppendStr
namespace Go.Proofs.Ythhcnlmjcpkbnaa
open Go.RowKit
set_option linter.unusedVariables false
set_option linter.unusedSimpArgs false

/-- The lowest bytes of a number. -/
def lw (k : Nat) (v : Int) : List Nat := (low k v).map Int.toNat
theorem lw_len (k : Nat) (v : Int) : (lw k v).length = k := by simp [lw, low_length]
theorem lw_zi (k : Nat) (v : Int) : zi (lw k v) = low k v := by
  have h := low_wf k v
  unfold zi lw
  rw [List.map_map]
  conv => rhs; rw [← List.map_id (low k v)]
  apply List.map_congr_left
  intro z hz
  have := (h z hz).1
  show ((z.toNat : Nat) : Int) = z
  omega
theorem lw_lt (k : Nat) (v : Int) : ∀ x ∈ lw k v, x < 256 := by
  intro x hx
  obtain ⟨z, hz, rfl⟩ := List.mem_map.1 hx
  have := low_wf k v z hz
  omega
theorem low_mod (k : Nat) (v : Int) (hk : k ≤ 8) : low k (v % 18446744073709551616) = low k v := by
  have h : k = 0 ∨ k = 1 ∨ k = 2 ∨ k = 3 ∨ k = 4 ∨ k = 5 ∨ k = 6 ∨ k = 7 ∨ k = 8 := by omega
  rcases h with rfl | rfl | rfl | rfl | rfl | rfl | rfl | rfl | rfl <;> simp only [low, List.cons.injEq, and_true] <;> (try (repeat (first | apply And.intro | omega)))
theorem widthOf_nat9 (n : Nat) (h : n ≤ 8) : widthOf (n : Int) = (n : Int) := widthOf_nat n h
theorem u64w (n : Int) : IntKind.u64.wrap n = n % 18446744073709551616 := by
  simp [IntKind.wrap, IntKind.bits, IntKind.signed]

set_option maxRecDepth 100000 in
set_option maxHeartbeats 4000000 in
theorem wnumber_any {w0 w : World} {gw B : Nat} {fv : Value} {fm out : List Nat} (k : Nat) (n : Int) (hk : 1 ≤ k ∧ k ≤ 8) (hn : -9223372036854775808 ≤ n ∧ n ≤ 9223372036854775807) (h : WW w0 w gw B fv fm out) (hl : out.length ≤ 100000000) :
    Calls Try.prog 129 #[.pointer (some ⟨gw, 0, none⟩), .int .i64 (k : Int), .int .i64 n] w fun e w' => e = .returned (.tuple #[]) ∧ WW w0 w' gw B fv fm (out ++ lw k n) := by
  obtain ⟨i0, hi, hz0, hz1, hz2⟩ := info_u8
  obtain ⟨bv, hb, ho⟩ := h.st
  obtain ⟨ba, bc, rfl⟩ := own_shape ho
  obtain ⟨c0, c1, f0, f1⟩ := cells2 hb
  have HB := Lib.hid hb; have HO := Lib.hid ho; have HW := Lib.hid h
  obtain ⟨u, hu⟩ : ∃ u, u = n % 18446744073709551616 := ⟨_, rfl⟩
  have hu0 : 0 ≤ u ∧ u ≤ 18446744073709551615 := by omega
  have hv : IntKind.u64.wrap n = u := by rw [hu]; exact u64w n
  have hvl := lw_len k n
  have HP := Lib.hid (show ∀ wx : World, Calls Try.prog 141 #[.slice none 0 0, .int .i64 (k : Int), .int .u64 u] wx fun e w' => ∃ x, e = .returned x ∧ Made 5 .u8 (lw k n) wx x w' from fun wx => by
    refine (cput_any (.slice none 0 0) [] (k : Int) u k wx hu0.1 hu0.2 (by decide) (widthOf_nat9 k hk.2) (Seen.nil wx)).mono ?_
    rintro e w' ⟨sv, rfl, hc, ho⟩
    refine ⟨sv, rfl, hc, ?_⟩
    rw [List.nil_append, hu, low_mod k n hk.2, ← lw_zi k n, bys_zi, List.length_nil, Nat.zero_add] at ho
    rw [lw_len]
    exact ho)
  obtain ⟨m, hm⟩ : ∃ m, m = out.length := ⟨_, rfl⟩
  rw [← hm] at hl HO HB c1
  have HM := Lib.hid hm
  have HGE := Lib.hid (show ∀ g, (Value.slice ba m bc).ownBlock = some g → B ≤ g from fun g hg => own_ge HO.out g hg)
  have HG1 := Lib.hid h.g1
  have HLB := Lib.hid h.lB
  clear h hb ho hm hu
  have HWS := Lib.hid (show ∀ w2, Chg [] w w2 → w2.cell? ⟨gw, 1, none⟩ = some (.slice ba m bc) ∧ w2.frozen? ⟨gw, 1, none⟩ = false from fun w2 hc => by
    obtain ⟨-, k1, -, k2⟩ := cells2 (hc.heap HB.out (by simp))
    exact ⟨k1, k2⟩)
  have HWT := Lib.hid (show ∀ w2 w3, Chg [] w w2 → Chg (Value.slice ba m bc).ownBlock.toList w2 w3 → w3.cell? ⟨gw, 1, none⟩ = some (.slice ba m bc) ∧ w3.frozen? ⟨gw, 1, none⟩ = false from fun w2 w3 hc hd => by
    obtain ⟨-, k1, -, k2⟩ := cells2 (hd.heap (hc.heap HB.out (by simp)) (fun hm => by simp at hm; have := HGE.out gw hm; have := HG1.out; omega))
    exact ⟨k1, k2⟩)
  have HONE := Lib.hid (nv_one .u8 (lw k n))
  have HM1 := Lib.hid (show m + (nv .u8 (lw k n)).length ≤ maxLen by rw [nv_length]; unfold maxLen; omega)
  have HM2 := Lib.hid (show (m + (nv .u8 (lw k n)).length) * 1 ≤ 140737488355328 by rw [nv_length]; omega)
  clear hvl
  go_enter Try.func129, Try.ntmps129
  go_upto_region 0 with fail
  go_region_law (first
    | (go_simp; go_at_call 141; (with_reducible refine (HP.out _).mono ?_); rintro e w2 ⟨x, rfl, hc2, ho2⟩; obtain ⟨xa, xc, rfl⟩ := own_shape ho2; have hcc : Chg [] w w2 := (by first | exact hc2 | exact ((Chg.refl [] w).drew).trans hc2 (by simp) | exact ((Chg.refl [] w).drewN _).trans hc2 (by simp)); obtain ⟨k1, k2⟩ := HWS.out w2 hcc; have HO2 := Lib.hid (own_chg HO.out hcc (by simp)); have HX2 := Lib.hid (reads_of_own ho2).seen; have HC2 := Lib.hid hcc; have HL2 := Lib.hid (Nat.le_trans HLB.out hcc.size); clear hc2 ho2 hcc)
    | (refine step_append_reads (by rfl) (.tmp 10) (.tmp 14) 67 67 (by rfl) B 5 5 i0 (.int .u8 0) 1 Try.underlying67 Try.underlying67 hi hz0 hz1 hz2 (by rfl) (.slice ba m bc) m (nv .u8 out) (by rfl) HO2.out (.slice xa (lw k n).length xc) (nv .u8 (lw k n)) (by rfl) HX2.out HONE.out HM1.out HM2.out HL2.out ?_; intro v3 w3 hown3 hgrow3; rw [nv_length] at hown3; obtain ⟨va, vc, rfl⟩ := own_shape hown3; have hcd : Chg (Value.slice ba m bc).ownBlock.toList w2 w3 := ((Chg.refl _ w2)).grown hgrow3 (fun g hg => .inl (by simp [hg])); obtain ⟨k3, k4⟩ := HWT.out w2 w3 HC2.out hcd; have HO3 := Lib.hid hown3; have HC3 := Lib.hid hcd; clear hown3 hgrow3 hcd))
  all_goals
    go_end0
    exact ⟨rfl, (HW.out.keep HC2.out).grow (HC2.out.heap HB.out (by simp)) HC3.out HGE.out HO3.out (by rw [← HM.out])⟩

/-- append(v, s...) of a text, in a drawn region. -/
theorem step_append_text {ops : Array Oper} {o : Oper} {a : Act} {w : World} {K : Act → World → Prop} {Q : Exit → Act → World → Prop} {E : Prop}
    (hg : o.guard = none) (s x : Operand) (hop : o.op = Op.call { callee := Callee.builtin Builtin.append, args := #[s, x], argTypes := #[67, 9] })
    (base : Nat) (v : Value) (n : Nat) (xs : List Value) (hs : a.eval s = v) (hown : w.ownsRow base 5 1 v n xs) (b : ByteArray) (hx : a.eval x = .string b) (hb : n + b.size ≤ 140737488355328) (hbase : base ≤ w.heap.size)
    (hK : ∀ v' w', w'.ownsRow base 5 1 v' (n + b.size) (xs ++ nv .u8 (bl b)) → w.grownBy w' v.ownBlock → K (a.put o.dst v') w') :
    if Region.wanted o (yielded ops a.tmps) = true then Oper.wp Try.prog o a w K Q else E := by
  have hw : Region.wanted o (yielded ops a.tmps) = true := by simp [Region.wanted, hg]
  rw [if_pos hw]
  obtain ⟨i0, hi, hz0, hz1, hz2⟩ := info_u8
  obtain ⟨v', w', hrun, r1, r2, -⟩ := Go.Lib.run_append_own_string (P := Try.prog) w base 67 9 o.type 5 i0 Try.underlying67 Try.underlying9 hi hz0 hz1 hz2 v n xs hown b (by unfold maxLen; omega) hb hbase
  have e : Go.Lib.strCells b = nv .u8 (bl b) := by
    simp [Go.Lib.strCells, nv, bl]
  rw [e] at r1
  unfold Oper.wp
  simp [execOp, hop, resolve, invoke, builtin, hs, hx, hrun, Result.andThen]
  exact hK v' w' r1 r2

end Go.Proofs.Ythhcnlmjcpkbnaa
