/- Hp, Hq, Hr, Hs, Ht: texts of one group, one behind the other. -/
import Derived.Test.YtkbfbiklnjldgaaA1
import Derived.Test.YtkbfbiklnjldgaaHE
import Derived.Test.YtkbfbiklnjldgaaHB
import Derived.Test.YtkbfbiklnjldgaaC1
import Derived.Lib.AppendStr
import Derived.Test.YtkbfbiklnjldgaaHC
import Derived.Test.YtkbfbiklnjldgaaYd
namespace Go.Proofs.Ytkbfbiklnjldgaa
open Go.RowKit
set_option linter.unusedVariables false
set_option linter.unusedSimpArgs false

/-- The lowest bytes of a number. -/
def lw (k : Nat) (v : Int) : List Nat := (low k v).map Int.toNat
theorem lw_len (k : Nat) (v : Int) : (lw k v).length = k := by simp [lw, low_length]
theorem lw_zi (k : Nat) (v : Int) : zi (lw k v) = low k v := by
  have h := low_wf k v
  unfold zi lw
  rw [List.map_map]
  conv => rhs; rw [← List.map_id (low k v)]
  apply List.map_congr_left
  intro z hz
  have := (h z hz).1
  show ((z.toNat : Nat) : Int) = z
  omega
theorem lw_lt (k : Nat) (v : Int) : ∀ x ∈ lw k v, x < 256 := by
  intro x hx
  obtain ⟨z, hz, rfl⟩ := List.mem_map.1 hx
  have := low_wf k v z hz
  omega
theorem low_mod (k : Nat) (v : Int) (hk : k ≤ 8) : low k (v % 18446744073709551616) = low k v := by
  have h : k = 0 ∨ k = 1 ∨ k = 2 ∨ k = 3 ∨ k = 4 ∨ k = 5 ∨ k = 6 ∨ k = 7 ∨ k = 8 := by omega
  rcases h with rfl | rfl | rfl | rfl | rfl | rfl | rfl | rfl | rfl <;> simp only [low, List.cons.injEq, and_true] <;> (try (repeat (first | apply And.intro | omega)))
theorem widthOf_nat9 (n : Nat) (h : n ≤ 8) : widthOf (n : Int) = (n : Int) := widthOf_nat n h
theorem u64w (n : Int) : IntKind.u64.wrap n = n % 18446744073709551616 := by
  simp [IntKind.wrap, IntKind.bits, IntKind.signed]

set_option maxRecDepth 100000 in
set_option maxHeartbeats 4000000 in
theorem wnumber_any {w0 w : World} {gw B : Nat} {fv : Value} {fm out : List Nat} (k : Nat) (n : Int) (hk : 1 ≤ k ∧ k ≤ 8) (hn : -9223372036854775808 ≤ n ∧ n ≤ 9223372036854775807) (h : WW w0 w gw B fv fm out) (hl : out.length ≤ 100000000) :
    Calls Try.prog 67 #[.pointer (some ⟨gw, 0, none⟩), .int .i64 (k : Int), .int .i64 n] w fun e w' => e = .returned (.tuple #[]) ∧ WW w0 w' gw B fv fm (out ++ lw k n) := by
  obtain ⟨i0, hi, hz0, hz1, hz2⟩ := info_u8
  obtain ⟨bv, hb, ho⟩ := h.st
  obtain ⟨ba, bc, rfl⟩ := own_shape ho
  obtain ⟨c0, c1, f0, f1⟩ := cells2 hb
  have HB := Lib.hid hb; have HO := Lib.hid ho; have HW := Lib.hid h
  obtain ⟨u, hu⟩ : ∃ u, u = n % 18446744073709551616 := ⟨_, rfl⟩
  have hu0 : 0 ≤ u ∧ u ≤ 18446744073709551615 := by omega
  have hv : IntKind.u64.wrap n = u := by rw [hu]; exact u64w n
  have hvl := lw_len k n
  have HP := Lib.hid (show ∀ wx : World, Calls Try.prog 85 #[.slice none 0 0, .int .i64 (k : Int), .int .u64 u] wx fun e w' => ∃ x, e = .returned x ∧ Made 5 .u8 (lw k n) wx x w' from fun wx => by
    refine (cput_any (.slice none 0 0) [] (k : Int) u k wx hu0.1 hu0.2 (by decide) (widthOf_nat9 k hk.2) (Seen.nil wx)).mono ?_
    rintro e w' ⟨sv, rfl, hc, ho⟩
    refine ⟨sv, rfl, hc, ?_⟩
    rw [List.nil_append, hu, low_mod k n hk.2, ← lw_zi k n, bys_zi, List.length_nil, Nat.zero_add] at ho
    rw [lw_len]
    exact ho)
  obtain ⟨m, hm⟩ : ∃ m, m = out.length := ⟨_, rfl⟩
  rw [← hm] at hl HO HB c1
  have HM := Lib.hid hm
  have HGE := Lib.hid (show ∀ g, (Value.slice ba m bc).ownBlock = some g → B ≤ g from fun g hg => own_ge HO.out g hg)
  have HG1 := Lib.hid h.g1
  have HLB := Lib.hid h.lB
  clear h hb ho hm hu
  have HWS := Lib.hid (show ∀ w2, Chg [] w w2 → w2.cell? ⟨gw, 1, none⟩ = some (.slice ba m bc) ∧ w2.frozen? ⟨gw, 1, none⟩ = false from fun w2 hc => by
    obtain ⟨-, k1, -, k2⟩ := cells2 (hc.heap HB.out (by simp))
    exact ⟨k1, k2⟩)
  have HWT := Lib.hid (show ∀ w2 w3, Chg [] w w2 → Chg (Value.slice ba m bc).ownBlock.toList w2 w3 → w3.cell? ⟨gw, 1, none⟩ = some (.slice ba m bc) ∧ w3.frozen? ⟨gw, 1, none⟩ = false from fun w2 w3 hc hd => by
    obtain ⟨-, k1, -, k2⟩ := cells2 (hd.heap (hc.heap HB.out (by simp)) (fun hm => by simp at hm; have := HGE.out gw hm; have := HG1.out; omega))
    exact ⟨k1, k2⟩)
  have HONE := Lib.hid (nv_one .u8 (lw k n))
  have HM1 := Lib.hid (show m + (nv .u8 (lw k n)).length ≤ maxLen by rw [nv_length]; unfold maxLen; omega)
  have HM2 := Lib.hid (show (m + (nv .u8 (lw k n)).length) * 1 ≤ 140737488355328 by rw [nv_length]; omega)
  clear hvl
  go_enter Try.func67, Try.ntmps67
  go_upto_region 0 with fail
  go_region_law (first
    | (go_simp; go_at_call 85; (with_reducible refine (HP.out _).mono ?_); rintro e w2 ⟨x, rfl, hc2, ho2⟩; obtain ⟨xa, xc, rfl⟩ := own_shape ho2; have hcc : Chg [] w w2 := (by first | exact hc2 | exact ((Chg.refl [] w).drew).trans hc2 (by simp) | exact ((Chg.refl [] w).drewN _).trans hc2 (by simp)); obtain ⟨k1, k2⟩ := HWS.out w2 hcc; have HO2 := Lib.hid (own_chg HO.out hcc (by simp)); have HX2 := Lib.hid (reads_of_own ho2).seen; have HC2 := Lib.hid hcc; have HL2 := Lib.hid (Nat.le_trans HLB.out hcc.size); clear hc2 ho2 hcc)
    | (refine step_append_reads (by rfl) (.tmp 10) (.tmp 14) 30 30 (by rfl) B 5 5 i0 (.int .u8 0) 1 Try.underlying30 Try.underlying30 hi hz0 hz1 hz2 (by rfl) (.slice ba m bc) m (nv .u8 out) (by rfl) HO2.out (.slice xa (lw k n).length xc) (nv .u8 (lw k n)) (by rfl) HX2.out HONE.out HM1.out HM2.out HL2.out ?_; intro v3 w3 hown3 hgrow3; rw [nv_length] at hown3; obtain ⟨va, vc, rfl⟩ := own_shape hown3; have hcd : Chg (Value.slice ba m bc).ownBlock.toList w2 w3 := ((Chg.refl _ w2)).grown hgrow3 (fun g hg => .inl (by simp [hg])); obtain ⟨k3, k4⟩ := HWT.out w2 w3 HC2.out hcd; have HO3 := Lib.hid hown3; have HC3 := Lib.hid hcd; clear hown3 hgrow3 hcd))
  all_goals
    go_end0
    exact ⟨rfl, (HW.out.keep HC2.out).grow (HC2.out.heap HB.out (by simp)) HC3.out HGE.out HO3.out (by rw [← HM.out])⟩

end Go.Proofs.Ytkbfbiklnjldgaa

namespace Go.Proofs.Ytkbfbiklnjldgaa
open Go.RowKit
set_option linter.unusedVariables false
set_option linter.unusedSimpArgs false

/-- What is asked of the writer's value, at a place. -/
def WVC (w0 : World) (gw B : Nat) (fv : Value) (fm : List Nat) (d at0 : Nat) (g : Tr → List Nat) (ok : Tr → Prop) : Prop :=
  ∀ (w : World) (out : List Nat) (t : Tr) (kv : Value), WW w0 w gw B fv fm out → KidsAt w0 d t.k kv → ok t → out.length + (g t).length ≤ 100000000 →
    Calls Try.prog 40 #[.pointer (some ⟨gw, 0, none⟩), .int .i64 (at0 : Int), .agg #[.int .i64 t.n, .string t.s, kv]] w fun e w' => e = .returned (.tuple #[]) ∧ WW w0 w' gw B fv fm (out ++ g t)

theorem take_flat (g : Tr → List Nat) (l : List Tr) (j : Nat) (t : Tr) (h : l[j]? = some t) : (l.take (j + 1)).flatMap g = (l.take j).flatMap g ++ g t := by
  rw [List.take_add_one, h]
  simp

theorem take_flat_le (g : Tr → List Nat) (l : List Tr) (j : Nat) : ((l.take j).flatMap g).length ≤ (l.flatMap g).length := by
  conv => rhs; rw [← List.take_append_drop j l]
  rw [List.flatMap_append, List.length_append]
  omega

set_option maxRecDepth 100000 in
set_option maxHeartbeats 4000000 in
theorem wvalues_any {w0 : World} {gw B : Nat} {fv : Value} {fm : List Nat} {d at0 : Nat} {g : Tr → List Nat} {ok : Tr → Prop} (hV : WVC w0 gw B fv fm d at0 g ok) (w : World) (out : List Nat) (l : List Tr) (lv : Value) (hW : WW w0 w gw B fv fm out) (hL : ListAt w0 d l lv) (hok : ∀ x ∈ l, ok x) (hb : out.length + (l.flatMap g).length ≤ 100000000) :
    Calls Try.prog 20 #[.pointer (some ⟨gw, 0, none⟩), .int .i64 (at0 : Int), lv] w fun e w' => e = .returned (.tuple #[]) ∧ WW w0 w' gw B fv fm (out ++ l.flatMap g) := by
  obtain ⟨lo, lc, rfl, hl1, hl2⟩ := hL.shape
  obtain ⟨n, hn⟩ : ∃ n, n = l.length := ⟨_, rfl⟩
  rw [← hn] at hL hl1 ⊢
  have HV := Lib.hid hV; have HW := Lib.hid hW; have HL := Lib.hid hL; have HOK := Lib.hid hok; have HN := Lib.hid hn; have HB := Lib.hid hb
  have hnx : n ≤ 9223372036854775807 := by unfold maxLen at hl2; omega
  clear hV hW hL hok hn hb
  go_enter Try.func20, Try.ntmps20
  go_wp2
  go_loopw [10] (fun x w' => ∃ j : Nat, x = .int .i64 (j : Int) ∧ j ≤ n ∧ WW w0 w' gw B fv fm (out ++ (l.take j).flatMap g)) (fun x _ => n - (intOf x).toNat)
  case atStart => exact ⟨0, rfl, Nat.zero_le _, by simpa using HW.out⟩
  case round =>
    obtain ⟨j, rfl, hj, hw⟩ := hrel
    have HWJ := Lib.hid hw
    clear hw
    by_cases hlt : j < n
    · have hd : decide ((j : Int) < (n : Int)) = true := by simp; omega
      obtain ⟨t, ht⟩ : ∃ t, l[j]? = some t := ⟨_, List.getElem?_eq_getElem (by rw [← HN.out]; exact hlt)⟩
      obtain ⟨gl, off, rfl, hcs⟩ := HL.out.get (by omega)
      obtain ⟨kv, c0, c1, c2, hk⟩ := hcs j t ht
      have hc := HWJ.out.c0
      have b0 := hc.cell c0 (by simp)
      have b1 := hc.cell c1 (by simp)
      have b2 := hc.cell c2 (by simp)
      obtain ⟨ko, kc, rfl, -, -⟩ := hk.shape
      have HT := Lib.hid (take_flat g l j t ht)
      have hle := take_flat_le g l (j + 1)
      rw [take_flat g l j t ht, List.length_append] at hle
      have HC := Lib.hid (HV.out _ _ t (.slice ko t.k.length kc) (HWJ.out.keep ((Chg.refl [] wr).alloc (.cells #[.int .i64 t.n, .string t.s, .slice ko t.k.length kc] 44))) hk (HOK.out t (List.mem_of_getElem? ht)) (by have := HB.out; rw [List.length_append]; omega))
      clear hcs c0 c1 c2 hk hc ht hle
      go_wp2_with fail
      (with_reducible refine HC.out.mono ?_)
      rintro e w2 ⟨rfl, hw2⟩
      have HW2 := Lib.hid hw2
      clear hw2
      go_wp2
      go_roundw
      case rel => exact ⟨j + 1, by go_num, hlt, by have := HW2.out; rw [List.append_assoc, ← HT.out] at this; exact this⟩
      case measure => simp [intOf]; omega
    · have hd : decide ((j : Int) < (n : Int)) = false := by simp; omega
      have E := Lib.hid (show (l.take j).flatMap g = l.flatMap g by rw [List.take_of_length_le (by rw [← HN.out]; omega)])
      go_wp2
      go_end0
      exact ⟨rfl, by have := HWJ.out; rw [E.out] at this; exact this⟩

end Go.Proofs.Ytkbfbiklnjldgaa

namespace Go.Proofs.Ytkbfbiklnjldgaa
open Go.RowKit
set_option linter.unusedVariables false
set_option linter.unusedSimpArgs false

/-- A leaf's bytes. -/
def wLeaf (k : Int) (t : Tr) : List Nat := if k = 1 then lw 1 t.n else if k = 2 then lw 4 t.n else if k = 3 then lw 8 t.n else vb t.s.size ++ bl t.s
/-- What a leaf's value must be to be written. -/
def okLeaf (t : Tr) : Prop := (-9223372036854775808 ≤ t.n ∧ t.n ≤ 9223372036854775807) ∧ t.s.size ≤ 1000000

theorem WW.sign {w0 w : World} {gw B : Nat} {ao : Option Addr} {n cap : Nat} {fm out : List Nat} (h : WW w0 w gw B (.slice ao n cap) fm out) (hn : n = fm.length) {at0 : Nat} (hat : at0 < n) : ∃ g off, ao = some ⟨g, off, none⟩ ∧ ∀ w', Chg [] w0 w' → ∀ j, j < n → w'.cell? ⟨g, off + j, none⟩ = some (.int .i32 ((fm.getD j 0 : Nat) : Int)) := by
  obtain ⟨g, off, rfl, hx⟩ := h.fs.at0 hn.symm (by omega)
  exact ⟨g, off, rfl, fun w' hc j hj => hc.cell (hx j hj) (by simp)⟩

theorem WW.cells {w0 w : World} {gw B : Nat} {fv : Value} {fm out : List Nat} (h : WW w0 w gw B fv fm out) : w.cell? ⟨gw, 0, none⟩ = some fv := by
  obtain ⟨bv, hb, -⟩ := h.st
  exact (cells2 hb).1

/-- Other blocks than the writer's and its row's are as they were. -/
def WKeep (gw : Nat) (w w' : World) : Prop := ∀ (g : Nat) (o : Obj), w.heap[g]? = some o → g ≠ gw → (∀ bv, w.cell? ⟨gw, 1, none⟩ = some bv → bv.ownBlock ≠ some g) → w'.heap[g]? = some o

set_option maxRecDepth 100000 in
set_option maxHeartbeats 4000000 in
theorem wcount_keep {w0 w : World} {gw B : Nat} {fv : Value} {fm out : List Nat} (n : Nat) (hn : n < 9223372036854775808) (h : WW w0 w gw B fv fm out) (hl : out.length ≤ 100000000) :
    Calls Try.prog 19 #[.pointer (some ⟨gw, 0, none⟩), .int .i64 (n : Int)] w fun e w' => e = .returned (.tuple #[]) ∧ WW w0 w' gw B fv fm (out ++ vb n) ∧ WKeep gw w w' := by
  obtain ⟨i0, hi, hz0, hz1, hz2⟩ := info_u8
  obtain ⟨bv, hb, ho⟩ := h.st
  obtain ⟨ba, bc, rfl⟩ := own_shape ho
  obtain ⟨c0, c1, f0, f1⟩ := cells2 hb
  have HB := Lib.hid hb; have HO := Lib.hid ho; have HW := Lib.hid h; have HCL := Lib.hid c1
  have hv : IntKind.u64.wrap (n : Int) = (n : Int) := wraps64 _ (by omega) (by omega)
  have hvl := (vb_len64 (v := n) (by omega)).2
  have HP := Lib.hid (fun (wx : World) => put_any (.slice none 0 0) [] n wx (Seen.nil wx) (by decide) (by omega))
  obtain ⟨m, hm⟩ : ∃ m, m = out.length := ⟨_, rfl⟩
  rw [← hm] at hl HO HB c1 HCL
  have HM := Lib.hid hm
  have HGE := Lib.hid (show ∀ g, (Value.slice ba m bc).ownBlock = some g → B ≤ g from fun g hg => own_ge HO.out g hg)
  have HG1 := Lib.hid h.g1
  have HLB := Lib.hid h.lB
  clear h hb ho hm
  have HWS := Lib.hid (show ∀ w2, Chg [] w w2 → w2.cell? ⟨gw, 1, none⟩ = some (.slice ba m bc) ∧ w2.frozen? ⟨gw, 1, none⟩ = false from fun w2 hc => by
    obtain ⟨-, k1, -, k2⟩ := cells2 (hc.heap HB.out (by simp))
    exact ⟨k1, k2⟩)
  have HWT := Lib.hid (show ∀ w2 w3, Chg [] w w2 → Chg (Value.slice ba m bc).ownBlock.toList w2 w3 → w3.cell? ⟨gw, 1, none⟩ = some (.slice ba m bc) ∧ w3.frozen? ⟨gw, 1, none⟩ = false from fun w2 w3 hc hd => by
    obtain ⟨-, k1, -, k2⟩ := cells2 (hd.heap (hc.heap HB.out (by simp)) (fun hm => by simp at hm; have := HGE.out gw hm; have := HG1.out; omega))
    exact ⟨k1, k2⟩)
  have HONE := Lib.hid (nv_one .u8 (vb n))
  have HM1 := Lib.hid (show m + (nv .u8 (vb n)).length ≤ maxLen by rw [nv_length]; unfold maxLen; omega)
  have HM2 := Lib.hid (show (m + (nv .u8 (vb n)).length) * 1 ≤ 140737488355328 by rw [nv_length]; omega)
  go_enter Try.func19, Try.ntmps19
  go_upto_region 0 with fail
  go_region_law (first
    | (go_simp; go_at_call 39; (with_reducible refine (HP.out _).mono ?_); rintro e w2 ⟨x, rfl, hc2, ho2⟩; obtain ⟨xa, xc, rfl⟩ := own_shape ho2; rw [List.nil_append] at ho2 ⊢; have hcc : Chg [] w w2 := (by first | exact hc2 | exact ((Chg.refl [] w).drew).trans hc2 (by simp) | exact ((Chg.refl [] w).drewN _).trans hc2 (by simp)); obtain ⟨k1, k2⟩ := HWS.out w2 hcc; have HO2 := Lib.hid (own_chg HO.out hcc (by simp)); have HX2 := Lib.hid (reads_of_own ho2).seen; have HC2 := Lib.hid hcc; have HL2 := Lib.hid (Nat.le_trans HLB.out hcc.size); clear hc2 ho2 hcc)
    | (refine step_append_reads (by rfl) (.tmp 8) (.tmp 11) 30 30 (by rfl) B 5 5 i0 (.int .u8 0) 1 Try.underlying30 Try.underlying30 hi hz0 hz1 hz2 (by rfl) (.slice ba m bc) m (nv .u8 out) (by rfl) HO2.out (.slice xa (vb n).length xc) (nv .u8 (vb n)) (by rfl) HX2.out HONE.out HM1.out HM2.out HL2.out ?_; intro v3 w3 hown3 hgrow3; rw [nv_length] at hown3; obtain ⟨va, vc, rfl⟩ := own_shape hown3; have hcd : Chg (Value.slice ba m bc).ownBlock.toList w2 w3 := ((Chg.refl _ w2)).grown hgrow3 (fun g hg => .inl (by simp [hg])); obtain ⟨k3, k4⟩ := HWT.out w2 w3 HC2.out hcd; have HO3 := Lib.hid hown3; have HC3 := Lib.hid hcd; clear hown3 hgrow3 hcd))
  all_goals
    go_end0
    refine ⟨rfl, (HW.out.keep HC2.out).grow (HC2.out.heap HB.out (by simp)) HC3.out HGE.out HO3.out (by rw [← HM.out]), fun g o hg hne hbb => ?_⟩
    have hr := hbb _ HCL.out
    exact ((Chg.refl [gw] w3).setCell (p := ⟨gw, 1, none⟩) (by simp) _).heap (HC3.out.heap (HC2.out.heap hg (by simp)) (fun hm => hr (by simpa using hm))) (by simpa using hne)

set_option maxRecDepth 100000 in
set_option maxHeartbeats 4000000 in
theorem wvalue_leaf_1 {w0 : World} {gw B : Nat} {fv : Value} {fm : List Nat} {d at0 : Nat} (hat : at0 < fm.length) (hfm : fm.length ≤ 100000) (hs : fm.getD at0 0 = kd 1) : WVC w0 gw B fv fm d at0 (wLeaf 1) okLeaf := by
  intro w out t kv hW hK hok hb
  obtain ⟨ko, kc, rfl, -, -⟩ := hK.shape
  obtain ⟨ao, cap, rfl, hc1, hc2⟩ := hW.fs.shape
  rw [nv_length] at hc1 hW
  rw [nv_length]
  obtain ⟨n, hn⟩ : ∃ n, n = fm.length := ⟨_, rfl⟩
  rw [← hn] at hc1 hW hat hfm ⊢
  obtain ⟨g, off, rfl, hsg⟩ := hW.sign hn hat
  have HW1 := Lib.hid (hW.keep ((Chg.refl [] w).alloc (.cells #[.int .i64 t.n, .string t.s, .slice ko t.k.length kc] 44)))
  have p0 := HW1.out.cells
  have hx := hsg _ HW1.out.c0 at0 hat
  rw [hs, show kd 1 = 98 from rfl, show ((98 : Nat) : Int) = 98 from rfl] at hx
  obtain ⟨hok1, hok2⟩ := hok
  have HN := Lib.hid hn
  have E := Lib.hid (show wLeaf 1 t = lw 1 t.n by unfold wLeaf; rw [if_pos rfl])
  have HT := Lib.hid (wnumber_any 1 t.n (by decide) hok1 HW1.out (by omega))
  rw [show ((1 : Nat) : Int) = 1 from rfl] at HT
  clear hW hK hb hsg hs hn hok1 hok2
  go_enter Try.func40, Try.ntmps40
  go_wp2_with (first
    | (go_at_call 67; (with_reducible refine HT.out.mono ?_); rintro e w2 ⟨rfl, hw2⟩; have HW2 := Lib.hid hw2; clear hw2)
    | fail)
  go_end0
  rw [E.out]
  exact ⟨rfl, HW2.out⟩

set_option maxRecDepth 100000 in
set_option maxHeartbeats 4000000 in
theorem wvalue_leaf_2 {w0 : World} {gw B : Nat} {fv : Value} {fm : List Nat} {d at0 : Nat} (hat : at0 < fm.length) (hfm : fm.length ≤ 100000) (hs : fm.getD at0 0 = kd 2) : WVC w0 gw B fv fm d at0 (wLeaf 2) okLeaf := by
  intro w out t kv hW hK hok hb
  obtain ⟨ko, kc, rfl, -, -⟩ := hK.shape
  obtain ⟨ao, cap, rfl, hc1, hc2⟩ := hW.fs.shape
  rw [nv_length] at hc1 hW
  rw [nv_length]
  obtain ⟨n, hn⟩ : ∃ n, n = fm.length := ⟨_, rfl⟩
  rw [← hn] at hc1 hW hat hfm ⊢
  obtain ⟨g, off, rfl, hsg⟩ := hW.sign hn hat
  have HW1 := Lib.hid (hW.keep ((Chg.refl [] w).alloc (.cells #[.int .i64 t.n, .string t.s, .slice ko t.k.length kc] 44)))
  have p0 := HW1.out.cells
  have hx := hsg _ HW1.out.c0 at0 hat
  rw [hs, show kd 2 = 105 from rfl, show ((105 : Nat) : Int) = 105 from rfl] at hx
  obtain ⟨hok1, hok2⟩ := hok
  have HN := Lib.hid hn
  have E := Lib.hid (show wLeaf 2 t = lw 4 t.n by unfold wLeaf; rw [if_neg (by decide), if_pos rfl])
  have HT := Lib.hid (wnumber_any 4 t.n (by decide) hok1 HW1.out (by omega))
  rw [show ((4 : Nat) : Int) = 4 from rfl] at HT
  clear hW hK hb hsg hs hn hok1 hok2
  go_enter Try.func40, Try.ntmps40
  go_wp2_with (first
    | (go_at_call 67; (with_reducible refine HT.out.mono ?_); rintro e w2 ⟨rfl, hw2⟩; have HW2 := Lib.hid hw2; clear hw2)
    | fail)
  go_end0
  rw [E.out]
  exact ⟨rfl, HW2.out⟩

set_option maxRecDepth 100000 in
set_option maxHeartbeats 4000000 in
theorem wvalue_leaf_3 {w0 : World} {gw B : Nat} {fv : Value} {fm : List Nat} {d at0 : Nat} (hat : at0 < fm.length) (hfm : fm.length ≤ 100000) (hs : fm.getD at0 0 = kd 3) : WVC w0 gw B fv fm d at0 (wLeaf 3) okLeaf := by
  intro w out t kv hW hK hok hb
  obtain ⟨ko, kc, rfl, -, -⟩ := hK.shape
  obtain ⟨ao, cap, rfl, hc1, hc2⟩ := hW.fs.shape
  rw [nv_length] at hc1 hW
  rw [nv_length]
  obtain ⟨n, hn⟩ : ∃ n, n = fm.length := ⟨_, rfl⟩
  rw [← hn] at hc1 hW hat hfm ⊢
  obtain ⟨g, off, rfl, hsg⟩ := hW.sign hn hat
  have HW1 := Lib.hid (hW.keep ((Chg.refl [] w).alloc (.cells #[.int .i64 t.n, .string t.s, .slice ko t.k.length kc] 44)))
  have p0 := HW1.out.cells
  have hx := hsg _ HW1.out.c0 at0 hat
  rw [hs, show kd 3 = 108 from rfl, show ((108 : Nat) : Int) = 108 from rfl] at hx
  obtain ⟨hok1, hok2⟩ := hok
  have HN := Lib.hid hn
  have E := Lib.hid (show wLeaf 3 t = lw 8 t.n by unfold wLeaf; rw [if_neg (by decide), if_neg (by decide), if_pos rfl])
  have HT := Lib.hid (wnumber_any 8 t.n (by decide) hok1 HW1.out (by omega))
  rw [show ((8 : Nat) : Int) = 8 from rfl] at HT
  clear hW hK hb hsg hs hn hok1 hok2
  go_enter Try.func40, Try.ntmps40
  go_wp2_with (first
    | (go_at_call 67; (with_reducible refine HT.out.mono ?_); rintro e w2 ⟨rfl, hw2⟩; have HW2 := Lib.hid hw2; clear hw2)
    | fail)
  go_end0
  rw [E.out]
  exact ⟨rfl, HW2.out⟩

set_option maxRecDepth 100000 in
set_option maxHeartbeats 4000000 in
theorem wvalue_leaf_4 {w0 : World} {gw B : Nat} {fv : Value} {fm : List Nat} {d at0 : Nat} (hat : at0 < fm.length) (hfm : fm.length ≤ 100000) (hs : fm.getD at0 0 = kd 4) : WVC w0 gw B fv fm d at0 (wLeaf 4) okLeaf := by
  intro w out t kv hW hK hok hb
  obtain ⟨ko, kc, rfl, -, -⟩ := hK.shape
  obtain ⟨ao, cap, rfl, hc1, hc2⟩ := hW.fs.shape
  rw [nv_length] at hc1 hW
  rw [nv_length]
  obtain ⟨n, hn⟩ : ∃ n, n = fm.length := ⟨_, rfl⟩
  rw [← hn] at hc1 hW hat hfm ⊢
  obtain ⟨g, off, rfl, hsg⟩ := hW.sign hn hat
  have HW1 := Lib.hid (hW.keep ((Chg.refl [] w).alloc (.cells #[.int .i64 t.n, .string t.s, .slice ko t.k.length kc] 44)))
  have p0 := HW1.out.cells
  have hx := hsg _ HW1.out.c0 at0 hat
  rw [hs, show kd 4 = 116 from rfl, show ((116 : Nat) : Int) = 116 from rfl] at hx
  obtain ⟨hok1, hok2⟩ := hok
  have HN := Lib.hid hn
  have E := Lib.hid (show wLeaf 4 t = vb t.s.size ++ bl t.s by unfold wLeaf; rw [if_neg (by decide), if_neg (by decide), if_neg (by decide)])
  rw [E.out, List.length_append, bl_length] at hb
  have HT := Lib.hid (wcount_keep t.s.size (by omega) HW1.out (by omega))
  have HBX := Lib.hid (heap_alloc_new w (.cells #[.int .i64 t.n, .string t.s, .slice ko t.k.length kc] 44))
  have HOB := Lib.hid (show out.length + (vb t.s.size).length + t.s.size ≤ 100000000 by omega)
  have HNE := Lib.hid (show w.heap.size ≠ gw from by have := hW.g1; have := hW.lB; omega)
  have HNB := Lib.hid (show ∀ bv, (w.alloc (.cells #[.int .i64 t.n, .string t.s, .slice ko t.k.length kc] 44)).cell? ⟨gw, 1, none⟩ = some bv → bv.ownBlock ≠ some w.heap.size from fun bv hbv e => by
    obtain ⟨bv', hb', ho'⟩ := hW.st
    have h1 := (cells2 (((Chg.refl [] w).alloc (.cells #[.int .i64 t.n, .string t.s, .slice ko t.k.length kc] 44)).heap hb' (by simp))).2.1
    rw [h1] at hbv
    injection hbv with hbv
    subst hbv
    have := own_lt ho' _ e
    omega)
  obtain ⟨gb, hgb⟩ : ∃ gb, gb = w.heap.size := ⟨_, rfl⟩
  have HGB := Lib.hid hgb
  rw [← hgb] at HBX HNE HNB
  have HFS := Lib.hid hW.g1
  clear hW hK hb hsg hs hn hok1 hgb
  go_enter Try.func40, Try.ntmps40
  go_upto_region 11 with fail
  rw [← HGB.out]
  have q1 : (w.alloc (.cells #[.int .i64 t.n, .string t.s, .slice ko t.k.length kc] 44)).cell? ⟨gb, 1, none⟩ = some (.string t.s) := by rw [cell_of_row _ gb 1 _ _ _ HBX.out]; rfl
  go_upto_region 12 with (first
    | (go_at_call 19; (with_reducible refine HT.out.mono ?_); rintro e w2 ⟨rfl, hw2, hk2⟩; have HW2 := Lib.hid hw2; have HX2 := Lib.hid (hk2 gb _ HBX.out HNE.out HNB.out); clear hw2 hk2)
    | fail)
  obtain ⟨bv, hb2, ho2⟩ := HW2.out.st
  obtain ⟨ba, bc, rfl⟩ := own_shape ho2
  obtain ⟨-, c1, -, f1⟩ := cells2 hb2
  have r1 : w2.cell? ⟨gb, 1, none⟩ = some (.string t.s) := by rw [cell_of_row w2 gb 1 _ _ _ HX2.out]; rfl
  obtain ⟨m, hm⟩ : ∃ m, m = (out ++ vb t.s.size).length := ⟨_, rfl⟩
  have HB2 := Lib.hid hb2; have HO2 := Lib.hid ho2
  rw [← hm] at HB2 HO2 c1
  have HM := Lib.hid hm
  have HGE := Lib.hid (show ∀ g, (Value.slice ba m bc).ownBlock = some g → B ≤ g from fun g hg => own_ge HO2.out g hg)
  have HLB := Lib.hid HW2.out.lB
  have HMB := Lib.hid (show m + t.s.size ≤ 140737488355328 by have := HOB.out; rw [hm, List.length_append]; omega)
  have HWT := Lib.hid (show ∀ w3, Chg (Value.slice ba m bc).ownBlock.toList w2 w3 → w3.cell? ⟨gw, 1, none⟩ = some (.slice ba m bc) ∧ w3.frozen? ⟨gw, 1, none⟩ = false from fun w3 hd => by
    obtain ⟨-, k1, -, k2⟩ := cells2 (hd.heap HB2.out (fun hm => by simp at hm; have := HGE.out gw hm; have := HFS.out; omega))
    exact ⟨k1, k2⟩)
  clear hb2 ho2 hm
  go_region_law (first
    | (refine step_append_text (by rfl) (.tmp 50) (.tmp 52) (by rfl) B (.slice ba m bc) m (nv .u8 (out ++ vb t.s.size)) (by rfl) HO2.out t.s (by rfl) HMB.out HLB.out ?_; intro v3 w3 hown3 hgrow3; obtain ⟨va, vc, rfl⟩ := own_shape hown3; have hcd : Chg (Value.slice ba m bc).ownBlock.toList w2 w3 := (Chg.refl _ w2).grown (w := w2) (by first | exact hgrow3 | exact ⟨hgrow3.os, hgrow3.tape, hgrow3.output, hgrow3.size, hgrow3.block⟩) (fun g hg => .inl (by simp [hg])); obtain ⟨k3, k4⟩ := HWT.out w3 hcd; have HO3 := Lib.hid hown3; have HC3 := Lib.hid hcd; clear hown3 hgrow3 hcd))
  all_goals
    go_end0
    rw [E.out, ← List.append_assoc]
    exact ⟨rfl, HW2.out.grow HB2.out HC3.out HGE.out HO3.out (by rw [← HM.out, bl_length])⟩

end Go.Proofs.Ytkbfbiklnjldgaa

namespace Go.Proofs.Ytkbfbiklnjldgaa
open Go.RowKit
set_option linter.unusedVariables false
set_option linter.unusedSimpArgs false

theorem wvalue_leaf {w0 : World} {gw B : Nat} {fv : Value} {fm : List Nat} {d at0 : Nat} {k : Int} (hk : 1 ≤ k ∧ k ≤ 4) (hat : at0 < fm.length) (hfm : fm.length ≤ 100000) (hs : fm.getD at0 0 = kd k) : WVC w0 gw B fv fm d at0 (wLeaf k) okLeaf := by
  have hkk : k = 1 ∨ k = 2 ∨ k = 3 ∨ k = 4 := by omega
  rcases hkk with rfl | rfl | rfl | rfl
  · exact wvalue_leaf_1 hat hfm hs
  · exact wvalue_leaf_2 hat hfm hs
  · exact wvalue_leaf_3 hat hfm hs
  · exact wvalue_leaf_4 hat hfm hs

/-- All that is there of a field. -/
def wField (r : Int) (g : Tr → List Nat) (l : List Tr) : List Nat := (if r = 1 then lw 1 (l.length : Nat) else if r = 2 then vb l.length else []) ++ l.flatMap g
/-- Fields beside one another. -/
def wF : Fo → List (List Tr) → List Nat
  | .nil, _ => []
  | .leaf f t, ks => match ks with | [] => [] | l :: r => wField f.r (wLeaf f.k) l ++ wF t r
  | .group f k t, ks => match ks with | [] => [] | l :: r => wField f.r (fun x => wF k x.k) l ++ wF t r
/-- What they must be. -/
def okF : Fo → List (List Tr) → Prop
  | .nil, ks => ks = []
  | .leaf f t, ks => match ks with | [] => False | l :: r => (∀ x ∈ l, okLeaf x) ∧ okF t r
  | .group f k t, ks => match ks with | [] => False | l :: r => (∀ x ∈ l, okF k x.k) ∧ okF t r

/-- What is asked of the writer's group, and field. -/
def WGC (w0 : World) (gw B : Nat) (fv : Value) (fm : List Nat) (d at0 : Nat) (G : List (List Tr) → List Nat) (ok : List (List Tr) → Prop) : Prop :=
  ∀ (w : World) (out : List Nat) (ks : List (List Tr)) (kv : Value), WW w0 w gw B fv fm out → KidsAt w0 d ks kv → ok ks → out.length + (G ks).length ≤ 100000000 →
    Calls Try.prog 66 #[.pointer (some ⟨gw, 0, none⟩), .int .i64 (at0 : Int), kv] w fun e w' => e = .returned (.tuple #[]) ∧ WW w0 w' gw B fv fm (out ++ G ks)
def WFC (w0 : World) (gw B : Nat) (fv : Value) (fm : List Nat) (d at0 : Nat) (g : List Tr → List Nat) (ok : List Tr → Prop) : Prop :=
  ∀ (w : World) (out : List Nat) (l : List Tr) (lv : Value), WW w0 w gw B fv fm out → ListAt w0 d l lv → ok l → out.length + (g l).length ≤ 100000000 →
    Calls Try.prog 83 #[.pointer (some ⟨gw, 0, none⟩), .int .i64 (at0 : Int), lv] w fun e w' => e = .returned (.tuple #[]) ∧ WW w0 w' gw B fv fm (out ++ g l)

set_option maxRecDepth 100000 in
set_option maxHeartbeats 4000000 in
theorem wvalue_grp {w0 : World} {gw B : Nat} {fv : Value} {fm : List Nat} {d at0 : Nat} {G : List (List Tr) → List Nat} {ok : List (List Tr) → Prop} (hG : WGC w0 gw B fv fm d (at0 + 1) G ok) (hat : at0 < fm.length) (hfm : fm.length ≤ 100000) (hs : fm.getD at0 0 = 40) : WVC w0 gw B fv fm d at0 (fun t => G t.k) (fun t => ok t.k) := by
  intro w out t kv hW hK hok hb
  obtain ⟨ko, kc, rfl, -, -⟩ := hK.shape
  obtain ⟨ao, cap, rfl, hc1, hc2⟩ := hW.fs.shape
  rw [nv_length] at hc1 hW hG
  rw [nv_length]
  obtain ⟨n, hn⟩ : ∃ n, n = fm.length := ⟨_, rfl⟩
  rw [← hn] at hc1 hW hat hfm hG ⊢
  obtain ⟨g, off, rfl, hsg⟩ := hW.sign hn hat
  have HW1 := Lib.hid (hW.keep ((Chg.refl [] w).alloc (.cells #[.int .i64 t.n, .string t.s, .slice ko t.k.length kc] 44)))
  have p0 := HW1.out.cells
  have hx := hsg _ HW1.out.c0 at0 hat
  rw [hs, show ((40 : Nat) : Int) = 40 from rfl] at hx
  have HN := Lib.hid hn
  have HT := Lib.hid (hG _ out t.k _ HW1.out hK hok hb)
  rw [show ((at0 + 1 : Nat) : Int) = (at0 : Int) + 1 by omega] at HT
  have hw : IntKind.i64.wrap ((at0 : Int) + 1) = (at0 : Int) + 1 := IntWalk.i64_in _ (by omega)
  clear hW hK hb hsg hs hn hok hG
  go_enter Try.func40, Try.ntmps40
  go_wp2_with (first
    | (go_at_call 66; (with_reducible refine HT.out.mono ?_); rintro e w2 ⟨rfl, hw2⟩; have HW2 := Lib.hid hw2; clear hw2)
    | fail)
  go_end0
  exact ⟨rfl, HW2.out⟩

set_option maxRecDepth 100000 in
set_option maxHeartbeats 4000000 in
theorem wfield_any {w0 : World} {gw B : Nat} {fv : Value} {fm : List Nat} {d at0 c : Nat} {r : Int} {g : Tr → List Nat} {ok : Tr → Prop} {rest : List Nat} (hV : WVC w0 gw B fv fm d (at0 + (rp r).length) g ok) (hdr : fm.drop at0 = rp r ++ c :: rest) (hfm : fm.length ≤ 100000) (hc : c ≠ 63 ∧ c ≠ 42) : WFC w0 gw B fv fm d at0 (wField r g) (fun l => ∀ x ∈ l, ok x) := by
  intro w out l lv hW hL hok hb
  obtain ⟨lo, lc, rfl, hl1, hl2⟩ := hL.shape
  obtain ⟨ao, cap, rfl, hc1, hc2⟩ := hW.fs.shape
  rw [nv_length] at hc1 hW hV
  rw [nv_length]
  obtain ⟨n, hn⟩ : ∃ n, n = fm.length := ⟨_, rfl⟩
  rw [← hn] at hc1 hW hfm hV ⊢
  have hat : at0 < n := by
    rw [hn]
    by_cases h : at0 < fm.length
    · exact h
    · rw [List.drop_of_length_le (by omega)] at hdr
      cases hr : rp r <;> rw [hr] at hdr <;> cases hdr
  obtain ⟨gg, off, rfl, hsg⟩ := hW.sign hn hat
  have HW := Lib.hid hW
  have p0 := hW.cells
  have hx := hsg _ hW.c0 at0 hat
  have HN := Lib.hid hn
  have hw : IntKind.i64.wrap ((at0 : Int) + 1) = (at0 : Int) + 1 := IntWalk.i64_in _ (by omega)
  unfold maxLen at hl2
  have HVX := Lib.hid (fun (wx : World) (o : List Nat) (hp : WW w0 wx gw B (.slice (some ⟨gg, off, none⟩) n cap) fm o) (hbb : o.length + (l.flatMap g).length ≤ 100000000) => wvalues_any hV wx o l _ hp hL hok hbb)
  obtain ⟨q, hq⟩ : ∃ q, q = l.length := ⟨_, rfl⟩
  unfold wField at hb ⊢
  rw [← hq] at hl1 HVX hb ⊢
  have HB := Lib.hid hb
  clear hW hsg hn hV hL hok hq
  by_cases h1 : r = 1
  · subst h1
    have e : rp 1 = [63] := rfl
    rw [e] at hdr HVX
    obtain ⟨-, h63, -⟩ := drop_at (show fm.drop at0 = 63 :: c :: rest from hdr)
    rw [h63, show ((63 : Nat) : Int) = 63 from rfl] at hx
    rw [if_pos rfl] at HB ⊢
    have hb' := HB.out
    rw [List.length_append, lw_len] at hb'
    have HT := Lib.hid (wnumber_any 1 (q : Int) (by decide) (by omega) HW.out (by omega))
    rw [show ((1 : Nat) : Int) = 1 from rfl] at HT
    rw [show ((at0 + [63].length : Nat) : Int) = (at0 : Int) + 1 by simp] at HVX
    have HB2 := Lib.hid (show (out ++ lw 1 (q : Int)).length + (l.flatMap g).length ≤ 100000000 by rw [List.length_append, lw_len]; omega)
    clear e h63 hdr hb hb'
    go_enter Try.func83, Try.ntmps83
    go_wp2_with (first
      | (go_at_call 67; (with_reducible refine HT.out.mono ?_); rintro e w2 ⟨rfl, hw2⟩; have HW2 := Lib.hid hw2; clear hw2)
      | (go_at_call 20; (with_reducible refine (HVX.out _ _ HW2.out HB2.out).mono ?_); rintro e w3 ⟨rfl, hw3⟩; have HW3 := Lib.hid hw3; clear hw3)
      | fail)
    go_end0
    rw [← List.append_assoc]
    exact ⟨rfl, HW3.out⟩
  by_cases h2 : r = 2
  · subst h2
    have e : rp 2 = [42] := rfl
    rw [e] at hdr HVX
    obtain ⟨-, h63, -⟩ := drop_at (show fm.drop at0 = 42 :: c :: rest from hdr)
    rw [h63, show ((42 : Nat) : Int) = 42 from rfl] at hx
    rw [if_neg (by decide), if_pos rfl] at HB ⊢
    have hb' := HB.out
    rw [List.length_append] at hb'
    have HT := Lib.hid (wcount_any q (by omega) HW.out (by omega))
    rw [show ((at0 + [42].length : Nat) : Int) = (at0 : Int) + 1 by simp] at HVX
    have HB2 := Lib.hid (show (out ++ vb q).length + (l.flatMap g).length ≤ 100000000 by rw [List.length_append]; omega)
    clear e h63 hdr h1 hb hb'
    go_enter Try.func83, Try.ntmps83
    go_wp2_with (first
      | (go_at_call 19; (with_reducible refine HT.out.mono ?_); rintro e w2 ⟨rfl, hw2⟩; have HW2 := Lib.hid hw2; clear hw2)
      | (go_at_call 20; (with_reducible refine (HVX.out _ _ HW2.out HB2.out).mono ?_); rintro e w3 ⟨rfl, hw3⟩; have HW3 := Lib.hid hw3; clear hw3)
      | fail)
    go_end0
    rw [← List.append_assoc]
    exact ⟨rfl, HW3.out⟩
  · have e : rp r = [] := by unfold rp; rw [if_neg h1, if_neg h2]
    rw [e] at hdr HVX
    obtain ⟨-, h63, -⟩ := drop_at (show fm.drop at0 = c :: rest from hdr)
    rw [h63] at hx
    rw [if_neg h1, if_neg h2, List.nil_append] at HB ⊢
    have b1 : ((c : Int) == 63) = false := by simp; omega
    have b2 : ((c : Int) == 42) = false := by simp; omega
    rw [show ((at0 + ([] : List Nat).length : Nat) : Int) = (at0 : Int) by simp] at HVX
    have HV1 := Lib.hid (HVX.out w out HW.out HB.out)
    clear e h63 hdr h1 h2 HVX hc hb
    go_enter Try.func83, Try.ntmps83
    go_wp2_with (first
      | (go_at_call 20; (with_reducible refine HV1.out.mono ?_); rintro e w3 ⟨rfl, hw3⟩; have HW3 := Lib.hid hw3; clear hw3)
      | fail)
    go_end0
    exact ⟨rfl, HW3.out⟩

/-- Each field of a forest is written, wherever its signs stand. -/
def WFOK (w0 : World) (gw B : Nat) (fv : Value) (fm : List Nat) : Fo → Prop
  | .nil => True
  | .leaf f t => (∀ d a rest, fm.drop a = sg f ++ rest → WFC w0 gw B fv fm d a (wField f.r (wLeaf f.k)) (fun l => ∀ x ∈ l, okLeaf x)) ∧ WFOK w0 gw B fv fm t
  | .group f k t => (∀ d a rest, fm.drop a = sg f ++ (k.sg ++ 41 :: rest) → WFC w0 gw B fv fm d a (wField f.r (fun x => wF k x.k)) (fun l => ∀ x ∈ l, okF k x.k)) ∧ WFOK w0 gw B fv fm t

theorem wnext_field {w0 : World} {gw B : Nat} {fv : Value} {fm rest : List Nat} {a : Nat} {t : Fo} {l : List Tr} {r : List (List Tr)} (dr : fm.drop a = t.sg ++ 41 :: rest) (ok : WFOK w0 gw B fv fm t) (wf : t.wf) (hk : okF t (l :: r)) :
    ∃ (m : Nat) (g : List Tr → List Nat) (okl : List Tr → Prop) (t' : Fo), sk 0 (fm.drop a) = some m ∧ 1 ≤ m ∧ (∀ d, WFC w0 gw B fv fm d a g okl) ∧ okl l ∧ fm.drop (a + m) = t'.sg ++ 41 :: rest ∧ WFOK w0 gw B fv fm t' ∧ t'.wf ∧ okF t' r ∧ wF t (l :: r) = g l ++ wF t' r := by
  cases t with
  | nil => cases hk
  | leaf f t' =>
    obtain ⟨h1, h2, h3⟩ := wf
    obtain ⟨o1, o2⟩ := ok
    obtain ⟨k1, k2⟩ := hk
    rw [Fo.sg, List.append_assoc] at dr
    refine ⟨(sg f).length, _, _, t', by rw [dr]; exact sk_leaf ⟨h1, h2⟩ _, (sg_len f).1, fun d => o1 d a _ dr, k1, ?_, o2, h3, k2, rfl⟩
    rw [← List.drop_drop, dr]; simp
  | group f k t' =>
    obtain ⟨h1, h2, h3, h4⟩ := wf
    obtain ⟨o1, o2⟩ := ok
    obtain ⟨k1, k2⟩ := hk
    have e : (Fo.group f k t').sg ++ 41 :: rest = sg f ++ (k.sg ++ 41 :: (t'.sg ++ 41 :: rest)) := by simp [Fo.sg]
    rw [e] at dr
    refine ⟨(sg f).length + (k.sg.length + 1), _, _, t', by rw [dr]; exact sk_grp h1 h3 _, by omega, fun d => o1 d a _ dr, k1, ?_, o2, h4, k2, rfl⟩
    rw [← List.drop_drop, ← List.drop_drop, dr]
    simp [← List.drop_drop]

/-- How group stands. -/
structure WGJ (w0 wi : World) (gw B : Nat) (fv : Value) (fm rest out : List Nat) (fo : Fo) (ks : List (List Tr)) (j a : Nat) (t : Fo) (pre : List Nat) : Prop where
  ww : WW w0 wi gw B fv fm (out ++ pre)
  dr : fm.drop a = t.sg ++ 41 :: rest
  ok : WFOK w0 gw B fv fm t
  wf : t.wf
  kk : okF t (ks.drop j)
  eq : wF fo ks = pre ++ wF t (ks.drop j)

set_option maxRecDepth 100000 in
set_option maxHeartbeats 4000000 in
theorem wgroup_any {w0 : World} {gw B : Nat} {fv : Value} {fm rest : List Nat} {at0 : Nat} {fo : Fo} (hok : WFOK w0 gw B fv fm fo) (hwf : fo.wf) (hdr : fm.drop at0 = fo.sg ++ 41 :: rest) (hfm : fm.length ≤ 100000) (d : Nat) : WGC w0 gw B fv fm d at0 (wF fo) (okF fo) := by
  intro w out ks kv hW hK hks hb
  obtain ⟨ko, kc, rfl, hl1, hl2⟩ := hK.shape
  obtain ⟨ao, cap, rfl, hc1, hc2⟩ := hW.fs.shape
  rw [nv_length] at hc1 hW hok
  rw [nv_length]
  obtain ⟨nf, hnf⟩ : ∃ n, n = fm.length := ⟨_, rfl⟩
  rw [← hnf] at hc1 hW hok hfm ⊢
  have HNF := Lib.hid hnf
  obtain ⟨n, hn⟩ : ∃ n, n = ks.length := ⟨_, rfl⟩
  rw [← hn] at hK hl1 ⊢
  have HJ0 := Lib.hid (show WGJ w0 w gw B (.slice ao nf cap) fm rest out fo ks 0 at0 fo [] from ⟨by rw [List.append_nil]; exact hW, hdr, hok, hwf, hks, rfl⟩)
  have HK := Lib.hid hK; have HN := Lib.hid hn; have HB := Lib.hid hb
  have HFM := Lib.hid hfm
  unfold maxLen at hl2
  clear hW hK hks hb hn hok hwf hdr hnf
  go_enter Try.func66, Try.ntmps66
  go_wp2
  go_loopw [1, 10] (fun av x w' => ∃ (j a : Nat) (t : Fo) (pre : List Nat), av = .int .i64 (a : Int) ∧ x = .int .i64 (j : Int) ∧ j ≤ n ∧ WGJ w0 w' gw B (.slice ao nf cap) fm rest out fo ks j a t pre) (fun _ x _ => n - (intOf x).toNat)
  case atStart => exact ⟨0, at0, fo, [], rfl, rfl, Nat.zero_le _, HJ0.out⟩
  case round =>
    obtain ⟨j, a, t, pre, rfl, rfl, hj, hJ⟩ := hrel
    have HJ := Lib.hid hJ
    clear hJ
    by_cases hlt : j < n
    · have hd : decide ((j : Int) < (n : Int)) = true := by simp; omega
      obtain ⟨l, hl⟩ : ∃ l, ks[j]? = some l := ⟨_, List.getElem?_eq_getElem (by rw [← HN.out]; exact hlt)⟩
      have hdk : ks.drop j = l :: ks.drop (j + 1) := by
        rw [List.drop_eq_getElem_cons (by rw [← HN.out]; exact hlt)]
        rw [List.getElem?_eq_getElem (by rw [← HN.out]; exact hlt)] at hl
        injection hl with hl
        rw [hl]
      have hkk := HJ.out.kk
      rw [hdk] at hkk
      obtain ⟨q, g, okl, t', hsk, hq1, hFC, hkl, hdr', hok', hwf', hkr, hwe⟩ := wnext_field HJ.out.dr HJ.out.ok HJ.out.wf hkk
      obtain ⟨d', gl, off, -, rfl, hcs⟩ := HK.out.get (by omega)
      obtain ⟨lv, c0, hlv⟩ := hcs j l hl
      have b0 := HJ.out.ww.c0.cell c0 (by simp)
      obtain ⟨lo, lc, rfl, -, -⟩ := hlv.shape
      have heq := HJ.out.eq
      rw [hdk, hwe, ← List.append_assoc] at heq
      have HEQ := Lib.hid heq
      have HT := Lib.hid (hFC d' _ _ l _ HJ.out.ww hlv hkl (by have h := congrArg List.length heq; have := HB.out; rw [List.length_append, List.length_append] at h; rw [List.length_append]; omega))
      have haq : a + q ≤ nf := by
        rw [HNF.out]
        by_cases h : a + q ≤ fm.length
        · exact h
        · rw [List.drop_of_length_le (by omega)] at hdr'
          cases ht : t'.sg <;> rw [ht] at hdr' <;> cases hdr'
      have HSK := Lib.hid hsk
      have HDR := Lib.hid hdr'; have HOK := Lib.hid hok'; have HWF := Lib.hid hwf'; have HKR := Lib.hid hkr
      clear hcs c0 hlv heq hsk hFC hkl hdr' hok' hwf' hkr hwe hkk hdk hl
      go_wp2_with (first
        | (go_at_call 83; (with_reducible refine HT.out.mono ?_); rintro e w2 ⟨rfl, hw2⟩; have p2 := hw2.cells; have HW2 := Lib.hid hw2; have HPA := Lib.hid (past_any _ fm a q w2 (hw2.fs.keep hw2.c0) HSK.out (by rw [← HNF.out]; exact HFM.out)); clear hw2)
        | (go_at_call 84; (with_reducible refine HPA.out.mono ?_); rintro e w3 ⟨rfl, hk3⟩; have HC3 := Lib.hid hk3; clear hk3)
        | fail)
      go_roundw
      case rel => exact ⟨j + 1, a + q, t', pre ++ g l, rfl, by go_num, hlt, ⟨by have := HW2.out.keep HC3.out; rw [List.append_assoc] at this; exact this, HDR.out, HOK.out, HWF.out, HKR.out, HEQ.out⟩⟩
      case measure => simp [intOf]; omega
    · have hd : decide ((j : Int) < (n : Int)) = false := by simp; omega
      have E := Lib.hid (show wF fo ks = pre by
        have h := HJ.out.eq
        have hk := HJ.out.kk
        rw [List.drop_of_length_le (by rw [← HN.out]; omega)] at h hk
        cases t with
        | nil => rw [h]; simp [wF]
        | leaf f t' => exact hk.elim
        | group f k t' => exact hk.elim)
      go_wp2
      go_end0
      exact ⟨rfl, by have := HJ.out.ww; rw [E.out]; exact this⟩

/-- Every field of a forest is written. -/
theorem wfok9 {w0 : World} {gw B : Nat} {fv : Value} {fm : List Nat} (hfm : fm.length ≤ 100000) : ∀ (fo : Fo), fo.wf → WFOK w0 gw B fv fm fo
  | .nil, _ => trivial
  | .leaf f t, hw => by
    obtain ⟨h1, h2, h3⟩ := hw
    have hk := kd_leaf ⟨h1, h2⟩
    refine ⟨fun d a rest hdr => ?_, wfok9 hfm t h3⟩
    rw [sg_eq, List.append_assoc] at hdr
    have h4 : fm.drop (a + (rp f.r).length) = kd f.k :: rest := by rw [← List.drop_drop, hdr]; simp
    obtain ⟨h5, h6, -⟩ := drop_at h4
    exact wfield_any (wvalue_leaf ⟨h1, h2⟩ h5 hfm h6) hdr hfm ⟨hk.1, hk.2.1⟩
  | .group f k t, hw => by
    obtain ⟨h1, h2, h3, h4⟩ := hw
    have hk : kd f.k = 40 := by rw [h1]; rfl
    refine ⟨fun d a rest hdr => ?_, wfok9 hfm t h4⟩
    rw [sg_eq, List.append_assoc, hk] at hdr
    have h5 : fm.drop (a + (rp f.r).length) = 40 :: (k.sg ++ 41 :: rest) := by rw [← List.drop_drop, hdr]; simp
    obtain ⟨h6, h7, h8⟩ := drop_at h5
    exact wfield_any (wvalue_grp (wgroup_any (wfok9 hfm k h3) h3 h8 hfm d) h6 hfm h7) hdr hfm ⟨by decide, by decide⟩

/-- Records are written. -/
theorem wrecords {w0 : World} {gw B : Nat} {fv : Value} {fo : Fo} (hw : fo.wf) (hfm : (fmS fo).length ≤ 100000) (d : Nat) : WVC w0 gw B fv (fmS fo) d 0 (fun t => wF fo t.k) (fun t => okF fo t.k) :=
  wvalue_grp (wgroup_any (rest := []) (wfok9 hfm fo hw) hw rfl hfm d) (by simp [fmS]) hfm rfl

end Go.Proofs.Ytkbfbiklnjldgaa

namespace Go.Proofs.Ytkbfbiklnjldgaa
open Go.RowKit
set_option linter.unusedVariables false
set_option linter.unusedSimpArgs false

/-- Records as bytes. -/
def wAll (fo : Fo) (L : List Tr) : List Nat := vb L.length ++ L.flatMap (fun t => wF fo t.k)

set_option maxRecDepth 100000 in
set_option maxHeartbeats 4000000 in
theorem bytes_any (sv lv : Value) (l : List F) (r0 : F) (fo : Fo) (L : List Tr) (d : Nat) (w : World) (hS : SeenF w sv l) (hl : l = r0 :: fo.flat) (hr1 : r0.k = 0) (hr2 : r0.r = 0) (hr3 : r0.c = fo.num) (hwf : fo.wf) (hn : l.length ≤ 1000) (hc : ∀ f ∈ l, f.c ≤ 9223372036854775807) (hnm : ∀ f ∈ l, f.n.size ≤ 1000)
    (hL : ListAt w d L lv) (hfit : ∀ t ∈ L, fitsT l t = 0) (hok : ∀ t ∈ L, okF fo t.k) (hb : (wAll fo L).length ≤ 100000000) :
    Calls Try.prog 8 #[sv, lv] w fun e w' => ∃ x, e = .returned x ∧ Made 5 .u8 (wAll fo L) w x w' := by
  have hfl : (fmS fo).length ≤ 100000 := by
    rw [← fmS_eq hr1 hr2]
    have h := (Fo.group r0 fo .nil).sg_le
    have h2 : (Fo.group r0 fo .nil).flat.length = l.length := by rw [hl]; simp [Fo.flat]
    omega
  have HFO := Lib.hid (show ∀ wx, Chg [] w wx → Calls Try.prog 18 #[sv] wx fun e w' => ∃ x, e = .returned x ∧ Made 21 .i32 (fmS fo) wx x w' from fun wx hk => by
    rw [← fmS_eq hr1 hr2]
    exact formOf_any _ l (.group r0 fo .nil) wx (hS.keep hk) (by rw [hl]; simp [Fo.flat]) ⟨hr1, hr3, hwf, trivial⟩ hn (by rw [fmS_eq hr1 hr2]; exact hfl))
  obtain ⟨lo, lc, rfl, hl1, hl2⟩ := hL.shape
  have HFT := Lib.hid (show ∀ (wx : World) (t : Tr) (kv : Value), Chg [] w wx → t ∈ L → KidsAt w d t.k kv → Calls Try.prog 17 #[sv, .agg #[.int .i64 t.n, .string t.s, kv]] wx fun e w' => e = .returned (.int .i64 0) ∧ Chg [] wx w' from fun wx t kv hk ht hkv => by
    have h := fits_any sv kv l t d wx (hS.keep hk) (hkv.keep hk) hc hnm
    rw [hfit t ht] at h
    exact h)
  have HWF := Lib.hid hwf; have HFL := Lib.hid hfl; have HOK := Lib.hid hok
  obtain ⟨n, hnn⟩ : ∃ n, n = L.length := ⟨_, rfl⟩
  have hbn : (vb n).length + (L.flatMap (fun t => wF fo t.k)).length ≤ 100000000 := by have := hb; unfold wAll at this; rw [List.length_append, ← hnn] at this; exact this
  have HBN := Lib.hid hbn
  have HE := Lib.hid (show wAll fo L = vb n ++ L.flatMap (fun t => wF fo t.k) by unfold wAll; rw [hnn])
  rw [← hnn] at hL hl1 ⊢
  have HL := Lib.hid hL; have HN := Lib.hid hnn
  unfold maxLen at hl2
  clear hS hl hr1 hr2 hr3 hwf hfl hn hc hnm hL hfit hok hb hbn hnn
  go_enter Try.func8, Try.ntmps8
  go_wp2
  go_loopw [10] (fun x w' => ∃ j : Nat, x = .int .i64 (j : Int) ∧ j ≤ n ∧ Chg [] w w') (fun x _ => n - (intOf x).toNat)
  case atStart => exact ⟨0, rfl, Nat.zero_le _, Chg.refl _ _⟩
  case round =>
    obtain ⟨j, rfl, hj, hcj⟩ := hrel
    have HC := Lib.hid hcj
    clear hcj
    by_cases hlt : j < n
    · have hd : decide ((j : Int) < (n : Int)) = true := by simp; omega
      obtain ⟨t, ht⟩ : ∃ t, L[j]? = some t := ⟨_, List.getElem?_eq_getElem (by rw [← HN.out]; exact hlt)⟩
      obtain ⟨gl, off, rfl, hcs⟩ := HL.out.get (by omega)
      obtain ⟨kv, c0, c1, c2, hk⟩ := hcs j t ht
      have b0 := HC.out.cell c0 (by simp)
      have b1 := HC.out.cell c1 (by simp)
      have b2 := HC.out.cell c2 (by simp)
      obtain ⟨ko, kc, rfl, -, -⟩ := hk.shape
      have HF := Lib.hid (HFT.out (wr.alloc (.cells #[.int .i64 t.n, .string t.s, .slice ko t.k.length kc] 44)) t _ (HC.out.alloc _) (List.mem_of_getElem? ht) hk)
      clear hcs c0 c1 c2 hk ht
      go_wp2_with fail
      (with_reducible refine HF.out.mono ?_)
      rintro e w2 ⟨rfl, hk2⟩
      have HC2 := Lib.hid ((HC.out.alloc _).trans hk2 (by simp))
      clear hk2
      go_wp2
      go_roundw
      case rel => exact ⟨j + 1, by go_num, hlt, HC2.out⟩
      case measure => simp [intOf]; omega
    · have hd : decide ((j : Int) < (n : Int)) = false := by simp; omega
      go_wp2_with fail
      (with_reducible refine (HFO.out _ HC.out).mono ?_)
      rintro e w1 ⟨fv, rfl, hk1, ho1⟩
      obtain ⟨fa, fc, rfl⟩ := own_shape ho1
      have hww : WW w1 (w1.alloc (.cells #[.slice fa (fmS fo).length fc, .slice none 0 0] 54)) w1.heap.size (w1.heap.size + 1) (.slice fa (fmS fo).length fc) (fmS fo) [] :=
        ⟨(reads_of_own ho1).seen, (Chg.refl [] w1).alloc _, Nat.le_refl _, Nat.lt_succ_self _, by simp, .slice none 0 0, heap_alloc_new w1 _, World.ownsRow_nil _ _ _ _⟩
      have HW := Lib.hid hww
      have HCN := Lib.hid (wcount_any n (by omega) hww (by decide))
      have HC1 := Lib.hid (HC.out.trans hk1 (by simp))
      have HLL := Lib.hid (HL.out.keep HC1.out)
      clear hk1 ho1 hww
      go_wp2_with fail
      (with_reducible refine HCN.out.mono ?_)
      rintro e w2 ⟨rfl, hw2⟩
      rw [List.nil_append] at hw2
      have HVV := Lib.hid (wvalues_any (wrecords HWF.out HFL.out d) w2 (vb n) L _ hw2 HLL.out HOK.out HBN.out)
      rw [show ((0 : Nat) : Int) = 0 from rfl] at HVV
      clear hw2
      go_wp2_with fail
      (with_reducible refine HVV.out.mono ?_)
      rintro e w3 ⟨rfl, hw3⟩
      rw [← HE.out] at hw3
      obtain ⟨bv, hb3, ho3⟩ := hw3.st
      obtain ⟨-, c1, -, -⟩ := cells2 hb3
      have HC3 := Lib.hid (HC1.out.trans hw3.c0 (by simp))
      have HO3 := Lib.hid ho3
      obtain ⟨ba, bc, rfl⟩ := own_shape ho3
      have HZ1 := Lib.hid HC1.out.size
      clear hw3 hb3 ho3
      go_wp2
      go_ret
      refine ⟨_, rfl, HC3.out, ?_⟩
      exact own_mono HO3.out (by have := HZ1.out; omega)

end Go.Proofs.Ytkbfbiklnjldgaa
