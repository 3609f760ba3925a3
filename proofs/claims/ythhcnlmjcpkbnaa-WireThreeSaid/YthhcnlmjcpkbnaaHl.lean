/- wire: Bytes of no records; the statements' known. -/
import Derived.Test.YthhcnlmjcpkbnaaHk
import Derived.Test.YthhcnlmjcpkbnaaW9
import Derived.Test.YthhcnlmjcpkbnaaMw
import Derived.Test.YthhcnlmjcpkbnaaA5
import Derived.Test.YthhcnlmjcpkbnaaHj
import Derived.Test.YthhcnlmjcpkbnaaQk
namespace Go.Proofs.Ythhcnlmjcpkbnaa
open Go.RowKit
set_option linter.unusedVariables false
set_option linter.unusedSimpArgs false

theorem fo_wf : ∀ fo : Fo, fo.ok → (∀ f ∈ fo.flat, 0 ≤ f.k ∧ f.k ≤ 4) → fo.wf
  | .nil, _, _ => trivial
  | .leaf f t, ⟨h1, h2, h3⟩, h => ⟨by have := (h f (by simp [Fo.flat])).1; omega, (h f (by simp [Fo.flat])).2, fo_wf t h3 fun x hx => h x (by simp [Fo.flat, hx])⟩
  | .group f k t, ⟨h1, h2, h3, h4⟩, h => ⟨h1, h2, fo_wf k h3 fun x hx => h x (by simp [Fo.flat, hx]), fo_wf t h4 fun x hx => h x (by simp [Fo.flat, hx])⟩

/-- A made schema is a group of a forest. -/
theorem mk_wf (ns : List Int) : ∃ (r : F) (fo : Fo), mk ns = r :: fo.flat ∧ r.k = 0 ∧ r.c = fo.num ∧ fo.wf ∧ r.r = 0 := by
  obtain ⟨r, fo, h1, h2, h3, h4, h5, -⟩ := mk_forest ns
  refine ⟨r, fo, h1, h2, h3, fo_wf fo h4 fun f hf => ?_, h5⟩
  obtain ⟨j, hj⟩ := List.mem_iff_getElem?.1 (show f ∈ mk ns by rw [h1]; simp [hf])
  have := (mk_fields ns j f hj).1
  omega

set_option maxRecDepth 100000 in
set_option maxHeartbeats 1000000 in
theorem wvalues_nil (gw : Nat) (a : Int) (w : World) : Calls Try.prog 78 #[.pointer (some ⟨gw, 0, none⟩), .int .i64 a, .slice none 0 0] w fun e w' => e = .returned (.tuple #[]) ∧ Chg [] w w' := by
  go_enter Try.func78, Try.ntmps78
  go_wp2
  go_loopw [10] (fun x w' => x = .int .i64 0 ∧ Chg [] w w') (fun _ _ => 0)
  case atStart => exact ⟨rfl, Chg.refl _ _⟩
  case round =>
    obtain ⟨rfl, hc⟩ := hrel
    have HC := Lib.hid hc
    clear hc
    go_wp2
    go_end0
    exact ⟨rfl, HC.out⟩

set_option maxRecDepth 100000 in
set_option maxHeartbeats 2000000 in
theorem bytes_nil (sv : Value) (l : List F) (r0 : F) (fo : Fo) (w : World) (hS : SeenF w sv l) (hl : l = r0 :: fo.flat) (hr1 : r0.k = 0) (hr2 : r0.r = 0) (hr3 : r0.c = fo.num) (hwf : fo.wf) (hn : l.length ≤ 1000) :
    Calls Try.prog 45 #[sv, .slice none 0 0] w fun e w' => ∃ x, e = .returned x ∧ Made 5 .u8 [0] w x w' := by
  have hfl : (Fo.group r0 fo .nil).sg.length ≤ 100000 := by
    have h := (Fo.group r0 fo .nil).sg.length
    have h := (Fo.group r0 fo .nil).sg_le
    have h2 : (Fo.group r0 fo .nil).flat.length = l.length := by rw [hl]; simp [Fo.flat]
    omega
  have HFO := Lib.hid (show ∀ wx, Chg [] w wx → Calls Try.prog 76 #[sv] wx fun e w' => ∃ x, e = .returned x ∧ Made 21 .i32 (Fo.group r0 fo .nil).sg wx x w' from fun wx hk => formOf_any _ l (.group r0 fo .nil) wx (hS.keep hk) (by rw [hl]; simp [Fo.flat]) ⟨hr1, hr3, hwf, trivial⟩ hn hfl)
  obtain ⟨fm, hfm⟩ : ∃ fm, fm = (Fo.group r0 fo .nil).sg := ⟨_, rfl⟩
  rw [← hfm] at HFO
  clear hS hl hr1 hr2 hr3 hwf hfl hfm
  go_enter Try.func45, Try.ntmps45
  go_wp2
  go_loopw [10] (fun x w' => x = .int .i64 0 ∧ Chg [] w w') (fun _ _ => 0)
  case atStart => exact ⟨rfl, Chg.refl _ _⟩
  case round =>
    obtain ⟨rfl, hc⟩ := hrel
    have HC := Lib.hid hc
    clear hc
    go_wp2_with fail
    (with_reducible refine (HFO.out _ HC.out).mono ?_)
    rintro e w1 ⟨fv, rfl, hk1, ho1⟩
    obtain ⟨fa, fc, rfl⟩ := own_shape ho1
    have hww : WW w1 (w1.alloc (.cells #[.slice fa fm.length fc, .slice none 0 0] 116)) w1.heap.size (w1.heap.size + 1) (.slice fa fm.length fc) fm [] :=
      ⟨(reads_of_own ho1).seen, (Chg.refl [] w1).alloc _, Nat.le_refl _, Nat.lt_succ_self _, by simp, .slice none 0 0, heap_alloc_new w1 _, World.ownsRow_nil _ _ _ _⟩
    have HW := Lib.hid hww
    have HCN := Lib.hid (wcount_any 0 (by decide) hww (by decide))
    rw [show ((0 : Nat) : Int) = 0 from rfl] at HCN
    have HC1 := Lib.hid (HC.out.trans hk1 (by simp))
    clear hk1 ho1 hww
    go_wp2_with fail
    (with_reducible refine HCN.out.mono ?_)
    rintro e w2 ⟨rfl, hw2⟩
    have HW2 := Lib.hid hw2
    clear hw2
    go_wp2_with fail
    (with_reducible refine (wvalues_nil _ _ _).mono ?_)
    rintro e w3 ⟨rfl, hk3⟩
    have hw3 := HW2.out.keep hk3
    obtain ⟨bv, hb3, ho3⟩ := hw3.st
    obtain ⟨-, c1, -, -⟩ := cells2 hb3
    have HC3 := Lib.hid (HC1.out.trans hw3.c0 (by simp))
    rw [List.nil_append, show vb 0 = [0] from vb_lt (by decide)] at ho3
    have HO3 := Lib.hid ho3
    obtain ⟨ba, bc, rfl⟩ := own_shape ho3
    have HZ1 := Lib.hid HC1.out.size
    clear hk3 hw3 hb3 ho3
    go_wp2
    go_ret
    refine ⟨_, rfl, HC3.out, ?_⟩
    exact own_mono HO3.out (by have := HZ1.out; omega)

theorem mk_pos (ns : List Int) : 1 ≤ (mk ns).length ∧ (mk ns).length ≤ 1000 := by
  have h := mk_ok ns
  exact ⟨h.pos, by have := h.le; omega⟩

set_option maxRecDepth 100000 in
set_option maxHeartbeats 2000000 in
theorem known9_any (w : World) : Calls Try.prog 43 #[] w fun e w' => e = .returned (.bool true) ∧ Chg [] w w' := by
  have HNI := Lib.hid (show SeenI w nilS [] from ⟨none, 0, rfl, Nat.le_refl _, by decide, fun h => absurd h (by simp)⟩)
  go_enter Try.func43, Try.ntmps43
  go_wp2_with fail
  (with_reducible refine (make_any nilS [] w HNI.out (by simp)).mono ?_)
  rintro e w1 ⟨v, rfl, hown, hk1⟩
  obtain ⟨r, fo, m1, m2, m3, m4, m5⟩ := mk_wf []
  have HB := Lib.hid (bytes_nil v (mk []) r fo w1 (SeenF.own hown rfl) m1 m2 m5 m3 m4 (mk_pos []).2)
  have HC1 := Lib.hid hk1
  clear hown hk1 m1 m2 m3 m4 m5
  go_wp2_with fail
  (with_reducible refine HB.out.mono ?_)
  rintro e w2 ⟨x, rfl, hk2, ho2⟩
  obtain ⟨xa, xc, rfl⟩ := own_shape ho2
  obtain ⟨g, rfl, -, -, -, hc⟩ := own_ptr ho2 (by decide)
  have hc0 := hc 0 (.int .u8 0) rfl
  have HC2 := Lib.hid (HC1.out.trans hk2 (by simp))
  clear hk2 ho2 hc
  go_wp2
  go_ret
  exact ⟨rfl, HC2.out⟩

end Go.Proofs.Ythhcnlmjcpkbnaa
