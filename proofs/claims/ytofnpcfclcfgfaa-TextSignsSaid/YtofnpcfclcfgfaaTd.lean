/- How text.read stands at its labels. -/
import Derived.Test.YtofnpcfclcfgfaaTp
import Derived.Test.YtofnpcfclcfgfaaRm
namespace Go.Proofs.Ytofnpcfclcfgfaa
open Go.RowKit
set_option linter.unusedVariables false

theorem clone_any (s : ByteArray) (w : World) (hs : s.size ≤ 4000) : Calls Try.prog 64 #[.string s] w fun e w' => e = .returned (.string s) ∧ Chg [] w w' := by
  go_enter Try.func64, Try.ntmps64
  go_wp2_with fail
  (with_reducible refine (stringslite_Clone s w (by omega)).mono ?_)
  rintro e w1 ⟨rfl, hk⟩
  have HK := Lib.hid (Below.chg hk)
  clear hk
  go_wp2
  go_ret
  exact ⟨rfl, HK.out⟩

theorem reps_any (w : World) : Calls Try.prog 77 #[] w fun e w' => e = .returned (.slice (some ⟨w.heap.size, 0, none⟩) 3 3) ∧ w' = w.alloc (.cells (sv repsL).toArray 9) := by
  go_enter Try.func77, Try.ntmps77
  go_wp2
  go_ret
  exact ⟨rfl, rfl⟩

theorem kinds_any (w : World) : Calls Try.prog 78 #[] w fun e w' => e = .returned (.slice (some ⟨w.heap.size, 0, none⟩) 5 5) ∧ w' = w.alloc (.cells (sv kindsL).toArray 9) := by
  go_enter Try.func78, Try.ntmps78
  go_wp2
  go_ret
  exact ⟨rfl, rfl⟩

theorem lit_cells {w : World} {g : Nat} {l : List ByteArray} {T : TypeId} (h : w.heap[g]? = some (.cells (sv l).toArray T (0, 0))) : ∀ j, j < l.length → w.cell? ⟨g, 0 + j, none⟩ = some (.string (l.getD j ByteArray.empty)) := by
  intro j hj
  rw [Nat.zero_add, cell_of_row w g j _ _ _ h]
  simp [sv, List.getD, List.getElem?_eq_getElem hj]

structure RD (w w' : World) (gW gF : Nat) (ws : List ByteArray) (S : List F) (o : List (Nat × Int)) (r k : Int) (sv ov : Value) : Prop where
  cg : Chg [] w w'
  w1 : w.heap.size ≤ gW
  f1 : w.heap.size ≤ gF
  hW : ∃ wv, w'.heap[gW]? = some (.cells #[wv] 35 (0, 0)) ∧ SeenS w wv ws
  hF : ∃ nm, w'.heap[gF]? = some (.cells #[.string nm, .int .i64 r, .int .i64 k, .int .i64 0] 41 (0, 0))
  os : w'.ownsRow w.heap.size 41 4 sv S.length ((withC S o).flatMap F.cs)
  oo : w'.ownsRow w.heap.size 3 1 ov o.length (iv (grS o))
  sf : sv.ownBlock ≠ some gF
  ls : S.length ≤ 40
  lo : o.length ≤ 9
  od : ∀ e ∈ o, e.1 < S.length ∧ 0 ≤ e.2 ∧ e.2 ≤ S.length
  nd : o.Pairwise fun a b => a.1 ≠ b.1
  wz : ∀ x ∈ ws, x.size ≤ 4000
  wl : ws.length ≤ 8002

theorem blk_ne {w : World} {a b : Nat} {C D : Array Value} {T T' : TypeId} {fr fr' : Nat × Nat} (h : w.heap[a]? = some (.cells C T fr)) (h' : w.heap[b]? = some (.cells D T' fr')) (hT : T ≠ T') : a ≠ b := by
  rintro rfl
  rw [h] at h'
  injection h' with h'
  injection h' with _ h2
  exact hT h2

theorem own_ne {w : World} {B T size n b : Nat} {v : Value} {xs : List Value} {D : Array Value} {T' : TypeId} {fr : Nat × Nat} (h : w.ownsRow B T size v n xs) (h' : w.heap[b]? = some (.cells D T' fr)) (hT : T ≠ T') : ∀ g, v.ownBlock = some g → g ≠ b := by
  intro g hg
  obtain ⟨cur, fr', hc⟩ := tagged_of_own h g hg
  exact blk_ne hc h' hT

theorem RD.next {w w' w2 : World} {gW gF : Nat} {ws : List ByteArray} {S : List F} {o : List (Nat × Int)} {r k : Int} {sv ov wv : Value} (h : RD w w' gW gF ws S o r k sv ov) (hb : w2.heap[gW]? = some (.cells #[wv] 35 (0, 0))) (hs : SeenS w wv ws.tail) (hc : Chg [gW] w' w2) : RD w w2 gW gF ws.tail S o r k sv ov := by
  obtain ⟨wv0, hW, -⟩ := h.hW
  obtain ⟨nm, hF⟩ := h.hF
  refine ⟨h.cg.trans hc (by simp; exact h.w1), h.w1, h.f1, ⟨wv, hb, hs⟩, ⟨nm, hc.heap hF (by simpa using blk_ne hF hW (by decide))⟩, ?_, ?_, h.sf, h.ls, h.lo, h.od, h.nd, fun x hx => h.wz x (List.mem_of_mem_tail hx), by have := h.wl; simp; omega⟩
  · exact own_chg h.os hc (fun g hg => by simpa using own_ne h.os hW (by decide) g hg)
  · exact own_chg h.oo hc (fun g hg => by simpa using own_ne h.oo hW (by decide) g hg)

/-- Nothing of it has changed. -/
theorem RD.keep {w w' w2 : World} {gW gF : Nat} {ws : List ByteArray} {S : List F} {o : List (Nat × Int)} {r k : Int} {sv ov : Value} (h : RD w w' gW gF ws S o r k sv ov) (hc : Chg [] w' w2) : RD w w2 gW gF ws S o r k sv ov := by
  obtain ⟨wv0, hW, hs⟩ := h.hW
  obtain ⟨nm, hF⟩ := h.hF
  exact ⟨h.cg.trans hc (by simp), h.w1, h.f1, ⟨wv0, hc.heap hW (by simp), hs⟩, ⟨nm, hc.heap hF (by simp)⟩, own_chg h.os hc (by simp), own_chg h.oo hc (by simp), h.sf, h.ls, h.lo, h.od, h.nd, h.wz, h.wl⟩

/-- The field that is read has changed. -/
theorem RD.field {w w' w2 : World} {gW gF : Nat} {ws : List ByteArray} {S : List F} {o : List (Nat × Int)} {r k r' k' : Int} {sv ov : Value} {nm : ByteArray} (h : RD w w' gW gF ws S o r k sv ov) (hc : Chg [gF] w' w2) (hF2 : w2.heap[gF]? = some (.cells #[.string nm, .int .i64 r', .int .i64 k', .int .i64 0] 41 (0, 0))) : RD w w2 gW gF ws S o r' k' sv ov := by
  obtain ⟨wv0, hW, hs⟩ := h.hW
  obtain ⟨nm0, hF⟩ := h.hF
  refine ⟨h.cg.trans hc (by simp; exact h.f1), h.w1, h.f1, ⟨wv0, hc.heap hW (by simpa using (blk_ne hF hW (by decide)).symm), hs⟩, ⟨nm, hF2⟩, own_chg h.os hc (fun g hg => ?_), own_chg h.oo hc (fun g hg => by simpa using own_ne h.oo hF (by decide) g hg), h.sf, h.ls, h.lo, h.od, h.nd, h.wz, h.wl⟩
  rintro hm
  simp at hm
  exact h.sf (by rw [hg, hm])

abbrev DF (gW gF : Nat) (s0 sv ov wd : Value) (u : Nat → Value) : Act :=
  { tmps := #[s0, .pointer (some ⟨gW, 0, none⟩), .slice none 0 0, .int .i64 0, .func (.func 82) #[] #[.pointer (some ⟨gW, 0, none⟩)], sv, ov, .pointer (some ⟨gF, 0, none⟩), wd, u 9, u 10, u 11, u 12, u 13, u 14, u 15, u 16, u 17, u 18, u 19, u 20, u 21, u 22, u 23, u 24, u 25, u 26, u 27, u 28, u 29, u 30, u 31, u 32, u 33, u 34, u 35, u 36, u 37, u 38, u 39, u 40, u 41, u 42, u 43, u 44, u 45, u 46, u 47, u 48, u 49, u 50, u 51, u 52, u 53, u 54, u 55, u 56, u 57, u 58, u 59, u 60, u 61, u 62, u 63, u 64, u 65, u 66, u 67, u 68, u 69, u 70, u 71, u 72, u 73, u 74, u 75, u 76, u 77, u 78, u 79, u 80, u 81, u 82, u 83, u 84, u 85, u 86, u 87, u 88, u 89, u 90, u 91, u 92, u 93, u 94, u 95, u 96, u 97, u 98, u 99, u 100, u 101, u 102, u 103, u 104, u 105, u 106, u 107, u 108], defers := [] }

theorem DF_of {gW gF : Nat} {s0 sv ov wd : Value} {a : Act} (h : a = DF gW gF s0 sv ov wd (fun j => a.tmps.getD j undef)) : ∃ u, a = DF gW gF s0 sv ov wd u := ⟨_, h⟩

def JR (w : World) (s0 : Value) (R : Int × List F) : Nat → Act → World → Prop
  | 0, a, w' => R = (6, []) ∧ (∃ gW gF sv ov wd u, a = DF gW gF s0 sv ov wd u) ∧ Chg [] w w'
  | 1, a, w' => ∃ gW gF sv ov wd ws S o r k, (∃ u, a = DF gW gF s0 sv ov wd u) ∧ RD w w' gW gF ws S o r k sv ov ∧ nmR ws r k S o = R ∧ (o = [] → k = 0)
  | 2, a, w' => ∃ gW gF sv ov x ws S o r k, (∃ u, a = DF gW gF s0 sv ov (.string x) u) ∧ RD w w' gW gF ws S o r k sv ov ∧ fdR x ws S o = R ∧ o ≠ [] ∧ x.size ≤ 4000
  | 3, a, w' => ∃ gW gF sv ov wd ws S o r k, (∃ u, a = DF gW gF s0 sv ov wd u) ∧ RD w w' gW gF ws S o r k sv ov ∧ rdM false ws S o = R ∧ o ≠ []
  | _, _, _ => False

theorem b_eq {x y : ByteArray} {l : List UInt8} (hl : y.toList = l) (h : x = y) : (x.toList == l) = true := by rw [h, hl]; simp
theorem b_ne {x y : ByteArray} {l : List UInt8} (hl : y.toList = l) (h : x ≠ y) : (x.toList == l) = false := by
  rw [Bool.eq_false_iff]
  intro hb
  exact h (bytes_ext (by rw [hl]; exact hb))
theorem lCl : wCl.toList = [125] := by simp [wCl]
theorem lOp : wOp.toList = [123] := by simp [wOp]
theorem lSc : wSc.toList = [59] := by simp [wSc]
theorem lMsg : wMsg.toList = [109, 101, 115, 115, 97, 103, 101] := by simp [wMsg]

theorem RD.left {w w' : World} {gW gF : Nat} {ws : List ByteArray} {S : List F} {o : List (Nat × Int)} {r k : Int} {sv ov : Value} (h : RD w w' gW gF ws S o r k sv ov) : ∃ wv, w'.heap[gW]? = some (.cells #[wv] 35 (0, 0)) ∧ SeenS w wv ws ∧ ∃ a c, wv = .slice a ws.length c := by
  obtain ⟨wv, h1, h2⟩ := h.hW
  obtain ⟨a, c, e, _⟩ := h2.shape
  exact ⟨wv, h1, h2, a, c, e⟩

/-- How many words are left. -/
def left (w : World) (v : Value) : Nat := match v with
  | .pointer (some a) => slen ((w.cell? a).getD undef)
  | _ => 0
theorem left_of {w : World} {g n c : Nat} {a : Option Addr} {T : TypeId} {fr : Nat × Nat} (h : w.heap[g]? = some (.cells #[.slice a n c] T fr)) : left w (.pointer (some ⟨g, 0, none⟩)) = n := by
  have e : w.cell? ⟨g, 0, none⟩ = some (.slice a n c) := by simp [World.cell?, h]
  unfold left
  simp only [e]
  rfl

def MR (l : Nat) (a : Act) (w : World) : Nat := 4 * left w (a.tmps.getD 1 undef) + l

/-- What read answers. -/
def ReadOut (R : Int × List F) (w : World) (e : Ending) (w' : World) : Prop :=
  (R.1 = 0 ∧ ∃ v, e = .returned (.tuple #[v, .int .i64 0]) ∧ w'.ownsRow w.heap.size 41 4 v R.2.length (R.2.flatMap F.cs)) ∨ (R.1 ≠ 0 ∧ e = .returned (.tuple #[.slice none 0 0, .int .i64 R.1]))

theorem RD.num {w w' : World} {gW gF : Nat} {ws : List ByteArray} {S : List F} {o : List (Nat × Int)} {r k : Int} {sv ov : Value} (h : RD w w' gW gF ws S o r k sv ov) : Go.Proofs.Ytofnpcfclcfgfaa.left w' (.pointer (some ⟨gW, 0, none⟩)) = ws.length := by
  obtain ⟨wv, h1, h2, a, c, rfl⟩ := h.left
  exact left_of h1

/-- A group ends. -/
theorem RD.close {w w' : World} {gW gF : Nat} {ws : List ByteArray} {S : List F} {g : Nat} {n : Int} {o : List (Nat × Int)} {r k : Int} {sv : Value} {go c : Nat} (h : RD w w' gW gF ws S ((g, n) :: o) r k sv (.slice (some ⟨go, 0, none⟩) (o.length + 1) c)) : RD w w' gW gF ws (setC S g n) o r k sv (.slice (some ⟨go, 0, none⟩) o.length c) := by
  have h1 := own_front h.oo o.length (by simp)
  rw [grS_pop] at h1
  refine ⟨h.cg, h.w1, h.f1, h.hW, h.hF, by simpa [withC] using h.os, h1, h.sf, by simpa using h.ls, by have := h.lo; simp at this; omega, fun e he => by simpa using h.od e (by simp [he]), (List.pairwise_cons.1 h.nd).2, h.wz, h.wl⟩

end Go.Proofs.Ytofnpcfclcfgfaa
