/- ShredCutNone. -/
import Derived.Test.YtfdmbpfpdijpdaaSho
import Derived.Test.YtfdmbpfpdijpdaaShq
import Derived.Test.YtfdmbpfpdijpdaaShr
import Derived.Test.YtfdmbpfpdijpdaaRm
import Derived.Test.YtfdmbpfpdijpdaaShy
import Derived.Test.YtfdmbpfpdijpdaaA1
import Derived.Test.YtfdmbpfpdijpdaaVd
namespace Go.Proofs.Ytfdmbpfpdijpdaa
open Go.RowKit
set_option linter.unusedVariables false
set_option linter.unusedSimpArgs false

theorem stTo_first (R : List Int) (h : R.getD 0 0 = 0) : ∀ k, 0 < k → (stTo R k)[0]? = some 0
  | 0, hk => absurd hk (by simp)
  | 1, _ => by rw [stTo, if_pos h]; rfl
  | k + 2, _ => by
    have ih := stTo_first R h (k + 1) (Nat.succ_pos _)
    rw [stTo, List.getElem?_append_left (List.getElem?_eq_some_iff.1 ih).1]
    exact ih

theorem stTo_col (C : List Cl) : ∀ k, k ≤ C.length → (stTo (colR C) k).length = ((C.take k).filter fun c => decide (c.r = 0)).length
  | 0, _ => rfl
  | k + 1, h => by
    have ih := stTo_col C k (by omega)
    have hx : C[k]? = some C[k] := List.getElem?_eq_getElem (by omega)
    have hd : (colR C).getD k 0 = ((C[k].r : Nat) : Int) := by simp [colR, List.getD, hx]
    rw [stTo, List.length_append, ih, List.take_add_one, hx, List.filter_append, List.length_append, hd]
    by_cases h0 : C[k].r = 0
    · have h1 : ((C[k].r : Nat) : Int) = 0 := by omega
      simp [h0]
    · have h1 : ¬ ((C[k].r : Nat) : Int) = 0 := by omega
      simp [h0]

theorem cntX_col (C : List Cl) (x : Int) : ∀ k, k ≤ C.length → cntX (colD C) x k = ((C.take k).filter fun c => decide ((c.d : Int) = x)).length
  | 0, _ => rfl
  | k + 1, h => by
    have ih := cntX_col C x k (by omega)
    have hx : C[k]? = some C[k] := List.getElem?_eq_getElem (by omega)
    have hd : (colD C).getD k 0 = ((C[k].d : Nat) : Int) := by simp [colD, List.getD, hx]
    rw [cntX, ih, List.take_add_one, hx, List.filter_append, List.length_append, hd]
    by_cases h0 : ((C[k].d : Nat) : Int) = x
    · simp [h0]
    · simp [h0]

theorem cell_set3 {W : World} {B : Nat} {a b c : Value} {T : TypeId} (hb : W.heap[B]? = some (.cells #[a, b, c] T (0, 0))) (X Y Z : Value) : (((W.setCell ⟨B, 0, none⟩ X).setCell ⟨B, 1, none⟩ Y).setCell ⟨B, 2, none⟩ Z).cell? ⟨B, 0, none⟩ = some X := by
  rw [cell_of_row _ B 0 _ _ _ (set3 hb X Y Z)]; rfl

abbrev FRN10 (N M n K ga fg foff fc lc xx yy : Nat) (lo rao dao vao : Option Addr) (rac dac vac : Nat) (A0 A1 A2 A3 a3 : Int) (Bz0 : Nat) (x10 : Option Addr) (x20 : Option Addr) (x30 : Option Addr) (y10 : Nat) (y20 : Nat) (y30 : Nat) (base u : Nat → Value) : Act := { tmps := #[base 0, base 1, base 2, .int .i64 a3, base 4, base 5, base 6, base 7, base 8, base 9, .slice lo M lc, .slice (some ⟨ga, 0, none⟩) N N, base 12, .slice (some ⟨fg, foff, none⟩) N fc, .int .i64 (xx : Int), u 15, base 16, base 17, base 18, base 19, base 20, base 21, base 22, base 23, base 24, base 25, base 26, base 27, base 28, base 29, base 30, base 31, base 32, base 33, base 34, base 35, base 36, base 37, base 38, base 39, base 40, base 41, base 42, base 43, base 44, base 45, base 46, base 47, u 48, u 49, u 50, u 51, u 52, u 53, u 54, u 55, u 56, base 57, base 58, base 59, base 60, base 61, base 62, base 63, base 64, base 65, base 66, base 67, base 68, base 69, base 70, base 71, base 72, base 73, base 74, base 75, base 76, base 77, base 78, base 79, base 80, base 81, base 82, base 83, base 84, base 85, base 86, base 87, base 88, base 89, base 90, base 91, base 92, base 93, base 94, base 95, base 96, base 97, base 98, base 99, base 100, base 101, base 102, base 103, base 104, base 105, base 106, base 107, base 108, base 109, base 110, base 111, base 112, base 113, base 114, base 115, base 116, base 117, base 118, base 119, base 120, base 121, base 122, base 123, base 124, base 125, base 126, base 127, base 128], defers := [] }

structure RIN10 (N M n K ga fg foff fc lc xx yy : Nat) (lo rao dao vao : Option Addr) (rac dac vac : Nat) (A0 A1 A2 A3 a3 : Int) (wc : World) (b : Nat → Bool) (u : Nat → Value) (Bz0 : Nat) (x10 : Option Addr) (x20 : Option Addr) (x30 : Option Addr) (y10 : Nat) (y20 : Nat) (y30 : Nat) (w' : World) : Prop where
  c0 : b 0 = true → u 48 = .slice (some ⟨ga, 0, none⟩) N N
  c1 : b 1 = true → u 49 = .pointer (some ⟨ga, 0, none⟩)
  c2 : b 2 = true → u 50 = .agg #[.slice rao n rac, .slice dao n dac, .slice vao K vac]
  c3 : b 3 = true → u 51 = .slice (some ⟨fg, foff, none⟩) N fc
  c4 : b 4 = true → u 52 = .pointer (some ⟨fg, foff, none⟩)
  c5 : b 5 = true → u 53 = .agg #[.int .i64 A0, .int .i64 A1, .int .i64 A2, .int .i64 A3]
  c6 : b 6 = true → u 54 = .int .i64 (xx : Int)
  c7 : b 7 = true → u 55 = .int .i64 (xx : Int)
  c8 : b 8 = true → u 56 = .agg #[.slice x10 0 y10, .slice x20 0 y20, .slice x30 0 y30]
  c9 : b 9 = true → u 15 = .pointer (some ⟨Bz0, 0, none⟩)
  cg : Chg [] wc w'
  hB : b 9 = true → wc.heap.size ≤ Bz0
  mB : b 9 = true → b 10 = false → w'.heap[Bz0]? = some (.cells #[.slice none 0 0, .slice none 0 0, .slice none 0 0] 42 (0, 0))
  m2 : b 10 = true → w'.cell? ⟨Bz0, 0, none⟩ = some (.slice x10 0 y10)
  z10_9 : b 10 = true → b 9 = true
  z10_8 : b 10 = true → b 8 = true

def JIN10 (N M n K ga fg foff fc lc xx yy : Nat) (lo rao dao vao : Option Addr) (rac dac vac : Nat) (A0 A1 A2 A3 a3 : Int) (base : Nat → Value) (wc : World) (listed : Array Bool) (a' : Act) (w' : World) : Prop :=
  ∃ (b : Nat → Bool) (u : Nat → Value) (Bz0 : Nat) (x10 : Option Addr) (x20 : Option Addr) (x30 : Option Addr) (y10 : Nat) (y20 : Nat) (y30 : Nat), listed = #[b 0, b 1, b 2, b 3, b 4, b 5, b 6, b 7, b 8, b 9, b 10] ∧ a' = FRN10 N M n K ga fg foff fc lc xx yy lo rao dao vao rac dac vac A0 A1 A2 A3 a3 Bz0 x10 x20 x30 y10 y20 y30 base u ∧ RIN10 N M n K ga fg foff fc lc xx yy lo rao dao vao rac dac vac A0 A1 A2 A3 a3 wc b u Bz0 x10 x20 x30 y10 y20 y30 w'

theorem JIN10_start {N M n K ga fg foff fc lc xx yy : Nat} {lo rao dao vao : Option Addr} {rac dac vac : Nat} {A0 A1 A2 A3 a3 : Int} {wc w' : World} {base u0 : Nat → Value} (hc : Chg [] wc w') : JIN10 N M n K ga fg foff fc lc xx yy lo rao dao vao rac dac vac A0 A1 A2 A3 a3 base wc (Array.replicate 11 false) (FRN10 N M n K ga fg foff fc lc xx yy lo rao dao vao rac dac vac A0 A1 A2 A3 a3 0 none none none 0 0 0 base u0) w' :=
  ⟨fun _ => false, _, 0, none, none, none, 0, 0, 0, rfl, rfl, by constructor <;> simp [hc]⟩

theorem ltN10 : ∀ i : Nat, i < 11 → i = 0 ∨ i = 1 ∨ i = 2 ∨ i = 3 ∨ i = 4 ∨ i = 5 ∨ i = 6 ∨ i = 7 ∨ i = 8 ∨ i = 9 ∨ i = 10 := by intro i h; omega

abbrev FRN11 (N M n K ga fg foff fc lc xx yy : Nat) (lo rao dao vao : Option Addr) (rac dac vac : Nat) (A0 A1 A2 A3 a3 : Int) (D0 : Nat) (Bz1 : Nat) (x11 : Option Addr) (x21 : Option Addr) (x31 : Option Addr) (y11 : Nat) (y21 : Nat) (y31 : Nat) (base u : Nat → Value) : Act := { tmps := #[base 0, base 1, base 2, .int .i64 a3, base 4, base 5, base 6, base 7, base 8, base 9, .slice lo M lc, .slice (some ⟨ga, 0, none⟩) N N, base 12, .slice (some ⟨fg, foff, none⟩) N fc, .int .i64 (xx : Int), .pointer (some ⟨D0, 0, none⟩), u 16, base 17, base 18, base 19, base 20, base 21, base 22, base 23, base 24, base 25, base 26, base 27, base 28, base 29, base 30, base 31, base 32, base 33, base 34, base 35, base 36, base 37, base 38, base 39, base 40, base 41, base 42, base 43, base 44, base 45, base 46, base 47, base 48, base 49, base 50, base 51, base 52, base 53, base 54, base 55, base 56, u 57, u 58, u 59, u 60, u 61, u 62, u 63, u 64, u 65, u 66, u 67, base 68, base 69, base 70, base 71, base 72, base 73, base 74, base 75, base 76, base 77, base 78, base 79, base 80, base 81, base 82, base 83, base 84, base 85, base 86, base 87, base 88, base 89, base 90, base 91, base 92, base 93, base 94, base 95, base 96, base 97, base 98, base 99, base 100, base 101, base 102, base 103, base 104, base 105, base 106, base 107, base 108, base 109, base 110, base 111, base 112, base 113, base 114, base 115, base 116, base 117, base 118, base 119, base 120, base 121, base 122, base 123, base 124, base 125, base 126, base 127, base 128], defers := [] }

structure RIN11 (N M n K ga fg foff fc lc xx yy : Nat) (lo rao dao vao : Option Addr) (rac dac vac : Nat) (A0 A1 A2 A3 a3 : Int) (D0 : Nat) (wc : World) (b : Nat → Bool) (u : Nat → Value) (Bz1 : Nat) (x11 : Option Addr) (x21 : Option Addr) (x31 : Option Addr) (y11 : Nat) (y21 : Nat) (y31 : Nat) (w' : World) : Prop where
  c0 : b 0 = true → u 57 = .slice (some ⟨ga, 0, none⟩) N N
  c1 : b 1 = true → u 58 = .pointer (some ⟨ga, 0, none⟩)
  c2 : b 2 = true → u 59 = .agg #[.slice rao n rac, .slice dao n dac, .slice vao K vac]
  c3 : b 3 = true → u 60 = .slice (some ⟨fg, foff, none⟩) N fc
  c4 : b 4 = true → u 61 = .pointer (some ⟨fg, foff, none⟩)
  c5 : b 5 = true → u 62 = .agg #[.int .i64 A0, .int .i64 A1, .int .i64 A2, .int .i64 A3]
  c6 : b 6 = true → u 63 = .int .i64 a3
  c7 : b 7 = true → u 64 = .int .i64 (yy : Int)
  c8 : b 8 = true → u 65 = .int .i64 (-1 - (yy : Int))
  c9 : b 9 = true → u 66 = .int .i64 (xx : Int)
  c10 : b 10 = true → u 67 = .agg #[.slice x11 0 y11, .slice x21 0 y21, .slice x31 0 y31]
  c11 : b 11 = true → u 16 = .pointer (some ⟨Bz1, 0, none⟩)
  cg : Chg [] wc w'
  hB : b 11 = true → wc.heap.size ≤ Bz1
  mB : b 11 = true → b 12 = false → w'.heap[Bz1]? = some (.cells #[.slice none 0 0, .slice none 0 0, .slice none 0 0] 42 (0, 0))
  m2 : b 12 = true → w'.cell? ⟨Bz1, 0, none⟩ = some (.slice x11 0 y11)
  z12_11 : b 12 = true → b 11 = true
  z12_10 : b 12 = true → b 10 = true

def JIN11 (N M n K ga fg foff fc lc xx yy : Nat) (lo rao dao vao : Option Addr) (rac dac vac : Nat) (A0 A1 A2 A3 a3 : Int) (D0 : Nat) (base : Nat → Value) (wc : World) (listed : Array Bool) (a' : Act) (w' : World) : Prop :=
  ∃ (b : Nat → Bool) (u : Nat → Value) (Bz1 : Nat) (x11 : Option Addr) (x21 : Option Addr) (x31 : Option Addr) (y11 : Nat) (y21 : Nat) (y31 : Nat), listed = #[b 0, b 1, b 2, b 3, b 4, b 5, b 6, b 7, b 8, b 9, b 10, b 11, b 12] ∧ a' = FRN11 N M n K ga fg foff fc lc xx yy lo rao dao vao rac dac vac A0 A1 A2 A3 a3 D0 Bz1 x11 x21 x31 y11 y21 y31 base u ∧ RIN11 N M n K ga fg foff fc lc xx yy lo rao dao vao rac dac vac A0 A1 A2 A3 a3 D0 wc b u Bz1 x11 x21 x31 y11 y21 y31 w'

theorem JIN11_start {N M n K ga fg foff fc lc xx yy : Nat} {lo rao dao vao : Option Addr} {rac dac vac : Nat} {A0 A1 A2 A3 a3 : Int} {D0 : Nat} {wc w' : World} {base u0 : Nat → Value} (hc : Chg [] wc w') : JIN11 N M n K ga fg foff fc lc xx yy lo rao dao vao rac dac vac A0 A1 A2 A3 a3 D0 base wc (Array.replicate 13 false) (FRN11 N M n K ga fg foff fc lc xx yy lo rao dao vao rac dac vac A0 A1 A2 A3 a3 D0 0 none none none 0 0 0 base u0) w' :=
  ⟨fun _ => false, _, 0, none, none, none, 0, 0, 0, rfl, rfl, by constructor <;> simp [hc]⟩

theorem ltN11 : ∀ i : Nat, i < 13 → i = 0 ∨ i = 1 ∨ i = 2 ∨ i = 3 ∨ i = 4 ∨ i = 5 ∨ i = 6 ∨ i = 7 ∨ i = 8 ∨ i = 9 ∨ i = 10 ∨ i = 11 ∨ i = 12 := by intro i h; omega

abbrev FRN12 (N M n K ga fg foff fc lc xx yy : Nat) (lo rao dao vao : Option Addr) (rac dac vac : Nat) (A0 A1 A2 A3 a3 : Int) (D0 : Nat) (D1 : Nat) (Bz2 : Nat) (x12 : Option Addr) (x22 : Option Addr) (x32 : Option Addr) (y12 : Nat) (y22 : Nat) (y32 : Nat) (base u : Nat → Value) : Act := { tmps := #[base 0, base 1, base 2, .int .i64 a3, base 4, base 5, base 6, base 7, base 8, base 9, .slice lo M lc, .slice (some ⟨ga, 0, none⟩) N N, base 12, .slice (some ⟨fg, foff, none⟩) N fc, .int .i64 (xx : Int), .pointer (some ⟨D0, 0, none⟩), .pointer (some ⟨D1, 0, none⟩), u 17, base 18, base 19, base 20, base 21, base 22, base 23, base 24, base 25, base 26, base 27, base 28, base 29, base 30, base 31, base 32, base 33, base 34, base 35, base 36, base 37, base 38, base 39, base 40, base 41, base 42, base 43, base 44, base 45, base 46, base 47, base 48, base 49, base 50, base 51, base 52, base 53, base 54, base 55, base 56, base 57, base 58, base 59, base 60, base 61, base 62, base 63, base 64, base 65, base 66, base 67, u 68, u 69, u 70, u 71, u 72, u 73, u 74, u 75, u 76, u 77, u 78, u 79, u 80, u 81, base 82, base 83, base 84, base 85, base 86, base 87, base 88, base 89, base 90, base 91, base 92, base 93, base 94, base 95, base 96, base 97, base 98, base 99, base 100, base 101, base 102, base 103, base 104, base 105, base 106, base 107, base 108, base 109, base 110, base 111, base 112, base 113, base 114, base 115, base 116, base 117, base 118, base 119, base 120, base 121, base 122, base 123, base 124, base 125, base 126, base 127, base 128], defers := [] }

structure RIN12 (N M n K ga fg foff fc lc xx yy : Nat) (lo rao dao vao : Option Addr) (rac dac vac : Nat) (A0 A1 A2 A3 a3 : Int) (D0 : Nat) (D1 : Nat) (wc : World) (b : Nat → Bool) (u : Nat → Value) (Bz2 : Nat) (x12 : Option Addr) (x22 : Option Addr) (x32 : Option Addr) (y12 : Nat) (y22 : Nat) (y32 : Nat) (w' : World) : Prop where
  c0 : b 0 = true → u 68 = .slice (some ⟨ga, 0, none⟩) N N
  c1 : b 1 = true → u 69 = .pointer (some ⟨ga, 0, none⟩)
  c2 : b 2 = true → u 70 = .agg #[.slice rao n rac, .slice dao n dac, .slice vao K vac]
  c3 : b 3 = true → u 71 = .slice (some ⟨fg, foff, none⟩) N fc
  c4 : b 4 = true → u 72 = .pointer (some ⟨fg, foff, none⟩)
  c5 : b 5 = true → u 73 = .agg #[.int .i64 A0, .int .i64 A1, .int .i64 A2, .int .i64 A3]
  c6 : b 6 = true → u 74 = .int .i64 (xx : Int)
  c7 : b 7 = true → u 75 = .slice lo M lc
  c8 : b 8 = true → u 76 = .int .i64 (M : Int)
  c9 : b 9 = true → u 77 = .int .i64 ((M : Int) + 1)
  c10 : b 10 = true → u 78 = .int .i64 a3
  c11 : b 11 = true → u 79 = .int .i64 (yy : Int)
  c12 : b 12 = true → u 80 = .int .i64 ((M : Int) + 1 + (yy : Int))
  c13 : b 13 = true → u 81 = .agg #[.slice x12 0 y12, .slice x22 0 y22, .slice x32 0 y32]
  c14 : b 14 = true → u 17 = .pointer (some ⟨Bz2, 0, none⟩)
  cg : Chg [] wc w'
  hB : b 14 = true → wc.heap.size ≤ Bz2
  mB : b 14 = true → b 15 = false → w'.heap[Bz2]? = some (.cells #[.slice none 0 0, .slice none 0 0, .slice none 0 0] 42 (0, 0))
  m2 : b 15 = true → w'.cell? ⟨Bz2, 0, none⟩ = some (.slice x12 0 y12)
  z15_14 : b 15 = true → b 14 = true
  z15_13 : b 15 = true → b 13 = true

def JIN12 (N M n K ga fg foff fc lc xx yy : Nat) (lo rao dao vao : Option Addr) (rac dac vac : Nat) (A0 A1 A2 A3 a3 : Int) (D0 : Nat) (D1 : Nat) (base : Nat → Value) (wc : World) (listed : Array Bool) (a' : Act) (w' : World) : Prop :=
  ∃ (b : Nat → Bool) (u : Nat → Value) (Bz2 : Nat) (x12 : Option Addr) (x22 : Option Addr) (x32 : Option Addr) (y12 : Nat) (y22 : Nat) (y32 : Nat), listed = #[b 0, b 1, b 2, b 3, b 4, b 5, b 6, b 7, b 8, b 9, b 10, b 11, b 12, b 13, b 14, b 15] ∧ a' = FRN12 N M n K ga fg foff fc lc xx yy lo rao dao vao rac dac vac A0 A1 A2 A3 a3 D0 D1 Bz2 x12 x22 x32 y12 y22 y32 base u ∧ RIN12 N M n K ga fg foff fc lc xx yy lo rao dao vao rac dac vac A0 A1 A2 A3 a3 D0 D1 wc b u Bz2 x12 x22 x32 y12 y22 y32 w'

theorem JIN12_start {N M n K ga fg foff fc lc xx yy : Nat} {lo rao dao vao : Option Addr} {rac dac vac : Nat} {A0 A1 A2 A3 a3 : Int} {D0 : Nat} {D1 : Nat} {wc w' : World} {base u0 : Nat → Value} (hc : Chg [] wc w') : JIN12 N M n K ga fg foff fc lc xx yy lo rao dao vao rac dac vac A0 A1 A2 A3 a3 D0 D1 base wc (Array.replicate 16 false) (FRN12 N M n K ga fg foff fc lc xx yy lo rao dao vao rac dac vac A0 A1 A2 A3 a3 D0 D1 0 none none none 0 0 0 base u0) w' :=
  ⟨fun _ => false, _, 0, none, none, none, 0, 0, 0, rfl, rfl, by constructor <;> simp [hc]⟩

theorem ltN12 : ∀ i : Nat, i < 16 → i = 0 ∨ i = 1 ∨ i = 2 ∨ i = 3 ∨ i = 4 ∨ i = 5 ∨ i = 6 ∨ i = 7 ∨ i = 8 ∨ i = 9 ∨ i = 10 ∨ i = 11 ∨ i = 12 ∨ i = 13 ∨ i = 14 ∨ i = 15 := by intro i h; omega

abbrev FRN13 (N M n K ga fg foff fc lc xx yy : Nat) (lo rao dao vao : Option Addr) (rac dac vac : Nat) (A0 A1 A2 A3 a3 : Int) (D0 : Nat) (D1 : Nat) (D2 : Nat) (Bz3 : Nat) (x13 : Option Addr) (x23 : Option Addr) (x33 : Option Addr) (y13 : Nat) (y23 : Nat) (y33 : Nat) (base u : Nat → Value) : Act := { tmps := #[base 0, base 1, base 2, .int .i64 a3, base 4, base 5, base 6, base 7, base 8, base 9, .slice lo M lc, .slice (some ⟨ga, 0, none⟩) N N, base 12, .slice (some ⟨fg, foff, none⟩) N fc, .int .i64 (xx : Int), .pointer (some ⟨D0, 0, none⟩), .pointer (some ⟨D1, 0, none⟩), .pointer (some ⟨D2, 0, none⟩), u 18, base 19, base 20, base 21, base 22, base 23, base 24, base 25, base 26, base 27, base 28, base 29, base 30, base 31, base 32, base 33, base 34, base 35, base 36, base 37, base 38, base 39, base 40, base 41, base 42, base 43, base 44, base 45, base 46, base 47, base 48, base 49, base 50, base 51, base 52, base 53, base 54, base 55, base 56, base 57, base 58, base 59, base 60, base 61, base 62, base 63, base 64, base 65, base 66, base 67, base 68, base 69, base 70, base 71, base 72, base 73, base 74, base 75, base 76, base 77, base 78, base 79, base 80, base 81, u 82, u 83, u 84, u 85, u 86, u 87, u 88, u 89, u 90, u 91, base 92, base 93, base 94, base 95, base 96, base 97, base 98, base 99, base 100, base 101, base 102, base 103, base 104, base 105, base 106, base 107, base 108, base 109, base 110, base 111, base 112, base 113, base 114, base 115, base 116, base 117, base 118, base 119, base 120, base 121, base 122, base 123, base 124, base 125, base 126, base 127, base 128], defers := [] }

structure RIN13 (N M n K ga fg foff fc lc xx yy : Nat) (lo rao dao vao : Option Addr) (rac dac vac : Nat) (A0 A1 A2 A3 a3 : Int) (D0 : Nat) (D1 : Nat) (D2 : Nat) (wc : World) (b : Nat → Bool) (u : Nat → Value) (Bz3 : Nat) (x13 : Option Addr) (x23 : Option Addr) (x33 : Option Addr) (y13 : Nat) (y23 : Nat) (y33 : Nat) (w' : World) : Prop where
  c0 : b 0 = true → u 82 = .slice (some ⟨ga, 0, none⟩) N N
  c1 : b 1 = true → u 83 = .pointer (some ⟨ga, 0, none⟩)
  c2 : b 2 = true → u 84 = .agg #[.slice rao n rac, .slice dao n dac, .slice vao K vac]
  c3 : b 3 = true → u 85 = .slice (some ⟨fg, foff, none⟩) N fc
  c4 : b 4 = true → u 86 = .pointer (some ⟨fg, foff, none⟩)
  c5 : b 5 = true → u 87 = .agg #[.int .i64 A0, .int .i64 A1, .int .i64 A2, .int .i64 A3]
  c6 : b 6 = true → u 88 = .int .i64 (xx : Int)
  c7 : b 7 = true → u 89 = .int .i64 ((xx : Int) + 1)
  c8 : b 8 = true → u 90 = .int .i64 (xx : Int)
  c9 : b 9 = true → u 91 = .agg #[.slice x13 0 y13, .slice x23 0 y23, .slice x33 0 y33]
  c10 : b 10 = true → u 18 = .pointer (some ⟨Bz3, 0, none⟩)
  cg : Chg [] wc w'
  hB : b 10 = true → wc.heap.size ≤ Bz3
  mB : b 10 = true → b 11 = false → w'.heap[Bz3]? = some (.cells #[.slice none 0 0, .slice none 0 0, .slice none 0 0] 42 (0, 0))
  m2 : b 11 = true → w'.cell? ⟨Bz3, 0, none⟩ = some (.slice x13 0 y13)
  z11_10 : b 11 = true → b 10 = true
  z11_9 : b 11 = true → b 9 = true

def JIN13 (N M n K ga fg foff fc lc xx yy : Nat) (lo rao dao vao : Option Addr) (rac dac vac : Nat) (A0 A1 A2 A3 a3 : Int) (D0 : Nat) (D1 : Nat) (D2 : Nat) (base : Nat → Value) (wc : World) (listed : Array Bool) (a' : Act) (w' : World) : Prop :=
  ∃ (b : Nat → Bool) (u : Nat → Value) (Bz3 : Nat) (x13 : Option Addr) (x23 : Option Addr) (x33 : Option Addr) (y13 : Nat) (y23 : Nat) (y33 : Nat), listed = #[b 0, b 1, b 2, b 3, b 4, b 5, b 6, b 7, b 8, b 9, b 10, b 11] ∧ a' = FRN13 N M n K ga fg foff fc lc xx yy lo rao dao vao rac dac vac A0 A1 A2 A3 a3 D0 D1 D2 Bz3 x13 x23 x33 y13 y23 y33 base u ∧ RIN13 N M n K ga fg foff fc lc xx yy lo rao dao vao rac dac vac A0 A1 A2 A3 a3 D0 D1 D2 wc b u Bz3 x13 x23 x33 y13 y23 y33 w'

theorem JIN13_start {N M n K ga fg foff fc lc xx yy : Nat} {lo rao dao vao : Option Addr} {rac dac vac : Nat} {A0 A1 A2 A3 a3 : Int} {D0 : Nat} {D1 : Nat} {D2 : Nat} {wc w' : World} {base u0 : Nat → Value} (hc : Chg [] wc w') : JIN13 N M n K ga fg foff fc lc xx yy lo rao dao vao rac dac vac A0 A1 A2 A3 a3 D0 D1 D2 base wc (Array.replicate 12 false) (FRN13 N M n K ga fg foff fc lc xx yy lo rao dao vao rac dac vac A0 A1 A2 A3 a3 D0 D1 D2 0 none none none 0 0 0 base u0) w' :=
  ⟨fun _ => false, _, 0, none, none, none, 0, 0, 0, rfl, rfl, by constructor <;> simp [hc]⟩

theorem ltN13 : ∀ i : Nat, i < 12 → i = 0 ∨ i = 1 ∨ i = 2 ∨ i = 3 ∨ i = 4 ∨ i = 5 ∨ i = 6 ∨ i = 7 ∨ i = 8 ∨ i = 9 ∨ i = 10 ∨ i = 11 := by intro i h; omega

set_option maxRecDepth 100000 in
set_option maxHeartbeats 8000000 in
theorem walk_ShredCutNone (a0 : Option Addr) (len0 cap0 : Nat) (z0 : List Int) (a1 : Option Addr) (len1 cap1 : Nat) (rs : List (List Int)) (a2 a3 : Int) (w : World) (w0 : IsRow .i64 w a0 len0 cap0 z0) (w1 : RowsI w (.slice a1 len1 cap1) rs) (w2 : (Lit.int .i64 a2).wf = true) (w3 : (Lit.int .i64 a3).wf = true) :
    Calls Try.prog 13 #[.slice a0 len0 cap0, .slice a1 len1 cap1, .int .i64 a2, .int .i64 a3] w fun e w' => e = .returned (.bool true) ∧ Below w.heap.size w w' := by
  obtain ⟨i0, hi, hz0, hz1, hz2⟩ := info_value
  obtain ⟨ns, hS, hlen, hwf⟩ := w0.seenI
  have HS := Lib.hid hS; have HWF := Lib.hid hwf; have HR := Lib.hid w1; have HW2 := Lib.hid w2; have HW3 := Lib.hid w3
  clear w0 w2 w3 hS hwf hlen
  have hmk := mk_ok ns
  obtain ⟨l, hl⟩ : ∃ l, l = mk ns := ⟨_, rfl⟩
  have HL := Lib.hid hl
  obtain ⟨TS, hTS⟩ : ∃ TS, TS = (rs.take 16).map (mk8 l) := ⟨_, rfl⟩
  have hTl : TS.length ≤ 16 := by rw [hTS, List.length_map, List.length_take]; omega
  have HLM := Lib.hid (show ∀ t ∈ TS, ∃ r, t = mk8 (mk ns) r from fun t ht => by rw [hTS, hl] at ht; obtain ⟨r, -, rfl⟩ := List.mem_map.1 ht; exact ⟨r, rfl⟩)
  have hln := hmk.le
  have hlp := hmk.pos
  rw [← hl] at hmk hln hlp
  have HFC := Lib.hid (show ∀ f ∈ l, f.c ≤ 9223372036854775807 from fun f hf => by have := hmk.c f hf; omega)
  have HMK := Lib.hid (show ∀ wx sv, SeenF wx sv l → Chg [] w wx → Calls Try.prog 17 #[sv, .slice a1 len1 cap1] wx fun e w' => ∃ lv, e = .returned lv ∧ ListIn (wx.heap.size ≤ ·) w' l.length TS lv ∧ Chg [] wx w' from fun wx sv hs hk => by
    rw [hTS]
    exact many_any sv (.slice a1 len1 cap1) l rs wx hs (HR.out.keep hk) hlp (by omega) HFC.out)
  have HCM := Lib.hid (show ∀ sv lv wx, SeenF wx sv l → ListAt wx l.length TS lv → _ from fun sv lv wx hs hL => columns_made sv lv ns TS l.length wx (by rw [← hl]; exact hs) hL HLM.out hTl)
  have hmd := made_cols ns TS HLM.out hTl
  have HRL := Lib.hid (show ∀ sv wx, SeenF wx sv l → _ from fun sv wx hs => rleaves_any sv l wx hs (by omega) HFC.out)
  obtain ⟨M, hM⟩ : ∃ M, M = TS.length := ⟨_, rfl⟩
  have hM16 : M ≤ 16 := by omega
  have HMM := Lib.hid hM
  obtain ⟨N, hN⟩ : ∃ N, N = (leavesL (mk ns)).length := ⟨_, rfl⟩
  have hN0 : 0 < N := by
    rw [hN]
    obtain ⟨f, hf, hk⟩ := hmk.leaf
    obtain ⟨j, hj⟩ := List.mem_iff_getElem?.1 hf
    have hjl := (List.getElem?_eq_some_iff.1 hj).1
    have hm : (⟨j, (rls l).getD j 0, (dls l).getD j 0, (l.getD j default).k⟩ : L) ∈ leavesL (mk ns) := by
      rw [← hl]
      unfold leavesL leavesTo
      refine List.mem_flatMap.2 ⟨j, List.mem_range.2 hjl, ?_⟩
      unfold leafAt
      have e : l.getD j default = f := by rw [List.getD, hj]; rfl
      rw [if_pos (by rw [e]; exact hk)]
      simp
    exact List.length_pos_of_mem hm
  have HNN := Lib.hid hN
  rw [← hN] at HCM
  obtain ⟨lf, hlf⟩ : ∃ lf, (leavesL (mk ns))[0]? = some lf := ⟨_, List.getElem?_eq_getElem (by rw [← HNN.out]; exact hN0)⟩
  obtain ⟨W, hW⟩ : ∃ W, (lways (mk ns))[0]? = some W := ⟨_, List.getElem?_eq_getElem (by rw [lways_len, ← HNN.out]; exact hN0)⟩
  have hWm := List.mem_of_getElem? hW
  have hWs := lways_short ns W hWm
  have HTX := Lib.hid (((hmd).2 W hWm).2.1)
  have hlv := leaf_levels ns hlf hW
  have hbeg := col_begins W TS
  have hfst : 0 < M → ∃ c rest, colC W TS = c :: rest ∧ c.r = 0 := fun h => by
    cases hT : TS with
    | nil => rw [hM, hT] at h; cases h
    | cons t T => exact col_first W t T
  have hnil : M = 0 → colC W TS = [] := fun h => by rw [List.eq_nil_of_length_eq_zero (show TS.length = 0 by omega)]; rfl
  have hn4 : (colC W TS).length ≤ 4000 := ((hmd).2 W hWm).2.2
  have hlev : ∀ x ∈ colC W TS, x.r ≤ many2 W ∧ x.d ≤ manyD W := fun x hx => by
    obtain ⟨t, -, hx⟩ := List.mem_flatMap.1 hx
    have := cells_levels W 0 0 0 t (Nat.le_refl _) x hx
    omega
  have hm5 : many2 W ≤ 5 ∧ manyD W ≤ 5 := by
    have h1 := List.countP_le_length (p := fun s : Stp => decide (s.2 = 2)) (l := W)
    have h2 := List.countP_le_length (p := fun s : Stp => decide (s.2 ≠ 0)) (l := W)
    unfold many2 manyD; omega
  obtain ⟨C, hC⟩ : ∃ C, C = colC W TS := ⟨_, rfl⟩
  rw [← hC] at hn4 hlev HTX hbeg hfst hnil
  rw [← hM] at hbeg
  obtain ⟨XR, hXR⟩ : ∃ XR, XR = colR C := ⟨_, rfl⟩
  obtain ⟨XD, hXD⟩ : ∃ XD, XD = colD C := ⟨_, rfl⟩
  obtain ⟨XV, hXV⟩ : ∃ XV, XV = colV lf.d C := ⟨_, rfl⟩
  obtain ⟨n, hn⟩ : ∃ n, n = C.length := ⟨_, rfl⟩
  obtain ⟨K, hK⟩ : ∃ K, K = XV.length := ⟨_, rfl⟩
  have hKn : K ≤ n := by rw [hK, hXV, hn]; unfold colV; rw [List.length_map]; exact List.length_filter_le _ _
  have HXL := Lib.hid (show XR.length = n ∧ XD.length = n by rw [hXR, hXD, hn]; simp)
  have HB5 := Lib.hid (show (∀ (i : Nat) (x : Int), XR[i]? = some x → 0 ≤ x ∧ x ≤ 5) ∧ (∀ (i : Nat) (x : Int), XD[i]? = some x → 0 ≤ x ∧ x ≤ 5) from by
    constructor
    · intro i x hx
      rw [hXR] at hx
      unfold colR at hx
      rw [List.getElem?_map] at hx
      cases hc : C[i]? with
      | none => rw [hc] at hx; cases hx
      | some c => rw [hc] at hx; simp at hx; have := hlev c (List.mem_of_getElem? hc); omega
    · intro i x hx
      rw [hXD] at hx
      unfold colD at hx
      rw [List.getElem?_map] at hx
      cases hc : C[i]? with
      | none => rw [hc] at hx; cases hx
      | some c => rw [hc] at hx; simp at hx; have := hlev c (List.mem_of_getElem? hc); omega)
  rw [← hn] at hn4
  have HSM := Lib.hid (show (stTo XR n).length = M by rw [hXR, hn, stTo_col C C.length (Nat.le_refl _), List.take_length]; exact hbeg)
  have HCK := Lib.hid (show cntX XD lf.d n = K by rw [hK, hXD, hXV, hn, cntX_col C lf.d C.length (Nat.le_refl _), List.take_length]; unfold colV; rw [List.length_map])
  have HVS := Lib.hid (show ∀ z ∈ XV, z.s.size ≤ 281474976710656 from fun z hz => by
    rw [hXV] at hz
    unfold colV at hz
    obtain ⟨y, hy, rfl⟩ := List.mem_map.1 hz
    have := HTX.out y (List.mem_filter.1 hy).1
    show y.t.s.size ≤ _
    omega)
  have HFST := Lib.hid (show 0 < M → (stTo XR n)[0]? = some 0 ∧ 0 < n from fun h => by
    obtain ⟨c, rest, hc, hc0⟩ := hfst h
    have hn1 : 0 < n := by rw [hn, hc]; simp
    exact ⟨stTo_first XR (by rw [hXR, hc]; simp [colR, hc0]) n hn1, hn1⟩)
  have HNIL := Lib.hid (show M = 0 → XR = [] ∧ XD = [] ∧ XV = [] from fun h => by rw [hXR, hXD, hXV, hnil h]; exact ⟨rfl, rfl, rfl⟩)
  have HLF := Lib.hid hlf
  -- what Columns gives, at its first leaf
  have HGET := Lib.hid (show ∀ w0 wi gc R, CJ (leavesL (mk ns)) (lways (mk ns)) TS w0 wi gc N N R → ∃ rv dv vv lo, w0.heap.size ≤ lo ∧ gc < lo ∧ Tri lo rv dv vv XR XD XV n n K wi ∧ wi.cell? ⟨gc, 0, none⟩ = some rv ∧ wi.cell? ⟨gc, 1, none⟩ = some dv ∧ wi.cell? ⟨gc, 2, none⟩ = some vv from fun w0 wi gc R hJ => by
    obtain ⟨e, he, h1, h2, c0, c1, c2⟩ := hJ.get hN0 hlf hW
    have ht := h1.t
    rw [← hC, ← hXR, ← hXD, ← hXV, ← hn, ← hK] at ht
    exact ⟨e.rv, e.dv, e.vv, e.lo, by have := hJ.gl.1; omega, h2, ht, by simpa using c0, by simpa using c1, by simpa using c2⟩)
  have HKE := Lib.hid hK
  clear w1 hmk hl hTS hN hlf hW hWm hWs hmd hlev hm5 hXR hXD hXV hn hK hC hM hlv hbeg hfst hnil HTX
  go_enter Try.func13, Try.ntmps13
  go_wp2_with fail
  refine (known14_any _).mono ?_
  rintro e wA ⟨rfl, hk⟩
  have HK1 := Lib.hid hk
  clear hk
  go_wp2_with fail
  refine (make_any _ ns _ (HS.out.keep HK1.out) HWF.out).mono ?_
  rintro e wB ⟨sv, rfl, hown, hk⟩
  rw [← HL.out] at hown
  have hSv := SeenF.own hown rfl
  obtain ⟨sa, sc, rfl⟩ := own_shape hown
  have HSF := Lib.hid hSv
  have HK2 := Lib.hid (HK1.out.trans hk (by simp))
  clear hown hSv hk
  go_wp2_with fail
  refine (HMK.out wB _ HSF.out HK2.out).mono ?_
  rintro e wC ⟨lv, rfl, hli, hk⟩
  have hla := hli.at
  obtain ⟨lo, lc, rfl, hlc1, hlc2⟩ := hla.shape
  rw [← HMM.out] at hla hlc1 ⊢
  have HLV := Lib.hid hla
  have HK3 := Lib.hid (HK2.out.trans hk (by simp)); have HSF3 := Lib.hid (HSF.out.keep hk)
  clear hli hk hla
  go_wp2_with fail
  refine (HCM.out _ _ wC HSF3.out HLV.out).mono ?_
  rintro e wD ⟨ga, RA, rfl, hk, hJ⟩
  have HK4 := Lib.hid (HK3.out.trans hk (by simp)); have HSF4 := Lib.hid (HSF3.out.keep hk)
  obtain ⟨ra, da, va, loA, hloA, hgA, htA, ca0, ca1, ca2⟩ := HGET.out _ _ _ _ hJ
  have hgaS : ga < wD.heap.size := hJ.gl.2
  have HTA := Lib.hid htA; have HCA := Lib.hid (show wD.cell? ⟨ga, 0, none⟩ = some ra ∧ wD.cell? ⟨ga, 1, none⟩ = some da ∧ wD.cell? ⟨ga, 2, none⟩ = some va from ⟨ca0, ca1, ca2⟩)
  clear hk hJ htA ca0 ca1 ca2
  obtain ⟨rao, rac, rfl⟩ := own_shape HTA.out.r
  obtain ⟨dao, dac, rfl⟩ := own_shape HTA.out.d
  obtain ⟨vao, vac, rfl⟩ := own_shape HTA.out.v
  go_wp2_with fail
  refine (HRL.out _ wD HSF4.out).mono ?_
  rintro e wE ⟨fv, rfl, hsl, hk⟩
  rw [HL.out] at hsl
  obtain ⟨fo, fc, rfl, hfl1, hfl2⟩ := hsl.shape
  rw [← HNN.out] at hfl1 hsl ⊢
  obtain ⟨fg, foff, rfl, hcs⟩ := SeenK.at hsl (by omega)
  obtain ⟨l0, l1, l2, l3⟩ := SeenL.cells hcs HLF.out
  simp only [Nat.zero_mul, Nat.add_zero] at l0 l1 l2 l3
  have HK5 := Lib.hid (HK4.out.trans hk (by simp))
  have HRD := Lib.hid (show SeenI wE (.slice rao n rac) XR ∧ SeenI wE (.slice dao n dac) XD ∧ SeenV wE (.slice vao K vac) XV from ⟨(seenI_of_own HTA.out.r HXL.out.1.symm).keep hk, (seenI_of_own HTA.out.d HXL.out.2.symm).keep hk, (SeenK.own V.cs_len HTA.out.v HKE.out.symm).keep hk⟩)
  have HQ := Lib.hid (show ∀ wx, Chg [] wE wx → (wx.cell? ⟨ga, 0, none⟩ = some (.slice rao n rac) ∧ wx.cell? ⟨ga, 1, none⟩ = some (.slice dao n dac) ∧ wx.cell? ⟨ga, 2, none⟩ = some (.slice vao K vac)) ∧ wx.cell? ⟨fg, foff, none⟩ = some (.int .i64 lf.f) ∧ wx.cell? ⟨fg, foff + 1, none⟩ = some (.int .i64 lf.r) ∧ wx.cell? ⟨fg, foff + 2, none⟩ = some (.int .i64 lf.d) ∧ wx.cell? ⟨fg, foff + 3, none⟩ = some (.int .i64 lf.k) from fun wx h => by
    obtain ⟨c0, c1, c2⟩ := HCA.out
    exact ⟨⟨(hk.trans h (by simp)).cell c0 (by simp), (hk.trans h (by simp)).cell c1 (by simp), (hk.trans h (by simp)).cell c2 (by simp)⟩, h.cell l0 (by simp), h.cell l1 (by simp), h.cell l2 (by simp), h.cell l3 (by simp)⟩)
  obtain ⟨A0, hA0⟩ : ∃ z, z = lf.f := ⟨_, rfl⟩
  obtain ⟨A1, hA1⟩ : ∃ z, z = lf.r := ⟨_, rfl⟩
  obtain ⟨A2, hA2⟩ : ∃ z, z = lf.d := ⟨_, rfl⟩
  obtain ⟨A3, hA3⟩ : ∃ z, z = lf.k := ⟨_, rfl⟩
  rw [← hA0, ← hA1, ← hA2, ← hA3] at HQ
  rw [← hA2] at HCK
  clear hk hsl hcs l0 l1 l2 l3 hA0 hA1 hA2 hA3
  have HCN := Lib.hid (show ∀ (wx : World) (fr tt : Int), Chg [] wE wx → (fr < 0 ∨ tt ≥ (M + 1 : Nat) ∨ fr ≥ tt) → Calls Try.prog 37 #[.agg #[.slice rao n rac, .slice dao n dac, .slice vao K vac], .agg #[.int .i64 A0, .int .i64 A1, .int .i64 A2, .int .i64 A3], .int .i64 fr, .int .i64 tt] wx fun e w' => ∃ b1 b2 b3 d1 d2 d3, e = .returned (.agg #[.slice b1 0 d1, .slice b2 0 d2, .slice b3 0 d3]) ∧ Chg [] wx w' from fun wx fr tt hc hb => by
    refine (cut_any _ _ _ XR XD XV A0 A1 A2 A3 fr tt [] [] [] wx (HRD.out.1.keep hc) (HRD.out.2.1.keep hc) (HRD.out.2.2.keep hc) (by rw [HXL.out.1, HXL.out.2]) (by rw [HXL.out.2, HCK.out]; exact HKE.out) (by rw [HXL.out.1]; omega) HVS.out (.inl ⟨by rw [HXL.out.1, HSM.out]; exact hb, rfl, rfl, rfl⟩)).mono ?_
    rintro e w' ⟨v1, v2, v3, rfl, h1, h2, h3, hk⟩
    obtain ⟨b1, d1, e1, -, -⟩ := h1.shape
    obtain ⟨b2, d2, e2, -, -⟩ := h2.shape
    obtain ⟨b3, d3, e3, -, -⟩ := h3.shape
    subst e1 e2 e3
    exact ⟨b1, b2, b3, d1, d2, d3, rfl, hk⟩)
  have HCW := Lib.hid (show ∀ wx, Chg [] wE wx → Calls Try.prog 37 #[.agg #[.slice rao n rac, .slice dao n dac, .slice vao K vac], .agg #[.int .i64 A0, .int .i64 A1, .int .i64 A2, .int .i64 A3], .int .i64 0, .int .i64 (M : Int)] wx fun e w' => ∃ v1 v2 v3, e = .returned (.agg #[v1, v2, v3]) ∧ SeenI w' v1 XR ∧ SeenI w' v2 XD ∧ SeenV w' v3 XV ∧ Chg [] wx w' from fun wx hc => by
    refine cut_any _ _ _ XR XD XV A0 A1 A2 A3 0 M XR XD XV wx (HRD.out.1.keep hc) (HRD.out.2.1.keep hc) (HRD.out.2.2.keep hc) (by rw [HXL.out.1, HXL.out.2]) (by rw [HXL.out.2, HCK.out]; exact HKE.out) (by rw [HXL.out.1]; omega) HVS.out ?_
    rw [HXL.out.1, HSM.out]
    by_cases hM0 : M = 0
    · obtain ⟨h1, h2, h3⟩ := HNIL.out hM0
      exact .inl ⟨.inr (.inr (by omega)), h1, h2, h3⟩
    · obtain ⟨hs0, hn0⟩ := HFST.out (by omega)
      have hCK := HCK.out
      refine .inr ⟨0, M, 0, n, 0, K, rfl, rfl, by omega, by omega, ?_, ?_, Nat.zero_le _, Nat.le_refl _, rfl, ?_, by rw [← HKE.out]; omega, ?_, ?_, ?_⟩
      · rw [List.getElem?_append_left (List.getElem?_eq_some_iff.1 hs0).1]; exact hs0
      · rw [List.getElem?_append_right (by rw [HSM.out]; exact Nat.le_refl _), HSM.out, Nat.sub_self]; rfl
      · rw [List.drop_zero, List.take_of_length_le (by rw [HXL.out.2]; omega), Nat.sub_zero, hCK]
      · rw [List.drop_zero, List.take_of_length_le (by rw [HXL.out.1]; omega)]
      · rw [List.drop_zero, List.take_of_length_le (by rw [HXL.out.2]; omega)]
      · rw [List.drop_zero, List.take_of_length_le (by rw [HKE.out]; omega)])
  have HSA := Lib.hid (show ∀ wx v1 v2 v3, Chg [] wE wx → SeenI wx v1 XR → SeenI wx v2 XD → SeenV wx v3 XV → Calls Try.prog 36 #[.agg #[v1, v2, v3], .agg #[.slice rao n rac, .slice dao n dac, .slice vao K vac]] wx fun e w' => e = .returned (.bool true) ∧ Chg [] wx w' from fun wx v1 v2 v3 hc h1 h2 h3 => by
    have h := same14_any _ _ _ _ _ _ XR XD XR XD XV XV wx h1 h2 h3 (HRD.out.1.keep hc) (HRD.out.2.1.keep hc) (HRD.out.2.2.keep hc)
    simpa using h)
  have z0 : ((N : Int) != (N : Int)) = false := by simp
  have z3 : (0 : Int) < (N : Int) := by omega
  have z2 : 0 < N := hN0
  go_wp2_with fail
  refine (w14_int a2 _ (M + 1) wE (by first | rfl | (push_cast; rfl) | omega) (by omega) (by omega) HW2.out).mono ?_
  rintro e wE' ⟨rfl, rfl⟩
  obtain ⟨xx, hxx⟩ : ∃ xx, xx = (a2 % ((M + 1 : Nat) : Int)).toNat := ⟨_, rfl⟩
  have hx16 : xx ≤ M := by have := Int.emod_lt_of_pos a2 (show (0 : Int) < ((M + 1 : Nat) : Int) by omega); have := Int.emod_nonneg a2 (show ((M + 1 : Nat) : Int) ≠ 0 by omega); omega
  rw [← hxx]
  clear hxx
  obtain ⟨yy, hyy⟩ : ∃ yy, yy = (a3 % ((9 : Nat) : Int)).toNat := ⟨_, rfl⟩
  have hy9 : yy ≤ 8 := by have := Int.emod_lt_of_pos a3 (show (0 : Int) < ((9 : Nat) : Int) by omega); have := Int.emod_nonneg a3 (show ((9 : Nat) : Int) ≠ 0 by omega); omega
  have HW9 := Lib.hid (show ∀ wx, Calls Try.prog 33 #[.int .i64 a3, .int .i64 9] wx fun e w' => e = .returned (.int .i64 (yy : Int)) ∧ wx = w' from fun wx => by
    have h := w14_int a3 9 9 wx rfl (by omega) (by omega) HW3.out
    rwa [← hyy] at h)
  clear hyy
  have HZ1 := Lib.hid (show ∀ (fr tt : Int), (fr = xx ∧ tt = xx) ∨ (fr = -1 - (yy : Int) ∧ tt = xx) ∨ (fr = xx ∧ tt = (M : Int) + 1 + (yy : Int)) ∨ (fr = (xx : Int) + 1 ∧ tt = xx) → (fr < 0 ∨ tt ≥ (M + 1 : Nat) ∨ fr ≥ tt) from fun fr tt h => by
    rcases h with ⟨rfl, rfl⟩ | ⟨rfl, rfl⟩ | ⟨rfl, rfl⟩ | ⟨rfl, rfl⟩
    · exact .inr (.inr (by omega))
    · exact .inl (by omega)
    · exact .inr (.inl (by push_cast; omega))
    · exact .inr (.inr (by omega)))
  have HG0 := Lib.hid (Chg.refl [] wE)
  have HXY := Lib.hid (And.intro hx16 (And.intro hy9 hM16))
  clear hx16 hy9 hM16
  go_upto_region 10 with fail
  refine wp_region_any (by kernel_rfl) ?_
  change wpAny _ _ _ _ _ _ _ (World.drew _)
  refine region_bs (fun base u => FRN10 N M n K ga fg foff fc lc xx yy lo rao dao vao rac dac vac A0 A1 A2 A3 a3 0 none none none 0 0 0 base u) rfl (fun base u0 hbase => ?_)
  clear hbase
  refine wpAny_inv (JIN10 N M n K ga fg foff fc lc xx yy lo rao dao vao rac dac vac A0 A1 A2 A3 a3 base wE) ?_ (fun listed a' w' hI hr => ?_) _ _ _ _ ?_ ?_
  rotate_left 2
  focus exact JIN10_start ((Chg.refl [] wE).drew)
  focus exact count_rep _
  focus
    intro listed a' w' hI ii hi hr
    obtain ⟨b, u, Bz0, x10, x20, x30, y10, y20, y30, rfl, rfl, R⟩ := hI
    have hcs := ltN10 ii hi
    clear hi
    unfold FRN10
    rcases hcs with rfl | rfl | rfl | rfl | rfl | rfl | rfl | rfl | rfl | rfl | rfl
    · have hrd := ready_at rfl hr
      clear hr
      simp [Region.binds] at hrd
      clear hrd
      refine wpOp_step rfl (fun KK hK => ?_)
      go_simp
      refine hK _ _ ?_
      exact ⟨upd b 0 true, (upd u 48 (.slice (some ⟨ga, 0, none⟩) N N)), Bz0, x10, x20, x30, y10, y20, y30, rfl, rfl, ⟨(fun _ => rfl), R.c1, R.c2, R.c3, R.c4, R.c5, R.c6, R.c7, R.c8, R.c9, R.cg, R.hB, R.mB, R.m2, R.z10_9, R.z10_8⟩⟩
    · have hrd := ready_at rfl hr
      clear hr
      simp [Region.binds] at hrd
      have h0 : b 0 = true := by simp [hrd]
      have e0 := R.c0 h0
      clear hrd
      refine wpOp_step rfl (fun KK hK => ?_)
      go_simp
      refine hK _ _ ?_
      exact ⟨upd b 1 true, (upd (upd u 48 (.slice (some ⟨ga, 0, none⟩) N N)) 49 (.pointer (some ⟨ga, 0, none⟩))), Bz0, x10, x20, x30, y10, y20, y30, rfl, rfl, ⟨(fun _ => rfl), (fun _ => rfl), R.c2, R.c3, R.c4, R.c5, R.c6, R.c7, R.c8, R.c9, R.cg, R.hB, R.mB, R.m2, R.z10_9, R.z10_8⟩⟩
    · have hrd := ready_at rfl hr
      clear hr
      simp [Region.binds] at hrd
      have h1 : b 1 = true := by simp [hrd]
      have e1 := R.c1 h1
      clear hrd
      have hq := HQ.out w' (HG0.out.trans R.cg (by simp))
      have hl0 := hq.1.1
      have hl1 := hq.1.2.1
      have hl2 := hq.1.2.2
      clear hq
      refine wpOp_step rfl (fun KK hK => ?_)
      go_simp
      refine hK _ _ ?_
      exact ⟨upd b 2 true, (upd (upd u 49 (.pointer (some ⟨ga, 0, none⟩))) 50 (.agg #[.slice rao n rac, .slice dao n dac, .slice vao K vac])), Bz0, x10, x20, x30, y10, y20, y30, rfl, rfl, ⟨R.c0, (fun _ => rfl), (fun _ => rfl), R.c3, R.c4, R.c5, R.c6, R.c7, R.c8, R.c9, R.cg, R.hB, R.mB, R.m2, R.z10_9, R.z10_8⟩⟩
    · have hrd := ready_at rfl hr
      clear hr
      simp [Region.binds] at hrd
      clear hrd
      refine wpOp_step rfl (fun KK hK => ?_)
      go_simp
      refine hK _ _ ?_
      exact ⟨upd b 3 true, (upd u 51 (.slice (some ⟨fg, foff, none⟩) N fc)), Bz0, x10, x20, x30, y10, y20, y30, rfl, rfl, ⟨R.c0, R.c1, R.c2, (fun _ => rfl), R.c4, R.c5, R.c6, R.c7, R.c8, R.c9, R.cg, R.hB, R.mB, R.m2, R.z10_9, R.z10_8⟩⟩
    · have hrd := ready_at rfl hr
      clear hr
      simp [Region.binds] at hrd
      have h3 : b 3 = true := by simp [hrd]
      have e3 := R.c3 h3
      clear hrd
      refine wpOp_step rfl (fun KK hK => ?_)
      go_simp
      refine hK _ _ ?_
      exact ⟨upd b 4 true, (upd (upd u 51 (.slice (some ⟨fg, foff, none⟩) N fc)) 52 (.pointer (some ⟨fg, foff, none⟩))), Bz0, x10, x20, x30, y10, y20, y30, rfl, rfl, ⟨R.c0, R.c1, R.c2, (fun _ => rfl), (fun _ => rfl), R.c5, R.c6, R.c7, R.c8, R.c9, R.cg, R.hB, R.mB, R.m2, R.z10_9, R.z10_8⟩⟩
    · have hrd := ready_at rfl hr
      clear hr
      simp [Region.binds] at hrd
      have h4 : b 4 = true := by simp [hrd]
      have e4 := R.c4 h4
      clear hrd
      have hq := HQ.out w' (HG0.out.trans R.cg (by simp))
      have hl0 := hq.2.1
      have hl1 := hq.2.2.1
      have hl2 := hq.2.2.2.1
      have hl3 := hq.2.2.2.2
      clear hq
      refine wpOp_step rfl (fun KK hK => ?_)
      go_simp
      refine hK _ _ ?_
      exact ⟨upd b 5 true, (upd (upd u 52 (.pointer (some ⟨fg, foff, none⟩))) 53 (.agg #[.int .i64 A0, .int .i64 A1, .int .i64 A2, .int .i64 A3])), Bz0, x10, x20, x30, y10, y20, y30, rfl, rfl, ⟨R.c0, R.c1, R.c2, R.c3, (fun _ => rfl), (fun _ => rfl), R.c6, R.c7, R.c8, R.c9, R.cg, R.hB, R.mB, R.m2, R.z10_9, R.z10_8⟩⟩
    · have hrd := ready_at rfl hr
      clear hr
      simp [Region.binds] at hrd
      clear hrd
      refine wpOp_step rfl (fun KK hK => ?_)
      go_simp
      refine hK _ _ ?_
      exact ⟨upd b 6 true, (upd u 54 (.int .i64 (xx : Int))), Bz0, x10, x20, x30, y10, y20, y30, rfl, rfl, ⟨R.c0, R.c1, R.c2, R.c3, R.c4, R.c5, (fun _ => rfl), R.c7, R.c8, R.c9, R.cg, R.hB, R.mB, R.m2, R.z10_9, R.z10_8⟩⟩
    · have hrd := ready_at rfl hr
      clear hr
      simp [Region.binds] at hrd
      clear hrd
      refine wpOp_step rfl (fun KK hK => ?_)
      go_simp
      refine hK _ _ ?_
      exact ⟨upd b 7 true, (upd u 55 (.int .i64 (xx : Int))), Bz0, x10, x20, x30, y10, y20, y30, rfl, rfl, ⟨R.c0, R.c1, R.c2, R.c3, R.c4, R.c5, R.c6, (fun _ => rfl), R.c8, R.c9, R.cg, R.hB, R.mB, R.m2, R.z10_9, R.z10_8⟩⟩
    · have hrd := ready_at rfl hr
      clear hr
      simp [Region.binds] at hrd
      have h2 : b 2 = true := by simp [hrd]
      have e2 := R.c2 h2
      have h5 : b 5 = true := by simp [hrd]
      have e5 := R.c5 h5
      have h6 : b 6 = true := by simp [hrd]
      have e6 := R.c6 h6
      have h7 : b 7 = true := by simp [hrd]
      have e7 := R.c7 h7
      have hb8 : b 8 = false := by simp [hrd]
      clear hrd
      refine wpOp_step rfl (fun KK hK => ?_)
      go_simp
      go_at_call 37
      (with_reducible refine (HCN.out w' _ _ (HG0.out.trans R.cg (by simp)) (HZ1.out _ _ (.inl ⟨rfl, rfl⟩))).mono ?_)
      rintro e w4 ⟨p1, p2, p3, q1, q2, q3, rfl, hk3⟩
      refine hK _ _ ?_
      exact ⟨upd b 8 true, (upd (upd (upd (upd (upd u 50 (.agg #[.slice rao n rac, .slice dao n dac, .slice vao K vac])) 53 (.agg #[.int .i64 A0, .int .i64 A1, .int .i64 A2, .int .i64 A3])) 54 (.int .i64 (xx : Int))) 55 (.int .i64 (xx : Int))) 56 (.agg #[.slice p1 0 q1, .slice p2 0 q2, .slice p3 0 q3])), Bz0, p1, p2, p3, q1, q2, q3, rfl, rfl, ⟨R.c0, R.c1, (fun _ => rfl), R.c3, R.c4, (fun _ => rfl), (fun _ => rfl), (fun _ => rfl), (fun _ => rfl), R.c9, (R.cg.trans hk3 (by simp)), R.hB, (fun h1 h2 => hk3.heap (R.mB h1 h2) (by simp)), (fun h => absurd (R.z10_8 h) (by rw [hb8]; decide)), R.z10_9, (fun _ => rfl)⟩⟩
    · have hrd := ready_at rfl hr
      clear hr
      simp [Region.binds] at hrd
      have hb9 : b 9 = false := by simp [hrd]
      clear hrd
      refine wpOp_step rfl (fun KK hK => ?_)
      go_simp
      refine hK _ _ ?_
      exact ⟨upd b 9 true, (upd u 15 (.pointer (some ⟨w'.heap.size, 0, none⟩))), w'.heap.size, x10, x20, x30, y10, y20, y30, rfl, rfl, ⟨R.c0, R.c1, R.c2, R.c3, R.c4, R.c5, R.c6, R.c7, R.c8, (fun _ => rfl), (R.cg.alloc _), (fun _ => R.cg.size), (fun _ _ => hl_new rfl), (fun h => absurd (R.z10_9 h) (by rw [hb9]; decide)), (fun _ => rfl), R.z10_8⟩⟩
    · have hrd := ready_at rfl hr
      clear hr
      simp [Region.binds] at hrd
      have h8 : b 8 = true := by simp [hrd]
      have e8 := R.c8 h8
      have h9 : b 9 = true := by simp [hrd]
      have e9 := R.c9 h9
      have hb10 : b 10 = false := by simp [hrd]
      clear hrd
      have hx4 := R.mB h9 hb10
      have hfz0 : w'.frozen? ⟨Bz0, 0, none⟩ = false := by simp [World.frozen?, hx4]
      have hfz1 : w'.frozen? ⟨Bz0, 1, none⟩ = false := by simp [World.frozen?, hx4]
      have hfz2 : w'.frozen? ⟨Bz0, 2, none⟩ = false := by simp [World.frozen?, hx4]
      have hld0 : w'.cell? ⟨Bz0, 0, none⟩ = some (.slice none 0 0) := by simp [World.cell?, hx4]
      have hld1 : w'.cell? ⟨Bz0, 1, none⟩ = some (.slice none 0 0) := by simp [World.cell?, hx4]
      have hld2 : w'.cell? ⟨Bz0, 2, none⟩ = some (.slice none 0 0) := by simp [World.cell?, hx4]
      refine wpOp_step rfl (fun KK hK => ?_)
      go_simp
      refine hK _ _ ?_
      exact ⟨upd b 10 true, (upd (upd u 56 (.agg #[.slice x10 0 y10, .slice x20 0 y20, .slice x30 0 y30])) 15 (.pointer (some ⟨Bz0, 0, none⟩))), Bz0, x10, x20, x30, y10, y20, y30, rfl, rfl, ⟨R.c0, R.c1, R.c2, R.c3, R.c4, R.c5, R.c6, R.c7, (fun _ => rfl), (fun _ => rfl), (((R.cg.setCell (p := ⟨Bz0, 0, none⟩) (.inr (R.hB h9)) _).setCell (p := ⟨Bz0, 1, none⟩) (.inr (R.hB h9)) _).setCell (p := ⟨Bz0, 2, none⟩) (.inr (R.hB h9)) _), R.hB, (fun _ h => by cases h), (fun _ => cell_set3 hx4 _ _ _), (fun _ => h9), (fun _ => h8)⟩⟩
  obtain ⟨b, u, Bz0, x10, x20, x30, y10, y20, y30, rfl, rfl, R⟩ := hI
  have hall := ready_all2 hr rfl (by kernel_rfl)
  have h10 : b 10 = true := Option.some.inj (hall 10 (by decide))
  have h9 : b 9 = true := Option.some.inj (hall 9 (by decide))
  have e9 := R.c9 h9
  have M20 := Lib.hid (R.m2 h10)
  have HCG := Lib.hid R.cg
  unfold FRN10
  rw [e9]
  clear e9
  clear R hr hall h10 h9
  obtain ⟨w1, hw1⟩ : ∃ z, z = w' := ⟨_, rfl⟩
  rw [← hw1] at HCG M20 ⊢
  clear hw1
  have HG1 := Lib.hid (HG0.out.trans HCG.out (by simp))
  clear HCG
  go_upto_region 11 with fail
  refine wp_region_any (by kernel_rfl) ?_
  change wpAny _ _ _ _ _ _ _ (World.drew _)
  refine region_bs (fun base u => FRN11 N M n K ga fg foff fc lc xx yy lo rao dao vao rac dac vac A0 A1 A2 A3 a3 Bz0 0 none none none 0 0 0 base u) rfl (fun base u0 hbase => ?_)
  clear hbase
  refine wpAny_inv (JIN11 N M n K ga fg foff fc lc xx yy lo rao dao vao rac dac vac A0 A1 A2 A3 a3 Bz0 base w1) ?_ (fun listed a' w' hI hr => ?_) _ _ _ _ ?_ ?_
  rotate_left 2
  focus exact JIN11_start ((Chg.refl [] w1).drew)
  focus exact count_rep _
  focus
    intro listed a' w' hI ii hi hr
    obtain ⟨b, u, Bz1, x11, x21, x31, y11, y21, y31, rfl, rfl, R⟩ := hI
    have hcs := ltN11 ii hi
    clear hi
    unfold FRN11
    rcases hcs with rfl | rfl | rfl | rfl | rfl | rfl | rfl | rfl | rfl | rfl | rfl | rfl | rfl
    · have hrd := ready_at rfl hr
      clear hr
      simp [Region.binds] at hrd
      clear hrd
      refine wpOp_step rfl (fun KK hK => ?_)
      go_simp
      refine hK _ _ ?_
      exact ⟨upd b 0 true, (upd u 57 (.slice (some ⟨ga, 0, none⟩) N N)), Bz1, x11, x21, x31, y11, y21, y31, rfl, rfl, ⟨(fun _ => rfl), R.c1, R.c2, R.c3, R.c4, R.c5, R.c6, R.c7, R.c8, R.c9, R.c10, R.c11, R.cg, R.hB, R.mB, R.m2, R.z12_11, R.z12_10⟩⟩
    · have hrd := ready_at rfl hr
      clear hr
      simp [Region.binds] at hrd
      have h0 : b 0 = true := by simp [hrd]
      have e0 := R.c0 h0
      clear hrd
      refine wpOp_step rfl (fun KK hK => ?_)
      go_simp
      refine hK _ _ ?_
      exact ⟨upd b 1 true, (upd (upd u 57 (.slice (some ⟨ga, 0, none⟩) N N)) 58 (.pointer (some ⟨ga, 0, none⟩))), Bz1, x11, x21, x31, y11, y21, y31, rfl, rfl, ⟨(fun _ => rfl), (fun _ => rfl), R.c2, R.c3, R.c4, R.c5, R.c6, R.c7, R.c8, R.c9, R.c10, R.c11, R.cg, R.hB, R.mB, R.m2, R.z12_11, R.z12_10⟩⟩
    · have hrd := ready_at rfl hr
      clear hr
      simp [Region.binds] at hrd
      have h1 : b 1 = true := by simp [hrd]
      have e1 := R.c1 h1
      clear hrd
      have hq := HQ.out w' (HG1.out.trans R.cg (by simp))
      have hl0 := hq.1.1
      have hl1 := hq.1.2.1
      have hl2 := hq.1.2.2
      clear hq
      refine wpOp_step rfl (fun KK hK => ?_)
      go_simp
      refine hK _ _ ?_
      exact ⟨upd b 2 true, (upd (upd u 58 (.pointer (some ⟨ga, 0, none⟩))) 59 (.agg #[.slice rao n rac, .slice dao n dac, .slice vao K vac])), Bz1, x11, x21, x31, y11, y21, y31, rfl, rfl, ⟨R.c0, (fun _ => rfl), (fun _ => rfl), R.c3, R.c4, R.c5, R.c6, R.c7, R.c8, R.c9, R.c10, R.c11, R.cg, R.hB, R.mB, R.m2, R.z12_11, R.z12_10⟩⟩
    · have hrd := ready_at rfl hr
      clear hr
      simp [Region.binds] at hrd
      clear hrd
      refine wpOp_step rfl (fun KK hK => ?_)
      go_simp
      refine hK _ _ ?_
      exact ⟨upd b 3 true, (upd u 60 (.slice (some ⟨fg, foff, none⟩) N fc)), Bz1, x11, x21, x31, y11, y21, y31, rfl, rfl, ⟨R.c0, R.c1, R.c2, (fun _ => rfl), R.c4, R.c5, R.c6, R.c7, R.c8, R.c9, R.c10, R.c11, R.cg, R.hB, R.mB, R.m2, R.z12_11, R.z12_10⟩⟩
    · have hrd := ready_at rfl hr
      clear hr
      simp [Region.binds] at hrd
      have h3 : b 3 = true := by simp [hrd]
      have e3 := R.c3 h3
      clear hrd
      refine wpOp_step rfl (fun KK hK => ?_)
      go_simp
      refine hK _ _ ?_
      exact ⟨upd b 4 true, (upd (upd u 60 (.slice (some ⟨fg, foff, none⟩) N fc)) 61 (.pointer (some ⟨fg, foff, none⟩))), Bz1, x11, x21, x31, y11, y21, y31, rfl, rfl, ⟨R.c0, R.c1, R.c2, (fun _ => rfl), (fun _ => rfl), R.c5, R.c6, R.c7, R.c8, R.c9, R.c10, R.c11, R.cg, R.hB, R.mB, R.m2, R.z12_11, R.z12_10⟩⟩
    · have hrd := ready_at rfl hr
      clear hr
      simp [Region.binds] at hrd
      have h4 : b 4 = true := by simp [hrd]
      have e4 := R.c4 h4
      clear hrd
      have hq := HQ.out w' (HG1.out.trans R.cg (by simp))
      have hl0 := hq.2.1
      have hl1 := hq.2.2.1
      have hl2 := hq.2.2.2.1
      have hl3 := hq.2.2.2.2
      clear hq
      refine wpOp_step rfl (fun KK hK => ?_)
      go_simp
      refine hK _ _ ?_
      exact ⟨upd b 5 true, (upd (upd u 61 (.pointer (some ⟨fg, foff, none⟩))) 62 (.agg #[.int .i64 A0, .int .i64 A1, .int .i64 A2, .int .i64 A3])), Bz1, x11, x21, x31, y11, y21, y31, rfl, rfl, ⟨R.c0, R.c1, R.c2, R.c3, (fun _ => rfl), (fun _ => rfl), R.c6, R.c7, R.c8, R.c9, R.c10, R.c11, R.cg, R.hB, R.mB, R.m2, R.z12_11, R.z12_10⟩⟩
    · have hrd := ready_at rfl hr
      clear hr
      simp [Region.binds] at hrd
      clear hrd
      refine wpOp_step rfl (fun KK hK => ?_)
      go_simp
      refine hK _ _ ?_
      exact ⟨upd b 6 true, (upd u 63 (.int .i64 a3)), Bz1, x11, x21, x31, y11, y21, y31, rfl, rfl, ⟨R.c0, R.c1, R.c2, R.c3, R.c4, R.c5, (fun _ => rfl), R.c7, R.c8, R.c9, R.c10, R.c11, R.cg, R.hB, R.mB, R.m2, R.z12_11, R.z12_10⟩⟩
    · have hrd := ready_at rfl hr
      clear hr
      simp [Region.binds] at hrd
      have h6 : b 6 = true := by simp [hrd]
      have e6 := R.c6 h6
      clear hrd
      refine wpOp_step rfl (fun KK hK => ?_)
      go_simp
      go_at_call 33
      (with_reducible refine (HW9.out w').mono ?_)
      rintro e w4 ⟨rfl, rfl⟩
      refine hK _ _ ?_
      exact ⟨upd b 7 true, (upd (upd u 63 (.int .i64 a3)) 64 (.int .i64 (yy : Int))), Bz1, x11, x21, x31, y11, y21, y31, rfl, rfl, ⟨R.c0, R.c1, R.c2, R.c3, R.c4, R.c5, (fun _ => rfl), (fun _ => rfl), R.c8, R.c9, R.c10, R.c11, R.cg, R.hB, R.mB, R.m2, R.z12_11, R.z12_10⟩⟩
    · have hrd := ready_at rfl hr
      clear hr
      simp [Region.binds] at hrd
      have h7 : b 7 = true := by simp [hrd]
      have e7 := R.c7 h7
      clear hrd
      have hwa : IntKind.i64.wrap (-1 - (yy : Int)) = (-1 - (yy : Int)) := by obtain ⟨h1, h2, h3⟩ := HXY.out; exact IntWalk.i64_in _ (by omega)
      have hwb : Go.RowKit.wrap64 (-1 - (yy : Int)) = (-1 - (yy : Int)) := by obtain ⟨h1, h2, h3⟩ := HXY.out; exact IntWalk.wrap64_in _ (by omega)
      refine wpOp_step rfl (fun KK hK => ?_)
      go_simp
      refine hK _ _ ?_
      exact ⟨upd b 8 true, (upd (upd u 64 (.int .i64 (yy : Int))) 65 (.int .i64 (-1 - (yy : Int)))), Bz1, x11, x21, x31, y11, y21, y31, rfl, rfl, ⟨R.c0, R.c1, R.c2, R.c3, R.c4, R.c5, R.c6, (fun _ => rfl), (fun _ => rfl), R.c9, R.c10, R.c11, R.cg, R.hB, R.mB, R.m2, R.z12_11, R.z12_10⟩⟩
    · have hrd := ready_at rfl hr
      clear hr
      simp [Region.binds] at hrd
      clear hrd
      refine wpOp_step rfl (fun KK hK => ?_)
      go_simp
      refine hK _ _ ?_
      exact ⟨upd b 9 true, (upd u 66 (.int .i64 (xx : Int))), Bz1, x11, x21, x31, y11, y21, y31, rfl, rfl, ⟨R.c0, R.c1, R.c2, R.c3, R.c4, R.c5, R.c6, R.c7, R.c8, (fun _ => rfl), R.c10, R.c11, R.cg, R.hB, R.mB, R.m2, R.z12_11, R.z12_10⟩⟩
    · have hrd := ready_at rfl hr
      clear hr
      simp [Region.binds] at hrd
      have h2 : b 2 = true := by simp [hrd]
      have e2 := R.c2 h2
      have h5 : b 5 = true := by simp [hrd]
      have e5 := R.c5 h5
      have h8 : b 8 = true := by simp [hrd]
      have e8 := R.c8 h8
      have h9 : b 9 = true := by simp [hrd]
      have e9 := R.c9 h9
      have hb10 : b 10 = false := by simp [hrd]
      clear hrd
      refine wpOp_step rfl (fun KK hK => ?_)
      go_simp
      go_at_call 37
      (with_reducible refine (HCN.out w' _ _ (HG1.out.trans R.cg (by simp)) (HZ1.out _ _ (.inr (.inl ⟨rfl, rfl⟩)))).mono ?_)
      rintro e w4 ⟨p1, p2, p3, q1, q2, q3, rfl, hk3⟩
      refine hK _ _ ?_
      exact ⟨upd b 10 true, (upd (upd (upd (upd (upd u 59 (.agg #[.slice rao n rac, .slice dao n dac, .slice vao K vac])) 62 (.agg #[.int .i64 A0, .int .i64 A1, .int .i64 A2, .int .i64 A3])) 65 (.int .i64 (-1 - (yy : Int)))) 66 (.int .i64 (xx : Int))) 67 (.agg #[.slice p1 0 q1, .slice p2 0 q2, .slice p3 0 q3])), Bz1, p1, p2, p3, q1, q2, q3, rfl, rfl, ⟨R.c0, R.c1, (fun _ => rfl), R.c3, R.c4, (fun _ => rfl), R.c6, R.c7, (fun _ => rfl), (fun _ => rfl), (fun _ => rfl), R.c11, (R.cg.trans hk3 (by simp)), R.hB, (fun h1 h2 => hk3.heap (R.mB h1 h2) (by simp)), (fun h => absurd (R.z12_10 h) (by rw [hb10]; decide)), R.z12_11, (fun _ => rfl)⟩⟩
    · have hrd := ready_at rfl hr
      clear hr
      simp [Region.binds] at hrd
      have hb11 : b 11 = false := by simp [hrd]
      clear hrd
      refine wpOp_step rfl (fun KK hK => ?_)
      go_simp
      refine hK _ _ ?_
      exact ⟨upd b 11 true, (upd u 16 (.pointer (some ⟨w'.heap.size, 0, none⟩))), w'.heap.size, x11, x21, x31, y11, y21, y31, rfl, rfl, ⟨R.c0, R.c1, R.c2, R.c3, R.c4, R.c5, R.c6, R.c7, R.c8, R.c9, R.c10, (fun _ => rfl), (R.cg.alloc _), (fun _ => R.cg.size), (fun _ _ => hl_new rfl), (fun h => absurd (R.z12_11 h) (by rw [hb11]; decide)), (fun _ => rfl), R.z12_10⟩⟩
    · have hrd := ready_at rfl hr
      clear hr
      simp [Region.binds] at hrd
      have h10 : b 10 = true := by simp [hrd]
      have e10 := R.c10 h10
      have h11 : b 11 = true := by simp [hrd]
      have e11 := R.c11 h11
      have hb12 : b 12 = false := by simp [hrd]
      clear hrd
      have hx4 := R.mB h11 hb12
      have hfz0 : w'.frozen? ⟨Bz1, 0, none⟩ = false := by simp [World.frozen?, hx4]
      have hfz1 : w'.frozen? ⟨Bz1, 1, none⟩ = false := by simp [World.frozen?, hx4]
      have hfz2 : w'.frozen? ⟨Bz1, 2, none⟩ = false := by simp [World.frozen?, hx4]
      have hld0 : w'.cell? ⟨Bz1, 0, none⟩ = some (.slice none 0 0) := by simp [World.cell?, hx4]
      have hld1 : w'.cell? ⟨Bz1, 1, none⟩ = some (.slice none 0 0) := by simp [World.cell?, hx4]
      have hld2 : w'.cell? ⟨Bz1, 2, none⟩ = some (.slice none 0 0) := by simp [World.cell?, hx4]
      refine wpOp_step rfl (fun KK hK => ?_)
      go_simp
      refine hK _ _ ?_
      exact ⟨upd b 12 true, (upd (upd u 67 (.agg #[.slice x11 0 y11, .slice x21 0 y21, .slice x31 0 y31])) 16 (.pointer (some ⟨Bz1, 0, none⟩))), Bz1, x11, x21, x31, y11, y21, y31, rfl, rfl, ⟨R.c0, R.c1, R.c2, R.c3, R.c4, R.c5, R.c6, R.c7, R.c8, R.c9, (fun _ => rfl), (fun _ => rfl), (((R.cg.setCell (p := ⟨Bz1, 0, none⟩) (.inr (R.hB h11)) _).setCell (p := ⟨Bz1, 1, none⟩) (.inr (R.hB h11)) _).setCell (p := ⟨Bz1, 2, none⟩) (.inr (R.hB h11)) _), R.hB, (fun _ h => by cases h), (fun _ => cell_set3 hx4 _ _ _), (fun _ => h11), (fun _ => h10)⟩⟩
  obtain ⟨b, u, Bz1, x11, x21, x31, y11, y21, y31, rfl, rfl, R⟩ := hI
  have hall := ready_all2 hr rfl (by kernel_rfl)
  have h12 : b 12 = true := Option.some.inj (hall 12 (by decide))
  have h11 : b 11 = true := Option.some.inj (hall 11 (by decide))
  have e11 := R.c11 h11
  have M21 := Lib.hid (R.m2 h12)
  have HCG := Lib.hid R.cg
  unfold FRN11
  rw [e11]
  clear e11
  clear R hr hall h12 h11
  obtain ⟨w2, hw2⟩ : ∃ z, z = w' := ⟨_, rfl⟩
  rw [← hw2] at HCG M21 ⊢
  clear hw2
  have HG2 := Lib.hid (HG1.out.trans HCG.out (by simp))
  replace M20 := Lib.hid (HCG.out.cell M20.out (by simp))
  clear HCG
  go_upto_region 12 with fail
  refine wp_region_any (by kernel_rfl) ?_
  change wpAny _ _ _ _ _ _ _ (World.drew _)
  refine region_bs (fun base u => FRN12 N M n K ga fg foff fc lc xx yy lo rao dao vao rac dac vac A0 A1 A2 A3 a3 Bz0 Bz1 0 none none none 0 0 0 base u) rfl (fun base u0 hbase => ?_)
  clear hbase
  refine wpAny_inv (JIN12 N M n K ga fg foff fc lc xx yy lo rao dao vao rac dac vac A0 A1 A2 A3 a3 Bz0 Bz1 base w2) ?_ (fun listed a' w' hI hr => ?_) _ _ _ _ ?_ ?_
  rotate_left 2
  focus exact JIN12_start ((Chg.refl [] w2).drew)
  focus exact count_rep _
  focus
    intro listed a' w' hI ii hi hr
    obtain ⟨b, u, Bz2, x12, x22, x32, y12, y22, y32, rfl, rfl, R⟩ := hI
    have hcs := ltN12 ii hi
    clear hi
    unfold FRN12
    rcases hcs with rfl | rfl | rfl | rfl | rfl | rfl | rfl | rfl | rfl | rfl | rfl | rfl | rfl | rfl | rfl | rfl
    · have hrd := ready_at rfl hr
      clear hr
      simp [Region.binds] at hrd
      clear hrd
      refine wpOp_step rfl (fun KK hK => ?_)
      go_simp
      refine hK _ _ ?_
      exact ⟨upd b 0 true, (upd u 68 (.slice (some ⟨ga, 0, none⟩) N N)), Bz2, x12, x22, x32, y12, y22, y32, rfl, rfl, ⟨(fun _ => rfl), R.c1, R.c2, R.c3, R.c4, R.c5, R.c6, R.c7, R.c8, R.c9, R.c10, R.c11, R.c12, R.c13, R.c14, R.cg, R.hB, R.mB, R.m2, R.z15_14, R.z15_13⟩⟩
    · have hrd := ready_at rfl hr
      clear hr
      simp [Region.binds] at hrd
      have h0 : b 0 = true := by simp [hrd]
      have e0 := R.c0 h0
      clear hrd
      refine wpOp_step rfl (fun KK hK => ?_)
      go_simp
      refine hK _ _ ?_
      exact ⟨upd b 1 true, (upd (upd u 68 (.slice (some ⟨ga, 0, none⟩) N N)) 69 (.pointer (some ⟨ga, 0, none⟩))), Bz2, x12, x22, x32, y12, y22, y32, rfl, rfl, ⟨(fun _ => rfl), (fun _ => rfl), R.c2, R.c3, R.c4, R.c5, R.c6, R.c7, R.c8, R.c9, R.c10, R.c11, R.c12, R.c13, R.c14, R.cg, R.hB, R.mB, R.m2, R.z15_14, R.z15_13⟩⟩
    · have hrd := ready_at rfl hr
      clear hr
      simp [Region.binds] at hrd
      have h1 : b 1 = true := by simp [hrd]
      have e1 := R.c1 h1
      clear hrd
      have hq := HQ.out w' (HG2.out.trans R.cg (by simp))
      have hl0 := hq.1.1
      have hl1 := hq.1.2.1
      have hl2 := hq.1.2.2
      clear hq
      refine wpOp_step rfl (fun KK hK => ?_)
      go_simp
      refine hK _ _ ?_
      exact ⟨upd b 2 true, (upd (upd u 69 (.pointer (some ⟨ga, 0, none⟩))) 70 (.agg #[.slice rao n rac, .slice dao n dac, .slice vao K vac])), Bz2, x12, x22, x32, y12, y22, y32, rfl, rfl, ⟨R.c0, (fun _ => rfl), (fun _ => rfl), R.c3, R.c4, R.c5, R.c6, R.c7, R.c8, R.c9, R.c10, R.c11, R.c12, R.c13, R.c14, R.cg, R.hB, R.mB, R.m2, R.z15_14, R.z15_13⟩⟩
    · have hrd := ready_at rfl hr
      clear hr
      simp [Region.binds] at hrd
      clear hrd
      refine wpOp_step rfl (fun KK hK => ?_)
      go_simp
      refine hK _ _ ?_
      exact ⟨upd b 3 true, (upd u 71 (.slice (some ⟨fg, foff, none⟩) N fc)), Bz2, x12, x22, x32, y12, y22, y32, rfl, rfl, ⟨R.c0, R.c1, R.c2, (fun _ => rfl), R.c4, R.c5, R.c6, R.c7, R.c8, R.c9, R.c10, R.c11, R.c12, R.c13, R.c14, R.cg, R.hB, R.mB, R.m2, R.z15_14, R.z15_13⟩⟩
    · have hrd := ready_at rfl hr
      clear hr
      simp [Region.binds] at hrd
      have h3 : b 3 = true := by simp [hrd]
      have e3 := R.c3 h3
      clear hrd
      refine wpOp_step rfl (fun KK hK => ?_)
      go_simp
      refine hK _ _ ?_
      exact ⟨upd b 4 true, (upd (upd u 71 (.slice (some ⟨fg, foff, none⟩) N fc)) 72 (.pointer (some ⟨fg, foff, none⟩))), Bz2, x12, x22, x32, y12, y22, y32, rfl, rfl, ⟨R.c0, R.c1, R.c2, (fun _ => rfl), (fun _ => rfl), R.c5, R.c6, R.c7, R.c8, R.c9, R.c10, R.c11, R.c12, R.c13, R.c14, R.cg, R.hB, R.mB, R.m2, R.z15_14, R.z15_13⟩⟩
    · have hrd := ready_at rfl hr
      clear hr
      simp [Region.binds] at hrd
      have h4 : b 4 = true := by simp [hrd]
      have e4 := R.c4 h4
      clear hrd
      have hq := HQ.out w' (HG2.out.trans R.cg (by simp))
      have hl0 := hq.2.1
      have hl1 := hq.2.2.1
      have hl2 := hq.2.2.2.1
      have hl3 := hq.2.2.2.2
      clear hq
      refine wpOp_step rfl (fun KK hK => ?_)
      go_simp
      refine hK _ _ ?_
      exact ⟨upd b 5 true, (upd (upd u 72 (.pointer (some ⟨fg, foff, none⟩))) 73 (.agg #[.int .i64 A0, .int .i64 A1, .int .i64 A2, .int .i64 A3])), Bz2, x12, x22, x32, y12, y22, y32, rfl, rfl, ⟨R.c0, R.c1, R.c2, R.c3, (fun _ => rfl), (fun _ => rfl), R.c6, R.c7, R.c8, R.c9, R.c10, R.c11, R.c12, R.c13, R.c14, R.cg, R.hB, R.mB, R.m2, R.z15_14, R.z15_13⟩⟩
    · have hrd := ready_at rfl hr
      clear hr
      simp [Region.binds] at hrd
      clear hrd
      refine wpOp_step rfl (fun KK hK => ?_)
      go_simp
      refine hK _ _ ?_
      exact ⟨upd b 6 true, (upd u 74 (.int .i64 (xx : Int))), Bz2, x12, x22, x32, y12, y22, y32, rfl, rfl, ⟨R.c0, R.c1, R.c2, R.c3, R.c4, R.c5, (fun _ => rfl), R.c7, R.c8, R.c9, R.c10, R.c11, R.c12, R.c13, R.c14, R.cg, R.hB, R.mB, R.m2, R.z15_14, R.z15_13⟩⟩
    · have hrd := ready_at rfl hr
      clear hr
      simp [Region.binds] at hrd
      clear hrd
      refine wpOp_step rfl (fun KK hK => ?_)
      go_simp
      refine hK _ _ ?_
      exact ⟨upd b 7 true, (upd u 75 (.slice lo M lc)), Bz2, x12, x22, x32, y12, y22, y32, rfl, rfl, ⟨R.c0, R.c1, R.c2, R.c3, R.c4, R.c5, R.c6, (fun _ => rfl), R.c8, R.c9, R.c10, R.c11, R.c12, R.c13, R.c14, R.cg, R.hB, R.mB, R.m2, R.z15_14, R.z15_13⟩⟩
    · have hrd := ready_at rfl hr
      clear hr
      simp [Region.binds] at hrd
      have h7 : b 7 = true := by simp [hrd]
      have e7 := R.c7 h7
      clear hrd
      refine wpOp_step rfl (fun KK hK => ?_)
      go_simp
      refine hK _ _ ?_
      exact ⟨upd b 8 true, (upd (upd u 75 (.slice lo M lc)) 76 (.int .i64 (M : Int))), Bz2, x12, x22, x32, y12, y22, y32, rfl, rfl, ⟨R.c0, R.c1, R.c2, R.c3, R.c4, R.c5, R.c6, (fun _ => rfl), (fun _ => rfl), R.c9, R.c10, R.c11, R.c12, R.c13, R.c14, R.cg, R.hB, R.mB, R.m2, R.z15_14, R.z15_13⟩⟩
    · have hrd := ready_at rfl hr
      clear hr
      simp [Region.binds] at hrd
      have h8 : b 8 = true := by simp [hrd]
      have e8 := R.c8 h8
      clear hrd
      have hwa : IntKind.i64.wrap ((M : Int) + 1) = ((M : Int) + 1) := by obtain ⟨h1, h2, h3⟩ := HXY.out; exact IntWalk.i64_in _ (by omega)
      have hwb : Go.RowKit.wrap64 ((M : Int) + 1) = ((M : Int) + 1) := by obtain ⟨h1, h2, h3⟩ := HXY.out; exact IntWalk.wrap64_in _ (by omega)
      refine wpOp_step rfl (fun KK hK => ?_)
      go_simp
      refine hK _ _ ?_
      exact ⟨upd b 9 true, (upd (upd u 76 (.int .i64 (M : Int))) 77 (.int .i64 ((M : Int) + 1))), Bz2, x12, x22, x32, y12, y22, y32, rfl, rfl, ⟨R.c0, R.c1, R.c2, R.c3, R.c4, R.c5, R.c6, R.c7, (fun _ => rfl), (fun _ => rfl), R.c10, R.c11, R.c12, R.c13, R.c14, R.cg, R.hB, R.mB, R.m2, R.z15_14, R.z15_13⟩⟩
    · have hrd := ready_at rfl hr
      clear hr
      simp [Region.binds] at hrd
      clear hrd
      refine wpOp_step rfl (fun KK hK => ?_)
      go_simp
      refine hK _ _ ?_
      exact ⟨upd b 10 true, (upd u 78 (.int .i64 a3)), Bz2, x12, x22, x32, y12, y22, y32, rfl, rfl, ⟨R.c0, R.c1, R.c2, R.c3, R.c4, R.c5, R.c6, R.c7, R.c8, R.c9, (fun _ => rfl), R.c11, R.c12, R.c13, R.c14, R.cg, R.hB, R.mB, R.m2, R.z15_14, R.z15_13⟩⟩
    · have hrd := ready_at rfl hr
      clear hr
      simp [Region.binds] at hrd
      have h10 : b 10 = true := by simp [hrd]
      have e10 := R.c10 h10
      clear hrd
      refine wpOp_step rfl (fun KK hK => ?_)
      go_simp
      go_at_call 33
      (with_reducible refine (HW9.out w').mono ?_)
      rintro e w4 ⟨rfl, rfl⟩
      refine hK _ _ ?_
      exact ⟨upd b 11 true, (upd (upd u 78 (.int .i64 a3)) 79 (.int .i64 (yy : Int))), Bz2, x12, x22, x32, y12, y22, y32, rfl, rfl, ⟨R.c0, R.c1, R.c2, R.c3, R.c4, R.c5, R.c6, R.c7, R.c8, R.c9, (fun _ => rfl), (fun _ => rfl), R.c12, R.c13, R.c14, R.cg, R.hB, R.mB, R.m2, R.z15_14, R.z15_13⟩⟩
    · have hrd := ready_at rfl hr
      clear hr
      simp [Region.binds] at hrd
      have h9 : b 9 = true := by simp [hrd]
      have e9 := R.c9 h9
      have h11 : b 11 = true := by simp [hrd]
      have e11 := R.c11 h11
      clear hrd
      have hwa : IntKind.i64.wrap ((M : Int) + 1 + (yy : Int)) = ((M : Int) + 1 + (yy : Int)) := by obtain ⟨h1, h2, h3⟩ := HXY.out; exact IntWalk.i64_in _ (by omega)
      have hwb : Go.RowKit.wrap64 ((M : Int) + 1 + (yy : Int)) = ((M : Int) + 1 + (yy : Int)) := by obtain ⟨h1, h2, h3⟩ := HXY.out; exact IntWalk.wrap64_in _ (by omega)
      refine wpOp_step rfl (fun KK hK => ?_)
      go_simp
      refine hK _ _ ?_
      exact ⟨upd b 12 true, (upd (upd (upd u 77 (.int .i64 ((M : Int) + 1))) 79 (.int .i64 (yy : Int))) 80 (.int .i64 ((M : Int) + 1 + (yy : Int)))), Bz2, x12, x22, x32, y12, y22, y32, rfl, rfl, ⟨R.c0, R.c1, R.c2, R.c3, R.c4, R.c5, R.c6, R.c7, R.c8, (fun _ => rfl), R.c10, (fun _ => rfl), (fun _ => rfl), R.c13, R.c14, R.cg, R.hB, R.mB, R.m2, R.z15_14, R.z15_13⟩⟩
    · have hrd := ready_at rfl hr
      clear hr
      simp [Region.binds] at hrd
      have h2 : b 2 = true := by simp [hrd]
      have e2 := R.c2 h2
      have h5 : b 5 = true := by simp [hrd]
      have e5 := R.c5 h5
      have h6 : b 6 = true := by simp [hrd]
      have e6 := R.c6 h6
      have h12 : b 12 = true := by simp [hrd]
      have e12 := R.c12 h12
      have hb13 : b 13 = false := by simp [hrd]
      clear hrd
      refine wpOp_step rfl (fun KK hK => ?_)
      go_simp
      go_at_call 37
      (with_reducible refine (HCN.out w' _ _ (HG2.out.trans R.cg (by simp)) (HZ1.out _ _ (.inr (.inr (.inl ⟨rfl, rfl⟩))))).mono ?_)
      rintro e w4 ⟨p1, p2, p3, q1, q2, q3, rfl, hk3⟩
      refine hK _ _ ?_
      exact ⟨upd b 13 true, (upd (upd (upd (upd (upd u 70 (.agg #[.slice rao n rac, .slice dao n dac, .slice vao K vac])) 73 (.agg #[.int .i64 A0, .int .i64 A1, .int .i64 A2, .int .i64 A3])) 74 (.int .i64 (xx : Int))) 80 (.int .i64 ((M : Int) + 1 + (yy : Int)))) 81 (.agg #[.slice p1 0 q1, .slice p2 0 q2, .slice p3 0 q3])), Bz2, p1, p2, p3, q1, q2, q3, rfl, rfl, ⟨R.c0, R.c1, (fun _ => rfl), R.c3, R.c4, (fun _ => rfl), (fun _ => rfl), R.c7, R.c8, R.c9, R.c10, R.c11, (fun _ => rfl), (fun _ => rfl), R.c14, (R.cg.trans hk3 (by simp)), R.hB, (fun h1 h2 => hk3.heap (R.mB h1 h2) (by simp)), (fun h => absurd (R.z15_13 h) (by rw [hb13]; decide)), R.z15_14, (fun _ => rfl)⟩⟩
    · have hrd := ready_at rfl hr
      clear hr
      simp [Region.binds] at hrd
      have hb14 : b 14 = false := by simp [hrd]
      clear hrd
      refine wpOp_step rfl (fun KK hK => ?_)
      go_simp
      refine hK _ _ ?_
      exact ⟨upd b 14 true, (upd u 17 (.pointer (some ⟨w'.heap.size, 0, none⟩))), w'.heap.size, x12, x22, x32, y12, y22, y32, rfl, rfl, ⟨R.c0, R.c1, R.c2, R.c3, R.c4, R.c5, R.c6, R.c7, R.c8, R.c9, R.c10, R.c11, R.c12, R.c13, (fun _ => rfl), (R.cg.alloc _), (fun _ => R.cg.size), (fun _ _ => hl_new rfl), (fun h => absurd (R.z15_14 h) (by rw [hb14]; decide)), (fun _ => rfl), R.z15_13⟩⟩
    · have hrd := ready_at rfl hr
      clear hr
      simp [Region.binds] at hrd
      have h13 : b 13 = true := by simp [hrd]
      have e13 := R.c13 h13
      have h14 : b 14 = true := by simp [hrd]
      have e14 := R.c14 h14
      have hb15 : b 15 = false := by simp [hrd]
      clear hrd
      have hx4 := R.mB h14 hb15
      have hfz0 : w'.frozen? ⟨Bz2, 0, none⟩ = false := by simp [World.frozen?, hx4]
      have hfz1 : w'.frozen? ⟨Bz2, 1, none⟩ = false := by simp [World.frozen?, hx4]
      have hfz2 : w'.frozen? ⟨Bz2, 2, none⟩ = false := by simp [World.frozen?, hx4]
      have hld0 : w'.cell? ⟨Bz2, 0, none⟩ = some (.slice none 0 0) := by simp [World.cell?, hx4]
      have hld1 : w'.cell? ⟨Bz2, 1, none⟩ = some (.slice none 0 0) := by simp [World.cell?, hx4]
      have hld2 : w'.cell? ⟨Bz2, 2, none⟩ = some (.slice none 0 0) := by simp [World.cell?, hx4]
      refine wpOp_step rfl (fun KK hK => ?_)
      go_simp
      refine hK _ _ ?_
      exact ⟨upd b 15 true, (upd (upd u 81 (.agg #[.slice x12 0 y12, .slice x22 0 y22, .slice x32 0 y32])) 17 (.pointer (some ⟨Bz2, 0, none⟩))), Bz2, x12, x22, x32, y12, y22, y32, rfl, rfl, ⟨R.c0, R.c1, R.c2, R.c3, R.c4, R.c5, R.c6, R.c7, R.c8, R.c9, R.c10, R.c11, R.c12, (fun _ => rfl), (fun _ => rfl), (((R.cg.setCell (p := ⟨Bz2, 0, none⟩) (.inr (R.hB h14)) _).setCell (p := ⟨Bz2, 1, none⟩) (.inr (R.hB h14)) _).setCell (p := ⟨Bz2, 2, none⟩) (.inr (R.hB h14)) _), R.hB, (fun _ h => by cases h), (fun _ => cell_set3 hx4 _ _ _), (fun _ => h14), (fun _ => h13)⟩⟩
  obtain ⟨b, u, Bz2, x12, x22, x32, y12, y22, y32, rfl, rfl, R⟩ := hI
  have hall := ready_all2 hr rfl (by kernel_rfl)
  have h15 : b 15 = true := Option.some.inj (hall 15 (by decide))
  have h14 : b 14 = true := Option.some.inj (hall 14 (by decide))
  have e14 := R.c14 h14
  have M22 := Lib.hid (R.m2 h15)
  have HCG := Lib.hid R.cg
  unfold FRN12
  rw [e14]
  clear e14
  clear R hr hall h15 h14
  obtain ⟨w3, hw3⟩ : ∃ z, z = w' := ⟨_, rfl⟩
  rw [← hw3] at HCG M22 ⊢
  clear hw3
  have HG3 := Lib.hid (HG2.out.trans HCG.out (by simp))
  replace M20 := Lib.hid (HCG.out.cell M20.out (by simp))
  replace M21 := Lib.hid (HCG.out.cell M21.out (by simp))
  clear HCG
  go_upto_region 13 with fail
  refine wp_region_any (by kernel_rfl) ?_
  change wpAny _ _ _ _ _ _ _ (World.drew _)
  refine region_bs (fun base u => FRN13 N M n K ga fg foff fc lc xx yy lo rao dao vao rac dac vac A0 A1 A2 A3 a3 Bz0 Bz1 Bz2 0 none none none 0 0 0 base u) rfl (fun base u0 hbase => ?_)
  clear hbase
  refine wpAny_inv (JIN13 N M n K ga fg foff fc lc xx yy lo rao dao vao rac dac vac A0 A1 A2 A3 a3 Bz0 Bz1 Bz2 base w3) ?_ (fun listed a' w' hI hr => ?_) _ _ _ _ ?_ ?_
  rotate_left 2
  focus exact JIN13_start ((Chg.refl [] w3).drew)
  focus exact count_rep _
  focus
    intro listed a' w' hI ii hi hr
    obtain ⟨b, u, Bz3, x13, x23, x33, y13, y23, y33, rfl, rfl, R⟩ := hI
    have hcs := ltN13 ii hi
    clear hi
    unfold FRN13
    rcases hcs with rfl | rfl | rfl | rfl | rfl | rfl | rfl | rfl | rfl | rfl | rfl | rfl
    · have hrd := ready_at rfl hr
      clear hr
      simp [Region.binds] at hrd
      clear hrd
      refine wpOp_step rfl (fun KK hK => ?_)
      go_simp
      refine hK _ _ ?_
      exact ⟨upd b 0 true, (upd u 82 (.slice (some ⟨ga, 0, none⟩) N N)), Bz3, x13, x23, x33, y13, y23, y33, rfl, rfl, ⟨(fun _ => rfl), R.c1, R.c2, R.c3, R.c4, R.c5, R.c6, R.c7, R.c8, R.c9, R.c10, R.cg, R.hB, R.mB, R.m2, R.z11_10, R.z11_9⟩⟩
    · have hrd := ready_at rfl hr
      clear hr
      simp [Region.binds] at hrd
      have h0 : b 0 = true := by simp [hrd]
      have e0 := R.c0 h0
      clear hrd
      refine wpOp_step rfl (fun KK hK => ?_)
      go_simp
      refine hK _ _ ?_
      exact ⟨upd b 1 true, (upd (upd u 82 (.slice (some ⟨ga, 0, none⟩) N N)) 83 (.pointer (some ⟨ga, 0, none⟩))), Bz3, x13, x23, x33, y13, y23, y33, rfl, rfl, ⟨(fun _ => rfl), (fun _ => rfl), R.c2, R.c3, R.c4, R.c5, R.c6, R.c7, R.c8, R.c9, R.c10, R.cg, R.hB, R.mB, R.m2, R.z11_10, R.z11_9⟩⟩
    · have hrd := ready_at rfl hr
      clear hr
      simp [Region.binds] at hrd
      have h1 : b 1 = true := by simp [hrd]
      have e1 := R.c1 h1
      clear hrd
      have hq := HQ.out w' (HG3.out.trans R.cg (by simp))
      have hl0 := hq.1.1
      have hl1 := hq.1.2.1
      have hl2 := hq.1.2.2
      clear hq
      refine wpOp_step rfl (fun KK hK => ?_)
      go_simp
      refine hK _ _ ?_
      exact ⟨upd b 2 true, (upd (upd u 83 (.pointer (some ⟨ga, 0, none⟩))) 84 (.agg #[.slice rao n rac, .slice dao n dac, .slice vao K vac])), Bz3, x13, x23, x33, y13, y23, y33, rfl, rfl, ⟨R.c0, (fun _ => rfl), (fun _ => rfl), R.c3, R.c4, R.c5, R.c6, R.c7, R.c8, R.c9, R.c10, R.cg, R.hB, R.mB, R.m2, R.z11_10, R.z11_9⟩⟩
    · have hrd := ready_at rfl hr
      clear hr
      simp [Region.binds] at hrd
      clear hrd
      refine wpOp_step rfl (fun KK hK => ?_)
      go_simp
      refine hK _ _ ?_
      exact ⟨upd b 3 true, (upd u 85 (.slice (some ⟨fg, foff, none⟩) N fc)), Bz3, x13, x23, x33, y13, y23, y33, rfl, rfl, ⟨R.c0, R.c1, R.c2, (fun _ => rfl), R.c4, R.c5, R.c6, R.c7, R.c8, R.c9, R.c10, R.cg, R.hB, R.mB, R.m2, R.z11_10, R.z11_9⟩⟩
    · have hrd := ready_at rfl hr
      clear hr
      simp [Region.binds] at hrd
      have h3 : b 3 = true := by simp [hrd]
      have e3 := R.c3 h3
      clear hrd
      refine wpOp_step rfl (fun KK hK => ?_)
      go_simp
      refine hK _ _ ?_
      exact ⟨upd b 4 true, (upd (upd u 85 (.slice (some ⟨fg, foff, none⟩) N fc)) 86 (.pointer (some ⟨fg, foff, none⟩))), Bz3, x13, x23, x33, y13, y23, y33, rfl, rfl, ⟨R.c0, R.c1, R.c2, (fun _ => rfl), (fun _ => rfl), R.c5, R.c6, R.c7, R.c8, R.c9, R.c10, R.cg, R.hB, R.mB, R.m2, R.z11_10, R.z11_9⟩⟩
    · have hrd := ready_at rfl hr
      clear hr
      simp [Region.binds] at hrd
      have h4 : b 4 = true := by simp [hrd]
      have e4 := R.c4 h4
      clear hrd
      have hq := HQ.out w' (HG3.out.trans R.cg (by simp))
      have hl0 := hq.2.1
      have hl1 := hq.2.2.1
      have hl2 := hq.2.2.2.1
      have hl3 := hq.2.2.2.2
      clear hq
      refine wpOp_step rfl (fun KK hK => ?_)
      go_simp
      refine hK _ _ ?_
      exact ⟨upd b 5 true, (upd (upd u 86 (.pointer (some ⟨fg, foff, none⟩))) 87 (.agg #[.int .i64 A0, .int .i64 A1, .int .i64 A2, .int .i64 A3])), Bz3, x13, x23, x33, y13, y23, y33, rfl, rfl, ⟨R.c0, R.c1, R.c2, R.c3, (fun _ => rfl), (fun _ => rfl), R.c6, R.c7, R.c8, R.c9, R.c10, R.cg, R.hB, R.mB, R.m2, R.z11_10, R.z11_9⟩⟩
    · have hrd := ready_at rfl hr
      clear hr
      simp [Region.binds] at hrd
      clear hrd
      refine wpOp_step rfl (fun KK hK => ?_)
      go_simp
      refine hK _ _ ?_
      exact ⟨upd b 6 true, (upd u 88 (.int .i64 (xx : Int))), Bz3, x13, x23, x33, y13, y23, y33, rfl, rfl, ⟨R.c0, R.c1, R.c2, R.c3, R.c4, R.c5, (fun _ => rfl), R.c7, R.c8, R.c9, R.c10, R.cg, R.hB, R.mB, R.m2, R.z11_10, R.z11_9⟩⟩
    · have hrd := ready_at rfl hr
      clear hr
      simp [Region.binds] at hrd
      have h6 : b 6 = true := by simp [hrd]
      have e6 := R.c6 h6
      clear hrd
      have hwa : IntKind.i64.wrap ((xx : Int) + 1) = ((xx : Int) + 1) := by obtain ⟨h1, h2, h3⟩ := HXY.out; exact IntWalk.i64_in _ (by omega)
      have hwb : Go.RowKit.wrap64 ((xx : Int) + 1) = ((xx : Int) + 1) := by obtain ⟨h1, h2, h3⟩ := HXY.out; exact IntWalk.wrap64_in _ (by omega)
      refine wpOp_step rfl (fun KK hK => ?_)
      go_simp
      refine hK _ _ ?_
      exact ⟨upd b 7 true, (upd (upd u 88 (.int .i64 (xx : Int))) 89 (.int .i64 ((xx : Int) + 1))), Bz3, x13, x23, x33, y13, y23, y33, rfl, rfl, ⟨R.c0, R.c1, R.c2, R.c3, R.c4, R.c5, (fun _ => rfl), (fun _ => rfl), R.c8, R.c9, R.c10, R.cg, R.hB, R.mB, R.m2, R.z11_10, R.z11_9⟩⟩
    · have hrd := ready_at rfl hr
      clear hr
      simp [Region.binds] at hrd
      clear hrd
      refine wpOp_step rfl (fun KK hK => ?_)
      go_simp
      refine hK _ _ ?_
      exact ⟨upd b 8 true, (upd u 90 (.int .i64 (xx : Int))), Bz3, x13, x23, x33, y13, y23, y33, rfl, rfl, ⟨R.c0, R.c1, R.c2, R.c3, R.c4, R.c5, R.c6, R.c7, (fun _ => rfl), R.c9, R.c10, R.cg, R.hB, R.mB, R.m2, R.z11_10, R.z11_9⟩⟩
    · have hrd := ready_at rfl hr
      clear hr
      simp [Region.binds] at hrd
      have h2 : b 2 = true := by simp [hrd]
      have e2 := R.c2 h2
      have h5 : b 5 = true := by simp [hrd]
      have e5 := R.c5 h5
      have h7 : b 7 = true := by simp [hrd]
      have e7 := R.c7 h7
      have h8 : b 8 = true := by simp [hrd]
      have e8 := R.c8 h8
      have hb9 : b 9 = false := by simp [hrd]
      clear hrd
      refine wpOp_step rfl (fun KK hK => ?_)
      go_simp
      go_at_call 37
      (with_reducible refine (HCN.out w' _ _ (HG3.out.trans R.cg (by simp)) (HZ1.out _ _ (.inr (.inr (.inr ⟨rfl, rfl⟩))))).mono ?_)
      rintro e w4 ⟨p1, p2, p3, q1, q2, q3, rfl, hk3⟩
      refine hK _ _ ?_
      exact ⟨upd b 9 true, (upd (upd (upd (upd (upd u 84 (.agg #[.slice rao n rac, .slice dao n dac, .slice vao K vac])) 87 (.agg #[.int .i64 A0, .int .i64 A1, .int .i64 A2, .int .i64 A3])) 89 (.int .i64 ((xx : Int) + 1))) 90 (.int .i64 (xx : Int))) 91 (.agg #[.slice p1 0 q1, .slice p2 0 q2, .slice p3 0 q3])), Bz3, p1, p2, p3, q1, q2, q3, rfl, rfl, ⟨R.c0, R.c1, (fun _ => rfl), R.c3, R.c4, (fun _ => rfl), R.c6, (fun _ => rfl), (fun _ => rfl), (fun _ => rfl), R.c10, (R.cg.trans hk3 (by simp)), R.hB, (fun h1 h2 => hk3.heap (R.mB h1 h2) (by simp)), (fun h => absurd (R.z11_9 h) (by rw [hb9]; decide)), R.z11_10, (fun _ => rfl)⟩⟩
    · have hrd := ready_at rfl hr
      clear hr
      simp [Region.binds] at hrd
      have hb10 : b 10 = false := by simp [hrd]
      clear hrd
      refine wpOp_step rfl (fun KK hK => ?_)
      go_simp
      refine hK _ _ ?_
      exact ⟨upd b 10 true, (upd u 18 (.pointer (some ⟨w'.heap.size, 0, none⟩))), w'.heap.size, x13, x23, x33, y13, y23, y33, rfl, rfl, ⟨R.c0, R.c1, R.c2, R.c3, R.c4, R.c5, R.c6, R.c7, R.c8, R.c9, (fun _ => rfl), (R.cg.alloc _), (fun _ => R.cg.size), (fun _ _ => hl_new rfl), (fun h => absurd (R.z11_10 h) (by rw [hb10]; decide)), (fun _ => rfl), R.z11_9⟩⟩
    · have hrd := ready_at rfl hr
      clear hr
      simp [Region.binds] at hrd
      have h9 : b 9 = true := by simp [hrd]
      have e9 := R.c9 h9
      have h10 : b 10 = true := by simp [hrd]
      have e10 := R.c10 h10
      have hb11 : b 11 = false := by simp [hrd]
      clear hrd
      have hx4 := R.mB h10 hb11
      have hfz0 : w'.frozen? ⟨Bz3, 0, none⟩ = false := by simp [World.frozen?, hx4]
      have hfz1 : w'.frozen? ⟨Bz3, 1, none⟩ = false := by simp [World.frozen?, hx4]
      have hfz2 : w'.frozen? ⟨Bz3, 2, none⟩ = false := by simp [World.frozen?, hx4]
      have hld0 : w'.cell? ⟨Bz3, 0, none⟩ = some (.slice none 0 0) := by simp [World.cell?, hx4]
      have hld1 : w'.cell? ⟨Bz3, 1, none⟩ = some (.slice none 0 0) := by simp [World.cell?, hx4]
      have hld2 : w'.cell? ⟨Bz3, 2, none⟩ = some (.slice none 0 0) := by simp [World.cell?, hx4]
      refine wpOp_step rfl (fun KK hK => ?_)
      go_simp
      refine hK _ _ ?_
      exact ⟨upd b 11 true, (upd (upd u 91 (.agg #[.slice x13 0 y13, .slice x23 0 y23, .slice x33 0 y33])) 18 (.pointer (some ⟨Bz3, 0, none⟩))), Bz3, x13, x23, x33, y13, y23, y33, rfl, rfl, ⟨R.c0, R.c1, R.c2, R.c3, R.c4, R.c5, R.c6, R.c7, R.c8, (fun _ => rfl), (fun _ => rfl), (((R.cg.setCell (p := ⟨Bz3, 0, none⟩) (.inr (R.hB h10)) _).setCell (p := ⟨Bz3, 1, none⟩) (.inr (R.hB h10)) _).setCell (p := ⟨Bz3, 2, none⟩) (.inr (R.hB h10)) _), R.hB, (fun _ h => by cases h), (fun _ => cell_set3 hx4 _ _ _), (fun _ => h10), (fun _ => h9)⟩⟩
  obtain ⟨b, u, Bz3, x13, x23, x33, y13, y23, y33, rfl, rfl, R⟩ := hI
  have hall := ready_all2 hr rfl (by kernel_rfl)
  have h11 : b 11 = true := Option.some.inj (hall 11 (by decide))
  have h10 : b 10 = true := Option.some.inj (hall 10 (by decide))
  have e10 := R.c10 h10
  have M23 := Lib.hid (R.m2 h11)
  have HCG := Lib.hid R.cg
  unfold FRN13
  rw [e10]
  clear e10
  clear R hr hall h11 h10
  obtain ⟨w4, hw4⟩ : ∃ z, z = w' := ⟨_, rfl⟩
  rw [← hw4] at HCG M23 ⊢
  clear hw4
  have HG4 := Lib.hid (HG3.out.trans HCG.out (by simp))
  replace M20 := Lib.hid (HCG.out.cell M20.out (by simp))
  replace M21 := Lib.hid (HCG.out.cell M21.out (by simp))
  replace M22 := Lib.hid (HCG.out.cell M22.out (by simp))
  clear HCG
  have HSF := Lib.hid (show ∀ wx, Chg [] w4 wx → wx.cell? ⟨Bz0, 0, none⟩ = some (.slice x10 0 y10) ∧ wx.cell? ⟨Bz1, 0, none⟩ = some (.slice x11 0 y11) ∧ wx.cell? ⟨Bz2, 0, none⟩ = some (.slice x12 0 y12) ∧ wx.cell? ⟨Bz3, 0, none⟩ = some (.slice x13 0 y13) ∧ (wx.cell? ⟨ga, 0, none⟩ = some (.slice rao n rac) ∧ wx.cell? ⟨ga, 1, none⟩ = some (.slice dao n dac) ∧ wx.cell? ⟨ga, 2, none⟩ = some (.slice vao K vac)) ∧ wx.cell? ⟨fg, foff, none⟩ = some (.int .i64 A0) ∧ wx.cell? ⟨fg, foff + 1, none⟩ = some (.int .i64 A1) ∧ wx.cell? ⟨fg, foff + 2, none⟩ = some (.int .i64 A2) ∧ wx.cell? ⟨fg, foff + 3, none⟩ = some (.int .i64 A3) from fun wx h => ⟨h.cell M20.out (by simp), h.cell M21.out (by simp), h.cell M22.out (by simp), h.cell M23.out (by simp), HQ.out wx (HG4.out.trans h (by simp))⟩)
  have HZ4 := Lib.hid (Chg.refl [] w4)
  go_upto_region 14 with fail
  go_region_held3 (fun wx => wx.cell? ⟨Bz0, 0, none⟩ = some (.slice x10 0 y10) ∧ wx.cell? ⟨Bz1, 0, none⟩ = some (.slice x11 0 y11) ∧ wx.cell? ⟨Bz2, 0, none⟩ = some (.slice x12 0 y12) ∧ wx.cell? ⟨Bz3, 0, none⟩ = some (.slice x13 0 y13) ∧ (wx.cell? ⟨ga, 0, none⟩ = some (.slice rao n rac) ∧ wx.cell? ⟨ga, 1, none⟩ = some (.slice dao n dac) ∧ wx.cell? ⟨ga, 2, none⟩ = some (.slice vao K vac)) ∧ wx.cell? ⟨fg, foff, none⟩ = some (.int .i64 A0) ∧ wx.cell? ⟨fg, foff + 1, none⟩ = some (.int .i64 A1) ∧ wx.cell? ⟨fg, foff + 2, none⟩ = some (.int .i64 A2) ∧ wx.cell? ⟨fg, foff + 3, none⟩ = some (.int .i64 A3)) (first | exact HSF.out _ HZ4.out | exact HSF.out _ HZ4.out.drew | exact HSF.out _ HKC.out | exact HSF.out _ HKC.out.drew | exact HSF.out _ HKD.out | exact HSF.out _ HKD.out.drew) (first
    | (go_at_call 37; (with_reducible refine (HCW.out _ (by first | exact HG4.out | exact HG4.out.drew | exact HG4.out.drewN _)).mono ?_); rintro e wx ⟨v1, v2, v3, rfl, h1, h2, h3, hk⟩; have HKC := Lib.hid (show Chg [] w4 wx from Chg.trans (by first | exact (Chg.refl [] w4) | exact (Chg.refl [] w4).drew | exact (Chg.refl [] w4).drewN _) hk (by simp)); have HV1 := Lib.hid h1; have HV2 := Lib.hid h2; have HV3 := Lib.hid h3; clear h1 h2 h3 hk)
    | (go_at_call 36; (with_reducible refine (HSA.out _ _ _ _ (by first | exact HG4.out.trans HKC.out (by simp) | exact (HG4.out.trans HKC.out (by simp)).drew | exact (HG4.out.trans HKC.out (by simp)).drewN _) (by first | exact HV1.out | exact HV1.out.keep (Chg.refl [] _).drew | exact HV1.out.keep ((Chg.refl [] _).drewN _)) (by first | exact HV2.out | exact HV2.out.keep (Chg.refl [] _).drew | exact HV2.out.keep ((Chg.refl [] _).drewN _)) (by first | exact HV3.out | exact HV3.out.keep (Chg.refl [] _).drew | exact HV3.out.keep ((Chg.refl [] _).drewN _))).mono ?_); rintro e wy ⟨rfl, hk⟩; have HKD := Lib.hid (show Chg [] w4 wy from Chg.trans (by first | exact HKC.out | exact HKC.out.drew | exact HKC.out.drewN _) hk (by simp)); clear hk))
  go_wp2
  go_ret
  exact ⟨rfl, ((HK5.out.trans HG4.out (by simp)).trans HKD.out (by simp)).below (Nat.le_refl _) (by simp)⟩

end Go.Proofs.Ytfdmbpfpdijpdaa
