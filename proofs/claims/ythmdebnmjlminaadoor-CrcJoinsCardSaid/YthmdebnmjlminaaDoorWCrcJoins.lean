/- The walk of the statement CrcJoins. -/
import Derived.Test.YthmdebnmjlminaaDoorDr
import Derived.Test.YthmdebnmjlminaaDoorIv
import Derived.Deep.RegionHeld3
namespace Go.Proofs.YthmdebnmjlminaaDoor
open Go.RowKit
set_option linter.unusedVariables false

/-- Three rows, turned together, place by place, up to j; noughts behind. -/
def tri (A B C : List Nat) (n j : Nat) : List Nat := (List.range n).map fun i => if i < j then A.getD i 0 ^^^ B.getD i 0 ^^^ C.getD i 0 else 0

@[simp] theorem tri_length (A B C : List Nat) (n j : Nat) : (tri A B C n j).length = n := by simp [tri]

theorem tri_zero (A B C : List Nat) (n : Nat) : tri A B C n 0 = List.replicate n 0 := by
  apply List.ext_getElem (by simp)
  intro i h1 h2
  simp [tri]

theorem tri_step (A B C : List Nat) (n j : Nat) : (tri A B C n j).set j (A.getD j 0 ^^^ B.getD j 0 ^^^ C.getD j 0) = tri A B C n (j + 1) := by
  apply List.ext_getElem (by simp)
  intro i h1 h2
  rw [List.getElem_set]
  simp only [tri, List.getElem_map, List.getElem_range]
  by_cases e : j = i
  · subst e; simp
  · rw [if_neg e]
    by_cases h : i < j
    · rw [if_pos h, if_pos (by omega)]
    · rw [if_neg h, if_neg (by omega)]

theorem num_append (a b : List Nat) : num (a ++ b) = num a ^^^ 2 ^ (8 * a.length) * num b := by
  induction a with
  | nil => simp [num]
  | cons x a ih =>
    rw [List.cons_append, num, num, ih, List.length_cons, show 8 * (a.length + 1) = 8 + 8 * a.length by omega, Nat.pow_add, Nat.mul_assoc]
    rw [Nat.mul_comm (2 ^ 8) (num a ^^^ _), Nat.mul_comm (2 ^ 8) (num a), Nat.mul_comm (2 ^ 8), ← Nat.shiftLeft_eq _ 8, ← Nat.shiftLeft_eq _ 8, ← Nat.shiftLeft_eq _ 8, Nat.shiftLeft_xor_distrib]
    rw [Nat.xor_assoc, Nat.xor_assoc]
    congr 1
    exact Nat.xor_comm _ _

theorem tri_num : ∀ (A B C : List Nat) (n : Nat), n ≤ A.length → n ≤ B.length → n ≤ C.length → num (tri A B C n n) = num (A.take n) ^^^ num (B.take n) ^^^ num (C.take n)
  | A, B, C, 0, _, _, _ => by simp [tri, num]
  | [], _, _, n + 1, h, _, _ => by simp at h
  | _, [], _, n + 1, _, h, _ => by simp at h
  | _, _, [], n + 1, _, _, h => by simp at h
  | a :: A, b :: B, c :: C, n + 1, hA, hB, hC => by
    have ih := tri_num A B C n (by simpa using hA) (by simpa using hB) (by simpa using hC)
    have e : tri (a :: A) (b :: B) (c :: C) (n + 1) (n + 1) = (a ^^^ b ^^^ c) :: tri A B C n n := by
      simp only [tri, List.range_succ_eq_map, List.map_cons, List.map_map]
      congr 1
      apply List.map_congr_left
      intro i _
      simp
    rw [e, num, ih, List.take_succ_cons, List.take_succ_cons, List.take_succ_cons, num, num, num]
    have hs : ∀ x y : Nat, 2 ^ 8 * (x ^^^ y) = 2 ^ 8 * x ^^^ 2 ^ 8 * y := fun x y => by
      rw [Nat.mul_comm, Nat.mul_comm (2 ^ 8) x, Nat.mul_comm (2 ^ 8), ← Nat.shiftLeft_eq, ← Nat.shiftLeft_eq, ← Nat.shiftLeft_eq, Nat.shiftLeft_xor_distrib]
    rw [hs, hs, xor4 (2 ^ 8 * num (A.take n)) a, xor4]

theorem tri_crc (A B C : List Nat) (n : Nat) (hA : n ≤ A.length) (hB : n ≤ B.length) (hC : n ≤ C.length) : crc (tri A B C n n) = crc (A.take n) ^^^ crc (B.take n) ^^^ crc (C.take n) := by
  have la : (A.take n).length = n := by simp; omega
  have lb : (B.take n).length = n := by simp; omega
  have lc : (C.take n).length = n := by simp; omega
  have h1 := crc_xor (A.take n) (B.take n) (by rw [la, lb])
  have h2 := crc_xor (tri A B C n n) (C.take n) (by rw [tri_length, lc])
  rw [tri_length, tri_num A B C n hA hB hC, Nat.xor_assoc, Nat.xor_self, Nat.xor_zero] at h2
  rw [la] at h1
  rw [h1, ← h2, Nat.xor_assoc, Nat.xor_self, Nat.xor_zero]

theorem tri_bytes (A B C : List Nat) (n j : Nat) (hA : ∀ x ∈ A, x < 2 ^ 8) (hB : ∀ x ∈ B, x < 2 ^ 8) (hC : ∀ x ∈ C, x < 2 ^ 8) : ∀ x ∈ tri A B C n j, x < 2 ^ 8 := by
  intro x hx
  obtain ⟨i, _, rfl⟩ := List.mem_map.1 hx
  split
  · exact xor_lt 8 (xor_lt 8 (getD_lt hA (by decide) i) (getD_lt hB (by decide) i)) (getD_lt hC (by decide) i)
  · decide

theorem own_drew {w : World} {B T n : Nat} {v : Value} {xs : List Value} (h : w.ownsRow B T 1 v n xs) : w.drew.ownsRow B T 1 v n xs := h

theorem run_min_int4 {P : Program} {w : World} (ts : Array TypeId) (t : TypeId) (x y z u : Int) : (Builtin.min_ ts t #[.int .i64 x, .int .i64 y, .int .i64 z, .int .i64 u]).run P w = .ok (.int .i64 (if u < (if z < (if y < x then y else x) then z else (if y < x then y else x)) then u else (if z < (if y < x then y else x) then z else (if y < x then y else x)))) w := by
  simp [Builtin.min_, Builtin.min2]

theorem lt22 : ∀ i : Nat, i < 22 → i = 0 ∨ i = 1 ∨ i = 2 ∨ i = 3 ∨ i = 4 ∨ i = 5 ∨ i = 6 ∨ i = 7 ∨ i = 8 ∨ i = 9 ∨ i = 10 ∨ i = 11 ∨ i = 12 ∨ i = 13 ∨ i = 14 ∨ i = 15 ∨ i = 16 ∨ i = 17 ∨ i = 18 ∨ i = 19 ∨ i = 20 ∨ i = 21 := by decide

/-- What holds within the last region, whatever has come up: the frame, what is laid, what has changed since w. -/
def JI (n cx ca cb cc : Nat) (av bv cv xv fa fb fc : Value) (w : World) (listed : Array Bool) (a' : Act) (w' : World) : Prop :=
  ∃ (b : Nat → Bool) (g : Nat → Nat) (u : Nat → Value), listed = #[(b 0), (b 1), (b 2), (b 3), (b 4), (b 5), (b 6), (b 7), (b 8), (b 9), (b 10), (b 11), (b 12), (b 13), (b 14), (b 15), (b 16), (b 17), (b 18), (b 19), (b 20), (b 21)] ∧ a' = { tmps := #[av, bv, cv, (u 3), (u 4), (u 5), (bif (b 21) then (.bool ((cx : Int) == bits BinOp.xor IntKind.u32 (bits BinOp.xor IntKind.u32 (ca : Int) (cb : Int)) (cc : Int))) else (u 6)), .int .i64 (n : Int), xv, (u 9), (u 10), (u 11), (u 12), (u 13), (u 14), (u 15), (u 16), (u 17), (u 18), (u 19), (u 20), (u 21), (u 22), (u 23), (u 24), (u 25), (u 26), (u 27), (u 28), (u 29), (u 30), (u 31), (u 32), (u 33), (u 34), (u 35), (u 36), (u 37), (u 38), (u 39), (u 40), (u 41), (u 42), (bif (b 0) then (xv) else (u 43)), (bif (b 1) then (.slice (some ⟨(g 1), 0, none⟩) 1 1) else (u 44)), (bif (b 2) then (.int .u32 (cx : Int)) else (u 45)), (bif (b 3) then (av) else (u 46)), (bif (b 4) then (.int .i64 (n : Int)) else (u 47)), (bif (b 5) then (fa) else (u 48)), (bif (b 6) then (.slice (some ⟨(g 2), 0, none⟩) 1 1) else (u 49)), (bif (b 7) then (.int .u32 (ca : Int)) else (u 50)), (bif (b 8) then (bv) else (u 51)), (bif (b 9) then (.int .i64 (n : Int)) else (u 52)), (bif (b 10) then (fb) else (u 53)), (bif (b 11) then (.slice (some ⟨(g 3), 0, none⟩) 1 1) else (u 54)), (bif (b 12) then (.int .u32 (cb : Int)) else (u 55)), (bif (b 13) then (.int .u32 (bits BinOp.xor IntKind.u32 (ca : Int) (cb : Int))) else (u 56)), (bif (b 14) then (cv) else (u 57)), (bif (b 15) then (.int .i64 (n : Int)) else (u 58)), (bif (b 16) then (fc) else (u 59)), (bif (b 17) then (.slice (some ⟨(g 4), 0, none⟩) 1 1) else (u 60)), (bif (b 18) then (.int .u32 (cc : Int)) else (u 61)), (bif (b 19) then (.int .u32 (bits BinOp.xor IntKind.u32 (bits BinOp.xor IntKind.u32 (ca : Int) (cb : Int)) (cc : Int))) else (u 62)), (bif (b 20) then (.bool ((cx : Int) == bits BinOp.xor IntKind.u32 (bits BinOp.xor IntKind.u32 (ca : Int) (cb : Int)) (cc : Int))) else (u 63))], defers := [] } ∧ Hid (Chg [] w w') ∧ Hid ((b 1) = true → w'.heap[(g 1)]? = some (.cells #[xv] 24 (0, 0))) ∧ Hid ((b 6) = true → w'.heap[(g 2)]? = some (.cells #[fa] 24 (0, 0))) ∧ Hid ((b 11) = true → w'.heap[(g 3)]? = some (.cells #[fb] 24 (0, 0))) ∧ Hid ((b 17) = true → w'.heap[(g 4)]? = some (.cells #[fc] 24 (0, 0)))

theorem JI.elim {n cx ca cb cc : Nat} {av bv cv xv fa fb fc : Value} {w : World} {listed : Array Bool} {a' : Act} {w' : World} (h : JI n cx ca cb cc av bv cv xv fa fb fc w listed a' w') (T : Prop)
    (k : ∀ (b0 b1 b2 b3 b4 b5 b6 b7 b8 b9 b10 b11 b12 b13 b14 b15 b16 b17 b18 b19 b20 b21 : Bool) (g1 g2 g3 g4 : Nat) (u3 u4 u5 u6 u9 u10 u11 u12 u13 u14 u15 u16 u17 u18 u19 u20 u21 u22 u23 u24 u25 u26 u27 u28 u29 u30 u31 u32 u33 u34 u35 u36 u37 u38 u39 u40 u41 u42 u43 u44 u45 u46 u47 u48 u49 u50 u51 u52 u53 u54 u55 u56 u57 u58 u59 u60 u61 u62 u63 : Value), listed = #[b0, b1, b2, b3, b4, b5, b6, b7, b8, b9, b10, b11, b12, b13, b14, b15, b16, b17, b18, b19, b20, b21] → a' = { tmps := #[av, bv, cv, u3, u4, u5, (bif b21 then (.bool ((cx : Int) == bits BinOp.xor IntKind.u32 (bits BinOp.xor IntKind.u32 (ca : Int) (cb : Int)) (cc : Int))) else u6), .int .i64 (n : Int), xv, u9, u10, u11, u12, u13, u14, u15, u16, u17, u18, u19, u20, u21, u22, u23, u24, u25, u26, u27, u28, u29, u30, u31, u32, u33, u34, u35, u36, u37, u38, u39, u40, u41, u42, (bif b0 then (xv) else u43), (bif b1 then (.slice (some ⟨g1, 0, none⟩) 1 1) else u44), (bif b2 then (.int .u32 (cx : Int)) else u45), (bif b3 then (av) else u46), (bif b4 then (.int .i64 (n : Int)) else u47), (bif b5 then (fa) else u48), (bif b6 then (.slice (some ⟨g2, 0, none⟩) 1 1) else u49), (bif b7 then (.int .u32 (ca : Int)) else u50), (bif b8 then (bv) else u51), (bif b9 then (.int .i64 (n : Int)) else u52), (bif b10 then (fb) else u53), (bif b11 then (.slice (some ⟨g3, 0, none⟩) 1 1) else u54), (bif b12 then (.int .u32 (cb : Int)) else u55), (bif b13 then (.int .u32 (bits BinOp.xor IntKind.u32 (ca : Int) (cb : Int))) else u56), (bif b14 then (cv) else u57), (bif b15 then (.int .i64 (n : Int)) else u58), (bif b16 then (fc) else u59), (bif b17 then (.slice (some ⟨g4, 0, none⟩) 1 1) else u60), (bif b18 then (.int .u32 (cc : Int)) else u61), (bif b19 then (.int .u32 (bits BinOp.xor IntKind.u32 (bits BinOp.xor IntKind.u32 (ca : Int) (cb : Int)) (cc : Int))) else u62), (bif b20 then (.bool ((cx : Int) == bits BinOp.xor IntKind.u32 (bits BinOp.xor IntKind.u32 (ca : Int) (cb : Int)) (cc : Int))) else u63)], defers := [] } → Hid (Chg [] w w') → Hid (b1 = true → w'.heap[g1]? = some (.cells #[xv] 24 (0, 0))) → Hid (b6 = true → w'.heap[g2]? = some (.cells #[fa] 24 (0, 0))) → Hid (b11 = true → w'.heap[g3]? = some (.cells #[fb] 24 (0, 0))) → Hid (b17 = true → w'.heap[g4]? = some (.cells #[fc] 24 (0, 0))) → T) : T := by
  obtain ⟨b, g, u, e1, e2, HCW, M1, M2, M3, M4⟩ := h
  exact k (b 0) (b 1) (b 2) (b 3) (b 4) (b 5) (b 6) (b 7) (b 8) (b 9) (b 10) (b 11) (b 12) (b 13) (b 14) (b 15) (b 16) (b 17) (b 18) (b 19) (b 20) (b 21) (g 1) (g 2) (g 3) (g 4) (u 3) (u 4) (u 5) (u 6) (u 9) (u 10) (u 11) (u 12) (u 13) (u 14) (u 15) (u 16) (u 17) (u 18) (u 19) (u 20) (u 21) (u 22) (u 23) (u 24) (u 25) (u 26) (u 27) (u 28) (u 29) (u 30) (u 31) (u 32) (u 33) (u 34) (u 35) (u 36) (u 37) (u 38) (u 39) (u 40) (u 41) (u 42) (u 43) (u 44) (u 45) (u 46) (u 47) (u 48) (u 49) (u 50) (u 51) (u 52) (u 53) (u 54) (u 55) (u 56) (u 57) (u 58) (u 59) (u 60) (u 61) (u 62) (u 63) e1 e2 HCW M1 M2 M3 M4

theorem JI.intro {n cx ca cb cc : Nat} {av bv cv xv fa fb fc : Value} {w : World} {listed : Array Bool} {a' : Act} {w' : World} (b0 b1 b2 b3 b4 b5 b6 b7 b8 b9 b10 b11 b12 b13 b14 b15 b16 b17 b18 b19 b20 b21 : Bool) (g1 g2 g3 g4 : Nat) (u3 u4 u5 u6 u9 u10 u11 u12 u13 u14 u15 u16 u17 u18 u19 u20 u21 u22 u23 u24 u25 u26 u27 u28 u29 u30 u31 u32 u33 u34 u35 u36 u37 u38 u39 u40 u41 u42 u43 u44 u45 u46 u47 u48 u49 u50 u51 u52 u53 u54 u55 u56 u57 u58 u59 u60 u61 u62 u63 : Value) (e1 : listed = #[b0, b1, b2, b3, b4, b5, b6, b7, b8, b9, b10, b11, b12, b13, b14, b15, b16, b17, b18, b19, b20, b21]) (e2 : a' = { tmps := #[av, bv, cv, u3, u4, u5, (bif b21 then (.bool ((cx : Int) == bits BinOp.xor IntKind.u32 (bits BinOp.xor IntKind.u32 (ca : Int) (cb : Int)) (cc : Int))) else u6), .int .i64 (n : Int), xv, u9, u10, u11, u12, u13, u14, u15, u16, u17, u18, u19, u20, u21, u22, u23, u24, u25, u26, u27, u28, u29, u30, u31, u32, u33, u34, u35, u36, u37, u38, u39, u40, u41, u42, (bif b0 then (xv) else u43), (bif b1 then (.slice (some ⟨g1, 0, none⟩) 1 1) else u44), (bif b2 then (.int .u32 (cx : Int)) else u45), (bif b3 then (av) else u46), (bif b4 then (.int .i64 (n : Int)) else u47), (bif b5 then (fa) else u48), (bif b6 then (.slice (some ⟨g2, 0, none⟩) 1 1) else u49), (bif b7 then (.int .u32 (ca : Int)) else u50), (bif b8 then (bv) else u51), (bif b9 then (.int .i64 (n : Int)) else u52), (bif b10 then (fb) else u53), (bif b11 then (.slice (some ⟨g3, 0, none⟩) 1 1) else u54), (bif b12 then (.int .u32 (cb : Int)) else u55), (bif b13 then (.int .u32 (bits BinOp.xor IntKind.u32 (ca : Int) (cb : Int))) else u56), (bif b14 then (cv) else u57), (bif b15 then (.int .i64 (n : Int)) else u58), (bif b16 then (fc) else u59), (bif b17 then (.slice (some ⟨g4, 0, none⟩) 1 1) else u60), (bif b18 then (.int .u32 (cc : Int)) else u61), (bif b19 then (.int .u32 (bits BinOp.xor IntKind.u32 (bits BinOp.xor IntKind.u32 (ca : Int) (cb : Int)) (cc : Int))) else u62), (bif b20 then (.bool ((cx : Int) == bits BinOp.xor IntKind.u32 (bits BinOp.xor IntKind.u32 (ca : Int) (cb : Int)) (cc : Int))) else u63)], defers := [] }) (HCW : Hid (Chg [] w w')) (M1 : Hid (b1 = true → w'.heap[g1]? = some (.cells #[xv] 24 (0, 0)))) (M2 : Hid (b6 = true → w'.heap[g2]? = some (.cells #[fa] 24 (0, 0)))) (M3 : Hid (b11 = true → w'.heap[g3]? = some (.cells #[fb] 24 (0, 0)))) (M4 : Hid (b17 = true → w'.heap[g4]? = some (.cells #[fc] 24 (0, 0)))) : JI n cx ca cb cc av bv cv xv fa fb fc w listed a' w' :=
  ⟨fun k => [b0, b1, b2, b3, b4, b5, b6, b7, b8, b9, b10, b11, b12, b13, b14, b15, b16, b17, b18, b19, b20, b21].getD k false, fun k => [0, g1, g2, g3, g4].getD k 0, fun k => [undef, undef, undef, u3, u4, u5, u6, undef, undef, u9, u10, u11, u12, u13, u14, u15, u16, u17, u18, u19, u20, u21, u22, u23, u24, u25, u26, u27, u28, u29, u30, u31, u32, u33, u34, u35, u36, u37, u38, u39, u40, u41, u42, u43, u44, u45, u46, u47, u48, u49, u50, u51, u52, u53, u54, u55, u56, u57, u58, u59, u60, u61, u62, u63].getD k undef, e1, e2, HCW, M1, M2, M3, M4⟩

theorem tri_at (A B C : List Nat) (n j : Nat) (hA : ∀ x ∈ A, x < 2 ^ 8) (hB : ∀ x ∈ B, x < 2 ^ 8) (hC : ∀ x ∈ C, x < 2 ^ 8) :
    bits BinOp.xor IntKind.u8 (bits BinOp.xor IntKind.u8 ((A.getD j 0 : Nat) : Int) ((B.getD j 0 : Nat) : Int)) ((C.getD j 0 : Nat) : Int) = ((A.getD j 0 ^^^ B.getD j 0 ^^^ C.getD j 0 : Nat) : Int) := by
  have a := getD_lt hA (by decide) j
  have b := getD_lt hB (by decide) j
  have c := getD_lt hC (by decide) j
  rw [u8_xor_nat _ _ a b, u8_xor_nat _ _ (xor_lt 8 a b) c]

set_option maxRecDepth 100000 in
set_option maxHeartbeats 40000000 in
theorem walk_CrcJoins (a0 : Option Addr) (len0 cap0 : Nat) (z0 : List Int) (a1 : Option Addr) (len1 cap1 : Nat) (z1 : List Int) (a2 : Option Addr) (len2 cap2 : Nat) (z2 : List Int) (w : World) (hT : Laid w) (w0 : IsRow .u8 w a0 len0 cap0 z0) (w1 : IsRow .u8 w a1 len1 cap1 z1) (w2 : IsRow .u8 w a2 len2 cap2 z2) :
    Calls Tryd.prog 6 #[.slice a0 len0 cap0, .slice a1 len1 cap1, .slice a2 len2 cap2] w fun e w' => e = .returned (.bool true) ∧ Below w.heap.size w w' := by
  obtain ⟨A, hA, rfl, hAl⟩ := w0.u8s
  obtain ⟨B, hB, rfl, hBl⟩ := w1.u8s
  obtain ⟨C, hC, rfl, hCl⟩ := w2.u8s
  have hcA := hA.room.1; have hcB := hB.room.1; have hcC := hC.room.1
  have HA := Lib.hid hA; have HB := Lib.hid hB; have HCC := Lib.hid hC
  have HAl := Lib.hid hAl; have HBl := Lib.hid hBl; have HCl := Lib.hid hCl
  have HT := Lib.hid hT
  obtain ⟨n, hn⟩ : ∃ n, n = min (min (min A.length B.length) C.length) 200 := ⟨_, rfl⟩
  have hnA : n ≤ A.length := by omega
  have hnB : n ≤ B.length := by omega
  have hnC : n ≤ C.length := by omega
  have hn2 : n ≤ 200 := by omega
  have hmin : ∀ wx : World, (Builtin.min_ #[3, 3, 3, 3] 3 #[.int .i64 (A.length : Int), .int .i64 (B.length : Int), .int .i64 (C.length : Int), .int .i64 200]).run Tryd.prog wx = .ok (.int .i64 (n : Int)) wx := by
    intro wx
    rw [run_min_int4]
    congr 2
    split <;> split <;> split <;> omega
  clear hn w0 w1 w2 hA hB hC hAl hBl hCl hT
  obtain ⟨i0, hi, hz0, hz1, hz2⟩ := info_u8
  go_enter Tryd.func6, Tryd.ntmps6
  go_wp2_with fail
  (with_reducible refine (known_any _ HT.out).mono ?_)
  rintro x w1 ⟨rfl, hk⟩
  have HC := Lib.hid hk; clear hk
  go_wp2_with (at_make; refine wpList_make_full _ rfl _ _ 24 rfl w1.heap.size 5 i0 (.int .u8 0) 1 Tryd.underlying24 hi hz0 hz1 .i64 .i64 _ _ n rfl rfl rfl rfl ?c1 ?c2 (Nat.le_refl _) ?_)
  case c1 => rw [hz2]; omega
  case c2 => unfold maxLen; omega
  intro w2 hown1 hg1
  rw [cells_zero8, ← tri_zero A B C n] at hown1
  have HC2 := Lib.hid (HC.out.grown hg1 (by simp))
  have HO1 := Lib.hid hown1
  have hs1 := HC.out.size
  clear hown1 hg1 hmin
  obtain ⟨g, hg⟩ : ∃ g, g = w1.heap.size := ⟨_, rfl⟩
  go_wp2
  go_loopw [9] (fun i wr => ∃ j : Nat, j ≤ n ∧ i = .int .i64 (j : Int) ∧ Hid (Chg [] w wr) ∧ Hid (wr.ownsRow w1.heap.size 5 1 (.slice (some ⟨w1.heap.size, 0, none⟩) n n) n (nv .u8 (tri A B C n j)))) (fun i _ => n - (intOf i).toNat)
  case atStart => exact ⟨0, Nat.zero_le _, rfl, HC2, HO1⟩
  case round =>
    obtain ⟨j, hj, rfl, HCR, HOR⟩ := hrel
    by_cases hlt : j < n
    · have hlt2 : decide (j < n) = true := by simpa using hlt
      obtain ⟨gA, oA, rfl, cA⟩ := HA.out.at0 rfl (by omega)
      obtain ⟨gB, oB, rfl, cB⟩ := HB.out.at0 rfl (by omega)
      obtain ⟨gC, oC, rfl, cC⟩ := HCC.out.at0 rfl (by omega)
      have dA := HCR.out.cell (cA j (by omega)) (by simp)
      have dB := HCR.out.cell (cB j (by omega)) (by simp)
      have dC := HCR.out.cell (cC j (by omega)) (by simp)
      have hjA : j < A.length := by omega
      have hjB : j < B.length := by omega
      have hjC : j < C.length := by omega
      have hc := own_cell HOR.out (by simp) j hlt
      have hf := HOR.out.frozenAt j
      have hX := tri_at A B C n j HAl.out HBl.out HCl.out
      have hst := (HOR.out.stored j (.int .u8 ((A.getD j 0 ^^^ B.getD j 0 ^^^ C.getD j 0 : Nat) : Int))).1
      rw [nv_set, tri_step] at hst
      obtain ⟨x, hx⟩ : ∃ x, x = A.getD j 0 := ⟨_, rfl⟩
      obtain ⟨y, hy⟩ : ∃ x, x = B.getD j 0 := ⟨_, rfl⟩
      obtain ⟨z, hz⟩ : ∃ x, x = C.getD j 0 := ⟨_, rfl⟩
      obtain ⟨t, ht⟩ : ∃ x, x = (tri A B C n j).getD j 0 := ⟨_, rfl⟩
      rw [← hx] at dA hX hst
      rw [← hy] at dB hX hst
      rw [← hz] at dC hX hst
      rw [← ht] at hc
      have HX := Lib.hid hX
      have HST := Lib.hid hst
      have HCS := Lib.hid (HCR.out.setCell (p := ⟨w1.heap.size, j, none⟩) (.inr (by simp; omega)) (.int .u8 ((x ^^^ y ^^^ z : Nat) : Int)))
      clear cA cB cC hst hX hx hy hz ht
      go_wp2_with fail
      go_region
      rw [HX.out]
      go_wp2
      go_roundw
      case rel => exact ⟨j + 1, by omega, by go_num, Lib.hid HCS.out.drew, Lib.hid (own_drew HST.out)⟩
      case measure => simp [intOf]; omega
    · have hlt2 : decide (j < n) = false := by simpa using hlt
      have HTC := Lib.hid (tri_crc A B C n hnA hnB hnC)
      have HTX := Lib.hid (Row.mk (show Seen wr (.slice (some ⟨w1.heap.size, 0, none⟩) n n) (nv .u8 (tri A B C n n)) by
        have h := (reads_of_own HOR.out).seen
        rwa [show j = n by omega] at h) (tri_bytes A B C n n HAl.out HBl.out HCl.out))
      obtain ⟨afA, cfA, hsA, hrA⟩ := run_front HA.out hcA n hnA
      obtain ⟨afB, cfB, hsB, hrB⟩ := run_front HB.out hcB n hnB
      obtain ⟨afC, cfC, hsC, hrC⟩ := run_front HCC.out hcC n hnC
      have RA := Lib.hid (Row.mk hsA (fun x hx => HAl.out x (List.mem_of_mem_take hx)))
      have RB := Lib.hid (Row.mk hsB (fun x hx => HBl.out x (List.mem_of_mem_take hx)))
      have RC := Lib.hid (Row.mk hsC (fun x hx => HCl.out x (List.mem_of_mem_take hx)))
      have lX := crc_lt HTX.out.byte
      have lA := crc_lt RA.out.byte
      have lB := crc_lt RB.out.byte
      have lC := crc_lt RC.out.byte
      obtain ⟨cx, hx⟩ : ∃ x, x = crc (tri A B C n n) := ⟨_, rfl⟩
      obtain ⟨ca, ha⟩ : ∃ x, x = crc (A.take n) := ⟨_, rfl⟩
      obtain ⟨cb, hb⟩ : ∃ x, x = crc (B.take n) := ⟨_, rfl⟩
      obtain ⟨cc, hcc⟩ : ∃ x, x = crc (C.take n) := ⟨_, rfl⟩
      rw [← hx, ← ha, ← hb, ← hcc] at HTC
      rw [← hx] at lX
      rw [← ha] at lA
      rw [← hb] at lB
      rw [← hcc] at lC
      have I1 := Lib.hid hx; have I2 := Lib.hid ha; have I3 := Lib.hid hb; have I4 := Lib.hid hcc
      have HF := Lib.hid (show ((cx : Int) == bits BinOp.xor IntKind.u32 (bits BinOp.xor IntKind.u32 (ca : Int) (cb : Int)) (cc : Int)) = true by
        rw [u32_xor_nat _ _ lA lB, u32_xor_nat _ _ (xor_lt 32 lA lB) lC, ← HTC.out]; simp)
      clear hsA hsB hsC hx ha hb hcc lX lA lB lC HO1 HC2 HC HA HB HCC HTC HOR hlt hj hs1 hi hz0 hz1 hz2 hcA hcB hcC hnA hnB hnC HAl HBl HCl
      go_wp2_with fail
      refine wp_region_any (by kernel_rfl) ?_
      change wpAny _ _ _ _ _ _ _ (World.drew _)
      refine wpAny_inv (JI n cx ca cb cc (.slice a0 A.length cap0) (.slice a1 B.length cap1) (.slice a2 C.length cap2) (.slice (some ⟨w1.heap.size, 0, none⟩) n n) (.slice afA n cfA) (.slice afB n cfB) (.slice afC n cfC) wr) ?hs ?hq _ _ _ _ ?h0 ?hcnt
      case hcnt => exact count_rep _
      case h0 => exact JI.intro false false false false false false false false false false false false false false false false false false false false false false 0 0 0 0 _ _ _ _ _ _ _ _ _ _ _ _ _ _ _ _ _ _ _ _ _ _ _ _ _ _ _ _ _ _ _ _ _ _ _ _ _ _ _ _ _ _ _ _ _ _ _ _ _ _ _ _ _ _ _ _ _ _ _ rfl rfl (Lib.hid ((Chg.refl [] _).drew)) (Lib.hid (by simp)) (Lib.hid (by simp)) (Lib.hid (by simp)) (Lib.hid (by simp))
      case hq =>
        intro listed a' w' hI hr
        refine JI.elim hI _ ?_
        clear hI
        intro b0 b1 b2 b3 b4 b5 b6 b7 b8 b9 b10 b11 b12 b13 b14 b15 b16 b17 b18 b19 b20 b21 g1 g2 g3 g4 u3 u4 u5 u6 u9 u10 u11 u12 u13 u14 u15 u16 u17 u18 u19 u20 u21 u22 u23 u24 u25 u26 u27 u28 u29 u30 u31 u32 u33 u34 u35 u36 u37 u38 u39 u40 u41 u42 u43 u44 u45 u46 u47 u48 u49 u50 u51 u52 u53 u54 u55 u56 u57 u58 u59 u60 u61 u62 u63 e1 e2 HCW M1 M2 M3 M4
        subst e1 e2
        have h0 := ready_not (i := 0) rfl hr
        simp [Region.binds] at h0
        subst h0
        have h1 := ready_not (i := 1) rfl hr
        simp [Region.binds] at h1
        subst h1
        have h2 := ready_not (i := 2) rfl hr
        simp [Region.binds] at h2
        subst h2
        have h3 := ready_not (i := 3) rfl hr
        simp [Region.binds] at h3
        subst h3
        have h4 := ready_not (i := 4) rfl hr
        simp [Region.binds] at h4
        subst h4
        have h5 := ready_not (i := 5) rfl hr
        simp [Region.binds] at h5
        subst h5
        have h6 := ready_not (i := 6) rfl hr
        simp [Region.binds] at h6
        subst h6
        have h7 := ready_not (i := 7) rfl hr
        simp [Region.binds] at h7
        subst h7
        have h8 := ready_not (i := 8) rfl hr
        simp [Region.binds] at h8
        subst h8
        have h9 := ready_not (i := 9) rfl hr
        simp [Region.binds] at h9
        subst h9
        have h10 := ready_not (i := 10) rfl hr
        simp [Region.binds] at h10
        subst h10
        have h11 := ready_not (i := 11) rfl hr
        simp [Region.binds] at h11
        subst h11
        have h12 := ready_not (i := 12) rfl hr
        simp [Region.binds] at h12
        subst h12
        have h13 := ready_not (i := 13) rfl hr
        simp [Region.binds] at h13
        subst h13
        have h14 := ready_not (i := 14) rfl hr
        simp [Region.binds] at h14
        subst h14
        have h15 := ready_not (i := 15) rfl hr
        simp [Region.binds] at h15
        subst h15
        have h16 := ready_not (i := 16) rfl hr
        simp [Region.binds] at h16
        subst h16
        have h17 := ready_not (i := 17) rfl hr
        simp [Region.binds] at h17
        subst h17
        have h18 := ready_not (i := 18) rfl hr
        simp [Region.binds] at h18
        subst h18
        have h19 := ready_not (i := 19) rfl hr
        simp [Region.binds] at h19
        subst h19
        have h20 := ready_not (i := 20) rfl hr
        simp [Region.binds] at h20
        subst h20
        have h21 := ready_not (i := 21) rfl hr
        simp [Region.binds] at h21
        subst h21
        clear hr
        dsimp only [cond_true]
        go_wp2
        go_ret
        exact ⟨congrArg (fun b => Ending.returned (Value.bool b)) HF.out, (HCR.out.trans HCW.out (by simp)).below (Nat.le_refl _) (by simp)⟩
      case hs =>
        intro listed a' w' hI
        intro i hi hr
        refine JI.elim hI _ ?_
        clear hI
        intro b0 b1 b2 b3 b4 b5 b6 b7 b8 b9 b10 b11 b12 b13 b14 b15 b16 b17 b18 b19 b20 b21 g1 g2 g3 g4 u3 u4 u5 u6 u9 u10 u11 u12 u13 u14 u15 u16 u17 u18 u19 u20 u21 u22 u23 u24 u25 u26 u27 u28 u29 u30 u31 u32 u33 u34 u35 u36 u37 u38 u39 u40 u41 u42 u43 u44 u45 u46 u47 u48 u49 u50 u51 u52 u53 u54 u55 u56 u57 u58 u59 u60 u61 u62 u63 e1 e2 HCW M1 M2 M3 M4
        subst e1 e2
        have HCC2 := Lib.hid (HCR.out.trans HCW.out (by simp))
        have hcs := lt22 i hi
        clear hi
        rcases hcs with rfl | rfl | rfl | rfl | rfl | rfl | rfl | rfl | rfl | rfl | rfl | rfl | rfl | rfl | rfl | rfl | rfl | rfl | rfl | rfl | rfl | rfl
        · have hrd := ready_at rfl hr
          clear hr
          simp [Region.binds] at hrd
          subst hrd
          refine wpOp_step rfl (fun K hK => ?_)
          go_simp
          refine hK _ _ ?_
          exact JI.intro true b1 b2 b3 b4 b5 b6 b7 b8 b9 b10 b11 b12 b13 b14 b15 b16 b17 b18 b19 b20 b21 g1 g2 g3 g4 u3 u4 u5 u6 u9 u10 u11 u12 u13 u14 u15 u16 u17 u18 u19 u20 u21 u22 u23 u24 u25 u26 u27 u28 u29 u30 u31 u32 u33 u34 u35 u36 u37 u38 u39 u40 u41 u42 u43 u44 u45 u46 u47 u48 u49 u50 u51 u52 u53 u54 u55 u56 u57 u58 u59 u60 u61 u62 u63 rfl rfl HCW M1 M2 M3 M4
        · have hrd := ready_at rfl hr
          clear hr
          simp [Region.binds] at hrd
          obtain ⟨rfl, rfl⟩ := hrd
          refine wpOp_step rfl (fun K hK => ?_)
          go_simp
          refine hK _ _ ?_
          exact JI.intro true true b2 b3 b4 b5 b6 b7 b8 b9 b10 b11 b12 b13 b14 b15 b16 b17 b18 b19 b20 b21 w'.heap.size g2 g3 g4 u3 u4 u5 u6 u9 u10 u11 u12 u13 u14 u15 u16 u17 u18 u19 u20 u21 u22 u23 u24 u25 u26 u27 u28 u29 u30 u31 u32 u33 u34 u35 u36 u37 u38 u39 u40 u41 u42 u43 u44 u45 u46 u47 u48 u49 u50 u51 u52 u53 u54 u55 u56 u57 u58 u59 u60 u61 u62 u63 rfl rfl (Lib.hid (HCW.out.alloc _)) (Lib.hid fun _ => hl_new rfl) (Lib.hid fun h => hl_old (M2.out h)) (Lib.hid fun h => hl_old (M3.out h)) (Lib.hid fun h => hl_old (M4.out h))
        · have hrd := ready_at rfl hr
          clear hr
          simp [Region.binds] at hrd
          obtain ⟨rfl, rfl⟩ := hrd
          refine wpOp_step rfl (fun K hK => ?_)
          go_simp
          go_at_call 11
          with_reducible apply sum_row_k
          case hb => exact M1.out rfl
          case hS => exact HTX.out.keep HCW.out
          case hT => exact HT.out.keep HCC2.out
          refine fun w2 hk => ?_
          rw [← I1.out]
          refine hK _ _ ?_
          exact JI.intro b0 true true b3 b4 b5 b6 b7 b8 b9 b10 b11 b12 b13 b14 b15 b16 b17 b18 b19 b20 b21 g1 g2 g3 g4 u3 u4 u5 u6 u9 u10 u11 u12 u13 u14 u15 u16 u17 u18 u19 u20 u21 u22 u23 u24 u25 u26 u27 u28 u29 u30 u31 u32 u33 u34 u35 u36 u37 u38 u39 u40 u41 u42 u43 u44 u45 u46 u47 u48 u49 u50 u51 u52 u53 u54 u55 u56 u57 u58 u59 u60 u61 u62 u63 rfl rfl (Lib.hid (HCW.out.trans hk (by simp))) (Lib.hid fun h => hl_chg hk (M1.out h)) (Lib.hid fun h => hl_chg hk (M2.out h)) (Lib.hid fun h => hl_chg hk (M3.out h)) (Lib.hid fun h => hl_chg hk (M4.out h))
        · have hrd := ready_at rfl hr
          clear hr
          simp [Region.binds] at hrd
          subst hrd
          refine wpOp_step rfl (fun K hK => ?_)
          go_simp
          refine hK _ _ ?_
          exact JI.intro b0 b1 b2 true b4 b5 b6 b7 b8 b9 b10 b11 b12 b13 b14 b15 b16 b17 b18 b19 b20 b21 g1 g2 g3 g4 u3 u4 u5 u6 u9 u10 u11 u12 u13 u14 u15 u16 u17 u18 u19 u20 u21 u22 u23 u24 u25 u26 u27 u28 u29 u30 u31 u32 u33 u34 u35 u36 u37 u38 u39 u40 u41 u42 u43 u44 u45 u46 u47 u48 u49 u50 u51 u52 u53 u54 u55 u56 u57 u58 u59 u60 u61 u62 u63 rfl rfl HCW M1 M2 M3 M4
        · have hrd := ready_at rfl hr
          clear hr
          simp [Region.binds] at hrd
          subst hrd
          refine wpOp_step rfl (fun K hK => ?_)
          go_simp
          refine hK _ _ ?_
          exact JI.intro b0 b1 b2 b3 true b5 b6 b7 b8 b9 b10 b11 b12 b13 b14 b15 b16 b17 b18 b19 b20 b21 g1 g2 g3 g4 u3 u4 u5 u6 u9 u10 u11 u12 u13 u14 u15 u16 u17 u18 u19 u20 u21 u22 u23 u24 u25 u26 u27 u28 u29 u30 u31 u32 u33 u34 u35 u36 u37 u38 u39 u40 u41 u42 u43 u44 u45 u46 u47 u48 u49 u50 u51 u52 u53 u54 u55 u56 u57 u58 u59 u60 u61 u62 u63 rfl rfl HCW M1 M2 M3 M4
        · have hrd := ready_at rfl hr
          clear hr
          simp [Region.binds] at hrd
          obtain ⟨rfl, rfl, rfl⟩ := hrd
          refine wpOp_step rfl (fun K hK => ?_)
          go_simp
          refine hK _ _ ?_
          exact JI.intro b0 b1 b2 true true true b6 b7 b8 b9 b10 b11 b12 b13 b14 b15 b16 b17 b18 b19 b20 b21 g1 g2 g3 g4 u3 u4 u5 u6 u9 u10 u11 u12 u13 u14 u15 u16 u17 u18 u19 u20 u21 u22 u23 u24 u25 u26 u27 u28 u29 u30 u31 u32 u33 u34 u35 u36 u37 u38 u39 u40 u41 u42 u43 u44 u45 u46 u47 u48 u49 u50 u51 u52 u53 u54 u55 u56 u57 u58 u59 u60 u61 u62 u63 rfl rfl HCW M1 M2 M3 M4
        · have hrd := ready_at rfl hr
          clear hr
          simp [Region.binds] at hrd
          obtain ⟨rfl, rfl⟩ := hrd
          refine wpOp_step rfl (fun K hK => ?_)
          go_simp
          refine hK _ _ ?_
          exact JI.intro b0 b1 b2 b3 b4 true true b7 b8 b9 b10 b11 b12 b13 b14 b15 b16 b17 b18 b19 b20 b21 g1 w'.heap.size g3 g4 u3 u4 u5 u6 u9 u10 u11 u12 u13 u14 u15 u16 u17 u18 u19 u20 u21 u22 u23 u24 u25 u26 u27 u28 u29 u30 u31 u32 u33 u34 u35 u36 u37 u38 u39 u40 u41 u42 u43 u44 u45 u46 u47 u48 u49 u50 u51 u52 u53 u54 u55 u56 u57 u58 u59 u60 u61 u62 u63 rfl rfl (Lib.hid (HCW.out.alloc _)) (Lib.hid fun h => hl_old (M1.out h)) (Lib.hid fun _ => hl_new rfl) (Lib.hid fun h => hl_old (M3.out h)) (Lib.hid fun h => hl_old (M4.out h))
        · have hrd := ready_at rfl hr
          clear hr
          simp [Region.binds] at hrd
          obtain ⟨rfl, rfl, rfl⟩ := hrd
          refine wpOp_step rfl (fun K hK => ?_)
          go_simp
          go_at_call 11
          with_reducible apply sum_row_k
          case hb => exact M2.out rfl
          case hS => exact RA.out.keep HCC2.out
          case hT => exact HT.out.keep HCC2.out
          refine fun w2 hk => ?_
          rw [← I2.out]
          refine hK _ _ ?_
          exact JI.intro b0 b1 true b3 b4 b5 true true b8 b9 b10 b11 b12 b13 b14 b15 b16 b17 b18 b19 b20 b21 g1 g2 g3 g4 u3 u4 u5 u6 u9 u10 u11 u12 u13 u14 u15 u16 u17 u18 u19 u20 u21 u22 u23 u24 u25 u26 u27 u28 u29 u30 u31 u32 u33 u34 u35 u36 u37 u38 u39 u40 u41 u42 u43 u44 u45 u46 u47 u48 u49 u50 u51 u52 u53 u54 u55 u56 u57 u58 u59 u60 u61 u62 u63 rfl rfl (Lib.hid (HCW.out.trans hk (by simp))) (Lib.hid fun h => hl_chg hk (M1.out h)) (Lib.hid fun h => hl_chg hk (M2.out h)) (Lib.hid fun h => hl_chg hk (M3.out h)) (Lib.hid fun h => hl_chg hk (M4.out h))
        · have hrd := ready_at rfl hr
          clear hr
          simp [Region.binds] at hrd
          subst hrd
          refine wpOp_step rfl (fun K hK => ?_)
          go_simp
          refine hK _ _ ?_
          exact JI.intro b0 b1 b2 b3 b4 b5 b6 b7 true b9 b10 b11 b12 b13 b14 b15 b16 b17 b18 b19 b20 b21 g1 g2 g3 g4 u3 u4 u5 u6 u9 u10 u11 u12 u13 u14 u15 u16 u17 u18 u19 u20 u21 u22 u23 u24 u25 u26 u27 u28 u29 u30 u31 u32 u33 u34 u35 u36 u37 u38 u39 u40 u41 u42 u43 u44 u45 u46 u47 u48 u49 u50 u51 u52 u53 u54 u55 u56 u57 u58 u59 u60 u61 u62 u63 rfl rfl HCW M1 M2 M3 M4
        · have hrd := ready_at rfl hr
          clear hr
          simp [Region.binds] at hrd
          subst hrd
          refine wpOp_step rfl (fun K hK => ?_)
          go_simp
          refine hK _ _ ?_
          exact JI.intro b0 b1 b2 b3 b4 b5 b6 b7 b8 true b10 b11 b12 b13 b14 b15 b16 b17 b18 b19 b20 b21 g1 g2 g3 g4 u3 u4 u5 u6 u9 u10 u11 u12 u13 u14 u15 u16 u17 u18 u19 u20 u21 u22 u23 u24 u25 u26 u27 u28 u29 u30 u31 u32 u33 u34 u35 u36 u37 u38 u39 u40 u41 u42 u43 u44 u45 u46 u47 u48 u49 u50 u51 u52 u53 u54 u55 u56 u57 u58 u59 u60 u61 u62 u63 rfl rfl HCW M1 M2 M3 M4
        · have hrd := ready_at rfl hr
          clear hr
          simp [Region.binds] at hrd
          obtain ⟨rfl, rfl, rfl⟩ := hrd
          refine wpOp_step rfl (fun K hK => ?_)
          go_simp
          refine hK _ _ ?_
          exact JI.intro b0 b1 b2 b3 b4 b5 b6 b7 true true true b11 b12 b13 b14 b15 b16 b17 b18 b19 b20 b21 g1 g2 g3 g4 u3 u4 u5 u6 u9 u10 u11 u12 u13 u14 u15 u16 u17 u18 u19 u20 u21 u22 u23 u24 u25 u26 u27 u28 u29 u30 u31 u32 u33 u34 u35 u36 u37 u38 u39 u40 u41 u42 u43 u44 u45 u46 u47 u48 u49 u50 u51 u52 u53 u54 u55 u56 u57 u58 u59 u60 u61 u62 u63 rfl rfl HCW M1 M2 M3 M4
        · have hrd := ready_at rfl hr
          clear hr
          simp [Region.binds] at hrd
          obtain ⟨rfl, rfl⟩ := hrd
          refine wpOp_step rfl (fun K hK => ?_)
          go_simp
          refine hK _ _ ?_
          exact JI.intro b0 b1 b2 b3 b4 b5 b6 b7 b8 b9 true true b12 b13 b14 b15 b16 b17 b18 b19 b20 b21 g1 g2 w'.heap.size g4 u3 u4 u5 u6 u9 u10 u11 u12 u13 u14 u15 u16 u17 u18 u19 u20 u21 u22 u23 u24 u25 u26 u27 u28 u29 u30 u31 u32 u33 u34 u35 u36 u37 u38 u39 u40 u41 u42 u43 u44 u45 u46 u47 u48 u49 u50 u51 u52 u53 u54 u55 u56 u57 u58 u59 u60 u61 u62 u63 rfl rfl (Lib.hid (HCW.out.alloc _)) (Lib.hid fun h => hl_old (M1.out h)) (Lib.hid fun h => hl_old (M2.out h)) (Lib.hid fun _ => hl_new rfl) (Lib.hid fun h => hl_old (M4.out h))
        · have hrd := ready_at rfl hr
          clear hr
          simp [Region.binds] at hrd
          obtain ⟨rfl, rfl, rfl⟩ := hrd
          refine wpOp_step rfl (fun K hK => ?_)
          go_simp
          go_at_call 11
          with_reducible apply sum_row_k
          case hb => exact M3.out rfl
          case hS => exact RB.out.keep HCC2.out
          case hT => exact HT.out.keep HCC2.out
          refine fun w2 hk => ?_
          rw [← I3.out]
          refine hK _ _ ?_
          exact JI.intro b0 b1 b2 b3 b4 b5 b6 true b8 b9 b10 true true b13 b14 b15 b16 b17 b18 b19 b20 b21 g1 g2 g3 g4 u3 u4 u5 u6 u9 u10 u11 u12 u13 u14 u15 u16 u17 u18 u19 u20 u21 u22 u23 u24 u25 u26 u27 u28 u29 u30 u31 u32 u33 u34 u35 u36 u37 u38 u39 u40 u41 u42 u43 u44 u45 u46 u47 u48 u49 u50 u51 u52 u53 u54 u55 u56 u57 u58 u59 u60 u61 u62 u63 rfl rfl (Lib.hid (HCW.out.trans hk (by simp))) (Lib.hid fun h => hl_chg hk (M1.out h)) (Lib.hid fun h => hl_chg hk (M2.out h)) (Lib.hid fun h => hl_chg hk (M3.out h)) (Lib.hid fun h => hl_chg hk (M4.out h))
        · have hrd := ready_at rfl hr
          clear hr
          simp [Region.binds] at hrd
          obtain ⟨rfl, rfl, rfl⟩ := hrd
          refine wpOp_step rfl (fun K hK => ?_)
          go_simp
          refine hK _ _ ?_
          exact JI.intro b0 b1 b2 b3 b4 b5 b6 true b8 b9 b10 b11 true true b14 b15 b16 b17 b18 b19 b20 b21 g1 g2 g3 g4 u3 u4 u5 u6 u9 u10 u11 u12 u13 u14 u15 u16 u17 u18 u19 u20 u21 u22 u23 u24 u25 u26 u27 u28 u29 u30 u31 u32 u33 u34 u35 u36 u37 u38 u39 u40 u41 u42 u43 u44 u45 u46 u47 u48 u49 u50 u51 u52 u53 u54 u55 u56 u57 u58 u59 u60 u61 u62 u63 rfl rfl HCW M1 M2 M3 M4
        · have hrd := ready_at rfl hr
          clear hr
          simp [Region.binds] at hrd
          subst hrd
          refine wpOp_step rfl (fun K hK => ?_)
          go_simp
          refine hK _ _ ?_
          exact JI.intro b0 b1 b2 b3 b4 b5 b6 b7 b8 b9 b10 b11 b12 b13 true b15 b16 b17 b18 b19 b20 b21 g1 g2 g3 g4 u3 u4 u5 u6 u9 u10 u11 u12 u13 u14 u15 u16 u17 u18 u19 u20 u21 u22 u23 u24 u25 u26 u27 u28 u29 u30 u31 u32 u33 u34 u35 u36 u37 u38 u39 u40 u41 u42 u43 u44 u45 u46 u47 u48 u49 u50 u51 u52 u53 u54 u55 u56 u57 u58 u59 u60 u61 u62 u63 rfl rfl HCW M1 M2 M3 M4
        · have hrd := ready_at rfl hr
          clear hr
          simp [Region.binds] at hrd
          subst hrd
          refine wpOp_step rfl (fun K hK => ?_)
          go_simp
          refine hK _ _ ?_
          exact JI.intro b0 b1 b2 b3 b4 b5 b6 b7 b8 b9 b10 b11 b12 b13 b14 true b16 b17 b18 b19 b20 b21 g1 g2 g3 g4 u3 u4 u5 u6 u9 u10 u11 u12 u13 u14 u15 u16 u17 u18 u19 u20 u21 u22 u23 u24 u25 u26 u27 u28 u29 u30 u31 u32 u33 u34 u35 u36 u37 u38 u39 u40 u41 u42 u43 u44 u45 u46 u47 u48 u49 u50 u51 u52 u53 u54 u55 u56 u57 u58 u59 u60 u61 u62 u63 rfl rfl HCW M1 M2 M3 M4
        · have hrd := ready_at rfl hr
          clear hr
          simp [Region.binds] at hrd
          obtain ⟨rfl, rfl, rfl⟩ := hrd
          refine wpOp_step rfl (fun K hK => ?_)
          go_simp
          refine hK _ _ ?_
          exact JI.intro b0 b1 b2 b3 b4 b5 b6 b7 b8 b9 b10 b11 b12 b13 true true true b17 b18 b19 b20 b21 g1 g2 g3 g4 u3 u4 u5 u6 u9 u10 u11 u12 u13 u14 u15 u16 u17 u18 u19 u20 u21 u22 u23 u24 u25 u26 u27 u28 u29 u30 u31 u32 u33 u34 u35 u36 u37 u38 u39 u40 u41 u42 u43 u44 u45 u46 u47 u48 u49 u50 u51 u52 u53 u54 u55 u56 u57 u58 u59 u60 u61 u62 u63 rfl rfl HCW M1 M2 M3 M4
        · have hrd := ready_at rfl hr
          clear hr
          simp [Region.binds] at hrd
          obtain ⟨rfl, rfl⟩ := hrd
          refine wpOp_step rfl (fun K hK => ?_)
          go_simp
          refine hK _ _ ?_
          exact JI.intro b0 b1 b2 b3 b4 b5 b6 b7 b8 b9 b10 b11 b12 b13 b14 b15 true true b18 b19 b20 b21 g1 g2 g3 w'.heap.size u3 u4 u5 u6 u9 u10 u11 u12 u13 u14 u15 u16 u17 u18 u19 u20 u21 u22 u23 u24 u25 u26 u27 u28 u29 u30 u31 u32 u33 u34 u35 u36 u37 u38 u39 u40 u41 u42 u43 u44 u45 u46 u47 u48 u49 u50 u51 u52 u53 u54 u55 u56 u57 u58 u59 u60 u61 u62 u63 rfl rfl (Lib.hid (HCW.out.alloc _)) (Lib.hid fun h => hl_old (M1.out h)) (Lib.hid fun h => hl_old (M2.out h)) (Lib.hid fun h => hl_old (M3.out h)) (Lib.hid fun _ => hl_new rfl)
        · have hrd := ready_at rfl hr
          clear hr
          simp [Region.binds] at hrd
          obtain ⟨rfl, rfl, rfl⟩ := hrd
          refine wpOp_step rfl (fun K hK => ?_)
          go_simp
          go_at_call 11
          with_reducible apply sum_row_k
          case hb => exact M4.out rfl
          case hS => exact RC.out.keep HCC2.out
          case hT => exact HT.out.keep HCC2.out
          refine fun w2 hk => ?_
          rw [← I4.out]
          refine hK _ _ ?_
          exact JI.intro b0 b1 b2 b3 b4 b5 b6 b7 b8 b9 b10 b11 true b13 b14 b15 b16 true true b19 b20 b21 g1 g2 g3 g4 u3 u4 u5 u6 u9 u10 u11 u12 u13 u14 u15 u16 u17 u18 u19 u20 u21 u22 u23 u24 u25 u26 u27 u28 u29 u30 u31 u32 u33 u34 u35 u36 u37 u38 u39 u40 u41 u42 u43 u44 u45 u46 u47 u48 u49 u50 u51 u52 u53 u54 u55 u56 u57 u58 u59 u60 u61 u62 u63 rfl rfl (Lib.hid (HCW.out.trans hk (by simp))) (Lib.hid fun h => hl_chg hk (M1.out h)) (Lib.hid fun h => hl_chg hk (M2.out h)) (Lib.hid fun h => hl_chg hk (M3.out h)) (Lib.hid fun h => hl_chg hk (M4.out h))
        · have hrd := ready_at rfl hr
          clear hr
          simp [Region.binds] at hrd
          obtain ⟨rfl, rfl, rfl⟩ := hrd
          refine wpOp_step rfl (fun K hK => ?_)
          go_simp
          refine hK _ _ ?_
          exact JI.intro b0 b1 b2 b3 b4 b5 b6 b7 b8 b9 b10 b11 b12 true b14 b15 b16 b17 true true b20 b21 g1 g2 g3 g4 u3 u4 u5 u6 u9 u10 u11 u12 u13 u14 u15 u16 u17 u18 u19 u20 u21 u22 u23 u24 u25 u26 u27 u28 u29 u30 u31 u32 u33 u34 u35 u36 u37 u38 u39 u40 u41 u42 u43 u44 u45 u46 u47 u48 u49 u50 u51 u52 u53 u54 u55 u56 u57 u58 u59 u60 u61 u62 u63 rfl rfl HCW M1 M2 M3 M4
        · have hrd := ready_at rfl hr
          clear hr
          simp [Region.binds] at hrd
          obtain ⟨rfl, rfl, rfl⟩ := hrd
          refine wpOp_step rfl (fun K hK => ?_)
          go_simp
          refine hK _ _ ?_
          exact JI.intro b0 b1 true b3 b4 b5 b6 b7 b8 b9 b10 b11 b12 b13 b14 b15 b16 b17 b18 true true b21 g1 g2 g3 g4 u3 u4 u5 u6 u9 u10 u11 u12 u13 u14 u15 u16 u17 u18 u19 u20 u21 u22 u23 u24 u25 u26 u27 u28 u29 u30 u31 u32 u33 u34 u35 u36 u37 u38 u39 u40 u41 u42 u43 u44 u45 u46 u47 u48 u49 u50 u51 u52 u53 u54 u55 u56 u57 u58 u59 u60 u61 u62 u63 rfl rfl HCW M1 M2 M3 M4
        · have hrd := ready_at rfl hr
          clear hr
          simp [Region.binds] at hrd
          obtain ⟨rfl, rfl, -⟩ := hrd
          refine wpOp_step rfl (fun K hK => ?_)
          go_simp
          refine hK _ _ ?_
          exact JI.intro b0 b1 b2 b3 b4 b5 b6 b7 b8 b9 b10 b11 b12 b13 b14 b15 b16 b17 b18 b19 true true g1 g2 g3 g4 u3 u4 u5 u6 u9 u10 u11 u12 u13 u14 u15 u16 u17 u18 u19 u20 u21 u22 u23 u24 u25 u26 u27 u28 u29 u30 u31 u32 u33 u34 u35 u36 u37 u38 u39 u40 u41 u42 u43 u44 u45 u46 u47 u48 u49 u50 u51 u52 u53 u54 u55 u56 u57 u58 u59 u60 u61 u62 u63 rfl rfl HCW M1 M2 M3 M4

end Go.Proofs.YthmdebnmjlminaaDoor
