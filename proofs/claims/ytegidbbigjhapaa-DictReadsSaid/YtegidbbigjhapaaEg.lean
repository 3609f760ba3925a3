/- dict: Encode, Decode for any bytes, any number, any words. -/
import Derived.Test.YtegidbbigjhapaaEf
import Derived.Test.YtegidbbigjhapaaKt
import Derived.Test.YtegidbbigjhapaaKm
import Derived.Test.YtegidbbigjhapaaA5
namespace Go.Proofs.Ytegidbbigjhapaa
open Go.RowKit
set_option linter.unusedVariables false
set_option linter.unusedSimpArgs false

/-- How many bits a word's number has. -/
def widD (m : Nat) : Nat := blen (m - 1)

theorem blen_zero : blen 0 = 0 := by
  obtain ⟨-, -, h⟩ := blen_spec 0 (by decide)
  have := Nat.two_pow_pos (blen 0 - 1)
  omega
theorem widD_lt {m x : Nat} (hm : m ≤ 256) (hx : x < m) : x < 2 ^ widD m := by
  obtain ⟨-, h, -⟩ := blen_spec (m - 1) (by omega)
  unfold widD
  omega
theorem widD_le {m : Nat} (hm : m ≤ 256) : widD m ≤ 8 := by
  obtain ⟨-, -, h⟩ := blen_spec (m - 1) (by omega)
  unfold widD
  rcases h with ⟨-, h⟩ | ⟨h1, h2⟩
  · omega
  · have h3 : 2 ^ (blen (m - 1) - 1) < 2 ^ 8 := by omega
    have := (Nat.pow_lt_pow_iff_right (by decide)).1 h3
    omega

set_option maxRecDepth 100000 in
set_option maxHeartbeats 1000000 in
theorem dwidth_any (m : Nat) (w : World) (hm : m ≤ 9223372036854775807) :
    Calls Try.prog 25 #[.int .i64 (m : Int)] w fun e w' => e = .returned (.int .i64 ((widD m : Nat) : Int)) ∧ w = w' := by
  by_cases h0 : m = 0
  · have E := Lib.hid (show widD m = 0 by rw [h0]; exact blen_zero)
    have hb : ((m : Int) == 0) = true := by simp [h0]
    rw [E.out]
    clear h0
    go_enter Try.func25, Try.ntmps25
    go_wp2
    go_ret
    exact ⟨rfl, rfl⟩
  · have hb : ((m : Int) == 0) = false := by simpa using h0
    have h1 : IntKind.i64.wrap ((m : Int) - 1) = ((m - 1 : Nat) : Int) := by
      rw [IntWalk.i64_in _ (by omega)]; omega
    have h2 : IntKind.u64.wrap ((m - 1 : Nat) : Int) = ((m - 1 : Nat) : Int) := by
      rw [un_wrap, un_nat _ (by omega)]
    have HB := Lib.hid (fun wx => bwidth_any (m - 1) wx (by omega))
    have E := Lib.hid (show widD m = blen (m - 1) from rfl)
    rw [← E.out] at HB
    clear h0
    go_enter Try.func25, Try.ntmps25
    go_wp2_with (first
      | (go_at_call 36; (with_reducible refine (HB.out _).mono ?_); rintro e w2 ⟨rfl, rfl⟩)
      | fail)
    go_ret
    exact ⟨rfl, rfl⟩

set_option maxRecDepth 100000 in
set_option maxHeartbeats 1000000 in
theorem dencode_any (av : Value) (A : List Nat) (m : Nat) (w : World) (hS : Seen w av (nv .i64 A)) (hm : m ≤ 256) (hA : ∀ x ∈ A, x < m) (hl : A.length ≤ 900000) :
    Calls Try.prog 17 #[av, .int .i64 (m : Int)] w fun e w' => ∃ x, e = .returned x ∧ Made 5 .u8 (encZ (widD m) A) w x w' := by
  have hw := widD_le hm
  have HE := Lib.hid (encodeZ_any av A (widD m) w hS (by omega) (fun x hx => widD_lt hm (hA x hx)) hl)
  have HW := Lib.hid (dwidth_any m w (by omega))
  obtain ⟨ao, cap, rfl, hc1, hc2⟩ := hS.shape
  rw [nv_length] at HE ⊢
  clear hS hA hw
  go_enter Try.func17, Try.ntmps17
  go_wp2_with (first
    | (go_at_call 25; (with_reducible refine HW.out.mono ?_); rintro e w2 ⟨rfl, rfl⟩)
    | (go_at_call 24; (with_reducible refine HE.out.mono ?_); rintro e w2 ⟨x, rfl, hm⟩; have HM := Lib.hid hm; clear hm)
    | fail)
  go_ret
  exact ⟨_, rfl, HM.out⟩

/-- What Decode answers: the values, the error. -/
def ddecW (b : List Nat) (n : Int) (W : List V) : List V × Int :=
  if 256 < W.length then ([], 4)
  else if (decA b n (widD W.length)).1 ≠ 0 then ([], (decA b n (widD W.length)).1)
  else if (decA b n (widD W.length)).2.all (· < W.length) = true then ((decA b n (widD W.length)).2.map fun x => W.getD x ⟨0, e0⟩, 0) else ([], 10)

/-- The values when j of them are laid. -/
def fillW (W : List V) (A : List Nat) (j : Nat) : List V := ((A.take j).map fun x => W.getD x ⟨0, e0⟩) ++ List.replicate (A.length - j) ⟨0, e0⟩
theorem fillW_len (W : List V) (A : List Nat) (j : Nat) (h : j ≤ A.length) : (fillW W A j).length = A.length := by unfold fillW; simp; omega
theorem fillW_all (W : List V) (A : List Nat) : fillW W A A.length = A.map fun x => W.getD x ⟨0, e0⟩ := by unfold fillW; simp
theorem fillW_set (W : List V) (A : List Nat) {j : Nat} (h : j < A.length) : (fillW W A j).set j (W.getD (A.getD j 0) ⟨0, e0⟩) = fillW W A (j + 1) := by
  unfold fillW
  have e : A.length - j = (A.length - (j + 1)) + 1 := by omega
  have hl : ((A.take j).map fun x => W.getD x (⟨0, e0⟩ : V)).length = j := by simp; omega
  have e2 : A.take (j + 1) = A.take j ++ [A.getD j 0] := by
    rw [List.take_add_one, List.getElem?_eq_getElem h]
    simp [List.getD_eq_getElem?_getD, h]
  rw [List.set_append, if_neg (by omega), hl, Nat.sub_self, e, List.replicate_succ, List.set_cons_zero, e2, List.map_append, List.append_assoc]
  rfl
theorem fillW_at (W : List V) (A : List Nat) {j : Nat} (h : j < A.length) : (fillW W A j)[j]? = some ⟨0, e0⟩ := by
  unfold fillW
  have hl : ((A.take j).map fun x => W.getD x (⟨0, e0⟩ : V)).length = j := by simp; omega
  rw [List.getElem?_append_right (by omega), hl, Nat.sub_self, List.getElem?_replicate, if_pos (by omega)]

theorem flat_set2 : ∀ (X : List V) (j : Nat) (v : V), ((X.flatMap V.cs).set (j * 2) (.int .i64 v.n)).set (j * 2 + 1) (.string v.s) = (X.set j v).flatMap V.cs
  | [], j, v => by simp
  | x :: X, 0, v => by simp [V.cs]
  | x :: X, j + 1, v => by
    have ih := flat_set2 X j v
    rw [List.flatMap_cons, List.set_cons_succ, List.flatMap_cons, ← ih]
    have e1 : (j + 1) * 2 = (j * 2) + 1 + 1 := by omega
    have e2 : (j + 1) * 2 + 1 = (j * 2 + 1) + 1 + 1 := by omega
    rw [e2, e1]
    simp [V.cs]

end Go.Proofs.Ytegidbbigjhapaa
