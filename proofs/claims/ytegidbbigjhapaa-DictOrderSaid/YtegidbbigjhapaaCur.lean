/- Contracts of package cursor's small functions: width, pop, push, add, step, Fail, has, Left, End; and of the statements' own helper within. -/
import Derived.Test.YtegidbbigjhapaaMem
import Derived.Test.YtegidbbigjhapaaMp
namespace Go.Proofs.Ytegidbbigjhapaa
open Go.RowKit
set_option linter.unusedVariables false

/-- What width makes of a number. -/
def widthOf (n : Int) : Int := if n < 0 ∨ 8 < n then 0 else n

set_option maxHeartbeats 400000 in
theorem width_any (n : Int) (w : World) :
    Calls Try.prog 65 #[.int .i64 n] w fun e w' => e = .returned (.int .i64 (widthOf n)) ∧ w = w' := by
  by_cases h1 : n < 0
  · have e1 : widthOf n = 0 := by simp [widthOf, h1]
    rw [e1]; clear e1
    go_enter Try.func65, Try.ntmps65
    go_wp2
    go_ret
    exact ⟨rfl, rfl⟩
  · by_cases h2 : 8 < n
    · have e1 : widthOf n = 0 := by simp [widthOf, h2]
      rw [e1]; clear e1
      go_enter Try.func65, Try.ntmps65
      go_wp2
      go_ret
      exact ⟨rfl, rfl⟩
    · have e1 : widthOf n = n := by simp [widthOf, h1, h2]
      rw [e1]; clear e1
      go_enter Try.func65, Try.ntmps65
      go_wp2
      go_ret
      exact ⟨rfl, rfl⟩

/-! ### digits: a number by its bytes -/

theorem wraps_u64 (n : Int) (h0 : 0 ≤ n) (h1 : n < 2 ^ 64) : IntKind.u64.wrap n = n := by
  have e : IntKind.u64.wrap n = n % 18446744073709551616 := by simp [IntKind.wrap, IntKind.bits, IntKind.signed]
  rw [e]
  exact Int.emod_eq_of_lt h0 (by simpa using h1)

theorem or_add (v b : Int) (k : Nat) (hk : k ≤ 56) (hv0 : 0 ≤ v) (hv : v < 2 ^ k) (hb0 : 0 ≤ b) (hb : b < 256) :
    bits BinOp.or IntKind.u64 v (IntKind.u64.wrap (b * 2 ^ k)) = v + b * 2 ^ k := by
  obtain ⟨a, rfl⟩ := Int.eq_ofNat_of_zero_le hv0
  obtain ⟨c, rfl⟩ := Int.eq_ofNat_of_zero_le hb0
  have ha : a < 2 ^ k := by exact_mod_cast hv
  have hc : c < 256 := by omega
  have hp : (2 : Nat) ^ k ≤ 2 ^ 56 := Nat.pow_le_pow_right (by decide) hk
  have h1 : c * 2 ^ k < 2 ^ 64 := by
    have : c * 2 ^ k ≤ 255 * 2 ^ 56 := Nat.mul_le_mul (by omega) hp
    have e : (255 : Nat) * 2 ^ 56 < 2 ^ 64 := by decide +kernel
    omega
  have h2 : a < 2 ^ 64 := by
    have e : (2 : Nat) ^ 56 < 2 ^ 64 := by decide +kernel
    omega
  have e1 : ((c : Int) * 2 ^ k) = ((c * 2 ^ k : Nat) : Int) := by push_cast; rfl
  rw [e1, wraps_u64 _ (Int.natCast_nonneg _) (by exact_mod_cast h1), (bits_nat .u64 64 (by decide) wraps_u64 a _ h2 h1).2, Nat.or_comm, Nat.mul_comm, ← Nat.two_pow_add_eq_or_of_lt ha c, Nat.add_comm]
  simp

theorem cells2 {w : World} {d : Nat} {u v : Value} {t : TypeId} (h : w.heap[d]? = some (.cells #[u, v] t (0, 0))) :
    w.cell? ⟨d, 0, none⟩ = some u ∧ w.cell? ⟨d, 1, none⟩ = some v ∧ w.frozen? ⟨d, 0, none⟩ = false ∧ w.frozen? ⟨d, 1, none⟩ = false := by
  simp [World.cell?, World.frozen?, h]

theorem set20 {w : World} {d : Nat} {u v : Value} {t : TypeId} (h : w.heap[d]? = some (.cells #[u, v] t (0, 0))) (x : Value) :
    (w.setCell ⟨d, 0, none⟩ x).heap[d]? = some (.cells #[x, v] t (0, 0)) := heap_setCell_same w d 0 _ t x h
theorem set21 {w : World} {d : Nat} {u v : Value} {t : TypeId} (h : w.heap[d]? = some (.cells #[u, v] t (0, 0))) (x : Value) :
    (w.setCell ⟨d, 1, none⟩ x).heap[d]? = some (.cells #[u, x] t (0, 0)) := heap_setCell_same w d 1 _ t x h

set_option maxHeartbeats 400000 in
theorem pop_any (d : Nat) (v : Int) (u : Value) (w : World) (hv0 : 0 ≤ v) (hv : v ≤ 18446744073709551615) (hd : w.heap[d]? = some (.cells #[.int .u64 v, u] 94 (0, 0))) :
    Calls Try.prog 67 #[.pointer (some ⟨d, 0, none⟩)] w fun e w' => e = .returned (.int .u8 (v % 256)) ∧ Chg [d] w w' ∧ w'.heap[d]? = some (.cells #[.int .u64 (v / 256), u] 94 (0, 0)) := by
  obtain ⟨c0, c1, f0, f1⟩ := cells2 hd
  have HD := Lib.hid hd; clear hd
  go_enter Try.func67, Try.ntmps67
  go_wp2
  go_ret
  exact ⟨rfl, (Chg.refl _ _).setCell (by simp) _, set20 HD.out _⟩

set_option maxHeartbeats 400000 in
theorem dpush_any (d : Nat) (v b : Int) (k : Nat) (w : World) (hk : k ≤ 56) (hv0 : 0 ≤ v) (hv : v < 2 ^ k) (hb0 : 0 ≤ b) (hb : b < 256) (hd : w.heap[d]? = some (.cells #[.int .u64 v, .int .i64 k] 94 (0, 0))) :
    Calls Try.prog 84 #[.pointer (some ⟨d, 0, none⟩), .int .u8 b] w fun e w' => e = .returned (.tuple #[]) ∧ Chg [d] w w' ∧ w'.heap[d]? = some (.cells #[.int .u64 (v + b * 2 ^ k), .int .i64 ((k + 8 : Nat) : Int)] 94 (0, 0)) := by
  obtain ⟨c0, c1, f0, f1⟩ := cells2 hd
  have HE := Lib.hid (or_add v b k hk hv0 hv hb0 hb)
  have HD := Lib.hid hd; clear hd
  go_enter Try.func84, Try.ntmps84
  go_wp2
  go_region
  go_wp2
  rw [HE.out]
  go_end0
  exact ⟨rfl, (((Chg.refl _ _).setCell (by simp) _).setCell (by simp) _).drew, set21 (set20 HD.out _) _⟩

theorem tagged_ne1 {w : World} {B T T' s : Nat} {v : Value} {n l : Nat} {xs : List Value} {cs : Array Value} {fr : Nat × Nat} (h : w.ownsRow B T s v n xs) (hl : w.heap[l]? = some (.cells cs T' fr)) (hT : T ≠ T') : v.ownBlock ≠ some l :=
  fun e => (tagged_of_own h).ne hl hT l e rfl

/-- A byte was put behind the list that the variable l holds. -/
def Added (B l : Nat) (v : Value) (xs : List Value) (b : Int) (w w' : World) : Prop :=
  ∃ v', Chg (l :: v.ownBlock.toList) w w' ∧ w'.heap[l]? = some (.cells #[v'] 92 (0, 0)) ∧ w'.ownsRow B 5 1 v' (xs.length + 1) (xs ++ [.int .u8 b])

set_option maxHeartbeats 400000 in
theorem add_any (B l : Nat) (v : Value) (xs : List Value) (b : Int) (w : World) (hB : B ≤ w.heap.size) (hlen : xs.length < 70368744177664) (hl : w.heap[l]? = some (.cells #[v] 92 (0, 0))) (hown : w.ownsRow B 5 1 v xs.length xs) :
    Calls Try.prog 68 #[.pointer (some ⟨l, 0, none⟩), .int .u8 b] w fun e w' => e = .returned (.tuple #[]) ∧ Added B l v xs b w w' := by
  have c0 := Go.cell_of_one hl
  have f0 := Go.free_of_one hl
  have hlt := Go.lt_of_block hl
  have tne := (tagged_of_own hown).ne hl (by decide)
  have HL := Lib.hid hl; clear hl
  obtain ⟨i0, hi, hz0, hz1, hz2⟩ := info_u8
  have HO := Lib.hid hown; clear hown
  go_enter Try.func68, Try.ntmps68
  go_wp2_with (at_builtin; refine wpList_append_own _ rfl _ _ 92 rfl B 5 i0 (.int .u8 0) 1 1 Try.underlying92 hi hz0 hz1 hz2 rfl (by decide) _ _ _ rfl (HO.out.alloc _) ⟨w.heap.size, 0, none⟩ 1 1 [.int .u8 b] rfl rfl ?c1 ?c2 ?c3 ?c4 ?c5 ?_)
  case c1 => exact (cell_one_new _ _ _)
  case c2 => simp [Value.oneCell']
  case c3 => unfold maxLen; omega
  case c4 => omega
  case c5 => simp; omega
  intro v' w1 hown' hgrow _
  have hne : v.ownBlock ≠ some l := fun e => tne l e rfl
  have hl1 : w1.heap[l]? = some (.cells #[v] 92 (0, 0)) := by
    rw [hgrow.block l (by simp; omega) (fun e => hne e.symm), Go.heap_alloc_old _ _ hlt]; exact HL.out
  have c1 := Go.cell_of_one hl1
  have f1 := Go.free_of_one hl1
  have hg : Chg (l :: v.ownBlock.toList) w w1 := ((Chg.refl _ _).alloc _).grown hgrow (fun k hk => .inl (by simp [hk]))
  have HL1 := Lib.hid hl1; clear hl1
  clear hgrow hne
  obtain ⟨ao, cap, hv⟩ := own_shape hown'
  rw [hv]
  have HO1 := Lib.hid hown'; clear hown'
  have HV := Lib.hid hv; clear hv
  go_wp2
  go_end0
  rw [← HV.out]
  have hown' := HO1.out
  exact ⟨rfl, v', hg.setCell (by simp) _, Go.one_setCell HL1.out, Go.ownsRow_setCell_other hown' (fun e => tagged_ne1 hown' HL1.out (by decide) e) _⟩

end Go.Proofs.Ytegidbbigjhapaa
