/- The walk of the statement DeltaWrap. -/
import Derived.Test.YtohgnbgijleoaaaDg
namespace Go.Proofs.Ytohgnbgijleoaaa
open Go.RowKit
set_option linter.unusedVariables false
set_option linter.unusedSimpArgs false

def endsZ : List Int := [0, 9223372036854775807, -9223372036854775808, 1, -1, 4611686018427387904, -4611686018427387904]

/-- The ends that are picked. -/
def pck (z : List Int) : List Int := z.map fun a => endsZ.getD (a % ((7 : Nat) : Int)).toNat 0
@[simp] theorem pck_length (z : List Int) : (pck z).length = z.length := by simp [pck]

theorem ends_in (k : Nat) : In64 (endsZ.getD k 0) := by
  unfold In64
  rcases k with _ | _ | _ | _ | _ | _ | _ | k <;> simp [endsZ, List.getD]

theorem pck_in (z : List Int) : ∀ x ∈ pck z, In64 x := by
  intro x hx
  obtain ⟨a, -, rfl⟩ := List.mem_map.1 hx
  exact ends_in _

theorem pck_snoc (z : List Int) (j : Nat) (h : j < z.length) : pck (z.take (j + 1)) = pck (z.take j) ++ [endsZ.getD ((z.getD j 0) % ((7 : Nat) : Int)).toNat 0] := by
  unfold pck
  rw [List.take_add_one, List.getElem?_eq_getElem h, List.map_append]
  congr 1
  simp [List.getD, h]

theorem within_lt' (a : Int) (n : Nat) (hn : 1 ≤ n) : (a % (n : Int)).toNat < n := within_lt a n hn

theorem ends_cell {w : World} {g : Nat} (h : w.heap[g]? = some (.cells #[.int .i64 0, .int .i64 9223372036854775807, .int .i64 (-9223372036854775808), .int .i64 1, .int .i64 (-1), .int .i64 4611686018427387904, .int .i64 (-4611686018427387904)] 3)) (k : Nat) (hk : k < 7) : w.cell? ⟨g, k, none⟩ = some (.int .i64 (endsZ.getD k 0)) := by
  rw [cell_of_row w g k _ _ _ h]
  have : k = 0 ∨ k = 1 ∨ k = 2 ∨ k = 3 ∨ k = 4 ∨ k = 5 ∨ k = 6 := by omega
  rcases this with rfl | rfl | rfl | rfl | rfl | rfl | rfl <;> rfl

set_option maxRecDepth 100000 in
set_option maxHeartbeats 4000000 in
theorem walk_DeltaWrap (a0 : Option Addr) (len0 cap0 : Nat) (z0 : List Int) (w : World) (w0 : IsRow .i64 w a0 len0 cap0 z0) :
    Calls Try.prog 6 #[.slice a0 len0 cap0] w fun e w' => e = .returned (.bool true) ∧ Below w.heap.size w w' := by
  obtain ⟨i0, hi, hz0, hz1, hz2⟩ := info_int
  have HK := Lib.hid (known12_any w)
  have HROW := Lib.hid w0
  have hlz := w0.len
  have hlen : len0 ≤ 9223372036854775807 := by have := hlz.2; unfold maxLen at this; omega
  obtain ⟨n, hn⟩ : ∃ n, n = min len0 80 := ⟨_, rfl⟩
  have hn80 : n ≤ 80 := by omega
  have hnl : n ≤ len0 := by omega
  have HNL := Lib.hid (show n ≤ z0.length by omega)
  have HCL := Lib.hid (show n = len0 ∨ n = 80 by omega)
  have HOL := Lib.hid hn
  clear w0 hlz hn
  go_enter Try.func6, Try.ntmps6
  go_wp2_with (first
    | (go_at_call 8; (with_reducible refine HK.out.mono ?_); rintro e wA ⟨rfl, hk⟩; have HKA := Lib.hid hk; clear hk)
    | fail)
  have HE := Lib.hid (heap_alloc_new wA (.cells #[.int .i64 0, .int .i64 9223372036854775807, .int .i64 (-9223372036854775808), .int .i64 1, .int .i64 (-1), .int .i64 4611686018427387904, .int .i64 (-4611686018427387904)] 3))
  have HCA := Lib.hid (HKA.out.alloc (.cells #[.int .i64 0, .int .i64 9223372036854775807, .int .i64 (-9223372036854775808), .int .i64 1, .int .i64 (-1), .int .i64 4611686018427387904, .int .i64 (-4611686018427387904)] 3))
  obtain ⟨ge, hge⟩ : ∃ g, g = wA.heap.size := ⟨_, rfl⟩
  have HGE := Lib.hid hge
  have HGW := Lib.hid (show w.heap.size ≤ ge by rw [hge]; exact HKA.out.size)
  rw [← hge] at HE ⊢
  have HBK := Lib.hid (show ge + 1 ≤ (wA.alloc (.cells #[.int .i64 0, .int .i64 9223372036854775807, .int .i64 (-9223372036854775808), .int .i64 1, .int .i64 (-1), .int .i64 4611686018427387904, .int .i64 (-4611686018427387904)] 3)).heap.size by rw [hge]; simp)
  obtain ⟨wE, hwE⟩ : ∃ x, x = wA.alloc (.cells #[.int .i64 0, .int .i64 9223372036854775807, .int .i64 (-9223372036854775808), .int .i64 1, .int .i64 (-1), .int .i64 4611686018427387904, .int .i64 (-4611686018427387904)] 3) := ⟨_, rfl⟩
  rw [← hwE] at HE HCA HBK ⊢
  clear hge hwE
  go_loopw [4, 5] (fun lv i w' => ∃ j : Nat, j ≤ n ∧ i = .int .i64 (j : Int) ∧ Chg [] w w' ∧ (∀ k, k < 7 → w'.cell? ⟨ge, k, none⟩ = some (.int .i64 (endsZ.getD k 0))) ∧ ge + 1 ≤ w'.heap.size ∧ w'.ownsRow (ge + 1) 3 1 lv j (iv (pck (z0.take j)))) (fun _ i _ => n - (intOf i).toNat)
  case atStart => exact ⟨0, Nat.zero_le _, rfl, HCA.out, ends_cell HE.out, HBK.out, World.ownsRow_nil _ _ _ _⟩
  case round =>
    obtain ⟨j, hj, rfl, hc, hec, hbk, ho⟩ := hrel
    obtain ⟨lo, lc, rfl⟩ := own_shape ho
    have HC := Lib.hid hc; have HO := Lib.hid ho; have HEC := Lib.hid hec
    clear hc ho hec
    by_cases hlt : j < n
    · have d1 : decide ((j : Int) < (len0 : Int)) = true := by simp; omega
      have d2 : decide ((j : Int) < 80) = true := by simp; omega
      obtain ⟨g, off, rfl, hcs⟩ := HROW.out.at (i := j) (by omega)
      have x0 := HC.out.cell (hcs j (by omega)) (by simp)
      have hj0 : j < z0.length := by have := HNL.out; omega
      have HW := Lib.hid (fun wx => within12 (z0.getD j 0) 7 7 wx rfl (by decide) (by decide) (wf_getD HROW.out.wf hj0))
      have HSN := Lib.hid (pck_snoc z0 j hj0)
      obtain ⟨a, ha⟩ : ∃ a, a = z0.getD j 0 := ⟨_, rfl⟩
      rw [← ha] at HW HSN x0
      have hk7 : (a % ((7 : Nat) : Int)).toNat < 7 := within_lt' a 7 (by decide)
      obtain ⟨k, hk⟩ : ∃ k, k = (a % ((7 : Nat) : Int)).toNat := ⟨_, rfl⟩
      rw [← hk] at HW HSN hk7
      have x1 := HEC.out k hk7
      obtain ⟨z, hz⟩ : ∃ z, z = endsZ.getD k 0 := ⟨_, rfl⟩
      rw [← hz] at x1 HSN
      have HZ := Lib.hid (show iv (pck (z0.take j)) ++ [.int .i64 z] = iv (pck (z0.take (j + 1))) by rw [HSN.out]; simp [iv])
      have y1 : (j : Int) < (len0 : Int) := by omega
      have y2 : (k : Int) < 7 := by omega
      clear ha hk hz hcs hj0
      go_wp2_with (first
        | (go_at_call 13; (with_reducible refine (HW.out _).mono ?_); rintro e wB ⟨rfl, rfl⟩)
        | (at_builtin; refine wpList_append_own _ rfl _ _ 22 rfl (ge + 1) 3 i0 (.int .i64 0) 1 8 Try.underlying22 hi hz0 hz1 hz2 rfl (by decide) _ _ _ rfl (HO.out.alloc _) ⟨wr.heap.size, 0, none⟩ 1 1 [.int .i64 z] rfl rfl ?c1 ?c2 ?c3 ?c4 ?c5 ?_)
        | fail)
      case c1 => exact cell_one_new _ _ _
      case c2 => simp [Value.oneCell']
      case c3 => unfold maxLen; omega
      case c4 => omega
      case c5 => simp; omega
      intro v6 w6 hown6 hgrow6 _
      rw [HZ.out] at hown6
      have hcg : Chg (Value.slice lo j lc).ownBlock.toList wr w6 := ((Chg.refl _ wr).alloc _).grown hgrow6 (fun k hk => .inl (by simp [hk]))
      have hgeB := own_ge HO.out
      have HC6 := Lib.hid (HC.out.trans hcg (fun t ht => .inr (by
        simp at ht
        have := hgeB t ht
        have := HGW.out
        omega)))
      have HEC6 := Lib.hid (fun k hk => hcg.cell (HEC.out k hk) (fun hm => by
        simp at hm
        have := hgeB ge hm
        omega))
      have HO6 := Lib.hid hown6
      have hbk6 := Nat.le_trans hbk hcg.size
      clear hown6 hgrow6 hcg hgeB
      go_wp2
      go_roundw
      case rel => exact ⟨j + 1, hlt, by go_num, HC6.out, HEC6.out, hbk6, HO6.out⟩
      case measure => simp [intOf]; omega
    · obtain rfl : j = n := by omega
      have HP := Lib.hid (pck_in (z0.take j))
      have HPL := Lib.hid (show (pck (z0.take j)).length = j by have := HNL.out; rw [pck_length, List.length_take]; omega)
      obtain ⟨P, hP⟩ : ∃ P, P = pck (z0.take j) := ⟨_, rfl⟩
      rw [← hP] at HP HPL HO
      have HS := Lib.hid (ownI_seen HO.out HPL.out)
      have HI := Lib.hid (fun (wx : World) (hc : Chg [] wr wx) => dints_any _ P wx (HS.out.keep hc) (by rw [HPL.out]; omega) HP.out)
      have HR := Lib.hid (fun (bv : Value) (wx : World) (hs : Seen wx bv (nv .u8 (intsE P))) => dread_back bv P [] wx (by rw [List.append_nil]; exact hs) (by simp) HP.out (by rw [HPL.out]; omega) (by simp))
      rw [HPL.out] at HR
      obtain ⟨L, hLL⟩ : ∃ L, L = (intsE P).length := ⟨_, rfl⟩
      unfold Made at HI
      rw [← hLL] at HI HR
      have e6 : ((L : Int) == (L : Int)) = true := by simp
      have hd : (¬ j < len0 ∧ decide ((j : Int) < (len0 : Int)) = false) ∨ (j < len0 ∧ ¬ j < 80 ∧ decide ((j : Int) < (len0 : Int)) = true ∧ decide ((j : Int) < 80) = false) := by
        rcases HCL.out with h | h
        · left; simp; omega
        · by_cases h2 : j < len0
          · right; simp; omega
          · left; simp; omega
      clear hP hLL
      rcases hd with ⟨p1, d1⟩ | ⟨p1, p2, d1, d2⟩
      all_goals
        go_wp2_with (first
          | (go_at_call 10; (with_reducible refine (HR.out _ w3 HB3.out).mono ?_); rintro e w4 ⟨xv, rfl, hc4, ho4⟩; rw [HPL.out] at ho4; obtain ⟨xo, xc, rfl⟩ := own_shape ho4; have HC4 := Lib.hid hc4; have HX4 := Lib.hid (ownI_seen ho4 HPL.out); clear hc4 ho4)
          | (go_at_call 12; (with_reducible refine (ints12_any _ _ P w4 HX4.out (HS.out.keep (HC3.out.trans HC4.out (by simp)))).mono ?_); rintro e w5 ⟨rfl, hc5⟩; have HC5 := Lib.hid ((HC3.out.trans HC4.out (by simp)).trans hc5 (by simp)); clear hc5)
          | (go_at_call 9; (with_reducible refine (HI.out w5 HC5.out).mono ?_); rintro e w6 ⟨bx, rfl, hc6, ho6⟩; obtain ⟨bo6, bc6, rfl⟩ := own_shape ho6; have HC6 := Lib.hid (HC5.out.trans hc6 (by simp)); clear hc6 ho6)
          | (go_at_call 9; (with_reducible refine (HI.out wr (Chg.refl [] wr)).mono ?_); rintro e w3 ⟨bx, rfl, hc3, ho3⟩; obtain ⟨bo, bc, rfl⟩ := own_shape ho3; have HC3 := Lib.hid hc3; have HB3 := Lib.hid (reads_of_own ho3).seen; clear hc3 ho3)
          | fail)
        go_ret
        exact ⟨rfl, (HC.out.trans HC6.out (by simp)).below (Nat.le_refl _) (by simp)⟩

end Go.Proofs.Ytohgnbgijleoaaa
