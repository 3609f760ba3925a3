/- Cur, Rd, Get, Put, Take: texts of one group, one behind the other. -/
import Derived.Test.YtkbfbiklnjldgaaA1
import Derived.Test.YtkbfbiklnjldgaaMp
namespace Go.Proofs.Ytkbfbiklnjldgaa
open Go.RowKit
set_option linter.unusedVariables false

/-- What width makes of a number. -/
def widthOf (n : Int) : Int := if n < 0 ∨ 8 < n then 0 else n

set_option maxHeartbeats 400000 in
theorem width_any (n : Int) (w : World) :
    Calls Try.prog 87 #[.int .i64 n] w fun e w' => e = .returned (.int .i64 (widthOf n)) ∧ w = w' := by
  by_cases h1 : n < 0
  · have e1 : widthOf n = 0 := by simp [widthOf, h1]
    rw [e1]; clear e1
    go_enter Try.func87, Try.ntmps87
    go_wp2
    go_ret
    exact ⟨rfl, rfl⟩
  · by_cases h2 : 8 < n
    · have e1 : widthOf n = 0 := by simp [widthOf, h2]
      rw [e1]; clear e1
      go_enter Try.func87, Try.ntmps87
      go_wp2
      go_ret
      exact ⟨rfl, rfl⟩
    · have e1 : widthOf n = n := by simp [widthOf, h1, h2]
      rw [e1]; clear e1
      go_enter Try.func87, Try.ntmps87
      go_wp2
      go_ret
      exact ⟨rfl, rfl⟩

/-! ### digits: a number by its bytes -/

theorem wraps_u64 (n : Int) (h0 : 0 ≤ n) (h1 : n < 2 ^ 64) : IntKind.u64.wrap n = n := by
  have e : IntKind.u64.wrap n = n % 18446744073709551616 := by simp [IntKind.wrap, IntKind.bits, IntKind.signed]
  rw [e]
  exact Int.emod_eq_of_lt h0 (by simpa using h1)

theorem or_add (v b : Int) (k : Nat) (hk : k ≤ 56) (hv0 : 0 ≤ v) (hv : v < 2 ^ k) (hb0 : 0 ≤ b) (hb : b < 256) :
    bits BinOp.or IntKind.u64 v (IntKind.u64.wrap (b * 2 ^ k)) = v + b * 2 ^ k := by
  obtain ⟨a, rfl⟩ := Int.eq_ofNat_of_zero_le hv0
  obtain ⟨c, rfl⟩ := Int.eq_ofNat_of_zero_le hb0
  have ha : a < 2 ^ k := by exact_mod_cast hv
  have hc : c < 256 := by omega
  have hp : (2 : Nat) ^ k ≤ 2 ^ 56 := Nat.pow_le_pow_right (by decide) hk
  have h1 : c * 2 ^ k < 2 ^ 64 := by
    have : c * 2 ^ k ≤ 255 * 2 ^ 56 := Nat.mul_le_mul (by omega) hp
    have e : (255 : Nat) * 2 ^ 56 < 2 ^ 64 := by decide +kernel
    omega
  have h2 : a < 2 ^ 64 := by
    have e : (2 : Nat) ^ 56 < 2 ^ 64 := by decide +kernel
    omega
  have e1 : ((c : Int) * 2 ^ k) = ((c * 2 ^ k : Nat) : Int) := by push_cast; rfl
  rw [e1, wraps_u64 _ (Int.natCast_nonneg _) (by exact_mod_cast h1), (bits_nat .u64 64 (by decide) wraps_u64 a _ h2 h1).2, Nat.or_comm, Nat.mul_comm, ← Nat.two_pow_add_eq_or_of_lt ha c, Nat.add_comm]
  simp

theorem cells2 {w : World} {d : Nat} {u v : Value} {t : TypeId} (h : w.heap[d]? = some (.cells #[u, v] t (0, 0))) :
    w.cell? ⟨d, 0, none⟩ = some u ∧ w.cell? ⟨d, 1, none⟩ = some v ∧ w.frozen? ⟨d, 0, none⟩ = false ∧ w.frozen? ⟨d, 1, none⟩ = false := by
  simp [World.cell?, World.frozen?, h]

theorem set20 {w : World} {d : Nat} {u v : Value} {t : TypeId} (h : w.heap[d]? = some (.cells #[u, v] t (0, 0))) (x : Value) :
    (w.setCell ⟨d, 0, none⟩ x).heap[d]? = some (.cells #[x, v] t (0, 0)) := heap_setCell_same w d 0 _ t x h
theorem set21 {w : World} {d : Nat} {u v : Value} {t : TypeId} (h : w.heap[d]? = some (.cells #[u, v] t (0, 0))) (x : Value) :
    (w.setCell ⟨d, 1, none⟩ x).heap[d]? = some (.cells #[u, x] t (0, 0)) := heap_setCell_same w d 1 _ t x h

set_option maxHeartbeats 400000 in
theorem pop_any (d : Nat) (v : Int) (u : Value) (w : World) (hv0 : 0 ≤ v) (hv : v ≤ 18446744073709551615) (hd : w.heap[d]? = some (.cells #[.int .u64 v, u] 127 (0, 0))) :
    Calls Try.prog 93 #[.pointer (some ⟨d, 0, none⟩)] w fun e w' => e = .returned (.int .u8 (v % 256)) ∧ Chg [d] w w' ∧ w'.heap[d]? = some (.cells #[.int .u64 (v / 256), u] 127 (0, 0)) := by
  obtain ⟨c0, c1, f0, f1⟩ := cells2 hd
  have HD := Lib.hid hd; clear hd
  go_enter Try.func93, Try.ntmps93
  go_wp2
  go_ret
  exact ⟨rfl, (Chg.refl _ _).setCell (by simp) _, set20 HD.out _⟩

set_option maxHeartbeats 400000 in
theorem dpush_any (d : Nat) (v b : Int) (k : Nat) (w : World) (hk : k ≤ 56) (hv0 : 0 ≤ v) (hv : v < 2 ^ k) (hb0 : 0 ≤ b) (hb : b < 256) (hd : w.heap[d]? = some (.cells #[.int .u64 v, .int .i64 k] 127 (0, 0))) :
    Calls Try.prog 90 #[.pointer (some ⟨d, 0, none⟩), .int .u8 b] w fun e w' => e = .returned (.tuple #[]) ∧ Chg [d] w w' ∧ w'.heap[d]? = some (.cells #[.int .u64 (v + b * 2 ^ k), .int .i64 ((k + 8 : Nat) : Int)] 127 (0, 0)) := by
  obtain ⟨c0, c1, f0, f1⟩ := cells2 hd
  have HE := Lib.hid (or_add v b k hk hv0 hv hb0 hb)
  have HD := Lib.hid hd; clear hd
  go_enter Try.func90, Try.ntmps90
  go_wp2
  go_region
  go_wp2
  rw [HE.out]
  go_end0
  exact ⟨rfl, (((Chg.refl _ _).setCell (by simp) _).setCell (by simp) _).drew, set21 (set20 HD.out _) _⟩

theorem tagged_ne1 {w : World} {B T T' s : Nat} {v : Value} {n l : Nat} {xs : List Value} {cs : Array Value} {fr : Nat × Nat} (h : w.ownsRow B T s v n xs) (hl : w.heap[l]? = some (.cells cs T' fr)) (hT : T ≠ T') : v.ownBlock ≠ some l :=
  fun e => (tagged_of_own h).ne hl hT l e rfl

/-- A byte was put behind the list that the variable l holds. -/
def Added (B l : Nat) (v : Value) (xs : List Value) (b : Int) (w w' : World) : Prop :=
  ∃ v', Chg (l :: v.ownBlock.toList) w w' ∧ w'.heap[l]? = some (.cells #[v'] 133 (0, 0)) ∧ w'.ownsRow B 5 1 v' (xs.length + 1) (xs ++ [.int .u8 b])

set_option maxHeartbeats 400000 in
theorem add_any (B l : Nat) (v : Value) (xs : List Value) (b : Int) (w : World) (hB : B ≤ w.heap.size) (hlen : xs.length < 70368744177664) (hl : w.heap[l]? = some (.cells #[v] 133 (0, 0))) (hown : w.ownsRow B 5 1 v xs.length xs) :
    Calls Try.prog 94 #[.pointer (some ⟨l, 0, none⟩), .int .u8 b] w fun e w' => e = .returned (.tuple #[]) ∧ Added B l v xs b w w' := by
  have c0 := Go.cell_of_one hl
  have f0 := Go.free_of_one hl
  have hlt := Go.lt_of_block hl
  have tne := (tagged_of_own hown).ne hl (by decide)
  have HL := Lib.hid hl; clear hl
  obtain ⟨i0, hi, hz0, hz1, hz2⟩ := info_u8
  have HO := Lib.hid hown; clear hown
  go_enter Try.func94, Try.ntmps94
  go_wp2_with (at_builtin; refine wpList_append_own _ rfl _ _ 133 rfl B 5 i0 (.int .u8 0) 1 1 Try.underlying133 hi hz0 hz1 hz2 rfl (by decide) _ _ _ rfl (HO.out.alloc _) ⟨w.heap.size, 0, none⟩ 1 1 [.int .u8 b] rfl rfl ?c1 ?c2 ?c3 ?c4 ?c5 ?_)
  case c1 => exact (cell_one_new _ _ _)
  case c2 => simp [Value.oneCell']
  case c3 => unfold maxLen; omega
  case c4 => omega
  case c5 => simp; omega
  intro v' w1 hown' hgrow _
  have hne : v.ownBlock ≠ some l := fun e => tne l e rfl
  have hl1 : w1.heap[l]? = some (.cells #[v] 133 (0, 0)) := by
    rw [hgrow.block l (by simp; omega) (fun e => hne e.symm), Go.heap_alloc_old _ _ hlt]; exact HL.out
  have c1 := Go.cell_of_one hl1
  have f1 := Go.free_of_one hl1
  have hg : Chg (l :: v.ownBlock.toList) w w1 := ((Chg.refl _ _).alloc _).grown hgrow (fun k hk => .inl (by simp [hk]))
  have HL1 := Lib.hid hl1; clear hl1
  clear hgrow hne
  obtain ⟨ao, cap, hv⟩ := own_shape hown'
  rw [hv]
  have HO1 := Lib.hid hown'; clear hown'
  have HV := Lib.hid hv; clear hv
  go_wp2
  go_end0
  rw [← HV.out]
  have hown' := HO1.out
  exact ⟨rfl, v', hg.setCell (by simp) _, Go.one_setCell HL1.out, Go.ownsRow_setCell_other hown' (fun e => tagged_ne1 hown' HL1.out (by decide) e) _⟩

end Go.Proofs.Ytkbfbiklnjldgaa

namespace Go.Proofs.Ytkbfbiklnjldgaa
open Go.RowKit
set_option linter.unusedVariables false

/-- Bytes as cells. -/
def bys (zs : List Int) : List Value := zs.map (Value.int .u8)
@[simp] theorem bys_length (zs : List Int) : (bys zs).length = zs.length := by simp [bys]
theorem bys_get {zs : List Int} {j : Nat} {z : Int} (h : zs[j]? = some z) : (bys zs)[j]? = some (.int .u8 z) := by simp [bys, h]

theorem run_slice_seen {w : World} {ao : Option Addr} {len cap : Nat} {xs : List Value} (h : Seen w (.slice ao len cap) xs) (hc : len ≤ cap) (lo hi : Nat) (h1 : lo ≤ hi) (h2 : hi ≤ len) :
    ∃ sv, Seen w sv ((xs.take hi).drop lo) ∧ ∀ wx, (Instr.slice 30 (.slice ao len cap) (some (.int .i64 (lo : Int))) (some (.int .i64 (hi : Int))) none).run Try.prog wx = .ok sv wx := by
  refine ⟨_, h.sliced lo hi h1 h2, fun wx => ?_⟩
  obtain ⟨i0, hi0, _, hz1, _⟩ := info_u8
  rw [run_slice_lh wx 30 ao len cap (by rw [elem_bytes]; exact Try.underlying30) .i64 .i64 lo hi (by omega) (by omega) (by omega), elem_bytes]
  simp [sizeOf, typeInfo, hi0, hz1]

theorem run_convert_seen {P : Program} {w : World} {v : Value} {zs : List Int} (h : Seen w v (bys zs)) (src dst e : TypeId) (hs : P.underlying src = some (.slice e)) (he : P.underlying e = some (.int .u8)) (hd : P.underlying dst = some .string) :
    (convert src dst v).run P w = .ok (.string (strOfNums zs)) w := by
  rcases h with ⟨rfl, h0⟩ | ⟨a, cap, rfl, _, _, hc⟩
  · have : zs = [] := by simpa [bys] using h0
    subst this
    exact run_convert_bytes_nil w src e hs he 0 0 dst hd
  · have hl : (loadCells a (bys zs).length).run P w = .ok (zs.map (Value.int .u8)).toArray w := run_loadCells_list (P := P) w a (bys zs) (fun j v hj => hc j v hj)
    rw [run_convert_bytes_string w src dst e _ _ cap hs he hd, run_bytesToString w _ _ cap zs hl, foldl_push_bytes]
    simp [strOfNums, ByteArray.empty, ByteArray.emptyWithCapacity]
    rfl

/-- The Reader at block r has still to read zs, its error is e; its bytes lie below block M. -/
def Rd (w : World) (r : Nat) (zs : List Int) (e : Int) (M : Nat) : Prop :=
  ∃ v, w.heap[r]? = some (.cells #[v, .int .i64 e] 94 (0, 0)) ∧ Reads w v (bys zs) ∧ Tagged w 5 v ∧ ∀ g, v.ownBlock = some g → g < M

section
variable {M M' : Nat}

theorem Rd.lt {w : World} {r : Nat} {zs : List Int} {e : Int} (h : Rd w r zs e M) : r < w.heap.size := by
  obtain ⟨v, h1, _⟩ := h
  exact Go.lt_of_block h1

theorem Rd.keep0 {w w' : World} {r : Nat} {zs : List Int} {e : Int} (h : Rd w r zs e M) (hc : Chg [] w w') : Rd w' r zs e M := by
  obtain ⟨v, h1, h2, h3, h4⟩ := h
  exact ⟨v, hc.heap h1 (by simp), h2.keep hc (by simp), h3.keep hc (by simp), h4⟩

theorem Rd.mono {w : World} {r : Nat} {zs : List Int} {e : Int} (h : Rd w r zs e M) (hm : M ≤ M') : Rd w r zs e M' := by
  obtain ⟨v, h1, h2, h3, h4⟩ := h
  exact ⟨v, h1, h2, h3, fun g hg => Nat.lt_of_lt_of_le (h4 g hg) hm⟩

theorem Rd.keepHigh {w w' : World} {r k : Nat} {zs : List Int} {e : Int} (h : Rd w r zs e M) (hc : Chg [k] w w') (hk : M ≤ k) (hne : r ≠ k) : Rd w' r zs e M := by
  obtain ⟨v, h1, h2, h3, h4⟩ := h
  have hg : ∀ g, v.ownBlock = some g → g ∉ [k] := fun g hg => by have := h4 g hg; simp; omega
  exact ⟨v, hc.heap h1 (by simpa using hne), h2.keep hc hg, h3.keep hc hg, h4⟩

theorem Rd.keep1 {w w' : World} {r s : Nat} {zs zs' : List Int} {e e' : Int} (h : Rd w r zs e M) (hs : Rd w s zs' e' M') (hc : Chg [s] w w') (hne : r ≠ s) : Rd w' r zs e M := by
  obtain ⟨v, h1, h2, h3, h4⟩ := h
  obtain ⟨v', h1', h2', h3', _⟩ := hs
  have hn := h3.ne h1' (by decide)
  exact ⟨v, hc.heap h1 (by simpa using hne), h2.keep hc (fun g hg => by simpa using hn g hg), h3.keep hc (fun g hg => by simpa using hn g hg), h4⟩

set_option maxHeartbeats 400000 in
theorem left_any (r : Nat) (zs : List Int) (e : Int) (w : World) (hz : zs.length ≤ 140737488355328) (h : Rd w r zs e M) :
    Calls Try.prog 49 #[.pointer (some ⟨r, 0, none⟩)] w fun x w' => x = .returned (.int .i64 zs.length) ∧ w = w' := by
  obtain ⟨v, h1, h2, h3, h4⟩ := h
  obtain ⟨ao, cap, rfl, hc1, hc2⟩ := h2.shape
  obtain ⟨c0, c1, f0, f1⟩ := cells2 h1
  simp only [bys_length] at c0 hc1
  clear h1 h2 h3 h4
  go_enter Try.func49, Try.ntmps49
  go_wp2
  go_ret
  exact ⟨rfl, rfl⟩

set_option maxHeartbeats 400000 in
theorem end_any (r : Nat) (zs : List Int) (e : Int) (w : World) (hz : zs.length ≤ 140737488355328) (h : Rd w r zs e M) :
    Calls Try.prog 25 #[.pointer (some ⟨r, 0, none⟩)] w fun x w' => x = .returned (.int .i64 (if zs = [] then e else 9)) ∧ w = w' := by
  obtain ⟨v, h1, h2, h3, h4⟩ := h
  obtain ⟨ao, cap, rfl, hc1, hc2⟩ := h2.shape
  obtain ⟨c0, c1, f0, f1⟩ := cells2 h1
  simp only [bys_length] at c0 hc1
  clear h1 h2 h3 h4
  rcases zs with _ | ⟨z, zs⟩
  · rw [if_pos rfl]
    go_enter Try.func25, Try.ntmps25
    go_wp2
    go_ret
    exact ⟨rfl, rfl⟩
  · rw [if_neg (by simp)]
    simp only [List.length_cons] at c0 hz
    go_enter Try.func25, Try.ntmps25
    go_wp2
    go_ret
    exact ⟨rfl, rfl⟩

theorem Rd.setRest {w : World} {r : Nat} {v0 v : Value} {e : Int} {zs : List Int} (h1 : w.heap[r]? = some (.cells #[v0, .int .i64 e] 94 (0, 0))) (hr : Reads w v (bys zs)) (ht : Tagged w 5 v) (hM : ∀ g, v.ownBlock = some g → g < M) : Rd (w.setCell ⟨r, 0, none⟩ v) r zs e M := by
  have hn := ht.ne h1 (by decide)
  have hg : Chg [r] w (w.setCell ⟨r, 0, none⟩ v) := (Chg.refl _ _).setCell (by simp) _
  exact ⟨v, set20 h1 _, hr.keep hg (fun g hg => by simpa using hn g hg), ht.keep hg (fun g hg => by simpa using hn g hg), hM⟩

theorem Tagged.sub {w : World} {T : TypeId} {v v' : Value} (h : Tagged w T v) (hs : ∀ g, v'.ownBlock = some g → v.ownBlock = some g) : Tagged w T v' := fun g hg => h g (hs g hg)

/-- What is left of a Reader's bytes behind the first k. -/
theorem Rd.dropped {w : World} {r : Nat} {ao : Option Addr} {len cap k : Nat} {e : Int} {zs : List Int} (h1 : w.heap[r]? = some (.cells #[.slice ao len cap, .int .i64 e] 94 (0, 0)))
    (hr : Reads w (.slice ao len cap) (bys zs)) (ht : Tagged w 5 (.slice ao len cap)) (hM : ∀ g, (Value.slice ao len cap).ownBlock = some g → g < M) (hlen : len = zs.length) (hk : k ≤ len) : Rd (w.setCell ⟨r, 0, none⟩ (sliced ao k len cap 1)) r (zs.drop k) e M := by
  obtain ⟨a, b⟩ := hr.sliced k len hk (by omega)
  have e1 : (List.drop k ((bys zs).take len)) = bys (zs.drop k) := by
    rw [List.take_of_length_le (by simp; omega)]
    simp [bys]
  rw [e1] at a
  exact Rd.setRest h1 a (ht.sub b) (fun g hg => hM g (b g hg))

set_option maxHeartbeats 400000 in
theorem step_any (r : Nat) (z e0 : Int) (zs : List Int) (w : World) (hz : zs.length ≤ 140737488355328) (h : Rd w r (z :: zs) e0 M) :
    Calls Try.prog 89 #[.pointer (some ⟨r, 0, none⟩)] w fun x w' => x = .returned (.int .u8 z) ∧ Chg [r] w w' ∧ Rd w' r zs e0 M := by
  obtain ⟨v, h1, h2, h3, h4⟩ := h
  obtain ⟨c0, c1, f0, f1⟩ := cells2 h1
  have h20 := h2
  rcases h2 with ⟨rfl, h2⟩ | ⟨g, off, cap, rfl, hl, hm, hcell⟩
  · simp [bys] at h2
  simp only [bys_length, List.length_cons] at c0 hl h1 h3 h4 h20
  have H4 := Lib.hid h4; clear h4
  have H2 := Lib.hid h20; clear h20
  have hd : w.cell? ⟨g, off, none⟩ = some (.int .u8 z) := by simpa using hcell 0 _ (bys_get (zs := z :: zs) (j := 0) rfl)
  have H1 := Lib.hid h1; clear h1
  have HC := Lib.hid hcell; clear hcell
  have H3 := Lib.hid h3; clear h3
  by_cases hc : cap = 1
  · subst hc
    go_enter Try.func89, Try.ntmps89
    go_wp2
    go_ret
    refine ⟨rfl, (Chg.refl _ _).setCell (by simp) _, ?_⟩
    have hd := Rd.dropped (k := 1) H1.out H2.out H3.out H4.out rfl (by omega)
    simpa [Go.sliced, (show zs.length = 0 by omega)] using hd
  · have hc' := Lib.hid hc; clear hc
    go_enter Try.func89, Try.ntmps89
    go_wp2
    go_ret
    refine ⟨rfl, (Chg.refl _ _).setCell (by simp) _, ?_⟩
    have hd := Rd.dropped (k := 1) H1.out H2.out H3.out H4.out rfl (by omega)
    simpa [Go.sliced, Addr.add, hc'.out] using hd

/-! ### Fail, has -/

set_option maxHeartbeats 400000 in
theorem fail_kept (r : Nat) (e0 e : Int) (w : World) (zs : List Int) (h : Rd w r zs e0 M) (he : e0 ≠ 0 ∨ e = 0) :
    Calls Try.prog 50 #[.pointer (some ⟨r, 0, none⟩), .int .i64 e] w fun x w' => x = .returned (.tuple #[]) ∧ w = w' := by
  obtain ⟨v, h1, h2, h3, h4⟩ := h
  obtain ⟨c0, c1, f0, f1⟩ := cells2 h1
  clear h1 h2 h3 h4
  by_cases h0 : e0 = 0
  · subst h0
    obtain rfl : e = 0 := by omega
    clear he
    go_enter Try.func50, Try.ntmps50
    go_wp2
    refine bodyPost_ret (results_none rfl _ _ _) rfl ?_
    exact ⟨rfl, rfl⟩
  · have hb : (e0 == 0) = false := by simpa using h0
    clear h0 he
    go_enter Try.func50, Try.ntmps50
    go_wp2
    refine bodyPost_ret (results_none rfl _ _ _) rfl ?_
    exact ⟨rfl, rfl⟩

set_option maxHeartbeats 400000 in
theorem fail_set (r : Nat) (e : Int) (w : World) (zs : List Int) (h : Rd w r zs 0 M) (he : e ≠ 0) :
    Calls Try.prog 50 #[.pointer (some ⟨r, 0, none⟩), .int .i64 e] w fun x w' => x = .returned (.tuple #[]) ∧ Chg [r] w w' ∧ Rd w' r [] e 0 := by
  obtain ⟨v, h1, h2, h3, h4⟩ := h
  obtain ⟨c0, c1, f0, f1⟩ := cells2 h1
  have hb : (e == 0) = false := by simpa using he
  have H1 := Lib.hid h1
  clear h1 h2 h3 h4 he
  go_enter Try.func50, Try.ntmps50
  go_wp2
  go_end0
  exact ⟨rfl, ((Chg.refl _ _).setCell (by simp) _).setCell (by simp) _, _, set20 (set21 H1.out _) _, Reads.nil _, tagged_nil _ _, by simp [Value.ownBlock]⟩

set_option maxHeartbeats 400000 in
theorem has_yes (r : Nat) (n e0 : Int) (w : World) (zs : List Int) (hz : zs.length ≤ 140737488355328) (h : Rd w r zs e0 M) (hn : n ≤ zs.length) :
    Calls Try.prog 78 #[.pointer (some ⟨r, 0, none⟩), .int .i64 n] w fun x w' => x = .returned (.bool true) ∧ w = w' := by
  obtain ⟨v, h1, h2, h3, h4⟩ := h
  obtain ⟨ao, cap, rfl, hc1, hc2⟩ := h2.shape
  obtain ⟨c0, c1, f0, f1⟩ := cells2 h1
  simp only [bys_length] at c0 hc1
  clear h1 h2 h3 h4
  go_enter Try.func78, Try.ntmps78
  go_wp2
  go_ret
  exact ⟨rfl, rfl⟩

/-- What a call leaves of a Reader that has too few bytes. -/
def Cut (r : Nat) (e0 : Int) (M : Nat) (w w' : World) : Prop := Chg [r] w w' ∧ Rd w' r [] (if e0 = 0 then 8 else e0) M

set_option maxHeartbeats 400000 in
theorem has_no (r : Nat) (n e0 : Int) (w : World) (zs : List Int) (hz : zs.length ≤ 140737488355328) (h : Rd w r zs e0 M) (he : e0 ≠ 0 → zs = []) (hn : zs.length < n) :
    Calls Try.prog 78 #[.pointer (some ⟨r, 0, none⟩), .int .i64 n] w fun x w' => x = .returned (.bool false) ∧ Cut r e0 M w w' := by
  have H := Lib.hid h
  obtain ⟨v, h1, h2, h3, h4⟩ := h
  obtain ⟨ao, cap, rfl, hc1, hc2⟩ := h2.shape
  obtain ⟨c0, c1, f0, f1⟩ := cells2 h1
  simp only [bys_length] at c0 hc1
  clear h1 h2 h3 h4
  by_cases h0 : e0 = 0
  · subst h0
    clear he
    go_enter Try.func78, Try.ntmps78
    go_wp2_with fail
    refine (fail_set r 8 _ _ H.out (by decide)).mono ?_
    rintro x w1 ⟨rfl, g1, g2⟩
    go_wp2
    go_ret
    exact ⟨rfl, g1, g2.mono (Nat.zero_le _)⟩
  · have he' : zs = [] := he h0
    subst he'
    have H0 := Lib.hid h0
    clear h0 he
    go_enter Try.func78, Try.ntmps78
    go_wp2_with fail
    refine (fail_kept r e0 8 _ _ H.out (.inl H0.out)).mono ?_
    rintro x w1 ⟨rfl, rfl⟩
    go_wp2
    go_ret
    exact ⟨rfl, Chg.refl _ _, by rw [if_neg H0.out]; exact H.out⟩

/-! ### New -/

/-- A new Reader of zs. -/
def Newed (zs : List Int) (w : World) (x : Ending) (w' : World) : Prop :=
  ∃ r, x = .returned (.pointer (some ⟨r, 0, none⟩)) ∧ Chg [] w w' ∧ w.heap.size ≤ r ∧ Rd w' r zs 0 w'.heap.size

theorem bys_one (zs : List Int) : ∀ u ∈ bys zs, u.oneCell' = true := by
  intro u hu
  simp [bys] at hu
  obtain ⟨z, _, rfl⟩ := hu
  rfl

set_option maxHeartbeats 400000 in
theorem new_any (bv : Value) (zs : List Int) (w : World) (hz : zs.length ≤ 140737488355328) (h : Seen w bv (bys zs)) :
    Calls Try.prog 22 #[bv] w fun x w' => Newed zs w x w' := by
  obtain ⟨i0, hi, hz0, hz1, hz2⟩ := info_u8
  have hone := Lib.hid (bys_one zs)
  have hm : zs.length ≤ maxLen := by unfold maxLen; omega
  have HR := Lib.hid h
  obtain ⟨ao, cap, rfl, hc1, hc2⟩ := h.shape
  clear h
  go_enter Try.func22, Try.ntmps22
  go_wp2_with (at_builtin; refine wpList_append_reads _ rfl _ _ 30 30 rfl w.heap.size 5 5 i0 (.int .u8 0) 1 Try.underlying30 Try.underlying30 hi hz0 hz1 hz2 rfl _ _ _ rfl (World.ownsRow_nil _ _ _ _) _ (bys zs) rfl HR.out hone.out ?c1 ?c2 ?c3 ?_)
  case c1 => simpa using hm
  case c2 => simp; omega
  case c3 => exact Nat.le_refl _
  intro v' w1 hown hgrow
  have hc := Lib.hid ((Chg.refl [] w).grown hgrow (by simp [Value.ownBlock]))
  obtain ⟨ao', cap', hv⟩ := own_shape hown
  rw [hv]
  have HO1 := Lib.hid hown; clear hown
  have HV := Lib.hid hv; clear hv hgrow hz1 hz2 hz0 hi
  go_wp2
  go_ret
  have hb := heap_alloc_new w1 (.cells #[v', .int .i64 0] 94)
  have hk : Chg [] w1 (w1.alloc (.cells #[v', .int .i64 0] 94)) := (Chg.refl _ _).alloc _
  rw [← HV.out]
  exact ⟨_, rfl, hc.out.alloc _, hc.out.size, v', hb, (reads_of_own HO1.out).keep hk (by simp), (tagged_of_own HO1.out).keep hk (by simp), fun g hg => Nat.lt_of_lt_of_le ((tagged_of_own HO1.out).lt g hg) hk.size⟩

end
end Go.Proofs.Ytkbfbiklnjldgaa

namespace Go.Proofs.Ytkbfbiklnjldgaa
open Go.RowKit
set_option linter.unusedVariables false

/-- A number by its bytes, the lowest first. -/
def num : List Int → Int
  | [] => 0
  | z :: zs => z + 256 * num zs

/-- Bytes are from 0 to 255. -/
def Wf (zs : List Int) : Prop := ∀ z, z ∈ zs → 0 ≤ z ∧ z < 256

theorem Wf.drop {zs : List Int} (h : Wf zs) (k : Nat) : Wf (zs.drop k) := fun z hz => h z (List.mem_of_mem_drop hz)
theorem Wf.take {zs : List Int} (h : Wf zs) (k : Nat) : Wf (zs.take k) := fun z hz => h z (List.mem_of_mem_take hz)

theorem num_bound : ∀ (zs : List Int), Wf zs → 0 ≤ num zs ∧ num zs < 2 ^ (8 * zs.length)
  | [], _ => by simp [num]
  | z :: zs, h => by
    have h1 := num_bound zs (fun y hy => h y (by simp [hy]))
    have h2 := h z (by simp)
    have e : (2 : Int) ^ (8 * (zs.length + 1)) = 256 * 2 ^ (8 * zs.length) := by rw [Nat.mul_add, Int.pow_add]; omega
    simp only [num, List.length_cons, e]
    omega

theorem num_snoc : ∀ (zs : List Int) (z : Int), num (zs ++ [z]) = num zs + z * 2 ^ (8 * zs.length)
  | [], z => by simp [num]
  | y :: zs, z => by
    have e : (2 : Int) ^ (8 * (zs.length + 1)) = 256 * 2 ^ (8 * zs.length) := by rw [Nat.mul_add, Int.pow_add]; omega
    simp only [List.cons_append, num, num_snoc zs z, List.length_cons, e, Int.mul_add, Int.add_assoc]
    rw [Int.mul_left_comm]

theorem drop_cons {zs : List Int} {i : Nat} (h : i < zs.length) : ∃ z, zs.drop i = z :: zs.drop (i + 1) ∧ zs.take (i + 1) = zs.take i ++ [z] ∧ z ∈ zs :=
  ⟨zs[i], List.drop_eq_getElem_cons h, by rw [List.take_succ_eq_append_getElem h], List.getElem_mem h⟩

section
variable {M : Nat}

/-- Where carry stands when it has read i bytes of r into d. -/
def GetAt (M r d : Nat) (e0 : Int) (zs : List Int) (w0 : World) (i : Nat) (w : World) : Prop :=
  Chg [r, d] w0 w ∧ Rd w r (zs.drop i) e0 M ∧ w.heap[d]? = some (.cells #[.int .u64 (num (zs.take i)), .int .i64 ((8 * i : Nat) : Int)] 127 (0, 0))

theorem GetAt.next {r d : Nat} {e0 : Int} {zs : List Int} {w0 w w1 w2 : World} {i : Nat} {z : Int} (h : GetAt M r d e0 zs w0 i w) (hi : i < zs.length) (hz : zs.drop i = z :: zs.drop (i + 1)) (hz2 : zs.take (i + 1) = zs.take i ++ [z])
    (h1 : Chg [r] w w1) (h1' : Rd w1 r (zs.drop (i + 1)) e0 M) (h2 : Chg [d] w1 w2) (h2' : w2.heap[d]? = some (.cells #[.int .u64 (num (zs.take i) + z * 2 ^ (8 * i)), .int .i64 ((8 * i + 8 : Nat) : Int)] 127 (0, 0))) (hd : w1.heap[d]? = some (.cells #[.int .u64 (num (zs.take i)), .int .i64 ((8 * i : Nat) : Int)] 127 (0, 0))) : GetAt M r d e0 zs w0 (i + 1) w2 := by
  obtain ⟨a, b, c⟩ := h
  refine ⟨(a.trans h1 (by simp)).trans h2 (by simp), ?_, ?_⟩
  · obtain ⟨v, g1, g2, g3, g4⟩ := h1'
    have hne := g3.ne hd (by decide)
    have hr : r ≠ d := by
      intro e
      subst e
      rw [g1] at hd
      simp at hd
    exact ⟨v, h2.heap g1 (by simpa using hr), g2.keep h2 (fun g hg => by simpa using hne g hg), g3.keep h2 (fun g hg => by simpa using hne g hg), g4⟩
  · rw [hz2, num_snoc]
    have e : (zs.take i).length = i := by simp; omega
    rw [e]
    exact h2'

set_option maxHeartbeats 1000000 in
theorem carry_get (r d n : Nat) (e0 : Int) (zs : List Int) (w : World) (hn : n ≤ 8) (hnz : n ≤ zs.length) (hz : zs.length ≤ 140737488355328) (hwf : Wf zs) (h : GetAt M r d e0 zs w 0 w) :
    Calls Try.prog 88 #[.int .i64 n, .func (Fn.func 89) #[.pointer (some ⟨r, 0, none⟩)] #[], .func (Fn.func 90) #[.pointer (some ⟨d, 0, none⟩)] #[]] w
      fun x w' => x = .returned (.tuple #[]) ∧ GetAt M r d e0 zs w n w' := by
  have H := Lib.hid h; clear h
  go_enter Try.func88, Try.ntmps88
  go_wp2
  refine wp_scope_head 0 (fun a' w' => ∃ (i : Nat) (u6 u7 u8 u9 u10 u11 u12 u13 : Value), i ≤ n ∧ a' = { tmps := #[.int .i64 ((n - i : Nat) : Int), .func (Fn.func 89) #[.pointer (some ⟨r, 0, none⟩)] #[], .func (Fn.func 90) #[.pointer (some ⟨d, 0, none⟩)] #[], undef, undef, undef, u6, u7, u8, u9, u10, u11, u12, u13], defers := [] } ∧ GetAt M r d e0 zs w i w') (fun a' _ => (intOf (a'.tmps.getD 0 undef)).toNat) rfl ⟨0, _, _, _, _, _, _, _, _, by omega, rfl, H.out⟩ ?_
  rintro a' wi ⟨i, u6, u7, u8, u9, u10, u11, u12, u13, hin, rfl, hi⟩
  have HI := Lib.hid hi; clear hi
  by_cases h0 : n - i = 0
  · have hb : (((n - i : Nat) : Int) == 0) = true := by simpa using h0
    have hb2 := Lib.hid (show i = n by omega)
    clear h0
    go_wp2
    simp only [Exit.jump]
    refine bodyPost_ret (results_none rfl _ _ _) rfl ?_
    exact ⟨rfl, by have := HI.out; rw [hb2.out] at this; exact this⟩
  · have hb : (((n - i : Nat) : Int) == 0) = false := by simpa using h0
    have hp : i < zs.length := by omega
    have hpi : i + 1 ≤ n := by omega
    have hge : 1 ≤ n - i := by omega
    clear h0
    obtain ⟨z, q1, q2, q3⟩ := drop_cons hp
    have hw := Lib.hid (hwf z q3)
    have hdl : (zs.drop (i + 1)).length ≤ 140737488355328 := by simp; omega
    have Q1 := Lib.hid q1; have Q2 := Lib.hid q2; clear q1 q2
    have hlen : (zs.take i).length = i := by simp; omega
    have hnb := num_bound _ (hwf.take i)
    rw [hlen] at hnb
    have hnb := Lib.hid hnb
    have hlen := Lib.hid hlen
    have hrd : r ≠ d := by
      intro e
      obtain ⟨_, ⟨v, g1, _⟩, g3⟩ := HI.out
      rw [e, g3] at g1
      simp at g1
    have hrd := Lib.hid hrd
    go_wp2_with fail
    refine (step_any r z e0 (zs.drop (i + 1)) _ hdl (by rw [← Q1.out]; exact HI.out.2.1)).mono ?_
    rintro x w1 ⟨rfl, g1, g2⟩
    have hd1 := Lib.hid (g1.heap HI.out.2.2 (by simpa using hrd.out.symm))
    go_wp2_with fail
    refine (dpush_any d _ z (8 * i) _ (by omega) hnb.out.1 hnb.out.2 hw.out.1 hw.out.2 hd1.out).mono ?_
    rintro x w2 ⟨rfl, g3, g4⟩
    have hfin := Lib.hid (HI.out.next hp Q1.out Q2.out g1 g2 g3 g4 hd1.out)
    clear g1 g2 g3 g4 hd1
    have hmi : ((n - i : Nat) : Int) - 1 = ((n - (i + 1) : Nat) : Int) := by omega
    have hmi := Lib.hid hmi
    go_wp2
    go_step3
    exact ⟨rfl, ⟨i + 1, _, _, _, _, _, _, _, _, hpi, rfl, hfin.out⟩, by simp [intOf]; omega⟩

/-- A Reader gave its first k bytes as a number. -/
theorem width_nat (n : Int) : ∃ k : Nat, widthOf n = (k : Int) ∧ k ≤ 8 := by
  unfold widthOf
  by_cases h : n < 0 ∨ 8 < n
  · exact ⟨0, by rw [if_pos h]; rfl, by omega⟩
  · exact ⟨n.toNat, by rw [if_neg h]; omega, by omega⟩

set_option maxHeartbeats 400000 in
theorem get_yes (r : Nat) (n e0 : Int) (k : Nat) (w : World) (zs : List Int) (hz : zs.length ≤ 140737488355328) (hwf : Wf zs) (h : Rd w r zs e0 M) (hk : widthOf n = (k : Int)) (hn : k ≤ zs.length) :
    Calls Try.prog 75 #[.pointer (some ⟨r, 0, none⟩), .int .i64 n] w fun x w' => x = .returned (.int .u64 (num (zs.take k))) ∧ Chg [r] w w' ∧ Rd w' r (zs.drop k) e0 M := by
  have H := Lib.hid h; clear h
  have hk8 : k ≤ 8 := by
    obtain ⟨k', e, h⟩ := width_nat n
    rw [hk] at e; omega
  have HK := Lib.hid hk; clear hk
  have hlt := H.out.lt
  have hg0 : GetAt M r w.heap.size e0 zs (w.alloc (.cells #[.int .u64 0, .int .i64 0] 127)) 0 (w.alloc (.cells #[.int .u64 0, .int .i64 0] 127)) :=
    ⟨Chg.refl _ _, H.out.keep0 ((Chg.refl _ _).alloc _), heap_alloc_new w _⟩
  have HG := Lib.hid hg0; clear hg0
  go_enter Try.func75, Try.ntmps75
  go_wp2_with fail
  refine (width_any n _).mono ?_
  rintro x w1 ⟨rfl, rfl⟩
  rw [HK.out]
  go_wp2_with fail
  refine (has_yes r _ e0 _ _ hz H.out (by omega)).mono ?_
  rintro x w1 ⟨rfl, rfl⟩
  go_wp2_with fail
  refine (carry_get r w.heap.size k e0 zs _ hk8 hn hz hwf HG.out).mono ?_
  rintro x w1 ⟨rfl, g1, g2, g3⟩
  obtain ⟨c0, c1, f0, f1⟩ := cells2 g3
  have hc : Chg [r] w w1 := ((Chg.refl [r] w).alloc _).trans g1 (by simp)
  have HC := Lib.hid hc
  clear hc g1 g3
  go_wp2
  go_ret
  exact ⟨rfl, HC.out, g2⟩

set_option maxHeartbeats 400000 in
theorem get_no (r : Nat) (n e0 : Int) (w : World) (zs : List Int) (hz : zs.length ≤ 140737488355328) (h : Rd w r zs e0 M) (he : e0 ≠ 0 → zs = []) (hn : zs.length < widthOf n) :
    Calls Try.prog 75 #[.pointer (some ⟨r, 0, none⟩), .int .i64 n] w fun x w' => x = .returned (.int .u64 0) ∧ Cut r e0 M w w' := by
  have H := Lib.hid h; clear h
  have HE := Lib.hid he; clear he
  go_enter Try.func75, Try.ntmps75
  go_wp2_with fail
  refine (width_any n _).mono ?_
  rintro x w1 ⟨rfl, rfl⟩
  go_wp2_with fail
  refine (has_no r _ e0 _ _ hz H.out HE.out hn).mono ?_
  rintro x w1 ⟨rfl, g1⟩
  go_wp2
  go_ret
  exact ⟨rfl, g1⟩

end
end Go.Proofs.Ytkbfbiklnjldgaa

namespace Go.Proofs.Ytkbfbiklnjldgaa
open Go.RowKit
set_option linter.unusedVariables false

/-- The lowest n bytes of a number. -/
def low : Nat → Int → List Int
  | 0, _ => []
  | n + 1, v => v % 256 :: low n (v / 256)

theorem low_length : ∀ (n : Nat) (v : Int), (low n v).length = n
  | 0, _ => rfl
  | n + 1, v => by simp [low, low_length n]

theorem low_snoc : ∀ (n : Nat) (v : Int), low (n + 1) v = low n v ++ [v / 256 ^ n % 256]
  | 0, v => by simp [low]
  | n + 1, v => by
    rw [low, low_snoc n (v / 256), low]
    have e : v / 256 / 256 ^ n = v / 256 ^ (n + 1) := by
      rw [Int.ediv_ediv_of_nonneg (by omega), Int.pow_succ, Int.mul_comm]
    simp [e]

theorem low_wf : ∀ (n : Nat) (v : Int), Wf (low n v)
  | 0, _ => by simp [low, Wf]
  | n + 1, v => by
    intro z hz
    simp only [low, List.mem_cons] at hz
    rcases hz with rfl | hz
    · omega
    · exact low_wf n _ z hz

/-- Where carry stands when it has put i bytes of a number behind the list that l holds. -/
def PutAt (B l d : Nat) (v : Int) (xs : List Int) (w0 : World) (i : Nat) (w : World) : Prop :=
  Below B w0 w ∧ w0.heap.size ≤ w.heap.size ∧ w.heap[d]? = some (.cells #[.int .u64 (v / 256 ^ i), .int .i64 0] 127 (0, 0)) ∧
    ∃ sv, w.heap[l]? = some (.cells #[sv] 133 (0, 0)) ∧ w.ownsRow B 5 1 sv (xs.length + i) (bys (xs ++ low i v))

theorem PutAt.next {B l d : Nat} {v : Int} {xs : List Int} {w0 w w1 w2 : World} {i : Nat} {sv : Value} (h : PutAt B l d v xs w0 i w) (hl : w.heap[l]? = some (.cells #[sv] 133 (0, 0))) (hown : w.ownsRow B 5 1 sv (xs.length + i) (bys (xs ++ low i v)))
    (hB : B ≤ l) (hBd : B ≤ d) (h1 : Chg [d] w w1) (h1d : w1.heap[d]? = some (.cells #[.int .u64 (v / 256 ^ i / 256), .int .i64 0] 127 (0, 0))) (hlen : (bys (xs ++ low i v)).length = xs.length + i)
    (h2 : Added B l sv (bys (xs ++ low i v)) (v / 256 ^ i % 256) w1 w2) : PutAt B l d v xs w0 (i + 1) w2 := by
  obtain ⟨a, a2, b, _⟩ := h
  obtain ⟨sv', c1, c2, c3⟩ := h2
  have hBw : B ≤ w.heap.size := by have := Go.lt_of_block hl; omega
  have hge := own_ge hown
  have hne := (tagged_of_own hown).ne b (by decide)
  have hld : l ≠ d := by
    intro e
    subst e
    rw [hl] at b
    simp at b
  have hb1 : Below B w w1 := h1.below hBw (by simpa using hBd)
  have hb2 : Below B w1 w2 := c1.below (Nat.le_trans hBw h1.size) (by
    intro k hk
    simp at hk
    rcases hk with rfl | hk
    · exact hB
    · exact hge k hk)
  refine ⟨(a.trans hb1).trans hb2, Nat.le_trans a2 (Nat.le_trans h1.size c1.size), ?_, sv', c2, ?_⟩
  · have e : v / 256 ^ i / 256 = v / 256 ^ (i + 1) := by rw [Int.ediv_ediv_of_nonneg (Int.le_of_lt (Int.pow_pos (by decide))), Int.pow_succ]
    rw [← e]
    refine c1.heap h1d ?_
    simp
    exact ⟨fun e => hld e.symm, fun hk => hne d hk rfl⟩
  · have e : bys (xs ++ low (i + 1) v) = bys (xs ++ low i v) ++ [.int .u8 (v / 256 ^ i % 256)] := by simp [bys, low_snoc]
    rw [e]
    rw [hlen] at c3
    exact c3

set_option maxHeartbeats 1000000 in
theorem carry_put (B l d n : Nat) (v : Int) (xs : List Int) (w : World) (hn : n ≤ 8) (hv0 : 0 ≤ v) (hv1 : v ≤ 18446744073709551615) (hz : xs.length < 70368744177000) (hB : B ≤ l) (hBd : B ≤ d) (h : PutAt B l d v xs w 0 w) :
    Calls Try.prog 88 #[.int .i64 n, .func (Fn.func 93) #[.pointer (some ⟨d, 0, none⟩)] #[], .func (Fn.func 94) #[.pointer (some ⟨l, 0, none⟩)] #[]] w
      fun x w' => x = .returned (.tuple #[]) ∧ PutAt B l d v xs w n w' := by
  have H := Lib.hid h; clear h
  go_enter Try.func88, Try.ntmps88
  go_wp2
  refine wp_scope_head 0 (fun a' w' => ∃ (i : Nat) (u6 u7 u8 u9 u10 u11 u12 u13 : Value), i ≤ n ∧ a' = { tmps := #[.int .i64 ((n - i : Nat) : Int), .func (Fn.func 93) #[.pointer (some ⟨d, 0, none⟩)] #[], .func (Fn.func 94) #[.pointer (some ⟨l, 0, none⟩)] #[], undef, undef, undef, u6, u7, u8, u9, u10, u11, u12, u13], defers := [] } ∧ PutAt B l d v xs w i w') (fun a' _ => (intOf (a'.tmps.getD 0 undef)).toNat) rfl ⟨0, _, _, _, _, _, _, _, _, by omega, rfl, H.out⟩ ?_
  rintro a' wi ⟨i, u6, u7, u8, u9, u10, u11, u12, u13, hin, rfl, hi⟩
  have HI := Lib.hid hi; clear hi
  by_cases h0 : n - i = 0
  · have hb : (((n - i : Nat) : Int) == 0) = true := by simpa using h0
    have hb2 := Lib.hid (show i = n by omega)
    clear h0
    go_wp2
    simp only [Exit.jump]
    refine bodyPost_ret (results_none rfl _ _ _) rfl ?_
    exact ⟨rfl, by have := HI.out; rw [hb2.out] at this; exact this⟩
  · have hb : (((n - i : Nat) : Int) == 0) = false := by simpa using h0
    have hpi : i + 1 ≤ n := by omega
    have hge : 1 ≤ n - i := by omega
    clear h0
    have hlen : (bys (xs ++ low i v)).length = xs.length + i := by simp [low_length]
    have hl8 : (bys (xs ++ low i v)).length < 70368744177664 := by omega
    have hlen := Lib.hid hlen
    obtain ⟨sv, hl, hown⟩ := HI.out.2.2.2
    have hpos : (0 : Int) < 256 ^ i := Int.pow_pos (by decide)
    have hvi0 : 0 ≤ v / 256 ^ i := Int.ediv_nonneg hv0 (by omega)
    have hvi1 : v / 256 ^ i ≤ 18446744073709551615 := Int.le_trans (Int.ediv_le_self _ hv0) hv1
    have hBw : B ≤ wi.heap.size := by have := Go.lt_of_block hl; omega
    have hne := (tagged_of_own hown).ne HI.out.2.2.1 (by decide)
    have hld : l ≠ d := by
      intro e
      have b := HI.out.2.2.1
      rw [← e, hl] at b
      simp at b
    have HL := Lib.hid hl; have HO := Lib.hid hown; clear hl hown hpos
    have HLD := Lib.hid hld
    clear hld
    go_wp2_with fail
    refine (pop_any d _ _ _ hvi0 hvi1 HI.out.2.2.1).mono ?_
    rintro x w1 ⟨rfl, g1, g2⟩
    have hl1 := Lib.hid (g1.heap HL.out (by simpa using HLD.out))
    have ho1 : w1.ownsRow B 5 1 sv (xs.length + i) (bys (xs ++ low i v)) := HO.out.kept g1.toGrown (by
      rcases ho : sv.ownBlock with _ | k
      · simp
      · right; intro e; injection e with e; exact hne k ho e)
    have hB1 : B ≤ w1.heap.size := Nat.le_trans hBw g1.size
    rw [← hlen.out] at ho1
    have HO1 := Lib.hid ho1; clear ho1
    go_wp2_with fail
    refine (add_any B l sv (bys (xs ++ low i v)) _ _ hB1 hl8 hl1.out HO1.out).mono ?_
    rintro x w2 ⟨rfl, g3⟩
    have hfin := Lib.hid (HI.out.next HL.out HO.out hB hBd g1 g2 hlen.out g3)
    clear g1 g2 g3 hl1 hB1
    have hmi : ((n - i : Nat) : Int) - 1 = ((n - (i + 1) : Nat) : Int) := by omega
    clear hvi0 hvi1
    go_wp2
    go_step3
    exact ⟨rfl, ⟨i + 1, _, _, _, _, _, _, _, _, hpi, rfl, hfin.out⟩, by simp [intOf]; omega⟩


/-- What Put answers: the list xs with the lowest k bytes of v behind it, in memory of its own. -/
def CPutOut (xs : List Int) (k : Nat) (v : Int) (w : World) (x : Ending) (w' : World) : Prop :=
  ∃ sv, x = .returned sv ∧ Chg [] w w' ∧ w'.ownsRow w.heap.size 5 1 sv (xs.length + k) (bys (xs ++ low k v))

set_option maxHeartbeats 1000000 in
theorem cput_any (bv : Value) (xs : List Int) (n v : Int) (k : Nat) (w : World) (hv0 : 0 ≤ v) (hv1 : v ≤ 18446744073709551615) (hz : xs.length < 70368744177000) (hk : widthOf n = (k : Int)) (h : Seen w bv (bys xs)) :
    Calls Try.prog 85 #[bv, .int .i64 n, .int .u64 v] w fun x w' => CPutOut xs k v w x w' := by
  obtain ⟨i0, hi, hz0, hz1, hz2⟩ := info_u8
  have hone := Lib.hid (bys_one xs)
  have hk8 : k ≤ 8 := by
    obtain ⟨k', e, h⟩ := width_nat n
    rw [hk] at e; omega
  have HK := Lib.hid hk; clear hk
  have hm : xs.length + k ≤ maxLen := by unfold maxLen; omega
  have hm0 : 0 + (bys xs).length ≤ maxLen := by rw [bys_length]; omega
  obtain ⟨ao, cap, rfl, hc1, hc2⟩ := h.shape
  rw [bys_length] at h hc1
  have HR := Lib.hid h
  clear h
  go_enter Try.func85, Try.ntmps85
  go_wp2_with fail
  refine (width_any n _).mono ?_
  rintro x w1 ⟨rfl, rfl⟩
  rw [HK.out]
  go_wp2_with (at_make; refine wpList_make_own _ rfl _ _ 133 rfl w.heap.size 5 i0 (.int .u8 0) 1 Try.underlying133 hi hz0 hz1 .i64 .i64 _ (xs.length + k) rfl rfl ?c1 ?c2 ?c3 (Nat.le_refl _) ?_)
  case c1 => simp
  case c2 => rw [hz2]; omega
  case c3 => exact hm
  intro w1 hown1 hg1
  have hc1' := Lib.hid ((Chg.refl [] w).grown hg1 (by simp))
  have HR1 := Lib.hid (HR.out.keep hc1'.out)
  have HO1 := Lib.hid hown1
  have hb1 := hc1'.out.size
  clear hown1 hg1
  go_wp2_with (at_builtin; refine wpList_append_reads _ rfl _ _ 133 30 rfl w.heap.size 5 5 i0 (.int .u8 0) 1 Try.underlying133 Try.underlying30 hi hz0 hz1 hz2 rfl _ _ _ rfl HO1.out _ (bys xs) rfl HR1.out hone.out ?c4 ?c5 hb1 ?_)
  case c4 => exact hm0
  case c5 => simp; omega
  intro v' w2 hown2 hg2
  have hc2' := Lib.hid (hc1'.out.grown hg2 (fun k hk => .inr (by simp [Value.ownBlock] at hk; omega)))
  obtain ⟨ao', cap', hv⟩ := own_shape hown2
  have HO2 := Lib.hid hown2; clear hown2 hg2
  rw [hv]
  have HV := Lib.hid hv; clear hv
  have hb2 := hc2'.out.size
  have hst : PutAt w.heap.size w2.heap.size (w2.heap.size + 1) v xs ((w2.alloc (.cells #[v'] 133)).alloc (.cells #[.int .u64 v, .int .i64 0] 127)) 0 ((w2.alloc (.cells #[v'] 133)).alloc (.cells #[.int .u64 v, .int .i64 0] 127)) := by
    refine ⟨Below.refl _ _, Nat.le_refl _, ?_, v', heap_alloc2_old _ _ _, ?_⟩
    · have := heap_alloc2_new w2 (.cells #[v'] 133) (.cells #[.int .u64 v, .int .i64 0] 127)
      simpa using this
    · have := (HO2.out.alloc (.cells #[v'] 133)).alloc (.cells #[.int .u64 v, .int .i64 0] 127)
      simpa [low] using this
  rw [HV.out] at hst
  have HST := Lib.hid hst; clear hst
  go_wp2_with fail
  refine (carry_put w.heap.size w2.heap.size (w2.heap.size + 1) k v xs _ hk8 hv0 hv1 hz hb2 (by omega) HST.out).mono ?_
  rintro x w3 ⟨rfl, g1, g2, g3, sv, g4, g5⟩
  have c0 := Go.cell_of_one g4
  have hC : Chg [] w w3 := by
    have a := (hc2'.out.alloc (.cells #[.slice ao' xs.length cap'] 133)).alloc (.cells #[.int .u64 v, .int .i64 0] 127)
    exact ⟨g1.os.trans a.os, g1.tape.trans a.tape, g1.output.trans a.output, Nat.le_trans a.size g1.size, fun j hj hn => (g1.block j hj).trans (a.block j hj hn)⟩
  have HC := Lib.hid hC
  have H5 := Lib.hid g5
  clear hC g1 g2 g3 g4 g5
  go_wp2
  go_ret
  exact ⟨sv, rfl, HC.out, H5.out⟩

/-! ### the statements' own example -/

end Go.Proofs.Ytkbfbiklnjldgaa

namespace Go.Proofs.Ytkbfbiklnjldgaa
open Go.RowKit
set_option linter.unusedVariables false

section
variable {M : Nat}

/-- A Reader gave its first k bytes, in memory of their own. -/
def Taken (M r k : Nat) (e0 : Int) (zs : List Int) (w : World) (x : Ending) (w' : World) : Prop :=
  ∃ v, x = .returned v ∧ Chg [r] w w' ∧ Rd w' r (zs.drop k) e0 M ∧ w'.ownsRow w.heap.size 5 1 v k (bys (zs.take k))

theorem Reads.front {w : World} {g off cap k : Nat} {zs : List Int} (h : Reads w (.slice (some ⟨g, off, none⟩) zs.length cap) (bys zs)) (hk : k ≤ zs.length) : Reads w (.slice (some ⟨g, off, none⟩) k cap) (bys (zs.take k)) := by
  have := (h.sliced 0 k (Nat.zero_le _) hk).1
  have e : List.drop 0 (List.take k (bys zs)) = bys (zs.take k) := by simp [bys]
  rw [e] at this
  simpa [Go.sliced, Addr.add] using this

set_option maxHeartbeats 1000000 in
theorem rtake_zero (r : Nat) (e0 : Int) (w : World) (zs : List Int) (hz : zs.length ≤ 140737488355328) (h : Rd w r zs e0 M) (n : Int) (hn : n ≤ 0) :
    Calls Try.prog 51 #[.pointer (some ⟨r, 0, none⟩), .int .i64 n] w fun x w' => Taken M r 0 e0 zs w x w' := by
  obtain ⟨i0, hi, hz0, hz1, hz2⟩ := info_u8
  have H := Lib.hid h
  obtain ⟨v, h1, h2, h3, h4⟩ := h
  have hone := Lib.hid (bys_one (zs.take 0))
  obtain ⟨c0, c1, f0, f1⟩ := cells2 h1
  have hrlt := Go.lt_of_block h1
  have h20 := h2
  rcases h2 with ⟨rfl, he⟩ | ⟨g, off, cap, rfl, hl, hm, hcell⟩
  · have hz0 : zs = [] := by simpa [bys] using he
    subst hz0
    clear he h20 h3 h4
    have H1 := Lib.hid h1; clear h1
    rcases Int.lt_or_eq_of_le hn with hn | rfl
    · skip
      go_enter Try.func51, Try.ntmps51
      go_wp2_with fail
      refine (has_yes r _ e0 _ _ hz H.out (by simp)).mono ?_
      rintro x w1 ⟨rfl, rfl⟩
      go_wp2
      go_ret
      exact ⟨_, rfl, (Chg.refl _ _).setCell (by simp) _, Rd.setRest H1.out (Reads.nil _) (tagged_nil _ _) (by simp [Value.ownBlock]), World.ownsRow_nil _ _ _ _⟩
    · skip
      go_enter Try.func51, Try.ntmps51
      go_wp2_with fail
      refine (has_yes r _ e0 _ _ hz H.out (by simp)).mono ?_
      rintro x w1 ⟨rfl, rfl⟩
      go_wp2
      go_ret
      exact ⟨_, rfl, (Chg.refl _ _).setCell (by simp) _, Rd.setRest H1.out (Reads.nil _) (tagged_nil _ _) (by simp [Value.ownBlock]), World.ownsRow_nil _ _ _ _⟩
  · skip
    rw [bys_length] at c0 hl h20 h3 h4 h1
    have hlm : 0 ≤ maxLen := by unfold maxLen; omega
    have hfr := Lib.hid (Reads.front (k := 0) h20 (by omega)).seen
    clear hcell
    have H1 := Lib.hid h1; clear h1
    have H20 := Lib.hid h20; clear h20
    have H3 := Lib.hid h3; clear h3
    have H4 := Lib.hid h4; clear h4
    have hlen0 : (bys (zs.take 0)).length = 0 := by simp; try omega
    have hlen := Lib.hid hlen0; clear hlen0
    rcases Int.lt_or_eq_of_le hn with hn | rfl
    · skip
      go_enter Try.func51, Try.ntmps51
      go_wp2_with fail
      refine (has_yes r _ e0 _ _ hz H.out (by omega)).mono ?_
      rintro x w1 ⟨rfl, rfl⟩
      go_wp2_with (at_builtin; refine wpList_append_reads _ rfl _ _ 30 30 rfl w.heap.size 5 5 i0 (.int .u8 0) 1 Try.underlying30 Try.underlying30 hi hz0 hz1 hz2 rfl _ _ _ rfl (World.ownsRow_nil _ _ _ _) _ (bys (zs.take 0)) rfl hfr.out hone.out ?c1 ?c2 (Nat.le_refl _) ?_)
      case c1 => rw [hlen.out]; omega
      case c2 => rw [hlen.out]; omega
      intro v' w1 hown0 hgrow
      have hown : w1.ownsRow w.heap.size 5 1 v' 0 (bys (zs.take 0)) := by have e := hlen.out; rw [bys_length] at e; simpa [e] using hown0
      clear hown0
      have hc := Lib.hid ((Chg.refl [] w).grown hgrow (by simp [Value.ownBlock]))
      have H11 := Lib.hid (hc.out.heap H1.out (by simp))
      obtain ⟨d0, d1, k0, k1⟩ := cells2 H11.out
      have HO := Lib.hid hown
      have hR := Lib.hid (H20.out.keep hc.out (by simp))
      have hT := Lib.hid (H3.out.keep hc.out (by simp))
      clear hgrow hown
      obtain ⟨ao', cap', hv⟩ := own_shape HO.out
      rw [hv]
      have HV := Lib.hid hv; clear hv
      go_wp2
      go_ret
      rw [← HV.out]
      have hd := Rd.dropped (k := 0) H11.out hR.out hT.out H4.out rfl (by omega)
      refine ⟨v', rfl, ((hc.out.mono (T := [r]) (by simp)).setCell (by simp) _), ?_, Go.ownsRow_setCell_other HO.out (fun e => tagged_ne1 HO.out H11.out (by decide) e) _⟩
      simpa [Go.sliced, Addr.add] using hd
    · skip
      go_enter Try.func51, Try.ntmps51
      go_wp2_with fail
      refine (has_yes r _ e0 _ _ hz H.out (by omega)).mono ?_
      rintro x w1 ⟨rfl, rfl⟩
      go_wp2_with (at_builtin; refine wpList_append_reads _ rfl _ _ 30 30 rfl w.heap.size 5 5 i0 (.int .u8 0) 1 Try.underlying30 Try.underlying30 hi hz0 hz1 hz2 rfl _ _ _ rfl (World.ownsRow_nil _ _ _ _) _ (bys (zs.take 0)) rfl hfr.out hone.out ?c1 ?c2 (Nat.le_refl _) ?_)
      case c1 => rw [hlen.out]; omega
      case c2 => rw [hlen.out]; omega
      intro v' w1 hown0 hgrow
      have hown : w1.ownsRow w.heap.size 5 1 v' 0 (bys (zs.take 0)) := by have e := hlen.out; rw [bys_length] at e; simpa [e] using hown0
      clear hown0
      have hc := Lib.hid ((Chg.refl [] w).grown hgrow (by simp [Value.ownBlock]))
      have H11 := Lib.hid (hc.out.heap H1.out (by simp))
      obtain ⟨d0, d1, k0, k1⟩ := cells2 H11.out
      have HO := Lib.hid hown
      have hR := Lib.hid (H20.out.keep hc.out (by simp))
      have hT := Lib.hid (H3.out.keep hc.out (by simp))
      clear hgrow hown
      obtain ⟨ao', cap', hv⟩ := own_shape HO.out
      rw [hv]
      have HV := Lib.hid hv; clear hv
      go_wp2
      go_ret
      rw [← HV.out]
      have hd := Rd.dropped (k := 0) H11.out hR.out hT.out H4.out rfl (by omega)
      refine ⟨v', rfl, ((hc.out.mono (T := [r]) (by simp)).setCell (by simp) _), ?_, Go.ownsRow_setCell_other HO.out (fun e => tagged_ne1 HO.out H11.out (by decide) e) _⟩
      simpa [Go.sliced, Addr.add] using hd

set_option maxHeartbeats 1000000 in
theorem rtake_pos (r : Nat) (e0 : Int) (w : World) (zs : List Int) (hz : zs.length ≤ 140737488355328) (h : Rd w r zs e0 M) (k : Nat) (hk1 : 1 ≤ k) (hn : k ≤ zs.length) :
    Calls Try.prog 51 #[.pointer (some ⟨r, 0, none⟩), .int .i64 (k : Int)] w fun x w' => Taken M r k e0 zs w x w' := by
  obtain ⟨i0, hi, hz0, hz1, hz2⟩ := info_u8
  have H := Lib.hid h
  obtain ⟨v, h1, h2, h3, h4⟩ := h
  have hone := Lib.hid (bys_one (zs.take k))
  obtain ⟨c0, c1, f0, f1⟩ := cells2 h1
  have hrlt := Go.lt_of_block h1
  have h20 := h2
  rcases h2 with ⟨rfl, he⟩ | ⟨g, off, cap, rfl, hl, hm, hcell⟩
  · have hz0 : zs = [] := by simpa [bys] using he
    subst hz0
    simp at hn
    omega
  · skip
    rw [bys_length] at c0 hl h20 h3 h4 h1
    have hlm : k ≤ maxLen := by unfold maxLen; omega
    have hfr := Lib.hid (Reads.front (k := k) h20 (by omega)).seen
    clear hcell
    have H1 := Lib.hid h1; clear h1
    have H20 := Lib.hid h20; clear h20
    have H3 := Lib.hid h3; clear h3
    have H4 := Lib.hid h4; clear h4
    have hlen0 : (bys (zs.take k)).length = k := by simp; try omega
    have hlen := Lib.hid hlen0; clear hlen0
    have hk0 : ¬ k = 0 := by omega
    by_cases hcap : cap = k
    · subst hcap
      go_enter Try.func51, Try.ntmps51
      go_wp2_with fail
      refine (has_yes r _ e0 _ _ hz H.out (by omega)).mono ?_
      rintro x w1 ⟨rfl, rfl⟩
      go_wp2_with (at_builtin; refine wpList_append_reads _ rfl _ _ 30 30 rfl w.heap.size 5 5 i0 (.int .u8 0) 1 Try.underlying30 Try.underlying30 hi hz0 hz1 hz2 rfl _ _ _ rfl (World.ownsRow_nil _ _ _ _) _ (bys (zs.take cap)) rfl hfr.out hone.out ?c1 ?c2 (Nat.le_refl _) ?_)
      case c1 => rw [hlen.out]; omega
      case c2 => rw [hlen.out]; omega
      intro v' w1 hown0 hgrow
      have hown : w1.ownsRow w.heap.size 5 1 v' cap (bys (zs.take cap)) := by have e := hlen.out; rw [bys_length] at e; simpa [e] using hown0
      clear hown0
      have hc := Lib.hid ((Chg.refl [] w).grown hgrow (by simp [Value.ownBlock]))
      have H11 := Lib.hid (hc.out.heap H1.out (by simp))
      obtain ⟨d0, d1, k0, k1⟩ := cells2 H11.out
      have HO := Lib.hid hown
      have hR := Lib.hid (H20.out.keep hc.out (by simp))
      have hT := Lib.hid (H3.out.keep hc.out (by simp))
      clear hgrow hown
      obtain ⟨ao', cap', hv⟩ := own_shape HO.out
      rw [hv]
      have HV := Lib.hid hv; clear hv
      go_wp2
      go_ret
      rw [← HV.out]
      have hd := Rd.dropped (k := cap) H11.out hR.out hT.out H4.out rfl (by omega)
      refine ⟨v', rfl, ((hc.out.mono (T := [r]) (by simp)).setCell (by simp) _), ?_, Go.ownsRow_setCell_other HO.out (fun e => tagged_ne1 HO.out H11.out (by decide) e) _⟩
      simpa [Go.sliced, (show zs.length - cap = 0 by omega)] using hd
    · have hcap' := Lib.hid hcap
      go_enter Try.func51, Try.ntmps51
      go_wp2_with fail
      refine (has_yes r _ e0 _ _ hz H.out (by omega)).mono ?_
      rintro x w1 ⟨rfl, rfl⟩
      go_wp2_with (at_builtin; refine wpList_append_reads _ rfl _ _ 30 30 rfl w.heap.size 5 5 i0 (.int .u8 0) 1 Try.underlying30 Try.underlying30 hi hz0 hz1 hz2 rfl _ _ _ rfl (World.ownsRow_nil _ _ _ _) _ (bys (zs.take k)) rfl hfr.out hone.out ?c1 ?c2 (Nat.le_refl _) ?_)
      case c1 => rw [hlen.out]; omega
      case c2 => rw [hlen.out]; omega
      intro v' w1 hown0 hgrow
      have hown : w1.ownsRow w.heap.size 5 1 v' k (bys (zs.take k)) := by have e := hlen.out; rw [bys_length] at e; simpa [e] using hown0
      clear hown0
      have hc := Lib.hid ((Chg.refl [] w).grown hgrow (by simp [Value.ownBlock]))
      have H11 := Lib.hid (hc.out.heap H1.out (by simp))
      obtain ⟨d0, d1, k0, k1⟩ := cells2 H11.out
      have HO := Lib.hid hown
      have hR := Lib.hid (H20.out.keep hc.out (by simp))
      have hT := Lib.hid (H3.out.keep hc.out (by simp))
      clear hgrow hown
      obtain ⟨ao', cap', hv⟩ := own_shape HO.out
      rw [hv]
      have HV := Lib.hid hv; clear hv
      go_wp2
      go_ret
      rw [← HV.out]
      have hd := Rd.dropped (k := k) H11.out hR.out hT.out H4.out rfl (by omega)
      refine ⟨v', rfl, ((hc.out.mono (T := [r]) (by simp)).setCell (by simp) _), ?_, Go.ownsRow_setCell_other HO.out (fun e => tagged_ne1 HO.out H11.out (by decide) e) _⟩
      simpa [Go.sliced, Addr.add, hcap'.out, hk0] using hd

theorem rtake_any (r k : Nat) (n e0 : Int) (w : World) (zs : List Int) (hz : zs.length ≤ 140737488355328) (h : Rd w r zs e0 M) (hk : max n 0 = (k : Int)) (hn : k ≤ zs.length) :
    Calls Try.prog 51 #[.pointer (some ⟨r, 0, none⟩), .int .i64 n] w fun x w' => Taken M r k e0 zs w x w' := by
  rcases Int.lt_or_le 0 n with hp | hp
  · obtain rfl : n = (k : Int) := by omega
    exact rtake_pos r e0 w zs hz h k (by omega) hn
  · obtain rfl : k = 0 := by omega
    exact rtake_zero r e0 w zs hz h n hp

set_option maxHeartbeats 400000 in
theorem take_no (r : Nat) (n e0 : Int) (w : World) (zs : List Int) (hz : zs.length ≤ 140737488355328) (h : Rd w r zs e0 M) (he : e0 ≠ 0 → zs = []) (hn : zs.length < n) :
    Calls Try.prog 51 #[.pointer (some ⟨r, 0, none⟩), .int .i64 n] w fun x w' => x = .returned (.slice none 0 0) ∧ Cut r e0 M w w' := by
  have H := Lib.hid h; clear h
  have HE := Lib.hid he; clear he
  have hp : 0 < n := by omega
  go_enter Try.func51, Try.ntmps51
  go_wp2_with fail
  refine (has_no r n e0 _ _ hz H.out HE.out hn).mono ?_
  rintro x w1 ⟨rfl, g1⟩
  go_wp2
  go_ret
  exact ⟨rfl, g1⟩

end
end Go.Proofs.Ytkbfbiklnjldgaa
