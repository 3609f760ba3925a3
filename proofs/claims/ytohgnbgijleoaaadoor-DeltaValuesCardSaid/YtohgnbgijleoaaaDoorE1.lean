/- Db, Dc: texts of one group, one behind the other. -/
import Derived.Test.YtohgnbgijleoaaaDoorDa
import Derived.Test.YtohgnbgijleoaaaDoorPu
import Derived.Test.YtohgnbgijleoaaaDoorOg
import Derived.Test.YtohgnbgijleoaaaDoorSo
import Derived.Test.YtohgnbgijleoaaaDoorBd
import Derived.Deep.RegionLaw
import Derived.Deep.LoopGhost
import Derived.Test.YtohgnbgijleoaaaDoorBw
import Derived.Test.YtohgnbgijleoaaaDoorPk
import Derived.Test.YtohgnbgijleoaaaDoorMp
namespace Go.Proofs.YtohgnbgijleoaaaDoor
open Go.RowKit
set_option linter.unusedVariables false
set_option linter.unusedSimpArgs false

theorem ic_len (x : Int) : (ic x).length = 1 := rfl
theorem iv_flat (l : List Int) : iv l = l.flatMap ic := by induction l with
  | nil => rfl
  | cons x l ih => rw [List.flatMap_cons, ← ih]; rfl

/-- A row of numbers with a sign of the call's own. -/
theorem ownI_seen {w : World} {B n : Nat} {v : Value} {l : List Int} (h : w.ownsRow B 3 1 v n (iv l)) (hn : l.length = n) : SeenI w v l := by
  rw [iv_flat] at h
  exact SeenK.own ic_len h hn

/-- What a call makes: a row of numbers with a sign. -/
def MadeI (l : List Int) (w : World) (v : Value) (w' : World) : Prop := Chg [] w w' ∧ w'.ownsRow w.heap.size 3 1 v l.length (iv l)

theorem SeenI.nil (w : World) : SeenI w (.slice none 0 0) [] := ⟨none, 0, rfl, Nat.le_refl _, by decide, fun h => absurd h (by simp)⟩

theorem SeenI.sliced {w : World} {ao : Option Addr} {len cap : Nat} {l : List Int} (h : SeenI w (.slice ao len cap) l) (lo hi : Nat) (h1 : lo ≤ hi) (h2 : hi ≤ len) :
    SeenI w (Go.sliced ao lo hi cap 1) ((l.take hi).drop lo) := by
  obtain ⟨ao', cap', he, hc, hm, hx⟩ := h
  injection he with e1 e2 e3
  subst e1 e2 e3
  have hlen : ((l.take hi).drop lo).length = hi - lo := by simp; omega
  unfold Go.sliced
  rw [← hlen]
  refine ⟨_, _, rfl, by rw [hlen]; omega, by omega, fun hp => ?_⟩
  rw [hlen] at hp
  obtain ⟨g, off, rfl, hcell⟩ := hx (by omega)
  refine ⟨g, off + lo * 1, ?_, fun j x i u hj hu => ?_⟩
  · rw [if_neg (by omega)]
    simp only [Option.map_some, addr_add]
  · rw [List.getElem?_drop, List.getElem?_take] at hj
    split at hj
    · have := hcell (lo + j) x i u hj hu
      rw [Nat.add_mul, ← Nat.add_assoc] at this
      exact this
    · cases hj

theorem SeenI.front {w : World} {ao : Option Addr} {n cap : Nat} {l : List Int} (h : SeenI w (.slice ao n cap) l) (m : Nat) (hm : m ≤ n) : SeenI w (.slice ao m cap) (l.take m) := by
  obtain ⟨ao', cap', he, hc, hmx, hx⟩ := h
  injection he with e1 e2 e3
  subst e1 e2 e3
  have hl : (l.take m).length = m := by simp; omega
  refine ⟨ao, cap, by rw [hl], by omega, hmx, fun hp => ?_⟩
  obtain ⟨g, off, e, hcell⟩ := hx (by omega)
  refine ⟨g, off, e, fun j x i u hj hu => hcell j x i u ?_ hu⟩
  rw [List.getElem?_take] at hj
  split at hj
  · exact hj
  · cases hj

theorem elem_int : Tryd.prog.elem 33 = 3 := by kernel_rfl

/-- l[:hi], as a run equation, of numbers with a sign. -/
theorem run_front_z {w : World} {ao : Option Addr} {len cap : Nat} {l : List Int} (h : SeenI w (.slice ao len cap) l) (hc : len ≤ cap) (hi : Nat) (h2 : hi ≤ len) :
    ∃ ao' cap', SeenI w (.slice ao' hi cap') (l.take hi) ∧ ∀ wx, (Instr.slice 33 (.slice ao len cap) none (some (.int .i64 (hi : Int))) none).run Tryd.prog wx = .ok (.slice ao' hi cap') wx := by
  have hs := h.sliced 0 hi (Nat.zero_le _) h2
  rw [List.drop_zero] at hs
  refine ⟨_, _, hs, fun wx => ?_⟩
  obtain ⟨i0, hi0, _, hz1, _⟩ := info_int
  rw [run_slice_h wx 33 ao len cap (by rw [elem_int]; exact Tryd.underlying33) .i64 hi (by omega) (by omega), elem_int]
  simp [sizeOf, typeInfo, hi0, hz1]
  rfl

/-- l[lo:], as a run equation, of numbers with a sign. -/
theorem run_back_z {w : World} {ao : Option Addr} {len cap : Nat} {l : List Int} (h : SeenI w (.slice ao len cap) l) (hl : l.length = len) (hc : len ≤ cap) (lo : Nat) (h2 : lo ≤ len) :
    ∃ ao' cap', SeenI w (.slice ao' (len - lo) cap') (l.drop lo) ∧ ∀ wx, (Instr.slice 33 (.slice ao len cap) (some (.int .i64 (lo : Int))) none none).run Tryd.prog wx = .ok (.slice ao' (len - lo) cap') wx := by
  have hs := h.sliced lo len h2 (Nat.le_refl _)
  rw [show l.take len = l by rw [← hl, List.take_length]] at hs
  refine ⟨_, _, hs, fun wx => ?_⟩
  obtain ⟨i0, hi0, _, hz1, _⟩ := info_int
  rw [run_slice_l wx 33 ao len cap (by rw [elem_int]; exact Tryd.underlying33) .i64 lo (by omega) (by omega), elem_int]
  simp [sizeOf, typeInfo, hi0, hz1, Go.sliced]

theorem zig_int (v : Int) (w : World) (h : In64 v) :
    Calls Tryd.prog 54 #[.int .i64 v] w fun e w' => e = .returned (.int .u64 (zigOf v : Nat)) ∧ w = w' := zig_any v w (wf64_of v h)

set_option maxHeartbeats 1000000 in
theorem dsigned_any (v : Int) (w : World) (h : In64 v) :
    Calls Tryd.prog 27 #[.int .i64 v] w fun e w' => ∃ x, e = .returned x ∧ Made 5 .u8 (vb (zigOf v)) w x w' := by
  have HZ := Lib.hid (zig_int v w h)
  have HP := Lib.hid (put_any (.slice none 0 0) [] (zigOf v) w (Seen.nil w) (by decide) (zig_lt h))
  unfold PutOut at HP
  rw [List.nil_append] at HP
  go_enter Tryd.func27, Tryd.ntmps27
  go_wp2_with (first
    | (go_at_call 54; (with_reducible refine HZ.out.mono ?_); rintro e w2 ⟨rfl, rfl⟩)
    | (go_at_call 53; (with_reducible refine HP.out.mono ?_); rintro e w2 ⟨x, rfl, hm⟩)
    | fail)
  go_ret
  exact ⟨_, rfl, hm⟩

theorem minInt (x y : Int) : (if y < x then y else x) = min x y := by split <;> omega
theorem maxInt (x y : Nat) : (if ((y : Nat) : Int) > ((x : Nat) : Int) then ((y : Nat) : Int) else ((x : Nat) : Int)) = ((max x y : Nat) : Int) := by split <;> omega

theorem mn_step (l : List Int) (k : Nat) (h0 : 0 < k) (hk : k < l.length) : mn (l.take (k + 1)) = min (mn (l.take k)) (l.getD k 0) := by
  have hne : l.take k ≠ [] := fun h => by have := congrArg List.length h; rw [List.length_take] at this; simp only [List.length_nil] at this; omega
  rw [List.take_add_one, List.getElem?_eq_getElem hk]
  show mn (l.take k ++ [l[k]]) = _
  rw [mn_snoc _ hne, List.getD, List.getElem?_eq_getElem hk]
  rfl

theorem mx_step (l : List Nat) (k : Nat) (hk : k < l.length) : mx (l.take (k + 1)) = max (mx (l.take k)) (l.getD k 0) := by
  rw [List.take_add_one, List.getElem?_eq_getElem hk]
  show mx (l.take k ++ [l[k]]) = _
  rw [mx_snoc, List.getD, List.getElem?_eq_getElem hk]
  rfl

theorem mn_one (l : List Int) (h : 0 < l.length) : mn (l.take 1) = l.getD 0 0 := by
  cases l with
  | nil => simp at h
  | cons x r => rfl

theorem mx_one (l : List Nat) (h : 0 < l.length) : mx (l.take 1) = l.getD 0 0 := by
  cases l with
  | nil => simp at h
  | cons x r => show max 0 x = x; omega

set_option maxRecDepth 100000 in
set_option maxHeartbeats 1000000 in
theorem smin_any (lv : Value) (l : List Int) (w : World) (hS : SeenI w lv l) (hl : l ≠ []) :
    Calls Tryd.prog 56 #[lv] w fun e w' => e = .returned (.int .i64 (mn l)) ∧ w = w' := by
  obtain ⟨ao, cap, rfl, hc1, hc2⟩ := hS.shape
  obtain ⟨n, hn⟩ : ∃ n, n = l.length := ⟨_, rfl⟩
  rw [← hn] at hS hc1 ⊢
  have h0 : 0 < n := by rw [hn]; exact List.length_pos_iff.2 hl
  obtain ⟨g, off, rfl, hc⟩ := SeenI.get hS h0 hn.symm
  have HN := Lib.hid hn; have HC := Lib.hid hc
  have q0 := hc 0 h0
  rw [Nat.add_zero] at q0
  have hn1 : decide ((n : Int) < 1) = false := by simp; omega
  have hbig : n ≤ 9223372036854775807 := by unfold maxLen at hc2; omega
  clear hS hn hc hl
  go_enter Tryd.func56, Tryd.ntmps56
  go_wp2
  go_loopg [3, 4] n (fun gh m i wr => ∃ k : Nat, 0 < k ∧ k ≤ n ∧ n - k ≤ gh ∧ i = .int .i64 k ∧ m = .int .i64 (mn (l.take k)) ∧ wr = w)
  case atStart => exact ⟨1, Nat.one_pos, h0, by omega, rfl, by rw [mn_one l (by rw [← HN.out]; exact h0)]; rfl, rfl⟩
  case round =>
    obtain ⟨k, hk0, hk, hg, rfl, rfl, rfl⟩ := hrel
    by_cases hlt : k < n
    · have d1 : decide ((k : Int) < (n : Int)) = true := by simp; omega
      have ck := HC.out k hlt
      have S := Lib.hid (mn_step l k hk0 (by rw [← HN.out]; exact hlt))
      have hmm := minInt
      obtain ⟨a, ha⟩ : ∃ a, a = mn (l.take k) := ⟨_, rfl⟩
      obtain ⟨b, hb⟩ : ∃ b, b = l.getD k 0 := ⟨_, rfl⟩
      rw [← ha, ← hb] at S
      rw [← hb] at ck
      rw [← ha]
      have hrun : ∀ (wx : World) (ts : Array TypeId) (t : TypeId), (Builtin.min_ ts t #[.int .i64 a, .int .i64 b]).run Tryd.prog wx = .ok (.int .i64 (min a b)) wx := fun wx ts t => by rw [run_min_int2, minInt]
      clear ha hb hmm
      go_wp2
      go_roundg (n - (k + 1))
      case measure => omega
      case rel => exact ⟨k + 1, Nat.succ_pos k, by omega, Nat.le_refl _, by go_num, by rw [S.out], rfl⟩
    · have d1 : decide ((k : Int) < (n : Int)) = false := by simp; omega
      obtain rfl : k = n := by omega
      go_wp2
      go_ret
      exact ⟨by rw [show l.take k = l by rw [HN.out, List.take_length]]; rfl, rfl⟩

set_option maxRecDepth 100000 in
set_option maxHeartbeats 1000000 in
theorem smax_any (lv : Value) (l : List Nat) (w : World) (hS : Seen w lv (nv .u64 l)) (hl : l ≠ []) :
    Calls Tryd.prog 58 #[lv] w fun e w' => e = .returned (.int .u64 ((mx l : Nat) : Int)) ∧ w = w' := by
  obtain ⟨ao, cap, rfl, hc1, hc2⟩ := hS.shape
  rw [nv_length] at hc1 hS ⊢
  obtain ⟨n, hn⟩ : ∃ n, n = l.length := ⟨_, rfl⟩
  rw [← hn] at hS hc1 ⊢
  have h0 : 0 < n := by rw [hn]; exact List.length_pos_iff.2 hl
  obtain ⟨g, off, rfl, hc⟩ := hS.at0 hn.symm h0
  have HN := Lib.hid hn; have HC := Lib.hid hc
  have q0 := hc 0 h0
  rw [Nat.add_zero] at q0
  have hn1 : decide ((n : Int) < 1) = false := by simp; omega
  have hbig : n ≤ 9223372036854775807 := by unfold maxLen at hc2; omega
  clear hS hn hc hl
  go_enter Tryd.func58, Tryd.ntmps58
  go_wp2
  go_loopg [3, 4] n (fun gh m i wr => ∃ k : Nat, 0 < k ∧ k ≤ n ∧ n - k ≤ gh ∧ i = .int .i64 k ∧ m = .int .u64 ((mx (l.take k) : Nat) : Int) ∧ wr = w)
  case atStart => exact ⟨1, Nat.one_pos, h0, by omega, rfl, by rw [mx_one l (by rw [← HN.out]; exact h0)]; rfl, rfl⟩
  case round =>
    obtain ⟨k, hk0, hk, hg, rfl, rfl, rfl⟩ := hrel
    by_cases hlt : k < n
    · have d1 : decide ((k : Int) < (n : Int)) = true := by simp; omega
      have ck := HC.out k hlt
      have S := Lib.hid (mx_step l k (by rw [← HN.out]; exact hlt))
      obtain ⟨a, ha⟩ : ∃ a, a = mx (l.take k) := ⟨_, rfl⟩
      obtain ⟨b, hb⟩ : ∃ b, b = l.getD k 0 := ⟨_, rfl⟩
      rw [← ha, ← hb] at S
      rw [← hb] at ck
      rw [← ha]
      have hrun : ∀ (wx : World) (ts : Array TypeId) (t : TypeId), (Builtin.max_ ts t #[.int .u64 (a : Int), .int .u64 (b : Int)]).run Tryd.prog wx = .ok (.int .u64 ((max a b : Nat) : Int)) wx := fun wx ts t => by rw [run_max_int2, maxInt]
      clear ha hb
      go_wp2
      go_roundg (n - (k + 1))
      case measure => omega
      case rel => exact ⟨k + 1, Nat.succ_pos k, by omega, Nat.le_refl _, by go_num, by rw [S.out], rfl⟩
    · have d1 : decide ((k : Int) < (n : Int)) = false := by simp; omega
      obtain rfl : k = n := by omega
      go_wp2
      go_ret
      exact ⟨by rw [show l.take k = l by rw [HN.out, List.take_length]]; rfl, rfl⟩

end Go.Proofs.YtohgnbgijleoaaaDoor

namespace Go.Proofs.YtohgnbgijleoaaaDoor
open Go.RowKit
set_option linter.unusedVariables false
set_option linter.unusedSimpArgs false

/-- A row that is filled as far as j. -/
def fillI (d : List Int) (j : Nat) : List Int := d.take j ++ List.replicate (d.length - j) 0
theorem fillI_len (d : List Int) (j : Nat) (h : j ≤ d.length) : (fillI d j).length = d.length := by unfold fillI; simp; omega
theorem fillI_all (d : List Int) : fillI d d.length = d := by unfold fillI; simp
theorem fillI_set (d : List Int) (j : Nat) (h : j < d.length) : (iv (fillI d j)).set j (.int .i64 (d.getD j 0)) = iv (fillI d (j + 1)) := by
  have e : d.length - j = (d.length - (j + 1)) + 1 := by omega
  have hl : (d.take j).length = j := by simp; omega
  have h1 : fillI d j = d.take j ++ (0 :: List.replicate (d.length - (j + 1)) 0) := by unfold fillI; rw [e, List.replicate_succ]
  have h2 : fillI d (j + 1) = d.take j ++ (d.getD j 0 :: List.replicate (d.length - (j + 1)) 0) := by
    unfold fillI
    rw [List.take_add_one, List.getElem?_eq_getElem h, List.append_assoc]
    simp [List.getD, h]
  rw [h1, h2]
  unfold iv
  rw [← List.map_set, List.set_append_right _ _ (by omega), hl, Nat.sub_self]
  rfl

theorem fillI_at (d : List Int) (j : Nat) (h : j < d.length) : (iv (fillI d j))[j]? = some (.int .i64 0) := by
  have e : d.length - j = (d.length - (j + 1)) + 1 := by omega
  have hl : (d.take j).length = j := by simp; omega
  have h1 : fillI d j = d.take j ++ (0 :: List.replicate (d.length - (j + 1)) 0) := by unfold fillI; rw [e, List.replicate_succ]
  rw [h1]
  unfold iv
  rw [List.getElem?_map, List.getElem?_append_right (by omega), hl, Nat.sub_self]
  rfl

theorem nv_fill_at (k : IntKind) (d : List Nat) (j : Nat) (h : j < d.length) : (nv k (d.take j ++ List.replicate (d.length - j) 0))[j]? = some (.int k 0) := by
  have e : d.length - j = (d.length - (j + 1)) + 1 := by omega
  have hl : (d.take j).length = j := by simp; omega
  rw [e, List.replicate_succ]
  unfold nv
  rw [List.getElem?_map, List.getElem?_append_right (by omega), hl, Nat.sub_self]
  rfl

theorem nv_fill_set (k : IntKind) (d : List Nat) (j : Nat) (h : j < d.length) : (nv k (d.take j ++ List.replicate (d.length - j) 0)).set j (.int k ((d.getD j 0 : Nat) : Int)) = nv k (d.take (j + 1) ++ List.replicate (d.length - (j + 1)) 0) := by
  have e : d.length - j = (d.length - (j + 1)) + 1 := by omega
  have hl : (d.take j).length = j := by simp; omega
  have h2 : d.take (j + 1) ++ List.replicate (d.length - (j + 1)) 0 = d.take j ++ (d.getD j 0 :: List.replicate (d.length - (j + 1)) 0) := by
    rw [List.take_add_one, List.getElem?_eq_getElem h, List.append_assoc]
    simp [List.getD, h]
  rw [h2, e, List.replicate_succ, nv_set, List.set_append_right _ _ (by omega), hl, Nat.sub_self]
  rfl

theorem cells_zeroI (n : Nat) : (madeCells #[Value.int .i64 0] n).toList = iv (List.replicate n 0) := by
  apply List.ext_getElem?
  intro i
  simp [madeCells, iv, List.getElem?_replicate, Nat.mod_one]
  split <;> simp_all
theorem cells_zeroU (n : Nat) : (madeCells #[Value.int .u64 0] n).toList = nv .u64 (List.replicate n 0) := by
  apply List.ext_getElem?
  intro i
  simp [madeCells, nv, List.getElem?_replicate, Nat.mod_one]
  split <;> simp_all

set_option maxRecDepth 100000 in
set_option maxHeartbeats 2000000 in
theorem differences_any (lv : Value) (l : List Int) (w : World) (hS : SeenI w lv l) (hl : l ≠ []) (hm : l.length ≤ 1000000) :
    Calls Tryd.prog 55 #[lv] w fun e w' => ∃ x, e = .returned x ∧ MadeI (difs l) w x w' := by
  obtain ⟨i0, hi, hz0, hz1, hz2⟩ := info_int
  obtain ⟨ao, cap, rfl, hc1, hc2⟩ := hS.shape
  have hl1 : 0 < l.length := List.length_pos_iff.2 hl
  obtain ⟨g, off, rfl, hcs⟩ := SeenI.get hS hl1 rfl
  have HCS := Lib.hid hcs
  have HDL := Lib.hid (difs_length l)
  obtain ⟨n, hn⟩ : ∃ n, n = l.length - 1 := ⟨_, rfl⟩
  have hn1 : l.length = n + 1 := by omega
  rw [hn1] at hc1 hm
  unfold MadeI
  rw [difs_length, ← hn]
  have HN := Lib.hid hn1
  have HDG := Lib.hid (difs_get l)
  rw [hn1] at HDL HCS HDG ⊢
  simp only [Nat.add_sub_cancel] at HDL
  have hsub : IntKind.i64.wrap (((n + 1 : Nat) : Int) - 1) = (n : Int) := by rw [show ((n + 1 : Nat) : Int) - 1 = (n : Int) by omega]; exact IntWalk.i64_in _ (by omega)
  clear hS hl hl1 hcs hn hn1 hc2
  go_enter Tryd.func55, Tryd.ntmps55
  go_wp2_with (first
    | (at_make; refine wpList_make_full _ rfl _ _ 33 rfl w.heap.size 3 i0 (.int .i64 0) 1 Tryd.underlying33 hi hz0 hz1 .i64 .i64 _ _ n rfl rfl rfl rfl ?c1 ?c2 (Nat.le_refl _) ?_)
    | fail)
  case c1 => rw [hz2]; omega
  case c2 => unfold maxLen; omega
  intro w2 hown hg
  rw [show (madeCells #[Value.int .i64 0] n).toList = iv (fillI (difs l) 0) by rw [cells_zeroI]; unfold fillI; rw [HDL.out]; simp] at hown
  have HC2 := Lib.hid ((Chg.refl [] w).grown hg (by simp))
  have HO2 := Lib.hid hown
  obtain ⟨gl, hgl⟩ : ∃ g, g = w.heap.size := ⟨_, rfl⟩
  have HGL := Lib.hid hgl
  rw [← hgl] at HO2 ⊢
  clear hown hg hgl
  go_wp2
  go_loopw [11] (fun i w' => ∃ j : Nat, j ≤ n ∧ i = .int .i64 (j : Int) ∧ Chg [] w w' ∧ w'.ownsRow gl 3 1 (.slice (some ⟨gl, 0, none⟩) n n) n (iv (fillI (difs l) j))) (fun i _ => n - (intOf i).toNat)
  case atStart => exact ⟨0, Nat.zero_le _, rfl, HC2.out, HO2.out⟩
  case round =>
    obtain ⟨j, hj, rfl, hc, ho⟩ := hrel
    have HC := Lib.hid hc; have HO := Lib.hid ho
    clear hc ho
    by_cases hlt : j < n
    · have d1 : decide ((j : Int) < (n : Int)) = true := by simp; omega
      have hwj : IntKind.i64.wrap ((j : Int) + 1) = ((j + 1 : Nat) : Int) := IntWalk.i64_in _ (by omega)
      have x0 := HC.out.cell (HCS.out j (by omega)) (by simp)
      have x1 := HC.out.cell (HCS.out (j + 1) (by omega)) (by simp)
      have b1 : j < n + 1 := by omega
      have b2 : j + 1 < n + 1 := by omega
      have b3 : ((j + 1 : Nat) : Int) < ((n + 1 : Nat) : Int) := by omega
      have b4 : ¬ (((j + 1 : Nat) : Int) < 0) := by omega
      have b5 : (j : Int) < ((n + 1 : Nat) : Int) := by omega
      have b6 : ¬ ((j : Int) < 0) := by omega
      have b7 : (j : Int) < (n : Int) := by omega
      have HD := Lib.hid (HDG.out j (by omega))
      obtain ⟨y, hy⟩ : ∃ y, y = l.getD (j + 1) 0 := ⟨_, rfl⟩
      obtain ⟨x, hx⟩ : ∃ x, x = l.getD j 0 := ⟨_, rfl⟩
      rw [← hx] at x0
      rw [← hy] at x1
      rw [← hx, ← hy] at HD
      obtain ⟨z, hz⟩ : ∃ z, z = wrp (y - x) := ⟨_, rfl⟩
      have hwz : IntKind.i64.wrap (y - x) = z := by rw [wr_wrap, hz]
      rw [← hz] at HD
      obtain ⟨g', hg', hge, hlt', hfz, hcl⟩ := own_ptr HO.out (by omega)
      injection hg' with hg'
      injection hg' with hg'
      subst hg'
      have f0 := hfz j
      have y0 := hcl j (.int .i64 0) (fillI_at (difs l) j (by rw [HDL.out]; exact hlt))
      have HFS := Lib.hid (fillI_set (difs l) j (by rw [HDL.out]; exact hlt))
      rw [HD.out] at HFS
      clear hx hy hz hfz hcl
      go_wp2
      go_region
      all_goals
        go_wp2
        go_roundw
        case rel => exact ⟨j + 1, hlt, by go_num, (HC.out.setCell (p := ⟨gl, j, none⟩) (.inr (by rw [← HGL.out]; exact Nat.le_refl _)) _).drew, by
          have h := own_set HO.out j (by omega) (.int .i64 z)
          rw [HFS.out] at h
          exact own_drew h⟩
        case measure => simp [intOf]; omega
    · have d1 : decide ((j : Int) < (n : Int)) = false := by simp; omega
      obtain rfl : j = n := by omega
      have HF := Lib.hid HO.out
      rw [show fillI (difs l) j = difs l by rw [← HDL.out]; exact fillI_all _] at HF
      go_wp2
      go_ret
      exact ⟨_, rfl, HC.out, by rw [← HGL.out]; exact HF.out⟩


theorem abv_get (d : List Int) (j : Nat) (h : j < d.length) : (abv d).getD j 0 = (d.getD j 0 - mn d).toNat := by
  unfold abv
  simp [List.getD, h]

theorem sub64 (v m : Int) (hv : In64 v) (hm : In64 m) (h : m ≤ v) : IntKind.u64.wrap (IntKind.u64.wrap v - IntKind.u64.wrap m) = (((v - m).toNat : Nat) : Int) := by
  unfold In64 at hv hm
  simp only [IntKind.wrap, IntKind.bits, IntKind.signed]
  simp
  omega

set_option maxRecDepth 100000 in
set_option maxHeartbeats 4000000 in
theorem block_any (lv : Value) (l : List Int) (w : World) (hS : SeenI w lv l) (h2 : 2 ≤ l.length) (hm : l.length ≤ 33) :
    Calls Tryd.prog 28 #[lv] w fun e w' => ∃ x, e = .returned x ∧ Made 5 .u8 (blkE (difs l)) w x w' := by
  obtain ⟨i0, hi, hz0, hz1, hz2⟩ := info_u64
  obtain ⟨i8, hi8, hz80, hz81, hz82⟩ := info_u8
  have HD := Lib.hid (differences_any lv l w hS (fun h => by rw [h] at h2; simp at h2) (by omega))
  have hdl := difs_length l
  have HIN := Lib.hid (difs_in l)
  obtain ⟨d, hd⟩ : ∃ d, d = difs l := ⟨_, rfl⟩
  rw [← hd] at HD hdl HIN
  rw [← hd]
  obtain ⟨n, hn⟩ : ∃ n, n = l.length - 1 := ⟨_, rfl⟩
  rw [← hn] at hdl
  have hn1 : 1 ≤ n := by omega
  have hn32 : n ≤ 32 := by omega
  have hdne : d ≠ [] := fun h => by rw [h] at hdl; simp at hdl; omega
  have HNE := Lib.hid hdne
  have HDL := Lib.hid hdl
  obtain ⟨m, hmd⟩ : ∃ m, m = mn d := ⟨_, rfl⟩
  have HMD := Lib.hid hmd
  have HMI := Lib.hid (show In64 m by rw [hmd]; exact mn_in HIN.out)
  obtain ⟨A, hA⟩ : ∃ A, A = abv d := ⟨_, rfl⟩
  have HA := Lib.hid hA
  have hAl : A.length = n := by rw [hA, abv_length, hdl]
  have HAL := Lib.hid hAl
  have HAB := Lib.hid (show ∀ x ∈ A, x < 18446744073709551616 by rw [hA]; exact abv_lt HIN.out)
  obtain ⟨W, hW⟩ : ∃ W, W = wdB d := ⟨_, rfl⟩
  have hW64 : W ≤ 64 := by rw [hW]; exact wdB_le HIN.out
  have HW := Lib.hid (show W = blen (mx A) by rw [hW, hA]; rfl)
  obtain ⟨P, hP⟩ : ∃ P, P = packed W A := ⟨_, rfl⟩
  have HP := Lib.hid hP
  have E := Lib.hid (show blkE d = vb (zigOf m) ++ (W :: P) by rw [hP, hmd, hW, hA]; rfl)
  rw [E.out]
  have hmxl : mx A < 18446744073709551616 := mx_lt (by decide) HAB.out
  have HMX := Lib.hid hmxl
  have hw8 : IntKind.u8.wrap (W : Int) = (W : Int) := by simp [IntKind.wrap, IntKind.bits, IntKind.signed]; omega
  clear hS hd hn hdl hdne hmd hA hAl hW hmxl h2 hm hP
  go_enter Tryd.func28, Tryd.ntmps28
  go_wp2_with (first
    | (go_at_call 55; (with_reducible refine HD.out.mono ?_); rintro e w1 ⟨x, rfl, hc, ho⟩; rw [HDL.out] at ho; obtain ⟨xo, xc, rfl⟩ := own_shape ho; have HC1 := Lib.hid hc; have HO1 := Lib.hid ho; have HS1 := Lib.hid (ownI_seen ho HDL.out); clear hc ho)
    | (go_at_call 56; (with_reducible refine (smin_any _ d _ HS1.out HNE.out).mono ?_); rintro e w2 ⟨rfl, rfl⟩; rw [← HMD.out])
    | (at_make; refine wpList_make_full _ rfl _ _ 55 rfl w1.heap.size 67 i0 (.int .u64 0) 1 Tryd.underlying55 hi hz0 hz1 .i64 .i64 _ _ n rfl rfl rfl rfl ?c1 ?c2 (Nat.le_refl _) ?_)
    | fail)
  case c1 => rw [hz2]; omega
  case c2 => unfold maxLen; omega
  intro w2 hown hg
  rw [show (madeCells #[Value.int .u64 0] n).toList = nv .u64 (A.take 0 ++ List.replicate (A.length - 0) 0) by rw [cells_zeroU, HAL.out]; simp] at hown
  have HC2 := Lib.hid ((Chg.refl [] w1).grown hg (by simp))
  have HO2 := Lib.hid hown
  obtain ⟨gl, hgl⟩ : ∃ g, g = w1.heap.size := ⟨_, rfl⟩
  have HGL := Lib.hid hgl
  rw [← hgl] at HO2 ⊢
  clear hown hg hgl
  go_wp2
  go_loopw [19] (fun i w' => ∃ j : Nat, j ≤ n ∧ i = .int .i64 (j : Int) ∧ Chg [] w1 w' ∧ w'.ownsRow gl 67 1 (.slice (some ⟨gl, 0, none⟩) n n) n (nv .u64 (A.take j ++ List.replicate (A.length - j) 0))) (fun i _ => n - (intOf i).toNat)
  case atStart => exact ⟨0, Nat.zero_le _, rfl, HC2.out, HO2.out⟩
  case round =>
    obtain ⟨j, hj, rfl, hc, ho⟩ := hrel
    have HC := Lib.hid hc; have HO := Lib.hid ho
    clear hc ho
    by_cases hlt : j < n
    · have d1 : decide ((j : Int) < (n : Int)) = true := by simp; omega
      obtain ⟨g, off, hxo, hcs⟩ := SeenI.get (HS1.out.keep HC.out) hn1 HDL.out
      subst hxo
      have x0 := hcs j hlt
      have hin := HIN.out (d.getD j 0) (by rw [List.getD, List.getElem?_eq_getElem (by rw [HDL.out]; exact hlt)]; exact List.getElem_mem _)
      have hle : m ≤ d.getD j 0 := by rw [HMD.out]; exact mn_le _ (by rw [List.getD, List.getElem?_eq_getElem (by rw [HDL.out]; exact hlt)]; exact List.getElem_mem _)
      have hag := abv_get d j (by rw [HDL.out]; exact hlt)
      rw [← HA.out, ← HMD.out] at hag
      have hsub := sub64 (d.getD j 0) m hin HMI.out hle
      rw [← hag] at hsub
      obtain ⟨x, hx⟩ : ∃ x, x = d.getD j 0 := ⟨_, rfl⟩
      obtain ⟨z, hz⟩ : ∃ z, z = A.getD j 0 := ⟨_, rfl⟩
      rw [← hx] at x0
      rw [← hx, ← hz] at hsub
      obtain ⟨u1, hu1⟩ : ∃ u, IntKind.u64.wrap x = u := ⟨_, rfl⟩
      obtain ⟨u2, hu2⟩ : ∃ u, IntKind.u64.wrap m = u := ⟨_, rfl⟩
      rw [hu1, hu2] at hsub
      obtain ⟨g', hg', hge, hlt', hfz, hcl⟩ := own_ptr HO.out (by omega)
      injection hg' with hg'
      injection hg' with hg'
      subst hg'
      have f0 := hfz j
      have y0 := hcl j (.int .u64 0) (nv_fill_at .u64 A j (by rw [HAL.out]; exact hlt))
      have HFS := Lib.hid (nv_fill_set .u64 A j (by rw [HAL.out]; exact hlt))
      rw [← hz] at HFS
      clear hx hz hfz hcl hag hin hle hcs
      go_wp2
      go_roundw
      case rel => exact ⟨j + 1, hlt, by go_num, (HC.out.setCell (p := ⟨gl, j, none⟩) (.inr (by rw [← HGL.out]; exact Nat.le_refl _)) _), by
        have h := own_set HO.out j (by omega) (.int .u64 ((z : Nat) : Int))
        rw [HFS.out] at h
        exact h⟩
      case measure => simp [intOf]; omega
    · have d1 : decide ((j : Int) < (n : Int)) = false := by simp; omega
      obtain rfl : j = n := by omega
      have HOA := Lib.hid (show wr.ownsRow gl 67 1 (.slice (some ⟨gl, 0, none⟩) j j) j (nv .u64 A) by
        have h := HO.out
        rw [show A.take j ++ List.replicate (A.length - j) 0 = A by rw [← HAL.out]; simp] at h
        exact h)
      have HSA := Lib.hid (reads_of_own HOA.out).seen
      have HCW := Lib.hid (HC1.out.trans HC.out (by simp))
      have hAne : A ≠ [] := fun h => by have := HAL.out; rw [h] at this; simp at this; omega
      have HMAX := Lib.hid (smax_any _ A wr HSA.out hAne)
      obtain ⟨M, hM⟩ : ∃ M, M = mx A := ⟨_, rfl⟩
      rw [← hM] at HMAX HMX HW
      have HBW := Lib.hid (bwidth_any M wr HMX.out)
      rw [← HW.out] at HBW
      have HSG := Lib.hid (dsigned_any m wr HMI.out)
      obtain ⟨s, hs⟩ : ∃ s, s = (vb (zigOf m)).length := ⟨_, rfl⟩
      have hs10 : s ≤ 10 := by rw [hs]; exact (vb_len64 (zig_lt HMI.out)).2
      unfold Made at HSG
      rw [← hs] at HSG
      have HSL := Lib.hid hs
      clear hM hAne hs
      go_wp2_with (first
        | (go_at_call 58; (with_reducible refine HMAX.out.mono ?_); rintro e w3 ⟨rfl, rfl⟩)
        | (go_at_call 57; (with_reducible refine HBW.out.mono ?_); rintro e w3 ⟨rfl, rfl⟩)
        | (go_at_call 27; (with_reducible refine HSG.out.mono ?_); rintro e w3 ⟨x, rfl, hc3, ho3⟩; obtain ⟨so, sc, rfl⟩ := own_shape ho3; have HC3 := Lib.hid hc3; have HO3 := Lib.hid ho3; clear hc3 ho3)
        | (at_builtin; refine wpList_append_own _ rfl _ _ 26 rfl wr.heap.size 5 i8 (.int .u8 0) 1 1 Tryd.underlying26 hi8 hz80 hz81 hz82 rfl (by decide) _ _ _ rfl (HO3.out.alloc _) ⟨w3.heap.size, 0, none⟩ 1 1 [.int .u8 (W : Int)] rfl rfl ?c1 ?c2 ?c3 ?c4 ?c5 ?_)
        | fail)
      case c1 => exact cell_one_new _ _ _
      case c2 => simp [Value.oneCell']
      case c3 => unfold maxLen; omega
      case c4 => omega
      case c5 => have := HC3.out.size; simp; omega
      intro v4 w4 hown4 hgrow4 _
      have HC4 := Lib.hid ((HC3.out.alloc (.cells #[.int .u8 (W : Int)] 5)).grown hgrow4 (fun k hk => .inr (HO3.out.lt k hk).1))
      rw [show nv .u8 (vb (zigOf m)) ++ [Value.int .u8 (W : Int)] = nv .u8 (vb (zigOf m) ++ [W]) by simp [nv]] at hown4
      have HO4 := Lib.hid hown4
      obtain ⟨o4, c4, rfl⟩ := own_shape HO4.out
      have HPK := Lib.hid (pack_yes (.slice (some ⟨gl, 0, none⟩) j j) A W w4 hW64 (by rw [HAL.out]; omega) (HSA.out.keep HC4.out) HAB.out)
      have hPl : (packed W A).length ≤ 256 := by
        rw [packed_length, HAL.out]
        have : W * j ≤ 64 * 32 := Nat.mul_le_mul hW64 hn32
        omega
      have HPN := Lib.hid (nv_one .u8 (packed W A))
      rw [← HP.out] at HPK hPl HPN
      clear hown4 hgrow4
      go_wp2_with (first
        | (go_at_call 59; (with_reducible refine HPK.out.mono ?_); rintro e w5 ⟨y, rfl, hc5, ho5⟩; have HC5 := Lib.hid hc5; have HP5 := Lib.hid (reads_of_own ho5).seen; have HO5 := Lib.hid (own_chg HO4.out hc5 (by simp)); clear hc5 ho5)
        | (at_builtin; refine wpList_append_reads _ rfl _ _ 26 26 rfl wr.heap.size 5 5 i8 (.int .u8 0) 1 Tryd.underlying26 Tryd.underlying26 hi8 hz80 hz81 hz82 rfl _ _ _ rfl HO5.out _ (nv .u8 P) rfl HP5.out HPN.out ?c1 ?c2 ?c3 ?_)
        | fail)
      case c1 => rw [nv_length]; unfold maxLen; omega
      case c2 => rw [nv_length]; omega
      case c3 => have h1 := HC4.out.size; have h2 := HC5.out.size; omega
      intro v6 w6 hown6 hgrow6
      have HC6 := Lib.hid ((HC4.out.trans HC5.out (by simp)).grown hgrow6 (fun k hk => .inr (HO5.out.lt k hk).1))
      rw [show nv .u8 (vb (zigOf m) ++ [W]) ++ nv .u8 P = nv .u8 (vb (zigOf m) ++ (W :: P)) by simp [nv]] at hown6
      have HO6 := Lib.hid hown6
      clear hown6 hgrow6
      go_wp2
      go_ret
      refine ⟨_, rfl, HCW.out.trans HC6.out (by simp), ?_⟩
      have h := own_mono HO6.out HCW.out.size
      rw [show (vb (zigOf m) ++ (W :: P)).length = s + 1 + P.length by rw [List.length_append, List.length_cons, ← HSL.out]; omega]
      exact h


theorem dints_none (w : World) (ao : Option Addr) (cap : Nat) : Calls Tryd.prog 15 #[.slice ao 0 cap] w fun e w' => e = .returned (.slice none 0 0) ∧ w = w' := by
  have hb : ((0 : Int) == 0) = true := rfl
  go_enter Tryd.func15, Tryd.ntmps15
  go_wp2_with fail
  refine wp_scope_jumps 0 (fun _ _ => False) (fun _ _ => 0) rfl ?_ (fun a' w' h => h.elim)
  go_wp2
  simp only [Exit.jump]
  go_ret
  exact ⟨rfl, rfl⟩

theorem take_min {α : Type} (l : List α) (q : Nat) (h : l.length = q) : l.take (min 32 q) = l.take 32 ∧ l.drop (min 32 q) = l.drop 32 := by
  by_cases h32 : 32 ≤ q
  · rw [Nat.min_eq_left h32]; exact ⟨rfl, rfl⟩
  · rw [Nat.min_eq_right (by omega), List.take_of_length_le (by omega), List.take_of_length_le (by omega), List.drop_of_length_le (by omega), List.drop_of_length_le (by omega)]
    exact ⟨rfl, rfl⟩

set_option maxRecDepth 100000 in
set_option maxHeartbeats 4000000 in
theorem dints_any (lv : Value) (l : List Int) (w : World) (hS : SeenI w lv l) (hm : l.length ≤ 1000000) (hin : ∀ x ∈ l, In64 x) :
    Calls Tryd.prog 15 #[lv] w fun e w' => ∃ x, e = .returned x ∧ Made 5 .u8 (intsE l) w x w' := by
  obtain ⟨i8, hi8, hz08, hz18, hz28⟩ := info_u8
  obtain ⟨ao, cap, rfl, hc1, hc2⟩ := hS.shape
  by_cases hl0 : l = []
  · subst hl0
    refine (dints_none w ao cap).mono ?_
    rintro e w' ⟨rfl, rfl⟩
    exact ⟨_, rfl, Chg.refl _ _, World.ownsRow_nil _ _ _ _⟩
  obtain ⟨n, hn⟩ : ∃ n, n = l.length - 1 := ⟨_, rfl⟩
  have hl1 : 0 < l.length := List.length_pos_iff.2 hl0
  have hn1 : l.length = n + 1 := by omega
  obtain ⟨g0, off0, rfl, hcs⟩ := SeenI.get hS hl1 rfl
  have hx0 := hcs 0 hl1
  rw [Nat.add_zero] at hx0
  obtain ⟨x, hx⟩ : ∃ x, x = l.getD 0 0 := ⟨_, rfl⟩
  rw [← hx] at hx0
  have hxin : In64 x := by
    rw [hx, List.getD, List.getElem?_eq_getElem hl1]
    exact hin _ (List.getElem_mem _)
  have hlE : (intsE l).length ≤ 19000000 := by have := intsE_len l hin; omega
  obtain ⟨E, hE⟩ : ∃ E, E = intsE l := ⟨_, rfl⟩
  have HE0 := Lib.hid (show vb (zigOf x) ++ blksE (difs l) = E by
    rw [hE, hx]
    cases l with
    | nil => exact absurd rfl hl0
    | cons y r => rfl)
  rw [← hE] at hlE ⊢
  rw [hn1] at hc1 hm hS ⊢
  have HS := Lib.hid hS; have HIN := Lib.hid hin; have HN := Lib.hid hn1
  have HSG := Lib.hid (dsigned_any x w hxin)
  unfold Made at HSG
  have hbn : (((n + 1 : Nat) : Int) == 0) = false := by simp; omega
  clear hS hin hl0 hn hl1 hn1 hcs hx hE hxin
  go_enter Tryd.func15, Tryd.ntmps15
  go_wp2_with fail
  refine wp_scope_pre2 0 (fun a' w' => ∃ (r : List Int) (X : List Nat) (q m : Nat) (so bo : Option Addr) (sc bc : Nat) (u4 u5 u6 u7 u8 u9 u10 u11 u12 u13 u14 u15 u16 u17 u18 u19 u20 u21 u22 u23 u24 u25 u26 u27 u28 : Value), q + 1 = r.length ∧ m = X.length ∧ q ≤ n ∧ (∀ x ∈ r, In64 x) ∧ X ++ blksE (difs r) = E ∧ a' = { tmps := #[.slice so (q + 1) sc, undef, .slice none 0 0, .slice bo m bc, u4, u5, u6, u7, u8, u9, u10, u11, u12, u13, u14, u15, u16, u17, u18, u19, u20, u21, u22, u23, u24, u25, u26, u27, u28], defers := [] } ∧ Chg [] w w' ∧ SeenI w (.slice so (q + 1) sc) r ∧ w'.ownsRow w.heap.size 5 1 (.slice bo m bc) m (nv .u8 X)) (fun a' _ => slen (a'.tmps.getD 0 undef)) rfl ?_ ?_
  · go_wp2_with (first
      | (go_at_call 27; (with_reducible refine HSG.out.mono ?_); rintro e w1 ⟨sv, rfl, hc1, ho1⟩; obtain ⟨so, sc, rfl⟩ := own_shape ho1; have HC1 := Lib.hid hc1; have HO1 := Lib.hid ho1; clear hc1 ho1)
      | fail)
    exact ⟨l, vb (zigOf x), n, _, _, so, cap, sc, _, _, _, _, _, _, _, _, _, _, _, _, _, _, _, _, _, _, _, _, _, _, _, _, _, HN.out.symm, rfl, Nat.le_refl _, HIN.out, HE0.out, rfl, HC1.out, HS.out, HO1.out⟩
  rintro a' wi ⟨r, X, q, m, so, bo, sc, bc, u4, u5, u6, u7, u8, u9, u10, u11, u12, u13, u14, u15, u16, u17, u18, u19, u20, u21, u22, u23, u24, u25, u26, u27, u28, hq, hm, hqn, hr2, hX, rfl, hci, hsi, hoi⟩
  have HCI := Lib.hid hci; have HSI := Lib.hid hsi; have HOI := Lib.hid hoi; have HX := Lib.hid hX; have HR2 := Lib.hid hr2; have HQ := Lib.hid hq; have HM := Lib.hid hm
  obtain ⟨ro, rc, hrs, hc1s, -⟩ := hsi.shape
  injection hrs with e1 e2 e3
  subst e1 e3
  rw [← hq] at hc1s
  have hXl : m ≤ 19000000 := by have := congrArg List.length hX; rw [List.length_append] at this; omega
  have hBi := hci.size
  have hsub : IntKind.i64.wrap (((q + 1 : Nat) : Int) - 1) = (q : Int) := by rw [show ((q + 1 : Nat) : Int) - 1 = (q : Int) by omega]; exact IntWalk.i64_in _ (by omega)
  obtain ⟨k, hk⟩ : ∃ k, k = min 32 q := ⟨_, rfl⟩
  have hrun : ∀ (wx : World) (ts : Array TypeId) (t : TypeId), (Builtin.min_ ts t #[.int .i64 32, .int .i64 (q : Int)]).run Tryd.prog wx = .ok (.int .i64 (k : Int)) wx := fun wx ts t => by
    rw [run_min_int2, minInt]
    rw [show min (32 : Int) (q : Int) = (k : Int) by omega]
  clear hci hsi hoi hX hr2 hq hm e2
  by_cases h0 : q = 0
  · subst h0
    have hk0 : k = 0 := by omega
    have HX1 := Lib.hid (show X = E by
      have h1 := HX.out
      have h2 := HQ.out
      have h3 := difs_length r
      rw [← h2] at h3
      rw [List.eq_nil_of_length_eq_zero h3, blksE_nil, List.append_nil] at h1
      exact h1)
    have hb0 : ((k : Int) == 0) = true := by rw [hk0]; rfl
    clear hk hk0
    go_wp2
    simp only [Exit.jump]
    go_ret
    refine ⟨_, rfl, HCI.out, ?_⟩
    rw [← HX1.out, ← HM.out]
    exact HOI.out
  have hbk : ((k : Int) == 0) = false := by simp; omega
  have hkq : k ≤ q := by omega
  have hk1 : 1 ≤ k := by omega
  have hk32 : k ≤ 32 := by omega
  have hwk : IntKind.i64.wrap ((k : Int) + 1) = ((k + 1 : Nat) : Int) := IntWalk.i64_in _ (by omega)
  have hfs := HSI.out.front (k + 1) (by omega)
  obtain ⟨ko, kc, hks, hkr⟩ := run_back_z HSI.out HQ.out.symm hc1s k (by omega)
  have hkl : q + 1 - k = (q - k) + 1 := by omega
  rw [hkl] at hks hkr
  have htl : (r.take (k + 1)).length = k + 1 := by rw [List.length_take]; have := HQ.out; omega
  have hdl : (difs r).length = q := by rw [difs_length, ← HQ.out]; omega
  have HTK := take_min (difs r) q hdl
  rw [← hk] at HTK
  have hdne : difs r ≠ [] := fun h => by rw [h] at hdl; simp at hdl; omega
  obtain ⟨P, hP⟩ : ∃ P, P = blkE (difs (r.take (k + 1))) := ⟨_, rfl⟩
  have HP := Lib.hid (show (X ++ P) ++ blksE (difs (r.drop k)) = E by
    rw [← HX.out, hP, difs_take, difs_drop, HTK.1, HTK.2, List.append_assoc, ← blksE_cons hdne])
  have hPl : P.length ≤ 19000000 := by have := congrArg List.length HP.out; rw [List.length_append, List.length_append] at this; omega
  have HB := Lib.hid (block_any (.slice so (k + 1) sc) (r.take (k + 1)) wi (hfs.keep HCI.out) (by omega) (by omega))
  rw [← hP] at HB
  have HKS := Lib.hid hks
  have HDL := Lib.hid (show (q - k) + 1 = (r.drop k).length by rw [List.length_drop, ← HQ.out]; omega)
  have HPN := Lib.hid (nv_one .u8 P)
  clear hfs hks htl hP hdne hdl HTK hk hkl
  go_wp2_with (first
    | (go_at_call 28; (with_reducible refine HB.out.mono ?_); rintro e w4 ⟨gv, rfl, hc4, ho4⟩; obtain ⟨go, gc, rfl⟩ := own_shape ho4; have HC4 := Lib.hid (HCI.out.trans hc4 (by simp)); have HO4 := Lib.hid (own_chg HOI.out hc4 (by simp)); have HG4 := Lib.hid ((reads_of_own ho4).seen); have hB4 := HC4.out.size; clear hc4 ho4)
    | (at_builtin; refine wpList_append_reads _ rfl _ _ 26 26 rfl w.heap.size 5 5 i8 (.int .u8 0) 1 Tryd.underlying26 Tryd.underlying26 hi8 hz08 hz18 hz28 rfl _ _ _ rfl HO4.out _ (nv .u8 P) rfl HG4.out HPN.out ?c1 ?c2 hB4 ?_)
    | fail)
  case c1 => rw [nv_length]; unfold maxLen; omega
  case c2 => rw [nv_length]; omega
  intro v5 w5 hown5 hgrow5
  have HC5 := Lib.hid (HC4.out.grown hgrow5 (fun k hk => .inr (own_ge HO4.out k hk)))
  obtain ⟨yo, yc, rfl⟩ := own_shape hown5
  have HO5 := Lib.hid (show w5.ownsRow w.heap.size 5 1 (.slice yo (m + P.length) yc) (m + P.length) (nv .u8 (X ++ P)) by
    have e : nv .u8 X ++ nv .u8 P = nv .u8 (X ++ P) := by simp [nv]
    rw [← e]; simpa using hown5)
  clear hown5 hgrow5
  go_wp2
  go_step3
  exact ⟨rfl, ⟨r.drop k, X ++ P, q - k, m + P.length, ko, yo, kc, yc, _, _, _, _, _, _, _, _, _, _, _, _, _, _, _, _, _, _, _, _, _, _, _, _, _, HDL.out, by rw [List.length_append, ← HM.out], by omega, fun x hx => HR2.out x (List.mem_of_mem_drop hx), HP.out, rfl, HC5.out, HKS.out, HO5.out⟩, by simp [slen]; omega⟩

end Go.Proofs.YtohgnbgijleoaaaDoor
