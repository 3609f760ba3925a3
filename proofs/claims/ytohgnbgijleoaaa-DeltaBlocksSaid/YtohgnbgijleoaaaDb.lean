/- delta: rows of numbers with a sign; a number's bytes; differences; the least, the greatest. -/
import Derived.Test.YtohgnbgijleoaaaDa
import Derived.Test.YtohgnbgijleoaaaPu
import Derived.Test.YtohgnbgijleoaaaOg
import Derived.Test.YtohgnbgijleoaaaSo
import Derived.Test.YtohgnbgijleoaaaBd
import Derived.Deep.RegionLaw
import Derived.Deep.LoopGhost
namespace Go.Proofs.Ytohgnbgijleoaaa
open Go.RowKit
set_option linter.unusedVariables false
set_option linter.unusedSimpArgs false

theorem ic_len (x : Int) : (ic x).length = 1 := rfl
theorem iv_flat (l : List Int) : iv l = l.flatMap ic := by induction l with
  | nil => rfl
  | cons x l ih => rw [List.flatMap_cons, ← ih]; rfl

/-- A row of numbers with a sign of the call's own. -/
theorem ownI_seen {w : World} {B n : Nat} {v : Value} {l : List Int} (h : w.ownsRow B 3 1 v n (iv l)) (hn : l.length = n) : SeenI w v l := by
  rw [iv_flat] at h
  exact SeenK.own ic_len h hn

/-- What a call makes: a row of numbers with a sign. -/
def MadeI (l : List Int) (w : World) (v : Value) (w' : World) : Prop := Chg [] w w' ∧ w'.ownsRow w.heap.size 3 1 v l.length (iv l)

theorem SeenI.nil (w : World) : SeenI w (.slice none 0 0) [] := ⟨none, 0, rfl, Nat.le_refl _, by decide, fun h => absurd h (by simp)⟩

theorem SeenI.sliced {w : World} {ao : Option Addr} {len cap : Nat} {l : List Int} (h : SeenI w (.slice ao len cap) l) (lo hi : Nat) (h1 : lo ≤ hi) (h2 : hi ≤ len) :
    SeenI w (Go.sliced ao lo hi cap 1) ((l.take hi).drop lo) := by
  obtain ⟨ao', cap', he, hc, hm, hx⟩ := h
  injection he with e1 e2 e3
  subst e1 e2 e3
  have hlen : ((l.take hi).drop lo).length = hi - lo := by simp; omega
  unfold Go.sliced
  rw [← hlen]
  refine ⟨_, _, rfl, by rw [hlen]; omega, by omega, fun hp => ?_⟩
  rw [hlen] at hp
  obtain ⟨g, off, rfl, hcell⟩ := hx (by omega)
  refine ⟨g, off + lo * 1, ?_, fun j x i u hj hu => ?_⟩
  · rw [if_neg (by omega)]
    simp only [Option.map_some, addr_add]
  · rw [List.getElem?_drop, List.getElem?_take] at hj
    split at hj
    · have := hcell (lo + j) x i u hj hu
      rw [Nat.add_mul, ← Nat.add_assoc] at this
      exact this
    · cases hj

theorem SeenI.front {w : World} {ao : Option Addr} {n cap : Nat} {l : List Int} (h : SeenI w (.slice ao n cap) l) (m : Nat) (hm : m ≤ n) : SeenI w (.slice ao m cap) (l.take m) := by
  obtain ⟨ao', cap', he, hc, hmx, hx⟩ := h
  injection he with e1 e2 e3
  subst e1 e2 e3
  have hl : (l.take m).length = m := by simp; omega
  refine ⟨ao, cap, by rw [hl], by omega, hmx, fun hp => ?_⟩
  obtain ⟨g, off, e, hcell⟩ := hx (by omega)
  refine ⟨g, off, e, fun j x i u hj hu => hcell j x i u ?_ hu⟩
  rw [List.getElem?_take] at hj
  split at hj
  · exact hj
  · cases hj

theorem elem_int : Try.prog.elem 22 = 3 := by kernel_rfl

/-- l[:hi], as a run equation, of numbers with a sign. -/
theorem run_front_z {w : World} {ao : Option Addr} {len cap : Nat} {l : List Int} (h : SeenI w (.slice ao len cap) l) (hc : len ≤ cap) (hi : Nat) (h2 : hi ≤ len) :
    ∃ ao' cap', SeenI w (.slice ao' hi cap') (l.take hi) ∧ ∀ wx, (Instr.slice 22 (.slice ao len cap) none (some (.int .i64 (hi : Int))) none).run Try.prog wx = .ok (.slice ao' hi cap') wx := by
  have hs := h.sliced 0 hi (Nat.zero_le _) h2
  rw [List.drop_zero] at hs
  refine ⟨_, _, hs, fun wx => ?_⟩
  obtain ⟨i0, hi0, _, hz1, _⟩ := info_int
  rw [run_slice_h wx 22 ao len cap (by rw [elem_int]; exact Try.underlying22) .i64 hi (by omega) (by omega), elem_int]
  simp [sizeOf, typeInfo, hi0, hz1]
  rfl

/-- l[lo:], as a run equation, of numbers with a sign. -/
theorem run_back_z {w : World} {ao : Option Addr} {len cap : Nat} {l : List Int} (h : SeenI w (.slice ao len cap) l) (hl : l.length = len) (hc : len ≤ cap) (lo : Nat) (h2 : lo ≤ len) :
    ∃ ao' cap', SeenI w (.slice ao' (len - lo) cap') (l.drop lo) ∧ ∀ wx, (Instr.slice 22 (.slice ao len cap) (some (.int .i64 (lo : Int))) none none).run Try.prog wx = .ok (.slice ao' (len - lo) cap') wx := by
  have hs := h.sliced lo len h2 (Nat.le_refl _)
  rw [show l.take len = l by rw [← hl, List.take_length]] at hs
  refine ⟨_, _, hs, fun wx => ?_⟩
  obtain ⟨i0, hi0, _, hz1, _⟩ := info_int
  rw [run_slice_l wx 22 ao len cap (by rw [elem_int]; exact Try.underlying22) .i64 lo (by omega) (by omega), elem_int]
  simp [sizeOf, typeInfo, hi0, hz1, Go.sliced]

theorem zig_int (v : Int) (w : World) (h : In64 v) :
    Calls Try.prog 30 #[.int .i64 v] w fun e w' => e = .returned (.int .u64 (zigOf v : Nat)) ∧ w = w' := zig_any v w (wf64_of v h)

set_option maxHeartbeats 1000000 in
theorem dsigned_any (v : Int) (w : World) (h : In64 v) :
    Calls Try.prog 15 #[.int .i64 v] w fun e w' => ∃ x, e = .returned x ∧ Made 5 .u8 (vb (zigOf v)) w x w' := by
  have HZ := Lib.hid (zig_int v w h)
  have HP := Lib.hid (put_any (.slice none 0 0) [] (zigOf v) w (Seen.nil w) (by decide) (zig_lt h))
  unfold PutOut at HP
  rw [List.nil_append] at HP
  go_enter Try.func15, Try.ntmps15
  go_wp2_with (first
    | (go_at_call 30; (with_reducible refine HZ.out.mono ?_); rintro e w2 ⟨rfl, rfl⟩)
    | (go_at_call 29; (with_reducible refine HP.out.mono ?_); rintro e w2 ⟨x, rfl, hm⟩)
    | fail)
  go_ret
  exact ⟨_, rfl, hm⟩

theorem minInt (x y : Int) : (if y < x then y else x) = min x y := by split <;> omega
theorem maxInt (x y : Nat) : (if ((y : Nat) : Int) > ((x : Nat) : Int) then ((y : Nat) : Int) else ((x : Nat) : Int)) = ((max x y : Nat) : Int) := by split <;> omega

theorem mn_step (l : List Int) (k : Nat) (h0 : 0 < k) (hk : k < l.length) : mn (l.take (k + 1)) = min (mn (l.take k)) (l.getD k 0) := by
  have hne : l.take k ≠ [] := fun h => by have := congrArg List.length h; rw [List.length_take] at this; simp only [List.length_nil] at this; omega
  rw [List.take_add_one, List.getElem?_eq_getElem hk]
  show mn (l.take k ++ [l[k]]) = _
  rw [mn_snoc _ hne, List.getD, List.getElem?_eq_getElem hk]
  rfl

theorem mx_step (l : List Nat) (k : Nat) (hk : k < l.length) : mx (l.take (k + 1)) = max (mx (l.take k)) (l.getD k 0) := by
  rw [List.take_add_one, List.getElem?_eq_getElem hk]
  show mx (l.take k ++ [l[k]]) = _
  rw [mx_snoc, List.getD, List.getElem?_eq_getElem hk]
  rfl

theorem mn_one (l : List Int) (h : 0 < l.length) : mn (l.take 1) = l.getD 0 0 := by
  cases l with
  | nil => simp at h
  | cons x r => rfl

theorem mx_one (l : List Nat) (h : 0 < l.length) : mx (l.take 1) = l.getD 0 0 := by
  cases l with
  | nil => simp at h
  | cons x r => show max 0 x = x; omega

set_option maxRecDepth 100000 in
set_option maxHeartbeats 1000000 in
theorem smin_any (lv : Value) (l : List Int) (w : World) (hS : SeenI w lv l) (hl : l ≠ []) :
    Calls Try.prog 32 #[lv] w fun e w' => e = .returned (.int .i64 (mn l)) ∧ w = w' := by
  obtain ⟨ao, cap, rfl, hc1, hc2⟩ := hS.shape
  obtain ⟨n, hn⟩ : ∃ n, n = l.length := ⟨_, rfl⟩
  rw [← hn] at hS hc1 ⊢
  have h0 : 0 < n := by rw [hn]; exact List.length_pos_iff.2 hl
  obtain ⟨g, off, rfl, hc⟩ := SeenI.get hS h0 hn.symm
  have HN := Lib.hid hn; have HC := Lib.hid hc
  have q0 := hc 0 h0
  rw [Nat.add_zero] at q0
  have hn1 : decide ((n : Int) < 1) = false := by simp; omega
  have hbig : n ≤ 9223372036854775807 := by unfold maxLen at hc2; omega
  clear hS hn hc hl
  go_enter Try.func32, Try.ntmps32
  go_wp2
  go_loopg [3, 4] n (fun gh m i wr => ∃ k : Nat, 0 < k ∧ k ≤ n ∧ n - k ≤ gh ∧ i = .int .i64 k ∧ m = .int .i64 (mn (l.take k)) ∧ wr = w)
  case atStart => exact ⟨1, Nat.one_pos, h0, by omega, rfl, by rw [mn_one l (by rw [← HN.out]; exact h0)]; rfl, rfl⟩
  case round =>
    obtain ⟨k, hk0, hk, hg, rfl, rfl, rfl⟩ := hrel
    by_cases hlt : k < n
    · have d1 : decide ((k : Int) < (n : Int)) = true := by simp; omega
      have ck := HC.out k hlt
      have S := Lib.hid (mn_step l k hk0 (by rw [← HN.out]; exact hlt))
      have hmm := minInt
      obtain ⟨a, ha⟩ : ∃ a, a = mn (l.take k) := ⟨_, rfl⟩
      obtain ⟨b, hb⟩ : ∃ b, b = l.getD k 0 := ⟨_, rfl⟩
      rw [← ha, ← hb] at S
      rw [← hb] at ck
      rw [← ha]
      have hrun : ∀ (wx : World) (ts : Array TypeId) (t : TypeId), (Builtin.min_ ts t #[.int .i64 a, .int .i64 b]).run Try.prog wx = .ok (.int .i64 (min a b)) wx := fun wx ts t => by rw [run_min_int2, minInt]
      clear ha hb hmm
      go_wp2
      go_roundg (n - (k + 1))
      case measure => omega
      case rel => exact ⟨k + 1, Nat.succ_pos k, by omega, Nat.le_refl _, by go_num, by rw [S.out], rfl⟩
    · have d1 : decide ((k : Int) < (n : Int)) = false := by simp; omega
      obtain rfl : k = n := by omega
      go_wp2
      go_ret
      exact ⟨by rw [show l.take k = l by rw [HN.out, List.take_length]]; rfl, rfl⟩

set_option maxRecDepth 100000 in
set_option maxHeartbeats 1000000 in
theorem smax_any (lv : Value) (l : List Nat) (w : World) (hS : Seen w lv (nv .u64 l)) (hl : l ≠ []) :
    Calls Try.prog 34 #[lv] w fun e w' => e = .returned (.int .u64 ((mx l : Nat) : Int)) ∧ w = w' := by
  obtain ⟨ao, cap, rfl, hc1, hc2⟩ := hS.shape
  rw [nv_length] at hc1 hS ⊢
  obtain ⟨n, hn⟩ : ∃ n, n = l.length := ⟨_, rfl⟩
  rw [← hn] at hS hc1 ⊢
  have h0 : 0 < n := by rw [hn]; exact List.length_pos_iff.2 hl
  obtain ⟨g, off, rfl, hc⟩ := hS.at0 hn.symm h0
  have HN := Lib.hid hn; have HC := Lib.hid hc
  have q0 := hc 0 h0
  rw [Nat.add_zero] at q0
  have hn1 : decide ((n : Int) < 1) = false := by simp; omega
  have hbig : n ≤ 9223372036854775807 := by unfold maxLen at hc2; omega
  clear hS hn hc hl
  go_enter Try.func34, Try.ntmps34
  go_wp2
  go_loopg [3, 4] n (fun gh m i wr => ∃ k : Nat, 0 < k ∧ k ≤ n ∧ n - k ≤ gh ∧ i = .int .i64 k ∧ m = .int .u64 ((mx (l.take k) : Nat) : Int) ∧ wr = w)
  case atStart => exact ⟨1, Nat.one_pos, h0, by omega, rfl, by rw [mx_one l (by rw [← HN.out]; exact h0)]; rfl, rfl⟩
  case round =>
    obtain ⟨k, hk0, hk, hg, rfl, rfl, rfl⟩ := hrel
    by_cases hlt : k < n
    · have d1 : decide ((k : Int) < (n : Int)) = true := by simp; omega
      have ck := HC.out k hlt
      have S := Lib.hid (mx_step l k (by rw [← HN.out]; exact hlt))
      obtain ⟨a, ha⟩ : ∃ a, a = mx (l.take k) := ⟨_, rfl⟩
      obtain ⟨b, hb⟩ : ∃ b, b = l.getD k 0 := ⟨_, rfl⟩
      rw [← ha, ← hb] at S
      rw [← hb] at ck
      rw [← ha]
      have hrun : ∀ (wx : World) (ts : Array TypeId) (t : TypeId), (Builtin.max_ ts t #[.int .u64 (a : Int), .int .u64 (b : Int)]).run Try.prog wx = .ok (.int .u64 ((max a b : Nat) : Int)) wx := fun wx ts t => by rw [run_max_int2, maxInt]
      clear ha hb
      go_wp2
      go_roundg (n - (k + 1))
      case measure => omega
      case rel => exact ⟨k + 1, Nat.succ_pos k, by omega, Nat.le_refl _, by go_num, by rw [S.out], rfl⟩
    · have d1 : decide ((k : Int) < (n : Int)) = false := by simp; omega
      obtain rfl : k = n := by omega
      go_wp2
      go_ret
      exact ⟨by rw [show l.take k = l by rw [HN.out, List.take_length]]; rfl, rfl⟩

end Go.Proofs.Ytohgnbgijleoaaa
