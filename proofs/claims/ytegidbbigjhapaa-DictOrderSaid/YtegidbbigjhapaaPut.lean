/- Contracts of cursor's carry as Put calls it, of Put, and of the statements' own example known. -/
import Derived.Test.YtegidbbigjhapaaGet
namespace Go.Proofs.Ytegidbbigjhapaa
open Go.RowKit
set_option linter.unusedVariables false

/-- The lowest n bytes of a number. -/
def low : Nat → Int → List Int
  | 0, _ => []
  | n + 1, v => v % 256 :: low n (v / 256)

theorem low_length : ∀ (n : Nat) (v : Int), (low n v).length = n
  | 0, _ => rfl
  | n + 1, v => by simp [low, low_length n]

theorem low_snoc : ∀ (n : Nat) (v : Int), low (n + 1) v = low n v ++ [v / 256 ^ n % 256]
  | 0, v => by simp [low]
  | n + 1, v => by
    rw [low, low_snoc n (v / 256), low]
    have e : v / 256 / 256 ^ n = v / 256 ^ (n + 1) := by
      rw [Int.ediv_ediv_of_nonneg (by omega), Int.pow_succ, Int.mul_comm]
    simp [e]

theorem low_wf : ∀ (n : Nat) (v : Int), Wf (low n v)
  | 0, _ => by simp [low, Wf]
  | n + 1, v => by
    intro z hz
    simp only [low, List.mem_cons] at hz
    rcases hz with rfl | hz
    · omega
    · exact low_wf n _ z hz

/-- Where carry stands when it has put i bytes of a number behind the list that l holds. -/
def PutAt (B l d : Nat) (v : Int) (xs : List Int) (w0 : World) (i : Nat) (w : World) : Prop :=
  Below B w0 w ∧ w0.heap.size ≤ w.heap.size ∧ w.heap[d]? = some (.cells #[.int .u64 (v / 256 ^ i), .int .i64 0] 94 (0, 0)) ∧
    ∃ sv, w.heap[l]? = some (.cells #[sv] 92 (0, 0)) ∧ w.ownsRow B 5 1 sv (xs.length + i) (bys (xs ++ low i v))

theorem PutAt.next {B l d : Nat} {v : Int} {xs : List Int} {w0 w w1 w2 : World} {i : Nat} {sv : Value} (h : PutAt B l d v xs w0 i w) (hl : w.heap[l]? = some (.cells #[sv] 92 (0, 0))) (hown : w.ownsRow B 5 1 sv (xs.length + i) (bys (xs ++ low i v)))
    (hB : B ≤ l) (hBd : B ≤ d) (h1 : Chg [d] w w1) (h1d : w1.heap[d]? = some (.cells #[.int .u64 (v / 256 ^ i / 256), .int .i64 0] 94 (0, 0))) (hlen : (bys (xs ++ low i v)).length = xs.length + i)
    (h2 : Added B l sv (bys (xs ++ low i v)) (v / 256 ^ i % 256) w1 w2) : PutAt B l d v xs w0 (i + 1) w2 := by
  obtain ⟨a, a2, b, _⟩ := h
  obtain ⟨sv', c1, c2, c3⟩ := h2
  have hBw : B ≤ w.heap.size := by have := Go.lt_of_block hl; omega
  have hge := own_ge hown
  have hne := (tagged_of_own hown).ne b (by decide)
  have hld : l ≠ d := by
    intro e
    subst e
    rw [hl] at b
    simp at b
  have hb1 : Below B w w1 := h1.below hBw (by simpa using hBd)
  have hb2 : Below B w1 w2 := c1.below (Nat.le_trans hBw h1.size) (by
    intro k hk
    simp at hk
    rcases hk with rfl | hk
    · exact hB
    · exact hge k hk)
  refine ⟨(a.trans hb1).trans hb2, Nat.le_trans a2 (Nat.le_trans h1.size c1.size), ?_, sv', c2, ?_⟩
  · have e : v / 256 ^ i / 256 = v / 256 ^ (i + 1) := by rw [Int.ediv_ediv_of_nonneg (Int.le_of_lt (Int.pow_pos (by decide))), Int.pow_succ]
    rw [← e]
    refine c1.heap h1d ?_
    simp
    exact ⟨fun e => hld e.symm, fun hk => hne d hk rfl⟩
  · have e : bys (xs ++ low (i + 1) v) = bys (xs ++ low i v) ++ [.int .u8 (v / 256 ^ i % 256)] := by simp [bys, low_snoc]
    rw [e]
    rw [hlen] at c3
    exact c3

set_option maxHeartbeats 1000000 in
theorem carry_put (B l d n : Nat) (v : Int) (xs : List Int) (w : World) (hn : n ≤ 8) (hv0 : 0 ≤ v) (hv1 : v ≤ 18446744073709551615) (hz : xs.length < 70368744177000) (hB : B ≤ l) (hBd : B ≤ d) (h : PutAt B l d v xs w 0 w) :
    Calls Try.prog 66 #[.int .i64 n, .func (Fn.func 67) #[.pointer (some ⟨d, 0, none⟩)] #[], .func (Fn.func 68) #[.pointer (some ⟨l, 0, none⟩)] #[]] w
      fun x w' => x = .returned (.tuple #[]) ∧ PutAt B l d v xs w n w' := by
  have H := Lib.hid h; clear h
  go_enter Try.func66, Try.ntmps66
  go_wp2
  refine wp_scope_head 0 (fun a' w' => ∃ (i : Nat) (u6 u7 u8 u9 u10 u11 u12 u13 : Value), i ≤ n ∧ a' = { tmps := #[.int .i64 ((n - i : Nat) : Int), .func (Fn.func 67) #[.pointer (some ⟨d, 0, none⟩)] #[], .func (Fn.func 68) #[.pointer (some ⟨l, 0, none⟩)] #[], undef, undef, undef, u6, u7, u8, u9, u10, u11, u12, u13], defers := [] } ∧ PutAt B l d v xs w i w') (fun a' _ => (intOf (a'.tmps.getD 0 undef)).toNat) rfl ⟨0, _, _, _, _, _, _, _, _, by omega, rfl, H.out⟩ ?_
  rintro a' wi ⟨i, u6, u7, u8, u9, u10, u11, u12, u13, hin, rfl, hi⟩
  have HI := Lib.hid hi; clear hi
  by_cases h0 : n - i = 0
  · have hb : (((n - i : Nat) : Int) == 0) = true := by simpa using h0
    have hb2 := Lib.hid (show i = n by omega)
    clear h0
    go_wp2
    simp only [Exit.jump]
    refine bodyPost_ret (results_none rfl _ _ _) rfl ?_
    exact ⟨rfl, by have := HI.out; rw [hb2.out] at this; exact this⟩
  · have hb : (((n - i : Nat) : Int) == 0) = false := by simpa using h0
    have hpi : i + 1 ≤ n := by omega
    have hge : 1 ≤ n - i := by omega
    clear h0
    have hlen : (bys (xs ++ low i v)).length = xs.length + i := by simp [low_length]
    have hl8 : (bys (xs ++ low i v)).length < 70368744177664 := by omega
    have hlen := Lib.hid hlen
    obtain ⟨sv, hl, hown⟩ := HI.out.2.2.2
    have hpos : (0 : Int) < 256 ^ i := Int.pow_pos (by decide)
    have hvi0 : 0 ≤ v / 256 ^ i := Int.ediv_nonneg hv0 (by omega)
    have hvi1 : v / 256 ^ i ≤ 18446744073709551615 := Int.le_trans (Int.ediv_le_self _ hv0) hv1
    have hBw : B ≤ wi.heap.size := by have := Go.lt_of_block hl; omega
    have hne := (tagged_of_own hown).ne HI.out.2.2.1 (by decide)
    have hld : l ≠ d := by
      intro e
      have b := HI.out.2.2.1
      rw [← e, hl] at b
      simp at b
    have HL := Lib.hid hl; have HO := Lib.hid hown; clear hl hown hpos
    have HLD := Lib.hid hld
    clear hld
    go_wp2_with fail
    refine (pop_any d _ _ _ hvi0 hvi1 HI.out.2.2.1).mono ?_
    rintro x w1 ⟨rfl, g1, g2⟩
    have hl1 := Lib.hid (g1.heap HL.out (by simpa using HLD.out))
    have ho1 : w1.ownsRow B 5 1 sv (xs.length + i) (bys (xs ++ low i v)) := HO.out.kept g1.toGrown (by
      rcases ho : sv.ownBlock with _ | k
      · simp
      · right; intro e; injection e with e; exact hne k ho e)
    have hB1 : B ≤ w1.heap.size := Nat.le_trans hBw g1.size
    rw [← hlen.out] at ho1
    have HO1 := Lib.hid ho1; clear ho1
    go_wp2_with fail
    refine (add_any B l sv (bys (xs ++ low i v)) _ _ hB1 hl8 hl1.out HO1.out).mono ?_
    rintro x w2 ⟨rfl, g3⟩
    have hfin := Lib.hid (HI.out.next HL.out HO.out hB hBd g1 g2 hlen.out g3)
    clear g1 g2 g3 hl1 hB1
    have hmi : ((n - i : Nat) : Int) - 1 = ((n - (i + 1) : Nat) : Int) := by omega
    clear hvi0 hvi1
    go_wp2
    go_step3
    exact ⟨rfl, ⟨i + 1, _, _, _, _, _, _, _, _, hpi, rfl, hfin.out⟩, by simp [intOf]; omega⟩


/-- What Put answers: the list xs with the lowest k bytes of v behind it, in memory of its own. -/
def CPutOut (xs : List Int) (k : Nat) (v : Int) (w : World) (x : Ending) (w' : World) : Prop :=
  ∃ sv, x = .returned sv ∧ Chg [] w w' ∧ w'.ownsRow w.heap.size 5 1 sv (xs.length + k) (bys (xs ++ low k v))

set_option maxHeartbeats 1000000 in
theorem cput_any (bv : Value) (xs : List Int) (n v : Int) (k : Nat) (w : World) (hv0 : 0 ≤ v) (hv1 : v ≤ 18446744073709551615) (hz : xs.length < 70368744177000) (hk : widthOf n = (k : Int)) (h : Seen w bv (bys xs)) :
    Calls Try.prog 54 #[bv, .int .i64 n, .int .u64 v] w fun x w' => CPutOut xs k v w x w' := by
  obtain ⟨i0, hi, hz0, hz1, hz2⟩ := info_u8
  have hone := Lib.hid (bys_one xs)
  have hk8 : k ≤ 8 := by
    obtain ⟨k', e, h⟩ := width_nat n
    rw [hk] at e; omega
  have HK := Lib.hid hk; clear hk
  have hm : xs.length + k ≤ maxLen := by unfold maxLen; omega
  have hm0 : 0 + (bys xs).length ≤ maxLen := by rw [bys_length]; omega
  obtain ⟨ao, cap, rfl, hc1, hc2⟩ := h.shape
  rw [bys_length] at h hc1
  have HR := Lib.hid h
  clear h
  go_enter Try.func54, Try.ntmps54
  go_wp2_with fail
  refine (width_any n _).mono ?_
  rintro x w1 ⟨rfl, rfl⟩
  rw [HK.out]
  go_wp2_with (at_make; refine wpList_make_own _ rfl _ _ 92 rfl w.heap.size 5 i0 (.int .u8 0) 1 Try.underlying92 hi hz0 hz1 .i64 .i64 _ (xs.length + k) rfl rfl ?c1 ?c2 ?c3 (Nat.le_refl _) ?_)
  case c1 => simp
  case c2 => rw [hz2]; omega
  case c3 => exact hm
  intro w1 hown1 hg1
  have hc1' := Lib.hid ((Chg.refl [] w).grown hg1 (by simp))
  have HR1 := Lib.hid (HR.out.keep hc1'.out)
  have HO1 := Lib.hid hown1
  have hb1 := hc1'.out.size
  clear hown1 hg1
  go_wp2_with (at_builtin; refine wpList_append_reads _ rfl _ _ 92 34 rfl w.heap.size 5 5 i0 (.int .u8 0) 1 Try.underlying92 Try.underlying34 hi hz0 hz1 hz2 rfl _ _ _ rfl HO1.out _ (bys xs) rfl HR1.out hone.out ?c4 ?c5 hb1 ?_)
  case c4 => exact hm0
  case c5 => simp; omega
  intro v' w2 hown2 hg2
  have hc2' := Lib.hid (hc1'.out.grown hg2 (fun k hk => .inr (by simp [Value.ownBlock] at hk; omega)))
  obtain ⟨ao', cap', hv⟩ := own_shape hown2
  have HO2 := Lib.hid hown2; clear hown2 hg2
  rw [hv]
  have HV := Lib.hid hv; clear hv
  have hb2 := hc2'.out.size
  have hst : PutAt w.heap.size w2.heap.size (w2.heap.size + 1) v xs ((w2.alloc (.cells #[v'] 92)).alloc (.cells #[.int .u64 v, .int .i64 0] 94)) 0 ((w2.alloc (.cells #[v'] 92)).alloc (.cells #[.int .u64 v, .int .i64 0] 94)) := by
    refine ⟨Below.refl _ _, Nat.le_refl _, ?_, v', heap_alloc2_old _ _ _, ?_⟩
    · have := heap_alloc2_new w2 (.cells #[v'] 92) (.cells #[.int .u64 v, .int .i64 0] 94)
      simpa using this
    · have := (HO2.out.alloc (.cells #[v'] 92)).alloc (.cells #[.int .u64 v, .int .i64 0] 94)
      simpa [low] using this
  rw [HV.out] at hst
  have HST := Lib.hid hst; clear hst
  go_wp2_with fail
  refine (carry_put w.heap.size w2.heap.size (w2.heap.size + 1) k v xs _ hk8 hv0 hv1 hz hb2 (by omega) HST.out).mono ?_
  rintro x w3 ⟨rfl, g1, g2, g3, sv, g4, g5⟩
  have c0 := Go.cell_of_one g4
  have hC : Chg [] w w3 := by
    have a := (hc2'.out.alloc (.cells #[.slice ao' xs.length cap'] 92)).alloc (.cells #[.int .u64 v, .int .i64 0] 94)
    exact ⟨g1.os.trans a.os, g1.tape.trans a.tape, g1.output.trans a.output, Nat.le_trans a.size g1.size, fun j hj hn => (g1.block j hj).trans (a.block j hj hn)⟩
  have HC := Lib.hid hC
  have H5 := Lib.hid g5
  clear hC g1 g2 g3 g4 g5
  go_wp2
  go_ret
  exact ⟨sv, rfl, HC.out, H5.out⟩

/-! ### the statements' own example -/

end Go.Proofs.Ytegidbbigjhapaa
