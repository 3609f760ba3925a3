/- The walk of the statement VarintBad. -/
import Derived.Test.YtmdnjcgfcofmiaaWRows
namespace Go.Proofs.Ytmdnjcgfcofmiaa
open Go.RowKit
set_option linter.unusedVariables false

theorem bit7 (s : Nat) (h : s < 256) : bits BinOp.or IntKind.u8 (s : Int) 128 = ((s % 128 + 128 : Nat) : Int) := by
  have := or128 s
  rwa [show (s : Int) % 256 = (s : Int) by omega] at this

theorem getD_left (X : List Nat) (c i : Nat) (h : i < X.length) : (X ++ [c]).getD i 0 = X.getD i 0 := by simp [List.getD, List.getElem?_append_left h]
theorem getD_last (X : List Nat) (c : Nat) : (X ++ [c]).getD X.length 0 = c := by simp [List.getD]

theorem ten_over (c : Nat) (h : 1 < c) : gl 0 [128, 128, 128, 128, 128, 128, 128, 128, 128, c] = (0, 14) := by
  refine gl_over _ (by simp) (fun i hi => ?_) (by simpa using h)
  have : i = 0 ∨ i = 1 ∨ i = 2 ∨ i = 3 ∨ i = 4 ∨ i = 5 ∨ i = 6 ∨ i = 7 ∨ i = 8 := by omega
  rcases this with rfl | rfl | rfl | rfl | rfl | rfl | rfl | rfl | rfl <;> simp

theorem ten_bytes (c : Nat) (h : c < 256) : ∀ x ∈ [128, 128, 128, 128, 128, 128, 128, 128, 128, c], x < 2 ^ 8 := by
  intro x hx
  simp at hx
  omega

theorem ten_seen (T : TypeId) (w : World) (c : Nat) (x : Int) (hx : x = (c : Int)) : Seen (w.alloc (.cells #[.int .u8 128, .int .u8 128, .int .u8 128, .int .u8 128, .int .u8 128, .int .u8 128, .int .u8 128, .int .u8 128, .int .u8 128, .int .u8 x] T)) (.slice (some ⟨w.heap.size, 0, none⟩) 10 10) (nv .u8 [128, 128, 128, 128, 128, 128, 128, 128, 128, c]) := by
  have h := World.ownsRow_lit (base := w.heap.size) (e := T) (size := 1) w #[.int .u8 128, .int .u8 128, .int .u8 128, .int .u8 128, .int .u8 128, .int .u8 128, .int .u8 128, .int .u8 128, .int .u8 128, .int .u8 x] 10 (Nat.le_refl _) (by decide) rfl
  have e : nv .u8 [128, 128, 128, 128, 128, 128, 128, 128, 128, c] = (#[.int .u8 128, .int .u8 128, .int .u8 128, .int .u8 128, .int .u8 128, .int .u8 128, .int .u8 128, .int .u8 128, .int .u8 128, .int .u8 x] : Array Value).toList := by simp [nv, hx]
  rw [e]
  exact (reads_of_own h).seen

/-- The length of a slice value. -/
def slen : Value → Nat | .slice _ n _ => n | _ => 0

theorem own_some {w : World} {B T n cap : Nat} {ao : Option Addr} {xs : List Value} (h : w.ownsRow B T 1 (.slice ao n cap) n xs) (hn : 0 < n) : ∃ g, ao = some ⟨g, 0, none⟩ := by
  obtain ⟨hl, h1⟩ := h
  rcases h1 with ⟨e, rfl⟩ | ⟨g', cap', cur, e, _⟩
  · omega
  · injection e with e1 e2 e3
    exact ⟨g', e1⟩

theorem top_set (v s : Nat) (K : Nat) (hK : K + 1 = (vb v).length) : ∀ i, i < K + 1 → 128 ≤ ((vb v).set K (s % 128 + 128)).getD i 0 := by
  intro i hi
  by_cases h : i = K
  · subst h
    simp [List.getD, show i < (vb v).length by omega]
  · have := vb_top v i (by omega)
    simp only [List.getD, List.getElem?_set, if_neg (show ¬ K = i by omega)] at *
    exact this

theorem set_bytes (v s K : Nat) : ∀ x ∈ (vb v).set K (s % 128 + 128), x < 2 ^ 8 := by
  intro x hx
  rcases List.mem_or_eq_of_mem_set hx with h | h
  · exact vb_bytes v x h
  · omega

set_option maxRecDepth 100000 in
set_option maxHeartbeats 1000000 in
theorem walk_VarintBad (a0 : Int) (a1 : Int) (a2 : Int) (w : World) (w0 : (Lit.int .u64 a0).wf = true) (w1 : (Lit.int .i64 a1).wf = true) (w2 : (Lit.int .u8 a2).wf = true) :
    Calls Try.prog 8 #[.int .u64 a0, .int .i64 a1, .int .u8 a2] w fun e w' => e = .returned (.bool true) ∧ Below w.heap.size w w' := by
  have b1 := wf_u64 w0
  have b2 := wf_u8 w2
  have W1 := Lib.hid w1; clear w0 w1 w2
  obtain ⟨v, rfl⟩ := Int.eq_ofNat_of_zero_le b1.1
  obtain ⟨lst, rfl⟩ := Int.eq_ofNat_of_zero_le b2.1
  have hv : v < 18446744073709551616 := by omega
  have hls : lst < 256 := by omega
  clear b1 b2
  have hvl := vb_len_le 7 (v / 256) (by
    have : (128 : Nat) ^ (7 + 1) = 72057594037927936 := by decide
    omega)
  obtain ⟨K, hK⟩ : ∃ K, K + 1 = (vb (v / 256)).length := ⟨(vb (v / 256)).length - 1, by omega⟩
  have hK8 : K < 8 := by omega
  clear hvl
  have HK := Lib.hid hK; clear hK
  go_enter Try.func8, Try.ntmps8
  go_wp2_with fail
  (with_reducible refine (known_any _).mono ?_)
  rintro x w1 ⟨rfl, hk⟩
  have HC1 := Lib.hid hk; clear hk
  go_wp2_with fail
  (with_reducible refine (put_int _ [] _ (v / 256) _ (by omega) (Seen.nil _) (by simp) (by omega)).mono ?_)
  rintro x w2 ⟨y, rfl, h1, h2⟩
  obtain ⟨ao, cap, rfl⟩ := own_shape h2
  rw [List.nil_append, ← HK.out] at h2
  rw [List.nil_append, ← HK.out]
  obtain ⟨g, rfl⟩ := own_some h2 (by omega)
  have HC2 := Lib.hid (HC1.out.trans h1 (by simp))
  have hgt : decide ((8 : Int) < ((K + 1 : Nat) : Int)) = false := by simp; omega
  have hc := own_cell h2 HK.out.symm K (by omega)
  have hf := h2.frozenAt K
  obtain ⟨s, hs⟩ : ∃ s, s = (vb (v / 256)).getD K 0 := ⟨_, rfl⟩
  rw [← hs] at hc
  have hs8 : s < 256 := by rw [hs]; exact vb_bytes _ _ (getD_mem (by rw [← HK.out]; omega))
  have HSB := Lib.hid (bit7 s hs8)
  have hst := h2.stored K (.int .u8 (bits BinOp.or IntKind.u8 (s : Int) 128))
  have hst := hst.1
  rw [HSB.out, nv_set, ← HSB.out] at hst
  have HST := Lib.hid (reads_of_own hst)
  have HC3 := Lib.hid (HC2.out.setCell (p := ⟨g, K, none⟩) (.inr (by have := own_ge h2 g rfl; have := HC1.out.size; simp; omega)) (.int .u8 (bits BinOp.or IntKind.u8 (s : Int) 128)))
  have hgb := own_ge h2 g rfl
  clear h1 h2 hs hst
  have HT := Lib.hid (top_set (v / 256) s K HK.out)
  have HBY := Lib.hid (set_bytes (v / 256) s K)
  obtain ⟨bl, hbl⟩ : ∃ bl, bl = (vb (v / 256)).set K (s % 128 + 128) := ⟨_, rfl⟩
  rw [← hbl] at HT HBY HST
  have hone := Lib.hid (nv_one .u8 bl)
  obtain ⟨i0, hi, hz0, hz1, hz2⟩ := info_u8
  have HLB := Lib.hid (show bl.length = K + 1 by rw [hbl, List.length_set, HK.out])
  clear hbl
  have hsz3 : (w2.setCell ⟨g, K, none⟩ (.int .u8 (bits BinOp.or IntKind.u8 (s : Int) 128))).heap.size = w2.heap.size := by simp
  have ho := World.ownsRow_made (base := w2.heap.size) (e := 5) (size := 1) (w2.setCell ⟨g, K, none⟩ (.int .u8 (bits BinOp.or IntKind.u8 (s : Int) 128))) #[] 0 (by rw [hsz3]; exact Nat.le_refl _) (by simp) rfl
  rw [hsz3] at ho
  have hg2 : g < w2.heap.size := by
    rcases HST.out with ⟨e, _⟩ | ⟨g', off, cap', e, _, _, hcell⟩
    · injection e with e1; cases e1
    · have := World.block_lt_of_cell? w2 ⟨g, K, none⟩ (by assumption)
      exact this
  have HO := Lib.hid ho; have HZ3 := Lib.hid hsz3
  clear ho hsz3
  go_wp2_with (at_builtin; refine wpList_append_reads _ rfl _ _ 22 22 rfl w2.heap.size 5 5 i0 (.int .u8 0) 1 Try.underlying22 Try.underlying22 hi hz0 hz1 hz2 rfl _ 0 [] rfl HO.out _ (nv .u8 bl) rfl (HST.out.keep ((Chg.refl [] _).alloc _) (by simp)).seen hone.out ?c1 ?c2 ?c3 ?_)
  case c1 => rw [nv_length]; unfold maxLen; have := HLB.out; omega
  case c2 => rw [nv_length]; have := HLB.out; omega
  case c3 => simp
  generalize (w2.setCell ⟨g, K, none⟩ (.int .u8 (bits BinOp.or IntKind.u8 (s : Int) 128))) = w3 at *
  intro v' w4 hown hgrow
  rw [← HZ3.out] at hown
  have HC4 := Lib.hid (((Chg.refl [] w3).alloc (.cells #[] 5)).grown hgrow (fun k hk => .inr (by simp [Value.ownBlock] at hk; have := HZ3.out; omega)))
  obtain ⟨ao4, cap4, rfl⟩ := own_shape hown
  have HO4 := Lib.hid hown
  clear hown hgrow hc hf hgt HO hst
  obtain ⟨k3, hk3⟩ : ∃ n, n = (a1 % (3 : Nat)).toNat := ⟨_, rfl⟩
  have h3lt : k3 < 3 := by rw [hk3]; exact within_lt a1 3 (by decide)
  obtain ⟨k4, hk4⟩ : ∃ n, n = (a1 % (4 : Nat)).toNat := ⟨_, rfl⟩
  have h4lt : k4 < 4 := by rw [hk4]; exact within_lt a1 4 (by decide)
  have HK3 := Lib.hid hk3; have HK4 := Lib.hid hk4; clear hk3 hk4
  have hbc : cap ≤ 2 ^ 63 - 1 := by
    obtain ⟨_, _, e, _, h⟩ := HST.out.shape
    injection e with e1 e2 e3
    unfold maxLen at h
    omega
  go_wp2
  go_loopw [8] (fun x wr => ∃ (X : List Nat) (xo : Option Addr) (m xc : Nat), x = .slice xo m xc ∧ Hid (m = X.length) ∧ K + 1 ≤ m ∧ m ≤ 9 ∧ Hid (∀ i, i < m → 128 ≤ X.getD i 0) ∧ Hid (∀ y ∈ X, y < 2 ^ 8) ∧ Chg [] w3 wr ∧ wr.ownsRow w3.heap.size 5 1 (.slice xo m xc) m (nv .u8 X)) (fun x _ => 9 - slen x)
  case atStart => exact ⟨bl, ao4, bl.length, cap4, by rw [HLB.out], Lib.hid rfl, by rw [HLB.out]; omega, by rw [HLB.out]; omega, Lib.hid (by rw [HLB.out]; exact HT.out), HBY, HC4.out, HO4.out⟩
  case round =>
    obtain ⟨X, xo, m, xc, rfl, HM, hm1, hm2, HX, HXB, hci, hown⟩ := hrel
    have HCI := Lib.hid hci; have HO := Lib.hid hown
    have hsz := hci.size
    clear hci hown HO4 HC4
    by_cases hgo : m < 9 ∧ 0 < k3 ∧ m < K + 1 + k4
    · obtain ⟨h9, h3, h4⟩ := hgo
      go_wp2_with fail
      (with_reducible refine (within_int a1 3 3 _ rfl (by decide) (by decide) W1.out).mono ?_)
      rintro x w5 ⟨rfl, rfl⟩
      rw [← HK3.out]
      go_wp2_with fail
      (with_reducible refine (within_int a1 4 4 _ rfl (by decide) (by decide) W1.out).mono ?_)
      rintro x w5 ⟨rfl, rfl⟩
      rw [← HK4.out]
      go_wp2_with (at_builtin; refine wpList_append_own _ rfl _ _ 22 rfl w3.heap.size 5 i0 (.int .u8 0) 1 1 Try.underlying22 hi hz0 hz1 hz2 rfl (by decide) _ _ _ rfl (HO.out.alloc _) ⟨wr.heap.size, 0, none⟩ 1 1 [.int .u8 128] rfl rfl ?c1 ?c2 ?c3 ?c4 ?c5 ?_)
      case c1 => exact (cell_one_new _ _ _)
      case c2 => simp [Value.oneCell']
      case c3 => unfold maxLen; omega
      case c4 => omega
      case c5 => simp; omega
      intro v' w5 hown hgrow _
      have HC5 := Lib.hid ((HCI.out.alloc (.cells #[.int .u8 128] 5)).grown hgrow (fun k hk => .inr (own_ge HO.out k hk)))
      obtain ⟨ao5, cap5, rfl⟩ := own_shape hown
      have HO5 := Lib.hid (own_nv (c := 128) hown rfl)
      clear hown hgrow
      have hT5 : ∀ i, i < m + 1 → 128 ≤ (X ++ [128]).getD i 0 := fun i hi => by
        by_cases h : i < X.length
        · rw [getD_left X 128 i h]
          exact HX.out i (by rw [HM.out]; exact h)
        · have : i = X.length := by have := HM.out; omega
          rw [this, getD_last]
          exact Nat.le_refl _
      have HT5 := Lib.hid hT5
      have HB5 := Lib.hid (show ∀ y ∈ X ++ [128], y < 2 ^ 8 from fun y hy => by
        rcases List.mem_append.1 hy with h | h
        · exact HXB.out y h
        · simp at h; omega)
      clear hT5
      go_wp2
      go_roundw
      case rel => exact ⟨X ++ [128], ao5, m + 1, cap5, rfl, Lib.hid (by rw [List.length_append, HM.out]; rfl), by omega, by omega, HT5, HB5, HC5.out, HO5.out⟩
      case measure => simp [slen]; omega
    · have hex : 9 ≤ m ∨ m < 9 ∧ k3 = 0 ∨ m < 9 ∧ 0 < k3 ∧ K + 1 + k4 ≤ m := by omega
      clear hgo
      have HT10 := Lib.hid (show gl 0 (X ++ [0]) = (0, 10) by
        have hm := HM.out
        refine gl_bad _ m (by rw [List.length_append, ← hm]; simp) (by omega) hm2 (fun i hi => ?_) ?_
        · rw [getD_left X 0 i (by omega)]
          exact HX.out i hi
        · rw [hm, getD_last])
      have HB10 := Lib.hid (show ∀ y ∈ X ++ [0], y < 2 ^ 8 from fun y hy => by
        rcases List.mem_append.1 hy with h | h
        · exact HXB.out y h
        · simp at h; omega)
      have HB8 := Lib.hid (gl_cut bl (by rw [HLB.out]; omega) (by rw [HLB.out]; exact HT.out))
      rcases hex with hex | ⟨hex, h3⟩ | ⟨hex, h3, h4⟩
      case' inr.inl =>
        subst h3
        go_wp2_with fail
        (with_reducible refine (within_int a1 3 3 _ rfl (by decide) (by decide) W1.out).mono ?_)
        rintro x w5 ⟨rfl, rfl⟩
        rw [← HK3.out]
      case' inr.inr =>
        go_wp2_with fail
        (with_reducible refine (within_int a1 3 3 _ rfl (by decide) (by decide) W1.out).mono ?_)
        rintro x w5 ⟨rfl, rfl⟩
        rw [← HK3.out]
        go_wp2_with fail
        (with_reducible refine (within_int a1 4 4 _ rfl (by decide) (by decide) W1.out).mono ?_)
        rintro x w5 ⟨rfl, rfl⟩
        rw [← HK4.out]
      all_goals
        go_wp2_with (at_builtin; refine wpList_append_own _ rfl _ _ 22 rfl w3.heap.size 5 i0 (.int .u8 0) 1 1 Try.underlying22 hi hz0 hz1 hz2 rfl (by decide) _ _ _ rfl (HO.out.alloc _) ⟨wr.heap.size, 0, none⟩ 1 1 [.int .u8 0] rfl rfl ?c1 ?c2 ?c3 ?c4 ?c5 ?_)
        try case c1 => exact (cell_one_new _ _ _)
        case c2 => simp [Value.oneCell']
        case c3 => unfold maxLen; omega
        case c4 => omega
        case c5 => first | (simp; omega) | omega
        intro v' w5 hown hgrow _
        have HC5 := Lib.hid ((HCI.out.alloc (.cells #[.int .u8 0] 5)).grown hgrow (fun k hk => .inr (own_ge HO.out k hk)))
        obtain ⟨ao5, cap5, rfl⟩ := own_shape hown
        have HO5 := Lib.hid (own_nv (c := 0) hown rfl)
        clear hown hgrow
        have HR5 := Lib.hid (reads_of_own HO5.out)
        clear HO5
        go_wp2_with fail
        (with_reducible refine (get_any _ (X ++ [0]) w5 HR5.out.seen HB10.out).mono ?_)
        rintro x w6 ⟨rfl, hc6⟩
        rw [HT10.out]
        have HC6 := Lib.hid (HC5.out.trans hc6 (by simp))
        clear hc6
        go_wp2_with fail
        (with_reducible refine (get_any _ _ _ (ten_seen 5 w6 (2 + lst % 254) _ (by omega)) (ten_bytes _ (by omega))).mono ?_)
        rintro x w7 ⟨rfl, hc7⟩
        rw [ten_over _ (by omega)]
        have HC7 := Lib.hid ((HC6.out.alloc _).trans hc7 (by simp))
        clear hc7
        go_wp2_with fail
        (with_reducible refine (get_any _ bl _ (HST.out.keep HC7.out (by simp)).seen HBY.out).mono ?_)
        rintro x w8 ⟨rfl, hc8⟩
        rw [HB8.out]
        have HC8 := Lib.hid ((HC3.out.trans HC7.out (by simp)).trans hc8 (by simp))
        clear hc8
        go_wp2
        go_ret
        exact ⟨rfl, HC8.out.below (Nat.le_refl _) (by simp)⟩

end Go.Proofs.Ytmdnjcgfcofmiaa
