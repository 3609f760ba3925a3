/- Sz, Pu: texts of one group, one behind the other. -/
import Derived.Test.YtkbfbiklnjldgaaV3
import Derived.Test.YtkbfbiklnjldgaaLl
import Derived.Shelf.Strconv.Itoa0
import Derived.Lib.ItoaNum
namespace Go.Proofs.Ytkbfbiklnjldgaa
open Go.RowKit
open Go.Shelf
set_option linter.unusedVariables false

/-- How many bits a number has. -/
def blen (v : Nat) : Nat := Lib.bitLen v

theorem blen_spec (v : Nat) (h : v < 18446744073709551616) : blen v ≤ 64 ∧ v < 2 ^ blen v ∧ (v = 0 ∧ blen v = 0 ∨ 1 ≤ blen v ∧ 2 ^ (blen v - 1) ≤ v) := by
  unfold blen Lib.bitLen
  by_cases h0 : v = 0
  · subst h0
    rw [Lib.bitLenAux_zero]
    simp
  · obtain ⟨a, b, c⟩ := Lib.bitLenAux_bounds 64 v h h0
    have hL : Lib.bitLenAux 64 v ≤ 64 := Lib.bitLen_le v 64 (Nat.le_refl _) h
    exact ⟨hL, c, .inr ⟨a, b⟩⟩

theorem blen_of (v k : Nat) (h : v < 18446744073709551616) (h1 : v < 2 ^ k) (h2 : k = 0 ∨ 2 ^ (k - 1) ≤ v) : blen v = k := by
  obtain ⟨a, b, c⟩ := blen_spec v h
  have hlt : ∀ m n : Nat, 2 ^ m < 2 ^ n → m < n := fun m n h => (Nat.pow_lt_pow_iff_right (by decide)).1 h
  rcases c with ⟨rfl, e⟩ | ⟨c1, c2⟩
  · rw [e]
    rcases h2 with h2 | h2
    · exact h2.symm
    · have := Nat.two_pow_pos (k - 1); omega
  · rcases h2 with h2 | h2
    · subst h2
      have := Nat.two_pow_pos (blen v - 1)
      omega
    · have h3 := hlt (blen v - 1) k (by omega)
      have h4 := hlt (k - 1) (blen v) (by omega)
      by_cases hk : k = 0
      · subst hk; omega
      · omega


set_option maxHeartbeats 400000 in
theorem size_any (v : Nat) (w : World) (hv : v < 18446744073709551616) :
    Calls Try.prog 65 #[.int .u64 v] w fun e w' => ∃ n : Nat, 1 ≤ n ∧ n ≤ 10 ∧ e = .returned (.int .i64 (n : Int)) ∧ w = w' := by
  have hv2 : (v : Int) ≤ 18446744073709551615 := by omega
  go_enter Try.func65, Try.ntmps65
  go_wp2_with fail
  refine (Any.bits_Len64 lays129 _ _ (by omega) hv2).mono ?_
  rintro e w1 ⟨rfl, rfl⟩
  have hL : Lib.bitLen v ≤ 64 := (blen_spec v hv).1
  go_wp2
  go_ret
  refine ⟨(max (Lib.bitLen v) 1 + 7 - 1) / 7, ?_, ?_, ret_int ?_, rfl⟩ <;> omega

end Go.Proofs.Ytkbfbiklnjldgaa

namespace Go.Proofs.Ytkbfbiklnjldgaa
open Go.RowKit
set_option linter.unusedVariables false

/-- What Put tells. -/
def PutOut (l : List Nat) (v : Nat) (w : World) (e : Ending) (w' : World) : Prop := ∃ x, e = .returned x ∧ Made 5 .u8 (l ++ vb v) w x w'

theorem or128 (u : Nat) : bits BinOp.or IntKind.u8 ((u : Int) % 256) 128 = ((u % 128 + 128 : Nat) : Int) := by
  have e1 : (u : Int) % 256 = ((u % 256 : Nat) : Int) := by omega
  have wr : ∀ n : Int, 0 ≤ n → n < 2 ^ 8 → IntKind.u8.wrap n = n := fun n h0 h1 => by
    have e : IntKind.u8.wrap n = n % 256 := by simp [IntKind.wrap, IntKind.bits, IntKind.signed]
    rw [e]; exact Int.emod_eq_of_lt h0 (by simpa using h1)
  have h := (bits_nat .u8 8 (by decide) wr (u % 256) 128 (by omega) (by decide)).2
  rw [e1, show (128 : Int) = ((128 : Nat) : Int) from rfl, h]
  congr 1
  have hd : ∀ n, n < 256 → n ||| 128 = n % 128 + 128 := by decide +kernel
  rw [hd _ (Nat.mod_lt _ (by decide))]
  omega

set_option maxRecDepth 100000 in
set_option maxHeartbeats 1000000 in
theorem put_any (bv : Value) (l : List Nat) (v : Nat) (w : World) (hS : Seen w bv (nv .u8 l)) (hl : l.length < 137438953472) (hv : v < 18446744073709551616) :
    Calls Try.prog 39 #[bv, .int .u64 v] w (PutOut l v w) := by
  obtain ⟨i0, hi, hz0, hz1, hz2⟩ := info_u8
  obtain ⟨ao, cap, rfl, hc1, hc2⟩ := hS.shape
  rw [nv_length] at hc1 hS
  rw [nv_length]
  have HS := Lib.hid hS; clear hS
  unfold maxLen at hc2
  have hone := Lib.hid (nv_one .u8 l)
  have hvl := vb_len64 hv
  unfold PutOut
  go_enter Try.func39, Try.ntmps39
  go_wp2_with fail
  refine wp_scope_pre 0 (fun a' w' => ∃ (u : Nat) (ys : List Nat) (x : Value) (u6 u7 u8 u9 u10 u11 u12 u13 u14 u15 u16 u17 u18 u19 u20 u21 u22 u23 u24 u25 u26 u27 u28 : Value), u < 18446744073709551616 ∧ a' = { tmps := #[.slice ao l.length cap, .int .u64 (u : Int), undef, undef, .slice none 0 0, x, u6, u7, u8, u9, u10, u11, u12, u13, u14, u15, u16, u17, u18, u19, u20, u21, u22, u23, u24, u25, u26, u27, u28], defers := [] } ∧ Chg [] w w' ∧ w'.ownsRow w.heap.size 5 1 x (l ++ ys).length (nv .u8 (l ++ ys)) ∧ ys ++ vb u = vb v) (fun a' _ => (intOf (a'.tmps.getD 1 undef)).toNat) rfl ?_ ?_
  · go_wp2_with fail
    (with_reducible refine (size_any v w hv).mono ?_)
    rintro e w1 ⟨n, hn1, hn2, rfl, rfl⟩
    go_wp2_with (at_make; refine wpList_make_own _ rfl _ _ 30 rfl w.heap.size 5 i0 (.int .u8 0) 1 Try.underlying30 hi hz0 hz1 _ _ _ (l.length + n) rfl rfl ?b1 ?b2 ?b3 (Nat.le_refl _) ?_)
    case b1 => omega
    case b2 => rw [hz2]; omega
    case b3 => unfold maxLen; omega
    intro w1 hown1 hgrow1
    have HC1 := Lib.hid ((Chg.refl [] w).grown hgrow1 (by simp))
    have HO1 := Lib.hid hown1
    have hs1 := HC1.out.size
    clear hown1 hgrow1
    go_wp2_with (at_builtin; refine wpList_append_reads _ rfl _ _ 30 30 rfl w.heap.size 5 5 i0 (.int .u8 0) 1 Try.underlying30 Try.underlying30 hi hz0 hz1 hz2 rfl _ _ _ rfl HO1.out _ (nv .u8 l) rfl (HS.out.keep HC1.out) hone.out ?c1 ?c2 hs1 ?_)
    case c1 => rw [nv_length]; unfold maxLen; omega
    case c2 => rw [nv_length]; omega
    intro v2 w2 hown2 hgrow2
    have HC2 := Lib.hid (HC1.out.grown hgrow2 (fun k hk => .inr (by simp [Value.ownBlock] at hk; omega)))
    obtain ⟨ao2, cap2, rfl⟩ := own_shape hown2
    have HO2 := Lib.hid hown2
    clear hown2 hgrow2 hs1
    go_wp2
    exact ⟨v, [], _, _, _, _, _, _, _, _, _, _, _, _, _, _, _, _, _, _, _, _, _, _, _, _, hv, rfl, HC2.out, by rw [List.append_nil]; exact HO2.out, rfl⟩
  rintro a' wi ⟨u, ys, x, u6, u7, u8, u9, u10, u11, u12, u13, u14, u15, u16, u17, u18, u19, u20, u21, u22, u23, u24, u25, u26, u27, u28, hu, rfl, hci, hown, hys⟩
  have HCI := Lib.hid hci; have HYS := Lib.hid hys
  obtain ⟨xo, xc, rfl⟩ := own_shape hown
  have HO := Lib.hid hown
  have hsz := hci.size
  have hyl : ys.length + 1 ≤ 10 := by
    have h := congrArg List.length hys
    have := vb_len64 hu
    rw [List.length_append] at h
    omega
  clear hci hown hys hvl
  have hlen : (nv .u8 (l ++ ys)).length = (l ++ ys).length := nv_length _ _
  have hlen2 : (l ++ ys).length < 137438953482 := by rw [List.length_append]; omega
  obtain ⟨m, hm⟩ : ∃ m, m = (l ++ ys).length := ⟨_, rfl⟩
  rw [← hm] at HO hlen2 ⊢
  have HM := Lib.hid hm
  clear hlen hm
  by_cases hlt : u < 128
  · have hb : decide ((u : Int) < 128) = true := by simp; omega
    have hmod : (u : Int) % 256 = (u : Int) := by omega
    have E := Lib.hid (vb_lt hlt)
    go_wp2_with (at_builtin; refine wpList_append_own _ rfl _ _ 30 rfl w.heap.size 5 i0 (.int .u8 0) 1 1 Try.underlying30 hi hz0 hz1 hz2 rfl (by decide) _ _ _ rfl (HO.out.alloc _) ⟨wi.heap.size, 0, none⟩ 1 1 [.int .u8 (u : Int)] rfl rfl ?c1 ?c2 ?c3 ?c4 ?c5 ?_)
    case c1 => exact (cell_one_new _ _ _)
    case c2 => simp [Value.oneCell']
    case c3 => unfold maxLen; omega
    case c4 => omega
    case c5 => simp; omega
    intro v' w1 hown' hgrow _
    have hcc := (HCI.out.alloc (.cells #[.int .u8 (u : Int)] 5)).grown hgrow (fun k hk => .inr (own_ge HO.out k hk))
    obtain ⟨ao', cap', rfl⟩ := own_shape hown'
    have HCC := Lib.hid hcc; have HOO := Lib.hid hown'
    clear hcc hown' hgrow
    go_wp2
    simp only [Exit.jump]
    go_ret
    have hfin : l ++ vb v = (l ++ ys) ++ [u] := by rw [← HYS.out, E.out, List.append_assoc]
    refine ⟨_, rfl, HCC.out, ?_⟩
    have hk : m + 1 = (l ++ vb v).length := by rw [hfin, List.length_append, HM.out]; rfl
    rw [← hk]
    exact own_nv HOO.out hfin
  · have hb : decide ((u : Int) < 128) = false := by simp; omega
    have E := Lib.hid (vb_ge hlt)
    have hor := Lib.hid (or128 u)
    go_wp2_with (at_builtin; refine wpList_append_own _ rfl _ _ 30 rfl w.heap.size 5 i0 (.int .u8 0) 1 1 Try.underlying30 hi hz0 hz1 hz2 rfl (by decide) _ _ _ rfl (HO.out.alloc _) ⟨wi.heap.size, 0, none⟩ 1 1 [.int .u8 (bits BinOp.or IntKind.u8 ((u : Int) % 256) 128)] rfl rfl ?c1 ?c2 ?c3 ?c4 ?c5 ?_)
    case c1 => exact (cell_one_new _ _ _)
    case c2 => simp [Value.oneCell']
    case c3 => unfold maxLen; omega
    case c4 => omega
    case c5 => simp; omega
    intro v' w1 hown' hgrow _
    rw [hor.out] at hown'
    have hcc := (HCI.out.alloc _).grown hgrow (fun k hk => .inr (own_ge HO.out k hk))
    obtain ⟨ao', cap', rfl⟩ := own_shape hown'
    have HCC := Lib.hid hcc; have HOO := Lib.hid hown'
    clear hcc hown' hgrow
    have hdiv := Lib.hid (show (u : Int) / 128 = ((u / 128 : Nat) : Int) by omega)
    clear hlen2 hyl hsz hb
    go_wp2
    rw [hdiv.out]
    go_step3
    have hfin : l ++ (ys ++ [u % 128 + 128]) = (l ++ ys) ++ [u % 128 + 128] := by rw [List.append_assoc]
    refine ⟨rfl, ⟨u / 128, ys ++ [u % 128 + 128], _, _, _, _, _, _, _, _, _, _, _, _, _, _, _, _, _, _, _, _, _, _, _, _, by omega, rfl, HCC.out, ?_, ?_⟩, ?_⟩
    · have hk : m + 1 = (l ++ (ys ++ [u % 128 + 128])).length := by rw [hfin, List.length_append, HM.out]; rfl
      rw [← hk]
      exact own_nv HOO.out hfin
    · rw [← HYS.out, E.out, List.append_assoc]; rfl
    · simp [intOf]; omega

set_option maxRecDepth 100000 in
set_option maxHeartbeats 1000000 in
theorem rput_any (bv : Value) (l : List Nat) (v : Nat) (w : World) (hS : Seen w bv (nv .u8 l)) (hl : l.length < 137438953472) (hv : v < 18446744073709551616) :
    Calls Try.prog 27 #[bv, .int .u64 v] w (PutOut l v w) := by
  obtain ⟨i0, hi, hz0, hz1, hz2⟩ := info_u8
  obtain ⟨ao, cap, rfl, hc1, hc2⟩ := hS.shape
  rw [nv_length] at hc1 hS
  rw [nv_length]
  have HC1 := Lib.hid ((Chg.refl [] w).alloc (.cells #[] 5))
  have HS := Lib.hid (hS.keep HC1.out); clear hS
  unfold maxLen at hc2
  have hone := Lib.hid (nv_one .u8 l)
  have hvl := vb_len64 hv
  have ho := Lib.hid (World.ownsRow_made (base := w.heap.size) (e := 5) (size := 1) w #[] 0 (Nat.le_refl _) (by simp) rfl)
  unfold PutOut
  go_enter Try.func27, Try.ntmps27
  go_wp2_with (at_builtin; refine wpList_append_reads _ rfl _ _ 30 30 rfl w.heap.size 5 5 i0 (.int .u8 0) 1 Try.underlying30 Try.underlying30 hi hz0 hz1 hz2 rfl _ _ _ rfl ho.out _ (nv .u8 l) rfl HS.out hone.out ?c1 ?c2 ?c3 ?_)
  case c1 => rw [nv_length]; unfold maxLen; omega
  case c2 => rw [nv_length]; omega
  case c3 => simp
  intro v2 w2 hown2 hgrow2
  have HC2 := Lib.hid (HC1.out.grown hgrow2 (fun k hk => .inr (by simp [Value.ownBlock] at hk; omega)))
  have HO2 := Lib.hid hown2
  obtain ⟨ao2, cap2, rfl⟩ := own_shape hown2
  clear hown2 hgrow2
  go_wp2
  go_loopw [0, 1] (fun x uv wr => ∃ (u : Nat) (ys : List Nat) (xo : Option Addr) (m xc : Nat), u < 18446744073709551616 ∧ uv = .int .u64 (u : Int) ∧ Hid (m = (l ++ ys).length) ∧ x = .slice xo m xc ∧ Chg [] w wr ∧ wr.ownsRow w.heap.size 5 1 (.slice xo m xc) m (nv .u8 (l ++ ys)) ∧ Hid (ys ++ vb u = vb v)) (fun _ uv _ => (intOf uv).toNat)
  case atStart => exact ⟨v, [], _, _, _, hv, rfl, Lib.hid (by simp), rfl, HC2.out, by rw [List.append_nil]; exact HO2.out, Lib.hid rfl⟩
  case round =>
    obtain ⟨u, ys, xo, m, xc, hu, rfl, HM, rfl, hci, hown, HYS⟩ := hrel
    have HCI := Lib.hid hci
    have HO := Lib.hid hown
    have hsz := hci.size
    have hml : m < 137438953482 := by
      have h := congrArg List.length HYS.out
      have := vb_len64 hu
      rw [List.length_append] at h
      rw [HM.out, List.length_append]
      omega
    clear hci hown HO2
    by_cases hlt : 128 ≤ u
    · have hb : decide ((128 : Int) ≤ (u : Int)) = true := by simp; omega
      have E := Lib.hid (vb_ge (show ¬ u < 128 by omega))
      have hor := Lib.hid (or128 u)
      go_wp2_with (at_builtin; refine wpList_append_own _ rfl _ _ 30 rfl w.heap.size 5 i0 (.int .u8 0) 1 1 Try.underlying30 hi hz0 hz1 hz2 rfl (by decide) _ _ _ rfl (HO.out.alloc _) ⟨wr.heap.size, 0, none⟩ 1 1 [.int .u8 (bits BinOp.or IntKind.u8 ((u : Int) % 256) 128)] rfl rfl ?c1 ?c2 ?c3 ?c4 ?c5 ?_)
      case c1 => exact (cell_one_new _ _ _)
      case c2 => simp [Value.oneCell']
      case c3 => unfold maxLen; omega
      case c4 => omega
      case c5 => simp; omega
      intro v' w1 hown' hgrow _
      rw [hor.out] at hown'
      have hcc := (HCI.out.alloc _).grown hgrow (fun k hk => .inr (own_ge HO.out k hk))
      obtain ⟨ao', cap', rfl⟩ := own_shape hown'
      have HCC := Lib.hid hcc; have HOO := Lib.hid hown'
      clear hcc hown' hgrow
      have hdiv := Lib.hid (show (u : Int) / 128 = ((u / 128 : Nat) : Int) by omega)
      clear hml hsz hb
      go_wp2
      rw [hdiv.out]
      go_roundw
      case rel =>
        have hfin : l ++ (ys ++ [u % 128 + 128]) = (l ++ ys) ++ [u % 128 + 128] := by rw [List.append_assoc]
        have hk : m + 1 = (l ++ (ys ++ [u % 128 + 128])).length := by rw [hfin, List.length_append, HM.out]; rfl
        exact ⟨u / 128, ys ++ [u % 128 + 128], _, _, _, by omega, rfl, Lib.hid hk, rfl, HCC.out, own_nv HOO.out hfin, Lib.hid (by rw [← HYS.out, E.out, List.append_assoc]; rfl)⟩
      case measure => simp [intOf]; omega
    · have hb : decide ((128 : Int) ≤ (u : Int)) = false := by simp; omega
      have E := Lib.hid (vb_lt (show u < 128 by omega))
      have hmod : (u : Int) % 256 = (u : Int) := by omega
      go_wp2_with (at_builtin; refine wpList_append_own _ rfl _ _ 30 rfl w.heap.size 5 i0 (.int .u8 0) 1 1 Try.underlying30 hi hz0 hz1 hz2 rfl (by decide) _ _ _ rfl (HO.out.alloc _) ⟨wr.heap.size, 0, none⟩ 1 1 [.int .u8 (u : Int)] rfl rfl ?c1 ?c2 ?c3 ?c4 ?c5 ?_)
      case c1 => exact (cell_one_new _ _ _)
      case c2 => simp [Value.oneCell']
      case c3 => unfold maxLen; omega
      case c4 => omega
      case c5 => simp; omega
      intro v' w1 hown' hgrow _
      have hcc := (HCI.out.alloc (.cells #[.int .u8 (u : Int)] 5)).grown hgrow (fun k hk => .inr (own_ge HO.out k hk))
      obtain ⟨ao', cap', rfl⟩ := own_shape hown'
      have HCC := Lib.hid hcc; have HOO := Lib.hid hown'
      clear hcc hown' hgrow
      go_wp2
      go_ret
      have hfin : l ++ vb v = (l ++ ys) ++ [u] := by rw [← HYS.out, E.out, List.append_assoc]
      refine ⟨_, rfl, HCC.out, ?_⟩
      have hk : m + 1 = (l ++ vb v).length := by rw [hfin, List.length_append, HM.out]; rfl
      rw [← hk]
      exact own_nv HOO.out hfin

theorem put_int (bv : Value) (l : List Nat) (x : Int) (v : Nat) (w : World) (hx : x = (v : Int)) (hS : Seen w bv (nv .u8 l)) (hl : l.length < 137438953472) (hv : v < 18446744073709551616) :
    Calls Try.prog 39 #[bv, .int .u64 x] w (PutOut l v w) := by
  rw [hx]; exact put_any bv l v w hS hl hv

theorem vb300 : vb 300 = [172, 2] := by
  rw [vb_ge (by decide), vb_lt (by decide)]

end Go.Proofs.Ytkbfbiklnjldgaa
