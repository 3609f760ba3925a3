/- The walk of the statement TextBad. -/
import Derived.Test.YtpbclmcngafngaaK6
import Derived.Test.YtpbclmcngafngaaW6
namespace Go.Proofs.Ytpbclmcngafngaa
open Go.RowKit
set_option linter.unusedVariables false

theorem info_errno : ∃ i, Try.prog.info? 27 = some i ∧ i.zero = some (.int .i64 0) ∧ i.size = 1 ∧ i.bytes = 8 :=
  info_parts (show (Try.prog.info? 27).map (fun i => (i.zero, i.size, i.bytes)) = some (some (.int .i64 0), 1, 8) by kernel_rfl)

def fillL (i : Nat) : List Int := List.replicate i 6 ++ List.replicate (18 - i) 0
theorem fillL_set (i : Nat) (h : i < 18) : (iv (fillL i)).set i (.int .i64 6) = iv (fillL (i + 1)) := by
  unfold fillL iv
  rw [List.map_append, List.map_append, List.set_append, if_neg (by simp), List.map_replicate, List.map_replicate, List.map_replicate, List.map_replicate, List.length_replicate, Nat.sub_self]
  rw [show 18 - i = (18 - (i + 1)) + 1 by omega, List.replicate_succ, List.set_cons_zero, List.replicate_succ', List.append_assoc]
  rfl

theorem bad_size : ∀ k, k < 18 → (badL.getD k ByteArray.empty).size ≤ 100 := by decide +kernel
theorem fill_end (k : Nat) (h : k < 18) : ((iv (fillL 18)).set 14 (.int .i64 7))[k]? = some (.int .i64 (if k = 14 then 7 else 6))  := by
  have h1 : ∀ k, k < 18 → ((fillL 18).set 14 7)[k]? = some (if k = 14 then 7 else 6) := by decide +kernel
  have e : (iv (fillL 18)).set 14 (.int .i64 7) = iv ((fillL 18).set 14 7) := by simp [iv, List.map_set]
  rw [e, iv, List.getElem?_map, h1 k h]
  rfl

set_option maxRecDepth 100000 in
set_option maxHeartbeats 4000000 in
theorem walk_TextBad (a0 : Int) (w : World) (w0 : (Lit.int .i64 a0).wf = true) :
    Calls Try.prog 10 #[.int .i64 a0] w fun e w' => e = .returned (.bool true) ∧ Below w.heap.size w w' := by
  obtain ⟨i0, hi, hz0, hz1, hz2⟩ := info_errno
  go_enter Try.func10, Try.ntmps10
  go_wp2_with fail
  (with_reducible refine (known6_any _).mono ?_)
  rintro e w1 ⟨rfl, hk⟩
  have HK1 := Lib.hid hk
  clear hk
  have hlt := within_lt a0 18 (by decide)
  have HW := Lib.hid (fun wx => w6_int a0 18 18 wx rfl (by decide) (by decide) w0)
  obtain ⟨k, hk⟩ : ∃ k, k = (a0 % ((18 : Nat) : Int)).toNat := ⟨_, rfl⟩
  rw [← hk] at hlt HW
  clear hk
  have HP := Lib.hid (bad_parse k hlt)
  have hlb : (w1.alloc (.cells (sv badL).toArray 9)).heap[w1.heap.size]? = some (.cells (sv badL).toArray 9 (0, 0)) := heap_alloc_new _ _
  have hcell := lit_cells hlb k hlt
  rw [Nat.zero_add] at hcell
  obtain ⟨x, hx⟩ : ∃ x, x = badL.getD k ByteArray.empty := ⟨_, rfl⟩
  rw [← hx] at HP hcell
  have hsz : x.size ≤ 100 := by rw [hx]; exact bad_size k hlt
  have HCL := Lib.hid hcell
  clear hx hlb hcell
  go_wp2_with (at_make; refine wpList_make_full _ rfl _ _ 54 rfl w1.heap.size 27 i0 (.int .i64 0) 1 Try.underlying54 hi hz0 hz1 .i64 .i64 _ _ 18 rfl rfl rfl rfl ?c1 ?c2 ?c3 ?_)
  case c1 => rw [hz2]; omega
  case c2 => decide
  case c3 => simp
  intro w2 hown2 hg2
  have HO2 := Lib.hid (show w2.ownsRow w1.heap.size 27 1 (.slice (some ⟨w1.heap.size + 1, 0, none⟩) 18 18) 18 (iv (fillL 0)) by
    rw [toList_madeCells_one] at hown2
    simpa [iv, fillL] using hown2)
  have hcx : w2.cell? ⟨w1.heap.size, k, none⟩ = some (.string x) := ((Chg.refl [] _).grown hg2 (by simp)).cell HCL.out (by simp)
  have HCX := Lib.hid hcx
  have HK2 := Lib.hid ((HK1.out.alloc _).grown hg2 (by simp))
  clear hown2 hg2 hcx HCL
  have hB1 : w.heap.size ≤ w1.heap.size := HK1.out.size
  obtain ⟨g, hg⟩ : ∃ g, g = w1.heap.size + 1 := ⟨_, rfl⟩
  rw [← hg] at HO2 ⊢
  have HG := Lib.hid hg
  clear hg
  go_wp2
  go_loopw [5] (fun y w' => ∃ i : Nat, y = .int .i64 (i : Int) ∧ i ≤ 18 ∧ w'.ownsRow w1.heap.size 27 1 (.slice (some ⟨g, 0, none⟩) 18 18) 18 (iv (fillL i)) ∧ Chg [g] w2 w') (fun y _ => 18 - (intOf y).toNat)
  case atStart => exact ⟨0, rfl, by omega, HO2.out, Chg.refl _ _⟩
  case round =>
    obtain ⟨i, rfl, hi18, hown, hc⟩ := hrel
    obtain ⟨g', e, -, -, hfz, hcl⟩ := own_ptr hown (by decide)
    injection e with e
    injection e with e
    subst e
    have HO := Lib.hid hown; have HC := Lib.hid hc
    by_cases hl : i < 18
    · have hf := hfz i
      have hci : ∃ u, (iv (fillL i))[i]? = some u := ⟨_, List.getElem?_eq_getElem (by simp [fillL]; omega)⟩
      obtain ⟨u, hu⟩ := hci
      have hcu := hcl i u hu
      clear hown hc hfz hcl hu
      go_wp2
      go_roundw
      case rel =>
        refine ⟨i + 1, by go_num, by omega, ?_, HC.out.setCell (by simp) _⟩
        rw [← fillL_set i hl]
        exact own_set HO.out i (by omega) _
      case measure => simp [intOf]; omega
    · have ei : i = 18 := by omega
      subst ei
      have hf := hfz 14
      have hcu := hcl 14 (.int .i64 6) rfl
      have HOS := Lib.hid (own_set HO.out 14 (by decide) (.int .i64 7))
      clear hown hc hfz hcl
      have hne : w1.heap.size ≠ g := by rw [HG.out]; omega
      have HCS := Lib.hid (HC.out.setCell (p := ⟨g, 14, none⟩) (by simp) (.int .i64 7))
      go_wp2_with fail
      generalize World.setCell _ _ _ = W3 at HOS HCS ⊢
      (with_reducible refine (HW.out _).mono ?_)
      rintro e w4 ⟨rfl, rfl⟩
      have hx4 := HCS.out.cell HCX.out (by simpa using hne)
      have HPA := Lib.hid (parse_any x W3 (by omega))
      rw [HP.out] at HPA
      have HK3 := Lib.hid (HK2.out.trans HCS.out (by intro t ht; simp at ht; subst ht; right; have := HG.out; omega))
      go_wp2_with fail
      (with_reducible refine HPA.out.mono ?_)
      rintro e w5 ⟨hk5, hout⟩
      have HK5 := Lib.hid (HK3.out.trans hk5 (by simp))
      obtain ⟨g5, e5, -, -, -, hcl5⟩ := own_ptr (own_chg HOS.out hk5 (by simp)) (by decide)
      injection e5 with e5
      injection e5 with e5
      subst e5
      have hck := hcl5 k _ (fill_end k hlt)
      clear hcl5 hk5 hx4 hf hcu
      obtain ⟨ev, hev⟩ : ∃ ev : Int, ev = if k = 14 then 7 else 6 := ⟨_, rfl⟩
      rw [← hev] at hck hout
      have hev0 : ev ≠ 0 := by rw [hev]; split <;> decide
      clear hev
      rcases hout with ⟨h0, -⟩ | ⟨-, rfl⟩
      · exact absurd h0 hev0
      · clear hev0
        go_wp2
        go_ret
        exact ⟨by simp, HK5.out.below (Nat.le_refl _) (by simp)⟩

end Go.Proofs.Ytpbclmcngafngaa
