/- plain: reading: taken, value, values. -/
import Derived.Test.YtndbgemdklnmlaaDoorUe
namespace Go.Proofs.YtndbgemdklnmlaaDoor
open Go.RowKit
set_option linter.unusedVariables false
set_option linter.unusedSimpArgs false

/-- The reader stands: what is left, the error (behind an error nothing is left). -/
structure PR (w : World) (r M : Nat) (b : List Nat) (e : Int) : Prop where
  rd : Rd w r (zi b) e M
  by' : ∀ x ∈ b, x < 256
  bl : b.length ≤ 140737488355328
  ok : e ≠ 0 → b = []
  rM : r < M

/-- One value read, whatever the error is. -/
def rdE (k : Nat) (b : List Nat) (e : Int) : V × List Nat × Int := if e = 0 then rd1 k b else (⟨0, e0⟩, [], e)

theorem rd1_ok (k : Nat) (b : List Nat) : (rd1 k b).2.2 ≠ 0 → (rd1 k b).2.1 = [] ∧ (rd1 k b).1 = ⟨0, e0⟩ := by
  unfold rd1
  split
  · split <;> simp
  · split
    · split <;> simp
    · split
      · simp
      · split
        · simp
        · split <;> simp

theorem nm_take_lt {b : List Nat} (h : ∀ x ∈ b, x < 256) (k : Nat) : nm (b.take k) < 256 ^ k := by
  have h1 := nm_lt8 (a := b.take k) fun x hx => h x (List.mem_of_mem_take hx)
  refine Nat.lt_of_lt_of_le h1 (Nat.pow_le_pow_right (by decide) ?_)
  rw [List.length_take]; omega

/-- Get of the reader. -/
theorem prGet {w : World} {r M : Nat} {b : List Nat} {e : Int} (h : PR w r M b e) (n : Nat) (h1 : 1 ≤ n) (h8 : n ≤ 8) :
    Calls Tryd.prog 47 #[.pointer (some ⟨r, 0, none⟩), .int .i64 (n : Int)] w fun x w' =>
      if b.length < n then x = .returned (.int .u64 0) ∧ Chg [r] w w' ∧ PR w' r M [] (if e = 0 then 8 else e)
      else x = .returned (.int .u64 ((nm (b.take n) : Nat) : Int)) ∧ Chg [r] w w' ∧ PR w' r M (b.drop n) e := by
  have hw : widthOf (n : Int) = (n : Int) := by unfold widthOf; rw [if_neg (by omega)]
  by_cases hn : b.length < n
  · simp only [if_pos hn]
    refine (get_no r n e w (zi b) (by rw [zi_length]; exact h.bl) h.rd (fun he => by rw [h.ok he]; rfl) (by rw [hw, zi_length]; omega)).mono ?_
    rintro x w' ⟨rfl, hc, hr⟩
    exact ⟨rfl, hc, ⟨hr, by simp, by simp, fun _ => rfl, h.rM⟩⟩
  · simp only [if_neg hn]
    refine (get_yes r n e n w (zi b) (by rw [zi_length]; exact h.bl) (zi_wf h.by') h.rd hw (by rw [zi_length]; omega)).mono ?_
    rintro x w' ⟨rfl, hc, hr⟩
    rw [zi_take, num_zi]
    rw [zi_drop] at hr
    refine ⟨rfl, hc, ⟨hr, fun x hx => h.by' x (List.mem_of_mem_drop hx), by rw [List.length_drop]; have := h.bl; omega, fun he => ?_, h.rM⟩⟩
    rw [h.ok he]; simp

/-- Take of the reader, as a row. -/
theorem prTake {w : World} {r M : Nat} {b : List Nat} {e : Int} (h : PR w r M b e) (n : Nat) :
    Calls Tryd.prog 57 #[.pointer (some ⟨r, 0, none⟩), .int .i64 (n : Int)] w fun x w' => ∃ v, x = .returned v ∧ Chg [r] w w' ∧
      (if b.length < n then v = .slice none 0 0 ∧ PR w' r M [] (if e = 0 then 8 else e) else w'.ownsRow w.heap.size 5 1 v n (nv .u8 (b.take n)) ∧ PR w' r M (b.drop n) e) := by
  by_cases hn : b.length < n
  · simp only [if_pos hn]
    refine (take_no r n e w (zi b) (by rw [zi_length]; exact h.bl) h.rd (fun he => by rw [h.ok he]; rfl) (by rw [zi_length]; omega)).mono ?_
    rintro x w' ⟨rfl, hc, hr⟩
    exact ⟨_, rfl, hc, rfl, ⟨hr, by simp, by simp, fun _ => rfl, h.rM⟩⟩
  · simp only [if_neg hn]
    refine (rtake_any r n n e w (zi b) (by rw [zi_length]; exact h.bl) h.rd (by omega) (by rw [zi_length]; omega)).mono ?_
    rintro x w' ⟨v, rfl, hc, hr, ho⟩
    rw [zi_take, bys_zi] at ho
    rw [zi_drop] at hr
    refine ⟨v, rfl, hc, ho, ⟨hr, fun x hx => h.by' x (List.mem_of_mem_drop hx), by rw [List.length_drop]; have := h.bl; omega, fun he => ?_, h.rM⟩⟩
    rw [h.ok he]; simp

theorem str0 : str [] = e0 := rfl

/-- What taken answers, of the text's length. -/
def tkS (b : List Nat) (e : Int) (n : Nat) : ByteArray × List Nat × Int :=
  if 100 < n then (e0, [], if e = 0 then 5 else e) else if b.length < n then (e0, [], if e = 0 then 8 else e) else (str (b.take n), b.drop n, e)

set_option maxRecDepth 100000 in
set_option maxHeartbeats 4000000 in
theorem taken_any {w : World} {r M : Nat} {b : List Nat} {e : Int} (h : PR w r M b e) (n : Nat) (hn : n < 4294967296) :
    Calls Tryd.prog 48 #[.pointer (some ⟨r, 0, none⟩), .int .u64 (n : Int)] w fun x w' => x = .returned (.string (tkS b e n).1) ∧ Chg [r] w w' ∧ PR w' r M (tkS b e n).2.1 (tkS b e n).2.2 := by
  by_cases h100 : 100 < n
  · have E := Lib.hid (show tkS b e n = (e0, [], if e = 0 then 5 else e) by unfold tkS; rw [if_pos h100])
    rw [E.out]
    have HF := Lib.hid (show Calls Tryd.prog 56 #[.pointer (some ⟨r, 0, none⟩), .int .i64 5] w fun x w' => x = .returned (.tuple #[]) ∧ Chg [r] w w' ∧ PR w' r M [] (if e = 0 then 5 else e) from by
      by_cases he : e = 0
      · subst he
        rw [if_pos rfl]
        refine (fail_set (M := M) r 5 w (zi b) h.rd (by decide)).mono ?_
        rintro x w' ⟨rfl, hc, hr⟩
        exact ⟨rfl, hc, ⟨hr.mono (Nat.zero_le _), by simp, by simp, fun _ => rfl, h.rM⟩⟩
      · rw [if_neg he]
        refine (fail_kept (M := M) r e 5 w (zi b) h.rd (.inl he)).mono ?_
        rintro x w' ⟨rfl, rfl⟩
        refine ⟨rfl, Chg.refl _ _, ?_⟩
        have h2 := h
        rw [h.ok he] at h2
        exact h2)
    have hd : ((100 : Int) < (n : Int)) := by omega
    obtain ⟨e', he'⟩ : ∃ e' : Int, e' = if e = 0 then 5 else e := ⟨_, rfl⟩
    rw [← he'] at HF ⊢
    clear h h100 he' E
    go_enter Tryd.func48, Tryd.ntmps48
    go_wp2_with (first
      | (go_at_call 56; (with_reducible refine HF.out.mono ?_); rintro e1 w2 ⟨rfl, hc, hp⟩; have HC := Lib.hid hc; have HP := Lib.hid hp; clear hc hp)
      | fail)
    go_ret
    exact ⟨rfl, HC.out, HP.out⟩
  · have hd : ¬ ((100 : Int) < (n : Int)) := by omega
    have hw : IntKind.i64.wrap (n : Int) = (n : Int) := IntWalk.i64_in _ (by omega)
    have HT := Lib.hid (prTake h n)
    have HB := Lib.hid h.by'
    by_cases hl : b.length < n
    · have E := Lib.hid (show tkS b e n = (e0, [], if e = 0 then 8 else e) by unfold tkS; rw [if_neg h100, if_pos hl])
      rw [E.out]
      simp only [if_pos hl] at HT
      obtain ⟨e', he'⟩ : ∃ e' : Int, e' = if e = 0 then 8 else e := ⟨_, rfl⟩
      rw [← he'] at HT ⊢
      clear h h100 hl he' E
      go_enter Tryd.func48, Tryd.ntmps48
      go_wp2_with fail
      refine HT.out.mono ?_
      rintro e1 w2 ⟨v, rfl, hc, rfl, hp⟩
      have HC := Lib.hid hc; have HP := Lib.hid hp
      have hcv := cvp (w := w2) (s := e0) (Seen.nil w2) (l := []) rfl rfl (by simp) w2 (Lib.hid (Chg.refl [] w2))
      clear hc hp
      go_wp2
      go_ret
      exact ⟨rfl, HC.out, HP.out⟩
    · have E := Lib.hid (show tkS b e n = (str (b.take n), b.drop n, e) by unfold tkS; rw [if_neg h100, if_neg hl])
      rw [E.out]
      simp only [if_neg hl] at HT
      have HL := Lib.hid (show n = (b.take n).length by rw [List.length_take]; omega)
      have HBT := Lib.hid (show ∀ x ∈ b.take n, x < 2 ^ 8 from fun x hx => h.by' x (List.mem_of_mem_take hx))
      obtain ⟨s, hs⟩ : ∃ s, s = str (b.take n) := ⟨_, rfl⟩
      rw [← hs]
      have HS := Lib.hid hs
      clear h h100 hl hs
      go_enter Tryd.func48, Tryd.ntmps48
      go_wp2_with fail
      refine HT.out.mono ?_
      rintro e1 w2 ⟨v, rfl, hc, ho, hp⟩
      obtain ⟨vo, vc, rfl⟩ := own_shape ho
      have HC := Lib.hid hc; have HP := Lib.hid hp
      have hcv := cvp (reads_of_own ho).seen HL.out HS.out HBT.out w2 (Lib.hid (Chg.refl [] w2))
      clear hc hp ho
      go_wp2
      go_ret
      exact ⟨rfl, HC.out, HP.out⟩

theorem PR.keep {w w' : World} {r M : Nat} {b : List Nat} {e : Int} (h : PR w r M b e) (hc : Chg [] w w') : PR w' r M b e :=
  ⟨h.rd.keep0 hc, h.by', h.bl, h.ok, h.rM⟩
theorem PR.high {w w' : World} {r M k : Nat} {b : List Nat} {e : Int} (h : PR w r M b e) (hc : Chg [k] w w') (hk : M ≤ k) : PR w' r M b e :=
  ⟨h.rd.keepHigh hc hk (by have := h.rM; omega), h.by', h.bl, h.ok, h.rM⟩

theorem rdE_short (k : Nat) (hk : k = 2 ∨ k = 3 ∨ k = 4) (b : List Nat) (e : Int) (h : b.length < szK k) : rdE k b e = (⟨0, e0⟩, [], if e = 0 then 8 else e) := by
  unfold rdE
  split
  · rcases hk with rfl | rfl | rfl
    · rw [rd1_2, if_pos (show b.length < 4 from h)]
    · rw [rd1_3, if_pos (show b.length < 8 from h)]
    · rw [rd1_4, if_pos (show b.length < 4 from h)]
  · rfl

theorem heap_set1 {w : World} {g : Nat} {T : TypeId} {a b : Value} (h : w.heap[g]? = some (.cells #[a, b] T (0, 0))) (x : Value) : (w.setCell ⟨g, 0, none⟩ x).heap[g]? = some (.cells #[x, b] T (0, 0)) := by
  rw [heap_set h]; rfl
theorem heap_set2 {w : World} {g : Nat} {T : TypeId} {a b : Value} (h : w.heap[g]? = some (.cells #[a, b] T (0, 0))) (x : Value) : (w.setCell ⟨g, 1, none⟩ x).heap[g]? = some (.cells #[a, x] T (0, 0)) := by
  rw [heap_set h]; rfl

set_option maxRecDepth 100000 in
set_option maxHeartbeats 4000000 in
theorem pval_any {w : World} {r M k : Nat} {b : List Nat} {e : Int} (hk : k = 2 ∨ k = 3 ∨ k = 4) (h : PR w r M b e) (hM : M ≤ w.heap.size) :
    Calls Tryd.prog 36 #[.int .i32 (sgK k), .pointer (some ⟨r, 0, none⟩)] w fun x w' => x = .returned (vv (rdE k b e).1) ∧ Chg [r] w w' ∧ PR w' r M (rdE k b e).2.1 (rdE k b e).2.2 := by
  have HS := Lib.hid (fun wx : World => psize_any k wx hk)
  have HG := Lib.hid (prGet (h.keep ((Chg.refl [] w).alloc (.cells #[.int .i64 0, .string e0] 39))) (szK k) (by unfold szK; split <;> omega) (by unfold szK; split <;> omega))
  have HB := Lib.hid (heap_alloc_new w (.cells #[.int .i64 0, .string e0] 39))
  have HC0 := Lib.hid ((Chg.refl [r] w).alloc (.cells #[.int .i64 0, .string e0] 39))
  have hrw : r ≠ w.heap.size := by have := h.rM; omega
  have HRW := Lib.hid hrw
  have HM := Lib.hid hM
  obtain ⟨gb, hgb⟩ : ∃ g, g = w.heap.size := ⟨_, rfl⟩
  have HGB := Lib.hid hgb
  by_cases hl : b.length < szK k
  · rw [rdE_short k hk b e hl]
    simp only [if_pos hl] at HG
    clear h hrw hM
    obtain ⟨e', he'⟩ : ∃ e' : Int, e' = if e = 0 then 8 else e := ⟨_, rfl⟩
    rw [← he'] at HG ⊢
    clear he' hl hgb
    rcases hk with rfl | rfl | rfl
    · rw [show sgK 2 = 52 from rfl] at HS ⊢
      rw [show ((szK 2 : Nat) : Int) = 4 from rfl] at HS HG
      go_enter Tryd.func36, Tryd.ntmps36
      go_wp2_with (first
        | (go_at_call 44; (with_reducible refine (HS.out _).mono ?_); rintro e w1 ⟨rfl, rfl⟩)
        | (go_at_call 47; (with_reducible refine HG.out.mono ?_); rintro e w2 ⟨rfl, hc, hp⟩; have HC := Lib.hid hc; have HP := Lib.hid hp; have HBX := Lib.hid (hc.heap HB.out (by simpa using HRW.out.symm)); obtain ⟨b0, b1, g0, g1⟩ := cells2 HBX.out; clear hc hp)
        | fail)
      refine ret_value rfl rfl rfl (heap_set2 (heap_set1 (heap_set1 HBX.out _) _) _) ?_
      exact ⟨rfl, (((HC0.out.trans HC.out (by simp)).setCell (.inr (Nat.le_refl _)) _).setCell (.inr (Nat.le_refl _)) _).setCell (.inr (Nat.le_refl _)) _, ((HP.out.high ((Chg.refl _ _).setCell (by simp) _) HM.out).high ((Chg.refl _ _).setCell (by simp) _) HM.out).high ((Chg.refl _ _).setCell (by simp) _) HM.out⟩
    · rw [show sgK 3 = 56 from rfl] at HS ⊢
      rw [show ((szK 3 : Nat) : Int) = 8 from rfl] at HS HG
      go_enter Tryd.func36, Tryd.ntmps36
      go_wp2_with (first
        | (go_at_call 44; (with_reducible refine (HS.out _).mono ?_); rintro e w1 ⟨rfl, rfl⟩)
        | (go_at_call 47; (with_reducible refine HG.out.mono ?_); rintro e w2 ⟨rfl, hc, hp⟩; have HC := Lib.hid hc; have HP := Lib.hid hp; have HBX := Lib.hid (hc.heap HB.out (by simpa using HRW.out.symm)); obtain ⟨b0, b1, g0, g1⟩ := cells2 HBX.out; clear hc hp)
        | fail)
      refine ret_value rfl rfl rfl (heap_set2 (heap_set1 (heap_set1 HBX.out _) _) _) ?_
      exact ⟨rfl, (((HC0.out.trans HC.out (by simp)).setCell (.inr (Nat.le_refl _)) _).setCell (.inr (Nat.le_refl _)) _).setCell (.inr (Nat.le_refl _)) _, ((HP.out.high ((Chg.refl _ _).setCell (by simp) _) HM.out).high ((Chg.refl _ _).setCell (by simp) _) HM.out).high ((Chg.refl _ _).setCell (by simp) _) HM.out⟩
    · rw [show sgK 4 = 116 from rfl] at HS ⊢
      rw [show ((szK 4 : Nat) : Int) = 4 from rfl] at HS HG
      have HTK := Lib.hid (fun (wx : World) (hp : PR wx r M [] e') => taken_any hp 0 (by decide))
      rw [show tkS [] e' 0 = (e0, [], e') from rfl, show ((0 : Nat) : Int) = 0 from rfl] at HTK
      go_enter Tryd.func36, Tryd.ntmps36
      go_wp2_with (first
        | (go_at_call 44; (with_reducible refine (HS.out _).mono ?_); rintro e w1 ⟨rfl, rfl⟩)
        | (go_at_call 47; (with_reducible refine HG.out.mono ?_); rintro e w2 ⟨rfl, hc, hp⟩; have HC := Lib.hid hc; have HP := Lib.hid hp; have HBX := Lib.hid (hc.heap HB.out (by simpa using HRW.out.symm)); obtain ⟨b0, b1, g0, g1⟩ := cells2 HBX.out; clear hc hp)
        | (go_at_call 48; (with_reducible refine (HTK.out _ HP.out).mono ?_); rintro e w3 ⟨rfl, hc, hp⟩; have HC3 := Lib.hid (HC.out.trans hc (by simp)); have HP3 := Lib.hid hp; have HBX3 := Lib.hid (hc.heap HBX.out (by simpa using HRW.out.symm)); obtain ⟨b0, b1, g0, g1⟩ := cells2 HBX3.out; clear hc hp)
        | fail)
      refine ret_value rfl rfl rfl (heap_set2 (heap_set1 (heap_set2 HBX3.out _) _) _) ?_
      exact ⟨rfl, (((HC0.out.trans HC3.out (by simp)).setCell (.inr (Nat.le_refl _)) _).setCell (.inr (Nat.le_refl _)) _).setCell (.inr (Nat.le_refl _)) _, ((HP3.out.high ((Chg.refl _ _).setCell (by simp) _) HM.out).high ((Chg.refl _ _).setCell (by simp) _) HM.out).high ((Chg.refl _ _).setCell (by simp) _) HM.out⟩
  · have he : e = 0 := Classical.byContradiction fun he => hl (by rw [h.ok he]; simp; unfold szK; split <;> omega)
    subst he
    simp only [if_neg hl] at HG
    have hby := h.by'
    have E := Lib.hid (show rdE k b 0 = rd1 k b from rfl)
    rw [E.out]
    clear h hrw hM hgb
    rcases hk with rfl | rfl | rfl
    · have hx := nm_take_lt hby 4
      have E2 := Lib.hid (show rd1 2 b = (⟨s32 (nm (b.take 4)), e0⟩, b.drop 4, 0) by rw [rd1_2, if_neg (show ¬ b.length < 4 from hl)])
      rw [E2.out]
      rw [show sgK 2 = 52 from rfl] at HS ⊢
      rw [show ((szK 2 : Nat) : Int) = 4 from rfl] at HS HG
      rw [show szK 2 = 4 from rfl] at HG
      obtain ⟨x, hxe⟩ : ∃ x, x = nm (b.take 4) := ⟨_, rfl⟩
      rw [← hxe] at HG hx ⊢
      obtain ⟨m, hm⟩ : ∃ m, m = s32 x := ⟨_, rfl⟩
      have hm2 : -2147483648 ≤ m ∧ m < 2147483648 := by rw [hm]; unfold s32; omega
      have y1 : IntKind.i32.wrap (x : Int) = m := by rw [hm, w32]; rfl
      obtain ⟨u, hu⟩ : ∃ u, u = un m := ⟨_, rfl⟩
      have y2 : IntKind.u64.wrap m = (u : Int) := by rw [hu]; exact un_wrap m
      have y3 : IntKind.i64.wrap (u : Int) = m := by
        have : IntKind.i64.wrap (u : Int) = s64 u := by unfold s64; simp [IntKind.wrap, IntKind.bits, IntKind.signed]; omega
        rw [this, hu]; unfold s64 un; omega
      rw [← hm]
      clear hxe hm hu hby hl
      go_enter Tryd.func36, Tryd.ntmps36
      go_wp2_with (first
        | (go_at_call 44; (with_reducible refine (HS.out _).mono ?_); rintro e w1 ⟨rfl, rfl⟩)
        | (go_at_call 47; (with_reducible refine HG.out.mono ?_); rintro e w2 ⟨rfl, hc, hp⟩; have HC := Lib.hid hc; have HP := Lib.hid hp; have HBX := Lib.hid (hc.heap HB.out (by simpa using HRW.out.symm)); obtain ⟨b0, b1, g0, g1⟩ := cells2 HBX.out; clear hc hp)
        | fail)
      refine ret_value rfl rfl rfl (heap_set2 (heap_set1 (heap_set1 HBX.out _) _) _) ?_
      exact ⟨rfl, (((HC0.out.trans HC.out (by simp)).setCell (.inr (Nat.le_refl _)) _).setCell (.inr (Nat.le_refl _)) _).setCell (.inr (Nat.le_refl _)) _, ((HP.out.high ((Chg.refl _ _).setCell (by simp) _) HM.out).high ((Chg.refl _ _).setCell (by simp) _) HM.out).high ((Chg.refl _ _).setCell (by simp) _) HM.out⟩
    · have hx := nm_take_lt hby 8
      have E2 := Lib.hid (show rd1 3 b = (⟨s64 (nm (b.take 8)), e0⟩, b.drop 8, 0) by rw [rd1_3, if_neg (show ¬ b.length < 8 from hl)])
      rw [E2.out]
      rw [show sgK 3 = 56 from rfl] at HS ⊢
      rw [show ((szK 3 : Nat) : Int) = 8 from rfl] at HS HG
      rw [show szK 3 = 8 from rfl] at HG
      obtain ⟨x, hxe⟩ : ∃ x, x = nm (b.take 8) := ⟨_, rfl⟩
      rw [← hxe] at HG hx ⊢
      obtain ⟨m, hm⟩ : ∃ m, m = s64 x := ⟨_, rfl⟩
      have y1 : IntKind.i64.wrap (x : Int) = m := by rw [hm]; unfold s64; simp [IntKind.wrap, IntKind.bits, IntKind.signed]; omega
      rw [← hm]
      clear hxe hm hby hl
      go_enter Tryd.func36, Tryd.ntmps36
      go_wp2_with (first
        | (go_at_call 44; (with_reducible refine (HS.out _).mono ?_); rintro e w1 ⟨rfl, rfl⟩)
        | (go_at_call 47; (with_reducible refine HG.out.mono ?_); rintro e w2 ⟨rfl, hc, hp⟩; have HC := Lib.hid hc; have HP := Lib.hid hp; have HBX := Lib.hid (hc.heap HB.out (by simpa using HRW.out.symm)); obtain ⟨b0, b1, g0, g1⟩ := cells2 HBX.out; clear hc hp)
        | fail)
      refine ret_value rfl rfl rfl (heap_set2 (heap_set1 (heap_set1 HBX.out _) _) _) ?_
      exact ⟨rfl, (((HC0.out.trans HC.out (by simp)).setCell (.inr (Nat.le_refl _)) _).setCell (.inr (Nat.le_refl _)) _).setCell (.inr (Nat.le_refl _)) _, ((HP.out.high ((Chg.refl _ _).setCell (by simp) _) HM.out).high ((Chg.refl _ _).setCell (by simp) _) HM.out).high ((Chg.refl _ _).setCell (by simp) _) HM.out⟩
    · have hx := nm_take_lt hby 4
      have E2 := Lib.hid (show rd1 4 b = (⟨0, (tkS (b.drop 4) 0 (nm (b.take 4))).1⟩, (tkS (b.drop 4) 0 (nm (b.take 4))).2.1, (tkS (b.drop 4) 0 (nm (b.take 4))).2.2) by
        rw [rd1_4, if_neg (show ¬ b.length < 4 from hl)]
        unfold tkS
        split
        · rfl
        · split <;> rfl)
      rw [E2.out]
      rw [show sgK 4 = 116 from rfl] at HS ⊢
      rw [show ((szK 4 : Nat) : Int) = 4 from rfl] at HS HG
      rw [show szK 4 = 4 from rfl] at HG
      obtain ⟨x, hxe⟩ : ∃ x, x = nm (b.take 4) := ⟨_, rfl⟩
      rw [← hxe] at HG hx ⊢
      have HTK := Lib.hid (fun (wx : World) (hp : PR wx r M (b.drop 4) 0) => taken_any hp x (by omega))
      obtain ⟨q, hq⟩ : ∃ q, q = tkS (b.drop 4) 0 x := ⟨_, rfl⟩
      rw [← hq] at HTK ⊢
      obtain ⟨qs, qb, qe⟩ := q
      simp only at HTK ⊢
      clear hxe hq hby hl
      go_enter Tryd.func36, Tryd.ntmps36
      go_wp2_with (first
        | (go_at_call 44; (with_reducible refine (HS.out _).mono ?_); rintro e w1 ⟨rfl, rfl⟩)
        | (go_at_call 47; (with_reducible refine HG.out.mono ?_); rintro e w2 ⟨rfl, hc, hp⟩; have HC := Lib.hid hc; have HP := Lib.hid hp; have HBX := Lib.hid (hc.heap HB.out (by simpa using HRW.out.symm)); obtain ⟨b0, b1, g0, g1⟩ := cells2 HBX.out; clear hc hp)
        | (go_at_call 48; (with_reducible refine (HTK.out _ HP.out).mono ?_); rintro e w3 ⟨rfl, hc, hp⟩; have HC3 := Lib.hid (HC.out.trans hc (by simp)); have HP3 := Lib.hid hp; have HBX3 := Lib.hid (hc.heap HBX.out (by simpa using HRW.out.symm)); obtain ⟨b0, b1, g0, g1⟩ := cells2 HBX3.out; clear hc hp)
        | fail)
      refine ret_value rfl rfl rfl (heap_set2 (heap_set1 (heap_set2 HBX3.out _) _) _) ?_
      exact ⟨rfl, (((HC0.out.trans HC3.out (by simp)).setCell (.inr (Nat.le_refl _)) _).setCell (.inr (Nat.le_refl _)) _).setCell (.inr (Nat.le_refl _)) _, ((HP3.out.high ((Chg.refl _ _).setCell (by simp) _) HM.out).high ((Chg.refl _ _).setCell (by simp) _) HM.out).high ((Chg.refl _ _).setCell (by simp) _) HM.out⟩

end Go.Proofs.YtndbgemdklnmlaaDoor
