/- Ug, Uh, Ui: texts of one group, one behind the other. -/
import Derived.Test.YtohgnbgijleoaaaDoorU4
namespace Go.Proofs.YtohgnbgijleoaaaDoor
open Go.RowKit
set_option linter.unusedVariables false
set_option linter.unusedSimpArgs false

/-- The reader stands: what is left, the error (behind an error nothing is left). -/
structure PR (w : World) (r M : Nat) (b : List Nat) (e : Int) : Prop where
  rd : Rd w r (zi b) e M
  by' : ∀ x ∈ b, x < 256
  bl : b.length ≤ 140737488355328
  ok : e ≠ 0 → b = []
  rM : r < M

/-- One value read, whatever the error is. -/
def rdE (k : Nat) (b : List Nat) (e : Int) : V × List Nat × Int := if e = 0 then rd1 k b else (⟨0, e0⟩, [], e)

theorem rd1_ok (k : Nat) (b : List Nat) : (rd1 k b).2.2 ≠ 0 → (rd1 k b).2.1 = [] ∧ (rd1 k b).1 = ⟨0, e0⟩ := by
  unfold rd1
  split
  · split <;> simp
  · split
    · split <;> simp
    · split
      · simp
      · split
        · simp
        · split <;> simp

theorem nm_take_lt {b : List Nat} (h : ∀ x ∈ b, x < 256) (k : Nat) : nm (b.take k) < 256 ^ k := by
  have h1 := nm_lt8 (a := b.take k) fun x hx => h x (List.mem_of_mem_take hx)
  refine Nat.lt_of_lt_of_le h1 (Nat.pow_le_pow_right (by decide) ?_)
  rw [List.length_take]; omega

/-- Get of the reader. -/
theorem prGet {w : World} {r M : Nat} {b : List Nat} {e : Int} (h : PR w r M b e) (n : Nat) (h1 : 1 ≤ n) (h8 : n ≤ 8) :
    Calls Tryd.prog 77 #[.pointer (some ⟨r, 0, none⟩), .int .i64 (n : Int)] w fun x w' =>
      if b.length < n then x = .returned (.int .u64 0) ∧ Chg [r] w w' ∧ PR w' r M [] (if e = 0 then 8 else e)
      else x = .returned (.int .u64 ((nm (b.take n) : Nat) : Int)) ∧ Chg [r] w w' ∧ PR w' r M (b.drop n) e := by
  have hw : widthOf (n : Int) = (n : Int) := by unfold widthOf; rw [if_neg (by omega)]
  by_cases hn : b.length < n
  · simp only [if_pos hn]
    refine (get_no r n e w (zi b) (by rw [zi_length]; exact h.bl) h.rd (fun he => by rw [h.ok he]; rfl) (by rw [hw, zi_length]; omega)).mono ?_
    rintro x w' ⟨rfl, hc, hr⟩
    exact ⟨rfl, hc, ⟨hr, by simp, by simp, fun _ => rfl, h.rM⟩⟩
  · simp only [if_neg hn]
    refine (get_yes r n e n w (zi b) (by rw [zi_length]; exact h.bl) (zi_wf h.by') h.rd hw (by rw [zi_length]; omega)).mono ?_
    rintro x w' ⟨rfl, hc, hr⟩
    rw [zi_take, num_zi]
    rw [zi_drop] at hr
    refine ⟨rfl, hc, ⟨hr, fun x hx => h.by' x (List.mem_of_mem_drop hx), by rw [List.length_drop]; have := h.bl; omega, fun he => ?_, h.rM⟩⟩
    rw [h.ok he]; simp

/-- Take of the reader, as a row. -/
theorem prTake {w : World} {r M : Nat} {b : List Nat} {e : Int} (h : PR w r M b e) (n : Nat) :
    Calls Tryd.prog 88 #[.pointer (some ⟨r, 0, none⟩), .int .i64 (n : Int)] w fun x w' => ∃ v, x = .returned v ∧ Chg [r] w w' ∧
      (if b.length < n then v = .slice none 0 0 ∧ PR w' r M [] (if e = 0 then 8 else e) else w'.ownsRow w.heap.size 5 1 v n (nv .u8 (b.take n)) ∧ PR w' r M (b.drop n) e) := by
  by_cases hn : b.length < n
  · simp only [if_pos hn]
    refine (take_no r n e w (zi b) (by rw [zi_length]; exact h.bl) h.rd (fun he => by rw [h.ok he]; rfl) (by rw [zi_length]; omega)).mono ?_
    rintro x w' ⟨rfl, hc, hr⟩
    exact ⟨_, rfl, hc, rfl, ⟨hr, by simp, by simp, fun _ => rfl, h.rM⟩⟩
  · simp only [if_neg hn]
    refine (rtake_any r n n e w (zi b) (by rw [zi_length]; exact h.bl) h.rd (by omega) (by rw [zi_length]; omega)).mono ?_
    rintro x w' ⟨v, rfl, hc, hr, ho⟩
    rw [zi_take, bys_zi] at ho
    rw [zi_drop] at hr
    refine ⟨v, rfl, hc, ho, ⟨hr, fun x hx => h.by' x (List.mem_of_mem_drop hx), by rw [List.length_drop]; have := h.bl; omega, fun he => ?_, h.rM⟩⟩
    rw [h.ok he]; simp

theorem str0 : str [] = e0 := rfl

/-- What taken answers, of the text's length. -/
def tkS (b : List Nat) (e : Int) (n : Nat) : ByteArray × List Nat × Int :=
  if 100 < n then (e0, [], if e = 0 then 5 else e) else if b.length < n then (e0, [], if e = 0 then 8 else e) else (str (b.take n), b.drop n, e)

set_option maxRecDepth 100000 in
set_option maxHeartbeats 4000000 in
theorem taken_any {w : World} {r M : Nat} {b : List Nat} {e : Int} (h : PR w r M b e) (n : Nat) (hn : n < 4294967296) :
    Calls Tryd.prog 78 #[.pointer (some ⟨r, 0, none⟩), .int .u64 (n : Int)] w fun x w' => x = .returned (.string (tkS b e n).1) ∧ Chg [r] w w' ∧ PR w' r M (tkS b e n).2.1 (tkS b e n).2.2 := by
  by_cases h100 : 100 < n
  · have E := Lib.hid (show tkS b e n = (e0, [], if e = 0 then 5 else e) by unfold tkS; rw [if_pos h100])
    rw [E.out]
    have HF := Lib.hid (show Calls Tryd.prog 87 #[.pointer (some ⟨r, 0, none⟩), .int .i64 5] w fun x w' => x = .returned (.tuple #[]) ∧ Chg [r] w w' ∧ PR w' r M [] (if e = 0 then 5 else e) from by
      by_cases he : e = 0
      · subst he
        rw [if_pos rfl]
        refine (fail_set (M := M) r 5 w (zi b) h.rd (by decide)).mono ?_
        rintro x w' ⟨rfl, hc, hr⟩
        exact ⟨rfl, hc, ⟨hr.mono (Nat.zero_le _), by simp, by simp, fun _ => rfl, h.rM⟩⟩
      · rw [if_neg he]
        refine (fail_kept (M := M) r e 5 w (zi b) h.rd (.inl he)).mono ?_
        rintro x w' ⟨rfl, rfl⟩
        refine ⟨rfl, Chg.refl _ _, ?_⟩
        have h2 := h
        rw [h.ok he] at h2
        exact h2)
    have hd : ((100 : Int) < (n : Int)) := by omega
    obtain ⟨e', he'⟩ : ∃ e' : Int, e' = if e = 0 then 5 else e := ⟨_, rfl⟩
    rw [← he'] at HF ⊢
    clear h h100 he' E
    go_enter Tryd.func78, Tryd.ntmps78
    go_wp2_with (first
      | (go_at_call 87; (with_reducible refine HF.out.mono ?_); rintro e1 w2 ⟨rfl, hc, hp⟩; have HC := Lib.hid hc; have HP := Lib.hid hp; clear hc hp)
      | fail)
    go_ret
    exact ⟨rfl, HC.out, HP.out⟩
  · have hd : ¬ ((100 : Int) < (n : Int)) := by omega
    have hw : IntKind.i64.wrap (n : Int) = (n : Int) := IntWalk.i64_in _ (by omega)
    have HT := Lib.hid (prTake h n)
    have HB := Lib.hid h.by'
    by_cases hl : b.length < n
    · have E := Lib.hid (show tkS b e n = (e0, [], if e = 0 then 8 else e) by unfold tkS; rw [if_neg h100, if_pos hl])
      rw [E.out]
      simp only [if_pos hl] at HT
      obtain ⟨e', he'⟩ : ∃ e' : Int, e' = if e = 0 then 8 else e := ⟨_, rfl⟩
      rw [← he'] at HT ⊢
      clear h h100 hl he' E
      go_enter Tryd.func78, Tryd.ntmps78
      go_wp2_with fail
      refine HT.out.mono ?_
      rintro e1 w2 ⟨v, rfl, hc, rfl, hp⟩
      have HC := Lib.hid hc; have HP := Lib.hid hp
      have hcv := cvp (w := w2) (s := e0) (Seen.nil w2) (l := []) rfl rfl (by simp) w2 (Lib.hid (Chg.refl [] w2))
      clear hc hp
      go_wp2
      go_ret
      exact ⟨rfl, HC.out, HP.out⟩
    · have E := Lib.hid (show tkS b e n = (str (b.take n), b.drop n, e) by unfold tkS; rw [if_neg h100, if_neg hl])
      rw [E.out]
      simp only [if_neg hl] at HT
      have HL := Lib.hid (show n = (b.take n).length by rw [List.length_take]; omega)
      have HBT := Lib.hid (show ∀ x ∈ b.take n, x < 2 ^ 8 from fun x hx => h.by' x (List.mem_of_mem_take hx))
      obtain ⟨s, hs⟩ : ∃ s, s = str (b.take n) := ⟨_, rfl⟩
      rw [← hs]
      have HS := Lib.hid hs
      clear h h100 hl hs
      go_enter Tryd.func78, Tryd.ntmps78
      go_wp2_with fail
      refine HT.out.mono ?_
      rintro e1 w2 ⟨v, rfl, hc, ho, hp⟩
      obtain ⟨vo, vc, rfl⟩ := own_shape ho
      have HC := Lib.hid hc; have HP := Lib.hid hp
      have hcv := cvp (reads_of_own ho).seen HL.out HS.out HBT.out w2 (Lib.hid (Chg.refl [] w2))
      clear hc hp ho
      go_wp2
      go_ret
      exact ⟨rfl, HC.out, HP.out⟩

theorem PR.keep {w w' : World} {r M : Nat} {b : List Nat} {e : Int} (h : PR w r M b e) (hc : Chg [] w w') : PR w' r M b e :=
  ⟨h.rd.keep0 hc, h.by', h.bl, h.ok, h.rM⟩
theorem PR.high {w w' : World} {r M k : Nat} {b : List Nat} {e : Int} (h : PR w r M b e) (hc : Chg [k] w w') (hk : M ≤ k) : PR w' r M b e :=
  ⟨h.rd.keepHigh hc hk (by have := h.rM; omega), h.by', h.bl, h.ok, h.rM⟩

theorem rdE_short (k : Nat) (hk : k = 2 ∨ k = 3 ∨ k = 4) (b : List Nat) (e : Int) (h : b.length < szK k) : rdE k b e = (⟨0, e0⟩, [], if e = 0 then 8 else e) := by
  unfold rdE
  split
  · rcases hk with rfl | rfl | rfl
    · rw [rd1_2, if_pos (show b.length < 4 from h)]
    · rw [rd1_3, if_pos (show b.length < 8 from h)]
    · rw [rd1_4, if_pos (show b.length < 4 from h)]
  · rfl

theorem heap_set1 {w : World} {g : Nat} {T : TypeId} {a b : Value} (h : w.heap[g]? = some (.cells #[a, b] T (0, 0))) (x : Value) : (w.setCell ⟨g, 0, none⟩ x).heap[g]? = some (.cells #[x, b] T (0, 0)) := by
  rw [heap_set h]; rfl
theorem heap_set2 {w : World} {g : Nat} {T : TypeId} {a b : Value} (h : w.heap[g]? = some (.cells #[a, b] T (0, 0))) (x : Value) : (w.setCell ⟨g, 1, none⟩ x).heap[g]? = some (.cells #[a, x] T (0, 0)) := by
  rw [heap_set h]; rfl

set_option maxRecDepth 100000 in
set_option maxHeartbeats 4000000 in
theorem pval_any {w : World} {r M k : Nat} {b : List Nat} {e : Int} (hk : k = 2 ∨ k = 3 ∨ k = 4) (h : PR w r M b e) (hM : M ≤ w.heap.size) :
    Calls Tryd.prog 63 #[.int .i32 (sgK k), .pointer (some ⟨r, 0, none⟩)] w fun x w' => x = .returned (vvV (rdE k b e).1) ∧ Chg [r] w w' ∧ PR w' r M (rdE k b e).2.1 (rdE k b e).2.2 := by
  have HS := Lib.hid (fun wx : World => psize_any k wx hk)
  have HG := Lib.hid (prGet (h.keep ((Chg.refl [] w).alloc (.cells #[.int .i64 0, .string e0] 39))) (szK k) (by unfold szK; split <;> omega) (by unfold szK; split <;> omega))
  have HB := Lib.hid (heap_alloc_new w (.cells #[.int .i64 0, .string e0] 39))
  have HC0 := Lib.hid ((Chg.refl [r] w).alloc (.cells #[.int .i64 0, .string e0] 39))
  have hrw : r ≠ w.heap.size := by have := h.rM; omega
  have HRW := Lib.hid hrw
  have HM := Lib.hid hM
  obtain ⟨gb, hgb⟩ : ∃ g, g = w.heap.size := ⟨_, rfl⟩
  have HGB := Lib.hid hgb
  by_cases hl : b.length < szK k
  · rw [rdE_short k hk b e hl]
    simp only [if_pos hl] at HG
    clear h hrw hM
    obtain ⟨e', he'⟩ : ∃ e' : Int, e' = if e = 0 then 8 else e := ⟨_, rfl⟩
    rw [← he'] at HG ⊢
    clear he' hl hgb
    rcases hk with rfl | rfl | rfl
    · rw [show sgK 2 = 52 from rfl] at HS ⊢
      rw [show ((szK 2 : Nat) : Int) = 4 from rfl] at HS HG
      go_enter Tryd.func63, Tryd.ntmps63
      go_wp2_with (first
        | (go_at_call 74; (with_reducible refine (HS.out _).mono ?_); rintro e w1 ⟨rfl, rfl⟩)
        | (go_at_call 77; (with_reducible refine HG.out.mono ?_); rintro e w2 ⟨rfl, hc, hp⟩; have HC := Lib.hid hc; have HP := Lib.hid hp; have HBX := Lib.hid (hc.heap HB.out (by simpa using HRW.out.symm)); obtain ⟨b0, b1, g0, g1⟩ := cells2 HBX.out; clear hc hp)
        | fail)
      refine ret_value rfl rfl rfl (heap_set2 (heap_set1 (heap_set1 HBX.out _) _) _) ?_
      exact ⟨rfl, (((HC0.out.trans HC.out (by simp)).setCell (.inr (Nat.le_refl _)) _).setCell (.inr (Nat.le_refl _)) _).setCell (.inr (Nat.le_refl _)) _, ((HP.out.high ((Chg.refl _ _).setCell (by simp) _) HM.out).high ((Chg.refl _ _).setCell (by simp) _) HM.out).high ((Chg.refl _ _).setCell (by simp) _) HM.out⟩
    · rw [show sgK 3 = 56 from rfl] at HS ⊢
      rw [show ((szK 3 : Nat) : Int) = 8 from rfl] at HS HG
      go_enter Tryd.func63, Tryd.ntmps63
      go_wp2_with (first
        | (go_at_call 74; (with_reducible refine (HS.out _).mono ?_); rintro e w1 ⟨rfl, rfl⟩)
        | (go_at_call 77; (with_reducible refine HG.out.mono ?_); rintro e w2 ⟨rfl, hc, hp⟩; have HC := Lib.hid hc; have HP := Lib.hid hp; have HBX := Lib.hid (hc.heap HB.out (by simpa using HRW.out.symm)); obtain ⟨b0, b1, g0, g1⟩ := cells2 HBX.out; clear hc hp)
        | fail)
      refine ret_value rfl rfl rfl (heap_set2 (heap_set1 (heap_set1 HBX.out _) _) _) ?_
      exact ⟨rfl, (((HC0.out.trans HC.out (by simp)).setCell (.inr (Nat.le_refl _)) _).setCell (.inr (Nat.le_refl _)) _).setCell (.inr (Nat.le_refl _)) _, ((HP.out.high ((Chg.refl _ _).setCell (by simp) _) HM.out).high ((Chg.refl _ _).setCell (by simp) _) HM.out).high ((Chg.refl _ _).setCell (by simp) _) HM.out⟩
    · rw [show sgK 4 = 116 from rfl] at HS ⊢
      rw [show ((szK 4 : Nat) : Int) = 4 from rfl] at HS HG
      have HTK := Lib.hid (fun (wx : World) (hp : PR wx r M [] e') => taken_any hp 0 (by decide))
      rw [show tkS [] e' 0 = (e0, [], e') from rfl, show ((0 : Nat) : Int) = 0 from rfl] at HTK
      go_enter Tryd.func63, Tryd.ntmps63
      go_wp2_with (first
        | (go_at_call 74; (with_reducible refine (HS.out _).mono ?_); rintro e w1 ⟨rfl, rfl⟩)
        | (go_at_call 77; (with_reducible refine HG.out.mono ?_); rintro e w2 ⟨rfl, hc, hp⟩; have HC := Lib.hid hc; have HP := Lib.hid hp; have HBX := Lib.hid (hc.heap HB.out (by simpa using HRW.out.symm)); obtain ⟨b0, b1, g0, g1⟩ := cells2 HBX.out; clear hc hp)
        | (go_at_call 78; (with_reducible refine (HTK.out _ HP.out).mono ?_); rintro e w3 ⟨rfl, hc, hp⟩; have HC3 := Lib.hid (HC.out.trans hc (by simp)); have HP3 := Lib.hid hp; have HBX3 := Lib.hid (hc.heap HBX.out (by simpa using HRW.out.symm)); obtain ⟨b0, b1, g0, g1⟩ := cells2 HBX3.out; clear hc hp)
        | fail)
      refine ret_value rfl rfl rfl (heap_set2 (heap_set1 (heap_set2 HBX3.out _) _) _) ?_
      exact ⟨rfl, (((HC0.out.trans HC3.out (by simp)).setCell (.inr (Nat.le_refl _)) _).setCell (.inr (Nat.le_refl _)) _).setCell (.inr (Nat.le_refl _)) _, ((HP3.out.high ((Chg.refl _ _).setCell (by simp) _) HM.out).high ((Chg.refl _ _).setCell (by simp) _) HM.out).high ((Chg.refl _ _).setCell (by simp) _) HM.out⟩
  · have he : e = 0 := Classical.byContradiction fun he => hl (by rw [h.ok he]; simp; unfold szK; split <;> omega)
    subst he
    simp only [if_neg hl] at HG
    have hby := h.by'
    have E := Lib.hid (show rdE k b 0 = rd1 k b from rfl)
    rw [E.out]
    clear h hrw hM hgb
    rcases hk with rfl | rfl | rfl
    · have hx := nm_take_lt hby 4
      have E2 := Lib.hid (show rd1 2 b = (⟨s32 (nm (b.take 4)), e0⟩, b.drop 4, 0) by rw [rd1_2, if_neg (show ¬ b.length < 4 from hl)])
      rw [E2.out]
      rw [show sgK 2 = 52 from rfl] at HS ⊢
      rw [show ((szK 2 : Nat) : Int) = 4 from rfl] at HS HG
      rw [show szK 2 = 4 from rfl] at HG
      obtain ⟨x, hxe⟩ : ∃ x, x = nm (b.take 4) := ⟨_, rfl⟩
      rw [← hxe] at HG hx ⊢
      obtain ⟨m, hm⟩ : ∃ m, m = s32 x := ⟨_, rfl⟩
      have hm2 : -2147483648 ≤ m ∧ m < 2147483648 := by rw [hm]; unfold s32; omega
      have y1 : IntKind.i32.wrap (x : Int) = m := by rw [hm, w32]; rfl
      obtain ⟨u, hu⟩ : ∃ u, u = un m := ⟨_, rfl⟩
      have y2 : IntKind.u64.wrap m = (u : Int) := by rw [hu]; exact un_wrap m
      have y3 : IntKind.i64.wrap (u : Int) = m := by
        have : IntKind.i64.wrap (u : Int) = s64 u := by unfold s64; simp [IntKind.wrap, IntKind.bits, IntKind.signed]; omega
        rw [this, hu]; unfold s64 un; omega
      rw [← hm]
      clear hxe hm hu hby hl
      go_enter Tryd.func63, Tryd.ntmps63
      go_wp2_with (first
        | (go_at_call 74; (with_reducible refine (HS.out _).mono ?_); rintro e w1 ⟨rfl, rfl⟩)
        | (go_at_call 77; (with_reducible refine HG.out.mono ?_); rintro e w2 ⟨rfl, hc, hp⟩; have HC := Lib.hid hc; have HP := Lib.hid hp; have HBX := Lib.hid (hc.heap HB.out (by simpa using HRW.out.symm)); obtain ⟨b0, b1, g0, g1⟩ := cells2 HBX.out; clear hc hp)
        | fail)
      refine ret_value rfl rfl rfl (heap_set2 (heap_set1 (heap_set1 HBX.out _) _) _) ?_
      exact ⟨rfl, (((HC0.out.trans HC.out (by simp)).setCell (.inr (Nat.le_refl _)) _).setCell (.inr (Nat.le_refl _)) _).setCell (.inr (Nat.le_refl _)) _, ((HP.out.high ((Chg.refl _ _).setCell (by simp) _) HM.out).high ((Chg.refl _ _).setCell (by simp) _) HM.out).high ((Chg.refl _ _).setCell (by simp) _) HM.out⟩
    · have hx := nm_take_lt hby 8
      have E2 := Lib.hid (show rd1 3 b = (⟨s64 (nm (b.take 8)), e0⟩, b.drop 8, 0) by rw [rd1_3, if_neg (show ¬ b.length < 8 from hl)])
      rw [E2.out]
      rw [show sgK 3 = 56 from rfl] at HS ⊢
      rw [show ((szK 3 : Nat) : Int) = 8 from rfl] at HS HG
      rw [show szK 3 = 8 from rfl] at HG
      obtain ⟨x, hxe⟩ : ∃ x, x = nm (b.take 8) := ⟨_, rfl⟩
      rw [← hxe] at HG hx ⊢
      obtain ⟨m, hm⟩ : ∃ m, m = s64 x := ⟨_, rfl⟩
      have y1 : IntKind.i64.wrap (x : Int) = m := by rw [hm]; unfold s64; simp [IntKind.wrap, IntKind.bits, IntKind.signed]; omega
      rw [← hm]
      clear hxe hm hby hl
      go_enter Tryd.func63, Tryd.ntmps63
      go_wp2_with (first
        | (go_at_call 74; (with_reducible refine (HS.out _).mono ?_); rintro e w1 ⟨rfl, rfl⟩)
        | (go_at_call 77; (with_reducible refine HG.out.mono ?_); rintro e w2 ⟨rfl, hc, hp⟩; have HC := Lib.hid hc; have HP := Lib.hid hp; have HBX := Lib.hid (hc.heap HB.out (by simpa using HRW.out.symm)); obtain ⟨b0, b1, g0, g1⟩ := cells2 HBX.out; clear hc hp)
        | fail)
      refine ret_value rfl rfl rfl (heap_set2 (heap_set1 (heap_set1 HBX.out _) _) _) ?_
      exact ⟨rfl, (((HC0.out.trans HC.out (by simp)).setCell (.inr (Nat.le_refl _)) _).setCell (.inr (Nat.le_refl _)) _).setCell (.inr (Nat.le_refl _)) _, ((HP.out.high ((Chg.refl _ _).setCell (by simp) _) HM.out).high ((Chg.refl _ _).setCell (by simp) _) HM.out).high ((Chg.refl _ _).setCell (by simp) _) HM.out⟩
    · have hx := nm_take_lt hby 4
      have E2 := Lib.hid (show rd1 4 b = (⟨0, (tkS (b.drop 4) 0 (nm (b.take 4))).1⟩, (tkS (b.drop 4) 0 (nm (b.take 4))).2.1, (tkS (b.drop 4) 0 (nm (b.take 4))).2.2) by
        rw [rd1_4, if_neg (show ¬ b.length < 4 from hl)]
        unfold tkS
        split
        · rfl
        · split <;> rfl)
      rw [E2.out]
      rw [show sgK 4 = 116 from rfl] at HS ⊢
      rw [show ((szK 4 : Nat) : Int) = 4 from rfl] at HS HG
      rw [show szK 4 = 4 from rfl] at HG
      obtain ⟨x, hxe⟩ : ∃ x, x = nm (b.take 4) := ⟨_, rfl⟩
      rw [← hxe] at HG hx ⊢
      have HTK := Lib.hid (fun (wx : World) (hp : PR wx r M (b.drop 4) 0) => taken_any hp x (by omega))
      obtain ⟨q, hq⟩ : ∃ q, q = tkS (b.drop 4) 0 x := ⟨_, rfl⟩
      rw [← hq] at HTK ⊢
      obtain ⟨qs, qb, qe⟩ := q
      simp only at HTK ⊢
      clear hxe hq hby hl
      go_enter Tryd.func63, Tryd.ntmps63
      go_wp2_with (first
        | (go_at_call 74; (with_reducible refine (HS.out _).mono ?_); rintro e w1 ⟨rfl, rfl⟩)
        | (go_at_call 77; (with_reducible refine HG.out.mono ?_); rintro e w2 ⟨rfl, hc, hp⟩; have HC := Lib.hid hc; have HP := Lib.hid hp; have HBX := Lib.hid (hc.heap HB.out (by simpa using HRW.out.symm)); obtain ⟨b0, b1, g0, g1⟩ := cells2 HBX.out; clear hc hp)
        | (go_at_call 78; (with_reducible refine (HTK.out _ HP.out).mono ?_); rintro e w3 ⟨rfl, hc, hp⟩; have HC3 := Lib.hid (HC.out.trans hc (by simp)); have HP3 := Lib.hid hp; have HBX3 := Lib.hid (hc.heap HBX.out (by simpa using HRW.out.symm)); obtain ⟨b0, b1, g0, g1⟩ := cells2 HBX3.out; clear hc hp)
        | fail)
      refine ret_value rfl rfl rfl (heap_set2 (heap_set1 (heap_set2 HBX3.out _) _) _) ?_
      exact ⟨rfl, (((HC0.out.trans HC3.out (by simp)).setCell (.inr (Nat.le_refl _)) _).setCell (.inr (Nat.le_refl _)) _).setCell (.inr (Nat.le_refl _)) _, ((HP3.out.high ((Chg.refl _ _).setCell (by simp) _) HM.out).high ((Chg.refl _ _).setCell (by simp) _) HM.out).high ((Chg.refl _ _).setCell (by simp) _) HM.out⟩

end Go.Proofs.YtohgnbgijleoaaaDoor

namespace Go.Proofs.YtohgnbgijleoaaaDoor
open Go.RowKit
set_option linter.unusedVariables false
set_option linter.unusedSimpArgs false

/-- A reader is not touched where a row of another kind grows. -/
theorem PR.keepOwn {w w' : World} {r M B n : Nat} {b : List Nat} {e : Int} {v : Value} {xs : List Value} (h : PR w r M b e) (ho : w.ownsRow B 39 2 v n xs) (hc : Chg v.ownBlock.toList w w') : PR w' r M b e := by
  obtain ⟨rv, h1, h2, h3, h4⟩ := h.rd
  have hn : ∀ g, v.ownBlock = some g → g ≠ r := (tagged_of_own ho).ne h1 (by decide)
  have hn2 : ∀ g, rv.ownBlock = some g → g ∉ v.ownBlock.toList := fun g hg hm => by
    simp at hm
    obtain ⟨cur, fr, hb⟩ := h3 g hg
    exact (tagged_of_own ho).ne hb (by decide) g hm rfl
  exact ⟨⟨rv, hc.heap h1 (fun hm => by simp at hm; exact hn r hm rfl), h2.keep hc hn2, h3.keep hc hn2, h4⟩, h.by', h.bl, h.ok, h.rM⟩
theorem PR.far {w : World} {r M B n : Nat} {b : List Nat} {e : Int} {v : Value} {xs : List Value} (h : PR w r M b e) (ho : w.ownsRow B 39 2 v n xs) : ∀ g, v.ownBlock = some g → g ∉ [r] := fun g hg hm => by
  obtain ⟨rv, h1, -⟩ := h.rd
  simp at hm
  exact (tagged_of_own ho).ne h1 (by decide) g hg hm

/-- How reading n values stands when some are read. -/
def RdJ (k n : Nat) (b : List Nat) (j : Nat) (L : List V) (b' : List Nat) (e' : Int) : Prop :=
  L.length = j ∧ (e' = 0 → rdN k n b = (L ++ (rdN k (n - j) b').1, (rdN k (n - j) b').2)) ∧ (e' ≠ 0 → (rdN k n b).2.2 = e')

theorem RdJ.step {k n : Nat} {b : List Nat} {j : Nat} {L : List V} {b' : List Nat} {e' : Int} (h : RdJ k n b j L b' e') (hj : j < n) : RdJ k n b (j + 1) (L ++ [(rdE k b' e').1]) (rdE k b' e').2.1 (rdE k b' e').2.2 := by
  obtain ⟨h1, h2, h3⟩ := h
  refine ⟨by simp [h1], ?_, ?_⟩
  · intro h0
    by_cases he : e' = 0
    · subst he
      have e1 : rdE k b' 0 = rd1 k b' := rfl
      rw [e1] at h0 ⊢
      rw [h2 rfl, show n - j = (n - (j + 1)) + 1 by omega, rdN, if_pos h0]
      simp
    · have : (rdE k b' e').2.2 = e' := by unfold rdE; rw [if_neg he]
      omega
  · intro h0
    by_cases he : e' = 0
    · subst he
      have e1 : rdE k b' 0 = rd1 k b' := rfl
      rw [e1] at h0 ⊢
      rw [h2 rfl, show n - j = (n - (j + 1)) + 1 by omega, rdN, if_neg h0]
    · have : (rdE k b' e').2.2 = e' := by unfold rdE; rw [if_neg he]
      rw [this]
      exact h3 he

theorem decP_err {k n : Nat} {b : List Nat} {L : List V} {b' : List Nat} {e' : Int} (hk : k = 2 ∨ k = 3 ∨ k = 4) (hn : n ≤ 4000) (h : RdJ k n b n L b' e') (hok : e' ≠ 0 → b' = []) : decP (k : Int) b (n : Int) = (if e' = 0 then (if b' = [] then (L, 0) else ([], 9)) else ([], e')) := by
  obtain ⟨h1, h2, h3⟩ := h
  unfold decP
  rw [if_neg (by omega), if_neg (by omega), Int.toNat_natCast, Int.toNat_natCast]
  by_cases he : e' = 0
  · have h := h2 he
    rw [Nat.sub_self] at h
    have e0 : rdN k 0 b' = ([], b', 0) := rfl
    rw [e0] at h
    rw [h, if_pos he]
    simp
  · rw [if_neg he, h3 he, if_pos he]

/-- What Decode answers, with its memory. -/
def PDecOut (k : Int) (b : List Nat) (n : Int) (w : World) (e : Ending) (w' : World) : Prop :=
  ∃ x, e = .returned (.tuple #[x, .int .i64 (decP k b n).2]) ∧ Chg [] w w' ∧ w'.ownsRow w.heap.size 39 2 x (decP k b n).1.length ((decP k b n).1.flatMap V.cs)

/-- What the row and the reader are while values are read. -/
structure VJ11 (w wi : World) (k n r M : Nat) (b : List Nat) (j : Nat) (lv : Value) (L : List V) (b' : List Nat) (e' : Int) : Prop where
  c0 : Chg [] w wi
  rj : RdJ k n b j L b' e'
  pr : PR wi r M b' e'
  ow : wi.ownsRow w.heap.size 39 2 lv j (L.flatMap V.cs)
  hr : w.heap.size ≤ r
  hM : M ≤ wi.heap.size

set_option maxRecDepth 100000 in
set_option maxHeartbeats 4000000 in
theorem pvalues_any (k : Nat) (hk : k = 2 ∨ k = 3 ∨ k = 4) (bv : Value) (b : List Nat) (n : Nat) (w : World) (hn : n ≤ 4000) (hS : Seen w bv (nv .u8 b)) (hb : ∀ x ∈ b, x < 256) (hbl : b.length ≤ 140737488355328) :
    Calls Tryd.prog 36 #[.int .i32 (sgK k), bv, .int .i64 (n : Int)] w (PDecOut (k : Int) b (n : Int) w) := by
  obtain ⟨i0, hi, hz0, hz1, hz2⟩ := info_value
  have HSB := Lib.hid hS; have HB := Lib.hid hb
  obtain ⟨sg, hsg⟩ : ∃ s, s = sgK k := ⟨_, rfl⟩
  have HG := Lib.hid hsg
  rw [← hsg]
  clear hS hb hsg
  go_enter Tryd.func36, Tryd.ntmps36
  go_wp2
  refine wp_scope_pre2 0 (fun a' wi => ∃ (j r M : Nat) (lo : Option Addr) (lc : Nat) (L : List V) (b' : List Nat) (e' : Int) (u10 u11 u12 u13 u14 u15 u16 u17 u18 u19 u20 u21 u22 u23 u24 u25 u26 u27 u28 u29 u30 : Value), j ≤ n ∧ a' = { tmps := #[.int .i32 sg, bv, .int .i64 (n : Int), undef, undef, undef, .slice none 0 0, .int .i64 0, .slice lo j lc, .pointer (some ⟨r, 0, none⟩), u10, u11, u12, u13, u14, u15, u16, u17, u18, u19, u20, u21, u22, u23, u24, u25, u26, u27, u28, u29, u30], defers := [] } ∧ VJ11 w wi k n r M b j (.slice lo j lc) L b' e') (fun a' _ => n - slen (a'.tmps.getD 8 undef)) rfl ?_ ?_
  · go_wp2_with (at_make; refine wpList_make_own _ rfl _ _ 22 rfl w.heap.size 39 i0 (.agg #[.int .i64 0, .string ByteArray.empty]) 2 Tryd.underlying22 hi hz0 hz1 .i64 .i64 _ n rfl rfl ?c1 ?c2 ?c3 (Nat.le_refl _) ?_)
    case c1 => simp
    case c2 => rw [hz2]; omega
    case c3 => unfold maxLen; omega
    intro w1 hown1 hg1
    have HC1 := Lib.hid ((Chg.refl [] w).grown hg1 (by simp))
    have HO1 := Lib.hid hown1
    have hsz := HC1.out.size
    clear hown1 hg1
    have HN := Lib.hid (new_any bv (zi b) w1 (by rw [zi_length]; exact hbl) (by rw [bys_zi]; exact HSB.out.keep HC1.out))
    go_wp2_with (first
      | (go_at_call 62; (with_reducible refine HN.out.mono ?_); rintro e w2 ⟨r, rfl, hc, hr, hrd⟩; have HC2 := Lib.hid (HC1.out.trans hc (by simp)); have HC12 := Lib.hid hc; have HR := Lib.hid hr; have HRD := Lib.hid hrd; clear hc hr hrd)
      | fail)
    refine ⟨0, r, w2.heap.size, _, _, [], b, 0, _, _, _, _, _, _, _, _, _, _, _, _, _, _, _, _, _, _, _, _, _, Nat.zero_le _, rfl, ⟨HC2.out, ⟨rfl, fun _ => by simp, fun h => absurd rfl h⟩, ⟨HRD.out, HB.out, hbl, fun h => absurd rfl h, HRD.out.lt⟩, own_chg HO1.out HC12.out (by simp), Nat.le_trans hsz HR.out, Nat.le_refl _⟩⟩
  · rintro a' wi ⟨j, r, M, lo, lc, L, b', e', u10, u11, u12, u13, u14, u15, u16, u17, u18, u19, u20, u21, u22, u23, u24, u25, u26, u27, u28, u29, u30, hj, rfl, hJ⟩
    have HJ := Lib.hid hJ
    have hB := hJ.c0.size
    clear hJ
    by_cases hlt : j < n
    · have d1 : decide ((j : Int) < (n : Int)) = true := by simp; omega
      have HV := Lib.hid (pval_any hk HJ.out.pr HJ.out.hM)
      rw [← HG.out] at HV
      obtain ⟨u, hu⟩ : ∃ u, u = (rdE k b' e').1 := ⟨_, rfl⟩
      rw [← hu] at HV
      have HU := Lib.hid hu
      clear hu
      go_wp2_with (first
        | (go_at_call 63; (with_reducible refine HV.out.mono ?_); rintro e w2 ⟨rfl, hc2, hp2⟩; have HC2 := Lib.hid hc2; have HP2 := Lib.hid hp2; have HO2 := Lib.hid (own_chg HJ.out.ow hc2 (HJ.out.pr.far HJ.out.ow)); have hB2 := hc2.size; clear hc2 hp2)
        | (at_builtin; refine wpList_append_own _ rfl _ _ 22 rfl w.heap.size 39 i0 (.agg #[.int .i64 0, .string ByteArray.empty]) 2 24 Tryd.underlying22 hi hz0 hz1 hz2 rfl (by decide) _ _ _ rfl (HO2.out.alloc _) ⟨w2.heap.size, 0, none⟩ 1 1 (V.cs u) rfl rfl ?c1 ?c2 ?c3 ?c4 ?c5 ?_)
        | fail)
      case c1 => exact new_cells (C := #[.int .i64 u.n, .string u.s]) _ rfl
      case c2 => exact V.one u
      case c3 => unfold maxLen; omega
      case c4 => omega
      case c5 => simp; omega
      intro v' w3 hown' hgrow _
      have hca : Chg [] w2 (w2.alloc (vo u)) := (Chg.refl [] w2).alloc _
      have hcg : Chg (Value.slice lo j lc).ownBlock.toList (w2.alloc (vo u)) w3 := (Chg.refl _ _).grown hgrow (fun g hg => .inl (by simp [hg]))
      have HP3 := Lib.hid ((HP2.out.keep hca).keepOwn (own_chg HO2.out hca (by simp)) hcg)
      have HC3 := Lib.hid (show Chg [] w w3 from ((HJ.out.c0.trans HC2.out (by have := HJ.out.hr; simp; omega)).alloc (vo u)).grown hgrow (fun g hg => .inr (HO2.out.lt g hg).1))
      have HO3 := Lib.hid (show w3.ownsRow w.heap.size 39 2 v' (j + 1) ((L ++ [u]).flatMap V.cs) by rw [List.flatMap_append]; simpa using hown')
      have HM3 := Lib.hid (show M ≤ w3.heap.size by have := HJ.out.hM; have := hcg.size; have := hca.size; omega)
      obtain ⟨vo', vc', rfl⟩ := own_shape HO3.out
      clear hgrow hown' hca hcg
      go_wp2
      go_step3
      refine ⟨rfl, ⟨j + 1, r, M, _, _, L ++ [u], (rdE k b' e').2.1, (rdE k b' e').2.2, _, _, _, _, _, _, _, _, _, _, _, _, _, _, _, _, _, _, _, _, _, hlt, rfl, ⟨HC3.out, ?_, HP3.out, HO3.out, HJ.out.hr, HM3.out⟩⟩, by simp [slen]; omega⟩
      rw [HU.out]
      exact HJ.out.rj.step hlt
    · obtain rfl : j = n := by omega
      have d1 : decide ((j : Int) < (j : Int)) = false := by simp
      have E := Lib.hid (decP_err hk hn HJ.out.rj HJ.out.pr.ok)
      have HE := Lib.hid (end_any r (zi b') e' wi (by rw [zi_length]; exact HJ.out.pr.bl) HJ.out.pr.rd)
      unfold PDecOut
      rw [E.out]
      have HL := Lib.hid HJ.out.rj.1
      by_cases he : e' = 0
      · subst he
        rw [if_pos rfl]
        by_cases hb0 : b' = []
        · rw [if_pos hb0]
          rw [hb0, if_pos (show zi [] = [] from rfl)] at HE
          clear hb0
          go_wp2_with (first
            | (go_at_call 64; (with_reducible refine HE.out.mono ?_); rintro e w2 ⟨rfl, rfl⟩)
            | fail)
          simp only [Exit.jump]
          go_ret2
          exact ⟨_, rfl, HJ.out.c0, by have h := HJ.out.ow; rw [← HL.out] at h ⊢; exact h⟩
        · rw [if_neg hb0]
          have hz : ¬ zi b' = [] := fun h => hb0 (by simpa [zi] using h)
          rw [if_neg hz] at HE
          clear hb0 hz
          go_wp2_with (first
            | (go_at_call 64; (with_reducible refine HE.out.mono ?_); rintro e w2 ⟨rfl, rfl⟩)
            | fail)
          simp only [Exit.jump]
          go_ret2
          exact ⟨_, rfl, HJ.out.c0, World.ownsRow_nil _ _ _ _⟩
      · rw [if_neg he]
        have hb0 := HJ.out.pr.ok he
        rw [hb0, if_pos (show zi [] = [] from rfl)] at HE
        have hne : (e' != 0) = true := by simpa using he
        clear hb0
        go_wp2_with (first
          | (go_at_call 64; (with_reducible refine HE.out.mono ?_); rintro e w2 ⟨rfl, rfl⟩)
          | fail)
        simp only [Exit.jump]
        go_ret2
        exact ⟨_, rfl, HJ.out.c0, World.ownsRow_nil _ _ _ _⟩

end Go.Proofs.YtohgnbgijleoaaaDoor

namespace Go.Proofs.YtohgnbgijleoaaaDoor
open Go.RowKit
set_option linter.unusedVariables false
set_option linter.unusedSimpArgs false

theorem cells_values (n : Nat) : (madeCells #[.int .i64 0, .string ByteArray.empty] (n * 2)).toList = (List.replicate n (⟨0, e0⟩ : V)).flatMap V.cs := by
  apply List.ext_getElem?
  intro j
  by_cases hj : j < n * 2
  · have key : ∀ u, (V.cs ⟨0, e0⟩)[j % 2]? = some u → ((List.replicate n (⟨0, e0⟩ : V)).flatMap V.cs)[j]? = some u := fun u hu => by
      have h := flat_get V.cs_len (List.replicate n (⟨0, e0⟩ : V)) (j / 2) ⟨0, e0⟩ (j % 2) u (by rw [List.getElem?_replicate, if_pos (by omega)]) hu
      rwa [show j / 2 * 2 + j % 2 = j by omega] at h
    have h3 : j % 2 = 0 ∨ j % 2 = 1 := by omega
    rcases h3 with h3 | h3
    all_goals
      rw [h3] at key
      rw [key _ rfl]
      simp [madeCells, hj, h3]
    rfl
  · rw [List.getElem?_eq_none (by simp [madeCells]; omega), List.getElem?_eq_none (by rw [flat_length V.cs_len]; simp; omega)]

theorem flat_setV : ∀ (l : List V) (g : Nat) (f : V) (v : Int), l[g]? = some f → (l.flatMap V.cs).set (g * 2) (.int .i64 v) = (l.set g ⟨v, f.s⟩).flatMap V.cs
  | [], g, f, v, h => by simp at h
  | x :: l, 0, f, v, h => by
    simp at h
    subst h
    rw [List.flatMap_cons, List.set_cons_zero, List.flatMap_cons]
    rfl
  | x :: l, g + 1, f, v, h => by
    rw [List.getElem?_cons_succ] at h
    rw [List.flatMap_cons, List.set_cons_succ, List.flatMap_cons, ← flat_setV l g f v h, List.set_append, if_neg (by rw [V.cs_len]; omega), V.cs_len, show (g + 1) * 2 - 2 = g * 2 by omega]

/-- The first j of A as values, noughts behind them. -/
def fillV (A : List Nat) (j : Nat) : List V := (A.take j).map (fun x : Nat => (⟨(x : Int), e0⟩ : V)) ++ List.replicate (A.length - j) ⟨0, e0⟩
theorem fillV_len (A : List Nat) (j : Nat) (h : j ≤ A.length) : (fillV A j).length = A.length := by unfold fillV; simp; omega
theorem fillV_set (A : List Nat) (j : Nat) (h : j < A.length) : ((fillV A j).flatMap V.cs).set (j * 2) (.int .i64 ((A.getD j 0 : Nat) : Int)) = (fillV A (j + 1)).flatMap V.cs := by
  have e1 : fillV A j = (A.take j).map (fun x : Nat => (⟨(x : Int), e0⟩ : V)) ++ (⟨0, e0⟩ :: List.replicate (A.length - (j + 1)) ⟨0, e0⟩) := by
    unfold fillV; rw [show A.length - j = (A.length - (j + 1)) + 1 by omega, List.replicate_succ]
  have hl : ((A.take j).map (fun x : Nat => (⟨(x : Int), e0⟩ : V))).length = j := by simp; omega
  have e2 : fillV A (j + 1) = (A.take j).map (fun x : Nat => (⟨(x : Int), e0⟩ : V)) ++ (⟨((A.getD j 0 : Nat) : Int), e0⟩ :: List.replicate (A.length - (j + 1)) ⟨0, e0⟩) := by
    unfold fillV
    rw [List.take_succ_eq_append_getElem h, List.map_append, List.append_assoc]
    congr 1
    simp [List.getD, h]
  have hg : (fillV A j)[j]? = some ⟨0, e0⟩ := by
    rw [e1, List.getElem?_append_right (by omega), hl]; simp
  rw [flat_setV _ _ _ _ hg, e2, e1, List.set_append, if_neg (by omega), hl, Nat.sub_self, List.set_cons_zero]
theorem fillV_at (A : List Nat) (j : Nat) (h : j < A.length) : ((fillV A j).flatMap V.cs)[j * 2]? = some (.int .i64 0) := by
  have hl : ((A.take j).map (fun x : Nat => (⟨(x : Int), e0⟩ : V))).length = j := by simp; omega
  have hg : (fillV A j)[j]? = some ⟨0, e0⟩ := by
    unfold fillV
    rw [show A.length - j = (A.length - (j + 1)) + 1 by omega, List.replicate_succ, List.getElem?_append_right (by omega), hl]; simp
  have := flat_get V.cs_len (fillV A j) j ⟨0, e0⟩ 0 (.int .i64 0) hg rfl
  simpa using this
theorem fillV_all (A : List Nat) : fillV A A.length = A.map (fun x : Nat => (⟨(x : Int), e0⟩ : V)) := by unfold fillV; simp

set_option maxRecDepth 100000 in
set_option maxHeartbeats 4000000 in
theorem ptruths_any (bv : Value) (b : List Nat) (n : Nat) (w : World) (hn : n ≤ 4000) (hS : Seen w bv (nv .u8 b)) (hb : ∀ x ∈ b, x < 2 ^ 8) :
    Calls Tryd.prog 35 #[bv, .int .i64 (n : Int)] w (PDecOut 1 b (n : Int) w) := by
  obtain ⟨i0, hi, hz0, hz1, hz2⟩ := info_value
  have HU := Lib.hid (unpack_any bv b n 1 w hn (by decide) hS hb)
  rw [show ((1 : Nat) : Int) = 1 from rfl] at HU
  have E := Lib.hid (show decP 1 b (n : Int) = ((outU b n 1).map (fun x : Nat => (⟨(x : Int), e0⟩ : V)), faultOf b (1 * n)) by
    unfold decP; rw [if_neg (by omega), if_pos rfl, Int.toNat_natCast])
  have hbd : ∀ x ∈ outU b n 1, x < 2 := by
    intro x hx
    unfold outU at hx
    split at hx
    · unfold unpacked pk at hx
      obtain ⟨j, _, rfl⟩ := List.mem_map.1 hx
      exact wd_lt _ _ _ _
    · simp at hx
  have hlen : faultOf b (1 * n) = 0 → (outU b n 1).length = n := fun h => by unfold outU; rw [if_pos h, unpacked_length]
  have hnil : faultOf b (1 * n) ≠ 0 → outU b n 1 = [] := fun h => by unfold outU; rw [if_neg h]
  unfold PDecOut
  unfold UnpackOut at HU
  rw [E.out]
  obtain ⟨f, hf⟩ : ∃ f, f = faultOf b (1 * n) := ⟨_, rfl⟩
  obtain ⟨A, hA⟩ : ∃ A, A = outU b n 1 := ⟨_, rfl⟩
  rw [← hf, ← hA] at HU ⊢
  rw [← hf] at hlen hnil
  rw [← hA] at hbd hlen hnil
  have HBD := Lib.hid hbd
  clear hS hb hf hA hbd E
  by_cases hf0 : f = 0
  · subst hf0
    have hAl := hlen rfl
    have HAL := Lib.hid hAl
    clear hlen hnil
    go_enter Tryd.func35, Tryd.ntmps35
    go_wp2_with (first
      | (go_at_call 61; (with_reducible refine HU.out.mono ?_); rintro e w1 ⟨v, rfl, hc, ho⟩; rw [hAl] at ho; obtain ⟨vo, vc, rfl⟩ := own_shape ho; have HC1 := Lib.hid hc; have HA := Lib.hid (reads_of_own ho).seen; clear hc ho hAl)
      | (at_make; refine wpList_make_full _ rfl _ _ 22 rfl w1.heap.size 39 i0 (.agg #[.int .i64 0, .string ByteArray.empty]) 2 Tryd.underlying22 hi hz0 hz1 .i64 .i64 _ _ n rfl rfl rfl rfl ?c1 ?c2 (Nat.le_refl _) ?_)
      | fail)
    case c1 => rw [hz2]; omega
    case c2 => unfold maxLen; omega
    intro w2 hown hg
    rw [show (madeCells #[Value.int .i64 0, .string ByteArray.empty] (n * 2)).toList = (fillV A 0).flatMap V.cs by rw [cells_values]; unfold fillV; rw [HAL.out]; simp] at hown
    have HC2 := Lib.hid ((Chg.refl [] w1).grown hg (by simp))
    have HO2 := Lib.hid hown
    obtain ⟨gl, hgl⟩ : ∃ g, g = w1.heap.size := ⟨_, rfl⟩
    have HGL := Lib.hid hgl
    have hgw : w.heap.size ≤ gl := by rw [hgl]; exact HC1.out.size
    rw [← hgl] at HO2 ⊢
    clear hown hg hgl
    go_wp2
    go_loopw [24] (fun i w' => ∃ j : Nat, j ≤ n ∧ i = .int .i64 (j : Int) ∧ Chg [] w1 w' ∧ w'.ownsRow gl 39 2 (.slice (some ⟨gl, 0, none⟩) n n) n ((fillV A j).flatMap V.cs)) (fun i _ => n - (intOf i).toNat)
    case atStart => exact ⟨0, Nat.zero_le _, rfl, HC2.out, HO2.out⟩
    case round =>
      obtain ⟨j, hj, rfl, hc, ho⟩ := hrel
      have HC := Lib.hid hc; have HO := Lib.hid ho
      clear hc ho
      by_cases hlt : j < n
      · have d1 : decide ((j : Int) < (n : Int)) = true := by simp; omega
        obtain ⟨g, off, rfl, hcell⟩ := (HA.out.keep HC.out).at0 HAL.out (by omega)
        have x0 := hcell j hlt
        obtain ⟨s, hs⟩ : ∃ s, s = A.getD j 0 := ⟨_, rfl⟩
        rw [← hs] at x0
        have hs2 : s < 2 := by rw [hs]; exact HBD.out _ (getD_mem (by rw [HAL.out]; exact hlt))
        have hwr : IntKind.i64.wrap (s : Int) = (s : Int) := IntWalk.i64_in _ (by omega)
        obtain ⟨g', hg', hge, hlt', hfz, hcl⟩ := own_ptr HO.out (by omega)
        injection hg' with hg'
        injection hg' with hg'
        subst hg'
        have f0 := hfz (j * 2)
        have y0 := hcl (j * 2) (.int .i64 0) (fillV_at A j (by rw [HAL.out]; exact hlt))
        have HFS := Lib.hid (fillV_set A j (by rw [HAL.out]; exact hlt))
        rw [← hs] at HFS
        clear hcell hs hfz hcl
        go_wp2
        go_roundw
        case rel => exact ⟨j + 1, hlt, by go_num, HC.out.setCell (.inr (by rw [← HGL.out]; exact Nat.le_refl _)) _, by
          have h := own_set HO.out (j * 2) (by omega) (.int .i64 (s : Int))
          rw [HFS.out] at h
          exact h⟩
        case measure => simp [intOf]; omega
      · have d1 : decide ((j : Int) < (n : Int)) = false := by simp; omega
        obtain rfl : j = n := by omega
        have HF := Lib.hid (show wr.ownsRow w.heap.size 39 2 (.slice (some ⟨gl, 0, none⟩) j j) (A.map (fun x : Nat => (⟨(x : Int), e0⟩ : V))).length ((A.map (fun x : Nat => (⟨(x : Int), e0⟩ : V))).flatMap V.cs) by
          have h := own_mono HO.out hgw
          rw [show fillV A j = A.map (fun x : Nat => (⟨(x : Int), e0⟩ : V)) by rw [← HAL.out]; exact fillV_all A] at h
          rw [List.length_map, HAL.out]
          exact h)
        go_wp2
        go_ret2
        exact ⟨_, rfl, HC1.out.trans HC.out (by simp), HF.out⟩
  · have hAn := hnil hf0
    subst hAn
    have hne : (f != 0) = true := by simpa using hf0
    clear hlen hnil
    go_enter Tryd.func35, Tryd.ntmps35
    go_wp2_with (first
      | (go_at_call 61; (with_reducible refine HU.out.mono ?_); rintro e w1 ⟨v, rfl, hc, ho⟩; have HC1 := Lib.hid hc; clear hc ho)
      | fail)
    go_ret2
    exact ⟨_, rfl, HC1.out, World.ownsRow_nil _ _ _ _⟩

set_option maxRecDepth 100000 in
set_option maxHeartbeats 4000000 in
theorem pdecode_any (k n : Int) (bv : Value) (b : List Nat) (w : World) (hk : (Lit.int .i64 k).wf = true) (hn : (Lit.int .i64 n).wf = true) (hL : Laid w) (hS : Seen w bv (nv .u8 b)) (hb : ∀ x ∈ b, x < 2 ^ 8) (hbl : b.length ≤ 140737488355328) :
    Calls Tryd.prog 20 #[.int .i64 k, bv, .int .i64 n] w (PDecOut k b n w) := by
  have hk1 := wf_i64 hk
  have hn1 := wf_i64 hn
  have HSG := Lib.hid (signOf_any k w hk1 hL)
  by_cases hbad : k < 1 ∨ 4 < k ∨ n < 0 ∨ 4000 < n
  · have E := Lib.hid (show decP k b n = ([], 1) by unfold decP; rw [if_pos hbad])
    unfold PDecOut
    rw [E.out]
    by_cases hkb : k < 1 ∨ 4 < k
    · rw [show sgI k = 45 by unfold sgI; rw [if_pos hkb]] at HSG
      clear hL hS hbad hkb
      go_enter Tryd.func20, Tryd.ntmps20
      go_wp2_with (first
        | (go_at_call 30; (with_reducible refine HSG.out.mono ?_); rintro e w1 ⟨rfl, rfl⟩)
        | fail)
      go_ret2
      exact ⟨_, rfl, Chg.refl _ _, World.ownsRow_nil _ _ _ _⟩
    · have hs : sgI k = 98 ∨ sgI k = 52 ∨ sgI k = 56 ∨ sgI k = 116 := by
        unfold sgI
        rw [if_neg hkb]
        have : k = 1 ∨ k = 2 ∨ k = 3 ∨ k = 4 := by omega
        rcases this with rfl | rfl | rfl | rfl
        · exact .inl rfl
        · exact .inr (.inl rfl)
        · exact .inr (.inr (.inl rfl))
        · exact .inr (.inr (.inr rfl))
      have hnb : n < 0 ∨ 4000 < n := by omega
      obtain ⟨sg, hsg⟩ : ∃ s, s = sgI k := ⟨_, rfl⟩
      rw [← hsg] at HSG hs
      have h45 : (sg == 45) = false := by rcases hs with rfl | rfl | rfl | rfl <;> rfl
      clear hL hS hbad hkb hs hsg
      rcases hnb with hnb | hnb
      · go_enter Tryd.func20, Tryd.ntmps20
        go_wp2_with (first
          | (go_at_call 30; (with_reducible refine HSG.out.mono ?_); rintro e w1 ⟨rfl, rfl⟩)
          | fail)
        go_ret2
        exact ⟨_, rfl, Chg.refl _ _, World.ownsRow_nil _ _ _ _⟩
      · have hn0 : ¬ n < 0 := by omega
        go_enter Tryd.func20, Tryd.ntmps20
        go_wp2_with (first
          | (go_at_call 30; (with_reducible refine HSG.out.mono ?_); rintro e w1 ⟨rfl, rfl⟩)
          | fail)
        go_ret2
        exact ⟨_, rfl, Chg.refl _ _, World.ownsRow_nil _ _ _ _⟩
  · obtain ⟨N, rfl⟩ : ∃ N : Nat, n = (N : Int) := ⟨n.toNat, by omega⟩
    obtain ⟨K, rfl⟩ : ∃ K : Nat, k = (K : Int) := ⟨k.toNat, by omega⟩
    have hK : 1 ≤ K ∧ K ≤ 4 := by omega
    have hN : N ≤ 4000 := by omega
    rw [sgI_nat K hK] at HSG
    have hn0 : ¬ ((N : Int) < 0) := by omega
    have hn2 : ¬ ((4000 : Int) < (N : Int)) := by omega
    by_cases h1 : K = 1
    · subst h1
      have HT := Lib.hid (ptruths_any bv b N w hN hS hb)
      rw [show sgK 1 = 98 from rfl] at HSG
      rw [show ((1 : Nat) : Int) = 1 from rfl] at HSG ⊢
      unfold PDecOut at HT ⊢
      obtain ⟨q, hq⟩ : ∃ q, q = decP 1 b (N : Int) := ⟨_, rfl⟩
      rw [← hq] at HT ⊢
      clear hL hS hbad hb hq
      go_enter Tryd.func20, Tryd.ntmps20
      go_wp2_with (first
        | (go_at_call 30; (with_reducible refine HSG.out.mono ?_); rintro e w1 ⟨rfl, rfl⟩)
        | (go_at_call 35; (with_reducible refine HT.out.mono ?_); rintro e w2 ⟨x, rfl, hc, ho⟩; have HC := Lib.hid hc; have HO := Lib.hid ho; clear hc ho)
        | fail)
      go_ret2
      exact ⟨_, rfl, HC.out, HO.out⟩
    · have hK' : K = 2 ∨ K = 3 ∨ K = 4 := by omega
      have HT := Lib.hid (pvalues_any K hK' bv b N w hN hS hb hbl)
      have hs : sgK K = 52 ∨ sgK K = 56 ∨ sgK K = 116 := by
        rcases hK' with rfl | rfl | rfl
        · exact .inl rfl
        · exact .inr (.inl rfl)
        · exact .inr (.inr rfl)
      obtain ⟨sg, hsg⟩ : ∃ s, s = sgK K := ⟨_, rfl⟩
      rw [← hsg] at HSG HT hs
      have h45 : (sg == 45) = false := by rcases hs with rfl | rfl | rfl <;> rfl
      have h98 : (sg == 98) = false := by rcases hs with rfl | rfl | rfl <;> rfl
      unfold PDecOut at HT ⊢
      obtain ⟨q, hq⟩ : ∃ q, q = decP (K : Int) b (N : Int) := ⟨_, rfl⟩
      rw [← hq] at HT ⊢
      clear hL hS hbad hb hq hs hsg hK'
      go_enter Tryd.func20, Tryd.ntmps20
      go_wp2_with (first
        | (go_at_call 30; (with_reducible refine HSG.out.mono ?_); rintro e w1 ⟨rfl, rfl⟩)
        | (go_at_call 36; (with_reducible refine HT.out.mono ?_); rintro e w2 ⟨x, rfl, hc, ho⟩; have HC := Lib.hid hc; have HO := Lib.hid ho; clear hc ho)
        | fail)
      go_ret2
      exact ⟨_, rfl, HC.out, HO.out⟩

end Go.Proofs.YtohgnbgijleoaaaDoor
