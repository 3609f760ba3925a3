/- wire's parser: values. -/
import Derived.Test.YthhcnlmjcpkbnaaHd
import Derived.Test.YthhcnlmjcpkbnaaYi
namespace Go.Proofs.Ythhcnlmjcpkbnaa
open Go.RowKit
set_option linter.unusedVariables false
set_option linter.unusedSimpArgs false

/-- So many values, up to an error. -/
def pVals (g : St → Tr × St) : Nat → St → List Tr × St
  | 0, s => ([], s)
  | n + 1, s => if s.2 ≠ 0 then ([], s) else ((g s).1 :: (pVals g n (g s).2).1, (pVals g n (g s).2).2)

theorem pVals_len (g : St → Tr × St) : ∀ n s, (pVals g n s).1.length ≤ n
  | 0, s => Nat.le_refl _
  | n + 1, s => by
    unfold pVals
    split
    · exact Nat.zero_le _
    · have := pVals_len g n (g s).2
      simpa using this

/-- What is asked of value, at a place. -/
def VC (w0 : World) (gp gr B : Nat) (fv bv : Value) (fm b : List Nat) (d at0 : Nat) (g : St → Tr × St) : Prop :=
  ∀ (w : World) (s : St), WPS w0 w gp gr B fv bv fm b s → Calls Try.prog 106 #[.pointer (some ⟨gp, 0, none⟩), .int .i64 (at0 : Int)] w fun e w' =>
    ∃ kv, e = .returned (.agg #[.int .i64 (g s).1.n, .string (g s).1.s, kv]) ∧ KidsIn (w.heap.size ≤ ·) w' d (g s).1.k kv ∧ WPS w0 w' gp gr B fv bv fm b (g s).2 ∧ Chg [gr] w w'

/-- A row of trees grows. -/
theorem grow_trees {W d gr : Nat} {wx w4 w5 : World} {E : List (Tr × Value)} {lv kv4 v5 : Value} {t : Tr} {o : Obj}
    (how : wx.ownsRow W 30 3 lv E.length (E.flatMap encT)) (hli : ∀ q ∈ E, KidsIn (fun g => W ≤ g ∧ lv.ownBlock ≠ some g) wx d q.1.k q.2) (hW : W ≤ wx.heap.size) (hgr : gr < W)
    (hk4 : KidsIn (wx.heap.size ≤ ·) w4 d t.k kv4) (hc4 : Chg [gr] wx w4)
    (hown5 : w5.ownsRow W 30 3 v5 (E.length + 1) (E.flatMap encT ++ encT (t, kv4))) (hg5 : (w4.alloc o).grownBy w5 lv.ownBlock) (hat5 : v5.ownBlock = lv.ownBlock ∨ v5.ownBlock = some (w4.alloc o).heap.size) :
    w5.ownsRow W 30 3 v5 (E ++ [(t, kv4)]).length ((E ++ [(t, kv4)]).flatMap encT) ∧ (∀ q ∈ E ++ [(t, kv4)], KidsIn (fun g => W ≤ g ∧ v5.ownBlock ≠ some g) w5 d q.1.k q.2) ∧ Chg lv.ownBlock.toList w4 w5 ∧ ∀ g ∈ lv.ownBlock.toList, W ≤ g := by
  have hlB : ∀ g, lv.ownBlock = some g → W ≤ g ∧ g < wx.heap.size := fun g hg => ⟨own_ge how g hg, own_lt how g hg⟩
  have hcW : Chg lv.ownBlock.toList w4 w5 := ((Chg.refl _ w4).alloc o).grown hg5 (fun q hq => .inl (by simp [hq]))
  have hsz4 := hc4.size
  have hfin : ∀ {k : List (List Tr)} {v : Value}, KidsIn (fun g => W ≤ g ∧ lv.ownBlock ≠ some g) w4 d k v → KidsIn (fun g => W ≤ g ∧ v5.ownBlock ≠ some g) w5 d k v := fun hk => by
    have h1 := hk.lt
    have h2 := h1.keep hcW (fun g hg hm => by simp at hm; exact hg.1.2 hm)
    refine h2.mono (fun g hg => ⟨hg.1.1, fun e => ?_⟩) (Nat.le_refl _)
    rcases hat5 with h3 | h3
    · rw [h3] at e; exact hg.1.2 e
    · rw [h3] at e
      injection e with e
      have : (w4.alloc o).heap.size = w4.heap.size + 1 := by simp
      have := hg.2
      omega
  refine ⟨?_, fun q hq => ?_, hcW, fun g hg => by simp at hg; exact (hlB g hg).1⟩
  · rw [List.length_append, List.flatMap_append]
    simpa using hown5
  · rcases List.mem_append.1 hq with hq | hq
    · refine hfin ((hli q hq).keep hc4 fun g hg hm => ?_)
      simp at hm
      omega
    · simp at hq
      subst hq
      refine hfin (hk4.mono (fun g hg => ⟨Nat.le_trans hW hg, fun e => ?_⟩) (Nat.le_refl _))
      have := (hlB g e).2
      omega

/-- How values stands. -/
structure VLJ (w0 w wi : World) (gp gr B : Nat) (fv bv : Value) (fm b : List Nat) (d n : Nat) (g : St → Tr × St) (s s1 : St) (E : List (Tr × Value)) (lv : Value) : Prop where
  ow : wi.ownsRow w.heap.size 30 3 lv E.length (E.flatMap encT)
  li : ∀ q ∈ E, KidsIn (fun x => w.heap.size ≤ x ∧ lv.ownBlock ≠ some x) wi d q.1.k q.2
  ps : WPS w0 wi gp gr B fv bv fm b s1
  cg : Chg [gr] w wi
  le : E.length ≤ n
  eq : pVals g n s = (E.map (·.1) ++ (pVals g (n - E.length) s1).1, (pVals g (n - E.length) s1).2)

set_option maxRecDepth 100000 in
set_option maxHeartbeats 2000000 in
theorem values_any9 {w0 : World} {gp gr B : Nat} {fv bv : Value} {fm b : List Nat} {d at0 : Nat} {g : St → Tr × St} (hV : VC w0 gp gr B fv bv fm b d at0 g) (w : World) (s : St) (n : Nat) (hn : n ≤ 1000) (hP : WPS w0 w gp gr B fv bv fm b s) :
    Calls Try.prog 80 #[.pointer (some ⟨gp, 0, none⟩), .int .i64 (at0 : Int), .int .i64 (n : Int)] w fun e w' =>
      ∃ lv, e = .returned lv ∧ ListIn (w.heap.size ≤ ·) w' d (pVals g n s).1 lv ∧ WPS w0 w' gp gr B fv bv fm b (pVals g n s).2 ∧ Chg [gr] w w' := by
  obtain ⟨i0, hi, hz0, hz1, hz2⟩ := info_tree
  have HV := Lib.hid hV; have HP := Lib.hid hP
  have hgr : gr < w.heap.size := Nat.lt_of_lt_of_le hP.lr hP.lB
  have hBw := hP.lB
  clear hV hP
  go_enter Try.func80, Try.ntmps80
  go_wp2_with fail
  refine wp_scope_head 0 (fun a' w' => ∃ (s1 : St) (E : List (Tr × Value)) (lv : Value) (u7 u8 u9 u10 u11 u12 u13 u14 u15 u16 u17 u18 u19 u20 u21 : Value), a' = { tmps := #[.pointer (some ⟨gp, 0, none⟩), .int .i64 (at0 : Int), .int .i64 (n : Int), undef, undef, undef, lv, u7, u8, u9, u10, u11, u12, u13, u14, u15, u16, u17, u18, u19, u20, u21], defers := [] } ∧ VLJ w0 w w' gp gr B fv bv fm b d n g s s1 E lv) (fun a' _ => n - slen (a'.tmps.getD 6 undef)) rfl ?_ ?_
  · exact ⟨s, [], _, _, _, _, _, _, _, _, _, _, _, _, _, _, _, _, rfl, ⟨⟨rfl, .inl ⟨rfl, rfl⟩⟩, by simp, HP.out, Chg.refl _ _, Nat.zero_le _, by simp⟩⟩
  rintro a' wi ⟨s1, E, lv, u7, u8, u9, u10, u11, u12, u13, u14, u15, u16, u17, u18, u19, u20, u21, rfl, hJ⟩
  obtain ⟨la, lc, rfl⟩ := own_shape hJ.ow
  obtain ⟨m, hm⟩ : ∃ m, m = E.length := ⟨_, rfl⟩
  have hle := hJ.le
  have HOW := Lib.hid hJ.ow
  have HF := Lib.hid (failed_any hJ.ps)
  have HVC := Lib.hid (HV.out wi s1 hJ.ps)
  have hwi : w.heap.size ≤ wi.heap.size := hJ.cg.size
  rw [← hm] at hle HOW hJ ⊢
  have HJ := Lib.hid hJ; have HM := Lib.hid hm
  clear hJ hm
  by_cases hmn : m = n
  · have E1 := Lib.hid (show pVals g n s = (E.map (·.1), s1) by
      have := HJ.out.eq
      rw [← HM.out, hmn, Nat.sub_self] at this
      rw [this]; simp [pVals])
    subst hmn
    have d1 : ((m : Int) == (m : Int)) = true := by simp
    go_wp2
    simp only [Exit.jump]
    go_ret
    rw [E1.out]
    refine ⟨_, rfl, ?_, HJ.out.ps, HJ.out.cg⟩
    exact listIn_own HOW.out HM.out.symm (fun g hg => hg) fun q hq => (HJ.out.li q hq).mono (fun g hg => hg.1) (Nat.le_refl _)
  have d1 : ((m : Int) == (n : Int)) = false := by simp; omega
  by_cases he : s1.2 ≠ 0
  · have E1 := Lib.hid (show pVals g n s = (E.map (·.1), s1) by
      have := HJ.out.eq
      rw [← HM.out, show n - m = (n - m - 1) + 1 by omega, pVals, if_pos he] at this
      rw [this]; simp)
    have d2 : decide (s1.2 ≠ 0) = true := decide_eq_true he
    rw [d2] at HF
    clear he
    go_wp2_with (first
      | (go_at_call 105; (with_reducible refine HF.out.mono ?_); rintro e wq ⟨rfl, rfl⟩)
      | fail)
    simp only [Exit.jump]
    go_ret
    rw [E1.out]
    refine ⟨_, rfl, ?_, HJ.out.ps, HJ.out.cg⟩
    exact listIn_own HOW.out HM.out.symm (fun g hg => hg) fun q hq => (HJ.out.li q hq).mono (fun g hg => hg.1) (Nat.le_refl _)
  · have E1 := Lib.hid (show pVals g n s = (E.map (·.1) ++ ((g s1).1 :: (pVals g (n - (m + 1)) (g s1).2).1), (pVals g (n - (m + 1)) (g s1).2).2) by
      have := HJ.out.eq
      rw [← HM.out, show n - m = (n - (m + 1)) + 1 by omega, pVals, if_neg he] at this
      exact this)
    have d2 : decide (s1.2 ≠ 0) = false := decide_eq_false he
    rw [d2] at HF
    obtain ⟨t4, ht4⟩ : ∃ t, t = (g s1).1 := ⟨_, rfl⟩
    obtain ⟨s4, hs4⟩ : ∃ t, t = (g s1).2 := ⟨_, rfl⟩
    rw [← ht4, ← hs4] at HVC E1
    clear he ht4 hs4
    go_wp2_with (first
      | (go_at_call 105; (with_reducible refine HF.out.mono ?_); rintro e wq ⟨rfl, rfl⟩)
      | (go_at_call 106; (with_reducible refine HVC.out.mono ?_); rintro e w4 ⟨kv4, rfl, hk4, hp4, hc4⟩; obtain ⟨ko4, kc4, rfl, -, -⟩ := hk4.shape; have HO4 := Lib.hid (own_chg HOW.out hc4 (fun g hg hm => by simp at hm; have := own_ge HOW.out g hg; omega)); have HZ4 := Lib.hid (Nat.le_trans hwi hc4.size); have HK4 := Lib.hid hk4; have HP4 := Lib.hid hp4; have HC4 := Lib.hid hc4; clear hk4 hp4 hc4)
      | (at_builtin; refine wpList_append_at _ rfl (.tmp 16) (.tmp 20) _ rfl w.heap.size 30 i0 (.agg #[.int .i64 0, .string ByteArray.empty, .slice none 0 0]) 3 48 Try.underlying55 hi hz0 hz1 hz2 rfl (by decide) (.slice la m lc) m (E.flatMap encT) rfl (HO4.out.alloc _) ⟨w4.heap.size, 0, none⟩ 1 1 (encT (t4, .slice ko4 t4.k.length kc4)) rfl rfl (new_cells (C := #[.int .i64 t4.n, .string t4.s, .slice ko4 t4.k.length kc4]) _ rfl) (encT_one _ rfl) (by unfold maxLen; omega) (by omega) (le_alloc HZ4.out _) ?_; intro v5 w5 hown5 hg5 hat5; obtain ⟨la5, lc5, rfl⟩ := own_shape hown5; have HO5 := Lib.hid hown5; have HG5 := Lib.hid hg5; have HA5 := Lib.hid hat5; clear hown5 hg5 hat5)
      | fail)
    go_step3
    obtain ⟨a1, a2, a3, a4⟩ := grow_trees (lv := .slice la m lc) (E := E) (by rw [← HM.out]; exact HOW.out) HJ.out.li hwi hgr HK4.out HC4.out (by rw [← HM.out]; exact HO5.out) HG5.out HA5.out
    refine ⟨rfl, ⟨s4, _, _, _, _, _, _, _, _, _, _, _, _, _, _, _, _, _, rfl, ⟨?_, a2, HP4.out.keep a3 (fun g hg => Nat.le_trans hBw (a4 g hg)), (HJ.out.cg.trans HC4.out (by simp)).trans a3 (fun t ht => .inr (a4 t ht)), ?_, ?_⟩⟩, ?_⟩
    · exact a1
    · rw [List.length_append, ← HM.out]; simp; omega
    · rw [E1.out, List.length_append, ← HM.out]
      simp
    · show n - (m + 1) < n - m
      omega

end Go.Proofs.Ythhcnlmjcpkbnaa
