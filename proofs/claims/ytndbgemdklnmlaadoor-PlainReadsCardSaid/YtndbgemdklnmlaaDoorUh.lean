/- plain: values, truths, Decode. -/
import Derived.Test.YtndbgemdklnmlaaDoorUg
namespace Go.Proofs.YtndbgemdklnmlaaDoor
open Go.RowKit
set_option linter.unusedVariables false
set_option linter.unusedSimpArgs false

/-- A reader is not touched where a row of another kind grows. -/
theorem PR.keepOwn {w w' : World} {r M B n : Nat} {b : List Nat} {e : Int} {v : Value} {xs : List Value} (h : PR w r M b e) (ho : w.ownsRow B 39 2 v n xs) (hc : Chg v.ownBlock.toList w w') : PR w' r M b e := by
  obtain ⟨rv, h1, h2, h3, h4⟩ := h.rd
  have hn : ∀ g, v.ownBlock = some g → g ≠ r := (tagged_of_own ho).ne h1 (by decide)
  have hn2 : ∀ g, rv.ownBlock = some g → g ∉ v.ownBlock.toList := fun g hg hm => by
    simp at hm
    obtain ⟨cur, fr, hb⟩ := h3 g hg
    exact (tagged_of_own ho).ne hb (by decide) g hm rfl
  exact ⟨⟨rv, hc.heap h1 (fun hm => by simp at hm; exact hn r hm rfl), h2.keep hc hn2, h3.keep hc hn2, h4⟩, h.by', h.bl, h.ok, h.rM⟩
theorem PR.far {w : World} {r M B n : Nat} {b : List Nat} {e : Int} {v : Value} {xs : List Value} (h : PR w r M b e) (ho : w.ownsRow B 39 2 v n xs) : ∀ g, v.ownBlock = some g → g ∉ [r] := fun g hg hm => by
  obtain ⟨rv, h1, -⟩ := h.rd
  simp at hm
  exact (tagged_of_own ho).ne h1 (by decide) g hg hm

/-- How reading n values stands when some are read. -/
def RdJ (k n : Nat) (b : List Nat) (j : Nat) (L : List V) (b' : List Nat) (e' : Int) : Prop :=
  L.length = j ∧ (e' = 0 → rdN k n b = (L ++ (rdN k (n - j) b').1, (rdN k (n - j) b').2)) ∧ (e' ≠ 0 → (rdN k n b).2.2 = e')

theorem RdJ.step {k n : Nat} {b : List Nat} {j : Nat} {L : List V} {b' : List Nat} {e' : Int} (h : RdJ k n b j L b' e') (hj : j < n) : RdJ k n b (j + 1) (L ++ [(rdE k b' e').1]) (rdE k b' e').2.1 (rdE k b' e').2.2 := by
  obtain ⟨h1, h2, h3⟩ := h
  refine ⟨by simp [h1], ?_, ?_⟩
  · intro h0
    by_cases he : e' = 0
    · subst he
      have e1 : rdE k b' 0 = rd1 k b' := rfl
      rw [e1] at h0 ⊢
      rw [h2 rfl, show n - j = (n - (j + 1)) + 1 by omega, rdN, if_pos h0]
      simp
    · have : (rdE k b' e').2.2 = e' := by unfold rdE; rw [if_neg he]
      omega
  · intro h0
    by_cases he : e' = 0
    · subst he
      have e1 : rdE k b' 0 = rd1 k b' := rfl
      rw [e1] at h0 ⊢
      rw [h2 rfl, show n - j = (n - (j + 1)) + 1 by omega, rdN, if_neg h0]
    · have : (rdE k b' e').2.2 = e' := by unfold rdE; rw [if_neg he]
      rw [this]
      exact h3 he

theorem decP_err {k n : Nat} {b : List Nat} {L : List V} {b' : List Nat} {e' : Int} (hk : k = 2 ∨ k = 3 ∨ k = 4) (hn : n ≤ 4000) (h : RdJ k n b n L b' e') (hok : e' ≠ 0 → b' = []) : decP (k : Int) b (n : Int) = (if e' = 0 then (if b' = [] then (L, 0) else ([], 9)) else ([], e')) := by
  obtain ⟨h1, h2, h3⟩ := h
  unfold decP
  rw [if_neg (by omega), if_neg (by omega), Int.toNat_natCast, Int.toNat_natCast]
  by_cases he : e' = 0
  · have h := h2 he
    rw [Nat.sub_self] at h
    have e0 : rdN k 0 b' = ([], b', 0) := rfl
    rw [e0] at h
    rw [h, if_pos he]
    simp
  · rw [if_neg he, h3 he, if_pos he]

/-- What Decode answers, with its memory. -/
def PDecOut (k : Int) (b : List Nat) (n : Int) (w : World) (e : Ending) (w' : World) : Prop :=
  ∃ x, e = .returned (.tuple #[x, .int .i64 (decP k b n).2]) ∧ Chg [] w w' ∧ w'.ownsRow w.heap.size 39 2 x (decP k b n).1.length ((decP k b n).1.flatMap V.cs)

/-- What the row and the reader are while values are read. -/
structure VJ11 (w wi : World) (k n r M : Nat) (b : List Nat) (j : Nat) (lv : Value) (L : List V) (b' : List Nat) (e' : Int) : Prop where
  c0 : Chg [] w wi
  rj : RdJ k n b j L b' e'
  pr : PR wi r M b' e'
  ow : wi.ownsRow w.heap.size 39 2 lv j (L.flatMap V.cs)
  hr : w.heap.size ≤ r
  hM : M ≤ wi.heap.size

set_option maxRecDepth 100000 in
set_option maxHeartbeats 4000000 in
theorem pvalues_any (k : Nat) (hk : k = 2 ∨ k = 3 ∨ k = 4) (bv : Value) (b : List Nat) (n : Nat) (w : World) (hn : n ≤ 4000) (hS : Seen w bv (nv .u8 b)) (hb : ∀ x ∈ b, x < 256) (hbl : b.length ≤ 140737488355328) :
    Calls Tryd.prog 23 #[.int .i32 (sgK k), bv, .int .i64 (n : Int)] w (PDecOut (k : Int) b (n : Int) w) := by
  obtain ⟨i0, hi, hz0, hz1, hz2⟩ := info_value
  have HSB := Lib.hid hS; have HB := Lib.hid hb
  obtain ⟨sg, hsg⟩ : ∃ s, s = sgK k := ⟨_, rfl⟩
  have HG := Lib.hid hsg
  rw [← hsg]
  clear hS hb hsg
  go_enter Tryd.func23, Tryd.ntmps23
  go_wp2
  refine wp_scope_pre2 0 (fun a' wi => ∃ (j r M : Nat) (lo : Option Addr) (lc : Nat) (L : List V) (b' : List Nat) (e' : Int) (u10 u11 u12 u13 u14 u15 u16 u17 u18 u19 u20 u21 u22 u23 u24 u25 u26 u27 u28 u29 u30 : Value), j ≤ n ∧ a' = { tmps := #[.int .i32 sg, bv, .int .i64 (n : Int), undef, undef, undef, .slice none 0 0, .int .i64 0, .slice lo j lc, .pointer (some ⟨r, 0, none⟩), u10, u11, u12, u13, u14, u15, u16, u17, u18, u19, u20, u21, u22, u23, u24, u25, u26, u27, u28, u29, u30], defers := [] } ∧ VJ11 w wi k n r M b j (.slice lo j lc) L b' e') (fun a' _ => n - slen (a'.tmps.getD 8 undef)) rfl ?_ ?_
  · go_wp2_with (at_make; refine wpList_make_own _ rfl _ _ 22 rfl w.heap.size 39 i0 (.agg #[.int .i64 0, .string ByteArray.empty]) 2 Tryd.underlying22 hi hz0 hz1 .i64 .i64 _ n rfl rfl ?c1 ?c2 ?c3 (Nat.le_refl _) ?_)
    case c1 => simp
    case c2 => rw [hz2]; omega
    case c3 => unfold maxLen; omega
    intro w1 hown1 hg1
    have HC1 := Lib.hid ((Chg.refl [] w).grown hg1 (by simp))
    have HO1 := Lib.hid hown1
    have hsz := HC1.out.size
    clear hown1 hg1
    have HN := Lib.hid (new_any bv (zi b) w1 (by rw [zi_length]; exact hbl) (by rw [bys_zi]; exact HSB.out.keep HC1.out))
    go_wp2_with (first
      | (go_at_call 35; (with_reducible refine HN.out.mono ?_); rintro e w2 ⟨r, rfl, hc, hr, hrd⟩; have HC2 := Lib.hid (HC1.out.trans hc (by simp)); have HC12 := Lib.hid hc; have HR := Lib.hid hr; have HRD := Lib.hid hrd; clear hc hr hrd)
      | fail)
    refine ⟨0, r, w2.heap.size, _, _, [], b, 0, _, _, _, _, _, _, _, _, _, _, _, _, _, _, _, _, _, _, _, _, _, Nat.zero_le _, rfl, ⟨HC2.out, ⟨rfl, fun _ => by simp, fun h => absurd rfl h⟩, ⟨HRD.out, HB.out, hbl, fun h => absurd rfl h, HRD.out.lt⟩, own_chg HO1.out HC12.out (by simp), Nat.le_trans hsz HR.out, Nat.le_refl _⟩⟩
  · rintro a' wi ⟨j, r, M, lo, lc, L, b', e', u10, u11, u12, u13, u14, u15, u16, u17, u18, u19, u20, u21, u22, u23, u24, u25, u26, u27, u28, u29, u30, hj, rfl, hJ⟩
    have HJ := Lib.hid hJ
    have hB := hJ.c0.size
    clear hJ
    by_cases hlt : j < n
    · have d1 : decide ((j : Int) < (n : Int)) = true := by simp; omega
      have HV := Lib.hid (pval_any hk HJ.out.pr HJ.out.hM)
      rw [← HG.out] at HV
      obtain ⟨u, hu⟩ : ∃ u, u = (rdE k b' e').1 := ⟨_, rfl⟩
      rw [← hu] at HV
      have HU := Lib.hid hu
      clear hu
      go_wp2_with (first
        | (go_at_call 36; (with_reducible refine HV.out.mono ?_); rintro e w2 ⟨rfl, hc2, hp2⟩; have HC2 := Lib.hid hc2; have HP2 := Lib.hid hp2; have HO2 := Lib.hid (own_chg HJ.out.ow hc2 (HJ.out.pr.far HJ.out.ow)); have hB2 := hc2.size; clear hc2 hp2)
        | (at_builtin; refine wpList_append_own _ rfl _ _ 22 rfl w.heap.size 39 i0 (.agg #[.int .i64 0, .string ByteArray.empty]) 2 24 Tryd.underlying22 hi hz0 hz1 hz2 rfl (by decide) _ _ _ rfl (HO2.out.alloc _) ⟨w2.heap.size, 0, none⟩ 1 1 (V.cs u) rfl rfl ?c1 ?c2 ?c3 ?c4 ?c5 ?_)
        | fail)
      case c1 => exact new_cells (C := #[.int .i64 u.n, .string u.s]) _ rfl
      case c2 => exact V.one u
      case c3 => unfold maxLen; omega
      case c4 => omega
      case c5 => simp; omega
      intro v' w3 hown' hgrow _
      have hca : Chg [] w2 (w2.alloc (vo u)) := (Chg.refl [] w2).alloc _
      have hcg : Chg (Value.slice lo j lc).ownBlock.toList (w2.alloc (vo u)) w3 := (Chg.refl _ _).grown hgrow (fun g hg => .inl (by simp [hg]))
      have HP3 := Lib.hid ((HP2.out.keep hca).keepOwn (own_chg HO2.out hca (by simp)) hcg)
      have HC3 := Lib.hid (show Chg [] w w3 from ((HJ.out.c0.trans HC2.out (by have := HJ.out.hr; simp; omega)).alloc (vo u)).grown hgrow (fun g hg => .inr (HO2.out.lt g hg).1))
      have HO3 := Lib.hid (show w3.ownsRow w.heap.size 39 2 v' (j + 1) ((L ++ [u]).flatMap V.cs) by rw [List.flatMap_append]; simpa using hown')
      have HM3 := Lib.hid (show M ≤ w3.heap.size by have := HJ.out.hM; have := hcg.size; have := hca.size; omega)
      obtain ⟨vo', vc', rfl⟩ := own_shape HO3.out
      clear hgrow hown' hca hcg
      go_wp2
      go_step3
      refine ⟨rfl, ⟨j + 1, r, M, _, _, L ++ [u], (rdE k b' e').2.1, (rdE k b' e').2.2, _, _, _, _, _, _, _, _, _, _, _, _, _, _, _, _, _, _, _, _, _, hlt, rfl, ⟨HC3.out, ?_, HP3.out, HO3.out, HJ.out.hr, HM3.out⟩⟩, by simp [slen]; omega⟩
      rw [HU.out]
      exact HJ.out.rj.step hlt
    · obtain rfl : j = n := by omega
      have d1 : decide ((j : Int) < (j : Int)) = false := by simp
      have E := Lib.hid (decP_err hk hn HJ.out.rj HJ.out.pr.ok)
      have HE := Lib.hid (end_any r (zi b') e' wi (by rw [zi_length]; exact HJ.out.pr.bl) HJ.out.pr.rd)
      unfold PDecOut
      rw [E.out]
      have HL := Lib.hid HJ.out.rj.1
      by_cases he : e' = 0
      · subst he
        rw [if_pos rfl]
        by_cases hb0 : b' = []
        · rw [if_pos hb0]
          rw [hb0, if_pos (show zi [] = [] from rfl)] at HE
          clear hb0
          go_wp2_with (first
            | (go_at_call 37; (with_reducible refine HE.out.mono ?_); rintro e w2 ⟨rfl, rfl⟩)
            | fail)
          simp only [Exit.jump]
          go_ret2
          exact ⟨_, rfl, HJ.out.c0, by have h := HJ.out.ow; rw [← HL.out] at h ⊢; exact h⟩
        · rw [if_neg hb0]
          have hz : ¬ zi b' = [] := fun h => hb0 (by simpa [zi] using h)
          rw [if_neg hz] at HE
          clear hb0 hz
          go_wp2_with (first
            | (go_at_call 37; (with_reducible refine HE.out.mono ?_); rintro e w2 ⟨rfl, rfl⟩)
            | fail)
          simp only [Exit.jump]
          go_ret2
          exact ⟨_, rfl, HJ.out.c0, World.ownsRow_nil _ _ _ _⟩
      · rw [if_neg he]
        have hb0 := HJ.out.pr.ok he
        rw [hb0, if_pos (show zi [] = [] from rfl)] at HE
        have hne : (e' != 0) = true := by simpa using he
        clear hb0
        go_wp2_with (first
          | (go_at_call 37; (with_reducible refine HE.out.mono ?_); rintro e w2 ⟨rfl, rfl⟩)
          | fail)
        simp only [Exit.jump]
        go_ret2
        exact ⟨_, rfl, HJ.out.c0, World.ownsRow_nil _ _ _ _⟩

end Go.Proofs.YtndbgemdklnmlaaDoor
