/- wire's parser: a group's value; field; group. -/
import Derived.Test.YthhcnlmjcpkbnaaHf
namespace Go.Proofs.Ythhcnlmjcpkbnaa
open Go.RowKit
set_option linter.unusedVariables false
set_option linter.unusedSimpArgs false

/-- What is there of a field. -/
def pField (r : Int) (g : St → Tr × St) (s : St) : List Tr × St :=
  if r = 1 then pVals g (pTruth s).1 (pTruth s).2 else if r = 2 then pVals g (pCount 50 4 s).1 (pCount 50 4 s).2 else pVals g 1 s

/-- A group of its fields. -/
def pGrp (g : St → List (List Tr) × St) (s : St) : Tr × St := (.mk 0 ByteArray.empty (g s).1, (g s).2)

/-- Fields beside one another. -/
def pF : Fo → St → List (List Tr) × St
  | .nil, s => ([], s)
  | .leaf f t, s => ((pField f.r (pLeaf f.k) s).1 :: (pF t (pField f.r (pLeaf f.k) s).2).1, (pF t (pField f.r (pLeaf f.k) s).2).2)
  | .group f k t, s => ((pField f.r (pGrp (pF k)) s).1 :: (pF t (pField f.r (pGrp (pF k)) s).2).1, (pF t (pField f.r (pGrp (pF k)) s).2).2)

/-- What is asked of group, at a place. -/
def GC (w0 : World) (gp gr B : Nat) (fv bv : Value) (fm b : List Nat) (d at0 : Nat) (g : St → List (List Tr) × St) : Prop :=
  ∀ (w : World) (s : St), WPS w0 w gp gr B fv bv fm b s → Calls Try.prog 130 #[.pointer (some ⟨gp, 0, none⟩), .int .i64 (at0 : Int)] w fun e w' =>
    ∃ kv, e = .returned kv ∧ KidsIn (w.heap.size ≤ ·) w' d (g s).1 kv ∧ WPS w0 w' gp gr B fv bv fm b (g s).2 ∧ Chg [gr] w w'

/-- What is asked of field, at a place. -/
def FC (w0 : World) (gp gr B : Nat) (fv bv : Value) (fm b : List Nat) (d at0 : Nat) (g : St → List Tr × St) : Prop :=
  ∀ (w : World) (s : St), WPS w0 w gp gr B fv bv fm b s → Calls Try.prog 142 #[.pointer (some ⟨gp, 0, none⟩), .int .i64 (at0 : Int)] w fun e w' =>
    ∃ lv, e = .returned lv ∧ ListIn (w.heap.size ≤ ·) w' d (g s).1 lv ∧ WPS w0 w' gp gr B fv bv fm b (g s).2 ∧ Chg [gr] w w'

theorem pCount_le (most e : Nat) (s : St) : (pCount most e s).1 ≤ most := by
  unfold pCount
  split
  · exact Nat.zero_le _
  · split
    · exact Nat.zero_le _
    · split
      · exact Nat.zero_le _
      · show gv s.1 ≤ most; omega

set_option maxRecDepth 100000 in
set_option maxHeartbeats 4000000 in
theorem value_grp9 {w0 : World} {gp gr B : Nat} {fv bv : Value} {fm b : List Nat} {d at0 : Nat} {G : St → List (List Tr) × St} (hG : GC w0 gp gr B fv bv fm b d (at0 + 1) G) (hat : at0 < fm.length) (hfm : fm.length ≤ 100000) (hs : fm.getD at0 0 = 40) : VC w0 gp gr B fv bv fm b d at0 (pGrp G) := by
  intro w s hP
  obtain ⟨ao, cap, rfl, hc1, hc2⟩ := hP.fs.shape
  rw [nv_length] at hc1 hP hG
  rw [nv_length]
  obtain ⟨n, hn⟩ : ∃ n, n = fm.length := ⟨_, rfl⟩
  rw [← hn] at hc1 hP hat hfm hG ⊢
  obtain ⟨g, off, rfl, hsg⟩ := hP.sign hn hat
  obtain ⟨gb, hgb⟩ : ∃ gb, gb = w.heap.size := ⟨_, rfl⟩
  have HGB := Lib.hid hgb
  have HP1 := Lib.hid (hP.alloc (.cells #[.int .i64 0, .string { data := #[] }, .slice none 0 0] 30))
  have HB1 := Lib.hid (show (w.alloc (.cells #[.int .i64 0, .string { data := #[] }, .slice none 0 0] 30)).heap[gb]? = some (.cells #[.int .i64 0, .string { data := #[] }, .slice none 0 0] 30 (0, 0)) by rw [hgb]; exact heap_alloc_new w _)
  have hgrl : gr < gb := by rw [hgb]; exact Nat.lt_of_lt_of_le hP.lr hP.lB
  have HBG := Lib.hid (show B ≤ gb by rw [hgb]; exact hP.lB)
  have HC1 := Lib.hid ((Chg.refl [gr] w).alloc (.cells #[.int .i64 0, .string { data := #[] }, .slice none 0 0] 30))
  have HSZ := Lib.hid (show gb < (w.alloc (.cells #[.int .i64 0, .string { data := #[] }, .slice none 0 0] 30)).heap.size from Go.lt_of_block HB1.out)
  obtain ⟨p0, p1, p2⟩ := HP1.out.cells
  have hx := hsg _ HC1.out at0 hat
  rw [hs] at hx
  rw [show ((40 : Nat) : Int) = 40 from rfl] at hx
  have HT := Lib.hid (hG _ s HP1.out)
  rw [show ((at0 + 1 : Nat) : Int) = (at0 : Int) + 1 by omega] at HT
  have hw : IntKind.i64.wrap ((at0 : Int) + 1) = (at0 : Int) + 1 := IntWalk.i64_in _ (by omega)
  have HN := Lib.hid hn
  clear hP hgb hsg hs hn hG
  go_enter Try.func106, Try.ntmps106
  go_wp2_with (first
    | (go_at_call 130; (with_reducible refine HT.out.mono ?_); rintro e w2 ⟨kv, rfl, hk2, hP2, hC2⟩; obtain ⟨ko, kc, rfl, -, -⟩ := hk2.shape; have hb2 := hC2.heap HB1.out (by simp; omega); have r0 : w2.cell? ⟨gb, 0, none⟩ = some (.int .i64 0) := (by rw [cell_of_row w2 gb 0 _ _ _ hb2]; rfl); have r1 : w2.cell? ⟨gb, 1, none⟩ = some (.string { data := #[] }) := (by rw [cell_of_row w2 gb 1 _ _ _ hb2]; rfl); have r2 : w2.cell? ⟨gb, 2, none⟩ = some (.slice none 0 0) := (by rw [cell_of_row w2 gb 2 _ _ _ hb2]; rfl); have f0 : w2.frozen? ⟨gb, 0, none⟩ = false := (by simp [World.frozen?, hb2]); have f1 : w2.frozen? ⟨gb, 1, none⟩ = false := (by simp [World.frozen?, hb2]); have f2 : w2.frozen? ⟨gb, 2, none⟩ = false := (by simp [World.frozen?, hb2]); have HB2 := Lib.hid hb2; have HK2 := Lib.hid hk2; have HP2 := Lib.hid hP2; have HC2 := Lib.hid hC2; clear hk2 hP2 hC2 hb2; rw [← HGB.out])
    | fail)
  refine ret_tree rfl rfl rfl (set3 (heap_set HB2.out _) _ _ _) ?_
  have h3 : Chg [gb] w2 _ := chg3 ((Chg.refl [gb] w2).setCell (p := ⟨gb, 2, none⟩) (by simp) (.slice ko (G s).1.length kc)) (gr := gb) (by simp) (.int .i64 0) (.string { data := #[] }) (.slice ko (G s).1.length kc)
  refine ⟨_, rfl, ?_, HP2.out.keep h3 (fun t ht => by simp at ht; rw [ht]; exact HBG.out), (HC1.out.trans HC2.out (by simp)).trans h3 (fun t ht => .inr ?_)⟩
  · exact (HK2.out.keep h3 (fun x hx hm => by simp at hm; have := HSZ.out; omega)).mono (fun x hx => by have := HSZ.out; rw [HGB.out] at this; omega) (Nat.le_refl _)
  · simp at ht
    rw [ht, HGB.out]
    exact Nat.le_refl _

theorem drop_at {l : List Nat} {a c : Nat} {r : List Nat} (h : l.drop a = c :: r) : a < l.length ∧ l.getD a 0 = c ∧ l.drop (a + 1) = r := by
  have ha : a < l.length := by
    by_cases ha : a < l.length
    · exact ha
    · rw [List.drop_of_length_le (by omega)] at h; cases h
  rw [List.drop_eq_getElem_cons ha] at h
  injection h with h1 h2
  exact ⟨ha, by rw [List.getD, List.getElem?_eq_getElem ha]; exact h1, h2⟩

set_option maxRecDepth 100000 in
set_option maxHeartbeats 4000000 in
theorem field_any9 {w0 : World} {gp gr B : Nat} {fv bv : Value} {fm b : List Nat} {d at0 c : Nat} {r : Int} {g : St → Tr × St} {rest : List Nat} (hV : VC w0 gp gr B fv bv fm b d (at0 + (rp r).length) g) (hdr : fm.drop at0 = rp r ++ c :: rest) (hfm : fm.length ≤ 100000) (hc : c ≠ 63 ∧ c ≠ 42) : FC w0 gp gr B fv bv fm b d at0 (pField r g) := by
  intro w s hP
  obtain ⟨ao, cap, rfl, hc1, hc2⟩ := hP.fs.shape
  rw [nv_length] at hc1 hP hV
  rw [nv_length]
  obtain ⟨n, hn⟩ : ∃ n, n = fm.length := ⟨_, rfl⟩
  rw [← hn] at hc1 hP hfm hV ⊢
  have hat : at0 < n := by
    rw [hn]
    by_cases h : at0 < fm.length
    · exact h
    · rw [List.drop_of_length_le (by omega)] at hdr
      cases hr : rp r <;> rw [hr] at hdr <;> cases hdr
  obtain ⟨gg, off, rfl, hsg⟩ := hP.sign hn hat
  have HP := Lib.hid hP
  obtain ⟨p0, p1, p2⟩ := hP.cells
  have hx := hsg _ (Chg.refl _ _) at0 hat
  have HN := Lib.hid hn
  have hw : IntKind.i64.wrap ((at0 : Int) + 1) = (at0 : Int) + 1 := IntWalk.i64_in _ (by omega)
  have HVX := Lib.hid (fun (wx : World) (s' : St) (m : Nat) (hm : m ≤ 1000) (hp : WPS w0 wx gp gr B (.slice (some ⟨gg, off, none⟩) n cap) bv fm b s') => values_any9 hV wx s' m hm hp)
  clear hP hsg hn hV
  by_cases h1 : r = 1
  · subst h1
    have e : rp 1 = [63] := rfl
    rw [e] at hdr HVX
    obtain ⟨-, h63, -⟩ := drop_at (show fm.drop at0 = 63 :: c :: rest from hdr)
    rw [h63, show ((63 : Nat) : Int) = 63 from rfl] at hx
    have E := Lib.hid (show pField 1 g s = pVals g (pTruth s).1 (pTruth s).2 by unfold pField; rw [if_pos rfl])
    have HT := Lib.hid (truth_any HP.out)
    have HLE := Lib.hid (pTruth_le s)
    obtain ⟨v, hv⟩ : ∃ v, v = (pTruth s).1 := ⟨_, rfl⟩
    obtain ⟨s2, hs2⟩ : ∃ v, v = (pTruth s).2 := ⟨_, rfl⟩
    rw [← hv, ← hs2] at HT E
    rw [← hv] at HLE
    rw [show ((at0 + [63].length : Nat) : Int) = (at0 : Int) + 1 by simp] at HVX
    clear hv hs2 e h63 hdr
    go_enter Try.func142, Try.ntmps142
    go_wp2_with (first
      | (go_at_call 131; (with_reducible refine HT.out.mono ?_); rintro e w2 ⟨rfl, hP2, hC2⟩; have HP2 := Lib.hid hP2; have HC2 := Lib.hid hC2; clear hP2 hC2)
      | (go_at_call 80; (with_reducible refine (HVX.out _ s2 v (Nat.le_trans HLE.out (by decide)) HP2.out).mono ?_); rintro e w3 ⟨lv, rfl, hl3, hP3, hC3⟩; obtain ⟨lo, lc, rfl, -, -⟩ := hl3.shape; have HL3 := Lib.hid hl3; have HP3 := Lib.hid hP3; have HC3 := Lib.hid hC3; clear hl3 hP3 hC3)
      | fail)
    go_ret
    rw [E.out]
    exact ⟨_, rfl, HL3.out.mono (fun x hx => Nat.le_trans HC2.out.size hx) (Nat.le_refl _), HP3.out, HC2.out.trans HC3.out (by simp)⟩
  by_cases h2 : r = 2
  · subst h2
    have e : rp 2 = [42] := rfl
    rw [e] at hdr HVX
    obtain ⟨-, h63, -⟩ := drop_at (show fm.drop at0 = 42 :: c :: rest from hdr)
    rw [h63, show ((42 : Nat) : Int) = 42 from rfl] at hx
    have E := Lib.hid (show pField 2 g s = pVals g (pCount 50 4 s).1 (pCount 50 4 s).2 by unfold pField; rw [if_neg (by decide), if_pos rfl])
    have HT := Lib.hid (count_any9 50 4 (by decide) (by decide) HP.out)
    rw [show ((50 : Nat) : Int) = 50 from rfl, show ((4 : Nat) : Int) = 4 from rfl] at HT
    have HLE := Lib.hid (pCount_le 50 4 s)
    obtain ⟨v, hv⟩ : ∃ v, v = (pCount 50 4 s).1 := ⟨_, rfl⟩
    obtain ⟨s2, hs2⟩ : ∃ v, v = (pCount 50 4 s).2 := ⟨_, rfl⟩
    rw [← hv, ← hs2] at HT E
    rw [← hv] at HLE
    rw [show ((at0 + [42].length : Nat) : Int) = (at0 : Int) + 1 by simp] at HVX
    clear hv hs2 e h63 hdr h1
    go_enter Try.func142, Try.ntmps142
    go_wp2_with (first
      | (go_at_call 81; (with_reducible refine HT.out.mono ?_); rintro e w2 ⟨rfl, hP2, hC2⟩; have HP2 := Lib.hid hP2; have HC2 := Lib.hid hC2; clear hP2 hC2)
      | (go_at_call 80; (with_reducible refine (HVX.out _ s2 v (Nat.le_trans HLE.out (by decide)) HP2.out).mono ?_); rintro e w3 ⟨lv, rfl, hl3, hP3, hC3⟩; obtain ⟨lo, lc, rfl, -, -⟩ := hl3.shape; have HL3 := Lib.hid hl3; have HP3 := Lib.hid hP3; have HC3 := Lib.hid hC3; clear hl3 hP3 hC3)
      | fail)
    go_ret
    rw [E.out]
    exact ⟨_, rfl, HL3.out.mono (fun x hx => Nat.le_trans HC2.out.size hx) (Nat.le_refl _), HP3.out, HC2.out.trans HC3.out (by simp)⟩
  · have e : rp r = [] := by unfold rp; rw [if_neg h1, if_neg h2]
    rw [e] at hdr HVX
    obtain ⟨-, h63, -⟩ := drop_at (show fm.drop at0 = c :: rest from hdr)
    rw [h63] at hx
    have E := Lib.hid (show pField r g s = pVals g 1 s by unfold pField; rw [if_neg h1, if_neg h2])
    have b1 : ((c : Int) == 63) = false := by simp; omega
    have b2 : ((c : Int) == 42) = false := by simp; omega
    rw [show ((at0 + ([] : List Nat).length : Nat) : Int) = (at0 : Int) by simp] at HVX
    have HV1 := Lib.hid (HVX.out w s 1 (by decide) HP.out)
    rw [show ((1 : Nat) : Int) = 1 from rfl] at HV1
    clear e h63 hdr h1 h2 HVX hc
    go_enter Try.func142, Try.ntmps142
    go_wp2_with (first
      | (go_at_call 80; (with_reducible refine HV1.out.mono ?_); rintro e w3 ⟨lv, rfl, hl3, hP3, hC3⟩; obtain ⟨lo, lc, rfl, -, -⟩ := hl3.shape; have HL3 := Lib.hid hl3; have HP3 := Lib.hid hP3; have HC3 := Lib.hid hC3; clear hl3 hP3 hC3)
      | fail)
    go_ret
    rw [E.out]
    exact ⟨_, rfl, HL3.out, HP3.out, HC3.out⟩

end Go.Proofs.Ythhcnlmjcpkbnaa
