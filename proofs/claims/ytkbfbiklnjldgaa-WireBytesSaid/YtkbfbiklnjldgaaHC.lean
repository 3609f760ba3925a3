/- Hg, Hh: texts of one group, one behind the other. -/
import Derived.Test.YtkbfbiklnjldgaaHB
namespace Go.Proofs.Ytkbfbiklnjldgaa
open Go.RowKit
set_option linter.unusedVariables false
set_option linter.unusedSimpArgs false

/-- What is there of a field. -/
def pField (r : Int) (g : St → Tr × St) (s : St) : List Tr × St :=
  if r = 1 then pVals g (pTruth s).1 (pTruth s).2 else if r = 2 then pVals g (pCount 50 4 s).1 (pCount 50 4 s).2 else pVals g 1 s

/-- A group of its fields. -/
def pGrp (g : St → List (List Tr) × St) (s : St) : Tr × St := (.mk 0 ByteArray.empty (g s).1, (g s).2)

/-- Fields beside one another. -/
def pF : Fo → St → List (List Tr) × St
  | .nil, s => ([], s)
  | .leaf f t, s => ((pField f.r (pLeaf f.k) s).1 :: (pF t (pField f.r (pLeaf f.k) s).2).1, (pF t (pField f.r (pLeaf f.k) s).2).2)
  | .group f k t, s => ((pField f.r (pGrp (pF k)) s).1 :: (pF t (pField f.r (pGrp (pF k)) s).2).1, (pF t (pField f.r (pGrp (pF k)) s).2).2)

/-- What is asked of group, at a place. -/
def GC (w0 : World) (gp gr B : Nat) (fv bv : Value) (fm b : List Nat) (d at0 : Nat) (g : St → List (List Tr) × St) : Prop :=
  ∀ (w : World) (s : St), WPS w0 w gp gr B fv bv fm b s → Calls Try.prog 73 #[.pointer (some ⟨gp, 0, none⟩), .int .i64 (at0 : Int)] w fun e w' =>
    ∃ kv, e = .returned kv ∧ KidsIn (w.heap.size ≤ ·) w' d (g s).1 kv ∧ WPS w0 w' gp gr B fv bv fm b (g s).2 ∧ Chg [gr] w w'

/-- What is asked of field, at a place. -/
def FC (w0 : World) (gp gr B : Nat) (fv bv : Value) (fm b : List Nat) (d at0 : Nat) (g : St → List Tr × St) : Prop :=
  ∀ (w : World) (s : St), WPS w0 w gp gr B fv bv fm b s → Calls Try.prog 86 #[.pointer (some ⟨gp, 0, none⟩), .int .i64 (at0 : Int)] w fun e w' =>
    ∃ lv, e = .returned lv ∧ ListIn (w.heap.size ≤ ·) w' d (g s).1 lv ∧ WPS w0 w' gp gr B fv bv fm b (g s).2 ∧ Chg [gr] w w'

theorem pCount_le (most e : Nat) (s : St) : (pCount most e s).1 ≤ most := by
  unfold pCount
  split
  · exact Nat.zero_le _
  · split
    · exact Nat.zero_le _
    · split
      · exact Nat.zero_le _
      · show gv s.1 ≤ most; omega

set_option maxRecDepth 100000 in
set_option maxHeartbeats 4000000 in
theorem value_grp9 {w0 : World} {gp gr B : Nat} {fv bv : Value} {fm b : List Nat} {d at0 : Nat} {G : St → List (List Tr) × St} (hG : GC w0 gp gr B fv bv fm b d (at0 + 1) G) (hat : at0 < fm.length) (hfm : fm.length ≤ 100000) (hs : fm.getD at0 0 = 40) : VC w0 gp gr B fv bv fm b d at0 (pGrp G) := by
  intro w s hP
  obtain ⟨ao, cap, rfl, hc1, hc2⟩ := hP.fs.shape
  rw [nv_length] at hc1 hP hG
  rw [nv_length]
  obtain ⟨n, hn⟩ : ∃ n, n = fm.length := ⟨_, rfl⟩
  rw [← hn] at hc1 hP hat hfm hG ⊢
  obtain ⟨g, off, rfl, hsg⟩ := hP.sign hn hat
  obtain ⟨gb, hgb⟩ : ∃ gb, gb = w.heap.size := ⟨_, rfl⟩
  have HGB := Lib.hid hgb
  have HP1 := Lib.hid (hP.alloc (.cells #[.int .i64 0, .string { data := #[] }, .slice none 0 0] 44))
  have HB1 := Lib.hid (show (w.alloc (.cells #[.int .i64 0, .string { data := #[] }, .slice none 0 0] 44)).heap[gb]? = some (.cells #[.int .i64 0, .string { data := #[] }, .slice none 0 0] 44 (0, 0)) by rw [hgb]; exact heap_alloc_new w _)
  have hgrl : gr < gb := by rw [hgb]; exact Nat.lt_of_lt_of_le hP.lr hP.lB
  have HBG := Lib.hid (show B ≤ gb by rw [hgb]; exact hP.lB)
  have HC1 := Lib.hid ((Chg.refl [gr] w).alloc (.cells #[.int .i64 0, .string { data := #[] }, .slice none 0 0] 44))
  have HSZ := Lib.hid (show gb < (w.alloc (.cells #[.int .i64 0, .string { data := #[] }, .slice none 0 0] 44)).heap.size from Go.lt_of_block HB1.out)
  obtain ⟨p0, p1, p2⟩ := HP1.out.cells
  have hx := hsg _ HC1.out at0 hat
  rw [hs] at hx
  rw [show ((40 : Nat) : Int) = 40 from rfl] at hx
  have HT := Lib.hid (hG _ s HP1.out)
  rw [show ((at0 + 1 : Nat) : Int) = (at0 : Int) + 1 by omega] at HT
  have hw : IntKind.i64.wrap ((at0 : Int) + 1) = (at0 : Int) + 1 := IntWalk.i64_in _ (by omega)
  have HN := Lib.hid hn
  clear hP hgb hsg hs hn hG
  go_enter Try.func47, Try.ntmps47
  go_wp2_with (first
    | (go_at_call 73; (with_reducible refine HT.out.mono ?_); rintro e w2 ⟨kv, rfl, hk2, hP2, hC2⟩; obtain ⟨ko, kc, rfl, -, -⟩ := hk2.shape; have hb2 := hC2.heap HB1.out (by simp; omega); have r0 : w2.cell? ⟨gb, 0, none⟩ = some (.int .i64 0) := (by rw [cell_of_row w2 gb 0 _ _ _ hb2]; rfl); have r1 : w2.cell? ⟨gb, 1, none⟩ = some (.string { data := #[] }) := (by rw [cell_of_row w2 gb 1 _ _ _ hb2]; rfl); have r2 : w2.cell? ⟨gb, 2, none⟩ = some (.slice none 0 0) := (by rw [cell_of_row w2 gb 2 _ _ _ hb2]; rfl); have f0 : w2.frozen? ⟨gb, 0, none⟩ = false := (by simp [World.frozen?, hb2]); have f1 : w2.frozen? ⟨gb, 1, none⟩ = false := (by simp [World.frozen?, hb2]); have f2 : w2.frozen? ⟨gb, 2, none⟩ = false := (by simp [World.frozen?, hb2]); have HB2 := Lib.hid hb2; have HK2 := Lib.hid hk2; have HP2 := Lib.hid hP2; have HC2 := Lib.hid hC2; clear hk2 hP2 hC2 hb2; rw [← HGB.out])
    | fail)
  refine ret_tree rfl rfl rfl (set3 (heap_set HB2.out _) _ _ _) ?_
  have h3 : Chg [gb] w2 _ := chg3 ((Chg.refl [gb] w2).setCell (p := ⟨gb, 2, none⟩) (by simp) (.slice ko (G s).1.length kc)) (gr := gb) (by simp) (.int .i64 0) (.string { data := #[] }) (.slice ko (G s).1.length kc)
  refine ⟨_, rfl, ?_, HP2.out.keep h3 (fun t ht => by simp at ht; rw [ht]; exact HBG.out), (HC1.out.trans HC2.out (by simp)).trans h3 (fun t ht => .inr ?_)⟩
  · exact (HK2.out.keep h3 (fun x hx hm => by simp at hm; have := HSZ.out; omega)).mono (fun x hx => by have := HSZ.out; rw [HGB.out] at this; omega) (Nat.le_refl _)
  · simp at ht
    rw [ht, HGB.out]
    exact Nat.le_refl _

theorem drop_at {l : List Nat} {a c : Nat} {r : List Nat} (h : l.drop a = c :: r) : a < l.length ∧ l.getD a 0 = c ∧ l.drop (a + 1) = r := by
  have ha : a < l.length := by
    by_cases ha : a < l.length
    · exact ha
    · rw [List.drop_of_length_le (by omega)] at h; cases h
  rw [List.drop_eq_getElem_cons ha] at h
  injection h with h1 h2
  exact ⟨ha, by rw [List.getD, List.getElem?_eq_getElem ha]; exact h1, h2⟩

set_option maxRecDepth 100000 in
set_option maxHeartbeats 4000000 in
theorem field_any9 {w0 : World} {gp gr B : Nat} {fv bv : Value} {fm b : List Nat} {d at0 c : Nat} {r : Int} {g : St → Tr × St} {rest : List Nat} (hV : VC w0 gp gr B fv bv fm b d (at0 + (rp r).length) g) (hdr : fm.drop at0 = rp r ++ c :: rest) (hfm : fm.length ≤ 100000) (hc : c ≠ 63 ∧ c ≠ 42) : FC w0 gp gr B fv bv fm b d at0 (pField r g) := by
  intro w s hP
  obtain ⟨ao, cap, rfl, hc1, hc2⟩ := hP.fs.shape
  rw [nv_length] at hc1 hP hV
  rw [nv_length]
  obtain ⟨n, hn⟩ : ∃ n, n = fm.length := ⟨_, rfl⟩
  rw [← hn] at hc1 hP hfm hV ⊢
  have hat : at0 < n := by
    rw [hn]
    by_cases h : at0 < fm.length
    · exact h
    · rw [List.drop_of_length_le (by omega)] at hdr
      cases hr : rp r <;> rw [hr] at hdr <;> cases hdr
  obtain ⟨gg, off, rfl, hsg⟩ := hP.sign hn hat
  have HP := Lib.hid hP
  obtain ⟨p0, p1, p2⟩ := hP.cells
  have hx := hsg _ (Chg.refl _ _) at0 hat
  have HN := Lib.hid hn
  have hw : IntKind.i64.wrap ((at0 : Int) + 1) = (at0 : Int) + 1 := IntWalk.i64_in _ (by omega)
  have HVX := Lib.hid (fun (wx : World) (s' : St) (m : Nat) (hm : m ≤ 1000) (hp : WPS w0 wx gp gr B (.slice (some ⟨gg, off, none⟩) n cap) bv fm b s') => values_any9 hV wx s' m hm hp)
  clear hP hsg hn hV
  by_cases h1 : r = 1
  · subst h1
    have e : rp 1 = [63] := rfl
    rw [e] at hdr HVX
    obtain ⟨-, h63, -⟩ := drop_at (show fm.drop at0 = 63 :: c :: rest from hdr)
    rw [h63, show ((63 : Nat) : Int) = 63 from rfl] at hx
    have E := Lib.hid (show pField 1 g s = pVals g (pTruth s).1 (pTruth s).2 by unfold pField; rw [if_pos rfl])
    have HT := Lib.hid (truth_any HP.out)
    have HLE := Lib.hid (pTruth_le s)
    obtain ⟨v, hv⟩ : ∃ v, v = (pTruth s).1 := ⟨_, rfl⟩
    obtain ⟨s2, hs2⟩ : ∃ v, v = (pTruth s).2 := ⟨_, rfl⟩
    rw [← hv, ← hs2] at HT E
    rw [← hv] at HLE
    rw [show ((at0 + [63].length : Nat) : Int) = (at0 : Int) + 1 by simp] at HVX
    clear hv hs2 e h63 hdr
    go_enter Try.func86, Try.ntmps86
    go_wp2_with (first
      | (go_at_call 74; (with_reducible refine HT.out.mono ?_); rintro e w2 ⟨rfl, hP2, hC2⟩; have HP2 := Lib.hid hP2; have HC2 := Lib.hid hC2; clear hP2 hC2)
      | (go_at_call 23; (with_reducible refine (HVX.out _ s2 v (Nat.le_trans HLE.out (by decide)) HP2.out).mono ?_); rintro e w3 ⟨lv, rfl, hl3, hP3, hC3⟩; obtain ⟨lo, lc, rfl, -, -⟩ := hl3.shape; have HL3 := Lib.hid hl3; have HP3 := Lib.hid hP3; have HC3 := Lib.hid hC3; clear hl3 hP3 hC3)
      | fail)
    go_ret
    rw [E.out]
    exact ⟨_, rfl, HL3.out.mono (fun x hx => Nat.le_trans HC2.out.size hx) (Nat.le_refl _), HP3.out, HC2.out.trans HC3.out (by simp)⟩
  by_cases h2 : r = 2
  · subst h2
    have e : rp 2 = [42] := rfl
    rw [e] at hdr HVX
    obtain ⟨-, h63, -⟩ := drop_at (show fm.drop at0 = 42 :: c :: rest from hdr)
    rw [h63, show ((42 : Nat) : Int) = 42 from rfl] at hx
    have E := Lib.hid (show pField 2 g s = pVals g (pCount 50 4 s).1 (pCount 50 4 s).2 by unfold pField; rw [if_neg (by decide), if_pos rfl])
    have HT := Lib.hid (count_any9 50 4 (by decide) (by decide) HP.out)
    rw [show ((50 : Nat) : Int) = 50 from rfl, show ((4 : Nat) : Int) = 4 from rfl] at HT
    have HLE := Lib.hid (pCount_le 50 4 s)
    obtain ⟨v, hv⟩ : ∃ v, v = (pCount 50 4 s).1 := ⟨_, rfl⟩
    obtain ⟨s2, hs2⟩ : ∃ v, v = (pCount 50 4 s).2 := ⟨_, rfl⟩
    rw [← hv, ← hs2] at HT E
    rw [← hv] at HLE
    rw [show ((at0 + [42].length : Nat) : Int) = (at0 : Int) + 1 by simp] at HVX
    clear hv hs2 e h63 hdr h1
    go_enter Try.func86, Try.ntmps86
    go_wp2_with (first
      | (go_at_call 24; (with_reducible refine HT.out.mono ?_); rintro e w2 ⟨rfl, hP2, hC2⟩; have HP2 := Lib.hid hP2; have HC2 := Lib.hid hC2; clear hP2 hC2)
      | (go_at_call 23; (with_reducible refine (HVX.out _ s2 v (Nat.le_trans HLE.out (by decide)) HP2.out).mono ?_); rintro e w3 ⟨lv, rfl, hl3, hP3, hC3⟩; obtain ⟨lo, lc, rfl, -, -⟩ := hl3.shape; have HL3 := Lib.hid hl3; have HP3 := Lib.hid hP3; have HC3 := Lib.hid hC3; clear hl3 hP3 hC3)
      | fail)
    go_ret
    rw [E.out]
    exact ⟨_, rfl, HL3.out.mono (fun x hx => Nat.le_trans HC2.out.size hx) (Nat.le_refl _), HP3.out, HC2.out.trans HC3.out (by simp)⟩
  · have e : rp r = [] := by unfold rp; rw [if_neg h1, if_neg h2]
    rw [e] at hdr HVX
    obtain ⟨-, h63, -⟩ := drop_at (show fm.drop at0 = c :: rest from hdr)
    rw [h63] at hx
    have E := Lib.hid (show pField r g s = pVals g 1 s by unfold pField; rw [if_neg h1, if_neg h2])
    have b1 : ((c : Int) == 63) = false := by simp; omega
    have b2 : ((c : Int) == 42) = false := by simp; omega
    rw [show ((at0 + ([] : List Nat).length : Nat) : Int) = (at0 : Int) by simp] at HVX
    have HV1 := Lib.hid (HVX.out w s 1 (by decide) HP.out)
    rw [show ((1 : Nat) : Int) = 1 from rfl] at HV1
    clear e h63 hdr h1 h2 HVX hc
    go_enter Try.func86, Try.ntmps86
    go_wp2_with (first
      | (go_at_call 23; (with_reducible refine HV1.out.mono ?_); rintro e w3 ⟨lv, rfl, hl3, hP3, hC3⟩; obtain ⟨lo, lc, rfl, -, -⟩ := hl3.shape; have HL3 := Lib.hid hl3; have HP3 := Lib.hid hP3; have HC3 := Lib.hid hC3; clear hl3 hP3 hC3)
      | fail)
    go_ret
    rw [E.out]
    exact ⟨_, rfl, HL3.out, HP3.out, HC3.out⟩

end Go.Proofs.Ytkbfbiklnjldgaa

namespace Go.Proofs.Ytkbfbiklnjldgaa
open Go.RowKit
set_option linter.unusedVariables false
set_option linter.unusedSimpArgs false

/-- How high a forest is. -/
def Fo.hi : Fo → Nat
  | .nil => 1
  | .leaf _ t => t.hi
  | .group _ k t => max (k.hi + 1) t.hi
theorem Fo.hi_pos : ∀ fo : Fo, 1 ≤ fo.hi
  | .nil => Nat.le_refl _
  | .leaf _ t => t.hi_pos
  | .group _ k t => by have := t.hi_pos; unfold Fo.hi; omega

/-- Each field of a forest is read, wherever its signs stand. -/
def FOK (w0 : World) (gp gr B : Nat) (fv bv : Value) (fm b : List Nat) (d : Nat) : Fo → Prop
  | .nil => True
  | .leaf f t => (∀ a rest, fm.drop a = sg f ++ rest → FC w0 gp gr B fv bv fm b d a (pField f.r (pLeaf f.k))) ∧ FOK w0 gp gr B fv bv fm b d t
  | .group f k t => (∀ a rest, fm.drop a = sg f ++ (k.sg ++ 41 :: rest) → FC w0 gp gr B fv bv fm b d a (pField f.r (pGrp (pF k)))) ∧ FOK w0 gp gr B fv bv fm b d t

/-- A row of lists grows. -/
theorem grow_lists {W d gr : Nat} {wx w4 w5 : World} {R : List (List Tr × Value)} {kv lv v5 : Value} {x : List Tr} {o : Obj}
    (how : wx.ownsRow W 28 1 kv R.length (R.flatMap encR)) (hli : ∀ p ∈ R, ListIn (fun g => W ≤ g ∧ kv.ownBlock ≠ some g) wx d p.1 p.2) (hW : W ≤ wx.heap.size) (hgr : gr < W)
    (hk4 : ListIn (wx.heap.size ≤ ·) w4 d x lv) (hc4 : Chg [gr] wx w4)
    (hown5 : w5.ownsRow W 28 1 v5 (R.length + 1) (R.flatMap encR ++ [lv])) (hg5 : (w4.alloc o).grownBy w5 kv.ownBlock) (hat5 : v5.ownBlock = kv.ownBlock ∨ v5.ownBlock = some (w4.alloc o).heap.size) :
    w5.ownsRow W 28 1 v5 (R ++ [(x, lv)]).length ((R ++ [(x, lv)]).flatMap encR) ∧ (∀ p ∈ R ++ [(x, lv)], ListIn (fun g => W ≤ g ∧ v5.ownBlock ≠ some g) w5 d p.1 p.2) ∧ Chg kv.ownBlock.toList w4 w5 ∧ ∀ g ∈ kv.ownBlock.toList, W ≤ g := by
  have hlB : ∀ g, kv.ownBlock = some g → W ≤ g ∧ g < wx.heap.size := fun g hg => ⟨own_ge how g hg, own_lt how g hg⟩
  have hcW : Chg kv.ownBlock.toList w4 w5 := ((Chg.refl _ w4).alloc o).grown hg5 (fun q hq => .inl (by simp [hq]))
  have hsz4 := hc4.size
  have hfin : ∀ {k : List Tr} {v : Value}, ListIn (fun g => W ≤ g ∧ kv.ownBlock ≠ some g) w4 d k v → ListIn (fun g => W ≤ g ∧ v5.ownBlock ≠ some g) w5 d k v := fun hk => by
    have h1 := hk.lt
    have h2 := h1.keep hcW (fun g hg hm => by simp at hm; exact hg.1.2 hm)
    refine h2.mono (fun g hg => ⟨hg.1.1, fun e => ?_⟩) (Nat.le_refl _)
    rcases hat5 with h3 | h3
    · rw [h3] at e; exact hg.1.2 e
    · rw [h3] at e
      injection e with e
      have : (w4.alloc o).heap.size = w4.heap.size + 1 := by simp
      have := hg.2
      omega
  refine ⟨?_, fun q hq => ?_, hcW, fun g hg => by simp at hg; exact (hlB g hg).1⟩
  · rw [List.length_append, List.flatMap_append]
    simpa [encR] using hown5
  · rcases List.mem_append.1 hq with hq | hq
    · refine hfin ((hli q hq).keep hc4 fun g hg hm => ?_)
      simp at hm
      omega
    · simp at hq
      subst hq
      refine hfin (hk4.mono (fun g hg => ⟨Nat.le_trans hW hg, fun e => ?_⟩) (Nat.le_refl _))
      have := (hlB g e).2
      omega

/-- How group stands. -/
structure GLJ (w0 w wi : World) (gp gr B : Nat) (fv bv : Value) (fm b rest : List Nat) (d a : Nat) (fo t : Fo) (s s1 : St) (R : List (List Tr × Value)) (kv : Value) : Prop where
  ow : wi.ownsRow w.heap.size 28 1 kv R.length (R.flatMap encR)
  li : ∀ p ∈ R, ListIn (fun x => w.heap.size ≤ x ∧ kv.ownBlock ≠ some x) wi d p.1 p.2
  ps : WPS w0 wi gp gr B fv bv fm b s1
  cg : Chg [gr] w wi
  dr : fm.drop a = t.sg ++ 41 :: rest
  ok : FOK w0 gp gr B fv bv fm b d t
  wf : t.wf
  le : R.length ≤ a
  eq : pF fo s = (R.map (·.1) ++ (pF t s1).1, (pF t s1).2)

/-- The next field: its signs, its contract. -/
theorem next_field {w0 : World} {gp gr B : Nat} {fv bv : Value} {fm b rest : List Nat} {d a : Nat} {t : Fo} (dr : fm.drop a = t.sg ++ 41 :: rest) (ok : FOK w0 gp gr B fv bv fm b d t) (wf : t.wf) (hne : fm.getD a 0 ≠ 41) :
    ∃ (m : Nat) (g : St → List Tr × St) (t' : Fo), sk 0 (fm.drop a) = some m ∧ 1 ≤ m ∧ FC w0 gp gr B fv bv fm b d a g ∧ fm.drop (a + m) = t'.sg ++ 41 :: rest ∧ FOK w0 gp gr B fv bv fm b d t' ∧ t'.wf ∧ ∀ s, pF t s = ((g s).1 :: (pF t' (g s).2).1, (pF t' (g s).2).2) := by
  cases t with
  | nil =>
    exfalso
    exact hne (drop_at (show fm.drop a = 41 :: rest from dr)).2.1
  | leaf f t' =>
    obtain ⟨h1, h2, h3⟩ := wf
    obtain ⟨o1, o2⟩ := ok
    rw [Fo.sg, List.append_assoc] at dr
    refine ⟨(sg f).length, _, t', by rw [dr]; exact sk_leaf ⟨h1, h2⟩ _, (sg_len f).1, o1 a _ dr, ?_, o2, h3, fun s => rfl⟩
    rw [← List.drop_drop, dr]; simp
  | group f k t' =>
    obtain ⟨h1, h2, h3, h4⟩ := wf
    obtain ⟨o1, o2⟩ := ok
    have e : (Fo.group f k t').sg ++ 41 :: rest = sg f ++ (k.sg ++ 41 :: (t'.sg ++ 41 :: rest)) := by simp [Fo.sg]
    rw [e] at dr
    refine ⟨(sg f).length + (k.sg.length + 1), _, t', by rw [dr]; exact sk_grp h1 h3 _, by omega, o1 a _ dr, ?_, o2, h4, fun s => rfl⟩
    rw [← List.drop_drop, ← List.drop_drop, dr]
    simp [← List.drop_drop]

set_option maxRecDepth 100000 in
set_option maxHeartbeats 4000000 in
theorem group_any9 {w0 : World} {gp gr B : Nat} {fv bv : Value} {fm b rest : List Nat} {d at0 : Nat} {fo : Fo} (hok : FOK w0 gp gr B fv bv fm b d fo) (hwf : fo.wf) (hdr : fm.drop at0 = fo.sg ++ 41 :: rest) (hfm : fm.length ≤ 100000) : GC w0 gp gr B fv bv fm b (d + 1) at0 (pF fo) := by
  intro w s hP
  obtain ⟨i1, ji, jz0, jz1, jz2⟩ := info_list
  obtain ⟨ao, cap, rfl, hc1, hc2⟩ := hP.fs.shape
  rw [nv_length] at hc1 hP hok
  rw [nv_length]
  obtain ⟨n, hn⟩ : ∃ n, n = fm.length := ⟨_, rfl⟩
  rw [← hn] at hc1 hP hfm hok ⊢
  have HP := Lib.hid hP
  have HOK := Lib.hid hok; have HWF := Lib.hid hwf; have HDR := Lib.hid hdr; have HN := Lib.hid hn
  have hgr : gr < w.heap.size := Nat.lt_of_lt_of_le hP.lr hP.lB
  have hBw := hP.lB
  clear hP hok hwf hdr hn
  go_enter Try.func73, Try.ntmps73
  go_wp2_with fail
  refine wp_scope_head 0 (fun a' w' => ∃ (a : Nat) (t : Fo) (s1 : St) (R : List (List Tr × Value)) (kv : Value) (u5 u6 u7 u8 u9 u10 u11 u12 u13 u14 u15 u16 u17 u18 u19 u20 u21 u22 u23 u24 u25 : Value), a' = { tmps := #[.pointer (some ⟨gp, 0, none⟩), .int .i64 (a : Int), undef, undef, kv, u5, u6, u7, u8, u9, u10, u11, u12, u13, u14, u15, u16, u17, u18, u19, u20, u21, u22, u23, u24, u25], defers := [] } ∧ GLJ w0 w w' gp gr B (.slice ao n cap) bv fm b rest d a fo t s s1 R kv) (fun a' _ => n - (intOf (a'.tmps.getD 1 undef)).toNat) rfl ?_ ?_
  · exact ⟨at0, fo, s, [], _, _, _, _, _, _, _, _, _, _, _, _, _, _, _, _, _, _, _, _, _, _, rfl, ⟨⟨rfl, .inl ⟨rfl, rfl⟩⟩, by simp, HP.out, Chg.refl _ _, HDR.out, HOK.out, HWF.out, Nat.zero_le _, by simp⟩⟩
  rintro a' wi ⟨a, t, s1, R, kv, u5, u6, u7, u8, u9, u10, u11, u12, u13, u14, u15, u16, u17, u18, u19, u20, u21, u22, u23, u24, u25, rfl, hJ⟩
  obtain ⟨ka, kc, rfl⟩ := own_shape hJ.ow
  have han : a < n := by
    rw [HN.out]
    by_cases h : a < fm.length
    · exact h
    · have := hJ.dr
      rw [List.drop_of_length_le (by omega)] at this
      cases ht : t.sg <;> rw [ht] at this <;> cases this
  obtain ⟨gg, off, rfl, hsg⟩ := hJ.ps.sign HN.out han
  obtain ⟨p0, p1, p2⟩ := hJ.ps.cells
  have hx := hsg _ (Chg.refl _ _) a han
  obtain ⟨m, hm⟩ : ∃ m, m = R.length := ⟨_, rfl⟩
  have hle := hJ.le
  have HOW := Lib.hid hJ.ow
  have hwi : w.heap.size ≤ wi.heap.size := hJ.cg.size
  rw [← hm] at hle HOW hJ ⊢
  have HJ := Lib.hid hJ; have HM := Lib.hid hm
  obtain ⟨c, hc⟩ : ∃ c, c = fm.getD a 0 := ⟨_, rfl⟩
  rw [← hc] at hx
  clear hJ hm hsg
  by_cases h41 : c = 41
  · have hnil : t = .nil := by
      have hd := HJ.out.dr
      cases t with
      | nil => rfl
      | leaf f t' =>
        obtain ⟨h1, h2, h3⟩ := HJ.out.wf
        exfalso
        have hk := kd_leaf ⟨h1, h2⟩
        rw [Fo.sg, sg_eq] at hd
        have : fm.getD a 0 ≠ 41 := by
          unfold rp at hd
          split at hd
          · have := (drop_at (show fm.drop a = 63 :: _ from hd)).2.1; omega
          · split at hd
            · have := (drop_at (show fm.drop a = 42 :: _ from hd)).2.1; omega
            · have := (drop_at (show fm.drop a = kd f.k :: _ from hd)).2.1; omega
        omega
      | group f k t' =>
        obtain ⟨h1, h2, h3, h4⟩ := HJ.out.wf
        exfalso
        have hk : kd f.k = 40 := by rw [h1]; rfl
        rw [Fo.sg, sg_eq, hk] at hd
        have : fm.getD a 0 ≠ 41 := by
          unfold rp at hd
          split at hd
          · have := (drop_at (show fm.drop a = 63 :: _ from hd)).2.1; omega
          · split at hd
            · have := (drop_at (show fm.drop a = 42 :: _ from hd)).2.1; omega
            · have := (drop_at (show fm.drop a = 40 :: _ from hd)).2.1; omega
        omega
    have E := Lib.hid (show pF fo s = (R.map (·.1), s1) by
      rw [HJ.out.eq, hnil]; simp [pF])
    subst h41
    rw [show ((41 : Nat) : Int) = 41 from rfl] at hx
    clear hc hnil
    go_wp2
    simp only [Exit.jump]
    go_ret
    rw [E.out]
    refine ⟨_, rfl, ?_, HJ.out.ps, HJ.out.cg⟩
    exact kidsIn_own HOW.out HM.out.symm (fun g hg => hg) fun q hq => (HJ.out.li q hq).mono (fun g hg => hg.1) (Nat.le_refl _)
  · have d1 : ((c : Int) == 41) = false := by simp; omega
    obtain ⟨q, g, t', hsk, hq1, hFC, hdr', hok', hwf', hpf⟩ := next_field HJ.out.dr HJ.out.ok HJ.out.wf (by rw [← hc]; exact h41)
    have HFC := Lib.hid (hFC wi s1 HJ.out.ps)
    have HSK := Lib.hid hsk
    have HDR' := Lib.hid hdr'; have HOK' := Lib.hid hok'; have HWF' := Lib.hid hwf'
    have E1 := Lib.hid (show pF fo s = (R.map (·.1) ++ ((g s1).1 :: (pF t' (g s1).2).1), (pF t' (g s1).2).2) by rw [HJ.out.eq, hpf])
    have hqn : a + q ≤ n := by
      rw [HN.out]
      by_cases h : a + q ≤ fm.length
      · exact h
      · rw [List.drop_of_length_le (by omega)] at hdr'
        cases ht : t'.sg <;> rw [ht] at hdr' <;> cases hdr'
    obtain ⟨l4, hl4⟩ : ∃ t, t = (g s1).1 := ⟨_, rfl⟩
    obtain ⟨s4, hs4⟩ : ∃ t, t = (g s1).2 := ⟨_, rfl⟩
    rw [← hl4, ← hs4] at HFC E1
    have HFS := Lib.hid (HP.out.fs)
    have HFM := Lib.hid (show fm.length ≤ 100000 by rw [← HN.out]; exact hfm)
    clear hl4 hs4 hsk hFC hdr' hok' hwf' hpf hc h41
    go_wp2_with (first
      | (go_at_call 86; (with_reducible refine HFC.out.mono ?_); rintro e w4 ⟨lv, rfl, hl4, hp4, hc4⟩; obtain ⟨lo4, lc4, rfl, -, -⟩ := hl4.shape; have HO4 := Lib.hid (own_chg HOW.out hc4 (fun g hg hm => by simp at hm; have := own_ge HOW.out g hg; omega)); have HZ4 := Lib.hid (Nat.le_trans hwi hc4.size); have HL4 := Lib.hid hl4; have HP4 := Lib.hid hp4; have HC4 := Lib.hid hc4; clear hl4 hp4 hc4)
      | (at_builtin; refine wpList_append_at _ rfl (.tmp 14) (.tmp 18) _ rfl w.heap.size 28 i1 (.slice none 0 0) 1 24 Try.underlying42 ji jz0 jz1 jz2 rfl (by decide) (.slice ka m kc) m (R.flatMap encR) rfl (HO4.out.alloc _) ⟨w4.heap.size, 0, none⟩ 1 1 [.slice lo4 l4.length lc4] rfl rfl new_cell (by simp [Value.oneCell']) (by unfold maxLen; omega) (by omega) (le_alloc HZ4.out _) ?_; intro v5 w5 hown5 hg5 hat5; obtain ⟨ka5, kc5, rfl⟩ := own_shape hown5; obtain ⟨a1, a2, a3, a4⟩ := grow_lists (kv := .slice ka m kc) (R := R) (by rw [← HM.out]; exact HOW.out) HJ.out.li hwi hgr HL4.out HC4.out (by rw [← HM.out]; exact hown5) hg5 hat5; have hp5 := HP4.out.keep a3 (fun g hg => Nat.le_trans hBw (a4 g hg)); obtain ⟨q0, q1, q2⟩ := hp5.cells; have HP5 := Lib.hid hp5; have A1 := Lib.hid a1; have A2 := Lib.hid a2; have HC5 := Lib.hid ((HJ.out.cg.trans HC4.out (by simp)).trans a3 (fun t ht => .inr (a4 t ht))); have HPA := Lib.hid (past_any _ fm a q w5 (HFS.out.keep hp5.c0) HSK.out HFM.out); clear hown5 hg5 hat5 a1 a2 a3 a4 hp5)
      | (go_at_call 84; (with_reducible refine HPA.out.mono ?_); rintro e w6 ⟨rfl, hC6⟩; have HC6 := Lib.hid hC6; clear hC6)
      | fail)
    go_step3
    refine ⟨rfl, ⟨a + q, t', s4, _, _, _, _, _, _, _, _, _, _, _, _, _, _, _, _, _, _, _, _, _, _, _, rfl, ⟨own_chg A1.out HC6.out (by simp), fun p hp => (A2.out p hp).keep HC6.out (by simp), HP5.out.keep HC6.out (by simp), HC5.out.trans HC6.out (by simp), HDR'.out, HOK'.out, HWF'.out, ?_, ?_⟩⟩, ?_⟩
    · rw [List.length_append, ← HM.out]; simp; omega
    · rw [E1.out]; simp
    · show n - ((a + q : Nat) : Int).toNat < n - (a : Int).toNat
      omega

/-- Every field of a forest is read. -/
theorem fok9 {w0 : World} {gp gr B : Nat} {fv bv : Value} {fm b : List Nat} (hfm : fm.length ≤ 100000) : ∀ (fo : Fo) (d : Nat), fo.wf → fo.hi ≤ d → FOK w0 gp gr B fv bv fm b d fo
  | .nil, d, _, _ => trivial
  | .leaf f t, d, hw, hd => by
    obtain ⟨h1, h2, h3⟩ := hw
    have hk := kd_leaf ⟨h1, h2⟩
    have hp := t.hi_pos
    refine ⟨fun a rest hdr => ?_, fok9 hfm t d h3 hd⟩
    rw [sg_eq, List.append_assoc] at hdr
    obtain ⟨d', rfl⟩ : ∃ d', d = d' + 1 := ⟨d - 1, by unfold Fo.hi at hd; omega⟩
    have h4 : fm.drop (a + (rp f.r).length) = kd f.k :: rest := by rw [← List.drop_drop, hdr]; simp
    obtain ⟨h5, h6, -⟩ := drop_at h4
    exact field_any9 (value_leaf9 ⟨h1, h2⟩ h5 hfm h6) hdr hfm ⟨hk.1, hk.2.1⟩
  | .group f k t, d, hw, hd => by
    obtain ⟨h1, h2, h3, h4⟩ := hw
    have hk : kd f.k = 40 := by rw [h1]; rfl
    unfold Fo.hi at hd
    refine ⟨fun a rest hdr => ?_, fok9 hfm t d h4 (by omega)⟩
    rw [sg_eq, List.append_assoc, hk] at hdr
    obtain ⟨d', rfl⟩ : ∃ d', d = d' + 1 := ⟨d - 1, by omega⟩
    have h5 : fm.drop (a + (rp f.r).length) = 40 :: (k.sg ++ 41 :: rest) := by rw [← List.drop_drop, hdr]; simp
    obtain ⟨h6, h7, h8⟩ := drop_at h5
    exact field_any9 (value_grp9 (group_any9 (fok9 hfm k d' h3 (by omega)) h3 h8 hfm) h6 hfm h7) hdr hfm ⟨by decide, by decide⟩

/-- A schema's signs: the first field is a group of a forest. -/
def fmS (fo : Fo) : List Nat := 40 :: (fo.sg ++ [41])

/-- Records. -/
theorem records9 {w0 : World} {gp gr B : Nat} {fv bv : Value} {b : List Nat} {fo : Fo} (hw : fo.wf) (hfm : (fmS fo).length ≤ 100000) : VC w0 gp gr B fv bv (fmS fo) b (fo.hi + 1) 0 (pGrp (pF fo)) :=
  value_grp9 (group_any9 (rest := []) (fok9 hfm fo fo.hi hw (Nat.le_refl _)) hw rfl hfm) (by simp [fmS]) hfm rfl

end Go.Proofs.Ytkbfbiklnjldgaa
