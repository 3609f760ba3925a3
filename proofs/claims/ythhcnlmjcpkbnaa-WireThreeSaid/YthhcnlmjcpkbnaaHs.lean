/- wire's writer: a group's value; field; group; of a forest. -/
import Derived.Test.YthhcnlmjcpkbnaaHr
import Derived.Test.YthhcnlmjcpkbnaaHh
namespace Go.Proofs.Ythhcnlmjcpkbnaa
open Go.RowKit
set_option linter.unusedVariables false
set_option linter.unusedSimpArgs false

theorem wvalue_leaf {w0 : World} {gw B : Nat} {fv : Value} {fm : List Nat} {d at0 : Nat} {k : Int} (hk : 1 ≤ k ∧ k ≤ 4) (hat : at0 < fm.length) (hfm : fm.length ≤ 100000) (hs : fm.getD at0 0 = kd k) : WVC w0 gw B fv fm d at0 (wLeaf k) okLeaf := by
  have hkk : k = 1 ∨ k = 2 ∨ k = 3 ∨ k = 4 := by omega
  rcases hkk with rfl | rfl | rfl | rfl
  · exact wvalue_leaf_1 hat hfm hs
  · exact wvalue_leaf_2 hat hfm hs
  · exact wvalue_leaf_3 hat hfm hs
  · exact wvalue_leaf_4 hat hfm hs

/-- All that is there of a field. -/
def wField (r : Int) (g : Tr → List Nat) (l : List Tr) : List Nat := (if r = 1 then lw 1 (l.length : Nat) else if r = 2 then vb l.length else []) ++ l.flatMap g
/-- Fields beside one another. -/
def wF : Fo → List (List Tr) → List Nat
  | .nil, _ => []
  | .leaf f t, ks => match ks with | [] => [] | l :: r => wField f.r (wLeaf f.k) l ++ wF t r
  | .group f k t, ks => match ks with | [] => [] | l :: r => wField f.r (fun x => wF k x.k) l ++ wF t r
/-- What they must be. -/
def okF : Fo → List (List Tr) → Prop
  | .nil, ks => ks = []
  | .leaf f t, ks => match ks with | [] => False | l :: r => (∀ x ∈ l, okLeaf x) ∧ okF t r
  | .group f k t, ks => match ks with | [] => False | l :: r => (∀ x ∈ l, okF k x.k) ∧ okF t r

/-- What is asked of the writer's group, and field. -/
def WGC (w0 : World) (gw B : Nat) (fv : Value) (fm : List Nat) (d at0 : Nat) (G : List (List Tr) → List Nat) (ok : List (List Tr) → Prop) : Prop :=
  ∀ (w : World) (out : List Nat) (ks : List (List Tr)) (kv : Value), WW w0 w gw B fv fm out → KidsAt w0 d ks kv → ok ks → out.length + (G ks).length ≤ 100000000 →
    Calls Try.prog 128 #[.pointer (some ⟨gw, 0, none⟩), .int .i64 (at0 : Int), kv] w fun e w' => e = .returned (.tuple #[]) ∧ WW w0 w' gw B fv fm (out ++ G ks)
def WFC (w0 : World) (gw B : Nat) (fv : Value) (fm : List Nat) (d at0 : Nat) (g : List Tr → List Nat) (ok : List Tr → Prop) : Prop :=
  ∀ (w : World) (out : List Nat) (l : List Tr) (lv : Value), WW w0 w gw B fv fm out → ListAt w0 d l lv → ok l → out.length + (g l).length ≤ 100000000 →
    Calls Try.prog 139 #[.pointer (some ⟨gw, 0, none⟩), .int .i64 (at0 : Int), lv] w fun e w' => e = .returned (.tuple #[]) ∧ WW w0 w' gw B fv fm (out ++ g l)

set_option maxRecDepth 100000 in
set_option maxHeartbeats 4000000 in
theorem wvalue_grp {w0 : World} {gw B : Nat} {fv : Value} {fm : List Nat} {d at0 : Nat} {G : List (List Tr) → List Nat} {ok : List (List Tr) → Prop} (hG : WGC w0 gw B fv fm d (at0 + 1) G ok) (hat : at0 < fm.length) (hfm : fm.length ≤ 100000) (hs : fm.getD at0 0 = 40) : WVC w0 gw B fv fm d at0 (fun t => G t.k) (fun t => ok t.k) := by
  intro w out t kv hW hK hok hb
  obtain ⟨ko, kc, rfl, -, -⟩ := hK.shape
  obtain ⟨ao, cap, rfl, hc1, hc2⟩ := hW.fs.shape
  rw [nv_length] at hc1 hW hG
  rw [nv_length]
  obtain ⟨n, hn⟩ : ∃ n, n = fm.length := ⟨_, rfl⟩
  rw [← hn] at hc1 hW hat hfm hG ⊢
  obtain ⟨g, off, rfl, hsg⟩ := hW.sign hn hat
  have HW1 := Lib.hid (hW.keep ((Chg.refl [] w).alloc (.cells #[.int .i64 t.n, .string t.s, .slice ko t.k.length kc] 30)))
  have p0 := HW1.out.cells
  have hx := hsg _ HW1.out.c0 at0 hat
  rw [hs, show ((40 : Nat) : Int) = 40 from rfl] at hx
  have HN := Lib.hid hn
  have HT := Lib.hid (hG _ out t.k _ HW1.out hK hok hb)
  rw [show ((at0 + 1 : Nat) : Int) = (at0 : Int) + 1 by omega] at HT
  have hw : IntKind.i64.wrap ((at0 : Int) + 1) = (at0 : Int) + 1 := IntWalk.i64_in _ (by omega)
  clear hW hK hb hsg hs hn hok hG
  go_enter Try.func104, Try.ntmps104
  go_wp2_with (first
    | (go_at_call 128; (with_reducible refine HT.out.mono ?_); rintro e w2 ⟨rfl, hw2⟩; have HW2 := Lib.hid hw2; clear hw2)
    | fail)
  go_end0
  exact ⟨rfl, HW2.out⟩

set_option maxRecDepth 100000 in
set_option maxHeartbeats 4000000 in
theorem wfield_any {w0 : World} {gw B : Nat} {fv : Value} {fm : List Nat} {d at0 c : Nat} {r : Int} {g : Tr → List Nat} {ok : Tr → Prop} {rest : List Nat} (hV : WVC w0 gw B fv fm d (at0 + (rp r).length) g ok) (hdr : fm.drop at0 = rp r ++ c :: rest) (hfm : fm.length ≤ 100000) (hc : c ≠ 63 ∧ c ≠ 42) : WFC w0 gw B fv fm d at0 (wField r g) (fun l => ∀ x ∈ l, ok x) := by
  intro w out l lv hW hL hok hb
  obtain ⟨lo, lc, rfl, hl1, hl2⟩ := hL.shape
  obtain ⟨ao, cap, rfl, hc1, hc2⟩ := hW.fs.shape
  rw [nv_length] at hc1 hW hV
  rw [nv_length]
  obtain ⟨n, hn⟩ : ∃ n, n = fm.length := ⟨_, rfl⟩
  rw [← hn] at hc1 hW hfm hV ⊢
  have hat : at0 < n := by
    rw [hn]
    by_cases h : at0 < fm.length
    · exact h
    · rw [List.drop_of_length_le (by omega)] at hdr
      cases hr : rp r <;> rw [hr] at hdr <;> cases hdr
  obtain ⟨gg, off, rfl, hsg⟩ := hW.sign hn hat
  have HW := Lib.hid hW
  have p0 := hW.cells
  have hx := hsg _ hW.c0 at0 hat
  have HN := Lib.hid hn
  have hw : IntKind.i64.wrap ((at0 : Int) + 1) = (at0 : Int) + 1 := IntWalk.i64_in _ (by omega)
  unfold maxLen at hl2
  have HVX := Lib.hid (fun (wx : World) (o : List Nat) (hp : WW w0 wx gw B (.slice (some ⟨gg, off, none⟩) n cap) fm o) (hbb : o.length + (l.flatMap g).length ≤ 100000000) => wvalues_any hV wx o l _ hp hL hok hbb)
  obtain ⟨q, hq⟩ : ∃ q, q = l.length := ⟨_, rfl⟩
  unfold wField at hb ⊢
  rw [← hq] at hl1 HVX hb ⊢
  have HB := Lib.hid hb
  clear hW hsg hn hV hL hok hq
  by_cases h1 : r = 1
  · subst h1
    have e : rp 1 = [63] := rfl
    rw [e] at hdr HVX
    obtain ⟨-, h63, -⟩ := drop_at (show fm.drop at0 = 63 :: c :: rest from hdr)
    rw [h63, show ((63 : Nat) : Int) = 63 from rfl] at hx
    rw [if_pos rfl] at HB ⊢
    have hb' := HB.out
    rw [List.length_append, lw_len] at hb'
    have HT := Lib.hid (wnumber_any 1 (q : Int) (by decide) (by omega) HW.out (by omega))
    rw [show ((1 : Nat) : Int) = 1 from rfl] at HT
    rw [show ((at0 + [63].length : Nat) : Int) = (at0 : Int) + 1 by simp] at HVX
    have HB2 := Lib.hid (show (out ++ lw 1 (q : Int)).length + (l.flatMap g).length ≤ 100000000 by rw [List.length_append, lw_len]; omega)
    clear e h63 hdr hb hb'
    go_enter Try.func139, Try.ntmps139
    go_wp2_with (first
      | (go_at_call 129; (with_reducible refine HT.out.mono ?_); rintro e w2 ⟨rfl, hw2⟩; have HW2 := Lib.hid hw2; clear hw2)
      | (go_at_call 78; (with_reducible refine (HVX.out _ _ HW2.out HB2.out).mono ?_); rintro e w3 ⟨rfl, hw3⟩; have HW3 := Lib.hid hw3; clear hw3)
      | fail)
    go_end0
    rw [← List.append_assoc]
    exact ⟨rfl, HW3.out⟩
  by_cases h2 : r = 2
  · subst h2
    have e : rp 2 = [42] := rfl
    rw [e] at hdr HVX
    obtain ⟨-, h63, -⟩ := drop_at (show fm.drop at0 = 42 :: c :: rest from hdr)
    rw [h63, show ((42 : Nat) : Int) = 42 from rfl] at hx
    rw [if_neg (by decide), if_pos rfl] at HB ⊢
    have hb' := HB.out
    rw [List.length_append] at hb'
    have HT := Lib.hid (wcount_any q (by omega) HW.out (by omega))
    rw [show ((at0 + [42].length : Nat) : Int) = (at0 : Int) + 1 by simp] at HVX
    have HB2 := Lib.hid (show (out ++ vb q).length + (l.flatMap g).length ≤ 100000000 by rw [List.length_append]; omega)
    clear e h63 hdr h1 hb hb'
    go_enter Try.func139, Try.ntmps139
    go_wp2_with (first
      | (go_at_call 77; (with_reducible refine HT.out.mono ?_); rintro e w2 ⟨rfl, hw2⟩; have HW2 := Lib.hid hw2; clear hw2)
      | (go_at_call 78; (with_reducible refine (HVX.out _ _ HW2.out HB2.out).mono ?_); rintro e w3 ⟨rfl, hw3⟩; have HW3 := Lib.hid hw3; clear hw3)
      | fail)
    go_end0
    rw [← List.append_assoc]
    exact ⟨rfl, HW3.out⟩
  · have e : rp r = [] := by unfold rp; rw [if_neg h1, if_neg h2]
    rw [e] at hdr HVX
    obtain ⟨-, h63, -⟩ := drop_at (show fm.drop at0 = c :: rest from hdr)
    rw [h63] at hx
    rw [if_neg h1, if_neg h2, List.nil_append] at HB ⊢
    have b1 : ((c : Int) == 63) = false := by simp; omega
    have b2 : ((c : Int) == 42) = false := by simp; omega
    rw [show ((at0 + ([] : List Nat).length : Nat) : Int) = (at0 : Int) by simp] at HVX
    have HV1 := Lib.hid (HVX.out w out HW.out HB.out)
    clear e h63 hdr h1 h2 HVX hc hb
    go_enter Try.func139, Try.ntmps139
    go_wp2_with (first
      | (go_at_call 78; (with_reducible refine HV1.out.mono ?_); rintro e w3 ⟨rfl, hw3⟩; have HW3 := Lib.hid hw3; clear hw3)
      | fail)
    go_end0
    exact ⟨rfl, HW3.out⟩

/-- Each field of a forest is written, wherever its signs stand. -/
def WFOK (w0 : World) (gw B : Nat) (fv : Value) (fm : List Nat) : Fo → Prop
  | .nil => True
  | .leaf f t => (∀ d a rest, fm.drop a = sg f ++ rest → WFC w0 gw B fv fm d a (wField f.r (wLeaf f.k)) (fun l => ∀ x ∈ l, okLeaf x)) ∧ WFOK w0 gw B fv fm t
  | .group f k t => (∀ d a rest, fm.drop a = sg f ++ (k.sg ++ 41 :: rest) → WFC w0 gw B fv fm d a (wField f.r (fun x => wF k x.k)) (fun l => ∀ x ∈ l, okF k x.k)) ∧ WFOK w0 gw B fv fm t

theorem wnext_field {w0 : World} {gw B : Nat} {fv : Value} {fm rest : List Nat} {a : Nat} {t : Fo} {l : List Tr} {r : List (List Tr)} (dr : fm.drop a = t.sg ++ 41 :: rest) (ok : WFOK w0 gw B fv fm t) (wf : t.wf) (hk : okF t (l :: r)) :
    ∃ (m : Nat) (g : List Tr → List Nat) (okl : List Tr → Prop) (t' : Fo), sk 0 (fm.drop a) = some m ∧ 1 ≤ m ∧ (∀ d, WFC w0 gw B fv fm d a g okl) ∧ okl l ∧ fm.drop (a + m) = t'.sg ++ 41 :: rest ∧ WFOK w0 gw B fv fm t' ∧ t'.wf ∧ okF t' r ∧ wF t (l :: r) = g l ++ wF t' r := by
  cases t with
  | nil => cases hk
  | leaf f t' =>
    obtain ⟨h1, h2, h3⟩ := wf
    obtain ⟨o1, o2⟩ := ok
    obtain ⟨k1, k2⟩ := hk
    rw [Fo.sg, List.append_assoc] at dr
    refine ⟨(sg f).length, _, _, t', by rw [dr]; exact sk_leaf ⟨h1, h2⟩ _, (sg_len f).1, fun d => o1 d a _ dr, k1, ?_, o2, h3, k2, rfl⟩
    rw [← List.drop_drop, dr]; simp
  | group f k t' =>
    obtain ⟨h1, h2, h3, h4⟩ := wf
    obtain ⟨o1, o2⟩ := ok
    obtain ⟨k1, k2⟩ := hk
    have e : (Fo.group f k t').sg ++ 41 :: rest = sg f ++ (k.sg ++ 41 :: (t'.sg ++ 41 :: rest)) := by simp [Fo.sg]
    rw [e] at dr
    refine ⟨(sg f).length + (k.sg.length + 1), _, _, t', by rw [dr]; exact sk_grp h1 h3 _, by omega, fun d => o1 d a _ dr, k1, ?_, o2, h4, k2, rfl⟩
    rw [← List.drop_drop, ← List.drop_drop, dr]
    simp [← List.drop_drop]

/-- How group stands. -/
structure WGJ (w0 wi : World) (gw B : Nat) (fv : Value) (fm rest out : List Nat) (fo : Fo) (ks : List (List Tr)) (j a : Nat) (t : Fo) (pre : List Nat) : Prop where
  ww : WW w0 wi gw B fv fm (out ++ pre)
  dr : fm.drop a = t.sg ++ 41 :: rest
  ok : WFOK w0 gw B fv fm t
  wf : t.wf
  kk : okF t (ks.drop j)
  eq : wF fo ks = pre ++ wF t (ks.drop j)

set_option maxRecDepth 100000 in
set_option maxHeartbeats 4000000 in
theorem wgroup_any {w0 : World} {gw B : Nat} {fv : Value} {fm rest : List Nat} {at0 : Nat} {fo : Fo} (hok : WFOK w0 gw B fv fm fo) (hwf : fo.wf) (hdr : fm.drop at0 = fo.sg ++ 41 :: rest) (hfm : fm.length ≤ 100000) (d : Nat) : WGC w0 gw B fv fm d at0 (wF fo) (okF fo) := by
  intro w out ks kv hW hK hks hb
  obtain ⟨ko, kc, rfl, hl1, hl2⟩ := hK.shape
  obtain ⟨ao, cap, rfl, hc1, hc2⟩ := hW.fs.shape
  rw [nv_length] at hc1 hW hok
  rw [nv_length]
  obtain ⟨nf, hnf⟩ : ∃ n, n = fm.length := ⟨_, rfl⟩
  rw [← hnf] at hc1 hW hok hfm ⊢
  have HNF := Lib.hid hnf
  obtain ⟨n, hn⟩ : ∃ n, n = ks.length := ⟨_, rfl⟩
  rw [← hn] at hK hl1 ⊢
  have HJ0 := Lib.hid (show WGJ w0 w gw B (.slice ao nf cap) fm rest out fo ks 0 at0 fo [] from ⟨by rw [List.append_nil]; exact hW, hdr, hok, hwf, hks, rfl⟩)
  have HK := Lib.hid hK; have HN := Lib.hid hn; have HB := Lib.hid hb
  have HFM := Lib.hid hfm
  unfold maxLen at hl2
  clear hW hK hks hb hn hok hwf hdr hnf
  go_enter Try.func128, Try.ntmps128
  go_wp2
  go_loopw [1, 10] (fun av x w' => ∃ (j a : Nat) (t : Fo) (pre : List Nat), av = .int .i64 (a : Int) ∧ x = .int .i64 (j : Int) ∧ j ≤ n ∧ WGJ w0 w' gw B (.slice ao nf cap) fm rest out fo ks j a t pre) (fun _ x _ => n - (intOf x).toNat)
  case atStart => exact ⟨0, at0, fo, [], rfl, rfl, Nat.zero_le _, HJ0.out⟩
  case round =>
    obtain ⟨j, a, t, pre, rfl, rfl, hj, hJ⟩ := hrel
    have HJ := Lib.hid hJ
    clear hJ
    by_cases hlt : j < n
    · have hd : decide ((j : Int) < (n : Int)) = true := by simp; omega
      obtain ⟨l, hl⟩ : ∃ l, ks[j]? = some l := ⟨_, List.getElem?_eq_getElem (by rw [← HN.out]; exact hlt)⟩
      have hdk : ks.drop j = l :: ks.drop (j + 1) := by
        rw [List.drop_eq_getElem_cons (by rw [← HN.out]; exact hlt)]
        rw [List.getElem?_eq_getElem (by rw [← HN.out]; exact hlt)] at hl
        injection hl with hl
        rw [hl]
      have hkk := HJ.out.kk
      rw [hdk] at hkk
      obtain ⟨q, g, okl, t', hsk, hq1, hFC, hkl, hdr', hok', hwf', hkr, hwe⟩ := wnext_field HJ.out.dr HJ.out.ok HJ.out.wf hkk
      obtain ⟨d', gl, off, -, rfl, hcs⟩ := HK.out.get (by omega)
      obtain ⟨lv, c0, hlv⟩ := hcs j l hl
      have b0 := HJ.out.ww.c0.cell c0 (by simp)
      obtain ⟨lo, lc, rfl, -, -⟩ := hlv.shape
      have heq := HJ.out.eq
      rw [hdk, hwe, ← List.append_assoc] at heq
      have HEQ := Lib.hid heq
      have HT := Lib.hid (hFC d' _ _ l _ HJ.out.ww hlv hkl (by have h := congrArg List.length heq; have := HB.out; rw [List.length_append, List.length_append] at h; rw [List.length_append]; omega))
      have haq : a + q ≤ nf := by
        rw [HNF.out]
        by_cases h : a + q ≤ fm.length
        · exact h
        · rw [List.drop_of_length_le (by omega)] at hdr'
          cases ht : t'.sg <;> rw [ht] at hdr' <;> cases hdr'
      have HSK := Lib.hid hsk
      have HDR := Lib.hid hdr'; have HOK := Lib.hid hok'; have HWF := Lib.hid hwf'; have HKR := Lib.hid hkr
      clear hcs c0 hlv heq hsk hFC hkl hdr' hok' hwf' hkr hwe hkk hdk hl
      go_wp2_with (first
        | (go_at_call 139; (with_reducible refine HT.out.mono ?_); rintro e w2 ⟨rfl, hw2⟩; have p2 := hw2.cells; have HW2 := Lib.hid hw2; have HPA := Lib.hid (past_any _ fm a q w2 (hw2.fs.keep hw2.c0) HSK.out (by rw [← HNF.out]; exact HFM.out)); clear hw2)
        | (go_at_call 140; (with_reducible refine HPA.out.mono ?_); rintro e w3 ⟨rfl, hk3⟩; have HC3 := Lib.hid hk3; clear hk3)
        | fail)
      go_roundw
      case rel => exact ⟨j + 1, a + q, t', pre ++ g l, rfl, by go_num, hlt, ⟨by have := HW2.out.keep HC3.out; rw [List.append_assoc] at this; exact this, HDR.out, HOK.out, HWF.out, HKR.out, HEQ.out⟩⟩
      case measure => simp [intOf]; omega
    · have hd : decide ((j : Int) < (n : Int)) = false := by simp; omega
      have E := Lib.hid (show wF fo ks = pre by
        have h := HJ.out.eq
        have hk := HJ.out.kk
        rw [List.drop_of_length_le (by rw [← HN.out]; omega)] at h hk
        cases t with
        | nil => rw [h]; simp [wF]
        | leaf f t' => exact hk.elim
        | group f k t' => exact hk.elim)
      go_wp2
      go_end0
      exact ⟨rfl, by have := HJ.out.ww; rw [E.out]; exact this⟩

/-- Every field of a forest is written. -/
theorem wfok9 {w0 : World} {gw B : Nat} {fv : Value} {fm : List Nat} (hfm : fm.length ≤ 100000) : ∀ (fo : Fo), fo.wf → WFOK w0 gw B fv fm fo
  | .nil, _ => trivial
  | .leaf f t, hw => by
    obtain ⟨h1, h2, h3⟩ := hw
    have hk := kd_leaf ⟨h1, h2⟩
    refine ⟨fun d a rest hdr => ?_, wfok9 hfm t h3⟩
    rw [sg_eq, List.append_assoc] at hdr
    have h4 : fm.drop (a + (rp f.r).length) = kd f.k :: rest := by rw [← List.drop_drop, hdr]; simp
    obtain ⟨h5, h6, -⟩ := drop_at h4
    exact wfield_any (wvalue_leaf ⟨h1, h2⟩ h5 hfm h6) hdr hfm ⟨hk.1, hk.2.1⟩
  | .group f k t, hw => by
    obtain ⟨h1, h2, h3, h4⟩ := hw
    have hk : kd f.k = 40 := by rw [h1]; rfl
    refine ⟨fun d a rest hdr => ?_, wfok9 hfm t h4⟩
    rw [sg_eq, List.append_assoc, hk] at hdr
    have h5 : fm.drop (a + (rp f.r).length) = 40 :: (k.sg ++ 41 :: rest) := by rw [← List.drop_drop, hdr]; simp
    obtain ⟨h6, h7, h8⟩ := drop_at h5
    exact wfield_any (wvalue_grp (wgroup_any (wfok9 hfm k h3) h3 h8 hfm d) h6 hfm h7) hdr hfm ⟨by decide, by decide⟩

/-- Records are written. -/
theorem wrecords {w0 : World} {gw B : Nat} {fv : Value} {fo : Fo} (hw : fo.wf) (hfm : (fmS fo).length ≤ 100000) (d : Nat) : WVC w0 gw B fv (fmS fo) d 0 (fun t => wF fo t.k) (fun t => okF fo t.k) :=
  wvalue_grp (wgroup_any (rest := []) (wfok9 hfm fo hw) hw rfl hfm d) (by simp [fmS]) hfm rfl

end Go.Proofs.Ythhcnlmjcpkbnaa
