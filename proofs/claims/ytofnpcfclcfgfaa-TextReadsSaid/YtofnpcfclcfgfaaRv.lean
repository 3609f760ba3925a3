/- The reference's parser: group, where one is known. -/
import Derived.Test.YtofnpcfclcfgfaaRj
namespace Go.Proofs.Ytofnpcfclcfgfaa
open Go.RowKit
set_option linter.unusedVariables false

def WordOK (W : List ByteArray) : Prop := ∀ x ∈ W, nameB (bl x) = wnB x ∧ x.size ≤ 4000

theorem WordOK.head {W : List ByteArray} (h : WordOK W) (i : Nat) : nameB (bl ((W.drop i).headD ByteArray.empty)) = wnB ((W.drop i).headD ByteArray.empty) ∧ ((W.drop i).headD ByteArray.empty).size ≤ 4000 := by
  cases hd : W.drop i with
  | nil => exact ⟨by decide, by decide⟩
  | cons x t => exact h x (List.mem_of_mem_drop (by rw [hd]; simp))

def OneOut (w0 : World) (gp : Nat) (W : List ByteArray) (wv : Value) (d : Nat) (b : Bool) (i : Nat) (S : List F) (w' : World) : Prop :=
  ∃ i' S' sv' e', PS w0 w' gp W wv i' S' sv' e' ∧ S.length ≤ S'.length ∧
    (e' = 0 ∧ i < i' ∧ (∀ o, o.length = d → rdM b (W.drop i) S o = rdM false (W.drop i') S' (bumpO o)) ∨ e' ≠ 0 ∧ ∀ o, o.length = d → rdM b (W.drop i) S o = (e', []))

def OneC (d : Nat) : Prop := ∀ (w0 w : World) (gp : Nat) (W : List ByteArray) (wv : Value) (i : Nat) (S : List F) (sv : Value) (b : Bool), WordOK W → PS w0 w gp W wv i S sv 0 → (b = true ∨ (W.drop i).headD ByteArray.empty ≠ wCl) →
  Calls Try.prog 88 #[.pointer (some ⟨gp, 0, none⟩), .int .i64 (d : Int)] w fun en w' => en = .returned (.tuple #[]) ∧ OneOut w0 gp W wv d b i S w'

/-- From a group's sign on. -/
def mG (ws : List ByteArray) (S : List F) (k : Nat) (o : List (Nat × Int)) : Int × List F := if ws.headD ByteArray.empty = wOp then rdM true ws.tail S ((k, 0) :: o) else (6, [])

def GroupOut (w0 : World) (gp : Nat) (W : List ByteArray) (wv : Value) (d : Nat) (i : Nat) (S : List F) (en : Ending) (w' : World) : Prop :=
  ∃ (n : Nat) (i' : Nat) (S' : List F) (sv' : Value) (e' : Int), en = .returned (.int .i64 (n : Int)) ∧ PS w0 w' gp W wv i' S' sv' e' ∧ S.length ≤ S'.length ∧
    (e' = 0 ∧ i < i' ∧ (∀ k o, o.length + 1 = d → mG (W.drop i) S k o = if o = [] then (if W.drop i' = [] then (0, setC S' k n) else (6, [])) else rdM false (W.drop i') (setC S' k n) o) ∨ e' ≠ 0 ∧ ∀ k o, o.length + 1 = d → mG (W.drop i) S k o = (e', []))

def GroupC (d : Nat) : Prop := ∀ (w0 w : World) (gp : Nat) (W : List ByteArray) (wv : Value) (i : Nat) (S : List F) (sv : Value), WordOK W → PS w0 w gp W wv i S sv 0 →
  Calls Try.prog 53 #[.pointer (some ⟨gp, 0, none⟩), .int .i64 (d : Int)] w fun en w' => GroupOut w0 gp W wv d i S en w'

/-- How the loop over a group's fields stands. -/
structure GJ (w0 : World) (gp : Nat) (W : List ByteArray) (wv : Value) (d i0 : Nat) (S0 : List F) (n i : Nat) (S : List F) (sv : Value) (e : Int) (wx : World) : Prop where
  ps : PS w0 wx gp W wv i S sv e
  ln : S0.length ≤ S.length
  nb : n ≤ 8003 ∧ (e = 0 → n ≤ i)
  eq : e = 0 ∧ i0 < i ∧ (∀ k o, o.length + 1 = d → mG (W.drop i0) S0 k o = rdM (n == 0) (W.drop i) S ((k, (n : Int)) :: o)) ∨ e ≠ 0 ∧ ∀ k o, o.length + 1 = d → mG (W.drop i0) S0 k o = (e, [])

def msr (gp : Nat) (W : List ByteArray) (wx : World) : Nat :=
  if intOf ((wx.cell? ⟨gp, 3, none⟩).getD undef) = 0 then W.length + 1 - (intOf ((wx.cell? ⟨gp, 1, none⟩).getD undef)).toNat else 0
theorem PS.msr0 {w0 w : World} {gp : Nat} {W : List ByteArray} {wv : Value} {i : Nat} {S : List F} {sv : Value} (h : PS w0 w gp W wv i S sv 0) : msr gp W w = W.length + 1 - i := by
  obtain ⟨-, c1, -, c3, -⟩ := h.cells
  unfold msr
  rw [c3, c1]
  simp [intOf]
theorem PS.msr1 {w0 w : World} {gp : Nat} {W : List ByteArray} {wv : Value} {i : Nat} {S : List F} {sv : Value} {e : Int} (h : PS w0 w gp W wv i S sv e) (he : e ≠ 0) : msr gp W w = 0 := by
  obtain ⟨-, -, -, c3, -⟩ := h.cells
  unfold msr
  rw [c3]
  simp [intOf, he]

set_option maxRecDepth 100000 in
set_option maxHeartbeats 2000000 in
theorem group_of_one (d : Nat) (hd : 1 ≤ d) (hd2 : d ≤ 100) (hOne : OneC d) : GroupC d := by
  intro w0 w gp W wv i S sv hW h
  have HMO := Lib.hid (rmust_ok wOp w0 w gp W wv i S sv h (by decide))
  have HW := Lib.hid hW
  have hwl := h.wl
  clear h hW
  unfold wOp at HMO
  go_enter Try.func53, Try.ntmps53
  go_wp2_with fail
  (with_reducible refine HMO.out.mono ?_)
  rintro en w1 ⟨rfl, i1, hP, hdr, hle, hlt⟩
  have hJ0 : GJ w0 gp W wv d i S 0 i1 S sv (if (W.drop i).headD ByteArray.empty = wOp then 0 else 6) w1 := by
    refine ⟨hP, Nat.le_refl _, ⟨by omega, fun _ => Nat.zero_le _⟩, ?_⟩
    by_cases hx : (W.drop i).headD ByteArray.empty = wOp
    · rw [if_pos hx]
      left
      have hil : i < W.length := by
        rcases Nat.lt_or_ge i W.length with h1 | h1
        · exact h1
        · rw [List.drop_of_length_le h1] at hx
          exact absurd hx (by decide)
      refine ⟨rfl, hlt hil, fun k o _ => ?_⟩
      unfold mG
      rw [if_pos hx, hdr]
      rfl
    · rw [if_neg hx]
      right
      refine ⟨by decide, fun k o _ => ?_⟩
      unfold mG
      rw [if_neg hx]
  have HJ0 := Lib.hid hJ0
  generalize (if (W.drop i).headD ByteArray.empty = wOp then (0 : Int) else 6) = e1 at HJ0
  clear hP hdr hlt hJ0
  go_wp2_with fail
  go_loopw [5] (fun s5 wx => ∃ (n i' : Nat) (S' : List F) (sv' : Value) (e' : Int), s5 = .int .i64 (n : Int) ∧ GJ w0 gp W wv d i S n i' S' sv' e' wx) (fun _ wx => msr gp W wx)
  case atStart => exact ⟨0, i1, S, sv, e1, rfl, HJ0.out⟩
  case round =>
    obtain ⟨n, i', S', sv', e', rfl, hJ⟩ := hrel
    obtain ⟨c0, c1, c2, c3, -⟩ := hJ.ps.cells
    have hle' := hJ.ps.le
    have hnb0 := hJ.nb.1
    have hwl' := hJ.ps.wl
    by_cases he : e' = 0
    · subst he
      have hms := hJ.ps.msr0
      have hnb := hJ.nb.2 rfl
      have HMS := Lib.hid hms
      obtain ⟨-, hii, heq⟩ : (0 : Int) = 0 ∧ i < i' ∧ _ := by
        rcases hJ.eq with h | h
        · exact h
        · exact absurd rfl h.1
      have HEQ := Lib.hid heq
      have HJ := Lib.hid hJ
      by_cases hn0 : n = 0
      · have HONE := Lib.hid (fun wy (h : PS w0 wy gp W wv i' S' sv' 0) => hOne w0 wy gp W wv i' S' sv' true HW.out h (.inl rfl))
        have q1 : ((n : Int) == 0) = true := by simp [hn0]
        have HN0 := Lib.hid hn0
        clear hms heq hJ hn0
        go_wp2_with fail
        go_quiet (fail)
        have HPD := Lib.hid (HJ.out.ps.drew nq)
        go_wp2_with fail
        (with_reducible refine (HONE.out _ HPD.out).mono ?_)
        rintro en w2 ⟨rfl, i2, S2, sv2, e2, hP2, hl2, h2⟩
        have HP2 := Lib.hid hP2; have H2 := Lib.hid h2
        clear hP2 h2
        go_wp2
        go_roundw
        case rel =>
          refine ⟨n + 1, i2, S2, sv2, e2, by go_num, HP2.out, Nat.le_trans HJ.out.ln hl2, ⟨by omega, fun h => ?_⟩, ?_⟩
          · rcases H2.out with ⟨-, hlt, -⟩ | ⟨h0, -⟩
            · omega
            · exact absurd h h0
          · rcases H2.out with ⟨h0, hlt, heq⟩ | ⟨h0, heq⟩
            · refine .inl ⟨h0, by omega, fun k o ho => ?_⟩
              rw [HEQ.out k o ho, show ((n : Nat) == 0) = true by rw [HN0.out]; rfl, heq ((k, (n : Int)) :: o) (by simp; exact ho)]
              rfl
            · refine .inr ⟨h0, fun k o ho => ?_⟩
              rw [HEQ.out k o ho, show ((n : Nat) == 0) = true by rw [HN0.out]; rfl, heq ((k, (n : Int)) :: o) (by simp; exact ho)]
        case measure =>
          rcases H2.out with ⟨h0, hlt, -⟩ | ⟨h0, -⟩
          · have h3 := HP2.out.le
            have h4 := HP2.out
            rw [h0] at h4
            rw [HMS.out, h4.msr0]
            omega
          · rw [HMS.out, HP2.out.msr1 h0]
            omega
      · have q1 : ((n : Int) == 0) = false := by simp; omega
        have HN0 := Lib.hid hn0
        have hn0' : 0 < n := by omega
        obtain ⟨ao, cap, rfl, hc1, hc2⟩ := HJ.out.ps.hw.shape
        obtain ⟨m, hm⟩ : ∃ m, m = W.length := ⟨_, rfl⟩
        rw [← hm] at c0 hle' hwl' hc1
        have HM := Lib.hid hm
        clear hms heq hJ hn0
        by_cases hil : i' < m
        · have hwx := HJ.out.ps.hw
          obtain ⟨g, off, rfl, hcs⟩ := hwx.at (by omega)
          obtain ⟨x, hx⟩ : ∃ x, W[i']? = some x := ⟨_, List.getElem?_eq_getElem (by omega)⟩
          have cx := HJ.out.ps.cg.cell (SeenS.cell hcs hx) (by simp)
          have HD := Lib.hid (drop_at' hx)
          clear hcs hx hwx hm
          have d1 : decide ((i' : Int) < (m : Int)) = true := by simpa using hil
          have HDX := Lib.hid (show (W.drop i').headD ByteArray.empty = x by rw [HD.out]; rfl)
          by_cases hxc : x = wCl
          · have q2 : (x.toList == [125]) = true := by rw [hxc]; simp [wCl, ByteArray.toList_mk]
            have HDC := Lib.hid (show W.drop i' = wCl :: W.drop (i' + 1) by rw [HD.out, hxc])
            have HXC := Lib.hid (show (W.drop i').headD ByteArray.empty = { data := #[125] } by rw [HDC.out]; rfl)
            clear hxc
            have HMU := Lib.hid (fun q => rmust_ok { data := #[125] } w0 (wr.drewN q) gp W _ i' S' sv' (HJ.out.ps.drew q) (by decide))
            rw [if_pos HXC.out] at HMU
            go_wp2_with fail
            go_quiet (fail)
            go_wp2_with fail
            (with_reducible refine (HMU.out _).mono ?_)
            rintro en w2 ⟨rfl, i2, hP2, hd2, hle2, hlt2⟩
            have HP2 := Lib.hid hP2; have HD2 := Lib.hid hd2
            clear hP2 hd2 hlt2
            go_wp2
            go_ret
            refine ⟨n, i2, S', sv', _, rfl, HP2.out, HJ.out.ln, .inl ⟨rfl, by omega, fun k o ho => ?_⟩⟩
            rw [HEQ.out k o ho, show ((n : Nat) == 0) = false by simpa using HN0.out, HDC.out, rdM_close, HD2.out, HDC.out]
            rfl
          · have q2 : (x.toList == [125]) = false := by
              simp only [beq_eq_false_iff_ne, ne_eq]
              intro h
              exact hxc (bytes_ext (by rw [h]; simp [wCl, ByteArray.toList_mk]))
            have HONE := Lib.hid (fun wy (h : PS w0 wy gp W (.slice (some ⟨g, off, none⟩) W.length cap) i' S' sv' 0) => hOne w0 wy gp W _ i' S' sv' false HW.out h (.inr (by rw [HDX.out]; exact hxc)))
            clear hxc
            go_wp2_with fail
            go_quiet (fail)
            have HPD := Lib.hid (HJ.out.ps.drew nq)
            go_wp2_with fail
            (with_reducible refine (HONE.out _ HPD.out).mono ?_)
            rintro en w2 ⟨rfl, i2, S2, sv2, e2, hP2, hl2, h2⟩
            have HP2 := Lib.hid hP2; have H2 := Lib.hid h2
            clear hP2 h2
            go_wp2
            go_roundw
            case rel =>
              refine ⟨n + 1, i2, S2, sv2, e2, by go_num, HP2.out, Nat.le_trans HJ.out.ln hl2, ⟨by omega, fun h => ?_⟩, ?_⟩
              · rcases H2.out with ⟨-, hlt, -⟩ | ⟨h0, -⟩
                · omega
                · exact absurd h h0
              · rcases H2.out with ⟨h0, hlt, heq⟩ | ⟨h0, heq⟩
                · refine .inl ⟨h0, by omega, fun k o ho => ?_⟩
                  rw [HEQ.out k o ho, show ((n : Nat) == 0) = false by simpa using HN0.out, heq ((k, (n : Int)) :: o) (by simp; exact ho)]
                  rfl
                · refine .inr ⟨h0, fun k o ho => ?_⟩
                  rw [HEQ.out k o ho, show ((n : Nat) == 0) = false by simpa using HN0.out, heq ((k, (n : Int)) :: o) (by simp; exact ho)]
            case measure =>
              rcases H2.out with ⟨h0, hlt, -⟩ | ⟨h0, -⟩
              · have h3 := HP2.out.le
                have h4 := HP2.out
                rw [h0] at h4
                rw [HMS.out, h4.msr0]
                omega
              · rw [HMS.out, HP2.out.msr1 h0]
                have h5 := HM.out
                omega
        · have d1 : decide ((i' : Int) < (m : Int)) = false := by simpa using hil
          have HD := Lib.hid (show W.drop i' = [] from List.drop_of_length_le (by omega))
          have HXC := Lib.hid (show ¬ (W.drop i').headD ByteArray.empty = { data := #[125] } by rw [HD.out]; decide)
          clear hm
          have HMU := Lib.hid (fun q => rmust_ok { data := #[125] } w0 (wr.drewN q) gp W _ i' S' sv' (HJ.out.ps.drew q) (by decide))
          rw [if_neg HXC.out] at HMU
          go_wp2_with fail
          go_quiet (fail)
          go_wp2_with fail
          (with_reducible refine (HMU.out _).mono ?_)
          rintro en w2 ⟨rfl, i2, hP2, hd2, hle2, hlt2⟩
          have HP2 := Lib.hid hP2; have HD2 := Lib.hid hd2
          clear hP2 hd2 hlt2
          go_wp2
          go_ret
          refine ⟨n, i2, S', sv', _, rfl, HP2.out, HJ.out.ln, .inr ⟨by decide, fun k o ho => ?_⟩⟩
          rw [HEQ.out k o ho, HD.out, rdM.eq_def]
    · have q0 : (e' == 0) = false := by simpa using he
      have heq : ∀ k o, o.length + 1 = d → mG (W.drop i) S k o = (e', []) := by
        rcases hJ.eq with h | h
        · exact absurd h.1 he
        · exact h.2
      have HEQ := Lib.hid heq
      have HJ := Lib.hid hJ
      have HMU := Lib.hid (fun q => rmust_err { data := #[125] } w0 (wr.drewN q) gp W wv i' S' sv' e' (HJ.out.ps.drew q) he (by decide))
      have HE := Lib.hid he
      clear heq hJ he
      go_wp2_with fail
      go_quiet (fail)
      go_wp2_with fail
      (with_reducible refine (HMU.out _).mono ?_)
      rintro en w2 ⟨rfl, hP2⟩
      have HP2 := Lib.hid hP2
      clear hP2
      go_wp2
      go_ret
      exact ⟨n, i', S', sv', e', rfl, HP2.out, HJ.out.ln, .inr ⟨HE.out, HEQ.out⟩⟩

end Go.Proofs.Ytofnpcfclcfgfaa
