/- The reference's parser: field. -/
import Derived.Test.YtofnpcfclcfgfaaRh
import Derived.Deep.RegionLaw
namespace Go.Proofs.Ytofnpcfclcfgfaa
open Go.RowKit
set_option linter.unusedVariables false

theorem nm_read (x : ByteArray) (h : x.size ≤ 4000) (w : World) : Calls Try.prog 67 #[.string x] w fun e w' => e = .returned (.bool (nameB (bl x))) ∧ w = w' := name_any x w (by omega)

theorem PS.app {w0 w w3 : World} {gp : Nat} {W : List ByteArray} {wv : Value} {i : Nat} {S : List F} {sv sv3 : Value} {e : Int} {f : F} (h : PS w0 w gp W wv i S sv e) (hl : S.length < 40)
    (hown : w3.ownsRow w0.heap.size 41 4 sv3 (S.length + 1) (S.flatMap F.cs ++ F.cs f)) (hc : Chg sv.ownBlock.toList w w3) : PS w0 (w3.setCell ⟨gp, 2, none⟩ sv3) gp W wv i (S ++ [f]) sv3 e := by
  have hgp : w3.heap[gp]? = some (.cells #[wv, .int .i64 (i : Int), sv, .int .i64 e] 91 (0, 0)) := hc.heap h.hb (by simp only [Option.mem_toList]; exact h.sep)
  have hsep : sv3.ownBlock ≠ some gp := fun hg3 => own_ne hown hgp (by decide) gp hg3 rfl
  refine ⟨heap_set hgp sv3, h.hw, ?_, ?_, h.g1, h.le, by simp; omega, h.wl⟩
  · have : (S ++ [f]).flatMap F.cs = S.flatMap F.cs ++ F.cs f := by simp
    rw [this, List.length_append, List.length_singleton]
    exact own_chg hown ((Chg.refl [gp] w3).setCell (by simp) sv3) fun g hg hm => by
      simp at hm
      subst hm
      exact hsep hg
  · refine (h.cg.trans hc (fun g hg => .inr (own_ge h.os g ?_))).setCell (.inr h.g1) sv3
    simpa [Option.mem_toList] using hg

theorem PS.far {w0 w : World} {gp : Nat} {W : List ByteArray} {wv : Value} {i : Nat} {S : List F} {sv : Value} {e : Int} (h : PS w0 w gp W wv i S sv e) {B j : Nat} (hB : w0.heap.size ≤ B) (h1 : B ≠ gp) (h2 : ∀ q, sv.ownBlock = some q → q ≠ B) (v : Value) : PS w0 (w.setCell ⟨B, j, none⟩ v) gp W wv i S sv e :=
  ⟨((Chg.refl [B] w).setCell (by simp) v).heap h.hb (by simpa using Ne.symm h1), h.hw, own_chg h.os ((Chg.refl [B] w).setCell (by simp) v) (fun g hg hm => h2 g hg (by simpa using hm)), h.cg.setCell (.inr hB) v, h.g1, h.le, h.ls, h.wl⟩

/-- What field leaves: x: the word that came. -/
def FieldOut (w0 : World) (gp : Nat) (W : List ByteArray) (wv : Value) (i : Nat) (S : List F) (d : Nat) (f : F) (x : ByteArray) (w' : World) : Prop :=
  ∃ i' sv', W.drop i' = (W.drop i).tail ∧ i ≤ i' ∧ (i < W.length → i < i') ∧ (refN x S.length d = 0 ∧ PS w0 w' gp W wv i' (S ++ [{ f with n := x }]) sv' 0 ∨ refN x S.length d ≠ 0 ∧ PS w0 w' gp W wv i' S sv' (refN x S.length d))

set_option maxRecDepth 100000 in
set_option maxHeartbeats 1000000 in
theorem rfield_ok (f : F) (d : Nat) (w0 w : World) (gp : Nat) (W : List ByteArray) (wv : Value) (i : Nat) (S : List F) (sv : Value) (h : PS w0 w gp W wv i S sv 0) (hn : nameB (bl ((W.drop i).headD ByteArray.empty)) = wnB ((W.drop i).headD ByteArray.empty)) (hx : ((W.drop i).headD ByteArray.empty).size ≤ 4000) (hd : d ≤ 1000) :
    Calls Try.prog 52 #[.pointer (some ⟨gp, 0, none⟩), .agg #[.string f.n, .int .i64 f.r, .int .i64 f.k, .int .i64 f.c], .int .i64 (d : Int)] w fun en w' => en = .returned (.tuple #[]) ∧ FieldOut w0 gp W wv i S d f ((W.drop i).headD ByteArray.empty) w' := by
  obtain ⟨i0, hi, hz0, hz1, hz2⟩ := info_field
  have hls := h.ls
  have hP0 := h.keep ((Chg.refl [] w).alloc (.cells #[.string f.n, .int .i64 f.r, .int .i64 f.k, .int .i64 f.c] 41))
  have hbx : (w.alloc (.cells #[.string f.n, .int .i64 f.r, .int .i64 f.k, .int .i64 f.c] 41)).heap[w.heap.size]? = some (.cells #[.string f.n, .int .i64 f.r, .int .i64 f.k, .int .i64 f.c] 41 (0, 0)) := heap_alloc_new w _
  have HNX := Lib.hid (rnext_ok w0 _ gp W wv i S sv hP0)
  obtain ⟨x, hxx⟩ : ∃ x, x = (W.drop i).headD ByteArray.empty := ⟨_, rfl⟩
  rw [← hxx] at HNX hn hx ⊢
  have HH := Lib.hid h
  have HBX := Lib.hid hbx
  have hgb : gp < w.heap.size := Go.lt_of_block h.hb
  have hsb : ∀ q, sv.ownBlock = some q → q < w.heap.size := fun q hq => (h.os.lt q hq).2
  clear h hP0 hbx hxx
  go_enter Try.func52, Try.ntmps52
  go_wp2_with fail
  (with_reducible refine HNX.out.mono ?_)
  rintro en w1 ⟨rfl, i', hP, hdr, hle, hlt, hcg⟩
  obtain ⟨B, hB⟩ : ∃ B, B = w.heap.size := ⟨_, rfl⟩
  rw [← hB] at HBX hgb hsb ⊢
  have hb1 := hcg.heap HBX.out (by simp; omega)
  have hB0 : w0.heap.size ≤ B := by rw [hB]; exact HH.out.cg.size
  have hfz : w1.frozen? ⟨B, 0, none⟩ = false := by simp [World.frozen?, hb1]
  have hc0 : w1.cell? ⟨B, 0, none⟩ = some (.string f.n) := by simp [World.cell?, hb1]
  have hP2 := hP.far (j := 0) hB0 (by omega) (fun q hq => by have := hsb q hq; omega) (.string x)
  have hb2 := heap_set (i := 0) hb1 (.string x)
  have HDR := Lib.hid hdr; have HLT := Lib.hid hlt
  clear hP hcg hdr hlt hB
  go_upto_region 2 with fail
  generalize w1.setCell ⟨B, 0, none⟩ (.string x) = W2 at hP2 hb2 ⊢
  have hbb : W2.heap[B]? = some (.cells #[.string x, .int .i64 f.r, .int .i64 f.k, .int .i64 f.c] 41 (0, 0)) := hb2
  have d0 : W2.cell? ⟨B, 0, none⟩ = some (.string x) := by simp [World.cell?, hbb]
  have d1 : W2.cell? ⟨B, 1, none⟩ = some (.int .i64 f.r) := by simp [World.cell?, hbb]
  have d2 : W2.cell? ⟨B, 2, none⟩ = some (.int .i64 f.k) := by simp [World.cell?, hbb]
  have d3 : W2.cell? ⟨B, 3, none⟩ = some (.int .i64 f.c) := by simp [World.cell?, hbb]
  have HP2 := Lib.hid hP2; have HBB := Lib.hid hbb
  obtain ⟨c0, c1, c2, c3, hfg⟩ := hP2.cells
  obtain ⟨sa, sc, rfl⟩ := own_shape hP2.os
  clear hb2 hb1 hbb hfz hP2 hc0 HNX
  obtain ⟨ns, hns⟩ : ∃ n, n = S.length := ⟨_, rfl⟩
  rw [← hns] at hls c2 HP2 hsb
  have HNS := Lib.hid hns
  cases hw : wnB x
  · have E := Lib.hid (show refN x ns d = 6 by unfold refN; rw [if_pos hw])
    clear hns
    have HN := Lib.hid (nm_read x hx)
    rw [hn, hw] at HN
    clear hw hn
    have HFL := Lib.hid (rfail_set w0 W2 gp W wv i' S _ 6 HP2.out)
    go_wp2_with fail
    (with_reducible refine (HN.out _).mono ?_)
    rintro en w3 ⟨rfl, rfl⟩
    go_wp2_with fail
    (with_reducible refine HFL.out.mono ?_)
    rintro en w3 ⟨rfl, hP⟩
    have HP := Lib.hid hP
    clear hP
    go_wp2
    refine bodyPost_ret (results_none rfl _ _ _) rfl ?_
    exact ⟨rfl, i', _, HDR.out, hle, HLT.out, .inr ⟨by rw [HNS.out] at E; rw [E.out]; decide, by rw [HNS.out] at E HP; rw [E.out]; exact HP.out⟩⟩
  · have E0 := Lib.hid (show refN x S.length d = if 40 ≤ S.length then 4 else if 8 < d then 11 else 0 by unfold refN; rw [if_neg (by rw [hw]; simp)])
    have HN := Lib.hid (nm_read x hx)
    rw [hn, hw] at HN
    clear hw hn
    rw [← hns] at E0
    clear hns
    have hways : ns = 40 ∨ ns < 40 ∧ 8 < d ∨ ns < 40 ∧ d ≤ 8 := by omega
    rcases hways with h | ⟨h, h'⟩ | ⟨h, h'⟩
    · have d4 : decide ((40 : Int) ≤ (ns : Int)) = true := by simp; omega
      have E := Lib.hid (show refN x ns d = 4 by rw [E0.out, if_pos (by omega)])
      have HFL := Lib.hid (rfail_set w0 W2 gp W wv i' S _ 4 HP2.out)
      clear h
      go_wp2_with fail
      (with_reducible refine (HN.out _).mono ?_)
      rintro en w3 ⟨rfl, rfl⟩
      go_wp2_with fail
      (with_reducible refine HFL.out.mono ?_)
      rintro en w3 ⟨rfl, hP⟩
      have HP := Lib.hid hP
      clear hP
      go_wp2
      refine bodyPost_ret (results_none rfl _ _ _) rfl ?_
      exact ⟨rfl, i', _, HDR.out, hle, HLT.out, .inr ⟨by rw [HNS.out] at E; rw [E.out]; decide, by rw [HNS.out] at E HP; rw [E.out]; exact HP.out⟩⟩
    · have d4 : decide ((40 : Int) ≤ (ns : Int)) = false := by simp; omega
      have d5 : decide ((8 : Int) < (d : Int)) = true := by simp; omega
      have E := Lib.hid (show refN x ns d = 11 by rw [E0.out, if_neg (by omega), if_pos h'])
      have HFL := Lib.hid (rfail_set w0 W2 gp W wv i' S _ 11 HP2.out)
      go_wp2_with fail
      (with_reducible refine (HN.out _).mono ?_)
      rintro en w3 ⟨rfl, rfl⟩
      go_wp2_with fail
      (with_reducible refine HFL.out.mono ?_)
      rintro en w3 ⟨rfl, hP⟩
      have HP := Lib.hid hP
      clear hP
      go_wp2
      refine bodyPost_ret (results_none rfl _ _ _) rfl ?_
      exact ⟨rfl, i', _, HDR.out, hle, HLT.out, .inr ⟨by rw [HNS.out] at E; rw [E.out]; decide, by rw [HNS.out] at E HP; rw [E.out]; exact HP.out⟩⟩
    · have d4 : decide ((40 : Int) ≤ (ns : Int)) = false := by simp; omega
      have d5 : decide ((8 : Int) < (d : Int)) = false := by simp; omega
      have E := Lib.hid (show refN x ns d = 0 by rw [E0.out, if_neg (by omega), if_neg (by omega)])
      go_wp2_with fail
      (with_reducible refine (HN.out _).mono ?_)
      rintro en w3 ⟨rfl, rfl⟩
      go_wp2_with fail
      have HOS := Lib.hid (show W2.ownsRow w0.heap.size 41 4 (.slice sa ns sc) ns (S.flatMap F.cs) by rw [HNS.out]; have := HP2.out.os; rw [HNS.out] at this; exact this)
      have HM1 := Lib.hid (show ns + 1 ≤ maxLen by unfold maxLen; omega)
      have HM2 := Lib.hid (show (ns + 1) * 40 ≤ 140737488355328 by omega)
      have HBZ := Lib.hid (show w0.heap.size ≤ W2.heap.size from HP2.out.cg.size)
      have c2' : ∀ o, (W2.alloc o).cell? ⟨gp, 2, none⟩ = some (.slice sa ns sc) := fun o => ((Chg.refl [] W2).alloc o).cell c2 (by simp)
      have HAPP := Lib.hid (fun (w3 : World) (sv3 : Value) (h1 : w3.ownsRow w0.heap.size 41 4 sv3 (ns + 1) (S.flatMap F.cs ++ F.cs { f with n := x })) (h2 : Chg (Value.slice sa ns sc).ownBlock.toList W2 w3) => HP2.out.app (by rw [← HNS.out]; exact h) (by rw [← HNS.out]; exact h1) h2)
      have HGP := Lib.hid (fun (w3 : World) (h2 : Chg (Value.slice sa ns sc).ownBlock.toList W2 w3) => show w3.heap[gp]? = _ from h2.heap HP2.out.hb (by simp only [Option.mem_toList]; exact HP2.out.sep))
      clear h h' d4 d5
      go_region_law (first
        | (refine step_append_at (by rfl) (.tmp 31) (.tmp 33) 25 (by rfl) w0.heap.size 41 i0 (.agg #[.string ByteArray.empty, .int .i64 0, .int .i64 0, .int .i64 0]) 4 40 Try.underlying25 hi hz0 hz1 hz2 (by rfl) (by decide) (.slice sa ns sc) ns (S.flatMap F.cs) (by rfl) (HOS.out.alloc _) ⟨W2.heap.size, 0, none⟩ 1 1 (F.cs { f with n := x }) (by rfl) (by rfl) (new_cells (C := #[.string x, .int .i64 f.r, .int .i64 f.k, .int .i64 f.c]) W2.heap.size rfl) (F.one _) HM1.out HM2.out (Nat.le_trans HBZ.out ((Chg.refl [] W2).drew.alloc _).size) ?_; intro v3 w3 hown3 hg3 hat3; obtain ⟨va3, vc3, rfl⟩ := own_shape hown3; have hch3 := ((Chg.refl (Value.slice sa ns sc).ownBlock.toList W2).drew.alloc (.cells #[.string x, .int .i64 f.r, .int .i64 f.k, .int .i64 f.c] 41)).grown hg3 (fun g hg => .inl (Option.mem_toList.2 hg)); have hgp3 := HGP.out w3 hch3; have c23 : w3.cell? ⟨gp, 2, none⟩ = some (.slice sa ns sc) := (by simp [World.cell?, hgp3]); have f23 : w3.frozen? ⟨gp, 2, none⟩ = false := (by simp [World.frozen?, hgp3]); have HPF := Lib.hid (HAPP.out w3 _ hown3 hch3); clear hown3 hg3 hat3 hgp3 hch3))
      all_goals
        go_wp2
        go_end0
        exact ⟨rfl, i', _, HDR.out, hle, HLT.out, .inl ⟨by rw [HNS.out] at E; exact E.out, HPF.out⟩⟩

end Go.Proofs.Ytofnpcfclcfgfaa
