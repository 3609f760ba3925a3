/- The law's column, and that its rows are its own. -/
import Derived.Test.YtgfjmbjpikcffaaCol17
import Derived.Deep.RegionLaw
import Derived.Deep.DeepCutAuto
namespace Go.Proofs.Ytgfjmbjpikcffaa
open Go.RowKit
set_option linter.unusedVariables false
set_option linter.unusedSimpArgs false

/-- What it answers: the leaf, the column; its rows are nobody else's. -/
def ColOutF (l : List V) (bs : List Bool) (w : World) (e : Ending) (w' : World) : Prop :=
  ∃ rv dv vv, e = .returned (.tuple #[.agg #[.int .i64 0, .int .i64 0, .int .i64 1, .int .i64 0], .agg #[rv, dv, vv]]) ∧ Chg [] w w' ∧ (∀ S wz, Chg S w' wz → (∀ g ∈ S, g < w.heap.size ∨ w'.heap.size ≤ g) → SeenI wz dv (colD17 l bs) ∧ SeenV wz vv (colV17 l bs)) ∧ ∃ ro rc, rv = .slice ro l.length rc

set_option maxRecDepth 100000 in
set_option maxHeartbeats 4000000 in
theorem columnF_any (lv bv : Value) (l : List V) (bs : List Bool) (w : World) (hS : SeenV w lv l) (hB : SeenB w bv bs) (hl : l.length ≤ 1000) :
    Calls Try.prog 11 #[lv, bv] w (ColOutF l bs w) := by
  obtain ⟨lao, lcap, rfl, lc1, lc2⟩ := hS.shape
  obtain ⟨bao, bcap, rfl, bc1, bc2⟩ := hB.shape
  obtain ⟨ii, hii, hiz0, hiz1, hiz2⟩ := info_int
  obtain ⟨iV, hiV, hvz0, hvz1, hvz2⟩ := info_value
  obtain ⟨n, hn⟩ : ∃ n, n = l.length := ⟨_, rfl⟩
  obtain ⟨m, hm⟩ : ∃ m, m = bs.length := ⟨_, rfl⟩
  have HSL := Lib.hid hS; have HSB := Lib.hid hB
  rw [← hn] at HSL lc1
  rw [← hm] at HSB bc1
  have HN := Lib.hid hn; have HM := Lib.hid hm
  have hl' := hl
  rw [← hn] at hl'
  rw [← hn, ← hm]
  have hmx : m ≤ 9223372036854775807 := by unfold maxLen at bc2; omega
  obtain ⟨wb, hwb⟩ : ∃ wb, wb = ((w.alloc (.cells #[.int .i64 0, .int .i64 0, .int .i64 0, .int .i64 0] 28)).alloc (.cells #[.slice none 0 0, .slice none 0 0, .slice none 0 0] 31)).alloc (.cells #[.slice none 0 0, .slice none 0 0, .slice none 0 0] 31) := ⟨_, rfl⟩
  have HJ0 := Lib.hid (show CJ17 l bs w wb 0 from ⟨Nat.zero_le _, by rw [hwb]; exact (((Chg.refl [] w).alloc _).alloc _).alloc _, by rw [hwb]; simp, ⟨_, _, _, by rw [hwb]; exact at32 w _ _ _, Tri.nil _ _⟩, by rw [hwb]; exact at30 w _ _ _, by rw [hwb]; exact at31 w _ _ _⟩)
  have HWB := Lib.hid hwb
  clear hS hB hn hm hwb hl
  go_enter Try.func11, Try.ntmps11
  go_wp2
  rw [← HWB.out]
  go_loopw [7, 8] (fun x y w' => ∃ i : Nat, x = .int .i64 (i : Int) ∧ CJ17 l bs w w' i) (fun x _ _ => n - (intOf x).toNat)
  case atStart => exact ⟨0, rfl, HJ0.out⟩
  case round =>
    obtain ⟨i, rfl, hJ⟩ := hrel
    have HJ := Lib.hid hJ
    have hin : i ≤ n := by rw [HN.out]; exact hJ.hi
    obtain ⟨hi, hcg, hsz, ⟨rv, dv, vv, hc, hT⟩, hb0, hb1⟩ := hJ
    have HC := Lib.hid hcg; have HT := Lib.hid hT; have HCB := Lib.hid hc; have HB0 := Lib.hid hb0; have HB1 := Lib.hid hb1
    clear hcg hT hc hb0 hb1
    by_cases hlt : i < n
    · have d1 : decide ((i : Int) < (n : Int)) = true := by simp; omega
      obtain ⟨v, hv⟩ : ∃ v, l[i]? = some v := ⟨_, List.getElem?_eq_getElem (by rw [← HN.out]; exact hlt)⟩
      obtain ⟨gl, ol, rfl, hget⟩ := SeenV.get HSL.out (by omega)
      have z0 := HC.out.cell (hget i v hv).1 (by simp)
      have z1 := HC.out.cell (hget i v hv).2 (by simp)
      have HSN := Lib.hid (col17_snoc bs hv)
      obtain ⟨ro, rc, rfl⟩ := own_shape HT.out.r
      obtain ⟨dO, dc, rfl⟩ := own_shape HT.out.d
      obtain ⟨vO, vc, rfl⟩ := own_shape HT.out.v
      obtain ⟨kv, hkv⟩ : ∃ k, k = (colV17 (l.take i) bs).length := ⟨_, rfl⟩
      rw [← hkv] at HT HCB
      have HKV := Lib.hid hkv
      have hkl : kv ≤ i := by rw [hkv, colV17_cnt]; have : cntD 1 (colD17 (l.take i) bs) ≤ _ := List.length_filter_le _ _; rw [colD17_len] at this; simp at this; omega
      have e0 : wr.cell? ⟨w.heap.size + 2, 0, none⟩ = some (.slice ro i rc) := by rw [cell_of_row _ _ _ _ _ _ HCB.out]; rfl
      have e1 : wr.cell? ⟨w.heap.size + 2, 1, none⟩ = some (.slice dO i dc) := by rw [cell_of_row _ _ _ _ _ _ HCB.out]; rfl
      have e2 : wr.cell? ⟨w.heap.size + 2, 2, none⟩ = some (.slice vO kv vc) := by rw [cell_of_row _ _ _ _ _ _ HCB.out]; rfl
      have f9 : ∀ k, wr.frozen? ⟨w.heap.size + 2, k, none⟩ = false := fun k => by simp [World.frozen?, HCB.out]
      have f2 := f9 2
      have e2' : (wr.alloc (.cells #[.int .i64 v.n, .string v.s] 35)).cell? ⟨w.heap.size + 2, 2, none⟩ = some (.slice vO kv vc) := ((Chg.refl [] wr).alloc _).cell e2 (by simp)
      have hi0 : (i : Int).toNat = i := by omega
      have hi1 : (0 : Int) ≤ (i : Int) := by omega
      clear hget hkv
      by_cases him : i < m
      · have d2 : decide ((i : Int) < (m : Int)) = true := by simp; omega
        obtain ⟨gb, ob, rfl, hgb⟩ := SeenB.get HSB.out (by omega) HM.out.symm
        have y0 := HC.out.cell (hgb i him) (by simp)
        obtain ⟨b, hb⟩ : ∃ b, b = bs.getD i true := ⟨_, rfl⟩
        rw [← hb] at y0 HSN
        clear hgb hb
        cases b
        · have HD1 := Lib.hid (show colD17 (l.take (i + 1)) bs = colD17 (l.take i) bs ++ [0] by simpa using HSN.out.1)
          have HMID := Lib.hid (show Mid17 l bs w i (.slice ro i rc) (.slice dO i dc) wr from ⟨⟨_, HCB.out, by have hsn : colV17 (l.take (i + 1)) bs = colV17 (l.take i) bs := (by simpa using HSN.out.2); rw [hsn, ← HKV.out]; exact HT.out⟩, HC.out, hsz, HB0.out, HB1.out⟩)
          obtain ⟨wc, rfl⟩ : ∃ wc, wc = wr := ⟨_, rfl⟩
          obtain ⟨⟨vv2, hcb, hT⟩, hcg, hsz2, hb0, hb1⟩ := HMID.out
          have HT0 := Lib.hid hT
          have HR0 := Lib.hid (show Rest17 w (.slice ro i rc) (.slice dO i dc) vv2 wc from ⟨hcg, hsz2, hcb, hb0, hb1⟩)
          have hLD : ∀ W, Chg [] wc W → W.cell? ⟨w.heap.size + 2, 0, none⟩ = some (.slice ro i rc) ∧ W.cell? ⟨w.heap.size + 2, 1, none⟩ = some (.slice dO i dc) := fun W h => (HR0.out.go h (by simp)).cells
          obtain ⟨m00, m01⟩ := hLD (wc) (Chg.refl [] wc)
          obtain ⟨m10, m11⟩ := hLD (wc.alloc (.cells #[.int .i64 0] 3)) ((Chg.refl [] wc).alloc _)
          obtain ⟨m20, m21⟩ := hLD (wc.alloc (.cells #[.int .i64 0] 3)) ((Chg.refl [] wc).alloc _)
          obtain ⟨m30, m31⟩ := hLD ((wc.alloc (.cells #[.int .i64 0] 3)).alloc (.cells #[.int .i64 0] 3)) (((Chg.refl [] wc).alloc _).alloc _)
          obtain ⟨m40, m41⟩ := hLD ((wc.alloc (.cells #[.int .i64 0] 3)).alloc (.cells #[.int .i64 0] 3)) (((Chg.refl [] wc).alloc _).alloc _)
          clear hcb hT hcg hb0 hb1 hLD e0 e1 e2 e2' f2 f9
          go_upto_region 9 with fail
          go_region_law (first
            | (refine step_append_at rfl (.tmp 37) (.tmp 38) 29 rfl (w.heap.size + 3) 3 ii (.int .i64 0) 1 8 Try.underlying29 hii hiz0 hiz1 hiz2 (by rfl) (by decide) (.slice ro i rc) i (iv (List.replicate i 0)) (by rfl) ?own ⟨_, 0, none⟩ 1 1 [.int .i64 0] rfl rfl ?lit ?h0 ?h1 ?h2 ?h3 ?_; (case own => refine (HT0.out.keep (T := []) ?_ (fun _ _ => List.not_mem_nil)).r; (with_reducible repeat (first | exact Chg.refl _ _ | refine Chg.drew ?_ | refine Chg.alloc ?_ _))); (case lit => refine cells_of (T := 3) (C := #[.int .i64 0]) (fr := (0, 0)) ?_; (repeat (first | ((with_reducible apply hl_new); (simp; done)) | (with_reducible apply hl_drew) | (with_reducible apply hl_old)))); (case h0 => simp [Value.oneCell']); (case h1 => unfold maxLen; omega); (case h2 => omega); (case h3 => have hz := HR0.out.sz; first | omega | (simp; omega)); intro v3 wR hown hgrow hat; have hF := fun hc => Tri.growr HT0.out hc hown hgrow hat; have hF2 := fun hc => Rest17.grow2 HR0.out hc HT0.out.r hgrow; have HCW := Lib.hid (chg_at hgrow (W0 := wc) (by (with_reducible repeat (first | exact Chg.refl _ _ | refine Chg.drew ?_ | refine Chg.alloc ?_ _)))); have HTR := Lib.hid (hF HCW.out); have HRR := Lib.hid (hF2 HCW.out); obtain ⟨xro, xrc, rfl⟩ := own_shape hown; have HGR := Lib.hid (grown_far HT0.out.r hgrow); obtain ⟨k0, k1⟩ := HRR.out.cells; obtain ⟨j0, j1⟩ := (HRR.out.go ((Chg.refl [] wR).alloc (.cells #[.int .i64 0] 3)) (by simp)).cells; clear hF hF2 HCW hown hgrow hat)
            | (refine step_append_at rfl (.tmp 41) (.tmp 43) 29 rfl (w.heap.size + 3) 3 ii (.int .i64 0) 1 8 Try.underlying29 hii hiz0 hiz1 hiz2 (by rfl) (by decide) (.slice dO i dc) i (iv (colD17 (l.take i) bs)) (by rfl) ?own ⟨_, 0, none⟩ 1 1 [.int .i64 0] rfl rfl ?lit ?h0 ?h1 ?h2 ?h3 ?_; (case own => refine (HTR.out.keep (T := []) ?_ (fun _ _ => List.not_mem_nil)).d; (with_reducible repeat (first | exact Chg.refl _ _ | refine Chg.drew ?_ | refine Chg.alloc ?_ _))); (case lit => refine cells_of (T := 3) (C := #[.int .i64 0]) (fr := (0, 0)) ?_; first | ((with_reducible apply hl_new); (simp; done)) | ((with_reducible apply hl_drew); (with_reducible apply hl_new); (simp; done)) | ((refine HGR.out _ _ ?_ (by omega)); (repeat (first | ((with_reducible apply hl_new); (simp; done)) | (with_reducible apply hl_drew) | (with_reducible apply hl_old))))); (case h0 => simp [Value.oneCell']); (case h1 => unfold maxLen; omega); (case h2 => omega); (case h3 => have hz := HRR.out.sz; first | omega | (simp; omega)); intro v3 wE hown hgrow hat; have hF := fun hc => Tri.growd HTR.out hc hown hgrow hat; have hF2 := fun hc => Rest17.grow2 HRR.out hc HTR.out.d hgrow; have HCW := Lib.hid (chg_at hgrow (W0 := wR) (by (with_reducible repeat (first | exact Chg.refl _ _ | refine Chg.drew ?_ | refine Chg.alloc ?_ _)))); have HTE := Lib.hid (hF HCW.out); have HRE := Lib.hid (hF2 HCW.out); obtain ⟨xdo, xdc, rfl⟩ := own_shape hown; obtain ⟨k0, k1⟩ := HRE.out.cells; have kf := HRE.out.froz; have kf0 := kf 0; have kf1 := kf 1; clear hF hF2 HCW hown hgrow hat))
          all_goals
            go_wp2
            go_roundw
            case rel => exact ⟨i + 1, by go_num, CJ17.fin HRE.out HTE.out HD1.out (by have := HN.out; omega)⟩
            case measure => simp [intOf]; omega
        · have HD1 := Lib.hid (show colD17 (l.take (i + 1)) bs = colD17 (l.take i) bs ++ [1] by simpa using HSN.out.1)
          go_upto_region 8 with fail
          go_cut [34] (fun s34 wx => Mid17 l bs w i (.slice ro i rc) (.slice dO i dc) wx)
          case first =>
            go_region_law (first
              | (refine step_append_at (by rfl) (.tmp 28) (.tmp 33) 22 (by rfl) (w.heap.size + 3) 35 iV (.agg #[.int .i64 0, .string ByteArray.empty]) 2 24 Try.underlying22 hiV hvz0 hvz1 hvz2 (by rfl) (by decide) (.slice vO kv vc) kv ((colV17 (l.take i) bs).flatMap V.cs) (by rfl) ?own ⟨wr.heap.size, 0, none⟩ 1 1 (V.cs v) (by rfl) (by rfl) ?lit (V.one v) ?h1 ?h2 ?h3 ?_; (case own => exact (HT.out.keep (T := []) (show Chg [] wr (wr.alloc (vo v)).drew from ((Chg.refl _ wr).alloc (vo v)).drew) (by simp)).v); (case lit => exact new_cells (C := #[.int .i64 v.n, .string v.s]) _ rfl); (case h1 => unfold maxLen; omega); (case h2 => omega); (case h3 => simp; omega); intro v3 w3 hown hgrow hat; obtain ⟨v3o, v3c, rfl⟩ := own_shape hown; have HK3 := Lib.hid (show Chg (Value.slice vO kv vc).ownBlock.toList wr w3 from (((Chg.refl _ wr).alloc (vo v)).drew).grown hgrow (fun g hg => .inl (by simp [hg]))); have HT3 := Lib.hid ((HT.out.keep (T := []) (show Chg [] wr (wr.alloc (vo v)).drew from ((Chg.refl _ wr).alloc (vo v)).drew) (by simp)).appv (Vs' := colV17 (l.take i) bs ++ [v]) (by rw [List.flatMap_append]; simpa using hown) ((Chg.refl _ _).grown hgrow (fun g hg => .inl (by simp [hg]))) hat); have kc := HK3.out.heap HCB.out (own_far HT.out.v (by omega)); have kz : w3.cell? ⟨w.heap.size + 2, 2, none⟩ = some (.slice vO kv vc) := (by rw [cell_of_row _ _ _ _ _ _ kc]; rfl); have kf : w3.frozen? ⟨w.heap.size + 2, 2, none⟩ = false := (by simp [World.frozen?, kc]); have KC := Lib.hid kc; clear kc hown hgrow hat))
            all_goals
              try go_wp2
              go_meet
              case rel =>
                have hcc : Chg [w.heap.size + 2] w3 (w3.setCell ⟨w.heap.size + 2, 2, none⟩ (.slice v3o (kv + 1) v3c)) := (Chg.refl _ w3).setCell (.inl (by simp)) _
                have hcw : Chg (Value.slice vO kv vc).ownBlock.toList w (w3.setCell ⟨w.heap.size + 2, 2, none⟩ (.slice v3o (kv + 1) v3c)) := ((HC.out.mono (by simp)).trans HK3.out (fun g hg => .inl hg)).trans hcc (by simp)
                refine ⟨⟨.slice v3o (kv + 1) v3c, heap_set KC.out _, ?_⟩, hcw.mono (fun g hg => .inr (by have := (HT.out.v.lt g (by simpa using hg)).1; omega)), Nat.le_trans hsz (Nat.le_trans HK3.out.size hcc.size), hcc.heap (HK3.out.heap HB0.out (own_far HT.out.v (by omega))) (by simp), hcc.heap (HK3.out.heap HB1.out (own_far HT.out.v (by omega))) (by simp)⟩
                have h3 := HT3.out.keep hcc (fun g hg hm => by
                  have hm' : g = w.heap.size + 2 := by simpa using hm
                  subst hm'
                  rcases hg with hg | hg | hg
                  · have := (HT3.out.r.lt _ hg).1; omega
                  · have := (HT3.out.d.lt _ hg).1; omega
                  · have := (HT3.out.v.lt _ hg).1; omega)
                have hsn : colV17 (l.take (i + 1)) bs = colV17 (l.take i) bs ++ [v] := by simpa using HSN.out.2
                rw [hsn, List.length_append, ← HKV.out]
                exact h3
          case rest =>
            have HMID := Lib.hid hcut
            clear hcut
            obtain ⟨⟨vv2, hcb, hT⟩, hcg, hsz2, hb0, hb1⟩ := HMID.out
            have HT0 := Lib.hid hT
            have HR0 := Lib.hid (show Rest17 w (.slice ro i rc) (.slice dO i dc) vv2 wc from ⟨hcg, hsz2, hcb, hb0, hb1⟩)
            have hLD : ∀ W, Chg [] wc W → W.cell? ⟨w.heap.size + 2, 0, none⟩ = some (.slice ro i rc) ∧ W.cell? ⟨w.heap.size + 2, 1, none⟩ = some (.slice dO i dc) := fun W h => (HR0.out.go h (by simp)).cells
            obtain ⟨m00, m01⟩ := hLD (wc) (Chg.refl [] wc)
            obtain ⟨m10, m11⟩ := hLD (wc.alloc (.cells #[.int .i64 0] 3)) ((Chg.refl [] wc).alloc _)
            obtain ⟨m20, m21⟩ := hLD (wc.alloc (.cells #[.int .i64 1] 3)) ((Chg.refl [] wc).alloc _)
            obtain ⟨m30, m31⟩ := hLD ((wc.alloc (.cells #[.int .i64 0] 3)).alloc (.cells #[.int .i64 1] 3)) (((Chg.refl [] wc).alloc _).alloc _)
            obtain ⟨m40, m41⟩ := hLD ((wc.alloc (.cells #[.int .i64 1] 3)).alloc (.cells #[.int .i64 0] 3)) (((Chg.refl [] wc).alloc _).alloc _)
            clear hcb hT hcg hb0 hb1 hLD e0 e1 e2 e2' f2 f9
            go_upto_region 9 with fail
            go_region_law (first
              | (refine step_append_at rfl (.tmp 37) (.tmp 38) 29 rfl (w.heap.size + 3) 3 ii (.int .i64 0) 1 8 Try.underlying29 hii hiz0 hiz1 hiz2 (by rfl) (by decide) (.slice ro i rc) i (iv (List.replicate i 0)) (by rfl) ?own ⟨_, 0, none⟩ 1 1 [.int .i64 0] rfl rfl ?lit ?h0 ?h1 ?h2 ?h3 ?_; (case own => refine (HT0.out.keep (T := []) ?_ (fun _ _ => List.not_mem_nil)).r; (with_reducible repeat (first | exact Chg.refl _ _ | refine Chg.drew ?_ | refine Chg.alloc ?_ _))); (case lit => refine cells_of (T := 3) (C := #[.int .i64 0]) (fr := (0, 0)) ?_; (repeat (first | ((with_reducible apply hl_new); (simp; done)) | (with_reducible apply hl_drew) | (with_reducible apply hl_old)))); (case h0 => simp [Value.oneCell']); (case h1 => unfold maxLen; omega); (case h2 => omega); (case h3 => have hz := HR0.out.sz; first | omega | (simp; omega)); intro v3 wR hown hgrow hat; have hF := fun hc => Tri.growr HT0.out hc hown hgrow hat; have hF2 := fun hc => Rest17.grow2 HR0.out hc HT0.out.r hgrow; have HCW := Lib.hid (chg_at hgrow (W0 := wc) (by (with_reducible repeat (first | exact Chg.refl _ _ | refine Chg.drew ?_ | refine Chg.alloc ?_ _)))); have HTR := Lib.hid (hF HCW.out); have HRR := Lib.hid (hF2 HCW.out); obtain ⟨xro, xrc, rfl⟩ := own_shape hown; have HGR := Lib.hid (grown_far HT0.out.r hgrow); obtain ⟨k0, k1⟩ := HRR.out.cells; obtain ⟨j0, j1⟩ := (HRR.out.go ((Chg.refl [] wR).alloc (.cells #[.int .i64 1] 3)) (by simp)).cells; clear hF hF2 HCW hown hgrow hat)
              | (refine step_append_at rfl (.tmp 41) (.tmp 43) 29 rfl (w.heap.size + 3) 3 ii (.int .i64 0) 1 8 Try.underlying29 hii hiz0 hiz1 hiz2 (by rfl) (by decide) (.slice dO i dc) i (iv (colD17 (l.take i) bs)) (by rfl) ?own ⟨_, 0, none⟩ 1 1 [.int .i64 1] rfl rfl ?lit ?h0 ?h1 ?h2 ?h3 ?_; (case own => refine (HTR.out.keep (T := []) ?_ (fun _ _ => List.not_mem_nil)).d; (with_reducible repeat (first | exact Chg.refl _ _ | refine Chg.drew ?_ | refine Chg.alloc ?_ _))); (case lit => refine cells_of (T := 3) (C := #[.int .i64 1]) (fr := (0, 0)) ?_; first | ((with_reducible apply hl_new); (simp; done)) | ((with_reducible apply hl_drew); (with_reducible apply hl_new); (simp; done)) | ((refine HGR.out _ _ ?_ (by omega)); (repeat (first | ((with_reducible apply hl_new); (simp; done)) | (with_reducible apply hl_drew) | (with_reducible apply hl_old))))); (case h0 => simp [Value.oneCell']); (case h1 => unfold maxLen; omega); (case h2 => omega); (case h3 => have hz := HRR.out.sz; first | omega | (simp; omega)); intro v3 wE hown hgrow hat; have hF := fun hc => Tri.growd HTR.out hc hown hgrow hat; have hF2 := fun hc => Rest17.grow2 HRR.out hc HTR.out.d hgrow; have HCW := Lib.hid (chg_at hgrow (W0 := wR) (by (with_reducible repeat (first | exact Chg.refl _ _ | refine Chg.drew ?_ | refine Chg.alloc ?_ _)))); have HTE := Lib.hid (hF HCW.out); have HRE := Lib.hid (hF2 HCW.out); obtain ⟨xdo, xdc, rfl⟩ := own_shape hown; obtain ⟨k0, k1⟩ := HRE.out.cells; have kf := HRE.out.froz; have kf0 := kf 0; have kf1 := kf 1; clear hF hF2 HCW hown hgrow hat))
            all_goals
              go_wp2
              go_roundw
              case rel => exact ⟨i + 1, by go_num, CJ17.fin HRE.out HTE.out HD1.out (by have := HN.out; omega)⟩
              case measure => simp [intOf]; omega
      · have d2 : decide ((i : Int) < (m : Int)) = false := by simp; omega
        have hgd : bs.getD i true = true := by rw [List.getD, List.getElem?_eq_none (by rw [← HM.out]; omega)]; rfl
        rw [hgd] at HSN
        clear hgd
        have HD1 := Lib.hid (show colD17 (l.take (i + 1)) bs = colD17 (l.take i) bs ++ [1] by simpa using HSN.out.1)
        go_upto_region 8 with fail
        go_cut [34] (fun s34 wx => Mid17 l bs w i (.slice ro i rc) (.slice dO i dc) wx)
        case first =>
          go_region_law (first
            | (refine step_append_at (by rfl) (.tmp 28) (.tmp 33) 22 (by rfl) (w.heap.size + 3) 35 iV (.agg #[.int .i64 0, .string ByteArray.empty]) 2 24 Try.underlying22 hiV hvz0 hvz1 hvz2 (by rfl) (by decide) (.slice vO kv vc) kv ((colV17 (l.take i) bs).flatMap V.cs) (by rfl) ?own ⟨wr.heap.size, 0, none⟩ 1 1 (V.cs v) (by rfl) (by rfl) ?lit (V.one v) ?h1 ?h2 ?h3 ?_; (case own => exact (HT.out.keep (T := []) (show Chg [] wr (wr.alloc (vo v)).drew from ((Chg.refl _ wr).alloc (vo v)).drew) (by simp)).v); (case lit => exact new_cells (C := #[.int .i64 v.n, .string v.s]) _ rfl); (case h1 => unfold maxLen; omega); (case h2 => omega); (case h3 => simp; omega); intro v3 w3 hown hgrow hat; obtain ⟨v3o, v3c, rfl⟩ := own_shape hown; have HK3 := Lib.hid (show Chg (Value.slice vO kv vc).ownBlock.toList wr w3 from (((Chg.refl _ wr).alloc (vo v)).drew).grown hgrow (fun g hg => .inl (by simp [hg]))); have HT3 := Lib.hid ((HT.out.keep (T := []) (show Chg [] wr (wr.alloc (vo v)).drew from ((Chg.refl _ wr).alloc (vo v)).drew) (by simp)).appv (Vs' := colV17 (l.take i) bs ++ [v]) (by rw [List.flatMap_append]; simpa using hown) ((Chg.refl _ _).grown hgrow (fun g hg => .inl (by simp [hg]))) hat); have kc := HK3.out.heap HCB.out (own_far HT.out.v (by omega)); have kz : w3.cell? ⟨w.heap.size + 2, 2, none⟩ = some (.slice vO kv vc) := (by rw [cell_of_row _ _ _ _ _ _ kc]; rfl); have kf : w3.frozen? ⟨w.heap.size + 2, 2, none⟩ = false := (by simp [World.frozen?, kc]); have KC := Lib.hid kc; clear kc hown hgrow hat))
          all_goals
            try go_wp2
            go_meet
            case rel =>
              have hcc : Chg [w.heap.size + 2] w3 (w3.setCell ⟨w.heap.size + 2, 2, none⟩ (.slice v3o (kv + 1) v3c)) := (Chg.refl _ w3).setCell (.inl (by simp)) _
              have hcw : Chg (Value.slice vO kv vc).ownBlock.toList w (w3.setCell ⟨w.heap.size + 2, 2, none⟩ (.slice v3o (kv + 1) v3c)) := ((HC.out.mono (by simp)).trans HK3.out (fun g hg => .inl hg)).trans hcc (by simp)
              refine ⟨⟨.slice v3o (kv + 1) v3c, heap_set KC.out _, ?_⟩, hcw.mono (fun g hg => .inr (by have := (HT.out.v.lt g (by simpa using hg)).1; omega)), Nat.le_trans hsz (Nat.le_trans HK3.out.size hcc.size), hcc.heap (HK3.out.heap HB0.out (own_far HT.out.v (by omega))) (by simp), hcc.heap (HK3.out.heap HB1.out (own_far HT.out.v (by omega))) (by simp)⟩
              have h3 := HT3.out.keep hcc (fun g hg hm => by
                have hm' : g = w.heap.size + 2 := by simpa using hm
                subst hm'
                rcases hg with hg | hg | hg
                · have := (HT3.out.r.lt _ hg).1; omega
                · have := (HT3.out.d.lt _ hg).1; omega
                · have := (HT3.out.v.lt _ hg).1; omega)
              have hsn : colV17 (l.take (i + 1)) bs = colV17 (l.take i) bs ++ [v] := by simpa using HSN.out.2
              rw [hsn, List.length_append, ← HKV.out]
              exact h3
        case rest =>
          have HMID := Lib.hid hcut
          clear hcut
          obtain ⟨⟨vv2, hcb, hT⟩, hcg, hsz2, hb0, hb1⟩ := HMID.out
          have HT0 := Lib.hid hT
          have HR0 := Lib.hid (show Rest17 w (.slice ro i rc) (.slice dO i dc) vv2 wc from ⟨hcg, hsz2, hcb, hb0, hb1⟩)
          have hLD : ∀ W, Chg [] wc W → W.cell? ⟨w.heap.size + 2, 0, none⟩ = some (.slice ro i rc) ∧ W.cell? ⟨w.heap.size + 2, 1, none⟩ = some (.slice dO i dc) := fun W h => (HR0.out.go h (by simp)).cells
          obtain ⟨m00, m01⟩ := hLD (wc) (Chg.refl [] wc)
          obtain ⟨m10, m11⟩ := hLD (wc.alloc (.cells #[.int .i64 0] 3)) ((Chg.refl [] wc).alloc _)
          obtain ⟨m20, m21⟩ := hLD (wc.alloc (.cells #[.int .i64 1] 3)) ((Chg.refl [] wc).alloc _)
          obtain ⟨m30, m31⟩ := hLD ((wc.alloc (.cells #[.int .i64 0] 3)).alloc (.cells #[.int .i64 1] 3)) (((Chg.refl [] wc).alloc _).alloc _)
          obtain ⟨m40, m41⟩ := hLD ((wc.alloc (.cells #[.int .i64 1] 3)).alloc (.cells #[.int .i64 0] 3)) (((Chg.refl [] wc).alloc _).alloc _)
          clear hcb hT hcg hb0 hb1 hLD e0 e1 e2 e2' f2 f9
          go_upto_region 9 with fail
          go_region_law (first
            | (refine step_append_at rfl (.tmp 37) (.tmp 38) 29 rfl (w.heap.size + 3) 3 ii (.int .i64 0) 1 8 Try.underlying29 hii hiz0 hiz1 hiz2 (by rfl) (by decide) (.slice ro i rc) i (iv (List.replicate i 0)) (by rfl) ?own ⟨_, 0, none⟩ 1 1 [.int .i64 0] rfl rfl ?lit ?h0 ?h1 ?h2 ?h3 ?_; (case own => refine (HT0.out.keep (T := []) ?_ (fun _ _ => List.not_mem_nil)).r; (with_reducible repeat (first | exact Chg.refl _ _ | refine Chg.drew ?_ | refine Chg.alloc ?_ _))); (case lit => refine cells_of (T := 3) (C := #[.int .i64 0]) (fr := (0, 0)) ?_; (repeat (first | ((with_reducible apply hl_new); (simp; done)) | (with_reducible apply hl_drew) | (with_reducible apply hl_old)))); (case h0 => simp [Value.oneCell']); (case h1 => unfold maxLen; omega); (case h2 => omega); (case h3 => have hz := HR0.out.sz; first | omega | (simp; omega)); intro v3 wR hown hgrow hat; have hF := fun hc => Tri.growr HT0.out hc hown hgrow hat; have hF2 := fun hc => Rest17.grow2 HR0.out hc HT0.out.r hgrow; have HCW := Lib.hid (chg_at hgrow (W0 := wc) (by (with_reducible repeat (first | exact Chg.refl _ _ | refine Chg.drew ?_ | refine Chg.alloc ?_ _)))); have HTR := Lib.hid (hF HCW.out); have HRR := Lib.hid (hF2 HCW.out); obtain ⟨xro, xrc, rfl⟩ := own_shape hown; have HGR := Lib.hid (grown_far HT0.out.r hgrow); obtain ⟨k0, k1⟩ := HRR.out.cells; obtain ⟨j0, j1⟩ := (HRR.out.go ((Chg.refl [] wR).alloc (.cells #[.int .i64 1] 3)) (by simp)).cells; clear hF hF2 HCW hown hgrow hat)
            | (refine step_append_at rfl (.tmp 41) (.tmp 43) 29 rfl (w.heap.size + 3) 3 ii (.int .i64 0) 1 8 Try.underlying29 hii hiz0 hiz1 hiz2 (by rfl) (by decide) (.slice dO i dc) i (iv (colD17 (l.take i) bs)) (by rfl) ?own ⟨_, 0, none⟩ 1 1 [.int .i64 1] rfl rfl ?lit ?h0 ?h1 ?h2 ?h3 ?_; (case own => refine (HTR.out.keep (T := []) ?_ (fun _ _ => List.not_mem_nil)).d; (with_reducible repeat (first | exact Chg.refl _ _ | refine Chg.drew ?_ | refine Chg.alloc ?_ _))); (case lit => refine cells_of (T := 3) (C := #[.int .i64 1]) (fr := (0, 0)) ?_; first | ((with_reducible apply hl_new); (simp; done)) | ((with_reducible apply hl_drew); (with_reducible apply hl_new); (simp; done)) | ((refine HGR.out _ _ ?_ (by omega)); (repeat (first | ((with_reducible apply hl_new); (simp; done)) | (with_reducible apply hl_drew) | (with_reducible apply hl_old))))); (case h0 => simp [Value.oneCell']); (case h1 => unfold maxLen; omega); (case h2 => omega); (case h3 => have hz := HRR.out.sz; first | omega | (simp; omega)); intro v3 wE hown hgrow hat; have hF := fun hc => Tri.growd HTR.out hc hown hgrow hat; have hF2 := fun hc => Rest17.grow2 HRR.out hc HTR.out.d hgrow; have HCW := Lib.hid (chg_at hgrow (W0 := wR) (by (with_reducible repeat (first | exact Chg.refl _ _ | refine Chg.drew ?_ | refine Chg.alloc ?_ _)))); have HTE := Lib.hid (hF HCW.out); have HRE := Lib.hid (hF2 HCW.out); obtain ⟨xdo, xdc, rfl⟩ := own_shape hown; obtain ⟨k0, k1⟩ := HRE.out.cells; have kf := HRE.out.froz; have kf0 := kf 0; have kf1 := kf 1; clear hF hF2 HCW hown hgrow hat))
          all_goals
            go_wp2
            go_roundw
            case rel => exact ⟨i + 1, by go_num, CJ17.fin HRE.out HTE.out HD1.out (by have := HN.out; omega)⟩
            case measure => simp [intOf]; omega
    · have d1 : decide ((i : Int) < (n : Int)) = false := by simp; omega
      have HE := Lib.hid (show l.take i = l from List.take_of_length_le (by have := HN.out; omega))
      have HIL := Lib.hid (show i = n by omega)
      have X0 := HB0.out
      have X1 := HB1.out
      have X2 := HCB.out
      obtain ⟨ro, rc, rfl⟩ := own_shape HT.out.r
      obtain ⟨dO, dc, rfl⟩ := own_shape HT.out.d
      obtain ⟨vO, vc, rfl⟩ := own_shape HT.out.v
      obtain ⟨kv, hkv⟩ : ∃ k, k = (colV17 (l.take i) bs).length := ⟨_, rfl⟩
      rw [← hkv] at HT HCB X2
      have HKV := Lib.hid hkv
      clear hkv
      have p0 : wr.cell? ⟨w.heap.size, 0, none⟩ = some (.int .i64 0) := by rw [cell_of_row _ _ _ _ _ _ X0]; rfl
      have p1 : wr.cell? ⟨w.heap.size, 1, none⟩ = some (.int .i64 0) := by rw [cell_of_row _ _ _ _ _ _ X0]; rfl
      have p2 : wr.cell? ⟨w.heap.size, 2, none⟩ = some (.int .i64 0) := by rw [cell_of_row _ _ _ _ _ _ X0]; rfl
      have p3 : wr.cell? ⟨w.heap.size, 3, none⟩ = some (.int .i64 0) := by rw [cell_of_row _ _ _ _ _ _ X0]; rfl
      have q0 : wr.cell? ⟨w.heap.size + 1, 0, none⟩ = some (.slice none 0 0) := by rw [cell_of_row _ _ _ _ _ _ X1]; rfl
      have q1 : wr.cell? ⟨w.heap.size + 1, 1, none⟩ = some (.slice none 0 0) := by rw [cell_of_row _ _ _ _ _ _ X1]; rfl
      have q2 : wr.cell? ⟨w.heap.size + 1, 2, none⟩ = some (.slice none 0 0) := by rw [cell_of_row _ _ _ _ _ _ X1]; rfl
      have r0 : wr.cell? ⟨w.heap.size + 2, 0, none⟩ = some (.slice ro i rc) := by rw [cell_of_row _ _ _ _ _ _ X2]; rfl
      have r1 : wr.cell? ⟨w.heap.size + 2, 1, none⟩ = some (.slice dO i dc) := by rw [cell_of_row _ _ _ _ _ _ X2]; rfl
      have r2 : wr.cell? ⟨w.heap.size + 2, 2, none⟩ = some (.slice vO kv vc) := by rw [cell_of_row _ _ _ _ _ _ X2]; rfl
      have fp : ∀ k, wr.frozen? ⟨w.heap.size, k, none⟩ = false := fun k => by simp [World.frozen?, X0]
      have fq : ∀ k, wr.frozen? ⟨w.heap.size + 1, k, none⟩ = false := fun k => by simp [World.frozen?, X1]
      have fp0 := fp 0; have fp1 := fp 1; have fp2 := fp 2; have fp3 := fp 3
      have fq0 := fq 0; have fq1 := fq 1; have fq2 := fq 2
      have HY := Lib.hid (⟨X0, X1, X2⟩ : _ ∧ _ ∧ _)
      clear X0 X1 X2 fp fq
      go_upto_region 10 with fail
      go_region
      obtain ⟨X0, X1, X2⟩ := HY.out
      have hcc : Chg [w.heap.size, w.heap.size + 1] wr (((((((wr.setCell ⟨w.heap.size, 0, none⟩ (.int .i64 0)).setCell ⟨w.heap.size, 1, none⟩ (.int .i64 0)).setCell ⟨w.heap.size, 2, none⟩ (.int .i64 1)).setCell ⟨w.heap.size, 3, none⟩ (.int .i64 0)).setCell ⟨w.heap.size + 1, 0, none⟩ (.slice ro i rc)).setCell ⟨w.heap.size + 1, 1, none⟩ (.slice dO i dc)).setCell ⟨w.heap.size + 1, 2, none⟩ (.slice vO kv vc)) := (((((((Chg.refl _ wr).setCell (.inl (by simp)) _).setCell (.inl (by simp)) _).setCell (.inl (by simp)) _).setCell (.inl (by simp)) _).setCell (.inl (by simp)) _).setCell (.inl (by simp)) _).setCell (.inl (by simp)) _
      have ha : (((((((wr.setCell ⟨w.heap.size, 0, none⟩ (.int .i64 0)).setCell ⟨w.heap.size, 1, none⟩ (.int .i64 0)).setCell ⟨w.heap.size, 2, none⟩ (.int .i64 1)).setCell ⟨w.heap.size, 3, none⟩ (.int .i64 0)).setCell ⟨w.heap.size + 1, 0, none⟩ (.slice ro i rc)).setCell ⟨w.heap.size + 1, 1, none⟩ (.slice dO i dc)).setCell ⟨w.heap.size + 1, 2, none⟩ (.slice vO kv vc)).heap[w.heap.size]? = some (.cells #[.int .i64 0, .int .i64 0, .int .i64 1, .int .i64 0] 28 (0, 0)) := other1 (other2 (heap_set (i := 3) (heap_set (i := 2) (heap_set (i := 1) (heap_set (i := 0) X0 _) _) _) _) (by simp)) (by simp)
      have hb : (((((((wr.setCell ⟨w.heap.size, 0, none⟩ (.int .i64 0)).setCell ⟨w.heap.size, 1, none⟩ (.int .i64 0)).setCell ⟨w.heap.size, 2, none⟩ (.int .i64 1)).setCell ⟨w.heap.size, 3, none⟩ (.int .i64 0)).setCell ⟨w.heap.size + 1, 0, none⟩ (.slice ro i rc)).setCell ⟨w.heap.size + 1, 1, none⟩ (.slice dO i dc)).setCell ⟨w.heap.size + 1, 2, none⟩ (.slice vO kv vc)).heap[w.heap.size + 1]? = some (.cells #[.slice ro i rc, .slice dO i dc, .slice vO kv vc] 31 (0, 0)) := heap_set (i := 2) (heap_set (i := 1) (heap_set (i := 0) (other2 (other2 X1 (by simp)) (by simp)) _) _) _
      have HF := Lib.hid (⟨hcc, ha, hb⟩ : _ ∧ _ ∧ _)
      clear hcc ha hb
      generalize ((((((wr.setCell ⟨w.heap.size, 0, none⟩ (.int .i64 0)).setCell ⟨w.heap.size, 1, none⟩ (.int .i64 0)).setCell ⟨w.heap.size, 2, none⟩ (.int .i64 1)).setCell ⟨w.heap.size, 3, none⟩ (.int .i64 0)).setCell ⟨w.heap.size + 1, 0, none⟩ (.slice ro i rc)).setCell ⟨w.heap.size + 1, 1, none⟩ (.slice dO i dc)).setCell ⟨w.heap.size + 1, 2, none⟩ (.slice vO kv vc) = wz at HF ⊢
      obtain ⟨hcc, ha, hb⟩ := HF.out
      have hT := HT.out.keep hcc (fun g hg hm => by
        have hm' : g = w.heap.size ∨ g = w.heap.size + 1 := by simpa using hm
        have : w.heap.size + 3 ≤ g := by
          rcases hg with hg | hg | hg
          · exact (HT.out.r.lt _ hg).1
          · exact (HT.out.d.lt _ hg).1
          · exact (HT.out.v.lt _ hg).1
        omega)
      rw [HE.out] at hT
      have hkv := HKV.out
      rw [HE.out] at hkv
      have hfar : ∀ S wy, Chg S wz wy → (∀ g ∈ S, g < w.heap.size ∨ wz.heap.size ≤ g) → SeenI wy (.slice dO i dc) (colD17 l bs) ∧ SeenV wy (.slice vO kv vc) (colV17 l bs) := fun S wy hy hS => by
        have h2 := hT.keep hy (fun g hg hm => by
          have h3 : w.heap.size + 3 ≤ g ∧ g < wz.heap.size := by
            rcases hg with hg | hg | hg
            · exact hT.r.lt _ hg
            · exact hT.d.lt _ hg
            · exact hT.v.lt _ hg
          have := hS g hm
          omega)
        exact ⟨own_seenI17 h2.d (by rw [colD17_len, ← HN.out, HIL.out]), SeenK.own V.cs_len h2.v hkv.symm⟩
      have HFIN := Lib.hid (⟨HC.out.trans hcc (by simp), hfar, ha, hb⟩ : _ ∧ _ ∧ _ ∧ _)
      clear hcc ha hb hT hfar hkv X0 X1 X2
      go_wp2
      refine ret_lc rfl rfl rfl rfl HFIN.out.2.2.1 HFIN.out.2.2.2 ⟨_, _, _, rfl, HFIN.out.1.drew, fun S wy hy hS => HFIN.out.2.1 S wy (((Chg.refl S _).drew).trans hy (fun t ht => .inl ht)) hS, ro, rc, by rw [HIL.out, HN.out]⟩

end Go.Proofs.Ytgfjmbjpikcffaa
