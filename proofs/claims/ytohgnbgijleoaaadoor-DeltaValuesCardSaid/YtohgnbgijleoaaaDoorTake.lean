/- Contracts of cursor's Take. -/
import Derived.Test.YtohgnbgijleoaaaDoorPut
namespace Go.Proofs.YtohgnbgijleoaaaDoor
open Go.RowKit
set_option linter.unusedVariables false

section
variable {M : Nat}

/-- A Reader gave its first k bytes, in memory of their own. -/
def Taken (M r k : Nat) (e0 : Int) (zs : List Int) (w : World) (x : Ending) (w' : World) : Prop :=
  ∃ v, x = .returned v ∧ Chg [r] w w' ∧ Rd w' r (zs.drop k) e0 M ∧ w'.ownsRow w.heap.size 5 1 v k (bys (zs.take k))

theorem Reads.front {w : World} {g off cap k : Nat} {zs : List Int} (h : Reads w (.slice (some ⟨g, off, none⟩) zs.length cap) (bys zs)) (hk : k ≤ zs.length) : Reads w (.slice (some ⟨g, off, none⟩) k cap) (bys (zs.take k)) := by
  have := (h.sliced 0 k (Nat.zero_le _) hk).1
  have e : List.drop 0 (List.take k (bys zs)) = bys (zs.take k) := by simp [bys]
  rw [e] at this
  simpa [Go.sliced, Addr.add] using this

set_option maxHeartbeats 1000000 in
theorem rtake_zero (r : Nat) (e0 : Int) (w : World) (zs : List Int) (hz : zs.length ≤ 140737488355328) (h : Rd w r zs e0 M) (n : Int) (hn : n ≤ 0) :
    Calls Tryd.prog 88 #[.pointer (some ⟨r, 0, none⟩), .int .i64 n] w fun x w' => Taken M r 0 e0 zs w x w' := by
  obtain ⟨i0, hi, hz0, hz1, hz2⟩ := info_u8
  have H := Lib.hid h
  obtain ⟨v, h1, h2, h3, h4⟩ := h
  have hone := Lib.hid (bys_one (zs.take 0))
  obtain ⟨c0, c1, f0, f1⟩ := cells2 h1
  have hrlt := Go.lt_of_block h1
  have h20 := h2
  rcases h2 with ⟨rfl, he⟩ | ⟨g, off, cap, rfl, hl, hm, hcell⟩
  · have hz0 : zs = [] := by simpa [bys] using he
    subst hz0
    clear he h20 h3 h4
    have H1 := Lib.hid h1; clear h1
    rcases Int.lt_or_eq_of_le hn with hn | rfl
    · skip
      go_enter Tryd.func88, Tryd.ntmps88
      go_wp2_with fail
      refine (has_yes r _ e0 _ _ hz H.out (by simp)).mono ?_
      rintro x w1 ⟨rfl, rfl⟩
      go_wp2
      go_ret
      exact ⟨_, rfl, (Chg.refl _ _).setCell (by simp) _, Rd.setRest H1.out (Reads.nil _) (tagged_nil _ _) (by simp [Value.ownBlock]), World.ownsRow_nil _ _ _ _⟩
    · skip
      go_enter Tryd.func88, Tryd.ntmps88
      go_wp2_with fail
      refine (has_yes r _ e0 _ _ hz H.out (by simp)).mono ?_
      rintro x w1 ⟨rfl, rfl⟩
      go_wp2
      go_ret
      exact ⟨_, rfl, (Chg.refl _ _).setCell (by simp) _, Rd.setRest H1.out (Reads.nil _) (tagged_nil _ _) (by simp [Value.ownBlock]), World.ownsRow_nil _ _ _ _⟩
  · skip
    rw [bys_length] at c0 hl h20 h3 h4 h1
    have hlm : 0 ≤ maxLen := by unfold maxLen; omega
    have hfr := Lib.hid (Reads.front (k := 0) h20 (by omega)).seen
    clear hcell
    have H1 := Lib.hid h1; clear h1
    have H20 := Lib.hid h20; clear h20
    have H3 := Lib.hid h3; clear h3
    have H4 := Lib.hid h4; clear h4
    have hlen0 : (bys (zs.take 0)).length = 0 := by simp; try omega
    have hlen := Lib.hid hlen0; clear hlen0
    rcases Int.lt_or_eq_of_le hn with hn | rfl
    · skip
      go_enter Tryd.func88, Tryd.ntmps88
      go_wp2_with fail
      refine (has_yes r _ e0 _ _ hz H.out (by omega)).mono ?_
      rintro x w1 ⟨rfl, rfl⟩
      go_wp2_with (at_builtin; refine wpList_append_reads _ rfl _ _ 26 26 rfl w.heap.size 5 5 i0 (.int .u8 0) 1 Tryd.underlying26 Tryd.underlying26 hi hz0 hz1 hz2 rfl _ _ _ rfl (World.ownsRow_nil _ _ _ _) _ (bys (zs.take 0)) rfl hfr.out hone.out ?c1 ?c2 (Nat.le_refl _) ?_)
      case c1 => rw [hlen.out]; omega
      case c2 => rw [hlen.out]; omega
      intro v' w1 hown0 hgrow
      have hown : w1.ownsRow w.heap.size 5 1 v' 0 (bys (zs.take 0)) := by have e := hlen.out; rw [bys_length] at e; simpa [e] using hown0
      clear hown0
      have hc := Lib.hid ((Chg.refl [] w).grown hgrow (by simp [Value.ownBlock]))
      have H11 := Lib.hid (hc.out.heap H1.out (by simp))
      obtain ⟨d0, d1, k0, k1⟩ := cells2 H11.out
      have HO := Lib.hid hown
      have hR := Lib.hid (H20.out.keep hc.out (by simp))
      have hT := Lib.hid (H3.out.keep hc.out (by simp))
      clear hgrow hown
      obtain ⟨ao', cap', hv⟩ := own_shape HO.out
      rw [hv]
      have HV := Lib.hid hv; clear hv
      go_wp2
      go_ret
      rw [← HV.out]
      have hd := Rd.dropped (k := 0) H11.out hR.out hT.out H4.out rfl (by omega)
      refine ⟨v', rfl, ((hc.out.mono (T := [r]) (by simp)).setCell (by simp) _), ?_, Go.ownsRow_setCell_other HO.out (fun e => tagged_ne1 HO.out H11.out (by decide) e) _⟩
      simpa [Go.sliced, Addr.add] using hd
    · skip
      go_enter Tryd.func88, Tryd.ntmps88
      go_wp2_with fail
      refine (has_yes r _ e0 _ _ hz H.out (by omega)).mono ?_
      rintro x w1 ⟨rfl, rfl⟩
      go_wp2_with (at_builtin; refine wpList_append_reads _ rfl _ _ 26 26 rfl w.heap.size 5 5 i0 (.int .u8 0) 1 Tryd.underlying26 Tryd.underlying26 hi hz0 hz1 hz2 rfl _ _ _ rfl (World.ownsRow_nil _ _ _ _) _ (bys (zs.take 0)) rfl hfr.out hone.out ?c1 ?c2 (Nat.le_refl _) ?_)
      case c1 => rw [hlen.out]; omega
      case c2 => rw [hlen.out]; omega
      intro v' w1 hown0 hgrow
      have hown : w1.ownsRow w.heap.size 5 1 v' 0 (bys (zs.take 0)) := by have e := hlen.out; rw [bys_length] at e; simpa [e] using hown0
      clear hown0
      have hc := Lib.hid ((Chg.refl [] w).grown hgrow (by simp [Value.ownBlock]))
      have H11 := Lib.hid (hc.out.heap H1.out (by simp))
      obtain ⟨d0, d1, k0, k1⟩ := cells2 H11.out
      have HO := Lib.hid hown
      have hR := Lib.hid (H20.out.keep hc.out (by simp))
      have hT := Lib.hid (H3.out.keep hc.out (by simp))
      clear hgrow hown
      obtain ⟨ao', cap', hv⟩ := own_shape HO.out
      rw [hv]
      have HV := Lib.hid hv; clear hv
      go_wp2
      go_ret
      rw [← HV.out]
      have hd := Rd.dropped (k := 0) H11.out hR.out hT.out H4.out rfl (by omega)
      refine ⟨v', rfl, ((hc.out.mono (T := [r]) (by simp)).setCell (by simp) _), ?_, Go.ownsRow_setCell_other HO.out (fun e => tagged_ne1 HO.out H11.out (by decide) e) _⟩
      simpa [Go.sliced, Addr.add] using hd

set_option maxHeartbeats 1000000 in
theorem rtake_pos (r : Nat) (e0 : Int) (w : World) (zs : List Int) (hz : zs.length ≤ 140737488355328) (h : Rd w r zs e0 M) (k : Nat) (hk1 : 1 ≤ k) (hn : k ≤ zs.length) :
    Calls Tryd.prog 88 #[.pointer (some ⟨r, 0, none⟩), .int .i64 (k : Int)] w fun x w' => Taken M r k e0 zs w x w' := by
  obtain ⟨i0, hi, hz0, hz1, hz2⟩ := info_u8
  have H := Lib.hid h
  obtain ⟨v, h1, h2, h3, h4⟩ := h
  have hone := Lib.hid (bys_one (zs.take k))
  obtain ⟨c0, c1, f0, f1⟩ := cells2 h1
  have hrlt := Go.lt_of_block h1
  have h20 := h2
  rcases h2 with ⟨rfl, he⟩ | ⟨g, off, cap, rfl, hl, hm, hcell⟩
  · have hz0 : zs = [] := by simpa [bys] using he
    subst hz0
    simp at hn
    omega
  · skip
    rw [bys_length] at c0 hl h20 h3 h4 h1
    have hlm : k ≤ maxLen := by unfold maxLen; omega
    have hfr := Lib.hid (Reads.front (k := k) h20 (by omega)).seen
    clear hcell
    have H1 := Lib.hid h1; clear h1
    have H20 := Lib.hid h20; clear h20
    have H3 := Lib.hid h3; clear h3
    have H4 := Lib.hid h4; clear h4
    have hlen0 : (bys (zs.take k)).length = k := by simp; try omega
    have hlen := Lib.hid hlen0; clear hlen0
    have hk0 : ¬ k = 0 := by omega
    by_cases hcap : cap = k
    · subst hcap
      go_enter Tryd.func88, Tryd.ntmps88
      go_wp2_with fail
      refine (has_yes r _ e0 _ _ hz H.out (by omega)).mono ?_
      rintro x w1 ⟨rfl, rfl⟩
      go_wp2_with (at_builtin; refine wpList_append_reads _ rfl _ _ 26 26 rfl w.heap.size 5 5 i0 (.int .u8 0) 1 Tryd.underlying26 Tryd.underlying26 hi hz0 hz1 hz2 rfl _ _ _ rfl (World.ownsRow_nil _ _ _ _) _ (bys (zs.take cap)) rfl hfr.out hone.out ?c1 ?c2 (Nat.le_refl _) ?_)
      case c1 => rw [hlen.out]; omega
      case c2 => rw [hlen.out]; omega
      intro v' w1 hown0 hgrow
      have hown : w1.ownsRow w.heap.size 5 1 v' cap (bys (zs.take cap)) := by have e := hlen.out; rw [bys_length] at e; simpa [e] using hown0
      clear hown0
      have hc := Lib.hid ((Chg.refl [] w).grown hgrow (by simp [Value.ownBlock]))
      have H11 := Lib.hid (hc.out.heap H1.out (by simp))
      obtain ⟨d0, d1, k0, k1⟩ := cells2 H11.out
      have HO := Lib.hid hown
      have hR := Lib.hid (H20.out.keep hc.out (by simp))
      have hT := Lib.hid (H3.out.keep hc.out (by simp))
      clear hgrow hown
      obtain ⟨ao', cap', hv⟩ := own_shape HO.out
      rw [hv]
      have HV := Lib.hid hv; clear hv
      go_wp2
      go_ret
      rw [← HV.out]
      have hd := Rd.dropped (k := cap) H11.out hR.out hT.out H4.out rfl (by omega)
      refine ⟨v', rfl, ((hc.out.mono (T := [r]) (by simp)).setCell (by simp) _), ?_, Go.ownsRow_setCell_other HO.out (fun e => tagged_ne1 HO.out H11.out (by decide) e) _⟩
      simpa [Go.sliced, (show zs.length - cap = 0 by omega)] using hd
    · have hcap' := Lib.hid hcap
      go_enter Tryd.func88, Tryd.ntmps88
      go_wp2_with fail
      refine (has_yes r _ e0 _ _ hz H.out (by omega)).mono ?_
      rintro x w1 ⟨rfl, rfl⟩
      go_wp2_with (at_builtin; refine wpList_append_reads _ rfl _ _ 26 26 rfl w.heap.size 5 5 i0 (.int .u8 0) 1 Tryd.underlying26 Tryd.underlying26 hi hz0 hz1 hz2 rfl _ _ _ rfl (World.ownsRow_nil _ _ _ _) _ (bys (zs.take k)) rfl hfr.out hone.out ?c1 ?c2 (Nat.le_refl _) ?_)
      case c1 => rw [hlen.out]; omega
      case c2 => rw [hlen.out]; omega
      intro v' w1 hown0 hgrow
      have hown : w1.ownsRow w.heap.size 5 1 v' k (bys (zs.take k)) := by have e := hlen.out; rw [bys_length] at e; simpa [e] using hown0
      clear hown0
      have hc := Lib.hid ((Chg.refl [] w).grown hgrow (by simp [Value.ownBlock]))
      have H11 := Lib.hid (hc.out.heap H1.out (by simp))
      obtain ⟨d0, d1, k0, k1⟩ := cells2 H11.out
      have HO := Lib.hid hown
      have hR := Lib.hid (H20.out.keep hc.out (by simp))
      have hT := Lib.hid (H3.out.keep hc.out (by simp))
      clear hgrow hown
      obtain ⟨ao', cap', hv⟩ := own_shape HO.out
      rw [hv]
      have HV := Lib.hid hv; clear hv
      go_wp2
      go_ret
      rw [← HV.out]
      have hd := Rd.dropped (k := k) H11.out hR.out hT.out H4.out rfl (by omega)
      refine ⟨v', rfl, ((hc.out.mono (T := [r]) (by simp)).setCell (by simp) _), ?_, Go.ownsRow_setCell_other HO.out (fun e => tagged_ne1 HO.out H11.out (by decide) e) _⟩
      simpa [Go.sliced, Addr.add, hcap'.out, hk0] using hd

theorem rtake_any (r k : Nat) (n e0 : Int) (w : World) (zs : List Int) (hz : zs.length ≤ 140737488355328) (h : Rd w r zs e0 M) (hk : max n 0 = (k : Int)) (hn : k ≤ zs.length) :
    Calls Tryd.prog 88 #[.pointer (some ⟨r, 0, none⟩), .int .i64 n] w fun x w' => Taken M r k e0 zs w x w' := by
  rcases Int.lt_or_le 0 n with hp | hp
  · obtain rfl : n = (k : Int) := by omega
    exact rtake_pos r e0 w zs hz h k (by omega) hn
  · obtain rfl : k = 0 := by omega
    exact rtake_zero r e0 w zs hz h n hp

set_option maxHeartbeats 400000 in
theorem take_no (r : Nat) (n e0 : Int) (w : World) (zs : List Int) (hz : zs.length ≤ 140737488355328) (h : Rd w r zs e0 M) (he : e0 ≠ 0 → zs = []) (hn : zs.length < n) :
    Calls Tryd.prog 88 #[.pointer (some ⟨r, 0, none⟩), .int .i64 n] w fun x w' => x = .returned (.slice none 0 0) ∧ Cut r e0 M w w' := by
  have H := Lib.hid h; clear h
  have HE := Lib.hid he; clear he
  have hp : 0 < n := by omega
  go_enter Tryd.func88, Tryd.ntmps88
  go_wp2_with fail
  refine (has_no r n e0 _ _ hz H.out HE.out hn).mono ?_
  rintro x w1 ⟨rfl, g1⟩
  go_wp2
  go_ret
  exact ⟨rfl, g1⟩

end
end Go.Proofs.YtohgnbgijleoaaaDoor
