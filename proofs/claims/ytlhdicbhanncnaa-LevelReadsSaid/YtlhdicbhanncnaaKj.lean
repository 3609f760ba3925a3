/- level's decoder: run. -/
import Derived.Test.YtlhdicbhanncnaaLo
import Derived.Test.YtlhdicbhanncnaaKf
namespace Go.Proofs.Ytlhdicbhanncnaa
open Go.RowKit
set_option linter.unusedVariables false
set_option linter.unusedSimpArgs false

/-- A run of c, where k are left to be read. -/
def runL (w k c : Nat) (r : List Nat) : Nat × List Nat × List Nat :=
  if c = 0 ∨ k < c then (10, [], [])
  else if r.length < (w + 7) / 8 then (8, [], [])
  else if 2 ^ w ≤ nm (r.take ((w + 7) / 8)) then (10, [], [])
  else (0, List.replicate c (nm (r.take ((w + 7) / 8))), r.drop ((w + 7) / 8))

/-- g groups, where k are left to be read. -/
def grpL (w k g : Nat) (r : List Nat) : Nat × List Nat × List Nat :=
  if g = 0 ∨ (k + 7) / 8 < g then (10, [], [])
  else if r.length < g * w then (8, [], [])
  else if ((unpacked (r.take (g * w)) (g * 8) w).drop k).any (fun x => x != 0) = true then (10, [], [])
  else (0, (unpacked (r.take (g * w)) (g * 8) w).take k, r.drop (g * w))

theorem partL_eq (w k : Nat) (b : List Nat) : partL w k b = if (gl 0 b).2 ≠ 0 then ((gl 0 b).2, [], []) else if gv b % 2 = 0 then runL w k (gv b / 2) (b.drop (gl 0 b).1) else grpL w k (gv b / 2) (b.drop (gl 0 b).1) := rfl

/-- What a part answers. -/
def PartOut (w0 : World) (d width n : Nat) (l : List Nat) (x : Nat × List Nat × List Nat) (e : Ending) (w' : World) : Prop :=
  e = .returned (.int .i64 (x.1 : Int)) ∧ Chg [] w0 w' ∧ (x.1 = 0 → ∃ bv lv, DS w0 w' d width n bv lv x.2.2 (l ++ x.2.1))

set_option maxRecDepth 100000 in
set_option maxHeartbeats 2000000 in
theorem drun_any {w0 w : World} {d width n : Nat} {bv lv : Value} {b l : List Nat} (c : Nat) (hw1 : 1 ≤ width) (hc : c ≤ 9223372036854775807) (h : DS w0 w d width n bv lv b l) :
    Calls Try.prog 37 #[.pointer (some ⟨d, 0, none⟩), .int .i64 (c : Int)] w (PartOut w0 d width n l (runL width (n - l.length) c b)) := by
  have H := Lib.hid h
  have hwl := h.wl
  have hnl := h.nl
  have hll := h.ll
  have HLK := Lib.hid (lack_any h)
  obtain ⟨k, hk⟩ : ∃ k, k = n - l.length := ⟨_, rfl⟩
  rw [← hk] at HLK ⊢
  have HK := Lib.hid hk
  have hk4 : k ≤ 4000 := by omega
  clear h hk
  by_cases h0 : c = 0
  · subst h0
    have E := Lib.hid (show runL width k 0 b = (10, [], []) by unfold runL; rw [if_pos (.inl rfl)])
    have hb : ((0 : Int) == 0) = true := rfl
    go_enter Try.func37, Try.ntmps37
    go_wp2
    go_ret
    rw [E.out]
    exact ⟨rfl, H.out.c0, fun h => absurd h (by decide)⟩
  have hb : ((c : Int) == 0) = false := by simp; omega
  by_cases hck : k < c
  · have E := Lib.hid (show runL width k c b = (10, [], []) by unfold runL; rw [if_pos (.inr hck)])
    have hd : decide (k < c) = true := by simpa using hck
    clear h0
    go_enter Try.func37, Try.ntmps37
    go_wp2_with fail
    refine HLK.out.mono ?_
    rintro e w1 ⟨rfl, q, rfl⟩
    go_wp2
    go_ret
    rw [E.out]
    exact ⟨rfl, H.out.c0.drewN q, fun h => absurd h (by decide)⟩
  have hd : decide (k < c) = false := by simpa using hck
  have H1 := Lib.hid (fun q => H.out.keep ((Chg.refl [] w).drewN q))
  obtain ⟨s, hs⟩ : ∃ s, s = (width + 7) / 8 := ⟨_, rfl⟩
  have hs1 : 1 ≤ s := by omega
  have hs2 : s ≤ 2 := by omega
  have HE := Lib.hid (show runL width k c b = if b.length < s then (8, [], []) else if 2 ^ width ≤ nm (b.take s) then (10, [], []) else (0, List.replicate c (nm (b.take s)), b.drop s) by
    unfold runL; rw [if_neg (by omega), hs])
  have HS := Lib.hid hs
  clear hs
  by_cases hcut : b.length < s
  · have htl : (b.take s).length = b.length := by rw [List.length_take]; omega
    have E := Lib.hid (show runL width k c b = (8, [], []) by rw [HE.out, if_pos hcut])
    go_enter Try.func37, Try.ntmps37
    go_wp2_with fail
    refine HLK.out.mono ?_
    rintro e w1 ⟨rfl, q, rfl⟩
    have hD1 := H1.out q
    obtain ⟨-, c1, -, -⟩ := hD1.cells
    have HT := Lib.hid (take10_any s (by omega) hD1)
    obtain ⟨wq, hwq⟩ : ∃ wq, wq = w.drewN q := ⟨_, rfl⟩
    rw [← hwq] at c1 HT ⊢
    clear hD1 hwq
    go_wp2_with fail
    refine (whole_any width wq (by omega)).mono ?_
    rintro e w2 ⟨rfl, rfl⟩
    rw [← HS.out]
    clear c1
    go_wp2_with fail
    refine HT.out.mono ?_
    rintro e w3 ⟨fo, fc, p, bv', hp, rfl, hfs, hD3, hc3⟩
    have HP := Lib.hid hp
    have HD3 := Lib.hid hD3
    have hn := new_any (.slice fo p fc) (zi (b.take s)) w3 (by rw [zi_length, htl]; omega) (by rw [bys_zi]; exact hfs.keep hD3.c0)
    have HN := Lib.hid hn
    clear hp hfs hD3 hc3 hn
    go_wp2_with fail
    refine HN.out.mono ?_
    rintro e w4 ⟨gr, rfl, hc4, hg4, hr4⟩
    have HG := Lib.hid (get_no gr (s : Int) 0 w4 (zi (b.take s)) (by rw [zi_length, htl]; omega) hr4 (fun h => absurd rfl h) (by rw [zi_length, htl]; unfold widthOf; rw [if_neg (by omega)]; omega))
    have HC4 := Lib.hid hc4; have HG4 := Lib.hid hg4
    clear hc4 hg4 hr4
    go_wp2_with fail
    refine HG.out.mono ?_
    rintro e w5 ⟨rfl, hc5, hr5⟩
    have HEN := Lib.hid (end_any gr [] 8 w5 (by simp) hr5)
    have HC5 := Lib.hid ((HD3.out.c0.trans HC4.out (by simp)).trans hc5 (fun t ht => .inr (by simp at ht; have h1 := HG4.out; have h2 := HD3.out.c0.size; omega)))
    clear hc5 hr5
    go_wp2_with fail
    refine HEN.out.mono ?_
    rintro e w6 ⟨rfl, rfl⟩
    rw [if_pos trivial]
    have hb8 : ((8 : Int) != 0) = true := rfl
    go_wp2
    go_ret
    rw [E.out]
    exact ⟨rfl, HC5.out, fun h => absurd h (by decide)⟩
  have htl : (b.take s).length = s := by rw [List.length_take]; omega
  have hbb : ∀ x ∈ b.take s, x < 256 := fun x hx => H.out.by' x (List.mem_of_mem_take hx)
  obtain ⟨v, hv⟩ : ∃ v, v = nm (b.take s) := ⟨_, rfl⟩
  have hv6 : v < 65536 := by
    have h1 := nm_lt8 hbb
    rw [htl, ← hv] at h1
    have : 256 ^ s ≤ 256 ^ 2 := Nat.pow_le_pow_right (by decide) hs2
    omega
  have HV := Lib.hid hv
  have HE2 := Lib.hid (show runL width k c b = if 2 ^ width ≤ v then (10, [], []) else (0, List.replicate c v, b.drop s) by rw [HE.out, if_neg hcut, hv])
  have HTL := Lib.hid htl; have HBB := Lib.hid hbb
  clear hv htl hbb
  go_enter Try.func37, Try.ntmps37
  go_wp2_with fail
  refine HLK.out.mono ?_
  rintro e w1 ⟨rfl, q, rfl⟩
  have hD1 := H1.out q
  obtain ⟨-, c1, -, -⟩ := hD1.cells
  have HT := Lib.hid (take10_any s (by omega) hD1)
  obtain ⟨wq, hwq⟩ : ∃ wq, wq = w.drewN q := ⟨_, rfl⟩
  rw [← hwq] at c1 HT ⊢
  clear hD1 hwq
  go_wp2_with fail
  refine (whole_any width wq (by omega)).mono ?_
  rintro e w2 ⟨rfl, rfl⟩
  rw [← HS.out]
  clear c1
  go_wp2_with fail
  refine HT.out.mono ?_
  rintro e w3 ⟨fo, fc, p, bv', hp, rfl, hfs, hD3, hc3⟩
  have HP := Lib.hid hp
  have HD3 := Lib.hid hD3
  have hn := new_any (.slice fo p fc) (zi (b.take s)) w3 (by rw [zi_length, HTL.out]; omega) (by rw [bys_zi]; exact hfs.keep hD3.c0)
  have HN := Lib.hid hn
  clear hp hfs hD3 hc3 hn
  go_wp2_with fail
  refine HN.out.mono ?_
  rintro e w4 ⟨gr, rfl, hc4, hg4, hr4⟩
  have HG := Lib.hid (get_yes gr (s : Int) 0 s w4 (zi (b.take s)) (by rw [zi_length, HTL.out]; omega) (zi_wf HBB.out) hr4 (by unfold widthOf; rw [if_neg (by omega)]) (by rw [zi_length, HTL.out]; exact Nat.le_refl _))
  have HC4 := Lib.hid hc4; have HG4 := Lib.hid hg4
  clear hc4 hg4 hr4
  go_wp2_with fail
  refine HG.out.mono ?_
  rintro e w5 ⟨rfl, hc5, hr5⟩
  rw [zi_take, List.take_of_length_le (by rw [HTL.out]; exact Nat.le_refl _), num_zi, ← HV.out]
  rw [zi_drop, List.drop_eq_nil_of_le (by rw [HTL.out]; exact Nat.le_refl _)] at hr5
  have HEN := Lib.hid (end_any gr (zi []) 0 w5 (by simp) hr5)
  have hc35 : Chg [] w3 w5 := HC4.out.trans hc5 (fun t ht => .inr (by simp at ht; have h1 := HG4.out; omega))
  have HD5 := Lib.hid (HD3.out.keep hc35)
  clear hc5 hr5 hc35
  go_wp2_with fail
  refine HEN.out.mono ?_
  rintro e w6 ⟨rfl, rfl⟩
  first | rw [if_pos trivial] | rw [if_pos (show zi [] = [] from rfl)]
  have hb8 : ((0 : Int) != 0) = false := rfl
  obtain ⟨-, c1, -, -⟩ := HD5.out.cells
  have HBW := Lib.hid (show ∀ wx, Calls Try.prog 39 #[.int .u64 (v : Int)] wx fun e w' => e = .returned (.int .i64 (blen v : Nat)) ∧ w' = wx from fun wx => (bwidth_any v wx (by omega)).mono fun e w' h => ⟨h.1, h.2.symm⟩)
  obtain ⟨z, hz⟩ : ∃ z, z = blen v := ⟨_, rfl⟩
  rw [← hz] at HBW
  by_cases hbig : 2 ^ width ≤ v
  · have hdz : decide (width < z) = true := by rw [hz]; simpa using blen_gt v width hbig (by omega)
    have E := Lib.hid (show runL width k c b = (10, [], []) by rw [HE2.out, if_pos hbig])
    clear hz hbig
    go_wp2_with fail
    go_quiet ((go_at_call 39; exact Calls.quiet_of_same (HBW.out _)))
    go_wp2
    go_ret
    rw [E.out]
    exact ⟨rfl, HD5.out.c0.drewN _, fun h => absurd h (by decide)⟩
  · have hdz : decide (width < z) = false := by rw [hz]; simpa using blen_le v width (by omega) hwl
    have E := Lib.hid (show runL width k c b = (0, List.replicate c v, b.drop s) by rw [HE2.out, if_neg hbig])
    have hvw : IntKind.i64.wrap (v : Int) = (v : Int) := IntWalk.i64_in _ (by omega)
    clear hz hbig
    go_wp2_with fail
    go_quiet ((go_at_call 39; exact Calls.quiet_of_same (HBW.out _)))
    go_wp2_with fail
    refine (repeat_any c v (by omega) (by have := HK.out; omega) (HD5.out.keep ((Chg.refl [] _).drewN _))).mono ?_
    rintro e w7 ⟨rfl, hc7, lv7, hD7⟩
    have HD7 := Lib.hid hD7
    clear hc7 hD7
    go_wp2
    go_ret
    rw [E.out]
    exact ⟨rfl, HD7.out.c0, fun _ => ⟨_, _, HD7.out⟩⟩

end Go.Proofs.Ytlhdicbhanncnaa
