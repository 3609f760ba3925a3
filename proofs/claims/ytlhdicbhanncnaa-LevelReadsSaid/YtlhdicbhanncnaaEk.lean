/- level's reference: pieces for Decode (its reader's Fail, Get, End where an error stands; its state). -/
import Derived.Test.YtlhdicbhanncnaaKx
import Derived.Test.YtlhdicbhanncnaaKy
import Derived.Test.YtlhdicbhanncnaaKk
import Derived.Test.YtlhdicbhanncnaaKm
import Derived.Test.YtlhdicbhanncnaaA3
import Derived.Deep.RegionLaw
namespace Go.Proofs.Ytlhdicbhanncnaa
open Go.RowKit
set_option linter.unusedVariables false
set_option linter.unusedSimpArgs false

theorem xsFail {w : World} {x M : Nat} {b : List Nat} {a : Nat} (h : XS w x M b a 0) (e : Int) :
    Calls Try.prog 23 #[.pointer (some ⟨x, 0, none⟩), .int .i64 e] w fun y w' => y = .returned (.tuple #[]) ∧ Chg [x] w w' ∧ XS w' x M b a e := by
  refine (xfail_set x e w (zi b) a h.xr).mono ?_
  rintro y w' ⟨rfl, hc, hr⟩
  exact ⟨rfl, hc, ⟨hr, h.by', h.bl, h.xM, h.aL⟩⟩

theorem xsKept {w : World} {x M : Nat} {b : List Nat} {a : Nat} {e0 : Int} (h : XS w x M b a e0) (he : e0 ≠ 0) (e : Int) :
    Calls Try.prog 23 #[.pointer (some ⟨x, 0, none⟩), .int .i64 e] w fun y w' => y = .returned (.tuple #[]) ∧ w = w' :=
  xfail_kept x e0 e w (zi b) a h.xr he

theorem xsGet_err {w : World} {x M : Nat} {b : List Nat} {a : Nat} {e : Int} (h : XS w x M b a e) (he : e ≠ 0) (n : Int) :
    Calls Try.prog 24 #[.pointer (some ⟨x, 0, none⟩), .int .i64 n] w fun y w' => y = .returned (.int .u64 0) ∧ w = w' :=
  xget_none x n e w (zi b) a h.xr (.inl he)

theorem xsEnd_err {w : World} {x M : Nat} {b : List Nat} {a : Nat} {e : Int} (h : XS w x M b a e) (he : e ≠ 0) :
    Calls Try.prog 27 #[.pointer (some ⟨x, 0, none⟩)] w fun y w' => y = .returned (.int .i64 e) ∧ Chg [] w w' := by
  have := xsEnd h
  rw [if_neg he] at this
  exact this

/-- One, as long as no error stands. -/
def errM (w : World) (x : Nat) : Nat := match w.cell? ⟨x, 2, none⟩ with
  | some (.int _ z) => if z = 0 then 1 else 0
  | _ => 0
theorem XS.errM {w : World} {x M : Nat} {b : List Nat} {a : Nat} {e : Int} (h : XS w x M b a e) : errM w x = if e = 0 then 1 else 0 := by
  unfold Go.Proofs.Ytlhdicbhanncnaa.errM
  rw [h.err]

theorem dec_bad {wd n : Nat} {b : List Nat} {a e : Nat} {l : List Nat} (hn : n ≤ 4000) (hw : 1 ≤ wd ∧ wd ≤ 16) (h : LvJ wd n b a e l) (he : e ≠ 0) : decA b (n : Int) (wd : Int) = (e, []) := by
  have h1 := h.2 he
  unfold decA
  rw [if_neg (by omega), if_neg (by omega)]
  simp only [Int.toNat_natCast]
  rw [if_neg (by rw [h1]; exact he), h1]
theorem dec_nine {wd n : Nat} {b : List Nat} {a : Nat} {l : List Nat} (hn : n ≤ 4000) (hw : 1 ≤ wd ∧ wd ≤ 16) (h : LvJ wd n b a 0 l) (hl : l.length = n) (hb : b.drop a ≠ []) : decA b (n : Int) (wd : Int) = (9, []) := by
  have h1 := h.done hl
  rw [if_neg hb] at h1
  unfold decA
  rw [if_neg (by omega), if_neg (by omega)]
  simp only [Int.toNat_natCast]
  rw [h1, if_neg (by simp)]
theorem dec_good {wd n : Nat} {b : List Nat} {a : Nat} {l : List Nat} (hn : n ≤ 4000) (hw : 1 ≤ wd ∧ wd ≤ 16) (h : LvJ wd n b a 0 l) (hl : l.length = n) (hb : b.drop a = []) : decA b (n : Int) (wd : Int) = (0, l) := by
  have h1 := h.done hl
  rw [if_pos hb] at h1
  unfold decA
  rw [if_neg (by omega), if_neg (by omega)]
  simp only [Int.toNat_natCast]
  rw [h1, if_pos rfl]

theorem DecOut.bad {w w' : World} {b : List Nat} {n wd : Int} {e : Nat} {r : Int} (h : decA b n wd = (e, [])) (hr : r = (e : Int)) (hc : Chg [] w w') : DecOut b n wd w (.returned (.tuple #[.slice none 0 0, .int .i64 r])) w' := by
  unfold DecOut
  rw [h, hr]
  exact ⟨_, rfl, made_nil_i _ _ hc⟩

/-- A part: what is read first. -/
theorem part_head {wd k : Nat} {c : List Nat} (h : (gl 0 c).2 ≠ 0) : (partL wd k c).1 = (gl 0 c).2 := by rw [partL_eq, if_pos h]
theorem part_run {wd k : Nat} {c : List Nat} (h : (gl 0 c).2 = 0) (h2 : gv c % 2 = 0) : partL wd k c = runL wd k (gv c / 2) (c.drop (gl 0 c).1) := by rw [partL_eq, if_neg (by omega), if_pos h2]
theorem part_grp {wd k : Nat} {c : List Nat} (h : (gl 0 c).2 = 0) (h2 : gv c % 2 = 1) : partL wd k c = grpL wd k (gv c / 2) (c.drop (gl 0 c).1) := by rw [partL_eq, if_neg (by omega), if_neg (by omega)]

theorem xsGet_cut {w : World} {x M : Nat} {b : List Nat} {a : Nat} (h : XS w x M b a 0) (n : Nat) (h1 : 1 ≤ n) (h8 : n ≤ 8) (hc : (b.drop a).length < n) :
    Calls Try.prog 24 #[.pointer (some ⟨x, 0, none⟩), .int .i64 (n : Int)] w fun y w' => y = .returned (.int .u64 0) ∧ Chg [x] w w' ∧ XS w' x M b a 8 := by
  have := xsGet h n h1 h8
  simp only [if_pos hc] at this
  exact this
theorem xsGet_yes {w : World} {x M : Nat} {b : List Nat} {a : Nat} (h : XS w x M b a 0) (n V : Nat) (h1 : 1 ≤ n) (h8 : n ≤ 8) (hc : ¬ (b.drop a).length < n) (hV : V = nm ((b.drop a).take n)) :
    Calls Try.prog 24 #[.pointer (some ⟨x, 0, none⟩), .int .i64 (n : Int)] w fun y w' => y = .returned (.int .u64 (V : Int)) ∧ Chg [x] w w' ∧ XS w' x M b (a + n) 0 := by
  have := xsGet h n h1 h8
  simp only [if_neg hc, ← hV] at this
  exact this
theorem xsTake_cut {w : World} {x M : Nat} {b : List Nat} {a : Nat} (h : XS w x M b a 0) (n : Nat) (hc : (b.drop a).length < n) :
    Calls Try.prog 25 #[.pointer (some ⟨x, 0, none⟩), .int .i64 (n : Int)] w fun y w' => y = .returned (.slice none 0 0) ∧ Chg [x] w w' ∧ XS w' x M b a 8 := by
  have := xsTake h n
  simp only [if_pos hc] at this
  refine this.mono ?_
  rintro y w' ⟨v, rfl, hc, rfl, hx⟩
  exact ⟨rfl, hc, hx⟩
theorem xsTake_yes {w : World} {x M : Nat} {b : List Nat} {a : Nat} (h : XS w x M b a 0) (n : Nat) (hc : ¬ (b.drop a).length < n) :
    Calls Try.prog 25 #[.pointer (some ⟨x, 0, none⟩), .int .i64 (n : Int)] w fun y w' => ∃ ao cap, y = .returned (.slice ao n cap) ∧ Chg [x] w w' ∧ Seen w' (.slice ao n cap) (nv .u8 ((b.drop a).take n)) ∧ XS w' x M b (a + n) 0 := by
  have := xsTake h n
  simp only [if_neg hc] at this
  refine this.mono ?_
  rintro y w' ⟨v, rfl, hc', hs, hx⟩
  obtain ⟨ao, cap, rfl, -, -⟩ := hs.shape
  have hl : (nv .u8 ((b.drop a).take n)).length = n := by rw [nv_length, List.length_take]; omega
  rw [hl] at hs ⊢
  exact ⟨ao, cap, rfl, hc', hs, hx⟩

/-- Groups unpacked by the reference: just so many bytes. -/
theorem rgroups_any (bv : Value) (d : List Nat) (g wd : Nat) (w : World) (hg : g ≤ 500) (hw : wd ≤ 16) (hl : d.length = g * wd) (hS : Seen w bv (nv .u8 d)) (hb : ∀ x ∈ d, x < 2 ^ 8) :
    Calls Try.prog 26 #[bv, .int .i64 ((g * 8 : Nat) : Int), .int .i64 (wd : Int)] w fun e w' => ∃ ao cap, e = .returned (.tuple #[.slice ao (g * 8) cap, .int .i64 0]) ∧ Chg [] w w' ∧ w'.ownsRow w.heap.size 41 1 (.slice ao (g * 8) cap) (g * 8) (nv .u64 (unpacked d (g * 8) wd)) := by
  have hlen : d.length < 137438953472 := by
    rw [hl]
    have : g * wd ≤ 500 * 16 := Nat.mul_le_mul hg hw
    omega
  have hf := fault_full d g wd hl
  refine (runpack_any bv d (g * 8) wd w (by omega) (by omega) hlen hS hb).mono ?_
  rintro e w' ⟨v, rfl, hc, ho⟩
  unfold outU at ho
  rw [hf, if_pos rfl, unpacked_length] at ho
  obtain ⟨ao, cap, rfl⟩ := own_shape ho
  exact ⟨ao, cap, by rw [hf], hc, ho⟩

theorem run_part_cut {wd q k z8 : Nat} {c : List Nat} (hk : ¬ (k = 0 ∨ q < k)) (hz : z8 = (wd + 7) / 8) (hc : c.length < z8) : (runL wd q k c).1 = 8 := by
  unfold runL; rw [if_neg hk, if_pos (by omega)]
theorem run_part_big {wd q k z8 V : Nat} {c : List Nat} (hk : ¬ (k = 0 ∨ q < k)) (hz : z8 = (wd + 7) / 8) (hc : ¬ c.length < z8) (hV : V = nm (c.take z8)) (h : 2 ^ wd ≤ V) : (runL wd q k c).1 = 10 := by
  unfold runL; rw [if_neg hk, ← hz, if_neg hc, ← hV, if_pos h]
theorem run_part_ok {wd q k z8 V : Nat} {c : List Nat} (hk : ¬ (k = 0 ∨ q < k)) (hz : z8 = (wd + 7) / 8) (hc : ¬ c.length < z8) (hV : V = nm (c.take z8)) (h : ¬ 2 ^ wd ≤ V) : runL wd q k c = (0, List.replicate k V, c.drop z8) := by
  unfold runL; rw [if_neg hk, ← hz, if_neg hc, ← hV, if_neg h]
theorem grp_part_cut {wd q k : Nat} {c : List Nat} (hk : ¬ (k = 0 ∨ (q + 7) / 8 < k)) (hc : c.length < k * wd) : (grpL wd q k c).1 = 8 := by
  unfold grpL; rw [if_neg hk, if_pos hc]
theorem grp_part_bad {wd q k : Nat} {c : List Nat} (hk : ¬ (k = 0 ∨ (q + 7) / 8 < k)) (hc : ¬ c.length < k * wd) (h : ((unpacked (c.take (k * wd)) (k * 8) wd).drop q).any (fun x => x != 0) = true) : (grpL wd q k c).1 = 10 := by
  unfold grpL; rw [if_neg hk, if_neg hc, if_pos h]
theorem grp_part_ok {wd q k : Nat} {c : List Nat} (hk : ¬ (k = 0 ∨ (q + 7) / 8 < k)) (hc : ¬ c.length < k * wd) (h : ¬ ((unpacked (c.take (k * wd)) (k * 8) wd).drop q).any (fun x => x != 0) = true) : grpL wd q k c = (0, (unpacked (c.take (k * wd)) (k * 8) wd).take q, c.drop (k * wd)) := by
  unfold grpL; rw [if_neg hk, if_neg hc, if_neg h]

end Go.Proofs.Ytlhdicbhanncnaa
