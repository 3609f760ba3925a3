/- Refg, Xs, Xe, Xv: texts of one group, one behind the other. -/
import Derived.Test.YtohgnbgijleoaaaDoorRef
import Derived.Test.YtohgnbgijleoaaaDoorZi
import Derived.Test.YtohgnbgijleoaaaDoorLo
import Derived.Test.YtohgnbgijleoaaaDoorRx
import Derived.Test.YtohgnbgijleoaaaDoorGt
import Derived.Deep.RegionLaw
import Derived.Deep.DeepCutAuto
namespace Go.Proofs.YtohgnbgijleoaaaDoor
open Go.RowKit
set_option linter.unusedVariables false

section
variable {M : Nat}

set_option maxRecDepth 100000 in
set_option maxHeartbeats 1000000 in
theorem xget_none (x : Nat) (n e : Int) (w : World) (bs : List Int) (a : Nat) (h : XR w x bs a e M) (hn : e ≠ 0 ∨ widthOf n = 0) :
    Calls Tryd.prog 46 #[.pointer (some ⟨x, 0, none⟩), .int .i64 n] w fun y w' => y = .returned (.int .u64 0) ∧ w = w' := by
  have H := Lib.hid h; clear h
  have hn0 : n < 0 ∨ 8 < n ∨ (e ≠ 0 ∨ n ≤ 0) := by
    unfold widthOf at hn
    split at hn <;> omega
  clear hn
  rcases hn0 with h1 | h1 | h1
  · go_enter Tryd.func46, Tryd.ntmps46
    go_wp2_with fail
    refine (xtake_none x 0 e _ bs a H.out (.inr (by decide))).mono ?_
    rintro y w1 ⟨rfl, rfl⟩
    go_wp2
    go_loop [6, 7] (fun v i => v = .int .u64 0 ∧ i = .int .i64 0) (fun _ _ => 0)
    case atStart => exact ⟨rfl, rfl⟩
    case round =>
      obtain ⟨rfl, rfl⟩ := hrel
      go_wp2
      go_ret
      exact ⟨rfl, rfl⟩
  · go_enter Tryd.func46, Tryd.ntmps46
    go_wp2_with fail
    refine (xtake_none x 0 e _ bs a H.out (.inr (by decide))).mono ?_
    rintro y w1 ⟨rfl, rfl⟩
    go_wp2
    go_loop [6, 7] (fun v i => v = .int .u64 0 ∧ i = .int .i64 0) (fun _ _ => 0)
    case atStart => exact ⟨rfl, rfl⟩
    case round =>
      obtain ⟨rfl, rfl⟩ := hrel
      go_wp2
      go_ret
      exact ⟨rfl, rfl⟩
  · by_cases h2 : n < 0
    · go_enter Tryd.func46, Tryd.ntmps46
      go_wp2_with fail
      refine (xtake_none x 0 e _ bs a H.out (.inr (by decide))).mono ?_
      rintro y w1 ⟨rfl, rfl⟩
      go_wp2
      go_loop [6, 7] (fun v i => v = .int .u64 0 ∧ i = .int .i64 0) (fun _ _ => 0)
      case atStart => exact ⟨rfl, rfl⟩
      case round =>
        obtain ⟨rfl, rfl⟩ := hrel
        go_wp2
        go_ret
        exact ⟨rfl, rfl⟩
    · by_cases h3 : 8 < n
      · go_enter Tryd.func46, Tryd.ntmps46
        go_wp2_with fail
        refine (xtake_none x 0 e _ bs a H.out (.inr (by decide))).mono ?_
        rintro y w1 ⟨rfl, rfl⟩
        go_wp2
        go_loop [6, 7] (fun v i => v = .int .u64 0 ∧ i = .int .i64 0) (fun _ _ => 0)
        case atStart => exact ⟨rfl, rfl⟩
        case round =>
          obtain ⟨rfl, rfl⟩ := hrel
          go_wp2
          go_ret
          exact ⟨rfl, rfl⟩
      · have H1 := Lib.hid h1; clear h1
        go_enter Tryd.func46, Tryd.ntmps46
        go_wp2_with fail
        refine (xtake_none x n e _ bs a H.out H1.out).mono ?_
        rintro y w1 ⟨rfl, rfl⟩
        go_wp2
        go_loop [6, 7] (fun v i => v = .int .u64 0 ∧ i = .int .i64 0) (fun _ _ => 0)
        case atStart => exact ⟨rfl, rfl⟩
        case round =>
          obtain ⟨rfl, rfl⟩ := hrel
          go_wp2
          go_ret
          exact ⟨rfl, rfl⟩

set_option maxRecDepth 100000 in
set_option maxHeartbeats 1000000 in
theorem xget_cut (x k : Nat) (w : World) (bs : List Int) (a : Nat) (hz : bs.length ≤ 140737488355328) (h : XR w x bs a 0 M) (hk : 0 < k) (hk8 : k ≤ 8) (hc : (bs.length : Int) - a < k) :
    Calls Tryd.prog 46 #[.pointer (some ⟨x, 0, none⟩), .int .i64 k] w fun y w' => y = .returned (.int .u64 0) ∧ Chg [x] w w' ∧ XR w' x bs a 8 M := by
  have H := Lib.hid h; clear h
  go_enter Tryd.func46, Tryd.ntmps46
  go_wp2_with fail
  refine (xtake_cut x k _ bs a hz H.out (by omega) hc).mono ?_
  rintro y w1 ⟨rfl, g1, g2⟩
  have G1 := Lib.hid g1; have G2 := Lib.hid g2; clear g1 g2
  go_wp2
  go_loop [6, 7] (fun v i => v = .int .u64 0 ∧ i = .int .i64 0) (fun _ _ => 0)
  case atStart => exact ⟨rfl, rfl⟩
  case round =>
    obtain ⟨rfl, rfl⟩ := hrel
    go_wp2
    go_ret
    exact ⟨rfl, G1.out, G2.out⟩

set_option maxRecDepth 100000 in
set_option maxHeartbeats 1000000 in
theorem xget_yes (x k : Nat) (w : World) (bs : List Int) (a : Nat) (hz : bs.length ≤ 140737488355328) (hwf : Wf bs) (h : XR w x bs a 0 M) (hk : 0 < k) (hk8 : k ≤ 8) (hc : a + k ≤ bs.length) :
    Calls Tryd.prog 46 #[.pointer (some ⟨x, 0, none⟩), .int .i64 k] w fun y w' => y = .returned (.int .u64 (num ((bs.drop a).take k))) ∧ Chg [x] w w' ∧ XR w' x bs (a + k) 0 M := by
  have H := Lib.hid h; clear h
  have hlen : ((bs.drop a).take k).length = k := by simp; omega
  have hwf2 : Wf ((bs.drop a).take k) := (hwf.drop a).take k
  obtain ⟨zs, hzs⟩ : ∃ zs, zs = (bs.drop a).take k := ⟨_, rfl⟩
  rw [← hzs] at hlen hwf2
  have HZ := Lib.hid hzs; clear hzs
  go_enter Tryd.func46, Tryd.ntmps46
  have HL := Lib.hid hlen; clear hlen
  go_wp2_with fail
  refine (xtake_yes x k _ bs a hz H.out hk hc).mono ?_
  rintro y w1 ⟨v, rfl, g1, g2, g3⟩
  rw [← HZ.out] at g3
  have hrd := reads_of_own g3
  have G1 := Lib.hid g1; have G2 := Lib.hid g2; clear g1 g2 g3
  rcases hrd with ⟨rfl, h0⟩ | ⟨g, off, cap, rfl, h1, h2, h3⟩
  · have := congrArg List.length h0
    rw [bys_length, HL.out] at this
    simp at this
    omega
  rw [bys_length, HL.out] at h1 ⊢
  have H3 := Lib.hid h3; clear h3
  go_wp2
  go_loop [6, 7] (fun v i => ∃ j : Nat, j ≤ k ∧ v = .int .u64 (num (zs.take j)) ∧ i = .int .i64 j) (fun _ i => k - (intOf i).toNat)
  case atStart => exact ⟨0, Nat.zero_le _, rfl, rfl⟩
  case round =>
    obtain ⟨j, hj, rfl, rfl⟩ := hrel
    by_cases hjk : j < k
    · have hjl : j < zs.length := by rw [HL.out]; exact hjk
      obtain ⟨b, hbe, htk, hbm⟩ : ∃ b, zs[j]? = some b ∧ zs.take (j + 1) = zs.take j ++ [b] ∧ b ∈ zs :=
        ⟨zs[j], List.getElem?_eq_getElem hjl, List.take_succ_eq_append_getElem hjl, List.getElem_mem hjl⟩
      have hc0 : w1.cell? ⟨g, off + j, none⟩ = some (.int .u8 b) := H3.out j _ (bys_get hbe)
      have hz := hwf2 b hbm
      have htl : (zs.take j).length = j := by simp; omega
      have hb := num_bound _ (hwf2.take j)
      rw [htl] at hb
      have ho := or_add (num (zs.take j)) b (8 * j) (by omega) hb.1 hb.2 hz.1 hz.2
      have hn : num (zs.take j) + b * 2 ^ (8 * j) = num (zs.take (j + 1)) := by
        rw [htk, num_snoc, htl]
      rw [hn] at ho
      have HO := Lib.hid ho
      clear ho hn htl hb hjl hbe htk
      go_wp2
      go_round
      case rel => exact ⟨j + 1, by omega, by rw [HO.out], by go_num⟩
      case measure => simp [intOf]; omega
    · obtain rfl : j = k := by omega
      clear hjk hj
      have e : zs.take j = zs := List.take_of_length_le (by rw [HL.out]; exact Nat.le_refl _)
      have HE := Lib.hid e; clear e
      go_wp2
      go_ret
      exact ⟨by rw [HE.out, HZ.out]; rfl, G1.out, G2.out⟩

end
end Go.Proofs.YtohgnbgijleoaaaDoor

namespace Go.Proofs.YtohgnbgijleoaaaDoor
open Go.RowKit
set_option linter.unusedVariables false
set_option linter.unusedSimpArgs false

/-- The reference's reader stands. -/
structure XS (w : World) (x M : Nat) (b : List Nat) (a : Nat) (e : Int) : Prop where
  xr : XR w x (zi b) a e M
  by' : ∀ y ∈ b, y < 256
  bl : b.length ≤ 1000000000
  xM : x < M
  aL : a ≤ b.length

/-- What is left. -/
def leftX (b : List Nat) (a : Nat) (e : Int) : List Nat := if e = 0 then b.drop a else []

theorem leftX_ok (b : List Nat) (a : Nat) : leftX b a 0 = b.drop a := rfl

theorem leftX_err (b : List Nat) (a : Nat) (e : Int) (h : e ≠ 0) : leftX b a e = [] := by unfold leftX; rw [if_neg h]

theorem XS.keep {w w' : World} {x M : Nat} {b : List Nat} {a : Nat} {e : Int} (h : XS w x M b a e) (hc : Chg [] w w') : XS w' x M b a e :=
  ⟨h.xr.keep0 hc, h.by', h.bl, h.xM, h.aL⟩

/-- Another block, behind the reader's, was changed. -/
theorem XS.high {w w' : World} {x M k : Nat} {b : List Nat} {a : Nat} {e : Int} (h : XS w x M b a e) (hc : Chg [k] w w') (hk : M ≤ k) : XS w' x M b a e := by
  obtain ⟨v, h1, h2, h3, h4, h5⟩ := h.xr
  have hx := h.xM
  have hg : ∀ g, v.ownBlock = some g → g ∉ [k] := fun g hg hm => by have := h4 g hg; simp at hm; omega
  exact ⟨⟨v, hc.heap h1 (by simp; omega), h2.keep hc hg, h3.keep hc hg, h4, h5⟩, h.by', h.bl, h.xM, h.aL⟩

theorem XS.err {w : World} {x M : Nat} {b : List Nat} {a : Nat} {e : Int} (h : XS w x M b a e) : w.cell? ⟨x, 2, none⟩ = some (.int .i64 e) := by
  obtain ⟨v, h1, -⟩ := h.xr
  exact (cells3 h1).2.2.1

theorem xsGet {w : World} {x M : Nat} {b : List Nat} {a : Nat} (h : XS w x M b a 0) (n : Nat) (h1 : 1 ≤ n) (h8 : n ≤ 8) :
    Calls Tryd.prog 46 #[.pointer (some ⟨x, 0, none⟩), .int .i64 (n : Int)] w fun y w' =>
      if (b.drop a).length < n then y = .returned (.int .u64 0) ∧ Chg [x] w w' ∧ XS w' x M b a 8
      else y = .returned (.int .u64 ((nm ((b.drop a).take n) : Nat) : Int)) ∧ Chg [x] w w' ∧ XS w' x M b (a + n) 0 := by
  have hb := h.bl
  have ha := h.aL
  by_cases hn : (b.drop a).length < n
  · simp only [if_pos hn]
    rw [List.length_drop] at hn
    refine (xget_cut x n w (zi b) a (by rw [zi_length]; omega) h.xr (by omega) h8 (by rw [zi_length]; omega)).mono ?_
    rintro y w' ⟨rfl, hc, hr⟩
    exact ⟨rfl, hc, ⟨hr, h.by', h.bl, h.xM, h.aL⟩⟩
  · simp only [if_neg hn]
    rw [List.length_drop] at hn
    refine (xget_yes x n w (zi b) a (by rw [zi_length]; omega) (zi_wf h.by') h.xr (by omega) h8 (by rw [zi_length]; omega)).mono ?_
    rintro y w' ⟨rfl, hc, hr⟩
    rw [zi_drop, zi_take, num_zi]
    exact ⟨rfl, hc, ⟨hr, h.by', h.bl, h.xM, by omega⟩⟩

theorem xsTake_err {w : World} {x M : Nat} {b : List Nat} {a : Nat} {e : Int} (h : XS w x M b a e) (he : e ≠ 0) (n : Int) :
    Calls Tryd.prog 48 #[.pointer (some ⟨x, 0, none⟩), .int .i64 n] w fun y w' => y = .returned (.slice none 0 0) ∧ Chg [x] w w' ∧ XS w' x M b a e := by
  refine (xtake_none x n e w (zi b) a h.xr (.inl he)).mono ?_
  rintro y w' ⟨rfl, rfl⟩
  exact ⟨rfl, Chg.refl _ _, h⟩

theorem xsTake {w : World} {x M : Nat} {b : List Nat} {a : Nat} (h : XS w x M b a 0) (n : Nat) :
    Calls Tryd.prog 48 #[.pointer (some ⟨x, 0, none⟩), .int .i64 (n : Int)] w fun y w' => ∃ v, y = .returned v ∧ Chg [x] w w' ∧
      (if (b.drop a).length < n then v = .slice none 0 0 ∧ XS w' x M b a 8 else Seen w' v (nv .u8 ((b.drop a).take n)) ∧ XS w' x M b (a + n) 0) := by
  have hb := h.bl
  have ha := h.aL
  by_cases hn : (b.drop a).length < n
  · simp only [if_pos hn]
    rw [List.length_drop] at hn
    refine (xtake_cut x n w (zi b) a (by rw [zi_length]; omega) h.xr (by omega) (by rw [zi_length]; omega)).mono ?_
    rintro y w' ⟨rfl, hc, hr⟩
    exact ⟨_, rfl, hc, rfl, ⟨hr, h.by', h.bl, h.xM, h.aL⟩⟩
  · simp only [if_neg hn]
    rw [List.length_drop] at hn
    by_cases h0 : n = 0
    · subst h0
      refine (xtake_none x 0 0 w (zi b) a h.xr (.inr (by decide))).mono ?_
      rintro y w' ⟨rfl, rfl⟩
      exact ⟨_, rfl, Chg.refl _ _, by simpa [nv] using Seen.nil w, h⟩
    · refine (xtake_yes x n w (zi b) a (by rw [zi_length]; omega) h.xr (by omega) (by rw [zi_length]; omega)).mono ?_
      rintro y w' ⟨v, rfl, hc, hr, ho⟩
      rw [zi_drop, zi_take, bys_zi] at ho
      exact ⟨v, rfl, hc, (reads_of_own ho).seen, ⟨hr, h.by', h.bl, h.xM, by omega⟩⟩

/-- Blocks behind the reader's were changed. -/
theorem XS.above {w w' : World} {S : List Nat} {x M : Nat} {b : List Nat} {a : Nat} {e : Int} (h : XS w x M b a e) (hc : Chg S w w') (hS : ∀ k ∈ S, M ≤ k) : XS w' x M b a e := by
  obtain ⟨v, h1, h2, h3, h4, h5⟩ := h.xr
  have hx := h.xM
  have hg : ∀ g, v.ownBlock = some g → g ∉ S := fun g hg hm => by have := h4 g hg; have := hS g hm; omega
  exact ⟨⟨v, hc.heap h1 (fun hm => by have := hS x hm; omega), h2.keep hc hg, h3.keep hc hg, h4, h5⟩, h.by', h.bl, h.xM, h.aL⟩

/-- The reader of some bytes. -/
theorem xsNew (bv : Value) (b : List Nat) (w : World) (hS : Seen w bv (nv .u8 b)) (hb : ∀ x ∈ b, x < 256) (hbl : b.length ≤ 1000000000) :
    Calls Tryd.prog 45 #[bv] w fun e w' => ∃ x, e = .returned (.pointer (some ⟨x, 0, none⟩)) ∧ Chg [] w w' ∧ w.heap.size ≤ x ∧ XS w' x w'.heap.size b 0 0 := by
  refine (xnew_any bv (zi b) w (by rw [zi_length]; omega) (by rw [bys_zi]; exact hS)).mono ?_
  rintro e w' ⟨x, rfl, hc, hx, hr⟩
  exact ⟨x, rfl, hc, hx, ⟨hr, hb, hbl, hr.lt, Nat.zero_le _⟩⟩

end Go.Proofs.YtohgnbgijleoaaaDoor

namespace Go.Proofs.YtohgnbgijleoaaaDoor
open Go.RowKit
set_option linter.unusedVariables false
set_option linter.unusedSimpArgs false

theorem xsEnd {w : World} {x M : Nat} {b : List Nat} {a : Nat} {e : Int} (h : XS w x M b a e) :
    Calls Tryd.prog 49 #[.pointer (some ⟨x, 0, none⟩)] w fun y w' => y = .returned (.int .i64 (if e = 0 then (if b.drop a = [] then 0 else 9) else e)) ∧ Chg [] w w' := by
  refine (xend_any x e w (zi b) a (by have := h.bl; rw [zi_length]; omega) h.xr).mono ?_
  rintro y w' ⟨rfl, n, rfl⟩
  refine ⟨?_, (Chg.refl [] w).drewN n⟩
  rw [zi_length]
  have ha := h.aL
  by_cases he : e = 0
  · subst he
    by_cases hb : b.drop a = []
    · have : b.length ≤ a := by simpa using hb
      rw [if_neg (by omega), if_pos rfl, if_pos hb]
    · have : ¬ b.length ≤ a := fun h => hb (by simpa using h)
      rw [if_pos ⟨rfl, by omega⟩, if_pos rfl, if_neg hb]
  · rw [if_neg (fun h => he h.1), if_neg he]

end Go.Proofs.YtohgnbgijleoaaaDoor

namespace Go.Proofs.YtohgnbgijleoaaaDoor
open Go.RowKit
set_option linter.unusedVariables false
set_option linter.unusedSimpArgs false

theorem gl_room (l : List Nat) : (gl 0 l).2 = 0 → (gl 0 l).1 ≤ l.length := fun h => (gl_len 0 l (by decide) h).2.1

set_option maxRecDepth 100000 in
set_option maxHeartbeats 4000000 in
theorem xsVRead {w : World} {x M : Nat} {b : List Nat} {a : Nat} (h : XS w x M b a 0) :
    Calls Tryd.prog 51 #[.pointer (some ⟨x, 0, none⟩)] w fun y w' =>
      if (gl 0 (b.drop a)).2 ≠ 0 then y = .returned (.int .u64 0) ∧ Chg [x] w w' ∧ XS w' x M b a ((gl 0 (b.drop a)).2 : Nat)
      else y = .returned (.int .u64 ((gv (b.drop a) : Nat) : Int)) ∧ Chg [x] w w' ∧ XS w' x M b (a + (gl 0 (b.drop a)).1) 0 := by
  obtain ⟨v, h1, h2, h3, h4, h5⟩ := h.xr
  rw [bys_zi] at h2
  obtain ⟨ao, cap, rfl, hc1, hc2⟩ := h2.shape
  rw [nv_length] at h1 h2 h3 h4 hc1
  obtain ⟨c0, c1, c2, f0, f1, f2⟩ := cells3 h1
  have HX := Lib.hid h
  obtain ⟨ao', cap', hs, hrun⟩ := run_back h2.seen rfl hc1 a h.aL
  have HG := Lib.hid (fun (wx : World) (hc : Chg [] w wx) => rget_any (.slice ao' (b.length - a) cap') (b.drop a) wx (hs.keep hc) (fun y hy => h.by' y (List.mem_of_mem_drop hy)))
  unfold GetOut at HG
  have hgl := gl_room (b.drop a)
  rw [List.length_drop] at hgl
  obtain ⟨N, hN⟩ : ∃ N, N = (gl 0 (b.drop a)).1 := ⟨_, rfl⟩
  obtain ⟨E, hE⟩ : ∃ E, E = (gl 0 (b.drop a)).2 := ⟨_, rfl⟩
  obtain ⟨Z, hZ⟩ : ∃ Z, Z = gv (b.drop a) := ⟨_, rfl⟩
  rw [← hN, ← hE, ← hZ] at HG
  rw [← hN, ← hE] at hgl
  rw [← hN, ← hE, ← hZ]
  have hb := h.bl
  have hal := h.aL
  obtain ⟨B, hB⟩ : ∃ B, B = b.length := ⟨_, rfl⟩
  rw [← hB] at c0 hrun HG hgl hb hal hc1
  have HBB := Lib.hid hB
  have HCL := Lib.hid (show ∀ wx, Chg [] w wx → wx.cell? ⟨x, 0, none⟩ = some (.slice ao B cap) ∧ wx.cell? ⟨x, 1, none⟩ = some (.int .i64 (a : Int)) ∧ wx.frozen? ⟨x, 1, none⟩ = false ∧ XS wx x M b a 0 from fun wx hc => by
    obtain ⟨k0, k1, -, -, k4, -⟩ := cells3 (hc.heap h1 (by simp))
    exact ⟨by rw [hB]; exact k0, k1, k4, h.keep hc⟩)
  have HD0 := Lib.hid (Chg.refl [] w).drew
  obtain ⟨q0, q1, -, -⟩ := HCL.out w.drew (Chg.refl [] w).drew
  clear h h1 h2 h3 h4 h5 hs hN hE hZ hB f0 f1 f2
  go_enter Tryd.func51, Tryd.ntmps51
  go_upto_region 3 with fail
  go_cut [3, 4, 5] (fun s3 s4 s5 wx => s3 = .int .u64 ((Z : Nat) : Int) ∧ s4 = .int .i64 ((N : Nat) : Int) ∧ s5 = .int .i64 ((E : Nat) : Int) ∧ Chg [] w wx)
  case first =>
    go_region_held3 (fun w' => w'.cell? ⟨x, 0, none⟩ = some (.slice ao B cap) ∧ w'.cell? ⟨x, 1, none⟩ = some (.int .i64 (a : Int))) (first | exact ⟨q0, q1⟩ | exact ⟨u0, u1⟩) (first
      | (go_simp; go_at_call 67; (with_reducible refine (HG.out _ HD0.out).mono ?_); rintro e w2 ⟨rfl, hc2⟩; have HC2 := Lib.hid (HD0.out.trans hc2 (by simp)); obtain ⟨u0, u1, -, -⟩ := HCL.out w2 HC2.out; clear hc2))
    all_goals
      try go_wp2
      go_meet
      case rel => exact ⟨rfl, rfl, rfl, HC2.out⟩
  case rest =>
    obtain ⟨rfl, rfl, rfl, hcw⟩ := hcut
    obtain ⟨u0, u1, u2, u3⟩ := HCL.out wc hcw
    have HXC := Lib.hid u3
    have HCW := Lib.hid hcw
    clear hcw u3
    by_cases hE0 : E = 0
    · subst hE0
      have hN2 : a + N ≤ B := by omega
      go_wp2
      go_ret
      have hs1 := XR.set1 (a' := a + N) HXC.out.xr (by have := HBB.out; rw [zi_length]; omega)
      have hcast : (((a + N : Nat) : Nat) : Int) = (a : Int) + (N : Int) := by omega
      rw [hcast] at hs1
      exact ⟨rfl, (HCW.out.mono (T := [x]) (by simp)).setCell (by simp) _, ⟨hs1, HXC.out.by', HXC.out.bl, HXC.out.xM, by have := HBB.out; omega⟩⟩
    · have hne : ((E : Int) != 0) = true := by simp; omega
      have hne2 : ¬ ((E : Int) = 0) := by omega
      have HFL := Lib.hid (xfail_set x (E : Int) wc (zi b) a HXC.out.xr)
      go_wp2_with (first
        | (go_at_call 47; (with_reducible refine HFL.out.mono ?_); rintro e w3 ⟨rfl, hc3, hr3⟩; have HC3 := Lib.hid hc3; have HR3 := Lib.hid hr3; clear hc3 hr3)
        | fail)
      go_ret
      exact ⟨rfl, (HCW.out.mono (T := [x]) (by simp)).trans HC3.out (by simp), ⟨HR3.out, HXC.out.by', HXC.out.bl, HXC.out.xM, HXC.out.aL⟩⟩

end Go.Proofs.YtohgnbgijleoaaaDoor
