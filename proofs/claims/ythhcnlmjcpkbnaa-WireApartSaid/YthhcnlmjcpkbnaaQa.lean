/- The statements' helpers of stage 7: known, bools, Paths. -/
import Derived.Test.YthhcnlmjcpkbnaaQs
import Derived.Test.YthhcnlmjcpkbnaaW7
import Derived.Test.YthhcnlmjcpkbnaaMw
import Derived.Test.YthhcnlmjcpkbnaaA5
import Derived.Test.YthhcnlmjcpkbnaaA7
import Derived.Test.YthhcnlmjcpkbnaaAS
namespace Go.Proofs.Ythhcnlmjcpkbnaa
open Go.RowKit
set_option linter.unusedVariables false

def noneS : ByteArray := { data := #[110, 111, 110, 101] }
set_option maxRecDepth 100000 in
theorem none_find : findI (mk []) noneS = -1 := by decide +kernel

set_option maxRecDepth 100000 in
theorem none_small : (∀ f ∈ mk [], f.c ≤ 9223372036854775807) ∧ (∀ f ∈ mk [], f.n.size ≤ 1000) := by decide +kernel

set_option maxRecDepth 100000 in
set_option maxHeartbeats 1000000 in
theorem known7_any (w : World) : Calls Try.prog 17 #[] w fun e w' => e = .returned (.bool true) ∧ Chg [] w w' := by
  have HNI := Lib.hid (show SeenI w nilS [] from ⟨none, 0, rfl, Nat.le_refl _, by decide, fun h => absurd h (by simp)⟩)
  go_enter Try.func17, Try.ntmps17
  go_wp2_with fail
  (with_reducible refine (make_any nilS [] w HNI.out (by simp)).mono ?_)
  rintro e w1 ⟨v, rfl, hown, hk1⟩
  have HS := Lib.hid (SeenF.own hown rfl)
  have HC1 := Lib.hid hk1
  clear hown hk1
  have HP := Lib.hid (show SeenS (w1.alloc (.cells #[.string noneS] 9)) (.slice (some ⟨w1.heap.size, 0, none⟩) 1 1) [noneS] from ⟨_, 1, rfl, Nat.le_refl _, by decide, fun _ => ⟨w1.heap.size, 0, rfl, fun j x i u hx hu => by
    have hj : j = 0 := by
      cases j with
      | zero => rfl
      | succ j => simp at hx
    subst hj
    simp at hx
    subst hx
    have hi : i = 0 := by
      cases i with
      | zero => rfl
      | succ i => simp [sc] at hu
    subst hi
    simp [sc] at hu
    subst hu
    exact new_cell 0 _ rfl⟩⟩)
  have HRS := Lib.hid (resolve_any v _ (mk []) [noneS] _ (HS.out.keep ((Chg.refl [] w1).alloc _)) HP.out none_small.1 none_small.2 (fun p hp => by simp at hp; subst hp; decide))
  unfold noneS at HRS
  go_wp2_with fail
  (with_reducible refine HRS.out.mono ?_)
  rintro e w2 ⟨hout, hk2⟩
  have HC2 := Lib.hid ((HC1.out.alloc _).trans hk2 (by simp))
  clear hk2
  rcases hout with ⟨h1, -⟩ | ⟨-, -, rfl⟩ | ⟨-, h1, -⟩
  · exact absurd (mk_chk []) h1
  · go_wp2
    go_ret
    exact ⟨rfl, HC2.out⟩
  · exact absurd none_find (h1 noneS (by simp [noneS]))

set_option maxRecDepth 100000 in
set_option maxHeartbeats 1000000 in
theorem bools_any (g1 g2 n : Nat) (κ1 κ2 : Nat → Bool) (w : World) (h1 : BlkK w g1 n κ1) (h2 : BlkK w g2 n κ2) (hn : n ≤ 1000) :
    Calls Try.prog 23 #[.slice (some ⟨g1, 0, none⟩) n n, .slice (some ⟨g2, 0, none⟩) n n] w fun e w' => (∃ r, e = .returned (.bool r) ∧ (r = true ↔ ∀ j, j < n → κ1 j = κ2 j)) ∧ Chg [] w w' := by
  have H1 := Lib.hid h1; have H2 := Lib.hid h2
  clear h1 h2
  go_enter Try.func23, Try.ntmps23
  go_wp2
  go_loopw [5] (fun x w' => ∃ k : Nat, x = .int .i64 (k : Int) ∧ k ≤ n ∧ (∀ j, j < k → κ1 j = κ2 j) ∧ Chg [] w w') (fun x _ => n - (intOf x).toNat)
  case atStart => exact ⟨0, rfl, Nat.zero_le _, fun j hj => absurd hj (Nat.not_lt_zero j), Chg.refl _ _⟩
  case round =>
    obtain ⟨k, rfl, hk, he, hc⟩ := hrel
    have HE := Lib.hid he; have HC := Lib.hid hc
    have c1 : ∀ {j}, j < n → wr.cell? ⟨g1, j, none⟩ = some (.bool (κ1 j)) := fun hj => (H1.out.chg hc (by simp)).cell hj
    have c2 : ∀ {j}, j < n → wr.cell? ⟨g2, j, none⟩ = some (.bool (κ2 j)) := fun hj => (H2.out.chg hc (by simp)).cell hj
    clear he hc
    by_cases hlt : k < n
    · have d1 := c1 hlt
      have d2 := c2 hlt
      clear c1 c2
      by_cases hx : κ1 k = κ2 k
      · have HX := Lib.hid hx
        obtain ⟨x, hxx⟩ : ∃ x, x = κ2 k := ⟨_, rfl⟩
        rw [hx, ← hxx] at d1
        rw [← hxx] at d2
        have e1 : (x != x) = false := by simp
        clear hx hxx
        go_wp2_with fail
        go_quiet (fail)
        go_wp2
        go_roundw
        case rel =>
          refine ⟨k + 1, by go_num, by omega, fun j hj => ?_, HC.out.drewN _⟩
          by_cases e : j = k
          · rw [e]; exact HX.out
          · exact HE.out j (by omega)
        case measure => simp [intOf]; omega
      · have HX := Lib.hid hx
        obtain ⟨x, hx1⟩ : ∃ x, x = κ1 k := ⟨_, rfl⟩
        obtain ⟨y, hy1⟩ : ∃ y, y = κ2 k := ⟨_, rfl⟩
        rw [← hx1, ← hy1] at hx
        rw [← hx1] at d1
        rw [← hy1] at d2
        have e1 : (x != y) = true := by simpa using hx
        have e2 : (x == y) = false := by simpa using hx
        clear hx hx1 hy1
        go_wp2_with fail
        go_quiet (fail)
        go_wp2
        go_ret
        exact ⟨⟨false, rfl, ⟨(fun h => by cases h), (fun h => absurd (h k hlt) HX.out)⟩⟩, HC.out.drewN _⟩
    · clear c1 c2
      have hkn : k = n := by omega
      go_wp2
      go_ret
      exact ⟨⟨true, rfl, ⟨(fun _ j hj => HE.out j (by omega)), (fun _ => rfl)⟩⟩, HC.out⟩

/-- Some of a schema's paths, by numbers. -/
def pathsL (l : List F) (ns : List Int) : List ByteArray := (ns.take 4).map fun x => pathB l (1 + x % ((l.length - 1 : Nat) : Int))

theorem pathsL_succ (l : List F) (ns : List Int) (k : Nat) (x : Int) (h : ns[k]? = some x) (hk : k < 4) : pathsL l (ns.take (k + 1)) = pathsL l (ns.take k) ++ [pathB l (1 + x % ((l.length - 1 : Nat) : Int))] := by
  unfold pathsL
  rw [List.take_take, List.take_take, Nat.min_eq_right (by omega), Nat.min_eq_right (by omega), List.take_add_one, h]
  simp

theorem pathsL_len (l : List F) (ns : List Int) : (pathsL l ns).length ≤ 4 := by unfold pathsL; simp; omega

set_option maxRecDepth 100000 in
set_option maxHeartbeats 2000000 in
theorem paths_any (sl nv : Value) (l : List F) (ns : List Int) (w : World) (hS : SeenF w sl l) (hN : SeenI w nv ns) (hl : l.length ≤ 1000) (h2 : 2 ≤ l.length) (hw : ∀ f ∈ l, f.c ≤ 9223372036854775807) (hn : ∀ f ∈ l, f.n.size ≤ 1000) (hwf : ∀ x ∈ ns, (Lit.int .i64 x).wf = true) :
    Calls Try.prog 20 #[sl, nv] w fun e w' => ∃ v, e = .returned v ∧ w'.ownsRow w.heap.size 9 1 v (pathsL l ns).length (sv (pathsL l ns)) ∧ Chg [] w w' := by
  obtain ⟨i0, hi, hz0, hz1, hz2⟩ := info_string
  obtain ⟨ao, cap, rfl, hc1, hc2⟩ := hS.shape
  obtain ⟨no, ncap, rfl, hn1, hn2⟩ := hN.shape
  have HS := Lib.hid hS; have HNS := Lib.hid hN; have HW := Lib.hid hw; have HNM := Lib.hid hn; have HWF := Lib.hid hwf
  clear hS hN hw hn hwf
  obtain ⟨n, hnn⟩ : ∃ n, n = l.length := ⟨_, rfl⟩
  obtain ⟨m, hmm⟩ : ∃ m, m = ns.length := ⟨_, rfl⟩
  rw [← hnn] at hc1 HS hl h2
  rw [← hmm] at hn1 HNS
  rw [← hnn, ← hmm]
  have HN := Lib.hid hnn; have HM := Lib.hid hmm
  have hm63 : m ≤ 9223372036854775807 := by unfold maxLen at hn2; omega
  clear hnn hmm
  go_enter Try.func20, Try.ntmps20
  go_wp2
  go_loopw [5, 6] (fun pv x w' => ∃ k : Nat, x = .int .i64 (k : Int) ∧ k ≤ m ∧ k ≤ 4 ∧ w'.ownsRow w.heap.size 9 1 pv (pathsL l (ns.take k)).length (sv (pathsL l (ns.take k))) ∧ Chg [] w w') (fun _ x _ => m - (intOf x).toNat)
  case atStart => exact ⟨0, rfl, Nat.zero_le _, by omega, World.ownsRow_nil _ _ _ _, Chg.refl _ _⟩
  case round =>
    obtain ⟨k, rfl, hkm, hk4, hO, hC⟩ := hrel
    obtain ⟨q, hq⟩ : ∃ q, q = (pathsL l (ns.take k)).length := ⟨_, rfl⟩
    obtain ⟨Y, hY⟩ : ∃ Y, Y = pathsL l (ns.take k) := ⟨_, rfl⟩
    have hq4 : q ≤ 4 := by rw [hq]; exact pathsL_len _ _
    rw [← hq, ← hY] at hO
    obtain ⟨pa, pc, rfl⟩ := own_shape hO
    have HO := Lib.hid hO; have HC := Lib.hid hC; have HQ := Lib.hid hq; have HY := Lib.hid hY
    clear hO hC hq hY
    by_cases hlt : k < m ∧ k < 4
    · obtain ⟨hlt1, hlt2⟩ := hlt
      have d1 : decide ((k : Int) < (m : Int)) = true := by simp; omega
      have d2 : decide ((k : Int) < 4) = true := by simp; omega
      obtain ⟨x, hx⟩ : ∃ x, ns[k]? = some x := ⟨_, List.getElem?_eq_getElem (by rw [← HM.out]; exact hlt1)⟩
      obtain ⟨gn, off, rfl, hcs⟩ := SeenI.get (HNS.out.keep HC.out) (by omega) HM.out.symm
      have hxc := hcs k hlt1
      rw [List.getD, hx, Option.getD_some] at hxc
      have HX := Lib.hid hx
      have HW7 := Lib.hid (fun wx => w7_int x ((n : Int) - 1) (n - 1) wx (by omega) (by omega) (by omega) (HWF.out x (List.mem_of_getElem? HX.out)))
      obtain ⟨y, hy⟩ : ∃ y, y = (x % ((n - 1 : Nat) : Int)).toNat := ⟨_, rfl⟩
      have hyl : y < n - 1 := by rw [hy]; exact within_lt x (n - 1) (by omega)
      have HYV := Lib.hid (show (1 : Int) + (y : Int) = 1 + x % ((l.length - 1 : Nat) : Int) by rw [hy, HN.out]; have := Int.emod_nonneg x (show ((l.length - 1 : Nat) : Int) ≠ 0 by have := HN.out; omega); omega)
      rw [← hy] at HW7
      have HPT := Lib.hid (fun wx (hk : Chg [] wr wx) => rpath_any rparents_any (.slice ao n cap) l (1 + (y : Int)) wx (HS.out.keep (HC.out.trans hk (by simp))) (by rw [← HN.out]; omega) HW.out HNM.out)
      clear hcs hx hy
      go_wp2_with (first
        | (go_at_call 30; (with_reducible refine (HW7.out _).mono ?_); rintro e w4 ⟨rfl, rfl⟩)
        | fail)
      (with_reducible refine (HPT.out _ (Chg.refl [] _)).mono ?_)
      rw [HYV.out]
      rintro e w5 ⟨rfl, hk5⟩
      obtain ⟨P, hP⟩ : ∃ P, P = pathB l (1 + x % ((l.length - 1 : Nat) : Int)) := ⟨_, rfl⟩
      rw [← hP]
      have HPD := Lib.hid hP
      have HC5 := Lib.hid (HC.out.trans hk5 (by simp))
      have HO5 := Lib.hid (own_chg HO.out hk5 (by simp))
      have HM2 := Lib.hid (show q + 1 ≤ maxLen by unfold maxLen; omega)
      have HM3 := Lib.hid (show (q + 1) * 16 ≤ 140737488355328 by omega)
      have HBZ := Lib.hid (show w.heap.size ≤ w5.heap.size from HC5.out.size)
      clear hP hk5
      go_wp2_with (first
        | (at_builtin; refine wpList_append_at _ rfl (.tmp 17) (.tmp 29) _ rfl w.heap.size 9 i0 (.string ByteArray.empty) 1 16 Try.underlying23 hi hz0 hz1 hz2 rfl (by omega) (.slice pa q pc) q (sv Y) rfl (HO5.out.alloc _) ⟨w5.heap.size, 0, none⟩ 1 1 [.string P] rfl rfl new_cell (by simp [Value.oneCell']) HM2.out HM3.out (le_alloc HBZ.out _) ?_; intro v2 w2 hown2 hg2 hat2; obtain ⟨a2, c2', rfl⟩ := own_shape hown2; have HO6 := Lib.hid hown2; have HG2 := Lib.hid hg2; clear hown2 hg2 hat2)
        | fail)
      go_roundw
      case rel =>
        refine ⟨k + 1, by go_num, by omega, by omega, ?_, (HC5.out.alloc _).grown HG2.out (fun q hq => .inr (own_ge HO.out q hq))⟩
        rw [pathsL_succ l ns k x HX.out hlt2, ← HY.out, ← HPD.out, List.length_append, HY.out, ← HQ.out, ← HY.out]
        simpa [sv] using HO6.out
      case measure => simp [intOf]; omega
    · have hke : pathsL l (ns.take k) = pathsL l ns := by
        have e : k = m ∨ k = 4 := by omega
        rcases e with e | e
        · rw [List.take_of_length_le (by rw [← HM.out]; omega)]
        · unfold pathsL
          rw [e, List.take_take, Nat.min_self]
      have HQE := Lib.hid (show (pathsL l ns).length = q by rw [HQ.out, hke])
      have HYE := Lib.hid (show pathsL l ns = Y by rw [HY.out, hke])
      have hways : k = m ∨ k < m ∧ k = 4 := by omega
      clear hke
      rcases hways with e | ⟨e, e'⟩
      · have d1 : decide ((k : Int) < (m : Int)) = false := by simp; omega
        have hkm' : ¬ k < m := by omega
        clear e
        go_wp2
        go_ret
        exact ⟨_, rfl, by rw [HQE.out, HYE.out]; exact HO.out, HC.out⟩
      · have d1 : decide ((k : Int) < (m : Int)) = true := by simp; omega
        have d2 : decide ((k : Int) < 4) = false := by simp; omega
        clear e'
        go_wp2
        go_ret
        exact ⟨_, rfl, by rw [HQE.out, HYE.out]; exact HO.out, HC.out⟩

end Go.Proofs.Ythhcnlmjcpkbnaa
