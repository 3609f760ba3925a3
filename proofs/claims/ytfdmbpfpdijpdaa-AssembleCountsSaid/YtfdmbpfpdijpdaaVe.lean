/- The reference's striping: what is not there; values. -/
import Derived.Test.YtfdmbpfpdijpdaaVd
namespace Go.Proofs.Ytfdmbpfpdijpdaa
open Go.RowKit
set_option linter.unusedVariables false
set_option linter.unusedSimpArgs false

/-- Where all lies that is read. -/
structure WP (w1 : World) (wb cb N cc : Nat) (l : List F) (n gs so sc gp po pc gr ro rc : Nat) : Prop where
  nl : n = l.length
  n1 : n ≤ 1000
  caps : n ≤ sc ∧ n ≤ pc ∧ n ≤ rc
  hb : wb < w1.heap.size
  hw : ∀ w, Chg [cb] w1 w → w.cell? ⟨wb, 0, none⟩ = some (.slice (some ⟨gs, so, none⟩) n sc) ∧ w.cell? ⟨wb, 1, none⟩ = some (.slice (some ⟨gp, po, none⟩) n pc) ∧ w.cell? ⟨wb, 3, none⟩ = some (.slice (some ⟨gr, ro, none⟩) n rc)
  hs : ∀ w, Chg [cb] w1 w → ∀ j, j < n → w.cell? ⟨gs, so + j * 4 + 1, none⟩ = some (.int .i64 (l.getD j default).r) ∧ w.cell? ⟨gs, so + j * 4 + 2, none⟩ = some (.int .i64 (l.getD j default).k)
  hp : ∀ w, Chg [cb] w1 w → ∀ j, j < n → w.cell? ⟨gp, po + j, none⟩ = some (.int .i64 ((parents l).getD j 0))
  hr : ∀ w, Chg [cb] w1 w → ∀ j, j < n → w.cell? ⟨gr, ro + j, none⟩ = some (.int .i64 ((rls l).getD j 0))

theorem WK14.wp {w0 w1 : World} {wb cb N cc : Nat} {l : List F} {sv pv lv rv : Value} (K : WK14 w0 w1 wb cb N cc l sv pv lv rv) (h0 : 0 < l.length) : ∃ gs so sc gp po pc gr ro rc, WP w1 wb cb N cc l l.length gs so sc gp po pc gr ro rc := by
  have hc0 := Chg.refl [cb] w1
  obtain ⟨so', sc, rfl, s1, -⟩ := (K.hs w1 hc0).shape
  obtain ⟨po', pc, rfl, p1, -⟩ := (K.hp w1 hc0).shape
  obtain ⟨ro', rc, rfl, r1, -⟩ := (K.hr w1 hc0).shape
  rw [parents_length] at p1
  rw [rls_length] at r1
  obtain ⟨gs, so, rfl, -⟩ := SeenF.get (K.hs w1 hc0) h0 rfl
  obtain ⟨gp, po, rfl, -⟩ := SeenI.get (K.hp w1 hc0) (by rw [parents_length]; exact h0) rfl
  obtain ⟨gr, ro, rfl, -⟩ := SeenI.get (K.hr w1 hc0) (by rw [rls_length]; exact h0) rfl
  refine ⟨gs, so, sc, gp, po, pc, gr, ro, rc, rfl, K.n, ⟨s1, p1, r1⟩, K.hb, fun w h => ?_, fun w h j hj => ?_, fun w h j hj => ?_, fun w h j hj => ?_⟩
  · obtain ⟨a, b, -, c, -⟩ := K.hw w h
    rw [parents_length] at b
    rw [rls_length] at c
    exact ⟨a, b, c⟩
  · obtain ⟨g', o', he, hc⟩ := SeenF.get (K.hs w h) h0 rfl
    injection he with he
    injection he with e1 e2
    subst e1 e2
    exact ⟨(hc j hj).2.1, (hc j hj).2.2.1⟩
  · obtain ⟨g', o', he, hc⟩ := SeenI.get (K.hp w h) (by rw [parents_length]; exact h0) rfl
    injection he with he
    injection he with e1 e2
    subst e1 e2
    exact hc j (by rw [parents_length]; exact hj)
  · obtain ⟨g', o', he, hc⟩ := SeenI.get (K.hr w h) (by rw [rls_length]; exact h0) rfl
    injection he with he
    injection he with e1 e2
    subst e1 e2
    exact hc j (by rw [rls_length]; exact hj)

theorem accW_split : ∀ (X : List Kd) (j p : Nat), accW X p = accW (X.take j) p ++ accW (X.drop j) (p + j)
  | [], j, p => by simp [accW]
  | x :: X, 0, p => by simp [accW]
  | x :: X, j + 1, p => by
    rw [List.take_succ_cons, List.drop_succ_cons, accW, accW, accW_split X j (p + 1), List.append_assoc, show p + 1 + j = p + (j + 1) by omega]

theorem accW_fit {X : List Kd} {j : Nat} {x : Kd} (h : X[j]? = some x) : (accW (X.take j) 0).length + x.Ws.length ≤ (accW X 0).length := by
  have h1 := accW_split X (j + 1) 0
  rw [accW_take X j 0 x h] at h1
  rw [h1]
  simp

/-- What is asked of a field that is not there. -/
def NC (w1 : World) (wb cb N : Nat) (Ls : List L) (i n m : Nat) : Prop :=
  ∀ (w : World) (C : Nat → List Cl) (r d : Nat) (t : Tr), CS w1 cb N Ls C w → r ≤ 1000 → d ≤ 1000 → (∀ q, n ≤ q → q < n + m → (d : Int) < (Ls.getD q default).d ∧ (C q).length ≤ 1000000) →
    Calls Try.prog 68 #[.pointer (some ⟨wb, 0, none⟩), .int .i64 (i : Int), .int .i64 (r : Int), .int .i64 (d : Int)] w fun e w' => e = .returned (.tuple #[]) ∧ CS w1 cb N Ls (fun q => C q ++ nonC n m r d t q) w' ∧ KT w w'

set_option maxRecDepth 100000 in
set_option maxHeartbeats 4000000 in
theorem rnone_leaf {w0 w1 : World} {wb cb N cc : Nat} {l : List F} {sv pv lv rv : Value} (K : WK14 w0 w1 wb cb N cc l sv pv lv rv) (i : Nat) (hi : i < l.length) (hk : (l.getD i default).k ≠ 0) : NC w1 wb cb N (leavesL l) i (lno l i) 1 := by
  intro w C r d t hS hr hd hb
  obtain ⟨h1, h2⟩ := hb (lno l i) (Nat.le_refl _) (by omega)
  have hle := leaf_no hi hk
  rw [List.getD, hle] at h1
  have hdl : (d : Int) < (dls l).getD i 0 := h1
  have HC := Lib.hid (rcell14_any K i hi hk C w hS ⟨r, d, t⟩ false (by symm; rw [decide_eq_false_iff_not]; show ¬ (d : Int) = _; omega) ⟨0, e0⟩ (fun h => by cases h) h2)
  obtain ⟨gs, so, sc, gp, po, pc, gr, ro, rc, P⟩ := K.wp (by omega)
  obtain ⟨y0, -, -⟩ := P.hw w hS.ch
  obtain ⟨-, a2⟩ := P.hs w hS.ch i hi
  obtain ⟨kd, hkd⟩ : ∃ kd, kd = (l.getD i default).k := ⟨_, rfl⟩
  rw [← hkd] at a2 hk
  have hk2 : (kd != 0) = true := by simpa using hk
  obtain ⟨n, hn⟩ : ∃ n, n = l.length := ⟨_, rfl⟩
  have hscn := P.caps.1
  rw [← hn] at y0 hi hscn
  clear P hS h1 h2 hb hle hdl hkd hn hk
  go_enter Try.func68, Try.ntmps68
  go_wp2_with (first
    | (go_at_call 67; (with_reducible refine HC.out.mono ?_); rintro e w2 ⟨rfl, hs2, hk2⟩; have HS2 := Lib.hid hs2; have HK2 := Lib.hid hk2; clear hs2 hk2)
    | fail)
  (first | go_end0 | ((try simp only [Exit.inBlock, Exit.then]); refine bodyPost_ret (results_none rfl _ _ _) rfl ?_))
  refine ⟨rfl, HS2.out.congr fun q => ?_, HK2.out⟩
  unfold nonC
  by_cases e : q = lno l i
  · subst e; rw [if_pos rfl, if_pos (by omega)]
  · rw [if_neg e, if_neg (by omega), List.append_nil]

set_option maxRecDepth 100000 in
set_option maxHeartbeats 4000000 in
theorem rnone_grp {w0 w1 : World} {wb cb N cc : Nat} {l : List F} {sv pv lv rv : Value} (K : WK14 w0 w1 wb cb N cc l sv pv lv rv) (i m0 : Nat) (hi : i < l.length) (hk : (l.getD i default).k = 0) (X : List Kd) (hX : kidsU (parents l) l.length i = X.map fun x => (x.i : Int))
    (hXR : ∀ x ∈ X, NC w1 wb cb N (leavesL l) x.i x.n x.Ws.length) (hXn : ∀ j x, X[j]? = some x → x.n = m0 + (accW (X.take j) 0).length) : NC w1 wb cb N (leavesL l) i m0 (accW X 0).length := by
  intro w C r d t hS hr hd hb
  obtain ⟨gs, so, sc, gp, po, pc, gr, ro, rc, P⟩ := K.wp (by omega)
  obtain ⟨y0, -, -⟩ := P.hw w hS.ch
  obtain ⟨-, a2⟩ := P.hs w hS.ch i hi
  rw [hk] at a2
  obtain ⟨n, hn⟩ : ∃ n, n = l.length := ⟨_, rfl⟩
  have hn1 := P.n1
  obtain ⟨hs1, hs2, hs3⟩ := P.caps
  have HLOW := Lib.hid (show (kidsU (parents l) (i + 1) i).length = 0 by rw [kidsU_low l i (i + 1) (Nat.le_refl _) (by omega)]; rfl)
  rw [← hn] at y0 hi hs1 hs2 hn1 P
  have hfw : IntKind.i64.wrap ((i : Int) + 1) = (i : Int) + 1 := IntWalk.i64_in _ (by omega)
  have HP := Lib.hid P; have HS := Lib.hid hS; have HN := Lib.hid hn; have HX := Lib.hid hX; have HXR := Lib.hid hXR; have HXN := Lib.hid hXn; have HB := Lib.hid hb
  clear P hS hn hX hXR hXn hb hk
  go_enter Try.func68, Try.ntmps68
  go_wp2
  go_loopw [8] (fun x wx => ∃ (j i' : Nat), x = .int .i64 (i' : Int) ∧ i + 1 ≤ i' ∧ i' ≤ n ∧ Hid (j = (kidsU (parents l) i' i).length) ∧ CS w1 cb N (leavesL l) (fun q => C q ++ nonC m0 (accW (X.take j) 0).length r d t q) wx ∧ KT w wx) (fun x _ => n - (intOf x).toNat)
  case atStart => exact ⟨0, i + 1, by go_num, Nat.le_refl _, hi, Lib.hid HLOW.out.symm, HS.out.congr fun q => by rw [List.take_zero]; show C q = C q ++ nonC m0 0 r d t q; rw [nonC_none, List.append_nil], KT.refl _⟩
  case round =>
    obtain ⟨j, i', rfl, hfi, hin, HJ, hcs, hkt⟩ := hrel
    have HCS := Lib.hid hcs; have HKT := Lib.hid hkt
    have hiw : IntKind.i64.wrap ((i' : Int) + 1) = (i' : Int) + 1 := IntWalk.i64_in _ (by omega)
    obtain ⟨z0, z1, -⟩ := HP.out.hw wr hcs.ch
    clear hcs hkt
    by_cases hlt : i' < n
    case neg =>
      have d0 : decide ((i' : Int) < (n : Int)) = false := by simp; omega
      have E := Lib.hid (show X.take j = X by
        have h2 := HJ.out
        have hie : i' = l.length := by rw [← HN.out]; omega
        rw [hie, HX.out, List.length_map] at h2
        rw [h2, List.take_length])
      go_wp2
      (first | go_end0 | ((try simp only [Exit.inBlock, Exit.then]); refine bodyPost_ret (results_none rfl _ _ _) rfl ?_))
      exact ⟨rfl, by have h := HCS.out; rw [E.out] at h; exact h, HKT.out⟩
    have d0 : decide ((i' : Int) < (n : Int)) = true := by simp; omega
    have hpi := HP.out.hp wr HCS.out.ch i' hlt
    obtain ⟨g, hg⟩ : ∃ g, g = (parents l).getD i' 0 := ⟨_, rfl⟩
    rw [← hg] at hpi
    have HGG := Lib.hid hg
    clear hg
    by_cases hgf : g = (i : Int)
    case neg =>
      have d1 : (g == (i : Int)) = false := by simpa using hgf
      have HJ2 := Lib.hid (show j = (kidsU (parents l) (i' + 1) i).length by rw [kidsU_succ, if_neg (by rw [← HGG.out]; exact hgf)]; exact HJ.out)
      clear hgf
      go_wp2
      go_roundw
      case rel => exact ⟨j, i' + 1, by go_num, by omega, by omega, HJ2, HCS.out, HKT.out⟩
      case measure => simp [intOf]; omega
    subst hgf
    have hks := kidsU_at (m := l.length) HGG.out.symm (by rw [← HN.out]; exact hlt)
    rw [HX.out, ← HJ.out, List.getElem?_map] at hks
    obtain ⟨x, hx, hxi⟩ := Option.map_eq_some_iff.1 hks
    have hxi2 : x.i = i' := by omega
    have HJ2 := Lib.hid (show j + 1 = (kidsU (parents l) (i' + 1) i).length by rw [kidsU_succ, if_pos HGG.out.symm, List.length_append, ← HJ.out]; rfl)
    have hRP := HXR.out x (List.mem_of_getElem? hx)
    rw [hxi2] at hRP
    have hxn := HXN.out j x hx
    have hfit := accW_fit hx
    have HCALL := Lib.hid (hRP wr _ r d t HCS.out hr hd (fun q h1 h2 => by
      obtain ⟨b1, b2⟩ := HB.out q (by omega) (by omega)
      refine ⟨b1, ?_⟩
      show (C q ++ nonC m0 (accW (X.take j) 0).length r d t q).length ≤ 1000000
      unfold nonC
      rw [if_neg (by omega), List.append_nil]
      exact b2))
    have HE := Lib.hid (show ∀ q, (C q ++ nonC m0 (accW (X.take j) 0).length r d t q) ++ nonC x.n x.Ws.length r d t q = C q ++ nonC m0 (accW (X.take (j + 1)) 0).length r d t q from fun q => by
      rw [accW_take X j 0 x hx, List.length_append, List.length_map, nonC_app, List.append_assoc, hxn])
    clear hks hx hxi hxi2 hRP hxn hfit
    go_wp2_with (first
      | (go_at_call 68; (with_reducible refine HCALL.out.mono ?_); rintro e w5 ⟨rfl, hs5, hk5⟩; have HS5 := Lib.hid hs5; have HK5 := Lib.hid hk5; clear hs5 hk5)
      | fail)
    go_roundw
    case rel => exact ⟨j + 1, i' + 1, by go_num, by omega, by omega, HJ2, HS5.out.congr HE.out, HKT.out.trans HK5.out⟩
    case measure => simp [intOf]; omega

/-- What is asked of a value of a field. -/
def VC (w0 w1 : World) (wb cb N : Nat) (Ls : List L) (i n rr dd : Nat) (Ws : List (List Stp)) (ok : Tr → Prop) : Prop :=
  ∀ (D : Nat) (w : World) (C : Nat → List Cl) (r : Nat) (t : Tr) (kv : Value), CS w1 cb N Ls C w → r ≤ 1000 → KidsAt w0 D t.k kv → ok t → (∀ q, (C q ++ atC Ws n rr dd r t q).length ≤ 1000000) →
    Calls Try.prog 42 #[.pointer (some ⟨wb, 0, none⟩), .int .i64 (i : Int), .int .i64 (r : Int), .int .i64 (dd : Int), .agg #[.int .i64 t.n, .string t.s, kv]] w fun e w' => e = .returned (.tuple #[]) ∧ CS w1 cb N Ls (fun q => C q ++ atC Ws n rr dd r t q) w' ∧ KT w w'

theorem atC_one (n rr dd r : Nat) (t : Tr) (q : Nat) : atC [[]] n rr dd r t q = if q = n then [⟨r, dd, t⟩] else [] := by
  unfold atC
  by_cases h : n ≤ q
  · rw [if_pos h]
    by_cases e : q = n
    · subst e; rw [if_pos rfl, Nat.sub_self]; rfl
    · rw [if_neg e, List.getElem?_eq_none (by simp; omega)]
  · rw [if_neg h, if_neg (by omega)]

set_option maxRecDepth 100000 in
set_option maxHeartbeats 4000000 in
theorem rvalue_leaf {w0 w1 : World} {wb cb N cc : Nat} {l : List F} {sv pv lv rv : Value} (K : WK14 w0 w1 wb cb N cc l sv pv lv rv) (i rr dd : Nat) (hi : i < l.length) (hk : (l.getD i default).k ≠ 0) (hdd : (dls l).getD i 0 = (dd : Int)) : VC w0 w1 wb cb N (leavesL l) i (lno l i) rr dd [[]] (fun _ => True) := by
  intro D w C r t kv hS hr hK _ hb
  obtain ⟨w2, hw2⟩ : ∃ z, z = w.alloc (.cells #[.int .i64 t.n, .string t.s, kv] 57) := ⟨_, rfl⟩
  have hA : Chg [] w w2 := by rw [hw2]; exact (Chg.refl [] w).alloc _
  have hS2 := hS.keep hA K.hc
  have HC := Lib.hid (rcell14_any K i hi hk C w2 hS2 ⟨r, dd, t⟩ true (by symm; rw [decide_eq_true_iff]; exact hdd.symm) ⟨t.n, t.s⟩ (fun _ => rfl) (by
    have h := hb (lno l i)
    rw [List.length_append] at h
    omega))
  obtain ⟨gs, so, sc, gp, po, pc, gr, ro, rc, P⟩ := K.wp (by omega)
  obtain ⟨y0, -, -⟩ := P.hw w2 hS2.ch
  obtain ⟨-, a2⟩ := P.hs w2 hS2.ch i hi
  obtain ⟨kd, hkd⟩ : ∃ kd, kd = (l.getD i default).k := ⟨_, rfl⟩
  rw [← hkd] at a2 hk
  have hk2 : (kd != 0) = true := by simpa using hk
  obtain ⟨n, hn⟩ : ∃ n, n = l.length := ⟨_, rfl⟩
  have hscn := P.caps.1
  rw [← hn] at y0 hi hscn
  obtain ⟨ko, kc, rfl, -, -⟩ := hK.shape
  have HA := Lib.hid (KT.of hA)
  have c0 : w2.cell? ⟨w.heap.size, 0, none⟩ = some (.int .i64 t.n) := by rw [hw2]; simp
  have c1 : w2.cell? ⟨w.heap.size, 1, none⟩ = some (.string t.s) := by rw [hw2]; simp
  rw [hw2] at y0 a2 HC c0 c1 HA
  clear P hS hb hkd hn hk hA hS2 hw2 hK
  go_enter Try.func42, Try.ntmps42
  go_wp2_with (first
    | (go_at_call 67; (with_reducible refine HC.out.mono ?_); rintro e w3 ⟨rfl, hs2, hk2⟩; have HS2 := Lib.hid hs2; have HK2 := Lib.hid hk2; clear hs2 hk2)
    | fail)
  (first | go_end0 | ((try simp only [Exit.inBlock, Exit.then]); refine bodyPost_ret (results_none rfl _ _ _) rfl ?_))
  refine ⟨rfl, HS2.out.congr fun q => ?_, HA.out.trans HK2.out⟩
  rw [atC_one]
  by_cases e : q = lno l i
  · subst e; rw [if_pos rfl, if_pos rfl]
  · rw [if_neg e, if_neg e, List.append_nil]

end Go.Proofs.Ytfdmbpfpdijpdaa
