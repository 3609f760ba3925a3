/- The reference's striping: a group's value; a forest. -/
import Derived.Test.YtfdmbpfpdijpdaaVe
namespace Go.Proofs.Ytfdmbpfpdijpdaa
open Go.RowKit
set_option linter.unusedVariables false
set_option linter.unusedSimpArgs false

theorem lstC_pre (Ws : List (List Stp)) (n rr dd r : Nat) (L : List Tr) (m : Nat) (j : Nat) : ∃ R, lstC Ws n rr dd r L j = lstC Ws n rr dd r (L.take m) j ++ R := by
  cases L with
  | nil => exact ⟨[], by simp [lstC]⟩
  | cons z X =>
    cases m with
    | zero => exact ⟨_, by rw [List.take_zero]; rfl⟩
    | succ m =>
      refine ⟨(X.drop m).flatMap fun z => atC Ws n rr dd rr z j, ?_⟩
      rw [List.take_succ_cons, lstC, lstC, List.append_assoc, ← List.flatMap_append, List.take_append_drop]

/-- What a group's fields are to be. -/
structure KdOk (w0 w1 : World) (wb cb N : Nat) (l : List F) (x : Kd) : Prop where
  i : x.i < l.length
  r : (l.getD x.i default).r = x.r
  k : x.r = 0 ∨ x.r = 1 ∨ x.r = 2
  c : NC w1 wb cb N (leavesL l) x.i x.n x.Ws.length
  v : ∀ rr dd : Nat, (rls l).getD x.i 0 = (rr : Int) → (dls l).getD x.i 0 = (dd : Int) → VC w0 w1 wb cb N (leavesL l) x.i x.n rr dd x.Ws x.ok
  d : ∀ q, x.n ≤ q → q < x.n + x.Ws.length → (dls l).getD x.i 0 ≤ ((leavesL l).getD q default).d

set_option maxRecDepth 100000 in
set_option maxHeartbeats 8000000 in
theorem rvalue_grp {w0 w1 : World} {wb cb N cc : Nat} {l : List F} {sv pv lv rv : Value} (K : WK14 w0 w1 wb cb N cc l sv pv lv rv) (i m0 rr dd : Nat) (hi : i < l.length) (hk : (l.getD i default).k = 0) (X : List Kd) (hX : kidsU (parents l) l.length i = X.map fun x => (x.i : Int))
    (hXR : ∀ x ∈ X, KdOk w0 w1 wb cb N l x) (hXn : ∀ j x, X[j]? = some x → x.n = m0 + (accW (X.take j) 0).length) (hrr : (rls l).getD i 0 = (rr : Int)) (hdd : (dls l).getD i 0 = (dd : Int)) :
    VC w0 w1 wb cb N (leavesL l) i m0 rr dd (accW X 0) (fun t => X.length = t.k.length ∧ ∀ (j : Nat) (x : Kd) (M : List Tr), X[j]? = some x → t.k[j]? = some M → timesE x.r M.length = 0 ∧ ∀ u ∈ M, x.ok u) := by
  intro D w C r t kv hS hr hK hok hb
  obtain ⟨gs, so, sc, gp, po, pc, gr, ro, rc, P⟩ := K.wp (by omega)
  obtain ⟨hXl, hXf⟩ := hok
  obtain ⟨TK, hTK⟩ : ∃ T, T = t.k := ⟨_, rfl⟩
  obtain ⟨tn, htn⟩ : ∃ T, T = t.n := ⟨_, rfl⟩
  obtain ⟨ts, hts⟩ : ∃ T, T = t.s := ⟨_, rfl⟩
  rw [← hTK] at hXl hXf hK
  rw [← htn, ← hts]
  obtain ⟨ko, kc, rfl, hkc1, -⟩ := hK.shape
  obtain ⟨m, hm⟩ : ∃ m, m = TK.length := ⟨_, rfl⟩
  rw [← hm] at hkc1 hK hXl ⊢
  obtain ⟨w2, hw2⟩ : ∃ z, z = w.alloc (.cells #[.int .i64 tn, .string ts, .slice ko m kc] 57) := ⟨_, rfl⟩
  have hA : Chg [] w w2 := by rw [hw2]; exact (Chg.refl [] w).alloc _
  have hS2 := hS.keep hA K.hc
  have hbox : w2.heap[w.heap.size]? = some (.cells #[.int .i64 tn, .string ts, .slice ko m kc] 57 (0, 0)) := by rw [hw2]; exact heap_alloc_new w _
  obtain ⟨y0, -, -⟩ := P.hw w2 hS2.ch
  obtain ⟨-, a2⟩ := P.hs w2 hS2.ch i hi
  rw [hk] at a2
  obtain ⟨n, hn⟩ : ∃ n, n = l.length := ⟨_, rfl⟩
  have hn1 := P.n1
  obtain ⟨hs1, hs2, hs3⟩ := P.caps
  have hlp := lev_pos l i
  have HLOW := Lib.hid (show (kidsU (parents l) (i + 1) i).length = 0 by rw [kidsU_low l i (i + 1) (Nat.le_refl _) (by omega)]; rfl)
  rw [← hn] at y0 hi hs1 hs2 hs3 hn1 P hlp
  rw [hrr, hdd] at hlp
  have hddn : dd ≤ n := by omega
  have hrrn : rr ≤ n := by omega
  have hfw : IntKind.i64.wrap ((i : Int) + 1) = (i : Int) + 1 := IntWalk.i64_in _ (by omega)
  have HP := Lib.hid P; have HS := Lib.hid hS2; have HN := Lib.hid hn; have HX := Lib.hid hX; have HXR := Lib.hid hXR; have HXN := Lib.hid hXn; have HB := Lib.hid hb
  have HXL := Lib.hid hXl; have HXF := Lib.hid hXf; have HKD := Lib.hid hK; have HM := Lib.hid hm; have HRR := Lib.hid hrr; have HDD := Lib.hid hdd
  have HA := Lib.hid (KT.of hA); have HBOX := Lib.hid hbox; have HTK := Lib.hid hTK
  have HC0 := Lib.hid (show ∀ wx, Chg [cb] w1 wx → ∀ p : Addr, ∀ u, w0.cell? p = some u → wx.cell? p = some u from fun wx h p u hp => (K.c0.trans h (fun g hg => by simp at hg; subst hg; exact .inr K.lo)).cell hp (by simp))
  rw [hw2] at y0 a2 HS HBOX HA
  clear P hS hS2 hn hX hXR hXn hb hk hA hw2 hbox hXl hXf hK hm hrr hdd hlp hTK htn hts
  go_enter Try.func42, Try.ntmps42
  go_wp2
  go_loopw [10, 11] (fun s x wx => ∃ (j i' : Nat), s = .int .i64 (j : Int) ∧ x = .int .i64 (i' : Int) ∧ i + 1 ≤ i' ∧ i' ≤ n ∧ Hid (j = (kidsU (parents l) i' i).length) ∧ CS w1 cb N (leavesL l) (fun q => C q ++ atC (accW (X.take j) 0) m0 rr dd r t q) wx ∧ KT w wx ∧ wx.heap[w.heap.size]? = some (.cells #[.int .i64 tn, .string ts, .slice ko m kc] 57 (0, 0))) (fun _ x _ => n - (intOf x).toNat)
  case atStart => exact ⟨0, i + 1, rfl, by go_num, Nat.le_refl _, hi, Lib.hid HLOW.out.symm, HS.out.congr fun q => by rw [List.take_zero]; show C q = C q ++ atC [] m0 rr dd r t q; rw [atC_nil, List.append_nil], HA.out, HBOX.out⟩
  case round =>
    obtain ⟨j, i', rfl, rfl, hfi, hin, HJ, hcs, hkt, hbx⟩ := hrel
    have HCS := Lib.hid hcs; have HKT := Lib.hid hkt; have HBX := Lib.hid hbx
    have hiw : IntKind.i64.wrap ((i' : Int) + 1) = (i' : Int) + 1 := IntWalk.i64_in _ (by omega)
    obtain ⟨z0, z1, -⟩ := HP.out.hw wr hcs.ch
    have hjn : j ≤ n := by rw [HJ.out]; exact Nat.le_trans (kidsU_len _ _ _) hin
    have hjw : IntKind.i64.wrap ((j : Int) + 1) = (j : Int) + 1 := IntWalk.i64_in _ (by omega)
    clear hcs hkt hbx
    by_cases hlt : i' < n
    case neg =>
      have d0 : decide ((i' : Int) < (n : Int)) = false := by simp; omega
      have E := Lib.hid (show X.take j = X by
        have h2 := HJ.out
        have hie : i' = l.length := by rw [← HN.out]; omega
        rw [hie, HX.out, List.length_map] at h2
        rw [h2, List.take_length])
      go_wp2
      (first | go_end0 | ((try simp only [Exit.inBlock, Exit.then]); refine bodyPost_ret (results_none rfl _ _ _) rfl ?_))
      exact ⟨rfl, by have h := HCS.out; rw [E.out] at h; exact h, HKT.out⟩
    have d0 : decide ((i' : Int) < (n : Int)) = true := by simp; omega
    have hpi := HP.out.hp wr HCS.out.ch i' hlt
    obtain ⟨g, hg⟩ : ∃ g, g = (parents l).getD i' 0 := ⟨_, rfl⟩
    rw [← hg] at hpi
    have HGG := Lib.hid hg
    clear hg
    by_cases hgf : g = (i : Int)
    case neg =>
      have d1 : (g != (i : Int)) = true := by simpa using hgf
      have HJ2 := Lib.hid (show j = (kidsU (parents l) (i' + 1) i).length by rw [kidsU_succ, if_neg (by rw [← HGG.out]; exact hgf)]; exact HJ.out)
      clear hgf
      go_wp2
      go_roundw
      case rel => exact ⟨j, i' + 1, rfl, by go_num, by omega, by omega, HJ2, HCS.out, HKT.out, HBX.out⟩
      case measure => simp [intOf]; omega
    subst hgf
    have d1 : ((i : Int) != (i : Int)) = false := by simp
    have hks := kidsU_at (m := l.length) HGG.out.symm (by rw [← HN.out]; exact hlt)
    rw [HX.out, ← HJ.out, List.getElem?_map] at hks
    obtain ⟨x, hx, hxi⟩ := Option.map_eq_some_iff.1 hks
    have hxi2 : x.i = i' := by omega
    have HJ2 := Lib.hid (show j + 1 = (kidsU (parents l) (i' + 1) i).length by rw [kidsU_succ, if_pos HGG.out.symm, List.length_append, ← HJ.out]; rfl)
    have KO := HXR.out x (List.mem_of_getElem? hx)
    have hjm : j < m := by rw [← HXL.out]; exact (List.getElem?_eq_some_iff.1 hx).1
    obtain ⟨L, hL⟩ : ∃ L, TK[j]? = some L := ⟨_, List.getElem?_eq_getElem (by rw [← HM.out]; exact hjm)⟩
    obtain ⟨htm, hfo⟩ := HXF.out j x L hx hL
    have hgL : t.k.getD j [] = L := by rw [← HTK.out, List.getD, hL]; rfl
    obtain ⟨d', gk, koff, -, rfl, hck⟩ := KidsAt.get HKD.out (by omega)
    obtain ⟨lv', hlc0, hll⟩ := hck j L hL
    have hlc := HC0.out wr HCS.out.ch _ _ hlc0
    obtain ⟨lo', lcap, rfl, hq1, hq2⟩ := hll.shape
    obtain ⟨q, hqx⟩ : ∃ q, q = L.length := ⟨_, rfl⟩
    rw [← hqx] at hlc hll hq1 htm
    have hqm : q ≤ 9223372036854775807 := by unfold maxLen at hq2; omega
    have b2 : wr.cell? ⟨w.heap.size, 2, none⟩ = some (.slice (some ⟨gk, koff, none⟩) m kc) := by rw [cell_of_row wr _ 2 _ _ _ HBX.out]; rfl
    obtain ⟨a1, -⟩ := HP.out.hs wr HCS.out.ch i' hlt
    have hrx := KO.r
    rw [hxi2] at hrx
    rw [hrx] at a1
    have hxn := HXN.out j x hx
    have hfit := accW_fit hx
    have hlv := lev_kid (l := l) (i := i') (g := i) (by rw [← HN.out]; exact hlt) HGG.out.symm (by rw [hrx]; exact KO.k)
    rw [hrx, HRR.out, HDD.out] at hlv
    have htt := times_le14 (by have := KO.k; omega) htm
    have hcons := atC_cons x.Ws j x.r x.n rr dd r t (by rw [hgL, ← hqx]; have := KO.k; omega)
    rw [hgL] at hcons
    have HKID := Lib.hid (fun p => atC_kid hx hxn rr dd r t p)
    have HXX := Lib.hid hx; have HKO := Lib.hid KO; have HXI := Lib.hid hxi2; have HXNN := Lib.hid hxn; have HFO := Lib.hid hfo; have HQX := Lib.hid hqx; have HLL := Lib.hid hll; have HCO := Lib.hid hcons; have HFIT := Lib.hid hfit; have HRX := Lib.hid hrx
    have HBND := Lib.hid (show ∀ p, (C p ++ atC (accW (X.take j) 0) m0 rr dd r t p ++ atC (x.Ws.map fun W => (j, x.r) :: W) x.n rr dd r t p).length ≤ 1000000 from fun p => by
      have h := HB.out p
      rw [accW_split X (j + 1) 0, atC_app, HKID.out] at h
      simp only [List.length_append] at h ⊢
      omega)
    obtain ⟨rx, hrxx⟩ : ∃ z, z = x.r := ⟨_, rfl⟩
    rw [← hrxx] at a1 hlv htt
    have hk3 := KO.k
    rw [← hrxx] at hk3
    have HRXX := Lib.hid hrxx
    clear hks hx hxi hxi2 KO hL htm hgL hck hlc0 hqx hrx hxn hfit hcons hfo hll hrxx
    by_cases hq0 : q = 0
    · subst hq0
      have hL0 : L = [] := List.eq_nil_of_length_eq_zero HQX.out.symm
      have hnr : rx ≠ 0 := fun e => by have := htt.2.1 e; omega
      rw [if_neg hnr] at hlv
      have HCALL := Lib.hid (HKO.out.c wr _ r dd t HCS.out hr (by omega) (fun p h1 h2 => by
        have h3 := HKO.out.d p h1 h2
        rw [HXI.out, hlv.2] at h3
        refine ⟨by omega, ?_⟩
        have := HBND.out p
        rw [List.length_append] at this
        omega))
      rw [HXI.out] at HCALL
      have HE := Lib.hid (show ∀ p, (C p ++ atC (accW (X.take j) 0) m0 rr dd r t p) ++ nonC x.n x.Ws.length r dd t p = C p ++ atC (accW (X.take (j + 1)) 0) m0 rr dd r t p from fun p => by
        rw [HKID.out, HCO.out, if_pos hL0, List.append_assoc])
      clear hL0 hlv htt hk3 hnr
      go_wp2_with (first
        | (go_at_call 68; (with_reducible refine HCALL.out.mono ?_); rintro e w5 ⟨rfl, hs5, hk5⟩; have HS5 := Lib.hid hs5; have HK5 := Lib.hid hk5; clear hs5 hk5)
        | fail)
      go_roundw
      case rel => exact ⟨j + 1, i' + 1, by go_num, by go_num, by omega, by omega, HJ2, HS5.out.congr HE.out, HKT.out.trans HK5.out, HK5.out _ _ _ HBX.out⟩
      case measure => simp [intOf]; omega
    · have q0 : ((q : Int) == 0) = false := by simp; omega
      have hL0 : L ≠ [] := fun e => hq0 (by rw [HQX.out, e]; rfl)
      obtain ⟨rr', hrr'⟩ : ∃ z : Nat, z = if rx = 2 then rr + 1 else rr := ⟨_, rfl⟩
      obtain ⟨mo, hmo⟩ : ∃ z : Nat, z = if rx = 0 then 0 else 1 := ⟨_, rfl⟩
      have hmo1 : mo ≤ 1 := by rw [hmo]; split <;> omega
      obtain ⟨de, hde⟩ : ∃ z : Nat, z = dd + mo := ⟨_, rfl⟩
      have hl1 : (rls l).getD i' 0 = (rr' : Int) := by rw [hlv.1, hrr']; split <;> simp
      have hl2 : (dls l).getD i' 0 = (de : Int) := by rw [hlv.2, hde, hmo]; split <;> simp
      have hlp := lev_pos l i'
      rw [hl1, hl2, ← HN.out] at hlp
      have HVC := Lib.hid (HKO.out.v rr' de (by rw [HXI.out]; exact hl1) (by rw [HXI.out]; exact hl2))
      rw [HXI.out] at HVC
      have HLS := Lib.hid (show ∀ p, atC (x.Ws.map fun W => (j, x.r) :: W) x.n rr dd r t p = lstC x.Ws x.n rr' de r L p from fun p => by
        rw [HCO.out, if_neg hL0, ← HRXX.out, ← hrr', show (if rx = 0 then dd else dd + 1) = de by rw [hde, hmo]; split <;> omega])
      have HR' := Lib.hid hl1
      have hrr'n : rr' ≤ 1000 := by omega
      have hddm : de ≤ 1000 := by omega
      skip
      have hc3w := HP.out.caps.2.2
      have HHC := Lib.hid K.hc
      have HSTEP := Lib.hid (show ∀ k, k < q → ∀ t4, L[k]? = some t4 → (∀ p, (C p ++ atC (accW (X.take j) 0) m0 rr dd r t p ++ lstC x.Ws x.n rr' de r (L.take k) p) ++ atC x.Ws x.n rr' de (if k = 0 then r else rr') t4 p = C p ++ atC (accW (X.take j) 0) m0 rr dd r t p ++ lstC x.Ws x.n rr' de r (L.take (k + 1)) p) ∧ (∀ p, ((C p ++ atC (accW (X.take j) 0) m0 rr dd r t p ++ lstC x.Ws x.n rr' de r (L.take k) p) ++ atC x.Ws x.n rr' de (if k = 0 then r else rr') t4 p).length ≤ 1000000) from fun k hkq t4 ht4 => by
        have h1 : ∀ p, (C p ++ atC (accW (X.take j) 0) m0 rr dd r t p ++ lstC x.Ws x.n rr' de r (L.take k) p) ++ atC x.Ws x.n rr' de (if k = 0 then r else rr') t4 p = C p ++ atC (accW (X.take j) 0) m0 rr dd r t p ++ lstC x.Ws x.n rr' de r (L.take (k + 1)) p := fun p => by rw [lstC_take _ _ _ _ _ _ _ _ ht4, List.append_assoc]
        refine ⟨h1, fun p => ?_⟩
        rw [h1]
        obtain ⟨R, hR⟩ := lstC_pre x.Ws x.n rr' de r L (k + 1) p
        have h2 := HBND.out p
        rw [HLS.out, hR] at h2
        simp only [List.length_append] at h2 ⊢
        omega)
      have HEND := Lib.hid (show ∀ p, C p ++ atC (accW (X.take j) 0) m0 rr dd r t p ++ lstC x.Ws x.n rr' de r (L.take q) p = C p ++ atC (accW (X.take (j + 1)) 0) m0 rr dd r t p from fun p => by
        rw [HKID.out, HLS.out, HQX.out, List.take_length, List.append_assoc])
      have HBEG := Lib.hid (show ∀ p, C p ++ atC (accW (X.take j) 0) m0 rr dd r t p = C p ++ atC (accW (X.take j) 0) m0 rr dd r t p ++ lstC x.Ws x.n rr' de r (L.take 0) p from fun p => by
        rw [List.take_zero]; show _ = _ ++ []; rw [List.append_nil])
      have hw0 : IntKind.i64.wrap (dd : Int) = (dd : Int) := IntWalk.i64_in _ (by omega)
      have hw1 : IntKind.i64.wrap ((dd : Int) + 1) = (dd : Int) + 1 := IntWalk.i64_in _ (by omega)
      clear hlv htt hL0 hl1 hl2 hlp hrr'
      by_cases h0 : rx = 0
      case' pos =>
        have e1 : (rx != 0) = false := by simp [h0]
        have HDV := Lib.hid (show ((de : Nat) : Int) = (dd : Int) by rw [hde, hmo, if_pos h0, Nat.add_zero])
        clear h0 hmo
      case' neg =>
        have e1 : (rx != 0) = true := by simpa using h0
        have HDV := Lib.hid (show ((de : Nat) : Int) = (dd : Int) + 1 by rw [hde, hmo, if_neg h0]; simp)
        clear h0 hmo
      all_goals
        clear hde hk3 hmo1
        have HVX := Lib.hid (fun D w' C' r' t' kv' a1 a2 a3 a4 a5 => HVC.out D w' C' r' t' kv' a1 a2 a3 a4 a5)
        simp only [HDV.out] at HVX
        clear HVC
        go_wp2
        go_loopw [14] (fun s wx => ∃ (k : Nat), s = .int .i64 (k : Int) ∧ k ≤ q ∧ CS w1 cb N (leavesL l) (fun p => C p ++ atC (accW (X.take j) 0) m0 rr dd r t p ++ lstC x.Ws x.n rr' de r (L.take k) p) wx ∧ KT w wx ∧ wx.heap[w.heap.size]? = some (.cells #[.int .i64 tn, .string ts, .slice (some ⟨gk, koff, none⟩) m kc] 57 (0, 0))) (fun s _ => q - (intOf s).toNat)
        case atStart => exact ⟨0, rfl, Nat.zero_le _, HCS.out.congr HBEG.out, HKT.out, HBX.out⟩
        case round =>
          obtain ⟨k, rfl, hkq, hcs3, hkt3, hbx3⟩ := hrel
          have HCS3 := Lib.hid hcs3; have HKT3 := Lib.hid hkt3; have HBX3 := Lib.hid hbx3
          clear hcs3 hkt3 hbx3
          by_cases hlt2 : k < q
          · have d3 : decide ((k : Int) < (q : Int)) = true := by simp; omega
            have hkw : IntKind.i64.wrap ((k : Int) + 1) = (k : Int) + 1 := IntWalk.i64_in _ (by omega)
            obtain ⟨t4, ht4⟩ : ∃ t, L[k]? = some t := ⟨_, List.getElem?_eq_getElem (by rw [← HQX.out]; exact hlt2)⟩
            obtain ⟨g4, off4, rfl, hc4⟩ := ListAt.get HLL.out (by omega)
            obtain ⟨kv4, v0, v1, v2, hk4⟩ := hc4 k t4 ht4
            have u0 := HC0.out wr HCS3.out.ch _ _ v0
            have u1 := HC0.out wr HCS3.out.ch _ _ v1
            have u2 := HC0.out wr HCS3.out.ch _ _ v2
            have HV0 := Lib.hid (And.intro v0 (And.intro v1 v2))
            obtain ⟨HE1, HE2⟩ := HSTEP.out k hlt2 t4 ht4
            have HE1 := Lib.hid HE1; have HE2 := Lib.hid HE2
            have HOK4 := Lib.hid (HFO.out t4 (List.mem_of_getElem? ht4))
            have HK4 := Lib.hid hk4
            obtain ⟨ko4, kc4, rfl, -, -⟩ := hk4.shape
            obtain ⟨m4, hm4⟩ : ∃ z, z = t4.k.length := ⟨_, rfl⟩
            obtain ⟨n4, hn4⟩ : ∃ z, z = t4.n := ⟨_, rfl⟩
            obtain ⟨s4, hs4⟩ : ∃ z, z = t4.s := ⟨_, rfl⟩
            have HCF := Lib.hid (fun wx (h : Chg [] wr wx) (r4 : Nat) (hr4 : r4 = if k = 0 then r else rr') => HVX.out d' wx _ r4 t4 _ (HCS3.out.keep h HHC.out) (by rw [hr4]; split <;> omega) HK4.out HOK4.out (by rw [hr4]; exact HE2.out))
            rw [← hm4] at u2 HV0 HK4 HCF
            rw [← hn4] at u0 HV0 HCF
            rw [← hs4] at u1 HV0 HCF
            clear hc4 v0 v1 v2 hk4 ht4 hm4 hn4 hs4
            by_cases hk0 : k = 0
            · subst hk0
              rw [show off4 + 0 * 3 = off4 by omega] at u0 u1 u2
              go_wp2_with (first
                | (go_at_call 42; (with_reducible refine (HCF.out wr (Chg.refl [] wr) r rfl).mono ?_); rintro e w5 ⟨rfl, hs5, hk5⟩; have HS5 := Lib.hid hs5; have HK5 := Lib.hid hk5; clear hs5 hk5)
                | fail)
              go_roundw
              case rel => exact ⟨0 + 1, by go_num, hlt2, HS5.out.congr HE1.out, HKT3.out.trans HK5.out, HK5.out _ _ _ HBX3.out⟩
              case measure => simp [intOf]; omega
            · have k0 : ((k : Int) == 0) = false := by simp; omega
              have HS20 := Lib.hid (show ∀ wx, Chg [cb] w1 wx → wx.cell? ⟨wb, 3, none⟩ = some (.slice (some ⟨gr, ro, none⟩) n rc) ∧ wx.cell? ⟨gr, ro + i', none⟩ = some (.int .i64 (rr' : Int)) ∧ wx.cell? ⟨g4, off4 + k * 3, none⟩ = some (.int .i64 n4) ∧ wx.cell? ⟨g4, off4 + k * 3 + 1, none⟩ = some (.string s4) ∧ wx.cell? ⟨g4, off4 + k * 3 + 2, none⟩ = some (.slice ko4 m4 kc4) from fun wx h => ⟨(HP.out.hw wx h).2.2, by rw [← HR'.out]; exact HP.out.hr wx h i' hlt, HC0.out wx h _ _ HV0.out.1, HC0.out wx h _ _ HV0.out.2.1, HC0.out wx h _ _ HV0.out.2.2⟩)
              have HCF2 := Lib.hid (fun wx (h : Chg [] wr wx) => HCF.out wx h rr' (by rw [if_neg hk0]))
              have HCH3 := Lib.hid HCS3.out.ch; have HK0 := Lib.hid hk0
              clear hk0 u0 u1 u2
              go_upto_region 20 with fail
              go_region_held3 (fun w' => w'.cell? ⟨wb, 3, none⟩ = some (.slice (some ⟨gr, ro, none⟩) n rc) ∧ w'.cell? ⟨gr, ro + i', none⟩ = some (.int .i64 (rr' : Int)) ∧ w'.cell? ⟨g4, off4 + k * 3, none⟩ = some (.int .i64 n4) ∧ w'.cell? ⟨g4, off4 + k * 3 + 1, none⟩ = some (.string s4) ∧ w'.cell? ⟨g4, off4 + k * 3 + 2, none⟩ = some (.slice ko4 m4 kc4)) (first | (exact HS20.out _ HCH3.out) | (exact HS20.out _ HCH3.out.drew) | (exact HS20.out _ HCH5.out) | (exact HS20.out _ HCH5.out.drew)) (first
                | (go_at_call 42; (with_reducible refine (HCF2.out _ (by first | exact (Chg.refl [] _) | exact (Chg.refl [] _).drew | exact (Chg.refl [] _).drewN _)).mono ?_); rintro e w5 ⟨rfl, hs5, hk5⟩; have HS5 := Lib.hid hs5; have HK5 := Lib.hid hk5; have HCH5 := Lib.hid hs5.ch; clear hs5 hk5))
              go_wp2
              go_roundw
              case rel => exact ⟨k + 1, by go_num, hlt2, HS5.out.congr (fun p => by have h := HE1.out p; rw [if_neg HK0.out] at h; exact h), HKT3.out.trans HK5.out, HK5.out _ _ _ HBX3.out⟩
              case measure => simp [intOf]; omega
          · have d3 : decide ((k : Int) < (q : Int)) = false := by simp; omega
            have ek : k = q := by omega
            have HCS4 := Lib.hid (show CS w1 cb N (leavesL l) (fun p => C p ++ atC (accW (X.take (j + 1)) 0) m0 rr dd r t p) wr from by have h := HCS3.out; rw [ek] at h; exact h.congr HEND.out)
            clear ek
            go_wp2
            go_roundw
            case rel => exact ⟨j + 1, i' + 1, by go_num, by go_num, by omega, by omega, HJ2, HCS4.out, HKT3.out, HBX3.out⟩
            case measure => simp [intOf]; omega

end Go.Proofs.Ytfdmbpfpdijpdaa
