/- The reference's Columns. -/
import Derived.Test.YtfdmbpfpdijpdaaVG
import Derived.Test.YtfdmbpfpdijpdaaYV
import Derived.Test.YtfdmbpfpdijpdaaShn
namespace Go.Proofs.Ytfdmbpfpdijpdaa
open Go.RowKit
set_option linter.unusedVariables false
set_option linter.unusedSimpArgs false

/-- All cells of records, by leaves. -/
def colA (l : List F) (T : List Tr) (p : Nat) : List Cl := T.flatMap fun t => atC (lways l) 0 0 0 0 t p

theorem colA_snoc (l : List F) (T : List Tr) (t : Tr) (p : Nat) : colA l (T ++ [t]) p = colA l T p ++ atC (lways l) 0 0 0 0 t p := by
  simp [colA]

theorem colA_take {l : List F} {T : List Tr} {i : Nat} {t : Tr} (h : T[i]? = some t) (p : Nat) : colA l (T.take (i + 1)) p = colA l (T.take i) p ++ atC (lways l) 0 0 0 0 t p := by
  rw [List.take_add_one, h]
  exact colA_snoc l _ t p

theorem colA_col {l : List F} {T : List Tr} {p : Nat} {W : List Stp} (h : (lways l)[p]? = some W) : colA l T p = colC W T := by
  unfold colA colC atC
  congr 1
  funext t
  rw [if_pos (Nat.zero_le _), Nat.sub_zero, h]

theorem colA_pre (l : List F) (T : List Tr) (i : Nat) (p : Nat) : ∃ R, colA l T p = colA l (T.take i) p ++ R :=
  ⟨colA l (T.drop i) p, by unfold colA; rw [← List.flatMap_append, List.take_append_drop]⟩

/-- Columns' cells, read. -/
theorem CS.cols {w1 w : World} {cb N : Nat} {Ls : List L} {C : Nat → List Cl} (h : CS w1 cb N Ls C w) (hN : N ≤ 1000000) : ColsS w cb N (fun j => colR (C j)) (fun j => colD (C j)) (fun j => colV (Ls.getD j default).d (C j)) := by
  obtain ⟨F, A, hA, hF, hG⟩ := h.st
  refine ⟨hN, fun j hj => ?_⟩
  obtain ⟨q0, q1, q2⟩ := refX_at Ls C j
  have o0 := hG.own (j * 3) (by omega)
  have o1 := hG.own (j * 3 + 1) (by omega)
  have o2 := hG.own (j * 3 + 2) (by omega)
  rw [q0] at o0
  rw [q1] at o1
  rw [q2] at o2
  refine ⟨F (j * 3), F (j * 3 + 1), F (j * 3 + 2), ?_, ?_, ?_, seenI_of_own o0 rfl, seenI_of_own o1 rfl, SeenK.own V.cs_len o2 rfl⟩
  · rw [cell_of_row w cb _ _ _ _ hA]; exact hF _ (by omega)
  · rw [cell_of_row w cb _ _ _ _ hA]; exact hF _ (by omega)
  · rw [cell_of_row w cb _ _ _ _ hA]; exact hF _ (by omega)

theorem CS.head {w1 w : World} {cb N : Nat} {Ls : List L} {C : Nat → List Cl} (h : CS w1 cb N Ls C w) {k : Nat} (hk : k < N) : ∃ ro rc, w.cell? ⟨cb, k * 3, none⟩ = some (.slice ro (C k).length rc) := by
  obtain ⟨F, A, hA, hF, hG⟩ := h.st
  obtain ⟨q0, -, -⟩ := refX_at Ls C k
  have o0 := hG.own (k * 3) (by omega)
  rw [q0] at o0
  obtain ⟨ro, rc, e⟩ := own_shape o0
  refine ⟨ro, rc, ?_⟩
  rw [cell_of_row w cb _ _ _ _ hA, hF _ (by omega), e, colR_length]

/-- What the reference's Columns gives, the schema being one. -/
def RColsOut (l : List F) (L0 : List Tr) (w : World) (e : Ending) (w' : World) : Prop :=
  Chg [] w w' ∧
  if 200 < L0.length then e = .returned (.tuple #[.slice none 0 0, .int .i64 4])
  else if fitL l 0 L0 ≠ 0 then e = .returned (.tuple #[.slice none 0 0, .int .i64 (fitL l 0 L0)])
  else if ∀ p, p < (leavesL l).length → (colA l L0 p).length ≤ 4000 then ∃ cb cc w1, e = .returned (.tuple #[.slice (some ⟨cb, 0, none⟩) (leavesL l).length cc, .int .i64 0]) ∧ (leavesL l).length ≤ cc ∧ cc ≤ maxLen ∧ w.heap.size ≤ cb ∧ CS w1 cb (leavesL l).length (leavesL l) (colA l L0) w' ∧ w.heap.size ≤ w1.heap.size
  else e = .returned (.tuple #[.slice none 0 0, .int .i64 4])

theorem fitL_first {l : List F} {f : Nat} : ∀ (T : List Tr) (i : Nat) (t : Tr), T[i]? = some t → (∀ j u, j < i → T[j]? = some u → fitV l f u = 0) → fitV l f t ≠ 0 → fitL l f T = fitV l f t
  | [], i, t, h, _, _ => by simp at h
  | x :: T, 0, t, h, _, h3 => by
    simp at h
    subst h
    rw [fitL]
    unfold orE
    rw [if_pos h3]
  | x :: T, i + 1, t, h, h2, h3 => by
    have hx := h2 0 x (by omega) rfl
    rw [fitL, hx]
    unfold orE
    rw [if_neg (by simp)]
    exact fitL_first T i t (by simpa using h) (fun j u hj hu => h2 (j + 1) u (by omega) (by simpa using hu)) h3

set_option maxRecDepth 100000 in
set_option maxHeartbeats 8000000 in
theorem rcolumns14_any (sv lv : Value) (l : List F) (L0 : List Tr) (d : Nat) (w : World) (hS : SeenF w sv l) (hL : ListAt w d L0 lv) (hchk : chk l = 0) {r0 : F} {fo : Fo} (hl : l = r0 :: fo.flat) (hr1 : r0.k = 0) (hr0 : r0.r = 0) (hr3 : r0.c = fo.num) (hwf : fo.wf)
    (hw : ∀ f ∈ l, f.c ≤ 9223372036854775807) (hN : 0 < (leavesL l).length) (hbig : ∀ t ∈ L0, fitV l 0 t = 0 → ∀ p, (atC (lways l) 0 0 0 0 t p).length ≤ 900000) :
    Calls Try.prog 18 #[sv, lv] w (RColsOut l L0 w) := by
  obtain ⟨ao, cap, rfl, hc1, hc2⟩ := hS.shape
  obtain ⟨lo, lc, rfl, hl1, hl2⟩ := hL.shape
  have hok := chk_fit hchk
  have hlen : 1 ≤ l.length ∧ l.length ≤ 40 := chk_len hchk
  have hN40 : (leavesL l).length ≤ 40 := by have := leavesTo_le l l.length; unfold leavesL; omega
  have HFIT := Lib.hid (fun wx (h : Chg [] w wx) t kv (hk : KidsAt wx d t.k kv) => rfitsTop_any (.slice ao l.length cap) kv l t d wx (hS.keep h) hk (by omega) hok hw)
  have HBG := Lib.hid (fun wx (h : Chg [] w wx) => rbegin14_any (.slice ao l.length cap) l wx (hS.keep h) hlen.1 (by omega) hw hN)
  have HRT := Lib.hid (show ∀ (wx w1 : World) (wb cb cc : Nat) (sv pv lv rv : Value), WK14 wx w1 wb cb (leavesL l).length cc l sv pv lv rv → VC wx w1 wb cb (leavesL l).length (leavesL l) 0 0 0 0 (lways l) (fun t => fitF fo t.k) from fun _ _ _ _ _ _ _ _ _ K => rvalue_root K (fun i hi => hok.r i hi) hl hr1 hr0 hr3 hwf)
  have HFF := Lib.hid (show ∀ t, fitV l 0 t = 0 → fitF fo t.k from fun t hv => by
    obtain ⟨-, hk0, hHK⟩ := hasK_root hl hr1 hr3 hwf
    have hg0 : (l.getD 0 default).k = 0 := by rw [hl]; exact hr1
    rw [fitV_group hg0, hk0] at hv
    split at hv
    · contradiction
    rename_i h7
    rw [tops_len] at h7
    have h8 : t.k.length = fo.num := Decidable.byContradiction fun e => h7 (.inr (.inr e))
    exact fitF_of l fo 1 t.k hHK hwf hv h8)
  have HRO := Lib.hid (show ∀ e w', RColsOut l L0 w e w' ↔ RColsOut l L0 w e w' from fun _ _ => Iff.rfl)
  obtain ⟨OUT, hOUT⟩ : ∃ O, O = RColsOut l L0 w := ⟨_, rfl⟩
  have HOUT := Lib.hid hOUT
  rw [← hOUT]
  obtain ⟨N, hNN⟩ : ∃ z, z = (leavesL l).length := ⟨_, rfl⟩
  have HNN := Lib.hid hNN
  rw [← hNN] at HBG HRT hN hN40
  obtain ⟨n, hn⟩ : ∃ z, z = l.length := ⟨_, rfl⟩
  rw [← hn] at hS HFIT HBG hc1 hlen ⊢
  obtain ⟨m, hm⟩ : ∃ z, z = L0.length := ⟨_, rfl⟩
  rw [← hm] at hL hl1 ⊢
  have HM := Lib.hid hm; have HL := Lib.hid hL; have HBIG := Lib.hid hbig
  clear hS hL hok hl hr1 hr0 hr3 hwf hw hbig hchk hOUT hNN hn hm HRO
  go_enter Try.func18, Try.ntmps18
  by_cases hm2 : 200 < m
  · have d0 : decide ((200 : Int) < (m : Int)) = true := by simp; omega
    go_wp2
    rw [HOUT.out]
    refine ⟨Chg.refl _ _, ?_⟩
    rw [if_pos (by rw [← HM.out]; exact hm2)]
    rfl
  have d0 : decide ((200 : Int) < (m : Int)) = false := by simp; omega
  go_wp2
  go_loopw [6] (fun x wx => ∃ i : Nat, x = .int .i64 (i : Int) ∧ i ≤ m ∧ Chg [] w wx ∧ Hid (∀ j u, j < i → L0[j]? = some u → fitV l 0 u = 0)) (fun x _ => m - (intOf x).toNat)
  case atStart => exact ⟨0, rfl, Nat.zero_le _, Chg.refl _ _, Lib.hid fun j u hj => by omega⟩
  case round =>
    obtain ⟨i, rfl, him, hc, HFA⟩ := hrel
    have HC := Lib.hid hc
    clear hc
    by_cases hlt : i < m
    · have d1 : decide ((i : Int) < (m : Int)) = true := by simp; omega
      have hiw : IntKind.i64.wrap ((i : Int) + 1) = (i : Int) + 1 := IntWalk.i64_in _ (by omega)
      obtain ⟨t, ht⟩ : ∃ t, L0[i]? = some t := ⟨_, List.getElem?_eq_getElem (by rw [← HM.out]; exact hlt)⟩
      obtain ⟨g4, off4, rfl, hc4⟩ := ListAt.get HL.out (by omega)
      obtain ⟨kv4, v0, v1, v2, hk4⟩ := hc4 i t ht
      have u0 := HC.out.cell v0 (by simp)
      have u1 := HC.out.cell v1 (by simp)
      have u2 := HC.out.cell v2 (by simp)
      have HCALL := Lib.hid (HFIT.out wr HC.out t kv4 (hk4.keep HC.out))
      obtain ⟨e, he⟩ : ∃ e, e = fitV l 0 t := ⟨_, rfl⟩
      rw [← he] at HCALL
      obtain ⟨ko4, kc4, rfl, -, -⟩ := hk4.shape
      have HT := Lib.hid ht; have HE := Lib.hid he
      clear hc4 v0 v1 v2 hk4 ht he
      by_cases he0 : e = 0
      · have d2 : (e != 0) = false := by simp [he0]
        have HFA2 := Lib.hid (show ∀ j u, j < i + 1 → L0[j]? = some u → fitV l 0 u = 0 from fun j u hj hu => by
          by_cases e2 : j = i
          · subst e2
            rw [HT.out] at hu
            injection hu with hu
            subst hu
            rw [← HE.out]; exact he0
          · exact HFA.out j u (by omega) hu)
        clear he0
        go_wp2_with (first
          | (go_at_call 26; (with_reducible refine HCALL.out.mono ?_); rintro e w2 ⟨rfl, hk2⟩; have HC2 := Lib.hid (HC.out.trans hk2 (by simp)); clear hk2)
          | fail)
        go_roundw
        case rel => exact ⟨i + 1, by go_num, by omega, HC2.out, HFA2⟩
        case measure => simp [intOf]; omega
      · have d2 : (e != 0) = true := by simpa using he0
        have HE0 := Lib.hid he0
        clear he0
        go_wp2_with (first
          | (go_at_call 26; (with_reducible refine HCALL.out.mono ?_); rintro e w2 ⟨rfl, hk2⟩; have HC2 := Lib.hid (HC.out.trans hk2 (by simp)); clear hk2)
          | fail)
        rw [HOUT.out]
        refine ⟨HC2.out, ?_⟩
        have hfl := fitL_first L0 i t HT.out HFA.out (by rw [← HE.out]; exact HE0.out)
        rw [if_neg (by rw [← HM.out]; exact hm2), if_pos (by rw [hfl, ← HE.out]; exact HE0.out), hfl, ← HE.out]
        rfl
    · have d1 : decide ((i : Int) < (m : Int)) = false := by simp; omega
      have him2 : i = m := by omega
      have HFL := Lib.hid (show fitL l 0 L0 = 0 from fitL_zero fun t ht => by
        obtain ⟨j, hj⟩ := List.mem_iff_getElem?.1 ht
        exact HFA.out j t (by rw [him2, HM.out]; exact (List.getElem?_eq_some_iff.1 hj).1) hj)
      have HFA3 := Lib.hid (show ∀ t ∈ L0, fitV l 0 t = 0 from fun t ht => by
        obtain ⟨j, hj⟩ := List.mem_iff_getElem?.1 ht
        exact HFA.out j t (by rw [him2, HM.out]; exact (List.getElem?_eq_some_iff.1 hj).1) hj)
      clear him2
      go_wp2_with fail
      refine (HBG.out wr HC.out).mono ?_
      rintro e w1 ⟨wb, cb, cc, pv, lv', rv, rfl, hk, hroom, hK, hCS⟩
      have HROOM := Lib.hid hroom; have HK := Lib.hid hK; have HCS := Lib.hid hCS; have HC1 := Lib.hid (HC.out.trans hk (by simp))
      have HV := Lib.hid (HRT.out _ _ _ _ _ _ _ _ _ hK)
      clear hk hK hCS hroom
      go_wp2
      go_loopw [9] (fun x wx => ∃ i : Nat, x = .int .i64 (i : Int) ∧ i ≤ m ∧ CS w1 cb N (leavesL l) (colA l (L0.take i)) wx ∧ Hid (∀ p, p < N → (colA l (L0.take i) p).length ≤ 4000)) (fun x _ => m - (intOf x).toNat)
      case atStart => exact ⟨0, rfl, Nat.zero_le _, HCS.out, Lib.hid fun p hp => by simp [colA]⟩
      case round =>
        obtain ⟨i, rfl, him, hcs, HSM⟩ := hrel
        have HCS2 := Lib.hid hcs
        clear hcs
        by_cases hlt2 : i < m
        · have d2 : decide ((i : Int) < (m : Int)) = true := by simp; omega
          have hiw : IntKind.i64.wrap ((i : Int) + 1) = (i : Int) + 1 := IntWalk.i64_in _ (by omega)
          obtain ⟨t, ht⟩ : ∃ t, L0[i]? = some t := ⟨_, List.getElem?_eq_getElem (by rw [← HM.out]; exact hlt2)⟩
          obtain ⟨g4, off4, rfl, hc4⟩ := ListAt.get HL.out (by omega)
          obtain ⟨kv4, v0, v1, v2, hk4⟩ := hc4 i t ht
          have HC0 := Lib.hid (HC1.out.trans HCS2.out.ch (fun g hg => .inr (by simp at hg; subst hg; exact Nat.le_trans HC.out.size HK.out.lo)))
          have u0 := HC0.out.cell v0 (by simp)
          have u1 := HC0.out.cell v1 (by simp)
          have u2 := HC0.out.cell v2 (by simp)
          have hft := HFA3.out t (List.mem_of_getElem? ht)
          have HCALL := Lib.hid (HV.out d _ _ 0 t kv4 HCS2.out (by omega) (hk4.keep HC.out) (HFF.out t hft) (fun p => by
            rw [List.length_append]
            have h1 := HBIG.out t (List.mem_of_getElem? ht) hft p
            by_cases hp : p < N
            · have := HSM.out p hp; omega
            · have e0 : colA l (L0.take i) p = [] := by
                unfold colA
                rw [List.flatMap_eq_nil_iff]
                intro u _
                unfold atC
                rw [if_pos (Nat.zero_le _), List.getElem?_eq_none (by rw [Nat.sub_zero, lways_len, ← HNN.out]; omega)]
              rw [e0]
              simp
              omega))
          rw [show ((0 : Nat) : Int) = 0 from rfl] at HCALL
          obtain ⟨ko4, kc4, rfl, -, -⟩ := hk4.shape
          have HNX := Lib.hid (fun p => colA_take (l := l) ht p)
          clear hc4 v0 v1 v2 hk4 ht hft
          go_wp2_with (first
            | (go_at_call 42; (with_reducible refine HCALL.out.mono ?_); rintro e w2 ⟨rfl, hs2, -⟩; have HS2 := Lib.hid (show CS w1 cb N (leavesL l) (colA l (L0.take (i + 1))) w2 from hs2.congr fun p => (HNX.out p).symm); clear hs2)
            | fail)
          go_loopw [10] (fun x wx => ∃ k : Nat, x = .int .i64 (k : Int) ∧ k ≤ N ∧ wx = w2 ∧ Hid (∀ p, p < k → (colA l (L0.take (i + 1)) p).length ≤ 4000)) (fun x _ => N - (intOf x).toNat)
          case atStart => exact ⟨0, rfl, Nat.zero_le _, rfl, Lib.hid fun p hp => by omega⟩
          case round =>
            obtain ⟨k, rfl, hkN, hwq, HK2⟩ := hrel
            obtain ⟨wq, rfl⟩ : ∃ wq, wq = wr := ⟨_, rfl⟩
            subst hwq
            have y4 := (HK.out.hw wq HS2.out.ch).2.2.2.2
            by_cases hlt3 : k < N
            · have d3 : decide ((k : Int) < (N : Int)) = true := by simp; omega
              have hkw : IntKind.i64.wrap ((k : Int) + 1) = (k : Int) + 1 := IntWalk.i64_in _ (by omega)
              obtain ⟨ro, rc, hh⟩ := HS2.out.head hlt3
              obtain ⟨q, hq⟩ : ∃ q, q = (colA l (L0.take (i + 1)) k).length := ⟨_, rfl⟩
              rw [← hq] at hh
              have HQ := Lib.hid hq
              clear hq
              by_cases hq4 : 4000 < q
              · have d4 : decide ((4000 : Int) < (q : Int)) = true := by simp; omega
                have HQ4 := Lib.hid hq4
                clear hq4
                go_wp2
                rw [HOUT.out]
                refine ⟨HC1.out.trans HS2.out.ch (fun g hg => .inr (by simp at hg; subst hg; exact Nat.le_trans HC.out.size HK.out.lo)), ?_⟩
                rw [if_neg (by rw [← HM.out]; exact hm2), if_neg (by rw [HFL.out]; simp), if_neg (fun h => by
                  have h2 := h k (by rw [← HNN.out]; exact hlt3)
                  obtain ⟨R, hR⟩ := colA_pre l L0 (i + 1) k
                  rw [hR, List.length_append, ← HQ.out] at h2
                  have := HQ4.out
                  omega)]
                rfl
              · have d4 : decide ((4000 : Int) < (q : Int)) = false := by simp; omega
                have HK3 := Lib.hid (show ∀ p, p < k + 1 → (colA l (L0.take (i + 1)) p).length ≤ 4000 from fun p hp => by
                  by_cases e2 : p = k
                  · subst e2; rw [← HQ.out]; omega
                  · exact HK2.out p (by omega))
                clear hq4
                go_wp2
                go_roundw
                case rel => exact ⟨k + 1, by go_num, by omega, by trivial, HK3⟩
                case measure => simp [intOf]; omega
            · have d3 : decide ((k : Int) < (N : Int)) = false := by simp; omega
              have HK3 := Lib.hid (show ∀ p, p < N → (colA l (L0.take (i + 1)) p).length ≤ 4000 from fun p hp => HK2.out p (by omega))
              go_wp2
              go_roundw
              case rel => exact ⟨i + 1, by go_num, by omega, HS2.out, HK3⟩
              case measure => simp [intOf]; omega
        · have d2 : decide ((i : Int) < (m : Int)) = false := by simp; omega
          have ET := Lib.hid (show L0.take i = L0 from List.take_of_length_le (by rw [← HM.out]; omega))
          have y4 := (HK.out.hw wr HCS2.out.ch).2.2.2.2
          go_wp2
          rw [HOUT.out]
          refine ⟨HC1.out.trans HCS2.out.ch (fun g hg => .inr (by simp at hg; subst hg; exact Nat.le_trans HC.out.size HK.out.lo)), ?_⟩
          have hsm := HSM.out
          have hcs := HCS2.out
          rw [ET.out] at hsm hcs
          rw [HNN.out] at hsm hcs
          rw [if_neg (by rw [← HM.out]; exact hm2), if_neg (by rw [HFL.out]; simp), if_pos hsm]
          refine ⟨cb, cc, w1, by rw [HNN.out]; rfl, ?_, ?_, Nat.le_trans HC.out.size HK.out.lo, hcs, HC1.out.size⟩
          · rw [← HNN.out]; exact HROOM.out.1
          · exact HROOM.out.2

end Go.Proofs.Ytfdmbpfpdijpdaa
