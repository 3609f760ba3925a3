/- Lo, Hy, Jh, Ji, Jk: texts of one group, one behind the other. -/
import Derived.Test.YtkbfbiklnjldgaaZi
import Derived.Test.YtkbfbiklnjldgaaC1
import Derived.Test.YtkbfbiklnjldgaaA1
import Derived.Test.YtkbfbiklnjldgaaMp
import Derived.Test.YtkbfbiklnjldgaaHG
import Derived.Test.YtkbfbiklnjldgaaYD
import Derived.Deep.RegionHeld3
import Derived.Test.YtkbfbiklnjldgaaHF
import Derived.Test.YtkbfbiklnjldgaaV4
import Derived.Test.YtkbfbiklnjldgaaYC
import Derived.Maps.AppendAt
import Derived.Test.YtkbfbiklnjldgaaA7
namespace Go.Proofs.Ytkbfbiklnjldgaa
open Go.RowKit
set_option linter.unusedVariables false
set_option linter.unusedSimpArgs false

/-- A number's lowest bytes, the lowest first. -/
def lo : Nat → Nat → List Nat
  | 0, _ => []
  | n + 1, v => v % 256 :: lo n (v / 256)

@[simp] theorem lo_length : ∀ n v, (lo n v).length = n
  | 0, _ => rfl
  | n + 1, v => by simp [lo, lo_length n]

theorem lo_bytes : ∀ n v, ∀ x ∈ lo n v, x < 2 ^ 8
  | 0, _ => by simp [lo]
  | n + 1, v => by
    intro x hx
    rcases List.mem_cons.1 hx with rfl | h
    · omega
    · exact lo_bytes n _ x h

theorem low_lo : ∀ (k v : Nat), low k (v : Int) = zi (lo k v)
  | 0, v => rfl
  | k + 1, v => by
    have e : ((v : Int) / 256) = ((v / 256 : Nat) : Int) := by omega
    rw [low, lo, e, low_lo k (v / 256)]
    simp [zi]

theorem zi_app (a b : List Nat) : zi a ++ zi b = zi (a ++ b) := by simp [zi]

theorem lo_snoc : ∀ (n v : Nat), lo (n + 1) v = lo n v ++ [v / 256 ^ n % 256]
  | 0, v => by simp [lo]
  | n + 1, v => by
    have h := lo_snoc n (v / 256)
    have e : lo (n + 2) v = v % 256 :: lo (n + 1) (v / 256) := rfl
    rw [e, h]
    have e2 : lo (n + 1) v = v % 256 :: lo n (v / 256) := rfl
    rw [e2, Nat.div_div_eq_div_mul, Nat.pow_succ, Nat.mul_comm 256]
    rfl

set_option maxRecDepth 100000 in
set_option maxHeartbeats 1000000 in
theorem rcput_any (bv : Value) (b : List Nat) (k v : Nat) (w : World) (hk : k ≤ 8) (hv : v < 18446744073709551616) (hl : b.length < 137438953472) (hS : Seen w bv (nv .u8 b)) :
    Calls Try.prog 53 #[bv, .int .i64 (k : Int), .int .u64 (v : Int)] w fun e w' => ∃ x, e = .returned x ∧ Made 5 .u8 (b ++ lo k v) w x w' := by
  obtain ⟨i0, hi, hz0, hz1, hz2⟩ := info_u8
  obtain ⟨ao, cap, rfl, hc1, hc2⟩ := hS.shape
  rw [nv_length] at hc1 hS
  rw [nv_length]
  have HS := Lib.hid hS
  obtain ⟨m, hm⟩ : ∃ m, m = b.length := ⟨_, rfl⟩
  rw [← hm] at HS hc1 hl ⊢
  have HM := Lib.hid hm
  have hone := Lib.hid (nv_one .u8 b)
  clear hS hm hc2
  go_enter Try.func53, Try.ntmps53
  go_wp2_with (at_builtin; refine wpList_append_reads _ rfl _ _ 30 30 rfl w.heap.size 5 5 i0 (.int .u8 0) 1 Try.underlying30 Try.underlying30 hi hz0 hz1 hz2 rfl (.slice (some ⟨w.heap.size, 0, none⟩) 0 0) 0 [] rfl (own_lit w _ _ rfl (Nat.le_refl _) 5 _ _ 0 1 rfl rfl (by decide)) _ (nv .u8 b) rfl (HS.out.keep ((Chg.refl [] w).alloc _)) hone.out ?c1 ?c2 ?c3 ?_)
  case c1 => rw [nv_length, ← HM.out]; unfold maxLen; omega
  case c2 => rw [nv_length, ← HM.out]; omega
  case c3 => simp
  intro v1 w1 hown1 hgrow1
  have HC1 := Lib.hid (((Chg.refl [] w).alloc (.cells #[] 5)).grown hgrow1 (fun k hk => .inr (by simp [Value.ownBlock] at hk; omega)))
  have HO1 := Lib.hid (show w1.ownsRow w.heap.size 5 1 v1 m (nv .u8 b) by rw [HM.out]; exact hown1)
  obtain ⟨o1, c1, rfl⟩ := own_shape HO1.out
  clear hown1 hgrow1
  go_wp2
  go_loopw [0, 7] (fun x i w' => ∃ j : Nat, j ≤ k ∧ i = .int .i64 (j : Int) ∧ Chg [] w w' ∧ w'.ownsRow w.heap.size 5 1 x (m + j) (nv .u8 (b ++ lo j v))) (fun _ i _ => k - (intOf i).toNat)
  case atStart => exact ⟨0, Nat.zero_le _, rfl, HC1.out, by simpa [lo] using HO1.out⟩
  case round =>
    obtain ⟨j, hj, rfl, hc, ho⟩ := hrel
    obtain ⟨xo, xc, rfl⟩ := own_shape ho
    have HC := Lib.hid hc; have HO := Lib.hid ho
    have hB := hc.size
    clear hc ho
    by_cases hjk : j < k
    · have hlt : decide ((j : Int) < (k : Int)) = true := by simp; omega
      have hk8 : decide ((k : Int) ≤ 8) = true := by simp; omega
      have hs1 : IntKind.u64.wrap (j : Int) = (j : Int) := wraps64 _ (by omega) (by omega)
      have hs2 : IntKind.u64.wrap (8 * (j : Int)) = ((8 * j : Nat) : Int) := by rw [wraps64 _ (by omega) (by omega)]; omega
      have E := Lib.hid (show nv .u8 (b ++ lo j v) ++ [.int .u8 ((v : Int) / 2 ^ (8 * j) % 256)] = nv .u8 (b ++ lo (j + 1) v) by
        have e : (v : Int) / 2 ^ (8 * j) % 256 = ((v / 256 ^ j % 256 : Nat) : Int) := by
          rw [show (256 : Nat) ^ j = 2 ^ (8 * j) by rw [show (256 : Nat) = 2 ^ 8 by decide, ← Nat.pow_mul]]
          push_cast; rfl
        rw [e, lo_snoc, ← List.append_assoc]; simp [nv])
      go_wp2_with (at_builtin; refine wpList_append_own _ rfl _ _ 30 rfl w.heap.size 5 i0 (.int .u8 0) 1 1 Try.underlying30 hi hz0 hz1 hz2 rfl (by decide) _ _ _ rfl (HO.out.alloc _) ⟨wr.heap.size, 0, none⟩ 1 1 [.int .u8 ((v : Int) / 2 ^ (8 * j) % 256)] rfl rfl ?c1 ?c2 ?c3 ?c4 ?c5 ?_)
      case c1 => exact (cell_one_new _ _ _)
      case c2 => simp [Value.oneCell']
      case c3 => unfold maxLen; omega
      case c4 => omega
      case c5 => simp; omega
      intro v' w2 hown' hgrow _
      rw [E.out] at hown'
      have HG := Lib.hid ((HC.out.alloc (.cells #[.int .u8 ((v : Int) / 2 ^ (8 * j) % 256)] 5)).grown hgrow (fun k hk => .inr (HO.out.lt k hk).1))
      have HO2 := Lib.hid hown'
      clear hgrow hown'
      go_wp2
      go_roundw
      case rel => exact ⟨j + 1, hjk, by go_num, HG.out, HO2.out⟩
      case measure => simp [intOf]; omega
    · have hlt : decide ((j : Int) < (k : Int)) = false := by simp; omega
      have hjk : j = k := by omega
      subst hjk
      go_wp2
      go_ret
      refine ⟨_, rfl, HC.out, ?_⟩
      have h := HO.out
      rw [List.length_append, lo_length, ← HM.out]
      exact h

end Go.Proofs.Ytkbfbiklnjldgaa

namespace Go.Proofs.Ytkbfbiklnjldgaa
open Go.RowKit
set_option linter.unusedVariables false
set_option linter.unusedSimpArgs false

def SmL (a b : List Tr) (e : Ending) : Prop := ∃ r, e = .returned (.bool r) ∧ (r = true ↔ a = b)

set_option maxRecDepth 100000 in
set_option maxHeartbeats 4000000 in
theorem rtrees_any (d : Nat) (A B : List Tr) (av bv : Value) (w : World) (hA : ListAt w d A av) (hB : ListAt w d B bv) :
    Calls Try.prog 11 #[av, bv] w fun e w' => SmL A B e ∧ Chg [] w w' := by
  obtain ⟨ao, ac, rfl, ha1, ha2⟩ := hA.shape
  obtain ⟨bo, bc, rfl, hb1, hb2⟩ := hB.shape
  obtain ⟨n, hn⟩ : ∃ n, n = A.length := ⟨_, rfl⟩
  obtain ⟨m, hm⟩ : ∃ m, m = B.length := ⟨_, rfl⟩
  rw [← hn] at hA ha1 ⊢
  rw [← hm] at hB hb1 ⊢
  have HA := Lib.hid hA; have HB := Lib.hid hB; have HN := Lib.hid hn; have HM := Lib.hid hm
  unfold maxLen at ha2 hb2
  clear hA hB hn hm
  by_cases hnm : n = m
  · subst hnm
    have d0 : ((n : Int) != (n : Int)) = false := by simp
    go_enter Try.func11, Try.ntmps11
    go_wp2
    go_loopw [5] (fun x w' => ∃ i : Nat, x = .int .i64 (i : Int) ∧ i ≤ n ∧ Hid (A.take i = B.take i) ∧ Chg [] w w') (fun x _ => n - (intOf x).toNat)
    case atStart => exact ⟨0, rfl, Nat.zero_le _, Lib.hid rfl, Chg.refl _ _⟩
    case round =>
      obtain ⟨i, rfl, hi, HTK, hc⟩ := hrel
      have HC := Lib.hid hc
      clear hc
      by_cases hlt : i < n
      · have hd : decide ((i : Int) < (n : Int)) = true := by simp; omega
        obtain ⟨a, ha⟩ : ∃ a, A[i]? = some a := ⟨_, List.getElem?_eq_getElem (by rw [← HN.out]; exact hlt)⟩
        obtain ⟨b, hb⟩ : ∃ b, B[i]? = some b := ⟨_, List.getElem?_eq_getElem (by rw [← HM.out]; exact hlt)⟩
        obtain ⟨ga, oa, rfl, hca⟩ := HA.out.get (by omega)
        obtain ⟨gb, ob, rfl, hcb⟩ := HB.out.get (by omega)
        obtain ⟨ka, a0, a1, a2, hka⟩ := hca i a ha
        obtain ⟨kb, b0, b1, b2, hkb⟩ := hcb i b hb
        have HPR := Lib.hid (show wr.cell? ⟨ga, oa + i * 3, none⟩ = some (.int .i64 a.n) ∧ wr.cell? ⟨ga, oa + i * 3 + 1, none⟩ = some (.string a.s) ∧ wr.cell? ⟨ga, oa + i * 3 + 2, none⟩ = some ka ∧ wr.cell? ⟨gb, ob + i * 3, none⟩ = some (.int .i64 b.n) ∧ wr.cell? ⟨gb, ob + i * 3 + 1, none⟩ = some (.string b.s) ∧ wr.cell? ⟨gb, ob + i * 3 + 2, none⟩ = some kb from
          ⟨HC.out.cell a0 (by simp), HC.out.cell a1 (by simp), HC.out.cell a2 (by simp), HC.out.cell b0 (by simp), HC.out.cell b1 (by simp), HC.out.cell b2 (by simp)⟩)
        have HSM := Lib.hid (fun (wx : World) (hk : Chg [] wr wx) => rsame8_any d a b ka kb wx ((hka.keep HC.out).keep hk) ((hkb.keep HC.out).keep hk))
        have HC0 := Lib.hid (Chg.refl [] wr)
        have HE := Lib.hid (show ∀ r : Bool, (r = true ↔ a = b) → (r = true → A.take (i + 1) = B.take (i + 1)) ∧ (r = false → A ≠ B) from fun r hr => ⟨fun h => take_eq_succ HTK.out (by rw [ha, hr.1 h]) (by rw [hb]), fun h e => by
          subst e
          rw [ha] at hb
          injection hb with hb
          rw [h] at hr
          exact absurd (hr.2 hb) (by decide)⟩)
        obtain ⟨ka1, ka2, rfl, -, -⟩ := hka.shape
        obtain ⟨kb1, kb2, rfl, -, -⟩ := hkb.shape
        clear hca hcb a0 a1 a2 b0 b1 b2 hka hkb ha hb
        go_upto_region 6 with fail
        go_region_held3 (fun w' => w'.cell? ⟨ga, oa + i * 3, none⟩ = some (.int .i64 a.n) ∧ w'.cell? ⟨ga, oa + i * 3 + 1, none⟩ = some (.string a.s) ∧ w'.cell? ⟨ga, oa + i * 3 + 2, none⟩ = some (.slice ka1 a.k.length ka2) ∧ w'.cell? ⟨gb, ob + i * 3, none⟩ = some (.int .i64 b.n) ∧ w'.cell? ⟨gb, ob + i * 3 + 1, none⟩ = some (.string b.s) ∧ w'.cell? ⟨gb, ob + i * 3 + 2, none⟩ = some (.slice kb1 b.k.length kb2)) (first | exact HPR.out | exact HPR3.out) (first
          | (go_at_call 29; (with_reducible refine (HSM.out _ (by first | exact HC0.out | exact HC0.out.drew | exact HC0.out.drewN _)).mono ?_); rintro e wz ⟨⟨r, rfl, hr⟩, hkz⟩; have HKZ := Lib.hid (show Chg [] wr wz from by first | exact hkz | exact (Chg.refl [] wr).drew.trans hkz (by simp) | exact ((Chg.refl [] wr).drewN _).trans hkz (by simp)); have HR := Lib.hid (HE.out r hr); have HPR3 := Lib.hid (show wz.cell? ⟨ga, oa + i * 3, none⟩ = some (.int .i64 a.n) ∧ wz.cell? ⟨ga, oa + i * 3 + 1, none⟩ = some (.string a.s) ∧ wz.cell? ⟨ga, oa + i * 3 + 2, none⟩ = some (.slice ka1 a.k.length ka2) ∧ wz.cell? ⟨gb, ob + i * 3, none⟩ = some (.int .i64 b.n) ∧ wz.cell? ⟨gb, ob + i * 3 + 1, none⟩ = some (.string b.s) ∧ wz.cell? ⟨gb, ob + i * 3 + 2, none⟩ = some (.slice kb1 b.k.length kb2) from ⟨HKZ.out.cell HPR.out.1 (by simp), HKZ.out.cell HPR.out.2.1 (by simp), HKZ.out.cell HPR.out.2.2.1 (by simp), HKZ.out.cell HPR.out.2.2.2.1 (by simp), HKZ.out.cell HPR.out.2.2.2.2.1 (by simp), HKZ.out.cell HPR.out.2.2.2.2.2 (by simp)⟩); clear hkz hr))
        cases r
        · have E := Lib.hid (HR.out.2 rfl)
          go_wp2
          go_ret
          exact ⟨⟨false, rfl, ⟨fun h => (by cases h), fun h => absurd h E.out⟩⟩, HC.out.trans HKZ.out (by simp)⟩
        · have E := Lib.hid (HR.out.1 rfl)
          go_wp2
          go_roundw
          case rel => exact ⟨i + 1, by go_num, hlt, E, HC.out.trans HKZ.out (by simp)⟩
          case measure => simp [intOf]; omega
      · have hd : decide ((i : Int) < (n : Int)) = false := by simp; omega
        have E := Lib.hid (show A = B by
          have h := HTK.out
          rw [List.take_of_length_le (by rw [← HN.out]; omega), List.take_of_length_le (by rw [← HM.out]; omega)] at h
          exact h)
        go_wp2
        go_ret
        exact ⟨⟨true, rfl, ⟨fun _ => E.out, fun _ => rfl⟩⟩, HC.out⟩
  · have hne : ¬ ((n : Int) = (m : Int)) := by omega
    have d0 : ((n : Int) != (m : Int)) = true := by simp; omega
    have E := Lib.hid (show A ≠ B from fun e => hnm (by rw [HN.out, HM.out, e]))
    go_enter Try.func11, Try.ntmps11
    go_wp2
    go_ret
    exact ⟨⟨false, rfl, ⟨fun h => (by cases h), fun h => absurd h E.out⟩⟩, Chg.refl _ _⟩

end Go.Proofs.Ytkbfbiklnjldgaa

namespace Go.Proofs.Ytkbfbiklnjldgaa
open Go.RowKit
set_option linter.unusedVariables false
set_option linter.unusedSimpArgs false

/-- What is asked of the reference's put, at a place. -/
def RP (w0 : World) (sv pv : Value) (i : Nat) (g : Tr → List Nat) (ok : Tr → Prop) : Prop :=
  ∀ (d : Nat) (w : World) (out : List Nat) (t : Tr) (bv kv : Value), Chg [] w0 w → w.ownsRow w0.heap.size 5 1 bv out.length (nv .u8 out) → KidsAt w0 d t.k kv → ok t → out.length + (g t).length ≤ 100000000 →
    Calls Try.prog 28 #[bv, sv, pv, .int .i64 (i : Int), .agg #[.int .i64 t.n, .string t.s, kv]] w fun e w' => ∃ x, e = .returned x ∧ Chg bv.ownBlock.toList w w' ∧ w'.ownsRow w0.heap.size 5 1 x (out ++ g t).length (nv .u8 (out ++ g t)) ∧ ∀ q, x.ownBlock = some q → bv.ownBlock = some q ∨ w.heap.size ≤ q

theorem RP.mono {w0 : World} {sv pv : Value} {i : Nat} {g g' : Tr → List Nat} {ok ok' : Tr → Prop} (h : RP w0 sv pv i g ok) (hg : ∀ t, ok' t → ok t ∧ g t = g' t) : RP w0 sv pv i g' ok' := by
  intro d w out t bv kv h1 h2 h3 h4 h5
  obtain ⟨k1, k2⟩ := hg t h4
  rw [← k2] at h5 ⊢
  exact h d w out t bv kv h1 h2 h3 k1 h5

theorem lw_lo (k : Nat) (n : Int) (u : Nat) (hu : (u : Int) = n % 18446744073709551616) (hk : k ≤ 8) : lw k n = lo k u := by
  unfold lw
  rw [← low_mod k n hk, ← hu, low_lo]
  unfold zi
  rw [List.map_map]
  conv => rhs; rw [← List.map_id (lo k u)]
  exact List.map_congr_left fun x _ => by simp

set_option maxRecDepth 100000 in
set_option maxHeartbeats 4000000 in
theorem rput_num {w0 : World} {sv pv : Value} {l : List F} {i : Nat} (hS : SeenF w0 sv l) (hi : i < l.length) (hn : l.length ≤ 1000) (k : Nat) (K : Int) (hk : (K = 1 ∧ k = 1) ∨ (K = 2 ∧ k = 4) ∨ (K = 3 ∧ k = 8)) (hkk : (l.getD i default).k = K) : RP w0 sv pv i (fun t => lw k t.n) okLeaf := by
  intro d w out t bv kv hC hO hK hok hb
  obtain ⟨ao, cap, rfl, hc1, hc2⟩ := hS.shape
  obtain ⟨n, hnn⟩ : ∃ n, n = l.length := ⟨_, rfl⟩
  rw [← hnn] at hS hi hn hc1 ⊢
  obtain ⟨gs, off, rfl, hcs⟩ := SeenF.get (hS.keep (hC.alloc (.cells #[.int .i64 t.n, .string t.s, kv] 44))) (by omega) hnn.symm
  obtain ⟨-, -, a2, -⟩ := hcs i hi
  rw [hkk] at a2
  obtain ⟨bo, bc, rfl⟩ := own_shape hO
  obtain ⟨ko, kc, rfl, -, -⟩ := hK.shape
  obtain ⟨hn1, hn2⟩ := hok.1
  obtain ⟨u, hu⟩ : ∃ u : Nat, (u : Int) = t.n % 18446744073709551616 := ⟨(t.n % 18446744073709551616).toNat, by omega⟩
  have hv : IntKind.u64.wrap t.n = (u : Int) := by rw [u64w, hu]
  have HLW := Lib.hid (lw_lo k t.n u hu (by omega))
  simp only [lw_len] at hb
  have HP := Lib.hid (rcput_any (.slice bo out.length bc) out k u (w.alloc (.cells #[.int .i64 t.n, .string t.s, .slice ko t.k.length kc] 44)) (by omega) (by omega) (by omega) ((reads_of_own hO).seen.keep ((Chg.refl [] w).alloc _)))
  have HSZ := Lib.hid hC.size
  have HA := Lib.hid ((Chg.refl [] w).alloc (.cells #[.int .i64 t.n, .string t.s, .slice ko t.k.length kc] 44))
  obtain ⟨m, hm⟩ : ∃ m, m = out.length := ⟨_, rfl⟩
  rw [← hm] at HP ⊢
  have hml : m ≤ 100000000 := by omega
  clear hS hcs hC hO hK hok hb hnn hkk hm hu
  rcases hk with ⟨rfl, rfl⟩ | ⟨rfl, rfl⟩ | ⟨rfl, rfl⟩
  all_goals
    (try rw [show ((1 : Nat) : Int) = 1 from rfl] at HP)
    (try rw [show ((4 : Nat) : Int) = 4 from rfl] at HP)
    (try rw [show ((8 : Nat) : Int) = 8 from rfl] at HP)
    go_enter Try.func28, Try.ntmps28
    go_wp2_with (first
      | (go_at_call 53; (with_reducible refine HP.out.mono ?_); rintro e w2 ⟨x, rfl, hc2, ho2⟩; have HC2 := Lib.hid hc2; have HO2 := Lib.hid ho2; clear hc2 ho2)
      | fail)
    (try go_wp2)
    go_ret
    refine ⟨x, rfl, (HA.out.trans HC2.out (by simp)).mono (by simp), ?_, fun q hq => .inr ?_⟩
    · rw [HLW.out]
      exact own_mono HO2.out (Nat.le_trans HSZ.out HA.out.size)
    · exact Nat.le_trans HA.out.size (own_ge HO2.out q hq)

set_option maxRecDepth 100000 in
set_option maxHeartbeats 4000000 in
theorem rput_text {w0 : World} {sv pv : Value} {l : List F} {i : Nat} (hS : SeenF w0 sv l) (hi : i < l.length) (hn : l.length ≤ 1000) (hkk : (l.getD i default).k = 4) : RP w0 sv pv i (wLeaf 4) okLeaf := by
  intro d w out t bv kv hC hO hK hok hb
  obtain ⟨ao, cap, rfl, hc1, hc2⟩ := hS.shape
  obtain ⟨n, hnn⟩ : ∃ n, n = l.length := ⟨_, rfl⟩
  rw [← hnn] at hS hi hn hc1 ⊢
  obtain ⟨gs, off, rfl, hcs⟩ := SeenF.get (hS.keep (hC.alloc (.cells #[.int .i64 t.n, .string t.s, kv] 44))) (by omega) hnn.symm
  obtain ⟨-, -, a2, -⟩ := hcs i hi
  rw [hkk] at a2
  obtain ⟨bo, bc, rfl⟩ := own_shape hO
  obtain ⟨ko, kc, rfl, -, -⟩ := hK.shape
  obtain ⟨hok1, hts⟩ := hok
  have hv : IntKind.u64.wrap (t.s.size : Int) = ((t.s.size : Nat) : Int) := wraps64 _ (by omega) (by omega)
  have E : wLeaf 4 t = vb t.s.size ++ bl t.s := by unfold wLeaf; rw [if_neg (by decide), if_neg (by decide), if_neg (by decide)]
  rw [E, List.length_append, bl_length] at hb
  rw [E]
  have HSZ := Lib.hid hC.size
  obtain ⟨w1, hw1⟩ : ∃ w1, w1 = w.alloc (.cells #[.int .i64 t.n, .string t.s, .slice ko t.k.length kc] 44) := ⟨_, rfl⟩
  have HA := Lib.hid (show Chg [] w w1 by rw [hw1]; exact (Chg.refl [] w).alloc _)
  have HBX := Lib.hid (show ∀ w3, Chg [] w1 w3 → w3.cell? ⟨w.heap.size, 1, none⟩ = some (.string t.s) from fun w3 h => h.cell (by rw [hw1]; simp) (by simp))
  have HP := Lib.hid (show ∀ wx, Chg [] w1 wx → Calls Try.prog 27 #[.slice bo out.length bc, .int .u64 (t.s.size : Int)] wx (PutOut out t.s.size wx) from fun wx h => by
    subst hw1
    exact rput_any (.slice bo out.length bc) out t.s.size wx ((reads_of_own hO).seen.keep (((Chg.refl [] w).alloc _).trans h (by simp))) (by omega) (by omega))
  obtain ⟨Q, hQ⟩ : ∃ Q, Q = out ++ vb t.s.size := ⟨_, rfl⟩
  unfold PutOut at HP
  rw [← hQ] at HP
  have hQl : Q.length = out.length + (vb t.s.size).length := by rw [hQ, List.length_append]
  have HQ4 := Lib.hid (show out ++ (vb t.s.size ++ bl t.s) = Q ++ bl t.s by rw [hQ, List.append_assoc])
  have HMB := Lib.hid (show Q.length + t.s.size ≤ 140737488355328 by omega)
  obtain ⟨m, hm⟩ : ∃ m, m = out.length := ⟨_, rfl⟩
  rw [← hm] at HP ⊢
  have hml : m ≤ 100000000 := by omega
  have HWD := Lib.hid (Chg.refl [] w1).drew
  have k0 := HBX.out w1 (Chg.refl [] w1)
  rw [hw1] at k0
  clear hS hcs hC hO hK hb hnn hkk hm hQ hQl hok1 E
  go_enter Try.func28, Try.ntmps28
  go_upto_region 9 with fail
  go_region_law (first
    | (go_simp; go_at_call 27; (with_reducible refine (HP.out _ (by rw [hw1]; exact (Chg.refl [] _).drew)).mono ?_); rintro e w2 ⟨x, rfl, hc2, ho2⟩; obtain ⟨xa, xc2, rfl⟩ := own_shape ho2; have HC2 := Lib.hid (show Chg [] w1 w2 from by rw [hw1]; exact (Chg.refl [] _).drew.trans hc2 (by simp)); have k1 := HBX.out w2 HC2.out; have HO2 := Lib.hid (own_mono ho2 (show w.heap.size ≤ _ from by simp)); have HL2 := Lib.hid (Nat.le_trans HA.out.size HC2.out.size); clear hc2 ho2)
    | (refine step_append_text (by rfl) (.tmp 48) (.tmp 50) (by rfl) w.heap.size (.slice xa Q.length xc2) Q.length (nv .u8 Q) (by rfl) HO2.out t.s (by rfl) HMB.out HL2.out ?_; intro v3 w3 hown3 hgrow3; obtain ⟨va, vc, rfl⟩ := own_shape hown3; have hcd : Chg (Value.slice xa Q.length xc2).ownBlock.toList w2 w3 := (Chg.refl _ w2).grown (w := w2) (by first | exact hgrow3 | exact ⟨hgrow3.os, hgrow3.tape, hgrow3.output, hgrow3.size, hgrow3.block⟩) (fun g hg => .inl (by simp [hg])); have HO3 := Lib.hid hown3; have HC3 := Lib.hid hcd; clear hown3 hgrow3 hcd))
  all_goals
    (try go_wp2)
    go_ret
    refine ⟨.slice va (Q.length + t.s.size) vc, rfl, ((HA.out.trans HC2.out (by simp)).trans HC3.out (fun t ht => .inr (own_ge HO2.out t (by simpa using ht)))).mono (by simp), ?_, fun q hq => .inr (own_ge HO3.out q hq)⟩
    rw [HQ4.out, List.length_append, bl_length]
    exact own_mono (by simpa [nv] using HO3.out) HSZ.out

theorem rput_leaf {w0 : World} {sv pv : Value} {l : List F} {i : Nat} {k : Int} (hS : SeenF w0 sv l) (hi : i < l.length) (hn : l.length ≤ 1000) (hkk : (l.getD i default).k = k) (hk : 1 ≤ k ∧ k ≤ 4) : RP w0 sv pv i (wLeaf k) okLeaf := by
  have h4 : k = 1 ∨ k = 2 ∨ k = 3 ∨ k = 4 := by omega
  rcases h4 with rfl | rfl | rfl | rfl
  · exact (rput_num hS hi hn 1 1 (by decide) hkk).mono fun t h => ⟨h, by unfold wLeaf; rw [if_pos rfl]⟩
  · exact (rput_num hS hi hn 4 2 (by decide) hkk).mono fun t h => ⟨h, by unfold wLeaf; rw [if_neg (by decide), if_pos rfl]⟩
  · exact (rput_num hS hi hn 8 3 (by decide) hkk).mono fun t h => ⟨h, by unfold wLeaf; rw [if_neg (by decide), if_neg (by decide), if_pos rfl]⟩
  · exact rput_text hS hi hn hkk

end Go.Proofs.Ytkbfbiklnjldgaa

namespace Go.Proofs.Ytkbfbiklnjldgaa
open Go.RowKit
set_option linter.unusedVariables false
set_option linter.unusedSimpArgs false

theorem kidsU_at9 {ps : List Int} {f i : Nat} (h : ps.getD i 0 = (f : Int)) : ∀ m, i < m → (kidsU ps m f)[(kidsU ps i f).length]? = some (i : Int)
  | 0, hm => absurd hm (by omega)
  | m + 1, hm => by
    by_cases he : i = m
    · subst he
      rw [kidsU_succ, if_pos h, List.getElem?_append_right (Nat.le_refl _), Nat.sub_self]
      rfl
    · have ih := kidsU_at9 h m (by omega)
      rw [kidsU_succ]
      split
      · rw [List.getElem?_append_left (List.getElem?_eq_some_iff.1 ih).1]; exact ih
      · exact ih

/-- A field of a group: where it is, how often, how it is written. -/
structure Tp9 where
  i : Nat
  r : Int
  g : Tr → List Nat
  ok : Tr → Prop
def tp9 (i : Nat) : Fo → List Tp9
  | .nil => []
  | .leaf f t => ⟨i, f.r, wLeaf f.k, okLeaf⟩ :: tp9 (i + 1) t
  | .group f k t => ⟨i, f.r, fun x => wF k x.k, fun x => okF k x.k⟩ :: tp9 (i + 1 + k.flat.length) t
theorem tp9_tops : ∀ (fo : Fo) (i : Nat), (tp9 i fo).map (fun x => (x.i : Int)) = tops i fo
  | .nil, i => rfl
  | .leaf f t, i => by simp [tp9, tops, tp9_tops t]
  | .group f k t, i => by simp [tp9, tops, tp9_tops t]
/-- Fields beside one another. -/
def wK : List Tp9 → List (List Tr) → List Nat
  | x :: X, L :: M => wField x.r x.g L ++ wK X M
  | _, _ => []
theorem wK_nil (K : List (List Tr)) : wK [] K = [] := by cases K <;> rfl
def okK : List Tp9 → List (List Tr) → Prop
  | x :: X, L :: M => (∀ t ∈ L, x.ok t) ∧ okK X M
  | [], [] => True
  | _, _ => False
theorem wK_eq : ∀ (fo : Fo) (i : Nat) (ks : List (List Tr)), okF fo ks → okK (tp9 i fo) ks ∧ wK (tp9 i fo) ks = wF fo ks
  | .nil, i, ks, h => by
    have h : ks = [] := h
    subst h
    exact ⟨trivial, rfl⟩
  | .leaf f t, i, [], h => h.elim
  | .leaf f t, i, L :: M, h => by
    obtain ⟨h1, h2⟩ := wK_eq t (i + 1) M h.2
    exact ⟨⟨h.1, h1⟩, by show _ ++ _ = _ ++ _; rw [h2]⟩
  | .group f k t, i, [], h => h.elim
  | .group f k t, i, L :: M, h => by
    obtain ⟨h1, h2⟩ := wK_eq t (i + 1 + k.flat.length) M h.2
    exact ⟨⟨h.1, h1⟩, by show _ ++ _ = _ ++ _; rw [h2]⟩
theorem okK_len : ∀ (X : List Tp9) (K : List (List Tr)), okK X K → X.length = K.length
  | [], [], _ => rfl
  | x :: X, L :: M, h => by simp [okK_len X M h.2]
  | [], L :: M, h => h.elim
  | x :: X, [], h => h.elim
theorem okK_drop : ∀ (X : List Tp9) (K : List (List Tr)) (j : Nat) (x : Tp9) (L : List Tr), okK X K → X[j]? = some x → K[j]? = some L → (∀ t ∈ L, x.ok t) ∧ wK (X.drop j) (K.drop j) = wField x.r x.g L ++ wK (X.drop (j + 1)) (K.drop (j + 1))
  | [], [], j, x, L, _, h, _ => by simp at h
  | x :: X, L :: M, 0, y, N, h, h1, h2 => by
    simp at h1 h2
    subst h1 h2
    exact ⟨h.1, rfl⟩
  | x :: X, L :: M, j + 1, y, N, h, h1, h2 => okK_drop X M j y N h.2 (by simpa using h1) (by simpa using h2)
  | [], L :: M, j, _, _, h, _, _ => h.elim
  | x :: X, [], j, _, _, h, _, _ => h.elim

/-- How it stands in the loop: what is written, and where its row may lie. -/
structure RJ (w0 w1 : World) (B : Option Nat) (cur : List Nat) (b : Value) (wx : World) : Prop where
  c : Chg B.toList w1 wx
  o : wx.ownsRow w0.heap.size 5 1 b cur.length (nv .u8 cur)
  q : ∀ g, b.ownBlock = some g → B = some g ∨ w1.heap.size ≤ g

theorem RJ.go {w0 w1 wx w2 : World} {B : Option Nat} {cur cur2 : List Nat} {b b2 : Value} (h : RJ w0 w1 B cur b wx) (hc : Chg b.ownBlock.toList wx w2) (ho : w2.ownsRow w0.heap.size 5 1 b2 cur2.length (nv .u8 cur2)) (hq : ∀ g, b2.ownBlock = some g → b.ownBlock = some g ∨ wx.heap.size ≤ g) : RJ w0 w1 B cur2 b2 w2 :=
  ⟨h.c.trans hc (fun g hg => by
    rcases h.q g (by simpa using hg) with h1 | h1
    · exact .inl (by simp [h1])
    · exact .inr h1), ho, fun g hg => by
    rcases hq g hg with h1 | h1
    · exact h.q g h1
    · exact .inr (Nat.le_trans h.c.size h1)⟩

theorem RJ.fresh {w0 w1 wx w2 : World} {B : Option Nat} {cur cur2 : List Nat} {b b2 : Value} (h : RJ w0 w1 B cur b wx) (h01 : w0.heap.size ≤ w1.heap.size) (hc : Chg [] wx w2) (ho : w2.ownsRow wx.heap.size 5 1 b2 cur2.length (nv .u8 cur2)) : RJ w0 w1 B cur2 b2 w2 :=
  h.go (hc.mono (by simp)) (own_mono ho (Nat.le_trans h01 h.c.size)) fun g hg => .inr (own_ge ho g hg)

theorem RJ.drew {w0 w1 wx : World} {B : Option Nat} {cur : List Nat} {b : Value} (h : RJ w0 w1 B cur b wx) (h01 : Chg [] w0 w1) (hB : ∀ g, B = some g → w0.heap.size ≤ g) : Chg [] w0 wx :=
  h01.trans h.c (fun g hg => .inr (hB g (by simpa using hg)))

set_option maxRecDepth 100000 in
set_option maxHeartbeats 8000000 in
theorem rput_grp {w0 : World} {sv pv : Value} {l : List F} {i : Nat} (hS : SeenF w0 sv l) (hP : SeenI w0 pv (parents l)) (hi : i < l.length) (hn : l.length ≤ 1000) (hkk : (l.getD i default).k = 0) (X : List Tp9) (hX : kidsU (parents l) l.length i = X.map fun x => (x.i : Int)) (hXR : ∀ x ∈ X, RP w0 sv pv x.i x.g x.ok ∧ (l.getD x.i default).r = x.r) : RP w0 sv pv i (fun t => wK X t.k) (fun t => okK X t.k) := by
  intro d w out t bv kv hC hO hK hok hb
  obtain ⟨i0, hi0, hz0, hz1, hz2⟩ := info_u8
  obtain ⟨ao, cap, rfl, hc1, hc2⟩ := hS.shape
  obtain ⟨po, pc, rfl, -, -⟩ := hP.shape
  have hpl : (parents l).length = l.length := parents_length l
  rw [hpl] at hP hXR ⊢
  obtain ⟨n, hnn⟩ : ∃ n, n = l.length := ⟨_, rfl⟩
  rw [← hnn] at hS hP hi hn hc1 hpl hXR ⊢
  have HN := Lib.hid hnn; have HPL := Lib.hid hpl
  obtain ⟨bo, bc, rfl⟩ := own_shape hO
  obtain ⟨ko, kc, rfl, hkc1, hkc2⟩ := hK.shape
  obtain ⟨m, hm⟩ : ∃ m, m = t.k.length := ⟨_, rfl⟩
  obtain ⟨ol, hol⟩ : ∃ ol, ol = out.length := ⟨_, rfl⟩
  have hXl := okK_len X t.k hok
  obtain ⟨K, hKK⟩ : ∃ K, K = t.k := ⟨_, rfl⟩
  change out.length + (wK X t.k).length ≤ 100000000 at hb
  change okK X t.k at hok
  rw [← hKK] at hm hXl hok hb hK hkc1
  rw [← hol] at hO
  rw [← hm] at hK hkc1
  have hRHS : ∀ e w', (∃ x, e = Ending.returned x ∧ Chg (Value.slice bo ol bc).ownBlock.toList w w' ∧ w'.ownsRow w0.heap.size 5 1 x (out ++ wK X K).length (nv .u8 (out ++ wK X K)) ∧ ∀ q, x.ownBlock = some q → (Value.slice bo ol bc).ownBlock = some q ∨ w.heap.size ≤ q) → (∃ x, e = Ending.returned x ∧ Chg (Value.slice bo ol bc).ownBlock.toList w w' ∧ w'.ownsRow w0.heap.size 5 1 x (out ++ (fun t : Tr => wK X t.k) t).length (nv .u8 (out ++ (fun t : Tr => wK X t.k) t)) ∧ ∀ q, x.ownBlock = some q → (Value.slice bo ol bc).ownBlock = some q ∨ w.heap.size ≤ q) := fun e w' h => by
    show ∃ x, e = Ending.returned x ∧ Chg (Value.slice bo ol bc).ownBlock.toList w w' ∧ w'.ownsRow w0.heap.size 5 1 x (out ++ wK X t.k).length (nv .u8 (out ++ wK X t.k)) ∧ ∀ q, x.ownBlock = some q → (Value.slice bo ol bc).ownBlock = some q ∨ w.heap.size ≤ q
    rw [← hKK]; exact h
  rw [← hol, ← hKK, ← hm]
  refine Calls.mono ?_ hRHS
  obtain ⟨TOT, hTOT⟩ : ∃ T, T = out ++ wK X K := ⟨_, rfl⟩
  rw [← hTOT]
  have HTOT := Lib.hid hTOT
  have HTL := Lib.hid (show TOT.length ≤ 100000000 by rw [hTOT, List.length_append]; exact hb)
  obtain ⟨w1, hw1⟩ : ∃ w1, w1 = w.alloc (.cells #[.int .i64 t.n, .string t.s, .slice ko m kc] 44) := ⟨_, rfl⟩
  have HA := Lib.hid (show Chg [] w w1 by rw [hw1]; exact (Chg.refl [] w).alloc _)
  have H01 := Lib.hid (hC.trans HA.out (by simp))
  have HBG := Lib.hid (show ∀ g, (Value.slice bo ol bc).ownBlock = some g → w0.heap.size ≤ g from fun g hg => own_ge hO g hg)
  have HBX := Lib.hid (show ∀ wx, Chg (Value.slice bo ol bc).ownBlock.toList w1 wx → wx.cell? ⟨w.heap.size, 2, none⟩ = some (.slice ko m kc) from fun wx h => h.cell (by rw [hw1]; simp) (fun hg => by have := (hO.lt w.heap.size (by simpa using hg)).2; omega))
  have HPJ := Lib.hid (show RJ w0 w1 (Value.slice bo ol bc).ownBlock out (.slice bo ol bc) w1 from ⟨Chg.refl _ _, by rw [← hol]; exact own_chg hO HA.out (by simp), fun g hg => .inl hg⟩)
  obtain ⟨gs, off, rfl, hcs⟩ := SeenF.get (hS.keep H01.out) (by omega) hnn.symm
  obtain ⟨-, -, a2, -⟩ := hcs i hi
  rw [hkk] at a2
  have HS := Lib.hid hS; have HP := Lib.hid hP; have HK := Lib.hid hK; have HX := Lib.hid hX; have HXR := Lib.hid hXR; have HOK := Lib.hid hok; have HXL := Lib.hid hXl; have HM := Lib.hid hm
  have HSZ := Lib.hid hC.size
  have HLOW := Lib.hid (show (kidsU (parents l) (i + 1) i).length = 0 by rw [kidsU_low l i (i + 1) (Nat.le_refl _) (by omega)]; rfl)
  have hfw : IntKind.i64.wrap ((i : Int) + 1) = (i : Int) + 1 := IntWalk.i64_in _ (by omega)
  rw [hw1] at HA H01 HBX HPJ a2
  clear hC hO hK hok hb hnn hpl hX hXR hXl hm hTOT hS hP hkk hw1 hcs hol hKK hRHS
  go_enter Try.func28, Try.ntmps28
  go_wp2
  go_loopw [0, 11, 12] (fun b s x wx => ∃ (cur : List Nat) (j i' : Nat), s = .int .i64 (j : Int) ∧ x = .int .i64 (i' : Int) ∧ i + 1 ≤ i' ∧ i' ≤ n ∧ Hid (j = (kidsU (parents l) i' i).length) ∧ RJ w0 (w.alloc (.cells #[.int .i64 t.n, .string t.s, .slice ko m kc] 44)) (Value.slice bo ol bc).ownBlock cur b wx ∧ Hid (TOT = cur ++ wK (X.drop j) (K.drop j))) (fun _ _ x _ => n - (intOf x).toNat)
  case atStart => exact ⟨out, 0, i + 1, rfl, by go_num, Nat.le_refl _, hi, Lib.hid HLOW.out.symm, HPJ.out, HTOT⟩
  case round =>
    obtain ⟨cur, j, i', rfl, rfl, hfi, hin, HJ, hpj, HT⟩ := hrel
    have HPJ1 := Lib.hid hpj
    obtain ⟨co, cc, rfl⟩ := own_shape hpj.o
    have HC := Lib.hid (hpj.drew H01.out HBG.out)
    have ht2 := HBX.out wr hpj.c
    have hjn : j ≤ n := by rw [HJ.out]; exact Nat.le_trans (kidsU_len _ _ _) hin
    clear hpj
    have hiw : IntKind.i64.wrap ((i' : Int) + 1) = (i' : Int) + 1 := IntWalk.i64_in _ (by omega)
    have hjw : IntKind.i64.wrap ((j : Int) + 1) = (j : Int) + 1 := IntWalk.i64_in _ (by omega)
    by_cases hlt : i' < n
    case neg =>
      have d0 : decide ((i' : Int) < (n : Int)) = false := by simp; omega
      have E := Lib.hid (show TOT = cur by
        have h2 := HJ.out
        have hie : i' = l.length := by rw [← HN.out]; omega
        rw [hie, HX.out, List.length_map] at h2
        have h3 := HT.out
        rw [List.drop_of_length_le (by omega), wK_nil, List.append_nil] at h3
        exact h3)
      go_wp2
      go_ret
      refine ⟨_, rfl, (HA.out.mono (by simp)).trans HPJ1.out.c (fun g hg => .inl hg), ?_, fun g hg => ?_⟩
      · rw [E.out]; exact HPJ1.out.o
      · rcases HPJ1.out.q g hg with h | h
        · exact .inl h
        · exact .inr (Nat.le_trans HA.out.size h)
    have d0 : decide ((i' : Int) < (n : Int)) = true := by simp; omega
    obtain ⟨gp, poff, rfl, hpc⟩ := SeenI.get (HP.out.keep HC.out) (by omega) HPL.out
    have hpi := hpc i' hlt
    obtain ⟨g, hg⟩ : ∃ g, g = (parents l).getD i' 0 := ⟨_, rfl⟩
    rw [← hg] at hpi
    have HGG := Lib.hid hg
    clear hpc hg
    by_cases hgf : g = (i : Int)
    case neg =>
      have d1 : (g != (i : Int)) = true := by simpa using hgf
      have HJ2 := Lib.hid (show j = (kidsU (parents l) (i' + 1) i).length by rw [kidsU_succ, if_neg (by rw [← HGG.out]; exact hgf)]; exact HJ.out)
      clear hgf
      go_wp2
      go_roundw
      case rel => exact ⟨cur, j, i' + 1, rfl, by go_num, by omega, by omega, HJ2, HPJ1.out, HT⟩
      case measure => simp [intOf]; omega
    subst hgf
    have hks := kidsU_at9 (m := l.length) HGG.out.symm (by rw [← HN.out]; exact hlt)
    rw [HX.out, ← HJ.out, List.getElem?_map] at hks
    obtain ⟨x, hx, hxi⟩ := Option.map_eq_some_iff.1 hks
    have hjX : j < X.length := (List.getElem?_eq_some_iff.1 hx).1
    have hjm : j < m := by rw [HM.out, ← HXL.out]; exact hjX
    obtain ⟨L, hL⟩ : ∃ L, K[j]? = some L := ⟨_, List.getElem?_eq_getElem (by rw [← HM.out]; exact hjm)⟩
    have hxi2 : x.i = i' := by omega
    have HJ2 := Lib.hid (show j + 1 = (kidsU (parents l) (i' + 1) i).length by rw [kidsU_succ, if_pos HGG.out.symm, List.length_append, ← HJ.out]; rfl)
    obtain ⟨hokL, hwd⟩ := okK_drop X K j x L HOK.out hx hL
    obtain ⟨hRP, hxr⟩ := HXR.out x (List.mem_of_getElem? hx)
    rw [hxi2] at hRP hxr
    obtain ⟨d', gk, koff, hdd, rfl, hck⟩ := KidsAt.get HK.out (by omega)
    obtain ⟨lv, hlc0, hll⟩ := hck j L hL
    have hlc := HC.out.cell hlc0 (by simp)
    obtain ⟨lo', lcap, rfl, hq1, hq2⟩ := hll.shape
    obtain ⟨q, hqx⟩ : ∃ q, q = L.length := ⟨_, rfl⟩
    rw [← hqx] at hlc hll hq1
    have HQX := Lib.hid hqx; have HLL := Lib.hid hll; have HOKL := Lib.hid hokL
    have hqm : q ≤ 9223372036854775807 := by unfold maxLen at hq2; omega
    obtain ⟨gs', off', he', hcs2⟩ := SeenF.get (HS.out.keep HC.out) (by omega) HN.out.symm
    injection he' with he'
    injection he' with he1 he2
    subst he1 he2
    obtain ⟨-, a1, -, -⟩ := hcs2 i' hlt
    rw [hxr] at a1
    obtain ⟨gs3, off3, he3, hcs3⟩ := SeenF.get HS.out (by omega) HN.out.symm
    injection he3 with he3
    injection he3 with he4 he5
    subst he4 he5
    obtain ⟨-, a7, -, -⟩ := hcs3 i' hlt
    rw [hxr] at a7
    obtain ⟨gg, hgg⟩ : ∃ gg, gg = x.g := ⟨_, rfl⟩
    obtain ⟨r, hr⟩ : ∃ r, r = x.r := ⟨_, rfl⟩
    obtain ⟨REST, hREST⟩ : ∃ R, R = wK (X.drop (j + 1)) (K.drop (j + 1)) := ⟨_, rfl⟩
    rw [← hgg] at hRP hwd
    rw [← hr] at a1 a7 hwd
    have HA1 := Lib.hid (show ∀ wx, Chg [] w0 wx → wx.cell? ⟨gs, off + i' * 4 + 1, none⟩ = some (.int .i64 r) from fun wx h => h.cell a7 (by simp))
    rw [← hREST] at hwd
    have HRP := Lib.hid hRP
    have HT1 := Lib.hid (show TOT = cur ++ (wField r gg L ++ REST) by rw [HT.out, hwd])
    have HT9 : ∀ c, TOT = c ++ REST → Hid (TOT = c ++ wK (X.drop (j + 1)) (K.drop (j + 1))) := fun c h => Lib.hid (by rw [← hREST]; exact h)
    have hcl : cur.length + (wField r gg L).length ≤ 100000000 := by
      have h := congrArg List.length HT1.out
      simp only [List.length_append] at h
      have := HTL.out
      omega
    obtain ⟨cl, hclen⟩ : ∃ c, c = cur.length := ⟨_, rfl⟩
    have HCL := Lib.hid hclen
    rw [← hclen] at hcl
    have HPO := Lib.hid (show wr.ownsRow w0.heap.size 5 1 (.slice co cl cc) cl (nv .u8 cur) by rw [hclen]; exact HPJ1.out.o)
    rw [← hclen] at HPJ1 ⊢
    have HTX := Lib.hid HT9
    clear hks hx hxi hxi2 hL hokL hwd hxr hck hlc0 hll hqx hcs2 hcs3 a7 hgg hr hREST hRP HT hdd HT9 hclen
    unfold wField at hcl HT1
    by_cases h1 : r = 1
    · subst h1
      rw [if_pos rfl] at hcl HT1
      have hcb : cl + 1 ≤ 100000000 := by rw [List.length_append, lw_len] at hcl; omega
      have hw8 : IntKind.u8.wrap (q : Int) = (q : Int) % 256 := by simp [IntKind.wrap, IntKind.bits, IntKind.signed]
      have HE8 := Lib.hid (show nv .u8 cur ++ [.int .u8 ((q : Int) % 256)] = nv .u8 (cur ++ lw 1 (q : Int)) by
        have e : lw 1 (q : Int) = [q % 256] := by simp [lw, low]; omega
        rw [e]; simp [nv])
      have HE1 := Lib.hid (show cl + 1 = (cur ++ lw 1 (q : Int)).length by rw [List.length_append, lw_len, ← HCL.out])
      have HT2 := Lib.hid (show TOT = (cur ++ lw 1 (q : Int)) ++ ((L.drop 0).flatMap gg ++ REST) by
        rw [HT1.out, ← HQX.out, List.drop_zero]; simp [List.append_assoc])
      clear hcl HT1
      go_wp2_with (at_builtin; refine wpList_append_own_at _ rfl _ _ 30 rfl w0.heap.size 5 i0 (.int .u8 0) 1 1 Try.underlying30 hi0 hz0 hz1 hz2 rfl (by decide) _ _ _ rfl (HPO.out.alloc _) ⟨wr.heap.size, 0, none⟩ 1 1 [.int .u8 ((q : Int) % 256)] rfl rfl ?c1 ?c2 ?c3 ?c4 ?c5 ?_)
      case c2 => simp [Value.oneCell']
      case c3 => unfold maxLen; omega
      case c4 => omega
      case c5 => have := HC.out.size; simp; omega
      intro v' w2 hown' hgrow _ hwh
      rw [HE8.out, HE1.out] at hown'
      have HPJ2 := Lib.hid (HPJ1.out.go (((Chg.refl (Value.slice co cl cc).ownBlock.toList wr).alloc (.cells #[.int .u8 ((q : Int) % 256)] 5)).grown hgrow (fun k hk => .inl (by simp [hk]))) hown' (fun g hg => by
        rcases hwh with h | h
        · exact .inl (by rw [← h]; exact hg)
        · rw [h] at hg; injection hg with hg; subst hg; exact .inr (by simp)))
      clear hown' hgrow hwh
      have a9 := HA1.out w2 (HPJ2.out.drew H01.out HBG.out)
      go_wp2
      go_loopw [0, 14] (fun b s wx => ∃ (cur : List Nat) (k : Nat), s = .int .i64 (k : Int) ∧ k ≤ q ∧ RJ w0 (w.alloc (.cells #[.int .i64 t.n, .string t.s, .slice (some ⟨gk, koff, none⟩) m kc] 44)) (Value.slice bo ol bc).ownBlock cur b wx ∧ Hid (TOT = cur ++ ((L.drop k).flatMap gg ++ REST))) (fun _ s _ => q - (intOf s).toNat)
      case atStart => exact ⟨_, 0, rfl, Nat.zero_le _, HPJ2.out, Lib.hid HT2.out⟩
      case round =>
        obtain ⟨cur3, k, rfl, hkq, hpj3, HT3⟩ := hrel
        have HPJ3 := Lib.hid hpj3
        obtain ⟨co, cc, rfl⟩ := own_shape hpj3.o
        have HC3 := Lib.hid (hpj3.drew H01.out HBG.out)
        clear hpj3
        by_cases hlt2 : k < q
        · have d3 : decide ((k : Int) < (q : Int)) = true := by simp; omega
          have hkw : IntKind.i64.wrap ((k : Int) + 1) = (k : Int) + 1 := IntWalk.i64_in _ (by omega)
          obtain ⟨t4, ht4⟩ : ∃ t, L[k]? = some t := ⟨_, List.getElem?_eq_getElem (by rw [← HQX.out]; exact hlt2)⟩
          obtain ⟨g4, off4, rfl, hc4⟩ := ListAt.get HLL.out (by omega)
          obtain ⟨kv4, y0, y1, y2, hk4⟩ := hc4 k t4 ht4
          have z0 := HC3.out.cell y0 (by simp)
          have z1 := HC3.out.cell y1 (by simp)
          have z2 := HC3.out.cell y2 (by simp)
          have hfm : (L.drop k).flatMap gg = gg t4 ++ (L.drop (k + 1)).flatMap gg := by
            obtain ⟨hkl, e⟩ := List.getElem?_eq_some_iff.1 ht4
            rw [List.drop_eq_getElem_cons hkl, List.flatMap_cons, e]
          have HT4 := Lib.hid (show TOT = (cur3 ++ gg t4) ++ ((L.drop (k + 1)).flatMap gg ++ REST) by rw [HT3.out, hfm]; simp [List.append_assoc])
          have hlen4 : cur3.length + (gg t4).length ≤ 100000000 := by
            have h := congrArg List.length HT4.out
            simp only [List.length_append] at h
            have := HTL.out
            omega
          have HCALL := Lib.hid (HRP.out d' wr cur3 t4 _ kv4 HC3.out HPJ3.out.o hk4 (HOKL.out t4 (List.mem_of_getElem? ht4)) hlen4)
          obtain ⟨ko4, kc4, rfl, -, -⟩ := hk4.shape
          clear hc4 y0 y1 y2 hk4 ht4 hfm hlen4
          go_wp2_with (first
            | (go_at_call 28; (with_reducible refine HCALL.out.mono ?_); rintro e w5 ⟨x5, rfl, hc5, ho5, hq5⟩; have HPJ5 := Lib.hid (HPJ3.out.go hc5 ho5 hq5); clear hc5 ho5 hq5)
            | fail)
          go_roundw
          case rel => exact ⟨_, k + 1, by go_num, hlt2, HPJ5.out, HT4⟩
          case measure => simp [intOf]; omega
        · have d3 : decide ((k : Int) < (q : Int)) = false := by simp; omega
          have E := Lib.hid (show TOT = cur3 ++ REST by
            have h := HT3.out
            rw [List.drop_of_length_le (by rw [← HQX.out]; omega), List.flatMap_nil, List.nil_append] at h
            exact h)
          go_wp2
          go_roundw
          case rel => exact ⟨cur3, j + 1, i' + 1, by go_num, by go_num, by omega, by omega, HJ2, HPJ3.out, HTX.out _ E.out⟩
          case measure => simp [intOf]; omega
    by_cases h2 : r = 2
    · subst h2
      rw [if_neg (by decide), if_pos rfl] at hcl HT1
      have hsw : IntKind.u64.wrap (q : Int) = (q : Int) := wraps64 _ (by omega) (by omega)
      have HT2 := Lib.hid (show TOT = (cur ++ vb q) ++ ((L.drop 0).flatMap gg ++ REST) by
        rw [HT1.out, ← HQX.out, List.drop_zero]; simp [List.append_assoc])
      have HPUT := Lib.hid (rput_any (.slice co cl cc) cur q wr (reads_of_own HPO.out).seen (by rw [← HCL.out]; omega) (by omega))
      clear hcl HT1
      go_wp2_with (first
        | (go_at_call 27; (with_reducible refine HPUT.out.mono ?_); rintro e w2 ⟨x2, rfl, hc2, ho2⟩; have HPJ2 := Lib.hid (HPJ1.out.fresh H01.out.size hc2 ho2); clear hc2 ho2)
        | fail)
      go_loopw [0, 14] (fun b s wx => ∃ (cur : List Nat) (k : Nat), s = .int .i64 (k : Int) ∧ k ≤ q ∧ RJ w0 (w.alloc (.cells #[.int .i64 t.n, .string t.s, .slice (some ⟨gk, koff, none⟩) m kc] 44)) (Value.slice bo ol bc).ownBlock cur b wx ∧ Hid (TOT = cur ++ ((L.drop k).flatMap gg ++ REST))) (fun _ s _ => q - (intOf s).toNat)
      case atStart => exact ⟨_, 0, rfl, Nat.zero_le _, HPJ2.out, Lib.hid HT2.out⟩
      case round =>
        obtain ⟨cur3, k, rfl, hkq, hpj3, HT3⟩ := hrel
        have HPJ3 := Lib.hid hpj3
        obtain ⟨co, cc, rfl⟩ := own_shape hpj3.o
        have HC3 := Lib.hid (hpj3.drew H01.out HBG.out)
        clear hpj3
        by_cases hlt2 : k < q
        · have d3 : decide ((k : Int) < (q : Int)) = true := by simp; omega
          have hkw : IntKind.i64.wrap ((k : Int) + 1) = (k : Int) + 1 := IntWalk.i64_in _ (by omega)
          obtain ⟨t4, ht4⟩ : ∃ t, L[k]? = some t := ⟨_, List.getElem?_eq_getElem (by rw [← HQX.out]; exact hlt2)⟩
          obtain ⟨g4, off4, rfl, hc4⟩ := ListAt.get HLL.out (by omega)
          obtain ⟨kv4, y0, y1, y2, hk4⟩ := hc4 k t4 ht4
          have z0 := HC3.out.cell y0 (by simp)
          have z1 := HC3.out.cell y1 (by simp)
          have z2 := HC3.out.cell y2 (by simp)
          have hfm : (L.drop k).flatMap gg = gg t4 ++ (L.drop (k + 1)).flatMap gg := by
            obtain ⟨hkl, e⟩ := List.getElem?_eq_some_iff.1 ht4
            rw [List.drop_eq_getElem_cons hkl, List.flatMap_cons, e]
          have HT4 := Lib.hid (show TOT = (cur3 ++ gg t4) ++ ((L.drop (k + 1)).flatMap gg ++ REST) by rw [HT3.out, hfm]; simp [List.append_assoc])
          have hlen4 : cur3.length + (gg t4).length ≤ 100000000 := by
            have h := congrArg List.length HT4.out
            simp only [List.length_append] at h
            have := HTL.out
            omega
          have HCALL := Lib.hid (HRP.out d' wr cur3 t4 _ kv4 HC3.out HPJ3.out.o hk4 (HOKL.out t4 (List.mem_of_getElem? ht4)) hlen4)
          obtain ⟨ko4, kc4, rfl, -, -⟩ := hk4.shape
          clear hc4 y0 y1 y2 hk4 ht4 hfm hlen4
          go_wp2_with (first
            | (go_at_call 28; (with_reducible refine HCALL.out.mono ?_); rintro e w5 ⟨x5, rfl, hc5, ho5, hq5⟩; have HPJ5 := Lib.hid (HPJ3.out.go hc5 ho5 hq5); clear hc5 ho5 hq5)
            | fail)
          go_roundw
          case rel => exact ⟨_, k + 1, by go_num, hlt2, HPJ5.out, HT4⟩
          case measure => simp [intOf]; omega
        · have d3 : decide ((k : Int) < (q : Int)) = false := by simp; omega
          have E := Lib.hid (show TOT = cur3 ++ REST by
            have h := HT3.out
            rw [List.drop_of_length_le (by rw [← HQX.out]; omega), List.flatMap_nil, List.nil_append] at h
            exact h)
          go_wp2
          go_roundw
          case rel => exact ⟨cur3, j + 1, i' + 1, by go_num, by go_num, by omega, by omega, HJ2, HPJ3.out, HTX.out _ E.out⟩
          case measure => simp [intOf]; omega
    · have b1 : (r == 1) = false := by simpa using h1
      have b2 : (r == 2) = false := by simpa using h2
      rw [if_neg h1, if_neg h2, List.nil_append] at hcl HT1
      have HT2 := Lib.hid (show TOT = cur ++ ((L.drop 0).flatMap gg ++ REST) by rw [HT1.out, List.drop_zero])
      have HPJ2 := HPJ1
      clear hcl HT1 h1 h2
      go_wp2
      go_loopw [0, 14] (fun b s wx => ∃ (cur : List Nat) (k : Nat), s = .int .i64 (k : Int) ∧ k ≤ q ∧ RJ w0 (w.alloc (.cells #[.int .i64 t.n, .string t.s, .slice (some ⟨gk, koff, none⟩) m kc] 44)) (Value.slice bo ol bc).ownBlock cur b wx ∧ Hid (TOT = cur ++ ((L.drop k).flatMap gg ++ REST))) (fun _ s _ => q - (intOf s).toNat)
      case atStart => exact ⟨_, 0, rfl, Nat.zero_le _, HPJ2.out, Lib.hid HT2.out⟩
      case round =>
        obtain ⟨cur3, k, rfl, hkq, hpj3, HT3⟩ := hrel
        have HPJ3 := Lib.hid hpj3
        obtain ⟨co, cc, rfl⟩ := own_shape hpj3.o
        have HC3 := Lib.hid (hpj3.drew H01.out HBG.out)
        clear hpj3
        by_cases hlt2 : k < q
        · have d3 : decide ((k : Int) < (q : Int)) = true := by simp; omega
          have hkw : IntKind.i64.wrap ((k : Int) + 1) = (k : Int) + 1 := IntWalk.i64_in _ (by omega)
          obtain ⟨t4, ht4⟩ : ∃ t, L[k]? = some t := ⟨_, List.getElem?_eq_getElem (by rw [← HQX.out]; exact hlt2)⟩
          obtain ⟨g4, off4, rfl, hc4⟩ := ListAt.get HLL.out (by omega)
          obtain ⟨kv4, y0, y1, y2, hk4⟩ := hc4 k t4 ht4
          have z0 := HC3.out.cell y0 (by simp)
          have z1 := HC3.out.cell y1 (by simp)
          have z2 := HC3.out.cell y2 (by simp)
          have hfm : (L.drop k).flatMap gg = gg t4 ++ (L.drop (k + 1)).flatMap gg := by
            obtain ⟨hkl, e⟩ := List.getElem?_eq_some_iff.1 ht4
            rw [List.drop_eq_getElem_cons hkl, List.flatMap_cons, e]
          have HT4 := Lib.hid (show TOT = (cur3 ++ gg t4) ++ ((L.drop (k + 1)).flatMap gg ++ REST) by rw [HT3.out, hfm]; simp [List.append_assoc])
          have hlen4 : cur3.length + (gg t4).length ≤ 100000000 := by
            have h := congrArg List.length HT4.out
            simp only [List.length_append] at h
            have := HTL.out
            omega
          have HCALL := Lib.hid (HRP.out d' wr cur3 t4 _ kv4 HC3.out HPJ3.out.o hk4 (HOKL.out t4 (List.mem_of_getElem? ht4)) hlen4)
          obtain ⟨ko4, kc4, rfl, -, -⟩ := hk4.shape
          clear hc4 y0 y1 y2 hk4 ht4 hfm hlen4
          go_wp2_with (first
            | (go_at_call 28; (with_reducible refine HCALL.out.mono ?_); rintro e w5 ⟨x5, rfl, hc5, ho5, hq5⟩; have HPJ5 := Lib.hid (HPJ3.out.go hc5 ho5 hq5); clear hc5 ho5 hq5)
            | fail)
          go_roundw
          case rel => exact ⟨_, k + 1, by go_num, hlt2, HPJ5.out, HT4⟩
          case measure => simp [intOf]; omega
        · have d3 : decide ((k : Int) < (q : Int)) = false := by simp; omega
          have E := Lib.hid (show TOT = cur3 ++ REST by
            have h := HT3.out
            rw [List.drop_of_length_le (by rw [← HQX.out]; omega), List.flatMap_nil, List.nil_append] at h
            exact h)
          go_wp2
          go_roundw
          case rel => exact ⟨cur3, j + 1, i' + 1, by go_num, by go_num, by omega, by omega, HJ2, HPJ3.out, HTX.out _ E.out⟩
          case measure => simp [intOf]; omega

end Go.Proofs.Ytkbfbiklnjldgaa

namespace Go.Proofs.Ytkbfbiklnjldgaa
open Go.RowKit
set_option linter.unusedVariables false
set_option linter.unusedSimpArgs false

theorem rput_fo {w0 : World} {sv pv : Value} {l : List F} (hS : SeenF w0 sv l) (hP : SeenI w0 pv (parents l)) (hn : l.length ≤ 1000) : ∀ (fo : Fo) (i : Nat), fo.wf → HasK l i fo → i + fo.flat.length ≤ l.length → ∀ x ∈ tp9 i fo, RP w0 sv pv x.i x.g x.ok ∧ (l.getD x.i default).r = x.r
  | .nil, i, _, _, _, x, hx => by simp [tp9] at hx
  | .leaf f t, i, ⟨h1, h2, h3⟩, ⟨k1, k2⟩, hb, x, hx => by
    simp only [Fo.flat, List.length_cons] at hb
    rcases List.mem_cons.1 hx with rfl | hx
    · exact ⟨rput_leaf hS (show i < l.length by omega) hn (by rw [k1]) ⟨h1, h2⟩, by show (l.getD i default).r = f.r; rw [k1]⟩
    · exact rput_fo hS hP hn t (i + 1) h3 k2 (by omega) x hx
  | .group f k t, i, ⟨h1, h2, h3, h4⟩, ⟨k1, k2, k3, k4⟩, hb, x, hx => by
    simp only [Fo.flat, List.length_cons, List.length_append] at hb
    rcases List.mem_cons.1 hx with rfl | hx
    · refine ⟨(rput_grp hS hP (show i < l.length by omega) hn (by rw [k1]; exact h1) (tp9 (i + 1) k) (by rw [k2, tp9_tops]) (rput_fo hS hP hn k (i + 1) h3 k3 (by omega))).mono fun t' h => wK_eq k (i + 1) t'.k h, by show (l.getD i default).r = f.r; rw [k1]⟩
    · exact rput_fo hS hP hn t (i + 1 + k.flat.length) h4 k4 (by omega) x hx

theorem rput_root {w0 : World} {sv pv : Value} {l : List F} {r0 : F} {fo : Fo} (hS : SeenF w0 sv l) (hP : SeenI w0 pv (parents l)) (hn : l.length ≤ 1000) (hl : l = r0 :: fo.flat) (hr1 : r0.k = 0) (hr3 : r0.c = fo.num) (hwf : fo.wf) : RP w0 sv pv 0 (fun t => wF fo t.k) (fun t => okF fo t.k) := by
  obtain ⟨-, q1, q2⟩ := hasK_root hl hr1 hr3 hwf
  have hlen : l.length = 1 + fo.flat.length := by rw [hl, List.length_cons]; omega
  exact (rput_grp hS hP (by omega) hn (by rw [hl]; exact hr1) (tp9 1 fo) (by rw [q1, tp9_tops]) (rput_fo hS hP hn fo 1 hwf q2 (by omega))).mono fun t' h => wK_eq fo 1 t'.k h

set_option maxRecDepth 100000 in
set_option maxHeartbeats 4000000 in
theorem rbytes9_any (sv lv : Value) (l : List F) (r0 : F) (fo : Fo) (L : List Tr) (d : Nat) (w : World) (hS : SeenF w sv l) (hl : l = r0 :: fo.flat) (hr1 : r0.k = 0) (hr3 : r0.c = fo.num) (hwf : fo.wf) (hn : l.length ≤ 1000) (hc : ∀ f ∈ l, f.c ≤ 9223372036854775807)
    (hL : ListAt w d L lv) (hok : ∀ t ∈ L, okF fo t.k) (hb : (wAll fo L).length ≤ 100000000) :
    Calls Try.prog 10 #[sv, lv] w fun e w' => ∃ x, e = .returned x ∧ Made 5 .u8 (wAll fo L) w x w' := by
  obtain ⟨lo, lc, rfl, hl1, hl2⟩ := hL.shape
  obtain ⟨ao, cap, rfl, -, -⟩ := hS.shape
  have HRP := Lib.hid (rparents_any (.slice ao l.length cap) l w hS (by omega) hc)
  have HRT := Lib.hid (fun (w0 : World) (pv : Value) (h : Chg [] w w0) (hp : SeenI w0 pv (parents l)) => rput_root (hS.keep h) hp hn hl hr1 hr3 hwf)
  obtain ⟨n, hnn⟩ : ∃ n, n = L.length := ⟨_, rfl⟩
  obtain ⟨TOT, hTOT⟩ : ∃ T, T = wAll fo L := ⟨_, rfl⟩
  obtain ⟨g, hg⟩ : ∃ g : Tr → List Nat, g = fun t => wF fo t.k := ⟨_, rfl⟩
  rw [← hg] at HRT
  have HT0 := Lib.hid (show TOT = vb n ++ (L.drop 0).flatMap g by rw [hTOT, hg, hnn]; rfl)
  rw [← hTOT] at hb ⊢
  rw [← hnn] at hL hl1 ⊢
  have HL := Lib.hid hL; have HN := Lib.hid hnn; have HB := Lib.hid hb; have HOK := Lib.hid hok
  unfold maxLen at hl2
  have hsw : IntKind.u64.wrap (n : Int) = (n : Int) := wraps64 _ (by omega) (by omega)
  obtain ⟨ln, hln⟩ : ∃ ln, ln = l.length := ⟨_, rfl⟩
  rw [← hln] at HRP HRT ⊢
  clear hS hl hr1 hr3 hwf hn hc hL hok hb hnn hTOT hg hln
  go_enter Try.func10, Try.ntmps10
  go_wp2_with fail
  (with_reducible refine HRP.out.mono ?_)
  rintro e w1 ⟨pv, rfl, hp, hk1⟩
  have HK1 := Lib.hid hk1
  obtain ⟨po, pc, rfl, -, -⟩ := hp.shape
  rw [parents_length] at hp
  have HR := Lib.hid (HRT.out w1 _ hk1 hp)
  have HPUT := Lib.hid (rput_any (.slice none 0 0) [] n w1 (Seen.nil w1) (by decide) (by omega))
  clear hp hk1
  go_wp2_with fail
  (with_reducible refine HPUT.out.mono ?_)
  rintro e w2 ⟨x2, rfl, hc2, ho2⟩
  rw [List.nil_append] at ho2
  have HC2 := Lib.hid hc2; have HO2 := Lib.hid ho2
  clear hc2 ho2
  go_wp2
  go_loopw [6, 7] (fun b s wx => ∃ (cur : List Nat) (k : Nat), s = .int .i64 (k : Int) ∧ k ≤ n ∧ Chg [] w1 wx ∧ wx.ownsRow w1.heap.size 5 1 b cur.length (nv .u8 cur) ∧ Hid (TOT = cur ++ (L.drop k).flatMap g)) (fun _ s _ => n - (intOf s).toNat)
  case atStart => exact ⟨_, 0, rfl, Nat.zero_le _, HC2.out, HO2.out, HT0⟩
  case round =>
    obtain ⟨cur, k, rfl, hkn, hck, hok, HT⟩ := hrel
    have HC := Lib.hid hck; have HO := Lib.hid hok
    obtain ⟨co, cc, rfl⟩ := own_shape hok
    clear hck hok
    by_cases hlt : k < n
    · have d3 : decide ((k : Int) < (n : Int)) = true := by simp; omega
      have hkw : IntKind.i64.wrap ((k : Int) + 1) = (k : Int) + 1 := IntWalk.i64_in _ (by omega)
      obtain ⟨t4, ht4⟩ : ∃ t, L[k]? = some t := ⟨_, List.getElem?_eq_getElem (by rw [← HN.out]; exact hlt)⟩
      obtain ⟨g4, off4, rfl, hc4⟩ := ListAt.get (HL.out.keep HK1.out) (by omega)
      obtain ⟨kv4, y0, y1, y2, hk4⟩ := hc4 k t4 ht4
      have z0 := HC.out.cell y0 (by simp)
      have z1 := HC.out.cell y1 (by simp)
      have z2 := HC.out.cell y2 (by simp)
      have hfm : (L.drop k).flatMap g = g t4 ++ (L.drop (k + 1)).flatMap g := by
        obtain ⟨hkl, e⟩ := List.getElem?_eq_some_iff.1 ht4
        rw [List.drop_eq_getElem_cons hkl, List.flatMap_cons, e]
      have HT4 := Lib.hid (show TOT = (cur ++ g t4) ++ (L.drop (k + 1)).flatMap g by rw [HT.out, hfm]; simp [List.append_assoc])
      have hlen4 : cur.length + (g t4).length ≤ 100000000 := by
        have h := congrArg List.length HT4.out
        simp only [List.length_append] at h
        have := HB.out
        omega
      have HCALL := Lib.hid (HR.out d wr cur t4 _ kv4 HC.out HO.out hk4 (HOK.out t4 (List.mem_of_getElem? ht4)) hlen4)
      rw [show ((0 : Nat) : Int) = 0 from rfl] at HCALL
      obtain ⟨ko4, kc4, rfl, -, -⟩ := hk4.shape
      clear hc4 y0 y1 y2 hk4 ht4 hfm hlen4
      go_wp2_with (first
        | (go_at_call 28; (with_reducible refine HCALL.out.mono ?_); rintro e w5 ⟨x5, rfl, hc5, ho5, hq5⟩; have HC5 := Lib.hid (HC.out.trans hc5 (fun q hq => .inr (own_ge HO.out q (by simpa using hq)))); have HO5 := Lib.hid ho5; clear hc5 ho5 hq5)
        | fail)
      go_roundw
      case rel => exact ⟨_, k + 1, by go_num, hlt, HC5.out, HO5.out, HT4⟩
      case measure => simp [intOf]; omega
    · have d3 : decide ((k : Int) < (n : Int)) = false := by simp; omega
      have E := Lib.hid (show TOT = cur by
        have h := HT.out
        rw [List.drop_of_length_le (by rw [← HN.out]; omega), List.flatMap_nil, List.append_nil] at h
        exact h)
      go_wp2
      go_ret
      refine ⟨_, rfl, HK1.out.trans HC.out (by simp), ?_⟩
      rw [E.out]
      exact own_mono HO.out HK1.out.size

end Go.Proofs.Ytkbfbiklnjldgaa
