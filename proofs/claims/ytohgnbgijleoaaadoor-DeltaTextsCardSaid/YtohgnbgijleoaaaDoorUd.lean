/- plain: the writer's all; Encode. -/
import Derived.Test.YtohgnbgijleoaaaDoorUc
namespace Go.Proofs.YtohgnbgijleoaaaDoor
open Go.RowKit
set_option linter.unusedVariables false
set_option linter.unusedSimpArgs false

theorem SeenK.sliced {α : Type} {enc : α → List Value} {k : Nat} {w : World} {ao : Option Addr} {len cap : Nat} {l : List α} (h : SeenK enc k w (.slice ao len cap) l) (lo hi : Nat) (h1 : lo ≤ hi) (h2 : hi ≤ len) :
    SeenK enc k w (Go.sliced ao lo hi cap k) ((l.take hi).drop lo) := by
  obtain ⟨ao', cap', he, hc, hm, hx⟩ := h
  injection he with e1 e2 e3
  subst e1 e2 e3
  have hlen : ((l.take hi).drop lo).length = hi - lo := by simp; omega
  unfold Go.sliced
  rw [← hlen]
  refine ⟨_, _, rfl, by rw [hlen]; omega, by omega, fun hp => ?_⟩
  rw [hlen] at hp
  obtain ⟨g, off, rfl, hcell⟩ := hx (by omega)
  refine ⟨g, off + lo * k, ?_, fun j x i u hj hu => ?_⟩
  · rw [if_neg (by omega)]
    simp only [Option.map_some, addr_add]
  · rw [List.getElem?_drop, List.getElem?_take] at hj
    split at hj
    · have := hcell (lo + j) x i u hj hu
      rw [Nat.add_mul, ← Nat.add_assoc] at this
      exact this
    · cases hj

theorem elem_values : Tryd.prog.elem 22 = 39 := by kernel_rfl
theorem info_value : ∃ i, Tryd.prog.info? 39 = some i ∧ i.zero = some (.agg #[.int .i64 0, .string ByteArray.empty]) ∧ i.size = 2 ∧ i.bytes = 24 :=
  info_parts (show (Tryd.prog.info? 39).map (fun i => (i.zero, i.size, i.bytes)) = some (some (.agg #[.int .i64 0, .string ByteArray.empty]), 2, 24) by kernel_rfl)

/-- l[lo:], as a run equation, of values. -/
theorem run_back_v {w : World} {ao : Option Addr} {len cap : Nat} {l : List V} (h : SeenV w (.slice ao len cap) l) (hl : l.length = len) (hc : len ≤ cap) (lo : Nat) (h2 : lo ≤ len) :
    ∃ ao' cap', SeenV w (.slice ao' (len - lo) cap') (l.drop lo) ∧ ∀ wx, (Instr.slice 22 (.slice ao len cap) (some (.int .i64 (lo : Int))) none none).run Tryd.prog wx = .ok (.slice ao' (len - lo) cap') wx := by
  have hs := h.sliced lo len h2 (Nat.le_refl _)
  rw [show l.take len = l by rw [← hl, List.take_length]] at hs
  refine ⟨_, _, hs, fun wx => ?_⟩
  obtain ⟨i0, hi0, _, hz1, _⟩ := info_value
  rw [run_slice_l wx 22 ao len cap (by rw [elem_values]; exact Tryd.underlying22) .i64 lo (by omega) (by omega), elem_values]
  simp [sizeOf, typeInfo, hi0, hz1, Go.sliced]

/-- l[:hi], as a run equation, of values. -/
theorem run_front_v {w : World} {ao : Option Addr} {len cap : Nat} {l : List V} (h : SeenV w (.slice ao len cap) l) (hc : len ≤ cap) (hi : Nat) (h2 : hi ≤ len) :
    ∃ ao' cap', SeenV w (.slice ao' hi cap') (l.take hi) ∧ ∀ wx, (Instr.slice 22 (.slice ao len cap) none (some (.int .i64 (hi : Int))) none).run Tryd.prog wx = .ok (.slice ao' hi cap') wx := by
  have hs := h.sliced 0 hi (Nat.zero_le _) h2
  rw [List.drop_zero] at hs
  refine ⟨_, _, hs, fun wx => ?_⟩
  obtain ⟨i0, hi0, _, hz1, _⟩ := info_value
  rw [run_slice_h wx 22 ao len cap (by rw [elem_values]; exact Tryd.underlying22) .i64 hi (by omega) (by omega), elem_values]
  simp [sizeOf, typeInfo, hi0, hz1]
  rfl

/-- A row of values, the first of them. -/
theorem SeenV.get {w : World} {ao : Option Addr} {n cap : Nat} {l : List V} (h : SeenV w (.slice ao n cap) l) (hn : 0 < n) : ∃ g off, ao = some ⟨g, off, none⟩ ∧ ∀ j v, l[j]? = some v → w.cell? ⟨g, off + j * 2, none⟩ = some (.int .i64 v.n) ∧ w.cell? ⟨g, off + j * 2 + 1, none⟩ = some (.string v.s) := by
  obtain ⟨g, off, rfl, hc⟩ := h.at hn
  exact ⟨g, off, rfl, fun j v hv => ⟨by simpa using hc j v 0 _ hv rfl, hc j v 1 _ hv rfl⟩⟩

/-- What all answers. -/
def allB (k : Nat) (out ts : List Nat) : List Nat := if k = 1 then packed 1 ts else out

set_option maxRecDepth 100000 in
set_option maxHeartbeats 4000000 in
theorem pall_any {w0 w : World} {gw B k : Nat} {out ts : List Nat} (hk : 1 ≤ k ∧ k ≤ 4) (h : WP w0 w gw B (sgK k) out ts) (hl : ts.length ≤ 1000000) (hts : ∀ x ∈ ts, x < 2 ^ 64) :
    Calls Tryd.prog 31 #[.pointer (some ⟨gw, 0, none⟩)] w fun e w' => ∃ x, e = .returned x ∧ Chg [] w w' ∧ w'.ownsRow B 5 1 x (allB k out ts).length (nv .u8 (allB k out ts)) := by
  obtain ⟨bv, tv, hb, ho, hot⟩ := h.st
  obtain ⟨ba, bc, rfl⟩ := own_shape ho
  obtain ⟨ta, tc, rfl⟩ := own_shape hot
  obtain ⟨c0, c1, c2, -, -, -⟩ := cells3 hb
  have HO := Lib.hid ho
  have HP := Lib.hid (pack_yes _ ts 1 w (by decide) hl (reads_of_own hot).seen hts)
  rw [show ((1 : Nat) : Int) = 1 from rfl] at HP
  have HLB := Lib.hid h.lB
  by_cases h1 : k = 1
  · subst h1
    have E := Lib.hid (show allB 1 out ts = packed 1 ts by unfold allB; rw [if_pos rfl])
    rw [E.out]
    rw [show sgK 1 = 98 from rfl] at c0
    obtain ⟨n, hn⟩ : ∃ n, n = (packed 1 ts).length := ⟨_, rfl⟩
    rw [← hn] at HP ⊢
    have HN := Lib.hid hn
    clear h hb ho hot hk hn hl hts
    go_enter Tryd.func31, Tryd.ntmps31
    go_wp2_with (first
      | (go_at_call 59; (with_reducible refine HP.out.mono ?_); rintro e w2 ⟨g, rfl, hc, ho⟩; have HC := Lib.hid hc; have HO2 := Lib.hid ho; clear hc ho)
      | fail)
    go_ret
    exact ⟨_, rfl, HC.out, by have h := own_mono HO2.out HLB.out; rw [← HN.out] at h; exact h⟩
  · have E := Lib.hid (show allB k out ts = out by unfold allB; rw [if_neg h1])
    rw [E.out]
    have hb : (sgK k == 98) = false := by
      have : k = 2 ∨ k = 3 ∨ k = 4 := by omega
      rcases this with rfl | rfl | rfl <;> rfl
    obtain ⟨sg, hsg⟩ : ∃ s, s = sgK k := ⟨_, rfl⟩
    rw [← hsg] at c0 hb
    clear h hot hk hsg hl hts h1 ho HP
    go_enter Tryd.func31, Tryd.ntmps31
    go_wp2
    go_ret
    exact ⟨_, rfl, Chg.refl _ _, HO.out⟩

/-- The bytes and the truths behind some values. -/
def outL (k : Nat) (l : List V) : List Nat := if k = 1 then [] else l.flatMap (enc1 k)
def tsL (k : Nat) (l : List V) : List Nat := if k = 1 then l.map (fun v => un v.n) else []

theorem all_enc (k : Nat) (l : List V) : allB k (outL k l) (tsL k l) = encP k l := by
  unfold allB outL tsL encP
  split <;> rfl

theorem pvalue_any {w0 w : World} {gw B k : Nat} {l : List V} (hk : 1 ≤ k ∧ k ≤ 4) (v : V) (h : WP w0 w gw B (sgK k) (outL k l) (tsL k l)) (hl : l.length ≤ 100000) (hs : ∀ x ∈ l, x.s.size ≤ 100) (hv : v.s.size ≤ 100) :
    Calls Tryd.prog 32 #[.pointer (some ⟨gw, 0, none⟩), vvV v] w fun e w' => e = .returned (.tuple #[]) ∧ WP w0 w' gw B (sgK k) (outL k (l ++ [v])) (tsL k (l ++ [v])) := by
  have hlen : (l.flatMap (enc1 k)).length ≤ 104 * l.length := by
    clear hl h
    induction l with
    | nil => simp
    | cons v l ih =>
      have h1 := enc1_len k v (hs v (by simp))
      have h2 := ih fun x hx => hs x (by simp [hx])
      rw [List.flatMap_cons, List.length_append, List.length_cons]
      omega
  by_cases h1 : k = 1
  · subst h1
    have e1 : outL 1 (l ++ [v]) = outL 1 l := rfl
    have e2 : tsL 1 (l ++ [v]) = tsL 1 l ++ [un v.n] := by
      show (l ++ [v]).map (fun v => un v.n) = l.map (fun v => un v.n) ++ [un v.n]
      simp
    rw [e1, e2]
    exact pvalue_1 v h (by show (l.map (fun v => un v.n)).length ≤ _; rw [List.length_map]; omega)
  · have e1 : outL k (l ++ [v]) = outL k l ++ enc1 k v := by unfold outL; rw [if_neg h1, if_neg h1]; simp
    have e2 : tsL k (l ++ [v]) = tsL k l := by unfold tsL; rw [if_neg h1, if_neg h1]
    have e3 : (outL k l).length ≤ 100000000 := by unfold outL; rw [if_neg h1]; omega
    rw [e1, e2]
    by_cases h4 : k = 4
    · subst h4
      exact pvalue_4 v h e3 (by omega)
    · exact pvalue_23 (by omega) v h e3

set_option maxRecDepth 100000 in
set_option maxHeartbeats 4000000 in
theorem pencode_any (k : Nat) (hk : 1 ≤ k ∧ k ≤ 4) (lv : Value) (l : List V) (w : World) (hL : Laid w) (hS : SeenV w lv l) (hl : l.length ≤ 100000) (hs : ∀ x ∈ l, x.s.size ≤ 100) :
    Calls Tryd.prog 18 #[.int .i64 (k : Int), lv] w fun e w' => ∃ x, e = .returned x ∧ Made 5 .u8 (encP k l) w x w' := by
  obtain ⟨ao, cap, rfl, hc1, hc2⟩ := hS.shape
  have HL := Lib.hid hL; have HS := Lib.hid hS; have HSZ := Lib.hid hs
  have HSG := Lib.hid (signOf_any (k : Int) w (by omega) hL)
  rw [sgI_nat k hk] at HSG
  obtain ⟨n, hn⟩ : ∃ n, n = l.length := ⟨_, rfl⟩
  rw [← hn] at hl hc1 HS ⊢
  have HN := Lib.hid hn
  obtain ⟨sg, hsg⟩ : ∃ s, s = sgK k := ⟨_, rfl⟩
  rw [← hsg] at HSG
  have HG := Lib.hid hsg
  have HWP := Lib.hid (show WP w (w.alloc (.cells #[.int .i32 sg, .slice none 0 0, .slice none 0 0] 57)) w.heap.size (w.heap.size + 1) (sgK k) (outL k []) (tsL k []) from by
    refine ⟨(Chg.refl [] w).alloc _, Nat.le_refl _, by omega, by simp, _, _, by rw [heap_alloc_new, hsg], ?_, ?_⟩
    · have : outL k [] = [] := by unfold outL; split <;> rfl
      rw [this]; exact World.ownsRow_nil _ _ _ _
    · have : tsL k [] = [] := by unfold tsL; split <;> rfl
      rw [this]; exact World.ownsRow_nil _ _ _ _)
  clear hL hS hs hn hsg
  go_enter Tryd.func18, Tryd.ntmps18
  go_wp2
  refine wp_scope_pre 0 (fun a' w' => ∃ (j : Nat) (bo : Option Addr) (bc : Nat) (u6 u7 u8 u9 u10 u11 u12 u13 u14 u15 u16 u17 u18 : Value), j ≤ n ∧ n - j ≤ bc ∧ a' = { tmps := #[.int .i64 (k : Int), .slice bo (n - j) bc, undef, undef, .slice none 0 0, .pointer (some ⟨w.heap.size, 0, none⟩), u6, u7, u8, u9, u10, u11, u12, u13, u14, u15, u16, u17, u18], defers := [] } ∧ SeenV w (.slice bo (n - j) bc) (l.drop j) ∧ WP w w' w.heap.size (w.heap.size + 1) (sgK k) (outL k (l.take j)) (tsL k (l.take j))) (fun a' _ => slen (a'.tmps.getD 1 undef)) rfl ?_ ?_
  · go_wp2_with (first
      | (go_at_call 30; (with_reducible refine HSG.out.mono ?_); rintro e w2 ⟨rfl, rfl⟩)
      | fail)
    exact ⟨0, ao, cap, _, _, _, _, _, _, _, _, _, _, _, _, _, Nat.zero_le _, hc1, rfl, HS.out, HWP.out⟩
  · rintro a' wi ⟨j, bo, bc, u6, u7, u8, u9, u10, u11, u12, u13, u14, u15, u16, u17, u18, hj, hbc, rfl, hs, hwp⟩
    have HSJ := Lib.hid hs; have HWJ := Lib.hid hwp
    have hjl : (l.drop j).length = n - j := by rw [List.length_drop, ← HN.out]
    clear hs hwp
    by_cases hjn : j = n
    · have e0 : n - j = 0 := by omega
      have E1 := Lib.hid (show l.take j = l by rw [hjn, HN.out, List.take_length])
      have HA := Lib.hid (pall_any hk HWJ.out (by rw [E1.out]; have h := HN.out; unfold tsL; split <;> simp <;> omega) (by
        unfold tsL
        split
        · intro x hx
          obtain ⟨v, -, rfl⟩ := List.mem_map.1 hx
          exact un_lt v.n
        · simp))
      rw [E1.out, all_enc] at HA
      rw [e0]
      clear e0 hjl hjn hbc
      go_wp2_with (first
        | (go_at_call 31; (with_reducible refine HA.out.mono ?_); rintro e w2 ⟨x, rfl, hc, ho⟩; have HC := Lib.hid hc; have HO := Lib.hid ho; clear hc ho)
        | fail)
      simp only [Exit.jump]
      go_ret
      exact ⟨_, rfl, HWJ.out.c0.trans HC.out (by simp), own_mono HO.out (by omega)⟩
    · have hlt : j < n := by omega
      have hp : 0 < n - j := by omega
      have hlen : ¬ (((n - j : Nat) : Int) = 0) := by omega
      have hlb : (((n - j : Nat) : Int) == 0) = false := by simpa using hlen
      obtain ⟨v, hv⟩ : ∃ v, l[j]? = some v := ⟨_, List.getElem?_eq_getElem (by rw [← HN.out]; exact hlt)⟩
      have hv0 : (l.drop j)[0]? = some v := by rw [List.getElem?_drop]; simpa using hv
      obtain ⟨g, off, rfl, hcell⟩ := HSJ.out.get hp
      obtain ⟨q0, q1⟩ := hcell 0 v hv0
      have x0 := HWJ.out.c0.cell q0 (by simp)
      have x1 := HWJ.out.c0.cell q1 (by simp)
      rw [Nat.zero_mul, Nat.add_zero] at x0 x1
      have hs2 := HSJ.out.sliced 1 (n - j) (by omega) (Nat.le_refl _)
      rw [show (l.drop j).take (n - j) = l.drop j by rw [← hjl, List.take_length]] at hs2
      have ht : l.take (j + 1) = l.take j ++ [v] := by rw [List.take_add_one, hv]; rfl
      have HV := Lib.hid (pvalue_any hk v HWJ.out (by rw [List.length_take]; omega) (fun x hx => HSZ.out x (List.mem_of_mem_take hx)) (HSZ.out v (List.mem_of_getElem? hv)))
      rw [← ht] at HV
      rw [List.drop_drop] at hs2
      have HS2 := Lib.hid hs2
      have HJ2 := Lib.hid (show n - j - 1 = n - (j + 1) by omega)
      clear hcell q0 q1 ht hv hv0 hs2 hjl
      go_wp2_with (first
        | (go_at_call 32; (with_reducible refine HV.out.mono ?_); rintro e w2 ⟨rfl, hw2⟩; have HW2 := Lib.hid hw2; clear hw2)
        | fail)
      all_goals
        go_step3
        have h2 := HS2.out
        have h3 := HJ2.out
        simp only [Go.sliced, Option.map_some, addr_add, Nat.one_mul, *, if_true, if_false] at h2
        rw [h3]
        exact ⟨rfl, ⟨j + 1, _, _, _, _, _, _, _, _, _, _, _, _, _, _, _, hlt, by omega, rfl, by simpa using h2, HW2.out⟩, by simp [slen]; omega⟩

end Go.Proofs.YtohgnbgijleoaaaDoor
