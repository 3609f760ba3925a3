/- Contracts of crc: step, Sum. -/
import Derived.Test.YthmdebnmjlminaaDoorCr
import Derived.Test.YthmdebnmjlminaaDoorLay
import Derived.Test.YthmdebnmjlminaaDoorMo
import Derived.Laws.BitsAllLaws
namespace Go.Proofs.YthmdebnmjlminaaDoor
open Go.RowKit
set_option linter.unusedVariables false

theorem wrap32 (n : Nat) (h : n < 4294967296) : IntKind.u32.wrap (n : Int) = (n : Int) := by
  rw [IntKind.wrap_u32']; omega

theorem tab_at (i : Nat) (h : i < 16) : tabZ.getD i 0 = ((tabN.getD i 0 : Nat) : Int) := by
  have : ∀ i, i < 16 → tabZ.getD i 0 = ((tabN.getD i 0 : Nat) : Int) := by decide
  exact this i h

set_option maxHeartbeats 400000 in
theorem step_any (s : Nat) (w : World) (hT : Laid w) (hs : s < 4294967296) :
    Calls Tryd.prog 14 #[.int .u32 (s : Int)] w fun e w' => e = .returned (.int .u32 ((sts 4 s : Nat) : Int)) ∧ w = w' := by
  have hm : s % 16 < 16 := Nat.mod_lt _ (by decide)
  have hc := hT.cell (s % 16) hm
  rw [tab_at _ hm] at hc
  have ht := tab_lt (s % 16) hm
  have E := Lib.hid (step_st s)
  obtain ⟨t, ht'⟩ : ∃ t, t = tabN.getD (s % 16) 0 := ⟨_, rfl⟩
  rw [← ht'] at hc ht E
  clear ht' hT
  go_enter Tryd.func14, Tryd.ntmps14
  go_wp2
  go_ret
  exact ⟨ret_int (by rw [← E.out]; exact u32_xor_nat (s / 16) t (by omega) ht), rfl⟩

theorem step_int (x : Int) (s : Nat) (w : World) (hx : x = (s : Int)) (hT : Laid w) (hs : s < 4294967296) :
    Calls Tryd.prog 14 #[.int .u32 x] w fun e w' => e = .returned (.int .u32 ((sts 4 s : Nat) : Int)) ∧ w = w' := by
  rw [hx]; exact step_any s w hT hs

/-- A list of slices of bytes in memory: the slice pv holds ps, these read as the rows ls. -/
structure Parts (w : World) (pv : Value) (ps : List Value) (ls : List (List Nat)) : Prop where
  seen : Seen w pv ps
  len : ls.length = ps.length
  each : ∀ i, i < ps.length → Seen w (ps.getD i undef) (nv .u8 (ls.getD i []))
  byte : ∀ l ∈ ls, ∀ x ∈ l, x < 2 ^ 8

/-- A scope in which two pieces of code stand ahead of the label to which it jumps. -/
theorem wp_scope_pre2 {P : Program} {a : Act} {w : World} {Q : Exit → Act → World → Prop} {pre pre2 rest : Code} (l : Nat) (J : Act → World → Prop) (m : Act → World → Nat) (hf : findLabel (.seq pre (.seq pre2 (.seq (.label l) rest))) l = some (.seq .skip rest))
    (h0 : pre.wp P (Exit.then (fun a w => pre2.wp P (Exit.then J (fun _ _ _ => False)) a w) (fun _ _ _ => False)) a w)
    (pass : ∀ a w, J a w → rest.wp P (Exit.jump l (fun a' w' => J a' w' ∧ m a' w' < m a w) Q) a w) : (Code.scope (.seq pre (.seq pre2 (.seq (.label l) rest)))).wp P Q a w := by
  refine wp_scope_jumps l J m hf (wp_seq (wp_mono h0 fun e a' w' h => ?_)) fun a' w' h => wp_seq (wp_skip (pass a' w' h))
  cases e with
  | normal =>
    refine wp_seq (wp_mono h fun e a' w' h => ?_)
    cases e with
    | normal =>
      refine wp_seq (wp_label (wp_mono (pass a' w' h) fun e a' w' h => ?_))
      cases e with
      | goto l' => exact ⟨h.1, h.2.1⟩
      | _ => exact h
    | _ => exact h.elim
  | _ => exact h.elim

theorem Parts.keep {w w' : World} {pv : Value} {ps : List Value} {ls : List (List Nat)} (h : Parts w pv ps ls) (hc : Chg [] w w') : Parts w' pv ps ls :=
  ⟨h.seen.keep hc, h.len, fun i hi => (h.each i hi).keep hc, h.byte⟩

theorem reg_done (s : Nat) (l : List Nat) (h : reg s [] = reg ones l) : ones ^^^ s = crc l := by
  unfold crc; rw [← h]; rfl

/-- The rest of a slice behind its first element, whichever slice type. -/
theorem Seen.tail {w : World} {g off n cap : Nat} {x : Value} {xs : List Value} (h : Seen w (.slice (some ⟨g, off, none⟩) (n + 1) cap) (x :: xs)) :
    xs.length = n ∧ n + 1 ≤ cap ∧ w.cell? ⟨g, off, none⟩ = some x ∧ Seen w (.slice (if cap = 1 then some ⟨g, off, none⟩ else some ⟨g, off + 1, none⟩) n (cap - 1)) xs := by
  rcases h with ⟨e, _⟩ | ⟨a, cap', e, h1, h2, h3⟩
  · injection e with e1; cases e1
  · injection e with e1 e2 e3
    injection e1 with e1
    subst e1 e3
    have hl : xs.length = n := by simpa using e2.symm
    refine ⟨hl, by simpa [hl] using h1, by simpa [addr_add] using h3 0 x rfl, ?_⟩
    refine .inr ⟨if cap = 1 then ⟨g, off, none⟩ else ⟨g, off + 1, none⟩, cap - 1, by rw [hl]; split <;> rfl, by rw [hl]; simp at h1; omega, by omega, fun k u hu => ?_⟩
    have hk : k < xs.length := (List.getElem?_eq_some_iff.1 hu).1
    have := h3 (k + 1) u (by simpa using hu)
    simp at h1
    rw [if_neg (by omega), addr_add]
    rw [addr_add] at this
    rwa [show off + 1 + k = off + (k + 1) by omega]

theorem Seen.ptr {w : World} {ao : Option Addr} {n cap : Nat} {x : Value} {xs : List Value} (h : Seen w (.slice ao (n + 1) cap) (x :: xs)) : ∃ g off, ao = some ⟨g, off, none⟩ := by
  rcases h with ⟨e, _⟩ | ⟨⟨g, off, sp⟩, cap', e, h1, h2, h3⟩
  · injection e with e1 e2 e3; omega
  · injection e with e1 e2 e3
    have hc := h3 0 x rfl
    have hsp : sp = none := by simpa [Addr.add] using World.cell?_spot hc
    subst hsp
    exact ⟨g, off, e1⟩

/-- A list of parts: the first one, and the others. -/
theorem Parts.cons {w : World} {ao : Option Addr} {n cap : Nat} {ps : List Value} {ls : List (List Nat)} (h : Parts w (.slice ao (n + 1) cap) ps ls) (hn : n + 1 = ps.length) :
    ∃ g off lo lc l ps' ls', ao = some ⟨g, off, none⟩ ∧ ps = .slice lo l.length lc :: ps' ∧ ls = l :: ls' ∧ w.cell? ⟨g, off, none⟩ = some (.slice lo l.length lc) ∧ n + 1 ≤ cap ∧ Seen w (.slice lo l.length lc) (nv .u8 l) ∧ (∀ x ∈ l, x < 2 ^ 8) ∧
      Parts w (.slice (if cap = 1 then some ⟨g, off, none⟩ else some ⟨g, off + 1, none⟩) n (cap - 1)) ps' ls' := by
  obtain ⟨hs, hl, he, hb⟩ := h
  cases ps with
  | nil => simp at hn
  | cons p ps =>
    cases ls with
    | nil => simp at hl
    | cons l ls =>
      obtain ⟨g, off, rfl⟩ := hs.ptr
      obtain ⟨t1, t2, t3, t4⟩ := hs.tail
      have h0 := he 0 (by simp)
      simp only [List.getD_cons_zero] at h0
      obtain ⟨lo, lc, rfl, _, _⟩ := h0.shape
      rw [nv_length] at *
      refine ⟨g, off, lo, lc, l, ps, ls, rfl, rfl, rfl, t3, t2, h0, hb l (by simp), t4, by simpa using hl, fun i hi => ?_, fun x hx => hb x (by simp [hx])⟩
      have := he (i + 1) (by simpa using hi)
      simpa using this

set_option maxRecDepth 100000 in
set_option maxHeartbeats 1000000 in
theorem sum_any (pv : Value) (ps : List Value) (ls : List (List Nat)) (w : World) (hP : Parts w pv ps ls) (hT : Laid w) :
    Calls Tryd.prog 11 #[pv] w fun e w' => e = .returned (.int .u32 ((crc ls.flatten : Nat) : Int)) ∧ Chg [] w w' := by
  obtain ⟨ao, cap, rfl, hc1, hc2⟩ := hP.seen.shape
  unfold maxLen at hc2
  have HP := Lib.hid hP
  have HL := Lib.hid hP.len; clear hP
  have HT := Lib.hid hT; clear hT
  go_enter Tryd.func11, Tryd.ntmps11
  go_wp2_with fail
  refine wp_scope_pre2 0 (fun a' w' => ∃ (j s : Nat) (bo : Option Addr) (bc : Nat) (po : Option Addr) (pn pc : Nat) (l : List Nat) (u5 u6 u7 u8 u9 u10 u11 u12 u13 u14 u15 u16 u17 u18 u19 u20 u21 u22 u23 u24 u25 u26 u27 u28 u29 : Value), s < 4294967296 ∧ pn + j = ps.length ∧ pn ≤ pc ∧ pc ≤ 2 ^ 63 - 1 ∧ a' = { tmps := #[.slice po pn pc, undef, .int .u32 0, .int .u32 (s : Int), .slice bo l.length bc, u5, u6, u7, u8, u9, u10, u11, u12, u13, u14, u15, u16, u17, u18, u19, u20, u21, u22, u23, u24, u25, u26, u27, u28, u29], defers := [] } ∧ Chg [] w w' ∧ Seen w' (.slice bo l.length bc) (nv .u8 l) ∧ (∀ x ∈ l, x < 2 ^ 8) ∧ Parts w' (.slice po pn pc) (ps.drop j) (ls.drop j) ∧ reg s (l ++ (ls.drop j).flatten) = reg ones ls.flatten) (fun a' _ => slen (a'.tmps.getD 4 undef) + (ls.drop (ls.length - slen (a'.tmps.getD 0 undef))).flatten.length + slen (a'.tmps.getD 0 undef)) rfl ?_ ?_
  · go_wp2
    exact ⟨0, ones, none, 0, ao, ps.length, cap, [], _, _, _, _, _, _, _, _, _, _, _, _, _, _, _, _, _, _, _, _, _, _, _, _, _, by decide, rfl, hc1, hc2, rfl, Chg.refl _ _, Seen.nil _, by simp, HP.out, rfl⟩
  rintro a' wi ⟨j, s, bo, bc, po, pn, pc, l, u5, u6, u7, u8, u9, u10, u11, u12, u13, u14, u15, u16, u17, u18, u19, u20, u21, u22, u23, u24, u25, u26, u27, u28, u29, hs, hj, hp1, hp2, rfl, hci, hb, hby, hpp, hrg⟩
  have HCI := Lib.hid hci; have HB := Lib.hid hb; have HBY := Lib.hid hby; have HPP := Lib.hid hpp; have HR := Lib.hid hrg
  clear hb hby hpp hrg
  have HTI := Lib.hid (HT.out.keep hci)
  clear hci
  obtain ⟨_, bcap, e1, hb1, hb2⟩ := HB.out.shape
  injection e1 with e1 e2 e3
  subst e3
  clear e1 e2
  rw [nv_length] at hb1
  unfold maxLen at hb2
  cases l with
  | nil =>
    by_cases h0 : pn = 0
    · subst h0
      have E := Lib.hid (show crc ls.flatten = ones ^^^ s by
        have h := HR.out
        rw [show j = ps.length by omega, ← HL.out, List.drop_length] at h
        exact (reg_done _ _ h).symm)
      have hx := u32_xor_nat 4294967295 s (by decide) hs
      have hsg : IntKind.u32.signed = false := rfl
      go_wp2
      simp only [Exit.jump]
      go_ret
      exact ⟨ret_int (by rw [E.out]; exact hx), HCI.out⟩
    · obtain ⟨m, rfl⟩ : ∃ m, pn = m + 1 := ⟨pn - 1, by omega⟩
      have hpos : decide (0 < m + 1) = true := by simp
      obtain ⟨g, off, lo, lc, l, ps', ls', rfl, e1, e2, hcell, hcap, hl, hlb, hrest⟩ := HPP.out.cons (by rw [List.length_drop]; omega)
      have HPR := Lib.hid hrest
      have HLL := Lib.hid hl; have HLB := Lib.hid hlb
      clear hrest hl hlb
      go_wp2_with fail
      go_quiet (fail)
      have hd1 : ps.drop (j + 1) = ps' := by rw [← List.drop_drop, e1]; rfl
      have hd2 : ls.drop (j + 1) = ls' := by rw [← List.drop_drop, e2]; rfl
      have HM := Lib.hid (show (ls.drop (ls.length - m)).flatten.length + l.length = (ls.drop (ls.length - (m + 1))).flatten.length by
        rw [HL.out, show ps.length - m = j + 1 by omega, show ps.length - (m + 1) = j by omega, hd2, e2]; simp; omega)
      have HR2 := Lib.hid (show reg s (l ++ ls'.flatten) = reg ones ls.flatten by
        have h := HR.out
        rw [e2] at h
        simpa using h)
      have HC2 := Lib.hid (HCI.out.drewN nq)
      have HK := Lib.hid (show Chg [] wi (wi.drewN nq) from (Chg.refl [] wi).drewN nq)
      clear e1 e2 HPP HR HB HBY
      generalize (if pc = 1 then some (⟨g, off, none⟩ : Addr) else some ⟨g, off + 1, none⟩) = po' at *
      go_wp2
      go_step3
      refine ⟨rfl, ⟨j + 1, s, lo, lc, po', m, pc - 1, l, _, _, _, _, _, _, _, _, _, _, _, _, _, _, _, _, _, _, _, _, _, _, _, _, _, hs, by omega, by omega, by omega, rfl, HC2.out, HLL.out.keep HK.out, HLB.out, ?_, ?_⟩, ?_⟩
      · rw [hd1, hd2]; exact HPR.out.keep HK.out
      · rw [hd2]; exact HR2.out
      · have h := HM.out
        simp [slen] at h ⊢
        omega
  | cons x l =>
    obtain ⟨g, off, rfl⟩ := HB.out.ptr
    obtain ⟨_, t2, hcell, t4⟩ := HB.out.tail
    have hx8 : x < 256 := HBY.out x (by simp)
    have HBY2 := Lib.hid (show ∀ y ∈ l, y < 2 ^ 8 from fun y hy => HBY.out y (by simp [hy]))
    have HT4 := Lib.hid t4
    have hpos : decide ((0 : Int) < ((x :: l).length : Int)) = true := by simp
    have hxx := Lib.hid (u32_xor_nat s x hs (by omega))
    have hxl : s ^^^ x < 4294967296 := xor_lt 32 hs (by omega)
    have hs4 : sts 4 (s ^^^ x) < 4294967296 := sts_lt 4 hxl
    have hs8 : sts 8 (s ^^^ x) < 4294967296 := sts_lt 8 hxl
    have HE8 := Lib.hid (show sts 4 (sts 4 (s ^^^ x)) = sts 8 (s ^^^ x) by rw [← sts_add])
    have HR2 := Lib.hid (show reg (sts 8 (s ^^^ x)) (l ++ (ls.drop j).flatten) = reg ones ls.flatten by
      have h := HR.out
      rwa [List.cons_append, reg] at h)
    clear t4 HB HBY HR
    go_wp2_with fail
    (with_reducible refine (step_int _ (s ^^^ x) _ hxx.out HTI.out hxl).mono ?_)
    rintro e w1 ⟨rfl, rfl⟩
    go_wp2_with fail
    (with_reducible refine (step_any (sts 4 (s ^^^ x)) _ HTI.out hs4).mono ?_)
    rintro e w1 ⟨rfl, rfl⟩
    rw [HE8.out]
    have HLE := Lib.hid (nv_length .u8 l)
    by_cases hbc : bc = 1
    · subst hbc
      rw [if_pos rfl] at HT4
      obtain rfl : l = [] := List.eq_nil_of_length_eq_zero (by omega)
      go_wp2
      go_step3
      refine ⟨rfl, ⟨j, _, some ⟨g, off, none⟩, 0, po, pn, pc, [], _, _, _, _, _, _, _, _, _, _, _, _, _, _, _, _, _, _, _, _, _, _, _, _, _, hs8, hj, hp1, hp2, rfl, HCI.out, HT4.out, HBY2.out, HPP.out, HR2.out⟩, ?_⟩
      simp [slen]
    · rw [if_neg hbc] at HT4
      go_wp2
      go_step3
      refine ⟨rfl, ⟨j, _, some ⟨g, off + 1, none⟩, bc - 1, po, pn, pc, l, _, _, _, _, _, _, _, _, _, _, _, _, _, _, _, _, _, _, _, _, _, _, _, _, _, hs8, hj, hp1, hp2, rfl, HCI.out, HT4.out, HBY2.out, HPP.out, HR2.out⟩, ?_⟩
      simp [slen]

end Go.Proofs.YthmdebnmjlminaaDoor
