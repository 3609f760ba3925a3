/- project's named: which of some fields has a name. -/
import Derived.Test.YthhcnlmjcpkbnaaQk
import Derived.Test.YthhcnlmjcpkbnaaA2
namespace Go.Proofs.Ythhcnlmjcpkbnaa
open Go.RowKit
set_option linter.unusedVariables false

/-- Where the first one is that b holds of, or -1. -/
def idxI (b : Int → Bool) : List Int → Nat → Int
  | [], _ => -1
  | x :: r, k => if b x then (k : Int) else idxI b r (k + 1)

theorem idxI_skip (b : Int → Bool) (ks : List Int) (k : Nat) (x : Int) (h : ks[k]? = some x) (hb : b x = false) : idxI b (ks.drop k) k = idxI b (ks.drop (k + 1)) (k + 1) := by
  have hl := (List.getElem?_eq_some_iff.1 h).1
  rw [List.getElem?_eq_getElem hl] at h
  injection h with h
  rw [List.drop_eq_getElem_cons hl, idxI, h, hb]
  rfl

theorem idxI_hit (b : Int → Bool) (ks : List Int) (k : Nat) (x : Int) (h : ks[k]? = some x) (hb : b x = true) : idxI b (ks.drop k) k = (k : Int) := by
  have hl := (List.getElem?_eq_some_iff.1 h).1
  rw [List.getElem?_eq_getElem hl] at h
  injection h with h
  rw [List.drop_eq_getElem_cons hl, idxI, h, hb]
  rfl

theorem idxI_find (b : Int → Bool) : ∀ (ks : List Int) (k : Nat) (pre : List Int), pre.length = k → (idxI b ks k = -1 ∧ ks.find? b = none) ∨ ∃ (i : Nat) (x : Int), idxI b ks k = (i : Int) ∧ k ≤ i ∧ (pre ++ ks)[i]? = some x ∧ ks.find? b = some x
  | [], k, pre, _ => .inl ⟨rfl, rfl⟩
  | x :: r, k, pre, hp => by
    cases hb : b x
    · rcases idxI_find b r (k + 1) (pre ++ [x]) (by simp [hp]) with ⟨h1, h2⟩ | ⟨i, y, h1, h2, h3, h4⟩
      · exact .inl ⟨by rw [idxI, hb]; exact h1, by rw [List.find?_cons, hb]; exact h2⟩
      · exact .inr ⟨i, y, by rw [idxI, hb]; exact h1, by omega, by simpa using h3, by rw [List.find?_cons, hb]; exact h4⟩
    · exact .inr ⟨k, x, by rw [idxI, hb]; rfl, Nat.le_refl _, by rw [List.getElem?_append_right (by omega), hp]; simp, by rw [List.find?_cons, hb]⟩

/-- Which of some fields has a name, or -1. -/
def namedI (l : List F) (ks : List Int) (nm : ByteArray) : Int := (ks.find? fun i => decide ((l.getD i.toNat default).n = nm)).getD (-1)

set_option maxRecDepth 100000 in
set_option maxHeartbeats 1000000 in
theorem indexFunc_any (g : Nat) (lb : Array Value) (b : Int → Bool) (kv : Value) (ks : List Int) (w : World) (hK : SeenI w kv ks)
    (eg : ∀ args w, (callFunc g args).run Try.prog w = .ok (.enter g args) w)
    (hp : ∀ w', Chg [] w w' → ∀ x ∈ ks, Calls Try.prog g (#[.int .i64 x] ++ lb) w' fun e w'' => e = .returned (.bool (b x)) ∧ Chg [] w' w'') :
    Calls Try.prog 122 #[kv, .func (.func g) #[] lb] w fun e w' => e = .returned (.int .i64 (idxI b ks 0)) ∧ Chg [] w w' := by
  obtain ⟨ao, cap, rfl, hc1, hc2⟩ := hK.shape
  have HK := Lib.hid hK; have HP := Lib.hid hp
  clear hK hp
  obtain ⟨n, hn⟩ : ∃ n, n = ks.length := ⟨_, rfl⟩
  rw [← hn] at hc1 HK ⊢
  have hnm : n ≤ 9223372036854775807 := by unfold maxLen at hc2; omega
  have HN := Lib.hid hn
  clear hn
  go_enter Try.func122, Try.ntmps122
  go_wp2
  go_loopw [8] (fun x w' => ∃ k : Nat, x = .int .i64 (k : Int) ∧ k ≤ n ∧ Chg [] w w' ∧ idxI b ks 0 = idxI b (ks.drop k) k) (fun x _ => n - (intOf x).toNat)
  case atStart => exact ⟨0, rfl, Nat.zero_le _, Chg.refl _ _, rfl⟩
  case round =>
    obtain ⟨k, rfl, hk, hc, he⟩ := hrel
    have HC := Lib.hid hc; have HE := Lib.hid he
    clear hc he
    by_cases hlt : k < n
    · obtain ⟨x, hx⟩ : ∃ x, ks[k]? = some x := ⟨_, List.getElem?_eq_getElem (by rw [← HN.out]; exact hlt)⟩
      obtain ⟨gk, off, rfl, hcs⟩ := SeenI.get (HK.out.keep HC.out) (by omega) HN.out.symm
      have hkc := hcs k hlt
      rw [List.getD, hx, Option.getD_some] at hkc
      have HX := Lib.hid hx
      have HPX := Lib.hid (fun w' h => HP.out w' h x (List.mem_of_getElem? HX.out))
      clear hcs hx
      go_wp2_with fail
      refine (HPX.out _ HC.out).mono ?_
      rintro e w3 ⟨rfl, hk3⟩
      have HC3 := Lib.hid (HC.out.trans hk3 (by simp))
      clear hk3
      cases hb : b x
      · have E := Lib.hid (idxI_skip b ks k x HX.out hb)
        clear hb
        go_wp2
        go_roundw
        case rel => exact ⟨k + 1, by go_num, by omega, HC3.out, by rw [HE.out, E.out]⟩
        case measure => simp [intOf]; omega
      · have E := Lib.hid (idxI_hit b ks k x HX.out hb)
        clear hb
        go_wp2
        go_ret
        exact ⟨ret_int (by rw [HE.out, E.out]), HC3.out⟩
    · have E := Lib.hid (show idxI b (ks.drop k) k = -1 by rw [List.drop_of_length_le (by rw [← HN.out]; omega)]; rfl)
      go_wp2
      go_ret
      exact ⟨ret_int (by rw [HE.out, E.out]), HC.out⟩

set_option maxHeartbeats 400000 in
theorem named1_any (B1 B2 : Nat) (sv : Value) (nm : ByteArray) (l : List F) (i : Nat) (w : World) (hB : w.cell? ⟨B1, 0, none⟩ = some sv) (hB2 : w.cell? ⟨B2, 0, none⟩ = some (.string nm)) (hS : SeenF w sv l) (hi : i < l.length) :
    Calls Try.prog 123 #[.int .i64 (i : Int), .pointer (some ⟨B1, 0, none⟩), .pointer (some ⟨B2, 0, none⟩)] w fun e w' => e = .returned (.bool (decide ((l.getD i default).n = nm))) ∧ Chg [] w w' := by
  obtain ⟨ao, cap, rfl, hc1, hc2⟩ := hS.shape
  obtain ⟨n, hn⟩ : ∃ n, n = l.length := ⟨_, rfl⟩
  rw [← hn] at hi hc1 hB hS
  obtain ⟨g, off, rfl, hcs⟩ := hS.get (by omega) hn.symm
  obtain ⟨a1, a2, a3, a4⟩ := hcs i hi
  clear hS hcs hn a2 a3 a4
  obtain ⟨x, hx⟩ : ∃ x, x = (l.getD i default).n := ⟨_, rfl⟩
  rw [← hx] at a1 ⊢
  clear hx
  by_cases hxn : x = nm
  · have e1 : (x.toList == nm.toList) = true := by rw [hxn]; simp
    have E := Lib.hid (show decide (x = nm) = true by simp [hxn])
    clear hxn
    go_enter Try.func123, Try.ntmps123
    go_wp2_with fail
    go_region
    go_wp2
    go_ret
    exact ⟨ret_bool E.out.symm, (Chg.refl [] w).drew⟩
  · have e1 : (x.toList == nm.toList) = false := by
      cases h : (x.toList == nm.toList)
      · rfl
      · exact absurd (bytes_ext h) hxn
    have E := Lib.hid (show decide (x = nm) = false by simp [hxn])
    clear hxn
    go_enter Try.func123, Try.ntmps123
    go_wp2_with fail
    go_region
    go_wp2
    go_ret
    exact ⟨ret_bool E.out.symm, (Chg.refl [] w).drew⟩

set_option maxRecDepth 100000 in
set_option maxHeartbeats 1000000 in
theorem named_any (sv kv : Value) (nm : ByteArray) (l : List F) (ks : List Int) (w : World) (hS : SeenF w sv l) (hK : SeenI w kv ks) (hr : ∀ x ∈ ks, 0 ≤ x ∧ x < l.length) :
    Calls Try.prog 94 #[sv, kv, .string nm] w fun e w' => e = .returned (.int .i64 (namedI l ks nm)) ∧ Chg [] w w' := by
  obtain ⟨ao, cap, rfl, hc1, hc2⟩ := hS.shape
  obtain ⟨ko, kcap, rfl, hk1, hk2⟩ := hK.shape
  have HS := Lib.hid hS; have HK := Lib.hid hK; have HR := Lib.hid hr
  clear hS hK hr
  obtain ⟨n, hn⟩ : ∃ n, n = l.length := ⟨_, rfl⟩
  obtain ⟨m, hm⟩ : ∃ m, m = ks.length := ⟨_, rfl⟩
  rw [← hn] at hc1 HS ⊢
  rw [← hm] at hk1 HK ⊢
  have HN := Lib.hid hn; have HM := Lib.hid hm
  clear hn hm
  have hmm : m ≤ 9223372036854775807 := by unfold maxLen at hk2; omega
  have eg : ∀ args w, (callFunc 123 args).run Try.prog w = .ok (.enter 123 args) w := Go.Proofs.enters_of Try.func123 (by kernel_rfl) rfl
  have hmf : ∀ (fn : Fn) (first cap : Array Value) (w : World), (Instr.makeFunc fn first cap).run Try.prog w = .ok (.func fn first cap) w := fun _ _ _ _ => rfl
  have HA := Lib.hid (((Chg.refl [] w).alloc (.cells #[.slice ao n cap] 26)).alloc (.cells #[.string nm] 9))
  have HB1 := Lib.hid (show ((w.alloc (.cells #[.slice ao n cap] 26)).alloc (.cells #[.string nm] 9)).cell? ⟨w.heap.size, 0, none⟩ = some (.slice ao n cap) by
    rw [World.cell?_alloc_lt _ _ _ (by simp)]; simp)
  have HB2 := Lib.hid (show ((w.alloc (.cells #[.slice ao n cap] 26)).alloc (.cells #[.string nm] 9)).cell? ⟨w.heap.size + 1, 0, none⟩ = some (.string nm) by
    have h := new_cell (w := w.alloc (.cells #[.slice ao n cap] 26)) (T := 9) (x := .string nm) 0 (.string nm) rfl
    simp)
  have HP := Lib.hid (show ∀ w', Chg [] ((w.alloc (.cells #[.slice ao n cap] 26)).alloc (.cells #[.string nm] 9)) w' → ∀ x ∈ ks, Calls Try.prog 123 (#[.int .i64 x] ++ #[.pointer (some ⟨w.heap.size, 0, none⟩), .pointer (some ⟨w.heap.size + 1, 0, none⟩)]) w' fun e w'' => e = .returned (.bool (decide ((l.getD x.toNat default).n = nm))) ∧ Chg [] w' w'' from
    fun w' hk x hx => by
      obtain ⟨h0, h1⟩ := HR.out x hx
      obtain ⟨i, rfl⟩ : ∃ i : Nat, x = i := ⟨x.toNat, by omega⟩
      exact named1_any _ _ _ nm l i w' (hk.cell HB1.out (by simp)) (hk.cell HB2.out (by simp)) (HS.out.keep (HA.out.trans hk (by simp))) (by omega))
  have hw := idxI_find (fun i => decide ((l.getD i.toNat default).n = nm)) ks 0 [] rfl
  rcases hw with ⟨h1, h2⟩ | ⟨i, x, h1, -, h3, h4⟩
  · have E := Lib.hid (show namedI l ks nm = -1 by unfold namedI; rw [h2]; rfl)
    have H1 := Lib.hid h1
    clear h1 h2
    go_enter Try.func94, Try.ntmps94
    go_wp2_with fail
    (with_reducible refine (indexFunc_any 123 #[.pointer (some ⟨w.heap.size, 0, none⟩), .pointer (some ⟨w.heap.size + 1, 0, none⟩)] (fun i => decide ((l.getD i.toNat default).n = nm)) _ ks _ (HK.out.keep HA.out) eg HP.out).mono ?_)
    rw [H1.out]
    rintro e w3 ⟨rfl, hk3⟩
    have HC := Lib.hid (HA.out.trans hk3 (by simp))
    clear hk3
    go_wp2
    go_ret
    exact ⟨ret_int E.out.symm, HC.out⟩
  · have E := Lib.hid (show namedI l ks nm = x by unfold namedI; rw [h4]; rfl)
    have H1 := Lib.hid h1; have H3 := Lib.hid (show ks[i]? = some x by simpa using h3)
    have him : i < m := by rw [HM.out]; exact (List.getElem?_eq_some_iff.1 H3.out).1
    have hi0 : decide ((i : Int) < 0) = false := by simp
    clear h1 h3 h4
    go_enter Try.func94, Try.ntmps94
    go_wp2_with fail
    (with_reducible refine (indexFunc_any 123 #[.pointer (some ⟨w.heap.size, 0, none⟩), .pointer (some ⟨w.heap.size + 1, 0, none⟩)] (fun i => decide ((l.getD i.toNat default).n = nm)) _ ks _ (HK.out.keep HA.out) eg HP.out).mono ?_)
    rw [H1.out]
    rintro e w3 ⟨rfl, hk3⟩
    have HC := Lib.hid (HA.out.trans hk3 (by simp))
    clear hk3
    obtain ⟨gk, off, rfl, hcs⟩ := SeenI.get (HK.out.keep HC.out) (by omega) HM.out.symm
    have hkc := hcs i him
    rw [List.getD, H3.out, Option.getD_some] at hkc
    clear hcs
    go_wp2
    go_ret
    exact ⟨ret_int E.out.symm, HC.out⟩

end Go.Proofs.Ythhcnlmjcpkbnaa
