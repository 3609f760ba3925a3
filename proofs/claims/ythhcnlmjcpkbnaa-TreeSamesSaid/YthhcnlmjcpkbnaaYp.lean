/- Going through a tree: begin, Size. -/
import Derived.Test.YthhcnlmjcpkbnaaYo
import Derived.Test.YthhcnlmjcpkbnaaYl
import Derived.Test.YthhcnlmjcpkbnaaYd
import Derived.Test.YthhcnlmjcpkbnaaMp
namespace Go.Proofs.Ythhcnlmjcpkbnaa
open Go.RowKit
set_option linter.unusedVariables false

theorem kidsIn_lit {P : Nat → Prop} {w : World} {g d n : Nat} {T : TypeId} {C : Array Value} {fr : Nat × Nat} (hb : w.heap[g]? = some (.cells C T fr)) (R : List (List Tr × Value)) (hC : C.toList = R.map (·.2)) (hn : R.length = n) (hm : n ≤ maxLen) (hg : P g) (h : ∀ p ∈ R, ListIn P w d p.1 p.2) : KidsIn P w (d + 1) (R.map (·.1)) (.slice (some ⟨g, 0, none⟩) n n) :=
  kidsIn_succ.2 ⟨R, rfl, SeenK.lit encR_len hb R n (by rw [hC]; clear h hn hC; induction R with | nil => rfl | cons p r ih => simp [encR, ih]) hn hm, fun _ g' h' => (by simp [Value.ownBlock] at h'; rw [← h']; exact hg), h⟩

theorem listIn_lit {P : Nat → Prop} {w : World} {g d n : Nat} {T : TypeId} {C : Array Value} {fr : Nat × Nat} (hb : w.heap[g]? = some (.cells C T fr)) (E : List (Tr × Value)) (hC : C.toList = E.flatMap encT) (hn : E.length = n) (hm : n ≤ maxLen) (hg : P g) (h : ∀ p ∈ E, KidsIn P w d p.1.k p.2) : ListIn P w d (E.map (·.1)) (.slice (some ⟨g, 0, none⟩) n n) :=
  ⟨E, rfl, SeenK.lit encT_len hb E n hC hn hm, fun _ g' h' => (by simp [Value.ownBlock] at h'; rw [← h']; exact hg), h⟩

/-- How a new walk stands. -/
def Begun (X : List Nat) (w : World) (t : Tr) (d : Nat) (e : Ending) (w' : World) : Prop :=
  ∃ (w0 : World) (gw go : Nat) (cap : Nat) (kv : Value), e = .returned (.pointer (some ⟨gw, 0, none⟩)) ∧ Wk X w0 w' gw (.slice (some ⟨go, 0, none⟩) 1 cap) [⟨[[t]], kv, 0, 0⟩] (d + 1) ∧ Chg [] w w' ∧ w.heap.size ≤ gw ∧ w.heap.size ≤ go ∧ w.heap.size ≤ w0.heap.size

set_option maxRecDepth 100000 in
set_option maxHeartbeats 1000000 in
theorem begin8_any (X : List Nat) (t : Tr) (kv : Value) (d : Nat) (w : World) (hK : KidsIn (fun g => g ∉ X) w d t.k kv) (hX : ∀ g ∈ X, g < w.heap.size) :
    Calls Try.prog 73 #[tv t.n t.s kv] w fun e w' => Begun X w t d e w' := by
  obtain ⟨ko, kcap, rfl, -, -⟩ := hK.shape
  have HK := Lib.hid hK; have HX := Lib.hid hX
  obtain ⟨tn, htn⟩ : ∃ n, n = t.n := ⟨_, rfl⟩
  obtain ⟨ts, hts⟩ : ∃ s, s = t.s := ⟨_, rfl⟩
  obtain ⟨m, hm⟩ : ∃ m, m = t.k.length := ⟨_, rfl⟩
  have HTN := Lib.hid htn; have HTS := Lib.hid hts
  rw [← hm] at HK
  rw [← htn, ← hts, ← hm]
  clear hK hX htn hts hm
  obtain ⟨b, hb⟩ : ∃ b, b = w.heap.size := ⟨_, rfl⟩
  have HB := Lib.hid hb
  clear hb
  go_enter Try.func73, Try.ntmps73
  go_wp2
  rw [← HB.out]
  simp only [Nat.add_assoc, Nat.reduceAdd]
  obtain ⟨w1, hw1⟩ : ∃ w1, w1 = w.alloc (.cells #[.int .i64 tn, .string ts, .slice ko m kcap] 30) := ⟨_, rfl⟩
  have hz1 : w1.heap.size = b + 1 := by rw [hw1, HB.out]; simp
  have hc1 : Chg [] w w1 := by rw [hw1]; exact (Chg.refl [] w).alloc _
  rw [← hw1]
  obtain ⟨w2, hw2⟩ : ∃ w2, w2 = w1.alloc (.cells #[.int .i64 tn, .string ts, .slice ko m kcap] 30) := ⟨_, rfl⟩
  have hb2 : w2.heap[b + 1]? = some (.cells #[.int .i64 tn, .string ts, .slice ko m kcap] 30 (0, 0)) := by rw [hw2, ← hz1]; exact heap_alloc_new w1 _
  have hz2 : w2.heap.size = b + 2 := by rw [hw2]; simp [hz1]
  have hc2 : Chg [] w1 w2 := by rw [hw2]; exact (Chg.refl [] w1).alloc _
  rw [← hw2]
  obtain ⟨w3, hw3⟩ : ∃ w3, w3 = w2.alloc (.cells #[.slice (some ⟨b + 1, 0, none⟩) 1 1] 55) := ⟨_, rfl⟩
  have hb3 : w3.heap[b + 2]? = some (.cells #[.slice (some ⟨b + 1, 0, none⟩) 1 1] 55 (0, 0)) := by rw [hw3, ← hz2]; exact heap_alloc_new w2 _
  have hz3 : w3.heap.size = b + 3 := by rw [hw3]; simp [hz2]
  have hc3 : Chg [] w2 w3 := by rw [hw3]; exact (Chg.refl [] w2).alloc _
  rw [← hw3]
  obtain ⟨w4, hw4⟩ : ∃ w4, w4 = w3.alloc (.cells #[.slice (some ⟨b + 2, 0, none⟩) 1 1, .int .i64 0, .int .i64 0] 142) := ⟨_, rfl⟩
  have hb4 : w4.heap[b + 3]? = some (.cells #[.slice (some ⟨b + 2, 0, none⟩) 1 1, .int .i64 0, .int .i64 0] 142 (0, 0)) := by rw [hw4, ← hz3]; exact heap_alloc_new w3 _
  have hz4 : w4.heap.size = b + 4 := by rw [hw4]; simp [hz3]
  have hc4 : Chg [] w3 w4 := by rw [hw4]; exact (Chg.refl [] w3).alloc _
  rw [← hw4]
  obtain ⟨w5, hw5⟩ : ∃ w5, w5 = w4.alloc (.cells #[.slice (some ⟨b + 3, 0, none⟩) 1 1] 145) := ⟨_, rfl⟩
  have hb5 : w5.heap[b + 4]? = some (.cells #[.slice (some ⟨b + 3, 0, none⟩) 1 1] 145 (0, 0)) := by rw [hw5, ← hz4]; exact heap_alloc_new w4 _
  have hc5 : Chg [] w4 w5 := by rw [hw5]; exact (Chg.refl [] w4).alloc _
  rw [← hw5]
  have hXn : ∀ g, b ≤ g → g ∉ X := fun g hg hm => absurd (HX.out g hm) (by have := HB.out; omega)
  have hk3 : KidsIn (fun g => g ∉ X) w3 (d + 1) [[t]] (.slice (some ⟨b + 2, 0, none⟩) 1 1) := by
    refine kidsIn_lit (R := [([t], .slice (some ⟨b + 1, 0, none⟩) 1 1)]) hb3 rfl rfl (by decide) (hXn _ (by omega)) ?_
    intro p hp
    simp at hp
    subst hp
    refine listIn_lit (hc3.heap hb2 (by simp)) [(t, .slice ko m kcap)] ?_ rfl (by decide) (hXn _ (by omega)) ?_
    · rw [HTN.out, HTS.out]; rfl
    · intro p hp
      simp at hp
      subst hp
      exact KidsIn.keep ((hc1.trans hc2 (by simp)).trans hc3 (by simp)) (fun g _ => by simp) HK.out
  have hb4' := hc5.heap hb4 (by simp)
  have hbw := HB.out
  go_ret
  refine ⟨w3, b + 4, b + 3, 1, .slice (some ⟨b + 2, 0, none⟩) 1 1, rfl, ⟨?_, ?_, (Chg.refl X w3).trans (hc4.trans hc5 (by simp)) (by simp), hb5, ?_, ?_, by omega⟩, (((hc1.trans hc2 (by simp)).trans hc3 (by simp)).trans hc4 (by simp)).trans hc5 (by simp), by omega, by omega, by omega⟩
  · intro i p hp
    cases i with
    | zero =>
      simp at hp
      subst hp
      exact hk3
    | succ i => simp at hp
  · intro p hp
    simp at hp
    subst hp
    exact ⟨Nat.zero_le _, Nat.zero_le _⟩
  · exact ⟨rfl, .inr ⟨b + 3, 1, _, rfl, by omega, hb4', by simp, by decide, rfl, rfl⟩⟩
  · simp [Value.ownBlock]

/-- How many values there are still to come. -/
def szS (S : List (List Tr)) : Nat := (S.map szL).sum

theorem szL_append (a b : List Tr) : szL (a ++ b) = szL a + szL b := by
  induction a with
  | nil => rw [List.nil_append, szL]; omega
  | cons t a ih => rw [List.cons_append, szL, szL, ih]; omega

theorem szL_flatten (k : List (List Tr)) : szL k.flatten = szK k := by
  induction k with
  | nil => rw [List.flatten_nil, szL, szK]
  | cons x k ih => rw [List.flatten_cons, szL_append, szK, ih]

theorem szS_pop : ∀ S, szS (popE S) = szS S
  | [] => rfl
  | [] :: r => by rw [popE, szS_pop r]; simp [szS, szL]
  | (t :: x) :: r => rfl

theorem szS_next {S S' : List (List Tr)} {t : Tr} (h : nextS S = some (t, S')) : szS S = szS S' + 1 := by
  unfold nextS at h
  rw [← szS_pop S]
  split at h
  · rename_i t' x r he
    injection h with h
    injection h with h1 h2
    subst h1
    rw [he, ← h2]
    simp [szS, szL, szL_flatten, szT_eq]
    omega
  · cases h

theorem szS_none {S : List (List Tr)} (h : nextS S = none) : szS S = 0 := by
  unfold nextS at h
  rw [← szS_pop S]
  have key : ∀ S, popE S = [] ∨ ∃ t x r, popE S = (t :: x) :: r := by
    intro S
    induction S with
    | nil => exact .inl rfl
    | cons y S ih =>
      cases y with
      | nil => rw [popE]; exact ih
      | cons t x => exact .inr ⟨t, x, S, rfl⟩
  rcases key S with h1 | ⟨t, x, r, h1⟩
  · rw [h1]; rfl
  · rw [h1] at h; cases h

abbrev SF (b gw : Nat) (n : Nat) (u : Nat → Value) : Act :=
  { tmps := #[u 0, u 1, u 2, .pointer (some ⟨gw, 0, none⟩), .int .i64 (n : Int), u 5, u 6, u 7, u 8, u 9, u 10, u 11, u 12, u 13, u 14, u 15, u 16, u 17, u 18, u 19, u 20, u 21, u 22], defers := [] }
theorem SF_of {b gw n : Nat} {a : Act} (h : a = SF b gw n (fun j => a.tmps.getD j undef)) : ∃ u, a = SF b gw n u := ⟨_, h⟩

set_option maxRecDepth 100000 in
set_option maxHeartbeats 2000000 in
theorem size8_any (t : Tr) (kv : Value) (d : Nat) (w : World) (hK : KidsAt w d t.k kv) (hd : d ≤ 100000) (hz : szT t ≤ 100000) :
    Calls Try.prog 41 #[tv t.n t.s kv] w fun e w' => e = .returned (.int .i64 (szT t : Int)) ∧ Chg [] w w' := by
  obtain ⟨ko, kcap, rfl, -, -⟩ := hK.shape
  have HBG := Lib.hid (begin8_any [] t _ d (w.alloc (.cells #[.int .i64 t.n, .string t.s, .slice ko t.k.length kcap] 30)) (KidsAt.out (X := []) (hK.keep ((Chg.refl [] w).alloc _)) (by simp)) (by simp))
  obtain ⟨Z, hZ⟩ : ∃ Z, Z = szT t := ⟨_, rfl⟩
  rw [← hZ] at hz ⊢
  have HZ := Lib.hid (show ∀ v, szS (stk [⟨[[t]], v, 0, 0⟩]) = Z from fun v => by
    rw [show [(⟨[[t]], v, 0, 0⟩ : Pl)] = [] ++ [⟨[[t]], v, 0, 0⟩] from rfl, stk_snoc, rem_new, hZ]
    simp [szS, szL, stk])
  have HC0 := Lib.hid ((Chg.refl [] w).alloc (.cells #[.int .i64 t.n, .string t.s, .slice ko t.k.length kcap] 30))
  have HSZ := Lib.hid (show w.heap.size ≤ (w.alloc (.cells #[.int .i64 t.n, .string t.s, .slice ko t.k.length kcap] 30)).heap.size from by simp)
  clear hK hZ
  obtain ⟨tn, htn⟩ : ∃ n, n = t.n := ⟨_, rfl⟩
  obtain ⟨ts, hts⟩ : ∃ s, s = t.s := ⟨_, rfl⟩
  obtain ⟨m, hm⟩ : ∃ m, m = t.k.length := ⟨_, rfl⟩
  rw [← htn, ← hts, ← hm] at HBG HC0 HSZ ⊢
  clear htn hts hm
  go_enter Try.func41, Try.ntmps41
  go_wp2_with fail
  refine wp_scope_pre2 0 (fun a' w' => ∃ (w0 : World) (gw : Nat) (sv : Value) (P : List Pl) (n : Nat), (∃ u, a' = SF 0 gw n u) ∧ Wk [] w0 w' gw sv P (d + 1) ∧ n + szS (stk P) = Z ∧ Chg [] w w' ∧ w.heap.size ≤ gw ∧ (∀ g, sv.ownBlock = some g → w.heap.size ≤ g)) (fun a' _ => Z + 1 - (intOf (a'.tmps.getD 4 undef)).toNat) rfl ?_ ?_
  · go_wp2_with (first
      | (go_at_call 73; (with_reducible refine HBG.out.mono ?_); rintro e w2 ⟨w0, gw, go, cap, kv1, rfl, hW, hc, hg1, hg2, -⟩; have HW2 := Lib.hid hW; have HC2 := Lib.hid (HC0.out.trans hc (by simp)); have HG1 := Lib.hid (Nat.le_trans HSZ.out hg1); have HG2 := Lib.hid (Nat.le_trans HSZ.out hg2); clear hW hc hg1 hg2)
      | fail)
    refine ⟨w0, gw, _, _, 0, SF_of (b := 0) rfl, HW2.out, ?_, HC2.out, HG1.out, ?_⟩
    · rw [Nat.zero_add]; exact HZ.out _
    · intro g hg
      simp [Value.ownBlock] at hg
      rw [← hg]; exact HG2.out
  · rintro a' w' ⟨w0, gw, sv, P, n, ⟨u, rfl⟩, hW, hn, hc, hg, hgs⟩
    unfold SF
    have HNX := Lib.hid (nextW_any [] w0 w' gw sv P (d + 1) hW (by omega))
    have HN := Lib.hid hn; have HC := Lib.hid hc; have HG := Lib.hid hg; have HGS := Lib.hid hgs
    have hnz : n ≤ Z := by omega
    clear hW hn hc hg hgs
    go_wp2_with fail
    (with_reducible refine HNX.out.mono ?_)
    rintro e w2 ⟨hout, hk2⟩
    have HK2 := Lib.hid (HC.out.trans hk2 (by
      intro x hx
      right
      unfold wkB at hx
      rcases List.mem_cons.1 hx with h | h
      · rw [h]; exact HG.out
      · simp at h; exact HGS.out x h))
    have HW'' := Lib.hid hk2.size
    clear hk2
    rcases hout with ⟨hnone, tt, rfl⟩ | ⟨t2, kv2, sv2, P2, rfl, hnx, hkk, hW2, hsb⟩
    · have E := Lib.hid (show (Z : Int) = (n : Int) by
        have h1 := HN.out
        have h2 := szS_none hnone
        omega)
      clear hnone
      go_wp2
      simp only [Exit.jump]
      go_ret
      exact ⟨ret_int E.out.symm, HK2.out.alloc _⟩
    · have h3 := szS_next hnx
      have HNZ := Lib.hid (show n + 1 + szS (stk P2) = Z by have h1 := HN.out; omega)
      have hnz2 : n < Z := by have h1 := HN.out; omega
      have hq : ((n : Int) == 160000) = false := by simp; omega
      have hw1 : IntKind.i64.wrap ((n : Int) + 1) = (n : Int) + 1 := IntWalk.i64_in _ (by omega)
      obtain ⟨ko2, kc2, rfl, -, -⟩ := hkk.shape
      have HW2 := Lib.hid hW2
      have HSB := Lib.hid (show ∀ g, sv2.ownBlock = some g → w.heap.size ≤ g from fun g hg => by
        rcases hsb with h | ⟨g2, h, h4⟩
        · rw [h] at hg; exact HGS.out g hg
        · rw [h] at hg
          injection hg with hg
          have := HC.out.size
          omega)
      clear hnx hW2 hsb h3 hkk
      go_wp2
      refine wp_goto ?_
      refine ⟨rfl, ⟨w0, gw, sv2, P2, n + 1, SF_of (b := 0) rfl, HW2.out.far ((Chg.refl [] w2).alloc _) (by simp) (by simp) (by simp), HNZ.out, HK2.out.alloc _, HG.out, HSB.out⟩, ?_⟩
      simp [intOf]
      omega

end Go.Proofs.Ythhcnlmjcpkbnaa
