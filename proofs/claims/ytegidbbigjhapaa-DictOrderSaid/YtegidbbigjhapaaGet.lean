/- Contracts of cursor's carry (as Get and as Put call it), Get, Take, Put. -/
import Derived.Test.YtegidbbigjhapaaRd
namespace Go.Proofs.Ytegidbbigjhapaa
open Go.RowKit
set_option linter.unusedVariables false

/-- A number by its bytes, the lowest first. -/
def num : List Int → Int
  | [] => 0
  | z :: zs => z + 256 * num zs

/-- Bytes are from 0 to 255. -/
def Wf (zs : List Int) : Prop := ∀ z, z ∈ zs → 0 ≤ z ∧ z < 256

theorem Wf.drop {zs : List Int} (h : Wf zs) (k : Nat) : Wf (zs.drop k) := fun z hz => h z (List.mem_of_mem_drop hz)
theorem Wf.take {zs : List Int} (h : Wf zs) (k : Nat) : Wf (zs.take k) := fun z hz => h z (List.mem_of_mem_take hz)

theorem num_bound : ∀ (zs : List Int), Wf zs → 0 ≤ num zs ∧ num zs < 2 ^ (8 * zs.length)
  | [], _ => by simp [num]
  | z :: zs, h => by
    have h1 := num_bound zs (fun y hy => h y (by simp [hy]))
    have h2 := h z (by simp)
    have e : (2 : Int) ^ (8 * (zs.length + 1)) = 256 * 2 ^ (8 * zs.length) := by rw [Nat.mul_add, Int.pow_add]; omega
    simp only [num, List.length_cons, e]
    omega

theorem num_snoc : ∀ (zs : List Int) (z : Int), num (zs ++ [z]) = num zs + z * 2 ^ (8 * zs.length)
  | [], z => by simp [num]
  | y :: zs, z => by
    have e : (2 : Int) ^ (8 * (zs.length + 1)) = 256 * 2 ^ (8 * zs.length) := by rw [Nat.mul_add, Int.pow_add]; omega
    simp only [List.cons_append, num, num_snoc zs z, List.length_cons, e, Int.mul_add, Int.add_assoc]
    rw [Int.mul_left_comm]

theorem drop_cons {zs : List Int} {i : Nat} (h : i < zs.length) : ∃ z, zs.drop i = z :: zs.drop (i + 1) ∧ zs.take (i + 1) = zs.take i ++ [z] ∧ z ∈ zs :=
  ⟨zs[i], List.drop_eq_getElem_cons h, by rw [List.take_succ_eq_append_getElem h], List.getElem_mem h⟩

section
variable {M : Nat}

/-- Where carry stands when it has read i bytes of r into d. -/
def GetAt (M r d : Nat) (e0 : Int) (zs : List Int) (w0 : World) (i : Nat) (w : World) : Prop :=
  Chg [r, d] w0 w ∧ Rd w r (zs.drop i) e0 M ∧ w.heap[d]? = some (.cells #[.int .u64 (num (zs.take i)), .int .i64 ((8 * i : Nat) : Int)] 94 (0, 0))

theorem GetAt.next {r d : Nat} {e0 : Int} {zs : List Int} {w0 w w1 w2 : World} {i : Nat} {z : Int} (h : GetAt M r d e0 zs w0 i w) (hi : i < zs.length) (hz : zs.drop i = z :: zs.drop (i + 1)) (hz2 : zs.take (i + 1) = zs.take i ++ [z])
    (h1 : Chg [r] w w1) (h1' : Rd w1 r (zs.drop (i + 1)) e0 M) (h2 : Chg [d] w1 w2) (h2' : w2.heap[d]? = some (.cells #[.int .u64 (num (zs.take i) + z * 2 ^ (8 * i)), .int .i64 ((8 * i + 8 : Nat) : Int)] 94 (0, 0))) (hd : w1.heap[d]? = some (.cells #[.int .u64 (num (zs.take i)), .int .i64 ((8 * i : Nat) : Int)] 94 (0, 0))) : GetAt M r d e0 zs w0 (i + 1) w2 := by
  obtain ⟨a, b, c⟩ := h
  refine ⟨(a.trans h1 (by simp)).trans h2 (by simp), ?_, ?_⟩
  · obtain ⟨v, g1, g2, g3, g4⟩ := h1'
    have hne := g3.ne hd (by decide)
    have hr : r ≠ d := by
      intro e
      subst e
      rw [g1] at hd
      simp at hd
    exact ⟨v, h2.heap g1 (by simpa using hr), g2.keep h2 (fun g hg => by simpa using hne g hg), g3.keep h2 (fun g hg => by simpa using hne g hg), g4⟩
  · rw [hz2, num_snoc]
    have e : (zs.take i).length = i := by simp; omega
    rw [e]
    exact h2'

set_option maxHeartbeats 1000000 in
theorem carry_get (r d n : Nat) (e0 : Int) (zs : List Int) (w : World) (hn : n ≤ 8) (hnz : n ≤ zs.length) (hz : zs.length ≤ 140737488355328) (hwf : Wf zs) (h : GetAt M r d e0 zs w 0 w) :
    Calls Try.prog 66 #[.int .i64 n, .func (Fn.func 83) #[.pointer (some ⟨r, 0, none⟩)] #[], .func (Fn.func 84) #[.pointer (some ⟨d, 0, none⟩)] #[]] w
      fun x w' => x = .returned (.tuple #[]) ∧ GetAt M r d e0 zs w n w' := by
  have H := Lib.hid h; clear h
  go_enter Try.func66, Try.ntmps66
  go_wp2
  refine wp_scope_head 0 (fun a' w' => ∃ (i : Nat) (u6 u7 u8 u9 u10 u11 u12 u13 : Value), i ≤ n ∧ a' = { tmps := #[.int .i64 ((n - i : Nat) : Int), .func (Fn.func 83) #[.pointer (some ⟨r, 0, none⟩)] #[], .func (Fn.func 84) #[.pointer (some ⟨d, 0, none⟩)] #[], undef, undef, undef, u6, u7, u8, u9, u10, u11, u12, u13], defers := [] } ∧ GetAt M r d e0 zs w i w') (fun a' _ => (intOf (a'.tmps.getD 0 undef)).toNat) rfl ⟨0, _, _, _, _, _, _, _, _, by omega, rfl, H.out⟩ ?_
  rintro a' wi ⟨i, u6, u7, u8, u9, u10, u11, u12, u13, hin, rfl, hi⟩
  have HI := Lib.hid hi; clear hi
  by_cases h0 : n - i = 0
  · have hb : (((n - i : Nat) : Int) == 0) = true := by simpa using h0
    have hb2 := Lib.hid (show i = n by omega)
    clear h0
    go_wp2
    simp only [Exit.jump]
    refine bodyPost_ret (results_none rfl _ _ _) rfl ?_
    exact ⟨rfl, by have := HI.out; rw [hb2.out] at this; exact this⟩
  · have hb : (((n - i : Nat) : Int) == 0) = false := by simpa using h0
    have hp : i < zs.length := by omega
    have hpi : i + 1 ≤ n := by omega
    have hge : 1 ≤ n - i := by omega
    clear h0
    obtain ⟨z, q1, q2, q3⟩ := drop_cons hp
    have hw := Lib.hid (hwf z q3)
    have hdl : (zs.drop (i + 1)).length ≤ 140737488355328 := by simp; omega
    have Q1 := Lib.hid q1; have Q2 := Lib.hid q2; clear q1 q2
    have hlen : (zs.take i).length = i := by simp; omega
    have hnb := num_bound _ (hwf.take i)
    rw [hlen] at hnb
    have hnb := Lib.hid hnb
    have hlen := Lib.hid hlen
    have hrd : r ≠ d := by
      intro e
      obtain ⟨_, ⟨v, g1, _⟩, g3⟩ := HI.out
      rw [e, g3] at g1
      simp at g1
    have hrd := Lib.hid hrd
    go_wp2_with fail
    refine (step_any r z e0 (zs.drop (i + 1)) _ hdl (by rw [← Q1.out]; exact HI.out.2.1)).mono ?_
    rintro x w1 ⟨rfl, g1, g2⟩
    have hd1 := Lib.hid (g1.heap HI.out.2.2 (by simpa using hrd.out.symm))
    go_wp2_with fail
    refine (dpush_any d _ z (8 * i) _ (by omega) hnb.out.1 hnb.out.2 hw.out.1 hw.out.2 hd1.out).mono ?_
    rintro x w2 ⟨rfl, g3, g4⟩
    have hfin := Lib.hid (HI.out.next hp Q1.out Q2.out g1 g2 g3 g4 hd1.out)
    clear g1 g2 g3 g4 hd1
    have hmi : ((n - i : Nat) : Int) - 1 = ((n - (i + 1) : Nat) : Int) := by omega
    have hmi := Lib.hid hmi
    go_wp2
    go_step3
    exact ⟨rfl, ⟨i + 1, _, _, _, _, _, _, _, _, hpi, rfl, hfin.out⟩, by simp [intOf]; omega⟩

/-- A Reader gave its first k bytes as a number. -/
theorem width_nat (n : Int) : ∃ k : Nat, widthOf n = (k : Int) ∧ k ≤ 8 := by
  unfold widthOf
  by_cases h : n < 0 ∨ 8 < n
  · exact ⟨0, by rw [if_pos h]; rfl, by omega⟩
  · exact ⟨n.toNat, by rw [if_neg h]; omega, by omega⟩

set_option maxHeartbeats 400000 in
theorem get_yes (r : Nat) (n e0 : Int) (k : Nat) (w : World) (zs : List Int) (hz : zs.length ≤ 140737488355328) (hwf : Wf zs) (h : Rd w r zs e0 M) (hk : widthOf n = (k : Int)) (hn : k ≤ zs.length) :
    Calls Try.prog 77 #[.pointer (some ⟨r, 0, none⟩), .int .i64 n] w fun x w' => x = .returned (.int .u64 (num (zs.take k))) ∧ Chg [r] w w' ∧ Rd w' r (zs.drop k) e0 M := by
  have H := Lib.hid h; clear h
  have hk8 : k ≤ 8 := by
    obtain ⟨k', e, h⟩ := width_nat n
    rw [hk] at e; omega
  have HK := Lib.hid hk; clear hk
  have hlt := H.out.lt
  have hg0 : GetAt M r w.heap.size e0 zs (w.alloc (.cells #[.int .u64 0, .int .i64 0] 94)) 0 (w.alloc (.cells #[.int .u64 0, .int .i64 0] 94)) :=
    ⟨Chg.refl _ _, H.out.keep0 ((Chg.refl _ _).alloc _), heap_alloc_new w _⟩
  have HG := Lib.hid hg0; clear hg0
  go_enter Try.func77, Try.ntmps77
  go_wp2_with fail
  refine (width_any n _).mono ?_
  rintro x w1 ⟨rfl, rfl⟩
  rw [HK.out]
  go_wp2_with fail
  refine (has_yes r _ e0 _ _ hz H.out (by omega)).mono ?_
  rintro x w1 ⟨rfl, rfl⟩
  go_wp2_with fail
  refine (carry_get r w.heap.size k e0 zs _ hk8 hn hz hwf HG.out).mono ?_
  rintro x w1 ⟨rfl, g1, g2, g3⟩
  obtain ⟨c0, c1, f0, f1⟩ := cells2 g3
  have hc : Chg [r] w w1 := ((Chg.refl [r] w).alloc _).trans g1 (by simp)
  have HC := Lib.hid hc
  clear hc g1 g3
  go_wp2
  go_ret
  exact ⟨rfl, HC.out, g2⟩

set_option maxHeartbeats 400000 in
theorem get_no (r : Nat) (n e0 : Int) (w : World) (zs : List Int) (hz : zs.length ≤ 140737488355328) (h : Rd w r zs e0 M) (he : e0 ≠ 0 → zs = []) (hn : zs.length < widthOf n) :
    Calls Try.prog 77 #[.pointer (some ⟨r, 0, none⟩), .int .i64 n] w fun x w' => x = .returned (.int .u64 0) ∧ Cut r e0 M w w' := by
  have H := Lib.hid h; clear h
  have HE := Lib.hid he; clear he
  go_enter Try.func77, Try.ntmps77
  go_wp2_with fail
  refine (width_any n _).mono ?_
  rintro x w1 ⟨rfl, rfl⟩
  go_wp2_with fail
  refine (has_no r _ e0 _ _ hz H.out HE.out hn).mono ?_
  rintro x w1 ⟨rfl, g1⟩
  go_wp2
  go_ret
  exact ⟨rfl, g1⟩

end
end Go.Proofs.Ytegidbbigjhapaa
