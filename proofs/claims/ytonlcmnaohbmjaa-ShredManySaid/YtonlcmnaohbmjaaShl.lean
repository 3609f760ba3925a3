/- The statements of law 14: many records of many values. -/
import Derived.Test.YtonlcmnaohbmjaaShk
import Derived.Test.YtonlcmnaohbmjaaYC
import Derived.Test.YtonlcmnaohbmjaaA1
namespace Go.Proofs.Ytonlcmnaohbmjaa
open Go.RowKit
set_option linter.unusedVariables false
set_option linter.unusedSimpArgs false

abbrev t0M : Tr := .mk 0 ByteArray.empty []
abbrev tM (k : Nat) : Tr := .mk 0 ByteArray.empty [List.replicate k t0M]

theorem cells_trees (n : Nat) : (madeCells #[.int .i64 0, .string ByteArray.empty, .slice none 0 0] (n * 3)).toList = (List.replicate n (t0M, (.slice none 0 0 : Value))).flatMap encT := by
  apply List.ext_getElem?
  intro j
  by_cases hj : j < n * 3
  · have key : ∀ u, (encT (t0M, .slice none 0 0))[j % 3]? = some u → ((List.replicate n (t0M, (.slice none 0 0 : Value))).flatMap encT)[j]? = some u := fun u hu => by
      have h := flat_get encT_len (List.replicate n (t0M, (.slice none 0 0 : Value))) (j / 3) (t0M, .slice none 0 0) (j % 3) u (by rw [List.getElem?_replicate, if_pos (by omega)]) hu
      rwa [show j / 3 * 3 + j % 3 = j by omega] at h
    have h3 : j % 3 = 0 ∨ j % 3 = 1 ∨ j % 3 = 2 := by omega
    rcases h3 with h3 | h3 | h3
    all_goals
      rw [h3] at key
      rw [key _ rfl]
      simp [madeCells, hj, h3]
    all_goals rfl
  · rw [List.getElem?_eq_none (by simp [madeCells]; omega), List.getElem?_eq_none (by rw [flat_length encT_len]; simp; omega)]

theorem kidsIn_made {w1 : World} {B k : Nat} {o : Option Addr} {cap : Nat} (h : w1.ownsRow B 29 3 (.slice o k cap) k ((List.replicate k (t0M, (.slice none 0 0 : Value))).flatMap encT)) (hB : B ≤ w1.heap.size) :
    KidsIn (B ≤ ·) (w1.alloc (.cells #[.slice o k cap] 24)) 2 (tM k).k (.slice (some ⟨w1.heap.size, 0, none⟩) 1 1) := by
  refine kidsIn_succ.2 ⟨[(List.replicate k t0M, .slice o k cap)], rfl, SeenK.lit encR_len (heap_alloc_new w1 _) _ 1 rfl rfl (by decide), fun _ g hg => ?_, fun p hp => ?_⟩
  · simp [Value.ownBlock] at hg
    omega
  · rw [List.mem_singleton] at hp
    subst hp
    have h1 := own_chg h ((Chg.refl [] w1).alloc (.cells #[.slice o k cap] 24)) (by simp)
    have h2 := listIn_own (P := (B ≤ ·)) (d := 1) h1 (by simp) (fun g hg => hg) (fun q hq => by
      have := List.eq_of_mem_replicate hq
      subst this
      exact kidsIn_nil)
    rwa [List.map_replicate] at h2

set_option maxRecDepth 100000 in
set_option maxHeartbeats 4000000 in
theorem manyK_any (n k : Nat) (w : World) (hpos : 0 < w.heap.size) (hn : n ≤ 1000) (hk : k ≤ 1000) :
    Calls Try.prog 27 #[.int .i64 (n : Int), .int .i64 (k : Int)] w fun e w' => ∃ lv, e = .returned lv ∧ ListAt w' 2 (List.replicate n (tM k)) lv ∧ Chg [] w w' := by
  obtain ⟨i0, hi, hz0, hz1, hz2⟩ := info_tree
  have hkm : k ≤ maxLen := by unfold maxLen; omega
  go_enter Try.func27, Try.ntmps27
  go_wp2
  go_loopw [5, 6] (fun lv i w' => ∃ (j : Nat) (E : List (Tr × Value)), j ≤ n ∧ i = .int .i64 (j : Int) ∧ j = E.length ∧ E.map (·.1) = List.replicate j (tM k) ∧ Chg [] w w' ∧ w'.ownsRow w.heap.size 29 3 lv j (E.flatMap encT) ∧ ∀ q ∈ E, KidsIn (fun x => w.heap.size ≤ x ∧ lv.ownBlock ≠ some x) w' 2 q.1.k q.2) (fun _ i _ => n - (intOf i).toNat)
  case atStart => exact ⟨0, [], Nat.zero_le _, rfl, rfl, rfl, Chg.refl _ _, ⟨rfl, .inl ⟨rfl, rfl⟩⟩, by simp⟩
  case round =>
    obtain ⟨j, E, hj, rfl, hjE, hmap, hc, ho, hli⟩ := hrel
    obtain ⟨la, lc, rfl⟩ := own_shape ho
    have HC := Lib.hid hc; have HO := Lib.hid ho; have HLI := Lib.hid hli; have HJE := Lib.hid hjE; have HMAP := Lib.hid hmap
    have hwi := hc.size
    clear hc ho hli hjE hmap
    by_cases hgo : j < n
    · have d1 : decide ((j : Int) < (n : Int)) = true := by simp; omega
      go_wp2_with (at_make; refine wpList_make_full _ rfl _ _ 24 rfl wr.heap.size 29 i0 (.agg #[.int .i64 0, .string ByteArray.empty, .slice none 0 0]) 3 Try.underlying24 hi hz0 hz1 .i64 .i64 _ _ k rfl rfl rfl rfl ?c1 ?c2 (Nat.le_refl _) ?_)
      case c1 => rw [hz2]; omega
      case c2 => exact hkm
      intro w3 hown3 hg3
      rw [cells_trees] at hown3
      have hs3 := hg3.size
      have hC3 : Chg [] wr w3 := (Chg.refl [] wr).grown hg3 (by simp)
      have hK4 := kidsIn_made hown3 hC3.size
      obtain ⟨w4, hw4⟩ : ∃ z, z = w3.alloc (.cells #[.slice (some ⟨wr.heap.size, 0, none⟩) k k] 24) := ⟨_, rfl⟩
      obtain ⟨b4, hb4⟩ : ∃ b, b = w3.heap.size := ⟨_, rfl⟩
      rw [← hw4, ← hb4] at hK4
      have HC4 := Lib.hid (show Chg [] wr w4 by rw [hw4]; exact hC3.alloc _)
      have HK4 := Lib.hid hK4
      have HO4 := Lib.hid (own_chg HO.out HC4.out (by simp))
      have HZ4 := Lib.hid (Nat.le_trans hwi HC4.out.size)
      have HMAP2 := Lib.hid (show (E.map (·.1)) ++ [tM k] = List.replicate (j + 1) (tM k) by rw [HMAP.out, List.replicate_succ'])
      have hs4 : w4.heap.size = w3.heap.size + 1 := by rw [hw4]; simp
      clear hown3 hg3 hs3 hC3 hK4
      go_wp2_with (first
        | (at_builtin; rw [← hs4, ← hb4, ← hw4]; refine wpList_append_at _ rfl (.tmp 12) (.tmp 17) _ rfl w.heap.size 29 i0 (.agg #[.int .i64 0, .string ByteArray.empty, .slice none 0 0]) 3 48 Try.underlying24 hi hz0 hz1 hz2 rfl (by decide) (.slice la j lc) j (E.flatMap encT) rfl (HO4.out.alloc _) ⟨w4.heap.size, 0, none⟩ 1 1 (encT (tM k, Value.slice (some ⟨b4, 0, none⟩) 1 1)) rfl rfl (new_cells (C := #[Value.int .i64 0, Value.string eS, Value.slice (some ⟨b4, 0, none⟩) 1 1]) _ rfl) (encT_one _ rfl) (by unfold maxLen; omega) (by omega) (le_alloc HZ4.out _) ?_; intro v5 w5 hown5 hg5 hat5; obtain ⟨la5, lc5, rfl⟩ := own_shape hown5; have HO5 := Lib.hid hown5; have HG5 := Lib.hid hg5; have HA5 := Lib.hid hat5; clear hown5 hg5 hat5)
        | fail)
      obtain ⟨a1, a2, a3, a4⟩ := grow_trees (lv := .slice la j lc) (E := E) (gr := 0) (by rw [← HJE.out]; exact HO.out) HLI.out hwi hpos HK4.out (HC4.out.mono (by simp)) (by rw [← HJE.out]; exact HO5.out) HG5.out HA5.out
      have A1 := Lib.hid a1; have A2 := Lib.hid a2
      have A3 := Lib.hid (show Chg [] w w5 from (HC.out.trans HC4.out (by simp)).trans a3 (fun t ht => .inr (a4 t ht)))
      have HJE2 := Lib.hid (show j + 1 = (E ++ [(tM k, Value.slice (some ⟨b4, 0, none⟩) 1 1)]).length by rw [List.length_append, ← HJE.out]; rfl)
      clear a1 a2 a3 a4 hw4 hb4 hs4
      go_wp2
      go_roundw
      case rel => exact ⟨j + 1, E ++ [(tM k, Value.slice (some ⟨b4, 0, none⟩) 1 1)], by omega, by go_num, HJE2.out, by rw [List.map_append]; exact HMAP2.out, A3.out, by have h := A1.out; rw [← HJE2.out] at h; exact h, A2.out⟩
      case measure => simp [intOf]; omega
    · have ej : j = n := by omega
      subst ej
      go_wp2
      go_ret
      refine ⟨_, rfl, ?_, HC.out⟩
      have h := listIn_own (P := (w.heap.size ≤ ·)) (d := 2) HO.out HJE.out.symm (fun g hg => hg) fun q hq => (HLI.out q hq).mono (fun g hg => hg.1) (Nat.le_refl _)
      rw [HMAP.out] at h
      exact h.at

end Go.Proofs.Ytonlcmnaohbmjaa
