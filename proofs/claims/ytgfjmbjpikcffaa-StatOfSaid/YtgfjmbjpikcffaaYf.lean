/- tree's order: of two texts. -/
import Derived.Test.YtgfjmbjpikcffaaYe
import Derived.Test.YtgfjmbjpikcffaaItr
import Derived.Test.YtgfjmbjpikcffaaMp
namespace Go.Proofs.Ytgfjmbjpikcffaa
open Go.RowKit
set_option linter.unusedVariables false

abbrev OF (a b : ByteArray) (k : Nat) (u : Nat → Value) : Act :=
  { tmps := #[.string a, .string b, u 2, u 3, u 4, .int .i64 (k : Int), u 6, u 7, u 8, u 9, u 10, u 11, u 12, u 13, u 14, u 15, u 16, u 17, u 18, u 19, u 20, u 21, u 22, u 23, u 24, u 25, u 26, u 27, u 28, u 29, u 30, u 31, u 32, u 33, u 34, u 35, u 36, u 37, u 38, u 39, u 40, u 41, u 42, u 43, u 44, u 45, u 46, u 47, u 48, u 49, u 50, u 51, u 52, u 53, u 54, u 55, u 56, u 57, u 58, u 59, u 60], defers := [] }
theorem OF_of {a b : ByteArray} {k : Nat} {x : Act} (h : x = OF a b k (fun j => x.tmps.getD j undef)) : ∃ u, x = OF a b k u := ⟨_, h⟩

/-- The first k bytes are the same. -/
structure OJ (a b : ByteArray) (w w' : World) (k : Nat) : Prop where
  ka : k ≤ a.size
  kb : k ≤ b.size
  eq : (bl a).take k = (bl b).take k
  cg : Chg [] w w'

theorem extract_eq {a b : ByteArray} {i j : Nat} (h1 : j ≤ a.size) (h2 : j ≤ b.size) (h : (a.extract i j).toList = (b.extract i j).toList) : ((bl a).take j).drop i = ((bl b).take j).drop i := by
  rw [ByteArray.toList_eq, ByteArray.toList_eq] at h
  rw [ByteArray.data_extract, ByteArray.data_extract, Array.toList_extract, Array.toList_extract] at h
  have h3 := congrArg (List.map (·.toNat)) h
  simp only [List.extract_eq_take_drop, List.map_take, List.map_drop] at h3
  have e : ∀ s : ByteArray, s.data.toList.map (·.toNat) = bl s := fun s => rfl
  simp only [e] at h3
  rw [List.drop_take, List.drop_take]
  exact h3

set_option maxRecDepth 100000 in
set_option maxHeartbeats 2000000 in
theorem order_any (a b : ByteArray) (w : World) (ha : a.size ≤ 1000000) (hb : b.size ≤ 1000000) :
    Calls Try.prog 28 #[.string a, .string b] w fun e w' => e = .returned (.int .i64 (cmpL (bl a) (bl b))) ∧ Chg [] w w' := by
  go_enter Try.func28, Try.ntmps28
  go_wp2_with fail
  refine wp_scope_pre2 0 (fun a' w' => ∃ k, (∃ u, a' = OF a b k u) ∧ OJ a b w w' k) (fun a' _ => a.size - (intOf (a'.tmps.getD 5 undef)).toNat) rfl ?_ ?_
  · go_wp2
    go_loopw [5] (fun x w' => ∃ pos k : Nat, x = .int .i64 (k : Int) ∧ k ≤ pos ∧ pos ≤ a.size ∧ k ≤ b.size ∧ (bl a).take k = (bl b).take k ∧ w'.heap[w.heap.size]? = some (.stringIter a pos) ∧ Chg [] w w') (fun _ w' => a.size - itp w' w.heap.size)
    case atStart => exact ⟨0, 0, rfl, Nat.le_refl _, Nat.zero_le _, Nat.zero_le _, rfl, heap_alloc_new w _, (Chg.refl [] w).alloc _⟩
    case round =>
      obtain ⟨pos, k, rfl, hkp, hpa, hkb, he, hit, hC⟩ := hrel
      have HE := Lib.hid he; have HC := Lib.hid hC; have HTP := Lib.hid (itp_of hit)
      clear he hC
      by_cases hps : pos < a.size
      · obtain ⟨c, r, q, hcb, hr, hq, hr2, hbr⟩ := dec_pos a pos hps
        have hnx : ∀ ty, (Instr.next (.pointer (some ⟨w.heap.size, 0, none⟩)) true ty).run Try.prog wr = _ := fun ty => Lib.run_next_any_at wr w.heap.size a pos ty hit hps
        have HSK := Lib.hid (fun j => decode_skip a pos j hps)
        rw [hr, hq] at hnx
        rw [hq] at HSK
        have HI1 := Lib.hid (Lib.iterAt_heap wr w.heap.size a pos q hit)
        have HC1 := Lib.hid (Chg.iterAt HC.out (k := w.heap.size) (by simp) a q)
        have HBR := Lib.hid hbr
        clear hcb hr hq hbr hit
        generalize wr.iterAt w.heap.size a q = W1 at hnx HI1 HC1
        by_cases h1 : b.size < pos
        · have d1 : decide ((b.size : Int) < (pos : Int)) = true := by simp; omega
          go_upto_region 5 with fail
          go_quiet (fail)
          go_wp2
          exact ⟨k, OF_of rfl, by omega, hkb, HE.out, HC1.out.drewN _⟩
        · have d1 : decide ((b.size : Int) < (pos : Int)) = false := by simp; omega
          obtain ⟨t, ht⟩ : ∃ t, t = ((a.extract k pos).toList == (b.extract k pos).toList) := ⟨_, rfl⟩
          have HT := Lib.hid ht
          have ht' := ht.symm
          clear ht
          cases t
          · go_upto_region 5 with fail
            go_quiet (fail)
            go_wp2
            exact ⟨k, OF_of rfl, by omega, hkb, HE.out, HC1.out.drewN _⟩
          · go_upto_region 5 with fail
            go_quiet (fail)
            go_wp2
            go_roundw
            case rel =>
              have hpb : pos ≤ b.size := by omega
              have hex := extract_eq hpa hpb (by have := HT.out.symm; simpa using this)
              have hqs : q ≤ a.size := by
                by_cases hq1 : q = pos + 1
                · omega
                · have hqp : pos < q := by have := HBR.out; omega
                  have := (HSK.out (q - 1) (by omega) (by omega)).1
                  omega
              refine ⟨q, pos, rfl, by have := HBR.out; omega, hqs, hpb, ?_, ((Chg.refl [] _).drewN _).heap HI1.out (by simp), HC1.out.drewN _⟩
              have e1 : ∀ s : ByteArray, (bl s).take pos = (bl s).take k ++ ((bl s).take pos).drop k := fun s => by
                have := List.take_append_drop k ((bl s).take pos)
                rw [List.take_take, Nat.min_eq_left hkp] at this
                exact this.symm
              rw [e1 a, e1 b, HE.out, hex]
            case measure =>
              have := HBR.out
              rw [itp_of (((Chg.refl [] _).drewN _).heap HI1.out (by simp)), HTP.out]; omega
      · have hnx : ∀ ty, (Instr.next (.pointer (some ⟨w.heap.size, 0, none⟩)) true ty).run Try.prog wr = _ := fun ty => Lib.run_next_end_at wr w.heap.size a pos ty hit hps
        go_wp2
        exact ⟨k, OF_of rfl, by omega, hkb, HE.out, HC.out⟩
  · rintro a' w' ⟨k, ⟨u, rfl⟩, hJ⟩
    unfold OF
    obtain ⟨hka, hkb, he, hC⟩ := hJ
    have HC := Lib.hid hC
    have HS := Lib.hid (cmpL_skip k (bl a) (bl b) he (by rw [bl_length]; exact hka) (by rw [bl_length]; exact hkb))
    have HT := Lib.hid he
    clear hC he
    by_cases h1 : k = a.size ∨ k = b.size
    · have E := Lib.hid (show cmpL (bl a) (bl b) = ordI (a.size : Int) (b.size : Int) by
        have h2 : (bl a).drop k = [] ∨ (bl b).drop k = [] := by
          rcases h1 with h1 | h1
          · left; exact List.drop_of_length_le (by rw [bl_length]; omega)
          · right; exact List.drop_of_length_le (by rw [bl_length]; omega)
        rw [HS.out, cmpL_end _ _ h2, List.length_drop, List.length_drop, bl_length, bl_length, ordI_len _ _ _ hka hkb])
      obtain ⟨c, hc⟩ : ∃ c, c = ((k : Int) == (a.size : Int)) := ⟨_, rfl⟩
      have d1 := hc.symm
      cases c
      · have d2 : ((k : Int) == (b.size : Int)) = true := by simp at d1 ⊢; omega
        clear hc h1
        go_wp2_with (first
          | (go_at_call 29; (with_reducible refine (cmp_int _ _ _).mono ?_); rintro e w1 ⟨rfl, rfl⟩)
          | fail)
        simp only [Exit.jump]
        go_ret
        exact ⟨ret_int E.out.symm, HC.out⟩
      · clear hc h1
        go_wp2_with (first
          | (go_at_call 29; (with_reducible refine (cmp_int _ _ _).mono ?_); rintro e w1 ⟨rfl, rfl⟩)
          | fail)
        simp only [Exit.jump]
        go_ret
        exact ⟨ret_int E.out.symm, HC.out⟩
    · have d1 : ((k : Int) == (a.size : Int)) = false := by simp; omega
      have d2 : ((k : Int) == (b.size : Int)) = false := by simp; omega
      have hka' : k < a.size := by omega
      have hkb' : k < b.size := by omega
      have i1 : (k : Int) < (a.size : Int) := by omega
      have i2 : (k : Int) < (b.size : Int) := by omega
      have HA := Lib.hid (bl_get a k hka')
      have HB := Lib.hid (bl_get b k hkb')
      have ht : (k : Int).toNat = k := by omega
      obtain ⟨x, hx⟩ : ∃ x, x = (a[k]'hka').toNat := ⟨_, rfl⟩
      obtain ⟨y, hy⟩ : ∃ y, y = (b[k]'hkb').toNat := ⟨_, rfl⟩
      rw [← hx] at HA
      rw [← hy] at HB
      have HX := Lib.hid hx; have HY := Lib.hid hy
      clear hx hy
      have HD := Lib.hid (And.intro (take_one HA.out) (take_one HB.out))
      by_cases hxy : x = y
      · have e1 : ((x : Int) != (y : Int)) = false := by simp [hxy]
        rw [HX.out, HY.out] at e1
        have HN := Lib.hid (show OJ a b w w' (k + 1) from ⟨by omega, by omega, by rw [HD.out.1.1, HD.out.2.1, HT.out, hxy], HC.out⟩)
        clear hxy
        go_upto_region 9 with fail
        go_quiet (fail)
        go_wp2
        refine wp_goto ?_
        refine ⟨rfl, ⟨k + 1, OF_of rfl, ?_⟩, ?_⟩
        · obtain ⟨q1, q2, q3, q4⟩ := HN.out
          exact ⟨q1, q2, q3, q4.drewN _⟩
        · simp [intOf]; omega
      · have e1 : ((x : Int) != (y : Int)) = true := by simp; omega
        have e2 : ¬ ((x : Int) = (y : Int)) := by omega
        have E := Lib.hid (show cmpL (bl a) (bl b) = ordI ((a[k]'hka').toNat : Int) ((b[k]'hkb').toNat : Int) by
          rw [HS.out, HD.out.1.2, HD.out.2.2, cmpL, if_neg hxy, HX.out, HY.out])
        rw [HX.out, HY.out] at e1 e2
        clear hxy
        go_upto_region 9 with fail
        go_quiet (fail)
        go_wp2_with fail
        go_quiet (first
          | (refine (cmp_byte _ _ _).mono fun _ _ h => ⟨h.1, _, h.2.symm⟩))
        go_wp2
        simp only [Exit.jump]
        go_ret
        exact ⟨ret_int E.out.symm, HC.out.drewN _⟩

end Go.Proofs.Ytgfjmbjpikcffaa
