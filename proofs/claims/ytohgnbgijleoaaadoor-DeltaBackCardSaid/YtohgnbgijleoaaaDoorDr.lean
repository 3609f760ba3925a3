/- delta's reference: Encode of values; what Encode wrote, decoded. -/
import Derived.Test.YtohgnbgijleoaaaDoorDh
import Derived.Test.YtohgnbgijleoaaaDoorE4
import Derived.Test.YtohgnbgijleoaaaDoorUj
namespace Go.Proofs.YtohgnbgijleoaaaDoor
open Go.RowKit
set_option linter.unusedVariables false
set_option linter.unusedSimpArgs false

theorem str_app12' (a b : List Nat) : str (a ++ b) = str a ++ str b := by
  unfold str
  apply ByteArray.ext
  simp
theorem map_snoc12' {β : Type} (f : V → β) (l : List V) (j : Nat) (v : V) (h : l[j]? = some v) : (l.take (j + 1)).map f = (l.take j).map f ++ [f v] := by
  rw [List.take_add_one, h]
  simp

set_option maxRecDepth 100000 in
set_option maxHeartbeats 4000000 in
theorem rencode12_num (k : Nat) (hk : k = 2 ∨ k = 3) (lv : Value) (L : List V) (w : World) (hS : SeenV w lv L) (hl : L.length ≤ 1000) (hok : ∀ v ∈ L, okV k v) :
    Calls Tryd.prog 12 #[.int .i64 (k : Int), lv] w fun e w' => ∃ x, e = .returned x ∧ Made 5 .u8 (encD12 k L) w x w' := by
  obtain ⟨i0, hi, hz0, hz1, hz2⟩ := info_int
  obtain ⟨lo, lc, rfl, hc1, hc2⟩ := hS.shape
  obtain ⟨n, hn⟩ : ∃ n, n = L.length := ⟨_, rfl⟩
  rw [← hn] at hS hl hc1 ⊢
  have HN := Lib.hid hn
  have HL := Lib.hid hS
  have HIN := Lib.hid (show ∀ x ∈ L.map V.n, In64 x from fun x hx => by
    obtain ⟨v, hv, rfl⟩ := List.mem_map.1 hx
    exact (okV_in k (by omega) v (hok v hv)).1)
  have E := Lib.hid (show encD12 k L = intsE (L.map V.n) by unfold encD12; rw [if_neg (by omega), if_neg (by omega)])
  rw [E.out]
  have HLE := intsE_len _ HIN.out
  rw [List.length_map, ← HN.out] at HLE
  obtain ⟨I, hI⟩ : ∃ I, I = intsE (L.map V.n) := ⟨_, rfl⟩
  rw [← hI] at HLE ⊢
  obtain ⟨b1, hb1⟩ : ∃ b, b = I.length := ⟨_, rfl⟩
  unfold Made
  rw [← hb1] at HLE ⊢
  have HI := Lib.hid hI; have HB1 := Lib.hid hb1
  clear hI hb1
  have hk1 : ((k : Int) == 1) = false := by rcases hk with rfl | rfl <;> rfl
  have hk4 : ((k : Int) == 4) = false := by rcases hk with rfl | rfl <;> rfl
  have hk1' : ¬ k = 1 := by omega
  have hk4' : ¬ k = 4 := by omega
  have hk1'' : ¬ (k : Int) = 1 := by omega
  have hk4'' : ¬ (k : Int) = 4 := by omega
  clear hS hn hok hk
  go_enter Tryd.func12, Tryd.ntmps12
  go_wp2
  go_loopw [5, 6, 7] (fun nv' sv i w' => ∃ j : Nat, j ≤ n ∧ i = .int .i64 (j : Int) ∧ sv = .string e0 ∧ Chg [] w w' ∧ w'.ownsRow w.heap.size 3 1 nv' j (iv ((L.take j).map V.n))) (fun _ _ i _ => n - (intOf i).toNat)
  case atStart => exact ⟨0, Nat.zero_le _, rfl, rfl, Chg.refl _ _, World.ownsRow_nil _ _ _ _⟩
  case round =>
    obtain ⟨j, hj, rfl, rfl, hc, ho⟩ := hrel
    obtain ⟨no, nc, rfl⟩ := own_shape ho
    have HC := Lib.hid hc; have HO := Lib.hid ho
    have hB := hc.size
    clear hc ho
    by_cases hlt : j < n
    · have d1 : decide ((j : Int) < (n : Int)) = true := by simp; omega
      obtain ⟨v, hv⟩ : ∃ v, L[j]? = some v := ⟨_, List.getElem?_eq_getElem (by rw [← HN.out]; exact hlt)⟩
      obtain ⟨g, off, rfl, hcell⟩ := SeenV.get HL.out (by omega)
      obtain ⟨q0, q1⟩ := hcell j v hv
      have x0 := HC.out.cell q0 (by simp)
      have HMS := Lib.hid (map_snoc12' V.n L j v hv)
      obtain ⟨X, hX⟩ : ∃ X, X = (L.take j).map V.n := ⟨_, rfl⟩
      rw [← hX] at HMS HO
      have b1 : (j : Int) < (n : Int) := by omega
      clear hcell hv hX q0 q1
      go_wp2_with (first
        | (at_builtin; refine wpList_append_own _ rfl _ _ 33 rfl w.heap.size 3 i0 (.int .i64 0) 1 8 Tryd.underlying33 hi hz0 hz1 hz2 rfl (by decide) _ _ _ rfl (HO.out.alloc _) ⟨wr.heap.size, 0, none⟩ 1 1 [.int .i64 v.n] rfl rfl ?c1 ?c2 ?c3 ?c4 ?c5 ?_)
        | fail)
      case c1 => exact cell_one_new _ _ _
      case c2 => simp [Value.oneCell']
      case c3 => unfold maxLen; omega
      case c4 => omega
      case c5 => simp; omega
      intro v6 w6 hown6 hgrow6 _
      have HC6 := Lib.hid ((HC.out.alloc _).grown hgrow6 (fun k hk => .inr (own_ge HO.out k hk)))
      rw [show iv X ++ [Value.int .i64 v.n] = iv (X ++ [v.n]) by simp [iv], ← HMS.out] at hown6
      have HO6 := Lib.hid hown6
      clear hown6 hgrow6 x0
      go_wp2
      go_roundw
      case rel => exact ⟨j + 1, hlt, by go_num, rfl, HC6.out, HO6.out⟩
      case measure => simp [intOf]; omega
    · have d1 : decide ((j : Int) < (n : Int)) = false := by simp; omega
      obtain rfl : j = n := by omega
      have hLT : L.take j = L := by rw [HN.out, List.take_length]
      rw [hLT] at HO
      have HSI := Lib.hid (ownI_seen HO.out (by rw [List.length_map]; exact HN.out.symm))
      have HIT := Lib.hid (rints12_any (.slice no j nc) _ wr HSI.out (by rw [List.length_map, ← HN.out]; omega) HIN.out)
      unfold Made at HIT
      rw [← HI.out, ← HB1.out] at HIT
      clear hLT
      go_wp2_with (first
        | (go_at_call 23; (with_reducible refine HIT.out.mono ?_); rintro e w2 ⟨x, rfl, hc, ho⟩; have HC2 := Lib.hid (HC.out.trans hc (by simp)); have HO2 := Lib.hid ho; have hB2 := hc.size; clear hc ho)
        | (at_builtin; refine wpList_append_txt rfl _ _ rfl wr.heap.size _ b1 _ rfl HO2.out e0 rfl ?c1 ?c2 ?_)
        | fail)
      case c1 => show b1 + 0 ≤ _; omega
      case c2 => exact hB2
      intro v6 w6 hown6 hgrow6
      have HO6 := Lib.hid (show w6.ownsRow w.heap.size 5 1 v6 b1 (nv .u8 I) from own_mono (by
        have h := hown6
        rw [show bl e0 = [] from rfl, show nv .u8 ([] : List Nat) = [] from rfl, List.append_nil] at h
        exact h) hB)
      have HC6 := Lib.hid (HC2.out.grown hgrow6 (fun k hk => .inr (by have := own_ge HO2.out k hk; omega)))
      clear hown6 hgrow6
      go_wp2
      go_ret
      exact ⟨_, rfl, HC6.out, HO6.out⟩

set_option maxRecDepth 100000 in
set_option maxHeartbeats 4000000 in
theorem rencode12_txt (lv : Value) (L : List V) (w : World) (hS : SeenV w lv L) (hl : L.length ≤ 1000) (hok : ∀ v ∈ L, okV 4 v) :
    Calls Tryd.prog 12 #[.int .i64 4, lv] w fun e w' => ∃ x, e = .returned x ∧ Made 5 .u8 (encD12 4 L) w x w' := by
  obtain ⟨i0, hi, hz0, hz1, hz2⟩ := info_int
  obtain ⟨lo, lc, rfl, hc1, hc2⟩ := hS.shape
  obtain ⟨n, hn⟩ : ∃ n, n = L.length := ⟨_, rfl⟩
  rw [← hn] at hS hl hc1 ⊢
  have HN := Lib.hid hn
  have HL := Lib.hid hS
  have HOK := Lib.hid hok
  have HIN := Lib.hid (show ∀ x ∈ (L.map fun v => (v.s.size : Int)), In64 x from fun x hx => by
    obtain ⟨v, hv, rfl⟩ := List.mem_map.1 hx
    have := (okV_in 4 (by omega) v (hok v hv)).2
    unfold In64; omega)
  have E := Lib.hid (show encD12 4 L = intsE (L.map fun v => (v.s.size : Int)) ++ txt12 L by unfold encD12; rw [if_neg (by decide), if_pos rfl])
  rw [E.out]
  have HLE := intsE_len _ HIN.out
  rw [List.length_map, ← HN.out] at HLE
  have HTL := txt12_len L (fun v hv => (okV_in 4 (by omega) v (hok v hv)).2)
  rw [← hn] at HTL
  have HTB := Lib.hid (show bl (str (txt12 L)) = txt12 L from bl_str (fun c hc => by
    obtain ⟨v, -, hv⟩ := List.mem_flatMap.1 hc
    exact bl_lt _ c hv))
  have HTZ := Lib.hid (str_size (txt12 L))
  obtain ⟨I, hI⟩ : ∃ I, I = intsE (L.map fun v => (v.s.size : Int)) := ⟨_, rfl⟩
  rw [← hI] at HLE ⊢
  obtain ⟨T, hT⟩ : ∃ T, T = txt12 L := ⟨_, rfl⟩
  rw [← hT] at HTL HTB HTZ ⊢
  obtain ⟨b1, hb1⟩ : ∃ b, b = I.length := ⟨_, rfl⟩
  obtain ⟨b2, hb2⟩ : ∃ b, b = (I ++ T).length := ⟨_, rfl⟩
  unfold Made
  rw [← hb1] at HLE
  rw [← hb2]
  have HI := Lib.hid hI; have HB1 := Lib.hid hb1; have HT := Lib.hid hT; have HB2 := Lib.hid hb2
  clear hI hb1 hT hb2
  clear hS hn hok
  go_enter Tryd.func12, Tryd.ntmps12
  go_wp2
  go_loopw [5, 6, 7] (fun nv' sv i w' => ∃ j : Nat, j ≤ n ∧ i = .int .i64 (j : Int) ∧ sv = .string (str (txt12 (L.take j))) ∧ Chg [] w w' ∧ w'.ownsRow w.heap.size 3 1 nv' j (iv ((L.take j).map fun v => (v.s.size : Int)))) (fun _ _ i _ => n - (intOf i).toNat)
  case atStart => exact ⟨0, Nat.zero_le _, rfl, rfl, Chg.refl _ _, World.ownsRow_nil _ _ _ _⟩
  case round =>
    obtain ⟨j, hj, rfl, rfl, hc, ho⟩ := hrel
    obtain ⟨no, nc, rfl⟩ := own_shape ho
    have HC := Lib.hid hc; have HO := Lib.hid ho
    have hB := hc.size
    clear hc ho
    by_cases hlt : j < n
    · have d1 : decide ((j : Int) < (n : Int)) = true := by simp; omega
      obtain ⟨v, hv⟩ : ∃ v, L[j]? = some v := ⟨_, List.getElem?_eq_getElem (by rw [← HN.out]; exact hlt)⟩
      obtain ⟨g, off, rfl, hcell⟩ := SeenV.get HL.out (by omega)
      obtain ⟨q0, q1⟩ := hcell j v hv
      have HQ1 := Lib.hid q1
      have x0 := HC.out.cell q0 (by simp)
      have x1 := HC.out.cell q1 (by simp)
      clear q0 q1
      have hvs := (okV_in 4 (by omega) v (HOK.out v (List.mem_of_getElem? hv))).2
      have HMS := Lib.hid (map_snoc12' (fun v : V => (v.s.size : Int)) L j v hv)
      have HTS := Lib.hid (show str (txt12 (L.take (j + 1))) = str (txt12 (L.take j)) ++ v.s by rw [txt12_snoc L j v hv, str_app12', str_bl'])
      have htl := txt12_len (L.take j) (fun x hx => (okV_in 4 (by omega) x (HOK.out x (List.mem_of_mem_take hx))).2)
      rw [List.length_take] at htl
      have hts : (str (txt12 (L.take j))).size ≤ 100000 := by rw [str_size]; omega
      obtain ⟨Tj, hTT⟩ : ∃ T, T = str (txt12 (L.take j)) := ⟨_, rfl⟩
      rw [← hTT] at HTS hts ⊢
      obtain ⟨X, hX⟩ : ∃ X, X = (L.take j).map fun v => (v.s.size : Int) := ⟨_, rfl⟩
      rw [← hX] at HMS HO
      have hsum : ¬ (9223372036854775807 < Tj.size + v.s.size) := by omega
      have b1 : (j : Int) < (n : Int) := by omega
      clear hcell hv hTT hX htl
      go_wp2_with (first
        | (at_builtin; refine wpList_append_own _ rfl _ _ 33 rfl w.heap.size 3 i0 (.int .i64 0) 1 8 Tryd.underlying33 hi hz0 hz1 hz2 rfl (by decide) _ _ _ rfl (HO.out.alloc _) ⟨wr.heap.size, 0, none⟩ 1 1 [.int .i64 (v.s.size : Int)] rfl rfl ?c1 ?c2 ?c3 ?c4 ?c5 ?_)
        | fail)
      case c1 => exact cell_one_new _ _ _
      case c2 => simp [Value.oneCell']
      case c3 => unfold maxLen; omega
      case c4 => omega
      case c5 => simp; omega
      intro v6 w6 hown6 hgrow6 _
      have HC6 := Lib.hid ((HC.out.alloc _).grown hgrow6 (fun k hk => .inr (own_ge HO.out k hk)))
      rw [show iv X ++ [Value.int .i64 (v.s.size : Int)] = iv (X ++ [(v.s.size : Int)]) by simp [iv], ← HMS.out] at hown6
      have HO6 := Lib.hid hown6
      have y1 := HC6.out.cell HQ1.out (by simp)
      clear hown6 hgrow6 x0 x1
      go_wp2
      go_roundw
      case rel => exact ⟨j + 1, hlt, by go_num, by rw [HTS.out], HC6.out, HO6.out⟩
      case measure => simp [intOf]; omega
    · have d1 : decide ((j : Int) < (n : Int)) = false := by simp; omega
      obtain rfl : j = n := by omega
      have hLT : L.take j = L := by rw [HN.out, List.take_length]
      rw [hLT] at HO ⊢
      rw [← HT.out]
      have HSI := Lib.hid (ownI_seen HO.out (by rw [List.length_map]; exact HN.out.symm))
      have HIT := Lib.hid (rints12_any (.slice no j nc) _ wr HSI.out (by rw [List.length_map, ← HN.out]; omega) HIN.out)
      unfold Made at HIT
      rw [← HI.out, ← HB1.out] at HIT
      clear hLT
      have htz := HTZ.out
      obtain ⟨sT, hsT⟩ : ∃ s, s = str T := ⟨_, rfl⟩
      rw [← hsT] at HTB htz ⊢
      have HTZ2 := Lib.hid htz
      have htz3 : sT.size ≤ 100000 := by omega
      clear hsT htz
      go_wp2_with (first
        | (go_at_call 23; (with_reducible refine HIT.out.mono ?_); rintro e w2 ⟨x, rfl, hc, ho⟩; have HC2 := Lib.hid (HC.out.trans hc (by simp)); have HO2 := Lib.hid ho; have hB2 := hc.size; clear hc ho)
        | (at_builtin; refine wpList_append_txt rfl _ _ rfl wr.heap.size _ b1 _ rfl HO2.out sT rfl ?c1 ?c2 ?_)
        | fail)
      case c1 => omega
      case c2 => exact hB2
      intro v6 w6 hown6 hgrow6
      have HO6 := Lib.hid (show w6.ownsRow w.heap.size 5 1 v6 b2 (nv .u8 (I ++ T)) from own_mono (by
        have h := hown6
        rw [HTB.out, show nv .u8 I ++ nv .u8 T = nv .u8 (I ++ T) by simp [nv], HTZ2.out, HB1.out, ← List.length_append, ← HB2.out] at h
        exact h) hB)
      have HC6 := Lib.hid (HC2.out.grown hgrow6 (fun k hk => .inr (by have := own_ge HO2.out k hk; omega)))
      clear hown6 hgrow6
      go_wp2
      go_ret
      exact ⟨_, rfl, HC6.out, HO6.out⟩

set_option maxRecDepth 100000 in
set_option maxHeartbeats 1000000 in
theorem rencode12_any (k : Nat) (hk : 1 ≤ k ∧ k ≤ 4) (lv : Value) (L : List V) (w : World) (hS : SeenV w lv L) (hl : L.length ≤ 1000) (hok : ∀ v ∈ L, okV k v) :
    Calls Tryd.prog 12 #[.int .i64 (k : Int), lv] w fun e w' => ∃ x, e = .returned x ∧ Made 5 .u8 (encD12 k L) w x w' := by
  by_cases h1 : k = 1
  · subst h1
    have HE := Lib.hid (rencode11_any 1 (by omega) lv L w hS (by omega) (fun v hv => by
      obtain ⟨h, -⟩ := hok v hv
      rw [(h rfl).2]; decide))
    unfold Made at HE
    rw [show ((1 : Nat) : Int) = 1 from rfl] at HE ⊢
    show Calls Tryd.prog 12 #[.int .i64 1, lv] w fun e w' => ∃ x, e = .returned x ∧ Made 5 .u8 (encP 1 L) w x w'
    clear hS hok
    go_enter Tryd.func12, Tryd.ntmps12
    go_wp2_with (first
      | (go_at_call 22; (with_reducible refine HE.out.mono ?_); rintro e w2 ⟨x, rfl, hc, ho⟩; have HC := Lib.hid hc; have HO := Lib.hid ho; clear hc ho)
      | fail)
    go_ret
    exact ⟨_, rfl, HC.out, HO.out⟩
  · by_cases h4 : k = 4
    · subst h4
      exact rencode12_txt lv L w hS hl hok
    · exact rencode12_num k (by omega) lv L w hS hl hok

theorem nV_map (L : List V) (h : ∀ v ∈ L, v.s = e0) : nV (L.map V.n) = L := by
  unfold nV
  rw [List.map_map]
  conv => rhs; rw [← List.map_id L]
  apply List.map_congr_left
  intro v hv
  have := h v hv
  cases v
  simp at this
  simp [this]

theorem txS_back : ∀ (L : List V), (∀ v ∈ L, v.n = 0) → txS (nV (L.map fun v => (v.s.size : Int))) (txt12 L) = (0, L, [])
  | [], _ => rfl
  | v :: l, h => by
    have ih := txS_back l fun x hx => h x (by simp [hx])
    have e1 : txt12 (v :: l) = bl v.s ++ txt12 l := by simp [txt12]
    have e2 : nV ((v :: l).map fun v => (v.s.size : Int)) = (⟨(v.s.size : Int), e0⟩ : V) :: nV (l.map fun v => (v.s.size : Int)) := rfl
    have hb := bl_length v.s
    rw [e1, e2]
    simp only [txS]
    rw [if_neg (by rw [List.length_append]; omega), Int.toNat_natCast, show (bl v.s ++ txt12 l).drop v.s.size = txt12 l by rw [← hb]; simp, show (bl v.s ++ txt12 l).take v.s.size = bl v.s by rw [← hb]; simp, ih, str_bl']
    have := h v (by simp)
    cases v
    simp at this
    simp [this]

theorem dec12_back (k : Nat) (hk : 1 ≤ k ∧ k ≤ 4) (L : List V) (hl : L.length ≤ 1000) (hok : ∀ v ∈ L, okV k v) : decD12 (k : Int) (L.length : Int) (encD12 k L) = (L, 0) := by
  by_cases h1 : k = 1
  · subst h1
    show decP ((1 : Nat) : Int) (encP 1 L) (L.length : Int) = (L, 0)
    exact dec_enc 1 (by omega) L (by omega) hok
  have hin := fun v hv => okV_in k (by omega) v (hok v hv)
  by_cases h4 : k = 4
  · subst h4
    have hI : ∀ x ∈ (L.map fun v => (v.s.size : Int)), In64 x := fun x hx => by
      obtain ⟨v, hv, rfl⟩ := List.mem_map.1 hx
      have := (hin v hv).2
      unfold In64; omega
    have h := read_ints (L.map fun v => (v.s.size : Int)) hI (by rw [List.length_map]; omega) (txt12 L)
    rw [List.length_map] at h
    unfold decD12
    rw [if_pos (by omega), show sg12 ((4 : Nat) : Int).toNat = [108, 116] from rfl, show encD12 4 L = intsE (L.map fun v => (v.s.size : Int)) ++ txt12 L by unfold encD12; rw [if_neg (by decide), if_pos rfl]]
    have hf : frD [108, 116] (L.length : Int) [] (intsE (L.map fun v => (v.s.size : Int)) ++ txt12 L) = (0, L, []) := by
      have hd : dpE 108 (L.length : Int) [] (intsE (L.map fun v => (v.s.size : Int)) ++ txt12 L) = (0, nV (L.map fun v => (v.s.size : Int)), txt12 L) := by
        unfold dpE
        rw [if_neg (by decide), if_pos rfl, h, numE_good (by
          rw [List.all_eq_true]
          intro x hx
          obtain ⟨v, hv, rfl⟩ := List.mem_map.1 hx
          have := (hin v hv).2
          simp only [Bool.and_eq_true, decide_eq_true_eq]
          omega)]
        simp
      have ht : dpE 116 (L.length : Int) (nV (L.map fun v => (v.s.size : Int))) (txt12 L) = (0, L, []) := by
        unfold dpE
        rw [if_neg (by decide), if_neg (by decide), if_pos rfl]
        exact txS_back L fun v hv => ((hok v hv).2.2.2 rfl).1
      rw [frD, hd, if_pos rfl, frD, ht, if_pos rfl]
      rfl
    rw [hf]
    rfl
  · have hs : ∀ v ∈ L, v.s = e0 := fun v hv => by
      obtain ⟨-, h2, h3, -⟩ := hok v hv
      have : k = 2 ∨ k = 3 := by omega
      rcases this with rfl | rfl
      · exact (h2 rfl).2
      · exact (h3 rfl).2
    have hI : ∀ x ∈ L.map V.n, In64 x := fun x hx => by
      obtain ⟨v, hv, rfl⟩ := List.mem_map.1 hx
      exact (hin v hv).1
    have h := read_ints (L.map V.n) hI (by rw [List.length_map]; omega) []
    rw [List.length_map, List.append_nil] at h
    have hE : encD12 k L = intsE (L.map V.n) := by unfold encD12; rw [if_neg h1, if_neg h4]
    have hnV := nV_map L hs
    have hk2 : k = 2 ∨ k = 3 := by omega
    have fin : ∀ g, sg12 k = [g] → dpE g (L.length : Int) [] (intsE (L.map V.n)) = (0, L, []) → decD12 (k : Int) (L.length : Int) (encD12 k L) = (L, 0) := fun g hg hd => by
      unfold decD12
      rw [if_pos (by omega), Int.toNat_natCast, hg, hE]
      have hf : frD [g] (L.length : Int) [] (intsE (L.map V.n)) = (0, L, []) := by
        rw [frD, hd, if_pos rfl]
        rfl
      rw [hf]
      rfl
    rcases hk2 with rfl | rfl
    · refine fin 115 rfl ?_
      unfold dpE
      rw [if_pos rfl, h, numE_good (by
        rw [List.all_eq_true]
        intro x hx
        obtain ⟨v, hv, rfl⟩ := List.mem_map.1 hx
        have := ((hok v hv).2.1 rfl).1
        simp only [Bool.and_eq_true, decide_eq_true_eq]
        omega)]
      simp [hnV]
    · refine fin 110 rfl ?_
      unfold dpE
      rw [if_neg (by decide), if_neg (by decide), if_neg (by decide), h, numE_good (by
        rw [List.all_eq_true]
        intro x hx
        obtain ⟨v, hv, rfl⟩ := List.mem_map.1 hx
        have := ((hok v hv).2.2.1 rfl).1
        simp only [Bool.and_eq_true, decide_eq_true_eq]
        omega)]
      simp [hnV]

end Go.Proofs.YtohgnbgijleoaaaDoor
