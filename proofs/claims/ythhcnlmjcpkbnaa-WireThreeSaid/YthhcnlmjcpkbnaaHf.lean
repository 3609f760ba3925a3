/- wire's parser: value of a leaf. -/
import Derived.Test.YthhcnlmjcpkbnaaHe
namespace Go.Proofs.Ythhcnlmjcpkbnaa
open Go.RowKit
set_option linter.unusedVariables false
set_option linter.unusedSimpArgs false

/-- So many bytes. -/
def pTake (n : Nat) (s : St) : List Nat × St := if s.1.length < n then ([], ([], if s.2 = 0 then 8 else s.2)) else (s.1.take n, (s.1.drop n, s.2))

/-- A leaf's value. -/
def pLeaf (k : Int) (s : St) : Tr × St :=
  if k = 1 then (.mk (pTruth s).1 ByteArray.empty [], (pTruth s).2)
  else if k = 2 then (.mk (Go.RowKit.wrap32 (pNum 4 s).1) ByteArray.empty [], (pNum 4 s).2)
  else if k = 3 then (.mk (wrap64 (pNum 8 s).1) ByteArray.empty [], (pNum 8 s).2)
  else (.mk 0 (str (pTake (pCount 100 5 s).1 (pCount 100 5 s).2).1) [], (pTake (pCount 100 5 s).1 (pCount 100 5 s).2).2)

theorem WPS.sign {w0 w : World} {gp gr B : Nat} {ao : Option Addr} {n cap : Nat} {bv : Value} {fm b : List Nat} {s : St} (h : WPS w0 w gp gr B (.slice ao n cap) bv fm b s) (hn : n = fm.length) {at0 : Nat} (hat : at0 < n) : ∃ g off, ao = some ⟨g, off, none⟩ ∧ ∀ w', Chg [gr] w w' → ∀ j, j < n → w'.cell? ⟨g, off + j, none⟩ = some (.int .i32 ((fm.getD j 0 : Nat) : Int)) := by
  obtain ⟨g, off, rfl, hx⟩ := h.fs.at0 hn.symm (by omega)
  refine ⟨g, off, rfl, fun w' hc j hj => ?_⟩
  have hg : g < w0.heap.size := World.block_lt_of_cell? w0 _ (hx j hj)
  exact (h.c0.trans hc (by have := h.g0; simpa using this)).cell (hx j hj) (by simp)

theorem psTakeAny {w0 w : World} {gp gr B : Nat} {fv bv : Value} {fm b : List Nat} {s : St} (h : WPS w0 w gp gr B fv bv fm b s) (n : Nat) :
    Calls Try.prog 110 #[.pointer (some ⟨gr, 0, none⟩), .int .i64 (n : Int)] w fun x w' => ∃ ao m cap, x = .returned (.slice ao m cap) ∧ m = (pTake n s).1.length ∧ Seen w' (.slice ao m cap) (nv .u8 (pTake n s).1) ∧ WPS w0 w' gp gr B fv bv fm b (pTake n s).2 ∧ Chg [gr] w w' := by
  have hl := h.len
  by_cases hn : s.1.length < n
  · have e : pTake n s = ([], ([], if s.2 = 0 then 8 else s.2)) := by unfold pTake; rw [if_pos hn]
    rw [e]
    refine (take_no gr (n : Int) (s.2 : Nat) w (zi s.1) (by rw [zi_length]; omega) h.rd (fun he => by rw [h.ok (by omega)]; rfl) (by rw [zi_length]; omega)).mono ?_
    rintro x w' ⟨rfl, hc, hr⟩
    refine ⟨none, 0, 0, rfl, rfl, Seen.nil w', h.goOn hc ?_ (fun _ => rfl) (.inl rfl), hc⟩
    by_cases h0 : s.2 = 0
    · simp only [if_pos h0]
      rw [if_pos (by omega)] at hr
      exact hr
    · simp only [if_neg h0]
      rw [if_neg (by omega)] at hr
      exact hr
  · have e : pTake n s = (s.1.take n, (s.1.drop n, s.2)) := by unfold pTake; rw [if_neg hn]
    rw [e]
    refine (psTake h n (by omega)).mono ?_
    rintro x w' ⟨ao, cap, rfl, ho, hp, hc⟩
    have hm : (s.1.take n).length = n := by rw [List.length_take]; omega
    exact ⟨ao, n, cap, rfl, hm.symm, (reads_of_own ho).seen, hp, hc⟩

theorem w32_in (x : Int) : Go.RowKit.wrap64 (Go.RowKit.wrap32 x) = Go.RowKit.wrap32 x := by unfold Go.RowKit.wrap32 Go.RowKit.wrap64; omega

theorem pTake_bytes {s : St} (h : ∀ x ∈ s.1, x < 256) (n : Nat) : ∀ x ∈ (pTake n s).1, x < 2 ^ 8 := by
  unfold pTake
  split
  · simp
  · exact fun x hx => h x (List.mem_of_mem_take hx)

/-- How value stands behind its allocation. -/
theorem WPS.alloc {w0 w : World} {gp gr B : Nat} {fv bv : Value} {fm b : List Nat} {s : St} (h : WPS w0 w gp gr B fv bv fm b s) (o : Obj) : WPS w0 (w.alloc o) gp gr B fv bv fm b s := h.keep ((Chg.refl [] w).alloc o) (by simp)

set_option maxRecDepth 100000 in
set_option maxHeartbeats 4000000 in
theorem value_leaf9_1 {w0 : World} {gp gr B : Nat} {fv bv : Value} {fm b : List Nat} {d at0 : Nat} (hat : at0 < fm.length) (hfm : fm.length ≤ 100000) (hs : fm.getD at0 0 = kd 1) : VC w0 gp gr B fv bv fm b (d + 1) at0 (pLeaf 1) := by
  intro w s hP
  obtain ⟨ao, cap, rfl, hc1, hc2⟩ := hP.fs.shape
  rw [nv_length] at hc1 hP
  rw [nv_length]
  obtain ⟨n, hn⟩ : ∃ n, n = fm.length := ⟨_, rfl⟩
  rw [← hn] at hc1 hP hat hfm ⊢
  obtain ⟨g, off, rfl, hsg⟩ := hP.sign hn hat
  obtain ⟨gb, hgb⟩ : ∃ gb, gb = w.heap.size := ⟨_, rfl⟩
  have HGB := Lib.hid hgb
  have HP := Lib.hid hP
  have HP1 := Lib.hid (hP.alloc (.cells #[.int .i64 0, .string { data := #[] }, .slice none 0 0] 30))
  have HB1 := Lib.hid (show (w.alloc (.cells #[.int .i64 0, .string { data := #[] }, .slice none 0 0] 30)).heap[gb]? = some (.cells #[.int .i64 0, .string { data := #[] }, .slice none 0 0] 30 (0, 0)) by rw [hgb]; exact heap_alloc_new w _)
  have hgrl : gr < gb := by rw [hgb]; exact Nat.lt_of_lt_of_le hP.lr hP.lB
  have HBG := Lib.hid (show B ≤ gb by rw [hgb]; exact hP.lB)
  have HC1 := Lib.hid ((Chg.refl [gr] w).alloc (.cells #[.int .i64 0, .string { data := #[] }, .slice none 0 0] 30))
  obtain ⟨p0, p1, p2⟩ := HP1.out.cells
  have hx := hsg _ HC1.out at0 hat
  rw [hs] at hx
  have HN := Lib.hid hn
  clear hP hgb hsg hs hn
  have hb2 : ∀ w2 : World, Chg [gr] (w.alloc (.cells #[.int .i64 0, .string { data := #[] }, .slice none 0 0] 30)) w2 → w2.heap[gb]? = some (.cells #[.int .i64 0, .string { data := #[] }, .slice none 0 0] 30 (0, 0)) := fun w2 hc => hc.heap HB1.out (by simp; omega)
  have HB2 := Lib.hid hb2
  clear hb2
  have HFIN := Lib.hid (show ∀ (w2 : World) (R : Tr × St) (c : Nat) (u x y : Value), Chg [gr] (w.alloc (.cells #[.int .i64 0, .string { data := #[] }, .slice none 0 0] 30)) w2 → WPS w0 w2 gp gr B (.slice (some ⟨g, off, none⟩) n cap) bv fm b R.2 → pLeaf 1 s = R → R.1.k = [] → x = .int .i64 R.1.n → y = .string R.1.s →
      (∃ kv, Ending.returned (.agg #[x, y, .slice none 0 0]) = .returned (.agg #[.int .i64 (pLeaf 1 s).1.n, .string (pLeaf 1 s).1.s, kv]) ∧ KidsIn (w.heap.size ≤ ·) ((((w2.setCell ⟨gb, c, none⟩ u).setCell ⟨gb, 0, none⟩ x).setCell ⟨gb, 1, none⟩ y).setCell ⟨gb, 2, none⟩ (.slice none 0 0)) (d + 1) (pLeaf 1 s).1.k kv ∧ WPS w0 ((((w2.setCell ⟨gb, c, none⟩ u).setCell ⟨gb, 0, none⟩ x).setCell ⟨gb, 1, none⟩ y).setCell ⟨gb, 2, none⟩ (.slice none 0 0)) gp gr B (.slice (some ⟨g, off, none⟩) n cap) bv fm b (pLeaf 1 s).2 ∧ Chg [gr] w ((((w2.setCell ⟨gb, c, none⟩ u).setCell ⟨gb, 0, none⟩ x).setCell ⟨gb, 1, none⟩ y).setCell ⟨gb, 2, none⟩ (.slice none 0 0))) from fun w2 R c u x y hc hp hR hk0 hx hy => by
    rw [hR, hk0, hx, hy]
    have h3 : Chg [gb] w2 _ := chg3 ((Chg.refl [gb] w2).setCell (p := ⟨gb, c, none⟩) (by simp) u) (gr := gb) (by simp) (.int .i64 R.1.n) (.string R.1.s) (.slice none 0 0)
    refine ⟨_, rfl, kidsIn_nil, hp.keep h3 (fun t ht => by simp at ht; rw [ht]; exact HBG.out), (HC1.out.trans hc (by simp)).trans h3 (fun t ht => .inr ?_)⟩
    simp at ht
    rw [ht, HGB.out]
    exact Nat.le_refl _)
  have hcell : ∀ w2 : World, w2.heap[gb]? = some (.cells #[.int .i64 0, .string { data := #[] }, .slice none 0 0] 30 (0, 0)) → w2.cell? ⟨gb, 0, none⟩ = some (.int .i64 0) ∧ w2.cell? ⟨gb, 1, none⟩ = some (.string { data := #[] }) ∧ w2.cell? ⟨gb, 2, none⟩ = some (.slice none 0 0) ∧ w2.frozen? ⟨gb, 0, none⟩ = false ∧ w2.frozen? ⟨gb, 1, none⟩ = false ∧ w2.frozen? ⟨gb, 2, none⟩ = false := fun w2 hb =>
    ⟨by rw [cell_of_row w2 gb 0 _ _ _ hb]; rfl, by rw [cell_of_row w2 gb 1 _ _ _ hb]; rfl, by rw [cell_of_row w2 gb 2 _ _ _ hb]; rfl, by simp [World.frozen?, hb], by simp [World.frozen?, hb], by simp [World.frozen?, hb]⟩
  have HCL := Lib.hid hcell
  clear hcell
  rw [show kd 1 = 98 from rfl, show ((98 : Nat) : Int) = 98 from rfl] at hx
  have HT := Lib.hid (truth_any HP1.out)
  have E := Lib.hid (show pLeaf 1 s = (.mk (pTruth s).1 ByteArray.empty [], (pTruth s).2) by unfold pLeaf; rw [if_pos rfl])
  go_enter Try.func106, Try.ntmps106
  go_wp2_with (first
    | (go_at_call 131; (with_reducible refine HT.out.mono ?_); rintro e w2 ⟨rfl, hP2, hC2⟩; obtain ⟨r0, r1, r2, f0, f1, f2⟩ := HCL.out _ (HB2.out _ hC2); have HP2 := Lib.hid hP2; have HC2 := Lib.hid hC2; clear hP2 hC2; rw [← HGB.out])
    | fail)
  exact ret_tree rfl rfl rfl (set3 (heap_set (HB2.out _ HC2.out) _) _ _ _) (HFIN.out _ _ _ _ _ _ HC2.out HP2.out E.out rfl rfl rfl)

set_option maxRecDepth 100000 in
set_option maxHeartbeats 4000000 in
theorem value_leaf9_2 {w0 : World} {gp gr B : Nat} {fv bv : Value} {fm b : List Nat} {d at0 : Nat} (hat : at0 < fm.length) (hfm : fm.length ≤ 100000) (hs : fm.getD at0 0 = kd 2) : VC w0 gp gr B fv bv fm b (d + 1) at0 (pLeaf 2) := by
  intro w s hP
  obtain ⟨ao, cap, rfl, hc1, hc2⟩ := hP.fs.shape
  rw [nv_length] at hc1 hP
  rw [nv_length]
  obtain ⟨n, hn⟩ : ∃ n, n = fm.length := ⟨_, rfl⟩
  rw [← hn] at hc1 hP hat hfm ⊢
  obtain ⟨g, off, rfl, hsg⟩ := hP.sign hn hat
  obtain ⟨gb, hgb⟩ : ∃ gb, gb = w.heap.size := ⟨_, rfl⟩
  have HGB := Lib.hid hgb
  have HP := Lib.hid hP
  have HP1 := Lib.hid (hP.alloc (.cells #[.int .i64 0, .string { data := #[] }, .slice none 0 0] 30))
  have HB1 := Lib.hid (show (w.alloc (.cells #[.int .i64 0, .string { data := #[] }, .slice none 0 0] 30)).heap[gb]? = some (.cells #[.int .i64 0, .string { data := #[] }, .slice none 0 0] 30 (0, 0)) by rw [hgb]; exact heap_alloc_new w _)
  have hgrl : gr < gb := by rw [hgb]; exact Nat.lt_of_lt_of_le hP.lr hP.lB
  have HBG := Lib.hid (show B ≤ gb by rw [hgb]; exact hP.lB)
  have HC1 := Lib.hid ((Chg.refl [gr] w).alloc (.cells #[.int .i64 0, .string { data := #[] }, .slice none 0 0] 30))
  obtain ⟨p0, p1, p2⟩ := HP1.out.cells
  have hx := hsg _ HC1.out at0 hat
  rw [hs] at hx
  have HN := Lib.hid hn
  clear hP hgb hsg hs hn
  have hb2 : ∀ w2 : World, Chg [gr] (w.alloc (.cells #[.int .i64 0, .string { data := #[] }, .slice none 0 0] 30)) w2 → w2.heap[gb]? = some (.cells #[.int .i64 0, .string { data := #[] }, .slice none 0 0] 30 (0, 0)) := fun w2 hc => hc.heap HB1.out (by simp; omega)
  have HB2 := Lib.hid hb2
  clear hb2
  have HFIN := Lib.hid (show ∀ (w2 : World) (R : Tr × St) (c : Nat) (u x y : Value), Chg [gr] (w.alloc (.cells #[.int .i64 0, .string { data := #[] }, .slice none 0 0] 30)) w2 → WPS w0 w2 gp gr B (.slice (some ⟨g, off, none⟩) n cap) bv fm b R.2 → pLeaf 2 s = R → R.1.k = [] → x = .int .i64 R.1.n → y = .string R.1.s →
      (∃ kv, Ending.returned (.agg #[x, y, .slice none 0 0]) = .returned (.agg #[.int .i64 (pLeaf 2 s).1.n, .string (pLeaf 2 s).1.s, kv]) ∧ KidsIn (w.heap.size ≤ ·) ((((w2.setCell ⟨gb, c, none⟩ u).setCell ⟨gb, 0, none⟩ x).setCell ⟨gb, 1, none⟩ y).setCell ⟨gb, 2, none⟩ (.slice none 0 0)) (d + 1) (pLeaf 2 s).1.k kv ∧ WPS w0 ((((w2.setCell ⟨gb, c, none⟩ u).setCell ⟨gb, 0, none⟩ x).setCell ⟨gb, 1, none⟩ y).setCell ⟨gb, 2, none⟩ (.slice none 0 0)) gp gr B (.slice (some ⟨g, off, none⟩) n cap) bv fm b (pLeaf 2 s).2 ∧ Chg [gr] w ((((w2.setCell ⟨gb, c, none⟩ u).setCell ⟨gb, 0, none⟩ x).setCell ⟨gb, 1, none⟩ y).setCell ⟨gb, 2, none⟩ (.slice none 0 0))) from fun w2 R c u x y hc hp hR hk0 hx hy => by
    rw [hR, hk0, hx, hy]
    have h3 : Chg [gb] w2 _ := chg3 ((Chg.refl [gb] w2).setCell (p := ⟨gb, c, none⟩) (by simp) u) (gr := gb) (by simp) (.int .i64 R.1.n) (.string R.1.s) (.slice none 0 0)
    refine ⟨_, rfl, kidsIn_nil, hp.keep h3 (fun t ht => by simp at ht; rw [ht]; exact HBG.out), (HC1.out.trans hc (by simp)).trans h3 (fun t ht => .inr ?_)⟩
    simp at ht
    rw [ht, HGB.out]
    exact Nat.le_refl _)
  have hcell : ∀ w2 : World, w2.heap[gb]? = some (.cells #[.int .i64 0, .string { data := #[] }, .slice none 0 0] 30 (0, 0)) → w2.cell? ⟨gb, 0, none⟩ = some (.int .i64 0) ∧ w2.cell? ⟨gb, 1, none⟩ = some (.string { data := #[] }) ∧ w2.cell? ⟨gb, 2, none⟩ = some (.slice none 0 0) ∧ w2.frozen? ⟨gb, 0, none⟩ = false ∧ w2.frozen? ⟨gb, 1, none⟩ = false ∧ w2.frozen? ⟨gb, 2, none⟩ = false := fun w2 hb =>
    ⟨by rw [cell_of_row w2 gb 0 _ _ _ hb]; rfl, by rw [cell_of_row w2 gb 1 _ _ _ hb]; rfl, by rw [cell_of_row w2 gb 2 _ _ _ hb]; rfl, by simp [World.frozen?, hb], by simp [World.frozen?, hb], by simp [World.frozen?, hb]⟩
  have HCL := Lib.hid hcell
  clear hcell
  rw [show kd 2 = 105 from rfl, show ((105 : Nat) : Int) = 105 from rfl] at hx
  have HT := Lib.hid (psGet HP1.out 4 (by decide) (by decide))
  rw [show ((4 : Nat) : Int) = 4 from rfl] at HT
  have E := Lib.hid (show pLeaf 2 s = (.mk (Go.RowKit.wrap32 (pNum 4 s).1) ByteArray.empty [], (pNum 4 s).2) by unfold pLeaf; rw [if_neg (by decide), if_pos rfl])
  obtain ⟨v, hv⟩ : ∃ v, v = (pNum 4 s).1 := ⟨_, rfl⟩
  rw [← hv] at HT E
  have hw := w32_in (v : Int)
  clear hv
  go_enter Try.func106, Try.ntmps106
  go_wp2_with (first
    | (go_at_call 132; (with_reducible refine HT.out.mono ?_); rintro e w2 ⟨rfl, hP2, hC2⟩; obtain ⟨r0, r1, r2, f0, f1, f2⟩ := HCL.out _ (HB2.out _ hC2); have HP2 := Lib.hid hP2; have HC2 := Lib.hid hC2; clear hP2 hC2; rw [← HGB.out])
    | fail)
  obtain ⟨z, hz⟩ : ∃ z, z = Go.RowKit.wrap32 (v : Int) := ⟨_, rfl⟩
  have E2 := E.out
  rw [← hz] at E2 ⊢
  clear hz E
  exact ret_tree rfl rfl rfl (set3 (heap_set (HB2.out _ HC2.out) _) _ _ _) (HFIN.out _ _ _ _ _ _ HC2.out HP2.out E2 rfl rfl rfl)

set_option maxRecDepth 100000 in
set_option maxHeartbeats 4000000 in
theorem value_leaf9_3 {w0 : World} {gp gr B : Nat} {fv bv : Value} {fm b : List Nat} {d at0 : Nat} (hat : at0 < fm.length) (hfm : fm.length ≤ 100000) (hs : fm.getD at0 0 = kd 3) : VC w0 gp gr B fv bv fm b (d + 1) at0 (pLeaf 3) := by
  intro w s hP
  obtain ⟨ao, cap, rfl, hc1, hc2⟩ := hP.fs.shape
  rw [nv_length] at hc1 hP
  rw [nv_length]
  obtain ⟨n, hn⟩ : ∃ n, n = fm.length := ⟨_, rfl⟩
  rw [← hn] at hc1 hP hat hfm ⊢
  obtain ⟨g, off, rfl, hsg⟩ := hP.sign hn hat
  obtain ⟨gb, hgb⟩ : ∃ gb, gb = w.heap.size := ⟨_, rfl⟩
  have HGB := Lib.hid hgb
  have HP := Lib.hid hP
  have HP1 := Lib.hid (hP.alloc (.cells #[.int .i64 0, .string { data := #[] }, .slice none 0 0] 30))
  have HB1 := Lib.hid (show (w.alloc (.cells #[.int .i64 0, .string { data := #[] }, .slice none 0 0] 30)).heap[gb]? = some (.cells #[.int .i64 0, .string { data := #[] }, .slice none 0 0] 30 (0, 0)) by rw [hgb]; exact heap_alloc_new w _)
  have hgrl : gr < gb := by rw [hgb]; exact Nat.lt_of_lt_of_le hP.lr hP.lB
  have HBG := Lib.hid (show B ≤ gb by rw [hgb]; exact hP.lB)
  have HC1 := Lib.hid ((Chg.refl [gr] w).alloc (.cells #[.int .i64 0, .string { data := #[] }, .slice none 0 0] 30))
  obtain ⟨p0, p1, p2⟩ := HP1.out.cells
  have hx := hsg _ HC1.out at0 hat
  rw [hs] at hx
  have HN := Lib.hid hn
  clear hP hgb hsg hs hn
  have hb2 : ∀ w2 : World, Chg [gr] (w.alloc (.cells #[.int .i64 0, .string { data := #[] }, .slice none 0 0] 30)) w2 → w2.heap[gb]? = some (.cells #[.int .i64 0, .string { data := #[] }, .slice none 0 0] 30 (0, 0)) := fun w2 hc => hc.heap HB1.out (by simp; omega)
  have HB2 := Lib.hid hb2
  clear hb2
  have HFIN := Lib.hid (show ∀ (w2 : World) (R : Tr × St) (c : Nat) (u x y : Value), Chg [gr] (w.alloc (.cells #[.int .i64 0, .string { data := #[] }, .slice none 0 0] 30)) w2 → WPS w0 w2 gp gr B (.slice (some ⟨g, off, none⟩) n cap) bv fm b R.2 → pLeaf 3 s = R → R.1.k = [] → x = .int .i64 R.1.n → y = .string R.1.s →
      (∃ kv, Ending.returned (.agg #[x, y, .slice none 0 0]) = .returned (.agg #[.int .i64 (pLeaf 3 s).1.n, .string (pLeaf 3 s).1.s, kv]) ∧ KidsIn (w.heap.size ≤ ·) ((((w2.setCell ⟨gb, c, none⟩ u).setCell ⟨gb, 0, none⟩ x).setCell ⟨gb, 1, none⟩ y).setCell ⟨gb, 2, none⟩ (.slice none 0 0)) (d + 1) (pLeaf 3 s).1.k kv ∧ WPS w0 ((((w2.setCell ⟨gb, c, none⟩ u).setCell ⟨gb, 0, none⟩ x).setCell ⟨gb, 1, none⟩ y).setCell ⟨gb, 2, none⟩ (.slice none 0 0)) gp gr B (.slice (some ⟨g, off, none⟩) n cap) bv fm b (pLeaf 3 s).2 ∧ Chg [gr] w ((((w2.setCell ⟨gb, c, none⟩ u).setCell ⟨gb, 0, none⟩ x).setCell ⟨gb, 1, none⟩ y).setCell ⟨gb, 2, none⟩ (.slice none 0 0))) from fun w2 R c u x y hc hp hR hk0 hx hy => by
    rw [hR, hk0, hx, hy]
    have h3 : Chg [gb] w2 _ := chg3 ((Chg.refl [gb] w2).setCell (p := ⟨gb, c, none⟩) (by simp) u) (gr := gb) (by simp) (.int .i64 R.1.n) (.string R.1.s) (.slice none 0 0)
    refine ⟨_, rfl, kidsIn_nil, hp.keep h3 (fun t ht => by simp at ht; rw [ht]; exact HBG.out), (HC1.out.trans hc (by simp)).trans h3 (fun t ht => .inr ?_)⟩
    simp at ht
    rw [ht, HGB.out]
    exact Nat.le_refl _)
  have hcell : ∀ w2 : World, w2.heap[gb]? = some (.cells #[.int .i64 0, .string { data := #[] }, .slice none 0 0] 30 (0, 0)) → w2.cell? ⟨gb, 0, none⟩ = some (.int .i64 0) ∧ w2.cell? ⟨gb, 1, none⟩ = some (.string { data := #[] }) ∧ w2.cell? ⟨gb, 2, none⟩ = some (.slice none 0 0) ∧ w2.frozen? ⟨gb, 0, none⟩ = false ∧ w2.frozen? ⟨gb, 1, none⟩ = false ∧ w2.frozen? ⟨gb, 2, none⟩ = false := fun w2 hb =>
    ⟨by rw [cell_of_row w2 gb 0 _ _ _ hb]; rfl, by rw [cell_of_row w2 gb 1 _ _ _ hb]; rfl, by rw [cell_of_row w2 gb 2 _ _ _ hb]; rfl, by simp [World.frozen?, hb], by simp [World.frozen?, hb], by simp [World.frozen?, hb]⟩
  have HCL := Lib.hid hcell
  clear hcell
  rw [show kd 3 = 108 from rfl, show ((108 : Nat) : Int) = 108 from rfl] at hx
  have HT := Lib.hid (psGet HP1.out 8 (by decide) (by decide))
  rw [show ((8 : Nat) : Int) = 8 from rfl] at HT
  have E := Lib.hid (show pLeaf 3 s = (.mk (wrap64 (pNum 8 s).1) ByteArray.empty [], (pNum 8 s).2) by unfold pLeaf; rw [if_neg (by decide), if_neg (by decide), if_pos rfl])
  obtain ⟨v, hv⟩ : ∃ v, v = (pNum 8 s).1 := ⟨_, rfl⟩
  rw [← hv] at HT E
  clear hv
  go_enter Try.func106, Try.ntmps106
  go_wp2_with (first
    | (go_at_call 132; (with_reducible refine HT.out.mono ?_); rintro e w2 ⟨rfl, hP2, hC2⟩; obtain ⟨r0, r1, r2, f0, f1, f2⟩ := HCL.out _ (HB2.out _ hC2); have HP2 := Lib.hid hP2; have HC2 := Lib.hid hC2; clear hP2 hC2; rw [← HGB.out])
    | fail)
  obtain ⟨z, hz⟩ : ∃ z, z = Go.RowKit.wrap64 (v : Int) := ⟨_, rfl⟩
  have E2 := E.out
  rw [← hz] at E2 ⊢
  clear hz E
  exact ret_tree rfl rfl rfl (set3 (heap_set (HB2.out _ HC2.out) _) _ _ _) (HFIN.out _ _ _ _ _ _ HC2.out HP2.out E2 rfl rfl rfl)

set_option maxRecDepth 100000 in
set_option maxHeartbeats 4000000 in
theorem value_leaf9_4 {w0 : World} {gp gr B : Nat} {fv bv : Value} {fm b : List Nat} {d at0 : Nat} (hat : at0 < fm.length) (hfm : fm.length ≤ 100000) (hs : fm.getD at0 0 = kd 4) : VC w0 gp gr B fv bv fm b (d + 1) at0 (pLeaf 4) := by
  intro w s hP
  obtain ⟨ao, cap, rfl, hc1, hc2⟩ := hP.fs.shape
  rw [nv_length] at hc1 hP
  rw [nv_length]
  obtain ⟨n, hn⟩ : ∃ n, n = fm.length := ⟨_, rfl⟩
  rw [← hn] at hc1 hP hat hfm ⊢
  obtain ⟨g, off, rfl, hsg⟩ := hP.sign hn hat
  obtain ⟨gb, hgb⟩ : ∃ gb, gb = w.heap.size := ⟨_, rfl⟩
  have HGB := Lib.hid hgb
  have HP := Lib.hid hP
  have HP1 := Lib.hid (hP.alloc (.cells #[.int .i64 0, .string { data := #[] }, .slice none 0 0] 30))
  have HB1 := Lib.hid (show (w.alloc (.cells #[.int .i64 0, .string { data := #[] }, .slice none 0 0] 30)).heap[gb]? = some (.cells #[.int .i64 0, .string { data := #[] }, .slice none 0 0] 30 (0, 0)) by rw [hgb]; exact heap_alloc_new w _)
  have hgrl : gr < gb := by rw [hgb]; exact Nat.lt_of_lt_of_le hP.lr hP.lB
  have HBG := Lib.hid (show B ≤ gb by rw [hgb]; exact hP.lB)
  have HC1 := Lib.hid ((Chg.refl [gr] w).alloc (.cells #[.int .i64 0, .string { data := #[] }, .slice none 0 0] 30))
  obtain ⟨p0, p1, p2⟩ := HP1.out.cells
  have hx := hsg _ HC1.out at0 hat
  rw [hs] at hx
  have HN := Lib.hid hn
  clear hP hgb hsg hs hn
  have hb2 : ∀ w2 : World, Chg [gr] (w.alloc (.cells #[.int .i64 0, .string { data := #[] }, .slice none 0 0] 30)) w2 → w2.heap[gb]? = some (.cells #[.int .i64 0, .string { data := #[] }, .slice none 0 0] 30 (0, 0)) := fun w2 hc => hc.heap HB1.out (by simp; omega)
  have HB2 := Lib.hid hb2
  clear hb2
  have HFIN := Lib.hid (show ∀ (w2 : World) (R : Tr × St) (c : Nat) (u x y : Value), Chg [gr] (w.alloc (.cells #[.int .i64 0, .string { data := #[] }, .slice none 0 0] 30)) w2 → WPS w0 w2 gp gr B (.slice (some ⟨g, off, none⟩) n cap) bv fm b R.2 → pLeaf 4 s = R → R.1.k = [] → x = .int .i64 R.1.n → y = .string R.1.s →
      (∃ kv, Ending.returned (.agg #[x, y, .slice none 0 0]) = .returned (.agg #[.int .i64 (pLeaf 4 s).1.n, .string (pLeaf 4 s).1.s, kv]) ∧ KidsIn (w.heap.size ≤ ·) ((((w2.setCell ⟨gb, c, none⟩ u).setCell ⟨gb, 0, none⟩ x).setCell ⟨gb, 1, none⟩ y).setCell ⟨gb, 2, none⟩ (.slice none 0 0)) (d + 1) (pLeaf 4 s).1.k kv ∧ WPS w0 ((((w2.setCell ⟨gb, c, none⟩ u).setCell ⟨gb, 0, none⟩ x).setCell ⟨gb, 1, none⟩ y).setCell ⟨gb, 2, none⟩ (.slice none 0 0)) gp gr B (.slice (some ⟨g, off, none⟩) n cap) bv fm b (pLeaf 4 s).2 ∧ Chg [gr] w ((((w2.setCell ⟨gb, c, none⟩ u).setCell ⟨gb, 0, none⟩ x).setCell ⟨gb, 1, none⟩ y).setCell ⟨gb, 2, none⟩ (.slice none 0 0))) from fun w2 R c u x y hc hp hR hk0 hx hy => by
    rw [hR, hk0, hx, hy]
    have h3 : Chg [gb] w2 _ := chg3 ((Chg.refl [gb] w2).setCell (p := ⟨gb, c, none⟩) (by simp) u) (gr := gb) (by simp) (.int .i64 R.1.n) (.string R.1.s) (.slice none 0 0)
    refine ⟨_, rfl, kidsIn_nil, hp.keep h3 (fun t ht => by simp at ht; rw [ht]; exact HBG.out), (HC1.out.trans hc (by simp)).trans h3 (fun t ht => .inr ?_)⟩
    simp at ht
    rw [ht, HGB.out]
    exact Nat.le_refl _)
  have hcell : ∀ w2 : World, w2.heap[gb]? = some (.cells #[.int .i64 0, .string { data := #[] }, .slice none 0 0] 30 (0, 0)) → w2.cell? ⟨gb, 0, none⟩ = some (.int .i64 0) ∧ w2.cell? ⟨gb, 1, none⟩ = some (.string { data := #[] }) ∧ w2.cell? ⟨gb, 2, none⟩ = some (.slice none 0 0) ∧ w2.frozen? ⟨gb, 0, none⟩ = false ∧ w2.frozen? ⟨gb, 1, none⟩ = false ∧ w2.frozen? ⟨gb, 2, none⟩ = false := fun w2 hb =>
    ⟨by rw [cell_of_row w2 gb 0 _ _ _ hb]; rfl, by rw [cell_of_row w2 gb 1 _ _ _ hb]; rfl, by rw [cell_of_row w2 gb 2 _ _ _ hb]; rfl, by simp [World.frozen?, hb], by simp [World.frozen?, hb], by simp [World.frozen?, hb]⟩
  have HCL := Lib.hid hcell
  clear hcell
  rw [show kd 4 = 116 from rfl, show ((116 : Nat) : Int) = 116 from rfl] at hx
  have HT := Lib.hid (show ∀ wx, Chg [] (w.alloc (.cells #[.int .i64 0, .string { data := #[] }, .slice none 0 0] 30)) wx → Calls Try.prog 81 #[.pointer (some ⟨gp, 0, none⟩), .int .u64 100, .int .i64 5] wx fun x w' => x = .returned (.int .i64 ((pCount 100 5 s).1 : Nat)) ∧ WPS w0 w' gp gr B (.slice (some ⟨g, off, none⟩) n cap) bv fm b (pCount 100 5 s).2 ∧ Chg [gr] wx w' from fun wx hk => count_any9 100 5 (by decide) (by decide) (HP1.out.keep hk (by simp)))
  obtain ⟨v, hv⟩ : ∃ v, v = (pCount 100 5 s).1 := ⟨_, rfl⟩
  obtain ⟨s2, hs2⟩ : ∃ v, v = (pCount 100 5 s).2 := ⟨_, rfl⟩
  have E := Lib.hid (show pLeaf 4 s = (.mk 0 (str (pTake v s2).1) [], (pTake v s2).2) by unfold pLeaf; rw [if_neg (by decide), if_neg (by decide), if_neg (by decide), hv, hs2])
  rw [← hv, ← hs2] at HT
  clear hv hs2
  have HPR := Lib.hid (show (w.alloc (.cells #[.int .i64 0, .string { data := #[] }, .slice none 0 0] 30)).cell? ⟨gp, 2, none⟩ = some (.pointer (some ⟨gr, 0, none⟩)) from p2)
  have HC0 := Lib.hid (Chg.refl [] (w.alloc (.cells #[.int .i64 0, .string { data := #[] }, .slice none 0 0] 30)))
  go_enter Try.func106, Try.ntmps106
  go_upto_region 11 with fail
  obtain ⟨wa, hwa⟩ : ∃ wa, wa = w.alloc (.cells #[.int .i64 0, .string { data := #[] }, .slice none 0 0] 30) := ⟨_, rfl⟩
  rw [← HGB.out]
  rw [← hwa] at p2 HT HP1 HC1 HB1 HB2 HFIN HPR HC0 ⊢
  clear p0 p1 hwa
  go_region_with (first
    | (go_at_call 81; (with_reducible refine (HT.out _ (by first | exact HC0.out | exact HC0.out.drew | exact HC0.out.drewN _)).mono ?_); rintro e w2 ⟨rfl, hP2, hC2⟩; have HP2 := Lib.hid hP2; have HC2 := Lib.hid (show Chg [gr] wa w2 from by first | exact hC2 | exact ((Chg.refl [gr] _).drew).trans hC2 (by simp) | exact ((Chg.refl [gr] _).drewN _).trans hC2 (by simp)); have hk2 := hP2.cells.2.2; have HTB := Lib.hid (pTake_bytes hP2.bytes v); clear hP2 hC2)
    | (go_at_call 110; (with_reducible refine (psTakeAny HP2.out v).mono ?_); rintro e w3 ⟨tao, tm, tcap, rfl, hm, hsn, hP3, hC3⟩; have HP3 := Lib.hid hP3; have hk3 := hP3.cells.2.2; have HC3 := Lib.hid (HC2.out.trans hC3 (by simp)); obtain ⟨r0, r1, r2, f0, f1, f2⟩ := HCL.out _ (HB2.out _ HC3.out); have hcv := conv_seen (P := Try.prog) (src := 67) (dst := 9) Try.underlying67 Try.underlying5 Try.underlying9 hsn hm.symm HTB.out; clear hP3 hC3 hm hsn))
  all_goals
    go_wp2
    exact ret_tree rfl rfl rfl (set3 (heap_set (HB2.out _ HC3.out) _) _ _ _) (HFIN.out _ _ _ _ _ _ HC3.out HP3.out E.out rfl rfl rfl)

theorem value_leaf9 {w0 : World} {gp gr B : Nat} {fv bv : Value} {fm b : List Nat} {d at0 : Nat} {k : Int} (hk : 1 ≤ k ∧ k ≤ 4) (hat : at0 < fm.length) (hfm : fm.length ≤ 100000) (hs : fm.getD at0 0 = kd k) : VC w0 gp gr B fv bv fm b (d + 1) at0 (pLeaf k) := by
  have hkk : k = 1 ∨ k = 2 ∨ k = 3 ∨ k = 4 := by omega
  rcases hkk with rfl | rfl | rfl | rfl
  · exact value_leaf9_1 hat hfm hs
  · exact value_leaf9_2 hat hfm hs
  · exact value_leaf9_3 hat hfm hs
  · exact value_leaf9_4 hat hfm hs

end Go.Proofs.Ythhcnlmjcpkbnaa
