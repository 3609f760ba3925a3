/- project's find: the field that has a path. -/
import Derived.Test.YthhcnlmjcpkbnaaQn
import Derived.Test.YthhcnlmjcpkbnaaA6
import Derived.StillTailTactics
namespace Go.Proofs.Ythhcnlmjcpkbnaa
open Go.RowKit
set_option linter.unusedVariables false

theorem decode_skip (s : ByteArray) (pos j : Nat) (h : pos < s.size) (h1 : pos < j) (h2 : j < pos + (Utf8.decode s pos).2) : j < s.size ∧ ∃ c, (bl s)[j]? = some c ∧ 128 ≤ c := by
  have key : ∀ k, 1 ≤ k → k < (Utf8.decode s pos).2 → pos + k < s.size ∧ (s.get! (pos + k)).toNat / 64 = 2 := by
    intro k hk hk2
    have hb : ∀ k, (s.get! (pos + k)).toNat < 256 := fun k => (s.get! (pos + k)).toNat_lt
    simp only [Utf8.decode] at hk2
    split at hk2
    · simp at hk2; omega
    · split at hk2
      · rename_i hh
        simp at hh
        split at hk2
        · simp at hk2
          obtain rfl : k = 1 := by omega
          exact hh.2
        · simp at hk2; omega
      · split at hk2
        · rename_i hh
          simp at hh
          split at hk2
          · simp at hk2
            have hw : k = 1 ∨ k = 2 := by omega
            rcases hw with rfl | rfl
            · exact hh.1.2
            · exact hh.2
          · simp at hk2; omega
        · split at hk2
          · rename_i hh
            simp at hh
            split at hk2
            · simp at hk2
              have hw : k = 1 ∨ k = 2 ∨ k = 3 := by omega
              rcases hw with rfl | rfl | rfl
              · exact hh.1.1.2
              · exact hh.1.2
              · exact hh.2
            · simp at hk2; omega
          · simp at hk2; omega
  obtain ⟨k, rfl⟩ : ∃ k, j = pos + k := ⟨j - pos, by omega⟩
  obtain ⟨h3, h4⟩ := key k (by omega) (by omega)
  refine ⟨h3, _, bl_get s (pos + k) h3, ?_⟩
  have e : s.get! (pos + k) = s[pos + k]'h3 := by
    have := get_at s (pos + k) h3
    simpa using this
  rw [e] at h4
  omega

/-- What is in a field. -/
def kidsOf (l : List F) (at' : Int) : List Int := kidsU (parents l) l.length at'.toNat

theorem kidsOf_mem {l : List F} {a x : Int} (h : x ∈ kidsOf l a) : 0 ≤ x ∧ x < l.length := by
  unfold kidsOf kidsU at h
  rw [List.mem_map] at h
  obtain ⟨i, hi, rfl⟩ := h
  have := List.mem_range.1 (List.mem_filter.1 hi).1
  omega

theorem namedI_mem (l : List F) (ks : List Int) (nm : ByteArray) : namedI l ks nm = -1 ∨ namedI l ks nm ∈ ks := by
  unfold namedI
  cases h : ks.find? fun i => decide ((l.getD i.toNat default).n = nm) with
  | none => exact .inl rfl
  | some x => exact .inr (List.mem_of_find?_eq_some h)

theorem namedI_rng (l : List F) (a : Int) (nm : ByteArray) : namedI l (kidsOf l a) nm = -1 ∨ 0 ≤ namedI l (kidsOf l a) nm ∧ namedI l (kidsOf l a) nm < l.length := by
  rcases namedI_mem l (kidsOf l a) nm with h | h
  · exact .inl h
  · exact .inr (kidsOf_mem h)

/-- The field that a path leads to, from a group on, or -1. -/
def fdM (l : List F) (at' : Int) (cur : List Nat) : List Nat → Int
  | [] => namedI l (kidsOf l at') (str cur)
  | c :: r => if c = 46 then (if namedI l (kidsOf l at') (str cur) = -1 then -1 else fdM l (namedI l (kidsOf l at') (str cur)) [] r) else fdM l at' (cur ++ [c]) r

def findI (l : List F) (p : ByteArray) : Int := fdM l 0 [] (bl p)

theorem fdM_skip (l : List F) (a : Int) (xs : List Nat) (hx : ∀ c ∈ xs, c ≠ 46) : ∀ (cur r : List Nat), fdM l a cur (xs ++ r) = fdM l a (cur ++ xs) r := by
  induction xs with
  | nil => intro cur r; simp
  | cons c t ih =>
    intro cur r
    rw [List.cons_append, fdM, if_neg (hx c (by simp)), ih (fun d hd => hx d (by simp [hd]))]
    simp

/-- How find stands at byte pos, the name's begin at fr. -/
structure FJ (l : List F) (p : ByteArray) (w w' : World) (pos fr : Nat) (a : Nat) : Prop where
  le : pos ≤ p.size
  fl : fr ≤ pos
  al : a < l.length
  eq : findI l p = fdM l (a : Int) (((bl p).take pos).drop fr) ((bl p).drop pos)
  it : w'.heap[w.heap.size]? = some (.stringIter p pos)
  cg : Chg [] w w'

theorem FJ.skip {l : List F} {p : ByteArray} {w wi w' : World} {pos fr a q : Nat} (h : FJ l p w wi pos fr a) (hq : pos < q) (hqs : q ≤ p.size) (hx : ∀ j, pos ≤ j → j < q → ∃ c, (bl p)[j]? = some c ∧ c ≠ 46)
    (it : w'.heap[w.heap.size]? = some (.stringIter p q)) (cg : Chg [] w w') : FJ l p w w' q fr a := by
  have hfl := h.fl
  refine ⟨hqs, by omega, h.al, ?_, it, cg⟩
  rw [h.eq]
  have e1 : (bl p).drop pos = ((bl p).take q).drop pos ++ (bl p).drop q := by
    rw [← List.drop_append_of_le_length (by rw [List.length_take, bl_length]; omega), List.take_append_drop]
  rw [e1, fdM_skip]
  · congr 1
    have e2 : ((bl p).take q).drop fr = ((bl p).take pos).drop fr ++ ((bl p).take q).drop pos := by
      have e3 : (bl p).take q = (bl p).take pos ++ ((bl p).take q).drop pos := by
        have := List.take_append_drop pos ((bl p).take q)
        rw [List.take_take, Nat.min_eq_left (by omega)] at this
        exact this.symm
      conv => lhs; rw [e3]
      rw [List.drop_append_of_le_length (by rw [List.length_take, bl_length]; omega)]
    exact e2.symm
  · intro c hc
    obtain ⟨j, hj⟩ := List.mem_iff_getElem?.1 hc
    rw [List.getElem?_drop, List.getElem?_take] at hj
    split at hj
    · obtain ⟨c', h1, h2⟩ := hx (pos + j) (by omega) (by omega)
      rw [h1] at hj
      injection hj with hj
      rw [← hj]; exact h2
    · cases hj

theorem FJ.dot {l : List F} {p : ByteArray} {w wi : World} {pos fr a : Nat} (h : FJ l p w wi pos fr a) (hb : (bl p)[pos]? = some 46) (x : Int) (hx : x = namedI l (kidsOf l a) (str (((bl p).take pos).drop fr))) :
    findI l p = if x = -1 then -1 else fdM l x [] ((bl p).drop (pos + 1)) := by
  rw [h.eq, (take_one hb).2, fdM, if_pos rfl, hx]

theorem KidsM.at {w : World} {g : Nat} {l : List F} (h : KidsM w g l) {j : Nat} (hj : j < l.length) : ∃ kv, w.cell? ⟨g, j, none⟩ = some kv ∧ SeenI w kv (kidsOf l (j : Int)) := by
  obtain ⟨R, h1, h2, h3⟩ := h
  refine ⟨R.getD j nilS, ?_, h3 j hj⟩
  rw [cell_of_row w g j _ _ _ h2, List.getD]
  have : j < R.length := by omega
  simp [List.getElem?_eq_getElem this]

set_option maxRecDepth 100000 in
set_option maxHeartbeats 2000000 in
theorem find_any (sv : Value) (p : ByteArray) (g n : Nat) (l : List F) (w : World) (hS : SeenF w sv l) (hK : KidsM w g l) (hn : n = l.length) (h1 : 1 ≤ l.length) (hp : p.size ≤ 9223372036854775806) :
    Calls Try.prog 57 #[sv, .slice (some ⟨g, 0, none⟩) n n, .string p] w fun e w' => e = .returned (.int .i64 (findI l p)) ∧ Chg [] w w' := by
  obtain ⟨ao, cap, rfl, hc1, hc2⟩ := hS.shape
  have HS := Lib.hid hS; have HK := Lib.hid hK
  clear hS hK
  rw [← hn] at hc1 HS h1 ⊢
  have HN := Lib.hid hn
  have hnm : n ≤ maxLen := by omega
  clear hn
  go_enter Try.func57, Try.ntmps57
  go_wp2
  go_loopw [7, 8] (fun x y w' => ∃ (pos fr a : Nat), x = .int .i64 (a : Int) ∧ y = .int .i64 (fr : Int) ∧ FJ l p w w' pos fr a) (fun _ _ w' => p.size - itp w' w.heap.size)
  case atStart => exact ⟨0, 0, 0, rfl, rfl, ⟨by omega, by omega, by rw [← HN.out]; omega, rfl, heap_alloc_new w _, (Chg.refl [] w).alloc _⟩⟩
  case round =>
    obtain ⟨pos, fr, a, rfl, rfl, hJ⟩ := hrel
    have hle := hJ.le
    have hfl := hJ.fl
    have hal := hJ.al
    have hit := hJ.it
    have HJ := Lib.hid hJ
    have HTP := Lib.hid (itp_of hit)
    clear hJ
    rw [← HN.out] at hal
    by_cases hps : pos < p.size
    · obtain ⟨b, r, q, hb, hr, hq, hr2, hbr⟩ := dec_pos p pos hps
      have hnx : ∀ ty, (Instr.next (.pointer (some ⟨w.heap.size, 0, none⟩)) true ty).run Try.prog wr = _ := fun ty => Lib.run_next_any_at wr w.heap.size p pos ty hit hps
      have HSK := Lib.hid (fun j => decode_skip p pos j hps)
      rw [hr, hq] at hnx
      rw [hq] at HSK
      have HI1 := Lib.hid (Lib.iterAt_heap wr w.heap.size p pos q hit)
      have HC1 := Lib.hid (Chg.iterAt HJ.out.cg (k := w.heap.size) (by simp) p q)
      have HB := Lib.hid hb; have HBR := Lib.hid hbr
      clear hb hr hq hbr hit
      generalize wr.iterAt w.heap.size p q = W1 at hnx HI1 HC1
      by_cases hd : r = 46
      · subst hd
        have hq1 : b = 46 ∧ q = pos + 1 := by
          have h := HBR.out
          omega
        obtain ⟨rfl, rfl⟩ := hq1
        have hext : p.extract fr pos = str (((bl p).take pos).drop fr) := extract_str p fr pos (by omega)
        obtain ⟨cur, hcur⟩ : ∃ cur, cur = ((bl p).take pos).drop fr := ⟨_, rfl⟩
        rw [← hcur] at hext
        obtain ⟨kv, hkv, hks⟩ := (HK.out.chg HC1.out).at (j := a) (by rw [← HN.out]; exact hal)
        have HKS := Lib.hid hks
        obtain ⟨x, hx⟩ : ∃ x, x = namedI l (kidsOf l a) (str cur) := ⟨_, rfl⟩
        have HNM := Lib.hid (show ∀ wx, Chg [] W1 wx → Calls Try.prog 94 #[.slice ao n cap, kv, .string (str cur)] wx fun e w' => e = .returned (.int .i64 x) ∧ Chg [] wx w' from fun wx hk => by
          rw [hx]; exact named_any _ kv (str cur) l (kidsOf l a) wx (HS.out.keep (HC1.out.trans hk (by simp))) (HKS.out.keep hk) (fun y hy => kidsOf_mem hy))
        have HXR := Lib.hid (show x = -1 ∨ 0 ≤ x ∧ x < l.length by rw [hx]; exact namedI_rng l a (str cur))
        have HE := Lib.hid (HJ.out.dot HB.out x (by rw [hx, hcur]))
        have HI3 := Lib.hid (show ∀ w3, Chg [] W1 w3 → w3.heap[w.heap.size]? = some (.stringIter p (pos + 1)) from fun w3 hk => hk.heap HI1.out (by simp))
        clear hx hcur hks
        rcases HXR.out with rfl | ⟨hx0, hx1⟩
        · go_upto_region 6 with fail
          go_still_tail 9, (by kernel_rfl)
          change wpList _ _ _ _ _ _
          go_wp2_with (first
            | (go_at_call 94; (with_reducible refine (HNM.out _ (Chg.refl [] W1).drew).mono ?_); rintro e w3 ⟨rfl, hk3⟩; have hi3 := HI3.out _ ((Chg.refl [] W1).drew.trans hk3 (by simp)); have HC3 := Lib.hid (HC1.out.trans ((Chg.refl [] W1).drew.trans hk3 (by simp)) (by simp)); clear hk3)
            | fail)
          go_ret
          exact ⟨ret_int (by rw [HE.out]; rfl), HC3.out⟩
        · obtain ⟨y, rfl⟩ : ∃ y : Nat, x = y := ⟨x.toNat, by omega⟩
          have hy1 : ((y : Int) == -1) = false := by simp
          go_upto_region 6 with fail
          go_still_tail 9, (by kernel_rfl)
          change wpList _ _ _ _ _ _
          go_wp2_with (first
            | (go_at_call 94; (with_reducible refine (HNM.out _ (Chg.refl [] W1).drew).mono ?_); rintro e w3 ⟨rfl, hk3⟩; have hi3 := HI3.out _ ((Chg.refl [] W1).drew.trans hk3 (by simp)); have HC3 := Lib.hid (HC1.out.trans ((Chg.refl [] W1).drew.trans hk3 (by simp)) (by simp)); clear hk3)
            | fail)
          go_roundw
          case rel =>
            refine ⟨pos + 1, pos + 1, y, rfl, by go_num, ⟨by omega, Nat.le_refl _, by omega, ?_, hi3, HC3.out⟩⟩
            have e1 : ((bl p).take (pos + 1)).drop (pos + 1) = [] := List.drop_of_length_le (by rw [List.length_take]; omega)
            rw [HE.out, if_neg (by omega), e1]
          case measure =>
            rw [itp_of hi3, HTP.out]; omega
      · have hdn : ((r : Int) != 46) = true := by simp; omega
        go_wp2
        go_roundw
        case rel =>
          have hqq : pos < q := by have := HBR.out; omega
          have hqs : q ≤ p.size := by
            rcases HBR.out with ⟨_, _, h⟩ | ⟨_, _, _⟩
            · omega
            · by_cases hq1 : q = pos + 1
              · omega
              · have := (HSK.out (q - 1) (by omega) (by omega)).1
                omega
          refine ⟨q, fr, a, rfl, rfl, HJ.out.skip hqq hqs (fun j h1 h2 => ?_) HI1.out HC1.out⟩
          by_cases hj : j = pos
          · subst hj
            refine ⟨b, HB.out, ?_⟩
            have := HBR.out
            omega
          · obtain ⟨_, c, hc, hc2⟩ := HSK.out j (by omega) h2
            exact ⟨c, hc, by omega⟩
        case measure =>
          have := HBR.out
          rw [itp_of HI1.out, HTP.out]; omega
    · have hpe : pos = p.size := by omega
      have hnx : ∀ ty, (Instr.next (.pointer (some ⟨w.heap.size, 0, none⟩)) true ty).run Try.prog wr = _ := fun ty => Lib.run_next_end_at wr w.heap.size p pos ty hit hps
      have hext : p.extract fr p.size = str ((bl p).drop fr) := by rw [extract_str p fr p.size (Nat.le_refl _), List.take_of_length_le (by rw [bl_length]; exact Nat.le_refl _)]
      obtain ⟨cur, hcur⟩ : ∃ cur, cur = (bl p).drop fr := ⟨_, rfl⟩
      rw [← hcur] at hext
      obtain ⟨kv, hkv, hks⟩ := (HK.out.chg HJ.out.cg).at (j := a) (by rw [← HN.out]; exact hal)
      have HKS := Lib.hid hks
      obtain ⟨x, hx⟩ : ∃ x, x = namedI l (kidsOf l a) (str cur) := ⟨_, rfl⟩
      have HNM := Lib.hid (show ∀ wx, Chg [] wr wx → Calls Try.prog 94 #[.slice ao n cap, kv, .string (str cur)] wx fun e w' => e = .returned (.int .i64 x) ∧ Chg [] wx w' from fun wx hk => by
        rw [hx]; exact named_any _ kv (str cur) l (kidsOf l a) wx (HS.out.keep (HJ.out.cg.trans hk (by simp))) (HKS.out.keep hk) (fun y hy => kidsOf_mem hy))
      have HE := Lib.hid (show findI l p = x by
        have e1 : (bl p).drop p.size = [] := List.drop_of_length_le (by rw [bl_length]; exact Nat.le_refl _)
        have e2 : (bl p).take p.size = bl p := List.take_of_length_le (by rw [bl_length]; exact Nat.le_refl _)
        rw [HJ.out.eq, hpe, e1, e2, ← hcur, hx]
        rfl)
      have HC := Lib.hid HJ.out.cg
      have hfs : fr ≤ p.size := by omega
      clear hx hcur hks hpe hit
      go_upto_region 10 with fail
      go_still_tail 8, (by kernel_rfl)
      change wpList _ _ _ _ _ _
      go_wp2_with (first
        | (go_at_call 94; (with_reducible refine (HNM.out _ ?_).mono ?_); (focus (first | exact (Chg.refl [] wr).drew | exact Chg.refl [] wr | exact ((Chg.refl [] wr).iterAt (by simp) _ _).drew)); rintro e w3 ⟨rfl, hk3⟩; have HC3 := Lib.hid (HC.out.trans ((Chg.refl [] wr).drew.trans hk3 (by simp)) (by simp)); clear hk3)
        | fail)
      go_ret
      exact ⟨ret_int HE.out.symm, HC3.out⟩

end Go.Proofs.Ythhcnlmjcpkbnaa
