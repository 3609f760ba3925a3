/- delta: Encode of values. -/
import Derived.Test.YtohgnbgijleoaaaDoorDj
import Derived.Lib.OthersKept
namespace Go.Proofs.YtohgnbgijleoaaaDoor
open Go.RowKit
set_option linter.unusedVariables false
set_option linter.unusedSimpArgs false

theorem own_iter12 {w : World} {B T size n k : Nat} {v : Value} {xs : List Value} {s : ByteArray} {pos q : Nat} (h : w.ownsRow B T size v n xs) (hk : w.heap[k]? = some (.stringIter s pos)) : (w.iterAt k s q).ownsRow B T size v n xs := by
  obtain ⟨hl, h1⟩ := h
  refine ⟨hl, ?_⟩
  rcases h1 with h1 | ⟨g, cap, cur, rfl, hb, hg, h2⟩
  · exact .inl h1
  · refine .inr ⟨g, cap, cur, rfl, hb, ?_, h2⟩
    have hne : k ≠ g := by rintro rfl; rw [hk] at hg; cases hg
    show (w.heap.setIfInBounds k _)[g]? = _
    rw [Array.getElem?_setIfInBounds_ne hne]
    exact hg

theorem Chg.iterAt12 {S : List Nat} {a w : World} (h : Chg S a w) {k : Nat} (hk : k ∈ S ∨ a.heap.size ≤ k) (s : ByteArray) (q : Nat) : Chg S a (w.iterAt k s q) :=
  h.trans (T := [k]) ⟨rfl, rfl, rfl, by show _ ≤ (w.heap.setIfInBounds k _).size; simp, fun j _ hj => by
    show (w.heap.setIfInBounds k _)[j]? = _
    rw [Array.getElem?_setIfInBounds_ne (by simpa [eq_comm] using hj)]⟩ (by simpa using hk)

theorem iter_kept12 {w w' : World} {B T size n k : Nat} {v : Value} {xs : List Value} {s : ByteArray} {pos : Nat} (h : w.ownsRow B T size v n xs) (hk : w.heap[k]? = some (.stringIter s pos)) (hg : w.grownBy w' v.ownBlock) : w'.heap[k]? = some (.stringIter s pos) := by
  refine (hg.block k (Go.lt_of_block hk) fun e => ?_).trans hk
  obtain ⟨hl, h1⟩ := h
  rcases h1 with ⟨rfl, hn⟩ | ⟨g, cap, cur, rfl, hb, hgg, h2⟩
  · simp [Value.ownBlock] at e
  · simp [Value.ownBlock] at e
    subst e
    rw [hk] at hgg
    cases hgg

def itp12 (w : World) (g : Nat) : Nat := match w.heap[g]? with | some (.stringIter _ p) => p | _ => 0
theorem itp12_of {w : World} {g p : Nat} {s : ByteArray} (h : w.heap[g]? = some (.stringIter s p)) : itp12 w g = p := by unfold itp12; rw [h]

/-- What Encode writes. -/
def encD12 (k : Nat) (l : List V) : List Nat := if k = 1 then encP 1 l else if k = 4 then intsE (l.map fun v => (v.s.size : Int)) ++ txt12 l else intsE (l.map V.n)

/-- The signs of a form, and what its parts are. -/
def prt12 (k : Nat) (l : List V) : List (List Nat) := if k = 4 then [intsE (l.map fun v => (v.s.size : Int)), txt12 l] else [intsE (l.map V.n)]
def sg12 (k : Nat) : List Nat := frmS.getD k []
theorem prt12_flat (k : Nat) (hk : k = 2 ∨ k = 3 ∨ k = 4) (l : List V) : (prt12 k l).flatten = encD12 k l := by
  unfold prt12 encD12
  rcases hk with rfl | rfl | rfl
  · rw [if_neg (by decide), if_neg (by decide), if_neg (by decide)]; simp
  · rw [if_neg (by decide), if_neg (by decide), if_neg (by decide)]; simp
  · rw [if_pos rfl, if_neg (by decide), if_pos rfl]; simp
theorem prt12_len (k : Nat) (hk : k = 2 ∨ k = 3 ∨ k = 4) (l : List V) : (prt12 k l).length = (sg12 k).length := by
  unfold prt12
  rcases hk with rfl | rfl | rfl <;> rfl

theorem okV_in (k : Nat) (hk : k = 2 ∨ k = 3 ∨ k = 4) (v : V) (h : okV k v) : In64 v.n ∧ v.s.size ≤ 100 := by
  obtain ⟨-, h2, h3, h4⟩ := h
  unfold In64
  rcases hk with rfl | rfl | rfl
  · obtain ⟨ha, hb⟩ := h2 rfl
    rw [hb]
    exact ⟨by omega, by decide⟩
  · obtain ⟨ha, hb⟩ := h3 rfl
    rw [hb]
    exact ⟨by omega, by decide⟩
  · obtain ⟨ha, hb⟩ := h4 rfl
    exact ⟨by omega, hb⟩

theorem part12_any (k : Nat) (hk : k = 2 ∨ k = 3 ∨ k = 4) (lv : Value) (l : List V) (w : World) (hS : SeenV w lv l) (hl : l.length ≤ 100000) (hok : ∀ v ∈ l, okV k v) (j : Nat) (hj : j < (sg12 k).length) :
    Calls Tryd.prog 19 #[.int .i32 ((((sg12 k).getD j 0 : Nat) : Nat) : Int), lv] w fun e w' => ∃ x, e = .returned x ∧ Made 5 .u8 ((prt12 k l).getD j []) w x w' := by
  have hin := fun v hv => okV_in k hk v (hok v hv)
  have hnum : ∀ sg : Int, (sg == 116) = false → (sg == 108) = false → Calls Tryd.prog 19 #[.int .i32 sg, lv] w fun e w' => ∃ x, e = .returned x ∧ Made 5 .u8 (intsE (l.map V.n)) w x w' := fun sg h1 h2 =>
    part_num12 sg V.n lv l w hS hl h1 (fun v hv => (hin v hv).1) (fun v hv wx => number_n12 sg v wx h2)
  rcases hk with rfl | rfl | rfl
  · have hj : j < 1 := hj
    obtain rfl : j = 0 := by omega
    exact hnum 115 rfl rfl
  · have hj : j < 1 := hj
    obtain rfl : j = 0 := by omega
    exact hnum 110 rfl rfl
  · have hj : j < 2 := hj
    have h2 : j = 0 ∨ j = 1 := by omega
    rcases h2 with rfl | rfl
    · exact part_num12 108 (fun v => (v.s.size : Int)) lv l w hS hl rfl (fun v hv => by have := (hin v hv).2; unfold In64; omega) (fun v hv wx => number_len12 v wx (hin v hv).2)
    · have HJ := Lib.hid (joined12_any lv l w hS hl (fun v hv => (hin v hv).2))
      unfold Made at HJ
      show Calls Tryd.prog 19 #[.int .i32 116, lv] w fun e w' => ∃ x, e = .returned x ∧ Made 5 .u8 (txt12 l) w x w'
      clear hnum hin hok hS
      go_enter Tryd.func19, Tryd.ntmps19
      go_wp2_with (first
        | (go_at_call 33; (with_reducible refine HJ.out.mono ?_); rintro e w2 ⟨x, rfl, hc, ho⟩; have HC := Lib.hid hc; have HO := Lib.hid ho; clear hc ho)
        | fail)
      go_ret
      exact ⟨_, rfl, HC.out, HO.out⟩

theorem flat_take (P : List (List Nat)) (j : Nat) (h : j < P.length) : (P.take (j + 1)).flatten = (P.take j).flatten ++ P.getD j [] := by
  rw [List.take_add_one, List.getElem?_eq_getElem h, List.flatten_append]
  simp [List.getD, h]

theorem prt12_small (k : Nat) (hk : k = 2 ∨ k = 3 ∨ k = 4) (l : List V) (hok : ∀ v ∈ l, okV k v) (j : Nat) : ((prt12 k l).getD j []).length ≤ 100 * l.length := by
  have hin := fun v hv => okV_in k hk v (hok v hv)
  have h1 := intsE_len (l.map V.n) (fun x hx => by obtain ⟨v, hv, rfl⟩ := List.mem_map.1 hx; exact (hin v hv).1)
  have h2 := intsE_len (l.map fun v => (v.s.size : Int)) (fun x hx => by obtain ⟨v, hv, rfl⟩ := List.mem_map.1 hx; have := (hin v hv).2; unfold In64; omega)
  have h3 := txt12_len l (fun v hv => (hin v hv).2)
  rw [List.length_map] at h1 h2
  unfold prt12
  split
  · rcases j with _ | _ | j
    · simp; omega
    · simp; omega
    · simp
  · rcases j with _ | j
    · simp; omega
    · simp

set_option maxRecDepth 100000 in
set_option maxHeartbeats 4000000 in
theorem encode12_form (k : Nat) (hk : k = 2 ∨ k = 3 ∨ k = 4) (lv : Value) (l : List V) (w : World) (hL : Laid w) (hS : SeenV w lv l) (hl : l.length ≤ 1000) (hok : ∀ v ∈ l, okV k v) :
    Calls Tryd.prog 10 #[.int .i64 (k : Int), lv] w fun e w' => ∃ x, e = .returned x ∧ Made 5 .u8 (encD12 k l) w x w' := by
  obtain ⟨i8, hi8, hz80, hz81, hz82⟩ := info_u8
  have HF := Lib.hid (formOf_any12 (k : Int) w (by omega) hL)
  have HP := Lib.hid (fun (wx : World) (hc : Chg [] w wx) => part12_any k hk lv l wx (hS.keep hc) (by omega) hok)
  have hfr : frmB (k : Int) = str (sg12 k) := by unfold frmB; rw [if_neg (by omega), Int.toNat_natCast]; rfl
  rw [hfr] at HF
  have hsz : (str (sg12 k)).size = (sg12 k).length := str_size _
  have hsm : ∀ x ∈ sg12 k, x < 128 := by rcases hk with rfl | rfl | rfl <;> decide
  have hpos : 0 < (sg12 k).length := by rcases hk with rfl | rfl | rfl <;> decide
  have hle : (sg12 k).length ≤ 2 := by rcases hk with rfl | rfl | rfl <;> decide
  have hne : (str (sg12 k)).toList.isEmpty = false := by rcases hk with rfl | rfl | rfl <;> decide +kernel
  have hne2 : ¬ (str (sg12 k)).toList = [] := fun h => by rw [h] at hne; simp at hne
  have HFL := Lib.hid (prt12_flat k hk l)
  have HPL := Lib.hid (prt12_len k hk l)
  have HSM := Lib.hid (prt12_small k hk l hok)
  obtain ⟨S, hSS⟩ : ∃ S, S = sg12 k := ⟨_, rfl⟩
  rw [← hSS] at HF HP hsz hsm hpos hle hne hne2 HPL
  obtain ⟨s, hs⟩ : ∃ s, s = str S := ⟨_, rfl⟩
  rw [← hs] at HF hsz hne hne2
  have HGET := Lib.hid (show ∀ j (h : j < s.size), (s[j]'h).toNat = S.getD j 0 from fun j h => by
    have h1 := bl_get s j h
    have e : bl s = S := by rw [hs]; exact bl_str (fun c hc => by have := hsm c hc; omega)
    rw [e] at h1
    rw [List.getD, h1]; rfl)
  have HLT := Lib.hid (show ∀ j, j < S.length → S.getD j 0 < 128 from fun j hj => hsm _ (getD_mem hj))
  obtain ⟨nF, hnF⟩ : ∃ n, n = S.length := ⟨_, rfl⟩
  rw [← hnF] at hsz hpos hle HPL HP HLT
  obtain ⟨P, hP⟩ : ∃ P, P = prt12 k l := ⟨_, rfl⟩
  rw [← hP] at HFL HPL HSM HP
  obtain ⟨E, hE⟩ : ∃ E, E = encD12 k l := ⟨_, rfl⟩
  rw [← hE] at HFL ⊢
  unfold Made at HP
  have HSZ := Lib.hid hsz
  clear hL hS hok hfr hsm hSS hs hnF hP hE
  go_enter Tryd.func10, Tryd.ntmps10
  go_wp2_with (first
    | (go_at_call 17; (with_reducible refine HF.out.mono ?_); rintro e w1 ⟨rfl, rfl⟩)
    | fail)
  go_loopw [6] (fun bv w' => ∃ j : Nat, j ≤ nF ∧ w'.heap[w.heap.size]? = some (.stringIter s j) ∧ Chg [] w w' ∧ w'.ownsRow (w.heap.size + 1) 5 1 bv ((P.take j).flatten).length (nv .u8 ((P.take j).flatten))) (fun _ w' => nF - itp12 w' w.heap.size)
  case atStart => exact ⟨0, Nat.zero_le _, heap_alloc_new w _, (Chg.refl [] w).alloc _, World.ownsRow_nil _ _ _ _⟩
  case round =>
    obtain ⟨j, hj, hit, hc, ho⟩ := hrel
    obtain ⟨bo, bc, rfl⟩ := own_shape ho
    have HTP := Lib.hid (itp12_of hit)
    have HC := Lib.hid hc
    by_cases hlt : j < nF
    · have hp : j < s.size := by omega
      have hnx : ∀ ty, (Instr.next (.pointer (some ⟨w.heap.size, 0, none⟩)) true ty).run Tryd.prog wr = _ := fun ty => Lib.run_next_ascii_at wr w.heap.size s j ty hit hp (by rw [HGET.out j hp]; exact HLT.out j hlt)
      rw [HGET.out j hp] at hnx
      have HI1 := Lib.hid (Lib.iterAt_heap wr w.heap.size s j (j + 1) hit)
      have HC1 := Lib.hid (Chg.iterAt12 hc (k := w.heap.size) (.inr (Nat.le_refl _)) s (j + 1))
      have HO1 := Lib.hid (own_iter12 (q := j + 1) ho hit)
      have HFT := Lib.hid (flat_take P j (by rw [HPL.out]; exact hlt))
      have HQ := Lib.hid (HP.out _ HC1.out j hlt)
      have hpl := HSM.out j
      have hXl : ((P.take j).flatten).length ≤ 1000000 := by
        have h2 : j = 0 ∨ j = 1 := by omega
        rcases h2 with rfl | rfl
        · simp
        · have := HSM.out 0
          have h3 : (P.take 1).flatten = _ := flat_take P 0 (by rw [HPL.out]; omega)
          simp only [List.take_zero, List.flatten_nil, List.nil_append] at h3
          rw [h3]
          omega
      obtain ⟨g, hg⟩ : ∃ g, g = S.getD j 0 := ⟨_, rfl⟩
      rw [← hg] at hnx HQ
      obtain ⟨Y, hY⟩ : ∃ Y, Y = P.getD j [] := ⟨_, rfl⟩
      rw [← hY] at HFT HQ hpl
      obtain ⟨X, hX⟩ : ∃ X, X = (P.take j).flatten := ⟨_, rfl⟩
      rw [← hX] at HFT HO1 hXl
      obtain ⟨m, hm⟩ : ∃ m, m = X.length := ⟨_, rfl⟩
      rw [← hm] at HO1 hXl
      have HYN := Lib.hid (nv_one .u8 Y)
      have hB1 := HC1.out.size
      have HBS := Lib.hid (show w.heap.size + 1 ≤ (wr.iterAt w.heap.size s (j + 1)).heap.size from Go.lt_of_block HI1.out)
      have HMM := Lib.hid hm
      rw [show (((P.take j).flatten).length) = m by rw [← hX, hm]]
      clear hit hc ho hg hY hX hm hp
      generalize wr.iterAt w.heap.size s (j + 1) = W1 at hnx HI1 HC1 HO1 HQ hB1 HBS
      go_wp2_with (first
        | (go_at_call 19; (with_reducible refine HQ.out.mono ?_); rintro e w4 ⟨yv, rfl, hc4, ho4⟩; obtain ⟨yo, yc, rfl⟩ := own_shape ho4; have HC4 := Lib.hid hc4; have HY4 := Lib.hid (reads_of_own ho4).seen; have HO4 := Lib.hid (own_chg HO1.out hc4 (by simp)); have HI4 := Lib.hid (hc4.heap HI1.out (by simp)); have hB4 := Nat.le_trans HBS.out hc4.size; clear hc4 ho4)
        | (at_builtin; refine wpList_append_reads _ rfl _ _ 26 26 rfl (w.heap.size + 1) 5 5 i8 (.int .u8 0) 1 Tryd.underlying26 Tryd.underlying26 hi8 hz80 hz81 hz82 rfl _ _ _ rfl HO4.out _ (nv .u8 Y) rfl HY4.out HYN.out ?c1 ?c2 hB4 ?_)
        | fail)
      case c1 => rw [nv_length]; unfold maxLen; omega
      case c2 => rw [nv_length]; omega
      intro v5 w5 hown5 hgrow5
      have HI5 := Lib.hid (iter_kept12 HO4.out HI4.out hgrow5)
      have HC5 := Lib.hid ((HC1.out.trans HC4.out (by simp)).grown hgrow5 (fun k hk => .inr (by have := own_ge HO4.out k hk; omega)))
      rw [show nv .u8 X ++ nv .u8 Y = nv .u8 (X ++ Y) by simp [nv], ← HFT.out] at hown5
      have HO5 := Lib.hid hown5
      clear hown5 hgrow5
      go_wp2
      go_roundw
      case rel => exact ⟨j + 1, hlt, HI5.out, HC5.out, by
        have h := HO5.out
        rw [HFT.out] at h ⊢
        rw [List.length_append, ← HMM.out]
        simpa using h⟩
      case measure => rw [itp12_of HI5.out, HTP.out]; omega
    · have hp : ¬ j < s.size := by omega
      have hnx : ∀ ty, (Instr.next (.pointer (some ⟨w.heap.size, 0, none⟩)) true ty).run Tryd.prog wr = _ := fun ty => Lib.run_next_end_at wr w.heap.size s j ty hit hp
      have HO := Lib.hid (show wr.ownsRow (w.heap.size + 1) 5 1 (.slice bo ((P.take j).flatten).length bc) E.length (nv .u8 E) by
        have h := ho
        rw [show (P.take j).flatten = E by rw [← HFL.out, List.take_of_length_le (by rw [HPL.out]; omega)]] at h ⊢
        exact h)
      obtain ⟨m, hm⟩ : ∃ m, m = ((P.take j).flatten).length := ⟨_, rfl⟩
      rw [← hm] at HO ⊢
      clear hit hc ho hm
      go_wp2
      go_ret
      exact ⟨_, rfl, HC.out, own_mono HO.out (by omega)⟩

theorem encode12_any (k : Nat) (hk : 1 ≤ k ∧ k ≤ 4) (lv : Value) (l : List V) (w : World) (hL : Laid w) (hS : SeenV w lv l) (hl : l.length ≤ 1000) (hok : ∀ v ∈ l, okV k v) :
    Calls Tryd.prog 10 #[.int .i64 (k : Int), lv] w fun e w' => ∃ x, e = .returned x ∧ Made 5 .u8 (encD12 k l) w x w' := by
  by_cases h1 : k = 1
  · subst h1
    have HF := Lib.hid (formOf_any12 1 w (by omega) hL)
    rw [show frmB 1 = e0 from rfl] at HF
    have HE := Lib.hid (pencode_any 1 (by omega) lv l w hL hS (by omega) (fun v hv => by
      obtain ⟨h, -⟩ := hok v hv
      rw [(h rfl).2]; decide))
    unfold Made at HE
    rw [show ((1 : Nat) : Int) = 1 from rfl] at HE ⊢
    show Calls Tryd.prog 10 #[.int .i64 1, lv] w fun e w' => ∃ x, e = .returned x ∧ Made 5 .u8 (encP 1 l) w x w'
    clear hL hS hok
    go_enter Tryd.func10, Tryd.ntmps10
    go_wp2_with (first
      | (go_at_call 17; (with_reducible refine HF.out.mono ?_); rintro e w1 ⟨rfl, rfl⟩)
      | (go_at_call 18; (with_reducible refine HE.out.mono ?_); rintro e w2 ⟨x, rfl, hc, ho⟩; have HC := Lib.hid hc; have HO := Lib.hid ho; clear hc ho)
      | fail)
    go_ret
    exact ⟨_, rfl, HC.out, HO.out⟩
  · exact encode12_form k (by omega) lv l w hL hS hl hok

end Go.Proofs.YtohgnbgijleoaaaDoor
