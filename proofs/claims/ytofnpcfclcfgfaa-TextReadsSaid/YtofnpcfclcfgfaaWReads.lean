/- The walk of the statement TextReads. -/
import Derived.Test.YtofnpcfclcfgfaaRz
import Derived.Test.YtofnpcfclcfgfaaRs
import Derived.Test.YtofnpcfclcfgfaaRt
import Derived.Laws.IdiomStrings
import Derived.StillTailTactics
namespace Go.Proofs.Ytofnpcfclcfgfaa
open Go.RowKit
set_option linter.unusedVariables false

/-- A row of bytes in a block of its own, that bears the mark of a string's bytes. -/
def Dd (w : World) (g n cap : Nat) : Prop := ∃ C : Array Value, w.heap[g]? = some (.cells C 5 (C.size, C.size + 1)) ∧ n ≤ C.size ∧ n ≤ cap ∧ cap ≤ maxLen ∧ ∀ j, j < n → ∃ b : Nat, b < 256 ∧ C[j]? = some (.int .u8 (b : Int))

theorem Dd.cell {w : World} {g n cap : Nat} (h : Dd w g n cap) {j : Nat} (hj : j < n) : ∃ b : Nat, b < 256 ∧ w.cell? ⟨g, j, none⟩ = some (.int .u8 (b : Int)) ∧ w.frozen? ⟨g, j, none⟩ = false := by
  obtain ⟨C, h1, h2, -, -, h3⟩ := h
  obtain ⟨b, hb, hc⟩ := h3 j hj
  refine ⟨b, hb, by simp [World.cell?, h1, hc], ?_⟩
  simp [World.frozen?, h1]
  omega

theorem Dd.set {w : World} {g n cap : Nat} (h : Dd w g n cap) (j b : Nat) (hb : b < 256) : Dd (w.setCell ⟨g, j, none⟩ (.int .u8 (b : Int))) g n cap := by
  obtain ⟨C, h1, h2, h4, h5, h3⟩ := h
  refine ⟨C.setIfInBounds j (.int .u8 (b : Int)), by rw [heap_set h1]; simp, by simpa using h2, h4, h5, fun i hi => ?_⟩
  obtain ⟨b', hb', hc⟩ := h3 i hi
  by_cases hij : j = i
  · subst hij
    exact ⟨b, hb, by rw [Array.getElem?_setIfInBounds_self_of_lt (by omega)]⟩
  · exact ⟨b', hb', by rw [Array.getElem?_setIfInBounds_ne hij]; exact hc⟩

theorem Dd.front {w : World} {g n cap : Nat} (h : Dd w g n cap) (k : Nat) (hk : k ≤ n) : Dd w g k cap := by
  obtain ⟨C, h1, h2, h4, h5, h3⟩ := h
  exact ⟨C, h1, by omega, by omega, h5, fun j hj => h3 j (by omega)⟩

theorem Dd.keep {w w' : World} {g n cap : Nat} (h : Dd w g n cap) (hc : Chg [] w w') : Dd w' g n cap := by
  obtain ⟨C, h1, h2⟩ := h
  exact ⟨C, hc.heap h1 (by simp), h2⟩

theorem Dd.conv {w : World} {g n cap : Nat} (h : Dd w g n cap) : ∃ s : ByteArray, s.size = n ∧ ∀ wx, Chg [] w wx → (convert 33 9 (.slice (some ⟨g, 0, none⟩) n cap)).run Try.prog wx = .ok (.string s) wx := by
  have hn : ∃ l : List Nat, l.length = n ∧ (∀ x ∈ l, x < 2 ^ 8) ∧ ∀ j u, (nv .u8 l)[j]? = some u → w.cell? ((⟨g, 0, none⟩ : Addr).add j) = some u := by
    have key : ∀ m, m ≤ n → ∃ l : List Nat, l.length = m ∧ (∀ x ∈ l, x < 2 ^ 8) ∧ ∀ j u, (nv .u8 l)[j]? = some u → w.cell? ((⟨g, 0, none⟩ : Addr).add j) = some u := by
      intro m
      induction m with
      | zero => intro _; exact ⟨[], rfl, by simp, by intro j u h; simp [nv] at h⟩
      | succ m ih =>
        intro hm
        obtain ⟨l, h1, h2, h3⟩ := ih (by omega)
        obtain ⟨b, hb, hc, -⟩ := h.cell (j := m) (by omega)
        refine ⟨l ++ [b], by simp [h1], fun x hx => ?_, fun j u hu => ?_⟩
        · rcases List.mem_append.1 hx with hx | hx
          · exact h2 x hx
          · simp at hx; subst hx; omega
        · have e : nv .u8 (l ++ [b]) = nv .u8 l ++ [.int .u8 (b : Int)] := by simp [nv]
          rw [e] at hu
          by_cases hj : j < m
          · rw [List.getElem?_append_left (by rw [nv_length]; omega)] at hu
            exact h3 j u hu
          · rw [List.getElem?_append_right (by rw [nv_length]; omega), nv_length, h1] at hu
            have hj2 : j = m := by
              have := (List.getElem?_eq_some_iff.1 hu).1
              simp at this
              omega
            subst hj2
            simp at hu
            rw [addr_add, Nat.zero_add, ← hu]
            exact hc
    exact key n (Nat.le_refl _)
  obtain ⟨l, h1, h2, h3⟩ := hn
  have hcap : n ≤ cap ∧ cap ≤ maxLen := by obtain ⟨C, -, -, a, b, -⟩ := h; exact ⟨a, b⟩
  refine ⟨str l, by simp [str, ByteArray.size, h1], fun wx hc => ?_⟩
  refine conv_seen Try.underlying33 Try.underlying5 Try.underlying9 (.inr ⟨⟨g, 0, none⟩, cap, by rw [nv_length, h1], by rw [nv_length, h1]; exact hcap.1, hcap.2, fun j u hu => hc.cell (h3 j u hu) (by simp)⟩) h1 h2

theorem txtR_pos (r : F) (fo : Fo) : 1 ≤ (txtR r fo).size := by
  unfold txtR
  simp only [txt, ByteArray.size_append, size_mk, List.size_toArray, List.length_cons, List.length_nil]
  omega

def rwL : List ByteArray := [{ data := #[32, 123, 32] }, { data := #[32, 125, 32] }, { data := #[32, 59, 32] }, { data := #[32, 114, 101, 113, 117, 105, 114, 101, 100, 32] }, { data := #[32, 103, 114, 111, 117, 112, 32] }, { data := #[32, 105, 110, 116, 51, 50, 32] }, { data := #[32, 120, 32] }, { data := #[32, 111, 112, 116, 105, 111, 110, 97, 108, 32, 98, 111, 111, 108, 32, 113, 59, 32] }, { data := #[32, 65, 32] }, { data := #[32, 195, 169, 32] }, { data := #[95] }, { data := #[32, 109, 101, 115, 115, 97, 103, 101, 32, 109, 32, 123, 32] }]
theorem rwL_size : ∀ j, j < 12 → (rwL.getD j ByteArray.empty).size ≤ 20 := by decide

abbrev FRR15 (a0 : Option Addr) (len0 cap0 : Nat) (a1 : Option Addr) (len1 cap1 : Nat) (a2 : Option Addr) (len2 cap2 : Nat) (a3 a4 : Int) (a5 T sD x : ByteArray) (gd m cp gw k jw : Nat) (base u : Nat → Value) : Act := { tmps := #[.slice a0 len0 cap0, .slice a1 len1 cap1, .slice a2 len2 cap2, .int .i64 a3, .int .i64 a4, .string a5, base 6, base 7, base 8, base 9, base 10, base 11, .bool false, .string T, .slice (some ⟨gd, 0, none⟩) m cp, base 15, .slice (some ⟨gw, 0, none⟩) 12 12, .int .i64 (k : Int), u 18, base 19, base 20, base 21, base 22, base 23, base 24, base 25, base 26, base 27, base 28, base 29, base 30, base 31, base 32, base 33, base 34, base 35, base 36, base 37, base 38, base 39, base 40, base 41, base 42, base 43, base 44, base 45, base 46, base 47, base 48, base 49, base 50, base 51, base 52, base 53, base 54, base 55, base 56, base 57, base 58, base 59, base 60, base 61, base 62, base 63, base 64, base 65, base 66, base 67, base 68, base 69, base 70, base 71, base 72, base 73, base 74, base 75, base 76, base 77, base 78, base 79, base 80, base 81, base 82, u 83, u 84, u 85, u 86, u 87, u 88, u 89, u 90, u 91, u 92, u 93, u 94, u 95, u 96, u 97, u 98, u 99, u 100, u 101, u 102, u 103, u 104, base 105, base 106, base 107, base 108, base 109, base 110, base 111, base 112, base 113, base 114, base 115, base 116, base 117, base 118, base 119, base 120, base 121, base 122, base 123, base 124, base 125, base 126, base 127, base 128, base 129, base 130, base 131, base 132, base 133], defers := [] }

structure RIR15 (a0 : Option Addr) (len0 cap0 : Nat) (a1 : Option Addr) (len1 cap1 : Nat) (a2 : Option Addr) (len2 cap2 : Nat) (a3 a4 : Int) (a5 T sD x : ByteArray) (gd m cp gw k jw : Nat) (wc : World) (b : Nat → Bool) (u : Nat → Value) (g1 : Nat) (w' : World) : Prop where
  c0 : b 0 = true → u 83 = .slice (some ⟨gd, 0, none⟩) m cp
  c1 : b 1 = true → u 84 = .string sD
  c2 : b 2 = true → u 85 = .string T
  c3 : b 3 = true → u 86 = .int .i64 (k : Int)
  c4 : b 4 = true → u 87 = .string (T.extract 0 k)
  c5 : b 5 = true → u 88 = .slice (some ⟨gw, 0, none⟩) 12 12
  c6 : b 6 = true → u 89 = .int .i64 a4
  c7 : b 7 = true → u 90 = .slice (some ⟨gw, 0, none⟩) 12 12
  c8 : b 8 = true → u 91 = .int .i64 12
  c9 : b 9 = true → u 92 = .int .i64 (jw : Int)
  c10 : b 10 = true → u 93 = .pointer (some ⟨gw, jw, none⟩)
  c11 : b 11 = true → u 94 = .string x
  c12 : b 12 = true → u 95 = .string (T.extract 0 k ++ x)
  c13 : b 13 = true → u 96 = .string T
  c14 : b 14 = true → u 97 = .int .i64 (k : Int)
  c15 : b 15 = true → u 98 = .string (T.extract k T.size)
  c16 : b 16 = true → u 99 = .string (T.extract 0 k ++ x ++ T.extract k T.size)
  c17 : b 17 = true → u 100 = .string a5
  c18 : b 18 = true → u 101 = .string T
  c19 : b 19 = true → u 102 = .string T
  c20 : b 20 = true → u 103 = .string (T ++ T)
  c21 : b 21 = true → u 104 = .slice (some ⟨g1, 0, none⟩) 4 4
  c22 : b 22 = true → u 18 = .slice (some ⟨g1, 0, none⟩) 4 4
  cg : Chg [] wc w'
  m21 : b 21 = true → w'.heap[g1]? = some (.cells #[.string sD, .string (T.extract 0 k ++ x ++ T.extract k T.size), .string a5, .string (T ++ T)] 9 (0, 0)) ∧ wc.heap.size ≤ g1
  z22_21 : b 22 = true → b 21 = true

def JIR15 (a0 : Option Addr) (len0 cap0 : Nat) (a1 : Option Addr) (len1 cap1 : Nat) (a2 : Option Addr) (len2 cap2 : Nat) (a3 a4 : Int) (a5 T sD x : ByteArray) (gd m cp gw k jw : Nat) (wc : World) (listed : Array Bool) (a' : Act) (w' : World) : Prop :=
  ∃ (b : Nat → Bool) (base u : Nat → Value) (g1 : Nat), listed = #[b 0, b 1, b 2, b 3, b 4, b 5, b 6, b 7, b 8, b 9, b 10, b 11, b 12, b 13, b 14, b 15, b 16, b 17, b 18, b 19, b 20, b 21, b 22] ∧ a' = FRR15 a0 len0 cap0 a1 len1 cap1 a2 len2 cap2 a3 a4 a5 T sD x gd m cp gw k jw base u ∧ RIR15 a0 len0 cap0 a1 len1 cap1 a2 len2 cap2 a3 a4 a5 T sD x gd m cp gw k jw wc b u g1 w'

theorem JIR15_start {a0 : Option Addr} {len0 cap0 : Nat} {a1 : Option Addr} {len1 cap1 : Nat} {a2 : Option Addr} {len2 cap2 : Nat} {a3 a4 : Int} {a5 T sD x : ByteArray} {gd m cp gw k jw : Nat} {wc w' : World} {a : Act} (h : a = FRR15 a0 len0 cap0 a1 len1 cap1 a2 len2 cap2 a3 a4 a5 T sD x gd m cp gw k jw (fun j => a.tmps.getD j undef) (fun j => a.tmps.getD j undef)) (hc : Chg [] wc w') : JIR15 a0 len0 cap0 a1 len1 cap1 a2 len2 cap2 a3 a4 a5 T sD x gd m cp gw k jw wc (Array.replicate 23 false) a w' :=
  ⟨fun _ => false, _, _, 0, rfl, h, by constructor <;> simp [hc]⟩

theorem ltR15 : ∀ i : Nat, i < 23 → i = 0 ∨ i = 1 ∨ i = 2 ∨ i = 3 ∨ i = 4 ∨ i = 5 ∨ i = 6 ∨ i = 7 ∨ i = 8 ∨ i = 9 ∨ i = 10 ∨ i = 11 ∨ i = 12 ∨ i = 13 ∨ i = 14 ∨ i = 15 ∨ i = 16 ∨ i = 17 ∨ i = 18 ∨ i = 19 ∨ i = 20 ∨ i = 21 ∨ i = 22 := by decide


set_option maxRecDepth 100000 in
set_option maxHeartbeats 8000000 in
theorem walk_TextReads (a0 : Option Addr) (len0 cap0 : Nat) (z0 : List Int) (a1 : Option Addr) (len1 cap1 : Nat) (z1 : List Int) (a2 : Option Addr) (len2 cap2 : Nat) (z2 : List Int) (a3 : Int) (a4 : Int) (a5 : ByteArray) (w : World) (w0 : IsRow .i64 w a0 len0 cap0 z0) (w1 : IsRow .i64 w a1 len1 cap1 z1) (w2 : IsRow .u8 w a2 len2 cap2 z2) (w3 : (Lit.int .i64 a3).wf = true) (w4 : (Lit.int .i64 a4).wf = true) (w5 : a5.size ≤ maxLen) :
    Calls Try.prog 4 #[.slice a0 len0 cap0, .slice a1 len1 cap1, .slice a2 len2 cap2, .int .i64 a3, .int .i64 a4, .string a5] w fun e w' => e = .returned (.bool true) ∧ Below w.heap.size w w' := by
  obtain ⟨ns, hS, hlen, hwf⟩ := w0.seenI
  have HS := Lib.hid hS; have HWF := Lib.hid hwf
  have R1 := Lib.hid w1; have R2 := Lib.hid w2; have W3 := Lib.hid w3; have W4 := Lib.hid w4
  have hm1 := w1.len.2
  have hm2 := w2.len.2
  unfold maxLen at hm1 hm2 w5
  clear w0 w1 w2 w3 w4 hS hwf hlen
  by_cases h200 : 200 < a5.size
  · have d1 : decide ((200 : Int) < (a5.size : Int)) = true := by simp; omega
    go_enter Try.func4, Try.ntmps4
    go_wp2_with fail
    (with_reducible refine (known6_any _).mono ?_)
    rintro e wa ⟨rfl, hk⟩
    have HK1 := Lib.hid hk
    clear hk
    go_wp2
    go_ret
    exact ⟨rfl, HK1.out.below (Nat.le_refl _) (by simp)⟩
  have d1 : decide ((200 : Int) < (a5.size : Int)) = false := by simp; omega
  have hraw : a5.size ≤ 200 := by omega
  clear h200 w5
  obtain ⟨r, fo, hF⟩ := mkF ns
  have HF := Lib.hid hF
  have hts := hF.size
  have htp := txtR_pos r fo
  clear hF
  have hcv := fun (w : World) s => run_bytes_of_string (P := Try.prog) w 9 33 5 s Try.underlying9 Try.underlying33 Try.underlying5
  go_enter Try.func4, Try.ntmps4
  go_wp2_with fail
  (with_reducible refine (known6_any _).mono ?_)
  rintro e wa ⟨rfl, hk⟩
  have HK1 := Lib.hid hk
  clear hk
  go_wp2_with fail
  (with_reducible refine (make_any _ ns _ (HS.out.keep HK1.out) HWF.out).mono ?_)
  rintro e wb ⟨sv, rfl, hown, hk⟩
  have hSv := SeenF.own hown rfl
  obtain ⟨sa, sc, rfl⟩ := own_shape hown
  have HSF := Lib.hid hSv
  have HK2 := Lib.hid (HK1.out.trans hk (by simp))
  clear hown hSv hk
  go_wp2_with fail
  (with_reducible refine (rPrint_any ns r fo HF.out _ _ HSF.out).mono ?_)
  rintro e wc ⟨rfl, hk⟩
  have HK3 := Lib.hid (HK2.out.trans hk (by simp))
  clear hk
  obtain ⟨T, hT⟩ : ∃ T, T = txtR r fo := ⟨_, rfl⟩
  rw [← hT] at hts htp ⊢
  clear hT
  go_upto_region 7 with fail
  have hdd : Dd (wc.alloc (.cells (bytesRow T (grownCap wc T.size 0 5)) 5 ((bytesRow T (grownCap wc T.size 0 5)).size, (bytesRow T (grownCap wc T.size 0 5)).size + 1))).drew wc.heap.size T.size (grownCap wc T.size 0 5) := by
    have h1 := grownCap_ge wc T.size 0 5
    have h2 := grownCap_le_maxLen wc T.size 0 5 (by unfold maxLen; omega)
    have h3 : T.size ≤ (bytesRow T (grownCap wc T.size 0 5)).size := by
      have e : T.data.size = T.size := rfl
      unfold bytesRow
      simp [e]
    refine ⟨_, heap_alloc_new wc _, h3, h1, h2, fun j hj => ⟨_, (T.data[j]'hj).toNat_lt, bytesRow_at T _ j hj⟩⟩
  have hcw : Chg [] w (wc.alloc (.cells (bytesRow T (grownCap wc T.size 0 5)) 5 ((bytesRow T (grownCap wc T.size 0 5)).size, (bytesRow T (grownCap wc T.size 0 5)).size + 1))).drew := (HK3.out.alloc _).drew
  generalize (wc.alloc (.cells (bytesRow T (grownCap wc T.size 0 5)) 5 ((bytesRow T (grownCap wc T.size 0 5)).size, (bytesRow T (grownCap wc T.size 0 5)).size + 1))).drew = W3' at hdd hcw ⊢
  generalize grownCap wc T.size 0 5 = capd at hdd ⊢
  have hgd : w.heap.size ≤ wc.heap.size := HK3.out.size
  generalize wc.heap.size = gd at hdd hgd ⊢
  have HDD := Lib.hid hdd; have HCW := Lib.hid hcw
  obtain ⟨c, hc⟩ : ∃ c, c = T.size := ⟨_, rfl⟩
  have hc1 : 1 ≤ c := by omega
  have hc2 : c ≤ 1000 := by omega
  rw [← hc] at HDD
  have HCT := Lib.hid hc
  clear hdd hcw hcv hc
  go_wp2
  rw [← HCT.out]
  go_loopw [15] (fun s15 wx => ∃ j : Nat, s15 = .int .i64 (j : Int) ∧ j ≤ 3 ∧ Chg [] w wx ∧ Dd wx gd c capd) (fun s15 _ => 3 - (intOf s15).toNat)
  case atStart => exact ⟨0, rfl, by omega, HCW.out, HDD.out⟩
  case round =>
    obtain ⟨j, rfl, hj3, hcg, hdd⟩ := hrel
    have HCJ := Lib.hid hcg; have HDJ := Lib.hid hdd
    clear hcg hdd
    by_cases hgo : j < len1 ∧ j < len2 ∧ j < 3
    · obtain ⟨g1, g2, g3⟩ := hgo
      obtain ⟨ga, oa, rfl, hca⟩ := R1.out.at g1
      have ca := HCJ.out.cell (hca j g1) (by simp)
      have bw := Lib.hid (wf_getD R1.out.wf (i := j) (by have := R1.out.len.1; omega))
      obtain ⟨gb, ob, rfl, hcb⟩ := R2.out.at g2
      have cb := HCJ.out.cell (hcb j g2) (by simp)
      have hyb := wf_u8 (wf_getD R2.out.wf (i := j) (by have := R2.out.len.1; omega))
      obtain ⟨y, hy⟩ : ∃ y : Nat, z2.getD j 0 = (y : Int) := ⟨(z2.getD j 0).toNat, by omega⟩
      rw [hy] at cb hyb
      obtain ⟨av, hav⟩ : ∃ av, av = z1.getD j 0 := ⟨_, rfl⟩
      rw [← hav] at ca bw
      obtain ⟨q, hq⟩ : ∃ q, q = (av % (c : Nat)).toNat := ⟨_, rfl⟩
      have hqc : q < c := by rw [hq]; exact within_lt _ c hc1
      have HQ := Lib.hid hq
      obtain ⟨t, ht8, hct, hft⟩ := HDJ.out.cell hqc
      clear hca hcb hy hav hq
      go_wp2
      go_still_tail 16, (by kernel_rfl)
      still_call ((w6_nat av c _ hc1 (by omega) bw.out).mono fun e w'' h => ⟨h.1, h.2.symm⟩)
      rw [← HQ.out]
      repeat still_step
      refine wpStill_nil ?_
      go_wp2
      have hv : ((t : Int) + y) % 256 = (((t + y) % 256 : Nat) : Int) := by omega
      rw [hv]
      have hD2 := HDJ.out.set q ((t + y) % 256) (by omega)
      have hcc := (HCJ.out.setCell (p := ⟨gd, q, none⟩) (.inr hgd) (.int .u8 (((t + y) % 256 : Nat) : Int))).drew
      go_roundw
      case rel => exact ⟨j + 1, by go_num, by omega, hcc, hD2⟩
      case measure => simp [intOf]; omega
    · go_upto_region 8 with fail
      go_cut [47] (fun s47 wx => s47 = .bool false ∧ wx = wr)
      case first =>
        by_cases g1 : j < len1
        · have e1 : decide (j < len1) = true := by simpa using g1
          by_cases g2 : j < len2
          · have e2 : decide (j < len2) = true := by simpa using g2
            have g3 : ¬ j < 3 := fun h => hgo ⟨g1, g2, h⟩
            have e3 : decide ((j : Int) < 3) = false := by simp; omega
            clear hgo
            go_wp2_with fail
            go_meet
            case rel => exact ⟨rfl, rfl⟩
          · have e2 : decide (j < len2) = false := by simpa using g2
            clear hgo
            go_wp2_with fail
            go_meet
            case rel => exact ⟨rfl, rfl⟩
        · have e1 : decide (j < len1) = false := by simpa using g1
          clear hgo
          go_wp2_with fail
          go_meet
          case rel => exact ⟨rfl, rfl⟩
      case rest =>
        obtain ⟨rfl, hwx⟩ := hcut
        subst hwx
        clear hgo
        go_upto_if 68 with fail
        go_cut [14] (fun s14 wx => (∃ m cp, s14 = .slice (some ⟨gd, 0, none⟩) m cp ∧ m ≤ c ∧ Dd wc gd m cp) ∧ wx = wc)
        case first =>
          by_cases h3 : a3.tmod 3 = 1
          · obtain ⟨td1, td2, td3⟩ := tdiv_wf a3 3 (by decide) W3.out
            have TD := Lib.hid td1
            have hq : wrap64 (a3.tdiv 3) = a3.tdiv 3 := IntWalk.wrap64_in _ ⟨td2, td3⟩
            clear td1 td2 td3
            obtain ⟨m, hm⟩ : ∃ m, m = (a3.tdiv 3 % (c + 1 : Nat)).toNat := ⟨_, rfl⟩
            have hmc : m < c + 1 := by rw [hm]; exact within_lt _ (c + 1) (by omega)
            have HM := Lib.hid hm; clear hm
            have hcap : c ≤ capd := by obtain ⟨C, -, -, a, -⟩ := HDJ.out; exact a
            go_wp2_with fail
            refine (w6_int (a3.tdiv 3) _ (c + 1) _ (by omega) (by omega) (by omega) TD.out).mono ?_
            rintro x w5 ⟨rfl, rfl⟩
            rw [← HM.out]
            go_wp2_with fail
            go_meet
            case rel => exact ⟨⟨m, capd, rfl, by omega, HDJ.out.front m (by omega)⟩, rfl⟩
          · go_wp2_with fail
            go_meet
            case rel => exact ⟨⟨c, capd, rfl, Nat.le_refl _, HDJ.out⟩, rfl⟩
        case rest =>
          obtain ⟨⟨m, cp, rfl, hmc, hdd⟩, hwc⟩ := hcut
          subst hwc
          obtain ⟨sD, hsz, hcvD⟩ := hdd.conv
          have HCVD := Lib.hid hcvD
          have hkl := within_lt a3 (T.size + 1) (by omega)
          have HW3 := Lib.hid (fun wx => w6_int a3 ((T.size : Int) + 1) (T.size + 1) wx (by omega) (by omega) (by omega) W3.out)
          obtain ⟨k, hk⟩ : ∃ k, k = (a3 % ((T.size + 1 : Nat) : Int)).toNat := ⟨_, rfl⟩
          rw [← hk] at HW3 hkl
          clear hk hdd hcvD
          go_wp2_with fail
          (with_reducible refine (HW3.out _).mono ?_)
          rintro e w4 ⟨rfl, rfl⟩
          go_upto_region 15 with fail
          have hjw := within_lt a4 12 (by decide)
          have HW4 := Lib.hid (fun wx => w6_int a4 12 12 wx rfl (by decide) (by decide) W4.out)
          obtain ⟨jw, hj⟩ : ∃ j, j = (a4 % ((12 : Nat) : Int)).toNat := ⟨_, rfl⟩
          rw [← hj] at HW4 hjw
          clear hj
          have hxs := rwL_size jw hjw
          have hxc : (wc.alloc (.cells #[.string { data := #[32, 123, 32] }, .string { data := #[32, 125, 32] }, .string { data := #[32, 59, 32] }, .string { data := #[32, 114, 101, 113, 117, 105, 114, 101, 100, 32] }, .string { data := #[32, 103, 114, 111, 117, 112, 32] }, .string { data := #[32, 105, 110, 116, 51, 50, 32] }, .string { data := #[32, 120, 32] }, .string { data := #[32, 111, 112, 116, 105, 111, 110, 97, 108, 32, 98, 111, 111, 108, 32, 113, 59, 32] }, .string { data := #[32, 65, 32] }, .string { data := #[32, 195, 169, 32] }, .string { data := #[95] }, .string { data := #[32, 109, 101, 115, 115, 97, 103, 101, 32, 109, 32, 123, 32] }] 9)).cell? ⟨wc.heap.size, jw, none⟩ = some (.string (rwL.getD jw ByteArray.empty)) := lit_cell (l := rwL) rfl hjw rfl rfl
          obtain ⟨x, hx⟩ : ∃ x, x = rwL.getD jw ByteArray.empty := ⟨_, rfl⟩
          rw [← hx] at hxs hxc
          have HXC := Lib.hid hxc
          have HCV := Lib.hid (fun wx (h : Chg [] (wc.alloc (.cells #[.string { data := #[32, 123, 32] }, .string { data := #[32, 125, 32] }, .string { data := #[32, 59, 32] }, .string { data := #[32, 114, 101, 113, 117, 105, 114, 101, 100, 32] }, .string { data := #[32, 103, 114, 111, 117, 112, 32] }, .string { data := #[32, 105, 110, 116, 51, 50, 32] }, .string { data := #[32, 120, 32] }, .string { data := #[32, 111, 112, 116, 105, 111, 110, 97, 108, 32, 98, 111, 111, 108, 32, 113, 59, 32] }, .string { data := #[32, 65, 32] }, .string { data := #[32, 195, 169, 32] }, .string { data := #[95] }, .string { data := #[32, 109, 101, 115, 115, 97, 103, 101, 32, 109, 32, 123, 32] }] 9)) wx) => HCVD.out wx (((Chg.refl [] wc).alloc _).trans h (by simp)))
          have HC5 := Lib.hid (HCJ.out.alloc (.cells #[.string { data := #[32, 123, 32] }, .string { data := #[32, 125, 32] }, .string { data := #[32, 59, 32] }, .string { data := #[32, 114, 101, 113, 117, 105, 114, 101, 100, 32] }, .string { data := #[32, 103, 114, 111, 117, 112, 32] }, .string { data := #[32, 105, 110, 116, 51, 50, 32] }, .string { data := #[32, 120, 32] }, .string { data := #[32, 111, 112, 116, 105, 111, 110, 97, 108, 32, 98, 111, 111, 108, 32, 113, 59, 32] }, .string { data := #[32, 65, 32] }, .string { data := #[32, 195, 169, 32] }, .string { data := #[95] }, .string { data := #[32, 109, 101, 115, 115, 97, 103, 101, 32, 109, 32, 123, 32] }] 9))
          generalize (wc.alloc (.cells #[.string { data := #[32, 123, 32] }, .string { data := #[32, 125, 32] }, .string { data := #[32, 59, 32] }, .string { data := #[32, 114, 101, 113, 117, 105, 114, 101, 100, 32] }, .string { data := #[32, 103, 114, 111, 117, 112, 32] }, .string { data := #[32, 105, 110, 116, 51, 50, 32] }, .string { data := #[32, 120, 32] }, .string { data := #[32, 111, 112, 116, 105, 111, 110, 97, 108, 32, 98, 111, 111, 108, 32, 113, 59, 32] }, .string { data := #[32, 65, 32] }, .string { data := #[32, 195, 169, 32] }, .string { data := #[95] }, .string { data := #[32, 109, 101, 115, 115, 97, 103, 101, 32, 109, 32, 123, 32] }] 9)) = W5 at hxc HXC HCV HC5 ⊢
          generalize wc.heap.size = gw at hxc HXC ⊢
          clear hxc hx
          have y1 : ¬ 9223372036854775807 < k + x.size := by omega
          have y2 : ¬ 9223372036854775807 < k + x.size + (T.size - k) := by omega
          have y3 : ¬ 9223372036854775807 < T.size + T.size := by omega
          have hkT : k ≤ T.size := by omega
          refine wp_region_any (by kernel_rfl) ?_
          change wpAny _ _ _ _ _ _ _ (World.drew _)
          refine wpAny_inv (JIR15 a0 len0 cap0 a1 len1 cap1 a2 len2 cap2 a3 a4 a5 T sD x gd m cp gw k jw W5) ?hs (fun listed a' w' hI hr => ?hq) _ _ _ _ ?h0 ?hcnt
          case hcnt => exact count_rep _
          case h0 => exact JIR15_start rfl ((Chg.refl [] W5).drew)
          case hs =>
            intro listed a' w' hI ii hi hr
            obtain ⟨b, base, u, g1, rfl, rfl, R⟩ := hI
            have hcs := ltR15 ii hi
            clear hi
            unfold FRR15
            rcases hcs with rfl | rfl | rfl | rfl | rfl | rfl | rfl | rfl | rfl | rfl | rfl | rfl | rfl | rfl | rfl | rfl | rfl | rfl | rfl | rfl | rfl | rfl | rfl
            · have hrd := ready_at rfl hr
              clear hr
              simp [Region.binds] at hrd
              clear hrd
              refine wpOp_step rfl (fun K hK => ?_)
              go_simp
              refine hK _ _ ?_
              exact ⟨upd b 0 true, base, (upd u 83 (.slice (some ⟨gd, 0, none⟩) m cp)), g1, rfl, rfl, ⟨(fun _ => rfl), R.c1, R.c2, R.c3, R.c4, R.c5, R.c6, R.c7, R.c8, R.c9, R.c10, R.c11, R.c12, R.c13, R.c14, R.c15, R.c16, R.c17, R.c18, R.c19, R.c20, R.c21, R.c22, R.cg, R.m21, R.z22_21⟩⟩
            · have hrd := ready_at rfl hr
              clear hr
              simp [Region.binds] at hrd
              have h0 : b 0 = true := by simp [hrd]
              have e0 := R.c0 h0
              clear hrd
              have hcv := HCV.out w' R.cg
              refine wpOp_step rfl (fun K hK => ?_)
              go_simp
              refine hK _ _ ?_
              exact ⟨upd b 1 true, base, (upd (upd u 83 (.slice (some ⟨gd, 0, none⟩) m cp)) 84 (.string sD)), g1, rfl, rfl, ⟨(fun _ => rfl), (fun _ => rfl), R.c2, R.c3, R.c4, R.c5, R.c6, R.c7, R.c8, R.c9, R.c10, R.c11, R.c12, R.c13, R.c14, R.c15, R.c16, R.c17, R.c18, R.c19, R.c20, R.c21, R.c22, R.cg, R.m21, R.z22_21⟩⟩
            · have hrd := ready_at rfl hr
              clear hr
              simp [Region.binds] at hrd
              clear hrd
              refine wpOp_step rfl (fun K hK => ?_)
              go_simp
              refine hK _ _ ?_
              exact ⟨upd b 2 true, base, (upd u 85 (.string T)), g1, rfl, rfl, ⟨R.c0, R.c1, (fun _ => rfl), R.c3, R.c4, R.c5, R.c6, R.c7, R.c8, R.c9, R.c10, R.c11, R.c12, R.c13, R.c14, R.c15, R.c16, R.c17, R.c18, R.c19, R.c20, R.c21, R.c22, R.cg, R.m21, R.z22_21⟩⟩
            · have hrd := ready_at rfl hr
              clear hr
              simp [Region.binds] at hrd
              clear hrd
              refine wpOp_step rfl (fun K hK => ?_)
              go_simp
              refine hK _ _ ?_
              exact ⟨upd b 3 true, base, (upd u 86 (.int .i64 (k : Int))), g1, rfl, rfl, ⟨R.c0, R.c1, R.c2, (fun _ => rfl), R.c4, R.c5, R.c6, R.c7, R.c8, R.c9, R.c10, R.c11, R.c12, R.c13, R.c14, R.c15, R.c16, R.c17, R.c18, R.c19, R.c20, R.c21, R.c22, R.cg, R.m21, R.z22_21⟩⟩
            · have hrd := ready_at rfl hr
              clear hr
              simp [Region.binds] at hrd
              have h2 : b 2 = true := by simp [hrd]
              have e2 := R.c2 h2
              have h3 : b 3 = true := by simp [hrd]
              have e3 := R.c3 h3
              clear hrd
              refine wpOp_step rfl (fun K hK => ?_)
              go_simp
              refine hK _ _ ?_
              exact ⟨upd b 4 true, base, (upd (upd (upd u 85 (.string T)) 86 (.int .i64 (k : Int))) 87 (.string (T.extract 0 k))), g1, rfl, rfl, ⟨R.c0, R.c1, (fun _ => rfl), (fun _ => rfl), (fun _ => rfl), R.c5, R.c6, R.c7, R.c8, R.c9, R.c10, R.c11, R.c12, R.c13, R.c14, R.c15, R.c16, R.c17, R.c18, R.c19, R.c20, R.c21, R.c22, R.cg, R.m21, R.z22_21⟩⟩
            · have hrd := ready_at rfl hr
              clear hr
              simp [Region.binds] at hrd
              clear hrd
              refine wpOp_step rfl (fun K hK => ?_)
              go_simp
              refine hK _ _ ?_
              exact ⟨upd b 5 true, base, (upd u 88 (.slice (some ⟨gw, 0, none⟩) 12 12)), g1, rfl, rfl, ⟨R.c0, R.c1, R.c2, R.c3, R.c4, (fun _ => rfl), R.c6, R.c7, R.c8, R.c9, R.c10, R.c11, R.c12, R.c13, R.c14, R.c15, R.c16, R.c17, R.c18, R.c19, R.c20, R.c21, R.c22, R.cg, R.m21, R.z22_21⟩⟩
            · have hrd := ready_at rfl hr
              clear hr
              simp [Region.binds] at hrd
              clear hrd
              refine wpOp_step rfl (fun K hK => ?_)
              go_simp
              refine hK _ _ ?_
              exact ⟨upd b 6 true, base, (upd u 89 (.int .i64 a4)), g1, rfl, rfl, ⟨R.c0, R.c1, R.c2, R.c3, R.c4, R.c5, (fun _ => rfl), R.c7, R.c8, R.c9, R.c10, R.c11, R.c12, R.c13, R.c14, R.c15, R.c16, R.c17, R.c18, R.c19, R.c20, R.c21, R.c22, R.cg, R.m21, R.z22_21⟩⟩
            · have hrd := ready_at rfl hr
              clear hr
              simp [Region.binds] at hrd
              clear hrd
              refine wpOp_step rfl (fun K hK => ?_)
              go_simp
              refine hK _ _ ?_
              exact ⟨upd b 7 true, base, (upd u 90 (.slice (some ⟨gw, 0, none⟩) 12 12)), g1, rfl, rfl, ⟨R.c0, R.c1, R.c2, R.c3, R.c4, R.c5, R.c6, (fun _ => rfl), R.c8, R.c9, R.c10, R.c11, R.c12, R.c13, R.c14, R.c15, R.c16, R.c17, R.c18, R.c19, R.c20, R.c21, R.c22, R.cg, R.m21, R.z22_21⟩⟩
            · have hrd := ready_at rfl hr
              clear hr
              simp [Region.binds] at hrd
              have h7 : b 7 = true := by simp [hrd]
              have e7 := R.c7 h7
              clear hrd
              refine wpOp_step rfl (fun K hK => ?_)
              go_simp
              refine hK _ _ ?_
              exact ⟨upd b 8 true, base, (upd (upd u 90 (.slice (some ⟨gw, 0, none⟩) 12 12)) 91 (.int .i64 12)), g1, rfl, rfl, ⟨R.c0, R.c1, R.c2, R.c3, R.c4, R.c5, R.c6, (fun _ => rfl), (fun _ => rfl), R.c9, R.c10, R.c11, R.c12, R.c13, R.c14, R.c15, R.c16, R.c17, R.c18, R.c19, R.c20, R.c21, R.c22, R.cg, R.m21, R.z22_21⟩⟩
            · have hrd := ready_at rfl hr
              clear hr
              simp [Region.binds] at hrd
              have h6 : b 6 = true := by simp [hrd]
              have e6 := R.c6 h6
              have h8 : b 8 = true := by simp [hrd]
              have e8 := R.c8 h8
              clear hrd
              refine wpOp_step rfl (fun K hK => ?_)
              go_simp
              go_at_call 22
              (with_reducible refine (HW4.out w').mono ?_)
              rintro e w4 ⟨rfl, rfl⟩
              refine hK _ _ ?_
              exact ⟨upd b 9 true, base, (upd (upd (upd u 89 (.int .i64 a4)) 91 (.int .i64 12)) 92 (.int .i64 (jw : Int))), g1, rfl, rfl, ⟨R.c0, R.c1, R.c2, R.c3, R.c4, R.c5, (fun _ => rfl), R.c7, (fun _ => rfl), (fun _ => rfl), R.c10, R.c11, R.c12, R.c13, R.c14, R.c15, R.c16, R.c17, R.c18, R.c19, R.c20, R.c21, R.c22, R.cg, R.m21, R.z22_21⟩⟩
            · have hrd := ready_at rfl hr
              clear hr
              simp [Region.binds] at hrd
              have h5 : b 5 = true := by simp [hrd]
              have e5 := R.c5 h5
              have h9 : b 9 = true := by simp [hrd]
              have e9 := R.c9 h9
              clear hrd
              have q1 : ¬ ((jw : Int) < 0) := by omega
              have q2 : ((jw : Int) < 12) := by omega
              have q3 : (jw : Int).toNat = jw := by omega
              refine wpOp_step rfl (fun K hK => ?_)
              go_simp
              refine hK _ _ ?_
              exact ⟨upd b 10 true, base, (upd (upd (upd u 88 (.slice (some ⟨gw, 0, none⟩) 12 12)) 92 (.int .i64 (jw : Int))) 93 (.pointer (some ⟨gw, jw, none⟩))), g1, rfl, rfl, ⟨R.c0, R.c1, R.c2, R.c3, R.c4, (fun _ => rfl), R.c6, R.c7, R.c8, (fun _ => rfl), (fun _ => rfl), R.c11, R.c12, R.c13, R.c14, R.c15, R.c16, R.c17, R.c18, R.c19, R.c20, R.c21, R.c22, R.cg, R.m21, R.z22_21⟩⟩
            · have hrd := ready_at rfl hr
              clear hr
              simp [Region.binds] at hrd
              have h10 : b 10 = true := by simp [hrd]
              have e10 := R.c10 h10
              clear hrd
              have hld := R.cg.cell HXC.out (by simp)
              refine wpOp_step rfl (fun K hK => ?_)
              go_simp
              refine hK _ _ ?_
              exact ⟨upd b 11 true, base, (upd (upd u 93 (.pointer (some ⟨gw, jw, none⟩))) 94 (.string x)), g1, rfl, rfl, ⟨R.c0, R.c1, R.c2, R.c3, R.c4, R.c5, R.c6, R.c7, R.c8, R.c9, (fun _ => rfl), (fun _ => rfl), R.c12, R.c13, R.c14, R.c15, R.c16, R.c17, R.c18, R.c19, R.c20, R.c21, R.c22, R.cg, R.m21, R.z22_21⟩⟩
            · have hrd := ready_at rfl hr
              clear hr
              simp [Region.binds] at hrd
              have h4 : b 4 = true := by simp [hrd]
              have e4 := R.c4 h4
              have h11 : b 11 = true := by simp [hrd]
              have e11 := R.c11 h11
              clear hrd
              refine wpOp_step rfl (fun K hK => ?_)
              go_simp
              refine hK _ _ ?_
              exact ⟨upd b 12 true, base, (upd (upd (upd u 87 (.string (T.extract 0 k))) 94 (.string x)) 95 (.string (T.extract 0 k ++ x))), g1, rfl, rfl, ⟨R.c0, R.c1, R.c2, R.c3, (fun _ => rfl), R.c5, R.c6, R.c7, R.c8, R.c9, R.c10, (fun _ => rfl), (fun _ => rfl), R.c13, R.c14, R.c15, R.c16, R.c17, R.c18, R.c19, R.c20, R.c21, R.c22, R.cg, R.m21, R.z22_21⟩⟩
            · have hrd := ready_at rfl hr
              clear hr
              simp [Region.binds] at hrd
              clear hrd
              refine wpOp_step rfl (fun K hK => ?_)
              go_simp
              refine hK _ _ ?_
              exact ⟨upd b 13 true, base, (upd u 96 (.string T)), g1, rfl, rfl, ⟨R.c0, R.c1, R.c2, R.c3, R.c4, R.c5, R.c6, R.c7, R.c8, R.c9, R.c10, R.c11, R.c12, (fun _ => rfl), R.c14, R.c15, R.c16, R.c17, R.c18, R.c19, R.c20, R.c21, R.c22, R.cg, R.m21, R.z22_21⟩⟩
            · have hrd := ready_at rfl hr
              clear hr
              simp [Region.binds] at hrd
              clear hrd
              refine wpOp_step rfl (fun K hK => ?_)
              go_simp
              refine hK _ _ ?_
              exact ⟨upd b 14 true, base, (upd u 97 (.int .i64 (k : Int))), g1, rfl, rfl, ⟨R.c0, R.c1, R.c2, R.c3, R.c4, R.c5, R.c6, R.c7, R.c8, R.c9, R.c10, R.c11, R.c12, R.c13, (fun _ => rfl), R.c15, R.c16, R.c17, R.c18, R.c19, R.c20, R.c21, R.c22, R.cg, R.m21, R.z22_21⟩⟩
            · have hrd := ready_at rfl hr
              clear hr
              simp [Region.binds] at hrd
              have h13 : b 13 = true := by simp [hrd]
              have e13 := R.c13 h13
              have h14 : b 14 = true := by simp [hrd]
              have e14 := R.c14 h14
              clear hrd
              refine wpOp_step rfl (fun K hK => ?_)
              go_simp
              refine hK _ _ ?_
              exact ⟨upd b 15 true, base, (upd (upd (upd u 96 (.string T)) 97 (.int .i64 (k : Int))) 98 (.string (T.extract k T.size))), g1, rfl, rfl, ⟨R.c0, R.c1, R.c2, R.c3, R.c4, R.c5, R.c6, R.c7, R.c8, R.c9, R.c10, R.c11, R.c12, (fun _ => rfl), (fun _ => rfl), (fun _ => rfl), R.c16, R.c17, R.c18, R.c19, R.c20, R.c21, R.c22, R.cg, R.m21, R.z22_21⟩⟩
            · have hrd := ready_at rfl hr
              clear hr
              simp [Region.binds] at hrd
              have h12 : b 12 = true := by simp [hrd]
              have e12 := R.c12 h12
              have h15 : b 15 = true := by simp [hrd]
              have e15 := R.c15 h15
              clear hrd
              refine wpOp_step rfl (fun K hK => ?_)
              go_simp
              refine hK _ _ ?_
              exact ⟨upd b 16 true, base, (upd (upd (upd u 95 (.string (T.extract 0 k ++ x))) 98 (.string (T.extract k T.size))) 99 (.string (T.extract 0 k ++ x ++ T.extract k T.size))), g1, rfl, rfl, ⟨R.c0, R.c1, R.c2, R.c3, R.c4, R.c5, R.c6, R.c7, R.c8, R.c9, R.c10, R.c11, (fun _ => rfl), R.c13, R.c14, (fun _ => rfl), (fun _ => rfl), R.c17, R.c18, R.c19, R.c20, R.c21, R.c22, R.cg, R.m21, R.z22_21⟩⟩
            · have hrd := ready_at rfl hr
              clear hr
              simp [Region.binds] at hrd
              clear hrd
              refine wpOp_step rfl (fun K hK => ?_)
              go_simp
              refine hK _ _ ?_
              exact ⟨upd b 17 true, base, (upd u 100 (.string a5)), g1, rfl, rfl, ⟨R.c0, R.c1, R.c2, R.c3, R.c4, R.c5, R.c6, R.c7, R.c8, R.c9, R.c10, R.c11, R.c12, R.c13, R.c14, R.c15, R.c16, (fun _ => rfl), R.c18, R.c19, R.c20, R.c21, R.c22, R.cg, R.m21, R.z22_21⟩⟩
            · have hrd := ready_at rfl hr
              clear hr
              simp [Region.binds] at hrd
              clear hrd
              refine wpOp_step rfl (fun K hK => ?_)
              go_simp
              refine hK _ _ ?_
              exact ⟨upd b 18 true, base, (upd u 101 (.string T)), g1, rfl, rfl, ⟨R.c0, R.c1, R.c2, R.c3, R.c4, R.c5, R.c6, R.c7, R.c8, R.c9, R.c10, R.c11, R.c12, R.c13, R.c14, R.c15, R.c16, R.c17, (fun _ => rfl), R.c19, R.c20, R.c21, R.c22, R.cg, R.m21, R.z22_21⟩⟩
            · have hrd := ready_at rfl hr
              clear hr
              simp [Region.binds] at hrd
              clear hrd
              refine wpOp_step rfl (fun K hK => ?_)
              go_simp
              refine hK _ _ ?_
              exact ⟨upd b 19 true, base, (upd u 102 (.string T)), g1, rfl, rfl, ⟨R.c0, R.c1, R.c2, R.c3, R.c4, R.c5, R.c6, R.c7, R.c8, R.c9, R.c10, R.c11, R.c12, R.c13, R.c14, R.c15, R.c16, R.c17, R.c18, (fun _ => rfl), R.c20, R.c21, R.c22, R.cg, R.m21, R.z22_21⟩⟩
            · have hrd := ready_at rfl hr
              clear hr
              simp [Region.binds] at hrd
              have h18 : b 18 = true := by simp [hrd]
              have e18 := R.c18 h18
              have h19 : b 19 = true := by simp [hrd]
              have e19 := R.c19 h19
              clear hrd
              refine wpOp_step rfl (fun K hK => ?_)
              go_simp
              refine hK _ _ ?_
              exact ⟨upd b 20 true, base, (upd (upd (upd u 101 (.string T)) 102 (.string T)) 103 (.string (T ++ T))), g1, rfl, rfl, ⟨R.c0, R.c1, R.c2, R.c3, R.c4, R.c5, R.c6, R.c7, R.c8, R.c9, R.c10, R.c11, R.c12, R.c13, R.c14, R.c15, R.c16, R.c17, (fun _ => rfl), (fun _ => rfl), (fun _ => rfl), R.c21, R.c22, R.cg, R.m21, R.z22_21⟩⟩
            · have hrd := ready_at rfl hr
              clear hr
              simp [Region.binds] at hrd
              have h1 : b 1 = true := by simp [hrd]
              have e1 := R.c1 h1
              have h16 : b 16 = true := by simp [hrd]
              have e16 := R.c16 h16
              have h17 : b 17 = true := by simp [hrd]
              have e17 := R.c17 h17
              have h20 : b 20 = true := by simp [hrd]
              have e20 := R.c20 h20
              have hb21 : b 21 = false := by simp [hrd]
              clear hrd
              refine wpOp_step rfl (fun K hK => ?_)
              go_simp
              refine hK _ _ ?_
              exact ⟨upd b 21 true, base, (upd (upd (upd (upd (upd u 84 (.string sD)) 99 (.string (T.extract 0 k ++ x ++ T.extract k T.size))) 100 (.string a5)) 103 (.string (T ++ T))) 104 (.slice (some ⟨w'.heap.size, 0, none⟩) 4 4)), w'.heap.size, rfl, rfl, ⟨R.c0, (fun _ => rfl), R.c2, R.c3, R.c4, R.c5, R.c6, R.c7, R.c8, R.c9, R.c10, R.c11, R.c12, R.c13, R.c14, R.c15, (fun _ => rfl), (fun _ => rfl), R.c18, R.c19, (fun _ => rfl), (fun _ => rfl), (fun h => absurd (R.z22_21 h) (by rw [hb21]; decide)), (R.cg.alloc _), (fun _ => ⟨hl_new rfl, R.cg.size⟩), (fun _ => rfl)⟩⟩
            · have hrd := ready_at rfl hr
              clear hr
              simp [Region.binds] at hrd
              have h21 : b 21 = true := by simp [hrd]
              have e21 := R.c21 h21
              clear hrd
              refine wpOp_step rfl (fun K hK => ?_)
              go_simp
              refine hK _ _ ?_
              exact ⟨upd b 22 true, base, (upd (upd u 104 (.slice (some ⟨g1, 0, none⟩) 4 4)) 18 (.slice (some ⟨g1, 0, none⟩) 4 4)), g1, rfl, rfl, ⟨R.c0, R.c1, R.c2, R.c3, R.c4, R.c5, R.c6, R.c7, R.c8, R.c9, R.c10, R.c11, R.c12, R.c13, R.c14, R.c15, R.c16, R.c17, R.c18, R.c19, R.c20, (fun _ => rfl), (fun _ => rfl), R.cg, R.m21, (fun _ => h21)⟩⟩
          obtain ⟨b, base, u, g1, rfl, rfl, R⟩ := hI
          have hall := ready_all2 hr rfl (by kernel_rfl)
          have h22 : b 22 = true := Option.some.inj (hall 22 (by decide))
          have e22 := R.c22 h22
          have h21 : b 21 = true := Option.some.inj (hall 21 (by decide))
          have e21 := R.c21 h21
          have mm21 := Lib.hid (R.m21 h21)
          have HCG := Lib.hid R.cg
          unfold FRR15
          rw [e22, e21]
          clear e22 e21
          clear R hr hall h22 h21
          obtain ⟨rows, hrw⟩ : ∃ l : List ByteArray, l = [sD, T.extract 0 k ++ x ++ T.extract k T.size, a5, T ++ T] := ⟨_, rfl⟩
          have HRS := Lib.hid (show ∀ j, j < 4 → (rows.getD j ByteArray.empty).size ≤ 1000000 by
            intro j hj
            have hw : j = 0 ∨ j = 1 ∨ j = 2 ∨ j = 3 := by omega
            rw [hrw]
            rcases hw with rfl | rfl | rfl | rfl
            · show sD.size ≤ _; omega
            · show (T.extract 0 k ++ x ++ T.extract k T.size).size ≤ _
              rw [ByteArray.size_append, ByteArray.size_append, ByteArray.size_extract, ByteArray.size_extract]; omega
            · show a5.size ≤ _; omega
            · show (T ++ T).size ≤ _
              rw [ByteArray.size_append]; omega)
          have HRC := Lib.hid (show ∀ wx, Chg [] w' wx → ∀ j, j < 4 → wx.cell? ⟨g1, j, none⟩ = some (.string (rows.getD j ByteArray.empty)) from fun wx h j hj => lit_heap (l := rows) (h.heap mm21.out.1 (by simp)) (by rw [hrw]; rfl) (by rw [hrw]; exact hj) rfl)
          have HCW' := Lib.hid (HC5.out.trans HCG.out (by simp))
          clear hrw y1 y2 y3
          go_wp2
          go_loopw [19] (fun s19 wx => ∃ j : Nat, s19 = .int .i64 (j : Int) ∧ j ≤ 4 ∧ Chg [] w' wx) (fun s19 _ => 4 - (intOf s19).toNat)
          case atStart => exact ⟨0, rfl, by omega, Chg.refl _ _⟩
          case round =>
            obtain ⟨j, rfl, hj4, hcx⟩ := hrel
            have HCX := Lib.hid hcx
            clear hcx
            by_cases hjt : j < 4
            · have hcy := HRC.out _ HCX.out j hjt
              have hys := HRS.out j hjt
              have HCY := Lib.hid (fun wx (h : Chg [] w' wx) => HRC.out wx h j hjt)
              obtain ⟨y, hy⟩ : ∃ y, y = rows.getD j ByteArray.empty := ⟨_, rfl⟩
              rw [← hy] at hcy hys HCY
              clear hy
              have HPA := Lib.hid (fun wx => parse_any y wx (by omega))
              have HPB := Lib.hid (fun wx => rparse_any y wx (by omega))
              obtain ⟨R, hR⟩ : ∃ R, R = parseL (bl y) := ⟨_, rfl⟩
              rw [← hR] at HPA HPB
              obtain ⟨e, l⟩ := R
              clear hR
              go_wp2_with fail
              (with_reducible refine (HPA.out _).mono ?_)
              rintro en w6 ⟨hk6, hout6⟩
              have HC6 := Lib.hid (HCX.out.trans hk6 (by simp))
              have hcy6 := HCY.out _ HC6.out
              clear hk6 hcy
              have HO6 := Lib.hid hout6
              rcases hout6 with ⟨he, v, rfl, hown⟩ | ⟨he, rfl⟩
              · simp only at he hown
                subst he
                have hSx := SeenF.own hown rfl
                obtain ⟨xa, xc, rfl⟩ := own_shape hown
                have HSX := Lib.hid hSx
                clear hown hSx HO6
                go_wp2_with fail
                (with_reducible refine (HPB.out _).mono ?_)
                rintro en w7 ⟨hk7, hout7⟩
                rcases hout7 with ⟨-, v, rfl, hown⟩ | ⟨he, -⟩
                · have hSy := SeenF.own hown rfl
                  obtain ⟨ya, yc, rfl⟩ := own_shape hown
                  have HSY := Lib.hid hSy
                  have HSX7 := Lib.hid (HSX.out.keep hk7)
                  have HC7 := Lib.hid (HC6.out.trans hk7 (by simp))
                  clear hown hSy hk7 hcy6
                  obtain ⟨n, hn⟩ : ∃ n, n = l.length := ⟨_, rfl⟩
                  rw [← hn] at HSX7 HSY ⊢
                  clear hn
                  go_wp2_with fail
                  (with_reducible refine (rsame_any _ _ _ _ HSX7.out HSY.out).mono ?_)
                  rintro en w8 ⟨rfl, hk8⟩
                  have HC8 := Lib.hid (HC7.out.trans hk8 (by simp))
                  clear hk8
                  go_wp2
                  go_roundw
                  case rel => exact ⟨j + 1, by go_num, by omega, HC8.out⟩
                  case measure => simp [intOf]; omega
                · exact absurd rfl he
              · have he' : e ≠ 0 := he
                have HE := Lib.hid he'
                clear he he' HO6
                go_wp2_with fail
                (with_reducible refine (HPB.out _).mono ?_)
                rintro en w7 ⟨hk7, hout7⟩
                rcases hout7 with ⟨he, -⟩ | ⟨-, rfl⟩
                · exact absurd he HE.out
                · have HC7 := Lib.hid (HC6.out.trans hk7 (by simp))
                  clear hk7 hcy6
                  have q1 : ((e : Int) != e) = false := by simp
                  go_wp2_with fail
                  (with_reducible refine (rsame_any _ _ _ _ (SeenF.nil _) (SeenF.nil _)).mono ?_)
                  rintro en w8 ⟨rfl, hk8⟩
                  have HC8 := Lib.hid (HC7.out.trans hk8 (by simp))
                  clear hk8
                  go_wp2
                  go_roundw
                  case rel => exact ⟨j + 1, by go_num, by omega, HC8.out⟩
                  case measure => simp [intOf]; omega
            · go_wp2
              go_ret
              exact ⟨rfl, (HCW'.out.trans HCX.out (by simp)).below (Nat.le_refl _) (by simp)⟩

end Go.Proofs.Ytofnpcfclcfgfaa
