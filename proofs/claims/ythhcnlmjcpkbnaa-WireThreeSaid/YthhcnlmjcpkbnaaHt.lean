/- wire: Bytes. -/
import Derived.Test.YthhcnlmjcpkbnaaHs
import Derived.Test.YthhcnlmjcpkbnaaHl
import Derived.Test.YthhcnlmjcpkbnaaYd
namespace Go.Proofs.Ythhcnlmjcpkbnaa
open Go.RowKit
set_option linter.unusedVariables false
set_option linter.unusedSimpArgs false

/-- Records as bytes. -/
def wAll (fo : Fo) (L : List Tr) : List Nat := vb L.length ++ L.flatMap (fun t => wF fo t.k)

set_option maxRecDepth 100000 in
set_option maxHeartbeats 4000000 in
theorem bytes_any (sv lv : Value) (l : List F) (r0 : F) (fo : Fo) (L : List Tr) (d : Nat) (w : World) (hS : SeenF w sv l) (hl : l = r0 :: fo.flat) (hr1 : r0.k = 0) (hr2 : r0.r = 0) (hr3 : r0.c = fo.num) (hwf : fo.wf) (hn : l.length ≤ 1000) (hc : ∀ f ∈ l, f.c ≤ 9223372036854775807) (hnm : ∀ f ∈ l, f.n.size ≤ 1000)
    (hL : ListAt w d L lv) (hfit : ∀ t ∈ L, fitsT l t = 0) (hok : ∀ t ∈ L, okF fo t.k) (hb : (wAll fo L).length ≤ 100000000) :
    Calls Try.prog 45 #[sv, lv] w fun e w' => ∃ x, e = .returned x ∧ Made 5 .u8 (wAll fo L) w x w' := by
  have hfl : (fmS fo).length ≤ 100000 := by
    rw [← fmS_eq hr1 hr2]
    have h := (Fo.group r0 fo .nil).sg_le
    have h2 : (Fo.group r0 fo .nil).flat.length = l.length := by rw [hl]; simp [Fo.flat]
    omega
  have HFO := Lib.hid (show ∀ wx, Chg [] w wx → Calls Try.prog 76 #[sv] wx fun e w' => ∃ x, e = .returned x ∧ Made 21 .i32 (fmS fo) wx x w' from fun wx hk => by
    rw [← fmS_eq hr1 hr2]
    exact formOf_any _ l (.group r0 fo .nil) wx (hS.keep hk) (by rw [hl]; simp [Fo.flat]) ⟨hr1, hr3, hwf, trivial⟩ hn (by rw [fmS_eq hr1 hr2]; exact hfl))
  obtain ⟨lo, lc, rfl, hl1, hl2⟩ := hL.shape
  have HFT := Lib.hid (show ∀ (wx : World) (t : Tr) (kv : Value), Chg [] w wx → t ∈ L → KidsAt w d t.k kv → Calls Try.prog 37 #[sv, .agg #[.int .i64 t.n, .string t.s, kv]] wx fun e w' => e = .returned (.int .i64 0) ∧ Chg [] wx w' from fun wx t kv hk ht hkv => by
    have h := fits_any sv kv l t d wx (hS.keep hk) (hkv.keep hk) hc hnm
    rw [hfit t ht] at h
    exact h)
  have HWF := Lib.hid hwf; have HFL := Lib.hid hfl; have HOK := Lib.hid hok
  obtain ⟨n, hnn⟩ : ∃ n, n = L.length := ⟨_, rfl⟩
  have hbn : (vb n).length + (L.flatMap (fun t => wF fo t.k)).length ≤ 100000000 := by have := hb; unfold wAll at this; rw [List.length_append, ← hnn] at this; exact this
  have HBN := Lib.hid hbn
  have HE := Lib.hid (show wAll fo L = vb n ++ L.flatMap (fun t => wF fo t.k) by unfold wAll; rw [hnn])
  rw [← hnn] at hL hl1 ⊢
  have HL := Lib.hid hL; have HN := Lib.hid hnn
  unfold maxLen at hl2
  clear hS hl hr1 hr2 hr3 hwf hfl hn hc hnm hL hfit hok hb hbn hnn
  go_enter Try.func45, Try.ntmps45
  go_wp2
  go_loopw [10] (fun x w' => ∃ j : Nat, x = .int .i64 (j : Int) ∧ j ≤ n ∧ Chg [] w w') (fun x _ => n - (intOf x).toNat)
  case atStart => exact ⟨0, rfl, Nat.zero_le _, Chg.refl _ _⟩
  case round =>
    obtain ⟨j, rfl, hj, hcj⟩ := hrel
    have HC := Lib.hid hcj
    clear hcj
    by_cases hlt : j < n
    · have hd : decide ((j : Int) < (n : Int)) = true := by simp; omega
      obtain ⟨t, ht⟩ : ∃ t, L[j]? = some t := ⟨_, List.getElem?_eq_getElem (by rw [← HN.out]; exact hlt)⟩
      obtain ⟨gl, off, rfl, hcs⟩ := HL.out.get (by omega)
      obtain ⟨kv, c0, c1, c2, hk⟩ := hcs j t ht
      have b0 := HC.out.cell c0 (by simp)
      have b1 := HC.out.cell c1 (by simp)
      have b2 := HC.out.cell c2 (by simp)
      obtain ⟨ko, kc, rfl, -, -⟩ := hk.shape
      have HF := Lib.hid (HFT.out (wr.alloc (.cells #[.int .i64 t.n, .string t.s, .slice ko t.k.length kc] 30)) t _ (HC.out.alloc _) (List.mem_of_getElem? ht) hk)
      clear hcs c0 c1 c2 hk ht
      go_wp2_with fail
      (with_reducible refine HF.out.mono ?_)
      rintro e w2 ⟨rfl, hk2⟩
      have HC2 := Lib.hid ((HC.out.alloc _).trans hk2 (by simp))
      clear hk2
      go_wp2
      go_roundw
      case rel => exact ⟨j + 1, by go_num, hlt, HC2.out⟩
      case measure => simp [intOf]; omega
    · have hd : decide ((j : Int) < (n : Int)) = false := by simp; omega
      go_wp2_with fail
      (with_reducible refine (HFO.out _ HC.out).mono ?_)
      rintro e w1 ⟨fv, rfl, hk1, ho1⟩
      obtain ⟨fa, fc, rfl⟩ := own_shape ho1
      have hww : WW w1 (w1.alloc (.cells #[.slice fa (fmS fo).length fc, .slice none 0 0] 116)) w1.heap.size (w1.heap.size + 1) (.slice fa (fmS fo).length fc) (fmS fo) [] :=
        ⟨(reads_of_own ho1).seen, (Chg.refl [] w1).alloc _, Nat.le_refl _, Nat.lt_succ_self _, by simp, .slice none 0 0, heap_alloc_new w1 _, World.ownsRow_nil _ _ _ _⟩
      have HW := Lib.hid hww
      have HCN := Lib.hid (wcount_any n (by omega) hww (by decide))
      have HC1 := Lib.hid (HC.out.trans hk1 (by simp))
      have HLL := Lib.hid (HL.out.keep HC1.out)
      clear hk1 ho1 hww
      go_wp2_with fail
      (with_reducible refine HCN.out.mono ?_)
      rintro e w2 ⟨rfl, hw2⟩
      rw [List.nil_append] at hw2
      have HVV := Lib.hid (wvalues_any (wrecords HWF.out HFL.out d) w2 (vb n) L _ hw2 HLL.out HOK.out HBN.out)
      rw [show ((0 : Nat) : Int) = 0 from rfl] at HVV
      clear hw2
      go_wp2_with fail
      (with_reducible refine HVV.out.mono ?_)
      rintro e w3 ⟨rfl, hw3⟩
      rw [← HE.out] at hw3
      obtain ⟨bv, hb3, ho3⟩ := hw3.st
      obtain ⟨-, c1, -, -⟩ := cells2 hb3
      have HC3 := Lib.hid (HC1.out.trans hw3.c0 (by simp))
      have HO3 := Lib.hid ho3
      obtain ⟨ba, bc, rfl⟩ := own_shape ho3
      have HZ1 := Lib.hid HC1.out.size
      clear hw3 hb3 ho3
      go_wp2
      go_ret
      refine ⟨_, rfl, HC3.out, ?_⟩
      exact own_mono HO3.out (by have := HZ1.out; omega)

end Go.Proofs.Ythhcnlmjcpkbnaa
