/- The walk of the statement TreeFirst. -/
import Derived.Test.YtamcpebnfckdmaaYd
import Derived.Deep.RegionHeld3
namespace Go.Proofs.Ytamcpebnfckdmaa
open Go.RowKit
set_option linter.unusedVariables false

def bx8 : ByteArray := { data := #[120] }
def fl8 : List F := [⟨bm8, 0, 0, 2⟩, ⟨ba8, 0, 1, 0⟩, ⟨bb8, 0, 1, 0⟩]
def tz8 : Tr := .mk 0 ByteArray.empty []
def bads : List (List Tr) := [[], [.mk 5 ByteArray.empty []], [.mk 0 bx8 []], [tz8, tz8]]
def wants : List Int := [13, 14, 13, 13]
set_option maxRecDepth 100000 in
theorem bads_fit : ∀ i, i < 4 → ∀ k, k < 4 → fitsT fl8 (.mk 0 ByteArray.empty [bads.getD i [], bads.getD k []]) = wants.getD i 0 ∧ fitsT fl8 (.mk 0 ByteArray.empty [[.mk 1 ByteArray.empty []], bads.getD k []]) = wants.getD k 0 := by decide +kernel

theorem heap_of_chg {w w' : World} {g : Nat} {o : Obj} (h : Chg [] w w') (hb : w.heap[g]? = some o) : w'.heap[g]? = some o := h.heap hb (by simp)

set_option maxRecDepth 100000 in
set_option maxHeartbeats 1000000 in
theorem walk_TreeFirst (a0 : Int) (a1 : Int) (w : World) (w0 : (Lit.int .i64 a0).wf = true) (w1 : (Lit.int .i64 a1).wf = true) :
    Calls Try.prog 12 #[.int .i64 a0, .int .i64 a1] w fun e w' => e = .returned (.bool true) ∧ Below w.heap.size w w' := by
  have HWR := Lib.hid (fun wx => w8_int a0 4 4 wx rfl (by decide) (by decide) w0)
  have HWM := Lib.hid (fun wx => w8_int a1 4 4 wx rfl (by decide) (by decide) w1)
  clear w0 w1
  obtain ⟨i, hr⟩ : ∃ r, r = (a0 % (4 : Nat)).toNat := ⟨_, rfl⟩
  obtain ⟨k, hm⟩ : ∃ m, m = (a1 % (4 : Nat)).toNat := ⟨_, rfl⟩
  have hi4 : i < 4 := by rw [hr]; exact within_lt a0 4 (by decide)
  have hk4 : k < 4 := by rw [hm]; exact within_lt a1 4 (by decide)
  rw [← hr] at HWR
  rw [← hm] at HWM
  clear hr hm
  go_enter Try.func12, Try.ntmps12
  go_wp2_with fail
  (with_reducible refine (known8_any _).mono ?_)
  rintro e w1 ⟨rfl, hk⟩
  have HK1 := Lib.hid hk
  clear hk
  obtain ⟨b, hb⟩ : ∃ b, b = w1.heap.size := ⟨_, rfl⟩
  obtain ⟨W, hW⟩ : ∃ W, W = ((((((w1.alloc (.cells #[.int .i64 5, .string { data := #[] }, .slice none 0 0] 30)).alloc (.cells #[.int .i64 0, .string { data := #[120] }, .slice none 0 0] 30)).alloc (.cells #[.int .i64 0, .string { data := #[] }, .slice none 0 0, .int .i64 0, .string { data := #[] }, .slice none 0 0] 30)).alloc (.cells #[.slice none 0 0, .slice (some ⟨w1.heap.size, 0, none⟩) 1 1, .slice (some ⟨w1.heap.size + 1, 0, none⟩) 1 1, .slice (some ⟨w1.heap.size + 2, 0, none⟩) 2 2] 59)).alloc (.cells #[.int .i64 13, .int .i64 14, .int .i64 13, .int .i64 13] 35)).alloc (.cells #[.string { data := #[109] }, .int .i64 0, .int .i64 0, .int .i64 2, .string { data := #[97] }, .int .i64 0, .int .i64 1, .int .i64 0, .string { data := #[98] }, .int .i64 0, .int .i64 1, .int .i64 0] 57)) := ⟨_, rfl⟩
  have C6 : Chg [] w1 W := by rw [hW]; exact ((((((Chg.refl [] w1).alloc _).alloc _).alloc _).alloc _).alloc _).alloc _
  have HC6 := Lib.hid (HK1.out.trans C6 (by simp))
  have hb1 : W.heap[b]? = some (.cells #[.int .i64 5, .string { data := #[] }, .slice none 0 0] 30) := by rw [hW, hb]; exact heap_of_chg ((((((Chg.refl [] _).alloc _).alloc _).alloc _).alloc _).alloc _) (heap_alloc_new w1 _)
  have hb2 : W.heap[b + 1]? = some (.cells #[.int .i64 0, .string { data := #[120] }, .slice none 0 0] 30) := by rw [hW, hb]; exact heap_of_chg (((((Chg.refl [] _).alloc _).alloc _).alloc _).alloc _) (by have := heap_alloc_new ((w1.alloc (.cells #[.int .i64 5, .string { data := #[] }, .slice none 0 0] 30))) (.cells #[.int .i64 0, .string { data := #[120] }, .slice none 0 0] 30); simpa using this)
  have hb3 : W.heap[b + 2]? = some (.cells #[.int .i64 0, .string { data := #[] }, .slice none 0 0, .int .i64 0, .string { data := #[] }, .slice none 0 0] 30) := by rw [hW, hb]; exact heap_of_chg ((((Chg.refl [] _).alloc _).alloc _).alloc _) (by have := heap_alloc_new (((w1.alloc (.cells #[.int .i64 5, .string { data := #[] }, .slice none 0 0] 30)).alloc (.cells #[.int .i64 0, .string { data := #[120] }, .slice none 0 0] 30))) (.cells #[.int .i64 0, .string { data := #[] }, .slice none 0 0, .int .i64 0, .string { data := #[] }, .slice none 0 0] 30); simpa using this)
  have hb4 : W.heap[b + 3]? = some (.cells #[.slice none 0 0, .slice (some ⟨w1.heap.size, 0, none⟩) 1 1, .slice (some ⟨w1.heap.size + 1, 0, none⟩) 1 1, .slice (some ⟨w1.heap.size + 2, 0, none⟩) 2 2] 59) := by rw [hW, hb]; exact heap_of_chg (((Chg.refl [] _).alloc _).alloc _) (by have := heap_alloc_new ((((w1.alloc (.cells #[.int .i64 5, .string { data := #[] }, .slice none 0 0] 30)).alloc (.cells #[.int .i64 0, .string { data := #[120] }, .slice none 0 0] 30)).alloc (.cells #[.int .i64 0, .string { data := #[] }, .slice none 0 0, .int .i64 0, .string { data := #[] }, .slice none 0 0] 30))) (.cells #[.slice none 0 0, .slice (some ⟨w1.heap.size, 0, none⟩) 1 1, .slice (some ⟨w1.heap.size + 1, 0, none⟩) 1 1, .slice (some ⟨w1.heap.size + 2, 0, none⟩) 2 2] 59); simpa using this)
  have hb5 : W.heap[b + 4]? = some (.cells #[.int .i64 13, .int .i64 14, .int .i64 13, .int .i64 13] 35) := by rw [hW, hb]; exact heap_of_chg ((Chg.refl [] _).alloc _) (by have := heap_alloc_new (((((w1.alloc (.cells #[.int .i64 5, .string { data := #[] }, .slice none 0 0] 30)).alloc (.cells #[.int .i64 0, .string { data := #[120] }, .slice none 0 0] 30)).alloc (.cells #[.int .i64 0, .string { data := #[] }, .slice none 0 0, .int .i64 0, .string { data := #[] }, .slice none 0 0] 30)).alloc (.cells #[.slice none 0 0, .slice (some ⟨w1.heap.size, 0, none⟩) 1 1, .slice (some ⟨w1.heap.size + 1, 0, none⟩) 1 1, .slice (some ⟨w1.heap.size + 2, 0, none⟩) 2 2] 59))) (.cells #[.int .i64 13, .int .i64 14, .int .i64 13, .int .i64 13] 35); simpa using this)
  have hb6 : W.heap[b + 5]? = some (.cells #[.string { data := #[109] }, .int .i64 0, .int .i64 0, .int .i64 2, .string { data := #[97] }, .int .i64 0, .int .i64 1, .int .i64 0, .string { data := #[98] }, .int .i64 0, .int .i64 1, .int .i64 0] 57) := by rw [hW, hb]; have := heap_alloc_new ((((((w1.alloc (.cells #[.int .i64 5, .string { data := #[] }, .slice none 0 0] 30)).alloc (.cells #[.int .i64 0, .string { data := #[120] }, .slice none 0 0] 30)).alloc (.cells #[.int .i64 0, .string { data := #[] }, .slice none 0 0, .int .i64 0, .string { data := #[] }, .slice none 0 0] 30)).alloc (.cells #[.slice none 0 0, .slice (some ⟨w1.heap.size, 0, none⟩) 1 1, .slice (some ⟨w1.heap.size + 1, 0, none⟩) 1 1, .slice (some ⟨w1.heap.size + 2, 0, none⟩) 2 2] 59)).alloc (.cells #[.int .i64 13, .int .i64 14, .int .i64 13, .int .i64 13] 35))) (.cells #[.string { data := #[109] }, .int .i64 0, .int .i64 0, .int .i64 2, .string { data := #[97] }, .int .i64 0, .int .i64 1, .int .i64 0, .string { data := #[98] }, .int .i64 0, .int .i64 1, .int .i64 0] 57); simpa using this
  rw [← hb] at hb4
  have hWs : W.heap.size = b + 6 := by rw [hW, hb]; simp
  have hS : SeenF W (.slice (some ⟨b + 5, 0, none⟩) 3 3) fl8 := SeenF.blk hb6 fl8 3 rfl rfl (by decide)
  -- what stands at a place
  obtain ⟨vs, hvs⟩ : ∃ vs : List Value, vs = [.slice none 0 0, .slice (some ⟨b, 0, none⟩) 1 1, .slice (some ⟨b + 1, 0, none⟩) 1 1, .slice (some ⟨b + 2, 0, none⟩) 2 2] := ⟨_, rfl⟩
  have hat : ∀ j, j < 4 → ∃ lo n cap, W.cell? ⟨b + 3, j, none⟩ = some (.slice lo n cap) ∧ ListAt W 1 (bads.getD j []) (.slice lo n cap) := fun j hj => by
    have h4 : j = 0 ∨ j = 1 ∨ j = 2 ∨ j = 3 := by omega
    rcases h4 with rfl | rfl | rfl | rfl
    · exact ⟨none, 0, 0, by rw [cell_of_row W (b + 3) 0 _ _ _ hb4]; rfl, list_nil⟩
    · exact ⟨_, 1, 1, by rw [cell_of_row W (b + 3) 1 _ _ _ hb4]; rfl, listAt_lit hb1 [(.mk 5 ByteArray.empty [], nilS)] rfl rfl (by decide) (by intro p hp; simp at hp; subst hp; exact kids_nil)⟩
    · exact ⟨_, 1, 1, by rw [cell_of_row W (b + 3) 2 _ _ _ hb4]; rfl, listAt_lit hb2 [(.mk 0 bx8 [], nilS)] rfl rfl (by decide) (by intro p hp; simp at hp; subst hp; exact kids_nil)⟩
    · exact ⟨_, 2, 2, by rw [cell_of_row W (b + 3) 3 _ _ _ hb4]; rfl, listAt_lit hb3 [(tz8, nilS), (tz8, nilS)] rfl rfl (by decide) (by intro p hp; simp at hp; subst hp; exact kids_nil)⟩
  have hwt : ∀ j, j < 4 → W.cell? ⟨b + 4, j, none⟩ = some (.int .i64 (wants.getD j 0)) := fun j hj => by
    have h4 : j = 0 ∨ j = 1 ∨ j = 2 ∨ j = 3 := by omega
    rcases h4 with rfl | rfl | rfl | rfl <;> (rw [cell_of_row W (b + 4) _ _ _ _ hb5]; rfl)
  obtain ⟨lo, ln, lcap, c1, hL1⟩ := hat i hi4
  obtain ⟨lo2, ln2, lcap2, c2, hL2⟩ := hat k hk4
  have hfit := bads_fit i hi4 k hk4
  obtain ⟨B1, hB1⟩ : ∃ B, B = bads.getD i [] := ⟨_, rfl⟩
  obtain ⟨B2, hB2⟩ : ∃ B, B = bads.getD k [] := ⟨_, rfl⟩
  have c3 := hwt i hi4
  have c4 := hwt k hk4
  obtain ⟨u, hu⟩ : ∃ u, u = wants.getD i 0 := ⟨_, rfl⟩
  obtain ⟨v, hv⟩ : ∃ v, v = wants.getD k 0 := ⟨_, rfl⟩
  rw [← hB1] at hL1 hfit
  rw [← hB2] at hL2 hfit
  rw [← hu] at c3 hfit
  rw [← hv] at c4 hfit
  have HL1 := Lib.hid hL1; have HL2 := Lib.hid hL2; have HFIT := Lib.hid hfit; have HS := Lib.hid hS; have HW := Lib.hid hW; have HWS := Lib.hid hWs; have HB := Lib.hid hb
  have HCC := Lib.hid (And.intro c1 (And.intro c2 (And.intro c3 c4)))
  clear hb1 hb2 hb3 hb4 hb5 hb6 hvs hat hwt hL1 hL2 hfit hS hW hWs hb hB1 hB2 hu hv C6 c1 c2 c3 c4
  go_upto_region 7 with (first
    | (go_at_call 37; (with_reducible refine (HWR.out _).mono ?_); rintro e w2 ⟨rfl, rfl⟩)
    | (go_at_call 37; (with_reducible refine (HWM.out _).mono ?_); rintro e w2 ⟨rfl, rfl⟩)
    | fail)
  rw [← HW.out, ← HB.out]
  simp only [Nat.add_assoc, Nat.reduceAdd]
  obtain ⟨c1, c2, c3, c4⟩ := HCC.out
  have hi4' : (i : Int) < 4 := by omega
  have hk4' : (k : Int) < 4 := by omega
  have hi0 : (0 : Int) ≤ (i : Int) := by omega
  have hk0 : (0 : Int) ≤ (k : Int) := by omega
  have HF1 := Lib.hid (show Calls Try.prog 35 #[.slice (some ⟨b + 5, 0, none⟩) 3 3, tv 0 eS (.slice (some ⟨W.heap.size, 0, none⟩) 2 2)] (W.alloc (.cells #[.slice lo ln lcap, .slice lo2 ln2 lcap2] 59)).drew fun e w' => e = .returned (.int .i64 u) ∧ Chg [] (W.alloc (.cells #[.slice lo ln lcap, .slice lo2 ln2 lcap2] 59)).drew w' by
    have hk := ((Chg.refl [] W).alloc (.cells #[.slice lo ln lcap, .slice lo2 ln2 lcap2] 59)).drew
    have h := fits_mk _ (.slice (some ⟨W.heap.size, 0, none⟩) 2 2) fl8 0 ByteArray.empty [B1, B2] 2 _ (HS.out.keep hk) (kidsAt_lit (R := [(B1, .slice lo ln lcap), (B2, .slice lo2 ln2 lcap2)]) (show ((W.alloc (.cells #[.slice lo ln lcap, .slice lo2 ln2 lcap2] 59)).drew).heap[W.heap.size]? = some (.cells #[.slice lo ln lcap, .slice lo2 ln2 lcap2] 59) from heap_alloc_new W _) rfl rfl (by show 2 ≤ maxLen; decide) (by
      intro p hp
      simp at hp
      rcases hp with rfl | rfl
      · exact HL1.out.keep hk
      · exact HL2.out.keep hk)) (by decide) (by decide)
    rw [HFIT.out.1] at h
    exact h)
  have HPR := Lib.hid (And.intro c1 c2)
  clear c3 c4
  go_region_held3 (fun w' => w'.cell? ⟨b + 3, i, none⟩ = some (.slice lo ln lcap) ∧ w'.cell? ⟨b + 3, k, none⟩ = some (.slice lo2 ln2 lcap2)) (first | (exact HPR.out) | (exact HPR2.out) | (exact ⟨((Chg.refl [] W).alloc _).drew.cell HPR.out.1 (by simp), ((Chg.refl [] W).alloc _).drew.cell HPR.out.2 (by simp)⟩)) (first
    | (go_at_call 35; (with_reducible refine HF1.out.mono ?_); rintro e w3 ⟨rfl, hk3⟩; have HK3 := Lib.hid (((Chg.refl [] W).alloc _).drew.trans hk3 (by simp)); have HPR2 := Lib.hid (show w3.cell? ⟨b + 3, i, none⟩ = some (.slice lo ln lcap) ∧ w3.cell? ⟨b + 3, k, none⟩ = some (.slice lo2 ln2 lcap2) from ⟨HK3.out.cell HPR.out.1 (by simp), HK3.out.cell HPR.out.2 (by simp)⟩); clear hk3))
  have c2' : ∀ o, (w3.alloc o).cell? ⟨b + 3, k, none⟩ = some (.slice lo2 ln2 lcap2) := fun o => ((Chg.refl [] w3).alloc o).cell HPR2.out.2 (by simp)
  have HF2 := Lib.hid (show Calls Try.prog 35 #[.slice (some ⟨b + 5, 0, none⟩) 3 3, tv 0 eS (.slice (some ⟨w3.heap.size + 1, 0, none⟩) 2 2)] ((w3.alloc (.cells #[.int .i64 1, .string { data := #[] }, .slice none 0 0] 30)).alloc (.cells #[.slice (some ⟨w3.heap.size, 0, none⟩) 1 1, .slice lo2 ln2 lcap2] 59)) fun e w' => e = .returned (.int .i64 v) ∧ Chg [] ((w3.alloc (.cells #[.int .i64 1, .string { data := #[] }, .slice none 0 0] 30)).alloc (.cells #[.slice (some ⟨w3.heap.size, 0, none⟩) 1 1, .slice lo2 ln2 lcap2] 59)) w' by
    have hk := HK3.out.trans (((Chg.refl [] w3).alloc (.cells #[.int .i64 1, .string { data := #[] }, .slice none 0 0] 30)).alloc (.cells #[.slice (some ⟨w3.heap.size, 0, none⟩) 1 1, .slice lo2 ln2 lcap2] 59)) (by simp)
    have hq1 : ((w3.alloc (.cells #[.int .i64 1, .string { data := #[] }, .slice none 0 0] 30)).alloc (.cells #[.slice (some ⟨w3.heap.size, 0, none⟩) 1 1, .slice lo2 ln2 lcap2] 59)).heap[w3.heap.size]? = some (.cells #[.int .i64 1, .string { data := #[] }, .slice none 0 0] 30) := heap_of_chg ((Chg.refl [] _).alloc _) (heap_alloc_new w3 _)
    have hq2 : ((w3.alloc (.cells #[.int .i64 1, .string { data := #[] }, .slice none 0 0] 30)).alloc (.cells #[.slice (some ⟨w3.heap.size, 0, none⟩) 1 1, .slice lo2 ln2 lcap2] 59)).heap[w3.heap.size + 1]? = some (.cells #[.slice (some ⟨w3.heap.size, 0, none⟩) 1 1, .slice lo2 ln2 lcap2] 59) := by have := heap_alloc_new (w3.alloc (.cells #[.int .i64 1, .string { data := #[] }, .slice none 0 0] 30)) (.cells #[.slice (some ⟨w3.heap.size, 0, none⟩) 1 1, .slice lo2 ln2 lcap2] 59); simpa using this
    have h := fits_mk _ (.slice (some ⟨w3.heap.size + 1, 0, none⟩) 2 2) fl8 0 ByteArray.empty [[.mk 1 ByteArray.empty []], B2] 2 _ (HS.out.keep hk) (kidsAt_lit (R := [([.mk 1 ByteArray.empty []], .slice (some ⟨w3.heap.size, 0, none⟩) 1 1), (B2, .slice lo2 ln2 lcap2)]) hq2 rfl rfl (by show 2 ≤ maxLen; decide) (by
      intro p hp
      simp at hp
      rcases hp with rfl | rfl
      · exact listAt_lit hq1 [(.mk 1 ByteArray.empty [], nilS)] rfl rfl (by decide) (by intro p hp; simp at hp; subst hp; exact kids_nil)
      · exact HL2.out.keep hk)) (by decide) (by decide)
    rw [HFIT.out.2] at h
    exact h)
  have HK5 := Lib.hid (HK3.out.trans (((Chg.refl [] w3).alloc (.cells #[.int .i64 1, .string { data := #[] }, .slice none 0 0] 30)).alloc (.cells #[.slice (some ⟨w3.heap.size, 0, none⟩) 1 1, .slice lo2 ln2 lcap2] 59)) (by simp))
  clear c1 c2
  go_wp2_with fail
  (with_reducible refine HF2.out.mono ?_)
  rintro e w5 ⟨rfl, hk5⟩
  have HK6 := Lib.hid (HK5.out.trans hk5 (by simp))
  have c3 := HK6.out.cell HCC.out.2.2.1 (by simp)
  have c4 := HK6.out.cell HCC.out.2.2.2 (by simp)
  have e1 : (u == u) = true := by simp
  have e2 : (v == v) = true := by simp
  clear hk5 c2'
  go_wp2
  go_ret
  exact ⟨rfl, (HC6.out.trans HK6.out (by simp)).below (Nat.le_refl _) (by simp)⟩

end Go.Proofs.Ytamcpebnfckdmaa
