/- WireThree. -/
import Derived.Test.YthhcnlmjcpkbnaaHu
namespace Go.Proofs.Ythhcnlmjcpkbnaa
open Go.RowKit
set_option linter.unusedVariables false
set_option linter.unusedSimpArgs false

theorem apart_three : t90 ≠ t91 ∧ t90 ≠ t92 ∧ t91 ≠ t92 := by
  refine ⟨?_, ?_, ?_⟩ <;> simp [t90, t91, t92]

set_option maxRecDepth 100000 in
set_option maxHeartbeats 4000000 in
theorem three_0 (a0 : Int) (w : World) (w0 : (Lit.int .i64 a0).wf = true) (hi : (a0 % ((3 : Nat) : Int)).toNat = 0) :
    Calls Try.prog 11 #[.int .i64 a0] w fun e w' => e = .returned (.bool true) ∧ Below w.heap.size w w' := by
  have HA := Lib.hid (fun wx => w9_int a0 3 3 wx rfl (by decide) (by decide) w0)
  rw [hi, show ((0 : Nat) : Int) = 0 from rfl] at HA
  clear hi w0
  go_enter Try.func11, Try.ntmps11
  go_wp2_with fail
  (with_reducible refine (known9_any _).mono ?_)
  rintro e wA ⟨rfl, hkA⟩
  have HKA := Lib.hid hkA
  clear hkA
  obtain ⟨b, hb⟩ : ∃ b, b = wA.heap.size := ⟨_, rfl⟩
  have HBB := Lib.hid hb
  obtain ⟨W3, hW3⟩ : ∃ W3, W3 = ((((((((((wA.alloc (.cells #[.string { data := #[109] }, .int .i64 0, .int .i64 0, .int .i64 1, .string { data := #[103] }, .int .i64 1, .int .i64 0, .int .i64 1, .string { data := #[116] }, .int .i64 1, .int .i64 4, .int .i64 0] 78)).alloc (.cells #[.slice none 0 0] 55)).alloc (.cells #[.slice none 0 0] 55)).alloc (.cells #[.int .i64 0, .string { data := #[] }, .slice (some ⟨wA.heap.size + 1 + 1, 0, none⟩) 1 1] 30)).alloc (.cells #[.slice (some ⟨wA.heap.size + 1 + 1 + 1, 0, none⟩) 1 1] 55)).alloc (.cells #[.int .i64 0, .string { data := #[] }, .slice none 0 0] 30)).alloc (.cells #[.slice (some ⟨wA.heap.size + 1 + 1 + 1 + 1 + 1, 0, none⟩) 1 1] 55)).alloc (.cells #[.int .i64 0, .string { data := #[] }, .slice (some ⟨wA.heap.size + 1 + 1 + 1 + 1 + 1 + 1, 0, none⟩) 1 1] 30)).alloc (.cells #[.slice (some ⟨wA.heap.size + 1 + 1 + 1 + 1 + 1 + 1 + 1, 0, none⟩) 1 1] 55)).alloc (.cells #[.int .i64 0, .string { data := #[] }, .slice (some ⟨wA.heap.size + 1, 0, none⟩) 1 1, .int .i64 0, .string { data := #[] }, .slice (some ⟨wA.heap.size + 1 + 1 + 1 + 1, 0, none⟩) 1 1, .int .i64 0, .string { data := #[] }, .slice (some ⟨wA.heap.size + 1 + 1 + 1 + 1 + 1 + 1 + 1 + 1, 0, none⟩) 1 1] 30)) := ⟨_, rfl⟩
  have HC3 := Lib.hid (show Chg [] w W3 by rw [hW3]; exact (((((((((HKA.out.alloc _).alloc _).alloc _).alloc _).alloc _).alloc _).alloc _).alloc _).alloc _).alloc _)
  have hb0 : W3.heap[b]? = some (.cells #[.string { data := #[109] }, .int .i64 0, .int .i64 0, .int .i64 1, .string { data := #[103] }, .int .i64 1, .int .i64 0, .int .i64 1, .string { data := #[116] }, .int .i64 1, .int .i64 4, .int .i64 0] 78 (0, 0)) := by rw [hW3, hb]; exact hl_old (hl_old (hl_old (hl_old (hl_old (hl_old (hl_old (hl_old (hl_old (hl_new (by try simp))))))))))
  have hb1 : W3.heap[b + 1]? = some (.cells #[.slice none 0 0] 55 (0, 0)) := by rw [hW3, hb]; exact hl_old (hl_old (hl_old (hl_old (hl_old (hl_old (hl_old (hl_old (hl_new (by try simp)))))))))
  have hb2 : W3.heap[b + 1 + 1]? = some (.cells #[.slice none 0 0] 55 (0, 0)) := by rw [hW3, hb]; exact hl_old (hl_old (hl_old (hl_old (hl_old (hl_old (hl_old (hl_new (by try simp))))))))
  have hb3 : W3.heap[b + 1 + 1 + 1]? = some (.cells #[.int .i64 0, .string { data := #[] }, .slice (some ⟨b + 1 + 1, 0, none⟩) 1 1] 30 (0, 0)) := by rw [hW3, hb]; exact hl_old (hl_old (hl_old (hl_old (hl_old (hl_old (hl_new (by try simp)))))))
  have hb4 : W3.heap[b + 1 + 1 + 1 + 1]? = some (.cells #[.slice (some ⟨b + 1 + 1 + 1, 0, none⟩) 1 1] 55 (0, 0)) := by rw [hW3, hb]; exact hl_old (hl_old (hl_old (hl_old (hl_old (hl_new (by try simp))))))
  have hb5 : W3.heap[b + 1 + 1 + 1 + 1 + 1]? = some (.cells #[.int .i64 0, .string { data := #[] }, .slice none 0 0] 30 (0, 0)) := by rw [hW3, hb]; exact hl_old (hl_old (hl_old (hl_old (hl_new (by try simp)))))
  have hb6 : W3.heap[b + 1 + 1 + 1 + 1 + 1 + 1]? = some (.cells #[.slice (some ⟨b + 1 + 1 + 1 + 1 + 1, 0, none⟩) 1 1] 55 (0, 0)) := by rw [hW3, hb]; exact hl_old (hl_old (hl_old (hl_new (by try simp))))
  have hb7 : W3.heap[b + 1 + 1 + 1 + 1 + 1 + 1 + 1]? = some (.cells #[.int .i64 0, .string { data := #[] }, .slice (some ⟨b + 1 + 1 + 1 + 1 + 1 + 1, 0, none⟩) 1 1] 30 (0, 0)) := by rw [hW3, hb]; exact hl_old (hl_old (hl_new (by try simp)))
  have hb8 : W3.heap[b + 1 + 1 + 1 + 1 + 1 + 1 + 1 + 1]? = some (.cells #[.slice (some ⟨b + 1 + 1 + 1 + 1 + 1 + 1 + 1, 0, none⟩) 1 1] 55 (0, 0)) := by rw [hW3, hb]; exact hl_old (hl_new (by try simp))
  have hb9 : W3.heap[b + 1 + 1 + 1 + 1 + 1 + 1 + 1 + 1 + 1]? = some (.cells #[.int .i64 0, .string { data := #[] }, .slice (some ⟨b + 1, 0, none⟩) 1 1, .int .i64 0, .string { data := #[] }, .slice (some ⟨b + 1 + 1 + 1 + 1, 0, none⟩) 1 1, .int .i64 0, .string { data := #[] }, .slice (some ⟨b + 1 + 1 + 1 + 1 + 1 + 1 + 1 + 1, 0, none⟩) 1 1] 30 (0, 0)) := by rw [hW3, hb]; exact hl_new (by try simp)
  have hsF : SeenF W3 (.slice (some ⟨b, 0, none⟩) 3 3) l39 := SeenF.blk hb0 l39 3 rfl rfl (by decide)
  have k1 : KidsAt W3 2 [[]] (.slice (some ⟨b + 1, 0, none⟩) 1 1) := kidsAt_lit (R := [([], nilS)]) hb1 rfl rfl (by decide) (by intro p hp; simp at hp; subst hp; exact list_nil)
  have k2 : KidsAt W3 2 [[]] (.slice (some ⟨b + 1 + 1, 0, none⟩) 1 1) := kidsAt_lit (R := [([], nilS)]) hb2 rfl rfl (by decide) (by intro p hp; simp at hp; subst hp; exact list_nil)
  have l3 : ListAt W3 2 [.mk 0 { data := #[] } [[]]] (.slice (some ⟨b + 1 + 1 + 1, 0, none⟩) 1 1) := listAt_lit hb3 [(.mk 0 { data := #[] } [[]], .slice (some ⟨b + 1 + 1, 0, none⟩) 1 1)] rfl rfl (by decide) (by intro p hp; simp at hp; subst hp; exact k2)
  have k4 : KidsAt W3 3 t91.k (.slice (some ⟨b + 1 + 1 + 1 + 1, 0, none⟩) 1 1) := kidsAt_lit (R := [([.mk 0 { data := #[] } [[]]], .slice (some ⟨b + 1 + 1 + 1, 0, none⟩) 1 1)]) hb4 rfl rfl (by decide) (by intro p hp; simp at hp; subst hp; exact l3)
  have l5 : ListAt W3 1 [.mk 0 { data := #[] } []] (.slice (some ⟨b + 1 + 1 + 1 + 1 + 1, 0, none⟩) 1 1) := listAt_lit hb5 [(.mk 0 { data := #[] } [], nilS)] rfl rfl (by decide) (by intro p hp; simp at hp; subst hp; exact kids_nil)
  have k6 : KidsAt W3 2 [[.mk 0 { data := #[] } []]] (.slice (some ⟨b + 1 + 1 + 1 + 1 + 1 + 1, 0, none⟩) 1 1) := kidsAt_lit (R := [([.mk 0 { data := #[] } []], .slice (some ⟨b + 1 + 1 + 1 + 1 + 1, 0, none⟩) 1 1)]) hb6 rfl rfl (by decide) (by intro p hp; simp at hp; subst hp; exact l5)
  have l7 : ListAt W3 2 [.mk 0 { data := #[] } [[.mk 0 { data := #[] } []]]] (.slice (some ⟨b + 1 + 1 + 1 + 1 + 1 + 1 + 1, 0, none⟩) 1 1) := listAt_lit hb7 [(.mk 0 { data := #[] } [[.mk 0 { data := #[] } []]], .slice (some ⟨b + 1 + 1 + 1 + 1 + 1 + 1, 0, none⟩) 1 1)] rfl rfl (by decide) (by intro p hp; simp at hp; subst hp; exact k6)
  have k8 : KidsAt W3 3 t92.k (.slice (some ⟨b + 1 + 1 + 1 + 1 + 1 + 1 + 1 + 1, 0, none⟩) 1 1) := kidsAt_lit (R := [([.mk 0 { data := #[] } [[.mk 0 { data := #[] } []]]], .slice (some ⟨b + 1 + 1 + 1 + 1 + 1 + 1 + 1, 0, none⟩) 1 1)]) hb8 rfl rfl (by decide) (by intro p hp; simp at hp; subst hp; exact l7)
  have k10 : KidsAt W3 3 t90.k (.slice (some ⟨b + 1, 0, none⟩) 1 1) := k1.mono (by decide)
  clear k1 k2 l3 l5 k6 l7 hb1 hb2 hb3 hb4 hb5 hb6 hb7 hb8
  have z0 : W3.cell? ⟨b + 1 + 1 + 1 + 1 + 1 + 1 + 1 + 1 + 1, 0, none⟩ = some (.int .i64 0) := by rw [cell_of_row _ _ 0 _ _ _ hb9]; rfl
  have z1 : W3.cell? ⟨b + 1 + 1 + 1 + 1 + 1 + 1 + 1 + 1 + 1, 1, none⟩ = some (.string { data := #[] }) := by rw [cell_of_row _ _ 1 _ _ _ hb9]; rfl
  have z2 : W3.cell? ⟨b + 1 + 1 + 1 + 1 + 1 + 1 + 1 + 1 + 1, 2, none⟩ = some (.slice (some ⟨b + 1, 0, none⟩) 1 1) := by rw [cell_of_row _ _ 2 _ _ _ hb9]; rfl
  have z3 : W3.cell? ⟨b + 1 + 1 + 1 + 1 + 1 + 1 + 1 + 1 + 1, 3, none⟩ = some (.int .i64 0) := by rw [cell_of_row _ _ 3 _ _ _ hb9]; rfl
  have z4 : W3.cell? ⟨b + 1 + 1 + 1 + 1 + 1 + 1 + 1 + 1 + 1, 4, none⟩ = some (.string { data := #[] }) := by rw [cell_of_row _ _ 4 _ _ _ hb9]; rfl
  have z5 : W3.cell? ⟨b + 1 + 1 + 1 + 1 + 1 + 1 + 1 + 1 + 1, 5, none⟩ = some (.slice (some ⟨b + 1 + 1 + 1 + 1, 0, none⟩) 1 1) := by rw [cell_of_row _ _ 5 _ _ _ hb9]; rfl
  have z6 : W3.cell? ⟨b + 1 + 1 + 1 + 1 + 1 + 1 + 1 + 1 + 1, 6, none⟩ = some (.int .i64 0) := by rw [cell_of_row _ _ 6 _ _ _ hb9]; rfl
  have z7 : W3.cell? ⟨b + 1 + 1 + 1 + 1 + 1 + 1 + 1 + 1 + 1, 7, none⟩ = some (.string { data := #[] }) := by rw [cell_of_row _ _ 7 _ _ _ hb9]; rfl
  have z8 : W3.cell? ⟨b + 1 + 1 + 1 + 1 + 1 + 1 + 1 + 1 + 1, 8, none⟩ = some (.slice (some ⟨b + 1 + 1 + 1 + 1 + 1 + 1 + 1 + 1, 0, none⟩) 1 1) := by rw [cell_of_row _ _ 8 _ _ _ hb9]; rfl
  have hL : ListAt W3 3 [t90] (.slice (some ⟨b + 1 + 1 + 1 + 1 + 1 + 1 + 1 + 1 + 1, 0, none⟩) 1 3) := listAt_one z0 z1 z2 k10 (by decide) (by decide)
  have hz : W3.heap.size = b + 1 + 1 + 1 + 1 + 1 + 1 + 1 + 1 + 1 + 1 := by rw [hW3, hb]; simp
  have HBY := Lib.hid (bytes_any (.slice (some ⟨b, 0, none⟩) 3 3) _ l39 ⟨bm8, 0, 0, 1⟩ fT9 [t90] 3 W3 hsF rfl rfl rfl rfl ⟨rfl, rfl, ⟨by decide, by decide, trivial⟩, trivial⟩ (by decide) (by decide) (by decide) hL (by intro t ht; simp at ht; subst ht; exact chk_l39.2.1) (by intro t ht; simp at ht; subst ht; exact ok_three.1) (by rw [wall_three.1]; decide))
  rw [wall_three.1] at HBY
  have HPA := Lib.hid (show ∀ wx bv, Chg [] W3 wx → Seen wx bv (nv .u8 [1, 0]) → Calls Try.prog 46 #[.slice (some ⟨b, 0, none⟩) 3 3, bv] wx fun e w' => ∃ gx ox cx kx, e = .returned (.tuple #[.slice (some ⟨gx, ox, none⟩) 1 cx, .int .i64 0]) ∧ (w'.cell? ⟨gx, ox, none⟩ = some (.int .i64 0) ∧ w'.cell? ⟨gx, ox + 1, none⟩ = some (.string { data := #[] }) ∧ w'.cell? ⟨gx, ox + 2, none⟩ = some kx ∧ KidsAt w' 4 t90.k kx) ∧ Chg [] wx w' from fun wx bv hk hs => by
    refine (parse_any9 _ bv l39 ⟨bm8, 0, 0, 1⟩ fT9 [1, 0] wx (hsF.keep hk) rfl rfl rfl rfl ⟨rfl, rfl, ⟨by decide, by decide, trivial⟩, trivial⟩ chk_l39.1 (by decide) (by decide) (by decide) hs (by decide) (by decide)).mono ?_
    rintro e w' ⟨lv, rfl, hl, h⟩
    rw [pall_three.1] at hl ⊢
    obtain ⟨lo, lc, rfl, -, -⟩ := hl.shape
    obtain ⟨gx, ox, rfl, hc⟩ := hl.at.get (by simp)
    obtain ⟨kv, x0, x1, x2, x3⟩ := hc 0 _ rfl
    exact ⟨gx, ox, lc, kv, rfl, ⟨(by simpa using x0 : w'.cell? ⟨gx, ox, none⟩ = some (.int .i64 t90.n)), (by simpa using x1 : w'.cell? ⟨gx, ox + 1, none⟩ = some (.string t90.s)), by simpa using x2, x3.mono (by decide)⟩, h⟩)
  have HS0 := Lib.hid (show ∀ wx kx, Chg [] W3 wx → KidsAt wx 4 t90.k kx → Calls Try.prog 25 #[.agg #[.int .i64 0, .string { data := #[] }, kx], .agg #[.int .i64 0, .string { data := #[] }, .slice (some ⟨b + 1, 0, none⟩) 1 1]] wx fun e w' => e = .returned (.bool true) ∧ Chg [] wx w' from fun wx kx hk hkx => by
    refine (rsame8_any 4 t90 t90 kx _ wx hkx (((k10.keep hk).mono (by decide)))).mono ?_
    rintro e w' ⟨⟨r, rfl, hr⟩, h⟩
    have : r = true := by exact hr.2 rfl
    rw [this]
    exact ⟨rfl, h⟩)
  have HS1 := Lib.hid (show ∀ wx kx, Chg [] W3 wx → KidsAt wx 4 t90.k kx → Calls Try.prog 25 #[.agg #[.int .i64 0, .string { data := #[] }, kx], .agg #[.int .i64 0, .string { data := #[] }, .slice (some ⟨b + 1 + 1 + 1 + 1, 0, none⟩) 1 1]] wx fun e w' => e = .returned (.bool false) ∧ Chg [] wx w' from fun wx kx hk hkx => by
    refine (rsame8_any 4 t90 t91 kx _ wx hkx (((k4.keep hk).mono (by decide)))).mono ?_
    rintro e w' ⟨⟨r, rfl, hr⟩, h⟩
    have : r = false := by cases r; rfl; exact absurd (hr.1 rfl) (apart_three.1)
    rw [this]
    exact ⟨rfl, h⟩)
  have HS2 := Lib.hid (show ∀ wx kx, Chg [] W3 wx → KidsAt wx 4 t90.k kx → Calls Try.prog 25 #[.agg #[.int .i64 0, .string { data := #[] }, kx], .agg #[.int .i64 0, .string { data := #[] }, .slice (some ⟨b + 1 + 1 + 1 + 1 + 1 + 1 + 1 + 1, 0, none⟩) 1 1]] wx fun e w' => e = .returned (.bool false) ∧ Chg [] wx w' from fun wx kx hk hkx => by
    refine (rsame8_any 4 t90 t92 kx _ wx hkx (((k8.keep hk).mono (by decide)))).mono ?_
    rintro e w' ⟨⟨r, rfl, hr⟩, h⟩
    have : r = false := by cases r; rfl; exact absurd (hr.1 rfl) (apart_three.2.1)
    rw [this]
    exact ⟨rfl, h⟩)
  have HZC := Lib.hid (show ∀ wx, Chg [] W3 wx → (wx.cell? ⟨b + 1 + 1 + 1 + 1 + 1 + 1 + 1 + 1 + 1, 0, none⟩ = some (.int .i64 0) ∧ wx.cell? ⟨b + 1 + 1 + 1 + 1 + 1 + 1 + 1 + 1 + 1, 1, none⟩ = some (.string { data := #[] }) ∧ wx.cell? ⟨b + 1 + 1 + 1 + 1 + 1 + 1 + 1 + 1 + 1, 2, none⟩ = some (.slice (some ⟨b + 1, 0, none⟩) 1 1)) ∧ (wx.cell? ⟨b + 1 + 1 + 1 + 1 + 1 + 1 + 1 + 1 + 1, 3, none⟩ = some (.int .i64 0) ∧ wx.cell? ⟨b + 1 + 1 + 1 + 1 + 1 + 1 + 1 + 1 + 1, 4, none⟩ = some (.string { data := #[] }) ∧ wx.cell? ⟨b + 1 + 1 + 1 + 1 + 1 + 1 + 1 + 1 + 1, 5, none⟩ = some (.slice (some ⟨b + 1 + 1 + 1 + 1, 0, none⟩) 1 1)) ∧ (wx.cell? ⟨b + 1 + 1 + 1 + 1 + 1 + 1 + 1 + 1 + 1, 6, none⟩ = some (.int .i64 0) ∧ wx.cell? ⟨b + 1 + 1 + 1 + 1 + 1 + 1 + 1 + 1 + 1, 7, none⟩ = some (.string { data := #[] }) ∧ wx.cell? ⟨b + 1 + 1 + 1 + 1 + 1 + 1 + 1 + 1 + 1, 8, none⟩ = some (.slice (some ⟨b + 1 + 1 + 1 + 1 + 1 + 1 + 1 + 1, 0, none⟩) 1 1)) from fun wx hk => ⟨⟨hk.cell z0 (by simp), hk.cell z1 (by simp), hk.cell z2 (by simp)⟩, ⟨hk.cell z3 (by simp), hk.cell z4 (by simp), hk.cell z5 (by simp)⟩, ⟨hk.cell z6 (by simp), hk.cell z7 (by simp), hk.cell z8 (by simp)⟩⟩)
  have HW3 := Lib.hid hW3
  clear k10 k4 k8 hb0 hb9 hsF hL z0 z1 z2 z3 z4 z5 z6 z7 z8 hz hW3 hb
  go_wp2_with (first
    | (go_at_call 49; (with_reducible refine (HA.out _).mono ?_); rintro e wq ⟨rfl, rfl⟩)
    | fail)
  rw [← HW3.out, ← HBB.out]
  (with_reducible refine HBY.out.mono ?_)
  rintro e wB ⟨x, rfl, hkB, hoB⟩
  simp only [List.length_cons, List.length_nil, Nat.zero_add, Nat.reduceAdd] at hoB
  obtain ⟨xa, xc, rfl⟩ := own_shape hoB
  have HKB := Lib.hid hkB
  have HP := Lib.hid (HPA.out wB _ hkB (reads_of_own hoB).seen)
  clear hkB hoB
  go_wp2_with fail
  (with_reducible refine HP.out.mono ?_)
  rintro e wC ⟨gx, ox, cx, kx, rfl, ⟨x0, x1, x2, hkx⟩, hkC⟩
  obtain ⟨ko, kc, rfl, -, -⟩ := hkx.shape
  have HKC := Lib.hid (HKB.out.trans hkC (by simp))
  have HKX := Lib.hid hkx
  have HX := Lib.hid (show wC.cell? ⟨gx, ox, none⟩ = some (.int .i64 0) ∧ wC.cell? ⟨gx, ox + 1, none⟩ = some (.string { data := #[] }) ∧ wC.cell? ⟨gx, ox + 2, none⟩ = some (.slice ko t90.k.length kc) from ⟨x0, x1, x2⟩)
  clear hkC hkx x0 x1 x2
  go_wp2
  go_loopw [8] (fun x w' => ∃ k : Nat, x = .int .i64 (k : Int) ∧ k ≤ 3 ∧ Chg [] wC w') (fun x _ => 3 - (intOf x).toNat)
  case atStart => exact ⟨0, rfl, by decide, Chg.refl _ _⟩
  case round =>
    obtain ⟨k, rfl, hk3, hck⟩ := hrel
    have HCK := Lib.hid hck
    have hkk : k = 0 ∨ k = 1 ∨ k = 2 ∨ k = 3 := by omega
    clear hck hk3
    rcases hkk with rfl | rfl | rfl | rfl
    · rw [show ((0 : Nat) : Int) = 0 from rfl]
      have HPR := Lib.hid (show wr.cell? ⟨gx, ox, none⟩ = some (.int .i64 0) ∧ wr.cell? ⟨gx, ox + 1, none⟩ = some (.string { data := #[] }) ∧ wr.cell? ⟨gx, ox + 2, none⟩ = some (.slice ko t90.k.length kc) ∧ wr.cell? ⟨b + 1 + 1 + 1 + 1 + 1 + 1 + 1 + 1 + 1, 0, none⟩ = some (.int .i64 0) ∧ wr.cell? ⟨b + 1 + 1 + 1 + 1 + 1 + 1 + 1 + 1 + 1, 1, none⟩ = some (.string { data := #[] }) ∧ wr.cell? ⟨b + 1 + 1 + 1 + 1 + 1 + 1 + 1 + 1 + 1, 2, none⟩ = some (.slice (some ⟨b + 1, 0, none⟩) 1 1) from by
        have HZ := HZC.out wr (HKC.out.trans HCK.out (by simp))
        exact ⟨HCK.out.cell HX.out.1 (by simp), HCK.out.cell HX.out.2.1 (by simp), HCK.out.cell HX.out.2.2 (by simp), HZ.1.1, HZ.1.2.1, HZ.1.2.2⟩)
      have HC0 := Lib.hid (Chg.refl [] wr)
      have HSR := Lib.hid (show ∀ wx, Chg [] wr wx → Calls Try.prog 25 #[.agg #[.int .i64 0, .string { data := #[] }, .slice ko t90.k.length kc], .agg #[.int .i64 0, .string { data := #[] }, .slice (some ⟨b + 1, 0, none⟩) 1 1]] wx fun e w' => e = .returned (.bool true) ∧ Chg [] wx w' from fun wx hk => HS0.out wx _ ((HKC.out.trans HCK.out (by simp)).trans hk (by simp)) ((HKX.out.keep HCK.out).keep hk))
      go_upto_region 12 with fail
      go_region_held3 (fun w' => w'.cell? ⟨gx, ox, none⟩ = some (.int .i64 0) ∧ w'.cell? ⟨gx, ox + 1, none⟩ = some (.string { data := #[] }) ∧ w'.cell? ⟨gx, ox + 2, none⟩ = some (.slice ko t90.k.length kc) ∧ w'.cell? ⟨b + 1 + 1 + 1 + 1 + 1 + 1 + 1 + 1 + 1, 0, none⟩ = some (.int .i64 0) ∧ w'.cell? ⟨b + 1 + 1 + 1 + 1 + 1 + 1 + 1 + 1 + 1, 1, none⟩ = some (.string { data := #[] }) ∧ w'.cell? ⟨b + 1 + 1 + 1 + 1 + 1 + 1 + 1 + 1 + 1, 2, none⟩ = some (.slice (some ⟨b + 1, 0, none⟩) 1 1)) (first | exact HPR.out | exact HPR3.out) (first
        | (go_at_call 25; (with_reducible refine (HSR.out _ (by first | exact HC0.out | exact HC0.out.drew | exact HC0.out.drewN _)).mono ?_); rintro e wz ⟨rfl, hkz⟩; have HKZ := Lib.hid (show Chg [] wr wz from by first | exact hkz | exact (Chg.refl [] wr).drew.trans hkz (by simp) | exact ((Chg.refl [] wr).drewN _).trans hkz (by simp)); have HPR3 := Lib.hid (show wz.cell? ⟨gx, ox, none⟩ = some (.int .i64 0) ∧ wz.cell? ⟨gx, ox + 1, none⟩ = some (.string { data := #[] }) ∧ wz.cell? ⟨gx, ox + 2, none⟩ = some (.slice ko t90.k.length kc) ∧ wz.cell? ⟨b + 1 + 1 + 1 + 1 + 1 + 1 + 1 + 1 + 1, 0, none⟩ = some (.int .i64 0) ∧ wz.cell? ⟨b + 1 + 1 + 1 + 1 + 1 + 1 + 1 + 1 + 1, 1, none⟩ = some (.string { data := #[] }) ∧ wz.cell? ⟨b + 1 + 1 + 1 + 1 + 1 + 1 + 1 + 1 + 1, 2, none⟩ = some (.slice (some ⟨b + 1, 0, none⟩) 1 1) from ⟨HKZ.out.cell HPR.out.1 (by simp), HKZ.out.cell HPR.out.2.1 (by simp), HKZ.out.cell HPR.out.2.2.1 (by simp), HKZ.out.cell HPR.out.2.2.2.1 (by simp), HKZ.out.cell HPR.out.2.2.2.2.1 (by simp), HKZ.out.cell HPR.out.2.2.2.2.2 (by simp)⟩); clear hkz))
      go_wp2
      go_roundw
      case rel => exact ⟨1, rfl, by decide, HCK.out.trans HKZ.out (by simp)⟩
      case measure => simp [intOf]
    · rw [show ((1 : Nat) : Int) = 1 from rfl]
      have HPR := Lib.hid (show wr.cell? ⟨gx, ox, none⟩ = some (.int .i64 0) ∧ wr.cell? ⟨gx, ox + 1, none⟩ = some (.string { data := #[] }) ∧ wr.cell? ⟨gx, ox + 2, none⟩ = some (.slice ko t90.k.length kc) ∧ wr.cell? ⟨b + 1 + 1 + 1 + 1 + 1 + 1 + 1 + 1 + 1, 3, none⟩ = some (.int .i64 0) ∧ wr.cell? ⟨b + 1 + 1 + 1 + 1 + 1 + 1 + 1 + 1 + 1, 4, none⟩ = some (.string { data := #[] }) ∧ wr.cell? ⟨b + 1 + 1 + 1 + 1 + 1 + 1 + 1 + 1 + 1, 5, none⟩ = some (.slice (some ⟨b + 1 + 1 + 1 + 1, 0, none⟩) 1 1) from by
        have HZ := HZC.out wr (HKC.out.trans HCK.out (by simp))
        exact ⟨HCK.out.cell HX.out.1 (by simp), HCK.out.cell HX.out.2.1 (by simp), HCK.out.cell HX.out.2.2 (by simp), HZ.2.1.1, HZ.2.1.2.1, HZ.2.1.2.2⟩)
      have HC0 := Lib.hid (Chg.refl [] wr)
      have HSR := Lib.hid (show ∀ wx, Chg [] wr wx → Calls Try.prog 25 #[.agg #[.int .i64 0, .string { data := #[] }, .slice ko t90.k.length kc], .agg #[.int .i64 0, .string { data := #[] }, .slice (some ⟨b + 1 + 1 + 1 + 1, 0, none⟩) 1 1]] wx fun e w' => e = .returned (.bool false) ∧ Chg [] wx w' from fun wx hk => HS1.out wx _ ((HKC.out.trans HCK.out (by simp)).trans hk (by simp)) ((HKX.out.keep HCK.out).keep hk))
      go_upto_region 12 with fail
      go_region_held3 (fun w' => w'.cell? ⟨gx, ox, none⟩ = some (.int .i64 0) ∧ w'.cell? ⟨gx, ox + 1, none⟩ = some (.string { data := #[] }) ∧ w'.cell? ⟨gx, ox + 2, none⟩ = some (.slice ko t90.k.length kc) ∧ w'.cell? ⟨b + 1 + 1 + 1 + 1 + 1 + 1 + 1 + 1 + 1, 3, none⟩ = some (.int .i64 0) ∧ w'.cell? ⟨b + 1 + 1 + 1 + 1 + 1 + 1 + 1 + 1 + 1, 4, none⟩ = some (.string { data := #[] }) ∧ w'.cell? ⟨b + 1 + 1 + 1 + 1 + 1 + 1 + 1 + 1 + 1, 5, none⟩ = some (.slice (some ⟨b + 1 + 1 + 1 + 1, 0, none⟩) 1 1)) (first | exact HPR.out | exact HPR3.out) (first
        | (go_at_call 25; (with_reducible refine (HSR.out _ (by first | exact HC0.out | exact HC0.out.drew | exact HC0.out.drewN _)).mono ?_); rintro e wz ⟨rfl, hkz⟩; have HKZ := Lib.hid (show Chg [] wr wz from by first | exact hkz | exact (Chg.refl [] wr).drew.trans hkz (by simp) | exact ((Chg.refl [] wr).drewN _).trans hkz (by simp)); have HPR3 := Lib.hid (show wz.cell? ⟨gx, ox, none⟩ = some (.int .i64 0) ∧ wz.cell? ⟨gx, ox + 1, none⟩ = some (.string { data := #[] }) ∧ wz.cell? ⟨gx, ox + 2, none⟩ = some (.slice ko t90.k.length kc) ∧ wz.cell? ⟨b + 1 + 1 + 1 + 1 + 1 + 1 + 1 + 1 + 1, 3, none⟩ = some (.int .i64 0) ∧ wz.cell? ⟨b + 1 + 1 + 1 + 1 + 1 + 1 + 1 + 1 + 1, 4, none⟩ = some (.string { data := #[] }) ∧ wz.cell? ⟨b + 1 + 1 + 1 + 1 + 1 + 1 + 1 + 1 + 1, 5, none⟩ = some (.slice (some ⟨b + 1 + 1 + 1 + 1, 0, none⟩) 1 1) from ⟨HKZ.out.cell HPR.out.1 (by simp), HKZ.out.cell HPR.out.2.1 (by simp), HKZ.out.cell HPR.out.2.2.1 (by simp), HKZ.out.cell HPR.out.2.2.2.1 (by simp), HKZ.out.cell HPR.out.2.2.2.2.1 (by simp), HKZ.out.cell HPR.out.2.2.2.2.2 (by simp)⟩); clear hkz))
      go_wp2
      go_roundw
      case rel => exact ⟨2, rfl, by decide, HCK.out.trans HKZ.out (by simp)⟩
      case measure => simp [intOf]
    · rw [show ((2 : Nat) : Int) = 2 from rfl]
      have HPR := Lib.hid (show wr.cell? ⟨gx, ox, none⟩ = some (.int .i64 0) ∧ wr.cell? ⟨gx, ox + 1, none⟩ = some (.string { data := #[] }) ∧ wr.cell? ⟨gx, ox + 2, none⟩ = some (.slice ko t90.k.length kc) ∧ wr.cell? ⟨b + 1 + 1 + 1 + 1 + 1 + 1 + 1 + 1 + 1, 6, none⟩ = some (.int .i64 0) ∧ wr.cell? ⟨b + 1 + 1 + 1 + 1 + 1 + 1 + 1 + 1 + 1, 7, none⟩ = some (.string { data := #[] }) ∧ wr.cell? ⟨b + 1 + 1 + 1 + 1 + 1 + 1 + 1 + 1 + 1, 8, none⟩ = some (.slice (some ⟨b + 1 + 1 + 1 + 1 + 1 + 1 + 1 + 1, 0, none⟩) 1 1) from by
        have HZ := HZC.out wr (HKC.out.trans HCK.out (by simp))
        exact ⟨HCK.out.cell HX.out.1 (by simp), HCK.out.cell HX.out.2.1 (by simp), HCK.out.cell HX.out.2.2 (by simp), HZ.2.2.1, HZ.2.2.2.1, HZ.2.2.2.2⟩)
      have HC0 := Lib.hid (Chg.refl [] wr)
      have HSR := Lib.hid (show ∀ wx, Chg [] wr wx → Calls Try.prog 25 #[.agg #[.int .i64 0, .string { data := #[] }, .slice ko t90.k.length kc], .agg #[.int .i64 0, .string { data := #[] }, .slice (some ⟨b + 1 + 1 + 1 + 1 + 1 + 1 + 1 + 1, 0, none⟩) 1 1]] wx fun e w' => e = .returned (.bool false) ∧ Chg [] wx w' from fun wx hk => HS2.out wx _ ((HKC.out.trans HCK.out (by simp)).trans hk (by simp)) ((HKX.out.keep HCK.out).keep hk))
      go_upto_region 12 with fail
      go_region_held3 (fun w' => w'.cell? ⟨gx, ox, none⟩ = some (.int .i64 0) ∧ w'.cell? ⟨gx, ox + 1, none⟩ = some (.string { data := #[] }) ∧ w'.cell? ⟨gx, ox + 2, none⟩ = some (.slice ko t90.k.length kc) ∧ w'.cell? ⟨b + 1 + 1 + 1 + 1 + 1 + 1 + 1 + 1 + 1, 6, none⟩ = some (.int .i64 0) ∧ w'.cell? ⟨b + 1 + 1 + 1 + 1 + 1 + 1 + 1 + 1 + 1, 7, none⟩ = some (.string { data := #[] }) ∧ w'.cell? ⟨b + 1 + 1 + 1 + 1 + 1 + 1 + 1 + 1 + 1, 8, none⟩ = some (.slice (some ⟨b + 1 + 1 + 1 + 1 + 1 + 1 + 1 + 1, 0, none⟩) 1 1)) (first | exact HPR.out | exact HPR3.out) (first
        | (go_at_call 25; (with_reducible refine (HSR.out _ (by first | exact HC0.out | exact HC0.out.drew | exact HC0.out.drewN _)).mono ?_); rintro e wz ⟨rfl, hkz⟩; have HKZ := Lib.hid (show Chg [] wr wz from by first | exact hkz | exact (Chg.refl [] wr).drew.trans hkz (by simp) | exact ((Chg.refl [] wr).drewN _).trans hkz (by simp)); have HPR3 := Lib.hid (show wz.cell? ⟨gx, ox, none⟩ = some (.int .i64 0) ∧ wz.cell? ⟨gx, ox + 1, none⟩ = some (.string { data := #[] }) ∧ wz.cell? ⟨gx, ox + 2, none⟩ = some (.slice ko t90.k.length kc) ∧ wz.cell? ⟨b + 1 + 1 + 1 + 1 + 1 + 1 + 1 + 1 + 1, 6, none⟩ = some (.int .i64 0) ∧ wz.cell? ⟨b + 1 + 1 + 1 + 1 + 1 + 1 + 1 + 1 + 1, 7, none⟩ = some (.string { data := #[] }) ∧ wz.cell? ⟨b + 1 + 1 + 1 + 1 + 1 + 1 + 1 + 1 + 1, 8, none⟩ = some (.slice (some ⟨b + 1 + 1 + 1 + 1 + 1 + 1 + 1 + 1, 0, none⟩) 1 1) from ⟨HKZ.out.cell HPR.out.1 (by simp), HKZ.out.cell HPR.out.2.1 (by simp), HKZ.out.cell HPR.out.2.2.1 (by simp), HKZ.out.cell HPR.out.2.2.2.1 (by simp), HKZ.out.cell HPR.out.2.2.2.2.1 (by simp), HKZ.out.cell HPR.out.2.2.2.2.2 (by simp)⟩); clear hkz))
      go_wp2
      go_roundw
      case rel => exact ⟨3, rfl, by decide, HCK.out.trans HKZ.out (by simp)⟩
      case measure => simp [intOf]
    · rw [show ((3 : Nat) : Int) = 3 from rfl]
      go_wp2
      go_ret
      exact ⟨rfl, (((HC3.out.trans HKC.out (by simp)).trans HCK.out (by simp))).below (Nat.le_refl _) (by simp)⟩

set_option maxRecDepth 100000 in
set_option maxHeartbeats 4000000 in
theorem three_1 (a0 : Int) (w : World) (w0 : (Lit.int .i64 a0).wf = true) (hi : (a0 % ((3 : Nat) : Int)).toNat = 1) :
    Calls Try.prog 11 #[.int .i64 a0] w fun e w' => e = .returned (.bool true) ∧ Below w.heap.size w w' := by
  have HA := Lib.hid (fun wx => w9_int a0 3 3 wx rfl (by decide) (by decide) w0)
  rw [hi, show ((1 : Nat) : Int) = 1 from rfl] at HA
  clear hi w0
  go_enter Try.func11, Try.ntmps11
  go_wp2_with fail
  (with_reducible refine (known9_any _).mono ?_)
  rintro e wA ⟨rfl, hkA⟩
  have HKA := Lib.hid hkA
  clear hkA
  obtain ⟨b, hb⟩ : ∃ b, b = wA.heap.size := ⟨_, rfl⟩
  have HBB := Lib.hid hb
  obtain ⟨W3, hW3⟩ : ∃ W3, W3 = ((((((((((wA.alloc (.cells #[.string { data := #[109] }, .int .i64 0, .int .i64 0, .int .i64 1, .string { data := #[103] }, .int .i64 1, .int .i64 0, .int .i64 1, .string { data := #[116] }, .int .i64 1, .int .i64 4, .int .i64 0] 78)).alloc (.cells #[.slice none 0 0] 55)).alloc (.cells #[.slice none 0 0] 55)).alloc (.cells #[.int .i64 0, .string { data := #[] }, .slice (some ⟨wA.heap.size + 1 + 1, 0, none⟩) 1 1] 30)).alloc (.cells #[.slice (some ⟨wA.heap.size + 1 + 1 + 1, 0, none⟩) 1 1] 55)).alloc (.cells #[.int .i64 0, .string { data := #[] }, .slice none 0 0] 30)).alloc (.cells #[.slice (some ⟨wA.heap.size + 1 + 1 + 1 + 1 + 1, 0, none⟩) 1 1] 55)).alloc (.cells #[.int .i64 0, .string { data := #[] }, .slice (some ⟨wA.heap.size + 1 + 1 + 1 + 1 + 1 + 1, 0, none⟩) 1 1] 30)).alloc (.cells #[.slice (some ⟨wA.heap.size + 1 + 1 + 1 + 1 + 1 + 1 + 1, 0, none⟩) 1 1] 55)).alloc (.cells #[.int .i64 0, .string { data := #[] }, .slice (some ⟨wA.heap.size + 1, 0, none⟩) 1 1, .int .i64 0, .string { data := #[] }, .slice (some ⟨wA.heap.size + 1 + 1 + 1 + 1, 0, none⟩) 1 1, .int .i64 0, .string { data := #[] }, .slice (some ⟨wA.heap.size + 1 + 1 + 1 + 1 + 1 + 1 + 1 + 1, 0, none⟩) 1 1] 30)) := ⟨_, rfl⟩
  have HC3 := Lib.hid (show Chg [] w W3 by rw [hW3]; exact (((((((((HKA.out.alloc _).alloc _).alloc _).alloc _).alloc _).alloc _).alloc _).alloc _).alloc _).alloc _)
  have hb0 : W3.heap[b]? = some (.cells #[.string { data := #[109] }, .int .i64 0, .int .i64 0, .int .i64 1, .string { data := #[103] }, .int .i64 1, .int .i64 0, .int .i64 1, .string { data := #[116] }, .int .i64 1, .int .i64 4, .int .i64 0] 78 (0, 0)) := by rw [hW3, hb]; exact hl_old (hl_old (hl_old (hl_old (hl_old (hl_old (hl_old (hl_old (hl_old (hl_new (by try simp))))))))))
  have hb1 : W3.heap[b + 1]? = some (.cells #[.slice none 0 0] 55 (0, 0)) := by rw [hW3, hb]; exact hl_old (hl_old (hl_old (hl_old (hl_old (hl_old (hl_old (hl_old (hl_new (by try simp)))))))))
  have hb2 : W3.heap[b + 1 + 1]? = some (.cells #[.slice none 0 0] 55 (0, 0)) := by rw [hW3, hb]; exact hl_old (hl_old (hl_old (hl_old (hl_old (hl_old (hl_old (hl_new (by try simp))))))))
  have hb3 : W3.heap[b + 1 + 1 + 1]? = some (.cells #[.int .i64 0, .string { data := #[] }, .slice (some ⟨b + 1 + 1, 0, none⟩) 1 1] 30 (0, 0)) := by rw [hW3, hb]; exact hl_old (hl_old (hl_old (hl_old (hl_old (hl_old (hl_new (by try simp)))))))
  have hb4 : W3.heap[b + 1 + 1 + 1 + 1]? = some (.cells #[.slice (some ⟨b + 1 + 1 + 1, 0, none⟩) 1 1] 55 (0, 0)) := by rw [hW3, hb]; exact hl_old (hl_old (hl_old (hl_old (hl_old (hl_new (by try simp))))))
  have hb5 : W3.heap[b + 1 + 1 + 1 + 1 + 1]? = some (.cells #[.int .i64 0, .string { data := #[] }, .slice none 0 0] 30 (0, 0)) := by rw [hW3, hb]; exact hl_old (hl_old (hl_old (hl_old (hl_new (by try simp)))))
  have hb6 : W3.heap[b + 1 + 1 + 1 + 1 + 1 + 1]? = some (.cells #[.slice (some ⟨b + 1 + 1 + 1 + 1 + 1, 0, none⟩) 1 1] 55 (0, 0)) := by rw [hW3, hb]; exact hl_old (hl_old (hl_old (hl_new (by try simp))))
  have hb7 : W3.heap[b + 1 + 1 + 1 + 1 + 1 + 1 + 1]? = some (.cells #[.int .i64 0, .string { data := #[] }, .slice (some ⟨b + 1 + 1 + 1 + 1 + 1 + 1, 0, none⟩) 1 1] 30 (0, 0)) := by rw [hW3, hb]; exact hl_old (hl_old (hl_new (by try simp)))
  have hb8 : W3.heap[b + 1 + 1 + 1 + 1 + 1 + 1 + 1 + 1]? = some (.cells #[.slice (some ⟨b + 1 + 1 + 1 + 1 + 1 + 1 + 1, 0, none⟩) 1 1] 55 (0, 0)) := by rw [hW3, hb]; exact hl_old (hl_new (by try simp))
  have hb9 : W3.heap[b + 1 + 1 + 1 + 1 + 1 + 1 + 1 + 1 + 1]? = some (.cells #[.int .i64 0, .string { data := #[] }, .slice (some ⟨b + 1, 0, none⟩) 1 1, .int .i64 0, .string { data := #[] }, .slice (some ⟨b + 1 + 1 + 1 + 1, 0, none⟩) 1 1, .int .i64 0, .string { data := #[] }, .slice (some ⟨b + 1 + 1 + 1 + 1 + 1 + 1 + 1 + 1, 0, none⟩) 1 1] 30 (0, 0)) := by rw [hW3, hb]; exact hl_new (by try simp)
  have hsF : SeenF W3 (.slice (some ⟨b, 0, none⟩) 3 3) l39 := SeenF.blk hb0 l39 3 rfl rfl (by decide)
  have k1 : KidsAt W3 2 [[]] (.slice (some ⟨b + 1, 0, none⟩) 1 1) := kidsAt_lit (R := [([], nilS)]) hb1 rfl rfl (by decide) (by intro p hp; simp at hp; subst hp; exact list_nil)
  have k2 : KidsAt W3 2 [[]] (.slice (some ⟨b + 1 + 1, 0, none⟩) 1 1) := kidsAt_lit (R := [([], nilS)]) hb2 rfl rfl (by decide) (by intro p hp; simp at hp; subst hp; exact list_nil)
  have l3 : ListAt W3 2 [.mk 0 { data := #[] } [[]]] (.slice (some ⟨b + 1 + 1 + 1, 0, none⟩) 1 1) := listAt_lit hb3 [(.mk 0 { data := #[] } [[]], .slice (some ⟨b + 1 + 1, 0, none⟩) 1 1)] rfl rfl (by decide) (by intro p hp; simp at hp; subst hp; exact k2)
  have k4 : KidsAt W3 3 t91.k (.slice (some ⟨b + 1 + 1 + 1 + 1, 0, none⟩) 1 1) := kidsAt_lit (R := [([.mk 0 { data := #[] } [[]]], .slice (some ⟨b + 1 + 1 + 1, 0, none⟩) 1 1)]) hb4 rfl rfl (by decide) (by intro p hp; simp at hp; subst hp; exact l3)
  have l5 : ListAt W3 1 [.mk 0 { data := #[] } []] (.slice (some ⟨b + 1 + 1 + 1 + 1 + 1, 0, none⟩) 1 1) := listAt_lit hb5 [(.mk 0 { data := #[] } [], nilS)] rfl rfl (by decide) (by intro p hp; simp at hp; subst hp; exact kids_nil)
  have k6 : KidsAt W3 2 [[.mk 0 { data := #[] } []]] (.slice (some ⟨b + 1 + 1 + 1 + 1 + 1 + 1, 0, none⟩) 1 1) := kidsAt_lit (R := [([.mk 0 { data := #[] } []], .slice (some ⟨b + 1 + 1 + 1 + 1 + 1, 0, none⟩) 1 1)]) hb6 rfl rfl (by decide) (by intro p hp; simp at hp; subst hp; exact l5)
  have l7 : ListAt W3 2 [.mk 0 { data := #[] } [[.mk 0 { data := #[] } []]]] (.slice (some ⟨b + 1 + 1 + 1 + 1 + 1 + 1 + 1, 0, none⟩) 1 1) := listAt_lit hb7 [(.mk 0 { data := #[] } [[.mk 0 { data := #[] } []]], .slice (some ⟨b + 1 + 1 + 1 + 1 + 1 + 1, 0, none⟩) 1 1)] rfl rfl (by decide) (by intro p hp; simp at hp; subst hp; exact k6)
  have k8 : KidsAt W3 3 t92.k (.slice (some ⟨b + 1 + 1 + 1 + 1 + 1 + 1 + 1 + 1, 0, none⟩) 1 1) := kidsAt_lit (R := [([.mk 0 { data := #[] } [[.mk 0 { data := #[] } []]]], .slice (some ⟨b + 1 + 1 + 1 + 1 + 1 + 1 + 1, 0, none⟩) 1 1)]) hb8 rfl rfl (by decide) (by intro p hp; simp at hp; subst hp; exact l7)
  have k10 : KidsAt W3 3 t90.k (.slice (some ⟨b + 1, 0, none⟩) 1 1) := k1.mono (by decide)
  clear k1 k2 l3 l5 k6 l7 hb1 hb2 hb3 hb4 hb5 hb6 hb7 hb8
  have z0 : W3.cell? ⟨b + 1 + 1 + 1 + 1 + 1 + 1 + 1 + 1 + 1, 0, none⟩ = some (.int .i64 0) := by rw [cell_of_row _ _ 0 _ _ _ hb9]; rfl
  have z1 : W3.cell? ⟨b + 1 + 1 + 1 + 1 + 1 + 1 + 1 + 1 + 1, 1, none⟩ = some (.string { data := #[] }) := by rw [cell_of_row _ _ 1 _ _ _ hb9]; rfl
  have z2 : W3.cell? ⟨b + 1 + 1 + 1 + 1 + 1 + 1 + 1 + 1 + 1, 2, none⟩ = some (.slice (some ⟨b + 1, 0, none⟩) 1 1) := by rw [cell_of_row _ _ 2 _ _ _ hb9]; rfl
  have z3 : W3.cell? ⟨b + 1 + 1 + 1 + 1 + 1 + 1 + 1 + 1 + 1, 3, none⟩ = some (.int .i64 0) := by rw [cell_of_row _ _ 3 _ _ _ hb9]; rfl
  have z4 : W3.cell? ⟨b + 1 + 1 + 1 + 1 + 1 + 1 + 1 + 1 + 1, 4, none⟩ = some (.string { data := #[] }) := by rw [cell_of_row _ _ 4 _ _ _ hb9]; rfl
  have z5 : W3.cell? ⟨b + 1 + 1 + 1 + 1 + 1 + 1 + 1 + 1 + 1, 5, none⟩ = some (.slice (some ⟨b + 1 + 1 + 1 + 1, 0, none⟩) 1 1) := by rw [cell_of_row _ _ 5 _ _ _ hb9]; rfl
  have z6 : W3.cell? ⟨b + 1 + 1 + 1 + 1 + 1 + 1 + 1 + 1 + 1, 6, none⟩ = some (.int .i64 0) := by rw [cell_of_row _ _ 6 _ _ _ hb9]; rfl
  have z7 : W3.cell? ⟨b + 1 + 1 + 1 + 1 + 1 + 1 + 1 + 1 + 1, 7, none⟩ = some (.string { data := #[] }) := by rw [cell_of_row _ _ 7 _ _ _ hb9]; rfl
  have z8 : W3.cell? ⟨b + 1 + 1 + 1 + 1 + 1 + 1 + 1 + 1 + 1, 8, none⟩ = some (.slice (some ⟨b + 1 + 1 + 1 + 1 + 1 + 1 + 1 + 1, 0, none⟩) 1 1) := by rw [cell_of_row _ _ 8 _ _ _ hb9]; rfl
  have hL : ListAt W3 3 [t91] (.slice (some ⟨b + 1 + 1 + 1 + 1 + 1 + 1 + 1 + 1 + 1, 3, none⟩) 1 2) := listAt_one z3 z4 z5 k4 (by decide) (by decide)
  have hz : W3.heap.size = b + 1 + 1 + 1 + 1 + 1 + 1 + 1 + 1 + 1 + 1 := by rw [hW3, hb]; simp
  have HBY := Lib.hid (bytes_any (.slice (some ⟨b, 0, none⟩) 3 3) _ l39 ⟨bm8, 0, 0, 1⟩ fT9 [t91] 3 W3 hsF rfl rfl rfl rfl ⟨rfl, rfl, ⟨by decide, by decide, trivial⟩, trivial⟩ (by decide) (by decide) (by decide) hL (by intro t ht; simp at ht; subst ht; exact chk_l39.2.2.1) (by intro t ht; simp at ht; subst ht; exact ok_three.2.1) (by rw [wall_three.2.1]; decide))
  rw [wall_three.2.1] at HBY
  have HPA := Lib.hid (show ∀ wx bv, Chg [] W3 wx → Seen wx bv (nv .u8 [1, 1, 0]) → Calls Try.prog 46 #[.slice (some ⟨b, 0, none⟩) 3 3, bv] wx fun e w' => ∃ gx ox cx kx, e = .returned (.tuple #[.slice (some ⟨gx, ox, none⟩) 1 cx, .int .i64 0]) ∧ (w'.cell? ⟨gx, ox, none⟩ = some (.int .i64 0) ∧ w'.cell? ⟨gx, ox + 1, none⟩ = some (.string { data := #[] }) ∧ w'.cell? ⟨gx, ox + 2, none⟩ = some kx ∧ KidsAt w' 4 t91.k kx) ∧ Chg [] wx w' from fun wx bv hk hs => by
    refine (parse_any9 _ bv l39 ⟨bm8, 0, 0, 1⟩ fT9 [1, 1, 0] wx (hsF.keep hk) rfl rfl rfl rfl ⟨rfl, rfl, ⟨by decide, by decide, trivial⟩, trivial⟩ chk_l39.1 (by decide) (by decide) (by decide) hs (by decide) (by decide)).mono ?_
    rintro e w' ⟨lv, rfl, hl, h⟩
    rw [pall_three.2.1] at hl ⊢
    obtain ⟨lo, lc, rfl, -, -⟩ := hl.shape
    obtain ⟨gx, ox, rfl, hc⟩ := hl.at.get (by simp)
    obtain ⟨kv, x0, x1, x2, x3⟩ := hc 0 _ rfl
    exact ⟨gx, ox, lc, kv, rfl, ⟨(by simpa using x0 : w'.cell? ⟨gx, ox, none⟩ = some (.int .i64 t91.n)), (by simpa using x1 : w'.cell? ⟨gx, ox + 1, none⟩ = some (.string t91.s)), by simpa using x2, x3.mono (by decide)⟩, h⟩)
  have HS0 := Lib.hid (show ∀ wx kx, Chg [] W3 wx → KidsAt wx 4 t91.k kx → Calls Try.prog 25 #[.agg #[.int .i64 0, .string { data := #[] }, kx], .agg #[.int .i64 0, .string { data := #[] }, .slice (some ⟨b + 1, 0, none⟩) 1 1]] wx fun e w' => e = .returned (.bool false) ∧ Chg [] wx w' from fun wx kx hk hkx => by
    refine (rsame8_any 4 t91 t90 kx _ wx hkx (((k10.keep hk).mono (by decide)))).mono ?_
    rintro e w' ⟨⟨r, rfl, hr⟩, h⟩
    have : r = false := by cases r; rfl; exact absurd (hr.1 rfl) ((fun e => apart_three.1 e.symm))
    rw [this]
    exact ⟨rfl, h⟩)
  have HS1 := Lib.hid (show ∀ wx kx, Chg [] W3 wx → KidsAt wx 4 t91.k kx → Calls Try.prog 25 #[.agg #[.int .i64 0, .string { data := #[] }, kx], .agg #[.int .i64 0, .string { data := #[] }, .slice (some ⟨b + 1 + 1 + 1 + 1, 0, none⟩) 1 1]] wx fun e w' => e = .returned (.bool true) ∧ Chg [] wx w' from fun wx kx hk hkx => by
    refine (rsame8_any 4 t91 t91 kx _ wx hkx (((k4.keep hk).mono (by decide)))).mono ?_
    rintro e w' ⟨⟨r, rfl, hr⟩, h⟩
    have : r = true := by exact hr.2 rfl
    rw [this]
    exact ⟨rfl, h⟩)
  have HS2 := Lib.hid (show ∀ wx kx, Chg [] W3 wx → KidsAt wx 4 t91.k kx → Calls Try.prog 25 #[.agg #[.int .i64 0, .string { data := #[] }, kx], .agg #[.int .i64 0, .string { data := #[] }, .slice (some ⟨b + 1 + 1 + 1 + 1 + 1 + 1 + 1 + 1, 0, none⟩) 1 1]] wx fun e w' => e = .returned (.bool false) ∧ Chg [] wx w' from fun wx kx hk hkx => by
    refine (rsame8_any 4 t91 t92 kx _ wx hkx (((k8.keep hk).mono (by decide)))).mono ?_
    rintro e w' ⟨⟨r, rfl, hr⟩, h⟩
    have : r = false := by cases r; rfl; exact absurd (hr.1 rfl) (apart_three.2.2)
    rw [this]
    exact ⟨rfl, h⟩)
  have HZC := Lib.hid (show ∀ wx, Chg [] W3 wx → (wx.cell? ⟨b + 1 + 1 + 1 + 1 + 1 + 1 + 1 + 1 + 1, 0, none⟩ = some (.int .i64 0) ∧ wx.cell? ⟨b + 1 + 1 + 1 + 1 + 1 + 1 + 1 + 1 + 1, 1, none⟩ = some (.string { data := #[] }) ∧ wx.cell? ⟨b + 1 + 1 + 1 + 1 + 1 + 1 + 1 + 1 + 1, 2, none⟩ = some (.slice (some ⟨b + 1, 0, none⟩) 1 1)) ∧ (wx.cell? ⟨b + 1 + 1 + 1 + 1 + 1 + 1 + 1 + 1 + 1, 3, none⟩ = some (.int .i64 0) ∧ wx.cell? ⟨b + 1 + 1 + 1 + 1 + 1 + 1 + 1 + 1 + 1, 4, none⟩ = some (.string { data := #[] }) ∧ wx.cell? ⟨b + 1 + 1 + 1 + 1 + 1 + 1 + 1 + 1 + 1, 5, none⟩ = some (.slice (some ⟨b + 1 + 1 + 1 + 1, 0, none⟩) 1 1)) ∧ (wx.cell? ⟨b + 1 + 1 + 1 + 1 + 1 + 1 + 1 + 1 + 1, 6, none⟩ = some (.int .i64 0) ∧ wx.cell? ⟨b + 1 + 1 + 1 + 1 + 1 + 1 + 1 + 1 + 1, 7, none⟩ = some (.string { data := #[] }) ∧ wx.cell? ⟨b + 1 + 1 + 1 + 1 + 1 + 1 + 1 + 1 + 1, 8, none⟩ = some (.slice (some ⟨b + 1 + 1 + 1 + 1 + 1 + 1 + 1 + 1, 0, none⟩) 1 1)) from fun wx hk => ⟨⟨hk.cell z0 (by simp), hk.cell z1 (by simp), hk.cell z2 (by simp)⟩, ⟨hk.cell z3 (by simp), hk.cell z4 (by simp), hk.cell z5 (by simp)⟩, ⟨hk.cell z6 (by simp), hk.cell z7 (by simp), hk.cell z8 (by simp)⟩⟩)
  have HW3 := Lib.hid hW3
  clear k10 k4 k8 hb0 hb9 hsF hL z0 z1 z2 z3 z4 z5 z6 z7 z8 hz hW3 hb
  go_wp2_with (first
    | (go_at_call 49; (with_reducible refine (HA.out _).mono ?_); rintro e wq ⟨rfl, rfl⟩)
    | fail)
  rw [← HW3.out, ← HBB.out]
  (with_reducible refine HBY.out.mono ?_)
  rintro e wB ⟨x, rfl, hkB, hoB⟩
  simp only [List.length_cons, List.length_nil, Nat.zero_add, Nat.reduceAdd] at hoB
  obtain ⟨xa, xc, rfl⟩ := own_shape hoB
  have HKB := Lib.hid hkB
  have HP := Lib.hid (HPA.out wB _ hkB (reads_of_own hoB).seen)
  clear hkB hoB
  go_wp2_with fail
  (with_reducible refine HP.out.mono ?_)
  rintro e wC ⟨gx, ox, cx, kx, rfl, ⟨x0, x1, x2, hkx⟩, hkC⟩
  obtain ⟨ko, kc, rfl, -, -⟩ := hkx.shape
  have HKC := Lib.hid (HKB.out.trans hkC (by simp))
  have HKX := Lib.hid hkx
  have HX := Lib.hid (show wC.cell? ⟨gx, ox, none⟩ = some (.int .i64 0) ∧ wC.cell? ⟨gx, ox + 1, none⟩ = some (.string { data := #[] }) ∧ wC.cell? ⟨gx, ox + 2, none⟩ = some (.slice ko t91.k.length kc) from ⟨x0, x1, x2⟩)
  clear hkC hkx x0 x1 x2
  go_wp2
  go_loopw [8] (fun x w' => ∃ k : Nat, x = .int .i64 (k : Int) ∧ k ≤ 3 ∧ Chg [] wC w') (fun x _ => 3 - (intOf x).toNat)
  case atStart => exact ⟨0, rfl, by decide, Chg.refl _ _⟩
  case round =>
    obtain ⟨k, rfl, hk3, hck⟩ := hrel
    have HCK := Lib.hid hck
    have hkk : k = 0 ∨ k = 1 ∨ k = 2 ∨ k = 3 := by omega
    clear hck hk3
    rcases hkk with rfl | rfl | rfl | rfl
    · rw [show ((0 : Nat) : Int) = 0 from rfl]
      have HPR := Lib.hid (show wr.cell? ⟨gx, ox, none⟩ = some (.int .i64 0) ∧ wr.cell? ⟨gx, ox + 1, none⟩ = some (.string { data := #[] }) ∧ wr.cell? ⟨gx, ox + 2, none⟩ = some (.slice ko t91.k.length kc) ∧ wr.cell? ⟨b + 1 + 1 + 1 + 1 + 1 + 1 + 1 + 1 + 1, 0, none⟩ = some (.int .i64 0) ∧ wr.cell? ⟨b + 1 + 1 + 1 + 1 + 1 + 1 + 1 + 1 + 1, 1, none⟩ = some (.string { data := #[] }) ∧ wr.cell? ⟨b + 1 + 1 + 1 + 1 + 1 + 1 + 1 + 1 + 1, 2, none⟩ = some (.slice (some ⟨b + 1, 0, none⟩) 1 1) from by
        have HZ := HZC.out wr (HKC.out.trans HCK.out (by simp))
        exact ⟨HCK.out.cell HX.out.1 (by simp), HCK.out.cell HX.out.2.1 (by simp), HCK.out.cell HX.out.2.2 (by simp), HZ.1.1, HZ.1.2.1, HZ.1.2.2⟩)
      have HC0 := Lib.hid (Chg.refl [] wr)
      have HSR := Lib.hid (show ∀ wx, Chg [] wr wx → Calls Try.prog 25 #[.agg #[.int .i64 0, .string { data := #[] }, .slice ko t91.k.length kc], .agg #[.int .i64 0, .string { data := #[] }, .slice (some ⟨b + 1, 0, none⟩) 1 1]] wx fun e w' => e = .returned (.bool false) ∧ Chg [] wx w' from fun wx hk => HS0.out wx _ ((HKC.out.trans HCK.out (by simp)).trans hk (by simp)) ((HKX.out.keep HCK.out).keep hk))
      go_upto_region 12 with fail
      go_region_held3 (fun w' => w'.cell? ⟨gx, ox, none⟩ = some (.int .i64 0) ∧ w'.cell? ⟨gx, ox + 1, none⟩ = some (.string { data := #[] }) ∧ w'.cell? ⟨gx, ox + 2, none⟩ = some (.slice ko t91.k.length kc) ∧ w'.cell? ⟨b + 1 + 1 + 1 + 1 + 1 + 1 + 1 + 1 + 1, 0, none⟩ = some (.int .i64 0) ∧ w'.cell? ⟨b + 1 + 1 + 1 + 1 + 1 + 1 + 1 + 1 + 1, 1, none⟩ = some (.string { data := #[] }) ∧ w'.cell? ⟨b + 1 + 1 + 1 + 1 + 1 + 1 + 1 + 1 + 1, 2, none⟩ = some (.slice (some ⟨b + 1, 0, none⟩) 1 1)) (first | exact HPR.out | exact HPR3.out) (first
        | (go_at_call 25; (with_reducible refine (HSR.out _ (by first | exact HC0.out | exact HC0.out.drew | exact HC0.out.drewN _)).mono ?_); rintro e wz ⟨rfl, hkz⟩; have HKZ := Lib.hid (show Chg [] wr wz from by first | exact hkz | exact (Chg.refl [] wr).drew.trans hkz (by simp) | exact ((Chg.refl [] wr).drewN _).trans hkz (by simp)); have HPR3 := Lib.hid (show wz.cell? ⟨gx, ox, none⟩ = some (.int .i64 0) ∧ wz.cell? ⟨gx, ox + 1, none⟩ = some (.string { data := #[] }) ∧ wz.cell? ⟨gx, ox + 2, none⟩ = some (.slice ko t91.k.length kc) ∧ wz.cell? ⟨b + 1 + 1 + 1 + 1 + 1 + 1 + 1 + 1 + 1, 0, none⟩ = some (.int .i64 0) ∧ wz.cell? ⟨b + 1 + 1 + 1 + 1 + 1 + 1 + 1 + 1 + 1, 1, none⟩ = some (.string { data := #[] }) ∧ wz.cell? ⟨b + 1 + 1 + 1 + 1 + 1 + 1 + 1 + 1 + 1, 2, none⟩ = some (.slice (some ⟨b + 1, 0, none⟩) 1 1) from ⟨HKZ.out.cell HPR.out.1 (by simp), HKZ.out.cell HPR.out.2.1 (by simp), HKZ.out.cell HPR.out.2.2.1 (by simp), HKZ.out.cell HPR.out.2.2.2.1 (by simp), HKZ.out.cell HPR.out.2.2.2.2.1 (by simp), HKZ.out.cell HPR.out.2.2.2.2.2 (by simp)⟩); clear hkz))
      go_wp2
      go_roundw
      case rel => exact ⟨1, rfl, by decide, HCK.out.trans HKZ.out (by simp)⟩
      case measure => simp [intOf]
    · rw [show ((1 : Nat) : Int) = 1 from rfl]
      have HPR := Lib.hid (show wr.cell? ⟨gx, ox, none⟩ = some (.int .i64 0) ∧ wr.cell? ⟨gx, ox + 1, none⟩ = some (.string { data := #[] }) ∧ wr.cell? ⟨gx, ox + 2, none⟩ = some (.slice ko t91.k.length kc) ∧ wr.cell? ⟨b + 1 + 1 + 1 + 1 + 1 + 1 + 1 + 1 + 1, 3, none⟩ = some (.int .i64 0) ∧ wr.cell? ⟨b + 1 + 1 + 1 + 1 + 1 + 1 + 1 + 1 + 1, 4, none⟩ = some (.string { data := #[] }) ∧ wr.cell? ⟨b + 1 + 1 + 1 + 1 + 1 + 1 + 1 + 1 + 1, 5, none⟩ = some (.slice (some ⟨b + 1 + 1 + 1 + 1, 0, none⟩) 1 1) from by
        have HZ := HZC.out wr (HKC.out.trans HCK.out (by simp))
        exact ⟨HCK.out.cell HX.out.1 (by simp), HCK.out.cell HX.out.2.1 (by simp), HCK.out.cell HX.out.2.2 (by simp), HZ.2.1.1, HZ.2.1.2.1, HZ.2.1.2.2⟩)
      have HC0 := Lib.hid (Chg.refl [] wr)
      have HSR := Lib.hid (show ∀ wx, Chg [] wr wx → Calls Try.prog 25 #[.agg #[.int .i64 0, .string { data := #[] }, .slice ko t91.k.length kc], .agg #[.int .i64 0, .string { data := #[] }, .slice (some ⟨b + 1 + 1 + 1 + 1, 0, none⟩) 1 1]] wx fun e w' => e = .returned (.bool true) ∧ Chg [] wx w' from fun wx hk => HS1.out wx _ ((HKC.out.trans HCK.out (by simp)).trans hk (by simp)) ((HKX.out.keep HCK.out).keep hk))
      go_upto_region 12 with fail
      go_region_held3 (fun w' => w'.cell? ⟨gx, ox, none⟩ = some (.int .i64 0) ∧ w'.cell? ⟨gx, ox + 1, none⟩ = some (.string { data := #[] }) ∧ w'.cell? ⟨gx, ox + 2, none⟩ = some (.slice ko t91.k.length kc) ∧ w'.cell? ⟨b + 1 + 1 + 1 + 1 + 1 + 1 + 1 + 1 + 1, 3, none⟩ = some (.int .i64 0) ∧ w'.cell? ⟨b + 1 + 1 + 1 + 1 + 1 + 1 + 1 + 1 + 1, 4, none⟩ = some (.string { data := #[] }) ∧ w'.cell? ⟨b + 1 + 1 + 1 + 1 + 1 + 1 + 1 + 1 + 1, 5, none⟩ = some (.slice (some ⟨b + 1 + 1 + 1 + 1, 0, none⟩) 1 1)) (first | exact HPR.out | exact HPR3.out) (first
        | (go_at_call 25; (with_reducible refine (HSR.out _ (by first | exact HC0.out | exact HC0.out.drew | exact HC0.out.drewN _)).mono ?_); rintro e wz ⟨rfl, hkz⟩; have HKZ := Lib.hid (show Chg [] wr wz from by first | exact hkz | exact (Chg.refl [] wr).drew.trans hkz (by simp) | exact ((Chg.refl [] wr).drewN _).trans hkz (by simp)); have HPR3 := Lib.hid (show wz.cell? ⟨gx, ox, none⟩ = some (.int .i64 0) ∧ wz.cell? ⟨gx, ox + 1, none⟩ = some (.string { data := #[] }) ∧ wz.cell? ⟨gx, ox + 2, none⟩ = some (.slice ko t91.k.length kc) ∧ wz.cell? ⟨b + 1 + 1 + 1 + 1 + 1 + 1 + 1 + 1 + 1, 3, none⟩ = some (.int .i64 0) ∧ wz.cell? ⟨b + 1 + 1 + 1 + 1 + 1 + 1 + 1 + 1 + 1, 4, none⟩ = some (.string { data := #[] }) ∧ wz.cell? ⟨b + 1 + 1 + 1 + 1 + 1 + 1 + 1 + 1 + 1, 5, none⟩ = some (.slice (some ⟨b + 1 + 1 + 1 + 1, 0, none⟩) 1 1) from ⟨HKZ.out.cell HPR.out.1 (by simp), HKZ.out.cell HPR.out.2.1 (by simp), HKZ.out.cell HPR.out.2.2.1 (by simp), HKZ.out.cell HPR.out.2.2.2.1 (by simp), HKZ.out.cell HPR.out.2.2.2.2.1 (by simp), HKZ.out.cell HPR.out.2.2.2.2.2 (by simp)⟩); clear hkz))
      go_wp2
      go_roundw
      case rel => exact ⟨2, rfl, by decide, HCK.out.trans HKZ.out (by simp)⟩
      case measure => simp [intOf]
    · rw [show ((2 : Nat) : Int) = 2 from rfl]
      have HPR := Lib.hid (show wr.cell? ⟨gx, ox, none⟩ = some (.int .i64 0) ∧ wr.cell? ⟨gx, ox + 1, none⟩ = some (.string { data := #[] }) ∧ wr.cell? ⟨gx, ox + 2, none⟩ = some (.slice ko t91.k.length kc) ∧ wr.cell? ⟨b + 1 + 1 + 1 + 1 + 1 + 1 + 1 + 1 + 1, 6, none⟩ = some (.int .i64 0) ∧ wr.cell? ⟨b + 1 + 1 + 1 + 1 + 1 + 1 + 1 + 1 + 1, 7, none⟩ = some (.string { data := #[] }) ∧ wr.cell? ⟨b + 1 + 1 + 1 + 1 + 1 + 1 + 1 + 1 + 1, 8, none⟩ = some (.slice (some ⟨b + 1 + 1 + 1 + 1 + 1 + 1 + 1 + 1, 0, none⟩) 1 1) from by
        have HZ := HZC.out wr (HKC.out.trans HCK.out (by simp))
        exact ⟨HCK.out.cell HX.out.1 (by simp), HCK.out.cell HX.out.2.1 (by simp), HCK.out.cell HX.out.2.2 (by simp), HZ.2.2.1, HZ.2.2.2.1, HZ.2.2.2.2⟩)
      have HC0 := Lib.hid (Chg.refl [] wr)
      have HSR := Lib.hid (show ∀ wx, Chg [] wr wx → Calls Try.prog 25 #[.agg #[.int .i64 0, .string { data := #[] }, .slice ko t91.k.length kc], .agg #[.int .i64 0, .string { data := #[] }, .slice (some ⟨b + 1 + 1 + 1 + 1 + 1 + 1 + 1 + 1, 0, none⟩) 1 1]] wx fun e w' => e = .returned (.bool false) ∧ Chg [] wx w' from fun wx hk => HS2.out wx _ ((HKC.out.trans HCK.out (by simp)).trans hk (by simp)) ((HKX.out.keep HCK.out).keep hk))
      go_upto_region 12 with fail
      go_region_held3 (fun w' => w'.cell? ⟨gx, ox, none⟩ = some (.int .i64 0) ∧ w'.cell? ⟨gx, ox + 1, none⟩ = some (.string { data := #[] }) ∧ w'.cell? ⟨gx, ox + 2, none⟩ = some (.slice ko t91.k.length kc) ∧ w'.cell? ⟨b + 1 + 1 + 1 + 1 + 1 + 1 + 1 + 1 + 1, 6, none⟩ = some (.int .i64 0) ∧ w'.cell? ⟨b + 1 + 1 + 1 + 1 + 1 + 1 + 1 + 1 + 1, 7, none⟩ = some (.string { data := #[] }) ∧ w'.cell? ⟨b + 1 + 1 + 1 + 1 + 1 + 1 + 1 + 1 + 1, 8, none⟩ = some (.slice (some ⟨b + 1 + 1 + 1 + 1 + 1 + 1 + 1 + 1, 0, none⟩) 1 1)) (first | exact HPR.out | exact HPR3.out) (first
        | (go_at_call 25; (with_reducible refine (HSR.out _ (by first | exact HC0.out | exact HC0.out.drew | exact HC0.out.drewN _)).mono ?_); rintro e wz ⟨rfl, hkz⟩; have HKZ := Lib.hid (show Chg [] wr wz from by first | exact hkz | exact (Chg.refl [] wr).drew.trans hkz (by simp) | exact ((Chg.refl [] wr).drewN _).trans hkz (by simp)); have HPR3 := Lib.hid (show wz.cell? ⟨gx, ox, none⟩ = some (.int .i64 0) ∧ wz.cell? ⟨gx, ox + 1, none⟩ = some (.string { data := #[] }) ∧ wz.cell? ⟨gx, ox + 2, none⟩ = some (.slice ko t91.k.length kc) ∧ wz.cell? ⟨b + 1 + 1 + 1 + 1 + 1 + 1 + 1 + 1 + 1, 6, none⟩ = some (.int .i64 0) ∧ wz.cell? ⟨b + 1 + 1 + 1 + 1 + 1 + 1 + 1 + 1 + 1, 7, none⟩ = some (.string { data := #[] }) ∧ wz.cell? ⟨b + 1 + 1 + 1 + 1 + 1 + 1 + 1 + 1 + 1, 8, none⟩ = some (.slice (some ⟨b + 1 + 1 + 1 + 1 + 1 + 1 + 1 + 1, 0, none⟩) 1 1) from ⟨HKZ.out.cell HPR.out.1 (by simp), HKZ.out.cell HPR.out.2.1 (by simp), HKZ.out.cell HPR.out.2.2.1 (by simp), HKZ.out.cell HPR.out.2.2.2.1 (by simp), HKZ.out.cell HPR.out.2.2.2.2.1 (by simp), HKZ.out.cell HPR.out.2.2.2.2.2 (by simp)⟩); clear hkz))
      go_wp2
      go_roundw
      case rel => exact ⟨3, rfl, by decide, HCK.out.trans HKZ.out (by simp)⟩
      case measure => simp [intOf]
    · rw [show ((3 : Nat) : Int) = 3 from rfl]
      go_wp2
      go_ret
      exact ⟨rfl, (((HC3.out.trans HKC.out (by simp)).trans HCK.out (by simp))).below (Nat.le_refl _) (by simp)⟩

set_option maxRecDepth 100000 in
set_option maxHeartbeats 4000000 in
theorem three_2 (a0 : Int) (w : World) (w0 : (Lit.int .i64 a0).wf = true) (hi : (a0 % ((3 : Nat) : Int)).toNat = 2) :
    Calls Try.prog 11 #[.int .i64 a0] w fun e w' => e = .returned (.bool true) ∧ Below w.heap.size w w' := by
  have HA := Lib.hid (fun wx => w9_int a0 3 3 wx rfl (by decide) (by decide) w0)
  rw [hi, show ((2 : Nat) : Int) = 2 from rfl] at HA
  clear hi w0
  go_enter Try.func11, Try.ntmps11
  go_wp2_with fail
  (with_reducible refine (known9_any _).mono ?_)
  rintro e wA ⟨rfl, hkA⟩
  have HKA := Lib.hid hkA
  clear hkA
  obtain ⟨b, hb⟩ : ∃ b, b = wA.heap.size := ⟨_, rfl⟩
  have HBB := Lib.hid hb
  obtain ⟨W3, hW3⟩ : ∃ W3, W3 = ((((((((((wA.alloc (.cells #[.string { data := #[109] }, .int .i64 0, .int .i64 0, .int .i64 1, .string { data := #[103] }, .int .i64 1, .int .i64 0, .int .i64 1, .string { data := #[116] }, .int .i64 1, .int .i64 4, .int .i64 0] 78)).alloc (.cells #[.slice none 0 0] 55)).alloc (.cells #[.slice none 0 0] 55)).alloc (.cells #[.int .i64 0, .string { data := #[] }, .slice (some ⟨wA.heap.size + 1 + 1, 0, none⟩) 1 1] 30)).alloc (.cells #[.slice (some ⟨wA.heap.size + 1 + 1 + 1, 0, none⟩) 1 1] 55)).alloc (.cells #[.int .i64 0, .string { data := #[] }, .slice none 0 0] 30)).alloc (.cells #[.slice (some ⟨wA.heap.size + 1 + 1 + 1 + 1 + 1, 0, none⟩) 1 1] 55)).alloc (.cells #[.int .i64 0, .string { data := #[] }, .slice (some ⟨wA.heap.size + 1 + 1 + 1 + 1 + 1 + 1, 0, none⟩) 1 1] 30)).alloc (.cells #[.slice (some ⟨wA.heap.size + 1 + 1 + 1 + 1 + 1 + 1 + 1, 0, none⟩) 1 1] 55)).alloc (.cells #[.int .i64 0, .string { data := #[] }, .slice (some ⟨wA.heap.size + 1, 0, none⟩) 1 1, .int .i64 0, .string { data := #[] }, .slice (some ⟨wA.heap.size + 1 + 1 + 1 + 1, 0, none⟩) 1 1, .int .i64 0, .string { data := #[] }, .slice (some ⟨wA.heap.size + 1 + 1 + 1 + 1 + 1 + 1 + 1 + 1, 0, none⟩) 1 1] 30)) := ⟨_, rfl⟩
  have HC3 := Lib.hid (show Chg [] w W3 by rw [hW3]; exact (((((((((HKA.out.alloc _).alloc _).alloc _).alloc _).alloc _).alloc _).alloc _).alloc _).alloc _).alloc _)
  have hb0 : W3.heap[b]? = some (.cells #[.string { data := #[109] }, .int .i64 0, .int .i64 0, .int .i64 1, .string { data := #[103] }, .int .i64 1, .int .i64 0, .int .i64 1, .string { data := #[116] }, .int .i64 1, .int .i64 4, .int .i64 0] 78 (0, 0)) := by rw [hW3, hb]; exact hl_old (hl_old (hl_old (hl_old (hl_old (hl_old (hl_old (hl_old (hl_old (hl_new (by try simp))))))))))
  have hb1 : W3.heap[b + 1]? = some (.cells #[.slice none 0 0] 55 (0, 0)) := by rw [hW3, hb]; exact hl_old (hl_old (hl_old (hl_old (hl_old (hl_old (hl_old (hl_old (hl_new (by try simp)))))))))
  have hb2 : W3.heap[b + 1 + 1]? = some (.cells #[.slice none 0 0] 55 (0, 0)) := by rw [hW3, hb]; exact hl_old (hl_old (hl_old (hl_old (hl_old (hl_old (hl_old (hl_new (by try simp))))))))
  have hb3 : W3.heap[b + 1 + 1 + 1]? = some (.cells #[.int .i64 0, .string { data := #[] }, .slice (some ⟨b + 1 + 1, 0, none⟩) 1 1] 30 (0, 0)) := by rw [hW3, hb]; exact hl_old (hl_old (hl_old (hl_old (hl_old (hl_old (hl_new (by try simp)))))))
  have hb4 : W3.heap[b + 1 + 1 + 1 + 1]? = some (.cells #[.slice (some ⟨b + 1 + 1 + 1, 0, none⟩) 1 1] 55 (0, 0)) := by rw [hW3, hb]; exact hl_old (hl_old (hl_old (hl_old (hl_old (hl_new (by try simp))))))
  have hb5 : W3.heap[b + 1 + 1 + 1 + 1 + 1]? = some (.cells #[.int .i64 0, .string { data := #[] }, .slice none 0 0] 30 (0, 0)) := by rw [hW3, hb]; exact hl_old (hl_old (hl_old (hl_old (hl_new (by try simp)))))
  have hb6 : W3.heap[b + 1 + 1 + 1 + 1 + 1 + 1]? = some (.cells #[.slice (some ⟨b + 1 + 1 + 1 + 1 + 1, 0, none⟩) 1 1] 55 (0, 0)) := by rw [hW3, hb]; exact hl_old (hl_old (hl_old (hl_new (by try simp))))
  have hb7 : W3.heap[b + 1 + 1 + 1 + 1 + 1 + 1 + 1]? = some (.cells #[.int .i64 0, .string { data := #[] }, .slice (some ⟨b + 1 + 1 + 1 + 1 + 1 + 1, 0, none⟩) 1 1] 30 (0, 0)) := by rw [hW3, hb]; exact hl_old (hl_old (hl_new (by try simp)))
  have hb8 : W3.heap[b + 1 + 1 + 1 + 1 + 1 + 1 + 1 + 1]? = some (.cells #[.slice (some ⟨b + 1 + 1 + 1 + 1 + 1 + 1 + 1, 0, none⟩) 1 1] 55 (0, 0)) := by rw [hW3, hb]; exact hl_old (hl_new (by try simp))
  have hb9 : W3.heap[b + 1 + 1 + 1 + 1 + 1 + 1 + 1 + 1 + 1]? = some (.cells #[.int .i64 0, .string { data := #[] }, .slice (some ⟨b + 1, 0, none⟩) 1 1, .int .i64 0, .string { data := #[] }, .slice (some ⟨b + 1 + 1 + 1 + 1, 0, none⟩) 1 1, .int .i64 0, .string { data := #[] }, .slice (some ⟨b + 1 + 1 + 1 + 1 + 1 + 1 + 1 + 1, 0, none⟩) 1 1] 30 (0, 0)) := by rw [hW3, hb]; exact hl_new (by try simp)
  have hsF : SeenF W3 (.slice (some ⟨b, 0, none⟩) 3 3) l39 := SeenF.blk hb0 l39 3 rfl rfl (by decide)
  have k1 : KidsAt W3 2 [[]] (.slice (some ⟨b + 1, 0, none⟩) 1 1) := kidsAt_lit (R := [([], nilS)]) hb1 rfl rfl (by decide) (by intro p hp; simp at hp; subst hp; exact list_nil)
  have k2 : KidsAt W3 2 [[]] (.slice (some ⟨b + 1 + 1, 0, none⟩) 1 1) := kidsAt_lit (R := [([], nilS)]) hb2 rfl rfl (by decide) (by intro p hp; simp at hp; subst hp; exact list_nil)
  have l3 : ListAt W3 2 [.mk 0 { data := #[] } [[]]] (.slice (some ⟨b + 1 + 1 + 1, 0, none⟩) 1 1) := listAt_lit hb3 [(.mk 0 { data := #[] } [[]], .slice (some ⟨b + 1 + 1, 0, none⟩) 1 1)] rfl rfl (by decide) (by intro p hp; simp at hp; subst hp; exact k2)
  have k4 : KidsAt W3 3 t91.k (.slice (some ⟨b + 1 + 1 + 1 + 1, 0, none⟩) 1 1) := kidsAt_lit (R := [([.mk 0 { data := #[] } [[]]], .slice (some ⟨b + 1 + 1 + 1, 0, none⟩) 1 1)]) hb4 rfl rfl (by decide) (by intro p hp; simp at hp; subst hp; exact l3)
  have l5 : ListAt W3 1 [.mk 0 { data := #[] } []] (.slice (some ⟨b + 1 + 1 + 1 + 1 + 1, 0, none⟩) 1 1) := listAt_lit hb5 [(.mk 0 { data := #[] } [], nilS)] rfl rfl (by decide) (by intro p hp; simp at hp; subst hp; exact kids_nil)
  have k6 : KidsAt W3 2 [[.mk 0 { data := #[] } []]] (.slice (some ⟨b + 1 + 1 + 1 + 1 + 1 + 1, 0, none⟩) 1 1) := kidsAt_lit (R := [([.mk 0 { data := #[] } []], .slice (some ⟨b + 1 + 1 + 1 + 1 + 1, 0, none⟩) 1 1)]) hb6 rfl rfl (by decide) (by intro p hp; simp at hp; subst hp; exact l5)
  have l7 : ListAt W3 2 [.mk 0 { data := #[] } [[.mk 0 { data := #[] } []]]] (.slice (some ⟨b + 1 + 1 + 1 + 1 + 1 + 1 + 1, 0, none⟩) 1 1) := listAt_lit hb7 [(.mk 0 { data := #[] } [[.mk 0 { data := #[] } []]], .slice (some ⟨b + 1 + 1 + 1 + 1 + 1 + 1, 0, none⟩) 1 1)] rfl rfl (by decide) (by intro p hp; simp at hp; subst hp; exact k6)
  have k8 : KidsAt W3 3 t92.k (.slice (some ⟨b + 1 + 1 + 1 + 1 + 1 + 1 + 1 + 1, 0, none⟩) 1 1) := kidsAt_lit (R := [([.mk 0 { data := #[] } [[.mk 0 { data := #[] } []]]], .slice (some ⟨b + 1 + 1 + 1 + 1 + 1 + 1 + 1, 0, none⟩) 1 1)]) hb8 rfl rfl (by decide) (by intro p hp; simp at hp; subst hp; exact l7)
  have k10 : KidsAt W3 3 t90.k (.slice (some ⟨b + 1, 0, none⟩) 1 1) := k1.mono (by decide)
  clear k1 k2 l3 l5 k6 l7 hb1 hb2 hb3 hb4 hb5 hb6 hb7 hb8
  have z0 : W3.cell? ⟨b + 1 + 1 + 1 + 1 + 1 + 1 + 1 + 1 + 1, 0, none⟩ = some (.int .i64 0) := by rw [cell_of_row _ _ 0 _ _ _ hb9]; rfl
  have z1 : W3.cell? ⟨b + 1 + 1 + 1 + 1 + 1 + 1 + 1 + 1 + 1, 1, none⟩ = some (.string { data := #[] }) := by rw [cell_of_row _ _ 1 _ _ _ hb9]; rfl
  have z2 : W3.cell? ⟨b + 1 + 1 + 1 + 1 + 1 + 1 + 1 + 1 + 1, 2, none⟩ = some (.slice (some ⟨b + 1, 0, none⟩) 1 1) := by rw [cell_of_row _ _ 2 _ _ _ hb9]; rfl
  have z3 : W3.cell? ⟨b + 1 + 1 + 1 + 1 + 1 + 1 + 1 + 1 + 1, 3, none⟩ = some (.int .i64 0) := by rw [cell_of_row _ _ 3 _ _ _ hb9]; rfl
  have z4 : W3.cell? ⟨b + 1 + 1 + 1 + 1 + 1 + 1 + 1 + 1 + 1, 4, none⟩ = some (.string { data := #[] }) := by rw [cell_of_row _ _ 4 _ _ _ hb9]; rfl
  have z5 : W3.cell? ⟨b + 1 + 1 + 1 + 1 + 1 + 1 + 1 + 1 + 1, 5, none⟩ = some (.slice (some ⟨b + 1 + 1 + 1 + 1, 0, none⟩) 1 1) := by rw [cell_of_row _ _ 5 _ _ _ hb9]; rfl
  have z6 : W3.cell? ⟨b + 1 + 1 + 1 + 1 + 1 + 1 + 1 + 1 + 1, 6, none⟩ = some (.int .i64 0) := by rw [cell_of_row _ _ 6 _ _ _ hb9]; rfl
  have z7 : W3.cell? ⟨b + 1 + 1 + 1 + 1 + 1 + 1 + 1 + 1 + 1, 7, none⟩ = some (.string { data := #[] }) := by rw [cell_of_row _ _ 7 _ _ _ hb9]; rfl
  have z8 : W3.cell? ⟨b + 1 + 1 + 1 + 1 + 1 + 1 + 1 + 1 + 1, 8, none⟩ = some (.slice (some ⟨b + 1 + 1 + 1 + 1 + 1 + 1 + 1 + 1, 0, none⟩) 1 1) := by rw [cell_of_row _ _ 8 _ _ _ hb9]; rfl
  have hL : ListAt W3 3 [t92] (.slice (some ⟨b + 1 + 1 + 1 + 1 + 1 + 1 + 1 + 1 + 1, 6, none⟩) 1 1) := listAt_one z6 z7 z8 k8 (by decide) (by decide)
  have hz : W3.heap.size = b + 1 + 1 + 1 + 1 + 1 + 1 + 1 + 1 + 1 + 1 := by rw [hW3, hb]; simp
  have HBY := Lib.hid (bytes_any (.slice (some ⟨b, 0, none⟩) 3 3) _ l39 ⟨bm8, 0, 0, 1⟩ fT9 [t92] 3 W3 hsF rfl rfl rfl rfl ⟨rfl, rfl, ⟨by decide, by decide, trivial⟩, trivial⟩ (by decide) (by decide) (by decide) hL (by intro t ht; simp at ht; subst ht; exact chk_l39.2.2.2) (by intro t ht; simp at ht; subst ht; exact ok_three.2.2) (by rw [wall_three.2.2]; decide))
  rw [wall_three.2.2] at HBY
  have HPA := Lib.hid (show ∀ wx bv, Chg [] W3 wx → Seen wx bv (nv .u8 [1, 1, 1, 0]) → Calls Try.prog 46 #[.slice (some ⟨b, 0, none⟩) 3 3, bv] wx fun e w' => ∃ gx ox cx kx, e = .returned (.tuple #[.slice (some ⟨gx, ox, none⟩) 1 cx, .int .i64 0]) ∧ (w'.cell? ⟨gx, ox, none⟩ = some (.int .i64 0) ∧ w'.cell? ⟨gx, ox + 1, none⟩ = some (.string { data := #[] }) ∧ w'.cell? ⟨gx, ox + 2, none⟩ = some kx ∧ KidsAt w' 4 t92.k kx) ∧ Chg [] wx w' from fun wx bv hk hs => by
    refine (parse_any9 _ bv l39 ⟨bm8, 0, 0, 1⟩ fT9 [1, 1, 1, 0] wx (hsF.keep hk) rfl rfl rfl rfl ⟨rfl, rfl, ⟨by decide, by decide, trivial⟩, trivial⟩ chk_l39.1 (by decide) (by decide) (by decide) hs (by decide) (by decide)).mono ?_
    rintro e w' ⟨lv, rfl, hl, h⟩
    rw [pall_three.2.2] at hl ⊢
    obtain ⟨lo, lc, rfl, -, -⟩ := hl.shape
    obtain ⟨gx, ox, rfl, hc⟩ := hl.at.get (by simp)
    obtain ⟨kv, x0, x1, x2, x3⟩ := hc 0 _ rfl
    exact ⟨gx, ox, lc, kv, rfl, ⟨(by simpa using x0 : w'.cell? ⟨gx, ox, none⟩ = some (.int .i64 t92.n)), (by simpa using x1 : w'.cell? ⟨gx, ox + 1, none⟩ = some (.string t92.s)), by simpa using x2, x3.mono (by decide)⟩, h⟩)
  have HS0 := Lib.hid (show ∀ wx kx, Chg [] W3 wx → KidsAt wx 4 t92.k kx → Calls Try.prog 25 #[.agg #[.int .i64 0, .string { data := #[] }, kx], .agg #[.int .i64 0, .string { data := #[] }, .slice (some ⟨b + 1, 0, none⟩) 1 1]] wx fun e w' => e = .returned (.bool false) ∧ Chg [] wx w' from fun wx kx hk hkx => by
    refine (rsame8_any 4 t92 t90 kx _ wx hkx (((k10.keep hk).mono (by decide)))).mono ?_
    rintro e w' ⟨⟨r, rfl, hr⟩, h⟩
    have : r = false := by cases r; rfl; exact absurd (hr.1 rfl) ((fun e => apart_three.2.1 e.symm))
    rw [this]
    exact ⟨rfl, h⟩)
  have HS1 := Lib.hid (show ∀ wx kx, Chg [] W3 wx → KidsAt wx 4 t92.k kx → Calls Try.prog 25 #[.agg #[.int .i64 0, .string { data := #[] }, kx], .agg #[.int .i64 0, .string { data := #[] }, .slice (some ⟨b + 1 + 1 + 1 + 1, 0, none⟩) 1 1]] wx fun e w' => e = .returned (.bool false) ∧ Chg [] wx w' from fun wx kx hk hkx => by
    refine (rsame8_any 4 t92 t91 kx _ wx hkx (((k4.keep hk).mono (by decide)))).mono ?_
    rintro e w' ⟨⟨r, rfl, hr⟩, h⟩
    have : r = false := by cases r; rfl; exact absurd (hr.1 rfl) ((fun e => apart_three.2.2 e.symm))
    rw [this]
    exact ⟨rfl, h⟩)
  have HS2 := Lib.hid (show ∀ wx kx, Chg [] W3 wx → KidsAt wx 4 t92.k kx → Calls Try.prog 25 #[.agg #[.int .i64 0, .string { data := #[] }, kx], .agg #[.int .i64 0, .string { data := #[] }, .slice (some ⟨b + 1 + 1 + 1 + 1 + 1 + 1 + 1 + 1, 0, none⟩) 1 1]] wx fun e w' => e = .returned (.bool true) ∧ Chg [] wx w' from fun wx kx hk hkx => by
    refine (rsame8_any 4 t92 t92 kx _ wx hkx (((k8.keep hk).mono (by decide)))).mono ?_
    rintro e w' ⟨⟨r, rfl, hr⟩, h⟩
    have : r = true := by exact hr.2 rfl
    rw [this]
    exact ⟨rfl, h⟩)
  have HZC := Lib.hid (show ∀ wx, Chg [] W3 wx → (wx.cell? ⟨b + 1 + 1 + 1 + 1 + 1 + 1 + 1 + 1 + 1, 0, none⟩ = some (.int .i64 0) ∧ wx.cell? ⟨b + 1 + 1 + 1 + 1 + 1 + 1 + 1 + 1 + 1, 1, none⟩ = some (.string { data := #[] }) ∧ wx.cell? ⟨b + 1 + 1 + 1 + 1 + 1 + 1 + 1 + 1 + 1, 2, none⟩ = some (.slice (some ⟨b + 1, 0, none⟩) 1 1)) ∧ (wx.cell? ⟨b + 1 + 1 + 1 + 1 + 1 + 1 + 1 + 1 + 1, 3, none⟩ = some (.int .i64 0) ∧ wx.cell? ⟨b + 1 + 1 + 1 + 1 + 1 + 1 + 1 + 1 + 1, 4, none⟩ = some (.string { data := #[] }) ∧ wx.cell? ⟨b + 1 + 1 + 1 + 1 + 1 + 1 + 1 + 1 + 1, 5, none⟩ = some (.slice (some ⟨b + 1 + 1 + 1 + 1, 0, none⟩) 1 1)) ∧ (wx.cell? ⟨b + 1 + 1 + 1 + 1 + 1 + 1 + 1 + 1 + 1, 6, none⟩ = some (.int .i64 0) ∧ wx.cell? ⟨b + 1 + 1 + 1 + 1 + 1 + 1 + 1 + 1 + 1, 7, none⟩ = some (.string { data := #[] }) ∧ wx.cell? ⟨b + 1 + 1 + 1 + 1 + 1 + 1 + 1 + 1 + 1, 8, none⟩ = some (.slice (some ⟨b + 1 + 1 + 1 + 1 + 1 + 1 + 1 + 1, 0, none⟩) 1 1)) from fun wx hk => ⟨⟨hk.cell z0 (by simp), hk.cell z1 (by simp), hk.cell z2 (by simp)⟩, ⟨hk.cell z3 (by simp), hk.cell z4 (by simp), hk.cell z5 (by simp)⟩, ⟨hk.cell z6 (by simp), hk.cell z7 (by simp), hk.cell z8 (by simp)⟩⟩)
  have HW3 := Lib.hid hW3
  clear k10 k4 k8 hb0 hb9 hsF hL z0 z1 z2 z3 z4 z5 z6 z7 z8 hz hW3 hb
  go_wp2_with (first
    | (go_at_call 49; (with_reducible refine (HA.out _).mono ?_); rintro e wq ⟨rfl, rfl⟩)
    | fail)
  rw [← HW3.out, ← HBB.out]
  (with_reducible refine HBY.out.mono ?_)
  rintro e wB ⟨x, rfl, hkB, hoB⟩
  simp only [List.length_cons, List.length_nil, Nat.zero_add, Nat.reduceAdd] at hoB
  obtain ⟨xa, xc, rfl⟩ := own_shape hoB
  have HKB := Lib.hid hkB
  have HP := Lib.hid (HPA.out wB _ hkB (reads_of_own hoB).seen)
  clear hkB hoB
  go_wp2_with fail
  (with_reducible refine HP.out.mono ?_)
  rintro e wC ⟨gx, ox, cx, kx, rfl, ⟨x0, x1, x2, hkx⟩, hkC⟩
  obtain ⟨ko, kc, rfl, -, -⟩ := hkx.shape
  have HKC := Lib.hid (HKB.out.trans hkC (by simp))
  have HKX := Lib.hid hkx
  have HX := Lib.hid (show wC.cell? ⟨gx, ox, none⟩ = some (.int .i64 0) ∧ wC.cell? ⟨gx, ox + 1, none⟩ = some (.string { data := #[] }) ∧ wC.cell? ⟨gx, ox + 2, none⟩ = some (.slice ko t92.k.length kc) from ⟨x0, x1, x2⟩)
  clear hkC hkx x0 x1 x2
  go_wp2
  go_loopw [8] (fun x w' => ∃ k : Nat, x = .int .i64 (k : Int) ∧ k ≤ 3 ∧ Chg [] wC w') (fun x _ => 3 - (intOf x).toNat)
  case atStart => exact ⟨0, rfl, by decide, Chg.refl _ _⟩
  case round =>
    obtain ⟨k, rfl, hk3, hck⟩ := hrel
    have HCK := Lib.hid hck
    have hkk : k = 0 ∨ k = 1 ∨ k = 2 ∨ k = 3 := by omega
    clear hck hk3
    rcases hkk with rfl | rfl | rfl | rfl
    · rw [show ((0 : Nat) : Int) = 0 from rfl]
      have HPR := Lib.hid (show wr.cell? ⟨gx, ox, none⟩ = some (.int .i64 0) ∧ wr.cell? ⟨gx, ox + 1, none⟩ = some (.string { data := #[] }) ∧ wr.cell? ⟨gx, ox + 2, none⟩ = some (.slice ko t92.k.length kc) ∧ wr.cell? ⟨b + 1 + 1 + 1 + 1 + 1 + 1 + 1 + 1 + 1, 0, none⟩ = some (.int .i64 0) ∧ wr.cell? ⟨b + 1 + 1 + 1 + 1 + 1 + 1 + 1 + 1 + 1, 1, none⟩ = some (.string { data := #[] }) ∧ wr.cell? ⟨b + 1 + 1 + 1 + 1 + 1 + 1 + 1 + 1 + 1, 2, none⟩ = some (.slice (some ⟨b + 1, 0, none⟩) 1 1) from by
        have HZ := HZC.out wr (HKC.out.trans HCK.out (by simp))
        exact ⟨HCK.out.cell HX.out.1 (by simp), HCK.out.cell HX.out.2.1 (by simp), HCK.out.cell HX.out.2.2 (by simp), HZ.1.1, HZ.1.2.1, HZ.1.2.2⟩)
      have HC0 := Lib.hid (Chg.refl [] wr)
      have HSR := Lib.hid (show ∀ wx, Chg [] wr wx → Calls Try.prog 25 #[.agg #[.int .i64 0, .string { data := #[] }, .slice ko t92.k.length kc], .agg #[.int .i64 0, .string { data := #[] }, .slice (some ⟨b + 1, 0, none⟩) 1 1]] wx fun e w' => e = .returned (.bool false) ∧ Chg [] wx w' from fun wx hk => HS0.out wx _ ((HKC.out.trans HCK.out (by simp)).trans hk (by simp)) ((HKX.out.keep HCK.out).keep hk))
      go_upto_region 12 with fail
      go_region_held3 (fun w' => w'.cell? ⟨gx, ox, none⟩ = some (.int .i64 0) ∧ w'.cell? ⟨gx, ox + 1, none⟩ = some (.string { data := #[] }) ∧ w'.cell? ⟨gx, ox + 2, none⟩ = some (.slice ko t92.k.length kc) ∧ w'.cell? ⟨b + 1 + 1 + 1 + 1 + 1 + 1 + 1 + 1 + 1, 0, none⟩ = some (.int .i64 0) ∧ w'.cell? ⟨b + 1 + 1 + 1 + 1 + 1 + 1 + 1 + 1 + 1, 1, none⟩ = some (.string { data := #[] }) ∧ w'.cell? ⟨b + 1 + 1 + 1 + 1 + 1 + 1 + 1 + 1 + 1, 2, none⟩ = some (.slice (some ⟨b + 1, 0, none⟩) 1 1)) (first | exact HPR.out | exact HPR3.out) (first
        | (go_at_call 25; (with_reducible refine (HSR.out _ (by first | exact HC0.out | exact HC0.out.drew | exact HC0.out.drewN _)).mono ?_); rintro e wz ⟨rfl, hkz⟩; have HKZ := Lib.hid (show Chg [] wr wz from by first | exact hkz | exact (Chg.refl [] wr).drew.trans hkz (by simp) | exact ((Chg.refl [] wr).drewN _).trans hkz (by simp)); have HPR3 := Lib.hid (show wz.cell? ⟨gx, ox, none⟩ = some (.int .i64 0) ∧ wz.cell? ⟨gx, ox + 1, none⟩ = some (.string { data := #[] }) ∧ wz.cell? ⟨gx, ox + 2, none⟩ = some (.slice ko t92.k.length kc) ∧ wz.cell? ⟨b + 1 + 1 + 1 + 1 + 1 + 1 + 1 + 1 + 1, 0, none⟩ = some (.int .i64 0) ∧ wz.cell? ⟨b + 1 + 1 + 1 + 1 + 1 + 1 + 1 + 1 + 1, 1, none⟩ = some (.string { data := #[] }) ∧ wz.cell? ⟨b + 1 + 1 + 1 + 1 + 1 + 1 + 1 + 1 + 1, 2, none⟩ = some (.slice (some ⟨b + 1, 0, none⟩) 1 1) from ⟨HKZ.out.cell HPR.out.1 (by simp), HKZ.out.cell HPR.out.2.1 (by simp), HKZ.out.cell HPR.out.2.2.1 (by simp), HKZ.out.cell HPR.out.2.2.2.1 (by simp), HKZ.out.cell HPR.out.2.2.2.2.1 (by simp), HKZ.out.cell HPR.out.2.2.2.2.2 (by simp)⟩); clear hkz))
      go_wp2
      go_roundw
      case rel => exact ⟨1, rfl, by decide, HCK.out.trans HKZ.out (by simp)⟩
      case measure => simp [intOf]
    · rw [show ((1 : Nat) : Int) = 1 from rfl]
      have HPR := Lib.hid (show wr.cell? ⟨gx, ox, none⟩ = some (.int .i64 0) ∧ wr.cell? ⟨gx, ox + 1, none⟩ = some (.string { data := #[] }) ∧ wr.cell? ⟨gx, ox + 2, none⟩ = some (.slice ko t92.k.length kc) ∧ wr.cell? ⟨b + 1 + 1 + 1 + 1 + 1 + 1 + 1 + 1 + 1, 3, none⟩ = some (.int .i64 0) ∧ wr.cell? ⟨b + 1 + 1 + 1 + 1 + 1 + 1 + 1 + 1 + 1, 4, none⟩ = some (.string { data := #[] }) ∧ wr.cell? ⟨b + 1 + 1 + 1 + 1 + 1 + 1 + 1 + 1 + 1, 5, none⟩ = some (.slice (some ⟨b + 1 + 1 + 1 + 1, 0, none⟩) 1 1) from by
        have HZ := HZC.out wr (HKC.out.trans HCK.out (by simp))
        exact ⟨HCK.out.cell HX.out.1 (by simp), HCK.out.cell HX.out.2.1 (by simp), HCK.out.cell HX.out.2.2 (by simp), HZ.2.1.1, HZ.2.1.2.1, HZ.2.1.2.2⟩)
      have HC0 := Lib.hid (Chg.refl [] wr)
      have HSR := Lib.hid (show ∀ wx, Chg [] wr wx → Calls Try.prog 25 #[.agg #[.int .i64 0, .string { data := #[] }, .slice ko t92.k.length kc], .agg #[.int .i64 0, .string { data := #[] }, .slice (some ⟨b + 1 + 1 + 1 + 1, 0, none⟩) 1 1]] wx fun e w' => e = .returned (.bool false) ∧ Chg [] wx w' from fun wx hk => HS1.out wx _ ((HKC.out.trans HCK.out (by simp)).trans hk (by simp)) ((HKX.out.keep HCK.out).keep hk))
      go_upto_region 12 with fail
      go_region_held3 (fun w' => w'.cell? ⟨gx, ox, none⟩ = some (.int .i64 0) ∧ w'.cell? ⟨gx, ox + 1, none⟩ = some (.string { data := #[] }) ∧ w'.cell? ⟨gx, ox + 2, none⟩ = some (.slice ko t92.k.length kc) ∧ w'.cell? ⟨b + 1 + 1 + 1 + 1 + 1 + 1 + 1 + 1 + 1, 3, none⟩ = some (.int .i64 0) ∧ w'.cell? ⟨b + 1 + 1 + 1 + 1 + 1 + 1 + 1 + 1 + 1, 4, none⟩ = some (.string { data := #[] }) ∧ w'.cell? ⟨b + 1 + 1 + 1 + 1 + 1 + 1 + 1 + 1 + 1, 5, none⟩ = some (.slice (some ⟨b + 1 + 1 + 1 + 1, 0, none⟩) 1 1)) (first | exact HPR.out | exact HPR3.out) (first
        | (go_at_call 25; (with_reducible refine (HSR.out _ (by first | exact HC0.out | exact HC0.out.drew | exact HC0.out.drewN _)).mono ?_); rintro e wz ⟨rfl, hkz⟩; have HKZ := Lib.hid (show Chg [] wr wz from by first | exact hkz | exact (Chg.refl [] wr).drew.trans hkz (by simp) | exact ((Chg.refl [] wr).drewN _).trans hkz (by simp)); have HPR3 := Lib.hid (show wz.cell? ⟨gx, ox, none⟩ = some (.int .i64 0) ∧ wz.cell? ⟨gx, ox + 1, none⟩ = some (.string { data := #[] }) ∧ wz.cell? ⟨gx, ox + 2, none⟩ = some (.slice ko t92.k.length kc) ∧ wz.cell? ⟨b + 1 + 1 + 1 + 1 + 1 + 1 + 1 + 1 + 1, 3, none⟩ = some (.int .i64 0) ∧ wz.cell? ⟨b + 1 + 1 + 1 + 1 + 1 + 1 + 1 + 1 + 1, 4, none⟩ = some (.string { data := #[] }) ∧ wz.cell? ⟨b + 1 + 1 + 1 + 1 + 1 + 1 + 1 + 1 + 1, 5, none⟩ = some (.slice (some ⟨b + 1 + 1 + 1 + 1, 0, none⟩) 1 1) from ⟨HKZ.out.cell HPR.out.1 (by simp), HKZ.out.cell HPR.out.2.1 (by simp), HKZ.out.cell HPR.out.2.2.1 (by simp), HKZ.out.cell HPR.out.2.2.2.1 (by simp), HKZ.out.cell HPR.out.2.2.2.2.1 (by simp), HKZ.out.cell HPR.out.2.2.2.2.2 (by simp)⟩); clear hkz))
      go_wp2
      go_roundw
      case rel => exact ⟨2, rfl, by decide, HCK.out.trans HKZ.out (by simp)⟩
      case measure => simp [intOf]
    · rw [show ((2 : Nat) : Int) = 2 from rfl]
      have HPR := Lib.hid (show wr.cell? ⟨gx, ox, none⟩ = some (.int .i64 0) ∧ wr.cell? ⟨gx, ox + 1, none⟩ = some (.string { data := #[] }) ∧ wr.cell? ⟨gx, ox + 2, none⟩ = some (.slice ko t92.k.length kc) ∧ wr.cell? ⟨b + 1 + 1 + 1 + 1 + 1 + 1 + 1 + 1 + 1, 6, none⟩ = some (.int .i64 0) ∧ wr.cell? ⟨b + 1 + 1 + 1 + 1 + 1 + 1 + 1 + 1 + 1, 7, none⟩ = some (.string { data := #[] }) ∧ wr.cell? ⟨b + 1 + 1 + 1 + 1 + 1 + 1 + 1 + 1 + 1, 8, none⟩ = some (.slice (some ⟨b + 1 + 1 + 1 + 1 + 1 + 1 + 1 + 1, 0, none⟩) 1 1) from by
        have HZ := HZC.out wr (HKC.out.trans HCK.out (by simp))
        exact ⟨HCK.out.cell HX.out.1 (by simp), HCK.out.cell HX.out.2.1 (by simp), HCK.out.cell HX.out.2.2 (by simp), HZ.2.2.1, HZ.2.2.2.1, HZ.2.2.2.2⟩)
      have HC0 := Lib.hid (Chg.refl [] wr)
      have HSR := Lib.hid (show ∀ wx, Chg [] wr wx → Calls Try.prog 25 #[.agg #[.int .i64 0, .string { data := #[] }, .slice ko t92.k.length kc], .agg #[.int .i64 0, .string { data := #[] }, .slice (some ⟨b + 1 + 1 + 1 + 1 + 1 + 1 + 1 + 1, 0, none⟩) 1 1]] wx fun e w' => e = .returned (.bool true) ∧ Chg [] wx w' from fun wx hk => HS2.out wx _ ((HKC.out.trans HCK.out (by simp)).trans hk (by simp)) ((HKX.out.keep HCK.out).keep hk))
      go_upto_region 12 with fail
      go_region_held3 (fun w' => w'.cell? ⟨gx, ox, none⟩ = some (.int .i64 0) ∧ w'.cell? ⟨gx, ox + 1, none⟩ = some (.string { data := #[] }) ∧ w'.cell? ⟨gx, ox + 2, none⟩ = some (.slice ko t92.k.length kc) ∧ w'.cell? ⟨b + 1 + 1 + 1 + 1 + 1 + 1 + 1 + 1 + 1, 6, none⟩ = some (.int .i64 0) ∧ w'.cell? ⟨b + 1 + 1 + 1 + 1 + 1 + 1 + 1 + 1 + 1, 7, none⟩ = some (.string { data := #[] }) ∧ w'.cell? ⟨b + 1 + 1 + 1 + 1 + 1 + 1 + 1 + 1 + 1, 8, none⟩ = some (.slice (some ⟨b + 1 + 1 + 1 + 1 + 1 + 1 + 1 + 1, 0, none⟩) 1 1)) (first | exact HPR.out | exact HPR3.out) (first
        | (go_at_call 25; (with_reducible refine (HSR.out _ (by first | exact HC0.out | exact HC0.out.drew | exact HC0.out.drewN _)).mono ?_); rintro e wz ⟨rfl, hkz⟩; have HKZ := Lib.hid (show Chg [] wr wz from by first | exact hkz | exact (Chg.refl [] wr).drew.trans hkz (by simp) | exact ((Chg.refl [] wr).drewN _).trans hkz (by simp)); have HPR3 := Lib.hid (show wz.cell? ⟨gx, ox, none⟩ = some (.int .i64 0) ∧ wz.cell? ⟨gx, ox + 1, none⟩ = some (.string { data := #[] }) ∧ wz.cell? ⟨gx, ox + 2, none⟩ = some (.slice ko t92.k.length kc) ∧ wz.cell? ⟨b + 1 + 1 + 1 + 1 + 1 + 1 + 1 + 1 + 1, 6, none⟩ = some (.int .i64 0) ∧ wz.cell? ⟨b + 1 + 1 + 1 + 1 + 1 + 1 + 1 + 1 + 1, 7, none⟩ = some (.string { data := #[] }) ∧ wz.cell? ⟨b + 1 + 1 + 1 + 1 + 1 + 1 + 1 + 1 + 1, 8, none⟩ = some (.slice (some ⟨b + 1 + 1 + 1 + 1 + 1 + 1 + 1 + 1, 0, none⟩) 1 1) from ⟨HKZ.out.cell HPR.out.1 (by simp), HKZ.out.cell HPR.out.2.1 (by simp), HKZ.out.cell HPR.out.2.2.1 (by simp), HKZ.out.cell HPR.out.2.2.2.1 (by simp), HKZ.out.cell HPR.out.2.2.2.2.1 (by simp), HKZ.out.cell HPR.out.2.2.2.2.2 (by simp)⟩); clear hkz))
      go_wp2
      go_roundw
      case rel => exact ⟨3, rfl, by decide, HCK.out.trans HKZ.out (by simp)⟩
      case measure => simp [intOf]
    · rw [show ((3 : Nat) : Int) = 3 from rfl]
      go_wp2
      go_ret
      exact ⟨rfl, (((HC3.out.trans HKC.out (by simp)).trans HCK.out (by simp))).below (Nat.le_refl _) (by simp)⟩

theorem walk_WireThree (a0 : Int) (w : World) (w0 : (Lit.int .i64 a0).wf = true) :
    Calls Try.prog 11 #[.int .i64 a0] w fun e w' => e = .returned (.bool true) ∧ Below w.heap.size w w' := by
  have h := within_lt a0 3 (by decide)
  have h3 : (a0 % ((3 : Nat) : Int)).toNat = 0 ∨ (a0 % ((3 : Nat) : Int)).toNat = 1 ∨ (a0 % ((3 : Nat) : Int)).toNat = 2 := by omega
  rcases h3 with h3 | h3 | h3
  · exact three_0 a0 w w0 h3
  · exact three_1 a0 w w0 h3
  · exact three_2 a0 w w0 h3

end Go.Proofs.Ythhcnlmjcpkbnaa
