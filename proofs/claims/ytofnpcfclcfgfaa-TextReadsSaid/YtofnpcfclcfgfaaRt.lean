/- Contract of the reference's print: a field's text, at its depth. -/
import Derived.Test.YtofnpcfclcfgfaaA9
import Derived.Test.YtofnpcfclcfgfaaA8
import Derived.Test.YtofnpcfclcfgfaaA7
import Derived.Test.YtofnpcfclcfgfaaA1
import Derived.Test.YtofnpcfclcfgfaaMw
namespace Go.Proofs.Ytofnpcfclcfgfaa
open Go.RowKit
set_option linter.unusedVariables false

def flatO : Option Fo → List F
  | none => []
  | some k => k.flat
def okO (f : F) : Option Fo → Prop
  | none => f.k ≠ 0 ∧ f.c = 0
  | some k => f.k = 0 ∧ f.c = k.num ∧ k.ok
/-- The text of one field with what is in it. -/
def txt1 (d : Nat) (f : F) : Option Fo → ByteArray
  | none => headS d f ++ { data := #[59, 10] }
  | some k => headS d f ++ { data := #[32, 123, 10] } ++ txt (d + 1) k ++ blkS d ++ { data := #[125, 10] }

theorem Fo.cut (fo : Fo) (d : Nat) (h : fo.num ≠ 0) (hok : fo.ok) : ∃ (f : F) (ko : Option Fo) (t : Fo), fo.flat = f :: (flatO ko ++ t.flat) ∧ txt d fo = txt1 d f ko ++ txt d t ∧ fo.num = t.num + 1 ∧ okO f ko ∧ t.ok := by
  cases fo with
  | nil => exact absurd rfl h
  | leaf f t => exact ⟨f, none, t, rfl, rfl, rfl, ⟨hok.1, hok.2.1⟩, hok.2.2⟩
  | group f k t => exact ⟨f, some k, t, rfl, rfl, rfl, ⟨hok.1, hok.2.1, hok.2.2.1⟩, hok.2.2.2⟩

theorem ba_nil (a : ByteArray) : a ++ ({ data := #[] } : ByteArray) = a := ByteArray.append_empty

theorem lit_cell {W : World} {T : TypeId} {C : Array Value} {l : List ByteArray} {r : Nat} {g : Nat} {x : ByteArray} (hC : C.toList = sv l) (hr : r < l.length) (hg : g = W.heap.size) (hx : l.getD r ByteArray.empty = x) : (W.alloc (.cells C T)).cell? ⟨g, r, none⟩ = some (.string x) := by
  have h := new_cells (w := W) (T := T) (C := C) g hg r (.string x) (by rw [hC, ← hx]; simp [sv, List.getD, List.getElem?_eq_getElem hr])
  rw [addr_add, Nat.zero_add] at h
  exact h

theorem lit_heap {w : World} {T : TypeId} {C : Array Value} {l : List ByteArray} {r g : Nat} {x : ByteArray} {fr : Nat × Nat} (h : w.heap[g]? = some (.cells C T fr)) (hC : C.toList = sv l) (hr : r < l.length) (hx : l.getD r ByteArray.empty = x) : w.cell? ⟨g, r, none⟩ = some (.string x) := by
  rw [cell_of_row w g r _ _ _ h, ← Array.getElem?_toList, hC, ← hx]
  simp [sv, List.getD, List.getElem?_eq_getElem hr]

abbrev FRP4 (s0 : Value) (i d B r k : Nat) (x y : ByteArray) (base u : Nat → Value) : Act := { tmps := #[s0, .int .i64 (i : Int), .int .i64 (d : Int), undef, undef, undef, .string { data := #[] }, .int .i64 0, .pointer (some ⟨B, 0, none⟩), u 9, undef, undef, undef, undef, base 14, base 15, base 16, base 17, base 18, base 19, u 20, u 21, u 22, u 23, u 24, u 25, u 26, u 27, u 28, u 29, u 30, u 31, u 32, u 33, u 34, u 35, undef, undef, undef, undef, undef, undef, undef, undef, undef, undef, undef, undef, undef, undef, undef, undef, undef, undef, undef, undef, undef, undef, undef, undef, undef, undef, undef, undef, undef, undef, undef, undef, undef, undef, undef, undef, undef, undef, undef], defers := [] }

structure RIP4 (s0 : Value) (i d B r k : Nat) (x y : ByteArray) (wc : World) (b : Nat → Bool) (u : Nat → Value) (g1 g2 : Nat) (w' : World) : Prop where
  c0 : b 0 = true → u 20 = .int .i64 (d : Int)
  c1 : b 1 = true → u 21 = .string (blkS d)
  c2 : b 2 = true → u 22 = .slice (some ⟨g1, 0, none⟩) 3 3
  c3 : b 3 = true → u 23 = .pointer (some ⟨B, 1, none⟩)
  c4 : b 4 = true → u 24 = .int .i64 (r : Int)
  c5 : b 5 = true → u 25 = .pointer (some ⟨g1, r, none⟩)
  c6 : b 6 = true → u 26 = .string x
  c7 : b 7 = true → u 27 = .string (blkS d ++ x)
  c8 : b 8 = true → u 28 = .string (blkS d ++ x ++ ({ data := #[32] } : ByteArray))
  c9 : b 9 = true → u 29 = .slice (some ⟨g2, 0, none⟩) 5 5
  c10 : b 10 = true → u 30 = .pointer (some ⟨B, 2, none⟩)
  c11 : b 11 = true → u 31 = .int .i64 (k : Int)
  c12 : b 12 = true → u 32 = .pointer (some ⟨g2, k, none⟩)
  c13 : b 13 = true → u 33 = .string y
  c14 : b 14 = true → u 34 = .string (blkS d ++ x ++ ({ data := #[32] } : ByteArray) ++ y)
  c15 : b 15 = true → u 35 = .string (blkS d ++ x ++ ({ data := #[32] } : ByteArray) ++ y ++ ({ data := #[32] } : ByteArray))
  c16 : b 16 = true → u 9 = .string (blkS d ++ x ++ ({ data := #[32] } : ByteArray) ++ y ++ ({ data := #[32] } : ByteArray))
  cg : Chg [] wc w'
  m2 : b 2 = true → w'.heap[g1]? = some (.cells #[.string { data := #[114, 101, 113, 117, 105, 114, 101, 100] }, .string { data := #[111, 112, 116, 105, 111, 110, 97, 108] }, .string { data := #[114, 101, 112, 101, 97, 116, 101, 100] }] 9 (0, 0)) ∧ wc.heap.size ≤ g1
  m9 : b 9 = true → w'.heap[g2]? = some (.cells #[.string { data := #[103, 114, 111, 117, 112] }, .string { data := #[98, 111, 111, 108] }, .string { data := #[105, 110, 116, 51, 50] }, .string { data := #[105, 110, 116, 54, 52] }, .string { data := #[98, 121, 116, 101, 115] }] 9 (0, 0)) ∧ wc.heap.size ≤ g2
  z5_2 : b 5 = true → b 2 = true
  z12_9 : b 12 = true → b 9 = true

def JIP4 (s0 : Value) (i d B r k : Nat) (x y : ByteArray) (wc : World) (listed : Array Bool) (a' : Act) (w' : World) : Prop :=
  ∃ (b : Nat → Bool) (base u : Nat → Value) (g1 g2 : Nat), listed = #[b 0, b 1, b 2, b 3, b 4, b 5, b 6, b 7, b 8, b 9, b 10, b 11, b 12, b 13, b 14, b 15, b 16] ∧ a' = FRP4 s0 i d B r k x y base u ∧ RIP4 s0 i d B r k x y wc b u g1 g2 w'

theorem JIP4_start {s0 : Value} {i d B r k : Nat} {x y : ByteArray} {wc w' : World} {a : Act} (h : a = FRP4 s0 i d B r k x y (fun j => a.tmps.getD j undef) (fun j => a.tmps.getD j undef)) (hc : Chg [] wc w') : JIP4 s0 i d B r k x y wc (Array.replicate 17 false) a w' :=
  ⟨fun _ => false, _, _, 0, 0, rfl, h, by constructor <;> simp [hc]⟩

theorem ltP4 : ∀ i : Nat, i < 17 → i = 0 ∨ i = 1 ∨ i = 2 ∨ i = 3 ∨ i = 4 ∨ i = 5 ∨ i = 6 ∨ i = 7 ∨ i = 8 ∨ i = 9 ∨ i = 10 ∨ i = 11 ∨ i = 12 ∨ i = 13 ∨ i = 14 ∨ i = 15 ∨ i = 16 := by decide


theorem ret_si {x y : ByteArray} {a b : Int} (h : x = y) (h' : a = b) : Ending.returned (.tuple #[.string x, .int .i64 a]) = .returned (.tuple #[.string y, .int .i64 b]) := by rw [h, h']

theorem Fo.num_le (fo : Fo) : fo.num ≤ fo.flat.length := by
  induction fo with
  | nil => exact Nat.le_refl _
  | leaf f t ih => simp [Fo.num, Fo.flat]; exact ih
  | group f k t ihk iht => simp [Fo.num, Fo.flat]; omega

/-- How the loop over a group's fields stands. -/
structure RtJ (W wx : World) (d i : Nat) (kk : Fo) (l rest : List F) (H out : ByteArray) (m c : Nat) (rem : Fo) : Prop where
  eq : out ++ txt (d + 1) rem = H ++ txt (d + 1) kk
  dr : l.drop m = rem.flat ++ rest
  nm : c + rem.num = kk.num
  ok : rem.ok
  sub : rem.flat.length ≤ kk.flat.length
  len : m + rem.flat.length = i + 1 + kk.flat.length
  mem : ∀ x ∈ rem.flat, FFine x
  cg : Chg [] W wx

theorem Fo.num_nil {fo : Fo} (h : fo.num = 0) : fo = .nil := by
  cases fo with
  | nil => rfl
  | leaf f t => simp [Fo.num] at h
  | group f k t => simp [Fo.num] at h

def RPrint (N : Nat) : Prop := ∀ (f : F) (ko : Option Fo) (l rest : List F) (i d : Nat) (sl : Value) (w : World), (flatO ko).length < N → okO f ko → (∀ x ∈ f :: flatO ko, FFine x) → SeenF w sl l → l.length ≤ 1000 → l.drop i = f :: (flatO ko ++ rest) → d + N ≤ 1000 → (txt1 d f ko).size ≤ 1000000 →
  Calls Try.prog 49 #[sl, .int .i64 (i : Int), .int .i64 (d : Int)] w fun e w' => e = .returned (.tuple #[.string (txt1 d f ko), .int .i64 ((i + 1 + (flatO ko).length : Nat) : Int)]) ∧ Chg [] w w'

set_option maxRecDepth 100000 in
set_option maxHeartbeats 1000000 in
theorem rprint_any (N : Nat) : RPrint N := by
  induction N with
  | zero => intro f ko l rest i d sl w h; exact absurd h (Nat.not_lt_zero _)
  | succ N ih =>
    intro f ko l rest i d sl w hN hok hfine hS hl hdrop hd hz
    obtain ⟨ao, cap, rfl, hc1, hc2⟩ := hS.shape
    have HS := Lib.hid hS
    have hil : i < l.length := by have := congrArg List.length hdrop; simp at this; omega
    have hfi : l.getD i default = f := by
      have := getD_drop l i 0 default
      rw [Nat.add_zero, hdrop] at this
      exact this
    obtain ⟨g, off, rfl, hcs⟩ := hS.get (by omega) rfl
    obtain ⟨a1, a2, a3, a4⟩ := hcs i hil
    rw [hfi] at a1 a2 a3 a4
    have hf := hfine f (by simp)
    obtain ⟨n, hn⟩ : ∃ n, n = l.length := ⟨_, rfl⟩
    rw [← hn] at hc1 hl hil HS ⊢
    have HF := Lib.hid hf; have HFI := Lib.hid hfine; have HD := Lib.hid hdrop; have HN := Lib.hid hn
    clear hS hcs hfi hdrop hfine hn
    have hr := hf.r; have hk := hf.k
    go_enter Try.func49, Try.ntmps49
    go_upto_if 19 with fail
    have hbx : Box (w.alloc (.cells #[.string f.n, .int .i64 f.r, .int .i64 f.k, .int .i64 f.c] 41)) w.heap.size f := Box.new w f _
    have HC := Lib.hid ((Chg.refl [] w).alloc (.cells #[.string f.n, .int .i64 f.r, .int .i64 f.k, .int .i64 f.c] 41))
    generalize (w.alloc (.cells #[.string f.n, .int .i64 f.r, .int .i64 f.k, .int .i64 f.c] 41)) = W at hbx HC ⊢
    obtain ⟨B, hB⟩ : ∃ B, B = w.heap.size := ⟨_, rfl⟩
    rw [← hB] at hbx ⊢
    have HB := Lib.hid hB
    clear hB
    obtain ⟨b1, b2, b3, b4⟩ := hbx
    clear a1 a2 a3 a4
    have HB1 := Lib.hid b1; have HB2' := Lib.hid b2; have HB3' := Lib.hid b3; have HB4 := Lib.hid b4
    go_cut [9] (fun s9 wx => (∃ h, s9 = .string h ∧ h ++ f.n = headS d f ∧ h.size ≤ 2500) ∧ Chg [] W wx)
    case first =>
      by_cases hd0 : d = 0
      · have hlk : decide ((0 : Int) < (d : Int)) = false := by simp; omega
        have E := Lib.hid (show ({ data := #[109, 101, 115, 115, 97, 103, 101, 32] } : ByteArray) ++ f.n = headS d f by unfold headS; rw [if_pos hd0])
        have hdn : ¬ 0 < d := by omega
        clear hd0
        go_wp2_with fail
        go_meet
        case rel => exact ⟨⟨_, rfl, E.out, by decide⟩, Chg.refl [] W⟩
      · have hlk : decide ((0 : Int) < (d : Int)) = true := by simp; omega
        obtain ⟨r, hrr⟩ : ∃ r : Nat, f.r = r := ⟨f.r.toNat, by omega⟩
        obtain ⟨k, hkk⟩ : ∃ k : Nat, f.k = k := ⟨f.k.toNat, by omega⟩
        have HR := Lib.hid hrr; have HK := Lib.hid hkk
        rw [hrr] at b2 hr; rw [hkk] at b3 hk
        clear hrr hkk
        have z1 : (blkS d).size ≤ 2000 := by rw [blkS_size]; omega
        have z2 : (repW f).size ≤ 8 := rep_size f HF.out
        have z3 : (kindW f).size ≤ 5 := kind_size f HF.out
        have y1 : ¬ 9223372036854775807 < (blkS d).size + (repW f).size := by omega
        have y2 : ¬ 9223372036854775807 < (blkS d).size + (repW f).size + 1 := by omega
        have y3 : ¬ 9223372036854775807 < (blkS d).size + (repW f).size + 1 + (kindW f).size := by omega
        have y4 : ¬ 9223372036854775807 < (blkS d).size + (repW f).size + 1 + (kindW f).size + 1 := by omega
        have hr3 : (r : Int) < 3 := by omega
        have hk5 : (k : Int) < 5 := by omega
        have hr3' : r < repsL.length := by show r < 3; omega
        have hk5' : k < kindsL.length := by show k < 5; omega
        have HB2 := Lib.hid b2; have HB3 := Lib.hid b3
        obtain ⟨x, hx⟩ : ∃ x, x = repW f := ⟨_, rfl⟩
        obtain ⟨y, hy⟩ : ∃ y, y = kindW f := ⟨_, rfl⟩
        have HX := Lib.hid (show repsL.getD r ByteArray.empty = x by rw [hx, repW, HR.out]; rfl)
        have HY := Lib.hid (show kindsL.getD k ByteArray.empty = y by rw [hy, kindW, HK.out]; rfl)
        rw [← hx] at z2 y1 y2 y3 y4; rw [← hy] at z3 y3 y4
        have HX2 := Lib.hid hx; have HY2 := Lib.hid hy
        clear hx hy
        have hdn : 0 < d := by omega
        go_wp2_with fail
        refine wp_region_any (by kernel_rfl) ?_
        change wpAny _ _ _ _ _ _ _ (World.drew _)
        refine wpAny_inv (JIP4 (.slice (some ⟨g, off, none⟩) n cap) i d B r k x y W) ?hs (fun listed a' w' hI hr => ?hq) _ _ _ _ ?h0 ?hcnt
        case hcnt => exact count_rep _
        case h0 => exact JIP4_start rfl ((Chg.refl [] W).drew)
        case hs =>
          intro listed a' w' hI ii hi hr
          obtain ⟨b, base, u, g1, g2, rfl, rfl, R⟩ := hI
          have hcs := ltP4 ii hi
          clear hi
          unfold FRP4
          rcases hcs with rfl | rfl | rfl | rfl | rfl | rfl | rfl | rfl | rfl | rfl | rfl | rfl | rfl | rfl | rfl | rfl | rfl
          · have hrd := ready_at rfl hr
            clear hr
            simp [Region.binds] at hrd
            clear hrd
            refine wpOp_step rfl (fun K hK => ?_)
            go_simp
            refine hK _ _ ?_
            exact ⟨upd b 0 true, base, (upd u 20 (.int .i64 (d : Int))), g1, g2, rfl, rfl, ⟨(fun _ => rfl), R.c1, R.c2, R.c3, R.c4, R.c5, R.c6, R.c7, R.c8, R.c9, R.c10, R.c11, R.c12, R.c13, R.c14, R.c15, R.c16, R.cg, R.m2, R.m9, R.z5_2, R.z12_9⟩⟩
          · have hrd := ready_at rfl hr
            clear hr
            simp [Region.binds] at hrd
            have h0 : b 0 = true := by simp [hrd]
            have e0 := R.c0 h0
            clear hrd
            refine wpOp_step rfl (fun K hK => ?_)
            go_simp
            go_at_call 85
            refine (blanks_any d w' (by omega)).mono ?_
            rintro e w4 ⟨rfl, rfl⟩
            refine hK _ _ ?_
            exact ⟨upd b 1 true, base, (upd (upd u 20 (.int .i64 (d : Int))) 21 (.string (blkS d))), g1, g2, rfl, rfl, ⟨(fun _ => rfl), (fun _ => rfl), R.c2, R.c3, R.c4, R.c5, R.c6, R.c7, R.c8, R.c9, R.c10, R.c11, R.c12, R.c13, R.c14, R.c15, R.c16, R.cg, R.m2, R.m9, R.z5_2, R.z12_9⟩⟩
          · have hrd := ready_at rfl hr
            clear hr
            simp [Region.binds] at hrd
            have hb2 : b 2 = false := by simp [hrd]
            clear hrd
            refine wpOp_step rfl (fun K hK => ?_)
            go_simp
            refine hK _ _ ?_
            exact ⟨upd b 2 true, base, (upd u 22 (.slice (some ⟨w'.heap.size, 0, none⟩) 3 3)), w'.heap.size, g2, rfl, rfl, ⟨R.c0, R.c1, (fun _ => rfl), R.c3, R.c4, (fun h => absurd (R.z5_2 h) (by rw [hb2]; decide)), R.c6, R.c7, R.c8, R.c9, R.c10, R.c11, R.c12, R.c13, R.c14, R.c15, R.c16, (R.cg.alloc _), (fun _ => ⟨hl_new rfl, R.cg.size⟩), (fun h => ⟨hl_old (R.m9 h).1, (R.m9 h).2⟩), (fun _ => rfl), R.z12_9⟩⟩
          · have hrd := ready_at rfl hr
            clear hr
            simp [Region.binds] at hrd
            clear hrd
            refine wpOp_step rfl (fun K hK => ?_)
            go_simp
            refine hK _ _ ?_
            exact ⟨upd b 3 true, base, (upd u 23 (.pointer (some ⟨B, 1, none⟩))), g1, g2, rfl, rfl, ⟨R.c0, R.c1, R.c2, (fun _ => rfl), R.c4, R.c5, R.c6, R.c7, R.c8, R.c9, R.c10, R.c11, R.c12, R.c13, R.c14, R.c15, R.c16, R.cg, R.m2, R.m9, R.z5_2, R.z12_9⟩⟩
          · have hrd := ready_at rfl hr
            clear hr
            simp [Region.binds] at hrd
            have h3 : b 3 = true := by simp [hrd]
            have e3 := R.c3 h3
            clear hrd
            have hld := R.cg.cell HB2.out (by simp)
            refine wpOp_step rfl (fun K hK => ?_)
            go_simp
            refine hK _ _ ?_
            exact ⟨upd b 4 true, base, (upd (upd u 23 (.pointer (some ⟨B, 1, none⟩))) 24 (.int .i64 (r : Int))), g1, g2, rfl, rfl, ⟨R.c0, R.c1, R.c2, (fun _ => rfl), (fun _ => rfl), R.c5, R.c6, R.c7, R.c8, R.c9, R.c10, R.c11, R.c12, R.c13, R.c14, R.c15, R.c16, R.cg, R.m2, R.m9, R.z5_2, R.z12_9⟩⟩
          · have hrd := ready_at rfl hr
            clear hr
            simp [Region.binds] at hrd
            have h2 : b 2 = true := by simp [hrd]
            have e2 := R.c2 h2
            have h4 : b 4 = true := by simp [hrd]
            have e4 := R.c4 h4
            clear hrd
            refine wpOp_step rfl (fun K hK => ?_)
            go_simp
            refine hK _ _ ?_
            exact ⟨upd b 5 true, base, (upd (upd (upd u 22 (.slice (some ⟨g1, 0, none⟩) 3 3)) 24 (.int .i64 (r : Int))) 25 (.pointer (some ⟨g1, r, none⟩))), g1, g2, rfl, rfl, ⟨R.c0, R.c1, (fun _ => rfl), R.c3, (fun _ => rfl), (fun _ => rfl), R.c6, R.c7, R.c8, R.c9, R.c10, R.c11, R.c12, R.c13, R.c14, R.c15, R.c16, R.cg, R.m2, R.m9, (fun _ => h2), R.z12_9⟩⟩
          · have hrd := ready_at rfl hr
            clear hr
            simp [Region.binds] at hrd
            have h5 : b 5 = true := by simp [hrd]
            have e5 := R.c5 h5
            clear hrd
            have h2x : b 2 = true := R.z5_2 h5
            have hld := lit_heap (l := repsL) (R.m2 h2x).1 rfl hr3' HX.out
            refine wpOp_step rfl (fun K hK => ?_)
            go_simp
            refine hK _ _ ?_
            exact ⟨upd b 6 true, base, (upd (upd u 25 (.pointer (some ⟨g1, r, none⟩))) 26 (.string x)), g1, g2, rfl, rfl, ⟨R.c0, R.c1, R.c2, R.c3, R.c4, (fun _ => rfl), (fun _ => rfl), R.c7, R.c8, R.c9, R.c10, R.c11, R.c12, R.c13, R.c14, R.c15, R.c16, R.cg, R.m2, R.m9, R.z5_2, R.z12_9⟩⟩
          · have hrd := ready_at rfl hr
            clear hr
            simp [Region.binds] at hrd
            have h1 : b 1 = true := by simp [hrd]
            have e1 := R.c1 h1
            have h6 : b 6 = true := by simp [hrd]
            have e6 := R.c6 h6
            clear hrd
            refine wpOp_step rfl (fun K hK => ?_)
            go_simp
            refine hK _ _ ?_
            exact ⟨upd b 7 true, base, (upd (upd (upd u 21 (.string (blkS d))) 26 (.string x)) 27 (.string (blkS d ++ x))), g1, g2, rfl, rfl, ⟨R.c0, (fun _ => rfl), R.c2, R.c3, R.c4, R.c5, (fun _ => rfl), (fun _ => rfl), R.c8, R.c9, R.c10, R.c11, R.c12, R.c13, R.c14, R.c15, R.c16, R.cg, R.m2, R.m9, R.z5_2, R.z12_9⟩⟩
          · have hrd := ready_at rfl hr
            clear hr
            simp [Region.binds] at hrd
            have h7 : b 7 = true := by simp [hrd]
            have e7 := R.c7 h7
            clear hrd
            refine wpOp_step rfl (fun K hK => ?_)
            go_simp
            refine hK _ _ ?_
            exact ⟨upd b 8 true, base, (upd (upd u 27 (.string (blkS d ++ x))) 28 (.string (blkS d ++ x ++ ({ data := #[32] } : ByteArray)))), g1, g2, rfl, rfl, ⟨R.c0, R.c1, R.c2, R.c3, R.c4, R.c5, R.c6, (fun _ => rfl), (fun _ => rfl), R.c9, R.c10, R.c11, R.c12, R.c13, R.c14, R.c15, R.c16, R.cg, R.m2, R.m9, R.z5_2, R.z12_9⟩⟩
          · have hrd := ready_at rfl hr
            clear hr
            simp [Region.binds] at hrd
            have hb9 : b 9 = false := by simp [hrd]
            clear hrd
            refine wpOp_step rfl (fun K hK => ?_)
            go_simp
            refine hK _ _ ?_
            exact ⟨upd b 9 true, base, (upd u 29 (.slice (some ⟨w'.heap.size, 0, none⟩) 5 5)), g1, w'.heap.size, rfl, rfl, ⟨R.c0, R.c1, R.c2, R.c3, R.c4, R.c5, R.c6, R.c7, R.c8, (fun _ => rfl), R.c10, R.c11, (fun h => absurd (R.z12_9 h) (by rw [hb9]; decide)), R.c13, R.c14, R.c15, R.c16, (R.cg.alloc _), (fun h => ⟨hl_old (R.m2 h).1, (R.m2 h).2⟩), (fun _ => ⟨hl_new rfl, R.cg.size⟩), R.z5_2, (fun _ => rfl)⟩⟩
          · have hrd := ready_at rfl hr
            clear hr
            simp [Region.binds] at hrd
            clear hrd
            refine wpOp_step rfl (fun K hK => ?_)
            go_simp
            refine hK _ _ ?_
            exact ⟨upd b 10 true, base, (upd u 30 (.pointer (some ⟨B, 2, none⟩))), g1, g2, rfl, rfl, ⟨R.c0, R.c1, R.c2, R.c3, R.c4, R.c5, R.c6, R.c7, R.c8, R.c9, (fun _ => rfl), R.c11, R.c12, R.c13, R.c14, R.c15, R.c16, R.cg, R.m2, R.m9, R.z5_2, R.z12_9⟩⟩
          · have hrd := ready_at rfl hr
            clear hr
            simp [Region.binds] at hrd
            have h10 : b 10 = true := by simp [hrd]
            have e10 := R.c10 h10
            clear hrd
            have hld := R.cg.cell HB3.out (by simp)
            refine wpOp_step rfl (fun K hK => ?_)
            go_simp
            refine hK _ _ ?_
            exact ⟨upd b 11 true, base, (upd (upd u 30 (.pointer (some ⟨B, 2, none⟩))) 31 (.int .i64 (k : Int))), g1, g2, rfl, rfl, ⟨R.c0, R.c1, R.c2, R.c3, R.c4, R.c5, R.c6, R.c7, R.c8, R.c9, (fun _ => rfl), (fun _ => rfl), R.c12, R.c13, R.c14, R.c15, R.c16, R.cg, R.m2, R.m9, R.z5_2, R.z12_9⟩⟩
          · have hrd := ready_at rfl hr
            clear hr
            simp [Region.binds] at hrd
            have h9 : b 9 = true := by simp [hrd]
            have e9 := R.c9 h9
            have h11 : b 11 = true := by simp [hrd]
            have e11 := R.c11 h11
            clear hrd
            refine wpOp_step rfl (fun K hK => ?_)
            go_simp
            refine hK _ _ ?_
            exact ⟨upd b 12 true, base, (upd (upd (upd u 29 (.slice (some ⟨g2, 0, none⟩) 5 5)) 31 (.int .i64 (k : Int))) 32 (.pointer (some ⟨g2, k, none⟩))), g1, g2, rfl, rfl, ⟨R.c0, R.c1, R.c2, R.c3, R.c4, R.c5, R.c6, R.c7, R.c8, (fun _ => rfl), R.c10, (fun _ => rfl), (fun _ => rfl), R.c13, R.c14, R.c15, R.c16, R.cg, R.m2, R.m9, R.z5_2, (fun _ => h9)⟩⟩
          · have hrd := ready_at rfl hr
            clear hr
            simp [Region.binds] at hrd
            have h12 : b 12 = true := by simp [hrd]
            have e12 := R.c12 h12
            clear hrd
            have h9x : b 9 = true := R.z12_9 h12
            have hld := lit_heap (l := kindsL) (R.m9 h9x).1 rfl hk5' HY.out
            refine wpOp_step rfl (fun K hK => ?_)
            go_simp
            refine hK _ _ ?_
            exact ⟨upd b 13 true, base, (upd (upd u 32 (.pointer (some ⟨g2, k, none⟩))) 33 (.string y)), g1, g2, rfl, rfl, ⟨R.c0, R.c1, R.c2, R.c3, R.c4, R.c5, R.c6, R.c7, R.c8, R.c9, R.c10, R.c11, (fun _ => rfl), (fun _ => rfl), R.c14, R.c15, R.c16, R.cg, R.m2, R.m9, R.z5_2, R.z12_9⟩⟩
          · have hrd := ready_at rfl hr
            clear hr
            simp [Region.binds] at hrd
            have h8 : b 8 = true := by simp [hrd]
            have e8 := R.c8 h8
            have h13 : b 13 = true := by simp [hrd]
            have e13 := R.c13 h13
            clear hrd
            refine wpOp_step rfl (fun K hK => ?_)
            go_simp
            refine hK _ _ ?_
            exact ⟨upd b 14 true, base, (upd (upd (upd u 28 (.string (blkS d ++ x ++ ({ data := #[32] } : ByteArray)))) 33 (.string y)) 34 (.string (blkS d ++ x ++ ({ data := #[32] } : ByteArray) ++ y))), g1, g2, rfl, rfl, ⟨R.c0, R.c1, R.c2, R.c3, R.c4, R.c5, R.c6, R.c7, (fun _ => rfl), R.c9, R.c10, R.c11, R.c12, (fun _ => rfl), (fun _ => rfl), R.c15, R.c16, R.cg, R.m2, R.m9, R.z5_2, R.z12_9⟩⟩
          · have hrd := ready_at rfl hr
            clear hr
            simp [Region.binds] at hrd
            have h14 : b 14 = true := by simp [hrd]
            have e14 := R.c14 h14
            clear hrd
            refine wpOp_step rfl (fun K hK => ?_)
            go_simp
            refine hK _ _ ?_
            exact ⟨upd b 15 true, base, (upd (upd u 34 (.string (blkS d ++ x ++ ({ data := #[32] } : ByteArray) ++ y))) 35 (.string (blkS d ++ x ++ ({ data := #[32] } : ByteArray) ++ y ++ ({ data := #[32] } : ByteArray)))), g1, g2, rfl, rfl, ⟨R.c0, R.c1, R.c2, R.c3, R.c4, R.c5, R.c6, R.c7, R.c8, R.c9, R.c10, R.c11, R.c12, R.c13, (fun _ => rfl), (fun _ => rfl), R.c16, R.cg, R.m2, R.m9, R.z5_2, R.z12_9⟩⟩
          · have hrd := ready_at rfl hr
            clear hr
            simp [Region.binds] at hrd
            have h15 : b 15 = true := by simp [hrd]
            have e15 := R.c15 h15
            clear hrd
            refine wpOp_step rfl (fun K hK => ?_)
            go_simp
            refine hK _ _ ?_
            exact ⟨upd b 16 true, base, (upd (upd u 35 (.string (blkS d ++ x ++ ({ data := #[32] } : ByteArray) ++ y ++ ({ data := #[32] } : ByteArray)))) 9 (.string (blkS d ++ x ++ ({ data := #[32] } : ByteArray) ++ y ++ ({ data := #[32] } : ByteArray)))), g1, g2, rfl, rfl, ⟨R.c0, R.c1, R.c2, R.c3, R.c4, R.c5, R.c6, R.c7, R.c8, R.c9, R.c10, R.c11, R.c12, R.c13, R.c14, (fun _ => rfl), (fun _ => rfl), R.cg, R.m2, R.m9, R.z5_2, R.z12_9⟩⟩
        obtain ⟨b, base, u, g1, g2, rfl, rfl, R⟩ := hI
        have hall := ready_all hr rfl (by kernel_rfl)
        have h16 : b 16 = true := Option.some.inj (hall 16 (by decide))
        have e16 := R.c16 h16
        have HCG := Lib.hid R.cg
        unfold FRP4
        rw [e16]
        clear e16
        clear R hr hall h16
        go_wp2_with fail
        go_meet
        case rel => exact ⟨⟨_, rfl, by unfold headS; rw [if_neg hd0, ← HX2.out, ← HY2.out], by simp only [ByteArray.size_append, size_mk, List.size_toArray, List.length_cons, List.length_nil]; omega⟩, HCG.out⟩
    case rest =>
      obtain ⟨⟨h, rfl, hh, hhs⟩, hcg⟩ := hcut
      have c1 := hcg.cell HB1.out (by simp)
      have c3 := hcg.cell HB3'.out (by simp)
      have HCW := Lib.hid (HC.out.trans hcg (by simp))
      have HSW := Lib.hid (HS.out.keep HCW.out)
      have HH := Lib.hid hh
      have zn : f.n.size ≤ 12 := name_size HF.out.n
      have zh : (headS d f).size ≤ 2600 := by rw [← hh, ByteArray.size_append]; omega
      have zz : h.size + f.n.size = (headS d f).size := by rw [← hh, ByteArray.size_append]
      have hcg0 := Lib.hid hcg
      clear hh hcg
      clear b1 b2 b3 b4
      cases ko with
      | none =>
        obtain ⟨hk0, hc0⟩ := hok
        have q1 : (f.k != 0) = true := by simpa using hk0
        have E := Lib.hid (show txt1 d f none = h ++ f.n ++ { data := #[59, 10] } by rw [HH.out]; rfl)
        clear hc0
        go_wp2
        go_ret2
        rw [E.out]
        exact ⟨ret_si rfl (by simp [flatO]), HCW.out⟩
      | some kk =>
        obtain ⟨hk0, hc0, hok⟩ := hok
        have q1 : (f.k != 0) = false := by simpa using hk0
        obtain ⟨num, hnum⟩ : ∃ m, m = kk.num := ⟨_, rfl⟩
        have c4 := HCW.out
        have c4 : wc.cell? ⟨B, 3, none⟩ = some (.int .i64 (num : Int)) := by rw [hnum, ← hc0]; exact hcg0.out.cell HB4.out (by simp)
        have HNUM := Lib.hid hnum
        have hkl : kk.flat.length ≤ n - i - 1 := by
          have := congrArg List.length HD.out
          simp [flatO] at this
          rw [HN.out]
          omega
        have hnl : num ≤ kk.flat.length := by rw [hnum]; exact kk.num_le
        clear hc0 hnum
        have HOK := Lib.hid hok
        clear hok
        have HKK := Lib.hid hk0
        have hzz : (h ++ f.n ++ { data := #[32, 123, 10] } ++ txt (d + 1) kk ++ blkS d ++ { data := #[125, 10] }).size ≤ 1000000 := by
          have := hz
          unfold txt1 at this
          rw [← HH.out] at this
          exact this
        have E := Lib.hid (show txt1 d f (some kk) = h ++ f.n ++ { data := #[32, 123, 10] } ++ txt (d + 1) kk ++ blkS d ++ { data := #[125, 10] } by rw [HH.out]; rfl)
        obtain ⟨H, hH⟩ : ∃ H, H = h ++ f.n ++ ({ data := #[32, 123, 10] } : ByteArray) := ⟨_, rfl⟩
        rw [← hH] at hzz E
        have HHH := Lib.hid hH
        simp only [ByteArray.size_append] at hzz
        have HZ := Lib.hid hz
        obtain ⟨kl, hkle⟩ : ∃ m, m = kk.flat.length := ⟨_, rfl⟩
        rw [← hkle] at hkl hnl
        have HKL := Lib.hid hkle
        have hNN : kl < N + 1 := by rw [hkle]; exact hN
        clear hH hz hkle hN
        go_wp2
        rw [← HHH.out]
        go_loopw [9, 10, 11] (fun s9 s10 s11 wx => ∃ (out : ByteArray) (m c : Nat) (rem : Fo), s9 = .string out ∧ s10 = .int .i64 (m : Int) ∧ s11 = .int .i64 (c : Int) ∧ RtJ wc wx d i kk l rest H out m c rem) (fun _ _ s11 _ => num - (intOf s11).toNat)
        case atStart => exact ⟨H, i + 1, 0, kk, rfl, by go_num, rfl, ⟨rfl, by rw [← List.drop_drop, HD.out]; rfl, by simp, HOK.out, Nat.le_refl _, rfl, fun x hx => HFI.out x (by simp [flatO, hx]), Chg.refl [] wc⟩⟩
        case round =>
          obtain ⟨out, m, c, rem, rfl, rfl, rfl, hJ⟩ := hrel
          have HJ := Lib.hid hJ
          have c4' := hJ.cg.cell c4 (by simp)
          have hnm : c + rem.num = num := by rw [HNUM.out]; exact hJ.nm
          have hml : m + rem.flat.length = i + 1 + kl := by rw [HKL.out]; exact hJ.len
          have hrs : rem.flat.length ≤ kl := by rw [HKL.out]; exact hJ.sub
          have hos := congrArg ByteArray.size hJ.eq
          simp only [ByteArray.size_append] at hos
          clear hJ
          by_cases hlt : c < num
          · have hr0 : rem.num ≠ 0 := by omega
            obtain ⟨f', ko', t, e1, e2, e3, e4, e5⟩ := rem.cut (d + 1) hr0 HJ.out.ok
            have hfl := congrArg List.length e1
            simp only [List.length_cons, List.length_append] at hfl
            have hts := congrArg ByteArray.size e2
            simp only [ByteArray.size_append] at hts
            have HI := Lib.hid (ih f' ko' l (t.flat ++ rest) m (d + 1) (.slice (some ⟨g, off, none⟩) n cap) wr (by omega) e4 (fun x hx => HJ.out.mem x (by rw [e1]; rcases List.mem_cons.1 hx with rfl | hx; simp; simp [hx])) (HSW.out.keep HJ.out.cg) (by rw [← HN.out]; exact hl) (by rw [HJ.out.dr, e1]; simp) (by omega) (by omega))
            have E1 := Lib.hid e1; have E2 := Lib.hid e2; have E3 := Lib.hid e3; have E5 := Lib.hid e5
            obtain ⟨tx, htx⟩ : ∃ x, x = txt1 (d + 1) f' ko' := ⟨_, rfl⟩
            obtain ⟨fl, hflo⟩ : ∃ x, x = (flatO ko').length := ⟨_, rfl⟩
            rw [show (((d + 1 : Nat) : Int)) = (d : Int) + 1 by omega] at HI
            rw [← htx] at HI E2 hts
            rw [← hflo] at HI hfl
            have HFLO := Lib.hid hflo
            clear e1 e2 e3 e4 e5 htx hflo hr0
            go_wp2_with fail
            (with_reducible refine HI.out.mono ?_)
            rintro e w4 ⟨rfl, hk4⟩
            have HK4 := Lib.hid hk4
            clear hk4
            go_wp2
            go_roundw
            case rel =>
              refine ⟨out ++ tx, m + 1 + fl, c + 1, t, rfl, rfl, by go_num, ⟨?_, ?_, by have := HNUM.out; have := E3.out; omega, E5.out, by have := HKL.out; omega, by have := HKL.out; omega, fun x hx => HJ.out.mem x (by rw [E1.out]; simp [hx]), HJ.out.cg.trans HK4.out (by simp)⟩⟩
              · rw [ByteArray.append_assoc, ← E2.out]; exact HJ.out.eq
              · rw [show m + 1 + fl = m + (1 + fl) by omega, ← List.drop_drop, HJ.out.dr, E1.out, HFLO.out, Nat.add_comm, List.cons_append, List.drop_succ_cons, List.append_assoc, List.drop_append_of_le_length (Nat.le_refl _), List.drop_length, List.nil_append]
            case measure => simp [intOf]; omega
          · have hrn : rem = .nil := Fo.num_nil (by omega)
            have HO := Lib.hid (show out = H ++ txt (d + 1) kk by rw [← HJ.out.eq, hrn]; exact (ba_nil out).symm)
            have hm : m = i + 1 + kl := by rw [hrn] at hml; exact hml
            clear hrn
            go_wp2_with fail
            (with_reducible refine (blanks_any d _ (by omega)).mono ?_)
            rintro e w4 ⟨rfl, rfl⟩
            have hbs := blkS_size d
            go_wp2
            go_ret2
            rw [E.out, ← HO.out]
            exact ⟨ret_si rfl (by show _ = ((i + 1 + kk.flat.length : Nat) : Int); rw [← HKL.out]; omega), HCW.out.trans HJ.out.cg (by simp)⟩

set_option maxHeartbeats 400000 in
theorem rPrint_any (ns : List Int) (r : F) (fo : Fo) (hF : MkF ns r fo) (sl : Value) (w : World) (hS : SeenF w sl (mk ns)) :
    Calls Try.prog 20 #[sl] w fun e w' => e = .returned (.string (txtR r fo)) ∧ Chg [] w w' := by
  have hz := hF.size
  have e0 : txt1 0 r (some fo) = txtR r fo := (ba_nil _).symm
  have hlen := hF.len
  have HR := Lib.hid (rprint_any 14 r (some fo) (mk ns) [] 0 0 sl w (by show fo.flat.length < 14; omega) ⟨hF.k, hF.c, hF.ok⟩
    (fun x hx => by
      rcases List.mem_cons.1 hx with rfl | hx
      · exact ⟨by rw [hF.r0]; decide, by rw [hF.k]; decide, hF.nb, fun _ => hF.c1⟩
      · exact hF.fine x hx) hS (by rw [hF.eq]; simp; omega) (by rw [hF.eq]; simp [flatO]) (by omega) (by rw [e0]; omega))
  rw [e0, show (((0 : Nat)) : Int) = 0 from rfl] at HR
  clear hS hz e0 hlen
  go_enter Try.func20, Try.ntmps20
  go_wp2_with fail
  (with_reducible refine HR.out.mono ?_)
  rintro e w1 ⟨rfl, hk⟩
  have HK := Lib.hid hk
  clear hk
  go_wp2
  go_ret
  exact ⟨rfl, HK.out⟩

end Go.Proofs.Ytofnpcfclcfgfaa
