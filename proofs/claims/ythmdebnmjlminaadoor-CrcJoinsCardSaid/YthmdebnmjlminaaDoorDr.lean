/- For regions that draw their order: slices by run equations, Sum of a list of parts wherever its block lies. -/
import Derived.Test.YthmdebnmjlminaaDoorRf
namespace Go.Proofs.YthmdebnmjlminaaDoor
open Go.RowKit
set_option linter.unusedVariables false

theorem addr_add_add (a : Addr) (m n : Nat) : (a.add m).add n = a.add (m + n) := by
  unfold Addr.add
  by_cases hm : m = 0
  · subst hm; simp
  · by_cases hn : n = 0
    · subst hn; simp
    · simp [hm, hn, Nat.add_assoc]

/-- v[lo:hi] as the model slices, wherever v's array lies. -/
theorem Seen.sliced {w : World} {ao : Option Addr} {len cap : Nat} {xs : List Value} (h : Seen w (.slice ao len cap) xs) (lo hi : Nat) (h1 : lo ≤ hi) (h2 : hi ≤ len) :
    Seen w (Go.sliced ao lo hi cap 1) ((xs.take hi).drop lo) := by
  rcases h with ⟨he, rfl⟩ | ⟨a, cap', he, hc, hm, hcell⟩
  · injection he with e1 e2 e3
    subst e1 e2 e3
    obtain rfl : hi = 0 := by omega
    obtain rfl : lo = 0 := by omega
    exact .inl ⟨by simp [Go.sliced], by simp⟩
  · injection he with e1 e2 e3
    subst e1 e2 e3
    have hlen : ((xs.take hi).drop lo).length = hi - lo := by simp; omega
    by_cases hcl : cap = lo
    · have : hi = lo := by omega
      subst this
      refine .inr ⟨a, 0, ?_, by omega, by simp, ?_⟩
      · simp [Go.sliced, hcl]
      · intro j u hu
        have : j < ((xs.take hi).drop hi).length := (List.getElem?_eq_some_iff.1 hu).1
        omega
    · refine .inr ⟨a.add (lo * 1), cap - lo, ?_, by omega, by omega, ?_⟩
      · simp only [Go.sliced, hcl, if_false, Option.map_some, hlen]
      · intro j u hu
        rw [List.getElem?_drop, List.getElem?_take] at hu
        split at hu
        · rw [addr_add_add, Nat.mul_one]
          exact hcell (lo + j) u hu
        · cases hu

theorem Seen.room {w : World} {ao : Option Addr} {n cap : Nat} {xs : List Value} (h : Seen w (.slice ao n cap) xs) : n ≤ cap ∧ cap ≤ maxLen := by
  obtain ⟨_, _, e, h1, h2⟩ := h.shape
  injection e with _ e2 e3
  omega

theorem elem_bytes : Tryd.prog.elem 24 = 5 := by kernel_rfl

theorem nv_take_drop (k : IntKind) (l : List Nat) (lo hi : Nat) : ((nv k l).take hi).drop lo = nv k ((l.take hi).drop lo) := by simp [nv, List.map_take, List.map_drop]

/-- v[:hi], as a run equation. -/
theorem run_front {w : World} {ao : Option Addr} {len cap : Nat} {l : List Nat} (h : Seen w (.slice ao len cap) (nv .u8 l)) (hc : len ≤ cap) (hi : Nat) (h2 : hi ≤ len) :
    ∃ ao' cap', Seen w (.slice ao' hi cap') (nv .u8 (l.take hi)) ∧ ∀ wx, (Instr.slice 24 (.slice ao len cap) none (some (.int .i64 (hi : Int))) none).run Tryd.prog wx = .ok (.slice ao' hi cap') wx := by
  have hs := h.sliced 0 hi (Nat.zero_le _) h2
  rw [nv_take_drop, List.drop_zero] at hs
  refine ⟨_, _, hs, fun wx => ?_⟩
  obtain ⟨i0, hi0, _, hz1, _⟩ := info_u8
  rw [run_slice_h wx 24 ao len cap (by rw [elem_bytes]; exact Tryd.underlying24) .i64 hi (by omega) (by omega), elem_bytes]
  simp [sizeOf, typeInfo, hi0, hz1]
  rfl

/-- v[lo:], as a run equation. -/
theorem run_back {w : World} {ao : Option Addr} {len cap : Nat} {l : List Nat} (h : Seen w (.slice ao len cap) (nv .u8 l)) (hl : l.length = len) (hc : len ≤ cap) (lo : Nat) (h2 : lo ≤ len) :
    ∃ ao' cap', Seen w (.slice ao' (len - lo) cap') (nv .u8 (l.drop lo)) ∧ ∀ wx, (Instr.slice 24 (.slice ao len cap) (some (.int .i64 (lo : Int))) none none).run Tryd.prog wx = .ok (.slice ao' (len - lo) cap') wx := by
  have hs := h.sliced lo len h2 (Nat.le_refl _)
  rw [nv_take_drop, show l.take len = l by rw [← hl, List.take_length]] at hs
  refine ⟨_, _, hs, fun wx => ?_⟩
  obtain ⟨i0, hi0, _, hz1, _⟩ := info_u8
  rw [run_slice_l wx 24 ao len cap (by rw [elem_bytes]; exact Tryd.underlying24) .i64 lo (by omega) (by omega), elem_bytes]
  simp [sizeOf, typeInfo, hi0, hz1, Go.sliced]

/-- Sum of a list of parts, laid wherever. -/
theorem sum_lit {w : World} {g : Nat} {T : TypeId} {fr : Nat × Nat} {C : Array Value} (hb : w.heap[g]? = some (.cells C T fr)) (ls : List (List Nat)) (n : Nat) (hn : C.toList.length = n) (hl : ls.length = n) (hm : n ≤ maxLen)
    (he : ∀ i, i < n → Seen w (C.toList.getD i undef) (nv .u8 (ls.getD i []))) (hby : ∀ l ∈ ls, ∀ x ∈ l, x < 2 ^ 8) (hT : Laid w) :
    Calls Tryd.prog 11 #[.slice (some ⟨g, 0, none⟩) n n] w fun e w' => e = .returned (.int .u32 ((crc ls.flatten : Nat) : Int)) ∧ Chg [] w w' :=
  sum_any _ C.toList ls w ⟨.inr ⟨⟨g, 0, none⟩, n, by rw [hn], by omega, hm, fun j u hu => by
    rw [addr_add, Nat.zero_add]
    simp only [World.cell?, hb]
    simpa using hu⟩, by omega, fun i hi => he i (by omega), hby⟩ hT

theorem sum_lit1 {w : World} {g : Nat} {bv : Value} (hb : ∃ T fr, w.heap[g]? = some (.cells #[bv] T fr)) (l : List Nat) (hS : Seen w bv (nv .u8 l)) (hby : ∀ x ∈ l, x < 2 ^ 8) (hT : Laid w) :
    Calls Tryd.prog 11 #[.slice (some ⟨g, 0, none⟩) 1 1] w fun e w' => e = .returned (.int .u32 ((crc l : Nat) : Int)) ∧ Chg [] w w' := by
  obtain ⟨T, fr, hb⟩ := hb
  refine (sum_lit hb [l] 1 rfl rfl (by decide) (fun i hi => ?_) (fun y hy => ?_) hT).mono ?_
  · obtain rfl : i = 0 := by omega
    exact hS
  · simp at hy
    subst hy
    exact hby
  · rintro e w' ⟨rfl, hc⟩
    exact ⟨by simp, hc⟩

theorem hl_new {w : World} {g : Nat} {o : Obj} (h : g = w.heap.size) : (w.alloc o).heap[g]? = some o := by
  subst h
  show (w.heap.push o)[w.heap.size]? = _
  simp
theorem hl_old {w : World} {g : Nat} {o p : Obj} (h : w.heap[g]? = some p) : (w.alloc o).heap[g]? = some p :=
  (Go.heap_alloc_old w o (Go.lt_of_block h)).trans h
theorem hl_drew {w : World} {g : Nat} {p : Obj} (h : w.heap[g]? = some p) : w.drew.heap[g]? = some p := h
theorem hl_chg {w w' : World} {g : Nat} {p : Obj} (hc : Chg [] w w') (h : w.heap[g]? = some p) : w'.heap[g]? = some p := hc.heap h (by simp)

theorem Seen.empty (w : World) (ao : Option Addr) : Seen w (.slice ao 0 0) (nv .u8 []) := by
  cases ao with
  | none => exact Seen.nil w
  | some a => exact .inr ⟨a, 0, rfl, Nat.le_refl _, by decide, fun j u hu => by simp [nv] at hu⟩

theorem sum_five {w : World} {g : Nat} {af ab : Option Addr} {k m cf cb : Nat} (hb : ∃ T fr ae, w.heap[g]? = some (.cells #[.slice none 0 0, .slice af k cf, .slice none 0 0, .slice ab m cb, .slice ae 0 0] T fr))
    (S : List Nat) (k' : Nat) (hf : Seen w (.slice af k cf) (nv .u8 (S.take k'))) (hbk : Seen w (.slice ab m cb) (nv .u8 (S.drop k'))) (hby : ∀ x ∈ S, x < 2 ^ 8) (hT : Laid w) :
    Calls Tryd.prog 11 #[.slice (some ⟨g, 0, none⟩) 5 5] w fun e w' => e = .returned (.int .u32 ((crc S : Nat) : Int)) ∧ Chg [] w w' := by
  obtain ⟨T, fr, ae, hb⟩ := hb
  refine (sum_lit hb [[], S.take k', [], S.drop k', []] 5 rfl rfl (by decide) (fun i hi => ?_) (fun l hl x hx => ?_) hT).mono ?_
  · have h : i = 0 ∨ i = 1 ∨ i = 2 ∨ i = 3 ∨ i = 4 := by omega
    rcases h with rfl | rfl | rfl | rfl | rfl
    · exact Seen.nil w
    · exact hf
    · exact Seen.nil w
    · exact hbk
    · exact Seen.empty w ae
  · simp at hl
    rcases hl with rfl | rfl | rfl | rfl | rfl
    · simp at hx
    · exact hby x (List.mem_of_mem_take hx)
    · simp at hx
    · exact hby x (List.mem_of_mem_drop hx)
    · simp at hx
  · rintro e w' ⟨rfl, hc⟩
    exact ⟨by simp, hc⟩

theorem crc_nil : crc [] = 0 := by decide

theorem sum_nil {w : World} {g : Nat} (hb : ∃ T fr, w.heap[g]? = some (.cells #[.slice none 0 0] T fr)) (hT : Laid w) :
    Calls Tryd.prog 11 #[.slice (some ⟨g, 0, none⟩) 1 1] w fun e w' => e = .returned (.int .u32 0) ∧ Chg [] w w' := by
  refine (sum_lit1 hb [] (Seen.nil w) (by simp) hT).mono ?_
  rintro e w' ⟨rfl, hc⟩
  exact ⟨by rw [crc_nil]; rfl, hc⟩

theorem sum_five_k {w : World} {g : Nat} {T : TypeId} {fr : Nat × Nat} {af ab ae : Option Addr} {k m cf cb : Nat} {Q : Ending → World → Prop} (S : List Nat) (k' : Nat) (hby : ∀ x ∈ S, x < 2 ^ 8) (hb : w.heap[g]? = some (.cells #[.slice none 0 0, .slice af k cf, .slice none 0 0, .slice ab m cb, .slice ae 0 0] T fr))
    (hf : Seen w (.slice af k cf) (nv .u8 (S.take k'))) (hbk : Seen w (.slice ab m cb) (nv .u8 (S.drop k'))) (hT : Laid w) (hQ : ∀ w', Chg [] w w' → Q (.returned (.int .u32 ((crc S : Nat) : Int))) w') :
    Calls Tryd.prog 11 #[.slice (some ⟨g, 0, none⟩) 5 5] w Q :=
  (sum_five ⟨T, fr, ae, hb⟩ S k' hf hbk hby hT).mono fun _ w' h => by
    obtain ⟨rfl, hc⟩ := h
    exact hQ w' hc

/-- A row of bytes that a slice reads as. -/
structure Row (w : World) (bv : Value) (l : List Nat) : Prop where
  seen : Seen w bv (nv .u8 l)
  byte : ∀ x ∈ l, x < 2 ^ 8

theorem sum_row_k {w : World} {g : Nat} {T : TypeId} {fr : Nat × Nat} {bv : Value} {l : List Nat} {Q : Ending → World → Prop} (hb : w.heap[g]? = some (.cells #[bv] T fr)) (hS : Row w bv l) (hT : Laid w)
    (hQ : ∀ w', Chg [] w w' → Q (.returned (.int .u32 ((crc l : Nat) : Int))) w') :
    Calls Tryd.prog 11 #[.slice (some ⟨g, 0, none⟩) 1 1] w Q :=
  (sum_lit1 ⟨T, fr, hb⟩ l hS.seen hS.byte hT).mono fun _ w' h => by
    obtain ⟨rfl, hc⟩ := h
    exact hQ w' hc

theorem Row.nil (w : World) : Row w (.slice none 0 0) [] := ⟨Seen.nil w, by simp⟩
theorem Row.keep {w w' : World} {bv : Value} {l : List Nat} (h : Row w bv l) (hc : Chg [] w w') : Row w' bv l := ⟨h.seen.keep hc, h.byte⟩

end Go.Proofs.YthmdebnmjlminaaDoor
