/- Moved together from several texts. -/
import Derived.Test.YtgfjmbjpikcffaaVb
import Derived.Test.YtgfjmbjpikcffaaSa
import Derived.Laws.Rows
namespace Go.Proofs.Ytgfjmbjpikcffaa
open Go.RowKit
set_option linter.unusedVariables false
set_option linter.unusedSimpArgs false

/-- A value, as an argument. -/
abbrev vvV (v : V) : Value := .agg #[.int .i64 v.n, .string v.s]

/-- A value's own block. -/
abbrev vo (v : V) : Obj := .cells #[.int .i64 v.n, .string v.s] 35

theorem SeenK.sliced {α : Type} {enc : α → List Value} {k : Nat} {w : World} {ao : Option Addr} {len cap : Nat} {l : List α} (h : SeenK enc k w (.slice ao len cap) l) (lo hi : Nat) (h1 : lo ≤ hi) (h2 : hi ≤ len) :
    SeenK enc k w (Go.sliced ao lo hi cap k) ((l.take hi).drop lo) := by
  obtain ⟨ao', cap', he, hc, hm, hx⟩ := h
  injection he with e1 e2 e3
  subst e1 e2 e3
  have hlen : ((l.take hi).drop lo).length = hi - lo := by simp; omega
  unfold Go.sliced
  rw [← hlen]
  refine ⟨_, _, rfl, by rw [hlen]; omega, by omega, fun hp => ?_⟩
  rw [hlen] at hp
  obtain ⟨g, off, rfl, hcell⟩ := hx (by omega)
  refine ⟨g, off + lo * k, ?_, fun j x i u hj hu => ?_⟩
  · rw [if_neg (by omega)]
    simp only [Option.map_some, addr_add]
  · rw [List.getElem?_drop, List.getElem?_take] at hj
    split at hj
    · have := hcell (lo + j) x i u hj hu
      rw [Nat.add_mul, ← Nat.add_assoc] at this
      exact this
    · cases hj

theorem elem_values : Try.prog.elem 22 = 35 := by kernel_rfl

theorem info_value : ∃ i, Try.prog.info? 35 = some i ∧ i.zero = some (.agg #[.int .i64 0, .string ByteArray.empty]) ∧ i.size = 2 ∧ i.bytes = 24 :=
  info_parts (show (Try.prog.info? 35).map (fun i => (i.zero, i.size, i.bytes)) = some (some (.agg #[.int .i64 0, .string ByteArray.empty]), 2, 24) by kernel_rfl)

/-- l[lo:], as a run equation, of values. -/
theorem run_back_v {w : World} {ao : Option Addr} {len cap : Nat} {l : List V} (h : SeenV w (.slice ao len cap) l) (hl : l.length = len) (hc : len ≤ cap) (lo : Nat) (h2 : lo ≤ len) :
    ∃ ao' cap', SeenV w (.slice ao' (len - lo) cap') (l.drop lo) ∧ ∀ wx, (Instr.slice 22 (.slice ao len cap) (some (.int .i64 (lo : Int))) none none).run Try.prog wx = .ok (.slice ao' (len - lo) cap') wx := by
  have hs := h.sliced lo len h2 (Nat.le_refl _)
  rw [show l.take len = l by rw [← hl, List.take_length]] at hs
  refine ⟨_, _, hs, fun wx => ?_⟩
  obtain ⟨i0, hi0, _, hz1, _⟩ := info_value
  rw [run_slice_l wx 22 ao len cap (by rw [elem_values]; exact Try.underlying22) .i64 lo (by omega) (by omega), elem_values]
  simp [sizeOf, typeInfo, hi0, hz1, Go.sliced]

/-- l[:hi], as a run equation, of values. -/
theorem run_front_v {w : World} {ao : Option Addr} {len cap : Nat} {l : List V} (h : SeenV w (.slice ao len cap) l) (hc : len ≤ cap) (hi : Nat) (h2 : hi ≤ len) :
    ∃ ao' cap', SeenV w (.slice ao' hi cap') (l.take hi) ∧ ∀ wx, (Instr.slice 22 (.slice ao len cap) none (some (.int .i64 (hi : Int))) none).run Try.prog wx = .ok (.slice ao' hi cap') wx := by
  have hs := h.sliced 0 hi (Nat.zero_le _) h2
  rw [List.drop_zero] at hs
  refine ⟨_, _, hs, fun wx => ?_⟩
  obtain ⟨i0, hi0, _, hz1, _⟩ := info_value
  rw [run_slice_h wx 22 ao len cap (by rw [elem_values]; exact Try.underlying22) .i64 hi (by omega) (by omega), elem_values]
  simp [sizeOf, typeInfo, hi0, hz1]
  rfl

/-- A row of values, the first of them. -/
theorem SeenV.get {w : World} {ao : Option Addr} {n cap : Nat} {l : List V} (h : SeenV w (.slice ao n cap) l) (hn : 0 < n) : ∃ g off, ao = some ⟨g, off, none⟩ ∧ ∀ j v, l[j]? = some v → w.cell? ⟨g, off + j * 2, none⟩ = some (.int .i64 v.n) ∧ w.cell? ⟨g, off + j * 2 + 1, none⟩ = some (.string v.s) := by
  obtain ⟨g, off, rfl, hc⟩ := h.at hn
  exact ⟨g, off, rfl, fun j v hv => ⟨by simpa using hc j v 0 _ hv rfl, hc j v 1 _ hv rfl⟩⟩

theorem ret_value {fn : Func} (hres : fn.results = #[.cell 4 35]) {post : Ending → World → Prop} {a : Act} {W : World} {gr : Nat} {x y : Value} (h4 : a.tmps.getD 4 undef = .pointer (some ⟨gr, 0, none⟩)) (hd : a.defers = []) (hh : W.heap[gr]? = some (.cells #[x, y] 35 (0, 0))) (hp : post (.returned (.agg #[x, y])) W) : bodyPost Try.prog fn post .ret a W :=
  bodyPost_ret (results_cell_row hres a.tmps W gr _ _ _ _ h4 hh Try.underlying35 rfl (by kernel_rfl)) hd hp

theorem new2 (w : World) (o p : Obj) : ((w.alloc o).alloc p).heap[w.heap.size + 1]? = some p := by simpa using heap_alloc2_new w o p

theorem V.one (x : V) : ∀ u ∈ V.cs x, u.oneCell' = true := by
  intro u hu
  simp [V.cs] at hu
  rcases hu with rfl | rfl <;> rfl

end Go.Proofs.Ytgfjmbjpikcffaa
