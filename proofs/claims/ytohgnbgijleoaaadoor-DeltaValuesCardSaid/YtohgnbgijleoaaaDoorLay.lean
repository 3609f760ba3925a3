/- What the listed variables (the signs of plain, the forms of delta) give the walks. -/
import Derived.Test.YtohgnbgijleoaaaDoorNv
import Derived.LaidMore
import Derived.LaidLaws
import Derived.LaidHandle
import Derived.MakeChecks
import Derived.Lib.LaidTab
namespace Go.Proofs.YtohgnbgijleoaaaDoor
open Go.RowKit
set_option linter.unusedVariables false

def sigZ : List Int := [45, 98, 52, 56, 116]
/-- The forms' texts. -/
def frmS : List (List Nat) := [[], [], [115], [110], [108, 116]]

/-- What the walks lean on: the cells of the signs, of the forms. -/
structure Laid (w : World) : Prop where
  size : 1 < w.heap.size
  cell : ∀ i, i < 5 → w.cell? ⟨1, i, none⟩ = some (.int .i32 (sigZ.getD i 0))
  frm : ∀ i, i < 5 → w.cell? ⟨0, i, none⟩ = some (.string (str (frmS.getD i [])))

def laidList : List (String × DataW Unit) := [("shredder/plain.signs", Rows.laid_shredder_plain_signs), ("shredder/delta.forms", Rows.laid_shredder_delta_forms)]

theorem gSigns : Tryd.prog.globalNamed "shredder/plain.signs" = some 1 := by kernel_rfl
theorem tSigns : (Tryd.prog.globals[1]?).map (·.type) = some 87 := by kernel_rfl
theorem gForms : Tryd.prog.globalNamed "shredder/delta.forms" = some 0 := by kernel_rfl
theorem tForms : (Tryd.prog.globals[0]?).map (·.type) = some 53 := by kernel_rfl

/-- An array of texts that reads as a list of texts holds them, cell for cell. -/
theorem cells_of_strs {H : Type} {enc : TypeId × Value → H} {P : Program} {w : World} {base : Nat} {sp : Nat → Bool} {held : Bool} {fuel : Nat} {t e : TypeId} {n : Nat} {cs : List Value} {zs : List ByteArray} {p : List MemPlace}
    (ht : P.underlying t = some (.array n e)) (he : P.underlying e = some .string) (hce : P.cellsOf e = 1) (hct : P.cellsOf t = n)
    (h : DataW.trod enc P w base sp held fuel t cs = some (.agg (zs.map fun s => .lit (.string s.data.toList)), p)) : cs = zs.map fun s => Value.string s := by
  cases fuel with
  | zero => simp [DataW.trod] at h
  | succ fuel =>
    simp only [DataW.trod, ht, hce, hct, Nat.mul_one] at h
    split at h
    · rename_i hl
      obtain ⟨xs, hm, hx⟩ := Option.map_eq_some_iff.1 h
      have hxs : xs.map (·.1) = zs.map fun s => (DataW.lit (.string s.data.toList) : DataW H) := by
        have := congrArg Prod.fst hx
        simpa using this
      have hxl : xs.length = n := by simpa using Lib.mapM_length hm
      have hzl : zs.length = n := by
        have := congrArg List.length hxs
        simp at this
        omega
      apply List.ext_getElem?
      intro i
      by_cases hi : i < n
      · obtain ⟨b, hb, hf⟩ := Lib.mapM_at hm i i (by simp [hi])
        obtain ⟨z, hc, rfl, _⟩ := DataW.trod_string he hf
        have h1 : cs[i]? = some (.string z) := by
          have := congrArg (·[0]?) hc
          simpa [List.getElem?_take, List.getElem?_drop] using this
        have h2 : (xs.map (·.1))[i]? = some (DataW.lit (.string z.data.toList) : DataW H) := by simp [hb]
        rw [hxs] at h2
        simp only [List.getElem?_map, Option.map_eq_some_iff, DataW.lit.injEq, Lit.string.injEq] at h2
        obtain ⟨z', hz', h3⟩ := h2
        have h4 : z' = z := by
          cases z; cases z'
          congr 1
          exact Array.ext' h3
        subst h4
        simp [h1, hz']
      · rw [List.getElem?_eq_none (by omega), List.getElem?_eq_none (by simp; omega)]
    · cases h

theorem laid_of {W : World} (h : laidMetH Tryd.prog laidList W) : Laid W := by
  rw [MakeChecks.laidMetH_plain _ _ _ (by kernel_rfl)] at h
  have h' : laidMet Tryd.prog [("shredder/plain.signs", Lib.tabData .i32 sigZ), ("shredder/delta.forms", Rows.laid_shredder_delta_forms)] W := h
  have hT := Lib.tabIs_of_head gSigns tSigns Tryd.underlying87 Tryd.underlying21 (by kernel_rfl) (by kernel_rfl) h'
  have hc : ∀ i, i < 5 → W.cell? ⟨1, i, none⟩ = some (.int .i32 (sigZ.getD i 0)) := fun i hi => hT.cell gSigns i (by simpa [sigZ] using hi)
  have hF : W.var? Tryd.prog "shredder/delta.forms" = some ((frmS.map fun l => Value.string (str l)).toArray) := by
    obtain ⟨ps, h1, -⟩ := h'
    obtain ⟨g1, t1, cs1, f1, p1, q1, hg1, ht1, hv1, hd1, hrest, hps1⟩ := h1
    obtain ⟨g', t', cs, fuel, p, q, hg', ht', hvar, hd, _, _⟩ := hrest
    obtain rfl := Option.some.inj (gForms.symm.trans hg')
    obtain rfl := Option.some.inj (tForms.symm.trans ht')
    rw [hvar]
    have hz := cells_of_strs (zs := frmS.map str) Tryd.underlying53 Tryd.underlying9 (by kernel_rfl) (by kernel_rfl) (hd.trans (by rfl))
    congr 1
    apply Array.ext'
    rw [hz]
    simp
  have hf : ∀ i, i < 5 → W.cell? ⟨0, i, none⟩ = some (.string (str (frmS.getD i []))) := fun i hi => by
    have := World.var?_cell gForms hF i
    rw [this]
    have : i = 0 ∨ i = 1 ∨ i = 2 ∨ i = 3 ∨ i = 4 := by omega
    rcases this with rfl | rfl | rfl | rfl | rfl <;> rfl
  exact ⟨World.block_lt_of_cell? W ⟨1, 0, none⟩ (hc 0 (by decide)), hc, hf⟩

theorem door_met (os : Os) (args : Array Value) : laidMetH Tryd.prog laidList ((World.doorLaid Tryd.prog 400 os).forCall (fun _ _ => 0) ⟨#[], args, []⟩).memory :=
  laidMetH_of_parts3 (fuel := 8) (laidMet_of_run' 8 (by kernel_rfl) (by kernel_rfl)) (by kernel_rfl) (by kernel_rfl)

theorem Laid.keep {w w' : World} (h : Laid w) (hc : Chg [] w w') : Laid w' :=
  ⟨Nat.lt_of_lt_of_le h.size hc.size, fun i hi => hc.cell (h.cell i hi) (by simp), fun i hi => hc.cell (h.frm i hi) (by simp)⟩

theorem Laid.own {S : List Nat} {w w' : World} (h : Laid w) (hc : Chg S w w') (hS : 1 ∉ S) (hS0 : 0 ∉ S) : Laid w' :=
  ⟨Nat.lt_of_lt_of_le h.size hc.size, fun i hi => hc.cell (h.cell i hi) hS, fun i hi => hc.cell (h.frm i hi) hS0⟩

end Go.Proofs.YtohgnbgijleoaaaDoor
