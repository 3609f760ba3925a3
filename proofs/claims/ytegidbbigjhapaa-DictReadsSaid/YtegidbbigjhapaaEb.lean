/- A map from values to numbers that the call makes, as it stands in memory: each word with its place; looked up, and one word more. -/
import Derived.Test.YtegidbbigjhapaaEa
import Derived.Test.YtegidbbigjhapaaUv
import Derived.ChangeKeysEq
import Derived.Maps.Own
namespace Go.Proofs.Ytegidbbigjhapaa
open Go.RowKit
set_option linter.unusedVariables false
set_option linter.unusedSimpArgs false

theorem toList_inj {a b : ByteArray} (h : a.toList = b.toList) : a = b := by
  rw [ByteArray.toList_eq, ByteArray.toList_eq] at h
  cases a; cases b
  congr 1
  exact Array.ext' h

theorem run_eqs (a b : ByteArray) (d : Nat) (w : World) : (Op.equalIn (d + 1) 9 (.string a) (.string b)).run Try.prog w = .ok (decide (a = b)) w := by
  rw [run_equalIn_string w d 9 a b Try.underlying9]
  congr 1
  by_cases h : a = b
  · simp [h]
  · have : ¬ a.toList = b.toList := fun e => h (toList_inj e)
    simp [h, this]
theorem run_eqi (a b : Int) (d : Nat) (w : World) : (Op.equalIn (d + 1) 3 (.int .i64 a) (.int .i64 b)).run Try.prog w = .ok (a == b) w := by
  simp [Op.equalIn, run_underlying Try.underlying3]

theorem part_i (c d : Value) (w : World) : (part 3 #[c, d] 0).run Try.prog w = .ok c w := by
  simp [part, isAgg, run_underlying Try.underlying3]
theorem part_s (c d : Value) (w : World) : (part 9 #[c, d] 1).run Try.prog w = .ok d w := by
  simp [part, isAgg, run_underlying Try.underlying9]

theorem run_eqD (a b : V) (d : Nat) (w : World) : (Op.equalIn (d + 2) 28 (vvV a) (vvV b)).run Try.prog w = .ok (decide (a = b)) w := by
  have hs : Try.prog.stoodInHeld 28 = false := by kernel_rfl
  rw [Op.equalIn]
  obtain ⟨n, s⟩ := a
  obtain ⟨m, t⟩ := b
  simp [run_underlying Try.underlying28, hs, part_i, part_s, run_eqs, run_eqi, Result.andThen, Sem.run_bind]
  by_cases h1 : n = m
  · by_cases h2 : s = t
    · simp [h1, h2, part_s, run_eqs]
    · simp [h1, h2, part_s, run_eqs]
  · simp [h1]

theorem run_eqV (a b : V) (w : World) : (Op.equal 28 (vvV a) (vvV b)).run Try.prog w = .ok (decide (a = b)) w := run_eqD a b 9998 w

/-- The map's entries: each word and its place. -/
def entV (i : Nat) (v : V) : MapEntry := ⟨vvV v, .int .i32 (i : Int), i⟩
def entL : Nat → List V → List MapEntry
  | _, [] => []
  | k, v :: l => entV k v :: entL (k + 1) l
theorem entL_snoc : ∀ (l : List V) (k : Nat) (v : V), entL k (l ++ [v]) = entL k l ++ [entV (k + l.length) v]
  | [], k, v => by simp [entL]
  | x :: l, k, v => by simp [entL, entL_snoc l (k + 1) v, Nat.add_assoc, Nat.add_comm 1]
theorem entL_len : ∀ (l : List V) (k : Nat), (entL k l).length = l.length
  | [], k => rfl
  | x :: l, k => by simp [entL, entL_len l (k + 1)]
def ents (ws : List V) : Array MapEntry := (entL 0 ws).toArray

/-- The map stands as the words say. -/
def MapV (w : World) (b : Nat) (ws : List V) : Prop := w.heap[b]? = some (.map (ents ws) ws.length)

theorem plcV_cons (x : V) (l : List V) (v : V) : plcV (x :: l) v = if x = v then 0 else plcV l v + 1 := by
  unfold plcV
  rw [List.findIdx_cons]
  by_cases h : x = v
  · simp [h]
  · have : (x == v) = false := by simpa using h
    simp [h, this]

theorem run_ask (v : V) (w : World) : ∀ (ws : List V) (k i : Nat), (Instr.findAsking 28 (vvV v) (entL k ws) i).run Try.prog w = .ok (if v ∈ ws then some (i + plcV ws v, .int .i32 ((k + plcV ws v : Nat) : Int)) else none) w
  | [], k, i => by simp [entL, Instr.findAsking]
  | x :: ws, k, i => by
    have ih := run_ask v w ws (k + 1) (i + 1)
    rw [entL, Instr.findAsking, plcV_cons]
    by_cases h : v = x
    · subst h
      simp [entV, run_eqV, Result.andThen]
    · have h' : ¬ x = v := fun e => h e.symm
      have e1 : (decide (v = x)) = false := by simpa using h
      simp only [entV, Sem.run_bind, run_eqV, Result.andThen_ok, if_neg h', List.mem_cons, h, false_or, decide_false, Bool.false_eq_true, if_false]
      rw [ih]
      by_cases hm : v ∈ ws
      · rw [if_pos hm, if_pos hm, Nat.add_assoc, Nat.add_assoc, Nat.add_comm 1]
      · rw [if_neg hm, if_neg hm]

theorem run_find (v : V) (ws : List V) (w : World) : (Instr.findKey 28 (vvV v) (ents ws).toList).run Try.prog w = .ok (if v ∈ ws then some (plcV ws v, .int .i32 ((plcV ws v : Nat) : Int)) else none) w := by
  unfold Instr.findKey ents
  cases ws with
  | nil => simp [entL, run_underlying Try.underlying28, Instr.findNow, Result.andThen]
  | cons x ws =>
    have h := run_ask v w (x :: ws) 0 0
    simp only [Nat.zero_add] at h
    simp only [Sem.run_bind, run_underlying Try.underlying28, Result.andThen_ok]
    rw [show Instr.findNow (.struct _) (vvV v) (entL 0 (x :: ws)) 0 = none from rfl]
    exact h

theorem run_chk (v : V) (em : Bool) (d : Nat) (w : World) : (Instr.checkKey em (d + 2) 28 (vvV v)).run Try.prog w = .ok () w := by
  rw [Instr.checkKey]
  simp [run_underlying Try.underlying28, part_i, part_s, Result.andThen, Sem.run_bind]
  simp [Instr.checkKey, run_underlying Try.underlying3, run_underlying Try.underlying9, part_i, part_s, Result.andThen, Sem.run_bind]

theorem run_lookV {w : World} {b : Nat} {ws : List V} (h : MapV w b ws) (v : V) :
    (Instr.lookup 49 (.map (some b)) (vvV v) true).run Try.prog w = .ok (.tuple #[.int .i32 (if v ∈ ws then ((plcV ws v : Nat) : Int) else 0), .bool (decide (v ∈ ws))]) w := by
  have hz : (zeroValue 21).run Try.prog w = .ok (.int .i32 0) w := by kernel_rfl
  have hc := run_chk v (ents ws).isEmpty 9998 w
  simp only [Instr.lookup, Sem.run_bind, run_underlying Try.underlying49, Result.andThen_ok, MapKept.run_getObj_map h, Sem.run_pure]
  rw [show (10000 : Nat) = 9998 + 2 from rfl, hc]
  simp only [Result.andThen_ok, run_find]
  by_cases hm : v ∈ ws
  · simp [hm]
  · simp [hm, hz, Result.andThen]

theorem run_putV {w : World} {b : Nat} {ws : List V} (h : MapV w b ws) (v : V) (hv : v ∉ ws) :
    (Instr.mapUpdate 49 (.map (some b)) (vvV v) (.int .i32 (ws.length : Int))).run Try.prog w = .ok () (ChangeMaps.setBlock w b (.map (ents (ws ++ [v])) (ws ++ [v]).length)) := by
  have hc := run_chk v false 9998 w
  have he : (ents ws).push { key := vvV v, val := .int .i32 (ws.length : Int), born := ws.length } = ents (ws ++ [v]) := by
    unfold ents
    rw [entL_snoc]
    simp [entV]
  simp only [Instr.mapUpdate, Sem.run_bind, run_underlying Try.underlying49, Result.andThen_ok, MapKept.run_getObj_map h, Sem.run_pure]
  rw [show (10000 : Nat) = 9998 + 2 from rfl, hc]
  simp only [Result.andThen_ok, run_find, if_neg hv]
  rw [MapKept.run_setObj_map _ h, he]
  simp [ChangeMaps.setBlock]

theorem MapV.put {w : World} {b : Nat} {ws us : List V} (h : MapV w b ws) : MapV (ChangeMaps.setBlock w b (.map (ents us) us.length)) b us := by
  unfold MapV ChangeMaps.setBlock
  have hlt : b < w.heap.size := (Array.getElem?_eq_some_iff.1 h).1
  simp [hlt]

theorem Chg.putV {w : World} {b : Nat} {o : Obj} : Chg [b] w (ChangeMaps.setBlock w b o) := by
  refine ⟨rfl, rfl, rfl, ?_, fun k hk hS => ?_⟩
  · simp [ChangeMaps.setBlock]
  · simp at hS
    simp [ChangeMaps.setBlock, Array.getElem?_setIfInBounds, Ne.symm hS]

theorem MapV.made (w : World) : MapV (w.alloc (.map #[] 0)) w.heap.size [] := by
  unfold MapV; rw [heap_alloc_new]; rfl
theorem MapV.keep {w w' : World} {S : List Nat} {b : Nat} {ws : List V} (h : MapV w b ws) (hc : Chg S w w') (hS : b ∉ S) : MapV w' b ws := hc.heap h hS

end Go.Proofs.Ytegidbbigjhapaa
