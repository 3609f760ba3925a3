/- Contract of schema.isTaken. -/
import Derived.Test.YtofnpcfclcfgfaaSm
namespace Go.Proofs.Ytofnpcfclcfgfaa
open Go.RowKit
set_option linter.unusedVariables false

def sameN (l : List F) (ps : List Int) (i k : Nat) : Bool := decide (ps.getD k 0 = ps.getD i 0) && decide ((l.getD k default).n = (l.getD i default).n)
def takenB (l : List F) (ps : List Int) (i : Nat) : Bool := (List.range i).any (sameN l ps i)

theorem SeenI.get {w : World} {ao : Option Addr} {n cap : Nat} {l : List Int} (h : SeenI w (.slice ao n cap) l) (hn : 0 < n) (hl : l.length = n) : ∃ g off, ao = some ⟨g, off, none⟩ ∧ ∀ j, j < n → w.cell? ⟨g, off + j, none⟩ = some (.int .i64 (l.getD j 0)) := by
  obtain ⟨g, off, e, hc⟩ := h.at hn
  refine ⟨g, off, e, fun j hj => SeenI.cell hc ?_⟩
  rw [List.getD, List.getElem?_eq_getElem (by omega)]
  rfl

theorem SeenF.get {w : World} {ao : Option Addr} {n cap : Nat} {l : List F} (h : SeenF w (.slice ao n cap) l) (hn : 0 < n) (hl : l.length = n) : ∃ g off, ao = some ⟨g, off, none⟩ ∧ ∀ j, j < n →
    w.cell? ⟨g, off + j * 4, none⟩ = some (.string (l.getD j default).n) ∧ w.cell? ⟨g, off + j * 4 + 1, none⟩ = some (.int .i64 (l.getD j default).r) ∧ w.cell? ⟨g, off + j * 4 + 2, none⟩ = some (.int .i64 (l.getD j default).k) ∧ w.cell? ⟨g, off + j * 4 + 3, none⟩ = some (.int .i64 (l.getD j default).c) := by
  obtain ⟨g, off, e, hc⟩ := h.at hn
  refine ⟨g, off, e, fun j hj => SeenF.cells hc ?_⟩
  rw [List.getD, List.getElem?_eq_getElem (by omega)]
  rfl

theorem bytes_ext {a b : ByteArray} (h : (a.toList == b.toList) = true) : a = b := by
  have h1 : a.toList = b.toList := by simpa using h
  rw [ByteArray.toList_eq, ByteArray.toList_eq] at h1
  cases a
  cases b
  simp only [ByteArray.mk.injEq]
  exact Array.toList_inj.1 h1

theorem drew_drew (w : World) (a b : Nat) : (w.drewN a).drewN b = w.drewN (a + b) := by
  simp [World.drewN, Nat.add_assoc]

theorem any_range_no {p : Nat → Bool} {k : Nat} (h : (List.range k).any p = false) (hk : p k = false) : (List.range (k + 1)).any p = false := by
  rw [List.range_succ, List.any_append, h]
  simp [hk]
theorem any_range_yes {p : Nat → Bool} {k i : Nat} (h : p k = true) (hk : k < i) : (List.range i).any p = true := by
  rw [List.any_eq_true]
  exact ⟨k, List.mem_range.2 hk, h⟩

set_option maxRecDepth 100000 in
set_option maxHeartbeats 1000000 in
theorem isTaken_any (sv pv : Value) (l : List F) (ps : List Int) (i : Nat) (w : World) (hS : SeenF w sv l) (hP : SeenI w pv ps) (hl : ps.length = l.length) (hi : i < l.length) :
    Calls Try.prog 95 #[sv, pv, .int .i64 (i : Int)] w fun e w' => e = .returned (.bool (takenB l ps i)) ∧ Chg [] w w' := by
  obtain ⟨ao, cap, rfl, hc1, hc2⟩ := hS.shape
  obtain ⟨ao', cap', rfl, hc1', hc2'⟩ := hP.shape
  obtain ⟨n, hn⟩ : ∃ n, n = l.length := ⟨_, rfl⟩
  rw [hl] at hc1' hP ⊢
  rw [← hn] at hi hc1 hc1' hS hP hl ⊢
  have hnm : n ≤ maxLen := by omega
  obtain ⟨g, off, rfl, hcs⟩ := hS.get (by omega) hn.symm
  obtain ⟨g', off', rfl, hcp⟩ := hP.get (by omega) hl
  have HS := Lib.hid hcs; have HP := Lib.hid hcp
  clear hS hP hcs hcp hn hl
  unfold maxLen at hnm
  go_enter Try.func95, Try.ntmps95
  go_wp2
  go_loopw [9] (fun x w' => ∃ k q : Nat, x = .int .i64 (k : Int) ∧ k ≤ i ∧ w' = w.drewN q ∧ (List.range k).any (sameN l ps i) = false) (fun x w' => i - (intOf x).toNat)
  case atStart => exact ⟨0, 0, rfl, by omega, rfl, rfl⟩
  case round =>
    obtain ⟨k, q, rfl, hk, rfl, hno⟩ := hrel
    have HNO := Lib.hid hno
    clear hno
    by_cases hlt : k < i
    · have a1 : (w.drewN q).cell? ⟨g, off + k * 4, none⟩ = some (.string (l.getD k default).n) := (HS.out k (by omega)).1
      have a2 : (w.drewN q).cell? ⟨g, off + i * 4, none⟩ = some (.string (l.getD i default).n) := (HS.out i (by omega)).1
      have a3 : (w.drewN q).cell? ⟨g', off' + k, none⟩ = some (.int .i64 (ps.getD k 0)) := HP.out k (by omega)
      have a4 : (w.drewN q).cell? ⟨g', off' + i, none⟩ = some (.int .i64 (ps.getD i 0)) := HP.out i (by omega)
      obtain ⟨wi, hwi⟩ : ∃ wi, wi = w.drewN q := ⟨_, rfl⟩
      rw [← hwi] at a1 a2 a3 a4 ⊢
      have HW := Lib.hid hwi
      clear hwi
      obtain ⟨nk, hnk⟩ : ∃ x, x = (l.getD k default).n := ⟨_, rfl⟩
      obtain ⟨ni, hni⟩ : ∃ x, x = (l.getD i default).n := ⟨_, rfl⟩
      obtain ⟨pk, hpk⟩ : ∃ x, x = ps.getD k 0 := ⟨_, rfl⟩
      obtain ⟨pi, hpi⟩ : ∃ x, x = ps.getD i 0 := ⟨_, rfl⟩
      have HB := Lib.hid (show sameN l ps i k = (decide (pk = pi) && decide (nk = ni)) by unfold sameN; rw [hnk, hni, hpk, hpi])
      rw [← hnk] at a1; rw [← hni] at a2; rw [← hpk] at a3; rw [← hpi] at a4
      clear hnk hni hpk hpi
      by_cases hps : pk = pi
      · have e1 : (pk == pi) = true := by simpa using hps
        have HPS := Lib.hid hps
        clear hps
        by_cases hn : nk = ni
        · have e2 : (nk.toList == ni.toList) = true := by simp [hn]
          have E := Lib.hid (show takenB l ps i = true from any_range_yes (by rw [HB.out]; simp [HPS.out, hn]) hlt)
          clear hn
          go_wp2_with fail
          go_quiet (fail)
          go_wp2
          go_ret
          exact ⟨ret_bool E.out.symm, by rw [HW.out]; exact ((Chg.refl [] w).drewN q).drewN _⟩
        · have e2 : (nk.toList == ni.toList) = false := by
            rw [Bool.eq_false_iff]
            intro h
            exact hn (bytes_ext h)
          have E := Lib.hid (show (List.range (k + 1)).any (sameN l ps i) = false from any_range_no HNO.out (by rw [HB.out]; simp [hn]))
          clear hn
          go_wp2_with fail
          go_quiet (fail)
          go_wp2
          go_roundw
          case rel => exact ⟨k + 1, _, by go_num, by omega, by rw [HW.out]; exact drew_drew w q _, E.out⟩
          case measure => simp [intOf]; omega
      · have e1 : (pk == pi) = false := by simpa using hps
        have E := Lib.hid (show (List.range (k + 1)).any (sameN l ps i) = false from any_range_no HNO.out (by rw [HB.out]; simp [hps]))
        clear hps
        go_wp2_with fail
        go_quiet (fail)
        go_wp2
        go_roundw
        case rel => exact ⟨k + 1, _, by go_num, by omega, by rw [HW.out]; exact drew_drew w q _, E.out⟩
        case measure => simp [intOf]; omega
    · have e : k = i := by omega
      have E := Lib.hid (show takenB l ps i = false by have h := HNO.out; rw [e] at h; exact h)
      clear e
      go_wp2
      go_ret
      exact ⟨ret_bool E.out.symm, (Chg.refl [] w).drewN q⟩

end Go.Proofs.Ytofnpcfclcfgfaa
