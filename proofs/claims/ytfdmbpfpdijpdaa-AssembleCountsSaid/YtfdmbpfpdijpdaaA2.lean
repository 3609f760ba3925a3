/- Sm, Tk, Ft, Lk: texts of one group, one behind the other. -/
import Derived.Test.YtfdmbpfpdijpdaaA1
namespace Go.Proofs.Ytfdmbpfpdijpdaa
open Go.RowKit
set_option linter.unusedVariables false

def knownB (f : F) : Bool := decide (0 ≤ f.r) && (decide (f.r ≤ 2) && (decide (0 ≤ f.k) && decide (f.k ≤ 4)))
def rootB (f : F) : Bool := decide (f.r = 0) && decide (f.k = 0)
def haveB (f : F) : Bool := if f.k = 0 then decide (1 ≤ f.c) else decide (f.c = 0)

def fv (f : F) : Value := .agg #[.string f.n, .int .i64 f.r, .int .i64 f.k, .int .i64 f.c]

theorem ret_bool {a b : Bool} (h : a = b) : Ending.returned (.bool a) = .returned (.bool b) := by rw [h]

set_option maxHeartbeats 400000 in
theorem known_f (f : F) (w : World) :
    Calls Try.prog 99 #[.agg #[.string f.n, .int .i64 f.r, .int .i64 f.k, .int .i64 f.c]] w fun e w' => e = .returned (.bool (knownB f)) ∧ Chg [] w w' := by
  obtain ⟨n, r, k, c⟩ := f
  unfold knownB
  simp only
  by_cases h1 : 0 ≤ r
  · by_cases h2 : r ≤ 2
    · by_cases h3 : 0 ≤ k
      · by_cases h4 : k ≤ 4
        all_goals
          go_enter Try.func99, Try.ntmps99
          go_wp2
          go_ret
          exact ⟨ret_bool (by simp [h1, h2, h3, h4]), (Chg.refl [] w).alloc _⟩
      · go_enter Try.func99, Try.ntmps99
        go_wp2
        go_ret
        exact ⟨ret_bool (by simp; omega), (Chg.refl [] w).alloc _⟩
    · go_enter Try.func99, Try.ntmps99
      go_wp2
      go_ret
      exact ⟨ret_bool (by simp; omega), (Chg.refl [] w).alloc _⟩
  · go_enter Try.func99, Try.ntmps99
    go_wp2
    go_ret
    exact ⟨ret_bool (by simp; omega), (Chg.refl [] w).alloc _⟩

set_option maxHeartbeats 400000 in
theorem root_f (f : F) (w : World) :
    Calls Try.prog 100 #[.agg #[.string f.n, .int .i64 f.r, .int .i64 f.k, .int .i64 f.c]] w fun e w' => e = .returned (.bool (rootB f)) ∧ Chg [] w w' := by
  obtain ⟨n, r, k, c⟩ := f
  unfold rootB
  simp only
  by_cases h1 : r = 0
  · have b1 : (r == 0) = true := by simp [h1]
    by_cases h2 : k = 0
    · have b2 : (k == 0) = true := by simp [h2]
      clear h1 h2
      go_enter Try.func100, Try.ntmps100
      go_wp2
      go_ret
      exact ⟨ret_bool (by simp_all), (Chg.refl [] w).alloc _⟩
    · have b2 : (k == 0) = false := by simp [h2]
      clear h1 h2
      go_enter Try.func100, Try.ntmps100
      go_wp2
      go_ret
      exact ⟨ret_bool (by simp_all), (Chg.refl [] w).alloc _⟩
  · have b1 : (r == 0) = false := by simp [h1]
    clear h1
    go_enter Try.func100, Try.ntmps100
    go_wp2
    go_ret
    exact ⟨ret_bool (by simp_all), (Chg.refl [] w).alloc _⟩

set_option maxHeartbeats 400000 in
theorem have_f (f : F) (w : World) :
    Calls Try.prog 101 #[.agg #[.string f.n, .int .i64 f.r, .int .i64 f.k, .int .i64 f.c]] w fun e w' => e = .returned (.bool (haveB f)) ∧ Chg [] w w' := by
  obtain ⟨n, r, k, c⟩ := f
  unfold haveB
  simp only
  by_cases h1 : k = 0
  · subst h1
    rw [if_pos rfl]
    go_enter Try.func101, Try.ntmps101
    go_wp2
    go_ret
    exact ⟨rfl, (Chg.refl [] w).alloc _⟩
  · rw [if_neg h1]
    have b1 : (k == 0) = false := by simp [h1]
    have e : (c == 0) = decide (c = 0) := rfl
    clear h1
    have HE := Lib.hid e
    clear e
    go_enter Try.func101, Try.ntmps101
    go_wp2
    go_ret
    exact ⟨ret_bool (by rw [HE.out]), (Chg.refl [] w).alloc _⟩

/-! ### names -/

def letB (c : Nat) : Bool := decide (97 ≤ c) && decide (c ≤ 122)
def sgnB (c : Nat) : Bool := letB c || (decide (48 ≤ c) && decide (c ≤ 57)) || decide (c = 95)
def nameB (l : List Nat) : Bool := decide (1 ≤ l.length) && (decide (l.length ≤ 12) && (letB (l.getD 0 0) && l.all sgnB))

/-- The bytes ahead of pos may be a name's. -/
def NameTo (s : ByteArray) (pos : Nat) : Prop := ∀ j c, (bl s)[j]? = some c → j < pos → sgnB c = true ∧ (j = 0 → letB c = true)
theorem NameTo.zero (s : ByteArray) : NameTo s 0 := fun j c _ h => absurd h (Nat.not_lt_zero j)

theorem NameTo.step {s : ByteArray} {pos b : Nat} (h : NameTo s pos) (hb : (bl s)[pos]? = some b) (h1 : sgnB b = true) (h2 : pos = 0 → letB b = true) : NameTo s (pos + 1) := by
  intro j c hc hj
  by_cases e : j = pos
  · subst e
    rw [hb] at hc
    injection hc with hc
    subst hc
    exact ⟨h1, h2⟩
  · exact h j c hc (by omega)
theorem nameB_no {l : List Nat} {pos b : Nat} (hb : l[pos]? = some b) (h : sgnB b = false ∨ pos = 0 ∧ letB b = false) : nameB l = false := by
  unfold nameB
  rcases h with h | ⟨rfl, h⟩
  · have h2 : l.all sgnB = false := by
      rw [Bool.eq_false_iff]
      intro h3
      rw [List.all_eq_true] at h3
      rw [h3 b (List.mem_of_getElem? hb)] at h
      cases h
    simp [h2]
  · have h2 : l.getD 0 0 = b := by simp [List.getD, hb]
    rw [h2]
    simp [h]
theorem nameB_yes {s : ByteArray} (h : NameTo s s.size) (h1 : 1 ≤ s.size) (h2 : s.size ≤ 12) : nameB (bl s) = true := by
  unfold nameB
  have h0 : (bl s)[0]? = some ((bl s).getD 0 0) := by
    rw [List.getD, List.getElem?_eq_getElem (by simp; omega)]; rfl
  have h3 : (bl s).all sgnB = true := by
    rw [List.all_eq_true]
    intro x hx
    obtain ⟨j, hj⟩ := List.mem_iff_getElem?.1 hx
    exact (h j x hj (by have := (List.getElem?_eq_some_iff.1 hj).1; simpa using this)).1
  have h4 := (h 0 _ h0 (by omega)).2 rfl
  simp only [h3, h4, bl_length]
  simp
  omega

theorem dec_pos (s : ByteArray) (pos : Nat) (h : pos < s.size) : ∃ b r q, (bl s)[pos]? = some b ∧ (Utf8.decode s pos).1 = r ∧ pos + (Utf8.decode s pos).2 = q ∧ r ≤ 2147483647 ∧ (b < 128 ∧ r = b ∧ q = pos + 1 ∨ 128 ≤ b ∧ 128 ≤ r ∧ pos < q) := by
  refine ⟨_, _, _, bl_get s pos h, rfl, rfl, decode_le s pos, ?_⟩
  by_cases hb : (s[pos]'h).toNat < 128
  · rw [decode_ascii s pos h hb]
    exact .inl ⟨hb, rfl, rfl⟩
  · have := decode_high s pos h (by omega)
    exact .inr ⟨by omega, this.1, by omega⟩

theorem Chg.iter {S : List Nat} {a w : World} (h : Chg S a w) (s : ByteArray) (pos : Nat) : Chg S a (w.iter s pos) := h.alloc (.stringIter s pos)

/-- Which way a sign goes. -/
theorem sgn_ways (r pos : Nat) : (97 ≤ r ∧ r ≤ 122) ∨ (r < 97 ∨ 122 < r) ∧ (pos = 0 ∨ 0 < pos ∧ (r = 95 ∨ r ≠ 95 ∧ (r < 48 ∨ 48 ≤ r ∧ (r ≤ 57 ∨ 57 < r)))) := by omega

set_option maxRecDepth 100000 in
set_option maxHeartbeats 1000000 in
theorem isName_any (s : ByteArray) (w : World) (hs : s.size ≤ 1000000) :
    Calls Try.prog 97 #[.string s] w fun e w' => e = .returned (.bool (nameB (bl s))) ∧ Chg [] w w' := by
  by_cases h1 : s.size < 1
  · have E := Lib.hid (show nameB (bl s) = false by simp [nameB]; omega)
    go_enter Try.func97, Try.ntmps97
    go_wp2
    go_ret
    exact ⟨ret_bool E.out.symm, Chg.refl [] w⟩
  by_cases h2 : 12 < s.size
  · have E := Lib.hid (show nameB (bl s) = false by simp [nameB]; omega)
    have d1 : decide ((s.size : Int) < 1) = false := by simp; omega
    have d2 : decide ((12 : Int) < (s.size : Int)) = true := by simp; omega
    clear h1 h2
    go_enter Try.func97, Try.ntmps97
    go_wp2
    go_ret
    exact ⟨ret_bool E.out.symm, Chg.refl [] w⟩
  have d1 : decide ((s.size : Int) < 1) = false := by simp; omega
  have d2 : decide ((12 : Int) < (s.size : Int)) = false := by simp; omega
  go_enter Try.func97, Try.ntmps97
  go_wp2
  go_loopw [3] (fun x w' => ∃ pos : Nat, w' = w.iter s pos ∧ pos ≤ s.size ∧ NameTo s pos) (fun _ w' => s.size - w'.iterPos w.heap.size)
  case atStart => exact ⟨0, rfl, Nat.zero_le _, NameTo.zero s⟩
  case round =>
    obtain ⟨pos, rfl, hps, hto⟩ := hrel
    have HT := Lib.hid hto
    clear hto
    by_cases hp : pos < s.size
    · have hnx : ∀ ty, (Instr.next (.pointer (some ⟨w.heap.size, 0, none⟩)) true ty).run Try.prog (w.iter s pos) = _ := fun ty => run_next_any w s pos ty hp
      obtain ⟨b, r, q, hb, hr, hq, hr2, hbr⟩ := dec_pos s pos hp
      rw [hr, hq] at hnx
      have HB := Lib.hid hb; have HBR := Lib.hid hbr
      clear hb hr hq hbr hps
      rcases sgn_ways r pos with ⟨k1, k2⟩ | ⟨k1, k2⟩
      · have e1 : decide ((97 : Int) ≤ (r : Int)) = true := by simp; omega
        have e2 : decide ((r : Int) ≤ 122) = true := by simp; omega
        go_wp2
        go_roundw
        case rel =>
          have hx := HBR.out
          have hb2 : b = r ∧ q = pos + 1 := by omega
          obtain ⟨rfl, rfl⟩ := hb2
          exact ⟨pos + 1, rfl, by omega, HT.out.step HB.out (by simp [sgnB, letB, k1, k2]) (by simp [letB, k1, k2])⟩
        case measure =>
          have hx := HBR.out
          simp
          omega
      · have E97 : decide ((97 : Int) ≤ (r : Int)) = false ∨ decide ((97 : Int) ≤ (r : Int)) = true ∧ decide ((r : Int) ≤ 122) = false := by
          rcases k1 with h | h
          · left; simp; omega
          · right; simp; omega
        have hlet : letB r = false := by simp [letB]; omega
        have HL := Lib.hid hlet
        clear hlet
        rcases k2 with rfl | ⟨k2, k3⟩
        · have EF := Lib.hid (show nameB (bl s) = false from nameB_no HB.out (.inr ⟨rfl, by
            rcases HBR.out with ⟨_, h, _⟩ | ⟨h, _⟩
            · rw [← h]; exact HL.out
            · simp [letB]; omega⟩))
          rcases E97 with e1 | ⟨e1, e2⟩
          all_goals
            go_wp2
            go_ret
            exact ⟨ret_bool EF.out.symm, (Chg.iter (Chg.refl [] w) s q)⟩
        · have ep : ((pos : Int) == 0) = false := by simp; omega
          rcases k3 with rfl | ⟨k3, k4⟩
          · rcases E97 with e1 | ⟨e1, e2⟩
            all_goals
              go_wp2
              go_roundw
              case rel =>
                have hx := HBR.out
                have hb2 : b = 95 ∧ q = pos + 1 := by omega
                obtain ⟨rfl, rfl⟩ := hb2
                exact ⟨pos + 1, rfl, by omega, HT.out.step HB.out (by decide) (by omega)⟩
              case measure =>
                have hx := HBR.out
                simp
                omega
          · have e95 : ((r : Int) != 95) = true := by simp; omega
            rcases k4 with k4 | ⟨k4, k5 | k5⟩
            · have e48 : decide ((r : Int) < 48) = true := by simp; omega
              have EF := Lib.hid (show nameB (bl s) = false from nameB_no HB.out (.inl (by
                rcases HBR.out with ⟨_, h, _⟩ | ⟨h, _⟩
                · rw [← h]; simp [sgnB, HL.out]; omega
                · omega)))
              rcases E97 with e1 | ⟨e1, e2⟩
              all_goals
                go_wp2
                go_ret
                exact ⟨ret_bool EF.out.symm, (Chg.iter (Chg.refl [] w) s q)⟩
            · have e48 : decide ((r : Int) < 48) = false := by simp; omega
              have e57 : decide ((57 : Int) < (r : Int)) = false := by simp; omega
              rcases E97 with e1 | ⟨e1, e2⟩
              all_goals
                go_wp2
                go_roundw
                case rel =>
                  have hx := HBR.out
                  have hb2 : b = r ∧ q = pos + 1 := by omega
                  obtain ⟨rfl, rfl⟩ := hb2
                  exact ⟨pos + 1, rfl, by omega, HT.out.step HB.out (by simp [sgnB, k4, k5]) (by omega)⟩
                case measure =>
                  have hx := HBR.out
                  simp
                  omega
            · have e48 : decide ((r : Int) < 48) = false := by simp; omega
              have e57 : decide ((57 : Int) < (r : Int)) = true := by simp; omega
              have EF := Lib.hid (show nameB (bl s) = false from nameB_no HB.out (.inl (by
                rcases HBR.out with ⟨_, h, _⟩ | ⟨h, _⟩
                · rw [← h]; simp [sgnB, HL.out]; omega
                · simp [sgnB, letB]; omega)))
              rcases E97 with e1 | ⟨e1, e2⟩
              all_goals
                go_wp2
                go_ret
                exact ⟨ret_bool EF.out.symm, (Chg.iter (Chg.refl [] w) s q)⟩
    · have e : pos = s.size := by omega
      have hnx : ∀ ty, (Instr.next (.pointer (some ⟨w.heap.size, 0, none⟩)) true ty).run Try.prog (w.iter s pos) = _ := fun ty => run_next_end w s pos ty hp
      have EF := Lib.hid (show nameB (bl s) = true from nameB_yes (by rw [← e]; exact HT.out) (by omega) (by omega))
      clear e
      go_wp2
      go_ret
      exact ⟨ret_bool EF.out.symm, (Chg.iter (Chg.refl [] w) s pos)⟩

end Go.Proofs.Ytfdmbpfpdijpdaa

namespace Go.Proofs.Ytfdmbpfpdijpdaa
open Go.RowKit
set_option linter.unusedVariables false

def sameN (l : List F) (ps : List Int) (i k : Nat) : Bool := decide (ps.getD k 0 = ps.getD i 0) && decide ((l.getD k default).n = (l.getD i default).n)
def takenB (l : List F) (ps : List Int) (i : Nat) : Bool := (List.range i).any (sameN l ps i)

theorem SeenF.get {w : World} {ao : Option Addr} {n cap : Nat} {l : List F} (h : SeenF w (.slice ao n cap) l) (hn : 0 < n) (hl : l.length = n) : ∃ g off, ao = some ⟨g, off, none⟩ ∧ ∀ j, j < n →
    w.cell? ⟨g, off + j * 4, none⟩ = some (.string (l.getD j default).n) ∧ w.cell? ⟨g, off + j * 4 + 1, none⟩ = some (.int .i64 (l.getD j default).r) ∧ w.cell? ⟨g, off + j * 4 + 2, none⟩ = some (.int .i64 (l.getD j default).k) ∧ w.cell? ⟨g, off + j * 4 + 3, none⟩ = some (.int .i64 (l.getD j default).c) := by
  obtain ⟨g, off, e, hc⟩ := h.at hn
  refine ⟨g, off, e, fun j hj => SeenF.cells hc ?_⟩
  rw [List.getD, List.getElem?_eq_getElem (by omega)]
  rfl

theorem bytes_ext {a b : ByteArray} (h : (a.toList == b.toList) = true) : a = b := by
  have h1 : a.toList = b.toList := by simpa using h
  rw [ByteArray.toList_eq, ByteArray.toList_eq] at h1
  cases a
  cases b
  simp only [ByteArray.mk.injEq]
  exact Array.toList_inj.1 h1

theorem drew_drew (w : World) (a b : Nat) : (w.drewN a).drewN b = w.drewN (a + b) := by
  simp [World.drewN, Nat.add_assoc]

theorem any_range_no {p : Nat → Bool} {k : Nat} (h : (List.range k).any p = false) (hk : p k = false) : (List.range (k + 1)).any p = false := by
  rw [List.range_succ, List.any_append, h]
  simp [hk]
theorem any_range_yes {p : Nat → Bool} {k i : Nat} (h : p k = true) (hk : k < i) : (List.range i).any p = true := by
  rw [List.any_eq_true]
  exact ⟨k, List.mem_range.2 hk, h⟩

set_option maxRecDepth 100000 in
set_option maxHeartbeats 1000000 in
theorem isTaken_any (sv pv : Value) (l : List F) (ps : List Int) (i : Nat) (w : World) (hS : SeenF w sv l) (hP : SeenI w pv ps) (hl : ps.length = l.length) (hi : i < l.length) :
    Calls Try.prog 98 #[sv, pv, .int .i64 (i : Int)] w fun e w' => e = .returned (.bool (takenB l ps i)) ∧ Chg [] w w' := by
  obtain ⟨ao, cap, rfl, hc1, hc2⟩ := hS.shape
  obtain ⟨ao', cap', rfl, hc1', hc2'⟩ := hP.shape
  obtain ⟨n, hn⟩ : ∃ n, n = l.length := ⟨_, rfl⟩
  rw [hl] at hc1' hP ⊢
  rw [← hn] at hi hc1 hc1' hS hP hl ⊢
  have hnm : n ≤ maxLen := by omega
  obtain ⟨g, off, rfl, hcs⟩ := hS.get (by omega) hn.symm
  obtain ⟨g', off', rfl, hcp⟩ := hP.get (by omega) hl
  have HS := Lib.hid hcs; have HP := Lib.hid hcp
  clear hS hP hcs hcp hn hl
  unfold maxLen at hnm
  go_enter Try.func98, Try.ntmps98
  go_wp2
  go_loopw [9] (fun x w' => ∃ k q : Nat, x = .int .i64 (k : Int) ∧ k ≤ i ∧ w' = w.drewN q ∧ (List.range k).any (sameN l ps i) = false) (fun x w' => i - (intOf x).toNat)
  case atStart => exact ⟨0, 0, rfl, by omega, rfl, rfl⟩
  case round =>
    obtain ⟨k, q, rfl, hk, rfl, hno⟩ := hrel
    have HNO := Lib.hid hno
    clear hno
    by_cases hlt : k < i
    · have a1 : (w.drewN q).cell? ⟨g, off + k * 4, none⟩ = some (.string (l.getD k default).n) := (HS.out k (by omega)).1
      have a2 : (w.drewN q).cell? ⟨g, off + i * 4, none⟩ = some (.string (l.getD i default).n) := (HS.out i (by omega)).1
      have a3 : (w.drewN q).cell? ⟨g', off' + k, none⟩ = some (.int .i64 (ps.getD k 0)) := HP.out k (by omega)
      have a4 : (w.drewN q).cell? ⟨g', off' + i, none⟩ = some (.int .i64 (ps.getD i 0)) := HP.out i (by omega)
      obtain ⟨wi, hwi⟩ : ∃ wi, wi = w.drewN q := ⟨_, rfl⟩
      rw [← hwi] at a1 a2 a3 a4 ⊢
      have HW := Lib.hid hwi
      clear hwi
      obtain ⟨nk, hnk⟩ : ∃ x, x = (l.getD k default).n := ⟨_, rfl⟩
      obtain ⟨ni, hni⟩ : ∃ x, x = (l.getD i default).n := ⟨_, rfl⟩
      obtain ⟨pk, hpk⟩ : ∃ x, x = ps.getD k 0 := ⟨_, rfl⟩
      obtain ⟨pi, hpi⟩ : ∃ x, x = ps.getD i 0 := ⟨_, rfl⟩
      have HB := Lib.hid (show sameN l ps i k = (decide (pk = pi) && decide (nk = ni)) by unfold sameN; rw [hnk, hni, hpk, hpi])
      rw [← hnk] at a1; rw [← hni] at a2; rw [← hpk] at a3; rw [← hpi] at a4
      clear hnk hni hpk hpi
      by_cases hps : pk = pi
      · have e1 : (pk == pi) = true := by simpa using hps
        have HPS := Lib.hid hps
        clear hps
        by_cases hn : nk = ni
        · have e2 : (nk.toList == ni.toList) = true := by simp [hn]
          have E := Lib.hid (show takenB l ps i = true from any_range_yes (by rw [HB.out]; simp [HPS.out, hn]) hlt)
          clear hn
          go_wp2_with fail
          go_quiet (fail)
          go_wp2
          go_ret
          exact ⟨ret_bool E.out.symm, by rw [HW.out]; exact ((Chg.refl [] w).drewN q).drewN _⟩
        · have e2 : (nk.toList == ni.toList) = false := by
            rw [Bool.eq_false_iff]
            intro h
            exact hn (bytes_ext h)
          have E := Lib.hid (show (List.range (k + 1)).any (sameN l ps i) = false from any_range_no HNO.out (by rw [HB.out]; simp [hn]))
          clear hn
          go_wp2_with fail
          go_quiet (fail)
          go_wp2
          go_roundw
          case rel => exact ⟨k + 1, _, by go_num, by omega, by rw [HW.out]; exact drew_drew w q _, E.out⟩
          case measure => simp [intOf]; omega
      · have e1 : (pk == pi) = false := by simpa using hps
        have E := Lib.hid (show (List.range (k + 1)).any (sameN l ps i) = false from any_range_no HNO.out (by rw [HB.out]; simp [hps]))
        clear hps
        go_wp2_with fail
        go_quiet (fail)
        go_wp2
        go_roundw
        case rel => exact ⟨k + 1, _, by go_num, by omega, by rw [HW.out]; exact drew_drew w q _, E.out⟩
        case measure => simp [intOf]; omega
    · have e : k = i := by omega
      have E := Lib.hid (show takenB l ps i = false by have h := HNO.out; rw [e] at h; exact h)
      clear e
      go_wp2
      go_ret
      exact ⟨ret_bool E.out.symm, (Chg.refl [] w).drewN q⟩

end Go.Proofs.Ytfdmbpfpdijpdaa

namespace Go.Proofs.Ytfdmbpfpdijpdaa
open Go.RowKit
set_option linter.unusedVariables false

def faultN (l : List F) (ps ds : List Int) (i : Nat) : Int :=
  if 0 < i ∧ ps.getD i 0 = -1 then 1
  else if 8 < ds.getD i 0 then 11
  else if nameB (bl (l.getD i default).n) = false ∨ takenB l ps i = true then 7
  else if knownB (l.getD i default) = false ∨ (i = 0 ∧ rootB (l.getD i default) = false) then 3
  else if haveB (l.getD i default) = false then 1 else 0

/-- A field in a block of its own. -/
structure Box (w : World) (B : Nat) (f : F) : Prop where
  n : w.cell? ⟨B, 0, none⟩ = some (.string f.n)
  r : w.cell? ⟨B, 1, none⟩ = some (.int .i64 f.r)
  k : w.cell? ⟨B, 2, none⟩ = some (.int .i64 f.k)
  c : w.cell? ⟨B, 3, none⟩ = some (.int .i64 f.c)
theorem Box.keep {w w' : World} {B : Nat} {f : F} (h : Box w B f) (hc : Chg [] w w') : Box w' B f :=
  ⟨hc.cell h.n (by simp), hc.cell h.r (by simp), hc.cell h.k (by simp), hc.cell h.c (by simp)⟩
theorem Box.new (w : World) (f : F) (T : TypeId) : Box (w.alloc (.cells #[.string f.n, .int .i64 f.r, .int .i64 f.k, .int .i64 f.c] T)) w.heap.size f := by
  constructor <;> simp

set_option maxRecDepth 100000 in
set_option maxHeartbeats 1000000 in
theorem fault_any (sv pv dv : Value) (l : List F) (ps ds : List Int) (i : Nat) (w : World) (hS : SeenF w sv l) (hP : SeenI w pv ps) (hD : SeenI w dv ds) (hl : ps.length = l.length) (hl2 : ds.length = l.length) (hi : i < l.length) (hn : ∀ f ∈ l, f.n.size ≤ 1000000) :
    Calls Try.prog 72 #[sv, pv, dv, .int .i64 (i : Int)] w fun e w' => e = .returned (.int .i64 (faultN l ps ds i)) ∧ Chg [] w w' := by
  obtain ⟨ao, cap, rfl, hc1, hc2⟩ := hS.shape
  obtain ⟨ao', cap', rfl, hc1', hc2'⟩ := hP.shape
  obtain ⟨ao2, cap2, rfl, hc12, hc22⟩ := hD.shape
  rw [hl] at hc1' hP ⊢
  rw [hl2] at hc12 hD ⊢
  have HS0 := Lib.hid hS; have HP0 := Lib.hid hP; have HL0 := Lib.hid hl; have HI0 := Lib.hid hi
  obtain ⟨n, hnn⟩ : ∃ n, n = l.length := ⟨_, rfl⟩
  rw [← hnn] at hi hc1 hc1' hc12 hS hP hD hl hl2 HS0 HP0 ⊢
  have hnm : n ≤ maxLen := by omega
  obtain ⟨g, off, rfl, hcs⟩ := hS.get (by omega) hnn.symm
  obtain ⟨g', off', rfl, hcp⟩ := hP.get (by omega) hl
  obtain ⟨g2, off2, rfl, hcd⟩ := hD.get (by omega) hl2
  obtain ⟨a1, a2, a3, a4⟩ := hcs i hi
  have a5 := hcp i hi
  have a6 := hcd i hi
  have hnl : (l.getD i default).n.size ≤ 1000000 := hn _ (by rw [List.getD, List.getElem?_eq_getElem (by omega)]; exact List.getElem_mem _)
  clear hS hP hD hcs hcp hcd hnn hl hl2 hn
  obtain ⟨f, hf⟩ : ∃ f, f = l.getD i default := ⟨_, rfl⟩
  obtain ⟨p, hp⟩ : ∃ p, p = ps.getD i 0 := ⟨_, rfl⟩
  obtain ⟨d, hd⟩ : ∃ d, d = ds.getD i 0 := ⟨_, rfl⟩
  have HE := Lib.hid (show faultN l ps ds i = if 0 < i ∧ p = -1 then 1 else if 8 < d then 11 else if nameB (bl f.n) = false ∨ takenB l ps i = true then 7 else if knownB f = false ∨ (i = 0 ∧ rootB f = false) then 3 else if haveB f = false then 1 else 0 by unfold faultN; rw [hf, hp, hd])
  rw [← hf] at a1 a2 a3 a4 hnl; rw [← hp] at a5; rw [← hd] at a6
  clear hf hp hd
  unfold maxLen at hnm
  have c5 : ∀ o, (w.alloc o).cell? ⟨g', off' + i, none⟩ = some (.int .i64 p) := fun o => ((Chg.refl [] w).alloc o).cell a5 (by simp)
  have c6 : ∀ o, (w.alloc o).cell? ⟨g2, off2 + i, none⟩ = some (.int .i64 d) := fun o => ((Chg.refl [] w).alloc o).cell a6 (by simp)
  have HA := Lib.hid ((Chg.refl [] w).alloc (.cells #[.string f.n, .int .i64 f.r, .int .i64 f.k, .int .i64 f.c] 62))
  by_cases h1 : 0 < i ∧ p = -1
  · have d1 : 0 < i := h1.1
    have d2 : (p == -1) = true := by simp; omega
    have E := Lib.hid (show faultN l ps ds i = 1 by rw [HE.out, if_pos h1])
    clear HE h1
    go_enter Try.func72, Try.ntmps72
    go_wp2
    go_ret
    exact ⟨ret_int E.out.symm, HA.out⟩
  have hq : ¬ 0 < i ∨ 0 < i ∧ (p == -1) = false := by
    by_cases h : 0 < i
    · right; simp; omega
    · left; exact h
  by_cases h2 : 8 < d
  · have d3 : decide ((8 : Int) < d) = true := by simpa using h2
    have E := Lib.hid (show faultN l ps ds i = 11 by rw [HE.out, if_neg h1, if_pos h2])
    clear HE h1
    rcases hq with d1 | ⟨d1, d2⟩
    all_goals
      go_enter Try.func72, Try.ntmps72
      go_wp2
      go_ret
      exact ⟨ret_int E.out.symm, HA.out⟩
  have d3 : decide ((8 : Int) < d) = false := by simpa using h2
  rw [if_neg h1, if_neg h2] at HE
  clear h1 h2
  have hbox : Box (w.alloc (.cells #[.string f.n, .int .i64 f.r, .int .i64 f.k, .int .i64 f.c] 62)) w.heap.size f := Box.new w f _
  have HBX := Lib.hid hbox
  clear hbox
  by_cases h3 : nameB (bl f.n) = false
  · have E := Lib.hid (show faultN l ps ds i = 7 by rw [HE.out, if_pos (.inl h3)])
    have H3 := Lib.hid h3
    clear HE h3
    rcases hq with d1 | ⟨d1, d2⟩
    all_goals
      go_enter Try.func72, Try.ntmps72
      go_wp2_with fail
      (with_reducible refine (isName_any f.n _ hnl).mono ?_)
      rintro e w1 ⟨rfl, hk⟩
      have HK := Lib.hid (HA.out.trans hk (by simp)); clear hk
      rw [H3.out]
      go_wp2
      go_ret
      exact ⟨ret_int E.out.symm, HK.out⟩
  have h3 : nameB (bl f.n) = true := by simpa using h3
  by_cases h4 : takenB l ps i = true
  · have E := Lib.hid (show faultN l ps ds i = 7 by rw [HE.out, if_pos (.inr h4)])
    have H3 := Lib.hid h3; have H4 := Lib.hid h4
    clear HE h3 h4
    rcases hq with d1 | ⟨d1, d2⟩
    all_goals
      go_enter Try.func72, Try.ntmps72
      go_wp2_with fail
      (with_reducible refine (isName_any f.n _ hnl).mono ?_)
      rintro e w1 ⟨rfl, hk⟩
      have HK := Lib.hid (HA.out.trans hk (by simp)); clear hk
      rw [H3.out]
      go_wp2_with fail
      (with_reducible refine (isTaken_any _ _ l ps i w1 (HS0.out.keep HK.out) (HP0.out.keep HK.out) HL0.out HI0.out).mono ?_)
      rintro e w2 ⟨rfl, hk⟩
      have HK2 := Lib.hid (HK.out.trans hk (by simp)); clear hk
      rw [H4.out]
      go_wp2
      go_ret
      exact ⟨ret_int E.out.symm, HK2.out⟩
  have h4 : takenB l ps i = false := by simpa using h4
  rw [if_neg (by rw [h3, h4]; simp)] at HE
  have H3 := Lib.hid h3; have H4 := Lib.hid h4
  clear h3 h4
  by_cases h5 : knownB f = false
  · have E := Lib.hid (show faultN l ps ds i = 3 by rw [HE.out, if_pos (.inl h5)])
    have H5 := Lib.hid h5
    clear HE h5
    rcases hq with d1 | ⟨d1, d2⟩
    all_goals
      go_enter Try.func72, Try.ntmps72
      go_wp2_with fail
      (with_reducible refine (isName_any f.n _ hnl).mono ?_)
      rintro e w1 ⟨rfl, hk⟩
      have HB1 := Lib.hid (HBX.out.keep hk)
      have HK := Lib.hid (HA.out.trans hk (by simp)); clear hk
      rw [H3.out]
      go_wp2_with fail
      (with_reducible refine (isTaken_any _ _ l ps i w1 (HS0.out.keep HK.out) (HP0.out.keep HK.out) HL0.out HI0.out).mono ?_)
      rintro e w2 ⟨rfl, hk⟩
      have hb := HB1.out.keep hk
      obtain ⟨b1, b2, b3, b4⟩ := hb
      have HK2 := Lib.hid (HK.out.trans hk (by simp)); clear hk
      rw [H4.out]
      go_wp2_with fail
      (with_reducible refine (known_f f _).mono ?_)
      rintro e w3 ⟨rfl, hk⟩
      have HK3 := Lib.hid (HK2.out.trans hk (by simp)); clear hk
      rw [H5.out]
      go_wp2
      go_ret
      exact ⟨ret_int E.out.symm, HK3.out⟩
  have h5 : knownB f = true := by simpa using h5
  by_cases h6 : i = 0 ∧ rootB f = false
  · have E := Lib.hid (show faultN l ps ds i = 3 by rw [HE.out, if_pos (.inr h6)])
    have H5 := Lib.hid h5; have H6 := Lib.hid h6.2
    have e0 : ((i : Int) == 0) = true := by simp [h6.1]
    have d1 : ¬ 0 < i := by omega
    clear HE h5 hq h6
    go_enter Try.func72, Try.ntmps72
    go_wp2_with fail
    (with_reducible refine (isName_any f.n _ hnl).mono ?_)
    rintro e w1 ⟨rfl, hk⟩
    have HB1 := Lib.hid (HBX.out.keep hk)
    have HK := Lib.hid (HA.out.trans hk (by simp)); clear hk
    rw [H3.out]
    go_wp2_with fail
    (with_reducible refine (isTaken_any _ _ l ps i w1 (HS0.out.keep HK.out) (HP0.out.keep HK.out) HL0.out HI0.out).mono ?_)
    rintro e w2 ⟨rfl, hk⟩
    have HB2 := Lib.hid (HB1.out.keep hk)
    obtain ⟨b1, b2, b3, b4⟩ := HB2.out
    have HK2 := Lib.hid (HK.out.trans hk (by simp)); clear hk
    rw [H4.out]
    go_wp2_with fail
    (with_reducible refine (known_f f _).mono ?_)
    rintro e w3 ⟨rfl, hk⟩
    obtain ⟨b1, b2, b3, b4⟩ := HB2.out.keep hk
    have HK3 := Lib.hid (HK2.out.trans hk (by simp)); clear hk
    rw [H5.out]
    go_wp2_with fail
    (with_reducible refine (root_f f _).mono ?_)
    rintro e w4 ⟨rfl, hk⟩
    have HK4 := Lib.hid (HK3.out.trans hk (by simp)); clear hk
    rw [H6.out]
    go_wp2
    go_ret
    exact ⟨ret_int E.out.symm, HK4.out⟩
  rw [if_neg (by rw [h5]; simp; simpa using h6)] at HE
  have H5 := Lib.hid h5
  clear h5
  have HE2 := Lib.hid (show faultN l ps ds i = if haveB f = true then 0 else 1 by rw [HE.out]; cases haveB f <;> rfl)
  clear HE
  have hways : (i = 0 ∧ rootB f = true) ∨ (¬ i = 0) := by
    by_cases h : i = 0
    · left; exact ⟨h, by simpa [h] using h6⟩
    · right; exact h
  clear h6
  rcases hways with ⟨h0, h7⟩ | h7
  · have H7 := Lib.hid h7
    have e0 : ((i : Int) == 0) = true := by simp [h0]
    have d1 : ¬ 0 < i := by omega
    clear h7 hq h0
    go_enter Try.func72, Try.ntmps72
    go_wp2_with fail
    (with_reducible refine (isName_any f.n _ hnl).mono ?_)
    rintro e w1 ⟨rfl, hk⟩
    have HB1 := Lib.hid (HBX.out.keep hk)
    have HK := Lib.hid (HA.out.trans hk (by simp)); clear hk
    rw [H3.out]
    go_wp2_with fail
    (with_reducible refine (isTaken_any _ _ l ps i w1 (HS0.out.keep HK.out) (HP0.out.keep HK.out) HL0.out HI0.out).mono ?_)
    rintro e w2 ⟨rfl, hk⟩
    have HB2 := Lib.hid (HB1.out.keep hk)
    obtain ⟨b1, b2, b3, b4⟩ := HB2.out
    have HK2 := Lib.hid (HK.out.trans hk (by simp)); clear hk
    rw [H4.out]
    go_wp2_with fail
    (with_reducible refine (known_f f _).mono ?_)
    rintro e w3 ⟨rfl, hk⟩
    have HB3 := Lib.hid (HB2.out.keep hk)
    obtain ⟨b1, b2, b3, b4⟩ := HB3.out
    have HK3 := Lib.hid (HK2.out.trans hk (by simp)); clear hk
    rw [H5.out]
    go_wp2_with fail
    (with_reducible refine (root_f f _).mono ?_)
    rintro e w4 ⟨rfl, hk⟩
    obtain ⟨b1, b2, b3, b4⟩ := HB3.out.keep hk
    have HK4 := Lib.hid (HK3.out.trans hk (by simp)); clear hk
    rw [H7.out]
    go_wp2_with fail
    (with_reducible refine (have_f f _).mono ?_)
    rintro e w5 ⟨rfl, hk⟩
    have HK5 := Lib.hid (HK4.out.trans hk (by simp)); clear hk
    cases hh : haveB f
    all_goals
      have E := Lib.hid HE2.out
      rw [hh] at E
      clear hh HE2
      go_wp2
      go_ret
      exact ⟨ret_int E.out.symm, HK5.out⟩
  · have e0 : ((i : Int) == 0) = false := by simp; omega
    rcases hq with d1 | ⟨d1, d2⟩
    · omega
    go_enter Try.func72, Try.ntmps72
    go_wp2_with fail
    (with_reducible refine (isName_any f.n _ hnl).mono ?_)
    rintro e w1 ⟨rfl, hk⟩
    have HB1 := Lib.hid (HBX.out.keep hk)
    have HK := Lib.hid (HA.out.trans hk (by simp)); clear hk
    rw [H3.out]
    go_wp2_with fail
    (with_reducible refine (isTaken_any _ _ l ps i w1 (HS0.out.keep HK.out) (HP0.out.keep HK.out) HL0.out HI0.out).mono ?_)
    rintro e w2 ⟨rfl, hk⟩
    have HB2 := Lib.hid (HB1.out.keep hk)
    obtain ⟨b1, b2, b3, b4⟩ := HB2.out
    have HK2 := Lib.hid (HK.out.trans hk (by simp)); clear hk
    rw [H4.out]
    go_wp2_with fail
    (with_reducible refine (known_f f _).mono ?_)
    rintro e w3 ⟨rfl, hk⟩
    obtain ⟨b1, b2, b3, b4⟩ := HB2.out.keep hk
    have HK3 := Lib.hid (HK2.out.trans hk (by simp)); clear hk
    rw [H5.out]
    go_wp2_with fail
    (with_reducible refine (have_f f _).mono ?_)
    rintro e w5 ⟨rfl, hk⟩
    have HK5 := Lib.hid (HK3.out.trans hk (by simp)); clear hk
    cases hh : haveB f
    all_goals
      have E := Lib.hid HE2.out
      rw [hh] at E
      clear hh HE2
      go_wp2
      go_ret
      exact ⟨ret_int E.out.symm, HK5.out⟩

end Go.Proofs.Ytfdmbpfpdijpdaa

namespace Go.Proofs.Ytfdmbpfpdijpdaa
open Go.RowKit
set_option linter.unusedVariables false

/-- How many fields each of n groups has. -/
def hasL (n : Nat) (qs : List Int) : List Int := (List.range n).map fun (i : Nat) => ((qs.count (i : Int) : Nat) : Int)
@[simp] theorem hasL_length (n : Nat) (qs : List Int) : (hasL n qs).length = n := by simp [hasL]
theorem hasL_get (n : Nat) (qs : List Int) (i : Nat) (h : i < n) : (hasL n qs)[i]? = some ((qs.count (i : Int) : Nat) : Int) := by simp [hasL, h]
theorem hasL_nil (n : Nat) : hasL n [] = List.replicate n 0 := by
  apply List.ext_getElem?
  intro i
  by_cases h : i < n
  · rw [hasL_get n [] i h]; simp [h]
  · rw [List.getElem?_eq_none (by simp; omega), List.getElem?_eq_none (by simp; omega)]
theorem hasL_snoc (n : Nat) (qs : List Int) (g : Nat) (h : g < n) : hasL n (qs ++ [(g : Int)]) = (hasL n qs).set g (((qs.count (g : Int) : Nat) : Int) + 1) := by
  apply List.ext_getElem?
  intro i
  by_cases hi : i < n
  · rw [hasL_get n _ i hi]
    by_cases e : g = i
    · subst e
      rw [List.getElem?_set_self (by simpa using h)]
      simp
    · rw [List.getElem?_set_ne e, hasL_get n _ i hi]
      have hne : ((g : Int) == (i : Int)) = false := by simp; omega
      simp only [List.count_append, List.count_singleton, hne]
      simp
  · rw [List.getElem?_eq_none (by simp; omega), List.getElem?_eq_none (by simp; omega)]

def fewB (l : List F) (ps : List Int) (i : Nat) : Bool := decide ((((ps.drop 1).count (i : Int) : Nat) : Int) < (l.getD i default).c)
def lacksB (l : List F) (ps : List Int) : Bool := (List.range l.length).any (fewB l ps)

set_option maxRecDepth 100000 in
set_option maxHeartbeats 1000000 in
theorem lacks_any (sv : Value) (B : Nat) (l : List F) (ps : List Int) (w : World) (hS : SeenF w sv l) (hP : BlkI w B ps) (hl : ps.length = l.length) (hl0 : l.length ≤ 1000000) (h1 : 1 ≤ l.length) (hps : ∀ p ∈ ps.drop 1, 0 ≤ p ∧ p < l.length) :
    Calls Try.prog 73 #[sv, .slice (some ⟨B, 0, none⟩) l.length l.length] w fun e w' => e = .returned (.bool (lacksB l ps)) ∧ Chg [] w w' := by
  obtain ⟨i0, hi, hz0, hz1, hz2⟩ := info_int
  obtain ⟨ao, cap, rfl, hc1, hc2⟩ := hS.shape
  have HS := Lib.hid hS; have HP := Lib.hid hP
  have hBw : B < w.heap.size := hP.lt
  clear hS hP
  obtain ⟨m, hm⟩ : ∃ m, m + 1 = l.length := ⟨l.length - 1, by omega⟩
  rw [← hm] at hc1 HS ⊢
  rw [← hm] at hps hl hl0
  have HPS := Lib.hid hps
  have hnm : m + 1 ≤ maxLen := by unfold maxLen; omega
  obtain ⟨qs, hqs⟩ : ∃ qs, qs = ps.drop 1 := ⟨_, rfl⟩
  have HQL := Lib.hid (show qs.length = m by rw [hqs]; simp; omega)
  have HQ := Lib.hid (show ∀ (j : Nat) (p : Int), qs[j]? = some p → ps[j + 1]? = some p by intro j p h; rw [hqs, List.getElem?_drop, Nat.add_comm] at h; exact h)
  have HQB := Lib.hid (show ∀ (j : Nat) (p : Int), qs[j]? = some p → 0 ≤ p ∧ p < ((m + 1 : Nat) : Int) by intro j p h; rw [hqs] at h; exact hps p (List.mem_of_getElem? h))
  have HLK := Lib.hid (show lacksB l ps = (List.range (m + 1)).any (fun i => decide (((qs.count (i : Int) : Nat) : Int) < (l.getD i default).c)) by unfold lacksB fewB; rw [hqs, hm])
  have HM := Lib.hid hm
  clear hps hl hqs h1 hm
  go_enter Try.func73, Try.ntmps73
  go_wp2_with (at_make; refine wpList_make_full _ rfl _ _ 22 rfl w.heap.size 3 i0 (.int .i64 0) 1 Try.underlying22 hi hz0 hz1 .i64 .i64 _ _ (m + 1) rfl rfl rfl rfl ?c1 ?c2 (Nat.le_refl _) ?_)
  case c1 => rw [hz2]; omega
  case c2 => exact hnm
  intro w1 hown1 hg1
  have hlt1 : w.heap.size < w1.heap.size := (hown1.lt w.heap.size rfl).2
  rw [cells_zeroi, ← hasL_nil] at hown1
  have HB1 := Lib.hid (blkI_of_own hown1 rfl)
  have HC1 := Lib.hid ((Chg.refl [] w).grown hg1 (by simp))
  clear hown1 hg1
  rcases Nat.eq_zero_or_pos m with h0 | h0
  case' inl =>
    have hm1 : m = 0 := h0
  case' inr =>
    have hm1 : ¬ m = 0 := by omega
  all_goals
    go_wp2
    go_loopw [16] (fun x w' => ∃ k : Nat, x = .int .i64 (k : Int) ∧ k ≤ m ∧ Chg [] w w' ∧ BlkI w' w.heap.size (hasL (m + 1) (qs.take k))) (fun x w' => m - (intOf x).toNat)
    case atStart => exact ⟨0, rfl, Nat.zero_le _, HC1.out, HB1.out⟩
    case round =>
      obtain ⟨k, rfl, hk, hc, hb⟩ := hrel
      have HC := Lib.hid hc; have HB := Lib.hid hb
      clear hc hb
      by_cases hlt : k < m
      · by_cases hz : m = 0 <;> try omega
        all_goals
          obtain ⟨p, hp⟩ : ∃ p, qs[k]? = some p := ⟨_, List.getElem?_eq_getElem (by rw [HQL.out]; exact hlt)⟩
          have hpr := HQB.out k p hp
          obtain ⟨q, rfl⟩ : ∃ q : Nat, p = q := ⟨p.toNat, by omega⟩
          have hpc : wr.cell? ⟨B, 1 + k, none⟩ = some (.int .i64 (q : Int)) := HC.out.cell (HP.out.cell (by rw [Nat.add_comm]; exact HQ.out k _ hp)) (by simp)
          have hqm : q < m + 1 := by omega
          obtain ⟨c, hcc⟩ : ∃ c, c = (qs.take k).count (q : Int) := ⟨_, rfl⟩
          have hqc : wr.cell? ⟨w.heap.size, q, none⟩ = some (.int .i64 (c : Int)) := by rw [hcc]; exact HB.out.cell (hasL_get _ _ _ hqm)
          have hcb : c ≤ k := by rw [hcc]; exact Nat.le_trans List.count_le_length (List.length_take_le _ _)
          have hfr : wr.frozen? ⟨w.heap.size, q, none⟩ = false := HB.out.frozen q
          have E := Lib.hid (show hasL (m + 1) (qs.take (k + 1)) = (hasL (m + 1) (qs.take k)).set q ((c : Int) + 1) by
            rw [List.take_add_one, hp, hcc]
            exact hasL_snoc _ _ _ hqm)
          clear hp hpr hcc
          go_wp2
          go_roundw
          case rel => exact ⟨k + 1, by go_num, by omega, HC.out.setCell (by simp) _, by rw [E.out]; exact HB.out.set q _⟩
          case measure => simp [intOf]; omega
      · have ek : k = m := by omega
        have HB2 := Lib.hid (show BlkI wr w.heap.size (hasL (m + 1) qs) by have h := HB.out; rw [List.take_of_length_le (by rw [HQL.out]; omega)] at h; exact h)
        clear ek HB
        go_wp2
        obtain ⟨gs, off, rfl, hcs⟩ := HS.out.get (by omega) HM.out.symm
        have HCS := Lib.hid hcs
        clear hcs
        go_loopw [29] (fun x w' => ∃ k : Nat, x = .int .i64 (k : Int) ∧ k ≤ m + 1 ∧ Chg [] wr w' ∧ (List.range k).any (fun i => decide (((qs.count (i : Int) : Nat) : Int) < (l.getD i default).c)) = false) (fun x w' => m + 1 - (intOf x).toNat)
        case atStart => exact ⟨0, rfl, Nat.zero_le _, Chg.refl _ _, rfl⟩
        case round =>
          obtain ⟨j, rfl, hj, hcj, hno⟩ := hrel
          have HCJ := Lib.hid hcj; have HNO := Lib.hid hno
          clear hcj hno
          by_cases hjl : j < m + 1
          · obtain ⟨f, hf⟩ : ∃ f, f = l.getD j default := ⟨_, rfl⟩
            obtain ⟨c, hcc⟩ : ∃ c, c = qs.count (j : Int) := ⟨_, rfl⟩
            obtain ⟨a1, a2, a3, a4⟩ := HCS.out j hjl
            have b1 := HCJ.out.cell (HC.out.cell a1 (by simp)) (by simp)
            have b2 := HCJ.out.cell (HC.out.cell a2 (by simp)) (by simp)
            have b3 := HCJ.out.cell (HC.out.cell a3 (by simp)) (by simp)
            have b4 := HCJ.out.cell (HC.out.cell a4 (by simp)) (by simp)
            rw [← hf] at b1 b2 b3 b4
            have b5 : ∀ o, (wr.alloc o).cell? ⟨w.heap.size, j, none⟩ = some (.int .i64 (c : Int)) := fun o => ((Chg.refl [] wr).alloc o).cell (by rw [hcc]; exact (HB2.out.chg HCJ.out (by simp)).cell (hasL_get _ _ _ hjl)) (by simp)
            have HE := Lib.hid (show decide (((qs.count (j : Int) : Nat) : Int) < (l.getD j default).c) = decide ((c : Int) < f.c) by rw [hcc, hf])
            clear a1 a2 a3 a4 hf hcc
            by_cases hlc : (c : Int) < f.c
            · have d1 : decide ((c : Int) < f.c) = true := by simpa using hlc
              have E := Lib.hid (show lacksB l ps = true by rw [HLK.out]; exact any_range_yes (k := j) (by rw [HE.out]; exact d1) hjl)
              clear hlc
              go_wp2_with fail
              go_quiet (fail)
              go_wp2
              go_ret
              exact ⟨ret_bool E.out.symm, ((HC.out.trans HCJ.out (by simp)).alloc _).drewN _⟩
            · have d1 : decide ((c : Int) < f.c) = false := by simpa using hlc
              have E := Lib.hid (any_range_no HNO.out (by rw [HE.out]; exact d1))
              clear hlc
              go_wp2_with fail
              go_quiet (fail)
              go_wp2
              go_roundw
              case rel => exact ⟨j + 1, by go_num, by omega, (HCJ.out.alloc _).drewN _, E.out⟩
              case measure => simp [intOf]; omega
          · have ej : j = m + 1 := by omega
            have E := Lib.hid (show lacksB l ps = false by rw [HLK.out, ← ej]; exact HNO.out)
            clear ej
            go_wp2
            go_ret
            exact ⟨ret_bool E.out.symm, HC.out.trans HCJ.out (by simp)⟩

end Go.Proofs.Ytfdmbpfpdijpdaa
