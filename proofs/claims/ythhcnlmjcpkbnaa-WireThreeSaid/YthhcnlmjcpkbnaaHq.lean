/- wire's writer: values. -/
import Derived.Test.YthhcnlmjcpkbnaaHp
import Derived.Test.YthhcnlmjcpkbnaaHg
namespace Go.Proofs.Ythhcnlmjcpkbnaa
open Go.RowKit
set_option linter.unusedVariables false
set_option linter.unusedSimpArgs false

/-- What is asked of the writer's value, at a place. -/
def WVC (w0 : World) (gw B : Nat) (fv : Value) (fm : List Nat) (d at0 : Nat) (g : Tr → List Nat) (ok : Tr → Prop) : Prop :=
  ∀ (w : World) (out : List Nat) (t : Tr) (kv : Value), WW w0 w gw B fv fm out → KidsAt w0 d t.k kv → ok t → out.length + (g t).length ≤ 100000000 →
    Calls Try.prog 104 #[.pointer (some ⟨gw, 0, none⟩), .int .i64 (at0 : Int), .agg #[.int .i64 t.n, .string t.s, kv]] w fun e w' => e = .returned (.tuple #[]) ∧ WW w0 w' gw B fv fm (out ++ g t)

theorem take_flat (g : Tr → List Nat) (l : List Tr) (j : Nat) (t : Tr) (h : l[j]? = some t) : (l.take (j + 1)).flatMap g = (l.take j).flatMap g ++ g t := by
  rw [List.take_add_one, h]
  simp

theorem take_flat_le (g : Tr → List Nat) (l : List Tr) (j : Nat) : ((l.take j).flatMap g).length ≤ (l.flatMap g).length := by
  conv => rhs; rw [← List.take_append_drop j l]
  rw [List.flatMap_append, List.length_append]
  omega

set_option maxRecDepth 100000 in
set_option maxHeartbeats 4000000 in
theorem wvalues_any {w0 : World} {gw B : Nat} {fv : Value} {fm : List Nat} {d at0 : Nat} {g : Tr → List Nat} {ok : Tr → Prop} (hV : WVC w0 gw B fv fm d at0 g ok) (w : World) (out : List Nat) (l : List Tr) (lv : Value) (hW : WW w0 w gw B fv fm out) (hL : ListAt w0 d l lv) (hok : ∀ x ∈ l, ok x) (hb : out.length + (l.flatMap g).length ≤ 100000000) :
    Calls Try.prog 78 #[.pointer (some ⟨gw, 0, none⟩), .int .i64 (at0 : Int), lv] w fun e w' => e = .returned (.tuple #[]) ∧ WW w0 w' gw B fv fm (out ++ l.flatMap g) := by
  obtain ⟨lo, lc, rfl, hl1, hl2⟩ := hL.shape
  obtain ⟨n, hn⟩ : ∃ n, n = l.length := ⟨_, rfl⟩
  rw [← hn] at hL hl1 ⊢
  have HV := Lib.hid hV; have HW := Lib.hid hW; have HL := Lib.hid hL; have HOK := Lib.hid hok; have HN := Lib.hid hn; have HB := Lib.hid hb
  have hnx : n ≤ 9223372036854775807 := by unfold maxLen at hl2; omega
  clear hV hW hL hok hn hb
  go_enter Try.func78, Try.ntmps78
  go_wp2
  go_loopw [10] (fun x w' => ∃ j : Nat, x = .int .i64 (j : Int) ∧ j ≤ n ∧ WW w0 w' gw B fv fm (out ++ (l.take j).flatMap g)) (fun x _ => n - (intOf x).toNat)
  case atStart => exact ⟨0, rfl, Nat.zero_le _, by simpa using HW.out⟩
  case round =>
    obtain ⟨j, rfl, hj, hw⟩ := hrel
    have HWJ := Lib.hid hw
    clear hw
    by_cases hlt : j < n
    · have hd : decide ((j : Int) < (n : Int)) = true := by simp; omega
      obtain ⟨t, ht⟩ : ∃ t, l[j]? = some t := ⟨_, List.getElem?_eq_getElem (by rw [← HN.out]; exact hlt)⟩
      obtain ⟨gl, off, rfl, hcs⟩ := HL.out.get (by omega)
      obtain ⟨kv, c0, c1, c2, hk⟩ := hcs j t ht
      have hc := HWJ.out.c0
      have b0 := hc.cell c0 (by simp)
      have b1 := hc.cell c1 (by simp)
      have b2 := hc.cell c2 (by simp)
      obtain ⟨ko, kc, rfl, -, -⟩ := hk.shape
      have HT := Lib.hid (take_flat g l j t ht)
      have hle := take_flat_le g l (j + 1)
      rw [take_flat g l j t ht, List.length_append] at hle
      have HC := Lib.hid (HV.out _ _ t (.slice ko t.k.length kc) (HWJ.out.keep ((Chg.refl [] wr).alloc (.cells #[.int .i64 t.n, .string t.s, .slice ko t.k.length kc] 30))) hk (HOK.out t (List.mem_of_getElem? ht)) (by have := HB.out; rw [List.length_append]; omega))
      clear hcs c0 c1 c2 hk hc ht hle
      go_wp2_with fail
      (with_reducible refine HC.out.mono ?_)
      rintro e w2 ⟨rfl, hw2⟩
      have HW2 := Lib.hid hw2
      clear hw2
      go_wp2
      go_roundw
      case rel => exact ⟨j + 1, by go_num, hlt, by have := HW2.out; rw [List.append_assoc, ← HT.out] at this; exact this⟩
      case measure => simp [intOf]; omega
    · have hd : decide ((j : Int) < (n : Int)) = false := by simp; omega
      have E := Lib.hid (show (l.take j).flatMap g = l.flatMap g by rw [List.take_of_length_le (by rw [← HN.out]; omega)])
      go_wp2
      go_end0
      exact ⟨rfl, by have := HWJ.out; rw [E.out] at this; exact this⟩

end Go.Proofs.Ythhcnlmjcpkbnaa
