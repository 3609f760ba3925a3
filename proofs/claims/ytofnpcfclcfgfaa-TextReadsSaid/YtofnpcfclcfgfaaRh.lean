/- The reference's parser: fail, must, which, field. -/
import Derived.Test.YtofnpcfclcfgfaaRg
import Derived.Test.YtofnpcfclcfgfaaMw
namespace Go.Proofs.Ytofnpcfclcfgfaa
open Go.RowKit
set_option linter.unusedVariables false

set_option maxHeartbeats 400000 in
theorem rfail_err (w0 w : World) (gp : Nat) (W : List ByteArray) (wv : Value) (i : Nat) (S : List F) (sv : Value) (e e' : Int) (h : PS w0 w gp W wv i S sv e) (he : e ≠ 0) :
    Calls Try.prog 54 #[.pointer (some ⟨gp, 0, none⟩), .int .i64 e'] w fun en w' => en = .returned (.tuple #[]) ∧ PS w0 w' gp W wv i S sv e := by
  obtain ⟨c0, c1, c2, c3, hfz⟩ := h.cells
  have H := Lib.hid h
  have q1 : (e == 0) = false := by simpa using he
  clear h he
  go_enter Try.func54, Try.ntmps54
  go_wp2
  go_end0
  exact ⟨rfl, H.out⟩

set_option maxHeartbeats 400000 in
theorem rfail_set (w0 w : World) (gp : Nat) (W : List ByteArray) (wv : Value) (i : Nat) (S : List F) (sv : Value) (e' : Int) (h : PS w0 w gp W wv i S sv 0) :
    Calls Try.prog 54 #[.pointer (some ⟨gp, 0, none⟩), .int .i64 e'] w fun en w' => en = .returned (.tuple #[]) ∧ PS w0 w' gp W wv i S sv e' := by
  obtain ⟨c0, c1, c2, c3, hfz⟩ := h.cells
  have H := Lib.hid h
  clear h
  go_enter Try.func54, Try.ntmps54
  go_wp2
  go_end0
  exact ⟨rfl, H.out.err e'⟩

theorem ba_ne {s : ByteArray} (hs : 0 < s.size) : s.toList ≠ [] := fun h => by
  have h2 : s = { data := #[] } := bytes_ext (by rw [h]; simp)
  rw [h2] at hs
  exact absurd hs (by decide)

set_option maxHeartbeats 1000000 in
theorem rmust_err (s : ByteArray) (w0 w : World) (gp : Nat) (W : List ByteArray) (wv : Value) (i : Nat) (S : List F) (sv : Value) (e : Int) (h : PS w0 w gp W wv i S sv e) (he : e ≠ 0) (hs : 0 < s.size) :
    Calls Try.prog 51 #[.pointer (some ⟨gp, 0, none⟩), .string s] w fun en w' => en = .returned (.tuple #[]) ∧ PS w0 w' gp W wv i S sv e := by
  have HN := Lib.hid (rnext_err w0 w gp W wv i S sv e h he)
  have HE := Lib.hid he
  have q1 : s.toList.isEmpty = false := by simpa using ba_ne hs
  clear h he
  go_enter Try.func51, Try.ntmps51
  go_wp2_with fail
  (with_reducible refine HN.out.mono ?_)
  rintro en w1 ⟨rfl, hP, -⟩
  have HF := Lib.hid (rfail_err w0 w1 gp W wv i S sv e 6 hP HE.out)
  clear hP
  go_wp2_with fail
  (with_reducible refine HF.out.mono ?_)
  rintro en w2 ⟨rfl, hP⟩
  have HP := Lib.hid hP
  clear hP
  go_wp2
  go_end0
  exact ⟨rfl, HP.out⟩

set_option maxHeartbeats 1000000 in
theorem rmust_ok (s : ByteArray) (w0 w : World) (gp : Nat) (W : List ByteArray) (wv : Value) (i : Nat) (S : List F) (sv : Value) (h : PS w0 w gp W wv i S sv 0) (hs : 0 < s.size) :
    Calls Try.prog 51 #[.pointer (some ⟨gp, 0, none⟩), .string s] w fun en w' => en = .returned (.tuple #[]) ∧ ∃ i', PS w0 w' gp W wv i' S sv (if (W.drop i).headD ByteArray.empty = s then 0 else 6) ∧ W.drop i' = (W.drop i).tail ∧ i ≤ i' ∧ (i < W.length → i < i') := by
  have HN := Lib.hid (rnext_ok w0 w gp W wv i S sv h)
  obtain ⟨x, hx⟩ : ∃ x, x = (W.drop i).headD ByteArray.empty := ⟨_, rfl⟩
  rw [← hx] at HN ⊢
  clear h hx
  by_cases hxs : x = s
  · rw [if_pos hxs]
    have q1 : (x.toList == s.toList) = true := by rw [hxs]; simp
    clear hxs
    go_enter Try.func51, Try.ntmps51
    go_wp2_with fail
    (with_reducible refine HN.out.mono ?_)
    rintro en w1 ⟨rfl, i', hP, hd, hle, hlt, -⟩
    have HP := Lib.hid hP; have HD := Lib.hid hd; have HLT := Lib.hid hlt
    clear hP hd hlt
    go_wp2
    go_end0
    exact ⟨rfl, i', HP.out, HD.out, hle, HLT.out⟩
  · rw [if_neg hxs]
    have q1 : (x.toList == s.toList) = false := by
      simp only [beq_eq_false_iff_ne, ne_eq]
      intro h
      exact hxs (bytes_ext (by rw [h]; simp))
    clear hxs
    go_enter Try.func51, Try.ntmps51
    go_wp2_with fail
    (with_reducible refine HN.out.mono ?_)
    rintro en w1 ⟨rfl, i', hP, hd, hle, hlt, -⟩
    have HF := Lib.hid (rfail_set w0 w1 gp W wv i' S sv 6 hP); have HD := Lib.hid hd; have HLT := Lib.hid hlt
    clear hP hd hlt
    go_wp2_with fail
    (with_reducible refine HF.out.mono ?_)
    rintro en w2 ⟨rfl, hP⟩
    have HP := Lib.hid hP
    clear hP
    go_wp2
    go_end0
    exact ⟨rfl, i', HP.out, HD.out, hle, HLT.out⟩

set_option maxHeartbeats 1000000 in
theorem rwhich_any (s : ByteArray) (v : Value) (l : List ByteArray) (w : World) (h : SeenS w v l) (hl : l.length ≤ 100) :
    Calls Try.prog 106 #[.string s, v] w fun e w' => e = .returned (.int .i64 (Lib.idxOfS l s)) ∧ w = w' := by
  obtain ⟨ao, cap, rfl, hc1, hc2⟩ := h.shape
  have HS := Lib.hid h
  obtain ⟨n, hn⟩ : ∃ n, n = l.length := ⟨_, rfl⟩
  rw [← hn] at hl hc1 HS ⊢
  have HN := Lib.hid hn
  clear h hn
  go_enter Try.func106, Try.ntmps106
  go_wp2
  go_loop [5] (fun x => ∃ k : Nat, x = .int .i64 (k : Int) ∧ k ≤ n ∧ ∀ j, j < k → l.getD j ByteArray.empty ≠ s) (fun x => n - (intOf x).toNat)
  case atStart => exact ⟨0, rfl, Nat.zero_le _, fun j h => absurd h (Nat.not_lt_zero j)⟩
  case round =>
    obtain ⟨k, rfl, hk, hall⟩ := hrel
    have HA := Lib.hid hall
    clear hall
    by_cases hlt : k < n
    · obtain ⟨g, off, rfl, hcs⟩ := HS.out.at (by omega)
      obtain ⟨x, hx⟩ : ∃ x, l[k]? = some x := ⟨_, List.getElem?_eq_getElem (by rw [← HN.out]; exact hlt)⟩
      have cx := SeenS.cell hcs hx
      have HX := Lib.hid (show l.getD k ByteArray.empty = x by rw [List.getD, hx]; rfl)
      clear hcs hx
      by_cases hxs : x = s
      · have q1 : (x.toList == s.toList) = true := by rw [hxs]; simp
        have E := Lib.hid (show Lib.idxOfS l s = (k : Int) by
          have := Lib.idxFromS_hit s l k 0 (by rw [← HN.out]; exact hlt) (by rw [HX.out, hxs]) HA.out
          rw [Nat.zero_add] at this
          exact this)
        clear hxs
        go_wp2
        go_ret
        exact ⟨ret_int E.out.symm, rfl⟩
      · have q1 : (x.toList == s.toList) = false := by
          simp only [beq_eq_false_iff_ne, ne_eq]
          intro h
          exact hxs (bytes_ext (by rw [h]; simp))
        have HXS := Lib.hid hxs
        clear hxs
        go_wp2
        go_round
        case rel =>
          refine ⟨k + 1, by go_num, by omega, fun j hj => ?_⟩
          by_cases hjk : j < k
          · exact HA.out j hjk
          · have : j = k := by omega
            rw [this, HX.out]; exact HXS.out
        case measure => simp [intOf]; omega
    · have E := Lib.hid (show Lib.idxOfS l s = -1 from Lib.idxFromS_miss s l 0 fun j hj => HA.out j (by rw [← HN.out] at hj; omega))
      go_wp2
      go_ret
      exact ⟨ret_int E.out.symm, rfl⟩

end Go.Proofs.Ytofnpcfclcfgfaa
