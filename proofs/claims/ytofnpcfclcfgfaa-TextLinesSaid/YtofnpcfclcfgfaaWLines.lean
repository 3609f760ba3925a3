/- The walk of the statement TextLines. -/
import Derived.Test.YtofnpcfclcfgfaaPn
namespace Go.Proofs.Ytofnpcfclcfgfaa
open Go.RowKit
set_option linter.unusedVariables false

def grpN (l : List F) : Nat := l.countP fun f => decide (f.k = 0)

theorem sgn_no10 {l : List Nat} (h : ∀ c ∈ l, sgnB c = true) : l.count 10 = 0 := by
  rw [List.count_eq_zero]
  intro hm
  exact absurd (h 10 hm) (by decide)

theorem blk_no10 (d : Nat) : (bl (blkS d)).count 10 = 0 := by
  induction d with
  | zero => rfl
  | succ d ih => rw [blkS, bl_append, List.count_append, ih]; rfl

theorem head_no10 (d : Nat) (f : F) (h : FFine f) : (bl (headS d f)).count 10 = 0 := by
  obtain ⟨r1, -, -, -⟩ := rep_word f.r.toNat (by have := h.r; omega)
  obtain ⟨k1, -, -, -⟩ := kind_word f.k.toNat (by have := h.k; omega)
  have n1 := (nameB_sgn h.n).1
  unfold headS repW kindW
  split
  · rw [bl_append, List.count_append, sgn_no10 n1]; rfl
  · simp only [bl_append, List.count_append, sgn_no10 n1, sgn_no10 r1, sgn_no10 k1, blk_no10]
    rfl

theorem txt_lines (fo : Fo) : ∀ (d : Nat), (∀ f ∈ fo.flat, FFine f) → fo.ok → (bl (txt d fo)).count 10 = fo.flat.length + grpN fo.flat := by
  induction fo with
  | nil => intro d _ _; rfl
  | leaf f t ih =>
    intro d h hok
    have h1 := head_no10 d f (h f (by simp [Fo.flat]))
    have h2 := ih d (fun x hx => h x (by simp [Fo.flat, hx])) hok.2.2
    have e : (bl ({ data := #[59, 10] } : ByteArray)).count 10 = 1 := by decide
    have hk := hok.1
    simp only [txt, bl_append, List.count_append, h1, h2, e, Fo.flat, grpN, List.countP_cons, List.length_cons, hk, decide_false, Bool.false_eq_true, if_false]
    omega
  | group f k t ihk iht =>
    intro d h hok
    have h1 := head_no10 d f (h f (by simp [Fo.flat]))
    have h2 := ihk (d + 1) (fun x hx => h x (by simp [Fo.flat, hx])) hok.2.2.1
    have h3 := iht d (fun x hx => h x (by simp [Fo.flat, hx])) hok.2.2.2
    have e : (bl ({ data := #[32, 123, 10] } : ByteArray)).count 10 = 1 := by decide
    have e2 : (bl ({ data := #[125, 10] } : ByteArray)).count 10 = 1 := by decide
    have hk := hok.1
    simp only [grpN] at h2 h3
    simp only [txt, bl_append, List.count_append, h1, h2, h3, e, e2, blk_no10, Fo.flat, grpN, List.countP_cons, List.countP_append, List.length_cons, List.length_append, hk, decide_true, if_true]
    omega

theorem txtR_lines {l : List F} {r : F} {fo : Fo} (h : SF l r fo) : (bl (txtR r fo)).count 10 = l.length + grpN l := by
  have := txt_lines (.group r fo .nil) 0 (fun f hf => h.fine f (by rw [h.eq]; simpa [Fo.flat] using hf)) ⟨h.k, h.c, h.ok, trivial⟩
  unfold txtR
  rw [this, h.eq]
  simp [Fo.flat]

theorem txtR_last (r : F) (fo : Fo) : ∃ s : ByteArray, txtR r fo = s ++ { data := #[10] } :=
  ⟨headS 0 r ++ { data := #[32, 123, 10] } ++ txt 1 fo ++ blkS 0 ++ { data := #[125] }, by
    unfold txtR
    have e : ({ data := #[125, 10] } : ByteArray) = { data := #[125] } ++ { data := #[10] } := rfl
    rw [txt, txt, ba_nil_r, e]
    simp only [ByteArray.append_assoc]⟩

theorem take_count {l : List Nat} {i c : Nat} (h : l[i]? = some c) : (l.take (i + 1)).count 10 = (l.take i).count 10 + (if c = 10 then 1 else 0) := by
  rw [List.take_add_one, h, List.count_append]
  simp [List.count_cons]

theorem take_grp {l : List F} {i : Nat} {f : F} (h : l[i]? = some f) : grpN (l.take (i + 1)) = grpN (l.take i) + (if f.k = 0 then 1 else 0) := by
  rw [List.take_add_one, h]
  unfold grpN
  rw [List.countP_append]
  simp [List.countP_cons]

set_option maxRecDepth 100000 in
set_option maxHeartbeats 4000000 in
theorem walk_TextLines (a0 : Option Addr) (len0 cap0 : Nat) (z0 : List Int) (w : World) (w0 : IsRow .i64 w a0 len0 cap0 z0) :
    Calls Try.prog 6 #[.slice a0 len0 cap0] w fun e w' => e = .returned (.bool true) ∧ Below w.heap.size w w' := by
  obtain ⟨ns, hS, hlen, hwf⟩ := w0.seenI
  have HS := Lib.hid hS; have HWF := Lib.hid hwf
  clear w0 hS hwf hlen
  obtain ⟨r, fo, hF⟩ := mkF ns
  have HF := Lib.hid hF
  have hts := hF.size
  obtain ⟨l, hl⟩ : ∃ l, l = mk ns := ⟨_, rfl⟩
  have HSFF := Lib.hid (mkf_sf hF)
  rw [← hl] at HSFF
  have HEQ := Lib.hid hl
  clear hF hl
  have HLI := Lib.hid (txtR_lines HSFF.out)
  obtain ⟨s1, hs1⟩ := txtR_last r fo
  have HLA := Lib.hid hs1
  clear hs1
  go_enter Try.func6, Try.ntmps6
  go_wp2_with fail
  (with_reducible refine (known6_any _).mono ?_)
  rintro e wa ⟨rfl, hk⟩
  have HK1 := Lib.hid hk
  clear hk
  go_wp2_with fail
  (with_reducible refine (make_any _ ns _ (HS.out.keep HK1.out) HWF.out).mono ?_)
  rintro e wb ⟨sv, rfl, hown, hk⟩
  rw [← HEQ.out] at hown
  have hSv := SeenF.own hown rfl
  obtain ⟨sa, sc, rfl⟩ := own_shape hown
  have HSF := Lib.hid hSv
  have HK2 := Lib.hid (HK1.out.trans hk (by simp))
  clear hown hSv hk
  have HPN := Lib.hid (print_any _ l r fo wb HSF.out HSFF.out (by omega))
  go_wp2_with fail
  (with_reducible refine HPN.out.mono ?_)
  rintro e wc ⟨rfl, hk⟩
  have HSC := Lib.hid (HSF.out.keep hk)
  have HC1 := Lib.hid (HK2.out.trans hk (by simp))
  clear hk HPN
  obtain ⟨T, hT⟩ : ∃ T, T = txtR r fo := ⟨_, rfl⟩
  rw [← hT] at hts HLI HLA ⊢
  clear hT
  have hn40 := HSFF.out.len
  obtain ⟨n, hn⟩ : ∃ n, n = l.length := ⟨_, rfl⟩
  rw [← hn] at hn40 HSC HLI ⊢
  have HN := Lib.hid hn
  clear hn
  go_wp2
  go_loop [5, 7] (fun s5 s7 => ∃ i : Nat, s7 = .int .i64 (i : Int) ∧ s5 = .int .i64 ((((bl T).take i).count 10 : Nat) : Int) ∧ i ≤ T.size) (fun _ s7 => T.size - (intOf s7).toNat)
  case atStart => exact ⟨0, rfl, rfl, Nat.zero_le _⟩
  case round =>
    obtain ⟨i, rfl, rfl, hi⟩ := hrel
    have hcl : ((bl T).take i).count 10 ≤ i := Nat.le_trans List.count_le_length (by simp; omega)
    by_cases hlt : i < T.size
    · obtain ⟨c, hc⟩ : ∃ c, (T[i]'hlt).toNat = c := ⟨_, rfl⟩
      have hbc : (bl T)[i]? = some c := by rw [bl_get T i hlt, hc]
      have HT := Lib.hid (take_count hbc)
      obtain ⟨m, hm⟩ : ∃ m, m = ((bl T).take i).count 10 := ⟨_, rfl⟩
      rw [← hm] at hcl HT ⊢
      clear hbc hm
      by_cases h10 : c = 10
      · have q1 : ((c : Int) == 10) = true := by simp [h10]
        rw [if_pos h10] at HT
        clear h10
        go_wp2
        go_round
        case rel => exact ⟨i + 1, by go_num, by rw [HT.out]; go_num, by omega⟩
        case measure => simp [intOf]; omega
      · have q1 : ((c : Int) == 10) = false := by simp; omega
        rw [if_neg h10] at HT
        clear h10
        go_wp2
        go_round
        case rel => exact ⟨i + 1, by go_num, by rw [HT.out]; go_num, by omega⟩
        case measure => simp [intOf]; omega
    · have hie : i = T.size := by omega
      have HLN := Lib.hid (show ((bl T).take i).count 10 = n + grpN l by rw [List.take_of_length_le (by rw [bl_length]; omega)]; exact HLI.out)
      clear hie
      rw [HLN.out]
      have hgl : grpN l ≤ n := by rw [HN.out]; exact List.countP_le_length
      rw [HLN.out] at hcl
      go_wp2
      go_loop [6, 8] (fun s6 s8 => ∃ j : Nat, s8 = .int .i64 (j : Int) ∧ s6 = .int .i64 ((grpN (l.take j) : Nat) : Int) ∧ j ≤ n) (fun _ s8 => n - (intOf s8).toNat)
      case atStart => exact ⟨0, rfl, rfl, Nat.zero_le _⟩
      case round =>
        obtain ⟨j, rfl, rfl, hj⟩ := hrel
        have hcj : grpN (l.take j) ≤ j := Nat.le_trans List.countP_le_length (by simp; omega)
        by_cases hjt : j < n
        · obtain ⟨f, hf⟩ : ∃ f, l[j]? = some f := ⟨_, List.getElem?_eq_getElem (by rw [← HN.out]; exact hjt)⟩
          have HT := Lib.hid (take_grp hf)
          obtain ⟨gs, off, rfl, hcs⟩ := SeenF.get HSC.out (by omega) HN.out.symm
          obtain ⟨-, -, c3, -⟩ := hcs j hjt
          have hfd : l.getD j default = f := by rw [List.getD, hf]; rfl
          rw [hfd] at c3
          clear hcs hfd hf
          obtain ⟨m, hm⟩ : ∃ m, m = grpN (l.take j) := ⟨_, rfl⟩
          rw [← hm] at hcj HT ⊢
          clear hm
          by_cases hk0 : f.k = 0
          · have q1 : (f.k == 0) = true := by simpa using hk0
            rw [if_pos hk0] at HT
            clear hk0
            go_wp2
            go_round
            case rel => exact ⟨j + 1, by go_num, by rw [HT.out]; go_num, by omega⟩
            case measure => simp [intOf]; omega
          · have q1 : (f.k == 0) = false := by simpa using hk0
            rw [if_neg hk0] at HT
            clear hk0
            go_wp2
            go_round
            case rel => exact ⟨j + 1, by go_num, by rw [HT.out]; go_num, by omega⟩
            case measure => simp [intOf]; omega
        · have hje : j = n := by omega
          have HGN := Lib.hid (show grpN (l.take j) = grpN l by rw [List.take_of_length_le (by rw [← HN.out]; omega)])
          rw [HGN.out]
          clear hje hcj
          have hTs : 0 < T.size := by rw [HLA.out, ByteArray.size_append]; exact Nat.succ_pos _
          have hlast : (T[T.size - 1]'(by omega)).toNat = 10 := by
            have h1 := bl_get T (T.size - 1) (by omega)
            have h2 : (bl T)[T.size - 1]? = some 10 := by
              rw [HLA.out, bl_append, ByteArray.size_append, List.getElem?_append_right (by rw [bl_length]; show _ ≤ s1.size + 1 - 1; omega), bl_length]
              show (bl ({ data := #[10] } : ByteArray))[s1.size + 1 - 1 - s1.size]? = some 10
              rw [show s1.size + 1 - 1 - s1.size = 0 by omega]
              rfl
            rw [h2] at h1
            injection h1 with h1
            exact h1.symm
          go_wp2
          go_ret
          exact ⟨by simp, HC1.out.below (Nat.le_refl _) (by simp)⟩

end Go.Proofs.Ytofnpcfclcfgfaa
