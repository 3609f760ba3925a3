/- The reference's Parse. -/
import Derived.Test.YtofnpcfclcfgfaaRo
import Derived.Test.YtofnpcfclcfgfaaRx
import Derived.Test.YtofnpcfclcfgfaaRc
namespace Go.Proofs.Ytofnpcfclcfgfaa
open Go.RowKit
set_option linter.unusedVariables false

theorem group_all : ∀ m, m ≤ 8 → GroupC (9 - m) := by
  intro m
  induction m with
  | zero => intro _; exact group_of_one 9 (by omega) (by omega) (one_of_group 9 (by omega) (by omega) fun h => by omega)
  | succ m ih =>
    intro hm
    have h := ih (by omega)
    refine group_of_one _ (by omega) (by omega) (one_of_group _ (by omega) (by omega) fun _ => ?_)
    rw [show 9 - (m + 1) + 1 = 9 - m by omega]
    exact h
theorem group_one : GroupC 1 := group_all 8 (Nat.le_refl _)

/-- A word of a text: signs of words alone, or one that stands by itself. -/
def Wd (x : List Nat) : Prop := (∀ c ∈ x, sgnB c = true) ∨ ∃ c, stnB c = true ∧ x = [c]

theorem wdM_wd (l : List Nat) : ∀ (cur : List Nat) (r : List (List Nat)), (∀ c ∈ cur, sgnB c = true) → wdM cur l = some r → ∀ x ∈ r, Wd x := by
  induction l with
  | nil => intro cur r _ h x hx; rw [wdM] at h; injection h with h; subst h; cases hx
  | cons c l ih =>
    intro cur r hc h x hx
    cases hs : sgnB c
    · have hflush : ∀ y ∈ (if cur = [] then ([] : List (List Nat)) else [cur]), Wd y := by
        intro y hy
        split at hy
        · cases hy
        · simp at hy; subst hy; exact .inl hc
      cases h1 : stnB c
      · cases h2 : blkB c
        · rw [wdM_bad hs h1 h2] at h; cases h
        · rw [wdM_blk hs h1 h2] at h
          cases hr : wdM [] l with
          | none => rw [hr] at h; cases h
          | some r' =>
            rw [hr] at h
            injection h with h
            subst h
            rcases List.mem_append.1 hx with hx | hx
            · exact hflush x hx
            · exact ih [] r' (by simp) hr x hx
      · rw [wdM_stn hs h1] at h
        cases hr : wdM [] l with
        | none => rw [hr] at h; cases h
        | some r' =>
          rw [hr] at h
          injection h with h
          subst h
          rcases List.mem_append.1 hx with hx | hx
          · exact hflush x hx
          · rcases List.mem_append.1 hx with hx | hx
            · simp at hx; exact .inr ⟨c, h1, hx⟩
            · exact ih [] r' (by simp) hr x hx
    · rw [wdM_sgn hs] at h
      exact ih _ r (fun y hy => by
        rcases List.mem_append.1 hy with hy | hy
        · exact hc y hy
        · simp at hy; subst hy; exact hs) h x hx

theorem bl_str {l : List Nat} (h : ∀ c ∈ l, c < 256) : bl (str l) = l := by
  unfold bl str
  simp only [List.map_map]
  have : ∀ l : List Nat, (∀ c ∈ l, c < 256) → l.map ((fun x : UInt8 => x.toNat) ∘ UInt8.ofNat) = l := by
    intro l hl
    induction l with
    | nil => rfl
    | cons a t ih =>
      rw [List.map_cons, ih fun c hc => hl c (by simp [hc])]
      congr 1
      exact UInt8.toNat_ofNat_of_lt' (hl a (by simp))
  exact this l h

theorem wd_name {x : List Nat} (h : Wd x) : nameB (bl (str x)) = wnB (str x) := by
  have h256 : ∀ c ∈ x, c < 256 := by
    intro c hc
    rcases h with h | ⟨d, h, rfl⟩
    · have := h c hc
      unfold sgnB letB at this
      simp at this
      omega
    · simp at hc
      subst hc
      unfold stnB at h
      simp at h
      omega
  have hb := bl_str h256
  have hsz : (str x).size = x.length := by rw [← bl_length, hb]
  unfold nameB wnB
  rw [hb, hsz]
  rcases h with h | ⟨d, h, rfl⟩
  · have : x.all sgnB = true := by simpa [List.all_eq_true] using h
    rw [this, Bool.and_true]
  · have : letB d = false := by
      unfold stnB at h
      simp at h
      rcases h with rfl | rfl | rfl <;> decide
    simp [this]

theorem words_ok {l : List Nat} {ws : List (List Nat)} (h : wordsL l = some ws) (hz : ∀ x ∈ ws.map str, x.size ≤ 4000) : WordOK (ws.map str) := by
  intro y hy
  refine ⟨?_, hz y hy⟩
  obtain ⟨x, hx, rfl⟩ := List.mem_map.1 hy
  exact wd_name (wdM_wd _ [] ws (by simp) h x hx)

set_option maxRecDepth 100000 in
set_option maxHeartbeats 1000000 in
theorem rfield_err (f : F) (d : Nat) (w0 w : World) (gp : Nat) (W : List ByteArray) (wv : Value) (i : Nat) (S : List F) (sv : Value) (e : Int) (h : PS w0 w gp W wv i S sv e) (he : e ≠ 0) :
    Calls Try.prog 52 #[.pointer (some ⟨gp, 0, none⟩), .agg #[.string f.n, .int .i64 f.r, .int .i64 f.k, .int .i64 f.c], .int .i64 (d : Int)] w fun en w' => en = .returned (.tuple #[]) ∧ PS w0 w' gp W wv i S sv e := by
  have hP0 := h.keep ((Chg.refl [] w).alloc (.cells #[.string f.n, .int .i64 f.r, .int .i64 f.k, .int .i64 f.c] 41))
  have hbx : (w.alloc (.cells #[.string f.n, .int .i64 f.r, .int .i64 f.k, .int .i64 f.c] 41)).heap[w.heap.size]? = some (.cells #[.string f.n, .int .i64 f.r, .int .i64 f.k, .int .i64 f.c] 41 (0, 0)) := heap_alloc_new w _
  have HNX := Lib.hid (rnext_err w0 _ gp W wv i S sv e hP0 he)
  have HE := Lib.hid he
  have HH := Lib.hid h
  have HBX := Lib.hid hbx
  have hgb : gp < w.heap.size := Go.lt_of_block h.hb
  have hsb : ∀ q, sv.ownBlock = some q → q < w.heap.size := fun q hq => (h.os.lt q hq).2
  clear h hP0 hbx he
  go_enter Try.func52, Try.ntmps52
  go_wp2_with fail
  (with_reducible refine HNX.out.mono ?_)
  rintro en w1 ⟨rfl, hP, hcg⟩
  obtain ⟨B, hB⟩ : ∃ B, B = w.heap.size := ⟨_, rfl⟩
  rw [← hB] at HBX hgb hsb ⊢
  have hb1 := hcg.heap HBX.out (by simp; omega)
  have hB0 : w0.heap.size ≤ B := by rw [hB]; exact HH.out.cg.size
  have hfz : w1.frozen? ⟨B, 0, none⟩ = false := by simp [World.frozen?, hb1]
  have hc0 : w1.cell? ⟨B, 0, none⟩ = some (.string f.n) := by simp [World.cell?, hb1]
  have hP2 := hP.far (j := 0) hB0 (by omega) (fun q hq => by have := hsb q hq; omega) (.string ByteArray.empty)
  have hb2 := heap_set (i := 0) hb1 (.string ByteArray.empty)
  clear hP hcg hB
  go_upto_region 2 with fail
  generalize w1.setCell ⟨B, 0, none⟩ (.string ByteArray.empty) = W2 at hP2 hb2 ⊢
  have d0 : W2.cell? ⟨B, 0, none⟩ = some (.string ByteArray.empty) := by
    have hbb : W2.heap[B]? = some (.cells #[.string ByteArray.empty, .int .i64 f.r, .int .i64 f.k, .int .i64 f.c] 41 (0, 0)) := hb2
    simp [World.cell?, hbb]
  have HP2 := Lib.hid hP2
  have HN := Lib.hid (nm_read ByteArray.empty (by decide))
  rw [show nameB (bl ByteArray.empty) = false from by decide] at HN
  have HFL := Lib.hid (rfail_err w0 W2 gp W wv i S sv e 6 HP2.out HE.out)
  clear hb2 hb1 hfz hP2 hc0 HNX
  go_wp2_with fail
  (with_reducible refine (HN.out _).mono ?_)
  rintro en w3 ⟨rfl, rfl⟩
  go_wp2_with fail
  (with_reducible refine HFL.out.mono ?_)
  rintro en w3 ⟨rfl, hP⟩
  have HP := Lib.hid hP
  clear hP
  go_wp2
  refine bodyPost_ret (results_none rfl _ _ _) rfl ?_
  exact ⟨rfl, HP.out⟩

end Go.Proofs.Ytofnpcfclcfgfaa
