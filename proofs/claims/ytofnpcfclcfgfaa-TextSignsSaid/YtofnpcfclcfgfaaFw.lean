/- The words of a schema's text, as lists: what the text of a forest is taken to, and what is read of it. -/
import Derived.Test.YtofnpcfclcfgfaaPr
import Derived.Test.YtofnpcfclcfgfaaFd
import Derived.Test.YtofnpcfclcfgfaaTz
namespace Go.Proofs.Ytofnpcfclcfgfaa
open Go.RowKit
set_option linter.unusedVariables false

/-! ### words, sign by sign -/

abbrev WS := Option (List (List Nat) × List Nat)
def flush (cur : List Nat) : List (List Nat) := if cur = [] then [] else [cur]
def wst : WS → Nat → WS
  | none, _ => none
  | some (ws, cur), c => if sgnB c = true then some (ws, cur ++ [c]) else if stnB c = false ∧ blkB c = false then none else some (ws ++ (flush cur ++ (if stnB c = true then [[c]] else [])), [])
def wrun (s : WS) (l : List Nat) : WS := l.foldl wst s

@[simp] theorem wrun_nil (s : WS) : wrun s [] = s := rfl
theorem wrun_cons (s : WS) (c : Nat) (l : List Nat) : wrun s (c :: l) = wrun (wst s c) l := rfl
theorem wrun_append (s : WS) (a b : List Nat) : wrun s (a ++ b) = wrun (wrun s a) b := List.foldl_append
theorem wrun_none (l : List Nat) : wrun none l = none := by
  induction l with
  | nil => rfl
  | cons c l ih => rw [wrun_cons]; exact ih

theorem wst_sgn {ws : List (List Nat)} {cur : List Nat} {c : Nat} (h : sgnB c = true) : wst (some (ws, cur)) c = some (ws, cur ++ [c]) := by rw [wst, if_pos h]
theorem wst_bad {s : WS} {c : Nat} (h : sgnB c = false) (h1 : stnB c = false) (h2 : blkB c = false) : wst s c = none := by
  cases s with
  | none => rfl
  | some p => obtain ⟨ws, cur⟩ := p; rw [wst, if_neg (by rw [h]; simp), if_pos ⟨h1, h2⟩]
theorem wst_stn {ws : List (List Nat)} {cur : List Nat} {c : Nat} (h : sgnB c = false) (h1 : stnB c = true) : wst (some (ws, cur)) c = some (ws ++ (flush cur ++ [[c]]), []) := by
  rw [wst, if_neg (by rw [h]; simp), if_neg (by rw [h1]; simp), if_pos h1]
theorem wst_blk {ws : List (List Nat)} {cur : List Nat} {c : Nat} (h : sgnB c = false) (h1 : stnB c = false) (h2 : blkB c = true) : wst (some (ws, cur)) c = some (ws ++ flush cur, []) := by
  rw [wst, if_neg (by rw [h]; simp), if_neg (by rw [h2]; simp), if_neg (by rw [h1]; simp), List.append_nil]

theorem wdM_run (l : List Nat) : ∀ (ws : List (List Nat)) (cur : List Nat), (wdM cur l).map (ws ++ ·) = (wrun (some (ws, cur)) l).map (·.1) := by
  induction l with
  | nil => intro ws cur; simp [wdM]
  | cons c l ih =>
    intro ws cur
    rw [wrun_cons]
    cases h : sgnB c
    · cases h1 : stnB c
      · cases h2 : blkB c
        · rw [wdM_bad h h1 h2, wst_bad h h1 h2, wrun_none]; rfl
        · rw [wdM_blk h h1 h2, wst_blk h h1 h2, ← ih, map_app]; rfl
      · rw [wdM_stn h h1, wst_stn h h1, ← ih]
        unfold flush
        cases wdM [] l <;> simp
    · rw [wdM_sgn h, wst_sgn h, ih]

def w0 : WS := some ([], [])
theorem wordsL_run (l : List Nat) : wordsL l = (wrun w0 (l ++ [10])).map (·.1) := by
  have h := wdM_run (l ++ [10]) [] []
  unfold wordsL w0
  rw [← h]
  cases wdM [] (l ++ [10]) <;> simp

theorem wordsL_bad (a b : List Nat) (c : Nat) (h : sgnB c = false) (h1 : stnB c = false) (h2 : blkB c = false) : wordsL (a ++ c :: b) = none := by
  rw [wordsL_run, List.append_assoc, wrun_append, List.cons_append, wrun_cons, wst_bad h h1 h2, wrun_none]
  rfl

/-- What ends behind a blank is done. -/
theorem wordsL_done {l : List Nat} {ws : List (List Nat)} (h : wrun w0 l = some (ws, [])) : wordsL l = some ws := by
  rw [wordsL_run, wrun_append, h, wrun_cons, wst_blk (by decide) (by decide) (by decide)]
  simp [flush]

theorem wrun_word {w : List Nat} (hw : ∀ c ∈ w, sgnB c = true) : ∀ (ws : List (List Nat)) (cur : List Nat), wrun (some (ws, cur)) w = some (ws, cur ++ w) := by
  induction w with
  | nil => intro ws cur; simp
  | cons c w ih =>
    intro ws cur
    rw [wrun_cons, wst_sgn (hw c (by simp)), ih fun x hx => hw x (by simp [hx])]
    simp

/-! ### bytes of texts -/

theorem bl_append (a b : ByteArray) : bl (a ++ b) = bl a ++ bl b := by
  unfold bl
  rw [← List.map_append]
  congr 1
theorem bl_mk (a : Array UInt8) : bl { data := a } = a.toList.map (·.toNat) := rfl

theorem blkS_run (d : Nat) : ∀ (ws : List (List Nat)), wrun (some (ws, [])) (bl (blkS d)) = some (ws, []) := by
  induction d with
  | zero => intro ws; rfl
  | succ d ih =>
    intro ws
    rw [blkS, bl_append, wrun_append, ih]
    rw [show bl ({ data := #[32, 32] } : ByteArray) = [32, 32] from rfl, wrun_cons, wst_blk (by decide) (by decide) (by decide), wrun_cons, wst_blk (by decide) (by decide) (by decide)]
    simp [flush]

/-- A field that a schema may have. -/
structure FFine (f : F) : Prop where
  r : 0 ≤ f.r ∧ f.r ≤ 2
  k : 0 ≤ f.k ∧ f.k ≤ 4
  n : nameB (bl f.n) = true
  c : f.k = 0 → 1 ≤ f.c

theorem nameB_sgn {l : List Nat} (h : nameB l = true) : (∀ c ∈ l, sgnB c = true) ∧ l ≠ [] ∧ l.length ≤ 12 ∧ letB (l.getD 0 0) = true := by
  unfold nameB at h
  simp only [Bool.and_eq_true, decide_eq_true_eq, List.all_eq_true] at h
  refine ⟨h.2.2.2, ?_, h.2.1, h.2.2.1⟩
  intro e
  rw [e] at h
  exact absurd h.1 (by decide)

theorem rep_word : ∀ k, k < 3 → (∀ c ∈ bl (repsL.getD k ByteArray.empty), sgnB c = true) ∧ bl (repsL.getD k ByteArray.empty) ≠ [] ∧ ixR (repsL.getD k ByteArray.empty) = k ∧ (repsL.getD k ByteArray.empty).size ≤ 8 := by decide
theorem kind_word : ∀ k, k < 5 → (∀ c ∈ bl (kindsL.getD k ByteArray.empty), sgnB c = true) ∧ bl (kindsL.getD k ByteArray.empty) ≠ [] ∧ ixK (kindsL.getD k ByteArray.empty) = k ∧ (kindsL.getD k ByteArray.empty).size ≤ 5 := by decide

theorem wrun_blank {ws : List (List Nat)} {cur : List Nat} (h : cur ≠ []) : wrun (some (ws, cur)) [32] = some (ws ++ [cur], []) := by
  rw [wrun_cons, wst_blk (by decide) (by decide) (by decide)]
  simp [flush, h]

theorem head_run (d : Nat) (f : F) (hf : FFine f) (ws : List (List Nat)) : wrun (some (ws, [])) (bl (headS (d + 1) f)) = some (ws ++ [bl (repW f), bl (kindW f)], bl f.n) := by
  obtain ⟨r1, r2, -, -⟩ := rep_word f.r.toNat (by have := hf.r; omega)
  obtain ⟨k1, k2, -, -⟩ := kind_word f.k.toNat (by have := hf.k; omega)
  obtain ⟨n1, -, -, -⟩ := nameB_sgn hf.n
  unfold headS repW kindW
  rw [if_neg (by omega), bl_append, bl_append, bl_append, bl_append, bl_append, wrun_append, wrun_append, wrun_append, wrun_append, wrun_append, blkS_run, wrun_word r1, List.nil_append]
  rw [show bl ({ data := #[32] } : ByteArray) = [32] from rfl, wrun_blank r2, wrun_word k1, List.nil_append, wrun_blank k2, wrun_word n1, List.nil_append]
  simp

theorem end_leaf {ws : List (List Nat)} {cur : List Nat} (h : cur ≠ []) : wrun (some (ws, cur)) (bl ({ data := #[59, 10] } : ByteArray)) = some (ws ++ [cur, [59]], []) := by
  rw [show bl ({ data := #[59, 10] } : ByteArray) = [59, 10] from rfl, wrun_cons, wst_stn (by decide) (by decide), wrun_cons, wst_blk (by decide) (by decide) (by decide)]
  simp [flush, h]
theorem end_group {ws : List (List Nat)} {cur : List Nat} (h : cur ≠ []) : wrun (some (ws, cur)) (bl ({ data := #[32, 123, 10] } : ByteArray)) = some (ws ++ [cur, [123]], []) := by
  rw [show bl ({ data := #[32, 123, 10] } : ByteArray) = [32, 123, 10] from rfl, wrun_cons, wst_blk (by decide) (by decide) (by decide), wrun_cons, wst_stn (by decide) (by decide), wrun_cons, wst_blk (by decide) (by decide) (by decide)]
  simp [flush, h]
theorem end_close {ws : List (List Nat)} : wrun (some (ws, [])) (bl ({ data := #[125, 10] } : ByteArray)) = some (ws ++ [[125]], []) := by
  rw [show bl ({ data := #[125, 10] } : ByteArray) = [125, 10] from rfl, wrun_cons, wst_stn (by decide) (by decide), wrun_cons, wst_blk (by decide) (by decide) (by decide)]
  simp [flush]

/-- A forest's words. -/
def fwd : Fo → List (List Nat)
  | .nil => []
  | .leaf f t => [bl (repW f), bl (kindW f), bl f.n, [59]] ++ fwd t
  | .group f k t => [bl (repW f), bl (kindW f), bl f.n, [123]] ++ fwd k ++ [[125]] ++ fwd t

theorem txt_run (fo : Fo) : ∀ (d : Nat) (ws : List (List Nat)), (∀ f ∈ fo.flat, FFine f) → wrun (some (ws, [])) (bl (txt (d + 1) fo)) = some (ws ++ fwd fo, []) := by
  induction fo with
  | nil => intro d ws _; simp [txt, bl_mk, fwd]
  | leaf f t iht =>
    intro d ws h
    have hf := h f (by simp [Fo.flat])
    obtain ⟨n1, n2, -, -⟩ := nameB_sgn hf.n
    rw [txt, bl_append, bl_append, wrun_append, wrun_append, head_run d f hf, end_leaf n2, iht d _ fun x hx => h x (by simp [Fo.flat, hx])]
    simp [fwd]
  | group f k t ihk iht =>
    intro d ws h
    have hf := h f (by simp [Fo.flat])
    obtain ⟨n1, n2, -, -⟩ := nameB_sgn hf.n
    rw [txt, bl_append, bl_append, bl_append, bl_append, bl_append, wrun_append, wrun_append, wrun_append, wrun_append, wrun_append, head_run d f hf, end_group n2,
      ihk (d + 1) _ fun x hx => h x (by simp [Fo.flat, hx]), blkS_run, end_close, iht d _ fun x hx => h x (by simp [Fo.flat, hx])]
    simp [fwd]

/-- The whole text of a root with its forest. -/
def txtR (r : F) (fo : Fo) : ByteArray := txt 0 (.group r fo .nil)

theorem txtR_run (r : F) (fo : Fo) (hr : nameB (bl r.n) = true) (h : ∀ f ∈ fo.flat, FFine f) : wrun w0 (bl (txtR r fo)) = some ([bl wMsg, bl r.n, [123]] ++ fwd fo ++ [[125]], []) := by
  obtain ⟨n1, n2, -, -⟩ := nameB_sgn hr
  unfold txtR w0
  rw [txt, txt, headS, if_pos rfl, bl_append, bl_append, bl_append, bl_append, bl_append, bl_append, wrun_append, wrun_append, wrun_append, wrun_append, wrun_append, wrun_append]
  have e1 : wrun (some (([] : List (List Nat)), [])) (bl ({ data := #[109, 101, 115, 115, 97, 103, 101, 32] } : ByteArray)) = some ([bl wMsg], []) := by decide
  have e2 : bl ({ data := #[] } : ByteArray) = [] := rfl
  rw [e1, wrun_word n1, List.nil_append, end_group n2, txt_run fo 0 _ h, blkS_run, end_close, e2, wrun_nil]
  simp

/-! ### what is read of them -/

theorem str_bl (s : ByteArray) : str (bl s) = s := by
  have h := extract_str s 0 s.size (Nat.le_refl _)
  rw [List.drop_zero, List.take_of_length_le (by simp)] at h
  rw [← h]
  cases s with
  | mk d =>
    apply ByteArray.ext
    simp

theorem wn_of {s : ByteArray} (h : nameB (bl s) = true) : wnB s = true := by
  obtain ⟨n1, n2, n3, n4⟩ := nameB_sgn h
  unfold wnB
  rw [n4]
  rw [bl_length] at n3
  have : 1 ≤ s.size := by
    rw [← bl_length]
    cases hb : bl s with
    | nil => exact absurd hb n2
    | cons a t => simp
  simp [n3, this]

theorem refN_ok {s : ByteArray} {a d : Nat} (h : nameB (bl s) = true) (ha : a < 40) (hd : d ≤ 8) : refN s a d = 0 := by
  unfold refN
  rw [if_neg (by rw [wn_of h]; simp), if_neg (by omega), if_neg (by omega)]


def bAfter (b : Bool) : Fo → Bool
  | .nil => b
  | _ => false

theorem rdM_leaf {b : Bool} {f : F} {S : List F} {o : List (Nat × Int)} {t : List ByteArray} (hf : FFine f) (hk : f.k ≠ 0) (hc : f.c = 0) (hs : S.length < 40) (ho : o.length ≤ 8) :
    rdM b (repW f :: kindW f :: f.n :: wSc :: t) S o = rdM false t (S ++ [f]) (bumpO o) := by
  obtain ⟨-, -, r3, -⟩ := rep_word f.r.toNat (by have := hf.r; omega)
  obtain ⟨-, -, k3, -⟩ := kind_word f.k.toNat (by have := hf.k; omega)
  have hr := hf.r
  have hkk := hf.k
  have er : ixR (repW f) = f.r := by unfold repW; rw [r3]; omega
  have ek : ixK (kindW f) = f.k := by unfold kindW; rw [k3]; omega
  have hne : ¬ (b = false ∧ repW f = wCl) := fun h => by
    have h2 := er
    rw [h.2] at h2
    have : ixR wCl < 0 := by decide
    omega
  rw [rdM_fd hne]
  unfold fdR nmR
  rw [List.headD_cons, List.tail_cons, er, ek, if_neg (by omega)]
  simp only
  rw [refN_ok hf.n hs ho]
  simp only [ne_eq, not_true_eq_false, if_false]
  rw [if_neg (fun h => hk h.1), if_pos ⟨hk, trivial⟩]
  have : (⟨f.n, f.r, f.k, 0⟩ : F) = f := by cases f; simp at hc; simp [hc]
  rw [this]

theorem rdM_group {b : Bool} {f : F} {S : List F} {o : List (Nat × Int)} {t : List ByteArray} (hf : FFine f) (hk : f.k = 0) (hs : S.length < 40) (ho : o.length ≤ 8) :
    rdM b (repW f :: kindW f :: f.n :: wOp :: t) S o = rdM true t (S ++ [{ f with c := 0 }]) ((S.length, 0) :: bumpO o) := by
  obtain ⟨-, -, r3, -⟩ := rep_word f.r.toNat (by have := hf.r; omega)
  obtain ⟨-, -, k3, -⟩ := kind_word f.k.toNat (by have := hf.k; omega)
  have hr := hf.r
  have hkk := hf.k
  have er : ixR (repW f) = f.r := by unfold repW; rw [r3]; omega
  have ek : ixK (kindW f) = f.k := by unfold kindW; rw [k3]; omega
  have hne : ¬ (b = false ∧ repW f = wCl) := fun h => by
    have h2 := er
    rw [h.2] at h2
    have : ixR wCl < 0 := by decide
    omega
  rw [rdM_fd hne]
  unfold fdR nmR
  rw [List.headD_cons, List.tail_cons, er, ek, if_neg (by omega)]
  simp only
  rw [refN_ok hf.n hs ho]
  simp only [ne_eq, not_true_eq_false, if_false]
  rw [if_pos ⟨hk, trivial⟩]

theorem setC_at (S : List F) (f : F) (T : List F) (n : Int) : setC (S ++ f :: T) S.length n = S ++ { f with c := n } :: T := by
  unfold setC
  simp [List.getD]

def strL (ws : List (List Nat)) : List ByteArray := ws.map str

theorem rdM_fo (fo : Fo) : ∀ (h : Nat) (b : Bool) (S : List F) (g : Nat) (n : Int) (o : List (Nat × Int)) (rest : List ByteArray), (∀ f ∈ fo.flat, FFine f) → fo.ok → fo.le h → o.length + h ≤ 8 → S.length + fo.flat.length ≤ 40 →
    rdM b (strL (fwd fo) ++ rest) S ((g, n) :: o) = rdM (bAfter b fo) rest (S ++ fo.flat) ((g, n + fo.num) :: o) := by
  induction fo with
  | nil => intro h b S g n o rest _ _ _ _ _; simp [fwd, strL, bAfter, Fo.flat, Fo.num]
  | leaf f t iht =>
    intro h b S g n o rest hf hok hle ho hs
    obtain ⟨hk, hc, hok⟩ := hok
    obtain ⟨h1, hle⟩ := hle
    simp only [Fo.flat, List.length_cons] at hs
    have e : strL (fwd (.leaf f t)) ++ rest = repW f :: kindW f :: f.n :: wSc :: (strL (fwd t) ++ rest) := by
      simp only [fwd, strL, List.map_append, List.map_cons, List.map_nil, str_bl]
      rfl
    rw [e, rdM_leaf (hf f (by simp [Fo.flat])) hk hc (by omega) (by simp; omega), bumpO, iht h false _ g _ o rest (fun x hx => hf x (by simp [Fo.flat, hx])) hok hle ho (by simp; omega)]
    have eb : bAfter false t = false := by cases t <;> rfl
    rw [eb]
    simp only [bAfter, Fo.flat, Fo.num, List.append_assoc, List.cons_append, List.nil_append]
    congr 3
    omega
  | group f k t ihk iht =>
    intro h b S g n o rest hf hok hle ho hs
    obtain ⟨hk, hc, hok, hok2⟩ := hok
    obtain ⟨h1, hle, hle2⟩ := hle
    simp only [Fo.flat, List.length_cons, List.length_append] at hs
    have e : strL (fwd (.group f k t)) ++ rest = repW f :: kindW f :: f.n :: wOp :: (strL (fwd k) ++ wCl :: (strL (fwd t) ++ rest)) := by
      simp only [fwd, strL, List.map_append, List.map_cons, List.map_nil, str_bl, List.append_assoc]
      rfl
    rw [e, rdM_group (hf f (by simp [Fo.flat])) hk (by omega) (by simp; omega), bumpO]
    have hb : bAfter true k = false := by
      have hc1 := (hf f (by simp [Fo.flat])).c hk
      cases k with
      | nil => rw [hc] at hc1; simp [Fo.num] at hc1
      | _ => rfl
    rw [ihk (h - 1) true _ S.length 0 ((g, n + 1) :: o) _ (fun x hx => hf x (by simp [Fo.flat, hx])) hok hle (by simp; omega) (by simp; omega), hb, rdM_close, if_neg (by simp)]
    have e2 : setC (S ++ [{ f with c := 0 }] ++ k.flat) S.length (0 + (k.num : Int)) = (S ++ [f]) ++ k.flat := by
      rw [List.append_assoc, List.singleton_append, setC_at]
      have : ({ ({ f with c := 0 } : F) with c := 0 + (k.num : Int) } : F) = f := by cases f; simp at hc; simp [hc]
      rw [this]
      simp
    rw [e2, iht h false _ g _ o rest (fun x hx => hf x (by simp [Fo.flat, hx])) hok2 hle2 ho (by simp; omega)]
    have eb : bAfter false t = false := by cases t <;> rfl
    rw [eb]
    simp only [bAfter, Fo.flat, Fo.num, List.append_assoc, List.cons_append, List.nil_append]
    congr 3
    omega

/-- What is read of a root's words. -/
theorem rdS_fo (r : F) (fo : Fo) (hr : nameB (bl r.n) = true) (hk : r.k = 0) (h0 : r.r = 0) (hc : r.c = fo.num) (hc1 : 1 ≤ r.c) (hf : ∀ f ∈ fo.flat, FFine f) (hok : fo.ok) (hle : fo.le 7) (hl : fo.flat.length < 40) :
    rdS (strL ([bl wMsg, bl r.n, [123]] ++ fwd fo ++ [[125]])) = (0, r :: fo.flat) := by
  have e : strL ([bl wMsg, bl r.n, [123]] ++ fwd fo ++ [[125]]) = wMsg :: r.n :: wOp :: (strL (fwd fo) ++ [wCl]) := by
    simp only [strL, List.map_append, List.map_cons, List.map_nil, str_bl, List.append_assoc]
    rfl
  rw [e]
  unfold rdS
  rw [List.headD_cons, if_pos rfl, List.tail_cons]
  unfold nmR
  simp only
  rw [refN_ok hr (by simp) (by simp)]
  simp only [ne_eq, not_true_eq_false, if_false]
  rw [if_pos ⟨trivial, trivial⟩]
  simp only [List.nil_append, List.length_nil, bumpO]
  rw [rdM_fo fo 7 true [⟨r.n, 0, 0, 0⟩] 0 0 [] [wCl] hf hok hle (by simp) (by simp; omega)]
  have hb : bAfter true fo = false := by
    cases fo with
    | nil => rw [hc] at hc1; simp [Fo.num] at hc1
    | _ => rfl
  rw [hb, rdM_close, if_pos rfl, if_pos rfl]
  have e2 := setC_at [] ⟨r.n, 0, 0, 0⟩ fo.flat (0 + (fo.num : Int))
  simp only [List.nil_append, List.length_nil] at e2
  rw [List.singleton_append, e2]
  have : ({ (⟨r.n, 0, 0, 0⟩ : F) with c := 0 + (fo.num : Int) } : F) = r := by cases r; simp at hc h0 hk; simp [hc, h0, hk]
  rw [this]

end Go.Proofs.Ytofnpcfclcfgfaa
