/- The text of what the statements make: its words, its size, what is read of it. -/
import Derived.Test.YtofnpcfclcfgfaaFw
namespace Go.Proofs.Ytofnpcfclcfgfaa
open Go.RowKit
set_option linter.unusedVariables false

theorem rep_size (f : F) (h : FFine f) : (repW f).size ≤ 8 := by
  obtain ⟨-, -, -, h1⟩ := rep_word f.r.toNat (by have := h.r; omega)
  exact h1
theorem kind_size (f : F) (h : FFine f) : (kindW f).size ≤ 5 := by
  obtain ⟨-, -, -, h1⟩ := kind_word f.k.toNat (by have := h.k; omega)
  exact h1
theorem name_size {s : ByteArray} (h : nameB (bl s) = true) : s.size ≤ 12 := by
  have := (nameB_sgn h).2.2.1
  rwa [bl_length] at this

theorem size_mk (a : Array UInt8) : ({ data := a } : ByteArray).size = a.size := rfl

theorem head_size (d : Nat) (f : F) (h : FFine f) : (headS (d + 1) f).size ≤ 2 * (d + 1) + 27 := by
  have h1 := rep_size f h
  have h2 := kind_size f h
  have h3 := name_size h.n
  unfold headS
  rw [if_neg (by omega)]
  simp only [ByteArray.size_append, blkS_size, size_mk, List.size_toArray, List.length_cons, List.length_nil]
  omega

theorem txt_size (fo : Fo) : ∀ (d h : Nat), fo.le h → d + 1 + h ≤ 8 → (∀ f ∈ fo.flat, FFine f) → (txt (d + 1) fo).size ≤ 70 * fo.flat.length := by
  induction fo with
  | nil => intro d h _ _ _; simp [txt, size_mk]
  | leaf f t ih =>
    intro d h hle hd hf
    have h1 := head_size d f (hf f (by simp [Fo.flat]))
    have h2 := ih d h hle.2 hd fun x hx => hf x (by simp [Fo.flat, hx])
    have h3 := hle.1
    simp only [txt, ByteArray.size_append, size_mk, List.size_toArray, List.length_cons, List.length_nil, Fo.flat]
    omega
  | group f k t ihk iht =>
    intro d h hle hd hf
    have h1 := head_size d f (hf f (by simp [Fo.flat]))
    have h3 := hle.1
    have h2 := iht d h hle.2.2 hd fun x hx => hf x (by simp [Fo.flat, hx])
    have h4 := ihk (d + 1) (h - 1) hle.2.1 (by omega) fun x hx => hf x (by simp [Fo.flat, hx])
    simp only [txt, ByteArray.size_append, size_mk, List.size_toArray, List.length_cons, List.length_nil, Fo.flat, List.length_append, blkS_size]
    omega

/-- What the statements make is a root with a forest, and all that is wanted of it. -/
structure MkF (ns : List Int) (r : F) (fo : Fo) : Prop where
  eq : mk ns = r :: fo.flat
  k : r.k = 0
  r0 : r.r = 0
  c : r.c = fo.num
  c1 : 1 ≤ r.c
  nm : r.n = bm
  ok : fo.ok
  le : fo.le 5
  fine : ∀ f ∈ fo.flat, FFine f
  len : fo.flat.length ≤ 13

theorem mkF (ns : List Int) : ∃ (r : F) (fo : Fo), MkF ns r fo := by
  obtain ⟨r, fo, hm, hk, hc, hok, hr, hn⟩ := mk_forest ns
  have hlen := (mk_ok ns).le
  rw [hm] at hlen
  simp at hlen
  have h0 := mk_fields ns 0 r (by rw [hm]; rfl)
  refine ⟨r, fo, hm, hk, hr, hc, h0.2.1 hk, hn, hok, mk_le ns r fo hm hk hc hok, fun f hf => ?_, by omega⟩
  obtain ⟨j, hj⟩ := List.mem_iff_getElem?.1 hf
  have hjl : j < fo.flat.length := (List.getElem?_eq_some_iff.1 hj).1
  have h1 := mk_fields ns (j + 1) f (by rw [hm, List.getElem?_cons_succ]; exact hj)
  have h2 := mk_name ns (j + 1) (by rw [hm]; simp; omega)
  have e : (mk ns).getD (j + 1) default = f := by rw [hm, List.getD, List.getElem?_cons_succ, hj]; rfl
  rw [e] at h2
  exact ⟨⟨h1.1.1, h1.1.2.1⟩, ⟨h1.1.2.2.1, h1.1.2.2.2⟩, h2, h1.2.1⟩

theorem bm_name : nameB (bl bm) = true := by decide

theorem MkF.nb {ns : List Int} {r : F} {fo : Fo} (h : MkF ns r fo) : nameB (bl r.n) = true := by rw [h.nm]; exact bm_name

theorem MkF.run {ns : List Int} {r : F} {fo : Fo} (h : MkF ns r fo) : wrun w0 (bl (txtR r fo)) = some ([bl wMsg, bl r.n, [123]] ++ fwd fo ++ [[125]], []) := txtR_run r fo h.nb h.fine

theorem MkF.size {ns : List Int} {r : F} {fo : Fo} (h : MkF ns r fo) : (txtR r fo).size ≤ 1000 := by
  have h1 := txt_size fo 0 5 h.le (by omega) h.fine
  have h2 := name_size h.nb
  have h3 := h.len
  unfold txtR
  simp only [txt, ByteArray.size_append, size_mk, List.size_toArray, List.length_cons, List.length_nil, blkS_size, headS, if_true]
  omega

/-- Whatever text has the words of what was made is read as it. -/
theorem MkF.parse {ns : List Int} {r : F} {fo : Fo} (h : MkF ns r fo) {l : List Nat} (hl : l.length ≤ 4000) (hw : wordsL l = some ([bl wMsg, bl r.n, [123]] ++ fwd fo ++ [[125]])) : parseL l = (0, r :: fo.flat) := by
  rw [parseL_some (by omega) hw]
  have e := rdS_fo r fo h.nb h.k h.r0 h.c h.c1 h.fine h.ok (h.le.mono (by omega)) (by have := h.len; omega)
  unfold strL at e
  rw [e, if_neg (by simp)]
  have hc := mk_chk ns
  rw [h.eq] at hc
  simp only
  rw [hc, if_neg (by simp)]

theorem MkF.back {ns : List Int} {r : F} {fo : Fo} (h : MkF ns r fo) : parseL (bl (txtR r fo)) = (0, r :: fo.flat) := h.parse (by rw [bl_length]; have := h.size; omega) (wordsL_done h.run)

end Go.Proofs.Ytofnpcfclcfgfaa
