/- shred: a leaf's column, whole. -/
import Derived.Test.YtfdmbpfpdijpdaaShe
namespace Go.Proofs.Ytfdmbpfpdijpdaa
open Go.RowKit
set_option linter.unusedVariables false
set_option linter.unusedSimpArgs false
attribute [local go_sem] Oper.semAt_some

theorem results_two {fn : Func} {p q : Tmp} {ty tz : TypeId} (h : fn.results = #[.cell p ty, .cell q tz]) {tmps : Array Value} {P : Program} {w : World} {g1 g2 : Nat} {x y : Value} (hp : tmps.getD p undef = .pointer (some ⟨g1, 0, none⟩)) (hq : tmps.getD q undef = .pointer (some ⟨g2, 0, none⟩))
    (h1 : (loadVar ty ⟨g1, 0, none⟩).run P w = .ok x w) (h2 : (loadVar tz ⟨g2, 0, none⟩).run P w = .ok y w) :
    (results fn tmps).run P w = .ok (.tuple #[x, y]) w := by
  have hp' : tmps[p]?.getD undef = .pointer (some ⟨g1, 0, none⟩) := by simpa using hp
  have hq' : tmps[q]?.getD undef = .pointer (some ⟨g2, 0, none⟩) := by simpa using hq
  simp [results, h, hp', hq', asAddr, h1, h2, Sem.run_bind, Result.andThen]

theorem load_bool {w : World} {g : Nat} {x : Bool} (h : w.cell? ⟨g, 0, none⟩ = some (.bool x)) : (loadVar 4 ⟨g, 0, none⟩).run Try.prog w = .ok (.bool x) w := by
  go_simp

/-- What column answers. -/
def ColOut (lf : L) (C : List Cl) (w : World) (e : Ending) (w' : World) : Prop :=
  Chg [] w w' ∧ if C.length ≤ 4000 then ∃ rv dv vv, e = .returned (.tuple #[.agg #[rv, dv, vv], .bool true]) ∧ Tri w.heap.size rv dv vv (colR C) (colD C) (colV lf.d C) C.length C.length (colV lf.d C).length w'
    else e = .returned (.tuple #[.agg #[.slice none 0 0, .slice none 0 0, .slice none 0 0], .bool false])

set_option maxRecDepth 100000 in
set_option maxHeartbeats 4000000 in
theorem column_any (lf : L) (pv lv : Value) (W : List Stp) (L0 : List Tr) (d : Nat) (w : World) (hL : ListAt w d L0 lv) (hP : SeenI w pv (plc W)) (hW : W.length ≤ 1000) (hok : ∀ t ∈ L0, WayOk W t) (hsz : ∀ x ∈ colC W L0, x.t.s.size ≤ 281474976710656) :
    Calls Try.prog 60 #[.agg #[.int .i64 lf.f, .int .i64 lf.r, .int .i64 lf.d, .int .i64 lf.k], .agg #[pv, .string (str (sgs W))], lv] w (ColOut lf (colC W L0) w) := by
  obtain ⟨lo, lc, rfl, -, -⟩ := hL.shape
  obtain ⟨po, pc, rfl, -, -⟩ := hP.shape
  have HCE := Lib.hid (fun w' => cells_any (.slice po (plc W).length pc) lo L0.length lc (str (sgs W)) w')
  have HIT := Lib.hid (fun (w0 wz : World) (l b1 b2 : Nat) J Jx S0 (h1 : Rounds w0 l (colC W L0) J Jx) h2 (h3 : KI w0 b1 b2 (.slice lo L0.length lc) (.slice po (plc W).length pc) (str (sgs W)) S0 wz) h4 h5 => cells1_any w0 wz l b1 b2 d (.slice lo L0.length lc) (.slice po (plc W).length pc) W L0 J Jx S0 h1 h2 h3 h4 h5 hW hok)
  obtain ⟨C, hC⟩ : ∃ C, C = colC W L0 := ⟨_, rfl⟩
  obtain ⟨sg, hsg⟩ : ∃ sg, sg = str (sgs W) := ⟨_, rfl⟩
  obtain ⟨m, hm⟩ : ∃ m, m = L0.length := ⟨_, rfl⟩
  obtain ⟨pn, hpn⟩ : ∃ m, m = (plc W).length := ⟨_, rfl⟩
  rw [← hsg, ← hm, ← hpn] at HCE
  rw [← hsg, ← hm, ← hpn, ← hC] at HIT
  rw [← hC] at hsz ⊢
  rw [← hsg, ← hpn, ← hm]
  rw [← hm] at hL
  rw [← hpn] at hP
  have HL := Lib.hid hL; have HP := Lib.hid hP; have HSZ := Lib.hid hsz
  clear hsg hm hpn hC hL hP hsz hok
  obtain ⟨b, hb⟩ : ∃ b, b = w.heap.size := ⟨_, rfl⟩
  have HB := Lib.hid hb
  refine (callsIn_wide (n := 1)).1 (callsIn_of_wp_marks Try.func60 rfl trivial ?_ rfl)
  refine wpIn_wide.2 ?_
  simp only [Try.ntmps60, List.size_toArray, List.length_cons, List.length_nil, Nat.reduceAdd, Nat.reduceSub, Array.replicate_succ, Array.replicate_zero, List.push_toArray, List.append_toArray, List.nil_append, List.cons_append]
  go_wp2_with (first
    | (go_at_call 93; (with_reducible refine (HCE.out _).mono ?_); rintro e w2 ⟨rfl, rfl⟩)
    | fail)
  rename_i K0 hK0
  generalize hwr : (World.alloc _ (Obj.cells #[Value.slice lo m lc] _)) = wr
  have hh : wr.heap = ((((((w.heap.push (.cells #[.int .i64 lf.f, .int .i64 lf.r, .int .i64 lf.d, .int .i64 lf.k] 52)).push (.cells #[.slice po pn pc, .string sg] 109)).push (.cells #[.slice none 0 0, .slice none 0 0, .slice none 0 0] 42)).push (.cells #[.bool false] 4)).push (.cells #[.slice po pn pc, .string sg] 109)).push (.cells #[.slice lo m lc] 28)) := by rw [← hwr]; rfl
  have hwsz : wr.heap.size = b + 6 := by rw [hh, hb]; simp
  have g0 : wr.heap[b]? = some (.cells #[.int .i64 lf.f, .int .i64 lf.r, .int .i64 lf.d, .int .i64 lf.k] 52 (0, 0)) := by rw [hh, hb]; simp only [Array.getElem?_push, Array.size_push]; (repeat (first | rw [if_neg (by omega)] | rw [if_pos (by omega)] | rw [if_pos trivial]))
  have g2 : wr.heap[b + 2]? = some (.cells #[.slice none 0 0, .slice none 0 0, .slice none 0 0] 42 (0, 0)) := by rw [hh, hb]; simp only [Array.getElem?_push, Array.size_push]; (repeat (first | rw [if_neg (by omega)] | rw [if_pos (by omega)] | rw [if_pos trivial]))
  have g3 : wr.heap[b + 3]? = some (.cells #[.bool false] 4 (0, 0)) := by rw [hh, hb]; simp only [Array.getElem?_push, Array.size_push]; (repeat (first | rw [if_neg (by omega)] | rw [if_pos (by omega)] | rw [if_pos trivial]))
  have g4 : wr.heap[b + 4]? = some (.cells #[.slice po pn pc, .string sg] 109 (0, 0)) := by rw [hh, hb]; simp only [Array.getElem?_push, Array.size_push]; (repeat (first | rw [if_neg (by omega)] | rw [if_pos (by omega)] | rw [if_pos trivial]))
  have g5 : wr.heap[b + 5]? = some (.cells #[.slice lo m lc] 28 (0, 0)) := by rw [hh, hb]; simp only [Array.getElem?_push, Array.size_push]; (repeat (first | rw [if_neg (by omega)] | rw [if_pos (by omega)] | rw [if_pos trivial]))
  have hcw : Chg [] w wr := by rw [← hwr]; exact ((((((Chg.refl [] w).alloc _).alloc _).alloc _).alloc _).alloc _).alloc _
  have H0 := Lib.hid g0; have H2 := Lib.hid g2; have H3 := Lib.hid g3; have H4 := Lib.hid g4; have H5 := Lib.hid g5; have HCW := Lib.hid hcw
  clear hh hwr g0 g2 g3 g4 g5 hcw
  rw [← hb]
  clear hb
  refine wp_rangeS w (by have := HB.out; omega) (gf := 109) (lb := #[.pointer (some ⟨b + 5, 0, none⟩), .pointer (some ⟨b + 4, 0, none⟩)]) rfl (enters_of Try.func109 (by kernel_rfl) rfl) (CRd w C) (CI b b (b + 2) (b + 3) lf) (CX (4000 < C.length) (b + 2) (b + 3)) C [b, b + 2, b + 3]
    (fun pre S A B T h hc hT => h.keep hc hT) ?xk (fun pre S A h => h.lt) ?h0 ?ps ?it ?round ?done ?stop
  case xk =>
    rintro S A B T ⟨rfl, h1, h2, h3⟩ hc hT
    exact ⟨rfl, h1, hc.heap h2 (fun h => hT _ h (by simp)), hc.heap h3 (fun h => hT _ h (by simp))⟩
  case h0 =>
    exact ⟨.slice none 0 0, .slice none 0 0, .slice none 0 0, rfl, H0.out, H2.out, H3.out, ⟨World.ownsRow_nil _ _ _ _, World.ownsRow_nil _ _ _ _, World.ownsRow_nil _ _ _ _, by simp [Value.ownBlock], by simp [Value.ownBlock], by simp [Value.ownBlock]⟩, Nat.zero_le _⟩
  case ps =>
    rintro pre args x A ⟨-, -, dd, kv, -, rfl⟩
    rfl
  case it =>
    intro l W3 J Jx S hc hRG hJ hS
    refine HIT.out w W3 l (b + 5) (b + 4) J Jx S ⟨hRG.keep, hRG.at', fun pre S x post dd kv A hj hT hcA hk => hRG.yield pre S _ x A hj ⟨⟨post, hT⟩, hcA, dd, kv, hk, rfl⟩⟩ hJ ⟨HCW.out.trans hc (by simp), ?_, ?_, ?_, ?_, ?_, fun k hk => ⟨?_, hRG.at' _ _ _ hJ k hk⟩⟩ HL.out HP.out
    · rw [cell_of_row W3 _ 0 _ _ _ (hc.heap H5.out (by simp))]; rfl
    · rw [cell_of_row W3 _ 0 _ _ _ (hc.heap H4.out (by simp))]; rfl
    · rw [cell_of_row W3 _ 1 _ _ _ (hc.heap H4.out (by simp))]; rfl
    · intro h
      rcases hS _ h with h | h
      · simp at h
      · omega
    · intro h
      rcases hS _ h with h | h
      · simp at h
      · omega
    · rcases hS _ hk with h | h
      · have := HB.out; simp at h; omega
      · have := HB.out; omega
  case round =>
    rintro l pre S args x A hI ⟨⟨post, hT⟩, hcA, dd, kv, hk, rfl⟩ hlS hlA
    obtain ⟨ko, kc, rfl, -, -⟩ := hk.shape
    have hBA : b ≤ A.heap.size := by rw [HB.out]; exact hcA.size
    have hsx := HSZ.out x (by rw [hT]; simp)
    have HI := Lib.hid hI; have HT := Lib.hid hT
    clear hI hcA hk hT
    have HKEY := Lib.hid (show ∀ (a : Act) (A2 : World), (∃ u, a = CF b (b + 2) (b + 3) A.heap.size u) → Chg [l] (A.alloc (.cells #[.int .i64 (x.r : Int), .int .i64 (x.d : Int), .int .i64 x.t.n, .string x.t.s, .slice ko x.t.k.length kc] 151)) A2 → A2.heap.size = (A.alloc (.cells #[.int .i64 (x.r : Int), .int .i64 (x.d : Int), .int .i64 x.t.n, .string x.t.s, .slice ko x.t.k.length kc] 151)).heap.size →
        colBody.wpIn (Fence.wide.inRound l) 0 Try.prog (RoundQ (CI b b (b + 2) (b + 3) lf) (CX (4000 < C.length) (b + 2) (b + 3)) pre x S A.heap.size A2) a A2 from fun a A2 ha hc2 hs2 => by
      obtain ⟨u, rfl⟩ := ha
      have hx2 := hc2.heap (heap_alloc_new A _) (by simp; omega)
      have hI2 := (HI.out.keep ((Chg.refl [] A).alloc (.cells #[.int .i64 (x.r : Int), .int .i64 (x.d : Int), .int .i64 x.t.n, .string x.t.s, .slice ko x.t.k.length kc] 151)) (by simp)).keep hc2 (by simpa using hlS)
      have hszA : A.heap.size ≤ A2.heap.size := by rw [hs2]; simp
      have hle : pre.length ≤ 4000 := by obtain ⟨_, _, _, _, _, _, _, _, h⟩ := HI.out; exact h
      by_cases hf : pre.length = 4000
      · exact col_full (by rw [HT.out]; simp; omega) u hI2 hf
      · exact col_more u hI2 (by omega) hszA hsx (Nat.le_trans hBA hszA) hx2 (fun h => by have := HI.out.lt _ h; omega))
    dsimp only
    gi_wp2
    exact ⟨(Chg.refl [] A).alloc _, fun A2 hc2 hs2 => HKEY.out _ A2 (CF_of rfl) hc2 hs2⟩
  case done =>
    intro D S A hI hCA hD hDS hDl
    have hDw : w.heap.size ≤ D := by have := HB.out; omega
    simp only [Exit.inBlock]
    refine hK0 _ _ ?_
    obtain ⟨rv, dv, vv, rfl, h1, h2, h3, h4, h5⟩ := hI
    obtain ⟨ro, rc, rfl⟩ := own_shape h4.r
    obtain ⟨dso, dc, rfl⟩ := own_shape h4.d
    obtain ⟨vo, vc, rfl⟩ := own_shape h4.v
    obtain ⟨n, hn⟩ : ∃ n, n = C.length := ⟨_, rfl⟩
    obtain ⟨k, hk⟩ : ∃ n, n = (colV lf.d C).length := ⟨_, rfl⟩
    rw [← hn, ← hk] at h2 h4
    rw [← hn] at h5
    have c0 : A.cell? ⟨b + 1 + 1, 0, none⟩ = some (.slice ro n rc) := by rw [cell_of_row A _ 0 _ _ _ h2]; rfl
    have c1 : A.cell? ⟨b + 1 + 1, 1, none⟩ = some (.slice dso n dc) := by rw [cell_of_row A _ 1 _ _ _ h2]; rfl
    have c2 : A.cell? ⟨b + 1 + 1, 2, none⟩ = some (.slice vo k vc) := by rw [cell_of_row A _ 2 _ _ _ h2]; rfl
    have c3 : A.cell? ⟨b + 1 + 1 + 1, 0, none⟩ = some (.bool false) := by rw [cell_of_row A _ 0 _ _ _ h3]; rfl
    have f0 : A.frozen? ⟨b + 1 + 1, 0, none⟩ = false := by simp [World.frozen?, show A.heap[b + 1 + 1]? = _ from h2]
    have f1 : A.frozen? ⟨b + 1 + 1, 1, none⟩ = false := by simp [World.frozen?, show A.heap[b + 1 + 1]? = _ from h2]
    have f2 : A.frozen? ⟨b + 1 + 1, 2, none⟩ = false := by simp [World.frozen?, show A.heap[b + 1 + 1]? = _ from h2]
    have f3 : A.frozen? ⟨b + 1 + 1 + 1, 0, none⟩ = false := by simp [World.frozen?, show A.heap[b + 1 + 1 + 1]? = _ from h3]
    have G2 := Lib.hid (show A.heap[b + 1 + 1]? = _ from h2); have G3 := Lib.hid (show A.heap[b + 1 + 1 + 1]? = _ from h3); have GT := Lib.hid h4; have GN := Lib.hid hn; have GK := Lib.hid hk
    clear h1 h2 h3 h4 hn hk
    go_wp2
    have HW := Lib.hid (((((Chg.refl [b + 1 + 1, b + 1 + 1 + 1] A).setCell (p := ⟨b + 1 + 1, 0, none⟩) (.inl (by simp)) (.slice ro n rc)).setCell (p := ⟨b + 1 + 1, 1, none⟩) (.inl (by simp)) (.slice dso n dc)).setCell (p := ⟨b + 1 + 1, 2, none⟩) (.inl (by simp)) (.slice vo k vc)).setCell (p := ⟨b + 1 + 1 + 1, 0, none⟩) (.inl (by simp)) (.bool true))
    have hD2 : D ∉ [b + 1 + 1, b + 1 + 1 + 1] := fun h => hDS (by simp at h ⊢; omega)
    have hKD := HW.out.heap hD hD2
    refine ⟨by simp, .inl ⟨_, _, rfl, run_takeDeferred hKD, ?_⟩⟩
    obtain ⟨Wf, hWf⟩ : ∃ z, z = ((((A.setCell ⟨b + 1 + 1, 0, none⟩ (.slice ro n rc)).setCell ⟨b + 1 + 1, 1, none⟩ (.slice dso n dc)).setCell ⟨b + 1 + 1, 2, none⟩ (.slice vo k vc)).setCell ⟨b + 1 + 1 + 1, 0, none⟩ (.bool true)).putObj D (.deferred none) := ⟨_, rfl⟩
    rw [← hWf]
    have hP : Chg [D] ((((A.setCell ⟨b + 1 + 1, 0, none⟩ (.slice ro n rc)).setCell ⟨b + 1 + 1, 1, none⟩ (.slice dso n dc)).setCell ⟨b + 1 + 1, 2, none⟩ (.slice vo k vc)).setCell ⟨b + 1 + 1 + 1, 0, none⟩ (.bool true)) Wf := by rw [hWf]; exact (Chg.refl [D] _).putObj (.inl (by simp)) _
    have hne : b + 1 + 1 ≠ b + 1 + 1 + 1 := by omega
    have hcol := hP.heap (((Chg.refl [b + 1 + 1 + 1] _).setCell (p := ⟨b + 1 + 1 + 1, 0, none⟩) (.inl (by simp)) (.bool true)).heap (heap_set (i := 2) (heap_set (i := 1) (heap_set (i := 0) G2.out (.slice ro n rc)) (.slice dso n dc)) (.slice vo k vc)) (by simp)) (by simp at hD2 ⊢; omega)
    have hbool := hP.heap (heap_set (i := 0) ((((Chg.refl [b + 1 + 1] A).setCell (p := ⟨b + 1 + 1, 0, none⟩) (.inl (by simp)) (.slice ro n rc)).setCell (p := ⟨b + 1 + 1, 1, none⟩) (.inl (by simp)) (.slice dso n dc)).setCell (p := ⟨b + 1 + 1, 2, none⟩) (.inl (by simp)) (.slice vo k vc) |>.heap G3.out (by simp)) (.bool true)) (by simp at hD2 ⊢; omega)
    refine ⟨_, results_two rfl rfl rfl (run_loadVar_row Wf (b + 1 + 1) _ _ _ _ _ hcol Try.underlying42 rfl (by kernel_rfl)) (load_bool (by rw [cell_of_row Wf _ 0 _ _ _ hbool]; rfl)), ?_⟩
    have hWW : Chg [] w Wf := (hCA.trans HW.out (by intro q hq; have := HB.out; simp at hq; omega)).trans hP (by intro q hq; simp at hq; subst hq; exact .inr hDw)
    refine ⟨hWW, ?_⟩
    rw [if_pos (by rw [← GN.out]; exact h5)]
    refine ⟨_, _, _, rfl, ?_⟩
    rw [← HB.out, ← GN.out, ← GK.out]
    have hnd : ∀ {T : TypeId} {v : Value}, Tagged A T v → (T ≠ 42) → (T ≠ 4) → ∀ g, v.ownBlock = some g → g ∉ [b + 1 + 1, b + 1 + 1 + 1] ∧ g ≠ D := fun hT n1 n2 g hg => by
      refine ⟨fun hm => ?_, fun e => ?_⟩
      · simp at hm
        rcases hm with hm | hm
        · exact hT.ne (show A.heap[b + 1 + 1]? = _ from G2.out) n1 g hg hm
        · exact hT.ne (show A.heap[b + 1 + 1 + 1]? = _ from G3.out) n2 g hg hm
      · obtain ⟨cur, fr, hx⟩ := hT g hg
        rw [e, hD] at hx
        cases hx
    have dr := hnd (tagged_of_own GT.out.r) (by decide) (by decide)
    have dd := hnd (tagged_of_own GT.out.d) (by decide) (by decide)
    have dvv := hnd (tagged_of_own GT.out.v) (by decide) (by decide)
    refine (GT.out.keep HW.out (fun g hg => ?_)).keep hP (fun g hg => ?_)
    · rcases hg with hg | hg | hg
      · exact (dr g hg).1
      · exact (dd g hg).1
      · exact (dvv g hg).1
    · rcases hg with hg | hg | hg
      · simpa using (dr g hg).2
      · simpa using (dd g hg).2
      · simpa using (dvv g hg).2
  case stop =>
    rintro D S A ⟨rfl, hbig, h2, h3⟩ hCA hD hDS hDl
    have hDw : w.heap.size ≤ D := by have := HB.out; omega
    have hbool : A.cell? ⟨b + 1 + 1 + 1, 0, none⟩ = some (.bool false) := by rw [cell_of_row A _ 0 _ _ _ h3]; rfl
    simp only [Exit.inBlock]
    refine ⟨by simp, .inl ⟨_, _, rfl, run_takeDeferred hD, ?_⟩⟩
    have hP : Chg [D] A (A.putObj D (.deferred none)) := (Chg.refl [D] _).putObj (.inl (by simp)) _
    refine ⟨_, results_two rfl rfl rfl (run_loadVar_row _ (b + 1 + 1) _ _ _ _ _ (hP.heap h2 (by simp at hDS ⊢; omega)) Try.underlying42 rfl (by kernel_rfl)) (load_bool (g := b + 1 + 1 + 1) (hP.cell hbool (by simp at hDS ⊢; omega))), ?_⟩
    refine ⟨hCA.trans hP (by intro q hq; simp at hq; subst hq; exact .inr hDw), ?_⟩
    rw [if_neg (by omega)]

end Go.Proofs.Ytfdmbpfpdijpdaa
