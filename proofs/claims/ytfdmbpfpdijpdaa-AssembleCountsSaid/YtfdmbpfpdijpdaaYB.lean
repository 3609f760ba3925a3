/- Yk, Yc, Ff, Yd: texts of one group, one behind the other. -/
import Derived.Test.YtfdmbpfpdijpdaaA5
import Derived.Test.YtfdmbpfpdijpdaaYA
import Derived.Test.YtfdmbpfpdijpdaaA4
import Derived.Test.YtfdmbpfpdijpdaaA1
namespace Go.Proofs.Ytfdmbpfpdijpdaa
open Go.RowKit
set_option linter.unusedVariables false

set_option maxRecDepth 100000 in
set_option maxHeartbeats 1000000 in
theorem tkids_any (sv : Value) (l : List F) (w : World) (hS : SeenF w sv l) (hl : l.length ≤ 1000) (hw : ∀ f ∈ l, f.c ≤ 9223372036854775807) :
    Calls Try.prog 107 #[sv] w fun e w' => e = .returned (.slice (some ⟨w.heap.size, 0, none⟩) l.length l.length) ∧ KidsM w' w.heap.size l ∧ Chg [] w w' := by
  obtain ⟨i0, hi, hz0, hz1, hz2⟩ := info_int
  obtain ⟨i1, ji, jz0, jz1, jz2⟩ := info_ints
  obtain ⟨ao, cap, rfl, hc1, hc2⟩ := hS.shape
  have HS := Lib.hid hS; have HW := Lib.hid hw
  clear hS hw
  obtain ⟨n, hn⟩ : ∃ n, n = l.length := ⟨_, rfl⟩
  rw [← hn] at hc1 hl HS ⊢
  have HN := Lib.hid hn
  clear hn
  have hnm : n ≤ maxLen := by unfold maxLen; omega
  go_enter Try.func107, Try.ntmps107
  go_wp2_with (at_make; refine wpList_make_full _ rfl _ _ 23 rfl w.heap.size 22 i1 nilS 1 Try.underlying23 ji jz0 jz1 .i64 .i64 _ _ n rfl rfl rfl rfl ?c1 ?c2 (Nat.le_refl _) ?_)
  case c1 => rw [jz2]; omega
  case c2 => exact hnm
  intro w1 hown1 hg1
  have hlt1 : w.heap.size < w1.heap.size := (hown1.lt w.heap.size rfl).2
  rw [cells_zeros] at hown1
  have HB1 := Lib.hid (blk_of_own hown1 rfl)
  have HC1 := Lib.hid ((Chg.refl [] w).grown hg1 (by simp))
  clear hown1 hg1
  go_wp2_with fail
  (with_reducible refine (parents_any _ l w1 (HS.out.keep HC1.out) (by rw [← HN.out]; omega) HW.out).mono ?_)
  rw [← HN.out]
  rintro e w2 ⟨rfl, hb2, hk2⟩
  have HP2 := Lib.hid hb2; have HC12 := Lib.hid hk2
  clear hb2 hk2
  go_wp2
  obtain ⟨gp, hgp⟩ : ∃ gp, gp = w1.heap.size := ⟨_, rfl⟩
  rw [← hgp] at HP2 hlt1 ⊢
  clear hgp
  have HPL := Lib.hid (parents_length l)
  go_loopw [12] (fun x w' => ∃ (i : Nat) (R : List Value), x = .int .i64 (i : Int) ∧ i ≤ n ∧ KJ l w w' w.heap.size gp i R) (fun x _ => n - (intOf x).toNat)
  case atStart =>
    refine ⟨0, List.replicate n nilS, rfl, Nat.zero_le _, ⟨by simp [HN.out], Nat.le_refl _, HC12.out.heap HB1.out (by simp), HC1.out.trans HC12.out (by simp), fun j hj => ?_, fun j k _ _ _ => ?_, fun j hj => ?_, fun j hj => ?_, HP2.out, by omega⟩⟩
    · have e : (List.replicate n nilS).getD j nilS = nilS := by simp [List.getD, List.getElem?_replicate]; split <;> rfl
      rw [e]
      exact World.ownsRow_nil _ _ _ _
    · have e : (List.replicate n nilS).getD j nilS = nilS := by simp [List.getD, List.getElem?_replicate]; split <;> rfl
      rw [e]
      exact Sep.nil _
    · have e : (List.replicate n nilS).getD j nilS = nilS := by simp [List.getD, List.getElem?_replicate]; split <;> rfl
      rw [e]
      simp [Value.ownBlock]
    · have e : (List.replicate n nilS).getD j nilS = nilS := by simp [List.getD, List.getElem?_replicate]; split <;> rfl
      rw [e]
      simp [Value.ownBlock]
  case round =>
    obtain ⟨i, R, rfl, hin, hJ⟩ := hrel
    have HJ := Lib.hid hJ
    clear hJ
    by_cases hlt : i < n
    · obtain ⟨p, hp⟩ : ∃ p, (parents l)[i]? = some p := ⟨_, List.getElem?_eq_getElem (by rw [HPL.out, ← HN.out]; exact hlt)⟩
      have hpr := parents_lt hp
      have hpc : wr.cell? ⟨gp, i, none⟩ = some (.int .i64 p) := HJ.out.bp.cell hp
      have HPD := Lib.hid (show (parents l).getD i 0 = p by rw [List.getD, hp]; rfl)
      clear hp
      by_cases hp1 : p = -1
      · subst hp1
        clear hpr
        go_wp2
        go_roundw
        case rel => exact ⟨i + 1, R, by go_num, by omega, HJ.out.skip HPD.out (Chg.refl [] _)⟩
        case measure => simp [intOf]; omega
      · have hq : 0 ≤ p ∧ p < i := by
          rcases hpr with h | h
          · contradiction
          · exact h
        clear hpr
        obtain ⟨q, rfl⟩ : ∃ q : Nat, p = q := ⟨p.toNat, by omega⟩
        have hql : q < l.length := by rw [← HN.out]; omega
        have hn1 : ((q : Int) != -1) = true := by simp
        obtain ⟨v, hv⟩ : ∃ v, v = R.getD q nilS := ⟨_, rfl⟩
        have hvc : wr.cell? ⟨w.heap.size, q, none⟩ = some v := by
          rw [cell_of_row wr w.heap.size q _ _ _ HJ.out.bl, hv, List.getD]
          have : q < R.length := by rw [HJ.out.lr]; exact hql
          simp [List.getElem?_eq_getElem this]
        have hown := HJ.out.ow q hql
        rw [← hv] at hown
        obtain ⟨K, hK⟩ : ∃ K, K = kidsU (parents l) i q := ⟨_, rfl⟩
        rw [← hK] at hown
        have hKl : K.length ≤ i := by rw [hK]; exact kidsU_len _ _ _
        obtain ⟨m, hm⟩ : ∃ m, m = K.length := ⟨_, rfl⟩
        rw [← hm] at hown hKl
        have HK := Lib.hid hK; have HM := Lib.hid hm; have HV := Lib.hid hv
        obtain ⟨va, vc, rfl⟩ := own_shape hown
        have HOW := Lib.hid hown
        have HM2 := Lib.hid (show m + 1 ≤ maxLen by unfold maxLen; omega)
        have HM3 := Lib.hid (show (m + 1) * 8 ≤ 140737488355328 by omega)
        have HBZ := Lib.hid (show w.heap.size ≤ wr.heap.size from HJ.out.cg.size)
        have hfr : wr.frozen? ⟨w.heap.size, q, none⟩ = false := by simp [World.frozen?, HJ.out.bl]
        have HF2 := Lib.hid (show ∀ wx, (wr.alloc (.cells #[.int .i64 (i : Int)] 3)).grownBy wx (Value.slice va m vc).ownBlock → wx.frozen? ⟨w.heap.size, q, none⟩ = false ∧ wx.cell? ⟨w.heap.size, q, none⟩ = some (.slice va m vc) from fun wx hg => by
          have h1 : (wr.alloc (.cells #[.int .i64 (i : Int)] 3)).heap[w.heap.size]? = some (.cells R.toArray 22 (0, 0)) := ((Chg.refl [] wr).alloc _).heap HJ.out.bl (by simp)
          have h2 := (hg.block w.heap.size (Go.lt_of_block h1) (fun e => HJ.out.ne q hql (by rw [← HV.out]; exact e.symm))).trans h1
          refine ⟨by simp [World.frozen?, h2], ?_⟩
          rw [cell_of_row wx w.heap.size q _ _ _ h2, HV.out, List.getD]
          have : q < R.length := by rw [HJ.out.lr]; exact hql
          simp [List.getElem?_eq_getElem this])
        clear hK hm hv hown hp1
        go_wp2_with (first
          | (at_builtin; refine wpList_append_at _ rfl (.tmp 24) (.tmp 26) _ rfl w.heap.size 3 i0 (.int .i64 0) 1 8 Try.underlying22 hi hz0 hz1 hz2 rfl (by omega) (.slice va m vc) m (iv K) rfl (HOW.out.alloc _) ⟨wr.heap.size, 0, none⟩ 1 1 [.int .i64 (i : Int)] rfl rfl new_cell (by simp [Value.oneCell']) HM2.out HM3.out (by simp; have := HBZ.out; omega) ?_; intro v2 w2' hown2 hg2 hat2; obtain ⟨va2, vc2, rfl⟩ := own_shape hown2; obtain ⟨hfr2, hcl2⟩ := HF2.out _ hg2; have HO2 := Lib.hid hown2; have HG2 := Lib.hid hg2; have HA2 := Lib.hid hat2; clear hown2 hg2 hat2)
          | fail)
        go_roundw
        case rel =>
          have hK2 := KJ.put HJ.out HPD.out hql ((Chg.refl [] wr).alloc _) (v := .slice va2 (m + 1) vc2) (by rw [← HK.out, ← HM.out]; exact HO2.out) (by rw [← HV.out]; exact HG2.out) (by rw [← HV.out]; exact HA2.out) rfl
          exact ⟨i + 1, _, by go_num, by omega, hK2⟩
        case measure => simp [intOf]; omega
    · have e : i = n := by omega
      subst e
      go_wp2
      go_ret
      exact ⟨rfl, by have h := HJ.out; rw [HN.out] at h; exact h.out, HJ.out.cg⟩

end Go.Proofs.Ytfdmbpfpdijpdaa

namespace Go.Proofs.Ytfdmbpfpdijpdaa
open Go.RowKit
set_option linter.unusedVariables false

/-- The first of two errors. -/
def orE (a b : Int) : Int := if a ≠ 0 then a else b

mutual
/-- What is wrong with a value of a field. -/
def fitV (l : List F) (f : Nat) : Tr → Int
  | .mk n s k => if (l.getD f default).k = 0 then (if n ≠ 0 ∨ s ≠ ByteArray.empty ∨ k.length ≠ (kidsU (parents l) l.length f).length then 13 else fitG l (kidsU (parents l) l.length f) k) else leafE (l.getD f default).k (.mk n s k)
def fitG (l : List F) (is : List Int) : List (List Tr) → Int
  | [] => 0
  | x :: xs => orE (orE (timesE (l.getD (is.headD 0).toNat default).r x.length) (fitL l (is.headD 0).toNat x)) (fitG l is.tail xs)
def fitL (l : List F) (f : Nat) : List Tr → Int
  | [] => 0
  | t :: r => orE (fitV l f t) (fitL l f r)
end

/-- What is wrong with all that is there of a field. -/
def listE (l : List F) (f : Nat) (x : List Tr) : Int := orE (timesE (l.getD f default).r x.length) (fitL l f x)

theorem fitV_group {l : List F} {f : Nat} {t : Tr} (h : (l.getD f default).k = 0) : fitV l f t = if t.n ≠ 0 ∨ t.s ≠ ByteArray.empty ∨ t.k.length ≠ (kidsU (parents l) l.length f).length then 13 else fitG l (kidsU (parents l) l.length f) t.k := by
  cases t with
  | mk n s k => rw [fitV, if_pos h]; rfl

theorem fitV_leaf {l : List F} {f : Nat} {t : Tr} (h : (l.getD f default).k ≠ 0) : fitV l f t = leafE (l.getD f default).k t := by
  cases t with
  | mk n s k => rw [fitV, if_neg h]

theorem fitL_drop {l : List F} {f j : Nat} {x : List Tr} {t : Tr} (h : x[j]? = some t) : fitL l f (x.drop j) = orE (fitV l f t) (fitL l f (x.drop (j + 1))) := by
  have hl := (List.getElem?_eq_some_iff.1 h).1
  rw [List.getElem?_eq_getElem hl] at h
  injection h with h
  rw [List.drop_eq_getElem_cons hl, fitL, h]

theorem fitG_drop {l : List F} {is : List Int} {j : Nat} {k : List (List Tr)} {x : List Tr} {i : Nat} (h : k[j]? = some x) (hi : is[j]? = some (i : Int)) : fitG l (is.drop j) (k.drop j) = orE (listE l i x) (fitG l (is.drop (j + 1)) (k.drop (j + 1))) := by
  have hl := (List.getElem?_eq_some_iff.1 h).1
  have hl2 := (List.getElem?_eq_some_iff.1 hi).1
  rw [List.getElem?_eq_getElem hl] at h
  injection h with h
  rw [List.getElem?_eq_getElem hl2] at hi
  injection hi with hi
  rw [List.drop_eq_getElem_cons hl, List.drop_eq_getElem_cons hl2, fitG, h, hi]
  simp [listE]

theorem fitL_end (l : List F) (f : Nat) (x : List Tr) : fitL l f (x.drop x.length) = 0 := by rw [List.drop_of_length_le (Nat.le_refl _), fitL]
theorem fitG_end (l : List F) (is : List Int) (k : List (List Tr)) : fitG l (is.drop k.length) (k.drop k.length) = 0 := by rw [List.drop_of_length_le (Nat.le_refl k.length), fitG]

abbrev rulesV (sv : Value) (gi n : Nat) : Value := .agg #[sv, .slice (some ⟨gi, 0, none⟩) n n]

def FVal (l : List F) (sv : Value) (gi n d : Nat) : Prop := ∀ (f : Nat) (t : Tr) (kv : Value) (w : World), f < n → SeenF w sv l → KidsM w gi l → KidsAt w d t.k kv →
  Calls Try.prog 108 #[rulesV sv gi n, .int .i64 (f : Int), tv t.n t.s kv] w fun e w' => e = .returned (.int .i64 (fitV l f t)) ∧ Chg [] w w'

def FGrp (l : List F) (sv : Value) (gi n d : Nat) : Prop := ∀ (f : Nat) (t : Tr) (kv : Value) (w : World), f < n → (l.getD f default).k = 0 → SeenF w sv l → KidsM w gi l → KidsAt w d t.k kv →
  Calls Try.prog 111 #[rulesV sv gi n, .int .i64 (f : Int), tv t.n t.s kv] w fun e w' => e = .returned (.int .i64 (fitV l f t)) ∧ Chg [] w w'

def FLst (l : List F) (sv : Value) (gi n d : Nat) : Prop := ∀ (f : Nat) (x : List Tr) (lv : Value) (w : World), f < n → SeenF w sv l → KidsM w gi l → ListAt w d x lv →
  Calls Try.prog 114 #[rulesV sv gi n, .int .i64 (f : Int), lv] w fun e w' => e = .returned (.int .i64 (listE l f x)) ∧ Chg [] w w'

set_option maxRecDepth 100000 in
set_option maxHeartbeats 1000000 in
theorem flist_any (l : List F) (sv : Value) (gi n d : Nat) (hn : n = l.length) (hV : FVal l sv gi n d) : FLst l sv gi n d := by
  intro f x lv w hf hS hK hX
  obtain ⟨ao, cap, rfl, hc1, hc2⟩ := hS.shape
  obtain ⟨lo, lcap, rfl, hl1, hl2⟩ := hX.shape
  have HS := Lib.hid hS; have HK := Lib.hid hK; have HX := Lib.hid hX; have HV := Lib.hid hV
  clear hS hK hX hV
  rw [← hn] at hc1 HS HV ⊢
  have HN := Lib.hid hn
  clear hn
  obtain ⟨m, hm⟩ : ∃ m, m = x.length := ⟨_, rfl⟩
  rw [← hm] at hl1 HX ⊢
  have HM := Lib.hid hm
  clear hm
  have hmx : m ≤ maxLen := by omega
  have hmx2 : m ≤ 9223372036854775807 := by unfold maxLen at hmx; omega
  have hnx : n ≤ 9223372036854775807 := by unfold maxLen at hc2; omega
  obtain ⟨w1, hw1⟩ : ∃ w1, w1 = w.alloc (.cells #[.slice ao n cap, .slice (some ⟨gi, 0, none⟩) n n] 169) := ⟨_, rfl⟩
  have HC1 := Lib.hid (show Chg [] w w1 by rw [hw1]; exact (Chg.refl [] w).alloc _)
  have hb0 : w1.cell? ⟨w.heap.size, 0, none⟩ = some (.slice ao n cap) := by rw [hw1]; simp
  have hb1 : w1.cell? ⟨w.heap.size, 1, none⟩ = some (.slice (some ⟨gi, 0, none⟩) n n) := by rw [hw1]; simp
  have HB0 := Lib.hid hb0; have HB1 := Lib.hid hb1
  obtain ⟨gs, off, rfl, hcs⟩ := SeenF.get (HS.out.keep HC1.out) (by omega) HN.out.symm
  obtain ⟨a1, a2, a3, a4⟩ := hcs f hf
  obtain ⟨r, hr⟩ : ∃ r, r = (l.getD f default).r := ⟨_, rfl⟩
  rw [← hr] at a2
  have HE := Lib.hid (show listE l f x = orE (timesE r m) (fitL l f x) by unfold listE; rw [hr, HM.out])
  clear hcs a1 a3 a4 hr
  go_enter Try.func114, Try.ntmps114
  go_upto_region 1 with fail
  rw [← hw1]
  have HW1 := Lib.hid hw1
  clear hw1
  go_wp2_with fail
  (with_reducible refine (times_any r m _ hmx).mono ?_)
  rintro e w2 ⟨rfl, hk⟩
  have HC2 := Lib.hid (HC1.out.trans hk (by simp))
  have hb0 := hk.cell HB0.out (by simp)
  have hb1 := hk.cell HB1.out (by simp)
  have HB0 := Lib.hid hb0; have HB1 := Lib.hid hb1
  obtain ⟨v, hv⟩ : ∃ v, v = timesE r m := ⟨_, rfl⟩
  rw [← hv] at HE ⊢
  clear hk hv a2
  by_cases hv0 : v = 0
  · subst hv0
    have HE2 := Lib.hid (show listE l f x = fitL l f x by rw [HE.out]; rfl)
    clear HE
    go_wp2
    go_loopw [25] (fun s wx => ∃ j : Nat, s = .int .i64 (j : Int) ∧ j ≤ m ∧ Chg [] w2 wx ∧ listE l f x = fitL l f (x.drop j)) (fun s _ => m - (intOf s).toNat)
    case atStart => exact ⟨0, rfl, Nat.zero_le _, Chg.refl _ _, HE2.out⟩
    case round =>
      obtain ⟨j, rfl, hj, hC, hE⟩ := hrel
      have HC := Lib.hid hC; have HE := Lib.hid hE
      have hb0 := hC.cell HB0.out (by simp)
      have hb1 := hC.cell HB1.out (by simp)
      clear hC hE
      by_cases hlt : j < m
      · obtain ⟨t, ht⟩ : ∃ t, x[j]? = some t := ⟨_, List.getElem?_eq_getElem (by rw [← HM.out]; exact hlt)⟩
        have HCW := Lib.hid (HC2.out.trans HC.out (by simp))
        obtain ⟨gl, loff, rfl, hcl⟩ := ListAt.get (HX.out.keep HCW.out) (by omega)
        obtain ⟨kv, b1, b2, b3, hkv⟩ := hcl j t ht
        have HD := Lib.hid (fitL_drop (l := l) (f := f) ht)
        have HKV := Lib.hid hkv
        obtain ⟨tn, htn⟩ : ∃ n, n = t.n := ⟨_, rfl⟩
        obtain ⟨ts, hts⟩ : ∃ s, s = t.s := ⟨_, rfl⟩
        obtain ⟨ko, kcap, rfl, -, -⟩ := hkv.shape
        have HVT := Lib.hid (fun wx hk => HV.out f t _ wx hf (HS.out.keep (HCW.out.trans hk (by simp))) (HK.out.chg (HCW.out.trans hk (by simp))) (HKV.out.keep hk))
        rw [← htn, ← hts] at HVT
        rw [← htn] at b1
        rw [← hts] at b2
        have hc0 : ∀ o, (wr.alloc o).cell? ⟨w.heap.size, 0, none⟩ = some (.slice (some ⟨gs, off, none⟩) n cap) := fun o => ((Chg.refl [] wr).alloc o).cell hb0 (by simp)
        have hc1 : ∀ o, (wr.alloc o).cell? ⟨w.heap.size, 1, none⟩ = some (.slice (some ⟨gi, 0, none⟩) n n) := fun o => ((Chg.refl [] wr).alloc o).cell hb1 (by simp)
        clear hcl hkv htn hts ht
        go_wp2_with fail
        (with_reducible refine (HVT.out _ ((Chg.refl [] _).alloc _)).mono ?_)
        rintro e w3 ⟨rfl, hk3⟩
        have HC3 := Lib.hid (HC.out.trans (((Chg.refl [] _).alloc _).trans hk3 (by simp)) (by simp))
        obtain ⟨u, hu⟩ : ∃ u, u = fitV l f t := ⟨_, rfl⟩
        rw [← hu] at HD ⊢
        clear hk3 hu
        by_cases hu0 : u = 0
        · subst hu0
          go_wp2
          go_roundw
          case rel => exact ⟨j + 1, by go_num, by omega, HC3.out, by rw [HE.out, HD.out]; rfl⟩
          case measure => simp [intOf]; omega
        · have e1 : (u != 0) = true := by simpa using hu0
          have E := Lib.hid (show listE l f x = u by rw [HE.out, HD.out]; unfold orE; rw [if_pos hu0])
          go_wp2
          go_ret
          exact ⟨ret_int E.out.symm, HC2.out.trans HC3.out (by simp)⟩
      · have ej : j = m := by omega
        have E := Lib.hid (show listE l f x = 0 by rw [HE.out, ej, HM.out]; exact fitL_end _ _ _)
        clear ej
        go_wp2
        go_ret
        exact ⟨ret_int E.out.symm, HC2.out.trans HC.out (by simp)⟩
  · have e1 : (v != 0) = true := by simpa using hv0
    have E := Lib.hid (show listE l f x = v by rw [HE.out]; unfold orE; rw [if_pos hv0])
    go_wp2
    go_ret
    exact ⟨ret_int E.out.symm, HC2.out⟩

theorem KidsM.cellAt {w : World} {g : Nat} {l : List F} (h : KidsM w g l) {j : Nat} (hj : j < l.length) : ∃ v, w.cell? ⟨g, j, none⟩ = some v ∧ SeenI w v (kidsU (parents l) l.length j) := by
  obtain ⟨R, h1, h2, h3⟩ := h
  refine ⟨R.getD j nilS, ?_, h3 j hj⟩
  rw [cell_of_row w g j _ _ _ h2, List.getD]
  simp [List.getElem?_eq_getElem (show j < R.length by omega)]

theorem kidsU_mem' {ps : List Int} {m g : Nat} {x : Int} (h : x ∈ kidsU ps m g) : ∃ i : Nat, x = (i : Int) ∧ i < m ∧ ps.getD i 0 = (g : Int) := by
  unfold kidsU at h
  rw [List.mem_map] at h
  obtain ⟨i, hi, rfl⟩ := h
  rw [List.mem_filter, List.mem_range, beq_iff_eq] at hi
  exact ⟨i, rfl, hi.1, hi.2⟩

set_option maxRecDepth 100000 in
set_option maxHeartbeats 1000000 in
theorem fgroup_any (l : List F) (sv : Value) (gi n d : Nat) (hn : n = l.length) (hn1 : n ≤ 1000) (hL : FLst l sv gi n d) : FGrp l sv gi n (d + 1) := by
  intro f t kv w hf hk0 hS hK hT
  obtain ⟨ao, cap, rfl, hc1, hc2⟩ := hS.shape
  obtain ⟨ko, kcap, rfl, hl1, hl2⟩ := hT.shape
  have HS := Lib.hid hS; have HK := Lib.hid hK; have HT := Lib.hid hT; have HL := Lib.hid hL
  clear hS hK hT hL
  rw [← hn] at hc1 HS HL ⊢
  have HN := Lib.hid hn
  obtain ⟨m, hm⟩ : ∃ m, m = t.k.length := ⟨_, rfl⟩
  rw [← hm] at hl1 HT ⊢
  have HM := Lib.hid hm
  obtain ⟨tn, htn⟩ : ∃ n, n = t.n := ⟨_, rfl⟩
  obtain ⟨ts, hts⟩ : ∃ s, s = t.s := ⟨_, rfl⟩
  obtain ⟨K, hKK⟩ : ∃ k, k = t.k := ⟨_, rfl⟩
  obtain ⟨ks, hks⟩ : ∃ ks, ks = kidsU (parents l) l.length f := ⟨_, rfl⟩
  obtain ⟨q, hq⟩ : ∃ q, q = ks.length := ⟨_, rfl⟩
  have hqn : q ≤ n := by rw [hq, hks, hn]; exact kidsU_len _ _ _
  have HE := Lib.hid (show fitV l f t = if tn ≠ 0 ∨ ts ≠ ByteArray.empty ∨ m ≠ q then 13 else fitG l ks K by rw [fitV_group hk0, htn, hts, hm, hq, hks, hKK])
  have HKS := Lib.hid (show ∀ x ∈ ks, ∃ i : Nat, x = (i : Int) ∧ i < n from fun x hx => by
    rw [hks] at hx
    obtain ⟨i, h1, h2, -⟩ := kidsU_mem' hx
    exact ⟨i, h1, by rw [hn]; exact h2⟩)
  rw [← htn, ← hts]
  rw [← hKK] at HT HM
  have HQ := Lib.hid hq
  clear hn hm htn hts hKK hk0
  have hmx : m ≤ maxLen := by omega
  have hmx2 : m ≤ 9223372036854775807 := by unfold maxLen at hmx; omega
  have hnx : n ≤ 9223372036854775807 := by unfold maxLen at hc2; omega
  have hb0 : ((w.alloc (.cells #[.slice ao n cap, .slice (some ⟨gi, 0, none⟩) n n] 169)).alloc (.cells #[.int .i64 tn, .string ts, .slice ko m kcap] 57)).cell? ⟨w.heap.size, 0, none⟩ = some (.slice ao n cap) := by
    rw [World.cell?_alloc_lt _ _ _ (by simp)]; simp
  have hb1 : ((w.alloc (.cells #[.slice ao n cap, .slice (some ⟨gi, 0, none⟩) n n] 169)).alloc (.cells #[.int .i64 tn, .string ts, .slice ko m kcap] 57)).cell? ⟨w.heap.size, 1, none⟩ = some (.slice (some ⟨gi, 0, none⟩) n n) := by
    rw [World.cell?_alloc_lt _ _ _ (by simp)]; simp
  have ht0 : ((w.alloc (.cells #[.slice ao n cap, .slice (some ⟨gi, 0, none⟩) n n] 169)).alloc (.cells #[.int .i64 tn, .string ts, .slice ko m kcap] 57)).cell? ⟨w.heap.size + 1, 0, none⟩ = some (.int .i64 tn) := by simp
  have ht1 : ((w.alloc (.cells #[.slice ao n cap, .slice (some ⟨gi, 0, none⟩) n n] 169)).alloc (.cells #[.int .i64 tn, .string ts, .slice ko m kcap] 57)).cell? ⟨w.heap.size + 1, 1, none⟩ = some (.string ts) := by simp
  have ht2 : ((w.alloc (.cells #[.slice ao n cap, .slice (some ⟨gi, 0, none⟩) n n] 169)).alloc (.cells #[.int .i64 tn, .string ts, .slice ko m kcap] 57)).cell? ⟨w.heap.size + 1, 2, none⟩ = some (.slice ko m kcap) := by simp
  obtain ⟨w1, hw1⟩ : ∃ w1, w1 = (w.alloc (.cells #[.slice ao n cap, .slice (some ⟨gi, 0, none⟩) n n] 169)).alloc (.cells #[.int .i64 tn, .string ts, .slice ko m kcap] 57) := ⟨_, rfl⟩
  have HC1 := Lib.hid (show Chg [] w w1 by rw [hw1]; exact ((Chg.refl [] w).alloc _).alloc _)
  rw [← hw1] at hb0 hb1 ht0 ht1 ht2
  obtain ⟨b, hb⟩ : ∃ b, b = w.heap.size := ⟨_, rfl⟩
  have hsz : w1.heap.size = b + 2 := by rw [hw1, hb]; simp
  have HW1 := Lib.hid hw1
  rw [← hb] at hb0 hb1 ht0 ht1 ht2
  obtain ⟨kkv, hkc, hki⟩ := (HK.out.chg HC1.out).cellAt (j := f) (by rw [← HN.out]; exact hf)
  rw [← hks] at hki
  obtain ⟨qo, qcap, rfl, hq1, hq2⟩ := hki.shape
  rw [← hq] at hq1 hki hkc
  have HKI := Lib.hid hki
  have HB := Lib.hid (show w1.cell? ⟨b, 0, none⟩ = some (.slice ao n cap) ∧ w1.cell? ⟨b, 1, none⟩ = some (.slice (some ⟨gi, 0, none⟩) n n) ∧ w1.cell? ⟨b + 1, 2, none⟩ = some (.slice ko m kcap) from ⟨hb0, hb1, ht2⟩)
  clear hki hks hq hw1
  go_enter Try.func111, Try.ntmps111
  go_upto_region 1 with fail
  rw [← hb, ← HW1.out]
  clear hb
  by_cases h1 : tn = 0
  case neg =>
    have d1 : (tn != 0) = true := by simpa using h1
    have E := Lib.hid (show fitV l f t = 13 by rw [HE.out, if_pos (.inl h1)])
    clear HE
    go_wp2
    go_ret
    exact ⟨ret_int E.out.symm, HC1.out⟩
  have d1 : (tn != 0) = false := by simpa using h1
  by_cases h2 : ts = ByteArray.empty
  case neg =>
    have hs1 : ¬ ts.toList = [] := fun h => h2 (empty_list.1 h)
    have hs2 : ts.toList.isEmpty = false := by simpa using hs1
    have E := Lib.hid (show fitV l f t = 13 by rw [HE.out, if_pos (.inr (.inl h2))])
    clear HE h1 h2
    go_wp2
    go_ret
    exact ⟨ret_int E.out.symm, HC1.out⟩
  by_cases h3 : m = q
  case neg =>
    have e1 : ((m : Int) != (q : Int)) = true := by simp; omega
    have e2 : ¬ ((m : Int) = (q : Int)) := by omega
    have E := Lib.hid (show fitV l f t = 13 by rw [HE.out, if_pos (.inr (.inr h3))])
    subst h2
    clear HE h1
    go_wp2
    go_ret
    exact ⟨ret_int E.out.symm, HC1.out⟩
  have HE2 := Lib.hid (show fitV l f t = fitG l ks K by rw [HE.out, if_neg (by rintro (h | h | h); exact h h1; exact h h2; exact h h3)])
  subst h2 h3
  clear HE h1
  go_wp2
  go_loopw [34] (fun s wx => ∃ j : Nat, s = .int .i64 (j : Int) ∧ j ≤ m ∧ Chg [] w1 wx ∧ fitV l f t = fitG l (ks.drop j) (K.drop j)) (fun s _ => m - (intOf s).toNat)
  case atStart => exact ⟨0, rfl, Nat.zero_le _, Chg.refl _ _, HE2.out⟩
  case round =>
    obtain ⟨j, rfl, hj, hC, hE⟩ := hrel
    have HC := Lib.hid hC; have HE := Lib.hid hE
    clear hb0 hb1 ht0 ht1 ht2 hkc
    have hb0 := hC.cell HB.out.1 (by simp)
    have hb1 := hC.cell HB.out.2.1 (by simp)
    have ht2 := hC.cell HB.out.2.2 (by simp)
    clear hC hE
    by_cases hlt : j < m
    · obtain ⟨gq, qoff, rfl, hcq⟩ := SeenI.get (HKI.out.keep HC.out) (by omega) HQ.out.symm
      have hqc := hcq j hlt
      obtain ⟨x, hx⟩ : ∃ x, ks[j]? = some x := ⟨_, List.getElem?_eq_getElem (by rw [← HQ.out]; exact hlt)⟩
      obtain ⟨i, rfl, hi⟩ := HKS.out x (List.mem_of_getElem? hx)
      rw [List.getD, hx, Option.getD_some] at hqc
      obtain ⟨y, hy⟩ : ∃ y, K[j]? = some y := ⟨_, List.getElem?_eq_getElem (by rw [← HM.out]; exact hlt)⟩
      have HCW := Lib.hid (HC1.out.trans HC.out (by simp))
      obtain ⟨d', gk, koff, hd, rfl, hck⟩ := KidsAt.get (HT.out.keep HCW.out) (by omega)
      obtain ⟨lv, hlc, hll⟩ := hck j y hy
      have e : d = d' := by omega
      subst e
      have HD := Lib.hid (fitG_drop (l := l) hy hx)
      have HLL := Lib.hid hll
      obtain ⟨lo, lcap, rfl, -, -⟩ := hll.shape
      have HLT := Lib.hid (fun wx hk => HL.out i y _ wx hi (HS.out.keep (HCW.out.trans hk (by simp))) (HK.out.chg (HCW.out.trans hk (by simp))) (HLL.out.keep hk))
      clear hcq hck hll hx hy hd
      go_upto_region 7 with fail
      go_still_tail 7, (by kernel_rfl)
      change wpList _ _ _ _ _ _
      go_wp2_with (first
        | (go_at_call 114; (with_reducible refine (HLT.out _ (Chg.refl [] wr).drew).mono ?_); rintro e w3 ⟨rfl, hk3⟩; have HC3 := Lib.hid (HC.out.trans ((Chg.refl [] wr).drew.trans hk3 (by simp)) (by simp)); clear hk3; obtain ⟨u, hu⟩ : ∃ u, u = listE l i y := ⟨_, rfl⟩; rw [← hu] at HD ⊢; clear hu; by_cases hu0 : u = 0)
        | fail)
      · subst hu0
        go_roundw
        case rel => exact ⟨j + 1, by go_num, by omega, HC3.out, by rw [HE.out, HD.out]; rfl⟩
        case measure => simp [intOf]; omega
      · have e1 : (u != 0) = true := by simpa using hu0
        have E := Lib.hid (show fitV l f t = u by rw [HE.out, HD.out]; unfold orE; rw [if_pos hu0])
        go_wp2
        go_ret
        exact ⟨ret_int E.out.symm, HC1.out.trans HC3.out (by simp)⟩
    · have ej : j = m := by omega
      have E := Lib.hid (show fitV l f t = 0 by rw [HE.out, ej, HM.out]; exact fitG_end _ _ _)
      clear ej
      go_wp2
      go_ret
      exact ⟨ret_int E.out.symm, HC1.out.trans HC.out (by simp)⟩

set_option maxRecDepth 100000 in
set_option maxHeartbeats 1000000 in
theorem fvalue_step (l : List F) (sv : Value) (gi n d : Nat) (hn : n = l.length) (hn1 : n ≤ 1000) (hG : FGrp l sv gi n d) : FVal l sv gi n d := by
  intro f t kv w hf hS hK hT
  obtain ⟨ao, cap, rfl, hc1, hc2⟩ := hS.shape
  obtain ⟨ko, kcap, rfl, hl1, hl2⟩ := hT.shape
  have HS := Lib.hid hS; have HK := Lib.hid hK; have HT := Lib.hid hT; have HG := Lib.hid hG
  clear hS hK hT hG
  rw [← hn] at hc1 HS HG ⊢
  have HN := Lib.hid hn
  have hb0 : ((w.alloc (.cells #[.slice ao n cap, .slice (some ⟨gi, 0, none⟩) n n] 169)).alloc (.cells #[.int .i64 t.n, .string t.s, .slice ko t.k.length kcap] 57)).cell? ⟨w.heap.size, 0, none⟩ = some (.slice ao n cap) := by
    rw [World.cell?_alloc_lt _ _ _ (by simp)]; simp
  have hb1 : ((w.alloc (.cells #[.slice ao n cap, .slice (some ⟨gi, 0, none⟩) n n] 169)).alloc (.cells #[.int .i64 t.n, .string t.s, .slice ko t.k.length kcap] 57)).cell? ⟨w.heap.size, 1, none⟩ = some (.slice (some ⟨gi, 0, none⟩) n n) := by
    rw [World.cell?_alloc_lt _ _ _ (by simp)]; simp
  have ht0 : ((w.alloc (.cells #[.slice ao n cap, .slice (some ⟨gi, 0, none⟩) n n] 169)).alloc (.cells #[.int .i64 t.n, .string t.s, .slice ko t.k.length kcap] 57)).cell? ⟨w.heap.size + 1, 0, none⟩ = some (.int .i64 t.n) := by simp
  have ht1 : ((w.alloc (.cells #[.slice ao n cap, .slice (some ⟨gi, 0, none⟩) n n] 169)).alloc (.cells #[.int .i64 t.n, .string t.s, .slice ko t.k.length kcap] 57)).cell? ⟨w.heap.size + 1, 1, none⟩ = some (.string t.s) := by simp
  have ht2 : ((w.alloc (.cells #[.slice ao n cap, .slice (some ⟨gi, 0, none⟩) n n] 169)).alloc (.cells #[.int .i64 t.n, .string t.s, .slice ko t.k.length kcap] 57)).cell? ⟨w.heap.size + 1, 2, none⟩ = some (.slice ko t.k.length kcap) := by simp
  obtain ⟨w1, hw1⟩ : ∃ w1, w1 = (w.alloc (.cells #[.slice ao n cap, .slice (some ⟨gi, 0, none⟩) n n] 169)).alloc (.cells #[.int .i64 t.n, .string t.s, .slice ko t.k.length kcap] 57) := ⟨_, rfl⟩
  have HC1 := Lib.hid (show Chg [] w w1 by rw [hw1]; exact ((Chg.refl [] w).alloc _).alloc _)
  rw [← hw1] at hb0 hb1 ht0 ht1 ht2
  obtain ⟨b, hb⟩ : ∃ b, b = w.heap.size := ⟨_, rfl⟩
  have HW1 := Lib.hid hw1
  rw [← hb] at hb0 hb1 ht0 ht1 ht2
  obtain ⟨gs, off, rfl, hcs⟩ := SeenF.get (HS.out.keep HC1.out) (by omega) HN.out.symm
  obtain ⟨-, -, a3, -⟩ := hcs f hf
  have HGT := Lib.hid (fun hk0 wx (hk : Chg [] w1 wx) => HG.out f t _ wx hf hk0 (HS.out.keep (HC1.out.trans hk (by simp))) (HK.out.chg (HC1.out.trans hk (by simp))) (HT.out.keep (HC1.out.trans hk (by simp))))
  have HE := Lib.hid (fun h => fitV_leaf (l := l) (f := f) (t := t) h)
  obtain ⟨k, hk⟩ : ∃ k, k = (l.getD f default).k := ⟨_, rfl⟩
  rw [← hk] at a3 HGT HE
  have hnx : n ≤ 9223372036854775807 := by unfold maxLen at hc2; omega
  obtain ⟨V, hV⟩ : ∃ V, V = fitV l f t := ⟨_, rfl⟩
  rw [← hV] at HE HGT ⊢
  have HM := Lib.hid (show leafE k (.mk t.n t.s t.k) = leafE k t by rw [← t.eta])
  obtain ⟨tn, htn⟩ : ∃ n, n = t.n := ⟨_, rfl⟩
  obtain ⟨ts, hts⟩ : ∃ s, s = t.s := ⟨_, rfl⟩
  obtain ⟨m, hm⟩ : ∃ m, m = t.k.length := ⟨_, rfl⟩
  have HMM := Lib.hid hm
  rw [← htn, ← hts] at HM
  rw [← htn, ← hts, ← hm] at HGT HW1 ⊢
  rw [← htn] at ht0
  rw [← hts] at ht1
  rw [← hm] at ht2
  clear hcs hw1 hk hV hn htn hts hm HG
  go_enter Try.func108, Try.ntmps108
  go_upto_region 1 with fail
  rw [← hb, ← HW1.out]
  clear hb
  by_cases h0 : k = 0
  · subst h0
    have HGT2 := Lib.hid (HGT.out rfl _ (Chg.refl [] _))
    clear HE HGT
    go_wp2_with fail
    (with_reducible refine HGT2.out.mono ?_)
    rintro e w3 ⟨rfl, hk3⟩
    have HC3 := Lib.hid (HC1.out.trans hk3 (by simp))
    clear hk3
    go_wp2
    go_ret
    exact ⟨rfl, HC3.out⟩
  · have e0 : (k == 0) = false := by simpa using h0
    have E := Lib.hid (HE.out h0)
    clear HE HGT h0
    go_upto_region 3 with fail
    go_still_tail 7, (by kernel_rfl)
    change wpList _ _ _ _ _ _
    go_wp2_with (first
      | (go_at_call 112; (with_reducible refine (leaf_any k tn ts ko m kcap _ t.k HMM.out.symm).mono ?_); rintro e w3 ⟨rfl, hk3⟩; have HC3 := Lib.hid (HC1.out.trans ((Chg.refl [] _).drew.trans hk3 (by simp)) (by simp)); clear hk3)
      | fail)
    go_ret
    exact ⟨ret_int (by rw [E.out]; exact HM.out), HC3.out⟩

theorem fvalue_any (l : List F) (sv : Value) (gi n : Nat) (hn : n = l.length) (hn1 : n ≤ 1000) : ∀ d, FVal l sv gi n d
  | 0 => fun f t kv w _ _ _ hT => hT.elim
  | d + 1 => fvalue_step l sv gi n (d + 1) hn hn1 (fgroup_any l sv gi n d hn hn1 (flist_any l sv gi n d hn (fvalue_any l sv gi n hn hn1 d)))

theorem chk_len {l : List F} (h : chk l = 0) : 1 ≤ l.length ∧ l.length ≤ 40 := by
  unfold chk at h
  split at h
  · cases h
  · omega

/-- tree.Fits. -/
def fitsT (l : List F) (t : Tr) : Int := orE (chk l) (fitV l 0 t)

set_option maxRecDepth 100000 in
set_option maxHeartbeats 1000000 in
theorem fits_any (sv kv : Value) (l : List F) (t : Tr) (d : Nat) (w : World) (hS : SeenF w sv l) (hT : KidsAt w d t.k kv) (hw : ∀ f ∈ l, f.c ≤ 9223372036854775807) (hn : ∀ f ∈ l, f.n.size ≤ 1000) :
    Calls Try.prog 91 #[sv, tv t.n t.s kv] w fun e w' => e = .returned (.int .i64 (fitsT l t)) ∧ Chg [] w w' := by
  obtain ⟨ao, cap, rfl, hc1, hc2⟩ := hS.shape
  obtain ⟨ko, kcap, rfl, hl1, hl2⟩ := hT.shape
  have HS := Lib.hid hS; have HT := Lib.hid hT; have HW := Lib.hid hw
  have ht0 : (w.alloc (.cells #[.int .i64 t.n, .string t.s, .slice ko t.k.length kcap] 57)).cell? ⟨w.heap.size, 0, none⟩ = some (.int .i64 t.n) := by simp
  have ht1 : (w.alloc (.cells #[.int .i64 t.n, .string t.s, .slice ko t.k.length kcap] 57)).cell? ⟨w.heap.size, 1, none⟩ = some (.string t.s) := by simp
  have ht2 : (w.alloc (.cells #[.int .i64 t.n, .string t.s, .slice ko t.k.length kcap] 57)).cell? ⟨w.heap.size, 2, none⟩ = some (.slice ko t.k.length kcap) := by simp
  obtain ⟨b, hb⟩ : ∃ b, b = w.heap.size := ⟨_, rfl⟩
  obtain ⟨w1, hw1⟩ : ∃ w1, w1 = w.alloc (.cells #[.int .i64 t.n, .string t.s, .slice ko t.k.length kcap] 57) := ⟨_, rfl⟩
  have HC1 := Lib.hid (show Chg [] w w1 by rw [hw1]; exact (Chg.refl [] w).alloc _)
  have hbl : b < w1.heap.size := by rw [hw1, hb]; simp
  rw [← hw1, ← hb] at ht0 ht1 ht2
  have HB := Lib.hid (And.intro ht0 (And.intro ht1 ht2))
  have HCK := Lib.hid (check_any _ l w1 (HS.out.keep HC1.out) hw (fun f hf => Nat.le_trans (hn f hf) (by omega)))
  have HW1 := Lib.hid hw1
  have HE := Lib.hid (show fitsT l t = orE (chk l) (fitV l 0 t) from rfl)
  have HCH := Lib.hid (fun h => chk_len (l := l) h)
  obtain ⟨c, hc⟩ : ∃ c, c = chk l := ⟨_, rfl⟩
  rw [← hc] at HCK HE HCH
  obtain ⟨V, hV⟩ : ∃ V, V = fitsT l t := ⟨_, rfl⟩
  rw [← hV] at HE ⊢
  obtain ⟨n, hnn⟩ : ∃ n, n = l.length := ⟨_, rfl⟩
  rw [← hnn] at hc1 HS HCK HCH ⊢
  have HN := Lib.hid hnn
  obtain ⟨tn, htn⟩ : ∃ n, n = t.n := ⟨_, rfl⟩
  obtain ⟨ts, hts⟩ : ∃ s, s = t.s := ⟨_, rfl⟩
  obtain ⟨m, hm⟩ : ∃ m, m = t.k.length := ⟨_, rfl⟩
  have HTN := Lib.hid htn; have HTS := Lib.hid hts; have HM := Lib.hid hm
  rw [← htn, ← hts, ← hm] at HB HW1 ⊢
  clear hS hT hw hn hw1 ht0 ht1 ht2 hc hV hnn htn hts hm
  go_enter Try.func91, Try.ntmps91
  go_upto_region 1 with fail
  rw [← hb, ← HW1.out]
  clear hb
  go_wp2_with fail
  (with_reducible refine HCK.out.mono ?_)
  rintro e w2 ⟨rfl, hk2⟩
  have HC2 := Lib.hid (HC1.out.trans hk2 (by simp))
  have HB2 := Lib.hid (And.intro (hk2.cell HB.out.1 (by simp)) (And.intro (hk2.cell HB.out.2.1 (by simp)) (hk2.cell HB.out.2.2 (by simp))))
  have hbl2 : b < w2.heap.size := Nat.lt_of_lt_of_le hbl hk2.size
  clear hk2 hbl
  by_cases hc0 : c = 0
  · subst hc0
    have hln := HCH.out rfl
    have HE2 := Lib.hid (show V = fitV l 0 t by rw [HE.out]; rfl)
    have HK := Lib.hid (tkids_any _ l w2 (HS.out.keep HC2.out) (by rw [← HN.out]; omega) HW.out)
    rw [← HN.out] at HK
    clear HE
    go_wp2_with fail
    (with_reducible refine HK.out.mono ?_)
    rintro e w3 ⟨rfl, hkm, hk3⟩
    have HC3 := Lib.hid (HC2.out.trans hk3 (by simp))
    have HKM := Lib.hid hkm
    obtain ⟨ht0, ht1, ht2⟩ := HB2.out
    have ht0 := hk3.cell ht0 (by simp)
    have ht1 := hk3.cell ht1 (by simp)
    have ht2 := hk3.cell ht2 (by simp)
    have hbl3 : b < w3.heap.size := Nat.lt_of_lt_of_le hbl2 hk3.size
    have hbne : ¬ b = w3.heap.size := by omega
    have c0 : ∀ o, (w3.alloc o).cell? ⟨b, 0, none⟩ = some (.int .i64 tn) := fun o => ((Chg.refl [] w3).alloc o).cell ht0 (by simp)
    have c1 : ∀ o, (w3.alloc o).cell? ⟨b, 1, none⟩ = some (.string ts) := fun o => ((Chg.refl [] w3).alloc o).cell ht1 (by simp)
    have c2 : ∀ o, (w3.alloc o).cell? ⟨b, 2, none⟩ = some (.slice ko m kcap) := fun o => ((Chg.refl [] w3).alloc o).cell ht2 (by simp)
    have HFV := Lib.hid (fun o => fvalue_any l _ w2.heap.size n HN.out (by omega) d 0 t _ (w3.alloc o) (by omega) (HS.out.keep (HC3.out.alloc o)) (HKM.out.chg ((Chg.refl [] w3).alloc o)) (HT.out.keep (HC3.out.alloc o)))
    rw [← HTN.out, ← HTS.out, ← HM.out] at HFV
    simp only [show ((0 : Nat) : Int) = 0 from rfl] at HFV
    clear hk3 hkm ht0 ht1 ht2
    go_wp2_with fail
    (with_reducible refine (HFV.out _).mono ?_)
    rintro e w4 ⟨rfl, hk4⟩
    have HC4 := Lib.hid (HC3.out.trans (((Chg.refl [] w3).alloc _).trans hk4 (by simp)) (by simp))
    clear hk4
    go_wp2
    go_ret
    exact ⟨ret_int HE2.out.symm, HC4.out⟩
  · have e0 : (c != 0) = true := by simpa using hc0
    have E := Lib.hid (show V = c by rw [HE.out]; unfold orE; rw [if_pos hc0])
    go_wp2
    go_ret
    exact ⟨ret_int E.out.symm, HC2.out⟩

end Go.Proofs.Ytfdmbpfpdijpdaa

namespace Go.Proofs.Ytfdmbpfpdijpdaa
open Go.RowKit
set_option linter.unusedVariables false
set_option linter.unusedSimpArgs false

theorem orE_zero9 {a b : Int} (h : orE a b = 0) : a = 0 ∧ b = 0 := by
  unfold orE at h
  split at h
  · contradiction
  · rename_i h1; exact ⟨by simpa using h1, h⟩

theorem fitL_all9 {l : List F} {f : Nat} : ∀ {x : List Tr}, fitL l f x = 0 → ∀ u ∈ x, fitV l f u = 0
  | [], _, u, hu => by simp at hu
  | t :: r, h, u, hu => by
    rw [fitL] at h
    obtain ⟨h1, h2⟩ := orE_zero9 h
    rcases List.mem_cons.1 hu with rfl | hu
    · exact h1
    · exact fitL_all9 h2 u hu

/-- What fits. -/
def fitF : Fo → List (List Tr) → Prop
  | .nil, ks => ks = []
  | .leaf f t, ks => match ks with | [] => False | l :: r => timesE f.r l.length = 0 ∧ (∀ x ∈ l, leafE f.k x = 0) ∧ fitF t r
  | .group f k t, ks => match ks with | [] => False | l :: r => timesE f.r l.length = 0 ∧ (∀ x ∈ l, x.n = 0 ∧ x.s = ByteArray.empty ∧ fitF k x.k) ∧ fitF t r

theorem fitF_of (l : List F) : ∀ (fo : Fo) (i : Nat) (ks : List (List Tr)), HasK l i fo → fo.wf → fitG l (tops i fo) ks = 0 → ks.length = fo.num → fitF fo ks
  | .nil, i, ks, _, _, _, hn => List.eq_nil_of_length_eq_zero hn
  | .leaf f t, i, ks, ⟨h1, h2⟩, ⟨w1, w2, w3⟩, hf, hn => by
    cases ks with
    | nil => simp [Fo.num] at hn
    | cons x r =>
      rw [tops, fitG] at hf
      obtain ⟨h3, h4⟩ := orE_zero9 hf
      obtain ⟨h5, h6⟩ := orE_zero9 h3
      simp only [List.headD_cons, Int.toNat_natCast, List.tail_cons, h1] at h4 h5 h6
      refine ⟨h5, fun u hu => ?_, fitF_of l t (i + 1) r h2 w3 h4 (by simpa [Fo.num] using hn)⟩
      have := fitL_all9 h6 u hu
      rw [fitV_leaf (by rw [h1]; omega), h1] at this
      exact this
  | .group f k t, i, ks, ⟨h1, hk, h2, h2'⟩, ⟨w1, w2, w3, w4⟩, hf, hn => by
    cases ks with
    | nil => simp [Fo.num] at hn
    | cons x r =>
      rw [tops, fitG] at hf
      obtain ⟨h3, h4⟩ := orE_zero9 hf
      obtain ⟨h5, h6⟩ := orE_zero9 h3
      simp only [List.headD_cons, Int.toNat_natCast, List.tail_cons, h1] at h4 h5 h6
      refine ⟨h5, fun u hu => ?_, fitF_of l t (i + 1 + k.flat.length) r h2' w4 h4 (by simpa [Fo.num] using hn)⟩
      have := fitL_all9 h6 u hu
      rw [fitV_group (by rw [h1]; exact w1), hk] at this
      split at this
      · contradiction
      · rename_i h7
        rw [tops_len] at h7
        have h8 : u.n = 0 ∧ u.s = ByteArray.empty ∧ u.k.length = k.num := by
          refine ⟨?_, ?_, ?_⟩
          · exact Decidable.byContradiction fun e => h7 (.inl e)
          · exact Classical.byContradiction fun e => h7 (.inr (.inl e))
          · exact Decidable.byContradiction fun e => h7 (.inr (.inr e))
        exact ⟨h8.1, h8.2.1, fitF_of l k (i + 1) u.k h2 w3 this h8.2.2⟩

end Go.Proofs.Ytfdmbpfpdijpdaa

namespace Go.Proofs.Ytfdmbpfpdijpdaa
open Go.RowKit
set_option linter.unusedVariables false

theorem fits_mk (sv kv : Value) (l : List F) (n : Int) (s : ByteArray) (K : List (List Tr)) (d : Nat) (w : World) (hS : SeenF w sv l) (hT : KidsAt w d K kv) (hw : ∀ f ∈ l, f.c ≤ 9223372036854775807) (hn : ∀ f ∈ l, f.n.size ≤ 1000) :
    Calls Try.prog 91 #[sv, tv n s kv] w fun e w' => e = .returned (.int .i64 (fitsT l (.mk n s K))) ∧ Chg [] w w' := fits_any sv kv l (.mk n s K) d w hS hT hw hn

/-- A row of lists in a block. -/
theorem kidsAt_lit {w : World} {g d n : Nat} {T : TypeId} {C : Array Value} {fr : Nat × Nat} (hb : w.heap[g]? = some (.cells C T fr)) (R : List (List Tr × Value)) (hC : C.toList = R.map (·.2)) (hn : R.length = n) (hm : n ≤ maxLen) (h : ∀ p ∈ R, ListAt w d p.1 p.2) : KidsAt w (d + 1) (R.map (·.1)) (.slice (some ⟨g, 0, none⟩) n n) :=
  kidsAt_succ.2 ⟨R, rfl, SeenK.lit encR_len hb R n (by rw [hC]; clear h hn hC; induction R with | nil => rfl | cons p r ih => simp [encR, ih]) hn hm, h⟩

/-- A row of trees in a block. -/
theorem listAt_lit {w : World} {g d n : Nat} {T : TypeId} {C : Array Value} {fr : Nat × Nat} (hb : w.heap[g]? = some (.cells C T fr)) (E : List (Tr × Value)) (hC : C.toList = E.flatMap encT) (hn : E.length = n) (hm : n ≤ maxLen) (h : ∀ p ∈ E, KidsAt w d p.1.k p.2) : ListAt w d (E.map (·.1)) (.slice (some ⟨g, 0, none⟩) n n) :=
  ⟨E, rfl, SeenK.lit encT_len hb E n hC hn hm, h⟩

theorem kids_nil {w : World} {d : Nat} : KidsAt w (d + 1) [] nilS := kidsAt_nil ⟨none, 0, rfl, by decide⟩
theorem list_nil {w : World} {d : Nat} : ListAt w d [] nilS := listAt_nil ⟨none, 0, rfl, by decide⟩

/-- The empty text, as the walk writes it. -/
abbrev eS : ByteArray := { data := #[] }
theorem eS_eq : ByteArray.empty = eS := rfl

def bm8 : ByteArray := { data := #[109] }
def ba8 : ByteArray := { data := #[97] }
def bb8 : ByteArray := { data := #[98] }

def kl8 : List F := [⟨bm8, 0, 0, 1⟩, ⟨ba8, 1, 1, 0⟩]
set_option maxRecDepth 100000 in
theorem kl8_fits : fitsT kl8 (.mk 0 ByteArray.empty [[]]) = 0 ∧ fitsT kl8 (.mk 0 ByteArray.empty []) = 13 := by decide +kernel

theorem orE_zero (a : Int) : orE a 0 = a := by unfold orE; split <;> simp_all

theorem fitL_zero {l : List F} {f : Nat} : ∀ {x : List Tr}, (∀ t ∈ x, fitV l f t = 0) → fitL l f x = 0
  | [], _ => by rw [fitL]
  | t :: r, h => by
    rw [fitL, h t (by simp), fitL_zero fun u hu => h u (by simp [hu])]
    rfl

theorem fit_one {l : List F} (h0 : (l.getD 0 default).k = 0) (hk : kidsU (parents l) l.length 0 = [1]) (x : List Tr) : fitV l 0 (.mk 0 ByteArray.empty [x]) = listE l 1 x := by
  rw [fitV_group h0, hk]
  have e : ¬ ((Tr.mk 0 ByteArray.empty [x]).n ≠ 0 ∨ (Tr.mk 0 ByteArray.empty [x]).s ≠ ByteArray.empty ∨ (Tr.mk 0 ByteArray.empty [x]).k.length ≠ [(1 : Int)].length) := by simp
  rw [if_neg e, Tr.k_mk, fitG, fitG]
  simp [listE, orE_zero]

theorem fit_two {l : List F} (h0 : (l.getD 0 default).k = 0) (hk : kidsU (parents l) l.length 0 = [1, 2]) (x y : List Tr) : fitV l 0 (.mk 0 ByteArray.empty [x, y]) = orE (listE l 1 x) (listE l 2 y) := by
  rw [fitV_group h0, hk]
  have e : ¬ ((Tr.mk 0 ByteArray.empty [x, y]).n ≠ 0 ∨ (Tr.mk 0 ByteArray.empty [x, y]).s ≠ ByteArray.empty ∨ (Tr.mk 0 ByteArray.empty [x, y]).k.length ≠ [(1 : Int), 2].length) := by simp
  rw [if_neg e, Tr.k_mk, fitG, fitG, fitG]
  simp [listE, orE_zero]

end Go.Proofs.Ytfdmbpfpdijpdaa
