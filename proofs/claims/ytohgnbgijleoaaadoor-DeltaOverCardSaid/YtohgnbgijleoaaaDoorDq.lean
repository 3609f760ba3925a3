/- append of so many noughts onto what is one's own; what Decode answers of two numbers, of a length. -/
import Derived.Test.YtohgnbgijleoaaaDoorE4
import Derived.Test.YtohgnbgijleoaaaDoorHm
namespace Go.Proofs.YtohgnbgijleoaaaDoor
open Go.RowKit
set_option linter.unusedVariables false
set_option linter.unusedSimpArgs false

theorem noughts_cells (k : Nat) : ((str (List.replicate k 0)).extract 0 k).data.map (fun b : UInt8 => Value.int .u8 (b.toNat : Int)) = Builtin.zeroCells (Value.cells (.int .u8 0)) k := by
  apply Array.ext'
  rw [zero8]
  have e : (str (List.replicate k 0)).extract 0 k = str (List.replicate k 0) := by
    have h := str_size (List.replicate k 0)
    rw [List.length_replicate] at h
    apply ByteArray.ext
    simp [str]
  rw [e]
  simp [str, nv]

theorem append_make_str {P : Program} (w : World) (t tx tu ty e : TypeId) (i : TypeInfo) (z : Value) (ht : P.underlying t = some (.slice e)) (htx : P.underlying tx = some (.int .i64)) (hu : P.underlying tu = some .string) (hi : P.info? e = some i) (hz : i.zero = some (.int .u8 0)) (hsize : i.size = 1) (hby : i.bytes = 1)
    (base : Option Addr) (sLen sCap k : Nat) (hb : sLen + k ≤ 1000000) :
    (Builtin.append_ #[t, tx] ty #[.slice base sLen sCap, .int .i64 (k : Int)]).run P w = (Builtin.append_ #[t, tu] ty #[.slice base sLen sCap, .string (str (List.replicate k 0))]).run P w := by
  have hS : (str (List.replicate k 0)).size = k := by rw [str_size, List.length_replicate]
  have hC := noughts_cells k
  obtain ⟨S, hSS⟩ : ∃ S, S = str (List.replicate k 0) := ⟨_, rfl⟩
  rw [← hSS] at hS hC ⊢
  have hC1 : List.take k (List.map (fun b : UInt8 => Value.int .u8 (b.toNat : Int)) S.data.toList) = (Builtin.zeroCells (Value.cells (.int .u8 0)) k).toList := by
    rw [← hC]; simp
  have hC2 : (Array.map (fun b : UInt8 => Value.int .u8 (b.toNat : Int)) S.data).extract 0 k = Builtin.zeroCells (Value.cells (.int .u8 0)) k := by
    rw [← hC]; simp
  have h63' : ¬ (9223372036854775807 < ((sLen : Int) + (k : Int))) := by omega
  have hw : IntKind.i64.wrap (k : Int) = (k : Int) := IntWalk.i64_in _ (by omega)
  have hw2 : Go.RowKit.wrap64 (k : Int) = (k : Int) := by unfold Go.RowKit.wrap64; omega
  have hneg : ¬ ((k : Int) < 0) := by omega
  have hbig : ¬ (281474976710656 < (k : Int)) := by omega
  have hk0 : k = 0 → Builtin.zeroCells (Value.cells (.int .u8 0)) k = #[] := by rintro rfl; simp [Builtin.zeroCells]
  clear hSS
  have hw0 : IntKind.i64.wrap 0 = 0 := by decide
  have hw1 : Go.RowKit.wrap64 0 = 0 := by unfold Go.RowKit.wrap64; omega
  by_cases hk : k = 0
  · have hz0 := hk0 hk
    rw [hz0] at hC hC1 hC2
    subst hk
    by_cases hn : sLen ≤ sCap
    · simp [Builtin.append_, run_underlying ht, run_underlying htx, run_underlying hu, sizeOf, typeInfo, zeroValue, hi, hz, Builtin.lenOf, Builtin.firstCells, hn, asInt, asIntOf, hw0, hw1, hsize, hby, hS, hC, hC1, hC2]
    · have hfit := growslice_fits (bytes := 1) (show sCap < sLen by omega) (by omega)
      have h48' : ¬ (281474976710656 < Builtin.nextslicecap sLen sCap) := by omega
      have h63 : ¬ (9223372036854775807 < (sLen : Int)) := by omega
      simp [Builtin.append_, run_underlying ht, run_underlying htx, run_underlying hu, sizeOf, typeInfo, zeroValue, hi, hz, Builtin.lenOf, Builtin.firstCells, hn, h63, h48', asInt, asIntOf, hw0, hw1, hsize, hby, hS, hC, hC1, hC2]
  · by_cases hn : sLen + k ≤ sCap
    · simp [Builtin.append_, run_underlying ht, run_underlying htx, run_underlying hu, sizeOf, typeInfo, zeroValue, hi, hz, Builtin.lenOf, Builtin.firstCells, hn, h63', asInt, asIntOf, hw, hw2, hneg, hbig, hsize, hby, hk, hS, hC, hC1, hC2]
    · have hfit := growslice_fits (bytes := 1) (show sCap < sLen + k by omega) (by omega)
      have h48' : ¬ (281474976710656 < Builtin.nextslicecap (sLen + k) sCap) := by omega
      simp [Builtin.append_, run_underlying ht, run_underlying htx, run_underlying hu, sizeOf, typeInfo, zeroValue, hi, hz, Builtin.lenOf, Builtin.firstCells, hn, h63', h48', asInt, asIntOf, hw, hw2, hneg, hbig, hsize, hby, hk, hS, hC, hC1, hC2]

theorem wpList_append_noughts {w : World} {ops : Array Oper} {rest : List Oper} {o : Oper} {a : Act} {Q : Exit → Act → World → Prop} (hgd : o.guard = none) (s x : Operand)
    (ho : o.op = .call { callee := .builtin .append, args := #[s, x], argTypes := #[26, 3] }) (base : Nat) (v : Value) (n : Nat) (l : List Nat) (hs : a.eval s = v) (hown : w.ownsRow base 5 1 v n (nv .u8 l)) (k : Nat) (hx : a.eval x = .int .i64 (k : Int)) (hb : n + k ≤ 1000000) (hbase : base ≤ w.heap.size)
    (h : ∀ v' w', w'.ownsRow base 5 1 v' (n + k) (nv .u8 (l ++ List.replicate k 0)) → w.grownBy w' v.ownBlock → wpList Tryd.prog ops Q rest (a.put o.dst v') w') : wpList Tryd.prog ops Q (o :: rest) a w := by
  obtain ⟨i0, hi, hz0, hz1, hz2⟩ := info_u8
  obtain ⟨so, sc, rfl⟩ := own_shape hown
  have hsz : (str (List.replicate k 0)).size = k := by rw [str_size, List.length_replicate]
  obtain ⟨v', w', hrun, r1, r2, -⟩ := Go.Lib.run_append_own_string (P := Tryd.prog) w base 26 9 o.type 5 i0 Tryd.underlying26 Tryd.underlying9 hi hz0 hz1 hz2 _ n _ hown (str (List.replicate k 0)) (by unfold maxLen; omega) (by omega) hbase
  rw [← append_make_str (P := Tryd.prog) w 26 3 9 o.type 5 i0 (.int .u8 0) Tryd.underlying26 Tryd.underlying3 Tryd.underlying9 hi hz0 hz1 hz2 so n sc k hb] at hrun
  have e : Go.Lib.strCells (str (List.replicate k 0)) = nv .u8 (List.replicate k 0) := by
    simp [Go.Lib.strCells, nv, str]
  rw [e, hsz, show nv .u8 l ++ nv .u8 (List.replicate k 0) = nv .u8 (l ++ List.replicate k 0) by simp [nv]] at r1
  refine wpList_plain hgd fun K hK => ?_
  unfold Oper.wp execOp
  simp only [ho, resolve, invoke, builtin, Sem.run_bind, Sem.run_pure, Result.andThen_ok, List.map_toArray, List.map_cons, List.map_nil, hs, hx, hrun]
  exact hK _ _ (h v' w' r1 r2)

/-- Two numbers, as lesser numbers. -/
theorem dec_two (n : Int) (hn : In64 n) : decD12 2 2 (intsE [n, 5]) = if -2147483648 ≤ n ∧ n ≤ 2147483647 then ([⟨n, e0⟩, ⟨5, e0⟩], 0) else ([], 14) := by
  have h := read_ints [n, 5] (fun x hx => by
    simp at hx
    rcases hx with rfl | rfl
    · exact hn
    · unfold In64; omega) (by simp) []
  rw [List.append_nil] at h
  have h : readD (intsE [n, 5]) 2 = ([n, 5], (intsE [n, 5]).length, 0) := h
  unfold decD12
  rw [if_pos (by omega), show sg12 (2 : Int).toNat = [115] from rfl]
  have hf : frD [115] 2 [] (intsE [n, 5]) = if -2147483648 ≤ n ∧ n ≤ 2147483647 then (0, [⟨n, e0⟩, ⟨5, e0⟩], []) else (14, [], []) := by
    have hd : dpE 115 2 [] (intsE [n, 5]) = (numE (-2147483648) 2147483647 14 ([n, 5], (intsE [n, 5]).length, 0), nV [n, 5], (intsE [n, 5]).drop (intsE [n, 5]).length) := by
      unfold dpE; rw [if_pos rfl, h]
    simp only [frD]
    rw [hd]
    by_cases hr : -2147483648 ≤ n ∧ n ≤ 2147483647
    · have hg : numE (-2147483648) 2147483647 14 ([n, 5], (intsE [n, 5]).length, 0) = 0 := numE_good (by simp [hr])
      rw [hg, if_pos rfl, if_pos hr, List.drop_length]
      rfl
    · have hg : numE (-2147483648) 2147483647 14 ([n, 5], (intsE [n, 5]).length, 0) = 14 := numE_bad (by simp; omega)
      rw [hg, if_neg (by simp), if_neg hr]
  rw [hf]
  by_cases hr : -2147483648 ≤ n ∧ n ≤ 2147483647
  · rw [if_pos hr, if_pos hr]; rfl
  · rw [if_neg hr, if_neg hr]; rfl

/-- One length, and as many noughts. -/
theorem dec_long (m : Int) (hm : -100 ≤ m ∧ m ≤ 200) (r : List Nat) (hr : (r.length : Int) = max m 0) : decD12 4 1 (intsE [m] ++ r) = if 0 ≤ m ∧ m ≤ 100 then ([⟨0, str r⟩], 0) else ([], 5) := by
  have h := read_ints [m] (fun x hx => by
    simp at hx
    subst hx
    unfold In64; omega) (by simp) r
  have h : readD (intsE [m] ++ r) 1 = ([m], (intsE [m]).length, 0) := h
  unfold decD12
  rw [if_pos (by omega), show sg12 (4 : Int).toNat = [108, 116] from rfl]
  have hf : frD [108, 116] 1 [] (intsE [m] ++ r) = if 0 ≤ m ∧ m ≤ 100 then (0, [⟨0, str r⟩], []) else (5, [], []) := by
    have hd : dpE 108 1 [] (intsE [m] ++ r) = (numE 0 100 5 ([m], (intsE [m]).length, 0), nV [m], (intsE [m] ++ r).drop (intsE [m]).length) := by
      unfold dpE; rw [if_neg (by decide), if_pos rfl, h]
    rw [frD, hd]
    by_cases hb : 0 ≤ m ∧ m ≤ 100
    · have hg : numE 0 100 5 ([m], (intsE [m]).length, 0) = 0 := numE_good (by simp [hb])
      rw [hg, if_pos rfl, if_pos hb]
      have ed : (intsE [m] ++ r).drop (intsE [m]).length = r := by simp
      have ht : dpE 116 1 (nV [m]) r = (0, [⟨0, str r⟩], []) := by
        unfold dpE
        rw [if_neg (by decide), if_neg (by decide), if_pos rfl]
        show txS [⟨m, e0⟩] r = _
        simp only [txS]
        rw [if_neg (by omega), List.take_of_length_le (by omega), List.drop_of_length_le (by omega)]
      rw [ed]
      show frD [116] 1 (nV [m]) r = _
      rw [frD, ht, if_pos rfl]
      rfl
    · have hg : numE 0 100 5 ([m], (intsE [m]).length, 0) = 5 := numE_bad (by simp; omega)
      rw [hg, if_neg (by simp), if_neg hb]
  rw [hf]
  by_cases hb : 0 ≤ m ∧ m ≤ 100
  · rw [if_pos hb, if_pos hb]; rfl
  · rw [if_neg hb, if_neg hb]; rfl

end Go.Proofs.YtohgnbgijleoaaaDoor
