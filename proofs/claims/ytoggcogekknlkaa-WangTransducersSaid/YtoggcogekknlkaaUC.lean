import Derived.KernelRfl
import Derived.Laws.BytesArg
import Derived.Laws.StructEq
import Derived.Test.YtoggcogekknlkaaRows
import Derived.WalkKit
import Derived.Test.YtoggcogekknlkaaAmB
import Derived.Test.YtoggcogekknlkaaAmModel
import Derived.Test.YtoggcogekknlkaaAmOps5
import Derived.Test.YtoggcogekknlkaaAmOps6
import Derived.Test.YtoggcogekknlkaaAmCode
import Derived.Test.YtoggcogekknlkaaAmX
import Derived.Test.YtoggcogekknlkaaAmEq
import Derived.Test.YtoggcogekknlkaaRBase
import Derived.Test.YtoggcogekknlkaaR96
import Derived.Test.YtoggcogekknlkaaR127
import Derived.Test.YtoggcogekknlkaaAmS
import Derived.Test.YtoggcogekknlkaaS16
import Derived.Test.YtoggcogekknlkaaS17
import Derived.Test.YtoggcogekknlkaaWB
import Derived.Test.YtoggcogekknlkaaSA
import Derived.Test.YtoggcogekknlkaaSL
set_option linter.unusedVariables false
set_option linter.unusedSimpArgs false
set_option linter.unusedSectionVars false
namespace Go.AM
open Go Go.Proofs
theorem r83_L0_s (call : CallF) (fuel base : Nat) (kx0 : Value → Value → M → Res2) (n : Nat) (x3 x5 x15 x16 x17 : Value) (m : M) : r83_L0 call fuel base kx0 (n + 1) x3 x5 x15 x16 x17 m =
    (k1n (mbin E .lss 3 x17 x16) fun v18_6 => (kb v18_6 (k1n (mindexAddr E.P 74 x15 x17) fun v19_7 => (k1n (xload E.P m 109 v19_7) fun v20_8 => (k2 (xalloc E.P m 109) fun v7_9 m => (ks (xstore E.P base m 109 v7_9 v20_8) fun m => (k1n (mfieldAddr E.P 109 v7_9 2) fun v22_10 => (k1n (xload E.P m 3 v22_10) fun v23_11 => (k2 (xbuildSlice E.P m 33 1 [(0, v23_11)]) fun v24_12 m => (k2 (vcalln E.P base m .append [33, 33] [x5, v24_12]) fun v25_13 m => (k1n (mbin E .add 3 x17 (.int .i64 1)) fun v26_14 => (r83_L0 call fuel base kx0 n x3 v25_13 x15 x16 v26_14 m)))))))))) (kx0 x3 x5 m))) := by
  unfold r83_L0
  rw [k1_fun, vcall_fun]
theorem r83_L2_s (call : CallF) (fuel base : Nat) (kp : Value → M → Res2) (kx2 : Value → M → Res2) (n : Nat) (x3 x8 x30 x31 x32 : Value) (m : M) : r83_L2 call fuel base kp kx2 (n + 1) x3 x8 x30 x31 x32 m =
    (k1n (mbin E .lss 3 x32 x31) fun v33_20 => (kb v33_20 (k1n (mindexAddr E.P 33 x30 x32) fun v34_21 => (k1n (xload E.P m 3 v34_21) fun v35_22 => (k1n (xload E.P m 33 x3) fun v38_23 => (k2 (vcalln E.P base m .len [33] [v38_23]) fun v39_24 m => (kc (call base 107 [v35_22, v39_24] m) (fun v40_25 m => (k2 (xbuildSlice E.P m 23 1 [(0, v40_25)]) fun v41_26 m => (k2 (vcalln E.P base m .append [23, 23] [x8, v41_26]) fun v42_27 m => (k1n (mbin E .add 3 x32 (.int .i64 1)) fun v43_28 => (r83_L2 call fuel base kp kx2 n x3 v42_27 x30 x31 v43_28 m))))) (fun v m => kp v m)))))) (kx2 x8 m))) := by
  unfold r83_L2
  rw [k1_fun, vcall_fun]
theorem bxsl (m : M) (p off l c : Nat) : xbox m (slo p off l c) = some (pt m.length 0, m ++ [cellR [slo p off l c]]) := by
  have e : xbox m (slo p off l c) = xlen m fun k => xpush m (cellR [slo p off l c]) fun m' => some (pt k 0, m') := by kernel_rfl
  rw [e, xlen_eq, fNat_eq, xpush_eq, fList_eq]
theorem bxI {m : M} {u : Value} {l : List Int} (h : Ints m u l) (hl : 1 ≤ l.length) : xbox m u = some (pt m.length 0, m ++ [cellR [u]]) := by
  rcases h with ⟨rfl, _⟩ | ⟨p, off, c, row, rfl, _⟩
  · simp at hl
  · exact bxsl m p off _ c
theorem get33 {m : M} {c : Nat} {v : Value} (hc : m[c]? = some (cellR [v])) (K : Value → Res2) : (k1n (xload E.P m 33 (pt c 0)) K) = K v := by
  rw [ld33, show mcell m c 0 = some v from box_cell hc 0 _ rfl, k1s]
theorem t113 (n base : Nat) {m : M} {q : Nat} {u : Value} {nn : List Int} (hq : m[q]? = some (cellR [u])) (hu : Ints m u nn) {x : Nat} (hx : x < nn.length) (t : Wg) : rt (n + 1) base 113 [vi x, tV t, pt q 0] m = some (.ret (.bool (northF nn x t)), m) := by
  refine rt_pure (f := 113) (rf := rf113) (by kernel_rfl) (by kernel_rfl) (by kernel_rfl) n base _ m (m ++ [cellR (tC t)]) _ ?_ rfl
  show r113 (rt n) n m.length (vi x) (tV t) (pt q 0) m = _
  unfold r113
  have hql := (List.getElem?_eq_some_iff.1 hq).1
  have hq1 : (m ++ [cellR (tC t)])[q]? = some (cellR [u]) := by rw [List.getElem?_append_left hql]; exact hq
  have hp1 : (m ++ [cellR (tC t)])[m.length]? = some (cellR (tC t)) := by simp
  rw [k1_fun, fVal_fun, show tV t = .agg #[vi t.1, vi t.2.1, vi t.2.2.1, vi t.2.2.2] from rfl, bxa4, k2s, ff45_0, k1s, ld3, show mcell (m ++ [cellR (tC t)]) m.length (0 + 0) = some (vi t.1) from box_cell hp1 _ _ rfl, k1s, get33 hq1, (hu.app _).getD hx, eql3, k1s]
  rfl
theorem kv113 (call : CallF) (base : Nat) (x t a : Value) (m : M) : kv call base (.func (.func 113) #[] #[a]) [x, t] m = call base 113 [x, t, a] m := by kernel_rfl
/-- Lists of w numbers, each in a row of its own, apart from that of the list. -/
def LM (B : Nat) (m : M) (v : Value) (w : Nat) (ls : List (List Int)) : Prop := (ls = [] ∧ v = nilS) ∨
  ∃ (q : Nat) (ps : List Nat), B ≤ q ∧ v = sl q ls.length ∧ m[q]? = some (rowz 1 false (ps.map fun p => sl p w)) ∧ ps.length = ls.length ∧ 1 ≤ ls.length ∧ ∀ j (h1 : j < ps.length) (h2 : j < ls.length), B ≤ ps[j] ∧ ps[j] ≠ q ∧ ls[j].length = w ∧ m[ps[j]]? = some (rowz 1 true (ls[j].map vi))
theorem LM.mats {B : Nat} {m : M} {v : Value} {w : Nat} {ls : List (List Int)} (h : LM B m v w ls) : Mats m v ls := by
  rcases h with ⟨rfl, rfl⟩ | ⟨q, ps, b1, b2, b3, b4, b5, b6⟩
  · exact .inl ⟨rfl, .inl rfl⟩
  · refine .inr ⟨q, 0, ls.length, _, b2, Nat.le_refl _, b3, rfl, ?_, fun j hj => ?_⟩
    · show 0 + ls.length ≤ (ps.map _).length
      rw [List.length_map]; omega
    · obtain ⟨_, _, c1, c2⟩ := b6 j (by omega) hj
      refine ⟨sl ps[j] w, ?_, ?_⟩
      · show (ps.map _)[0 + j]? = _
        rw [Nat.zero_add, List.getElem?_map, List.getElem?_eq_getElem (by omega)]
        rfl
      · have := ints_row (l := ls[j]) c2 rfl rfl
        rw [c1] at this
        exact this
theorem LM.one {b base w : Nat} {m : M} {v : Value} {ls : List (List Int)} (h : LM b m v w ls) (hbb : base ≤ b) (hbm : b ≤ m.length) (hl : ls.length ≤ 70000) {p : Nat} {k : List Int} (hp : b ≤ p) (hk : m[p]? = some (rowz 1 true (k.map vi))) (hkw : k.length = w) (hpv : ∀ n, v ≠ sl p n) :
    ∃ (r : Nat) (m' : M), (∀ K : Value → M → Res2, (k2 (xbuildSlice E.P m 23 1 [(0, sl p w)]) fun w m => k2 (vcalln E.P base m .append [23, 23] [v, w]) K) = K (sl r (ls.length + 1)) m') ∧ LM b m' (sl r (ls.length + 1)) w (ls ++ [k]) ∧ Keeps b m m' ∧ m.length ≤ r ∧ r < m'.length := by
  have hw : (m ++ [rowz 1 true [sl p w]])[m.length]? = some (rowz 1 true [sl p w]) := by simp
  have hpl := (List.getElem?_eq_some_iff.1 hk).1
  rcases h with ⟨rfl, rfl⟩ | ⟨q, us, b1, rfl, b4, b5, b6, b7⟩
  · refine ⟨m.length + 1, (m ++ [rowz 1 true [sl p w]]) ++ [rowz 1 false [sl p w]], fun K => ?_, .inr ⟨m.length + 1, [p], by omega, rfl, by simp, rfl, by simp, fun j h1 h2 => ?_⟩, (Keeps.push _ _ hbm _).trans (Keeps.push _ _ (by simp; omega) _), by omega, by simp⟩
    · rw [show (sl p w : Value) = slo p 0 w w from rfl, gb23_1, k2s, ga23e, ga23nil base _ m.length 1 1 _ hw rfl (by omega) (by omega), k2s]
      simp [rowz]
    · have : j = 0 := by simp at h1; exact h1
      subst this
      refine ⟨hp, show p ≠ m.length + 1 by omega, hkw, ?_⟩
      show ((m ++ [rowz 1 true [sl p w]]) ++ [rowz 1 false [sl p w]])[p]? = _
      rw [List.getElem?_append_left (by simp; omega), List.getElem?_append_left hpl]
      exact hk
  · have hql := (List.getElem?_eq_some_iff.1 b4).1
    have hpq : p ≠ q := fun e => hpv ls.length (by rw [e])
    have b4' : (m ++ [rowz 1 true [sl p w]])[q]? = some (rowz 1 false (us.map fun p => sl p w)) := by rw [List.getElem?_append_left hql]; exact b4
    have keep : ∀ i, i < m.length → i ≠ q → ((m ++ [rowz 1 true [sl p w]]).set q (rowz 1 false []) ++ [rowz 1 false ((us.map fun p => sl p w) ++ [sl p w])])[i]? = m[i]? := fun i hi hiq => by
      rw [List.getElem?_append_left (by simp; omega), List.getElem?_set_ne (Ne.symm hiq), List.getElem?_append_left hi]
    refine ⟨m.length + 1, (m ++ [rowz 1 true [sl p w]]).set q (rowz 1 false []) ++ [rowz 1 false ((us.map fun p => sl p w) ++ [sl p w])], fun K => ?_, .inr ⟨m.length + 1, us ++ [p], by omega, by simp, by simp, by simp [b5], by simp, fun j h1 h2 => ?_⟩, ((Keeps.push _ _ hbm _).trans (Keeps.set b _ q _ b1)).trans (Keeps.push b _ (by simp; omega) _), by omega, by simp⟩
    · rw [show (sl p w : Value) = slo p 0 w w from rfl, gb23_1, k2s, ga23e, ga23some base _ q ls.length m.length 1 1 false (us.map fun p => sl p w) _ b4' (by simp [b5]) (.inr b6) (by omega) (by omega) (by omega) (Nat.le_trans hbb b1) hw rfl rfl, k2s]
      simp [rowz]
    · by_cases hj : j < us.length
      · obtain ⟨c1, c2, c3, c4⟩ := b7 j hj (by omega)
        have hjl := (List.getElem?_eq_some_iff.1 c4).1
        rw [List.getElem_append_left hj, List.getElem_append_left (by omega)]
        refine ⟨c1, by omega, c3, ?_⟩
        rw [keep _ hjl c2]
        exact c4
      · have hj2 : j = us.length := by simp at h1; omega
        subst hj2
        have e1 : (us ++ [p])[us.length] = p := by simp
        have e2 : (ls ++ [k])[us.length] = k := by
          rw [List.getElem_append_right (by omega)]
          simp [b5]
        rw [e1, e2]
        refine ⟨hp, by omega, hkw, ?_⟩
        rw [keep _ hpl hpq]
        exact hk
theorem loop83a {n0 base : Nat} (kx : Value → Value → M → Res2) {m0 : M} (hbb : base ≤ m0.length) {rs : List Rw} {vr x3 : Value} (hR : RowsM m0 vr rs) (hrl : rs.length ≤ 65536) :
    ∀ (n i : Nat) (v : Value) (m : M), Keeps m0.length m0 m → Grow 1 m0.length m v ((rs.take i).map fun r => vi r.s) i → i ≤ rs.length → rs.length < n + i →
      ∃ v' m', r83_L0 (rt n0) n0 base kx n x3 v vr (vi rs.length) (vi i) m = kx x3 v' m' ∧ Keeps m0.length m0 m' ∧ Grow 1 m0.length m' v' (rs.map fun r => vi r.s) rs.length
  | 0, i, v, m, hk, hG, hi, hn => by omega
  | n + 1, i, v, m, hk, hG, hi, hn => by
    rw [r83_L0_s, lss_nat, k1s]
    by_cases hlt : i < rs.length
    · have hbm := hk.1
      rw [decide_eq_true hlt, kbt, (hR.keeps hk).get hlt, letR (Nat.le_trans hbb hbm)]
      have hp1 : (m ++ [cellR rs[i].cs])[m.length]? = some (cellR rs[i].cs) := by simp
      have hk1 : Keeps m0.length m0 (m ++ [cellR rs[i].cs]) := hk.trans (Keeps.push _ _ hbm _)
      rw [ff109_2, k1s, ld3, show mcell (m ++ [cellR rs[i].cs]) m.length (0 + 5) = some (vi rs[i].s) from box_cell hp1 _ _ rfl, k1s]
      obtain ⟨v1, m1, e1, g1, k1, _, _⟩ := gk33 (base := base) (hG.push [cellR rs[i].cs]) (by omega) hbb (Nat.le_trans hbm (by simp)) rs[i].s
      rw [e1, add1 i (by omega), k1s]
      have ht : (rs.take i).map (fun r => vi r.s) ++ [vi rs[i].s] = (rs.take (i + 1)).map fun r => vi r.s := by
        rw [List.take_add_one, List.getElem?_eq_getElem hlt, List.map_append]
        rfl
      rw [ht] at g1
      exact loop83a kx hbb hR hrl n (i + 1) v1 m1 (hk1.trans k1) g1 (by omega) (by omega)
    · have : i = rs.length := by omega
      subst this
      rw [decide_eq_false hlt, kbf]
      rw [List.take_length] at hG
      exact ⟨v, m, rfl, hk, hG⟩
theorem loop83b {n0 base w : Nat} (hn0 : 10 ≤ n0) (kp kx : Value → M → Res2) {m0 : M} (hbb : base ≤ m0.length) {q : Nat} {u vp : Value} {nn : List Int} {Q : List Nat} (hq : m0[q]? = some (cellR [u])) (hu : Ints m0 u nn) (hw : nn.length = w) (hw4 : w ≤ 4) (hP : Ints m0 vp (Q.map fun (z : Nat) => (z : Int))) (hQ : ∀ z ∈ Q, z ≤ 1000000) (hQl : Q.length ≤ 65536) :
    ∀ (n i : Nat) (v : Value) (m : M), Keeps m0.length m0 m → LM m0.length m v w ((Q.take i).map (digN w)) → i ≤ Q.length → Q.length < n + i →
      ∃ v' m', r83_L2 (rt (n0 + 1)) (n0 + 1) base kp kx n (pt q 0) v vp (vi Q.length) (vi i) m = kx v' m' ∧ Keeps m0.length m0 m' ∧ LM m0.length m' v' w (Q.map (digN w))
  | 0, i, v, m, hk, hG, hi, hn => by omega
  | n + 1, i, v, m, hk, hG, hi, hn => by
    rw [r83_L2_s, lss_nat, k1s]
    by_cases hlt : i < Q.length
    · have hbm := hk.1
      have hq1 : m[q]? = some (cellR [u]) := (hk.2 q (List.getElem?_eq_some_iff.1 hq).1).trans hq
      rw [decide_eq_true hlt, kbt, (hP.keeps hk).get (by simpa using hlt), get33 hq1, (hu.keeps hk).len, k2s, hw]
      obtain ⟨m1, e1, h1, k1⟩ := t107 n0 base w Q[i] (by omega) (by omega) (hQ _ (List.getElem_mem hlt)) (Nat.le_trans hbb hbm)
      rw [List.getElem_map, e1, kcs]
      have k01 : Keeps m0.length m m1 := k1.mono hbm
      have hk1 : Keeps m0.length m0 m1 := hk.trans k01
      have hG1 : LM m0.length m1 v w ((Q.take i).map (digN w)) := by
        rcases hG with h | ⟨a, ps, b1, b2, b3, b4, b5, b6⟩
        · exact .inl h
        · refine .inr ⟨a, ps, b1, b2, (k1.2 a (List.getElem?_eq_some_iff.1 b3).1).trans b3, b4, b5, fun j h1 h2 => ?_⟩
          obtain ⟨c1, c2, c3, c4⟩ := b6 j h1 h2
          exact ⟨c1, c2, c3, (k1.2 _ (List.getElem?_eq_some_iff.1 c4).1).trans c4⟩
      have hne : ∀ n, v ≠ sl m.length n := fun n e => by
        rcases hG with ⟨_, h⟩ | ⟨a, ps, b1, b2, b3, _⟩
        · rw [h] at e; simp at e
        · have := (List.getElem?_eq_some_iff.1 b3).1
          rw [b2] at e
          simp at e
      obtain ⟨r, m2, e2, g2, k2, r1, r2⟩ := hG1.one hbb hk1.1 (by simp; omega) hbm h1 (digN_len _ _) hne
      rw [e2, add1 i (by omega), k1s]
      have ht : (Q.take i).map (digN w) ++ [digN w Q[i]] = (Q.take (i + 1)).map (digN w) := by
        rw [List.take_add_one, List.getElem?_eq_getElem hlt, List.map_append]
        rfl
      rw [ht] at g2
      exact loop83b hn0 kp kx hbb hq hu hw hw4 hP hQ hQl n (i + 1) _ m2 (hk1.trans k2) g2 (by omega) (by omega)
    · have : i = Q.length := by omega
      subst this
      rw [decide_eq_false hlt, kbf]
      rw [List.take_length] at hG
      exact ⟨v, m, rfl, hk, hG⟩
/-- The lists of Souths of rows with these Norths. -/
abbrev southL (l : List Wg) (nn : List Int) : List (List Int) := rfL l (fun x => some (nn.getD x 0)) nn.length [] 255
theorem LM.weak {b b' : Nat} {m : M} {v : Value} {w : Nat} {ls : List (List Int)} (h : LM b m v w ls) (hb : b' ≤ b) : LM b' m v w ls := by
  rcases h with h | ⟨a, ps, b1, b2, b3, b4, b5, b6⟩
  · exact .inl h
  · exact .inr ⟨a, ps, by omega, b2, b3, b4, b5, fun j h1 h2 => ⟨by have := (b6 j h1 h2).1; omega, (b6 j h1 h2).2⟩⟩
theorem t83 (n0 base : Nat) (hn0 : 140000 ≤ n0) {m : M} (hbb : base ≤ m.length) {v0 u : Value} {l : List Wg} (hT : Tiles m v0 l) (hl : l.length ≤ 16) (hcol : ∀ t ∈ l, colT t) {nn : List Int} (hu : Ints m u nn) (h1 : 1 ≤ nn.length) (h4 : nn.length ≤ 4) :
    ∃ v' m', rt (n0 + 3) base 83 [v0, u] m = some (.ret v', m') ∧ LM m.length m' v' nn.length (southL l nn) ∧ Keeps m.length m m' := by
  rw [rt_imp (f := 83) (rf := rf83) (by kernel_rfl) (by kernel_rfl) (by kernel_rfl) (n0 + 2) base]
  show ∃ v' m', r83 (rt (n0 + 2)) (n0 + 2) base v0 u m = _ ∧ _
  unfold r83
  have hk0 : Keeps m.length m (m ++ [cellR [u]]) := Keeps.push _ _ (Nat.le_refl _) _
  have hq0 : (m ++ [cellR [u]])[m.length]? = some (cellR [u]) := by simp
  have hu0 := hu.keeps hk0
  rw [k1_fun, fVal_fun, vcall_fun, bxI hu h1, k2s, get33 hq0, hu0.len, k2s]
  obtain ⟨vr, m1, e1, k1, hR, hrl⟩ := t92 n0 base nn.length (m := m ++ [cellR [u]]) (Nat.le_trans hbb (by simp)) (hT.keeps hk0) hl (by omega) (fv := .func (.func 113) #[] #[pt m.length 0]) (fits := northF nn) (fun x m' t hx hk' => by
    have hq' : m'[m.length]? = some (cellR [u]) := (hk'.2 _ (by simp)).trans hq0
    rw [kv113]
    exact t113 n0 base hq' (hu0.keeps hk') hx t) h4
  have h16 : 16 ^ nn.length ≤ 65536 := Nat.le_trans (Nat.pow_le_pow_right (by omega) h4) (by decide)
  rw [e1, kcs, hR.len, k2s, i0]
  have hb1 : base ≤ m1.length := Nat.le_trans (Nat.le_trans hbb (by simp)) k1.1
  obtain ⟨v2, m2, e2, k2, g2⟩ := loop83a (n0 := n0 + 2) (base := base) (fun y3_15 y5_16 m => (kc (rt (n0 + 2) base 109 [y5_16] m) (fun v28_17 m => (kc (rt (n0 + 2) base 110 [y5_16] m) (fun v30_18 m => (k2 (vcalln E.P base m .len [33] [v30_18]) fun v31_19 m => (r83_L2 (rt (n0 + 2)) (n0 + 2) base (fun v m => some (.pan v, m)) (fun y8_29 m => (some (.ret y8_29, m))) (n0 + 2) y3_15 (.slice none 0 0) v30_18 v31_19 (vi ((0 : Nat) : Int)) m))) (fun v m => some (.pan v, m)))) (fun v m => some (.pan v, m)))) hb1 (vr := vr) (x3 := pt m.length 0) hR (by omega) (n0 + 2) 0 nilS m1 (Keeps.refl _ _) (.inl ⟨rfl, rfl, rfl⟩) (Nat.zero_le _) (by omega)
  rw [e2]
  have hmap : (rowsX (northF nn) l nn.length 0 [zeroR]).map (fun r => vi r.s) = ((rowsX (northF nn) l nn.length 0 [zeroR]).map (·.s)).map vi := by rw [List.map_map]; rfl
  rw [hmap] at g2
  have hlen : ((rowsX (northF nn) l nn.length 0 [zeroR]).map (·.s)).length = (rowsX (northF nn) l nn.length 0 [zeroR]).length := by simp
  rw [← hlen] at g2
  obtain ⟨m3, m4, up, P, e3, e4, hP, hD, k3, hPl, _⟩ := sortC (n0 + 2) base g2 (Nat.le_trans hb1 (Nat.le_refl _)) (by omega) (by omega)
  rw [e3, kcs, e4, kcs, hP.len, k2s]
  obtain ⟨q1, q2⟩ := souths_eq hcol h4 hD
  have q1' : P = ((southL l nn).map (codeN 0)).map fun (z : Nat) => (z : Int) := by rw [q1, List.map_map]; rfl
  have hQl : ((southL l nn).map (codeN 0)).length = P.length := by rw [q1']; simp
  have hk4 : Keeps m1.length m1 m4 := k2.trans k3
  have hkk : Keeps (m ++ [cellR [u]]).length (m ++ [cellR [u]]) m4 := k1.trans (hk4.mono k1.1)
  have hq4 : m4[m.length]? = some (cellR [u]) := (hkk.2 _ (by simp)).trans hq0
  rw [q1'] at hP
  obtain ⟨v5, m5, e5, k5, g5⟩ := loop83b (n0 := n0 + 1) (base := base) (w := nn.length) (by omega) (fun v m => some (.pan v, m)) (fun y8_29 m => (some (.ret y8_29, m))) (m0 := m4) (Nat.le_trans hb1 hk4.1) hq4 (hu0.keeps hkk) rfl h4 hP (fun z hz => by
    obtain ⟨a, ha, rfl⟩ := List.mem_map.1 hz
    have := (rfL_code l _ _ [] 255 a ha).2
    have h8 : 8 ^ nn.length ≤ 4096 := Nat.le_trans (Nat.pow_le_pow_right (by omega) h4) (by decide)
    have e0 : codeN 0 ([] : List Int) = 0 := rfl
    rw [e0] at this
    omega) (by omega) (n0 + 2) 0 nilS m4 (Keeps.refl _ _) (.inl ⟨by simp, rfl⟩) (Nat.zero_le _) (by omega)
  rw [← hQl]
  refine ⟨v5, m5, e5, ?_, hk0.trans ((hkk.mono (by simp)).trans (k5.mono (Nat.le_trans (by simp) hkk.1)))⟩
  have hfin : ((southL l nn).map (codeN 0)).map (digN nn.length) = southL l nn := by
    rw [q1', List.map_map, List.map_map] at q2
    rw [List.map_map]
    exact q2
  rw [hfin] at g5
  exact g5.weak (Nat.le_trans (by simp) hkk.1)
end Go.AM
namespace Go.AM
open Go Go.Proofs
/-- May Rows be asked? -/
def rowE (l : List Wg) (nn : List Int) : Bool := isS l && (sizeOk nn.length && !(nn.any badc))
theorem rowE_facts {l : List Wg} {nn : List Int} (h : rowE l nn = true) : isS l = true ∧ 1 ≤ nn.length ∧ nn.length ≤ 4 ∧ ∀ d ∈ nn, col d := by
  unfold rowE sizeOk at h
  simp only [Bool.and_eq_true, decide_eq_true_eq, Bool.not_eq_true', List.any_eq_false] at h
  obtain ⟨h1, ⟨h2, h3⟩, h4⟩ := h
  refine ⟨h1, by omega, by omega, fun d hd => ?_⟩
  have := h4 d hd
  unfold badc at this
  simp only [Bool.or_eq_true, decide_eq_true_eq, not_or] at this
  unfold col; omega
theorem t46 (n0 base : Nat) (hn0 : 140000 ≤ n0) {m : M} (hbb : base ≤ m.length) {v0 u : Value} {l : List Wg} (hT : Tiles m v0 l) {nn : List Int} (hu : Ints m u nn) (hnl : nn.length ≤ 1000) :
    ∃ v' m', rt (n0 + 4) base 46 [v0, u] m = some (.ret (.tuple #[v', vi (if rowE l nn then 0 else 2)]), m') ∧ LM m.length m' v' nn.length (if rowE l nn then southL l nn else []) ∧ Keeps m.length m m' := by
  rw [rt_imp (f := 46) (rf := rf46) (by kernel_rfl) (by kernel_rfl) (by kernel_rfl) (n0 + 3) base]
  show ∃ v' m', r46 (rt (n0 + 3)) (n0 + 3) base v0 u m = _ ∧ _
  have hbad : ∀ b : Bool, rowE l nn = b → b = false → ∃ (v' : Value) (m' : M), some (Ret.ret (.tuple #[(.slice none 0 0), (.int .i64 2)]), m) = some (.ret (.tuple #[v', vi (if rowE l nn then 0 else 2)]), m') ∧ LM m.length m' v' nn.length (if rowE l nn then southL l nn else []) ∧ Keeps m.length m m' := fun b h1 h2 => by
    rw [h1, h2]
    exact ⟨nilS, m, rfl, .inl ⟨rfl, rfl⟩, Keeps.refl _ _⟩
  unfold r46
  rw [k1_fun, vcall_fun, t48 (n0 + 2) _ (by omega) hT, kcs, not4, k1s]
  cases hS : isS l with
  | false =>
    rw [Bool.not_false, kbt]
    exact hbad _ rfl (by unfold rowE; rw [hS]; rfl)
  | true =>
    rw [Bool.not_true, kbf, hu.len, k2s, t80 (n0 + 2), kcs, not4, k1s]
    cases hZ : sizeOk (nn.length : Int) with
    | false =>
      rw [Bool.not_false, kbt]
      exact hbad _ rfl (by unfold rowE; rw [hS, hZ]; rfl)
    | true =>
      rw [Bool.not_true, kbf, t81 (n0 + 1) _ hu (by omega) (by omega) 82 badc (fun c base => t82 n0 base c _), kcs]
      cases hA : nn.any badc with
      | true =>
        rw [kbt]
        exact hbad _ rfl (by unfold rowE; rw [hS, hZ, hA]; rfl)
      | false =>
        have hE : rowE l nn = true := by unfold rowE; rw [hS, hZ, hA]; rfl
        obtain ⟨_, h1, h4, _⟩ := rowE_facts hE
        obtain ⟨_, hl16, hcol⟩ := isS_facts hS
        obtain ⟨v', m', e1, g1, k1⟩ := t83 n0 base hn0 hbb hT hl16 hcol hu h1 h4
        rw [kbf, e1, kcs, hE, if_pos rfl, if_pos rfl]
        exact ⟨v', m', rfl, g1, k1⟩
theorem south_len (l : List Wg) (nn : List Int) : (southL l nn).length ≤ 8 ^ nn.length := rfL_len l _ _ [] 255
theorem rowE_len (l : List Wg) (nn : List Int) : (if rowE l nn then southL l nn else []).length ≤ 4096 ∧ ∀ r ∈ (if rowE l nn then southL l nn else []), r.length ≤ 4 := by
  cases h : rowE l nn with
  | false => exact ⟨by simp, by simp⟩
  | true =>
    obtain ⟨_, _, h4, _⟩ := rowE_facts h
    rw [if_pos rfl]
    refine ⟨Nat.le_trans (south_len l nn) (Nat.le_trans (Nat.pow_le_pow_right (by omega) h4) (by decide)), fun r hr => ?_⟩
    have := rfL_mem l _ _ _ _ r hr
    simp at this
    omega
end Go.AM
namespace Go.AM
open Go Go.Proofs
/-- A number from its digits, the lowest first. -/
def vS (n : Nat) : List Nat → Nat
  | [] => 0
  | d :: ds => d + n * vS n ds
/-- Lists of different colours. -/
structure Lns (ls : List Int) : Prop where
  pos : 1 ≤ ls.length
  col : ∀ c ∈ ls, col c
  inj : ∀ i j, i < ls.length → j < ls.length → ls.getD i 0 = ls.getD j 0 → i = j
end Go.AM
namespace Go.AM
open Go Go.Proofs
theorem Mats.at {m m' : M} {v : Value} {l : List (List Int)} (h : Mats m v l) (hk : ∀ i, i < m.length → m'[i]? = m[i]?) : Mats m' v l := by
  rcases h with h | ⟨p, off, c, row, h1, h2, h3, h4, h5, h6⟩
  · exact .inl h
  · refine .inr ⟨p, off, c, row, h1, h2, (hk p (List.getElem?_eq_some_iff.1 h3).1).trans h3, h4, h5, fun j hj => ?_⟩
    obtain ⟨u, a, b⟩ := h6 j hj
    exact ⟨u, a, b.at hk⟩
/-- A matrix in memory. -/
def MatM (m : M) (v : Value) (C : Nat) (F : Nat → Nat → Nat) : Prop := Mats m v ((List.range C).map fun a => (List.range C).map fun b => ((F a b : Nat) : Int))
theorem MatM.len {m : M} {v : Value} {C : Nat} {F : Nat → Nat → Nat} (h : MatM m v C F) (base : Nat) : vcalln E.P base m .len [23] [v] = some (vi C, m) := by
  have := Mats.len h base
  rwa [List.length_map, List.length_range] at this
theorem MatM.get {m : M} {v : Value} {C : Nat} {F : Nat → Nat → Nat} (h : MatM m v C F) {a b : Nat} (ha : a < C) (hb : b < C) (K : Value → Res2) : (k1n (mindexAddr E.P 23 v (vi a)) fun x => k1n (xload E.P m 33 x) fun y => k1n (mindexAddr E.P 33 y (vi b)) fun z => k1n (xload E.P m 3 z) K) = K (vi (F a b)) := by
  obtain ⟨u, h1, h2⟩ := Mats.get h (j := a) (by simpa using ha)
  have e : ((List.range C).map fun a => (List.range C).map fun b => ((F a b : Nat) : Int))[a]'(by simpa using ha) = (List.range C).map fun b => ((F a b : Nat) : Int) := by simp
  rw [e] at h1
  rw [h2, h1.get (j := b) (by simpa using hb)]
  simp
end Go.AM
namespace Go.AM
open Go Go.Proofs
theorem r111_L0_s (call : CallF) (fuel base : Nat) (kr : Value → M → Res2) (kx0 : M → Res2) (n : Nat) (x0 x1 x7 x8 : Value) (m : M) : r111_L0 call fuel base kr kx0 (n + 1) x0 x1 x7 x8 m =
    (k1n (mbin E .lss 3 x8 x7) fun v9_2 => (kb v9_2 (k1n (mindexAddr E.P 33 x0 x8) fun v14_3 => (k1n (xload E.P m 3 v14_3) fun v15_4 => (k1n (mbin E .eql 3 x1 v15_4) fun v16_5 => (kb v16_5 (kr x8 m) (k1n (mbin E .add 3 x8 (.int .i64 1)) fun v18_6 => (r111_L0 call fuel base kr kx0 n x0 x1 x7 v18_6 m)))))) (kx0 m))) := by
  unfold r111_L0
  rw [k1_fun]
theorem loop111 (call : CallF) (fuel base : Nat) (kr : Value → M → Res2) {m : M} {v : Value} {l : List Int} (hI : Ints m v l) (hl : l.length ≤ 100000) (c : Int) :
    ∀ (n i : Nat), i ≤ l.length → l.length < n + i → r111_L0 call fuel base kr (fun m => kr (vi (-1)) m) n v (vi c) (vi l.length) (vi i) m = kr (vi (idxC (l.drop i) c i)) m
  | 0, i, h1, hn => by omega
  | n + 1, i, h1, hn => by
    rw [r111_L0_s, lss3, k1s]
    by_cases hlt : i < l.length
    · rw [decide_eq_true (show (i : Int) < l.length by omega), kbt, hI.get hlt, eql3, k1s, List.drop_eq_getElem_cons hlt]
      show _ = kr (vi (if l[i] = c then (i : Int) else idxC (l.drop (i + 1)) c (i + 1))) m
      by_cases e : c = l[i]
      · rw [decide_eq_true e, kbt, if_pos e.symm]
      · rw [decide_eq_false e, kbf, if_neg (fun h => e h.symm), add1 i (by omega), k1s]
        exact loop111 call fuel base kr hI hl c n (i + 1) (by omega) (by omega)
    · rw [decide_eq_false (show ¬ (i : Int) < l.length by omega), kbf, List.drop_eq_nil_of_le (by omega)]
      rfl
theorem t111 (n base : Nat) {m : M} {v : Value} {l : List Int} (hI : Ints m v l) (hl : l.length ≤ 100000) (hn : l.length < n) (c : Int) : rt (n + 1) base 111 [v, vi c] m = some (.ret (vi (idxC l c 0)), m) := by
  refine rt_pure (f := 111) (rf := rf111) (by kernel_rfl) (by kernel_rfl) (by kernel_rfl) n base _ m m _ ?_ rfl
  show r111 (rt n) n m.length v (vi c) m = _
  unfold r111
  rw [fVal_fun, vcall_fun, hI.len, k2s, i0]
  have := loop111 (rt n) n m.length (fun v m => some (.ret v, m)) hI hl c n 0 (Nat.zero_le _) (by omega)
  rw [List.drop_zero] at this
  exact this
theorem r78_L0_s (call : CallF) (fuel base : Nat) (kx0 : Value → M → Res2) (n : Nat) (x1 x5 x11 x12 x13 : Value) (m : M) : r78_L0 call fuel base kx0 (n + 1) x1 x5 x11 x12 x13 m =
    (k1n (mbin E .lss 3 x13 x12) fun v14_4 => (kb v14_4 (k1n (mindexAddr E.P 22 x11 x13) fun v16_5 => (k1n (xload E.P m 45 v16_5) fun v17_6 => (k2 (xalloc E.P m 45) fun v7_7 m => (ks (xstore E.P base m 45 v7_7 v17_6) fun m => (k1n (mfieldAddr E.P 45 v7_7 1) fun v19_8 => (k1n (xload E.P m 3 v19_8) fun v20_9 => (kc (kB m (call m.length 111 [x1, v20_9] m)) (fun v21_10 m => (k1n (mfieldAddr E.P 45 v7_7 3) fun v23_11 => (k1n (xload E.P m 3 v23_11) fun v24_12 => (kc (kB m (call m.length 111 [x1, v24_12] m)) (fun v25_13 m => (k1n (mfieldAddr E.P 45 v7_7 1) fun v26_14 => (ks (xstore E.P base m 3 v26_14 v21_10) fun m => (k1n (mfieldAddr E.P 45 v7_7 3) fun v27_15 => (ks (xstore E.P base m 3 v27_15 v25_13) fun m => (k1n (xload E.P m 45 v7_7) fun v30_16 => (k1n (mindexAddr E.P 22 x5 x13) fun v31_17 => (ks (xstore E.P base m 45 v31_17 v30_16) fun m => (k1n (mbin E .add 3 x13 (.int .i64 1)) fun v32_18 => (r78_L0 call fuel base kx0 n x1 x5 x11 x12 v32_18 m)))))))))) (fun _ _ => none))))) (fun _ _ => none)))))))) (kx0 x5 m))) := by
  unfold r78_L0
  rw [k1_fun]
/-- A slice of N tiles whose first ones are l. -/
def TilA (m : M) (p N : Nat) (l : List Wg) : Prop := m[p]? = some (rowz 4 true (l.flatMap tC ++ repCells [vi 0, vi 0, vi 0, vi 0] (N - l.length)))
theorem mkM22 (m : M) (n : Nat) (h : n ≤ 100000) : xmakeSlice E.P m 22 (vi n) (vi n) = some (sl m.length n, m ++ [rowz 4 true (repCells [vi 0, vi 0, vi 0, vi 0] n)]) := by
  have e : xmakeSlice E.P m 22 (vi n) (vi n) = if ((n : Int) < 0 ∨ (n : Int) < n ∨ (n : Int) > 2 ^ 40 ∨ 32 > 2 ^ 7) then none else
    xlen m fun k => fNat n fun l => fNat n fun c => fList (repCells [vi 0, vi 0, vi 0, vi 0] c) fun cs => xpush m (rowz 4 true cs) fun m' => some (.slice (some ⟨k, 0, none⟩) l c, m') := by kernel_rfl
  rw [e, if_neg (by omega), xlen_eq, fNat_eq, fNat_eq, fNat_eq, fList_eq, xpush_eq, fList_eq]
theorem rep4_len (n : Nat) : (repCells [vi 0, vi 0, vi 0, vi 0] n).length = n * 4 := repCells_length _ n
theorem st45A {base : Nat} {m : M} {p N : Nat} {l : List Wg} (hb : base ≤ p) (h : TilA m p N l) (hl : l.length < N) (t : Wg) : ∃ m', xstore E.P base m 45 (pt p (l.length * 4)) (tV t) = some m' ∧ TilA m' p N (l ++ [t]) ∧ m'.length = m.length ∧ ∀ r, r ≠ p → m'[r]? = m[r]? := by
  have e : xstore E.P base m 45 (pt p (l.length * 4)) (tV t) = xwrite base m p (l.length * 4) (tC t) := by kernel_rfl
  have hr := h
  unfold TilA at hr
  have hlen : (l.flatMap tC).length = l.length * 4 := flatC_len l
  obtain ⟨k, hk⟩ : ∃ k, N - l.length = k + 1 := ⟨N - l.length - 1, by omega⟩
  have hspl : splice (l.flatMap tC ++ repCells [vi 0, vi 0, vi 0, vi 0] (N - l.length)) (l.length * 4) (tC t) = (l ++ [t]).flatMap tC ++ repCells [vi 0, vi 0, vi 0, vi 0] (N - (l ++ [t]).length) := by
    unfold splice
    rw [hk, show N - (l ++ [t]).length = k by simp; omega, List.take_append, ← hlen, List.take_length, Nat.sub_self, List.take_zero, List.append_nil, List.drop_append]
    rw [List.drop_eq_nil_of_le (by omega), List.nil_append, Nat.add_sub_cancel_left]
    show l.flatMap tC ++ tC t ++ repCells [vi 0, vi 0, vi 0, vi 0] k = _
    simp
  refine ⟨m.set p (rowz 4 true ((l ++ [t]).flatMap tC ++ repCells [vi 0, vi 0, vi 0, vi 0] (N - (l ++ [t]).length))), ?_, ?_, by simp, fun r hr => List.getElem?_set_ne (Ne.symm hr)⟩
  · rw [e, xwrite_eq]
    unfold mwrite
    rw [if_neg (by omega), hr]
    simp only [rowz, Bool.false_eq_true, if_false, fList_eq]
    rw [if_pos (by rw [List.length_append, hlen, rep4_len]; show _ + 4 ≤ _; omega), if_pos (show ((tC t).all fun x => x.oneCell') = true from rfl), hspl]
  · show (m.set p _)[p]? = _
    rw [List.getElem?_set_self (List.getElem?_eq_some_iff.1 hr).1]
theorem TilA.tiles {m : M} {p : Nat} {l : List Wg} (h : TilA m p l.length l) : Tiles m (sl p l.length) l := by
  refine .inr ⟨p, 0, l.length, _, rfl, Nat.le_refl _, h, rfl, ?_, fun j hj => ?_⟩
  · show 0 + l.length * 4 ≤ (l.flatMap tC ++ repCells [vi 0, vi 0, vi 0, vi 0] (l.length - l.length)).length
    rw [List.length_append, flatC_len]
    omega
  · show ((l.flatMap tC ++ repCells [vi 0, vi 0, vi 0, vi 0] (l.length - l.length)).drop (0 + j * 4)).take 4 = _
    rw [Nat.sub_self, show repCells [vi 0, vi 0, vi 0, vi 0] 0 = [] from rfl, List.append_nil, Nat.zero_add]
    exact flatC_cell l j hj
end Go.AM
namespace Go.AM
open Go Go.Proofs
def rnT (P : List Int) (t : Wg) : Wg := (t.1, idxC P t.2.1 0, t.2.2.1, idxC P t.2.2.2 0)
theorem boxF {m : M} {q : Nat} {a b c d : Int} (h : m[q]? = some (cellR [vi a, vi b, vi c, vi d])) : (∀ K : Value → Res2, (k1n (mfieldAddr E.P 45 (pt q 0) 1) fun x => k1n (xload E.P m 3 x) K) = K (vi b)) ∧ (∀ K : Value → Res2, (k1n (mfieldAddr E.P 45 (pt q 0) 3) fun x => k1n (xload E.P m 3 x) K) = K (vi d)) ∧ (∀ K : Value → Res2, k1n (xload E.P m 45 (pt q 0)) K = K (tV (a, b, c, d))) := by
  refine ⟨fun K => ?_, fun K => ?_, fun K => ?_⟩
  · rw [ff45_1, k1s, ld3, box_cell h (0 + 1) _ rfl, k1s]
  · rw [ff45_3, k1s, ld3, box_cell h (0 + 3) _ rfl, k1s]
  · rw [ld45 h (by show 0 + 4 ≤ 4; omega), k1s]
    rfl
theorem boxS {base : Nat} {m : M} {q : Nat} {a b c d : Int} (hb : base ≤ q) (h : m[q]? = some (cellR [vi a, vi b, vi c, vi d])) (x : Int) :
    (∀ K : M → Res2, (k1n (mfieldAddr E.P 45 (pt q 0) 1) fun z => ks (xstore E.P base m 3 z (vi x)) K) = K (m.set q (cellR [vi a, vi x, vi c, vi d]))) ∧ (∀ K : M → Res2, (k1n (mfieldAddr E.P 45 (pt q 0) 3) fun z => ks (xstore E.P base m 3 z (vi x)) K) = K (m.set q (cellR [vi a, vi b, vi c, vi x]))) := by
  refine ⟨fun K => ?_, fun K => ?_⟩
  · rw [ff45_1, k1s, st3, mwrite_one hb h rfl (by show 0 + 1 < 4; omega) rfl, kss]
    rfl
  · rw [ff45_3, k1s, st3, mwrite_one hb h rfl (by show 0 + 3 < 4; omega) rfl, kss]
    rfl
theorem loop78 (n0 base : Nat) (kx : Value → M → Res2) (fuel : Nat) {m0 : M} {v pv : Value} {l : List Wg} {P : List Int} (hT : Tiles m0 v l) (hP : Ints m0 pv P) (hPl : P.length ≤ 100000) (hn0 : P.length < n0) (hl : l.length ≤ 100000) {p : Nat} (hbb : base ≤ m0.length) (hp : m0.length ≤ p) :
    ∀ (n j : Nat) (m : M), Keeps m0.length m0 m → TilA m p l.length ((l.take j).map (rnT P)) → j ≤ l.length → l.length < n + j →
      ∃ m', r78_L0 (rt (n0 + 1)) fuel base kx n pv (sl p l.length) v (vi l.length) (vi j) m = kx (sl p l.length) m' ∧ Keeps m0.length m0 m' ∧ TilA m' p l.length (l.map (rnT P))
  | 0, j, m, hk, hA, h1, hn => by omega
  | n + 1, j, m, hk, hA, h1, hn => by
    rw [r78_L0_s, lss3, k1s]
    by_cases hlt : j < l.length
    · have hTm := hT.keeps hk
      have hpl : p < m.length := (List.getElem?_eq_some_iff.1 hA).1
      obtain ⟨a, b, c, d, ht⟩ : ∃ a b c d : Int, l[j] = (a, b, c, d) := ⟨_, _, _, _, rfl⟩
      have hbox : (m ++ [cellR [vi a, vi b, vi c, vi d]])[m.length]? = some (cellR [vi a, vi b, vi c, vi d]) := by simp
      have hPm : Ints (m ++ [cellR [vi a, vi b, vi c, vi d]]) pv P := (hP.keeps hk).keeps (Keeps.push _ m (Nat.le_refl _) _)
      obtain ⟨f1, f3, _⟩ := boxF hbox
      obtain ⟨g1, _⟩ := boxS (base := base) (by have := hk.1; omega) hbox (idxC P b 0)
      have hbox2 : ((m ++ [cellR [vi a, vi b, vi c, vi d]]).set m.length (cellR [vi a, vi (idxC P b 0), vi c, vi d]))[m.length]? = some (cellR [vi a, vi (idxC P b 0), vi c, vi d]) := List.getElem?_set_self (by simp)
      obtain ⟨_, g3⟩ := boxS (base := base) (by have := hk.1; omega) hbox2 (idxC P d 0)
      have hbox3 : (((m ++ [cellR [vi a, vi b, vi c, vi d]]).set m.length (cellR [vi a, vi (idxC P b 0), vi c, vi d])).set m.length (cellR [vi a, vi (idxC P b 0), vi c, vi (idxC P d 0)]))[m.length]? = some (cellR [vi a, vi (idxC P b 0), vi c, vi (idxC P d 0)]) := List.getElem?_set_self (by simp)
      obtain ⟨_, _, f5⟩ := boxF hbox3
      have hA3 : TilA (((m ++ [cellR [vi a, vi b, vi c, vi d]]).set m.length (cellR [vi a, vi (idxC P b 0), vi c, vi d])).set m.length (cellR [vi a, vi (idxC P b 0), vi c, vi (idxC P d 0)])) p l.length ((l.take j).map (rnT P)) := by
        unfold TilA
        rw [List.getElem?_set_ne (by omega), List.getElem?_set_ne (by omega), List.getElem?_append_left hpl]
        exact hA
      have hk3 : Keeps m0.length m0 (((m ++ [cellR [vi a, vi b, vi c, vi d]]).set m.length (cellR [vi a, vi (idxC P b 0), vi c, vi d])).set m.length (cellR [vi a, vi (idxC P b 0), vi c, vi (idxC P d 0)])) :=
        ⟨by have := hk.1; simp; omega, fun i hi => by have := hk.1; rw [List.getElem?_set_ne (by omega), List.getElem?_set_ne (by omega), List.getElem?_append_left (by omega)]; exact hk.2 i hi⟩
      have hjl : ((l.take j).map (rnT P)).length = j := by simp; omega
      obtain ⟨m4, e4, A4, l4, o4⟩ := st45A (base := base) (show base ≤ p by omega) hA3 (by rw [hjl]; exact hlt) (a, idxC P b 0, c, idxC P d 0)
      rw [hjl] at e4
      have hnext : (l.take j).map (rnT P) ++ [(a, idxC P b 0, c, idxC P d 0)] = (l.take (j + 1)).map (rnT P) := by
        rw [List.take_succ_eq_append_getElem hlt, List.map_append, ht]
        rfl
      rw [hnext] at A4
      rw [decide_eq_true (show (j : Int) < l.length by omega), kbt, hTm.get hlt, ht, letT (by have := hk.1; omega)]
      show ∃ m', (k1n (mfieldAddr E.P 45 (pt m.length 0) 1) _) = _ ∧ _
      rw [show cellR (tC (a, b, c, d)) = cellR [vi a, vi b, vi c, vi d] from rfl, f1, t111 n0 _ hPm hPl hn0, kB_same, kcs, f3, t111 n0 _ hPm hPl hn0, kB_same, kcs, g1, g3, f5, ix22 _ _ _ _ hlt, k1s, e4, kss, add1 j (by omega), k1s]
      exact loop78 n0 base kx fuel hT hP hPl hn0 hl hbb hp n (j + 1) m4 ⟨by rw [l4]; exact hk3.1, fun i hi => (o4 i (by omega)).trans (hk3.2 i hi)⟩ A4 (by omega) (by omega)
    · have hj : j = l.length := by omega
      rw [decide_eq_false (show ¬ (j : Int) < l.length by omega), kbf]
      rw [hj, List.take_length] at hA
      exact ⟨m, rfl, hk, hA⟩
theorem t78 (n0 base : Nat) {m : M} {v pv : Value} {l : List Wg} {P : List Int} (hbb : base ≤ m.length) (hT : Tiles m v l) (hP : Ints m pv P) (hPl : P.length ≤ 100000) (hl : l.length ≤ 100000) (hn0 : P.length + l.length < n0) :
    ∃ (v' : Value) (m' : M), rt (n0 + 2) base 78 [v, pv] m = some (.ret v', m') ∧ Tiles m' v' (l.map (rnT P)) ∧ Keeps m.length m m' := by
  rw [rt_imp (f := 78) (rf := rf78) (by kernel_rfl) (by kernel_rfl) (by kernel_rfl) (n0 + 1) base]
  show ∃ (v' : Value) (m' : M), r78 (rt (n0 + 1)) (n0 + 1) base v pv m = _ ∧ _
  have hk0 : Keeps m.length m (m ++ [rowz 4 true (repCells [vi 0, vi 0, vi 0, vi 0] l.length)]) := Keeps.push _ m (Nat.le_refl _) _
  have hA0 : TilA (m ++ [rowz 4 true (repCells [vi 0, vi 0, vi 0, vi 0] l.length)]) m.length l.length ((l.take 0).map (rnT P)) := by
    unfold TilA
    simp
  obtain ⟨m', e1, k1, A1⟩ := loop78 n0 base (fun y5_19 m => some (.ret y5_19, m)) (n0 + 1) hT hP hPl (by omega) hl hbb (Nat.le_refl _) (n0 + 1) 0 _ hk0 hA0 (Nat.zero_le _) (by omega)
  unfold r78
  rw [fVal_fun, vcall_fun, hT.len, k2s, mkM22 m l.length hl, k2s, (hT.keeps hk0).len, k2s, i0, e1]
  have hT' : Tiles m' (sl m.length l.length) (l.map (rnT P)) := by
    have h2 : TilA m' m.length (l.map (rnT P)).length (l.map (rnT P)) := by rw [List.length_map]; exact A1
    have := h2.tiles
    rwa [List.length_map] at this
  exact ⟨_, m', rfl, hT', k1⟩
end Go.AM
namespace Go.AM
open Go Go.Proofs
theorem gg33p {b base : Nat} {m : M} {v : Value} {cs : List Value} {n : Nat} (h : Grow 1 b m v cs n) (hn : n ≤ 1000) (hbb : base ≤ b) (hbm : b ≤ m.length) (x y : Int) :
    ∃ v' m', (∀ k : Value → M → Res2, (k2 (xbuildSlice E.P m 33 2 [(0, vi x), (1, vi y)]) fun u m => k2 (vcalln E.P base m .append [33, 33] [v, u]) k) = k v' m') ∧ Grow 1 b m' v' (cs ++ [vi x, vi y]) (n + 2) ∧ Keeps b m m' ∧
      (∀ i, i < m.length → (∀ n0, v ≠ sl i n0) → m'[i]? = m[i]?) ∧ (∀ i n0, v' = sl i n0 → m.length ≤ i ∧ i < m'.length) := by
  have hk : (m ++ [rowz 1 true [vi x, vi y]])[m.length]? = some (rowz 1 true [vi x, vi y]) := by simp
  rcases h with ⟨rfl, rfl, rfl⟩ | ⟨r, h1, hb, rfl, hr, hl⟩
  · refine ⟨_, (m ++ [rowz 1 true [vi x, vi y]]) ++ [rowz 1 false [vi x, vi y]], fun k => ?_, .inr ⟨(m ++ [rowz 1 true [vi x, vi y]]).length, by omega, by simp; omega, rfl, ?_, by simp⟩, ?_, fun i hi _ => ?_, fun i n0 e => ?_⟩
    · rw [gb33_2]
      simp only [k2]
      rw [ga33e, ga33nil _ _ _ 2 _ _ hk rfl (by omega) (by omega)]
      rfl
    · simp
    · exact (Keeps.push b m hbm _).trans (Keeps.push b _ (by simp; omega) _)
    · rw [List.getElem?_append_left (by simp; omega), List.getElem?_append_left hi]
    · injection e with e1 e2
      simp at e1
      subst e1
      simp
  · have hlt : r < m.length := (List.getElem?_eq_some_iff.1 hr).1
    refine ⟨_, (m ++ [rowz 1 true [vi x, vi y]]).set r (rowz 1 false []) ++ [rowz 1 false (cs ++ [vi x, vi y])], fun k => ?_, .inr ⟨(m ++ [rowz 1 true [vi x, vi y]]).length, by omega, by simp; omega, rfl, ?_, by simp [hl, Nat.add_mul]⟩, ?_, fun i hi hv => ?_, fun i n0 e => ?_⟩
    · rw [gb33_2]
      simp only [k2]
      rw [ga33e, ga33some _ _ r n _ 2 _ false cs (rowz 1 true [vi x, vi y]) (by rw [List.getElem?_append_left hlt]; exact hr) hl (.inr h1) (by omega) (by omega) (by omega) (by omega) hk rfl rfl]
      rfl
    · simp
    · exact ((Keeps.push b m hbm _).trans (Keeps.set b _ r _ hb)).trans (Keeps.push b _ (by simp; omega) _)
    · have : r ≠ i := fun e => hv n (by rw [e])
      rw [List.getElem?_append_left (by simp; omega), List.getElem?_set_ne this, List.getElem?_append_left hi]
    · injection e with e1 e2
      simp at e1
      subst e1
      simp
end Go.AM
namespace Go.AM
open Go Go.Proofs
theorem r77_L2_s (call : CallF) (fuel base : Nat) (kp : Value → M → Res2) (kx2 : Value → Value → Value → Value → Value → Value → M → Res2) (n : Nat) (x1 x6 x7 x9 x15 x16 x17 x21 x22 x23 : Value) (m : M) : r77_L2 call fuel base kp kx2 (n + 1) x1 x6 x7 x9 x15 x16 x17 x21 x22 x23 m =
    (k1n (mbin E .lss 3 x23 x22) fun v24_7 => (kb v24_7 (k1n (mindexAddr E.P 22 x21 x23) fun v25_8 => (k1n (xload E.P m 45 v25_8) fun v26_9 => (k2 (xalloc E.P m 45) fun v11_10 m => (ks (xstore E.P base m 45 v11_10 v26_9) fun m => (k1n (mfieldAddr E.P 45 x9 2) fun v27_11 => (k1n (xload E.P m 3 v27_11) fun v28_12 => (k1n (mfieldAddr E.P 45 v11_10 0) fun v29_13 => (k1n (xload E.P m 3 v29_13) fun v30_14 => (k1n (mbin E .neq 3 v28_12 v30_14) fun v31_15 => (kb v31_15 (k1n (mbin E .add 3 x23 (.int .i64 1)) fun v64_16 => (r77_L2 call fuel base kp kx2 n x1 x6 x7 x9 x15 x16 x17 x21 x22 v64_16 m)) (k1n (mfieldAddr E.P 45 x9 1) fun v32_17 => (k1n (xload E.P m 3 v32_17) fun v33_18 => (k1n (mfieldAddr E.P 45 v11_10 1) fun v34_19 => (k1n (xload E.P m 3 v34_19) fun v35_20 => (k2 (xbuildSlice E.P m 33 2 [(0, v33_18), (1, v35_20)]) fun v36_21 m => (kc (kB m (call m.length 95 [v36_21] m)) (fun v37_22 m => (k1n (mfieldAddr E.P 45 x9 3) fun v38_23 => (k1n (xload E.P m 3 v38_23) fun v39_24 => (k1n (mfieldAddr E.P 45 v11_10 3) fun v40_25 => (k1n (xload E.P m 3 v40_25) fun v41_26 => (k2 (xbuildSlice E.P m 33 2 [(0, v39_24), (1, v41_26)]) fun v42_27 m => (kc (kB m (call m.length 95 [v42_27] m)) (fun v43_28 m => (k2 (xbuildSlice E.P m 33 2 [(0, v37_22), (1, v43_28)]) fun v47_29 m => (k2 (vcalln E.P base m .append [33, 33] [x7, v47_29]) fun v48_30 m => (k1n (mfieldAddr E.P 45 x9 0) fun v49_31 => (k1n (xload E.P m 3 v49_31) fun v50_32 => (k1n (mfieldAddr E.P 45 v11_10 2) fun v52_33 => (k1n (xload E.P m 3 v52_33) fun v53_34 => (k1n (mbuild E.P 45 [(0, v50_32), (1, v37_22), (2, v53_34), (3, v43_28)]) fun v55_35 => (k2 (xalloc E.P m 45) fun v14_36 m => (ks (xstore E.P base m 45 v14_36 v55_35) fun m => (k1n (xload E.P m 45 v14_36) fun v57_37 => (kc (call base 84 [x6, v57_37] m) (fun v58_38 m => (k1n (mun .not v58_38) fun v59_39 => (kb v59_39 (k1n (xload E.P m 45 v14_36) fun v61_40 => (k2 (xbuildSlice E.P m 22 1 [(0, v61_40)]) fun v62_41 m => (k2 (vcalln E.P base m .append [22, 22] [x6, v62_41]) fun v63_42 m => (k1n (mbin E .add 3 x23 (.int .i64 1)) fun v64_43 => (r77_L2 call fuel base kp kx2 n x1 v63_42 v48_30 x9 x15 x16 x17 x21 x22 v64_43 m))))) (k1n (mbin E .add 3 x23 (.int .i64 1)) fun v64_44 => (r77_L2 call fuel base kp kx2 n x1 x6 v48_30 x9 x15 x16 x17 x21 x22 v64_44 m))))) (fun v m => kp v m))))))))))))) (fun _ _ => none)))))))) (fun _ _ => none))))))))))))))))) (kx2 x1 x6 x7 x15 x16 x17 m))) := by
  unfold r77_L2
  rw [k1_fun, vcall_fun]
theorem r77_L0_s (call : CallF) (fuel base : Nat) (kp : Value → M → Res2) (kx0 : Value → Value → M → Res2) (n : Nat) (x1 x6 x7 x15 x16 x17 : Value) (m : M) : r77_L0 call fuel base kp kx0 (n + 1) x1 x6 x7 x15 x16 x17 m =
    (k1n (mbin E .lss 3 x17 x16) fun v18_2 => (kb v18_2 (k1n (mindexAddr E.P 22 x15 x17) fun v19_3 => (k1n (xload E.P m 45 v19_3) fun v20_4 => (k2 (xalloc E.P m 45) fun v9_5 m => (ks (xstore E.P base m 45 v9_5 v20_4) fun m => (k2 (vcalln E.P base m .len [22] [x1]) fun v22_6 m => (r77_L2 call fuel base (fun v m => kp v m) (fun y1_45 y6_46 y7_47 y15_48 y16_49 y17_50 m => (k1n (mbin E .add 3 y17_50 (.int .i64 1)) fun v65_51 => (r77_L0 call fuel base kp kx0 n y1_45 y6_46 y7_47 y15_48 y16_49 v65_51 m))) fuel x1 x6 x7 v9_5 x15 x16 x17 x1 v22_6 (.int .i64 0) m)))))) (kx0 x6 x7 m))) := by
  unfold r77_L0
  rw [k1_fun, vcall_fun]
theorem boxG {m : M} {q : Nat} {a b c d : Int} (h : m[q]? = some (cellR [vi a, vi b, vi c, vi d])) : (∀ K : Value → Res2, (k1n (mfieldAddr E.P 45 (pt q 0) 0) fun x => k1n (xload E.P m 3 x) K) = K (vi a)) ∧ (∀ K : Value → Res2, (k1n (mfieldAddr E.P 45 (pt q 0) 2) fun x => k1n (xload E.P m 3 x) K) = K (vi c)) := by
  refine ⟨fun K => ?_, fun K => ?_⟩
  · rw [ff45_0, k1s, ld3, box_cell h (0 + 0) _ rfl, k1s]
  · rw [ff45_2, k1s, ld3, box_cell h (0 + 2) _ rfl, k1s]
/-- Two tiles as one. -/
def jT (s t : Wg) : Wg := (s.1, codeA 0 [s.2.1, t.2.1], t.2.2.1, codeA 0 [s.2.2.2, t.2.2.2])
def jStep (s t : Wg) (A : List Wg × List Int) : List Wg × List Int := if s.2.2.1 = t.1 then ((if jT s t ∈ A.1 then A.1 else A.1 ++ [jT s t]), A.2 ++ [(jT s t).2.1, (jT s t).2.2.2]) else A
def jRow (s : Wg) : List Wg → List Wg × List Int → List Wg × List Int
  | [], A => A
  | t :: b, A => jRow s b (jStep s t A)
def jAll : List Wg → List Wg → List Wg × List Int → List Wg × List Int
  | [], _, A => A
  | s :: a, b, A => jAll a b (jRow s b A)
/-- What joined has in memory. -/
structure JM (B : Nat) (m : M) (vS vP : Value) (A : List Wg × List Int) : Prop where
  s : GT B m vS A.1
  p : Grow 1 B m vP (A.2.map vi) A.2.length
  sep : ∀ i n n', vS = sl i n → vP ≠ sl i n'
theorem code2 (n base : Nat) {m : M} (hn : 10 ≤ n) (a b : Int) : ∃ m', (∀ K : Value → M → Res2, (k2 (xbuildSlice E.P m 33 2 [(0, vi a), (1, vi b)]) fun u m => kc (kB m (rt (n + 1) m.length 95 [u] m)) K (fun _ _ => none)) = K (vi (codeA 0 [a, b])) m') ∧ m' = m ++ [rowz 1 true [vi a, vi b]] := by
  refine ⟨_, fun K => ?_, rfl⟩
  have hI : Ints (m ++ [rowz 1 true [vi a, vi b]]) (sl m.length 2) [a, b] := by
    refine .inr ⟨m.length, 0, 2, rowz 1 true [vi a, vi b], rfl, by simp, by simp, rfl, by simp [rowz], fun j hj => ?_⟩
    have : j = 0 ∨ j = 1 := by simp at hj; omega
    rcases this with rfl | rfl <;> rfl
  rw [gb33_2, k2s, t95 n _ hI (by simp) (by simp; omega), kB_same, kcs]
end Go.AM
namespace Go.AM
open Go Go.Proofs
theorem Grow.via {z b : Nat} {m m' : M} {v : Value} {cs : List Value} {n : Nat} (h : Grow z b m v cs n) (hk : ∀ i n0, v = sl i n0 → m'[i]? = m[i]?) : Grow z b m' v cs n := by
  rcases h with h | ⟨r, h1, h2, h3, h4, h5⟩
  · exact .inl h
  · exact .inr ⟨r, h1, h2, h3, (hk r n h3).trans h4, h5⟩
theorem Grow.lt {z b : Nat} {m : M} {v : Value} {cs : List Value} {n : Nat} (h : Grow z b m v cs n) {i n0 : Nat} (e : v = sl i n0) : i < m.length := by
  rcases h with ⟨_, h2, _⟩ | ⟨r, h1, h2, h3, h4, h5⟩
  · rw [h2] at e
    simp at e
  · rw [h3] at e
    have hr := (List.getElem?_eq_some_iff.1 h4).1
    simp at e
    omega
theorem JM.push {B : Nat} {m : M} {vS vP : Value} {A : List Wg × List Int} (h : JM B m vS vP A) (x : List Row) : JM B (m ++ x) vS vP A :=
  ⟨Grow.via h.s fun i n e => List.getElem?_append_left (Grow.lt h.s e), h.p.via fun i n e => List.getElem?_append_left (h.p.lt e), h.sep⟩
theorem mb45 (a b c d : Int) : mbuild E.P 45 [(0, vi a), (1, vi b), (2, vi c), (3, vi d)] = some (tV (a, b, c, d)) := by kernel_rfl
set_option maxHeartbeats 2000000 in
theorem loop77b (n0 base : Nat) (kp : Value → M → Res2) (kx : Value → Value → Value → Value → Value → Value → M → Res2) (fuel : Nat) (x15 x16 x17 : Value) {m0 : M} {v1 : Value} {b : List Wg} (hn0 : 1000 ≤ n0) (hbb : base ≤ m0.length) (hT : Tiles m0 v1 b) (hb100 : b.length ≤ 100) (s : Wg) {q : Nat} :
    ∀ (n j : Nat) (m : M) (vS vP : Value) (A : List Wg × List Int), JM m0.length m vS vP A → m[q]? = some (cellR (tC s)) → (∀ n, vS ≠ sl q n) → (∀ n, vP ≠ sl q n) → Keeps m0.length m0 m → j ≤ b.length → b.length < n + j → A.1.length + (b.length - j) ≤ 900 → A.2.length + 2 * (b.length - j) ≤ 900 →
      ∃ (m' : M) (vS' vP' : Value), r77_L2 (rt (n0 + 1)) fuel base kp kx n v1 vS vP (pt q 0) x15 x16 x17 v1 (vi b.length) (vi j) m = kx v1 vS' vP' x15 x16 x17 m' ∧ JM m0.length m' vS' vP' (jRow s (b.drop j) A) ∧ Keeps m0.length m0 m'
  | 0, j, m, vS, vP, A, hJ, hbox, hq1, hq2, hk, h1, hn, hs1, hs2 => by omega
  | n + 1, j, m, vS, vP, A, hJ, hbox, hq1, hq2, hk, h1, hn, hs1, hs2 => by
    rw [r77_L2_s, lss3, k1s]
    by_cases hlt : j < b.length
    · obtain ⟨sa, sb, sc, sd⟩ := s
      obtain ⟨ta, tb, tc, td, ht⟩ : ∃ a b' c d : Int, b[j] = (a, b', c, d) := ⟨_, _, _, _, rfl⟩
      have hkl := hk.1
      have hql := (List.getElem?_eq_some_iff.1 hbox).1
      rw [List.drop_eq_getElem_cons hlt, ht]
      show ∃ (m' : M) (vS' vP' : Value), _ ∧ JM m0.length m' vS' vP' (jRow (sa, sb, sc, sd) (b.drop (j + 1)) (jStep (sa, sb, sc, sd) (ta, tb, tc, td) A)) ∧ _
      have hJ1 := hJ.push [cellR [vi ta, vi tb, vi tc, vi td]]
      have hk1 : Keeps m0.length m0 (m ++ [cellR [vi ta, vi tb, vi tc, vi td]]) := hk.trans (Keeps.push _ m hkl _)
      have bq1 : (m ++ [cellR [vi ta, vi tb, vi tc, vi td]])[q]? = some (cellR [vi sa, vi sb, vi sc, vi sd]) := by rw [List.getElem?_append_left hql]; exact hbox
      have bt1 : (m ++ [cellR [vi ta, vi tb, vi tc, vi td]])[m.length]? = some (cellR [vi ta, vi tb, vi tc, vi td]) := by simp
      have hl1 : (m ++ [cellR [vi ta, vi tb, vi tc, vi td]]).length = m.length + 1 := by simp
      rw [decide_eq_true (show (j : Int) < b.length by omega), kbt, (hT.keeps hk).get hlt, ht, letT (by omega), show cellR (tC (ta, tb, tc, td)) = cellR [vi ta, vi tb, vi tc, vi td] from rfl]
      generalize m ++ [cellR [vi ta, vi tb, vi tc, vi td]] = m1 at hJ1 hk1 bq1 bt1 hl1
      rw [(boxG bq1).2, (boxG bt1).1, neq3, k1s]
      by_cases hne : sc = ta
      · obtain ⟨m2, e2, r2⟩ := code2 n0 base (m := m1) (by omega) sb tb
        have hJ2 := hJ1.push [rowz 1 true [vi sb, vi tb]]
        have hk2 : Keeps m0.length m0 (m1 ++ [rowz 1 true [vi sb, vi tb]]) := hk1.trans (Keeps.push _ m1 hk1.1 _)
        have bq2 : (m1 ++ [rowz 1 true [vi sb, vi tb]])[q]? = some (cellR [vi sa, vi sb, vi sc, vi sd]) := by rw [List.getElem?_append_left (by omega)]; exact bq1
        have bt2 : (m1 ++ [rowz 1 true [vi sb, vi tb]])[m.length]? = some (cellR [vi ta, vi tb, vi tc, vi td]) := by rw [List.getElem?_append_left (by omega)]; exact bt1
        have hl2 : (m1 ++ [rowz 1 true [vi sb, vi tb]]).length = m.length + 2 := by simp [hl1]
        rw [← r2] at hJ2 hk2 bq2 bt2 hl2
        rw [decide_eq_true hne, Bool.not_true, kbf, (boxF bq1).1, (boxF bt1).1, e2, (boxF bq2).2.1, (boxF bt2).2.1]
        obtain ⟨m3, e3, r3⟩ := code2 n0 base (m := m2) (by omega) sd td
        have hJ3 := hJ2.push [rowz 1 true [vi sd, vi td]]
        have hk3 : Keeps m0.length m0 (m2 ++ [rowz 1 true [vi sd, vi td]]) := hk2.trans (Keeps.push _ m2 hk2.1 _)
        have bq3 : (m2 ++ [rowz 1 true [vi sd, vi td]])[q]? = some (cellR [vi sa, vi sb, vi sc, vi sd]) := by rw [List.getElem?_append_left (by omega)]; exact bq2
        have bt3 : (m2 ++ [rowz 1 true [vi sd, vi td]])[m.length]? = some (cellR [vi ta, vi tb, vi tc, vi td]) := by rw [List.getElem?_append_left (by omega)]; exact bt2
        have hl3 : (m2 ++ [rowz 1 true [vi sd, vi td]]).length = m.length + 3 := by simp [hl2]
        rw [← r3] at hJ3 hk3 bq3 bt3 hl3
        rw [e3]
        have hPlt : ∀ i n', vP = sl i n' → i < m.length := fun i n' e => hJ.p.lt e
        have hSlt : ∀ i n', vS = sl i n' → i < m.length := fun i n' e => Grow.lt hJ.s e
        obtain ⟨vP', m4, e4, g4, k4, o4, w4⟩ := gg33p hJ3.p (by omega) hbb hk3.1 (codeA 0 [sb, tb]) (codeA 0 [sd, td])
        have bq4 : m4[q]? = some (cellR [vi sa, vi sb, vi sc, vi sd]) := by rw [o4 q (by omega) hq2]; exact bq3
        have bt4 : m4[m.length]? = some (cellR [vi ta, vi tb, vi tc, vi td]) := by rw [o4 m.length (by omega) (fun n' e => by have := hPlt _ _ e; omega)]; exact bt3
        have S4 : GT m0.length m4 vS A.1 := Grow.via hJ3.s fun i n' e => o4 i (by have := hSlt i n' e; omega) (fun n'' => hJ.sep i n' n'' e)
        have hk4 : Keeps m0.length m0 m4 := hk3.trans k4
        rw [e4, (boxG bq4).1, (boxG bt4).2, mb45, k1s, letT (show base ≤ m4.length by have := hk4.1; omega)]
        have hj2 : jStep (sa, sb, sc, sd) (ta, tb, tc, td) A = ((if jT (sa, sb, sc, sd) (ta, tb, tc, td) ∈ A.1 then A.1 else A.1 ++ [jT (sa, sb, sc, sd) (ta, tb, tc, td)]), A.2 ++ [codeA 0 [sb, tb], codeA 0 [sd, td]]) := if_pos hne
        rw [hj2]
        show ∃ (m' : M) (vS' vP' : Value), (k1n (xload E.P (m4 ++ [cellR [vi sa, vi (codeA 0 [sb, tb]), vi tc, vi (codeA 0 [sd, td])]]) 45 (pt m4.length 0)) _) = _ ∧ _
        have b5 : (m4 ++ [cellR [vi sa, vi (codeA 0 [sb, tb]), vi tc, vi (codeA 0 [sd, td])]])[m4.length]? = some (cellR [vi sa, vi (codeA 0 [sb, tb]), vi tc, vi (codeA 0 [sd, td])]) := by simp
        have bq5 : (m4 ++ [cellR [vi sa, vi (codeA 0 [sb, tb]), vi tc, vi (codeA 0 [sd, td])]])[q]? = some (cellR [vi sa, vi sb, vi sc, vi sd]) := by rw [List.getElem?_append_left (by have := (List.getElem?_eq_some_iff.1 bq4).1; omega)]; exact bq4
        have hk5 : Keeps m0.length m0 (m4 ++ [cellR [vi sa, vi (codeA 0 [sb, tb]), vi tc, vi (codeA 0 [sd, td])]]) := hk4.trans (Keeps.push _ m4 hk4.1 _)
        have S5 : GT m0.length (m4 ++ [cellR [vi sa, vi (codeA 0 [sb, tb]), vi tc, vi (codeA 0 [sd, td])]]) vS A.1 := Grow.via S4 fun i n' e => List.getElem?_append_left (Grow.lt S4 e)
        have P5 : Grow 1 m0.length (m4 ++ [cellR [vi sa, vi (codeA 0 [sb, tb]), vi tc, vi (codeA 0 [sd, td])]]) vP' ((A.2 ++ [codeA 0 [sb, tb], codeA 0 [sd, td]]).map vi) (A.2 ++ [codeA 0 [sb, tb], codeA 0 [sd, td]]).length := by
          rw [List.map_append, List.length_append]
          exact g4.via fun i n' e => List.getElem?_append_left (g4.lt e)
        have hq2' : ∀ n', vP' ≠ sl q n' := fun n' e => by have := (w4 q n' e).1; omega
        generalize m4 ++ [cellR [vi sa, vi (codeA 0 [sb, tb]), vi tc, vi (codeA 0 [sd, td])]] = m5 at b5 bq5 hk5 S5 P5
        have hsep5 : ∀ i n' n'', vS = sl i n' → vP' ≠ sl i n'' := fun i n' n'' e e2 => by have := (w4 i n'' e2).1; have := hSlt i n' e; omega
        obtain ⟨z, rfl⟩ : ∃ z, n0 = z + 1 := ⟨n0 - 1, by omega⟩
        rw [(boxF b5).2.2, t84 z base (S5.tiles) (by omega) (by omega), kcs, not4, k1s]
        by_cases hin : (sa, codeA 0 [sb, tb], tc, codeA 0 [sd, td]) ∈ A.1
        · have hin' : jT (sa, sb, sc, sd) (ta, tb, tc, td) ∈ A.1 := hin
          rw [decide_eq_true hin, Bool.not_true, kbf, add1 j (by omega), k1s, if_pos hin']
          exact loop77b (z + 1) base kp kx fuel x15 x16 x17 hn0 hbb hT hb100 _ n (j + 1) m5 vS vP' _ ⟨S5, P5, hsep5⟩ bq5 hq1 hq2' hk5 (by omega) (by omega) (by show A.1.length + _ ≤ 900; omega) (by show (A.2 ++ _).length + _ ≤ 900; simp; omega)
        · have hin' : ¬ jT (sa, sb, sc, sd) (ta, tb, tc, td) ∈ A.1 := hin
          obtain ⟨vS', m6, e6, g6, k6, o6, w6⟩ := gg22 S5 (by omega) hbb hk5.1 sa (codeA 0 [sb, tb]) tc (codeA 0 [sd, td])
          have hP5lt : ∀ i n', vP' = sl i n' → i < m5.length := fun i n' e => P5.lt e
          rw [decide_eq_false hin, Bool.not_false, kbt, (boxF b5).2.2, e6, add1 j (by omega), k1s, if_neg hin']
          refine loop77b (z + 1) base kp kx fuel x15 x16 x17 hn0 hbb hT hb100 _ n (j + 1) m6 vS' vP' _ ⟨?_, P5.via fun i n' e => o6 i (hP5lt i n' e) (fun n'' e2 => hsep5 i n'' n' e2 e), fun i n' n'' e e2 => ?_⟩ ?_ (fun n' e => ?_) hq2' (hk5.trans k6) (by omega) (by omega) (by show (A.1 ++ _).length + _ ≤ 900; simp; omega) (by show (A.2 ++ _).length + _ ≤ 900; simp; omega)
          · show Grow 4 m0.length m6 vS' ((A.1 ++ [jT (sa, sb, sc, sd) (ta, tb, tc, td)]).flatMap tC) (A.1 ++ [jT (sa, sb, sc, sd) (ta, tb, tc, td)]).length
            rw [List.flatMap_append, List.length_append]
            simpa [jT] using g6
          · have := (w6 i n' e).1
            have := hP5lt i n'' e2
            omega
          · rw [o6 q (List.getElem?_eq_some_iff.1 bq5).1 hq1]
            exact bq5
          · have := (w6 q n' e).1
            have := (List.getElem?_eq_some_iff.1 bq5).1
            omega
      · have hst : jStep (sa, sb, sc, sd) (ta, tb, tc, td) A = A := if_neg hne
        rw [decide_eq_false hne, Bool.not_false, kbt, add1 j (by have := hs1; omega), k1s, hst]
        exact loop77b n0 base kp kx fuel x15 x16 x17 hn0 hbb hT hb100 _ n (j + 1) m1 vS vP A hJ1 bq1 hq1 hq2 hk1 (by omega) (by omega) (by omega) (by omega)
    · have hj : j = b.length := by omega
      rw [decide_eq_false (show ¬ (j : Int) < b.length by omega), kbf, List.drop_eq_nil_of_le (by omega)]
      exact ⟨m, vS, vP, rfl, hJ, hk⟩
end Go.AM
namespace Go.AM
open Go Go.Proofs
theorem jRow_len (s : Wg) : ∀ (b : List Wg) (A : List Wg × List Int), (jRow s b A).1.length ≤ A.1.length + b.length ∧ (jRow s b A).2.length ≤ A.2.length + 2 * b.length
  | [], A => ⟨Nat.le_refl _, Nat.le_refl _⟩
  | t :: b, A => by
    have h1 : (jStep s t A).1.length ≤ A.1.length + 1 ∧ (jStep s t A).2.length ≤ A.2.length + 2 := by
      unfold jStep
      split
      · refine ⟨?_, by simp⟩
        show (if jT s t ∈ A.1 then A.1 else A.1 ++ [jT s t]).length ≤ _
        split
        · omega
        · simp
      · exact ⟨by omega, by omega⟩
    have := jRow_len s b (jStep s t A)
    show (jRow s b (jStep s t A)).1.length ≤ _ ∧ (jRow s b (jStep s t A)).2.length ≤ _
    simp only [List.length_cons]
    omega
theorem loop77a (n0 base : Nat) (kp : Value → M → Res2) (kx : Value → Value → M → Res2) (fuel : Nat) {m0 : M} {v0 v1 : Value} {a b : List Wg} (hn0 : 1000 ≤ n0) (hbb : base ≤ m0.length) (hA : Tiles m0 v0 a) (hT : Tiles m0 v1 b) (ha : a.length ≤ 16) (hb : b.length ≤ 16) (hf : 100 ≤ fuel) :
    ∀ (n i : Nat) (m : M) (vS vP : Value) (A : List Wg × List Int), JM m0.length m vS vP A → Keeps m0.length m0 m → i ≤ a.length → a.length < n + i → A.1.length ≤ i * 16 → A.2.length ≤ i * 32 →
      ∃ (m' : M) (vS' vP' : Value), r77_L0 (rt (n0 + 1)) fuel base kp kx n v1 vS vP v0 (vi a.length) (vi i) m = kx vS' vP' m' ∧ JM m0.length m' vS' vP' (jAll (a.drop i) b A) ∧ Keeps m0.length m0 m' ∧ (jAll (a.drop i) b A).1.length ≤ 256 ∧ (jAll (a.drop i) b A).2.length ≤ 512
  | 0, i, m, vS, vP, A, hJ, hk, h1, hn, hs1, hs2 => by omega
  | n + 1, i, m, vS, vP, A, hJ, hk, h1, hn, hs1, hs2 => by
    rw [r77_L0_s, lss3, k1s]
    by_cases hlt : i < a.length
    · have hkl := hk.1
      have hJ1 := hJ.push [cellR (tC a[i])]
      have hk1 : Keeps m0.length m0 (m ++ [cellR (tC a[i])]) := hk.trans (Keeps.push _ m hkl _)
      have hbox : (m ++ [cellR (tC a[i])])[m.length]? = some (cellR (tC a[i])) := by simp
      obtain ⟨m2, vS2, vP2, e2, J2, k2⟩ := loop77b n0 base (fun v m => kp v m) (fun y1_45 y6_46 y7_47 y15_48 y16_49 y17_50 m => (k1n (mbin E .add 3 y17_50 (.int .i64 1)) fun v65_51 => (r77_L0 (rt (n0 + 1)) fuel base kp kx n y1_45 y6_46 y7_47 y15_48 y16_49 v65_51 m))) fuel v0 (vi a.length) (vi i) hn0 hbb hT (by omega) a[i] (q := m.length) fuel 0 _ vS vP A hJ1 hbox (fun n' e => by have := Grow.lt hJ.s e; omega) (fun n' e => by have := hJ.p.lt e; omega) hk1 (Nat.zero_le _) (by omega) (by omega) (by omega)
      rw [decide_eq_true (show (i : Int) < a.length by omega), kbt, (hA.keeps hk).get hlt, letT (by omega), (hT.keeps hk1).len, k2s, i0, e2, add1 i (by omega), k1s, List.drop_eq_getElem_cons hlt]
      rw [List.drop_zero] at J2
      have hl := jRow_len a[i] b A
      exact loop77a n0 base kp kx fuel hn0 hbb hA hT ha hb hf n (i + 1) m2 vS2 vP2 _ J2 k2 (by omega) (by omega) (by omega) (by omega)
    · have hi : i = a.length := by omega
      rw [decide_eq_false (show ¬ (i : Int) < a.length by omega), kbf, List.drop_eq_nil_of_le (by omega)]
      exact ⟨m, vS, vP, rfl, hJ, hk, by show A.1.length ≤ 256; omega, by show A.2.length ≤ 512; omega⟩
theorem t77 (n0 base : Nat) {m : M} {v0 v1 : Value} {a b : List Wg} (hn0 : 3000 ≤ n0) (hbb : base ≤ m.length) (hA : Tiles m v0 a) (hT : Tiles m v1 b) (ha : a.length ≤ 16) (hb : b.length ≤ 16) :
    ∃ (m' : M) (vS u : Value) (P : List Int), rt (n0 + 2) base 77 [v0, v1] m = some (.ret (.tuple #[vS, u]), m') ∧ Tiles m' vS (jAll a b ([], [])).1 ∧ Ints m' u P ∧ Dist (jAll a b ([], [])).2 P ∧ Keeps m.length m m' ∧ P.length ≤ 512 ∧ (jAll a b ([], [])).1.length ≤ 256 := by
  rw [rt_imp (f := 77) (rf := rf77) (by kernel_rfl) (by kernel_rfl) (by kernel_rfl) (n0 + 1) base]
  show ∃ (m' : M) (vS u : Value) (P : List Int), r77 (rt (n0 + 1)) (n0 + 1) base v0 v1 m = _ ∧ _
  have hJ0 : JM m.length m nilS nilS ([], []) := ⟨.inl ⟨rfl, rfl, rfl⟩, .inl ⟨rfl, rfl, rfl⟩, fun i n n' e => by simp at e⟩
  obtain ⟨m1, vS, vP, e1, J1, k1, l1, l2⟩ := loop77a n0 base (fun v m => some (.pan v, m)) (fun y6_52 y7_53 m => (kc (rt (n0 + 1) base 109 [y7_53] m) (fun v67_54 m => (kc (rt (n0 + 1) base 110 [y7_53] m) (fun v70_55 m => (some (.ret (.tuple #[y6_52, v70_55]), m))) (fun v m => some (.pan v, m)))) (fun v m => some (.pan v, m)))) (n0 + 1) (by omega) hbb hA hT ha hb (by omega) (n0 + 1) 0 m nilS nilS ([], []) hJ0 (Keeps.refl _ _) (Nat.zero_le _) (by omega) (by simp) (by simp)
  rw [List.drop_zero] at J1 l1 l2
  obtain ⟨m2, m3, u, P, e2, e3, hI, hD, k3, hl, o3⟩ := sortC (n0 + 1) base J1.p hbb (by omega) (by omega)
  have hS : GT m.length m3 vS (jAll a b ([], [])).1 := Grow.via J1.s fun i n' e => o3 i (Grow.lt J1.s e) (fun n'' => J1.sep i n' n'' e)
  unfold r77
  rw [vcall_fun, hA.len, k2s, i0, e1, e2, kcs, e3, kcs]
  exact ⟨m3, vS, u, P, rfl, hS.tiles, hI, hD, k1.trans k3, by omega, l1⟩
end Go.AM
namespace Go.AM
open Go Go.Proofs
/-- Product's error. -/
def prE (a b : List Wg) (P : List Int) : Nat := if isS a && isS b then (if 16 < (jAll a b ([], [])).1.length ∨ 8 < P.length then 8 else 0) else 2
theorem t43 (n0 base : Nat) {m : M} {v0 v1 : Value} {a b : List Wg} (hn0 : 3000 ≤ n0) (hbb : base ≤ m.length) (hA : Tiles m v0 a) (hT : Tiles m v1 b) :
    ∃ (m' : M) (v : Value) (P : List Int), rt (n0 + 3) base 43 [v0, v1] m = some (.ret (.tuple #[v, vi (prE a b P)]), m') ∧ Tiles m' v (if prE a b P = 0 then (jAll a b ([], [])).1.map (rnT P) else []) ∧ (isS a = true → isS b = true → Dist (jAll a b ([], [])).2 P) ∧ Keeps m.length m m' := by
  rw [rt_imp (f := 43) (rf := rf43) (by kernel_rfl) (by kernel_rfl) (by kernel_rfl) (n0 + 2) base]
  show ∃ (m' : M) (v : Value) (P : List Int), r43 (rt (n0 + 2)) (n0 + 2) base v0 v1 m = _ ∧ _
  unfold r43
  rw [k1_fun, vcall_fun, t48 (n0 + 1) _ (by omega) hA, kcs, not4, k1s]
  cases hSa : isS a with
  | false =>
    rw [Bool.not_false, kbt]
    have hE : ∀ P, prE a b P = 2 := fun P => by unfold prE; rw [hSa]; rfl
    refine ⟨m, nilS, [], ?_, ?_, fun h => by simp at h, Keeps.refl _ _⟩
    · rw [hE]; rfl
    · rw [hE]; exact .inl ⟨rfl, .inl rfl⟩
  | true =>
    rw [Bool.not_true, kbf, t48 (n0 + 1) _ (by omega) hT, kcs, not4, k1s]
    cases hSb : isS b with
    | false =>
      rw [Bool.not_false, kbt]
      have hE : ∀ P, prE a b P = 2 := fun P => by unfold prE; rw [hSa, hSb]; rfl
      refine ⟨m, nilS, [], ?_, ?_, fun _ h => by simp at h, Keeps.refl _ _⟩
      · rw [hE]; rfl
      · rw [hE]; exact .inl ⟨rfl, .inl rfl⟩
    | true =>
      obtain ⟨m1, vS, u, P, e1, h1, hI, hD, k1, l1, l2⟩ := t77 n0 base hn0 hbb hA hT (isS_facts hSa).2.1 (isS_facts hSb).2.1
      rw [Bool.not_true, kbf, e1, kcs, ex20, k1s, ex21, k1s, h1.len, k2s, show (.int .i64 16 : Value) = vi (16 : Nat) from rfl, gtr3, k1s]
      by_cases h16 : 16 < (jAll a b ([], [])).1.length
      · have hE : prE a b P = 8 := by unfold prE; rw [hSa, hSb, if_pos (show (true && true) = true from rfl), if_pos (.inl h16)]
        rw [decide_eq_true (show (((jAll a b ([], [])).1.length : Nat) : Int) > (16 : Nat) by omega), kbt]
        refine ⟨m1, nilS, P, ?_, ?_, fun _ _ => hD, k1⟩
        · rw [hE]; rfl
        · rw [hE]; exact .inl ⟨rfl, .inl rfl⟩
      · rw [decide_eq_false (show ¬ (((jAll a b ([], [])).1.length : Nat) : Int) > (16 : Nat) by omega), kbf, hI.len, k2s, show (.int .i64 8 : Value) = vi (8 : Nat) from rfl, gtr3, k1s]
        by_cases h8 : 8 < P.length
        · have hE : prE a b P = 8 := by unfold prE; rw [hSa, hSb, if_pos (show (true && true) = true from rfl), if_pos (.inr h8)]
          rw [decide_eq_true (show ((P.length : Nat) : Int) > (8 : Nat) by omega), kbt]
          refine ⟨m1, nilS, P, ?_, ?_, fun _ _ => hD, k1⟩
          · rw [hE]; try rfl
          · rw [hE]; exact .inl ⟨rfl, .inl rfl⟩
        · have hE : prE a b P = 0 := by unfold prE; rw [hSa, hSb, if_pos (show (true && true) = true from rfl), if_neg (by omega)]
          obtain ⟨v', m2, e2, h2, k2⟩ := t78 n0 base (Nat.le_trans hbb k1.1) h1 hI (by omega) (by omega) (by omega)
          rw [decide_eq_false (show ¬ ((P.length : Nat) : Int) > (8 : Nat) by omega), kbf, e2, kcs]
          refine ⟨m2, v', P, ?_, ?_, fun _ _ => hD, k1.trans (k2.mono k1.1)⟩
          · rw [hE]; rfl
          · rw [hE]; exact h2
end Go.AM
namespace Go.AM
open Go Go.Proofs
/-- Without repetitions. -/
def dd : List Wg → List Wg → List Wg
  | [], acc => acc
  | t :: l, acc => dd l (if t ∈ acc then acc else acc ++ [t])
theorem dd_app : ∀ (l l' acc : List Wg), dd (l ++ l') acc = dd l' (dd l acc)
  | [], _, _ => rfl
  | t :: l, l', acc => dd_app l l' _
/-- All products, with repetitions. -/
def pRow (s : Wg) (b : List Wg) : List Wg := (b.filter fun t => decide (s.2.2.1 = t.1)).map (jT s)
def pAll (a b : List Wg) : List Wg := a.flatMap fun s => pRow s b
def codesL (l : List Wg) : List Int := l.flatMap fun t => [t.2.1, t.2.2.2]
theorem jRow_eq (s : Wg) : ∀ (b : List Wg) (A : List Wg × List Int), jRow s b A = (dd (pRow s b) A.1, A.2 ++ codesL (pRow s b))
  | [], A => by simp [jRow, pRow, dd, codesL]
  | t :: b, A => by
    show jRow s b (jStep s t A) = _
    rw [jRow_eq s b]
    unfold jStep pRow
    by_cases h : s.2.2.1 = t.1
    · rw [if_pos h, List.filter_cons_of_pos (by simp [h])]
      show _ = (dd (_) (if jT s t ∈ A.1 then A.1 else A.1 ++ [jT s t]), A.2 ++ ([(jT s t).2.1, (jT s t).2.2.2] ++ codesL _))
      rw [← List.append_assoc]
    · rw [if_neg h, List.filter_cons_of_neg (by simp [h])]
theorem jAll_eq : ∀ (a b : List Wg) (A : List Wg × List Int), jAll a b A = (dd (pAll a b) A.1, A.2 ++ codesL (pAll a b))
  | [], b, A => by simp [jAll, pAll, dd, codesL]
  | s :: a, b, A => by
    show jAll a b (jRow s b A) = _
    rw [jAll_eq a b, jRow_eq]
    show (dd (pAll a b) (dd (pRow s b) A.1), (A.2 ++ codesL (pRow s b)) ++ codesL (pAll a b)) = (dd (pRow s b ++ pAll a b) A.1, A.2 ++ codesL (pRow s b ++ pAll a b))
    rw [dd_app, List.append_assoc]
    unfold codesL
    rw [List.flatMap_append]
end Go.AM
namespace Go.AM
open Go Go.Proofs
theorem idx_inj {P : List Int} {x y : Int} (hx : x ∈ P) (hy : y ∈ P) (h : idxC P x 0 = idxC P y 0) : x = y := by
  obtain ⟨k, e1, _, g1⟩ := idxC_mem (i := 0) hx
  obtain ⟨q, e2, _, g2⟩ := idxC_mem (i := 0) hy
  rw [e1, e2] at h
  have : k = q := by omega
  rw [← g1, ← g2, this]
end Go.AM
namespace Go.AM
open Go Go.Proofs
theorem isS_mk {l : List Wg} (h1 : 1 ≤ l.length) (h2 : l.length ≤ 16) (h3 : ∀ t ∈ l, colT t) (h4 : l.Nodup) : isS l = true := by
  unfold isS
  rw [decide_eq_true h1, decide_eq_true h2, Bool.true_and, Bool.true_and, allFrom_iff]
  intro j _ hj
  have hj : j < l.length := by omega
  rw [okAt_eq hj, Bool.and_eq_true]
  constructor
  · have hc := h3 _ (List.getElem_mem hj)
    have hb : ∀ {d : Int}, col d → (!badc d) = true := fun h => by rw [badc_col h]; rfl
    unfold okT
    rw [hb hc.1, hb hc.2.1, hb hc.2.2.1, hb hc.2.2.2]
    rfl
  · rw [Bool.not_eq_true', decide_eq_false_iff_not]
    intro hm
    obtain ⟨i, hi, e⟩ := List.mem_iff_getElem.1 hm
    have hi2 : i < j := by rw [List.length_take] at hi; omega
    rw [List.getElem_take] at e
    exact (List.pairwise_iff_getElem.1 h4 i j (by omega) hj hi2) e
theorem dd_mem : ∀ (l acc : List Wg) (x : Wg), x ∈ dd l acc ↔ x ∈ acc ∨ x ∈ l
  | [], acc, x => by simp [dd]
  | t :: l, acc, x => by
    show x ∈ dd l (if t ∈ acc then acc else acc ++ [t]) ↔ _
    rw [dd_mem l]
    by_cases h : t ∈ acc
    · rw [if_pos h, List.mem_cons]
      constructor
      · rintro (h1 | h1)
        · exact .inl h1
        · exact .inr (.inr h1)
      · rintro (h1 | rfl | h1)
        · exact .inl h1
        · exact .inl h
        · exact .inr h1
    · rw [if_neg h, List.mem_append, List.mem_singleton, List.mem_cons]
      constructor
      · rintro ((h1 | h1) | h1)
        · exact .inl h1
        · exact .inr (.inl h1)
        · exact .inr (.inr h1)
      · rintro (h1 | h1 | h1)
        · exact .inl (.inl h1)
        · exact .inl (.inr h1)
        · exact .inr h1
theorem dd_nodup : ∀ (l acc : List Wg), acc.Nodup → (dd l acc).Nodup
  | [], acc, h => h
  | t :: l, acc, h => by
    show (dd l (if t ∈ acc then acc else acc ++ [t])).Nodup
    refine dd_nodup l _ ?_
    split
    · exact h
    · rename_i hn
      rw [List.nodup_append]
      exact ⟨h, by simp, fun x hx y hy e => by simp at hy; subst hy; subst e; exact hn hx⟩
theorem mem_pAll {a b : List Wg} {x : Wg} : x ∈ pAll a b ↔ ∃ s ∈ a, ∃ t ∈ b, s.2.2.1 = t.1 ∧ x = jT s t := by
  unfold pAll pRow
  simp only [List.mem_flatMap, List.mem_map, List.mem_filter, decide_eq_true_eq]
  constructor
  · rintro ⟨s, hs, t, ⟨ht, h⟩, rfl⟩; exact ⟨s, hs, t, ht, h, rfl⟩
  · rintro ⟨s, hs, t, ht, h, rfl⟩; exact ⟨s, hs, t, ⟨ht, h⟩, rfl⟩
theorem code2_inj {x y z u : Int} (hx : col x) (hy : col y) (hz : col z) (hu : col u) (h : codeA 0 [x, y] = codeA 0 [z, u]) : x = z ∧ y = u := by
  unfold col at *
  have e : ∀ p q : Int, 0 ≤ p → p < 8 → 0 ≤ q → q < 8 → codeA 0 [p, q] = p * 8 + q := fun p q h1 h2 h3 h4 => by
    show wr (wr (wr (wr (0 * 8) + p) * 8) + q) = _
    rw [show wr (0 * 8) = 0 from wr_id (by omega) (by omega), wr_id (n := 0 + p) (by omega) (by omega), wr_id (n := (0 + p) * 8) (by omega) (by omega), wr_id (by omega) (by omega)]
    omega
  rw [e x y (by omega) (by omega) (by omega) (by omega), e z u (by omega) (by omega) (by omega) (by omega)] at h
  omega
/-- Rows of tiles with given Norths. -/
def RowOf (l : List Wg) (nn cs : List Int) : Prop := ∃ ts : List Wg, (∀ t ∈ ts, t ∈ l) ∧ Ch (fun _ => True) ts ∧ nsO ts = nn ∧ ssO ts = cs
theorem mem_rows {l : List Wg} (hcol : ∀ t ∈ l, colT t) {nn cs : List Int} : cs ∈ rfL l (fun x => some (nn.getD x 0)) nn.length [] 255 ↔ RowOf l nn cs := by
  rw [mem_rfL hcol]
  constructor
  · rintro ⟨ts, a1, a2, a3, a4, a5⟩
    exact ⟨ts, a2, (Ch_255 hcol a2).1 a3, (NoOk_some nn ts 0 (by rw [Nat.zero_add, a1])).1 a4, by rw [a5]; rfl⟩
  · rintro ⟨ts, a2, a3, a4, a5⟩
    have a1 : ts.length = nn.length := by rw [← a4]; simp
    exact ⟨ts, a1, a2, (Ch_255 hcol a2).2 a3, (NoOk_some nn ts 0 (by rw [Nat.zero_add, a1])).2 a4, by rw [← a5]; rfl⟩
section Trans
theorem zip_ch {P : List Int} {a b : List Wg} : ∀ (ss tt : List Wg) (Q1 Q2 Q : Int → Prop), (∀ s ∈ ss, s ∈ a) → (∀ t ∈ tt, t ∈ b) → Ch Q1 ss → Ch Q2 tt → ssO ss = nsO tt → (∀ x y, Q1 x → Q2 y → Q (idxC P (codeA 0 [x, y]) 0)) →
    ∃ ts : List Wg, (∀ t ∈ ts, ∃ x ∈ pAll a b, t = rnT P x) ∧ Ch Q ts ∧ nsO ts = nsO ss ∧ ssO ts = ssO tt
  | [], [], Q1, Q2, Q, _, _, _, _, _, _ => ⟨[], by simp, trivial, rfl, rfl⟩
  | [], t :: tt, _, _, _, _, _, _, _, h, _ => by simp [ssO, nsO] at h
  | s :: ss, [], _, _, _, _, _, _, _, h, _ => by simp [ssO, nsO] at h
  | s :: ss, t :: tt, Q1, Q2, Q, ha, hb, h1, h2, he, hQ => by
    have he' : s.2.2.1 = t.1 ∧ ssO ss = nsO tt := by
      have := he
      simp only [ssO, nsO, List.map_cons, List.cons.injEq] at this
      exact this
    obtain ⟨ts, e1, e2, e3, e4⟩ := zip_ch ss tt (fun x => x = s.2.1) (fun x => x = t.2.1) (fun x => x = idxC P (codeA 0 [s.2.1, t.2.1]) 0) (fun u hu => ha u (by simp [hu])) (fun u hu => hb u (by simp [hu])) h1.2 h2.2 he'.2 (fun x y hx hy => by rw [hx, hy])
    refine ⟨rnT P (jT s t) :: ts, fun u hu => ?_, ⟨hQ _ _ h1.1 h2.1, e2⟩, ?_, ?_⟩
    · rcases List.mem_cons.1 hu with rfl | hu
      · exact ⟨jT s t, mem_pAll.2 ⟨s, ha s (by simp), t, hb t (by simp), he'.1, rfl⟩, rfl⟩
      · exact e1 u hu
    · show s.1 :: nsO ts = s.1 :: nsO ss
      rw [e3]
    · show t.2.2.1 :: ssO ts = t.2.2.1 :: ssO tt
      rw [e4]
theorem unzip_ch {P : List Int} {a b : List Wg} (hca : ∀ t ∈ a, colT t) (hcb : ∀ t ∈ b, colT t) (hP : ∀ x, x ∈ P ↔ x ∈ codesL (pAll a b)) : ∀ (ts : List Wg) (Q1 Q2 Q : Int → Prop), (∀ t ∈ ts, ∃ x ∈ pAll a b, t = rnT P x) → Ch Q ts → (∀ s ∈ a, ∀ t ∈ b, s.2.2.1 = t.1 → Q (idxC P (codeA 0 [s.2.2.2, t.2.2.2]) 0) → Q1 s.2.2.2 ∧ Q2 t.2.2.2) →
    ∃ ss tt : List Wg, (∀ s ∈ ss, s ∈ a) ∧ (∀ t ∈ tt, t ∈ b) ∧ Ch Q1 ss ∧ Ch Q2 tt ∧ nsO ss = nsO ts ∧ ssO ss = nsO tt ∧ ssO tt = ssO ts
  | [], _, _, _, _, _, _ => ⟨[], [], by simp, by simp, trivial, trivial, rfl, rfl, rfl⟩
  | x :: ts, Q1, Q2, Q, hx, hc, hQ => by
    obtain ⟨y, hy, rfl⟩ := hx x (by simp)
    obtain ⟨s, hs, t, ht, hst, rfl⟩ := mem_pAll.1 hy
    obtain ⟨q1, q2⟩ := hQ s hs t ht hst hc.1
    obtain ⟨ss, tt, e1, e2, e3, e4, e5, e6, e7⟩ := unzip_ch hca hcb hP ts (fun x => x = s.2.1) (fun x => x = t.2.1) (fun x => x = idxC P (codeA 0 [s.2.1, t.2.1]) 0) (fun u hu => hx u (by simp [hu])) hc.2 (fun s' hs' t' ht' hst' he => by
      have hm : ∀ s ∈ a, ∀ t ∈ b, s.2.2.1 = t.1 → codeA 0 [s.2.1, t.2.1] ∈ P ∧ codeA 0 [s.2.2.2, t.2.2.2] ∈ P := fun s hs t ht hst => by
        have h := mem_pAll.2 ⟨s, hs, t, ht, hst, rfl⟩
        exact ⟨(hP _).2 (List.mem_flatMap.2 ⟨_, h, by simp [jT]⟩), (hP _).2 (List.mem_flatMap.2 ⟨_, h, by simp [jT]⟩)⟩
      have he2 := idx_inj (hm s' hs' t' ht' hst').2 (hm s hs t ht hst).1 he
      exact code2_inj (hca s' hs').2.2.2 (hcb t' ht').2.2.2 (hca s hs).2.1 (hcb t ht).2.1 he2)
    refine ⟨s :: ss, t :: tt, fun u hu => ?_, fun u hu => ?_, ⟨q1, e3⟩, ⟨q2, e4⟩, ?_, ?_, ?_⟩
    · rcases List.mem_cons.1 hu with rfl | hu
      · exact hs
      · exact e1 u hu
    · rcases List.mem_cons.1 hu with rfl | hu
      · exact ht
      · exact e2 u hu
    · show s.1 :: nsO ss = s.1 :: nsO ts
      rw [e5]
    · show s.2.2.1 :: ssO ss = t.1 :: nsO tt
      rw [hst, e6]
    · show t.2.2.1 :: ssO tt = t.2.2.1 :: ssO ts
      rw [e7]
end Trans
/-- The set that Product returns. -/
abbrev pset (a b : List Wg) (P : List Int) : List Wg := (jAll a b ([], [])).1.map (rnT P)
theorem mem_pset {a b : List Wg} {P : List Int} {t : Wg} : t ∈ pset a b P ↔ ∃ x ∈ pAll a b, t = rnT P x := by
  unfold pset
  rw [jAll_eq, List.mem_map]
  simp only [dd_mem, List.not_mem_nil, false_or]
  exact ⟨fun ⟨x, h1, h2⟩ => ⟨x, h1, h2.symm⟩, fun ⟨x, h1, h2⟩ => ⟨x, h1, h2.symm⟩⟩
theorem dist_mem {a b : List Wg} {P : List Int} (hD : Dist (jAll a b ([], [])).2 P) (x : Int) : x ∈ P ↔ x ∈ codesL (pAll a b) := by
  rw [hD.2, jAll_eq]
  simp
/-- A row of the product is a row of the one and below it a row of the other. -/
theorem trans_iff {a b : List Wg} (hca : ∀ t ∈ a, colT t) (hcb : ∀ t ∈ b, colT t) {P : List Int} (hD : Dist (jAll a b ([], [])).2 P) (nn cs : List Int) : RowOf (pset a b P) nn cs ↔ ∃ mid, RowOf a nn mid ∧ RowOf b mid cs := by
  constructor
  · rintro ⟨ts, h1, h2, h3, h4⟩
    obtain ⟨ss, tt, e1, e2, e3, e4, e5, e6, e7⟩ := unzip_ch hca hcb (dist_mem hD) ts (fun _ => True) (fun _ => True) (fun _ => True) (fun t ht => mem_pset.1 (h1 t ht)) h2 (fun _ _ _ _ _ _ => ⟨trivial, trivial⟩)
    exact ⟨ssO ss, ⟨ss, e1, e3, by rw [e5, h3], rfl⟩, ⟨tt, e2, e4, e6.symm, by rw [e7, h4]⟩⟩
  · rintro ⟨mid, ⟨ss, a1, a2, a3, a4⟩, ⟨tt, b1, b2, b3, b4⟩⟩
    obtain ⟨ts, e1, e2, e3, e4⟩ := zip_ch (P := P) ss tt (fun _ => True) (fun _ => True) (fun _ => True) a1 b1 a2 b2 (by rw [a4, b3]) (fun _ _ _ _ => trivial)
    exact ⟨ts, fun t ht => mem_pset.2 (e1 t ht), e2, by rw [e3, a3], by rw [e4, b4]⟩
theorem idxC_range {P : List Int} {c : Int} (h : c ∈ P) : 0 ≤ idxC P c 0 ∧ idxC P c 0 < P.length := by
  obtain ⟨k, e, h1, _⟩ := idxC_mem (i := 0) h
  omega
/-- The product is a set. -/
theorem pset_isS {a b : List Wg} (hSa : isS a = true) (hSb : isS b = true) {P : List Int} (hD : Dist (jAll a b ([], [])).2 P) (h1 : 1 ≤ (pset a b P).length) (h16 : (pset a b P).length ≤ 16) (h8 : P.length ≤ 8) : isS (pset a b P) = true := by
  obtain ⟨_, _, hca⟩ := isS_facts hSa
  obtain ⟨_, _, hcb⟩ := isS_facts hSb
  have hm : ∀ x ∈ pAll a b, x.2.1 ∈ P ∧ x.2.2.2 ∈ P := fun x hx => ⟨(dist_mem hD _).2 (List.mem_flatMap.2 ⟨x, hx, by simp⟩), (dist_mem hD _).2 (List.mem_flatMap.2 ⟨x, hx, by simp⟩)⟩
  refine isS_mk h1 h16 (fun t ht => ?_) ?_
  · obtain ⟨x, hx, rfl⟩ := mem_pset.1 ht
    obtain ⟨m1, m2⟩ := hm x hx
    have r1 := idxC_range m1
    have r2 := idxC_range m2
    obtain ⟨s, hs, u, hu, _, rfl⟩ := mem_pAll.1 hx
    refine ⟨(hca s hs).1, ?_, (hcb u hu).2.2.1, ?_⟩
    · show col (idxC P (jT s u).2.1 0)
      unfold col; omega
    · show col (idxC P (jT s u).2.2.2 0)
      unfold col; omega
  · unfold pset
    rw [jAll_eq]
    refine (List.pairwise_map.2 ((dd_nodup (pAll a b) [] List.nodup_nil).imp_of_mem fun {x y} hx hy hne e => hne ?_))
    have mx := hm x (by simpa [dd_mem] using hx)
    have my := hm y (by simpa [dd_mem] using hy)
    obtain ⟨x1, x2, x3, x4⟩ := x
    obtain ⟨y1, y2, y3, y4⟩ := y
    unfold rnT at e
    simp only [Prod.mk.injEq] at e
    obtain ⟨g1, g2, g3, g4⟩ := e
    have g2' := idx_inj mx.1 my.1 g2
    have g4' := idx_inj mx.2 my.2 g4
    simp only at g2' g4'
    rw [g1, g2', g3, g4']
end Go.AM
namespace Go.AM
open Go Go.Proofs
theorem r14_L0_s (call : CallF) (fuel base : Nat) (kp : Value → M → Res2) (kr : Value → M → Res2) (kx0 : Value → Value → Value → M → Res2) (n : Nat) (x1 x9 x10 x12 : Value) (m : M) : r14_L0 call fuel base kp kr kx0 (n + 1) x1 x9 x10 x12 m =
    (k2 (vcalln E.P base m .len [23] [x9]) fun v85_38 m => (k1n (mbin E .lss 3 x12 v85_38) fun v86_39 => (kb v86_39 (r14_L2 call fuel base (fun v m => kp v m) (fun y6_53 m => (kr y6_53 m)) (fun y1_54 y9_55 y10_56 y12_57 y13_58 m => (k1n (mun .not y13_58) fun v117_59 => (kb v117_59 (kr (.bool false) m) (k1n (mbin E .add 3 y12_57 (.int .i64 1)) fun v88_60 => (r14_L0 call fuel base kp kr kx0 n y1_54 y9_55 y10_56 v88_60 m))))) fuel x1 x9 x10 x12 (.bool false) (.int .i64 0) m) (kx0 x1 x9 x10 m)))) := by
  unfold r14_L0
  rw [k1_fun, vcall_fun]
theorem r14_L2_s (call : CallF) (fuel base : Nat) (kp : Value → M → Res2) (kr : Value → M → Res2) (kx2 : Value → Value → Value → Value → Value → M → Res2) (n : Nat) (x1 x9 x10 x12 x13 x14 : Value) (m : M) : r14_L2 call fuel base kp kr kx2 (n + 1) x1 x9 x10 x12 x13 x14 m =
    (k2 (vcalln E.P base m .len [23] [x10]) fun v91_40 m => (k1n (mbin E .lss 3 x14 v91_40) fun v92_41 => (kb v92_41 (k1n (mun .not x13) fun v95_42 => (kb v95_42 (k1n (mindexAddr E.P 23 x10 x14) fun v103_43 => (k1n (xload E.P m 33 v103_43) fun v104_44 => (kc (call base 46 [x1, v104_44] m) (fun v105_45 m => (k1n (mextract 0 v105_45) fun v106_46 => (k1n (mextract 1 v105_45) fun v107_47 => (k1n (mbin E .neq 26 v107_47 (.int .i64 0)) fun v109_48 => (kb v109_48 (kr (.bool false) m) (k1n (mindexAddr E.P 23 x9 x12) fun v113_49 => (k1n (xload E.P m 33 v113_49) fun v114_50 => (kc (call base 47 [v106_46, v114_50] m) (fun v115_51 m => (k1n (mbin E .add 3 x14 (.int .i64 1)) fun v98_52 => (r14_L2 call fuel base kp kr kx2 n x1 x9 x10 x12 v115_51 v98_52 m))) (fun v m => kp v m))))))))) (fun v m => kp v m)))) (kx2 x1 x9 x10 x12 x13 m))) (kx2 x1 x9 x10 x12 x13 m)))) := by
  unfold r14_L2
  rw [k1_fun, vcall_fun]
theorem r14_L4_s (call : CallF) (fuel base : Nat) (kp : Value → M → Res2) (kr : Value → M → Res2) (kx4 : M → Res2) (n : Nat) (x1 x9 x10 x17 : Value) (m : M) : r14_L4 call fuel base kp kr kx4 (n + 1) x1 x9 x10 x17 m =
    (k2 (vcalln E.P base m .len [23] [x10]) fun v120_65 m => (k1n (mbin E .lss 3 x17 v120_65) fun v121_66 => (kb v121_66 (k1n (mbin E .lss 3 x17 (.int .i64 40)) fun v124_67 => (kb v124_67 (k1n (mindexAddr E.P 23 x10 x17) fun v132_68 => (k1n (xload E.P m 33 v132_68) fun v133_69 => (kc (call base 46 [x1, v133_69] m) (fun v134_70 m => (k1n (mextract 0 v134_70) fun v135_71 => (k1n (mextract 1 v134_70) fun v136_72 => (k1n (mbin E .neq 26 v136_72 (.int .i64 0)) fun v138_73 => (kb v138_73 (kr (.bool false) m) (r14_L6 call fuel base (fun v m => kp v m) (fun y6_82 m => (kr y6_82 m)) (fun y1_83 y9_84 y10_85 y17_86 m => (k1n (mbin E .add 3 y17_86 (.int .i64 1)) fun v127_87 => (r14_L4 call fuel base kp kr kx4 n y1_83 y9_84 y10_85 v127_87 m))) fuel x1 x9 x10 x17 v135_71 (.int .i64 0) m)))))) (fun v m => kp v m)))) (kx4 m))) (kx4 m)))) := by
  unfold r14_L4
  rw [k1_fun, vcall_fun]
theorem r14_L6_s (call : CallF) (fuel base : Nat) (kp : Value → M → Res2) (kr : Value → M → Res2) (kx6 : Value → Value → Value → Value → M → Res2) (n : Nat) (x1 x9 x10 x17 x18 x20 : Value) (m : M) : r14_L6 call fuel base kp kr kx6 (n + 1) x1 x9 x10 x17 x18 x20 m =
    (k2 (vcalln E.P base m .len [23] [x18]) fun v141_74 m => (k1n (mbin E .lss 3 x20 v141_74) fun v142_75 => (kb v142_75 (k1n (mbin E .lss 3 x20 (.int .i64 40)) fun v145_76 => (kb v145_76 (k1n (mindexAddr E.P 23 x18 x20) fun v152_77 => (k1n (xload E.P m 33 v152_77) fun v153_78 => (kc (call base 47 [x9, v153_78] m) (fun v154_79 m => (k1n (mun .not v154_79) fun v155_80 => (kb v155_80 (kr (.bool false) m) (k1n (mbin E .add 3 x20 (.int .i64 1)) fun v148_81 => (r14_L6 call fuel base kp kr kx6 n x1 x9 x10 x17 x18 v148_81 m))))) (fun v m => kp v m)))) (kx6 x1 x9 x10 x17 m))) (kx6 x1 x9 x10 x17 m)))) := by
  unfold r14_L6
  rw [k1_fun, vcall_fun]
theorem r47_L0_s (call : CallF) (fuel base : Nat) (kp : Value → M → Res2) (kr : Value → M → Res2) (kx0 : M → Res2) (n : Nat) (x0 x1 x5 : Value) (m : M) : r47_L0 call fuel base kp kr kx0 (n + 1) x0 x1 x5 m =
    (k2 (vcalln E.P base m .len [23] [x0]) fun v8_1 m => (k1n (mbin E .lss 3 x5 v8_1) fun v9_2 => (kb v9_2 (k1n (mindexAddr E.P 23 x0 x5) fun v14_3 => (k1n (xload E.P m 33 v14_3) fun v15_4 => (kc (call base 24 [v15_4, x1] m) (fun v17_5 m => (kb v17_5 (kr (.bool true) m) (k1n (mbin E .add 3 x5 (.int .i64 1)) fun v11_6 => (r47_L0 call fuel base kp kr kx0 n x0 x1 v11_6 m)))) (fun v m => kp v m)))) (kx0 m)))) := by
  unfold r47_L0
  rw [k1_fun, vcall_fun]
theorem loop24d (call : CallF) (fuel base : Nat) (kr : Value → M → Res2) (kx : M → Res2) {m : M} {u v : Value} {a b : List Int} (hu : Ints m u a) (hv : Ints m v b) (hab : a.length = b.length) (ha : a.length ≤ 1000000) :
    ∀ (n j : Nat), j ≤ a.length → a.length < n + j → r24_L0 call fuel base kr kx n u v (vi j) m = if a.drop j = b.drop j then kx m else kr (.bool false) m
  | 0, j, hj, hn => by omega
  | n + 1, j, hj, hn => by
    rw [r24_L0_s, hu.len, k2s, lss_nat, k1s]
    by_cases hlt : j < a.length
    · rw [decide_eq_true hlt, kbt, hu.get hlt, hv.get (by omega), neq3, k1s, List.drop_eq_getElem_cons hlt, List.drop_eq_getElem_cons (by omega : j < b.length)]
      by_cases h : a[j] = b[j]
      · rw [decide_eq_true h, Bool.not_true, kbf, add1 j (by omega), k1s, loop24d call fuel base kr kx hu hv hab ha n (j + 1) (by omega) (by omega)]
        by_cases h2 : a.drop (j + 1) = b.drop (j + 1)
        · rw [if_pos h2, if_pos (by rw [h, h2])]
        · rw [if_neg h2, if_neg (fun e => h2 (List.cons.inj e).2)]
      · rw [decide_eq_false h, Bool.not_false, kbt, if_neg (fun e => h (List.cons.inj e).1)]
    · rw [decide_eq_false hlt, kbf, List.drop_eq_nil_of_le (by omega), List.drop_eq_nil_of_le (by omega), if_pos rfl]
theorem t24d (n base : Nat) {m : M} {u v : Value} {a b : List Int} (hu : Ints m u a) (hv : Ints m v b) (ha : a.length ≤ 1000000) (hn : a.length < n) : rt (n + 1) base 24 [u, v] m = some (.ret (.bool (decide (a = b))), m) := by
  refine rt_pure (f := 24) (rf := rf24) (by kernel_rfl) (by kernel_rfl) (by kernel_rfl) n base _ m m _ ?_ rfl
  show r24 (rt n) n m.length u v m = _
  unfold r24
  rw [fVal_fun, k1_fun, vcall_fun, hu.len, k2s, hv.len, k2s, neq3, k1s]
  by_cases hab : a.length = b.length
  · rw [decide_eq_true (by omega), Bool.not_true, kbf, i0, loop24d (rt n) n _ _ _ hu hv hab ha n 0 (Nat.zero_le _) (by omega), List.drop_zero, List.drop_zero]
    by_cases h : a = b
    · rw [if_pos h, decide_eq_true h]
    · rw [if_neg h, decide_eq_false h]
  · rw [decide_eq_false (by omega), Bool.not_false, kbt, decide_eq_false (fun e => hab (by rw [e]))]
theorem loop47 (n0 base : Nat) (kp kr : Value → M → Res2) (kx : M → Res2) {m : M} {u v : Value} {b : List (List Int)} {c : List Int} (hu : Mats m u b) (hv : Ints m v c) (hb : b.length ≤ 100000) (hr : ∀ r ∈ b, r.length ≤ 1000 ∧ r.length < n0) :
    ∀ (n j : Nat), j ≤ b.length → b.length < n + j → r47_L0 (rt (n0 + 1)) (n0 + 1) base kp kr kx n u v (vi j) m = if c ∈ b.drop j then kr (.bool true) m else kx m
  | 0, j, hj, hn => by omega
  | n + 1, j, hj, hn => by
    rw [r47_L0_s, hu.len, k2s, lss_nat, k1s]
    by_cases hlt : j < b.length
    · obtain ⟨x, hx1, hx2⟩ := hu.get hlt
      have hl := hr _ (List.getElem_mem hlt)
      rw [decide_eq_true hlt, kbt, hx2, t24d n0 _ hx1 hv (by omega) hl.2, kcs, List.drop_eq_getElem_cons hlt]
      by_cases h : b[j] = c
      · rw [decide_eq_true h, kbt, if_pos (by rw [h]; simp)]
      · rw [decide_eq_false h, kbf, add1 j (by omega), k1s, loop47 n0 base kp kr kx hu hv hb hr n (j + 1) (by omega) (by omega)]
        by_cases h2 : c ∈ b.drop (j + 1)
        · rw [if_pos h2, if_pos (List.mem_cons_of_mem _ h2)]
        · rw [if_neg h2, if_neg (fun e => by
            rcases List.mem_cons.1 e with e | e
            · exact h e.symm
            · exact h2 e)]
    · rw [decide_eq_false hlt, kbf, List.drop_eq_nil_of_le (by omega), if_neg (by simp)]
theorem t47 (n0 base : Nat) {m : M} {u v : Value} {b : List (List Int)} {c : List Int} (hu : Mats m u b) (hv : Ints m v c) (hb : b.length ≤ 100000) (hb2 : b.length < n0) (hr : ∀ r ∈ b, r.length ≤ 1000 ∧ r.length < n0) : rt (n0 + 2) base 47 [u, v] m = some (.ret (.bool (decide (c ∈ b))), m) := by
  refine rt_pure (f := 47) (rf := rf47) (by kernel_rfl) (by kernel_rfl) (by kernel_rfl) (n0 + 1) base _ m m _ ?_ rfl
  show r47 (rt (n0 + 1)) (n0 + 1) m.length u v m = _
  unfold r47
  rw [fVal_fun, i0, loop47 n0 _ _ _ _ hu hv hb hr (n0 + 1) 0 (Nat.zero_le _) (by omega), List.drop_zero]
  by_cases h : c ∈ b
  · rw [if_pos h, decide_eq_true h]
  · rw [if_neg h, decide_eq_false h]
/-- What is asked of every list in between. -/
theorem ask {l : List Wg} (hS : isS l = true) {nn : List Int} (h1 : 1 ≤ nn.length) (h4 : nn.length ≤ 4) (hc : ∀ d ∈ nn, col d) : rowE l nn = true := by
  unfold rowE
  rw [hS, sizeOk_nat h1 h4, Bool.true_and, Bool.true_and, Bool.not_eq_true', List.any_eq_false]
  exact fun d hd => by rw [badc_col (hc d hd)]; simp
theorem south_facts {l : List Wg} (hcol : ∀ t ∈ l, colT t) {nn r : List Int} (hr : r ∈ southL l nn) : r.length = nn.length ∧ ∀ d ∈ r, col d := by
  obtain ⟨ts, h1, h2, h3, h4⟩ := (mem_rows hcol).1 hr
  subst h4
  refine ⟨by rw [← h3]; simp, fun d hd => ?_⟩
  obtain ⟨u, hu, rfl⟩ := List.mem_map.1 hd
  exact (hcol u (h1 u hu)).2.2.1
section
variable (n0 base : Nat) (hn0 : 140000 ≤ n0) (kp kr : Value → M → Res2) {m0 : M} (hbb : base ≤ m0.length) {x1 x9 x10 : Value} {b : List Wg} {L R : List (List Int)} (hT : Tiles m0 x1 b) (hL : Mats m0 x9 L) (hR : Mats m0 x10 R)
  (hLl : L.length ≤ 4096) (hRl : R.length ≤ 4096) (hLr : ∀ r ∈ L, r.length ≤ 4) (hRr : ∀ r ∈ R, rowE b r = true)
include hn0 hbb hT hL hR hLl hRl hLr hRr
theorem loop14b (kx : Value → Value → Value → Value → Value → M → Res2) {i : Nat} (hi : i < L.length) :
    ∀ (n k : Nat) (s : Bool) (m : M), Keeps m0.length m0 m → k ≤ R.length → R.length < n + k →
      ∃ m', r14_L2 (rt (n0 + 4)) (n0 + 4) base kp kr kx n x1 x9 x10 (vi i) (.bool s) (vi k) m = kx x1 x9 x10 (vi i) (.bool (s || (R.drop k).any fun r => decide (L[i] ∈ southL b r))) m' ∧ Keeps m0.length m0 m'
  | 0, k, s, m, hk, hj, hn => by omega
  | n + 1, k, s, m, hk, hj, hn => by
    rw [r14_L2_s, (hR.keeps hk).len, k2s, lss_nat, k1s]
    by_cases hlt : k < R.length
    · rw [decide_eq_true hlt, kbt, not4, k1s]
      cases s with
      | true => exact ⟨m, by rw [Bool.not_true, kbf, Bool.true_or], hk⟩
      | false =>
        obtain ⟨u, hu1, hu2⟩ := (hR.keeps hk).get hlt
        have hE := hRr _ (List.getElem_mem hlt)
        obtain ⟨_, _, h4, _⟩ := rowE_facts hE
        obtain ⟨v, m1, e1, g1, k1⟩ := t46 n0 base hn0 (Nat.le_trans hbb hk.1) (hT.keeps hk) hu1 (by omega)
        have hl := rowE_len b R[k]
        rw [hE, if_pos rfl] at e1 hl
        rw [hE, if_pos rfl] at g1
        have hk1 : Keeps m0.length m0 m1 := hk.trans (k1.mono hk.1)
        obtain ⟨w, hw1, hw2⟩ := (hL.keeps hk1).get hi
        rw [Bool.not_false, kbt, hu2, e1, kcs, ex20, k1s, ex21, k1s, show (.int .i64 0 : Value) = vi 0 from rfl, neq26, k1s, show (!decide ((0 : Int) = 0)) = false from rfl, kbf, hw2, t47 (n0 + 2) base g1.mats hw1 (by omega) (by omega) (fun r hr => by have := hl.2 r hr; omega), kcs, add1 k (by omega), k1s, List.drop_eq_getElem_cons hlt, List.any_cons, Bool.false_or]
        exact loop14b kx hi n (k + 1) _ m1 hk1 (by omega) (by omega)
    · rw [decide_eq_false hlt, kbf, List.drop_eq_nil_of_le (by omega)]
      exact ⟨m, by simp, hk⟩
theorem loop14a (kx : Value → Value → Value → M → Res2) (hall : ∀ c ∈ L, ∃ r ∈ R, c ∈ southL b r) :
    ∀ (n i : Nat) (m : M), Keeps m0.length m0 m → i ≤ L.length → L.length < n + i →
      ∃ m', r14_L0 (rt (n0 + 4)) (n0 + 4) base kp kr kx n x1 x9 x10 (vi i) m = kx x1 x9 x10 m' ∧ Keeps m0.length m0 m'
  | 0, i, m, hk, hi, hn => by omega
  | n + 1, i, m, hk, hi, hn => by
    rw [r14_L0_s, (hL.keeps hk).len, k2s, lss_nat, k1s]
    by_cases hlt : i < L.length
    · obtain ⟨m1, e1, k1⟩ := loop14b n0 base hn0 kp kr hbb hT hL hR hLl hRl hLr hRr (fun y1_54 y9_55 y10_56 y12_57 y13_58 m => (k1n (mun .not y13_58) fun v117_59 => (kb v117_59 (kr (.bool false) m) (k1n (mbin E .add 3 y12_57 (.int .i64 1)) fun v88_60 => (r14_L0 (rt (n0 + 4)) (n0 + 4) base kp kr kx n y1_54 y9_55 y10_56 v88_60 m))))) hlt (n0 + 4) 0 false m hk (Nat.zero_le _) (by omega)
      have hany : (R.any fun r => decide (L[i] ∈ southL b r)) = true := by
        obtain ⟨r, hr, h⟩ := hall _ (List.getElem_mem hlt)
        rw [List.any_eq_true]
        exact ⟨r, hr, decide_eq_true h⟩
      rw [List.drop_zero, hany, Bool.or_true] at e1
      rw [decide_eq_true hlt, kbt, i0, e1, not4, k1s, Bool.not_true, kbf, add1 i (by omega), k1s]
      exact loop14a kx hall n (i + 1) m1 k1 (by omega) (by omega)
    · rw [decide_eq_false hlt, kbf]
      exact ⟨m, rfl, hk⟩
theorem loop14d (kx : Value → Value → Value → Value → M → Res2) (x17 x18 : Value) {m1 : M} (hk1 : Keeps m0.length m0 m1) {N : List (List Int)} (hN : Mats m1 x18 N) (hNl : N.length ≤ 4096) (hall : ∀ c ∈ N, c ∈ L) :
    ∀ (n i : Nat), i ≤ N.length → N.length < n + i → r14_L6 (rt (n0 + 4)) (n0 + 4) base kp kr kx n x1 x9 x10 x17 x18 (vi i) m1 = kx x1 x9 x10 x17 m1
  | 0, i, hi, hn => by omega
  | n + 1, i, hi, hn => by
    rw [r14_L6_s, hN.len, k2s, lss_nat, k1s]
    by_cases hlt : i < N.length
    · rw [decide_eq_true hlt, kbt, show (.int .i64 40 : Value) = vi (40 : Nat) from rfl, lss_nat, k1s]
      by_cases h40 : i < 40
      · obtain ⟨u, hu1, hu2⟩ := hN.get hlt
        rw [decide_eq_true h40, kbt, hu2, t47 (n0 + 2) base (hL.keeps hk1) hu1 (by omega) (by omega) (fun r hr => by have := hLr r hr; omega), kcs, not4, k1s, decide_eq_true (hall _ (List.getElem_mem hlt)), Bool.not_true, kbf, add1 i (by omega), k1s]
        exact loop14d kx x17 x18 hk1 hN hNl hall n (i + 1) (by omega) (by omega)
      · rw [decide_eq_false h40, kbf]
    · rw [decide_eq_false hlt, kbf]
theorem loop14c (kx : M → Res2) (hall : ∀ r ∈ R, ∀ c ∈ southL b r, c ∈ L) :
    ∀ (n i : Nat) (m : M), Keeps m0.length m0 m → i ≤ R.length → R.length < n + i →
      ∃ m', r14_L4 (rt (n0 + 4)) (n0 + 4) base kp kr kx n x1 x9 x10 (vi i) m = kx m' ∧ Keeps m0.length m0 m'
  | 0, i, m, hk, hi, hn => by omega
  | n + 1, i, m, hk, hi, hn => by
    rw [r14_L4_s, (hR.keeps hk).len, k2s, lss_nat, k1s]
    by_cases hlt : i < R.length
    · rw [decide_eq_true hlt, kbt, show (.int .i64 40 : Value) = vi (40 : Nat) from rfl, lss_nat, k1s]
      by_cases h40 : i < 40
      · obtain ⟨u, hu1, hu2⟩ := (hR.keeps hk).get hlt
        have hE := hRr _ (List.getElem_mem hlt)
        obtain ⟨_, _, h4, _⟩ := rowE_facts hE
        obtain ⟨v, m1, e1, g1, k1⟩ := t46 n0 base hn0 (Nat.le_trans hbb hk.1) (hT.keeps hk) hu1 (by omega)
        have hl := rowE_len b R[i]
        rw [hE, if_pos rfl] at e1 hl
        rw [hE, if_pos rfl] at g1
        have hk1 : Keeps m0.length m0 m1 := hk.trans (k1.mono hk.1)
        rw [decide_eq_true h40, kbt, hu2, e1, kcs, ex20, k1s, ex21, k1s, show (.int .i64 0 : Value) = vi 0 from rfl, neq26, k1s, show (!decide ((0 : Int) = 0)) = false from rfl, kbf, show (vi 0 : Value) = vi ((0 : Nat) : Int) from rfl, loop14d n0 base hn0 kp kr hbb hT hL hR hLl hRl hLr hRr _ (vi i) v hk1 g1.mats (by omega) (fun c hc => hall _ (List.getElem_mem hlt) c hc) (n0 + 4) 0 (Nat.zero_le _) (by omega), add1 i (by omega), k1s]
        exact loop14c kx hall n (i + 1) m1 hk1 (by omega) (by omega)
      · rw [decide_eq_false h40, kbf]
        exact ⟨m, rfl, hk⟩
    · rw [decide_eq_false hlt, kbf]
      exact ⟨m, rfl, hk⟩
end
theorem t14 (n0 base : Nat) (hn0 : 140000 ≤ n0) {m : M} (hbb : base ≤ m.length) {v0 v1 v2 : Value} {a b : List Wg} {nn : List Int} (hA : Tiles m v0 a) (hB : Tiles m v1 b) (hu : Ints m v2 nn) : ∃ m', rt (n0 + 5) base 14 [v0, v1, v2] m = some (.ret (.bool true), m') := by
  rw [rt_imp (f := 14) (rf := rf14) (by kernel_rfl) (by kernel_rfl) (by kernel_rfl) (n0 + 4) base]
  show ∃ m', r14 (rt (n0 + 4)) (n0 + 4) base v0 v1 v2 m = _
  unfold r14
  rw [k1_fun, fVal_fun, vcall_fun, hA.len, k2s, show (.int .i64 40 : Value) = vi (40 : Nat) from rfl, gtr3, k1s]
  by_cases h1 : a.length ≤ 40
  · rw [decide_eq_false (show ¬ ((a.length : Nat) : Int) > (40 : Nat) by omega), kbf, hB.len, k2s, gtr3, k1s]
    by_cases h2 : b.length ≤ 40
    · rw [decide_eq_false (show ¬ ((b.length : Nat) : Int) > (40 : Nat) by omega), kbf, hu.len, k2s, show (.int .i64 4 : Value) = vi (4 : Nat) from rfl, gtr3, k1s]
      by_cases h3 : nn.length ≤ 4
      · obtain ⟨m1, v, P, e1, T1, hD, k1⟩ := t43 (n0 + 1) base (by omega) hbb hA hB
        rw [decide_eq_false (show ¬ ((nn.length : Nat) : Int) > (4 : Nat) by omega), kbf, e1, kcs, ex20, k1s, ex21, k1s, show (.int .i64 0 : Value) = vi ((0 : Nat) : Int) from rfl, neq26, k1s]
        by_cases hE : prE a b P = 0
        · rw [decide_eq_true (by omega), Bool.not_true, kbf]
          rw [if_pos hE] at T1
          have T1 : Tiles m1 v (pset a b P) := T1
          rw [T1.len, k2s, eql3, k1s]
          by_cases hz : (pset a b P).length = 0
          · rw [decide_eq_true (by omega), kbt, eql26, k1s, decide_eq_true (by omega), kbt, rt16, kcs]
            exact ⟨m1, rfl⟩
          · have hSS : isS a = true ∧ isS b = true ∧ (jAll a b ([], [])).1.length ≤ 16 ∧ P.length ≤ 8 := by
              unfold prE at hE
              cases ha : isS a with
              | false => rw [ha] at hE; simp at hE
              | true =>
                cases hb : isS b with
                | false => rw [ha, hb] at hE; simp at hE
                | true =>
                  rw [ha, hb] at hE
                  simp only [Bool.and_self, if_true] at hE
                  by_cases h : 16 < (jAll a b ([], [])).1.length ∨ 8 < P.length
                  · rw [if_pos h] at hE; omega
                  · exact ⟨rfl, rfl, by omega, by omega⟩
            obtain ⟨hSa, hSb, h16, h8⟩ := hSS
            have hDD := hD hSa hSb
            have hSp : isS (pset a b P) = true := pset_isS hSa hSb hDD (by omega) (by simpa using h16) h8
            obtain ⟨_, _, hca⟩ := isS_facts hSa
            obtain ⟨_, _, hcb⟩ := isS_facts hSb
            obtain ⟨_, _, hcp⟩ := isS_facts hSp
            rw [decide_eq_false (by omega), kbf]
            obtain ⟨v9, m2, e2, g2, k2⟩ := t46 n0 base hn0 (Nat.le_trans hbb k1.1) T1 (hu.keeps k1) (by omega)
            have k12 : Keeps m.length m m2 := k1.trans (k2.mono k1.1)
            obtain ⟨v10, m3, e3, g3, k3⟩ := t46 n0 base hn0 (Nat.le_trans hbb k12.1) (hA.keeps k12) (hu.keeps k12) (by omega)
            have k13 : Keeps m.length m m3 := k12.trans (k3.mono k12.1)
            have hEq : rowE (pset a b P) nn = rowE a nn := by unfold rowE; rw [hSa, hSp]
            rw [e2, kcs, ex20, k1s, ex21, k1s, e3, kcs, ex20, k1s, ex21, k1s, neq26, k1s, hEq, decide_eq_true rfl, Bool.not_true, kbf, neq26, k1s]
            rw [hEq] at g2
            cases hR : rowE a nn with
            | false =>
              rw [if_neg (by simp), show (!decide ((2 : Int) = (0 : Nat))) = true from rfl, kbt, eql26, k1s, decide_eq_true rfl, kbt, rt16, kcs]
              exact ⟨m3, rfl⟩
            | true =>
              obtain ⟨_, w1, w4, hcn⟩ := rowE_facts hR
              have hl2 := rowE_len (pset a b P) nn
              have hl3 := rowE_len a nn
              rw [hEq, hR, if_pos rfl] at hl2
              rw [hR, if_pos rfl] at hl3
              rw [hR, if_pos rfl] at g2 g3
              rw [if_pos rfl, show (!decide ((0 : Int) = (0 : Nat))) = false from rfl, kbf]
              have hmats2 : Mats m3 v9 (southL (pset a b P) nn) := g2.mats.keeps (k3.mono (Nat.le_refl _))
              have hRr : ∀ r ∈ southL a nn, rowE b r = true := fun r hr => by
                obtain ⟨f1, f2⟩ := south_facts hca hr
                exact ask hSb (by omega) (by omega) f2
              obtain ⟨m4, e4, k4⟩ := loop14a n0 base hn0 (fun v m => some (.pan v, m)) (fun y6_61 m => some (.ret y6_61, m)) (Nat.le_trans hbb k13.1) (hB.keeps k13) hmats2 g3.mats hl2.1 hl3.1 hl2.2 hRr (fun y1_62 y9_63 y10_64 m => (r14_L4 (rt (n0 + 4)) (n0 + 4) base (fun v m => some (.pan v, m)) (fun y6_88 m => some (.ret y6_88, m)) (fun m => (kc (rt (n0 + 4) base 16 [] m) (fun v156_89 m => some (.ret v156_89, m)) (fun v m => some (.pan v, m)))) (n0 + 4) y1_62 y9_63 y10_64 (vi ((0 : Nat) : Int)) m)) (fun c hc => by
                obtain ⟨mid, q1, q2⟩ := (trans_iff hca hcb hDD nn c).1 ((mem_rows hcp).1 hc)
                have hm := (mem_rows hca).2 q1
                exact ⟨mid, hm, (mem_rows hcb).2 q2⟩) (n0 + 4) 0 m3 (Keeps.refl _ _) (Nat.zero_le _) (by omega)
              rw [e4]
              obtain ⟨m5, e5, k5⟩ := loop14c n0 base hn0 (fun v m => some (.pan v, m)) (fun y6_88 m => some (.ret y6_88, m)) (Nat.le_trans hbb k13.1) (hB.keeps k13) hmats2 g3.mats hl2.1 hl3.1 hl2.2 hRr (fun m => (kc (rt (n0 + 4) base 16 [] m) (fun v156_89 m => some (.ret v156_89, m)) (fun v m => some (.pan v, m)))) (fun r hr c hc => (mem_rows hcp).2 ((trans_iff hca hcb hDD nn c).2 ⟨r, (mem_rows hca).1 hr, (mem_rows hcb).1 hc⟩)) (n0 + 4) 0 m4 k4 (Nat.zero_le _) (by omega)
              rw [e5, rt16, kcs]
              exact ⟨m5, rfl⟩
        · rw [decide_eq_false (by omega), Bool.not_false, kbt, eql26, k1s, decide_eq_false (by omega), kbf]
          rw [if_neg hE] at T1
          rw [T1.len, k2s, eql3, k1s, show decide ((([] : List Wg).length : Int) = (0 : Nat)) = true from rfl, kbt, rt16, kcs]
          exact ⟨m1, rfl⟩
      · rw [decide_eq_true (show ((nn.length : Nat) : Int) > (4 : Nat) by omega), kbt, rt16, kcs]
        exact ⟨m, rfl⟩
    · rw [decide_eq_true (show ((b.length : Nat) : Int) > (40 : Nat) by omega), kbt, rt16, kcs]
      exact ⟨m, rfl⟩
  · rw [decide_eq_true (show ((a.length : Nat) : Int) > (40 : Nat) by omega), kbt, rt16, kcs]
    exact ⟨m, rfl⟩
theorem law14 {m : M} {v0 v1 v2 : Value} {a b : List Wg} {nn : List Int} (hA : Tiles m v0 a) (hB : Tiles m v1 b) (hu : Ints m v2 nn) : ∃ m', rt 150000 m.length 14 [v0, v1, v2] m = some (.ret (.bool true), m') :=
  t14 149995 m.length (by omega) (Nat.le_refl _) hA hB hu
end Go.AM
