import Derived.KernelRfl
import Derived.Laws.BytesArg
import Derived.Laws.StructEq
import Derived.Test.YtnmdpolgbdkffaaDoorRows
import Derived.WalkKit
import Derived.Test.YtnmdpolgbdkffaaDoorAmB
import Derived.Test.YtnmdpolgbdkffaaDoorAmModel
import Derived.Test.YtnmdpolgbdkffaaDoorAmOps6
import Derived.Test.YtnmdpolgbdkffaaDoorAmCode
import Derived.Test.YtnmdpolgbdkffaaDoorAmK2
import Derived.Test.YtnmdpolgbdkffaaDoorAmEq
import Derived.Test.YtnmdpolgbdkffaaDoorRBase
import Derived.Test.YtnmdpolgbdkffaaDoorR93
import Derived.Test.YtnmdpolgbdkffaaDoorAmS
import Derived.Test.YtnmdpolgbdkffaaDoorS11
import Derived.Test.YtnmdpolgbdkffaaDoorFL
import Derived.Test.YtnmdpolgbdkffaaDoorPB
set_option linter.unusedVariables false
set_option linter.unusedSimpArgs false
set_option linter.unusedSectionVars false
namespace Go.AM
open Go Go.Proofs
def midB (g : Grp) (e f : Int) : List Cel := [(e, f), (e, wr (f + g.D)), (wr (e + g.A), wr (f + g.B)), (wr (e + g.A), wr (wr (f + g.B) + g.D))]
def rotC (c : Cel) : Cel := (wr (c.1 - c.2), wr (c.1 + c.2))
/-- Centres of turns, or points on lines, coordinates doubled. -/
def midL (g : Grp) (k : Nat) : List Cel := match ofM g.L k with
  | some (e, f) => if k = 1 then (midB g e f).map rotC else midB g e f
  | none => []
theorem st103w (base : Nat) (m : M) (p off : Nat) (a b : Int) : xstore E.P base m 103 (pt p off) (cV a b) = mwrite base m p off [vi a, vi b] := by
  have e : xstore E.P base m 103 (pt p off) (cV a b) = xwrite base m p off [vi a, vi b] := by kernel_rfl
  rw [e, xwrite_eq]
theorem mwrite_two {base : Nat} {m : M} {p off : Nat} {a b : Int} {row : Row} (hb : base ≤ p) (hr : m[p]? = some row) (hro : row.ro = false) (ho : off + 2 ≤ row.cells.length) :
    mwrite base m p off [vi a, vi b] = some (m.set p { row with cells := splice row.cells off [vi a, vi b] }) := by
  unfold mwrite
  rw [if_neg (by omega), hr]
  simp only [hro, Bool.false_eq_true, if_false, List.length_cons, List.length_nil]
  rw [if_pos (by omega), if_pos (show ([vi a, vi b].all fun x => x.oneCell') = true from rfl), fList_eq, fList_eq]
theorem bs115 (m : M) (a b c d e f g h : Int) : xbuildSlice E.P m 115 4 [(0, cV a b), (1, cV c d), (2, cV e f), (3, cV g h)] = some (sl m.length 4, m ++ [rowz 2 true [vi a, vi b, vi c, vi d, vi e, vi f, vi g, vi h]]) := by
  have q : xbuildSlice E.P m 115 4 [(0, cV a b), (1, cV c d), (2, cV e f), (3, cV g h)] = xlen m fun n => xpush m (rowz 2 true [vi a, vi b, vi c, vi d, vi e, vi f, vi g, vi h]) fun m' => some (sl n 4, m') := by kernel_rfl
  rw [q, xlen_eq, fNat_eq, xpush_eq, fList_eq]
theorem r91_L0_s (call : CallF) (fuel base : Nat) (kx0 : Value → M → Res2) (n : Nat) (x8 x62 x63 x64 : Value) (m : M) : r91_L0 call fuel base kx0 (n + 1) x8 x62 x63 x64 m =
    (k1n (mbin E .lss 3 x64 x63) fun v65_52 => (kb v65_52 (k1n (mindexAddr E.P 115 x62 x64) fun v67_53 => (k1n (xload E.P m 103 v67_53) fun v68_54 => (k2 (xalloc E.P m 103) fun v10_55 m => (ks (xstore E.P base m 103 v10_55 v68_54) fun m => (k1n (mfieldAddr E.P 103 v10_55 0) fun v71_56 => (k1n (xload E.P m 3 v71_56) fun v72_57 => (k1n (mfieldAddr E.P 103 v10_55 1) fun v73_58 => (k1n (xload E.P m 3 v73_58) fun v74_59 => (k1n (mbin E .sub 3 v72_57 v74_59) fun v75_60 => (k1n (mfieldAddr E.P 103 v10_55 0) fun v76_61 => (k1n (xload E.P m 3 v76_61) fun v77_62 => (k1n (mfieldAddr E.P 103 v10_55 1) fun v78_63 => (k1n (xload E.P m 3 v78_63) fun v79_64 => (k1n (mbin E .add 3 v77_62 v79_64) fun v80_65 => (k1n (mbuild E.P 103 [(0, v75_60), (1, v80_65)]) fun v81_66 => (k1n (mindexAddr E.P 115 x8 x64) fun v82_67 => (ks (xstore E.P base m 103 v82_67 v81_66) fun m => (k1n (mbin E .add 3 x64 (.int .i64 1)) fun v83_68 => (r91_L0 call fuel base kx0 n x8 x62 x63 v83_68 m))))))))))))))))))) (kx0 x8 m))) := by
  unfold r91_L0
  rw [k1_fun]
theorem step91 (call : CallF) (fuel base : Nat) (kx : Value → M → Res2) {m : M} {q : Nat} {cs : List Value} (hq : m[q]? = some (rowz 2 true cs)) (hl : cs.length = 8) (hb : base ≤ q) {j : Nat} (hj : j < 4) {x y : Int} (h : (cs.drop (j * 2)).take 2 = [vi x, vi y]) (n : Nat) :
    ∃ m', r91_L0 call fuel base kx (n + 1) (sl q 4) (sl q 4) (vi ((4 : Nat) : Int)) (vi (j : Int)) m = r91_L0 call fuel base kx n (sl q 4) (sl q 4) (vi ((4 : Nat) : Int)) (vi ((j + 1 : Nat) : Int)) m' ∧ m'[q]? = some (rowz 2 true (splice cs (j * 2) [vi (wr (x - y)), vi (wr (x + y))])) ∧ Keeps q m m' := by
  have hql := (List.getElem?_eq_some_iff.1 hq).1
  rw [r91_L0_s, lss_nat, k1s, decide_eq_true hj, kbt, ix115 q 4 4 j hj, k1s, ld103 hq (by show j * 2 + 2 ≤ cs.length; omega), show (rowz 2 true cs).cells = cs from rfl, h, k1s, al103, k2s]
  have hz : (m ++ [cellR [(.int .i64 0 : Value), .int .i64 0]])[m.length]? = some (cellR [.int .i64 0, .int .i64 0]) := by simp
  rw [show (.agg [vi x, vi y].toArray : Value) = cV x y from rfl, st103 (by omega) hz rfl, kss]
  generalize hm1 : (m ++ [cellR [(.int .i64 0 : Value), .int .i64 0]]).set m.length (cellR [vi x, vi y]) = m1
  have q1 : m1[q]? = some (rowz 2 true cs) := by rw [← hm1, List.getElem?_set_ne (by omega), List.getElem?_append_left hql]; exact hq
  have q2 : m1[m.length]? = some (cellR [vi x, vi y]) := by rw [← hm1]; exact List.getElem?_set_self (by simp)
  have hk1 : Keeps m.length m m1 := by rw [← hm1]; exact (Keeps.push _ _ (Nat.le_refl _) _).trans (Keeps.set _ _ _ _ (Nat.le_refl _))
  simp only [ff103_0, ff103_1, k1s, ld3, box_cell q2 (0 + 0) _ rfl, box_cell q2 (0 + 1) _ rfl, sub3, add3, b103]
  rw [st103w, mwrite_two hb q1 rfl (by show j * 2 + 2 ≤ cs.length; omega), kss]
  have e1 : wr ((j : Int) + 1) = ((j + 1 : Nat) : Int) := wr_succ j (by omega)
  rw [show (.int .i64 1 : Value) = vi 1 from rfl, add3, k1s, e1]
  exact ⟨_, rfl, List.getElem?_set_self (by have := hk1.1; omega), (hk1.mono (by omega)).trans (Keeps.set _ _ _ _ (Nat.le_refl _))⟩
theorem t91 (n base : Nat) (hn : 60 ≤ n) {m : M} (hb : base ≤ m.length) {v : Value} {g : Grp} (hg : GrpIn m v g) (ho : g.Ok) (k : Nat) : ∃ v' m', rt (n + 1) base 91 [v, vi (k : Int)] m = some (.ret v', m') ∧ Cels m' v' (midL g k) ∧ Keeps m.length m m' := by
  rw [rt_imp (f := 91) (rf := rf91) (by kernel_rfl) (by kernel_rfl) (by kernel_rfl) n base]
  show ∃ v' m', r91 (rt n) n base v (vi (k : Int)) m = _ ∧ _
  obtain ⟨i, rfl⟩ : ∃ i, n = i + 5 := ⟨n - 5, by omega⟩
  obtain ⟨m1, e1, hat, hg1, hk1, hl1⟩ := grp_box m hg
  obtain ⟨s, hv, hs⟩ := hat
  unfold r91
  rw [k1_fun, fVal_fun, vcall_fun, e1, k2s, GrpAt.ld ⟨s, hv, hs⟩, k1s, t67 (i + 4) base (by omega) hg1 ho k, kcs, ofV_eq, ex0, k1s, ex1, k1s, al50, k2s]
  have hz : (m1 ++ [cellR [(.int .i64 0 : Value), .int .i64 0, .int .i64 0, .int .i64 0, .int .i64 0, .int .i64 0]])[m1.length]? = some (cellR [.int .i64 0, .int .i64 0, .int .i64 0, .int .i64 0, .int .i64 0, .int .i64 0]) := by simp
  unfold midL
  cases hof : ofM g.L k with
  | none =>
    rw [show ofP k none = mV 0 0 0 0 0 0 from rfl, st50 (by omega) hz rfl, kss, not4, k1s, show (!(none : Option (Nat × Nat)).isSome) = true from rfl, kbt]
    exact ⟨nilS, _, rfl, .inl ⟨rfl, rfl⟩, hk1.trans ((Keeps.push _ _ (by omega) _).trans (Keeps.set _ _ _ _ (by omega)))⟩
  | some ef =>
    obtain ⟨e, f⟩ := ef
    rw [show ofP k (some (e, f)) = mV (kindT k).1 (kindT k).2.1 (kindT k).2.2.1 (kindT k).2.2.2 e f from rfl, st50 (by omega) hz rfl, kss, not4, k1s, show (!(some (e, f)).isSome) = false from rfl, kbf]
    generalize hm2 : (m1 ++ [cellR [(.int .i64 0 : Value), .int .i64 0, .int .i64 0, .int .i64 0, .int .i64 0, .int .i64 0]]).set m1.length (cellR [vi (kindT k).1, vi (kindT k).2.1, vi (kindT k).2.2.1, vi (kindT k).2.2.2, vi (e : Int), vi (f : Int)]) = m2
    have hl2 : m2.length = m.length + 2 := by rw [← hm2]; simp; omega
    have hk2 : Keeps m1.length m1 m2 := by rw [← hm2]; exact (Keeps.push _ _ (Nat.le_refl _) _).trans (Keeps.set _ _ _ _ (Nat.le_refl _))
    have hs2 : m2[m.length]? = some (cellR [vi g.A, vi g.B, vi g.D, s]) := (hk2.2 _ (by omega)).trans hs
    have hc2 : m2[m1.length]? = some (cellR [vi (kindT k).1, vi (kindT k).2.1, vi (kindT k).2.2.1, vi (kindT k).2.2.2, vi (e : Int), vi (f : Int)]) := by rw [← hm2]; exact List.getElem?_set_self (by simp)
    have lg : xload E.P m2 26 (pt m.length (0 + 0)) = some (gridV g.A g.B g.D) := ld26 hs2 (by simp [cellR])
    rw [ff70_0, k1s, lg, k1s, al26, k2s]
    have hz3 : (m2 ++ [cellR [(.int .i64 0 : Value), .int .i64 0, .int .i64 0]])[m2.length]? = some (cellR [.int .i64 0, .int .i64 0, .int .i64 0]) := by simp
    rw [st26 (by omega) hz3 rfl, kss]
    generalize hm3 : (m2 ++ [cellR [(.int .i64 0 : Value), .int .i64 0, .int .i64 0]]).set m2.length (cellR [vi g.A, vi g.B, vi g.D]) = m3
    have hl3 : m3.length = m.length + 3 := by rw [← hm3]; simp; omega
    have hk3 : Keeps m2.length m2 m3 := by rw [← hm3]; exact (Keeps.push _ _ (Nat.le_refl _) _).trans (Keeps.set _ _ _ _ (Nat.le_refl _))
    have hc3 : m3[m1.length]? = some (cellR [vi (kindT k).1, vi (kindT k).2.1, vi (kindT k).2.2.1, vi (kindT k).2.2.2, vi (e : Int), vi (f : Int)]) := (hk3.2 _ (by omega)).trans hc2
    have hd3 : m3[m2.length]? = some (cellR [vi g.A, vi g.B, vi g.D]) := by rw [← hm3]; exact List.getElem?_set_self (by simp)
    have hkm : Keeps m.length m m3 := hk1.trans ((hk2.mono (by omega)).trans (hk3.mono (by omega)))
    simp only [ff50_4, ff50_5, ff26_0, ff26_1, ff26_2, k1s, ld3, box_cell hc3 (0 + 4) _ rfl, box_cell hc3 (0 + 5) _ rfl, box_cell hd3 (0 + 0) _ rfl, box_cell hd3 (0 + 1) _ rfl, box_cell hd3 (0 + 2) _ rfl, add3, b103]
    rw [bs115, k2s, show (.int .i64 1 : Value) = vi ((1 : Nat) : Int) from rfl, eql3, k1s, natdec]
    have hrow : (m3 ++ [rowz 2 true [vi (e : Int), vi (f : Int), vi (e : Int), vi (wr ((f : Int) + g.D)), vi (wr ((e : Int) + g.A)), vi (wr ((f : Int) + g.B)), vi (wr ((e : Int) + g.A)), vi (wr (wr ((f : Int) + g.B) + g.D))]])[m3.length]? = some (rowz 2 true (csV (midB g e f))) := by
      simp [csV, midB]
    generalize hm4 : m3 ++ [rowz 2 true [vi (e : Int), vi (f : Int), vi (e : Int), vi (wr ((f : Int) + g.D)), vi (wr ((e : Int) + g.A)), vi (wr ((f : Int) + g.B)), vi (wr ((e : Int) + g.A)), vi (wr (wr ((f : Int) + g.B) + g.D))]] = m4 at hrow ⊢
    have hk4 : Keeps m3.length m3 m4 := by rw [← hm4]; exact Keeps.push _ _ (Nat.le_refl _) _
    have hkm4 : Keeps m.length m m4 := hkm.trans (hk4.mono (by omega))
    by_cases h1 : k = 1
    · rw [decide_eq_true h1, kbt, len115, k2s, if_pos h1, i0]
      obtain ⟨n1, s1, r1, k1'⟩ := step91 (rt (i + 5)) (i + 5) base (fun y8 m => some (.ret y8, m)) hrow rfl (by omega) (j := 0) (by omega) (x := e) (y := f) rfl (i + 4)
      obtain ⟨n2, s2, r2, k2'⟩ := step91 (rt (i + 5)) (i + 5) base (fun y8 m => some (.ret y8, m)) r1 rfl (by omega) (j := 1) (by omega) (x := e) (y := wr (f + g.D)) rfl (i + 3)
      obtain ⟨n3, s3, r3, k3'⟩ := step91 (rt (i + 5)) (i + 5) base (fun y8 m => some (.ret y8, m)) r2 rfl (by omega) (j := 2) (by omega) (x := wr (e + g.A)) (y := wr (f + g.B)) rfl (i + 2)
      obtain ⟨n4, s4, r4, k4'⟩ := step91 (rt (i + 5)) (i + 5) base (fun y8 m => some (.ret y8, m)) r3 rfl (by omega) (j := 3) (by omega) (x := wr (e + g.A)) (y := wr (wr (f + g.B) + g.D)) rfl (i + 1)
      have last : r91_L0 (rt (i + 5)) (i + 5) base (fun y8 m => some (.ret y8, m)) (i + 1) (sl m3.length 4) (sl m3.length 4) (vi ((4 : Nat) : Int)) (vi ((3 + 1 : Nat) : Int)) n4 = some (.ret (sl m3.length 4), n4) := by
        rw [r91_L0_s, lss_nat, k1s, decide_eq_false (by omega), kbf]
      have hkk : Keeps m.length m n4 := hkm4.trans ((((k1'.trans k2').trans k3').trans k4').mono (by omega))
      refine ⟨sl m3.length 4, n4, ?_, .inr ⟨m3.length, _, rfl, r4, rfl⟩, hkk⟩
      exact s1.trans (s2.trans (s3.trans (s4.trans last)))
    · rw [decide_eq_false h1, kbf, if_neg h1]
      exact ⟨sl m3.length 4, m4, rfl, .inr ⟨m3.length, _, rfl, hrow, rfl⟩, hkm4⟩
theorem midL_len (g : Grp) (k : Nat) : (midL g k).length ≤ 4 := by
  unfold midL
  split
  · split <;> simp [midB]
  · simp
def dirU (g : Grp) (N : List Nat) (j : Nat) : Nat := ((N.take j).filter fun k => anyC (midL g k) (hm g k)).length
def dirN (g : Grp) : Nat := ((mirL g).filter fun k => anyC (midL g k) (hm g k)).length
theorem dirU_succ (g : Grp) (N : List Nat) (j : Nat) (h : j < N.length) : dirU g N (j + 1) = dirU g N j + if anyC (midL g N[j]) (hm g N[j]) then 1 else 0 := by
  unfold dirU
  have e : N.take (j + 1) = N.take j ++ [N[j]] := by
    rw [List.take_succ_eq_append_getElem h]
  rw [e, List.filter_append, List.length_append]
  congr 1
  by_cases hh : anyC (midL g N[j]) (hm g N[j]) = true
  · simp [List.filter_cons, hh]
  · simp [List.filter_cons, hh]
theorem dirU_le (g : Grp) (N : List Nat) (j : Nat) : dirU g N j ≤ j := by
  unfold dirU
  exact Nat.le_trans (List.length_filter_le _ _) (by simp; omega)
theorem r93_L0_s (call : CallF) (fuel base : Nat) (kp : Value → M → Res2) (kx0 : Value → M → Res2) (n : Nat) (x1 x3 x7 x8 x9 : Value) (m : M) : r93_L0 call fuel base kp kx0 (n + 1) x1 x3 x7 x8 x9 m =
    (k1n (mbin E .lss 3 x9 x8) fun v10_5 => (kb v10_5 (k1n (mindexAddr E.P 37 x7 x9) fun v11_6 => (k1n (xload E.P m 3 v11_6) fun v12_7 => (k2 (xalloc E.P m 3) fun v5_8 m => (ks (xstore E.P base m 3 v5_8 v12_7) fun m => (k1n (xload E.P m 70 x1) fun v13_9 => (k1n (xload E.P m 3 v5_8) fun v14_10 => (kc (call base 91 [v13_9, v14_10] m) (fun v15_11 m => (kc (call base 90 [v15_11, (.func (.func 106) #[] #[x1, v5_8])] m) (fun v17_12 m => (kb v17_12 (k1n (mbin E .add 3 x3 (.int .i64 1)) fun v19_13 => (k1n (mbin E .add 3 x9 (.int .i64 1)) fun v20_14 => (r93_L0 call fuel base kp kx0 n x1 v19_13 x7 x8 v20_14 m))) (k1n (mbin E .add 3 x9 (.int .i64 1)) fun v20_15 => (r93_L0 call fuel base kp kx0 n x1 x3 x7 x8 v20_15 m)))) (fun v m => kp v m))) (fun v m => kp v m)))))))) (kx0 x3 m))) := by
  unfold r93_L0
  rw [k1_fun]
theorem loop93 (N0 : Nat) (hN0 : 100 ≤ N0) (base : Nat) (kp : Value → M → Res2) (kx : Value → M → Res2) {m0 : M} {v u : Value} {g : Grp} {q : Nat} (hat : GrpAt m0 q v g) (hg : GrpIn m0 v g) (ho : g.Ok) (hi : Ints m0 u (mirL g)) (hb : base ≤ m0.length) :
    ∀ (i n j : Nat) (m : M), i < n → j + i = (mirL g).length → Keeps m0.length m0 m →
      ∃ m', r93_L0 (rt N0) N0 base kp kx n (pt q 0) (vi (dirU g (mirL g) j : Int)) u (vi ((mirL g).length : Int)) (vi (j : Int)) m = kx (vi (dirN g : Int)) m' ∧ Keeps m0.length m0 m'
  | _, 0, j, m, hi', hj, _ => by omega
  | 0, n + 1, j, m, hi', hj, hk => by
    rw [r93_L0_s, lss_nat, k1s, decide_eq_false (by omega), kbf]
    refine ⟨m, ?_, hk⟩
    unfold dirN dirU
    rw [show j = (mirL g).length by omega, List.take_length]
  | i + 1, n + 1, j, m, hi', hj, hk => by
    obtain ⟨N1, rfl⟩ : ∃ N1, N0 = N1 + 2 := ⟨N0 - 2, by omega⟩
    have hlt : j < (mirL g).length := by omega
    have hlen : (mirL g).length ≤ 4 := mirU_len g 4
    have hki := (mirL_lt (List.getElem_mem hlt)).2
    have hbm := Nat.le_trans hb hk.1
    rw [r93_L0_s, lss_nat, k1s, decide_eq_true hlt, kbt, (hi.keeps hk).get hlt]
    generalize hkk : (mirL g)[j] = k at hki ⊢
    have al3 : xalloc E.P m 3 = some (pt m.length 0, m ++ [cellR [vi 0]]) := by
      have e : xalloc E.P m 3 = xlen m fun n => xpush m (cellR [vi 0]) fun m' => some (pt n 0, m') := by kernel_rfl
      rw [e, xlen_eq, fNat_eq, xpush_eq, fList_eq]
    have hz : (m ++ [cellR [vi 0]])[m.length]? = some (cellR [vi 0]) := by simp
    rw [al3, k2s, st3, mwrite_one (by omega) hz rfl (by simp [cellR]) rfl, kss]
    have hrow : ({ cellR [vi 0] with cells := (cellR [vi 0]).cells.set 0 (vi (k : Int)) } : Row) = cellR [vi (k : Int)] := rfl
    rw [hrow]
    generalize hm1 : (m ++ [cellR [vi 0]]).set m.length (cellR [vi (k : Int)]) = m1
    have hk1 : Keeps m.length m m1 := by rw [← hm1]; exact (Keeps.push _ _ (Nat.le_refl _) _).trans (Keeps.set _ _ _ _ (Nat.le_refl _))
    have hc1 : m1[m.length]? = some (cellR [vi (k : Int)]) := by rw [← hm1]; exact List.getElem?_set_self (by simp)
    have hkm1 : Keeps m0.length m0 m1 := hk.trans (hk1.mono hk.1)
    have hat1 : GrpAt m1 q v g := hat.keeps fun i hi => hkm1.2 i hi
    have hg1 := hg.keeps hkm1
    obtain ⟨c, m2, e2, hcel, hk2⟩ := t91 (N1 + 1) base (by omega) (Nat.le_trans hbm hk1.1) hg1 ho k
    have hml := midL_len g k
    have hkm2 : Keeps m0.length m0 m2 := hkm1.trans (hk2.mono hkm1.1)
    have hat2 : GrpAt m2 q v g := hat.keeps fun i hi => hkm2.2 i hi
    have hc2 : m2[m.length]? = some (cellR [vi (k : Int)]) := (hk2.2 _ (List.getElem?_eq_some_iff.1 hc1).1).trans hc1
    rw [hat1.ld, k1s, ld3, box_cell hc1 0 _ rfl, k1s, e2, kcs, t90 N1 base hcel (by omega) (by omega) (P := fun t => hm g k ((midL g k).getD t (0, 0)).1 ((midL g k).getD t (0, 0)).2) (fun t ht => by
      have e : (midL g k).getD t (0, 0) = (midL g k)[t] := by simp [ht]
      rw [e]
      show rt N1 m2.length 106 [cV ((midL g k)[t]).1 ((midL g k)[t]).2, pt q 0, pt m.length 0] m2 = _
      obtain ⟨N2, rfl⟩ : ∃ N2, N1 = N2 + 1 := ⟨N1 - 1, by omega⟩
      exact t106 N2 _ (by omega) (hg.keeps hkm2) ho k hki hat2 hc2), kcs]
    have hs := dirU_succ g (mirL g) j hlt
    rw [hkk] at hs
    have hle := dirU_le g (mirL g) j
    show ∃ m', kb (.bool (anyC (midL g k) (hm g k))) _ _ = _ ∧ _
    cases hb' : anyC (midL g k) (hm g k) with
    | true =>
      rw [hb', if_pos rfl] at hs
      rw [kbt, add1 _ (by omega), k1s, add1 _ (by omega), k1s, ← hs]
      exact loop93 (N1 + 2) hN0 base kp kx hat hg ho hi hb i n (j + 1) m2 (by omega) (by omega) hkm2
    | false =>
      rw [hb'] at hs
      simp only [Bool.false_eq_true, if_false, Nat.add_zero] at hs
      rw [kbf, add1 _ (by omega), k1s, ← hs]
      exact loop93 (N1 + 2) hN0 base kp kx hat hg ho hi hb i n (j + 1) m2 (by omega) (by omega) hkm2
theorem t93 (n base : Nat) (hn : 110 ≤ n) {m : M} {v : Value} {g : Grp} (hg : GrpIn m v g) (ho : g.Ok) : rt (n + 1) base 93 [v] m = some (.ret (vi (dirN g : Int)), m) := by
  suffices h : ∃ m1, r93 (rt n) n m.length v m = some (.ret (vi (dirN g : Int)), m1) by
    obtain ⟨m1, h⟩ := h
    exact rt_pure (f := 93) (rf := rf93) (by kernel_rfl) (by kernel_rfl) (by kernel_rfl) n base _ m m1 _ h rfl
  obtain ⟨i, rfl⟩ : ∃ i, n = i + 1 := ⟨n - 1, by omega⟩
  obtain ⟨m1, e1, hat, hg1, hk1, hl1⟩ := grp_box m hg
  obtain ⟨u, m2, e2, hi, hk2⟩ := t89 i m.length (by omega) (by omega) hg1 ho
  have hlen : (mirL g).length ≤ 4 := mirU_len g 4
  unfold r93
  rw [k1_fun, fVal_fun, vcall_fun, e1, k2s, hat.ld, k1s, e2, kcs, hi.len37, k2s, i0]
  obtain ⟨m', e', _⟩ := loop93 (i + 1) (by omega) m.length (fun v m => some (.pan v, m)) (fun y3 m => some (.ret y3, m)) (hat.keeps fun i hi => hk2.2 i hi) (hg1.keeps hk2) ho hi (by have := hk2.1; omega) (mirL g).length (i + 1) 0 m2 (by omega) (by omega) (Keeps.refl _ _)
  exact ⟨m', e'⟩
end Go.AM
namespace Go.AM
open Go Go.Proofs
abbrev nP1 : ByteArray := ByteArray.mk #[112, 49]
abbrev nP2 : ByteArray := ByteArray.mk #[112, 50]
abbrev nPm : ByteArray := ByteArray.mk #[112, 109]
abbrev nPg : ByteArray := ByteArray.mk #[112, 103]
abbrev nCm : ByteArray := ByteArray.mk #[99, 109]
abbrev nPmm : ByteArray := ByteArray.mk #[112, 109, 109]
abbrev nPmg : ByteArray := ByteArray.mk #[112, 109, 103]
abbrev nPgg : ByteArray := ByteArray.mk #[112, 103, 103]
abbrev nCmm : ByteArray := ByteArray.mk #[99, 109, 109]
abbrev nP4 : ByteArray := ByteArray.mk #[112, 52]
abbrev nP4m : ByteArray := ByteArray.mk #[112, 52, 109]
abbrev nP4g : ByteArray := ByteArray.mk #[112, 52, 103]
def nameQ (g : Grp) : ByteArray := if (mirL g).length = 0 then nP4 else if anyC (midL g 1) (onM g) = true then nP4m else nP4g
def nameH (g : Grp) : ByteArray := if (mirL g).length = 0 then nP2 else if dirN g = 0 then nPgg else if dirN g = 1 then nPmg else if anyC (midL g 2) (fun x y => !onM g x y) = true then nCmm else nPmm
def nameN (g : Grp) : ByteArray := if (mirL g).length = 0 then nP1 else if dirN g = 0 then nPg else if anyC (midL g ((mirL g).getD 0 0)) (fun x y => !onM g x y) = true then nCm else nPm
def nameG (g : Grp) : ByteArray := if (ofM g.L 1).isSome = true then nameQ g else if (ofM g.L 2).isSome = true then nameH g else nameN g
theorem get90 (n base : Nat) (hn : 100 ≤ n) {m : M} {v u : Value} {g : Grp} (hg : GrpIn m v g) (ho : g.Ok) {k : Nat} (hc : Cels m u (midL g k)) : rt (n + 2) base 90 [u, .func (.func 92) #[v] #[]] m = some (.ret (.bool (anyC (midL g k) (onM g))), m) := by
  have hml := midL_len g k
  obtain ⟨i, rfl⟩ : ∃ i, n = i + 1 := ⟨n - 1, by omega⟩
  exact t90 (i + 1) base hc (by omega) (by omega) (P := fun t => onM g ((midL g k).getD t (0, 0)).1 ((midL g k).getD t (0, 0)).2) (fun t ht => by
    have e : (midL g k).getD t (0, 0) = (midL g k)[t] := by simp [ht]
    rw [e]
    show rt (i + 1) m.length 92 [v, cV ((midL g k)[t]).1 ((midL g k)[t]).2] m = _
    exact t92 i _ (by omega) hg ho _ _)
theorem get94 (n base : Nat) (hn : 100 ≤ n) {m : M} {v u : Value} {g : Grp} (hg : GrpIn m v g) (ho : g.Ok) {k : Nat} (hc : Cels m u (midL g k)) : rt (n + 2) base 90 [u, .func (.func 94) #[v] #[]] m = some (.ret (.bool (anyC (midL g k) fun x y => !onM g x y)), m) := by
  have hml := midL_len g k
  obtain ⟨i, rfl⟩ : ∃ i, n = i + 1 := ⟨n - 1, by omega⟩
  exact t90 (i + 1) base hc (by omega) (by omega) (P := fun t => !onM g ((midL g k).getD t (0, 0)).1 ((midL g k).getD t (0, 0)).2) (fun t ht => by
    have e : (midL g k).getD t (0, 0) = (midL g k)[t] := by simp [ht]
    rw [e]
    show rt (i + 1) m.length 94 [v, cV ((midL g k)[t]).1 ((midL g k)[t]).2] m = _
    exact t94 i _ (by omega) hg ho _ _)
theorem t68 (n base : Nat) (hn : 120 ≤ n) {m : M} {v : Value} {g : Grp} (hg : GrpIn m v g) (ho : g.Ok) : rt (n + 1) base 68 [v] m = some (.ret (.string (nameQ g)), m) := by
  suffices h : ∃ m1, r68 (rt n) n m.length v m = some (.ret (.string (nameQ g)), m1) by
    obtain ⟨m1, h⟩ := h
    exact rt_pure (f := 68) (rf := rf68) (by kernel_rfl) (by kernel_rfl) (by kernel_rfl) n base _ m m1 _ h rfl
  obtain ⟨i, rfl⟩ : ∃ i, n = i + 2 := ⟨n - 2, by omega⟩
  obtain ⟨m1, e1, hat, hg1, hk1, hl1⟩ := grp_box m hg
  obtain ⟨u, m2, e2, hi, hk2⟩ := t89 (i + 1) m.length (by omega) (by omega) hg1 ho
  have hat2 := hat.keeps fun i hi => hk2.2 i hi
  have hg2 := hg1.keeps hk2
  unfold r68 nameQ
  rw [k1_fun, fVal_fun, vcall_fun, e1, k2s, hat.ld, k1s, e2, kcs, hi.len37, k2s, show (.int .i64 0 : Value) = vi ((0 : Nat) : Int) from rfl, eql3, k1s, natdec]
  by_cases h0 : (mirL g).length = 0
  · rw [decide_eq_true h0, kbt, if_pos h0]
    exact ⟨_, rfl⟩
  · rw [decide_eq_false h0, kbf, if_neg h0]
    obtain ⟨c, m3, e3, hc, hk3⟩ := t91 (i + 1) m2.length (by omega) (Nat.le_refl _) hg2 ho 1
    have hat3 := hat2.keeps fun i hi => hk3.2 i hi
    rw [hat2.ld, k1s, show (.int .i64 1 : Value) = vi ((1 : Nat) : Int) from rfl, e3, kB_keeps _ hk3, kcs, hat3.ld, k1s, get90 i _ (by omega) (hg2.keeps hk3) ho hc, kB_same, kcs]
    cases anyC (midL g 1) (onM g) with
    | true => rw [kbt, if_pos rfl]; exact ⟨_, rfl⟩
    | false => rw [kbf, if_neg (by simp)]; exact ⟨_, rfl⟩
theorem t69 (n base : Nat) (hn : 120 ≤ n) {m : M} {v : Value} {g : Grp} (hg : GrpIn m v g) (ho : g.Ok) : rt (n + 1) base 69 [v] m = some (.ret (.string (nameH g)), m) := by
  suffices h : ∃ m1, r69 (rt n) n m.length v m = some (.ret (.string (nameH g)), m1) by
    obtain ⟨m1, h⟩ := h
    exact rt_pure (f := 69) (rf := rf69) (by kernel_rfl) (by kernel_rfl) (by kernel_rfl) n base _ m m1 _ h rfl
  obtain ⟨i, rfl⟩ : ∃ i, n = i + 2 := ⟨n - 2, by omega⟩
  obtain ⟨m1, e1, hat, hg1, hk1, hl1⟩ := grp_box m hg
  obtain ⟨u, m2, e2, hi, hk2⟩ := t89 (i + 1) m.length (by omega) (by omega) hg1 ho
  have hat2 := hat.keeps fun i hi => hk2.2 i hi
  have hg2 := hg1.keeps hk2
  unfold r69 nameH
  rw [k1_fun, fVal_fun, vcall_fun, e1, k2s, hat.ld, k1s, e2, kcs, hi.len37, k2s, show (.int .i64 0 : Value) = vi ((0 : Nat) : Int) from rfl, show (.int .i64 1 : Value) = vi ((1 : Nat) : Int) from rfl, eql3, k1s, natdec]
  by_cases h0 : (mirL g).length = 0
  · rw [decide_eq_true h0, kbt, if_pos h0]
    exact ⟨_, rfl⟩
  · rw [decide_eq_false h0, kbf, if_neg h0, hat2.ld, k1s, t93 (i + 1) _ (by omega) hg2 ho, kcs, eql3, k1s, natdec]
    by_cases h1 : dirN g = 0
    · rw [decide_eq_true h1, kbt, if_pos h1]
      exact ⟨_, rfl⟩
    · rw [decide_eq_false h1, kbf, if_neg h1, eql3, k1s, natdec]
      by_cases h2 : dirN g = 1
      · rw [decide_eq_true h2, kbt, if_pos h2]
        exact ⟨_, rfl⟩
      · rw [decide_eq_false h2, kbf, if_neg h2]
        obtain ⟨c, m3, e3, hc, hk3⟩ := t91 (i + 1) m2.length (by omega) (Nat.le_refl _) hg2 ho 2
        have hat3 := hat2.keeps fun i hi => hk3.2 i hi
        rw [hat2.ld, k1s, show (.int .i64 2 : Value) = vi ((2 : Nat) : Int) from rfl, e3, kB_keeps _ hk3, kcs, hat3.ld, k1s, get94 i _ (by omega) (hg2.keeps hk3) ho hc, kB_same, kcs]
        cases anyC (midL g 2) (fun x y => !onM g x y) with
        | true => rw [kbt, if_pos rfl]; exact ⟨_, rfl⟩
        | false => rw [kbf, if_neg (by simp)]; exact ⟨_, rfl⟩
theorem t70 (n base : Nat) (hn : 120 ≤ n) {m : M} {v : Value} {g : Grp} (hg : GrpIn m v g) (ho : g.Ok) : rt (n + 1) base 70 [v] m = some (.ret (.string (nameN g)), m) := by
  suffices h : ∃ m1, r70 (rt n) n m.length v m = some (.ret (.string (nameN g)), m1) by
    obtain ⟨m1, h⟩ := h
    exact rt_pure (f := 70) (rf := rf70) (by kernel_rfl) (by kernel_rfl) (by kernel_rfl) n base _ m m1 _ h rfl
  obtain ⟨i, rfl⟩ : ∃ i, n = i + 2 := ⟨n - 2, by omega⟩
  obtain ⟨m1, e1, hat, hg1, hk1, hl1⟩ := grp_box m hg
  obtain ⟨u, m2, e2, hi, hk2⟩ := t89 (i + 1) m.length (by omega) (by omega) hg1 ho
  have hat2 := hat.keeps fun i hi => hk2.2 i hi
  have hg2 := hg1.keeps hk2
  unfold r70 nameN
  rw [k1_fun, fVal_fun, vcall_fun, e1, k2s, hat.ld, k1s, e2, kcs, hi.len37, k2s, show (.int .i64 0 : Value) = vi ((0 : Nat) : Int) from rfl, eql3, k1s, natdec]
  by_cases h0 : (mirL g).length = 0
  · rw [decide_eq_true h0, kbt, if_pos h0]
    exact ⟨_, rfl⟩
  · rw [decide_eq_false h0, kbf, if_neg h0, hat2.ld, k1s, t93 (i + 1) _ (by omega) hg2 ho, kcs, eql3, k1s, natdec]
    by_cases h1 : dirN g = 0
    · rw [decide_eq_true h1, kbt, if_pos h1]
      exact ⟨_, rfl⟩
    · have hlt : 0 < (mirL g).length := by omega
      have hgd : (mirL g).getD 0 0 = (mirL g)[0] := by simp [hlt]
      rw [decide_eq_false h1, kbf, if_neg h1, hgd]
      obtain ⟨c, m3, e3, hc, hk3⟩ := t91 (i + 1) m2.length (by omega) (Nat.le_refl _) hg2 ho (mirL g)[0]
      have hat3 := hat2.keeps fun i hi => hk3.2 i hi
      rw [hat2.ld, k1s, hi.get hlt, e3, kB_keeps _ hk3, kcs, hat3.ld, k1s, get94 i _ (by omega) (hg2.keeps hk3) ho hc, kB_same, kcs]
      cases anyC (midL g (mirL g)[0]) (fun x y => !onM g x y) with
      | true => rw [kbt, if_pos rfl]; exact ⟨_, rfl⟩
      | false => rw [kbf, if_neg (by simp)]; exact ⟨_, rfl⟩
theorem t45 (n base : Nat) (hn : 130 ≤ n) {m : M} {v : Value} {g : Grp} (hg : GrpIn m v g) (ho : g.Ok) : rt (n + 1) base 45 [v] m = some (.ret (.string (nameG g)), m) := by
  suffices h : ∃ m1, r45 (rt n) n m.length v m = some (.ret (.string (nameG g)), m1) by
    obtain ⟨m1, h⟩ := h
    exact rt_pure (f := 45) (rf := rf45) (by kernel_rfl) (by kernel_rfl) (by kernel_rfl) n base _ m m1 _ h rfl
  obtain ⟨i, rfl⟩ : ∃ i, n = i + 1 := ⟨n - 1, by omega⟩
  obtain ⟨m1, e1, hat, hg1, hk1, hl1⟩ := grp_box m hg
  unfold r45 nameG
  rw [k1_fun, fVal_fun, e1, k2s, hat.ld, k1s, show (.int .i64 1 : Value) = vi ((1 : Nat) : Int) from rfl, show (.int .i64 2 : Value) = vi ((2 : Nat) : Int) from rfl, t67 i _ (by omega) hg1 ho 1, kcs, ofV_eq, ex0, k1s, ex1, k1s, al50, k2s]
  obtain ⟨a1, a2, a3, a4, a5, a6, hP⟩ := ofP_form 1 (ofM g.L 1)
  obtain ⟨b1, b2, b3, b4, b5, b6, hQ⟩ := ofP_form 2 (ofM g.L 2)
  have hz : (m1 ++ [cellR [(.int .i64 0 : Value), .int .i64 0, .int .i64 0, .int .i64 0, .int .i64 0, .int .i64 0]])[m1.length]? = some (cellR [.int .i64 0, .int .i64 0, .int .i64 0, .int .i64 0, .int .i64 0, .int .i64 0]) := by simp
  rw [hP, st50 (by omega) hz rfl, kss]
  generalize hm2 : (m1 ++ [cellR [(.int .i64 0 : Value), .int .i64 0, .int .i64 0, .int .i64 0, .int .i64 0, .int .i64 0]]).set m1.length (cellR [vi a1, vi a2, vi a3, vi a4, vi a5, vi a6]) = m2
  have hk2 : Keeps m1.length m1 m2 := by rw [← hm2]; exact (Keeps.push _ _ (Nat.le_refl _) _).trans (Keeps.set _ _ _ _ (Nat.le_refl _))
  have hat2 := hat.keeps fun i hi => hk2.2 i hi
  have hg2 := hg1.keeps hk2
  rw [hat2.ld, k1s, t67 i _ (by omega) hg2 ho 2, kcs, ofV_eq, ex0, k1s, ex1, k1s, al50, k2s]
  have hz2 : (m2 ++ [cellR [(.int .i64 0 : Value), .int .i64 0, .int .i64 0, .int .i64 0, .int .i64 0, .int .i64 0]])[m2.length]? = some (cellR [.int .i64 0, .int .i64 0, .int .i64 0, .int .i64 0, .int .i64 0, .int .i64 0]) := by simp
  have hl2 := hk2.1
  rw [hQ, st50 (by omega) hz2 rfl, kss]
  generalize hm3 : (m2 ++ [cellR [(.int .i64 0 : Value), .int .i64 0, .int .i64 0, .int .i64 0, .int .i64 0, .int .i64 0]]).set m2.length (cellR [vi b1, vi b2, vi b3, vi b4, vi b5, vi b6]) = m3
  have hk3 : Keeps m2.length m2 m3 := by rw [← hm3]; exact (Keeps.push _ _ (Nat.le_refl _) _).trans (Keeps.set _ _ _ _ (Nat.le_refl _))
  have hat3 := hat2.keeps fun i hi => hk3.2 i hi
  have hg3 := hg2.keeps hk3
  cases h1 : (ofM g.L 1).isSome with
  | true =>
    rw [kbt, if_pos rfl, hat3.ld, k1s, t68 i _ (by omega) hg3 ho, kcs]
    exact ⟨_, rfl⟩
  | false =>
    rw [kbf, if_neg (by simp)]
    cases h2 : (ofM g.L 2).isSome with
    | true =>
      rw [kbt, if_pos rfl, hat3.ld, k1s, t69 i _ (by omega) hg3 ho, kcs]
      exact ⟨_, rfl⟩
    | false =>
      rw [kbf, if_neg (by simp), hat3.ld, k1s, t70 i _ (by omega) hg3 ho, kcs]
      exact ⟨_, rfl⟩
/-- The group of a pattern. -/
def grpL (l : List ByteArray) : Grp := { A := latA l, B := latB l, D := smH l, L := movL l }
theorem grp_ok {l : List ByteArray} (hp : Pat l) : (grpL l).Ok := by
  obtain ⟨h1, h2, h3, _⟩ := lat_ok hp
  have h4 := hp.w6; have h5 := hp.h6
  obtain ⟨d1, d2, _⟩ := smH_le hp
  refine ⟨h1, d1, ?_, ?_, movU_len l 8, fun x hx => ?_⟩
  · show latA l ≤ 6; omega
  · show smH l ≤ 6; omega
  · unfold grpL movL movU at hx
    rw [List.mem_filterMap] at hx
    obtain ⟨k, hk, e⟩ := hx
    have := List.mem_range.1 hk
    cases ho : ofC l k with
    | none => rw [ho] at e; simp at e
    | some p => rw [ho] at e; simp at e; rw [← e]; exact this
theorem t43g (n base : Nat) (hn : 80 ≤ n) {m : M} (hb : base ≤ m.length) {v : Value} {l : List ByteArray} (hv : Strs m v l) (hp : Pat l) : ∃ u m', rt (n + 1) base 43 [v] m = some (.ret u, m') ∧ GrpIn m' u (grpL l) ∧ Keeps m.length m m' := by
  obtain ⟨s, m', e, h1, h2, h3⟩ := t43 n base hn hb hv hp
  exact ⟨_, m', e, ⟨s, rfl, h1, h3⟩, h2⟩
/-- What Group hands back. -/
def grN (l : List ByteArray) : ByteArray := if isP l = true then nameG (grpL l) else ByteArray.mk #[]
theorem t17 (n base : Nat) (hn : 140 ≤ n) {m : M} {v : Value} {l : List ByteArray} (hv : Strs m v l) : rt (n + 1) base 17 [v] m = some (.ret (.tuple #[.string (grN l), vi (smE l)]), m) := by
  suffices h : ∃ m1, r17 (rt n) n m.length v m = some (.ret (.tuple #[.string (grN l), vi (smE l)]), m1) by
    obtain ⟨m1, h⟩ := h
    exact rt_pure (f := 17) (rf := rf17) (by kernel_rfl) (by kernel_rfl) (by kernel_rfl) n base _ m m1 _ h rfl
  obtain ⟨i, rfl⟩ : ∃ i, n = i + 1 := ⟨n - 1, by omega⟩
  unfold r17 grN smE
  rw [k1_fun, t40 i _ (by omega) hv, kcs, not4, k1s]
  cases hP : isP l with
  | false =>
    rw [Bool.not_false, kbt]
    exact ⟨_, rfl⟩
  | true =>
    have hp := isP_iff.1 hP
    obtain ⟨u, m1, e1, hg, hk⟩ := t43g i m.length (by omega) (Nat.le_refl _) hv hp
    rw [Bool.not_true, kbf, e1]
    simp only [kcs, kB_keeps _ hk]
    rw [t45 i _ (by omega) hg (grp_ok hp)]
    simp only [kcs, kB_same]
    exact ⟨_, rfl⟩
end Go.AM
namespace Go.AM
open Go Go.Proofs
theorem al39 (m : M) : xalloc E.P m 39 = some (pt m.length 0, m ++ [cellR [.slice none 0 0, .slice none 0 0, .int .i64 0, .int .i64 0]]) := by
  have e : xalloc E.P m 39 = xlen m fun n => xpush m (cellR [.slice none 0 0, .slice none 0 0, .int .i64 0, .int .i64 0]) fun m' => some (pt n 0, m') := by kernel_rfl
  rw [e, xlen_eq, fNat_eq, xpush_eq, fList_eq]
theorem ml39 {m : M} {r : Nat} {a0 a1 a2 a3 : Value} (h : m[r]? = some (cellR [a0, a1, a2, a3])) : mload E.P m 39 (pt r 0) = some (.agg #[a0, a1, a2, a3]) := by
  have e : mload E.P m 39 (pt r 0) = (mread m r 0 4).map fun cs => .agg cs.toArray := by kernel_rfl
  rw [e]
  unfold mread
  rw [h]
  rfl
theorem st39 {base : Nat} {m : M} {p : Nat} (hb : base ≤ p) {a0 a1 a2 a3 b0 b1 b2 b3 : Value} (h : m[p]? = some (cellR [b0, b1, b2, b3])) (hone : ([a0, a1, a2, a3] : List Value).all (·.oneCell') = true) : xstore E.P base m 39 (pt p 0) (.agg #[a0, a1, a2, a3]) = some (m.set p (cellR [a0, a1, a2, a3])) := by
  have e : xstore E.P base m 39 (pt p 0) (.agg #[a0, a1, a2, a3]) = xwrite base m p 0 [a0, a1, a2, a3] := by kernel_rfl
  rw [e, xwrite_eq]
  unfold mwrite
  rw [if_neg (by omega), h]
  simp only [cellR, splice, fList_eq, Bool.false_eq_true, if_false, hone, if_true]
  simp
theorem ff39_0 (p o : Nat) : mfieldAddr E.P 39 (pt p o) 0 = some (pt p (o + 0)) := by kernel_rfl
theorem ff39_1 (p o : Nat) : mfieldAddr E.P 39 (pt p o) 1 = some (pt p (o + 1)) := by kernel_rfl
theorem ff39_2 (p o : Nat) : mfieldAddr E.P 39 (pt p o) 2 = some (pt p (o + 2)) := by kernel_rfl
theorem ff39_3 (p o : Nat) : mfieldAddr E.P 39 (pt p o) 3 = some (pt p (o + 3)) := by kernel_rfl
theorem ld37 (m : M) (r off : Nat) : xload E.P m 37 (pt r off) = mcell m r off := by
  have e : xload E.P m 37 (pt r off) = xcell m r off := by kernel_rfl
  rw [e, xcell_eq]
theorem e9 (a b : ByteArray) : mbin E .eql 9 (.string a) (.string b) = some (.bool (decide (a = b))) := by
  have e : mbin E .eql 9 (.string a) (.string b) = some (.bool (a.toList == b.toList)) := by kernel_rfl
  rw [e, bytes_eq]
theorem bs37_1 (m : M) (a0 : Int) : xbuildSlice E.P m 37 1 [(0, vi a0)] = some (sl m.length 1, m ++ [rowz 1 true [vi a0]]) := by
  have q : xbuildSlice E.P m 37 1 [(0, vi a0)] = xlen m fun n => xpush m (rowz 1 true [vi a0]) fun m' => some (sl n 1, m') := by kernel_rfl
  rw [q, xlen_eq, fNat_eq, xpush_eq, fList_eq]
theorem bs37_2 (m : M) (a0 a1 : Int) : xbuildSlice E.P m 37 2 [(0, vi a0), (1, vi a1)] = some (sl m.length 2, m ++ [rowz 1 true [vi a0, vi a1]]) := by
  have q : xbuildSlice E.P m 37 2 [(0, vi a0), (1, vi a1)] = xlen m fun n => xpush m (rowz 1 true [vi a0, vi a1]) fun m' => some (sl n 2, m') := by kernel_rfl
  rw [q, xlen_eq, fNat_eq, xpush_eq, fList_eq]
theorem bs37_3 (m : M) (a0 a1 a2 : Int) : xbuildSlice E.P m 37 3 [(0, vi a0), (1, vi a1), (2, vi a2)] = some (sl m.length 3, m ++ [rowz 1 true [vi a0, vi a1, vi a2]]) := by
  have q : xbuildSlice E.P m 37 3 [(0, vi a0), (1, vi a1), (2, vi a2)] = xlen m fun n => xpush m (rowz 1 true [vi a0, vi a1, vi a2]) fun m' => some (sl n 3, m') := by kernel_rfl
  rw [q, xlen_eq, fNat_eq, xpush_eq, fList_eq]
theorem bs37_4 (m : M) (a0 a1 a2 a3 : Int) : xbuildSlice E.P m 37 4 [(0, vi a0), (1, vi a1), (2, vi a2), (3, vi a3)] = some (sl m.length 4, m ++ [rowz 1 true [vi a0, vi a1, vi a2, vi a3]]) := by
  have q : xbuildSlice E.P m 37 4 [(0, vi a0), (1, vi a1), (2, vi a2), (3, vi a3)] = xlen m fun n => xpush m (rowz 1 true [vi a0, vi a1, vi a2, vi a3]) fun m' => some (sl n 4, m') := by kernel_rfl
  rw [q, xlen_eq, fNat_eq, xpush_eq, fList_eq]
/-- The groups and what is left of their floors. -/
def orbT : List (ByteArray × List Nat × List Nat × Nat × Nat) := [((ByteArray.mk #[112, 50]), [2, 2, 2, 2], [], 0, 0),
  ((ByteArray.mk #[112, 109]), [], [], 2, 0),
  ((ByteArray.mk #[112, 103]), [], [], 0, 2),
  ((ByteArray.mk #[99, 109]), [], [], 1, 1),
  ((ByteArray.mk #[112, 109, 109]), [], [2, 2, 2, 2], 1, 0),
  ((ByteArray.mk #[112, 109, 103]), [2, 2], [], 1, 0),
  ((ByteArray.mk #[112, 103, 103]), [2, 2], [], 0, 1),
  ((ByteArray.mk #[99, 109, 109]), [2], [2, 2], 1, 0),
  ((ByteArray.mk #[112, 52]), [4, 4, 2], [], 0, 0),
  ((ByteArray.mk #[112, 52, 109]), [], [4, 4, 2], 1, 0),
  ((ByteArray.mk #[112, 52, 103]), [4], [2], 1, 0),
  ((ByteArray.mk #[112, 49]), [], [], 0, 0)]
theorem nameG_mem (g : Grp) : ∃ C K M X, (nameG g, C, K, M, X) ∈ orbT := by
  have key : nameG g ∈ orbT.map (·.1) := by
    unfold nameG nameQ nameH nameN
    split
    · split
      · simp [orbT]
      · split <;> simp [orbT]
    · split
      · split
        · simp [orbT]
        · split
          · simp [orbT]
          · split
            · simp [orbT]
            · split <;> simp [orbT]
      · split
        · simp [orbT]
        · split
          · simp [orbT]
          · split <;> simp [orbT]
  obtain ⟨x, hx, e⟩ := List.mem_map.1 key
  exact ⟨x.2.1, x.2.2.1, x.2.2.2.1, x.2.2.2.2, by rw [← e]; exact hx⟩
abbrev orbV (c k : Value) (a b : Int) : Value := .agg #[c, k, vi a, vi b]
theorem tail47 {base : Nat} {m : M} {q : Nat} (hb : base ≤ q) {z0 z1 z2 z3 : Value} (hq : m[q]? = some (cellR [z0, z1, z2, z3])) {c k : Value} (hc : isSl c) (hk : isSl k) (a b : Int) :
    (ks (xstore E.P base m 39 (pt q 0) (orbV c k a b)) fun m => (k0 (mload E.P m 39 (pt q 0)) fun r => (some (.ret r, m) : Res2))) = some (.ret (orbV c k a b), m.set q (cellR [c, k, vi a, vi b])) := by
  rw [st39 hb hq (by show (c.oneCell' && (k.oneCell' && (true && (true && true)))) = true; rw [one_form hc, one_form hk]; rfl), kss, ml39 (List.getElem?_set_self (List.getElem?_eq_some_iff.1 hq).1), k0s]
theorem ints_row {m : M} {p : Nat} {N : List Nat} (h : m[p]? = some (rowz 1 true (intsV N))) : Ints m (sl p N.length) N := .inr ⟨p, _, rfl, h, rfl⟩
theorem t47 (n base : Nat) {m : M} (hb : base ≤ m.length) {nm : ByteArray} {C K : List Nat} {a b : Nat} (h : (nm, C, K, a, b) ∈ orbT) :
    ∃ c k m', rt (n + 1) base 47 [.string nm] m = some (.ret (orbV c k a b), m') ∧ Ints m' c C ∧ Ints m' k K ∧ isSl c ∧ isSl k ∧ Keeps m.length m m' := by
  rw [rt_imp (f := 47) (rf := rf47) (by kernel_rfl) (by kernel_rfl) (by kernel_rfl) n base]
  show ∃ c k m', r47 (rt n) n base (.string nm) m = _ ∧ _
  have hz : (m ++ [cellR [(.slice none 0 0 : Value), .slice none 0 0, .int .i64 0, .int .i64 0]])[m.length]? = some (cellR [.slice none 0 0, .slice none 0 0, .int .i64 0, .int .i64 0]) := by simp
  have hk1 : Keeps m.length m (m ++ [cellR [(.slice none 0 0 : Value), .slice none 0 0, .int .i64 0, .int .i64 0]]) := Keeps.push _ _ (Nat.le_refl _) _
  have nl : isSl nilS := .inl rfl
  have si : ∀ p n, isSl (sl p n) := fun p n => .inr ⟨p, n, rfl⟩
  have ni : ∀ m : M, Ints m nilS [] := fun m => .inl ⟨rfl, rfl⟩
  have i2 : (.int .i64 2 : Value) = vi 2 := rfl
  have i4 : (.int .i64 4 : Value) = vi 4 := rfl
  have i1 : (.int .i64 1 : Value) = vi 1 := rfl
  unfold r47
  rw [k1_fun, fVal_fun, al39, k2s]
  generalize hm1 : m ++ [cellR [(.slice none 0 0 : Value), .slice none 0 0, .int .i64 0, .int .i64 0]] = m1 at hz hk1
  have hl1 : m1.length = m.length + 1 := by rw [← hm1]; simp
  have push : ∀ r : Row, (m1 ++ [r])[m.length]? = some (cellR [.slice none 0 0, .slice none 0 0, .int .i64 0, .int .i64 0]) := fun r => by rw [List.getElem?_append_left (by omega)]; exact hz
  have push2 : ∀ r r' : Row, ((m1 ++ [r]) ++ [r'])[m.length]? = some (cellR [.slice none 0 0, .slice none 0 0, .int .i64 0, .int .i64 0]) := fun r r' => by rw [List.getElem?_append_left (by simp; omega)]; exact push r
  have kp : ∀ x : List Row, Keeps m.length m (m1 ++ x) := fun x => hk1.trans (Keeps.push _ _ (by omega) _)
  have ks' : ∀ (m2 : M) (row : Row), Keeps m.length m m2 → Keeps m.length m (m2.set m.length row) := fun m2 row hk => hk.trans (Keeps.set _ _ _ _ (Nat.le_refl _))
  simp only [orbT, List.mem_cons, Prod.mk.injEq, List.not_mem_nil, or_false] at h
  rcases h with ⟨rfl, rfl, rfl, rfl, rfl⟩ | ⟨rfl, rfl, rfl, rfl, rfl⟩ | ⟨rfl, rfl, rfl, rfl, rfl⟩ | ⟨rfl, rfl, rfl, rfl, rfl⟩ | ⟨rfl, rfl, rfl, rfl, rfl⟩ | ⟨rfl, rfl, rfl, rfl, rfl⟩ | ⟨rfl, rfl, rfl, rfl, rfl⟩ | ⟨rfl, rfl, rfl, rfl, rfl⟩ | ⟨rfl, rfl, rfl, rfl, rfl⟩ | ⟨rfl, rfl, rfl, rfl, rfl⟩ | ⟨rfl, rfl, rfl, rfl, rfl⟩ | ⟨rfl, rfl, rfl, rfl, rfl⟩
  · rw [e9, show decide ((ByteArray.mk #[112, 50]) = (ByteArray.mk #[112, 50])) = true from by decide, k1s, kbt]
    try simp only [i1, i2, i4]
    have hbld : mbuild E.P 39 [(0, (sl (m1).length 4))] = some (orbV (sl (m1).length 4) nilS 0 0) := by kernel_rfl
    rw [bs37_4, k2s, hbld, k1s, tail47 hb (push _) (si _ _) nl]
    exact ⟨(sl (m1).length 4), nilS, ((m1 ++ [rowz 1 true [vi 2, vi 2, vi 2, vi 2]]).set m.length (cellR [(sl (m1).length 4), nilS, vi 0, vi 0])), rfl, (ints_row (N := [2, 2, 2, 2]) (by rw [List.getElem?_set_ne (by omega)]; simp [intsV])), (ni _), (si _ _), nl, ks' _ _ (kp _)⟩
  · rw [e9, show decide ((ByteArray.mk #[112, 109]) = (ByteArray.mk #[112, 50])) = false from by decide, k1s, kbf, e9, show decide ((ByteArray.mk #[112, 109]) = (ByteArray.mk #[112, 109])) = true from by decide, k1s, kbt]
    try simp only [i1, i2, i4]
    have hbld : mbuild E.P 39 [(2, vi 2)] = some (orbV nilS nilS 2 0) := by kernel_rfl
    rw [hbld, k1s, tail47 hb hz nl nl]
    exact ⟨nilS, nilS, (m1.set m.length (cellR [nilS, nilS, vi 2, vi 0])), rfl, (ni _), (ni _), nl, nl, ks' _ _ hk1⟩
  · rw [e9, show decide ((ByteArray.mk #[112, 103]) = (ByteArray.mk #[112, 50])) = false from by decide, k1s, kbf, e9, show decide ((ByteArray.mk #[112, 103]) = (ByteArray.mk #[112, 109])) = false from by decide, k1s, kbf, e9, show decide ((ByteArray.mk #[112, 103]) = (ByteArray.mk #[112, 103])) = true from by decide, k1s, kbt]
    try simp only [i1, i2, i4]
    have hbld : mbuild E.P 39 [(3, vi 2)] = some (orbV nilS nilS 0 2) := by kernel_rfl
    rw [hbld, k1s, tail47 hb hz nl nl]
    exact ⟨nilS, nilS, (m1.set m.length (cellR [nilS, nilS, vi 0, vi 2])), rfl, (ni _), (ni _), nl, nl, ks' _ _ hk1⟩
  · rw [e9, show decide ((ByteArray.mk #[99, 109]) = (ByteArray.mk #[112, 50])) = false from by decide, k1s, kbf, e9, show decide ((ByteArray.mk #[99, 109]) = (ByteArray.mk #[112, 109])) = false from by decide, k1s, kbf, e9, show decide ((ByteArray.mk #[99, 109]) = (ByteArray.mk #[112, 103])) = false from by decide, k1s, kbf, e9, show decide ((ByteArray.mk #[99, 109]) = (ByteArray.mk #[99, 109])) = true from by decide, k1s, kbt]
    try simp only [i1, i2, i4]
    have hbld : mbuild E.P 39 [(2, vi 1), (3, vi 1)] = some (orbV nilS nilS 1 1) := by kernel_rfl
    rw [hbld, k1s, tail47 hb hz nl nl]
    exact ⟨nilS, nilS, (m1.set m.length (cellR [nilS, nilS, vi 1, vi 1])), rfl, (ni _), (ni _), nl, nl, ks' _ _ hk1⟩
  · rw [e9, show decide ((ByteArray.mk #[112, 109, 109]) = (ByteArray.mk #[112, 50])) = false from by decide, k1s, kbf, e9, show decide ((ByteArray.mk #[112, 109, 109]) = (ByteArray.mk #[112, 109])) = false from by decide, k1s, kbf, e9, show decide ((ByteArray.mk #[112, 109, 109]) = (ByteArray.mk #[112, 103])) = false from by decide, k1s, kbf, e9, show decide ((ByteArray.mk #[112, 109, 109]) = (ByteArray.mk #[99, 109])) = false from by decide, k1s, kbf, e9, show decide ((ByteArray.mk #[112, 109, 109]) = (ByteArray.mk #[112, 109, 109])) = true from by decide, k1s, kbt]
    try simp only [i1, i2, i4]
    have hbld : mbuild E.P 39 [(1, (sl (m1).length 4)), (2, vi 1)] = some (orbV nilS (sl (m1).length 4) 1 0) := by kernel_rfl
    rw [bs37_4, k2s, hbld, k1s, tail47 hb (push _) nl (si _ _)]
    exact ⟨nilS, (sl (m1).length 4), ((m1 ++ [rowz 1 true [vi 2, vi 2, vi 2, vi 2]]).set m.length (cellR [nilS, (sl (m1).length 4), vi 1, vi 0])), rfl, (ni _), (ints_row (N := [2, 2, 2, 2]) (by rw [List.getElem?_set_ne (by omega)]; simp [intsV])), nl, (si _ _), ks' _ _ (kp _)⟩
  · rw [e9, show decide ((ByteArray.mk #[112, 109, 103]) = (ByteArray.mk #[112, 50])) = false from by decide, k1s, kbf, e9, show decide ((ByteArray.mk #[112, 109, 103]) = (ByteArray.mk #[112, 109])) = false from by decide, k1s, kbf, e9, show decide ((ByteArray.mk #[112, 109, 103]) = (ByteArray.mk #[112, 103])) = false from by decide, k1s, kbf, e9, show decide ((ByteArray.mk #[112, 109, 103]) = (ByteArray.mk #[99, 109])) = false from by decide, k1s, kbf, e9, show decide ((ByteArray.mk #[112, 109, 103]) = (ByteArray.mk #[112, 109, 109])) = false from by decide, k1s, kbf, e9, show decide ((ByteArray.mk #[112, 109, 103]) = (ByteArray.mk #[112, 109, 103])) = true from by decide, k1s, kbt]
    try simp only [i1, i2, i4]
    have hbld : mbuild E.P 39 [(0, (sl (m1).length 2)), (2, vi 1)] = some (orbV (sl (m1).length 2) nilS 1 0) := by kernel_rfl
    rw [bs37_2, k2s, hbld, k1s, tail47 hb (push _) (si _ _) nl]
    exact ⟨(sl (m1).length 2), nilS, ((m1 ++ [rowz 1 true [vi 2, vi 2]]).set m.length (cellR [(sl (m1).length 2), nilS, vi 1, vi 0])), rfl, (ints_row (N := [2, 2]) (by rw [List.getElem?_set_ne (by omega)]; simp [intsV])), (ni _), (si _ _), nl, ks' _ _ (kp _)⟩
  · rw [e9, show decide ((ByteArray.mk #[112, 103, 103]) = (ByteArray.mk #[112, 50])) = false from by decide, k1s, kbf, e9, show decide ((ByteArray.mk #[112, 103, 103]) = (ByteArray.mk #[112, 109])) = false from by decide, k1s, kbf, e9, show decide ((ByteArray.mk #[112, 103, 103]) = (ByteArray.mk #[112, 103])) = false from by decide, k1s, kbf, e9, show decide ((ByteArray.mk #[112, 103, 103]) = (ByteArray.mk #[99, 109])) = false from by decide, k1s, kbf, e9, show decide ((ByteArray.mk #[112, 103, 103]) = (ByteArray.mk #[112, 109, 109])) = false from by decide, k1s, kbf, e9, show decide ((ByteArray.mk #[112, 103, 103]) = (ByteArray.mk #[112, 109, 103])) = false from by decide, k1s, kbf, e9, show decide ((ByteArray.mk #[112, 103, 103]) = (ByteArray.mk #[112, 103, 103])) = true from by decide, k1s, kbt]
    try simp only [i1, i2, i4]
    have hbld : mbuild E.P 39 [(0, (sl (m1).length 2)), (3, vi 1)] = some (orbV (sl (m1).length 2) nilS 0 1) := by kernel_rfl
    rw [bs37_2, k2s, hbld, k1s, tail47 hb (push _) (si _ _) nl]
    exact ⟨(sl (m1).length 2), nilS, ((m1 ++ [rowz 1 true [vi 2, vi 2]]).set m.length (cellR [(sl (m1).length 2), nilS, vi 0, vi 1])), rfl, (ints_row (N := [2, 2]) (by rw [List.getElem?_set_ne (by omega)]; simp [intsV])), (ni _), (si _ _), nl, ks' _ _ (kp _)⟩
  · rw [e9, show decide ((ByteArray.mk #[99, 109, 109]) = (ByteArray.mk #[112, 50])) = false from by decide, k1s, kbf, e9, show decide ((ByteArray.mk #[99, 109, 109]) = (ByteArray.mk #[112, 109])) = false from by decide, k1s, kbf, e9, show decide ((ByteArray.mk #[99, 109, 109]) = (ByteArray.mk #[112, 103])) = false from by decide, k1s, kbf, e9, show decide ((ByteArray.mk #[99, 109, 109]) = (ByteArray.mk #[99, 109])) = false from by decide, k1s, kbf, e9, show decide ((ByteArray.mk #[99, 109, 109]) = (ByteArray.mk #[112, 109, 109])) = false from by decide, k1s, kbf, e9, show decide ((ByteArray.mk #[99, 109, 109]) = (ByteArray.mk #[112, 109, 103])) = false from by decide, k1s, kbf, e9, show decide ((ByteArray.mk #[99, 109, 109]) = (ByteArray.mk #[112, 103, 103])) = false from by decide, k1s, kbf, e9, show decide ((ByteArray.mk #[99, 109, 109]) = (ByteArray.mk #[99, 109, 109])) = true from by decide, k1s, kbt]
    try simp only [i1, i2, i4]
    have hbld : mbuild E.P 39 [(0, (sl (m1).length 1)), (1, (sl ((m1 ++ [rowz 1 true [vi 2]])).length 2)), (2, vi 1)] = some (orbV (sl (m1).length 1) (sl ((m1 ++ [rowz 1 true [vi 2]])).length 2) 1 0) := by kernel_rfl
    rw [bs37_1, k2s, bs37_2, k2s, hbld, k1s, tail47 hb (push2 _ _) (si _ _) (si _ _)]
    exact ⟨(sl (m1).length 1), (sl ((m1 ++ [rowz 1 true [vi 2]])).length 2), (((m1 ++ [rowz 1 true [vi 2]]) ++ [rowz 1 true [vi 2, vi 2]]).set m.length (cellR [(sl (m1).length 1), (sl ((m1 ++ [rowz 1 true [vi 2]])).length 2), vi 1, vi 0])), rfl, (ints_row (N := [2]) (by rw [List.getElem?_set_ne (by omega)]; simp [intsV])), (ints_row (N := [2, 2]) (by rw [List.getElem?_set_ne (by simp; omega)]; simp [intsV])), (si _ _), (si _ _), ks' _ _ ((kp _).trans (Keeps.push _ _ (by simp; omega) _))⟩
  · rw [e9, show decide ((ByteArray.mk #[112, 52]) = (ByteArray.mk #[112, 50])) = false from by decide, k1s, kbf, e9, show decide ((ByteArray.mk #[112, 52]) = (ByteArray.mk #[112, 109])) = false from by decide, k1s, kbf, e9, show decide ((ByteArray.mk #[112, 52]) = (ByteArray.mk #[112, 103])) = false from by decide, k1s, kbf, e9, show decide ((ByteArray.mk #[112, 52]) = (ByteArray.mk #[99, 109])) = false from by decide, k1s, kbf, e9, show decide ((ByteArray.mk #[112, 52]) = (ByteArray.mk #[112, 109, 109])) = false from by decide, k1s, kbf, e9, show decide ((ByteArray.mk #[112, 52]) = (ByteArray.mk #[112, 109, 103])) = false from by decide, k1s, kbf, e9, show decide ((ByteArray.mk #[112, 52]) = (ByteArray.mk #[112, 103, 103])) = false from by decide, k1s, kbf, e9, show decide ((ByteArray.mk #[112, 52]) = (ByteArray.mk #[99, 109, 109])) = false from by decide, k1s, kbf, e9, show decide ((ByteArray.mk #[112, 52]) = (ByteArray.mk #[112, 52])) = true from by decide, k1s, kbt]
    try simp only [i1, i2, i4]
    have hbld : mbuild E.P 39 [(0, (sl (m1).length 3))] = some (orbV (sl (m1).length 3) nilS 0 0) := by kernel_rfl
    rw [bs37_3, k2s, hbld, k1s, tail47 hb (push _) (si _ _) nl]
    exact ⟨(sl (m1).length 3), nilS, ((m1 ++ [rowz 1 true [vi 4, vi 4, vi 2]]).set m.length (cellR [(sl (m1).length 3), nilS, vi 0, vi 0])), rfl, (ints_row (N := [4, 4, 2]) (by rw [List.getElem?_set_ne (by omega)]; simp [intsV])), (ni _), (si _ _), nl, ks' _ _ (kp _)⟩
  · rw [e9, show decide ((ByteArray.mk #[112, 52, 109]) = (ByteArray.mk #[112, 50])) = false from by decide, k1s, kbf, e9, show decide ((ByteArray.mk #[112, 52, 109]) = (ByteArray.mk #[112, 109])) = false from by decide, k1s, kbf, e9, show decide ((ByteArray.mk #[112, 52, 109]) = (ByteArray.mk #[112, 103])) = false from by decide, k1s, kbf, e9, show decide ((ByteArray.mk #[112, 52, 109]) = (ByteArray.mk #[99, 109])) = false from by decide, k1s, kbf, e9, show decide ((ByteArray.mk #[112, 52, 109]) = (ByteArray.mk #[112, 109, 109])) = false from by decide, k1s, kbf, e9, show decide ((ByteArray.mk #[112, 52, 109]) = (ByteArray.mk #[112, 109, 103])) = false from by decide, k1s, kbf, e9, show decide ((ByteArray.mk #[112, 52, 109]) = (ByteArray.mk #[112, 103, 103])) = false from by decide, k1s, kbf, e9, show decide ((ByteArray.mk #[112, 52, 109]) = (ByteArray.mk #[99, 109, 109])) = false from by decide, k1s, kbf, e9, show decide ((ByteArray.mk #[112, 52, 109]) = (ByteArray.mk #[112, 52])) = false from by decide, k1s, kbf, e9, show decide ((ByteArray.mk #[112, 52, 109]) = (ByteArray.mk #[112, 52, 109])) = true from by decide, k1s, kbt]
    try simp only [i1, i2, i4]
    have hbld : mbuild E.P 39 [(1, (sl (m1).length 3)), (2, vi 1)] = some (orbV nilS (sl (m1).length 3) 1 0) := by kernel_rfl
    rw [bs37_3, k2s, hbld, k1s, tail47 hb (push _) nl (si _ _)]
    exact ⟨nilS, (sl (m1).length 3), ((m1 ++ [rowz 1 true [vi 4, vi 4, vi 2]]).set m.length (cellR [nilS, (sl (m1).length 3), vi 1, vi 0])), rfl, (ni _), (ints_row (N := [4, 4, 2]) (by rw [List.getElem?_set_ne (by omega)]; simp [intsV])), nl, (si _ _), ks' _ _ (kp _)⟩
  · rw [e9, show decide ((ByteArray.mk #[112, 52, 103]) = (ByteArray.mk #[112, 50])) = false from by decide, k1s, kbf, e9, show decide ((ByteArray.mk #[112, 52, 103]) = (ByteArray.mk #[112, 109])) = false from by decide, k1s, kbf, e9, show decide ((ByteArray.mk #[112, 52, 103]) = (ByteArray.mk #[112, 103])) = false from by decide, k1s, kbf, e9, show decide ((ByteArray.mk #[112, 52, 103]) = (ByteArray.mk #[99, 109])) = false from by decide, k1s, kbf, e9, show decide ((ByteArray.mk #[112, 52, 103]) = (ByteArray.mk #[112, 109, 109])) = false from by decide, k1s, kbf, e9, show decide ((ByteArray.mk #[112, 52, 103]) = (ByteArray.mk #[112, 109, 103])) = false from by decide, k1s, kbf, e9, show decide ((ByteArray.mk #[112, 52, 103]) = (ByteArray.mk #[112, 103, 103])) = false from by decide, k1s, kbf, e9, show decide ((ByteArray.mk #[112, 52, 103]) = (ByteArray.mk #[99, 109, 109])) = false from by decide, k1s, kbf, e9, show decide ((ByteArray.mk #[112, 52, 103]) = (ByteArray.mk #[112, 52])) = false from by decide, k1s, kbf, e9, show decide ((ByteArray.mk #[112, 52, 103]) = (ByteArray.mk #[112, 52, 109])) = false from by decide, k1s, kbf, e9, show decide ((ByteArray.mk #[112, 52, 103]) = (ByteArray.mk #[112, 52, 103])) = true from by decide, k1s, kbt]
    try simp only [i1, i2, i4]
    have hbld : mbuild E.P 39 [(0, (sl (m1).length 1)), (1, (sl ((m1 ++ [rowz 1 true [vi 4]])).length 1)), (2, vi 1)] = some (orbV (sl (m1).length 1) (sl ((m1 ++ [rowz 1 true [vi 4]])).length 1) 1 0) := by kernel_rfl
    rw [bs37_1, k2s, bs37_1, k2s, hbld, k1s, tail47 hb (push2 _ _) (si _ _) (si _ _)]
    exact ⟨(sl (m1).length 1), (sl ((m1 ++ [rowz 1 true [vi 4]])).length 1), (((m1 ++ [rowz 1 true [vi 4]]) ++ [rowz 1 true [vi 2]]).set m.length (cellR [(sl (m1).length 1), (sl ((m1 ++ [rowz 1 true [vi 4]])).length 1), vi 1, vi 0])), rfl, (ints_row (N := [4]) (by rw [List.getElem?_set_ne (by omega)]; simp [intsV])), (ints_row (N := [2]) (by rw [List.getElem?_set_ne (by simp; omega)]; simp [intsV])), (si _ _), (si _ _), ks' _ _ ((kp _).trans (Keeps.push _ _ (by simp; omega) _))⟩
  · rw [e9, show decide ((ByteArray.mk #[112, 49]) = (ByteArray.mk #[112, 50])) = false from by decide, k1s, kbf, e9, show decide ((ByteArray.mk #[112, 49]) = (ByteArray.mk #[112, 109])) = false from by decide, k1s, kbf, e9, show decide ((ByteArray.mk #[112, 49]) = (ByteArray.mk #[112, 103])) = false from by decide, k1s, kbf, e9, show decide ((ByteArray.mk #[112, 49]) = (ByteArray.mk #[99, 109])) = false from by decide, k1s, kbf, e9, show decide ((ByteArray.mk #[112, 49]) = (ByteArray.mk #[112, 109, 109])) = false from by decide, k1s, kbf, e9, show decide ((ByteArray.mk #[112, 49]) = (ByteArray.mk #[112, 109, 103])) = false from by decide, k1s, kbf, e9, show decide ((ByteArray.mk #[112, 49]) = (ByteArray.mk #[112, 103, 103])) = false from by decide, k1s, kbf, e9, show decide ((ByteArray.mk #[112, 49]) = (ByteArray.mk #[99, 109, 109])) = false from by decide, k1s, kbf, e9, show decide ((ByteArray.mk #[112, 49]) = (ByteArray.mk #[112, 52])) = false from by decide, k1s, kbf, e9, show decide ((ByteArray.mk #[112, 49]) = (ByteArray.mk #[112, 52, 109])) = false from by decide, k1s, kbf, e9, show decide ((ByteArray.mk #[112, 49]) = (ByteArray.mk #[112, 52, 103])) = false from by decide, k1s, kbf]
    have hbld : mbuild E.P 39 [] = some (orbV nilS nilS 0 0) := by kernel_rfl
    rw [hbld, k1s, tail47 hb hz nl nl]
    exact ⟨nilS, nilS, (m1.set m.length (cellR [nilS, nilS, vi 0, vi 0])), rfl, (ni _), (ni _), nl, nl, ks' _ _ hk1⟩
end Go.AM
namespace Go.AM
open Go Go.Proofs
/-- What Orbifold hands back. -/
def OrbIn (m : M) (v : Value) (l : List ByteArray) : Prop := if isP l = true then (∃ C K a b c k, (nameG (grpL l), C, K, a, b) ∈ orbT ∧ v = orbV c k (a : Nat) (b : Nat) ∧ Ints m c C ∧ Ints m k K ∧ isSl c ∧ isSl k) else v = orbV nilS nilS 0 0
theorem ints_ne {m : M} {p q : Nat} {row : Row} {N : List Nat} {a b : Value} (hq : m[q]? = some (cellR [nilS, nilS, a, b])) (h : m[p]? = some row) (hc : row.cells = intsV N) : p ≠ q := by
  rintro rfl
  rw [hq] at h
  obtain rfl := Option.some.inj h
  cases N with
  | nil => simp [cellR, intsV] at hc
  | cons n N => simp [cellR, intsV, vi] at hc
theorem Ints.set {m : M} {v : Value} {N : List Nat} (h : Ints m v N) {q : Nat} {a b : Value} (hq : m[q]? = some (cellR [nilS, nilS, a, b])) (row : Row) : Ints (m.set q row) v N := by
  rcases h with h | ⟨p, r, h1, h2, h3⟩
  · exact .inl h
  · exact .inr ⟨p, r, h1, by rw [List.getElem?_set_ne (Ne.symm (ints_ne hq h2 h3))]; exact h2, h3⟩
theorem b39e : mbuild E.P 39 [] = some (orbV nilS nilS 0 0) := by kernel_rfl
theorem t20 (n base : Nat) (hn : 140 ≤ n) {m : M} (hb : base ≤ m.length) {v : Value} {l : List ByteArray} (hv : Strs m v l) : ∃ u m', rt (n + 1) base 20 [v] m = some (.ret (.tuple #[u, vi (smE l)]), m') ∧ OrbIn m' u l ∧ Keeps m.length m m' := by
  rw [rt_imp (f := 20) (rf := rf20) (by kernel_rfl) (by kernel_rfl) (by kernel_rfl) n base]
  show ∃ u m', r20 (rt n) n base v m = _ ∧ _
  obtain ⟨i, rfl⟩ : ∃ i, n = i + 1 := ⟨n - 1, by omega⟩
  have hz : (m ++ [cellR [(.slice none 0 0 : Value), .slice none 0 0, .int .i64 0, .int .i64 0]])[m.length]? = some (cellR [.slice none 0 0, .slice none 0 0, .int .i64 0, .int .i64 0]) := by simp
  have hk1 : Keeps m.length m (m ++ [cellR [(.slice none 0 0 : Value), .slice none 0 0, .int .i64 0, .int .i64 0]]) := Keeps.push _ _ (Nat.le_refl _) _
  have nl : isSl nilS := .inl rfl
  unfold r20 OrbIn smE
  rw [k1_fun, al39, k2s, t40 i base (by omega) (hv.app _), kcs, not4, k1s]
  generalize hm1 : m ++ [cellR [(.slice none 0 0 : Value), .slice none 0 0, .int .i64 0, .int .i64 0]] = m1 at hz hk1
  have hv1 := hv.keeps hk1
  have hl1 : m1.length = m.length + 1 := by rw [← hm1]; simp
  cases hP : isP l with
  | false =>
    rw [Bool.not_false, kbt, b39e, k1s, st39 hb hz rfl, kss, ml39 (List.getElem?_set_self (List.getElem?_eq_some_iff.1 hz).1), k0s]
    exact ⟨orbV nilS nilS 0 0, _, rfl, by simp, hk1.trans (Keeps.set _ _ _ _ (Nat.le_refl _))⟩
  | true =>
    have hp := isP_iff.1 hP
    obtain ⟨u, m2, e2, hg, hk2⟩ := t43g i base (by omega) (show base ≤ m1.length by omega) hv1 hp
    obtain ⟨C, K, a, b, hmem⟩ := nameG_mem (grpL l)
    obtain ⟨c, k, m3, e3, hc, hk, sc, sk, hk3⟩ := t47 i base (m := m2) (by have := hk2.1; omega) hmem
    have hz3 : m3[m.length]? = some (cellR [.slice none 0 0, .slice none 0 0, .int .i64 0, .int .i64 0]) := by
      rw [hk3.2 _ (by have := hk2.1; omega), hk2.2 _ (by omega)]; exact hz
    have hone : ([c, k, vi (a : Nat), vi (b : Nat)] : List Value).all (·.oneCell') = true := by
      show (c.oneCell' && (k.oneCell' && (true && (true && true)))) = true
      rw [one_form sc, one_form sk]; rfl
    rw [Bool.not_true, kbf, e2, kcs, t45 i base (by omega) hg (grp_ok hp), kcs, e3, kcs, st39 hb hz3 hone, kss, ml39 (List.getElem?_set_self (List.getElem?_eq_some_iff.1 hz3).1), k0s]
    have hl3 := (List.getElem?_eq_some_iff.1 hz3).1
    refine ⟨orbV c k (a : Nat) (b : Nat), _, rfl, ?_, ?_⟩
    · simp only [if_true]
      exact ⟨C, K, a, b, c, k, hmem, rfl, hc.set hz3 _, hk.set hz3 _, sc, sk⟩
    · exact hk1.trans ((hk2.mono (by omega)).trans ((hk3.mono (by have := hk2.1; omega)).trans (Keeps.set _ _ _ _ (Nat.le_refl _))))
theorem r7_L0_s (call : CallF) (fuel base : Nat) (kr : Value → M → Res2) (kx0 : Value → Value → M → Res2) (n : Nat) (x5 x7 x8 : Value) (m : M) : r7_L0 call fuel base kr kx0 (n + 1) x5 x7 x8 m =
    (k1n (mfieldAddr E.P 39 x5 0) fun v67_42 => (k1n (xload E.P m 37 v67_42) fun v68_43 => (k2 (vcalln E.P base m .len [37] [v68_43]) fun v69_44 m => (k1n (mbin E .lss 3 x8 v69_44) fun v70_45 => (kb v70_45 (k1n (mfieldAddr E.P 39 x5 0) fun v73_46 => (k1n (xload E.P m 37 v73_46) fun v74_47 => (k1n (mindexAddr E.P 37 v74_47 x8) fun v76_48 => (k1n (xload E.P m 3 v76_48) fun v77_49 => (k1n (mbin E .neq 3 v77_49 (.int .i64 2)) fun v78_50 => (kb v78_50 (k1n (mfieldAddr E.P 39 x5 0) fun v80_51 => (k1n (xload E.P m 37 v80_51) fun v81_52 => (k1n (mindexAddr E.P 37 v81_52 x8) fun v83_53 => (k1n (xload E.P m 3 v83_53) fun v84_54 => (k1n (mbin E .neq 3 v84_54 (.int .i64 4)) fun v85_55 => (kb v85_55 (kr (.bool false) m) (k1n (mfieldAddr E.P 39 x5 0) fun v88_56 => (k1n (xload E.P m 37 v88_56) fun v89_57 => (k1n (mindexAddr E.P 37 v89_57 x8) fun v91_58 => (k1n (xload E.P m 3 v91_58) fun v92_59 => (k1n (mbin E .sub 3 v92_59 (.int .i64 1)) fun v93_60 => (k1n (mbin E .mul 3 (.int .i64 24) v93_60) fun v94_61 => (k1n (mfieldAddr E.P 39 x5 0) fun v95_62 => (k1n (xload E.P m 37 v95_62) fun v96_63 => (k1n (mindexAddr E.P 37 v96_63 x8) fun v98_64 => (k1n (xload E.P m 3 v98_64) fun v99_65 => (k1n (mbin E .quo 3 v94_61 v99_65) fun v100_66 => (k1n (mbin E .sub 3 x7 v100_66) fun v101_67 => (k1n (mbin E .add 3 x8 (.int .i64 1)) fun v72_68 => (r7_L0 call fuel base kr kx0 n x5 v101_67 v72_68 m)))))))))))))))))))) (k1n (mfieldAddr E.P 39 x5 0) fun v88_69 => (k1n (xload E.P m 37 v88_69) fun v89_70 => (k1n (mindexAddr E.P 37 v89_70 x8) fun v91_71 => (k1n (xload E.P m 3 v91_71) fun v92_72 => (k1n (mbin E .sub 3 v92_72 (.int .i64 1)) fun v93_73 => (k1n (mbin E .mul 3 (.int .i64 24) v93_73) fun v94_74 => (k1n (mfieldAddr E.P 39 x5 0) fun v95_75 => (k1n (xload E.P m 37 v95_75) fun v96_76 => (k1n (mindexAddr E.P 37 v96_76 x8) fun v98_77 => (k1n (xload E.P m 3 v98_77) fun v99_78 => (k1n (mbin E .quo 3 v94_74 v99_78) fun v100_79 => (k1n (mbin E .sub 3 x7 v100_79) fun v101_80 => (k1n (mbin E .add 3 x8 (.int .i64 1)) fun v72_81 => (r7_L0 call fuel base kr kx0 n x5 v101_80 v72_81 m)))))))))))))))))))) (kx0 x5 x7 m)))))) := by
  unfold r7_L0
  rw [k1_fun, vcall_fun]
theorem r7_L2_s (call : CallF) (fuel base : Nat) (kr : Value → M → Res2) (kx2 : Value → M → Res2) (n : Nat) (x5 x7 x9 : Value) (m : M) : r7_L2 call fuel base kr kx2 (n + 1) x5 x7 x9 m =
    (k1n (mfieldAddr E.P 39 x5 1) fun v103_85 => (k1n (xload E.P m 37 v103_85) fun v104_86 => (k2 (vcalln E.P base m .len [37] [v104_86]) fun v105_87 m => (k1n (mbin E .lss 3 x9 v105_87) fun v106_88 => (kb v106_88 (k1n (mfieldAddr E.P 39 x5 1) fun v109_89 => (k1n (xload E.P m 37 v109_89) fun v110_90 => (k1n (mindexAddr E.P 37 v110_90 x9) fun v112_91 => (k1n (xload E.P m 3 v112_91) fun v113_92 => (k1n (mbin E .neq 3 v113_92 (.int .i64 2)) fun v114_93 => (kb v114_93 (k1n (mfieldAddr E.P 39 x5 1) fun v116_94 => (k1n (xload E.P m 37 v116_94) fun v117_95 => (k1n (mindexAddr E.P 37 v117_95 x9) fun v119_96 => (k1n (xload E.P m 3 v119_96) fun v120_97 => (k1n (mbin E .neq 3 v120_97 (.int .i64 4)) fun v121_98 => (kb v121_98 (kr (.bool false) m) (k1n (mfieldAddr E.P 39 x5 1) fun v124_99 => (k1n (xload E.P m 37 v124_99) fun v125_100 => (k1n (mindexAddr E.P 37 v125_100 x9) fun v127_101 => (k1n (xload E.P m 3 v127_101) fun v128_102 => (k1n (mbin E .sub 3 v128_102 (.int .i64 1)) fun v129_103 => (k1n (mbin E .mul 3 (.int .i64 12) v129_103) fun v130_104 => (k1n (mfieldAddr E.P 39 x5 1) fun v131_105 => (k1n (xload E.P m 37 v131_105) fun v132_106 => (k1n (mindexAddr E.P 37 v132_106 x9) fun v134_107 => (k1n (xload E.P m 3 v134_107) fun v135_108 => (k1n (mbin E .quo 3 v130_104 v135_108) fun v136_109 => (k1n (mbin E .sub 3 x7 v136_109) fun v137_110 => (k1n (mbin E .add 3 x9 (.int .i64 1)) fun v108_111 => (r7_L2 call fuel base kr kx2 n x5 v137_110 v108_111 m)))))))))))))))))))) (k1n (mfieldAddr E.P 39 x5 1) fun v124_112 => (k1n (xload E.P m 37 v124_112) fun v125_113 => (k1n (mindexAddr E.P 37 v125_113 x9) fun v127_114 => (k1n (xload E.P m 3 v127_114) fun v128_115 => (k1n (mbin E .sub 3 v128_115 (.int .i64 1)) fun v129_116 => (k1n (mbin E .mul 3 (.int .i64 12) v129_116) fun v130_117 => (k1n (mfieldAddr E.P 39 x5 1) fun v131_118 => (k1n (xload E.P m 37 v131_118) fun v132_119 => (k1n (mindexAddr E.P 37 v132_119 x9) fun v134_120 => (k1n (xload E.P m 3 v134_120) fun v135_121 => (k1n (mbin E .quo 3 v130_117 v135_121) fun v136_122 => (k1n (mbin E .sub 3 x7 v136_122) fun v137_123 => (k1n (mbin E .add 3 x9 (.int .i64 1)) fun v108_124 => (r7_L2 call fuel base kr kx2 n x5 v137_123 v108_124 m)))))))))))))))))))) (kx2 x7 m)))))) := by
  unfold r7_L2
  rw [k1_fun, vcall_fun]
/-- What is taken away for a cone or a corner. -/
def stpF (w : Int) (S : Int) (c : Nat) : Int := wr (S - wr (Int.tdiv (wr (w * wr ((c : Int) - 1))) (c : Int)))
def eulF (w S : Int) (C : List Nat) : Int := C.foldl (stpF w) S
theorem ld37f {m : M} {q o : Nat} {cs : List Value} (h : m[q]? = some (cellR cs)) {v : Value} (hv : cs[o]? = some v) : xload E.P m 37 (pt q o) = some v := by
  rw [ld37]
  exact box_cell h o v hv
theorem loop7a (call : CallF) (fuel base : Nat) (kr : Value → M → Res2) (kx : Value → Value → M → Res2) {m : M} {q : Nat} {c k z1 z2 : Value} {C : List Nat} (hq : m[q]? = some (cellR [c, k, z1, z2])) (hc : Ints m c C) (hC : ∀ x ∈ C, x = 2 ∨ x = 4) (hL : C.length ≤ 10) :
    ∀ (i n j : Nat) (S : Int), i < n → j + i = C.length → r7_L0 call fuel base kr kx n (pt q 0) (vi S) (vi (j : Int)) m = kx (pt q 0) (vi (eulF 24 S (C.drop j))) m
  | _, 0, j, S, hi, hj => by omega
  | 0, n + 1, j, S, hi, hj => by
    rw [r7_L0_s, ff39_0, k1s, ld37f hq (v := c) rfl, k1s, hc.len37, k2s, lss_nat, k1s, decide_eq_false (by omega), kbf, List.drop_eq_nil_of_le (by omega)]
    rfl
  | i + 1, n + 1, j, S, hi, hj => by
    have hlt : j < C.length := by omega
    have hdrop : C.drop j = C[j] :: C.drop (j + 1) := List.drop_eq_getElem_cons hlt
    have hx := hC _ (List.getElem_mem hlt)
    have hstep : eulF 24 S (C.drop j) = eulF 24 (stpF 24 S C[j]) (C.drop (j + 1)) := by rw [hdrop]; rfl
    have hne : ((C[j] : Nat) : Int) ≠ 0 := by omega
    have i2 : (.int .i64 2 : Value) = vi ((2 : Nat) : Int) := rfl
    have i4 : (.int .i64 4 : Value) = vi ((4 : Nat) : Int) := rfl
    have i24 : (.int .i64 24 : Value) = vi 24 := rfl
    have i1 : (.int .i64 1 : Value) = vi 1 := rfl
    have e1 : wr ((j : Int) + 1) = ((j + 1 : Nat) : Int) := wr_succ j (by omega)
    rw [r7_L0_s, ff39_0, k1s, ld37f hq (v := c) rfl, k1s, hc.len37, k2s, lss_nat, k1s, decide_eq_true hlt, kbt, k1s, ld37f hq (v := c) rfl, k1s, hc.get hlt, i2, neq3, k1s, natdec, hstep]
    have rest : (k1n (some (pt q (0 + 0))) fun v88 => k1n (xload E.P m 37 v88) fun v89 => k1n (mindexAddr E.P 37 v89 (vi (j : Int))) fun v91 => k1n (xload E.P m 3 v91) fun v92 => k1n (mbin E .sub 3 v92 (.int .i64 1)) fun v93 => k1n (mbin E .mul 3 (.int .i64 24) v93) fun v94 => k1n (some (pt q (0 + 0))) fun v95 => k1n (xload E.P m 37 v95) fun v96 => k1n (mindexAddr E.P 37 v96 (vi (j : Int))) fun v98 => k1n (xload E.P m 3 v98) fun v99 => k1n (mbin E .quo 3 v94 v99) fun v100 => k1n (mbin E .sub 3 (vi S) v100) fun v101 => k1n (mbin E .add 3 (vi (j : Int)) (.int .i64 1)) fun v72 => r7_L0 call fuel base kr kx n (pt q 0) v101 v72 m) = kx (pt q 0) (vi (eulF 24 (stpF 24 S C[j]) (C.drop (j + 1)))) m := by
      rw [k1s, ld37f hq (v := c) rfl, k1s, hc.get hlt, i1, sub3, k1s, i24, mul3, k1s, k1s, ld37f hq (v := c) rfl, k1s, hc.get hlt, quo3 _ _ hne, k1s, sub3, k1s, add3, k1s, e1]
      exact loop7a call fuel base kr kx hq hc hC hL i n (j + 1) _ (by omega) (by omega)
    by_cases h2 : C[j] = 2
    · rw [decide_eq_true h2, Bool.not_true, kbf]
      exact rest
    · have h4 : C[j] = 4 := by omega
      rw [decide_eq_false h2, Bool.not_false, kbt, k1s, ld37f hq (v := c) rfl, k1s, hc.get hlt, i4, neq3, k1s, natdec, decide_eq_true h4, Bool.not_true, kbf]
      exact rest
theorem loop7b (call : CallF) (fuel base : Nat) (kr : Value → M → Res2) (kx : Value → M → Res2) {m : M} {q : Nat} {c k z1 z2 : Value} {C : List Nat} (hq : m[q]? = some (cellR [c, k, z1, z2])) (hc : Ints m k C) (hC : ∀ x ∈ C, x = 2 ∨ x = 4) (hL : C.length ≤ 10) :
    ∀ (i n j : Nat) (S : Int), i < n → j + i = C.length → r7_L2 call fuel base kr kx n (pt q 0) (vi S) (vi (j : Int)) m = kx (vi (eulF 12 S (C.drop j))) m
  | _, 0, j, S, hi, hj => by omega
  | 0, n + 1, j, S, hi, hj => by
    rw [r7_L2_s, ff39_1, k1s, ld37f hq (v := k) rfl, k1s, hc.len37, k2s, lss_nat, k1s, decide_eq_false (by omega), kbf, List.drop_eq_nil_of_le (by omega)]
    rfl
  | i + 1, n + 1, j, S, hi, hj => by
    have hlt : j < C.length := by omega
    have hdrop : C.drop j = C[j] :: C.drop (j + 1) := List.drop_eq_getElem_cons hlt
    have hx := hC _ (List.getElem_mem hlt)
    have hstep : eulF 12 S (C.drop j) = eulF 12 (stpF 12 S C[j]) (C.drop (j + 1)) := by rw [hdrop]; rfl
    have hne : ((C[j] : Nat) : Int) ≠ 0 := by omega
    have i2 : (.int .i64 2 : Value) = vi ((2 : Nat) : Int) := rfl
    have i4 : (.int .i64 4 : Value) = vi ((4 : Nat) : Int) := rfl
    have i24 : (.int .i64 12 : Value) = vi 12 := rfl
    have i1 : (.int .i64 1 : Value) = vi 1 := rfl
    have e1 : wr ((j : Int) + 1) = ((j + 1 : Nat) : Int) := wr_succ j (by omega)
    rw [r7_L2_s, ff39_1, k1s, ld37f hq (v := k) rfl, k1s, hc.len37, k2s, lss_nat, k1s, decide_eq_true hlt, kbt, k1s, ld37f hq (v := k) rfl, k1s, hc.get hlt, i2, neq3, k1s, natdec, hstep]
    have rest : (k1n (some (pt q (0 + 1))) fun v88 => k1n (xload E.P m 37 v88) fun v89 => k1n (mindexAddr E.P 37 v89 (vi (j : Int))) fun v91 => k1n (xload E.P m 3 v91) fun v92 => k1n (mbin E .sub 3 v92 (.int .i64 1)) fun v93 => k1n (mbin E .mul 3 (.int .i64 12) v93) fun v94 => k1n (some (pt q (0 + 1))) fun v95 => k1n (xload E.P m 37 v95) fun v96 => k1n (mindexAddr E.P 37 v96 (vi (j : Int))) fun v98 => k1n (xload E.P m 3 v98) fun v99 => k1n (mbin E .quo 3 v94 v99) fun v100 => k1n (mbin E .sub 3 (vi S) v100) fun v101 => k1n (mbin E .add 3 (vi (j : Int)) (.int .i64 1)) fun v72 => r7_L2 call fuel base kr kx n (pt q 0) v101 v72 m) = kx (vi (eulF 12 (stpF 12 S C[j]) (C.drop (j + 1)))) m := by
      rw [k1s, ld37f hq (v := k) rfl, k1s, hc.get hlt, i1, sub3, k1s, i24, mul3, k1s, k1s, ld37f hq (v := k) rfl, k1s, hc.get hlt, quo3 _ _ hne, k1s, sub3, k1s, add3, k1s, e1]
      exact loop7b call fuel base kr kx hq hc hC hL i n (j + 1) _ (by omega) (by omega)
    by_cases h2 : C[j] = 2
    · rw [decide_eq_true h2, Bool.not_true, kbf]
      exact rest
    · have h4 : C[j] = 4 := by omega
      rw [decide_eq_false h2, Bool.not_false, kbt, k1s, ld37f hq (v := k) rfl, k1s, hc.get hlt, i4, neq3, k1s, natdec, decide_eq_true h4, Bool.not_true, kbf]
      exact rest
def orbOk (x : ByteArray × List Nat × List Nat × Nat × Nat) : Bool :=
  (x.2.1.all fun c => c == 2 || c == 4) && (x.2.2.1.all fun c => c == 2 || c == 4) && Nat.ble x.2.1.length 10 && Nat.ble x.2.2.1.length 10 &&
  (if x.1 = ByteArray.mk #[112, 49] then x.2.1.length + x.2.2.1.length + x.2.2.2.1 + x.2.2.2.2 == 0 else eulF 12 (eulF 24 (wr (24 * wr (wr (2 - (x.2.2.2.1 : Int)) - (x.2.2.2.2 : Int)))) x.2.1) x.2.2.1 == 0)
theorem orb_all : (orbT.all orbOk) = true := by decide +kernel
theorem t7 (n base : Nat) (hn : 200 ≤ n) {m : M} (hb : base ≤ m.length) {v : Value} {l : List ByteArray} (hv : Strs m v l) : ∃ m', rt (n + 1) base 7 [v] m = some (.ret (.bool true), m') := by
  rw [rt_imp (f := 7) (rf := rf7) (by kernel_rfl) (by kernel_rfl) (by kernel_rfl) n base]
  show ∃ m', r7 (rt n) n base v m = _
  obtain ⟨i, rfl⟩ : ∃ i, n = i + 1 := ⟨n - 1, by omega⟩
  obtain ⟨bb, e10, _⟩ := t10 i base (by omega) hv
  unfold r7
  rw [k1_fun, fVal_fun, vcall_fun, e10, kcs, not4, k1s]
  cases bb with
  | false =>
    rw [Bool.not_false, kbt, rt11, kcs]
    exact ⟨_, rfl⟩
  | true =>
    obtain ⟨u, m2, e20, ho, hk2⟩ := t20 i base (by omega) hb hv
    rw [Bool.not_true, kbf, t17 i base (by omega) hv, kcs, ex0, k1s, ex1, k1s, e20, kcs, ex0, k1s, ex1, k1s, al39, k2s]
    have hz : (m2 ++ [cellR [(.slice none 0 0 : Value), .slice none 0 0, .int .i64 0, .int .i64 0]])[m2.length]? = some (cellR [.slice none 0 0, .slice none 0 0, .int .i64 0, .int .i64 0]) := by simp
    have hb2 : base ≤ m2.length := Nat.le_trans hb hk2.1
    have z0 : (.int .i64 0 : Value) = vi 0 := rfl
    unfold OrbIn at ho
    unfold grN smE
    cases hP : isP l with
    | false =>
      rw [hP] at ho
      simp only [Bool.false_eq_true, if_false] at ho ⊢
      subst ho
      rw [st39 hb2 hz rfl, kss]
      simp only [z0]
      rw [neq27, k1s, show (!decide ((2 : Int) = 0)) = true from rfl, kbt, eql27, k1s, show decide ((2 : Int) = 2) = true from rfl, kbt, e9, k1s, show decide (ByteArray.mk #[] = ByteArray.mk #[]) = true from rfl, kbt, rt11, kcs]
      exact ⟨_, rfl⟩
    | true =>
      rw [hP] at ho
      simp only [if_true] at ho ⊢
      obtain ⟨C, K, a, b, c, k, hmem, rfl, hc, hkk, sc, sk⟩ := ho
      have hone : ([c, k, vi (a : Nat), vi (b : Nat)] : List Value).all (·.oneCell') = true := by
        show (c.oneCell' && (k.oneCell' && (true && (true && true)))) = true
        rw [one_form sc, one_form sk]; rfl
      rw [st39 hb2 hz hone, kss]
      generalize hm3 : (m2 ++ [cellR [(.slice none 0 0 : Value), .slice none 0 0, .int .i64 0, .int .i64 0]]).set m2.length (cellR [c, k, vi (a : Nat), vi (b : Nat)]) = m3
      have hk3 : Keeps m2.length m2 m3 := by rw [← hm3]; exact (Keeps.push _ _ (Nat.le_refl _) _).trans (Keeps.set _ _ _ _ (Nat.le_refl _))
      have hq : m3[m2.length]? = some (cellR [c, k, vi (a : Nat), vi (b : Nat)]) := by rw [← hm3]; exact List.getElem?_set_self (by simp)
      have hc3 := hc.keeps hk3
      have hkk3 := hkk.keeps hk3
      have hok := List.all_eq_true.1 orb_all _ hmem
      unfold orbOk at hok
      simp only [Bool.and_eq_true] at hok
      obtain ⟨⟨⟨⟨o1, o2⟩, o3⟩, o4⟩, o5⟩ := hok
      have hC : ∀ x ∈ C, x = 2 ∨ x = 4 := fun x hx => by
        have := List.all_eq_true.1 o1 x hx
        simpa using this
      have hK : ∀ x ∈ K, x = 2 ∨ x = 4 := fun x hx => by
        have := List.all_eq_true.1 o2 x hx
        simpa using this
      have lC : C.length ≤ 10 := by simpa using o3
      have lK : K.length ≤ 10 := by simpa using o4
      generalize hnm : nameG (grpL l) = nm at hmem o5 ⊢
      simp only [z0]
      rw [neq27, k1s, show (!decide ((0 : Int) = 0)) = false from rfl, kbf, k1s, kbf, e9, k1s]
      by_cases hp1 : nm = ByteArray.mk #[112, 49]
      · rw [if_pos hp1] at o5
        have hs : C.length + K.length + a + b = 0 := by simpa using o5
        rw [decide_eq_true hp1, kbt, ff39_0, k1s, ld37f hq (v := c) rfl, k1s, hc3.len37, k2s, ff39_1, k1s, ld37f hq (v := k) rfl, k1s, hkk3.len37, k2s, add3, k1s, ff39_2, k1s, ld3, box_cell hq (0 + 2) _ rfl, k1s, add3, k1s, ff39_3, k1s, ld3, box_cell hq (0 + 3) _ rfl, k1s, add3, k1s, eql3, k1s]
        rw [show C.length = 0 by omega, show K.length = 0 by omega, show a = 0 by omega, show b = 0 by omega, show decide (wr (wr (wr (((0 : Nat) : Int) + ((0 : Nat) : Int)) + ((0 : Nat) : Int)) + ((0 : Nat) : Int)) = 0) = true from rfl, kbt, rt11, kcs]
        exact ⟨_, rfl⟩
      · rw [if_neg hp1] at o5
        have hs : eulF 12 (eulF 24 (wr (24 * wr (wr (2 - (a : Int)) - (b : Int)))) C) K = 0 := by simpa using o5
        rw [decide_eq_false hp1, kbf, ff39_2, k1s, ld3, box_cell hq (0 + 2) _ rfl, k1s, show (.int .i64 2 : Value) = vi 2 from rfl, sub3, k1s, ff39_3, k1s, ld3, box_cell hq (0 + 3) _ rfl, k1s, sub3, k1s, show (.int .i64 24 : Value) = vi 24 from rfl, mul3, k1s, show (vi 0 : Value) = vi ((0 : Nat) : Int) from rfl,
          loop7a (rt (i + 1)) (i + 1) base _ _ hq hc3 hC lC C.length (i + 1) 0 _ (by omega) (by omega), List.drop_zero, loop7b (rt (i + 1)) (i + 1) base _ _ hq hkk3 hK lK K.length (i + 1) 0 _ (by omega) (by omega), List.drop_zero, hs, eql3, k1s, show decide ((0 : Int) = ((0 : Nat) : Int)) = true from rfl, kbt, rt11, kcs]
        exact ⟨_, rfl⟩
end Go.AM
