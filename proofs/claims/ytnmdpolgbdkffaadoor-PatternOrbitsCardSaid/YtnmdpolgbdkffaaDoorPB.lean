import Derived.KernelRfl
import Derived.Laws.BytesArg
import Derived.Laws.StructEq
import Derived.Test.YtnmdpolgbdkffaaDoorRows
import Derived.WalkKit
import Derived.Test.YtnmdpolgbdkffaaDoorAmB
import Derived.Test.YtnmdpolgbdkffaaDoorAmModel
import Derived.Test.YtnmdpolgbdkffaaDoorAmOps6
import Derived.Test.YtnmdpolgbdkffaaDoorAmCode
import Derived.Test.YtnmdpolgbdkffaaDoorAmK2
import Derived.Test.YtnmdpolgbdkffaaDoorAmEq
import Derived.Test.YtnmdpolgbdkffaaDoorRBase
import Derived.Test.YtnmdpolgbdkffaaDoorR47
import Derived.Test.YtnmdpolgbdkffaaDoorR76
import Derived.Test.YtnmdpolgbdkffaaDoorAmS
import Derived.Test.YtnmdpolgbdkffaaDoorS11
import Derived.Test.YtnmdpolgbdkffaaDoorFL
set_option linter.unusedVariables false
set_option linter.unusedSimpArgs false
set_option linter.unusedSectionVars false
namespace Go.AM
open Go Go.Proofs
structure Pat (l : List ByteArray) : Prop where
  h1 : 1 ≤ l.length
  h6 : l.length ≤ 6
  w1 : 1 ≤ wid l
  w6 : wid l ≤ 6
  row : ∀ j, j < l.length → (str l j).size = wid l ∧ okRow (str l j) = true
theorem isP_iff {l : List ByteArray} : isP l = true ↔ Pat l := by
  unfold isP
  simp only [Bool.and_eq_true, decide_eq_true_eq, allFrom_iff, Nat.zero_add, okLine]
  constructor
  · rintro ⟨a, b, c, d, e⟩
    exact ⟨a, b, c, d, fun j hj => e j (Nat.zero_le _) hj⟩
  · rintro ⟨a, b, c, d, e⟩
    exact ⟨a, b, c, d, fun j _ hj => e j hj⟩
theorem wr_small {n : Int} (h0 : -1000000000000 ≤ n) (h1 : n ≤ 1000000000000) : wr n = n := wr_id (by omega) (by omega)
theorem tmod_md (a n : Int) (h1 : 1 ≤ n) (h2 : n ≤ 1000000) : (wr (a.tmod n + n)).tmod n = a % n ∧ 0 ≤ a % n ∧ a % n < n := by
  have hb := Int.emod_nonneg a (by omega : n ≠ 0)
  have hc := Int.emod_lt_of_pos a (by omega : 0 < n)
  have e : a.tmod n = if 0 ≤ a ∨ n ∣ a then a % n else a % n - n := by
    rw [Int.tmod_eq_emod]
    split
    · omega
    · rw [Int.natAbs_of_nonneg (by omega)]
  refine ⟨?_, hb, hc⟩
  rw [e]
  split
  · rw [wr_small (by omega) (by omega), Int.tmod_eq_emod_of_nonneg (by omega), Int.add_emod_right, Int.emod_emod_of_dvd _ (Int.dvd_refl n)]
  · rw [show a % n - n + n = a % n by omega, wr_small (by omega) (by omega), Int.tmod_eq_emod_of_nonneg hb, Int.emod_emod_of_dvd _ (Int.dvd_refl n)]
theorem t101 (n base : Nat) (m : M) (a b : Int) (h1 : 1 ≤ b) (h2 : b ≤ 1000000) : rt (n + 1) base 101 [vi a, vi b] m = some (.ret (vi (a % b)), m) := by
  refine rt_pure (f := 101) (rf := rf101) (by kernel_rfl) (by kernel_rfl) (by kernel_rfl) n base _ m m _ ?_ rfl
  show r101 (rt n) n m.length (vi a) (vi b) m = _
  unfold r101
  rw [k1_fun, fVal_fun, rem3 _ _ (by omega), k1s, add3, k1s, rem3 _ _ (by omega), k1s, (tmod_md a b h1 h2).1]
theorem t77 (n base : Nat) (m : M) (a b : Int) (h1 : 1 ≤ b) (h2 : b ≤ 1000000) : rt (n + 1) base 77 [vi a, vi b] m = some (.ret (vi (a % b)), m) := by
  refine rt_pure (f := 77) (rf := rf77) (by kernel_rfl) (by kernel_rfl) (by kernel_rfl) n base _ m m _ ?_ rfl
  show r77 (rt n) n m.length (vi a) (vi b) m = _
  unfold r77
  rw [k1_fun, fVal_fun, rem3 _ _ (by omega), k1s, add3, k1s, rem3 _ _ (by omega), k1s, (tmod_md a b h1 h2).1]
/-- The colour of a cell of the floor. -/
def colr (l : List ByteArray) (x y : Int) : Nat := byt (str l (y % (l.length : Int)).toNat) (x % (wid l : Int)).toNat
theorem Pat.ix {l : List ByteArray} (h : Pat l) (x y : Int) : (y % (l.length : Int)).toNat < l.length ∧ (x % (wid l : Int)).toNat < wid l ∧ ((y % (l.length : Int)).toNat : Int) = y % (l.length : Int) ∧ ((x % (wid l : Int)).toNat : Int) = x % (wid l : Int) := by
  have a := h.h1
  have b := h.w1
  have p1 := Int.emod_nonneg y (by omega : (l.length : Int) ≠ 0)
  have p2 := Int.emod_lt_of_pos y (by omega : (0 : Int) < l.length)
  have p3 := Int.emod_nonneg x (by omega : (wid l : Int) ≠ 0)
  have p4 := Int.emod_lt_of_pos x (by omega : (0 : Int) < wid l)
  omega
theorem t85 (n base : Nat) {m : M} {v : Value} {l : List ByteArray} (hv : Strs m v l) (hp : Pat l) (x y : Int) : rt (n + 2) base 85 [v, cV x y] m = some (.ret (.int .u8 (colr l x y)), m) := by
  refine rt_pure (f := 85) (rf := rf85) (by kernel_rfl) (by kernel_rfl) (by kernel_rfl) (n + 1) base _ m (m ++ [cellR [vi x, vi y]]) _ ?_ rfl
  show r85 (rt (n + 1)) (n + 1) m.length v (cV x y) m = _
  have hq : (m ++ [cellR [vi x, vi y]])[m.length]? = some (cellR [vi x, vi y]) := by simp
  have hv1 := hv.app [cellR [vi x, vi y]]
  obtain ⟨i1, i2, i3, i4⟩ := hp.ix x y
  have a1 := hp.h1; have a2 := hp.h6; have a3 := hp.w1; have a4 := hp.w6
  unfold r85
  rw [k1_fun, vcall_fun, fVal_fun, bxa2, k2s, ff103_1, k1s, ld3, box_cell hq 1 _ rfl, k1s, hv1.len66, k2s, t101 n _ _ _ _ (by omega) (by omega), kcs, ← i3, hv1.get66 i1, ff103_0, k1s, ld3, box_cell hq 0 _ rfl, k1s, len9, k2s, str_get i1, (hp.row _ i1).1, t101 n _ _ _ _ (by omega) (by omega), kcs, ← i4, byt_get _ _ (by rw [(hp.row _ i1).1]; exact i2), k1s]
  rfl
theorem t58 (n base : Nat) {m : M} {v : Value} {l : List ByteArray} (hv : Strs m v l) (hp : Pat l) (x y : Int) : rt (n + 2) base 58 [v, vi x, vi y] m = some (.ret (.int .u8 (colr l x y)), m) := by
  refine rt_pure (f := 58) (rf := rf58) (by kernel_rfl) (by kernel_rfl) (by kernel_rfl) (n + 1) base _ m m _ ?_ rfl
  show r58 (rt (n + 1)) (n + 1) m.length v (vi x) (vi y) m = _
  obtain ⟨i1, i2, i3, i4⟩ := hp.ix x y
  have a1 := hp.h1; have a2 := hp.h6; have a3 := hp.w1; have a4 := hp.w6
  unfold r58
  rw [k1_fun, vcall_fun, fVal_fun, hv.len22, k2s, t77 n _ _ _ _ (by omega) (by omega), kB_same, kcs, ← i3, hv.get i1, i0, hv.get (by omega : 0 < l.length), len9, k2s, str_get i1, str_get (by omega : 0 < l.length), str_zero (by omega), t77 n _ _ _ _ (by omega) (by omega), kB_same, kcs, ← i4, byt_get _ _ (by rw [(hp.row _ i1).1]; exact i2), k1s]
  rfl
theorem r33_L2_s (call : CallF) (fuel base : Nat) (kr : Value → M → Res2) (kx2 : Value → Value → M → Res2) (n : Nat) (x0 x3 x4 : Value) (m : M) : r33_L2 call fuel base kr kx2 (n + 1) x0 x3 x4 m =
    (k1n (mindexAddr E.P 22 x0 x3) fun v46_22 => (k1n (xload E.P m 9 v46_22) fun v47_23 => (k2 (vcalln E.P base m .len [9] [v47_23]) fun v48_24 m => (k1n (mbin E .lss 3 x4 v48_24) fun v49_25 => (kb v49_25 (k1n (mindexAddr E.P 22 x0 x3) fun v54_26 => (k1n (xload E.P m 9 v54_26) fun v55_27 => (k1n (mindex E.P 9 v55_27 x4) fun v57_28 => (k1n (mbin E .lss 5 v57_28 (.int .u8 97)) fun v58_29 => (kb v58_29 (kr (.bool false) m) (k1n (mindexAddr E.P 22 x0 x3) fun v62_30 => (k1n (xload E.P m 9 v62_30) fun v63_31 => (k1n (mindex E.P 9 v63_31 x4) fun v65_32 => (k1n (mbin E .gtr 5 v65_32 (.int .u8 100)) fun v66_33 => (kb v66_33 (kr (.bool false) m) (k1n (mbin E .add 3 x4 (.int .i64 1)) fun v51_34 => (r33_L2 call fuel base kr kx2 n x0 x3 v51_34 m)))))))))))) (kx2 x0 x3 m)))))) := by
  unfold r33_L2
  rw [k1_fun, vcall_fun]
theorem r33_L0_s (call : CallF) (fuel base : Nat) (kr : Value → M → Res2) (kx0 : M → Res2) (n : Nat) (x0 x3 : Value) (m : M) : r33_L0 call fuel base kr kx0 (n + 1) x0 x3 m =
    (k2 (vcalln E.P base m .len [22] [x0]) fun v29_13 m => (k1n (mbin E .lss 3 x3 v29_13) fun v30_14 => (kb v30_14 (k1n (mindexAddr E.P 22 x0 x3) fun v35_15 => (k1n (xload E.P m 9 v35_15) fun v36_16 => (k2 (vcalln E.P base m .len [9] [v36_16]) fun v37_17 m => (k1n (mindexAddr E.P 22 x0 (.int .i64 0)) fun v39_18 => (k1n (xload E.P m 9 v39_18) fun v40_19 => (k2 (vcalln E.P base m .len [9] [v40_19]) fun v41_20 m => (k1n (mbin E .neq 3 v37_17 v41_20) fun v42_21 => (kb v42_21 (kr (.bool false) m) (r33_L2 call fuel base (fun y2_35 m => (kr y2_35 m)) (fun y0_36 y3_37 m => (k1n (mbin E .add 3 y3_37 (.int .i64 1)) fun v32_38 => (r33_L0 call fuel base kr kx0 n y0_36 v32_38 m))) fuel x0 x3 (.int .i64 0) m))))))))) (kx0 m)))) := by
  unfold r33_L0
  rw [k1_fun, vcall_fun]
theorem loop33b (call : CallF) (fuel base : Nat) (kr : Value → M → Res2) (kx : Value → Value → M → Res2) {m : M} {v : Value} {l : List ByteArray} (hv : Strs m v l) {y : Nat} (hy : y < l.length) (hb : (str l y).size ≤ 1000000) :
    ∀ (n j : Nat), j ≤ (str l y).size → (str l y).size < n + j → r33_L2 call fuel base kr kx n v (vi y) (vi j) m = if allFrom (okc (str l y)) ((str l y).size - j) j then kx v (vi y) m else kr (.bool false) m
  | 0, j, hj, hn => by omega
  | n + 1, j, hj, hn => by
    rw [r33_L2_s, hv.get hy, len9, k2s, str_get hy, lss_nat, k1s]
    by_cases hlt : j < (str l y).size
    · rw [decide_eq_true hlt, kbt, hv.get hy, str_get hy, byt_get _ j hlt, k1s, lss5, k1s, show (str l y).size - j = ((str l y).size - (j + 1)) + 1 by omega]
      unfold allFrom okc
      by_cases h1 : 97 ≤ byt (str l y) j
      · rw [decide_eq_false (by omega), kbf, hv.get hy, str_get hy, byt_get _ j hlt, k1s, gtr5, k1s, decide_eq_true h1]
        by_cases h2 : byt (str l y) j ≤ 100
        · rw [decide_eq_false (by omega), kbf, add1 j (by omega), k1s, decide_eq_true h2, loop33b call fuel base kr kx hv hy hb n (j + 1) (by omega) (by omega)]
          rfl
        · rw [decide_eq_true (by omega), kbt, decide_eq_false h2]
          rfl
      · rw [decide_eq_true (by omega), kbt, decide_eq_false h1]
        rfl
    · rw [decide_eq_false hlt, kbf, show (str l y).size - j = 0 by omega]
      rfl
theorem loop33 (call : CallF) (fuel base : Nat) (hf : 10 ≤ fuel) (kr : Value → M → Res2) (kx : M → Res2) {m : M} {v : Value} {l : List ByteArray} (hv : Strs m v l) (hl : l.length ≤ 1000000) (hw : wid l ≤ 6) :
    ∀ (n j : Nat), j ≤ l.length → l.length < n + j → r33_L0 call fuel base kr kx n v (vi j) m = if allFrom (okLine l) (l.length - j) j then kx m else kr (.bool false) m
  | 0, j, hj, hn => by omega
  | n + 1, j, hj, hn => by
    rw [r33_L0_s, hv.len22, k2s, lss_nat, k1s]
    by_cases hlt : j < l.length
    · rw [decide_eq_true hlt, kbt, hv.get hlt, len9, k2s, i0, hv.get (by omega : 0 < l.length), len9, k2s, neq3, k1s, natdec, str_get hlt, str_get (by omega : 0 < l.length), str_zero (by omega), show l.length - j = (l.length - (j + 1)) + 1 by omega]
      unfold allFrom okLine
      by_cases h1 : (str l j).size = wid l
      · rw [decide_eq_true h1, Bool.not_true, kbf, loop33b call fuel base _ _ hv hlt (by omega) fuel 0 (by omega) (by omega), Nat.sub_zero]
        unfold okRow
        cases allFrom (okc (str l j)) (str l j).size 0 with
        | true =>
          simp only [if_true]
          rw [add1 j (by omega), k1s, loop33 call fuel base hf kr kx hv hl hw n (j + 1) (by omega) (by omega)]
          rfl
        | false => rfl
      · rw [decide_eq_false h1]
        rfl
    · rw [decide_eq_false hlt, kbf, show l.length - j = 0 by omega]
      rfl
theorem t33 (n base : Nat) (hn : 10 ≤ n) {m : M} {v : Value} {l : List ByteArray} (hv : Strs m v l) : rt (n + 1) base 33 [v] m = some (.ret (.bool (isP l)), m) := by
  refine rt_pure (f := 33) (rf := rf33) (by kernel_rfl) (by kernel_rfl) (by kernel_rfl) n base _ m m _ ?_ rfl
  show r33 (rt n) n m.length v m = _
  unfold r33
  rw [fVal_fun, k1_fun, vcall_fun, hv.len22, k2s, show (.int .i64 1 : Value) = vi 1 from rfl, show (.int .i64 6 : Value) = vi 6 from rfl, lss3, k1s]
  unfold isP
  by_cases h1 : 1 ≤ l.length
  · rw [decide_eq_false (by omega), kbf, hv.len22, k2s, gtr3, k1s, decide_eq_true h1]
    by_cases h2 : l.length ≤ 6
    · rw [decide_eq_false (by omega), kbf, i0, hv.get (by omega : 0 < l.length), str_get (by omega : 0 < l.length), len9, k2s, lss3, k1s, decide_eq_true h2, str_zero (by omega)]
      by_cases h3 : 1 ≤ wid l
      · rw [decide_eq_false (by omega), kbf, hv.get (by omega : 0 < l.length), str_get (by omega : 0 < l.length), len9, k2s, gtr3, k1s, decide_eq_true h3, str_zero (by omega)]
        by_cases h4 : wid l ≤ 6
        · rw [decide_eq_false (by omega), kbf, decide_eq_true h4]
          rw [loop33 _ _ _ hn _ _ hv (by omega) h4 n 0 (by omega) (by omega), Nat.sub_zero]
          cases allFrom (okLine l) l.length 0 <;> rfl
        · rw [decide_eq_true (by omega), decide_eq_false h4]
          rfl
      · rw [decide_eq_true (by omega), decide_eq_false h3]
        rfl
    · rw [decide_eq_true (by omega), decide_eq_false h2]
      rfl
  · rw [decide_eq_true (by omega), decide_eq_false h1]
    rfl
abbrev Q4 := Int × Int × Int × Int
def koN (q : Q4) : Nat → Nat → Option Nat
  | 0, _ => none
  | k + 1, j => if kindT j = q then some j else koN q k (j + 1)
def koV (q : Q4) : Int := match koN q 8 0 with
  | some j => (j : Int)
  | none => -1
theorem e50 (a b c d e f a2 b2 c2 d2 e2 f2 : Int) : mbin E .eql 50 (mV a b c d e f) (mV a2 b2 c2 d2 e2 f2) = some (.bool (decide ((a, b, c, d, e, f) = (a2, b2, c2, d2, e2, f2)))) := by
  have hq : mbin E .eql 50 (mV a b c d e f) (mV a2 b2 c2 d2 e2 f2) = (match a == a2 with
    | true => (match b == b2 with
      | true => (match c == c2 with
        | true => (match d == d2 with
          | true => (match e == e2 with
            | true => (match f == f2 with
              | true => some true
              | false => some false)
            | false => some false)
          | false => some false)
        | false => some false)
      | false => some false)
    | false => some false).map .bool := by kernel_rfl
  rw [hq]
  clear hq
  by_cases h1 : a = a2
  · by_cases h2 : b = b2
    · by_cases h3 : c = c2
      · by_cases h4 : d = d2
        · by_cases h5 : e = e2
          · by_cases h6 : f = f2
            · subst h1 h2 h3 h4 h5 h6; simp
            · subst h1 h2 h3 h4 h5; simp [beq_false_of_ne h6, h6]
          · subst h1 h2 h3 h4; simp [beq_false_of_ne h5, h5]
        · subst h1 h2 h3; simp [beq_false_of_ne h4, h4]
      · subst h1 h2; simp [beq_false_of_ne h3, h3]
    · subst h1; simp [beq_false_of_ne h2, h2]
  · simp [beq_false_of_ne h1, h1]
theorem r81_L0_s (call : CallF) (fuel base : Nat) (kr : Value → M → Res2) (kx0 : M → Res2) (n : Nat) (x1 x7 x8 : Value) (m : M) : r81_L0 call fuel base kr kx0 (n + 1) x1 x7 x8 m =
    (k1n (mbin E .lss 3 x8 (.int .i64 8)) fun v9_5 => (kb v9_5 (k1n (mindex E.P 92 x7 x8) fun v11_6 => (k2 (xalloc E.P m 50) fun v4_7 m => (ks (xstore E.P base m 50 v4_7 v11_6) fun m => (k1n (xload E.P m 50 x1) fun v12_8 => (k1n (xload E.P m 50 v4_7) fun v13_9 => (k1n (mbin E .eql 50 v12_8 v13_9) fun v14_10 => (kb v14_10 (kr x8 m) (k1n (mbin E .add 3 x8 (.int .i64 1)) fun v16_11 => (r81_L0 call fuel base kr kx0 n x1 x7 v16_11 m))))))))) (kx0 m))) := by
  unfold r81_L0
  rw [k1_fun]
theorem r35_L0_s (call : CallF) (fuel base : Nat) (kr : Value → M → Res2) (kx0 : M → Res2) (n : Nat) (x1 x3 : Value) (m : M) : r35_L0 call fuel base kr kx0 (n + 1) x1 x3 m =
    (k1n (mbin E .lss 3 x3 (.int .i64 8)) fun v7_4 => (kb v7_4 (kc (kB m (call m.length 61 [x3] m)) (fun v11_5 m => (k1n (xload E.P m 50 x1) fun v12_6 => (k1n (mbin E .eql 50 v11_5 v12_6) fun v13_7 => (kb v13_7 (kr x3 m) (k1n (mbin E .add 3 x3 (.int .i64 1)) fun v9_8 => (r35_L0 call fuel base kr kx0 n x1 v9_8 m)))))) (fun _ _ => none)) (kx0 m))) := by
  unfold r35_L0
  rw [k1_fun]
theorem kV_eq (k : Nat) (e f : Int) : kV k e f = mV (kindT k).1 (kindT k).2.1 (kindT k).2.2.1 (kindT k).2.2.2 e f := rfl
noncomputable def tabV : Value := .agg ((gtabs.head?.map (·.2)).getD []).toArray
theorem ix92 (j : Nat) (h : j < 8) : mindex E.P 92 tabV (vi (j : Int)) = some (kV j 0 0) := by
  have h0 : mindex E.P 92 tabV (vi ((0 : Nat) : Int)) = some (kV 0 0 0) := by kernel_rfl
  have h1 : mindex E.P 92 tabV (vi ((1 : Nat) : Int)) = some (kV 1 0 0) := by kernel_rfl
  have h2 : mindex E.P 92 tabV (vi ((2 : Nat) : Int)) = some (kV 2 0 0) := by kernel_rfl
  have h3 : mindex E.P 92 tabV (vi ((3 : Nat) : Int)) = some (kV 3 0 0) := by kernel_rfl
  have h4 : mindex E.P 92 tabV (vi ((4 : Nat) : Int)) = some (kV 4 0 0) := by kernel_rfl
  have h5 : mindex E.P 92 tabV (vi ((5 : Nat) : Int)) = some (kV 5 0 0) := by kernel_rfl
  have h6 : mindex E.P 92 tabV (vi ((6 : Nat) : Int)) = some (kV 6 0 0) := by kernel_rfl
  have h7 : mindex E.P 92 tabV (vi ((7 : Nat) : Int)) = some (kV 7 0 0) := by kernel_rfl
  match j, h with
  | 0, _ => exact h0
  | 1, _ => exact h1
  | 2, _ => exact h2
  | 3, _ => exact h3
  | 4, _ => exact h4
  | 5, _ => exact h5
  | 6, _ => exact h6
  | 7, _ => exact h7
theorem ldtab (m : M) : xload E.P m 92 (.pointer (some ⟨0, 0, some 0⟩)) = some tabV := by kernel_rfl
theorem kdec (k : Nat) (a b c d : Int) : decide ((a, b, c, d, (0 : Int), (0 : Int)) = ((kindT k).1, (kindT k).2.1, (kindT k).2.2.1, (kindT k).2.2.2, 0, 0)) = decide (kindT k = (a, b, c, d)) := by
  refine decide_eq_decide.2 ⟨fun h => ?_, fun h => ?_⟩
  · simp only [Prod.mk.injEq] at h
    obtain ⟨rfl, rfl, rfl, rfl, _⟩ := h
    rfl
  · rw [h]
theorem kdec' (k : Nat) (a b c d : Int) : decide (((kindT k).1, (kindT k).2.1, (kindT k).2.2.1, (kindT k).2.2.2, (0 : Int), (0 : Int)) = (a, b, c, d, 0, 0)) = decide (kindT k = (a, b, c, d)) := by
  rw [← kdec]
  exact decide_eq_decide.2 ⟨Eq.symm, Eq.symm⟩
theorem lss8 (j : Nat) : mbin E .lss 3 (vi (j : Int)) (.int .i64 8) = some (.bool (decide (j < 8))) := lss_nat j 8
theorem loop81 (call : CallF) (fuel base b : Nat) (hbb : base ≤ b) (kr : Value → M → Res2) (kx : M → Res2) {q : Nat} {a b' c d : Int} :
    ∀ (k n j : Nat) (m : M), j + k = 8 → k < n → b ≤ m.length → m[q]? = some (cellR [vi a, vi b', vi c, vi d, vi 0, vi 0]) →
      ∃ m', r81_L0 call fuel base kr kx n (pt q 0) tabV (vi (j : Int)) m = match koN (a, b', c, d) k j with
        | some i => kr (vi (i : Int)) m'
        | none => kx m'
  | _, 0, j, m, hj, hn, hbm, hq => by omega
  | 0, n + 1, j, m, hj, hn, hbm, hq => by
    rw [r81_L0_s, lss8, k1s, decide_eq_false (by omega), kbf]
    exact ⟨m, rfl⟩
  | k + 1, n + 1, j, m, hj, hn, hbm, hq => by
    have hql := (List.getElem?_eq_some_iff.1 hq).1
    rw [r81_L0_s, lss8, k1s, decide_eq_true (by omega), kbt, ix92 j (by omega), k1s, al50, k2s]
    have h1 : (m ++ [cellR [.int .i64 0, .int .i64 0, .int .i64 0, .int .i64 0, .int .i64 0, .int .i64 0]])[m.length]? = some (cellR [.int .i64 0, .int .i64 0, .int .i64 0, .int .i64 0, .int .i64 0, .int .i64 0]) := by simp
    rw [kV_eq, st50 (by omega) h1 rfl, kss]
    generalize hm1 : (m ++ [cellR [.int .i64 0, .int .i64 0, .int .i64 0, .int .i64 0, .int .i64 0, .int .i64 0]]).set m.length (cellR [vi (kindT j).1, vi (kindT j).2.1, vi (kindT j).2.2.1, vi (kindT j).2.2.2, vi 0, vi 0]) = m1
    have hq1 : m1[q]? = some (cellR [vi a, vi b', vi c, vi d, vi 0, vi 0]) := by
      rw [← hm1, List.getElem?_set_ne (by omega), List.getElem?_append_left hql]
      exact hq
    have hl1 : m1[m.length]? = some (cellR [vi (kindT j).1, vi (kindT j).2.1, vi (kindT j).2.2.1, vi (kindT j).2.2.2, vi 0, vi 0]) := by
      rw [← hm1]
      exact List.getElem?_set_self (by simp)
    rw [ldb50 hq1, k1s, ldb50 hl1, k1s, e50, k1s, kdec]
    unfold koN
    by_cases h : kindT j = (a, b', c, d)
    · rw [decide_eq_true h, kbt, if_pos h]
      exact ⟨m1, rfl⟩
    · rw [decide_eq_false h, kbf, if_neg h, add1 j (by omega), k1s]
      exact loop81 call fuel base b hbb kr kx k n (j + 1) m1 (by omega) (by omega) (by rw [← hm1]; simp; omega) hq1
theorem koV_some {q : Q4} {i : Nat} (h : koN q 8 0 = some i) : koV q = (i : Int) := by unfold koV; rw [h]
theorem koV_none {q : Q4} (h : koN q 8 0 = none) : koV q = -1 := by unfold koV; rw [h]
theorem t81 (n base : Nat) (hn : 10 ≤ n) (a b c d e f : Int) (m : M) : rt (n + 1) base 81 [mV a b c d e f] m = some (.ret (vi (koV (a, b, c, d))), m) := by
  suffices h : ∃ m1, r81 (rt n) n m.length (mV a b c d e f) m = some (.ret (vi (koV (a, b, c, d))), m1) by
    obtain ⟨m1, h⟩ := h
    exact rt_pure (f := 81) (rf := rf81) (by kernel_rfl) (by kernel_rfl) (by kernel_rfl) n base _ m m1 _ h rfl
  unfold r81
  rw [k1_fun, fVal_fun, bxa6, k2s, ff50_4, k1s, show (.int .i64 0 : Value) = vi 0 from rfl, st3]
  have hq : (m ++ [cellR [vi a, vi b, vi c, vi d, vi e, vi f]])[m.length]? = some (cellR [vi a, vi b, vi c, vi d, vi e, vi f]) := by simp
  rw [mwrite_one (Nat.le_refl _) hq rfl (by simp [cellR]) rfl, kss, ff50_5, k1s, st3]
  have hset1 : ({ cellR [vi a, vi b, vi c, vi d, vi e, vi f] with cells := (cellR [vi a, vi b, vi c, vi d, vi e, vi f]).cells.set (0 + 4) (vi 0) } : Row) = cellR [vi a, vi b, vi c, vi d, vi 0, vi f] := rfl
  rw [hset1]
  have hq2 : ((m ++ [cellR [vi a, vi b, vi c, vi d, vi e, vi f]]).set m.length (cellR [vi a, vi b, vi c, vi d, vi 0, vi f]))[m.length]? = some (cellR [vi a, vi b, vi c, vi d, vi 0, vi f]) := List.getElem?_set_self (by simp)
  rw [mwrite_one (Nat.le_refl _) hq2 rfl (by simp [cellR]) rfl, kss, ldtab, k1s]
  have hset2 : ({ cellR [vi a, vi b, vi c, vi d, vi 0, vi f] with cells := (cellR [vi a, vi b, vi c, vi d, vi 0, vi f]).cells.set (0 + 5) (vi 0) } : Row) = cellR [vi a, vi b, vi c, vi d, vi 0, vi 0] := rfl
  rw [hset2]
  obtain ⟨m', h⟩ := loop81 (rt n) n m.length m.length (Nat.le_refl _) (fun y2 m => some (.ret y2, m)) (fun m => some (.ret (.int .i64 (-1)), m)) (q := m.length) (a := a) (b' := b) (c := c) (d := d) 8 n 0 (((m ++ [cellR [vi a, vi b, vi c, vi d, vi e, vi f]]).set m.length (cellR [vi a, vi b, vi c, vi d, vi 0, vi f])).set m.length (cellR [vi a, vi b, vi c, vi d, vi 0, vi 0])) rfl (by omega) (by simp) (List.getElem?_set_self (by simp))
  refine ⟨m', h.trans ?_⟩
  cases hk : koN (a, b, c, d) 8 0 with
  | some i => rw [koV_some hk]
  | none => rw [koV_none hk]; rfl
theorem loop35 (call : CallF) (fuel base : Nat) (kr : Value → M → Res2) (kx : M → Res2) {q : Nat} {a b' c d : Int} {m : M} (hq : m[q]? = some (cellR [vi a, vi b', vi c, vi d, vi 0, vi 0])) (hcall : ∀ k : Nat, k < 8 → call m.length 61 [vi (k : Int)] m = some (.ret (kV k 0 0), m)) :
    ∀ (k n j : Nat), j + k = 8 → k < n →
      r35_L0 call fuel base kr kx n (pt q 0) (vi (j : Int)) m = match koN (a, b', c, d) k j with
        | some i => kr (vi (i : Int)) m
        | none => kx m
  | _, 0, j, hj, hn => by omega
  | 0, n + 1, j, hj, hn => by
    rw [r35_L0_s, lss8, k1s, decide_eq_false (by omega), kbf]
    rfl
  | k + 1, n + 1, j, hj, hn => by
    rw [r35_L0_s, lss8, k1s, decide_eq_true (by omega), kbt, hcall j (by omega), kB_same, kcs, ldb50 hq, k1s, kV_eq, e50, k1s, kdec']
    unfold koN
    by_cases h : kindT j = (a, b', c, d)
    · rw [decide_eq_true h, kbt, if_pos h]
    · rw [decide_eq_false h, kbf, if_neg h, add1 j (by omega), k1s]
      exact loop35 call fuel base kr kx hq hcall k n (j + 1) (by omega) (by omega)
theorem t35 (n base : Nat) (hn : 10 ≤ n) (a b c d e f : Int) (m : M) : rt (n + 1) base 35 [mV a b c d e f] m = some (.ret (vi (koV (a, b, c, d))), m) := by
  suffices h : ∃ m1, r35 (rt n) n m.length (mV a b c d e f) m = some (.ret (vi (koV (a, b, c, d))), m1) by
    obtain ⟨m1, h⟩ := h
    exact rt_pure (f := 35) (rf := rf35) (by kernel_rfl) (by kernel_rfl) (by kernel_rfl) n base _ m m1 _ h rfl
  obtain ⟨k, rfl⟩ : ∃ k, n = k + 1 := ⟨n - 1, by omega⟩
  unfold r35
  rw [k1_fun, fVal_fun, bxa6, k2s, ff50_4, k1s, show (.int .i64 0 : Value) = vi 0 from rfl, st3]
  have hq : (m ++ [cellR [vi a, vi b, vi c, vi d, vi e, vi f]])[m.length]? = some (cellR [vi a, vi b, vi c, vi d, vi e, vi f]) := by simp
  rw [mwrite_one (Nat.le_refl _) hq rfl (by simp [cellR]) rfl, kss, ff50_5, k1s, st3]
  have hset1 : ({ cellR [vi a, vi b, vi c, vi d, vi e, vi f] with cells := (cellR [vi a, vi b, vi c, vi d, vi e, vi f]).cells.set (0 + 4) (vi 0) } : Row) = cellR [vi a, vi b, vi c, vi d, vi 0, vi f] := rfl
  rw [hset1]
  have hq2 : ((m ++ [cellR [vi a, vi b, vi c, vi d, vi e, vi f]]).set m.length (cellR [vi a, vi b, vi c, vi d, vi 0, vi f]))[m.length]? = some (cellR [vi a, vi b, vi c, vi d, vi 0, vi f]) := List.getElem?_set_self (by simp)
  rw [mwrite_one (Nat.le_refl _) hq2 rfl (by simp [cellR]) rfl, kss]
  have hset2 : ({ cellR [vi a, vi b, vi c, vi d, vi 0, vi f] with cells := (cellR [vi a, vi b, vi c, vi d, vi 0, vi f]).cells.set (0 + 5) (vi 0) } : Row) = cellR [vi a, vi b, vi c, vi d, vi 0, vi 0] := rfl
  rw [hset2]
  refine ⟨((m ++ [cellR [vi a, vi b, vi c, vi d, vi e, vi f]]).set m.length (cellR [vi a, vi b, vi c, vi d, vi 0, vi f])).set m.length (cellR [vi a, vi b, vi c, vi d, vi 0, vi 0]), (loop35 (rt (k + 1)) (k + 1) m.length (fun y2 m => some (.ret y2, m)) (fun m => some (.ret (.int .i64 (-1)), m)) (q := m.length) (a := a) (b' := b) (c := c) (d := d) (m := ((m ++ [cellR [vi a, vi b, vi c, vi d, vi e, vi f]]).set m.length (cellR [vi a, vi b, vi c, vi d, vi 0, vi f])).set m.length (cellR [vi a, vi b, vi c, vi d, vi 0, vi 0])) (List.getElem?_set_self (by simp)) (fun i hi => t61 k _ i hi _) 8 (k + 1) 0 rfl (by omega)).trans ?_⟩
  cases hk : koN (a, b, c, d) 8 0 with
  | some i => rw [koV_some hk]
  | none => rw [koV_none hk]; rfl
end Go.AM
namespace Go.AM
open Go Go.Proofs
/-- The side of a square that repeats both ways. -/
def sdF (w h : Nat) : Nat → Nat → Nat
  | 0, s => s
  | k + 1, s => if s % w = 0 then s else sdF w h k (s + h)
def sd (l : List ByteArray) : Nat := sdF (wid l) l.length 8 l.length
theorem sd_tab : ((List.range 7).all fun w => (List.range 7).all fun h => (w == 0 || h == 0) || (sdF w h 8 h % w == 0 && sdF w h 8 h % h == 0 && Nat.ble 1 (sdF w h 8 h) && Nat.ble (sdF w h 8 h) 36)) = true := by decide +kernel
theorem sd_all (w : Nat) (hw : w < 7) (h : Nat) (hh : h < 7) (w1 : 1 ≤ w) (h1 : 1 ≤ h) : sdF w h 8 h % w = 0 ∧ sdF w h 8 h % h = 0 ∧ 1 ≤ sdF w h 8 h ∧ sdF w h 8 h ≤ 36 := by
  have a := List.all_eq_true.1 (List.all_eq_true.1 sd_tab w (List.mem_range.2 hw)) h (List.mem_range.2 hh)
  simp only [Bool.or_eq_true, Bool.and_eq_true, beq_iff_eq, Nat.ble_eq] at a
  omega
theorem allFrom_succ (P : Nat → Bool) (k j : Nat) : allFrom P (k + 1) j = (P j && allFrom P k (j + 1)) := rfl
theorem Pat.sd {l : List ByteArray} (h : Pat l) : sd l % wid l = 0 ∧ sd l % l.length = 0 ∧ 1 ≤ AM.sd l ∧ AM.sd l ≤ 36 := by
  have := sd_all (wid l) (by have := h.w6; omega) l.length (by have := h.h6; omega) h.w1 h.h1
  exact this
/-- Where a move takes a cell, as ints do. -/
def tkX (a b e : Int) (x y : Int) : Int := wr (wr (wr (a * x) + wr (b * y)) + e)
def kpL (l : List ByteArray) (a b c d e f : Int) (y x : Nat) : Bool := decide (colr l x y = colr l (tkX a b e x y) (tkX c d f x y))
def keepsB (l : List ByteArray) (a b c d e f : Int) : Bool := allFrom (fun y => allFrom (kpL l a b c d e f y) (sd l) 0) (sd l) 0
theorem r63_L0_s (call : CallF) (fuel base : Nat) (kx0 : Value → Value → Value → M → Res2) (n : Nat) (x0 x3 x5 : Value) (m : M) : r63_L0 call fuel base kx0 (n + 1) x0 x3 x5 m =
    (k1n (mindexAddr E.P 66 x0 (.int .i64 0)) fun v13_3 => (k1n (xload E.P m 9 v13_3) fun v14_4 => (k2 (vcalln E.P base m .len [9] [v14_4]) fun v15_5 m => (k1n (mbin E .rem 3 x5 v15_5) fun v16_6 => (k1n (mbin E .neq 3 v16_6 (.int .i64 0)) fun v17_7 => (kb v17_7 (k2 (vcalln E.P base m .len [66] [x0]) fun v20_8 m => (k1n (mbin E .add 3 x5 v20_8) fun v21_9 => (r63_L0 call fuel base kx0 n x0 x3 v21_9 m))) (kx0 x0 x3 x5 m))))))) := by
  unfold r63_L0
  rw [k1_fun, vcall_fun]
theorem r63_L2_s (call : CallF) (fuel base : Nat) (kr : Value → M → Res2) (kx2 : M → Res2) (n : Nat) (x0 x3 x5 x22 x23 : Value) (m : M) : r63_L2 call fuel base kr kx2 (n + 1) x0 x3 x5 x22 x23 m =
    (k1n (mbin E .lss 3 x23 x22) fun v24_13 => (kb v24_13 (r63_L4 call fuel base (fun y4_25 m => (kr y4_25 m)) (fun y0_26 y3_27 y5_28 y22_29 y23_30 m => (k1n (mbin E .add 3 y23_30 (.int .i64 1)) fun v43_31 => (r63_L2 call fuel base kr kx2 n y0_26 y3_27 y5_28 y22_29 v43_31 m))) fuel x0 x3 x5 x23 x22 x23 x5 (.int .i64 0) m) (kx2 m))) := by
  unfold r63_L2
  rw [k1_fun]
theorem r63_L4_s (call : CallF) (fuel base : Nat) (kr : Value → M → Res2) (kx4 : Value → Value → Value → Value → Value → M → Res2) (n : Nat) (x0 x3 x5 x6 x22 x23 x26 x27 : Value) (m : M) : r63_L4 call fuel base kr kx4 (n + 1) x0 x3 x5 x6 x22 x23 x26 x27 m =
    (k1n (mbin E .lss 3 x27 x26) fun v28_14 => (kb v28_14 (k1n (mbuild E.P 103 [(0, x27), (1, x6)]) fun v32_15 => (k2 (xalloc E.P m 103) fun v8_16 m => (ks (xstore E.P base m 103 v8_16 v32_15) fun m => (k1n (xload E.P m 103 v8_16) fun v34_17 => (kc (kB m (call m.length 85 [x0, v34_17] m)) (fun v35_18 m => (k1n (xload E.P m 50 x3) fun v37_19 => (k1n (xload E.P m 103 v8_16) fun v38_20 => (kc (kB m (call m.length 79 [v37_19, v38_20] m)) (fun v39_21 m => (kc (kB m (call m.length 85 [x0, v39_21] m)) (fun v40_22 m => (k1n (mbin E .neq 5 v35_18 v40_22) fun v41_23 => (kb v41_23 (kr (.bool false) m) (k1n (mbin E .add 3 x27 (.int .i64 1)) fun v42_24 => (r63_L4 call fuel base kr kx4 n x0 x3 x5 x6 x22 x23 x26 v42_24 m))))) (fun _ _ => none))) (fun _ _ => none))))) (fun _ _ => none)))))) (kx4 x0 x3 x5 x22 x23 m))) := by
  unfold r63_L4
  rw [k1_fun]
theorem b103 (a b : Int) : mbuild E.P 103 [(0, vi a), (1, vi b)] = some (cV a b) := by kernel_rfl
theorem loop63a (call : CallF) (fuel base : Nat) (kx : Value → Value → Value → M → Res2) {m : M} {v w : Value} {l : List ByteArray} (hv : Strs m v l) (hp : Pat l) :
    ∀ (k n s : Nat), s ≤ 1000000 → s + k * l.length ≤ 1000 → k < n → sdF (wid l) l.length k s % wid l = 0 → r63_L0 call fuel base kx n v w (vi s) m = kx v w (vi (sdF (wid l) l.length k s)) m
  | _, 0, s, hs, hk, hn, hz => by omega
  | 0, n + 1, s, hs, hk, hn, hz => by
    have a1 := hp.h1; have a3 := hp.w1
    simp only [sdF] at hz ⊢
    rw [r63_L0_s, i0, hv.get66 (by omega : 0 < l.length), len9, k2s, str_get (by omega : 0 < l.length), str_zero (by omega), rem3 _ _ (by omega), k1s, neq3, k1s]
    have e : Int.tmod (s : Int) (wid l : Int) = ((s % wid l : Nat) : Int) := by rw [Int.tmod_eq_emod_of_nonneg (by omega)]; omega
    rw [e, hz, decide_eq_true rfl]
    rfl
  | k + 1, n + 1, s, hs, hk, hn, hz => by
    have a1 := hp.h1; have a3 := hp.w1; have a2 := hp.h6
    rw [r63_L0_s, i0, hv.get66 (by omega : 0 < l.length), len9, k2s, str_get (by omega : 0 < l.length), str_zero (by omega), rem3 _ _ (by omega), k1s, neq3, k1s]
    have e : Int.tmod (s : Int) (wid l : Int) = ((s % wid l : Nat) : Int) := by rw [Int.tmod_eq_emod_of_nonneg (by omega)]; omega
    rw [e]
    simp only [sdF] at hz ⊢
    rw [Nat.succ_mul] at hk
    by_cases h : s % wid l = 0
    · rw [if_pos h, h, decide_eq_true rfl]
      rfl
    · rw [if_neg h] at hz ⊢
      rw [decide_eq_false (by omega), Bool.not_false, kbt, hv.len66, k2s, add3, k1s, wr_small (by omega) (by omega), show ((s : Int) + (l.length : Int)) = ((s + l.length : Nat) : Int) by omega]
      exact loop63a call fuel base kx hv hp k n (s + l.length) (by omega) (by omega) (by omega) hz
theorem loop63b (call : CallF) (fuel base : Nat) (kr : Value → M → Res2) (kx : Value → Value → Value → Value → Value → M → Res2) {m1 : M} {v : Value} {l : List ByteArray} (hv : Strs m1 v l) (hp : Pat l) {q S y : Nat} {a b c d e f : Int} (hq : m1[q]? = some (cellR [vi a, vi b, vi c, vi d, vi e, vi f])) (hb : base ≤ m1.length) (hS : S ≤ 36)
    (h85 : ∀ m x y, Keeps m1.length m1 m → call m.length 85 [v, cV x y] m = some (.ret (.int .u8 (colr l x y)), m)) (h79 : ∀ (x y : Int) (m : M), call m.length 79 [mV a b c d e f, cV x y] m = some (.ret (cV (tkX a b e x y) (tkX c d f x y)), m)) :
    ∀ (n j : Nat) (m : M), j ≤ S → S < n + j → Keeps m1.length m1 m →
      ∃ m', Keeps m1.length m1 m' ∧ r63_L4 call fuel base kr kx n v (pt q 0) (vi S) (vi y) (vi S) (vi y) (vi S) (vi j) m = if allFrom (kpL l a b c d e f y) (S - j) j then kx v (pt q 0) (vi S) (vi S) (vi y) m' else kr (.bool false) m'
  | 0, j, m, hj, hn, _ => by omega
  | n + 1, j, m, hj, hn, hk => by
    have hql := (List.getElem?_eq_some_iff.1 hq).1
    rw [r63_L4_s, lss_nat, k1s]
    by_cases hlt : j < S
    · rw [decide_eq_true hlt, kbt, b103, k1s, al103, k2s]
      have hbm : base ≤ m.length := Nat.le_trans hb hk.1
      have h1 : (m ++ [cellR [.int .i64 0, .int .i64 0]])[m.length]? = some (cellR [.int .i64 0, .int .i64 0]) := by simp
      rw [st103 hbm h1 rfl, kss]
      generalize hm2 : (m ++ [cellR [.int .i64 0, .int .i64 0]]).set m.length (cellR [vi j, vi y]) = m2
      have hk2 : Keeps m1.length m1 m2 := by
        rw [← hm2]
        exact hk.trans ((Keeps.push _ _ hk.1 _).trans (Keeps.set _ _ _ _ hk.1))
      have hl2 : m2[m.length]? = some (cellR [vi j, vi y]) := by rw [← hm2]; exact List.getElem?_set_self (by simp)
      have hq2 : m2[q]? = some (cellR [vi a, vi b, vi c, vi d, vi e, vi f]) := (hk2.2 q hql).trans hq
      rw [ldb103 hl2, k1s, h85 _ _ _ hk2, kB_same, kcs, ldb50 hq2, k1s, ldb103 hl2, k1s, h79, kB_same, kcs, h85 _ _ _ hk2, kB_same, kcs, neq5, k1s, show S - j = (S - (j + 1)) + 1 by omega]
      rw [allFrom_succ]
      have e1 : decide (((colr l j y : Nat) : Int) = ((colr l (tkX a b e j y) (tkX c d f j y) : Nat) : Int)) = kpL l a b c d e f y j := natdec _ _
      rw [e1]
      cases kpL l a b c d e f y j with
      | true =>
        rw [Bool.not_true, kbf, add1 j (by omega), k1s, Bool.true_and]
        exact loop63b call fuel base kr kx hv hp hq hb hS h85 h79 n (j + 1) m2 (by omega) (by omega) hk2
      | false => exact ⟨m2, hk2, rfl⟩
    · rw [decide_eq_false hlt, kbf, show S - j = 0 by omega]
      exact ⟨m, hk, rfl⟩
theorem loop63 (call : CallF) (fuel base : Nat) (hf : 40 ≤ fuel) (kr : Value → M → Res2) (kx : M → Res2) {m1 : M} {v : Value} {l : List ByteArray} (hv : Strs m1 v l) (hp : Pat l) {q S : Nat} {a b c d e f : Int} (hq : m1[q]? = some (cellR [vi a, vi b, vi c, vi d, vi e, vi f])) (hb : base ≤ m1.length) (hS : S ≤ 36)
    (h85 : ∀ m x y, Keeps m1.length m1 m → call m.length 85 [v, cV x y] m = some (.ret (.int .u8 (colr l x y)), m)) (h79 : ∀ (x y : Int) (m : M), call m.length 79 [mV a b c d e f, cV x y] m = some (.ret (cV (tkX a b e x y) (tkX c d f x y)), m)) :
    ∀ (n j : Nat) (m : M), j ≤ S → S < n + j → Keeps m1.length m1 m →
      ∃ m', Keeps m1.length m1 m' ∧ r63_L2 call fuel base kr kx n v (pt q 0) (vi S) (vi S) (vi j) m = if allFrom (fun y => allFrom (kpL l a b c d e f y) S 0) (S - j) j then kx m' else kr (.bool false) m'
  | 0, j, m, hj, hn, _ => by omega
  | n + 1, j, m, hj, hn, hk => by
    rw [r63_L2_s, lss_nat, k1s]
    by_cases hlt : j < S
    · rw [decide_eq_true hlt, kbt, i0]
      obtain ⟨m2, hk2, e2⟩ := loop63b call fuel base (fun y4 m => kr y4 m) (fun y0 y3 y5 y22 y23 m => k1n (mbin E .add 3 y23 (.int .i64 1)) fun v43 => r63_L2 call fuel base kr kx n y0 y3 y5 y22 v43 m) hv hp (y := j) hq hb hS h85 h79 fuel 0 m (by omega) (by omega) hk
      rw [e2, Nat.sub_zero, show S - j = (S - (j + 1)) + 1 by omega]
      rw [allFrom_succ]
      cases h : allFrom (kpL l a b c d e f j) S 0 with
      | true =>
        simp only [if_true]
        rw [add1 j (by omega), k1s]
        have := loop63 call fuel base hf kr kx hv hp hq hb hS h85 h79 n (j + 1) m2 (by omega) (by omega) hk2
        simpa using this
      | false => exact ⟨m2, hk2, rfl⟩
    · rw [decide_eq_false hlt, kbf, show S - j = 0 by omega]
      exact ⟨m, hk, rfl⟩
theorem t63 (n base : Nat) (hn : 50 ≤ n) {m : M} {v : Value} {l : List ByteArray} (hv : Strs m v l) (hp : Pat l) (a b c d e f : Int) : rt (n + 1) base 63 [v, mV a b c d e f] m = some (.ret (.bool (keepsB l a b c d e f)), m) := by
  suffices h : ∃ m1, r63 (rt n) n m.length v (mV a b c d e f) m = some (.ret (.bool (keepsB l a b c d e f)), m1) by
    obtain ⟨m1, h⟩ := h
    exact rt_pure (f := 63) (rf := rf63) (by kernel_rfl) (by kernel_rfl) (by kernel_rfl) n base _ m m1 _ h rfl
  obtain ⟨k, rfl⟩ : ∃ k, n = k + 2 := ⟨n - 2, by omega⟩
  have hv1 := hv.app [cellR [vi a, vi b, vi c, vi d, vi e, vi f]]
  have hq : (m ++ [cellR [vi a, vi b, vi c, vi d, vi e, vi f]])[m.length]? = some (cellR [vi a, vi b, vi c, vi d, vi e, vi f]) := by simp
  obtain ⟨s1, s2, s3, s4⟩ := hp.sd
  have a2 := hp.h6
  unfold r63
  rw [fVal_fun, vcall_fun, bxa6, k2s, hv1.len66, k2s, loop63a _ _ _ _ hv1 hp 8 (k + 2) l.length (by omega) (by omega) (by omega) s1, i0]
  have hlen : (m ++ [cellR [vi a, vi b, vi c, vi d, vi e, vi f]]).length = m.length + 1 := by simp
  obtain ⟨m', _, e'⟩ := loop63 (rt (k + 2)) (k + 2) m.length (by omega) (fun y4 m => some (.ret y4, m)) (fun m => some (.ret (.bool true), m)) hv1 hp hq (by omega) s4 (fun m2 x y hk => t85 k _ (hv1.keeps hk) hp x y) (fun x y m => t79 _ _ _ _ _ _ _ _ x y m) (k + 2) 0 _ (by omega) (by omega) (Keeps.refl _ _)
  refine ⟨m', ?_⟩
  show r63_L2 (rt (k + 2)) (k + 2) m.length (fun y4 m => some (.ret y4, m)) (fun m => some (.ret (.bool true), m)) (k + 2) v (pt m.length 0) (vi (sd l)) (vi (sd l)) (vi ((0 : Nat) : Int)) _ = _
  rw [e', Nat.sub_zero]
  unfold keepsB
  cases allFrom (fun y => allFrom (kpL l a b c d e f y) (sd l) 0) (sd l) 0 <;> rfl
def trL (l : List ByteArray) (e f : Int) (y x : Nat) : Bool := decide (colr l x y = colr l (wr (x + e)) (wr (y + f)))
def trB (l : List ByteArray) (e f : Int) : Bool := allFrom (fun y => allFrom (trL l e f y) (wid l) 0) l.length 0
theorem r60_L2_s (call : CallF) (fuel base : Nat) (kp : Value → M → Res2) (kr : Value → M → Res2) (kx2 : Value → Value → Value → Value → M → Res2) (n : Nat) (x0 x1 x2 x7 x8 : Value) (m : M) : r60_L2 call fuel base kp kr kx2 (n + 1) x0 x1 x2 x7 x8 m =
    (k1n (mindexAddr E.P 22 x0 (.int .i64 0)) fun v17_3 => (k1n (xload E.P m 9 v17_3) fun v18_4 => (k2 (vcalln E.P base m .len [9] [v18_4]) fun v19_5 m => (k1n (mbin E .lss 3 x8 v19_5) fun v20_6 => (kb v20_6 (kc (call base 58 [x0, x8, x7] m) (fun v26_7 m => (k1n (mbin E .add 3 x8 x1) fun v30_8 => (k1n (mbin E .add 3 x7 x2) fun v33_9 => (kc (call base 58 [x0, v30_8, v33_9] m) (fun v34_10 m => (k1n (mbin E .neq 5 v26_7 v34_10) fun v35_11 => (kb v35_11 (kr (.bool false) m) (k1n (mbin E .add 3 x8 (.int .i64 1)) fun v22_12 => (r60_L2 call fuel base kp kr kx2 n x0 x1 x2 x7 v22_12 m))))) (fun v m => kp v m))))) (fun v m => kp v m)) (kx2 x0 x1 x2 x7 m)))))) := by
  unfold r60_L2
  rw [k1_fun, vcall_fun]
theorem r60_L0_s (call : CallF) (fuel base : Nat) (kp : Value → M → Res2) (kr : Value → M → Res2) (kx0 : M → Res2) (n : Nat) (x0 x1 x2 x7 : Value) (m : M) : r60_L0 call fuel base kp kr kx0 (n + 1) x0 x1 x2 x7 m =
    (k2 (vcalln E.P base m .len [22] [x0]) fun v11_1 m => (k1n (mbin E .lss 3 x7 v11_1) fun v12_2 => (kb v12_2 (r60_L2 call fuel base (fun v m => kp v m) (fun y6_13 m => (kr y6_13 m)) (fun y0_14 y1_15 y2_16 y7_17 m => (k1n (mbin E .add 3 y7_17 (.int .i64 1)) fun v14_18 => (r60_L0 call fuel base kp kr kx0 n y0_14 y1_15 y2_16 v14_18 m))) fuel x0 x1 x2 x7 (.int .i64 0) m) (kx0 m)))) := by
  unfold r60_L0
  rw [k1_fun, vcall_fun]
theorem loop60b (call : CallF) (fuel base : Nat) (kp : Value → M → Res2) (kr : Value → M → Res2) (kx : Value → Value → Value → Value → M → Res2) {m : M} {v : Value} {l : List ByteArray} (hv : Strs m v l) (hp : Pat l) {y : Nat} (e f : Int)
    (h58 : ∀ x y : Int, call base 58 [v, vi x, vi y] m = some (.ret (.int .u8 (colr l x y)), m)) :
    ∀ (n j : Nat), j ≤ wid l → wid l < n + j → r60_L2 call fuel base kp kr kx n v (vi e) (vi f) (vi y) (vi j) m = if allFrom (trL l e f y) (wid l - j) j then kx v (vi e) (vi f) (vi y) m else kr (.bool false) m
  | 0, j, hj, hn => by omega
  | n + 1, j, hj, hn => by
    have a1 := hp.h1; have a4 := hp.w6
    rw [r60_L2_s, i0, hv.get (by omega : 0 < l.length), len9, k2s, str_get (by omega : 0 < l.length), str_zero (by omega), lss_nat, k1s]
    by_cases hlt : j < wid l
    · rw [decide_eq_true hlt, kbt, h58, kcs, add3, k1s, add3, k1s, h58, kcs, neq5, k1s, show wid l - j = (wid l - (j + 1)) + 1 by omega]
      rw [allFrom_succ]
      have e1 : decide (((colr l j y : Nat) : Int) = ((colr l (wr (j + e)) (wr (y + f)) : Nat) : Int)) = trL l e f y j := natdec _ _
      rw [e1]
      cases trL l e f y j with
      | true =>
        rw [Bool.not_true, kbf, add1 j (by omega), k1s, Bool.true_and]
        exact loop60b call fuel base kp kr kx hv hp e f h58 n (j + 1) (by omega) (by omega)
      | false => rfl
    · rw [decide_eq_false hlt, kbf, show wid l - j = 0 by omega]
      rfl
theorem loop60 (call : CallF) (fuel base : Nat) (hf : 10 ≤ fuel) (kp : Value → M → Res2) (kr : Value → M → Res2) (kx : M → Res2) {m : M} {v : Value} {l : List ByteArray} (hv : Strs m v l) (hp : Pat l) (e f : Int)
    (h58 : ∀ x y : Int, call base 58 [v, vi x, vi y] m = some (.ret (.int .u8 (colr l x y)), m)) :
    ∀ (n j : Nat), j ≤ l.length → l.length < n + j → r60_L0 call fuel base kp kr kx n v (vi e) (vi f) (vi j) m = if allFrom (fun y => allFrom (trL l e f y) (wid l) 0) (l.length - j) j then kx m else kr (.bool false) m
  | 0, j, hj, hn => by omega
  | n + 1, j, hj, hn => by
    have a2 := hp.h6; have a4 := hp.w6
    rw [r60_L0_s, hv.len22, k2s, lss_nat, k1s]
    by_cases hlt : j < l.length
    · rw [decide_eq_true hlt, kbt, i0, loop60b call fuel base _ _ _ hv hp e f h58 fuel 0 (by omega) (by omega), Nat.sub_zero, show l.length - j = (l.length - (j + 1)) + 1 by omega]
      rw [allFrom_succ]
      cases h : allFrom (trL l e f j) (wid l) 0 with
      | true =>
        simp only [if_true]
        rw [add1 j (by omega), k1s, loop60 call fuel base hf kp kr kx hv hp e f h58 n (j + 1) (by omega) (by omega)]
        rfl
      | false => rfl
    · rw [decide_eq_false hlt, kbf, show l.length - j = 0 by omega]
      rfl
theorem t60 (n base : Nat) (hn : 12 ≤ n) {m : M} {v : Value} {l : List ByteArray} (hv : Strs m v l) (hp : Pat l) (e f : Int) : rt (n + 1) base 60 [v, vi e, vi f] m = some (.ret (.bool (trB l e f)), m) := by
  refine rt_pure (f := 60) (rf := rf60) (by kernel_rfl) (by kernel_rfl) (by kernel_rfl) n base _ m m _ ?_ rfl
  show r60 (rt n) n m.length v (vi e) (vi f) m = _
  obtain ⟨k, rfl⟩ : ∃ k, n = k + 2 := ⟨n - 2, by omega⟩
  have a2 := hp.h6
  unfold r60
  rw [fVal_fun, i0, loop60 _ _ _ (by omega) _ _ _ hv hp e f (fun x y => t58 k _ hv hp x y) (k + 2) 0 (by omega) (by omega), Nat.sub_zero]
  unfold trB
  cases allFrom (fun y => allFrom (trL l e f y) (wid l) 0) l.length 0 <;> rfl
end Go.AM
namespace Go.AM
open Go Go.Proofs
theorem colr_mod {l : List ByteArray} {x y x2 y2 : Int} (h1 : x % (wid l : Int) = x2 % (wid l : Int)) (h2 : y % (l.length : Int) = y2 % (l.length : Int)) : colr l x y = colr l x2 y2 := by
  unfold colr
  rw [h1, h2]
theorem tk_id {e : Int} {x : Nat} (h0 : -100000 ≤ e) (h1 : e ≤ 100000) (hx : x ≤ 1000) (y : Int) : tkX 1 0 e (x : Int) y = x + e := by
  unfold tkX
  rw [Int.one_mul, Int.zero_mul, wr_small (n := (x : Int)) (by omega) (by omega), wr_small (n := 0) (by omega) (by omega), Int.add_zero, wr_small (n := (x : Int)) (by omega) (by omega), wr_small (by omega) (by omega)]
theorem tk_id2 {e : Int} {x : Nat} (h0 : -100000 ≤ e) (h1 : e ≤ 100000) (hx : x ≤ 1000) (y : Int) : tkX 0 1 e y (x : Int) = x + e := by
  unfold tkX
  rw [Int.one_mul, Int.zero_mul, wr_small (n := (x : Int)) (by omega) (by omega), wr_small (n := 0) (by omega) (by omega), Int.zero_add, wr_small (n := (x : Int)) (by omega) (by omega), wr_small (by omega) (by omega)]
theorem Pat.sd_ge {l : List ByteArray} (h : Pat l) : wid l ≤ AM.sd l ∧ l.length ≤ AM.sd l := by
  obtain ⟨s1, s2, s3, s4⟩ := h.sd
  exact ⟨Nat.le_of_dvd s3 (Nat.dvd_of_mod_eq_zero s1), Nat.le_of_dvd s3 (Nat.dvd_of_mod_eq_zero s2)⟩
theorem trB_iff {l : List ByteArray} (hp : Pat l) {e f : Int} (he : 0 ≤ e ∧ e ≤ 1000) (hf : 0 ≤ f ∧ f ≤ 1000) : trB l e f = true ↔ ∀ x y : Int, colr l x y = colr l (x + e) (y + f) := by
  have a1 := hp.h1; have a2 := hp.h6; have a3 := hp.w1; have a4 := hp.w6
  unfold trB
  rw [allFrom_iff]
  simp only [allFrom_iff, trL, decide_eq_true_eq, Nat.zero_add, Nat.zero_le, true_implies]
  constructor
  · intro h x y
    obtain ⟨i1, i2, i3, i4⟩ := hp.ix x y
    have := h _ i1 _ i2
    rw [wr_small (by omega) (by omega), wr_small (by omega) (by omega), i3, i4] at this
    rw [colr_mod (x2 := x % (wid l : Int)) (y2 := y % (l.length : Int)) (by rw [Int.emod_emod_of_dvd _ (Int.dvd_refl _)]) (by rw [Int.emod_emod_of_dvd _ (Int.dvd_refl _)]), this]
    exact colr_mod (by rw [Int.emod_add_emod]) (by rw [Int.emod_add_emod])
  · intro h y hy x hx
    rw [wr_small (by omega) (by omega), wr_small (by omega) (by omega)]
    exact h x y
theorem keeps_tr {l : List ByteArray} (hp : Pat l) {e f : Int} (he : 0 ≤ e ∧ e ≤ 1000) (hf : 0 ≤ f ∧ f ≤ 1000) : keepsB l 1 0 0 1 e f = trB l e f := by
  have a1 := hp.h1; have a2 := hp.h6; have a3 := hp.w1; have a4 := hp.w6
  obtain ⟨s1, s2, s3, s4⟩ := hp.sd
  obtain ⟨g1, g2⟩ := hp.sd_ge
  rw [Bool.eq_iff_iff, trB_iff hp he hf]
  unfold keepsB
  rw [allFrom_iff]
  simp only [allFrom_iff, kpL, decide_eq_true_eq, Nat.zero_add, Nat.zero_le, true_implies]
  constructor
  · intro h x y
    obtain ⟨i1, i2, i3, i4⟩ := hp.ix x y
    have := h _ (Nat.lt_of_lt_of_le i1 g2) _ (Nat.lt_of_lt_of_le i2 g1)
    rw [tk_id (by omega) (by omega) (by omega), tk_id2 (by omega) (by omega) (by omega), i3, i4] at this
    rw [colr_mod (x2 := x % (wid l : Int)) (y2 := y % (l.length : Int)) (by rw [Int.emod_emod_of_dvd _ (Int.dvd_refl _)]) (by rw [Int.emod_emod_of_dvd _ (Int.dvd_refl _)]), this]
    exact colr_mod (by rw [Int.emod_add_emod]) (by rw [Int.emod_add_emod])
  · intro h y hy x hx
    rw [tk_id (by omega) (by omega) (by omega), tk_id2 (by omega) (by omega) (by omega)]
    exact h x y
theorem tr_w {l : List ByteArray} (hp : Pat l) : trB l (wid l) 0 = true := by
  have a4 := hp.w6
  rw [trB_iff hp (by omega) (by omega)]
  intro x y
  exact colr_mod (by rw [Int.add_emod_right]) (by rw [Int.add_zero])
theorem tr_h {l : List ByteArray} (hp : Pat l) : trB l 0 l.length = true := by
  have a4 := hp.h6
  rw [trB_iff hp (by omega) (by omega)]
  intro x y
  exact colr_mod (by rw [Int.add_zero]) (by rw [Int.add_emod_right])
/-- The first number from j on. -/
def fst (P : Nat → Bool) : Nat → Nat → Nat
  | 0, j => j
  | k + 1, j => if P j then j else fst P k (j + 1)
theorem fst_le {P : Nat → Bool} {W : Nat} (h : P W = true) : ∀ k j, j ≤ W → W ≤ j + k → j ≤ fst P k j ∧ fst P k j ≤ W ∧ P (fst P k j) = true
  | 0, j, h1, h2 => by
    have : j = W := by omega
    subst this
    exact ⟨Nat.le_refl _, Nat.le_refl _, h⟩
  | k + 1, j, h1, h2 => by
    unfold fst
    by_cases hj : P j = true
    · rw [if_pos hj]; exact ⟨Nat.le_refl _, h1, hj⟩
    · rw [if_neg hj]
      have hne : j ≠ W := fun e => hj (e ▸ h)
      have := fst_le h k (j + 1) (by omega) (by omega)
      exact ⟨by omega, this.2.1, this.2.2⟩
theorem fst_min {P : Nat → Bool} : ∀ k j i, j ≤ i → i < fst P k j → P i = false
  | 0, j, i, h1, h2 => by unfold fst at h2; omega
  | k + 1, j, i, h1, h2 => by
    unfold fst at h2
    by_cases hj : P j = true
    · rw [if_pos hj] at h2; omega
    · rw [if_neg hj] at h2
      by_cases e : i = j
      · subst e; simpa using hj
      · exact fst_min k (j + 1) i (by omega) h2
def smH (l : List ByteArray) : Nat := fst (fun h => trB l 0 h) 6 1
theorem smH_le {l : List ByteArray} (hp : Pat l) : 1 ≤ smH l ∧ smH l ≤ l.length ∧ trB l 0 (smH l) = true := by
  have := hp.h1; have := hp.h6
  exact fst_le (P := fun h => trB l 0 h) (tr_h hp) 6 1 (by omega) (by omega)
theorem kV0 (e f : Int) : kV 0 e f = mV 1 0 0 1 e f := rfl
def smE (l : List ByteArray) : Int := if isP l = true then 0 else 2
end Go.AM
namespace Go.AM
open Go Go.Proofs
theorem al70 (m : M) : xalloc E.P m 70 = some (pt m.length 0, m ++ [cellR [.int .i64 0, .int .i64 0, .int .i64 0, .slice none 0 0]]) := by
  have e : xalloc E.P m 70 = xlen m fun n => xpush m (cellR [.int .i64 0, .int .i64 0, .int .i64 0, .slice none 0 0]) fun m' => some (pt n 0, m') := by kernel_rfl
  rw [e, xlen_eq, fNat_eq, xpush_eq, fList_eq]
theorem ld70 {m : M} {r : Nat} {row : Row} {off : Nat} (h : m[r]? = some row) (hl : off + 4 ≤ row.cells.length) : xload E.P m 70 (pt r off) = some (.agg ((row.cells.drop off).take 4).toArray) := by
  have e : xload E.P m 70 (pt r off) = (xread m r off 4).map fun cs => .agg cs.toArray := by kernel_rfl
  rw [e, xread_eq]
  unfold mread
  rw [h]
  simp only
  rw [if_pos hl]
  rfl
theorem ldb70 {m : M} {r : Nat} {a0 a1 a2 a3 : Value} (h : m[r]? = some (cellR [a0, a1, a2, a3])) : xload E.P m 70 (pt r 0) = some (.agg #[a0, a1, a2, a3]) := ld70 h (by simp [cellR])
theorem ml70 {m : M} {r : Nat} {a0 a1 a2 a3 : Value} (h : m[r]? = some (cellR [a0, a1, a2, a3])) : mload E.P m 70 (pt r 0) = some (.agg #[a0, a1, a2, a3]) := by
  have e : mload E.P m 70 (pt r 0) = (mread m r 0 4).map fun cs => .agg cs.toArray := by kernel_rfl
  rw [e]
  unfold mread
  rw [h]
  rfl
theorem st70 {base : Nat} {m : M} {p : Nat} (hb : base ≤ p) {a0 a1 a2 a3 b0 b1 b2 b3 : Value} (h : m[p]? = some (cellR [b0, b1, b2, b3])) (hone : ([a0, a1, a2, a3] : List Value).all (·.oneCell') = true) : xstore E.P base m 70 (pt p 0) (.agg #[a0, a1, a2, a3]) = some (m.set p (cellR [a0, a1, a2, a3])) := by
  have e : xstore E.P base m 70 (pt p 0) (.agg #[a0, a1, a2, a3]) = xwrite base m p 0 [a0, a1, a2, a3] := by kernel_rfl
  rw [e, xwrite_eq]
  unfold mwrite
  rw [if_neg (by omega), h]
  simp only [cellR, splice, fList_eq, Bool.false_eq_true, if_false, hone, if_true]
  simp
theorem ff70_0 (p o : Nat) : mfieldAddr E.P 70 (pt p o) 0 = some (pt p (o + 0)) := by kernel_rfl
theorem ff70_1 (p o : Nat) : mfieldAddr E.P 70 (pt p o) 1 = some (pt p (o + 3)) := by kernel_rfl
theorem ga30e (base : Nat) (m : M) (a b : Value) : vcalln E.P base m .append [30, 30] [a, b] = xappend E.P base m [30, 30] a b := by kernel_rfl
theorem ga30nil (base : Nat) (m : M) (k c cap : Nat) (row : Row) (hk : m[k]? = some row) (hc : row.cells.length = c * 6) (h1 : 1 ≤ c) (h2 : c ≤ 100000) : xappend E.P base m [30, 30] (.slice none 0 0) (.slice (some ⟨k, 0, none⟩) c cap) = some (sl m.length c, m ++ [rowz 6 false row.cells]) := by
  have e : xappend E.P base m [30, 30] (.slice none 0 0) (.slice (some ⟨k, 0, none⟩) c cap) = match (xread m k 0 (c * 6)).map fun cs => (c, cs) with
    | none => none
    | some (n, news) => if n = 0 then some (.slice none 0 0, m) else if n > 2 ^ 38 then none else xlen m fun k => fList news fun cs => xpush m (rowz 6 false cs) fun m' => some (.slice (some ⟨k, 0, none⟩) n n, m') := by kernel_rfl
  have q1 : xread m k 0 (c * 6) = some row.cells := by
    rw [xread_eq]
    unfold mread
    rw [hk]
    simp only
    rw [if_pos (by omega), List.drop_zero, List.take_of_length_le (by omega)]
  rw [e, q1]
  simp only [Option.map_some]
  rw [if_neg (by omega), if_neg (by omega)]
  simp [xlen_eq, fNat_eq, xpush_eq, fList_eq]
theorem ga30some (base : Nat) (m : M) (r l k c cap : Nat) (ex : Bool) (cs : List Value) (row : Row) (hr : m[r]? = some (rowz 6 ex cs)) (hl : cs.length = l * 6) (h0 : ex = true ∨ 1 ≤ l) (h1 : 1 ≤ c) (h2 : l ≤ 100000) (h3 : c ≤ 100000) (hb : base ≤ r)
    (hk : m[k]? = some row) (hd : row.cells.length = c * 6) (hc : row.cells.all (·.oneCell') = true) : xappend E.P base m [30, 30] (sl r l) (.slice (some ⟨k, 0, none⟩) c cap) =
      some (sl m.length (l + c), (if ex then m else m.set r (rowz 6 false [])) ++ [rowz 6 false (cs ++ row.cells)]) := by
  have e : xappend E.P base m [30, 30] (sl r l) (.slice (some ⟨k, 0, none⟩) c cap) = match (xread m k 0 (c * 6)).map fun cs => (c, cs) with
    | none => none
    | some (n, news) =>
      if l + n ≤ l then if n = 0 then some (.slice (some ⟨r, 0, none⟩) l l, m) else
        (xwrite base m r (0 + l * 6) news).bind fun m' => fNat (l + n) fun k => some (.slice (some ⟨r, 0, none⟩) k l, m')
      else if l + n > 2 ^ 38 then none else
        match xget m r, xread m r 0 (l * 6) with
        | some row, some olds =>
          if row.esz ≠ 6 then none else
          xlen m fun k => fNat (l + n) fun c => fList (olds ++ news) fun cs =>
          if row.ex then xpush m (rowz 6 false cs) fun m' => some (.slice (some ⟨k, 0, none⟩) c c, m')
          else if row.cells.isEmpty then none
          else if news.all (·.oneCell') then xkill base m r fun m' => xpush m' (rowz 6 false cs) fun m' => some (.slice (some ⟨k, 0, none⟩) c c, m')
          else none
        | _, _ => none := by kernel_rfl
  rw [e]
  have q1 : xread m k 0 (c * 6) = some row.cells := by
    rw [xread_eq]
    unfold mread
    rw [hk]
    simp only
    rw [if_pos (by omega), List.drop_zero, List.take_of_length_le (by omega)]
  have q2 : xread m r 0 (l * 6) = some cs := by
    rw [xread_eq]
    unfold mread
    rw [hr]
    have hle : 0 + l * 6 ≤ (rowz 6 ex cs).cells.length := by show 0 + l * 6 ≤ cs.length; omega
    simp only
    rw [if_pos hle, List.drop_zero]
    exact congrArg some (List.take_of_length_le (by show cs.length ≤ _; omega))
  rw [q1, q2, xget_eq, hr]
  simp only [Option.map_some]
  rw [if_neg (by omega), if_neg (by omega), if_neg (by simp [rowz]), xlen_eq, fNat_eq, fNat_eq, fList_eq]
  cases ex with
  | true =>
    rw [if_pos (by simp [rowz])]
    simp [xpush_eq, fList_eq]
  | false =>
    rw [if_neg (by simp [rowz])]
    have ne : cs ≠ [] := by
      intro h
      rw [h] at hl
      simp at hl
      simp at h0
      omega
    rw [if_neg (by simp [rowz, ne]), if_pos (by exact hc), xkill_eq]
    unfold mkill
    rw [if_neg (by omega), hr]
    simp only [rowz, Bool.false_eq_true, if_false, fList_eq, Option.bind_some, xpush_eq]
theorem gb30 (m : M) (a1 a2 a3 a4 a5 a6 : Int) : xbuildSlice E.P m 30 1 [(0, (mV a1 a2 a3 a4 a5 a6))] = some (sl m.length 1, m ++ [rowz 6 true [vi a1, vi a2, vi a3, vi a4, vi a5, vi a6]]) := by
  have : xbuildSlice E.P m 30 1 [(0, (mV a1 a2 a3 a4 a5 a6))] = xlen m fun n => xpush m (rowz 6 true [vi a1, vi a2, vi a3, vi a4, vi a5, vi a6]) fun m' => some (sl n 1, m') := by kernel_rfl
  rw [this, xlen_eq, fNat_eq, xpush_eq, fList_eq]
/-- The first place from j on. -/
def fstO (P : Nat → Bool) : Nat → Nat → Option Nat
  | 0, _ => none
  | k + 1, j => if P j then some j else fstO P k (j + 1)
theorem fstO_some {P : Nat → Bool} : ∀ {k j i : Nat}, fstO P k j = some i → j ≤ i ∧ i < j + k ∧ P i = true ∧ ∀ t, j ≤ t → t < i → P t = false
  | 0, j, i, h => by simp [fstO] at h
  | k + 1, j, i, h => by
    unfold fstO at h
    by_cases hj : P j = true
    · rw [if_pos hj] at h
      obtain rfl := Option.some.inj h
      exact ⟨Nat.le_refl _, by omega, hj, fun t h1 h2 => by omega⟩
    · rw [if_neg hj] at h
      obtain ⟨h1, h2, h3, h4⟩ := fstO_some h
      refine ⟨by omega, by omega, h3, fun t t1 t2 => ?_⟩
      by_cases e : t = j
      · subst e; simpa using hj
      · exact h4 t (by omega) t2
theorem fstO_none {P : Nat → Bool} : ∀ {k j : Nat}, fstO P k j = none → ∀ t, j ≤ t → t < j + k → P t = false
  | 0, j, h, t, h1, h2 => by omega
  | k + 1, j, h, t, h1, h2 => by
    unfold fstO at h
    by_cases hj : P j = true
    · rw [if_pos hj] at h; simp at h
    · rw [if_neg hj] at h
      by_cases e : t = j
      · subst e; simpa using hj
      · exact fstO_none h t (by omega) (by omega)
/-- The first pair, column by column. -/
def findR (P : Nat → Nat → Bool) (D : Nat) : Nat → Nat → Option (Nat × Nat)
  | 0, _ => none
  | k + 1, x => match fstO (P x) D 0 with
    | some y => some (x, y)
    | none => findR P D k (x + 1)
theorem findR_some {P : Nat → Nat → Bool} {D : Nat} : ∀ {k x : Nat} {a b : Nat}, findR P D k x = some (a, b) → x ≤ a ∧ a < x + k ∧ b < D ∧ P a b = true ∧ (∀ t, x ≤ t → t < a → ∀ y, y < D → P t y = false) ∧ ∀ y, y < b → P a y = false
  | 0, x, a, b, h => by simp [findR] at h
  | k + 1, x, a, b, h => by
    unfold findR at h
    cases hf : fstO (P x) D 0 with
    | some y =>
      rw [hf] at h
      simp only [Option.some.injEq, Prod.mk.injEq] at h
      obtain ⟨rfl, rfl⟩ := h
      obtain ⟨h1, h2, h3, h4⟩ := fstO_some hf
      exact ⟨Nat.le_refl _, by omega, by omega, h3, fun t t1 t2 => by omega, fun y hy => h4 y (by omega) hy⟩
    | none =>
      rw [hf] at h
      obtain ⟨h1, h2, h3, h4, h5, h6⟩ := findR_some h
      refine ⟨by omega, by omega, h3, h4, fun t t1 t2 y hy => ?_, h6⟩
      by_cases e : t = x
      · subst e; exact fstO_none hf y (by omega) (by omega)
      · exact h5 t (by omega) t2 y hy
theorem findR_none {P : Nat → Nat → Bool} {D : Nat} : ∀ {k x : Nat}, findR P D k x = none → ∀ t, x ≤ t → t < x + k → ∀ y, y < D → P t y = false
  | 0, x, h, t, h1, h2, y, hy => by omega
  | k + 1, x, h, t, h1, h2, y, hy => by
    unfold findR at h
    cases hf : fstO (P x) D 0 with
    | some z => rw [hf] at h; simp at h
    | none =>
      rw [hf] at h
      by_cases e : t = x
      · subst e; exact fstO_none hf y (by omega) (by omega)
      · exact findR_none h t (by omega) (by omega) y hy
/-- The lattice of a pattern. -/
def latAB (l : List ByteArray) : Nat × Nat := (findR (fun x y => trB l x y) (smH l) 6 1).getD (1, 0)
def latA (l : List ByteArray) : Nat := (latAB l).1
def latB (l : List ByteArray) : Nat := (latAB l).2
theorem lat_some {l : List ByteArray} (hp : Pat l) : findR (fun x y => trB l x y) (smH l) 6 1 = some (latA l, latB l) := by
  cases h : findR (fun x y => trB l x y) (smH l) 6 1 with
  | none =>
    have := findR_none h (wid l) hp.w1 (by have := hp.w6; omega) 0 (by have := (smH_le hp).1; omega)
    have h2 := tr_w hp
    simp only [Int.natCast_zero] at this
    rw [h2] at this
    simp at this
  | some ab => unfold latA latB latAB; rw [h]; rfl
theorem lat_ok {l : List ByteArray} (hp : Pat l) : 1 ≤ latA l ∧ latA l ≤ wid l ∧ latB l < smH l ∧ trB l (latA l) (latB l) = true ∧ ∀ t : Nat, 1 ≤ t → t < latA l → ∀ y : Nat, y < smH l → trB l t y = false := by
  obtain ⟨h1, h2, h3, h4, h5, h6⟩ := findR_some (lat_some hp)
  refine ⟨h1, ?_, h3, h4, h5⟩
  apply Classical.byContradiction
  intro hn
  have := h5 (wid l) hp.w1 (by omega) 0 (by have := (smH_le hp).1; omega)
  have h2 := tr_w hp
  simp only [Int.natCast_zero] at this
  rw [h2] at this
  simp at this
theorem r41_L0_s (call : CallF) (fuel base : Nat) (kp : Value → M → Res2) (kx0 : Value → Value → Value → M → Res2) (n : Nat) (x0 x2 x3 : Value) (m : M) : r41_L0 call fuel base kp kx0 (n + 1) x0 x2 x3 m =
    (kc (call base 64 [(.int .i64 0), (.int .i64 0), x3] m) (fun v8_2 m => (kc (call base 63 [x0, v8_2] m) (fun v9_3 m => (k1n (mun .not v9_3) fun v10_4 => (kb v10_4 (k1n (mbin E .add 3 x3 (.int .i64 1)) fun v12_5 => (r41_L0 call fuel base kp kx0 n x0 x2 v12_5 m)) (kx0 x0 x2 x3 m)))) (fun v m => kp v m))) (fun v m => kp v m)) := by
  unfold r41_L0
  rw [k1_fun]
theorem r41_L2_s (call : CallF) (fuel base : Nat) (kp : Value → M → Res2) (kr : Value → M → Res2) (n : Nat) (x0 x2 x3 x4 : Value) (m : M) : r41_L2 call fuel base kp kr (n + 1) x0 x2 x3 x4 m =
    (r41_L4 call fuel base (fun v m => kp v m) (fun y2_14 m => (kr y2_14 m)) (fun y0_15 y2_16 y3_17 y4_18 m => (k1n (mbin E .add 3 y4_18 (.int .i64 1)) fun v14_19 => (r41_L2 call fuel base kp kr n y0_15 y2_16 y3_17 v14_19 m))) fuel x0 x2 x3 x4 x3 (.int .i64 0) m) := by
  unfold r41_L2
  rw [k1_fun]
theorem r41_L4_s (call : CallF) (fuel base : Nat) (kp : Value → M → Res2) (kr : Value → M → Res2) (kx4 : Value → Value → Value → Value → M → Res2) (n : Nat) (x0 x2 x3 x4 x15 x16 : Value) (m : M) : r41_L4 call fuel base kp kr kx4 (n + 1) x0 x2 x3 x4 x15 x16 m =
    (k1n (mbin E .lss 3 x16 x15) fun v17_9 => (kb v17_9 (kc (call base 64 [(.int .i64 0), x4, x16] m) (fun v22_10 m => (kc (call base 63 [x0, v22_10] m) (fun v23_11 m => (kb v23_11 (k1n (mbuild E.P 26 [(0, x4), (1, x16), (2, x3)]) fun v27_12 => (ks (xstore E.P base m 26 x2 v27_12) fun m => (kr x2 m))) (k1n (mbin E .add 3 x16 (.int .i64 1)) fun v28_13 => (r41_L4 call fuel base kp kr kx4 n x0 x2 x3 x4 x15 v28_13 m)))) (fun v m => kp v m))) (fun v m => kp v m)) (kx4 x0 x2 x3 x4 m))) := by
  unfold r41_L4
  rw [k1_fun]
abbrev gridV (a b c : Int) : Value := .agg #[vi a, vi b, vi c]
theorem b26 (a b c : Int) : mbuild E.P 26 [(0, vi a), (1, vi b), (2, vi c)] = some (gridV a b c) := by kernel_rfl
theorem loop41a (call : CallF) (fuel base : Nat) (kp : Value → M → Res2) (kx : Value → Value → Value → M → Res2) {m : M} {v : Value} {l : List ByteArray} (hp : Pat l) (x2 : Value) (h64 : ∀ e f : Int, call base 64 [vi 0, vi e, vi f] m = some (.ret (kV 0 e f), m))
    (h63 : ∀ e f : Int, call base 63 [v, mV 1 0 0 1 e f] m = some (.ret (.bool (keepsB l 1 0 0 1 e f)), m)) :
    ∀ (k n j : Nat), k < n → 1 ≤ j → j + k = 7 → j ≤ l.length → r41_L0 call fuel base kp kx n v x2 (vi j) m = kx v x2 (vi (fst (fun w => trB l 0 w) k j)) m
  | _, 0, j, hk, h1, hj, hw => by omega
  | 0, n + 1, j, hk, h1, hj, hw => by have := hp.h6; omega
  | k + 1, n + 1, j, hk, h1, hj, hw => by
    have a4 := hp.h6
    rw [r41_L0_s, show (.int .i64 0 : Value) = vi 0 from rfl, h64, kcs, kV0, h63, kcs, not4, k1s, keeps_tr hp (by omega) (by omega)]
    unfold fst
    cases h : trB l 0 (j : Int) with
    | true =>
      rw [Bool.not_true, kbf]
      rfl
    | false =>
      have : j ≠ l.length := fun e => by rw [e, tr_h hp] at h; simp at h
      rw [Bool.not_false, kbt, add1 j (by omega), k1s, loop41a call fuel base kp kx hp x2 h64 h63 k n (j + 1) (by omega) (by omega) (by omega) (by omega)]
      rfl
theorem loop41c (call : CallF) (fuel base : Nat) (kp : Value → M → Res2) (kr : Value → M → Res2) (kx : Value → Value → Value → Value → M → Res2) {m : M} {v : Value} {l : List ByteArray} (hp : Pat l) {r D x : Nat} {z1 z2 z3 : Value} (hr : m[r]? = some (cellR [z1, z2, z3])) (hb : base ≤ r) (hx : x ≤ 100) (hD : D ≤ 6)
    (h64 : ∀ e f : Int, call base 64 [vi 0, vi e, vi f] m = some (.ret (kV 0 e f), m))
    (h63 : ∀ e f : Int, call base 63 [v, mV 1 0 0 1 e f] m = some (.ret (.bool (keepsB l 1 0 0 1 e f)), m)) :
    ∀ (k n j : Nat), k < n → j + k = D → r41_L4 call fuel base kp kr kx n v (pt r 0) (vi D) (vi x) (vi D) (vi j) m = match fstO (fun y => trB l x y) k j with
      | some y => kr (pt r 0) (m.set r (cellR [vi x, vi y, vi D]))
      | none => kx v (pt r 0) (vi D) (vi x) m
  | _, 0, j, hk, hj => by omega
  | 0, n + 1, j, hk, hj => by
    rw [r41_L4_s, lss_nat, k1s, decide_eq_false (by omega), kbf]
    rfl
  | k + 1, n + 1, j, hk, hj => by
    rw [r41_L4_s, lss_nat, k1s, decide_eq_true (by omega), kbt, show (.int .i64 0 : Value) = vi 0 from rfl, h64, kcs, kV0, h63, kcs, keeps_tr hp (by omega) (by omega)]
    unfold fstO
    cases h : trB l (x : Int) (j : Int) with
    | true =>
      rw [kbt, b26, k1s, st26 hb hr rfl, kss]
      rfl
    | false =>
      rw [kbf, add1 j (by omega), k1s, loop41c call fuel base kp kr kx hp hr hb hx hD h64 h63 k n (j + 1) (by omega) (by omega)]
      rfl
theorem loop41b (call : CallF) (fuel base : Nat) (hf : 20 ≤ fuel) (kp : Value → M → Res2) (kr : Value → M → Res2) {m : M} {v : Value} {l : List ByteArray} (hp : Pat l) {r D : Nat} {z1 z2 z3 : Value} (hr : m[r]? = some (cellR [z1, z2, z3])) (hb : base ≤ r) (hD : D ≤ 6)
    (h64 : ∀ e f : Int, call base 64 [vi 0, vi e, vi f] m = some (.ret (kV 0 e f), m))
    (h63 : ∀ e f : Int, call base 63 [v, mV 1 0 0 1 e f] m = some (.ret (.bool (keepsB l 1 0 0 1 e f)), m)) :
    ∀ (k n x a b : Nat), k < n → x + k ≤ 50 → findR (fun x y => trB l x y) D k x = some (a, b) → r41_L2 call fuel base kp kr n v (pt r 0) (vi D) (vi x) m = kr (pt r 0) (m.set r (cellR [vi a, vi b, vi D]))
  | _, 0, x, a, b, hk, hx, h => by omega
  | 0, n + 1, x, a, b, hk, hx, h => by simp [findR] at h
  | k + 1, n + 1, x, a, b, hk, hx, h => by
    rw [r41_L2_s, i0, loop41c call fuel base _ _ _ hp hr hb (by omega) hD h64 h63 D fuel 0 (by omega) (by omega)]
    unfold findR at h
    cases hfo : fstO (fun y => trB l x y) D 0 with
    | some y =>
      rw [hfo] at h
      simp only [Option.some.injEq, Prod.mk.injEq] at h
      obtain ⟨rfl, rfl⟩ := h
      rfl
    | none =>
      rw [hfo] at h
      simp only at h ⊢
      rw [add1 x (by omega), k1s]
      exact loop41b call fuel base hf kp kr hp hr hb hD h64 h63 k n (x + 1) a b (by omega) (by omega) h
theorem t41 (n base : Nat) (hn : 70 ≤ n) {m : M} {v : Value} {l : List ByteArray} (hv : Strs m v l) (hp : Pat l) : rt (n + 1) base 41 [v] m = some (.ret (gridV (latA l) (latB l) (smH l)), m) := by
  refine rt_pure (f := 41) (rf := rf41) (by kernel_rfl) (by kernel_rfl) (by kernel_rfl) n base _ m (m ++ [cellR [vi (latA l), vi (latB l), vi (smH l)]]) _ ?_ rfl
  show r41 (rt n) n m.length v m = _
  obtain ⟨k, rfl⟩ : ∃ k, n = k + 1 := ⟨n - 1, by omega⟩
  have a1 := hp.h1; have a2 := hp.h6
  unfold r41
  rw [fVal_fun, al26, k2s]
  generalize hm1 : m ++ [cellR [(.int .i64 0 : Value), .int .i64 0, .int .i64 0]] = m1
  have hv1 : Strs m1 v l := by rw [← hm1]; exact hv.app _
  have hr : m1[m.length]? = some (cellR [.int .i64 0, .int .i64 0, .int .i64 0]) := by rw [← hm1]; simp
  have h64 : ∀ e f : Int, rt (k + 1) m.length 64 [vi 0, vi e, vi f] m1 = some (.ret (kV 0 e f), m1) := fun e f => t64 k _ 0 (by omega) e f m1
  have h63 : ∀ e f : Int, rt (k + 1) m.length 63 [v, mV 1 0 0 1 e f] m1 = some (.ret (.bool (keepsB l 1 0 0 1 e f)), m1) := fun e f => t63 k _ (by omega) hv1 hp 1 0 0 1 e f
  rw [show (.int .i64 1 : Value) = vi ((1 : Nat) : Int) from rfl, loop41a (rt (k + 1)) (k + 1) m.length _ _ hp _ h64 h63 6 (k + 1) 1 (by omega) (by omega) rfl a1]
  have hD : fst (fun w => trB l 0 w) 6 1 ≤ 6 := by have := (smH_le hp).2.1; unfold smH at this; omega
  rw [loop41b (rt (k + 1)) (k + 1) m.length (by omega) _ _ hp hr (Nat.le_refl _) hD h64 h63 6 (k + 1) 1 (latA l) (latB l) (by omega) (by omega) (lat_some hp), ml26 (List.getElem?_set_self (List.getElem?_eq_some_iff.1 hr).1), k0s]
  rw [← hm1]
  have : (m ++ [cellR [(.int .i64 0 : Value), .int .i64 0, .int .i64 0]]).set m.length (cellR [vi (latA l), vi (latB l), vi (fst (fun w => trB l 0 w) 6 1)]) = m ++ [cellR [vi (latA l), vi (latB l), vi (smH l)]] := by simp [smH]
  rw [this]
  rfl
def keepsK (l : List ByteArray) (k : Nat) (e f : Int) : Bool := keepsB l (kindT k).1 (kindT k).2.1 (kindT k).2.2.1 (kindT k).2.2.2 e f
/-- The symmetry of a kind. -/
def ofC (l : List ByteArray) (k : Nat) : Option (Nat × Nat) := findR (fun e f => keepsK l k e f) (smH l) (latA l) 0
theorem r65_L0_s (call : CallF) (fuel base : Nat) (kp : Value → M → Res2) (kr : Value → M → Res2) (kx0 : M → Res2) (n : Nat) (x0 x1 x5 x11 x12 : Value) (m : M) : r65_L0 call fuel base kp kr kx0 (n + 1) x0 x1 x5 x11 x12 m =
    (k1n (mbin E .lss 3 x12 x11) fun v13_4 => (kb v13_4 (k1n (mfieldAddr E.P 26 x5 2) fun v15_5 => (k1n (xload E.P m 3 v15_5) fun v16_6 => (r65_L2 call fuel base (fun v m => kp v m) (fun y6_15 m => (kr y6_15 m)) (fun y0_16 y1_17 y5_18 y11_19 y12_20 m => (k1n (mbin E .add 3 y12_20 (.int .i64 1)) fun v30_21 => (r65_L0 call fuel base kp kr kx0 n y0_16 y1_17 y5_18 y11_19 v30_21 m))) fuel x0 x1 x5 x12 x11 x12 v16_6 (.int .i64 0) m))) (kx0 m))) := by
  unfold r65_L0
  rw [k1_fun]
theorem r65_L2_s (call : CallF) (fuel base : Nat) (kp : Value → M → Res2) (kr : Value → M → Res2) (kx2 : Value → Value → Value → Value → Value → M → Res2) (n : Nat) (x0 x1 x5 x7 x11 x12 x16 x17 : Value) (m : M) : r65_L2 call fuel base kp kr kx2 (n + 1) x0 x1 x5 x7 x11 x12 x16 x17 m =
    (k1n (mbin E .lss 3 x17 x16) fun v18_7 => (kb v18_7 (kc (call base 64 [x1, x7, x17] m) (fun v23_8 m => (k2 (xalloc E.P m 50) fun v9_9 m => (ks (xstore E.P base m 50 v9_9 v23_8) fun m => (k1n (xload E.P m 50 v9_9) fun v25_10 => (kc (call base 63 [x0, v25_10] m) (fun v26_11 m => (kb v26_11 (k1n (xload E.P m 50 v9_9) fun v27_12 => (k2 (xbuildSlice E.P m 30 1 [(0, v27_12)]) fun v28_13 m => (kr v28_13 m))) (k1n (mbin E .add 3 x17 (.int .i64 1)) fun v29_14 => (r65_L2 call fuel base kp kr kx2 n x0 x1 x5 x7 x11 x12 x16 v29_14 m)))) (fun v m => kp v m)))))) (fun v m => kp v m)) (kx2 x0 x1 x5 x11 x12 m))) := by
  unfold r65_L2
  rw [k1_fun]
theorem loop65b (call : CallF) (fuel base : Nat) (kp : Value → M → Res2) (kr : Value → M → Res2) (kx : Value → Value → Value → Value → Value → M → Res2) {m1 : M} {v x5 x11 : Value} {l : List ByteArray} (hv : Strs m1 v l) (hp : Pat l) {k e D : Nat} (hb : base ≤ m1.length) (hD : D ≤ 6) (hk : k < 8)
    (h64 : ∀ (e f : Int) (m : M), call base 64 [vi (k : Int), vi e, vi f] m = some (.ret (kV k e f), m))
    (h63 : ∀ (e f : Int) (m : M), Keeps m1.length m1 m → call base 63 [v, kV k e f] m = some (.ret (.bool (keepsK l k e f)), m)) :
    ∀ (i n j : Nat) (m : M), i < n → j + i = D → Keeps m1.length m1 m →
      ∃ m', Keeps m1.length m1 m' ∧ match fstO (fun f => keepsK l k e f) i j with
        | some f => r65_L2 call fuel base kp kr kx n v (vi (k : Int)) x5 (vi (e : Int)) x11 (vi (e : Int)) (vi D) (vi j) m = kr (sl m'.length 1) (m' ++ [rowz 6 true [vi (kindT k).1, vi (kindT k).2.1, vi (kindT k).2.2.1, vi (kindT k).2.2.2, vi e, vi f]])
        | none => r65_L2 call fuel base kp kr kx n v (vi (k : Int)) x5 (vi (e : Int)) x11 (vi (e : Int)) (vi D) (vi j) m = kx v (vi (k : Int)) x5 x11 (vi (e : Int)) m'
  | _, 0, j, m, hi, hj, _ => by omega
  | 0, n + 1, j, m, hi, hj, hkm => by
    refine ⟨m, hkm, ?_⟩
    show r65_L2 call fuel base kp kr kx (n + 1) v (vi (k : Int)) x5 (vi (e : Int)) x11 (vi (e : Int)) (vi D) (vi j) m = _
    rw [r65_L2_s, lss_nat, k1s, decide_eq_false (by omega), kbf]
  | i + 1, n + 1, j, m, hi, hj, hkm => by
    have hbm := Nat.le_trans hb hkm.1
    have h1 : (m ++ [cellR [(.int .i64 0 : Value), .int .i64 0, .int .i64 0, .int .i64 0, .int .i64 0, .int .i64 0]])[m.length]? = some (cellR [.int .i64 0, .int .i64 0, .int .i64 0, .int .i64 0, .int .i64 0, .int .i64 0]) := by simp
    have run : ∀ R, r65_L2 call fuel base kp kr kx (n + 1) v (vi (k : Int)) x5 (vi (e : Int)) x11 (vi (e : Int)) (vi D) (vi j) m = R ↔ (kb (.bool (keepsK l k e j)) (kr (sl (m ++ [kR k e j]).length 1) ((m ++ [kR k e j]) ++ [rowz 6 true [vi (kindT k).1, vi (kindT k).2.1, vi (kindT k).2.2.1, vi (kindT k).2.2.2, vi e, vi j]])) (r65_L2 call fuel base kp kr kx n v (vi (k : Int)) x5 (vi (e : Int)) x11 (vi (e : Int)) (vi D) (vi ((j + 1 : Nat) : Int)) (m ++ [kR k e j]))) = R := by
      intro R
      have hset : (m ++ [cellR [(.int .i64 0 : Value), .int .i64 0, .int .i64 0, .int .i64 0, .int .i64 0, .int .i64 0]]).set m.length (cellR [vi (kindT k).1, vi (kindT k).2.1, vi (kindT k).2.2.1, vi (kindT k).2.2.2, vi e, vi j]) = m ++ [kR k e j] := by simp [kR]
      have hl : (m ++ [kR k e j])[m.length]? = some (cellR [vi (kindT k).1, vi (kindT k).2.1, vi (kindT k).2.2.1, vi (kindT k).2.2.2, vi e, vi j]) := by simp [kR]
      have hkm1 : Keeps m1.length m1 (m ++ [kR k e j]) := hkm.trans (Keeps.push _ _ hkm.1 _)
      rw [r65_L2_s, lss_nat, k1s, decide_eq_true (by omega), kbt, h64, kcs, al50, k2s, kV_eq, st50 hbm h1 rfl, kss, hset, ldb50 hl, k1s]
      rw [show (.agg #[vi (kindT k).1, vi (kindT k).2.1, vi (kindT k).2.2.1, vi (kindT k).2.2.2, vi e, vi j] : Value) = kV k e j from rfl, h63 _ _ _ hkm1, kcs, ldb50 hl, k1s, gb30, k2s, add1 j (by omega), k1s]
    have hkm1 : Keeps m1.length m1 (m ++ [kR k e j]) := hkm.trans (Keeps.push _ _ hkm.1 _)
    unfold fstO
    cases h : keepsK l k e j with
    | true =>
      refine ⟨m ++ [kR k e j], hkm1, ?_⟩
      simp only [if_true]
      rw [run, h, kbt]
    | false =>
      obtain ⟨m', hk', hr⟩ := loop65b call fuel base kp kr kx (x5 := x5) (x11 := x11) hv hp (e := e) hb hD hk h64 h63 i n (j + 1) (m ++ [kR k e j]) (by omega) (by omega) hkm1
      refine ⟨m', hk', ?_⟩
      simp only [Bool.false_eq_true, if_false]
      cases ho : fstO (fun f => keepsK l k e f) i (j + 1) with
      | some f =>
        rw [ho] at hr
        simp only at hr ⊢
        rw [run, h, kbf]
        exact hr
      | none =>
        rw [ho] at hr
        simp only at hr ⊢
        rw [run, h, kbf]
        exact hr
theorem loop65 (call : CallF) (fuel base : Nat) (hfu : 20 ≤ fuel) (kp : Value → M → Res2) (kr : Value → M → Res2) (kx : M → Res2) {m1 : M} {v : Value} {l : List ByteArray} (hv : Strs m1 v l) (hp : Pat l) {k A B D q : Nat} (hb : base ≤ m1.length) (hD : D ≤ 6) (hA : A ≤ 6) (hk : k < 8) (hq : m1[q]? = some (cellR [vi A, vi B, vi D]))
    (h64 : ∀ (e f : Int) (m : M), call base 64 [vi (k : Int), vi e, vi f] m = some (.ret (kV k e f), m))
    (h63 : ∀ (e f : Int) (m : M), Keeps m1.length m1 m → call base 63 [v, kV k e f] m = some (.ret (.bool (keepsK l k e f)), m)) :
    ∀ (i n j : Nat) (m : M), i < n → j + i = A → Keeps m1.length m1 m →
      ∃ m', Keeps m1.length m1 m' ∧ match findR (fun e f => keepsK l k e f) D i j with
        | some (e, f) => r65_L0 call fuel base kp kr kx n v (vi (k : Int)) (pt q 0) (vi A) (vi j) m = kr (sl m'.length 1) (m' ++ [rowz 6 true [vi (kindT k).1, vi (kindT k).2.1, vi (kindT k).2.2.1, vi (kindT k).2.2.2, vi e, vi f]])
        | none => r65_L0 call fuel base kp kr kx n v (vi (k : Int)) (pt q 0) (vi A) (vi j) m = kx m'
  | _, 0, j, m, hi, hj, _ => by omega
  | 0, n + 1, j, m, hi, hj, hkm => by
    refine ⟨m, hkm, ?_⟩
    show r65_L0 call fuel base kp kr kx (n + 1) v (vi (k : Int)) (pt q 0) (vi A) (vi j) m = _
    rw [r65_L0_s, lss_nat, k1s, decide_eq_false (by omega), kbf]
  | i + 1, n + 1, j, m, hi, hj, hkm => by
    have hql := (List.getElem?_eq_some_iff.1 hq).1
    have hq1 := (hkm.2 q hql).trans hq
    obtain ⟨m2, hk2, hr⟩ := loop65b call fuel base (fun v m => kp v m) (fun y6 m => kr y6 m) (fun y0 y1 y5 y11 y12 m => k1n (mbin E .add 3 y12 (.int .i64 1)) fun v30 => r65_L0 call fuel base kp kr kx n y0 y1 y5 y11 v30 m) (x5 := pt q 0) (x11 := vi A) hv hp (e := j) hb hD hk h64 h63 D fuel 0 m (by omega) (by omega) hkm
    have step : ∀ R, r65_L0 call fuel base kp kr kx (n + 1) v (vi (k : Int)) (pt q 0) (vi A) (vi j) m = R ↔ r65_L2 call fuel base (fun v m => kp v m) (fun y6 m => kr y6 m) (fun y0 y1 y5 y11 y12 m => k1n (mbin E .add 3 y12 (.int .i64 1)) fun v30 => r65_L0 call fuel base kp kr kx n y0 y1 y5 y11 v30 m) fuel v (vi (k : Int)) (pt q 0) (vi j) (vi A) (vi j) (vi D) (vi ((0 : Nat) : Int)) m = R := by
      intro R
      rw [r65_L0_s, lss_nat, k1s, decide_eq_true (by omega), kbt, ff26_2, k1s, ld3, box_cell hq1 (0 + 2) _ rfl, k1s, i0]
    unfold findR
    cases ho : fstO (fun f => keepsK l k j f) D 0 with
    | some f =>
      rw [ho] at hr
      refine ⟨m2, hk2, ?_⟩
      simp only at hr ⊢
      rw [step]
      exact hr
    | none =>
      rw [ho] at hr
      simp only at hr ⊢
      rw [add1 j (by omega), k1s] at hr
      obtain ⟨m', hk', h'⟩ := loop65 call fuel base hfu kp kr kx hv hp hb hD hA hk hq h64 h63 i n (j + 1) m2 (by omega) (by omega) hk2
      refine ⟨m', hk', ?_⟩
      cases ho2 : findR (fun e f => keepsK l k e f) D i (j + 1) with
      | some ef =>
        obtain ⟨e, f⟩ := ef
        rw [ho2] at h'
        simp only at h' ⊢
        rw [step, hr]
        exact h'
      | none =>
        rw [ho2] at h'
        simp only at h' ⊢
        rw [step, hr]
        exact h'
theorem t65 (n base : Nat) (hn : 70 ≤ n) {m : M} (hb : base ≤ m.length) {v : Value} {l : List ByteArray} (hv : Strs m v l) (hp : Pat l) (k : Nat) (hk : k < 8) :
    ∃ m', Keeps m.length m m' ∧ match ofC l k with
      | some (e, f) => rt (n + 1) base 65 [v, vi (k : Int), gridV (latA l) (latB l) (smH l)] m = some (.ret (sl m'.length 1), m' ++ [rowz 6 true [vi (kindT k).1, vi (kindT k).2.1, vi (kindT k).2.2.1, vi (kindT k).2.2.2, vi e, vi f]])
      | none => rt (n + 1) base 65 [v, vi (k : Int), gridV (latA l) (latB l) (smH l)] m = some (.ret nilS, m') := by
  rw [rt_imp (f := 65) (rf := rf65) (by kernel_rfl) (by kernel_rfl) (by kernel_rfl) n base]
  show ∃ m', Keeps m.length m m' ∧ match ofC l k with
      | some (e, f) => r65 (rt n) n base v (vi (k : Int)) (gridV (latA l) (latB l) (smH l)) m = some (.ret (sl m'.length 1), m' ++ [rowz 6 true [vi (kindT k).1, vi (kindT k).2.1, vi (kindT k).2.2.1, vi (kindT k).2.2.2, vi e, vi f]])
      | none => r65 (rt n) n base v (vi (k : Int)) (gridV (latA l) (latB l) (smH l)) m = some (.ret nilS, m')
  obtain ⟨i, rfl⟩ : ∃ i, n = i + 1 := ⟨n - 1, by omega⟩
  obtain ⟨l1, l2, l3, _⟩ := lat_ok hp
  have a4 := hp.w6; have a2 := hp.h6
  have d2 := (smH_le hp).2.1
  have hk1 : Keeps m.length m (m ++ [cellR [vi (latA l), vi (latB l), vi (smH l)]]) := Keeps.push _ _ (Nat.le_refl _) _
  have hv1 := hv.keeps hk1
  have hq : (m ++ [cellR [vi (latA l), vi (latB l), vi (smH l)]])[m.length]? = some (cellR [vi (latA l), vi (latB l), vi (smH l)]) := by simp
  obtain ⟨m', hk', hr⟩ := loop65 (rt (i + 1)) (i + 1) base (by omega) (fun v m => some (.pan v, m)) (fun y6 m => some (.ret y6, m)) (fun m => some (.ret (.slice none 0 0), m)) hv1 hp (by simp; omega) (by omega) (by omega) hk hq
    (fun e f m => t64 i _ k hk e f m) (fun e f m2 hk2 => t63 i _ (by omega) (hv1.keeps hk2) hp _ _ _ _ e f) (latA l) (i + 1) 0 _ (by omega) (by omega) (Keeps.refl _ _)
  have step : ∀ R, r65 (rt (i + 1)) (i + 1) base v (vi (k : Int)) (gridV (latA l) (latB l) (smH l)) m = R ↔ r65_L0 (rt (i + 1)) (i + 1) base (fun v m => some (.pan v, m)) (fun y6 m => some (.ret y6, m)) (fun m => some (.ret (.slice none 0 0), m)) (i + 1) v (vi (k : Int)) (pt m.length 0) (vi (latA l)) (vi ((0 : Nat) : Int)) (m ++ [cellR [vi (latA l), vi (latB l), vi (smH l)]]) = R := by
    intro R
    unfold r65
    rw [k1_fun, fVal_fun, bxa3, k2s, ff26_0, k1s, ld3, box_cell hq (0 + 0) _ rfl, k1s, i0]
  refine ⟨m', hk1.trans (hk'.mono hk1.1), ?_⟩
  unfold ofC
  cases ho : findR (fun e f => keepsK l k e f) (smH l) (latA l) 0 with
  | some ef =>
    obtain ⟨e, f⟩ := ef
    rw [ho] at hr
    simp only at hr ⊢
    rw [step]
    exact hr
  | none =>
    rw [ho] at hr
    simp only at hr ⊢
    rw [step]
    exact hr
end Go.AM
namespace Go.AM
open Go Go.Proofs
abbrev Mv := Nat × Nat × Nat
def mvC (x : Mv) : List Value := [vi (kindT x.1).1, vi (kindT x.1).2.1, vi (kindT x.1).2.2.1, vi (kindT x.1).2.2.2, vi x.2.1, vi x.2.2]
def mvsV (L : List Mv) : List Value := L.flatMap mvC
def movU (l : List ByteArray) (j : Nat) : List Mv := (List.range j).filterMap fun k => (ofC l k).map fun p => (k, p.1, p.2)
def movL (l : List ByteArray) : List Mv := movU l 8
theorem movU_succ (l : List ByteArray) (j : Nat) : movU l (j + 1) = movU l j ++ match ofC l j with
    | some p => [(j, p.1, p.2)]
    | none => [] := by
  unfold movU
  rw [List.range_succ, List.filterMap_append]
  congr 1
  cases h : ofC l j <;> simp [h]
theorem movU_len (l : List ByteArray) (j : Nat) : (movU l j).length ≤ j := by
  unfold movU
  have := List.length_filterMap_le (fun k => (ofC l k).map fun p => (k, p.1, p.2)) (List.range j)
  simpa using this
/-- Moves in memory. -/
def Mvs (m : M) (v : Value) (L : List Mv) : Prop := (L = [] ∧ v = nilS) ∨ ∃ p row, v = sl p L.length ∧ m[p]? = some row ∧ row.cells = mvsV L
theorem Mvs.at {m m' : M} {v : Value} {L : List Mv} (h : Mvs m v L) (hk : ∀ i n0, v = sl i n0 → i < m.length → m'[i]? = m[i]?) : Mvs m' v L := by
  rcases h with h | ⟨p, row, h1, h2, h3⟩
  · exact .inl h
  · exact .inr ⟨p, row, h1, (hk p _ h1 (List.getElem?_eq_some_iff.1 h2).1).trans h2, h3⟩
theorem Mvs.keeps {m m' : M} {v : Value} {L : List Mv} (h : Mvs m v L) (hk : Keeps m.length m m') : Mvs m' v L := h.at fun i _ _ hi => hk.2 i hi
theorem Mvs.app {m : M} {v : Value} {L : List Mv} (h : Mvs m v L) (x : List Row) : Mvs (m ++ x) v L := h.keeps (Keeps.push _ _ (Nat.le_refl _) _)
theorem mvsV_len (L : List Mv) : (mvsV L).length = L.length * 6 := by
  unfold mvsV
  induction L with
  | nil => rfl
  | cons x L ih =>
    rw [List.flatMap_cons, List.length_append, ih, List.length_cons]
    show 6 + L.length * 6 = (L.length + 1) * 6
    omega
theorem mvsV_at : ∀ (L : List Mv) (j : Nat) (hj : j < L.length), ((mvsV L).drop (j * 6)).take 6 = mvC L[j]
  | [], j, h => by simp at h
  | x :: L, 0, _ => by
    show (((mvC x) ++ mvsV L).drop 0).take 6 = mvC x
    rw [List.drop_zero, List.take_append_of_le_length (by show 6 ≤ 6; omega)]
    rfl
  | x :: L, j + 1, h => by
    have e : mvsV (x :: L) = mvC x ++ mvsV L := rfl
    have : (j + 1) * 6 = (mvC x).length + j * 6 := by show (j + 1) * 6 = 6 + j * 6; omega
    rw [e, this, List.drop_append, List.drop_eq_nil_of_le (by omega), List.nil_append, Nat.add_sub_cancel_left]
    exact mvsV_at L j (by simpa using h)
theorem Mvs.len30 {m : M} {v : Value} {L : List Mv} (h : Mvs m v L) (base : Nat) : vcalln E.P base m .len [30] [v] = some (vi L.length, m) := by
  rcases h with ⟨rfl, rfl⟩ | ⟨p, row, rfl, _⟩
  · exact len30n _ _
  · exact AM.len30 _ _ _ _ _
theorem Mvs.get {m : M} {v : Value} {L : List Mv} (h : Mvs m v L) {j : Nat} (hj : j < L.length) (K : Value → Res2) : (k1n (mindexAddr E.P 30 v (vi j)) fun a => k1n (xload E.P m 50 a) K) = K (kV L[j].1 L[j].2.1 L[j].2.2) := by
  rcases h with ⟨rfl, rfl⟩ | ⟨p, row, rfl, hr, hc⟩
  · simp at hj
  · rw [ix30 p _ _ j hj, k1s, ld50 hr (by rw [hc, mvsV_len]; omega), k1s, hc, mvsV_at L j hj]
    rfl
theorem kB_keeps {m m' : M} (v : Value) (h : Keeps m.length m m') : kB m (some (.ret v, m')) = some (.ret v, m') := by
  have e : m ++ m'.drop m.length = m' := by
    refine List.ext_getElem? fun i => ?_
    by_cases hi : i < m.length
    · rw [List.getElem?_append_left hi, h.2 i hi]
    · rw [List.getElem?_append_right (by omega), List.getElem?_drop]
      congr 1; omega
  simp only [kB, e, fList_eq]
theorem app30n (base : Nat) (m : M) (v : Value) (hv : v = nilS ∨ ∃ r n, v = sl r n) : vcalln E.P base m .append [30, 30] [v, nilS] = some (v, m) := by
  rcases hv with rfl | ⟨r, n, rfl⟩
  · kernel_rfl
  · have e : xappend E.P base m [30, 30] (sl r n) nilS =
        if n + 0 ≤ n then if 0 = 0 then some (.slice (some ⟨r, 0, none⟩) n n, m) else
          (xwrite base m r (0 + n * 6) []).bind fun m' => fNat (n + 0) fun k => some (.slice (some ⟨r, 0, none⟩) k n, m')
        else if n + 0 > 2 ^ 38 then none else
          match xget m r, xread m r 0 (n * 6) with
          | some row, some olds =>
            if row.esz ≠ 6 then none else
            xlen m fun k => fNat (n + 0) fun c => fList (olds ++ []) fun cs =>
            if row.ex then xpush m (rowz 6 false cs) fun m' => some (.slice (some ⟨k, 0, none⟩) c c, m')
            else if row.cells.isEmpty then none
            else if ([] : List Value).all (·.oneCell') then xkill base m r fun m' => xpush m' (rowz 6 false cs) fun m' => some (.slice (some ⟨k, 0, none⟩) c c, m')
            else none
          | _, _ => none := by kernel_rfl
    rw [ga30e, e, if_pos (by omega), if_pos rfl]
theorem app30 {b base : Nat} {m : M} {v : Value} {cs : List Value} {n : Nat} (h : Grow 6 b m v cs n) (hn : n ≤ 1000) (hbb : base ≤ b) (hbm : b ≤ m.length) {k : Nat} {ds : List Value} (hk : m[k]? = some (rowz 6 true ds)) (hd : ds.length = 6) (hone : ds.all (·.oneCell') = true) :
    ∃ v' m', vcalln E.P base m .append [30, 30] [v, sl k 1] = some (v', m') ∧ Grow 6 b m' v' (cs ++ ds) (n + 1) ∧ Keeps b m m' := by
  rcases h with ⟨rfl, rfl, rfl⟩ | ⟨r, h1, hb, rfl, hr, hl⟩
  · refine ⟨_, m ++ [rowz 6 false ds], by rw [ga30e, ga30nil _ _ _ 1 _ _ hk (by simp [rowz, hd]) (by omega) (by omega)]; rfl, .inr ⟨m.length, by omega, hbm, rfl, by simp, by simpa using hd⟩, Keeps.push b m hbm _⟩
  · have hlt : r < m.length := (List.getElem?_eq_some_iff.1 hr).1
    refine ⟨_, m.set r (rowz 6 false []) ++ [rowz 6 false (cs ++ ds)], by rw [ga30e, ga30some _ _ r n _ 1 _ false cs _ hr hl (.inr h1) (by omega) (by omega) (by omega) (by omega) hk (by simp [rowz, hd]) hone]; rfl, .inr ⟨m.length, by omega, hbm, rfl, by simp, by simp [hl, hd]; omega⟩, (Keeps.set b _ r _ hb).trans (Keeps.push b _ (by simp; omega) _)⟩
theorem Grow.form {z b : Nat} {m : M} {v : Value} {cs : List Value} {n : Nat} (h : Grow z b m v cs n) : v = nilS ∨ ∃ r n, v = sl r n := by
  rcases h with ⟨_, h, _⟩ | ⟨r, _, _, h, _⟩
  · exact .inl h
  · exact .inr ⟨r, n, h⟩
theorem Grow.keep {z b b' : Nat} {m m' : M} {v : Value} {cs : List Value} {n : Nat} (h : Grow z b m v cs n) (hk : ∀ i, b ≤ i → i < m.length → m'[i]? = m[i]?) : Grow z b m' v cs n := by
  rcases h with h | ⟨r, h1, h2, h3, h4, h5⟩
  · exact .inl h
  · exact .inr ⟨r, h1, h2, h3, (hk r h2 (List.getElem?_eq_some_iff.1 h4).1).trans h4, h5⟩
theorem r43_L0_s (call : CallF) (fuel base : Nat) (kx0 : Value → Value → M → Res2) (n : Nat) (x0 x2 x3 x8 : Value) (m : M) : r43_L0 call fuel base kx0 (n + 1) x0 x2 x3 x8 m =
    (k1n (mbin E .lss 3 x8 (.int .i64 8)) fun v9_5 => (kb v9_5 (k1n (mfieldAddr E.P 70 x3 1) fun v11_6 => (k1n (xload E.P m 30 v11_6) fun v12_7 => (k1n (mfieldAddr E.P 70 x3 0) fun v15_8 => (k1n (xload E.P m 26 v15_8) fun v16_9 => (kc (kB m (call m.length 65 [x0, x8, v16_9] m)) (fun v17_10 m => (k2 (vcalln E.P base m .append [30, 30] [v12_7, v17_10]) fun v18_11 m => (k1n (mfieldAddr E.P 70 x3 1) fun v19_12 => (ks (xstore E.P base m 30 v19_12 v18_11) fun m => (k1n (mbin E .add 3 x8 (.int .i64 1)) fun v20_13 => (r43_L0 call fuel base kx0 n x0 x2 x3 v20_13 m)))))) (fun _ _ => none)))))) (kx0 x2 x3 m))) := by
  unfold r43_L0
  rw [k1_fun, vcall_fun]
abbrev grpV (a b c : Int) (s : Value) : Value := .agg #[vi a, vi b, vi c, s]
theorem b70 (a b c : Int) : mbuild E.P 70 [(0, gridV a b c)] = some (grpV a b c nilS) := by kernel_rfl
theorem st30s {base : Nat} {m : M} {p off : Nat} {v : Value} (hv : v = nilS ∨ ∃ r n, v = sl r n) : xstore E.P base m 30 (pt p off) v = mwrite base m p off [v] := by
  rcases hv with rfl | ⟨r, n, rfl⟩
  · exact st30n _ _ _ _
  · exact st30 _ _ _ _ _ _ _
theorem one_form {v : Value} (hv : v = nilS ∨ ∃ r n, v = sl r n) : v.oneCell' = true := by
  rcases hv with rfl | ⟨r, n, rfl⟩ <;> rfl
theorem loop43 (call : CallF) (fuel base : Nat) (kx : Value → Value → M → Res2) {m0 : M} {v x2 : Value} {l : List ByteArray} {r : Nat} (hv : Strs m0 v l) (hp : Pat l) (hm0 : m0.length ≤ r) (hb : base ≤ r)
    (h65 : ∀ (k : Nat) (m : M), k < 8 → Keeps m0.length m0 m → ∃ m', Keeps m.length m m' ∧ match ofC l k with
      | some (e, f) => call m.length 65 [v, vi (k : Int), gridV (latA l) (latB l) (smH l)] m = some (.ret (sl m'.length 1), m' ++ [rowz 6 true [vi (kindT k).1, vi (kindT k).2.1, vi (kindT k).2.2.1, vi (kindT k).2.2.2, vi e, vi f]])
      | none => call m.length 65 [v, vi (k : Int), gridV (latA l) (latB l) (smH l)] m = some (.ret nilS, m')) :
    ∀ (i n j : Nat) (m : M) (s : Value), i < n → j + i = 8 → Keeps m0.length m0 m → r < m.length → m[r]? = some (cellR [vi (latA l), vi (latB l), vi (smH l), s]) → Grow 6 (r + 1) m s (mvsV (movU l j)) (movU l j).length →
      ∃ s' m', r43_L0 call fuel base kx n v x2 (pt r 0) (vi (j : Int)) m = kx x2 (pt r 0) m' ∧ Keeps r m m' ∧ m'[r]? = some (cellR [vi (latA l), vi (latB l), vi (smH l), s']) ∧ Grow 6 (r + 1) m' s' (mvsV (movL l)) (movL l).length
  | _, 0, j, m, s, hi, hj, _, _, _, _ => by omega
  | 0, n + 1, j, m, s, hi, hj, hk, hrl, hr, hg => by
    have : j = 8 := by omega
    subst this
    rw [r43_L0_s, lss8, k1s, decide_eq_false (by omega), kbf]
    exact ⟨s, m, rfl, Keeps.refl _ _, hr, hg⟩
  | i + 1, n + 1, j, m, s, hi, hj, hk, hrl, hr, hg => by
    have hs := hg.form
    have c3 : mcell m r (0 + 3) = some s := box_cell hr (0 + 3) _ rfl
    have lg : xload E.P m 26 (pt r (0 + 0)) = some (gridV (latA l) (latB l) (smH l)) := ld26 hr (by simp [cellR])
    have hlen := movU_len l j
    obtain ⟨m1, hk1, h1⟩ := h65 j m (by omega) hk
    have next : ∀ (s2 : Value) (m2 : M), Keeps m.length m m2 ∨ (Keeps (r + 1) m m2) → Grow 6 (r + 1) m2 s2 (mvsV (movU l (j + 1))) (movU l (j + 1)).length → r + 1 ≤ m2.length → Keeps (r + 1) m m2 →
        ∃ s' m', (k1n (some (pt r (0 + 3))) fun v19 => ks (xstore E.P base m2 30 v19 s2) fun m => k1n (mbin E .add 3 (vi (j : Int)) (.int .i64 1)) fun v20 => r43_L0 call fuel base kx n v x2 (pt r 0) v20 m) = kx x2 (pt r 0) m' ∧ Keeps r m m' ∧ m'[r]? = some (cellR [vi (latA l), vi (latB l), vi (smH l), s']) ∧ Grow 6 (r + 1) m' s' (mvsV (movL l)) (movL l).length := by
      intro s2 m2 _ hg2 hl2 hk2
      have hr2 : m2[r]? = some (cellR [vi (latA l), vi (latB l), vi (smH l), s]) := (hk2.2 r (by omega)).trans hr
      have hs2 := hg2.form
      rw [k1s, st30s hs2, mwrite_one hb hr2 rfl (by simp [cellR]) (one_form hs2), kss, add1 j (by omega), k1s]
      have hrow : ({ cellR [vi (latA l), vi (latB l), vi (smH l), s] with cells := (cellR [vi (latA l), vi (latB l), vi (smH l), s]).cells.set (0 + 3) s2 } : Row) = cellR [vi (latA l), vi (latB l), vi (smH l), s2] := rfl
      rw [hrow]
      have hk3 : Keeps r m (m2.set r (cellR [vi (latA l), vi (latB l), vi (smH l), s2])) := (hk2.mono (by omega)).trans (Keeps.set _ _ _ _ (Nat.le_refl _))
      obtain ⟨s', m', e, k', r', g'⟩ := loop43 call fuel base kx hv hp hm0 hb h65 i n (j + 1) (m2.set r (cellR [vi (latA l), vi (latB l), vi (smH l), s2])) s2 (by omega) (by omega) (hk.trans (hk3.mono hm0)) (by simp; omega) (List.getElem?_set_self (by omega)) (hg2.keep (b' := 0) fun i hi _ => List.getElem?_set_ne (by omega))
      exact ⟨s', m', e, hk3.trans k', r', g'⟩
    rw [r43_L0_s, lss8, k1s, decide_eq_true (by omega), kbt, ff70_1, k1s, ld30, c3, k1s, ff70_0, k1s, lg, k1s]
    cases ho : ofC l j with
    | some ef =>
      obtain ⟨e, f⟩ := ef
      rw [ho] at h1
      simp only at h1
      have hkx : Keeps m.length m (m1 ++ [rowz 6 true [vi (kindT j).1, vi (kindT j).2.1, vi (kindT j).2.2.1, vi (kindT j).2.2.2, vi e, vi f]]) := hk1.trans (Keeps.push _ _ hk1.1 _)
      have hgx : Grow 6 (r + 1) (m1 ++ [rowz 6 true [vi (kindT j).1, vi (kindT j).2.1, vi (kindT j).2.2.1, vi (kindT j).2.2.2, vi e, vi f]]) s (mvsV (movU l j)) (movU l j).length := hg.keep (b' := 0) fun i _ hi => hkx.2 i hi
      obtain ⟨s2, m2, e2, g2, k2'⟩ := app30 hgx (by omega) (show base ≤ r + 1 by omega) (by have := hkx.1; omega) (k := m1.length) (ds := [vi (kindT j).1, vi (kindT j).2.1, vi (kindT j).2.2.1, vi (kindT j).2.2.2, vi e, vi f]) (by simp) rfl rfl
      rw [h1, kB_keeps _ hkx, kcs, e2, k2s]
      have hkk : Keeps (r + 1) m m2 := (hkx.mono (by omega)).trans k2'
      refine next s2 m2 (.inr hkk) ?_ (by have := hkk.1; omega) hkk
      have hm : movU l (j + 1) = movU l j ++ [(j, e, f)] := by rw [movU_succ, ho]
      rw [hm]
      have : mvsV (movU l j ++ [(j, e, f)]) = mvsV (movU l j) ++ [vi (kindT j).1, vi (kindT j).2.1, vi (kindT j).2.2.1, vi (kindT j).2.2.2, vi e, vi f] := by
        unfold mvsV; rw [List.flatMap_append]; rfl
      rw [this, List.length_append]
      exact g2
    | none =>
      rw [ho] at h1
      simp only at h1
      rw [h1, kB_keeps _ hk1, kcs, app30n _ _ _ hs, k2s]
      refine next s m1 (.inl hk1) ?_ (by have := hk1.1; omega) (hk1.mono (by omega))
      have hm : movU l (j + 1) = movU l j := by rw [movU_succ, ho, List.append_nil]
      rw [hm]
      exact hg.keep (b' := 0) fun i _ hi => hk1.2 i hi
theorem Grow.mvs {b : Nat} {m : M} {v : Value} {L : List Mv} (h : Grow 6 b m v (mvsV L) L.length) : Mvs m v L := by
  rcases h with ⟨h1, h2, h3⟩ | ⟨r, h1, h2, h3, h4, h5⟩
  · exact .inl ⟨List.eq_nil_of_length_eq_zero h1, h2⟩
  · exact .inr ⟨r, _, h3, h4, rfl⟩
theorem ld70b {m : M} {r : Nat} {a b c d : Value} (h : m[r]? = some (cellR [a, b, c, d])) : xload E.P m 70 (pt r 0) = some (.agg #[a, b, c, d]) := ldb70 h
theorem t43 (n base : Nat) (hn : 80 ≤ n) {m : M} (hb : base ≤ m.length) {v : Value} {l : List ByteArray} (hv : Strs m v l) (hp : Pat l) :
    ∃ s m', rt (n + 1) base 43 [v] m = some (.ret (grpV (latA l) (latB l) (smH l) s), m') ∧ Mvs m' s (movL l) ∧ Keeps m.length m m' ∧ (s = nilS ∨ ∃ r n, s = sl r n) := by
  rw [rt_imp (f := 43) (rf := rf43) (by kernel_rfl) (by kernel_rfl) (by kernel_rfl) n base]
  show ∃ s m', r43 (rt n) n base v m = _ ∧ _
  obtain ⟨k, rfl⟩ : ∃ k, n = k + 1 := ⟨n - 1, by omega⟩
  unfold r43
  rw [k1_fun, fVal_fun, al70, k2s, t41 k base (by omega) (hv.app _) hp, kcs, b70, k1s, al70, k2s]
  generalize hz : (cellR [(.int .i64 0 : Value), .int .i64 0, .int .i64 0, .slice none 0 0]) = z
  have hlen : (m ++ [z]).length = m.length + 1 := by simp
  have h1 : ((m ++ [z]) ++ [z])[m.length + 1]? = some (cellR [.int .i64 0, .int .i64 0, .int .i64 0, .slice none 0 0]) := by rw [hz]; simp
  rw [hlen, st70 (by omega) h1 rfl, kss]
  have hset : ((m ++ [z]) ++ [z]).set (m.length + 1) (cellR [vi (latA l), vi (latB l), vi (smH l), nilS]) = (m ++ [z]) ++ [cellR [vi (latA l), vi (latB l), vi (smH l), nilS]] := by
    rw [← hlen]; simp
  rw [hset]
  have hk1 : Keeps m.length m ((m ++ [z]) ++ [cellR [vi (latA l), vi (latB l), vi (smH l), nilS]]) := by rw [List.append_assoc]; exact Keeps.push _ _ (Nat.le_refl _) _
  obtain ⟨s', m', e, k', r', g'⟩ := loop43 (rt (k + 1)) (k + 1) base (fun y2 y3 m => k1n (xload E.P m 70 y3) fun v21 => ks (xstore E.P base m 70 y2 v21) fun m => k0 (mload E.P m 70 y2) fun r => some (.ret r, m)) (x2 := pt m.length 0) hv hp (r := m.length + 1) (by omega) (by omega) (fun k2 m2 hk2 hkm => t65 k _ (by omega) (Nat.le_refl _) (hv.keeps hkm) hp k2 hk2) 8 (k + 1) 0 _ nilS (by omega) (by omega) hk1 (by simp) (by rw [← hlen]; simp) (.inl ⟨rfl, rfl, rfl⟩)
  have hform := g'.form
  have hr0 : m'[m.length]? = some (cellR [.int .i64 0, .int .i64 0, .int .i64 0, .slice none 0 0]) := by
    rw [k'.2 _ (by omega), hz]
    simp
  show ∃ s m', r43_L0 (rt (k + 1)) (k + 1) base _ (k + 1) v (pt m.length 0) (pt (m.length + 1) 0) (vi ((0 : Nat) : Int)) _ = _ ∧ _
  rw [e, ld70b r', k1s, st70 hb hr0 (by show (true && (true && (true && (s'.oneCell' && true)))) = true; rw [one_form hform]; rfl), kss]
  have hkf : Keeps m.length m (m'.set m.length (cellR [vi (latA l), vi (latB l), vi (smH l), s'])) := hk1.trans ((k'.mono (by omega)).trans (Keeps.set _ _ _ _ (Nat.le_refl _)))
  rw [ml70 (List.getElem?_set_self (List.getElem?_eq_some_iff.1 hr0).1), k0s]
  refine ⟨s', _, rfl, ?_, hkf, hform⟩
  exact (g'.keep (b' := 0) fun i hi _ => List.getElem?_set_ne (by omega)).mvs
end Go.AM
namespace Go.AM
open Go Go.Proofs
/-- A group: the lattice and a symmetry for each class. -/
structure Grp where
  A : Nat
  B : Nat
  D : Nat
  L : List Mv
structure Grp.Ok (g : Grp) : Prop where
  a1 : 1 ≤ g.A
  d1 : 1 ≤ g.D
  a6 : g.A ≤ 6
  d6 : g.D ≤ 6
  len : g.L.length ≤ 8
  kind : ∀ x ∈ g.L, x.1 < 8
def isSl (s : Value) : Prop := s = nilS ∨ ∃ r n, s = sl r n
/-- A group in memory. -/
def GrpIn (m : M) (v : Value) (g : Grp) : Prop := ∃ s, v = grpV g.A g.B g.D s ∧ Mvs m s g.L ∧ isSl s
theorem GrpIn.keeps {m m' : M} {v : Value} {g : Grp} (h : GrpIn m v g) (hk : Keeps m.length m m') : GrpIn m' v g := by
  obtain ⟨s, h1, h2, h3⟩ := h
  exact ⟨s, h1, h2.keeps hk, h3⟩
theorem GrpIn.app {m : M} {v : Value} {g : Grp} (h : GrpIn m v g) (x : List Row) : GrpIn (m ++ x) v g := h.keeps (Keeps.push _ _ (Nat.le_refl _) _)
theorem koV_kind (k : Nat) (h : k < 8) : koV (kindT k) = (k : Int) := by
  match k, h with
  | 0, _ => rfl
  | 1, _ => rfl
  | 2, _ => rfl
  | 3, _ => rfl
  | 4, _ => rfl
  | 5, _ => rfl
  | 6, _ => rfl
  | 7, _ => rfl
theorem t88 (n base : Nat) (hn : 12 ≤ n) {m : M} {q : Nat} {k : Nat} (hq : m[q]? = some (cellR [vi (k : Int)])) (j : Nat) (hj : j < 8) (e f : Int) : rt (n + 1) base 88 [kV j e f, pt q 0] m = some (.ret (.bool (decide (j = k))), m) := by
  refine rt_pure (f := 88) (rf := rf88) (by kernel_rfl) (by kernel_rfl) (by kernel_rfl) n base _ m (m ++ [kR j e f]) _ ?_ rfl
  show r88 (rt n) n m.length (kV j e f) (pt q 0) m = _
  obtain ⟨i, rfl⟩ : ∃ i, n = i + 1 := ⟨n - 1, by omega⟩
  have hql := (List.getElem?_eq_some_iff.1 hq).1
  have h1 : (m ++ [kR j e f])[m.length]? = some (cellR [vi (kindT j).1, vi (kindT j).2.1, vi (kindT j).2.2.1, vi (kindT j).2.2.2, vi e, vi f]) := by simp [kR]
  have h2 : (m ++ [kR j e f])[q]? = some (cellR [vi (k : Int)]) := by rw [List.getElem?_append_left hql]; exact hq
  unfold r88
  rw [k1_fun, fVal_fun, kV_eq, bxa6, k2s, show (cellR [vi (kindT j).1, vi (kindT j).2.1, vi (kindT j).2.2.1, vi (kindT j).2.2.2, vi e, vi f]) = kR j e f from rfl, ldb50 h1, k1s, t81 i _ (by omega), kB_same, kcs, ld3, box_cell h2 0 _ rfl, k1s, eql3, k1s]
  have : decide (koV ((kindT j).1, (kindT j).2.1, (kindT j).2.2.1, (kindT j).2.2.2) = (k : Int)) = decide (j = k) := by
    rw [show ((kindT j).1, (kindT j).2.1, (kindT j).2.2.1, (kindT j).2.2.2) = kindT j from rfl, koV_kind j hj]
    exact decide_eq_decide.2 (by omega)
  rw [this]
theorem r87_L0_s (call : CallF) (fuel base : Nat) (kp : Value → M → Res2) (kr : Value → M → Res2) (kx0 : M → Res2) (n : Nat) (x0 x1 x7 x8 : Value) (m : M) : r87_L0 call fuel base kp kr kx0 (n + 1) x0 x1 x7 x8 m =
    (k1n (mbin E .lss 3 x8 x7) fun v9_2 => (kb v9_2 (k1n (mindexAddr E.P 30 x0 x8) fun v14_3 => (k1n (xload E.P m 50 v14_3) fun v15_4 => (kc (kv call base x1 [v15_4] m) (fun v16_5 m => (kb v16_5 (kr x8 m) (k1n (mbin E .add 3 x8 (.int .i64 1)) fun v18_6 => (r87_L0 call fuel base kp kr kx0 n x0 x1 x7 v18_6 m)))) (fun v m => kp v m)))) (kx0 m))) := by
  unfold r87_L0
  rw [k1_fun]
theorem loop87 (call : CallF) (fuel base : Nat) (kp : Value → M → Res2) (kr : Value → M → Res2) (kx : M → Res2) {m : M} {s fv : Value} {L : List Mv} (hs : Mvs m s L) (hL : L.length ≤ 100) {P : Nat → Bool}
    (hcall : ∀ (j : Nat) (h : j < L.length), kv call base fv [kV L[j].1 L[j].2.1 L[j].2.2] m = some (.ret (.bool (P j)), m)) :
    ∀ (k n j : Nat), k < n → j + k = L.length → r87_L0 call fuel base kp kr kx n s fv (vi (L.length : Int)) (vi (j : Int)) m = match fstO P k j with
      | some i => kr (vi (i : Int)) m
      | none => kx m
  | _, 0, j, hk, hj => by omega
  | 0, n + 1, j, hk, hj => by
    rw [r87_L0_s, lss_nat, k1s, decide_eq_false (by omega), kbf]
    rfl
  | k + 1, n + 1, j, hk, hj => by
    rw [r87_L0_s, lss_nat, k1s, decide_eq_true (by omega), kbt, hs.get (by omega : j < L.length), hcall j (by omega), kcs]
    unfold fstO
    cases P j with
    | true => rfl
    | false =>
      rw [kbf, add1 j (by omega), k1s, loop87 call fuel base kp kr kx hs hL hcall k n (j + 1) (by omega) (by omega)]
      rfl
theorem t87 (n base : Nat) {m : M} {s fv : Value} {L : List Mv} (hs : Mvs m s L) (hL : L.length ≤ 100) (hn : L.length < n) {P : Nat → Bool}
    (hcall : ∀ (j : Nat) (h : j < L.length), kv (rt n) m.length fv [kV L[j].1 L[j].2.1 L[j].2.2] m = some (.ret (.bool (P j)), m)) :
    rt (n + 1) base 87 [s, fv] m = some (.ret (vi (match fstO P L.length 0 with
      | some i => (i : Int)
      | none => -1)), m) := by
  refine rt_pure (f := 87) (rf := rf87) (by kernel_rfl) (by kernel_rfl) (by kernel_rfl) n base _ m m _ ?_ rfl
  show r87 (rt n) n m.length s fv m = _
  unfold r87
  rw [fVal_fun, vcall_fun, hs.len30, k2s, i0, loop87 (rt n) n m.length _ _ _ hs hL hcall L.length n 0 hn (by omega)]
  cases fstO P L.length 0 <;> rfl
/-- The symmetry of a kind in a list. -/
def ofM : List Mv → Nat → Option (Nat × Nat)
  | [], _ => none
  | x :: L, k => if x.1 = k then some (x.2.1, x.2.2) else ofM L k
theorem ofM_fst {L : List Mv} {k : Nat} : ∀ (n j : Nat), j + n = L.length → match fstO (fun j => decide ((L.getD j (0, 0, 0)).1 = k)) n j with
    | some i => ∃ h : i < L.length, L[i].1 = k ∧ ofM (L.drop j) k = some (L[i].2.1, L[i].2.2)
    | none => ofM (L.drop j) k = none
  | 0, j, hj => by
    simp only [fstO]
    rw [List.drop_eq_nil_of_le (by omega)]
    rfl
  | n + 1, j, hj => by
    have hlt : j < L.length := by omega
    have hd : L.drop j = L[j] :: L.drop (j + 1) := List.drop_eq_getElem_cons hlt
    have hg : L.getD j (0, 0, 0) = L[j] := by simp [hlt]
    unfold fstO
    rw [hg, hd]
    by_cases h : L[j].1 = k
    · rw [decide_eq_true h]
      simp only [if_true]
      refine ⟨hlt, h, ?_⟩
      unfold ofM
      rw [if_pos h]
    · rw [decide_eq_false h]
      simp only [Bool.false_eq_true, if_false]
      have := ofM_fst (L := L) (k := k) n (j + 1) (by omega)
      unfold ofM
      rw [if_neg h]
      exact this
def ofV (k : Nat) : Option (Nat × Nat) → Value
  | some (e, f) => .tuple #[kV k e f, .bool true]
  | none => .tuple #[mV 0 0 0 0 0 0, .bool false]
theorem b50e : mbuild E.P 50 [] = some (mV 0 0 0 0 0 0) := by kernel_rfl
theorem gtrn (i : Nat) : decide ((i : Int) < 0) = false := decide_eq_false (by omega)
theorem t67 (n base : Nat) (hn : 30 ≤ n) {m : M} {v : Value} {g : Grp} (hg : GrpIn m v g) (ho : g.Ok) (k : Nat) : rt (n + 1) base 67 [v, vi (k : Int)] m = some (.ret (ofV k (ofM g.L k)), m) := by
  obtain ⟨s, rfl, hs, hform⟩ := hg
  suffices h : ∃ m1, r67 (rt n) n m.length (grpV g.A g.B g.D s) (vi (k : Int)) m = some (.ret (ofV k (ofM g.L k)), m1) by
    obtain ⟨m1, h⟩ := h
    exact rt_pure (f := 67) (rf := rf67) (by kernel_rfl) (by kernel_rfl) (by kernel_rfl) n base _ m m1 _ h (by cases ofM g.L k <;> rfl)
  obtain ⟨i, rfl⟩ : ∃ i, n = i + 2 := ⟨n - 2, by omega⟩
  unfold r67
  rw [k1_fun, bxa4, k2s, bx1, k2s, al50, k2s]
  generalize hz : (cellR [(.int .i64 0 : Value), .int .i64 0, .int .i64 0, .int .i64 0, .int .i64 0, .int .i64 0]) = z
  have hl1 : (m ++ [cellR [vi g.A, vi g.B, vi g.D, s]]).length = m.length + 1 := by simp
  have hl2 : ((m ++ [cellR [vi g.A, vi g.B, vi g.D, s]]) ++ [cellR [vi (k : Int)]]).length = m.length + 2 := by simp
  rw [hl1, hl2]
  generalize hm3 : (((m ++ [cellR [vi g.A, vi g.B, vi g.D, s]]) ++ [cellR [vi (k : Int)]]) ++ [z]) = m3
  have g0 : m3[m.length]? = some (cellR [vi g.A, vi g.B, vi g.D, s]) := by rw [← hm3]; simp
  have g1 : m3[m.length + 1]? = some (cellR [vi (k : Int)]) := by rw [← hm3]; simp
  have g2 : m3[m.length + 2]? = some (cellR [.int .i64 0, .int .i64 0, .int .i64 0, .int .i64 0, .int .i64 0, .int .i64 0]) := by rw [← hm3, hz]; simp
  have hk3 : Keeps m.length m m3 := by rw [← hm3, List.append_assoc, List.append_assoc]; exact Keeps.push _ _ (Nat.le_refl _) _
  have hs3 := hs.keeps hk3
  have hP := ofM_fst (L := g.L) (k := k) g.L.length 0 (by omega)
  rw [List.drop_zero] at hP
  have hcall : ∀ (j : Nat) (h : j < g.L.length), kv (rt (i + 1)) m3.length (.func (.func 88) #[] #[pt (m.length + 1) 0]) [kV g.L[j].1 g.L[j].2.1 g.L[j].2.2] m3 = some (.ret (.bool (decide ((g.L.getD j (0, 0, 0)).1 = k))), m3) := fun j h => by
    have hg : g.L.getD j (0, 0, 0) = g.L[j] := by simp [h]
    rw [hg]
    exact t88 i _ (by omega) g1 _ (ho.kind _ (List.getElem_mem h)) _ _
  have hlen := ho.len
  rw [ff70_1, k1s, ld30, box_cell g0 (0 + 3) _ rfl, k1s, t87 (i + 1) m.length hs3 (by omega) (by omega) hcall, kcs, show (.int .i64 0 : Value) = vi 0 from rfl, lss3, k1s]
  cases hf : fstO (fun j => decide ((g.L.getD j (0, 0, 0)).1 = k)) g.L.length 0 with
  | some t =>
    rw [hf] at hP
    obtain ⟨ht, hk1, hk2⟩ := hP
    simp only
    rw [gtrn, kbf, k1s, ld30, box_cell g0 (0 + 3) _ rfl, k1s, hs3.get ht, hk1, kV_eq, st50 (by omega) g2 rfl, kss, ml50 (List.getElem?_set_self (List.getElem?_eq_some_iff.1 g2).1), k0s, hk2]
    exact ⟨_, rfl⟩
  | none =>
    rw [hf] at hP
    simp only at hP ⊢
    rw [decide_eq_true (by omega), kbt, b50e, k1s, st50 (by omega) g2 rfl, kss, ml50 (List.getElem?_set_self (List.getElem?_eq_some_iff.1 g2).1), k0s, hP]
    exact ⟨_, rfl⟩
def homeX (g : Grp) (x : Int) : Int := x % (g.A : Int)
def homeY (g : Grp) (x y : Int) : Int := wr (y - wr (wr (Int.tdiv (wr (x - homeX g x)) (g.A : Int)) * g.B)) % (g.D : Int)
theorem t100 (n base : Nat) (hn : 3 ≤ n) {m : M} {v : Value} {g : Grp} (hg : GrpIn m v g) (ho : g.Ok) (x y : Int) : rt (n + 1) base 100 [v, cV x y] m = some (.ret (cV (homeX g x) (homeY g x y)), m) := by
  obtain ⟨s, rfl, hs, hform⟩ := hg
  suffices h : ∃ m1, r100 (rt n) n m.length (grpV g.A g.B g.D s) (cV x y) m = some (.ret (cV (homeX g x) (homeY g x y)), m1) by
    obtain ⟨m1, h⟩ := h
    exact rt_pure (f := 100) (rf := rf100) (by kernel_rfl) (by kernel_rfl) (by kernel_rfl) n base _ m m1 _ h rfl
  obtain ⟨i, rfl⟩ : ∃ i, n = i + 1 := ⟨n - 1, by omega⟩
  have a1 := ho.a1; have d1 := ho.d1; have a6 := ho.a6; have d6 := ho.d6
  unfold r100
  rw [k1_fun, fVal_fun, bxa4, k2s, bxa2, k2s, al103, k2s]
  generalize hz : (cellR [(.int .i64 0 : Value), .int .i64 0]) = z
  have hl1 : (m ++ [cellR [vi g.A, vi g.B, vi g.D, s]]).length = m.length + 1 := by simp
  have hl2 : ((m ++ [cellR [vi g.A, vi g.B, vi g.D, s]]) ++ [cellR [vi x, vi y]]).length = m.length + 2 := by simp
  rw [hl1, hl2]
  generalize hm3 : (((m ++ [cellR [vi g.A, vi g.B, vi g.D, s]]) ++ [cellR [vi x, vi y]]) ++ [z]) = m3
  have g0 : m3[m.length]? = some (cellR [vi g.A, vi g.B, vi g.D, s]) := by rw [← hm3]; simp
  have g1 : m3[m.length + 1]? = some (cellR [vi x, vi y]) := by rw [← hm3]; simp
  have g2 : m3[m.length + 2]? = some (cellR [.int .i64 0, .int .i64 0]) := by rw [← hm3, hz]; simp
  simp only [ff103_0, ff103_1, ff70_0, k1s, ff26_0, ff26_1, ff26_2, ld3, box_cell g0 (0 + 0 + 0) _ rfl, box_cell g0 (0 + 0 + 1) _ rfl, box_cell g0 (0 + 0 + 2) _ rfl, box_cell g1 (0 + 0) _ rfl, box_cell g1 (0 + 1) _ rfl]
  rw [t101 i _ _ _ _ (by omega) (by omega), kcs]
  simp only [ff103_0, ff103_1, ff70_0, k1s, ff26_0, ff26_1, ff26_2, ld3, box_cell g0 (0 + 0 + 0) _ rfl, box_cell g0 (0 + 0 + 1) _ rfl, box_cell g0 (0 + 0 + 2) _ rfl, box_cell g1 (0 + 0) _ rfl, box_cell g1 (0 + 1) _ rfl, sub3, mul3]
  rw [quo3 _ _ (by omega), k1s, mul3, k1s]
  simp only [sub3, k1s]
  rw [t101 i _ _ _ _ (by omega) (by omega), kcs, b103, k1s, st103 (by omega) g2 rfl, kss, ml103 (List.getElem?_set_self (List.getElem?_eq_some_iff.1 g2).1), k0s]
  exact ⟨_, rfl⟩
end Go.AM
namespace Go.AM
open Go Go.Proofs
theorem ex0 (a b : Value) : mextract 0 (.tuple #[a, b]) = some a := by kernel_rfl
theorem ex1 (a b : Value) : mextract 1 (.tuple #[a, b]) = some b := by kernel_rfl
end Go.AM
namespace Go.AM
open Go Go.Proofs
theorem e103 (a b c d : Int) : mbin E .eql 103 (cV a b) (cV c d) = some (.bool (decide ((a, b) = (c, d)))) := by
  have hq : mbin E .eql 103 (cV a b) (cV c d) = (match a == c with
    | true => (match b == d with
      | true => some true
      | false => some false)
    | false => some false).map .bool := by kernel_rfl
  rw [hq]
  by_cases h1 : a = c
  · subst h1
    by_cases h2 : b = d
    · subst h2; simp
    · simp [beq_false_of_ne h2, h2]
  · simp [beq_false_of_ne h1, h1]
theorem b103e : mbuild E.P 103 [] = some (cV 0 0) := by kernel_rfl
/-- Is a move of a kind a symmetry? -/
def hasF (g : Grp) (k : Nat) (x y : Int) : Bool := match ofM g.L k with
  | some (e, f) => decide ((homeX g (wr (x - e)), homeY g (wr (x - e)) (wr (y - f))) = (0, 0))
  | none => false
theorem t110 (n base : Nat) (hn : 40 ≤ n) {m : M} {v : Value} {g : Grp} (hg : GrpIn m v g) (ho : g.Ok) (k : Nat) (hk : k < 8) (x y : Int) : rt (n + 1) base 110 [v, kV k x y] m = some (.ret (.bool (hasF g k x y)), m) := by
  have hg0 := hg
  obtain ⟨s, rfl, hs, hform⟩ := hg
  suffices h : ∃ m1, r110 (rt n) n m.length (grpV g.A g.B g.D s) (kV k x y) m = some (.ret (.bool (hasF g k x y)), m1) by
    obtain ⟨m1, h⟩ := h
    exact rt_pure (f := 110) (rf := rf110) (by kernel_rfl) (by kernel_rfl) (by kernel_rfl) n base _ m m1 _ h rfl
  obtain ⟨i, rfl⟩ : ∃ i, n = i + 1 := ⟨n - 1, by omega⟩
  unfold r110
  rw [k1_fun, fVal_fun, bxa4, k2s, kV_eq, bxa6, k2s]
  have hl1 : (m ++ [cellR [vi g.A, vi g.B, vi g.D, s]]).length = m.length + 1 := by simp
  rw [hl1]
  generalize hm2 : ((m ++ [cellR [vi g.A, vi g.B, vi g.D, s]]) ++ [cellR [vi (kindT k).1, vi (kindT k).2.1, vi (kindT k).2.2.1, vi (kindT k).2.2.2, vi x, vi y]]) = m2
  have hl2 : m2.length = m.length + 2 := by rw [← hm2]; simp
  have g0 : m2[m.length]? = some (cellR [vi g.A, vi g.B, vi g.D, s]) := by rw [← hm2]; simp
  have g1 : m2[m.length + 1]? = some (cellR [vi (kindT k).1, vi (kindT k).2.1, vi (kindT k).2.2.1, vi (kindT k).2.2.2, vi x, vi y]) := by rw [← hm2]; simp
  have hk2 : Keeps m.length m m2 := by rw [← hm2, List.append_assoc]; exact Keeps.push _ _ (Nat.le_refl _) _
  have hg2 := hg0.keeps hk2
  rw [ldb70 g0, k1s, ldb50 g1, k1s, t81 i _ (by omega), kB_same, kcs, show koV ((kindT k).1, (kindT k).2.1, (kindT k).2.2.1, (kindT k).2.2.2) = (k : Int) from koV_kind k hk, t67 i _ (by omega) hg2 ho k, kB_same, kcs]
  unfold hasF
  have hz : (m2 ++ [cellR [(.int .i64 0 : Value), .int .i64 0, .int .i64 0, .int .i64 0, .int .i64 0, .int .i64 0]])[m2.length]? = some (cellR [.int .i64 0, .int .i64 0, .int .i64 0, .int .i64 0, .int .i64 0, .int .i64 0]) := by simp
  cases hof : ofM g.L k with
  | none =>
    rw [show ofV k none = (.tuple #[mV 0 0 0 0 0 0, .bool false] : Value) from rfl, ex0, k1s, ex1, k1s, al50, k2s, st50 (by omega) hz rfl, kss, kbf]
    exact ⟨_, rfl⟩
  | some ef =>
    obtain ⟨e, f⟩ := ef
    rw [show ofV k (some (e, f)) = (.tuple #[kV k e f, .bool true] : Value) from rfl, ex0, k1s, ex1, k1s, al50, k2s, kV_eq, st50 (by omega) hz rfl, kss, kbt]
    generalize hm3 : (m2 ++ [cellR [(.int .i64 0 : Value), .int .i64 0, .int .i64 0, .int .i64 0, .int .i64 0, .int .i64 0]]).set m2.length (cellR [vi (kindT k).1, vi (kindT k).2.1, vi (kindT k).2.2.1, vi (kindT k).2.2.2, vi (e : Int), vi (f : Int)]) = m3
    have hk3 : Keeps m2.length m2 m3 := by rw [← hm3]; exact (Keeps.push _ _ (Nat.le_refl _) _).trans (Keeps.set _ _ _ _ (Nat.le_refl _))
    have q0 : m3[m.length]? = some (cellR [vi g.A, vi g.B, vi g.D, s]) := (hk3.2 _ (by omega)).trans g0
    have q1 : m3[m.length + 1]? = some (cellR [vi (kindT k).1, vi (kindT k).2.1, vi (kindT k).2.2.1, vi (kindT k).2.2.2, vi x, vi y]) := (hk3.2 _ (by omega)).trans g1
    have q2 : m3[m2.length]? = some (cellR [vi (kindT k).1, vi (kindT k).2.1, vi (kindT k).2.2.1, vi (kindT k).2.2.2, vi (e : Int), vi (f : Int)]) := by rw [← hm3]; exact List.getElem?_set_self (by simp)
    rw [ldb70 q0, k1s]
    simp only [ff50_4, ff50_5, k1s, ld3, box_cell q1 (0 + 4) _ rfl, box_cell q1 (0 + 5) _ rfl, box_cell q2 (0 + 4) _ rfl, box_cell q2 (0 + 5) _ rfl, sub3]
    rw [b103, k1s, t100 i _ (by omega) (hg2.keeps hk3) ho, kcs, b103e, k1s, e103, k1s]
    exact ⟨_, rfl⟩
theorem ixg (k : Nat) (hk : k < 8) (m : M) (K : Value → Res2) : (k1n (mindexAddr E.P 92 (.pointer (some ⟨0, 0, some 0⟩)) (vi (k : Int))) fun a => k1n (xload E.P m 50 a) K) = K (kV k 0 0) := by
  have c0 : (k1n (mindexAddr E.P 92 (.pointer (some ⟨0, 0, some 0⟩)) (vi ((0 : Nat) : Int))) fun a => k1n (xload E.P m 50 a) K) = K (kV 0 0 0) := by
    have h1 : mindexAddr E.P 92 (.pointer (some ⟨0, 0, some 0⟩)) (vi ((0 : Nat) : Int)) = some (.pointer (some ⟨0, 0, some 0⟩)) := by kernel_rfl
    have h2 : xload E.P m 50 (.pointer (some ⟨0, 0, some 0⟩)) = some (kV 0 0 0) := by kernel_rfl
    rw [h1, k1s, h2, k1s]
  have c1 : (k1n (mindexAddr E.P 92 (.pointer (some ⟨0, 0, some 0⟩)) (vi ((1 : Nat) : Int))) fun a => k1n (xload E.P m 50 a) K) = K (kV 1 0 0) := by
    have h1 : mindexAddr E.P 92 (.pointer (some ⟨0, 0, some 0⟩)) (vi ((1 : Nat) : Int)) = some (.pointer (some ⟨0, 6, some 0⟩)) := by kernel_rfl
    have h2 : xload E.P m 50 (.pointer (some ⟨0, 6, some 0⟩)) = some (kV 1 0 0) := by kernel_rfl
    rw [h1, k1s, h2, k1s]
  have c2 : (k1n (mindexAddr E.P 92 (.pointer (some ⟨0, 0, some 0⟩)) (vi ((2 : Nat) : Int))) fun a => k1n (xload E.P m 50 a) K) = K (kV 2 0 0) := by
    have h1 : mindexAddr E.P 92 (.pointer (some ⟨0, 0, some 0⟩)) (vi ((2 : Nat) : Int)) = some (.pointer (some ⟨0, 12, some 0⟩)) := by kernel_rfl
    have h2 : xload E.P m 50 (.pointer (some ⟨0, 12, some 0⟩)) = some (kV 2 0 0) := by kernel_rfl
    rw [h1, k1s, h2, k1s]
  have c3 : (k1n (mindexAddr E.P 92 (.pointer (some ⟨0, 0, some 0⟩)) (vi ((3 : Nat) : Int))) fun a => k1n (xload E.P m 50 a) K) = K (kV 3 0 0) := by
    have h1 : mindexAddr E.P 92 (.pointer (some ⟨0, 0, some 0⟩)) (vi ((3 : Nat) : Int)) = some (.pointer (some ⟨0, 18, some 0⟩)) := by kernel_rfl
    have h2 : xload E.P m 50 (.pointer (some ⟨0, 18, some 0⟩)) = some (kV 3 0 0) := by kernel_rfl
    rw [h1, k1s, h2, k1s]
  have c4 : (k1n (mindexAddr E.P 92 (.pointer (some ⟨0, 0, some 0⟩)) (vi ((4 : Nat) : Int))) fun a => k1n (xload E.P m 50 a) K) = K (kV 4 0 0) := by
    have h1 : mindexAddr E.P 92 (.pointer (some ⟨0, 0, some 0⟩)) (vi ((4 : Nat) : Int)) = some (.pointer (some ⟨0, 24, some 0⟩)) := by kernel_rfl
    have h2 : xload E.P m 50 (.pointer (some ⟨0, 24, some 0⟩)) = some (kV 4 0 0) := by kernel_rfl
    rw [h1, k1s, h2, k1s]
  have c5 : (k1n (mindexAddr E.P 92 (.pointer (some ⟨0, 0, some 0⟩)) (vi ((5 : Nat) : Int))) fun a => k1n (xload E.P m 50 a) K) = K (kV 5 0 0) := by
    have h1 : mindexAddr E.P 92 (.pointer (some ⟨0, 0, some 0⟩)) (vi ((5 : Nat) : Int)) = some (.pointer (some ⟨0, 30, some 0⟩)) := by kernel_rfl
    have h2 : xload E.P m 50 (.pointer (some ⟨0, 30, some 0⟩)) = some (kV 5 0 0) := by kernel_rfl
    rw [h1, k1s, h2, k1s]
  have c6 : (k1n (mindexAddr E.P 92 (.pointer (some ⟨0, 0, some 0⟩)) (vi ((6 : Nat) : Int))) fun a => k1n (xload E.P m 50 a) K) = K (kV 6 0 0) := by
    have h1 : mindexAddr E.P 92 (.pointer (some ⟨0, 0, some 0⟩)) (vi ((6 : Nat) : Int)) = some (.pointer (some ⟨0, 36, some 0⟩)) := by kernel_rfl
    have h2 : xload E.P m 50 (.pointer (some ⟨0, 36, some 0⟩)) = some (kV 6 0 0) := by kernel_rfl
    rw [h1, k1s, h2, k1s]
  have c7 : (k1n (mindexAddr E.P 92 (.pointer (some ⟨0, 0, some 0⟩)) (vi ((7 : Nat) : Int))) fun a => k1n (xload E.P m 50 a) K) = K (kV 7 0 0) := by
    have h1 : mindexAddr E.P 92 (.pointer (some ⟨0, 0, some 0⟩)) (vi ((7 : Nat) : Int)) = some (.pointer (some ⟨0, 42, some 0⟩)) := by kernel_rfl
    have h2 : xload E.P m 50 (.pointer (some ⟨0, 42, some 0⟩)) = some (kV 7 0 0) := by kernel_rfl
    rw [h1, k1s, h2, k1s]
  match k, hk with
  | 0, _ => exact c0
  | 1, _ => exact c1
  | 2, _ => exact c2
  | 3, _ => exact c3
  | 4, _ => exact c4
  | 5, _ => exact c5
  | 6, _ => exact c6
  | 7, _ => exact c7
def mtX (k : Nat) (x y : Int) : Int := wr (x - tkX (kindT k).1 (kindT k).2.1 0 x y)
def mtY (k : Nat) (x y : Int) : Int := wr (y - tkX (kindT k).2.2.1 (kindT k).2.2.2 0 x y)
theorem t109 (n base : Nat) (hn : 3 ≤ n) (m : M) (k : Nat) (hk : k < 8) (x y : Int) : rt (n + 1) base 109 [vi (k : Int), cV x y] m = some (.ret (.tuple #[kV k (wr (Int.tdiv (mtX k x y) 2)) (wr (Int.tdiv (mtY k x y) 2)), .bool (decide (Int.tmod (mtX k x y) 2 = 0))]), m) := by
  suffices h : ∃ m1, r109 (rt n) n m.length (vi (k : Int)) (cV x y) m = some (.ret (.tuple #[kV k (wr (Int.tdiv (mtX k x y) 2)) (wr (Int.tdiv (mtY k x y) 2)), .bool (decide (Int.tmod (mtX k x y) 2 = 0))]), m1) by
    obtain ⟨m1, h⟩ := h
    exact rt_pure (f := 109) (rf := rf109) (by kernel_rfl) (by kernel_rfl) (by kernel_rfl) n base _ m m1 _ h rfl
  obtain ⟨i, rfl⟩ : ∃ i, n = i + 1 := ⟨n - 1, by omega⟩
  unfold r109
  rw [k1_fun, bxa2, k2s, al50, k2s, ixg k hk]
  generalize hz : (cellR [(.int .i64 0 : Value), .int .i64 0, .int .i64 0, .int .i64 0, .int .i64 0, .int .i64 0]) = z
  have hl1 : (m ++ [cellR [vi x, vi y]]).length = m.length + 1 := by simp
  have g0' : ((m ++ [cellR [vi x, vi y]]) ++ [z])[m.length]? = some (cellR [vi x, vi y]) := by simp
  rw [hl1, ldb103 g0', k1s, kV_eq, t79, kB_same, kcs, al103, k2s]
  generalize hz2 : (cellR [(.int .i64 0 : Value), .int .i64 0]) = z2
  have hl2 : ((m ++ [cellR [vi x, vi y]]) ++ [z]).length = m.length + 2 := by simp
  rw [hl2]
  generalize hm3 : (((m ++ [cellR [vi x, vi y]]) ++ [z]) ++ [z2]) = m3
  have g0 : m3[m.length]? = some (cellR [vi x, vi y]) := by rw [← hm3]; simp
  have g1 : m3[m.length + 1]? = some (cellR [.int .i64 0, .int .i64 0, .int .i64 0, .int .i64 0, .int .i64 0, .int .i64 0]) := by rw [← hm3, hz]; simp
  have g2 : m3[m.length + 2]? = some (cellR [.int .i64 0, .int .i64 0]) := by rw [← hm3, hz2]; simp
  have l2 := (List.getElem?_eq_some_iff.1 g2).1
  rw [st103 (by omega) g2 rfl, kss]
  generalize hm4 : m3.set (m.length + 2) (cellR [vi (wr (wr (wr ((kindT k).1 * x) + wr ((kindT k).2.1 * y)) + 0)), vi (wr (wr (wr ((kindT k).2.2.1 * x) + wr ((kindT k).2.2.2 * y)) + 0))]) = m4
  have q0 : m4[m.length]? = some (cellR [vi x, vi y]) := by rw [← hm4, List.getElem?_set_ne (by omega)]; exact g0
  have q1 : m4[m.length + 1]? = some (cellR [.int .i64 0, .int .i64 0, .int .i64 0, .int .i64 0, .int .i64 0, .int .i64 0]) := by rw [← hm4, List.getElem?_set_ne (by omega)]; exact g1
  have q2 : m4[m.length + 2]? = some (cellR [vi (tkX (kindT k).1 (kindT k).2.1 0 x y), vi (tkX (kindT k).2.2.1 (kindT k).2.2.2 0 x y)]) := by rw [← hm4]; exact List.getElem?_set_self l2
  simp only [ff103_0, ff103_1, k1s, ld3, box_cell q0 (0 + 0) _ rfl, box_cell q0 (0 + 1) _ rfl, box_cell q2 (0 + 0) _ rfl, box_cell q2 (0 + 1) _ rfl, sub3]
  rw [show (.int .i64 2 : Value) = vi 2 from rfl, show (.int .i64 0 : Value) = vi 0 from rfl, quo3 _ _ (by omega), k1s, quo3 _ _ (by omega), k1s, t64 i _ k hk, kcs, rem3 _ _ (by omega), k1s, eql3, k1s, kV_eq, st50 (by omega) q1 rfl, kss, ml50 (List.getElem?_set_self (List.getElem?_eq_some_iff.1 q1).1), k0s]
  exact ⟨_, rfl⟩
/-- Is there a mirror of a kind through a point (its coordinates doubled)? -/
def hm (g : Grp) (k : Nat) (x y : Int) : Bool := decide (Int.tmod (mtX k x y) 2 = 0) && hasF g k (wr (Int.tdiv (mtX k x y) 2)) (wr (Int.tdiv (mtY k x y) 2))
theorem t105 (n base : Nat) (hn : 50 ≤ n) {m : M} {v : Value} {g : Grp} (hg : GrpIn m v g) (ho : g.Ok) (k : Nat) (hk : k < 8) (x y : Int) : rt (n + 1) base 105 [v, vi (k : Int), cV x y] m = some (.ret (.bool (hm g k x y)), m) := by
  have hg0 := hg
  obtain ⟨s, rfl, hs, hform⟩ := hg
  suffices h : ∃ m1, r105 (rt n) n m.length (grpV g.A g.B g.D s) (vi (k : Int)) (cV x y) m = some (.ret (.bool (hm g k x y)), m1) by
    obtain ⟨m1, h⟩ := h
    exact rt_pure (f := 105) (rf := rf105) (by kernel_rfl) (by kernel_rfl) (by kernel_rfl) n base _ m m1 _ h rfl
  obtain ⟨i, rfl⟩ : ∃ i, n = i + 1 := ⟨n - 1, by omega⟩
  unfold r105
  rw [k1_fun, fVal_fun, bxa4, k2s, bxa2, k2s]
  have hl1 : (m ++ [cellR [vi g.A, vi g.B, vi g.D, s]]).length = m.length + 1 := by simp
  rw [hl1]
  generalize hm2 : ((m ++ [cellR [vi g.A, vi g.B, vi g.D, s]]) ++ [cellR [vi x, vi y]]) = m2
  have hl2 : m2.length = m.length + 2 := by rw [← hm2]; simp
  have g0 : m2[m.length]? = some (cellR [vi g.A, vi g.B, vi g.D, s]) := by rw [← hm2]; simp
  have g1 : m2[m.length + 1]? = some (cellR [vi x, vi y]) := by rw [← hm2]; simp
  have hk2 : Keeps m.length m m2 := by rw [← hm2, List.append_assoc]; exact Keeps.push _ _ (Nat.le_refl _) _
  have hg2 := hg0.keeps hk2
  have hz : (m2 ++ [cellR [(.int .i64 0 : Value), .int .i64 0, .int .i64 0, .int .i64 0, .int .i64 0, .int .i64 0]])[m2.length]? = some (cellR [.int .i64 0, .int .i64 0, .int .i64 0, .int .i64 0, .int .i64 0, .int .i64 0]) := by simp
  rw [ldb103 g1, k1s, t109 i _ (by omega) _ k hk, kcs, ex0, k1s, ex1, k1s, al50, k2s, kV_eq, st50 (by omega) hz rfl, kss]
  unfold hm
  generalize hm3 : (m2 ++ [cellR [(.int .i64 0 : Value), .int .i64 0, .int .i64 0, .int .i64 0, .int .i64 0, .int .i64 0]]).set m2.length (cellR [vi (kindT k).1, vi (kindT k).2.1, vi (kindT k).2.2.1, vi (kindT k).2.2.2, vi (wr (Int.tdiv (mtX k x y) 2)), vi (wr (Int.tdiv (mtY k x y) 2))]) = m3
  have hk3 : Keeps m2.length m2 m3 := by rw [← hm3]; exact (Keeps.push _ _ (Nat.le_refl _) _).trans (Keeps.set _ _ _ _ (Nat.le_refl _))
  have q0 : m3[m.length]? = some (cellR [vi g.A, vi g.B, vi g.D, s]) := (hk3.2 _ (by omega)).trans g0
  have q2 : m3[m2.length]? = some (cellR [vi (kindT k).1, vi (kindT k).2.1, vi (kindT k).2.2.1, vi (kindT k).2.2.2, vi (wr (Int.tdiv (mtX k x y) 2)), vi (wr (Int.tdiv (mtY k x y) 2))]) := by rw [← hm3]; exact List.getElem?_set_self (by simp)
  cases hd : decide (Int.tmod (mtX k x y) 2 = 0) with
  | true =>
    rw [kbt, ldb70 q0, k1s, ldb50 q2, k1s]
    show ∃ m1, kc (rt (i + 1) m.length 110 [grpV g.A g.B g.D s, kV k (wr (Int.tdiv (mtX k x y) 2)) (wr (Int.tdiv (mtY k x y) 2))] m3) _ _ = _
    rw [t110 i _ (by omega) (hg2.keeps hk3) ho k hk, kcs]
    exact ⟨_, rfl⟩
  | false =>
    rw [kbf]
    exact ⟨_, rfl⟩
theorem t104 (n base : Nat) (hn : 60 ≤ n) {m : M} {v : Value} {g : Grp} (hg : GrpIn m v g) (ho : g.Ok) (k : Nat) (hk : k < 8) {x y : Int} {q1 q2 : Nat} (h1 : ∃ s, v = grpV g.A g.B g.D s ∧ m[q1]? = some (cellR [vi g.A, vi g.B, vi g.D, s])) (h2 : m[q2]? = some (cellR [vi x, vi y])) :
    rt (n + 1) base 104 [vi (k : Int), pt q1 0, pt q2 0] m = some (.ret (.bool (hm g k x y)), m) := by
  obtain ⟨s, hv, h1⟩ := h1
  refine rt_pure (f := 104) (rf := rf104) (by kernel_rfl) (by kernel_rfl) (by kernel_rfl) n base _ m m _ ?_ rfl
  show r104 (rt n) n m.length (vi (k : Int)) (pt q1 0) (pt q2 0) m = _
  obtain ⟨i, rfl⟩ : ∃ i, n = i + 1 := ⟨n - 1, by omega⟩
  unfold r104
  rw [k1_fun, fVal_fun, ldb70 h1, k1s, ldb103 h2, k1s]
  show kc (rt (i + 1) m.length 105 [grpV g.A g.B g.D s, vi (k : Int), cV x y] m) _ _ = _
  rw [← hv, t105 i _ (by omega) hg ho k hk, kcs]
theorem t106 (n base : Nat) (hn : 60 ≤ n) {m : M} {v : Value} {g : Grp} (hg : GrpIn m v g) (ho : g.Ok) (k : Nat) (hk : k < 8) {x y : Int} {q1 q2 : Nat} (h1 : ∃ s, v = grpV g.A g.B g.D s ∧ m[q1]? = some (cellR [vi g.A, vi g.B, vi g.D, s])) (h2 : m[q2]? = some (cellR [vi (k : Int)])) :
    rt (n + 1) base 106 [cV x y, pt q1 0, pt q2 0] m = some (.ret (.bool (hm g k x y)), m) := by
  obtain ⟨s, hv, h1⟩ := h1
  refine rt_pure (f := 106) (rf := rf106) (by kernel_rfl) (by kernel_rfl) (by kernel_rfl) n base _ m (m ++ [cellR [vi x, vi y]]) _ ?_ rfl
  show r106 (rt n) n m.length (cV x y) (pt q1 0) (pt q2 0) m = _
  obtain ⟨i, rfl⟩ : ∃ i, n = i + 1 := ⟨n - 1, by omega⟩
  have l1 := (List.getElem?_eq_some_iff.1 h1).1
  have l2 := (List.getElem?_eq_some_iff.1 h2).1
  have p1 : (m ++ [cellR [vi x, vi y]])[q1]? = some (cellR [vi g.A, vi g.B, vi g.D, s]) := by rw [List.getElem?_append_left l1]; exact h1
  have p2 : (m ++ [cellR [vi x, vi y]])[q2]? = some (cellR [vi (k : Int)]) := by rw [List.getElem?_append_left l2]; exact h2
  have p3 : (m ++ [cellR [vi x, vi y]])[m.length]? = some (cellR [vi x, vi y]) := by simp
  unfold r106
  rw [k1_fun, fVal_fun, bxa2, k2s, ldb70 p1, k1s, ld3, box_cell p2 0 _ rfl, k1s, ldb103 p3, k1s]
  show kc (rt (i + 1) m.length 105 [grpV g.A g.B g.D s, vi (k : Int), cV x y] (m ++ [cellR [vi x, vi y]])) _ _ = _
  rw [← hv, t105 i _ (by omega) (hg.app _) ho k hk, kcs]
end Go.AM
