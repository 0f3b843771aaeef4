import Derived.KernelRfl
import Derived.Laws.BytesArg
import Derived.Laws.StructEq
import Derived.Test.YtnmdpolgbdkffaaDoorRows
import Derived.WalkKit
import Derived.Test.YtnmdpolgbdkffaaDoorAmB
import Derived.Test.YtnmdpolgbdkffaaDoorAmModel
import Derived.Test.YtnmdpolgbdkffaaDoorAmOps6
import Derived.Test.YtnmdpolgbdkffaaDoorAmCode
import Derived.Test.YtnmdpolgbdkffaaDoorAmK2
import Derived.Test.YtnmdpolgbdkffaaDoorAmEq
import Derived.Test.YtnmdpolgbdkffaaDoorRBase
import Derived.Test.YtnmdpolgbdkffaaDoorR69
import Derived.Test.YtnmdpolgbdkffaaDoorAmS
import Derived.Test.YtnmdpolgbdkffaaDoorS11
import Derived.Test.YtnmdpolgbdkffaaDoorFL
set_option linter.unusedVariables false
set_option linter.unusedSimpArgs false
set_option linter.unusedSectionVars false
namespace Go.AM
open Go Go.Proofs
structure Pat (l : List ByteArray) : Prop where
  h1 : 1 ≤ l.length
  h6 : l.length ≤ 6
  w1 : 1 ≤ wid l
  w6 : wid l ≤ 6
  row : ∀ j, j < l.length → (str l j).size = wid l ∧ okRow (str l j) = true
theorem isP_iff {l : List ByteArray} : isP l = true ↔ Pat l := by
  unfold isP
  simp only [Bool.and_eq_true, decide_eq_true_eq, allFrom_iff, Nat.zero_add, okLine]
  constructor
  · rintro ⟨a, b, c, d, e⟩
    exact ⟨a, b, c, d, fun j hj => e j (Nat.zero_le _) hj⟩
  · rintro ⟨a, b, c, d, e⟩
    exact ⟨a, b, c, d, fun j _ hj => e j hj⟩
theorem wr_small {n : Int} (h0 : -1000000000000 ≤ n) (h1 : n ≤ 1000000000000) : wr n = n := wr_id (by omega) (by omega)
theorem tmod_md (a n : Int) (h1 : 1 ≤ n) (h2 : n ≤ 1000000) : (wr (a.tmod n + n)).tmod n = a % n ∧ 0 ≤ a % n ∧ a % n < n := by
  have hb := Int.emod_nonneg a (by omega : n ≠ 0)
  have hc := Int.emod_lt_of_pos a (by omega : 0 < n)
  have e : a.tmod n = if 0 ≤ a ∨ n ∣ a then a % n else a % n - n := by
    rw [Int.tmod_eq_emod]
    split
    · omega
    · rw [Int.natAbs_of_nonneg (by omega)]
  refine ⟨?_, hb, hc⟩
  rw [e]
  split
  · rw [wr_small (by omega) (by omega), Int.tmod_eq_emod_of_nonneg (by omega), Int.add_emod_right, Int.emod_emod_of_dvd _ (Int.dvd_refl n)]
  · rw [show a % n - n + n = a % n by omega, wr_small (by omega) (by omega), Int.tmod_eq_emod_of_nonneg hb, Int.emod_emod_of_dvd _ (Int.dvd_refl n)]
theorem t101 (n base : Nat) (m : M) (a b : Int) (h1 : 1 ≤ b) (h2 : b ≤ 1000000) : rt (n + 1) base 101 [vi a, vi b] m = some (.ret (vi (a % b)), m) := by
  refine rt_pure (f := 101) (rf := rf101) (by kernel_rfl) (by kernel_rfl) (by kernel_rfl) n base _ m m _ ?_ rfl
  show r101 (rt n) n m.length (vi a) (vi b) m = _
  unfold r101
  rw [k1_fun, fVal_fun, rem3 _ _ (by omega), k1s, add3, k1s, rem3 _ _ (by omega), k1s, (tmod_md a b h1 h2).1]
theorem t77 (n base : Nat) (m : M) (a b : Int) (h1 : 1 ≤ b) (h2 : b ≤ 1000000) : rt (n + 1) base 77 [vi a, vi b] m = some (.ret (vi (a % b)), m) := by
  refine rt_pure (f := 77) (rf := rf77) (by kernel_rfl) (by kernel_rfl) (by kernel_rfl) n base _ m m _ ?_ rfl
  show r77 (rt n) n m.length (vi a) (vi b) m = _
  unfold r77
  rw [k1_fun, fVal_fun, rem3 _ _ (by omega), k1s, add3, k1s, rem3 _ _ (by omega), k1s, (tmod_md a b h1 h2).1]
/-- The colour of a cell of the floor. -/
def colr (l : List ByteArray) (x y : Int) : Nat := byt (str l (y % (l.length : Int)).toNat) (x % (wid l : Int)).toNat
theorem Pat.ix {l : List ByteArray} (h : Pat l) (x y : Int) : (y % (l.length : Int)).toNat < l.length ∧ (x % (wid l : Int)).toNat < wid l ∧ ((y % (l.length : Int)).toNat : Int) = y % (l.length : Int) ∧ ((x % (wid l : Int)).toNat : Int) = x % (wid l : Int) := by
  have a := h.h1
  have b := h.w1
  have p1 := Int.emod_nonneg y (by omega : (l.length : Int) ≠ 0)
  have p2 := Int.emod_lt_of_pos y (by omega : (0 : Int) < l.length)
  have p3 := Int.emod_nonneg x (by omega : (wid l : Int) ≠ 0)
  have p4 := Int.emod_lt_of_pos x (by omega : (0 : Int) < wid l)
  omega
theorem t85 (n base : Nat) {m : M} {v : Value} {l : List ByteArray} (hv : Strs m v l) (hp : Pat l) (x y : Int) : rt (n + 2) base 85 [v, cV x y] m = some (.ret (.int .u8 (colr l x y)), m) := by
  refine rt_pure (f := 85) (rf := rf85) (by kernel_rfl) (by kernel_rfl) (by kernel_rfl) (n + 1) base _ m (m ++ [cellR [vi x, vi y]]) _ ?_ rfl
  show r85 (rt (n + 1)) (n + 1) m.length v (cV x y) m = _
  have hq : (m ++ [cellR [vi x, vi y]])[m.length]? = some (cellR [vi x, vi y]) := by simp
  have hv1 := hv.app [cellR [vi x, vi y]]
  obtain ⟨i1, i2, i3, i4⟩ := hp.ix x y
  have a1 := hp.h1; have a2 := hp.h6; have a3 := hp.w1; have a4 := hp.w6
  unfold r85
  rw [k1_fun, vcall_fun, fVal_fun, bxa2, k2s, ff103_1, k1s, ld3, box_cell hq 1 _ rfl, k1s, hv1.len66, k2s, t101 n _ _ _ _ (by omega) (by omega), kcs, ← i3, hv1.get66 i1, ff103_0, k1s, ld3, box_cell hq 0 _ rfl, k1s, len9, k2s, str_get i1, (hp.row _ i1).1, t101 n _ _ _ _ (by omega) (by omega), kcs, ← i4, byt_get _ _ (by rw [(hp.row _ i1).1]; exact i2), k1s]
  rfl
theorem t58 (n base : Nat) {m : M} {v : Value} {l : List ByteArray} (hv : Strs m v l) (hp : Pat l) (x y : Int) : rt (n + 2) base 58 [v, vi x, vi y] m = some (.ret (.int .u8 (colr l x y)), m) := by
  refine rt_pure (f := 58) (rf := rf58) (by kernel_rfl) (by kernel_rfl) (by kernel_rfl) (n + 1) base _ m m _ ?_ rfl
  show r58 (rt (n + 1)) (n + 1) m.length v (vi x) (vi y) m = _
  obtain ⟨i1, i2, i3, i4⟩ := hp.ix x y
  have a1 := hp.h1; have a2 := hp.h6; have a3 := hp.w1; have a4 := hp.w6
  unfold r58
  rw [k1_fun, vcall_fun, fVal_fun, hv.len22, k2s, t77 n _ _ _ _ (by omega) (by omega), kB_same, kcs, ← i3, hv.get i1, i0, hv.get (by omega : 0 < l.length), len9, k2s, str_get i1, str_get (by omega : 0 < l.length), str_zero (by omega), t77 n _ _ _ _ (by omega) (by omega), kB_same, kcs, ← i4, byt_get _ _ (by rw [(hp.row _ i1).1]; exact i2), k1s]
  rfl
theorem r33_L2_s (call : CallF) (fuel base : Nat) (kr : Value → M → Res2) (kx2 : Value → Value → M → Res2) (n : Nat) (x0 x3 x4 : Value) (m : M) : r33_L2 call fuel base kr kx2 (n + 1) x0 x3 x4 m =
    (k1n (mindexAddr E.P 22 x0 x3) fun v46_22 => (k1n (xload E.P m 9 v46_22) fun v47_23 => (k2 (vcalln E.P base m .len [9] [v47_23]) fun v48_24 m => (k1n (mbin E .lss 3 x4 v48_24) fun v49_25 => (kb v49_25 (k1n (mindexAddr E.P 22 x0 x3) fun v54_26 => (k1n (xload E.P m 9 v54_26) fun v55_27 => (k1n (mindex E.P 9 v55_27 x4) fun v57_28 => (k1n (mbin E .lss 5 v57_28 (.int .u8 97)) fun v58_29 => (kb v58_29 (kr (.bool false) m) (k1n (mindexAddr E.P 22 x0 x3) fun v62_30 => (k1n (xload E.P m 9 v62_30) fun v63_31 => (k1n (mindex E.P 9 v63_31 x4) fun v65_32 => (k1n (mbin E .gtr 5 v65_32 (.int .u8 100)) fun v66_33 => (kb v66_33 (kr (.bool false) m) (k1n (mbin E .add 3 x4 (.int .i64 1)) fun v51_34 => (r33_L2 call fuel base kr kx2 n x0 x3 v51_34 m)))))))))))) (kx2 x0 x3 m)))))) := by
  unfold r33_L2
  rw [k1_fun, vcall_fun]
theorem r33_L0_s (call : CallF) (fuel base : Nat) (kr : Value → M → Res2) (kx0 : M → Res2) (n : Nat) (x0 x3 : Value) (m : M) : r33_L0 call fuel base kr kx0 (n + 1) x0 x3 m =
    (k2 (vcalln E.P base m .len [22] [x0]) fun v29_13 m => (k1n (mbin E .lss 3 x3 v29_13) fun v30_14 => (kb v30_14 (k1n (mindexAddr E.P 22 x0 x3) fun v35_15 => (k1n (xload E.P m 9 v35_15) fun v36_16 => (k2 (vcalln E.P base m .len [9] [v36_16]) fun v37_17 m => (k1n (mindexAddr E.P 22 x0 (.int .i64 0)) fun v39_18 => (k1n (xload E.P m 9 v39_18) fun v40_19 => (k2 (vcalln E.P base m .len [9] [v40_19]) fun v41_20 m => (k1n (mbin E .neq 3 v37_17 v41_20) fun v42_21 => (kb v42_21 (kr (.bool false) m) (r33_L2 call fuel base (fun y2_35 m => (kr y2_35 m)) (fun y0_36 y3_37 m => (k1n (mbin E .add 3 y3_37 (.int .i64 1)) fun v32_38 => (r33_L0 call fuel base kr kx0 n y0_36 v32_38 m))) fuel x0 x3 (.int .i64 0) m))))))))) (kx0 m)))) := by
  unfold r33_L0
  rw [k1_fun, vcall_fun]
theorem loop33b (call : CallF) (fuel base : Nat) (kr : Value → M → Res2) (kx : Value → Value → M → Res2) {m : M} {v : Value} {l : List ByteArray} (hv : Strs m v l) {y : Nat} (hy : y < l.length) (hb : (str l y).size ≤ 1000000) :
    ∀ (n j : Nat), j ≤ (str l y).size → (str l y).size < n + j → r33_L2 call fuel base kr kx n v (vi y) (vi j) m = if allFrom (okc (str l y)) ((str l y).size - j) j then kx v (vi y) m else kr (.bool false) m
  | 0, j, hj, hn => by omega
  | n + 1, j, hj, hn => by
    rw [r33_L2_s, hv.get hy, len9, k2s, str_get hy, lss_nat, k1s]
    by_cases hlt : j < (str l y).size
    · rw [decide_eq_true hlt, kbt, hv.get hy, str_get hy, byt_get _ j hlt, k1s, lss5, k1s, show (str l y).size - j = ((str l y).size - (j + 1)) + 1 by omega]
      unfold allFrom okc
      by_cases h1 : 97 ≤ byt (str l y) j
      · rw [decide_eq_false (by omega), kbf, hv.get hy, str_get hy, byt_get _ j hlt, k1s, gtr5, k1s, decide_eq_true h1]
        by_cases h2 : byt (str l y) j ≤ 100
        · rw [decide_eq_false (by omega), kbf, add1 j (by omega), k1s, decide_eq_true h2, loop33b call fuel base kr kx hv hy hb n (j + 1) (by omega) (by omega)]
          rfl
        · rw [decide_eq_true (by omega), kbt, decide_eq_false h2]
          rfl
      · rw [decide_eq_true (by omega), kbt, decide_eq_false h1]
        rfl
    · rw [decide_eq_false hlt, kbf, show (str l y).size - j = 0 by omega]
      rfl
theorem loop33 (call : CallF) (fuel base : Nat) (hf : 10 ≤ fuel) (kr : Value → M → Res2) (kx : M → Res2) {m : M} {v : Value} {l : List ByteArray} (hv : Strs m v l) (hl : l.length ≤ 1000000) (hw : wid l ≤ 6) :
    ∀ (n j : Nat), j ≤ l.length → l.length < n + j → r33_L0 call fuel base kr kx n v (vi j) m = if allFrom (okLine l) (l.length - j) j then kx m else kr (.bool false) m
  | 0, j, hj, hn => by omega
  | n + 1, j, hj, hn => by
    rw [r33_L0_s, hv.len22, k2s, lss_nat, k1s]
    by_cases hlt : j < l.length
    · rw [decide_eq_true hlt, kbt, hv.get hlt, len9, k2s, i0, hv.get (by omega : 0 < l.length), len9, k2s, neq3, k1s, natdec, str_get hlt, str_get (by omega : 0 < l.length), str_zero (by omega), show l.length - j = (l.length - (j + 1)) + 1 by omega]
      unfold allFrom okLine
      by_cases h1 : (str l j).size = wid l
      · rw [decide_eq_true h1, Bool.not_true, kbf, loop33b call fuel base _ _ hv hlt (by omega) fuel 0 (by omega) (by omega), Nat.sub_zero]
        unfold okRow
        cases allFrom (okc (str l j)) (str l j).size 0 with
        | true =>
          simp only [if_true]
          rw [add1 j (by omega), k1s, loop33 call fuel base hf kr kx hv hl hw n (j + 1) (by omega) (by omega)]
          rfl
        | false => rfl
      · rw [decide_eq_false h1]
        rfl
    · rw [decide_eq_false hlt, kbf, show l.length - j = 0 by omega]
      rfl
theorem t33 (n base : Nat) (hn : 10 ≤ n) {m : M} {v : Value} {l : List ByteArray} (hv : Strs m v l) : rt (n + 1) base 33 [v] m = some (.ret (.bool (isP l)), m) := by
  refine rt_pure (f := 33) (rf := rf33) (by kernel_rfl) (by kernel_rfl) (by kernel_rfl) n base _ m m _ ?_ rfl
  show r33 (rt n) n m.length v m = _
  unfold r33
  rw [fVal_fun, k1_fun, vcall_fun, hv.len22, k2s, show (.int .i64 1 : Value) = vi 1 from rfl, show (.int .i64 6 : Value) = vi 6 from rfl, lss3, k1s]
  unfold isP
  by_cases h1 : 1 ≤ l.length
  · rw [decide_eq_false (by omega), kbf, hv.len22, k2s, gtr3, k1s, decide_eq_true h1]
    by_cases h2 : l.length ≤ 6
    · rw [decide_eq_false (by omega), kbf, i0, hv.get (by omega : 0 < l.length), str_get (by omega : 0 < l.length), len9, k2s, lss3, k1s, decide_eq_true h2, str_zero (by omega)]
      by_cases h3 : 1 ≤ wid l
      · rw [decide_eq_false (by omega), kbf, hv.get (by omega : 0 < l.length), str_get (by omega : 0 < l.length), len9, k2s, gtr3, k1s, decide_eq_true h3, str_zero (by omega)]
        by_cases h4 : wid l ≤ 6
        · rw [decide_eq_false (by omega), kbf, decide_eq_true h4]
          rw [loop33 _ _ _ hn _ _ hv (by omega) h4 n 0 (by omega) (by omega), Nat.sub_zero]
          cases allFrom (okLine l) l.length 0 <;> rfl
        · rw [decide_eq_true (by omega), decide_eq_false h4]
          rfl
      · rw [decide_eq_true (by omega), decide_eq_false h3]
        rfl
    · rw [decide_eq_true (by omega), decide_eq_false h2]
      rfl
  · rw [decide_eq_true (by omega), decide_eq_false h1]
    rfl
abbrev Q4 := Int × Int × Int × Int
def koN (q : Q4) : Nat → Nat → Option Nat
  | 0, _ => none
  | k + 1, j => if kindT j = q then some j else koN q k (j + 1)
def koV (q : Q4) : Int := match koN q 8 0 with
  | some j => (j : Int)
  | none => -1
theorem e50 (a b c d e f a2 b2 c2 d2 e2 f2 : Int) : mbin E .eql 50 (mV a b c d e f) (mV a2 b2 c2 d2 e2 f2) = some (.bool (decide ((a, b, c, d, e, f) = (a2, b2, c2, d2, e2, f2)))) := by
  have hq : mbin E .eql 50 (mV a b c d e f) (mV a2 b2 c2 d2 e2 f2) = (match a == a2 with
    | true => (match b == b2 with
      | true => (match c == c2 with
        | true => (match d == d2 with
          | true => (match e == e2 with
            | true => (match f == f2 with
              | true => some true
              | false => some false)
            | false => some false)
          | false => some false)
        | false => some false)
      | false => some false)
    | false => some false).map .bool := by kernel_rfl
  rw [hq]
  clear hq
  by_cases h1 : a = a2
  · by_cases h2 : b = b2
    · by_cases h3 : c = c2
      · by_cases h4 : d = d2
        · by_cases h5 : e = e2
          · by_cases h6 : f = f2
            · subst h1 h2 h3 h4 h5 h6; simp
            · subst h1 h2 h3 h4 h5; simp [beq_false_of_ne h6, h6]
          · subst h1 h2 h3 h4; simp [beq_false_of_ne h5, h5]
        · subst h1 h2 h3; simp [beq_false_of_ne h4, h4]
      · subst h1 h2; simp [beq_false_of_ne h3, h3]
    · subst h1; simp [beq_false_of_ne h2, h2]
  · simp [beq_false_of_ne h1, h1]
theorem r81_L0_s (call : CallF) (fuel base : Nat) (kr : Value → M → Res2) (kx0 : M → Res2) (n : Nat) (x1 x7 x8 : Value) (m : M) : r81_L0 call fuel base kr kx0 (n + 1) x1 x7 x8 m =
    (k1n (mbin E .lss 3 x8 (.int .i64 8)) fun v9_5 => (kb v9_5 (k1n (mindex E.P 92 x7 x8) fun v11_6 => (k2 (xalloc E.P m 50) fun v4_7 m => (ks (xstore E.P base m 50 v4_7 v11_6) fun m => (k1n (xload E.P m 50 x1) fun v12_8 => (k1n (xload E.P m 50 v4_7) fun v13_9 => (k1n (mbin E .eql 50 v12_8 v13_9) fun v14_10 => (kb v14_10 (kr x8 m) (k1n (mbin E .add 3 x8 (.int .i64 1)) fun v16_11 => (r81_L0 call fuel base kr kx0 n x1 x7 v16_11 m))))))))) (kx0 m))) := by
  unfold r81_L0
  rw [k1_fun]
theorem r35_L0_s (call : CallF) (fuel base : Nat) (kr : Value → M → Res2) (kx0 : M → Res2) (n : Nat) (x1 x3 : Value) (m : M) : r35_L0 call fuel base kr kx0 (n + 1) x1 x3 m =
    (k1n (mbin E .lss 3 x3 (.int .i64 8)) fun v7_4 => (kb v7_4 (kc (kB m (call m.length 61 [x3] m)) (fun v11_5 m => (k1n (xload E.P m 50 x1) fun v12_6 => (k1n (mbin E .eql 50 v11_5 v12_6) fun v13_7 => (kb v13_7 (kr x3 m) (k1n (mbin E .add 3 x3 (.int .i64 1)) fun v9_8 => (r35_L0 call fuel base kr kx0 n x1 v9_8 m)))))) (fun _ _ => none)) (kx0 m))) := by
  unfold r35_L0
  rw [k1_fun]
theorem kV_eq (k : Nat) (e f : Int) : kV k e f = mV (kindT k).1 (kindT k).2.1 (kindT k).2.2.1 (kindT k).2.2.2 e f := rfl
noncomputable def tabV : Value := .agg ((gtabs.head?.map (·.2)).getD []).toArray
theorem ix92 (j : Nat) (h : j < 8) : mindex E.P 92 tabV (vi (j : Int)) = some (kV j 0 0) := by
  have h0 : mindex E.P 92 tabV (vi ((0 : Nat) : Int)) = some (kV 0 0 0) := by kernel_rfl
  have h1 : mindex E.P 92 tabV (vi ((1 : Nat) : Int)) = some (kV 1 0 0) := by kernel_rfl
  have h2 : mindex E.P 92 tabV (vi ((2 : Nat) : Int)) = some (kV 2 0 0) := by kernel_rfl
  have h3 : mindex E.P 92 tabV (vi ((3 : Nat) : Int)) = some (kV 3 0 0) := by kernel_rfl
  have h4 : mindex E.P 92 tabV (vi ((4 : Nat) : Int)) = some (kV 4 0 0) := by kernel_rfl
  have h5 : mindex E.P 92 tabV (vi ((5 : Nat) : Int)) = some (kV 5 0 0) := by kernel_rfl
  have h6 : mindex E.P 92 tabV (vi ((6 : Nat) : Int)) = some (kV 6 0 0) := by kernel_rfl
  have h7 : mindex E.P 92 tabV (vi ((7 : Nat) : Int)) = some (kV 7 0 0) := by kernel_rfl
  match j, h with
  | 0, _ => exact h0
  | 1, _ => exact h1
  | 2, _ => exact h2
  | 3, _ => exact h3
  | 4, _ => exact h4
  | 5, _ => exact h5
  | 6, _ => exact h6
  | 7, _ => exact h7
theorem ldtab (m : M) : xload E.P m 92 (.pointer (some ⟨0, 0, some 0⟩)) = some tabV := by kernel_rfl
theorem kdec (k : Nat) (a b c d : Int) : decide ((a, b, c, d, (0 : Int), (0 : Int)) = ((kindT k).1, (kindT k).2.1, (kindT k).2.2.1, (kindT k).2.2.2, 0, 0)) = decide (kindT k = (a, b, c, d)) := by
  refine decide_eq_decide.2 ⟨fun h => ?_, fun h => ?_⟩
  · simp only [Prod.mk.injEq] at h
    obtain ⟨rfl, rfl, rfl, rfl, _⟩ := h
    rfl
  · rw [h]
theorem kdec' (k : Nat) (a b c d : Int) : decide (((kindT k).1, (kindT k).2.1, (kindT k).2.2.1, (kindT k).2.2.2, (0 : Int), (0 : Int)) = (a, b, c, d, 0, 0)) = decide (kindT k = (a, b, c, d)) := by
  rw [← kdec]
  exact decide_eq_decide.2 ⟨Eq.symm, Eq.symm⟩
theorem lss8 (j : Nat) : mbin E .lss 3 (vi (j : Int)) (.int .i64 8) = some (.bool (decide (j < 8))) := lss_nat j 8
theorem loop81 (call : CallF) (fuel base b : Nat) (hbb : base ≤ b) (kr : Value → M → Res2) (kx : M → Res2) {q : Nat} {a b' c d : Int} :
    ∀ (k n j : Nat) (m : M), j + k = 8 → k < n → b ≤ m.length → m[q]? = some (cellR [vi a, vi b', vi c, vi d, vi 0, vi 0]) →
      ∃ m', r81_L0 call fuel base kr kx n (pt q 0) tabV (vi (j : Int)) m = match koN (a, b', c, d) k j with
        | some i => kr (vi (i : Int)) m'
        | none => kx m'
  | _, 0, j, m, hj, hn, hbm, hq => by omega
  | 0, n + 1, j, m, hj, hn, hbm, hq => by
    rw [r81_L0_s, lss8, k1s, decide_eq_false (by omega), kbf]
    exact ⟨m, rfl⟩
  | k + 1, n + 1, j, m, hj, hn, hbm, hq => by
    have hql := (List.getElem?_eq_some_iff.1 hq).1
    rw [r81_L0_s, lss8, k1s, decide_eq_true (by omega), kbt, ix92 j (by omega), k1s, al50, k2s]
    have h1 : (m ++ [cellR [.int .i64 0, .int .i64 0, .int .i64 0, .int .i64 0, .int .i64 0, .int .i64 0]])[m.length]? = some (cellR [.int .i64 0, .int .i64 0, .int .i64 0, .int .i64 0, .int .i64 0, .int .i64 0]) := by simp
    rw [kV_eq, st50 (by omega) h1 rfl, kss]
    generalize hm1 : (m ++ [cellR [.int .i64 0, .int .i64 0, .int .i64 0, .int .i64 0, .int .i64 0, .int .i64 0]]).set m.length (cellR [vi (kindT j).1, vi (kindT j).2.1, vi (kindT j).2.2.1, vi (kindT j).2.2.2, vi 0, vi 0]) = m1
    have hq1 : m1[q]? = some (cellR [vi a, vi b', vi c, vi d, vi 0, vi 0]) := by
      rw [← hm1, List.getElem?_set_ne (by omega), List.getElem?_append_left hql]
      exact hq
    have hl1 : m1[m.length]? = some (cellR [vi (kindT j).1, vi (kindT j).2.1, vi (kindT j).2.2.1, vi (kindT j).2.2.2, vi 0, vi 0]) := by
      rw [← hm1]
      exact List.getElem?_set_self (by simp)
    rw [ldb50 hq1, k1s, ldb50 hl1, k1s, e50, k1s, kdec]
    unfold koN
    by_cases h : kindT j = (a, b', c, d)
    · rw [decide_eq_true h, kbt, if_pos h]
      exact ⟨m1, rfl⟩
    · rw [decide_eq_false h, kbf, if_neg h, add1 j (by omega), k1s]
      exact loop81 call fuel base b hbb kr kx k n (j + 1) m1 (by omega) (by omega) (by rw [← hm1]; simp; omega) hq1
theorem koV_some {q : Q4} {i : Nat} (h : koN q 8 0 = some i) : koV q = (i : Int) := by unfold koV; rw [h]
theorem koV_none {q : Q4} (h : koN q 8 0 = none) : koV q = -1 := by unfold koV; rw [h]
theorem t81 (n base : Nat) (hn : 10 ≤ n) (a b c d e f : Int) (m : M) : rt (n + 1) base 81 [mV a b c d e f] m = some (.ret (vi (koV (a, b, c, d))), m) := by
  suffices h : ∃ m1, r81 (rt n) n m.length (mV a b c d e f) m = some (.ret (vi (koV (a, b, c, d))), m1) by
    obtain ⟨m1, h⟩ := h
    exact rt_pure (f := 81) (rf := rf81) (by kernel_rfl) (by kernel_rfl) (by kernel_rfl) n base _ m m1 _ h rfl
  unfold r81
  rw [k1_fun, fVal_fun, bxa6, k2s, ff50_4, k1s, show (.int .i64 0 : Value) = vi 0 from rfl, st3]
  have hq : (m ++ [cellR [vi a, vi b, vi c, vi d, vi e, vi f]])[m.length]? = some (cellR [vi a, vi b, vi c, vi d, vi e, vi f]) := by simp
  rw [mwrite_one (Nat.le_refl _) hq rfl (by simp [cellR]) rfl, kss, ff50_5, k1s, st3]
  have hset1 : ({ cellR [vi a, vi b, vi c, vi d, vi e, vi f] with cells := (cellR [vi a, vi b, vi c, vi d, vi e, vi f]).cells.set (0 + 4) (vi 0) } : Row) = cellR [vi a, vi b, vi c, vi d, vi 0, vi f] := rfl
  rw [hset1]
  have hq2 : ((m ++ [cellR [vi a, vi b, vi c, vi d, vi e, vi f]]).set m.length (cellR [vi a, vi b, vi c, vi d, vi 0, vi f]))[m.length]? = some (cellR [vi a, vi b, vi c, vi d, vi 0, vi f]) := List.getElem?_set_self (by simp)
  rw [mwrite_one (Nat.le_refl _) hq2 rfl (by simp [cellR]) rfl, kss, ldtab, k1s]
  have hset2 : ({ cellR [vi a, vi b, vi c, vi d, vi 0, vi f] with cells := (cellR [vi a, vi b, vi c, vi d, vi 0, vi f]).cells.set (0 + 5) (vi 0) } : Row) = cellR [vi a, vi b, vi c, vi d, vi 0, vi 0] := rfl
  rw [hset2]
  obtain ⟨m', h⟩ := loop81 (rt n) n m.length m.length (Nat.le_refl _) (fun y2 m => some (.ret y2, m)) (fun m => some (.ret (.int .i64 (-1)), m)) (q := m.length) (a := a) (b' := b) (c := c) (d := d) 8 n 0 (((m ++ [cellR [vi a, vi b, vi c, vi d, vi e, vi f]]).set m.length (cellR [vi a, vi b, vi c, vi d, vi 0, vi f])).set m.length (cellR [vi a, vi b, vi c, vi d, vi 0, vi 0])) rfl (by omega) (by simp) (List.getElem?_set_self (by simp))
  refine ⟨m', h.trans ?_⟩
  cases hk : koN (a, b, c, d) 8 0 with
  | some i => rw [koV_some hk]
  | none => rw [koV_none hk]; rfl
theorem loop35 (call : CallF) (fuel base : Nat) (kr : Value → M → Res2) (kx : M → Res2) {q : Nat} {a b' c d : Int} {m : M} (hq : m[q]? = some (cellR [vi a, vi b', vi c, vi d, vi 0, vi 0])) (hcall : ∀ k : Nat, k < 8 → call m.length 61 [vi (k : Int)] m = some (.ret (kV k 0 0), m)) :
    ∀ (k n j : Nat), j + k = 8 → k < n →
      r35_L0 call fuel base kr kx n (pt q 0) (vi (j : Int)) m = match koN (a, b', c, d) k j with
        | some i => kr (vi (i : Int)) m
        | none => kx m
  | _, 0, j, hj, hn => by omega
  | 0, n + 1, j, hj, hn => by
    rw [r35_L0_s, lss8, k1s, decide_eq_false (by omega), kbf]
    rfl
  | k + 1, n + 1, j, hj, hn => by
    rw [r35_L0_s, lss8, k1s, decide_eq_true (by omega), kbt, hcall j (by omega), kB_same, kcs, ldb50 hq, k1s, kV_eq, e50, k1s, kdec']
    unfold koN
    by_cases h : kindT j = (a, b', c, d)
    · rw [decide_eq_true h, kbt, if_pos h]
    · rw [decide_eq_false h, kbf, if_neg h, add1 j (by omega), k1s]
      exact loop35 call fuel base kr kx hq hcall k n (j + 1) (by omega) (by omega)
theorem t35 (n base : Nat) (hn : 10 ≤ n) (a b c d e f : Int) (m : M) : rt (n + 1) base 35 [mV a b c d e f] m = some (.ret (vi (koV (a, b, c, d))), m) := by
  suffices h : ∃ m1, r35 (rt n) n m.length (mV a b c d e f) m = some (.ret (vi (koV (a, b, c, d))), m1) by
    obtain ⟨m1, h⟩ := h
    exact rt_pure (f := 35) (rf := rf35) (by kernel_rfl) (by kernel_rfl) (by kernel_rfl) n base _ m m1 _ h rfl
  obtain ⟨k, rfl⟩ : ∃ k, n = k + 1 := ⟨n - 1, by omega⟩
  unfold r35
  rw [k1_fun, fVal_fun, bxa6, k2s, ff50_4, k1s, show (.int .i64 0 : Value) = vi 0 from rfl, st3]
  have hq : (m ++ [cellR [vi a, vi b, vi c, vi d, vi e, vi f]])[m.length]? = some (cellR [vi a, vi b, vi c, vi d, vi e, vi f]) := by simp
  rw [mwrite_one (Nat.le_refl _) hq rfl (by simp [cellR]) rfl, kss, ff50_5, k1s, st3]
  have hset1 : ({ cellR [vi a, vi b, vi c, vi d, vi e, vi f] with cells := (cellR [vi a, vi b, vi c, vi d, vi e, vi f]).cells.set (0 + 4) (vi 0) } : Row) = cellR [vi a, vi b, vi c, vi d, vi 0, vi f] := rfl
  rw [hset1]
  have hq2 : ((m ++ [cellR [vi a, vi b, vi c, vi d, vi e, vi f]]).set m.length (cellR [vi a, vi b, vi c, vi d, vi 0, vi f]))[m.length]? = some (cellR [vi a, vi b, vi c, vi d, vi 0, vi f]) := List.getElem?_set_self (by simp)
  rw [mwrite_one (Nat.le_refl _) hq2 rfl (by simp [cellR]) rfl, kss]
  have hset2 : ({ cellR [vi a, vi b, vi c, vi d, vi 0, vi f] with cells := (cellR [vi a, vi b, vi c, vi d, vi 0, vi f]).cells.set (0 + 5) (vi 0) } : Row) = cellR [vi a, vi b, vi c, vi d, vi 0, vi 0] := rfl
  rw [hset2]
  refine ⟨((m ++ [cellR [vi a, vi b, vi c, vi d, vi e, vi f]]).set m.length (cellR [vi a, vi b, vi c, vi d, vi 0, vi f])).set m.length (cellR [vi a, vi b, vi c, vi d, vi 0, vi 0]), (loop35 (rt (k + 1)) (k + 1) m.length (fun y2 m => some (.ret y2, m)) (fun m => some (.ret (.int .i64 (-1)), m)) (q := m.length) (a := a) (b' := b) (c := c) (d := d) (m := ((m ++ [cellR [vi a, vi b, vi c, vi d, vi e, vi f]]).set m.length (cellR [vi a, vi b, vi c, vi d, vi 0, vi f])).set m.length (cellR [vi a, vi b, vi c, vi d, vi 0, vi 0])) (List.getElem?_set_self (by simp)) (fun i hi => t61 k _ i hi _) 8 (k + 1) 0 rfl (by omega)).trans ?_⟩
  cases hk : koN (a, b, c, d) 8 0 with
  | some i => rw [koV_some hk]
  | none => rw [koV_none hk]; rfl
theorem t82 (n base : Nat) (a : Int) (m : M) : rt (n + 1) base 82 [vi a] m = some (.ret (.bool (decide (-1000 ≤ a ∧ a ≤ 1000))), m) := by
  refine rt_pure (f := 82) (rf := rf82) (by kernel_rfl) (by kernel_rfl) (by kernel_rfl) n base _ m m _ ?_ rfl
  show r82 (rt n) n m.length (vi a) m = _
  unfold r82
  rw [k1_fun, fVal_fun, show (.int .i64 (-1000) : Value) = vi (-1000) from rfl, show (.int .i64 1000 : Value) = vi 1000 from rfl, geq3, k1s]
  by_cases h : a ≥ -1000
  · rw [decide_eq_true h, kbt, leq3, k1s]
    rw [show decide (a ≤ 1000) = decide (-1000 ≤ a ∧ a ≤ 1000) from decide_eq_decide.2 ⟨fun h2 => ⟨h, h2⟩, fun h2 => h2.2⟩]
  · rw [decide_eq_false h, kbf, decide_eq_false (fun h2 => h h2.1)]
/-- Is it a move? -/
def isM (a b c d e f : Int) : Bool := decide (0 ≤ koV (a, b, c, d)) && (decide (-1000 ≤ e ∧ e ≤ 1000) && decide (-1000 ≤ f ∧ f ≤ 1000))
theorem t56 (n base : Nat) (hn : 12 ≤ n) (a b c d e f : Int) (m : M) : rt (n + 1) base 56 [mV a b c d e f] m = some (.ret (.bool (isM a b c d e f)), m) := by
  refine rt_pure (f := 56) (rf := rf56) (by kernel_rfl) (by kernel_rfl) (by kernel_rfl) n base _ m (m ++ [cellR [vi a, vi b, vi c, vi d, vi e, vi f]]) _ ?_ rfl
  show r56 (rt n) n m.length (mV a b c d e f) m = _
  obtain ⟨k, rfl⟩ : ∃ k, n = k + 1 := ⟨n - 1, by omega⟩
  have hq : (m ++ [cellR [vi a, vi b, vi c, vi d, vi e, vi f]])[m.length]? = some (cellR [vi a, vi b, vi c, vi d, vi e, vi f]) := by simp
  unfold r56 isM
  rw [k1_fun, fVal_fun, bxa6, k2s, ldb50 hq, k1s, t81 k _ (by omega), kcs, show (.int .i64 0 : Value) = vi 0 from rfl, geq3, k1s]
  by_cases h : koV (a, b, c, d) ≥ 0
  · rw [decide_eq_true h, kbt, ff50_4, k1s, ld3, box_cell hq (0 + 4) _ rfl, k1s, t82, kcs]
    by_cases h2 : -1000 ≤ e ∧ e ≤ 1000
    · rw [decide_eq_true h2, kbt, ff50_5, k1s, ld3, box_cell hq (0 + 5) _ rfl, k1s, t82, kcs]
      rfl
    · rw [decide_eq_false h2]; rfl
  · rw [decide_eq_false h]; rfl
end Go.AM
namespace Go.AM
open Go Go.Proofs
/-- The side of a square that repeats both ways. -/
def sdF (w h : Nat) : Nat → Nat → Nat
  | 0, s => s
  | k + 1, s => if s % w = 0 then s else sdF w h k (s + h)
def sd (l : List ByteArray) : Nat := sdF (wid l) l.length 8 l.length
theorem sd_tab : ((List.range 7).all fun w => (List.range 7).all fun h => (w == 0 || h == 0) || (sdF w h 8 h % w == 0 && sdF w h 8 h % h == 0 && Nat.ble 1 (sdF w h 8 h) && Nat.ble (sdF w h 8 h) 36)) = true := by decide +kernel
theorem sd_all (w : Nat) (hw : w < 7) (h : Nat) (hh : h < 7) (w1 : 1 ≤ w) (h1 : 1 ≤ h) : sdF w h 8 h % w = 0 ∧ sdF w h 8 h % h = 0 ∧ 1 ≤ sdF w h 8 h ∧ sdF w h 8 h ≤ 36 := by
  have a := List.all_eq_true.1 (List.all_eq_true.1 sd_tab w (List.mem_range.2 hw)) h (List.mem_range.2 hh)
  simp only [Bool.or_eq_true, Bool.and_eq_true, beq_iff_eq, Nat.ble_eq] at a
  omega
theorem allFrom_succ (P : Nat → Bool) (k j : Nat) : allFrom P (k + 1) j = (P j && allFrom P k (j + 1)) := rfl
theorem Pat.sd {l : List ByteArray} (h : Pat l) : sd l % wid l = 0 ∧ sd l % l.length = 0 ∧ 1 ≤ AM.sd l ∧ AM.sd l ≤ 36 := by
  have := sd_all (wid l) (by have := h.w6; omega) l.length (by have := h.h6; omega) h.w1 h.h1
  exact this
/-- Where a move takes a cell, as ints do. -/
def tkX (a b e : Int) (x y : Int) : Int := wr (wr (wr (a * x) + wr (b * y)) + e)
def kpL (l : List ByteArray) (a b c d e f : Int) (y x : Nat) : Bool := decide (colr l x y = colr l (tkX a b e x y) (tkX c d f x y))
def keepsB (l : List ByteArray) (a b c d e f : Int) : Bool := allFrom (fun y => allFrom (kpL l a b c d e f y) (sd l) 0) (sd l) 0
theorem r63_L0_s (call : CallF) (fuel base : Nat) (kx0 : Value → Value → Value → M → Res2) (n : Nat) (x0 x3 x5 : Value) (m : M) : r63_L0 call fuel base kx0 (n + 1) x0 x3 x5 m =
    (k1n (mindexAddr E.P 66 x0 (.int .i64 0)) fun v13_3 => (k1n (xload E.P m 9 v13_3) fun v14_4 => (k2 (vcalln E.P base m .len [9] [v14_4]) fun v15_5 m => (k1n (mbin E .rem 3 x5 v15_5) fun v16_6 => (k1n (mbin E .neq 3 v16_6 (.int .i64 0)) fun v17_7 => (kb v17_7 (k2 (vcalln E.P base m .len [66] [x0]) fun v20_8 m => (k1n (mbin E .add 3 x5 v20_8) fun v21_9 => (r63_L0 call fuel base kx0 n x0 x3 v21_9 m))) (kx0 x0 x3 x5 m))))))) := by
  unfold r63_L0
  rw [k1_fun, vcall_fun]
theorem r63_L2_s (call : CallF) (fuel base : Nat) (kr : Value → M → Res2) (kx2 : M → Res2) (n : Nat) (x0 x3 x5 x22 x23 : Value) (m : M) : r63_L2 call fuel base kr kx2 (n + 1) x0 x3 x5 x22 x23 m =
    (k1n (mbin E .lss 3 x23 x22) fun v24_13 => (kb v24_13 (r63_L4 call fuel base (fun y4_25 m => (kr y4_25 m)) (fun y0_26 y3_27 y5_28 y22_29 y23_30 m => (k1n (mbin E .add 3 y23_30 (.int .i64 1)) fun v43_31 => (r63_L2 call fuel base kr kx2 n y0_26 y3_27 y5_28 y22_29 v43_31 m))) fuel x0 x3 x5 x23 x22 x23 x5 (.int .i64 0) m) (kx2 m))) := by
  unfold r63_L2
  rw [k1_fun]
theorem r63_L4_s (call : CallF) (fuel base : Nat) (kr : Value → M → Res2) (kx4 : Value → Value → Value → Value → Value → M → Res2) (n : Nat) (x0 x3 x5 x6 x22 x23 x26 x27 : Value) (m : M) : r63_L4 call fuel base kr kx4 (n + 1) x0 x3 x5 x6 x22 x23 x26 x27 m =
    (k1n (mbin E .lss 3 x27 x26) fun v28_14 => (kb v28_14 (k1n (mbuild E.P 103 [(0, x27), (1, x6)]) fun v32_15 => (k2 (xalloc E.P m 103) fun v8_16 m => (ks (xstore E.P base m 103 v8_16 v32_15) fun m => (k1n (xload E.P m 103 v8_16) fun v34_17 => (kc (kB m (call m.length 85 [x0, v34_17] m)) (fun v35_18 m => (k1n (xload E.P m 50 x3) fun v37_19 => (k1n (xload E.P m 103 v8_16) fun v38_20 => (kc (kB m (call m.length 79 [v37_19, v38_20] m)) (fun v39_21 m => (kc (kB m (call m.length 85 [x0, v39_21] m)) (fun v40_22 m => (k1n (mbin E .neq 5 v35_18 v40_22) fun v41_23 => (kb v41_23 (kr (.bool false) m) (k1n (mbin E .add 3 x27 (.int .i64 1)) fun v42_24 => (r63_L4 call fuel base kr kx4 n x0 x3 x5 x6 x22 x23 x26 v42_24 m))))) (fun _ _ => none))) (fun _ _ => none))))) (fun _ _ => none)))))) (kx4 x0 x3 x5 x22 x23 m))) := by
  unfold r63_L4
  rw [k1_fun]
theorem b103 (a b : Int) : mbuild E.P 103 [(0, vi a), (1, vi b)] = some (cV a b) := by kernel_rfl
theorem loop63a (call : CallF) (fuel base : Nat) (kx : Value → Value → Value → M → Res2) {m : M} {v w : Value} {l : List ByteArray} (hv : Strs m v l) (hp : Pat l) :
    ∀ (k n s : Nat), s ≤ 1000000 → s + k * l.length ≤ 1000 → k < n → sdF (wid l) l.length k s % wid l = 0 → r63_L0 call fuel base kx n v w (vi s) m = kx v w (vi (sdF (wid l) l.length k s)) m
  | _, 0, s, hs, hk, hn, hz => by omega
  | 0, n + 1, s, hs, hk, hn, hz => by
    have a1 := hp.h1; have a3 := hp.w1
    simp only [sdF] at hz ⊢
    rw [r63_L0_s, i0, hv.get66 (by omega : 0 < l.length), len9, k2s, str_get (by omega : 0 < l.length), str_zero (by omega), rem3 _ _ (by omega), k1s, neq3, k1s]
    have e : Int.tmod (s : Int) (wid l : Int) = ((s % wid l : Nat) : Int) := by rw [Int.tmod_eq_emod_of_nonneg (by omega)]; omega
    rw [e, hz, decide_eq_true rfl]
    rfl
  | k + 1, n + 1, s, hs, hk, hn, hz => by
    have a1 := hp.h1; have a3 := hp.w1; have a2 := hp.h6
    rw [r63_L0_s, i0, hv.get66 (by omega : 0 < l.length), len9, k2s, str_get (by omega : 0 < l.length), str_zero (by omega), rem3 _ _ (by omega), k1s, neq3, k1s]
    have e : Int.tmod (s : Int) (wid l : Int) = ((s % wid l : Nat) : Int) := by rw [Int.tmod_eq_emod_of_nonneg (by omega)]; omega
    rw [e]
    simp only [sdF] at hz ⊢
    rw [Nat.succ_mul] at hk
    by_cases h : s % wid l = 0
    · rw [if_pos h, h, decide_eq_true rfl]
      rfl
    · rw [if_neg h] at hz ⊢
      rw [decide_eq_false (by omega), Bool.not_false, kbt, hv.len66, k2s, add3, k1s, wr_small (by omega) (by omega), show ((s : Int) + (l.length : Int)) = ((s + l.length : Nat) : Int) by omega]
      exact loop63a call fuel base kx hv hp k n (s + l.length) (by omega) (by omega) (by omega) hz
theorem loop63b (call : CallF) (fuel base : Nat) (kr : Value → M → Res2) (kx : Value → Value → Value → Value → Value → M → Res2) {m1 : M} {v : Value} {l : List ByteArray} (hv : Strs m1 v l) (hp : Pat l) {q S y : Nat} {a b c d e f : Int} (hq : m1[q]? = some (cellR [vi a, vi b, vi c, vi d, vi e, vi f])) (hb : base ≤ m1.length) (hS : S ≤ 36)
    (h85 : ∀ m x y, Keeps m1.length m1 m → call m.length 85 [v, cV x y] m = some (.ret (.int .u8 (colr l x y)), m)) (h79 : ∀ (x y : Int) (m : M), call m.length 79 [mV a b c d e f, cV x y] m = some (.ret (cV (tkX a b e x y) (tkX c d f x y)), m)) :
    ∀ (n j : Nat) (m : M), j ≤ S → S < n + j → Keeps m1.length m1 m →
      ∃ m', Keeps m1.length m1 m' ∧ r63_L4 call fuel base kr kx n v (pt q 0) (vi S) (vi y) (vi S) (vi y) (vi S) (vi j) m = if allFrom (kpL l a b c d e f y) (S - j) j then kx v (pt q 0) (vi S) (vi S) (vi y) m' else kr (.bool false) m'
  | 0, j, m, hj, hn, _ => by omega
  | n + 1, j, m, hj, hn, hk => by
    have hql := (List.getElem?_eq_some_iff.1 hq).1
    rw [r63_L4_s, lss_nat, k1s]
    by_cases hlt : j < S
    · rw [decide_eq_true hlt, kbt, b103, k1s, al103, k2s]
      have hbm : base ≤ m.length := Nat.le_trans hb hk.1
      have h1 : (m ++ [cellR [.int .i64 0, .int .i64 0]])[m.length]? = some (cellR [.int .i64 0, .int .i64 0]) := by simp
      rw [st103 hbm h1 rfl, kss]
      generalize hm2 : (m ++ [cellR [.int .i64 0, .int .i64 0]]).set m.length (cellR [vi j, vi y]) = m2
      have hk2 : Keeps m1.length m1 m2 := by
        rw [← hm2]
        exact hk.trans ((Keeps.push _ _ hk.1 _).trans (Keeps.set _ _ _ _ hk.1))
      have hl2 : m2[m.length]? = some (cellR [vi j, vi y]) := by rw [← hm2]; exact List.getElem?_set_self (by simp)
      have hq2 : m2[q]? = some (cellR [vi a, vi b, vi c, vi d, vi e, vi f]) := (hk2.2 q hql).trans hq
      rw [ldb103 hl2, k1s, h85 _ _ _ hk2, kB_same, kcs, ldb50 hq2, k1s, ldb103 hl2, k1s, h79, kB_same, kcs, h85 _ _ _ hk2, kB_same, kcs, neq5, k1s, show S - j = (S - (j + 1)) + 1 by omega]
      rw [allFrom_succ]
      have e1 : decide (((colr l j y : Nat) : Int) = ((colr l (tkX a b e j y) (tkX c d f j y) : Nat) : Int)) = kpL l a b c d e f y j := natdec _ _
      rw [e1]
      cases kpL l a b c d e f y j with
      | true =>
        rw [Bool.not_true, kbf, add1 j (by omega), k1s, Bool.true_and]
        exact loop63b call fuel base kr kx hv hp hq hb hS h85 h79 n (j + 1) m2 (by omega) (by omega) hk2
      | false => exact ⟨m2, hk2, rfl⟩
    · rw [decide_eq_false hlt, kbf, show S - j = 0 by omega]
      exact ⟨m, hk, rfl⟩
theorem loop63 (call : CallF) (fuel base : Nat) (hf : 40 ≤ fuel) (kr : Value → M → Res2) (kx : M → Res2) {m1 : M} {v : Value} {l : List ByteArray} (hv : Strs m1 v l) (hp : Pat l) {q S : Nat} {a b c d e f : Int} (hq : m1[q]? = some (cellR [vi a, vi b, vi c, vi d, vi e, vi f])) (hb : base ≤ m1.length) (hS : S ≤ 36)
    (h85 : ∀ m x y, Keeps m1.length m1 m → call m.length 85 [v, cV x y] m = some (.ret (.int .u8 (colr l x y)), m)) (h79 : ∀ (x y : Int) (m : M), call m.length 79 [mV a b c d e f, cV x y] m = some (.ret (cV (tkX a b e x y) (tkX c d f x y)), m)) :
    ∀ (n j : Nat) (m : M), j ≤ S → S < n + j → Keeps m1.length m1 m →
      ∃ m', Keeps m1.length m1 m' ∧ r63_L2 call fuel base kr kx n v (pt q 0) (vi S) (vi S) (vi j) m = if allFrom (fun y => allFrom (kpL l a b c d e f y) S 0) (S - j) j then kx m' else kr (.bool false) m'
  | 0, j, m, hj, hn, _ => by omega
  | n + 1, j, m, hj, hn, hk => by
    rw [r63_L2_s, lss_nat, k1s]
    by_cases hlt : j < S
    · rw [decide_eq_true hlt, kbt, i0]
      obtain ⟨m2, hk2, e2⟩ := loop63b call fuel base (fun y4 m => kr y4 m) (fun y0 y3 y5 y22 y23 m => k1n (mbin E .add 3 y23 (.int .i64 1)) fun v43 => r63_L2 call fuel base kr kx n y0 y3 y5 y22 v43 m) hv hp (y := j) hq hb hS h85 h79 fuel 0 m (by omega) (by omega) hk
      rw [e2, Nat.sub_zero, show S - j = (S - (j + 1)) + 1 by omega]
      rw [allFrom_succ]
      cases h : allFrom (kpL l a b c d e f j) S 0 with
      | true =>
        simp only [if_true]
        rw [add1 j (by omega), k1s]
        have := loop63 call fuel base hf kr kx hv hp hq hb hS h85 h79 n (j + 1) m2 (by omega) (by omega) hk2
        simpa using this
      | false => exact ⟨m2, hk2, rfl⟩
    · rw [decide_eq_false hlt, kbf, show S - j = 0 by omega]
      exact ⟨m, hk, rfl⟩
theorem t63 (n base : Nat) (hn : 50 ≤ n) {m : M} {v : Value} {l : List ByteArray} (hv : Strs m v l) (hp : Pat l) (a b c d e f : Int) : rt (n + 1) base 63 [v, mV a b c d e f] m = some (.ret (.bool (keepsB l a b c d e f)), m) := by
  suffices h : ∃ m1, r63 (rt n) n m.length v (mV a b c d e f) m = some (.ret (.bool (keepsB l a b c d e f)), m1) by
    obtain ⟨m1, h⟩ := h
    exact rt_pure (f := 63) (rf := rf63) (by kernel_rfl) (by kernel_rfl) (by kernel_rfl) n base _ m m1 _ h rfl
  obtain ⟨k, rfl⟩ : ∃ k, n = k + 2 := ⟨n - 2, by omega⟩
  have hv1 := hv.app [cellR [vi a, vi b, vi c, vi d, vi e, vi f]]
  have hq : (m ++ [cellR [vi a, vi b, vi c, vi d, vi e, vi f]])[m.length]? = some (cellR [vi a, vi b, vi c, vi d, vi e, vi f]) := by simp
  obtain ⟨s1, s2, s3, s4⟩ := hp.sd
  have a2 := hp.h6
  unfold r63
  rw [fVal_fun, vcall_fun, bxa6, k2s, hv1.len66, k2s, loop63a _ _ _ _ hv1 hp 8 (k + 2) l.length (by omega) (by omega) (by omega) s1, i0]
  have hlen : (m ++ [cellR [vi a, vi b, vi c, vi d, vi e, vi f]]).length = m.length + 1 := by simp
  obtain ⟨m', _, e'⟩ := loop63 (rt (k + 2)) (k + 2) m.length (by omega) (fun y4 m => some (.ret y4, m)) (fun m => some (.ret (.bool true), m)) hv1 hp hq (by omega) s4 (fun m2 x y hk => t85 k _ (hv1.keeps hk) hp x y) (fun x y m => t79 _ _ _ _ _ _ _ _ x y m) (k + 2) 0 _ (by omega) (by omega) (Keeps.refl _ _)
  refine ⟨m', ?_⟩
  show r63_L2 (rt (k + 2)) (k + 2) m.length (fun y4 m => some (.ret y4, m)) (fun m => some (.ret (.bool true), m)) (k + 2) v (pt m.length 0) (vi (sd l)) (vi (sd l)) (vi ((0 : Nat) : Int)) _ = _
  rw [e', Nat.sub_zero]
  unfold keepsB
  cases allFrom (fun y => allFrom (kpL l a b c d e f y) (sd l) 0) (sd l) 0 <;> rfl
def trL (l : List ByteArray) (e f : Int) (y x : Nat) : Bool := decide (colr l x y = colr l (wr (x + e)) (wr (y + f)))
def trB (l : List ByteArray) (e f : Int) : Bool := allFrom (fun y => allFrom (trL l e f y) (wid l) 0) l.length 0
theorem r60_L2_s (call : CallF) (fuel base : Nat) (kp : Value → M → Res2) (kr : Value → M → Res2) (kx2 : Value → Value → Value → Value → M → Res2) (n : Nat) (x0 x1 x2 x7 x8 : Value) (m : M) : r60_L2 call fuel base kp kr kx2 (n + 1) x0 x1 x2 x7 x8 m =
    (k1n (mindexAddr E.P 22 x0 (.int .i64 0)) fun v17_3 => (k1n (xload E.P m 9 v17_3) fun v18_4 => (k2 (vcalln E.P base m .len [9] [v18_4]) fun v19_5 m => (k1n (mbin E .lss 3 x8 v19_5) fun v20_6 => (kb v20_6 (kc (call base 58 [x0, x8, x7] m) (fun v26_7 m => (k1n (mbin E .add 3 x8 x1) fun v30_8 => (k1n (mbin E .add 3 x7 x2) fun v33_9 => (kc (call base 58 [x0, v30_8, v33_9] m) (fun v34_10 m => (k1n (mbin E .neq 5 v26_7 v34_10) fun v35_11 => (kb v35_11 (kr (.bool false) m) (k1n (mbin E .add 3 x8 (.int .i64 1)) fun v22_12 => (r60_L2 call fuel base kp kr kx2 n x0 x1 x2 x7 v22_12 m))))) (fun v m => kp v m))))) (fun v m => kp v m)) (kx2 x0 x1 x2 x7 m)))))) := by
  unfold r60_L2
  rw [k1_fun, vcall_fun]
theorem r60_L0_s (call : CallF) (fuel base : Nat) (kp : Value → M → Res2) (kr : Value → M → Res2) (kx0 : M → Res2) (n : Nat) (x0 x1 x2 x7 : Value) (m : M) : r60_L0 call fuel base kp kr kx0 (n + 1) x0 x1 x2 x7 m =
    (k2 (vcalln E.P base m .len [22] [x0]) fun v11_1 m => (k1n (mbin E .lss 3 x7 v11_1) fun v12_2 => (kb v12_2 (r60_L2 call fuel base (fun v m => kp v m) (fun y6_13 m => (kr y6_13 m)) (fun y0_14 y1_15 y2_16 y7_17 m => (k1n (mbin E .add 3 y7_17 (.int .i64 1)) fun v14_18 => (r60_L0 call fuel base kp kr kx0 n y0_14 y1_15 y2_16 v14_18 m))) fuel x0 x1 x2 x7 (.int .i64 0) m) (kx0 m)))) := by
  unfold r60_L0
  rw [k1_fun, vcall_fun]
theorem loop60b (call : CallF) (fuel base : Nat) (kp : Value → M → Res2) (kr : Value → M → Res2) (kx : Value → Value → Value → Value → M → Res2) {m : M} {v : Value} {l : List ByteArray} (hv : Strs m v l) (hp : Pat l) {y : Nat} (e f : Int)
    (h58 : ∀ x y : Int, call base 58 [v, vi x, vi y] m = some (.ret (.int .u8 (colr l x y)), m)) :
    ∀ (n j : Nat), j ≤ wid l → wid l < n + j → r60_L2 call fuel base kp kr kx n v (vi e) (vi f) (vi y) (vi j) m = if allFrom (trL l e f y) (wid l - j) j then kx v (vi e) (vi f) (vi y) m else kr (.bool false) m
  | 0, j, hj, hn => by omega
  | n + 1, j, hj, hn => by
    have a1 := hp.h1; have a4 := hp.w6
    rw [r60_L2_s, i0, hv.get (by omega : 0 < l.length), len9, k2s, str_get (by omega : 0 < l.length), str_zero (by omega), lss_nat, k1s]
    by_cases hlt : j < wid l
    · rw [decide_eq_true hlt, kbt, h58, kcs, add3, k1s, add3, k1s, h58, kcs, neq5, k1s, show wid l - j = (wid l - (j + 1)) + 1 by omega]
      rw [allFrom_succ]
      have e1 : decide (((colr l j y : Nat) : Int) = ((colr l (wr (j + e)) (wr (y + f)) : Nat) : Int)) = trL l e f y j := natdec _ _
      rw [e1]
      cases trL l e f y j with
      | true =>
        rw [Bool.not_true, kbf, add1 j (by omega), k1s, Bool.true_and]
        exact loop60b call fuel base kp kr kx hv hp e f h58 n (j + 1) (by omega) (by omega)
      | false => rfl
    · rw [decide_eq_false hlt, kbf, show wid l - j = 0 by omega]
      rfl
theorem loop60 (call : CallF) (fuel base : Nat) (hf : 10 ≤ fuel) (kp : Value → M → Res2) (kr : Value → M → Res2) (kx : M → Res2) {m : M} {v : Value} {l : List ByteArray} (hv : Strs m v l) (hp : Pat l) (e f : Int)
    (h58 : ∀ x y : Int, call base 58 [v, vi x, vi y] m = some (.ret (.int .u8 (colr l x y)), m)) :
    ∀ (n j : Nat), j ≤ l.length → l.length < n + j → r60_L0 call fuel base kp kr kx n v (vi e) (vi f) (vi j) m = if allFrom (fun y => allFrom (trL l e f y) (wid l) 0) (l.length - j) j then kx m else kr (.bool false) m
  | 0, j, hj, hn => by omega
  | n + 1, j, hj, hn => by
    have a2 := hp.h6; have a4 := hp.w6
    rw [r60_L0_s, hv.len22, k2s, lss_nat, k1s]
    by_cases hlt : j < l.length
    · rw [decide_eq_true hlt, kbt, i0, loop60b call fuel base _ _ _ hv hp e f h58 fuel 0 (by omega) (by omega), Nat.sub_zero, show l.length - j = (l.length - (j + 1)) + 1 by omega]
      rw [allFrom_succ]
      cases h : allFrom (trL l e f j) (wid l) 0 with
      | true =>
        simp only [if_true]
        rw [add1 j (by omega), k1s, loop60 call fuel base hf kp kr kx hv hp e f h58 n (j + 1) (by omega) (by omega)]
        rfl
      | false => rfl
    · rw [decide_eq_false hlt, kbf, show l.length - j = 0 by omega]
      rfl
theorem t60 (n base : Nat) (hn : 12 ≤ n) {m : M} {v : Value} {l : List ByteArray} (hv : Strs m v l) (hp : Pat l) (e f : Int) : rt (n + 1) base 60 [v, vi e, vi f] m = some (.ret (.bool (trB l e f)), m) := by
  refine rt_pure (f := 60) (rf := rf60) (by kernel_rfl) (by kernel_rfl) (by kernel_rfl) n base _ m m _ ?_ rfl
  show r60 (rt n) n m.length v (vi e) (vi f) m = _
  obtain ⟨k, rfl⟩ : ∃ k, n = k + 2 := ⟨n - 2, by omega⟩
  have a2 := hp.h6
  unfold r60
  rw [fVal_fun, i0, loop60 _ _ _ (by omega) _ _ _ hv hp e f (fun x y => t58 k _ hv hp x y) (k + 2) 0 (by omega) (by omega), Nat.sub_zero]
  unfold trB
  cases allFrom (fun y => allFrom (trL l e f y) (wid l) 0) l.length 0 <;> rfl
end Go.AM
namespace Go.AM
open Go Go.Proofs
/-- The strings of a rectangle of colours. -/
def rowS (g : Nat → Nat → Nat) (w y : Nat) : ByteArray := strOfNums ((List.range w).map fun x => ((g x y : Nat) : Int))
def drawG (g : Nat → Nat → Nat) (w h : Nat) : List ByteArray := (List.range h).map (rowS g w)
def bytesL (g : Nat → Nat → Nat) (y j w : Nat) : List Value := (List.range w).map fun x => .int .u8 (if x < j then ((g x y : Nat) : Int) else 0)
def strsL (g : Nat → Nat → Nat) (w j h : Nat) : List Value := (List.range h).map fun y => .string (if y < j then rowS g w y else ByteArray.empty)
theorem range_set {α : Type} (f g : Nat → α) (w x : Nat) (hx : x < w) (v : α) (h : ∀ k, k < w → g k = if k = x then v else f k) : ((List.range w).map f).set x v = (List.range w).map g := by
  refine List.ext_getElem? fun k => ?_
  rw [List.getElem?_set]
  by_cases hk : k < w
  · have e2 : ((List.range w).map g)[k]? = some (g k) := by simp [hk]
    have e1 : ((List.range w).map f)[k]? = some (f k) := by simp [hk]
    rw [e2, h k hk]
    by_cases e : x = k
    · rw [if_pos e, if_pos (by simpa using hx), if_pos e.symm]
    · rw [if_neg e, e1, if_neg (fun h => e h.symm)]
  · have e2 : ((List.range w).map g)[k]? = none := List.getElem?_eq_none (by simp; omega)
    have e1 : ((List.range w).map f)[k]? = none := List.getElem?_eq_none (by simp; omega)
    rw [e2, e1, if_neg (by omega)]
theorem rep_one (v : Value) (n : Nat) : repCells [v] n = List.replicate n v := by
  induction n with
  | zero => rfl
  | succ n ih => rw [List.replicate_succ, ← ih]; rfl
theorem bytesOf_map : ∀ L : List Int, bytesOf (L.map (Value.int .u8)) = some L
  | [] => rfl
  | n :: L => by
    show (match bytesOf (L.map (Value.int .u8)) with
      | some l => some (n :: l)
      | none => none) = _
    rw [bytesOf_map L]
theorem cv62 (m : M) (q n : Nat) (row : Row) (L : List Int) (hq : m[q]? = some row) (hc : row.cells = L.map (Value.int .u8)) (hn : L.length = n) : mconv E.P m 62 9 (sl q n) = some (.string (strOfNums L)) := by
  have e : mconv E.P m 62 9 (sl q n) = match mread m q 0 n with
      | some cs => match bytesOf cs with
        | some l => some (.string (strOfNums l))
        | none => none
      | none => none := by kernel_rfl
  have hr : mread m q 0 n = some (L.map (Value.int .u8)) := by
    unfold mread
    rw [hq]
    simp only
    have hlen : row.cells.length = n := by rw [hc, List.length_map]; exact hn
    rw [if_pos (by omega), List.drop_zero, List.take_of_length_le (by omega), hc]
  rw [e, hr]
  simp only
  rw [bytesOf_map]
theorem cv62n (m : M) : mconv E.P m 62 9 nilS = some (.string (strOfNums [])) := by kernel_rfl
theorem r83_L2_s (call : CallF) (fuel base : Nat) (kp : Value → M → Res2) (kx2 : Value → Value → Value → Value → Value → Value → Value → M → Res2) (n : Nat) (x0 x2 x7 x8 x9 x14 x15 x21 x22 : Value) (m : M) : r83_L2 call fuel base kp kx2 (n + 1) x0 x2 x7 x8 x9 x14 x15 x21 x22 m =
    (k1n (mbin E .lss 3 x22 x21) fun v23_6 => (kb v23_6 (k1n (mbuild E.P 103 [(0, x22), (1, x8)]) fun v30_7 => (kc (kv call base x2 [v30_7] m) (fun v31_8 m => (k1n (mindexAddr E.P 62 x9 x22) fun v32_9 => (ks (xstore E.P base m 5 v32_9 v31_8) fun m => (k1n (mbin E .add 3 x22 (.int .i64 1)) fun v33_10 => (r83_L2 call fuel base kp kx2 n x0 x2 x7 x8 x9 x14 x15 x21 v33_10 m))))) (fun v m => kp v m))) (kx2 x0 x2 x7 x8 x9 x14 x15 m))) := by
  unfold r83_L2
  rw [k1_fun]
theorem r83_L0_s (call : CallF) (fuel base : Nat) (kp : Value → M → Res2) (kx0 : Value → M → Res2) (n : Nat) (x0 x2 x7 x14 x15 : Value) (m : M) : r83_L0 call fuel base kp kx0 (n + 1) x0 x2 x7 x14 x15 m =
    (k1n (mbin E .lss 3 x15 x14) fun v16_3 => (kb v16_3 (k2 (xmakeSlice E.P m 62 x0 x0) fun v19_4 m => (k2 (vcalln E.P base m .len [62] [v19_4]) fun v21_5 m => (r83_L2 call fuel base (fun v m => kp v m) (fun y0_11 y2_12 y7_13 y8_14 y9_15 y14_16 y15_17 m => (k1n (mconv E.P m 62 9 y9_15) fun v37_18 => (k1n (mindexAddr E.P 22 y7_13 y8_14) fun v38_19 => (ks (xstore E.P base m 9 v38_19 v37_18) fun m => (k1n (mbin E .add 3 y15_17 (.int .i64 1)) fun v39_20 => (r83_L0 call fuel base kp kx0 n y0_11 y2_12 y7_13 y14_16 v39_20 m)))))) fuel x0 x2 x7 x15 v19_4 x14 x15 v21_5 (.int .i64 0) m))) (kx0 x7 m))) := by
  unfold r83_L0
  rw [k1_fun, vcall_fun]
theorem loop83x (call : CallF) (fuel base b : Nat) (kp : Value → M → Res2) (kx : Value → Value → Value → Value → Value → Value → Value → M → Res2) {m0 : M} {fv : Value} {g : Nat → Nat → Nat} (x0 x7 x14 x15 : Value) {q w y : Nat} (hb : base ≤ q) (hbq : b ≤ q) (hw6 : w ≤ 1000)
    (hcall : ∀ (m' : M) (x : Nat), x < w → Keeps b m0 m' → kv call base fv [cV x y] m' = some (.ret (.int .u8 (g x y)), m')) :
    ∀ (n j : Nat) (m : M), j ≤ w → w < n + j → Keeps b m0 m → m[q]? = some (rowz 1 true (bytesL g y j w)) →
      r83_L2 call fuel base kp kx n x0 fv x7 (vi y) (sl q w) x14 x15 (vi w) (vi j) m = kx x0 fv x7 (vi y) (sl q w) x14 x15 (m.set q (rowz 1 true (bytesL g y w w)))
  | 0, j, m, hj, hn, _, _ => by omega
  | n + 1, j, m, hj, hn, hk, hq => by
    rw [r83_L2_s, lss_nat, k1s]
    have hql := (List.getElem?_eq_some_iff.1 hq).1
    by_cases hlt : j < w
    · have hlenb : (rowz 1 true (bytesL g y j w)).cells.length = w := by simp [rowz, bytesL]
      rw [decide_eq_true hlt, kbt, b103, k1s, hcall m j hlt hk, kcs, ix62 q w w j hlt, k1s, st5, mwrite_one hb hq rfl (by rw [hlenb]; exact hlt) rfl, kss]
      have hrow : ({ rowz 1 true (bytesL g y j w) with cells := (rowz 1 true (bytesL g y j w)).cells.set j (.int .u8 (g j y)) } : Row) = rowz 1 true (bytesL g y (j + 1) w) := by
        show rowz 1 true ((bytesL g y j w).set j (.int .u8 (g j y))) = _
        congr 1
        unfold bytesL
        refine range_set _ _ w j hlt _ fun k hk => ?_
        by_cases ek : k = j
        · subst ek
          rw [if_pos (by omega), if_pos rfl]
        · rw [if_neg ek]
          by_cases h2 : k < j
          · rw [if_pos h2, if_pos (by omega)]
          · rw [if_neg h2, if_neg (by omega)]
      rw [hrow, add1 j (by omega), k1s, loop83x call fuel base b kp kx x0 x7 x14 x15 hb hbq hw6 hcall n (j + 1) _ (by omega) (by omega) (hk.trans (Keeps.set _ _ _ _ hbq)) (List.getElem?_set_self hql), List.set_set]
    · have : j = w := by omega
      subst this
      rw [decide_eq_false hlt, kbf]
      congr 1
      refine List.ext_getElem? fun i => ?_
      by_cases e : q = i
      · subst e; rw [List.getElem?_set_self hql]; exact hq
      · rw [List.getElem?_set_ne e]
theorem loop83 (call : CallF) (fuel base : Nat) (hfu : 20 ≤ fuel) (kp : Value → M → Res2) (kx : Value → M → Res2) {fv : Value} {g : Nat → Nat → Nat} {w h r : Nat} {m0 : M} (hw : w ≤ 10) (hh : h ≤ 10) (hb : base ≤ m0.length) (hr0 : m0.length ≤ r)
    (hcall : ∀ (m' : M) (x y : Nat), x < w → y < h → Keeps m0.length m0 m' → kv call base fv [cV x y] m' = some (.ret (.int .u8 (g x y)), m')) :
    ∀ (n j : Nat) (m : M), j ≤ h → h < n + j → Keeps m0.length m0 m → m[r]? = some (rowz 1 true (strsL g w j h)) →
      ∃ m', r83_L0 call fuel base kp kx n (vi w) fv (sl r h) (vi h) (vi j) m = kx (sl r h) m' ∧ m'[r]? = some (rowz 1 true (strsL g w h h)) ∧ Keeps m0.length m0 m'
  | 0, j, m, hj, hn, _, _ => by omega
  | n + 1, j, m, hj, hn, hk, hr => by
    rw [r83_L0_s, lss_nat, k1s]
    have hrl := (List.getElem?_eq_some_iff.1 hr).1
    by_cases hlt : j < h
    · rw [decide_eq_true hlt, kbt, mk62 m w (by omega), k2s, len62, k2s, i0]
      have hz : repCells [(Value.int .u8 0)] w = bytesL g j 0 w := by
        rw [rep_one]
        refine List.ext_getElem? fun k => ?_
        by_cases hk : k < w
        · simp [bytesL, hk]
        · rw [List.getElem?_eq_none (by simp; omega), List.getElem?_eq_none (by simp [bytesL]; omega)]
      have hbm : base ≤ m.length := Nat.le_trans hb hk.1
      rw [hz, loop83x call fuel base m0.length (fun v m => kp v m) (fun y0 y2 y7 y8 y9 y14 y15 m => k1n (mconv E.P m 62 9 y9) fun v37 => k1n (mindexAddr E.P 22 y7 y8) fun v38 => ks (xstore E.P base m 9 v38 v37) fun m => k1n (mbin E .add 3 y15 (.int .i64 1)) fun v39 => r83_L0 call fuel base kp kx n y0 y2 y7 y14 v39 m) (m0 := m0) (vi w) (sl r h) (vi h) (vi j) hbm hk.1 (by omega) (fun m' x hx hk' => hcall m' x j hx hlt hk') fuel 0 _ (by omega) (by omega) (hk.trans (Keeps.push _ _ hk.1 _)) (by simp)]
      have hset : (m ++ [rowz 1 true (bytesL g j 0 w)]).set m.length (rowz 1 true (bytesL g j w w)) = m ++ [rowz 1 true (bytesL g j w w)] := by simp
      have hbytes : bytesL g j w w = ((List.range w).map fun x => ((g x j : Nat) : Int)).map (Value.int .u8) := by
        unfold bytesL
        rw [List.map_map]
        refine List.map_congr_left fun x hx => ?_
        have := List.mem_range.1 hx
        simp [this]
      rw [hset, cv62 _ m.length w (rowz 1 true (bytesL g j w w)) ((List.range w).map fun x => ((g x j : Nat) : Int)) (by simp) hbytes (by simp), k1s, ix22 r h h j hlt, k1s, st9]
      have hr1 : (m ++ [rowz 1 true (bytesL g j w w)])[r]? = some (rowz 1 true (strsL g w j h)) := by rw [List.getElem?_append_left hrl]; exact hr
      rw [mwrite_one (Nat.le_trans hb hr0) hr1 rfl (by simpa [rowz, strsL] using hlt) rfl, kss, add1 j (by omega), k1s]
      have hrow : ({ rowz 1 true (strsL g w j h) with cells := (rowz 1 true (strsL g w j h)).cells.set j (.string (strOfNums ((List.range w).map fun x => ((g x j : Nat) : Int)))) } : Row) = rowz 1 true (strsL g w (j + 1) h) := by
        show rowz 1 true ((strsL g w j h).set j (.string (rowS g w j))) = _
        congr 1
        unfold strsL
        refine range_set _ _ h j hlt _ fun k hk => ?_
        by_cases ek : k = j
        · subst ek
          rw [if_pos (by omega), if_pos rfl]
        · rw [if_neg ek]
          by_cases h2 : k < j
          · rw [if_pos h2, if_pos (by omega)]
          · rw [if_neg h2, if_neg (by omega)]
      rw [hrow]
      have hk1 : Keeps m0.length m0 ((m ++ [rowz 1 true (bytesL g j w w)]).set r (rowz 1 true (strsL g w (j + 1) h))) := hk.trans ((Keeps.push _ _ hk.1 _).trans (Keeps.set _ _ _ _ hr0))
      exact loop83 call fuel base hfu kp kx hw hh hb hr0 hcall n (j + 1) _ (by omega) (by omega) hk1 (List.getElem?_set_self (by simp; omega))
    · have : j = h := by omega
      subst this
      rw [decide_eq_false hlt, kbf]
      exact ⟨m, rfl, hr, hk⟩
theorem strs_draw {g : Nat → Nat → Nat} {w h r : Nat} {m : M} (hr : m[r]? = some (rowz 1 true (strsL g w h h))) : Strs m (sl r h) (drawG g w h) := by
  refine .inr ⟨r, _, by simp [drawG], hr, ?_⟩
  show strsL g w h h = _
  unfold strsL drawG
  rw [List.map_map]
  refine List.map_congr_left fun y hy => ?_
  have := List.mem_range.1 hy
  simp [this]
theorem t83 (n base : Nat) (hn : 30 ≤ n) {m : M} (hb : base ≤ m.length) {fv : Value} {g : Nat → Nat → Nat} {w h : Nat} (hw : w ≤ 10) (hh : h ≤ 10)
    (hcall : ∀ (m' : M) (x y : Nat), x < w → y < h → Keeps m.length m m' → kv (rt n) base fv [cV x y] m' = some (.ret (.int .u8 (g x y)), m')) :
    ∃ v' m', rt (n + 1) base 83 [vi w, vi h, fv] m = some (.ret v', m') ∧ Strs m' v' (drawG g w h) ∧ Keeps m.length m m' ∧ (∃ r n0, v' = sl r n0 ∧ m.length ≤ r) := by
  rw [rt_imp (f := 83) (rf := rf83) (by kernel_rfl) (by kernel_rfl) (by kernel_rfl) n base]
  show ∃ v' m', r83 (rt n) n base (vi w) (vi h) fv m = _ ∧ _
  unfold r83
  rw [fVal_fun, vcall_fun, mk22 m h (by omega), k2s, len22, k2s, i0]
  have hz : repCells [(Value.string ByteArray.empty)] h = strsL g w 0 h := by
    rw [rep_one]
    refine List.ext_getElem? fun k => ?_
    by_cases hk : k < h
    · simp [strsL, hk]
    · rw [List.getElem?_eq_none (by simp; omega), List.getElem?_eq_none (by simp [strsL]; omega)]
  obtain ⟨m', e, h1, h2⟩ := loop83 (rt n) n base (by omega) (fun v m => some (.pan v, m)) (fun y7 m => some (.ret y7, m)) (m0 := m) hw hh hb (Nat.le_refl _) hcall n 0 (m ++ [rowz 1 true (strsL g w 0 h)]) (by omega) (by omega) (Keeps.push _ _ (Nat.le_refl _) _) (by simp)
  rw [hz, e]
  exact ⟨sl m.length h, m', rfl, strs_draw h1, h2, m.length, h, rfl, Nat.le_refl _⟩
theorem ld66' {m : M} {q : Nat} {v : Value} (h : m[q]? = some (cellR [v])) : xload E.P m 66 (pt q 0) = some v := by
  rw [ld66]
  unfold mcell
  rw [h]
  rfl
/-- Where a move comes from, as ints do. -/
def bkX (a c e f : Int) (x y : Int) : Int := wr (wr (a * wr (x - e)) + wr (c * wr (y - f)))
def mvG (l : List ByteArray) (a b c d e f : Int) (x y : Nat) : Nat := colr l (bkX a c e f x y) (bkX b d e f x y)
theorem t84 (n base : Nat) {m : M} {v : Value} {l : List ByteArray} (hv : Strs m v l) (hp : Pat l) {q1 q2 : Nat} {a b c d e f : Int} (h1 : m[q1]? = some (cellR [v])) (h2 : m[q2]? = some (cellR [vi a, vi b, vi c, vi d, vi e, vi f])) (x y : Nat) :
    rt (n + 3) base 84 [cV x y, pt q1 0, pt q2 0] m = some (.ret (.int .u8 (mvG l a b c d e f x y)), m) := by
  refine rt_pure (f := 84) (rf := rf84) (by kernel_rfl) (by kernel_rfl) (by kernel_rfl) (n + 2) base _ m (m ++ [cellR [vi x, vi y]]) _ ?_ rfl
  show r84 (rt (n + 2)) (n + 2) m.length (cV x y) (pt q1 0) (pt q2 0) m = _
  have hl1 := (List.getElem?_eq_some_iff.1 h1).1
  have hl2 := (List.getElem?_eq_some_iff.1 h2).1
  have g1 : (m ++ [cellR [vi x, vi y]])[q1]? = some (cellR [v]) := by rw [List.getElem?_append_left hl1]; exact h1
  have g2 : (m ++ [cellR [vi x, vi y]])[q2]? = some (cellR [vi a, vi b, vi c, vi d, vi e, vi f]) := by rw [List.getElem?_append_left hl2]; exact h2
  have g3 : (m ++ [cellR [vi x, vi y]])[m.length]? = some (cellR [vi x, vi y]) := by simp
  unfold r84
  rw [k1_fun, fVal_fun, bxa2, k2s, ld66' g1, k1s, ldb50 g2, k1s, ldb103 g3, k1s, t86, kB_same, kcs, t85 n _ (hv.app _) hp, kB_same, kcs]
  rfl
theorem kv84 (n base : Nat) (q1 q2 : Nat) (args : List Value) (m : M) : kv (rt n) base (.func (.func 84) #[] #[pt q1 0, pt q2 0]) args m = rt n base 84 (args ++ [pt q1 0, pt q2 0]) m := rfl
theorem bxS (m : M) {m1 : M} {v : Value} {l : List ByteArray} (hv : Strs m1 v l) : xbox m v = some (pt m.length 0, m ++ [cellR [v]]) := by
  rcases hv with ⟨_, rfl⟩ | ⟨p, row, rfl, _⟩
  · have e : xbox m nilS = xlen m fun k => xpush m (cellR [nilS]) fun m' => some (pt k 0, m') := by kernel_rfl
    rw [e, xlen_eq, fNat_eq, xpush_eq, fList_eq]
  · exact bxs m _ _ _
theorem t57 (n base : Nat) (hn : 40 ≤ n) {m : M} (hb : base ≤ m.length) {v : Value} {l : List ByteArray} (hv : Strs m v l) (hp : Pat l) (a b c d e f : Int) :
    ∃ v' m', rt (n + 1) base 57 [v, mV a b c d e f] m = some (.ret v', m') ∧ Strs m' v' (if a = 0 then drawG (mvG l a b c d e f) l.length (wid l) else drawG (mvG l a b c d e f) (wid l) l.length) ∧ Keeps m.length m m' ∧ (∃ r n0, v' = sl r n0 ∧ m.length ≤ r) := by
  rw [rt_imp (f := 57) (rf := rf57) (by kernel_rfl) (by kernel_rfl) (by kernel_rfl) n base]
  show ∃ v' m', r57 (rt n) n base v (mV a b c d e f) m = _ ∧ _
  have a1 := hp.h1; have a2 := hp.h6; have a3 := hp.w1; have a4 := hp.w6
  obtain ⟨k, rfl⟩ : ∃ k, n = k + 4 := ⟨n - 4, by omega⟩
  unfold r57
  rw [k1_fun, fVal_fun, vcall_fun, bxS m hv, k2s, bxa6, k2s]
  generalize hm2 : ((m ++ [cellR [v]]) ++ [cellR [vi a, vi b, vi c, vi d, vi e, vi f]]) = m2
  have hk2 : Keeps m.length m m2 := by rw [← hm2, List.append_assoc]; exact Keeps.push _ _ (Nat.le_refl _) _
  have hlen : (m ++ [cellR [v]]).length = m.length + 1 := by simp
  have g1 : m2[m.length]? = some (cellR [v]) := by rw [← hm2]; simp
  have g2 : m2[m.length + 1]? = some (cellR [vi a, vi b, vi c, vi d, vi e, vi f]) := by rw [← hm2]; simp
  have hv2 := hv.keeps hk2
  rw [hlen, ld66' g1, k1s, i0, hv2.get66 (by omega : 0 < l.length), len9, k2s, str_get (by omega : 0 < l.length), str_zero (by omega), ld66' g1, k1s, hv2.len66, k2s, ff50_0, k1s, ld3, box_cell g2 0 _ rfl, k1s, show (vi ((0 : Nat) : Int)) = vi 0 from rfl, eql3, k1s]
  have hcall : ∀ (w h : Nat) (m' : M) (x y : Nat), x < w → y < h → Keeps m2.length m2 m' → kv (rt (k + 3)) base (.func (.func 84) #[] #[pt m.length 0, pt (m.length + 1) 0]) [cV x y] m' = some (.ret (.int .u8 (mvG l a b c d e f x y)), m') := fun w h m' x y _ _ hk' => by
    rw [kv84]
    exact t84 k base (hv2.keeps hk') hp ((hk'.2 _ (List.getElem?_eq_some_iff.1 g1).1).trans g1) ((hk'.2 _ (List.getElem?_eq_some_iff.1 g2).1).trans g2) x y
  have hb2 : base ≤ m2.length := Nat.le_trans hb hk2.1
  by_cases h : a = 0
  · rw [decide_eq_true h, kbt, if_pos h]
    obtain ⟨v', m', e1, e2, e3, e4⟩ := t83 (k + 3) base (by omega) hb2 (fv := .func (.func 84) #[] #[pt m.length 0, pt (m.length + 1) 0]) (g := mvG l a b c d e f) (w := l.length) (h := wid l) (by omega) (by omega) (hcall _ _)
    rw [e1, kcs]
    refine ⟨v', m', rfl, e2, hk2.trans (e3.mono hk2.1), ?_⟩
    obtain ⟨r, n0, q1, q2⟩ := e4
    exact ⟨r, n0, q1, Nat.le_trans hk2.1 q2⟩
  · rw [decide_eq_false h, kbf, if_neg h]
    obtain ⟨v', m', e1, e2, e3, e4⟩ := t83 (k + 3) base (by omega) hb2 (fv := .func (.func 84) #[] #[pt m.length 0, pt (m.length + 1) 0]) (g := mvG l a b c d e f) (w := wid l) (h := l.length) (by omega) (by omega) (hcall _ _)
    rw [e1, kcs]
    refine ⟨v', m', rfl, e2, hk2.trans (e3.mono hk2.1), ?_⟩
    obtain ⟨r, n0, q1, q2⟩ := e4
    exact ⟨r, n0, q1, Nat.le_trans hk2.1 q2⟩
end Go.AM
namespace Go.AM
open Go Go.Proofs
theorem ga62e (base : Nat) (m : M) (a b : Value) : vcalln E.P base m .append [62, 62] [a, b] = xappend E.P base m [62, 62] a b := by kernel_rfl
theorem ga62nil (base : Nat) (m : M) (k c cap : Nat) (row : Row) (hk : m[k]? = some row) (hc : row.cells.length = c * 1) (h1 : 1 ≤ c) (h2 : c ≤ 100000) : xappend E.P base m [62, 62] (.slice none 0 0) (.slice (some ⟨k, 0, none⟩) c cap) = some (sl m.length c, m ++ [rowz 1 false row.cells]) := by
  have e : xappend E.P base m [62, 62] (.slice none 0 0) (.slice (some ⟨k, 0, none⟩) c cap) = match (xread m k 0 (c * 1)).map fun cs => (c, cs) with
    | none => none
    | some (n, news) => if n = 0 then some (.slice none 0 0, m) else if n > 2 ^ 38 then none else xlen m fun k => fList news fun cs => xpush m (rowz 1 false cs) fun m' => some (.slice (some ⟨k, 0, none⟩) n n, m') := by kernel_rfl
  have q1 : xread m k 0 (c * 1) = some row.cells := by
    rw [xread_eq]
    unfold mread
    rw [hk]
    simp only
    rw [if_pos (by omega), List.drop_zero, List.take_of_length_le (by omega)]
  rw [e, q1]
  simp only [Option.map_some]
  rw [if_neg (by omega), if_neg (by omega)]
  simp [xlen_eq, fNat_eq, xpush_eq, fList_eq]
theorem ga62some (base : Nat) (m : M) (r l k c cap : Nat) (ex : Bool) (cs : List Value) (row : Row) (hr : m[r]? = some (rowz 1 ex cs)) (hl : cs.length = l * 1) (h0 : ex = true ∨ 1 ≤ l) (h1 : 1 ≤ c) (h2 : l ≤ 100000) (h3 : c ≤ 100000) (hb : base ≤ r)
    (hk : m[k]? = some row) (hd : row.cells.length = c * 1) (hc : row.cells.all (·.oneCell') = true) : xappend E.P base m [62, 62] (sl r l) (.slice (some ⟨k, 0, none⟩) c cap) =
      some (sl m.length (l + c), (if ex then m else m.set r (rowz 1 false [])) ++ [rowz 1 false (cs ++ row.cells)]) := by
  have e : xappend E.P base m [62, 62] (sl r l) (.slice (some ⟨k, 0, none⟩) c cap) = match (xread m k 0 (c * 1)).map fun cs => (c, cs) with
    | none => none
    | some (n, news) =>
      if l + n ≤ l then if n = 0 then some (.slice (some ⟨r, 0, none⟩) l l, m) else
        (xwrite base m r (0 + l * 1) news).bind fun m' => fNat (l + n) fun k => some (.slice (some ⟨r, 0, none⟩) k l, m')
      else if l + n > 2 ^ 38 then none else
        match xget m r, xread m r 0 (l * 1) with
        | some row, some olds =>
          if row.esz ≠ 1 then none else
          xlen m fun k => fNat (l + n) fun c => fList (olds ++ news) fun cs =>
          if row.ex then xpush m (rowz 1 false cs) fun m' => some (.slice (some ⟨k, 0, none⟩) c c, m')
          else if row.cells.isEmpty then none
          else if news.all (·.oneCell') then xkill base m r fun m' => xpush m' (rowz 1 false cs) fun m' => some (.slice (some ⟨k, 0, none⟩) c c, m')
          else none
        | _, _ => none := by kernel_rfl
  rw [e]
  have q1 : xread m k 0 (c * 1) = some row.cells := by
    rw [xread_eq]
    unfold mread
    rw [hk]
    simp only
    rw [if_pos (by omega), List.drop_zero, List.take_of_length_le (by omega)]
  have q2 : xread m r 0 (l * 1) = some cs := by
    rw [xread_eq]
    unfold mread
    rw [hr]
    have hle : 0 + l * 1 ≤ (rowz 1 ex cs).cells.length := by show 0 + l * 1 ≤ cs.length; omega
    simp only
    rw [if_pos hle, List.drop_zero]
    exact congrArg some (List.take_of_length_le (by show cs.length ≤ _; omega))
  rw [q1, q2, xget_eq, hr]
  simp only [Option.map_some]
  rw [if_neg (by omega), if_neg (by omega), if_neg (by simp [rowz]), xlen_eq, fNat_eq, fNat_eq, fList_eq]
  cases ex with
  | true =>
    rw [if_pos (by simp [rowz])]
    simp [xpush_eq, fList_eq]
  | false =>
    rw [if_neg (by simp [rowz])]
    have ne : cs ≠ [] := by
      intro h
      rw [h] at hl
      simp at hl
      simp at h0
      omega
    rw [if_neg (by simp [rowz, ne]), if_pos (by exact hc), xkill_eq]
    unfold mkill
    rw [if_neg (by omega), hr]
    simp only [rowz, Bool.false_eq_true, if_false, fList_eq, Option.bind_some, xpush_eq]
theorem gb62 (m : M) (a : Int) : xbuildSlice E.P m 62 1 [(0, (.int .u8 a))] = some (sl m.length 1, m ++ [rowz 1 true [.int .u8 a]]) := by
  have : xbuildSlice E.P m 62 1 [(0, (.int .u8 a))] = xlen m fun n => xpush m (rowz 1 true [.int .u8 a]) fun m' => some (sl n 1, m') := by kernel_rfl
  rw [this, xlen_eq, fNat_eq, xpush_eq, fList_eq]
theorem gg62 {b base : Nat} {m : M} {v : Value} {cs : List Value} {n : Nat} (h : Grow 1 b m v cs n) (hn : n ≤ 1000) (hbb : base ≤ b) (hbm : b ≤ m.length) (a : Int) :
    ∃ v' m', (∀ k : Value → M → Res2, (k2 (xbuildSlice E.P m 62 1 [(0, (.int .u8 a))]) fun u m => k2 (vcalln E.P base m .append [62, 62] [v, u]) k) = k v' m') ∧ Grow 1 b m' v' (cs ++ [.int .u8 a]) (n + 1) ∧ Keeps b m m' ∧
      (∀ i, i < m.length → (∀ n0, v ≠ sl i n0) → m'[i]? = m[i]?) ∧ (∀ i n0, v' = sl i n0 → m.length ≤ i ∧ i < m'.length) := by
  have hk : (m ++ [rowz 1 true [.int .u8 a]])[m.length]? = some (rowz 1 true [.int .u8 a]) := by simp
  rcases h with ⟨rfl, rfl, rfl⟩ | ⟨r, h1, hb, rfl, hr, hl⟩
  · refine ⟨_, (m ++ [rowz 1 true [.int .u8 a]]) ++ [rowz 1 false [.int .u8 a]], fun k => ?_, .inr ⟨(m ++ [rowz 1 true [.int .u8 a]]).length, by omega, by simp; omega, rfl, ?_, by simp⟩, ?_, fun i hi _ => ?_, fun i n0 e => ?_⟩
    · rw [gb62]
      simp only [k2]
      rw [ga62e, ga62nil _ _ _ 1 _ _ hk rfl (by omega) (by omega)]
      rfl
    · simp
    · exact (Keeps.push b m hbm _).trans (Keeps.push b _ (by simp; omega) _)
    · rw [List.getElem?_append_left (by simp; omega), List.getElem?_append_left hi]
    · injection e with e1 e2
      simp at e1
      subst e1
      simp
  · have hlt : r < m.length := (List.getElem?_eq_some_iff.1 hr).1
    refine ⟨_, (m ++ [rowz 1 true [.int .u8 a]]).set r (rowz 1 false []) ++ [rowz 1 false (cs ++ [.int .u8 a])], fun k => ?_, .inr ⟨(m ++ [rowz 1 true [.int .u8 a]]).length, by omega, by simp; omega, rfl, ?_, by simp [hl, Nat.add_mul]⟩, ?_, fun i hi hv => ?_, fun i n0 e => ?_⟩
    · rw [gb62]
      simp only [k2]
      rw [ga62e, ga62some _ _ r n _ 1 _ false cs (rowz 1 true [.int .u8 a]) (by rw [List.getElem?_append_left hlt]; exact hr) hl (.inr h1) (by omega) (by omega) (by omega) (by omega) hk rfl rfl]
      rfl
    · simp
    · exact ((Keeps.push b m hbm _).trans (Keeps.set b _ r _ hb)).trans (Keeps.push b _ (by simp; omega) _)
    · have : r ≠ i := fun e => hv n (by rw [e])
      rw [List.getElem?_append_left (by simp; omega), List.getElem?_set_ne this, List.getElem?_append_left hi]
    · injection e with e1 e2
      simp at e1
      subst e1
      simp
theorem ga22e (base : Nat) (m : M) (a b : Value) : vcalln E.P base m .append [22, 22] [a, b] = xappend E.P base m [22, 22] a b := by kernel_rfl
theorem ga22nil (base : Nat) (m : M) (k c cap : Nat) (row : Row) (hk : m[k]? = some row) (hc : row.cells.length = c * 1) (h1 : 1 ≤ c) (h2 : c ≤ 100000) : xappend E.P base m [22, 22] (.slice none 0 0) (.slice (some ⟨k, 0, none⟩) c cap) = some (sl m.length c, m ++ [rowz 1 false row.cells]) := by
  have e : xappend E.P base m [22, 22] (.slice none 0 0) (.slice (some ⟨k, 0, none⟩) c cap) = match (xread m k 0 (c * 1)).map fun cs => (c, cs) with
    | none => none
    | some (n, news) => if n = 0 then some (.slice none 0 0, m) else if n > 2 ^ 38 then none else xlen m fun k => fList news fun cs => xpush m (rowz 1 false cs) fun m' => some (.slice (some ⟨k, 0, none⟩) n n, m') := by kernel_rfl
  have q1 : xread m k 0 (c * 1) = some row.cells := by
    rw [xread_eq]
    unfold mread
    rw [hk]
    simp only
    rw [if_pos (by omega), List.drop_zero, List.take_of_length_le (by omega)]
  rw [e, q1]
  simp only [Option.map_some]
  rw [if_neg (by omega), if_neg (by omega)]
  simp [xlen_eq, fNat_eq, xpush_eq, fList_eq]
theorem ga22some (base : Nat) (m : M) (r l k c cap : Nat) (ex : Bool) (cs : List Value) (row : Row) (hr : m[r]? = some (rowz 1 ex cs)) (hl : cs.length = l * 1) (h0 : ex = true ∨ 1 ≤ l) (h1 : 1 ≤ c) (h2 : l ≤ 100000) (h3 : c ≤ 100000) (hb : base ≤ r)
    (hk : m[k]? = some row) (hd : row.cells.length = c * 1) (hc : row.cells.all (·.oneCell') = true) : xappend E.P base m [22, 22] (sl r l) (.slice (some ⟨k, 0, none⟩) c cap) =
      some (sl m.length (l + c), (if ex then m else m.set r (rowz 1 false [])) ++ [rowz 1 false (cs ++ row.cells)]) := by
  have e : xappend E.P base m [22, 22] (sl r l) (.slice (some ⟨k, 0, none⟩) c cap) = match (xread m k 0 (c * 1)).map fun cs => (c, cs) with
    | none => none
    | some (n, news) =>
      if l + n ≤ l then if n = 0 then some (.slice (some ⟨r, 0, none⟩) l l, m) else
        (xwrite base m r (0 + l * 1) news).bind fun m' => fNat (l + n) fun k => some (.slice (some ⟨r, 0, none⟩) k l, m')
      else if l + n > 2 ^ 38 then none else
        match xget m r, xread m r 0 (l * 1) with
        | some row, some olds =>
          if row.esz ≠ 1 then none else
          xlen m fun k => fNat (l + n) fun c => fList (olds ++ news) fun cs =>
          if row.ex then xpush m (rowz 1 false cs) fun m' => some (.slice (some ⟨k, 0, none⟩) c c, m')
          else if row.cells.isEmpty then none
          else if news.all (·.oneCell') then xkill base m r fun m' => xpush m' (rowz 1 false cs) fun m' => some (.slice (some ⟨k, 0, none⟩) c c, m')
          else none
        | _, _ => none := by kernel_rfl
  rw [e]
  have q1 : xread m k 0 (c * 1) = some row.cells := by
    rw [xread_eq]
    unfold mread
    rw [hk]
    simp only
    rw [if_pos (by omega), List.drop_zero, List.take_of_length_le (by omega)]
  have q2 : xread m r 0 (l * 1) = some cs := by
    rw [xread_eq]
    unfold mread
    rw [hr]
    have hle : 0 + l * 1 ≤ (rowz 1 ex cs).cells.length := by show 0 + l * 1 ≤ cs.length; omega
    simp only
    rw [if_pos hle, List.drop_zero]
    exact congrArg some (List.take_of_length_le (by show cs.length ≤ _; omega))
  rw [q1, q2, xget_eq, hr]
  simp only [Option.map_some]
  rw [if_neg (by omega), if_neg (by omega), if_neg (by simp [rowz]), xlen_eq, fNat_eq, fNat_eq, fList_eq]
  cases ex with
  | true =>
    rw [if_pos (by simp [rowz])]
    simp [xpush_eq, fList_eq]
  | false =>
    rw [if_neg (by simp [rowz])]
    have ne : cs ≠ [] := by
      intro h
      rw [h] at hl
      simp at hl
      simp at h0
      omega
    rw [if_neg (by simp [rowz, ne]), if_pos (by exact hc), xkill_eq]
    unfold mkill
    rw [if_neg (by omega), hr]
    simp only [rowz, Bool.false_eq_true, if_false, fList_eq, Option.bind_some, xpush_eq]
theorem gb22 (m : M) (a : ByteArray) : xbuildSlice E.P m 22 1 [(0, (.string a))] = some (sl m.length 1, m ++ [rowz 1 true [.string a]]) := by
  have : xbuildSlice E.P m 22 1 [(0, (.string a))] = xlen m fun n => xpush m (rowz 1 true [.string a]) fun m' => some (sl n 1, m') := by kernel_rfl
  rw [this, xlen_eq, fNat_eq, xpush_eq, fList_eq]
theorem gg22 {b base : Nat} {m : M} {v : Value} {cs : List Value} {n : Nat} (h : Grow 1 b m v cs n) (hn : n ≤ 1000) (hbb : base ≤ b) (hbm : b ≤ m.length) (a : ByteArray) :
    ∃ v' m', (∀ k : Value → M → Res2, (k2 (xbuildSlice E.P m 22 1 [(0, (.string a))]) fun u m => k2 (vcalln E.P base m .append [22, 22] [v, u]) k) = k v' m') ∧ Grow 1 b m' v' (cs ++ [.string a]) (n + 1) ∧ Keeps b m m' ∧
      (∀ i, i < m.length → (∀ n0, v ≠ sl i n0) → m'[i]? = m[i]?) ∧ (∀ i n0, v' = sl i n0 → m.length ≤ i ∧ i < m'.length) := by
  have hk : (m ++ [rowz 1 true [.string a]])[m.length]? = some (rowz 1 true [.string a]) := by simp
  rcases h with ⟨rfl, rfl, rfl⟩ | ⟨r, h1, hb, rfl, hr, hl⟩
  · refine ⟨_, (m ++ [rowz 1 true [.string a]]) ++ [rowz 1 false [.string a]], fun k => ?_, .inr ⟨(m ++ [rowz 1 true [.string a]]).length, by omega, by simp; omega, rfl, ?_, by simp⟩, ?_, fun i hi _ => ?_, fun i n0 e => ?_⟩
    · rw [gb22]
      simp only [k2]
      rw [ga22e, ga22nil _ _ _ 1 _ _ hk rfl (by omega) (by omega)]
      rfl
    · simp
    · exact (Keeps.push b m hbm _).trans (Keeps.push b _ (by simp; omega) _)
    · rw [List.getElem?_append_left (by simp; omega), List.getElem?_append_left hi]
    · injection e with e1 e2
      simp at e1
      subst e1
      simp
  · have hlt : r < m.length := (List.getElem?_eq_some_iff.1 hr).1
    refine ⟨_, (m ++ [rowz 1 true [.string a]]).set r (rowz 1 false []) ++ [rowz 1 false (cs ++ [.string a])], fun k => ?_, .inr ⟨(m ++ [rowz 1 true [.string a]]).length, by omega, by simp; omega, rfl, ?_, by simp [hl, Nat.add_mul]⟩, ?_, fun i hi hv => ?_, fun i n0 e => ?_⟩
    · rw [gb22]
      simp only [k2]
      rw [ga22e, ga22some _ _ r n _ 1 _ false cs (rowz 1 true [.string a]) (by rw [List.getElem?_append_left hlt]; exact hr) hl (.inr h1) (by omega) (by omega) (by omega) (by omega) hk rfl rfl]
      rfl
    · simp
    · exact ((Keeps.push b m hbm _).trans (Keeps.set b _ r _ hb)).trans (Keeps.push b _ (by simp; omega) _)
    · have : r ≠ i := fun e => hv n (by rw [e])
      rw [List.getElem?_append_left (by simp; omega), List.getElem?_set_ne this, List.getElem?_append_left hi]
    · injection e with e1 e2
      simp at e1
      subst e1
      simp
def bytesG (g : Nat → Nat → Nat) (y j : Nat) : List Value := (List.range j).map fun x => .int .u8 ((g x y : Nat) : Int)
def strsG (g : Nat → Nat → Nat) (w j : Nat) : List Value := (List.range j).map fun y => .string (rowS g w y)
theorem bytesG_succ (g : Nat → Nat → Nat) (y j : Nat) : bytesG g y j ++ [.int .u8 ((g j y : Nat) : Int)] = bytesG g y (j + 1) := by
  unfold bytesG
  rw [List.range_succ, List.map_append]
  rfl
theorem strsG_succ (g : Nat → Nat → Nat) (w j : Nat) : strsG g w j ++ [.string (rowS g w j)] = strsG g w (j + 1) := by
  unfold strsG
  rw [List.range_succ, List.map_append]
  rfl
theorem cvG {m : M} {b w : Nat} {v : Value} {g : Nat → Nat → Nat} {y : Nat} (h : Grow 1 b m v (bytesG g y w) w) : mconv E.P m 62 9 v = some (.string (rowS g w y)) := by
  rcases h with ⟨h1, h2, h3⟩ | ⟨r, h1, h2, h3, h4, h5⟩
  · subst h1 h2
    exact cv62n m
  · subst h3
    exact cv62 m r w _ ((List.range w).map fun x => ((g x y : Nat) : Int)) h4 (by simp [rowz, bytesG]) (by simp)
theorem grow_strs {m : M} {b w h : Nat} {v : Value} {g : Nat → Nat → Nat} (hg : Grow 1 b m v (strsG g w h) h) : Strs m v (drawG g w h) := by
  rcases hg with ⟨h1, h2, h3⟩ | ⟨r, h1, h2, h3, h4, h5⟩
  · subst h1 h2
    exact .inl ⟨rfl, rfl⟩
  · refine .inr ⟨r, _, by simpa [drawG] using h3, h4, ?_⟩
    simp [rowz, strsG, drawG]
theorem r30_L2_s (call : CallF) (fuel base : Nat) (kp : Value → M → Res2) (kx2 : Value → Value → Value → Value → Value → Value → Value → M → Res2) (n : Nat) (x0 x3 x6 x7 x9 x10 x11 x12 : Value) (m : M) : r30_L2 call fuel base kp kx2 (n + 1) x0 x3 x6 x7 x9 x10 x11 x12 m =
    (k1n (mbin E .lss 3 x12 x6) fun v62_27 => (kb v62_27 (k1n (mfieldAddr E.P 50 x3 4) fun v66_28 => (k1n (xload E.P m 3 v66_28) fun v67_29 => (k1n (mbin E .sub 3 x12 v67_29) fun v68_30 => (k1n (mfieldAddr E.P 50 x3 5) fun v70_31 => (k1n (xload E.P m 3 v70_31) fun v71_32 => (k1n (mbin E .sub 3 x10 v71_32) fun v72_33 => (k1n (mfieldAddr E.P 50 x3 0) fun v75_34 => (k1n (xload E.P m 3 v75_34) fun v76_35 => (k1n (mbin E .mul 3 v76_35 v68_30) fun v78_36 => (k1n (mfieldAddr E.P 50 x3 2) fun v79_37 => (k1n (xload E.P m 3 v79_37) fun v80_38 => (k1n (mbin E .mul 3 v80_38 v72_33) fun v82_39 => (k1n (mbin E .add 3 v78_36 v82_39) fun v83_40 => (k1n (mfieldAddr E.P 50 x3 1) fun v84_41 => (k1n (xload E.P m 3 v84_41) fun v85_42 => (k1n (mbin E .mul 3 v85_42 v68_30) fun v87_43 => (k1n (mfieldAddr E.P 50 x3 3) fun v88_44 => (k1n (xload E.P m 3 v88_44) fun v89_45 => (k1n (mbin E .mul 3 v89_45 v72_33) fun v91_46 => (k1n (mbin E .add 3 v87_43 v91_46) fun v92_47 => (kc (call base 58 [x0, v83_40, v92_47] m) (fun v93_48 m => (k2 (xbuildSlice E.P m 62 1 [(0, v93_48)]) fun v94_49 m => (k2 (vcalln E.P base m .append [62, 62] [x11, v94_49]) fun v95_50 m => (k1n (mbin E .add 3 x12 (.int .i64 1)) fun v64_51 => (r30_L2 call fuel base kp kx2 n x0 x3 x6 x7 x9 x10 v95_50 v64_51 m))))) (fun v m => kp v m)))))))))))))))))))))) (kx2 x0 x3 x6 x7 x9 x10 x11 m))) := by
  unfold r30_L2
  rw [k1_fun, vcall_fun]
theorem r30_L0_s (call : CallF) (fuel base : Nat) (kp : Value → M → Res2) (kx0 : Value → M → Res2) (n : Nat) (x0 x3 x6 x7 x9 x10 : Value) (m : M) : r30_L0 call fuel base kp kx0 (n + 1) x0 x3 x6 x7 x9 x10 m =
    (k1n (mbin E .lss 3 x10 x7) fun v57_26 => (kb v57_26 (r30_L2 call fuel base (fun v m => kp v m) (fun y0_52 y3_53 y6_54 y7_55 y9_56 y10_57 y11_58 m => (k1n (mconv E.P m 62 9 y11_58) fun v98_59 => (k2 (xbuildSlice E.P m 22 1 [(0, v98_59)]) fun v99_60 m => (k2 (vcalln E.P base m .append [22, 22] [y9_56, v99_60]) fun v100_61 m => (k1n (mbin E .add 3 y10_57 (.int .i64 1)) fun v59_62 => (r30_L0 call fuel base kp kx0 n y0_52 y3_53 y6_54 y7_55 v100_61 v59_62 m)))))) fuel x0 x3 x6 x7 x9 x10 (.slice none 0 0) (.int .i64 0) m) (kx0 x9 m))) := by
  unfold r30_L0
  rw [k1_fun, vcall_fun]
theorem loop30b (call : CallF) (fuel base b : Nat) (kp : Value → M → Res2) (kx : Value → Value → Value → Value → Value → Value → Value → M → Res2) {m0 : M} {v : Value} {l : List ByteArray} {q w : Nat} {a b' c d e f : Int} (x7 x9 : Value) {y : Nat} (hb : base ≤ b) (hql : q < b) (hq : m0[q]? = some (cellR [vi a, vi b', vi c, vi d, vi e, vi f])) (hw : w ≤ 10)
    (h58 : ∀ (m : M) (x y : Int), Keeps b m0 m → call base 58 [v, vi x, vi y] m = some (.ret (.int .u8 (colr l x y)), m)) :
    ∀ (n j : Nat) (m : M) (x11 : Value), j ≤ w → w < n + j → b ≤ m.length → Keeps b m0 m → Grow 1 b m x11 (bytesG (mvG l a b' c d e f) y j) j →
      ∃ x' m', r30_L2 call fuel base kp kx n v (pt q 0) (vi w) x7 x9 (vi y) x11 (vi j) m = kx v (pt q 0) (vi w) x7 x9 (vi y) x' m' ∧ Grow 1 b m' x' (bytesG (mvG l a b' c d e f) y w) w ∧ Keeps b m0 m' ∧ b ≤ m'.length
  | 0, j, m, x11, hj, hn, _, _, _ => by omega
  | n + 1, j, m, x11, hj, hn, hbm, hk, hg => by
    have hq1 : m[q]? = some (cellR [vi a, vi b', vi c, vi d, vi e, vi f]) := (hk.2 q hql).trans hq
    rw [r30_L2_s, lss_nat, k1s]
    by_cases hlt : j < w
    · rw [decide_eq_true hlt, kbt, ff50_4, k1s, ld3, box_cell hq1 (0 + 4) _ rfl, k1s, sub3, k1s, ff50_5, k1s, ld3, box_cell hq1 (0 + 5) _ rfl, k1s, sub3, k1s, ff50_0, k1s, ld3, box_cell hq1 (0 + 0) _ rfl, k1s, mul3, k1s, ff50_2, k1s, ld3, box_cell hq1 (0 + 2) _ rfl, k1s, mul3, k1s, add3, k1s,
        ff50_1, k1s, ld3, box_cell hq1 (0 + 1) _ rfl, k1s, mul3, k1s, ff50_3, k1s, ld3, box_cell hq1 (0 + 3) _ rfl, k1s, mul3, k1s, add3, k1s, h58 m _ _ hk, kcs]
      obtain ⟨v1, m1, e1, g1, k1, _, _⟩ := gg62 hg (by omega) hb hbm ((mvG l a b' c d e f j y : Nat) : Int)
      have e2 := e1 fun v95 m => k1n (mbin E .add 3 (vi j) (.int .i64 1)) fun v64 => r30_L2 call fuel base kp kx n v (pt q 0) (vi w) x7 x9 (vi y) v95 v64 m
      refine Exists.elim (loop30b call fuel base b kp kx x7 x9 hb hql hq hw h58 n (j + 1) m1 v1 (by omega) (by omega) (Nat.le_trans hbm k1.1) (hk.trans k1) (by rw [← bytesG_succ]; exact g1)) fun x' hx => ?_
      obtain ⟨m', e3, g3, k3, l3⟩ := hx
      refine ⟨x', m', ?_, g3, k3, l3⟩
      refine Eq.trans e2 ?_
      rw [add1 j (by omega), k1s]
      exact e3
    · have : j = w := by omega
      subst this
      rw [decide_eq_false hlt, kbf]
      exact ⟨x11, m, rfl, hg, hk, hbm⟩
theorem loop30 (call : CallF) (fuel base b : Nat) (hf : 20 ≤ fuel) (kp : Value → M → Res2) (kx : Value → M → Res2) {m0 : M} {v : Value} {l : List ByteArray} {q w h : Nat} {a b' c d e f : Int} (hb : base ≤ b) (hql : q < b) (hq : m0[q]? = some (cellR [vi a, vi b', vi c, vi d, vi e, vi f])) (hw : w ≤ 10) (hh : h ≤ 10)
    (h58 : ∀ (m : M) (x y : Int), Keeps b m0 m → call base 58 [v, vi x, vi y] m = some (.ret (.int .u8 (colr l x y)), m)) :
    ∀ (n j : Nat) (m : M) (x9 : Value), j ≤ h → h < n + j → b ≤ m.length → Keeps b m0 m → Grow 1 b m x9 (strsG (mvG l a b' c d e f) w j) j →
      ∃ x' m', r30_L0 call fuel base kp kx n v (pt q 0) (vi w) (vi h) x9 (vi j) m = kx x' m' ∧ Grow 1 b m' x' (strsG (mvG l a b' c d e f) w h) h ∧ Keeps b m0 m'
  | 0, j, m, x9, hj, hn, _, _, _ => by omega
  | n + 1, j, m, x9, hj, hn, hbm, hk, hg => by
    rw [r30_L0_s, lss_nat, k1s]
    by_cases hlt : j < h
    · rw [decide_eq_true hlt, kbt, i0]
      obtain ⟨x1, m1, e1, g1, k1, l1⟩ := loop30b call fuel base m.length (fun v m => kp v m) (fun y0 y3 y6 y7 y9 y10 y11 m => k1n (mconv E.P m 62 9 y11) fun v98 => k2 (xbuildSlice E.P m 22 1 [(0, v98)]) fun v99 m => k2 (vcalln E.P base m .append [22, 22] [y9, v99]) fun v100 m => k1n (mbin E .add 3 y10 (.int .i64 1)) fun v59 => r30_L0 call fuel base kp kx n y0 y3 y6 y7 v100 v59 m) (m0 := m) (l := l) (vi h) x9 (y := j) (Nat.le_trans hb hbm) (by omega) ((hk.2 q hql).trans hq) hw (fun m2 x y hk2 => h58 m2 x y (hk.trans (hk2.mono hbm))) fuel 0 m nilS (by omega) (by omega) (Nat.le_refl _) (Keeps.refl _ _) (.inl ⟨rfl, rfl, rfl⟩)
      rw [e1, cvG g1, k1s]
      have g9 : Grow 1 b m1 x9 (strsG (mvG l a b' c d e f) w j) j := by
        rcases hg with hg | ⟨r, q1, q2, q3, q4, q5⟩
        · exact .inl hg
        · exact .inr ⟨r, q1, q2, q3, (k1.2 r (List.getElem?_eq_some_iff.1 q4).1).trans q4, q5⟩
      obtain ⟨v2, m2, e2, g2, k2', _, _⟩ := gg22 g9 (by omega) hb (Nat.le_trans hbm l1) (rowS (mvG l a b' c d e f) w j)
      have e2' := e2 fun v100 m => k1n (mbin E .add 3 (vi j) (.int .i64 1)) fun v59 => r30_L0 call fuel base kp kx n v (pt q 0) (vi w) (vi h) v100 v59 m
      obtain ⟨x', m', e3, g3, k3⟩ := loop30 call fuel base b hf kp kx hb hql hq hw hh h58 n (j + 1) m2 v2 (by omega) (by omega) (Nat.le_trans (Nat.le_trans hbm l1) k2'.1) (hk.trans ((k1.mono hbm).trans k2')) (by rw [← strsG_succ]; exact g2)
      refine ⟨x', m', ?_, g3, k3⟩
      refine Eq.trans e2' ?_
      rw [add1 j (by omega), k1s]
      exact e3
    · have : j = h := by omega
      subst this
      rw [decide_eq_false hlt, kbf]
      exact ⟨x9, m, rfl, hg, hk⟩
/-- What Apply hands back. -/
def apL (l : List ByteArray) (a b c d e f : Int) : List ByteArray := if (isP l && isM a b c d e f) = true then (if a = 0 then drawG (mvG l a b c d e f) l.length (wid l) else drawG (mvG l a b c d e f) (wid l) l.length) else []
def apE (l : List ByteArray) (a b c d e f : Int) : Int := if (isP l && isM a b c d e f) = true then 0 else 2
theorem t29 (n base : Nat) (hn : 60 ≤ n) {m : M} (hb : base ≤ m.length) {v : Value} {l : List ByteArray} (hv : Strs m v l) (a b c d e f : Int) :
    ∃ v' m', rt (n + 1) base 29 [v, mV a b c d e f] m = some (.ret (.tuple #[v', vi (apE l a b c d e f)]), m') ∧ Strs m' v' (apL l a b c d e f) ∧ Keeps m.length m m' := by
  rw [rt_imp (f := 29) (rf := rf29) (by kernel_rfl) (by kernel_rfl) (by kernel_rfl) n base]
  show ∃ v' m', r29 (rt n) n base v (mV a b c d e f) m = _ ∧ _
  obtain ⟨k, rfl⟩ : ∃ k, n = k + 1 := ⟨n - 1, by omega⟩
  have hk1 : Keeps m.length m (m ++ [cellR [vi a, vi b, vi c, vi d, vi e, vi f]]) := Keeps.push _ _ (Nat.le_refl _) _
  have hv1 := hv.keeps hk1
  have hq : (m ++ [cellR [vi a, vi b, vi c, vi d, vi e, vi f]])[m.length]? = some (cellR [vi a, vi b, vi c, vi d, vi e, vi f]) := by simp
  unfold r29 apE apL
  rw [k1_fun, bxa6, k2s, t40 k base (by omega) hv1, kcs, not4, k1s]
  cases hP : isP l with
  | false =>
    rw [Bool.not_false, kbt, Bool.false_and]
    exact ⟨nilS, _, rfl, .inl ⟨rfl, rfl⟩, hk1⟩
  | true =>
    have hp := isP_iff.1 hP
    rw [Bool.not_true, kbf, ldb50 hq, k1s, t56 k base (by omega), kcs, not4, k1s, Bool.true_and]
    cases hM : isM a b c d e f with
    | false =>
      rw [Bool.not_false, kbt]
      exact ⟨nilS, _, rfl, .inl ⟨rfl, rfl⟩, hk1⟩
    | true =>
      rw [Bool.not_true, kbf, ldb50 hq, k1s]
      obtain ⟨v', m', e1, e2, e3, _⟩ := t57 k base (by omega) (m := m ++ [cellR [vi a, vi b, vi c, vi d, vi e, vi f]]) (by simp; omega) hv1 hp a b c d e f
      rw [e1, kcs]
      exact ⟨v', m', rfl, e2, hk1.trans (e3.mono hk1.1)⟩
theorem ko_lt {a b c d : Int} : decide (koV (a, b, c, d) < 0) = !decide (0 ≤ koV (a, b, c, d)) := by
  by_cases h : 0 ≤ koV (a, b, c, d)
  · rw [decide_eq_true h, decide_eq_false (by omega)]; rfl
  · rw [decide_eq_false h, decide_eq_true (by omega)]; rfl
theorem t30 (n base : Nat) (hn : 60 ≤ n) {m : M} (hb : base ≤ m.length) {v : Value} {l : List ByteArray} (hv : Strs m v l) (a b c d e f : Int) :
    ∃ v' m', rt (n + 1) base 30 [v, mV a b c d e f] m = some (.ret (.tuple #[v', vi (apE l a b c d e f)]), m') ∧ Strs m' v' (apL l a b c d e f) ∧ Keeps m.length m m' := by
  rw [rt_imp (f := 30) (rf := rf30) (by kernel_rfl) (by kernel_rfl) (by kernel_rfl) n base]
  show ∃ v' m', r30 (rt n) n base v (mV a b c d e f) m = _ ∧ _
  obtain ⟨k, rfl⟩ : ∃ k, n = k + 2 := ⟨n - 2, by omega⟩
  have hk1 : Keeps m.length m (m ++ [cellR [vi a, vi b, vi c, vi d, vi e, vi f]]) := Keeps.push _ _ (Nat.le_refl _) _
  have hv1 := hv.keeps hk1
  have hq : (m ++ [cellR [vi a, vi b, vi c, vi d, vi e, vi f]])[m.length]? = some (cellR [vi a, vi b, vi c, vi d, vi e, vi f]) := by simp
  have bad : ∃ v' m', (some (.ret (.tuple #[(.slice none 0 0), (.int .i64 2)]), m ++ [cellR [vi a, vi b, vi c, vi d, vi e, vi f]]) : Res2) = some (.ret (.tuple #[v', vi (if false = true then 0 else 2)]), m') ∧ Strs m' v' (if false = true then (if a = 0 then drawG (mvG l a b c d e f) l.length (wid l) else drawG (mvG l a b c d e f) (wid l) l.length) else []) ∧ Keeps m.length m m' :=
    ⟨nilS, _, rfl, .inl ⟨rfl, rfl⟩, hk1⟩
  unfold r30 apE apL
  rw [k1_fun, vcall_fun, bxa6, k2s, t33 (k + 1) base (by omega) hv1, kcs, not4, k1s]
  cases hP : isP l with
  | false =>
    rw [Bool.not_false, kbt, Bool.false_and]
    exact bad
  | true =>
    have hp := isP_iff.1 hP
    have a1 := hp.h1; have a2 := hp.h6; have a3 := hp.w1; have a4 := hp.w6
    rw [Bool.not_true, kbf, ldb50 hq, k1s, t35 (k + 1) base (by omega), kcs, show (.int .i64 0 : Value) = vi 0 from rfl, show (.int .i64 (-1000) : Value) = vi (-1000) from rfl, show (.int .i64 1000 : Value) = vi 1000 from rfl, lss3, k1s, Bool.true_and]
    unfold isM
    rw [ko_lt]
    cases hK : decide (0 ≤ koV (a, b, c, d)) with
    | false =>
      rw [Bool.not_false, kbt, Bool.false_and]
      exact bad
    | true =>
      rw [Bool.not_true, kbf, ff50_4, k1s, ld3, box_cell hq (0 + 4) _ rfl, k1s, lss3, k1s, Bool.true_and]
      by_cases h1 : e < -1000
      · rw [decide_eq_true h1, kbt, decide_eq_false (by omega : ¬ (-1000 ≤ e ∧ e ≤ 1000)), Bool.false_and]
        exact bad
      · rw [decide_eq_false h1, kbf, k1s, ld3, box_cell hq (0 + 4) _ rfl, k1s, gtr3, k1s]
        by_cases h2 : e > 1000
        · rw [decide_eq_true h2, kbt, decide_eq_false (by omega : ¬ (-1000 ≤ e ∧ e ≤ 1000)), Bool.false_and]
          exact bad
        · rw [decide_eq_false h2, kbf, ff50_5, k1s, ld3, box_cell hq (0 + 5) _ rfl, k1s, lss3, k1s, decide_eq_true (by omega : (-1000 ≤ e ∧ e ≤ 1000)), Bool.true_and]
          by_cases h3 : f < -1000
          · rw [decide_eq_true h3, kbt, decide_eq_false (by omega : ¬ (-1000 ≤ f ∧ f ≤ 1000))]
            exact bad
          · rw [decide_eq_false h3, kbf, k1s, ld3, box_cell hq (0 + 5) _ rfl, k1s, gtr3, k1s]
            by_cases h4 : f > 1000
            · rw [decide_eq_true h4, kbt, decide_eq_false (by omega : ¬ (-1000 ≤ f ∧ f ≤ 1000))]
              exact bad
            · rw [decide_eq_false h4, kbf, decide_eq_true (by omega : (-1000 ≤ f ∧ f ≤ 1000)), show (vi 0 : Value) = vi ((0 : Nat) : Int) from rfl, hv1.get (by omega : 0 < l.length), len9, k2s, str_get (by omega : 0 < l.length), str_zero (by omega), hv1.len22, k2s, ff50_0, k1s, ld3, box_cell hq (0 + 0) _ rfl, k1s, show (vi ((0 : Nat) : Int)) = vi 0 from rfl, eql3, k1s]
              have hlen : (m ++ [cellR [vi a, vi b, vi c, vi d, vi e, vi f]]).length = m.length + 1 := by simp
              have h58 : ∀ (m2 : M) (x y : Int), Keeps (m.length + 1) (m ++ [cellR [vi a, vi b, vi c, vi d, vi e, vi f]]) m2 → rt (k + 2) base 58 [v, vi x, vi y] m2 = some (.ret (.int .u8 (colr l x y)), m2) := fun m2 x y hk2 => t58 k base (hv1.keeps (by rw [hlen]; exact hk2)) hp x y
              have hz : (vi 0 : Value) = vi ((0 : Nat) : Int) := rfl
              by_cases h : a = 0
              · rw [decide_eq_true h, kbt, if_pos h, hz]
                obtain ⟨x', m', e1, g1, k1⟩ := loop30 (rt (k + 2)) (k + 2) base (m.length + 1) (by omega) (fun v m => some (.pan v, m)) (fun y9 m => some (.ret (.tuple #[y9, (.int .i64 0)]), m)) (m0 := m ++ [cellR [vi a, vi b, vi c, vi d, vi e, vi f]]) (l := l) (w := l.length) (h := wid l) (by omega) (by omega) hq (by omega) (by omega) h58 (k + 2) 0 _ nilS (by omega) (by omega) (by omega) (Keeps.refl _ _) (.inl ⟨rfl, rfl, rfl⟩)
                refine ⟨x', m', e1, grow_strs g1, hk1.trans (k1.mono (by omega))⟩
              · rw [decide_eq_false h, kbf, if_neg h, hz]
                obtain ⟨x', m', e1, g1, k1⟩ := loop30 (rt (k + 2)) (k + 2) base (m.length + 1) (by omega) (fun v m => some (.pan v, m)) (fun y9 m => some (.ret (.tuple #[y9, (.int .i64 0)]), m)) (m0 := m ++ [cellR [vi a, vi b, vi c, vi d, vi e, vi f]]) (l := l) (w := wid l) (h := l.length) (by omega) (by omega) hq (by omega) (by omega) h58 (k + 2) 0 _ nilS (by omega) (by omega) (by omega) (Keeps.refl _ _) (.inl ⟨rfl, rfl, rfl⟩)
                refine ⟨x', m', e1, grow_strs g1, hk1.trans (k1.mono (by omega))⟩
end Go.AM
namespace Go.AM
open Go Go.Proofs
theorem colr_mod {l : List ByteArray} {x y x2 y2 : Int} (h1 : x % (wid l : Int) = x2 % (wid l : Int)) (h2 : y % (l.length : Int) = y2 % (l.length : Int)) : colr l x y = colr l x2 y2 := by
  unfold colr
  rw [h1, h2]
theorem tk_id {e : Int} {x : Nat} (h0 : -100000 ≤ e) (h1 : e ≤ 100000) (hx : x ≤ 1000) (y : Int) : tkX 1 0 e (x : Int) y = x + e := by
  unfold tkX
  rw [Int.one_mul, Int.zero_mul, wr_small (n := (x : Int)) (by omega) (by omega), wr_small (n := 0) (by omega) (by omega), Int.add_zero, wr_small (n := (x : Int)) (by omega) (by omega), wr_small (by omega) (by omega)]
theorem tk_id2 {e : Int} {x : Nat} (h0 : -100000 ≤ e) (h1 : e ≤ 100000) (hx : x ≤ 1000) (y : Int) : tkX 0 1 e y (x : Int) = x + e := by
  unfold tkX
  rw [Int.one_mul, Int.zero_mul, wr_small (n := (x : Int)) (by omega) (by omega), wr_small (n := 0) (by omega) (by omega), Int.zero_add, wr_small (n := (x : Int)) (by omega) (by omega), wr_small (by omega) (by omega)]
theorem Pat.sd_ge {l : List ByteArray} (h : Pat l) : wid l ≤ AM.sd l ∧ l.length ≤ AM.sd l := by
  obtain ⟨s1, s2, s3, s4⟩ := h.sd
  exact ⟨Nat.le_of_dvd s3 (Nat.dvd_of_mod_eq_zero s1), Nat.le_of_dvd s3 (Nat.dvd_of_mod_eq_zero s2)⟩
theorem trB_iff {l : List ByteArray} (hp : Pat l) {e f : Int} (he : 0 ≤ e ∧ e ≤ 1000) (hf : 0 ≤ f ∧ f ≤ 1000) : trB l e f = true ↔ ∀ x y : Int, colr l x y = colr l (x + e) (y + f) := by
  have a1 := hp.h1; have a2 := hp.h6; have a3 := hp.w1; have a4 := hp.w6
  unfold trB
  rw [allFrom_iff]
  simp only [allFrom_iff, trL, decide_eq_true_eq, Nat.zero_add, Nat.zero_le, true_implies]
  constructor
  · intro h x y
    obtain ⟨i1, i2, i3, i4⟩ := hp.ix x y
    have := h _ i1 _ i2
    rw [wr_small (by omega) (by omega), wr_small (by omega) (by omega), i3, i4] at this
    rw [colr_mod (x2 := x % (wid l : Int)) (y2 := y % (l.length : Int)) (by rw [Int.emod_emod_of_dvd _ (Int.dvd_refl _)]) (by rw [Int.emod_emod_of_dvd _ (Int.dvd_refl _)]), this]
    exact colr_mod (by rw [Int.emod_add_emod]) (by rw [Int.emod_add_emod])
  · intro h y hy x hx
    rw [wr_small (by omega) (by omega), wr_small (by omega) (by omega)]
    exact h x y
theorem keeps_tr {l : List ByteArray} (hp : Pat l) {e f : Int} (he : 0 ≤ e ∧ e ≤ 1000) (hf : 0 ≤ f ∧ f ≤ 1000) : keepsB l 1 0 0 1 e f = trB l e f := by
  have a1 := hp.h1; have a2 := hp.h6; have a3 := hp.w1; have a4 := hp.w6
  obtain ⟨s1, s2, s3, s4⟩ := hp.sd
  obtain ⟨g1, g2⟩ := hp.sd_ge
  rw [Bool.eq_iff_iff, trB_iff hp he hf]
  unfold keepsB
  rw [allFrom_iff]
  simp only [allFrom_iff, kpL, decide_eq_true_eq, Nat.zero_add, Nat.zero_le, true_implies]
  constructor
  · intro h x y
    obtain ⟨i1, i2, i3, i4⟩ := hp.ix x y
    have := h _ (Nat.lt_of_lt_of_le i1 g2) _ (Nat.lt_of_lt_of_le i2 g1)
    rw [tk_id (by omega) (by omega) (by omega), tk_id2 (by omega) (by omega) (by omega), i3, i4] at this
    rw [colr_mod (x2 := x % (wid l : Int)) (y2 := y % (l.length : Int)) (by rw [Int.emod_emod_of_dvd _ (Int.dvd_refl _)]) (by rw [Int.emod_emod_of_dvd _ (Int.dvd_refl _)]), this]
    exact colr_mod (by rw [Int.emod_add_emod]) (by rw [Int.emod_add_emod])
  · intro h y hy x hx
    rw [tk_id (by omega) (by omega) (by omega), tk_id2 (by omega) (by omega) (by omega)]
    exact h x y
theorem tr_w {l : List ByteArray} (hp : Pat l) : trB l (wid l) 0 = true := by
  have a4 := hp.w6
  rw [trB_iff hp (by omega) (by omega)]
  intro x y
  exact colr_mod (by rw [Int.add_emod_right]) (by rw [Int.add_zero])
theorem tr_h {l : List ByteArray} (hp : Pat l) : trB l 0 l.length = true := by
  have a4 := hp.h6
  rw [trB_iff hp (by omega) (by omega)]
  intro x y
  exact colr_mod (by rw [Int.add_zero]) (by rw [Int.add_emod_right])
/-- The first number from j on. -/
def fst (P : Nat → Bool) : Nat → Nat → Nat
  | 0, j => j
  | k + 1, j => if P j then j else fst P k (j + 1)
theorem fst_le {P : Nat → Bool} {W : Nat} (h : P W = true) : ∀ k j, j ≤ W → W ≤ j + k → j ≤ fst P k j ∧ fst P k j ≤ W ∧ P (fst P k j) = true
  | 0, j, h1, h2 => by
    have : j = W := by omega
    subst this
    exact ⟨Nat.le_refl _, Nat.le_refl _, h⟩
  | k + 1, j, h1, h2 => by
    unfold fst
    by_cases hj : P j = true
    · rw [if_pos hj]; exact ⟨Nat.le_refl _, h1, hj⟩
    · rw [if_neg hj]
      have hne : j ≠ W := fun e => hj (e ▸ h)
      have := fst_le h k (j + 1) (by omega) (by omega)
      exact ⟨by omega, this.2.1, this.2.2⟩
def smW (l : List ByteArray) : Nat := fst (fun w => trB l w 0) 6 1
def smH (l : List ByteArray) : Nat := fst (fun h => trB l 0 h) 6 1
def colN (l : List ByteArray) (x y : Nat) : Nat := colr l x y
theorem smW_le {l : List ByteArray} (hp : Pat l) : 1 ≤ smW l ∧ smW l ≤ wid l ∧ trB l (smW l) 0 = true := by
  have := hp.w1; have := hp.w6
  exact fst_le (P := fun w => trB l w 0) (tr_w hp) 6 1 (by omega) (by omega)
theorem smH_le {l : List ByteArray} (hp : Pat l) : 1 ≤ smH l ∧ smH l ≤ l.length ∧ trB l 0 (smH l) = true := by
  have := hp.h1; have := hp.h6
  exact fst_le (P := fun h => trB l 0 h) (tr_h hp) 6 1 (by omega) (by omega)
theorem r59_L0_s (call : CallF) (fuel base : Nat) (kp : Value → M → Res2) (kx0 : Value → Value → Value → M → Res2) (n : Nat) (x0 x3 x4 : Value) (m : M) : r59_L0 call fuel base kp kx0 (n + 1) x0 x3 x4 m =
    (kc (call base 64 [(.int .i64 0), x3, (.int .i64 0)] m) (fun v7_1 m => (kc (call base 63 [x0, v7_1] m) (fun v8_2 m => (k1n (mun .not v8_2) fun v9_3 => (kb v9_3 (k1n (mbin E .add 3 x3 (.int .i64 1)) fun v11_4 => (r59_L0 call fuel base kp kx0 n x0 v11_4 x4 m)) (kx0 x0 x3 x4 m)))) (fun v m => kp v m))) (fun v m => kp v m)) := by
  unfold r59_L0
  rw [k1_fun]
theorem r59_L2_s (call : CallF) (fuel base : Nat) (kp : Value → M → Res2) (kx2 : Value → Value → Value → M → Res2) (n : Nat) (x0 x3 x4 : Value) (m : M) : r59_L2 call fuel base kp kx2 (n + 1) x0 x3 x4 m =
    (kc (call base 64 [(.int .i64 0), (.int .i64 0), x4] m) (fun v14_8 m => (kc (call base 63 [x0, v14_8] m) (fun v15_9 m => (k1n (mun .not v15_9) fun v16_10 => (kb v16_10 (k1n (mbin E .add 3 x4 (.int .i64 1)) fun v18_11 => (r59_L2 call fuel base kp kx2 n x0 x3 v18_11 m)) (kx2 x0 x3 x4 m)))) (fun v m => kp v m))) (fun v m => kp v m)) := by
  unfold r59_L2
  rw [k1_fun]
theorem kV0 (e f : Int) : kV 0 e f = mV 1 0 0 1 e f := rfl
theorem loop59a (call : CallF) (fuel base : Nat) (kp : Value → M → Res2) (kx : Value → Value → Value → M → Res2) {m : M} {v : Value} {l : List ByteArray} (hp : Pat l) (x4 : Value) (h64 : ∀ e f : Int, call base 64 [vi 0, vi e, vi f] m = some (.ret (kV 0 e f), m))
    (h63 : ∀ e f : Int, call base 63 [v, mV 1 0 0 1 e f] m = some (.ret (.bool (keepsB l 1 0 0 1 e f)), m)) :
    ∀ (k n j : Nat), k < n → 1 ≤ j → j + k = 7 → j ≤ wid l → r59_L0 call fuel base kp kx n v (vi j) x4 m = kx v (vi (fst (fun w => trB l w 0) k j)) x4 m
  | _, 0, j, hk, h1, hj, hw => by omega
  | 0, n + 1, j, hk, h1, hj, hw => by have := hp.w6; omega
  | k + 1, n + 1, j, hk, h1, hj, hw => by
    have a4 := hp.w6
    rw [r59_L0_s, show (.int .i64 0 : Value) = vi 0 from rfl, h64, kcs, kV0, h63, kcs, not4, k1s, keeps_tr hp (by omega) (by omega)]
    unfold fst
    cases h : trB l (j : Int) 0 with
    | true =>
      rw [Bool.not_true, kbf]
      rfl
    | false =>
      have : j ≠ wid l := fun e => by rw [e, tr_w hp] at h; simp at h
      rw [Bool.not_false, kbt, add1 j (by omega), k1s, loop59a call fuel base kp kx hp x4 h64 h63 k n (j + 1) (by omega) (by omega) (by omega) (by omega)]
      rfl
theorem loop59b (call : CallF) (fuel base : Nat) (kp : Value → M → Res2) (kx : Value → Value → Value → M → Res2) {m : M} {v : Value} {l : List ByteArray} (hp : Pat l) (x3 : Value) (h64 : ∀ e f : Int, call base 64 [vi 0, vi e, vi f] m = some (.ret (kV 0 e f), m))
    (h63 : ∀ e f : Int, call base 63 [v, mV 1 0 0 1 e f] m = some (.ret (.bool (keepsB l 1 0 0 1 e f)), m)) :
    ∀ (k n j : Nat), k < n → 1 ≤ j → j + k = 7 → j ≤ l.length → r59_L2 call fuel base kp kx n v x3 (vi j) m = kx v x3 (vi (fst (fun w => trB l 0 w) k j)) m
  | _, 0, j, hk, h1, hj, hw => by omega
  | 0, n + 1, j, hk, h1, hj, hw => by have := hp.h6; omega
  | k + 1, n + 1, j, hk, h1, hj, hw => by
    have a4 := hp.h6
    rw [r59_L2_s, show (.int .i64 0 : Value) = vi 0 from rfl, h64, kcs, kV0, h63, kcs, not4, k1s, keeps_tr hp (by omega) (by omega)]
    unfold fst
    cases h : trB l 0 (j : Int) with
    | true =>
      rw [Bool.not_true, kbf]
      rfl
    | false =>
      have : j ≠ l.length := fun e => by rw [e, tr_h hp] at h; simp at h
      rw [Bool.not_false, kbt, add1 j (by omega), k1s, loop59b call fuel base kp kx hp x3 h64 h63 k n (j + 1) (by omega) (by omega) (by omega) (by omega)]
      rfl
theorem t59 (n base : Nat) (hn : 60 ≤ n) {m : M} (hb : base ≤ m.length) {v : Value} {l : List ByteArray} (hv : Strs m v l) (hp : Pat l) :
    ∃ v' m', rt (n + 1) base 59 [v] m = some (.ret v', m') ∧ Strs m' v' (drawG (colN l) (smW l) (smH l)) ∧ Keeps m.length m m' := by
  rw [rt_imp (f := 59) (rf := rf59) (by kernel_rfl) (by kernel_rfl) (by kernel_rfl) n base]
  show ∃ v' m', r59 (rt n) n base v m = _ ∧ _
  obtain ⟨k, rfl⟩ : ∃ k, n = k + 3 := ⟨n - 3, by omega⟩
  have a1 := hp.h1; have a2 := hp.h6; have a3 := hp.w1; have a4 := hp.w6
  have h64 : ∀ e f : Int, rt (k + 3) base 64 [vi 0, vi e, vi f] m = some (.ret (kV 0 e f), m) := fun e f => t64 (k + 2) base 0 (by omega) e f m
  have h63 : ∀ e f : Int, rt (k + 3) base 63 [v, mV 1 0 0 1 e f] m = some (.ret (.bool (keepsB l 1 0 0 1 e f)), m) := fun e f => t63 (k + 2) base (by omega) hv hp 1 0 0 1 e f
  unfold r59
  rw [fVal_fun, show (.int .i64 1 : Value) = vi ((1 : Nat) : Int) from rfl, loop59a (rt (k + 3)) (k + 3) base _ _ hp _ h64 h63 6 (k + 3) 1 (by omega) (by omega) rfl a3, loop59b (rt (k + 3)) (k + 3) base _ _ hp _ h64 h63 6 (k + 3) 1 (by omega) (by omega) rfl a1]
  obtain ⟨w1, w2, _⟩ := smW_le hp
  obtain ⟨h1, h2, _⟩ := smH_le hp
  obtain ⟨v', m', e1, e2, e3, _⟩ := t83 (k + 2) base (by omega) hb (fv := .func (.func 85) #[v] #[]) (g := colN l) (w := smW l) (h := smH l) (by omega) (by omega) (fun m' x y _ _ hk => by
    show rt (k + 2) base 85 ([v] ++ [cV x y] ++ []) m' = _
    exact t85 k base (hv.keeps hk) hp x y)
  show ∃ v' m', kc (rt (k + 3) base 83 [vi (smW l), vi (smH l), .func (.func 85) #[v] #[]] m) _ _ = _ ∧ _
  rw [e1, kcs]
  exact ⟨v', m', rfl, e2, e3⟩
theorem cut_row {l : List ByteArray} (hp : Pat l) {w y : Nat} (hw : w ≤ wid l) (hy : y < l.length) : (str l y).extract 0 w = rowS (colN l) w y := by
  have hs := (hp.row y hy).1
  have a1 := hp.h1; have a3 := hp.w1
  have hd : ∀ i (hi : i < w), (str l y).data[i]'(by show i < (str l y).size; omega) = UInt8.ofNat (colN l i y) := fun i hi => by
    have e1 : ((y : Int) % (l.length : Int)).toNat = y := by rw [Int.emod_eq_of_lt (by omega) (by omega)]; omega
    have e2 : ((i : Int) % (wid l : Int)).toNat = i := by rw [Int.emod_eq_of_lt (by omega) (by omega)]; omega
    unfold colN colr
    rw [e1, e2]
    unfold byt
    have hi2 : i < (str l y).size := by omega
    have e3 : (str l y)[i]? = some (str l y)[i] := by simp [getElem?_pos, hi2]
    rw [e3]
    simp only [Option.getD_some]
    show (str l y)[i] = _
    simp
  have key : ((str l y).extract 0 w).data = (rowS (colN l) w y).data := by
    rw [ByteArray.data_extract]
    apply Array.ext
    · simp only [Array.size_extract, rowS, strOfNums, List.size_toArray, List.length_map, List.length_range]
      have : (str l y).data.size = wid l := hs
      omega
    · intro i h1 h2
      have hi : i < w := by simp only [Array.size_extract] at h1; omega
      rw [Array.getElem_extract]
      simp only [Nat.zero_add]
      rw [hd i hi]
      simp [rowS, strOfNums]
  exact ByteArray.ext key
theorem sl9 (m : M) (s : ByteArray) (w : Nat) (hw : w ≤ s.size) : mslice E.P m 9 (.string s) none (some (vi w)) none = some (.string (s.extract 0 w)) := by
  have e : mslice E.P m 9 (.string s) none (some (vi w)) none = match (if (0 : Int) ≤ (w : Int) then some ((w : Int).toNat) else none) with
    | some h => if h ≤ s.size ∧ 0 ≤ h then some (.string (s.extract 0 h)) else none
    | none => none := by kernel_rfl
  rw [e, if_pos (by omega)]
  simp only [Int.toNat_natCast]
  rw [if_pos ⟨hw, Nat.zero_le _⟩]
theorem r32_L0_s (call : CallF) (fuel base : Nat) (kp : Value → M → Res2) (kx0 : Value → Value → Value → M → Res2) (n : Nat) (x0 x4 x5 : Value) (m : M) : r32_L0 call fuel base kp kx0 (n + 1) x0 x4 x5 m =
    (kc (call base 60 [x0, x4, (.int .i64 0)] m) (fun v13_3 m => (k1n (mun .not v13_3) fun v14_4 => (kb v14_4 (k1n (mbin E .add 3 x4 (.int .i64 1)) fun v16_5 => (r32_L0 call fuel base kp kx0 n x0 v16_5 x5 m)) (kx0 x0 x4 x5 m)))) (fun v m => kp v m)) := by
  unfold r32_L0
  rw [k1_fun]
theorem r32_L2_s (call : CallF) (fuel base : Nat) (kp : Value → M → Res2) (kx2 : Value → Value → Value → M → Res2) (n : Nat) (x0 x4 x5 : Value) (m : M) : r32_L2 call fuel base kp kx2 (n + 1) x0 x4 x5 m =
    (kc (call base 60 [x0, (.int .i64 0), x5] m) (fun v19_9 m => (k1n (mun .not v19_9) fun v20_10 => (kb v20_10 (k1n (mbin E .add 3 x5 (.int .i64 1)) fun v22_11 => (r32_L2 call fuel base kp kx2 n x0 x4 v22_11 m)) (kx2 x0 x4 x5 m)))) (fun v m => kp v m)) := by
  unfold r32_L2
  rw [k1_fun]
theorem r32_L4_s (call : CallF) (fuel base : Nat) (kx4 : Value → M → Res2) (n : Nat) (x0 x4 x5 x6 x7 : Value) (m : M) : r32_L4 call fuel base kx4 (n + 1) x0 x4 x5 x6 x7 m =
    (k1n (mbin E .lss 3 x7 x5) fun v25_15 => (kb v25_15 (k1n (mindexAddr E.P 22 x0 x7) fun v31_16 => (k1n (xload E.P m 9 v31_16) fun v32_17 => (k1n (mslice E.P m 9 v32_17 none (some x4) none) fun v34_18 => (k2 (xbuildSlice E.P m 22 1 [(0, v34_18)]) fun v35_19 m => (k2 (vcalln E.P base m .append [22, 22] [x6, v35_19]) fun v36_20 m => (k1n (mbin E .add 3 x7 (.int .i64 1)) fun v27_21 => (r32_L4 call fuel base kx4 n x0 x4 x5 v36_20 v27_21 m))))))) (kx4 x6 m))) := by
  unfold r32_L4
  rw [k1_fun, vcall_fun]
theorem loop32a (call : CallF) (fuel base : Nat) (kp : Value → M → Res2) (kx : Value → Value → Value → M → Res2) {m : M} {v : Value} {l : List ByteArray} (hp : Pat l) (x5 : Value)
    (h60 : ∀ e f : Int, call base 60 [v, vi e, vi f] m = some (.ret (.bool (trB l e f)), m)) :
    ∀ (k n j : Nat), k < n → 1 ≤ j → j + k = 7 → j ≤ wid l → r32_L0 call fuel base kp kx n v (vi j) x5 m = kx v (vi (fst (fun w => trB l w 0) k j)) x5 m
  | _, 0, j, hk, h1, hj, hw => by omega
  | 0, n + 1, j, hk, h1, hj, hw => by have := hp.w6; omega
  | k + 1, n + 1, j, hk, h1, hj, hw => by
    have a4 := hp.w6
    rw [r32_L0_s, show (.int .i64 0 : Value) = vi 0 from rfl, h60, kcs, not4, k1s]
    unfold fst
    cases h : trB l (j : Int) 0 with
    | true =>
      rw [Bool.not_true, kbf]
      rfl
    | false =>
      have : j ≠ wid l := fun e => by rw [e, tr_w hp] at h; simp at h
      rw [Bool.not_false, kbt, add1 j (by omega), k1s, loop32a call fuel base kp kx hp x5 h60 k n (j + 1) (by omega) (by omega) (by omega) (by omega)]
      rfl
theorem loop32b (call : CallF) (fuel base : Nat) (kp : Value → M → Res2) (kx : Value → Value → Value → M → Res2) {m : M} {v : Value} {l : List ByteArray} (hp : Pat l) (x4 : Value)
    (h60 : ∀ e f : Int, call base 60 [v, vi e, vi f] m = some (.ret (.bool (trB l e f)), m)) :
    ∀ (k n j : Nat), k < n → 1 ≤ j → j + k = 7 → j ≤ l.length → r32_L2 call fuel base kp kx n v x4 (vi j) m = kx v x4 (vi (fst (fun w => trB l 0 w) k j)) m
  | _, 0, j, hk, h1, hj, hw => by omega
  | 0, n + 1, j, hk, h1, hj, hw => by have := hp.h6; omega
  | k + 1, n + 1, j, hk, h1, hj, hw => by
    have a4 := hp.h6
    rw [r32_L2_s, show (.int .i64 0 : Value) = vi 0 from rfl, h60, kcs, not4, k1s]
    unfold fst
    cases h : trB l 0 (j : Int) with
    | true =>
      rw [Bool.not_true, kbf]
      rfl
    | false =>
      have : j ≠ l.length := fun e => by rw [e, tr_h hp] at h; simp at h
      rw [Bool.not_false, kbt, add1 j (by omega), k1s, loop32b call fuel base kp kx hp x4 h60 k n (j + 1) (by omega) (by omega) (by omega) (by omega)]
      rfl
theorem loop32c (call : CallF) (fuel base b : Nat) (kx : Value → M → Res2) {m0 : M} {v : Value} {l : List ByteArray} (hv : Strs m0 v l) (hp : Pat l) {w h : Nat} (hw : w ≤ wid l) (hh : h ≤ l.length) (hb : base ≤ b) (hb0 : b = m0.length) :
    ∀ (n j : Nat) (m : M) (x6 : Value), j ≤ h → h < n + j → Keeps b m0 m → Grow 1 b m x6 (strsG (colN l) w j) j →
      ∃ x' m', r32_L4 call fuel base kx n v (vi w) (vi h) x6 (vi j) m = kx x' m' ∧ Grow 1 b m' x' (strsG (colN l) w h) h ∧ Keeps b m0 m'
  | 0, j, m, x6, hj, hn, hk, hg => by omega
  | n + 1, j, m, x6, hj, hn, hk, hg => by
    have a2 := hp.h6
    subst hb0
    rw [r32_L4_s, lss_nat, k1s]
    by_cases hlt : j < h
    · rw [decide_eq_true hlt, kbt, (hv.keeps hk).get (by omega : j < l.length), str_get (by omega : j < l.length), sl9 _ _ _ (by rw [(hp.row j (by omega)).1]; exact hw), k1s, cut_row hp hw (by omega)]
      obtain ⟨v1, m1, e1, g1, k1, _, _⟩ := gg22 hg (by omega) hb hk.1 (rowS (colN l) w j)
      have e2 := e1 fun v36 m => k1n (mbin E .add 3 (vi j) (.int .i64 1)) fun v27 => r32_L4 call fuel base kx n v (vi w) (vi h) v36 v27 m
      obtain ⟨x', m', e3, g3, k3⟩ := loop32c call fuel base m0.length kx hv hp hw hh hb rfl n (j + 1) m1 v1 (by omega) (by omega) (hk.trans k1) (by rw [← strsG_succ]; exact g1)
      refine ⟨x', m', ?_, g3, k3⟩
      refine Eq.trans e2 ?_
      rw [add1 j (by omega), k1s]
      exact e3
    · have : j = h := by omega
      subst this
      rw [decide_eq_false hlt, kbf]
      exact ⟨x6, m, rfl, hg, hk⟩
def smL (l : List ByteArray) : List ByteArray := if isP l = true then drawG (colN l) (smW l) (smH l) else []
def smE (l : List ByteArray) : Int := if isP l = true then 0 else 2
theorem t31 (n base : Nat) (hn : 70 ≤ n) {m : M} (hb : base ≤ m.length) {v : Value} {l : List ByteArray} (hv : Strs m v l) :
    ∃ v' m', rt (n + 1) base 31 [v] m = some (.ret (.tuple #[v', vi (smE l)]), m') ∧ Strs m' v' (smL l) ∧ Keeps m.length m m' := by
  rw [rt_imp (f := 31) (rf := rf31) (by kernel_rfl) (by kernel_rfl) (by kernel_rfl) n base]
  show ∃ v' m', r31 (rt n) n base v m = _ ∧ _
  obtain ⟨k, rfl⟩ : ∃ k, n = k + 1 := ⟨n - 1, by omega⟩
  unfold r31 smE smL
  rw [k1_fun, t40 k base (by omega) hv, kcs, not4, k1s]
  cases hP : isP l with
  | false =>
    rw [Bool.not_false, kbt]
    exact ⟨nilS, _, rfl, .inl ⟨rfl, rfl⟩, Keeps.refl _ _⟩
  | true =>
    rw [Bool.not_true, kbf]
    obtain ⟨v', m', e1, e2, e3⟩ := t59 k base (by omega) hb hv (isP_iff.1 hP)
    rw [e1, kcs]
    exact ⟨v', m', rfl, e2, e3⟩
theorem t32 (n base : Nat) (hn : 70 ≤ n) {m : M} (hb : base ≤ m.length) {v : Value} {l : List ByteArray} (hv : Strs m v l) :
    ∃ v' m', rt (n + 1) base 32 [v] m = some (.ret (.tuple #[v', vi (smE l)]), m') ∧ Strs m' v' (smL l) ∧ Keeps m.length m m' := by
  rw [rt_imp (f := 32) (rf := rf32) (by kernel_rfl) (by kernel_rfl) (by kernel_rfl) n base]
  show ∃ v' m', r32 (rt n) n base v m = _ ∧ _
  obtain ⟨k, rfl⟩ : ∃ k, n = k + 2 := ⟨n - 2, by omega⟩
  unfold r32 smE smL
  rw [k1_fun, t33 (k + 1) base (by omega) hv, kcs, not4, k1s]
  cases hP : isP l with
  | false =>
    rw [Bool.not_false, kbt]
    exact ⟨nilS, _, rfl, .inl ⟨rfl, rfl⟩, Keeps.refl _ _⟩
  | true =>
    have hp := isP_iff.1 hP
    have a1 := hp.h1; have a2 := hp.h6; have a3 := hp.w1; have a4 := hp.w6
    have h60 : ∀ e f : Int, rt (k + 2) base 60 [v, vi e, vi f] m = some (.ret (.bool (trB l e f)), m) := fun e f => t60 (k + 1) base (by omega) hv hp e f
    rw [Bool.not_true, kbf, show (.int .i64 1 : Value) = vi ((1 : Nat) : Int) from rfl, loop32a (rt (k + 2)) (k + 2) base _ _ hp _ h60 6 (k + 2) 1 (by omega) (by omega) rfl a3, loop32b (rt (k + 2)) (k + 2) base _ _ hp _ h60 6 (k + 2) 1 (by omega) (by omega) rfl a1, i0]
    obtain ⟨w1, w2, _⟩ := smW_le hp
    obtain ⟨h1, h2, _⟩ := smH_le hp
    obtain ⟨x', m', e3, g3, k3⟩ := loop32c (rt (k + 2)) (k + 2) base m.length (fun y6 m => some (.ret (.tuple #[y6, vi ((0 : Nat) : Int)]), m)) hv hp w2 h2 hb rfl (k + 2) 0 m nilS (by omega) (by omega) (Keeps.refl _ _) (.inl ⟨rfl, rfl, rfl⟩)
    refine ⟨x', m', e3, ?_, k3⟩
    exact grow_strs g3
end Go.AM
namespace Go.AM
open Go Go.Proofs
theorem r19_L0_s (call : CallF) (fuel base : Nat) (kr : Value → M → Res2) (kx0 : M → Res2) (n : Nat) (x0 x1 x5 : Value) (m : M) : r19_L0 call fuel base kr kx0 (n + 1) x0 x1 x5 m =
    (k2 (vcalln E.P base m .len [22] [x0]) fun v13_4 m => (k1n (mbin E .lss 3 x5 v13_4) fun v14_5 => (kb v14_5 (k1n (mindexAddr E.P 22 x0 x5) fun v19_6 => (k1n (xload E.P m 9 v19_6) fun v20_7 => (k1n (mindexAddr E.P 22 x1 x5) fun v23_8 => (k1n (xload E.P m 9 v23_8) fun v24_9 => (k1n (mbin E .neq 9 v20_7 v24_9) fun v25_10 => (kb v25_10 (kr (.bool false) m) (k1n (mbin E .add 3 x5 (.int .i64 1)) fun v16_11 => (r19_L0 call fuel base kr kx0 n x0 x1 v16_11 m)))))))) (kx0 m)))) := by
  unfold r19_L0
  rw [k1_fun, vcall_fun]
theorem loop19 (call : CallF) (fuel base : Nat) (kr : Value → M → Res2) (kx : M → Res2) {m : M} {v u : Value} {l : List ByteArray} (hv : Strs m v l) (hu : Strs m u l) (hl : l.length ≤ 1000) :
    ∀ (n j : Nat), j ≤ l.length → l.length < n + j → r19_L0 call fuel base kr kx n v u (vi j) m = kx m
  | 0, j, hj, hn => by omega
  | n + 1, j, hj, hn => by
    rw [r19_L0_s, hv.len22, k2s, lss_nat, k1s]
    by_cases hlt : j < l.length
    · rw [decide_eq_true hlt, kbt, hv.get hlt, hu.get hlt, neq9, k1s, decide_eq_true rfl, Bool.not_true, kbf, add1 j (by omega), k1s]
      exact loop19 call fuel base kr kx hv hu hl n (j + 1) (by omega) (by omega)
    · rw [decide_eq_false hlt, kbf]
theorem t19 (n base : Nat) {m : M} {v u : Value} {l : List ByteArray} (hv : Strs m v l) (hu : Strs m u l) (hl : l.length ≤ 1000) (hn : l.length < n) : rt (n + 1) base 19 [v, u] m = some (.ret (.bool true), m) := by
  refine rt_pure (f := 19) (rf := rf19) (by kernel_rfl) (by kernel_rfl) (by kernel_rfl) n base _ m m _ ?_ rfl
  show r19 (rt n) n m.length v u m = _
  unfold r19
  rw [fVal_fun, k1_fun, vcall_fun, hv.len22, k2s, hu.len22, k2s, neq3, k1s, decide_eq_true rfl, Bool.not_true, kbf, i0, loop19 _ _ _ _ _ hv hu hl n 0 (by omega) (by omega)]
theorem n50 (a b c d e f : Int) : mbin E .neq 50 (mV a b c d e f) (mV a b c d e f) = some (.bool false) := by
  have hq : mbin E .neq 50 (mV a b c d e f) (mV a b c d e f) = (match a == a with
    | true => (match b == b with
      | true => (match c == c with
        | true => (match d == d with
          | true => (match e == e with
            | true => (match f == f with
              | true => some true
              | false => some false)
            | false => some false)
          | false => some false)
        | false => some false)
      | false => some false)
    | false => some false).map fun b => .bool (!b) := by kernel_rfl
  rw [hq]
  simp only [beq_self_eq_true]
  rfl
theorem len_ap (l : List ByteArray) (a b c d e f : Int) : (apL l a b c d e f).length ≤ 6 := by
  unfold apL
  split
  · rename_i h
    simp only [Bool.and_eq_true] at h
    have hp := isP_iff.1 h.1
    have := hp.h6; have := hp.w6
    split <;> simp [drawG] <;> omega
  · simp
theorem len_sm (l : List ByteArray) : (smL l).length ≤ 6 := by
  unfold smL
  split
  · rename_i h
    have hp := isP_iff.1 h
    have := hp.h6
    have := (smH_le hp).2.1
    simp [drawG]; omega
  · simp
theorem ex0 (a b : Value) : mextract 0 (.tuple #[a, b]) = some a := by kernel_rfl
theorem ex1 (a b : Value) : mextract 1 (.tuple #[a, b]) = some b := by kernel_rfl
theorem t27 (n base : Nat) (a b c d e f a2 b2 c2 d2 e2 f2 : Int) : ∃ p q r s t u : Int, ∀ m : M, rt (n + 1) base 27 [mV a b c d e f, mV a2 b2 c2 d2 e2 f2] m = some (.ret (mV p q r s t u), m) ∧ rt (n + 1) base 28 [mV a b c d e f, mV a2 b2 c2 d2 e2 f2] m = some (.ret (mV p q r s t u), m) :=
  ⟨_, _, _, _, _, _, fun m => ⟨rt_sc (v := .agg #[vi (wr (wr (a2 * a) + wr (b2 * c))), vi (wr (wr (a2 * b) + wr (b2 * d))), vi (wr (wr (c2 * a) + wr (d2 * c))), vi (wr (wr (c2 * b) + wr (d2 * d))), vi (wr (wr (wr (a2 * e) + wr (b2 * f)) + e2)), vi (wr (wr (wr (c2 * e) + wr (d2 * f)) + f2))]) (by kernel_rfl) n base, rt_sc (by kernel_rfl) n base⟩⟩
theorem t5 (n base : Nat) (hn : 100 ≤ n) {m : M} (hb : base ≤ m.length) {v : Value} {l : List ByteArray} (hv : Strs m v l) (a b c d e f a2 b2 c2 d2 e2 f2 : Int) :
    ∃ m', rt (n + 1) base 5 [v, mV a b c d e f, mV a2 b2 c2 d2 e2 f2] m = some (.ret (.bool true), m') := by
  rw [rt_imp (f := 5) (rf := rf5) (by kernel_rfl) (by kernel_rfl) (by kernel_rfl) n base]
  show ∃ m', r5 (rt n) n base v (mV a b c d e f) (mV a2 b2 c2 d2 e2 f2) m = _
  obtain ⟨k, rfl⟩ : ∃ k, n = k + 1 := ⟨n - 1, by omega⟩
  unfold r5
  rw [k1_fun, fVal_fun, bxa6, k2s, bxa6, k2s]
  generalize hm2 : ((m ++ [cellR [vi a, vi b, vi c, vi d, vi e, vi f]]) ++ [cellR [vi a2, vi b2, vi c2, vi d2, vi e2, vi f2]]) = m2
  have hk2 : Keeps m.length m m2 := by rw [← hm2, List.append_assoc]; exact Keeps.push _ _ (Nat.le_refl _) _
  have hlen : (m ++ [cellR [vi a, vi b, vi c, vi d, vi e, vi f]]).length = m.length + 1 := by simp
  have g1 : m2[m.length]? = some (cellR [vi a, vi b, vi c, vi d, vi e, vi f]) := by rw [← hm2]; simp
  have g2 : m2[m.length + 1]? = some (cellR [vi a2, vi b2, vi c2, vi d2, vi e2, vi f2]) := by rw [← hm2]; simp
  have hv2 := hv.keeps hk2
  have hb2 : base ≤ m2.length := Nat.le_trans hb hk2.1
  obtain ⟨bb, e10, _⟩ := t10 k base (by omega) hv2
  rw [hlen, e10, kcs, not4, k1s]
  cases bb with
  | false =>
    rw [Bool.not_false, kbt, rt11, kcs]
    exact ⟨_, rfl⟩
  | true =>
    obtain ⟨p, q, r, s, t, u, h27⟩ := t27 k m2.length a b c d e f a2 b2 c2 d2 e2 f2
    rw [Bool.not_true, kbf, ldb50 g1, k1s, ldb50 g2, k1s, (h27 m2).1, kB_same, kcs, ldb50 g1, k1s, ldb50 g2, k1s, (h27 m2).2, kB_same, kcs, n50, k1s, kbf, ldb50 g1, k1s]
    obtain ⟨v3, m3, e29, s3, k3⟩ := t29 k base (by omega) hb2 hv2 a b c d e f
    have g3 := (k3.2 _ (List.getElem?_eq_some_iff.1 g1).1).trans g1
    have hb3 : base ≤ m3.length := Nat.le_trans hb2 k3.1
    have hv3 := hv2.keeps k3
    obtain ⟨v4, m4, e30, s4, k4⟩ := t30 k base (by omega) hb3 hv3 a b c d e f
    have hb4 : base ≤ m4.length := Nat.le_trans hb3 k4.1
    have hv4 := hv3.keeps k4
    obtain ⟨v5, m5, e31, s5, k5⟩ := t31 k base (by omega) hb4 hv4
    have hb5 : base ≤ m5.length := Nat.le_trans hb4 k5.1
    have hv5 := hv4.keeps k5
    obtain ⟨v6, m6, e32, s6, k6⟩ := t32 k base (by omega) hb5 hv5
    have l1 := len_ap l a b c d e f
    have l2 := len_sm l
    rw [e29, kcs, ex0, k1s, ex1, k1s, ldb50 g3, k1s, e30, kcs, ex0, k1s, ex1, k1s, neq27, k1s, decide_eq_true rfl, Bool.not_true, kbf, t19 k base (s3.keeps k4) s4 (by omega) (by omega), kcs, not4, k1s, Bool.not_true, kbf,
      e31, kcs, ex0, k1s, ex1, k1s, e32, kcs, ex0, k1s, ex1, k1s, eql27, k1s, decide_eq_true rfl, kbt, t19 k base (s5.keeps k6) s6 (by omega) (by omega), kcs, kbt, rt11, kcs]
    exact ⟨_, rfl⟩
end Go.AM
