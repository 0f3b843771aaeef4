import Derived.KernelRfl
import Derived.Laws.BytesArg
import Derived.Laws.StructEq
import Derived.Test.YtnmdpolgbdkffaaDoorRows
import Derived.WalkKit
import Derived.Test.YtnmdpolgbdkffaaDoorAmB
import Derived.Test.YtnmdpolgbdkffaaDoorAmModel
import Derived.Test.YtnmdpolgbdkffaaDoorAmOps6
import Derived.Test.YtnmdpolgbdkffaaDoorAmCode
import Derived.Test.YtnmdpolgbdkffaaDoorAmK2
import Derived.Test.YtnmdpolgbdkffaaDoorAmEq
import Derived.Test.YtnmdpolgbdkffaaDoorRBase
import Derived.Test.YtnmdpolgbdkffaaDoorR81
import Derived.Test.YtnmdpolgbdkffaaDoorAmS
import Derived.Test.YtnmdpolgbdkffaaDoorS11
import Derived.Test.YtnmdpolgbdkffaaDoorFL
set_option linter.unusedVariables false
set_option linter.unusedSimpArgs false
set_option linter.unusedSectionVars false
namespace Go.AM
open Go Go.Proofs
structure Pat (l : List ByteArray) : Prop where
  h1 : 1 ≤ l.length
  h6 : l.length ≤ 6
  w1 : 1 ≤ wid l
  w6 : wid l ≤ 6
  row : ∀ j, j < l.length → (str l j).size = wid l ∧ okRow (str l j) = true
theorem isP_iff {l : List ByteArray} : isP l = true ↔ Pat l := by
  unfold isP
  simp only [Bool.and_eq_true, decide_eq_true_eq, allFrom_iff, Nat.zero_add, okLine]
  constructor
  · rintro ⟨a, b, c, d, e⟩
    exact ⟨a, b, c, d, fun j hj => e j (Nat.zero_le _) hj⟩
  · rintro ⟨a, b, c, d, e⟩
    exact ⟨a, b, c, d, fun j _ hj => e j hj⟩
theorem wr_small {n : Int} (h0 : -1000000000000 ≤ n) (h1 : n ≤ 1000000000000) : wr n = n := wr_id (by omega) (by omega)
theorem tmod_md (a n : Int) (h1 : 1 ≤ n) (h2 : n ≤ 1000000) : (wr (a.tmod n + n)).tmod n = a % n ∧ 0 ≤ a % n ∧ a % n < n := by
  have hb := Int.emod_nonneg a (by omega : n ≠ 0)
  have hc := Int.emod_lt_of_pos a (by omega : 0 < n)
  have e : a.tmod n = if 0 ≤ a ∨ n ∣ a then a % n else a % n - n := by
    rw [Int.tmod_eq_emod]
    split
    · omega
    · rw [Int.natAbs_of_nonneg (by omega)]
  refine ⟨?_, hb, hc⟩
  rw [e]
  split
  · rw [wr_small (by omega) (by omega), Int.tmod_eq_emod_of_nonneg (by omega), Int.add_emod_right, Int.emod_emod_of_dvd _ (Int.dvd_refl n)]
  · rw [show a % n - n + n = a % n by omega, wr_small (by omega) (by omega), Int.tmod_eq_emod_of_nonneg hb, Int.emod_emod_of_dvd _ (Int.dvd_refl n)]
theorem t101 (n base : Nat) (m : M) (a b : Int) (h1 : 1 ≤ b) (h2 : b ≤ 1000000) : rt (n + 1) base 101 [vi a, vi b] m = some (.ret (vi (a % b)), m) := by
  refine rt_pure (f := 101) (rf := rf101) (by kernel_rfl) (by kernel_rfl) (by kernel_rfl) n base _ m m _ ?_ rfl
  show r101 (rt n) n m.length (vi a) (vi b) m = _
  unfold r101
  rw [k1_fun, fVal_fun, rem3 _ _ (by omega), k1s, add3, k1s, rem3 _ _ (by omega), k1s, (tmod_md a b h1 h2).1]
/-- The colour of a cell of the floor. -/
def colr (l : List ByteArray) (x y : Int) : Nat := byt (str l (y % (l.length : Int)).toNat) (x % (wid l : Int)).toNat
theorem Pat.ix {l : List ByteArray} (h : Pat l) (x y : Int) : (y % (l.length : Int)).toNat < l.length ∧ (x % (wid l : Int)).toNat < wid l ∧ ((y % (l.length : Int)).toNat : Int) = y % (l.length : Int) ∧ ((x % (wid l : Int)).toNat : Int) = x % (wid l : Int) := by
  have a := h.h1
  have b := h.w1
  have p1 := Int.emod_nonneg y (by omega : (l.length : Int) ≠ 0)
  have p2 := Int.emod_lt_of_pos y (by omega : (0 : Int) < l.length)
  have p3 := Int.emod_nonneg x (by omega : (wid l : Int) ≠ 0)
  have p4 := Int.emod_lt_of_pos x (by omega : (0 : Int) < wid l)
  omega
theorem t85 (n base : Nat) {m : M} {v : Value} {l : List ByteArray} (hv : Strs m v l) (hp : Pat l) (x y : Int) : rt (n + 2) base 85 [v, cV x y] m = some (.ret (.int .u8 (colr l x y)), m) := by
  refine rt_pure (f := 85) (rf := rf85) (by kernel_rfl) (by kernel_rfl) (by kernel_rfl) (n + 1) base _ m (m ++ [cellR [vi x, vi y]]) _ ?_ rfl
  show r85 (rt (n + 1)) (n + 1) m.length v (cV x y) m = _
  have hq : (m ++ [cellR [vi x, vi y]])[m.length]? = some (cellR [vi x, vi y]) := by simp
  have hv1 := hv.app [cellR [vi x, vi y]]
  obtain ⟨i1, i2, i3, i4⟩ := hp.ix x y
  have a1 := hp.h1; have a2 := hp.h6; have a3 := hp.w1; have a4 := hp.w6
  unfold r85
  rw [k1_fun, vcall_fun, fVal_fun, bxa2, k2s, ff103_1, k1s, ld3, box_cell hq 1 _ rfl, k1s, hv1.len66, k2s, t101 n _ _ _ _ (by omega) (by omega), kcs, ← i3, hv1.get66 i1, ff103_0, k1s, ld3, box_cell hq 0 _ rfl, k1s, len9, k2s, str_get i1, (hp.row _ i1).1, t101 n _ _ _ _ (by omega) (by omega), kcs, ← i4, byt_get _ _ (by rw [(hp.row _ i1).1]; exact i2), k1s]
  rfl
abbrev Q4 := Int × Int × Int × Int
theorem kV_eq (k : Nat) (e f : Int) : kV k e f = mV (kindT k).1 (kindT k).2.1 (kindT k).2.2.1 (kindT k).2.2.2 e f := rfl
theorem lss8 (j : Nat) : mbin E .lss 3 (vi (j : Int)) (.int .i64 8) = some (.bool (decide (j < 8))) := lss_nat j 8
end Go.AM
namespace Go.AM
open Go Go.Proofs
/-- The side of a square that repeats both ways. -/
def sdF (w h : Nat) : Nat → Nat → Nat
  | 0, s => s
  | k + 1, s => if s % w = 0 then s else sdF w h k (s + h)
def sd (l : List ByteArray) : Nat := sdF (wid l) l.length 8 l.length
theorem sd_tab : ((List.range 7).all fun w => (List.range 7).all fun h => (w == 0 || h == 0) || (sdF w h 8 h % w == 0 && sdF w h 8 h % h == 0 && Nat.ble 1 (sdF w h 8 h) && Nat.ble (sdF w h 8 h) 36)) = true := by decide +kernel
theorem sd_all (w : Nat) (hw : w < 7) (h : Nat) (hh : h < 7) (w1 : 1 ≤ w) (h1 : 1 ≤ h) : sdF w h 8 h % w = 0 ∧ sdF w h 8 h % h = 0 ∧ 1 ≤ sdF w h 8 h ∧ sdF w h 8 h ≤ 36 := by
  have a := List.all_eq_true.1 (List.all_eq_true.1 sd_tab w (List.mem_range.2 hw)) h (List.mem_range.2 hh)
  simp only [Bool.or_eq_true, Bool.and_eq_true, beq_iff_eq, Nat.ble_eq] at a
  omega
theorem allFrom_succ (P : Nat → Bool) (k j : Nat) : allFrom P (k + 1) j = (P j && allFrom P k (j + 1)) := rfl
theorem Pat.sd {l : List ByteArray} (h : Pat l) : sd l % wid l = 0 ∧ sd l % l.length = 0 ∧ 1 ≤ AM.sd l ∧ AM.sd l ≤ 36 := by
  have := sd_all (wid l) (by have := h.w6; omega) l.length (by have := h.h6; omega) h.w1 h.h1
  exact this
/-- Where a move takes a cell, as ints do. -/
def tkX (a b e : Int) (x y : Int) : Int := wr (wr (wr (a * x) + wr (b * y)) + e)
def kpL (l : List ByteArray) (a b c d e f : Int) (y x : Nat) : Bool := decide (colr l x y = colr l (tkX a b e x y) (tkX c d f x y))
def keepsB (l : List ByteArray) (a b c d e f : Int) : Bool := allFrom (fun y => allFrom (kpL l a b c d e f y) (sd l) 0) (sd l) 0
theorem r63_L0_s (call : CallF) (fuel base : Nat) (kx0 : Value → Value → Value → M → Res2) (n : Nat) (x0 x3 x5 : Value) (m : M) : r63_L0 call fuel base kx0 (n + 1) x0 x3 x5 m =
    (k1n (mindexAddr E.P 66 x0 (.int .i64 0)) fun v13_3 => (k1n (xload E.P m 9 v13_3) fun v14_4 => (k2 (vcalln E.P base m .len [9] [v14_4]) fun v15_5 m => (k1n (mbin E .rem 3 x5 v15_5) fun v16_6 => (k1n (mbin E .neq 3 v16_6 (.int .i64 0)) fun v17_7 => (kb v17_7 (k2 (vcalln E.P base m .len [66] [x0]) fun v20_8 m => (k1n (mbin E .add 3 x5 v20_8) fun v21_9 => (r63_L0 call fuel base kx0 n x0 x3 v21_9 m))) (kx0 x0 x3 x5 m))))))) := by
  unfold r63_L0
  rw [k1_fun, vcall_fun]
theorem r63_L2_s (call : CallF) (fuel base : Nat) (kr : Value → M → Res2) (kx2 : M → Res2) (n : Nat) (x0 x3 x5 x22 x23 : Value) (m : M) : r63_L2 call fuel base kr kx2 (n + 1) x0 x3 x5 x22 x23 m =
    (k1n (mbin E .lss 3 x23 x22) fun v24_13 => (kb v24_13 (r63_L4 call fuel base (fun y4_25 m => (kr y4_25 m)) (fun y0_26 y3_27 y5_28 y22_29 y23_30 m => (k1n (mbin E .add 3 y23_30 (.int .i64 1)) fun v43_31 => (r63_L2 call fuel base kr kx2 n y0_26 y3_27 y5_28 y22_29 v43_31 m))) fuel x0 x3 x5 x23 x22 x23 x5 (.int .i64 0) m) (kx2 m))) := by
  unfold r63_L2
  rw [k1_fun]
theorem r63_L4_s (call : CallF) (fuel base : Nat) (kr : Value → M → Res2) (kx4 : Value → Value → Value → Value → Value → M → Res2) (n : Nat) (x0 x3 x5 x6 x22 x23 x26 x27 : Value) (m : M) : r63_L4 call fuel base kr kx4 (n + 1) x0 x3 x5 x6 x22 x23 x26 x27 m =
    (k1n (mbin E .lss 3 x27 x26) fun v28_14 => (kb v28_14 (k1n (mbuild E.P 103 [(0, x27), (1, x6)]) fun v32_15 => (k2 (xalloc E.P m 103) fun v8_16 m => (ks (xstore E.P base m 103 v8_16 v32_15) fun m => (k1n (xload E.P m 103 v8_16) fun v34_17 => (kc (kB m (call m.length 85 [x0, v34_17] m)) (fun v35_18 m => (k1n (xload E.P m 50 x3) fun v37_19 => (k1n (xload E.P m 103 v8_16) fun v38_20 => (kc (kB m (call m.length 79 [v37_19, v38_20] m)) (fun v39_21 m => (kc (kB m (call m.length 85 [x0, v39_21] m)) (fun v40_22 m => (k1n (mbin E .neq 5 v35_18 v40_22) fun v41_23 => (kb v41_23 (kr (.bool false) m) (k1n (mbin E .add 3 x27 (.int .i64 1)) fun v42_24 => (r63_L4 call fuel base kr kx4 n x0 x3 x5 x6 x22 x23 x26 v42_24 m))))) (fun _ _ => none))) (fun _ _ => none))))) (fun _ _ => none)))))) (kx4 x0 x3 x5 x22 x23 m))) := by
  unfold r63_L4
  rw [k1_fun]
theorem b103 (a b : Int) : mbuild E.P 103 [(0, vi a), (1, vi b)] = some (cV a b) := by kernel_rfl
theorem loop63a (call : CallF) (fuel base : Nat) (kx : Value → Value → Value → M → Res2) {m : M} {v w : Value} {l : List ByteArray} (hv : Strs m v l) (hp : Pat l) :
    ∀ (k n s : Nat), s ≤ 1000000 → s + k * l.length ≤ 1000 → k < n → sdF (wid l) l.length k s % wid l = 0 → r63_L0 call fuel base kx n v w (vi s) m = kx v w (vi (sdF (wid l) l.length k s)) m
  | _, 0, s, hs, hk, hn, hz => by omega
  | 0, n + 1, s, hs, hk, hn, hz => by
    have a1 := hp.h1; have a3 := hp.w1
    simp only [sdF] at hz ⊢
    rw [r63_L0_s, i0, hv.get66 (by omega : 0 < l.length), len9, k2s, str_get (by omega : 0 < l.length), str_zero (by omega), rem3 _ _ (by omega), k1s, neq3, k1s]
    have e : Int.tmod (s : Int) (wid l : Int) = ((s % wid l : Nat) : Int) := by rw [Int.tmod_eq_emod_of_nonneg (by omega)]; omega
    rw [e, hz, decide_eq_true rfl]
    rfl
  | k + 1, n + 1, s, hs, hk, hn, hz => by
    have a1 := hp.h1; have a3 := hp.w1; have a2 := hp.h6
    rw [r63_L0_s, i0, hv.get66 (by omega : 0 < l.length), len9, k2s, str_get (by omega : 0 < l.length), str_zero (by omega), rem3 _ _ (by omega), k1s, neq3, k1s]
    have e : Int.tmod (s : Int) (wid l : Int) = ((s % wid l : Nat) : Int) := by rw [Int.tmod_eq_emod_of_nonneg (by omega)]; omega
    rw [e]
    simp only [sdF] at hz ⊢
    rw [Nat.succ_mul] at hk
    by_cases h : s % wid l = 0
    · rw [if_pos h, h, decide_eq_true rfl]
      rfl
    · rw [if_neg h] at hz ⊢
      rw [decide_eq_false (by omega), Bool.not_false, kbt, hv.len66, k2s, add3, k1s, wr_small (by omega) (by omega), show ((s : Int) + (l.length : Int)) = ((s + l.length : Nat) : Int) by omega]
      exact loop63a call fuel base kx hv hp k n (s + l.length) (by omega) (by omega) (by omega) hz
theorem loop63b (call : CallF) (fuel base : Nat) (kr : Value → M → Res2) (kx : Value → Value → Value → Value → Value → M → Res2) {m1 : M} {v : Value} {l : List ByteArray} (hv : Strs m1 v l) (hp : Pat l) {q S y : Nat} {a b c d e f : Int} (hq : m1[q]? = some (cellR [vi a, vi b, vi c, vi d, vi e, vi f])) (hb : base ≤ m1.length) (hS : S ≤ 36)
    (h85 : ∀ m x y, Keeps m1.length m1 m → call m.length 85 [v, cV x y] m = some (.ret (.int .u8 (colr l x y)), m)) (h79 : ∀ (x y : Int) (m : M), call m.length 79 [mV a b c d e f, cV x y] m = some (.ret (cV (tkX a b e x y) (tkX c d f x y)), m)) :
    ∀ (n j : Nat) (m : M), j ≤ S → S < n + j → Keeps m1.length m1 m →
      ∃ m', Keeps m1.length m1 m' ∧ r63_L4 call fuel base kr kx n v (pt q 0) (vi S) (vi y) (vi S) (vi y) (vi S) (vi j) m = if allFrom (kpL l a b c d e f y) (S - j) j then kx v (pt q 0) (vi S) (vi S) (vi y) m' else kr (.bool false) m'
  | 0, j, m, hj, hn, _ => by omega
  | n + 1, j, m, hj, hn, hk => by
    have hql := (List.getElem?_eq_some_iff.1 hq).1
    rw [r63_L4_s, lss_nat, k1s]
    by_cases hlt : j < S
    · rw [decide_eq_true hlt, kbt, b103, k1s, al103, k2s]
      have hbm : base ≤ m.length := Nat.le_trans hb hk.1
      have h1 : (m ++ [cellR [.int .i64 0, .int .i64 0]])[m.length]? = some (cellR [.int .i64 0, .int .i64 0]) := by simp
      rw [st103 hbm h1 rfl, kss]
      generalize hm2 : (m ++ [cellR [.int .i64 0, .int .i64 0]]).set m.length (cellR [vi j, vi y]) = m2
      have hk2 : Keeps m1.length m1 m2 := by
        rw [← hm2]
        exact hk.trans ((Keeps.push _ _ hk.1 _).trans (Keeps.set _ _ _ _ hk.1))
      have hl2 : m2[m.length]? = some (cellR [vi j, vi y]) := by rw [← hm2]; exact List.getElem?_set_self (by simp)
      have hq2 : m2[q]? = some (cellR [vi a, vi b, vi c, vi d, vi e, vi f]) := (hk2.2 q hql).trans hq
      rw [ldb103 hl2, k1s, h85 _ _ _ hk2, kB_same, kcs, ldb50 hq2, k1s, ldb103 hl2, k1s, h79, kB_same, kcs, h85 _ _ _ hk2, kB_same, kcs, neq5, k1s, show S - j = (S - (j + 1)) + 1 by omega]
      rw [allFrom_succ]
      have e1 : decide (((colr l j y : Nat) : Int) = ((colr l (tkX a b e j y) (tkX c d f j y) : Nat) : Int)) = kpL l a b c d e f y j := natdec _ _
      rw [e1]
      cases kpL l a b c d e f y j with
      | true =>
        rw [Bool.not_true, kbf, add1 j (by omega), k1s, Bool.true_and]
        exact loop63b call fuel base kr kx hv hp hq hb hS h85 h79 n (j + 1) m2 (by omega) (by omega) hk2
      | false => exact ⟨m2, hk2, rfl⟩
    · rw [decide_eq_false hlt, kbf, show S - j = 0 by omega]
      exact ⟨m, hk, rfl⟩
theorem loop63 (call : CallF) (fuel base : Nat) (hf : 40 ≤ fuel) (kr : Value → M → Res2) (kx : M → Res2) {m1 : M} {v : Value} {l : List ByteArray} (hv : Strs m1 v l) (hp : Pat l) {q S : Nat} {a b c d e f : Int} (hq : m1[q]? = some (cellR [vi a, vi b, vi c, vi d, vi e, vi f])) (hb : base ≤ m1.length) (hS : S ≤ 36)
    (h85 : ∀ m x y, Keeps m1.length m1 m → call m.length 85 [v, cV x y] m = some (.ret (.int .u8 (colr l x y)), m)) (h79 : ∀ (x y : Int) (m : M), call m.length 79 [mV a b c d e f, cV x y] m = some (.ret (cV (tkX a b e x y) (tkX c d f x y)), m)) :
    ∀ (n j : Nat) (m : M), j ≤ S → S < n + j → Keeps m1.length m1 m →
      ∃ m', Keeps m1.length m1 m' ∧ r63_L2 call fuel base kr kx n v (pt q 0) (vi S) (vi S) (vi j) m = if allFrom (fun y => allFrom (kpL l a b c d e f y) S 0) (S - j) j then kx m' else kr (.bool false) m'
  | 0, j, m, hj, hn, _ => by omega
  | n + 1, j, m, hj, hn, hk => by
    rw [r63_L2_s, lss_nat, k1s]
    by_cases hlt : j < S
    · rw [decide_eq_true hlt, kbt, i0]
      obtain ⟨m2, hk2, e2⟩ := loop63b call fuel base (fun y4 m => kr y4 m) (fun y0 y3 y5 y22 y23 m => k1n (mbin E .add 3 y23 (.int .i64 1)) fun v43 => r63_L2 call fuel base kr kx n y0 y3 y5 y22 v43 m) hv hp (y := j) hq hb hS h85 h79 fuel 0 m (by omega) (by omega) hk
      rw [e2, Nat.sub_zero, show S - j = (S - (j + 1)) + 1 by omega]
      rw [allFrom_succ]
      cases h : allFrom (kpL l a b c d e f j) S 0 with
      | true =>
        simp only [if_true]
        rw [add1 j (by omega), k1s]
        have := loop63 call fuel base hf kr kx hv hp hq hb hS h85 h79 n (j + 1) m2 (by omega) (by omega) hk2
        simpa using this
      | false => exact ⟨m2, hk2, rfl⟩
    · rw [decide_eq_false hlt, kbf, show S - j = 0 by omega]
      exact ⟨m, hk, rfl⟩
theorem t63 (n base : Nat) (hn : 50 ≤ n) {m : M} {v : Value} {l : List ByteArray} (hv : Strs m v l) (hp : Pat l) (a b c d e f : Int) : rt (n + 1) base 63 [v, mV a b c d e f] m = some (.ret (.bool (keepsB l a b c d e f)), m) := by
  suffices h : ∃ m1, r63 (rt n) n m.length v (mV a b c d e f) m = some (.ret (.bool (keepsB l a b c d e f)), m1) by
    obtain ⟨m1, h⟩ := h
    exact rt_pure (f := 63) (rf := rf63) (by kernel_rfl) (by kernel_rfl) (by kernel_rfl) n base _ m m1 _ h rfl
  obtain ⟨k, rfl⟩ : ∃ k, n = k + 2 := ⟨n - 2, by omega⟩
  have hv1 := hv.app [cellR [vi a, vi b, vi c, vi d, vi e, vi f]]
  have hq : (m ++ [cellR [vi a, vi b, vi c, vi d, vi e, vi f]])[m.length]? = some (cellR [vi a, vi b, vi c, vi d, vi e, vi f]) := by simp
  obtain ⟨s1, s2, s3, s4⟩ := hp.sd
  have a2 := hp.h6
  unfold r63
  rw [fVal_fun, vcall_fun, bxa6, k2s, hv1.len66, k2s, loop63a _ _ _ _ hv1 hp 8 (k + 2) l.length (by omega) (by omega) (by omega) s1, i0]
  have hlen : (m ++ [cellR [vi a, vi b, vi c, vi d, vi e, vi f]]).length = m.length + 1 := by simp
  obtain ⟨m', _, e'⟩ := loop63 (rt (k + 2)) (k + 2) m.length (by omega) (fun y4 m => some (.ret y4, m)) (fun m => some (.ret (.bool true), m)) hv1 hp hq (by omega) s4 (fun m2 x y hk => t85 k _ (hv1.keeps hk) hp x y) (fun x y m => t79 _ _ _ _ _ _ _ _ x y m) (k + 2) 0 _ (by omega) (by omega) (Keeps.refl _ _)
  refine ⟨m', ?_⟩
  show r63_L2 (rt (k + 2)) (k + 2) m.length (fun y4 m => some (.ret y4, m)) (fun m => some (.ret (.bool true), m)) (k + 2) v (pt m.length 0) (vi (sd l)) (vi (sd l)) (vi ((0 : Nat) : Int)) _ = _
  rw [e', Nat.sub_zero]
  unfold keepsB
  cases allFrom (fun y => allFrom (kpL l a b c d e f y) (sd l) 0) (sd l) 0 <;> rfl
def trL (l : List ByteArray) (e f : Int) (y x : Nat) : Bool := decide (colr l x y = colr l (wr (x + e)) (wr (y + f)))
def trB (l : List ByteArray) (e f : Int) : Bool := allFrom (fun y => allFrom (trL l e f y) (wid l) 0) l.length 0
end Go.AM
namespace Go.AM
open Go Go.Proofs
theorem colr_mod {l : List ByteArray} {x y x2 y2 : Int} (h1 : x % (wid l : Int) = x2 % (wid l : Int)) (h2 : y % (l.length : Int) = y2 % (l.length : Int)) : colr l x y = colr l x2 y2 := by
  unfold colr
  rw [h1, h2]
theorem tk_id {e : Int} {x : Nat} (h0 : -100000 ≤ e) (h1 : e ≤ 100000) (hx : x ≤ 1000) (y : Int) : tkX 1 0 e (x : Int) y = x + e := by
  unfold tkX
  rw [Int.one_mul, Int.zero_mul, wr_small (n := (x : Int)) (by omega) (by omega), wr_small (n := 0) (by omega) (by omega), Int.add_zero, wr_small (n := (x : Int)) (by omega) (by omega), wr_small (by omega) (by omega)]
theorem tk_id2 {e : Int} {x : Nat} (h0 : -100000 ≤ e) (h1 : e ≤ 100000) (hx : x ≤ 1000) (y : Int) : tkX 0 1 e y (x : Int) = x + e := by
  unfold tkX
  rw [Int.one_mul, Int.zero_mul, wr_small (n := (x : Int)) (by omega) (by omega), wr_small (n := 0) (by omega) (by omega), Int.zero_add, wr_small (n := (x : Int)) (by omega) (by omega), wr_small (by omega) (by omega)]
theorem Pat.sd_ge {l : List ByteArray} (h : Pat l) : wid l ≤ AM.sd l ∧ l.length ≤ AM.sd l := by
  obtain ⟨s1, s2, s3, s4⟩ := h.sd
  exact ⟨Nat.le_of_dvd s3 (Nat.dvd_of_mod_eq_zero s1), Nat.le_of_dvd s3 (Nat.dvd_of_mod_eq_zero s2)⟩
theorem trB_iff {l : List ByteArray} (hp : Pat l) {e f : Int} (he : 0 ≤ e ∧ e ≤ 1000) (hf : 0 ≤ f ∧ f ≤ 1000) : trB l e f = true ↔ ∀ x y : Int, colr l x y = colr l (x + e) (y + f) := by
  have a1 := hp.h1; have a2 := hp.h6; have a3 := hp.w1; have a4 := hp.w6
  unfold trB
  rw [allFrom_iff]
  simp only [allFrom_iff, trL, decide_eq_true_eq, Nat.zero_add, Nat.zero_le, true_implies]
  constructor
  · intro h x y
    obtain ⟨i1, i2, i3, i4⟩ := hp.ix x y
    have := h _ i1 _ i2
    rw [wr_small (by omega) (by omega), wr_small (by omega) (by omega), i3, i4] at this
    rw [colr_mod (x2 := x % (wid l : Int)) (y2 := y % (l.length : Int)) (by rw [Int.emod_emod_of_dvd _ (Int.dvd_refl _)]) (by rw [Int.emod_emod_of_dvd _ (Int.dvd_refl _)]), this]
    exact colr_mod (by rw [Int.emod_add_emod]) (by rw [Int.emod_add_emod])
  · intro h y hy x hx
    rw [wr_small (by omega) (by omega), wr_small (by omega) (by omega)]
    exact h x y
theorem keeps_tr {l : List ByteArray} (hp : Pat l) {e f : Int} (he : 0 ≤ e ∧ e ≤ 1000) (hf : 0 ≤ f ∧ f ≤ 1000) : keepsB l 1 0 0 1 e f = trB l e f := by
  have a1 := hp.h1; have a2 := hp.h6; have a3 := hp.w1; have a4 := hp.w6
  obtain ⟨s1, s2, s3, s4⟩ := hp.sd
  obtain ⟨g1, g2⟩ := hp.sd_ge
  rw [Bool.eq_iff_iff, trB_iff hp he hf]
  unfold keepsB
  rw [allFrom_iff]
  simp only [allFrom_iff, kpL, decide_eq_true_eq, Nat.zero_add, Nat.zero_le, true_implies]
  constructor
  · intro h x y
    obtain ⟨i1, i2, i3, i4⟩ := hp.ix x y
    have := h _ (Nat.lt_of_lt_of_le i1 g2) _ (Nat.lt_of_lt_of_le i2 g1)
    rw [tk_id (by omega) (by omega) (by omega), tk_id2 (by omega) (by omega) (by omega), i3, i4] at this
    rw [colr_mod (x2 := x % (wid l : Int)) (y2 := y % (l.length : Int)) (by rw [Int.emod_emod_of_dvd _ (Int.dvd_refl _)]) (by rw [Int.emod_emod_of_dvd _ (Int.dvd_refl _)]), this]
    exact colr_mod (by rw [Int.emod_add_emod]) (by rw [Int.emod_add_emod])
  · intro h y hy x hx
    rw [tk_id (by omega) (by omega) (by omega), tk_id2 (by omega) (by omega) (by omega)]
    exact h x y
theorem tr_w {l : List ByteArray} (hp : Pat l) : trB l (wid l) 0 = true := by
  have a4 := hp.w6
  rw [trB_iff hp (by omega) (by omega)]
  intro x y
  exact colr_mod (by rw [Int.add_emod_right]) (by rw [Int.add_zero])
theorem tr_h {l : List ByteArray} (hp : Pat l) : trB l 0 l.length = true := by
  have a4 := hp.h6
  rw [trB_iff hp (by omega) (by omega)]
  intro x y
  exact colr_mod (by rw [Int.add_zero]) (by rw [Int.add_emod_right])
/-- The first number from j on. -/
def fst (P : Nat → Bool) : Nat → Nat → Nat
  | 0, j => j
  | k + 1, j => if P j then j else fst P k (j + 1)
theorem fst_le {P : Nat → Bool} {W : Nat} (h : P W = true) : ∀ k j, j ≤ W → W ≤ j + k → j ≤ fst P k j ∧ fst P k j ≤ W ∧ P (fst P k j) = true
  | 0, j, h1, h2 => by
    have : j = W := by omega
    subst this
    exact ⟨Nat.le_refl _, Nat.le_refl _, h⟩
  | k + 1, j, h1, h2 => by
    unfold fst
    by_cases hj : P j = true
    · rw [if_pos hj]; exact ⟨Nat.le_refl _, h1, hj⟩
    · rw [if_neg hj]
      have hne : j ≠ W := fun e => hj (e ▸ h)
      have := fst_le h k (j + 1) (by omega) (by omega)
      exact ⟨by omega, this.2.1, this.2.2⟩
theorem fst_min {P : Nat → Bool} : ∀ k j i, j ≤ i → i < fst P k j → P i = false
  | 0, j, i, h1, h2 => by unfold fst at h2; omega
  | k + 1, j, i, h1, h2 => by
    unfold fst at h2
    by_cases hj : P j = true
    · rw [if_pos hj] at h2; omega
    · rw [if_neg hj] at h2
      by_cases e : i = j
      · subst e; simpa using hj
      · exact fst_min k (j + 1) i (by omega) h2
def smH (l : List ByteArray) : Nat := fst (fun h => trB l 0 h) 6 1
theorem smH_le {l : List ByteArray} (hp : Pat l) : 1 ≤ smH l ∧ smH l ≤ l.length ∧ trB l 0 (smH l) = true := by
  have := hp.h1; have := hp.h6
  exact fst_le (P := fun h => trB l 0 h) (tr_h hp) 6 1 (by omega) (by omega)
theorem kV0 (e f : Int) : kV 0 e f = mV 1 0 0 1 e f := rfl
def smE (l : List ByteArray) : Int := if isP l = true then 0 else 2
end Go.AM
namespace Go.AM
open Go Go.Proofs
theorem al70 (m : M) : xalloc E.P m 70 = some (pt m.length 0, m ++ [cellR [.int .i64 0, .int .i64 0, .int .i64 0, .slice none 0 0]]) := by
  have e : xalloc E.P m 70 = xlen m fun n => xpush m (cellR [.int .i64 0, .int .i64 0, .int .i64 0, .slice none 0 0]) fun m' => some (pt n 0, m') := by kernel_rfl
  rw [e, xlen_eq, fNat_eq, xpush_eq, fList_eq]
theorem ld70 {m : M} {r : Nat} {row : Row} {off : Nat} (h : m[r]? = some row) (hl : off + 4 ≤ row.cells.length) : xload E.P m 70 (pt r off) = some (.agg ((row.cells.drop off).take 4).toArray) := by
  have e : xload E.P m 70 (pt r off) = (xread m r off 4).map fun cs => .agg cs.toArray := by kernel_rfl
  rw [e, xread_eq]
  unfold mread
  rw [h]
  simp only
  rw [if_pos hl]
  rfl
theorem ldb70 {m : M} {r : Nat} {a0 a1 a2 a3 : Value} (h : m[r]? = some (cellR [a0, a1, a2, a3])) : xload E.P m 70 (pt r 0) = some (.agg #[a0, a1, a2, a3]) := ld70 h (by simp [cellR])
theorem ml70 {m : M} {r : Nat} {a0 a1 a2 a3 : Value} (h : m[r]? = some (cellR [a0, a1, a2, a3])) : mload E.P m 70 (pt r 0) = some (.agg #[a0, a1, a2, a3]) := by
  have e : mload E.P m 70 (pt r 0) = (mread m r 0 4).map fun cs => .agg cs.toArray := by kernel_rfl
  rw [e]
  unfold mread
  rw [h]
  rfl
theorem st70 {base : Nat} {m : M} {p : Nat} (hb : base ≤ p) {a0 a1 a2 a3 b0 b1 b2 b3 : Value} (h : m[p]? = some (cellR [b0, b1, b2, b3])) (hone : ([a0, a1, a2, a3] : List Value).all (·.oneCell') = true) : xstore E.P base m 70 (pt p 0) (.agg #[a0, a1, a2, a3]) = some (m.set p (cellR [a0, a1, a2, a3])) := by
  have e : xstore E.P base m 70 (pt p 0) (.agg #[a0, a1, a2, a3]) = xwrite base m p 0 [a0, a1, a2, a3] := by kernel_rfl
  rw [e, xwrite_eq]
  unfold mwrite
  rw [if_neg (by omega), h]
  simp only [cellR, splice, fList_eq, Bool.false_eq_true, if_false, hone, if_true]
  simp
theorem ff70_0 (p o : Nat) : mfieldAddr E.P 70 (pt p o) 0 = some (pt p (o + 0)) := by kernel_rfl
theorem ff70_1 (p o : Nat) : mfieldAddr E.P 70 (pt p o) 1 = some (pt p (o + 3)) := by kernel_rfl
theorem ga30e (base : Nat) (m : M) (a b : Value) : vcalln E.P base m .append [30, 30] [a, b] = xappend E.P base m [30, 30] a b := by kernel_rfl
theorem ga30nil (base : Nat) (m : M) (k c cap : Nat) (row : Row) (hk : m[k]? = some row) (hc : row.cells.length = c * 6) (h1 : 1 ≤ c) (h2 : c ≤ 100000) : xappend E.P base m [30, 30] (.slice none 0 0) (.slice (some ⟨k, 0, none⟩) c cap) = some (sl m.length c, m ++ [rowz 6 false row.cells]) := by
  have e : xappend E.P base m [30, 30] (.slice none 0 0) (.slice (some ⟨k, 0, none⟩) c cap) = match (xread m k 0 (c * 6)).map fun cs => (c, cs) with
    | none => none
    | some (n, news) => if n = 0 then some (.slice none 0 0, m) else if n > 2 ^ 38 then none else xlen m fun k => fList news fun cs => xpush m (rowz 6 false cs) fun m' => some (.slice (some ⟨k, 0, none⟩) n n, m') := by kernel_rfl
  have q1 : xread m k 0 (c * 6) = some row.cells := by
    rw [xread_eq]
    unfold mread
    rw [hk]
    simp only
    rw [if_pos (by omega), List.drop_zero, List.take_of_length_le (by omega)]
  rw [e, q1]
  simp only [Option.map_some]
  rw [if_neg (by omega), if_neg (by omega)]
  simp [xlen_eq, fNat_eq, xpush_eq, fList_eq]
theorem ga30some (base : Nat) (m : M) (r l k c cap : Nat) (ex : Bool) (cs : List Value) (row : Row) (hr : m[r]? = some (rowz 6 ex cs)) (hl : cs.length = l * 6) (h0 : ex = true ∨ 1 ≤ l) (h1 : 1 ≤ c) (h2 : l ≤ 100000) (h3 : c ≤ 100000) (hb : base ≤ r)
    (hk : m[k]? = some row) (hd : row.cells.length = c * 6) (hc : row.cells.all (·.oneCell') = true) : xappend E.P base m [30, 30] (sl r l) (.slice (some ⟨k, 0, none⟩) c cap) =
      some (sl m.length (l + c), (if ex then m else m.set r (rowz 6 false [])) ++ [rowz 6 false (cs ++ row.cells)]) := by
  have e : xappend E.P base m [30, 30] (sl r l) (.slice (some ⟨k, 0, none⟩) c cap) = match (xread m k 0 (c * 6)).map fun cs => (c, cs) with
    | none => none
    | some (n, news) =>
      if l + n ≤ l then if n = 0 then some (.slice (some ⟨r, 0, none⟩) l l, m) else
        (xwrite base m r (0 + l * 6) news).bind fun m' => fNat (l + n) fun k => some (.slice (some ⟨r, 0, none⟩) k l, m')
      else if l + n > 2 ^ 38 then none else
        match xget m r, xread m r 0 (l * 6) with
        | some row, some olds =>
          if row.esz ≠ 6 then none else
          xlen m fun k => fNat (l + n) fun c => fList (olds ++ news) fun cs =>
          if row.ex then xpush m (rowz 6 false cs) fun m' => some (.slice (some ⟨k, 0, none⟩) c c, m')
          else if row.cells.isEmpty then none
          else if news.all (·.oneCell') then xkill base m r fun m' => xpush m' (rowz 6 false cs) fun m' => some (.slice (some ⟨k, 0, none⟩) c c, m')
          else none
        | _, _ => none := by kernel_rfl
  rw [e]
  have q1 : xread m k 0 (c * 6) = some row.cells := by
    rw [xread_eq]
    unfold mread
    rw [hk]
    simp only
    rw [if_pos (by omega), List.drop_zero, List.take_of_length_le (by omega)]
  have q2 : xread m r 0 (l * 6) = some cs := by
    rw [xread_eq]
    unfold mread
    rw [hr]
    have hle : 0 + l * 6 ≤ (rowz 6 ex cs).cells.length := by show 0 + l * 6 ≤ cs.length; omega
    simp only
    rw [if_pos hle, List.drop_zero]
    exact congrArg some (List.take_of_length_le (by show cs.length ≤ _; omega))
  rw [q1, q2, xget_eq, hr]
  simp only [Option.map_some]
  rw [if_neg (by omega), if_neg (by omega), if_neg (by simp [rowz]), xlen_eq, fNat_eq, fNat_eq, fList_eq]
  cases ex with
  | true =>
    rw [if_pos (by simp [rowz])]
    simp [xpush_eq, fList_eq]
  | false =>
    rw [if_neg (by simp [rowz])]
    have ne : cs ≠ [] := by
      intro h
      rw [h] at hl
      simp at hl
      simp at h0
      omega
    rw [if_neg (by simp [rowz, ne]), if_pos (by exact hc), xkill_eq]
    unfold mkill
    rw [if_neg (by omega), hr]
    simp only [rowz, Bool.false_eq_true, if_false, fList_eq, Option.bind_some, xpush_eq]
theorem gb30 (m : M) (a1 a2 a3 a4 a5 a6 : Int) : xbuildSlice E.P m 30 1 [(0, (mV a1 a2 a3 a4 a5 a6))] = some (sl m.length 1, m ++ [rowz 6 true [vi a1, vi a2, vi a3, vi a4, vi a5, vi a6]]) := by
  have : xbuildSlice E.P m 30 1 [(0, (mV a1 a2 a3 a4 a5 a6))] = xlen m fun n => xpush m (rowz 6 true [vi a1, vi a2, vi a3, vi a4, vi a5, vi a6]) fun m' => some (sl n 1, m') := by kernel_rfl
  rw [this, xlen_eq, fNat_eq, xpush_eq, fList_eq]
/-- The first place from j on. -/
def fstO (P : Nat → Bool) : Nat → Nat → Option Nat
  | 0, _ => none
  | k + 1, j => if P j then some j else fstO P k (j + 1)
theorem fstO_some {P : Nat → Bool} : ∀ {k j i : Nat}, fstO P k j = some i → j ≤ i ∧ i < j + k ∧ P i = true ∧ ∀ t, j ≤ t → t < i → P t = false
  | 0, j, i, h => by simp [fstO] at h
  | k + 1, j, i, h => by
    unfold fstO at h
    by_cases hj : P j = true
    · rw [if_pos hj] at h
      obtain rfl := Option.some.inj h
      exact ⟨Nat.le_refl _, by omega, hj, fun t h1 h2 => by omega⟩
    · rw [if_neg hj] at h
      obtain ⟨h1, h2, h3, h4⟩ := fstO_some h
      refine ⟨by omega, by omega, h3, fun t t1 t2 => ?_⟩
      by_cases e : t = j
      · subst e; simpa using hj
      · exact h4 t (by omega) t2
theorem fstO_none {P : Nat → Bool} : ∀ {k j : Nat}, fstO P k j = none → ∀ t, j ≤ t → t < j + k → P t = false
  | 0, j, h, t, h1, h2 => by omega
  | k + 1, j, h, t, h1, h2 => by
    unfold fstO at h
    by_cases hj : P j = true
    · rw [if_pos hj] at h; simp at h
    · rw [if_neg hj] at h
      by_cases e : t = j
      · subst e; simpa using hj
      · exact fstO_none h t (by omega) (by omega)
/-- The first pair, column by column. -/
def findR (P : Nat → Nat → Bool) (D : Nat) : Nat → Nat → Option (Nat × Nat)
  | 0, _ => none
  | k + 1, x => match fstO (P x) D 0 with
    | some y => some (x, y)
    | none => findR P D k (x + 1)
theorem findR_some {P : Nat → Nat → Bool} {D : Nat} : ∀ {k x : Nat} {a b : Nat}, findR P D k x = some (a, b) → x ≤ a ∧ a < x + k ∧ b < D ∧ P a b = true ∧ (∀ t, x ≤ t → t < a → ∀ y, y < D → P t y = false) ∧ ∀ y, y < b → P a y = false
  | 0, x, a, b, h => by simp [findR] at h
  | k + 1, x, a, b, h => by
    unfold findR at h
    cases hf : fstO (P x) D 0 with
    | some y =>
      rw [hf] at h
      simp only [Option.some.injEq, Prod.mk.injEq] at h
      obtain ⟨rfl, rfl⟩ := h
      obtain ⟨h1, h2, h3, h4⟩ := fstO_some hf
      exact ⟨Nat.le_refl _, by omega, by omega, h3, fun t t1 t2 => by omega, fun y hy => h4 y (by omega) hy⟩
    | none =>
      rw [hf] at h
      obtain ⟨h1, h2, h3, h4, h5, h6⟩ := findR_some h
      refine ⟨by omega, by omega, h3, h4, fun t t1 t2 y hy => ?_, h6⟩
      by_cases e : t = x
      · subst e; exact fstO_none hf y (by omega) (by omega)
      · exact h5 t (by omega) t2 y hy
theorem findR_none {P : Nat → Nat → Bool} {D : Nat} : ∀ {k x : Nat}, findR P D k x = none → ∀ t, x ≤ t → t < x + k → ∀ y, y < D → P t y = false
  | 0, x, h, t, h1, h2, y, hy => by omega
  | k + 1, x, h, t, h1, h2, y, hy => by
    unfold findR at h
    cases hf : fstO (P x) D 0 with
    | some z => rw [hf] at h; simp at h
    | none =>
      rw [hf] at h
      by_cases e : t = x
      · subst e; exact fstO_none hf y (by omega) (by omega)
      · exact findR_none h t (by omega) (by omega) y hy
/-- The lattice of a pattern. -/
def latAB (l : List ByteArray) : Nat × Nat := (findR (fun x y => trB l x y) (smH l) 6 1).getD (1, 0)
def latA (l : List ByteArray) : Nat := (latAB l).1
def latB (l : List ByteArray) : Nat := (latAB l).2
theorem lat_some {l : List ByteArray} (hp : Pat l) : findR (fun x y => trB l x y) (smH l) 6 1 = some (latA l, latB l) := by
  cases h : findR (fun x y => trB l x y) (smH l) 6 1 with
  | none =>
    have := findR_none h (wid l) hp.w1 (by have := hp.w6; omega) 0 (by have := (smH_le hp).1; omega)
    have h2 := tr_w hp
    simp only [Int.natCast_zero] at this
    rw [h2] at this
    simp at this
  | some ab => unfold latA latB latAB; rw [h]; rfl
theorem lat_ok {l : List ByteArray} (hp : Pat l) : 1 ≤ latA l ∧ latA l ≤ wid l ∧ latB l < smH l ∧ trB l (latA l) (latB l) = true ∧ ∀ t : Nat, 1 ≤ t → t < latA l → ∀ y : Nat, y < smH l → trB l t y = false := by
  obtain ⟨h1, h2, h3, h4, h5, h6⟩ := findR_some (lat_some hp)
  refine ⟨h1, ?_, h3, h4, h5⟩
  apply Classical.byContradiction
  intro hn
  have := h5 (wid l) hp.w1 (by omega) 0 (by have := (smH_le hp).1; omega)
  have h2 := tr_w hp
  simp only [Int.natCast_zero] at this
  rw [h2] at this
  simp at this
theorem r41_L0_s (call : CallF) (fuel base : Nat) (kp : Value → M → Res2) (kx0 : Value → Value → Value → M → Res2) (n : Nat) (x0 x2 x3 : Value) (m : M) : r41_L0 call fuel base kp kx0 (n + 1) x0 x2 x3 m =
    (kc (call base 64 [(.int .i64 0), (.int .i64 0), x3] m) (fun v8_2 m => (kc (call base 63 [x0, v8_2] m) (fun v9_3 m => (k1n (mun .not v9_3) fun v10_4 => (kb v10_4 (k1n (mbin E .add 3 x3 (.int .i64 1)) fun v12_5 => (r41_L0 call fuel base kp kx0 n x0 x2 v12_5 m)) (kx0 x0 x2 x3 m)))) (fun v m => kp v m))) (fun v m => kp v m)) := by
  unfold r41_L0
  rw [k1_fun]
theorem r41_L2_s (call : CallF) (fuel base : Nat) (kp : Value → M → Res2) (kr : Value → M → Res2) (n : Nat) (x0 x2 x3 x4 : Value) (m : M) : r41_L2 call fuel base kp kr (n + 1) x0 x2 x3 x4 m =
    (r41_L4 call fuel base (fun v m => kp v m) (fun y2_14 m => (kr y2_14 m)) (fun y0_15 y2_16 y3_17 y4_18 m => (k1n (mbin E .add 3 y4_18 (.int .i64 1)) fun v14_19 => (r41_L2 call fuel base kp kr n y0_15 y2_16 y3_17 v14_19 m))) fuel x0 x2 x3 x4 x3 (.int .i64 0) m) := by
  unfold r41_L2
  rw [k1_fun]
theorem r41_L4_s (call : CallF) (fuel base : Nat) (kp : Value → M → Res2) (kr : Value → M → Res2) (kx4 : Value → Value → Value → Value → M → Res2) (n : Nat) (x0 x2 x3 x4 x15 x16 : Value) (m : M) : r41_L4 call fuel base kp kr kx4 (n + 1) x0 x2 x3 x4 x15 x16 m =
    (k1n (mbin E .lss 3 x16 x15) fun v17_9 => (kb v17_9 (kc (call base 64 [(.int .i64 0), x4, x16] m) (fun v22_10 m => (kc (call base 63 [x0, v22_10] m) (fun v23_11 m => (kb v23_11 (k1n (mbuild E.P 26 [(0, x4), (1, x16), (2, x3)]) fun v27_12 => (ks (xstore E.P base m 26 x2 v27_12) fun m => (kr x2 m))) (k1n (mbin E .add 3 x16 (.int .i64 1)) fun v28_13 => (r41_L4 call fuel base kp kr kx4 n x0 x2 x3 x4 x15 v28_13 m)))) (fun v m => kp v m))) (fun v m => kp v m)) (kx4 x0 x2 x3 x4 m))) := by
  unfold r41_L4
  rw [k1_fun]
abbrev gridV (a b c : Int) : Value := .agg #[vi a, vi b, vi c]
theorem b26 (a b c : Int) : mbuild E.P 26 [(0, vi a), (1, vi b), (2, vi c)] = some (gridV a b c) := by kernel_rfl
theorem loop41a (call : CallF) (fuel base : Nat) (kp : Value → M → Res2) (kx : Value → Value → Value → M → Res2) {m : M} {v : Value} {l : List ByteArray} (hp : Pat l) (x2 : Value) (h64 : ∀ e f : Int, call base 64 [vi 0, vi e, vi f] m = some (.ret (kV 0 e f), m))
    (h63 : ∀ e f : Int, call base 63 [v, mV 1 0 0 1 e f] m = some (.ret (.bool (keepsB l 1 0 0 1 e f)), m)) :
    ∀ (k n j : Nat), k < n → 1 ≤ j → j + k = 7 → j ≤ l.length → r41_L0 call fuel base kp kx n v x2 (vi j) m = kx v x2 (vi (fst (fun w => trB l 0 w) k j)) m
  | _, 0, j, hk, h1, hj, hw => by omega
  | 0, n + 1, j, hk, h1, hj, hw => by have := hp.h6; omega
  | k + 1, n + 1, j, hk, h1, hj, hw => by
    have a4 := hp.h6
    rw [r41_L0_s, show (.int .i64 0 : Value) = vi 0 from rfl, h64, kcs, kV0, h63, kcs, not4, k1s, keeps_tr hp (by omega) (by omega)]
    unfold fst
    cases h : trB l 0 (j : Int) with
    | true =>
      rw [Bool.not_true, kbf]
      rfl
    | false =>
      have : j ≠ l.length := fun e => by rw [e, tr_h hp] at h; simp at h
      rw [Bool.not_false, kbt, add1 j (by omega), k1s, loop41a call fuel base kp kx hp x2 h64 h63 k n (j + 1) (by omega) (by omega) (by omega) (by omega)]
      rfl
theorem loop41c (call : CallF) (fuel base : Nat) (kp : Value → M → Res2) (kr : Value → M → Res2) (kx : Value → Value → Value → Value → M → Res2) {m : M} {v : Value} {l : List ByteArray} (hp : Pat l) {r D x : Nat} {z1 z2 z3 : Value} (hr : m[r]? = some (cellR [z1, z2, z3])) (hb : base ≤ r) (hx : x ≤ 100) (hD : D ≤ 6)
    (h64 : ∀ e f : Int, call base 64 [vi 0, vi e, vi f] m = some (.ret (kV 0 e f), m))
    (h63 : ∀ e f : Int, call base 63 [v, mV 1 0 0 1 e f] m = some (.ret (.bool (keepsB l 1 0 0 1 e f)), m)) :
    ∀ (k n j : Nat), k < n → j + k = D → r41_L4 call fuel base kp kr kx n v (pt r 0) (vi D) (vi x) (vi D) (vi j) m = match fstO (fun y => trB l x y) k j with
      | some y => kr (pt r 0) (m.set r (cellR [vi x, vi y, vi D]))
      | none => kx v (pt r 0) (vi D) (vi x) m
  | _, 0, j, hk, hj => by omega
  | 0, n + 1, j, hk, hj => by
    rw [r41_L4_s, lss_nat, k1s, decide_eq_false (by omega), kbf]
    rfl
  | k + 1, n + 1, j, hk, hj => by
    rw [r41_L4_s, lss_nat, k1s, decide_eq_true (by omega), kbt, show (.int .i64 0 : Value) = vi 0 from rfl, h64, kcs, kV0, h63, kcs, keeps_tr hp (by omega) (by omega)]
    unfold fstO
    cases h : trB l (x : Int) (j : Int) with
    | true =>
      rw [kbt, b26, k1s, st26 hb hr rfl, kss]
      rfl
    | false =>
      rw [kbf, add1 j (by omega), k1s, loop41c call fuel base kp kr kx hp hr hb hx hD h64 h63 k n (j + 1) (by omega) (by omega)]
      rfl
theorem loop41b (call : CallF) (fuel base : Nat) (hf : 20 ≤ fuel) (kp : Value → M → Res2) (kr : Value → M → Res2) {m : M} {v : Value} {l : List ByteArray} (hp : Pat l) {r D : Nat} {z1 z2 z3 : Value} (hr : m[r]? = some (cellR [z1, z2, z3])) (hb : base ≤ r) (hD : D ≤ 6)
    (h64 : ∀ e f : Int, call base 64 [vi 0, vi e, vi f] m = some (.ret (kV 0 e f), m))
    (h63 : ∀ e f : Int, call base 63 [v, mV 1 0 0 1 e f] m = some (.ret (.bool (keepsB l 1 0 0 1 e f)), m)) :
    ∀ (k n x a b : Nat), k < n → x + k ≤ 50 → findR (fun x y => trB l x y) D k x = some (a, b) → r41_L2 call fuel base kp kr n v (pt r 0) (vi D) (vi x) m = kr (pt r 0) (m.set r (cellR [vi a, vi b, vi D]))
  | _, 0, x, a, b, hk, hx, h => by omega
  | 0, n + 1, x, a, b, hk, hx, h => by simp [findR] at h
  | k + 1, n + 1, x, a, b, hk, hx, h => by
    rw [r41_L2_s, i0, loop41c call fuel base _ _ _ hp hr hb (by omega) hD h64 h63 D fuel 0 (by omega) (by omega)]
    unfold findR at h
    cases hfo : fstO (fun y => trB l x y) D 0 with
    | some y =>
      rw [hfo] at h
      simp only [Option.some.injEq, Prod.mk.injEq] at h
      obtain ⟨rfl, rfl⟩ := h
      rfl
    | none =>
      rw [hfo] at h
      simp only at h ⊢
      rw [add1 x (by omega), k1s]
      exact loop41b call fuel base hf kp kr hp hr hb hD h64 h63 k n (x + 1) a b (by omega) (by omega) h
theorem t41 (n base : Nat) (hn : 70 ≤ n) {m : M} {v : Value} {l : List ByteArray} (hv : Strs m v l) (hp : Pat l) : rt (n + 1) base 41 [v] m = some (.ret (gridV (latA l) (latB l) (smH l)), m) := by
  refine rt_pure (f := 41) (rf := rf41) (by kernel_rfl) (by kernel_rfl) (by kernel_rfl) n base _ m (m ++ [cellR [vi (latA l), vi (latB l), vi (smH l)]]) _ ?_ rfl
  show r41 (rt n) n m.length v m = _
  obtain ⟨k, rfl⟩ : ∃ k, n = k + 1 := ⟨n - 1, by omega⟩
  have a1 := hp.h1; have a2 := hp.h6
  unfold r41
  rw [fVal_fun, al26, k2s]
  generalize hm1 : m ++ [cellR [(.int .i64 0 : Value), .int .i64 0, .int .i64 0]] = m1
  have hv1 : Strs m1 v l := by rw [← hm1]; exact hv.app _
  have hr : m1[m.length]? = some (cellR [.int .i64 0, .int .i64 0, .int .i64 0]) := by rw [← hm1]; simp
  have h64 : ∀ e f : Int, rt (k + 1) m.length 64 [vi 0, vi e, vi f] m1 = some (.ret (kV 0 e f), m1) := fun e f => t64 k _ 0 (by omega) e f m1
  have h63 : ∀ e f : Int, rt (k + 1) m.length 63 [v, mV 1 0 0 1 e f] m1 = some (.ret (.bool (keepsB l 1 0 0 1 e f)), m1) := fun e f => t63 k _ (by omega) hv1 hp 1 0 0 1 e f
  rw [show (.int .i64 1 : Value) = vi ((1 : Nat) : Int) from rfl, loop41a (rt (k + 1)) (k + 1) m.length _ _ hp _ h64 h63 6 (k + 1) 1 (by omega) (by omega) rfl a1]
  have hD : fst (fun w => trB l 0 w) 6 1 ≤ 6 := by have := (smH_le hp).2.1; unfold smH at this; omega
  rw [loop41b (rt (k + 1)) (k + 1) m.length (by omega) _ _ hp hr (Nat.le_refl _) hD h64 h63 6 (k + 1) 1 (latA l) (latB l) (by omega) (by omega) (lat_some hp), ml26 (List.getElem?_set_self (List.getElem?_eq_some_iff.1 hr).1), k0s]
  rw [← hm1]
  have : (m ++ [cellR [(.int .i64 0 : Value), .int .i64 0, .int .i64 0]]).set m.length (cellR [vi (latA l), vi (latB l), vi (fst (fun w => trB l 0 w) 6 1)]) = m ++ [cellR [vi (latA l), vi (latB l), vi (smH l)]] := by simp [smH]
  rw [this]
  rfl
def keepsK (l : List ByteArray) (k : Nat) (e f : Int) : Bool := keepsB l (kindT k).1 (kindT k).2.1 (kindT k).2.2.1 (kindT k).2.2.2 e f
/-- The symmetry of a kind. -/
def ofC (l : List ByteArray) (k : Nat) : Option (Nat × Nat) := findR (fun e f => keepsK l k e f) (smH l) (latA l) 0
theorem r65_L0_s (call : CallF) (fuel base : Nat) (kp : Value → M → Res2) (kr : Value → M → Res2) (kx0 : M → Res2) (n : Nat) (x0 x1 x5 x11 x12 : Value) (m : M) : r65_L0 call fuel base kp kr kx0 (n + 1) x0 x1 x5 x11 x12 m =
    (k1n (mbin E .lss 3 x12 x11) fun v13_4 => (kb v13_4 (k1n (mfieldAddr E.P 26 x5 2) fun v15_5 => (k1n (xload E.P m 3 v15_5) fun v16_6 => (r65_L2 call fuel base (fun v m => kp v m) (fun y6_15 m => (kr y6_15 m)) (fun y0_16 y1_17 y5_18 y11_19 y12_20 m => (k1n (mbin E .add 3 y12_20 (.int .i64 1)) fun v30_21 => (r65_L0 call fuel base kp kr kx0 n y0_16 y1_17 y5_18 y11_19 v30_21 m))) fuel x0 x1 x5 x12 x11 x12 v16_6 (.int .i64 0) m))) (kx0 m))) := by
  unfold r65_L0
  rw [k1_fun]
theorem r65_L2_s (call : CallF) (fuel base : Nat) (kp : Value → M → Res2) (kr : Value → M → Res2) (kx2 : Value → Value → Value → Value → Value → M → Res2) (n : Nat) (x0 x1 x5 x7 x11 x12 x16 x17 : Value) (m : M) : r65_L2 call fuel base kp kr kx2 (n + 1) x0 x1 x5 x7 x11 x12 x16 x17 m =
    (k1n (mbin E .lss 3 x17 x16) fun v18_7 => (kb v18_7 (kc (call base 64 [x1, x7, x17] m) (fun v23_8 m => (k2 (xalloc E.P m 50) fun v9_9 m => (ks (xstore E.P base m 50 v9_9 v23_8) fun m => (k1n (xload E.P m 50 v9_9) fun v25_10 => (kc (call base 63 [x0, v25_10] m) (fun v26_11 m => (kb v26_11 (k1n (xload E.P m 50 v9_9) fun v27_12 => (k2 (xbuildSlice E.P m 30 1 [(0, v27_12)]) fun v28_13 m => (kr v28_13 m))) (k1n (mbin E .add 3 x17 (.int .i64 1)) fun v29_14 => (r65_L2 call fuel base kp kr kx2 n x0 x1 x5 x7 x11 x12 x16 v29_14 m)))) (fun v m => kp v m)))))) (fun v m => kp v m)) (kx2 x0 x1 x5 x11 x12 m))) := by
  unfold r65_L2
  rw [k1_fun]
theorem loop65b (call : CallF) (fuel base : Nat) (kp : Value → M → Res2) (kr : Value → M → Res2) (kx : Value → Value → Value → Value → Value → M → Res2) {m1 : M} {v x5 x11 : Value} {l : List ByteArray} (hv : Strs m1 v l) (hp : Pat l) {k e D : Nat} (hb : base ≤ m1.length) (hD : D ≤ 6) (hk : k < 8)
    (h64 : ∀ (e f : Int) (m : M), call base 64 [vi (k : Int), vi e, vi f] m = some (.ret (kV k e f), m))
    (h63 : ∀ (e f : Int) (m : M), Keeps m1.length m1 m → call base 63 [v, kV k e f] m = some (.ret (.bool (keepsK l k e f)), m)) :
    ∀ (i n j : Nat) (m : M), i < n → j + i = D → Keeps m1.length m1 m →
      ∃ m', Keeps m1.length m1 m' ∧ match fstO (fun f => keepsK l k e f) i j with
        | some f => r65_L2 call fuel base kp kr kx n v (vi (k : Int)) x5 (vi (e : Int)) x11 (vi (e : Int)) (vi D) (vi j) m = kr (sl m'.length 1) (m' ++ [rowz 6 true [vi (kindT k).1, vi (kindT k).2.1, vi (kindT k).2.2.1, vi (kindT k).2.2.2, vi e, vi f]])
        | none => r65_L2 call fuel base kp kr kx n v (vi (k : Int)) x5 (vi (e : Int)) x11 (vi (e : Int)) (vi D) (vi j) m = kx v (vi (k : Int)) x5 x11 (vi (e : Int)) m'
  | _, 0, j, m, hi, hj, _ => by omega
  | 0, n + 1, j, m, hi, hj, hkm => by
    refine ⟨m, hkm, ?_⟩
    show r65_L2 call fuel base kp kr kx (n + 1) v (vi (k : Int)) x5 (vi (e : Int)) x11 (vi (e : Int)) (vi D) (vi j) m = _
    rw [r65_L2_s, lss_nat, k1s, decide_eq_false (by omega), kbf]
  | i + 1, n + 1, j, m, hi, hj, hkm => by
    have hbm := Nat.le_trans hb hkm.1
    have h1 : (m ++ [cellR [(.int .i64 0 : Value), .int .i64 0, .int .i64 0, .int .i64 0, .int .i64 0, .int .i64 0]])[m.length]? = some (cellR [.int .i64 0, .int .i64 0, .int .i64 0, .int .i64 0, .int .i64 0, .int .i64 0]) := by simp
    have run : ∀ R, r65_L2 call fuel base kp kr kx (n + 1) v (vi (k : Int)) x5 (vi (e : Int)) x11 (vi (e : Int)) (vi D) (vi j) m = R ↔ (kb (.bool (keepsK l k e j)) (kr (sl (m ++ [kR k e j]).length 1) ((m ++ [kR k e j]) ++ [rowz 6 true [vi (kindT k).1, vi (kindT k).2.1, vi (kindT k).2.2.1, vi (kindT k).2.2.2, vi e, vi j]])) (r65_L2 call fuel base kp kr kx n v (vi (k : Int)) x5 (vi (e : Int)) x11 (vi (e : Int)) (vi D) (vi ((j + 1 : Nat) : Int)) (m ++ [kR k e j]))) = R := by
      intro R
      have hset : (m ++ [cellR [(.int .i64 0 : Value), .int .i64 0, .int .i64 0, .int .i64 0, .int .i64 0, .int .i64 0]]).set m.length (cellR [vi (kindT k).1, vi (kindT k).2.1, vi (kindT k).2.2.1, vi (kindT k).2.2.2, vi e, vi j]) = m ++ [kR k e j] := by simp [kR]
      have hl : (m ++ [kR k e j])[m.length]? = some (cellR [vi (kindT k).1, vi (kindT k).2.1, vi (kindT k).2.2.1, vi (kindT k).2.2.2, vi e, vi j]) := by simp [kR]
      have hkm1 : Keeps m1.length m1 (m ++ [kR k e j]) := hkm.trans (Keeps.push _ _ hkm.1 _)
      rw [r65_L2_s, lss_nat, k1s, decide_eq_true (by omega), kbt, h64, kcs, al50, k2s, kV_eq, st50 hbm h1 rfl, kss, hset, ldb50 hl, k1s]
      rw [show (.agg #[vi (kindT k).1, vi (kindT k).2.1, vi (kindT k).2.2.1, vi (kindT k).2.2.2, vi e, vi j] : Value) = kV k e j from rfl, h63 _ _ _ hkm1, kcs, ldb50 hl, k1s, gb30, k2s, add1 j (by omega), k1s]
    have hkm1 : Keeps m1.length m1 (m ++ [kR k e j]) := hkm.trans (Keeps.push _ _ hkm.1 _)
    unfold fstO
    cases h : keepsK l k e j with
    | true =>
      refine ⟨m ++ [kR k e j], hkm1, ?_⟩
      simp only [if_true]
      rw [run, h, kbt]
    | false =>
      obtain ⟨m', hk', hr⟩ := loop65b call fuel base kp kr kx (x5 := x5) (x11 := x11) hv hp (e := e) hb hD hk h64 h63 i n (j + 1) (m ++ [kR k e j]) (by omega) (by omega) hkm1
      refine ⟨m', hk', ?_⟩
      simp only [Bool.false_eq_true, if_false]
      cases ho : fstO (fun f => keepsK l k e f) i (j + 1) with
      | some f =>
        rw [ho] at hr
        simp only at hr ⊢
        rw [run, h, kbf]
        exact hr
      | none =>
        rw [ho] at hr
        simp only at hr ⊢
        rw [run, h, kbf]
        exact hr
theorem loop65 (call : CallF) (fuel base : Nat) (hfu : 20 ≤ fuel) (kp : Value → M → Res2) (kr : Value → M → Res2) (kx : M → Res2) {m1 : M} {v : Value} {l : List ByteArray} (hv : Strs m1 v l) (hp : Pat l) {k A B D q : Nat} (hb : base ≤ m1.length) (hD : D ≤ 6) (hA : A ≤ 6) (hk : k < 8) (hq : m1[q]? = some (cellR [vi A, vi B, vi D]))
    (h64 : ∀ (e f : Int) (m : M), call base 64 [vi (k : Int), vi e, vi f] m = some (.ret (kV k e f), m))
    (h63 : ∀ (e f : Int) (m : M), Keeps m1.length m1 m → call base 63 [v, kV k e f] m = some (.ret (.bool (keepsK l k e f)), m)) :
    ∀ (i n j : Nat) (m : M), i < n → j + i = A → Keeps m1.length m1 m →
      ∃ m', Keeps m1.length m1 m' ∧ match findR (fun e f => keepsK l k e f) D i j with
        | some (e, f) => r65_L0 call fuel base kp kr kx n v (vi (k : Int)) (pt q 0) (vi A) (vi j) m = kr (sl m'.length 1) (m' ++ [rowz 6 true [vi (kindT k).1, vi (kindT k).2.1, vi (kindT k).2.2.1, vi (kindT k).2.2.2, vi e, vi f]])
        | none => r65_L0 call fuel base kp kr kx n v (vi (k : Int)) (pt q 0) (vi A) (vi j) m = kx m'
  | _, 0, j, m, hi, hj, _ => by omega
  | 0, n + 1, j, m, hi, hj, hkm => by
    refine ⟨m, hkm, ?_⟩
    show r65_L0 call fuel base kp kr kx (n + 1) v (vi (k : Int)) (pt q 0) (vi A) (vi j) m = _
    rw [r65_L0_s, lss_nat, k1s, decide_eq_false (by omega), kbf]
  | i + 1, n + 1, j, m, hi, hj, hkm => by
    have hql := (List.getElem?_eq_some_iff.1 hq).1
    have hq1 := (hkm.2 q hql).trans hq
    obtain ⟨m2, hk2, hr⟩ := loop65b call fuel base (fun v m => kp v m) (fun y6 m => kr y6 m) (fun y0 y1 y5 y11 y12 m => k1n (mbin E .add 3 y12 (.int .i64 1)) fun v30 => r65_L0 call fuel base kp kr kx n y0 y1 y5 y11 v30 m) (x5 := pt q 0) (x11 := vi A) hv hp (e := j) hb hD hk h64 h63 D fuel 0 m (by omega) (by omega) hkm
    have step : ∀ R, r65_L0 call fuel base kp kr kx (n + 1) v (vi (k : Int)) (pt q 0) (vi A) (vi j) m = R ↔ r65_L2 call fuel base (fun v m => kp v m) (fun y6 m => kr y6 m) (fun y0 y1 y5 y11 y12 m => k1n (mbin E .add 3 y12 (.int .i64 1)) fun v30 => r65_L0 call fuel base kp kr kx n y0 y1 y5 y11 v30 m) fuel v (vi (k : Int)) (pt q 0) (vi j) (vi A) (vi j) (vi D) (vi ((0 : Nat) : Int)) m = R := by
      intro R
      rw [r65_L0_s, lss_nat, k1s, decide_eq_true (by omega), kbt, ff26_2, k1s, ld3, box_cell hq1 (0 + 2) _ rfl, k1s, i0]
    unfold findR
    cases ho : fstO (fun f => keepsK l k j f) D 0 with
    | some f =>
      rw [ho] at hr
      refine ⟨m2, hk2, ?_⟩
      simp only at hr ⊢
      rw [step]
      exact hr
    | none =>
      rw [ho] at hr
      simp only at hr ⊢
      rw [add1 j (by omega), k1s] at hr
      obtain ⟨m', hk', h'⟩ := loop65 call fuel base hfu kp kr kx hv hp hb hD hA hk hq h64 h63 i n (j + 1) m2 (by omega) (by omega) hk2
      refine ⟨m', hk', ?_⟩
      cases ho2 : findR (fun e f => keepsK l k e f) D i (j + 1) with
      | some ef =>
        obtain ⟨e, f⟩ := ef
        rw [ho2] at h'
        simp only at h' ⊢
        rw [step, hr]
        exact h'
      | none =>
        rw [ho2] at h'
        simp only at h' ⊢
        rw [step, hr]
        exact h'
theorem t65 (n base : Nat) (hn : 70 ≤ n) {m : M} (hb : base ≤ m.length) {v : Value} {l : List ByteArray} (hv : Strs m v l) (hp : Pat l) (k : Nat) (hk : k < 8) :
    ∃ m', Keeps m.length m m' ∧ match ofC l k with
      | some (e, f) => rt (n + 1) base 65 [v, vi (k : Int), gridV (latA l) (latB l) (smH l)] m = some (.ret (sl m'.length 1), m' ++ [rowz 6 true [vi (kindT k).1, vi (kindT k).2.1, vi (kindT k).2.2.1, vi (kindT k).2.2.2, vi e, vi f]])
      | none => rt (n + 1) base 65 [v, vi (k : Int), gridV (latA l) (latB l) (smH l)] m = some (.ret nilS, m') := by
  rw [rt_imp (f := 65) (rf := rf65) (by kernel_rfl) (by kernel_rfl) (by kernel_rfl) n base]
  show ∃ m', Keeps m.length m m' ∧ match ofC l k with
      | some (e, f) => r65 (rt n) n base v (vi (k : Int)) (gridV (latA l) (latB l) (smH l)) m = some (.ret (sl m'.length 1), m' ++ [rowz 6 true [vi (kindT k).1, vi (kindT k).2.1, vi (kindT k).2.2.1, vi (kindT k).2.2.2, vi e, vi f]])
      | none => r65 (rt n) n base v (vi (k : Int)) (gridV (latA l) (latB l) (smH l)) m = some (.ret nilS, m')
  obtain ⟨i, rfl⟩ : ∃ i, n = i + 1 := ⟨n - 1, by omega⟩
  obtain ⟨l1, l2, l3, _⟩ := lat_ok hp
  have a4 := hp.w6; have a2 := hp.h6
  have d2 := (smH_le hp).2.1
  have hk1 : Keeps m.length m (m ++ [cellR [vi (latA l), vi (latB l), vi (smH l)]]) := Keeps.push _ _ (Nat.le_refl _) _
  have hv1 := hv.keeps hk1
  have hq : (m ++ [cellR [vi (latA l), vi (latB l), vi (smH l)]])[m.length]? = some (cellR [vi (latA l), vi (latB l), vi (smH l)]) := by simp
  obtain ⟨m', hk', hr⟩ := loop65 (rt (i + 1)) (i + 1) base (by omega) (fun v m => some (.pan v, m)) (fun y6 m => some (.ret y6, m)) (fun m => some (.ret (.slice none 0 0), m)) hv1 hp (by simp; omega) (by omega) (by omega) hk hq
    (fun e f m => t64 i _ k hk e f m) (fun e f m2 hk2 => t63 i _ (by omega) (hv1.keeps hk2) hp _ _ _ _ e f) (latA l) (i + 1) 0 _ (by omega) (by omega) (Keeps.refl _ _)
  have step : ∀ R, r65 (rt (i + 1)) (i + 1) base v (vi (k : Int)) (gridV (latA l) (latB l) (smH l)) m = R ↔ r65_L0 (rt (i + 1)) (i + 1) base (fun v m => some (.pan v, m)) (fun y6 m => some (.ret y6, m)) (fun m => some (.ret (.slice none 0 0), m)) (i + 1) v (vi (k : Int)) (pt m.length 0) (vi (latA l)) (vi ((0 : Nat) : Int)) (m ++ [cellR [vi (latA l), vi (latB l), vi (smH l)]]) = R := by
    intro R
    unfold r65
    rw [k1_fun, fVal_fun, bxa3, k2s, ff26_0, k1s, ld3, box_cell hq (0 + 0) _ rfl, k1s, i0]
  refine ⟨m', hk1.trans (hk'.mono hk1.1), ?_⟩
  unfold ofC
  cases ho : findR (fun e f => keepsK l k e f) (smH l) (latA l) 0 with
  | some ef =>
    obtain ⟨e, f⟩ := ef
    rw [ho] at hr
    simp only at hr ⊢
    rw [step]
    exact hr
  | none =>
    rw [ho] at hr
    simp only at hr ⊢
    rw [step]
    exact hr
end Go.AM
namespace Go.AM
open Go Go.Proofs
abbrev Mv := Nat × Nat × Nat
def mvC (x : Mv) : List Value := [vi (kindT x.1).1, vi (kindT x.1).2.1, vi (kindT x.1).2.2.1, vi (kindT x.1).2.2.2, vi x.2.1, vi x.2.2]
def mvsV (L : List Mv) : List Value := L.flatMap mvC
def movU (l : List ByteArray) (j : Nat) : List Mv := (List.range j).filterMap fun k => (ofC l k).map fun p => (k, p.1, p.2)
def movL (l : List ByteArray) : List Mv := movU l 8
theorem movU_succ (l : List ByteArray) (j : Nat) : movU l (j + 1) = movU l j ++ match ofC l j with
    | some p => [(j, p.1, p.2)]
    | none => [] := by
  unfold movU
  rw [List.range_succ, List.filterMap_append]
  congr 1
  cases h : ofC l j <;> simp [h]
theorem movU_len (l : List ByteArray) (j : Nat) : (movU l j).length ≤ j := by
  unfold movU
  have := List.length_filterMap_le (fun k => (ofC l k).map fun p => (k, p.1, p.2)) (List.range j)
  simpa using this
/-- Moves in memory. -/
def Mvs (m : M) (v : Value) (L : List Mv) : Prop := (L = [] ∧ v = nilS) ∨ ∃ p row, v = sl p L.length ∧ m[p]? = some row ∧ row.cells = mvsV L
theorem Mvs.at {m m' : M} {v : Value} {L : List Mv} (h : Mvs m v L) (hk : ∀ i n0, v = sl i n0 → i < m.length → m'[i]? = m[i]?) : Mvs m' v L := by
  rcases h with h | ⟨p, row, h1, h2, h3⟩
  · exact .inl h
  · exact .inr ⟨p, row, h1, (hk p _ h1 (List.getElem?_eq_some_iff.1 h2).1).trans h2, h3⟩
theorem Mvs.keeps {m m' : M} {v : Value} {L : List Mv} (h : Mvs m v L) (hk : Keeps m.length m m') : Mvs m' v L := h.at fun i _ _ hi => hk.2 i hi
theorem Mvs.app {m : M} {v : Value} {L : List Mv} (h : Mvs m v L) (x : List Row) : Mvs (m ++ x) v L := h.keeps (Keeps.push _ _ (Nat.le_refl _) _)
theorem mvsV_len (L : List Mv) : (mvsV L).length = L.length * 6 := by
  unfold mvsV
  induction L with
  | nil => rfl
  | cons x L ih =>
    rw [List.flatMap_cons, List.length_append, ih, List.length_cons]
    show 6 + L.length * 6 = (L.length + 1) * 6
    omega
theorem mvsV_at : ∀ (L : List Mv) (j : Nat) (hj : j < L.length), ((mvsV L).drop (j * 6)).take 6 = mvC L[j]
  | [], j, h => by simp at h
  | x :: L, 0, _ => by
    show (((mvC x) ++ mvsV L).drop 0).take 6 = mvC x
    rw [List.drop_zero, List.take_append_of_le_length (by show 6 ≤ 6; omega)]
    rfl
  | x :: L, j + 1, h => by
    have e : mvsV (x :: L) = mvC x ++ mvsV L := rfl
    have : (j + 1) * 6 = (mvC x).length + j * 6 := by show (j + 1) * 6 = 6 + j * 6; omega
    rw [e, this, List.drop_append, List.drop_eq_nil_of_le (by omega), List.nil_append, Nat.add_sub_cancel_left]
    exact mvsV_at L j (by simpa using h)
theorem Mvs.len30 {m : M} {v : Value} {L : List Mv} (h : Mvs m v L) (base : Nat) : vcalln E.P base m .len [30] [v] = some (vi L.length, m) := by
  rcases h with ⟨rfl, rfl⟩ | ⟨p, row, rfl, _⟩
  · exact len30n _ _
  · exact AM.len30 _ _ _ _ _
theorem Mvs.get {m : M} {v : Value} {L : List Mv} (h : Mvs m v L) {j : Nat} (hj : j < L.length) (K : Value → Res2) : (k1n (mindexAddr E.P 30 v (vi j)) fun a => k1n (xload E.P m 50 a) K) = K (kV L[j].1 L[j].2.1 L[j].2.2) := by
  rcases h with ⟨rfl, rfl⟩ | ⟨p, row, rfl, hr, hc⟩
  · simp at hj
  · rw [ix30 p _ _ j hj, k1s, ld50 hr (by rw [hc, mvsV_len]; omega), k1s, hc, mvsV_at L j hj]
    rfl
theorem kB_keeps {m m' : M} (v : Value) (h : Keeps m.length m m') : kB m (some (.ret v, m')) = some (.ret v, m') := by
  have e : m ++ m'.drop m.length = m' := by
    refine List.ext_getElem? fun i => ?_
    by_cases hi : i < m.length
    · rw [List.getElem?_append_left hi, h.2 i hi]
    · rw [List.getElem?_append_right (by omega), List.getElem?_drop]
      congr 1; omega
  simp only [kB, e, fList_eq]
theorem app30n (base : Nat) (m : M) (v : Value) (hv : v = nilS ∨ ∃ r n, v = sl r n) : vcalln E.P base m .append [30, 30] [v, nilS] = some (v, m) := by
  rcases hv with rfl | ⟨r, n, rfl⟩
  · kernel_rfl
  · have e : xappend E.P base m [30, 30] (sl r n) nilS =
        if n + 0 ≤ n then if 0 = 0 then some (.slice (some ⟨r, 0, none⟩) n n, m) else
          (xwrite base m r (0 + n * 6) []).bind fun m' => fNat (n + 0) fun k => some (.slice (some ⟨r, 0, none⟩) k n, m')
        else if n + 0 > 2 ^ 38 then none else
          match xget m r, xread m r 0 (n * 6) with
          | some row, some olds =>
            if row.esz ≠ 6 then none else
            xlen m fun k => fNat (n + 0) fun c => fList (olds ++ []) fun cs =>
            if row.ex then xpush m (rowz 6 false cs) fun m' => some (.slice (some ⟨k, 0, none⟩) c c, m')
            else if row.cells.isEmpty then none
            else if ([] : List Value).all (·.oneCell') then xkill base m r fun m' => xpush m' (rowz 6 false cs) fun m' => some (.slice (some ⟨k, 0, none⟩) c c, m')
            else none
          | _, _ => none := by kernel_rfl
    rw [ga30e, e, if_pos (by omega), if_pos rfl]
theorem app30 {b base : Nat} {m : M} {v : Value} {cs : List Value} {n : Nat} (h : Grow 6 b m v cs n) (hn : n ≤ 1000) (hbb : base ≤ b) (hbm : b ≤ m.length) {k : Nat} {ds : List Value} (hk : m[k]? = some (rowz 6 true ds)) (hd : ds.length = 6) (hone : ds.all (·.oneCell') = true) :
    ∃ v' m', vcalln E.P base m .append [30, 30] [v, sl k 1] = some (v', m') ∧ Grow 6 b m' v' (cs ++ ds) (n + 1) ∧ Keeps b m m' := by
  rcases h with ⟨rfl, rfl, rfl⟩ | ⟨r, h1, hb, rfl, hr, hl⟩
  · refine ⟨_, m ++ [rowz 6 false ds], by rw [ga30e, ga30nil _ _ _ 1 _ _ hk (by simp [rowz, hd]) (by omega) (by omega)]; rfl, .inr ⟨m.length, by omega, hbm, rfl, by simp, by simpa using hd⟩, Keeps.push b m hbm _⟩
  · have hlt : r < m.length := (List.getElem?_eq_some_iff.1 hr).1
    refine ⟨_, m.set r (rowz 6 false []) ++ [rowz 6 false (cs ++ ds)], by rw [ga30e, ga30some _ _ r n _ 1 _ false cs _ hr hl (.inr h1) (by omega) (by omega) (by omega) (by omega) hk (by simp [rowz, hd]) hone]; rfl, .inr ⟨m.length, by omega, hbm, rfl, by simp, by simp [hl, hd]; omega⟩, (Keeps.set b _ r _ hb).trans (Keeps.push b _ (by simp; omega) _)⟩
theorem Grow.form {z b : Nat} {m : M} {v : Value} {cs : List Value} {n : Nat} (h : Grow z b m v cs n) : v = nilS ∨ ∃ r n, v = sl r n := by
  rcases h with ⟨_, h, _⟩ | ⟨r, _, _, h, _⟩
  · exact .inl h
  · exact .inr ⟨r, n, h⟩
theorem Grow.keep {z b b' : Nat} {m m' : M} {v : Value} {cs : List Value} {n : Nat} (h : Grow z b m v cs n) (hk : ∀ i, b ≤ i → i < m.length → m'[i]? = m[i]?) : Grow z b m' v cs n := by
  rcases h with h | ⟨r, h1, h2, h3, h4, h5⟩
  · exact .inl h
  · exact .inr ⟨r, h1, h2, h3, (hk r h2 (List.getElem?_eq_some_iff.1 h4).1).trans h4, h5⟩
theorem r43_L0_s (call : CallF) (fuel base : Nat) (kx0 : Value → Value → M → Res2) (n : Nat) (x0 x2 x3 x8 : Value) (m : M) : r43_L0 call fuel base kx0 (n + 1) x0 x2 x3 x8 m =
    (k1n (mbin E .lss 3 x8 (.int .i64 8)) fun v9_5 => (kb v9_5 (k1n (mfieldAddr E.P 70 x3 1) fun v11_6 => (k1n (xload E.P m 30 v11_6) fun v12_7 => (k1n (mfieldAddr E.P 70 x3 0) fun v15_8 => (k1n (xload E.P m 26 v15_8) fun v16_9 => (kc (kB m (call m.length 65 [x0, x8, v16_9] m)) (fun v17_10 m => (k2 (vcalln E.P base m .append [30, 30] [v12_7, v17_10]) fun v18_11 m => (k1n (mfieldAddr E.P 70 x3 1) fun v19_12 => (ks (xstore E.P base m 30 v19_12 v18_11) fun m => (k1n (mbin E .add 3 x8 (.int .i64 1)) fun v20_13 => (r43_L0 call fuel base kx0 n x0 x2 x3 v20_13 m)))))) (fun _ _ => none)))))) (kx0 x2 x3 m))) := by
  unfold r43_L0
  rw [k1_fun, vcall_fun]
abbrev grpV (a b c : Int) (s : Value) : Value := .agg #[vi a, vi b, vi c, s]
theorem b70 (a b c : Int) : mbuild E.P 70 [(0, gridV a b c)] = some (grpV a b c nilS) := by kernel_rfl
theorem st30s {base : Nat} {m : M} {p off : Nat} {v : Value} (hv : v = nilS ∨ ∃ r n, v = sl r n) : xstore E.P base m 30 (pt p off) v = mwrite base m p off [v] := by
  rcases hv with rfl | ⟨r, n, rfl⟩
  · exact st30n _ _ _ _
  · exact st30 _ _ _ _ _ _ _
theorem one_form {v : Value} (hv : v = nilS ∨ ∃ r n, v = sl r n) : v.oneCell' = true := by
  rcases hv with rfl | ⟨r, n, rfl⟩ <;> rfl
theorem loop43 (call : CallF) (fuel base : Nat) (kx : Value → Value → M → Res2) {m0 : M} {v x2 : Value} {l : List ByteArray} {r : Nat} (hv : Strs m0 v l) (hp : Pat l) (hm0 : m0.length ≤ r) (hb : base ≤ r)
    (h65 : ∀ (k : Nat) (m : M), k < 8 → Keeps m0.length m0 m → ∃ m', Keeps m.length m m' ∧ match ofC l k with
      | some (e, f) => call m.length 65 [v, vi (k : Int), gridV (latA l) (latB l) (smH l)] m = some (.ret (sl m'.length 1), m' ++ [rowz 6 true [vi (kindT k).1, vi (kindT k).2.1, vi (kindT k).2.2.1, vi (kindT k).2.2.2, vi e, vi f]])
      | none => call m.length 65 [v, vi (k : Int), gridV (latA l) (latB l) (smH l)] m = some (.ret nilS, m')) :
    ∀ (i n j : Nat) (m : M) (s : Value), i < n → j + i = 8 → Keeps m0.length m0 m → r < m.length → m[r]? = some (cellR [vi (latA l), vi (latB l), vi (smH l), s]) → Grow 6 (r + 1) m s (mvsV (movU l j)) (movU l j).length →
      ∃ s' m', r43_L0 call fuel base kx n v x2 (pt r 0) (vi (j : Int)) m = kx x2 (pt r 0) m' ∧ Keeps r m m' ∧ m'[r]? = some (cellR [vi (latA l), vi (latB l), vi (smH l), s']) ∧ Grow 6 (r + 1) m' s' (mvsV (movL l)) (movL l).length
  | _, 0, j, m, s, hi, hj, _, _, _, _ => by omega
  | 0, n + 1, j, m, s, hi, hj, hk, hrl, hr, hg => by
    have : j = 8 := by omega
    subst this
    rw [r43_L0_s, lss8, k1s, decide_eq_false (by omega), kbf]
    exact ⟨s, m, rfl, Keeps.refl _ _, hr, hg⟩
  | i + 1, n + 1, j, m, s, hi, hj, hk, hrl, hr, hg => by
    have hs := hg.form
    have c3 : mcell m r (0 + 3) = some s := box_cell hr (0 + 3) _ rfl
    have lg : xload E.P m 26 (pt r (0 + 0)) = some (gridV (latA l) (latB l) (smH l)) := ld26 hr (by simp [cellR])
    have hlen := movU_len l j
    obtain ⟨m1, hk1, h1⟩ := h65 j m (by omega) hk
    have next : ∀ (s2 : Value) (m2 : M), Keeps m.length m m2 ∨ (Keeps (r + 1) m m2) → Grow 6 (r + 1) m2 s2 (mvsV (movU l (j + 1))) (movU l (j + 1)).length → r + 1 ≤ m2.length → Keeps (r + 1) m m2 →
        ∃ s' m', (k1n (some (pt r (0 + 3))) fun v19 => ks (xstore E.P base m2 30 v19 s2) fun m => k1n (mbin E .add 3 (vi (j : Int)) (.int .i64 1)) fun v20 => r43_L0 call fuel base kx n v x2 (pt r 0) v20 m) = kx x2 (pt r 0) m' ∧ Keeps r m m' ∧ m'[r]? = some (cellR [vi (latA l), vi (latB l), vi (smH l), s']) ∧ Grow 6 (r + 1) m' s' (mvsV (movL l)) (movL l).length := by
      intro s2 m2 _ hg2 hl2 hk2
      have hr2 : m2[r]? = some (cellR [vi (latA l), vi (latB l), vi (smH l), s]) := (hk2.2 r (by omega)).trans hr
      have hs2 := hg2.form
      rw [k1s, st30s hs2, mwrite_one hb hr2 rfl (by simp [cellR]) (one_form hs2), kss, add1 j (by omega), k1s]
      have hrow : ({ cellR [vi (latA l), vi (latB l), vi (smH l), s] with cells := (cellR [vi (latA l), vi (latB l), vi (smH l), s]).cells.set (0 + 3) s2 } : Row) = cellR [vi (latA l), vi (latB l), vi (smH l), s2] := rfl
      rw [hrow]
      have hk3 : Keeps r m (m2.set r (cellR [vi (latA l), vi (latB l), vi (smH l), s2])) := (hk2.mono (by omega)).trans (Keeps.set _ _ _ _ (Nat.le_refl _))
      obtain ⟨s', m', e, k', r', g'⟩ := loop43 call fuel base kx hv hp hm0 hb h65 i n (j + 1) (m2.set r (cellR [vi (latA l), vi (latB l), vi (smH l), s2])) s2 (by omega) (by omega) (hk.trans (hk3.mono hm0)) (by simp; omega) (List.getElem?_set_self (by omega)) (hg2.keep (b' := 0) fun i hi _ => List.getElem?_set_ne (by omega))
      exact ⟨s', m', e, hk3.trans k', r', g'⟩
    rw [r43_L0_s, lss8, k1s, decide_eq_true (by omega), kbt, ff70_1, k1s, ld30, c3, k1s, ff70_0, k1s, lg, k1s]
    cases ho : ofC l j with
    | some ef =>
      obtain ⟨e, f⟩ := ef
      rw [ho] at h1
      simp only at h1
      have hkx : Keeps m.length m (m1 ++ [rowz 6 true [vi (kindT j).1, vi (kindT j).2.1, vi (kindT j).2.2.1, vi (kindT j).2.2.2, vi e, vi f]]) := hk1.trans (Keeps.push _ _ hk1.1 _)
      have hgx : Grow 6 (r + 1) (m1 ++ [rowz 6 true [vi (kindT j).1, vi (kindT j).2.1, vi (kindT j).2.2.1, vi (kindT j).2.2.2, vi e, vi f]]) s (mvsV (movU l j)) (movU l j).length := hg.keep (b' := 0) fun i _ hi => hkx.2 i hi
      obtain ⟨s2, m2, e2, g2, k2'⟩ := app30 hgx (by omega) (show base ≤ r + 1 by omega) (by have := hkx.1; omega) (k := m1.length) (ds := [vi (kindT j).1, vi (kindT j).2.1, vi (kindT j).2.2.1, vi (kindT j).2.2.2, vi e, vi f]) (by simp) rfl rfl
      rw [h1, kB_keeps _ hkx, kcs, e2, k2s]
      have hkk : Keeps (r + 1) m m2 := (hkx.mono (by omega)).trans k2'
      refine next s2 m2 (.inr hkk) ?_ (by have := hkk.1; omega) hkk
      have hm : movU l (j + 1) = movU l j ++ [(j, e, f)] := by rw [movU_succ, ho]
      rw [hm]
      have : mvsV (movU l j ++ [(j, e, f)]) = mvsV (movU l j) ++ [vi (kindT j).1, vi (kindT j).2.1, vi (kindT j).2.2.1, vi (kindT j).2.2.2, vi e, vi f] := by
        unfold mvsV; rw [List.flatMap_append]; rfl
      rw [this, List.length_append]
      exact g2
    | none =>
      rw [ho] at h1
      simp only at h1
      rw [h1, kB_keeps _ hk1, kcs, app30n _ _ _ hs, k2s]
      refine next s m1 (.inl hk1) ?_ (by have := hk1.1; omega) (hk1.mono (by omega))
      have hm : movU l (j + 1) = movU l j := by rw [movU_succ, ho, List.append_nil]
      rw [hm]
      exact hg.keep (b' := 0) fun i _ hi => hk1.2 i hi
theorem Grow.mvs {b : Nat} {m : M} {v : Value} {L : List Mv} (h : Grow 6 b m v (mvsV L) L.length) : Mvs m v L := by
  rcases h with ⟨h1, h2, h3⟩ | ⟨r, h1, h2, h3, h4, h5⟩
  · exact .inl ⟨List.eq_nil_of_length_eq_zero h1, h2⟩
  · exact .inr ⟨r, _, h3, h4, rfl⟩
theorem ld70b {m : M} {r : Nat} {a b c d : Value} (h : m[r]? = some (cellR [a, b, c, d])) : xload E.P m 70 (pt r 0) = some (.agg #[a, b, c, d]) := ldb70 h
theorem t43 (n base : Nat) (hn : 80 ≤ n) {m : M} (hb : base ≤ m.length) {v : Value} {l : List ByteArray} (hv : Strs m v l) (hp : Pat l) :
    ∃ s m', rt (n + 1) base 43 [v] m = some (.ret (grpV (latA l) (latB l) (smH l) s), m') ∧ Mvs m' s (movL l) ∧ Keeps m.length m m' ∧ (s = nilS ∨ ∃ r n, s = sl r n) := by
  rw [rt_imp (f := 43) (rf := rf43) (by kernel_rfl) (by kernel_rfl) (by kernel_rfl) n base]
  show ∃ s m', r43 (rt n) n base v m = _ ∧ _
  obtain ⟨k, rfl⟩ : ∃ k, n = k + 1 := ⟨n - 1, by omega⟩
  unfold r43
  rw [k1_fun, fVal_fun, al70, k2s, t41 k base (by omega) (hv.app _) hp, kcs, b70, k1s, al70, k2s]
  generalize hz : (cellR [(.int .i64 0 : Value), .int .i64 0, .int .i64 0, .slice none 0 0]) = z
  have hlen : (m ++ [z]).length = m.length + 1 := by simp
  have h1 : ((m ++ [z]) ++ [z])[m.length + 1]? = some (cellR [.int .i64 0, .int .i64 0, .int .i64 0, .slice none 0 0]) := by rw [hz]; simp
  rw [hlen, st70 (by omega) h1 rfl, kss]
  have hset : ((m ++ [z]) ++ [z]).set (m.length + 1) (cellR [vi (latA l), vi (latB l), vi (smH l), nilS]) = (m ++ [z]) ++ [cellR [vi (latA l), vi (latB l), vi (smH l), nilS]] := by
    rw [← hlen]; simp
  rw [hset]
  have hk1 : Keeps m.length m ((m ++ [z]) ++ [cellR [vi (latA l), vi (latB l), vi (smH l), nilS]]) := by rw [List.append_assoc]; exact Keeps.push _ _ (Nat.le_refl _) _
  obtain ⟨s', m', e, k', r', g'⟩ := loop43 (rt (k + 1)) (k + 1) base (fun y2 y3 m => k1n (xload E.P m 70 y3) fun v21 => ks (xstore E.P base m 70 y2 v21) fun m => k0 (mload E.P m 70 y2) fun r => some (.ret r, m)) (x2 := pt m.length 0) hv hp (r := m.length + 1) (by omega) (by omega) (fun k2 m2 hk2 hkm => t65 k _ (by omega) (Nat.le_refl _) (hv.keeps hkm) hp k2 hk2) 8 (k + 1) 0 _ nilS (by omega) (by omega) hk1 (by simp) (by rw [← hlen]; simp) (.inl ⟨rfl, rfl, rfl⟩)
  have hform := g'.form
  have hr0 : m'[m.length]? = some (cellR [.int .i64 0, .int .i64 0, .int .i64 0, .slice none 0 0]) := by
    rw [k'.2 _ (by omega), hz]
    simp
  show ∃ s m', r43_L0 (rt (k + 1)) (k + 1) base _ (k + 1) v (pt m.length 0) (pt (m.length + 1) 0) (vi ((0 : Nat) : Int)) _ = _ ∧ _
  rw [e, ld70b r', k1s, st70 hb hr0 (by show (true && (true && (true && (s'.oneCell' && true)))) = true; rw [one_form hform]; rfl), kss]
  have hkf : Keeps m.length m (m'.set m.length (cellR [vi (latA l), vi (latB l), vi (smH l), s'])) := hk1.trans ((k'.mono (by omega)).trans (Keeps.set _ _ _ _ (Nat.le_refl _)))
  rw [ml70 (List.getElem?_set_self (List.getElem?_eq_some_iff.1 hr0).1), k0s]
  refine ⟨s', _, rfl, ?_, hkf, hform⟩
  exact (g'.keep (b' := 0) fun i hi _ => List.getElem?_set_ne (by omega)).mvs
end Go.AM
namespace Go.AM
open Go Go.Proofs
/-- A group: the lattice and a symmetry for each class. -/
structure Grp where
  A : Nat
  B : Nat
  D : Nat
  L : List Mv
structure Grp.Ok (g : Grp) : Prop where
  a1 : 1 ≤ g.A
  d1 : 1 ≤ g.D
  a6 : g.A ≤ 6
  d6 : g.D ≤ 6
  len : g.L.length ≤ 8
  kind : ∀ x ∈ g.L, x.1 < 8
def isSl (s : Value) : Prop := s = nilS ∨ ∃ r n, s = sl r n
/-- A group in memory. -/
def GrpIn (m : M) (v : Value) (g : Grp) : Prop := ∃ s, v = grpV g.A g.B g.D s ∧ Mvs m s g.L ∧ isSl s
theorem GrpIn.keeps {m m' : M} {v : Value} {g : Grp} (h : GrpIn m v g) (hk : Keeps m.length m m') : GrpIn m' v g := by
  obtain ⟨s, h1, h2, h3⟩ := h
  exact ⟨s, h1, h2.keeps hk, h3⟩
theorem GrpIn.app {m : M} {v : Value} {g : Grp} (h : GrpIn m v g) (x : List Row) : GrpIn (m ++ x) v g := h.keeps (Keeps.push _ _ (Nat.le_refl _) _)
/-- The symmetry of a kind in a list. -/
def ofM : List Mv → Nat → Option (Nat × Nat)
  | [], _ => none
  | x :: L, k => if x.1 = k then some (x.2.1, x.2.2) else ofM L k
def homeX (g : Grp) (x : Int) : Int := x % (g.A : Int)
def homeY (g : Grp) (x y : Int) : Int := wr (y - wr (wr (Int.tdiv (wr (x - homeX g x)) (g.A : Int)) * g.B)) % (g.D : Int)
theorem t100 (n base : Nat) (hn : 3 ≤ n) {m : M} {v : Value} {g : Grp} (hg : GrpIn m v g) (ho : g.Ok) (x y : Int) : rt (n + 1) base 100 [v, cV x y] m = some (.ret (cV (homeX g x) (homeY g x y)), m) := by
  obtain ⟨s, rfl, hs, hform⟩ := hg
  suffices h : ∃ m1, r100 (rt n) n m.length (grpV g.A g.B g.D s) (cV x y) m = some (.ret (cV (homeX g x) (homeY g x y)), m1) by
    obtain ⟨m1, h⟩ := h
    exact rt_pure (f := 100) (rf := rf100) (by kernel_rfl) (by kernel_rfl) (by kernel_rfl) n base _ m m1 _ h rfl
  obtain ⟨i, rfl⟩ : ∃ i, n = i + 1 := ⟨n - 1, by omega⟩
  have a1 := ho.a1; have d1 := ho.d1; have a6 := ho.a6; have d6 := ho.d6
  unfold r100
  rw [k1_fun, fVal_fun, bxa4, k2s, bxa2, k2s, al103, k2s]
  generalize hz : (cellR [(.int .i64 0 : Value), .int .i64 0]) = z
  have hl1 : (m ++ [cellR [vi g.A, vi g.B, vi g.D, s]]).length = m.length + 1 := by simp
  have hl2 : ((m ++ [cellR [vi g.A, vi g.B, vi g.D, s]]) ++ [cellR [vi x, vi y]]).length = m.length + 2 := by simp
  rw [hl1, hl2]
  generalize hm3 : (((m ++ [cellR [vi g.A, vi g.B, vi g.D, s]]) ++ [cellR [vi x, vi y]]) ++ [z]) = m3
  have g0 : m3[m.length]? = some (cellR [vi g.A, vi g.B, vi g.D, s]) := by rw [← hm3]; simp
  have g1 : m3[m.length + 1]? = some (cellR [vi x, vi y]) := by rw [← hm3]; simp
  have g2 : m3[m.length + 2]? = some (cellR [.int .i64 0, .int .i64 0]) := by rw [← hm3, hz]; simp
  simp only [ff103_0, ff103_1, ff70_0, k1s, ff26_0, ff26_1, ff26_2, ld3, box_cell g0 (0 + 0 + 0) _ rfl, box_cell g0 (0 + 0 + 1) _ rfl, box_cell g0 (0 + 0 + 2) _ rfl, box_cell g1 (0 + 0) _ rfl, box_cell g1 (0 + 1) _ rfl]
  rw [t101 i _ _ _ _ (by omega) (by omega), kcs]
  simp only [ff103_0, ff103_1, ff70_0, k1s, ff26_0, ff26_1, ff26_2, ld3, box_cell g0 (0 + 0 + 0) _ rfl, box_cell g0 (0 + 0 + 1) _ rfl, box_cell g0 (0 + 0 + 2) _ rfl, box_cell g1 (0 + 0) _ rfl, box_cell g1 (0 + 1) _ rfl, sub3, mul3]
  rw [quo3 _ _ (by omega), k1s, mul3, k1s]
  simp only [sub3, k1s]
  rw [t101 i _ _ _ _ (by omega) (by omega), kcs, b103, k1s, st103 (by omega) g2 rfl, kss, ml103 (List.getElem?_set_self (List.getElem?_eq_some_iff.1 g2).1), k0s]
  exact ⟨_, rfl⟩
end Go.AM
namespace Go.AM
open Go Go.Proofs
theorem ex0 (a b : Value) : mextract 0 (.tuple #[a, b]) = some a := by kernel_rfl
theorem ex1 (a b : Value) : mextract 1 (.tuple #[a, b]) = some b := by kernel_rfl
end Go.AM
namespace Go.AM
open Go Go.Proofs
/-- Is a move of a kind a symmetry? -/
def hasF (g : Grp) (k : Nat) (x y : Int) : Bool := match ofM g.L k with
  | some (e, f) => decide ((homeX g (wr (x - e)), homeY g (wr (x - e)) (wr (y - f))) = (0, 0))
  | none => false
def mtX (k : Nat) (x y : Int) : Int := wr (x - tkX (kindT k).1 (kindT k).2.1 0 x y)
def mtY (k : Nat) (x y : Int) : Int := wr (y - tkX (kindT k).2.2.1 (kindT k).2.2.2 0 x y)
/-- Is there a mirror of a kind through a point (its coordinates doubled)? -/
def hm (g : Grp) (k : Nat) (x y : Int) : Bool := decide (Int.tmod (mtX k x y) 2 = 0) && hasF g k (wr (Int.tdiv (mtX k x y) 2)) (wr (Int.tdiv (mtY k x y) 2))
end Go.AM
namespace Go.AM
open Go Go.Proofs
/-- Whole numbers in memory. -/
def intsV (N : List Nat) : List Value := N.map fun (k : Nat) => vi (k : Int)
def Ints (m : M) (v : Value) (N : List Nat) : Prop := (N = [] ∧ v = nilS) ∨ ∃ p row, v = sl p N.length ∧ m[p]? = some row ∧ row.cells = intsV N
theorem Ints.at {m m' : M} {v : Value} {N : List Nat} (h : Ints m v N) (hk : ∀ i n0, v = sl i n0 → i < m.length → m'[i]? = m[i]?) : Ints m' v N := by
  rcases h with h | ⟨p, row, h1, h2, h3⟩
  · exact .inl h
  · exact .inr ⟨p, row, h1, (hk p _ h1 (List.getElem?_eq_some_iff.1 h2).1).trans h2, h3⟩
theorem Ints.keeps {m m' : M} {v : Value} {N : List Nat} (h : Ints m v N) (hk : Keeps m.length m m') : Ints m' v N := h.at fun i _ _ hi => hk.2 i hi
theorem Ints.len37 {m : M} {v : Value} {N : List Nat} (h : Ints m v N) (base : Nat) : vcalln E.P base m .len [37] [v] = some (vi (N.length : Int), m) := by
  rcases h with ⟨rfl, rfl⟩ | ⟨p, row, rfl, _⟩
  · exact len37n _ _
  · exact AM.len37 _ _ _ _ _
theorem Ints.get {m : M} {v : Value} {N : List Nat} (h : Ints m v N) {j : Nat} (hj : j < N.length) (K : Value → Res2) : (k1n (mindexAddr E.P 37 v (vi (j : Int))) fun a => k1n (xload E.P m 3 a) K) = K (vi (N[j] : Int)) := by
  rcases h with ⟨rfl, rfl⟩ | ⟨p, row, rfl, hr, hc⟩
  · simp at hj
  · have c : mcell m p j = some (vi (N[j] : Int)) := by
      unfold mcell
      rw [hr]
      show row.cells[j]? = _
      rw [hc]
      unfold intsV
      rw [List.getElem?_map, List.getElem?_eq_getElem hj]
      rfl
    rw [ix37 p _ _ j hj, k1s, ld3, c, k1s]
abbrev Cel := Int × Int
def csV (N : List Cel) : List Value := N.flatMap fun c => [vi c.1, vi c.2]
def Cels (m : M) (v : Value) (N : List Cel) : Prop := (N = [] ∧ v = nilS) ∨ ∃ p row, v = sl p N.length ∧ m[p]? = some row ∧ row.cells = csV N
theorem Cels.at {m m' : M} {v : Value} {N : List Cel} (h : Cels m v N) (hk : ∀ i n0, v = sl i n0 → i < m.length → m'[i]? = m[i]?) : Cels m' v N := by
  rcases h with h | ⟨p, row, h1, h2, h3⟩
  · exact .inl h
  · exact .inr ⟨p, row, h1, (hk p _ h1 (List.getElem?_eq_some_iff.1 h2).1).trans h2, h3⟩
theorem Cels.keeps {m m' : M} {v : Value} {N : List Cel} (h : Cels m v N) (hk : Keeps m.length m m') : Cels m' v N := h.at fun i _ _ hi => hk.2 i hi
theorem csV_len (N : List Cel) : (csV N).length = N.length * 2 := by
  unfold csV
  induction N with
  | nil => rfl
  | cons x N ih => rw [List.flatMap_cons, List.length_append, ih, List.length_cons]; show 2 + N.length * 2 = (N.length + 1) * 2; omega
theorem csV_at : ∀ (N : List Cel) (j : Nat) (hj : j < N.length), ((csV N).drop (j * 2)).take 2 = [vi N[j].1, vi N[j].2]
  | [], j, h => by simp at h
  | x :: N, 0, _ => rfl
  | x :: N, j + 1, h => by
    have e : csV (x :: N) = vi x.1 :: vi x.2 :: csV N := rfl
    rw [e, show (j + 1) * 2 = j * 2 + 1 + 1 by omega, List.drop_succ_cons, List.drop_succ_cons]
    exact csV_at N j (by simpa using h)
theorem Cels.get {m : M} {v : Value} {N : List Cel} (h : Cels m v N) {j : Nat} (hj : j < N.length) (K : Value → Res2) : (k1n (mindexAddr E.P 115 v (vi (j : Int))) fun a => k1n (xload E.P m 103 a) K) = K (cV N[j].1 N[j].2) := by
  rcases h with ⟨rfl, rfl⟩ | ⟨p, row, rfl, hr, hc⟩
  · simp at hj
  · rw [ix115 p _ _ j hj, k1s, ld103 hr (by rw [hc, csV_len]; omega), k1s, hc, csV_at N j hj]
/-- Where a group lies as a variable. -/
def GrpAt (m : M) (q : Nat) (v : Value) (g : Grp) : Prop := ∃ s, v = grpV g.A g.B g.D s ∧ m[q]? = some (cellR [vi g.A, vi g.B, vi g.D, s])
theorem GrpAt.keeps {m m' : M} {q : Nat} {v : Value} {g : Grp} (h : GrpAt m q v g) (hk : ∀ i, i < m.length → m'[i]? = m[i]?) : GrpAt m' q v g := by
  obtain ⟨s, h1, h2⟩ := h
  exact ⟨s, h1, (hk q (List.getElem?_eq_some_iff.1 h2).1).trans h2⟩
theorem GrpAt.ld {m : M} {q : Nat} {v : Value} {g : Grp} (h : GrpAt m q v g) : xload E.P m 70 (pt q 0) = some v := by
  obtain ⟨s, rfl, h2⟩ := h
  exact ldb70 h2
theorem GrpAt.lt {m : M} {q : Nat} {v : Value} {g : Grp} (h : GrpAt m q v g) : q < m.length := by
  obtain ⟨s, _, h2⟩ := h
  exact (List.getElem?_eq_some_iff.1 h2).1
theorem grp_box (m : M) {v : Value} {g : Grp} (hg : GrpIn m v g) : ∃ m1, xbox m v = some (pt m.length 0, m1) ∧ GrpAt m1 m.length v g ∧ GrpIn m1 v g ∧ Keeps m.length m m1 ∧ m1.length = m.length + 1 := by
  have hg0 := hg
  obtain ⟨s, rfl, hs, hform⟩ := hg
  exact ⟨m ++ [cellR [vi g.A, vi g.B, vi g.D, s]], bxa4 _ _ _ _ _, ⟨s, rfl, by simp⟩, hg0.app _, Keeps.push _ _ (Nat.le_refl _) _, by simp⟩
end Go.AM
namespace Go.AM
open Go Go.Proofs
/-- The group of a pattern. -/
def grpL (l : List ByteArray) : Grp := { A := latA l, B := latB l, D := smH l, L := movL l }
theorem grp_ok {l : List ByteArray} (hp : Pat l) : (grpL l).Ok := by
  obtain ⟨h1, h2, h3, _⟩ := lat_ok hp
  have h4 := hp.w6; have h5 := hp.h6
  obtain ⟨d1, d2, _⟩ := smH_le hp
  refine ⟨h1, d1, ?_, ?_, movU_len l 8, fun x hx => ?_⟩
  · show latA l ≤ 6; omega
  · show smH l ≤ 6; omega
  · unfold grpL movL movU at hx
    rw [List.mem_filterMap] at hx
    obtain ⟨k, hk, e⟩ := hx
    have := List.mem_range.1 hk
    cases ho : ofC l k with
    | none => rw [ho] at e; simp at e
    | some p => rw [ho] at e; simp at e; rw [← e]; exact this
end Go.AM
namespace Go.AM
open Go Go.Proofs
def Sym (l : List ByteArray) (q : Q4) (e f : Int) : Prop := ∀ x y : Int, colr l x y = colr l (q.1 * x + q.2.1 * y + e) (q.2.2.1 * x + q.2.2.2 * y + f)
theorem mod_of_dvd {n u v : Int} (h : n ∣ u - v) : u % n = v % n := Int.emod_eq_emod_iff_emod_sub_eq_zero.2 (Int.emod_eq_zero_of_dvd h)
theorem colr_dvd {l : List ByteArray} {x y x2 y2 : Int} (h1 : (wid l : Int) ∣ x - x2) (h2 : (l.length : Int) ∣ y - y2) : colr l x y = colr l x2 y2 := colr_mod (mod_of_dvd h1) (mod_of_dvd h2)
theorem kind_bd (k : Nat) : (-1 ≤ (kindT k).1 ∧ (kindT k).1 ≤ 1) ∧ (-1 ≤ (kindT k).2.1 ∧ (kindT k).2.1 ≤ 1) ∧ (-1 ≤ (kindT k).2.2.1 ∧ (kindT k).2.2.1 ≤ 1) ∧ (-1 ≤ (kindT k).2.2.2 ∧ (kindT k).2.2.2 ≤ 1) := by
  unfold kindT
  split <;> decide
theorem mul_bd {a x : Int} {n : Int} (h1 : -1 ≤ a) (h2 : a ≤ 1) (h3 : -n ≤ x) (h4 : x ≤ n) : -n ≤ a * x ∧ a * x ≤ n := by
  rcases (show a = -1 ∨ a = 0 ∨ a = 1 by omega) with rfl | rfl | rfl <;> omega
theorem tk_lin {a b e x y : Int} (ha : -1 ≤ a ∧ a ≤ 1) (hb : -1 ≤ b ∧ b ≤ 1) (he : -100000 ≤ e ∧ e ≤ 100000) (hx : -1000 ≤ x ∧ x ≤ 1000) (hy : -1000 ≤ y ∧ y ≤ 1000) : tkX a b e x y = a * x + b * y + e := by
  have h1 := mul_bd ha.1 ha.2 hx.1 hx.2
  have h2 := mul_bd hb.1 hb.2 hy.1 hy.2
  unfold tkX
  rw [wr_small (n := a * x) (by omega) (by omega), wr_small (n := b * y) (by omega) (by omega), wr_small (n := a * x + b * y) (by omega) (by omega), wr_small (by omega) (by omega)]
theorem keepsK_iff {l : List ByteArray} (hp : Pat l) (k : Nat) {e f : Int} (he : -100000 ≤ e ∧ e ≤ 100000) (hf : -100000 ≤ f ∧ f ≤ 100000) : keepsK l k e f = true ↔ Sym l (kindT k) e f := by
  obtain ⟨s1, s2, s3, s4⟩ := hp.sd
  obtain ⟨k1, k2, k3, k4⟩ := kind_bd k
  unfold keepsK keepsB
  rw [allFrom_iff]
  simp only [allFrom_iff, kpL, decide_eq_true_eq, Nat.zero_add, Nat.zero_le, true_implies]
  constructor
  · intro h x y
    have hS : (0 : Int) < (sd l : Int) := by omega
    have hS0 : ((sd l : Nat) : Int) ≠ 0 := by omega
    have x0 := Int.emod_nonneg x hS0
    have x1 := Int.emod_lt_of_pos x hS
    have y0 := Int.emod_nonneg y hS0
    have y1 := Int.emod_lt_of_pos y hS
    have dw : (wid l : Int) ∣ (sd l : Int) := by exact_mod_cast Nat.dvd_of_mod_eq_zero s1
    have dh : (l.length : Int) ∣ (sd l : Int) := by exact_mod_cast Nat.dvd_of_mod_eq_zero s2
    have hx : (sd l : Int) ∣ x - x % (sd l : Int) := Int.dvd_self_sub_emod
    have hy : (sd l : Int) ∣ y - y % (sd l : Int) := Int.dvd_self_sub_emod
    have := h (y % (sd l : Int)).toNat (by omega) (x % (sd l : Int)).toNat (by omega)
    rw [Int.toNat_of_nonneg x0, Int.toNat_of_nonneg y0, tk_lin k1 k2 he (by omega) (by omega), tk_lin k3 k4 hf (by omega) (by omega)] at this
    rw [colr_dvd (Int.dvd_trans dw hx) (Int.dvd_trans dh hy), this]
    have lin : ∀ a b e : Int, (sd l : Int) ∣ (a * (x % (sd l : Int)) + b * (y % (sd l : Int)) + e) - (a * x + b * y + e) := fun a b e => by
      have e1 : (a * (x % (sd l : Int)) + b * (y % (sd l : Int)) + e) - (a * x + b * y + e) = -(a * (x - x % (sd l : Int)) + b * (y - y % (sd l : Int))) := by grind
      rw [e1]
      exact Int.dvd_neg.2 (Int.dvd_add (Int.dvd_mul_of_dvd_right hx) (Int.dvd_mul_of_dvd_right hy))
    exact colr_dvd (Int.dvd_trans dw (lin _ _ _)) (Int.dvd_trans dh (lin _ _ _))
  · intro h y hy x hx
    rw [tk_lin k1 k2 he (by omega) (by omega), tk_lin k3 k4 hf (by omega) (by omega)]
    exact h x y
/-- A translation that keeps the floor. -/
def Tr (l : List ByteArray) (u v : Int) : Prop := ∀ x y : Int, colr l x y = colr l (x + u) (y + v)
theorem sym_tr {l : List ByteArray} {u v : Int} : Sym l (kindT 0) u v ↔ Tr l u v := by
  unfold Sym Tr
  have e : kindT 0 = (1, 0, 0, 1) := rfl
  rw [e]
  simp only [Int.one_mul, Int.zero_mul, Int.add_zero, Int.zero_add]
theorem Tr.add {l : List ByteArray} {u v u' v' : Int} (h : Tr l u v) (k : Tr l u' v') : Tr l (u + u') (v + v') := fun x y => by
  rw [h x y, k (x + u) (y + v), Int.add_assoc, Int.add_assoc]
theorem Tr.neg {l : List ByteArray} {u v : Int} (h : Tr l u v) : Tr l (-u) (-v) := fun x y => by
  rw [h (x + -u) (y + -v)]
  congr 1 <;> omega
theorem Tr.zero (l : List ByteArray) : Tr l 0 0 := fun x y => by rw [Int.add_zero, Int.add_zero]
theorem Tr.nat {l : List ByteArray} {u v : Int} (h : Tr l u v) : ∀ n : Nat, Tr l (u * n) (v * n)
  | 0 => by simpa using Tr.zero l
  | n + 1 => by
    have := (h.nat n).add h
    rw [show u * ((n + 1 : Nat) : Int) = u * n + u by rw [Int.natCast_add, Int.mul_add]; omega, show v * ((n + 1 : Nat) : Int) = v * n + v by rw [Int.natCast_add, Int.mul_add]; omega]
    exact this
theorem Tr.int {l : List ByteArray} {u v : Int} (h : Tr l u v) (n : Int) : Tr l (u * n) (v * n) := by
  rcases Int.le_total 0 n with hn | hn
  · obtain ⟨k, rfl⟩ := Int.eq_ofNat_of_zero_le hn
    exact h.nat k
  · obtain ⟨k, hk⟩ := Int.eq_ofNat_of_zero_le (show 0 ≤ -n by omega)
    have := (h.nat k).neg
    rw [show u * n = -(u * (k : Int)) by rw [← hk]; grind, show v * n = -(v * (k : Int)) by rw [← hk]; grind]
    exact this
theorem Tr.cast {l : List ByteArray} {u v u' v' : Int} (h : Tr l u v) (h1 : u = u') (h2 : v = v') : Tr l u' v' := by subst h1 h2; exact h
theorem trB_tr {l : List ByteArray} (hp : Pat l) {e f : Nat} (he : e ≤ 1000) (hf : f ≤ 1000) : trB l e f = true ↔ Tr l e f := trB_iff hp ⟨by omega, by omega⟩ ⟨by omega, by omega⟩
theorem tr_A {l : List ByteArray} (hp : Pat l) : Tr l (latA l) (latB l) := by
  obtain ⟨h1, h2, h3, h4, _⟩ := lat_ok hp
  have := hp.w6; have := hp.h6; have := (smH_le hp).2.1
  exact (trB_tr hp (by omega) (by omega)).1 h4
theorem tr_D {l : List ByteArray} (hp : Pat l) : Tr l 0 (smH l) := by
  obtain ⟨h1, h2, h3⟩ := smH_le hp
  have := hp.h6
  exact (trB_tr hp (e := 0) (by omega) (by omega)).1 h3
/-- Is a vector in the lattice? -/
def inLat (l : List ByteArray) (u v : Int) : Prop := (latA l : Int) ∣ u ∧ (smH l : Int) ∣ v - u / (latA l : Int) * latB l
theorem tr_of_lat {l : List ByteArray} (hp : Pat l) {u v : Int} (h : inLat l u v) : Tr l u v := by
  obtain ⟨⟨t, ht⟩, ⟨s, hs⟩⟩ := h
  have a1 := (lat_ok hp).1
  have e : u / (latA l : Int) = t := by rw [ht]; exact Int.mul_ediv_cancel_left t (by omega)
  rw [e] at hs
  exact (((tr_A hp).int t).add ((tr_D hp).int s)).cast (by rw [ht]; omega) (by
    have : (latB l : Int) * t = t * latB l := Int.mul_comm _ _
    omega)
theorem lat_of_tr {l : List ByteArray} (hp : Pat l) {u v : Int} (h : Tr l u v) : inLat l u v := by
  obtain ⟨a1, a2, a3, a4, a5⟩ := lat_ok hp
  obtain ⟨d1, d2, d3⟩ := smH_le hp
  have w6 := hp.w6; have h6 := hp.h6
  have hA : (latA l : Int) ≠ 0 := by omega
  have hD : (smH l : Int) ≠ 0 := by omega
  have r1 := Int.emod_nonneg u hA
  have r2 := Int.emod_lt_of_pos u (show (0 : Int) < latA l by omega)
  have hu := Int.mul_ediv_add_emod u (latA l)
  generalize ht : u / (latA l : Int) = t at hu
  have s1 := Int.emod_nonneg (v - t * latB l) hD
  have s2 := Int.emod_lt_of_pos (v - t * latB l) (show (0 : Int) < smH l by omega)
  have hv := Int.mul_ediv_add_emod (v - t * latB l) (smH l)
  generalize hs : (v - t * latB l) / (smH l : Int) = s at hv
  have key : Tr l (u % latA l) ((v - t * latB l) % smH l) := by
    refine ((h.add ((tr_A hp).int (-t))).add ((tr_D hp).int (-s))).cast ?_ ?_
    · have : (latA l : Int) * -t = -(latA l * t) := by grind
      rw [this, Int.zero_mul]; omega
    · have e1 : (latB l : Int) * -t = -(t * latB l) := by grind
      have e2 : (smH l : Int) * -s = -(smH l * s) := by grind
      rw [e1, e2]; omega
  have kb : trB l ((u % latA l).toNat : Int) (((v - t * latB l) % smH l).toNat : Int) = true := by
    rw [Int.toNat_of_nonneg r1, Int.toNat_of_nonneg s1]
    exact (trB_iff hp ⟨by omega, by omega⟩ ⟨by omega, by omega⟩).2 key
  have z1 : u % (latA l : Int) = 0 := by
    apply Classical.byContradiction
    intro hne
    have := a5 (u % latA l).toNat (by omega) (by omega) ((v - t * latB l) % smH l).toNat (by omega)
    rw [kb] at this
    simp at this
  have z2 : (v - t * latB l) % (smH l : Int) = 0 := by
    apply Classical.byContradiction
    intro hne
    have := fst_min (P := fun h => trB l 0 h) 6 1 ((v - t * latB l) % smH l).toNat (by omega) (by show _ < smH l; omega)
    rw [z1] at kb
    simp only [Int.toNat_zero, Int.natCast_zero] at kb
    rw [kb] at this
    simp at this
  unfold inLat
  rw [ht]
  exact ⟨Int.dvd_of_emod_eq_zero z1, Int.dvd_of_emod_eq_zero z2⟩
/-- The matrix of q after p. -/
def mm (p q : Q4) : Q4 := (q.1 * p.1 + q.2.1 * p.2.2.1, q.1 * p.2.1 + q.2.1 * p.2.2.2, q.2.2.1 * p.1 + q.2.2.2 * p.2.2.1, q.2.2.1 * p.2.1 + q.2.2.2 * p.2.2.2)
theorem Sym.comp {l : List ByteArray} {p q : Q4} {e f e' f' : Int} (h : Sym l p e f) (k : Sym l q e' f') : Sym l (mm p q) (q.1 * e + q.2.1 * f + e') (q.2.2.1 * e + q.2.2.2 * f + f') := fun x y => by
  rw [h x y, k]
  unfold mm
  congr 1 <;> grind
def mulK (i j : Nat) : Nat := ((List.range 8).find? fun k => kindT k == mm (kindT i) (kindT j)).getD 0
theorem mul_tab : ((List.range 8).all fun i => (List.range 8).all fun j => Nat.blt (mulK i j) 8 && kindT (mulK i j) == mm (kindT i) (kindT j)) = true := by decide +kernel
theorem mulK_ok {i j : Nat} (hi : i < 8) (hj : j < 8) : mulK i j < 8 ∧ kindT (mulK i j) = mm (kindT i) (kindT j) := by
  have := List.all_eq_true.1 (List.all_eq_true.1 mul_tab i (List.mem_range.2 hi)) j (List.mem_range.2 hj)
  simp only [Bool.and_eq_true, beq_iff_eq] at this
  exact ⟨by simpa using this.1, this.2⟩
def invK (k : Nat) : Nat := if k = 1 then 3 else if k = 3 then 1 else k
theorem inv_tab : ((List.range 8).all fun i => Nat.blt (invK i) 8 && mm (kindT i) (kindT (invK i)) == (1, 0, 0, 1) && mm (kindT (invK i)) (kindT i) == (1, 0, 0, 1) && mulK i (invK i) == 0) = true := by decide +kernel
theorem invK_ok {i : Nat} (hi : i < 8) : invK i < 8 ∧ mm (kindT i) (kindT (invK i)) = (1, 0, 0, 1) ∧ mm (kindT (invK i)) (kindT i) = (1, 0, 0, 1) ∧ mulK i (invK i) = 0 := by
  have := List.all_eq_true.1 inv_tab i (List.mem_range.2 hi)
  simp only [Bool.and_eq_true, beq_iff_eq] at this
  exact ⟨by simpa using this.1.1.1, this.1.1.2, this.1.2, this.2⟩
/-- Where a cell comes from. -/
theorem inv_pre {k : Nat} (hk : k < 8) (e f x y : Int) : ∃ x' y' : Int, (kindT k).1 * x' + (kindT k).2.1 * y' + e = x ∧ (kindT k).2.2.1 * x' + (kindT k).2.2.2 * y' + f = y := by
  obtain ⟨_, _, h, _⟩ := invK_ok hk
  unfold mm at h
  simp only [Prod.mk.injEq] at h
  obtain ⟨h1, h2, h3, h4⟩ := h
  refine ⟨(kindT (invK k)).1 * (x - e) + (kindT (invK k)).2.1 * (y - f), (kindT (invK k)).2.2.1 * (x - e) + (kindT (invK k)).2.2.2 * (y - f), ?_, ?_⟩ <;> grind
theorem Sym.inv {l : List ByteArray} {k : Nat} (hk : k < 8) {e f : Int} (h : Sym l (kindT k) e f) : Sym l (kindT (invK k)) (-((kindT (invK k)).1 * e + (kindT (invK k)).2.1 * f)) (-((kindT (invK k)).2.2.1 * e + (kindT (invK k)).2.2.2 * f)) := fun x y => by
  obtain ⟨_, h0, _, _⟩ := invK_ok hk
  obtain ⟨x', y', e1, e2⟩ := inv_pre hk e f x y
  unfold mm at h0
  simp only [Prod.mk.injEq] at h0
  obtain ⟨h1, h2, h3, h4⟩ := h0
  have h5 := h x' y'
  rw [e1, e2] at h5
  rw [← h5]
  congr 1
  · subst e1 e2; grind
  · subst e1 e2; grind
theorem Sym.diff {l : List ByteArray} {k : Nat} (hk : k < 8) {e f e' f' : Int} (h : Sym l (kindT k) e f) (h' : Sym l (kindT k) e' f') : Tr l (e' - e) (f' - f) := fun x y => by
  obtain ⟨x', y', e1, e2⟩ := inv_pre hk e f x y
  have h1 := h x' y'
  have h2 := h' x' y'
  rw [e1, e2] at h1
  rw [← h1, h2]
  congr 1 <;> omega
theorem Sym.tr {l : List ByteArray} {q : Q4} {e f u v : Int} (h : Sym l q e f) (t : Tr l u v) : Sym l q (e + u) (f + v) := fun x y => by
  rw [h x y, t]
  congr 1 <;> omega
/-- Whatever is a symmetry is in the class of the one of its kind. -/
theorem ofC_ex {l : List ByteArray} (hp : Pat l) {k : Nat} (hk : k < 8) {e f : Int} (h : Sym l (kindT k) e f) : ∃ e0 f0, ofC l k = some (e0, f0) ∧ e0 < latA l ∧ f0 < smH l ∧ Sym l (kindT k) e0 f0 ∧ inLat l (e - e0) (f - f0) := by
  obtain ⟨a1, a2, a3, a4, a5⟩ := lat_ok hp
  obtain ⟨d1, d2, d3⟩ := smH_le hp
  have w6 := hp.w6; have h6 := hp.h6
  have fin : ∀ e0 f0, ofC l k = some (e0, f0) → e0 < latA l ∧ f0 < smH l ∧ Sym l (kindT k) e0 f0 ∧ inLat l (e - e0) (f - f0) := fun e0 f0 ho => by
    obtain ⟨h1, h2, h3, h4, h5, _⟩ := findR_some ho
    have hs := (keepsK_iff hp k ⟨by omega, by omega⟩ ⟨by omega, by omega⟩).1 h4
    exact ⟨by omega, h3, hs, lat_of_tr hp (hs.diff hk h)⟩
  cases ho : ofC l k with
  | some ef => exact ⟨ef.1, ef.2, rfl, fin _ _ ho⟩
  | none =>
    exfalso
    have hA : (latA l : Int) ≠ 0 := by omega
    have hD : (smH l : Int) ≠ 0 := by omega
    have r1 := Int.emod_nonneg e hA
    have r2 := Int.emod_lt_of_pos e (show (0 : Int) < latA l by omega)
    have hu := Int.mul_ediv_add_emod e (latA l)
    generalize ht : e / (latA l : Int) = t at hu
    have s1 := Int.emod_nonneg (f - t * latB l) hD
    have s2 := Int.emod_lt_of_pos (f - t * latB l) (show (0 : Int) < smH l by omega)
    have hv := Int.mul_ediv_add_emod (f - t * latB l) (smH l)
    generalize hs : (f - t * latB l) / (smH l : Int) = s at hv
    have hsym : Sym l (kindT k) (e % latA l) ((f - t * latB l) % smH l) := by
      have := (h.tr ((tr_A hp).int (-t))).tr ((tr_D hp).int (-s))
      have e1 : e + (latA l : Int) * -t + 0 * -s = e % latA l := by
        have : (latA l : Int) * -t = -(latA l * t) := by grind
        rw [this, Int.zero_mul]; omega
      have e2 : f + (latB l : Int) * -t + (smH l : Int) * -s = (f - t * latB l) % smH l := by
        have q1 : (latB l : Int) * -t = -(t * latB l) := by grind
        have q2 : (smH l : Int) * -s = -(smH l * s) := by grind
        rw [q1, q2]; omega
      rw [e1, e2] at this
      exact this
    have hk1 := (keepsK_iff hp k (e := e % latA l) (f := (f - t * latB l) % smH l) ⟨by omega, by omega⟩ ⟨by omega, by omega⟩).2 hsym
    have := findR_none ho (e % latA l).toNat (by omega) (by omega) ((f - t * latB l) % smH l).toNat (by omega)
    rw [Int.toNat_of_nonneg r1, Int.toNat_of_nonneg s1, hk1] at this
    simp at this
theorem ofC_sym {l : List ByteArray} (hp : Pat l) {k e f : Nat} (h : ofC l k = some (e, f)) : e < latA l ∧ f < smH l ∧ Sym l (kindT k) e f := by
  obtain ⟨a1, a2, a3, a4, a5⟩ := lat_ok hp
  obtain ⟨d1, d2, d3⟩ := smH_le hp
  have w6 := hp.w6; have h6 := hp.h6
  obtain ⟨h1, h2, h3, h4, h5, _⟩ := findR_some h
  exact ⟨by omega, h3, (keepsK_iff hp k ⟨by omega, by omega⟩ ⟨by omega, by omega⟩).1 h4⟩
theorem mem_movL {l : List ByteArray} {x : Mv} : x ∈ movL l ↔ x.1 < 8 ∧ ofC l x.1 = some (x.2.1, x.2.2) := by
  unfold movL movU
  rw [List.mem_filterMap]
  constructor
  · rintro ⟨k, hk, e⟩
    have hk8 := List.mem_range.1 hk
    cases ho : ofC l k with
    | none => rw [ho] at e; simp at e
    | some p =>
      rw [ho] at e
      simp only [Option.map_some, Option.some.injEq] at e
      subst e
      exact ⟨hk8, ho⟩
  · rintro ⟨h1, h2⟩
    exact ⟨x.1, List.mem_range.2 h1, by rw [h2]; rfl⟩
end Go.AM
namespace Go.AM
open Go Go.Proofs
theorem b26e : mbuild E.P 26 [] = some (gridV 0 0 0) := by kernel_rfl
def laV (l : List ByteArray) : Value := if isP l = true then gridV (latA l) (latB l) (smH l) else gridV 0 0 0
theorem t12 (n base : Nat) (hn : 90 ≤ n) {m : M} {v : Value} {l : List ByteArray} (hv : Strs m v l) : rt (n + 1) base 12 [v] m = some (.ret (.tuple #[laV l, vi (smE l)]), m) := by
  suffices h : ∃ m1, r12 (rt n) n m.length v m = some (.ret (.tuple #[laV l, vi (smE l)]), m1) by
    obtain ⟨m1, h⟩ := h
    exact rt_pure (f := 12) (rf := rf12) (by kernel_rfl) (by kernel_rfl) (by kernel_rfl) n base _ m m1 _ h (by unfold laV; split <;> rfl)
  obtain ⟨i, rfl⟩ : ∃ i, n = i + 1 := ⟨n - 1, by omega⟩
  have hz : (m ++ [cellR [(.int .i64 0 : Value), .int .i64 0, .int .i64 0]])[m.length]? = some (cellR [.int .i64 0, .int .i64 0, .int .i64 0]) := by simp
  unfold r12 laV smE
  rw [k1_fun, al26, k2s, t40 i _ (by omega) (hv.app _), kcs, not4, k1s]
  cases hP : isP l with
  | false =>
    rw [Bool.not_false, kbt, b26e, k1s, st26 (Nat.le_refl _) hz rfl, kss, ml26 (List.getElem?_set_self (by simp)), k0s]
    exact ⟨_, rfl⟩
  | true =>
    rw [Bool.not_true, kbf, t41 i _ (by omega) (hv.app _) (isP_iff.1 hP), kcs, st26 (Nat.le_refl _) hz rfl, kss, ml26 (List.getElem?_set_self (by simp)), k0s]
    exact ⟨_, rfl⟩
theorem mf70 (a b c : Int) (s : Value) : mfield E.P 70 (grpV a b c s) 1 = some s := by kernel_rfl
def syL (l : List ByteArray) : List Mv := if isP l = true then movL l else []
theorem t14 (n base : Nat) (hn : 90 ≤ n) {m : M} (hb : base ≤ m.length) {v : Value} {l : List ByteArray} (hv : Strs m v l) : ∃ s m', rt (n + 1) base 14 [v] m = some (.ret (.tuple #[s, vi (smE l)]), m') ∧ Mvs m' s (syL l) ∧ Keeps m.length m m' := by
  rw [rt_imp (f := 14) (rf := rf14) (by kernel_rfl) (by kernel_rfl) (by kernel_rfl) n base]
  show ∃ s m', r14 (rt n) n base v m = _ ∧ _
  obtain ⟨i, rfl⟩ : ∃ i, n = i + 1 := ⟨n - 1, by omega⟩
  unfold r14 syL smE
  rw [k1_fun, t40 i _ (by omega) hv, kcs, not4, k1s]
  cases hP : isP l with
  | false =>
    rw [Bool.not_false, kbt]
    exact ⟨nilS, _, rfl, .inl ⟨rfl, rfl⟩, Keeps.refl _ _⟩
  | true =>
    obtain ⟨s, m', e, h1, h2, h3⟩ := t43 i base (by omega) hb hv (isP_iff.1 hP)
    rw [Bool.not_true, kbf, e, kcs, mf70, k1s]
    exact ⟨s, m', rfl, h1, h2⟩
end Go.AM
namespace Go.AM
open Go Go.Proofs
theorem wr_lin {a b e x y : Int} (ha : -1 ≤ a ∧ a ≤ 1) (hb : -1 ≤ b ∧ b ≤ 1) (he : -100000 ≤ e ∧ e ≤ 100000) (hx : -1000 ≤ x ∧ x ≤ 1000) (hy : -1000 ≤ y ∧ y ≤ 1000) : wr (wr (wr (a * x) + wr (b * y)) + e) = a * x + b * y + e := tk_lin ha hb he hx hy
theorem Sym.conj {l : List ByteArray} {k : Nat} (hk : k < 8) {e f u v : Int} (h : Sym l (kindT k) e f) (t : Tr l u v) : Tr l ((kindT k).1 * u + (kindT k).2.1 * v) ((kindT k).2.2.1 * u + (kindT k).2.2.2 * v) := fun x y => by
  obtain ⟨x', y', e1, e2⟩ := inv_pre hk e f x y
  have h1 := h x' y'
  have h2 := h (x' + u) (y' + v)
  rw [e1, e2] at h1
  rw [← h1, t x' y', h2]
  subst e1 e2
  congr 1 <;> grind
theorem mov_ne {l : List ByteArray} (hp : Pat l) : 0 < (movL l).length := by
  obtain ⟨e0, f0, ho, _⟩ := ofC_ex hp (show 0 < 8 by omega) (sym_tr.2 (Tr.zero l))
  exact List.length_pos_of_mem (mem_movL.2 ⟨by omega, ho⟩ : ((0, e0, f0) : Mv) ∈ movL l)
end Go.AM
namespace Go.AM
open Go Go.Proofs
def symB (l : List ByteArray) (a b c d e f : Int) : Bool := allFrom (fun y => allFrom (kpL l a b c d e f y) (wid l * l.length) 0) (wid l * l.length) 0
theorem symB_iff {l : List ByteArray} (hp : Pat l) (k : Nat) {e f : Int} (he : -100000 ≤ e ∧ e ≤ 100000) (hf : -100000 ≤ f ∧ f ≤ 100000) : symB l (kindT k).1 (kindT k).2.1 (kindT k).2.2.1 (kindT k).2.2.2 e f = true ↔ Sym l (kindT k) e f := by
  have w1 := hp.w1; have w6 := hp.w6; have h1 := hp.h1; have h6 := hp.h6
  have s3 : 1 ≤ wid l * l.length := Nat.mul_le_mul w1 h1
  have s4 : wid l * l.length ≤ 36 := Nat.mul_le_mul w6 h6
  have s1 : wid l ∣ wid l * l.length := Nat.dvd_mul_right _ _
  have s2 : l.length ∣ wid l * l.length := Nat.dvd_mul_left _ _
  obtain ⟨k1, k2, k3, k4⟩ := kind_bd k
  unfold symB
  generalize hS' : wid l * l.length = S at s1 s2 s3 s4
  rw [allFrom_iff]
  simp only [allFrom_iff, kpL, decide_eq_true_eq, Nat.zero_add, Nat.zero_le, true_implies]
  constructor
  · intro h x y
    have hS : (0 : Int) < (S : Int) := by omega
    have hS0 : ((S : Nat) : Int) ≠ 0 := by omega
    have x0 := Int.emod_nonneg x hS0
    have x1 := Int.emod_lt_of_pos x hS
    have y0 := Int.emod_nonneg y hS0
    have y1 := Int.emod_lt_of_pos y hS
    have dw : (wid l : Int) ∣ (S : Int) := by exact_mod_cast s1
    have dh : (l.length : Int) ∣ (S : Int) := by exact_mod_cast s2
    have hx : (S : Int) ∣ x - x % (S : Int) := Int.dvd_self_sub_emod
    have hy : (S : Int) ∣ y - y % (S : Int) := Int.dvd_self_sub_emod
    have := h (y % (S : Int)).toNat (by omega) (x % (S : Int)).toNat (by omega)
    rw [Int.toNat_of_nonneg x0, Int.toNat_of_nonneg y0, tk_lin k1 k2 he (by omega) (by omega), tk_lin k3 k4 hf (by omega) (by omega)] at this
    rw [colr_dvd (Int.dvd_trans dw hx) (Int.dvd_trans dh hy), this]
    have lin : ∀ a b e : Int, (S : Int) ∣ (a * (x % (S : Int)) + b * (y % (S : Int)) + e) - (a * x + b * y + e) := fun a b e => by
      have e1 : (a * (x % (S : Int)) + b * (y % (S : Int)) + e) - (a * x + b * y + e) = -(a * (x - x % (S : Int)) + b * (y - y % (S : Int))) := by grind
      rw [e1]
      exact Int.dvd_neg.2 (Int.dvd_add (Int.dvd_mul_of_dvd_right hx) (Int.dvd_mul_of_dvd_right hy))
    exact colr_dvd (Int.dvd_trans dw (lin _ _ _)) (Int.dvd_trans dh (lin _ _ _))
  · intro h y hy x hx
    rw [tk_lin k1 k2 he (by omega) (by omega), tk_lin k3 k4 hf (by omega) (by omega)]
    exact h x y
end Go.AM
namespace Go.AM
open Go Go.Proofs
theorem sym_uniq {l : List ByteArray} (hp : Pat l) {k : Nat} (hk : k < 8) {e f : Nat} (he : e < latA l) (hf : f < smH l) : symB l (kindT k).1 (kindT k).2.1 (kindT k).2.2.1 (kindT k).2.2.2 e f = decide (ofC l k = some (e, f)) := by
  have w6 := hp.w6; have h6 := hp.h6
  obtain ⟨a1, a2, _⟩ := lat_ok hp
  have d2 := (smH_le hp).2.1
  rw [Bool.eq_iff_iff, symB_iff hp k ⟨by omega, by omega⟩ ⟨by omega, by omega⟩, decide_eq_true_eq]
  constructor
  · intro h
    obtain ⟨e0, f0, ho, h1, h2, h3, ⟨⟨t, ht⟩, i2⟩⟩ := ofC_ex hp hk h
    have t0 : t = 0 := by
      apply Classical.byContradiction
      intro hne
      rcases Int.lt_or_gt_of_ne hne with h | h
      · have : (latA l : Int) * t ≤ latA l * -1 := Int.mul_le_mul_of_nonneg_left (by omega) (by omega)
        omega
      · have : (latA l : Int) * 1 ≤ latA l * t := Int.mul_le_mul_of_nonneg_left (by omega) (by omega)
        omega
    have ee : e = e0 := by rw [t0, Int.mul_zero] at ht; omega
    subst ee
    rw [show ((e : Int) - e) = 0 by omega, Int.zero_ediv, Int.zero_mul, Int.sub_zero] at i2
    obtain ⟨s, hs⟩ := i2
    have s0 : s = 0 := by
      apply Classical.byContradiction
      intro hne
      rcases Int.lt_or_gt_of_ne hne with h | h
      · have : (smH l : Int) * s ≤ smH l * -1 := Int.mul_le_mul_of_nonneg_left (by omega) (by omega)
        omega
      · have : (smH l : Int) * 1 ≤ smH l * s := Int.mul_le_mul_of_nonneg_left (by omega) (by omega)
        omega
    have ff : f = f0 := by rw [s0, Int.mul_zero] at hs; omega
    rw [ho, ff]
  · intro h
    exact (ofC_sym hp h).2.2
end Go.AM
namespace Go.AM
open Go Go.Proofs
abbrev Mz := Nat × Int × Int
def mzC (x : Mz) : List Value := [vi (kindT x.1).1, vi (kindT x.1).2.1, vi (kindT x.1).2.2.1, vi (kindT x.1).2.2.2, vi x.2.1, vi x.2.2]
def mzsV (L : List Mz) : List Value := L.flatMap mzC
/-- Moves with any offsets in memory. -/
def Mzs (m : M) (v : Value) (L : List Mz) : Prop := (L = [] ∧ v = nilS) ∨ ∃ p row, v = sl p L.length ∧ m[p]? = some row ∧ row.cells = mzsV L
theorem Mzs.at {m m' : M} {v : Value} {L : List Mz} (h : Mzs m v L) (hk : ∀ i n0, v = sl i n0 → i < m.length → m'[i]? = m[i]?) : Mzs m' v L := by
  rcases h with h | ⟨p, row, h1, h2, h3⟩
  · exact .inl h
  · exact .inr ⟨p, row, h1, (hk p _ h1 (List.getElem?_eq_some_iff.1 h2).1).trans h2, h3⟩
theorem Mzs.keeps {m m' : M} {v : Value} {L : List Mz} (h : Mzs m v L) (hk : Keeps m.length m m') : Mzs m' v L := h.at fun i _ _ hi => hk.2 i hi
theorem Mzs.app {m : M} {v : Value} {L : List Mz} (h : Mzs m v L) (x : List Row) : Mzs (m ++ x) v L := h.keeps (Keeps.push _ _ (Nat.le_refl _) _)
theorem mzsV_len (L : List Mz) : (mzsV L).length = L.length * 6 := by
  unfold mzsV
  induction L with
  | nil => rfl
  | cons x L ih =>
    rw [List.flatMap_cons, List.length_append, ih, List.length_cons]
    show 6 + L.length * 6 = (L.length + 1) * 6
    omega
theorem mzsV_at : ∀ (L : List Mz) (j : Nat) (hj : j < L.length), ((mzsV L).drop (j * 6)).take 6 = mzC L[j]
  | [], j, h => by simp at h
  | x :: L, 0, _ => by
    show (((mzC x) ++ mzsV L).drop 0).take 6 = mzC x
    rw [List.drop_zero, List.take_append_of_le_length (by show 6 ≤ 6; omega)]
    rfl
  | x :: L, j + 1, h => by
    have e : mzsV (x :: L) = mzC x ++ mzsV L := rfl
    have : (j + 1) * 6 = (mzC x).length + j * 6 := by show (j + 1) * 6 = 6 + j * 6; omega
    rw [e, this, List.drop_append, List.drop_eq_nil_of_le (by omega), List.nil_append, Nat.add_sub_cancel_left]
    exact mzsV_at L j (by simpa using h)
theorem Mzs.len30 {m : M} {v : Value} {L : List Mz} (h : Mzs m v L) (base : Nat) : vcalln E.P base m .len [30] [v] = some (vi L.length, m) := by
  rcases h with ⟨rfl, rfl⟩ | ⟨p, row, rfl, _⟩
  · exact len30n _ _
  · exact AM.len30 _ _ _ _ _
theorem Mzs.get {m : M} {v : Value} {L : List Mz} (h : Mzs m v L) {j : Nat} (hj : j < L.length) (K : Value → Res2) : (k1n (mindexAddr E.P 30 v (vi j)) fun a => k1n (xload E.P m 50 a) K) = K (kV L[j].1 L[j].2.1 L[j].2.2) := by
  rcases h with ⟨rfl, rfl⟩ | ⟨p, row, rfl, hr, hc⟩
  · simp at hj
  · rw [ix30 p _ _ j hj, k1s, ld50 hr (by rw [hc, mzsV_len]; omega), k1s, hc, mzsV_at L j hj]
    rfl
end Go.AM
namespace Go.AM
open Go Go.Proofs
theorem kV_agg (k : Nat) (e f : Int) : (.agg #[vi (kindT k).1, vi (kindT k).2.1, vi (kindT k).2.2.1, vi (kindT k).2.2.2, vi e, vi f] : Value) = kV k e f := rfl
end Go.AM
namespace Go.AM
open Go Go.Proofs
theorem ld37 (m : M) (r off : Nat) : xload E.P m 37 (pt r off) = mcell m r off := by
  have e : xload E.P m 37 (pt r off) = xcell m r off := by kernel_rfl
  rw [e, xcell_eq]
end Go.AM
namespace Go.AM
open Go Go.Proofs
theorem ints_ne {m : M} {p q : Nat} {row : Row} {N : List Nat} {a b : Value} (hq : m[q]? = some (cellR [nilS, nilS, a, b])) (h : m[p]? = some row) (hc : row.cells = intsV N) : p ≠ q := by
  rintro rfl
  rw [hq] at h
  obtain rfl := Option.some.inj h
  cases N with
  | nil => simp [cellR, intsV] at hc
  | cons n N => simp [cellR, intsV, vi] at hc
theorem Ints.set {m : M} {v : Value} {N : List Nat} (h : Ints m v N) {q : Nat} {a b : Value} (hq : m[q]? = some (cellR [nilS, nilS, a, b])) (row : Row) : Ints (m.set q row) v N := by
  rcases h with h | ⟨p, r, h1, h2, h3⟩
  · exact .inl h
  · exact .inr ⟨p, r, h1, by rw [List.getElem?_set_ne (Ne.symm (ints_ne hq h2 h3))]; exact h2, h3⟩
end Go.AM
namespace Go.AM
open Go Go.Proofs
def hX (l : List ByteArray) (x : Int) : Nat := (x % (latA l : Int)).toNat
def hY (l : List ByteArray) (x y : Int) : Nat := ((y - x / (latA l : Int) * latB l) % (smH l : Int)).toNat
structure Per (l : List ByteArray) : Prop where
  a1 : 1 ≤ latA l
  a6 : latA l ≤ 6
  d1 : 1 ≤ smH l
  d6 : smH l ≤ 6
  b6 : latB l < smH l
theorem per {l : List ByteArray} (hp : Pat l) : Per l := by
  have w6 := hp.w6; have h6 := hp.h6
  obtain ⟨a, b, c, _⟩ := lat_ok hp
  obtain ⟨d, e, _⟩ := smH_le hp
  exact ⟨a, by omega, d, by omega, c⟩
theorem hX_lt {l : List ByteArray} (h : Per l) (x : Int) : hX l x < latA l := by
  have := h.a1
  have := Int.emod_lt_of_pos x (show (0 : Int) < latA l by omega)
  have := Int.emod_nonneg x (show (latA l : Int) ≠ 0 by omega)
  unfold hX
  omega
theorem hY_lt {l : List ByteArray} (h : Per l) (x y : Int) : hY l x y < smH l := by
  have := h.d1
  have := Int.emod_lt_of_pos (y - x / (latA l : Int) * latB l) (show (0 : Int) < smH l by omega)
  have := Int.emod_nonneg (y - x / (latA l : Int) * latB l) (show (smH l : Int) ≠ 0 by omega)
  unfold hY
  omega
theorem hX_val {l : List ByteArray} (h : Per l) (x : Int) : (hX l x : Int) = x % (latA l : Int) := by
  have := h.a1
  have := Int.emod_nonneg x (show (latA l : Int) ≠ 0 by omega)
  unfold hX
  omega
theorem hY_val {l : List ByteArray} (h : Per l) (x y : Int) : (hY l x y : Int) = (y - x / (latA l : Int) * latB l) % (smH l : Int) := by
  have := h.d1
  have := Int.emod_nonneg (y - x / (latA l : Int) * latB l) (show (smH l : Int) ≠ 0 by omega)
  unfold hY
  omega
theorem div_bd {l : List ByteArray} (h : Per l) {x : Int} (hx : -1000 ≤ x ∧ x ≤ 1000) : (-1000 ≤ x / (latA l : Int) ∧ x / (latA l : Int) ≤ 1000) ∧ (-6000 ≤ x / (latA l : Int) * latB l ∧ x / (latA l : Int) * latB l ≤ 6000) := by
  have a1 := h.a1; have b6 := h.b6; have d6 := h.d6
  have e := Int.mul_ediv_add_emod x (latA l)
  have r1 := Int.emod_nonneg x (show (latA l : Int) ≠ 0 by omega)
  have r2 := Int.emod_lt_of_pos x (show (0 : Int) < latA l by omega)
  generalize x / (latA l : Int) = t at e ⊢
  have tb : -1000 ≤ t ∧ t ≤ 1000 := by
    constructor
    · apply Classical.byContradiction
      intro hn
      have : (latA l : Int) * t ≤ latA l * -1001 := Int.mul_le_mul_of_nonneg_left (by omega) (by omega)
      omega
    · apply Classical.byContradiction
      intro hn
      have : (latA l : Int) * 1001 ≤ latA l * t := Int.mul_le_mul_of_nonneg_left (by omega) (by omega)
      omega
  refine ⟨tb, ?_⟩
  have hB : (latB l : Int) ≤ 6 := by omega
  have hB0 : (0 : Int) ≤ latB l := by omega
  constructor
  · have := Int.mul_le_mul_of_nonneg_right tb.1 hB0; omega
  · have := Int.mul_le_mul_of_nonneg_right tb.2 hB0; omega
theorem sub_div {l : List ByteArray} (h : Per l) (x : Int) : Int.tdiv (x - x % (latA l : Int)) (latA l : Int) = x / (latA l : Int) := by
  have a1 := h.a1
  have e := Int.mul_ediv_add_emod x (latA l)
  have : x - x % (latA l : Int) = latA l * (x / latA l) := by omega
  rw [this]
  exact Int.mul_tdiv_cancel_left _ (by omega)
theorem home_eq {l : List ByteArray} (h : Per l) {x y : Int} (hx : -1000 ≤ x ∧ x ≤ 1000) (hy : -1000 ≤ y ∧ y ≤ 1000) : homeX (grpL l) x = (hX l x : Int) ∧ homeY (grpL l) x y = (hY l x y : Int) := by
  have a1 := h.a1; have a6 := h.a6
  obtain ⟨t1, t2⟩ := div_bd h hx
  have r1 := Int.emod_nonneg x (show (latA l : Int) ≠ 0 by omega)
  have r2 := Int.emod_lt_of_pos x (show (0 : Int) < latA l by omega)
  have hX0 : homeX (grpL l) x = x % (latA l : Int) := rfl
  refine ⟨by rw [hX0, hX_val h], ?_⟩
  unfold homeY
  rw [hX0, show (grpL l).A = latA l from rfl, show (grpL l).B = latB l from rfl, show (grpL l).D = smH l from rfl, wr_small (n := x - x % (latA l : Int)) (by omega) (by omega), sub_div h, wr_small (n := x / (latA l : Int)) (by omega) (by omega), wr_small (n := x / (latA l : Int) * latB l) (by omega) (by omega), wr_small (by omega) (by omega), hY_val h]
def ixP (l : List ByteArray) (x y : Int) : Nat := hY l x y * latA l + hX l x
def ixR (l : List ByteArray) (x y : Int) : Nat := hX l x * smH l + hY l x y
theorem mul_lt {a b u v : Nat} (hu : u < a) (hv : v < b) : v * a + u < b * a := by
  have : (v + 1) * a ≤ b * a := Nat.mul_le_mul_right a (by omega)
  rw [Nat.add_mul] at this
  omega
theorem mul36 {a b : Nat} (ha : a ≤ 6) (hb : b ≤ 6) : a * b ≤ 36 := Nat.mul_le_mul ha hb
theorem t75 (n base : Nat) (hn : 20 ≤ n) {m : M} {v : Value} {l : List ByteArray} (hg : GrpIn m v (grpL l)) (hp : Pat l) {x y : Int} (hx : -1000 ≤ x ∧ x ≤ 1000) (hy : -1000 ≤ y ∧ y ≤ 1000) : rt (n + 1) base 75 [v, cV x y] m = some (.ret (vi (ixP l x y : Int)), m) := by
  suffices h : ∃ m1, r75 (rt n) n m.length v (cV x y) m = some (.ret (vi (ixP l x y : Int)), m1) by
    obtain ⟨m1, h⟩ := h
    exact rt_pure (f := 75) (rf := rf75) (by kernel_rfl) (by kernel_rfl) (by kernel_rfl) n base _ m m1 _ h rfl
  obtain ⟨i, rfl⟩ : ∃ i, n = i + 1 := ⟨n - 1, by omega⟩
  have hP := per hp
  have a6 := hP.a6; have d6 := hP.d6
  obtain ⟨m1, e1, hat, hg1, hk1, hl1⟩ := grp_box m hg
  obtain ⟨e2, e3⟩ := home_eq hP hx hy
  have hq : (m1 ++ [cellR [vi x, vi y]])[m1.length]? = some (cellR [vi x, vi y]) := by simp
  have hset : (m1 ++ [cellR [vi x, vi y]]).set m1.length (cellR [vi (hX l x : Int), vi (hY l x y : Int)]) = m1 ++ [cellR [vi (hX l x : Int), vi (hY l x y : Int)]] := by simp
  have hat2 : GrpAt (m1 ++ [cellR [vi x, vi y]]) m.length v (grpL l) := hat.keeps fun i hi => List.getElem?_append_left hi
  have hat3 : GrpAt (m1 ++ [cellR [vi (hX l x : Int), vi (hY l x y : Int)]]) m.length v (grpL l) := hat.keeps fun i hi => List.getElem?_append_left hi
  have hq3 : (m1 ++ [cellR [vi (hX l x : Int), vi (hY l x y : Int)]])[m1.length]? = some (cellR [vi (hX l x : Int), vi (hY l x y : Int)]) := by simp
  unfold r75
  rw [k1_fun, fVal_fun, e1, k2s, bxa2, k2s, hat2.ld, k1s, ldb103 hq, k1s, t100 i _ (by omega) (hg1.app _) (grp_ok hp), kcs, e2, e3, st103 (by omega) hq rfl, kss, hset]
  obtain ⟨s, hv3, hs3⟩ := hat3
  refine ⟨m1 ++ [cellR [vi (hX l x : Int), vi (hY l x y : Int)]], ?_⟩
  have b1 := hX_lt hP x
  have b2 := hY_lt hP x y
  have b3 : hY l x y * latA l ≤ 36 := mul36 (by omega) a6
  simp only [ff103_0, ff103_1, ff70_0, ff26_0, k1s, ld3, box_cell hq3 (0 + 0) _ rfl, box_cell hq3 (0 + 1) _ rfl, box_cell hs3 (0 + 0 + 0) _ rfl, mul3, add3]
  rw [show ((hY l x y : Nat) : Int) * (((grpL l).A : Nat) : Int) = ((hY l x y * latA l : Nat) : Int) from (Int.natCast_mul _ _).symm, wr_small (n := ((hY l x y * latA l : Nat) : Int)) (by omega) (by omega), wr_small (by omega) (by omega)]
  unfold ixP
  rw [Int.natCast_add]
abbrev rowI (a : List Int) : Row := rowz 1 true (a.map vi)
/-- All rows but one stay. -/
def Kx (q : Nat) (m m' : M) : Prop := m.length ≤ m'.length ∧ ∀ i, i < m.length → i ≠ q → m'[i]? = m[i]?
theorem Kx.refl (q : Nat) (m : M) : Kx q m m := ⟨Nat.le_refl _, fun _ _ _ => rfl⟩
theorem Kx.trans {q : Nat} {a b c : M} (h : Kx q a b) (k : Kx q b c) : Kx q a c := ⟨Nat.le_trans h.1 k.1, fun i hi hq => (k.2 i (by have := h.1; omega) hq).trans (h.2 i hi hq)⟩
theorem Kx.set (q : Nat) (m : M) (row : Row) : Kx q m (m.set q row) := ⟨by simp, fun i _ hq => List.getElem?_set_ne (fun h => hq h.symm)⟩
theorem wrI {base : Nat} {m : M} {q : Nat} {a : List Int} (hb : base ≤ q) (hq : m[q]? = some (rowI a)) {i : Nat} (hi : i < a.length) (x : Int) : xstore E.P base m 3 (pt q i) (vi x) = some (m.set q (rowI (a.set i x))) := by
  rw [st3, mwrite_one hb hq rfl (by simpa [rowz] using hi) rfl]
  congr 2
  simp [rowz, List.map_set]
theorem ldI {m : M} {q : Nat} {a : List Int} (hq : m[q]? = some (rowI a)) {i : Nat} {x : Int} (hi : a[i]? = some x) : xload E.P m 3 (pt q i) = some (vi x) := by
  rw [ld3]
  unfold mcell
  rw [hq]
  show (a.map vi)[i]? = _
  rw [List.getElem?_map, hi]
  rfl
/-- Where a move takes a cell. -/
def tkC (z : Mv) (x y : Int) : Int × Int := ((kindT z.1).1 * x + (kindT z.1).2.1 * y + z.2.1, (kindT z.1).2.2.1 * x + (kindT z.1).2.2.2 * y + z.2.2)
theorem mv_small {l : List ByteArray} (hp : Pat l) {z : Mv} (hz : z ∈ movL l) : z.1 < 8 ∧ z.2.1 < 6 ∧ z.2.2 < 6 := by
  obtain ⟨h1, h2⟩ := mem_movL.1 hz
  obtain ⟨h3, h4, _⟩ := ofC_sym hp h2
  have := (per hp).a6
  have := (per hp).d6
  exact ⟨h1, by omega, by omega⟩
theorem tk_bd {z : Mv} (h : z.1 < 8 ∧ z.2.1 < 6 ∧ z.2.2 < 6) {x y : Int} (hx : -100 ≤ x ∧ x ≤ 100) (hy : -100 ≤ y ∧ y ≤ 100) : (-1000 ≤ (tkC z x y).1 ∧ (tkC z x y).1 ≤ 1000) ∧ (-1000 ≤ (tkC z x y).2 ∧ (tkC z x y).2 ≤ 1000) := by
  obtain ⟨a1, a2, a3, a4⟩ := kind_bd z.1
  have b1 := mul_bd a1.1 a1.2 hx.1 hx.2
  have b2 := mul_bd a2.1 a2.2 hy.1 hy.2
  have b3 := mul_bd a3.1 a3.2 hx.1 hx.2
  have b4 := mul_bd a4.1 a4.2 hy.1 hy.2
  obtain ⟨_, h2, h3⟩ := h
  unfold tkC
  simp only
  omega
end Go.AM
namespace Go.AM
open Go Go.Proofs
theorem mk37 (m : M) (n : Nat) (h : n ≤ 100) : xmakeSlice E.P m 37 (vi n) (vi n) = some (sl m.length n, m ++ [rowz 1 true (repCells [.int .i64 0] n)]) := by
  have e : xmakeSlice E.P m 37 (vi n) (vi n) = if ((n : Int) < 0 ∨ (n : Int) < n ∨ (n : Int) > 2 ^ 40 ∨ 8 > 2 ^ 7) then none else
    xlen m fun k => fNat n fun l => fNat n fun c => fList (repCells [.int .i64 0] c) fun cs => xpush m (rowz 1 true cs) fun m' => some (.slice (some ⟨k, 0, none⟩) l c, m') := by kernel_rfl
  rw [e, if_neg (by omega), xlen_eq, fNat_eq, fNat_eq, fNat_eq, fList_eq, xpush_eq, fList_eq]
theorem rep_vi (n : Nat) : repCells [vi 0] n = (List.replicate n (0 : Int)).map vi := by
  induction n with
  | zero => rfl
  | succ n ih =>
    show [vi 0] ++ repCells [vi 0] n = _
    rw [ih]
    rfl
theorem t51 (n base : Nat) {m : M} {s : Value} {l : List ByteArray} (hp : Pat l) : rt (n + 1) base 51 [grpV (latA l) (latB l) (smH l) s] m = some (.ret (vi ((smH l * latA l : Nat) : Int)), m) := by
  have hP := per hp
  have b := mul36 hP.d6 hP.a6
  have q : (m ++ [cellR [vi (latA l), vi (latB l), vi (smH l), s]])[m.length]? = some (cellR [vi (latA l), vi (latB l), vi (smH l), s]) := by simp
  refine rt_pure (f := 51) (rf := rf51) (by kernel_rfl) (by kernel_rfl) (by kernel_rfl) n base _ m (m ++ [cellR [vi (latA l), vi (latB l), vi (smH l), s]]) _ ?_ rfl
  show r51 (rt n) n m.length (grpV (latA l) (latB l) (smH l) s) m = _
  unfold r51
  rw [k1_fun, fVal_fun, bxa4, k2s]
  simp only [ff70_0, ff26_0, ff26_2, k1s, ld3, box_cell q (0 + 0 + 0) _ rfl, box_cell q (0 + 0 + 2) _ rfl, mul3]
  rw [← Int.natCast_mul, Nat.mul_comm (latA l), wr_small (by omega) (by omega)]
def Ky (q r : Nat) (m m' : M) : Prop := m.length ≤ m'.length ∧ ∀ i, i < m.length → i ≠ q → i ≠ r → m'[i]? = m[i]?
theorem Ky.refl (q r : Nat) (m : M) : Ky q r m m := ⟨Nat.le_refl _, fun _ _ _ _ => rfl⟩
theorem Ky.trans {q r : Nat} {a b c : M} (h : Ky q r a b) (k : Ky q r b c) : Ky q r a c := ⟨Nat.le_trans h.1 k.1, fun i hi hq hr => (k.2 i (by have := h.1; omega) hq hr).trans (h.2 i hi hq hr)⟩
theorem b103v (x y : Int) : mbuild E.P 103 [(0, vi x), (1, vi y)] = some (cV x y) := b103 x y
end Go.AM
namespace Go.AM
open Go Go.Proofs
/-- Whole numbers in memory, of any sign. -/
def IntsZ (m : M) (v : Value) (N : List Int) : Prop := (N = [] ∧ v = nilS) ∨ ∃ p row, v = sl p N.length ∧ m[p]? = some row ∧ row.cells = N.map vi
theorem IntsZ.at {m m' : M} {v : Value} {N : List Int} (h : IntsZ m v N) (hk : ∀ i n0, v = sl i n0 → i < m.length → m'[i]? = m[i]?) : IntsZ m' v N := by
  rcases h with h | ⟨p, row, h1, h2, h3⟩
  · exact .inl h
  · exact .inr ⟨p, row, h1, (hk p _ h1 (List.getElem?_eq_some_iff.1 h2).1).trans h2, h3⟩
theorem IntsZ.keeps {m m' : M} {v : Value} {N : List Int} (h : IntsZ m v N) (hk : Keeps m.length m m') : IntsZ m' v N := h.at fun i _ _ hi => hk.2 i hi
theorem IntsZ.len37 {m : M} {v : Value} {N : List Int} (h : IntsZ m v N) (base : Nat) : vcalln E.P base m .len [37] [v] = some (vi (N.length : Int), m) := by
  rcases h with ⟨rfl, rfl⟩ | ⟨p, row, rfl, _⟩
  · exact len37n _ _
  · exact AM.len37 _ _ _ _ _
theorem IntsZ.get {m : M} {v : Value} {N : List Int} (h : IntsZ m v N) {j : Nat} (hj : j < N.length) (K : Value → Res2) : (k1n (mindexAddr E.P 37 v (vi (j : Int))) fun a => k1n (xload E.P m 3 a) K) = K (vi N[j]) := by
  rcases h with ⟨rfl, rfl⟩ | ⟨p, row, rfl, hr, hc⟩
  · simp at hj
  · have c : mcell m p j = some (vi N[j]) := by
      unfold mcell
      rw [hr]
      show row.cells[j]? = _
      rw [hc, List.getElem?_map, List.getElem?_eq_getElem hj]
      rfl
    rw [ix37 p _ _ j hj, k1s, ld3, c, k1s]
/-- Rows of numbers in memory. -/
def Rws (m : M) (v : Value) (R : List (List Int)) : Prop := (R = [] ∧ v = nilS) ∨ ∃ p row, v = sl p R.length ∧ m[p]? = some row ∧ row.cells.length = R.length ∧ ∀ (k : Nat) (hk : k < R.length), ∃ u, row.cells[k]? = some u ∧ IntsZ m u R[k]
theorem Rws.keeps {m m' : M} {v : Value} {R : List (List Int)} (h : Rws m v R) (hk : Keeps m.length m m') : Rws m' v R := by
  rcases h with h | ⟨p, row, h1, h2, h3, h4⟩
  · exact .inl h
  · refine .inr ⟨p, row, h1, (hk.2 p (List.getElem?_eq_some_iff.1 h2).1).trans h2, h3, fun k hk' => ?_⟩
    obtain ⟨u, a, b⟩ := h4 k hk'
    exact ⟨u, a, b.keeps hk⟩
theorem Rws.get {m : M} {v : Value} {R : List (List Int)} (h : Rws m v R) {j : Nat} (hj : j < R.length) : ∃ u, IntsZ m u R[j] ∧ ∀ K : Value → Res2, (k1n (mindexAddr E.P 43 v (vi (j : Int))) fun a => k1n (xload E.P m 37 a) K) = K u := by
  rcases h with ⟨rfl, rfl⟩ | ⟨p, row, rfl, hr, hl, hc⟩
  · simp at hj
  · obtain ⟨u, h1, h2⟩ := hc j hj
    have c : mcell m p j = some u := by
      unfold mcell
      rw [hr]
      exact h1
    exact ⟨u, h2, fun K => by rw [ix43 p _ _ j hj, k1s, ld37, c, k1s]⟩
theorem sl_inj {p q n k : Nat} (h : sl p n = sl q k) : p = q ∧ n = k := by
  injection h with h1 h2
  simp at h1
  exact ⟨h1, h2⟩
end Go.AM
namespace Go.AM
open Go Go.Proofs
/-- Whole numbers in a row of their own, from a place on. -/
def IntsF (b : Nat) (m : M) (v : Value) (N : List Nat) : Prop := (N = [] ∧ v = nilS) ∨ ∃ p, b ≤ p ∧ v = sl p N.length ∧ m[p]? = some (rowz 1 true (intsV N))
theorem IntsF.at {b b' : Nat} {m m' : M} {v : Value} {N : List Nat} (h : IntsF b m v N) (hb : b' ≤ b) (hk : ∀ i n0, v = sl i n0 → i < m.length → m'[i]? = m[i]?) : IntsF b' m' v N := by
  rcases h with h | ⟨p, h1, h2, h3⟩
  · exact .inl h
  · exact .inr ⟨p, by omega, h2, (hk p _ h2 (List.getElem?_eq_some_iff.1 h3).1).trans h3⟩
theorem IntsF.keeps {b : Nat} {m m' : M} {v : Value} {N : List Nat} (h : IntsF b m v N) (hk : Keeps m.length m m') : IntsF b m' v N := h.at (Nat.le_refl _) fun i _ _ hi => hk.2 i hi
end Go.AM
namespace Go.AM
open Go Go.Proofs
theorem ix106 (p l c j : Nat) (h : j < l) : mindexAddr E.P 106 (.slice (some ⟨p, 0, none⟩) l c) (vi j) = some (pt p j) := by
  have e : mindexAddr E.P 106 (.slice (some ⟨p, 0, none⟩) l c) (vi j) = if 0 ≤ (j : Int) ∧ (j : Int) < l then some (.pointer (some ⟨p, 0 + ((j : Int)).toNat * 1, none⟩)) else none := by kernel_rfl
  rw [e, if_pos (by omega)]
  simp
theorem len106 (base : Nat) (m : M) (o l c : Nat) : vcalln E.P base m .len [106] [.slice (some ⟨o, 0, none⟩) l c] = some (vi l, m) := by kernel_rfl
theorem mk106 (m : M) (n : Nat) (h : n ≤ 100) : xmakeSlice E.P m 106 (vi n) (vi n) = some (sl m.length n, m ++ [rowz 1 true (repCells [.bool false] n)]) := by
  have e : xmakeSlice E.P m 106 (vi n) (vi n) = if ((n : Int) < 0 ∨ (n : Int) < n ∨ (n : Int) > 2 ^ 40 ∨ 1 > 2 ^ 7) then none else
    xlen m fun k => fNat n fun l => fNat n fun c => fList (repCells [.bool false] c) fun cs => xpush m (rowz 1 true cs) fun m' => some (.slice (some ⟨k, 0, none⟩) l c, m') := by kernel_rfl
  rw [e, if_neg (by omega), xlen_eq, fNat_eq, fNat_eq, fNat_eq, fList_eq, xpush_eq, fList_eq]
abbrev rowB (S : List Bool) : Row := rowz 1 true (S.map Value.bool)
theorem rep_b (n : Nat) : repCells [(.bool false : Value)] n = (List.replicate n false).map Value.bool := by
  induction n with
  | zero => rfl
  | succ n ih =>
    show [Value.bool false] ++ repCells [.bool false] n = _
    rw [ih]
    rfl
def walkL (f : Nat → Nat) : Nat → List Bool → Nat → List Bool
  | 0, S, _ => S
  | k + 1, S, i => if S.getD i true = true then S else walkL f k (S.set i true) (f i)
def scanS (f : Nat → Nat) (N : Nat) : Nat → List Bool × Nat
  | 0 => (List.replicate N false, 0)
  | j + 1 => if (scanS f N j).1.getD j true = true then scanS f N j else (walkL f (N + 1) (scanS f N j).1 j, (scanS f N j).2 + 1)
def cntF : List Bool → Nat
  | [] => 0
  | b :: S => (if b = true then 0 else 1) + cntF S
theorem cntF_le : ∀ S : List Bool, cntF S ≤ S.length
  | [] => Nat.le_refl _
  | b :: S => by
    have := cntF_le S
    unfold cntF
    rw [List.length_cons]
    split <;> omega
theorem cntF_set : ∀ (S : List Bool) (i : Nat), S.getD i true = false → cntF (S.set i true) + 1 = cntF S
  | [], i, h => by simp at h
  | b :: S, 0, h => by
    have : b = false := by simpa using h
    subst this
    show (0 + cntF S) + 1 = 1 + cntF S
    omega
  | b :: S, i + 1, h => by
    have := cntF_set S i (by simpa using h)
    show ((if b = true then 0 else 1) + cntF (S.set i true)) + 1 = (if b = true then 0 else 1) + cntF S
    omega
theorem walkL_len (f : Nat → Nat) : ∀ (k : Nat) (S : List Bool) (i : Nat), (walkL f k S i).length = S.length
  | 0, S, i => rfl
  | k + 1, S, i => by
    unfold walkL
    split
    · rfl
    · rw [walkL_len f k, List.length_set]
theorem scanS_len (f : Nat → Nat) (N : Nat) : ∀ j : Nat, (scanS f N j).1.length = N
  | 0 => by simp [scanS]
  | j + 1 => by
    unfold scanS
    split
    · exact scanS_len f N j
    · rw [walkL_len]; exact scanS_len f N j
theorem scanS_le (f : Nat → Nat) (N : Nat) : ∀ j : Nat, (scanS f N j).2 ≤ j
  | 0 => Nat.le_refl _
  | j + 1 => by
    have := scanS_le f N j
    unfold scanS
    split
    · omega
    · show (scanS f N j).2 + 1 ≤ j + 1
      omega
/-- Where a move takes a cell of the period, given by its index. -/
def sgP (l : List ByteArray) (z : Mv) (i : Nat) : Nat := ixP l (tkC z (i % latA l : Nat) (i / latA l : Nat)).1 (tkC z (i % latA l : Nat) (i / latA l : Nat)).2
def sgR (l : List ByteArray) (z : Mv) (i : Nat) : Nat := ixR l (tkC z (i / smH l : Nat) (i % smH l : Nat)).1 (tkC z (i / smH l : Nat) (i % smH l : Nat)).2
theorem sgP_lt {l : List ByteArray} (h : Per l) (z : Mv) (i : Nat) : sgP l z i < smH l * latA l := mul_lt (hX_lt h _) (hY_lt h _ _)
theorem sgR_lt {l : List ByteArray} (h : Per l) (z : Mv) (i : Nat) : sgR l z i < latA l * smH l := mul_lt (hY_lt h _ _) (hX_lt h _)
theorem ldB {m : M} {q : Nat} {S : List Bool} (hq : m[q]? = some (rowB S)) {i : Nat} (hi : i < S.length) : xload E.P m 4 (pt q i) = some (.bool (S.getD i true)) := by
  rw [ld4]
  unfold mcell
  rw [hq]
  show (S.map Value.bool)[i]? = _
  rw [List.getElem?_map, List.getElem?_eq_getElem hi]
  simp [hi]
theorem wrB {base : Nat} {m : M} {q : Nat} {S : List Bool} (hb : base ≤ q) (hq : m[q]? = some (rowB S)) {i : Nat} (hi : i < S.length) (b : Bool) : xstore E.P base m 4 (pt q i) (.bool b) = some (m.set q (rowB (S.set i b))) := by
  rw [st4, mwrite_one hb hq rfl (by simpa [rowz] using hi) rfl]
  congr 2
  simp [rowz, List.map_set]
theorem quo_nat {a b : Nat} (ha : a ≤ 1000) (hb : 0 < b) : mbin E .quo 3 (vi (a : Int)) (vi (b : Int)) = some (vi ((a / b : Nat) : Int)) := by
  have : a / b ≤ a := Nat.div_le_self a b
  rw [quo3 _ _ (by omega), ← Int.ofNat_tdiv]
  generalize a / b = c at this ⊢
  rw [wr_small (by omega) (by omega)]
theorem rem_nat {a b : Nat} (hb : 0 < b) : mbin E .rem 3 (vi (a : Int)) (vi (b : Int)) = some (vi ((a % b : Nat) : Int)) := by
  rw [rem3 _ _ (by omega), ← Int.ofNat_tmod]
theorem t80 (n base : Nat) {m : M} {s : Value} {l : List ByteArray} (hp : Pat l) {i : Nat} (hi : i ≤ 1000) : rt (n + 1) base 80 [grpV (latA l) (latB l) (smH l) s, vi (i : Int)] m = some (.ret (cV ((i % latA l : Nat) : Int) ((i / latA l : Nat) : Int)), m) := by
  suffices h : ∃ m1, r80 (rt n) n m.length (grpV (latA l) (latB l) (smH l) s) (vi (i : Int)) m = some (.ret (cV ((i % latA l : Nat) : Int) ((i / latA l : Nat) : Int)), m1) by
    obtain ⟨m1, h⟩ := h
    exact rt_pure (f := 80) (rf := rf80) (by kernel_rfl) (by kernel_rfl) (by kernel_rfl) n base _ m m1 _ h rfl
  have hP := per hp
  have a1 := hP.a1
  have q : ((m ++ [cellR [vi (latA l), vi (latB l), vi (smH l), s]]) ++ [cellR [(.int .i64 0 : Value), .int .i64 0]])[m.length]? = some (cellR [vi (latA l), vi (latB l), vi (smH l), s]) := by simp
  have hl1 : (m ++ [cellR [vi (latA l), vi (latB l), vi (smH l), s]]).length = m.length + 1 := by simp
  have q2 : ((m ++ [cellR [vi (latA l), vi (latB l), vi (smH l), s]]) ++ [cellR [(.int .i64 0 : Value), .int .i64 0]])[m.length + 1]? = some (cellR [.int .i64 0, .int .i64 0]) := by simp
  unfold r80
  rw [k1_fun, fVal_fun, bxa4, k2s, al103, k2s, hl1]
  simp only [ff70_0, ff26_0, k1s, ld3, box_cell q (0 + 0 + 0) _ rfl]
  rw [rem_nat (by omega), k1s, quo_nat hi (by omega), k1s, b103v, k1s, st103 (by omega) q2 rfl, kss, ml103 (List.getElem?_set_self (List.getElem?_eq_some_iff.1 q2).1), k0s]
  exact ⟨_, rfl⟩
theorem tkC_bd {z : Mv} (h : z.1 < 8 ∧ z.2.1 < 6 ∧ z.2.2 < 6) {x y : Nat} (hx : x ≤ 100) (hy : y ≤ 100) : (-1000 ≤ (tkC z x y).1 ∧ (tkC z x y).1 ≤ 1000) ∧ (-1000 ≤ (tkC z x y).2 ∧ (tkC z x y).2 ≤ 1000) := tk_bd h ⟨by omega, by omega⟩ ⟨by omega, by omega⟩
theorem tkC_wr {z : Mv} (h : z.1 < 8 ∧ z.2.1 < 6 ∧ z.2.2 < 6) {x y : Nat} (hx : x ≤ 100) (hy : y ≤ 100) : wr (wr (wr ((kindT z.1).1 * (x : Int)) + wr ((kindT z.1).2.1 * (y : Int))) + (z.2.1 : Int)) = (tkC z x y).1 ∧ wr (wr (wr ((kindT z.1).2.2.1 * (x : Int)) + wr ((kindT z.1).2.2.2 * (y : Int))) + (z.2.2 : Int)) = (tkC z x y).2 := by
  obtain ⟨a1, a2, a3, a4⟩ := kind_bd z.1
  exact ⟨wr_lin a1 a2 ⟨by omega, by omega⟩ ⟨by omega, by omega⟩ ⟨by omega, by omega⟩, wr_lin a3 a4 ⟨by omega, by omega⟩ ⟨by omega, by omega⟩ ⟨by omega, by omega⟩⟩
theorem r53_L2_s (call : CallF) (fuel base : Nat) (kx2 : Value → Value → Value → Value → Value → Value → M → Res2) (n : Nat) (x2 x3 x5 x6 x8 x13 x14 : Value) (m : M) : r53_L2 call fuel base kx2 (n + 1) x2 x3 x5 x6 x8 x13 x14 m =
    (k1n (mindexAddr E.P 106 x5 x8) fun v26_12 => (k1n (xload E.P m 4 v26_12) fun v27_13 => (k1n (mun .not v27_13) fun v28_14 => (kb v28_14 (k1n (mindexAddr E.P 106 x5 x8) fun v38_15 => (ks (xstore E.P base m 4 v38_15 (.bool true)) fun m => (k1n (xload E.P m 70 x2) fun v29_16 => (k1n (xload E.P m 50 x3) fun v30_17 => (k1n (xload E.P m 70 x2) fun v31_18 => (kc (kB m (call m.length 80 [v31_18, x8] m)) (fun v33_19 m => (kc (kB m (call m.length 79 [v30_17, v33_19] m)) (fun v34_20 m => (kc (kB m (call m.length 75 [v29_16, v34_20] m)) (fun v35_21 m => (r53_L2 call fuel base kx2 n x2 x3 x5 x6 v35_21 x13 x14 m)) (fun _ _ => none))) (fun _ _ => none))) (fun _ _ => none))))))) (kx2 x2 x3 x5 x6 x13 x14 m))))) := by
  unfold r53_L2
  rw [k1_fun]
theorem r53_L0_s (call : CallF) (fuel base : Nat) (kx0 : Value → M → Res2) (n : Nat) (x2 x3 x5 x6 x13 x14 : Value) (m : M) : r53_L0 call fuel base kx0 (n + 1) x2 x3 x5 x6 x13 x14 m =
    (k1n (mbin E .lss 3 x14 x13) fun v15_7 => (kb v15_7 (k1n (mindexAddr E.P 106 x5 x14) fun v19_8 => (k1n (xload E.P m 4 v19_8) fun v20_9 => (kb v20_9 (k1n (mbin E .add 3 x14 (.int .i64 1)) fun v39_10 => (r53_L0 call fuel base kx0 n x2 x3 x5 x6 x13 v39_10 m)) (k1n (mbin E .add 3 x6 (.int .i64 1)) fun v22_11 => (r53_L2 call fuel base (fun y2_22 y3_23 y5_24 y6_25 y13_26 y14_27 m => (k1n (mbin E .add 3 y14_27 (.int .i64 1)) fun v39_28 => (r53_L0 call fuel base kx0 n y2_22 y3_23 y5_24 y6_25 y13_26 v39_28 m))) fuel x2 x3 x5 v22_11 x14 x13 x14 m))))) (kx0 x6 m))) := by
  unfold r53_L0
  rw [k1_fun]
theorem loop53w (N0 : Nat) (hN0 : 40 ≤ N0) (base : Nat) (kx : Value → Value → Value → Value → Value → Value → M → Res2) {ms : M} {s x6 x13 x14 : Value} {l : List ByteArray} {b b1 q : Nat} {z : Mv} (hp : Pat l) (hz : z.1 < 8 ∧ z.2.1 < 6 ∧ z.2.2 < 6) (h4 : ms[b]? = some (cellR [vi (latA l), vi (latB l), vi (smH l), s])) (hs : Mvs ms s (movL l)) (hsl : isSl s) (hsq : ∀ i n0, s = sl i n0 → i ≠ q) (h1 : ms[b1]? = some (kR z.1 z.2.1 z.2.2)) (hbq : b ≠ q) (hb1q : b1 ≠ q) (hb : base ≤ q) (hq : q < ms.length) :
    ∀ (k n i : Nat) (S : List Bool), S.length = smH l * latA l → cntF S ≤ k → k < n → i < smH l * latA l →
      r53_L2 (rt N0) N0 base kx n (pt b 0) (pt b1 0) (sl q (smH l * latA l)) x6 (vi (i : Int)) x13 x14 (ms.set q (rowB S)) = kx (pt b 0) (pt b1 0) (sl q (smH l * latA l)) x6 x13 x14 (ms.set q (rowB (walkL (sgP l z) (k + 1) S i)))
  | k, 0, i, S, hS, hc, hn, hi => by omega
  | k, n + 1, i, S, hS, hc, hn, hi => by
    obtain ⟨N1, rfl⟩ : ∃ N1, N0 = N1 + 1 := ⟨N0 - 1, by omega⟩
    have hP := per hp
    have hNN := mul36 hP.d6 hP.a6
    have gq : ∀ S : List Bool, (ms.set q (rowB S))[q]? = some (rowB S) := fun S => List.getElem?_set_self hq
    rw [r53_L2_s, ix106 q _ _ _ hi, k1s, ldB (gq S) (by omega), k1s, not4, k1s]
    unfold walkL
    cases hb' : S.getD i true with
    | true =>
      rw [Bool.not_true, kbf, if_pos rfl]
    | false =>
      have hcs := cntF_set S i hb'
      obtain ⟨k', rfl⟩ : ∃ k', k = k' + 1 := ⟨k - 1, by omega⟩
      have g4 : ∀ S : List Bool, GrpAt (ms.set q (rowB S)) b (grpV (latA l) (latB l) (smH l) s) (grpL l) := fun S => ⟨s, rfl, by rw [List.getElem?_set_ne (Ne.symm hbq)]; exact h4⟩
      have g1 : ∀ S : List Bool, (ms.set q (rowB S))[b1]? = some (cellR [vi (kindT z.1).1, vi (kindT z.1).2.1, vi (kindT z.1).2.2.1, vi (kindT z.1).2.2.2, vi z.2.1, vi z.2.2]) := fun S => by rw [List.getElem?_set_ne (Ne.symm hb1q)]; exact h1
      have gi : ∀ S : List Bool, GrpIn (ms.set q (rowB S)) (grpV (latA l) (latB l) (smH l) s) (grpL l) := fun S => ⟨s, rfl, hs.at fun i n0 e _ => List.getElem?_set_ne (Ne.symm (hsq i n0 e)), hsl⟩
      have e1 : i % latA l ≤ 100 := by have := Nat.mod_le i (latA l); omega
      have e2 : i / latA l ≤ 100 := by have := Nat.div_le_self i (latA l); omega
      obtain ⟨w1, w2⟩ := tkC_wr hz e1 e2
      obtain ⟨c1, c2⟩ := tkC_bd hz e1 e2
      rw [Bool.not_false, kbt, k1s, wrB hb (gq S) (by omega) true, kss, List.set_set, (g4 _).ld, k1s, ldb50 (g1 _), k1s, k1s, t80 N1 _ hp (by omega), kB_same, kcs, t79, kB_same, kcs, w1, w2, t75 N1 _ (by omega) (gi _) hp c1 c2, kB_same, kcs, if_neg (by simp)]
      exact loop53w (N1 + 1) hN0 base kx hp hz h4 hs hsl hsq h1 hbq hb1q hb hq k' n (sgP l z i) (S.set i true) (by simpa using hS) (by omega) (by omega) (sgP_lt hP z i)
theorem loop53 (N0 : Nat) (hN0 : 60 ≤ N0) (base : Nat) (kx : Value → M → Res2) {ms : M} {s : Value} {l : List ByteArray} {b b1 q : Nat} {z : Mv} (hp : Pat l) (hz : z.1 < 8 ∧ z.2.1 < 6 ∧ z.2.2 < 6) (h4 : ms[b]? = some (cellR [vi (latA l), vi (latB l), vi (smH l), s])) (hs : Mvs ms s (movL l)) (hsl : isSl s) (hsq : ∀ i n0, s = sl i n0 → i ≠ q) (h1 : ms[b1]? = some (kR z.1 z.2.1 z.2.2)) (hbq : b ≠ q) (hb1q : b1 ≠ q) (hb : base ≤ q) (hq : q < ms.length) :
    ∀ (i n j : Nat), i < n → j + i = smH l * latA l → r53_L0 (rt N0) N0 base kx n (pt b 0) (pt b1 0) (sl q (smH l * latA l)) (vi ((scanS (sgP l z) (smH l * latA l) j).2 : Int)) (vi ((smH l * latA l : Nat) : Int)) (vi (j : Int)) (ms.set q (rowB (scanS (sgP l z) (smH l * latA l) j).1)) = kx (vi ((scanS (sgP l z) (smH l * latA l) (smH l * latA l)).2 : Int)) (ms.set q (rowB (scanS (sgP l z) (smH l * latA l) (smH l * latA l)).1))
  | _, 0, j, hi, hj => by omega
  | 0, n + 1, j, hi, hj => by
    have : j = smH l * latA l := by omega
    rw [r53_L0_s, lss_nat, k1s, decide_eq_false (by omega), kbf, this]
  | i + 1, n + 1, j, hi, hj => by
    have hP := per hp
    have hNN := mul36 hP.d6 hP.a6
    have hlen := scanS_len (sgP l z) (smH l * latA l) j
    have hle := scanS_le (sgP l z) (smH l * latA l) j
    have gq : ∀ S : List Bool, (ms.set q (rowB S))[q]? = some (rowB S) := fun S => List.getElem?_set_self hq
    have ih := loop53 N0 hN0 base kx hp hz h4 hs hsl hsq h1 hbq hb1q hb hq i n (j + 1) (by omega) (by omega)
    rw [r53_L0_s, lss_nat, k1s, decide_eq_true (by omega), kbt, ix106 q _ _ j (by omega), k1s, ldB (gq _) (by omega), k1s]
    cases hb' : (scanS (sgP l z) (smH l * latA l) j).1.getD j true with
    | true =>
      have e : scanS (sgP l z) (smH l * latA l) (j + 1) = scanS (sgP l z) (smH l * latA l) j := by rw [scanS, if_pos hb']
      rw [e] at ih
      rw [kbt, add1 j (by omega), k1s]
      exact ih
    | false =>
      have e : scanS (sgP l z) (smH l * latA l) (j + 1) = (walkL (sgP l z) (smH l * latA l + 1) (scanS (sgP l z) (smH l * latA l) j).1 j, (scanS (sgP l z) (smH l * latA l) j).2 + 1) := by rw [scanS, if_neg (by rw [hb']; simp)]
      rw [e] at ih
      have hcF := cntF_le (scanS (sgP l z) (smH l * latA l) j).1
      rw [kbf, add1 _ (by omega), k1s, loop53w N0 (by omega) base _ hp hz h4 hs hsl hsq h1 hbq hb1q hb hq (smH l * latA l) N0 j _ hlen (by omega) (by omega) (by omega), add1 j (by omega), k1s]
      exact ih
def cycP (l : List ByteArray) (z : Mv) : Nat := (scanS (sgP l z) (smH l * latA l) (smH l * latA l)).2
def cycR (l : List ByteArray) (z : Mv) : Nat := (scanS (sgR l z) (latA l * smH l) (latA l * smH l)).2
theorem t53 (n base : Nat) (hn : 70 ≤ n) {m : M} {s : Value} {l : List ByteArray} {z : Mv} (hp : Pat l) (hz : z.1 < 8 ∧ z.2.1 < 6 ∧ z.2.2 < 6) (hs : Mvs m s (movL l)) (hsl : isSl s) : rt (n + 1) base 53 [grpV (latA l) (latB l) (smH l) s, kV z.1 z.2.1 z.2.2] m = some (.ret (vi (cycP l z : Int)), m) := by
  suffices h : ∃ m1, r53 (rt n) n m.length (grpV (latA l) (latB l) (smH l) s) (kV z.1 z.2.1 z.2.2) m = some (.ret (vi (cycP l z : Int)), m1) by
    obtain ⟨m1, h⟩ := h
    exact rt_pure (f := 53) (rf := rf53) (by kernel_rfl) (by kernel_rfl) (by kernel_rfl) n base _ m m1 _ h rfl
  obtain ⟨i, rfl⟩ : ∃ i, n = i + 1 := ⟨n - 1, by omega⟩
  have hP := per hp
  have hNN := mul36 hP.d6 hP.a6
  have hsi : ∀ j n0, s = sl j n0 → j < m.length := fun j n0 e => by
    rcases hs with ⟨_, hs⟩ | ⟨p, row, e2, hr, _⟩
    · rw [hs] at e; injection e with e1 e2; simp at e1
    · rw [e2] at e
      have := (sl_inj e).1
      have := (List.getElem?_eq_some_iff.1 hr).1
      omega
  have bx : xbox (m ++ [cellR [vi (latA l), vi (latB l), vi (smH l), s]]) (kV z.1 z.2.1 z.2.2) = some (pt (m.length + 1) 0, (m ++ [cellR [vi (latA l), vi (latB l), vi (smH l), s]]) ++ [kR z.1 z.2.1 z.2.2]) := by
    rw [kV_eq, bxa6]
    simp [kR]
  have g4 : ((m ++ [cellR [vi (latA l), vi (latB l), vi (smH l), s]]) ++ [kR z.1 z.2.1 z.2.2])[m.length]? = some (cellR [vi (latA l), vi (latB l), vi (smH l), s]) := by simp
  have g1 : ((m ++ [cellR [vi (latA l), vi (latB l), vi (smH l), s]]) ++ [kR z.1 z.2.1 z.2.2])[m.length + 1]? = some (kR z.1 z.2.1 z.2.2) := by simp
  have hl2 : ((m ++ [cellR [vi (latA l), vi (latB l), vi (smH l), s]]) ++ [kR z.1 z.2.1 z.2.2]).length = m.length + 2 := by simp
  have hs2 : Mvs ((m ++ [cellR [vi (latA l), vi (latB l), vi (smH l), s]]) ++ [kR z.1 z.2.1 z.2.2]) s (movL l) := (hs.app _).app _
  unfold r53
  rw [k1_fun, fVal_fun, vcall_fun, bxa4, k2s, bx, k2s, (show GrpAt _ m.length (grpV (latA l) (latB l) (smH l) s) (grpL l) from ⟨s, rfl, g4⟩).ld, k1s, t51 i _ hp, kcs, mk106 _ _ (by omega), k2s, len106, k2s, show repCells [(.bool false : Value)] (smH l * latA l) = (List.replicate (smH l * latA l) false).map Value.bool from rep_b _, i0, hl2]
  generalize (m ++ [cellR [vi (latA l), vi (latB l), vi (smH l), s]]) ++ [kR z.1 z.2.1 z.2.2] = m2 at g4 g1 hl2 hs2 ⊢
  have gset : m2 ++ [rowB (List.replicate (smH l * latA l) false)] = (m2 ++ [rowB (List.replicate (smH l * latA l) false)]).set (m.length + 2) (rowB (List.replicate (smH l * latA l) false)) := by rw [← hl2]; simp
  have key := loop53 (i + 1) (by omega) m.length (fun y6 m => some (.ret y6, m)) (ms := m2 ++ [rowB (List.replicate (smH l * latA l) false)]) (s := s) (b := m.length) (b1 := m.length + 1) (q := m.length + 2) (z := z) hp hz (by rw [List.getElem?_append_left (by omega)]; exact g4) (hs2.app _) hsl (fun j n0 e => by have := hsi j n0 e; omega) (by rw [List.getElem?_append_left (by omega)]; exact g1) (by omega) (by omega) (by omega) (by simp; omega) (smH l * latA l) (i + 1) 0 (by omega) (by omega)
  rw [show (scanS (sgP l z) (smH l * latA l) 0).1 = List.replicate (smH l * latA l) false from rfl, ← gset] at key
  exact ⟨_, key⟩
end Go.AM
