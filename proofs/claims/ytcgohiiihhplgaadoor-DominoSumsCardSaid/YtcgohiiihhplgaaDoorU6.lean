import Derived.Carry
import Derived.Handy
import Derived.KernelRfl
import Derived.Laws.BytesArg
import Derived.Laws.StructEq
import Derived.Maps.AppendAt
import Derived.Maps.OwnOps
import Derived.Maps.RangeRun
import Derived.Maps.RangeWalk
import Derived.Test.YtcgohiiihhplgaaDoorRows
import Derived.WalkKit
import Derived.Test.YtcgohiiihhplgaaDoorAmB
import Derived.Test.YtcgohiiihhplgaaDoorAmModel
import Derived.Test.YtcgohiiihhplgaaDoorAmOps6
import Derived.Test.YtcgohiiihhplgaaDoorAmCode
import Derived.Test.YtcgohiiihhplgaaDoorAmK2
import Derived.Test.YtcgohiiihhplgaaDoorAmEq
import Derived.Test.YtcgohiiihhplgaaDoorRBase
import Derived.Test.YtcgohiiihhplgaaDoorB1
import Derived.Test.YtcgohiiihhplgaaDoorK1
import Derived.Test.YtcgohiiihhplgaaDoorR9
import Derived.Test.YtcgohiiihhplgaaDoorR41
import Derived.Test.YtcgohiiihhplgaaDoorR47
import Derived.Test.YtcgohiiihhplgaaDoorD3
import Derived.Test.YtcgohiiihhplgaaDoorK3
import Derived.Test.YtcgohiiihhplgaaDoorAmS
import Derived.Test.YtcgohiiihhplgaaDoorK4
import Derived.Test.YtcgohiiihhplgaaDoorK5
import Derived.Test.YtcgohiiihhplgaaDoorK6
import Derived.Test.YtcgohiiihhplgaaDoorS13
import Derived.Test.YtcgohiiihhplgaaDoorS14
import Derived.Test.YtcgohiiihhplgaaDoorD0
import Derived.Test.YtcgohiiihhplgaaDoorDet1
import Derived.Test.YtcgohiiihhplgaaDoorDH1
import Derived.Test.YtcgohiiihhplgaaDoorD4
import Derived.Test.YtcgohiiihhplgaaDoorM1
import Derived.Test.YtcgohiiihhplgaaDoorM2
import Derived.Test.YtcgohiiihhplgaaDoorU1
set_option linter.unusedVariables false
set_option linter.unusedSimpArgs false
set_option linter.unusedSectionVars false
namespace Go.AM
open Go Go.Proofs
theorem r35_L2_s (call : CallF) (fuel base : Nat) (kx2 : Value → Value → Value → Value → Value → Value → M → Res2) (n : Nat) (x0 x5 x6 x7 x8 x9 x10 : Value) (m : M) : r35_L2 call fuel base kx2 (n + 1) x0 x5 x6 x7 x8 x9 x10 m =
    (k1n (mbin E .lss 3 x10 x5) fun v28_6 => (kb v28_6 (k1n (mindexAddr E.P 22 x0 x8) fun v34_7 => (k1n (xload E.P m 9 v34_7) fun v35_8 => (k1n (mbin E .sub 3 x5 (.int .i64 1)) fun v37_9 => (k1n (mbin E .sub 3 v37_9 x10) fun v39_10 => (k1n (mindex E.P 9 v35_8 v39_10) fun v40_11 => (k2 (xbuildSlice E.P m 92 1 [(0, v40_11)]) fun v41_12 m => (k2 (vcalln E.P base m .append [92, 92] [x9, v41_12]) fun v42_13 m => (k1n (mbin E .add 3 x10 (.int .i64 1)) fun v30_14 => (r35_L2 call fuel base kx2 n x0 x5 x6 x7 x8 v42_13 v30_14 m))))))))) (kx2 x0 x5 x6 x7 x8 x9 m))) := by
  unfold r35_L2
  rw [k1_fun, vcall_fun]
theorem r35_L6_s (call : CallF) (fuel base : Nat) (kx6 : Value → Value → Value → Value → Value → Value → M → Res2) (n : Nat) (x0 x5 x6 x7 x11 x12 x13 : Value) (m : M) : r35_L6 call fuel base kx6 (n + 1) x0 x5 x6 x7 x11 x12 x13 m =
    (k1n (mbin E .geq 3 x13 (.int .i64 0)) fun v57_28 => (kb v57_28 (k1n (mindexAddr E.P 22 x0 x13) fun v63_29 => (k1n (xload E.P m 9 v63_29) fun v64_30 => (k1n (mindex E.P 9 v64_30 x11) fun v66_31 => (k2 (xbuildSlice E.P m 92 1 [(0, v66_31)]) fun v67_32 m => (k2 (vcalln E.P base m .append [92, 92] [x12, v67_32]) fun v68_33 m => (k1n (mbin E .sub 3 x13 (.int .i64 1)) fun v59_34 => (r35_L6 call fuel base kx6 n x0 x5 x6 x7 x11 v68_33 v59_34 m))))))) (kx6 x0 x5 x6 x7 x11 x12 m))) := by
  unfold r35_L6
  rw [k1_fun, vcall_fun]
theorem r35_L0_s (call : CallF) (fuel base : Nat) (kx0 : Value → M → Res2) (n : Nat) (x0 x5 x6 x7 x8 : Value) (m : M) : r35_L0 call fuel base kx0 (n + 1) x0 x5 x6 x7 x8 m =
    (k1n (mbin E .lss 3 x8 x6) fun v23_5 => (kb v23_5 (r35_L2 call fuel base (fun y0_15 y5_16 y6_17 y7_18 y8_19 y9_20 m => (k1n (mconv E.P m 92 9 y9_20) fun v45_21 => (k2 (xbuildSlice E.P m 22 1 [(0, v45_21)]) fun v46_22 m => (k2 (vcalln E.P base m .append [22, 22] [y7_18, v46_22]) fun v47_23 m => (k1n (mbin E .add 3 y8_19 (.int .i64 1)) fun v25_24 => (r35_L0 call fuel base kx0 n y0_15 y5_16 y6_17 v47_23 v25_24 m)))))) fuel x0 x5 x6 x7 x8 (.slice none 0 0) (.int .i64 0) m) (kx0 x7 m))) := by
  unfold r35_L0
  rw [k1_fun, vcall_fun]
theorem r35_L4_s (call : CallF) (fuel base : Nat) (kx4 : Value → M → Res2) (n : Nat) (x0 x5 x6 x7 x11 : Value) (m : M) : r35_L4 call fuel base kx4 (n + 1) x0 x5 x6 x7 x11 m =
    (k1n (mbin E .lss 3 x11 x5) fun v51_26 => (kb v51_26 (k1n (mbin E .sub 3 x6 (.int .i64 1)) fun v55_27 => (r35_L6 call fuel base (fun y0_35 y5_36 y6_37 y7_38 y11_39 y12_40 m => (k1n (mconv E.P m 92 9 y12_40) fun v71_41 => (k2 (xbuildSlice E.P m 22 1 [(0, v71_41)]) fun v72_42 m => (k2 (vcalln E.P base m .append [22, 22] [y7_38, v72_42]) fun v73_43 m => (k1n (mbin E .add 3 y11_39 (.int .i64 1)) fun v53_44 => (r35_L4 call fuel base kx4 n y0_35 y5_36 y6_37 v73_43 v53_44 m)))))) fuel x0 x5 x6 x7 x11 (.slice none 0 0) v55_27 m)) (kx4 x7 m))) := by
  unfold r35_L4
  rw [k1_fun, vcall_fun]
theorem r67_L0_s (call : CallF) (fuel base : Nat) (kx0 : Value → M → Res2) (n : Nat) (x0 x4 x5 x7 x8 : Value) (m : M) : r67_L0 call fuel base kx0 (n + 1) x0 x4 x5 x7 x8 m =
    (k2 (vcalln E.P base m .len [22] [x0]) fun v12_3 m => (k1n (mbin E .lss 3 x8 v12_3) fun v13_4 => (kb v13_4 (k1n (mindexAddr E.P 22 x0 x8) fun v19_5 => (k1n (xload E.P m 9 v19_5) fun v20_6 => (k2 (vcalln E.P base m .append [92, 9] [(.slice none 0 0), v20_6]) fun v21_7 m => (k1n (mfieldAddr E.P 68 x4 1) fun v23_8 => (k1n (xload E.P m 3 v23_8) fun v24_9 => (k1n (mbin E .eql 3 x8 v24_9) fun v25_10 => (kb v25_10 (k1n (mfieldAddr E.P 68 x4 0) fun v27_11 => (k1n (xload E.P m 3 v27_11) fun v28_12 => (k1n (mindexAddr E.P 92 v21_7 v28_12) fun v29_13 => (ks (xstore E.P base m 5 v29_13 (.int .u8 46)) fun m => (k1n (mfieldAddr E.P 68 x5 1) fun v31_14 => (k1n (xload E.P m 3 v31_14) fun v32_15 => (k1n (mbin E .eql 3 x8 v32_15) fun v33_16 => (kb v33_16 (k1n (mfieldAddr E.P 68 x5 0) fun v35_17 => (k1n (xload E.P m 3 v35_17) fun v36_18 => (k1n (mindexAddr E.P 92 v21_7 v36_18) fun v37_19 => (ks (xstore E.P base m 5 v37_19 (.int .u8 46)) fun m => (k1n (mconv E.P m 92 9 v21_7) fun v40_20 => (k2 (xbuildSlice E.P m 22 1 [(0, v40_20)]) fun v41_21 m => (k2 (vcalln E.P base m .append [22, 22] [x7, v41_21]) fun v42_22 m => (k1n (mbin E .add 3 x8 (.int .i64 1)) fun v15_23 => (r67_L0 call fuel base kx0 n x0 x4 x5 v42_22 v15_23 m))))))))) (k1n (mconv E.P m 92 9 v21_7) fun v40_24 => (k2 (xbuildSlice E.P m 22 1 [(0, v40_24)]) fun v41_25 m => (k2 (vcalln E.P base m .append [22, 22] [x7, v41_25]) fun v42_26 m => (k1n (mbin E .add 3 x8 (.int .i64 1)) fun v15_27 => (r67_L0 call fuel base kx0 n x0 x4 x5 v42_26 v15_27 m))))))))))))) (k1n (mfieldAddr E.P 68 x5 1) fun v31_28 => (k1n (xload E.P m 3 v31_28) fun v32_29 => (k1n (mbin E .eql 3 x8 v32_29) fun v33_30 => (kb v33_30 (k1n (mfieldAddr E.P 68 x5 0) fun v35_31 => (k1n (xload E.P m 3 v35_31) fun v36_32 => (k1n (mindexAddr E.P 92 v21_7 v36_32) fun v37_33 => (ks (xstore E.P base m 5 v37_33 (.int .u8 46)) fun m => (k1n (mconv E.P m 92 9 v21_7) fun v40_34 => (k2 (xbuildSlice E.P m 22 1 [(0, v40_34)]) fun v41_35 m => (k2 (vcalln E.P base m .append [22, 22] [x7, v41_35]) fun v42_36 m => (k1n (mbin E .add 3 x8 (.int .i64 1)) fun v15_37 => (r67_L0 call fuel base kx0 n x0 x4 x5 v42_36 v15_37 m))))))))) (k1n (mconv E.P m 92 9 v21_7) fun v40_38 => (k2 (xbuildSlice E.P m 22 1 [(0, v40_38)]) fun v41_39 m => (k2 (vcalln E.P base m .append [22, 22] [x7, v41_39]) fun v42_40 m => (k1n (mbin E .add 3 x8 (.int .i64 1)) fun v15_41 => (r67_L0 call fuel base kx0 n x0 x4 x5 v42_40 v15_41 m)))))))))))))))) (kx0 x7 m)))) := by
  unfold r67_L0
  rw [k1_fun, vcall_fun]
def byA (l : List ByteArray) (y x : Nat) : Int := match l[y]? with
  | some bs => match bs[x]? with
    | some b => (b.toNat : Int)
    | none => 0
  | none => 0
theorem getA {l : List ByteArray} {y x : Nat} (hy : y < l.length) (hx : x < l[y].size) : mindex E.P 9 (.string l[y]) (vi x) = some (.int .u8 (byA l y x)) := by
  rw [idx9]
  unfold byA
  rw [List.getElem?_eq_getElem hy]
  simp only
  rw [getElem?_pos l[y] x hx]
  rfl
def bysV (g : Nat → Int) (j : Nat) : List Value := ((List.range j).map g).map (Value.int .u8)
theorem bysV_snoc (g : Nat → Int) (j : Nat) : bysV g (j + 1) = bysV g j ++ [.int .u8 (g j)] := by
  unfold bysV
  rw [List.range_succ, List.map_append, List.map_append]
  rfl
/-- One byte more, when the byte is read. -/
theorem push92 {b base : Nat} {m : M} {v : Value} {g : Nat → Int} {j : Nat} (h : Grow 1 b m v (bysV g j) j) (hj : j ≤ 8) (hbb : base ≤ b) (hbm : b ≤ m.length) :
    ∃ v' m', (∀ k : Value → M → Res2, (k2 (xbuildSlice E.P m 92 1 [(0, .int .u8 (g j))]) fun u m => k2 (vcalln E.P base m .append [92, 92] [v, u]) k) = k v' m') ∧ Grow 1 b m' v' (bysV g (j + 1)) (j + 1) ∧ Keeps b m m' := by
  obtain ⟨v', m', e, g', k, _⟩ := gg92 h (by omega) hbb hbm (g j)
  rw [bysV_snoc]
  exact ⟨v', m', e, g', k⟩
theorem loop35b (call : CallF) (fuel base b : Nat) (hbb : base ≤ b) (kx : Value → Value → Value → Value → Value → Value → M → Res2) {m0 : M} (hb0 : b ≤ m0.length) {p : Nat} (hpb : p < b) {row : Row} {l : List ByteArray} (hp : m0[p]? = some row) (hrow : row.cells = l.map Value.string) {w : Nat} (hw : w ≤ 8) {y : Nat} (hy : y < l.length) (hsz : l[y].size = w) (x6 x7 : Value) {g : Nat → Int} (hg0 : ∀ x, x < w → g x = byA l y (w - 1 - x)) :
    ∀ (n j : Nat) (v9 : Value) (m : M), j ≤ w → w < n + j → Keeps b m0 m → Grow 1 b m v9 (bysV g j) j →
      ∃ v' m', r35_L2 call fuel base kx n (sl p l.length) (vi w) x6 x7 (vi y) v9 (vi j) m = kx (sl p l.length) (vi w) x6 x7 (vi y) v' m' ∧ Grow 1 b m' v' (bysV g w) w ∧ Keeps b m0 m'
  | 0, j, v9, m, hj, hn, _, _ => by omega
  | n + 1, j, v9, m, hj, hn, hk, hg => by
    rw [r35_L2_s, lss_nat, k1s]
    by_cases hlt : j < w
    · have hpm : m[p]? = some row := (hk.2 p hpb).trans hp
      have e1 : mbin E .sub 3 (vi w) (.int .i64 1) = some (vi ((w : Int) - 1)) := subi w 1 (by omega) (by omega)
      have e2 : mbin E .sub 3 (vi ((w : Int) - 1)) (vi j) = some (vi ((w - 1 - j : Nat) : Int)) := by
        rw [subi _ _ (by omega) (by omega)]
        congr 2
        omega
      obtain ⟨v1, m1, e3, g1, k1⟩ := push92 hg (by omega) hbb (Nat.le_trans hb0 hk.1)
      rw [decide_eq_true hlt, kbt, ix22 p l.length l.length y hy, k1s, strs_ld hpm hrow hy, k1s, e1, k1s, e2, k1s, getA hy (by omega), k1s, ← hg0 j hlt, e3, add1 j (by omega), k1s]
      exact loop35b call fuel base b hbb kx hb0 hpb hp hrow hw hy hsz x6 x7 hg0 n (j + 1) v1 m1 (by omega) (by omega) (hk.trans k1) g1
    · have : j = w := by omega
      subst this
      rw [decide_eq_false hlt, kbf]
      exact ⟨v9, m, rfl, hg, hk⟩
theorem loop35c (call : CallF) (fuel base b : Nat) (hbb : base ≤ b) (kx : Value → Value → Value → Value → Value → Value → M → Res2) {m0 : M} (hb0 : b ≤ m0.length) {p : Nat} (hpb : p < b) {row : Row} {l : List ByteArray} (hp : m0[p]? = some row) (hrow : row.cells = l.map Value.string) {w h : Nat} (hh : h ≤ 8) (hl : l.length = h) {x : Nat} (hx : x < w) (hsz : ∀ bs ∈ l, bs.size = w) (x5 x6 x7 : Value) {g : Nat → Int} (hg0 : ∀ y, y < h → g y = byA l (h - 1 - y) x) :
    ∀ (n j : Nat) (v9 : Value) (m : M), j ≤ h → h < n + j → Keeps b m0 m → Grow 1 b m v9 (bysV g j) j →
      ∃ v' m', r35_L6 call fuel base kx n (sl p l.length) x5 x6 x7 (vi x) v9 (vi ((h : Int) - 1 - j)) m = kx (sl p l.length) x5 x6 x7 (vi x) v' m' ∧ Grow 1 b m' v' (bysV g h) h ∧ Keeps b m0 m'
  | 0, j, v9, m, hj, hn, _, _ => by omega
  | n + 1, j, v9, m, hj, hn, hk, hg => by
    have hge : mbin E .geq 3 (vi ((h : Int) - 1 - j)) (.int .i64 0) = some (.bool (decide (j < h))) := by
      have := i_geq ((h : Int) - 1 - j) 0
      refine this.trans ?_
      congr 2
      exact decide_eq_decide.2 (by omega)
    rw [r35_L6_s, hge, k1s]
    by_cases hlt : j < h
    · have hpm : m[p]? = some row := (hk.2 p hpb).trans hp
      have hy : h - 1 - j < l.length := by omega
      have e1 : (vi ((h : Int) - 1 - j)) = vi ((h - 1 - j : Nat) : Int) := by congr 1; omega
      have e2 : mbin E .sub 3 (vi ((h : Int) - 1 - j)) (.int .i64 1) = some (vi ((h : Int) - 1 - (j + 1 : Nat))) := by
        refine (subi _ 1 (by omega) (by omega)).trans ?_
        congr 2
        omega
      have e4 := getA (l := l) (y := h - 1 - j) (x := x) hy (by rw [hsz _ (List.getElem_mem hy)]; exact hx)
      obtain ⟨v1, m1, e3, g1, k1⟩ := push92 hg (by omega) hbb (Nat.le_trans hb0 hk.1)
      rw [decide_eq_true hlt, kbt]
      have hix : mindexAddr E.P 22 (sl p l.length) (vi ((h : Int) - 1 - j)) = some (pt p (h - 1 - j)) := by
        rw [e1]; exact ix22 p l.length l.length _ hy
      rw [hix, k1s, strs_ld hpm hrow hy, k1s, e4, k1s, ← hg0 j hlt, e3, e2, k1s]
      exact loop35c call fuel base b hbb kx hb0 hpb hp hrow hh hl hx hsz x5 x6 x7 hg0 n (j + 1) v1 m1 (by omega) (by omega) (hk.trans k1) g1
    · have : j = h := by omega
      subst this
      rw [decide_eq_false hlt, kbf]
      exact ⟨v9, m, rfl, hg, hk⟩
theorem conv92 {b : Nat} {m : M} {v : Value} {g : Nat → Int} {w : Nat} (h : Grow 1 b m v (bysV g w) w) (hw : 1 ≤ w) : mconv E.P m 92 9 v = some (.string (strOfNums ((List.range w).map g))) := by
  rcases h with ⟨h1, _⟩ | ⟨r, h1, hb, rfl, hr, hl⟩
  · omega
  · exact cv92 m r w _ _ hr rfl (by simp)
def genV (f : Nat → Nat → Int) (w j : Nat) : List Value := ((List.range j).map (genS f w)).map Value.string
theorem genV_snoc (f : Nat → Nat → Int) (w j : Nat) : genV f w (j + 1) = genV f w j ++ [.string (genS f w j)] := by
  unfold genV
  rw [List.range_succ, List.map_append, List.map_append]
  rfl
theorem push22 {b base : Nat} {m : M} {v : Value} {f : Nat → Nat → Int} {w j : Nat} (h : Grow 1 b m v (genV f w j) j) (hj : j ≤ 8) (hbb : base ≤ b) (hbm : b ≤ m.length) :
    ∃ v' m', (∀ k : Value → M → Res2, (k2 (xbuildSlice E.P m 22 1 [(0, .string (genS f w j))]) fun u m => k2 (vcalln E.P base m .append [22, 22] [v, u]) k) = k v' m') ∧ Grow 1 b m' v' (genV f w (j + 1)) (j + 1) ∧ Keeps b m m' := by
  obtain ⟨v', m', e, g', k, _⟩ := gg22 h (by omega) hbb hbm (genS f w j)
  rw [genV_snoc]
  exact ⟨v', m', e, g', k⟩
def mirF (l : List ByteArray) (w : Nat) (y x : Nat) : Int := byA l y (w - 1 - x)
def turF (l : List ByteArray) (h : Nat) (y x : Nat) : Int := byA l (h - 1 - x) y
theorem loop35m (call : CallF) (fuel base b : Nat) (hbb : base ≤ b) (hfu : 20 ≤ fuel) (kx : Value → M → Res2) {m0 : M} (hb0 : b ≤ m0.length) {p : Nat} (hpb : p < b) {row : Row} {l : List ByteArray} (hp : m0[p]? = some row) (hrow : row.cells = l.map Value.string) {w h : Nat} (hw1 : 1 ≤ w) (hw : w ≤ 8) (hh : h ≤ 8) (hl : l.length = h) (hsz : ∀ bs ∈ l, bs.size = w) :
    ∀ (n j : Nat) (v7 : Value) (m : M), j ≤ h → h < n + j → Keeps b m0 m → Grow 1 b m v7 (genV (mirF l w) w j) j →
      ∃ v' m', r35_L0 call fuel base kx n (sl p l.length) (vi w) (vi h) v7 (vi j) m = kx v' m' ∧ Grow 1 b m' v' (genV (mirF l w) w h) h ∧ Keeps b m0 m'
  | 0, j, v7, m, hj, hn, _, _ => by omega
  | n + 1, j, v7, m, hj, hn, hk, hg => by
    rw [r35_L0_s, lss_nat, k1s]
    have hbm := Nat.le_trans hb0 hk.1
    by_cases hlt : j < h
    · have hpm : m[p]? = some row := (hk.2 p hpb).trans hp
      have hy : j < l.length := by omega
      rw [decide_eq_true hlt, kbt, show (.int .i64 0 : Value) = vi ((0 : Nat) : Int) from rfl]
      obtain ⟨v9, m1, e1, g1, k1⟩ := loop35b call fuel base m.length (Nat.le_trans hbb hbm) (fun y0_15 y5_16 y6_17 y7_18 y8_19 y9_20 m => (k1n (mconv E.P m 92 9 y9_20) fun v45_21 => (k2 (xbuildSlice E.P m 22 1 [(0, v45_21)]) fun v46_22 m => (k2 (vcalln E.P base m .append [22, 22] [y7_18, v46_22]) fun v47_23 m => (k1n (mbin E .add 3 y8_19 (.int .i64 1)) fun v25_24 => (r35_L0 call fuel base kx n y0_15 y5_16 y6_17 v47_23 v25_24 m)))))) (m0 := m) (Nat.le_refl _) (p := p) (by omega) hpm hrow hw hy (hsz _ (List.getElem_mem hy)) (vi h) v7 (g := mirF l w j) (fun _ _ => rfl) fuel 0 (.slice none 0 0) m (by omega) (by omega) (Keeps.refl _ _) (.inl ⟨rfl, rfl, rfl⟩)
      have e2 : mconv E.P m1 92 9 v9 = some (.string (genS (mirF l w) w j)) := conv92 g1 hw1
      obtain ⟨v1, m2, e3, g2, k2⟩ := push22 (hg.keep k1) (by omega) hbb (Nat.le_trans hbm k1.1)
      rw [e1, e2, k1s, e3, add1 j (by omega), k1s]
      exact loop35m call fuel base b hbb hfu kx hb0 hpb hp hrow hw1 hw hh hl hsz n (j + 1) v1 m2 (by omega) (by omega) ((hk.trans (k1.mono hbm)).trans k2) g2
    · have : j = h := by omega
      subst this
      rw [decide_eq_false hlt, kbf]
      exact ⟨v7, m, rfl, hg, hk⟩
theorem loop35t (call : CallF) (fuel base b : Nat) (hbb : base ≤ b) (hfu : 20 ≤ fuel) (kx : Value → M → Res2) {m0 : M} (hb0 : b ≤ m0.length) {p : Nat} (hpb : p < b) {row : Row} {l : List ByteArray} (hp : m0[p]? = some row) (hrow : row.cells = l.map Value.string) {w h : Nat} (hh1 : 1 ≤ h) (hw : w ≤ 8) (hh : h ≤ 8) (hl : l.length = h) (hsz : ∀ bs ∈ l, bs.size = w) :
    ∀ (n j : Nat) (v7 : Value) (m : M), j ≤ w → w < n + j → Keeps b m0 m → Grow 1 b m v7 (genV (turF l h) h j) j →
      ∃ v' m', r35_L4 call fuel base kx n (sl p l.length) (vi w) (vi h) v7 (vi j) m = kx v' m' ∧ Grow 1 b m' v' (genV (turF l h) h w) w ∧ Keeps b m0 m'
  | 0, j, v7, m, hj, hn, _, _ => by omega
  | n + 1, j, v7, m, hj, hn, hk, hg => by
    rw [r35_L4_s, lss_nat, k1s]
    have hbm := Nat.le_trans hb0 hk.1
    by_cases hlt : j < w
    · have hpm : m[p]? = some row := (hk.2 p hpb).trans hp
      have e0 : mbin E .sub 3 (vi h) (.int .i64 1) = some (vi ((h : Int) - 1 - (0 : Nat))) := by
        refine (subi _ 1 (by omega) (by omega)).trans ?_
        congr 2
        omega
      rw [decide_eq_true hlt, kbt, e0, k1s]
      obtain ⟨v9, m1, e1, g1, k1⟩ := loop35c call fuel base m.length (Nat.le_trans hbb hbm) (fun y0_35 y5_36 y6_37 y7_38 y11_39 y12_40 m => (k1n (mconv E.P m 92 9 y12_40) fun v71_41 => (k2 (xbuildSlice E.P m 22 1 [(0, v71_41)]) fun v72_42 m => (k2 (vcalln E.P base m .append [22, 22] [y7_38, v72_42]) fun v73_43 m => (k1n (mbin E .add 3 y11_39 (.int .i64 1)) fun v53_44 => (r35_L4 call fuel base kx n y0_35 y5_36 y6_37 v73_43 v53_44 m)))))) (m0 := m) (Nat.le_refl _) (p := p) (by omega) hpm hrow hh hl hlt hsz (vi w) (vi h) v7 (g := turF l h j) (fun _ _ => rfl) fuel 0 (.slice none 0 0) m (by omega) (by omega) (Keeps.refl _ _) (.inl ⟨rfl, rfl, rfl⟩)
      have e2 : mconv E.P m1 92 9 v9 = some (.string (genS (turF l h) h j)) := conv92 g1 hh1
      obtain ⟨v1, m2, e3, g2, k2⟩ := push22 (hg.keep k1) (by omega) hbb (Nat.le_trans hbm k1.1)
      rw [e1, e2, k1s, e3, add1 j (by omega), k1s]
      exact loop35t call fuel base b hbb hfu kx hb0 hpb hp hrow hh1 hw hh hl hsz n (j + 1) v1 m2 (by omega) (by omega) ((hk.trans (k1.mono hbm)).trans k2) g2
    · have : j = w := by omega
      subst this
      rw [decide_eq_false hlt, kbf]
      exact ⟨v7, m, rfl, hg, hk⟩
theorem t35 (n base : Nat) {m : M} (hb : base ≤ m.length) {v : Value} {l : List ByteArray} {w h : Nat} {c : B} (H : IsReg l w h c) (hv : Strs m v l) :
    (∃ v' m', rt (n + 60) base 35 [v, .bool false] m = some (.ret v', m') ∧ Strs m' v' (genL (turF l h) h w) ∧ Keeps m.length m m') ∧
    (∃ v' m', rt (n + 60) base 35 [v, .bool true] m = some (.ret v', m') ∧ Strs m' v' (genL (mirF l w) w h) ∧ Keeps m.length m m') := by
  obtain ⟨p, row, rfl, hp, hrow⟩ : ∃ p row, v = sl p l.length ∧ m[p]? = some row ∧ row.cells = l.map Value.string := by
    rcases hv with ⟨hz, _⟩ | ⟨p, row, a, b, d⟩
    · have := H.len; have := H.h1; rw [hz] at *; simp at *; omega
    · exact ⟨p, row, a, b, d⟩
  have hlen := H.len
  have h1 := H.h1
  have h0 : 0 < l.length := by omega
  have hpl := (List.getElem?_eq_some_iff.1 hp).1
  have hld : xload E.P m 9 (pt p 0) = some (.string l[0]) := strs_ld hp hrow h0
  have hix : mindexAddr E.P 22 (sl p l.length) (.int .i64 0) = some (pt p 0) := ix22 p l.length l.length 0 h0
  have hs0 : l[0].size = w := H.sz _ (List.getElem_mem h0)
  have hlg : ∀ f W k, (genL f W k).length = k := fun f W k => by simp [genL]
  constructor
  · obtain ⟨v', m', e, g, k⟩ := loop35t (rt (n + 59)) (n + 59) base m.length hb (by omega) (fun y m => some (.ret y, m)) (Nat.le_refl _) hpl hp hrow H.h1 H.w8 H.h8 hlen H.sz (n + 59) 0 (.slice none 0 0) m (by omega) (by have := H.w8; omega) (Keeps.refl _ _) (.inl ⟨rfl, rfl, rfl⟩)
    rw [rt_imp (f := 35) (rf := rf35) (by kernel_rfl) (by kernel_rfl) (by kernel_rfl) (n + 59) base]
    refine ⟨v', m', ?_, Grow.strs (b := m.length) (by rw [hlg]; exact g), k⟩
    show r35 (rt (n + 59)) (n + 59) base (sl p l.length) (.bool false) m = _
    unfold r35
    rw [k1_fun, vcall_fun, fVal_fun, hix, k1s, hld, k1s, len9, k2s, hs0, len22, k2s, kbf, hlen]
    rw [hlen] at e
    exact e
  · obtain ⟨v', m', e, g, k⟩ := loop35m (rt (n + 59)) (n + 59) base m.length hb (by omega) (fun y m => some (.ret y, m)) (Nat.le_refl _) hpl hp hrow H.w1 H.w8 H.h8 hlen H.sz (n + 59) 0 (.slice none 0 0) m (by omega) (by have := H.h8; omega) (Keeps.refl _ _) (.inl ⟨rfl, rfl, rfl⟩)
    rw [rt_imp (f := 35) (rf := rf35) (by kernel_rfl) (by kernel_rfl) (by kernel_rfl) (n + 59) base]
    refine ⟨v', m', ?_, Grow.strs (b := m.length) (by rw [hlg]; exact g), k⟩
    show r35 (rt (n + 59)) (n + 59) base (sl p l.length) (.bool true) m = _
    unfold r35
    rw [k1_fun, vcall_fun, fVal_fun, hix, k1s, hld, k1s, len9, k2s, hs0, len22, k2s, kbt, hlen]
    rw [hlen] at e
    exact e
end Go.AM
namespace Go.AM
open Go Go.Proofs
theorem adj_xy {a b c d : Nat} (ha : a < 8) (hb : b < 8) (hc : c < 8) (hd : d < 8) : adjB (8 * b + a) (8 * d + c) = decide ((b = d ∧ (a = c + 1 ∨ c = a + 1)) ∨ (a = c ∧ (b = d + 1 ∨ d = b + 1))) := by
  rw [Bool.eq_iff_iff, decide_eq_true_eq, adjB_iff _ _ (by omega) (by omega)]
  have e : (8 * d + c) % 8 = c := by omega
  rw [e]
  constructor
  · rintro (⟨h1, h2⟩ | ⟨h1, h2⟩ | h2 | ⟨h1, h2⟩) <;> omega
  · rintro (⟨h1, h2 | h2⟩ | ⟨h1, h2 | h2⟩) <;> omega
theorem adj_co {i j : Nat} (hi : i < 64) (hj : j < 64) : adjB i j = decide ((i / 8 = j / 8 ∧ (i % 8 = j % 8 + 1 ∨ j % 8 = i % 8 + 1)) ∨ (i % 8 = j % 8 ∧ (i / 8 = j / 8 + 1 ∨ j / 8 = i / 8 + 1))) := by
  have := adj_xy (a := i % 8) (b := i / 8) (c := j % 8) (d := j / 8) (by omega) (by omega) (by omega) (by omega)
  rwa [show 8 * (i / 8) + i % 8 = i by omega, show 8 * (j / 8) + j % 8 = j by omega] at this
theorem byA_in {l : List ByteArray} {w h : Nat} {c : B} (H : IsReg l w h c) (y x : Nat) (hx : x < w) (hy : y < h) : decide (byA l y x = 35) = c.getLsbD (8 * y + x) := by
  rw [← H.inl x y hx hy]
  unfold byA inL isH
  cases l[y]? with
  | none => rfl
  | some bs =>
    simp only
    rw [Bool.eq_iff_iff, decide_eq_true_eq]
    cases bs[x]? with
    | none => simp
    | some b =>
      simp only [decide_eq_true_eq]
      omega
theorem rowOk_at (bs : ByteArray) : ∀ k x i, rowOk bs k x = true → x ≤ i → i < x + k → okC bs i = true
  | 0, x, i, _, h1, h2 => by omega
  | k + 1, x, i, h, h1, h2 => by
    unfold rowOk at h
    rw [Bool.and_eq_true] at h
    by_cases e : i = x
    · rw [e]; exact h.1
    · exact rowOk_at bs k (x + 1) i h.2 (by omega) (by omega)
theorem rowsOk_at (w : Nat) : ∀ (l : List ByteArray) (y : Nat) (hy : y < l.length), rowsOk w l = true → rowOk l[y] w 0 = true
  | [], y, hy, _ => by simp at hy
  | bs :: l, y, hy, h => by
    unfold rowsOk at h
    rw [Bool.and_eq_true, Bool.and_eq_true] at h
    cases y with
    | zero => exact h.1.2
    | succ y => exact rowsOk_at w l y (by simpa using hy) h.2
theorem byA_two {l : List ByteArray} {w h : Nat} {c g : B} (hr : readB l = some (w, h, c, g)) (y x : Nat) (hx : x < w) (hy : y < h) : byA l y x = 35 ∨ byA l y x = 46 := by
  have H := readB_reg hr
  have hlen := H.len
  have hs : (readB l).isSome = true := by rw [hr]; rfl
  rw [readB_ok] at hs
  match l, hs, H, hlen with
  | [], hs, _, _ => simp at hs
  | b :: l', hs, H, hlen =>
    simp only [Bool.and_eq_true] at hs
    have hw : b.size = w := H.sz b (by simp)
    rw [hw] at hs
    have hyl : y < (b :: l').length := by omega
    have h1 := rowOk_at _ w 0 x (rowsOk_at w (b :: l') y hyl hs.2) (Nat.zero_le _) (by omega)
    unfold byA
    rw [List.getElem?_eq_getElem hyl]
    unfold okC at h1
    simp only
    cases e : ((b :: l')[y])[x]? with
    | none => rw [e] at h1; simp at h1
    | some q =>
      rw [e] at h1
      simp only [Bool.or_eq_true, decide_eq_true_eq] at h1 ⊢
      omega
theorem mir_ok {l : List ByteArray} {w h : Nat} {c g : B} (hr : readB l = some (w, h, c, g)) : ∃ c' g', readB (genL (mirF l w) w h) = some (w, h, c', g') ∧ NT c' = NT c := by
  have H := readB_reg hr
  have hw1 := H.w1
  have hw := H.w8
  have hh := H.h8
  obtain ⟨c', g', e, hc⟩ := readB_gen (mirF l w) H.w1 H.w8 H.h1 H.h8 (fun y x hy hx => byA_two hr y (w - 1 - x) (by omega) hy)
  have rc := fun i hi => H.rect.inn i hi
  refine ⟨c', g', e, nt_map (fun i => 8 * (i / 8) + (w - 1 - i % 8)) 64 c c' (by omega) ⟨fun i hi => ?_, fun i j hi hj hij => ?_, fun i j hi hj => ?_, fun k => ?_⟩⟩
  · have := rc i hi
    show 8 * (i / 8) + (w - 1 - i % 8) < 64
    omega
  · have h1 := rc i hi
    have h2 := rc j hj
    have h3 : 8 * (i / 8) + (w - 1 - i % 8) = 8 * (j / 8) + (w - 1 - j % 8) := hij
    omega
  · have h1 := rc i hi
    have h2 := rc j hj
    show adjB (8 * (i / 8) + (w - 1 - i % 8)) (8 * (j / 8) + (w - 1 - j % 8)) = _
    rw [adj_xy (by omega) (by omega) (by omega) (by omega), adj_co (get_lt hi) (get_lt hj)]
    exact decide_eq_decide.2 (by omega)
  · constructor
    · intro hk
      have hk6 := get_lt hk
      rw [hc k hk6, Bool.and_eq_true, Bool.and_eq_true, decide_eq_true_eq, decide_eq_true_eq] at hk
      obtain ⟨k1, k2, k3⟩ := hk
      refine ⟨8 * (k / 8) + (w - 1 - k % 8), ?_, ?_⟩
      · rw [← byA_in H (k / 8) (w - 1 - k % 8) (by omega) k2]
        exact k3
      · show 8 * ((8 * (k / 8) + (w - 1 - k % 8)) / 8) + (w - 1 - (8 * (k / 8) + (w - 1 - k % 8)) % 8) = k
        omega
    · rintro ⟨i, hi, rfl⟩
      have h1 := rc i hi
      have e1 : (8 * (i / 8) + (w - 1 - i % 8)) % 8 = w - 1 - i % 8 := by omega
      have e2 : (8 * (i / 8) + (w - 1 - i % 8)) / 8 = i / 8 := by omega
      show c'.getLsbD (8 * (i / 8) + (w - 1 - i % 8)) = true
      rw [hc _ (by omega), e1, e2, decide_eq_true (by omega : w - 1 - i % 8 < w), decide_eq_true h1.2]
      show decide (byA l (i / 8) (w - 1 - (w - 1 - i % 8)) = 35) = true
      rw [show w - 1 - (w - 1 - i % 8) = i % 8 by omega, byA_in H _ _ h1.1 h1.2, show 8 * (i / 8) + i % 8 = i by omega]
      exact hi
theorem tur_ok {l : List ByteArray} {w h : Nat} {c g : B} (hr : readB l = some (w, h, c, g)) : ∃ c' g', readB (genL (turF l h) h w) = some (h, w, c', g') ∧ NT c' = NT c := by
  have H := readB_reg hr
  have hh1 := H.h1
  have hw := H.w8
  have hh := H.h8
  obtain ⟨c', g', e, hc⟩ := readB_gen (turF l h) H.h1 H.h8 H.w1 H.w8 (fun y x hy hx => byA_two hr (h - 1 - x) y hy (by omega))
  have rc := fun i hi => H.rect.inn i hi
  refine ⟨c', g', e, nt_map (fun i => 8 * (i % 8) + (h - 1 - i / 8)) 64 c c' (by omega) ⟨fun i hi => ?_, fun i j hi hj hij => ?_, fun i j hi hj => ?_, fun k => ?_⟩⟩
  · have := rc i hi
    show 8 * (i % 8) + (h - 1 - i / 8) < 64
    omega
  · have h1 := rc i hi
    have h2 := rc j hj
    have h3 : 8 * (i % 8) + (h - 1 - i / 8) = 8 * (j % 8) + (h - 1 - j / 8) := hij
    omega
  · have h1 := rc i hi
    have h2 := rc j hj
    show adjB (8 * (i % 8) + (h - 1 - i / 8)) (8 * (j % 8) + (h - 1 - j / 8)) = _
    rw [adj_xy (by omega) (by omega) (by omega) (by omega), adj_co (get_lt hi) (get_lt hj)]
    exact decide_eq_decide.2 (by omega)
  · constructor
    · intro hk
      have hk6 := get_lt hk
      rw [hc k hk6, Bool.and_eq_true, Bool.and_eq_true, decide_eq_true_eq, decide_eq_true_eq] at hk
      obtain ⟨k1, k2, k3⟩ := hk
      refine ⟨8 * (h - 1 - k % 8) + k / 8, ?_, ?_⟩
      · rw [← byA_in H (h - 1 - k % 8) (k / 8) (by omega) (by omega)]
        exact k3
      · show 8 * ((8 * (h - 1 - k % 8) + k / 8) % 8) + (h - 1 - (8 * (h - 1 - k % 8) + k / 8) / 8) = k
        omega
    · rintro ⟨i, hi, rfl⟩
      have h1 := rc i hi
      have e1 : (8 * (i % 8) + (h - 1 - i / 8)) % 8 = h - 1 - i / 8 := by omega
      have e2 : (8 * (i % 8) + (h - 1 - i / 8)) / 8 = i % 8 := by omega
      show c'.getLsbD (8 * (i % 8) + (h - 1 - i / 8)) = true
      rw [hc _ (by omega), e1, e2, decide_eq_true (by omega : h - 1 - i / 8 < h), decide_eq_true (by omega : i % 8 < w)]
      show decide (byA l (h - 1 - (h - 1 - i / 8)) (i % 8) = 35) = true
      rw [show h - 1 - (h - 1 - i / 8) = i / 8 by omega, byA_in H _ _ h1.1 h1.2, show 8 * (i / 8) + i % 8 = i by omega]
      exact hi
end Go.AM
namespace Go.AM
open Go Go.Proofs
theorem ap929 (base : Nat) (m : M) (s : ByteArray) (h1 : 1 ≤ s.size) (h2 : s.size ≤ 1000) : vcalln E.P base m .append [92, 9] [.slice none 0 0, .string s] = some (sl m.length s.size, m ++ [rowz 1 false (strBytes s)]) := by
  have e : vcalln E.P base m .append [92, 9] [.slice none 0 0, .string s] = if s.size = 0 then some (.slice none 0 0, m) else if s.size > 2 ^ 38 then none else
      xlen m fun k => fList (strBytes s) fun cs => xpush m (rowz 1 false cs) fun m' => some (.slice (some ⟨k, 0, none⟩) s.size s.size, m') := by kernel_rfl
  rw [e, if_neg (by omega), if_neg (by omega), xlen_eq, fNat_eq, fList_eq, xpush_eq, fList_eq]
theorem strBytes_by {l : List ByteArray} {y w : Nat} (hy : y < l.length) (hs : l[y].size = w) : strBytes l[y] = bysV (byA l y) w := by
  unfold strBytes bysV
  rw [List.map_map]
  refine List.ext_getElem? fun i => ?_
  by_cases hi : i < w
  · have h1 : i < l[y].data.toList.length := by
      have : l[y].data.toList.length = l[y].size := by rw [Array.length_toList]; rfl
      omega
    rw [List.getElem?_map, List.getElem?_map, List.getElem?_range hi, List.getElem?_eq_getElem h1]
    simp only [Option.map_some, Function.comp]
    unfold byA
    rw [List.getElem?_eq_getElem hy]
    simp only
    rw [getElem?_pos l[y] i (by omega)]
    rfl
  · rw [List.getElem?_eq_none, List.getElem?_eq_none]
    · simp; omega
    · have : l[y].data.toList.length = l[y].size := by rw [Array.length_toList]; rfl
      simp only [List.length_map]
      omega
/-- The bytes with places changed to '.'. -/
def dotF (f : Nat → Nat → Int) (c d : Nat × Nat) (y x : Nat) : Int := if (x = c.1 ∧ y = c.2) ∨ (x = d.1 ∧ y = d.2) then 46 else f y x
theorem bysV_set (g g' : Nat → Int) (w x : Nat) (hx : x < w) (b : Int) (h : ∀ k, k < w → g' k = if k = x then b else g k) : (bysV g w).set x (.int .u8 b) = bysV g' w := by
  unfold bysV
  rw [List.map_map, List.map_map]
  refine range_set _ _ w x hx _ fun k hk => ?_
  show Value.int .u8 (g' k) = _
  rw [h k hk]
  split <;> rfl
theorem loop67 (call : CallF) (fuel base b : Nat) (hbb : base ≤ b) (kx : Value → M → Res2) {m0 : M} (hb0 : b ≤ m0.length) {p q1 q2 : Nat} (hpb : p < b) (hq1 : q1 < b) (hq2 : q2 < b) {row : Row} {l : List ByteArray} (hp : m0[p]? = some row) (hrow : row.cells = l.map Value.string) {w h : Nat} (hw1 : 1 ≤ w) (hw : w ≤ 8) (hh : h ≤ 8) (hl : l.length = h) (hsz : ∀ bs ∈ l, bs.size = w)
    {c d : Nat × Nat} (m1 : m0[q1]? = some (cellR [vi c.1, vi c.2])) (m2 : m0[q2]? = some (cellR [vi d.1, vi d.2])) (hc : c.1 < w) (hd : d.1 < w) :
    ∀ (n j : Nat) (v7 : Value) (m : M), j ≤ h → h < n + j → Keeps b m0 m → Grow 1 b m v7 (genV (dotF (byA l) c d) w j) j →
      ∃ v' m', r67_L0 call fuel base kx n (sl p l.length) (pt q1 0) (pt q2 0) v7 (vi j) m = kx v' m' ∧ Grow 1 b m' v' (genV (dotF (byA l) c d) w h) h ∧ Keeps b m0 m'
  | 0, j, v7, m, hj, hn, _, _ => by omega
  | n + 1, j, v7, m, hj, hn, hk, hg => by
    rw [r67_L0_s, len22, k2s, lss_nat, k1s]
    have hbm := Nat.le_trans hb0 hk.1
    by_cases hlt : j < h
    · have hpm : m[p]? = some row := (hk.2 p hpb).trans hp
      have hy : j < l.length := by omega
      have hsj := hsz _ (List.getElem_mem hy)
      have h68 : ∀ m' : M, Keeps m.length m m' → mcell m' q1 0 = some (vi c.1) ∧ mcell m' q1 1 = some (vi c.2) ∧ mcell m' q2 0 = some (vi d.1) ∧ mcell m' q2 1 = some (vi d.2) := fun m' hk' => by
        have a1 : m'[q1]? = some (cellR [vi c.1, vi c.2]) := by rw [hk'.2 q1 (by omega), hk.2 q1 hq1]; exact m1
        have a2 : m'[q2]? = some (cellR [vi d.1, vi d.2]) := by rw [hk'.2 q2 (by omega), hk.2 q2 hq2]; exact m2
        exact ⟨box_cell a1 0 _ rfl, box_cell a1 1 _ rfl, box_cell a2 0 _ rfl, box_cell a2 1 _ rfl⟩
      have hfin : ∀ m3 : M, Keeps m.length m m3 → m.length < m3.length → m3[m.length]? = some (rowz 1 false (bysV (dotF (byA l) c d j) w)) →
          ∃ v' m', (k1n (mconv E.P m3 92 9 (sl m.length w)) fun v40 => (k2 (xbuildSlice E.P m3 22 1 [(0, v40)]) fun v41 m => (k2 (vcalln E.P base m .append [22, 22] [v7, v41]) fun v42 m => (k1n (mbin E .add 3 (vi j) (.int .i64 1)) fun v15 => (r67_L0 call fuel base kx n (sl p l.length) (pt q1 0) (pt q2 0) v42 v15 m))))) = kx v' m' ∧ Grow 1 b m' v' (genV (dotF (byA l) c d) w h) h ∧ Keeps b m0 m' := fun m3 hk3 hlt3 hr3 => by
        have e2 : mconv E.P m3 92 9 (sl m.length w) = some (.string (genS (dotF (byA l) c d) w j)) := cv92 m3 m.length w _ _ hr3 rfl (by simp)
        obtain ⟨v1, m4, e3, g2, k2⟩ := push22 (hg.keep hk3) (by omega) hbb (Nat.le_trans hbm hk3.1)
        rw [e2, k1s, e3, add1 j (by omega), k1s]
        exact loop67 call fuel base b hbb kx hb0 hpb hq1 hq2 hp hrow hw1 hw hh hl hsz m1 m2 hc hd n (j + 1) v1 m4 (by omega) (by omega) ((hk.trans (hk3.mono hbm)).trans k2) g2
      have hk0 : Keeps m.length m (m ++ [rowz 1 false (bysV (byA l j) w)]) := Keeps.push _ _ (Nat.le_refl _) _
      have hr0 : (m ++ [rowz 1 false (bysV (byA l j) w)])[m.length]? = some (rowz 1 false (bysV (byA l j) w)) := by simp
      have hset : ∀ (m3 : M) (g g' : Nat → Int) (x : Nat), x < w → Keeps m.length m m3 → m3[m.length]? = some (rowz 1 false (bysV g w)) → (∀ k, k < w → g' k = if k = x then 46 else g k) →
          ∃ m4, (mindexAddr E.P 92 (sl m.length w) (vi x) = some (pt m.length x)) ∧ xstore E.P base m3 5 (pt m.length x) (.int .u8 46) = some m4 ∧ Keeps m.length m m4 ∧ m4[m.length]? = some (rowz 1 false (bysV g' w)) := fun m3 g g' x hx hk3 hr3 hg' => by
        have hlt3 := (List.getElem?_eq_some_iff.1 hr3).1
        refine ⟨m3.set m.length (rowz 1 false (bysV g' w)), ix92 _ _ _ _ hx, ?_, hk3.trans (Keeps.set _ _ _ _ (Nat.le_refl _)), List.getElem?_set_self hlt3⟩
        rw [st5, mwrite_one (Nat.le_trans hbb hbm) hr3 rfl (by simpa [rowz, bysV] using hx) rfl]
        have : ({ rowz 1 false (bysV g w) with cells := (rowz 1 false (bysV g w)).cells.set x (.int .u8 46) } : Row) = rowz 1 false (bysV g' w) := by
          show rowz 1 false ((bysV g w).set x (.int .u8 46)) = _
          rw [bysV_set g g' w x hx 46 hg']
        rw [this]
      have hln : ∀ m4 : M, m4[m.length]? = some (rowz 1 false (bysV (dotF (byA l) c d j) w)) → m.length < m4.length := fun m4 h => (List.getElem?_eq_some_iff.1 h).1
      have h929 := ap929 base m l[j] (by omega) (by omega)
      rw [hsj, strBytes_by hy hsj] at h929
      rw [decide_eq_true hy, kbt, ix22 p l.length l.length j hy, k1s, strs_ld hpm hrow hy, k1s, h929, k2s]
      generalize m ++ [rowz 1 false (bysV (byA l j) w)] = ma at hk0 hr0 ⊢
      have c0 := h68 ma hk0
      rw [(ff68 q1 0).2, k1s, ld3c, c0.2.1, k1s, i_eql, k1s]
      by_cases h1 : (j : Int) = (c.2 : Int)
      · have h1' : j = c.2 := by omega
        obtain ⟨mb, x1, x2, x3, x4⟩ := hset ma (byA l j) (fun k => if k = c.1 then 46 else byA l j k) c.1 hc hk0 hr0 (fun _ _ => rfl)
        have c1 := h68 mb x3
        rw [decide_eq_true h1, kbt, (ff68 q1 0).1, k1s, ld3c, c0.1, k1s, x1, k1s, x2, kss, (ff68 q2 0).2, k1s, ld3c, c1.2.2.2, k1s, i_eql, k1s]
        by_cases h2 : (j : Int) = (d.2 : Int)
        · have h2' : j = d.2 := by omega
          obtain ⟨mc, y1, y2, y3, y4⟩ := hset mb _ (dotF (byA l) c d j) d.1 hd x3 x4 (fun k _ => by
            unfold dotF
            by_cases e1 : k = c.1 <;> by_cases e2 : k = d.1 <;> simp [e1, e2, h1', h2'] <;> simp_all)
          rw [decide_eq_true h2, kbt, (ff68 q2 0).1, k1s, ld3c, c1.2.2.1, k1s, y1, k1s, y2, kss]
          exact hfin mc y3 (hln _ y4) y4
        · have h2' : j ≠ d.2 := by omega
          have : (fun k => if k = c.1 then (46 : Int) else byA l j k) = dotF (byA l) c d j := funext fun k => by
            unfold dotF
            by_cases e1 : k = c.1 <;> simp [e1, h1', h2'] <;> omega
          rw [this] at x4
          rw [decide_eq_false h2, kbf]
          exact hfin mb x3 (hln _ x4) x4
      · have h1' : j ≠ c.2 := by omega
        rw [decide_eq_false h1, kbf, (ff68 q2 0).2, k1s, ld3c, c0.2.2.2, k1s, i_eql, k1s]
        by_cases h2 : (j : Int) = (d.2 : Int)
        · have h2' : j = d.2 := by omega
          obtain ⟨mc, y1, y2, y3, y4⟩ := hset ma _ (dotF (byA l) c d j) d.1 hd hk0 hr0 (fun k _ => by
            unfold dotF
            by_cases e2 : k = d.1 <;> simp [e2, h1', h2'] <;> omega)
          rw [decide_eq_true h2, kbt, (ff68 q2 0).1, k1s, ld3c, c0.2.2.1, k1s, y1, k1s, y2, kss]
          exact hfin mc y3 (hln _ y4) y4
        · have h2' : j ≠ d.2 := by omega
          have : byA l j = dotF (byA l) c d j := funext fun k => by
            unfold dotF
            simp [h1', h2']
          rw [this] at hr0
          rw [decide_eq_false h2, kbf]
          exact hfin ma hk0 (hln _ hr0) hr0
    · have : j = h := by omega
      subst this
      rw [decide_eq_false (by omega), kbf]
      exact ⟨v7, m, rfl, hg, hk⟩
theorem t67 (n base : Nat) {m : M} (hb : base ≤ m.length) {v : Value} {l : List ByteArray} {w h : Nat} {s : B} (H : IsReg l w h s) (hv : Strs m v l) (c d : Nat × Nat) (hc : c.1 < w) (hd : d.1 < w) :
    ∃ v' m', rt (n + 60) base 67 [v, .agg #[vi c.1, vi c.2], .agg #[vi d.1, vi d.2]] m = some (.ret v', m') ∧ Strs m' v' (genL (dotF (byA l) c d) w h) ∧ Keeps m.length m m' := by
  obtain ⟨p, row, rfl, hp, hrow⟩ : ∃ p row, v = sl p l.length ∧ m[p]? = some row ∧ row.cells = l.map Value.string := by
    rcases hv with ⟨hz, _⟩ | ⟨p, row, a, b, d⟩
    · have := H.len; have := H.h1; rw [hz] at *; simp at *; omega
    · exact ⟨p, row, a, b, d⟩
  have hpl := (List.getElem?_eq_some_iff.1 hp).1
  have hlg : ∀ f W k, (genL f W k).length = k := fun f W k => by simp [genL]
  have hk : Keeps m.length m ((m ++ [cellR [vi c.1, vi c.2]]) ++ [cellR [vi d.1, vi d.2]]) := (Keeps.push _ _ (Nat.le_refl _) _).trans (Keeps.push _ _ (by simp) _)
  have hl2 : ((m ++ [cellR [vi c.1, vi c.2]]) ++ [cellR [vi d.1, vi d.2]]).length = m.length + 2 := by simp
  obtain ⟨v', m', e, g, k⟩ := loop67 (rt (n + 59)) (n + 59) base (m.length + 2) (by omega) (fun y m => some (.ret y, m)) (m0 := (m ++ [cellR [vi c.1, vi c.2]]) ++ [cellR [vi d.1, vi d.2]]) (by omega) (p := p) (q1 := m.length) (q2 := m.length + 1) (by omega) (by omega) (by omega) (by rw [hk.2 p hpl]; exact hp) hrow H.w1 H.w8 H.h8 H.len H.sz (c := c) (d := d) (by simp) (by simp) hc hd (n + 59) 0 (.slice none 0 0) _ (by omega) (by have := H.h8; omega) (Keeps.refl _ _) (.inl ⟨rfl, rfl, rfl⟩)
  rw [rt_imp (f := 67) (rf := rf67) (by kernel_rfl) (by kernel_rfl) (by kernel_rfl) (n + 59) base]
  refine ⟨v', m', ?_, Grow.strs (b := m.length + 2) (by rw [hlg]; exact g), hk.trans (k.mono (by omega))⟩
  show r67 (rt (n + 59)) (n + 59) base (sl p l.length) (.agg #[vi c.1, vi c.2]) (.agg #[vi d.1, vi d.2]) m = _
  unfold r67
  rw [fVal_fun, bx68, k2s, bx68, k2s, show (m ++ [cellR [vi (c.1 : Int), vi (c.2 : Int)]]).length = m.length + 1 by simp]
  exact e
end Go.AM
namespace Go.AM
open Go Go.Proofs
theorem r36_L2_s (call : CallF) (fuel base : Nat) (kp : Value → M → Res2) (kr : Value → M → Res2) (kx2 : Value → Value → Value → M → Res2) (n : Nat) (x0 x1 x5 x6 : Value) (m : M) : r36_L2 call fuel base kp kr kx2 (n + 1) x0 x1 x5 x6 m =
    (k1n (mindexAddr E.P 22 x0 (.int .i64 0)) fun v20_3 => (k1n (xload E.P m 9 v20_3) fun v21_4 => (k2 (vcalln E.P base m .len [9] [v21_4]) fun v22_5 m => (k1n (mbin E .lss 3 x6 v22_5) fun v23_6 => (kb v23_6 (kc (call base 47 [x0, x6, x5] m) (fun v29_7 m => (k1n (mun .not v29_7) fun v30_8 => (kb v30_8 (k1n (mbin E .add 3 x6 (.int .i64 1)) fun v25_9 => (r36_L2 call fuel base kp kr kx2 n x0 x1 x5 v25_9 m)) (k1n (mbin E .add 3 x6 (.int .i64 1)) fun v33_10 => (kc (call base 47 [x0, v33_10, x5] m) (fun v35_11 m => (kb v35_11 (k1n (mbuild E.P 68 [(0, x6), (1, x5)]) fun v40_12 => (k1n (mbin E .add 3 x6 (.int .i64 1)) fun v42_13 => (k1n (mbuild E.P 68 [(0, v42_13), (1, x5)]) fun v44_14 => (kc (call base 67 [x0, v40_12, v44_14] m) (fun v45_15 m => (kc (call base 24 [v45_15] m) (fun v46_16 m => (k1n (mextract 0 v46_16) fun v47_17 => (k1n (mextract 1 v46_16) fun v48_18 => (k1n (mbin E .neq 26 v48_18 (.int .i64 0)) fun v50_19 => (kb v50_19 (kr (.bool false) m) (k1n (mbin E .add 3 (.int .i64 0) v47_17) fun v53_20 => (k1n (mbin E .add 3 x5 (.int .i64 1)) fun v57_21 => (kc (call base 47 [x0, x6, v57_21] m) (fun v58_22 m => (kb v58_22 (k1n (mbuild E.P 68 [(0, x6), (1, x5)]) fun v63_23 => (k1n (mbin E .add 3 x5 (.int .i64 1)) fun v66_24 => (k1n (mbuild E.P 68 [(0, x6), (1, v66_24)]) fun v67_25 => (kc (call base 67 [x0, v63_23, v67_25] m) (fun v68_26 m => (kc (call base 24 [v68_26] m) (fun v69_27 m => (k1n (mextract 0 v69_27) fun v70_28 => (k1n (mextract 1 v69_27) fun v71_29 => (k1n (mbin E .neq 26 v71_29 (.int .i64 0)) fun v73_30 => (kb v73_30 (kr (.bool false) m) (k1n (mbin E .add 3 v53_20 v70_28) fun v76_31 => (k1n (mbin E .eql 3 v76_31 x1) fun v79_32 => (kr v79_32 m)))))))) (fun v m => kp v m))) (fun v m => kp v m))))) (k1n (mbin E .eql 3 v53_20 x1) fun v79_33 => (kr v79_33 m)))) (fun v m => kp v m))))))))) (fun v m => kp v m))) (fun v m => kp v m))))) (k1n (mbin E .add 3 x5 (.int .i64 1)) fun v57_34 => (kc (call base 47 [x0, x6, v57_34] m) (fun v58_35 m => (kb v58_35 (k1n (mbuild E.P 68 [(0, x6), (1, x5)]) fun v63_36 => (k1n (mbin E .add 3 x5 (.int .i64 1)) fun v66_37 => (k1n (mbuild E.P 68 [(0, x6), (1, v66_37)]) fun v67_38 => (kc (call base 67 [x0, v63_36, v67_38] m) (fun v68_39 m => (kc (call base 24 [v68_39] m) (fun v69_40 m => (k1n (mextract 0 v69_40) fun v70_41 => (k1n (mextract 1 v69_40) fun v71_42 => (k1n (mbin E .neq 26 v71_42 (.int .i64 0)) fun v73_43 => (kb v73_43 (kr (.bool false) m) (k1n (mbin E .add 3 (.int .i64 0) v70_41) fun v76_44 => (k1n (mbin E .eql 3 v76_44 x1) fun v79_45 => (kr v79_45 m)))))))) (fun v m => kp v m))) (fun v m => kp v m))))) (k1n (mbin E .eql 3 (.int .i64 0) x1) fun v79_46 => (kr v79_46 m)))) (fun v m => kp v m))))) (fun v m => kp v m)))))) (fun v m => kp v m)) (kx2 x0 x1 x5 m)))))) := by
  unfold r36_L2
  rw [k1_fun, vcall_fun]
theorem r36_L0_s (call : CallF) (fuel base : Nat) (kp : Value → M → Res2) (kr : Value → M → Res2) (kx0 : Value → M → Res2) (n : Nat) (x0 x1 x5 : Value) (m : M) : r36_L0 call fuel base kp kr kx0 (n + 1) x0 x1 x5 m =
    (k2 (vcalln E.P base m .len [22] [x0]) fun v14_1 m => (k1n (mbin E .lss 3 x5 v14_1) fun v15_2 => (kb v15_2 (r36_L2 call fuel base (fun v m => kp v m) (fun y4_47 m => (kr y4_47 m)) (fun y0_48 y1_49 y5_50 m => (k1n (mbin E .add 3 y5_50 (.int .i64 1)) fun v17_51 => (r36_L0 call fuel base kp kr kx0 n y0_48 y1_49 v17_51 m))) fuel x0 x1 x5 (.int .i64 0) m) (kx0 x1 m)))) := by
  unfold r36_L0
  rw [k1_fun, vcall_fun]
theorem r9_L0_s (call : CallF) (fuel base : Nat) (kp : Value → M → Res2) (kr : Value → M → Res2) (kx0 : Value → Value → Value → M → Res2) (n : Nat) (x0 x3 x5 x7 x8 : Value) (m : M) : r9_L0 call fuel base kp kr kx0 (n + 1) x0 x3 x5 x7 x8 m =
    (k2 (vcalln E.P base m .len [43] [x5]) fun v56_29 m => (k1n (mbin E .lss 3 x8 v56_29) fun v57_30 => (kb v57_30 (k1n (mindexAddr E.P 43 x5 x8) fun v63_31 => (k1n (xload E.P m 22 v63_31) fun v64_32 => (kc (call base 24 [v64_32] m) (fun v65_33 m => (k1n (mextract 0 v65_33) fun v66_34 => (k1n (mextract 1 v65_33) fun v67_35 => (k1n (mbin E .neq 26 v67_35 (.int .i64 0)) fun v69_36 => (kb v69_36 (kr (.bool false) m) (k1n (mbin E .mul 3 x7 v66_34) fun v72_37 => (k1n (mbin E .add 3 x8 (.int .i64 1)) fun v59_38 => (r9_L0 call fuel base kp kr kx0 n x0 x3 x5 v72_37 v59_38 m)))))))) (fun v m => kp v m)))) (kx0 x0 x3 x7 m)))) := by
  unfold r9_L0
  rw [k1_fun, vcall_fun]
theorem without_ok {l : List ByteArray} {w h : Nat} {s g : B} (hr : readB l = some (w, h, s, g)) {c d : Nat × Nat} (hc : c.1 < w) (hd : d.1 < w) (hc2 : c.2 < h) (hd2 : d.2 < h) : ∃ g', readB (genL (dotF (byA l) c d) w h) = some (w, h, less2 s (8 * c.2 + c.1) (8 * d.2 + d.1), g') := by
  have H := readB_reg hr
  have hw := H.w8
  have hh := H.h8
  obtain ⟨c', g', e, hcc⟩ := readB_gen (dotF (byA l) c d) H.w1 H.w8 H.h1 H.h8 (fun y x hy hx => by
    unfold dotF
    split
    · exact .inr rfl
    · exact byA_two hr y x hx hy)
  refine ⟨g', ?_⟩
  rw [e]
  congr 4
  refine B_ext fun i hi => ?_
  rw [hcc i hi, less2_at (by omega) (by omega)]
  by_cases hx : i % 8 < w
  · by_cases hy : i / 8 < h
    · rw [decide_eq_true hx, decide_eq_true hy, Bool.true_and, Bool.true_and]
      unfold dotF
      by_cases e1 : i = 8 * c.2 + c.1
      · rw [if_pos (by omega), decide_eq_false (by omega), decide_eq_false (fun h => h e1)]
        simp
      · by_cases e2 : i = 8 * d.2 + d.1
        · rw [if_pos (by omega), decide_eq_false (by omega), decide_eq_true e1, decide_eq_false (fun h => h e2)]
          simp
        · rw [if_neg (by omega), byA_in H _ _ hx hy, show 8 * (i / 8) + i % 8 = i by omega, decide_eq_true e1, decide_eq_true e2, Bool.and_true, Bool.and_true]
    · cases hs : s.getLsbD i with
      | false => simp [hy]
      | true => exact absurd (H.rect.inn i hs).2 hy
  · cases hs : s.getLsbD i with
    | false => simp [hx]
    | true => exact absurd (H.rect.inn i hs).1 hx
theorem addN (a b : Nat) (h : a + b ≤ 9000000000) : mbin E .add 3 (vi a) (vi b) = some (vi ((a + b : Nat) : Int)) := by
  have e : mbin E .add 3 (vi a) (vi b) = some (vi (wr ((a : Int) + (b : Int)))) := rfl
  rw [e, wr_id (by omega) (by omega)]
  congr 2
structure Cal36 (call : CallF) (base : Nat) (v : Value) (l : List ByteArray) (w h : Nat) (s : B) : Prop where
  c47 : ∀ m x y, Strs m v l → call base 47 [v, vi x, vi y] m = some (.ret (.bool (inB s x y)), m)
  c67 : ∀ m (c d : Nat × Nat), base ≤ m.length → Strs m v l → c.1 < w → d.1 < w → ∃ v' m', call base 67 [v, .agg #[vi c.1, vi c.2], .agg #[vi d.1, vi d.2]] m = some (.ret v', m') ∧ Strs m' v' (genL (dotF (byA l) c d) w h) ∧ Keeps m.length m m'
  c24 : ∀ m v' l' w' h' c' g', readB l' = some (w', h', c', g') → Strs m v' l' → call base 24 [v'] m = some (.ret (.tuple #[vi (NT c' : Int), vi 0]), m)
theorem loop36b (call : CallF) (fuel base : Nat) (kp kr : Value → M → Res2) (kx : Value → Value → Value → M → Res2) {v : Value} {l : List ByteArray} {w h : Nat} {s g : B} (hr : readB l = some (w, h, s, g)) (C : Cal36 call base v l w h s) {m : M} (hb : base ≤ m.length) (hv : Strs m v l)
    {p0 : Nat} (hix : mindexAddr E.P 22 v (.int .i64 0) = some (pt p0 0)) {S : ByteArray} (hS : S.size = w) (hld : xload E.P m 9 (pt p0 0) = some (.string S))
    {y : Nat} (hy : y < h) (P : Res2 → Prop) (hkr : ∀ m', P (kr (.bool true) m')) (hkx : (∀ i, s.getLsbD i = true → 8 * y + 8 ≤ i) → P (kx v (vi (NT s : Int)) (vi y) m)) :
    ∀ (n x : Nat), x ≤ w → w < n + x → (∀ i, s.getLsbD i = true → 8 * y + x ≤ i) → P (r36_L2 call fuel base kp kr kx n v (vi (NT s : Int)) (vi y) (vi x) m)
  | 0, x, hx, hn, _ => by omega
  | n + 1, x, hx, hn, hlow => by
    have H := readB_reg hr
    have hw := H.w8
    have hh := H.h8
    have rc := fun i hi => H.rect.inn i hi
    rw [r36_L2_s, hix, k1s, hld, k1s, len9, k2s, hS, lss_nat, k1s]
    by_cases hlt : x < w
    · rw [decide_eq_true hlt, kbt, C.c47 m x y hv, kcs, mnot_b, k1s]
      cases hin : inB s (x : Int) (y : Int) with
      | false =>
        rw [Bool.not_false, kbt, add1 x (by omega), k1s]
        refine loop36b call fuel base kp kr kx hr C hb hv hix hS hld hy P hkr hkx n (x + 1) (by omega) (by omega) fun i hi => ?_
        have := hlow i hi
        rcases Nat.eq_or_lt_of_le this with e | e
        · have : inB s (x : Int) (y : Int) = true := (inB_iff _ _ _).2 ⟨by omega, by omega, by omega, by omega, by rw [show (8 * (y : Int) + (x : Int)).toNat = 8 * y + x by omega, e]; exact hi⟩
          rw [hin] at this
          simp at this
        · omega
      | true =>
        have hl : s.getLsbD (8 * y + x) = true := by
          have := ((inB_iff _ _ _).1 hin).2.2.2.2
          rwa [show (8 * (y : Int) + (x : Int)).toNat = 8 * y + x by omega] at this
        have hl6 := get_lt hl
        have hNT := NT_first hl (fun j hj => by
          cases e : s.getLsbD j with
          | false => rfl
          | true => have := hlow j e; omega)
        have i1 : inB s ((x + 1 : Nat) : Int) (y : Int) = decide ((8 * y + x) % 8 ≠ 7 ∧ s.getLsbD (8 * y + x + 1) = true) := by
          rw [Bool.eq_iff_iff, inB_iff, decide_eq_true_eq, show (8 * (y : Int) + ((x + 1 : Nat) : Int)).toNat = 8 * y + x + 1 by omega]
          constructor
          · rintro ⟨_, a, _, _, b⟩; exact ⟨by omega, b⟩
          · rintro ⟨a, b⟩; exact ⟨by omega, by omega, by omega, by omega, b⟩
        have i2 : inB s (x : Int) ((y + 1 : Nat) : Int) = decide (8 * y + x < 56 ∧ s.getLsbD (8 * y + x + 8) = true) := by
          rw [Bool.eq_iff_iff, inB_iff, decide_eq_true_eq, show (8 * ((y + 1 : Nat) : Int) + (x : Int)).toNat = 8 * y + x + 8 by omega]
          constructor
          · rintro ⟨_, _, _, a, b⟩; exact ⟨by omega, b⟩
          · rintro ⟨a, b⟩; exact ⟨by omega, by omega, by omega, by omega, b⟩
        have cnt : ∀ (m1 : M) (d : Nat × Nat), base ≤ m1.length → Strs m1 v l → d.1 < w → d.2 < h → ∃ m2, (∀ (K KP : Value → M → Res2), (kc (call base 67 [v, .agg #[vi x, vi y], .agg #[vi d.1, vi d.2]] m1) (fun v45 m => kc (call base 24 [v45] m) K KP) KP) = K (.tuple #[vi (NT (less2 s (8 * y + x) (8 * d.2 + d.1)) : Int), vi 0]) m2) ∧ base ≤ m2.length ∧ Strs m2 v l := fun m1 d hb1 hv1 hd1 hd2 => by
          obtain ⟨v', m2, e, hs', hk⟩ := C.c67 m1 (x, y) d hb1 hv1 hlt hd1
          obtain ⟨g', hr'⟩ := without_ok hr (c := (x, y)) (d := d) hlt hd1 hy hd2
          have e' : call base 67 [v, .agg #[vi x, vi y], .agg #[vi d.1, vi d.2]] m1 = some (.ret v', m2) := e
          refine ⟨m2, fun K KP => ?_, Nat.le_trans hb1 hk.1, hv1.keeps hk⟩
          rw [e', kcs, C.c24 m2 v' _ _ _ _ _ hr' hs', kcs]
        have b1 := nt_bound (less2 s (8 * y + x) (8 * y + x + 1))
        have b2 := nt_bound (less2 s (8 * y + x) (8 * y + x + 8))
        have z26 : mbin E .neq 26 (vi 0) (.int .i64 0) = some (.bool false) := n26s 0
        have fin : ∀ (a : Nat) (m1 : M), a ≤ 4294967296 → base ≤ m1.length → Strs m1 v l → NT s = a + (if 8 * y + x < 56 ∧ s.getLsbD (8 * y + x + 8) = true then NT (less2 s (8 * y + x) (8 * y + x + 8)) else 0) →
            P (k1n (mbin E .add 3 (vi y) (.int .i64 1)) fun v57_21 => (kc (call base 47 [v, vi x, v57_21] m1) (fun v58_22 m => (kb v58_22 (k1n (mbuild E.P 68 [(0, vi x), (1, vi y)]) fun v63_23 => (k1n (mbin E .add 3 (vi y) (.int .i64 1)) fun v66_24 => (k1n (mbuild E.P 68 [(0, vi x), (1, v66_24)]) fun v67_25 => (kc (call base 67 [v, v63_23, v67_25] m) (fun v68_26 m => (kc (call base 24 [v68_26] m) (fun v69_27 m => (k1n (mextract 0 v69_27) fun v70_28 => (k1n (mextract 1 v69_27) fun v71_29 => (k1n (mbin E .neq 26 v71_29 (.int .i64 0)) fun v73_30 => (kb v73_30 (kr (.bool false) m) (k1n (mbin E .add 3 (vi a) v70_28) fun v76_31 => (k1n (mbin E .eql 3 v76_31 (vi (NT s : Int))) fun v79_32 => (kr v79_32 m)))))))) (fun v m => kp v m))) (fun v m => kp v m))))) (k1n (mbin E .eql 3 (vi a) (vi (NT s : Int))) fun v79_33 => (kr v79_33 m)))) (fun v m => kp v m))) := fun a m1 ha hb1 hv1 hsum => by
          rw [add1 y (by omega), k1s, C.c47 m1 _ _ hv1, kcs, i2]
          by_cases hq : 8 * y + x < 56 ∧ s.getLsbD (8 * y + x + 8) = true
          · rw [if_pos hq] at hsum
            have hq2 := rc _ hq.2
            rw [decide_eq_true hq, kbt, b68, k1s, k1s, b68, k1s]
            obtain ⟨m2, e, hb2, hv2⟩ := cnt m1 (x, y + 1) hb1 hv1 hlt (by omega)
            have e8 : 8 * (y + 1) + x = 8 * y + x + 8 := by omega
            simp only [e8] at e
            rw [e, ex0, k1s, ex1, k1s, z26, k1s, kbf, addN _ _ (by omega), k1s, i_eql, k1s, decide_eq_true (by omega)]
            exact hkr m2
          · rw [if_neg hq] at hsum
            rw [decide_eq_false hq, kbf, i_eql, k1s, decide_eq_true (by omega)]
            exact hkr m1
        rw [Bool.not_true, kbf, add1 x (by omega), k1s, C.c47 m _ _ hv, kcs, i1]
        by_cases hq : (8 * y + x) % 8 ≠ 7 ∧ s.getLsbD (8 * y + x + 1) = true
        · rw [if_pos hq] at hNT
          have hq2 := rc _ hq.2
          rw [decide_eq_true hq, kbt, b68, k1s, k1s, b68, k1s]
          obtain ⟨m2, e, hb2, hv2⟩ := cnt m (x + 1, y) hb hv (by show x + 1 < w; omega) hy
          have e8 : 8 * y + (x + 1) = 8 * y + x + 1 := by omega
          simp only [e8] at e
          rw [e, ex0, k1s, ex1, k1s, z26, k1s, kbf, show (.int .i64 0 : Value) = vi ((0 : Nat) : Int) from rfl, addN _ _ (by omega), k1s]
          have h9 := fin (0 + NT (less2 s (8 * y + x) (8 * y + x + 1))) m2 (by omega) hb2 hv2 (by rw [Nat.zero_add]; exact hNT)
          rw [b68 x y, show (.int .i64 0 : Value) = vi ((0 : Nat) : Int) from rfl] at h9
          exact h9
        · rw [if_neg hq] at hNT
          rw [decide_eq_false hq, kbf]
          exact fin 0 m (by omega) hb hv hNT
    · have : x = w := by omega
      subst this
      rw [decide_eq_false hlt, kbf]
      refine hkx fun i hi => ?_
      have := rc i hi
      have := hlow i hi
      omega
theorem loop36 (call : CallF) (fuel base : Nat) (hfu : 20 ≤ fuel) (kp kr : Value → M → Res2) (kx : Value → M → Res2) {p : Nat} {l : List ByteArray} {w h : Nat} {s g : B} (hr : readB l = some (w, h, s, g)) (C : Cal36 call base (sl p l.length) l w h s) {m : M} (hb : base ≤ m.length) (hv : Strs m (sl p l.length) l)
    (P : Res2 → Prop) (hkr : ∀ m', P (kr (.bool true) m')) (hkx : NT s = 1 → P (kx (vi (NT s : Int)) m)) :
    ∀ (n y : Nat), y ≤ h → h < n + y → (∀ i, s.getLsbD i = true → 8 * y ≤ i) → P (r36_L0 call fuel base kp kr kx n (sl p l.length) (vi (NT s : Int)) (vi y) m)
  | 0, y, hy, hn, _ => by omega
  | n + 1, y, hy, hn, hlow => by
    have H := readB_reg hr
    have hlen := H.len
    have hw := H.w8
    have hh := H.h8
    have h1 := H.h1
    obtain ⟨row, hp, hrow⟩ : ∃ row, m[p]? = some row ∧ row.cells = l.map Value.string := by
      rcases hv with ⟨hz, _⟩ | ⟨p', row, a, b, d⟩
      · rw [hz] at hlen; simp at hlen; omega
      · have := sl_inj a
        subst this
        exact ⟨row, b, d⟩
    have h0 : 0 < l.length := by omega
    have hld : xload E.P m 9 (pt p 0) = some (.string l[0]) := strs_ld hp hrow h0
    have hix : mindexAddr E.P 22 (sl p l.length) (.int .i64 0) = some (pt p 0) := ix22 p l.length l.length 0 h0
    rw [r36_L0_s, len22, k2s, lss_nat, k1s]
    by_cases hlt : y < h
    · rw [decide_eq_true (by omega), kbt, show (.int .i64 0 : Value) = vi ((0 : Nat) : Int) from rfl]
      refine loop36b call fuel base _ _ _ hr C hb hv hix (H.sz _ (List.getElem_mem h0)) hld hlt P hkr (fun hl2 => ?_) fuel 0 (by omega) (by omega) (fun i hi => by have := hlow i hi; omega)
      show P (k1n (mbin E .add 3 (vi y) (.int .i64 1)) _)
      rw [add1 y (by omega), k1s]
      exact loop36 call fuel base hfu kp kr kx hr C hb hv P hkr hkx n (y + 1) (by omega) (by omega) (fun i hi => by have := hl2 i hi; omega)
    · rw [decide_eq_false (by omega), kbf]
      refine hkx ?_
      have : s = 0 := B_zero fun i _ => by
        cases e : s.getLsbD i with
        | false => rfl
        | true => have := hlow i e; have := H.rect.inn i e; omega
      rw [this, NT_zero]
theorem cal36 (n base : Nat) {v : Value} {l : List ByteArray} {w h : Nat} {s g : B} (hr : readB l = some (w, h, s, g)) : Cal36 (rt (n + 70)) base v l w h s := by
  have H := readB_reg hr
  refine ⟨fun m x y hv => t47 (n + 69) base H hv x y, fun m c d hb hv hc hd => t67 (n + 10) base hb H hv c d hc hd, fun m v' l' w' h' c' g' hr' hv' => ?_⟩
  have H' := readB_reg hr'
  have e := t24 (n + 50) base (by rw [H'.len]; have := H'.h8; omega) (fun b hb => by rw [H'.sz b hb]; have := H'.w8; omega) hv'
  unfold cntR at e
  rw [hr'] at e
  exact e
theorem t36 (n base : Nat) {m : M} {v : Value} {l : List ByteArray} {w h : Nat} {s g : B} (hr : readB l = some (w, h, s, g)) (hv : Strs m v l) :
    rt (n + 90) base 36 [v, vi (NT s : Int)] m = some (.ret (.bool true), m) := by
  have H := readB_reg hr
  obtain ⟨p, rfl⟩ : ∃ p, v = sl p l.length := by
    rcases hv with ⟨hz, _⟩ | ⟨p, row, a, b, d⟩
    · have := H.len; have := H.h1; rw [hz] at *; simp at *; omega
    · exact ⟨p, a⟩
  suffices hs : ∃ m1, r36 (rt (n + 89)) (n + 89) m.length (sl p l.length) (vi (NT s : Int)) m = some (.ret (.bool true), m1) by
    obtain ⟨m1, hs⟩ := hs
    exact rt_pure (f := 36) (rf := rf36) (by kernel_rfl) (by kernel_rfl) (by kernel_rfl) (n + 89) base _ m m1 _ hs rfl
  unfold r36
  rw [k1_fun, fVal_fun, show (.int .i64 0 : Value) = vi ((0 : Nat) : Int) from rfl]
  refine loop36 (rt (n + 89)) (n + 89) m.length (by omega) _ _ _ hr (cal36 (n + 19) m.length hr) (Nat.le_refl _) hv (fun r => ∃ m', r = some (.ret (.bool true), m')) (fun m' => ⟨m', rfl⟩) (fun h1 => ?_) (n + 89) 0 (by omega) (by have := H.h8; omega) (fun i _ => by omega)
  rw [show (.int .i64 1 : Value) = vi 1 from rfl, i_eql, k1s, decide_eq_true (by omega)]
  exact ⟨m, rfl⟩
end Go.AM
