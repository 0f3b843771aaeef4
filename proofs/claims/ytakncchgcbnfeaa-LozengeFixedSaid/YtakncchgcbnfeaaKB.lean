import Derived.KernelRfl
import Derived.Laws.BytesArg
import Derived.Laws.StructEq
import Derived.RangeFuncLeaves
import Derived.RangeFuncRecord
import Derived.Test.YtakncchgcbnfeaaProg
import Derived.Test.YtakncchgcbnfeaaRows
import Derived.WalkKit
import Derived.Test.YtakncchgcbnfeaaAmB
import Derived.Test.YtakncchgcbnfeaaAmG
import Derived.Test.YtakncchgcbnfeaaAmModel
import Derived.Test.YtakncchgcbnfeaaAmRel
import Derived.Test.YtakncchgcbnfeaaAmOps6
import Derived.Test.YtakncchgcbnfeaaAmCode
import Derived.Test.YtakncchgcbnfeaaAmDraw5
import Derived.Test.YtakncchgcbnfeaaAmEq
import Derived.Test.YtakncchgcbnfeaaRBase
import Derived.Test.YtakncchgcbnfeaaR70
import Derived.Test.YtakncchgcbnfeaaWd
import Derived.Test.YtakncchgcbnfeaaAmS
import Derived.Test.YtakncchgcbnfeaaS16
import Derived.Test.YtakncchgcbnfeaaLM1
import Derived.Test.YtakncchgcbnfeaaLM3
import Derived.Test.YtakncchgcbnfeaaS48
import Derived.Test.YtakncchgcbnfeaaS49
import Derived.Test.YtakncchgcbnfeaaS50
import Derived.Test.YtakncchgcbnfeaaS17
set_option linter.unusedVariables false
set_option linter.unusedSimpArgs false
set_option linter.unusedSectionVars false
namespace Go.AM
open Go Go.Proofs
/-- The cells of a pile. -/
abbrev plC (A B C : Int) (f : Nat → Nat → Int) : List Value := [vi A, vi B, vi C, vi (f 0 0), vi (f 0 1), vi (f 0 2), vi (f 0 3), vi (f 1 0), vi (f 1 1), vi (f 1 2), vi (f 1 3), vi (f 2 0), vi (f 2 1), vi (f 2 2), vi (f 2 3), vi (f 3 0), vi (f 3 1), vi (f 3 2), vi (f 3 3)]
abbrev plV (A B C : Int) (f : Nat → Nat → Int) : Value := .agg #[vi A, vi B, vi C, vi (f 0 0), vi (f 0 1), vi (f 0 2), vi (f 0 3), vi (f 1 0), vi (f 1 1), vi (f 1 2), vi (f 1 3), vi (f 2 0), vi (f 2 1), vi (f 2 2), vi (f 2 3), vi (f 3 0), vi (f 3 1), vi (f 3 2), vi (f 3 3)]
/-- A row. -/
abbrev rwC (g : Nat → Int) : List Value := [vi (g 0), vi (g 1), vi (g 2), vi (g 3)]
abbrev rwV (g : Nat → Int) : Value := .agg #[vi (g 0), vi (g 1), vi (g 2), vi (g 3)]
theorem lt4 {i : Nat} (h : i < 4) : i = 0 ∨ i = 1 ∨ i = 2 ∨ i = 3 := by omega
def upd (f : Nat → Nat → Int) (i j : Nat) (x : Int) : Nat → Nat → Int := fun a b => if a = i ∧ b = j then x else f a b
theorem plC_get {A B C : Int} {f : Nat → Nat → Int} {i j : Nat} (hi : i < 4) (hj : j < 4) : (plC A B C f)[3 + i * 4 + j]? = some (vi (f i j)) := by
  rcases lt4 hi with rfl | rfl | rfl | rfl <;> rcases lt4 hj with rfl | rfl | rfl | rfl <;> rfl
theorem plC_set {A B C : Int} {f : Nat → Nat → Int} {i j : Nat} (hi : i < 4) (hj : j < 4) (x : Int) : (plC A B C f).set (3 + i * 4 + j) (vi x) = plC A B C (upd f i j x) := by
  rcases lt4 hi with rfl | rfl | rfl | rfl <;> rcases lt4 hj with rfl | rfl | rfl | rfl <;> rfl
theorem plC_row {A B C : Int} {f : Nat → Nat → Int} {i : Nat} (hi : i < 4) : ((plC A B C f).drop (3 + i * 4)).take 4 = rwC (f i) := by
  rcases lt4 hi with rfl | rfl | rfl | rfl <;> rfl
def updR (f : Nat → Nat → Int) (i : Nat) (g : Nat → Int) : Nat → Nat → Int := fun a b => if a = i then g b else f a b
theorem plC_splice {A B C : Int} {f : Nat → Nat → Int} {i : Nat} (hi : i < 4) (g : Nat → Int) : splice (plC A B C f) (3 + i * 4) (rwC g) = plC A B C (updR f i g) := by
  rcases lt4 hi with rfl | rfl | rfl | rfl <;> rfl
theorem plV_box (A B C : Int) : mbuild E.P 79 [(0, boxV A B C)] = some (plV A B C fun _ _ => 0) := by kernel_rfl
theorem bx79 (m : M) (A B C : Int) (f : Nat → Nat → Int) : xbox m (plV A B C f) = some (pt m.length 0, m ++ [cellR (plC A B C f)]) := by
  have e : xbox m (plV A B C f) = xlen m fun k => xpush m (cellR (plC A B C f)) fun m' => some (pt k 0, m') := by kernel_rfl
  rw [e, xlen_eq, fNat_eq, xpush_eq, fList_eq]
theorem bx23 (m : M) (A B C : Int) : xbox m (boxV A B C) = some (pt m.length 0, m ++ [cellR [vi A, vi B, vi C]]) := bxa3 m _ _ _
theorem bx76 (m : M) (g : Nat → Int) : xbox m (rwV g) = some (pt m.length 0, m ++ [cellR (rwC g)]) := bxa4 m _ _ _ _
theorem al79 (m : M) : xalloc E.P m 79 = some (pt m.length 0, m ++ [cellR (plC 0 0 0 fun _ _ => 0)]) := by
  have e : xalloc E.P m 79 = xlen m fun k => xpush m (cellR (plC 0 0 0 fun _ _ => 0)) fun m' => some (pt k 0, m') := by kernel_rfl
  rw [e, xlen_eq, fNat_eq, xpush_eq, fList_eq]
theorem al76 (m : M) : xalloc E.P m 76 = some (pt m.length 0, m ++ [cellR (rwC fun _ => 0)]) := by
  have e : xalloc E.P m 76 = xlen m fun k => xpush m (cellR (rwC fun _ => 0)) fun m' => some (pt k 0, m') := by kernel_rfl
  rw [e, xlen_eq, fNat_eq, xpush_eq, fList_eq]
theorem al3 (m : M) : xalloc E.P m 3 = some (pt m.length 0, m ++ [cellR [vi 0]]) := by
  have e : xalloc E.P m 3 = xlen m fun k => xpush m (cellR [vi 0]) fun m' => some (pt k 0, m') := by kernel_rfl
  rw [e, xlen_eq, fNat_eq, xpush_eq, fList_eq]
theorem ld79 {m : M} {r : Nat} {A B C : Int} {f : Nat → Nat → Int} (h : m[r]? = some (cellR (plC A B C f))) : xload E.P m 79 (pt r 0) = some (plV A B C f) := by
  have e : xload E.P m 79 (pt r 0) = (xread m r 0 19).map fun cs => .agg cs.toArray := by kernel_rfl
  rw [e, xread_eq]
  unfold mread
  rw [h]
  rfl
theorem ml79 {m : M} {r : Nat} {A B C : Int} {f : Nat → Nat → Int} (h : m[r]? = some (cellR (plC A B C f))) : mload E.P m 79 (pt r 0) = some (plV A B C f) := by
  have e : mload E.P m 79 (pt r 0) = (mread m r 0 19).map fun cs => .agg cs.toArray := by kernel_rfl
  rw [e]
  unfold mread
  rw [h]
  rfl
theorem st79 {base : Nat} {m : M} {p : Nat} (hb : base ≤ p) {A B C A' B' C' : Int} {f f' : Nat → Nat → Int} (h : m[p]? = some (cellR (plC A' B' C' f'))) : xstore E.P base m 79 (pt p 0) (plV A B C f) = some (m.set p (cellR (plC A B C f))) := by
  have e : xstore E.P base m 79 (pt p 0) (plV A B C f) = xwrite base m p 0 (plC A B C f) := by kernel_rfl
  rw [e, xwrite_eq]
  unfold mwrite
  rw [if_neg (by omega), h]
  simp only [fList_eq]
  rfl
theorem st23v {base : Nat} {m : M} {p : Nat} (hb : base ≤ p) {A B C A' B' C' : Int} (h : m[p]? = some (cellR [vi A', vi B', vi C'])) : xstore E.P base m 23 (pt p 0) (boxV A B C) = some (m.set p (cellR [vi A, vi B, vi C])) := by
  have e : xstore E.P base m 23 (pt p 0) (boxV A B C) = xwrite base m p 0 [vi A, vi B, vi C] := by kernel_rfl
  rw [e, xwrite_eq]
  unfold mwrite
  rw [if_neg (by omega), h]
  simp only [fList_eq]
  rfl
theorem ldp23 {m : M} {r : Nat} {A B C : Int} {f : Nat → Nat → Int} (h : m[r]? = some (cellR (plC A B C f))) : xload E.P m 23 (pt r 0) = some (boxV A B C) := by
  have e : xload E.P m 23 (pt r 0) = (xread m r 0 3).map fun cs => .agg cs.toArray := by kernel_rfl
  rw [e, xread_eq]
  unfold mread
  rw [h]
  rfl
theorem ld76 {m : M} {r off : Nat} {row : Row} {g : Nat → Int} (h : m[r]? = some row) (hc : (row.cells.drop off).take 4 = rwC g) : xload E.P m 76 (pt r off) = some (rwV g) := by
  have e : xload E.P m 76 (pt r off) = (xread m r off 4).map fun cs => .agg cs.toArray := by kernel_rfl
  rw [e, xread_eq]
  unfold mread
  rw [h]
  have hl : off + 4 ≤ row.cells.length := by
    have := congrArg List.length hc
    simp at this
    omega
  simp only
  rw [if_pos hl, hc]
  rfl
theorem ldb76 {m : M} {r : Nat} {g : Nat → Int} (h : m[r]? = some (cellR (rwC g))) : xload E.P m 76 (pt r 0) = some (rwV g) := ld76 h rfl
theorem st76 {base : Nat} {m : M} {p : Nat} (hb : base ≤ p) {g g' : Nat → Int} (h : m[p]? = some (cellR (rwC g'))) : xstore E.P base m 76 (pt p 0) (rwV g) = some (m.set p (cellR (rwC g))) := by
  have e : xstore E.P base m 76 (pt p 0) (rwV g) = xwrite base m p 0 (rwC g) := by kernel_rfl
  rw [e, xwrite_eq]
  unfold mwrite
  rw [if_neg (by omega), h]
  simp only [fList_eq]
  rfl
theorem ff79_1 (p o : Nat) : mfieldAddr E.P 79 (pt p o) 1 = some (pt p (o + 3)) := by kernel_rfl
theorem ixp77 (p o : Nat) (i : Nat) (h : i < 4) : mindexAddr E.P 77 (pt p o) (vi i) = some (pt p (o + i * 4)) := by
  have e : mindexAddr E.P 77 (pt p o) (vi i) = if 0 ≤ (i : Int) ∧ (i : Int) < ((4 : Nat) : Int) then some (.pointer (some ⟨p, o + ((i : Int)).toNat * 4, none⟩)) else none := by kernel_rfl
  rw [e, if_pos (by omega)]
  simp
theorem ixp76 (p o : Nat) (i : Nat) (h : i < 4) : mindexAddr E.P 76 (pt p o) (vi i) = some (pt p (o + i)) := by
  have e : mindexAddr E.P 76 (pt p o) (vi i) = if 0 ≤ (i : Int) ∧ (i : Int) < ((4 : Nat) : Int) then some (.pointer (some ⟨p, o + ((i : Int)).toNat * 1, none⟩)) else none := by kernel_rfl
  rw [e, if_pos (by omega)]
  simp
theorem t75 (n base : Nat) (c : Int) (m : M) : rt (n + 1) base 75 [vi c] m = some (.ret (.bool (sideOk c)), m) := by
  refine rt_pure (f := 75) (rf := rf75) (by kernel_rfl) (by kernel_rfl) (by kernel_rfl) n base _ m m _ ?_ rfl
  show r75 (rt n) n m.length (vi c) m = _
  unfold r75 sideOk
  rw [k1_fun, fVal_fun, show (.int .i64 1 : Value) = vi 1 from rfl, show (.int .i64 4 : Value) = vi 4 from rfl, leq3, k1s]
  by_cases h : 1 ≤ c
  · rw [decide_eq_true h, kbt, leq3, k1s]; rfl
  · rw [decide_eq_false h, kbf]; rfl
theorem cell_new {m : M} {cs : List Value} {j : Nat} {v : Value} (h : cs[j]? = some v) : mcell (m ++ [cellR cs]) m.length j = some v := by
  unfold mcell
  rw [List.getElem?_append_right (Nat.le_refl _), Nat.sub_self]
  exact h
theorem get_new {m : M} {cs : List Value} : (m ++ [cellR cs])[m.length]? = some (cellR cs) := by simp
theorem t47 (n base : Nat) (A B C : Int) (m : M) : rt (n + 2) base 47 [boxV A B C] m = some (.ret (.bool (boxOk A B C)), m) := by
  refine rt_pure (f := 47) (rf := rf47) (by kernel_rfl) (by kernel_rfl) (by kernel_rfl) (n + 1) base _ m (m ++ [cellR [vi A, vi B, vi C]]) _ ?_ rfl
  show r47 (rt (n + 1)) (n + 1) m.length (boxV A B C) m = _
  unfold r47 boxOk
  rw [k1_fun, fVal_fun, bx23, k2s, ff23_0, k1s, ld3, cell_new rfl, k1s, t75, kcs]
  cases sideOk A with
  | false => rw [kbf]; rfl
  | true =>
    rw [kbt, ff23_1, k1s, ld3, cell_new rfl, k1s, t75, kcs]
    cases sideOk B with
    | false => rw [kbf]; rfl
    | true =>
      rw [kbt, ff23_2, k1s, ld3, cell_new rfl, k1s, t75, kcs]
      rfl
end Go.AM
namespace Go.AM
open Go Go.Proofs
theorem r26_L2_s (call : CallF) (fuel base : Nat) (kr : Value → M → Res2) (kx2 : Value → Value → Value → M → Res2) (n : Nat) (x0 x1 x5 x6 : Value) (m : M) : r26_L2 call fuel base kr kx2 (n + 1) x0 x1 x5 x6 m =
    (k1n (mindexAddr E.P 33 x0 x5) fun v32_13 => (k1n (xload E.P m 27 v32_13) fun v33_14 => (k2 (vcalln E.P base m .len [27] [v33_14]) fun v34_15 m => (k1n (mbin E .lss 3 x6 v34_15) fun v35_16 => (kb v35_16 (k1n (mindexAddr E.P 33 x0 x5) fun v40_17 => (k1n (xload E.P m 27 v40_17) fun v41_18 => (k1n (mindexAddr E.P 27 v41_18 x6) fun v43_19 => (k1n (xload E.P m 3 v43_19) fun v44_20 => (k1n (mindexAddr E.P 33 x1 x5) fun v47_21 => (k1n (xload E.P m 27 v47_21) fun v48_22 => (k1n (mindexAddr E.P 27 v48_22 x6) fun v50_23 => (k1n (xload E.P m 3 v50_23) fun v51_24 => (k1n (mbin E .neq 3 v44_20 v51_24) fun v52_25 => (kb v52_25 (kr (.bool false) m) (k1n (mbin E .add 3 x6 (.int .i64 1)) fun v37_26 => (r26_L2 call fuel base kr kx2 n x0 x1 x5 v37_26 m)))))))))))) (kx2 x0 x1 x5 m)))))) := by
  unfold r26_L2
  rw [k1_fun, vcall_fun]
theorem r26_L0_s (call : CallF) (fuel base : Nat) (kr : Value → M → Res2) (kx0 : M → Res2) (n : Nat) (x0 x1 x5 : Value) (m : M) : r26_L0 call fuel base kr kx0 (n + 1) x0 x1 x5 m =
    (k2 (vcalln E.P base m .len [33] [x0]) fun v14_4 m => (k1n (mbin E .lss 3 x5 v14_4) fun v15_5 => (kb v15_5 (k1n (mindexAddr E.P 33 x0 x5) fun v20_6 => (k1n (xload E.P m 27 v20_6) fun v21_7 => (k2 (vcalln E.P base m .len [27] [v21_7]) fun v22_8 m => (k1n (mindexAddr E.P 33 x1 x5) fun v25_9 => (k1n (xload E.P m 27 v25_9) fun v26_10 => (k2 (vcalln E.P base m .len [27] [v26_10]) fun v27_11 m => (k1n (mbin E .neq 3 v22_8 v27_11) fun v28_12 => (kb v28_12 (kr (.bool false) m) (r26_L2 call fuel base (fun y4_27 m => (kr y4_27 m)) (fun y0_28 y1_29 y5_30 m => (k1n (mbin E .add 3 y5_30 (.int .i64 1)) fun v17_31 => (r26_L0 call fuel base kr kx0 n y0_28 y1_29 v17_31 m))) fuel x0 x1 x5 (.int .i64 0) m))))))))) (kx0 m)))) := by
  unfold r26_L0
  rw [k1_fun, vcall_fun]
theorem r44_L2_s (call : CallF) (fuel base : Nat) (kx2 : M → Res2) (n : Nat) (x1 x2 x8 : Value) (m : M) : r44_L2 call fuel base kx2 (n + 1) x1 x2 x8 m =
    (k1n (mfieldAddr E.P 23 x2 0) fun v52_29 => (k1n (xload E.P m 3 v52_29) fun v53_30 => (k1n (mfieldAddr E.P 23 x2 1) fun v54_31 => (k1n (xload E.P m 3 v54_31) fun v55_32 => (k1n (mbin E .mul 3 v53_30 v55_32) fun v56_33 => (k1n (mbin E .lss 3 x8 v56_33) fun v57_34 => (kb v57_34 (k1n (mfieldAddr E.P 23 x2 1) fun v62_35 => (k1n (xload E.P m 3 v62_35) fun v63_36 => (k1n (mbin E .quo 3 x8 v63_36) fun v64_37 => (k1n (mindexAddr E.P 33 x1 v64_37) fun v65_38 => (k1n (xload E.P m 27 v65_38) fun v66_39 => (k1n (mfieldAddr E.P 23 x2 1) fun v68_40 => (k1n (xload E.P m 3 v68_40) fun v69_41 => (k1n (mbin E .rem 3 x8 v69_41) fun v70_42 => (k1n (mindexAddr E.P 27 v66_39 v70_42) fun v71_43 => (ks (xstore E.P base m 3 v71_43 (.int .i64 0)) fun m => (k1n (mbin E .add 3 x8 (.int .i64 1)) fun v59_44 => (r44_L2 call fuel base kx2 n x1 x2 v59_44 m)))))))))))) (kx2 m)))))))) := by
  unfold r44_L2
  rw [k1_fun]
theorem r44_L0_s (call : CallF) (fuel base : Nat) (kr : Value → M → Res2) (kx0 : M → Res2) (n : Nat) (x1 x2 x5 : Value) (m : M) : r44_L0 call fuel base kr kx0 (n + 1) x1 x2 x5 m =
    (k1n (mbin E .geq 3 x5 (.int .i64 0)) fun v16_8 => (kb v16_8 (k1n (mfieldAddr E.P 23 x2 1) fun v20_9 => (k1n (xload E.P m 3 v20_9) fun v21_10 => (k1n (mbin E .quo 3 x5 v21_10) fun v22_11 => (k1n (mfieldAddr E.P 23 x2 1) fun v24_12 => (k1n (xload E.P m 3 v24_12) fun v25_13 => (k1n (mbin E .rem 3 x5 v25_13) fun v26_14 => (k1n (mindexAddr E.P 33 x1 v22_11) fun v29_15 => (k1n (xload E.P m 27 v29_15) fun v30_16 => (k1n (mindexAddr E.P 27 v30_16 v26_14) fun v32_17 => (k1n (xload E.P m 3 v32_17) fun v33_18 => (k1n (xload E.P m 23 x2) fun v34_19 => (kc (kB m (call m.length 74 [v34_19, x1, v22_11, v26_14] m)) (fun v38_20 m => (k1n (mbin E .lss 3 v33_18 v38_20) fun v39_21 => (kb v39_21 (k1n (mindexAddr E.P 33 x1 v22_11) fun v42_22 => (k1n (xload E.P m 27 v42_22) fun v43_23 => (k1n (mindexAddr E.P 27 v43_23 v26_14) fun v45_24 => (k1n (xload E.P m 3 v45_24) fun v46_25 => (k1n (mbin E .add 3 v46_25 (.int .i64 1)) fun v47_26 => (k1n (mindexAddr E.P 27 v43_23 v26_14) fun v48_27 => (ks (xstore E.P base m 3 v48_27 v47_26) fun m => (k1n (mbin E .add 3 x5 (.int .i64 1)) fun v50_28 => (r44_L2 call fuel base (fun m => (kr (.bool true) m)) fuel x1 x2 v50_28 m))))))))) (k1n (mbin E .sub 3 x5 (.int .i64 1)) fun v18_45 => (r44_L0 call fuel base kr kx0 n x1 x2 v18_45 m))))) (fun _ _ => none))))))))))))) (kx0 m))) := by
  unfold r44_L0
  rw [k1_fun]
theorem r54_L0_s (call : CallF) (fuel base : Nat) (kx0 : Value → M → Res2) (n : Nat) (x1 x3 x4 : Value) (m : M) : r54_L0 call fuel base kx0 (n + 1) x1 x3 x4 m =
    (k1n (mfieldAddr E.P 23 x1 0) fun v6_2 => (k1n (xload E.P m 3 v6_2) fun v7_3 => (k1n (mbin E .lss 3 x4 v7_3) fun v8_4 => (kb v8_4 (k1n (mfieldAddr E.P 23 x1 1) fun v12_5 => (k1n (xload E.P m 3 v12_5) fun v13_6 => (k2 (xmakeSlice E.P m 27 v13_6 v13_6) fun v14_7 m => (k2 (xbuildSlice E.P m 33 1 [(0, v14_7)]) fun v15_8 m => (k2 (vcalln E.P base m .append [33, 33] [x3, v15_8]) fun v16_9 m => (k1n (mbin E .add 3 x4 (.int .i64 1)) fun v10_10 => (r54_L0 call fuel base kx0 n x1 v16_9 v10_10 m))))))) (kx0 x3 m))))) := by
  unfold r54_L0
  rw [k1_fun, vcall_fun]
theorem r85_L2_s (call : CallF) (fuel base : Nat) (kx2 : Value → Value → Value → Value → Value → Value → M → Res2) (n : Nat) (x1 x2 x4 x5 x6 x11 x12 x16 x17 : Value) (m : M) : r85_L2 call fuel base kx2 (n + 1) x1 x2 x4 x5 x6 x11 x12 x16 x17 m =
    (k1n (mbin E .lss 3 x17 x16) fun v18_11 => (kb v18_11 (kc (kB m (kv call m.length x1 [x6, x17] m)) (fun v25_12 m => (k1n (mfieldAddr E.P 79 x5 1) fun v26_13 => (k1n (mindexAddr E.P 77 v26_13 x6) fun v27_14 => (k1n (mindexAddr E.P 76 v27_14 x17) fun v28_15 => (ks (xstore E.P base m 3 v28_15 v25_12) fun m => (k1n (mbin E .add 3 x17 (.int .i64 1)) fun v29_16 => (r85_L2 call fuel base kx2 n x1 x2 x4 x5 x6 x11 x12 x16 v29_16 m))))))) (fun _ _ => none)) (kx2 x1 x2 x4 x5 x11 x12 m))) := by
  unfold r85_L2
  rw [k1_fun]
theorem r85_L0_s (call : CallF) (fuel base : Nat) (kx0 : Value → Value → M → Res2) (n : Nat) (x1 x2 x4 x5 x11 x12 : Value) (m : M) : r85_L0 call fuel base kx0 (n + 1) x1 x2 x4 x5 x11 x12 m =
    (k1n (mbin E .lss 3 x12 x11) fun v13_8 => (kb v13_8 (k1n (mfieldAddr E.P 23 x2 1) fun v15_9 => (k1n (xload E.P m 3 v15_9) fun v16_10 => (r85_L2 call fuel base (fun y1_17 y2_18 y4_19 y5_20 y11_21 y12_22 m => (k1n (mbin E .add 3 y12_22 (.int .i64 1)) fun v30_23 => (r85_L0 call fuel base kx0 n y1_17 y2_18 y4_19 y5_20 y11_21 v30_23 m))) fuel x1 x2 x4 x5 x12 x11 x12 v16_10 (.int .i64 0) m))) (kx0 x4 x5 m))) := by
  unfold r85_L0
  rw [k1_fun]
theorem r89_L0_s (call : CallF) (fuel base : Nat) (kx0 : Value → M → Res2) (n : Nat) (x1 x5 x8 x9 : Value) (m : M) : r89_L0 call fuel base kx0 (n + 1) x1 x5 x8 x9 m =
    (k1n (mbin E .lss 3 x9 (.int .i64 4)) fun v10_3 => (kb v10_3 (k1n (mindex E.P 76 x8 x9) fun v11_4 => (k1n (mbin E .gtr 3 v11_4 x1) fun v14_5 => (kb v14_5 (k1n (mbin E .add 3 x5 (.int .i64 1)) fun v16_6 => (k1n (mbin E .add 3 x9 (.int .i64 1)) fun v17_7 => (r89_L0 call fuel base kx0 n x1 v16_6 x8 v17_7 m))) (k1n (mbin E .add 3 x9 (.int .i64 1)) fun v17_8 => (r89_L0 call fuel base kx0 n x1 x5 x8 v17_8 m))))) (kx0 x5 m))) := by
  unfold r89_L0
  rw [k1_fun]
theorem r103_L0_s (call : CallF) (fuel base : Nat) (kr : Value → M → Res2) (kx0 : M → Res2) (n : Nat) (x3 x7 x8 : Value) (m : M) : r103_L0 call fuel base kr kx0 (n + 1) x3 x7 x8 m =
    (k1n (mbin E .lss 3 x8 (.int .i64 4)) fun v9_4 => (kb v9_4 (k1n (mindex E.P 76 x7 x8) fun v11_5 => (k1n (mindexAddr E.P 76 x3 x8) fun v14_6 => (k1n (xload E.P m 3 v14_6) fun v15_7 => (k1n (mbin E .gtr 3 v11_5 v15_7) fun v16_8 => (kb v16_8 (kr (.bool false) m) (k1n (mbin E .add 3 x8 (.int .i64 1)) fun v17_9 => (r103_L0 call fuel base kr kx0 n x3 x7 v17_9 m))))))) (kx0 m))) := by
  unfold r103_L0
  rw [k1_fun]
end Go.AM
namespace Go.AM
open Go Go.Proofs
abbrev hrow (b : List (List Int)) (y : Nat) : List Int := b.getD y []
abbrev hcl (b : List (List Int)) (y x : Nat) : Int := (hrow b y).getD x 0
theorem Ints.getD {m : M} {v : Value} {l : List Int} (h : Ints m v l) {j : Nat} (hj : j < l.length) (K : Value → Res2) : (k1n (mindexAddr E.P 27 v (vi j)) fun a => k1n (xload E.P m 3 a) K) = K (vi (l.getD j 0)) := by
  rw [h.get hj]; simp [hj]
theorem Mats.getD {m : M} {v : Value} {l : List (List Int)} (h : Mats m v l) {j : Nat} (hj : j < l.length) : ∃ u, Ints m u (l.getD j []) ∧ ∀ K : Value → Res2, (k1n (mindexAddr E.P 33 v (vi j)) fun a => k1n (xload E.P m 27 a) K) = K u := by
  obtain ⟨u, h1, h2⟩ := h.get hj
  exact ⟨u, by simpa [hj] using h1, h2⟩
theorem sub1 (j : Nat) (h : 1 ≤ j) (h2 : j ≤ 1000000) : mbin E .sub 3 (vi j) (.int .i64 1) = some (vi ((j - 1 : Nat) : Int)) := by
  have e : mbin E .sub 3 (vi j) (.int .i64 1) = some (vi (wr ((j : Int) - 1))) := rfl
  rw [e, wr_id (by omega) (by omega)]; congr 2; omega
theorem natdec (a b : Nat) : decide ((a : Int) = b) = decide (a = b) := decide_eq_decide.2 (by omega)
def atP (A B C : Int) (f : Nat → Nat → Int) (i j : Int) : Int := if i < 0 ∨ j < 0 then C else if A ≤ i ∨ B ≤ j then 0 else f i.toNat j.toNat
theorem mn3 (base : Nat) (m : M) (a b : Int) : vcalln E.P base m .min [3, 3] [vi a, vi b] = some (vi (min a b), m) := by
  have e : vcalln E.P base m .min [3, 3] [vi a, vi b] = some (vi (if b < a then b else a), m) := by kernel_rfl
  rw [e]
  congr 3
  split
  · rw [Int.min_eq_right (by omega)]
  · rw [Int.min_eq_left (by omega)]
def leastP (A B C : Int) (f : Nat → Nat → Int) (i j : Int) : Int := max (atP A B C f (i + 1) j) (atP A B C f i (j + 1))
theorem ixv76 (g : Nat → Int) (j : Nat) (h : j < 4) : mindex E.P 76 (rwV g) (vi j) = some (vi (g j)) := by
  rcases lt4 h with rfl | rfl | rfl | rfl <;> kernel_rfl
theorem rwC_get {g : Nat → Int} {j : Nat} (h : j < 4) : (rwC g)[j]? = some (vi (g j)) := by
  rcases lt4 h with rfl | rfl | rfl | rfl <;> rfl
def fitsF (g h : Nat → Int) : Bool := allFrom (fun j => !decide (g j > h j)) 4 0
theorem loop103 (call : CallF) (fuel base : Nat) (kr : Value → M → Res2) (kx : M → Res2) {m : M} {p : Nat} {g h : Nat → Int} (hp : m[p]? = some (cellR (rwC h))) :
    ∀ (n j : Nat), j ≤ 4 → 5 ≤ n + j → r103_L0 call fuel base kr kx n (pt p 0) (rwV g) (vi j) m = if allFrom (fun j => !decide (g j > h j)) (4 - j) j then kx m else kr (.bool false) m
  | 0, j, hj, hn => by omega
  | n + 1, j, hj, hn => by
    rw [r103_L0_s, show (.int .i64 4 : Value) = vi ((4 : Nat) : Int) from rfl, lss_nat, k1s]
    by_cases hlt : j < 4
    · rw [decide_eq_true hlt, kbt, ixv76 g j hlt, k1s, ixp76 _ _ j hlt, k1s, ld3, Nat.zero_add, box_cell hp j _ (rwC_get hlt), k1s, gtr3, k1s, show 4 - j = (4 - (j + 1)) + 1 by omega, allFrom_succ]
      by_cases h1 : g j > h j
      · rw [decide_eq_true h1, kbt]; rfl
      · rw [decide_eq_false h1, kbf, add1 j (by omega), k1s, loop103 call fuel base kr kx hp n (j + 1) (by omega) (by omega)]; rfl
    · rw [decide_eq_false hlt, kbf, show 4 - j = 0 by omega]; rfl
theorem t103 (n base : Nat) (hn : 5 ≤ n) (g h : Nat → Int) (m : M) : rt (n + 1) base 103 [rwV g, rwV h] m = some (.ret (.bool (fitsF g h)), m) := by
  refine rt_pure (f := 103) (rf := rf103) (by kernel_rfl) (by kernel_rfl) (by kernel_rfl) n base _ m (m ++ [cellR (rwC g)] ++ [cellR (rwC h)]) _ ?_ rfl
  show r103 (rt n) n m.length (rwV g) (rwV h) m = _
  unfold r103 fitsF
  have h1 : (m ++ [cellR (rwC g)] ++ [cellR (rwC h)])[m.length]? = some (cellR (rwC g)) := by simp
  rw [k1_fun, fVal_fun, bx76, k2s, bx76, k2s, ldb76 h1, k1s, show (.int .i64 0 : Value) = vi ((0 : Nat) : Int) from rfl,
    loop103 _ _ _ _ _ (g := g) (get_new (m := m ++ [cellR (rwC g)]) (cs := rwC h)) n 0 (by omega) (by omega)]
  split
  · rename_i h; rw [show allFrom _ 4 0 = true from h]
  · rename_i h; rw [show allFrom _ 4 0 = false by simpa using h]
def abv (g : Nat → Int) (k : Int) : Nat → Nat → Int → Int
  | 0, _, c => c
  | n + 1, j, c => abv g k n (j + 1) (if g j > k then c + 1 else c)
theorem loop89 (call : CallF) (fuel base : Nat) (kx : Value → M → Res2) (g : Nat → Int) (k : Int) (m : M) :
    ∀ (n j c : Nat), j ≤ 4 → c ≤ j → 5 ≤ n + j → r89_L0 call fuel base kx n (vi k) (vi c) (rwV g) (vi j) m = kx (vi (abv g k (4 - j) j c)) m
  | 0, j, c, hj, hc, hn => by omega
  | n + 1, j, c, hj, hc, hn => by
    rw [r89_L0_s, show (.int .i64 4 : Value) = vi ((4 : Nat) : Int) from rfl, lss_nat, k1s]
    by_cases hlt : j < 4
    · rw [decide_eq_true hlt, kbt, ixv76 g j hlt, k1s, gtr3, k1s, show 4 - j = (4 - (j + 1)) + 1 by omega]
      unfold abv
      by_cases h1 : g j > k
      · rw [decide_eq_true h1, kbt, add1 c (by omega), k1s, add1 j (by omega), k1s, loop89 call fuel base kx g k m n (j + 1) (c + 1) (by omega) (by omega) (by omega), if_pos h1]; rfl
      · rw [decide_eq_false h1, kbf, add1 j (by omega), k1s, loop89 call fuel base kx g k m n (j + 1) c (by omega) (by omega) (by omega), if_neg h1]
    · rw [decide_eq_false hlt, kbf, show 4 - j = 0 by omega]; rfl
theorem t89 (n base : Nat) (hn : 5 ≤ n) (g : Nat → Int) (k : Int) (m : M) : rt (n + 1) base 89 [rwV g, vi k] m = some (.ret (vi (abv g k 4 0 0)), m) := by
  refine rt_pure (f := 89) (rf := rf89) (by kernel_rfl) (by kernel_rfl) (by kernel_rfl) n base _ m (m ++ [cellR (rwC g)]) _ ?_ rfl
  show r89 (rt n) n m.length (rwV g) (vi k) m = _
  unfold r89
  rw [k1_fun, fVal_fun, bx76, k2s, ldb76 get_new, k1s, show (.int .i64 0 : Value) = vi ((0 : Nat) : Int) from rfl, loop89 _ _ _ _ g k _ n 0 0 (by omega) (by omega) (by omega)]
  rfl
end Go.AM
namespace Go.AM
open Go Go.Proofs
def mostR (C : Int) (H : List (List Int)) (i j : Nat) : Int :=
  let m := if 0 < j then min C (hcl H i (j - 1)) else C
  if 0 < i then min m (hcl H (i - 1) j) else m
theorem t74 (n base : Nat) {m : M} {v : Value} {H : List (List Int)} (hv : Mats m v H) (A B C : Int) {i j : Nat} (hi : i < H.length) (hi2 : i ≤ 1000) (hj2 : j ≤ 1000) (hj : 0 < j → j - 1 < (hrow H i).length) (hu : 0 < i → j < (hrow H (i - 1)).length) :
    rt (n + 1) base 74 [boxV A B C, v, vi i, vi j] m = some (.ret (vi (mostR C H i j)), m) := by
  refine rt_pure (f := 74) (rf := rf74) (by kernel_rfl) (by kernel_rfl) (by kernel_rfl) n base _ m (m ++ [cellR [vi A, vi B, vi C]]) _ ?_ rfl
  show r74 (rt n) n m.length (boxV A B C) v (vi i) (vi j) m = _
  have hv' := hv.app [cellR [vi A, vi B, vi C]]
  unfold r74 mostR
  rw [k1_fun, fVal_fun, vcall_fun, bx23, k2s, ff23_2, k1s, ld3, cell_new rfl, k1s, show (.int .i64 0 : Value) = vi 0 from rfl, gtr3, k1s]
  have up : ∀ (x : Int) (K : Value → Res2), 0 < i → (k1n (mbin E .sub 3 (vi i) (.int .i64 1)) fun v29 => k1n (mindexAddr E.P 33 v v29) fun v30 => k1n (xload E.P (m ++ [cellR [vi A, vi B, vi C]]) 27 v30) fun v31 => k1n (mindexAddr E.P 27 v31 (vi j)) fun v33 => k1n (xload E.P (m ++ [cellR [vi A, vi B, vi C]]) 3 v33) K) = K (vi (hcl H (i - 1) j)) := by
    intro x K h0
    rw [sub1 i h0 (by omega), k1s]
    obtain ⟨u, hu1, e1⟩ := hv'.getD (j := i - 1) (by omega)
    rw [e1, hu1.getD (hu h0)]
  by_cases h0 : 0 < j
  · obtain ⟨u, hu1, e1⟩ := hv'.getD hi
    rw [decide_eq_true (show (j : Int) > 0 by omega), kbt, e1, sub1 j h0 (by omega), k1s, hu1.getD (hj h0), mn3, k2s, gtr3, k1s, if_pos h0]
    by_cases h1 : 0 < i
    · rw [decide_eq_true (show (i : Int) > 0 by omega), kbt, up 0 _ h1, mn3, k2s, if_pos h1]
    · rw [decide_eq_false (show ¬ (i : Int) > 0 by omega), kbf, if_neg h1]
  · rw [decide_eq_false (show ¬ (j : Int) > 0 by omega), kbf, gtr3, k1s, if_neg h0]
    by_cases h1 : 0 < i
    · rw [decide_eq_true (show (i : Int) > 0 by omega), kbt, up 0 _ h1, mn3, k2s, if_pos h1]
    · rw [decide_eq_false (show ¬ (i : Int) > 0 by omega), kbf, if_neg h1]
end Go.AM
namespace Go.AM
open Go Go.Proofs
/-- A heap as a pile's numbers. -/
def fH (a b : Nat) (H : List (List Int)) : Nat → Nat → Int := fun x y => if x < a ∧ y < b then hcl H x y else 0
theorem st3c {base : Nat} {m : M} {p off : Nat} {cs : List Value} (hb : base ≤ p) (h : m[p]? = some (cellR cs)) (ho : off < cs.length) (x : Int) : xstore E.P base m 3 (pt p off) (vi x) = some (m.set p (cellR (cs.set off (vi x)))) := by
  rw [st3, mwrite_one hb h rfl ho rfl]
  rfl
theorem set_ne {m : M} {p q : Nat} {r : Row} {o : Option Row} (h : m[q]? = o) (hne : p ≠ q) : (m.set p r)[q]? = o := by rw [List.getElem?_set_ne hne]; exact h
theorem set_eq {m : M} {p : Nat} {r r' : Row} (h : m[p]? = some r') : (m.set p r)[p]? = some r := List.getElem?_set_self (List.getElem?_eq_some_iff.1 h).1
theorem Mats.getK {m m' : M} {v : Value} {l : List (List Int)} (h : Mats m v l) (hk : Keeps m.length m m') {j : Nat} (hj : j < l.length) : ∃ u, Ints m u (l.getD j []) ∧ ∀ K : Value → Res2, (k1n (mindexAddr E.P 33 v (vi j)) fun a => k1n (xload E.P m' 27 a) K) = K u := by
  rcases h with ⟨rfl, _⟩ | ⟨p, off, c, row, rfl, _, hr, _, _, hc⟩
  · simp at hj
  · obtain ⟨u, h1, h2⟩ := hc j hj
    refine ⟨u, by simpa [hj] using h2, fun K => ?_⟩
    rw [ixo33 p off _ _ j hj, k1s, ld27]
    unfold mcell
    rw [hk.2 p (List.getElem?_eq_some_iff.1 hr).1, hr]
    show k1n (row.cells[off + j]?) K = _
    rw [h1, k1s]
/-- The rows that read has laid. -/
structure RdS (m0 m : M) (a b : Nat) (C : Int) (f : Nat → Nat → Int) : Prop where
  keeps : Keeps m0.length m0 m
  box : m[m0.length]? = some (cellR [vi a, vi b, vi C])
  res : m[m0.length + 1]? = some (cellR (plC 0 0 0 fun _ _ => 0))
  pile : m[m0.length + 2]? = some (cellR (plC a b C f))
theorem RdS.set {m0 m : M} {a b : Nat} {C : Int} {f : Nat → Nat → Int} (h : RdS m0 m a b C f) {i j : Nat} (hi : i < 4) (hj : j < 4) (x : Int) : xstore E.P m0.length m 3 (pt (m0.length + 2) (3 + i * 4 + j)) (vi x) = some (m.set (m0.length + 2) (cellR (plC a b C (upd f i j x)))) ∧ RdS m0 (m.set (m0.length + 2) (cellR (plC a b C (upd f i j x)))) a b C (upd f i j x) := by
  refine ⟨?_, h.keeps.trans (Keeps.set _ _ _ _ (by omega)), set_ne h.box (by omega), set_ne h.res (by omega), set_eq h.pile⟩
  rw [st3c (by omega) h.pile (by simp; omega), plC_set hi hj]
end Go.AM
namespace Go.AM
open Go Go.Proofs
/-- The numbers as a list of lists. -/
def hl (a b : Nat) (f : Nat → Nat → Int) : List (List Int) := (List.range a).map fun i => (List.range b).map fun j => f i j
theorem hl_len (a b : Nat) (f : Nat → Nat → Int) : (hl a b f).length = a := by simp [hl]
theorem hl_row {a b : Nat} {f : Nat → Nat → Int} {i : Nat} (hi : i < a) : hrow (hl a b f) i = (List.range b).map fun j => f i j := by
  unfold hrow hl
  simp [List.getD, List.getElem?_range hi]
theorem hl_rowlen {a b : Nat} {f : Nat → Nat → Int} {i : Nat} (hi : i < a) : (hrow (hl a b f) i).length = b := by rw [hl_row hi]; simp
theorem hl_cl {a b : Nat} {f : Nat → Nat → Int} {i j : Nat} (hi : i < a) (hj : j < b) : hcl (hl a b f) i j = f i j := by
  unfold hcl
  rw [hl_row hi]
  simp [List.getD, List.getElem?_range hj]
theorem hl_congr {a b : Nat} {f g : Nat → Nat → Int} (h : ∀ i j, i < a → j < b → f i j = g i j) : hl a b f = hl a b g := by
  unfold hl
  refine List.map_congr_left fun i hi => List.map_congr_left fun j hj => h i j (by simpa using hi) (by simpa using hj)
def rowF (b : Nat) (g : Nat → Int) : List Value := (List.range b).map fun j => vi (g j)
theorem rowF_get {b : Nat} {g : Nat → Int} {j : Nat} (hj : j < b) : (rowF b g)[j]? = some (vi (g j)) := by simp [rowF, hj]
theorem rowF_len (b : Nat) (g : Nat → Int) : (rowF b g).length = b := by simp [rowF]
theorem rowF_set {b : Nat} {g : Nat → Int} {j : Nat} (_ : j < b) (x : Int) : (rowF b g).set j (vi x) = rowF b (fun k => if k = j then x else g k) := by
  apply List.ext_getElem?
  intro k
  rw [List.getElem?_set]
  by_cases e : j = k
  · subst e
    simp only [if_true, rowF_len]
    by_cases h : j < b
    · rw [if_pos h, rowF_get h]; simp
    · omega
  · rw [if_neg e]
    by_cases h : k < b
    · rw [rowF_get h, rowF_get h, if_neg (Ne.symm e)]
    · rw [List.getElem?_eq_none (by rw [rowF_len]; omega), List.getElem?_eq_none (by rw [rowF_len]; omega)]
structure HM (B : Nat) (m : M) (o : Nat) (ps : List Nat) (a b : Nat) (f : Nat → Nat → Int) : Prop where
  out : ∃ ex, m[o]? = some (rowz 1 ex (ps.map fun p => sl p b))
  bo : B ≤ o
  len : ps.length = a
  row : ∀ i p, ps[i]? = some p → B ≤ p ∧ p ≠ o ∧ ∃ ex, m[p]? = some (rowz 1 ex (rowF b (f i)))
  inj : ∀ (i j : Nat) p, ps[i]? = some p → ps[j]? = some p → i = j
theorem HM.getp {B : Nat} {m : M} {o : Nat} {ps : List Nat} {a b : Nat} {f : Nat → Nat → Int} (h : HM B m o ps a b f) {i : Nat} (hi : i < a) : ∃ p, ps[i]? = some p := ⟨_, List.getElem?_eq_getElem (by rw [h.len]; exact hi)⟩
theorem HM.ldrow {B : Nat} {m : M} {o : Nat} {ps : List Nat} {a b : Nat} {f : Nat → Nat → Int} (h : HM B m o ps a b f) {i p : Nat} (hp : ps[i]? = some p) (K : Value → Res2) : (k1n (mindexAddr E.P 33 (sl o a) (vi i)) fun x => k1n (xload E.P m 27 x) K) = K (sl p b) := by
  have hi : i < a := by rw [← h.len]; exact (List.getElem?_eq_some_iff.1 hp).1
  obtain ⟨ex, ho⟩ := h.out
  rw [ix33 o a a i hi, k1s, ld27]
  unfold mcell
  rw [ho]
  show k1n ((ps.map fun p => sl p b)[i]?) K = _
  rw [List.getElem?_map, hp]
  exact k1s _ _
theorem HM.ldcell {B : Nat} {m : M} {o : Nat} {ps : List Nat} {a b : Nat} {f : Nat → Nat → Int} (h : HM B m o ps a b f) {i p j : Nat} (hp : ps[i]? = some p) (hj : j < b) (K : Value → Res2) : (k1n (mindexAddr E.P 27 (sl p b) (vi j)) fun x => k1n (xload E.P m 3 x) K) = K (vi (f i j)) := by
  obtain ⟨_, _, ex, hr⟩ := h.row i p hp
  rw [ix27 p b b j hj, k1s, ld3]
  unfold mcell
  rw [hr]
  show k1n ((rowF b (f i))[j]?) K = _
  rw [rowF_get hj]
  exact k1s _ _
theorem rowF_congr {b : Nat} {g h : Nat → Int} (e : ∀ j, j < b → g j = h j) : rowF b g = rowF b h := List.map_congr_left fun j hj => by rw [e j (by simpa using hj)]
theorem HM.congr {B : Nat} {m : M} {o : Nat} {ps : List Nat} {a b : Nat} {f g : Nat → Nat → Int} (h : HM B m o ps a b f) (e : ∀ i j, i < a → j < b → f i j = g i j) : HM B m o ps a b g :=
  ⟨h.out, h.bo, h.len, fun i p hp => by
    obtain ⟨a1, a2, ex, a3⟩ := h.row i p hp
    have hi : i < a := by rw [← h.len]; exact (List.getElem?_eq_some_iff.1 hp).1
    exact ⟨a1, a2, ex, by rw [a3, rowF_congr fun j hj => e i j hi hj]⟩, h.inj⟩
/-- Other rows may turn. -/
theorem HM.keep {B : Nat} {m m' : M} {o : Nat} {ps : List Nat} {a b : Nat} {f : Nat → Nat → Int} (h : HM B m o ps a b f) (ho : m'[o]? = m[o]?) (hp : ∀ p ∈ ps, m'[p]? = m[p]?) : HM B m' o ps a b f := by
  obtain ⟨ex, e⟩ := h.out
  refine ⟨⟨ex, by rw [ho]; exact e⟩, h.bo, h.len, fun i p hi => ?_, h.inj⟩
  obtain ⟨a1, a2, ex, a3⟩ := h.row i p hi
  exact ⟨a1, a2, ex, by rw [hp p (List.mem_of_getElem? hi)]; exact a3⟩
theorem HM.lt {B : Nat} {m : M} {o : Nat} {ps : List Nat} {a b : Nat} {f : Nat → Nat → Int} (h : HM B m o ps a b f) : o < m.length ∧ ∀ p ∈ ps, p < m.length := by
  obtain ⟨ex, e⟩ := h.out
  refine ⟨(List.getElem?_eq_some_iff.1 e).1, fun p hp => ?_⟩
  obtain ⟨i, hi⟩ := List.mem_iff_getElem?.1 hp
  obtain ⟨_, _, ex, a3⟩ := h.row i p hi
  exact (List.getElem?_eq_some_iff.1 a3).1
theorem HM.push {B : Nat} {m : M} {o : Nat} {ps : List Nat} {a b : Nat} {f : Nat → Nat → Int} (h : HM B m o ps a b f) (x : List Row) : HM B (m ++ x) o ps a b f :=
  h.keep (List.getElem?_append_left h.lt.1) fun p hp => List.getElem?_append_left (h.lt.2 p hp)
/-- A number is written. -/
theorem HM.store {B base : Nat} {m : M} {o : Nat} {ps : List Nat} {a b : Nat} {f : Nat → Nat → Int} (h : HM B m o ps a b f) (hB : base ≤ B) {i p j : Nat} (hp : ps[i]? = some p) (hj : j < b) (x : Int) :
    ∃ m', xstore E.P base m 3 (pt p j) (vi x) = some m' ∧ HM B m' o ps a b (upd f i j x) ∧ m'.length = m.length ∧ ∀ q, q ∉ ps → m'[q]? = m[q]? := by
  obtain ⟨h1, h2, ex, h3⟩ := h.row i p hp
  refine ⟨m.set p (rowz 1 ex (rowF b fun k => if k = j then x else f i k)), ?_, ?_, by simp, fun q hq => List.getElem?_set_ne (fun (e : p = q) => hq (by rw [← e]; exact List.mem_of_getElem? hp))⟩
  · rw [st3, mwrite_one (by omega) h3 rfl (by show j < (rowF b (f i)).length; rw [rowF_len]; exact hj) rfl]
    congr 2
    show rowz 1 ex ((rowF b (f i)).set j (vi x)) = _
    rw [rowF_set hj]
  · obtain ⟨exo, ho⟩ := h.out
    refine ⟨⟨exo, by rw [List.getElem?_set_ne h2]; exact ho⟩, h.bo, h.len, fun k q hk => ?_, h.inj⟩
    obtain ⟨b1, b2, ex', b3⟩ := h.row k q hk
    refine ⟨b1, b2, ?_⟩
    by_cases e : k = i
    · subst e
      rw [hp] at hk
      simp only [Option.some.injEq] at hk
      subst hk
      refine ⟨ex, ?_⟩
      rw [set_eq h3]
      congr 2
      congr 1
      funext y
      simp [upd]
    · have hpq : p ≠ q := fun e2 => e (h.inj k i p (e2 ▸ hk) hp)
      refine ⟨ex', ?_⟩
      rw [List.getElem?_set_ne hpq, b3]
      congr 2
      congr 1
      funext y
      simp [upd, e]
/-- It is a list of lists. -/
theorem HM.mats {B : Nat} {m : M} {o : Nat} {ps : List Nat} {a b : Nat} {f : Nat → Nat → Int} (h : HM B m o ps a b f) : Mats m (sl o a) (hl a b f) := by
  obtain ⟨exo, ho⟩ := h.out
  refine .inr ⟨o, 0, a, _, by rw [hl_len], by rw [hl_len]; exact Nat.le_refl _, ho, rfl, ?_, fun j hj => ?_⟩
  · show 0 + _ ≤ (ps.map _).length
    rw [hl_len, List.length_map, h.len]; omega
  · rw [hl_len] at hj
    obtain ⟨p, hp⟩ := h.getp hj
    obtain ⟨_, _, ex, hr⟩ := h.row j p hp
    refine ⟨sl p b, ?_, ?_⟩
    · show (ps.map _)[0 + j]? = _
      rw [Nat.zero_add, List.getElem?_map, hp]
      rfl
    · refine .inr ⟨p, 0, b, _, by simp [hl], by simp [hl], hr, rfl, ?_, fun k hk => ?_⟩
      · show 0 + _ ≤ (rowF b (f j)).length
        rw [rowF_len]; simp [hl]
      · have hk' : k < b := by simpa [hl] using hk
        show (rowF b (f j))[0 + k]? = _
        rw [Nat.zero_add, rowF_get hk']
        simp [hl]
end Go.AM
namespace Go.AM
open Go Go.Proofs
def mostF (C : Int) (f : Nat → Nat → Int) (i j : Nat) : Int :=
  let m := if 0 < j then min C (f i (j - 1)) else C
  if 0 < i then min m (f (i - 1) j) else m
theorem mostF_eq {a b : Nat} (C : Int) (f : Nat → Nat → Int) {i j : Nat} (hi : i < a) (hj : j < b) : mostR C (hl a b f) i j = mostF C f i j := by
  unfold mostR mostF
  by_cases h0 : 0 < i <;> by_cases h1 : 0 < j <;> simp only [h0, h1, if_true, if_false]
  · rw [hl_cl hi (by omega), hl_cl (by omega) hj]
  · rw [hl_cl (by omega) hj]
  · rw [hl_cl hi (by omega)]
/-- All from a place on is 0. -/
def zf (b q : Nat) (f : Nat → Nat → Int) : Nat → Nat → Int := fun i j => if q ≤ i * b + j then 0 else f i j
/-- What Next makes, the places below p being looked at. -/
def nextFrom (b : Nat) (C : Int) (f : Nat → Nat → Int) : Nat → Option (Nat → Nat → Int)
  | 0 => none
  | p + 1 => if f (p / b) (p % b) < mostF C f (p / b) (p % b) then some (zf b (p + 1) (upd f (p / b) (p % b) (f (p / b) (p % b) + 1))) else nextFrom b C f p
theorem quoN (p b : Nat) (hb : 0 < b) (hp : p ≤ 1000) : mbin E .quo 3 (vi p) (vi b) = some (vi ((p / b : Nat) : Int)) := by
  have hle : p / b ≤ p := Nat.div_le_self _ _
  have e : (p : Int).tdiv b = ((p / b : Nat) : Int) := (Int.ofNat_tdiv p b).symm
  have h0 : (0 : Int) ≤ ((p / b : Nat) : Int) := Int.natCast_nonneg _
  generalize p / b = d at e h0 hle ⊢
  rw [quo3 _ _ (by omega), e, wr_id (by omega) (by omega)]
theorem remN (p b : Nat) (hb : 0 < b) : mbin E .rem 3 (vi p) (vi b) = some (vi ((p % b : Nat) : Int)) := by
  have e : (p : Int).tmod b = ((p % b : Nat) : Int) := (Int.ofNat_tmod p b).symm
  rw [rem3 _ _ (by omega), e]
theorem mulN (a b : Nat) (h : a * b ≤ 100000000) : mbin E .mul 3 (vi a) (vi b) = some (vi ((a * b : Nat) : Int)) := by
  have e : (a : Int) * b = ((a * b : Nat) : Int) := by simp
  rw [mul3, e, wr_id (by omega) (by omega)]
/-- A place is its row and its column. -/
theorem place_eq {b i j q : Nat} (hj : j < b) (h : i * b + j = q) : i = q / b ∧ j = q % b := by
  subst h
  constructor
  · rw [Nat.add_comm, Nat.add_mul_div_right _ _ (by omega), Nat.div_eq_of_lt hj, Nat.zero_add]
  · rw [Nat.add_comm, Nat.add_mul_mod_self_right, Nat.mod_eq_of_lt hj]
theorem loop44z (fuel base : Nat) (call : CallF) (kx : M → Res2) {B : Nat} (hB : base ≤ B) {o : Nat} {ps : List Nat} {a b : Nat} (hb : 0 < b) (hab : a * b ≤ 1000) {p2 : Nat} {C : Int} (hp2 : p2 ∉ ps) :
    ∀ (n q : Nat) (m : M) (f : Nat → Nat → Int), q ≤ a * b → a * b < n + q → HM B m o ps a b f → m[p2]? = some (cellR [vi a, vi b, vi C]) →
      ∃ m', HM B m' o ps a b (zf b q f) ∧ m'.length = m.length ∧ (∀ x, x ∉ ps → m'[x]? = m[x]?) ∧ r44_L2 call fuel base kx n (sl o a) (pt p2 0) (vi q) m = kx m'
  | 0, q, m, f, hq, hn, _, _ => by omega
  | n + 1, q, m, f, hq, hn, hH, h2 => by
    rw [r44_L2_s, ff23_0, k1s, ld3, box_cell h2 _ _ rfl, k1s, ff23_1, k1s, ld3, box_cell h2 _ _ rfl, k1s, mulN a b (by omega), k1s, lss_nat, k1s]
    by_cases hlt : q < a * b
    · have hi : q / b < a := (Nat.div_lt_iff_lt_mul hb).2 hlt
      have hj : q % b < b := Nat.mod_lt _ hb
      obtain ⟨p, hp⟩ := hH.getp hi
      obtain ⟨m1, e1, H1, l1, k1⟩ := hH.store hB hp hj 0
      obtain ⟨m2, H2, l2, k2, e2⟩ := loop44z fuel base call kx hB hb hab hp2 n (q + 1) m1 _ (by omega) (by omega) H1 (by rw [k1 p2 hp2]; exact h2)
      refine ⟨m2, H2.congr fun i j hi' hj' => ?_, l2.trans l1, fun x hx => (k2 x hx).trans (k1 x hx), ?_⟩
      · unfold zf upd
        by_cases h : q + 1 ≤ i * b + j
        · rw [if_pos h, if_pos (by omega)]
        · rw [if_neg h]
          by_cases e : q = i * b + j
          · rw [if_pos (place_eq hj' e.symm), if_pos (by omega)]
          · have hne : ¬ (i = q / b ∧ j = q % b) := by
              rintro ⟨rfl, rfl⟩
              have := Nat.div_add_mod q b
              rw [Nat.mul_comm] at this
              omega
            rw [if_neg hne, if_neg (show ¬ q ≤ i * b + j by omega)]
      · rw [decide_eq_true hlt, kbt, k1s, ld3, box_cell h2 _ _ rfl, k1s, quoN q b hb (by omega), k1s, hH.ldrow hp, k1s, ld3, box_cell h2 _ _ rfl, k1s, remN q b hb, k1s, ix27 p b b _ hj, k1s, show (.int .i64 0 : Value) = vi 0 from rfl, e1, kss, add1 q (by omega), k1s]
        exact e2
    · rw [decide_eq_false hlt, kbf]
      refine ⟨m, hH.congr fun i j hi' hj' => ?_, rfl, fun _ _ => rfl, rfl⟩
      unfold zf
      have : i * b + j < a * b := by
        have h1 : (i + 1) * b ≤ a * b := Nat.mul_le_mul_right _ hi'
        rw [Nat.add_mul] at h1
        omega
      rw [if_neg (by omega)]
theorem loop44 (N fuel base : Nat) (kr : Value → M → Res2) (kx : M → Res2) {B : Nat} (hB : base ≤ B) {o : Nat} {ps : List Nat} {a b : Nat} (hb : 0 < b) (hab : a * b ≤ 1000) (ha2 : a ≤ 1000) (hb2 : b ≤ 1000) {p2 : Nat} {C : Int} (hp2 : p2 ∉ ps) (hf : a * b < fuel)
    {m : M} {f : Nat → Nat → Int} (hH : HM B m o ps a b f) (h2 : m[p2]? = some (cellR [vi a, vi b, vi C])) (hbig : ∀ i j, i < a → j < b → -1000000 ≤ f i j ∧ f i j ≤ 1000000) :
    ∀ (n p : Nat), p ≤ a * b → p < n → 
      (nextFrom b C f p = none ∧ r44_L0 (rt (N + 1)) fuel base kr kx n (sl o a) (pt p2 0) (vi ((p : Int) - 1)) m = kx m) ∨
      ∃ g m', nextFrom b C f p = some g ∧ HM B m' o ps a b g ∧ m'.length = m.length ∧ (∀ x, x ∉ ps → m'[x]? = m[x]?) ∧ r44_L0 (rt (N + 1)) fuel base kr kx n (sl o a) (pt p2 0) (vi ((p : Int) - 1)) m = kr (.bool true) m'
  | 0, p, hp, hn => by omega
  | n + 1, 0, hp, hn => by
    refine .inl ⟨rfl, ?_⟩
    rw [r44_L0_s, show (.int .i64 0 : Value) = vi 0 from rfl, geq3, k1s, decide_eq_false (by omega), kbf]
  | n + 1, p + 1, hp, hn => by
    have hi : p / b < a := (Nat.div_lt_iff_lt_mul hb).2 (by omega)
    have hj : p % b < b := Nat.mod_lt _ hb
    obtain ⟨r, hr⟩ := hH.getp hi
    have e74 := t74 N m.length hH.mats a b C (i := p / b) (j := p % b) (by rw [hl_len]; exact hi) (by omega) (by omega) (fun _ => by rw [hl_rowlen hi]; omega) (fun h => by rw [hl_rowlen (by omega)]; exact hj)
    rw [mostF_eq C f hi hj] at e74
    have pre : ∀ res, (kb (.bool (decide (f (p / b) (p % b) < mostF C f (p / b) (p % b)))) (ks (xstore E.P base m 3 (pt r (p % b)) (vi (wr (f (p / b) (p % b) + 1)))) fun m => r44_L2 (rt (N + 1)) fuel base (fun m => (kr (.bool true) m)) fuel (sl o a) (pt p2 0) (vi ((p + 1 : Nat) : Int)) m) (r44_L0 (rt (N + 1)) fuel base kr kx n (sl o a) (pt p2 0) (vi ((p : Int) - 1)) m)) = res →
        r44_L0 (rt (N + 1)) fuel base kr kx (n + 1) (sl o a) (pt p2 0) (vi (((p + 1 : Nat) : Int) - 1)) m = res := by
      intro res h
      rw [r44_L0_s, show (((p + 1 : Nat) : Int) - 1) = (p : Int) by omega, show (.int .i64 0 : Value) = vi 0 from rfl, geq3, k1s, decide_eq_true (show (p : Int) ≥ 0 by omega), kbt, ff23_1, k1s, ld3, box_cell h2 _ _ rfl, k1s, quoN p b hb (by omega), k1s, k1s, ld3, box_cell h2 _ _ rfl, k1s, remN p b hb, k1s,
        hH.ldrow hr, hH.ldcell hr hj, ldb23 h2, k1s, e74, kB_same, kcs, lss3, k1s, hH.ldrow hr, hH.ldcell hr hj, show (.int .i64 1 : Value) = vi 1 from rfl, add3, k1s, ix27 r b b _ hj, k1s, show (vi 1 : Value) = .int .i64 1 from rfl, add1 p (by omega),
        show mbin E .sub 3 (vi p) (.int .i64 1) = some (vi ((p : Int) - 1)) from by rw [show (.int .i64 1 : Value) = vi 1 from rfl, sub3, wr_id (by omega) (by omega)]]
      simp only [k1s]
      exact h
    by_cases hlt : f (p / b) (p % b) < mostF C f (p / b) (p % b)
    · have hbg := hbig _ _ hi hj
      obtain ⟨m1, e1, H1, l1, k1⟩ := hH.store hB hr hj (f (p / b) (p % b) + 1)
      obtain ⟨m2, H2, l2, k2, e2⟩ := loop44z fuel base (rt (N + 1)) (fun m => kr (.bool true) m) hB hb hab hp2 fuel (p + 1) m1 _ (by omega) (by omega) H1 (by rw [k1 p2 hp2]; exact h2)
      refine .inr ⟨_, m2, by unfold nextFrom; rw [if_pos hlt], H2, l2.trans l1, fun x hx => (k2 x hx).trans (k1 x hx), pre _ ?_⟩
      rw [decide_eq_true hlt, kbt, wr_id (by omega) (by omega), e1, kss]
      exact e2
    · have e : nextFrom b C f (p + 1) = nextFrom b C f p := by
        show (if f (p / b) (p % b) < mostF C f (p / b) (p % b) then _ else _) = _
        rw [if_neg hlt]
      rw [e]
      rcases loop44 N fuel base kr kx hB hb hab ha2 hb2 hp2 hf hH h2 hbig n p (by omega) (by omega) with ⟨g1, g2⟩ | ⟨g, m', g1, g2, g3, g4, g5⟩
      · exact .inl ⟨g1, pre _ (by rw [decide_eq_false hlt, kbf]; exact g2)⟩
      · exact .inr ⟨g, m', g1, g2, g3, g4, pre _ (by rw [decide_eq_false hlt, kbf]; exact g5)⟩
/-- Next. -/
theorem t44 (N base : Nat) {B : Nat} (hB : base ≤ B) {o : Nat} {ps : List Nat} {a b : Nat} (hb : 0 < b) (hab : a * b ≤ 1000) (ha2 : a ≤ 1000) (hb2 : b ≤ 1000) (C : Int) (hN : a * b ≤ N)
    {m : M} {f : Nat → Nat → Int} (hH : HM B m o ps a b f) (hbig : ∀ i j, i < a → j < b → -1000000 ≤ f i j ∧ f i j ≤ 1000000) :
    (nextFrom b C f (a * b) = none ∧ ∃ m', HM B m' o ps a b f ∧ m.length ≤ m'.length ∧ (∀ x, x < m.length → m'[x]? = m[x]?) ∧ rt (N + 2) base 44 [boxV a b C, sl o a] m = some (.ret (.bool false), m')) ∨
    ∃ g m', nextFrom b C f (a * b) = some g ∧ HM B m' o ps a b g ∧ m.length ≤ m'.length ∧ (∀ x, x < m.length → x ∉ ps → m'[x]? = m[x]?) ∧ rt (N + 2) base 44 [boxV a b C, sl o a] m = some (.ret (.bool true), m') := by
  have hp2 : m.length ∉ ps := fun h => Nat.lt_irrefl _ (hH.lt.2 _ h)
  have h2 : (m ++ [cellR [vi a, vi b, vi C]])[m.length]? = some (cellR [vi a, vi b, vi C]) := get_new
  have pre : ∀ res, r44_L0 (rt (N + 1)) (N + 1) base (fun y4 m => some (.ret y4, m)) (fun m => some (.ret (.bool false), m)) (N + 1) (sl o a) (pt m.length 0) (vi (((a * b : Nat) : Int) - 1)) (m ++ [cellR [vi a, vi b, vi C]]) = res → rt (N + 2) base 44 [boxV a b C, sl o a] m = res := by
    intro res h
    rw [rt_imp (f := 44) (rf := rf44) (by kernel_rfl) (by kernel_rfl) (by kernel_rfl)]
    show r44 (rt (N + 1)) (N + 1) base (boxV a b C) (sl o a) m = _
    unfold r44
    rw [k1_fun, fVal_fun, bx23, k2s, ff23_0, k1s, ld3, box_cell h2 _ _ rfl, k1s, ff23_1, k1s, ld3, box_cell h2 _ _ rfl, k1s, mulN a b (by omega), k1s, show (.int .i64 1 : Value) = vi 1 from rfl, sub3, wr_id (by omega) (by omega), k1s]
    exact h
  have hk : ∀ x, x < m.length → (m ++ [cellR [vi a, vi b, vi C]])[x]? = m[x]? := fun x hx => List.getElem?_append_left hx
  rcases loop44 N (N + 1) base (fun y4 m => some (.ret y4, m)) (fun m => some (.ret (.bool false), m)) hB hb hab ha2 hb2 hp2 (by omega) (hH.push [cellR [vi a, vi b, vi C]]) h2 hbig (N + 1) (a * b) (Nat.le_refl _) (by omega) with ⟨g1, g2⟩ | ⟨g, m', g1, g2, g3, g4, g5⟩
  · exact .inl ⟨g1, _, hH.push _, by simp, hk, pre _ g2⟩
  · exact .inr ⟨g, m', g1, g2, by rw [g3]; simp, fun x hx hn => (g4 x hn).trans (hk x hx), pre _ g5⟩
end Go.AM
namespace Go.AM
open Go Go.Proofs
theorem ga33e (base : Nat) (m : M) (a b : Value) : vcalln E.P base m .append [33, 33] [a, b] = xappend E.P base m [33, 33] a b := by kernel_rfl
theorem ga33nil (base : Nat) (m : M) (k c cap : Nat) (row : Row) (hk : m[k]? = some row) (hc : row.cells.length = c * 1) (h1 : 1 ≤ c) (h2 : c ≤ 100000) : xappend E.P base m [33, 33] (.slice none 0 0) (.slice (some ⟨k, 0, none⟩) c cap) = some (sl m.length c, m ++ [rowz 1 false row.cells]) := by
  have e : xappend E.P base m [33, 33] (.slice none 0 0) (.slice (some ⟨k, 0, none⟩) c cap) = match (xread m k 0 (c * 1)).map fun cs => (c, cs) with
    | none => none
    | some (n, news) => if n = 0 then some (.slice none 0 0, m) else if n > 2 ^ 38 then none else xlen m fun k => fList news fun cs => xpush m (rowz 1 false cs) fun m' => some (.slice (some ⟨k, 0, none⟩) n n, m') := by kernel_rfl
  have q1 : xread m k 0 (c * 1) = some row.cells := by
    rw [xread_eq]
    unfold mread
    rw [hk]
    simp only
    rw [if_pos (by omega), List.drop_zero, List.take_of_length_le (by omega)]
  rw [e, q1]
  simp only [Option.map_some]
  rw [if_neg (by omega), if_neg (by omega)]
  simp [xlen_eq, fNat_eq, xpush_eq, fList_eq]
theorem ga33some (base : Nat) (m : M) (r l k c cap : Nat) (ex : Bool) (cs : List Value) (row : Row) (hr : m[r]? = some (rowz 1 ex cs)) (hl : cs.length = l * 1) (h0 : ex = true ∨ 1 ≤ l) (h1 : 1 ≤ c) (h2 : l ≤ 100000) (h3 : c ≤ 100000) (hb : base ≤ r)
    (hk : m[k]? = some row) (hd : row.cells.length = c * 1) (hc : row.cells.all (·.oneCell') = true) : xappend E.P base m [33, 33] (sl r l) (.slice (some ⟨k, 0, none⟩) c cap) =
      some (sl m.length (l + c), (if ex then m else m.set r (rowz 1 false [])) ++ [rowz 1 false (cs ++ row.cells)]) := by
  have e : xappend E.P base m [33, 33] (sl r l) (.slice (some ⟨k, 0, none⟩) c cap) = match (xread m k 0 (c * 1)).map fun cs => (c, cs) with
    | none => none
    | some (n, news) =>
      if l + n ≤ l then if n = 0 then some (.slice (some ⟨r, 0, none⟩) l l, m) else
        (xwrite base m r (0 + l * 1) news).bind fun m' => fNat (l + n) fun k => some (.slice (some ⟨r, 0, none⟩) k l, m')
      else if l + n > 2 ^ 38 then none else
        match xget m r, xread m r 0 (l * 1) with
        | some row, some olds =>
          if row.esz ≠ 1 then none else
          xlen m fun k => fNat (l + n) fun c => fList (olds ++ news) fun cs =>
          if row.ex then xpush m (rowz 1 false cs) fun m' => some (.slice (some ⟨k, 0, none⟩) c c, m')
          else if row.cells.isEmpty then none
          else if news.all (·.oneCell') then xkill base m r fun m' => xpush m' (rowz 1 false cs) fun m' => some (.slice (some ⟨k, 0, none⟩) c c, m')
          else none
        | _, _ => none := by kernel_rfl
  rw [e]
  have q1 : xread m k 0 (c * 1) = some row.cells := by
    rw [xread_eq]
    unfold mread
    rw [hk]
    simp only
    rw [if_pos (by omega), List.drop_zero, List.take_of_length_le (by omega)]
  have q2 : xread m r 0 (l * 1) = some cs := by
    rw [xread_eq]
    unfold mread
    rw [hr]
    have hle : 0 + l * 1 ≤ (rowz 1 ex cs).cells.length := by show 0 + l * 1 ≤ cs.length; omega
    simp only
    rw [if_pos hle, List.drop_zero]
    exact congrArg some (List.take_of_length_le (by show cs.length ≤ _; omega))
  rw [q1, q2, xget_eq, hr]
  simp only [Option.map_some]
  rw [if_neg (by omega), if_neg (by omega), if_neg (by simp [rowz]), xlen_eq, fNat_eq, fNat_eq, fList_eq]
  cases ex with
  | true =>
    rw [if_pos (by simp [rowz])]
    simp [xpush_eq, fList_eq]
  | false =>
    rw [if_neg (by simp [rowz])]
    have ne : cs ≠ [] := by
      intro h
      rw [h] at hl
      simp at hl
      simp at h0
      omega
    rw [if_neg (by simp [rowz, ne]), if_pos (by exact hc), xkill_eq]
    unfold mkill
    rw [if_neg (by omega), hr]
    simp only [rowz, Bool.false_eq_true, if_false, fList_eq, Option.bind_some, xpush_eq]
theorem gb33 (m : M) (p l c : Nat) : xbuildSlice E.P m 33 1 [(0, (slo p 0 l c))] = some (sl m.length 1, m ++ [rowz 1 true [slo p 0 l c]]) := by
  have : xbuildSlice E.P m 33 1 [(0, (slo p 0 l c))] = xlen m fun n => xpush m (rowz 1 true [slo p 0 l c]) fun m' => some (sl n 1, m') := by kernel_rfl
  rw [this, xlen_eq, fNat_eq, xpush_eq, fList_eq]
theorem gg33 {b base : Nat} {m : M} {v : Value} {cs : List Value} {n : Nat} (h : Grow 1 b m v cs n) (hn : n ≤ 1000) (hbb : base ≤ b) (hbm : b ≤ m.length) (p l c : Nat) :
    ∃ v' m', (∀ k : Value → M → Res2, (k2 (xbuildSlice E.P m 33 1 [(0, (slo p 0 l c))]) fun u m => k2 (vcalln E.P base m .append [33, 33] [v, u]) k) = k v' m') ∧ Grow 1 b m' v' (cs ++ [slo p 0 l c]) (n + 1) ∧ Keeps b m m' ∧
      (∀ i, i < m.length → (∀ n0, v ≠ sl i n0) → m'[i]? = m[i]?) ∧ (∀ i n0, v' = sl i n0 → m.length ≤ i ∧ i < m'.length) := by
  have hk : (m ++ [rowz 1 true [slo p 0 l c]])[m.length]? = some (rowz 1 true [slo p 0 l c]) := by simp
  rcases h with ⟨rfl, rfl, rfl⟩ | ⟨r, h1, hb, rfl, hr, hl⟩
  · refine ⟨_, (m ++ [rowz 1 true [slo p 0 l c]]) ++ [rowz 1 false [slo p 0 l c]], fun k => ?_, .inr ⟨(m ++ [rowz 1 true [slo p 0 l c]]).length, by omega, by simp; omega, rfl, ?_, by simp⟩, ?_, fun i hi _ => ?_, fun i n0 e => ?_⟩
    · rw [gb33]
      simp only [k2]
      rw [ga33e, ga33nil _ _ _ 1 _ _ hk rfl (by omega) (by omega)]
      rfl
    · simp
    · exact (Keeps.push b m hbm _).trans (Keeps.push b _ (by simp; omega) _)
    · rw [List.getElem?_append_left (by simp; omega), List.getElem?_append_left hi]
    · injection e with e1 e2
      simp at e1
      subst e1
      simp
  · have hlt : r < m.length := (List.getElem?_eq_some_iff.1 hr).1
    refine ⟨_, (m ++ [rowz 1 true [slo p 0 l c]]).set r (rowz 1 false []) ++ [rowz 1 false (cs ++ [slo p 0 l c])], fun k => ?_, .inr ⟨(m ++ [rowz 1 true [slo p 0 l c]]).length, by omega, by simp; omega, rfl, ?_, by simp [hl, Nat.add_mul]⟩, ?_, fun i hi hv => ?_, fun i n0 e => ?_⟩
    · rw [gb33]
      simp only [k2]
      rw [ga33e, ga33some _ _ r n _ 1 _ false cs (rowz 1 true [slo p 0 l c]) (by rw [List.getElem?_append_left hlt]; exact hr) hl (.inr h1) (by omega) (by omega) (by omega) (by omega) hk rfl rfl]
      rfl
    · simp
    · exact ((Keeps.push b m hbm _).trans (Keeps.set b _ r _ hb)).trans (Keeps.push b _ (by simp; omega) _)
    · have : r ≠ i := fun e => hv n (by rw [e])
      rw [List.getElem?_append_left (by simp; omega), List.getElem?_set_ne this, List.getElem?_append_left hi]
    · injection e with e1 e2
      simp at e1
      subst e1
      simp
end Go.AM
namespace Go.AM
open Go Go.Proofs
theorem rep_rowF (b : Nat) : repCells [.int .i64 0] b = rowF b fun _ => 0 := by
  have h : ∀ n, repCells [.int .i64 0] n = List.replicate n (vi 0) := by
    intro n
    induction n with
    | zero => rfl
    | succ n ih =>
      rw [show repCells [.int .i64 0] (n + 1) = [.int .i64 0] ++ repCells [.int .i64 0] n from rfl, ih, List.replicate_succ]
      rfl
  rw [h]
  unfold rowF
  apply List.ext_getElem?
  intro k
  rw [List.getElem?_replicate, List.getElem?_map]
  by_cases hk : k < b
  · rw [if_pos hk, List.getElem?_range hk]; rfl
  · rw [if_neg hk, List.getElem?_eq_none (by simp; omega)]; rfl
/-- A heap that grows, row by row. -/
structure HG (B : Nat) (m : M) (v : Value) (ps : List Nat) (b : Nat) (f : Nat → Nat → Int) : Prop where
  grow : Grow 1 B m v (ps.map fun p => sl p b) ps.length
  row : ∀ i p, ps[i]? = some p → B ≤ p ∧ (∀ n, v ≠ sl p n) ∧ ∃ ex, m[p]? = some (rowz 1 ex (rowF b (f i)))
  inj : ∀ (i j : Nat) p, ps[i]? = some p → ps[j]? = some p → i = j
theorem HG.nil (B : Nat) (m : M) (b : Nat) (f : Nat → Nat → Int) : HG B m nilS [] b f := ⟨.inl ⟨rfl, rfl, rfl⟩, fun i p h => by simp at h, fun i j p h => by simp at h⟩
theorem HG.hm {B : Nat} {m : M} {v : Value} {ps : List Nat} {b : Nat} {f : Nat → Nat → Int} (h : HG B m v ps b f) (h1 : 1 ≤ ps.length) : ∃ o, v = sl o ps.length ∧ HM B m o ps ps.length b f := by
  rcases h.grow with ⟨e, _⟩ | ⟨r, _, hb, hv, hr, _⟩
  · omega
  · refine ⟨r, hv, ⟨false, hr⟩, hb, rfl, fun i p hp => ?_, h.inj⟩
    obtain ⟨a1, a2, a3⟩ := h.row i p hp
    exact ⟨a1, fun e => a2 ps.length (by rw [hv, e]), a3⟩
/-- One row more. -/
theorem HG.more {B base : Nat} {m : M} {v : Value} {ps : List Nat} {b : Nat} {f : Nat → Nat → Int} (h : HG B m v ps b f) (hB : base ≤ B) (hBm : B ≤ m.length) (hl : ps.length ≤ 1000) {p : Nat} {ex : Bool} (hp : m[p]? = some (rowz 1 ex (rowF b (f ps.length)))) (hBp : B ≤ p) (hnew : p ∉ ps) (hv : ∀ n, v ≠ sl p n) :
    ∃ v' m', (∀ k : Value → M → Res2, (k2 (xbuildSlice E.P m 33 1 [(0, sl p b)]) fun u m => k2 (vcalln E.P base m .append [33, 33] [v, u]) k) = k v' m') ∧ HG B m' v' (ps ++ [p]) b f ∧ Keeps B m m' ∧ (∀ n, ∀ q, q < m.length → v' ≠ sl q n) := by
  obtain ⟨v', m', e, G, hk, hoth, hnv⟩ := gg33 h.grow hl hB hBm p b b
  have hpl := (List.getElem?_eq_some_iff.1 hp).1
  have hfresh : ∀ n, ∀ q, q < m.length → v' ≠ sl q n := fun n q hq e => by have := (hnv q n e).1; omega
  refine ⟨v', m', e, ⟨?_, fun i q hq => ?_, fun i j q hi hj => ?_⟩, hk, hfresh⟩
  · rw [List.map_append, List.length_append]
    exact G
  · by_cases hi : i < ps.length
    · rw [List.getElem?_append_left hi] at hq
      obtain ⟨a1, a2, ex', a3⟩ := h.row i q hq
      have hql := (List.getElem?_eq_some_iff.1 a3).1
      exact ⟨a1, fun n => hfresh n q hql, ex', by rw [hoth q hql a2]; exact a3⟩
    · rw [List.getElem?_append_right (by omega)] at hq
      have hi2 : i - ps.length = 0 := by
        have := (List.getElem?_eq_some_iff.1 hq).1
        simp at this
        omega
      rw [hi2] at hq
      simp only [List.getElem?_cons_zero, Option.some.injEq] at hq
      subst hq
      have : i = ps.length := by omega
      subst this
      exact ⟨hBp, fun n => hfresh n _ hpl, ex, by rw [hoth _ hpl hv]; exact hp⟩
  · have key : ∀ i, (ps ++ [p])[i]? = some q → (i < ps.length ∧ ps[i]? = some q) ∨ (i = ps.length ∧ q = p) := by
      intro i hi
      by_cases h1 : i < ps.length
      · rw [List.getElem?_append_left h1] at hi; exact .inl ⟨h1, hi⟩
      · rw [List.getElem?_append_right (by omega)] at hi
        have := (List.getElem?_eq_some_iff.1 hi).1
        simp at this
        have h2 : i - ps.length = 0 := by omega
        rw [h2] at hi
        simp only [List.getElem?_cons_zero, Option.some.injEq] at hi
        exact .inr ⟨by omega, hi.symm⟩
    rcases key i hi with ⟨_, g1⟩ | ⟨g1, g2⟩ <;> rcases key j hj with ⟨_, g3⟩ | ⟨g3, g4⟩
    · exact h.inj i j q g1 g3
    · subst g4; exact absurd (List.mem_of_getElem? g1) hnew
    · subst g2; exact absurd (List.mem_of_getElem? g3) hnew
    · omega
theorem loop54 (call : CallF) (fuel base : Nat) (kx : Value → M → Res2) {B : Nat} (hB : base ≤ B) {a b : Nat} {C : Int} (ha : a ≤ 100) (hb : b ≤ 100) {p1 : Nat} (hp1 : p1 < B) :
    ∀ (n i : Nat) (m : M) (v : Value) (ps : List Nat), ps.length = i → i ≤ a → a < n + i → B ≤ m.length → HG B m v ps b (fun _ _ => 0) → m[p1]? = some (cellR [vi a, vi b, vi C]) →
      ∃ v' m' ps', ps'.length = a ∧ HG B m' v' ps' b (fun _ _ => 0) ∧ Keeps B m m' ∧ r54_L0 call fuel base kx n (pt p1 0) v (vi i) m = kx v' m'
  | 0, i, m, v, ps, hi0, hi, hn, _, _, _ => by omega
  | n + 1, i, m, v, ps, hi0, hi, hn, hBm, hG, h1 => by
    rw [r54_L0_s, ff23_0, k1s, ld3, box_cell h1 _ _ rfl, k1s, lss_nat, k1s]
    by_cases hlt : i < a
    · rw [decide_eq_true hlt, kbt, ff23_1, k1s, ld3, box_cell h1 _ _ rfl, k1s, mk27 m b hb, k2s]
      have hrow : (m ++ [rowz 1 true (repCells [.int .i64 0] b)])[m.length]? = some (rowz 1 true (rowF b fun _ => 0)) := by rw [rep_rowF]; simp
      have hG' : HG B (m ++ [rowz 1 true (repCells [.int .i64 0] b)]) v ps b (fun _ _ => 0) := by
        refine ⟨?_, fun i p hp => ?_, hG.inj⟩
        · rcases hG.grow with h | ⟨r, c1, c2, c3, c4, c5⟩
          · exact .inl h
          · exact .inr ⟨r, c1, c2, c3, by rw [List.getElem?_append_left (List.getElem?_eq_some_iff.1 c4).1]; exact c4, c5⟩
        · obtain ⟨a1, a2, ex, a3⟩ := hG.row i p hp
          exact ⟨a1, a2, ex, by rw [List.getElem?_append_left (List.getElem?_eq_some_iff.1 a3).1]; exact a3⟩
      have hnew : m.length ∉ ps := fun h => by
        obtain ⟨i, hi⟩ := List.mem_iff_getElem?.1 h
        obtain ⟨_, _, ex, a3⟩ := hG.row i _ hi
        exact Nat.lt_irrefl _ (List.getElem?_eq_some_iff.1 a3).1
      have hvn : ∀ n, v ≠ sl m.length n := fun n e => by
        rcases hG.grow with ⟨_, h, _⟩ | ⟨r, _, _, c3, c4, _⟩
        · rw [h] at e; simp at e
        · rw [c3] at e
          simp only [Value.slice.injEq, Option.some.injEq, Addr.mk.injEq] at e
          have := (List.getElem?_eq_some_iff.1 c4).1
          omega
      obtain ⟨v', m', e, G, hk, _⟩ := hG'.more hB (by simp; omega) (by omega) hrow hBm hnew hvn
      have hkk : Keeps B m m' := (Keeps.push _ _ hBm _).trans hk
      obtain ⟨v2, m2, ps2, l2, G2, k2', e2⟩ := loop54 call fuel base kx hB ha hb hp1 n (i + 1) m' v' (ps ++ [m.length]) (by simp [hi0]) (by omega) (by omega) (Nat.le_trans hBm hkk.1) G (by rw [hkk.2 p1 hp1]; exact h1)
      refine ⟨v2, m2, ps2, l2, G2, hkk.trans k2', ?_⟩
      rw [e, add1 i (by omega), k1s]
      exact e2
    · have : i = a := by omega
      subst this
      rw [decide_eq_false hlt, kbf]
      exact ⟨v, m, ps, hi0, hG, Keeps.refl _ _, rfl⟩
theorem t54 (N base : Nat) {a b : Nat} (C : Int) (ha : 1 ≤ a) (ha2 : a ≤ 100) (hb : b ≤ 100) (hN : a < N) (m : M) (hbm : base ≤ m.length) :
    ∃ o m' ps, HM (m.length + 1) m' o ps a b (fun _ _ => 0) ∧ Keeps m.length m m' ∧ rt (N + 1) base 54 [boxV a b C] m = some (.ret (sl o a), m') := by
  have h1 : (m ++ [cellR [vi a, vi b, vi C]])[m.length]? = some (cellR [vi a, vi b, vi C]) := get_new
  obtain ⟨v, m', ps, l, G, hk, e⟩ := loop54 (rt N) N base (fun y3 m => some (.ret y3, m)) (B := m.length + 1) (by omega) ha2 hb (C := C) (p1 := m.length) (by omega) N 0 (m ++ [cellR [vi a, vi b, vi C]]) nilS [] rfl (Nat.zero_le _) (by omega) (by simp) (HG.nil _ _ _ _) h1
  obtain ⟨o, rfl, H⟩ := G.hm (by omega)
  rw [l] at H e
  refine ⟨o, m', ps, H, ((Keeps.refl _ m).trans (Keeps.push _ _ (Nat.le_refl _) _)).trans (hk.mono (by omega)), ?_⟩
  rw [rt_imp (f := 54) (rf := rf54) (by kernel_rfl) (by kernel_rfl) (by kernel_rfl)]
  show r54 (rt N) N base (boxV a b C) m = _
  unfold r54
  rw [fVal_fun, bx23, k2s]
  exact e
theorem drop_eq (l : List Int) (j : Nat) (h : j < l.length) : l.drop j = l.getD j 0 :: l.drop (j + 1) := by
  rw [List.drop_eq_getElem_cons h]
  simp [List.getD, h]
theorem drop_eqL (l : List (List Int)) (j : Nat) (h : j < l.length) : l.drop j = hrow l j :: l.drop (j + 1) := by
  rw [List.drop_eq_getElem_cons h]
  simp [List.getD, h]
end Go.AM
namespace Go.AM
open Go Go.Proofs
/-- Numbers one after another as a heap. -/
def ofL (b : Nat) (s : List Nat) : Nat → Nat → Int := fun i j => ((s.getD (i * b + j) 0 : Nat) : Int)
/-- All heaps of a box, flat. -/
def heapsL (a b c : Nat) : List (List Nat) := enumR (bdB b c) (a * b) []
theorem divmod_eq (q b : Nat) : q / b * b + q % b = q := by
  have := Nat.div_add_mod q b
  rw [Nat.mul_comm] at this
  exact this
theorem ofL_at (b : Nat) (s : List Nat) (q : Nat) : ofL b s (q / b) (q % b) = ((s.getD q 0 : Nat) : Int) := by
  unfold ofL
  rw [divmod_eq]
theorem bdB_le {b c : Nat} {p : List Nat} (h : ∀ v ∈ p, v ≤ c) : bdB b c p ≤ c := by
  unfold bdB
  have g : ∀ i, p.getD i 0 ≤ c := by
    intro i
    by_cases hi : i < p.length
    · rw [List.getD_eq_getElem?_getD, List.getElem?_eq_getElem hi]
      exact h _ (List.getElem_mem hi)
    · rw [List.getD_eq_getElem?_getD, List.getElem?_eq_none (by omega)]
      exact Nat.zero_le _
  have := g (p.length - 1)
  split <;> split <;> omega
theorem enumR_le {b c : Nat} : ∀ {k : Nat} {p s : List Nat}, s ∈ enumR (bdB b c) k p → (∀ v ∈ p, v ≤ c) → ∀ v ∈ s, v ≤ c
  | 0, p, s, h, _ => by simp [enumR] at h; subst h; simp
  | k + 1, p, s, h, hp => by
    simp only [enumR, List.mem_flatMap, List.mem_map, List.mem_range] at h
    obtain ⟨v, hv, t, ht, rfl⟩ := h
    have h1 := bdB_le (b := b) hp
    have hv2 : v ≤ c := by omega
    intro x hx
    rcases List.mem_cons.1 hx with rfl | hx
    · exact hv2
    · refine enumR_le ht ?_ x hx
      intro y hy
      rcases List.mem_append.1 hy with hy | hy
      · exact hp y hy
      · simp at hy; omega
theorem mostF_bd {b c : Nat} (hb : 0 < b) (p r : List Nat) (hp : ∀ v ∈ p, v ≤ c) : mostF c (ofL b (p ++ r)) (p.length / b) (p.length % b) = ((bdB b c p : Nat) : Int) := by
  have gl : ∀ q, q < p.length → (p ++ r).getD q 0 = p.getD q 0 := by
    intro q hq
    rw [List.getD_eq_getElem?_getD, List.getD_eq_getElem?_getD, List.getElem?_append_left hq]
  have gc : ∀ q, p.getD q 0 ≤ c := by
    intro i
    by_cases hi : i < p.length
    · rw [List.getD_eq_getElem?_getD, List.getElem?_eq_getElem hi]
      exact hp _ (List.getElem_mem hi)
    · rw [List.getD_eq_getElem?_getD, List.getElem?_eq_none (by omega)]
      exact Nat.zero_le _
  have hdm := divmod_eq p.length b
  have hmod : p.length % b < b := Nat.mod_lt _ hb
  have e1 : 0 < p.length % b → ofL b (p ++ r) (p.length / b) (p.length % b - 1) = ((p.getD (p.length - 1) 0 : Nat) : Int) := by
    intro h
    unfold ofL
    rw [show p.length / b * b + (p.length % b - 1) = p.length - 1 by omega, gl _ (by omega)]
  have e2 : 0 < p.length / b → ofL b (p ++ r) (p.length / b - 1) (p.length % b) = ((p.getD (p.length - b) 0 : Nat) : Int) := by
    intro h
    have h1 : (p.length / b - 1) * b + b = p.length / b * b := by
      rw [← Nat.succ_mul, Nat.succ_eq_add_one, Nat.sub_add_cancel h]
    unfold ofL
    rw [show (p.length / b - 1) * b + p.length % b = p.length - b by omega, gl _ (by omega)]
  have hlt : p.length < b ↔ ¬ 0 < p.length / b := by
    constructor
    · intro h; rw [Nat.div_eq_of_lt h]; omega
    · intro h
      have h0 : p.length / b = 0 := Nat.eq_zero_of_not_pos h
      rw [h0] at hdm
      omega
  have g1 := gc (p.length - 1)
  have g2 := gc (p.length - b)
  unfold mostF bdB
  by_cases h1 : 0 < p.length % b <;> by_cases h2 : 0 < p.length / b
  · simp only [h1, h2, if_true]
    rw [e1 h1, e2 h2, if_neg (by omega), if_neg (by rw [hlt]; simpa using h2)]
    omega
  · simp only [h1, h2, if_true, if_false]
    rw [e1 h1, if_neg (by omega), if_pos (hlt.2 h2)]
    omega
  · simp only [h1, h2, if_true, if_false]
    rw [e2 h2, if_pos (by omega), if_neg (by rw [hlt]; simpa using h2)]
    omega
  · simp only [h1, h2, if_false]
    rw [if_pos (by omega), if_pos (hlt.2 h2)]
    omega
theorem next_nx {a b c : Nat} (hb : 0 < b) : ∀ (r p : List Nat), p.length + r.length = a * b → (∀ v ∈ p ++ r, v ≤ c) →
    (nx (bdB b c) p r = none ∧ nextFrom b c (ofL b (p ++ r)) (p.length + r.length) = nextFrom b c (ofL b (p ++ r)) p.length) ∨
    ∃ r' g, nx (bdB b c) p r = some r' ∧ nextFrom b c (ofL b (p ++ r)) (p.length + r.length) = some g ∧ ∀ i j, i < a → j < b → g i j = ofL b (p ++ r') i j
  | [], p, _, _ => .inl ⟨rfl, rfl⟩
  | v :: r, p, hl, hle => by
    have ea : p ++ v :: r = (p ++ [v]) ++ r := by simp
    have ih := next_nx (a := a) hb r (p ++ [v]) (by simp at hl ⊢; omega) (by rw [← ea]; exact hle)
    rw [← ea] at ih
    have el : (p ++ [v]).length + r.length = p.length + (v :: r).length := by simp; omega
    rw [el] at ih
    rcases ih with ⟨h1, h2⟩ | ⟨r', g, h1, h2, h3⟩
    · have hm := mostF_bd hb p (v :: r) (fun x hx => hle x (List.mem_append_left _ hx))
      have hv : ofL b (p ++ v :: r) (p.length / b) (p.length % b) = (v : Int) := by
        rw [ofL_at]
        simp [List.getD]
      have e2 : nextFrom b c (ofL b (p ++ v :: r)) (p ++ [v]).length = if v < bdB b c p then some (zf b (p.length + 1) (upd (ofL b (p ++ v :: r)) (p.length / b) (p.length % b) ((v : Int) + 1))) else nextFrom b c (ofL b (p ++ v :: r)) p.length := by
        rw [show (p ++ [v]).length = p.length + 1 by simp]
        show (if ofL b (p ++ v :: r) (p.length / b) (p.length % b) < mostF c (ofL b (p ++ v :: r)) (p.length / b) (p.length % b) then _ else _) = _
        rw [hm, hv]
        by_cases hlt : v < bdB b c p
        · rw [if_pos hlt, if_pos (by omega)]
        · rw [if_neg hlt, if_neg (by omega)]
      rw [e2] at h2
      simp only [nx, h1]
      by_cases hlt : v < bdB b c p
      · rw [if_pos hlt] at h2
        rw [if_pos hlt]
        refine .inr ⟨_, _, rfl, h2, fun i j hi hj => ?_⟩
        unfold zf ofL
        by_cases hq : p.length + 1 ≤ i * b + j
        · rw [if_pos hq, List.getD_eq_getElem?_getD, List.getElem?_append_right (by omega)]
          obtain ⟨d, hd⟩ : ∃ d, i * b + j - p.length = d + 1 := ⟨i * b + j - p.length - 1, by omega⟩
          rw [hd, List.getElem?_cons_succ, List.getElem?_replicate]
          split <;> rfl
        · rw [if_neg hq]
          unfold upd
          by_cases he : i * b + j = p.length
          · have := place_eq hj he
            rw [if_pos this, he]
            simp [List.getD]
          · rw [if_neg (by rintro ⟨rfl, rfl⟩; rw [divmod_eq] at he; exact he rfl)]
            have hlt2 : i * b + j < p.length := by omega
            show (((p ++ v :: r).getD (i * b + j) 0 : Nat) : Int) = _
            rw [List.getD_eq_getElem?_getD, List.getD_eq_getElem?_getD, List.getElem?_append_left hlt2, List.getElem?_append_left hlt2]
      · rw [if_neg hlt] at h2
        rw [if_neg hlt]
        exact .inl ⟨rfl, h2⟩
    · simp only [nx, h1]
      refine .inr ⟨_, g, rfl, h2, ?_⟩
      rw [show p ++ v :: r' = (p ++ [v]) ++ r' by simp]
      exact h3
theorem heapsL_len {a b c : Nat} {s : List Nat} (h : s ∈ heapsL a b c) : s.length = a * b := enumR_len _ h
theorem heapsL_le {a b c : Nat} {s : List Nat} (h : s ∈ heapsL a b c) : ∀ v ∈ s, v ≤ c := enumR_le h (by simp)
theorem getD_le {s : List Nat} {c : Nat} (h : ∀ v ∈ s, v ≤ c) (i : Nat) : s.getD i 0 ≤ c := by
  by_cases hi : i < s.length
  · rw [List.getD_eq_getElem?_getD, List.getElem?_eq_getElem hi]
    exact h _ (List.getElem_mem hi)
  · rw [List.getD_eq_getElem?_getD, List.getElem?_eq_none (by omega)]
    exact Nat.zero_le _
theorem ofL_bd {s : List Nat} {c : Nat} (h : ∀ v ∈ s, v ≤ c) (b i j : Nat) : 0 ≤ ofL b s i j ∧ ofL b s i j ≤ c := by
  unfold ofL
  have := getD_le h (i * b + j)
  omega
/-- Next goes from each heap to the next of the list. -/
theorem next_heaps {a b c : Nat} (hb : 0 < b) {k : Nat} {s : List Nat} (hs : (heapsL a b c)[k]? = some s) :
    ((heapsL a b c)[k + 1]? = none ∧ nextFrom b c (ofL b s) (a * b) = none) ∨
    ∃ s' g, (heapsL a b c)[k + 1]? = some s' ∧ nextFrom b c (ofL b s) (a * b) = some g ∧ ∀ i j, i < a → j < b → g i j = ofL b s' i j := by
  have hm := List.mem_of_getElem? hs
  have hl := heapsL_len hm
  have hn := enumR_next (bdB b c) (a * b) [] k s hs
  have := next_nx (a := a) hb s [] (by simpa using hl) (by simpa using heapsL_le hm)
  simp only [List.nil_append, List.length_nil, Nat.zero_add] at this
  rw [hl, hn] at this
  rcases this with ⟨h1, h2⟩ | ⟨r', g, h1, h2, h3⟩
  · exact .inl ⟨h1, h2⟩
  · exact .inr ⟨r', g, h1, h2, h3⟩
/-- Rows of numbers. -/
def toI (G : List (List Nat)) : List (List Int) := G.map fun r => r.map fun v => ((v : Nat) : Int)
theorem hl_rows {b : Nat} : ∀ (G : List (List Nat)) (_ : ∀ r ∈ G, r.length = b), hl G.length b (ofL b G.flatten) = toI G
  | [], _ => rfl
  | r :: G, h => by
    have hr := h r List.mem_cons_self
    have ih := hl_rows G fun x hx => h x (List.mem_cons_of_mem _ hx)
    show (List.range (G.length + 1)).map _ = (r.map (fun v => ((v : Nat) : Int))) :: toI G
    rw [List.range_succ_eq_map, List.map_cons, ← ih]
    congr 1
    · apply List.ext_getElem?
      intro j
      rw [List.getElem?_map, List.getElem?_map]
      by_cases hj : j < b
      · rw [List.getElem?_range hj, List.getElem?_eq_getElem (by omega)]
        simp only [Option.map_some, ofL, List.flatten_cons]
        rw [Nat.zero_mul, Nat.zero_add, List.getD_eq_getElem?_getD, List.getElem?_append_left (by omega), List.getElem?_eq_getElem (by omega)]
        rfl
      · rw [List.getElem?_eq_none (by simp; omega), List.getElem?_eq_none (by omega)]; rfl
    · unfold hl
      rw [List.map_map]
      refine List.map_congr_left fun i _ => List.map_congr_left fun j _ => ?_
      unfold ofL
      simp only [List.flatten_cons]
      rw [List.getD_eq_getElem?_getD, List.getD_eq_getElem?_getD, List.getElem?_append_right (by rw [Nat.succ_mul]; omega)]
      congr 3
      rw [Nat.succ_mul]; omega
theorem heapsR_shape {C : Nat} : ∀ {a : Nat} {up : List Nat} {G : List (List Nat)}, G ∈ heapsR C a up → G.length = a ∧ ∀ r ∈ G, r.length = up.length
  | 0, up, G, h => by simp [heapsR] at h; subst h; simp
  | a + 1, up, G, h => by
    simp only [heapsR, List.mem_flatMap, List.mem_map] at h
    obtain ⟨r, hr, K, hK, rfl⟩ := h
    obtain ⟨h1, h2⟩ := heapsR_shape hK
    have hl := rw_len hr
    refine ⟨by simp [h1], fun x hx => ?_⟩
    rcases List.mem_cons.1 hx with rfl | hx
    · exact hl
    · rw [h2 x hx, hl]
/-- The heaps, row by row. -/
def heapsB (a b c : Nat) : List (List (List Nat)) := heapsR c a (List.replicate b c)
theorem heapsB_flat (a b c : Nat) : heapsL a b c = (heapsB a b c).map List.flatten := heaps_flat a b c
theorem heapsB_shape {a b c : Nat} {G : List (List Nat)} (h : G ∈ heapsB a b c) : G.length = a ∧ ∀ r ∈ G, r.length = b := by
  have := heapsR_shape h
  rwa [List.length_replicate] at this
theorem heap_rows {a b c k : Nat} {s : List Nat} (h : (heapsL a b c)[k]? = some s) : ∃ G, (heapsB a b c)[k]? = some G ∧ s = G.flatten ∧ hl a b (ofL b s) = toI G := by
  rw [heapsB_flat, List.getElem?_map] at h
  cases e : (heapsB a b c)[k]? with
  | none => rw [e] at h; simp at h
  | some G =>
    rw [e] at h
    simp only [Option.map_some, Option.some.injEq] at h
    subst h
    obtain ⟨h1, h2⟩ := heapsB_shape (List.mem_of_getElem? e)
    refine ⟨G, rfl, rfl, ?_⟩
    have := hl_rows G h2
    rwa [h1] at this
end Go.AM
namespace Go.AM
open Go Go.Proofs
theorem t50 (n base : Nat) (A B C : Int) (m : M) : rt (n + 1) base 50 [boxV A B C] m = some (.ret (.bool (boxOk A B C)), m) := by
  refine rt_pure (f := 50) (rf := rf50) (by kernel_rfl) (by kernel_rfl) (by kernel_rfl) n base _ m (m ++ [cellR [vi A, vi B, vi C]]) _ ?_ rfl
  show r50 (rt n) n m.length (boxV A B C) m = _
  have c0 : mcell (m ++ [cellR [vi A, vi B, vi C]]) m.length 0 = some (vi A) := cell_new rfl
  have c1 : mcell (m ++ [cellR [vi A, vi B, vi C]]) m.length 1 = some (vi B) := cell_new rfl
  have c2 : mcell (m ++ [cellR [vi A, vi B, vi C]]) m.length 2 = some (vi C) := cell_new rfl
  unfold r50 boxOk sideOk
  rw [k1_fun, fVal_fun, bx23, k2s, ff23_0, k1s, ld3, show (.int .i64 1 : Value) = vi 1 from rfl, show (.int .i64 4 : Value) = vi 4 from rfl]
  simp only [Nat.zero_add]
  rw [c0, k1s, geq3, k1s]
  by_cases h1 : A ≥ 1
  · rw [decide_eq_true h1, kbt, k1s, ld3, c0, k1s, leq3, k1s]
    by_cases h2 : A ≤ 4
    · rw [decide_eq_true h2, kbt, ff23_1, k1s, ld3]
      simp only [Nat.zero_add]
      rw [c1, k1s, geq3, k1s]
      by_cases h3 : B ≥ 1
      · rw [decide_eq_true h3, kbt, k1s, ld3, c1, k1s, leq3, k1s]
        by_cases h4 : B ≤ 4
        · rw [decide_eq_true h4, kbt, ff23_2, k1s, ld3]
          simp only [Nat.zero_add]
          rw [c2, k1s, geq3, k1s]
          by_cases h5 : C ≥ 1
          · rw [decide_eq_true h5, kbt, k1s, ld3, c2, k1s, leq3, k1s]
            rfl
          · rw [decide_eq_false h5, kbf]; rfl
        · rw [decide_eq_false h4, kbf]; rfl
      · rw [decide_eq_false h3, kbf]; rfl
    · rw [decide_eq_false h2, kbf]; rfl
  · rw [decide_eq_false h1, kbf]; rfl
theorem numL_eq (a b c : Nat) : (heapsL a b c).length = numH a b c := by
  rw [heapsB_flat, List.length_map]
  rfl
theorem numL_cnt {a : Nat} (ha : 1 ≤ a) (b c : Nat) : (heapsL a b c).length = cntL a b c := by
  rw [numL_eq]
  obtain ⟨d, rfl⟩ : ∃ d, a = d + 1 := ⟨a - 1, by omega⟩
  exact numH_succ d b c
theorem numL_le {a b c : Nat} (ha : 1 ≤ a ∧ a ≤ 4) (hb : 1 ≤ b ∧ b ≤ 4) (hc : 1 ≤ c ∧ c ≤ 4) : (heapsL a b c).length ≤ 232848 := by
  rw [numL_cnt ha.1]
  exact Nat.le_of_ble_eq_true (List.all_eq_true.1 cnt_all _ (mem_box64 ha hb hc))
theorem t44L (N base : Nat) {B : Nat} (hB : base ≤ B) {o : Nat} {ps : List Nat} {a b c : Nat} (ha : 1 ≤ a ∧ a ≤ 4) (hb : 1 ≤ b ∧ b ≤ 4) (hc : c ≤ 4) (hN : 16 ≤ N)
    {m : M} {k : Nat} {s : List Nat} (hs : (heapsL a b c)[k]? = some s) (hH : HM B m o ps a b (ofL b s)) :
    (k + 1 = (heapsL a b c).length ∧ ∃ m', HM B m' o ps a b (ofL b s) ∧ m.length ≤ m'.length ∧ (∀ x, x < m.length → m'[x]? = m[x]?) ∧ rt (N + 2) base 44 [boxV a b c, sl o a] m = some (.ret (.bool false), m')) ∨
    ∃ s' m', (heapsL a b c)[k + 1]? = some s' ∧ HM B m' o ps a b (ofL b s') ∧ m.length ≤ m'.length ∧ (∀ x, x < m.length → x ∉ ps → m'[x]? = m[x]?) ∧ rt (N + 2) base 44 [boxV a b c, sl o a] m = some (.ret (.bool true), m') := by
  have hle := heapsL_le (List.mem_of_getElem? hs)
  have hab : a * b ≤ 16 := by
    have := Nat.mul_le_mul ha.2 hb.2
    omega
  rcases t44 N base hB (by omega) (by omega) (by omega) (by omega) (c : Int) (by omega) hH (fun i j _ _ => by have := ofL_bd hle b i j; omega) with ⟨h1, m', h2, h3, h4, h5⟩ | ⟨g, m', h1, h2, h3, h4, h5⟩
  · rcases next_heaps (by omega) hs with ⟨q1, q2⟩ | ⟨s', g, q1, q2, q3⟩
    · refine .inl ⟨?_, m', h2, h3, h4, h5⟩
      have := List.getElem?_eq_none_iff.1 q1
      have := (List.getElem?_eq_some_iff.1 hs).1
      omega
    · rw [h1] at q2; simp at q2
  · rcases next_heaps (by omega) hs with ⟨q1, q2⟩ | ⟨s', g', q1, q2, q3⟩
    · rw [h1] at q2; simp at q2
    · rw [h1] at q2
      simp only [Option.some.injEq] at q2
      subst q2
      exact .inr ⟨s', m', q1, h2.congr q3, h3, h4, h5⟩
theorem ofL_zero {b n : Nat} : ofL b (List.replicate n 0) = fun _ _ => 0 := by
  funext i j
  unfold ofL
  rw [List.getD_eq_getElem?_getD, List.getElem?_replicate]
  split <;> rfl
theorem heapsL_zero (a b c : Nat) : (heapsL a b c)[0]? = some (List.replicate (a * b) 0) := enumR_head _ _ _
theorem HM.B_le {B : Nat} {m : M} {o : Nat} {ps : List Nat} {a b : Nat} {f : Nat → Nat → Int} (h : HM B m o ps a b f) {x : Nat} (hx : x < B) : x ∉ ps := fun hm => by
  obtain ⟨i, hi⟩ := List.mem_iff_getElem?.1 hm
  have := (h.row i x hi).1
  omega
end Go.AM
namespace Go.AM
open Go Go.Proofs
theorem mwrite_many {base : Nat} {m : M} {p off : Nat} {cs : List Value} {row : Row} (hb : base ≤ p) (hr : m[p]? = some row) (hro : row.ro = false) (ho : off + cs.length ≤ row.cells.length) (hv : cs.all (·.oneCell') = true) :
    mwrite base m p off cs = some (m.set p { row with cells := splice row.cells off cs }) := by
  unfold mwrite
  rw [if_neg (by omega), hr]
  simp only [hro, Bool.false_eq_true, if_false, hv, if_true]
  rw [if_pos (by omega), fList_eq, fList_eq]
end Go.AM
namespace Go.AM
open Go Go.Proofs
theorem ga104e (base : Nat) (m : M) (a b : Value) : vcalln E.P base m .append [104, 104] [a, b] = xappend E.P base m [104, 104] a b := by kernel_rfl
theorem ga104nil (base : Nat) (m : M) (k c cap : Nat) (row : Row) (hk : m[k]? = some row) (hc : row.cells.length = c * 4) (h1 : 1 ≤ c) (h2 : c ≤ 100000) : xappend E.P base m [104, 104] (.slice none 0 0) (.slice (some ⟨k, 0, none⟩) c cap) = some (sl m.length c, m ++ [rowz 4 false row.cells]) := by
  have e : xappend E.P base m [104, 104] (.slice none 0 0) (.slice (some ⟨k, 0, none⟩) c cap) = match (xread m k 0 (c * 4)).map fun cs => (c, cs) with
    | none => none
    | some (n, news) => if n = 0 then some (.slice none 0 0, m) else if n > 2 ^ 38 then none else xlen m fun k => fList news fun cs => xpush m (rowz 4 false cs) fun m' => some (.slice (some ⟨k, 0, none⟩) n n, m') := by kernel_rfl
  have q1 : xread m k 0 (c * 4) = some row.cells := by
    rw [xread_eq]
    unfold mread
    rw [hk]
    simp only
    rw [if_pos (by omega), List.drop_zero, List.take_of_length_le (by omega)]
  rw [e, q1]
  simp only [Option.map_some]
  rw [if_neg (by omega), if_neg (by omega)]
  simp [xlen_eq, fNat_eq, xpush_eq, fList_eq]
theorem ga104some (base : Nat) (m : M) (r l k c cap : Nat) (ex : Bool) (cs : List Value) (row : Row) (hr : m[r]? = some (rowz 4 ex cs)) (hl : cs.length = l * 4) (h0 : ex = true ∨ 1 ≤ l) (h1 : 1 ≤ c) (h2 : l ≤ 100000) (h3 : c ≤ 100000) (hb : base ≤ r)
    (hk : m[k]? = some row) (hd : row.cells.length = c * 4) (hc : row.cells.all (·.oneCell') = true) : xappend E.P base m [104, 104] (sl r l) (.slice (some ⟨k, 0, none⟩) c cap) =
      some (sl m.length (l + c), (if ex then m else m.set r (rowz 4 false [])) ++ [rowz 4 false (cs ++ row.cells)]) := by
  have e : xappend E.P base m [104, 104] (sl r l) (.slice (some ⟨k, 0, none⟩) c cap) = match (xread m k 0 (c * 4)).map fun cs => (c, cs) with
    | none => none
    | some (n, news) =>
      if l + n ≤ l then if n = 0 then some (.slice (some ⟨r, 0, none⟩) l l, m) else
        (xwrite base m r (0 + l * 4) news).bind fun m' => fNat (l + n) fun k => some (.slice (some ⟨r, 0, none⟩) k l, m')
      else if l + n > 2 ^ 38 then none else
        match xget m r, xread m r 0 (l * 4) with
        | some row, some olds =>
          if row.esz ≠ 4 then none else
          xlen m fun k => fNat (l + n) fun c => fList (olds ++ news) fun cs =>
          if row.ex then xpush m (rowz 4 false cs) fun m' => some (.slice (some ⟨k, 0, none⟩) c c, m')
          else if row.cells.isEmpty then none
          else if news.all (·.oneCell') then xkill base m r fun m' => xpush m' (rowz 4 false cs) fun m' => some (.slice (some ⟨k, 0, none⟩) c c, m')
          else none
        | _, _ => none := by kernel_rfl
  rw [e]
  have q1 : xread m k 0 (c * 4) = some row.cells := by
    rw [xread_eq]
    unfold mread
    rw [hk]
    simp only
    rw [if_pos (by omega), List.drop_zero, List.take_of_length_le (by omega)]
  have q2 : xread m r 0 (l * 4) = some cs := by
    rw [xread_eq]
    unfold mread
    rw [hr]
    have hle : 0 + l * 4 ≤ (rowz 4 ex cs).cells.length := by show 0 + l * 4 ≤ cs.length; omega
    simp only
    rw [if_pos hle, List.drop_zero]
    exact congrArg some (List.take_of_length_le (by show cs.length ≤ _; omega))
  rw [q1, q2, xget_eq, hr]
  simp only [Option.map_some]
  rw [if_neg (by omega), if_neg (by omega), if_neg (by simp [rowz]), xlen_eq, fNat_eq, fNat_eq, fList_eq]
  cases ex with
  | true =>
    rw [if_pos (by simp [rowz])]
    simp [xpush_eq, fList_eq]
  | false =>
    rw [if_neg (by simp [rowz])]
    have ne : cs ≠ [] := by
      intro h
      rw [h] at hl
      simp at hl
      simp at h0
      omega
    rw [if_neg (by simp [rowz, ne]), if_pos (by exact hc), xkill_eq]
    unfold mkill
    rw [if_neg (by omega), hr]
    simp only [rowz, Bool.false_eq_true, if_false, fList_eq, Option.bind_some, xpush_eq]
theorem gb104 (m : M) (g : Nat → Int) : xbuildSlice E.P m 104 1 [(0, (rwV g))] = some (sl m.length 1, m ++ [rowz 4 true (rwC g)]) := by
  have : xbuildSlice E.P m 104 1 [(0, (rwV g))] = xlen m fun n => xpush m (rowz 4 true (rwC g)) fun m' => some (sl n 1, m') := by kernel_rfl
  rw [this, xlen_eq, fNat_eq, xpush_eq, fList_eq]
theorem gg104 {b base : Nat} {m : M} {v : Value} {cs : List Value} {n : Nat} (h : Grow 4 b m v cs n) (hn : n ≤ 1000) (hbb : base ≤ b) (hbm : b ≤ m.length) (g : Nat → Int) :
    ∃ v' m', (∀ k : Value → M → Res2, (k2 (xbuildSlice E.P m 104 1 [(0, (rwV g))]) fun u m => k2 (vcalln E.P base m .append [104, 104] [v, u]) k) = k v' m') ∧ Grow 4 b m' v' (cs ++ (rwC g)) (n + 1) ∧ Keeps b m m' ∧
      (∀ i, i < m.length → (∀ n0, v ≠ sl i n0) → m'[i]? = m[i]?) ∧ (∀ i n0, v' = sl i n0 → m.length ≤ i ∧ i < m'.length) := by
  have hk : (m ++ [rowz 4 true (rwC g)])[m.length]? = some (rowz 4 true (rwC g)) := by simp
  rcases h with ⟨rfl, rfl, rfl⟩ | ⟨r, h1, hb, rfl, hr, hl⟩
  · refine ⟨_, (m ++ [rowz 4 true (rwC g)]) ++ [rowz 4 false (rwC g)], fun k => ?_, .inr ⟨(m ++ [rowz 4 true (rwC g)]).length, by omega, by simp; omega, rfl, ?_, by simp⟩, ?_, fun i hi _ => ?_, fun i n0 e => ?_⟩
    · rw [gb104]
      simp only [k2]
      rw [ga104e, ga104nil _ _ _ 1 _ _ hk rfl (by omega) (by omega)]
      rfl
    · simp
    · exact (Keeps.push b m hbm _).trans (Keeps.push b _ (by simp; omega) _)
    · rw [List.getElem?_append_left (by simp; omega), List.getElem?_append_left hi]
    · injection e with e1 e2
      simp at e1
      subst e1
      simp
  · have hlt : r < m.length := (List.getElem?_eq_some_iff.1 hr).1
    refine ⟨_, (m ++ [rowz 4 true (rwC g)]).set r (rowz 4 false []) ++ [rowz 4 false (cs ++ (rwC g))], fun k => ?_, .inr ⟨(m ++ [rowz 4 true (rwC g)]).length, by omega, by simp; omega, rfl, ?_, by simp [hl, Nat.add_mul]⟩, ?_, fun i hi hv => ?_, fun i n0 e => ?_⟩
    · rw [gb104]
      simp only [k2]
      rw [ga104e, ga104some _ _ r n _ 1 _ false cs (rowz 4 true (rwC g)) (by rw [List.getElem?_append_left hlt]; exact hr) hl (.inr h1) (by omega) (by omega) (by omega) (by omega) hk rfl rfl]
      rfl
    · simp
    · exact ((Keeps.push b m hbm _).trans (Keeps.set b _ r _ hb)).trans (Keeps.push b _ (by simp; omega) _)
    · have : r ≠ i := fun e => hv n (by rw [e])
      rw [List.getElem?_append_left (by simp; omega), List.getElem?_set_ne this, List.getElem?_append_left hi]
    · injection e with e1 e2
      simp at e1
      subst e1
      simp
theorem ld104 (m : M) (r off : Nat) : xload E.P m 104 (pt r off) = mcell m r off := by
  have e : xload E.P m 104 (pt r off) = xcell m r off := by kernel_rfl
  rw [e, xcell_eq]
theorem st104 (base : Nat) (m : M) (p off q l c : Nat) : xstore E.P base m 104 (pt p off) (.slice (some ⟨q, 0, none⟩) l c) = mwrite base m p off [.slice (some ⟨q, 0, none⟩) l c] := by
  have e : xstore E.P base m 104 (pt p off) (.slice (some ⟨q, 0, none⟩) l c) = xwrite base m p off [.slice (some ⟨q, 0, none⟩) l c] := by kernel_rfl
  rw [e, xwrite_eq]
theorem al104 (m : M) : xalloc E.P m 104 = some (pt m.length 0, m ++ [cellR [nilS]]) := by
  have e : xalloc E.P m 104 = xlen m fun n => xpush m (cellR [nilS]) fun m' => some (pt n 0, m') := by kernel_rfl
  rw [e, xlen_eq, fNat_eq, xpush_eq, fList_eq]
theorem al134 (m : M) : xalloc E.P m 134 = some (pt m.length 0, m ++ [cellR [.nilFunc]]) := by
  have e : xalloc E.P m 134 = xlen m fun n => xpush m (cellR [.nilFunc]) fun m' => some (pt n 0, m') := by kernel_rfl
  rw [e, xlen_eq, fNat_eq, xpush_eq, fList_eq]
theorem ld134 (m : M) (r off : Nat) : xload E.P m 134 (pt r off) = mcell m r off := by
  have e : xload E.P m 134 (pt r off) = xcell m r off := by kernel_rfl
  rw [e, xcell_eq]
theorem st134 (base : Nat) (m : M) (p off f a b c : Nat) : xstore E.P base m 134 (pt p off) (.func (.func f) #[] #[pt a 0, pt b 0, pt c 0]) = mwrite base m p off [.func (.func f) #[] #[pt a 0, pt b 0, pt c 0]] := by
  have e : xstore E.P base m 134 (pt p off) (.func (.func f) #[] #[pt a 0, pt b 0, pt c 0]) = xwrite base m p off [.func (.func f) #[] #[pt a 0, pt b 0, pt c 0]] := by kernel_rfl
  rw [e, xwrite_eq]
theorem r114_L0_s (call : CallF) (fuel base : Nat) (kp : Value → M → Res2) (kx0 : M → Res2) (n : Nat) (x1 x5 x6 x19 x20 : Value) (m : M) : r114_L0 call fuel base kp kx0 (n + 1) x1 x5 x6 x19 x20 m =
    (k1n (mbin E .lss 3 x20 x19) fun v21_10 => (kb v21_10 (k1n (mindexAddr E.P 76 x6 x1) fun v25_11 => (ks (xstore E.P base m 3 v25_11 x20) fun m => (k1n (xload E.P m 134 x5) fun v26_12 => (k1n (xload E.P m 76 x6) fun v27_13 => (k1n (mbin E .add 3 x1 (.int .i64 1)) fun v29_14 => (kc (kv call base v26_12 [v27_13, v29_14, x20] m) (fun v31_15 m => (k1n (mbin E .add 3 x20 (.int .i64 1)) fun v32_16 => (r114_L0 call fuel base kp kx0 n x1 x5 x6 x19 v32_16 m))) (fun v m => kp v m))))))) (kx0 m))) := by
  unfold r114_L0
  rw [k1_fun]
end Go.AM
namespace Go.AM
open Go Go.Proofs
/-- A row of numbers, 0 behind its end. -/
def rwL (r : List Nat) : Nat → Int := fun j => ((r.getD j 0 : Nat) : Int)
def cellsR (R : List (List Nat)) : List Value := R.flatMap fun r => rwC (rwL r)
theorem cellsR_append (R S : List (List Nat)) : cellsR (R ++ S) = cellsR R ++ cellsR S := by simp [cellsR]
theorem cellsR_one (r : List Nat) : cellsR [r] = rwC (rwL r) := by simp [cellsR]
theorem cellsR_at : ∀ (R : List (List Nat)) (i : Nat) (r : List Nat), R[i]? = some r → ((cellsR R).drop (i * 4)).take 4 = rwC (rwL r)
  | [], i, r, h => by simp at h
  | s :: R, 0, r, h => by
    simp at h
    subst h
    show ((rwC (rwL s) ++ cellsR R).drop (0 * 4)).take 4 = _
    rw [Nat.zero_mul, List.drop_zero, List.take_left' (show (rwC (rwL s)).length = 4 from rfl)]
  | s :: R, i + 1, r, h => by
    show ((rwC (rwL s) ++ cellsR R).drop ((i + 1) * 4)).take 4 = _
    rw [show (i + 1) * 4 = (rwC (rwL s)).length + i * 4 by simp; omega, List.drop_append]
    rw [List.drop_eq_nil_of_le (by omega), List.nil_append, Nat.add_sub_cancel_left]
    exact cellsR_at R i r (by simpa using h)
theorem rwL_snoc (p : List Nat) (n i : Nat) : rwL (p ++ [n]) i = if i = p.length then (n : Int) else rwL p i := by
  unfold rwL
  by_cases h : i = p.length
  · subst h; simp [List.getD]
  · rw [if_neg h]
    by_cases h2 : i < p.length
    · rw [List.getD_eq_getElem?_getD, List.getD_eq_getElem?_getD, List.getElem?_append_left h2]
    · rw [List.getD_eq_getElem?_getD, List.getD_eq_getElem?_getD, List.getElem?_eq_none (by simp; omega), List.getElem?_eq_none (by omega)]
theorem rwC_congr {g h : Nat → Int} (e : ∀ j, j < 4 → g j = h j) : rwC g = rwC h := by
  unfold rwC
  rw [e 0 (by omega), e 1 (by omega), e 2 (by omega), e 3 (by omega)]
theorem rwC_set {g : Nat → Int} {j : Nat} (hj : j < 4) (x : Int) : (rwC g).set j (vi x) = rwC fun k => if k = j then x else g k := by
  rcases lt4 hj with rfl | rfl | rfl | rfl <;> rfl
/-- What the recursion works on: the box, the list of rows so far and the function itself. -/
structure FS (p3 p4 p5 b : Nat) (A B C : Int) (m : M) (v : Value) (R : List (List Nat)) : Prop where
  box : m[p3]? = some (cellR [vi A, vi B, vi C])
  cur : m[p4]? = some (cellR [v])
  fn : m[p5]? = some (cellR [.func (.func 114) #[] #[pt p3 0, pt p4 0, pt p5 0]])
  grow : Grow 4 b m v (cellsR R) R.length
  ord : p3 < p4 ∧ p4 < p5 ∧ p5 < b
  len : b ≤ m.length
theorem FS.vlt {p3 p4 p5 b : Nat} {A B C : Int} {m : M} {v : Value} {R : List (List Nat)} (h : FS p3 p4 p5 b A B C m v R) {x : Nat} (hx : m.length ≤ x) (n : Nat) : v ≠ sl x n := by
  rcases h.grow with ⟨_, e, _⟩ | ⟨r, _, hb, e, hr, _⟩
  · rw [e]; simp
  · rw [e]
    have := (List.getElem?_eq_some_iff.1 hr).1
    intro e2
    injection e2 with e3 _ _
    injection e3 with e4
    injection e4 with e5
    omega
theorem FS.push {p3 p4 p5 b : Nat} {A B C : Int} {m : M} {v : Value} {R : List (List Nat)} (h : FS p3 p4 p5 b A B C m v R) (x : List Row) : FS p3 p4 p5 b A B C (m ++ x) v R := by
  obtain ⟨o1, o2, o3⟩ := h.ord
  have := h.len
  refine ⟨by rw [List.getElem?_append_left (by omega)]; exact h.box, by rw [List.getElem?_append_left (by omega)]; exact h.cur, by rw [List.getElem?_append_left (by omega)]; exact h.fn, ?_, h.ord, by simp; omega⟩
  rcases h.grow with g | ⟨r, a1, a2, a3, a4, a5⟩
  · exact .inl g
  · exact .inr ⟨r, a1, a2, a3, by rw [List.getElem?_append_left (List.getElem?_eq_some_iff.1 a4).1]; exact a4, a5⟩
/-- A row that is not the list's may change. -/
theorem FS.set {p3 p4 p5 b : Nat} {A B C : Int} {m : M} {v : Value} {R : List (List Nat)} (h : FS p3 p4 p5 b A B C m v R) {q : Nat} (hq : b ≤ q) (hv : ∀ n, v ≠ sl q n) (r : Row) : FS p3 p4 p5 b A B C (m.set q r) v R := by
  obtain ⟨o1, o2, o3⟩ := h.ord
  refine ⟨set_ne h.box (by omega), set_ne h.cur (by omega), set_ne h.fn (by omega), ?_, h.ord, by simp; exact h.len⟩
  rcases h.grow with g | ⟨k, a1, a2, a3, a4, a5⟩
  · exact .inl g
  · exact .inr ⟨k, a1, a2, a3, set_ne a4 (fun e => hv R.length (by rw [a3, e])), a5⟩
/-- What the recursion appends, k numbers being to come. -/
def tailsR (C k most : Nat) (p : List Nat) : List (List Nat) := (rw most (List.replicate k C)).map (p ++ ·)
theorem tailsR_succ {C k most : Nat} (h : most ≤ C) (p : List Nat) : tailsR C (k + 1) most p = (List.range (most + 1)).flatMap fun x => tailsR C k x (p ++ [x]) := by
  unfold tailsR
  rw [List.replicate_succ]
  simp only [rw]
  rw [Nat.min_eq_left h, List.map_flatMap]
  congr 1
  funext x
  rw [List.map_map]
  congr 1
  funext t
  simp
def upTo (C k : Nat) (p : List Nat) (i n : Nat) : List (List Nat) := (List.range' i n).flatMap fun x => tailsR C k x (p ++ [x])
/-- What a call leaves as it is. -/
def Left (p4 : Nat) (v : Value) (m m' : M) : Prop := m.length ≤ m'.length ∧ ∀ i, i < m.length → i ≠ p4 → (∀ n, v ≠ sl i n) → m'[i]? = m[i]?
theorem loop114 (N fuel base : Nat) (kp : Value → M → Res2) (kx : M → Res2) {p3 p4 p5 b : Nat} (hbase : base ≤ p4) {a B C : Nat} {k : Nat} {p : List Nat} (hB : B ≤ 4) (hk : p.length + 1 + k = B) (hC : C ≤ 1000)
    (call : ∀ (x : Nat) (m : M) (v : Value) (R : List (List Nat)), x ≤ C → FS p3 p4 p5 b a B C m v R → (R ++ tailsR C k x (p ++ [x])).length ≤ 1000 →
      ∃ m' v', FS p3 p4 p5 b a B C m' v' (R ++ tailsR C k x (p ++ [x])) ∧ Left p4 v m m' ∧ (∀ i n, v' = sl i n → m.length ≤ i) ∧ rt N base 114 [rwV (rwL (p ++ [x])), vi (p.length + 1 : Nat), vi x, pt p3 0, pt p4 0, pt p5 0] m = some (.ret (.tuple #[]), m'))
    {q : Nat} (hq : b ≤ q) {most : Nat} (hm : most ≤ C) :
    ∀ (n i : Nat) (m : M) (v : Value) (R : List (List Nat)) (g : Nat → Int), i ≤ most + 1 → most + 1 < n + i → FS p3 p4 p5 b a B C m v R → m[q]? = some (cellR (rwC g)) → (∀ j, j ≠ p.length → g j = rwL p j) → (∀ n, v ≠ sl q n) → (R ++ upTo C k p i (most + 1 - i)).length ≤ 1000 →
      ∃ m' v', FS p3 p4 p5 b a B C m' v' (R ++ upTo C k p i (most + 1 - i)) ∧ m.length ≤ m'.length ∧ (∀ x, x < m.length → x ≠ p4 → x ≠ q → (∀ n, v ≠ sl x n) → m'[x]? = m[x]?) ∧ (v' = v ∨ ∀ x n, v' = sl x n → m.length ≤ x) ∧
        r114_L0 (rt N) fuel base kp kx n (vi p.length) (pt p5 0) (pt q 0) (vi (most + 1 : Nat)) (vi i) m = kx m'
  | 0, i, m, v, R, g, hi, hn, _, _, _, _, _ => by omega
  | n + 1, i, m, v, R, g, hi, hn, hF, hQ, hg, hvq, hcap => by
    rw [r114_L0_s, lss_nat, k1s]
    by_cases hlt : i < most + 1
    · obtain ⟨d, hd⟩ : ∃ d, most + 1 - i = d + 1 := ⟨most - i, by omega⟩
      have eup : R ++ upTo C k p i (most + 1 - i) = (R ++ tailsR C k i (p ++ [i])) ++ upTo C k p (i + 1) (most + 1 - (i + 1)) := by
        rw [hd, show most + 1 - (i + 1) = d by omega]
        unfold upTo
        rw [List.range'_succ, List.flatMap_cons, List.append_assoc]
      rw [eup] at hcap ⊢
      have hp4 : p.length < 4 := by omega
      have hgi : (rwC g).set p.length (vi i) = rwC (rwL (p ++ [i])) := by
        rw [rwC_set hp4]
        refine rwC_congr fun j _ => ?_
        rw [rwL_snoc]
        show (if j = p.length then _ else _) = _
        by_cases e : j = p.length
        · rw [if_pos e, if_pos e]
        · rw [if_neg e, if_neg e, hg j e]
      have hql := (List.getElem?_eq_some_iff.1 hQ).1
      have ho := hF.ord
      have hF1 := hF.set hq hvq (cellR (rwC (rwL (p ++ [i]))))
      have hQ1 := set_eq (r := cellR (rwC (rwL (p ++ [i])))) hQ
      obtain ⟨m2, v2, F2, L2, V2, e2⟩ := call i _ v R (by omega) hF1 (by
        rw [List.length_append] at hcap
        omega)
      have hl1 : (m.set q (cellR (rwC (rwL (p ++ [i]))))).length = m.length := by simp
      obtain ⟨m3, v3, F3, l3, L3, V3, e3⟩ := loop114 N fuel base kp kx hbase hB hk hC call hq hm n (i + 1) m2 v2 _ (rwL (p ++ [i])) (by omega) (by omega) F2
        ((L2.2 q (by omega) (by omega) hvq).trans hQ1) (fun j hj => by rw [rwL_snoc, if_neg hj]) (fun n e => by have := V2 q n e; omega) hcap
      have g2 := L2.1
      rw [hl1] at g2
      refine ⟨m3, v3, F3, by omega, fun x hx h4 hxq hv => ?_, ?_, ?_⟩
      · rw [L3 x (by omega) h4 hxq (fun n e => by have := V2 x n e; omega), L2.2 x (by omega) h4 hv, set_ne rfl (Ne.symm hxq)]
      · right
        intro x n e
        rcases V3 with e3 | h3
        · rw [e3] at e; have := V2 x n e; omega
        · have := h3 x n e; omega
      · rw [decide_eq_true hlt, kbt, ixp76 q 0 p.length hp4, k1s, Nat.zero_add, st3c (by omega) hQ (by simp; omega), kss, hgi, ld134, box_cell hF1.fn _ _ rfl, k1s, ldb76 hQ1, k1s, add1 p.length (by omega), k1s]
        show kc (rt N base 114 [rwV (rwL (p ++ [i])), vi (p.length + 1 : Nat), vi i, pt p3 0, pt p4 0, pt p5 0] (m.set q (cellR (rwC (rwL (p ++ [i])))))) _ _ = _
        rw [e2, kcs, add1 i (by omega), k1s]
        exact e3
    · have e : most + 1 - i = 0 := by omega
      rw [e] at hcap ⊢
      rw [decide_eq_false hlt, kbf]
      refine ⟨m, v, by simpa [upTo] using hF, Nat.le_refl _, fun _ _ _ _ _ => rfl, .inl rfl, rfl⟩
theorem t114 (base : Nat) {p3 p4 p5 b : Nat} (hbase : base ≤ p4) {a B C : Nat} (hB : B ≤ 4) (hC : C ≤ 1000) :
    ∀ (k N : Nat) (p : List Nat) (most : Nat) (m : M) (v : Value) (R : List (List Nat)), p.length + k = B → C + 10 + k ≤ N → most ≤ C → FS p3 p4 p5 b a B C m v R → (R ++ tailsR C k most p).length ≤ 1000 →
      ∃ m' v', FS p3 p4 p5 b a B C m' v' (R ++ tailsR C k most p) ∧ Left p4 v m m' ∧ (∀ i n, v' = sl i n → m.length ≤ i) ∧ rt N base 114 [rwV (rwL p), vi p.length, vi most, pt p3 0, pt p4 0, pt p5 0] m = some (.ret (.tuple #[]), m') := by
  intro k
  induction k with
  | zero =>
    intro N p most m v R hp hN hm hF hcap
    obtain ⟨N, rfl⟩ : ∃ n, N = n + 1 := ⟨N - 1, by omega⟩
    have et : tailsR C 0 most p = [p] := by simp [tailsR, rw]
    rw [et] at hcap ⊢
    have hF1 := hF.push [cellR (rwC (rwL p))]
    have hQ : (m ++ [cellR (rwC (rwL p))])[m.length]? = some (cellR (rwC (rwL p))) := get_new
    have ho := hF.ord
    obtain ⟨v', m', e, G, hk, hoth, hnv⟩ := gg104 (base := base) hF1.grow (by simp at hcap; omega) (by omega) hF1.len (rwL p)
    have hlen : m.length + 1 ≤ m'.length := by have := hk.1; simp at this; omega
    have hcur : m'[p4]? = some (cellR [v]) := (hk.2 p4 (by omega)).trans hF1.cur
    have hv' : ∃ r, v' = sl r (R.length + 1) ∧ b ≤ r ∧ m'[r]? = some (rowz 4 false (cellsR R ++ rwC (rwL p))) ∧ (cellsR R ++ rwC (rwL p)).length = (R.length + 1) * 4 := by
      rcases G with ⟨e0, _⟩ | ⟨r, _, hbr, e1, e2, e3⟩
      · omega
      · exact ⟨r, e1, hbr, e2, e3⟩
    obtain ⟨r, er, hbr, hrow, hrl⟩ := hv'
    refine ⟨m'.set p4 (cellR [v']), v', ⟨set_ne ((hk.2 p3 (by omega)).trans hF1.box) (by omega), set_eq hcur, set_ne ((hk.2 p5 (by omega)).trans hF1.fn) (by omega), ?_, hF.ord, by rw [List.length_set]; have := hF.len; omega⟩, ⟨by rw [List.length_set]; omega, fun i hi h4 hv => ?_⟩, fun i n h => ?_, ?_⟩
    · refine .inr ⟨r, by simp, hbr, by rw [er]; simp, ?_, ?_⟩
      · rw [set_ne hrow (by omega), cellsR_append, cellsR_one]
      · rw [cellsR_append, cellsR_one, hrl]; simp
    · rw [set_ne rfl (Ne.symm h4), hoth i (by simp; omega) hv, List.getElem?_append_left hi]
    · have := (hnv i n h).1
      simp at this
      omega
    · rw [rt_imp (f := 114) (rf := rf114) (by kernel_rfl) (by kernel_rfl) (by kernel_rfl)]
      show r114 (rt N) N base (rwV (rwL p)) (vi p.length) (vi most) (pt p3 0) (pt p4 0) (pt p5 0) m = _
      unfold r114
      rw [k1_fun, vcall_fun, bx76, k2s, ff23_1, k1s, ld3, box_cell hF1.box _ _ rfl, k1s, eql3, k1s, decide_eq_true (by omega), kbt, ld104, box_cell hF1.cur _ _ rfl, k1s, ldb76 hQ, k1s, e]
      subst er
      rw [st104, mwrite_one (by omega) hcur rfl (by simp [cellR]) rfl, kss]
      rfl
  | succ k ih =>
    intro N p most m v R hp hN hm hF hcap
    obtain ⟨N, rfl⟩ : ∃ n, N = n + 1 := ⟨N - 1, by omega⟩
    have et : tailsR C (k + 1) most p = upTo C k p 0 (most + 1 - 0) := by
      rw [tailsR_succ hm]
      unfold upTo
      rw [Nat.sub_zero, List.range_eq_range']
    rw [et] at hcap ⊢
    have hF1 := hF.push [cellR (rwC (rwL p))]
    have hQ : (m ++ [cellR (rwC (rwL p))])[m.length]? = some (cellR (rwC (rwL p))) := get_new
    have ho := hF.ord
    have hlen := hF.len
    obtain ⟨m', v', F', l', L', V', e'⟩ := loop114 N N base (fun v m => some (.pan v, m)) (fun m => some (.ret (.tuple #[]), m)) hbase hB (show p.length + 1 + k = B by omega) hC
      (fun x m v R hx hF hc => by
        have := ih N (p ++ [x]) x m v R (by simp; omega) (by omega) hx hF hc
        rwa [show (p ++ [x]).length = p.length + 1 by simp] at this)
      hlen hm N 0 (m ++ [cellR (rwC (rwL p))]) v R (rwL p) (by omega) (by omega) hF1 hQ (fun _ _ => rfl) (fun n => hF.vlt (Nat.le_refl _) n) hcap
    have hup : upTo C k p 0 (most + 1 - 0) ≠ [] := by
      rw [← et]
      unfold tailsR
      intro h
      have := congrArg List.length h
      rw [List.length_map] at this
      have h0 : ∀ (us : List Nat) (m : Nat), 0 < (rw m us).length := by
        intro us
        induction us with
        | nil => intro m; simp [rw]
        | cons u us ih =>
          intro m
          simp only [rw, List.range_succ_eq_map, List.flatMap_cons, List.length_append, List.length_map]
          have := ih 0
          omega
      have := h0 (List.replicate (k + 1) C) most
      simp_all
    refine ⟨m', v', F', ⟨by simp at l'; omega, fun i hi h4 hv => ?_⟩, fun i n h => ?_, ?_⟩
    · rw [L' i (by simp; omega) h4 (by omega) hv, List.getElem?_append_left hi]
    · rcases V' with h1 | h1
      · -- the list has grown
        rcases F'.grow with ⟨e0, _⟩ | ⟨r, _, _, e1, _, _⟩
        · rw [List.length_append] at e0
          have : (upTo C k p 0 (most + 1 - 0)).length = 0 := by omega
          exact absurd (List.eq_nil_of_length_eq_zero this) hup
        · exfalso
          rw [h1] at e1
          rcases hF.grow with ⟨_, e2, _⟩ | ⟨r2, _, _, e2, _, _⟩
          · rw [e2] at e1; simp at e1
          · rw [e2] at e1
            injection e1 with _ e3
            rw [List.length_append] at e3
            have : (upTo C k p 0 (most + 1 - 0)).length = 0 := by omega
            exact hup (List.eq_nil_of_length_eq_zero this)
      · have := h1 i n h
        simp at this
        omega
    · rw [rt_imp (f := 114) (rf := rf114) (by kernel_rfl) (by kernel_rfl) (by kernel_rfl)]
      show r114 (rt N) N base (rwV (rwL p)) (vi p.length) (vi most) (pt p3 0) (pt p4 0) (pt p5 0) m = _
      unfold r114
      rw [k1_fun, vcall_fun, bx76, k2s, ff23_1, k1s, ld3, box_cell hF1.box _ _ rfl, k1s, eql3, k1s, decide_eq_false (by omega), kbf, add1 most (by omega), k1s]
      exact e'
end Go.AM
namespace Go.AM
open Go Go.Proofs
/-- The rows of a box, in order. -/
def rowsB (b c : Nat) : List (List Nat) := rw c (List.replicate b c)
def RM (m : M) (r : Nat) (R : List (List Nat)) : Prop := ∃ ex, m[r]? = some (rowz 4 ex (cellsR R))
theorem RM.keep {m m' : M} {r : Nat} {R : List (List Nat)} (h : RM m r R) (e : m'[r]? = m[r]?) : RM m' r R := by
  obtain ⟨ex, h⟩ := h
  exact ⟨ex, e.trans h⟩
theorem RM.lt {m : M} {r : Nat} {R : List (List Nat)} (h : RM m r R) : r < m.length := by
  obtain ⟨ex, h⟩ := h
  exact (List.getElem?_eq_some_iff.1 h).1
theorem RM.ld {m : M} {r : Nat} {R : List (List Nat)} (h : RM m r R) {i : Nat} {x : List Nat} (hx : R[i]? = some x) : xload E.P m 76 (pt r (i * 4)) = some (rwV (rwL x)) := by
  obtain ⟨ex, h⟩ := h
  exact ld76 h (cellsR_at R i x hx)
theorem rows_all : (box64.all fun p => Nat.ble (rowsB p.2.1 p.2.2).length 70 && ((rowsB p.2.1 p.2.2).getLast? == some (List.replicate p.2.1 p.2.2))) = true := by kernel_rfl
theorem rowsB_ok {b c : Nat} (hb : 1 ≤ b ∧ b ≤ 4) (hc : 1 ≤ c ∧ c ≤ 4) : 1 ≤ (rowsB b c).length ∧ (rowsB b c).length ≤ 70 ∧ (rowsB b c)[(rowsB b c).length - 1]? = some (List.replicate b c) := by
  have h := List.all_eq_true.1 rows_all _ (mem_box64 (a := 1) (by omega) hb hc)
  rw [Bool.and_eq_true] at h
  have h1 := Nat.le_of_ble_eq_true h.1
  have h2 := h.2
  rw [beq_iff_eq, List.getLast?_eq_getElem?] at h2
  dsimp only at h1 h2
  have := (List.getElem?_eq_some_iff.1 h2).1
  exact ⟨by omega, h1, h2⟩
theorem t101 (N base : Nat) {m : M} (hbm : base ≤ m.length) {a b c : Nat} (hb : 1 ≤ b ∧ b ≤ 4) (hc : 1 ≤ c ∧ c ≤ 4) (hN : 30 ≤ N) :
    ∃ r m', Keeps m.length m m' ∧ m.length ≤ r ∧ RM m' r (rowsB b c) ∧ rt (N + 1) base 101 [boxV a b c] m = some (.ret (sl r (rowsB b c).length), m') := by
  obtain ⟨r1, r2, r3⟩ := rowsB_ok hb hc
  obtain ⟨m1, hm1⟩ : ∃ m1 : M, m1 = m ++ [cellR [vi a, vi b, vi c]] ++ [cellR [nilS]] ++ [cellR [.nilFunc]] := ⟨_, rfl⟩
  obtain ⟨fv, hfv⟩ : ∃ fv : Value, fv = .func (.func 114) #[] #[pt m.length 0, pt (m.length + 1) 0, pt (m.length + 2) 0] := ⟨_, rfl⟩
  obtain ⟨m2, hm2⟩ : ∃ m2 : M, m2 = m1.set (m.length + 2) (cellR [fv]) := ⟨_, rfl⟩
  have l1 : (m ++ [cellR [vi a, vi b, vi c]]).length = m.length + 1 := by simp
  have l2 : (m ++ [cellR [vi a, vi b, vi c]] ++ [cellR [nilS]]).length = m.length + 2 := by simp
  have l3 : m1.length = m.length + 3 := by simp [hm1]
  have g3 : m1[m.length + 2]? = some (cellR [.nilFunc]) := by rw [hm1, ← l2]; exact get_new
  have g2 : m1[m.length + 1]? = some (cellR [nilS]) := by
    rw [hm1, List.getElem?_append_left (by omega), ← l1]; exact get_new
  have g1 : m1[m.length]? = some (cellR [vi a, vi b, vi c]) := by
    rw [hm1, List.getElem?_append_left (by omega), List.getElem?_append_left (by omega)]; exact get_new
  have hF : FS m.length (m.length + 1) (m.length + 2) (m.length + 3) a b c m2 nilS [] :=
    ⟨by rw [hm2]; exact set_ne g1 (by omega), by rw [hm2]; exact set_ne g2 (by omega), by rw [hm2, ← hfv]; exact set_eq g3, .inl ⟨rfl, rfl, rfl⟩, ⟨by omega, by omega, by omega⟩, by rw [hm2, List.length_set, l3]; exact Nat.le_refl _⟩
  have l4 : m2.length = m.length + 3 := by rw [hm2, List.length_set, l3]
  have hst : xstore E.P base m1 134 (pt (m.length + 2) 0) (.func (.func 114) #[] #[pt m.length 0, pt (m.length + 1) 0, pt (m.length + 2) 0]) = some m2 := by
    rw [st134, mwrite_one (by omega) g3 rfl (by simp [cellR]) rfl, hm2, hfv]
    rfl
  have et : tailsR c b c [] = rowsB b c := by
    unfold tailsR rowsB
    simp
  obtain ⟨m', v', F', L', _, e'⟩ := t114 base (by omega) hb.2 (by omega) b N [] c m2 nilS [] (by simp) (by omega) (Nat.le_refl _) hF (by rw [et, List.nil_append]; omega)
  rw [et, List.nil_append] at F'
  have hG := F'.grow
  rcases hG with ⟨e0, _⟩ | ⟨r, _, hbr, ev, hrow, _⟩
  · omega
  · refine ⟨r, m', ⟨by have := L'.1; omega, fun x hx => ?_⟩, by omega, ⟨false, hrow⟩, ?_⟩
    · rw [L'.2 x (by omega) (by omega) (by simp), hm2, set_ne rfl (by omega), hm1, List.getElem?_append_left (by omega), List.getElem?_append_left (by omega), List.getElem?_append_left hx]
    · rw [rt_imp (f := 101) (rf := rf101) (by kernel_rfl) (by kernel_rfl) (by kernel_rfl)]
      show r101 (rt N) N base (boxV a b c) m = _
      have z76 : mbuild E.P 76 [] = some (rwV (rwL [])) := by kernel_rfl
      unfold r101
      rw [k1_fun, fVal_fun, bx23, k2s, al104, k2s, al134, k2s, l1, l2, ← hm1, hst, kss, ld134, box_cell hF.fn _ _ rfl, k1s, z76, k1s, ff23_2, k1s, ld3, box_cell hF.box _ _ rfl, k1s]
      show kc (rt N base 114 [rwV (rwL []), vi (([] : List Nat).length : Nat), vi c, pt m.length 0, pt (m.length + 1) 0, pt (m.length + 2) 0] m2) _ _ = _
      rw [e', kcs, ld104, box_cell F'.cur _ _ rfl, k1s, ev]
end Go.AM
namespace Go.AM
open Go Go.Proofs
theorem rowsB_enum (b c : Nat) : enumR (bdB b c) b [] = rowsB b c := by
  have := row_enum (B := b) (C := c) [] (List.replicate b c) (by simp) (by simp) (.inl ⟨rfl, rfl⟩) b [] (by simp)
  unfold rowsB
  simpa using this
theorem rowsB_len {b c : Nat} {r : List Nat} (h : r ∈ rowsB b c) : r.length = b := by
  have := rw_len h
  rwa [List.length_replicate] at this
theorem fits_iff : ∀ (x y : List Nat), x.length = y.length → (fits x y = true ↔ ∀ j, x.getD j 0 ≤ y.getD j 0)
  | [], y, h => by
    have : y = [] := List.eq_nil_of_length_eq_zero h.symm
    subst this
    simp [fits]
  | a :: x, [], h => by simp at h
  | a :: x, b :: y, h => by
    simp only [fits, Bool.and_eq_true]
    rw [fits_iff x y (by simpa using h)]
    constructor
    · rintro ⟨h1, h2⟩ j
      cases j with
      | zero => simpa using Nat.le_of_ble_eq_true h1
      | succ j => simpa using h2 j
    · intro h
      exact ⟨Nat.ble_eq_true_of_le (by simpa using h 0), fun j => by simpa using h (j + 1)⟩
theorem fitsF_eq {x y : List Nat} (h : x.length = y.length) (h4 : x.length ≤ 4) : fitsF (rwL x) (rwL y) = fits x y := by
  rw [Bool.eq_iff_iff, fits_iff x y h]
  unfold fitsF
  rw [allFrom_iff]
  constructor
  · intro g j
    by_cases hj : j < 4
    · have := g j (Nat.zero_le _) (by omega)
      unfold rwL at this
      simp at this
      simpa using this
    · rw [List.getD_eq_getElem?_getD, List.getElem?_eq_none (by omega)]
      exact Nat.zero_le _
  · intro g j _ _
    have := g j
    unfold rwL
    simp at this ⊢
    exact this
theorem getDs {α : Type} {l : List α} {i : Nat} (h : i < l.length) (x : α) : l[i]? = some (l.getD i x) := by
  rw [List.getD_eq_getElem?_getD, List.getElem?_eq_getElem h]; rfl
def natC (d : List Nat) : List Value := d.map fun x => vi (x : Nat)
/-- The lists of counts in memory. -/
structure OW (m : M) (w : Nat) (ps : List Nat) (L : Nat) (D : List (List Nat)) : Prop where
  out : ∃ ex, m[w]? = some (rowz 1 ex (ps.map fun p => sl p L))
  len : ps.length = D.length
  row : ∀ (i p : Nat), ps[i]? = some p → p ≠ w ∧ ∃ d : List Nat, D[i]? = some d ∧ d.length = L ∧ m[p]? = some (rowz 1 true (natC d))
theorem OW.lt {m : M} {w : Nat} {ps : List Nat} {L : Nat} {D : List (List Nat)} (h : OW m w ps L D) : w < m.length ∧ ∀ p ∈ ps, p < m.length := by
  obtain ⟨ex, e⟩ := h.out
  refine ⟨(List.getElem?_eq_some_iff.1 e).1, fun p hp => ?_⟩
  obtain ⟨i, hi⟩ := List.mem_iff_getElem?.1 hp
  obtain ⟨_, d, _, _, e⟩ := h.row i p hi
  exact (List.getElem?_eq_some_iff.1 e).1
theorem OW.keep {m m' : M} {w : Nat} {ps : List Nat} {L : Nat} {D : List (List Nat)} (h : OW m w ps L D) (hw : m'[w]? = m[w]?) (hp : ∀ p ∈ ps, m'[p]? = m[p]?) : OW m' w ps L D := by
  obtain ⟨ex, e⟩ := h.out
  refine ⟨⟨ex, hw.trans e⟩, h.len, fun i p hi => ?_⟩
  obtain ⟨a1, d, a2, a3, a4⟩ := h.row i p hi
  exact ⟨a1, d, a2, a3, (hp p (List.mem_of_getElem? hi)).trans a4⟩
theorem OW.ld {m : M} {w : Nat} {ps : List Nat} {L : Nat} {D : List (List Nat)} (h : OW m w ps L D) {i : Nat} {d : List Nat} (hd : D[i]? = some d) : ∃ p, ps[i]? = some p ∧ d.length = L ∧ m[p]? = some (rowz 1 true (natC d)) ∧ ∀ K : Value → Res2, (k1n (mindexAddr E.P 33 (sl w ps.length) (vi i)) fun a => k1n (xload E.P m 27 a) K) = K (sl p L) := by
  have hi : i < ps.length := by rw [h.len]; exact (List.getElem?_eq_some_iff.1 hd).1
  obtain ⟨p, hp⟩ : ∃ p, ps[i]? = some p := ⟨_, List.getElem?_eq_getElem hi⟩
  obtain ⟨_, d', b1, b2, b3⟩ := h.row i p hp
  rw [hd] at b1
  simp only [Option.some.injEq] at b1
  subst b1
  obtain ⟨ex, ho⟩ := h.out
  refine ⟨p, hp, b2, b3, fun K => ?_⟩
  rw [ix33 w _ _ i hi, k1s, ld27]
  unfold mcell
  rw [ho]
  show k1n ((ps.map fun p => sl p L)[i]?) K = _
  rw [List.getElem?_map, hp]
  exact k1s _ _
/-- Between two states: only q has changed of what there was. -/
def But (q : Nat) (m m' : M) : Prop := m.length ≤ m'.length ∧ ∀ x, x < m.length → x ≠ q → m'[x]? = m[x]?
theorem But.trans {q : Nat} {a b c : M} (h : But q a b) (k : But q b c) : But q a c := ⟨Nat.le_trans h.1 k.1, fun x hx hq => (k.2 x (Nat.lt_of_lt_of_le hx h.1) hq).trans (h.2 x hx hq)⟩
theorem But.push (q : Nat) (m : M) (x : List Row) : But q m (m ++ x) := ⟨by simp, fun i hi _ => List.getElem?_append_left hi⟩
theorem But.set (q : Nat) (m : M) (r : Row) : But q m (m.set q r) := ⟨by simp, fun i _ hq => List.getElem?_set_ne (Ne.symm hq)⟩
end Go.AM
namespace Go.AM
open Go Go.Proofs
theorem ceqs_int (xs ys : List Value) (i : Nat) (is : List Nat) (x y : Int) (hx : xs[i]? = some (vi x)) (hy : ys[i]? = some (vi y)) : ceqs xs ys (2 * i :: is) = if x = y then ceqs xs ys is else some false := by
  simp only [ceqs]
  rw [show 2 * i / 2 = i by omega, show 2 * i % 2 = 0 by omega, hx, hy]
  have e : ceq 0 (vi x) (vi y) = some (x == y) := by simp [ceq, vi]
  simp only [e]
  by_cases h : x = y
  · subst h; simp
  · rw [if_neg h, show (x == y) = false by simp [h]]
/-- The record of a range over a function. -/
def lpRow (key : Nat) (T : Fr) (st : LoopState) (pend : Option Code) : Row := { esz := 0, ex := true, ro := true, cells := [], lp := some { key := key, T := T, st := st, pend := pend } }
theorem rec_at {m : M} {y key : Nat} {T : Fr} {st : LoopState} {pend : Option Code} (h : m[y]? = some (lpRow key T st pend)) : mrec m y = some { key := key, T := T, st := st, pend := pend } := by
  unfold mrec
  rw [h]
  rfl
theorem busy_at {m : M} {y key : Nat} {T : Fr} {pend : Option Code} (h : m[y]? = some (lpRow key T .ready pend)) : mbusy m y = some (m.set y (lpRow key T .busy pend)) := by
  unfold mbusy
  rw [rec_at h]
  rfl
theorem fin_go {m : M} {y key : Nat} {T : Fr} {st : LoopState} {pend : Option Code} (h : m[y]? = some (lpRow key T st pend)) : mfin m y (some none) = some (.ret (.bool true), m.set y (lpRow key T .ready none)) := by
  unfold mfin
  rw [rec_at h]
  rfl
theorem range_eq {N base f key : Nat} {cap : List Value} {T : Fr} {m m' : M} {v : Value} {key' : Nat} {T' : Fr} {st : LoopState} {pend : Option Code} {e : MExit} (hf : Nat.beq f yid = false)
    (h : rt N base f (.func (.yield m.length) #[] #[] :: cap) (m ++ [lpRow key T .ready none]) = some (.ret v, m')) (hy : m'[m.length]? = some (lpRow key' T' st pend)) (hst : st ≠ .busy) (hj : mjump pend = some e) :
    mrange (rt N) base (.func (.func f) #[] cap.toArray) key T m = some (e, m'.set m.length (lpRow key' T' .exhausted pend)) := by
  unfold mrange
  simp only [hf, fNat_eq]
  have e1 : (#[] : Array Value).toList ++ [.func (.yield m.length) #[] #[]] ++ cap.toArray.toList = .func (.yield m.length) #[] #[] :: cap := by simp
  have e2 : m ++ [newLoop key T] = m ++ [lpRow key T .ready none] := rfl
  rw [e1, e2, h]
  simp only
  rw [rec_at hy]
  simp only
  cases st with
  | busy => exact absurd rfl hst
  | ready => simp only [hj]; rfl
  | done => simp only [hj]; rfl
  | exhausted => simp only [hj]; rfl
/-- What the loop over the rows reads. -/
structure UR (m : M) (x1 x2 x3 rr w : Nat) (ps : List Nat) (b c a : Nat) (up : List Nat) (k : Nat) : Prop where
  rows : RM m rr (rowsB b c)
  ways : OW m w ps (rowsB b c).length ((List.range a).map (dpH (rowsB b c)))
  ord : m[x1]? = some (cellR [sl rr (rowsB b c).length, sl w ps.length])
  up : m[x2]? = some (cellR (rwC (rwL up)))
  num : m[x3]? = some (cellR [vi k])
end Go.AM
namespace Go.AM
open Go Go.Proofs
theorem rw_under {b c : Nat} {up : List Nat} (h1 : up.length = b) (h2 : ∀ v ∈ up, v ≤ c) : rw c up = (rowsB b c).filter (fits · up) := by
  refine rw_filter (by rw [List.length_replicate, h1]) fun j u v hu hv => ?_
  rw [List.getElem?_replicate] at hv
  split at hv
  · simp at hv
    subst hv
    exact h2 u (List.mem_of_getElem? hu)
  · simp at hv
theorem rowsB_le {b c : Nat} {r : List Nat} (h : r ∈ rowsB b c) : ∀ v ∈ r, v ≤ c := by
  rw [← rowsB_enum] at h
  exact enumR_le h (by simp)
end Go.AM
namespace Go.AM
open Go Go.Proofs
/-- The numbers of a pile whose rows are these. -/
def fG (G : List (List Nat)) : Nat → Nat → Int := fun i => rwL (G.getD i [])
theorem kr_normal (m : M) (kn kt : M → Res2) (kx : Nat → M → Res2) : kr (some (.normal, m)) kn kt kx = kn m := rfl
structure S57 (m : M) (p1 p3 p5 rr w : Nat) (ps : List Nat) (a b c : Nat) (G : List (List Nat)) (up : List Nat) : Prop where
  pile : m[p1]? = some (cellR (plC a b c (fG G)))
  ord : m[p3]? = some (cellR [sl rr (rowsB b c).length, sl w ps.length])
  rows : RM m rr (rowsB b c)
  ways : OW m w ps (rowsB b c).length ((List.range a).map (dpH (rowsB b c)))
  above : m[p5]? = some (cellR (rwC (rwL up)))
theorem S57.keep {m m' : M} {p1 p3 p5 rr w : Nat} {ps : List Nat} {a b c : Nat} {G : List (List Nat)} {up : List Nat} (h : S57 m p1 p3 p5 rr w ps a b c G up) (e : ∀ x, x < m.length → x = p1 ∨ x = p3 ∨ x = p5 ∨ x = rr ∨ x = w ∨ x ∈ ps → m'[x]? = m[x]?) : S57 m' p1 p3 p5 rr w ps a b c G up :=
  ⟨(e p1 (List.getElem?_eq_some_iff.1 h.pile).1 (by simp)).trans h.pile, (e p3 (List.getElem?_eq_some_iff.1 h.ord).1 (by simp)).trans h.ord, h.rows.keep (e rr h.rows.lt (by simp)), h.ways.keep (e w h.ways.lt.1 (by simp)) (fun p hp => e p (h.ways.lt.2 p hp) (by simp [hp])), (e p5 (List.getElem?_eq_some_iff.1 h.above).1 (by simp)).trans h.above⟩
end Go.AM
namespace Go.AM
open Go Go.Proofs
theorem ldpl {m : M} {p i : Nat} {A B C : Int} {f : Nat → Nat → Int} (h : m[p]? = some (cellR (plC A B C f))) (hi : i < 4) : xload E.P m 76 (pt p (3 + i * 4)) = some (rwV (f i)) := ld76 h (plC_row hi)
structure S59 (m : M) (p2 p5 p7 rr w : Nat) (ps : List Nat) (a b c : Nat) (up : List Nat) : Prop where
  box : m[p2]? = some (cellR [vi a, vi b, vi c])
  ord : m[p5]? = some (cellR [sl rr (rowsB b c).length, sl w ps.length])
  rows : RM m rr (rowsB b c)
  ways : OW m w ps (rowsB b c).length ((List.range a).map (dpH (rowsB b c)))
  above : m[p7]? = some (cellR (rwC (rwL up)))
theorem S59.keep {m m' : M} {p2 p5 p7 rr w : Nat} {ps : List Nat} {a b c : Nat} {up : List Nat} (h : S59 m p2 p5 p7 rr w ps a b c up) (e : ∀ x, x < m.length → x = p2 ∨ x = p5 ∨ x = p7 ∨ x = rr ∨ x = w ∨ x ∈ ps → m'[x]? = m[x]?) : S59 m' p2 p5 p7 rr w ps a b c up :=
  ⟨(e p2 (List.getElem?_eq_some_iff.1 h.box).1 (by simp)).trans h.box, (e p5 (List.getElem?_eq_some_iff.1 h.ord).1 (by simp)).trans h.ord, h.rows.keep (e rr h.rows.lt (by simp)), h.ways.keep (e w h.ways.lt.1 (by simp)) (fun p hp => e p (h.ways.lt.2 p hp) (by simp [hp])), (e p7 (List.getElem?_eq_some_iff.1 h.above).1 (by simp)).trans h.above⟩
end Go.AM
namespace Go.AM
open Go Go.Proofs
theorem kB_keeps {m m' : M} {v : Value} (h : Keeps m.length m m') : kB m (some (.ret v, m')) = some (.ret v, m') := by
  have e : m ++ m'.drop m.length = m' := by
    apply List.ext_getElem?
    intro i
    by_cases hi : i < m.length
    · rw [List.getElem?_append_left hi, h.2 i hi]
    · rw [List.getElem?_append_right (by omega), List.getElem?_drop]
      congr 1
      omega
  simp only [kB, fList_eq, e]
end Go.AM
namespace Go.AM
open Go Go.Proofs
theorem loop26i (call : CallF) (fuel base : Nat) (kr : Value → M → Res2) (kx : Value → Value → Value → M → Res2) {m : M} {v w : Value} {F H : List (List Int)} (hv : Mats m v F) (hw : Mats m w H) {i : Nat} (h1 : i < F.length) (h2 : i < H.length) (hl : (hrow F i).length = (hrow H i).length) (hs : (hrow F i).length ≤ 1000) :
    ∀ (n j : Nat), j ≤ (hrow F i).length → (hrow F i).length < n + j → r26_L2 call fuel base kr kx n v w (vi i) (vi j) m = if (hrow F i).drop j = (hrow H i).drop j then kx v w (vi i) m else kr (.bool false) m
  | 0, j, hj, hn => by omega
  | n + 1, j, hj, hn => by
    obtain ⟨u, hu, eu⟩ := hv.getD h1
    obtain ⟨z, hz, ez⟩ := hw.getD h2
    rw [r26_L2_s, eu, hu.len, k2s, lss_nat, k1s]
    by_cases hlt : j < (hrow F i).length
    · rw [decide_eq_true hlt, kbt, eu, hu.getD hlt, ez, hz.getD (show j < (hrow H i).length by omega), neq3, k1s, drop_eq _ j hlt, drop_eq (hrow H i) j (by omega)]
      by_cases he : hcl F i j = hcl H i j
      · rw [decide_eq_true he, show (!true) = false from rfl, kbf, add1 j (by omega), k1s, loop26i call fuel base kr kx hv hw h1 h2 hl hs n (j + 1) (by omega) (by omega)]
        have e : (hrow F i).getD j 0 = (hrow H i).getD j 0 := he
        rw [e]
        simp only [List.cons.injEq, true_and]
      · rw [decide_eq_false he, show (!false) = true from rfl, kbt, if_neg]
        intro h
        simp only [List.cons.injEq] at h
        exact he h.1
    · rw [decide_eq_false hlt, kbf, List.drop_eq_nil_of_le (by omega), List.drop_eq_nil_of_le (by omega), if_pos rfl]
theorem loop26 (call : CallF) (fuel base : Nat) (kr : Value → M → Res2) (kx : M → Res2) {m : M} {v w : Value} {F H : List (List Int)} (hv : Mats m v F) (hw : Mats m w H) (hFH : F.length = H.length) (hl : ∀ i, i < F.length → (hrow F i).length ≤ 1000 ∧ (hrow F i).length < fuel) (hs : F.length ≤ 1000) :
    ∀ (n i : Nat), i ≤ F.length → F.length < n + i → r26_L0 call fuel base kr kx n v w (vi i) m = if F.drop i = H.drop i then kx m else kr (.bool false) m
  | 0, i, hi, hn => by omega
  | n + 1, i, hi, hn => by
    rw [r26_L0_s, hv.len, k2s, lss_nat, k1s]
    by_cases hlt : i < F.length
    · obtain ⟨c2, c3⟩ := hl i hlt
      obtain ⟨u, hu, eu⟩ := hv.getD hlt
      obtain ⟨z, hz, ez⟩ := hw.getD (show i < H.length by omega)
      rw [decide_eq_true hlt, kbt, eu, hu.len, k2s, ez, hz.len, k2s, neq3, k1s, natdec, drop_eqL F i hlt, drop_eqL H i (by omega)]
      by_cases hlen : (F.getD i []).length = (H.getD i []).length
      · rw [decide_eq_true hlen, show (!true) = false from rfl, kbf, show (.int .i64 0 : Value) = vi ((0 : Nat) : Int) from rfl, loop26i call fuel base _ _ hv hw hlt (by omega) hlen c2 fuel 0 (Nat.zero_le _) (by omega), List.drop_zero, List.drop_zero]
        by_cases he : hrow F i = hrow H i
        · rw [if_pos he, add1 i (by omega), k1s, loop26 call fuel base kr kx hv hw hFH hl hs n (i + 1) (by omega) (by omega), he]
          simp only [List.cons.injEq, true_and]
        · rw [if_neg he, if_neg]
          intro h
          simp only [List.cons.injEq] at h
          exact he h.1
      · rw [decide_eq_false hlen, show (!false) = true from rfl, kbt, if_neg]
        intro h
        simp only [List.cons.injEq] at h
        exact hlen (congrArg List.length h.1)
    · rw [decide_eq_false hlt, kbf, List.drop_eq_nil_of_le (by omega), List.drop_eq_nil_of_le (by omega), if_pos rfl]
theorem t26 (n base : Nat) {m : M} {v w : Value} {F H : List (List Int)} (hv : Mats m v F) (hw : Mats m w H) (hl : ∀ i, i < F.length → (hrow F i).length ≤ 1000 ∧ (hrow F i).length < n) (hs : F.length ≤ 1000) (hn : F.length < n) :
    rt (n + 1) base 26 [v, w] m = some (.ret (.bool (decide (F = H))), m) := by
  refine rt_pure (f := 26) (rf := rf26) (by kernel_rfl) (by kernel_rfl) (by kernel_rfl) n base _ m m _ ?_ rfl
  show r26 (rt n) n m.length v w m = _
  unfold r26
  rw [k1_fun, fVal_fun, vcall_fun, hv.len, k2s, hw.len, k2s, neq3, k1s, natdec]
  by_cases h : F.length = H.length
  · rw [decide_eq_true h, show (!true) = false from rfl, kbf, show (.int .i64 0 : Value) = vi ((0 : Nat) : Int) from rfl, loop26 (rt n) n m.length _ _ hv hw h hl hs n 0 (Nat.zero_le _) (by omega), List.drop_zero, List.drop_zero]
    by_cases he : F = H
    · rw [if_pos he, decide_eq_true he]
    · rw [if_neg he, decide_eq_false he]
  · rw [decide_eq_false h, show (!false) = true from rfl, kbt, decide_eq_false (fun e => h (by rw [e]))]
/-- A copy that grows: rows of their own, or nil. -/
structure CG (B : Nat) (m : M) (v : Value) (us : List Value) (Hs : List (List Int)) : Prop where
  grow : Grow 1 B m v us us.length
  len : us.length = Hs.length
  row : ∀ (i : Nat) (u : Value), us[i]? = some u → ∃ l : List Int, Hs[i]? = some l ∧ ((l = [] ∧ u = nilS) ∨ ∃ p, u = sl p l.length ∧ l ≠ [] ∧ B ≤ p ∧ (∀ n, v ≠ sl p n) ∧ m[p]? = some (rowz 1 false (l.map vi)))
  inj : ∀ (i j : Nat) (p n n' : Nat), us[i]? = some (sl p n) → us[j]? = some (sl p n') → i = j
theorem CG.mats {B : Nat} {m : M} {v : Value} {us : List Value} {H : List (List Int)} (h : CG B m v us H) : Mats m v H := by
  rcases h.grow with ⟨e0, e1, _⟩ | ⟨r, a1, a2, a3, a4, a5⟩
  · have : H = [] := List.eq_nil_of_length_eq_zero (by rw [← h.len]; exact e0)
    exact .inl ⟨this, .inl e1⟩
  · refine .inr ⟨r, 0, us.length, _, by rw [a3, h.len], by rw [h.len]; exact Nat.le_refl _, a4, rfl, by show 0 + _ ≤ us.length; rw [h.len]; omega, fun j hj => ?_⟩
    obtain ⟨u, hu⟩ : ∃ u, us[j]? = some u := ⟨_, List.getElem?_eq_getElem (by rw [h.len]; exact hj)⟩
    refine ⟨u, by rw [Nat.zero_add]; exact hu, ?_⟩
    obtain ⟨l, b1, b2⟩ := h.row j u hu
    have el : H[j] = l := by
      rw [List.getElem?_eq_getElem hj] at b1
      simpa using b1
    rw [el]
    rcases b2 with ⟨c1, c2⟩ | ⟨p, c1, c2, c3, c4, c5⟩
    · exact .inl ⟨c1, .inl c2⟩
    · refine .inr ⟨p, 0, l.length, _, c1, Nat.le_refl _, c5, rfl, by show 0 + _ ≤ (l.map vi).length; simp, fun k hk => ?_⟩
      show (l.map vi)[0 + k]? = _
      rw [Nat.zero_add, List.getElem?_map, List.getElem?_eq_getElem hk]
      rfl
end Go.AM
namespace Go.AM
open Go Go.Proofs
theorem toI_cl {G : List (List Nat)} (i j : Nat) : hcl (toI G) i j = rwL (G.getD i []) j := by
  unfold hcl hrow toI rwL
  rw [List.getD_eq_getElem?_getD, List.getD_eq_getElem?_getD, List.getD_eq_getElem?_getD, List.getD_eq_getElem?_getD, List.getElem?_map]
  cases G[i]? with
  | none => rfl
  | some r =>
    show ((r.map fun v => ((v : Nat) : Int))[j]?).getD 0 = _
    rw [List.getElem?_map]
    show ((r[j]?).map _).getD 0 = (((r[j]?).getD 0 : Nat) : Int)
    cases r[j]? <;> rfl
theorem fG_ofL {a b : Nat} {G : List (List Nat)} (h1 : G.length = a) (h2 : ∀ r ∈ G, r.length = b) {i j : Nat} (hi : i < a) (hj : j < b) : fG G i j = ofL b G.flatten i j := by
  have e := hl_rows G h2
  rw [h1] at e
  have e2 := hl_cl (f := ofL b G.flatten) hi hj
  rw [e, toI_cl] at e2
  exact e2
theorem boxOk_true {a b c : Nat} (ha : 1 ≤ a ∧ a ≤ 4) (hb : 1 ≤ b ∧ b ≤ 4) (hc : 1 ≤ c ∧ c ≤ 4) : boxOk a b c = true := by
  unfold boxOk sideOk
  simp only [Bool.and_eq_true, decide_eq_true_eq]
  omega
theorem ex0 (x y : Value) : mextract 0 (.tuple #[x, y]) = some x := rfl
theorem ex1 (x y : Value) : mextract 1 (.tuple #[x, y]) = some y := rfl
end Go.AM
namespace Go.AM
open Go Go.Proofs
/-- Same of two heaps of four by four at most. -/
theorem same_hl (n base : Nat) (hn : 5 ≤ n) {m : M} {v w : Value} {a b : Nat} (ha : a ≤ 4) (hb : b ≤ 4) {f g : Nat → Nat → Int} (hv : Mats m v (hl a b f)) (hw : Mats m w (hl a b g)) : rt (n + 1) base 26 [v, w] m = some (.ret (.bool (decide (hl a b f = hl a b g))), m) :=
  t26 n base hv hw (fun i hi => by
    rw [hl_len] at hi
    rw [hl_rowlen hi]
    omega) (by rw [hl_len]; omega) (by rw [hl_len]; omega)
end Go.AM
namespace Go.AM
open Go Go.Proofs
end Go.AM
namespace Go.AM
open Go Go.Proofs
theorem eql24' (x y : Int) : mbin E .eql 24 (vi x) (vi y) = some (.bool (decide (x = y))) := by
  have e : mbin E .eql 24 (vi x) (vi y) = some (.bool (x == y)) := by kernel_rfl
  rw [e]; congr 2
theorem mb23 (A B C : Int) : mbuild E.P 23 [(0, vi A), (1, vi B), (2, vi C)] = some (boxV A B C) := by kernel_rfl
theorem al23' (m : M) : xalloc E.P m 23 = some (pt m.length 0, m ++ [cellR [vi 0, vi 0, vi 0]]) := by
  have e : xalloc E.P m 23 = xlen m fun n => xpush m (cellR [vi 0, vi 0, vi 0]) fun m' => some (pt n 0, m') := by kernel_rfl
  rw [e, xlen_eq, fNat_eq, xpush_eq, fList_eq]
end Go.AM
namespace Go.AM
open Go Go.Proofs
end Go.AM
namespace Go.AM
open Go Go.Proofs
/-- The cells of a list of places. -/
def cl2 (l : List (Nat × Nat)) : List Value := l.flatMap fun p => [vi p.1, vi p.2]
/-- Two lists of places that grow. -/
structure C2 (B : Nat) (m : M) (va : Value) (la : List (Nat × Nat)) (vt : Value) (lt : List (Nat × Nat)) : Prop where
  a : Grow 2 B m va (cl2 la) la.length
  t : Grow 2 B m vt (cl2 lt) lt.length
  sep : ∀ r n n', va = sl r n → vt ≠ sl r n'
theorem Grow.keep2 {B : Nat} {m m' : M} {v : Value} {cs : List Value} {n : Nat} (h : Grow 2 B m v cs n) (e : ∀ x k, v = sl x k → x < m.length → m'[x]? = m[x]?) : Grow 2 B m' v cs n := by
  rcases h with g | ⟨r, a1, a2, a3, a4, a5⟩
  · exact .inl g
  · exact .inr ⟨r, a1, a2, a3, (e r n a3 (List.getElem?_eq_some_iff.1 a4).1).trans a4, a5⟩
theorem C2.push {B : Nat} {m : M} {va vt : Value} {la lt : List (Nat × Nat)} (h : C2 B m va la vt lt) (x : List Row) : C2 B (m ++ x) va la vt lt :=
  ⟨h.a.keep2 fun x k _ hx => List.getElem?_append_left hx, h.t.keep2 fun x k _ hx => List.getElem?_append_left hx, h.sep⟩
theorem C2.set {B : Nat} {m : M} {va vt : Value} {la lt : List (Nat × Nat)} (h : C2 B m va la vt lt) {q : Nat} (h1 : ∀ n, va ≠ sl q n) (h2 : ∀ n, vt ≠ sl q n) (r : Row) : C2 B (m.set q r) va la vt lt :=
  ⟨h.a.keep2 fun x k e _ => set_ne rfl (fun e2 => h1 k (e2 ▸ e)), h.t.keep2 fun x k e _ => set_ne rfl (fun e2 => h2 k (e2 ▸ e)), h.sep⟩
def rowP (P : Nat → Nat → Bool) (i j n : Nat) : List (Nat × Nat) := ((List.range' j n).filter (P i)).map fun j => (j, i)
def allP (P : Nat → Nat → Bool) (b i n : Nat) : List (Nat × Nat) := (List.range' i n).flatMap fun i => rowP P i 0 b
theorem mem_rowP {P : Nat → Nat → Bool} {i j n : Nat} {q : Nat × Nat} : q ∈ rowP P i j n ↔ q.2 = i ∧ j ≤ q.1 ∧ q.1 < j + n ∧ P i q.1 = true := by
  unfold rowP
  rw [List.mem_map]
  constructor
  · rintro ⟨x, hx, rfl⟩
    rw [List.mem_filter, List.mem_range'_1] at hx
    exact ⟨rfl, hx.1.1, hx.1.2, hx.2⟩
  · rintro ⟨h1, h2, h3, h4⟩
    exact ⟨q.1, by rw [List.mem_filter, List.mem_range'_1]; exact ⟨⟨h2, h3⟩, h4⟩, by rw [← h1]⟩
theorem mem_allP {P : Nat → Nat → Bool} {b i n : Nat} {q : Nat × Nat} : q ∈ allP P b i n ↔ i ≤ q.2 ∧ q.2 < i + n ∧ q.1 < b ∧ P q.2 q.1 = true := by
  unfold allP
  rw [List.mem_flatMap]
  constructor
  · rintro ⟨x, hx, hq⟩
    rw [List.mem_range'_1] at hx
    rw [mem_rowP] at hq
    obtain ⟨rfl, _, h3, h4⟩ := hq
    exact ⟨hx.1, hx.2, by omega, h4⟩
  · rintro ⟨h1, h2, h3, h4⟩
    exact ⟨q.2, by rw [List.mem_range'_1]; exact ⟨h1, h2⟩, mem_rowP.2 ⟨rfl, Nat.zero_le _, by omega, h4⟩⟩
def takP (A B C : Int) (f : Nat → Nat → Int) (i j : Nat) : Bool := decide (f i j > leastP A B C f i j)
end Go.AM
namespace Go.AM
open Go Go.Proofs
theorem r70_L0_s (call : CallF) (fuel base : Nat) (kx0 : Value → M → Res2) (n : Nat) (x1 x2 x5 x6 : Value) (m : M) : r70_L0 call fuel base kx0 (n + 1) x1 x2 x5 x6 m =
    (k1n (mfieldAddr E.P 23 x2 0) fun v11_4 => (k1n (xload E.P m 3 v11_4) fun v12_5 => (k1n (mbin E .lss 3 x6 v12_5) fun v13_6 => (kb v13_6 (r70_L2 call fuel base (fun y1_29 y2_30 y5_31 y6_32 m => (k1n (mbin E .add 3 y6_32 (.int .i64 1)) fun v15_33 => (r70_L0 call fuel base kx0 n y1_29 y2_30 y5_31 v15_33 m))) fuel x1 x2 x5 x6 (.int .i64 0) m) (kx0 x5 m))))) := by
  unfold r70_L0
  rw [k1_fun]
theorem r70_L2_s (call : CallF) (fuel base : Nat) (kx2 : Value → Value → Value → Value → M → Res2) (n : Nat) (x1 x2 x5 x6 x7 : Value) (m : M) : r70_L2 call fuel base kx2 (n + 1) x1 x2 x5 x6 x7 m =
    (k1n (mfieldAddr E.P 23 x2 1) fun v17_7 => (k1n (xload E.P m 3 v17_7) fun v18_8 => (k1n (mbin E .lss 3 x7 v18_8) fun v19_9 => (kb v19_9 (k1n (mindexAddr E.P 33 x5 x6) fun v24_10 => (k1n (xload E.P m 27 v24_10) fun v25_11 => (k1n (mfieldAddr E.P 23 x2 2) fun v27_12 => (k1n (xload E.P m 3 v27_12) fun v28_13 => (k1n (mfieldAddr E.P 23 x2 0) fun v30_14 => (k1n (xload E.P m 3 v30_14) fun v31_15 => (k1n (mbin E .sub 3 v31_15 (.int .i64 1)) fun v32_16 => (k1n (mbin E .sub 3 v32_16 x6) fun v34_17 => (k1n (mindexAddr E.P 33 x1 v34_17) fun v35_18 => (k1n (xload E.P m 27 v35_18) fun v36_19 => (k1n (mfieldAddr E.P 23 x2 1) fun v37_20 => (k1n (xload E.P m 3 v37_20) fun v38_21 => (k1n (mbin E .sub 3 v38_21 (.int .i64 1)) fun v39_22 => (k1n (mbin E .sub 3 v39_22 x7) fun v41_23 => (k1n (mindexAddr E.P 27 v36_19 v41_23) fun v42_24 => (k1n (xload E.P m 3 v42_24) fun v43_25 => (k1n (mbin E .sub 3 v28_13 v43_25) fun v44_26 => (k1n (mindexAddr E.P 27 v25_11 x7) fun v45_27 => (ks (xstore E.P base m 3 v45_27 v44_26) fun m => (k1n (mbin E .add 3 x7 (.int .i64 1)) fun v21_28 => (r70_L2 call fuel base kx2 n x1 x2 x5 x6 v21_28 m))))))))))))))))))))) (kx2 x1 x2 x5 x6 m))))) := by
  unfold r70_L2
  rw [k1_fun]
def cmpF (a b : Nat) (c : Int) (f : Nat → Nat → Int) : Nat → Nat → Int := fun x y => c - f (a - 1 - x) (b - 1 - y)
def cmpTo (a b : Nat) (c : Int) (f : Nat → Nat → Int) (i j : Nat) : Nat → Nat → Int := fun x y => if x < i ∨ (x = i ∧ y < j) then cmpF a b c f x y else 0
theorem loop70i (call : CallF) (fuel base : Nat) (kx : Value → Value → Value → Value → M → Res2) {m0 : M} {v : Value} {a b : Nat} {c : Int} {f : Nat → Nat → Int} (hv : Mats m0 v (hl a b f)) (ha : a ≤ 4) (hb : b ≤ 4) (hc : 0 ≤ c ∧ c ≤ 4) (hf : ∀ i j, i < a → j < b → 0 ≤ f i j ∧ f i j ≤ 4) {B p2 o : Nat} {ps : List Nat} (hB : m0.length ≤ B) (hbase : base ≤ B) (h2 : m0[p2]? = some (cellR [vi a, vi b, vi c])) {i : Nat} (hi : i < a) :
    ∀ (n j : Nat) (m : M), j ≤ b → b < n + j → Keeps m0.length m0 m → HM B m o ps a b (cmpTo a b c f i j) →
      ∃ m', Keeps m0.length m0 m' ∧ HM B m' o ps a b (cmpTo a b c f i b) ∧ m'.length = m.length ∧ r70_L2 call fuel base kx n v (pt p2 0) (sl o a) (vi i) (vi j) m = kx v (pt p2 0) (sl o a) (vi i) m'
  | 0, j, m, hj, hn, _, _ => by omega
  | n + 1, j, m, hj, hn, hK, hH => by
    have h2m := (hK.2 p2 (List.getElem?_eq_some_iff.1 h2).1).trans h2
    rw [r70_L2_s, ff23_1, k1s, ld3, box_cell h2m _ _ rfl, k1s, lss_nat, k1s]
    by_cases hlt : j < b
    · obtain ⟨p, hp⟩ := hH.getp hi
      obtain ⟨m1, e1, H1, l1, k1⟩ := hH.store hbase hp hlt (cmpF a b c f i j)
      have hK1 : Keeps m0.length m0 m1 := hK.trans ⟨by omega, fun x hx => k1 x (hH.B_le (by omega))⟩
      obtain ⟨m2, K2, H2, l2, e2⟩ := loop70i call fuel base kx hv ha hb hc hf hB hbase h2 hi n (j + 1) m1 (by omega) (by omega) hK1 (H1.congr fun x y _ _ => by
        unfold upd cmpTo
        by_cases e : x = i ∧ y = j
        · rw [if_pos e, if_pos (by omega), e.1, e.2]
        · rw [if_neg e]
          by_cases e2 : x < i ∨ (x = i ∧ y < j)
          · rw [if_pos e2, if_pos (by omega)]
          · rw [if_neg e2, if_neg (by omega)])
      refine ⟨m2, K2, H2, l2.trans l1, ?_⟩
      obtain ⟨u, hu, eu⟩ := hv.getK hK (j := a - 1 - i) (by rw [hl_len]; omega)
      have hum := hu.keeps hK
      have hbd := hf (a - 1 - i) (b - 1 - j) (by omega) (by omega)
      have hcc : ((hl a b f).getD (a - 1 - i) []).getD (b - 1 - j) 0 = f (a - 1 - i) (b - 1 - j) := hl_cl (by omega) (by omega)
      have hul : ((hl a b f).getD (a - 1 - i) []).length = b := hl_rowlen (by omega)
      have s1 : mbin E .sub 3 (vi (a - 1 : Nat)) (vi i) = some (vi (a - 1 - i : Nat)) := by rw [sub3, wr_id (by omega) (by omega), show ((a - 1 : Nat) : Int) - (i : Int) = ((a - 1 - i : Nat) : Int) by omega]
      have s2 : mbin E .sub 3 (vi (b - 1 : Nat)) (vi j) = some (vi (b - 1 - j : Nat)) := by rw [sub3, wr_id (by omega) (by omega), show ((b - 1 : Nat) : Int) - (j : Int) = ((b - 1 - j : Nat) : Int) by omega]
      rw [decide_eq_true hlt, kbt, hH.ldrow hp, ff23_2, k1s, ld3, box_cell h2m _ _ rfl, k1s, ff23_0, k1s, ld3, box_cell h2m _ _ rfl, k1s, sub1 a (by omega) (by omega), k1s, s1, k1s, eu, k1s, ld3, box_cell h2m _ _ rfl, k1s, sub1 b (by omega) (by omega), k1s, s2, k1s, hum.getD (by omega), hcc, sub3, wr_id (by omega) (by omega), k1s, ix27 p b b j hlt, k1s]
      rw [show c - f (a - 1 - i) (b - 1 - j) = cmpF a b c f i j from rfl, e1, kss, add1 j (by omega), k1s]
      exact e2
    · have e : j = b := by omega
      subst e
      rw [decide_eq_false hlt, kbf]
      exact ⟨m, hK, hH, rfl, rfl⟩
theorem loop70 (call : CallF) (fuel base : Nat) (kx : Value → M → Res2) {m0 : M} {v : Value} {a b : Nat} {c : Int} {f : Nat → Nat → Int} (hv : Mats m0 v (hl a b f)) (ha : a ≤ 4) (hb : b ≤ 4) (hc : 0 ≤ c ∧ c ≤ 4) (hf : ∀ i j, i < a → j < b → 0 ≤ f i j ∧ f i j ≤ 4) {B p2 o : Nat} {ps : List Nat} (hB : m0.length ≤ B) (hbase : base ≤ B) (h2 : m0[p2]? = some (cellR [vi a, vi b, vi c])) (hfu : 5 ≤ fuel) :
    ∀ (n i : Nat) (m : M), i ≤ a → a < n + i → Keeps m0.length m0 m → HM B m o ps a b (cmpTo a b c f i 0) →
      ∃ m', Keeps m0.length m0 m' ∧ HM B m' o ps a b (cmpF a b c f) ∧ r70_L0 call fuel base kx n v (pt p2 0) (sl o a) (vi i) m = kx (sl o a) m'
  | 0, i, m, hi, hn, _, _ => by omega
  | n + 1, i, m, hi, hn, hK, hH => by
    have h2m := (hK.2 p2 (List.getElem?_eq_some_iff.1 h2).1).trans h2
    rw [r70_L0_s, ff23_0, k1s, ld3, box_cell h2m _ _ rfl, k1s, lss_nat, k1s]
    by_cases hlt : i < a
    · obtain ⟨m1, K1, H1, l1, e1⟩ := loop70i call fuel base (fun y1_29 y2_30 y5_31 y6_32 m => (k1n (mbin E .add 3 y6_32 (.int .i64 1)) fun v15_33 => (r70_L0 call fuel base kx n y1_29 y2_30 y5_31 v15_33 m))) hv ha hb hc hf hB hbase h2 hlt fuel 0 m (Nat.zero_le _) (by omega) hK hH
      obtain ⟨m2, K2, H2, e2⟩ := loop70 call fuel base kx hv ha hb hc hf hB hbase h2 hfu n (i + 1) m1 (by omega) (by omega) K1 (H1.congr fun x y _ hy => by
        unfold cmpTo
        by_cases e2 : x < i ∨ (x = i ∧ y < b)
        · rw [if_pos e2, if_pos (by omega)]
        · rw [if_neg e2, if_neg (by omega)])
      refine ⟨m2, K2, H2, ?_⟩
      rw [decide_eq_true hlt, kbt, show (.int .i64 0 : Value) = vi ((0 : Nat) : Int) from rfl]
      refine Eq.trans e1 ?_
      rw [add1 i (by omega), k1s]
      exact e2
    · have e : i = a := by omega
      rw [decide_eq_false hlt, kbf]
      refine ⟨m, hK, hH.congr fun x y hx _ => ?_, rfl⟩
      unfold cmpTo
      rw [if_pos (by omega)]
theorem t70 (N base : Nat) (hN : 10 ≤ N) {m : M} (hbm : base ≤ m.length) {v : Value} {a b c : Nat} {f : Nat → Nat → Int} (hv : Mats m v (hl a b f)) (ha : 1 ≤ a ∧ a ≤ 4) (hb : b ≤ 4) (hc : c ≤ 4) (hf : ∀ i j, i < a → j < b → 0 ≤ f i j ∧ f i j ≤ 4) :
    ∃ o ps m', Keeps m.length m m' ∧ HM m.length m' o ps a b (cmpF a b c f) ∧ rt (N + 2) base 70 [boxV a b c, v] m = some (.ret (sl o a), m') := by
  have g0 : (m ++ [cellR [vi a, vi b, vi c]])[m.length]? = some (cellR [vi a, vi b, vi c]) := get_new
  obtain ⟨o, m1, ps, H1, K1, e54⟩ := t54 N base (c : Int) ha.1 (by omega) (show b ≤ 100 by omega) (by omega) (m ++ [cellR [vi a, vi b, vi c]]) (by simp; omega)
  obtain ⟨m2, K2, H2, e2⟩ := loop70 (rt (N + 1)) (N + 1) base (fun y5 m => some (.ret y5, m)) (m0 := m ++ [cellR [vi a, vi b, vi c]]) (c := (c : Int)) (B := (m ++ [cellR [vi a, vi b, vi c]]).length + 1) (hv.app _) ha.2 hb (by omega) hf (by omega) (by simp; omega) g0 (by omega) (N + 1) 0 m1 (Nat.zero_le _) (by omega) K1 (H1.congr fun x y _ _ => by
    unfold cmpTo
    rw [if_neg (by omega)])
  refine ⟨o, ps, m2, (Keeps.push _ _ (Nat.le_refl _) _).trans (K2.mono (by simp)), ⟨H2.out, by have := H2.bo; simp at this; omega, H2.len, fun i p hp => by
    obtain ⟨c1, c2, c3⟩ := H2.row i p hp
    simp at c1
    exact ⟨by omega, c2, c3⟩, H2.inj⟩, ?_⟩
  rw [rt_imp (f := 70) (rf := rf70) (by kernel_rfl) (by kernel_rfl) (by kernel_rfl)]
  show r70 (rt (N + 1)) (N + 1) base (boxV a b c) v m = _
  unfold r70
  rw [k1_fun, fVal_fun, bx23, k2s, ldb23 g0, k1s, e54, kcs, show (.int .i64 0 : Value) = vi ((0 : Nat) : Int) from rfl]
  exact e2
end Go.AM
namespace Go.AM
open Go Go.Proofs
def mstF (c : Int) (f : Nat → Nat → Int) (i j : Nat) : Int := min (if 0 < i then f (i - 1) j else c) (if 0 < j then f i (j - 1) else c)
def lstF (a b : Nat) (f : Nat → Nat → Int) (i j : Nat) : Int := max (if i + 1 < a then f (i + 1) j else 0) (if j + 1 < b then f i (j + 1) else 0)
/-- A heap. -/
def Valid (a b : Nat) (c : Int) (f : Nat → Nat → Int) : Prop := ∀ i j, i < a → j < b → 0 ≤ f i j ∧ f i j ≤ mstF c f i j
theorem fH_in {a b : Nat} {f : Nat → Nat → Int} {i j : Nat} (hi : i < a) (hj : j < b) : fH a b (hl a b f) i j = f i j := by
  unfold fH
  rw [if_pos ⟨hi, hj⟩, hl_cl hi hj]
theorem takP_eq {a b : Nat} {c : Int} {f : Nat → Nat → Int} {i j : Nat} (hi : i < a) (hj : j < b) : takP a b c (fH a b (hl a b f)) i j = decide (lstF a b f i j < f i j) := by
  unfold takP
  rw [fH_in hi hj]
  have e : leastP a b c (fH a b (hl a b f)) i j = lstF a b f i j := by
    unfold leastP lstF atP
    congr 1
    · by_cases h0 : i + 1 < a
      · rw [if_neg (by omega), if_neg (by omega), if_pos h0, show ((i : Int) + 1).toNat = i + 1 by omega, Int.toNat_natCast, fH_in h0 hj]
      · rw [if_neg (by omega), if_pos (by omega), if_neg h0]
    · by_cases h0 : j + 1 < b
      · rw [if_neg (by omega), if_neg (by omega), if_pos h0, show ((j : Int) + 1).toNat = j + 1 by omega, Int.toNat_natCast, fH_in hi h0]
      · rw [if_neg (by omega), if_pos (by omega), if_neg h0]
  rw [e]
theorem allP_mem {P : Nat → Nat → Bool} {a b : Nat} {q : Nat × Nat} : q ∈ allP P b 0 a ↔ q.2 < a ∧ q.1 < b ∧ P q.2 q.1 = true := by
  rw [mem_allP]
  constructor
  · rintro ⟨_, h2, h3, h4⟩; exact ⟨by omega, h3, h4⟩
  · rintro ⟨h2, h3, h4⟩; exact ⟨Nat.zero_le _, by omega, h3, h4⟩
theorem lst_nn {a b : Nat} {c : Int} {f : Nat → Nat → Int} (h : Valid a b c f) {i j : Nat} (hi : i < a) (hj : j < b) : 0 ≤ lstF a b f i j := by
  unfold lstF
  by_cases h1 : i + 1 < a
  · have := (h (i + 1) j h1 hj).1
    rw [if_pos h1]; omega
  · rw [if_neg h1]; omega
end Go.AM
namespace Go.AM
open Go Go.Proofs
def Bys (m : M) (v : Value) (l : List (Fin 256)) : Prop := (l = [] ∧ (v = nilS ∨ v = emS)) ∨ ∃ p row, v = slo p 0 l.length l.length ∧ m[p]? = some row ∧ row.esz = 1 ∧ ∀ j (h : j < l.length), row.cells[j]? = some (.int .u8 (l[j].val : Int))
theorem Bys.at {m m' : M} {v : Value} {l : List (Fin 256)} (h : Bys m v l) (hk : ∀ i, i < m.length → m'[i]? = m[i]?) : Bys m' v l := by
  rcases h with h | ⟨p, row, h1, h3, h4⟩
  · exact .inl h
  · exact .inr ⟨p, row, h1, (hk p (List.getElem?_eq_some_iff.1 h3).1).trans h3, h4⟩
theorem Bys.keeps {m m' : M} {v : Value} {l : List (Fin 256)} (h : Bys m v l) (hk : Keeps m.length m m') : Bys m' v l := h.at hk.2
theorem Bys.app {m : M} {v : Value} {l : List (Fin 256)} (h : Bys m v l) (x : List Row) : Bys (m ++ x) v l := h.keeps (Keeps.push _ _ (Nat.le_refl _) _)
theorem Bys.len {m : M} {v : Value} {l : List (Fin 256)} (h : Bys m v l) (base : Nat) (m' : M) : vcalln E.P base m' .len [63] [v] = some (vi l.length, m') := by
  rcases h with ⟨rfl, rfl | rfl⟩ | ⟨p, row, rfl, _⟩
  · kernel_rfl
  · kernel_rfl
  · kernel_rfl
end Go.AM
