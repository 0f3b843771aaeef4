import Derived.KernelRfl
import Derived.Laws.BytesArg
import Derived.Laws.StructEq
import Derived.Test.YtoggcogekknlkaaRows
import Derived.WalkKit
import Derived.Test.YtoggcogekknlkaaAmB
import Derived.Test.YtoggcogekknlkaaAmModel
import Derived.Test.YtoggcogekknlkaaAmOps5
import Derived.Test.YtoggcogekknlkaaAmOps6
import Derived.Test.YtoggcogekknlkaaAmCode
import Derived.Test.YtoggcogekknlkaaAmX
import Derived.Test.YtoggcogekknlkaaAmEq
import Derived.Test.YtoggcogekknlkaaRBase
import Derived.Test.YtoggcogekknlkaaR95
import Derived.Test.YtoggcogekknlkaaR126
import Derived.Test.YtoggcogekknlkaaAmS
import Derived.Test.YtoggcogekknlkaaS16
import Derived.Test.YtoggcogekknlkaaS17
import Derived.Test.YtoggcogekknlkaaWB
set_option linter.unusedVariables false
set_option linter.unusedSimpArgs false
set_option linter.unusedSectionVars false
namespace Go.AM
open Go Go.Proofs
theorem r131_L0_s (call : CallF) (fuel base : Nat) (kx0 : Value → Value → Value → Value → M → Res2) (n : Nat) (x0 x1 x10 x11 : Value) (m : M) : r131_L0 call fuel base kx0 (n + 1) x0 x1 x10 x11 m =
    (k1n (mbin E .leq 3 x10 x11) fun v32_9 => (kb v32_9 (k1n (mindexAddr E.P 33 x0 x10) fun v36_10 => (k1n (xload E.P m 3 v36_10) fun v37_11 => (k1n (mindexAddr E.P 33 x0 x1) fun v40_12 => (k1n (xload E.P m 3 v40_12) fun v41_13 => (kc (kB m (call m.length 129 [v37_11, v41_13] m)) (fun v42_14 m => (kb v42_14 (k1n (mbin E .add 3 x10 (.int .i64 1)) fun v45_15 => (r131_L0 call fuel base kx0 n x0 x1 v45_15 x11 m)) (kx0 x0 x1 x10 x11 m))) (fun _ _ => none)))))) (kx0 x0 x1 x10 x11 m))) := by
  unfold r131_L0
  rw [k1_fun]
theorem r131_L2_s (call : CallF) (fuel base : Nat) (kx2 : Value → Value → Value → Value → M → Res2) (n : Nat) (x0 x1 x10 x11 : Value) (m : M) : r131_L2 call fuel base kx2 (n + 1) x0 x1 x10 x11 m =
    (k1n (mbin E .leq 3 x10 x11) fun v48_20 => (kb v48_20 (k1n (mindexAddr E.P 33 x0 x11) fun v52_21 => (k1n (xload E.P m 3 v52_21) fun v53_22 => (k1n (mindexAddr E.P 33 x0 x1) fun v56_23 => (k1n (xload E.P m 3 v56_23) fun v57_24 => (kc (kB m (call m.length 129 [v53_22, v57_24] m)) (fun v58_25 m => (k1n (mun .not v58_25) fun v59_26 => (kb v59_26 (k1n (mbin E .sub 3 x11 (.int .i64 1)) fun v62_27 => (r131_L2 call fuel base kx2 n x0 x1 x10 v62_27 m)) (kx2 x0 x1 x10 x11 m)))) (fun _ _ => none)))))) (kx2 x0 x1 x10 x11 m))) := by
  unfold r131_L2
  rw [k1_fun]
theorem r131_L4_s (call : CallF) (fuel base : Nat) (kx4 : Value → Value → Value → M → Res2) (n : Nat) (x0 x1 x10 x11 : Value) (m : M) : r131_L4 call fuel base kx4 (n + 1) x0 x1 x10 x11 m =
    (r131_L6 call fuel base (fun y0_54 y1_55 y10_56 y11_57 m => (r131_L8 call fuel base (fun y0_66 y1_67 y10_68 y11_69 m => (k1n (mbin E .gtr 3 y10_68 y11_69) fun v134_70 => (kb v134_70 (kx4 y0_66 y1_67 y11_69 m) (k1n (mindexAddr E.P 33 y0_66 y11_69) fun v141_71 => (k1n (xload E.P m 3 v141_71) fun v142_72 => (k1n (mindexAddr E.P 33 y0_66 y10_68) fun v145_73 => (k1n (xload E.P m 3 v145_73) fun v146_74 => (k1n (mindexAddr E.P 33 y0_66 y10_68) fun v147_75 => (ks (xstore E.P base m 3 v147_75 v142_72) fun m => (k1n (mindexAddr E.P 33 y0_66 y11_69) fun v148_76 => (ks (xstore E.P base m 3 v148_76 v146_74) fun m => (k1n (mbin E .add 3 y10_68 (.int .i64 1)) fun v150_77 => (k1n (mbin E .sub 3 y11_69 (.int .i64 1)) fun v152_78 => (r131_L4 call fuel base kx4 n y0_66 y1_67 v150_77 v152_78 m)))))))))))))) fuel y0_54 y1_55 y10_56 y11_57 m)) fuel x0 x1 x10 x11 m) := by
  unfold r131_L4
  rw [k1_fun]
theorem r131_L6_s (call : CallF) (fuel base : Nat) (kx6 : Value → Value → Value → Value → M → Res2) (n : Nat) (x0 x1 x10 x11 : Value) (m : M) : r131_L6 call fuel base kx6 (n + 1) x0 x1 x10 x11 m =
    (k1n (mbin E .leq 3 x10 x11) fun v101_47 => (kb v101_47 (k1n (mindexAddr E.P 33 x0 x10) fun v105_48 => (k1n (xload E.P m 3 v105_48) fun v106_49 => (k1n (mindexAddr E.P 33 x0 x1) fun v109_50 => (k1n (xload E.P m 3 v109_50) fun v110_51 => (kc (kB m (call m.length 129 [v106_49, v110_51] m)) (fun v111_52 m => (kb v111_52 (k1n (mbin E .add 3 x10 (.int .i64 1)) fun v114_53 => (r131_L6 call fuel base kx6 n x0 x1 v114_53 x11 m)) (kx6 x0 x1 x10 x11 m))) (fun _ _ => none)))))) (kx6 x0 x1 x10 x11 m))) := by
  unfold r131_L6
  rw [k1_fun]
theorem r131_L8_s (call : CallF) (fuel base : Nat) (kx8 : Value → Value → Value → Value → M → Res2) (n : Nat) (x0 x1 x10 x11 : Value) (m : M) : r131_L8 call fuel base kx8 (n + 1) x0 x1 x10 x11 m =
    (k1n (mbin E .leq 3 x10 x11) fun v117_58 => (kb v117_58 (k1n (mindexAddr E.P 33 x0 x11) fun v121_59 => (k1n (xload E.P m 3 v121_59) fun v122_60 => (k1n (mindexAddr E.P 33 x0 x1) fun v125_61 => (k1n (xload E.P m 3 v125_61) fun v126_62 => (kc (kB m (call m.length 129 [v122_60, v126_62] m)) (fun v127_63 m => (k1n (mun .not v127_63) fun v128_64 => (kb v128_64 (k1n (mbin E .sub 3 x11 (.int .i64 1)) fun v131_65 => (r131_L8 call fuel base kx8 n x0 x1 x10 v131_65 m)) (kx8 x0 x1 x10 x11 m)))) (fun _ _ => none)))))) (kx8 x0 x1 x10 x11 m))) := by
  unfold r131_L8
  rw [k1_fun]
theorem r130_L2_s (call : CallF) (fuel base : Nat) (kx2 : Value → Value → Value → Value → M → Res2) (n : Nat) (x0 x1 x9 x10 : Value) (m : M) : r130_L2 call fuel base kx2 (n + 1) x0 x1 x9 x10 m =
    (k1n (mbin E .leq 3 x9 x10) fun v31_9 => (kb v31_9 (k1n (mindexAddr E.P 33 x0 x1) fun v35_10 => (k1n (xload E.P m 3 v35_10) fun v36_11 => (k1n (mindexAddr E.P 33 x0 x9) fun v39_12 => (k1n (xload E.P m 3 v39_12) fun v40_13 => (kc (kB m (call m.length 129 [v36_11, v40_13] m)) (fun v41_14 m => (k1n (mun .not v41_14) fun v42_15 => (kb v42_15 (k1n (mbin E .add 3 x9 (.int .i64 1)) fun v45_16 => (r130_L2 call fuel base kx2 n x0 x1 v45_16 x10 m)) (kx2 x0 x1 x9 x10 m)))) (fun _ _ => none)))))) (kx2 x0 x1 x9 x10 m))) := by
  unfold r130_L2
  rw [k1_fun]
theorem r130_L4_s (call : CallF) (fuel base : Nat) (kx4 : Value → Value → Value → Value → M → Res2) (n : Nat) (x0 x1 x9 x10 : Value) (m : M) : r130_L4 call fuel base kx4 (n + 1) x0 x1 x9 x10 m =
    (k1n (mbin E .leq 3 x9 x10) fun v48_21 => (kb v48_21 (k1n (mindexAddr E.P 33 x0 x1) fun v52_22 => (k1n (xload E.P m 3 v52_22) fun v53_23 => (k1n (mindexAddr E.P 33 x0 x10) fun v56_24 => (k1n (xload E.P m 3 v56_24) fun v57_25 => (kc (kB m (call m.length 129 [v53_23, v57_25] m)) (fun v58_26 m => (kb v58_26 (k1n (mbin E .sub 3 x10 (.int .i64 1)) fun v61_27 => (r130_L4 call fuel base kx4 n x0 x1 x9 v61_27 m)) (kx4 x0 x1 x9 x10 m))) (fun _ _ => none)))))) (kx4 x0 x1 x9 x10 m))) := by
  unfold r130_L4
  rw [k1_fun]
theorem r130_L0_s (call : CallF) (fuel base : Nat) (kx0 : Value → M → Res2) (n : Nat) (x0 x1 x9 x10 : Value) (m : M) : r130_L0 call fuel base kx0 (n + 1) x0 x1 x9 x10 m =
    (r130_L2 call fuel base (fun y0_17 y1_18 y9_19 y10_20 m => (r130_L4 call fuel base (fun y0_28 y1_29 y9_30 y10_31 m => (k1n (mbin E .gtr 3 y9_30 y10_31) fun v64_32 => (kb v64_32 (kx0 y9_30 m) (k1n (mindexAddr E.P 33 y0_28 y10_31) fun v71_33 => (k1n (xload E.P m 3 v71_33) fun v72_34 => (k1n (mindexAddr E.P 33 y0_28 y9_30) fun v75_35 => (k1n (xload E.P m 3 v75_35) fun v76_36 => (k1n (mindexAddr E.P 33 y0_28 y9_30) fun v77_37 => (ks (xstore E.P base m 3 v77_37 v72_34) fun m => (k1n (mindexAddr E.P 33 y0_28 y10_31) fun v78_38 => (ks (xstore E.P base m 3 v78_38 v76_36) fun m => (k1n (mbin E .add 3 y9_30 (.int .i64 1)) fun v80_39 => (k1n (mbin E .sub 3 y10_31 (.int .i64 1)) fun v82_40 => (r130_L0 call fuel base kx0 n y0_28 y1_29 v80_39 v82_40 m)))))))))))))) fuel y0_17 y1_18 y9_19 y10_20 m)) fuel x0 x1 x9 x10 m) := by
  unfold r130_L0
  rw [k1_fun]
theorem up131_L0 (n0 base : Nat) (kx : Value → Value → Value → Value → M → Res2) (fuel : Nat) {e : Bool} {m : M} {p C a j : Nat} {F : Nat → Int} (hF : ArrM e m p C F) (hC : C ≤ 400000) (ha : a < C) (hj : j < C) :
    ∀ (n i : Nat), i ≤ j + 1 → j + 1 < n + i → ∃ i', i ≤ i' ∧ i' ≤ j + 1 ∧ (∀ k, i ≤ k → k < i' → F k < F a) ∧ (i' ≤ j → ¬ F i' < F a) ∧ r131_L0 (rt (n0 + 2)) fuel base kx n (sl p C) (vi a) (vi i) (vi j) m = kx (sl p C) (vi a) (vi i') (vi j) m
  | 0, i, h1, hn => by omega
  | n + 1, i, h1, hn => by
    rw [r131_L0_s, leq3, k1s]
    by_cases hle : i ≤ j
    · rw [decide_eq_true (show (i : Int) ≤ j by omega), kbt, hF.get (k := i) (by omega), hF.get (k := a) (by omega), t129, kB_same, kcs]
      by_cases hlt : F i < F a
      · rw [decide_eq_true hlt, kbt]
        rw [add1 i (by omega), k1s]
        obtain ⟨i', z1, z2, z3, z4, z5⟩ := up131_L0 n0 base kx fuel hF hC ha hj n (i + 1) (by omega) (by omega)
        exact ⟨i', by omega, z2, fun k g1 g2 => by
          by_cases e : k = i
          · rw [e]; exact hlt
          · exact z3 k (by omega) g2, z4, z5⟩
      · rw [decide_eq_false hlt, kbf]
        exact ⟨i, Nat.le_refl _, h1, fun k a b => by omega, fun _ => hlt, rfl⟩
    · rw [decide_eq_false (show ¬ (i : Int) ≤ j by omega), kbf]
      exact ⟨i, Nat.le_refl _, h1, fun k a b => by omega, fun h => absurd h hle, rfl⟩
theorem up131_L6 (n0 base : Nat) (kx : Value → Value → Value → Value → M → Res2) (fuel : Nat) {e : Bool} {m : M} {p C a j : Nat} {F : Nat → Int} (hF : ArrM e m p C F) (hC : C ≤ 400000) (ha : a < C) (hj : j < C) :
    ∀ (n i : Nat), i ≤ j + 1 → j + 1 < n + i → ∃ i', i ≤ i' ∧ i' ≤ j + 1 ∧ (∀ k, i ≤ k → k < i' → F k < F a) ∧ (i' ≤ j → ¬ F i' < F a) ∧ r131_L6 (rt (n0 + 2)) fuel base kx n (sl p C) (vi a) (vi i) (vi j) m = kx (sl p C) (vi a) (vi i') (vi j) m
  | 0, i, h1, hn => by omega
  | n + 1, i, h1, hn => by
    rw [r131_L6_s, leq3, k1s]
    by_cases hle : i ≤ j
    · rw [decide_eq_true (show (i : Int) ≤ j by omega), kbt, hF.get (k := i) (by omega), hF.get (k := a) (by omega), t129, kB_same, kcs]
      by_cases hlt : F i < F a
      · rw [decide_eq_true hlt, kbt]
        rw [add1 i (by omega), k1s]
        obtain ⟨i', z1, z2, z3, z4, z5⟩ := up131_L6 n0 base kx fuel hF hC ha hj n (i + 1) (by omega) (by omega)
        exact ⟨i', by omega, z2, fun k g1 g2 => by
          by_cases e : k = i
          · rw [e]; exact hlt
          · exact z3 k (by omega) g2, z4, z5⟩
      · rw [decide_eq_false hlt, kbf]
        exact ⟨i, Nat.le_refl _, h1, fun k a b => by omega, fun _ => hlt, rfl⟩
    · rw [decide_eq_false (show ¬ (i : Int) ≤ j by omega), kbf]
      exact ⟨i, Nat.le_refl _, h1, fun k a b => by omega, fun h => absurd h hle, rfl⟩
theorem down131_L2 (n0 base : Nat) (kx : Value → Value → Value → Value → M → Res2) (fuel : Nat) {e : Bool} {m : M} {p C a i : Nat} {F : Nat → Int} (hF : ArrM e m p C F) (hC : C ≤ 400000) (ha : a < C) (hi : 1 ≤ i) :
    ∀ (n j : Nat), j < C → i ≤ j + 1 → j + 1 < n + i → ∃ j', j' ≤ j ∧ i ≤ j' + 1 ∧ (∀ k, j' < k → k ≤ j → ¬ F k < F a) ∧ (i ≤ j' → F j' < F a) ∧ r131_L2 (rt (n0 + 2)) fuel base kx n (sl p C) (vi a) (vi i) (vi j) m = kx (sl p C) (vi a) (vi i) (vi j') m
  | 0, j, hj, h1, hn => by omega
  | n + 1, j, hj, h1, hn => by
    rw [r131_L2_s, leq3, k1s]
    by_cases hle : i ≤ j
    · rw [decide_eq_true (show (i : Int) ≤ j by omega), kbt, hF.get (k := j) (by omega), hF.get (k := a) (by omega), t129, kB_same, kcs, not4, k1s]
      by_cases hlt : F j < F a
      · rw [decide_eq_true hlt, Bool.not_true, kbf]
        exact ⟨j, Nat.le_refl _, by omega, fun k a b => by omega, fun _ => hlt, rfl⟩
      · rw [decide_eq_false hlt, Bool.not_false, kbt]
        rw [sub1 j (by omega) (by omega), k1s]
        obtain ⟨j', z1, z2, z3, z4, z5⟩ := down131_L2 n0 base kx fuel hF hC ha hi n (j - 1) (by omega) (by omega) (by omega)
        exact ⟨j', by omega, z2, fun k g1 g2 => by
          by_cases e : k = j
          · rw [e]; exact hlt
          · exact z3 k g1 (by omega), z4, z5⟩
    · rw [decide_eq_false (show ¬ (i : Int) ≤ j by omega), kbf]
      exact ⟨j, Nat.le_refl _, h1, fun k a b => by omega, fun h => absurd h hle, rfl⟩
theorem down131_L8 (n0 base : Nat) (kx : Value → Value → Value → Value → M → Res2) (fuel : Nat) {e : Bool} {m : M} {p C a i : Nat} {F : Nat → Int} (hF : ArrM e m p C F) (hC : C ≤ 400000) (ha : a < C) (hi : 1 ≤ i) :
    ∀ (n j : Nat), j < C → i ≤ j + 1 → j + 1 < n + i → ∃ j', j' ≤ j ∧ i ≤ j' + 1 ∧ (∀ k, j' < k → k ≤ j → ¬ F k < F a) ∧ (i ≤ j' → F j' < F a) ∧ r131_L8 (rt (n0 + 2)) fuel base kx n (sl p C) (vi a) (vi i) (vi j) m = kx (sl p C) (vi a) (vi i) (vi j') m
  | 0, j, hj, h1, hn => by omega
  | n + 1, j, hj, h1, hn => by
    rw [r131_L8_s, leq3, k1s]
    by_cases hle : i ≤ j
    · rw [decide_eq_true (show (i : Int) ≤ j by omega), kbt, hF.get (k := j) (by omega), hF.get (k := a) (by omega), t129, kB_same, kcs, not4, k1s]
      by_cases hlt : F j < F a
      · rw [decide_eq_true hlt, Bool.not_true, kbf]
        exact ⟨j, Nat.le_refl _, by omega, fun k a b => by omega, fun _ => hlt, rfl⟩
      · rw [decide_eq_false hlt, Bool.not_false, kbt]
        rw [sub1 j (by omega) (by omega), k1s]
        obtain ⟨j', z1, z2, z3, z4, z5⟩ := down131_L8 n0 base kx fuel hF hC ha hi n (j - 1) (by omega) (by omega) (by omega)
        exact ⟨j', by omega, z2, fun k g1 g2 => by
          by_cases e : k = j
          · rw [e]; exact hlt
          · exact z3 k g1 (by omega), z4, z5⟩
    · rw [decide_eq_false (show ¬ (i : Int) ≤ j by omega), kbf]
      exact ⟨j, Nat.le_refl _, h1, fun k a b => by omega, fun h => absurd h hle, rfl⟩
theorem up130_L2 (n0 base : Nat) (kx : Value → Value → Value → Value → M → Res2) (fuel : Nat) {e : Bool} {m : M} {p C a j : Nat} {F : Nat → Int} (hF : ArrM e m p C F) (hC : C ≤ 400000) (ha : a < C) (hj : j < C) :
    ∀ (n i : Nat), i ≤ j + 1 → j + 1 < n + i → ∃ i', i ≤ i' ∧ i' ≤ j + 1 ∧ (∀ k, i ≤ k → k < i' → ¬ F a < F k) ∧ (i' ≤ j → F a < F i') ∧ r130_L2 (rt (n0 + 2)) fuel base kx n (sl p C) (vi a) (vi i) (vi j) m = kx (sl p C) (vi a) (vi i') (vi j) m
  | 0, i, h1, hn => by omega
  | n + 1, i, h1, hn => by
    rw [r130_L2_s, leq3, k1s]
    by_cases hle : i ≤ j
    · rw [decide_eq_true (show (i : Int) ≤ j by omega), kbt, hF.get (k := a) (by omega), hF.get (k := i) (by omega), t129, kB_same, kcs, not4, k1s]
      by_cases hlt : F a < F i
      · rw [decide_eq_true hlt, Bool.not_true, kbf]
        exact ⟨i, Nat.le_refl _, h1, fun k a b => by omega, fun _ => hlt, rfl⟩
      · rw [decide_eq_false hlt, Bool.not_false, kbt]
        rw [add1 i (by omega), k1s]
        obtain ⟨i', z1, z2, z3, z4, z5⟩ := up130_L2 n0 base kx fuel hF hC ha hj n (i + 1) (by omega) (by omega)
        exact ⟨i', by omega, z2, fun k g1 g2 => by
          by_cases e : k = i
          · rw [e]; exact hlt
          · exact z3 k (by omega) g2, z4, z5⟩
    · rw [decide_eq_false (show ¬ (i : Int) ≤ j by omega), kbf]
      exact ⟨i, Nat.le_refl _, h1, fun k a b => by omega, fun h => absurd h hle, rfl⟩
theorem down130_L4 (n0 base : Nat) (kx : Value → Value → Value → Value → M → Res2) (fuel : Nat) {e : Bool} {m : M} {p C a i : Nat} {F : Nat → Int} (hF : ArrM e m p C F) (hC : C ≤ 400000) (ha : a < C) (hi : 1 ≤ i) :
    ∀ (n j : Nat), j < C → i ≤ j + 1 → j + 1 < n + i → ∃ j', j' ≤ j ∧ i ≤ j' + 1 ∧ (∀ k, j' < k → k ≤ j → F a < F k) ∧ (i ≤ j' → ¬ F a < F j') ∧ r130_L4 (rt (n0 + 2)) fuel base kx n (sl p C) (vi a) (vi i) (vi j) m = kx (sl p C) (vi a) (vi i) (vi j') m
  | 0, j, hj, h1, hn => by omega
  | n + 1, j, hj, h1, hn => by
    rw [r130_L4_s, leq3, k1s]
    by_cases hle : i ≤ j
    · rw [decide_eq_true (show (i : Int) ≤ j by omega), kbt, hF.get (k := a) (by omega), hF.get (k := j) (by omega), t129, kB_same, kcs]
      by_cases hlt : F a < F j
      · rw [decide_eq_true hlt, kbt]
        rw [sub1 j (by omega) (by omega), k1s]
        obtain ⟨j', z1, z2, z3, z4, z5⟩ := down130_L4 n0 base kx fuel hF hC ha hi n (j - 1) (by omega) (by omega) (by omega)
        exact ⟨j', by omega, z2, fun k g1 g2 => by
          by_cases e : k = j
          · rw [e]; exact hlt
          · exact z3 k g1 (by omega), z4, z5⟩
      · rw [decide_eq_false hlt, kbf]
        exact ⟨j, Nat.le_refl _, by omega, fun k a b => by omega, fun _ => hlt, rfl⟩
    · rw [decide_eq_false (show ¬ (i : Int) ≤ j by omega), kbf]
      exact ⟨j, Nat.le_refl _, h1, fun k a b => by omega, fun h => absurd h hle, rfl⟩
end Go.AM
namespace Go.AM
open Go Go.Proofs
theorem loop131 (n0 base : Nat) (kx : Value → Value → Value → M → Res2) (fuel : Nat) {e : Bool} {p C a b : Nat} (hbb : base ≤ p) (hC : C ≤ 400000) (hb : b ≤ C) (hf : C + 2 ≤ fuel) :
    ∀ (n i j : Nat) (m : M) (G : Nat → Int), ArrM e m p C G → a < i → j < b → a ≤ j → i ≤ j + 1 → (∀ k, a < k → k < i → G k < G a) → (∀ k, j < k → k < b → ¬ G k < G a) → j + 1 < n + i →
      ∃ (j' : Nat) (m' : M) (G' : Nat → Int), r131_L4 (rt (n0 + 2)) fuel base kx n (sl p C) (vi a) (vi i) (vi j) m = kx (sl p C) (vi a) (vi j') m' ∧ ArrM e m' p C G' ∧ Oth p m m' ∧ Mix (a + 1) b G G' ∧ a ≤ j' ∧ j' < b ∧ (∀ k, a < k → k ≤ j' → G' k < G' a) ∧ (∀ k, j' < k → k < b → ¬ G' k < G' a)
  | 0, i, j, m, G, hG, h1, h2, h3, h4, hlo, hhi, hn => by omega
  | n + 1, i, j, m, G, hG, h1, h2, h3, h4, hlo, hhi, hn => by
    rw [r131_L4_s]
    obtain ⟨i', a1, a2, a3, a4, a5⟩ := up131_L6 n0 base (fun y0_54 y1_55 y10_56 y11_57 m => (r131_L8 (rt (n0 + 2)) fuel base (fun y0_66 y1_67 y10_68 y11_69 m => (k1n (mbin E .gtr 3 y10_68 y11_69) fun v134_70 => (kb v134_70 (kx y0_66 y1_67 y11_69 m) (k1n (mindexAddr E.P 33 y0_66 y11_69) fun v141_71 => (k1n (xload E.P m 3 v141_71) fun v142_72 => (k1n (mindexAddr E.P 33 y0_66 y10_68) fun v145_73 => (k1n (xload E.P m 3 v145_73) fun v146_74 => (k1n (mindexAddr E.P 33 y0_66 y10_68) fun v147_75 => (ks (xstore E.P base m 3 v147_75 v142_72) fun m => (k1n (mindexAddr E.P 33 y0_66 y11_69) fun v148_76 => (ks (xstore E.P base m 3 v148_76 v146_74) fun m => (k1n (mbin E .add 3 y10_68 (.int .i64 1)) fun v150_77 => (k1n (mbin E .sub 3 y11_69 (.int .i64 1)) fun v152_78 => (r131_L4 (rt (n0 + 2)) fuel base kx n y0_66 y1_67 v150_77 v152_78 m)))))))))))))) fuel y0_54 y1_55 y10_56 y11_57 m)) fuel hG hC (show a < C by omega) (show j < C by omega) fuel i h4 (by omega)
    obtain ⟨j', b1, b2, b3, b4, b5⟩ := down131_L8 n0 base (fun y0_66 y1_67 y10_68 y11_69 m => (k1n (mbin E .gtr 3 y10_68 y11_69) fun v134_70 => (kb v134_70 (kx y0_66 y1_67 y11_69 m) (k1n (mindexAddr E.P 33 y0_66 y11_69) fun v141_71 => (k1n (xload E.P m 3 v141_71) fun v142_72 => (k1n (mindexAddr E.P 33 y0_66 y10_68) fun v145_73 => (k1n (xload E.P m 3 v145_73) fun v146_74 => (k1n (mindexAddr E.P 33 y0_66 y10_68) fun v147_75 => (ks (xstore E.P base m 3 v147_75 v142_72) fun m => (k1n (mindexAddr E.P 33 y0_66 y11_69) fun v148_76 => (ks (xstore E.P base m 3 v148_76 v146_74) fun m => (k1n (mbin E .add 3 y10_68 (.int .i64 1)) fun v150_77 => (k1n (mbin E .sub 3 y11_69 (.int .i64 1)) fun v152_78 => (r131_L4 (rt (n0 + 2)) fuel base kx n y0_66 y1_67 v150_77 v152_78 m)))))))))))))) fuel hG hC (show a < C by omega) (show 1 ≤ i' by omega) fuel j (by omega) a2 (by omega)
    rw [a5, b5, gtr3, k1s]
    have hlo' : ∀ k, a < k → k < i' → G k < G a := fun k g1 g2 => by
      by_cases g : k < i
      · exact hlo k g1 g
      · exact a3 k (by omega) g2
    have hhi' : ∀ k, j' < k → k < b → ¬ G k < G a := fun k g1 g2 => by
      by_cases g : j < k
      · exact hhi k g g2
      · exact b3 k g1 (by omega)
    by_cases hgt : j' < i'
    · rw [decide_eq_true (show (i' : Int) > j' by omega), kbt]
      exact ⟨j', m, G, rfl, hG, Oth.refl _ _, Mix.refl _ _ _, by omega, by omega, fun k g1 g2 => hlo' k g1 (by omega), hhi'⟩
    · have c1 := a4 (by omega)
      have c2 := b4 (by omega)
      have hne : i' ≠ j' := fun e => by rw [e] at c1; exact c1 c2
      obtain ⟨m1, e1, G1, l1, o1⟩ := hG.swp hbb (i := i') (j := j') (by omega) (by omega)
      rw [decide_eq_false (show ¬ (i' : Int) > j' by omega), kbf, hG.get (k := j') (by omega), hG.get (k := i') (by omega), e1, add1 i' (by omega), k1s, sub1 j' (by omega) (by omega), k1s]
      have hsa : sw G i' j' a = G a := sw_o G (by omega) (by omega)
      obtain ⟨q, m', G', z1, z2, z3, z4, z5, z6, z7, z8⟩ := loop131 n0 base kx fuel (a := a) (b := b) hbb hC hb hf n (i' + 1) (j' - 1) m1 _ G1 (by omega) (by omega) (by omega) (by omega) (fun k g1 g2 => by
        rw [hsa]
        by_cases g : k = i'
        · rw [g, sw_l]; exact c2
        · rw [sw_o G g (by omega)]; exact hlo' k g1 (by omega)) (fun k g1 g2 => by
        rw [hsa]
        by_cases g : k = j'
        · rw [g, sw_r]; exact c1
        · rw [sw_o G (by omega) g]; exact hhi' k (by omega) g2) (by omega)
      exact ⟨q, m', G', z1, z2, (Oth.eq l1 o1).trans z3, (Mix.sw G (by omega) (by omega) (by omega) (by omega)).trans z4, z5, z6, z7, z8⟩
/-- The pivot has come to its place. -/
def Parted (a b mid : Nat) (G : Nat → Int) : Prop := (∀ k, a ≤ k → k < mid → G k < G mid) ∧ ∀ k, mid < k → k < b → G mid ≤ G k
theorem parted_of {a b j : Nat} {G : Nat → Int} (haj : a ≤ j) (h1 : ∀ k, a < k → k ≤ j → G k < G a) (h2 : ∀ k, j < k → k < b → ¬ G k < G a) : Parted a b j (sw G j a) := by
  refine ⟨fun k g1 g2 => ?_, fun k g1 g2 => ?_⟩
  · rw [sw_l]
    by_cases e : k = a
    · rw [e, sw_r]
      exact h1 j (by omega) (Nat.le_refl _)
    · rw [sw_o G (by omega) e]
      exact h1 k (by omega) (by omega)
  · rw [sw_l, sw_o G (by omega) (by omega)]
    have := h2 k g1 g2
    omega
set_option maxHeartbeats 1000000 in
theorem t131 (n0 base : Nat) {e : Bool} {m : M} {p C a b q : Nat} {F : Nat → Int} (hbb : base ≤ p) (hC : C ≤ 400000) (hb : b ≤ C) (haq : a ≤ q) (hqb : q < b) (hn0 : C ≤ n0) (hF : ArrM e m p C F) :
    ∃ (m' : M) (F' : Nat → Int) (mid : Nat) (fl : Bool), rt (n0 + 3) base 131 [sl p C, vi a, vi b, vi q] m = some (.ret (.tuple #[vi mid, .bool fl]), m') ∧ ArrM e m' p C F' ∧ Oth p m m' ∧ Mix a b F F' ∧ a ≤ mid ∧ mid < b ∧ Parted a b mid F' := by
  rw [rt_imp (f := 131) (rf := rf131) (by kernel_rfl) (by kernel_rfl) (by kernel_rfl) (n0 + 2) base]
  show ∃ (m' : M) (F' : Nat → Int) (mid : Nat) (fl : Bool), r131 (rt (n0 + 2)) (n0 + 2) base (sl p C) (vi a) (vi b) (vi q) m = _ ∧ _
  obtain ⟨m1, e1, G1, l1, o1⟩ := hF.swp hbb (i := a) (j := q) (by omega) (by omega)
  have x1 : Mix a b F (sw F a q) := Mix.sw F (Nat.le_refl _) (by omega) haq hqb
  unfold r131
  rw [k1_fun, hF.get (k := q) (by omega), hF.get (k := a) (by omega), e1, add1 a (by omega), k1s, sub1 b (by omega) (by omega), k1s]
  generalize sw F a q = G at G1 x1
  obtain ⟨i', a1, a2, a3, a4, a5⟩ := up131_L0 n0 base (fun y0_16 y1_17 y10_18 y11_19 m => (r131_L2 (rt (n0 + 2)) (n0 + 2) base (fun y0_28 y1_29 y10_30 y11_31 m => (k1n (mbin E .gtr 3 y10_30 y11_31) fun v65_32 => (kb v65_32 (k1n (mindexAddr E.P 33 y0_28 y1_29) fun v72_33 => (k1n (xload E.P m 3 v72_33) fun v73_34 => (k1n (mindexAddr E.P 33 y0_28 y11_31) fun v76_35 => (k1n (xload E.P m 3 v76_35) fun v77_36 => (k1n (mindexAddr E.P 33 y0_28 y11_31) fun v78_37 => (ks (xstore E.P base m 3 v78_37 v73_34) fun m => (k1n (mindexAddr E.P 33 y0_28 y1_29) fun v79_38 => (ks (xstore E.P base m 3 v79_38 v77_36) fun m => (some (.ret (.tuple #[y11_31, (.bool true)]), m)))))))))) (k1n (mindexAddr E.P 33 y0_28 y11_31) fun v87_39 => (k1n (xload E.P m 3 v87_39) fun v88_40 => (k1n (mindexAddr E.P 33 y0_28 y10_30) fun v91_41 => (k1n (xload E.P m 3 v91_41) fun v92_42 => (k1n (mindexAddr E.P 33 y0_28 y10_30) fun v93_43 => (ks (xstore E.P base m 3 v93_43 v88_40) fun m => (k1n (mindexAddr E.P 33 y0_28 y11_31) fun v94_44 => (ks (xstore E.P base m 3 v94_44 v92_42) fun m => (k1n (mbin E .add 3 y10_30 (.int .i64 1)) fun v96_45 => (k1n (mbin E .sub 3 y11_31 (.int .i64 1)) fun v98_46 => (r131_L4 (rt (n0 + 2)) (n0 + 2) base (fun y0_79 y1_80 y11_81 m => (k1n (mindexAddr E.P 33 y0_79 y1_80) fun v159_82 => (k1n (xload E.P m 3 v159_82) fun v160_83 => (k1n (mindexAddr E.P 33 y0_79 y11_81) fun v163_84 => (k1n (xload E.P m 3 v163_84) fun v164_85 => (k1n (mindexAddr E.P 33 y0_79 y11_81) fun v165_86 => (ks (xstore E.P base m 3 v165_86 v160_83) fun m => (k1n (mindexAddr E.P 33 y0_79 y1_80) fun v166_87 => (ks (xstore E.P base m 3 v166_87 v164_85) fun m => (some (.ret (.tuple #[y11_81, (.bool false)]), m))))))))))) (n0 + 2) y0_28 y1_29 v96_45 v98_46 m)))))))))))))) (n0 + 2) y0_16 y1_17 y10_18 y11_19 m)) (n0 + 2) G1 hC (show a < C by omega) (show b - 1 < C by omega) (n0 + 2) (a + 1) (by omega) (by omega)
  obtain ⟨j', b1, b2, b3, b4, b5⟩ := down131_L2 n0 base (fun y0_28 y1_29 y10_30 y11_31 m => (k1n (mbin E .gtr 3 y10_30 y11_31) fun v65_32 => (kb v65_32 (k1n (mindexAddr E.P 33 y0_28 y1_29) fun v72_33 => (k1n (xload E.P m 3 v72_33) fun v73_34 => (k1n (mindexAddr E.P 33 y0_28 y11_31) fun v76_35 => (k1n (xload E.P m 3 v76_35) fun v77_36 => (k1n (mindexAddr E.P 33 y0_28 y11_31) fun v78_37 => (ks (xstore E.P base m 3 v78_37 v73_34) fun m => (k1n (mindexAddr E.P 33 y0_28 y1_29) fun v79_38 => (ks (xstore E.P base m 3 v79_38 v77_36) fun m => (some (.ret (.tuple #[y11_31, (.bool true)]), m)))))))))) (k1n (mindexAddr E.P 33 y0_28 y11_31) fun v87_39 => (k1n (xload E.P m 3 v87_39) fun v88_40 => (k1n (mindexAddr E.P 33 y0_28 y10_30) fun v91_41 => (k1n (xload E.P m 3 v91_41) fun v92_42 => (k1n (mindexAddr E.P 33 y0_28 y10_30) fun v93_43 => (ks (xstore E.P base m 3 v93_43 v88_40) fun m => (k1n (mindexAddr E.P 33 y0_28 y11_31) fun v94_44 => (ks (xstore E.P base m 3 v94_44 v92_42) fun m => (k1n (mbin E .add 3 y10_30 (.int .i64 1)) fun v96_45 => (k1n (mbin E .sub 3 y11_31 (.int .i64 1)) fun v98_46 => (r131_L4 (rt (n0 + 2)) (n0 + 2) base (fun y0_79 y1_80 y11_81 m => (k1n (mindexAddr E.P 33 y0_79 y1_80) fun v159_82 => (k1n (xload E.P m 3 v159_82) fun v160_83 => (k1n (mindexAddr E.P 33 y0_79 y11_81) fun v163_84 => (k1n (xload E.P m 3 v163_84) fun v164_85 => (k1n (mindexAddr E.P 33 y0_79 y11_81) fun v165_86 => (ks (xstore E.P base m 3 v165_86 v160_83) fun m => (k1n (mindexAddr E.P 33 y0_79 y1_80) fun v166_87 => (ks (xstore E.P base m 3 v166_87 v164_85) fun m => (some (.ret (.tuple #[y11_81, (.bool false)]), m))))))))))) (n0 + 2) y0_28 y1_29 v96_45 v98_46 m)))))))))))))) (n0 + 2) G1 hC (show a < C by omega) (show 1 ≤ i' by omega) (n0 + 2) (b - 1) (by omega) a2 (by omega)
  have hlo' : ∀ k, a < k → k < i' → G k < G a := fun k g1 g2 => a3 k (by omega) g2
  have hhi' : ∀ k, j' < k → k < b → ¬ G k < G a := fun k g1 g2 => b3 k g1 (by omega)
  rw [a5, b5, gtr3, k1s]
  by_cases hgt : j' < i'
  · obtain ⟨m2, e2, G2, l2, o2⟩ := G1.swp hbb (i := j') (j := a) (by omega) (by omega)
    rw [decide_eq_true (show (i' : Int) > j' by omega), kbt, G1.get (k := a) (by omega), G1.get (k := j') (by omega), e2]
    exact ⟨m2, _, j', true, rfl, G2, (Oth.eq l1 o1).trans (Oth.eq l2 o2), x1.trans (Mix.sw G (by omega) (by omega) (by omega) (by omega)), by omega, by omega, parted_of (by omega) (fun k g1 g2 => hlo' k g1 (by omega)) hhi'⟩
  · have c1 := a4 (by omega)
    have c2 := b4 (by omega)
    have hne : i' ≠ j' := fun e => by rw [e] at c1; exact c1 c2
    obtain ⟨m2, e2, G2, l2, o2⟩ := G1.swp hbb (i := i') (j := j') (by omega) (by omega)
    rw [decide_eq_false (show ¬ (i' : Int) > j' by omega), kbf, G1.get (k := j') (by omega), G1.get (k := i') (by omega), e2, add1 i' (by omega), k1s, sub1 j' (by omega) (by omega), k1s]
    have hsa : sw G i' j' a = G a := sw_o G (by omega) (by omega)
    obtain ⟨r, m3, G3, z1, z2, z3, z4, z5, z6, z7, z8⟩ := loop131 n0 base (fun y0_79 y1_80 y11_81 m => (k1n (mindexAddr E.P 33 y0_79 y1_80) fun v159_82 => (k1n (xload E.P m 3 v159_82) fun v160_83 => (k1n (mindexAddr E.P 33 y0_79 y11_81) fun v163_84 => (k1n (xload E.P m 3 v163_84) fun v164_85 => (k1n (mindexAddr E.P 33 y0_79 y11_81) fun v165_86 => (ks (xstore E.P base m 3 v165_86 v160_83) fun m => (k1n (mindexAddr E.P 33 y0_79 y1_80) fun v166_87 => (ks (xstore E.P base m 3 v166_87 v164_85) fun m => (some (.ret (.tuple #[y11_81, (.bool false)]), m))))))))))) (n0 + 2) (a := a) (b := b) hbb hC hb (by omega) (n0 + 2) (i' + 1) (j' - 1) m2 _ G2 (by omega) (by omega) (by omega) (by omega) (fun k g1 g2 => by
      rw [hsa]
      by_cases g : k = i'
      · rw [g, sw_l]; exact c2
      · rw [sw_o G g (by omega)]; exact hlo' k g1 (by omega)) (fun k g1 g2 => by
      rw [hsa]
      by_cases g : k = j'
      · rw [g, sw_r]; exact c1
      · rw [sw_o G (by omega) g]; exact hhi' k (by omega) g2) (by omega)
    obtain ⟨m4, e4, G4, l4, o4⟩ := z2.swp hbb (i := r) (j := a) (by omega) (by omega)
    rw [z1, z2.get (k := a) (by omega), z2.get (k := r) (by omega), e4]
    exact ⟨m4, _, r, false, rfl, G4, (((Oth.eq l1 o1).trans (Oth.eq l2 o2)).trans z3).trans (Oth.eq l4 o4), ((x1.trans (Mix.sw G (by omega) (by omega) (by omega) (by omega))).trans (z4.mono (by omega) (Nat.le_refl _))).trans (Mix.sw G3 (by omega) (by omega) (by omega) (by omega)), z5, z6, parted_of z5 z7 z8⟩
end Go.AM
namespace Go.AM
open Go Go.Proofs
theorem loop130 (n0 base : Nat) (kx : Value → M → Res2) (fuel : Nat) {e : Bool} {p C a b : Nat} (hbb : base ≤ p) (hC : C ≤ 400000) (hb : b ≤ C) (hf : C + 2 ≤ fuel) :
    ∀ (n i j : Nat) (m : M) (G : Nat → Int), ArrM e m p C G → a < i → j < b → a ≤ j → i ≤ j + 1 → (∀ k, a < k → k < i → ¬ G a < G k) → (∀ k, j < k → k < b → G a < G k) → j + 1 < n + i →
      ∃ (i' : Nat) (m' : M) (G' : Nat → Int), r130_L0 (rt (n0 + 2)) fuel base kx n (sl p C) (vi a) (vi i) (vi j) m = kx (vi i') m' ∧ ArrM e m' p C G' ∧ Oth p m m' ∧ Mix (a + 1) b G G' ∧ a < i' ∧ i' ≤ b ∧ (∀ k, a < k → k < i' → ¬ G' a < G' k) ∧ (∀ k, i' ≤ k → k < b → G' a < G' k)
  | 0, i, j, m, G, hG, h1, h2, h3, h4, hlo, hhi, hn => by omega
  | n + 1, i, j, m, G, hG, h1, h2, h3, h4, hlo, hhi, hn => by
    rw [r130_L0_s]
    obtain ⟨i', a1, a2, a3, a4, a5⟩ := up130_L2 n0 base (fun y0_17 y1_18 y9_19 y10_20 m => (r130_L4 (rt (n0 + 2)) fuel base (fun y0_28 y1_29 y9_30 y10_31 m => (k1n (mbin E .gtr 3 y9_30 y10_31) fun v64_32 => (kb v64_32 (kx y9_30 m) (k1n (mindexAddr E.P 33 y0_28 y10_31) fun v71_33 => (k1n (xload E.P m 3 v71_33) fun v72_34 => (k1n (mindexAddr E.P 33 y0_28 y9_30) fun v75_35 => (k1n (xload E.P m 3 v75_35) fun v76_36 => (k1n (mindexAddr E.P 33 y0_28 y9_30) fun v77_37 => (ks (xstore E.P base m 3 v77_37 v72_34) fun m => (k1n (mindexAddr E.P 33 y0_28 y10_31) fun v78_38 => (ks (xstore E.P base m 3 v78_38 v76_36) fun m => (k1n (mbin E .add 3 y9_30 (.int .i64 1)) fun v80_39 => (k1n (mbin E .sub 3 y10_31 (.int .i64 1)) fun v82_40 => (r130_L0 (rt (n0 + 2)) fuel base kx n y0_28 y1_29 v80_39 v82_40 m)))))))))))))) fuel y0_17 y1_18 y9_19 y10_20 m)) fuel hG hC (show a < C by omega) (show j < C by omega) fuel i h4 (by omega)
    obtain ⟨j', b1, b2, b3, b4, b5⟩ := down130_L4 n0 base (fun y0_28 y1_29 y9_30 y10_31 m => (k1n (mbin E .gtr 3 y9_30 y10_31) fun v64_32 => (kb v64_32 (kx y9_30 m) (k1n (mindexAddr E.P 33 y0_28 y10_31) fun v71_33 => (k1n (xload E.P m 3 v71_33) fun v72_34 => (k1n (mindexAddr E.P 33 y0_28 y9_30) fun v75_35 => (k1n (xload E.P m 3 v75_35) fun v76_36 => (k1n (mindexAddr E.P 33 y0_28 y9_30) fun v77_37 => (ks (xstore E.P base m 3 v77_37 v72_34) fun m => (k1n (mindexAddr E.P 33 y0_28 y10_31) fun v78_38 => (ks (xstore E.P base m 3 v78_38 v76_36) fun m => (k1n (mbin E .add 3 y9_30 (.int .i64 1)) fun v80_39 => (k1n (mbin E .sub 3 y10_31 (.int .i64 1)) fun v82_40 => (r130_L0 (rt (n0 + 2)) fuel base kx n y0_28 y1_29 v80_39 v82_40 m)))))))))))))) fuel hG hC (show a < C by omega) (show 1 ≤ i' by omega) fuel j (by omega) a2 (by omega)
    rw [a5, b5, gtr3, k1s]
    have hlo' : ∀ k, a < k → k < i' → ¬ G a < G k := fun k g1 g2 => by
      by_cases g : k < i
      · exact hlo k g1 g
      · exact a3 k (by omega) g2
    have hhi' : ∀ k, j' < k → k < b → G a < G k := fun k g1 g2 => by
      by_cases g : j < k
      · exact hhi k g g2
      · exact b3 k g1 (by omega)
    by_cases hgt : j' < i'
    · rw [decide_eq_true (show (i' : Int) > j' by omega), kbt]
      exact ⟨i', m, G, rfl, hG, Oth.refl _ _, Mix.refl _ _ _, by omega, by omega, hlo', fun k g1 g2 => hhi' k (by omega) g2⟩
    · have c1 := a4 (by omega)
      have c2 := b4 (by omega)
      have hne : i' ≠ j' := fun e => by rw [e] at c1; exact c2 c1
      obtain ⟨m1, e1, G1, l1, o1⟩ := hG.swp hbb (i := i') (j := j') (by omega) (by omega)
      rw [decide_eq_false (show ¬ (i' : Int) > j' by omega), kbf, hG.get (k := j') (by omega), hG.get (k := i') (by omega), e1, add1 i' (by omega), k1s, sub1 j' (by omega) (by omega), k1s]
      have hsa : sw G i' j' a = G a := sw_o G (by omega) (by omega)
      obtain ⟨q, m', G', z1, z2, z3, z4, z5, z6, z7, z8⟩ := loop130 n0 base kx fuel (a := a) (b := b) hbb hC hb hf n (i' + 1) (j' - 1) m1 _ G1 (by omega) (by omega) (by omega) (by omega) (fun k g1 g2 => by
        rw [hsa]
        by_cases g : k = i'
        · rw [g, sw_l]; exact c2
        · rw [sw_o G g (by omega)]; exact hlo' k g1 (by omega)) (fun k g1 g2 => by
        rw [hsa]
        by_cases g : k = j'
        · rw [g, sw_r]; exact c1
        · rw [sw_o G (by omega) g]; exact hhi' k (by omega) g2) (by omega)
      exact ⟨q, m', G', z1, z2, (Oth.eq l1 o1).trans z3, (Mix.sw G (by omega) (by omega) (by omega) (by omega)).trans z4, z5, z6, z7, z8⟩
theorem t130 (n0 base : Nat) {e : Bool} {m : M} {p C a b q : Nat} {F : Nat → Int} (hbb : base ≤ p) (hC : C ≤ 400000) (hb : b ≤ C) (haq : a ≤ q) (hqb : q < b) (hn0 : C ≤ n0) (hF : ArrM e m p C F) :
    ∃ (m' : M) (F' : Nat → Int) (mid : Nat), rt (n0 + 3) base 130 [sl p C, vi a, vi b, vi q] m = some (.ret (vi mid), m') ∧ ArrM e m' p C F' ∧ Oth p m m' ∧ Mix a b F F' ∧ a < mid ∧ mid ≤ b ∧ (∀ k, a ≤ k → k < mid → F' k ≤ F q) ∧ (∀ k, mid ≤ k → k < b → F q < F' k) := by
  rw [rt_imp (f := 130) (rf := rf130) (by kernel_rfl) (by kernel_rfl) (by kernel_rfl) (n0 + 2) base]
  show ∃ (m' : M) (F' : Nat → Int) (mid : Nat), r130 (rt (n0 + 2)) (n0 + 2) base (sl p C) (vi a) (vi b) (vi q) m = _ ∧ _
  obtain ⟨m1, e1, G1, l1, o1⟩ := hF.swp hbb (i := a) (j := q) (by omega) (by omega)
  have x1 : Mix a b F (sw F a q) := Mix.sw F (Nat.le_refl _) (by omega) haq hqb
  have hpa : sw F a q a = F q := sw_l F a q
  unfold r130
  rw [k1_fun, fVal_fun, hF.get (k := q) (by omega), hF.get (k := a) (by omega), e1, add1 a (by omega), k1s, sub1 b (by omega) (by omega), k1s]
  generalize sw F a q = G at G1 x1 hpa
  obtain ⟨i', m', G', z1, z2, z3, z4, z5, z6, z7, z8⟩ := loop130 n0 base (fun y9_41 m => some (.ret y9_41, m)) (n0 + 2) (a := a) (b := b) hbb hC hb (by omega) (n0 + 2) (a + 1) (b - 1) m1 G G1 (by omega) (by omega) (by omega) (by omega) (fun k g1 g2 => by omega) (fun k g1 g2 => by omega) (by omega)
  have hga : G' a = F q := (z4.1 a (by omega)).trans hpa
  refine ⟨m', G', i', z1, z2, (Oth.eq l1 o1).trans z3, x1.trans (z4.mono (by omega) (Nat.le_refl _)), z5, z6, fun k g1 g2 => ?_, fun k g1 g2 => ?_⟩
  · by_cases g : k = a
    · rw [g, hga]; exact Int.le_refl _
    · have := z7 k (by omega) g2
      omega
  · have := z8 k g1 g2
    omega
end Go.AM
namespace Go.AM
open Go Go.Proofs
theorem r128_L2_s (call : CallF) (fuel base : Nat) (kx2 : Value → Value → Value → Value → Value → M → Res2) (n : Nat) (x0 x1 x2 x7 x8 : Value) (m : M) : r128_L2 call fuel base kx2 (n + 1) x0 x1 x2 x7 x8 m =
    (k1n (mbin E .lss 3 x7 x2) fun v19_3 => (kb v19_3 (k1n (mindexAddr E.P 33 x0 x7) fun v23_4 => (k1n (xload E.P m 3 v23_4) fun v24_5 => (k1n (mbin E .sub 3 x7 (.int .i64 1)) fun v27_6 => (k1n (mindexAddr E.P 33 x0 v27_6) fun v28_7 => (k1n (xload E.P m 3 v28_7) fun v29_8 => (kc (kB m (call m.length 129 [v24_5, v29_8] m)) (fun v30_9 m => (k1n (mun .not v30_9) fun v31_10 => (kb v31_10 (k1n (mbin E .add 3 x7 (.int .i64 1)) fun v34_11 => (r128_L2 call fuel base kx2 n x0 x1 x2 v34_11 x8 m)) (kx2 x0 x1 x2 x7 x8 m)))) (fun _ _ => none))))))) (kx2 x0 x1 x2 x7 x8 m))) := by
  unfold r128_L2
  rw [k1_fun]
theorem r128_L4_s (call : CallF) (fuel base : Nat) (kx4 : Value → Value → Value → Value → Value → M → Res2) (n : Nat) (x0 x1 x2 x7 x8 x9 : Value) (m : M) : r128_L4 call fuel base kx4 (n + 1) x0 x1 x2 x7 x8 x9 m =
    (k1n (mbin E .geq 3 x9 (.int .i64 1)) fun v65_31 => (kb v65_31 (k1n (mindexAddr E.P 33 x0 x9) fun v70_32 => (k1n (xload E.P m 3 v70_32) fun v71_33 => (k1n (mbin E .sub 3 x9 (.int .i64 1)) fun v74_34 => (k1n (mindexAddr E.P 33 x0 v74_34) fun v75_35 => (k1n (xload E.P m 3 v75_35) fun v76_36 => (kc (kB m (call m.length 129 [v71_33, v76_36] m)) (fun v77_37 m => (k1n (mun .not v77_37) fun v78_38 => (kb v78_38 (kx4 x0 x1 x2 x7 x8 m) (k1n (mbin E .sub 3 x9 (.int .i64 1)) fun v83_39 => (k1n (mbin E .sub 3 x9 (.int .i64 1)) fun v86_40 => (k1n (mindexAddr E.P 33 x0 v86_40) fun v87_41 => (k1n (xload E.P m 3 v87_41) fun v88_42 => (k1n (mindexAddr E.P 33 x0 x9) fun v91_43 => (k1n (xload E.P m 3 v91_43) fun v92_44 => (k1n (mindexAddr E.P 33 x0 x9) fun v93_45 => (ks (xstore E.P base m 3 v93_45 v88_42) fun m => (k1n (mindexAddr E.P 33 x0 v83_39) fun v94_46 => (ks (xstore E.P base m 3 v94_46 v92_44) fun m => (k1n (mbin E .sub 3 x9 (.int .i64 1)) fun v67_47 => (r128_L4 call fuel base kx4 n x0 x1 x2 x7 x8 v67_47 m))))))))))))))) (fun _ _ => none))))))) (kx4 x0 x1 x2 x7 x8 m))) := by
  unfold r128_L4
  rw [k1_fun]
theorem r128_L6_s (call : CallF) (fuel base : Nat) (kx6 : Value → Value → Value → Value → Value → M → Res2) (n : Nat) (x0 x1 x2 x7 x8 x10 : Value) (m : M) : r128_L6 call fuel base kx6 (n + 1) x0 x1 x2 x7 x8 x10 m =
    (k1n (mbin E .lss 3 x10 x2) fun v103_56 => (kb v103_56 (k1n (mindexAddr E.P 33 x0 x10) fun v108_57 => (k1n (xload E.P m 3 v108_57) fun v109_58 => (k1n (mbin E .sub 3 x10 (.int .i64 1)) fun v112_59 => (k1n (mindexAddr E.P 33 x0 v112_59) fun v113_60 => (k1n (xload E.P m 3 v113_60) fun v114_61 => (kc (kB m (call m.length 129 [v109_58, v114_61] m)) (fun v115_62 m => (k1n (mun .not v115_62) fun v116_63 => (kb v116_63 (kx6 x0 x1 x2 x7 x8 m) (k1n (mbin E .sub 3 x10 (.int .i64 1)) fun v121_64 => (k1n (mbin E .sub 3 x10 (.int .i64 1)) fun v124_65 => (k1n (mindexAddr E.P 33 x0 v124_65) fun v125_66 => (k1n (xload E.P m 3 v125_66) fun v126_67 => (k1n (mindexAddr E.P 33 x0 x10) fun v129_68 => (k1n (xload E.P m 3 v129_68) fun v130_69 => (k1n (mindexAddr E.P 33 x0 x10) fun v131_70 => (ks (xstore E.P base m 3 v131_70 v126_67) fun m => (k1n (mindexAddr E.P 33 x0 v121_64) fun v132_71 => (ks (xstore E.P base m 3 v132_71 v130_69) fun m => (k1n (mbin E .add 3 x10 (.int .i64 1)) fun v105_72 => (r128_L6 call fuel base kx6 n x0 x1 x2 x7 x8 v105_72 m))))))))))))))) (fun _ _ => none))))))) (kx6 x0 x1 x2 x7 x8 m))) := by
  unfold r128_L6
  rw [k1_fun]
theorem r128_L0_s (call : CallF) (fuel base : Nat) (kr : Value → M → Res2) (kx0 : M → Res2) (n : Nat) (x0 x1 x2 x7 x8 : Value) (m : M) : r128_L0 call fuel base kr kx0 (n + 1) x0 x1 x2 x7 x8 m =
    (k1n (mbin E .lss 3 x8 (.int .i64 5)) fun v14_2 => (kb v14_2 (r128_L2 call fuel base (fun y0_12 y1_13 y2_14 y7_15 y8_16 m => (k1n (mbin E .eql 3 y7_15 y2_14) fun v37_17 => (kb v37_17 (kr (.bool true) m) (k1n (mbin E .sub 3 y2_14 y1_13) fun v40_18 => (k1n (mbin E .lss 3 v40_18 (.int .i64 50)) fun v41_19 => (kb v41_19 (kr (.bool false) m) (k1n (mbin E .sub 3 y7_15 (.int .i64 1)) fun v46_20 => (k1n (mbin E .sub 3 y7_15 (.int .i64 1)) fun v49_21 => (k1n (mindexAddr E.P 33 y0_12 v49_21) fun v50_22 => (k1n (xload E.P m 3 v50_22) fun v51_23 => (k1n (mindexAddr E.P 33 y0_12 y7_15) fun v54_24 => (k1n (xload E.P m 3 v54_24) fun v55_25 => (k1n (mindexAddr E.P 33 y0_12 y7_15) fun v56_26 => (ks (xstore E.P base m 3 v56_26 v51_23) fun m => (k1n (mindexAddr E.P 33 y0_12 v46_20) fun v57_27 => (ks (xstore E.P base m 3 v57_27 v55_25) fun m => (k1n (mbin E .sub 3 y7_15 y1_13) fun v60_28 => (k1n (mbin E .geq 3 v60_28 (.int .i64 2)) fun v61_29 => (kb v61_29 (k1n (mbin E .sub 3 y7_15 (.int .i64 1)) fun v63_30 => (r128_L4 call fuel base (fun y0_48 y1_49 y2_50 y7_51 y8_52 m => (k1n (mbin E .sub 3 y2_50 y7_51) fun v97_53 => (k1n (mbin E .geq 3 v97_53 (.int .i64 2)) fun v98_54 => (kb v98_54 (k1n (mbin E .add 3 y7_51 (.int .i64 1)) fun v100_55 => (r128_L6 call fuel base (fun y0_73 y1_74 y2_75 y7_76 y8_77 m => (k1n (mbin E .add 3 y8_77 (.int .i64 1)) fun v16_78 => (r128_L0 call fuel base kr kx0 n y0_73 y1_74 y2_75 y7_76 v16_78 m))) fuel y0_48 y1_49 y2_50 y7_51 y8_52 v100_55 m)) (k1n (mbin E .add 3 y8_52 (.int .i64 1)) fun v16_79 => (r128_L0 call fuel base kr kx0 n y0_48 y1_49 y2_50 y7_51 v16_79 m)))))) fuel y0_12 y1_13 y2_14 y7_15 y8_16 v63_30 m)) (k1n (mbin E .sub 3 y2_14 y7_15) fun v97_80 => (k1n (mbin E .geq 3 v97_80 (.int .i64 2)) fun v98_81 => (kb v98_81 (k1n (mbin E .add 3 y7_15 (.int .i64 1)) fun v100_82 => (r128_L6 call fuel base (fun y0_83 y1_84 y2_85 y7_86 y8_87 m => (k1n (mbin E .add 3 y8_87 (.int .i64 1)) fun v16_88 => (r128_L0 call fuel base kr kx0 n y0_83 y1_84 y2_85 y7_86 v16_88 m))) fuel y0_12 y1_13 y2_14 y7_15 y8_16 v100_82 m)) (k1n (mbin E .add 3 y8_16 (.int .i64 1)) fun v16_89 => (r128_L0 call fuel base kr kx0 n y0_12 y1_13 y2_14 y7_15 v16_89 m)))))))))))))))))))))))) fuel x0 x1 x2 x7 x8 m) (kx0 m))) := by
  unfold r128_L0
  rw [k1_fun]
/-- Nothing ahead of the part is greater than what is in it. -/
def Lft (a b : Nat) (F : Nat → Int) : Prop := ∀ i k, i < a → a ≤ k → k < b → F i ≤ F k
theorem Lft.mix {a b : Nat} {F G : Nat → Int} (h : Lft a b F) (x : Mix a b F G) : Lft a b G := fun i k h1 h2 h3 => by
  rw [x.1 i (by omega)]
  exact x.all (P := fun z => F i ≤ z) (fun j g1 g2 => h i j h1 g1 g2) k h2 h3
theorem up128 (n0 base : Nat) (fuel : Nat) (x8 : Value) {e : Bool} {m : M} {p C a b : Nat} {F : Nat → Int} (hF : ArrM e m p C F) (hC : C ≤ 400000) (hb : b ≤ C) :
    ∀ (n i : Nat), a < i → i ≤ b → Srt a i F → b < n + i → ∃ i', i ≤ i' ∧ i' ≤ b ∧ Srt a i' F ∧ (i' < b → F i' < F (i' - 1)) ∧ ∀ kx, r128_L2 (rt (n0 + 2)) fuel base kx n (sl p C) (vi a) (vi b) (vi i) x8 m = kx (sl p C) (vi a) (vi b) (vi i') x8 m
  | 0, i, h1, h2, h3, hn => by omega
  | n + 1, i, h1, h2, h3, hn => by
    by_cases hlt : i < b
    · by_cases hc : F i < F (i - 1)
      · refine ⟨i, Nat.le_refl _, h2, h3, fun _ => hc, fun kx => ?_⟩
        rw [r128_L2_s, lss3, k1s, decide_eq_true (show (i : Int) < b by omega), kbt, hF.get (k := i) (by omega), sub1 i (by omega) (by omega), k1s, hF.get (k := i - 1) (by omega), t129, kB_same, kcs, decide_eq_true hc, not4, k1s, Bool.not_true, kbf]
      · obtain ⟨i', z1, z2, z3, z4, z5⟩ := up128 n0 base fuel x8 (a := a) (b := b) hF hC hb n (i + 1) (by omega) (by omega) (fun s t g1 g2 g3 => by
          by_cases e : t = i
          · subst e
            by_cases e2 : s = t - 1
            · rw [e2]; omega
            · have := h3 s (t - 1) g1 (by omega) (by omega)
              omega
          · exact h3 s t g1 g2 (by omega)) (by omega)
        refine ⟨i', by omega, z2, z3, z4, fun kx => ?_⟩
        rw [r128_L2_s, lss3, k1s, decide_eq_true (show (i : Int) < b by omega), kbt, hF.get (k := i) (by omega), sub1 i (by omega) (by omega), k1s, hF.get (k := i - 1) (by omega), t129, kB_same, kcs, decide_eq_false hc, not4, k1s, Bool.not_false, kbt, add1 i (by omega), k1s]
        exact z5 kx
    · refine ⟨i, Nat.le_refl _, h2, h3, fun h => absurd h hlt, fun kx => ?_⟩
      rw [r128_L2_s, lss3, k1s, decide_eq_false (show ¬ (i : Int) < b by omega), kbf]
theorem left128 (n0 base : Nat) (fuel : Nat) (x7 x8 : Value) {e : Bool} {p C a b i : Nat} (hbb : base ≤ p) (hC : C ≤ 400000) (hb : b ≤ C) (hib : i < b) :
    ∀ (n j : Nat) (m : M) (G : Nat → Int), ArrM e m p C G → a ≤ j → j ≤ i → SX a i j G → Lft a b G → j < n →
      ∃ (m' : M) (G' : Nat → Int), (∀ kx, r128_L4 (rt (n0 + 2)) fuel base kx n (sl p C) (vi a) (vi b) x7 x8 (vi j) m = kx (sl p C) (vi a) (vi b) x7 x8 m') ∧ ArrM e m' p C G' ∧ Oth p m m' ∧ Mix a (i + 1) G G' ∧ Srt a (i + 1) G'
  | 0, j, m, G, hG, h1, h2, h3, h4, hn => by omega
  | n + 1, j, m, G, hG, h1, h2, h3, h4, hn => by
    by_cases h0 : 1 ≤ j
    · by_cases hlt : G j < G (j - 1)
      · have haj : a < j := by
          by_cases e : a = j
          · have := h4 (j - 1) j (by omega) (by omega) (by omega)
            omega
          · omega
        obtain ⟨m1, e1, G1, l1, o1⟩ := hG.swp hbb (i := j) (j := j - 1) (by omega) (by omega)
        have x1 : Mix a (i + 1) G (sw G j (j - 1)) := Mix.sw G (by omega) (by omega) (by omega) (by omega)
        obtain ⟨m', G', z1, z2, z3, z4, z5⟩ := left128 n0 base fuel x7 x8 (a := a) (b := b) hbb hC hb hib n (j - 1) m1 _ G1 (by omega) (by omega) (h3.step haj h2 hlt) (h4.mix (x1.mono (Nat.le_refl _) (by omega))) (by omega)
        refine ⟨m', G', fun kx => ?_, z2, (Oth.eq l1 o1).trans z3, x1.trans z4, z5⟩
        rw [r128_L4_s, show (.int .i64 1 : Value) = vi 1 from rfl, geq3, k1s, decide_eq_true (show (j : Int) ≥ 1 by omega), kbt, hG.get (k := j) (by omega), show (vi 1 : Value) = .int .i64 1 from rfl, sub1 j (by omega) (by omega), k1s, hG.get (k := j - 1) (by omega), t129, kB_same, kcs, decide_eq_true hlt, not4, k1s, Bool.not_true, kbf, k1s, k1s, hG.get (k := j - 1) (by omega), hG.get (k := j) (by omega), e1, k1s]
        exact z1 kx
      · refine ⟨m, G, fun kx => ?_, hG, Oth.refl _ _, Mix.refl _ _ _, h3.done h1 fun _ => by omega⟩
        rw [r128_L4_s, show (.int .i64 1 : Value) = vi 1 from rfl, geq3, k1s, decide_eq_true (show (j : Int) ≥ 1 by omega), kbt, hG.get (k := j) (by omega), show (vi 1 : Value) = .int .i64 1 from rfl, sub1 j (by omega) (by omega), k1s, hG.get (k := j - 1) (by omega), t129, kB_same, kcs, decide_eq_false hlt, not4, k1s, Bool.not_false, kbt]
    · refine ⟨m, G, fun kx => ?_, hG, Oth.refl _ _, Mix.refl _ _ _, h3.done h1 fun h => by omega⟩
      rw [r128_L4_s, show (.int .i64 1 : Value) = vi 1 from rfl, geq3, k1s, decide_eq_false (show ¬ (j : Int) ≥ 1 by omega), kbf]
theorem right128 (n0 base : Nat) (fuel : Nat) (x1 x7 x8 : Value) {e : Bool} {p C b i : Nat} (hbb : base ≤ p) (hC : C ≤ 400000) (hb : b ≤ C) :
    ∀ (n j : Nat) (m : M) (G : Nat → Int), ArrM e m p C G → i < j → b < n + j → 0 < n →
      ∃ (m' : M) (G' : Nat → Int), (∀ kx, r128_L6 (rt (n0 + 2)) fuel base kx n (sl p C) x1 (vi b) x7 x8 (vi j) m = kx (sl p C) x1 (vi b) x7 x8 m') ∧ ArrM e m' p C G' ∧ Oth p m m' ∧ Mix i b G G'
  | 0, j, m, G, hG, h1, hn, h0 => by omega
  | n + 1, j, m, G, hG, h1, hn, h0 => by
    by_cases hjb : j < b
    · by_cases hlt : G j < G (j - 1)
      · obtain ⟨m1, e1, G1, l1, o1⟩ := hG.swp hbb (i := j) (j := j - 1) (by omega) (by omega)
        obtain ⟨m', G', z1, z2, z3, z4⟩ := right128 n0 base fuel x1 x7 x8 (i := i) hbb hC hb n (j + 1) m1 _ G1 (by omega) (by omega) (by omega)
        refine ⟨m', G', fun kx => ?_, z2, (Oth.eq l1 o1).trans z3, (Mix.sw G (by omega) (by omega) (by omega) (by omega)).trans z4⟩
        rw [r128_L6_s, lss3, k1s, decide_eq_true (show (j : Int) < b by omega), kbt, hG.get (k := j) (by omega), sub1 j (by omega) (by omega), k1s, hG.get (k := j - 1) (by omega), t129, kB_same, kcs, decide_eq_true hlt, not4, k1s, Bool.not_true, kbf, k1s, k1s, hG.get (k := j - 1) (by omega), hG.get (k := j) (by omega), e1, add1 j (by omega), k1s]
        exact z1 kx
      · refine ⟨m, G, fun kx => ?_, hG, Oth.refl _ _, Mix.refl _ _ _⟩
        rw [r128_L6_s, lss3, k1s, decide_eq_true (show (j : Int) < b by omega), kbt, hG.get (k := j) (by omega), sub1 j (by omega) (by omega), k1s, hG.get (k := j - 1) (by omega), t129, kB_same, kcs, decide_eq_false hlt, not4, k1s, Bool.not_false, kbt]
    · refine ⟨m, G, fun kx => ?_, hG, Oth.refl _ _, Mix.refl _ _ _⟩
      rw [r128_L6_s, lss3, k1s, decide_eq_false (show ¬ (j : Int) < b by omega), kbf]
theorem loop128 (n0 base : Nat) (kr : Value → M → Res2) (fuel : Nat) {e : Bool} {p C a b : Nat} (hbb : base ≤ p) (hC : C ≤ 400000) (hb : b ≤ C) (hf : C + 2 ≤ fuel) :
    ∀ (n i c : Nat) (m : M) (G : Nat → Int), ArrM e m p C G → a < i → i ≤ b → Srt a i G → Lft a b G → c ≤ 5 → 5 < n + c →
      ∃ (m' : M) (G' : Nat → Int) (fl : Bool), r128_L0 (rt (n0 + 2)) fuel base kr (fun m => kr (.bool false) m) n (sl p C) (vi a) (vi b) (vi i) (vi c) m = kr (.bool fl) m' ∧ ArrM e m' p C G' ∧ Oth p m m' ∧ Mix a b G G' ∧ (fl = true → Srt a b G')
  | 0, i, c, m, G, hG, h1, h2, h3, h4, h5, hn => by omega
  | n + 1, i, c, m, G, hG, h1, h2, h3, h4, h5, hn => by
    rw [r128_L0_s, show (.int .i64 5 : Value) = vi (5 : Nat) from rfl, lss3, k1s]
    by_cases hc : c < 5
    · obtain ⟨i', a1, a2, a3, a4, a5⟩ := up128 n0 base fuel (vi c) hG hC hb fuel i h1 h2 h3 (by omega)
      rw [decide_eq_true (show (c : Int) < (5 : Nat) by omega), kbt, a5, eql3, k1s]
      by_cases hib : i' = b
      · rw [decide_eq_true (show (i' : Int) = b by omega), kbt]
        exact ⟨m, G, true, rfl, hG, Oth.refl _ _, Mix.refl _ _ _, fun _ => by rw [← hib]; exact a3⟩
      · have hlt := a4 (by omega)
        rw [decide_eq_false (show ¬ (i' : Int) = b by omega), kbf, subC b a (by omega) (by omega), k1s, show (.int .i64 50 : Value) = vi (50 : Nat) from rfl, lss3, k1s]
        by_cases h50 : b - a < 50
        · rw [decide_eq_true (show ((b - a : Nat) : Int) < (50 : Nat) by omega), kbt]
          exact ⟨m, G, false, rfl, hG, Oth.refl _ _, Mix.refl _ _ _, fun h => by simp at h⟩
        · obtain ⟨m1, e1, G1, l1, o1⟩ := hG.swp hbb (i := i') (j := i' - 1) (by omega) (by omega)
          have x1 : Mix a b G (sw G i' (i' - 1)) := Mix.sw G (by omega) (by omega) (by omega) (by omega)
          have y1 := h4.mix x1
          -- the smaller number goes left
          have phaseR : ∀ (m2 : M) (G2 : Nat → Int), ArrM e m2 p C G2 → Oth p m m2 → Mix a b G G2 → Srt a i' G2 → ∃ (m' : M) (G' : Nat → Int) (fl : Bool),
              (k1n (mbin E .sub 3 (vi b) (vi i')) fun v97_80 => (k1n (mbin E .geq 3 v97_80 (.int .i64 2)) fun v98_81 => (kb v98_81 (k1n (mbin E .add 3 (vi i') (.int .i64 1)) fun v100_82 => (r128_L6 (rt (n0 + 2)) fuel base (fun y0_83 y1_84 y2_85 y7_86 y8_87 m => (k1n (mbin E .add 3 y8_87 (.int .i64 1)) fun v16_88 => (r128_L0 (rt (n0 + 2)) fuel base kr (fun m => kr (.bool false) m) n y0_83 y1_84 y2_85 y7_86 v16_88 m))) fuel (sl p C) (vi a) (vi b) (vi i') (vi c) v100_82 m2)) (k1n (mbin E .add 3 (vi c) (.int .i64 1)) fun v16_89 => (r128_L0 (rt (n0 + 2)) fuel base kr (fun m => kr (.bool false) m) n (sl p C) (vi a) (vi b) (vi i') v16_89 m2))))) = kr (.bool fl) m' ∧ ArrM e m' p C G' ∧ Oth p m m' ∧ Mix a b G G' ∧ (fl = true → Srt a b G') := fun m2 G2 q1 q2 q3 q4 => by
            rw [subC b i' (by omega) (by omega), k1s, show (.int .i64 2 : Value) = vi (2 : Nat) from rfl, geq3, k1s]
            by_cases h2b : 2 ≤ b - i'
            · obtain ⟨m3, G3, w1, w2, w3, w4⟩ := right128 n0 base fuel (vi a) (vi i') (vi c) (i := i') (b := b) hbb hC hb fuel (i' + 1) m2 G2 q1 (by omega) (by omega) (by omega)
              rw [decide_eq_true (show ((b - i' : Nat) : Int) ≥ (2 : Nat) by omega), kbt, add1 i' (by omega), k1s, w1, add1 c (by omega), k1s]
              have x3 := w4.mono (show a ≤ i' by omega) (Nat.le_refl b)
              obtain ⟨m', G', fl, z1, z2, z3, z4, z5⟩ := loop128 n0 base kr fuel (a := a) (b := b) hbb hC hb hf n i' (c + 1) m3 G3 w2 (by omega) a2 (fun s t g1 g2 g3 => by
                rw [w4.1 s (by omega), w4.1 t (by omega)]
                exact q4 s t g1 g2 g3) ((h4.mix q3).mix x3) (by omega) (by omega)
              exact ⟨m', G', fl, z1, z2, (q2.trans w3).trans z3, (q3.trans x3).trans z4, z5⟩
            · rw [decide_eq_false (show ¬ ((b - i' : Nat) : Int) ≥ (2 : Nat) by omega), kbf, add1 c (by omega), k1s]
              obtain ⟨m', G', fl, z1, z2, z3, z4, z5⟩ := loop128 n0 base kr fuel (a := a) (b := b) hbb hC hb hf n i' (c + 1) m2 G2 q1 (by omega) a2 q4 (h4.mix q3) (by omega) (by omega)
              exact ⟨m', G', fl, z1, z2, q2.trans z3, q3.trans z4, z5⟩
          rw [decide_eq_false (show ¬ ((b - a : Nat) : Int) < (50 : Nat) by omega), kbf, sub1 i' (by omega) (by omega), k1s, k1s, hG.get (k := i' - 1) (by omega), hG.get (k := i') (by omega), e1, subC i' a (by omega) (by omega), k1s, show (.int .i64 2 : Value) = vi (2 : Nat) from rfl, geq3, k1s]
          by_cases h2a : 2 ≤ i' - a
          · obtain ⟨m2, G2, w1, w2, w3, w4, w5⟩ := left128 n0 base fuel (vi i') (vi c) (a := a) (b := b) (i := i' - 1) hbb hC hb (by omega) fuel (i' - 1) m1 _ G1 (by omega) (Nat.le_refl _) ⟨fun s t g1 g2 g3 g4 g5 => by
              rw [sw_o G (by omega) (by omega), sw_o G (by omega) (by omega)]
              exact a3 s t g1 g2 (by omega), fun t g1 g2 => by omega⟩ y1 (by omega)
            rw [decide_eq_true (show ((i' - a : Nat) : Int) ≥ (2 : Nat) by omega), kbt, k1s, w1]
            rw [show i' - 1 + 1 = i' by omega] at w4 w5
            exact phaseR m2 G2 w2 ((Oth.eq l1 o1).trans w3) (x1.trans (w4.mono (Nat.le_refl _) (by omega))) w5
          · rw [decide_eq_false (show ¬ ((i' - a : Nat) : Int) ≥ (2 : Nat) by omega), kbf]
            exact phaseR m1 _ G1 (Oth.eq l1 o1) x1 fun s t g1 g2 g3 => by omega
    · rw [decide_eq_false (show ¬ (c : Int) < (5 : Nat) by omega), kbf]
      exact ⟨m, G, false, rfl, hG, Oth.refl _ _, Mix.refl _ _ _, fun h => by simp at h⟩
theorem t128 (n0 base : Nat) {e : Bool} {m : M} {p C a b : Nat} {F : Nat → Int} (hbb : base ≤ p) (hC : C ≤ 400000) (hb : b ≤ C) (hab : a < b) (hn0 : C ≤ n0) (hF : ArrM e m p C F) (hL : Lft a b F) :
    ∃ (m' : M) (F' : Nat → Int) (fl : Bool), rt (n0 + 10) base 128 [sl p C, vi a, vi b] m = some (.ret (.bool fl), m') ∧ ArrM e m' p C F' ∧ Oth p m m' ∧ Mix a b F F' ∧ (fl = true → Srt a b F') := by
  rw [rt_imp (f := 128) (rf := rf128) (by kernel_rfl) (by kernel_rfl) (by kernel_rfl) (n0 + 9) base]
  show ∃ (m' : M) (F' : Nat → Int) (fl : Bool), r128 (rt (n0 + 9)) (n0 + 9) base (sl p C) (vi a) (vi b) m = _ ∧ _
  unfold r128
  rw [k1_fun, fVal_fun, add1 a (by omega), k1s]
  exact loop128 (n0 + 7) base (fun v m => some (.ret v, m)) (n0 + 9) hbb hC hb (by omega) (n0 + 9) (a + 1) 0 m F hF (by omega) (by omega) (fun s t g1 g2 g3 => by omega) hL (by omega) (by omega)
end Go.AM
namespace Go.AM
open Go Go.Proofs
/-- What may happen besides: row q is a box of its own. -/
def Own (p q : Nat) (m m' : M) : Prop := m'.length = m.length ∧ ∀ r, r ≠ q → m'[r]? = m[r]?
theorem Own.refl (p q : Nat) (m : M) : Own p q m m := ⟨rfl, fun _ _ => rfl⟩
theorem Own.trans {p q : Nat} {a b c : M} (h : Own p q a b) (k : Own p q b c) : Own p q a c := ⟨k.1.trans h.1, fun r hr => (k.2 r hr).trans (h.2 r hr)⟩
theorem al3 (m : M) : xalloc E.P m 3 = some (pt m.length 0, m ++ [cellR [vi 0]]) := by
  have e : xalloc E.P m 3 = xlen m fun n => xpush m (cellR [vi 0]) fun m' => some (pt n 0, m') := by kernel_rfl
  rw [e, xlen_eq, fNat_eq, xpush_eq, fList_eq]
theorem mnilP (q o : Nat) : mnil (pt q o) = some (pt q o) := by kernel_rfl
theorem t139 (n0 base : Nat) {e : Bool} {m : M} {p C i j q : Nat} {s : Int} {F : Nat → Int} (hbq : base ≤ q) (hpq : p ≠ q) (hi : i < C) (hj : j < C) (hF : ArrM e m p C F) (hs : m[q]? = some (cellR [vi s])) :
    ∃ (m' : M) (s' : Int) (i' j' : Nat), rt (n0 + 3) base 139 [sl p C, vi i, vi j, pt q 0] m = some (.ret (.tuple #[vi i', vi j']), m') ∧ ArrM e m' p C F ∧ m'[q]? = some (cellR [vi s']) ∧ Own p q m m' ∧ ((i' = i ∧ j' = j) ∨ (i' = j ∧ j' = i)) := by
  rw [rt_imp (f := 139) (rf := rf139) (by kernel_rfl) (by kernel_rfl) (by kernel_rfl) (n0 + 2) base]
  show ∃ (m' : M) (s' : Int) (i' j' : Nat), r139 (rt (n0 + 2)) (n0 + 2) base (sl p C) (vi i) (vi j) (pt q 0) m = _ ∧ _
  unfold r139
  rw [k1_fun, hF.get (k := j) hj, hF.get (k := i) hi, t129, kB_same, kcs]
  by_cases hlt : F j < F i
  · have hql := (List.getElem?_eq_some_iff.1 hs).1
    refine ⟨m.set q (cellR [vi (wr (s + 1))]), wr (s + 1), j, i, ?_, ?_, ?_, ⟨by simp, fun r hr => List.getElem?_set_ne (Ne.symm hr)⟩, .inr ⟨rfl, rfl⟩⟩
    · rw [decide_eq_true hlt, kbt, mnilP, k1s, ld3, box_cell hs 0 _ rfl, k1s, show (.int .i64 1 : Value) = vi 1 from rfl, add3, k1s, k1s, st3, mwrite_one hbq hs rfl (by show 0 < 1; omega) rfl, kss]
      rfl
    · show (m.set q _)[p]? = _
      rw [List.getElem?_set_ne (Ne.symm hpq)]
      exact hF
    · rw [List.getElem?_set_self hql]
  · rw [decide_eq_false hlt, kbf]
    exact ⟨m, s, i, j, rfl, hF, hs, Own.refl _ _ _, .inl ⟨rfl, rfl⟩⟩
theorem t138 (n0 base : Nat) {e : Bool} {m : M} {p C a b c q : Nat} {s : Int} {F : Nat → Int} (hbq : base ≤ q) (hpq : p ≠ q) (ha : a < C) (hb : b < C) (hc : c < C) (hF : ArrM e m p C F) (hs : m[q]? = some (cellR [vi s])) :
    ∃ (m' : M) (s' : Int) (r : Nat), rt (n0 + 4) base 138 [sl p C, vi a, vi b, vi c, pt q 0] m = some (.ret (vi r), m') ∧ ArrM e m' p C F ∧ m'[q]? = some (cellR [vi s']) ∧ Own p q m m' ∧ (r = a ∨ r = b ∨ r = c) := by
  rw [rt_imp (f := 138) (rf := rf138) (by kernel_rfl) (by kernel_rfl) (by kernel_rfl) (n0 + 3) base]
  show ∃ (m' : M) (s' : Int) (r : Nat), r138 (rt (n0 + 3)) (n0 + 3) base (sl p C) (vi a) (vi b) (vi c) (pt q 0) m = _ ∧ _
  obtain ⟨m1, s1, i1, j1, e1, F1, b1, o1, c1⟩ := t139 n0 base hbq hpq ha hb hF hs
  obtain ⟨m2, s2, i2, j2, e2, F2, b2, o2, c2⟩ := t139 n0 base hbq hpq (show j1 < C by omega) hc F1 b1
  obtain ⟨m3, s3, i3, j3, e3, F3, b3, o3, c3⟩ := t139 n0 base hbq hpq (show i1 < C by omega) (show i2 < C by omega) F2 b2
  unfold r138
  rw [k1_fun, fVal_fun, e1, kcs, ex20, k1s, ex21, k1s, e2, kcs, ex20, k1s, ex21, k1s, e3, kcs, ex20, k1s, ex21, k1s]
  exact ⟨m3, s3, j3, rfl, F3, b3, (o1.trans o2).trans o3, by omega⟩
theorem t137 (n0 base : Nat) {e : Bool} {m : M} {p C a q : Nat} {s : Int} {F : Nat → Int} (hbq : base ≤ q) (hpq : p ≠ q) (hC : C ≤ 400000) (ha : 1 ≤ a) (hac : a + 1 < C) (hF : ArrM e m p C F) (hs : m[q]? = some (cellR [vi s])) :
    ∃ (m' : M) (s' : Int) (r : Nat), rt (n0 + 5) base 137 [sl p C, vi a, pt q 0] m = some (.ret (vi r), m') ∧ ArrM e m' p C F ∧ m'[q]? = some (cellR [vi s']) ∧ Own p q m m' ∧ a ≤ r + 1 ∧ r ≤ a + 1 := by
  rw [rt_imp (f := 137) (rf := rf137) (by kernel_rfl) (by kernel_rfl) (by kernel_rfl) (n0 + 4) base]
  show ∃ (m' : M) (s' : Int) (r : Nat), r137 (rt (n0 + 4)) (n0 + 4) base (sl p C) (vi a) (pt q 0) m = _ ∧ _
  obtain ⟨m1, s1, r, e1, F1, b1, o1, c1⟩ := t138 n0 base hbq hpq (show a - 1 < C by omega) (show a < C by omega) hac hF hs
  unfold r137
  rw [k1_fun, fVal_fun, sub1 a ha (by omega), k1s, add1 a (by omega), k1s, e1, kcs]
  exact ⟨m1, s1, r, rfl, F1, b1, o1, by omega, by omega⟩
theorem quoL (c k : Nat) (hk : 0 < k) (hc : c ≤ 1000000) : mbin E .quo 3 (vi c) (vi k) = some (vi ((c / k : Nat) : Int)) := by
  have h1 : c / k ≤ c := Nat.div_le_self c k
  have e : (c : Int).tdiv k = ((c / k : Nat) : Int) := rfl
  rw [quo3 _ _ (by omega), e]
  generalize c / k = q at h1
  rw [wr_id (by omega) (by omega)]
theorem mulL (a b : Nat) (h : a * b ≤ 1000000) : mbin E .mul 3 (vi a) (vi b) = some (vi ((a * b : Nat) : Int)) := by
  have e : (a : Int) * b = ((a * b : Nat) : Int) := by simp
  rw [mul3, e]
  generalize a * b = q at h
  rw [wr_id (by omega) (by omega)]
set_option maxHeartbeats 1000000 in
theorem t126 (n0 base : Nat) {e : Bool} {m : M} {p C a b : Nat} {F : Nat → Int} (hbb : base ≤ p) (hC : C ≤ 400000) (hb : b ≤ C) (hab : a + 8 ≤ b) (hF : ArrM e m p C F) :
    ∃ (m' : M) (r h : Nat), rt (n0 + 6) base 126 [sl p C, vi a, vi b] m = some (.ret (.tuple #[vi r, vi h]), m') ∧ ArrM e m' p C F ∧ Oth p m m' ∧ a ≤ r ∧ r < b ∧ h ≤ 2 := by
  rw [rt_imp (f := 126) (rf := rf126) (by kernel_rfl) (by kernel_rfl) (by kernel_rfl) (n0 + 5) base]
  show ∃ (m' : M) (r h : Nat), r126 (rt (n0 + 5)) (n0 + 5) base (sl p C) (vi a) (vi b) m = _ ∧ _
  have hpl : p < m.length := (List.getElem?_eq_some_iff.1 hF).1
  have hF0 : ArrM e (m ++ [cellR [vi 0]]) p C F := by
    show (m ++ [cellR [vi 0]])[p]? = _
    rw [List.getElem?_append_left hpl]
    exact hF
  have hs0 : (m ++ [cellR [vi 0]])[m.length]? = some (cellR [vi 0]) := by simp
  have hlast : ∀ {m' : M}, Own p m.length (m ++ [cellR [vi 0]]) m' → Oth p m m' := fun {m'} ho => ⟨by rw [ho.1]; simp, fun r h1 h2 => by rw [ho.2 r (by omega), List.getElem?_append_left h1]⟩
  have tail : ∀ (m' : M) (s' : Int) (r : Nat), ArrM e m' p C F → m'[m.length]? = some (cellR [vi s']) → Own p m.length (m ++ [cellR [vi 0]]) m' → a ≤ r → r < b → ∃ (m'' : M) (r' h : Nat), (k1n (xload E.P m' 3 (pt m.length 0)) fun v49_18 => (k1n (mbin E .eql 3 v49_18 (.int .i64 0)) fun v52_19 => (kb v52_19 (some (.ret (.tuple #[vi r, (.int .i64 1)]), m')) (k1n (mbin E .eql 3 v49_18 (.int .i64 12)) fun v55_20 => (kb v55_20 (some (.ret (.tuple #[vi r, (.int .i64 2)]), m')) (some (.ret (.tuple #[vi r, (.int .i64 0)]), m'))))))) = some (.ret (.tuple #[vi r', vi h]), m'') ∧ ArrM e m'' p C F ∧ Oth p m m'' ∧ a ≤ r' ∧ r' < b ∧ h ≤ 2 := fun m' s' r h1 h2 h3 h4 h5 => by
    rw [ld3, box_cell h2 0 _ rfl, k1s, show (.int .i64 0 : Value) = vi 0 from rfl, eql3, k1s]
    by_cases hz : s' = 0
    · rw [decide_eq_true hz, kbt]
      exact ⟨m', r, 1, rfl, h1, hlast h3, h4, h5, by omega⟩
    · rw [decide_eq_false hz, kbf, show (.int .i64 12 : Value) = vi 12 from rfl, eql3, k1s]
      by_cases hz2 : s' = 12
      · rw [decide_eq_true hz2, kbt]
        exact ⟨m', r, 2, rfl, h1, hlast h3, h4, h5, by omega⟩
      · rw [decide_eq_false hz2, kbf]
        exact ⟨m', r, 0, rfl, h1, hlast h3, h4, h5, by omega⟩
  unfold r126
  rw [k1_fun, subC b a (by omega) (by omega), k1s, al3, k2s, show (.int .i64 4 : Value) = vi (4 : Nat) from rfl, quoL (b - a) 4 (by omega) (by omega), k1s]
  have hd := Nat.div_add_mod (b - a) 4
  have hm4 := Nat.mod_lt (b - a) (show 0 < 4 by omega)
  generalize (b - a) / 4 = d at hd
  rw [show (.int .i64 1 : Value) = vi (1 : Nat) from rfl, mulL d 1 (by omega), k1s, addC a (d * 1) (by omega), k1s, k1s, show (.int .i64 2 : Value) = vi (2 : Nat) from rfl, mulL d 2 (by omega), k1s, addC a (d * 2) (by omega), k1s, k1s, show (.int .i64 3 : Value) = vi (3 : Nat) from rfl, mulL d 3 (by omega), k1s, addC a (d * 3) (by omega), k1s, show (.int .i64 8 : Value) = vi (8 : Nat) from rfl, geq3, k1s, decide_eq_true (show ((b - a : Nat) : Int) ≥ (8 : Nat) by omega), kbt, show (.int .i64 50 : Value) = vi (50 : Nat) from rfl, geq3, k1s]
  by_cases h50 : 50 ≤ b - a
  · obtain ⟨m1, s1, i1, e1, F1, b1, o1, c1⟩ := t137 n0 base (show base ≤ m.length by omega) (show p ≠ m.length by omega) hC (show 1 ≤ a + d * 1 by omega) (show a + d * 1 + 1 < C by omega) hF0 hs0
    obtain ⟨m2, s2, i2, e2, F2, b2, o2, c2⟩ := t137 n0 base (show base ≤ m.length by omega) (show p ≠ m.length by omega) hC (show 1 ≤ a + d * 2 by omega) (show a + d * 2 + 1 < C by omega) F1 b1
    obtain ⟨m3, s3, i3, e3, F3, b3, o3, c3⟩ := t137 n0 base (show base ≤ m.length by omega) (show p ≠ m.length by omega) hC (show 1 ≤ a + d * 3 by omega) (show a + d * 3 + 1 < C by omega) F2 b2
    obtain ⟨m4, s4, r, e4, F4, b4, o4, c4⟩ := t138 (n0 + 1) base (show base ≤ m.length by omega) (show p ≠ m.length by omega) (show i1 < C by omega) (show i2 < C by omega) (show i3 < C by omega) F3 b3
    rw [decide_eq_true (show ((b - a : Nat) : Int) ≥ (50 : Nat) by omega), kbt, e1, kcs, e2, kcs, e3, kcs, e4, kcs]
    exact tail m4 s4 r F4 b4 (((o1.trans o2).trans o3).trans o4) (by omega) (by omega)
  · obtain ⟨m4, s4, r, e4, F4, b4, o4, c4⟩ := t138 (n0 + 1) base (show base ≤ m.length by omega) (show p ≠ m.length by omega) (show a + d * 1 < C by omega) (show a + d * 2 < C by omega) (show a + d * 3 < C by omega) hF0 hs0
    rw [decide_eq_false (show ¬ ((b - a : Nat) : Int) ≥ (50 : Nat) by omega), kbf, e4, kcs]
    exact tail m4 s4 r F4 b4 o4 (by omega) (by omega)
end Go.AM
namespace Go.AM
open Go Go.Proofs
def vu (n : Int) : Value := .int .u64 n
def wu (n : Int) : Int := IntKind.u64.wrap n
theorem wu_id {n : Int} (h0 : 0 ≤ n) (h1 : n < 18446744073709551616) : wu n = n := by
  have e : wu n = n % 18446744073709551616 := by
    unfold wu
    show IntKind.u64.wrap n = _
    simp [IntKind.wrap, IntKind.bits, IntKind.signed]
  rw [e, Int.emod_eq_of_lt h0 h1]
theorem cv3u (n : Int) : mconvert E.P 3 125 (vi n) = some (vu (wu n)) := by kernel_rfl
theorem cv3x (n : Int) : mconvert E.P 3 140 (vi n) = some (vu (wu n)) := by kernel_rfl
theorem cvu3 (n : Int) : mconvert E.P 125 3 (vu n) = some (vi (wr n)) := by kernel_rfl
theorem cvl5 (n : Int) : mconvert E.P 139 5 (vu n) = some (.int .u8 (IntKind.u8.wrap n)) := by kernel_rfl
theorem cv53 (n : Int) : mconvert E.P 5 3 (.int .u8 n) = some (vi (wr n)) := by kernel_rfl
theorem geqU (a b : Int) : mbin E .geq 139 (vu a) (vu b) = some (.bool (decide (a ≥ b))) := by kernel_rfl
theorem subU (a b : Int) : mbin E .sub 125 (vu a) (vu b) = some (vu (wu (a - b))) := by kernel_rfl
theorem andU (a b : Int) : mbin E .and 125 (vu a) (vu b) = some (vu (wu (BitVec.ofInt 64 a &&& BitVec.ofInt 64 b).toNat)) := by kernel_rfl
theorem xorX (a b : Int) : mbin E .xor 140 (vu a) (vu b) = some (vu (wu (BitVec.ofInt 64 a ^^^ BitVec.ofInt 64 b).toNat)) := by kernel_rfl
theorem shlX13 (a : Int) : mbin E .shl 140 (vu a) (.int .u64 13) = some (vu (wu (a * 2 ^ 13))) := by kernel_rfl
theorem shlX17 (a : Int) : mbin E .shl 140 (vu a) (.int .u64 17) = some (vu (wu (a * 2 ^ 17))) := by kernel_rfl
theorem shrX7 (a : Int) : mbin E .shr 140 (vu a) (.int .u64 7) = some (vu (a.fdiv (2 ^ 7))) := by kernel_rfl
theorem shrU8 (a : Int) : mbin E .shr 139 (vu a) (.int .u64 8) = some (vu (a.fdiv (2 ^ 8))) := by kernel_rfl
theorem shrU16 (a : Int) : mbin E .shr 139 (vu a) (.int .u64 16) = some (vu (a.fdiv (2 ^ 16))) := by kernel_rfl
theorem shlU (L : Nat) : mbin E .shl 125 (.int .u64 1) (vi L) = some (vu (wu (2 ^ (min L 64)))) := by
  have h : mbin E .shl 125 (.int .u64 1) (vi L) = if (L : Int) < 0 then none else some (vu (wu (1 * 2 ^ (min ((L : Int)).toNat 64)))) := by kernel_rfl
  rw [h, if_neg (by omega), Int.toNat_natCast, Int.one_mul]
theorem fdiv_nat (a b : Nat) : (a : Int).fdiv b = ((a / b : Nat) : Int) := by
  rw [Int.fdiv_eq_ediv_of_nonneg _ (by omega)]
  rfl
theorem u8_id {n : Nat} (h : n < 256) : IntKind.u8.wrap n = (n : Int) := by
  have e : IntKind.u8.wrap (n : Int) = (n : Int) % 256 := by
    simp [IntKind.wrap, IntKind.bits, IntKind.signed]
  rw [e, Int.emod_eq_of_lt (by omega) (by omega)]
/-- How many bits a number has. -/
def bitN (n : Nat) : Nat := if n = 0 then 0 else Nat.log2 n + 1
theorem tab_all : ((List.range 256).all fun i => match mindex E.P 9 (.string (ByteArray.mk #[0, 1, 2, 2, 3, 3, 3, 3, 4, 4, 4, 4, 4, 4, 4, 4, 5, 5, 5, 5, 5, 5, 5, 5, 5, 5, 5, 5, 5, 5, 5, 5, 6, 6, 6, 6, 6, 6, 6, 6, 6, 6, 6, 6, 6, 6, 6, 6, 6, 6, 6, 6, 6, 6, 6, 6, 6, 6, 6, 6, 6, 6, 6, 6, 7, 7, 7, 7, 7, 7, 7, 7, 7, 7, 7, 7, 7, 7, 7, 7, 7, 7, 7, 7, 7, 7, 7, 7, 7, 7, 7, 7, 7, 7, 7, 7, 7, 7, 7, 7, 7, 7, 7, 7, 7, 7, 7, 7, 7, 7, 7, 7, 7, 7, 7, 7, 7, 7, 7, 7, 7, 7, 7, 7, 7, 7, 7, 7, 8, 8, 8, 8, 8, 8, 8, 8, 8, 8, 8, 8, 8, 8, 8, 8, 8, 8, 8, 8, 8, 8, 8, 8, 8, 8, 8, 8, 8, 8, 8, 8, 8, 8, 8, 8, 8, 8, 8, 8, 8, 8, 8, 8, 8, 8, 8, 8, 8, 8, 8, 8, 8, 8, 8, 8, 8, 8, 8, 8, 8, 8, 8, 8, 8, 8, 8, 8, 8, 8, 8, 8, 8, 8, 8, 8, 8, 8, 8, 8, 8, 8, 8, 8, 8, 8, 8, 8, 8, 8, 8, 8, 8, 8, 8, 8, 8, 8, 8, 8, 8, 8, 8, 8, 8, 8, 8, 8, 8, 8, 8, 8, 8, 8, 8, 8, 8, 8, 8, 8, 8, 8, 8, 8, 8, 8, 8, 8])) (.int .u8 i) with
    | some (.int .u8 v) => decide (v = bitN i)
    | _ => false) = true := by kernel_rfl
theorem tabix {i : Nat} (h : i < 256) : mindex E.P 9 (.string (ByteArray.mk #[0, 1, 2, 2, 3, 3, 3, 3, 4, 4, 4, 4, 4, 4, 4, 4, 5, 5, 5, 5, 5, 5, 5, 5, 5, 5, 5, 5, 5, 5, 5, 5, 6, 6, 6, 6, 6, 6, 6, 6, 6, 6, 6, 6, 6, 6, 6, 6, 6, 6, 6, 6, 6, 6, 6, 6, 6, 6, 6, 6, 6, 6, 6, 6, 7, 7, 7, 7, 7, 7, 7, 7, 7, 7, 7, 7, 7, 7, 7, 7, 7, 7, 7, 7, 7, 7, 7, 7, 7, 7, 7, 7, 7, 7, 7, 7, 7, 7, 7, 7, 7, 7, 7, 7, 7, 7, 7, 7, 7, 7, 7, 7, 7, 7, 7, 7, 7, 7, 7, 7, 7, 7, 7, 7, 7, 7, 7, 7, 8, 8, 8, 8, 8, 8, 8, 8, 8, 8, 8, 8, 8, 8, 8, 8, 8, 8, 8, 8, 8, 8, 8, 8, 8, 8, 8, 8, 8, 8, 8, 8, 8, 8, 8, 8, 8, 8, 8, 8, 8, 8, 8, 8, 8, 8, 8, 8, 8, 8, 8, 8, 8, 8, 8, 8, 8, 8, 8, 8, 8, 8, 8, 8, 8, 8, 8, 8, 8, 8, 8, 8, 8, 8, 8, 8, 8, 8, 8, 8, 8, 8, 8, 8, 8, 8, 8, 8, 8, 8, 8, 8, 8, 8, 8, 8, 8, 8, 8, 8, 8, 8, 8, 8, 8, 8, 8, 8, 8, 8, 8, 8, 8, 8, 8, 8, 8, 8, 8, 8, 8, 8, 8, 8, 8, 8, 8, 8])) (.int .u8 i) = some (.int .u8 (bitN i)) := by
  have := List.all_eq_true.1 tab_all i (by simpa using h)
  split at this
  · rename_i v hv
    rw [hv, of_decide_eq_true this]
  · simp at this
theorem bitN_le {n : Nat} (h : n ≠ 0) : 2 ^ bitN n ≤ 2 * n := by
  unfold bitN
  rw [if_neg h, Nat.pow_succ]
  have := Nat.log2_self_le h
  omega
theorem bitN_small {n : Nat} (h : n < 256) : bitN n ≤ 8 := by
  unfold bitN
  by_cases e : n = 0
  · rw [if_pos e]; omega
  · rw [if_neg e]
    have := (Nat.log2_lt e (k := 8)).2 h
    omega
theorem t133 (n base k : Nat) (hk : k ≤ 400000) (m : M) : ∃ L : Nat, rt (n + 1) base 133 [vu k] m = some (.ret (vi L), m) ∧ L ≤ 40 ∧ (k ≠ 0 → 2 ^ L ≤ 2 * k) := by
  have key : ∃ L : Nat, r133 (rt n) n m.length (vu k) m = some (.ret (vi L), m) ∧ L ≤ 40 ∧ (k ≠ 0 → 2 ^ L ≤ 2 * k) := by
    unfold r133
    rw [k1_fun, fVal_fun, show (.int .u64 4294967296 : Value) = vu 4294967296 from rfl, geqU, k1s, decide_eq_false (by omega), kbf, show (.int .u64 65536 : Value) = vu 65536 from rfl, geqU, k1s]
    have h8 : ∀ x : Nat, bitN x ≤ 40 → wr ((bitN x : Nat) : Int) = ((bitN x : Nat) : Int) := fun x hx => wr_id (by omega) (by omega)
    by_cases h16 : 65536 ≤ k
    · have hq : k / 65536 < 256 := by omega
      have hb := bitN_small hq
      have hb2 := bitN_le (n := k / 65536) (by omega)
      refine ⟨16 + bitN (k / 65536), ?_, by omega, fun _ => ?_⟩
      · rw [decide_eq_true (show (k : Int) ≥ 65536 by omega), kbt, shrU16, k1s, show ((2 : Int) ^ 16) = ((65536 : Nat) : Int) from rfl, fdiv_nat, show mbin E .add 3 (.int .i64 0) (.int .i64 16) = some (vi 16) from by kernel_rfl, k1s, show (.int .u64 256 : Value) = vu 256 from rfl, geqU, k1s, decide_eq_false (by omega), kbf, cvl5, u8_id hq, k1s, tabix hq, k1s, cv53, h8 _ (by omega), k1s, add3, wr_id (by omega) (by omega), k1s]
        congr 1
      · rw [Nat.pow_add]
        have h1 : 2 ^ 16 * 2 ^ bitN (k / 65536) ≤ 2 ^ 16 * (2 * (k / 65536)) := Nat.mul_le_mul_left _ hb2
        omega
    · rw [decide_eq_false (show ¬ (k : Int) ≥ 65536 by omega), kbf, show (.int .u64 256 : Value) = vu 256 from rfl, geqU, k1s]
      by_cases h256 : 256 ≤ k
      · have hq : k / 256 < 256 := by omega
        have hb := bitN_small hq
        have hb2 := bitN_le (n := k / 256) (by omega)
        refine ⟨8 + bitN (k / 256), ?_, by omega, fun _ => ?_⟩
        · rw [decide_eq_true (show (k : Int) ≥ 256 by omega), kbt, shrU8, k1s, show ((2 : Int) ^ 8) = ((256 : Nat) : Int) from rfl, fdiv_nat, show mbin E .add 3 (.int .i64 0) (.int .i64 8) = some (vi 8) from by kernel_rfl, k1s, cvl5, u8_id hq, k1s, tabix hq, k1s, cv53, h8 _ (by omega), k1s, add3, wr_id (by omega) (by omega), k1s]
          congr 1
        · rw [Nat.pow_add]
          have h1 : 2 ^ 8 * 2 ^ bitN (k / 256) ≤ 2 ^ 8 * (2 * (k / 256)) := Nat.mul_le_mul_left _ hb2
          omega
      · have hq : k < 256 := by omega
        have hb := bitN_small hq
        refine ⟨bitN k, ?_, by omega, fun h0 => bitN_le h0⟩
        rw [decide_eq_false (show ¬ (k : Int) ≥ 256 by omega), kbf, cvl5, u8_id hq, k1s, tabix hq, k1s, cv53, h8 _ (by omega), k1s, show (.int .i64 0 : Value) = vi 0 from rfl, add3, wr_id (by omega) (by omega), k1s, Int.zero_add]
  obtain ⟨L, h1, h2, h3⟩ := key
  exact ⟨L, rt_pure (f := 133) (rf := rf133) (by kernel_rfl) (by kernel_rfl) (by kernel_rfl) n base _ m m _ h1 rfl, h2, h3⟩
theorem t120 (n base k : Nat) (hk : k ≤ 400000) (m : M) : ∃ L : Nat, rt (n + 2) base 120 [vu k] m = some (.ret (vi L), m) ∧ L ≤ 40 ∧ (k ≠ 0 → 2 ^ L ≤ 2 * k) := by
  obtain ⟨L, h1, h2, h3⟩ := t133 n m.length k hk m
  refine ⟨L, rt_pure (f := 120) (rf := rf120) (by kernel_rfl) (by kernel_rfl) (by kernel_rfl) (n + 1) base _ m m _ ?_ rfl, h2, h3⟩
  show r120 (rt (n + 1)) (n + 1) m.length (vu k) m = _
  unfold r120
  rw [fVal_fun, h1, kcs]
theorem t135 (n base k : Nat) (hk : k ≤ 400000) (m : M) : ∃ P : Nat, rt (n + 3) base 135 [vi k] m = some (.ret (vu P), m) ∧ 1 ≤ P ∧ P ≤ 1099511627776 ∧ (k ≠ 0 → P ≤ 2 * k) := by
  obtain ⟨L, h1, h2, h3⟩ := t120 n m.length k hk m
  have hp : 2 ^ L ≤ 2 ^ 40 := Nat.pow_le_pow_right (by omega) h2
  have hp1 : 1 ≤ 2 ^ L := Nat.one_le_two_pow
  refine ⟨2 ^ L, rt_pure (f := 135) (rf := rf135) (by kernel_rfl) (by kernel_rfl) (by kernel_rfl) (n + 2) base _ m m _ ?_ rfl, hp1, hp, h3⟩
  show r135 (rt (n + 2)) (n + 2) m.length (vi k) m = _
  unfold r135
  rw [k1_fun, fVal_fun, cv3u, wu_id (by omega) (by omega), k1s, h1, kcs, shlU, show min L 64 = L by omega, k1s]
  have e : ((2 : Int) ^ L) = ((2 ^ L : Nat) : Int) := by simp
  rw [e]
  generalize 2 ^ L = P at hp
  rw [wu_id (by omega) (by omega)]
end Go.AM
namespace Go.AM
open Go Go.Proofs
theorem r125_L0_s (call : CallF) (fuel base : Nat) (kp : Value → M → Res2) (kx0 : M → Res2) (n : Nat) (x0 x1 x6 x7 x8 x9 : Value) (m : M) : r125_L0 call fuel base kp kx0 (n + 1) x0 x1 x6 x7 x8 x9 m =
    (k1n (mbin E .quo 3 x6 (.int .i64 4)) fun v29_10 => (k1n (mbin E .mul 3 v29_10 (.int .i64 2)) fun v30_11 => (k1n (mbin E .add 3 x1 v30_11) fun v31_12 => (k1n (mbin E .add 3 v31_12 (.int .i64 1)) fun v32_13 => (k1n (mbin E .leq 3 x9 v32_13) fun v33_14 => (kb v33_14 (kc (call base 136 [x7] m) (fun v36_15 m => (k1n (mbin E .sub 125 x8 (.int .u64 1)) fun v38_16 => (k1n (mbin E .and 125 v36_15 v38_16) fun v39_17 => (k1n (mconvert E.P 125 3 v39_17) fun v40_18 => (k1n (mbin E .geq 3 v40_18 x6) fun v43_19 => (kb v43_19 (k1n (mbin E .sub 3 v40_18 x6) fun v46_20 => (k1n (mbin E .add 3 x1 v46_20) fun v52_21 => (k1n (mbin E .add 3 x1 v46_20) fun v56_22 => (k1n (mindexAddr E.P 33 x0 v56_22) fun v57_23 => (k1n (xload E.P m 3 v57_23) fun v58_24 => (k1n (mindexAddr E.P 33 x0 x9) fun v61_25 => (k1n (xload E.P m 3 v61_25) fun v62_26 => (k1n (mindexAddr E.P 33 x0 x9) fun v63_27 => (ks (xstore E.P base m 3 v63_27 v58_24) fun m => (k1n (mindexAddr E.P 33 x0 v52_21) fun v64_28 => (ks (xstore E.P base m 3 v64_28 v62_26) fun m => (k1n (mbin E .add 3 x9 (.int .i64 1)) fun v35_29 => (r125_L0 call fuel base kp kx0 n x0 x1 x6 x7 x8 v35_29 m))))))))))))) (k1n (mbin E .add 3 x1 v40_18) fun v52_30 => (k1n (mbin E .add 3 x1 v40_18) fun v56_31 => (k1n (mindexAddr E.P 33 x0 v56_31) fun v57_32 => (k1n (xload E.P m 3 v57_32) fun v58_33 => (k1n (mindexAddr E.P 33 x0 x9) fun v61_34 => (k1n (xload E.P m 3 v61_34) fun v62_35 => (k1n (mindexAddr E.P 33 x0 x9) fun v63_36 => (ks (xstore E.P base m 3 v63_36 v58_33) fun m => (k1n (mindexAddr E.P 33 x0 v52_30) fun v64_37 => (ks (xstore E.P base m 3 v64_37 v62_35) fun m => (k1n (mbin E .add 3 x9 (.int .i64 1)) fun v35_38 => (r125_L0 call fuel base kp kx0 n x0 x1 x6 x7 x8 v35_38 m)))))))))))))))))) (fun v m => kp v m)) (kx0 m))))))) := by
  unfold r125_L0
  rw [k1_fun]
theorem al140 (m : M) : xalloc E.P m 140 = some (pt m.length 0, m ++ [cellR [vu 0]]) := by
  have e : xalloc E.P m 140 = xlen m fun n => xpush m (cellR [vu 0]) fun m' => some (pt n 0, m') := by kernel_rfl
  rw [e, xlen_eq, fNat_eq, xpush_eq, fList_eq]
theorem ld140 (m : M) (r off : Nat) : xload E.P m 140 (pt r off) = mcell m r off := by
  have e : xload E.P m 140 (pt r off) = xcell m r off := by kernel_rfl
  rw [e, xcell_eq]
theorem st140 (base : Nat) (m : M) (p off : Nat) (x : Int) : xstore E.P base m 140 (pt p off) (vu x) = mwrite base m p off [(vu x)] := by
  have e : xstore E.P base m 140 (pt p off) (vu x) = xwrite base m p off [(vu x)] := by kernel_rfl
  rw [e, xwrite_eq]
theorem box_st {base : Nat} {m : M} {q : Nat} {s : Int} (hb : base ≤ q) (hs : m[q]? = some (cellR [vu s])) (x : Int) : xstore E.P base m 140 (pt q 0) (vu x) = some (m.set q (cellR [vu x])) := by
  rw [st140, mwrite_one hb hs rfl (by show 0 < 1; omega) rfl]
  rfl
theorem ldB {m : M} {q : Nat} {s : Int} (hs : m[q]? = some (cellR [vu s])) (K : Value → Res2) : k1n (xload E.P m 140 (pt q 0)) K = K (vu s) := by
  rw [ld140, box_cell hs 0 _ rfl, k1s]
theorem t136 (n base : Nat) {m : M} {q : Nat} {s : Int} (hbq : base ≤ q) (hs : m[q]? = some (cellR [vu s])) : ∃ (m' : M) (z : Int), rt (n + 1) base 136 [pt q 0] m = some (.ret (vu z), m') ∧ m'[q]? = some (cellR [vu z]) ∧ Own 0 q m m' := by
  rw [rt_imp (f := 136) (rf := rf136) (by kernel_rfl) (by kernel_rfl) (by kernel_rfl) n base]
  show ∃ (m' : M) (z : Int), r136 (rt n) n base (pt q 0) m = _ ∧ _
  have hql := (List.getElem?_eq_some_iff.1 hs).1
  have hset : ∀ (m : M) (x : Int), q < m.length → (m.set q (cellR [vu x]))[q]? = some (cellR [vu x]) := fun m x h => List.getElem?_set_self h
  unfold r136
  rw [k1_fun, fVal_fun, mnilP, k1s, ldB hs, k1s, ldB hs, shlX13, k1s, xorX, k1s, k1s, box_st hbq hs, kss]
  have h1 := hset m (wu (BitVec.ofInt 64 s ^^^ BitVec.ofInt 64 (wu (s * 2 ^ 13))).toNat) hql
  generalize wu (BitVec.ofInt 64 s ^^^ BitVec.ofInt 64 (wu (s * 2 ^ 13))).toNat = z1 at h1
  have hl1 : q < (m.set q (cellR [vu z1])).length := by simpa using hql
  have o1 : Own 0 q m (m.set q (cellR [vu z1])) := ⟨by simp, fun r hr => List.getElem?_set_ne (Ne.symm hr)⟩
  generalize m.set q (cellR [vu z1]) = m1 at h1 hl1 o1
  rw [k1s, ldB h1, k1s, ldB h1, shrX7, k1s, xorX, k1s, k1s, box_st hbq h1, kss]
  have h2 := hset m1 (wu (BitVec.ofInt 64 z1 ^^^ BitVec.ofInt 64 (z1.fdiv (2 ^ 7))).toNat) hl1
  generalize wu (BitVec.ofInt 64 z1 ^^^ BitVec.ofInt 64 (z1.fdiv (2 ^ 7))).toNat = z2 at h2
  have hl2 : q < (m1.set q (cellR [vu z2])).length := by simpa using hl1
  have o2 : Own 0 q m1 (m1.set q (cellR [vu z2])) := ⟨by simp, fun r hr => List.getElem?_set_ne (Ne.symm hr)⟩
  generalize m1.set q (cellR [vu z2]) = m2 at h2 hl2 o2
  rw [k1s, ldB h2, k1s, ldB h2, shlX17, k1s, xorX, k1s, k1s, box_st hbq h2, kss]
  have h3 := hset m2 (wu (BitVec.ofInt 64 z2 ^^^ BitVec.ofInt 64 (wu (z2 * 2 ^ 17))).toNat) hl2
  generalize wu (BitVec.ofInt 64 z2 ^^^ BitVec.ofInt 64 (wu (z2 * 2 ^ 17))).toNat = z3 at h3
  have o3 : Own 0 q m2 (m2.set q (cellR [vu z3])) := ⟨by simp, fun r hr => List.getElem?_set_ne (Ne.symm hr)⟩
  rw [k1s, ldB h3]
  exact ⟨_, z3, rfl, h3, (o1.trans o2).trans o3⟩
theorem and_le (x : Int) (P : Nat) (hP : 1 ≤ P) (hP2 : P ≤ 1099511627776) : ∃ o : Nat, o < P ∧ wu (BitVec.ofInt 64 x &&& BitVec.ofInt 64 ((P : Int) - 1)).toNat = (o : Int) := by
  have e : BitVec.ofInt 64 ((P : Int) - 1) = BitVec.ofNat 64 (P - 1) := by
    rw [show (P : Int) - 1 = ((P - 1 : Nat) : Int) by omega, BitVec.ofInt_natCast]
  refine ⟨(BitVec.ofInt 64 x &&& BitVec.ofNat 64 (P - 1)).toNat, ?_, ?_⟩
  · rw [BitVec.toNat_and]
    have h1 : (BitVec.ofInt 64 x).toNat &&& (BitVec.ofNat 64 (P - 1)).toNat ≤ (BitVec.ofNat 64 (P - 1)).toNat := Nat.and_le_right
    have h2 : (BitVec.ofNat 64 (P - 1)).toNat = P - 1 := by
      rw [BitVec.toNat_ofNat, Nat.mod_eq_of_lt (by omega)]
    omega
  · rw [e]
    have := (BitVec.ofInt 64 x &&& BitVec.ofNat 64 (P - 1)).isLt
    generalize (BitVec.ofInt 64 x &&& BitVec.ofNat 64 (P - 1)).toNat = o at this
    rw [wu_id (by omega) (by omega)]
set_option maxHeartbeats 1000000 in
theorem loop125 (n0 base : Nat) (kp : Value → M → Res2) (kx : M → Res2) (fuel : Nat) {e : Bool} {p C a b q P : Nat} (hbb : base ≤ p) (hbq : base ≤ q) (hpq : p ≠ q) (hC : C ≤ 400000) (hb : b ≤ C) (hab : a + 8 ≤ b) (hP : 1 ≤ P) (hP2 : P ≤ 1099511627776) (hP3 : P ≤ 2 * (b - a)) :
    ∀ (n i : Nat) (m : M) (G : Nat → Int) (s : Int), ArrM e m p C G → m[q]? = some (cellR [vu s]) → a ≤ i → i ≤ a + (b - a) / 4 * 2 + 2 → a + (b - a) / 4 * 2 + 2 < n + i →
      ∃ (m' : M) (G' : Nat → Int), r125_L0 (rt (n0 + 2)) fuel base kp kx n (sl p C) (vi a) (vi (b - a : Nat)) (pt q 0) (vu P) (vi i) m = kx m' ∧ ArrM e m' p C G' ∧ m'.length = m.length ∧ (∀ r, r ≠ p → r ≠ q → m'[r]? = m[r]?) ∧ Mix a b G G'
  | 0, i, m, G, s, hG, hs, h1, h2, hn => by omega
  | n + 1, i, m, G, s, hG, hs, h1, h2, hn => by
    have hdd : (b - a) / 4 ≤ b - a := Nat.div_le_self _ _
    have hd4 := Nat.div_add_mod (b - a) 4
    have hm4 := Nat.mod_lt (b - a) (show 0 < 4 by omega)
    rw [r125_L0_s, show (.int .i64 4 : Value) = vi (4 : Nat) from rfl, quoL (b - a) 4 (by omega) (by omega), k1s]
    have again := fun (m1 : M) (G1 : Nat → Int) (z : Int) g1 g2 => loop125 n0 base kp kx fuel (e := e) (a := a) (b := b) (P := P) hbb hbq hpq hC hb hab hP hP2 hP3 n (i + 1) m1 G1 z g1 g2
    generalize (b - a) / 4 = d at h2 hn hdd hd4 again
    rw [show (.int .i64 2 : Value) = vi (2 : Nat) from rfl, mulL d 2 (by omega), k1s, addC a (d * 2) (by omega), k1s, add1 (a + d * 2) (by omega), k1s, leq3, k1s]
    by_cases hle : i ≤ a + d * 2 + 1
    · rw [decide_eq_true (show (i : Int) ≤ ((a + d * 2 + 1 : Nat) : Int) by omega), kbt]
      obtain ⟨m1, z, e1, b1, o1⟩ := t136 (n0 + 1) base hbq hs
      have hG1 : ArrM e m1 p C G := by
        show m1[p]? = _
        rw [o1.2 p hpq]
        exact hG
      obtain ⟨o, ho, eo⟩ := and_le z P hP hP2
      rw [e1, kcs, show (.int .u64 1 : Value) = vu 1 from rfl, subU, wu_id (by omega) (by omega), k1s, andU, eo, k1s, cvu3, wr_id (by omega) (by omega), k1s, geq3, k1s]
      have fin : ∀ c : Nat, c < b - a → ∃ (m' : M) (G' : Nat → Int), (k1n (mbin E .add 3 (vi a) (vi c)) fun v52_30 => (k1n (mbin E .add 3 (vi a) (vi c)) fun v56_31 => (k1n (mindexAddr E.P 33 (sl p C) v56_31) fun v57_32 => (k1n (xload E.P m1 3 v57_32) fun v58_33 => (k1n (mindexAddr E.P 33 (sl p C) (vi i)) fun v61_34 => (k1n (xload E.P m1 3 v61_34) fun v62_35 => (k1n (mindexAddr E.P 33 (sl p C) (vi i)) fun v63_36 => (ks (xstore E.P base m1 3 v63_36 v58_33) fun m => (k1n (mindexAddr E.P 33 (sl p C) v52_30) fun v64_37 => (ks (xstore E.P base m 3 v64_37 v62_35) fun m => (k1n (mbin E .add 3 (vi i) (.int .i64 1)) fun v35_38 => (r125_L0 (rt (n0 + 2)) fuel base kp kx n (sl p C) (vi a) (vi (b - a : Nat)) (pt q 0) (vu P) v35_38 m)))))))))))) = kx m' ∧ ArrM e m' p C G' ∧ m'.length = m.length ∧ (∀ r, r ≠ p → r ≠ q → m'[r]? = m[r]?) ∧ Mix a b G G' := fun c hc => by
        obtain ⟨m2, e2, G2, l2, o2⟩ := hG1.swp hbb (i := i) (j := a + c) (by omega) (by omega)
        rw [addC a c (by omega), k1s, k1s, hG1.get (k := a + c) (by omega), hG1.get (k := i) (by omega), e2, add1 i (by omega), k1s]
        obtain ⟨m', G', z1, z2, z3, z4, z5⟩ := again m2 _ z G2 (by rw [o2 q (Ne.symm hpq)]; exact b1) (by omega) (by omega) (by omega)
        exact ⟨m', G', z1, z2, z3.trans (l2.trans o1.1), fun r g1 g2 => (z4 r g1 g2).trans ((o2 r g1).trans (o1.2 r g2)), (Mix.sw G (by omega) (by omega) (by omega) (by omega)).trans z5⟩
      by_cases hge : b - a ≤ o
      · rw [decide_eq_true (show (o : Int) ≥ ((b - a : Nat) : Int) by omega), kbt, subC o (b - a) hge (by omega), k1s]
        exact fin (o - (b - a)) (by omega)
      · rw [decide_eq_false (show ¬ (o : Int) ≥ ((b - a : Nat) : Int) by omega), kbf]
        exact fin o (by omega)
    · rw [decide_eq_false (show ¬ (i : Int) ≤ ((a + d * 2 + 1 : Nat) : Int) by omega), kbf]
      exact ⟨m, G, rfl, hG, rfl, fun _ _ _ => rfl, Mix.refl _ _ _⟩
theorem t125 (n0 base : Nat) {e : Bool} {m : M} {p C a b : Nat} {F : Nat → Int} (hbb : base ≤ p) (hC : C ≤ 400000) (hb : b ≤ C) (hab : a + 8 ≤ b) (hn0 : C ≤ n0) (hF : ArrM e m p C F) :
    ∃ (m' : M) (F' : Nat → Int), rt (n0 + 8) base 125 [sl p C, vi a, vi b] m = some (.ret (.tuple #[]), m') ∧ ArrM e m' p C F' ∧ Oth p m m' ∧ Mix a b F F' := by
  rw [rt_imp (f := 125) (rf := rf125) (by kernel_rfl) (by kernel_rfl) (by kernel_rfl) (n0 + 7) base]
  show ∃ (m' : M) (F' : Nat → Int), r125 (rt (n0 + 7)) (n0 + 7) base (sl p C) (vi a) (vi b) m = _ ∧ _
  have hpl : p < m.length := (List.getElem?_eq_some_iff.1 hF).1
  have hs0 : (m ++ [cellR [vu 0]])[m.length]? = some (cellR [vu 0]) := by simp
  have hd4 := Nat.div_add_mod (b - a) 4
  have hm4 := Nat.mod_lt (b - a) (show 0 < 4 by omega)
  have hdd : (b - a) / 4 ≤ b - a := Nat.div_le_self _ _
  obtain ⟨P, e3, h1, h2, h3⟩ := t135 (n0 + 4) base (b - a) (by omega) ((m ++ [cellR [vu 0]]).set m.length (cellR [vu (b - a : Nat)]))
  unfold r125
  rw [k1_fun, subC b a (by omega) (by omega), k1s, show (.int .i64 8 : Value) = vi (8 : Nat) from rfl, geq3, k1s, decide_eq_true (show ((b - a : Nat) : Int) ≥ (8 : Nat) by omega), kbt, cv3x, wu_id (by omega) (by omega), k1s, al140, k2s, box_st (show base ≤ m.length by omega) hs0, kss, e3, kcs, show (.int .i64 4 : Value) = vi (4 : Nat) from rfl, quoL (b - a) 4 (by omega) (by omega), k1s, show (.int .i64 2 : Value) = vi (2 : Nat) from rfl, mulL ((b - a) / 4) 2 (by omega), k1s, addC a ((b - a) / 4 * 2) (by omega), k1s, sub1 (a + (b - a) / 4 * 2) (by omega) (by omega), k1s]
  have hF1 : ArrM e ((m ++ [cellR [vu 0]]).set m.length (cellR [vu (b - a : Nat)])) p C F := by
    show ((m ++ [cellR [vu 0]]).set m.length _)[p]? = _
    rw [List.getElem?_set_ne (by omega), List.getElem?_append_left hpl]
    exact hF
  obtain ⟨m', G', z1, z2, z3, z4, z5⟩ := loop125 (n0 + 5) base (fun v m => some (.pan v, m)) (fun m => (some (.ret (.tuple #[]), m))) (n0 + 7) (q := m.length) (a := a) (b := b) (P := P) hbb (by omega) (by omega) hC hb hab h1 h2 (h3 (by omega)) (n0 + 7) (a + (b - a) / 4 * 2 - 1) _ F ((b - a : Nat) : Int) hF1 (List.getElem?_set_self (by simp)) (by omega) (by omega) (by omega)
  refine ⟨m', G', z1, z2, ⟨by rw [z3]; simp, fun r g1 g2 => ?_⟩, z5⟩
  rw [z4 r g2 (by omega), List.getElem?_set_ne (by omega), List.getElem?_append_left g1]
end Go.AM
namespace Go.AM
open Go Go.Proofs
theorem r119_L0_s (call : CallF) (fuel base : Nat) (kp : Value → M → Res2) (kr : M → Res2) (n : Nat) (x0 x1 x2 x3 x8 x9 : Value) (m : M) : r119_L0 call fuel base kp kr (n + 1) x0 x1 x2 x3 x8 x9 m =
    (k1n (mbin E .sub 3 x2 x1) fun v21_1 => (k1n (mbin E .leq 3 v21_1 (.int .i64 12)) fun v23_2 => (kb v23_2 (kc (call base 123 [x0, x1, x2] m) (fun v27_3 m => (kr m)) (fun v m => kp v m)) (k1n (mbin E .eql 3 x3 (.int .i64 0)) fun v29_4 => (kb v29_4 (kc (call base 124 [x0, x1, x2] m) (fun v33_5 m => (kr m)) (fun v m => kp v m)) (k1n (mun .not x8) fun v35_6 => (kb v35_6 (kc (call base 125 [x0, x1, x2] m) (fun v39_7 m => (k1n (mbin E .sub 3 x3 (.int .i64 1)) fun v41_8 => (kc (call base 126 [x0, x1, x2] m) (fun v46_9 m => (k1n (mextract 0 v46_9) fun v47_10 => (k1n (mextract 1 v46_9) fun v48_11 => (k1n (mbin E .eql 128 v48_11 (.int .i64 2)) fun v50_12 => (kb v50_12 (kc (call base 127 [x0, x1, x2] m) (fun v54_13 m => (k1n (mbin E .sub 3 x2 (.int .i64 1)) fun v56_14 => (k1n (mbin E .sub 3 v47_10 x1) fun v59_15 => (k1n (mbin E .sub 3 v56_14 v59_15) fun v60_16 => (kb x8 (kb x9 (k1n (mbin E .eql 128 (.int .i64 1) (.int .i64 1)) fun v67_17 => (kb v67_17 (kc (call base 128 [x0, x1, x2] m) (fun v72_18 m => (kb v72_18 (kr m) (k1n (mbin E .gtr 3 x1 (.int .i64 0)) fun v74_19 => (kb v74_19 (k1n (mbin E .sub 3 x1 (.int .i64 1)) fun v78_20 => (k1n (mindexAddr E.P 33 x0 v78_20) fun v79_21 => (k1n (xload E.P m 3 v79_21) fun v80_22 => (k1n (mindexAddr E.P 33 x0 v60_16) fun v83_23 => (k1n (xload E.P m 3 v83_23) fun v84_24 => (kc (kB m (call m.length 129 [v80_22, v84_24] m)) (fun v85_25 m => (k1n (mun .not v85_25) fun v86_26 => (kb v86_26 (kc (call base 130 [x0, x1, x2, v60_16] m) (fun v92_27 m => (r119_L0 call fuel base kp kr n x0 v92_27 x2 v41_8 x8 x9 m)) (fun v m => kp v m)) (kc (call base 131 [x0, x1, x2, v60_16] m) (fun v99_28 m => (k1n (mextract 0 v99_28) fun v100_29 => (k1n (mextract 1 v99_28) fun v101_30 => (k1n (mbin E .sub 3 v100_29 x1) fun v105_31 => (k1n (mbin E .sub 3 x2 v100_29) fun v108_32 => (k1n (mbin E .quo 3 v21_1 (.int .i64 8)) fun v110_33 => (k1n (mbin E .lss 3 v105_31 v108_32) fun v113_34 => (kb v113_34 (k1n (mbin E .geq 3 v105_31 v110_33) fun v116_35 => (kc (call base 119 [x0, x1, v100_29, v41_8] m) (fun v121_36 m => (k1n (mbin E .add 3 v100_29 (.int .i64 1)) fun v123_37 => (r119_L0 call fuel base kp kr n x0 v123_37 x2 v41_8 v116_35 v101_30 m))) (fun v m => kp v m))) (k1n (mbin E .geq 3 v108_32 v110_33) fun v126_38 => (k1n (mbin E .add 3 v100_29 (.int .i64 1)) fun v129_39 => (kc (call base 119 [x0, v129_39, x2, v41_8] m) (fun v132_40 m => (r119_L0 call fuel base kp kr n x0 x1 v100_29 v41_8 v126_38 v101_30 m)) (fun v m => kp v m)))))))))))) (fun v m => kp v m))))) (fun _ _ => none))))))) (kc (call base 131 [x0, x1, x2, v60_16] m) (fun v99_41 m => (k1n (mextract 0 v99_41) fun v100_42 => (k1n (mextract 1 v99_41) fun v101_43 => (k1n (mbin E .sub 3 v100_42 x1) fun v105_44 => (k1n (mbin E .sub 3 x2 v100_42) fun v108_45 => (k1n (mbin E .quo 3 v21_1 (.int .i64 8)) fun v110_46 => (k1n (mbin E .lss 3 v105_44 v108_45) fun v113_47 => (kb v113_47 (k1n (mbin E .geq 3 v105_44 v110_46) fun v116_48 => (kc (call base 119 [x0, x1, v100_42, v41_8] m) (fun v121_49 m => (k1n (mbin E .add 3 v100_42 (.int .i64 1)) fun v123_50 => (r119_L0 call fuel base kp kr n x0 v123_50 x2 v41_8 v116_48 v101_43 m))) (fun v m => kp v m))) (k1n (mbin E .geq 3 v108_45 v110_46) fun v126_51 => (k1n (mbin E .add 3 v100_42 (.int .i64 1)) fun v129_52 => (kc (call base 119 [x0, v129_52, x2, v41_8] m) (fun v132_53 m => (r119_L0 call fuel base kp kr n x0 x1 v100_42 v41_8 v126_51 v101_43 m)) (fun v m => kp v m)))))))))))) (fun v m => kp v m)))))) (fun v m => kp v m)) (k1n (mbin E .gtr 3 x1 (.int .i64 0)) fun v74_54 => (kb v74_54 (k1n (mbin E .sub 3 x1 (.int .i64 1)) fun v78_55 => (k1n (mindexAddr E.P 33 x0 v78_55) fun v79_56 => (k1n (xload E.P m 3 v79_56) fun v80_57 => (k1n (mindexAddr E.P 33 x0 v60_16) fun v83_58 => (k1n (xload E.P m 3 v83_58) fun v84_59 => (kc (kB m (call m.length 129 [v80_57, v84_59] m)) (fun v85_60 m => (k1n (mun .not v85_60) fun v86_61 => (kb v86_61 (kc (call base 130 [x0, x1, x2, v60_16] m) (fun v92_62 m => (r119_L0 call fuel base kp kr n x0 v92_62 x2 v41_8 x8 x9 m)) (fun v m => kp v m)) (kc (call base 131 [x0, x1, x2, v60_16] m) (fun v99_63 m => (k1n (mextract 0 v99_63) fun v100_64 => (k1n (mextract 1 v99_63) fun v101_65 => (k1n (mbin E .sub 3 v100_64 x1) fun v105_66 => (k1n (mbin E .sub 3 x2 v100_64) fun v108_67 => (k1n (mbin E .quo 3 v21_1 (.int .i64 8)) fun v110_68 => (k1n (mbin E .lss 3 v105_66 v108_67) fun v113_69 => (kb v113_69 (k1n (mbin E .geq 3 v105_66 v110_68) fun v116_70 => (kc (call base 119 [x0, x1, v100_64, v41_8] m) (fun v121_71 m => (k1n (mbin E .add 3 v100_64 (.int .i64 1)) fun v123_72 => (r119_L0 call fuel base kp kr n x0 v123_72 x2 v41_8 v116_70 v101_65 m))) (fun v m => kp v m))) (k1n (mbin E .geq 3 v108_67 v110_68) fun v126_73 => (k1n (mbin E .add 3 v100_64 (.int .i64 1)) fun v129_74 => (kc (call base 119 [x0, v129_74, x2, v41_8] m) (fun v132_75 m => (r119_L0 call fuel base kp kr n x0 x1 v100_64 v41_8 v126_73 v101_65 m)) (fun v m => kp v m)))))))))))) (fun v m => kp v m))))) (fun _ _ => none))))))) (kc (call base 131 [x0, x1, x2, v60_16] m) (fun v99_76 m => (k1n (mextract 0 v99_76) fun v100_77 => (k1n (mextract 1 v99_76) fun v101_78 => (k1n (mbin E .sub 3 v100_77 x1) fun v105_79 => (k1n (mbin E .sub 3 x2 v100_77) fun v108_80 => (k1n (mbin E .quo 3 v21_1 (.int .i64 8)) fun v110_81 => (k1n (mbin E .lss 3 v105_79 v108_80) fun v113_82 => (kb v113_82 (k1n (mbin E .geq 3 v105_79 v110_81) fun v116_83 => (kc (call base 119 [x0, x1, v100_77, v41_8] m) (fun v121_84 m => (k1n (mbin E .add 3 v100_77 (.int .i64 1)) fun v123_85 => (r119_L0 call fuel base kp kr n x0 v123_85 x2 v41_8 v116_83 v101_78 m))) (fun v m => kp v m))) (k1n (mbin E .geq 3 v108_80 v110_81) fun v126_86 => (k1n (mbin E .add 3 v100_77 (.int .i64 1)) fun v129_87 => (kc (call base 119 [x0, v129_87, x2, v41_8] m) (fun v132_88 m => (r119_L0 call fuel base kp kr n x0 x1 v100_77 v41_8 v126_86 v101_78 m)) (fun v m => kp v m)))))))))))) (fun v m => kp v m)))))) (k1n (mbin E .gtr 3 x1 (.int .i64 0)) fun v74_89 => (kb v74_89 (k1n (mbin E .sub 3 x1 (.int .i64 1)) fun v78_90 => (k1n (mindexAddr E.P 33 x0 v78_90) fun v79_91 => (k1n (xload E.P m 3 v79_91) fun v80_92 => (k1n (mindexAddr E.P 33 x0 v60_16) fun v83_93 => (k1n (xload E.P m 3 v83_93) fun v84_94 => (kc (kB m (call m.length 129 [v80_92, v84_94] m)) (fun v85_95 m => (k1n (mun .not v85_95) fun v86_96 => (kb v86_96 (kc (call base 130 [x0, x1, x2, v60_16] m) (fun v92_97 m => (r119_L0 call fuel base kp kr n x0 v92_97 x2 v41_8 x8 x9 m)) (fun v m => kp v m)) (kc (call base 131 [x0, x1, x2, v60_16] m) (fun v99_98 m => (k1n (mextract 0 v99_98) fun v100_99 => (k1n (mextract 1 v99_98) fun v101_100 => (k1n (mbin E .sub 3 v100_99 x1) fun v105_101 => (k1n (mbin E .sub 3 x2 v100_99) fun v108_102 => (k1n (mbin E .quo 3 v21_1 (.int .i64 8)) fun v110_103 => (k1n (mbin E .lss 3 v105_101 v108_102) fun v113_104 => (kb v113_104 (k1n (mbin E .geq 3 v105_101 v110_103) fun v116_105 => (kc (call base 119 [x0, x1, v100_99, v41_8] m) (fun v121_106 m => (k1n (mbin E .add 3 v100_99 (.int .i64 1)) fun v123_107 => (r119_L0 call fuel base kp kr n x0 v123_107 x2 v41_8 v116_105 v101_100 m))) (fun v m => kp v m))) (k1n (mbin E .geq 3 v108_102 v110_103) fun v126_108 => (k1n (mbin E .add 3 v100_99 (.int .i64 1)) fun v129_109 => (kc (call base 119 [x0, v129_109, x2, v41_8] m) (fun v132_110 m => (r119_L0 call fuel base kp kr n x0 x1 v100_99 v41_8 v126_108 v101_100 m)) (fun v m => kp v m)))))))))))) (fun v m => kp v m))))) (fun _ _ => none))))))) (kc (call base 131 [x0, x1, x2, v60_16] m) (fun v99_111 m => (k1n (mextract 0 v99_111) fun v100_112 => (k1n (mextract 1 v99_111) fun v101_113 => (k1n (mbin E .sub 3 v100_112 x1) fun v105_114 => (k1n (mbin E .sub 3 x2 v100_112) fun v108_115 => (k1n (mbin E .quo 3 v21_1 (.int .i64 8)) fun v110_116 => (k1n (mbin E .lss 3 v105_114 v108_115) fun v113_117 => (kb v113_117 (k1n (mbin E .geq 3 v105_114 v110_116) fun v116_118 => (kc (call base 119 [x0, x1, v100_112, v41_8] m) (fun v121_119 m => (k1n (mbin E .add 3 v100_112 (.int .i64 1)) fun v123_120 => (r119_L0 call fuel base kp kr n x0 v123_120 x2 v41_8 v116_118 v101_113 m))) (fun v m => kp v m))) (k1n (mbin E .geq 3 v108_115 v110_116) fun v126_121 => (k1n (mbin E .add 3 v100_112 (.int .i64 1)) fun v129_122 => (kc (call base 119 [x0, v129_122, x2, v41_8] m) (fun v132_123 m => (r119_L0 call fuel base kp kr n x0 x1 v100_112 v41_8 v126_121 v101_113 m)) (fun v m => kp v m)))))))))))) (fun v m => kp v m))))) (k1n (mbin E .gtr 3 x1 (.int .i64 0)) fun v74_124 => (kb v74_124 (k1n (mbin E .sub 3 x1 (.int .i64 1)) fun v78_125 => (k1n (mindexAddr E.P 33 x0 v78_125) fun v79_126 => (k1n (xload E.P m 3 v79_126) fun v80_127 => (k1n (mindexAddr E.P 33 x0 v60_16) fun v83_128 => (k1n (xload E.P m 3 v83_128) fun v84_129 => (kc (kB m (call m.length 129 [v80_127, v84_129] m)) (fun v85_130 m => (k1n (mun .not v85_130) fun v86_131 => (kb v86_131 (kc (call base 130 [x0, x1, x2, v60_16] m) (fun v92_132 m => (r119_L0 call fuel base kp kr n x0 v92_132 x2 v41_8 x8 x9 m)) (fun v m => kp v m)) (kc (call base 131 [x0, x1, x2, v60_16] m) (fun v99_133 m => (k1n (mextract 0 v99_133) fun v100_134 => (k1n (mextract 1 v99_133) fun v101_135 => (k1n (mbin E .sub 3 v100_134 x1) fun v105_136 => (k1n (mbin E .sub 3 x2 v100_134) fun v108_137 => (k1n (mbin E .quo 3 v21_1 (.int .i64 8)) fun v110_138 => (k1n (mbin E .lss 3 v105_136 v108_137) fun v113_139 => (kb v113_139 (k1n (mbin E .geq 3 v105_136 v110_138) fun v116_140 => (kc (call base 119 [x0, x1, v100_134, v41_8] m) (fun v121_141 m => (k1n (mbin E .add 3 v100_134 (.int .i64 1)) fun v123_142 => (r119_L0 call fuel base kp kr n x0 v123_142 x2 v41_8 v116_140 v101_135 m))) (fun v m => kp v m))) (k1n (mbin E .geq 3 v108_137 v110_138) fun v126_143 => (k1n (mbin E .add 3 v100_134 (.int .i64 1)) fun v129_144 => (kc (call base 119 [x0, v129_144, x2, v41_8] m) (fun v132_145 m => (r119_L0 call fuel base kp kr n x0 x1 v100_134 v41_8 v126_143 v101_135 m)) (fun v m => kp v m)))))))))))) (fun v m => kp v m))))) (fun _ _ => none))))))) (kc (call base 131 [x0, x1, x2, v60_16] m) (fun v99_146 m => (k1n (mextract 0 v99_146) fun v100_147 => (k1n (mextract 1 v99_146) fun v101_148 => (k1n (mbin E .sub 3 v100_147 x1) fun v105_149 => (k1n (mbin E .sub 3 x2 v100_147) fun v108_150 => (k1n (mbin E .quo 3 v21_1 (.int .i64 8)) fun v110_151 => (k1n (mbin E .lss 3 v105_149 v108_150) fun v113_152 => (kb v113_152 (k1n (mbin E .geq 3 v105_149 v110_151) fun v116_153 => (kc (call base 119 [x0, x1, v100_147, v41_8] m) (fun v121_154 m => (k1n (mbin E .add 3 v100_147 (.int .i64 1)) fun v123_155 => (r119_L0 call fuel base kp kr n x0 v123_155 x2 v41_8 v116_153 v101_148 m))) (fun v m => kp v m))) (k1n (mbin E .geq 3 v108_150 v110_151) fun v126_156 => (k1n (mbin E .add 3 v100_147 (.int .i64 1)) fun v129_157 => (kc (call base 119 [x0, v129_157, x2, v41_8] m) (fun v132_158 m => (r119_L0 call fuel base kp kr n x0 x1 v100_147 v41_8 v126_156 v101_148 m)) (fun v m => kp v m)))))))))))) (fun v m => kp v m))))))))) (fun v m => kp v m)) (kb x8 (kb x9 (k1n (mbin E .eql 128 v48_11 (.int .i64 1)) fun v67_159 => (kb v67_159 (kc (call base 128 [x0, x1, x2] m) (fun v72_160 m => (kb v72_160 (kr m) (k1n (mbin E .gtr 3 x1 (.int .i64 0)) fun v74_161 => (kb v74_161 (k1n (mbin E .sub 3 x1 (.int .i64 1)) fun v78_162 => (k1n (mindexAddr E.P 33 x0 v78_162) fun v79_163 => (k1n (xload E.P m 3 v79_163) fun v80_164 => (k1n (mindexAddr E.P 33 x0 v47_10) fun v83_165 => (k1n (xload E.P m 3 v83_165) fun v84_166 => (kc (kB m (call m.length 129 [v80_164, v84_166] m)) (fun v85_167 m => (k1n (mun .not v85_167) fun v86_168 => (kb v86_168 (kc (call base 130 [x0, x1, x2, v47_10] m) (fun v92_169 m => (r119_L0 call fuel base kp kr n x0 v92_169 x2 v41_8 x8 x9 m)) (fun v m => kp v m)) (kc (call base 131 [x0, x1, x2, v47_10] m) (fun v99_170 m => (k1n (mextract 0 v99_170) fun v100_171 => (k1n (mextract 1 v99_170) fun v101_172 => (k1n (mbin E .sub 3 v100_171 x1) fun v105_173 => (k1n (mbin E .sub 3 x2 v100_171) fun v108_174 => (k1n (mbin E .quo 3 v21_1 (.int .i64 8)) fun v110_175 => (k1n (mbin E .lss 3 v105_173 v108_174) fun v113_176 => (kb v113_176 (k1n (mbin E .geq 3 v105_173 v110_175) fun v116_177 => (kc (call base 119 [x0, x1, v100_171, v41_8] m) (fun v121_178 m => (k1n (mbin E .add 3 v100_171 (.int .i64 1)) fun v123_179 => (r119_L0 call fuel base kp kr n x0 v123_179 x2 v41_8 v116_177 v101_172 m))) (fun v m => kp v m))) (k1n (mbin E .geq 3 v108_174 v110_175) fun v126_180 => (k1n (mbin E .add 3 v100_171 (.int .i64 1)) fun v129_181 => (kc (call base 119 [x0, v129_181, x2, v41_8] m) (fun v132_182 m => (r119_L0 call fuel base kp kr n x0 x1 v100_171 v41_8 v126_180 v101_172 m)) (fun v m => kp v m)))))))))))) (fun v m => kp v m))))) (fun _ _ => none))))))) (kc (call base 131 [x0, x1, x2, v47_10] m) (fun v99_183 m => (k1n (mextract 0 v99_183) fun v100_184 => (k1n (mextract 1 v99_183) fun v101_185 => (k1n (mbin E .sub 3 v100_184 x1) fun v105_186 => (k1n (mbin E .sub 3 x2 v100_184) fun v108_187 => (k1n (mbin E .quo 3 v21_1 (.int .i64 8)) fun v110_188 => (k1n (mbin E .lss 3 v105_186 v108_187) fun v113_189 => (kb v113_189 (k1n (mbin E .geq 3 v105_186 v110_188) fun v116_190 => (kc (call base 119 [x0, x1, v100_184, v41_8] m) (fun v121_191 m => (k1n (mbin E .add 3 v100_184 (.int .i64 1)) fun v123_192 => (r119_L0 call fuel base kp kr n x0 v123_192 x2 v41_8 v116_190 v101_185 m))) (fun v m => kp v m))) (k1n (mbin E .geq 3 v108_187 v110_188) fun v126_193 => (k1n (mbin E .add 3 v100_184 (.int .i64 1)) fun v129_194 => (kc (call base 119 [x0, v129_194, x2, v41_8] m) (fun v132_195 m => (r119_L0 call fuel base kp kr n x0 x1 v100_184 v41_8 v126_193 v101_185 m)) (fun v m => kp v m)))))))))))) (fun v m => kp v m)))))) (fun v m => kp v m)) (k1n (mbin E .gtr 3 x1 (.int .i64 0)) fun v74_196 => (kb v74_196 (k1n (mbin E .sub 3 x1 (.int .i64 1)) fun v78_197 => (k1n (mindexAddr E.P 33 x0 v78_197) fun v79_198 => (k1n (xload E.P m 3 v79_198) fun v80_199 => (k1n (mindexAddr E.P 33 x0 v47_10) fun v83_200 => (k1n (xload E.P m 3 v83_200) fun v84_201 => (kc (kB m (call m.length 129 [v80_199, v84_201] m)) (fun v85_202 m => (k1n (mun .not v85_202) fun v86_203 => (kb v86_203 (kc (call base 130 [x0, x1, x2, v47_10] m) (fun v92_204 m => (r119_L0 call fuel base kp kr n x0 v92_204 x2 v41_8 x8 x9 m)) (fun v m => kp v m)) (kc (call base 131 [x0, x1, x2, v47_10] m) (fun v99_205 m => (k1n (mextract 0 v99_205) fun v100_206 => (k1n (mextract 1 v99_205) fun v101_207 => (k1n (mbin E .sub 3 v100_206 x1) fun v105_208 => (k1n (mbin E .sub 3 x2 v100_206) fun v108_209 => (k1n (mbin E .quo 3 v21_1 (.int .i64 8)) fun v110_210 => (k1n (mbin E .lss 3 v105_208 v108_209) fun v113_211 => (kb v113_211 (k1n (mbin E .geq 3 v105_208 v110_210) fun v116_212 => (kc (call base 119 [x0, x1, v100_206, v41_8] m) (fun v121_213 m => (k1n (mbin E .add 3 v100_206 (.int .i64 1)) fun v123_214 => (r119_L0 call fuel base kp kr n x0 v123_214 x2 v41_8 v116_212 v101_207 m))) (fun v m => kp v m))) (k1n (mbin E .geq 3 v108_209 v110_210) fun v126_215 => (k1n (mbin E .add 3 v100_206 (.int .i64 1)) fun v129_216 => (kc (call base 119 [x0, v129_216, x2, v41_8] m) (fun v132_217 m => (r119_L0 call fuel base kp kr n x0 x1 v100_206 v41_8 v126_215 v101_207 m)) (fun v m => kp v m)))))))))))) (fun v m => kp v m))))) (fun _ _ => none))))))) (kc (call base 131 [x0, x1, x2, v47_10] m) (fun v99_218 m => (k1n (mextract 0 v99_218) fun v100_219 => (k1n (mextract 1 v99_218) fun v101_220 => (k1n (mbin E .sub 3 v100_219 x1) fun v105_221 => (k1n (mbin E .sub 3 x2 v100_219) fun v108_222 => (k1n (mbin E .quo 3 v21_1 (.int .i64 8)) fun v110_223 => (k1n (mbin E .lss 3 v105_221 v108_222) fun v113_224 => (kb v113_224 (k1n (mbin E .geq 3 v105_221 v110_223) fun v116_225 => (kc (call base 119 [x0, x1, v100_219, v41_8] m) (fun v121_226 m => (k1n (mbin E .add 3 v100_219 (.int .i64 1)) fun v123_227 => (r119_L0 call fuel base kp kr n x0 v123_227 x2 v41_8 v116_225 v101_220 m))) (fun v m => kp v m))) (k1n (mbin E .geq 3 v108_222 v110_223) fun v126_228 => (k1n (mbin E .add 3 v100_219 (.int .i64 1)) fun v129_229 => (kc (call base 119 [x0, v129_229, x2, v41_8] m) (fun v132_230 m => (r119_L0 call fuel base kp kr n x0 x1 v100_219 v41_8 v126_228 v101_220 m)) (fun v m => kp v m)))))))))))) (fun v m => kp v m)))))) (k1n (mbin E .gtr 3 x1 (.int .i64 0)) fun v74_231 => (kb v74_231 (k1n (mbin E .sub 3 x1 (.int .i64 1)) fun v78_232 => (k1n (mindexAddr E.P 33 x0 v78_232) fun v79_233 => (k1n (xload E.P m 3 v79_233) fun v80_234 => (k1n (mindexAddr E.P 33 x0 v47_10) fun v83_235 => (k1n (xload E.P m 3 v83_235) fun v84_236 => (kc (kB m (call m.length 129 [v80_234, v84_236] m)) (fun v85_237 m => (k1n (mun .not v85_237) fun v86_238 => (kb v86_238 (kc (call base 130 [x0, x1, x2, v47_10] m) (fun v92_239 m => (r119_L0 call fuel base kp kr n x0 v92_239 x2 v41_8 x8 x9 m)) (fun v m => kp v m)) (kc (call base 131 [x0, x1, x2, v47_10] m) (fun v99_240 m => (k1n (mextract 0 v99_240) fun v100_241 => (k1n (mextract 1 v99_240) fun v101_242 => (k1n (mbin E .sub 3 v100_241 x1) fun v105_243 => (k1n (mbin E .sub 3 x2 v100_241) fun v108_244 => (k1n (mbin E .quo 3 v21_1 (.int .i64 8)) fun v110_245 => (k1n (mbin E .lss 3 v105_243 v108_244) fun v113_246 => (kb v113_246 (k1n (mbin E .geq 3 v105_243 v110_245) fun v116_247 => (kc (call base 119 [x0, x1, v100_241, v41_8] m) (fun v121_248 m => (k1n (mbin E .add 3 v100_241 (.int .i64 1)) fun v123_249 => (r119_L0 call fuel base kp kr n x0 v123_249 x2 v41_8 v116_247 v101_242 m))) (fun v m => kp v m))) (k1n (mbin E .geq 3 v108_244 v110_245) fun v126_250 => (k1n (mbin E .add 3 v100_241 (.int .i64 1)) fun v129_251 => (kc (call base 119 [x0, v129_251, x2, v41_8] m) (fun v132_252 m => (r119_L0 call fuel base kp kr n x0 x1 v100_241 v41_8 v126_250 v101_242 m)) (fun v m => kp v m)))))))))))) (fun v m => kp v m))))) (fun _ _ => none))))))) (kc (call base 131 [x0, x1, x2, v47_10] m) (fun v99_253 m => (k1n (mextract 0 v99_253) fun v100_254 => (k1n (mextract 1 v99_253) fun v101_255 => (k1n (mbin E .sub 3 v100_254 x1) fun v105_256 => (k1n (mbin E .sub 3 x2 v100_254) fun v108_257 => (k1n (mbin E .quo 3 v21_1 (.int .i64 8)) fun v110_258 => (k1n (mbin E .lss 3 v105_256 v108_257) fun v113_259 => (kb v113_259 (k1n (mbin E .geq 3 v105_256 v110_258) fun v116_260 => (kc (call base 119 [x0, x1, v100_254, v41_8] m) (fun v121_261 m => (k1n (mbin E .add 3 v100_254 (.int .i64 1)) fun v123_262 => (r119_L0 call fuel base kp kr n x0 v123_262 x2 v41_8 v116_260 v101_255 m))) (fun v m => kp v m))) (k1n (mbin E .geq 3 v108_257 v110_258) fun v126_263 => (k1n (mbin E .add 3 v100_254 (.int .i64 1)) fun v129_264 => (kc (call base 119 [x0, v129_264, x2, v41_8] m) (fun v132_265 m => (r119_L0 call fuel base kp kr n x0 x1 v100_254 v41_8 v126_263 v101_255 m)) (fun v m => kp v m)))))))))))) (fun v m => kp v m))))) (k1n (mbin E .gtr 3 x1 (.int .i64 0)) fun v74_266 => (kb v74_266 (k1n (mbin E .sub 3 x1 (.int .i64 1)) fun v78_267 => (k1n (mindexAddr E.P 33 x0 v78_267) fun v79_268 => (k1n (xload E.P m 3 v79_268) fun v80_269 => (k1n (mindexAddr E.P 33 x0 v47_10) fun v83_270 => (k1n (xload E.P m 3 v83_270) fun v84_271 => (kc (kB m (call m.length 129 [v80_269, v84_271] m)) (fun v85_272 m => (k1n (mun .not v85_272) fun v86_273 => (kb v86_273 (kc (call base 130 [x0, x1, x2, v47_10] m) (fun v92_274 m => (r119_L0 call fuel base kp kr n x0 v92_274 x2 v41_8 x8 x9 m)) (fun v m => kp v m)) (kc (call base 131 [x0, x1, x2, v47_10] m) (fun v99_275 m => (k1n (mextract 0 v99_275) fun v100_276 => (k1n (mextract 1 v99_275) fun v101_277 => (k1n (mbin E .sub 3 v100_276 x1) fun v105_278 => (k1n (mbin E .sub 3 x2 v100_276) fun v108_279 => (k1n (mbin E .quo 3 v21_1 (.int .i64 8)) fun v110_280 => (k1n (mbin E .lss 3 v105_278 v108_279) fun v113_281 => (kb v113_281 (k1n (mbin E .geq 3 v105_278 v110_280) fun v116_282 => (kc (call base 119 [x0, x1, v100_276, v41_8] m) (fun v121_283 m => (k1n (mbin E .add 3 v100_276 (.int .i64 1)) fun v123_284 => (r119_L0 call fuel base kp kr n x0 v123_284 x2 v41_8 v116_282 v101_277 m))) (fun v m => kp v m))) (k1n (mbin E .geq 3 v108_279 v110_280) fun v126_285 => (k1n (mbin E .add 3 v100_276 (.int .i64 1)) fun v129_286 => (kc (call base 119 [x0, v129_286, x2, v41_8] m) (fun v132_287 m => (r119_L0 call fuel base kp kr n x0 x1 v100_276 v41_8 v126_285 v101_277 m)) (fun v m => kp v m)))))))))))) (fun v m => kp v m))))) (fun _ _ => none))))))) (kc (call base 131 [x0, x1, x2, v47_10] m) (fun v99_288 m => (k1n (mextract 0 v99_288) fun v100_289 => (k1n (mextract 1 v99_288) fun v101_290 => (k1n (mbin E .sub 3 v100_289 x1) fun v105_291 => (k1n (mbin E .sub 3 x2 v100_289) fun v108_292 => (k1n (mbin E .quo 3 v21_1 (.int .i64 8)) fun v110_293 => (k1n (mbin E .lss 3 v105_291 v108_292) fun v113_294 => (kb v113_294 (k1n (mbin E .geq 3 v105_291 v110_293) fun v116_295 => (kc (call base 119 [x0, x1, v100_289, v41_8] m) (fun v121_296 m => (k1n (mbin E .add 3 v100_289 (.int .i64 1)) fun v123_297 => (r119_L0 call fuel base kp kr n x0 v123_297 x2 v41_8 v116_295 v101_290 m))) (fun v m => kp v m))) (k1n (mbin E .geq 3 v108_292 v110_293) fun v126_298 => (k1n (mbin E .add 3 v100_289 (.int .i64 1)) fun v129_299 => (kc (call base 119 [x0, v129_299, x2, v41_8] m) (fun v132_300 m => (r119_L0 call fuel base kp kr n x0 x1 v100_289 v41_8 v126_298 v101_290 m)) (fun v m => kp v m)))))))))))) (fun v m => kp v m)))))))))) (fun v m => kp v m)))) (fun v m => kp v m)) (kc (call base 126 [x0, x1, x2] m) (fun v46_301 m => (k1n (mextract 0 v46_301) fun v47_302 => (k1n (mextract 1 v46_301) fun v48_303 => (k1n (mbin E .eql 128 v48_303 (.int .i64 2)) fun v50_304 => (kb v50_304 (kc (call base 127 [x0, x1, x2] m) (fun v54_305 m => (k1n (mbin E .sub 3 x2 (.int .i64 1)) fun v56_306 => (k1n (mbin E .sub 3 v47_302 x1) fun v59_307 => (k1n (mbin E .sub 3 v56_306 v59_307) fun v60_308 => (kb x8 (kb x9 (k1n (mbin E .eql 128 (.int .i64 1) (.int .i64 1)) fun v67_309 => (kb v67_309 (kc (call base 128 [x0, x1, x2] m) (fun v72_310 m => (kb v72_310 (kr m) (k1n (mbin E .gtr 3 x1 (.int .i64 0)) fun v74_311 => (kb v74_311 (k1n (mbin E .sub 3 x1 (.int .i64 1)) fun v78_312 => (k1n (mindexAddr E.P 33 x0 v78_312) fun v79_313 => (k1n (xload E.P m 3 v79_313) fun v80_314 => (k1n (mindexAddr E.P 33 x0 v60_308) fun v83_315 => (k1n (xload E.P m 3 v83_315) fun v84_316 => (kc (kB m (call m.length 129 [v80_314, v84_316] m)) (fun v85_317 m => (k1n (mun .not v85_317) fun v86_318 => (kb v86_318 (kc (call base 130 [x0, x1, x2, v60_308] m) (fun v92_319 m => (r119_L0 call fuel base kp kr n x0 v92_319 x2 x3 x8 x9 m)) (fun v m => kp v m)) (kc (call base 131 [x0, x1, x2, v60_308] m) (fun v99_320 m => (k1n (mextract 0 v99_320) fun v100_321 => (k1n (mextract 1 v99_320) fun v101_322 => (k1n (mbin E .sub 3 v100_321 x1) fun v105_323 => (k1n (mbin E .sub 3 x2 v100_321) fun v108_324 => (k1n (mbin E .quo 3 v21_1 (.int .i64 8)) fun v110_325 => (k1n (mbin E .lss 3 v105_323 v108_324) fun v113_326 => (kb v113_326 (k1n (mbin E .geq 3 v105_323 v110_325) fun v116_327 => (kc (call base 119 [x0, x1, v100_321, x3] m) (fun v121_328 m => (k1n (mbin E .add 3 v100_321 (.int .i64 1)) fun v123_329 => (r119_L0 call fuel base kp kr n x0 v123_329 x2 x3 v116_327 v101_322 m))) (fun v m => kp v m))) (k1n (mbin E .geq 3 v108_324 v110_325) fun v126_330 => (k1n (mbin E .add 3 v100_321 (.int .i64 1)) fun v129_331 => (kc (call base 119 [x0, v129_331, x2, x3] m) (fun v132_332 m => (r119_L0 call fuel base kp kr n x0 x1 v100_321 x3 v126_330 v101_322 m)) (fun v m => kp v m)))))))))))) (fun v m => kp v m))))) (fun _ _ => none))))))) (kc (call base 131 [x0, x1, x2, v60_308] m) (fun v99_333 m => (k1n (mextract 0 v99_333) fun v100_334 => (k1n (mextract 1 v99_333) fun v101_335 => (k1n (mbin E .sub 3 v100_334 x1) fun v105_336 => (k1n (mbin E .sub 3 x2 v100_334) fun v108_337 => (k1n (mbin E .quo 3 v21_1 (.int .i64 8)) fun v110_338 => (k1n (mbin E .lss 3 v105_336 v108_337) fun v113_339 => (kb v113_339 (k1n (mbin E .geq 3 v105_336 v110_338) fun v116_340 => (kc (call base 119 [x0, x1, v100_334, x3] m) (fun v121_341 m => (k1n (mbin E .add 3 v100_334 (.int .i64 1)) fun v123_342 => (r119_L0 call fuel base kp kr n x0 v123_342 x2 x3 v116_340 v101_335 m))) (fun v m => kp v m))) (k1n (mbin E .geq 3 v108_337 v110_338) fun v126_343 => (k1n (mbin E .add 3 v100_334 (.int .i64 1)) fun v129_344 => (kc (call base 119 [x0, v129_344, x2, x3] m) (fun v132_345 m => (r119_L0 call fuel base kp kr n x0 x1 v100_334 x3 v126_343 v101_335 m)) (fun v m => kp v m)))))))))))) (fun v m => kp v m)))))) (fun v m => kp v m)) (k1n (mbin E .gtr 3 x1 (.int .i64 0)) fun v74_346 => (kb v74_346 (k1n (mbin E .sub 3 x1 (.int .i64 1)) fun v78_347 => (k1n (mindexAddr E.P 33 x0 v78_347) fun v79_348 => (k1n (xload E.P m 3 v79_348) fun v80_349 => (k1n (mindexAddr E.P 33 x0 v60_308) fun v83_350 => (k1n (xload E.P m 3 v83_350) fun v84_351 => (kc (kB m (call m.length 129 [v80_349, v84_351] m)) (fun v85_352 m => (k1n (mun .not v85_352) fun v86_353 => (kb v86_353 (kc (call base 130 [x0, x1, x2, v60_308] m) (fun v92_354 m => (r119_L0 call fuel base kp kr n x0 v92_354 x2 x3 x8 x9 m)) (fun v m => kp v m)) (kc (call base 131 [x0, x1, x2, v60_308] m) (fun v99_355 m => (k1n (mextract 0 v99_355) fun v100_356 => (k1n (mextract 1 v99_355) fun v101_357 => (k1n (mbin E .sub 3 v100_356 x1) fun v105_358 => (k1n (mbin E .sub 3 x2 v100_356) fun v108_359 => (k1n (mbin E .quo 3 v21_1 (.int .i64 8)) fun v110_360 => (k1n (mbin E .lss 3 v105_358 v108_359) fun v113_361 => (kb v113_361 (k1n (mbin E .geq 3 v105_358 v110_360) fun v116_362 => (kc (call base 119 [x0, x1, v100_356, x3] m) (fun v121_363 m => (k1n (mbin E .add 3 v100_356 (.int .i64 1)) fun v123_364 => (r119_L0 call fuel base kp kr n x0 v123_364 x2 x3 v116_362 v101_357 m))) (fun v m => kp v m))) (k1n (mbin E .geq 3 v108_359 v110_360) fun v126_365 => (k1n (mbin E .add 3 v100_356 (.int .i64 1)) fun v129_366 => (kc (call base 119 [x0, v129_366, x2, x3] m) (fun v132_367 m => (r119_L0 call fuel base kp kr n x0 x1 v100_356 x3 v126_365 v101_357 m)) (fun v m => kp v m)))))))))))) (fun v m => kp v m))))) (fun _ _ => none))))))) (kc (call base 131 [x0, x1, x2, v60_308] m) (fun v99_368 m => (k1n (mextract 0 v99_368) fun v100_369 => (k1n (mextract 1 v99_368) fun v101_370 => (k1n (mbin E .sub 3 v100_369 x1) fun v105_371 => (k1n (mbin E .sub 3 x2 v100_369) fun v108_372 => (k1n (mbin E .quo 3 v21_1 (.int .i64 8)) fun v110_373 => (k1n (mbin E .lss 3 v105_371 v108_372) fun v113_374 => (kb v113_374 (k1n (mbin E .geq 3 v105_371 v110_373) fun v116_375 => (kc (call base 119 [x0, x1, v100_369, x3] m) (fun v121_376 m => (k1n (mbin E .add 3 v100_369 (.int .i64 1)) fun v123_377 => (r119_L0 call fuel base kp kr n x0 v123_377 x2 x3 v116_375 v101_370 m))) (fun v m => kp v m))) (k1n (mbin E .geq 3 v108_372 v110_373) fun v126_378 => (k1n (mbin E .add 3 v100_369 (.int .i64 1)) fun v129_379 => (kc (call base 119 [x0, v129_379, x2, x3] m) (fun v132_380 m => (r119_L0 call fuel base kp kr n x0 x1 v100_369 x3 v126_378 v101_370 m)) (fun v m => kp v m)))))))))))) (fun v m => kp v m)))))) (k1n (mbin E .gtr 3 x1 (.int .i64 0)) fun v74_381 => (kb v74_381 (k1n (mbin E .sub 3 x1 (.int .i64 1)) fun v78_382 => (k1n (mindexAddr E.P 33 x0 v78_382) fun v79_383 => (k1n (xload E.P m 3 v79_383) fun v80_384 => (k1n (mindexAddr E.P 33 x0 v60_308) fun v83_385 => (k1n (xload E.P m 3 v83_385) fun v84_386 => (kc (kB m (call m.length 129 [v80_384, v84_386] m)) (fun v85_387 m => (k1n (mun .not v85_387) fun v86_388 => (kb v86_388 (kc (call base 130 [x0, x1, x2, v60_308] m) (fun v92_389 m => (r119_L0 call fuel base kp kr n x0 v92_389 x2 x3 x8 x9 m)) (fun v m => kp v m)) (kc (call base 131 [x0, x1, x2, v60_308] m) (fun v99_390 m => (k1n (mextract 0 v99_390) fun v100_391 => (k1n (mextract 1 v99_390) fun v101_392 => (k1n (mbin E .sub 3 v100_391 x1) fun v105_393 => (k1n (mbin E .sub 3 x2 v100_391) fun v108_394 => (k1n (mbin E .quo 3 v21_1 (.int .i64 8)) fun v110_395 => (k1n (mbin E .lss 3 v105_393 v108_394) fun v113_396 => (kb v113_396 (k1n (mbin E .geq 3 v105_393 v110_395) fun v116_397 => (kc (call base 119 [x0, x1, v100_391, x3] m) (fun v121_398 m => (k1n (mbin E .add 3 v100_391 (.int .i64 1)) fun v123_399 => (r119_L0 call fuel base kp kr n x0 v123_399 x2 x3 v116_397 v101_392 m))) (fun v m => kp v m))) (k1n (mbin E .geq 3 v108_394 v110_395) fun v126_400 => (k1n (mbin E .add 3 v100_391 (.int .i64 1)) fun v129_401 => (kc (call base 119 [x0, v129_401, x2, x3] m) (fun v132_402 m => (r119_L0 call fuel base kp kr n x0 x1 v100_391 x3 v126_400 v101_392 m)) (fun v m => kp v m)))))))))))) (fun v m => kp v m))))) (fun _ _ => none))))))) (kc (call base 131 [x0, x1, x2, v60_308] m) (fun v99_403 m => (k1n (mextract 0 v99_403) fun v100_404 => (k1n (mextract 1 v99_403) fun v101_405 => (k1n (mbin E .sub 3 v100_404 x1) fun v105_406 => (k1n (mbin E .sub 3 x2 v100_404) fun v108_407 => (k1n (mbin E .quo 3 v21_1 (.int .i64 8)) fun v110_408 => (k1n (mbin E .lss 3 v105_406 v108_407) fun v113_409 => (kb v113_409 (k1n (mbin E .geq 3 v105_406 v110_408) fun v116_410 => (kc (call base 119 [x0, x1, v100_404, x3] m) (fun v121_411 m => (k1n (mbin E .add 3 v100_404 (.int .i64 1)) fun v123_412 => (r119_L0 call fuel base kp kr n x0 v123_412 x2 x3 v116_410 v101_405 m))) (fun v m => kp v m))) (k1n (mbin E .geq 3 v108_407 v110_408) fun v126_413 => (k1n (mbin E .add 3 v100_404 (.int .i64 1)) fun v129_414 => (kc (call base 119 [x0, v129_414, x2, x3] m) (fun v132_415 m => (r119_L0 call fuel base kp kr n x0 x1 v100_404 x3 v126_413 v101_405 m)) (fun v m => kp v m)))))))))))) (fun v m => kp v m))))) (k1n (mbin E .gtr 3 x1 (.int .i64 0)) fun v74_416 => (kb v74_416 (k1n (mbin E .sub 3 x1 (.int .i64 1)) fun v78_417 => (k1n (mindexAddr E.P 33 x0 v78_417) fun v79_418 => (k1n (xload E.P m 3 v79_418) fun v80_419 => (k1n (mindexAddr E.P 33 x0 v60_308) fun v83_420 => (k1n (xload E.P m 3 v83_420) fun v84_421 => (kc (kB m (call m.length 129 [v80_419, v84_421] m)) (fun v85_422 m => (k1n (mun .not v85_422) fun v86_423 => (kb v86_423 (kc (call base 130 [x0, x1, x2, v60_308] m) (fun v92_424 m => (r119_L0 call fuel base kp kr n x0 v92_424 x2 x3 x8 x9 m)) (fun v m => kp v m)) (kc (call base 131 [x0, x1, x2, v60_308] m) (fun v99_425 m => (k1n (mextract 0 v99_425) fun v100_426 => (k1n (mextract 1 v99_425) fun v101_427 => (k1n (mbin E .sub 3 v100_426 x1) fun v105_428 => (k1n (mbin E .sub 3 x2 v100_426) fun v108_429 => (k1n (mbin E .quo 3 v21_1 (.int .i64 8)) fun v110_430 => (k1n (mbin E .lss 3 v105_428 v108_429) fun v113_431 => (kb v113_431 (k1n (mbin E .geq 3 v105_428 v110_430) fun v116_432 => (kc (call base 119 [x0, x1, v100_426, x3] m) (fun v121_433 m => (k1n (mbin E .add 3 v100_426 (.int .i64 1)) fun v123_434 => (r119_L0 call fuel base kp kr n x0 v123_434 x2 x3 v116_432 v101_427 m))) (fun v m => kp v m))) (k1n (mbin E .geq 3 v108_429 v110_430) fun v126_435 => (k1n (mbin E .add 3 v100_426 (.int .i64 1)) fun v129_436 => (kc (call base 119 [x0, v129_436, x2, x3] m) (fun v132_437 m => (r119_L0 call fuel base kp kr n x0 x1 v100_426 x3 v126_435 v101_427 m)) (fun v m => kp v m)))))))))))) (fun v m => kp v m))))) (fun _ _ => none))))))) (kc (call base 131 [x0, x1, x2, v60_308] m) (fun v99_438 m => (k1n (mextract 0 v99_438) fun v100_439 => (k1n (mextract 1 v99_438) fun v101_440 => (k1n (mbin E .sub 3 v100_439 x1) fun v105_441 => (k1n (mbin E .sub 3 x2 v100_439) fun v108_442 => (k1n (mbin E .quo 3 v21_1 (.int .i64 8)) fun v110_443 => (k1n (mbin E .lss 3 v105_441 v108_442) fun v113_444 => (kb v113_444 (k1n (mbin E .geq 3 v105_441 v110_443) fun v116_445 => (kc (call base 119 [x0, x1, v100_439, x3] m) (fun v121_446 m => (k1n (mbin E .add 3 v100_439 (.int .i64 1)) fun v123_447 => (r119_L0 call fuel base kp kr n x0 v123_447 x2 x3 v116_445 v101_440 m))) (fun v m => kp v m))) (k1n (mbin E .geq 3 v108_442 v110_443) fun v126_448 => (k1n (mbin E .add 3 v100_439 (.int .i64 1)) fun v129_449 => (kc (call base 119 [x0, v129_449, x2, x3] m) (fun v132_450 m => (r119_L0 call fuel base kp kr n x0 x1 v100_439 x3 v126_448 v101_440 m)) (fun v m => kp v m)))))))))))) (fun v m => kp v m))))))))) (fun v m => kp v m)) (kb x8 (kb x9 (k1n (mbin E .eql 128 v48_303 (.int .i64 1)) fun v67_451 => (kb v67_451 (kc (call base 128 [x0, x1, x2] m) (fun v72_452 m => (kb v72_452 (kr m) (k1n (mbin E .gtr 3 x1 (.int .i64 0)) fun v74_453 => (kb v74_453 (k1n (mbin E .sub 3 x1 (.int .i64 1)) fun v78_454 => (k1n (mindexAddr E.P 33 x0 v78_454) fun v79_455 => (k1n (xload E.P m 3 v79_455) fun v80_456 => (k1n (mindexAddr E.P 33 x0 v47_302) fun v83_457 => (k1n (xload E.P m 3 v83_457) fun v84_458 => (kc (kB m (call m.length 129 [v80_456, v84_458] m)) (fun v85_459 m => (k1n (mun .not v85_459) fun v86_460 => (kb v86_460 (kc (call base 130 [x0, x1, x2, v47_302] m) (fun v92_461 m => (r119_L0 call fuel base kp kr n x0 v92_461 x2 x3 x8 x9 m)) (fun v m => kp v m)) (kc (call base 131 [x0, x1, x2, v47_302] m) (fun v99_462 m => (k1n (mextract 0 v99_462) fun v100_463 => (k1n (mextract 1 v99_462) fun v101_464 => (k1n (mbin E .sub 3 v100_463 x1) fun v105_465 => (k1n (mbin E .sub 3 x2 v100_463) fun v108_466 => (k1n (mbin E .quo 3 v21_1 (.int .i64 8)) fun v110_467 => (k1n (mbin E .lss 3 v105_465 v108_466) fun v113_468 => (kb v113_468 (k1n (mbin E .geq 3 v105_465 v110_467) fun v116_469 => (kc (call base 119 [x0, x1, v100_463, x3] m) (fun v121_470 m => (k1n (mbin E .add 3 v100_463 (.int .i64 1)) fun v123_471 => (r119_L0 call fuel base kp kr n x0 v123_471 x2 x3 v116_469 v101_464 m))) (fun v m => kp v m))) (k1n (mbin E .geq 3 v108_466 v110_467) fun v126_472 => (k1n (mbin E .add 3 v100_463 (.int .i64 1)) fun v129_473 => (kc (call base 119 [x0, v129_473, x2, x3] m) (fun v132_474 m => (r119_L0 call fuel base kp kr n x0 x1 v100_463 x3 v126_472 v101_464 m)) (fun v m => kp v m)))))))))))) (fun v m => kp v m))))) (fun _ _ => none))))))) (kc (call base 131 [x0, x1, x2, v47_302] m) (fun v99_475 m => (k1n (mextract 0 v99_475) fun v100_476 => (k1n (mextract 1 v99_475) fun v101_477 => (k1n (mbin E .sub 3 v100_476 x1) fun v105_478 => (k1n (mbin E .sub 3 x2 v100_476) fun v108_479 => (k1n (mbin E .quo 3 v21_1 (.int .i64 8)) fun v110_480 => (k1n (mbin E .lss 3 v105_478 v108_479) fun v113_481 => (kb v113_481 (k1n (mbin E .geq 3 v105_478 v110_480) fun v116_482 => (kc (call base 119 [x0, x1, v100_476, x3] m) (fun v121_483 m => (k1n (mbin E .add 3 v100_476 (.int .i64 1)) fun v123_484 => (r119_L0 call fuel base kp kr n x0 v123_484 x2 x3 v116_482 v101_477 m))) (fun v m => kp v m))) (k1n (mbin E .geq 3 v108_479 v110_480) fun v126_485 => (k1n (mbin E .add 3 v100_476 (.int .i64 1)) fun v129_486 => (kc (call base 119 [x0, v129_486, x2, x3] m) (fun v132_487 m => (r119_L0 call fuel base kp kr n x0 x1 v100_476 x3 v126_485 v101_477 m)) (fun v m => kp v m)))))))))))) (fun v m => kp v m)))))) (fun v m => kp v m)) (k1n (mbin E .gtr 3 x1 (.int .i64 0)) fun v74_488 => (kb v74_488 (k1n (mbin E .sub 3 x1 (.int .i64 1)) fun v78_489 => (k1n (mindexAddr E.P 33 x0 v78_489) fun v79_490 => (k1n (xload E.P m 3 v79_490) fun v80_491 => (k1n (mindexAddr E.P 33 x0 v47_302) fun v83_492 => (k1n (xload E.P m 3 v83_492) fun v84_493 => (kc (kB m (call m.length 129 [v80_491, v84_493] m)) (fun v85_494 m => (k1n (mun .not v85_494) fun v86_495 => (kb v86_495 (kc (call base 130 [x0, x1, x2, v47_302] m) (fun v92_496 m => (r119_L0 call fuel base kp kr n x0 v92_496 x2 x3 x8 x9 m)) (fun v m => kp v m)) (kc (call base 131 [x0, x1, x2, v47_302] m) (fun v99_497 m => (k1n (mextract 0 v99_497) fun v100_498 => (k1n (mextract 1 v99_497) fun v101_499 => (k1n (mbin E .sub 3 v100_498 x1) fun v105_500 => (k1n (mbin E .sub 3 x2 v100_498) fun v108_501 => (k1n (mbin E .quo 3 v21_1 (.int .i64 8)) fun v110_502 => (k1n (mbin E .lss 3 v105_500 v108_501) fun v113_503 => (kb v113_503 (k1n (mbin E .geq 3 v105_500 v110_502) fun v116_504 => (kc (call base 119 [x0, x1, v100_498, x3] m) (fun v121_505 m => (k1n (mbin E .add 3 v100_498 (.int .i64 1)) fun v123_506 => (r119_L0 call fuel base kp kr n x0 v123_506 x2 x3 v116_504 v101_499 m))) (fun v m => kp v m))) (k1n (mbin E .geq 3 v108_501 v110_502) fun v126_507 => (k1n (mbin E .add 3 v100_498 (.int .i64 1)) fun v129_508 => (kc (call base 119 [x0, v129_508, x2, x3] m) (fun v132_509 m => (r119_L0 call fuel base kp kr n x0 x1 v100_498 x3 v126_507 v101_499 m)) (fun v m => kp v m)))))))))))) (fun v m => kp v m))))) (fun _ _ => none))))))) (kc (call base 131 [x0, x1, x2, v47_302] m) (fun v99_510 m => (k1n (mextract 0 v99_510) fun v100_511 => (k1n (mextract 1 v99_510) fun v101_512 => (k1n (mbin E .sub 3 v100_511 x1) fun v105_513 => (k1n (mbin E .sub 3 x2 v100_511) fun v108_514 => (k1n (mbin E .quo 3 v21_1 (.int .i64 8)) fun v110_515 => (k1n (mbin E .lss 3 v105_513 v108_514) fun v113_516 => (kb v113_516 (k1n (mbin E .geq 3 v105_513 v110_515) fun v116_517 => (kc (call base 119 [x0, x1, v100_511, x3] m) (fun v121_518 m => (k1n (mbin E .add 3 v100_511 (.int .i64 1)) fun v123_519 => (r119_L0 call fuel base kp kr n x0 v123_519 x2 x3 v116_517 v101_512 m))) (fun v m => kp v m))) (k1n (mbin E .geq 3 v108_514 v110_515) fun v126_520 => (k1n (mbin E .add 3 v100_511 (.int .i64 1)) fun v129_521 => (kc (call base 119 [x0, v129_521, x2, x3] m) (fun v132_522 m => (r119_L0 call fuel base kp kr n x0 x1 v100_511 x3 v126_520 v101_512 m)) (fun v m => kp v m)))))))))))) (fun v m => kp v m)))))) (k1n (mbin E .gtr 3 x1 (.int .i64 0)) fun v74_523 => (kb v74_523 (k1n (mbin E .sub 3 x1 (.int .i64 1)) fun v78_524 => (k1n (mindexAddr E.P 33 x0 v78_524) fun v79_525 => (k1n (xload E.P m 3 v79_525) fun v80_526 => (k1n (mindexAddr E.P 33 x0 v47_302) fun v83_527 => (k1n (xload E.P m 3 v83_527) fun v84_528 => (kc (kB m (call m.length 129 [v80_526, v84_528] m)) (fun v85_529 m => (k1n (mun .not v85_529) fun v86_530 => (kb v86_530 (kc (call base 130 [x0, x1, x2, v47_302] m) (fun v92_531 m => (r119_L0 call fuel base kp kr n x0 v92_531 x2 x3 x8 x9 m)) (fun v m => kp v m)) (kc (call base 131 [x0, x1, x2, v47_302] m) (fun v99_532 m => (k1n (mextract 0 v99_532) fun v100_533 => (k1n (mextract 1 v99_532) fun v101_534 => (k1n (mbin E .sub 3 v100_533 x1) fun v105_535 => (k1n (mbin E .sub 3 x2 v100_533) fun v108_536 => (k1n (mbin E .quo 3 v21_1 (.int .i64 8)) fun v110_537 => (k1n (mbin E .lss 3 v105_535 v108_536) fun v113_538 => (kb v113_538 (k1n (mbin E .geq 3 v105_535 v110_537) fun v116_539 => (kc (call base 119 [x0, x1, v100_533, x3] m) (fun v121_540 m => (k1n (mbin E .add 3 v100_533 (.int .i64 1)) fun v123_541 => (r119_L0 call fuel base kp kr n x0 v123_541 x2 x3 v116_539 v101_534 m))) (fun v m => kp v m))) (k1n (mbin E .geq 3 v108_536 v110_537) fun v126_542 => (k1n (mbin E .add 3 v100_533 (.int .i64 1)) fun v129_543 => (kc (call base 119 [x0, v129_543, x2, x3] m) (fun v132_544 m => (r119_L0 call fuel base kp kr n x0 x1 v100_533 x3 v126_542 v101_534 m)) (fun v m => kp v m)))))))))))) (fun v m => kp v m))))) (fun _ _ => none))))))) (kc (call base 131 [x0, x1, x2, v47_302] m) (fun v99_545 m => (k1n (mextract 0 v99_545) fun v100_546 => (k1n (mextract 1 v99_545) fun v101_547 => (k1n (mbin E .sub 3 v100_546 x1) fun v105_548 => (k1n (mbin E .sub 3 x2 v100_546) fun v108_549 => (k1n (mbin E .quo 3 v21_1 (.int .i64 8)) fun v110_550 => (k1n (mbin E .lss 3 v105_548 v108_549) fun v113_551 => (kb v113_551 (k1n (mbin E .geq 3 v105_548 v110_550) fun v116_552 => (kc (call base 119 [x0, x1, v100_546, x3] m) (fun v121_553 m => (k1n (mbin E .add 3 v100_546 (.int .i64 1)) fun v123_554 => (r119_L0 call fuel base kp kr n x0 v123_554 x2 x3 v116_552 v101_547 m))) (fun v m => kp v m))) (k1n (mbin E .geq 3 v108_549 v110_550) fun v126_555 => (k1n (mbin E .add 3 v100_546 (.int .i64 1)) fun v129_556 => (kc (call base 119 [x0, v129_556, x2, x3] m) (fun v132_557 m => (r119_L0 call fuel base kp kr n x0 x1 v100_546 x3 v126_555 v101_547 m)) (fun v m => kp v m)))))))))))) (fun v m => kp v m))))) (k1n (mbin E .gtr 3 x1 (.int .i64 0)) fun v74_558 => (kb v74_558 (k1n (mbin E .sub 3 x1 (.int .i64 1)) fun v78_559 => (k1n (mindexAddr E.P 33 x0 v78_559) fun v79_560 => (k1n (xload E.P m 3 v79_560) fun v80_561 => (k1n (mindexAddr E.P 33 x0 v47_302) fun v83_562 => (k1n (xload E.P m 3 v83_562) fun v84_563 => (kc (kB m (call m.length 129 [v80_561, v84_563] m)) (fun v85_564 m => (k1n (mun .not v85_564) fun v86_565 => (kb v86_565 (kc (call base 130 [x0, x1, x2, v47_302] m) (fun v92_566 m => (r119_L0 call fuel base kp kr n x0 v92_566 x2 x3 x8 x9 m)) (fun v m => kp v m)) (kc (call base 131 [x0, x1, x2, v47_302] m) (fun v99_567 m => (k1n (mextract 0 v99_567) fun v100_568 => (k1n (mextract 1 v99_567) fun v101_569 => (k1n (mbin E .sub 3 v100_568 x1) fun v105_570 => (k1n (mbin E .sub 3 x2 v100_568) fun v108_571 => (k1n (mbin E .quo 3 v21_1 (.int .i64 8)) fun v110_572 => (k1n (mbin E .lss 3 v105_570 v108_571) fun v113_573 => (kb v113_573 (k1n (mbin E .geq 3 v105_570 v110_572) fun v116_574 => (kc (call base 119 [x0, x1, v100_568, x3] m) (fun v121_575 m => (k1n (mbin E .add 3 v100_568 (.int .i64 1)) fun v123_576 => (r119_L0 call fuel base kp kr n x0 v123_576 x2 x3 v116_574 v101_569 m))) (fun v m => kp v m))) (k1n (mbin E .geq 3 v108_571 v110_572) fun v126_577 => (k1n (mbin E .add 3 v100_568 (.int .i64 1)) fun v129_578 => (kc (call base 119 [x0, v129_578, x2, x3] m) (fun v132_579 m => (r119_L0 call fuel base kp kr n x0 x1 v100_568 x3 v126_577 v101_569 m)) (fun v m => kp v m)))))))))))) (fun v m => kp v m))))) (fun _ _ => none))))))) (kc (call base 131 [x0, x1, x2, v47_302] m) (fun v99_580 m => (k1n (mextract 0 v99_580) fun v100_581 => (k1n (mextract 1 v99_580) fun v101_582 => (k1n (mbin E .sub 3 v100_581 x1) fun v105_583 => (k1n (mbin E .sub 3 x2 v100_581) fun v108_584 => (k1n (mbin E .quo 3 v21_1 (.int .i64 8)) fun v110_585 => (k1n (mbin E .lss 3 v105_583 v108_584) fun v113_586 => (kb v113_586 (k1n (mbin E .geq 3 v105_583 v110_585) fun v116_587 => (kc (call base 119 [x0, x1, v100_581, x3] m) (fun v121_588 m => (k1n (mbin E .add 3 v100_581 (.int .i64 1)) fun v123_589 => (r119_L0 call fuel base kp kr n x0 v123_589 x2 x3 v116_587 v101_582 m))) (fun v m => kp v m))) (k1n (mbin E .geq 3 v108_584 v110_585) fun v126_590 => (k1n (mbin E .add 3 v100_581 (.int .i64 1)) fun v129_591 => (kc (call base 119 [x0, v129_591, x2, x3] m) (fun v132_592 m => (r119_L0 call fuel base kp kr n x0 x1 v100_581 x3 v126_590 v101_582 m)) (fun v m => kp v m)))))))))))) (fun v m => kp v m)))))))))) (fun v m => kp v m))))))))) := by
  unfold r119_L0
  rw [k1_fun]
/-- The way ends sorted. -/
def DoneA (e : Bool) (m0 : M) (p C a b : Nat) (F : Nat → Int) (R : Res2) (kr : M → Res2) : Prop := ∃ (m' : M) (F' : Nat → Int), R = kr m' ∧ ArrM e m' p C F' ∧ Oth p m0 m' ∧ Mix a b F F' ∧ Srt a b F'
theorem DoneA.after {e : Bool} {m0 m1 : M} {p C a b : Nat} {F G : Nat → Int} {R : Res2} {kr : M → Res2} (h : DoneA e m1 p C a b G R kr) (ho : Oth p m0 m1) (hx : Mix a b F G) : DoneA e m0 p C a b F R kr := by
  obtain ⟨m', F', h1, h2, h3, h4, h5⟩ := h
  exact ⟨m', F', h1, h2, ho.trans h3, hx.trans h4, h5⟩
theorem Parted.mixL {a b mid : Nat} {G H : Nat → Int} (h : Parted a b mid G) (x : Mix a mid G H) : Parted a b mid H := by
  have hm : H mid = G mid := x.1 mid (by omega)
  refine ⟨fun k h1 h2 => ?_, fun k h1 h2 => ?_⟩
  · rw [hm]
    exact x.all (P := fun z => z < G mid) h.1 k h1 h2
  · rw [hm, x.1 k (by omega)]
    exact h.2 k h1 h2
theorem Parted.mixR {a b mid : Nat} {G H : Nat → Int} (h : Parted a b mid G) (x : Mix (mid + 1) b G H) : Parted a b mid H := by
  have hm : H mid = G mid := x.1 mid (by omega)
  refine ⟨fun k h1 h2 => ?_, fun k h1 h2 => ?_⟩
  · rw [hm, x.1 k (by omega)]
    exact h.1 k h1 h2
  · rw [hm]
    exact x.all (P := fun z => G mid ≤ z) (fun i g1 g2 => h.2 i (by omega) g2) k (by omega) h2
theorem Parted.lft {a b mid : Nat} {G : Nat → Int} (h : Parted a b mid G) (hl : Lft a b G) (ham : a ≤ mid) (hmb : mid < b) : Lft (mid + 1) b G := fun i k h1 h2 h3 => by
  have g2 := h.2 k (by omega) h3
  by_cases e1 : i < a
  · exact hl i k e1 (by omega) h3
  · by_cases e2 : i = mid
    · rw [e2]; exact g2
    · have := h.1 i (by omega) (by omega)
      omega
theorem Parted.glue {a b mid : Nat} {G : Nat → Int} (h : Parted a b mid G) (h1 : Srt a mid G) (h2 : Srt (mid + 1) b G) : Srt a b G := fun s t g1 g2 g3 => by
  by_cases e1 : t < mid
  · exact h1 s t g1 g2 e1
  · by_cases e2 : mid < s
    · exact h2 s t (by omega) g2 g3
    · have a1 : G s ≤ G mid := by
        by_cases e : s = mid
        · rw [e]; exact Int.le_refl _
        · exact Int.le_of_lt (h.1 s g1 (by omega))
      have a2 : G mid ≤ G t := by
        by_cases e : t = mid
        · rw [e]; exact Int.le_refl _
        · exact h.2 t (by omega) g3
      exact Int.le_trans a1 a2
theorem Lft.sub {a b b' : Nat} {G : Nat → Int} (h : Lft a b G) (hb : b' ≤ b) : Lft a b' G := fun i k h1 h2 h3 => h i k h1 h2 (by omega)
theorem Srt.keep {a b : Nat} {G H : Nat → Int} (h : Srt a b G) (x : ∀ k, a ≤ k → k < b → H k = G k) : Srt a b H := fun s t h1 h2 h3 => by
  rw [x s h1 (by omega), x t (by omega) h3]
  exact h s t h1 h2 h3
set_option maxHeartbeats 2000000 in
theorem rest119 (n0 base : Nat) (kp : Value → M → Res2) (kr : M → Res2) (fuel n : Nat) {e : Bool} {p C a b q lim : Nat} (x8 x9 : Bool) (hbb : base ≤ p) (hC : C ≤ 400000) (hn0 : C ≤ n0) (hb : b ≤ C) (hlim : lim ≤ 1000) (haq : a ≤ q) (hqb : q < b)
    (hcall : ∀ (a' b' lim : Nat) (m : M) (F : Nat → Int), b' - a' < b - a → a' ≤ b' → b' ≤ C → lim ≤ 1000 → ArrM e m p C F → Lft a' b' F → ∃ (m' : M) (F' : Nat → Int), rt (n0 + 20) base 119 [sl p C, vi a', vi b', vi lim] m = some (.ret (.tuple #[]), m') ∧ ArrM e m' p C F' ∧ Oth p m m' ∧ Mix a' b' F F' ∧ Srt a' b' F')
    (hloop : ∀ (a' b' lim : Nat) (x8 x9 : Bool) (m : M) (F : Nat → Int), b' - a' < b - a → a' ≤ b' → b' ≤ C → lim ≤ 1000 → ArrM e m p C F → Lft a' b' F → DoneA e m p C a' b' F (r119_L0 (rt (n0 + 20)) fuel base kp kr n (sl p C) (vi a') (vi b') (vi lim) (.bool x8) (.bool x9) m) kr)
    {m : M} {G : Nat → Int} (hG : ArrM e m p C G) (hL : Lft a b G) :
    DoneA e m p C a b G (k1n (mbin E .gtr 3 (vi a) (.int .i64 0)) fun v74_311 => (kb v74_311 (k1n (mbin E .sub 3 (vi a) (.int .i64 1)) fun v78_312 => (k1n (mindexAddr E.P 33 (sl p C) v78_312) fun v79_313 => (k1n (xload E.P m 3 v79_313) fun v80_314 => (k1n (mindexAddr E.P 33 (sl p C) (vi q)) fun v83_315 => (k1n (xload E.P m 3 v83_315) fun v84_316 => (kc (kB m (rt (n0 + 20) m.length 129 [v80_314, v84_316] m)) (fun v85_317 m => (k1n (mun .not v85_317) fun v86_318 => (kb v86_318 (kc (rt (n0 + 20) base 130 [(sl p C), (vi a), (vi b), (vi q)] m) (fun v92_319 m => (r119_L0 (rt (n0 + 20)) fuel base kp kr n (sl p C) v92_319 (vi b) (vi lim) (.bool x8) (.bool x9) m)) (fun v m => kp v m)) (kc (rt (n0 + 20) base 131 [(sl p C), (vi a), (vi b), (vi q)] m) (fun v99_320 m => (k1n (mextract 0 v99_320) fun v100_321 => (k1n (mextract 1 v99_320) fun v101_322 => (k1n (mbin E .sub 3 v100_321 (vi a)) fun v105_323 => (k1n (mbin E .sub 3 (vi b) v100_321) fun v108_324 => (k1n (mbin E .quo 3 (vi (b - a : Nat)) (.int .i64 8)) fun v110_325 => (k1n (mbin E .lss 3 v105_323 v108_324) fun v113_326 => (kb v113_326 (k1n (mbin E .geq 3 v105_323 v110_325) fun v116_327 => (kc (rt (n0 + 20) base 119 [(sl p C), (vi a), v100_321, (vi lim)] m) (fun v121_328 m => (k1n (mbin E .add 3 v100_321 (.int .i64 1)) fun v123_329 => (r119_L0 (rt (n0 + 20)) fuel base kp kr n (sl p C) v123_329 (vi b) (vi lim) v116_327 v101_322 m))) (fun v m => kp v m))) (k1n (mbin E .geq 3 v108_324 v110_325) fun v126_330 => (k1n (mbin E .add 3 v100_321 (.int .i64 1)) fun v129_331 => (kc (rt (n0 + 20) base 119 [(sl p C), v129_331, (vi b), (vi lim)] m) (fun v132_332 m => (r119_L0 (rt (n0 + 20)) fuel base kp kr n (sl p C) (vi a) v100_321 (vi lim) v126_330 v101_322 m)) (fun v m => kp v m)))))))))))) (fun v m => kp v m))))) (fun _ _ => none))))))) (kc (rt (n0 + 20) base 131 [(sl p C), (vi a), (vi b), (vi q)] m) (fun v99_333 m => (k1n (mextract 0 v99_333) fun v100_334 => (k1n (mextract 1 v99_333) fun v101_335 => (k1n (mbin E .sub 3 v100_334 (vi a)) fun v105_336 => (k1n (mbin E .sub 3 (vi b) v100_334) fun v108_337 => (k1n (mbin E .quo 3 (vi (b - a : Nat)) (.int .i64 8)) fun v110_338 => (k1n (mbin E .lss 3 v105_336 v108_337) fun v113_339 => (kb v113_339 (k1n (mbin E .geq 3 v105_336 v110_338) fun v116_340 => (kc (rt (n0 + 20) base 119 [(sl p C), (vi a), v100_334, (vi lim)] m) (fun v121_341 m => (k1n (mbin E .add 3 v100_334 (.int .i64 1)) fun v123_342 => (r119_L0 (rt (n0 + 20)) fuel base kp kr n (sl p C) v123_342 (vi b) (vi lim) v116_340 v101_335 m))) (fun v m => kp v m))) (k1n (mbin E .geq 3 v108_337 v110_338) fun v126_343 => (k1n (mbin E .add 3 v100_334 (.int .i64 1)) fun v129_344 => (kc (rt (n0 + 20) base 119 [(sl p C), v129_344, (vi b), (vi lim)] m) (fun v132_345 m => (r119_L0 (rt (n0 + 20)) fuel base kp kr n (sl p C) (vi a) v100_334 (vi lim) v126_343 v101_335 m)) (fun v m => kp v m)))))))))))) (fun v m => kp v m)))) kr := by
  have part : DoneA e m p C a b G (kc (rt (n0 + 20) base 131 [(sl p C), (vi a), (vi b), (vi q)] m) (fun v99_333 m => (k1n (mextract 0 v99_333) fun v100_334 => (k1n (mextract 1 v99_333) fun v101_335 => (k1n (mbin E .sub 3 v100_334 (vi a)) fun v105_336 => (k1n (mbin E .sub 3 (vi b) v100_334) fun v108_337 => (k1n (mbin E .quo 3 (vi (b - a : Nat)) (.int .i64 8)) fun v110_338 => (k1n (mbin E .lss 3 v105_336 v108_337) fun v113_339 => (kb v113_339 (k1n (mbin E .geq 3 v105_336 v110_338) fun v116_340 => (kc (rt (n0 + 20) base 119 [(sl p C), (vi a), v100_334, (vi lim)] m) (fun v121_341 m => (k1n (mbin E .add 3 v100_334 (.int .i64 1)) fun v123_342 => (r119_L0 (rt (n0 + 20)) fuel base kp kr n (sl p C) v123_342 (vi b) (vi lim) v116_340 v101_335 m))) (fun v m => kp v m))) (k1n (mbin E .geq 3 v108_337 v110_338) fun v126_343 => (k1n (mbin E .add 3 v100_334 (.int .i64 1)) fun v129_344 => (kc (rt (n0 + 20) base 119 [(sl p C), v129_344, (vi b), (vi lim)] m) (fun v132_345 m => (r119_L0 (rt (n0 + 20)) fuel base kp kr n (sl p C) (vi a) v100_334 (vi lim) v126_343 v101_335 m)) (fun v m => kp v m)))))))))))) (fun v m => kp v m)) kr := by
    obtain ⟨m1, G1, mid, fl, e1, h1, o1, x1, c1, c2, pt1⟩ := t131 (n0 + 17) base hbb hC hb haq hqb (by omega) hG
    have hL1 := hL.mix x1
    refine DoneA.after ?_ o1 x1
    rw [e1, kcs, ex20, k1s, ex21, k1s, subC mid a c1 (by omega), k1s, subC b mid (by omega) (by omega), k1s, show (.int .i64 8 : Value) = vi (8 : Nat) from rfl, quoL (b - a) 8 (by omega) (by omega), k1s, lss3, k1s]
    by_cases hlt : mid - a < b - mid
    · obtain ⟨m2, G2, e2, h2, o2, x2, s2⟩ := hcall a mid lim m1 G1 (by omega) c1 (by omega) hlim h1 (hL1.sub (by omega))
      have p2 := pt1.mixL x2
      have hL2 := hL1.mix (x2.mono (Nat.le_refl _) (by omega))
      obtain ⟨m3, G3, e3, h3, o3, x3, s3⟩ := hloop (mid + 1) b lim (decide (((mid - a : Nat) : Int) ≥ (((b - a) / 8 : Nat) : Int))) fl m2 G2 (by omega) (by omega) hb hlim h2 (p2.lft hL2 c1 c2)
      rw [decide_eq_true (show ((mid - a : Nat) : Int) < ((b - mid : Nat) : Int) by omega), kbt, geq3, k1s, e2, kcs, add1 mid (by omega), k1s]
      exact ⟨m3, G3, e3, h3, o2.trans o3, (x2.mono (Nat.le_refl _) (by omega)).trans (x3.mono (by omega) (Nat.le_refl _)), (p2.mixR x3).glue (s2.keep fun k g1 g2 => x3.1 k (by omega)) s3⟩
    · obtain ⟨m2, G2, e2, h2, o2, x2, s2⟩ := hcall (mid + 1) b lim m1 G1 (by omega) (by omega) hb hlim h1 (pt1.lft hL1 c1 c2)
      have p2 := pt1.mixR x2
      have hL2 := hL1.mix (x2.mono (show a ≤ mid + 1 by omega) (Nat.le_refl b))
      obtain ⟨m3, G3, e3, h3, o3, x3, s3⟩ := hloop a mid lim (decide (((b - mid : Nat) : Int) ≥ (((b - a) / 8 : Nat) : Int))) fl m2 G2 (by omega) c1 (by omega) hlim h2 (hL2.sub (by omega))
      rw [decide_eq_false (show ¬ ((mid - a : Nat) : Int) < ((b - mid : Nat) : Int) by omega), kbf, geq3, k1s, add1 mid (by omega), k1s, e2, kcs]
      exact ⟨m3, G3, e3, h3, o2.trans o3, (x2.mono (by omega) (Nat.le_refl _)).trans (x3.mono (Nat.le_refl _) (by omega)), (p2.mixL x3).glue s3 (s2.keep fun k g1 g2 => x3.1 k (by omega))⟩
  rw [show (.int .i64 0 : Value) = vi 0 from rfl, gtr3, k1s]
  by_cases h0 : 0 < a
  · rw [decide_eq_true (show (a : Int) > 0 by omega), kbt, sub1 a h0 (by omega), k1s, hG.get (k := a - 1) (by omega), hG.get (k := q) (by omega), t129 (n0 + 18), kB_same, kcs, not4, k1s]
    by_cases hlt : G (a - 1) < G q
    · rw [decide_eq_true hlt, Bool.not_true, kbf]
      exact part
    · obtain ⟨m1, G1, mid, e1, h1, o1, x1, c1, c2, p1, p2⟩ := t130 (n0 + 17) base hbb hC hb haq hqb (by omega) hG
      have hL1 := hL.mix x1
      have hge : ∀ k, a ≤ k → k < b → G q ≤ G1 k := fun k g1 g2 => by
        have g3 := hL1 (a - 1) k (by omega) g1 g2
        rw [x1.1 (a - 1) (by omega)] at g3
        omega
      rw [decide_eq_false hlt, Bool.not_false, kbt, e1, kcs]
      obtain ⟨m2, G2, e2, h2, o2, x2, s2⟩ := hloop mid b lim x8 x9 m1 G1 (by omega) c2 hb hlim h1 (fun i k g1 g2 g3 => by
        have g4 := p2 k g2 g3
        by_cases g : i < a
        · exact hL1 i k g (by omega) g3
        · have := p1 i (by omega) g1
          omega)
      refine ⟨m2, G2, e2, h2, o1.trans o2, x1.trans (x2.mono (by omega) (Nat.le_refl _)), fun s t g1 g2 g3 => ?_⟩
      by_cases gs : s < mid
      · rw [x2.1 s (by omega)]
        have a1 := p1 s g1 gs
        by_cases gt : t < mid
        · rw [x2.1 t (by omega)]
          have a2 := hge t (by omega) g3
          omega
        · have a2 := x2.all (P := fun z => G q < z) p2 t (by omega) g3
          exact Int.le_of_lt (Int.lt_of_le_of_lt a1 a2)
      · exact s2 s t (by omega) g2 g3
  · rw [decide_eq_false (show ¬ (a : Int) > 0 by omega), kbf]
    exact part
end Go.AM
