import Derived.KernelRfl
import Derived.Laws.BytesArg
import Derived.Laws.StructEq
import Derived.RangeFuncLeaves
import Derived.RangeFuncRecord
import Derived.Test.YtnefldkiipdckaaProg
import Derived.Test.YtnefldkiipdckaaRows
import Derived.WalkKit
import Derived.Test.YtnefldkiipdckaaAmB
import Derived.Test.YtnefldkiipdckaaAmG
import Derived.Test.YtnefldkiipdckaaAmModel
import Derived.Test.YtnefldkiipdckaaAmRel
import Derived.Test.YtnefldkiipdckaaAmOps6
import Derived.Test.YtnefldkiipdckaaAmCode
import Derived.Test.YtnefldkiipdckaaAmDraw5
import Derived.Test.YtnefldkiipdckaaAmEq
import Derived.Test.YtnefldkiipdckaaRBase
import Derived.Test.YtnefldkiipdckaaR91
import Derived.Test.YtnefldkiipdckaaAmS
import Derived.Test.YtnefldkiipdckaaS16
import Derived.Test.YtnefldkiipdckaaS17
import Derived.Test.YtnefldkiipdckaaNM1
import Derived.Test.YtnefldkiipdckaaNA
set_option linter.unusedVariables false
set_option linter.unusedSimpArgs false
set_option linter.unusedSectionVars false
namespace Go.AM
open Go Go.Proofs
theorem r43_L0_s (call : CallF) (fuel base : Nat) (kp : Value → M → Res2) (kx0 : Value → M → Res2) (n : Nat) (x1 x5 x7 : Value) (m : M) : r43_L0 call fuel base kp kx0 (n + 1) x1 x5 x7 m =
    (k2 (vcalln E.P base m .len [23] [x1]) fun v17_5 m => (k1n (mbin E .lss 3 x7 v17_5) fun v18_6 => (kb v18_6 (k1n (mindexAddr E.P 23 x1 x7) fun v24_7 => (k1n (xload E.P m 36 v24_7) fun v25_8 => (kc (call base 91 [x5, v25_8] m) (fun v26_9 m => (k1n (mbin E .add 3 x7 (.int .i64 1)) fun v20_10 => (r43_L0 call fuel base kp kx0 n x1 x5 v20_10 m))) (fun v m => kp v m)))) (kx0 x5 m)))) := by
  unfold r43_L0
  rw [k1_fun, vcall_fun]
theorem r9_L0_s (call : CallF) (fuel base : Nat) (kp : Value → M → Res2) (kr : Value → M → Res2) (kx0 : M → Res2) (n : Nat) (x0 x5 x6 x7 : Value) (m : M) : r9_L0 call fuel base kp kr kx0 (n + 1) x0 x5 x6 x7 m =
    (k1n (mbin E .leq 3 x7 (.int .i64 8)) fun v39_14 => (kb v39_14 (kc (call base 31 [x5, x7] m) (fun v45_15 m => (k1n (mextract 0 v45_15) fun v46_16 => (k1n (mextract 1 v45_15) fun v47_17 => (k2 (xalloc E.P m 62) fun v8_18 m => (ks (xstore E.P base m 62 v8_18 v46_16) fun m => (kc (call base 32 [x5, x7] m) (fun v51_19 m => (k1n (mextract 0 v51_19) fun v52_20 => (k1n (mextract 1 v51_19) fun v53_21 => (k1n (mbin E .neq 26 v47_17 v53_21) fun v56_22 => (kb v56_22 (kr (.bool false) m) (k1n (mbin E .neq 26 v47_17 (.int .i64 0)) fun v58_23 => (kb v58_23 (k1n (mbin E .add 3 x7 (.int .i64 1)) fun v41_24 => (r9_L0 call fuel base kp kr kx0 n x0 x5 x6 v41_24 m)) (k1n (mfieldAddr E.P 62 v8_18 0) fun v59_25 => (k1n (xload E.P m 22 v59_25) fun v60_26 => (kc (call base 45 [v60_26] m) (fun v61_27 m => (r9_L2 call fuel base (fun v m => kp v m) (fun y0_56 y5_57 y6_58 y7_59 y10_60 y12_61 m => (k2 (vcalln E.P base m .len [22] [y10_60]) fun v91_62 m => (k2 (vcalln E.P base m .len [22] [y0_56]) fun v93_63 m => (k1n (mbin E .neq 3 v91_62 v93_63) fun v94_64 => (kb v94_64 (kr (.bool false) m) (kc (call base 44 [y0_56, y6_58, y10_60] m) (fun v100_65 m => (k1n (mbin E .neq 3 y12_61 v100_65) fun v101_66 => (kb v101_66 (kr (.bool false) m) (k1n (mbin E .add 3 y7_59 (.int .i64 1)) fun v41_67 => (r9_L0 call fuel base kp kr kx0 n y0_56 y5_57 y6_58 v41_67 m))))) (fun v m => kp v m))))))) fuel x0 x5 x6 x7 v8_18 v52_20 v61_27 (.int .i64 0) m)) (fun v m => kp v m))))))))))) (fun v m => kp v m))))))) (fun v m => kp v m)) (kx0 m))) := by
  unfold r9_L0
  rw [k1_fun, vcall_fun]
theorem r9_L2_s (call : CallF) (fuel base : Nat) (kp : Value → M → Res2) (kx2 : Value → Value → Value → Value → Value → Value → M → Res2) (n : Nat) (x0 x5 x6 x7 x8 x10 x12 x13 : Value) (m : M) : r9_L2 call fuel base kp kx2 (n + 1) x0 x5 x6 x7 x8 x10 x12 x13 m =
    (k1n (mfieldAddr E.P 62 x8 1) fun v63_28 => (k1n (xload E.P m 60 v63_28) fun v64_29 => (k2 (vcalln E.P base m .len [60] [v64_29]) fun v65_30 m => (k1n (mbin E .lss 3 x13 v65_30) fun v66_31 => (kb v66_31 (r9_L4 call fuel base (fun v m => kp v m) (fun y0_47 y5_48 y6_49 y7_50 y8_51 y10_52 y12_53 y13_54 m => (k1n (mbin E .add 3 y13_54 (.int .i64 1)) fun v68_55 => (r9_L2 call fuel base kp kx2 n y0_47 y5_48 y6_49 y7_50 y8_51 y10_52 y12_53 v68_55 m))) fuel x0 x5 x6 x7 x8 x10 x12 x13 (.int .i64 0) m) (kx2 x0 x5 x6 x7 x10 x12 m)))))) := by
  unfold r9_L2
  rw [k1_fun, vcall_fun]
theorem r9_L4_s (call : CallF) (fuel base : Nat) (kp : Value → M → Res2) (kx4 : Value → Value → Value → Value → Value → Value → Value → Value → M → Res2) (n : Nat) (x0 x5 x6 x7 x8 x10 x12 x13 x14 : Value) (m : M) : r9_L4 call fuel base kp kx4 (n + 1) x0 x5 x6 x7 x8 x10 x12 x13 x14 m =
    (k1n (mfieldAddr E.P 62 x8 1) fun v70_32 => (k1n (xload E.P m 60 v70_32) fun v71_33 => (k1n (mindexAddr E.P 60 v71_33 x13) fun v73_34 => (k1n (xload E.P m 80 v73_34) fun v74_35 => (k2 (vcalln E.P base m .len [80] [v74_35]) fun v75_36 m => (k1n (mbin E .lss 3 x14 v75_36) fun v76_37 => (kb v76_37 (k1n (mfieldAddr E.P 62 x8 1) fun v80_38 => (k1n (xload E.P m 60 v80_38) fun v81_39 => (k1n (mindexAddr E.P 60 v81_39 x13) fun v83_40 => (k1n (xload E.P m 80 v83_40) fun v84_41 => (k1n (mindexAddr E.P 80 v84_41 x14) fun v86_42 => (k1n (xload E.P m 22 v86_42) fun v87_43 => (kc (call base 45 [v87_43] m) (fun v88_44 m => (k1n (mbin E .add 3 x12 v88_44) fun v89_45 => (k1n (mbin E .add 3 x14 (.int .i64 1)) fun v78_46 => (r9_L4 call fuel base kp kx4 n x0 x5 x6 x7 x8 x10 v89_45 x13 v78_46 m)))) (fun v m => kp v m)))))))) (kx4 x0 x5 x6 x7 x8 x10 x12 x13 m)))))))) := by
  unfold r9_L4
  rw [k1_fun, vcall_fun]
theorem r45_L0_s (call : CallF) (fuel base : Nat) (kx0 : Value → M → Res2) (n : Nat) (x0 x3 x4 : Value) (m : M) : r45_L0 call fuel base kx0 (n + 1) x0 x3 x4 m =
    (k2 (vcalln E.P base m .len [22] [x0]) fun v7_1 m => (k1n (mbin E .lss 3 x4 v7_1) fun v8_2 => (kb v8_2 (k1n (mindexAddr E.P 22 x0 x4) fun v14_3 => (k1n (xload E.P m 3 v14_3) fun v15_4 => (k1n (mbin E .add 3 x3 v15_4) fun v16_5 => (k1n (mbin E .add 3 x4 (.int .i64 1)) fun v10_6 => (r45_L0 call fuel base kx0 n x0 v16_5 v10_6 m))))) (kx0 x3 m)))) := by
  unfold r45_L0
  rw [k1_fun, vcall_fun]
theorem r44_L0_s (call : CallF) (fuel base : Nat) (kr : Value → M → Res2) (kx0 : Value → M → Res2) (n : Nat) (x0 x1 x2 x7 x8 x9 : Value) (m : M) : r44_L0 call fuel base kr kx0 (n + 1) x0 x1 x2 x7 x8 x9 m =
    (k2 (vcalln E.P base m .len [45] [x1]) fun v18_4 m => (k1n (mbin E .lss 3 x9 v18_4) fun v19_5 => (kb v19_5 (k1n (mindexAddr E.P 45 x1 x9) fun v24_6 => (k1n (mfieldAddr E.P 72 v24_6 0) fun v25_7 => (k1n (xload E.P m 3 v25_7) fun v26_8 => (k1n (mbin E .lss 3 v26_8 (.int .i64 0)) fun v28_9 => (kb v28_9 (kr (.int .i64 (-1)) m) (k2 (vcalln E.P base m .len [22] [x0]) fun v32_10 m => (k1n (mbin E .geq 3 v26_8 v32_10) fun v33_11 => (kb v33_11 (kr (.int .i64 (-1)) m) (k1n (mindexAddr E.P 45 x1 x9) fun v37_12 => (k1n (mfieldAddr E.P 72 v37_12 1) fun v38_13 => (k1n (xload E.P m 3 v38_13) fun v39_14 => (k1n (mbin E .eql 3 v39_14 (.int .i64 1)) fun v40_15 => (kb v40_15 (k1n (mbin E .eql 22 x2 (.slice none 0 0)) fun v43_16 => (kbu v43_16 (k1n (mindexAddr E.P 45 x1 x9) fun v59_17 => (k1n (mfieldAddr E.P 72 v59_17 3) fun v60_18 => (k1n (xload E.P m 3 v60_18) fun v61_19 => (k1n (mbin E .add 3 x7 v61_19) fun v62_20 => (k1n (mindexAddr E.P 22 x8 v26_8) fun v65_21 => (k1n (xload E.P m 3 v65_21) fun v66_22 => (k1n (mbin E .add 3 v66_22 (.int .i64 1)) fun v67_23 => (k1n (mindexAddr E.P 22 x8 v26_8) fun v68_24 => (ks (xstore E.P base m 3 v68_24 v67_23) fun m => (k1n (mbin E .add 3 x9 (.int .i64 1)) fun v21_25 => (r44_L0 call fuel base kr kx0 n x0 x1 x2 v62_20 x8 v21_25 m))))))))))) (k1n (mindexAddr E.P 22 x8 v26_8) fun v47_26 => (k1n (xload E.P m 3 v47_26) fun v48_27 => (k1n (mindexAddr E.P 22 x2 v26_8) fun v51_28 => (k1n (xload E.P m 3 v51_28) fun v52_29 => (k1n (mbin E .lss 3 v48_27 v52_29) fun v53_30 => (kb v53_30 (k1n (mindexAddr E.P 45 x1 x9) fun v59_31 => (k1n (mfieldAddr E.P 72 v59_31 3) fun v60_32 => (k1n (xload E.P m 3 v60_32) fun v61_33 => (k1n (mbin E .add 3 x7 v61_33) fun v62_34 => (k1n (mindexAddr E.P 22 x8 v26_8) fun v65_35 => (k1n (xload E.P m 3 v65_35) fun v66_36 => (k1n (mbin E .add 3 v66_36 (.int .i64 1)) fun v67_37 => (k1n (mindexAddr E.P 22 x8 v26_8) fun v68_38 => (ks (xstore E.P base m 3 v68_38 v67_37) fun m => (k1n (mbin E .add 3 x9 (.int .i64 1)) fun v21_39 => (r44_L0 call fuel base kr kx0 n x0 x1 x2 v62_34 x8 v21_39 m))))))))))) (k1n (mindexAddr E.P 22 x8 v26_8) fun v65_40 => (k1n (xload E.P m 3 v65_40) fun v66_41 => (k1n (mbin E .add 3 v66_41 (.int .i64 1)) fun v67_42 => (k1n (mindexAddr E.P 22 x8 v26_8) fun v68_43 => (ks (xstore E.P base m 3 v68_43 v67_42) fun m => (k1n (mbin E .add 3 x9 (.int .i64 1)) fun v21_44 => (r44_L0 call fuel base kr kx0 n x0 x1 x2 x7 x8 v21_44 m))))))))))))) (k0 (mpick undef (.bool true) undef) fun v54_45 => (kb v54_45 (k1n (mindexAddr E.P 45 x1 x9) fun v59_46 => (k1n (mfieldAddr E.P 72 v59_46 3) fun v60_47 => (k1n (xload E.P m 3 v60_47) fun v61_48 => (k1n (mbin E .add 3 x7 v61_48) fun v62_49 => (k1n (mindexAddr E.P 22 x8 v26_8) fun v65_50 => (k1n (xload E.P m 3 v65_50) fun v66_51 => (k1n (mbin E .add 3 v66_51 (.int .i64 1)) fun v67_52 => (k1n (mindexAddr E.P 22 x8 v26_8) fun v68_53 => (ks (xstore E.P base m 3 v68_53 v67_52) fun m => (k1n (mbin E .add 3 x9 (.int .i64 1)) fun v21_54 => (r44_L0 call fuel base kr kx0 n x0 x1 x2 v62_49 x8 v21_54 m))))))))))) (k1n (mindexAddr E.P 22 x8 v26_8) fun v65_55 => (k1n (xload E.P m 3 v65_55) fun v66_56 => (k1n (mbin E .add 3 v66_56 (.int .i64 1)) fun v67_57 => (k1n (mindexAddr E.P 22 x8 v26_8) fun v68_58 => (ks (xstore E.P base m 3 v68_58 v67_57) fun m => (k1n (mbin E .add 3 x9 (.int .i64 1)) fun v21_59 => (r44_L0 call fuel base kr kx0 n x0 x1 x2 x7 x8 v21_59 m))))))))))) (k1n (mindexAddr E.P 22 x8 v26_8) fun v65_60 => (k1n (xload E.P m 3 v65_60) fun v66_61 => (k1n (mbin E .add 3 v66_61 (.int .i64 1)) fun v67_62 => (k1n (mindexAddr E.P 22 x8 v26_8) fun v68_63 => (ks (xstore E.P base m 3 v68_63 v67_62) fun m => (k1n (mbin E .add 3 x9 (.int .i64 1)) fun v21_64 => (r44_L0 call fuel base kr kx0 n x0 x1 x2 x7 x8 v21_64 m)))))))))))))))))))) (kx0 x7 m)))) := by
  unfold r44_L0
  rw [k1_fun, vcall_fun]
end Go.AM
