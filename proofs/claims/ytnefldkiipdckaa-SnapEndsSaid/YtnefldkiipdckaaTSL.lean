import Derived.KernelRfl
import Derived.Laws.BytesArg
import Derived.Laws.StructEq
import Derived.RangeFuncLeaves
import Derived.RangeFuncRecord
import Derived.Test.YtnefldkiipdckaaProg
import Derived.Test.YtnefldkiipdckaaRows
import Derived.WalkKit
import Derived.Test.YtnefldkiipdckaaAmB
import Derived.Test.YtnefldkiipdckaaAmG
import Derived.Test.YtnefldkiipdckaaAmModel
import Derived.Test.YtnefldkiipdckaaAmRel
import Derived.Test.YtnefldkiipdckaaAmOps6
import Derived.Test.YtnefldkiipdckaaAmCode
import Derived.Test.YtnefldkiipdckaaAmDraw5
import Derived.Test.YtnefldkiipdckaaAmEq
import Derived.Test.YtnefldkiipdckaaRBase
import Derived.Test.YtnefldkiipdckaaAmS
import Derived.Test.YtnefldkiipdckaaS16
import Derived.Test.YtnefldkiipdckaaS17
import Derived.Test.YtnefldkiipdckaaNM1
import Derived.Test.YtnefldkiipdckaaNA
set_option linter.unusedVariables false
set_option linter.unusedSimpArgs false
set_option linter.unusedSectionVars false
namespace Go.AM
open Go Go.Proofs
theorem r43_L0_s (call : CallF) (fuel base : Nat) (kp : Value → M → Res2) (kx0 : Value → M → Res2) (n : Nat) (x1 x5 x7 : Value) (m : M) : r43_L0 call fuel base kp kx0 (n + 1) x1 x5 x7 m =
    (k2 (vcalln E.P base m .len [23] [x1]) fun v17_5 m => (k1n (mbin E .lss 3 x7 v17_5) fun v18_6 => (kb v18_6 (k1n (mindexAddr E.P 23 x1 x7) fun v24_7 => (k1n (xload E.P m 36 v24_7) fun v25_8 => (kc (call base 91 [x5, v25_8] m) (fun v26_9 m => (k1n (mbin E .add 3 x7 (.int .i64 1)) fun v20_10 => (r43_L0 call fuel base kp kx0 n x1 x5 v20_10 m))) (fun v m => kp v m)))) (kx0 x5 m)))) := by
  unfold r43_L0
  rw [k1_fun, vcall_fun]
theorem r11_L0_s (call : CallF) (fuel base : Nat) (kp : Value → M → Res2) (kx0 : Value → M → Res2) (n : Nat) (x2 x7 x8 x9 x10 : Value) (m : M) : r11_L0 call fuel base kp kx0 (n + 1) x2 x7 x8 x9 x10 m =
    (kb x9 (k1n (mbin E .lss 3 x10 (.int .i64 2000)) fun v38_11 => (kb v38_11 (r11_L2 call fuel base (fun y2_29 y7_30 y8_31 y9_32 y10_33 m => (r11_L4 call fuel base (fun v m => kp v m) (fun y2_48 y7_49 y8_50 y9_51 y10_52 m => (k1n (mbin E .add 3 y10_52 (.int .i64 1)) fun v41_53 => (r11_L0 call fuel base kp kx0 n y2_48 y7_49 y8_50 y9_51 v41_53 m))) fuel y2_29 y7_30 y8_31 y9_32 y10_33 (.int .i64 0) m)) fuel x2 x7 x8 (.bool false) x10 (.int .i64 0) m) (kx0 x7 m))) (kx0 x7 m)) := by
  unfold r11_L0
  rw [k1_fun]
theorem r11_L2_s (call : CallF) (fuel base : Nat) (kx2 : Value → Value → Value → Value → Value → M → Res2) (n : Nat) (x2 x7 x8 x9 x10 x11 : Value) (m : M) : r11_L2 call fuel base kx2 (n + 1) x2 x7 x8 x9 x10 x11 m =
    (k1n (mbin E .mul 3 x8 x8) fun v45_12 => (k1n (mbin E .lss 3 x11 v45_12) fun v46_13 => (kb v46_13 (k1n (mbin E .rem 5 x2 (.int .u8 8)) fun v51_14 => (k1n (mconvert E.P 5 3 v51_14) fun v52_15 => (k1n (mbin E .mul 3 (.int .i64 2) v52_15) fun v53_16 => (k1n (mbin E .add 3 v53_16 (.int .i64 1)) fun v54_17 => (k1n (mbin E .mul 3 x11 v54_17) fun v55_18 => (k1n (mconvert E.P 5 3 x2) fun v57_19 => (k1n (mbin E .add 3 v55_18 v57_19) fun v58_20 => (k1n (mbin E .mul 3 x8 x8) fun v61_21 => (k1n (mbin E .rem 3 v58_20 v61_21) fun v62_22 => (k1n (mbin E .quo 3 v62_22 x8) fun v66_23 => (k1n (mbin E .rem 3 v62_22 x8) fun v69_24 => (kc (call base 25 [x7, v66_23, v69_24] m) (fun v70_25 m => (k1n (mbin E .eql 26 v70_25 (.int .i64 0)) fun v71_26 => (kb v71_26 (k1n (mbin E .add 3 x11 (.int .i64 1)) fun v48_27 => (r11_L2 call fuel base kx2 n x2 x7 x8 (.bool true) x10 v48_27 m)) (k1n (mbin E .add 3 x11 (.int .i64 1)) fun v48_28 => (r11_L2 call fuel base kx2 n x2 x7 x8 x9 x10 v48_28 m))))) (fun _ _ => none))))))))))))) (kx2 x2 x7 x8 x9 x10 m)))) := by
  unfold r11_L2
  rw [k1_fun]
theorem r11_L4_s (call : CallF) (fuel base : Nat) (kp : Value → M → Res2) (kx4 : Value → Value → Value → Value → Value → M → Res2) (n : Nat) (x2 x7 x8 x9 x10 x13 : Value) (m : M) : r11_L4 call fuel base kp kx4 (n + 1) x2 x7 x8 x9 x10 x13 m =
    (k1n (mbin E .lss 3 x13 x8) fun v74_34 => (kb v74_34 (k1n (mun .not x9) fun v77_35 => (kb v77_35 (r11_L6 call fuel base (fun v m => kp v m) (fun y2_41 y7_42 y8_43 y9_44 y10_45 y13_46 m => (k1n (mbin E .add 3 y13_46 (.int .i64 1)) fun v80_47 => (r11_L4 call fuel base kp kx4 n y2_41 y7_42 y8_43 y9_44 y10_45 v80_47 m))) fuel x2 x7 x8 x9 x10 x13 (.int .i64 0) m) (kx4 x2 x7 x8 x9 x10 m))) (kx4 x2 x7 x8 x9 x10 m))) := by
  unfold r11_L4
  rw [k1_fun]
theorem r11_L6_s (call : CallF) (fuel base : Nat) (kp : Value → M → Res2) (kx6 : Value → Value → Value → Value → Value → Value → M → Res2) (n : Nat) (x2 x7 x8 x9 x10 x13 x14 : Value) (m : M) : r11_L6 call fuel base kp kx6 (n + 1) x2 x7 x8 x9 x10 x13 x14 m =
    (k1n (mbin E .lss 3 x14 x8) fun v83_36 => (kb v83_36 (kc (call base 25 [x7, x13, x14] m) (fun v89_37 m => (k1n (mbin E .eql 26 v89_37 (.int .i64 0)) fun v90_38 => (kb v90_38 (k1n (mbin E .add 3 x14 (.int .i64 1)) fun v85_39 => (r11_L6 call fuel base kp kx6 n x2 x7 x8 (.bool true) x10 x13 v85_39 m)) (k1n (mbin E .add 3 x14 (.int .i64 1)) fun v85_40 => (r11_L6 call fuel base kp kx6 n x2 x7 x8 x9 x10 x13 v85_40 m))))) (fun v m => kp v m)) (kx6 x2 x7 x8 x9 x10 x13 m))) := by
  unfold r11_L6
  rw [k1_fun]
theorem r11_L8_s (call : CallF) (fuel base : Nat) (kp : Value → M → Res2) (kr : Value → M → Res2) (kx8 : M → Res2) (n : Nat) (x7 x15 : Value) (m : M) : r11_L8 call fuel base kp kr kx8 (n + 1) x7 x15 m =
    (k1n (mbin E .leq 3 x15 (.int .i64 8)) fun v92_55 => (kb v92_55 (kc (call base 30 [x7, x15] m) (fun v98_56 m => (k1n (mextract 0 v98_56) fun v99_57 => (k1n (mextract 1 v98_56) fun v100_58 => (k1n (mbin E .neq 26 v100_58 (.int .i64 0)) fun v102_59 => (kb v102_59 (k1n (mbin E .neq 26 v100_58 (.int .i64 6)) fun v105_60 => (kb v105_60 (kr (.bool false) m) (k1n (mbin E .eql 26 v100_58 (.int .i64 0)) fun v109_61 => (kbu v109_61 (k1n (mun .not v99_57) fun v112_62 => (kb v112_62 (kr (.bool false) m) (k1n (mbin E .add 3 x15 (.int .i64 1)) fun v94_63 => (r11_L8 call fuel base kp kr kx8 n x7 v94_63 m)))) (k1n (mbin E .add 3 x15 (.int .i64 1)) fun v94_64 => (r11_L8 call fuel base kp kr kx8 n x7 v94_64 m)) (k0 (mpick undef undef (.bool false)) fun v113_65 => (kb v113_65 (kr (.bool false) m) (k1n (mbin E .add 3 x15 (.int .i64 1)) fun v94_66 => (r11_L8 call fuel base kp kr kx8 n x7 v94_66 m)))))))) (k1n (mbin E .eql 26 v100_58 (.int .i64 0)) fun v109_67 => (kbu v109_67 (k1n (mun .not v99_57) fun v112_68 => (kb v112_68 (kr (.bool false) m) (k1n (mbin E .add 3 x15 (.int .i64 1)) fun v94_69 => (r11_L8 call fuel base kp kr kx8 n x7 v94_69 m)))) (k1n (mbin E .add 3 x15 (.int .i64 1)) fun v94_70 => (r11_L8 call fuel base kp kr kx8 n x7 v94_70 m)) (k0 (mpick undef undef (.bool false)) fun v113_71 => (kb v113_71 (kr (.bool false) m) (k1n (mbin E .add 3 x15 (.int .i64 1)) fun v94_72 => (r11_L8 call fuel base kp kr kx8 n x7 v94_72 m))))))))))) (fun v m => kp v m)) (kx8 m))) := by
  unfold r11_L8
  rw [k1_fun]
end Go.AM
