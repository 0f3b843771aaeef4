import Derived.ChangeStays
import Derived.Deep.DeepHandedRow
import Derived.Deep.Slices
import Derived.Deep.Strs
import Derived.JoinedCond
import Derived.KernelRfl
import Derived.LaidLaws
import Derived.Laws.BytesArg
import Derived.Laws.StructEq
import Derived.OpenShut
import Derived.ProofKit
import Derived.RangeFuncLeaves
import Derived.RangeFuncRecord
import Derived.RowKit
import Derived.Test.YtnefldkiipdckaaProg
import Derived.Test.YtnefldkiipdckaaRows
import Derived.WalkKit
import Derived.Test.YtnefldkiipdckaaAmB
import Derived.Test.YtnefldkiipdckaaAmG
import Derived.Test.YtnefldkiipdckaaAmModel
import Derived.Test.YtnefldkiipdckaaAmRel
import Derived.Test.YtnefldkiipdckaaAmOps6
import Derived.Test.YtnefldkiipdckaaAmCode
import Derived.Test.YtnefldkiipdckaaAmDraw5
import Derived.Test.YtnefldkiipdckaaAmEq
import Derived.Test.YtnefldkiipdckaaRBase
import Derived.Test.YtnefldkiipdckaaR58
import Derived.Test.YtnefldkiipdckaaR107
import Derived.Test.YtnefldkiipdckaaAmS
import Derived.Test.YtnefldkiipdckaaS16
import Derived.Test.YtnefldkiipdckaaS17
import Derived.Test.YtnefldkiipdckaaNM1
import Derived.Test.YtnefldkiipdckaaNA
import Derived.Test.YtnefldkiipdckaaTH
import Derived.Test.YtnefldkiipdckaaCA
import Derived.Test.YtnefldkiipdckaaR5
import Derived.Test.YtnefldkiipdckaaVD
import Derived.Test.YtnefldkiipdckaaR3
set_option linter.unusedVariables false
set_option linter.unusedSimpArgs false
set_option linter.unusedSectionVars false
namespace Go.AM
open Go Go.Proofs
theorem r16_L0_s (call : CallF) (fuel base : Nat) (kr : Value → Value → M → Res2) (kx0 : Value → M → Res2) (n : Nat) (x0 x4 x5 x6 : Value) (m : M) : r16_L0 call fuel base kr kx0 (n + 1) x0 x4 x5 x6 m =
  (k1n (mbin E .lss 3 x6 x4) fun u6 => (kb u6 (k1n (mindexAddr E.P 22 x0 x6) fun u7 => (k1n (xload E.P m 3 u7) fun u8 => (k1n (mbin E .lss 3 u8 (.int .i64 0)) fun u9 => (kb u9 (kr (.pointer none) (.int .i64 2) m) (k1n (mindexAddr E.P 22 x0 x6) fun u10 => (k1n (xload E.P m 3 u10) fun u11 => (k1n (mbin E .gtr 3 u11 (.int .i64 1000000)) fun u12 => (kb u12 (kr (.pointer none) (.int .i64 2) m) (k1n (mnil x5) fun u13 => (k1n (mfieldAddr E.P 96 u13 0) fun u14 => (k1n (xload E.P m 22 u14) fun u15 => (k1n (mindexAddr E.P 22 x0 x6) fun u16 => (k1n (xload E.P m 3 u16) fun u17 => (k2 (xbuildSlice E.P m 22 1 [(0, u17)]) fun u18 m => (k2 (vcalln E.P base m .append [22, 22] [u15, u18]) fun u19 m => (k1n (mnil x5) fun u20 => (k1n (mfieldAddr E.P 96 u20 0) fun u21 => (ks (xstore E.P base m 22 u21 u19) fun m => (k1n (mnil x5) fun u22 => (k1n (mfieldAddr E.P 96 u22 1) fun u23 => (k1n (xload E.P m 80 u23) fun u24 => (k2 (xmakeSlice E.P m 22 x4 x4) fun u25 m => (k2 (xbuildSlice E.P m 80 1 [(0, u25)]) fun u26 m => (k2 (vcalln E.P base m .append [80, 80] [u24, u26]) fun u27 m => (k1n (mnil x5) fun u28 => (k1n (mfieldAddr E.P 96 u28 1) fun u29 => (ks (xstore E.P base m 80 u29 u27) fun m => (k1n (mnil x5) fun u30 => (k1n (mfieldAddr E.P 96 u30 2) fun u31 => (k1n (xload E.P m 93 u31) fun u32 => (k2 (xmakeSlice E.P m 97 x4 x4) fun u33 m => (k2 (xbuildSlice E.P m 93 1 [(0, u33)]) fun u34 m => (k2 (vcalln E.P base m .append [93, 93] [u32, u34]) fun u35 m => (k1n (mnil x5) fun u36 => (k1n (mfieldAddr E.P 96 u36 2) fun u37 => (ks (xstore E.P base m 93 u37 u35) fun m => (k1n (mbin E .add 3 x6 (.int .i64 1)) fun u38 => (r16_L0 call fuel base kr kx0 n x0 x4 x5 u38 m)))))))))))))))))))))))))))))))))))))) (kx0 x5 m))) := by
 unfold r16_L0
 rw [k1_fun, vcall_fun]
theorem r19_L0_s (call : CallF) (fuel base : Nat) (kx0 : Value → Value → Value → M → Res2) (n : Nat) (x0 x1 x5 x6 x7 : Value) (m : M) : r19_L0 call fuel base kx0 (n + 1) x0 x1 x5 x6 x7 m =
  (k2 (vcalln E.P base m .len [22] [x5]) fun u16 m => (k1n (mbin E .lss 3 x7 u16) fun u17 => (kb u17 (k1n (mindexAddr E.P 22 x5 x7) fun u18 => (k1n (xload E.P m 3 u18) fun u19 => (k1n (mbin E .add 3 u19 (.int .i64 1)) fun u20 => (k1n (mindexAddr E.P 22 x5 x7) fun u21 => (ks (xstore E.P base m 3 u21 u20) fun m => (k1n (mbin E .add 3 x7 (.int .i64 1)) fun u22 => (r19_L0 call fuel base kx0 n x0 x1 x5 x6 u22 m))))))) (kx0 x0 x1 x6 m)))) := by
 unfold r19_L0
 rw [k1_fun, vcall_fun]
theorem r19_L10_s (call : CallF) (fuel base : Nat) (kp : Value → M → Res2) (kr : Value → M → Res2) (kx10 : M → Res2) (n : Nat) (x0 x1 x16 : Value) (m : M) : r19_L10 call fuel base kp kr kx10 (n + 1) x0 x1 x16 m =
  (k1n (mnil x1) fun u71 => (k1n (mfieldAddr E.P 96 u71 4) fun u72 => (k1n (xload E.P m 94 u72) fun u73 => (k2 (vcalln E.P base m .len [94] [u73]) fun u74 m => (k1n (mbin E .leq 3 x16 u74) fun u75 => (kb u75 (kc (call base 22 [x0, x1, x16] m) (fun u76 m => (k1n (mun .not u76) fun u77 => (kb u77 (kr (.bool false) m) (k1n (mbin E .add 3 x16 (.int .i64 1)) fun u78 => (r19_L10 call fuel base kp kr kx10 n x0 x1 u78 m))))) (fun v m => kp v m)) (kx10 m))))))) := by
 unfold r19_L10
 rw [k1_fun, vcall_fun]
theorem r19_L2_s (call : CallF) (fuel base : Nat) (kx2 : Value → Value → M → Res2) (n : Nat) (x0 x1 x6 x8 : Value) (m : M) : r19_L2 call fuel base kx2 (n + 1) x0 x1 x6 x8 m =
  (k2 (vcalln E.P base m .len [45] [x6]) fun u26 m => (k1n (mbin E .lss 3 x8 u26) fun u27 => (kb u27 (k1n (mindexAddr E.P 45 x6 x8) fun u28 => (k1n (mfieldAddr E.P 72 u28 4) fun u29 => (k1n (xload E.P m 22 u29) fun u30 => (k1n (mindexAddr E.P 22 u30 (.int .i64 0)) fun u31 => (ks (xstore E.P base m 3 u31 (.int .i64 99)) fun m => (k1n (mbin E .add 3 x8 (.int .i64 1)) fun u32 => (r19_L2 call fuel base kx2 n x0 x1 x6 u32 m))))))) (kx2 x0 x1 m)))) := by
 unfold r19_L2
 rw [k1_fun, vcall_fun]
theorem r19_L4_s (call : CallF) (fuel base : Nat) (kp : Value → M → Res2) (kr : Value → M → Res2) (kx4 : Value → Value → M → Res2) (n : Nat) (x0 x1 x9 : Value) (m : M) : r19_L4 call fuel base kp kr kx4 (n + 1) x0 x1 x9 m =
  (k1n (mnil x1) fun u35 => (k1n (mfieldAddr E.P 96 u35 0) fun u36 => (k1n (xload E.P m 22 u36) fun u37 => (k2 (vcalln E.P base m .len [22] [u37]) fun u38 m => (k1n (mbin E .lss 3 x9 u38) fun u39 => (kb u39 (r19_L6 call fuel base (fun v m => kp v m) (fun w63 m => (kr w63 m)) (fun w64 w65 w66 m => (k1n (mbin E .add 3 w66 (.int .i64 1)) fun u67 => (r19_L4 call fuel base kp kr kx4 n w64 w65 u67 m))) fuel x0 x1 x9 (.int .i64 0) m) (kx4 x0 x1 m))))))) := by
 unfold r19_L4
 rw [k1_fun, vcall_fun]
theorem r19_L6_s (call : CallF) (fuel base : Nat) (kp : Value → M → Res2) (kr : Value → M → Res2) (kx6 : Value → Value → Value → M → Res2) (n : Nat) (x0 x1 x9 x10 : Value) (m : M) : r19_L6 call fuel base kp kr kx6 (n + 1) x0 x1 x9 x10 m =
  (k1n (mnil x1) fun u40 => (k1n (mfieldAddr E.P 96 u40 0) fun u41 => (k1n (xload E.P m 22 u41) fun u42 => (k2 (vcalln E.P base m .len [22] [u42]) fun u43 m => (k1n (mbin E .lss 3 x10 u43) fun u44 => (kb u44 (kc (call base 20 [x0, x9, x10] m) (fun u45 m => (k1n (mextract 0 u45) fun u46 => (k1n (mextract 1 u45) fun u47 => (kc (call base 21 [x1, x9, x10] m) (fun u48 m => (k1n (mextract 0 u48) fun u49 => (k1n (mextract 1 u48) fun u50 => (k1n (mbin E .neq 26 u47 u50) fun u51 => (kb u51 (kr (.bool false) m) (kc (call base 17 [u46, u49] m) (fun u52 m => (k1n (mun .not u52) fun u53 => (kb u53 (kr (.bool false) m) (r19_L8 call fuel base (fun w58 w59 w60 w61 m => (k1n (mbin E .add 3 w61 (.int .i64 1)) fun u62 => (r19_L6 call fuel base kp kr kx6 n w58 w59 w60 u62 m))) fuel x0 x1 x9 x10 u46 (.int .i64 0) m)))) (fun v m => kp v m))))))) (fun v m => kp v m))))) (fun v m => kp v m)) (kx6 x0 x1 x9 m))))))) := by
 unfold r19_L6
 rw [k1_fun, vcall_fun]
theorem r19_L8_s (call : CallF) (fuel base : Nat) (kx8 : Value → Value → Value → Value → M → Res2) (n : Nat) (x0 x1 x9 x10 x11 x15 : Value) (m : M) : r19_L8 call fuel base kx8 (n + 1) x0 x1 x9 x10 x11 x15 m =
  (k2 (vcalln E.P base m .len [22] [x11]) fun u54 m => (k1n (mbin E .lss 3 x15 u54) fun u55 => (kb u55 (k1n (mindexAddr E.P 22 x11 x15) fun u56 => (ks (xstore E.P base m 3 u56 (.int .i64 0)) fun m => (k1n (mbin E .add 3 x15 (.int .i64 1)) fun u57 => (r19_L8 call fuel base kx8 n x0 x1 x9 x10 x11 u57 m)))) (kx8 x0 x1 x9 x10 m)))) := by
 unfold r19_L8
 rw [k1_fun, vcall_fun]
theorem r21_L0_s (call : CallF) (fuel base : Nat) (kx0 : Value → M → Res2) (n : Nat) (x0 x1 x2 x8 x9 : Value) (m : M) : r21_L0 call fuel base kx0 (n + 1) x0 x1 x2 x8 x9 m =
  (k1n (mnil x0) fun u3 => (k1n (mfieldAddr E.P 96 u3 2) fun u4 => (k1n (xload E.P m 93 u4) fun u5 => (k1n (mindexAddr E.P 93 u5 x1) fun u6 => (k1n (xload E.P m 97 u6) fun u7 => (k1n (mindexAddr E.P 97 u7 x2) fun u8 => (k1n (xload E.P m 107 u8) fun u9 => (k2 (vcalln E.P base m .len [107] [u9]) fun u10 m => (k1n (mbin E .lss 3 x9 u10) fun u11 => (kb u11 (k1n (mnil x0) fun u12 => (k1n (mfieldAddr E.P 96 u12 2) fun u13 => (k1n (xload E.P m 93 u13) fun u14 => (k1n (mindexAddr E.P 93 u14 x1) fun u15 => (k1n (xload E.P m 97 u15) fun u16 => (k1n (mindexAddr E.P 97 u16 x2) fun u17 => (k1n (xload E.P m 107 u17) fun u18 => (k1n (mindexAddr E.P 107 u18 x9) fun u19 => (k1n (mfieldAddr E.P 109 u19 0) fun u20 => (k1n (xload E.P m 3 u20) fun u21 => (k2 (xbuildSlice E.P m 22 1 [(0, u21)]) fun u22 m => (k2 (vcalln E.P base m .append [22, 22] [x8, u22]) fun u23 m => (k1n (mbin E .add 3 x9 (.int .i64 1)) fun u24 => (r21_L0 call fuel base kx0 n x0 x1 x2 u23 u24 m)))))))))))))) (kx0 x8 m))))))))))) := by
 unfold r21_L0
 rw [k1_fun, vcall_fun]
theorem r22_L0_s (call : CallF) (fuel base : Nat) (kx0 : M → Res2) (n : Nat) (x11 x13 x15 : Value) (m : M) : r22_L0 call fuel base kx0 (n + 1) x11 x13 x15 m =
  (k1n (mfieldAddr E.P 62 x11 0) fun u31 => (k1n (xload E.P m 22 u31) fun u32 => (k2 (vcalln E.P base m .len [22] [u32]) fun u33 m => (k1n (mbin E .lss 3 x15 u33) fun u34 => (kb u34 (k1n (mfieldAddr E.P 62 x11 0) fun u35 => (k1n (xload E.P m 22 u35) fun u36 => (k1n (mindexAddr E.P 22 u36 x15) fun u37 => (k1n (xload E.P m 3 u37) fun u38 => (k1n (mbin E .add 3 u38 (.int .i64 1)) fun u39 => (k1n (mindexAddr E.P 22 u36 x15) fun u40 => (ks (xstore E.P base m 3 u40 u39) fun m => (k1n (mindexAddr E.P 22 x13 x15) fun u41 => (k1n (xload E.P m 3 u41) fun u42 => (k1n (mbin E .add 3 u42 (.int .i64 1)) fun u43 => (k1n (mindexAddr E.P 22 x13 x15) fun u44 => (ks (xstore E.P base m 3 u44 u43) fun m => (k1n (mbin E .add 3 x15 (.int .i64 1)) fun u45 => (r22_L0 call fuel base kx0 n x11 x13 u45 m)))))))))))))) (kx0 m)))))) := by
 unfold r22_L0
 rw [k1_fun, vcall_fun]
theorem r55_L0_s (call : CallF) (fuel base : Nat) (kx0 : Value → Value → Value → M → Res2) (n : Nat) (x1 x7 x8 x9 x10 : Value) (m : M) : r55_L0 call fuel base kx0 (n + 1) x1 x7 x8 x9 x10 m =
  (k1n (mbin E .lss 3 x10 x8) fun u18 => (kb u18 (k1n (mfieldAddr E.P 140 x9 3) fun u19 => (k1n (xload E.P m 84 u19) fun u20 => (k2 (xmakeSlice E.P m 86 x8 x8) fun u21 m => (k2 (xbuildSlice E.P m 84 1 [(0, u21)]) fun u22 m => (k2 (vcalln E.P base m .append [84, 84] [u20, u22]) fun u23 m => (k1n (mfieldAddr E.P 140 x9 3) fun u24 => (ks (xstore E.P base m 84 u24 u23) fun m => (k1n (mfieldAddr E.P 140 x9 4) fun u25 => (k1n (xload E.P m 60 u25) fun u26 => (k2 (xmakeSlice E.P m 80 x8 x8) fun u27 m => (k2 (xbuildSlice E.P m 60 1 [(0, u27)]) fun u28 m => (k2 (vcalln E.P base m .append [60, 60] [u26, u28]) fun u29 m => (k1n (mfieldAddr E.P 140 x9 4) fun u30 => (ks (xstore E.P base m 60 u30 u29) fun m => (k1n (mbin E .add 3 x10 (.int .i64 1)) fun u31 => (r55_L0 call fuel base kx0 n x1 x7 x8 x9 u31 m)))))))))))))))) (kx0 x1 x7 x9 m))) := by
 unfold r55_L0
 rw [k1_fun, vcall_fun]
theorem r56_L0_s (call : CallF) (fuel base : Nat) (kx0 : Value → Value → Value → Value → M → Res2) (n : Nat) (x1 x2 x8 x9 x10 : Value) (m : M) : r56_L0 call fuel base kx0 (n + 1) x1 x2 x8 x9 x10 m =
  (k1n (mnil x9) fun u62 => (k1n (mfieldAddr E.P 96 u62 0) fun u63 => (k1n (xload E.P m 22 u63) fun u64 => (k2 (vcalln E.P base m .len [22] [u64]) fun u65 m => (k1n (mbin E .lss 3 x10 u65) fun u66 => (kb u66 (k1n (mbin E .neq 3 x10 x2) fun u67 => (kb u67 (k1n (mnil x9) fun u68 => (k1n (mfieldAddr E.P 96 u68 1) fun u69 => (k1n (xload E.P m 80 u69) fun u70 => (k1n (mindexAddr E.P 80 u70 x2) fun u71 => (k1n (xload E.P m 22 u71) fun u72 => (k1n (mnil x9) fun u73 => (k1n (mfieldAddr E.P 96 u73 1) fun u74 => (k1n (xload E.P m 80 u74) fun u75 => (k1n (mindexAddr E.P 80 u75 x2) fun u76 => (k1n (xload E.P m 22 u76) fun u77 => (k1n (mindexAddr E.P 22 u77 x10) fun u78 => (k1n (xload E.P m 3 u78) fun u79 => (k1n (mfieldAddr E.P 109 x8 1) fun u80 => (k1n (xload E.P m 22 u80) fun u81 => (k1n (mindexAddr E.P 22 u81 x10) fun u82 => (k1n (xload E.P m 3 u82) fun u83 => (k2 (vcalln E.P base m .max [3, 3] [u79, u83]) fun u84 m => (k1n (mindexAddr E.P 22 u72 x10) fun u85 => (ks (xstore E.P base m 3 u85 u84) fun m => (k1n (mbin E .add 3 x10 (.int .i64 1)) fun u86 => (r56_L0 call fuel base kx0 n x1 x2 x8 x9 u86 m))))))))))))))))))))) (k1n (mbin E .add 3 x10 (.int .i64 1)) fun u87 => (r56_L0 call fuel base kx0 n x1 x2 x8 x9 u87 m)))) (kx0 x1 x2 x8 x9 m))))))) := by
 unfold r56_L0
 rw [k1_fun, vcall_fun]
theorem r56_L2_s (call : CallF) (fuel base : Nat) (kx2 : Value → M → Res2) (n : Nat) (x1 x2 x8 x9 x11 : Value) (m : M) : r56_L2 call fuel base kx2 (n + 1) x1 x2 x8 x9 x11 m =
  (k1n (mnil x9) fun u95 => (k1n (mfieldAddr E.P 96 u95 4) fun u96 => (k1n (xload E.P m 94 u96) fun u97 => (k2 (vcalln E.P base m .len [94] [u97]) fun u98 m => (k1n (mbin E .lss 3 x11 u98) fun u99 => (kb u99 (k1n (mnil x9) fun u100 => (k1n (mfieldAddr E.P 96 u100 4) fun u101 => (k1n (xload E.P m 94 u101) fun u102 => (k1n (mindexAddr E.P 94 u102 x11) fun u103 => (k1n (mfieldAddr E.P 140 u103 0) fun u104 => (k1n (xload E.P m 86 u104) fun u105 => (k1n (mindexAddr E.P 86 u105 x2) fun u106 => (k1n (xload E.P m 4 u106) fun u107 => (kb u107 (k1n (mnil x9) fun u108 => (k1n (mfieldAddr E.P 96 u108 4) fun u109 => (k1n (xload E.P m 94 u109) fun u110 => (k1n (mindexAddr E.P 94 u110 x11) fun u111 => (k1n (mfieldAddr E.P 140 u111 3) fun u112 => (k1n (xload E.P m 84 u112) fun u113 => (k1n (mindexAddr E.P 84 u113 x1) fun u114 => (k1n (xload E.P m 86 u114) fun u115 => (k1n (mindexAddr E.P 86 u115 x2) fun u116 => (k1n (xload E.P m 4 u116) fun u117 => (k1n (mun .not u117) fun u118 => (kb u118 (k1n (mnil x9) fun u119 => (k1n (mfieldAddr E.P 96 u119 4) fun u120 => (kexv (mexact m u120) (k1n (xload E.P m 94 u120) fun u121 => (k1n (mindexAddr E.P 94 u121 x11) fun u122 => (k1n (mfieldAddr E.P 140 u122 4) fun u123 => (kexv (mexact m u123) (k1n (xload E.P m 60 u123) fun u124 => (k1n (mindexAddr E.P 60 u124 x1) fun u125 => (kexv (mexact m u125) (k1n (xload E.P m 80 u125) fun u126 => (k1n (mnil x9) fun u127 => (k1n (mfieldAddr E.P 96 u127 4) fun u128 => (k1n (xload E.P m 94 u128) fun u129 => (k1n (mindexAddr E.P 94 u129 x11) fun u130 => (k1n (mfieldAddr E.P 140 u130 4) fun u131 => (k1n (xload E.P m 60 u131) fun u132 => (k1n (mindexAddr E.P 60 u132 x1) fun u133 => (k1n (xload E.P m 80 u133) fun u134 => (k1n (mindexAddr E.P 80 u134 x2) fun u135 => (k1n (xload E.P m 22 u135) fun u136 => (k1n (mfieldAddr E.P 109 x8 0) fun u137 => (k1n (xload E.P m 3 u137) fun u138 => (k2 (xbuildSlice E.P m 22 1 [(0, u138)]) fun u139 m => (kexv (mdifV [u136, u139] [u120, u123, u125]) (k2 (vcalln E.P base m .append [22, 22] [u136, u139]) fun u140 m => (k1n (mindexAddr E.P 80 u126 x2) fun u141 => (ks (xstore E.P base m 22 u141 u140) fun m => (k1n (mbin E .add 3 x11 (.int .i64 1)) fun u142 => (r56_L2 call fuel base kx2 n x1 x2 x8 x9 u142 m)))))))))))))))))))))))))))))) (k1n (mbin E .add 3 x11 (.int .i64 1)) fun u143 => (r56_L2 call fuel base kx2 n x1 x2 x8 x9 u143 m)))))))))))))) (k1n (mbin E .add 3 x11 (.int .i64 1)) fun u144 => (r56_L2 call fuel base kx2 n x1 x2 x8 x9 u144 m))))))))))) (kx2 x9 m))))))) := by
 unfold r56_L2
 rw [k1_fun, vcall_fun]
theorem r57_L0_s (call : CallF) (fuel base : Nat) (kp : Value → M → Res2) (kr : Value → M → Res2) (kx0 : M → Res2) (n : Nat) (x0 x1 x5 : Value) (m : M) : r57_L0 call fuel base kp kr kx0 (n + 1) x0 x1 x5 m =
  (k2 (vcalln E.P base m .len [45] [x0]) fun u4 m => (k1n (mbin E .lss 3 x5 u4) fun u5 => (kb u5 (xlen m fun H_6 => (k1n (mindexAddr E.P 45 x0 x5) fun u7 => (k1n (xload E.P m 72 u7) fun u8 => (k1n (mindexAddr E.P 45 x1 x5) fun u9 => (kexv (mexact m u9) (k1n (xload E.P m 72 u9) fun u10 => (k2 (xalloc E.P m 72) fun u11 m => (k2 (xalloc E.P m 72) fun u12 m => (kexv (mdif u11 [u9]) (ks (xstore E.P base m 72 u11 u8) fun m => (ks (xstore E.P base m 72 u12 u10) fun m => (k1n (mfieldAddr E.P 72 u11 0) fun u13 => (k1n (xload E.P m 3 u13) fun u14 => (k1n (mfieldAddr E.P 72 u12 0) fun u15 => (k1n (xload E.P m 3 u15) fun u16 => (k1n (mbin E .neq 3 u14 u16) fun u17 => (kb u17 (kr (.bool false) m) (k1n (mfieldAddr E.P 72 u11 1) fun u18 => (k1n (xload E.P m 3 u18) fun u19 => (k1n (mfieldAddr E.P 72 u12 1) fun u20 => (k1n (xload E.P m 3 u20) fun u21 => (k1n (mbin E .neq 3 u19 u21) fun u22 => (kb u22 (kr (.bool false) m) (k1n (mfieldAddr E.P 72 u11 2) fun u23 => (k1n (xload E.P m 3 u23) fun u24 => (k1n (mfieldAddr E.P 72 u12 2) fun u25 => (k1n (xload E.P m 3 u25) fun u26 => (k1n (mbin E .neq 3 u24 u26) fun u27 => (kb u27 (kr (.bool false) m) (k1n (mfieldAddr E.P 72 u11 3) fun u28 => (k1n (xload E.P m 3 u28) fun u29 => (k1n (mfieldAddr E.P 72 u12 3) fun u30 => (k1n (xload E.P m 3 u30) fun u31 => (k1n (mbin E .neq 3 u29 u31) fun u32 => (kb u32 (kr (.bool false) m) (k1n (mfieldAddr E.P 72 u11 4) fun u33 => (k1n (xload E.P m 22 u33) fun u34 => (k1n (mfieldAddr E.P 72 u12 4) fun u35 => (k1n (xload E.P m 22 u35) fun u36 => (kc (call base 17 [u34, u36] m) (fun u37 m => (k1n (mun .not u37) fun u38 => (kb u38 (kr (.bool false) m) (k1n (mbin E .add 3 x5 (.int .i64 1)) fun u39 => (r57_L0 call fuel base kp kr kx0 n x0 x1 u39 m))))) (fun v m => kp v m))))))))))))))))))))))))))))))))))))))))) (kx0 m)))) := by
 unfold r57_L0
 rw [k1_fun, vcall_fun]
theorem r58_L0_s (call : CallF) (fuel base : Nat) (kx0 : Value → M → Res2) (n : Nat) (x0 x3 x4 : Value) (m : M) : r58_L0 call fuel base kx0 (n + 1) x0 x3 x4 m =
  (k1n (mnil x0) fun u1 => (k1n (mfieldAddr E.P 96 u1 0) fun u2 => (k1n (xload E.P m 22 u2) fun u3 => (k2 (vcalln E.P base m .len [22] [u3]) fun u4 m => (k1n (mbin E .lss 3 x4 u4) fun u5 => (kb u5 (k1n (mnil x0) fun u6 => (k1n (mfieldAddr E.P 96 u6 0) fun u7 => (k1n (xload E.P m 22 u7) fun u8 => (k1n (mindexAddr E.P 22 u8 x4) fun u9 => (k1n (xload E.P m 3 u9) fun u10 => (k1n (mbin E .add 3 x3 u10) fun u11 => (r58_L2 call fuel base (fun w44 w45 w46 m => (k1n (mbin E .add 3 w46 (.int .i64 1)) fun u47 => (r58_L0 call fuel base kx0 n w44 w45 u47 m))) fuel x0 u11 x4 (.int .i64 0) m))))))) (kx0 x3 m))))))) := by
 unfold r58_L0
 rw [k1_fun, vcall_fun]
theorem r58_L2_s (call : CallF) (fuel base : Nat) (kx2 : Value → Value → Value → M → Res2) (n : Nat) (x0 x3 x4 x5 : Value) (m : M) : r58_L2 call fuel base kx2 (n + 1) x0 x3 x4 x5 m =
  (k1n (mnil x0) fun u12 => (k1n (mfieldAddr E.P 96 u12 0) fun u13 => (k1n (xload E.P m 22 u13) fun u14 => (k2 (vcalln E.P base m .len [22] [u14]) fun u15 m => (k1n (mbin E .lss 3 x5 u15) fun u16 => (kb u16 (r58_L4 call fuel base (fun w39 w40 w41 w42 m => (k1n (mbin E .add 3 w42 (.int .i64 1)) fun u43 => (r58_L2 call fuel base kx2 n w39 w40 w41 u43 m))) fuel x0 x3 x4 x5 (.int .i64 0) m) (kx2 x0 x3 x4 m))))))) := by
 unfold r58_L2
 rw [k1_fun, vcall_fun]
theorem r58_L4_s (call : CallF) (fuel base : Nat) (kx4 : Value → Value → Value → Value → M → Res2) (n : Nat) (x0 x3 x4 x5 x6 : Value) (m : M) : r58_L4 call fuel base kx4 (n + 1) x0 x3 x4 x5 x6 m =
  (k1n (mnil x0) fun u17 => (k1n (mfieldAddr E.P 96 u17 2) fun u18 => (k1n (xload E.P m 93 u18) fun u19 => (k1n (mindexAddr E.P 93 u19 x4) fun u20 => (k1n (xload E.P m 97 u20) fun u21 => (k1n (mindexAddr E.P 97 u21 x5) fun u22 => (k1n (xload E.P m 107 u22) fun u23 => (k2 (vcalln E.P base m .len [107] [u23]) fun u24 m => (k1n (mbin E .lss 3 x6 u24) fun u25 => (kb u25 (k1n (mnil x0) fun u26 => (k1n (mfieldAddr E.P 96 u26 2) fun u27 => (k1n (xload E.P m 93 u27) fun u28 => (k1n (mindexAddr E.P 93 u28 x4) fun u29 => (k1n (xload E.P m 97 u29) fun u30 => (k1n (mindexAddr E.P 97 u30 x5) fun u31 => (k1n (xload E.P m 107 u31) fun u32 => (k1n (mindexAddr E.P 107 u32 x6) fun u33 => (k1n (mfieldAddr E.P 109 u33 0) fun u34 => (k1n (xload E.P m 3 u34) fun u35 => (k2 (vcalln E.P base m .max [3, 3] [(.int .i64 0), u35]) fun u36 m => (k1n (mbin E .add 3 x3 u36) fun u37 => (k1n (mbin E .add 3 x6 (.int .i64 1)) fun u38 => (r58_L4 call fuel base kx4 n x0 u37 x4 x5 u38 m)))))))))))))) (kx4 x0 x3 x4 x5 m))))))))))) := by
 unfold r58_L4
 rw [k1_fun, vcall_fun]
theorem r61_L0_s (call : CallF) (fuel base : Nat) (kr : Value → Value → M → Res2) (kx0 : M → Res2) (n : Nat) (x0 x6 x7 : Value) (m : M) : r61_L0 call fuel base kr kx0 (n + 1) x0 x6 x7 m =
  (k1n (mnil x0) fun u14 => (k1n (mfieldAddr E.P 96 u14 0) fun u15 => (k1n (xload E.P m 22 u15) fun u16 => (k2 (vcalln E.P base m .len [22] [u16]) fun u17 m => (k1n (mbin E .lss 3 x7 u17) fun u18 => (kb u18 (k1n (mfieldAddr E.P 140 x6 0) fun u19 => (k1n (xload E.P m 86 u19) fun u20 => (k1n (mindexAddr E.P 86 u20 x7) fun u21 => (k1n (xload E.P m 4 u21) fun u22 => (k1n (mun .not u22) fun u23 => (kb u23 (kr (.bool false) (.int .i64 0) m) (r61_L2 call fuel base (fun w39 w40 m => (kr w39 w40 m)) (fun w41 w42 w43 m => (k1n (mbin E .add 3 w43 (.int .i64 1)) fun u44 => (r61_L0 call fuel base kr kx0 n w41 w42 u44 m))) fuel x0 x6 x7 (.int .i64 0) m))))))) (kx0 m))))))) := by
 unfold r61_L0
 rw [k1_fun, vcall_fun]
theorem r61_L2_s (call : CallF) (fuel base : Nat) (kr : Value → Value → M → Res2) (kx2 : Value → Value → Value → M → Res2) (n : Nat) (x0 x6 x7 x8 : Value) (m : M) : r61_L2 call fuel base kr kx2 (n + 1) x0 x6 x7 x8 m =
  (k1n (mnil x0) fun u24 => (k1n (mfieldAddr E.P 96 u24 0) fun u25 => (k1n (xload E.P m 22 u25) fun u26 => (k2 (vcalln E.P base m .len [22] [u26]) fun u27 m => (k1n (mbin E .lss 3 x8 u27) fun u28 => (kb u28 (k1n (mbin E .neq 3 x8 x7) fun u29 => (kb u29 (k1n (mfieldAddr E.P 140 x6 3) fun u30 => (k1n (xload E.P m 84 u30) fun u31 => (k1n (mindexAddr E.P 84 u31 x7) fun u32 => (k1n (xload E.P m 86 u32) fun u33 => (k1n (mindexAddr E.P 86 u33 x8) fun u34 => (k1n (xload E.P m 4 u34) fun u35 => (k1n (mun .not u35) fun u36 => (kb u36 (kr (.bool false) (.int .i64 0) m) (k1n (mbin E .add 3 x8 (.int .i64 1)) fun u37 => (r61_L2 call fuel base kr kx2 n x0 x6 x7 u37 m)))))))))) (k1n (mbin E .add 3 x8 (.int .i64 1)) fun u38 => (r61_L2 call fuel base kr kx2 n x0 x6 x7 u38 m)))) (kx2 x0 x6 x7 m))))))) := by
 unfold r61_L2
 rw [k1_fun, vcall_fun]
theorem r63_L0_s (call : CallF) (fuel base : Nat) (kr : Value → M → Res2) (kx0 : M → Res2) (n : Nat) (x2 x3 x5 : Value) (m : M) : r63_L0 call fuel base kr kx0 (n + 1) x2 x3 x5 m =
  (k1n (mfieldAddr E.P 62 x2 1) fun u16 => (k1n (xload E.P m 60 u16) fun u17 => (k2 (vcalln E.P base m .len [60] [u17]) fun u18 m => (k1n (mbin E .lss 3 x5 u18) fun u19 => (kb u19 (k1n (mfieldAddr E.P 62 x2 1) fun u20 => (k1n (xload E.P m 60 u20) fun u21 => (k1n (mindexAddr E.P 60 u21 x5) fun u22 => (k1n (xload E.P m 80 u22) fun u23 => (k2 (vcalln E.P base m .len [80] [u23]) fun u24 m => (k1n (mfieldAddr E.P 62 x3 1) fun u25 => (k1n (xload E.P m 60 u25) fun u26 => (k1n (mindexAddr E.P 60 u26 x5) fun u27 => (k1n (xload E.P m 80 u27) fun u28 => (k2 (vcalln E.P base m .len [80] [u28]) fun u29 m => (k1n (mbin E .neq 3 u24 u29) fun u30 => (kb u30 (kr (.bool false) m) (r63_L2 call fuel base (fun w52 m => (kr w52 m)) (fun w53 w54 w55 m => (k1n (mbin E .add 3 w55 (.int .i64 1)) fun u56 => (r63_L0 call fuel base kr kx0 n w53 w54 u56 m))) fuel x2 x3 x5 (.int .i64 0) m))))))))))))) (kx0 m)))))) := by
 unfold r63_L0
 rw [k1_fun, vcall_fun]
theorem r63_L2_s (call : CallF) (fuel base : Nat) (kr : Value → M → Res2) (kx2 : Value → Value → Value → M → Res2) (n : Nat) (x2 x3 x5 x6 : Value) (m : M) : r63_L2 call fuel base kr kx2 (n + 1) x2 x3 x5 x6 m =
  (k1n (mfieldAddr E.P 62 x2 1) fun u31 => (k1n (xload E.P m 60 u31) fun u32 => (k1n (mindexAddr E.P 60 u32 x5) fun u33 => (k1n (xload E.P m 80 u33) fun u34 => (k2 (vcalln E.P base m .len [80] [u34]) fun u35 m => (k1n (mbin E .lss 3 x6 u35) fun u36 => (kb u36 (k1n (mfieldAddr E.P 62 x2 1) fun u37 => (k1n (xload E.P m 60 u37) fun u38 => (k1n (mindexAddr E.P 60 u38 x5) fun u39 => (k1n (xload E.P m 80 u39) fun u40 => (k1n (mindexAddr E.P 80 u40 x6) fun u41 => (k1n (xload E.P m 22 u41) fun u42 => (k1n (mfieldAddr E.P 62 x3 1) fun u43 => (k1n (xload E.P m 60 u43) fun u44 => (k1n (mindexAddr E.P 60 u44 x5) fun u45 => (k1n (xload E.P m 80 u45) fun u46 => (k1n (mindexAddr E.P 80 u46 x6) fun u47 => (k1n (xload E.P m 22 u47) fun u48 => (kc (kB m (call m.length 17 [u42, u48] m)) (fun u49 m => (k1n (mun .not u49) fun u50 => (kb u50 (kr (.bool false) m) (k1n (mbin E .add 3 x6 (.int .i64 1)) fun u51 => (r63_L2 call fuel base kr kx2 n x2 x3 x5 u51 m))))) (fun _ _ => none)))))))))))))) (kx2 x2 x3 x5 m)))))))) := by
 unfold r63_L2
 rw [k1_fun, vcall_fun]
theorem r6_L0_s (call : CallF) (fuel base : Nat) (kp : Value → M → Res2) (kx0 : Value → Value → Value → Value → Value → M → Res2) (n : Nat) (x1 x2 x3 x9 x11 x13 x14 : Value) (m : M) : r6_L0 call fuel base kp kx0 (n + 1) x1 x2 x3 x9 x11 x13 x14 m =
  (k2 (vcalln E.P base m .len [23] [x1]) fun u28 m => (k1n (mbin E .lss 3 x14 u28) fun u29 => (kb u29 (kb x13 (k1n (mindexAddr E.P 23 x1 x14) fun u30 => (k1n (xload E.P m 36 u30) fun u31 => (kc (call base 18 [x9, x11, u31] m) (fun u32 m => (k1n (mextract 0 u32) fun u33 => (k1n (mextract 1 u32) fun u34 => (k1n (mbin E .add 3 x14 (.int .i64 1)) fun u35 => (r6_L0 call fuel base kp kx0 n x1 x2 x3 x9 u33 u34 u35 m))))) (fun v m => kp v m)))) (kx0 x2 x3 x9 x11 x13 m)) (kx0 x2 x3 x9 x11 x13 m)))) := by
 unfold r6_L0
 rw [k1_fun, vcall_fun]
theorem r6_L2_s (call : CallF) (fuel base : Nat) (kp : Value → M → Res2) (kx2 : Value → Value → Value → Value → Value → Value → M → Res2) (n : Nat) (x2 x3 x9 x11 x13 x15 x16 x17 : Value) (m : M) : r6_L2 call fuel base kp kx2 (n + 1) x2 x3 x9 x11 x13 x15 x16 x17 m =
  (k2 (vcalln E.P base m .len [23] [x2]) fun u44 m => (k1n (mbin E .lss 3 x17 u44) fun u45 => (kb u45 (kb x13 (k1n (mindexAddr E.P 23 x2 x17) fun u46 => (k1n (xload E.P m 36 u46) fun u47 => (kc (call base 18 [x15, x16, u47] m) (fun u48 m => (k1n (mextract 0 u48) fun u49 => (k1n (mextract 1 u48) fun u50 => (k1n (mbin E .add 3 x17 (.int .i64 1)) fun u51 => (r6_L2 call fuel base kp kx2 n x2 x3 x9 x11 u50 x15 u49 u51 m))))) (fun v m => kp v m)))) (kx2 x3 x9 x11 x13 x15 x16 m)) (kx2 x3 x9 x11 x13 x15 x16 m)))) := by
 unfold r6_L2
 rw [k1_fun, vcall_fun]
theorem r6_L4_s (call : CallF) (fuel base : Nat) (kp : Value → M → Res2) (kx4 : Value → Value → Value → Value → Value → M → Res2) (n : Nat) (x3 x9 x11 x13 x15 x16 x18 : Value) (m : M) : r6_L4 call fuel base kp kx4 (n + 1) x3 x9 x11 x13 x15 x16 x18 m =
  (k2 (vcalln E.P base m .len [23] [x3]) fun u58 m => (k1n (mbin E .lss 3 x18 u58) fun u59 => (kb u59 (kb x13 (k1n (mindexAddr E.P 23 x3 x18) fun u60 => (k1n (xload E.P m 36 u60) fun u61 => (kc (call base 18 [x9, x11, u61] m) (fun u62 m => (k1n (mextract 0 u62) fun u63 => (k1n (mextract 1 u62) fun u64 => (k1n (mbin E .add 3 x18 (.int .i64 1)) fun u65 => (r6_L4 call fuel base kp kx4 n x3 x9 u63 u64 x15 x16 u65 m))))) (fun v m => kp v m)))) (kx4 x9 x11 x13 x15 x16 m)) (kx4 x9 x11 x13 x15 x16 m)))) := by
 unfold r6_L4
 rw [k1_fun, vcall_fun]
theorem r77_L0_s (call : CallF) (fuel base : Nat) (kp : Value → M → Res2) (kx0 : Value → Value → M → Res2) (n : Nat) (x0 x3 x26 x27 x28 : Value) (m : M) : r77_L0 call fuel base kp kx0 (n + 1) x0 x3 x26 x27 x28 m =
  (k1n (mbin E .lss 3 x28 x27) fun u15 => (kb u15 (k1n (mindexAddr E.P 54 x26 x28) fun u16 => (k1n (xload E.P m 104 u16) fun u17 => (k2 (vcalln E.P base m .len [104] [u17]) fun u18 m => (r77_L2 call fuel base (fun v m => kp v m) (fun w26 w27 w28 w29 w30 w31 m => (k1n (mnil w27) fun u32 => (k1n (mfieldAddr E.P 57 u32 1) fun u33 => (k1n (xload E.P m 54 u33) fun u34 => (k2 (xbuildSlice E.P m 54 1 [(0, w28)]) fun u35 m => (k2 (vcalln E.P base m .append [54, 54] [u34, u35]) fun u36 m => (k1n (mnil w27) fun u37 => (k1n (mfieldAddr E.P 57 u37 1) fun u38 => (ks (xstore E.P base m 54 u38 u36) fun m => (k1n (mbin E .add 3 w31 (.int .i64 1)) fun u39 => (r77_L0 call fuel base kp kx0 n w26 w27 w29 w30 u39 m))))))))))) fuel x0 x3 (.slice none 0 0) x26 x27 x28 u17 u18 (.int .i64 0) m)))) (kx0 x0 x3 m))) := by
 unfold r77_L0
 rw [k1_fun, vcall_fun]
theorem r77_L2_s (call : CallF) (fuel base : Nat) (kp : Value → M → Res2) (kx2 : Value → Value → Value → Value → Value → Value → M → Res2) (n : Nat) (x0 x3 x6 x26 x27 x28 x32 x33 x34 : Value) (m : M) : r77_L2 call fuel base kp kx2 (n + 1) x0 x3 x6 x26 x27 x28 x32 x33 x34 m =
  (k1n (mbin E .lss 3 x34 x33) fun u19 => (kb u19 (k1n (mindexAddr E.P 104 x32 x34) fun u20 => (k1n (xload E.P m 103 u20) fun u21 => (kc (call base 106 [u21] m) (fun u22 m => (k2 (xbuildSlice E.P m 104 1 [(0, u22)]) fun u23 m => (k2 (vcalln E.P base m .append [104, 104] [x6, u23]) fun u24 m => (k1n (mbin E .add 3 x34 (.int .i64 1)) fun u25 => (r77_L2 call fuel base kp kx2 n x0 x3 u24 x26 x27 x28 x32 x33 u25 m))))) (fun v m => kp v m)))) (kx2 x0 x3 x6 x26 x27 x28 m))) := by
 unfold r77_L2
 rw [k1_fun, vcall_fun]
theorem r77_L4_s (call : CallF) (fuel base : Nat) (kx4 : Value → M → Res2) (n : Nat) (x3 x58 x59 x60 : Value) (m : M) : r77_L4 call fuel base kx4 (n + 1) x3 x58 x59 x60 m =
  (k1n (mbin E .lss 3 x60 x59) fun u46 => (kb u46 (k1n (mindexAddr E.P 55 x58 x60) fun u47 => (k1n (xload E.P m 125 u47) fun u48 => (k1n (mnil x3) fun u49 => (k1n (mfieldAddr E.P 57 u49 3) fun u50 => (k1n (xload E.P m 55 u50) fun u51 => (kc (kB m (call m.length 107 [u48] m)) (fun u52 m => (k2 (xbuildSlice E.P m 55 1 [(0, u52)]) fun u53 m => (k2 (vcalln E.P base m .append [55, 55] [u51, u53]) fun u54 m => (k1n (mnil x3) fun u55 => (k1n (mfieldAddr E.P 57 u55 3) fun u56 => (ks (xstore E.P base m 55 u56 u54) fun m => (k1n (mbin E .add 3 x60 (.int .i64 1)) fun u57 => (r77_L4 call fuel base kx4 n x3 x58 x59 u57 m)))))))) (fun _ _ => none))))))) (kx4 x3 m))) := by
 unfold r77_L4
 rw [k1_fun, vcall_fun]
theorem r94_L0_s (call : CallF) (fuel base : Nat) (kx0 : Value → Value → M → Res2) (n : Nat) (x0 x3 x4 : Value) (m : M) : r94_L0 call fuel base kx0 (n + 1) x0 x3 x4 m =
  (k1n (mnil x0) fun u7 => (k1n (mfieldAddr E.P 96 u7 0) fun u8 => (k1n (xload E.P m 22 u8) fun u9 => (k2 (vcalln E.P base m .len [22] [u9]) fun u10 m => (k1n (mbin E .lss 3 x4 u10) fun u11 => (kb u11 (k1n (mnil x3) fun u12 => (k1n (mfieldAddr E.P 96 u12 1) fun u13 => (k1n (xload E.P m 80 u13) fun u14 => (k1n (mnil x0) fun u15 => (k1n (mfieldAddr E.P 96 u15 1) fun u16 => (k1n (xload E.P m 80 u16) fun u17 => (k1n (mindexAddr E.P 80 u17 x4) fun u18 => (k1n (xload E.P m 22 u18) fun u19 => (kc (kB m (call m.length 96 [u19] m)) (fun u20 m => (k2 (xbuildSlice E.P m 80 1 [(0, u20)]) fun u21 m => (k2 (vcalln E.P base m .append [80, 80] [u14, u21]) fun u22 m => (k1n (mnil x3) fun u23 => (k1n (mfieldAddr E.P 96 u23 1) fun u24 => (ks (xstore E.P base m 80 u24 u22) fun m => (r94_L2 call fuel base (fun w41 w42 w43 w44 m => (k1n (mnil w42) fun u45 => (k1n (mfieldAddr E.P 96 u45 2) fun u46 => (k1n (xload E.P m 93 u46) fun u47 => (k2 (xbuildSlice E.P m 93 1 [(0, w44)]) fun u48 m => (k2 (vcalln E.P base m .append [93, 93] [u47, u48]) fun u49 m => (k1n (mnil w42) fun u50 => (k1n (mfieldAddr E.P 96 u50 2) fun u51 => (ks (xstore E.P base m 93 u51 u49) fun m => (k1n (mbin E .add 3 w43 (.int .i64 1)) fun u52 => (r94_L0 call fuel base kx0 n w41 w42 u52 m))))))))))) fuel x0 x3 x4 (.slice none 0 0) (.int .i64 0) m))))))) (fun _ _ => none)))))))))) (kx0 x0 x3 m))))))) := by
 unfold r94_L0
 rw [k1_fun, vcall_fun]
theorem r94_L2_s (call : CallF) (fuel base : Nat) (kx2 : Value → Value → Value → Value → M → Res2) (n : Nat) (x0 x3 x4 x5 x6 : Value) (m : M) : r94_L2 call fuel base kx2 (n + 1) x0 x3 x4 x5 x6 m =
  (k1n (mnil x0) fun u25 => (k1n (mfieldAddr E.P 96 u25 0) fun u26 => (k1n (xload E.P m 22 u26) fun u27 => (k2 (vcalln E.P base m .len [22] [u27]) fun u28 m => (k1n (mbin E .lss 3 x6 u28) fun u29 => (kb u29 (k1n (mnil x0) fun u30 => (k1n (mfieldAddr E.P 96 u30 2) fun u31 => (k1n (xload E.P m 93 u31) fun u32 => (k1n (mindexAddr E.P 93 u32 x4) fun u33 => (k1n (xload E.P m 97 u33) fun u34 => (k1n (mindexAddr E.P 97 u34 x6) fun u35 => (k1n (xload E.P m 107 u35) fun u36 => (k2 (vcalln E.P base m .append [107, 107] [(.slice none 0 0), u36]) fun u37 m => (k2 (xbuildSlice E.P m 97 1 [(0, u37)]) fun u38 m => (k2 (vcalln E.P base m .append [97, 97] [x5, u38]) fun u39 m => (k1n (mbin E .add 3 x6 (.int .i64 1)) fun u40 => (r94_L2 call fuel base kx2 n x0 x3 x4 u39 u40 m)))))))))))) (kx2 x0 x3 x4 x5 m))))))) := by
 unfold r94_L2
 rw [k1_fun, vcall_fun]
theorem r94_L4_s (call : CallF) (fuel base : Nat) (kp : Value → M → Res2) (kx4 : Value → M → Res2) (n : Nat) (x0 x3 x8 : Value) (m : M) : r94_L4 call fuel base kp kx4 (n + 1) x0 x3 x8 m =
  (k1n (mnil x0) fun u64 => (k1n (mfieldAddr E.P 96 u64 4) fun u65 => (k1n (xload E.P m 94 u65) fun u66 => (k2 (vcalln E.P base m .len [94] [u66]) fun u67 m => (k1n (mbin E .lss 3 x8 u67) fun u68 => (kb u68 (k1n (mnil x0) fun u69 => (k1n (mfieldAddr E.P 96 u69 4) fun u70 => (k1n (xload E.P m 94 u70) fun u71 => (k1n (mindexAddr E.P 94 u71 x8) fun u72 => (k1n (xload E.P m 140 u72) fun u73 => (k2 (xalloc E.P m 140) fun u74 m => (ks (xstore E.P base m 140 u74 u73) fun m => (k1n (mfieldAddr E.P 140 u74 0) fun u75 => (k1n (xload E.P m 86 u75) fun u76 => (kc (kB m (call m.length 113 [u76] m)) (fun u77 m => (k1n (mfieldAddr E.P 140 u74 1) fun u78 => (k1n (xload E.P m 22 u78) fun u79 => (kc (kB m (call m.length 96 [u79] m)) (fun u80 m => (k1n (mfieldAddr E.P 140 u74 2) fun u81 => (k1n (xload E.P m 22 u81) fun u82 => (kc (kB m (call m.length 96 [u82] m)) (fun u83 m => (k1n (mbuild E.P 140 [(0, u77), (1, u80), (2, u83)]) fun u84 => (k2 (xalloc E.P m 140) fun u85 m => (ks (xstore E.P base m 140 u85 u84) fun m => (r94_L6 call fuel base (fun v m => kp v m) (fun w129 w130 w131 w132 m => (k1n (mnil w130) fun u133 => (k1n (mfieldAddr E.P 96 u133 4) fun u134 => (k1n (xload E.P m 94 u134) fun u135 => (k1n (xload E.P m 140 w132) fun u136 => (k2 (xbuildSlice E.P m 94 1 [(0, u136)]) fun u137 m => (k2 (vcalln E.P base m .append [94, 94] [u135, u137]) fun u138 m => (k1n (mnil w130) fun u139 => (k1n (mfieldAddr E.P 96 u139 4) fun u140 => (ks (xstore E.P base m 94 u140 u138) fun m => (k1n (mbin E .add 3 w131 (.int .i64 1)) fun u141 => (r94_L4 call fuel base kp kx4 n w129 w130 u141 m)))))))))))) fuel x0 x3 x8 u74 u85 (.int .i64 0) m))))) (fun _ _ => none))))) (fun _ _ => none))))) (fun _ _ => none))))))))))) (kx4 x3 m))))))) := by
 unfold r94_L4
 rw [k1_fun, vcall_fun]
theorem r94_L6_s (call : CallF) (fuel base : Nat) (kp : Value → M → Res2) (kx6 : Value → Value → Value → Value → M → Res2) (n : Nat) (x0 x3 x8 x9 x10 x11 : Value) (m : M) : r94_L6 call fuel base kp kx6 (n + 1) x0 x3 x8 x9 x10 x11 m =
  (k1n (mfieldAddr E.P 140 x9 3) fun u86 => (k1n (xload E.P m 84 u86) fun u87 => (k2 (vcalln E.P base m .len [84] [u87]) fun u88 m => (k1n (mbin E .lss 3 x11 u88) fun u89 => (kb u89 (k1n (mfieldAddr E.P 140 x10 3) fun u90 => (k1n (xload E.P m 84 u90) fun u91 => (k1n (mfieldAddr E.P 140 x9 3) fun u92 => (k1n (xload E.P m 84 u92) fun u93 => (k1n (mindexAddr E.P 84 u93 x11) fun u94 => (k1n (xload E.P m 86 u94) fun u95 => (kc (kB m (call m.length 113 [u95] m)) (fun u96 m => (k2 (xbuildSlice E.P m 84 1 [(0, u96)]) fun u97 m => (k2 (vcalln E.P base m .append [84, 84] [u91, u97]) fun u98 m => (k1n (mfieldAddr E.P 140 x10 3) fun u99 => (ks (xstore E.P base m 84 u99 u98) fun m => (r94_L8 call fuel base (fun v m => kp v m) (fun w116 w117 w118 w119 w120 w121 w122 m => (k1n (mfieldAddr E.P 140 w120 4) fun u123 => (k1n (xload E.P m 60 u123) fun u124 => (k2 (xbuildSlice E.P m 60 1 [(0, w122)]) fun u125 m => (k2 (vcalln E.P base m .append [60, 60] [u124, u125]) fun u126 m => (k1n (mfieldAddr E.P 140 w120 4) fun u127 => (ks (xstore E.P base m 60 u127 u126) fun m => (k1n (mbin E .add 3 w121 (.int .i64 1)) fun u128 => (r94_L6 call fuel base kp kx6 n w116 w117 w118 w119 w120 u128 m))))))))) fuel x0 x3 x8 x9 x10 x11 (.slice none 0 0) (.int .i64 0) m)))))) (fun _ _ => none)))))))) (kx6 x0 x3 x8 x10 m)))))) := by
 unfold r94_L6
 rw [k1_fun, vcall_fun]
theorem r94_L8_s (call : CallF) (fuel base : Nat) (kp : Value → M → Res2) (kx8 : Value → Value → Value → Value → Value → Value → Value → M → Res2) (n : Nat) (x0 x3 x8 x9 x10 x11 x12 x13 : Value) (m : M) : r94_L8 call fuel base kp kx8 (n + 1) x0 x3 x8 x9 x10 x11 x12 x13 m =
  (k1n (mfieldAddr E.P 140 x9 4) fun u100 => (k1n (xload E.P m 60 u100) fun u101 => (k1n (mindexAddr E.P 60 u101 x11) fun u102 => (k1n (xload E.P m 80 u102) fun u103 => (k2 (vcalln E.P base m .len [80] [u103]) fun u104 m => (k1n (mbin E .lss 3 x13 u104) fun u105 => (kb u105 (k1n (mfieldAddr E.P 140 x9 4) fun u106 => (k1n (xload E.P m 60 u106) fun u107 => (k1n (mindexAddr E.P 60 u107 x11) fun u108 => (k1n (xload E.P m 80 u108) fun u109 => (k1n (mindexAddr E.P 80 u109 x13) fun u110 => (k1n (xload E.P m 22 u110) fun u111 => (kc (call base 96 [u111] m) (fun u112 m => (k2 (xbuildSlice E.P m 80 1 [(0, u112)]) fun u113 m => (k2 (vcalln E.P base m .append [80, 80] [x12, u113]) fun u114 m => (k1n (mbin E .add 3 x13 (.int .i64 1)) fun u115 => (r94_L8 call fuel base kp kx8 n x0 x3 x8 x9 x10 x11 u114 u115 m))))) (fun v m => kp v m)))))))) (kx8 x0 x3 x8 x9 x10 x11 x12 m)))))))) := by
 unfold r94_L8
 rw [k1_fun, vcall_fun]
theorem r97_L0_s (call : CallF) (fuel base : Nat) (kx0 : M → Res2) (n : Nat) (x0 x1 x2 x7 : Value) (m : M) : r97_L0 call fuel base kx0 (n + 1) x0 x1 x2 x7 m =
  (k1n (mnil x0) fun u28 => (k1n (mfieldAddr E.P 96 u28 0) fun u29 => (k1n (xload E.P m 22 u29) fun u30 => (k2 (vcalln E.P base m .len [22] [u30]) fun u31 m => (k1n (mbin E .lss 3 x7 u31) fun u32 => (kb u32 (k1n (mbin E .neq 3 x7 x2) fun u33 => (kb u33 (k1n (mnil x0) fun u34 => (k1n (mfieldAddr E.P 96 u34 2) fun u35 => (kexv (mexact m u35) (k1n (xload E.P m 93 u35) fun u36 => (k1n (mindexAddr E.P 93 u36 x2) fun u37 => (kexv (mexact m u37) (k1n (xload E.P m 97 u37) fun u38 => (k1n (mnil x0) fun u39 => (k1n (mfieldAddr E.P 96 u39 2) fun u40 => (k1n (xload E.P m 93 u40) fun u41 => (k1n (mindexAddr E.P 93 u41 x2) fun u42 => (k1n (xload E.P m 97 u42) fun u43 => (k1n (mindexAddr E.P 97 u43 x7) fun u44 => (k1n (xload E.P m 107 u44) fun u45 => (k1n (mbin E .add 3 x1 (.int .i64 1)) fun u46 => (k1n (mun .neg u46) fun u47 => (k1n (mbuild E.P 109 [(0, u47)]) fun u48 => (k2 (xbuildSlice E.P m 107 1 [(0, u48)]) fun u49 m => (kexv (mdifV [u45, u49] [u35, u37]) (k2 (vcalln E.P base m .append [107, 107] [u45, u49]) fun u50 m => (k1n (mindexAddr E.P 97 u38 x7) fun u51 => (ks (xstore E.P base m 107 u51 u50) fun m => (k1n (mbin E .add 3 x7 (.int .i64 1)) fun u52 => (r97_L0 call fuel base kx0 n x0 x1 x2 u52 m)))))))))))))))))))))))) (k1n (mbin E .add 3 x7 (.int .i64 1)) fun u53 => (r97_L0 call fuel base kx0 n x0 x1 x2 u53 m)))) (kx0 m))))))) := by
 unfold r97_L0
 rw [k1_fun, vcall_fun]
end Go.AM
namespace Go.AM
open Go Go.Proofs
theorem f96_0 : fdk 96 0 0 = true := by kernel_rfl
theorem f96_1 : fdk 96 1 1 = true := by kernel_rfl
theorem f96_2 : fdk 96 2 2 = true := by kernel_rfl
theorem f96_3 : fdk 96 3 3 = true := by kernel_rfl
theorem f96_4 : fdk 96 4 4 = true := by kernel_rfl
theorem a93 : agg1 93 = true := by kernel_rfl
theorem a94 : agg1 94 = true := by kernel_rfl
theorem a97 : agg1 97 = true := by kernel_rfl
theorem a107 : agg1 107 = true := by kernel_rfl
theorem s93 : slk 93 1 = true := by kernel_rfl
theorem s97 : slk 97 1 = true := by kernel_rfl
theorem s107 : slk 107 2 = true := by kernel_rfl
theorem s94 : slk 94 5 = true := by kernel_rfl
theorem i107 : isSl 107 = true := by kernel_rfl
theorem i94 : isSl 94 = true := by kernel_rfl
theorem z80 : szk 80 1 = true := by kernel_rfl
theorem z93 : szk 93 1 = true := by kernel_rfl
theorem z107 : szk 107 1 = true := by kernel_rfl
theorem gb97 (m : M) (A : Option Addr) (l c : Nat) : xbuildSlice E.P m 97 1 [(0, .slice A l c)] = some (sl m.length 1, m ++ [rowz 1 true [.slice A l c]]) := by
 have e : xbuildSlice E.P m 97 1 [(0, .slice A l c)] = xlen m fun n => xpush m (rowz 1 true [.slice A l c]) fun m' => some (sl n 1, m') := by kernel_rfl
 rw [e, xlen_eq, fNat_eq, xpush_eq, fList_eq]
section
variable {base k k' p : Nat} {d : RP} {s : Nt}
theorem Ref.held_ {own : Nat → Nat} {m : M} (h : Ref own k m p d s) (K : Value → Res2) : (k1n (mnil (pt p 0)) fun a => k1n (mfieldAddr E.P 96 a 0) fun a => k1n (xload E.P m 22 a) K) = K d.hp := by
 rw [mnil_pt, k1s, gfd f96_0, k1s, gld1 a22, Nat.zero_add, h.c0, k1s]
theorem Ref.lines_ {own : Nat → Nat} {m : M} (h : Ref own k m p d s) (K : Value → Res2) : (k1n (mnil (pt p 0)) fun a => k1n (mfieldAddr E.P 96 a 2) fun a => k1n (xload E.P m 93 a) K) = K d.lv := by
 rw [mnil_pt, k1s, gfd f96_2, k1s, gld1 a93, Nat.zero_add, h.c2, k1s]
theorem Vec.ld {own : Nat → Nat} {m : M} {t n i : Nat} {v : Value} {f : Nat → Value} (h : Vec own t 1 m v n fun i => [f i]) (hi : i < n) {ty et : TypeId} (hs : slk ty 1 = true) (ha : agg1 et = true) (K : Value → Res2) : (k1n (mindexAddr E.P ty v (vi i)) fun a => k1n (xload E.P m et a) K) = K (f i) := by
 obtain ⟨pp, off, e, _, _, hc⟩ := h.lst.ix hs hi
 rw [e, k1s, gld1 ha, hc.cell, k1s]
def msC (L : List Ms) (K : Nat → Value) (i : Nat) : List Value := [vi (shw (msAt L i)), K i]
theorem loop94b (call : CallF) (fuel : Nat) (x3 : Value) {a : Nat} (ha : a < s.n) (hk' : 3000 ≤ k') (hkk : k' + 400 ≤ k ∨ k + 400 ≤ k') (hcl : ∀ a b, (s.ch a b).length ≤ 1000) :
  ∀ (w b : Nat) (own : Nat → Nat) (m : M) (x5 : Value) (Q' : Nat → Value), b ≤ s.n → s.n + 1 ≤ w + b → Own base own → base ≤ m.length → Ref own k m p d s → Vec own (k' + 9 + a) 1 m x5 b (fun q => [Q' q]) →
   (∀ q, q < b → Vec own (k' + 20 + 5 * a + q) 2 m (Q' q) (s.ch a q).length (msC (s.ch a q) (d.K a q))) →
   ∃ own' m' x5', ∃ Q'' : Nat → Value, (∀ kx, r94_L2 call fuel base kx w (pt p 0) x3 (vi a) x5 (vi b) m = kx (pt p 0) x3 (vi a) x5' m') ∧ Own base own' ∧ Step (· = k' + 9 + a) own m own' m' ∧ Vec own' (k' + 9 + a) 1 m' x5' s.n (fun q => [Q'' q]) ∧
    ∀ q, q < s.n → Vec own' (k' + 20 + 5 * a + q) 2 m' (Q'' q) (s.ch a q).length (msC (s.ch a q) (d.K a q))
 | 0, b, own, m, x5, Q', hb, hw, hO, hbm, h, hv, hq => by omega
 | w + 1, b, own, m, x5, Q', hb, hw, hO, hbm, h, hv, hq => by
  have n5 := h.n5
  by_cases hlt : b < s.n
  ·have hmsg : Vec own (k + 20 + 5 * a + b) 2 m (d.Q a b) (s.ch a b).length (msC (s.ch a b) (d.K a b)) := h.msg a b ha hlt
   obtain ⟨own1, m1, q1, g1, g2, g3, g4, _⟩ := app_copy hmsg (by omega) (by have := hcl a b; omega) (k' + 20 + 5 * a + b)
   have s1 := g3 (fun _ => False)
   have hbm1 : base ≤ m1.length := Nat.le_trans hbm s1.len
   obtain ⟨A, l, c, rfl⟩ := g2.isSlo
   let m2 : M := m1 ++ [rowz 1 true [.slice A l c]]
   let own2 := upd own1 m1.length 0
   have s2 : ∀ T : Nat → Prop, Step T own1 m1 own2 m2 := fun T => Step.push T _ _ _ _
   have hO2 : Own base own2 := (g4 base hbm hO).upd hbm1 0
   have hm2 : m2.length = m1.length + 1 := by simp [m2]
   obtain ⟨m3, p1, p2, s3, hm3⟩ := ((hv.step s1 (fun h => h)).step (s2 fun _ => False) (fun h => h)).add hO2 (by omega) (by omega) (src1 (m := m1) (z := 1) (c := [.slice A l c]) rfl (by omega)) rfl rfl (by omega)
   let own3 := upd own2 m2.length (k' + 9 + a)
   have hO3 : Own base own3 := hO2.upd (by omega) _
   have s13 : Step (· = k' + 9 + a) own m own3 m3 := (g3 _).trans ((s2 _).trans s3)
   have s23 : Step (· = k' + 9 + a) own1 m1 own3 m3 := (s2 _).trans s3
   obtain ⟨own', m', x5', Q'', r1, r2, r3, r4, r5⟩ := loop94b call fuel x3 ha hk' hkk hcl w (b + 1) own3 m3 (sl m2.length (b + 1)) (upd Q' b (.slice A l c)) (by omega) (by omega) hO3 (by omega) (h.step s13 (fun t ht => by omega)) (p2 _ (fun q hq' => by rw [upd_ne _ _ (by omega)]) (by rw [upd_self])) (fun q hq' => by
    by_cases e : q = b
    ·subst e
     rw [upd_self]
     exact g2.step s23 (by omega)
    ·rw [upd_ne _ _ e]
     exact (hq q (by omega)).step s13 (by omega))
   refine ⟨own', m', x5', Q'', fun kx => ?_, r2, s13.trans r3, r4, r5⟩
   rw [r94_L2_s, h.held_, h.held.lst.len i22, k2s, lssN, k1s, decide_eq_true hlt, kbt, h.lines_, h.lin.ld ha s93 a97, (h.linr a ha).ld hlt s97 a107, vapp p107, g1, k2s, gb97, k2s, vapp p97, p1, k2s, add1 3 _ (by omega), k1s]
   exact r1 kx
  ·obtain rfl : b = s.n := by omega
   refine ⟨own, m, x5, Q', fun kx => ?_, hO, Step.refl _ _ _, hv, hq⟩
   rw [r94_L2_s, h.held_, h.held.lst.len i22, k2s, lssN, k1s, decide_eq_false hlt, kbf]
end
end Go.AM
namespace Go.AM
open Go Go.Proofs
theorem gb80 (m : M) (A : Option Addr) (l c : Nat) : xbuildSlice E.P m 80 1 [(0, .slice A l c)] = some (sl m.length 1, m ++ [rowz 1 true [.slice A l c]]) := by
 have e : xbuildSlice E.P m 80 1 [(0, .slice A l c)] = xlen m fun n => xpush m (rowz 1 true [.slice A l c]) fun m' => some (sl n 1, m') := by kernel_rfl
 rw [e, xlen_eq, fNat_eq, xpush_eq, fList_eq]
theorem gb93 (m : M) (A : Option Addr) (l c : Nat) : xbuildSlice E.P m 93 1 [(0, .slice A l c)] = some (sl m.length 1, m ++ [rowz 1 true [.slice A l c]]) := by
 have e : xbuildSlice E.P m 93 1 [(0, .slice A l c)] = xlen m fun n => xpush m (rowz 1 true [.slice A l c]) fun m' => some (sl n 1, m') := by kernel_rfl
 rw [e, xlen_eq, fNat_eq, xpush_eq, fList_eq]
section
variable {base k k' p p' : Nat} {d : RP} {s : Nt}
theorem Ref.clocks_ {own : Nat → Nat} {m : M} (h : Ref own k m p d s) (K : Value → Res2) : (k1n (mnil (pt p 0)) fun a => k1n (mfieldAddr E.P 96 a 1) fun a => k1n (xload E.P m 80 a) K) = K d.cv := by
 rw [mnil_pt, k1s, gfd f96_1, k1s, gld1 a80, Nat.zero_add, h.c1, k1s]
structure NewR (own : Nat → Nat) (k' : Nat) (m : M) (p' a : Nat) (s : Nt) (K : Nat → Nat → Nat → Value) (hp cv lv : Value) (C L : Nat → Value) (Q : Nat → Nat → Value) : Prop where
 hd : Hd m p' 0 true 5
 tg : own p' = k'
 c0 : mcell m p' 0 = some hp
 c1 : mcell m p' 1 = some cv
 c2 : mcell m p' 2 = some lv
 c3 : mcell m p' 3 = some nilS
 c4 : mcell m p' 4 = some nilS
 held : Vec own (k' + 1) 1 m hp s.n fun i => [vi (s.pcs i)]
 clk : Vec own (k' + 2) 1 m cv a fun q => [C q]
 clkr : ∀ q, q < a → Vec own (k' + 3 + q) 1 m (C q) s.n fun b => [vi (s.clk q b)]
 lin : Vec own (k' + 8) 1 m lv a fun q => [L q]
 linr : ∀ q, q < a → Vec own (k' + 9 + q) 1 m (L q) s.n fun b => [Q q b]
 msg : ∀ q b, q < a → b < s.n → Vec own (k' + 20 + 5 * q + b) 2 m (Q q b) (s.ch q b).length (msC (s.ch q b) (K q b))
theorem loop94a (z : Nat) (hz : 100 ≤ z) (hk' : 3000 ≤ k') (hkk : k' + 400 ≤ k ∨ k + 400 ≤ k') (hcl : ∀ a b, (s.ch a b).length ≤ 1000) (hb' : base ≤ p') :
  ∀ (w a : Nat) (own : Nat → Nat) (m : M) (hp cv lv : Value) (C L : Nat → Value) (Q : Nat → Nat → Value), a ≤ s.n → s.n + 1 ≤ w + a → Own base own → base ≤ m.length → Ref own k m p d s → NewR own k' m p' a s d.K hp cv lv C L Q →
   ∃ own' m' cv' lv', ∃ C' L' : Nat → Value, ∃ Q' : Nat → Nat → Value, (∀ kx, r94_L0 (rt (z + 1)) (z + 1) base kx w (pt p 0) (pt p' 0) (vi a) m = kx (pt p 0) (pt p' 0) m') ∧ Own base own' ∧ Step (fun t => k' ≤ t ∧ t < k' + 50) own m own' m' ∧ NewR own' k' m' p' s.n s d.K hp cv' lv' C' L' Q'
 | 0, a, own, m, hp, cv, lv, C, L, Q, ha, hw, hO, hbm, h, hN => by omega
 | w + 1, a, own, m, hp, cv, lv, C, L, Q, ha, hw, hO, hbm, h, hN => by
  have n5 := h.n5
  by_cases hlt : a < s.n
  ·-- the clock
   obtain ⟨own1, m1, cq, g1, g2, g3, g4, y, hy⟩ := t96 z (h.clkr a hlt) (by omega) (k' + 3 + a)
   have s1 := g3 (fun _ => False)
   have hO1 := g4 base hbm hO
   have hbm1 : base ≤ m1.length := Nat.le_trans hbm s1.len
   obtain ⟨A, l, c, rfl⟩ := g2.isSlo
   let m2 : M := m1 ++ [rowz 1 true [.slice A l c]]
   let own2 := upd own1 m1.length 0
   have s2 : ∀ T : Nat → Prop, Step T own1 m1 own2 m2 := fun T => Step.push T _ _ _ _
   have hO2 : Own base own2 := hO1.upd hbm1 0
   have hm2 : m2.length = m1.length + 1 := by simp [m2]
   obtain ⟨m3, p1, p2, s3, hm3⟩ := ((hN.clk.step s1 (fun h => h)).step (s2 fun _ => False) (fun h => h)).add hO2 (by omega) (by omega) (src1 (m := m1) (z := 1) (c := [.slice A l c]) rfl (by omega)) rfl rfl (by omega)
   let own3 := upd own2 m2.length (k' + 2)
   have hO3 : Own base own3 := hO2.upd (by omega) _
   have s13 : Step (· = k' + 2) own1 m1 own3 m3 := (s2 _).trans s3
   have s03 : Step (· = k' + 2) own m own3 m3 := (g3 _).trans s13
   have hd3 : Hd m3 p' 0 true 5 := s03.hd hN.hd (by rw [hN.tg]; omega)
   have tg3 : own3 p' = k' := (s03.tg p' hN.hd.lt).trans hN.tg
   let m4 : M := mwr m3 p' 1 [sl m2.length (a + 1)]
   have s4 : Step (· = k') own3 m3 own3 m4 := Step.wr (T := (· = k')) tg3 _ _
   have hst4 : xstore E.P base m3 80 (pt p' 1) (sl m2.length (a + 1)) = some m4 := gstS z80 hb' hd3 (by omega) _ _ _
   have hm4 : m4.length = m3.length := mwr_len _ _ _ _
   have s04 : Step (fun t => t = k' ∨ t = k' + 2) own m own3 m4 := (s03.mono fun t ht => .inr ht).trans (s4.mono fun t ht => .inl ht)
   have s14 : Step (fun t => t = k' ∨ t = k' + 2) own1 m1 own3 m4 := (s13.mono fun t ht => .inr ht).trans (s4.mono fun t ht => .inl ht)
   have h4 := h.step s04 (fun t ht => by omega)
   obtain ⟨own5, m5, x5, Q5, r1, hO5, s5, hv5, hq5⟩ := loop94b (base := base) (p := p) (d := d) (rt (z + 1)) (z + 1) (pt p' 0) hlt hk' hkk hcl (z + 1) 0 own3 m4 nilS (fun _ => nilS) (by omega) (by omega) hO3 (by omega) h4 (.inl ⟨rfl, rfl⟩) (fun q hq => by omega)
   obtain ⟨A5, l5, c5, rfl⟩ := hv5.isSlo
   have tg5 : own5 p' = k' := (s5.tg p' (mwr_hd hd3).lt).trans tg3
   have hd5 : Hd m5 p' 0 true 5 := s5.hd (mwr_hd hd3) (by rw [tg3]; omega)
   have n3 : ¬ k' = k' + 9 + a := by omega
   have c04 : ∀ {i : Nat} {x : Value}, i ≠ 1 → mcell m p' i = some x → mcell m5 p' i = some x := fun {i x} hi hx => by
    refine s5.cell ?_ (by rw [tg3]; exact n3)
    show mcell (mwr m3 p' 1 [sl m2.length (a + 1)]) p' i = some x
    rw [mwr_out (by simp; omega)]
    exact s03.cell hx (by rw [hN.tg]; omega)
   have c15 : mcell m5 p' 1 = some (sl m2.length (a + 1)) := s5.cell (mwr_in (vs := [sl m2.length (a + 1)]) hd3 (by simp)).cell (by rw [tg3]; exact n3)
   have hbm5 : base ≤ m5.length := Nat.le_trans (by omega) s5.len
   let m6 : M := m5 ++ [rowz 1 true [.slice A5 l5 c5]]
   let own6 := upd own5 m5.length 0
   have s6 : ∀ T : Nat → Prop, Step T own5 m5 own6 m6 := fun T => Step.push T _ _ _ _
   have hO6 : Own base own6 := hO5.upd hbm5 0
   have hm6 : m6.length = m5.length + 1 := by simp [m6]
   have hlin5 := (hN.lin.step s04 (by omega)).step s5 (by omega)
   obtain ⟨m7, u1, u2, s7, hm7⟩ := (hlin5.step (s6 fun _ => False) (fun h => h)).add hO6 (by omega) (by omega) (src1 (m := m5) (z := 1) (c := [.slice A5 l5 c5]) rfl (by omega)) rfl rfl (by omega)
   let own7 := upd own6 m6.length (k' + 8)
   have hO7 : Own base own7 := hO6.upd (by omega) _
   have s57 : Step (· = k' + 8) own5 m5 own7 m7 := (s6 _).trans s7
   have hd7 : Hd m7 p' 0 true 5 := s57.hd hd5 (by rw [tg5]; omega)
   have tg7 : own7 p' = k' := (s57.tg p' hd5.lt).trans tg5
   let m8 : M := mwr m7 p' 2 [sl m6.length (a + 1)]
   have s8 : Step (· = k') own7 m7 own7 m8 := Step.wr (T := (· = k')) tg7 _ _
   have hst8 : xstore E.P base m7 93 (pt p' 2) (sl m6.length (a + 1)) = some m8 := gstS z93 hb' hd7 (by omega) _ _ _
   have s58 : Step (fun t => t = k' ∨ t = k' + 8) own5 m5 own7 m8 := (s57.mono fun t ht => .inr ht).trans (s8.mono fun t ht => .inl ht)
   have c8 : ∀ {i : Nat} {x : Value}, i ≠ 2 → mcell m5 p' i = some x → mcell m8 p' i = some x := fun {i x} hi hx => by
    show mcell (mwr m7 p' 2 [sl m6.length (a + 1)]) p' i = some x
    rw [mwr_out (by simp; omega)]
    exact s57.cell hx (by rw [tg5]; omega)
   have hclk4 := (p2 (fun q => [upd C a (.slice A l c) q]) (fun q hq => by rw [upd_ne _ _ (by omega)]) (by rw [upd_self])).step s4 (by omega)
   have hN8 : NewR own7 k' m8 p' (a + 1) s d.K hp (sl m2.length (a + 1)) (sl m6.length (a + 1)) (upd C a (.slice A l c)) (upd L a (.slice A5 l5 c5)) (upd Q a Q5) := by
    refine ⟨mwr_hd hd7, tg7, c8 (by omega) (c04 (by omega) hN.c0), c8 (by omega) c15, (mwr_in (vs := [sl m6.length (a + 1)]) hd7 (by simp)).cell, c8 (by omega) (c04 (by omega) hN.c3), c8 (by omega) (c04 (by omega) hN.c4), ((hN.held.step s04 (by omega)).step s5 (by omega)).step s58 (by omega), (hclk4.step s5 (by omega)).step s58 (by omega), fun q hq => ?_, (u2 (fun q => [upd L a (.slice A5 l5 c5) q]) (fun q hq => by rw [upd_ne _ _ (by omega)]) (by rw [upd_self])).step s8 (by omega), fun q hq => ?_, fun q b hq hb => ?_⟩
    ·by_cases e : q = a
     ·subst e
      rw [upd_self]
      exact ((g2.step s14 (by omega)).step s5 (by omega)).step s58 (by omega)
     ·rw [upd_ne _ _ e]
      exact (((hN.clkr q (by omega)).step s04 (by omega)).step s5 (by omega)).step s58 (by omega)
    ·by_cases e : q = a
     ·subst e
      rw [upd_self, upd_self]
      exact hv5.step s58 (by omega)
     ·rw [upd_ne _ _ e, upd_ne _ _ e]
      exact (((hN.linr q (by omega)).step s04 (by omega)).step s5 (by omega)).step s58 (by omega)
    ·by_cases e : q = a
     ·subst e
      rw [upd_self]
      exact (hq5 b hb).step s58 (by omega)
     ·rw [upd_ne _ _ e]
      exact (((hN.msg q b (by omega) hb).step s04 (by omega)).step s5 (by omega)).step s58 (by omega)
   have s48 : Step (fun t => k' ≤ t ∧ t < k' + 50) own m own7 m8 := (s04.mono fun t ht => by omega).trans ((s5.mono fun t ht => by omega).trans (s58.mono fun t ht => by omega))
   obtain ⟨own', m', cv', lv', C', L', Q', q1, q2, q3, q4⟩ := loop94a z hz hk' hkk hcl hb' w (a + 1) own7 m8 hp _ _ _ _ _ (by omega) (by omega) hO7 (Nat.le_trans hbm s48.len) (h.step s48 (fun t ht => by omega)) hN8
   refine ⟨own', m', cv', lv', C', L', Q', fun kx => ?_, q2, s48.trans q3, q4⟩
   have c13 : mcell m p' 1 = some cv := hN.c1
   have h1 := h.step s1 (fun _ h => h.elim)
   have c11 : mcell m1 p' 1 = some cv := s1.cell hN.c1 (fun h => h)
   have c25 := c04 (by omega) hN.c2
   rw [r94_L0_s, h.held_, h.held.lst.len i22, k2s, lssN, k1s, decide_eq_true hlt, kbt, mnil_pt, k1s, gfd f96_1, k1s, gld1 a80, Nat.zero_add, c13, k1s, h.clocks_, h.clk.ld hlt s80 a22, g1, hy, kB_push, kcs, ← hy, gb80, k2s, vapp p80, p1, k2s, k1s, gfd f96_1, k1s, Nat.zero_add, hst4, kss]
   rw [i0]
   refine (r1 _).trans ?_
   rw [mnil_pt, k1s, gfd f96_2, k1s, gld1 a93, Nat.zero_add, c25, k1s, gb93, k2s, vapp p93, u1, k2s, k1s, gfd f96_2, k1s, Nat.zero_add, hst8, kss, add1 3 _ (by omega), k1s]
   exact q1 kx
  ·obtain rfl : a = s.n := by omega
   refine ⟨own, m, cv, lv, C, L, Q, fun kx => ?_, hO, Step.refl _ _ _, hN⟩
   rw [r94_L0_s, h.held_, h.held.lst.len i22, k2s, lssN, k1s, decide_eq_false hlt, kbf]
end
end Go.AM
namespace Go.AM
open Go Go.Proofs
theorem f140_0 : fdk 140 0 0 = true := by kernel_rfl
theorem f140_1 : fdk 140 1 1 = true := by kernel_rfl
theorem f140_2 : fdk 140 2 2 = true := by kernel_rfl
theorem f140_3 : fdk 140 3 3 = true := by kernel_rfl
theorem f140_4 : fdk 140 4 4 = true := by kernel_rfl
section
variable {base j j' : Nat} {d : SP} {r : Nat → Rc} {n : Nat}
theorem loop94d (z : Nat) (x0 x3 x8 x10 : Value) {b9 a : Nat} (ha : a < n) (h5 : n ≤ 5) (hj' : 1000 ≤ j') (hjj : j' + 40 ≤ j ∨ j + 40 ≤ j') (hlen : ∀ t f, ((r t).hrd f).length ≤ 1000) :
  ∀ (w b : Nat) (own : Nat → Nat) (m : M) (x12 : Value) (Z' : Nat → Value), b ≤ n → n + 1 ≤ w + b → Own base own → base ≤ m.length → RShot own j m n d r → mcell m b9 4 = some d.uv → own b9 = 0 → Vec own (j' + 10 + a) 1 m x12 b (fun q => [Z' q]) →
   (∀ q, q < b → Vec own (j' + 15 + 5 * a + q) 1 m (Z' q) ((r q).hrd a).length fun i => [vi (nth ((r q).hrd a) i)]) →
   ∃ own' m' x12', ∃ Z'' : Nat → Value, (∀ kp kx, r94_L8 (rt (z + 1)) (z + 1) base kp kx w x0 x3 x8 (pt b9 0) x10 (vi a) x12 (vi b) m = kx x0 x3 x8 (pt b9 0) x10 (vi a) x12' m') ∧ Own base own' ∧ Step (· = j' + 10 + a) own m own' m' ∧ Vec own' (j' + 10 + a) 1 m' x12' n (fun q => [Z'' q]) ∧
    ∀ q, q < n → Vec own' (j' + 15 + 5 * a + q) 1 m' (Z'' q) ((r q).hrd a).length fun i => [vi (nth ((r q).hrd a) i)]
 | 0, b, own, m, x12, Z', hb, hw, hO, hbm, h, h4, ht, hv, hq => by omega
 | w + 1, b, own, m, x12, Z', hb, hw, hO, hbm, h, h4, ht, hv, hq => by
  by_cases hlt : b < n
  ·obtain ⟨own1, m1, q1, g1, g2, g3, g4, _⟩ := t96 z (h.undl a b ha hlt) (by have := hlen b a; omega) (j' + 15 + 5 * a + b)
   have s1 := g3 (fun _ => False)
   have hbm1 : base ≤ m1.length := Nat.le_trans hbm s1.len
   obtain ⟨A, l, c, rfl⟩ := g2.isSlo
   let m2 : M := m1 ++ [rowz 1 true [.slice A l c]]
   let own2 := upd own1 m1.length 0
   have s2 : ∀ T : Nat → Prop, Step T own1 m1 own2 m2 := fun T => Step.push T _ _ _ _
   have hO2 : Own base own2 := (g4 base hbm hO).upd hbm1 0
   have hm2 : m2.length = m1.length + 1 := by simp [m2]
   obtain ⟨m3, p1, p2, s3, hm3⟩ := ((hv.step s1 (fun h => h)).step (s2 fun _ => False) (fun h => h)).add hO2 (by omega) (by omega) (src1 (m := m1) (z := 1) (c := [.slice A l c]) rfl (by omega)) rfl rfl (by omega)
   let own3 := upd own2 m2.length (j' + 10 + a)
   have hO3 : Own base own3 := hO2.upd (by omega) _
   have s13 : Step (· = j' + 10 + a) own m own3 m3 := (g3 _).trans ((s2 _).trans s3)
   have s23 : Step (· = j' + 10 + a) own1 m1 own3 m3 := (s2 _).trans s3
   obtain ⟨own', m', x12', Z'', r1, r2, r3, r4, r5⟩ := loop94d z x0 x3 x8 x10 ha h5 hj' hjj hlen w (b + 1) own3 m3 (sl m2.length (b + 1)) (upd Z' b (.slice A l c)) (by omega) (by omega) hO3 (by omega) (h.step s13 h5 (fun t ht => by omega)) (s13.cell h4 (by rw [ht]; omega)) ((s13.tg b9 (mcell_lt h4)).trans ht) (p2 _ (fun q hq' => by rw [upd_ne _ _ (by omega)]) (by rw [upd_self])) (fun q hq' => by
    by_cases e : q = b
    ·subst e
     rw [upd_self]
     exact g2.step s23 (by omega)
    ·rw [upd_ne _ _ e]
     exact (hq q (by omega)).step s13 (by omega))
   refine ⟨own', m', x12', Z'', fun kp kx => ?_, r2, s13.trans r3, r4, r5⟩
   rw [r94_L8_s, gfd f140_4, k1s, gld1 a60, Nat.zero_add, h4, k1s, h.und.ld ha s60 a80, (h.undr a ha).lst.len i80, k2s, lssN, k1s, decide_eq_true hlt, kbt, k1s, gld1 a60, h4, k1s, h.und.ld ha s60 a80, (h.undr a ha).ld hlt s80 a22, g1, kcs, gb80, k2s, vapp p80, p1, k2s, add1 3 _ (by omega), k1s]
   exact r1 kp kx
  ·obtain rfl : b = n := by omega
   refine ⟨own, m, x12, Z', fun kp kx => ?_, hO, Step.refl _ _ _, hv, hq⟩
   rw [r94_L8_s, gfd f140_4, k1s, gld1 a60, Nat.zero_add, h4, k1s, h.und.ld ha s60 a80, (h.undr a ha).lst.len i80, k2s, lssN, k1s, decide_eq_false hlt, kbf]
end
end Go.AM
namespace Go.AM
open Go Go.Proofs
theorem gb84g (m : M) (A : Option Addr) (l c : Nat) : xbuildSlice E.P m 84 1 [(0, .slice A l c)] = some (sl m.length 1, m ++ [rowz 1 true [.slice A l c]]) := by
 have e : xbuildSlice E.P m 84 1 [(0, .slice A l c)] = xlen m fun n => xpush m (rowz 1 true [.slice A l c]) fun m' => some (sl n 1, m') := by kernel_rfl
 rw [e, xlen_eq, fNat_eq, xpush_eq, fList_eq]
theorem gb60g (m : M) (A : Option Addr) (l c : Nat) : xbuildSlice E.P m 60 1 [(0, .slice A l c)] = some (sl m.length 1, m ++ [rowz 1 true [.slice A l c]]) := by
 have e : xbuildSlice E.P m 60 1 [(0, .slice A l c)] = xlen m fun n => xpush m (rowz 1 true [.slice A l c]) fun m' => some (sl n 1, m') := by kernel_rfl
 rw [e, xlen_eq, fNat_eq, xpush_eq, fList_eq]
theorem a84 : agg1 84 = true := by kernel_rfl
theorem z84 : szk 84 1 = true := by kernel_rfl
structure NewS (own : Nat → Nat) (j' tb : Nat) (m : M) (b10 a n : Nat) (r : Nat → Rc) (d : SP) : Prop where
 hd : Hd m b10 0 true 5
 tg : own b10 = tb
 c0 : mcell m b10 0 = some d.rv
 c1 : mcell m b10 1 = some d.pv
 c2 : mcell m b10 2 = some d.ev
 c3 : mcell m b10 3 = some d.xv
 c4 : mcell m b10 4 = some d.uv
 made : Vec own j' 1 m d.rv n fun t => [.bool (r t).made]
 pie : Vec own (j' + 1) 1 m d.pv n fun t => [vi (if (r t).made then (r t).pcs else 0)]
 evn : Vec own (j' + 2) 1 m d.ev n fun t => [vi (if (r t).made then (r t).evs else 0)]
 clo : Vec own (j' + 3) 1 m d.xv a fun q => [d.X q]
 clor : ∀ q, q < a → Vec own (j' + 4 + q) 1 m (d.X q) n fun b => [.bool ((r b).made && (!(r b).opn q && !decide (q = b)))]
 und : Vec own (j' + 9) 1 m d.uv a fun q => [d.Y q]
 undr : ∀ q, q < a → Vec own (j' + 10 + q) 1 m (d.Y q) n fun b => [d.Z q b]
 undl : ∀ q b, q < a → b < n → Vec own (j' + 15 + 5 * q + b) 1 m (d.Z q b) ((r b).hrd q).length fun i => [vi (nth ((r b).hrd q) i)]
theorem NewS.done {own : Nat → Nat} {j' tb : Nat} {m : M} {b10 n : Nat} {r : Nat → Rc} {d : SP} (h : NewS own j' tb m b10 n n r d) : RShot own j' m n d r := ⟨h.made, h.pie, h.evn, h.clo, h.clor, h.und, h.undr, h.undl⟩
section
variable {base j j' tb : Nat} {d : SP} {r : Nat → Rc} {n : Nat}
theorem loop94c (z : Nat) (hz : 100 ≤ z) (x0 x3 x8 : Value) {b9 b10 : Nat} (h5 : n ≤ 5) (hj' : 1000 ≤ j') (hjj : j' + 40 ≤ j ∨ j + 40 ≤ j') (htb : 0 < tb ∧ (tb < j' ∨ j' + 40 ≤ tb) ∧ (tb < j ∨ j + 40 ≤ tb)) (hb10 : base ≤ b10) (hlen : ∀ t f, ((r t).hrd f).length ≤ 1000) :
  ∀ (w a : Nat) (own : Nat → Nat) (m : M) (d' : SP), a ≤ n → n + 1 ≤ w + a → Own base own → base ≤ m.length → RShot own j m n d r → mcell m b9 3 = some d.xv → mcell m b9 4 = some d.uv → own b9 = 0 → NewS own j' tb m b10 a n r d' →
   ∃ own' m' d'', (∀ kp kx, r94_L6 (rt (z + 1)) (z + 1) base kp kx w x0 x3 x8 (pt b9 0) (pt b10 0) (vi a) m = kx x0 x3 x8 (pt b10 0) m') ∧ Own base own' ∧ Step (fun t => t = tb ∨ (j' ≤ t ∧ t < j' + 40)) own m own' m' ∧ NewS own' j' tb m' b10 n n r d''
 | 0, a, own, m, d', ha, hw, hO, hbm, h, h3, h4, ht, hN => by omega
 | w + 1, a, own, m, d', ha, hw, hO, hbm, h, h3, h4, ht, hN => by
  by_cases hlt : a < n
  ·obtain ⟨own1, m1, cq, g1, g2, g3, g4, y, hy⟩ := t113 z (h.clor a hlt) (by omega) (j' + 4 + a)
   have s1 := g3 (fun _ => False)
   have hO1 := g4 base hbm hO
   have hbm1 : base ≤ m1.length := Nat.le_trans hbm s1.len
   obtain ⟨A, l, c, rfl⟩ := g2.isSlo
   let m2 : M := m1 ++ [rowz 1 true [.slice A l c]]
   let own2 := upd own1 m1.length 0
   have s2 : ∀ T : Nat → Prop, Step T own1 m1 own2 m2 := fun T => Step.push T _ _ _ _
   have hO2 : Own base own2 := hO1.upd hbm1 0
   have hm2 : m2.length = m1.length + 1 := by simp [m2]
   obtain ⟨m3, p1, p2, s3, hm3⟩ := ((hN.clo.step s1 (fun h => h)).step (s2 fun _ => False) (fun h => h)).add hO2 (by omega) (by omega) (src1 (m := m1) (z := 1) (c := [.slice A l c]) rfl (by omega)) rfl rfl (by omega)
   let own3 := upd own2 m2.length (j' + 3)
   have hO3 : Own base own3 := hO2.upd (by omega) _
   have s13 : Step (· = j' + 3) own1 m1 own3 m3 := (s2 _).trans s3
   have s03 : Step (· = j' + 3) own m own3 m3 := (g3 _).trans s13
   have hd3 : Hd m3 b10 0 true 5 := s03.hd hN.hd (by rw [hN.tg]; omega)
   have tg3 : own3 b10 = tb := (s03.tg b10 hN.hd.lt).trans hN.tg
   let m4 : M := mwr m3 b10 3 [sl m2.length (a + 1)]
   have s4 : Step (· = tb) own3 m3 own3 m4 := Step.wr (T := (· = tb)) tg3 _ _
   have hst4 : xstore E.P base m3 84 (pt b10 3) (sl m2.length (a + 1)) = some m4 := gstS z84 hb10 hd3 (by omega) _ _ _
   have hm4 : m4.length = m3.length := mwr_len _ _ _ _
   have s04 : Step (fun t => t = tb ∨ t = j' + 3) own m own3 m4 := (s03.mono fun t ht => .inr ht).trans (s4.mono fun t ht => .inl ht)
   have s14 : Step (fun t => t = tb ∨ t = j' + 3) own1 m1 own3 m4 := (s13.mono fun t ht => .inr ht).trans (s4.mono fun t ht => .inl ht)
   have h4R := h.step s04 h5 (fun t ht => by omega)
   have b94 : mcell m4 b9 4 = some d.uv := s04.cell h4 (by rw [ht]; omega)
   have b93 : mcell m4 b9 3 = some d.xv := s04.cell h3 (by rw [ht]; omega)
   have tb9 : own3 b9 = 0 := (s04.tg b9 (mcell_lt h4)).trans ht
   obtain ⟨own5, m5, x5, Z5, r1, hO5, s5, hv5, hq5⟩ := loop94d (base := base) (d := d) z x0 x3 x8 (pt b10 0) hlt h5 hj' hjj hlen (z + 1) 0 own3 m4 nilS (fun _ => nilS) (by omega) (by omega) hO3 (by omega) h4R b94 tb9 (.inl ⟨rfl, rfl⟩) (fun q hq => by omega)
   obtain ⟨A5, l5, c5, rfl⟩ := hv5.isSlo
   have tg5 : own5 b10 = tb := (s5.tg b10 (mwr_hd hd3).lt).trans tg3
   have hd5 : Hd m5 b10 0 true 5 := s5.hd (mwr_hd hd3) (by rw [tg3]; omega)
   have c04 : ∀ {i : Nat} {x : Value}, i ≠ 3 → mcell m b10 i = some x → mcell m5 b10 i = some x := fun {i x} hi hx => by
    refine s5.cell ?_ (by rw [tg3]; omega)
    show mcell (mwr m3 b10 3 [sl m2.length (a + 1)]) b10 i = some x
    rw [mwr_out (by simp; omega)]
    exact s03.cell hx (by rw [hN.tg]; omega)
   have c35 : mcell m5 b10 3 = some (sl m2.length (a + 1)) := s5.cell (mwr_in (vs := [sl m2.length (a + 1)]) hd3 (by simp)).cell (by rw [tg3]; omega)
   have hbm5 : base ≤ m5.length := Nat.le_trans (by omega) s5.len
   let m6 : M := m5 ++ [rowz 1 true [.slice A5 l5 c5]]
   let own6 := upd own5 m5.length 0
   have s6 : ∀ T : Nat → Prop, Step T own5 m5 own6 m6 := fun T => Step.push T _ _ _ _
   have hO6 : Own base own6 := hO5.upd hbm5 0
   have hm6 : m6.length = m5.length + 1 := by simp [m6]
   have hund5 := (hN.und.step s04 (by omega)).step s5 (by omega)
   obtain ⟨m7, u1, u2, s7, hm7⟩ := (hund5.step (s6 fun _ => False) (fun h => h)).add hO6 (by omega) (by omega) (src1 (m := m5) (z := 1) (c := [.slice A5 l5 c5]) rfl (by omega)) rfl rfl (by omega)
   let own7 := upd own6 m6.length (j' + 9)
   have hO7 : Own base own7 := hO6.upd (by omega) _
   have s57 : Step (· = j' + 9) own5 m5 own7 m7 := (s6 _).trans s7
   have hd7 : Hd m7 b10 0 true 5 := s57.hd hd5 (by rw [tg5]; omega)
   have tg7 : own7 b10 = tb := (s57.tg b10 hd5.lt).trans tg5
   let m8 : M := mwr m7 b10 4 [sl m6.length (a + 1)]
   have s8 : Step (· = tb) own7 m7 own7 m8 := Step.wr (T := (· = tb)) tg7 _ _
   have hst8 : xstore E.P base m7 60 (pt b10 4) (sl m6.length (a + 1)) = some m8 := gstS z60 hb10 hd7 (by omega) _ _ _
   have s58 : Step (fun t => t = tb ∨ t = j' + 9) own5 m5 own7 m8 := (s57.mono fun t ht => .inr ht).trans (s8.mono fun t ht => .inl ht)
   have c8 : ∀ {i : Nat} {x : Value}, i ≠ 4 → mcell m5 b10 i = some x → mcell m8 b10 i = some x := fun {i x} hi hx => by
    show mcell (mwr m7 b10 4 [sl m6.length (a + 1)]) b10 i = some x
    rw [mwr_out (by simp; omega)]
    exact s57.cell hx (by rw [tg5]; omega)
   have hclo4 := (p2 (fun q => [upd d'.X a (.slice A l c) q]) (fun q hq => by rw [upd_ne _ _ (by omega)]) (by rw [upd_self])).step s4 (by omega)
   have fr : ∀ {t z n : Nat} {v : Value} {C : Nat → List Value}, Vec own t z m v n C → t ≠ tb → t ≠ j' + 3 → t ≠ j' + 10 + a → t ≠ j' + 9 → Vec own7 t z m8 v n C := fun h a1 a2 a3 a4 => ((h.step s04 (by omega)).step s5 (by omega)).step s58 (by omega)
   have hN8 : NewS own7 j' tb m8 b10 (a + 1) n r ⟨d'.rv, d'.pv, d'.ev, sl m2.length (a + 1), sl m6.length (a + 1), upd d'.X a (.slice A l c), upd d'.Y a (.slice A5 l5 c5), upd d'.Z a Z5⟩ := by
    refine ⟨mwr_hd hd7, tg7, c8 (by omega) (c04 (by omega) hN.c0), c8 (by omega) (c04 (by omega) hN.c1), c8 (by omega) (c04 (by omega) hN.c2), c8 (by omega) c35, (mwr_in (vs := [sl m6.length (a + 1)]) hd7 (by simp)).cell, fr hN.made (by omega) (by omega) (by omega) (by omega), fr hN.pie (by omega) (by omega) (by omega) (by omega), fr hN.evn (by omega) (by omega) (by omega) (by omega), (hclo4.step s5 (by omega)).step s58 (by omega), fun q hq => ?_, (u2 (fun q => [upd d'.Y a (.slice A5 l5 c5) q]) (fun q hq => by rw [upd_ne _ _ (by omega)]) (by rw [upd_self])).step s8 (by omega), fun q hq => ?_, fun q b hq hb => ?_⟩
    ·show Vec own7 (j' + 4 + q) 1 m8 (upd d'.X a (.slice A l c) q) n _
     by_cases e : q = a
     ·subst e
      rw [upd_self]
      exact ((g2.step s14 (by omega)).step s5 (by omega)).step s58 (by omega)
     ·rw [upd_ne _ _ e]
      exact fr (hN.clor q (by omega)) (by omega) (by omega) (by omega) (by omega)
    ·show Vec own7 (j' + 10 + q) 1 m8 (upd d'.Y a (.slice A5 l5 c5) q) n fun b => [upd d'.Z a Z5 q b]
     by_cases e : q = a
     ·subst e
      rw [upd_self, upd_self]
      exact hv5.step s58 (by omega)
     ·rw [upd_ne _ _ e, upd_ne _ _ e]
      exact fr (hN.undr q (by omega)) (by omega) (by omega) (by omega) (by omega)
    ·show Vec own7 (j' + 15 + 5 * q + b) 1 m8 (upd d'.Z a Z5 q b) _ _
     by_cases e : q = a
     ·subst e
      rw [upd_self]
      exact (hq5 b hb).step s58 (by omega)
     ·rw [upd_ne _ _ e]
      exact fr (hN.undl q b (by omega) hb) (by omega) (by omega) (by omega) (by omega)
   have s48 : Step (fun t => t = tb ∨ (j' ≤ t ∧ t < j' + 40)) own m own7 m8 := (s04.mono fun t ht => by omega).trans ((s5.mono fun t ht => by omega).trans (s58.mono fun t ht => by omega))
   obtain ⟨own', m', d'', q1, q2, q3, q4⟩ := loop94c z hz x0 x3 x8 h5 hj' hjj htb hb10 hlen w (a + 1) own7 m8 _ (by omega) (by omega) hO7 (Nat.le_trans hbm s48.len) (h.step s48 h5 (fun t ht => by omega)) (s48.cell h3 (by rw [ht]; omega)) (s48.cell h4 (by rw [ht]; omega)) ((s48.tg b9 (mcell_lt h4)).trans ht) hN8
   refine ⟨own', m', d'', fun kp kx => ?_, q2, s48.trans q3, q4⟩
   have c13 : mcell m b10 3 = some d'.xv := hN.c3
   have c45 := c04 (by omega) hN.c4
   rw [r94_L6_s, gfd f140_3, k1s, gld1 a84, Nat.zero_add, h3, k1s, h.clo.lst.len i84, k2s, lssN, k1s, decide_eq_true hlt, kbt, gfd f140_3, k1s, gld1 a84, Nat.zero_add, c13, k1s, k1s, gld1 a84, h3, k1s, h.clo.ld hlt s84 a86, g1, hy, kB_push, kcs, ← hy, gb84g, k2s, vapp p84, p1, k2s, k1s, hst4, kss, i0]
   refine (r1 _ _).trans ?_
   rw [gfd f140_4, k1s, gld1 a60, Nat.zero_add, c45, k1s, gb60g, k2s, vapp p60, u1, k2s, k1s, hst8, kss, add1 3 _ (by omega), k1s]
   exact q1 kp kx
  ·obtain rfl : a = n := by omega
   refine ⟨own, m, d', fun kp kx => ?_, hO, Step.refl _ _ _, hN⟩
   rw [r94_L6_s, gfd f140_3, k1s, gld1 a84, Nat.zero_add, h3, k1s, h.clo.lst.len i84, k2s, lssN, k1s, decide_eq_false hlt, kbf]
end
end Go.AM
namespace Go.AM
open Go Go.Proofs
theorem g140 : aggk 140 5 = true := by kernel_rfl
theorem z140 : szk 140 5 = true := by kernel_rfl
theorem al140 (m : M) : xalloc E.P m 140 = some (pt m.length 0, m ++ [cellR [nilS, nilS, nilS, nilS, nilS]]) := by
 have e : xalloc E.P m 140 = xlen m fun n => xpush m (cellR [nilS, nilS, nilS, nilS, nilS]) fun m' => some (pt n 0, m') := by kernel_rfl
 rw [e, xlen_eq, fNat_eq, xpush_eq, fList_eq]
theorem bl140 (a b c : Option Addr) (i1 i2 i3 j1 j2 j3 : Nat) : mbuild E.P 140 [(0, .slice a i1 j1), (1, .slice b i2 j2), (2, .slice c i3 j3)] = some (.agg #[.slice a i1 j1, .slice b i2 j2, .slice c i3 j3, nilS, nilS]) := by kernel_rfl
def spC (d : SP) : List Value := [d.rv, d.pv, d.ev, d.xv, d.uv]
theorem gb94 (m : M) (a b c d e : Option Addr) (i1 i2 i3 i4 i5 j1 j2 j3 j4 j5 : Nat) : xbuildSlice E.P m 94 1 [(0, .agg #[.slice a i1 j1, .slice b i2 j2, .slice c i3 j3, .slice d i4 j4, .slice e i5 j5])] = some (sl m.length 1, m ++ [rowz 5 true [.slice a i1 j1, .slice b i2 j2, .slice c i3 j3, .slice d i4 j4, .slice e i5 j5]]) := by
 have h : xbuildSlice E.P m 94 1 [(0, .agg #[.slice a i1 j1, .slice b i2 j2, .slice c i3 j3, .slice d i4 j4, .slice e i5 j5])] = xlen m fun n => xpush m (rowz 5 true [.slice a i1 j1, .slice b i2 j2, .slice c i3 j3, .slice d i4 j4, .slice e i5 j5]) fun m' => some (sl n 1, m') := by kernel_rfl
 rw [h, xlen_eq, fNat_eq, xpush_eq, fList_eq]
theorem RShot.slices {own : Nat → Nat} {j : Nat} {m : M} {n : Nat} {d : SP} {r : Nat → Rc} (h : RShot own j m n d r) : (∃ a l c, d.rv = .slice a l c) ∧ (∃ a l c, d.pv = .slice a l c) ∧ (∃ a l c, d.ev = .slice a l c) ∧ (∃ a l c, d.xv = .slice a l c) ∧ (∃ a l c, d.uv = .slice a l c) := ⟨h.made.isSlo, h.pie.isSlo, h.evn.isSlo, h.clo.isSlo, h.und.isSlo⟩
theorem box140 {own : Nat → Nat} {j : Nat} {m m' : M} {n base : Nat} {d : SP} {r : Nat → Rc} (h : RShot own j m n d r) (hb : base ≤ m'.length) (K : Value → M → Res2) : (k2 (xalloc E.P m' 140) fun v m => ks (xstore E.P base m 140 v (.agg #[d.rv, d.pv, d.ev, d.xv, d.uv])) fun m => K v m) = K (pt m'.length 0) (m' ++ [cellR (spC d)]) := by
 obtain ⟨⟨a1, b1, c1, e1⟩, ⟨a2, b2, c2, e2⟩, ⟨a3, b3, c3, e3⟩, ⟨a4, b4, c4, e4⟩, ⟨a5, b5, c5, e5⟩⟩ := h.slices
 unfold spC
 rw [e1, e2, e3, e4, e5, al140, k2s]
 have := gstk (t := 140) (k := 5) z140 (l := [.slice a1 b1 c1, .slice a2 b2 c2, .slice a3 b3 c3, .slice a4 b4 c4, .slice a5 b5 c5]) rfl rfl (off := 0) hb (Hd_new m' 0 true [nilS, nilS, nilS, nilS, nilS]) (by simp)
 rw [mwr_new m' 0 true [nilS, nilS, nilS, nilS, nilS] [.slice a1 b1 c1, .slice a2 b2 c2, .slice a3 b3 c3, .slice a4 b4 c4, .slice a5 b5 c5] rfl] at this
 rw [this, kss]
end Go.AM
namespace Go.AM
open Go Go.Proofs
section
variable {base k k' p p' : Nat} {d : RP} {s : Nt}
theorem z94 : szk 94 1 = true := by kernel_rfl
theorem Ref.shots_ {own : Nat → Nat} {m : M} (h : Ref own k m p d s) (K : Value → Res2) : (k1n (mnil (pt p 0)) fun a => k1n (mfieldAddr E.P 96 a 4) fun a => k1n (xload E.P m 94 a) K) = K d.sv := by
 rw [mnil_pt, k1s, gfd f96_4, k1s, gld1 a94, Nat.zero_add, h.c4, k1s]
theorem loop94e (z : Nat) (hz : 100 ≤ z) (hk' : 3000 ≤ k') (hkk : k' + 400 ≤ k ∨ k + 400 ≤ k') (hlen : ∀ i t f, ((s.sh i t).hrd f).length ≤ 1000) (hb' : base ≤ p') :
  ∀ (w i : Nat) (own : Nat → Nat) (m : M) (sv' : Value) (S' : Nat → SP), i ≤ s.ns → s.ns + 1 ≤ w + i → Own base own → base ≤ m.length → Ref own k m p d s → Hd m p' 0 true 5 → own p' = k' → mcell m p' 4 = some sv' → Vec own (k' + 51) 5 m sv' i (fun q => spC (S' q)) → (∀ q, q < i → RShot own (k' + 60 + 40 * q) m s.n (S' q) (s.sh q)) →
   ∃ own' m' sv'', ∃ S'' : Nat → SP, (∀ kp kx, r94_L4 (rt (z + 1)) (z + 1) base kp kx w (pt p 0) (pt p' 0) (vi i) m = kx (pt p' 0) m') ∧ Own base own' ∧ Step (fun t => t = k' ∨ (k' + 51 ≤ t ∧ t < k' + 400)) own m own' m' ∧ Hd m' p' 0 true 5 ∧ own' p' = k' ∧ mcell m' p' 4 = some sv'' ∧ Vec own' (k' + 51) 5 m' sv'' s.ns (fun q => spC (S'' q)) ∧ (∀ q, q < s.ns → RShot own' (k' + 60 + 40 * q) m' s.n (S'' q) (s.sh q)) ∧ ∀ c, c < 4 → mcell m' p' c = mcell m p' c
 | 0, i, own, m, sv', S', hi, hw, hO, hbm, h, hd, tg, c4, hv, hS => by omega
 | w + 1, i, own, m, sv', S', hi, hw, hO, hbm, h, hd, tg, c4, hv, hS => by
  have n5 := h.n5
  have n8 := h.ns8
  by_cases hlt : i < s.ns
  ·obtain ⟨pp, off, e, _, _, hc⟩ := h.sho.lst.ix s94 hlt
   have hld : xload E.P m 140 (pt pp off) = some (.agg #[(d.S i).rv, (d.S i).pv, (d.S i).ev, (d.S i).xv, (d.S i).uv]) := gldk g140 hc rfl (by simp)
   let m1 : M := m ++ [cellR (spC (d.S i))]
   let own1 := upd own m.length 0
   have s1 : ∀ T : Nat → Prop, Step T own m own1 m1 := fun T => Step.push T _ _ _ _
   have hm1 : m1.length = m.length + 1 := by simp [m1]
   have hO1 : Own base own1 := hO.upd hbm 0
   have tg9 : own1 m.length = 0 := upd_self _ _ _
   have hc9 := Cs_new m 0 true (spC (d.S i))
   have h1 := h.step (s1 fun _ => False) (fun _ h => h.elim)
   obtain ⟨own2, m2, rv, a1, a2, a3, a4, y2, hy2⟩ := t113 z (h1.sh i hlt).made (by omega) (k' + 60 + 40 * i)
   have h2 := h1.step (a3 fun _ => False) (fun _ h => h.elim)
   have hl2 := (a3 fun _ => False).len
   obtain ⟨own3, m3, pv, b1, b2, b3, b4, y3, hy3⟩ := t96 z (h2.sh i hlt).pie (by omega) (k' + 60 + 40 * i + 1)
   have h3 := h2.step (b3 fun _ => False) (fun _ h => h.elim)
   have hl3 := (b3 fun _ => False).len
   obtain ⟨own4, m4, ev, d1, d2, d3, d4, y4, hy4⟩ := t96 z (h3.sh i hlt).evn (by omega) (k' + 60 + 40 * i + 2)
   have h4 := h3.step (d3 fun _ => False) (fun _ h => h.elim)
   have hl4 := (d3 fun _ => False).len
   have s14 : ∀ T : Nat → Prop, Step T own1 m1 own4 m4 := fun T => (a3 T).trans ((b3 T).trans (d3 T))
   have hO4 : Own base own4 := d4 base (by omega) (b4 base (by omega) (a4 base (by omega) hO1))
   obtain ⟨A1, i1, j1, rfl⟩ := a2.isSlo
   obtain ⟨A2, i2, j2, rfl⟩ := b2.isSlo
   obtain ⟨A3, i3, j3, rfl⟩ := d2.isSlo
   let m5 : M := m4 ++ [cellR [.slice A1 i1 j1, .slice A2 i2 j2, .slice A3 i3 j3, nilS, nilS]]
   let own5 := upd own4 m4.length (k' + 59)
   have s5 : ∀ T : Nat → Prop, Step T own4 m4 own5 m5 := fun T => Step.push T _ _ _ _
   have hm5 : m5.length = m4.length + 1 := by simp [m5]
   have hO5 : Own base own5 := hO4.upd (by omega) _
   have hc10 := Cs_new m4 0 true [.slice A1 i1 j1, .slice A2 i2 j2, .slice A3 i3 j3, nilS, nilS]
   have hst5 : xstore E.P base (m4 ++ [cellR [nilS, nilS, nilS, nilS, nilS]]) 140 (pt m4.length 0) (.agg #[.slice A1 i1 j1, .slice A2 i2 j2, .slice A3 i3 j3, nilS, nilS]) = some m5 := by
    have := gstk (t := 140) (k := 5) z140 (l := [.slice A1 i1 j1, .slice A2 i2 j2, .slice A3 i3 j3, nilS, nilS]) rfl rfl (off := 0) (base := base) (by omega) (Hd_new m4 0 true [nilS, nilS, nilS, nilS, nilS]) (by simp)
    rw [mwr_new m4 0 true [nilS, nilS, nilS, nilS, nilS] [.slice A1 i1 j1, .slice A2 i2 j2, .slice A3 i3 j3, nilS, nilS] rfl] at this
    exact this
   have s15 : ∀ T : Nat → Prop, Step T own1 m1 own5 m5 := fun T => (s14 T).trans (s5 T)
   have h5R := (h4.step (s5 fun _ => False) (fun _ h => h.elim)).sh i hlt
   have hN : NewS own5 (k' + 60 + 40 * i) (k' + 59) m5 m4.length 0 s.n (s.sh i) ⟨.slice A1 i1 j1, .slice A2 i2 j2, .slice A3 i3 j3, nilS, nilS, fun _ => nilS, fun _ => nilS, fun _ _ => nilS⟩ :=
    ⟨Hd_new m4 0 true [.slice A1 i1 j1, .slice A2 i2 j2, .slice A3 i3 j3, nilS, nilS], upd_self _ _ _, hc10 0 _ rfl, hc10 1 _ rfl, hc10 2 _ rfl, hc10 3 _ rfl, hc10 4 _ rfl, ((a2.step (b3 fun _ => False) (fun h => h)).step (d3 fun _ => False) (fun h => h)).step (s5 fun _ => False) (fun h => h), (b2.step (d3 fun _ => False) (fun h => h)).step (s5 fun _ => False) (fun h => h), d2.step (s5 fun _ => False) (fun h => h), .inl ⟨rfl, rfl⟩, fun q hq => by omega, .inl ⟨rfl, rfl⟩, fun q hq => by omega, fun q b hq => by omega⟩
   obtain ⟨own6, m6, d6, r1, hO6, s6, hN6⟩ := loop94c (base := base) (j := k + 60 + 40 * i) z hz (pt p 0) (pt p' 0) (vi i) (b9 := m.length) (b10 := m4.length) n5 (by omega) (by omega) (by omega) (by omega) (hlen i) (z + 1) 0 own5 m5 _ (by omega) (by omega) hO5 (by omega) h5R ((s15 fun _ => False).cell (hc9 3 _ rfl) (fun h => h)) ((s15 fun _ => False).cell (hc9 4 _ rfl) (fun h => h)) (((s15 fun _ => False).tg _ (by omega)).trans tg9) hN
   have s06 : Step (fun t => t = k' + 59 ∨ (k' + 60 + 40 * i ≤ t ∧ t < k' + 60 + 40 * i + 40)) own m own6 m6 := (s1 _).trans ((s15 _).trans s6)
   have hR6 := hN6.done
   obtain ⟨⟨q1, q2, q3, e1⟩, ⟨q4, q5, q6, e2⟩, ⟨q7, q8, q9, e3⟩, ⟨q10, q11, q12, e4⟩, ⟨q13, q14, q15, e5⟩⟩ := hR6.slices
   have hbm6 : base ≤ m6.length := Nat.le_trans hbm s06.len
   have hcs6 : Cs m6 m4.length 0 (spC d6) := fun q v hq => by
    match q with
    | 0 => simp [spC] at hq; subst hq; exact hN6.c0
    | 1 => simp [spC] at hq; subst hq; exact hN6.c1
    | 2 => simp [spC] at hq; subst hq; exact hN6.c2
    | 3 => simp [spC] at hq; subst hq; exact hN6.c3
    | 4 => simp [spC] at hq; subst hq; exact hN6.c4
    | q + 5 => simp [spC] at hq
   have hld6 : xload E.P m6 140 (pt m4.length 0) = some (.agg #[d6.rv, d6.pv, d6.ev, d6.xv, d6.uv]) := gldk g140 hcs6 rfl (by simp [spC])
   have tg6 : own6 p' = k' := (s06.tg p' hd.lt).trans tg
   have hd6 : Hd m6 p' 0 true 5 := s06.hd hd (by rw [tg]; omega)
   have c46 : mcell m6 p' 4 = some sv' := s06.cell c4 (by rw [tg]; omega)
   let m7 : M := m6 ++ [rowz 5 true (spC d6)]
   let own7 := upd own6 m6.length 0
   have s7 : ∀ T : Nat → Prop, Step T own6 m6 own7 m7 := fun T => Step.push T _ _ _ _
   have hO7 : Own base own7 := hO6.upd hbm6 0
   have hm7 : m7.length = m6.length + 1 := by simp [m7]
   have hall : (spC d6).all (·.oneCell') = true := by unfold spC; rw [e1, e2, e3, e4, e5]; rfl
   obtain ⟨m8, u1, u2, s8, hm8⟩ := ((hv.step s06 (by omega)).step (s7 fun _ => False) (fun h => h)).add hO7 (by omega) (by omega) (src1 (m := m6) (z := 5) (c := spC d6) rfl (by omega)) rfl hall (by omega)
   let own8 := upd own7 m7.length (k' + 51)
   have hO8 : Own base own8 := hO7.upd (by omega) _
   have s68 : Step (· = k' + 51) own6 m6 own8 m8 := (s7 _).trans s8
   have hd8 : Hd m8 p' 0 true 5 := s68.hd hd6 (by rw [tg6]; omega)
   have tg8 : own8 p' = k' := (s68.tg p' hd6.lt).trans tg6
   let m9 : M := mwr m8 p' 4 [sl m7.length (i + 1)]
   have s9 : Step (· = k') own8 m8 own8 m9 := Step.wr (T := (· = k')) tg8 _ _
   have hst9 : xstore E.P base m8 94 (pt p' 4) (sl m7.length (i + 1)) = some m9 := gstS z94 hb' hd8 (by omega) _ _ _
   have s69 : Step (fun t => t = k' ∨ t = k' + 51) own6 m6 own8 m9 := (s68.mono fun t ht => .inr ht).trans (s9.mono fun t ht => .inl ht)
   have s09 : Step (fun t => t = k' ∨ (k' + 51 ≤ t ∧ t < k' + 400)) own m own8 m9 := (s06.mono fun t ht => by omega).trans (s69.mono fun t ht => by omega)
   have hcell : ∀ c, c < 4 → mcell m9 p' c = mcell m p' c := fun c hc => by
    show mcell (mwr m8 p' 4 [sl m7.length (i + 1)]) p' c = _
    rw [mwr_out (by simp; omega), mcell_congr (s68.keep p' hd6.lt (by rw [tg6]; omega)), mcell_congr (s06.keep p' hd.lt (by rw [tg]; omega))]
   obtain ⟨own', m', sv'', S'', t1, t2, t3, t4, t5, t6, t7, t8, t9⟩ := loop94e z hz hk' hkk hlen hb' w (i + 1) own8 m9 (sl m7.length (i + 1)) (upd S' i d6) (by omega) (by omega) hO8 (Nat.le_trans hbm s09.len) (h.step s09 (fun t ht => by omega)) (mwr_hd hd8) tg8 (mwr_in (vs := [sl m7.length (i + 1)]) hd8 (by simp)).cell ((u2 (fun q => spC (upd S' i d6 q)) (fun q hq => by rw [upd_ne _ _ (by omega)]) (by rw [upd_self])).step s9 (by omega)) (fun q hq => by
    by_cases eq : q = i
    ·subst eq
     rw [upd_self]
     exact hR6.step s69 n5 (fun t ht => by omega)
    ·rw [upd_ne _ _ eq]
     exact ((hS q (by omega)).step s06 n5 (fun t ht => by omega)).step s69 n5 (fun t ht => by omega))
   refine ⟨own', m', sv'', S'', fun kp kx => ?_, t2, s09.trans t3, t4, t5, t6, t7, t8, fun c hc => by rw [t9 c hc, hcell c hc]⟩
   have k0 := (hc9 0 _ rfl)
   have k1' : mcell m2 m.length 1 = some (d.S i).pv := (a3 fun _ => False).cell (hc9 1 _ rfl) (fun h => h)
   have k2' : mcell m3 m.length 2 = some (d.S i).ev := (b3 fun _ => False).cell ((a3 fun _ => False).cell (hc9 2 _ rfl) (fun h => h)) (fun h => h)
   have hgb : xbuildSlice E.P m6 94 1 [(0, .agg #[d6.rv, d6.pv, d6.ev, d6.xv, d6.uv])] = some (sl m6.length 1, m7) := by
    show _ = some (sl m6.length 1, m6 ++ [rowz 5 true (spC d6)])
    unfold spC
    rw [e1, e2, e3, e4, e5]
    exact gb94 _ _ _ _ _ _ _ _ _ _ _ _ _ _ _ _
   rw [r94_L4_s, h.shots_, h.sho.lst.len i94, k2s, lssN, k1s, decide_eq_true hlt, kbt, h.shots_, e, k1s, hld, k1s, box140 (h.sh i hlt) hbm, gfd f140_0, k1s, gld1 a86, Nat.zero_add, k0, k1s, a1, hy2, kB_push, kcs, ← hy2, gfd f140_1, k1s, gld1 a22, Nat.zero_add, k1', k1s, b1, hy3, kB_push, kcs, ← hy3, gfd f140_2, k1s, gld1 a22, Nat.zero_add, k2', k1s, d1, hy4, kB_push, kcs, ← hy4, bl140, k1s, al140, k2s, hst5, kss, i0]
   refine (r1 _ _).trans ?_
   rw [mnil_pt, k1s, gfd f96_4, k1s, gld1 a94, Nat.zero_add, c46, k1s, hld6, k1s, hgb, k2s, vapp p94, u1, k2s, k1s, gfd f96_4, k1s, Nat.zero_add, hst9, kss, add1 3 _ (by omega), k1s]
   exact t1 kp kx
  ·obtain rfl : i = s.ns := by omega
   refine ⟨own, m, sv', S', fun kp kx => ?_, hO, Step.refl _ _ _, hd, tg, c4, hv, hS, fun _ _ => rfl⟩
   rw [r94_L4_s, h.shots_, h.sho.lst.len i94, k2s, lssN, k1s, decide_eq_false hlt, kbf]
end
end Go.AM
namespace Go.AM
open Go Go.Proofs
theorem bl96 (A : Option Addr) (l c : Nat) : mbuild E.P 96 [(0, .slice A l c)] = some (.agg #[.slice A l c, nilS, nilS, nilS, nilS]) := by kernel_rfl
theorem bx96 (m : M) (A : Option Addr) (l c : Nat) : xbox m (.agg #[.slice A l c, nilS, nilS, nilS, nilS]) = some (pt m.length 0, m ++ [cellR [.slice A l c, nilS, nilS, nilS, nilS]]) := by
 have e : xbox m (.agg #[.slice A l c, nilS, nilS, nilS, nilS]) = xlen m fun k => xpush m (cellR [.slice A l c, nilS, nilS, nilS, nilS]) fun m' => some (pt k 0, m') := by kernel_rfl
 rw [e, xlen_eq, fNat_eq, xpush_eq, fList_eq]
section
variable {own : Nat → Nat} {m : M} {base k k' p : Nat} {d : RP} {s : Nt}
theorem t94 (z : Nat) (hz : 100 ≤ z) (hk' : 3000 ≤ k') (hkk : k' + 400 ≤ k ∨ k + 400 ≤ k') (hcl : ∀ a b, (s.ch a b).length ≤ 1000) (hle : s.evs.length ≤ 1000) (hlen : ∀ i t f, ((s.sh i t).hrd f).length ≤ 1000) (hO : Own base own) (hbm : base ≤ m.length) (h : Ref own k m p d s) :
  ∃ own' m' p' d', rt (z + 2) base 94 [pt p 0] m = some (.ret (pt p' 0), m') ∧ Own base own' ∧ Step (fun t => k' ≤ t ∧ t < k' + 400) own m own' m' ∧ Ref own' k' m' p' d' s := by
 have n5 := h.n5
 have n8 := h.ns8
 rw [rt_imp (f := 94) (rf := rf94) (by kernel_rfl) (by kernel_rfl) (by kernel_rfl)]
 show ∃ own' m' p' d', r94 (rt (z + 1)) (z + 1) base (pt p 0) m = _ ∧ _
 obtain ⟨own1, m1, hp, a1, a2, a3, a4, y1, hy1⟩ := t96 z h.held (by omega) (k' + 1)
 have hl1 := (a3 fun _ => False).len
 have hO1 := a4 base hbm hO
 obtain ⟨A, l, c, rfl⟩ := a2.isSlo
 let m2 : M := m1 ++ [cellR [.slice A l c, nilS, nilS, nilS, nilS]]
 let own2 := upd own1 m1.length k'
 have s2 : ∀ T : Nat → Prop, Step T own1 m1 own2 m2 := fun T => Step.push T _ _ _ _
 have hm2 : m2.length = m1.length + 1 := by simp [m2]
 have hO2 : Own base own2 := hO1.upd (by omega) _
 have hc := Cs_new m1 0 true [.slice A l c, nilS, nilS, nilS, nilS]
 have s02 : ∀ T : Nat → Prop, Step T own m own2 m2 := fun T => (a3 T).trans (s2 T)
 have h2 := h.step (s02 fun _ => False) (fun _ h => h.elim)
 have hN : NewR own2 k' m2 m1.length 0 s d.K (.slice A l c) nilS nilS (fun _ => nilS) (fun _ => nilS) (fun _ _ => nilS) :=
  ⟨Hd_new m1 0 true [.slice A l c, nilS, nilS, nilS, nilS], upd_self _ _ _, hc 0 _ rfl, hc 1 _ rfl, hc 2 _ rfl, hc 3 _ rfl, hc 4 _ rfl, a2.step (s2 fun _ => False) (fun h => h), .inl ⟨rfl, rfl⟩, fun q hq => by omega, .inl ⟨rfl, rfl⟩, fun q hq => by omega, fun q b hq => by omega⟩
 obtain ⟨own3, m3, cv, lv, C, L, Q, r1, hO3, s3, hN3⟩ := loop94a (base := base) (p := p) (p' := m1.length) z hz hk' hkk hcl (by omega) (z + 1) 0 own2 m2 _ _ _ _ _ _ (by omega) (by omega) hO2 (by omega) h2 hN
 have h3 := h2.step s3 (fun t ht => by omega)
 have hl3 := s3.len
 obtain ⟨U, hV, hU⟩ := h3.don
 obtain ⟨own4, m4, dv, d1, d2, d3, d4, y4, hy4⟩ := app_copy hV (by omega) (by omega) (k' + 50)
 have hl4 := (d3 fun _ => False).len
 have hO4 := d4 base (by omega) hO3
 obtain ⟨A4, l4, c4, rfl⟩ := d2.isSlo
 have hd4 : Hd m4 m1.length 0 true 5 := (d3 fun _ => False).hd hN3.hd (fun h => h)
 have tg4 : own4 m1.length = k' := ((d3 fun _ => False).tg _ hN3.hd.lt).trans hN3.tg
 let m5 : M := mwr m4 m1.length 3 [.slice A4 l4 c4]
 have s5 : Step (· = k') own4 m4 own4 m5 := Step.wr (T := (· = k')) tg4 _ _
 have hm5 : m5.length = m4.length := mwr_len _ _ _ _
 have hst5 : xstore E.P base m4 45 (pt m1.length 3) (.slice A4 l4 c4) = some m5 := gstS (by kernel_rfl) (by omega) hd4 (by omega) _ _ _
 have s35 : Step (· = k') own3 m3 own4 m5 := (d3 _).trans s5
 have h5 := h3.step s35 (fun t ht => by omega)
 have cc : ∀ {i : Nat} {x : Value}, i ≠ 3 → mcell m3 m1.length i = some x → mcell m5 m1.length i = some x := fun {i x} hi hx => by
  show mcell (mwr m4 m1.length 3 [.slice A4 l4 c4]) m1.length i = some x
  rw [mwr_out (by simp; omega)]
  exact (d3 fun _ => False).cell hx (fun h => h)
 obtain ⟨own6, m6, sv, S, t1, hO6, s6, hd6, tg6, c46, hsv, hS, hcell⟩ := loop94e (base := base) (p := p) (p' := m1.length) z hz hk' hkk hlen (by omega) (z + 1) 0 own4 m5 nilS (fun _ => ⟨nilS, nilS, nilS, nilS, nilS, fun _ => nilS, fun _ => nilS, fun _ _ => nilS⟩) (by omega) (by omega) hO4 (by omega) h5 (mwr_hd hd4) tg4 (cc (by omega) hN3.c4) (.inl ⟨rfl, rfl⟩) (fun q hq => by omega)
 have s36 : Step (fun t => t = k' ∨ (k' + 51 ≤ t ∧ t < k' + 400)) own3 m3 own6 m6 := (s35.mono fun t ht => .inl ht).trans s6
 have s46 : Step (fun t => t = k' ∨ (k' + 51 ≤ t ∧ t < k' + 400)) own4 m4 own6 m6 := (s5.mono fun t ht => .inl ht).trans s6
 refine ⟨own6, m6, m1.length, ⟨.slice A l c, cv, C, lv, L, Q, d.K, .slice A4 l4 c4, sv, S⟩, ?_, hO6, (s02 _).trans ((s3.mono fun t ht => by omega).trans (s36.mono fun t ht => by omega)), ?_⟩
 ·have c33 : mcell m3 m1.length 3 = some nilS := hN3.c3
  have hdv : mcell m3 p 3 = some d.dv := h3.c3
  unfold r94
  rw [k1_fun, vcall_fun, fVal_fun, h.held_, a1, kcs, bl96, k1s, bx96, k2s, i0]
  refine (r1 _).trans ?_
  rw [mnil_pt, k1s, gfd f96_3, k1s, gld1 a45, Nat.zero_add, c33, k1s, mnil_pt, k1s, gfd f96_3, k1s, gld1 a45, Nat.zero_add, hdv, k1s, vapp p45, d1, k2s, k1s, gfd f96_3, k1s, Nat.zero_add, hst5, kss]
  refine (t1 _ _).trans ?_
  rfl
 ·refine ⟨hk', h.n2, h.n5, h.ns8, hd6, tg6, (hcell 0 (by omega)).trans (cc (by omega) hN3.c0), (hcell 1 (by omega)).trans (cc (by omega) hN3.c1), (hcell 2 (by omega)).trans (cc (by omega) hN3.c2), (hcell 3 (by omega)).trans ((mwr_in (vs := [.slice A4 l4 c4]) hd4 (by simp)).cell), c46, hN3.held.step s36 (by omega), hN3.clk.step s36 (by omega), fun a ha => (hN3.clkr a ha).step s36 (by omega), hN3.lin.step s36 (by omega), fun a ha => (hN3.linr a ha).step s36 (by omega), fun a b ha hb => (hN3.msg a b ha hb).step s36 (by omega), fun a b i ha hb hi => (h3.msk a b i ha hb hi).step s36 (by omega), ⟨U, d2.step s46 (by omega), fun i hi => Lst.step (hU i hi) s36 (by omega)⟩, hsv, hS⟩
end
end Go.AM
namespace Go.AM
open Go Go.Proofs
theorem z45_ : szk 45 1 = true := by kernel_rfl
theorem bl72s (a b c x : Int) (A : Option Addr) (l cc : Nat) : mbuild E.P 72 [(0, vi a), (1, vi b), (2, vi c), (3, vi x), (4, .slice A l cc)] = some (.agg #[vi a, vi b, vi c, vi x, .slice A l cc]) := by kernel_rfl
section
variable {own : Nat → Nat} {m : M} {base k p : Nat} {d : RP} {s : Nt}
theorem t95 (z : Nat) (hO : Own base own) (hbm : base ≤ m.length) (h : Ref own k m p d s) (hbp : base ≤ p) {st : Nat} (hst : st < s.n) (hck : ∀ i j, 0 ≤ s.clk i j ∧ s.clk i j ≤ 1000) (hle : s.evs.length ≤ 1000) (what other x : Int) :
  ∃ own' m' d', rt (z + 2) base 95 [pt p 0, vi st, vi what, vi other, vi x] m = some (.ret tup0, m') ∧ Own base own' ∧ Step (fun t => k ≤ t ∧ t < k + 400) own m own' m' ∧ Ref own' k m' p d' (tickS s st what other x) := by
 have n5 := h.n5
 have hk0 := h.k0
 have hc := hck st st
 obtain ⟨m1, w1, w2, w3⟩ := (h.clkr st hst).set1 (base := base) hO (by omega) s22 z3 hst (x := vi (s.clk st st + 1)) rfl rfl
 have hwr : wr (s.clk st st + ((1 : Nat) : Int)) = s.clk st st + 1 := wr_id (by omega) (by omega)
 have hC1 : Vec own (k + 3 + st) 1 m1 (d.C st) s.n fun b => [vi (upd (s.clk st) st (s.clk st st + 1) b)] := w2.congr fun b _ => by
  by_cases e : b = st
  ·subst e; rw [upd_self, upd_self]
  ·rw [upd_ne _ _ e, upd_ne _ _ e]
 have tgp : own p = k := h.tg
 have c31 : mcell m1 p 3 = some d.dv := w3.cell h.c3 (by rw [tgp]; omega)
 have c11 : mcell m1 p 1 = some d.cv := w3.cell h.c1 (by rw [tgp]; omega)
 have hclk1 := h.clk.step w3 (by omega)
 obtain ⟨own2, m2, cq, a1, a2, a3, a4, y, hy⟩ := t96 z hC1 (by omega) 0
 have hl2 := (a3 fun _ => False).len
 have hO2 := a4 base (Nat.le_trans hbm w3.len) hO
 have hbm2 : base ≤ m2.length := Nat.le_trans (Nat.le_trans hbm w3.len) hl2
 obtain ⟨A, l, c, rfl⟩ := a2.isSlo
 let e : Evt := ⟨st, what, other, x, clkL s.n (upd (s.clk st) st (s.clk st st + 1))⟩
 have hNe : Nums own2 0 m2 (.slice A l c) e.clk := by
  have := a2.lst.congr (C' := fun i => [vi (nth (clkL s.n (upd (s.clk st) st (s.clk st st + 1))) i)]) (fun i hi => by rw [nth_clkL hi])
  unfold Nums
  show Lst own2 0 1 m2 _ (clkL s.n (upd (s.clk st) st (s.clk st st + 1))).length _
  rw [clkL_len]
  exact this
 let m3 : M := m2 ++ [rowz 5 true (evC e (.slice A l c))]
 let own3 := upd own2 m2.length 0
 have s3 : ∀ T : Nat → Prop, Step T own2 m2 own3 m3 := fun T => Step.push T _ _ _ _
 have hO3 : Own base own3 := hO2.upd hbm2 0
 have hm3 : m3.length = m2.length + 1 := by simp [m3]
 obtain ⟨U, hV, hU⟩ := h.don
 obtain ⟨m4, u1, u2, s4, hm4⟩ := (((hV.step w3 (by omega)).step (a3 fun _ => False) (fun h => h)).step (s3 fun _ => False) (fun h => h)).add hO3 (by omega) (by omega) (src1 (m := m2) (z := 5) (c := evC e (.slice A l c)) rfl (by omega)) rfl rfl (by omega)
 let own4 := upd own3 m3.length (k + 42 + 8)
 have hO4 : Own base own4 := hO3.upd (by omega) _
 have s14 : Step (· = k + 42 + 8) own m1 own4 m4 := (a3 _).trans ((s3 _).trans s4)
 have s24 : Step (· = k + 42 + 8) own2 m2 own4 m4 := (s3 _).trans s4
 have hd1 : Hd m1 p 0 true 5 := w3.hd h.hd (by rw [tgp]; omega)
 have hd4 : Hd m4 p 0 true 5 := s14.hd hd1 (by rw [tgp]; omega)
 have tg4 : own4 p = k := (s14.tg p hd1.lt).trans tgp
 let m5 : M := mwr m4 p 3 [sl m3.length (s.evs.length + 1)]
 have s5 : Step (· = k) own4 m4 own4 m5 := Step.wr (T := (· = k)) tg4 _ _
 have hst5 : xstore E.P base m4 45 (pt p 3) (sl m3.length (s.evs.length + 1)) = some m5 := gstS z45_ hbp hd4 (by omega) _ _ _
 have s45 : Step (fun t => t = k ∨ t = k + 50) own m1 own4 m5 := (s14.mono fun t ht => by omega).trans (s5.mono fun t ht => by omega)
 have s05 : Step (fun t => t = k ∨ t = k + 50 ∨ t = k + 3 + st) own m own4 m5 := (w3.mono fun t ht => by omega).trans (s45.mono fun t ht => by omega)
 have cc : ∀ {i : Nat} {v : Value}, i ≠ 3 → mcell m p i = some v → mcell m5 p i = some v := fun {i v} hi hx => by
  show mcell (mwr m4 p 3 [sl m3.length (s.evs.length + 1)]) p i = some v
  rw [mwr_out (by simp; omega)]
  exact s14.cell (w3.cell hx (by rw [tgp]; omega)) (by rw [tgp]; omega)
 refine ⟨own4, m5, { d with dv := sl m3.length (s.evs.length + 1) }, ?_, hO4, s05.mono fun t ht => by omega, ?_⟩
 ·rw [rt_imp (f := 95) (rf := rf95) (by kernel_rfl) (by kernel_rfl) (by kernel_rfl)]
  show r95 (rt (z + 1)) (z + 1) base (pt p 0) (vi st) (vi what) (vi other) (vi x) m = _
  have hu1 : vcalln E.P base m3 .append [45, 45] [d.dv, sl m2.length 1] = some (sl m3.length (s.evs.length + 1), m4) := by rw [vapp p45]; exact u1
  have hgb : xbuildSlice E.P m2 45 1 [(0, .agg #[vi st, vi what, vi other, vi x, .slice A l c])] = some (sl m2.length 1, m3) := gb45 m2 e A l c
  unfold r95
  rw [k1_fun, vcall_fun, h.clocks_, h.clk.ld hst s80 a22, (h.clkr st hst).ld hst s22 Go.AM.a3, i1, addI, k1s, hwr, w1, mnil_pt, k1s, gfd f96_3, k1s, gld1 a45, Nat.zero_add, c31, k1s, k1s, gfd f96_1, k1s, gld1 a80, Nat.zero_add, c11, k1s, hclk1.ld hst s80 a22, a1, hy, kB_push, kcs, ← hy, bl72s, k1s, hgb, k2s, hu1, k2s, k1s, gfd f96_3, k1s, Nat.zero_add, hst5, kss]
 ·have hlen : (tickS s st what other x).evs.length = s.evs.length + 1 := by show (s.evs ++ [_]).length = _; simp
  refine ⟨h.k0, h.n2, h.n5, h.ns8, mwr_hd hd4, tg4, cc (by omega) h.c0, cc (by omega) h.c1, cc (by omega) h.c2, (mwr_in (vs := [sl m3.length (s.evs.length + 1)]) hd4 (by simp)).cell, cc (by omega) h.c4, h.held.step s05 (by omega), h.clk.step s05 (by omega), fun a ha => ?_, h.lin.step s05 (by omega), fun a ha => (h.linr a ha).step s05 (by have h1 : a < s.n := ha; omega), fun a b ha hb => (h.msg a b ha hb).step s05 (by have h1 : a < s.n := ha; have h2 : b < s.n := hb; omega), fun a b i ha hb hi => (h.msk a b i ha hb hi).step s05 (by omega), ⟨upd U s.evs.length (.slice A l c), ?_, fun i hi => ?_⟩, h.sho.step s05 (by omega), fun i hi => (h.sh i hi).step s05 h.n5 (fun t ht => by omega)⟩
  ·have ha' : a < s.n := ha
   by_cases ea : a = st
   ·subst ea
    have := hC1.step s45 (by omega)
    refine this.congr fun b _ => ?_
    show _ = [vi (upd s.clk a (upd (s.clk a) a (s.clk a a + 1)) a b)]
    rw [upd_self]
   ·have := (h.clkr a ha).step s05 (by omega)
    refine this.congr fun b _ => ?_
    show _ = [vi (upd s.clk st (upd (s.clk st) st (s.clk st st + 1)) a b)]
    rw [upd_ne _ _ ea]
  ·rw [hlen]
   have := u2 (fun i => evC (evt (s.evs ++ [e]) i) (upd U s.evs.length (.slice A l c) i)) (fun i hi => by rw [evt_app hi, upd_ne _ _ (by omega)]) (by rw [evt_new, upd_self])
   exact this.step s5 (by omega)
  ·rw [hlen] at hi
   show Nums own4 0 m5 (upd U s.evs.length (.slice A l c) i) (evt (s.evs ++ [e]) i).clk
   by_cases ei : i = s.evs.length
   ·subst ei
    rw [upd_self, evt_new]
    exact Lst.step (Lst.step hNe s24 (by omega)) s5 (by omega)
   ·rw [upd_ne _ _ ei, evt_app (by omega)]
    exact Lst.step (hU i (by omega)) s05 (by omega)
end
end Go.AM
namespace Go.AM
open Go Go.Proofs
section
variable {own own' : Nat → Nat} {m m' : M} {base k p : Nat} {d : RP} {s : Nt}
theorem Ref.hbp (h : Ref own k m p d s) (hO : Own base own) : base ≤ p := hO p (by rw [h.tg]; have := h.k0; omega)
theorem Ref.hbm (h : Ref own k m p d s) (hO : Own base own) : base ≤ m.length := by
 have := h.hbp hO
 have := h.hd.lt
 omega
theorem Ref.events_ (h : Ref own k m p d s) (K : Value → Res2) : (k1n (mnil (pt p 0)) fun a => k1n (mfieldAddr E.P 96 a 3) fun a => k1n (xload E.P m 45 a) K) = K d.dv := by
 rw [mnil_pt, k1s, gfd f96_3, k1s, gld1 a45, Nat.zero_add, h.c3, k1s]
theorem Ref.dlen (h : Ref own k m p d s) (base : Nat) (m' : M) : vcalln E.P base m' .len [45] [d.dv] = some (vi s.evs.length, m') := by
 obtain ⟨U, hV, _⟩ := h.don
 exact hV.lst.len i45 base m'
theorem Ref.with_held (h : Ref own k m p d s) (st : Step (· = k + 1) own m own' m') {pcs' : Nat → Int} (hv : Vec own' (k + 1) 1 m' d.hp s.n fun i => [vi (pcs' i)]) : Ref own' k m' p d { s with pcs := pcs' } := by
 have n5 := h.n5
 have n8 := h.ns8
 have tp : ¬ (own p = k + 1) := by rw [h.tg]; omega
 exact ⟨h.k0, h.n2, h.n5, h.ns8, st.hd h.hd tp, (st.tg p h.hd.lt).trans h.tg, st.cell h.c0 tp, st.cell h.c1 tp, st.cell h.c2 tp, st.cell h.c3 tp, st.cell h.c4 tp, hv, h.clk.step st (by omega), fun a ha => (h.clkr a ha).step st (by omega), h.lin.step st (by omega), fun a ha => (h.linr a ha).step st (by omega), fun a b ha hb => (h.msg a b ha hb).step st (by omega), fun a b i ha hb hi => (h.msk a b i ha hb hi).step st (by have := h.k0; omega), h.don.step st (by omega) (by have := h.k0; omega), h.sho.step st (by omega), fun i hi => (h.sh i hi).step st h.n5 (fun t ht => by omega)⟩
theorem Ref.with_clk (h : Ref own k m p d s) {a : Nat} (ha : a < s.n) (st : Step (· = k + 3 + a) own m own' m') {c' : Nat → Int} (hv : Vec own' (k + 3 + a) 1 m' (d.C a) s.n fun i => [vi (c' i)]) : Ref own' k m' p d { s with clk := upd s.clk a c' } := by
 have n5 := h.n5
 have n8 := h.ns8
 have tp : ¬ (own p = k + 3 + a) := by rw [h.tg]; omega
 refine ⟨h.k0, h.n2, h.n5, h.ns8, st.hd h.hd tp, (st.tg p h.hd.lt).trans h.tg, st.cell h.c0 tp, st.cell h.c1 tp, st.cell h.c2 tp, st.cell h.c3 tp, st.cell h.c4 tp, h.held.step st (by omega), h.clk.step st (by omega), fun b hb => ?_, h.lin.step st (by omega), fun a' ha' => (h.linr a' ha').step st (by omega), fun a' b ha' hb => (h.msg a' b ha' hb).step st (by omega), fun a' b i ha' hb hi => (h.msk a' b i ha' hb hi).step st (by have := h.k0; omega), h.don.step st (by omega) (by have := h.k0; omega), h.sho.step st (by omega), fun i hi => (h.sh i hi).step st h.n5 (fun t ht => by omega)⟩
 have hb' : b < s.n := hb
 show Vec own' (k + 3 + b) 1 m' (d.C b) s.n fun q => [vi (upd s.clk a c' b q)]
 by_cases e : b = a
 ·subst e
  rw [upd_self]
  exact hv
 ·rw [upd_ne _ _ e]
  exact (h.clkr b hb').step st (by omega)
theorem Ref.with_msg (h : Ref own k m p d s) {a b : Nat} (ha : a < s.n) (hb : b < s.n) (st : Step (fun t => t = k + 9 + a ∨ t = k + 20 + 5 * a + b) own m own' m') {w : Value} {L : List Ms} {K' : Nat → Value} (h1 : Vec own' (k + 9 + a) 1 m' (d.L a) s.n fun y => [upd2 d.Q a b w a y]) (h2 : Vec own' (k + 20 + 5 * a + b) 2 m' w L.length (msC L K')) (h3 : ∀ i, i < L.length → MsK own' m' s.n (msAt L i) (K' i)) :
  Ref own' k m' p { d with Q := upd2 d.Q a b w, K := upd2 d.K a b K' } { s with ch := upd2 s.ch a b L } := by
 have n5 := h.n5
 have n8 := h.ns8
 have tp : ¬ (own p = k + 9 + a ∨ own p = k + 20 + 5 * a + b) := by rw [h.tg]; omega
 refine ⟨h.k0, h.n2, h.n5, h.ns8, st.hd h.hd tp, (st.tg p h.hd.lt).trans h.tg, st.cell h.c0 tp, st.cell h.c1 tp, st.cell h.c2 tp, st.cell h.c3 tp, st.cell h.c4 tp, h.held.step st (by omega), h.clk.step st (by omega), fun x hx => (h.clkr x hx).step st (by have h1 : x < s.n := hx; omega), h.lin.step st (by omega), fun x hx => ?_, fun x y hx hy => ?_, fun x y i hx hy hi => ?_, h.don.step st (by omega) (by have := h.k0; omega), h.sho.step st (by omega), fun i hi => (h.sh i hi).step st h.n5 (fun t ht => by omega)⟩
 ·have hx' : x < s.n := hx
  by_cases e : x = a
  ·subst e
   exact h1
  ·refine ((h.linr x hx').step st (by omega)).congr fun y _ => ?_
   show _ = [upd2 d.Q a b w x y]
   rw [upd2_ne _ _ (fun q => e q.1)]
 ·have hx' : x < s.n := hx
  have hy' : y < s.n := hy
  show Vec own' (k + 20 + 5 * x + y) 2 m' (upd2 d.Q a b w x y) (upd2 s.ch a b L x y).length fun i => [vi (shw (msAt (upd2 s.ch a b L x y) i)), upd2 d.K a b K' x y i]
  by_cases e : x = a ∧ y = b
  ·obtain ⟨rfl, rfl⟩ := e
   rw [upd2_self, upd2_self, upd2_self]
   exact h2
  ·rw [upd2_ne _ _ e, upd2_ne _ _ e, upd2_ne _ _ e]
   exact (h.msg x y hx' hy').step st (by omega)
 ·have hx' : x < s.n := hx
  have hy' : y < s.n := hy
  have hi' : i < (upd2 s.ch a b L x y).length := hi
  show MsK own' m' s.n (msAt (upd2 s.ch a b L x y) i) (upd2 d.K a b K' x y i)
  by_cases e : x = a ∧ y = b
  ·obtain ⟨rfl, rfl⟩ := e
   rw [upd2_self] at hi' ⊢
   rw [upd2_self]
   exact h3 i hi'
  ·rw [upd2_ne _ _ e] at hi' ⊢
   rw [upd2_ne _ _ e]
   exact (h.msk x y i hx' hy' hi').step st (by have := h.k0; omega)
theorem Ref.with_shot (h : Ref own k m p d s) {i : Nat} (hi : i < s.ns) (st : Step (fun t => k + 60 + 40 * i ≤ t ∧ t < k + 60 + 40 * i + 40) own m own' m') {r' : Nat → Rc} {D : SP} (hD : D.rv = (d.S i).rv ∧ D.pv = (d.S i).pv ∧ D.ev = (d.S i).ev ∧ D.xv = (d.S i).xv ∧ D.uv = (d.S i).uv) (hv : RShot own' (k + 60 + 40 * i) m' s.n D r') : Ref own' k m' p { d with S := upd d.S i D } { s with sh := upd s.sh i r' } := by
 have n5 := h.n5
 have n8 := h.ns8
 have tp : ¬ (k + 60 + 40 * i ≤ own p ∧ own p < k + 60 + 40 * i + 40) := by rw [h.tg]; omega
 refine ⟨h.k0, h.n2, h.n5, h.ns8, st.hd h.hd tp, (st.tg p h.hd.lt).trans h.tg, st.cell h.c0 tp, st.cell h.c1 tp, st.cell h.c2 tp, st.cell h.c3 tp, st.cell h.c4 tp, h.held.step st (by omega), h.clk.step st (by omega), fun x hx => (h.clkr x hx).step st (by have h1 : x < s.n := hx; omega), h.lin.step st (by omega), fun x hx => (h.linr x hx).step st (by have h1 : x < s.n := hx; omega), fun x y hx hy => (h.msg x y hx hy).step st (by have h1 : x < s.n := hx; have h2 : y < s.n := hy; omega), fun x y i hx hy hi => (h.msk x y i hx hy hi).step st (by omega), h.don.step st (by omega) (by omega), (h.sho.step st (by omega)).congr fun q hq => ?_, fun q hq => ?_⟩
 ·show _ = [(upd d.S i D q).rv, (upd d.S i D q).pv, (upd d.S i D q).ev, (upd d.S i D q).xv, (upd d.S i D q).uv]
  by_cases e : q = i
  ·subst e
   rw [upd_self, hD.1, hD.2.1, hD.2.2.1, hD.2.2.2.1, hD.2.2.2.2]
  ·rw [upd_ne _ _ e]
 ·show RShot own' (k + 60 + 40 * q) m' s.n (upd d.S i D q) (upd s.sh i r' q)
  have hq' : q < s.ns := hq
  by_cases e : q = i
  ·subst e
   rw [upd_self, upd_self]
   exact hv
  ·rw [upd_ne _ _ e, upd_ne _ _ e]
   exact (h.sh q hq').step st h.n5 (fun t ht => by omega)
theorem t93g (q base : Nat) (h : Ref own k m p d s) (x : Int) : rt (q + 1) base 93 [pt p 0, vi x] m = some (.ret (.bool (decide (0 ≤ x ∧ x < s.n))), m) := by
 refine rt_pure (f := 93) (rf := rf93) (by kernel_rfl) (by kernel_rfl) (by kernel_rfl) q base _ m m _ ?_ rfl
 show r93 (rt q) q m.length (pt p 0) (vi x) m = _
 unfold r93
 rw [k1_fun, vcall_fun, fVal_fun, i0, geqI, k1s]
 by_cases h1 : x ≥ ((0 : Nat) : Int)
 ·rw [decide_eq_true h1, kbt, h.held_, h.held.lst.len i22, k2s, lssI, k1s, decide_eq_decide.2 (show x < s.n ↔ 0 ≤ x ∧ x < s.n by omega)]
 ·rw [decide_eq_false h1, kbf, decide_eq_false (by omega)]
theorem t60g (q base : Nat) (h : Ref own k m p d s) (a b : Int) : rt (q + 2) base 60 [pt p 0, vi a, vi b] m = some (.ret (vi (chkF s.n a b)), m) := by
 refine rt_pure (f := 60) (rf := rf60) (by kernel_rfl) (by kernel_rfl) (by kernel_rfl) (q + 1) base _ m m _ ?_ rfl
 show r60 (rt (q + 1)) (q + 1) m.length (pt p 0) (vi a) (vi b) m = _
 unfold r60 chkF
 rw [k1_fun, fVal_fun, t93g q _ h, kcs, notB 4, k1s]
 by_cases h1 : 0 ≤ a ∧ a < s.n
 ·rw [decide_eq_true h1, Bool.not_true, kbf, t93g q _ h, kcs, notB 4, k1s]
  by_cases h3 : 0 ≤ b ∧ b < s.n
  ·rw [decide_eq_true h3, Bool.not_true, kbf, eqlI, k1s]
   by_cases h4 : a = b
   ·rw [decide_eq_true h4, kbt, if_neg (by simp [h4])]
    rfl
   ·rw [decide_eq_false h4, kbf, if_pos ⟨h1, h3, h4⟩]
    rfl
  ·rw [decide_eq_false h3, Bool.not_false, kbt, if_neg (fun h => h3 h.2.1)]
   rfl
 ·rw [decide_eq_false h1, Bool.not_false, kbt, if_neg (fun h => h1 h.1)]
  rfl
theorem Ref.set_held (hO : Own base own) (h : Ref own k m p d s) {i : Nat} (hi : i < s.n) (x : Int) :
  ∃ m', (∀ K : M → Res2, (k1n (mindexAddr E.P 22 d.hp (vi i)) fun a => ks (xstore E.P base m 3 a (vi x)) K) = K m') ∧ Ref own k m' p d { s with pcs := upd s.pcs i x } ∧ Step (· = k + 1) own m own m' := by
 obtain ⟨m1, w1, w2, w3⟩ := h.held.set1 (base := base) hO (by omega) s22 z3 hi (x := vi x) rfl rfl
 refine ⟨m1, w1, h.with_held w3 (w2.congr fun b _ => ?_), w3⟩
 by_cases e : b = i
 ·subst e; rw [upd_self, upd_self]
 ·rw [upd_ne _ _ e, upd_ne _ _ e]
end
structure RB (s : Nt) : Prop where
 cl : ∀ a b, (s.ch a b).length ≤ 1000
 le : s.evs.length ≤ 1000
 hh : ∀ i t f, ((s.sh i t).hrd f).length ≤ 1000
 ck : ∀ i j, 0 ≤ s.clk i j ∧ s.clk i j ≤ 1000
 pc : ∀ i, i < s.n → 0 ≤ s.pcs i ∧ s.pcs i ≤ 1000000000000
theorem NInv.rb {s : Nt} (h : NInv s) : RB s := by
 have L := h.lim
 have B := h.bd
 have h1 := h.le
 refine ⟨fun a b => ?_, by omega, fun i t f => ?_, fun i j => ?_, fun i hi => ?_⟩
 ·have := L.cl a b; omega
 ·have := L.hh i t f; omega
 ·have := h.ck i j; omega
 ·have := h.pc i hi; omega
abbrev refT (k' : Nat) : Nat → Prop := fun t => k' ≤ t ∧ t < k' + 400
section
variable {own : Nat → Nat} {m : M} {base k k' p : Nat} {d : RP} {s : Nt}
theorem t53g (z : Nat) (hz : 100 ≤ z) (hk' : 3000 ≤ k') (hkk : k' + 400 ≤ k ∨ k + 400 ≤ k') (B : RB s) (hO : Own base own) (h : Ref own k m p d s) (a x : Int) :
  (workE s a x ≠ 0 → rt (z + 3) base 53 [pt p 0, vi a, vi x] m = some (.ret (.tuple #[pt p 0, vi (workE s a x)]), m)) ∧
  (workE s a x = 0 → ∃ own' m' p' d', rt (z + 3) base 53 [pt p 0, vi a, vi x] m = some (.ret (.tuple #[pt p' 0, vi 0]), m') ∧ Own base own' ∧ Step (refT k') own m own' m' ∧ Ref own' k' m' p' d' (workN s a x)) := by
 have hbm := h.hbm hO
 rw [rt_imp (f := 53) (rf := rf53) (by kernel_rfl) (by kernel_rfl) (by kernel_rfl)]
 show (_ → r53 (rt (z + 2)) (z + 2) base (pt p 0) (vi a) (vi x) m = _) ∧ (_ → ∃ own' m' p' d', r53 (rt (z + 2)) (z + 2) base (pt p 0) (vi a) (vi x) m = _ ∧ _)
 unfold r53 workN workE
 rw [k1_fun, vcall_fun, t93g (z + 1) _ h, kcs, notB 4, k1s]
 by_cases h1 : 0 ≤ a ∧ a < s.n
 ·obtain ⟨A, rfl⟩ := Int.eq_ofNat_of_zero_le h1.1
  rw [decide_eq_true h1, Bool.not_true, kbf, show (.int .i64 1 : Value) = vi 1 from rfl, lssI, k1s]
  by_cases h2 : x < 1
  ·rw [decide_eq_true h2, kbt, if_neg (by omega)]
   exact ⟨fun _ => rfl, fun e => by omega⟩
  ·rw [decide_eq_false h2, kbf, show (.int .i64 1000000 : Value) = vi 1000000 from rfl, gtrI, k1s]
   by_cases h3 : x > 1000000
   ·rw [decide_eq_true h3, kbt, if_neg (by omega)]
    exact ⟨fun _ => rfl, fun e => by omega⟩
   ·rw [decide_eq_false h3, kbf, if_pos (show ((0 : Int) ≤ (A : Int) ∧ (A : Int) < (s.n : Int)) ∧ 1 ≤ x ∧ x ≤ 1000000 from ⟨h1, by omega, by omega⟩), h.events_, h.dlen, k2s, show (.int .i64 400 : Value) = vi 400 from rfl, geqI, k1s, decide_eq_decide.2 (show ((s.evs.length : Nat) : Int) ≥ 400 ↔ 400 ≤ s.evs.length by omega)]
    by_cases h4 : 400 ≤ s.evs.length
    ·rw [decide_eq_true h4, kbt, if_pos h4]
     exact ⟨fun _ => rfl, fun e => by omega⟩
    ·rw [decide_eq_false h4, kbf, if_neg h4]
     refine ⟨fun e => absurd rfl e, fun _ => ?_⟩
     have hA : A < s.n := by omega
     obtain ⟨own1, m1, p1, d1, g1, hO1, s1, hR1⟩ := t94 (base := base) z hz hk' hkk B.cl B.le B.hh hO hbm h
     have hpc := B.pc A hA
     have hw : wr (s.pcs A + x) = s.pcs A + x := wr_id (by omega) (by omega)
     obtain ⟨m2, w1, hR2, s2⟩ := hR1.set_held hO1 hA (s.pcs A + x)
     obtain ⟨own3, m3, d3, g3, hO3, s3, hR3⟩ := t95 (base := base) z hO1 (hR2.hbm hO1) hR2 (hR2.hbp hO1) (st := A) hA B.ck B.le 1 A x
     refine ⟨own3, m3, p1, d3, ?_, hO3, s1.trans ((s2.mono fun t ht => by omega).trans (s3.mono fun t ht => ht)), ?_⟩
     ·rw [g1, kcs, hR1.held_, hR1.held.ld hA s22 Go.AM.a3, addI, k1s, hw, w1, g3, kcs]
      rfl
     ·rw [if_pos rfl, Int.toNat_natCast]
      exact hR3
 ·rw [decide_eq_false h1, Bool.not_false, kbt, if_neg (by omega)]
  exact ⟨fun _ => rfl, fun e => by omega⟩
end
end Go.AM
namespace Go.AM
open Go Go.Proofs
theorem gb107 (m : M) (x : Int) (A : Option Addr) (l c : Nat) : xbuildSlice E.P m 107 1 [(0, .agg #[vi x, .slice A l c])] = some (sl m.length 1, m ++ [rowz 2 true [vi x, .slice A l c]]) := by
 have e : xbuildSlice E.P m 107 1 [(0, .agg #[vi x, .slice A l c])] = xlen m fun n => xpush m (rowz 2 true [vi x, .slice A l c]) fun m' => some (sl n 1, m') := by kernel_rfl
 rw [e, xlen_eq, fNat_eq, xpush_eq, fList_eq]
theorem bl109 (x : Int) (A : Option Addr) (l c : Nat) : mbuild E.P 109 [(0, vi x), (1, .slice A l c)] = some (.agg #[vi x, .slice A l c]) := by kernel_rfl
theorem bl109n (x : Int) : mbuild E.P 109 [(0, vi x)] = some (.agg #[vi x, nilS]) := by kernel_rfl
theorem msC_app {L : List Ms} {w : Ms} {K K' : Nat → Value} {i : Nat} (h : i < L.length) (hk : K' i = K i) : msC (L ++ [w]) K' i = msC L K i := by
 unfold msC
 rw [hk]
 unfold msAt
 rw [List.getElem?_append_left h]
theorem msC_last {L : List Ms} {w : Ms} {K : Nat → Value} : msC (L ++ [w]) K L.length = [vi (shw w), K L.length] := by
 unfold msC msAt
 simp
theorem msAt_app {L : List Ms} {w : Ms} {i : Nat} (h : i < L.length) : msAt (L ++ [w]) i = msAt L i := by
 unfold msAt
 rw [List.getElem?_append_left h]
theorem msAt_last {L : List Ms} {w : Ms} : msAt (L ++ [w]) L.length = w := by
 unfold msAt
 simp
section
variable {own : Nat → Nat} {m : M} {base k p : Nat} {d : RP} {s : Nt}
theorem Ref.app_msg (hO : Own base own) (h : Ref own k m p d s) {a b : Nat} (ha : a < s.n) (hb : b < s.n) (w : Ms) {u : Value} (hu : u.oneCell' = true) (hK : MsK own m s.n w u) (hl : (s.ch a b).length ≤ 1000) :
  ∃ own' m1 m' d' v', vcalln E.P base (m ++ [rowz 2 true [vi (shw w), u]]) .append [107, 107] [d.Q a b, sl m.length 1] = some (v', m1) ∧ (∀ K : M → Res2, (k1n (mindexAddr E.P 97 (d.L a) (vi b)) fun ad => ks (xstore E.P base m1 107 ad v') K) = K m') ∧ Own base own' ∧ Step (fun t => t = k + 9 + a ∨ t = k + 20 + 5 * a + b) own m own' m' ∧ Ref own' k m' p d' (putS s a b w) := by
 have k0 := h.k0
 have n5 := h.n5
 have hbm := h.hbm hO
 let m1 : M := m ++ [rowz 2 true [vi (shw w), u]]
 let own1 := upd own m.length 0
 have s1 : ∀ T : Nat → Prop, Step T own m own1 m1 := fun T => Step.push T _ _ _ _
 have hm1 : m1.length = m.length + 1 := by simp [m1]
 have hO1 : Own base own1 := hO.upd hbm 0
 obtain ⟨m2, u1, u2, s2, hm2⟩ := ((h.msg a b ha hb).step (s1 fun _ => False) (fun h => h)).add hO1 (by omega) (by omega) (src1 (m := m) (z := 2) (c := [vi (shw w), u]) rfl (by omega)) rfl (by simp [hu]; rfl) (by omega)
 let own2 := upd own1 m1.length (k + 20 + 5 * a + b)
 have hO2 : Own base own2 := hO1.upd (by omega) _
 have s02 : Step (· = k + 20 + 5 * a + b) own m own2 m2 := (s1 _).trans s2
 let K' := upd (d.K a b) (s.ch a b).length u
 have hl' : (s.ch a b ++ [w]).length = (s.ch a b).length + 1 := by simp
 have hv2 : Vec own2 (k + 20 + 5 * a + b) 2 m2 (sl m1.length ((s.ch a b).length + 1)) ((s.ch a b).length + 1) (msC (s.ch a b ++ [w]) K') := u2 _ (fun i hi => msC_app hi (upd_ne _ _ (by omega))) (by rw [msC_last]; show [_, upd _ _ _ _] = _; rw [upd_self])
 obtain ⟨m3, w1, w2, w3⟩ := ((h.linr a ha).step s02 (by omega)).set1 (base := base) hO2 (by omega) s97 z107 hb (x := sl m1.length ((s.ch a b).length + 1)) rfl rfl
 have s03 : Step (fun t => t = k + 9 + a ∨ t = k + 20 + 5 * a + b) own m own2 m3 := (s02.mono fun t ht => .inr ht).trans (w3.mono fun t ht => .inl ht)
 refine ⟨own2, m2, m3, { d with Q := upd2 d.Q a b (sl m1.length ((s.ch a b).length + 1)), K := upd2 d.K a b K' }, sl m1.length ((s.ch a b).length + 1), by rw [vapp p107]; exact u1, w1, hO2, s03, ?_⟩
 refine h.with_msg ha hb s03 (w := sl m1.length ((s.ch a b).length + 1)) (L := s.ch a b ++ [w]) (K' := K') (w2.congr fun y _ => ?_) (by rw [hl']; exact hv2.step w3 (by omega)) (fun i hi => ?_)
 ·by_cases e : y = b
  ·subst e; rw [upd_self, upd2_self]
  ·rw [upd_ne _ _ e, upd2_ne _ _ (fun q => e q.2)]
 ·rw [hl'] at hi
  by_cases e : i = (s.ch a b).length
  ·subst e
   rw [msAt_last]
   show MsK own2 m3 s.n w (upd _ _ _ _)
   rw [upd_self]
   exact hK.step s03 (by omega)
  ·rw [msAt_app (by omega)]
   show MsK own2 m3 s.n _ (upd _ _ _ _)
   rw [upd_ne _ _ e]
   exact (h.msk a b i ha hb (by omega)).step s03 (by omega)
theorem t54g (z : Nat) (hz : 100 ≤ z) {k' : Nat} (hk' : 3000 ≤ k') (hkk : k' + 400 ≤ k ∨ k + 400 ≤ k') (B : RB s) (hO : Own base own) (h : Ref own k m p d s) (a b x : Int) :
  (sendE s a b x ≠ 0 → rt (z + 4) base 54 [pt p 0, vi a, vi b, vi x] m = some (.ret (.tuple #[pt p 0, vi (sendE s a b x)]), m)) ∧
  (sendE s a b x = 0 → ∃ own' m' p' d', rt (z + 4) base 54 [pt p 0, vi a, vi b, vi x] m = some (.ret (.tuple #[pt p' 0, vi 0]), m') ∧ Own base own' ∧ Step (refT k') own m own' m' ∧ Ref own' k' m' p' d' (sendN s a b x)) := by
 have hbm := h.hbm hO
 have n5 := h.n5
 rw [rt_imp (f := 54) (rf := rf54) (by kernel_rfl) (by kernel_rfl) (by kernel_rfl)]
 show (_ → r54 (rt (z + 3)) (z + 3) base (pt p 0) (vi a) (vi b) (vi x) m = _) ∧ (_ → ∃ own' m' p' d', r54 (rt (z + 3)) (z + 3) base (pt p 0) (vi a) (vi b) (vi x) m = _ ∧ _)
 unfold r54 sendN sendE
 rw [k1_fun, vcall_fun, t60g (z + 1) _ h, kcs, neqE, k1s]
 by_cases h1 : chkF s.n a b = 0
 ·rw [decide_eq_true h1, Bool.not_true, kbf, if_neg (show ¬ chkF s.n a b ≠ 0 from fun e => e h1)]
  obtain ⟨A, Bn, rfl, rfl, hA, hB, hAB⟩ := chkF_0 h1
  rw [show (.int .i64 1 : Value) = vi 1 from rfl, lssI, k1s]
  by_cases h2 : x < 1
  ·rw [decide_eq_true h2, kbt, if_neg (by omega)]
   exact ⟨fun _ => rfl, fun e => by omega⟩
  ·rw [decide_eq_false h2, kbf, show (.int .i64 1000000 : Value) = vi 1000000 from rfl, gtrI, k1s]
   by_cases h3 : x > 1000000
   ·rw [decide_eq_true h3, kbt, if_neg (by omega)]
    exact ⟨fun _ => rfl, fun e => by omega⟩
   ·rw [decide_eq_false h3, kbf, if_pos (show 1 ≤ x ∧ x ≤ 1000000 by omega), h.held_, h.held.ld hA s22 Go.AM.a3, lssI, k1s, Int.toNat_natCast]
    by_cases h4 : s.pcs A < x
    ·rw [decide_eq_true h4, kbt, if_pos h4]
     exact ⟨fun _ => rfl, fun e => by omega⟩
    ·rw [decide_eq_false h4, kbf, if_neg h4, h.events_, h.dlen, k2s, show (.int .i64 400 : Value) = vi 400 from rfl, geqI, k1s, decide_eq_decide.2 (show ((s.evs.length : Nat) : Int) ≥ 400 ↔ 400 ≤ s.evs.length by omega)]
     by_cases h5 : 400 ≤ s.evs.length
     ·rw [decide_eq_true h5, kbt, if_pos h5]
      exact ⟨fun _ => rfl, fun e => by omega⟩
     ·rw [decide_eq_false h5, kbf, if_neg h5]
      refine ⟨fun e => absurd rfl e, fun _ => ?_⟩
      obtain ⟨own1, m1, p1, d1, g1, hO1, s1, hR1⟩ := t94 (base := base) (z + 1) (by omega) hk' hkk B.cl B.le B.hh hO hbm h
      have hpc := B.pc A hA
      have hw : wr (s.pcs A - x) = s.pcs A - x := wr_id (by omega) (by omega)
      obtain ⟨m2, w1, hR2, s2⟩ := hR1.set_held hO1 hA (s.pcs A - x)
      obtain ⟨own3, m3, d3, g3, hO3, s3, hR3⟩ := t95 (base := base) (z + 1) hO1 (hR2.hbm hO1) hR2 (hR2.hbp hO1) (st := A) hA B.ck B.le 2 Bn x
      obtain ⟨S, hS⟩ : ∃ S, S = tickS { s with pcs := upd s.pcs A (s.pcs A - x) } A 2 Bn x := ⟨_, rfl⟩
      rw [← hS] at hR3
      have hSn : S.n = s.n := by rw [hS]; rfl
      have hSc : S.ch = s.ch := by rw [hS]; rfl
      have hA3 : A < S.n := by rw [hSn]; exact hA
      have hB3 : Bn < S.n := by rw [hSn]; exact hB
      obtain ⟨own4, m4, q4, a1, a2, a3, a4, y, hy⟩ := t96 (z + 2) (hR3.clkr A hA3) (by omega) 0
      have hO4 := a4 base (hR3.hbm hO3) hO3
      have hR4 := hR3.step (a3 fun _ => False) (fun _ h => h.elim)
      obtain ⟨Aq, lq, cq, rfl⟩ := a2.isSlo
      have hK4 : MsK own4 m4 S.n (.par x (S.clk A)) (.slice Aq lq cq) := by
       have := a2.lst.congr (C' := fun i => [vi (nth (clkL S.n (S.clk A)) i)]) (fun i hi => by rw [nth_clkL hi])
       show Lst own4 0 1 m4 _ (clkL S.n (S.clk A)).length _
       rw [clkL_len]
       exact this
      obtain ⟨own5, m5, m6, d6, v6, u1, u2, hO6, s6, hR6⟩ := hR4.app_msg (base := base) hO4 hA3 hB3 (.par x (S.clk A)) rfl hK4 (by rw [hSc]; exact B.cl _ _)
      obtain ⟨pp, off, e93, hpp, tpp, hc93⟩ := hR3.lin.lst.ix s93 hA3
      have k0' := hR3.k0
      have hdif := fun u => mdifV_vec (u := u) (hR3.msg A Bn hA3 hB3) (x := p1) (y := pp) (by rw [hR3.tg]; omega) (by rw [tpp]; omega) 2 off
      refine ⟨own5, m6, p1, d6, ?_, hO6, s1.trans ((s2.mono fun t ht => by omega).trans (s3.trans ((a3 _).trans (s6.mono fun t ht => by have h1 : A < s.n := hA; omega)))), ?_⟩
      ·have hcv : ∀ K : Value → Res2, (k1n (mnil (pt p1 0)) fun a => k1n (mfieldAddr E.P 96 a 1) fun a => k1n (xload E.P m3 80 a) K) = K d3.cv := hR3.clocks_
       have hlv : mcell m3 p1 2 = some d3.lv := hR3.c2
       have hli := hR3.lines_
       rw [g1, kcs, hR1.held_, hR1.held.ld hA s22 Go.AM.a3, subI, k1s, hw, w1]
       show kc (rt (z + 3) base 95 [pt p1 0, vi A, vi 2, vi Bn, vi x] m2) _ _ = _
       rw [g3, kcs, mnil_pt, k1s, gfd f96_2, k1s, Nat.zero_add, mexact_ok hR3.hd.lt, kexs, gld1 a93, hlv, k1s, e93, k1s, mexact_ok hpp, kexs, gld1 a97, hc93.cell, k1s, k1s, gfd f96_2, k1s, Nat.zero_add, gld1 a93, hlv, k1s, e93, k1s, gld1 a97, hc93.cell, k1s, (hR3.linr A hA3).ld hB3 s97 a107, k1s, gfd f96_1, k1s, Nat.zero_add, gld1 a80, hR3.c1, k1s, hR3.clk.ld hA3 s80 a22, a1, hy, kB_push, kcs, ← hy, bl109, k1s, gb107, k2s, hdif, kexs]
       have hu1 : vcalln E.P base (m4 ++ [rowz 2 true [vi x, .slice Aq lq cq]]) .append [107, 107] [d3.Q A Bn, sl m4.length 1] = some (v6, m5) := u1
       rw [hu1, k2s, u2]
       rfl
      ·rw [if_pos rfl, Int.toNat_natCast]
       unfold sendS
       rw [← hS]
       exact hR6
 ·rw [decide_eq_false h1, Bool.not_false, kbt, if_pos h1]
  exact ⟨fun _ => rfl, fun e => by omega⟩
end
end Go.AM
