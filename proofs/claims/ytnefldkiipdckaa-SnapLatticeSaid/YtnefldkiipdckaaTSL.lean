import Derived.KernelRfl
import Derived.Laws.BytesArg
import Derived.Laws.StructEq
import Derived.RangeFuncLeaves
import Derived.RangeFuncRecord
import Derived.Test.YtnefldkiipdckaaProg
import Derived.Test.YtnefldkiipdckaaRows
import Derived.WalkKit
import Derived.Test.YtnefldkiipdckaaAmB
import Derived.Test.YtnefldkiipdckaaAmG
import Derived.Test.YtnefldkiipdckaaAmModel
import Derived.Test.YtnefldkiipdckaaAmRel
import Derived.Test.YtnefldkiipdckaaAmOps6
import Derived.Test.YtnefldkiipdckaaAmCode
import Derived.Test.YtnefldkiipdckaaAmDraw5
import Derived.Test.YtnefldkiipdckaaAmEq
import Derived.Test.YtnefldkiipdckaaRBase
import Derived.Test.YtnefldkiipdckaaR89
import Derived.Test.YtnefldkiipdckaaAmS
import Derived.Test.YtnefldkiipdckaaS16
import Derived.Test.YtnefldkiipdckaaS17
import Derived.Test.YtnefldkiipdckaaNM1
import Derived.Test.YtnefldkiipdckaaNA
set_option linter.unusedVariables false
set_option linter.unusedSimpArgs false
set_option linter.unusedSectionVars false
namespace Go.AM
open Go Go.Proofs
theorem r43_L0_s (call : CallF) (fuel base : Nat) (kp : Value → M → Res2) (kx0 : Value → M → Res2) (n : Nat) (x1 x5 x7 : Value) (m : M) : r43_L0 call fuel base kp kx0 (n + 1) x1 x5 x7 m =
    (k2 (vcalln E.P base m .len [23] [x1]) fun v17_5 m => (k1n (mbin E .lss 3 x7 v17_5) fun v18_6 => (kb v18_6 (k1n (mindexAddr E.P 23 x1 x7) fun v24_7 => (k1n (xload E.P m 36 v24_7) fun v25_8 => (kc (call base 91 [x5, v25_8] m) (fun v26_9 m => (k1n (mbin E .add 3 x7 (.int .i64 1)) fun v20_10 => (r43_L0 call fuel base kp kx0 n x1 x5 v20_10 m))) (fun v m => kp v m)))) (kx0 x5 m)))) := by
  unfold r43_L0
  rw [k1_fun, vcall_fun]
theorem r13_L0_s (call : CallF) (fuel base : Nat) (kx0 : Value → Value → Value → Value → M → Res2) (n : Nat) (x2 x3 x10 x11 x17 x18 x19 : Value) (m : M) : r13_L0 call fuel base kx0 (n + 1) x2 x3 x10 x11 x17 x18 x19 m =
    (k1n (mbin E .lss 3 x19 x10) fun v89_34 => (kb v89_34 (k1n (mindexAddr E.P 22 x2 x19) fun v95_35 => (k1n (xload E.P m 3 v95_35) fun v96_36 => (k1n (mindexAddr E.P 22 x3 x19) fun v99_37 => (k1n (xload E.P m 3 v99_37) fun v100_38 => (k2 (vcalln E.P base m .min [3, 3] [v96_36, v100_38]) fun v101_39 m => (k2 (xbuildSlice E.P m 22 1 [(0, v101_39)]) fun v102_40 m => (k2 (vcalln E.P base m .append [22, 22] [x17, v102_40]) fun v103_41 m => (k1n (mindexAddr E.P 22 x2 x19) fun v107_42 => (k1n (xload E.P m 3 v107_42) fun v108_43 => (k1n (mindexAddr E.P 22 x3 x19) fun v111_44 => (k1n (xload E.P m 3 v111_44) fun v112_45 => (k2 (vcalln E.P base m .max [3, 3] [v108_43, v112_45]) fun v113_46 m => (k2 (xbuildSlice E.P m 22 1 [(0, v113_46)]) fun v114_47 m => (k2 (vcalln E.P base m .append [22, 22] [x18, v114_47]) fun v115_48 m => (k1n (mbin E .add 3 x19 (.int .i64 1)) fun v91_49 => (r13_L0 call fuel base kx0 n x2 x3 x10 x11 v103_41 v115_48 v91_49 m)))))))))))))))) (kx0 x10 x11 x17 x18 m))) := by
  unfold r13_L0
  rw [k1_fun, vcall_fun]
end Go.AM
