import Derived.KernelRfl
import Derived.Laws.BytesArg
import Derived.Laws.StructEq
import Derived.RangeFuncLeaves
import Derived.RangeFuncRecord
import Derived.Test.YtakncchgcbnfeaaProg
import Derived.Test.YtakncchgcbnfeaaRows
import Derived.WalkKit
import Derived.Test.YtakncchgcbnfeaaAmB
import Derived.Test.YtakncchgcbnfeaaAmG
import Derived.Test.YtakncchgcbnfeaaAmModel
import Derived.Test.YtakncchgcbnfeaaAmRel
import Derived.Test.YtakncchgcbnfeaaAmOps6
import Derived.Test.YtakncchgcbnfeaaAmCode
import Derived.Test.YtakncchgcbnfeaaAmDraw5
import Derived.Test.YtakncchgcbnfeaaAmEq
import Derived.Test.YtakncchgcbnfeaaRBase
import Derived.Test.YtakncchgcbnfeaaR66
import Derived.Test.YtakncchgcbnfeaaR107
import Derived.Test.YtakncchgcbnfeaaR124
import Derived.Test.YtakncchgcbnfeaaAmS
import Derived.Test.YtakncchgcbnfeaaLM1
import Derived.Test.YtakncchgcbnfeaaLM3
set_option linter.unusedVariables false
set_option linter.unusedSimpArgs false
set_option linter.unusedSectionVars false
namespace Go.AM
open Go Go.Proofs
theorem all15_11 : ([1, 2, 3, 4].all fun c => isNumOk (rf15 (rc 60) 60 0 [boxV 1 1 (c : Nat)] []) (cntL 1 1 c)) = true := by kernel_rfl
theorem all15_12 : ([1, 2, 3, 4].all fun c => isNumOk (rf15 (rc 60) 60 0 [boxV 1 2 (c : Nat)] []) (cntL 1 2 c)) = true := by kernel_rfl
theorem all15_13 : ([1, 2, 3, 4].all fun c => isNumOk (rf15 (rc 60) 60 0 [boxV 1 3 (c : Nat)] []) (cntL 1 3 c)) = true := by kernel_rfl
theorem all15_14 : ([1, 2, 3, 4].all fun c => isNumOk (rf15 (rc 60) 60 0 [boxV 1 4 (c : Nat)] []) (cntL 1 4 c)) = true := by kernel_rfl
theorem all15_21 : ([1, 2, 3, 4].all fun c => isNumOk (rf15 (rc 60) 60 0 [boxV 2 1 (c : Nat)] []) (cntL 2 1 c)) = true := by kernel_rfl
theorem all15_22 : ([1, 2, 3, 4].all fun c => isNumOk (rf15 (rc 60) 60 0 [boxV 2 2 (c : Nat)] []) (cntL 2 2 c)) = true := by kernel_rfl
theorem all15_23 : ([1, 2, 3, 4].all fun c => isNumOk (rf15 (rc 60) 60 0 [boxV 2 3 (c : Nat)] []) (cntL 2 3 c)) = true := by kernel_rfl
theorem all15_24 : ([1, 2, 3, 4].all fun c => isNumOk (rf15 (rc 60) 60 0 [boxV 2 4 (c : Nat)] []) (cntL 2 4 c)) = true := by kernel_rfl
theorem all15_31 : ([1, 2, 3, 4].all fun c => isNumOk (rf15 (rc 60) 60 0 [boxV 3 1 (c : Nat)] []) (cntL 3 1 c)) = true := by kernel_rfl
theorem all15_32 : ([1, 2, 3, 4].all fun c => isNumOk (rf15 (rc 60) 60 0 [boxV 3 2 (c : Nat)] []) (cntL 3 2 c)) = true := by kernel_rfl
theorem all15_33 : ([1, 2, 3, 4].all fun c => isNumOk (rf15 (rc 60) 60 0 [boxV 3 3 (c : Nat)] []) (cntL 3 3 c)) = true := by kernel_rfl
theorem all15_34 : ([1, 2, 3, 4].all fun c => isNumOk (rf15 (rc 60) 60 0 [boxV 3 4 (c : Nat)] []) (cntL 3 4 c)) = true := by kernel_rfl
end Go.AM
