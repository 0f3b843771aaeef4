import Derived.KernelRfl
import Derived.Laws.BytesArg
import Derived.Laws.StructEq
import Derived.RangeFuncLeaves
import Derived.RangeFuncRecord
import Derived.Test.YtakncchgcbnfeaaProg
import Derived.Test.YtakncchgcbnfeaaRows
import Derived.WalkKit
import Derived.Test.YtakncchgcbnfeaaAmB
import Derived.Test.YtakncchgcbnfeaaAmG
import Derived.Test.YtakncchgcbnfeaaAmModel
import Derived.Test.YtakncchgcbnfeaaAmRel
import Derived.Test.YtakncchgcbnfeaaAmOps6
import Derived.Test.YtakncchgcbnfeaaAmCode
import Derived.Test.YtakncchgcbnfeaaAmDraw5
import Derived.Test.YtakncchgcbnfeaaAmEq
import Derived.Test.YtakncchgcbnfeaaRBase
import Derived.Test.YtakncchgcbnfeaaR66
import Derived.Test.YtakncchgcbnfeaaR107
import Derived.Test.YtakncchgcbnfeaaR124
import Derived.Test.YtakncchgcbnfeaaAmS
import Derived.Test.YtakncchgcbnfeaaLM1
import Derived.Test.YtakncchgcbnfeaaLM3
set_option linter.unusedVariables false
set_option linter.unusedSimpArgs false
set_option linter.unusedSectionVars false
namespace Go.AM
open Go Go.Proofs
theorem cnt_all : (box64.all fun p => Nat.ble (cntL p.1 p.2.1 p.2.2) 232848) = true := by kernel_rfl
theorem all48 : (box64.all fun p => isNum (rf48 (rc 30) 30 0 [boxV p.1 p.2.1 p.2.2] []) (cntL p.1 p.2.1 p.2.2)) = true := by kernel_rfl
theorem all49 : (box64.all fun p => isNum (rf49 (rc 60) 60 0 [boxV p.1 p.2.1 p.2.2] []) (cntL p.1 p.2.1 p.2.2)) = true := by kernel_rfl
end Go.AM
