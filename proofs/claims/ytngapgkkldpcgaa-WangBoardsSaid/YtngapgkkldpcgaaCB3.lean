import Derived.ChangeStays
import Derived.Deep.DeepHandedRow
import Derived.Deep.Slices
import Derived.JoinedCond
import Derived.KernelRfl
import Derived.LaidLaws
import Derived.Laws.BytesArg
import Derived.Laws.StructEq
import Derived.OpenShut
import Derived.ProofKit
import Derived.Test.YtngapgkkldpcgaaRows
import Derived.WalkKit
import Derived.Test.YtngapgkkldpcgaaAmB
import Derived.Test.YtngapgkkldpcgaaAmModel
import Derived.Test.YtngapgkkldpcgaaAmOps5
import Derived.Test.YtngapgkkldpcgaaAmOps6
import Derived.Test.YtngapgkkldpcgaaAmCode
import Derived.Test.YtngapgkkldpcgaaAmK
import Derived.Test.YtngapgkkldpcgaaAmEq
import Derived.Test.YtngapgkkldpcgaaRBase
import Derived.Test.YtngapgkkldpcgaaR94
import Derived.Test.YtngapgkkldpcgaaAmS
import Derived.Test.YtngapgkkldpcgaaS16
import Derived.Test.YtngapgkkldpcgaaS17
import Derived.Test.YtngapgkkldpcgaaWM
import Derived.Test.YtngapgkkldpcgaaWB
set_option linter.unusedVariables false
set_option linter.unusedSimpArgs false
set_option linter.unusedSectionVars false
namespace Go.AM
open Go Go.Proofs
theorem law3 {m : M} {v bv : Value} {l : List Wg} {b : List (List Int)} (hv : Tiles m v l) (hb : Mats m bv b) : ∃ m', rt 401 m.length 3 [v, bv] m = some (.ret (.bool true), m') := ⟨m, t3 400 m.length (by omega) hv hb⟩
end Go.AM
