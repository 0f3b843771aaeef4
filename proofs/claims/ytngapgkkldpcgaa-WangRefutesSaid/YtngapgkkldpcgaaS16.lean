import Derived.KernelRfl
import Derived.Laws.BytesArg
import Derived.Laws.StructEq
import Derived.Test.YtngapgkkldpcgaaRows
import Derived.WalkKit
import Derived.Test.YtngapgkkldpcgaaAmB
import Derived.Test.YtngapgkkldpcgaaAmModel
import Derived.Test.YtngapgkkldpcgaaAmOps5
import Derived.Test.YtngapgkkldpcgaaAmOps6
import Derived.Test.YtngapgkkldpcgaaAmCode
import Derived.Test.YtngapgkkldpcgaaAmX
import Derived.Test.YtngapgkkldpcgaaAmEq
import Derived.Test.YtngapgkkldpcgaaRBase
import Derived.Test.YtngapgkkldpcgaaR92
import Derived.Test.YtngapgkkldpcgaaAmS
set_option linter.unusedVariables false
set_option linter.unusedSimpArgs false
set_option linter.unusedSectionVars false
namespace Go.AM
open Go Go.Proofs
noncomputable def rs (n : Nat) : CallF := scallN [] E.pure tab n
theorem rs_sound (n : Nat) : SoundCall E (rs n) := scallN_sound E_good E_mix _ tab_ok (by simp) n
theorem alive_run : rs 200 0 16 [] [] = some (.ret (.bool true), []) := by kernel_rfl
end Go.AM
