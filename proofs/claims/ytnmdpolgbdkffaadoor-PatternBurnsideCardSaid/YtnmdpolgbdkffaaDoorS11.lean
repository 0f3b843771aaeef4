import Derived.KernelRfl
import Derived.Laws.BytesArg
import Derived.Laws.StructEq
import Derived.Test.YtnmdpolgbdkffaaDoorRows
import Derived.WalkKit
import Derived.Test.YtnmdpolgbdkffaaDoorAmB
import Derived.Test.YtnmdpolgbdkffaaDoorAmModel
import Derived.Test.YtnmdpolgbdkffaaDoorAmOps6
import Derived.Test.YtnmdpolgbdkffaaDoorAmCode
import Derived.Test.YtnmdpolgbdkffaaDoorAmK2
import Derived.Test.YtnmdpolgbdkffaaDoorAmEq
import Derived.Test.YtnmdpolgbdkffaaDoorRBase
import Derived.Test.YtnmdpolgbdkffaaDoorR81
import Derived.Test.YtnmdpolgbdkffaaDoorAmS
set_option linter.unusedVariables false
set_option linter.unusedSimpArgs false
set_option linter.unusedSectionVars false
namespace Go.AM
open Go Go.Proofs
noncomputable def rs (n : Nat) : CallF := scallN [] E.pure tab n
theorem rs_sound (n : Nat) : SoundCall E (rs n) := scallN_sound E_good E_mix _ tab_ok (by simp) n
theorem alive_run : rs 200 0 11 [] [] = some (.ret (.bool true), []) := by kernel_rfl
end Go.AM
