import Derived.KernelRfl
import Derived.Laws.BytesArg
import Derived.Laws.StructEq
import Derived.Scope
import Derived.Test.YtdkbpahldfgphaaRows
import Derived.WalkKit
import Derived.Test.YtdkbpahldfgphaaAmB
import Derived.Test.YtdkbpahldfgphaaAmModel
import Derived.Test.YtdkbpahldfgphaaAmOps5
import Derived.Test.YtdkbpahldfgphaaAmOps6
import Derived.Test.YtdkbpahldfgphaaAmCode
import Derived.Test.YtdkbpahldfgphaaAmX
import Derived.Test.YtdkbpahldfgphaaAmEq
import Derived.Test.YtdkbpahldfgphaaRBase
import Derived.Test.YtdkbpahldfgphaaR29
import Derived.Test.YtdkbpahldfgphaaAmS
set_option linter.unusedVariables false
set_option linter.unusedSimpArgs false
set_option linter.unusedSectionVars false
namespace Go.AM
open Go Go.Proofs
noncomputable def rs (n : Nat) : CallF := scallN [] E.pure tab n
theorem rs_sound (n : Nat) : SoundCall E (rs n) := scallN_sound E_good E_mix _ tab_ok (by simp) n
theorem alive_run : rs 200 0 7 [] [] = some (.ret (.bool true), []) := by kernel_rfl
end Go.AM
