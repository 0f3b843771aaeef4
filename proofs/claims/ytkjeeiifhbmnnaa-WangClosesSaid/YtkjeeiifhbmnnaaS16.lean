import Derived.KernelRfl
import Derived.Laws.BytesArg
import Derived.Laws.StructEq
import Derived.Test.YtkjeeiifhbmnnaaRows
import Derived.WalkKit
import Derived.Test.YtkjeeiifhbmnnaaAmB
import Derived.Test.YtkjeeiifhbmnnaaAmModel
import Derived.Test.YtkjeeiifhbmnnaaAmOps5
import Derived.Test.YtkjeeiifhbmnnaaAmOps6
import Derived.Test.YtkjeeiifhbmnnaaAmCode
import Derived.Test.YtkjeeiifhbmnnaaAmX
import Derived.Test.YtkjeeiifhbmnnaaAmEq
import Derived.Test.YtkjeeiifhbmnnaaRBase
import Derived.Test.YtkjeeiifhbmnnaaR94
import Derived.Test.YtkjeeiifhbmnnaaAmS
set_option linter.unusedVariables false
set_option linter.unusedSimpArgs false
set_option linter.unusedSectionVars false
namespace Go.AM
open Go Go.Proofs
noncomputable def rs (n : Nat) : CallF := scallN [] E.pure tab n
theorem rs_sound (n : Nat) : SoundCall E (rs n) := scallN_sound E_good E_mix _ tab_ok (by simp) n
theorem alive_run : rs 200 0 16 [] [] = some (.ret (.bool true), []) := by kernel_rfl
end Go.AM
