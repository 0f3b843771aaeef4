import Derived.KernelRfl
import Derived.Laws.BytesArg
import Derived.Laws.StructEq
import Derived.RangeFuncLeaves
import Derived.RangeFuncRecord
import Derived.Test.YtnefldkiipdckaaProg
import Derived.Test.YtnefldkiipdckaaRows
import Derived.WalkKit
import Derived.Test.YtnefldkiipdckaaAmB
import Derived.Test.YtnefldkiipdckaaAmG
import Derived.Test.YtnefldkiipdckaaAmModel
import Derived.Test.YtnefldkiipdckaaAmRel
import Derived.Test.YtnefldkiipdckaaAmOps6
import Derived.Test.YtnefldkiipdckaaAmCode
import Derived.Test.YtnefldkiipdckaaAmDraw5
import Derived.Test.YtnefldkiipdckaaAmEq
import Derived.Test.YtnefldkiipdckaaRBase
import Derived.Test.YtnefldkiipdckaaR58
import Derived.Test.YtnefldkiipdckaaR107
import Derived.Test.YtnefldkiipdckaaAmS
set_option linter.unusedVariables false
set_option linter.unusedSimpArgs false
set_option linter.unusedSectionVars false
namespace Go.AM
open Go Go.Proofs
noncomputable def rs (n : Nat) : CallF := scallN [] E.pure tab n
theorem rs_sound (n : Nat) : SoundCall E (rs n) := scallN_sound E_good E_mix _ tab_ok (by simp) n
theorem alive_run : rs 200 0 14 [] [] = some (.ret (.bool true), []) := by kernel_rfl
end Go.AM
