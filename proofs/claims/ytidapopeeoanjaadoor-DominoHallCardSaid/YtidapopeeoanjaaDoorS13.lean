import Derived.Carry
import Derived.Handy
import Derived.KernelRfl
import Derived.Laws.StructEq
import Derived.Maps.AppendAt
import Derived.Maps.OwnOps
import Derived.Maps.RangeRun
import Derived.Maps.RangeWalk
import Derived.Test.YtidapopeeoanjaaDoorRows
import Derived.WalkKit
import Derived.Test.YtidapopeeoanjaaDoorAmModel
import Derived.Test.YtidapopeeoanjaaDoorAmOps5
import Derived.Test.YtidapopeeoanjaaDoorAmOps6
import Derived.Test.YtidapopeeoanjaaDoorAmCode
import Derived.Test.YtidapopeeoanjaaDoorAmDraw5
import Derived.Test.YtidapopeeoanjaaDoorAmEq
import Derived.Test.YtidapopeeoanjaaDoorRBase
import Derived.Test.YtidapopeeoanjaaDoorB1
import Derived.Test.YtidapopeeoanjaaDoorK1
import Derived.Test.YtidapopeeoanjaaDoorR7
import Derived.Test.YtidapopeeoanjaaDoorR41
import Derived.Test.YtidapopeeoanjaaDoorR42
import Derived.Test.YtidapopeeoanjaaDoorD3
import Derived.Test.YtidapopeeoanjaaDoorK3
import Derived.Test.YtidapopeeoanjaaDoorAmS
import Derived.Test.YtidapopeeoanjaaDoorK4
import Derived.Test.YtidapopeeoanjaaDoorK5
import Derived.Test.YtidapopeeoanjaaDoorK6
set_option linter.unusedVariables false
set_option linter.unusedSimpArgs false
set_option linter.unusedSectionVars false
namespace Go.AM
open Go Go.Proofs
def scs0 : List (Nat × SC) := [(52, sc52), (93, sc93)]
theorem scs0_ok : ∀ p ∈ scs0, SCok E p := by
  intro p hp
  simp only [scs0, List.mem_cons, List.not_mem_nil, or_false] at hp
  rcases hp with rfl | rfl
  · exact sc52_ok
  · exact sc93_ok
noncomputable def rs (n : Nat) : CallF := scallN scs0 E.pure tab n
theorem rs_sound (n : Nat) : SoundCall E (rs n) := scallN_sound E_good E_mix _ tab_ok scs0_ok n
theorem alive_run : rs 200 0 13 [] [] = some (.ret (.bool true), []) := by kernel_rfl
end Go.AM
