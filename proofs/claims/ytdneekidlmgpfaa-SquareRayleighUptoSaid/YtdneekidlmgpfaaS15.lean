import Derived.KernelRfl
import Derived.Laws.StructEq
import Derived.Test.YtdneekidlmgpfaaRows
import Derived.WalkKit
import Derived.Test.YtdneekidlmgpfaaAmModel
import Derived.Test.YtdneekidlmgpfaaAmOps5
import Derived.Test.YtdneekidlmgpfaaAmOps6
import Derived.Test.YtdneekidlmgpfaaAmCode
import Derived.Test.YtdneekidlmgpfaaAmDraw5
import Derived.Test.YtdneekidlmgpfaaAmEq
import Derived.Test.YtdneekidlmgpfaaRBase
import Derived.Test.YtdneekidlmgpfaaR33
import Derived.Test.YtdneekidlmgpfaaR50
import Derived.Test.YtdneekidlmgpfaaR83
import Derived.Test.YtdneekidlmgpfaaR90
import Derived.Test.YtdneekidlmgpfaaR107
set_option linter.unusedVariables false
set_option linter.unusedSimpArgs false
set_option linter.unusedSectionVars false
namespace Go.AM
open Go Go.Proofs
theorem alive_run : rs 200 0 15 [] [] = some (.ret (.bool true), []) := by kernel_rfl
def sc15 : SC := fun args _ => match args with
  | [] => some (.bool true)
  | _ => none
theorem sc15_ok : SCok E (15, sc15) := by
  intro base args m v h
  simp only [sc15] at h
  split at h
  · simp only [Option.some.injEq] at h
    subst h
    exact one_flat ((rs_sound 200).one alive_run) rfl rfl base m
  · simp at h
end Go.AM
