import Derived.KernelRfl
set_option linter.unusedVariables false
set_option linter.unusedSimpArgs false
set_option linter.unusedSectionVars false
namespace Go.AM
/-- All rows under a row, the numbers at most m. -/
def rw (m : Nat) : List Nat → List (List Nat)
  | [] => [[]]
  | u :: us => (List.range (min m u + 1)).flatMap fun v => (rw v us).map (v :: ·)
end Go.AM
