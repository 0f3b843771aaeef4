set_option linter.unusedVariables false
set_option linter.unusedSimpArgs false
set_option linter.unusedSectionVars false
namespace Go.AM.Det
abbrev Mx := Nat → Nat → Int
end Go.AM.Det
namespace Go.AM.Det
def piv (A : Mx) (n : Nat) : Option Nat := (List.range n).find? fun r => A r 0 != 0
end Go.AM.Det
