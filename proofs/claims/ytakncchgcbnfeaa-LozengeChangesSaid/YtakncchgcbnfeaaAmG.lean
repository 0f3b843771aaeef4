import Derived.Test.YtakncchgcbnfeaaProg
import Derived.WalkKit
import Derived.Test.YtakncchgcbnfeaaAmB
set_option linter.unusedVariables false
set_option linter.unusedSimpArgs false
set_option linter.unusedSectionVars false
namespace Go.AM
open Go Go.Proofs
def gtabs : List (Nat × List Value) := []
def glook : List (Nat × List Value) → Nat → Option (List Value)
  | [], _ => none
  | (k, v) :: l, t => match Nat.beq k t with
    | true => some v
    | false => glook l t
/-- The functions that range over functions. -/
def siteFns : List Nat := [53, 57, 59, 73]
noncomputable def fcode (f : Nat) : Code := ((Try.prog.funcs[f]?).bind (·.body)).getD .skip
noncomputable def siteTab : List Site := siteFns.flatMap fun f => sitesOf (fcode f)
noncomputable def gsite (k : Nat) : Option Site := findSite siteTab k
/-- Of each site the temporaries that its rounds read. -/
def gslots (k : Nat) : List Nat := slook [(8205, [3]), (968610, [4, 7]), (549275, [3, 6, 8]), (856855, [3, 5])] k
end Go.AM
