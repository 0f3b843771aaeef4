import Derived.Test.YtnefldkiipdckaaProg
import Derived.WalkKit
import Derived.Test.YtnefldkiipdckaaAmB
set_option linter.unusedVariables false
set_option linter.unusedSimpArgs false
set_option linter.unusedSectionVars false
namespace Go.AM
open Go Go.Proofs
def gtabs : List (Nat × List Value) := []
def glook : List (Nat × List Value) → Nat → Option (List Value)
 | [], _ => none
 | (k, v) :: l, t => match Nat.beq k t with
  | true => some v
  | false => glook l t
def siteFns : List Nat := []
noncomputable def fcode (f : Nat) : Code := ((Try.prog.funcs[f]?).bind (·.body)).getD .skip
noncomputable def siteTab : List Site := siteFns.flatMap fun f => sitesOf (fcode f)
noncomputable def gsite (k : Nat) : Option Site := findSite siteTab k
def gslots (k : Nat) : List Nat := slook [] k
def gnames : List String := ["encaustic/snap.shown"]
def sfindi : List String → Nat → String → Nat
 | [], _, _ => 1000000
 | a :: l, n, s => if a = s then n else sfindi l (n + 1) s
def gname (s : String) : Nat := sfindi gnames 0 s
def gmeths : List (TypeId × Nat × FuncId) := [(117, 0, 130), (120, 0, 131)]
end Go.AM
