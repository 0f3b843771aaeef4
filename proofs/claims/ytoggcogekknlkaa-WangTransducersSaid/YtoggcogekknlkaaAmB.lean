import Derived.WalkKit
set_option linter.unusedVariables false
set_option linter.unusedSimpArgs false
set_option linter.unusedSectionVars false
namespace Go.AM
def bslices : List Nat := []
def wcalls : List Nat := [105, 108, 109, 117, 119, 122, 123, 124, 125, 127, 128, 130, 131, 134]
/-- May loads stand unordered ahead of an append? -/
def xloads : Bool := true
end Go.AM
namespace Go.AM
open Go
def gtabs : List (Nat × List Value) := []
def glook : List (Nat × List Value) → Nat → Option (List Value)
  | [], _ => none
  | (k, v) :: l, t => match Nat.beq k t with
    | true => some v
    | false => glook l t
end Go.AM
