import Derived.WalkKit
set_option linter.unusedVariables false
set_option linter.unusedSimpArgs false
set_option linter.unusedSectionVars false
namespace Go.AM
def bslices : List Nat := [62]
end Go.AM
namespace Go.AM
open Go
def gtabs : List (Nat × List Value) := [(0, [1,0,0,1,0,0, 0,-1,1,0,0,0, -1,0,0,-1,0,0, 0,1,-1,0,0,0, 1,0,0,-1,0,0, -1,0,0,1,0,0, 0,1,1,0,0,0, 0,-1,-1,0,0,0].map fun (n : Int) => .int .i64 n)]
def glook : List (Nat × List Value) → Nat → Option (List Value)
  | [], _ => none
  | (k, v) :: l, t => match Nat.beq k t with
    | true => some v
    | false => glook l t
theorem glook_mem {l : List (Nat × List Value)} {g : Nat} {cs : List Value} (h : glook l g = some cs) : (g, cs) ∈ l := by
  induction l with
  | nil => simp [glook] at h
  | cons p l ih =>
    obtain ⟨k, v⟩ := p
    simp only [glook] at h
    split at h
    · rename_i hk
      have := Nat.eq_of_beq_eq_true hk
      simp only [Option.some.injEq] at h
      subst h; subst this; simp
    · exact List.mem_cons_of_mem _ (ih h)
end Go.AM
