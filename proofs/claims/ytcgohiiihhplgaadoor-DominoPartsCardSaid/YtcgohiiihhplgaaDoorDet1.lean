set_option linter.unusedVariables false
set_option linter.unusedSimpArgs false
set_option linter.unusedSectionVars false
namespace Go.AM.Det
abbrev Mx := Nat → Nat → Int
def sg (j : Nat) : Int := if j % 2 = 0 then 1 else -1
def sumN : Nat → (Nat → Int) → Int
  | 0, _ => 0
  | n + 1, f => sumN n f + f n
def sw (c k : Nat) : Nat := if k = c then c + 1 else if k = c + 1 then c else k
def sk (j i : Nat) : Nat := if i < j then i else i + 1
def minor (A : Mx) (j : Nat) : Mx := fun i k => A (i + 1) (sk j k)
def det : Nat → Mx → Int
  | 0, _ => 1
  | n + 1, A => sumN (n + 1) fun j => sg j * A 0 j * det n (minor A j)
def part (A : Mx) (k : Nat) : Mx := fun i j => if 1 ≤ j ∧ j ≤ k then A 0 0 * A i j + (- A 0 j) * A i 0 else A i j
end Go.AM.Det
namespace Go.AM.Det
def piv (A : Mx) (n : Nat) : Option Nat := (List.range n).find? fun r => A r 0 != 0
/-- What holds at each stage: all minors are as divisible, and as small, as those of the first matrix say. -/
structure St (R n : Nat) (A : Mx) (q : Int) (t : Nat) : Prop where
  q0 : q ≠ 0
  dvd : ∀ (k : Nat) (r c : Nat → Nat), (∀ i, i ≤ k → r i < n) → (∀ i, i ≤ k → c i < n) → q ^ k ∣ det (k + 1) fun i j => A (r i) (c j)
  low : ∀ (k : Nat) (r c : Nat → Nat), (∀ i, i ≤ k → r i < n) → (∀ i, i ≤ k → c i < n) → (∀ i j, i ≤ k → j ≤ k → c i = c j → i = j) → (det (k + 1) fun i j => A (r i) (c j)).natAbs ≤ q.natAbs ^ k * R ^ (t + k + 1)
def up (r : Nat → Nat) : Nat → Nat | 0 => 0 | i + 1 => r i + 1
end Go.AM.Det
