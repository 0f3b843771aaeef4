import Derived.KernelRfl
import Derived.Laws.BytesArg
import Derived.Laws.StructEq
import Derived.RangeFuncLeaves
import Derived.RangeFuncRecord
import Derived.Test.YtakncchgcbnfeaaProg
import Derived.Test.YtakncchgcbnfeaaRows
import Derived.WalkKit
import Derived.Test.YtakncchgcbnfeaaAmB
import Derived.Test.YtakncchgcbnfeaaAmG
import Derived.Test.YtakncchgcbnfeaaAmModel
import Derived.Test.YtakncchgcbnfeaaAmRel
import Derived.Test.YtakncchgcbnfeaaAmOps6
import Derived.Test.YtakncchgcbnfeaaAmCode
import Derived.Test.YtakncchgcbnfeaaAmDraw5
import Derived.Test.YtakncchgcbnfeaaAmEq
import Derived.Test.YtakncchgcbnfeaaRBase
import Derived.Test.YtakncchgcbnfeaaR66
import Derived.Test.YtakncchgcbnfeaaR107
import Derived.Test.YtakncchgcbnfeaaR124
import Derived.Test.YtakncchgcbnfeaaLM1
set_option linter.unusedVariables false
set_option linter.unusedSimpArgs false
set_option linter.unusedSectionVars false
namespace Go.AM
open Go Go.Proofs
/-- The numbers of all heaps, quickly. -/
def cntL (a b c : Nat) : Nat := (dpH (rw c (List.replicate b c)) (a - 1)).sum
def box64 : List (Nat × Nat × Nat) := [1, 2, 3, 4].flatMap fun a => [1, 2, 3, 4].flatMap fun b => [1, 2, 3, 4].map fun c => (a, b, c)
theorem mem_box64 {a b c : Nat} (ha : 1 ≤ a ∧ a ≤ 4) (hb : 1 ≤ b ∧ b ≤ 4) (hc : 1 ≤ c ∧ c ≤ 4) : (a, b, c) ∈ box64 := by
  have h4 : ∀ x, 1 ≤ x ∧ x ≤ 4 → x ∈ [1, 2, 3, 4] := by intro x hx; simp; omega
  simp only [box64, List.mem_flatMap, List.mem_map]
  exact ⟨a, h4 a ha, b, h4 b hb, c, h4 c hc, rfl⟩
abbrev boxV (A B C : Int) : Value := .agg #[vi A, vi B, vi C]
/-- A measure that is right. -/
def sideOk (n : Int) : Bool := decide (1 ≤ n) && decide (n ≤ 4)
def boxOk (A B C : Int) : Bool := sideOk A && (sideOk B && sideOk C)
theorem boxOk_nat {A B C : Int} (h : boxOk A B C = true) : ∃ a b c : Nat, A = a ∧ B = b ∧ C = c ∧ 1 ≤ a ∧ a ≤ 4 ∧ 1 ≤ b ∧ b ≤ 4 ∧ 1 ≤ c ∧ c ≤ 4 := by
  unfold boxOk sideOk at h
  simp only [Bool.and_eq_true, decide_eq_true_eq] at h
  exact ⟨A.toNat, B.toNat, C.toNat, by omega, by omega, by omega, by omega, by omega, by omega, by omega, by omega, by omega⟩
/-- Is the answer this number? -/
def isNum (r : Res2) (x : Nat) : Bool := match r with
  | some (.ret (.int .i64 y), _) => y == (x : Int)
  | _ => false
def isNumOk (r : Res2) (x : Nat) : Bool := match r with
  | some (.ret (.tuple ⟨[.int .i64 y, .int .i64 0]⟩), _) => y == (x : Int)
  | _ => false
theorem isNum_eq {r : Res2} {x : Nat} (h : isNum r x = true) : ∃ m, r = some (.ret (vi x), m) := by
  unfold isNum at h
  split at h
  · rename_i y m
    simp only [beq_iff_eq] at h
    subst h
    exact ⟨m, rfl⟩
  · simp at h
theorem isNumOk_eq {r : Res2} {x : Nat} (h : isNumOk r x = true) : ∃ m, r = some (.ret (.tuple #[vi x, vi 0]), m) := by
  unfold isNumOk at h
  split at h
  · rename_i y m
    simp only [beq_iff_eq] at h
    subst h
    exact ⟨m, rfl⟩
  · simp at h
end Go.AM
