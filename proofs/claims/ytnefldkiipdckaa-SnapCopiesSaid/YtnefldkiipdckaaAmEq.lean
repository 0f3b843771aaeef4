import Derived.Laws.BytesArg
import Derived.Laws.StructEq
import Derived.RangeFuncLeaves
import Derived.RangeFuncRecord
import Derived.Test.YtnefldkiipdckaaProg
import Derived.WalkKit
import Derived.Test.YtnefldkiipdckaaAmB
import Derived.Test.YtnefldkiipdckaaAmG
import Derived.Test.YtnefldkiipdckaaAmModel
import Derived.Test.YtnefldkiipdckaaAmRel
import Derived.Test.YtnefldkiipdckaaAmOps6
import Derived.Test.YtnefldkiipdckaaAmCode
import Derived.Test.YtnefldkiipdckaaAmDraw5
set_option linter.unusedVariables false
set_option linter.unusedSimpArgs false
set_option linter.unusedSectionVars false
namespace Go.AM
open Go
theorem ceqs_append (xs ys : List Value) : ∀ (is js : List Nat), ceqs xs ys (is ++ js) = (match ceqs xs ys is with
  | some true => ceqs xs ys js
  | r => r)
 | [], js => by simp [ceqs]
 | i :: is, js => by
  simp only [List.cons_append, ceqs, ceqs_append xs ys is js]
  split
  ·rename_i x y _ _
   cases ceq (i % 2) x y with
   | none => rfl
   | some b => cases b <;> rfl
  ·rfl
def PEq (P : Program) (d : Nat) (t : TypeId) (is : List Nat) : Prop :=
 ∀ (off : Nat) (xs ys : Array Value) (r : Bool) (w : World), ceqs xs.toList ys.toList (is.map (· + 2 * off)) = some r →
  ∃ a b, (part t xs off).run P w = .ok a w ∧ (part t ys off).run P w = .ok b w ∧ (Op.equalIn d t a b).run P w = .ok r w
def AEq (P : Program) (d : Nat) (t : TypeId) (is : List Nat) : Prop :=
 ∀ (xs ys : Array Value) (r : Bool) (w : World), ceqs xs.toList ys.toList is = some r → (Op.equalIn d t (.agg xs) (.agg ys)).run P w = .ok r w
theorem aeq_array {P : Program} {t elem : TypeId} {len n d : Nat} {is : List Nat} (ht : P.underlying t = some (.array len elem)) (hsz : szOf P elem = some n) (h : PEq P d elem is) :
  AEq P (d + 1) t ((List.range len).flatMap fun i => is.map (· + 2 * (i * n))) := by
 intro xs ys r w hc
 simp only [Op.equalIn, Sem.run_bind, run_underlying ht, Result.andThen_ok, run_sizeOf hsz]
 rw [Std.Legacy.Range.forIn_eq_forIn_range']
 simp only [Std.Legacy.Range.size, Nat.sub_zero, Nat.add_sub_cancel, Nat.div_one]
 rw [List.range_eq_range'] at hc
 generalize List.range' 0 len = l at hc ⊢
 induction l with
 | nil => simp [ceqs] at hc; simp [hc]
 | cons i l ih =>
  rw [List.flatMap_cons, ceqs_append] at hc
  cases hi : ceqs xs.toList ys.toList (is.map (· + 2 * (i * n))) with
  | none => rw [hi] at hc; simp at hc
  | some b =>
   rw [hi] at hc
   obtain ⟨u, v, h1, h2, h3⟩ := h (i * n) xs ys b w hi
   simp only [List.forIn_cons, Sem.run_bind, h1, h2, h3, Result.andThen_ok]
   cases b with
   | true => simp only [Bool.not_true, Bool.false_eq_true, if_false, Sem.run_pure, Result.andThen_ok]; exact ih hc
   | false =>
    simp only [Option.some.injEq] at hc
    simp [← hc]
theorem eqt_deep {P : Program} {t : TypeId} {is : List Nat} (hg : P.eqGuardType P.depth t = false) (h : AEq P 10000 t is) {xs ys : Array Value} {r : Bool} (w : World) (x y : Operand) (hc : ceqs xs.toList ys.toList is = some r) :
  (do eqGuard .eql t x y (.agg xs) (.agg ys); binOp .eql t (.agg xs) (.agg ys) : Sem Value).run P w = .ok (.bool r) w ∧
  (do eqGuard .neq t x y (.agg xs) (.agg ys); binOp .neq t (.agg xs) (.agg ys) : Sem Value).run P w = .ok (.bool (!r)) w := by
 have key : (Op.equal t (.agg xs) (.agg ys)).run P w = .ok r w := h xs ys r w hc
 constructor
 ·simp [eqGuard, binOp, hg, key]
 ·simp [eqGuard, binOp, hg, key]
end Go.AM
