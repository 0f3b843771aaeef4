import Derived.KernelRfl
import Derived.Laws.BytesArg
import Derived.Laws.StructEq
import Derived.RangeFuncLeaves
import Derived.RangeFuncRecord
import Derived.Test.YtnefldkiipdckaaProg
import Derived.Test.YtnefldkiipdckaaRows
import Derived.WalkKit
import Derived.Test.YtnefldkiipdckaaAmB
import Derived.Test.YtnefldkiipdckaaAmG
import Derived.Test.YtnefldkiipdckaaAmModel
import Derived.Test.YtnefldkiipdckaaAmRel
import Derived.Test.YtnefldkiipdckaaAmOps6
import Derived.Test.YtnefldkiipdckaaAmCode
import Derived.Test.YtnefldkiipdckaaAmDraw5
import Derived.Test.YtnefldkiipdckaaAmEq
import Derived.Test.YtnefldkiipdckaaRBase
import Derived.Test.YtnefldkiipdckaaR81
import Derived.Test.YtnefldkiipdckaaAmS
import Derived.Test.YtnefldkiipdckaaS16
set_option linter.unusedVariables false
set_option linter.unusedSimpArgs false
set_option linter.unusedSectionVars false
namespace Go.AM
open Go Go.Proofs
theorem rs_imp {f : FuncId} {rf : RF} (hs : sfind f [] = none) (hf : rfind f tab = some rf) (hp : E.pure f = false) (n base : Nat) (args : List Value) (m : M) : rs (n + 1) base f args m = rf (rs n) n base args m := by
  show scallN [] E.pure tab (n + 1) base f args m = _
  unfold scallN
  simp only [scall, hs, hf, hp]
  rfl
def mR (x : Option (Ret × M)) : Bool := match x with
  | some (.ret (.bool true), _) => true
  | _ => false
theorem mR_some {x : Option (Ret × M)} (h : mR x = true) : ∃ m, x = some (.ret (.bool true), m) := by
  unfold mR at h
  split at h
  · exact ⟨_, rfl⟩
  · simp at h
def k1n (o : Option Value) (k : Value → Res2) : Res2 := match o with
  | some r => k r
  | none => none
theorem k1_fun : k1 = k1n := by
  funext o k
  cases o with
  | none => rfl
  | some v => exact fVal_eq v k
theorem nob_t (k a b n : Int) : mR (r7 (rs 209) 209 0 (.agg #[.int .u8 k, .int .i64 a, .int .i64 b, .int .i64 n]) (.bool true) []) = true := by
  unfold r7
  rw [k1_fun]
  kernel_rfl
theorem nob_f (k a b n : Int) : mR (r7 (rs 209) 209 0 (.agg #[.int .u8 k, .int .i64 a, .int .i64 b, .int .i64 n]) (.bool false) []) = true := by
  unfold r7
  rw [k1_fun]
  kernel_rfl
theorem nobody (k a b n : Int) (w : Bool) : ∃ m, rs 210 0 7 [.agg #[.int .u8 k, .int .i64 a, .int .i64 b, .int .i64 n], .bool w] [] = some (.ret (.bool true), m) := by
  rw [rs_imp (f := 7) (rf := rf7) (by kernel_rfl) (by kernel_rfl) (by kernel_rfl)]
  show ∃ m, r7 (rs 209) 209 0 (.agg #[.int .u8 k, .int .i64 a, .int .i64 b, .int .i64 n]) (.bool w) [] = some (.ret (.bool true), m)
  cases w
  · exact mR_some (nob_f k a b n)
  · exact mR_some (nob_t k a b n)
end Go.AM
