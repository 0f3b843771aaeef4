import Derived.Carry
import Derived.Handy
import Derived.KernelRfl
import Derived.Laws.StructEq
import Derived.Maps.AppendAt
import Derived.Maps.OwnOps
import Derived.Maps.RangeRun
import Derived.Maps.RangeWalk
import Derived.Test.YtidapopeeoanjaaDoorRows
import Derived.WalkKit
import Derived.Test.YtidapopeeoanjaaDoorAmModel
import Derived.Test.YtidapopeeoanjaaDoorAmOps5
import Derived.Test.YtidapopeeoanjaaDoorAmOps6
import Derived.Test.YtidapopeeoanjaaDoorAmCode
import Derived.Test.YtidapopeeoanjaaDoorAmDraw5
import Derived.Test.YtidapopeeoanjaaDoorAmEq
import Derived.Test.YtidapopeeoanjaaDoorRBase
import Derived.Test.YtidapopeeoanjaaDoorB1
import Derived.Test.YtidapopeeoanjaaDoorK1
import Derived.Test.YtidapopeeoanjaaDoorR11
import Derived.Test.YtidapopeeoanjaaDoorR41
import Derived.Test.YtidapopeeoanjaaDoorR50
import Derived.Test.YtidapopeeoanjaaDoorD3
import Derived.Test.YtidapopeeoanjaaDoorK3
import Derived.Test.YtidapopeeoanjaaDoorAmS
import Derived.Test.YtidapopeeoanjaaDoorK4
import Derived.Test.YtidapopeeoanjaaDoorK5
import Derived.Test.YtidapopeeoanjaaDoorK6
import Derived.Test.YtidapopeeoanjaaDoorS13
import Derived.Test.YtidapopeeoanjaaDoorS14
import Derived.Test.YtidapopeeoanjaaDoorD0
import Derived.Test.YtidapopeeoanjaaDoorDet1
import Derived.Test.YtidapopeeoanjaaDoorDH1
import Derived.Test.YtidapopeeoanjaaDoorDH5
set_option linter.unusedVariables false
set_option linter.unusedSimpArgs false
set_option linter.unusedSectionVars false
namespace Go.AM
open Go Go.Proofs
theorem az0 : isTrue (r11 (ru 100) 100 0 (.int .u8 0) []) = true := by kernel_rfl
theorem az1 : isTrue (r11 (ru 100) 100 0 (.int .u8 1) []) = true := by kernel_rfl
theorem az2 : isTrue (r11 (ru 100) 100 0 (.int .u8 2) []) = true := by kernel_rfl
theorem az3 : isTrue (r11 (ru 100) 100 0 (.int .u8 3) []) = true := by kernel_rfl
theorem r11_mod (call : CallF) (fuel base : Nat) (a : Int) (m : M) (h : 0 ≤ a) : r11 call fuel base (.int .u8 a) m = r11 call fuel base (.int .u8 (a % 4)) m := by
  have e : ∀ b : Int, mbin E .rem 5 (.int .u8 b) (.int .u8 4) = some (.int .u8 (b.tmod 4)) := fun b => rfl
  have e2 : a.tmod 4 = (a % 4).tmod 4 := by
    rw [Int.tmod_eq_emod_of_nonneg h, Int.tmod_eq_emod_of_nonneg (by omega)]
    omega
  unfold r11
  rw [e, e, e2]
theorem law11 (a : Int) (h : 0 ≤ a) : ∃ m', ru 101 0 11 [.int .u8 a] [] = some (.ret (.bool true), m') := by
  have hr : ru 101 0 11 [.int .u8 a] [] = r11 (ru 100) 100 0 (.int .u8 a) [] := ru_imp (f := 11) (rf := rf11) (by kernel_rfl) (by kernel_rfl) (by kernel_rfl) 100 0 _ []
  rw [hr, r11_mod _ _ _ a _ h]
  have h4 : a % 4 = 0 ∨ a % 4 = 1 ∨ a % 4 = 2 ∨ a % 4 = 3 := by omega
  rcases h4 with e | e | e | e <;> rw [e]
  · exact isTrue_iff az0
  · exact isTrue_iff az1
  · exact isTrue_iff az2
  · exact isTrue_iff az3
end Go.AM
