import Derived.KernelRfl
import Derived.Laws.StructEq
import Derived.Maps.RangeRun
import Derived.Test.YtidapopeeoanjaaDoorRows
import Derived.WalkKit
import Derived.Test.YtidapopeeoanjaaDoorAmModel
import Derived.Test.YtidapopeeoanjaaDoorAmOps5
import Derived.Test.YtidapopeeoanjaaDoorAmOps6
import Derived.Test.YtidapopeeoanjaaDoorAmCode
import Derived.Test.YtidapopeeoanjaaDoorAmDraw5
import Derived.Test.YtidapopeeoanjaaDoorAmEq
import Derived.Test.YtidapopeeoanjaaDoorRBase
import Derived.Test.YtidapopeeoanjaaDoorB1
import Derived.Test.YtidapopeeoanjaaDoorK1
import Derived.Test.YtidapopeeoanjaaDoorR7
import Derived.Test.YtidapopeeoanjaaDoorR41
import Derived.Test.YtidapopeeoanjaaDoorR42
set_option linter.unusedVariables false
set_option linter.unusedSimpArgs false
set_option linter.unusedSectionVars false
namespace Go.AM
open Go Go.Proofs
abbrev wr (n : Int) : Int := IntKind.i64.wrap n
def cellR (cs : List Value) : Row := { esz := 0, ex := true, ro := false, cells := cs }
theorem wr_id {n : Int} (h0 : -4611686018427387904 ≤ n) (h1 : n ≤ 4611686018427387904) : wr n = n := by
  unfold wr IntKind.wrap
  simp [IntKind.bits, IntKind.signed]
  omega
theorem wr_succ (j : Nat) (h : j ≤ 1000000) : wr ((j : Int) + 1) = ((j + 1 : Nat) : Int) := (wr_id (by omega) (by omega)).trans (by omega)
theorem lss_nat (i j : Nat) : mbin E .lss 3 (vi i) (vi j) = some (.bool (decide (i < j))) := by
  have e : mbin E .lss 3 (vi i) (vi j) = some (.bool (decide ((i : Int) < j))) := rfl
  rw [e]
  congr 2
  exact decide_eq_decide.2 (by omega)
end Go.AM
