import Derived.KernelRfl
import Derived.Laws.BytesArg
import Derived.Laws.StructEq
import Derived.RangeFuncLeaves
import Derived.RangeFuncRecord
import Derived.Test.YtakncchgcbnfeaaProg
import Derived.Test.YtakncchgcbnfeaaRows
import Derived.WalkKit
import Derived.Test.YtakncchgcbnfeaaAmB
import Derived.Test.YtakncchgcbnfeaaAmG
import Derived.Test.YtakncchgcbnfeaaAmModel
import Derived.Test.YtakncchgcbnfeaaAmRel
import Derived.Test.YtakncchgcbnfeaaAmOps6
import Derived.Test.YtakncchgcbnfeaaAmCode
import Derived.Test.YtakncchgcbnfeaaAmDraw5
import Derived.Test.YtakncchgcbnfeaaAmEq
import Derived.Test.YtakncchgcbnfeaaRBase
import Derived.Test.YtakncchgcbnfeaaR66
import Derived.Test.YtakncchgcbnfeaaR107
import Derived.Test.YtakncchgcbnfeaaR124
import Derived.Test.YtakncchgcbnfeaaAmS
import Derived.Test.YtakncchgcbnfeaaLM1
import Derived.Test.YtakncchgcbnfeaaLM3
import Derived.Test.YtakncchgcbnfeaaS49
set_option linter.unusedVariables false
set_option linter.unusedSimpArgs false
set_option linter.unusedSectionVars false
namespace Go.AM
open Go Go.Proofs
theorem all15_41 : ([1, 2, 3, 4].all fun c => isNumOk (rf15 (rc 60) 60 0 [boxV 4 1 (c : Nat)] []) (cntL 4 1 c)) = true := by kernel_rfl
theorem all15_42 : ([1, 2, 3, 4].all fun c => isNumOk (rf15 (rc 60) 60 0 [boxV 4 2 (c : Nat)] []) (cntL 4 2 c)) = true := by kernel_rfl
theorem all15_43 : ([1, 2, 3, 4].all fun c => isNumOk (rf15 (rc 60) 60 0 [boxV 4 3 (c : Nat)] []) (cntL 4 3 c)) = true := by kernel_rfl
theorem all15_44 : ([1, 2, 3, 4].all fun c => isNumOk (rf15 (rc 60) 60 0 [boxV 4 4 (c : Nat)] []) (cntL 4 4 c)) = true := by kernel_rfl
theorem ok15 {a b c : Nat} (ha : 1 ≤ a ∧ a ≤ 4) (hb : 1 ≤ b ∧ b ≤ 4) (hc : 1 ≤ c ∧ c ≤ 4) : isNumOk (rf15 (rc 60) 60 0 [boxV a b c] []) (cntL a b c) = true := by
  have h4 : ∀ x, 1 ≤ x ∧ x ≤ 4 → x ∈ [1, 2, 3, 4] := by intro x hx; simp; omega
  have h := h4 c hc
  have ha' : a = 1 ∨ a = 2 ∨ a = 3 ∨ a = 4 := by omega
  have hb' : b = 1 ∨ b = 2 ∨ b = 3 ∨ b = 4 := by omega
  rcases ha' with rfl | rfl | rfl | rfl <;> rcases hb' with rfl | rfl | rfl | rfl
  · exact List.all_eq_true.1 all15_11 c h
  · exact List.all_eq_true.1 all15_12 c h
  · exact List.all_eq_true.1 all15_13 c h
  · exact List.all_eq_true.1 all15_14 c h
  · exact List.all_eq_true.1 all15_21 c h
  · exact List.all_eq_true.1 all15_22 c h
  · exact List.all_eq_true.1 all15_23 c h
  · exact List.all_eq_true.1 all15_24 c h
  · exact List.all_eq_true.1 all15_31 c h
  · exact List.all_eq_true.1 all15_32 c h
  · exact List.all_eq_true.1 all15_33 c h
  · exact List.all_eq_true.1 all15_34 c h
  · exact List.all_eq_true.1 all15_41 c h
  · exact List.all_eq_true.1 all15_42 c h
  · exact List.all_eq_true.1 all15_43 c h
  · exact List.all_eq_true.1 all15_44 c h
end Go.AM
