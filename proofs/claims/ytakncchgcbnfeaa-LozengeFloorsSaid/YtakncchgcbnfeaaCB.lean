import Derived.ChangeStays
import Derived.Deep.DeepHandedRow
import Derived.Deep.Slices
import Derived.Deep.Strs
import Derived.JoinedCond
import Derived.KernelRfl
import Derived.LaidLaws
import Derived.Laws.BytesArg
import Derived.Laws.StructEq
import Derived.OpenShut
import Derived.ProofKit
import Derived.RangeFuncLeaves
import Derived.RangeFuncRecord
import Derived.RowKit
import Derived.Test.YtakncchgcbnfeaaProg
import Derived.Test.YtakncchgcbnfeaaRows
import Derived.WalkKit
import Derived.Test.YtakncchgcbnfeaaAmB
import Derived.Test.YtakncchgcbnfeaaAmG
import Derived.Test.YtakncchgcbnfeaaAmModel
import Derived.Test.YtakncchgcbnfeaaAmRel
import Derived.Test.YtakncchgcbnfeaaAmOps6
import Derived.Test.YtakncchgcbnfeaaAmCode
import Derived.Test.YtakncchgcbnfeaaAmDraw5
import Derived.Test.YtakncchgcbnfeaaAmEq
import Derived.Test.YtakncchgcbnfeaaRBase
import Derived.Test.YtakncchgcbnfeaaR66
import Derived.Test.YtakncchgcbnfeaaR107
import Derived.Test.YtakncchgcbnfeaaR124
import Derived.Test.YtakncchgcbnfeaaAmS
import Derived.Test.YtakncchgcbnfeaaS16
import Derived.Test.YtakncchgcbnfeaaLM1
import Derived.Test.YtakncchgcbnfeaaLM3
import Derived.Test.YtakncchgcbnfeaaS48
import Derived.Test.YtakncchgcbnfeaaS49
import Derived.Test.YtakncchgcbnfeaaS50
import Derived.Test.YtakncchgcbnfeaaS17
import Derived.Test.YtakncchgcbnfeaaCA
set_option linter.unusedVariables false
set_option linter.unusedSimpArgs false
set_option linter.unusedSectionVars false
namespace Go.AM
open Go Go.Proofs
open Go.ChangeShapes Go.WideShapes
theorem un5 : Try.prog.underlying 5 = some (.int .u8) := by kernel_rfl
theorem un58 : Try.prog.underlying 58 = some (.int .u32) := by kernel_rfl
set_option maxRecDepth 100000 in
theorem openU8 {H : Type} {enc : TypeId × Value → H} {W : World} {b0 : Nat} {v : Value} {d : DataW H} {p : List MemPlace} {ρ : Map} {m : M} (hR : Rel ρ m W) (hro : ∀ row ∈ m, row.ro = true) (hval : Value.okWide Try.prog W .any b0 5 v) (hd : DataW.Trod enc Try.prog W 0 (fun _ => true) true 5 v d p) :
    ∃ (ρ' : Map) (ext : M) (xv : Value) (n : Int), ρ.le ρ' ∧ Rel ρ' (m ++ ext) W ∧ (∀ row ∈ (m ++ ext : M), row.ro = true) ∧ VRel ρ' xv v ∧ xv = .int .u8 n ∧ 0 ≤ n := by
  obtain ⟨a0, rfl, _, _, hw⟩ := open_int un5 hval hd
  have h0 : 0 ≤ a0 := by
    simp [Lit.wf] at hw
    have e : IntKind.u8.min = 0 := by decide
    omega
  exact ⟨ρ, [], .int .u8 a0, a0, Map.le_refl _, by simpa using hR, by simpa using hro, .int _ _, rfl, h0⟩
set_option maxRecDepth 100000 in
theorem openU32 {H : Type} {enc : TypeId × Value → H} {W : World} {b0 : Nat} {v : Value} {d : DataW H} {p : List MemPlace} {ρ : Map} {m : M} (hR : Rel ρ m W) (hro : ∀ row ∈ m, row.ro = true) (hval : Value.okWide Try.prog W .any b0 58 v) (hd : DataW.Trod enc Try.prog W 0 (fun _ => true) true 58 v d p) :
    ∃ (ρ' : Map) (ext : M) (xv : Value) (n : Int), ρ.le ρ' ∧ Rel ρ' (m ++ ext) W ∧ (∀ row ∈ (m ++ ext : M), row.ro = true) ∧ VRel ρ' xv v ∧ xv = .int .u32 n ∧ 0 ≤ n ∧ n ≤ 4294967295 := by
  obtain ⟨a0, rfl, _, _, hw⟩ := open_int un58 hval hd
  have h0 : 0 ≤ a0 ∧ a0 ≤ 4294967295 := by
    simp [Lit.wf] at hw
    have e : IntKind.u32.min = 0 := by decide
    have e2 : IntKind.u32.max = 4294967295 := by decide
    omega
  exact ⟨ρ, [], .int .u32 a0, a0, Map.le_refl _, by simpa using hR, by simpa using hro, .int _ _, rfl, h0⟩
end Go.AM
