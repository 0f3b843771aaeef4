import Derived.ChangeStays
import Derived.Deep.DeepHandedRow
import Derived.Deep.Slices
import Derived.Deep.Strs
import Derived.JoinedCond
import Derived.KernelRfl
import Derived.LaidLaws
import Derived.Laws.BytesArg
import Derived.Laws.StructEq
import Derived.OpenShut
import Derived.ProofKit
import Derived.RangeFuncLeaves
import Derived.RangeFuncRecord
import Derived.RowKit
import Derived.Test.YtakncchgcbnfeaaProg
import Derived.Test.YtakncchgcbnfeaaRows
import Derived.WalkKit
import Derived.Test.YtakncchgcbnfeaaAmB
import Derived.Test.YtakncchgcbnfeaaAmG
import Derived.Test.YtakncchgcbnfeaaAmModel
import Derived.Test.YtakncchgcbnfeaaAmRel
import Derived.Test.YtakncchgcbnfeaaAmOps6
import Derived.Test.YtakncchgcbnfeaaAmCode
import Derived.Test.YtakncchgcbnfeaaAmDraw5
import Derived.Test.YtakncchgcbnfeaaAmEq
import Derived.Test.YtakncchgcbnfeaaRBase
import Derived.Test.YtakncchgcbnfeaaR66
import Derived.Test.YtakncchgcbnfeaaR115
import Derived.Test.YtakncchgcbnfeaaAmS
import Derived.Test.YtakncchgcbnfeaaS16
import Derived.Test.YtakncchgcbnfeaaLM2
import Derived.Test.YtakncchgcbnfeaaLM3
import Derived.Test.YtakncchgcbnfeaaCA
set_option linter.unusedVariables false
set_option linter.unusedSimpArgs false
set_option linter.unusedSectionVars false
namespace Go.AM
open Go Go.Proofs
open Go.ChangeShapes Go.WideShapes
theorem un23 : Try.prog.underlying 23 = some (.struct (Try.prog.fieldsOf 23)) := by kernel_rfl
theorem ce23 : Try.prog.cellsOf 23 = (Try.prog.fieldsOf 23).size := by kernel_rfl
theorem sz23 : (Try.prog.fieldsOf 23).size = 3 := by kernel_rfl
theorem fi23 : fieldsIn (Try.prog.fieldsOf 23) 3 = true := by kernel_rfl
set_option maxRecDepth 100000 in
theorem openBox {H : Type} {enc : TypeId × Value → H} {W : World} {b0 : Nat} {v : Value} {d : DataW H} {p : List MemPlace} {ρ : Map} {m : M} (hR : Rel ρ m W) (hro : ∀ row ∈ m, row.ro = true) (hval : Value.okWide Try.prog W .any b0 23 v) (hd : DataW.Trod enc Try.prog W 0 (fun _ => true) true 23 v d p) :
    ∃ (ρ' : Map) (ext : M) (xv : Value) (l : Int × Int × Int), ρ.le ρ' ∧ Rel ρ' (m ++ ext) W ∧ (∀ row ∈ (m ++ ext : M), row.ro = true) ∧ VRel ρ' xv v ∧ xv = boxV l.1 l.2.1 l.2.2 := by
  obtain ⟨cs, rfl, hsz⟩ := okWide_struct un23 hval
  obtain ⟨fuel, hf⟩ := hd
  have hf' : DataW.trod enc Try.prog W 0 (fun _ => true) true fuel 23 cs.toList = some (d, p) := hf
  obtain ⟨l, e1, _, e3, _⟩ := ints_of_trod un23 u3 ce3 ce23 (fieldsIn_of fi23) hf'
  rw [sz23] at e3
  match l, e3 with
  | [A, B, C], _ =>
    obtain rfl : cs = [Value.int .i64 A, .int .i64 B, .int .i64 C].toArray := by apply Array.ext'; simpa using e1
    exact ⟨ρ, [], boxV A B C, (A, B, C), Map.le_refl _, by simpa using hR, by simpa using hro, vrel_agg (x := [vi A, vi B, vi C]) (LRel.cons (.int _ _) (LRel.cons (.int _ _) (LRel.cons (.int _ _) (LRel.nil _)))), rfl⟩
end Go.AM
