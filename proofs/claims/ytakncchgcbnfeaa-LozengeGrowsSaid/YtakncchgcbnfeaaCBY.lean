import Derived.ChangeStays
import Derived.Deep.DeepHandedRow
import Derived.Deep.Slices
import Derived.Deep.Strs
import Derived.JoinedCond
import Derived.KernelRfl
import Derived.LaidLaws
import Derived.Laws.BytesArg
import Derived.Laws.StructEq
import Derived.OpenShut
import Derived.ProofKit
import Derived.RangeFuncLeaves
import Derived.RangeFuncRecord
import Derived.RowKit
import Derived.Test.YtakncchgcbnfeaaProg
import Derived.Test.YtakncchgcbnfeaaRows
import Derived.WalkKit
import Derived.Test.YtakncchgcbnfeaaAmB
import Derived.Test.YtakncchgcbnfeaaAmG
import Derived.Test.YtakncchgcbnfeaaAmModel
import Derived.Test.YtakncchgcbnfeaaAmRel
import Derived.Test.YtakncchgcbnfeaaAmOps6
import Derived.Test.YtakncchgcbnfeaaAmCode
import Derived.Test.YtakncchgcbnfeaaAmDraw5
import Derived.Test.YtakncchgcbnfeaaAmEq
import Derived.Test.YtakncchgcbnfeaaRBase
import Derived.Test.YtakncchgcbnfeaaR68
import Derived.Test.YtakncchgcbnfeaaAmS
import Derived.Test.YtakncchgcbnfeaaS16
import Derived.Test.YtakncchgcbnfeaaLM1
import Derived.Test.YtakncchgcbnfeaaLM3
import Derived.Test.YtakncchgcbnfeaaS48
import Derived.Test.YtakncchgcbnfeaaS49
import Derived.Test.YtakncchgcbnfeaaS50
import Derived.Test.YtakncchgcbnfeaaS17
import Derived.Test.YtakncchgcbnfeaaCA
import Derived.Test.YtakncchgcbnfeaaCB
import Derived.Test.YtakncchgcbnfeaaKB
import Derived.Test.YtakncchgcbnfeaaLE
set_option linter.unusedVariables false
set_option linter.unusedSimpArgs false
set_option linter.unusedSectionVars false
namespace Go.AM
open Go Go.Proofs
open Go.ChangeShapes Go.WideShapes
theorem un63 : Try.prog.underlying 63 = some (.slice 5) := by kernel_rfl
theorem ce5 : Try.prog.cellsOf 5 = 1 := by kernel_rfl
theorem flatB (l : List (Fin 256)) : l.flatMap (fun z => [(.int .u8 (z.val : Int) : Value)]) = l.map fun z => .int .u8 (z.val : Int) := by
  induction l with
  | nil => rfl
  | cons z l ih => simp [List.flatMap_cons, ih]
set_option maxRecDepth 100000 in
theorem openBytes {H : Type} {enc : TypeId × Value → H} {W : World} {b0 : Nat} {v : Value} {d : DataW H} {p : List MemPlace} {ρ : Map} {m : M} (hR : Rel ρ m W) (hro : ∀ row ∈ m, row.ro = true) (hval : Value.okWide Try.prog W .any b0 63 v) (hd : DataW.Trod enc Try.prog W 0 (fun _ => true) true 63 v d p) :
    ∃ (ρ' : Map) (ext : M) (xv : Value) (l : List (Fin 256)), ρ.le ρ' ∧ Rel ρ' (m ++ ext) W ∧ (∀ row ∈ (m ++ ext : M), row.ro = true) ∧ VRel ρ' xv v ∧ Bys (m ++ ext) xv l := by
  obtain ⟨fuel, hf⟩ := hd
  obtain ⟨a, len, cap, rfl⟩ := okWide_slice un63 hval
  obtain ⟨ρ', ext, xv, l, h1, h2, h3, h4, h5⟩ := openFlat un63 ce5 (by omega) (fun z : Fin 256 => [(.int .u8 (z.val : Int) : Value)]) (fun _ => rfl) (fun a v hv ρ => by simp only [List.mem_singleton] at hv; subst hv; exact .int _ _) (fun n cs x hx => by
    obtain ⟨z, hz, _, hw⟩ := DataW.trod_int un5 hx
    have hb : 0 ≤ z ∧ z ≤ 255 := by
      simp [Lit.wf] at hw
      have e : IntKind.u8.min = 0 := by decide
      have e2 : IntKind.u8.max = 255 := by decide
      omega
    refine ⟨⟨z.toNat, by omega⟩, ?_⟩
    rw [hz]
    show [Value.int .u8 z] = [.int .u8 ((z.toNat : Nat) : Int)]
    rw [show ((z.toNat : Nat) : Int) = z by omega]) hR hro hf
  refine ⟨ρ', ext, xv, l, h1, h2, h3, h4, ?_⟩
  rcases h5 with h5 | ⟨p, row, e1, e2, e3, e4⟩
  · exact .inl h5
  · have e5 := e4.trans (flatB l)
    exact .inr ⟨p, row, e1, e2, e3, fun j hj => by rw [e5]; simp [hj]⟩
end Go.AM
