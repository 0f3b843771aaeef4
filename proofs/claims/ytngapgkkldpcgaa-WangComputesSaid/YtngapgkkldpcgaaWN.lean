import Derived.ChangeStays
import Derived.Deep.DeepHandedRow
import Derived.Deep.Slices
import Derived.Deep.Strs
import Derived.JoinedCond
import Derived.KernelRfl
import Derived.LaidLaws
import Derived.Laws.BytesArg
import Derived.Laws.StructEq
import Derived.OpenShut
import Derived.ProofKit
import Derived.RowKit
import Derived.Test.YtngapgkkldpcgaaRows
import Derived.WalkKit
import Derived.Test.YtngapgkkldpcgaaAmB
import Derived.Test.YtngapgkkldpcgaaAmModel
import Derived.Test.YtngapgkkldpcgaaAmOps5
import Derived.Test.YtngapgkkldpcgaaAmOps6
import Derived.Test.YtngapgkkldpcgaaAmCode
import Derived.Test.YtngapgkkldpcgaaAmK
import Derived.Test.YtngapgkkldpcgaaAmEq
import Derived.Test.YtngapgkkldpcgaaRBase
import Derived.Test.YtngapgkkldpcgaaR60
import Derived.Test.YtngapgkkldpcgaaWd
import Derived.Test.YtngapgkkldpcgaaAmS
import Derived.Test.YtngapgkkldpcgaaS16
import Derived.Test.YtngapgkkldpcgaaS17
import Derived.Test.YtngapgkkldpcgaaWM
import Derived.Test.YtngapgkkldpcgaaWB
import Derived.Test.YtngapgkkldpcgaaWJ
set_option linter.unusedVariables false
set_option linter.unusedSimpArgs false
set_option linter.unusedSectionVars false
namespace Go.AM
open Go Go.Proofs
open Go.ChangeShapes Go.WideShapes
noncomputable def fld (t : TypeId) (i : Nat) : Field := match (Try.prog.fieldsOf t)[i]? with
  | some f => f
  | none => { name := "", type := 0, embedded := false, tag := "", pkgPath := "", offset := 0, byteOffset := 0 }
theorem un69 : Try.prog.underlying 69 = some (.struct #[fld 69 0, fld 69 1, fld 69 2]) := by kernel_rfl
theorem un32 : Try.prog.underlying 32 = some (.struct #[fld 32 0, fld 32 1]) := by kernel_rfl
theorem ce69 : Try.prog.cellsOf 69 = 3 := by kernel_rfl
theorem ce32 : Try.prog.cellsOf 32 = 2 := by kernel_rfl
theorem ce30 : Try.prog.cellsOf 30 = 1 := by kernel_rfl
theorem of69 : (fld 69 0).offset = 0 ∧ (fld 69 1).offset = 1 ∧ (fld 69 2).offset = 2 := ⟨by kernel_rfl, by kernel_rfl, by kernel_rfl⟩
theorem ty69 : (fld 69 0).type = 3 ∧ (fld 69 1).type = 4 ∧ (fld 69 2).type = 3 := ⟨by kernel_rfl, by kernel_rfl, by kernel_rfl⟩
theorem of32 : (fld 32 0).offset = 0 ∧ (fld 32 1).offset = 1 := ⟨by kernel_rfl, by kernel_rfl⟩
theorem ty32 : (fld 32 0).type = 3 ∧ (fld 32 1).type = 30 := ⟨by kernel_rfl, by kernel_rfl⟩
set_option maxRecDepth 100000 in
theorem openEntsC {H : Type} {enc : TypeId × Value → H} {W : World} {ρ : Map} {m : M} (hR : Rel ρ m W) (hro : ∀ row ∈ m, row.ro = true) {fuel : Nat} {v : Value} {x : DataW H × List MemPlace} (h : DataW.trod enc Try.prog W 0 (fun _ => true) true fuel 30 [v] = some x) :
    ∃ (ρ' : Map) (ext : M) (xv : Value) (l : List Ent), ρ.le ρ' ∧ Rel ρ' (m ++ ext) W ∧ (∀ row ∈ (m ++ ext : M), row.ro = true) ∧ VRel ρ' xv v ∧ Ents (m ++ ext) xv l := by
  obtain ⟨ρ', ext, xv, l, h1, h2, h3, h4, h5⟩ := openFlat un30 ce69 (by omega) eC (fun _ => rfl) (fun a v hv ρ => by
    simp only [List.mem_cons, List.not_mem_nil, or_false] at hv
    rcases hv with rfl | rfl | rfl
    · exact .int _ _
    · exact .bool _
    · exact .int _ _) (fun n cs x hx => by
    obtain ⟨y0, y1, y2, k, _, hl, g0, g1, g2⟩ := Go.Deep.trod_struct3 un69 hx
    rw [ce69] at hl
    match cs, hl with
    | [v0, v1, v2], _ =>
      rw [of69.1, ty69.1, ce3] at g0
      rw [of69.2.1, ty69.2.1, ce4] at g1
      rw [of69.2.2, ty69.2.2, ce3] at g2
      obtain ⟨z0, c0, _⟩ := DataW.trod_int u3 (show DataW.trod enc Try.prog W 0 (fun _ => true) true k 3 [v0] = some y0 from g0)
      obtain ⟨b1, c1, _⟩ := DataW.trod_bool un4 (show DataW.trod enc Try.prog W 0 (fun _ => true) true k 4 [v1] = some y1 from g1)
      obtain ⟨z2, c2, _⟩ := DataW.trod_int u3 (show DataW.trod enc Try.prog W 0 (fun _ => true) true k 3 [v2] = some y2 from g2)
      simp only [List.cons.injEq, and_true] at c0 c1 c2
      exact ⟨(z0, b1, z2), by rw [c0, c1, c2]; rfl⟩) hR hro h
  refine ⟨ρ', ext, xv, l, h1, h2, h3, h4, ?_⟩
  rcases h5 with h5 | ⟨p, row, e1, e2, e3, e4⟩
  · exact .inl h5
  · exact .inr ⟨p, 0, l.length, row, e1, Nat.le_refl _, e2, e3, by rw [e4, flat_len (z := 3) (fun _ => rfl)]; omega, fun j hj => by rw [e4, Nat.zero_add]; exact flat_cell (f := eC) (z := 3) (fun _ => rfl) l j hj⟩
set_option maxRecDepth 100000 in
theorem openMachine {H : Type} {enc : TypeId × Value → H} {W : World} {b0 : Nat} {v : Value} {d : DataW H} {p : List MemPlace} {ρ : Map} {m : M} (hR : Rel ρ m W) (hro : ∀ row ∈ m, row.ro = true) (hval : Value.okWide Try.prog W .any b0 32 v) (hd : DataW.Trod enc Try.prog W 0 (fun _ => true) true 32 v d p) :
    ∃ (ρ' : Map) (ext : M) (xv : Value) (x : Int × List Ent), ρ.le ρ' ∧ Rel ρ' (m ++ ext) W ∧ (∀ row ∈ (m ++ ext : M), row.ro = true) ∧ VRel ρ' xv v ∧ Mch (m ++ ext) xv x := by
  obtain ⟨cs, rfl, hsz⟩ := okWide_struct un32 hval
  obtain ⟨fuel, hf⟩ := hd
  have hf' : DataW.trod enc Try.prog W 0 (fun _ => true) true fuel 32 cs.toList = some (d, p) := hf
  obtain ⟨y0, y1, n, _, hl, g0, g1⟩ := trod_struct2 un32 hf'
  rw [ce32] at hl
  obtain ⟨a, b, hab⟩ : ∃ a b, cs.toList = [a, b] := by
    match h : cs.toList, hl with
    | [a, b], _ => exact ⟨a, b, rfl⟩
  rw [hab, of32.1, ty32.1, ce3] at g0
  rw [hab, of32.2, ty32.2, ce30] at g1
  obtain ⟨z, c0, _⟩ := DataW.trod_int u3 (show DataW.trod enc Try.prog W 0 (fun _ => true) true n 3 [a] = some y0 from g0)
  simp only [List.cons.injEq, and_true] at c0
  subst c0
  obtain ⟨ρ', ext, xv, l, h1, h2, h3, h4, h5⟩ := openEntsC hR hro (show DataW.trod enc Try.prog W 0 (fun _ => true) true n 30 [b] = some y1 from g1)
  obtain rfl : cs = [Value.int .i64 z, b].toArray := by apply Array.ext'; simpa using hab
  exact ⟨ρ', ext, mcV z xv, (z, l), h1, h2, h3, vrel_agg (x := [vi z, xv]) (LRel.cons (.int _ _) (LRel.cons h4 (LRel.nil _))), xv, rfl, h5⟩
end Go.AM
