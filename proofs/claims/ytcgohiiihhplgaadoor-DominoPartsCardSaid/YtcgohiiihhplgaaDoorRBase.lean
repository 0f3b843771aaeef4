import Derived.KernelRfl
import Derived.Laws.BytesArg
import Derived.Laws.StructEq
import Derived.Test.YtcgohiiihhplgaaDoorRows
import Derived.WalkKit
import Derived.Test.YtcgohiiihhplgaaDoorAmB
import Derived.Test.YtcgohiiihhplgaaDoorAmModel
import Derived.Test.YtcgohiiihhplgaaDoorAmOps6
import Derived.Test.YtcgohiiihhplgaaDoorAmCode
import Derived.Test.YtcgohiiihhplgaaDoorAmK2
import Derived.Test.YtcgohiiihhplgaaDoorAmEq
set_option linter.unusedVariables false
set_option linter.unusedSimpArgs false
set_option linter.unusedSectionVars false
namespace Go.AM
open Go Go.Proofs
def seqL : Code → Code | .seq a _ => a | _ => .skip
def seqR : Code → Code | .seq _ a => a | _ => .skip
def blockB : Code → Code | .block _ a => a | _ => .skip
def loopB : Code → Code | .loop a => a | _ => .skip
noncomputable def E : Env where
  P := Tryd.prog
  pure := fun f => [12,13,16,17,18,19,20,21,22,24,25,26,29,30,31,34,36,38,39,41,42,44,45,46,47,49,50,52,53,56,57,60,63,64,65,66,68,69,70,71,72,73,74,76,77,80,81,86,87,88,89,90,92,93,95,101,102,103].contains f
  eqt := fun t => if t == 68 then [0, 2] else if t == 31 then [0, 2, 5] else []
  live := fun _ _ => none
def fieldSum (P : Program) (t : TypeId) : List (Nat × Nat × Bool) := (P.fieldsOf t).toList.map fun f => (f.type, f.offset, f.name == "_")
theorem flat_of {P : Program} {t : TypeId} {l : List (Nat × Nat × Bool)} {k : IntKind} (h1 : P.underlying t = some (.struct (P.fieldsOf t))) (h2 : P.stoodInHeld t = false) (h3 : P.eqGuardType P.depth t = false)
    (h3' : P.underlying 3 = some (.int k)) (h4' : P.underlying 4 = some .bool) (h4 : fieldSum P t = l) (h5 : ∀ q ∈ l, (q.1 = 3 ∨ q.1 = 4) ∧ q.2.2 = false) : flatFields P t (l.map fun q => 2 * q.2.1 + (if q.1 = 4 then 1 else 0)) := by
  have b3 : isBoolT P 3 = 0 := by unfold isBoolT; rw [h3']
  have b4 : isBoolT P 4 = 1 := by unfold isBoolT; rw [h4']
  have hq : ∀ f ∈ (P.fieldsOf t).toList, ((f.type = 3 ∨ f.type = 4) ∧ (f.name == "_") = false) := fun f hf =>
    h5 (f.type, f.offset, f.name == "_") (by rw [← h4]; exact List.mem_map.2 ⟨f, hf, rfl⟩)
  refine ⟨⟨h1, h2, h3⟩, ?_, fun f hf => ?_⟩
  · rw [← h4]
    unfold fieldSum
    rw [List.map_map]
    refine List.map_congr_left fun f hf => ?_
    rcases (hq f hf).1 with e | e
    · simp [e, b3]
    · simp [e, b4]
  · obtain ⟨e1, e2⟩ := hq f hf
    simp only [beq_eq_false_iff_ne] at e2
    refine ⟨?_, e2⟩
    rcases e1 with e | e
    · exact .inl ⟨⟨k, by rw [e]; exact h3'⟩, by rw [e]; exact b3⟩
    · exact .inr ⟨by rw [e]; exact h4', by rw [e]; exact b4⟩
theorem u3 : Tryd.prog.underlying 3 = some (.int .i64) := by kernel_rfl
theorem u4 : Tryd.prog.underlying 4 = some .bool := by kernel_rfl
theorem fl68 : flatFields Tryd.prog 68 [0, 2] := flat_of (l := [(3,0,false),(3,1,false)]) (by kernel_rfl) (by kernel_rfl) (by kernel_rfl) u3 u4 (by kernel_rfl) (by simp)
theorem fl31 : flatFields Tryd.prog 31 [0, 2, 5] := flat_of (l := [(3,0,false),(3,1,false),(4,2,false)]) (by kernel_rfl) (by kernel_rfl) (by kernel_rfl) u3 u4 (by kernel_rfl) (by simp)
theorem nogAll : (Tryd.prog.funcs.toList.all fun fn => !(fn.body.isSome && fn.name == "runtime.NumGoroutine")) = true := by kernel_rfl
theorem E_good : E.Good where
  eqt := by
    intro t xs ys r w x y hne hc
    have ht : t = 68 ∨ t = 31 := by
      unfold E at hne
      simp only [beq_iff_eq] at hne
      by_cases h1 : t = 68
      · exact .inl h1
      by_cases h2 : t = 31
      · exact .inr h2
      simp [h1, h2] at hne
    rcases ht with rfl | rfl
    · exact eqt_flat fl68 w x y hc
    · exact eqt_flat fl31 w x y hc
  nog := by
    intro f fn hf hb
    have h := List.all_eq_true.1 nogAll fn (Array.mem_toList_iff.2 (Array.mem_of_getElem? hf))
    simpa [hb] using h
theorem E_mix : E.P.follows .mixedOrders = true := by kernel_rfl
end Go.AM
