import Derived.Test.YtlpnjinofohnoaaAmEq
import Derived.Test.YtlpnjinofohnoaaRows
import Derived.KernelRfl
set_option linter.unusedVariables false
set_option linter.unusedSimpArgs false
/- The seat's environment. -/
namespace Go.AM
open Go Go.Proofs

def seqL : Code → Code | .seq a _ => a | _ => .skip
def seqR : Code → Code | .seq _ a => a | _ => .skip
def condT : Code → Code | .cond _ a _ => a | _ => .skip
def condF : Code → Code | .cond _ _ a => a | _ => .skip
def blockB : Code → Code | .block _ a => a | _ => .skip
def loopB : Code → Code | .loop a => a | _ => .skip

noncomputable def E : Env where
  P := Try.prog
  pure := fun f => [14,15,16,18,22,23,24,26,28,32,35,36,39,40,42,43,45,46,50,51,52,53,54,55,58,59,60,61,64,65,69,70,71,72,73,74,75,78,79,80,84,85,87,88,89,90,91,92,93,102,103].contains f
  eqt := fun t => if t == 80 then [0,1,2] else if t == 59 then [0, 1] else if t == 62 then [0,1,2] else if t == 38 then [0,1] else []
  live := fun _ _ => none

def fieldSum (P : Program) (t : TypeId) : List (Nat × Nat × Bool) := (P.fieldsOf t).toList.map fun f => (f.type, f.offset, f.name == "_")

theorem flat_of {P : Program} {t : TypeId} {l : List (Nat × Nat × Bool)} {k : IntKind} (h1 : P.underlying t = some (.struct (P.fieldsOf t))) (h2 : P.stoodInHeld t = false) (h3 : P.eqGuardType P.depth t = false)
    (h3' : P.underlying 3 = some (.int k)) (h4 : fieldSum P t = l) (h5 : ∀ q ∈ l, q.1 = 3 ∧ q.2.2 = false) : flatFields P t (l.map fun q => q.2.1) := by
  refine ⟨⟨h1, h2, h3⟩, ?_, fun f hf => ?_⟩
  · rw [← h4]; simp [fieldSum]
  · have := h5 (f.type, f.offset, f.name == "_") (by rw [← h4]; exact List.mem_map.2 ⟨f, hf, rfl⟩)
    simp only at this
    refine ⟨⟨k, by rw [this.1]; exact h3'⟩, ?_⟩
    have h := this.2
    simp only [beq_eq_false_iff_ne] at h
    exact h

theorem u3 : Try.prog.underlying 3 = some (.int .i64) := by kernel_rfl
theorem fl80 : flatFields Try.prog 80 [0, 1, 2] := flat_of (l := [(3,0,false),(3,1,false),(3,2,false)]) (by kernel_rfl) (by kernel_rfl) (by kernel_rfl) u3 (by kernel_rfl) (by simp)
theorem fl62 : flatFields Try.prog 62 [0, 1, 2] := flat_of (l := [(3,0,false),(3,1,false),(3,2,false)]) (by kernel_rfl) (by kernel_rfl) (by kernel_rfl) u3 (by kernel_rfl) (by simp)
theorem fl59 : flatFields Try.prog 59 [0, 1] := flat_of (l := [(3,0,false),(3,1,false)]) (by kernel_rfl) (by kernel_rfl) (by kernel_rfl) u3 (by kernel_rfl) (by simp)
theorem fl38 : flatFields Try.prog 38 [0, 1] := flat_of (l := [(3,0,false),(3,1,false)]) (by kernel_rfl) (by kernel_rfl) (by kernel_rfl) u3 (by kernel_rfl) (by simp)

theorem nogAll : (Try.prog.funcs.toList.all fun fn => !(fn.body.isSome && fn.name == "runtime.NumGoroutine")) = true := by kernel_rfl

theorem E_good : E.Good where
  eqt := by
    intro t xs ys r w x y hne hc
    have ht : t = 80 ∨ t = 59 ∨ t = 62 ∨ t = 38 := by
      unfold E at hne
      simp only [beq_iff_eq] at hne
      by_cases h1 : t = 80
      · exact .inl h1
      by_cases h2 : t = 59
      · exact .inr (.inl h2)
      by_cases h3 : t = 62
      · exact .inr (.inr (.inl h3))
      by_cases h4 : t = 38
      · exact .inr (.inr (.inr h4))
      simp [h1, h2, h3, h4] at hne
    rcases ht with rfl | rfl | rfl | rfl
    · exact eqt_flat fl80 w x y hc
    · exact eqt_flat fl59 w x y hc
    · exact eqt_flat fl62 w x y hc
    · exact eqt_flat fl38 w x y hc
  nog := by
    intro f fn hf hb
    have h := List.all_eq_true.1 nogAll fn (Array.mem_toList_iff.2 (Array.mem_of_getElem? hf))
    simpa [hb] using h

theorem E_mix : E.P.follows .mixedOrders = true := by kernel_rfl
end Go.AM
