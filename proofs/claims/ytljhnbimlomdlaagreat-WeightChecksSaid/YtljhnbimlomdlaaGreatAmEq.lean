import Derived.Laws.BytesArg
import Derived.Laws.StructEq
import Derived.RangeFuncLeaves
import Derived.RangeFuncRecord
import Derived.Test.YtljhnbimlomdlaaGreatProg
import Derived.WalkKit
import Derived.Test.YtljhnbimlomdlaaGreatAmB
import Derived.Test.YtljhnbimlomdlaaGreatAmG
import Derived.Test.YtljhnbimlomdlaaGreatAmModel
import Derived.Test.YtljhnbimlomdlaaGreatAmRel
import Derived.Test.YtljhnbimlomdlaaGreatAmOps6
import Derived.Test.YtljhnbimlomdlaaGreatAmCode
import Derived.Test.YtljhnbimlomdlaaGreatAmDraw5
set_option linter.unusedVariables false
set_option linter.unusedSimpArgs false
set_option linter.unusedSectionVars false
namespace Go.AM
open Go
def isBoolT (P : Program) (t : TypeId) : Nat := match P.underlying t with
  | some .bool => 1
  | _ => 0
def plainT (P : Program) (t : TypeId) : Prop := ((∃ k, P.underlying t = some (.int k)) ∧ isBoolT P t = 0) ∨ (P.underlying t = some .bool ∧ isBoolT P t = 1)
def flatFields (P : Program) (t : TypeId) (is : List Nat) : Prop :=
  (P.underlying t = some (.struct (P.fieldsOf t)) ∧ P.stoodInHeld t = false ∧ P.eqGuardType P.depth t = false) ∧
  ((P.fieldsOf t).toList.map fun f => 2 * f.offset + isBoolT P f.type) = is ∧ ∀ f ∈ (P.fieldsOf t).toList, plainT P f.type ∧ f.name ≠ "_"
theorem eqFields_flat {P : Program} (w : World) (d : Nat) (xs ys : Array Value) : ∀ (fs : List Field) (r : Bool), (∀ f ∈ fs, plainT P f.type ∧ f.name ≠ "_") →
    ceqs xs.toList ys.toList (fs.map fun f => 2 * f.offset + isBoolT P f.type) = some r → (Op.eqFields (d + 1) xs ys fs).run P w = .ok r w
  | [], r, _, h => by
    simp only [List.map_nil, ceqs, Option.some.injEq] at h
    simp [Op.eqFields, h]
  | f :: fs, r, hf, h => by
    obtain ⟨hk, hn⟩ := hf f (by simp)
    have ih := eqFields_flat (P := P) w d xs ys fs
    have hb : isBoolT P f.type ≤ 1 := by rcases hk with h | h <;> omega
    simp only [List.map_cons, ceqs] at h
    rw [show (2 * f.offset + isBoolT P f.type) / 2 = f.offset by omega, show (2 * f.offset + isBoolT P f.type) % 2 = isBoolT P f.type by omega] at h
    split at h
    · rename_i x y hx hy
      have hx' : xs[f.offset]? = some x := by simpa using hx
      have hy' : ys[f.offset]? = some y := by simpa using hy
      have hagg : ∀ zs : Array Value, ∀ z, zs[f.offset]? = some z → (part f.type zs f.offset).run P w = .ok z w := by
        intro zs z hz
        rcases hk with ⟨⟨k, hk⟩, _⟩ | ⟨hk, _⟩ <;> simp [part, isAgg, run_underlying hk, hz]
      simp only [Op.eqFields, ne_eq, hn, not_false_eq_true, if_true, Sem.run_bind, hagg _ _ hx', hagg _ _ hy', Result.andThen_ok]
      cases hc : ceq (isBoolT P f.type) x y with
      | none => simp [hc] at h
      | some b =>
        have : (Op.equalIn (d + 1) f.type x y).run P w = .ok b w := by
          rcases hk with ⟨⟨k, hk⟩, e0⟩ | ⟨hk, e1⟩
          · rw [e0] at hc
            unfold ceq at hc
            split at hc
            · split at hc
              · rename_i a k1 b' k2 he
                subst he
                simp only [Option.some.injEq] at hc
                subst hc
                simp [Op.equalIn, run_underlying hk]
              · simp at hc
            · rename_i e; simp at e
            · simp at hc
          · rw [e1] at hc
            unfold ceq at hc
            split at hc
            · rename_i e; simp at e
            · simp only [Option.some.injEq] at hc
              subst hc
              simp [Op.equalIn, run_underlying hk]
            · simp at hc
        simp only [this, Result.andThen_ok]
        rw [hc] at h
        cases b with
        | true =>
          simp only [Bool.not_true, Bool.false_eq_true, if_false]
          exact ih r (fun g hg => hf g (by simp [hg])) h
        | false =>
          simp only [Option.some.injEq] at h
          subst h
          simp
    · simp at h
theorem eqt_flat {P : Program} {t : TypeId} {is : List Nat} (h : flatFields P t is) {xs ys : Array Value} {r : Bool} (w : World) (x y : Operand) (hc : ceqs xs.toList ys.toList is = some r) :
    (do eqGuard .eql t x y (.agg xs) (.agg ys); binOp .eql t (.agg xs) (.agg ys) : Sem Value).run P w = .ok (.bool r) w ∧
    (do eqGuard .neq t x y (.agg xs) (.agg ys); binOp .neq t (.agg xs) (.agg ys) : Sem Value).run P w = .ok (.bool (!r)) w := by
  obtain ⟨⟨h1, h2, h3⟩, h4, h5⟩ := h
  subst h4
  have key : (Op.equal t (.agg xs) (.agg ys)).run P w = .ok r w := by
    have : (Op.equal t (.agg xs) (.agg ys)).run P w = (Op.equalIn (9999 + 1) t (.agg xs) (.agg ys)).run P w := rfl
    rw [this, run_equalIn_struct w 9999 t xs ys h1 h2]
    exact eqFields_flat w 9998 xs ys _ r h5 hc
  constructor
  · simp [eqGuard, binOp, h3, key]
  · simp [eqGuard, binOp, h3, key]
end Go.AM
