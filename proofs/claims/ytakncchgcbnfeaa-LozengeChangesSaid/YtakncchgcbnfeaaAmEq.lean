import Derived.Laws.BytesArg
import Derived.Laws.StructEq
import Derived.RangeFuncLeaves
import Derived.RangeFuncRecord
import Derived.Test.YtakncchgcbnfeaaProg
import Derived.WalkKit
import Derived.Test.YtakncchgcbnfeaaAmB
import Derived.Test.YtakncchgcbnfeaaAmG
import Derived.Test.YtakncchgcbnfeaaAmModel
import Derived.Test.YtakncchgcbnfeaaAmRel
import Derived.Test.YtakncchgcbnfeaaAmOps6
import Derived.Test.YtakncchgcbnfeaaAmCode
import Derived.Test.YtakncchgcbnfeaaAmDraw5
set_option linter.unusedVariables false
set_option linter.unusedSimpArgs false
set_option linter.unusedSectionVars false
namespace Go.AM
open Go
def isBoolT (P : Program) (t : TypeId) : Nat := match P.underlying t with
  | some .bool => 1
  | _ => 0
def plainT (P : Program) (t : TypeId) : Prop := ((∃ k, P.underlying t = some (.int k)) ∧ isBoolT P t = 0) ∨ (P.underlying t = some .bool ∧ isBoolT P t = 1)
def flatFields (P : Program) (t : TypeId) (is : List Nat) : Prop :=
  (P.underlying t = some (.struct (P.fieldsOf t)) ∧ P.stoodInHeld t = false ∧ P.eqGuardType P.depth t = false) ∧
  ((P.fieldsOf t).toList.map fun f => 2 * f.offset + isBoolT P f.type) = is ∧ ∀ f ∈ (P.fieldsOf t).toList, plainT P f.type ∧ f.name ≠ "_"
theorem eqFields_flat {P : Program} (w : World) (d : Nat) (xs ys : Array Value) : ∀ (fs : List Field) (r : Bool), (∀ f ∈ fs, plainT P f.type ∧ f.name ≠ "_") →
    ceqs xs.toList ys.toList (fs.map fun f => 2 * f.offset + isBoolT P f.type) = some r → (Op.eqFields (d + 1) xs ys fs).run P w = .ok r w
  | [], r, _, h => by
    simp only [List.map_nil, ceqs, Option.some.injEq] at h
    simp [Op.eqFields, h]
  | f :: fs, r, hf, h => by
    obtain ⟨hk, hn⟩ := hf f (by simp)
    have ih := eqFields_flat (P := P) w d xs ys fs
    have hb : isBoolT P f.type ≤ 1 := by rcases hk with h | h <;> omega
    simp only [List.map_cons, ceqs] at h
    rw [show (2 * f.offset + isBoolT P f.type) / 2 = f.offset by omega, show (2 * f.offset + isBoolT P f.type) % 2 = isBoolT P f.type by omega] at h
    split at h
    · rename_i x y hx hy
      have hx' : xs[f.offset]? = some x := by simpa using hx
      have hy' : ys[f.offset]? = some y := by simpa using hy
      have hagg : ∀ zs : Array Value, ∀ z, zs[f.offset]? = some z → (part f.type zs f.offset).run P w = .ok z w := by
        intro zs z hz
        rcases hk with ⟨⟨k, hk⟩, _⟩ | ⟨hk, _⟩ <;> simp [part, isAgg, run_underlying hk, hz]
      simp only [Op.eqFields, ne_eq, hn, not_false_eq_true, if_true, Sem.run_bind, hagg _ _ hx', hagg _ _ hy', Result.andThen_ok]
      cases hc : ceq (isBoolT P f.type) x y with
      | none => simp [hc] at h
      | some b =>
        have : (Op.equalIn (d + 1) f.type x y).run P w = .ok b w := by
          rcases hk with ⟨⟨k, hk⟩, e0⟩ | ⟨hk, e1⟩
          · rw [e0] at hc
            unfold ceq at hc
            split at hc
            · split at hc
              · rename_i a k1 b' k2 he
                subst he
                simp only [Option.some.injEq] at hc
                subst hc
                simp [Op.equalIn, run_underlying hk]
              · simp at hc
            · rename_i e; simp at e
            · simp at hc
          · rw [e1] at hc
            unfold ceq at hc
            split at hc
            · rename_i e; simp at e
            · simp only [Option.some.injEq] at hc
              subst hc
              simp [Op.equalIn, run_underlying hk]
            · simp at hc
        simp only [this, Result.andThen_ok]
        rw [hc] at h
        cases b with
        | true =>
          simp only [Bool.not_true, Bool.false_eq_true, if_false]
          exact ih r (fun g hg => hf g (by simp [hg])) h
        | false =>
          simp only [Option.some.injEq] at h
          subst h
          simp
    · simp at h
theorem eqt_flat {P : Program} {t : TypeId} {is : List Nat} (h : flatFields P t is) {xs ys : Array Value} {r : Bool} (w : World) (x y : Operand) (hc : ceqs xs.toList ys.toList is = some r) :
    (do eqGuard .eql t x y (.agg xs) (.agg ys); binOp .eql t (.agg xs) (.agg ys) : Sem Value).run P w = .ok (.bool r) w ∧
    (do eqGuard .neq t x y (.agg xs) (.agg ys); binOp .neq t (.agg xs) (.agg ys) : Sem Value).run P w = .ok (.bool (!r)) w := by
  obtain ⟨⟨h1, h2, h3⟩, h4, h5⟩ := h
  subst h4
  have key : (Op.equal t (.agg xs) (.agg ys)).run P w = .ok r w := by
    have : (Op.equal t (.agg xs) (.agg ys)).run P w = (Op.equalIn (9999 + 1) t (.agg xs) (.agg ys)).run P w := rfl
    rw [this, run_equalIn_struct w 9999 t xs ys h1 h2]
    exact eqFields_flat w 9998 xs ys _ r h5 hc
  constructor
  · simp [eqGuard, binOp, h3, key]
  · simp [eqGuard, binOp, h3, key]
theorem ceqs_append (xs ys : List Value) : ∀ (is js : List Nat), ceqs xs ys (is ++ js) = (match ceqs xs ys is with
    | some true => ceqs xs ys js
    | r => r)
  | [], js => by simp [ceqs]
  | i :: is, js => by
    simp only [List.cons_append, ceqs, ceqs_append xs ys is js]
    split
    · rename_i x y _ _
      cases ceq (i % 2) x y with
      | none => rfl
      | some b => cases b <;> rfl
    · rfl
/-- The parts of that type at a place compare as these cells do. -/
def PEq (P : Program) (d : Nat) (t : TypeId) (is : List Nat) : Prop :=
  ∀ (off : Nat) (xs ys : Array Value) (r : Bool) (w : World), ceqs xs.toList ys.toList (is.map (· + 2 * off)) = some r →
    ∃ a b, (part t xs off).run P w = .ok a w ∧ (part t ys off).run P w = .ok b w ∧ (Op.equalIn d t a b).run P w = .ok r w
theorem peq_int {P : Program} {t : TypeId} {k : IntKind} (h : P.underlying t = some (.int k)) (d : Nat) : PEq P (d + 1) t [0] := by
  intro off xs ys r w hc
  simp only [List.map_cons, List.map_nil, ceqs] at hc
  rw [show (0 + 2 * off) / 2 = off by omega, show (0 + 2 * off) % 2 = 0 by omega] at hc
  split at hc
  · rename_i x y hx hy
    have hx' : xs[off]? = some x := by simpa using hx
    have hy' : ys[off]? = some y := by simpa using hy
    have hp : ∀ zs : Array Value, ∀ z, zs[off]? = some z → (part t zs off).run P w = .ok z w := by
      intro zs z hz
      simp [part, isAgg, run_underlying h, hz]
    refine ⟨x, y, hp _ _ hx', hp _ _ hy', ?_⟩
    cases hb : ceq 0 x y with
    | none => rw [hb] at hc; simp at hc
    | some b =>
      have hr : r = b := by rw [hb] at hc; cases b <;> simp at hc <;> exact hc
      subst hr
      unfold ceq at hb
      split at hb
      · split at hb
        · rename_i he
          subst he
          simp only [Option.some.injEq] at hb
          simp [Op.equalIn, run_underlying h, ← hb]
        · simp at hb
      · exact absurd ‹(0 : Nat) = 1› (by decide)
      · simp at hb
  · simp at hc
/-- Values of that type compare as these cells do. -/
def AEq (P : Program) (d : Nat) (t : TypeId) (is : List Nat) : Prop :=
  ∀ (xs ys : Array Value) (r : Bool) (w : World), ceqs xs.toList ys.toList is = some r → (Op.equalIn d t (.agg xs) (.agg ys)).run P w = .ok r w
theorem ceqs_shift {xs ys : List Value} {off n : Nat} : ∀ {is : List Nat} {r : Bool}, (∀ i ∈ is, i / 2 < n) → ceqs xs ys (is.map (· + 2 * off)) = some r → ceqs ((xs.drop off).take n) ((ys.drop off).take n) is = some r
  | [], r, _, h => h
  | i :: is, r, hi, h => by
    simp only [List.map_cons, ceqs] at h ⊢
    have hlt := hi i (by simp)
    have e : ∀ zs : List Value, ((zs.drop off).take n)[i / 2]? = zs[(i + 2 * off) / 2]? := by
      intro zs
      rw [List.getElem?_take, if_pos hlt, List.getElem?_drop]
      congr 1
      omega
    rw [e, e, show i % 2 = (i + 2 * off) % 2 by omega]
    cases hx : xs[(i + 2 * off) / 2]? with
    | none => rw [hx] at h; simp at h
    | some x =>
      cases hy : ys[(i + 2 * off) / 2]? with
      | none => rw [hx, hy] at h; simp at h
      | some y =>
        rw [hx, hy] at h
        simp only at h ⊢
        cases hc : ceq ((i + 2 * off) % 2) x y with
        | none => rw [hc] at h; simp at h
        | some b =>
          rw [hc] at h
          cases b with
          | true => exact ceqs_shift (fun j hj => hi j (by simp [hj])) h
          | false => exact h
theorem PEq.of_agg {P : Program} {t : TypeId} {n d : Nat} {is : List Nat} (hagg : isAggB P t = some true) (hsz : szOf P t = some n) (hi : ∀ i ∈ is, i / 2 < n) (h : AEq P d t is) : PEq P d t is := by
  intro off xs ys r w hc
  have hp : ∀ zs : Array Value, (part t zs off).run P w = .ok (.agg (zs.extract off (off + n))) w := by
    intro zs
    simp [part, Sem.run_bind, run_isAgg hagg, run_sizeOf hsz]
  refine ⟨_, _, hp _, hp _, h _ _ r w ?_⟩
  have e : ∀ zs : Array Value, (zs.extract off (off + n)).toList = (zs.toList.drop off).take n := by
    intro zs
    rw [Array.toList_extract, List.extract_eq_take_drop]
    rw [show off + n - off = n by omega]
  rw [e, e]
  exact ceqs_shift hi hc
/-- An array's elements, one after another. -/
theorem aeq_array {P : Program} {t elem : TypeId} {len n d : Nat} {is : List Nat} (ht : P.underlying t = some (.array len elem)) (hsz : szOf P elem = some n) (h : PEq P d elem is) :
    AEq P (d + 1) t ((List.range len).flatMap fun i => is.map (· + 2 * (i * n))) := by
  intro xs ys r w hc
  simp only [Op.equalIn, Sem.run_bind, run_underlying ht, Result.andThen_ok, run_sizeOf hsz]
  rw [Std.Legacy.Range.forIn_eq_forIn_range']
  simp only [Std.Legacy.Range.size, Nat.sub_zero, Nat.add_sub_cancel, Nat.div_one]
  rw [List.range_eq_range'] at hc
  generalize List.range' 0 len = l at hc ⊢
  induction l with
  | nil => simp [ceqs] at hc; simp [hc]
  | cons i l ih =>
    rw [List.flatMap_cons, ceqs_append] at hc
    cases hi : ceqs xs.toList ys.toList (is.map (· + 2 * (i * n))) with
    | none => rw [hi] at hc; simp at hc
    | some b =>
      rw [hi] at hc
      obtain ⟨u, v, h1, h2, h3⟩ := h (i * n) xs ys b w hi
      simp only [List.forIn_cons, Sem.run_bind, h1, h2, h3, Result.andThen_ok]
      cases b with
      | true => simp only [Bool.not_true, Bool.false_eq_true, if_false, Sem.run_pure, Result.andThen_ok]; exact ih hc
      | false =>
        simp only [Option.some.injEq] at hc
        simp [← hc]
theorem eqFields_gen {P : Program} (w : World) (d : Nat) (xs ys : Array Value) : ∀ (fs : List (Field × List Nat)), (∀ p ∈ fs, PEq P d p.1.type p.2 ∧ p.1.name ≠ "_") → ∀ {r : Bool},
    ceqs xs.toList ys.toList (fs.flatMap fun p => p.2.map (· + 2 * p.1.offset)) = some r → (Op.eqFields d xs ys (fs.map (·.1))).run P w = .ok r w
  | [], _, r, h => by simp [ceqs] at h; simp [Op.eqFields, h]
  | (f, is) :: fs, hf, r, h => by
    obtain ⟨hp, hn⟩ := hf (f, is) (by simp)
    simp only at hp hn
    rw [List.flatMap_cons, ceqs_append] at h
    simp only at h
    cases hi : ceqs xs.toList ys.toList (is.map (· + 2 * f.offset)) with
    | none => rw [hi] at h; simp at h
    | some b =>
      rw [hi] at h
      obtain ⟨u, v, h1, h2, h3⟩ := hp f.offset xs ys b w hi
      simp only [List.map_cons, Op.eqFields, ne_eq, hn, not_false_eq_true, if_true, Sem.run_bind, h1, h2, h3, Result.andThen_ok]
      cases b with
      | true => simp only [Bool.not_true, Bool.false_eq_true, if_false]; exact eqFields_gen w d xs ys fs (fun p hp => hf p (by simp [hp])) h
      | false =>
        simp only [Option.some.injEq] at h
        simp [← h]
theorem aeq_struct {P : Program} {t : TypeId} {d : Nat} (ht : P.underlying t = some (.struct (P.fieldsOf t))) (hp : P.stoodInHeld t = false) {iss : List (List Nat)}
    (hl : (P.fieldsOf t).toList.length = iss.length) (hf : ∀ p ∈ (P.fieldsOf t).toList.zip iss, PEq P d p.1.type p.2 ∧ p.1.name ≠ "_") :
    AEq P (d + 1) t (((P.fieldsOf t).toList.zip iss).flatMap fun p => p.2.map (· + 2 * p.1.offset)) := by
  intro xs ys r w hc
  rw [run_equalIn_struct w d t xs ys ht hp]
  have := eqFields_gen w d xs ys _ hf hc
  rwa [show ((P.fieldsOf t).toList.zip iss).map (·.1) = (P.fieldsOf t).toList from List.map_fst_zip (by omega)] at this
theorem eqt_deep {P : Program} {t : TypeId} {is : List Nat} (hg : P.eqGuardType P.depth t = false) (h : AEq P 10000 t is) {xs ys : Array Value} {r : Bool} (w : World) (x y : Operand) (hc : ceqs xs.toList ys.toList is = some r) :
    (do eqGuard .eql t x y (.agg xs) (.agg ys); binOp .eql t (.agg xs) (.agg ys) : Sem Value).run P w = .ok (.bool r) w ∧
    (do eqGuard .neq t x y (.agg xs) (.agg ys); binOp .neq t (.agg xs) (.agg ys) : Sem Value).run P w = .ok (.bool (!r)) w := by
  have key : (Op.equal t (.agg xs) (.agg ys)).run P w = .ok r w := h xs ys r w hc
  constructor
  · simp [eqGuard, binOp, hg, key]
  · simp [eqGuard, binOp, hg, key]
end Go.AM
