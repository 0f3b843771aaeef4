import Derived.Laws.BytesArg
import Derived.RangeFuncLeaves
import Derived.RangeFuncRecord
import Derived.Test.YtnefldkiipdckaaProg
import Derived.WalkKit
import Derived.Test.YtnefldkiipdckaaAmB
import Derived.Test.YtnefldkiipdckaaAmG
import Derived.Test.YtnefldkiipdckaaAmModel
import Derived.Test.YtnefldkiipdckaaAmRel
import Derived.Test.YtnefldkiipdckaaAmOps6
import Derived.Test.YtnefldkiipdckaaAmCode
import Derived.Test.YtnefldkiipdckaaAmDraw5
set_option linter.unusedVariables false
set_option linter.unusedSimpArgs false
set_option linter.unusedSectionVars false
namespace Go.AM
open Go
def SoundOne (E : Env) (base : Nat) (f : FuncId) (args : List Value) (m : M) (r : Ret) (m' : M) : Prop :=
 f ≠ yid ∧ m.length ≤ m'.length ∧ (∃ fn, E.P.funcs[f]? = some fn ∧ fn.body.isSome = true) ∧
 ∀ ρ w vs, Rel ρ m w → base ≤ m.length → LRel ρ args vs → Calls E.P f vs.toArray w (RetOk base ρ w m' r)
theorem SoundCall.one {E : Env} {call : CallF} (h : SoundCall E call) {base : Nat} {f : FuncId} {args : List Value} {m m' : M} {r : Ret} (hc : call base f args m = some (r, m'))  (hy : f ≠ yid) : SoundOne E base f args m r m' := ⟨hy, (h base f args m r m' hc).1, (h base f args m r m' hc).2.1 hy⟩
theorem rel_nil {ρ : Map} {w : World} (h : Glob ρ w) : Rel (fun _ => none) [] w :=
 ⟨fun r l h => by simp at h, fun r l row h => by simp at h, fun r r' l l' row row' h => by simp at h, fun r r' l l' h => by simp at h, h.sub fun r l h => by simp at h⟩
theorem one_flat {E : Env} {f : FuncId} {args : List Value} {v : Value} {m1 : M} (h : SoundOne E 0 f args [] (.ret v) m1) (hv : vflat v = true) (ha : args.all vflat = true) (base : Nat) (m : M) : SoundOne E base f args m (.ret v) m := by
 refine ⟨h.1, Nat.le_refl _, h.2.2.1, fun ρ w vs hR hb hl => ?_⟩
 have hl0 : LRel (fun _ => none) args vs := ⟨hl.1, fun i x y hx hy => vflat_inv (List.all_eq_true.1 ha x (List.mem_of_getElem? hx)) (hl.2 i x y hx hy)⟩
 refine (h.2.2.2 _ w vs (rel_nil hR.gl) (Nat.le_refl 0) hl0).mono fun e w' hk => ?_
 obtain ⟨ρ', he, hr, v', hend, hvr⟩ := hk
 have hfr : ∀ b, b < w.heap.size → w'.heap[b]? = w.heap[b]? := fun b hlt => he.frame b hlt fun r l hrl => by simp at hrl
 refine ⟨ρ, ⟨Map.le_refl _, fun _ _ h => .inl h, he.size, he.os, he.tape, he.output, fun b hlt _ => hfr b hlt⟩, hR.world (fun r l hrl => hfr l.b (hR.lt hrl)) (hR.gl.of (fun g _ hs => he.frame g hs fun r l h => by simp at h) (fun _ hf _ => hf)), v', hend, vflat_inv hv hvr⟩
abbrev SC := List Value → M → Option Value
def sfind (f : FuncId) : List (Nat × SC) → Option SC
 | [] => none
 | (g, s) :: l => match Nat.beq g f with
  | true => some s
  | false => sfind f l
def scall (sc : List (Nat × SC)) (f : FuncId) (args : List Value) (m : M) : Option Value := match sfind f sc with
 | some s => s args m
 | none => none
def SCok (E : Env) (p : Nat × SC) : Prop := ∀ base args m v, p.2 args m = some v → SoundOne E base p.1 args m (.ret v) m
theorem scall_ok {E : Env} {sc : List (Nat × SC)} (h : ∀ p ∈ sc, SCok E p) {f : FuncId} {args : List Value} {m : M} {v : Value} (hs : scall sc f args m = some v) (base : Nat) : SoundOne E base f args m (.ret v) m := by
 unfold scall at hs
 split at hs
 ·rename_i s hf
  have : ∃ g, Nat.beq g f = true ∧ (g, s) ∈ sc := by
   clear h
   induction sc with
   | nil => simp [sfind] at hf
   | cons p l ih =>
    obtain ⟨g, s'⟩ := p
    simp only [sfind] at hf
    split at hf
    ·rename_i hg
     simp at hf; subst hf
     exact ⟨g, hg, by simp⟩
    ·obtain ⟨g', h1, h2⟩ := ih hf
     exact ⟨g', h1, by simp [h2]⟩
  obtain ⟨g, hg, hm⟩ := this
  have hk := h _ hm base args m v hs
  rw [Nat.eq_of_beq_eq_true hg] at hk
  exact hk
 ·simp at hs
noncomputable def scallN (sc : List (Nat × SC)) (pure : FuncId → Bool) (tab : List (Nat × RF)) : Nat → CallF
 | 0, _, _, _, _ => none
 | n + 1, base, f, args, m => match scall sc f args m with
  | some v => some (.ret v, m)
  | none => match rfind f tab with
   | none => none
   | some rf => match pure f with
    | true => match xlen m fun b => rf (scallN sc pure tab n) n b args m with
     | some (.ret v, _) => match vflat v with
      | true => some (.ret v, m)
      | false => none
     | _ => none
    | false => rf (scallN sc pure tab n) n base args m
theorem scallN_sound {E : Env} (hE : E.Good) (hmix : E.P.follows .mixedOrders = true) (pure : FuncId → Bool) {tab : List (Nat × RF)} (h : ∀ p ∈ tab, RFok E p.1 p.2) {sc : List (Nat × SC)} (hsc : ∀ p ∈ sc, SCok E p) : ∀ n, SoundCall E (scallN sc pure tab n)
 | 0 => by intro base f args m r m' h; simp [scallN] at h
 | n + 1 => by
  have ih := scallN_sound hE hmix pure h hsc n
  intro base f args m r m' hr
  simp only [scallN] at hr
  split at hr
  ·rename_i v hs
   simp only [Option.some.injEq, Prod.mk.injEq] at hr
   obtain ⟨rfl, rfl⟩ := hr
   have := scall_ok hsc hs base
   exact ⟨this.2.1, fun _ => this.2.2, fun h => absurd h this.1⟩
  ·split at hr
   ·simp at hr
   ·rename_i rf hf
    exact tab_sound hE hmix ih (rfind_ok h hf) hr
end Go.AM
