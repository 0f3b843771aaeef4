import Derived.JoinedCond
import Derived.KernelRfl
import Derived.Laws.Runes
import Derived.Laws.StructEq
import Derived.OpenShut
import Derived.ProofKit
import Derived.Test.YtdneekidlmgpfaaRows
import Derived.WalkKit
import Derived.Test.YtdneekidlmgpfaaAmModel
import Derived.Test.YtdneekidlmgpfaaAmOps5
import Derived.Test.YtdneekidlmgpfaaAmOps6
import Derived.Test.YtdneekidlmgpfaaAmCode
import Derived.Test.YtdneekidlmgpfaaAmDraw5
import Derived.Test.YtdneekidlmgpfaaAmEq
import Derived.Test.YtdneekidlmgpfaaRBase
import Derived.Test.YtdneekidlmgpfaaR33
import Derived.Test.YtdneekidlmgpfaaR50
import Derived.Test.YtdneekidlmgpfaaR83
import Derived.Test.YtdneekidlmgpfaaR90
import Derived.Test.YtdneekidlmgpfaaR107
import Derived.Test.YtdneekidlmgpfaaS32
import Derived.Test.YtdneekidlmgpfaaS15
import Derived.Test.YtdneekidlmgpfaaS6
set_option linter.unusedVariables false
set_option linter.unusedSimpArgs false
set_option linter.unusedSectionVars false
namespace Go.Proofs.Ytdneekidlmgpfaa.squareCuts
open Go.ChangeShapes Go.WideShapes Go.ChangeAt Go.RowKit Go.AM
theorem own : ownKnob Try.prog.godebug = none := by kernel_rfl
/-- What is there stays as it is. -/
def Stays (W w' : World) : Prop := W.keptBut w' (fun _ => False) ∧ ∀ a, a.block < W.heap.size → w'.frozen? a = W.frozen? a
theorem stays_of_ext {ρ' : Map} {W w' : World} (h : Ext 0 (fun _ => none) ρ' W w') : Stays W w' := by
  have hf : ∀ b, b < W.heap.size → w'.heap[b]? = W.heap[b]? := fun b hb => h.frame b hb fun r l hr => by simp at hr
  refine ⟨⟨h.os, h.output, fun i hi => ?_⟩, fun a ha => ?_⟩
  · rw [hf i hi]
    cases W.heap[i]? with
    | none => rfl
    | some o => cases o with
      | cells c t fr => exact ⟨rfl, rfl, rfl, fun _ _ => rfl⟩
      | map es clock => exact .inr ⟨rfl, rfl⟩
      | _ => rfl
  · unfold World.frozen?
    rw [hf a.block ha]
theorem post_of_stays {H : Type} {enc : TypeId × Value → H} {P : Program} {f : Func} {s : ChangeSpec} {apart fresh handsOn again : Bool} {W W' : World} {args : Array Value} {v : Value} {ds gs : List (DataW H)} {before pa pv : List MemPlace}
    (hW : DataW.Whole enc P f.params.toList s.vars apart W args.toList ds gs before)
    (hres : ∀ (b : Nat) (sp : Nat → Bool) (hd : Bool), DataW.TrodAll enc P W' b sp hd f.resultTypes.toList (v.resultList f.resultTypes.size) (s.fn H (ds ++ gs)).results [])
    (hargs : ∀ sp : Nat → Bool, (∀ p ∈ before, sp p.block = true) → DataW.TrodAll enc P W' 0 sp true f.params.toList args.toList (s.fn H (ds ++ gs)).args pa)
    (hvars : ∀ sp : Nat → Bool, (∀ p ∈ before, sp p.block = true) → DataW.TrodVars enc P W' sp s.vars (s.fn H (ds ++ gs)).vars pv)
    (hps : before = pa ++ pv) (hk : W.keptBut W' (· ∈ before)) (hfz : ∀ a, a.block < W.heap.size → W'.frozen? a = W.frozen? a)
    (hok : ∀ (j : Nat) (t : TypeId) (r : Value), f.resultTypes[j]? = some t → (v.resultList f.resultTypes.size)[j]? = some r → Value.okWide P W' .any 0 t r) :
    s.post enc P f apart fresh handsOn again W args v W' := by
  have hlt : ∀ p ∈ before, p.block < W.heap.size := fun p hp => hW.lt p hp
  have hold : ∀ p ∈ before, (fun b => decide (b < W.heap.size)) p.block = true := fun p hp => by simpa using hlt p hp
  refine ⟨ds, gs, before, [], pa, pv, hW, hres _ _ _, hargs _ hold, hvars _ hold, World.keptBut_mono (fun p hp => ⟨hp, ?_⟩) hk, fun _ => ?_⟩
  · rw [hps, List.mem_append] at hp
    exact Or.inr hp
  · obtain ⟨_, _, _, _, _, hz, hn⟩ := hW
    refine ⟨hok, _, _, ([] ++ pa) ++ pv, ⟨[] ++ pa, pv, trodAll_append (hargs _ (fun _ _ => rfl)) (hres _ _ _), hvars _ (fun _ _ => rfl), rfl, ?_, ?_⟩, ?_⟩
    · intro b off hp
      have hp' : MemPlace.cell b off ∈ before := by rw [hps]; simpa using hp
      rw [hfz _ (hlt _ hp')]
      exact hz b off hp'
    · intro ha
      have := hn ha
      rw [hps] at this
      simpa using this
    · intro p hp _
      rw [hps]
      simpa using hp
theorem walk (a b : Int) (W : World) : Calls Try.prog 6 #[.int .i64 a, .int .i64 b] W fun e w' => e = .returned (.bool true) ∧ Stays W w' := by
  obtain ⟨m', h⟩ := law6 a b
  have hl : LRel (fun _ => none) [vi a, vi b] [.int .i64 a, .int .i64 b] := LRel.cons (.int _ _) (LRel.cons (.int _ _) (LRel.nil _))
  have hs := ((rt_sound 40).one h).2.2 (fun _ => none) W _ (rel_nil W) (Nat.le_refl _) hl
  refine Calls.mono hs fun e w' hk => ?_
  obtain ⟨ρ', he, _, v', hend, hv⟩ := hk
  cases hv
  exact ⟨hend, stays_of_ext he⟩
end Go.Proofs.Ytdneekidlmgpfaa.squareCuts
