/- Proved: for all inputs, of whatever size, the law SnapCopies returns true and leaves its input as it is. -/
import Derived.ChangeStays
import Derived.Deep.DeepHandedRow
import Derived.Deep.Slices
import Derived.Deep.Strs
import Derived.JoinedCond
import Derived.KernelRfl
import Derived.LaidLaws
import Derived.Laws.BytesArg
import Derived.Laws.StructEq
import Derived.OpenShut
import Derived.ProofKit
import Derived.RangeFuncLeaves
import Derived.RangeFuncRecord
import Derived.RowKit
import Derived.Test.YtnefldkiipdckaaProg
import Derived.Test.YtnefldkiipdckaaRows
import Derived.WalkKit
import Derived.Test.YtnefldkiipdckaaAmB
import Derived.Test.YtnefldkiipdckaaAmG
import Derived.Test.YtnefldkiipdckaaAmModel
import Derived.Test.YtnefldkiipdckaaAmRel
import Derived.Test.YtnefldkiipdckaaAmOps6
import Derived.Test.YtnefldkiipdckaaAmCode
import Derived.Test.YtnefldkiipdckaaAmDraw5
import Derived.Test.YtnefldkiipdckaaAmEq
import Derived.Test.YtnefldkiipdckaaRBase
import Derived.Test.YtnefldkiipdckaaR58
import Derived.Test.YtnefldkiipdckaaR107
import Derived.Test.YtnefldkiipdckaaAmS
import Derived.Test.YtnefldkiipdckaaS16
import Derived.Test.YtnefldkiipdckaaS17
import Derived.Test.YtnefldkiipdckaaNM1
import Derived.Test.YtnefldkiipdckaaNA
import Derived.Test.YtnefldkiipdckaaTH
import Derived.Test.YtnefldkiipdckaaCA
import Derived.Test.YtnefldkiipdckaaR5
import Derived.Test.YtnefldkiipdckaaVD
import Derived.Test.YtnefldkiipdckaaR3
import Derived.Test.YtnefldkiipdckaaWD
import Derived.Test.YtnefldkiipdckaaWO
import Derived.Test.YtnefldkiipdckaaWW
set_option linter.unusedVariables false
set_option linter.unusedSimpArgs false
set_option linter.unusedSectionVars false
namespace Go.Proofs.Ytnefldkiipdckaa.snapCopies
open Go.ChangeShapes Go.WideShapes Go.ChangeAt Go.RowKit Go.AM
theorem prF : Try.f6.params = #[22, 23, 23, 23] := by kernel_rfl
theorem own : ownKnob Try.prog.godebug = none := by kernel_rfl
theorem prT : ∀ t ∈ ([22, 23, 23, 23] : List TypeId), t < Try.prog.types.size := by
 have h : (([22, 23, 23, 23] : List TypeId).all fun t => decide (t < Try.prog.types.size)) = true := by kernel_rfl
 intro t ht
 simpa using List.all_eq_true.1 h t ht
set_option maxRecDepth 100000 in
theorem contract (H : Type) (enc : TypeId × Value → H) (W : World) (base : Nat) (args : Array Value) (ds gs : List (DataW H)) (before : List MemPlace)
  (hval : ∀ (j : Nat) t v, Try.f6.params[j]? = some t → args[j]? = some v → Value.okWide Try.prog W .any base t v)
  (hW : DataW.Whole enc Try.prog Try.f6.params.toList Rows.snapCopiesSpec.vars false W args.toList ds gs before) :
  Calls Try.prog 6 args W fun e W' => ∃ v, e = .returned v ∧ Rows.snapCopiesSpec.post enc Try.prog Try.f6 false true false false W args v W' := by
 have hW' := hW
 obtain ⟨p, q, hA0, hV, rfl, hfz, hnd⟩ := hW
 have hA : DataW.TrodAll enc Try.prog W 0 (fun _ => true) true Try.f6.params.toList args.toList ds p := hA0
 rw [prF] at hA hval
 have hA1 := hA
 obtain ⟨v0, vs0, d0, ds0, p0, q0, hargs0, rfl, rfl, h0, r0⟩ := trodAll_cons hA
 obtain ⟨v1, vs1, d1, ds1, p1, q1, hargs1, rfl, rfl, h1, r1⟩ := trodAll_cons r0
 obtain ⟨v2, vs2, d2, ds2, p2, q2, hargs2, rfl, rfl, h2, r2⟩ := trodAll_cons r1
 obtain ⟨v3, vs3, d3, ds3, p3, q3, hargs3, rfl, rfl, h3, r3⟩ := trodAll_cons r2
 obtain ⟨rfl, rfl, rfl⟩ := trodAll_nil r3
 subst hargs3
 subst hargs2
 subst hargs1
 obtain rfl : args = #[v0, v1, v2, v3] := by cases args; simp_all
 obtain ⟨rfl, rfl⟩ := trodVars_none hV
 obtain ⟨ρ0, e0, x0, l0, hle0, hR0, hro0, rr0, hp0⟩ := openInts (rel_nil (glob0 W)) (fun row h => by simp at h) (hval 0 22 v0 (by simp) (by simp)) h0
 obtain ⟨ρ1, e1, x1, l1, hle1, hR1, hro1, rr1, hp1⟩ := openActs hR0 hro0 (hval 1 23 v1 (by simp) (by simp)) h1
 have rr0 := rr0.mono hle1
 have hp0 := hp0.app e1
 obtain ⟨ρ2, e2, x2, l2, hle2, hR2, hro2, rr2, hp2⟩ := openActs hR1 hro1 (hval 2 23 v2 (by simp) (by simp)) h2
 have rr0 := rr0.mono hle2
 have hp0 := hp0.app e2
 have rr1 := rr1.mono hle2
 have hp1 := hp1.app e2
 obtain ⟨ρ3, e3, x3, l3, hle3, hR3, hro3, rr3, hp3⟩ := openActs hR2 hro2 (hval 3 23 v3 (by simp) (by simp)) h3
 have rr0 := rr0.mono hle3
 have hp0 := hp0.app e3
 have rr1 := rr1.mono hle3
 have hp1 := hp1.app e3
 have rr2 := rr2.mono hle3
 have hp2 := hp2.app e3
 obtain ⟨m1, hrun⟩ := law6c hp0 hp1 hp2 hp3
 have hl : LRel ρ3 [x0, x1, x2, x3] [v0, v1, v2, v3] := LRel.cons rr0 (LRel.cons rr1 (LRel.cons rr2 (LRel.cons rr3 (LRel.nil _))))
 have hs := ((rt_sound 2016).one hrun (by decide)).2.2.2 ρ3 W _ hR3 (Nat.le_refl _) hl
 refine Calls.mono hs fun e W' hk => ?_
 obtain ⟨ρ', he, _, v', hend, hv⟩ := hk
 cases hv
 obtain ⟨hg, hS⟩ := stays_same hR3.dom he
 subst hend
 have hlt := fun q hq => hW'.lt q hq
 simp only [List.append_nil] at hlt hW' hA1
 refine ⟨_, rfl, post_of_stays (pa := p0 ++ (p1 ++ (p2 ++ (p3)))) (pv := []) hW' (fun _ _ _ => ?_) (fun sp hsp => ?_) (fun _ _ => rfl) (by simp only [List.append_nil]) (World.keptBut_mono (fun _ f => f.elim) hg.1) hg.2 (ok_one (by kernel_rfl) rfl (okWide_bool_mk un4 _))⟩
 ·exact (trodAll_cons_mk (shut_bool un4 _) trodAll_mk0)
 ·have h := trodAll_back hS (sp := sp) prT hA1 hlt hsp
  rw [prF]
  exact h
theorem laid_met (os : Os) : laidMet Try.prog Rows.snapCopiesRow.laid ((World.holding Try.prog os ⟨#[], #[], []⟩).forCall (fun _ _ => 0) ⟨#[], #[.slice none 0 0, .slice none 0 0, .slice none 0 0, .slice none 0 0], []⟩).memory :=
 laidMet_of_run' 8 (by kernel_rfl) (by kernel_rfl)
theorem reads (os : Os) {H : Type} (enc : TypeId × Value → H) : ∃ places, DataW.whole enc Try.prog ((World.holding Try.prog os ⟨#[], #[], []⟩).forCall (fun _ _ => 0) ⟨#[], #[.slice none 0 0, .slice none 0 0, .slice none 0 0, .slice none 0 0], []⟩).memory Try.f6.params.toList Rows.snapCopiesSpec.vars false (#[.slice none 0 0, .slice none 0 0, .slice none 0 0, .slice none 0 0] : Array Value).toList 8 = some ([.nil, .nil, .nil, .nil], [], places) :=
 ⟨[], by kernel_rfl⟩
set_option maxRecDepth 100000 in
theorem lifted (os : Os) (started : os.Started) (H : Type) (enc : TypeId × Value → H) (F : Stop.Interp) :
  ReturnsInHanded {} Try.checked os 6 .any ((OpenSpec.ofChange Rows.snapCopiesSpec).preRow enc Try.prog Try.f6 Rows.snapCopiesRow.domain false Rows.snapCopiesRow.laid) (((OpenSpec.ofChange Rows.snapCopiesSpec).at F).post enc Try.prog Try.f6 false true false false) := by
 obtain ⟨places, hx⟩ := reads os enc
 refine returnsInHanded_of_row (C := Try.checked) (s := OpenSpec.ofChange Rows.snapCopiesSpec) own started (by kernel_rfl) Try.func6
  (witness_row_at (enc := enc) (C := Try.checked) false (World.holding Try.prog os ⟨#[], #[], []⟩) #[.slice none 0 0, .slice none 0 0, .slice none 0 0, .slice none 0 0] rfl (by kernel_rfl) (by kernel_rfl) (by kernel_rfl)
   (OpenSpec.preRow_of_cond 8 hx (by kernel_rfl) (fun k hk => by cases hk) (by kernel_rfl) (laid_met os))) ?_
 intro W base args ds gs before hval hW _ _ _ _ _ _
 exact contract H enc W base args ds gs before hval hW
theorem proved : Rows.SnapCopiesSaid :=
 OpenClaim.holds_of_cond 6 Try.f6 rfl rfl rfl rfl rfl rfl rfl ⟨rfl, rfl, rfl, rfl, rfl⟩ rfl rfl rfl rfl rfl (by kernel_rfl) Try.func6 (by kernel_rfl)
  (of_decide_eq_true (by kernel_rfl)) (by unfold Func.isWrapper; first | (rw [if_pos (by decide +kernel)]; kernel_rfl) | (rw [if_neg (by decide +kernel)]; exact ⟨rfl, rfl⟩))
  (fun os started H enc _ F => by rw [OpenClaim.pre_eq_preRow]; exact lifted os started H enc F)
end Go.Proofs.Ytnefldkiipdckaa.snapCopies
