/- Proved: for all lists of strings and all pairs of moves the law PatternMoves returns true and leaves its input as it is, where package pattern's table of kinds holds what its text lays. -/
import Derived.Deep.DeepHandedRow
import Derived.Deep.SlicePairs
import Derived.Deep.Strs
import Derived.JoinedCond
import Derived.KernelRfl
import Derived.Laws.BytesArg
import Derived.Laws.StructEq
import Derived.Lib.LaidTab
import Derived.Lib.SmallJoins
import Derived.OpenShut
import Derived.ProofKit
import Derived.Test.YtnmdpolgbdkffaaDoorCards
import Derived.Test.YtnmdpolgbdkffaaDoorRows
import Derived.Test.YtnmdpolgbdkffaaDoorTie
import Derived.WalkKit
import Derived.Test.YtnmdpolgbdkffaaDoorAmB
import Derived.Test.YtnmdpolgbdkffaaDoorAmModel
import Derived.Test.YtnmdpolgbdkffaaDoorAmOps6
import Derived.Test.YtnmdpolgbdkffaaDoorAmCode
import Derived.Test.YtnmdpolgbdkffaaDoorAmK2
import Derived.Test.YtnmdpolgbdkffaaDoorAmEq
import Derived.Test.YtnmdpolgbdkffaaDoorRBase
import Derived.Test.YtnmdpolgbdkffaaDoorR69
import Derived.Test.YtnmdpolgbdkffaaDoorAmS
import Derived.Test.YtnmdpolgbdkffaaDoorS11
import Derived.Test.YtnmdpolgbdkffaaDoorFL
import Derived.Test.YtnmdpolgbdkffaaDoorCM
import Derived.Test.YtnmdpolgbdkffaaDoorPB
set_option linter.unusedVariables false
set_option linter.unusedSimpArgs false
set_option linter.unusedSectionVars false
namespace Go.Proofs.YtnmdpolgbdkffaaDoor.patternMoves
open Go.ChangeShapes Go.WideShapes Go.ChangeAt Go.RowKit Go.AM
open Go.Proofs.YtnmdpolgbdkffaaDoor.own
theorem walk (v : Value) (a b c d e f a2 b2 c2 d2 e2 f2 : Int) (W : World) {ρ : Map} {m : M} {xv : Value} {l : List ByteArray} (hR : Rel ρ m W) (hv : Strs m xv l) (r1 : VRel ρ xv v) :
    Calls Tryd.prog 5 #[v, mV a b c d e f, mV a2 b2 c2 d2 e2 f2] W fun e w' => e = .returned (.bool true) ∧ Stays W w' ∧ Same W w' := by
  obtain ⟨m', h⟩ := t5 200 m.length (by omega) (Nat.le_refl _) hv a b c d e f a2 b2 c2 d2 e2 f2
  have rm : ∀ x y z t u v : Int, VRel ρ (mV x y z t u v) (mV x y z t u v) := fun x y z t u v => vconst_rel rfl
  have hl : LRel ρ [xv, mV a b c d e f, mV a2 b2 c2 d2 e2 f2] [v, mV a b c d e f, mV a2 b2 c2 d2 e2 f2] := LRel.cons r1 (LRel.cons (rm _ _ _ _ _ _) (LRel.cons (rm _ _ _ _ _ _) (LRel.nil _)))
  have hs := ((rt_sound (200 + 1)).one h).2.2 ρ W _ hR (Nat.le_refl _) hl
  refine Calls.mono hs fun e w' hk => ?_
  obtain ⟨ρ', he, _, v', hend, hv⟩ := hk
  cases hv
  exact ⟨hend, stays_same hR.dom he⟩
theorem pr5 : Tryd.f5.params = #[22, 50, 50] := by kernel_rfl
set_option maxRecDepth 100000 in
theorem contract (H : Type) (enc : TypeId × Value → H) (W : World) (base : Nat) (args : Array Value) (ds gs : List (DataW H)) (before : List MemPlace)
    (hval : ∀ (j : Nat) t v, Tryd.f5.params[j]? = some t → args[j]? = some v → Value.okWide Tryd.prog W .any base t v)
    (hW : DataW.Whole enc Tryd.prog Tryd.f5.params.toList Rows.patternMovesSpec.vars false W args.toList ds gs before) (hL : laidMetH Tryd.prog Rows.patternMovesRow.laid W) (hSh : W.ShapedOpen Tryd.prog) :
    Calls Tryd.prog 5 args W fun e W' => ∃ v, e = .returned v ∧ Rows.patternMovesSpec.post enc Tryd.prog Tryd.f5 false true false false W args v W' := by
  have hW' := hW
  obtain ⟨p, q, hA0, hV, rfl, hfz, hnd⟩ := hW
  have hA : DataW.TrodAll enc Tryd.prog W 0 (fun _ => true) true Tryd.f5.params.toList args.toList ds p := hA0
  rw [pr5] at hA hval
  obtain ⟨v0, vs0, d0, ds0, p0, q0, hargs, rfl, rfl, h0, r0⟩ := trodAll_cons hA
  obtain ⟨v1, vs1, d1, ds1, p1, q1, hargs1, rfl, rfl, h1, r1⟩ := trodAll_cons r0
  obtain ⟨v2, vs2, d2, ds2, p2, q2, hargs2, rfl, rfl, h2, r2⟩ := trodAll_cons r1
  obtain ⟨rfl, rfl, rfl⟩ := trodAll_nil r2
  subst hargs2
  subst hargs1
  obtain rfl : args = #[v0, v1, v2] := by cases args; simp_all
  obtain ⟨rfl, rfl⟩ := trodVars_none hV
  obtain ⟨ρ1, ext1, xv, l, _, hR1, hro1, hv, hl0, hsz, hrel1, hback1⟩ := openStrs (rel_nil (glob_of hL)) (fun row h => by simp at h) (type0 hSh) (hval 0 22 v0 (by simp) (by simp)) h0
  obtain ⟨a1, b1, c1, e1, f1, g1, k1, rfl, hb1⟩ := openMove (hval 1 50 v1 (by simp) (by simp)) h1
  obtain ⟨a2, b2, c2, e2, f2, g2, k2, rfl, hb2⟩ := openMove (hval 2 50 v2 (by simp) (by simp)) h2
  clear hA0
  simp only [List.append_nil, List.nil_append] at hW'
  have hw := walk v0 a1 b1 c1 e1 f1 g1 a2 b2 c2 e2 f2 g2 W hR1 hv hrel1
  rw [← k1, ← k2] at hw
  refine hw.mono fun e W' ⟨he, hg, hS⟩ => ?_
  subst he
  refine ⟨_, rfl, post_of_stays (pa := p0) (pv := []) hW' (fun _ _ _ => ?_) (fun sp hsp => ?_) (fun _ _ => rfl) (by simp) (World.keptBut_mono (fun _ f => f.elim) hg.1) hg.2 (ok_one (by kernel_rfl) rfl (okWide_bool_mk un4 _))⟩
  · exact (trodAll_cons_mk (shut_bool un4 _) trodAll_mk0)
  · have h := trodAll_cons_mk (hback1 W' sp hS hsp) (trodAll_cons_mk (hb1 W' 0 sp true) (trodAll_cons_mk (hb2 W' 0 sp true) trodAll_mk0))
    simp only [List.append_nil] at h
    exact h
theorem laid_met (os : Os) : laidMet Tryd.prog Rows.patternMovesRow.laid ((laidWorld os).forCall (fun _ _ => 0) ⟨#[], #[.slice none 0 0, mV 0 0 0 0 0 0, mV 0 0 0 0 0 0], []⟩).memory :=
  laidMet_of_run' 8 (by kernel_rfl) (by kernel_rfl)
theorem reads (os : Os) {H : Type} (enc : TypeId × Value → H) : ∃ places, DataW.whole enc Tryd.prog ((laidWorld os).forCall (fun _ _ => 0) ⟨#[], #[.slice none 0 0, mV 0 0 0 0 0 0, mV 0 0 0 0 0 0], []⟩).memory Tryd.f5.params.toList Rows.patternMovesSpec.vars false #[Value.slice none 0 0, mV 0 0 0 0 0 0, mV 0 0 0 0 0 0].toList 8 = some ([.nil, .agg [.lit (.int .i64 0), .lit (.int .i64 0), .lit (.int .i64 0), .lit (.int .i64 0), .lit (.int .i64 0), .lit (.int .i64 0)], .agg [.lit (.int .i64 0), .lit (.int .i64 0), .lit (.int .i64 0), .lit (.int .i64 0), .lit (.int .i64 0), .lit (.int .i64 0)]], [], places) :=
  ⟨[], by kernel_rfl⟩
set_option maxRecDepth 100000 in
theorem lifted (os : Os) (started : os.Started) (H : Type) (enc : TypeId × Value → H) (F : Stop.Interp) :
    ReturnsInHanded {} Tryd.checked os 5 .any ((OpenSpec.ofChange Rows.patternMovesSpec).preRow enc Tryd.prog Tryd.f5 Rows.patternMovesRow.domain false Rows.patternMovesRow.laid) (((OpenSpec.ofChange Rows.patternMovesSpec).at F).post enc Tryd.prog Tryd.f5 false true false false) := by
  obtain ⟨places, hx⟩ := reads os enc
  refine returnsInHanded_of_row (C := Tryd.checked) (s := OpenSpec.ofChange Rows.patternMovesSpec) own started (by kernel_rfl) Tryd.func5
    (witness_row_at (enc := enc) (C := Tryd.checked) false (laidWorld os) #[.slice none 0 0, mV 0 0 0 0 0 0, mV 0 0 0 0 0 0] rfl (by kernel_rfl) (by kernel_rfl) (by kernel_rfl)
      (OpenSpec.preRow_of_cond 8 hx (by kernel_rfl) (fun k hk => by cases hk) (by kernel_rfl) (laid_met os))) ?_
  intro W base args ds gs before hval hW _ _ _ hL hSh _
  exact contract H enc W base args ds gs before hval hW hL hSh
theorem said : Rows.PatternMovesSaid :=
  OpenClaim.holds_of_cond 5 Tryd.f5 rfl rfl rfl rfl rfl rfl rfl ⟨rfl, rfl, rfl, rfl, rfl⟩ rfl rfl rfl rfl rfl (by kernel_rfl) Tryd.func5 (by kernel_rfl)
    (of_decide_eq_true (by kernel_rfl)) (by unfold Func.isWrapper; first | (rw [if_pos (by decide +kernel)]; kernel_rfl) | (rw [if_neg (by decide +kernel)]; exact ⟨rfl, rfl⟩))
    (fun os started H enc _ F => by rw [OpenClaim.pre_eq_preRow]; exact lifted os started H enc F)
theorem plain (f : FuncId) (fn : Func) (hf : Tryd.pinned.checked.prog.funcNamed "encaustic/encausticlaw06.PatternMoves" = some f) (hfn : Tryd.pinned.checked.prog.funcs[f]? = some fn) :
    false = Tryd.pinned.checked.prog.looks [] ∧ ∀ (j : Nat) t, fn.params[j]? = some t → Tryd.pinned.checked.prog.wantsStandIn t = false := by
  obtain rfl : f = 5 := Option.some.inj ((show Tryd.prog.funcNamed "encaustic/encausticlaw06.PatternMoves" = some 5 by kernel_rfl).symm.trans hf) |>.symm
  obtain rfl : fn = Tryd.f5 := (Option.some.inj (Tryd.func5.symm.trans hfn)).symm
  refine ⟨by kernel_rfl, fun j t ht => ?_⟩
  rw [pr5] at ht
  have : t = 22 ∨ t = 50 := by simpa using Array.mem_of_getElem? ht
  rcases this with rfl | rfl
  · exact (show Tryd.prog.wantsStandIn 22 = false by kernel_rfl)
  · exact (show Tryd.prog.wantsStandIn 50 = false by kernel_rfl)
theorem proved : Rows.PatternMovesCardSaid :=
  Claim7.holds_tied_plain_at .later [] _ _ _ _ said (fun _ h => by cases h) (by kernel_rfl) (fun _ h => by cases h) patternMoves_row_tie rfl ⟨rfl, rfl⟩ (by kernel_rfl) rfl plain (by kernel_rfl)
end Go.Proofs.YtnmdpolgbdkffaaDoor.patternMoves
