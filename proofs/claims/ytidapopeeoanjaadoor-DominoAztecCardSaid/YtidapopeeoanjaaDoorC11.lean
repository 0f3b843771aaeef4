/- Proved: for every number of kind uint8 the law DominoAztec returns true and leaves its input as it is, where the table of package math/bits holds what its text lays. -/
import Derived.Carry
import Derived.Deep.DeepHandedRow
import Derived.Handy
import Derived.JoinedCond
import Derived.KernelRfl
import Derived.Laws.StructEq
import Derived.Lib.LaidTab
import Derived.Maps.AppendAt
import Derived.Maps.OwnOps
import Derived.Maps.RangeRun
import Derived.Maps.RangeWalk
import Derived.OpenShut
import Derived.ProofKit
import Derived.Test.YtidapopeeoanjaaDoorCards
import Derived.Test.YtidapopeeoanjaaDoorRows
import Derived.Test.YtidapopeeoanjaaDoorTie
import Derived.WalkKit
import Derived.Test.YtidapopeeoanjaaDoorAmModel
import Derived.Test.YtidapopeeoanjaaDoorAmOps5
import Derived.Test.YtidapopeeoanjaaDoorAmOps6
import Derived.Test.YtidapopeeoanjaaDoorAmCode
import Derived.Test.YtidapopeeoanjaaDoorAmDraw5
import Derived.Test.YtidapopeeoanjaaDoorAmEq
import Derived.Test.YtidapopeeoanjaaDoorRBase
import Derived.Test.YtidapopeeoanjaaDoorB1
import Derived.Test.YtidapopeeoanjaaDoorK1
import Derived.Test.YtidapopeeoanjaaDoorR11
import Derived.Test.YtidapopeeoanjaaDoorR41
import Derived.Test.YtidapopeeoanjaaDoorR50
import Derived.Test.YtidapopeeoanjaaDoorD3
import Derived.Test.YtidapopeeoanjaaDoorK3
import Derived.Test.YtidapopeeoanjaaDoorAmS
import Derived.Test.YtidapopeeoanjaaDoorK4
import Derived.Test.YtidapopeeoanjaaDoorK5
import Derived.Test.YtidapopeeoanjaaDoorK6
import Derived.Test.YtidapopeeoanjaaDoorS13
import Derived.Test.YtidapopeeoanjaaDoorS14
import Derived.Test.YtidapopeeoanjaaDoorCB
import Derived.Test.YtidapopeeoanjaaDoorD0
import Derived.Test.YtidapopeeoanjaaDoorDet1
import Derived.Test.YtidapopeeoanjaaDoorDH1
import Derived.Test.YtidapopeeoanjaaDoorDH5
import Derived.Test.YtidapopeeoanjaaDoorA11
set_option linter.unusedVariables false
set_option linter.unusedSimpArgs false
set_option linter.unusedSectionVars false
namespace Go.Proofs.YtidapopeeoanjaaDoor.dominoAztec
open Go.ChangeShapes Go.WideShapes Go.ChangeAt Go.RowKit Go.AM
open Go.Proofs.YtidapopeeoanjaaDoor.own
theorem walk (a : Int) (W : World) (hG : Glob (fun _ => none) W) (h0 : 0 ≤ a) : Calls Tryd.prog 11 #[.int .u8 a] W fun e w' => e = .returned (.bool true) ∧ Stays W w' := by
  obtain ⟨m', h⟩ := law11 a h0
  have hl : LRel (fun _ => none) [.int .u8 a] [.int .u8 a] := LRel.cons (.int _ _) (LRel.nil _)
  have hs := ((ru_sound 101).one h).2.2 (fun _ => none) W _ (rel_nil hG) (Nat.le_refl _) hl
  refine Calls.mono hs fun e w' hk => ?_
  obtain ⟨ρ', he, _, v', hend, hv⟩ := hk
  cases hv
  exact ⟨hend, stays_of_ext he⟩
theorem pr11 : Tryd.f11.params = #[5] := by kernel_rfl
theorem un4 : Tryd.prog.underlying 4 = some .bool := by kernel_rfl
set_option maxRecDepth 100000 in
theorem contract (H : Type) (enc : TypeId × Value → H) (W : World) (base : Nat) (args : Array Value) (ds gs : List (DataW H)) (before : List MemPlace)
    (hval : ∀ (j : Nat) t v, Tryd.f11.params[j]? = some t → args[j]? = some v → Value.okWide Tryd.prog W .any base t v)
    (hW : DataW.Whole enc Tryd.prog Tryd.f11.params.toList Rows.dominoAztecSpec.vars false W args.toList ds gs before) (hL : laidMetH Tryd.prog Rows.dominoAztecRow.laid W) :
    Calls Tryd.prog 11 args W fun e W' => ∃ v, e = .returned v ∧ Rows.dominoAztecSpec.post enc Tryd.prog Tryd.f11 false true false false W args v W' := by
  have hW' := hW
  obtain ⟨p, q, hA0, hV, rfl, hfz, hnd⟩ := hW
  have hA : DataW.TrodAll enc Tryd.prog W 0 (fun _ => true) true Tryd.f11.params.toList args.toList ds p := hA0
  rw [pr11] at hA hval
  obtain ⟨v0, vs0, d0, ds0, p0, q0, hargs, rfl, rfl, h0, r0⟩ := trodAll_cons hA
  obtain ⟨rfl, rfl, rfl⟩ := trodAll_nil r0
  obtain rfl : args = #[v0] := by cases args; simp_all
  obtain ⟨rfl, rfl⟩ := trodVars_none hV
  obtain ⟨a0, rfl, rfl, rfl, w0⟩ := open_int un5 (hval 0 5 v0 (by simp) (by simp)) h0
  clear hA0
  simp only [List.append_nil] at hW'
  have hnn : 0 ≤ a0 := by
    unfold Lit.wf at w0
    rw [Bool.and_eq_true, decide_eq_true_eq, decide_eq_true_eq] at w0
    exact w0.1
  refine (walk a0 W (glob_of hL) hnn).mono fun e W' ⟨he, hg⟩ => ?_
  subst he
  refine ⟨_, rfl, post_of_stays (pa := []) (pv := []) hW' (fun _ _ _ => ?_) (fun sp _ => ?_) (fun _ _ => rfl) rfl (World.keptBut_mono (fun _ f => f.elim) hg.1) hg.2 (ok_one (by kernel_rfl) rfl (okWide_bool_mk un4 _))⟩
  · exact (trodAll_cons_mk (shut_bool un4 _) trodAll_mk0)
  · exact (trodAll_cons_mk (shut_int un5 w0) trodAll_mk0)
theorem laid_met (os : Os) : laidMet Tryd.prog Rows.dominoAztecRow.laid ((laidWorld os).forCall (fun _ _ => 0) ⟨#[], #[.int .u8 0], []⟩).memory :=
  laidMet_of_run' 8 (by kernel_rfl) (by kernel_rfl)
theorem reads (os : Os) {H : Type} (enc : TypeId × Value → H) : ∃ places, DataW.whole enc Tryd.prog ((laidWorld os).forCall (fun _ _ => 0) ⟨#[], #[.int .u8 0], []⟩).memory Tryd.f11.params.toList Rows.dominoAztecSpec.vars false #[Value.int .u8 0].toList 8 = some ([.lit (.int .u8 0)], [], places) :=
  ⟨[], by kernel_rfl⟩
set_option maxRecDepth 100000 in
theorem lifted (os : Os) (started : os.Started) (H : Type) (enc : TypeId × Value → H) (F : Stop.Interp) :
    ReturnsInHanded {} Tryd.checked os 11 .any ((OpenSpec.ofChange Rows.dominoAztecSpec).preRow enc Tryd.prog Tryd.f11 Rows.dominoAztecRow.domain false Rows.dominoAztecRow.laid) (((OpenSpec.ofChange Rows.dominoAztecSpec).at F).post enc Tryd.prog Tryd.f11 false true false false) := by
  obtain ⟨places, hx⟩ := reads os enc
  refine returnsInHanded_of_row (C := Tryd.checked) (s := OpenSpec.ofChange Rows.dominoAztecSpec) own started (by kernel_rfl) Tryd.func11
    (witness_row_at (enc := enc) (C := Tryd.checked) false (laidWorld os) #[.int .u8 0] rfl (by kernel_rfl) (by kernel_rfl) (by kernel_rfl)
      (OpenSpec.preRow_of_cond 8 hx (by kernel_rfl) (fun k hk => by cases hk) (by kernel_rfl) (laid_met os))) ?_
  intro W base args ds gs before hval hW _ _ _ hL _ _
  exact contract H enc W base args ds gs before hval hW hL
theorem said : Rows.DominoAztecSaid :=
  OpenClaim.holds_of_cond 11 Tryd.f11 rfl rfl rfl rfl rfl rfl rfl ⟨rfl, rfl, rfl, rfl, rfl⟩ rfl rfl rfl rfl rfl (by kernel_rfl) Tryd.func11 (by kernel_rfl)
    (of_decide_eq_true (by kernel_rfl)) (by unfold Func.isWrapper; first | (rw [if_pos (by decide +kernel)]; kernel_rfl) | (rw [if_neg (by decide +kernel)]; exact ⟨rfl, rfl⟩))
    (fun os started H enc _ F => by rw [OpenClaim.pre_eq_preRow]; exact lifted os started H enc F)
theorem plain (f : FuncId) (fn : Func) (hf : Tryd.pinned.checked.prog.funcNamed "encaustic/encausticlaw02.DominoAztec" = some f) (hfn : Tryd.pinned.checked.prog.funcs[f]? = some fn) :
    false = Tryd.pinned.checked.prog.looks [] ∧ ∀ (j : Nat) t, fn.params[j]? = some t → Tryd.pinned.checked.prog.wantsStandIn t = false := by
  obtain rfl : f = 11 := Option.some.inj ((show Tryd.prog.funcNamed "encaustic/encausticlaw02.DominoAztec" = some 11 by kernel_rfl).symm.trans hf) |>.symm
  obtain rfl : fn = Tryd.f11 := (Option.some.inj (Tryd.func11.symm.trans hfn)).symm
  refine ⟨by kernel_rfl, fun j t ht => ?_⟩
  rw [pr11] at ht
  obtain rfl : t = 5 := by simpa using Array.mem_of_getElem? ht
  exact (show Tryd.prog.wantsStandIn 5 = false by kernel_rfl)
theorem proved : Rows.DominoAztecCardSaid :=
  Claim7.holds_tied_plain_at .later [] _ _ _ _ said (fun _ h => by cases h) (by kernel_rfl) (fun _ h => by cases h) dominoAztec_row_tie rfl ⟨rfl, rfl⟩ (by kernel_rfl) rfl plain (by kernel_rfl)
end Go.Proofs.YtidapopeeoanjaaDoor.dominoAztec
