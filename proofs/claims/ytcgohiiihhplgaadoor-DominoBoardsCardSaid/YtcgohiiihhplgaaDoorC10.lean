/- Proved: for all pairs of numbers of kind uint8 the law DominoBoards returns true and leaves its input as it is, where the table of package math/bits holds what its text lays. -/
import Derived.Carry
import Derived.Deep.DeepHandedRow
import Derived.Handy
import Derived.JoinedCond
import Derived.KernelRfl
import Derived.Laws.BytesArg
import Derived.Laws.StructEq
import Derived.Lib.LaidTab
import Derived.Maps.AppendAt
import Derived.Maps.OwnOps
import Derived.Maps.RangeRun
import Derived.Maps.RangeWalk
import Derived.OpenShut
import Derived.ProofKit
import Derived.Test.YtcgohiiihhplgaaDoorCards
import Derived.Test.YtcgohiiihhplgaaDoorRows
import Derived.Test.YtcgohiiihhplgaaDoorTie
import Derived.WalkKit
import Derived.Test.YtcgohiiihhplgaaDoorAmB
import Derived.Test.YtcgohiiihhplgaaDoorAmModel
import Derived.Test.YtcgohiiihhplgaaDoorAmOps6
import Derived.Test.YtcgohiiihhplgaaDoorAmCode
import Derived.Test.YtcgohiiihhplgaaDoorAmK2
import Derived.Test.YtcgohiiihhplgaaDoorAmEq
import Derived.Test.YtcgohiiihhplgaaDoorRBase
import Derived.Test.YtcgohiiihhplgaaDoorB1
import Derived.Test.YtcgohiiihhplgaaDoorK1
import Derived.Test.YtcgohiiihhplgaaDoorR3
import Derived.Test.YtcgohiiihhplgaaDoorR41
import Derived.Test.YtcgohiiihhplgaaDoorR42
import Derived.Test.YtcgohiiihhplgaaDoorD3
import Derived.Test.YtcgohiiihhplgaaDoorK3
import Derived.Test.YtcgohiiihhplgaaDoorAmS
import Derived.Test.YtcgohiiihhplgaaDoorK4
import Derived.Test.YtcgohiiihhplgaaDoorK5
import Derived.Test.YtcgohiiihhplgaaDoorK6
import Derived.Test.YtcgohiiihhplgaaDoorS13
import Derived.Test.YtcgohiiihhplgaaDoorS14
import Derived.Test.YtcgohiiihhplgaaDoorCB
import Derived.Test.YtcgohiiihhplgaaDoorD0
import Derived.Test.YtcgohiiihhplgaaDoorDet1
import Derived.Test.YtcgohiiihhplgaaDoorDH1
import Derived.Test.YtcgohiiihhplgaaDoorD4
import Derived.Test.YtcgohiiihhplgaaDoorM1
import Derived.Test.YtcgohiiihhplgaaDoorM2
import Derived.Test.YtcgohiiihhplgaaDoorQ11
import Derived.Test.YtcgohiiihhplgaaDoorT4
import Derived.Test.YtcgohiiihhplgaaDoorT10
set_option linter.unusedVariables false
set_option linter.unusedSimpArgs false
set_option linter.unusedSectionVars false
namespace Go.Proofs.YtcgohiiihhplgaaDoor.dominoBoards
open Go.ChangeShapes Go.WideShapes Go.ChangeAt Go.RowKit Go.AM
open Go.Proofs.YtcgohiiihhplgaaDoor.own
theorem walk (a b : Int) (W : World) (hG : Glob (fun _ => none) W) (h0 : 0 ≤ a) (h1 : 0 ≤ b) : Calls Tryd.prog 10 #[.int .u8 a, .int .u8 b] W fun e w' => e = .returned (.bool true) ∧ Stays W w' := by
  obtain ⟨m', h⟩ := t10 0 0 (m := []) (Nat.zero_le _) a b h0 h1
  have hl : LRel (fun _ => none) [.int .u8 a, .int .u8 b] [.int .u8 a, .int .u8 b] := LRel.cons (.int _ _) (LRel.cons (.int _ _) (LRel.nil _))
  have hs := ((rt_sound (0 + 1020)).one h).2.2 (fun _ => none) W _ (rel_nil hG) (Nat.le_refl _) hl
  refine Calls.mono hs fun e w' hk => ?_
  obtain ⟨ρ', he, _, v', hend, hv⟩ := hk
  cases hv
  exact ⟨hend, stays_of_ext he⟩
theorem pr10 : Tryd.f10.params = #[5, 5] := by kernel_rfl
theorem un4 : Tryd.prog.underlying 4 = some .bool := by kernel_rfl
set_option maxRecDepth 100000 in
theorem contract (H : Type) (enc : TypeId × Value → H) (W : World) (base : Nat) (args : Array Value) (ds gs : List (DataW H)) (before : List MemPlace)
    (hval : ∀ (j : Nat) t v, Tryd.f10.params[j]? = some t → args[j]? = some v → Value.okWide Tryd.prog W .any base t v)
    (hW : DataW.Whole enc Tryd.prog Tryd.f10.params.toList Rows.dominoBoardsSpec.vars false W args.toList ds gs before) (hL : laidMetH Tryd.prog Rows.dominoBoardsRow.laid W) :
    Calls Tryd.prog 10 args W fun e W' => ∃ v, e = .returned v ∧ Rows.dominoBoardsSpec.post enc Tryd.prog Tryd.f10 false true false false W args v W' := by
  have hW' := hW
  obtain ⟨p, q, hA0, hV, rfl, hfz, hnd⟩ := hW
  have hA : DataW.TrodAll enc Tryd.prog W 0 (fun _ => true) true Tryd.f10.params.toList args.toList ds p := hA0
  rw [pr10] at hA hval
  obtain ⟨v0, vs0, d0, ds0, p0, q0, hargs, rfl, rfl, h0, r0⟩ := trodAll_cons hA
  obtain ⟨v1, vs1, d1, ds1, p1, q1, hargs1, rfl, rfl, h1, r1⟩ := trodAll_cons r0
  obtain ⟨rfl, rfl, rfl⟩ := trodAll_nil r1
  subst hargs1
  obtain rfl : args = #[v0, v1] := by cases args; simp_all
  obtain ⟨rfl, rfl⟩ := trodVars_none hV
  obtain ⟨a0, rfl, rfl, rfl, w0⟩ := open_int un5 (hval 0 5 v0 (by simp) (by simp)) h0
  obtain ⟨a1, rfl, rfl, rfl, w1⟩ := open_int un5 (hval 1 5 v1 (by simp) (by simp)) h1
  clear hA0
  simp only [List.append_nil] at hW'
  have wf0 : ∀ a0 : Int, (Lit.int .u8 a0).wf = true → 0 ≤ a0 := fun a0 w0 => by
    unfold Lit.wf at w0
    rw [Bool.and_eq_true, decide_eq_true_eq, decide_eq_true_eq] at w0
    exact w0.1
  refine (walk a0 a1 W (glob_of hL) (wf0 a0 w0) (wf0 a1 w1)).mono fun e W' ⟨he, hg⟩ => ?_
  subst he
  refine ⟨_, rfl, post_of_stays (pa := []) (pv := []) hW' (fun _ _ _ => ?_) (fun sp _ => ?_) (fun _ _ => rfl) rfl (World.keptBut_mono (fun _ f => f.elim) hg.1) hg.2 (ok_one (by kernel_rfl) rfl (okWide_bool_mk un4 _))⟩
  · exact (trodAll_cons_mk (shut_bool un4 _) trodAll_mk0)
  · exact (trodAll_cons_mk (shut_int un5 w0) (trodAll_cons_mk (shut_int un5 w1) trodAll_mk0))
theorem laid_met (os : Os) : laidMet Tryd.prog Rows.dominoBoardsRow.laid ((laidWorld os).forCall (fun _ _ => 0) ⟨#[], #[.int .u8 0, .int .u8 0], []⟩).memory :=
  laidMet_of_run' 8 (by kernel_rfl) (by kernel_rfl)
theorem reads (os : Os) {H : Type} (enc : TypeId × Value → H) : ∃ places, DataW.whole enc Tryd.prog ((laidWorld os).forCall (fun _ _ => 0) ⟨#[], #[.int .u8 0, .int .u8 0], []⟩).memory Tryd.f10.params.toList Rows.dominoBoardsSpec.vars false #[Value.int .u8 0, .int .u8 0].toList 8 = some ([.lit (.int .u8 0), .lit (.int .u8 0)], [], places) :=
  ⟨[], by kernel_rfl⟩
set_option maxRecDepth 100000 in
theorem lifted (os : Os) (started : os.Started) (H : Type) (enc : TypeId × Value → H) (F : Stop.Interp) :
    ReturnsInHanded {} Tryd.checked os 10 .any ((OpenSpec.ofChange Rows.dominoBoardsSpec).preRow enc Tryd.prog Tryd.f10 Rows.dominoBoardsRow.domain false Rows.dominoBoardsRow.laid) (((OpenSpec.ofChange Rows.dominoBoardsSpec).at F).post enc Tryd.prog Tryd.f10 false true false false) := by
  obtain ⟨places, hx⟩ := reads os enc
  refine returnsInHanded_of_row (C := Tryd.checked) (s := OpenSpec.ofChange Rows.dominoBoardsSpec) own started (by kernel_rfl) Tryd.func10
    (witness_row_at (enc := enc) (C := Tryd.checked) false (laidWorld os) #[.int .u8 0, .int .u8 0] rfl (by kernel_rfl) (by kernel_rfl) (by kernel_rfl)
      (OpenSpec.preRow_of_cond 8 hx (by kernel_rfl) (fun k hk => by cases hk) (by kernel_rfl) (laid_met os))) ?_
  intro W base args ds gs before hval hW _ _ _ hL _ _
  exact contract H enc W base args ds gs before hval hW hL
theorem said : Rows.DominoBoardsSaid :=
  OpenClaim.holds_of_cond 10 Tryd.f10 rfl rfl rfl rfl rfl rfl rfl ⟨rfl, rfl, rfl, rfl, rfl⟩ rfl rfl rfl rfl rfl (by kernel_rfl) Tryd.func10 (by kernel_rfl)
    (of_decide_eq_true (by kernel_rfl)) (by unfold Func.isWrapper; first | (rw [if_pos (by decide +kernel)]; kernel_rfl) | (rw [if_neg (by decide +kernel)]; exact ⟨rfl, rfl⟩))
    (fun os started H enc _ F => by rw [OpenClaim.pre_eq_preRow]; exact lifted os started H enc F)
theorem plain (f : FuncId) (fn : Func) (hf : Tryd.pinned.checked.prog.funcNamed "encaustic/encausticlaw02.DominoBoards" = some f) (hfn : Tryd.pinned.checked.prog.funcs[f]? = some fn) :
    false = Tryd.pinned.checked.prog.looks [] ∧ ∀ (j : Nat) t, fn.params[j]? = some t → Tryd.pinned.checked.prog.wantsStandIn t = false := by
  obtain rfl : f = 10 := Option.some.inj ((show Tryd.prog.funcNamed "encaustic/encausticlaw02.DominoBoards" = some 10 by kernel_rfl).symm.trans hf) |>.symm
  obtain rfl : fn = Tryd.f10 := (Option.some.inj (Tryd.func10.symm.trans hfn)).symm
  refine ⟨by kernel_rfl, fun j t ht => ?_⟩
  rw [pr10] at ht
  obtain rfl : t = 5 := by simpa using Array.mem_of_getElem? ht
  exact (show Tryd.prog.wantsStandIn 5 = false by kernel_rfl)
theorem proved : Rows.DominoBoardsCardSaid :=
  Claim7.holds_tied_plain_at .later [] _ _ _ _ said (fun _ h => by cases h) (by kernel_rfl) (fun _ h => by cases h) dominoBoards_row_tie rfl ⟨rfl, rfl⟩ (by kernel_rfl) rfl plain (by kernel_rfl)
end Go.Proofs.YtcgohiiihhplgaaDoor.dominoBoards
