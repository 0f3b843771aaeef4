import Derived.KernelRfl
import Derived.Laws.BytesArg
import Derived.Laws.StructEq
import Derived.RangeFuncLeaves
import Derived.RangeFuncRecord
import Derived.Test.YtnefldkiipdckaaProg
import Derived.Test.YtnefldkiipdckaaRows
import Derived.WalkKit
import Derived.Test.YtnefldkiipdckaaAmB
import Derived.Test.YtnefldkiipdckaaAmG
import Derived.Test.YtnefldkiipdckaaAmModel
import Derived.Test.YtnefldkiipdckaaAmRel
import Derived.Test.YtnefldkiipdckaaAmOps6
import Derived.Test.YtnefldkiipdckaaAmCode
import Derived.Test.YtnefldkiipdckaaAmDraw5
import Derived.Test.YtnefldkiipdckaaAmEq
import Derived.Test.YtnefldkiipdckaaRBase
set_option linter.unusedVariables false
set_option linter.unusedSimpArgs false
set_option linter.unusedSectionVars false
namespace Go.AM
open Go Go.Proofs
noncomputable def r108 (call : CallF) (fuel base : Nat) (x0 : Value) (m : M) : Res2 :=
  (k1 (mnil x0) fun v4_1 => (k1 (mfieldAddr E.P 147 v4_1 0) fun v5_2 => (k1 (xload E.P m 4 v5_2) fun v6_3 => (kb v6_3 (k1 (mnil x0) fun v9_4 => (k1 (mfieldAddr E.P 147 v9_4 3) fun v10_5 => (k1 (xload E.P m 144 v10_5) fun v11_6 => (k1 (mbuild E.P 144 []) fun v12_7 => (k1 (mbin E .eql 144 v11_6 v12_7) fun v13_8 => (fVal v13_8 fun v => some (.ret v, m))))))) (fVal (.bool false) fun v => some (.ret v, m))))))
def keep108 : Keep := { region := fun i => ([[0], [2]] : List (List Nat))[i]?, exit := fun i => ([] : List (List Nat))[i]?, ret := some [2] }
noncomputable def lp108 (call : CallF) (fuel base : Nat) : Lp := lpsel []
noncomputable def c108 : Code := Try.f108.body.getD .skip
theorem r108_eq (call : CallF) (fuel base : Nat) (x0 : Value) (m : M) : kbody E call keep108 (lp108 call fuel base) base Try.f108 [x0] m = r108 call fuel base x0 m := by
  kernel_rfl
noncomputable def rf108 : RF := fun call fuel base args m => match args with
  | [x0] => r108 call fuel base x0 m
  | _ => none
theorem r108_lk (call : CallF) (fuel base : Nat) : LoopsOk E call (lp108 call fuel base) fuel base 0 c108 = (And True (And True True)) := by kernel_rfl
theorem r108_fn : E.P.funcs[108]? = some Try.f108 := by kernel_rfl
theorem r108_body : Try.f108.body = some c108 := by kernel_rfl
theorem rf108_ok : RFok E 108 rf108 := by
  show RFok' E 108 rf108
  refine ⟨Try.f108, r108_fn, fun call fuel base args m r _ h => ?_⟩
  unfold rf108 at h
  split at h
  · rw [← r108_eq] at h
    exact kbody_sound (c := c108) r108_body (Eq.mpr (r108_lk call fuel base) (And.intro trivial (And.intro trivial trivial))) h
  · simp at h
end Go.AM
namespace Go.AM
open Go Go.Proofs
noncomputable def r130 (call : CallF) (fuel base : Nat) (x0 : Value) (m : M) : Res2 :=
  (k2 (xbox m x0) fun v1_1 m => (k1 (mfieldAddr E.P 117 v1_1 0) fun v3_2 => (k1 (xload E.P m 3 v3_2) fun v4_3 => (fVal v4_3 fun v => some (.ret v, m)))))
def keep130 : Keep := { region := fun i => ([[1], [2]] : List (List Nat))[i]?, exit := fun i => ([] : List (List Nat))[i]?, ret := some [2] }
noncomputable def lp130 (call : CallF) (fuel base : Nat) : Lp := lpsel []
noncomputable def c130 : Code := Try.f130.body.getD .skip
theorem r130_eq (call : CallF) (fuel base : Nat) (x0 : Value) (m : M) : kbody E call keep130 (lp130 call fuel base) base Try.f130 [x0] m = r130 call fuel base x0 m := by
  kernel_rfl
noncomputable def rf130 : RF := fun call fuel base args m => match args with
  | [x0] => r130 call fuel base x0 m
  | _ => none
theorem r130_lk (call : CallF) (fuel base : Nat) : LoopsOk E call (lp130 call fuel base) fuel base 0 c130 = (And True (And True True)) := by kernel_rfl
theorem r130_fn : E.P.funcs[130]? = some Try.f130 := by kernel_rfl
theorem r130_body : Try.f130.body = some c130 := by kernel_rfl
theorem rf130_ok : RFok E 130 rf130 := by
  show RFok' E 130 rf130
  refine ⟨Try.f130, r130_fn, fun call fuel base args m r _ h => ?_⟩
  unfold rf130 at h
  split at h
  · rw [← r130_eq] at h
    exact kbody_sound (c := c130) r130_body (Eq.mpr (r130_lk call fuel base) (And.intro trivial (And.intro trivial trivial))) h
  · simp at h
end Go.AM
namespace Go.AM
open Go Go.Proofs
noncomputable def r131 (call : CallF) (fuel base : Nat) (x0 : Value) (m : M) : Res2 :=
  (k2 (xbox m x0) fun v1_1 m => (k1 (mfieldAddr E.P 120 v1_1 0) fun v3_2 => (k1 (xload E.P m 3 v3_2) fun v4_3 => (k1 (mun .neg v4_3) fun v5_4 => (fVal v5_4 fun v => some (.ret v, m))))))
def keep131 : Keep := { region := fun i => ([[1], [2]] : List (List Nat))[i]?, exit := fun i => ([] : List (List Nat))[i]?, ret := some [2] }
noncomputable def lp131 (call : CallF) (fuel base : Nat) : Lp := lpsel []
noncomputable def c131 : Code := Try.f131.body.getD .skip
theorem r131_eq (call : CallF) (fuel base : Nat) (x0 : Value) (m : M) : kbody E call keep131 (lp131 call fuel base) base Try.f131 [x0] m = r131 call fuel base x0 m := by
  kernel_rfl
noncomputable def rf131 : RF := fun call fuel base args m => match args with
  | [x0] => r131 call fuel base x0 m
  | _ => none
theorem r131_lk (call : CallF) (fuel base : Nat) : LoopsOk E call (lp131 call fuel base) fuel base 0 c131 = (And True (And True True)) := by kernel_rfl
theorem r131_fn : E.P.funcs[131]? = some Try.f131 := by kernel_rfl
theorem r131_body : Try.f131.body = some c131 := by kernel_rfl
theorem rf131_ok : RFok E 131 rf131 := by
  show RFok' E 131 rf131
  refine ⟨Try.f131, r131_fn, fun call fuel base args m r _ h => ?_⟩
  unfold rf131 at h
  split at h
  · rw [← r131_eq] at h
    exact kbody_sound (c := c131) r131_body (Eq.mpr (r131_lk call fuel base) (And.intro trivial (And.intro trivial trivial))) h
  · simp at h
end Go.AM
namespace Go.AM
open Go Go.Proofs
noncomputable def ytab : List (Nat × RYs) := []
theorem ytab_ok : ∀ p ∈ ytab, RYsOk E p.1 p.2 := by
  unfold ytab
  simp only [List.mem_cons, forall_eq_or_imp, List.not_mem_nil, false_imp_iff, implies_true, and_true]
theorem ry_ok' : RFok E yid (ryOf ytab) := show RYok E (ryOf ytab) from ry_ok ytab_ok
noncomputable def tab : List (Nat × RF) := [(yid, ryOf ytab), (5, rf5), (14, rf14), (15, rf15), (17, rf17), (20, rf20), (23, rf23), (24, rf24), (25, rf25), (26, rf26), (27, rf27), (28, rf28), (31, rf31), (49, rf49), (50, rf50), (51, rf51), (52, rf52), (59, rf59), (65, rf65), (66, rf66), (67, rf67), (68, rf68), (69, rf69), (70, rf70), (71, rf71), (72, rf72), (73, rf73), (74, rf74), (75, rf75), (76, rf76), (78, rf78), (79, rf79), (80, rf80), (81, rf81), (92, rf92), (100, rf100), (101, rf101), (102, rf102), (103, rf103), (104, rf104), (108, rf108), (130, rf130), (131, rf131)]
theorem tab_ok : ∀ p ∈ tab, RFok E p.1 p.2 := by
  unfold tab
  simp only [List.mem_cons, forall_eq_or_imp, List.not_mem_nil, false_imp_iff, implies_true, and_true]
  exact ⟨ry_ok', rf5_ok, rf14_ok, rf15_ok, rf17_ok, rf20_ok, rf23_ok, rf24_ok, rf25_ok, rf26_ok, rf27_ok, rf28_ok, rf31_ok, rf49_ok, rf50_ok, rf51_ok, rf52_ok, rf59_ok, rf65_ok, rf66_ok, rf67_ok, rf68_ok, rf69_ok, rf70_ok, rf71_ok, rf72_ok, rf73_ok, rf74_ok, rf75_ok, rf76_ok, rf78_ok, rf79_ok, rf80_ok, rf81_ok, rf92_ok, rf100_ok, rf101_ok, rf102_ok, rf103_ok, rf104_ok, rf108_ok, rf130_ok, rf131_ok⟩
noncomputable def rc (n : Nat) : CallF := rcall E.pure tab n
end Go.AM
