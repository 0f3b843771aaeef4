import Derived.KernelRfl
import Derived.Laws.BytesArg
import Derived.Laws.StructEq
import Derived.RangeFuncLeaves
import Derived.RangeFuncRecord
import Derived.Test.YtnefldkiipdckaaProg
import Derived.Test.YtnefldkiipdckaaRows
import Derived.WalkKit
import Derived.Test.YtnefldkiipdckaaAmB
import Derived.Test.YtnefldkiipdckaaAmG
import Derived.Test.YtnefldkiipdckaaAmModel
import Derived.Test.YtnefldkiipdckaaAmRel
import Derived.Test.YtnefldkiipdckaaAmOps6
import Derived.Test.YtnefldkiipdckaaAmCode
import Derived.Test.YtnefldkiipdckaaAmDraw5
import Derived.Test.YtnefldkiipdckaaAmEq
import Derived.Test.YtnefldkiipdckaaRBase
import Derived.Test.YtnefldkiipdckaaR58
set_option linter.unusedVariables false
set_option linter.unusedSimpArgs false
set_option linter.unusedSectionVars false
namespace Go.AM
open Go Go.Proofs
noncomputable def r107_L2 (call : CallF) (fuel base : Nat) (kx2 : Value → Value → Value → M → Res2) (n : Nat) : Value → Value → Value → Value → Value → Value → M → Res2 :=
 Nat.rec (motive := fun _ => Value → Value → Value → Value → Value → Value → M → Res2) (fun _ _ _ _ _ _ _ => none)
  (fun _ ih x3 x4 x10 x11 x18 x19 m =>
   (k1 (mbin E .lss 3 x19 (.int .i64 5)) fun u7 => (kb u7 (k1 (mindex E.P 145 x18 x19) fun u8 => (kc (kB m (call m.length 74 [u8] m)) (fun u9 m => (k1 (mindexAddr E.P 125 x3 x4) fun u10 => (k1 (mfieldAddr E.P 147 u10 4) fun u11 => (k1 (mindexAddr E.P 145 u11 x19) fun u12 => (ks (xstore E.P base m 22 u12 u9) fun m => (k1 (mbin E .add 3 x19 (.int .i64 1)) fun u13 => (ih x3 x4 x10 x11 x18 u13 m))))))) (fun _ _ => none))) (kx2 x3 x10 x11 m)))) n
noncomputable def r107_L0 (call : CallF) (fuel base : Nat) (kx0 : Value → M → Res2) (n : Nat) : Value → Value → Value → M → Res2 :=
 Nat.rec (motive := fun _ => Value → Value → Value → M → Res2) (fun _ _ _ _ => none)
  (fun _ ih x3 x10 x11 m =>
   (k1 (mbin E .lss 3 x11 x10) fun u3 => (kb u3 (k1 (mindexAddr E.P 125 x3 x11) fun u4 => (k1 (mfieldAddr E.P 147 u4 4) fun u5 => (k1 (xload E.P m 145 u5) fun u6 => (r107_L2 call fuel base (fun w14 w15 w16 m => (k1 (mbin E .add 3 w16 (.int .i64 1)) fun u17 => (ih w14 w15 u17 m))) fuel x3 x11 x10 x11 u6 (.int .i64 0) m)))) (kx0 x3 m)))) n
noncomputable def r107 (call : CallF) (fuel base : Nat) (x0 : Value) (m : M) : Res2 :=
 (kc (call base 114 [x0] m) (fun u1 m => (k2 (vcall E.P base m .len [125] [u1]) fun u2 m => (r107_L0 call fuel base (fun w18 m => (fVal w18 fun v => some (.ret v, m))) fuel u1 u2 (.int .i64 0) m))) (fun v m => some (.pan v, m)))
def keep107 : Keep := { region := fun i => ([[0], [3], [3, 10, 11], [3, 10, 11, 12], [3, 4, 10, 11], [3, 4, 10, 11, 18, 19], [3, 4, 10, 11, 18, 19, 20], [3, 4, 5, 6, 10, 11, 18, 19], [3, 4, 10, 11, 18, 19], [3, 4, 10, 11, 18, 19], [3, 10, 11], [2]] : List (List Nat))[i]?, exit := fun i => ([[3], [3, 10, 11], [3, 10, 11], [3, 4, 10, 11, 18, 19]] : List (List Nat))[i]?, ret := some [2] }
noncomputable def r107_L2_R (call : CallF) (fuel base n : Nat) (vs : List Value) (m : M) (K : KT) : Res2 := match vs with
 | [x3, x4, x10, x11, x18, x19] => r107_L2 call fuel base (fun y3 y10 y11 m => K (.exit 2) { n := 34, l := [(3, y3), (10, y10), (11, y11)] } m) n x3 x4 x10 x11 x18 x19 m
 | _ => none
noncomputable def r107_L0_R (call : CallF) (fuel base n : Nat) (vs : List Value) (m : M) (K : KT) : Res2 := match vs with
 | [x3, x10, x11] => r107_L0 call fuel base (fun y3 m => K (.exit 0) { n := 34, l := [(3, y3)] } m) n x3 x10 x11 m
 | _ => none
noncomputable def lp107 (call : CallF) (fuel base : Nat) : Lp := lpsel [(2, fun T m K => kslots 34 [3, 4, 10, 11, 18, 19] T fun vs => r107_L2_R call fuel base fuel vs m K), (0, fun T m K => kslots 34 [3, 10, 11] T fun vs => r107_L0_R call fuel base fuel vs m K)]
noncomputable def c107 : Code := Try.f107.body.getD .skip
noncomputable def p107_0 : Code := loopB (blockB (seqR (seqL (seqR (seqR c107)))))
noncomputable def p107_2 : Code := loopB (blockB (seqR (seqR (blockB (seqL (seqR (seqR (loopB (blockB (seqR (seqL (seqR (seqR c107)))))))))))))
theorem r107_L2_ok (call : CallF) (fuel base : Nat) : LQ lp107 call fuel base 2 p107_2 := by
 refine loop_ok (kp := keep107) (hb := Eq.mpr (show _ = (And True (And B2 D2)) by kernel_rfl) ⟨trivial, ⟨q2, e2⟩⟩) 34 [3, 4, 10, 11, 18, 19] (r107_L2_R call fuel base) ?_ ?_ (fun _ _ _ => rfl)
 ·intro vs m K
  unfold r107_L2_R
  split <;> rfl
 ·intro n vs m K hl
  match vs, hl with
  | [x3, x4, x10, x11, x18, x19], _ => show _ = _; kernel_rfl
theorem r107_L0_ok (call : CallF) (fuel base : Nat) : LQ lp107 call fuel base 0 p107_0 := by
 refine loop_ok (kp := keep107) (hb := Eq.mpr (show _ = (And True (And B2 (And (And True (And True (LQ lp107 call fuel base 2 p107_2))) True))) by kernel_rfl) ⟨trivial, ⟨q2, ⟨⟨trivial, ⟨trivial, (r107_L2_ok call fuel base)⟩⟩, trivial⟩⟩⟩) 34 [3, 10, 11] (r107_L0_R call fuel base) ?_ ?_ (fun _ _ _ => rfl)
 ·intro vs m K
  unfold r107_L0_R
  split <;> rfl
 ·intro n vs m K hl
  match vs, hl with
  | [x3, x10, x11], _ => show _ = _; kernel_rfl
theorem r107_eq (call : CallF) (fuel base : Nat) (x0 : Value) (m : M) : kbody E call keep107 (lp107 call fuel base) base Try.f107 [x0] m = r107 call fuel base x0 m := by
 kernel_rfl
noncomputable def rf107 : RF := fun call fuel base args m => match args with
 | [x0] => r107 call fuel base x0 m
 | _ => none
theorem rf107_ok : RFok E 107 rf107 := by
 show RFok' E 107 rf107
 refine ⟨Try.f107, (by kernel_rfl), fun call fuel base args m r _ h => ?_⟩
 unfold rf107 at h
 split at h
 ·rw [← r107_eq] at h
  exact kbody_sound (c := c107) (by kernel_rfl) (Eq.mpr (show _ = (And True (And True (And (And True (LQ lp107 call fuel base 0 p107_0)) B2))) by kernel_rfl) ⟨trivial, ⟨trivial, ⟨⟨trivial, (r107_L0_ok call fuel base)⟩, q2⟩⟩⟩) h
 ·simp at h
end Go.AM
namespace Go.AM
open Go Go.Proofs
noncomputable def r108 (call : CallF) (fuel base : Nat) (x0 : Value) (m : M) : Res2 :=
 (k1 (mnil x0) fun u1 => (k1 (mfieldAddr E.P 147 u1 0) fun u2 => (k1 (xload E.P m 4 u2) fun u3 => (kb u3 (k1 (mnil x0) fun u4 => (k1 (mfieldAddr E.P 147 u4 3) fun u5 => (k1 (xload E.P m 144 u5) fun u6 => (k1 (mbuild E.P 144 []) fun u7 => (k1 (mbin E .eql 144 u6 u7) fun u8 => (fVal u8 fun v => some (.ret v, m))))))) (fVal (.bool false) fun v => some (.ret v, m))))))
def keep108 : Keep := { region := fun i => ([[0], [2]] : List (List Nat))[i]?, exit := fun i => ([] : List (List Nat))[i]?, ret := some [2] }
noncomputable def lp108 (call : CallF) (fuel base : Nat) : Lp := lpsel []
noncomputable def c108 : Code := Try.f108.body.getD .skip
theorem r108_eq (call : CallF) (fuel base : Nat) (x0 : Value) (m : M) : kbody E call keep108 (lp108 call fuel base) base Try.f108 [x0] m = r108 call fuel base x0 m := by
 kernel_rfl
noncomputable def rf108 : RF := fun call fuel base args m => match args with
 | [x0] => r108 call fuel base x0 m
 | _ => none
theorem rf108_ok : RFok E 108 rf108 := by
 show RFok' E 108 rf108
 refine ⟨Try.f108, (by kernel_rfl), fun call fuel base args m r _ h => ?_⟩
 unfold rf108 at h
 split at h
 ·rw [← r108_eq] at h
  exact kbody_sound (c := c108) (by kernel_rfl) (Eq.mpr (show _ = B3 by kernel_rfl) q3) h
 ·simp at h
end Go.AM
namespace Go.AM
open Go Go.Proofs
noncomputable def r113 (call : CallF) (fuel base : Nat) (x0 : Value) (m : M) : Res2 :=
 (k2 (vcall E.P base m .append [86, 86] [(.slice none 0 0), x0]) fun u1 m => (fVal u1 fun v => some (.ret v, m)))
def keep113 : Keep := { region := fun i => ([[0], [0, 3], [2]] : List (List Nat))[i]?, exit := fun i => ([] : List (List Nat))[i]?, ret := some [2] }
noncomputable def lp113 (call : CallF) (fuel base : Nat) : Lp := lpsel []
noncomputable def c113 : Code := Try.f113.body.getD .skip
theorem r113_eq (call : CallF) (fuel base : Nat) (x0 : Value) (m : M) : kbody E call keep113 (lp113 call fuel base) base Try.f113 [x0] m = r113 call fuel base x0 m := by
 kernel_rfl
noncomputable def rf113 : RF := fun call fuel base args m => match args with
 | [x0] => r113 call fuel base x0 m
 | _ => none
theorem rf113_ok : RFok E 113 rf113 := by
 show RFok' E 113 rf113
 refine ⟨Try.f113, (by kernel_rfl), fun call fuel base args m r _ h => ?_⟩
 unfold rf113 at h
 split at h
 ·rw [← r113_eq] at h
  exact kbody_sound (c := c113) (by kernel_rfl) (Eq.mpr (show _ = B4 by kernel_rfl) q4) h
 ·simp at h
end Go.AM
namespace Go.AM
open Go Go.Proofs
noncomputable def r114 (call : CallF) (fuel base : Nat) (x0 : Value) (m : M) : Res2 :=
 (k1 (mbin E .eql 125 x0 (.slice none 0 0)) fun u1 => (kb u1 (fVal (.slice none 0 0) fun v => some (.ret v, m)) (k2 (xbuildSlice E.P m 125 0 []) fun u2 m => (k2 (vcall E.P base m .append [125, 125] [u2, x0]) fun u3 m => (fVal u3 fun v => some (.ret v, m))))))
def keep114 : Keep := { region := fun i => ([[0], [0, 4], [2], [2]] : List (List Nat))[i]?, exit := fun i => ([] : List (List Nat))[i]?, ret := some [2] }
noncomputable def lp114 (call : CallF) (fuel base : Nat) : Lp := lpsel []
noncomputable def c114 : Code := Try.f114.body.getD .skip
theorem r114_eq (call : CallF) (fuel base : Nat) (x0 : Value) (m : M) : kbody E call keep114 (lp114 call fuel base) base Try.f114 [x0] m = r114 call fuel base x0 m := by
 kernel_rfl
noncomputable def rf114 : RF := fun call fuel base args m => match args with
 | [x0] => r114 call fuel base x0 m
 | _ => none
theorem rf114_ok : RFok E 114 rf114 := by
 show RFok' E 114 rf114
 refine ⟨Try.f114, (by kernel_rfl), fun call fuel base args m r _ h => ?_⟩
 unfold rf114 at h
 split at h
 ·rw [← r114_eq] at h
  exact kbody_sound (c := c114) (by kernel_rfl) (Eq.mpr (show _ = (And True D5) by kernel_rfl) ⟨trivial, e5⟩) h
 ·simp at h
end Go.AM
namespace Go.AM
open Go Go.Proofs
noncomputable def r130 (call : CallF) (fuel base : Nat) (x0 : Value) (m : M) : Res2 :=
 (k2 (xbox m x0) fun u1 m => (k1 (mfieldAddr E.P 117 u1 0) fun u2 => (k1 (xload E.P m 3 u2) fun u3 => (fVal u3 fun v => some (.ret v, m)))))
def keep130 : Keep := { region := fun i => ([[1], [2]] : List (List Nat))[i]?, exit := fun i => ([] : List (List Nat))[i]?, ret := some [2] }
noncomputable def lp130 (call : CallF) (fuel base : Nat) : Lp := lpsel []
noncomputable def c130 : Code := Try.f130.body.getD .skip
theorem r130_eq (call : CallF) (fuel base : Nat) (x0 : Value) (m : M) : kbody E call keep130 (lp130 call fuel base) base Try.f130 [x0] m = r130 call fuel base x0 m := by
 kernel_rfl
noncomputable def rf130 : RF := fun call fuel base args m => match args with
 | [x0] => r130 call fuel base x0 m
 | _ => none
theorem rf130_ok : RFok E 130 rf130 := by
 show RFok' E 130 rf130
 refine ⟨Try.f130, (by kernel_rfl), fun call fuel base args m r _ h => ?_⟩
 unfold rf130 at h
 split at h
 ·rw [← r130_eq] at h
  exact kbody_sound (c := c130) (by kernel_rfl) (Eq.mpr (show _ = B3 by kernel_rfl) q3) h
 ·simp at h
end Go.AM
namespace Go.AM
open Go Go.Proofs
noncomputable def r131 (call : CallF) (fuel base : Nat) (x0 : Value) (m : M) : Res2 :=
 (k2 (xbox m x0) fun u1 m => (k1 (mfieldAddr E.P 120 u1 0) fun u2 => (k1 (xload E.P m 3 u2) fun u3 => (k1 (mun .neg u3) fun u4 => (fVal u4 fun v => some (.ret v, m))))))
def keep131 : Keep := { region := fun i => ([[1], [2]] : List (List Nat))[i]?, exit := fun i => ([] : List (List Nat))[i]?, ret := some [2] }
noncomputable def lp131 (call : CallF) (fuel base : Nat) : Lp := lpsel []
noncomputable def c131 : Code := Try.f131.body.getD .skip
theorem r131_eq (call : CallF) (fuel base : Nat) (x0 : Value) (m : M) : kbody E call keep131 (lp131 call fuel base) base Try.f131 [x0] m = r131 call fuel base x0 m := by
 kernel_rfl
noncomputable def rf131 : RF := fun call fuel base args m => match args with
 | [x0] => r131 call fuel base x0 m
 | _ => none
theorem rf131_ok : RFok E 131 rf131 := by
 show RFok' E 131 rf131
 refine ⟨Try.f131, (by kernel_rfl), fun call fuel base args m r _ h => ?_⟩
 unfold rf131 at h
 split at h
 ·rw [← r131_eq] at h
  exact kbody_sound (c := c131) (by kernel_rfl) (Eq.mpr (show _ = B3 by kernel_rfl) q3) h
 ·simp at h
end Go.AM
namespace Go.AM
open Go Go.Proofs
noncomputable def ytab : List (Nat × RYs) := []
theorem ytab_ok : ∀ p ∈ ytab, RYsOk E p.1 p.2 := by
 unfold ytab
 simp only [List.mem_cons, forall_eq_or_imp, List.not_mem_nil, false_imp_iff, implies_true, and_true]
theorem ry_ok' : RFok E yid (ryOf ytab) := show RYok E (ryOf ytab) from ry_ok ytab_ok
noncomputable def tab : List (Nat × RF) := [(yid, ryOf ytab), (6, rf6), (14, rf14), (15, rf15), (16, rf16), (17, rf17), (18, rf18), (19, rf19), (20, rf20), (21, rf21), (22, rf22), (23, rf23), (24, rf24), (25, rf25), (26, rf26), (27, rf27), (28, rf28), (29, rf29), (30, rf30), (31, rf31), (32, rf32), (33, rf33), (49, rf49), (50, rf50), (51, rf51), (52, rf52), (53, rf53), (54, rf54), (55, rf55), (56, rf56), (57, rf57), (58, rf58), (59, rf59), (60, rf60), (61, rf61), (62, rf62), (63, rf63), (64, rf64), (65, rf65), (66, rf66), (67, rf67), (68, rf68), (69, rf69), (70, rf70), (71, rf71), (72, rf72), (73, rf73), (74, rf74), (75, rf75), (76, rf76), (77, rf77), (78, rf78), (79, rf79), (80, rf80), (81, rf81), (82, rf82), (92, rf92), (93, rf93), (94, rf94), (95, rf95), (96, rf96), (97, rf97), (98, rf98), (99, rf99), (100, rf100), (101, rf101), (102, rf102), (103, rf103), (104, rf104), (105, rf105), (106, rf106), (107, rf107), (108, rf108), (113, rf113), (114, rf114), (130, rf130), (131, rf131)]
theorem tab_ok : ∀ p ∈ tab, RFok E p.1 p.2 := by
 unfold tab
 simp only [List.mem_cons, forall_eq_or_imp, List.not_mem_nil, false_imp_iff, implies_true, and_true]
 exact ⟨ry_ok', rf6_ok, rf14_ok, rf15_ok, rf16_ok, rf17_ok, rf18_ok, rf19_ok, rf20_ok, rf21_ok, rf22_ok, rf23_ok, rf24_ok, rf25_ok, rf26_ok, rf27_ok, rf28_ok, rf29_ok, rf30_ok, rf31_ok, rf32_ok, rf33_ok, rf49_ok, rf50_ok, rf51_ok, rf52_ok, rf53_ok, rf54_ok, rf55_ok, rf56_ok, rf57_ok, rf58_ok, rf59_ok, rf60_ok, rf61_ok, rf62_ok, rf63_ok, rf64_ok, rf65_ok, rf66_ok, rf67_ok, rf68_ok, rf69_ok, rf70_ok, rf71_ok, rf72_ok, rf73_ok, rf74_ok, rf75_ok, rf76_ok, rf77_ok, rf78_ok, rf79_ok, rf80_ok, rf81_ok, rf82_ok, rf92_ok, rf93_ok, rf94_ok, rf95_ok, rf96_ok, rf97_ok, rf98_ok, rf99_ok, rf100_ok, rf101_ok, rf102_ok, rf103_ok, rf104_ok, rf105_ok, rf106_ok, rf107_ok, rf108_ok, rf113_ok, rf114_ok, rf130_ok, rf131_ok⟩
noncomputable def rc (n : Nat) : CallF := rcall E.pure tab n
end Go.AM
