import Derived.KernelRfl
import Derived.Laws.BytesArg
import Derived.Laws.StructEq
import Derived.RangeFuncLeaves
import Derived.RangeFuncRecord
import Derived.Test.YtakncchgcbnfeaaProg
import Derived.Test.YtakncchgcbnfeaaRows
import Derived.WalkKit
import Derived.Test.YtakncchgcbnfeaaAmB
import Derived.Test.YtakncchgcbnfeaaAmG
import Derived.Test.YtakncchgcbnfeaaAmModel
import Derived.Test.YtakncchgcbnfeaaAmRel
import Derived.Test.YtakncchgcbnfeaaAmOps6
import Derived.Test.YtakncchgcbnfeaaAmCode
import Derived.Test.YtakncchgcbnfeaaAmDraw5
import Derived.Test.YtakncchgcbnfeaaAmEq
import Derived.Test.YtakncchgcbnfeaaRBase
set_option linter.unusedVariables false
set_option linter.unusedSimpArgs false
set_option linter.unusedSectionVars false
namespace Go.AM
open Go Go.Proofs
noncomputable def r66_L2 (call : CallF) (fuel base : Nat) (kp : Value → M → Res2) (kx2 : Value → Value → Value → Value → Value → M → Res2) (n : Nat) : Value → Value → Value → Value → Value → Value → Value → Value → M → Res2 :=
  Nat.rec (motive := fun _ => Value → Value → Value → Value → Value → Value → Value → Value → M → Res2) (fun _ _ _ _ _ _ _ _ _ => none)
    (fun _ ih x1 x3 x4 x5 x15 x16 x20 x21 m =>
      (k1 (mbin E .lss 3 x21 x20) fun u10 => (kb u10 (k1 (mfieldAddr E.P 79 x1 1) fun u11 => (k1 (mindexAddr E.P 77 u11 x5) fun u12 => (k1 (mindexAddr E.P 76 u12 x21) fun u13 => (k1 (xload E.P m 3 u13) fun u14 => (kc (call base 91 [(.int .i64 0), x5, x21, u14] m) (fun u15 m => (k2 (xbuildSlice E.P m 47 1 [(0, u15)]) fun u16 m => (k2 (vcall E.P base m .append [47, 47] [x4, u16]) fun u17 m => (k1 (mbin E .add 3 x21 (.int .i64 1)) fun u18 => (ih x1 x3 u17 x5 x15 x16 x20 u18 m))))) (fun v m => kp v m)))))) (kx2 x1 x3 x4 x15 x16 m)))) n
noncomputable def r66_L6 (call : CallF) (fuel base : Nat) (kp : Value → M → Res2) (kx6 : Value → Value → Value → Value → Value → M → Res2) (n : Nat) : Value → Value → Value → Value → Value → Value → Value → Value → M → Res2 :=
  Nat.rec (motive := fun _ => Value → Value → Value → Value → Value → Value → Value → Value → M → Res2) (fun _ _ _ _ _ _ _ _ _ => none)
    (fun _ ih x1 x3 x4 x7 x39 x40 x44 x45 m =>
      (k1 (mbin E .lss 3 x45 x44) fun u33 => (kb u33 (k1 (mfieldAddr E.P 79 x1 1) fun u34 => (k1 (mindexAddr E.P 77 u34 x7) fun u35 => (k1 (xload E.P m 76 u35) fun u36 => (kc (call base 89 [u36, x45] m) (fun u37 m => (kc (call base 91 [(.int .i64 1), x7, u37, x45] m) (fun u38 m => (k2 (xbuildSlice E.P m 47 1 [(0, u38)]) fun u39 m => (k2 (vcall E.P base m .append [47, 47] [x4, u39]) fun u40 m => (k1 (mbin E .add 3 x45 (.int .i64 1)) fun u41 => (ih x1 x3 u40 x7 x39 x40 x44 u41 m))))) (fun v m => kp v m))) (fun v m => kp v m))))) (kx6 x1 x3 x4 x39 x40 m)))) n
noncomputable def r66_L10 (call : CallF) (fuel base : Nat) (kp : Value → M → Res2) (kx10 : Value → Value → Value → Value → Value → M → Res2) (n : Nat) : Value → Value → Value → Value → Value → Value → Value → Value → M → Res2 :=
  Nat.rec (motive := fun _ => Value → Value → Value → Value → Value → Value → Value → Value → M → Res2) (fun _ _ _ _ _ _ _ _ _ => none)
    (fun _ ih x3 x4 x9 x10 x66 x67 x71 x72 m =>
      (k1 (mbin E .lss 3 x72 x71) fun u60 => (kb u60 (k1 (mindexAddr E.P 77 x9 x10) fun u61 => (k1 (xload E.P m 76 u61) fun u62 => (kc (call base 89 [u62, x72] m) (fun u63 m => (kc (call base 91 [(.int .i64 2), u63, x10, x72] m) (fun u64 m => (k2 (xbuildSlice E.P m 47 1 [(0, u64)]) fun u65 m => (k2 (vcall E.P base m .append [47, 47] [x4, u65]) fun u66 m => (k1 (mbin E .add 3 x72 (.int .i64 1)) fun u67 => (ih x3 u66 x9 x10 x66 x67 x71 u67 m))))) (fun v m => kp v m))) (fun v m => kp v m)))) (kx10 x3 x4 x9 x66 x67 m)))) n
noncomputable def r66_L0 (call : CallF) (fuel base : Nat) (kp : Value → M → Res2) (kx0 : Value → Value → Value → M → Res2) (n : Nat) : Value → Value → Value → Value → Value → M → Res2 :=
  Nat.rec (motive := fun _ => Value → Value → Value → Value → Value → M → Res2) (fun _ _ _ _ _ _ => none)
    (fun _ ih x1 x3 x4 x15 x16 m =>
      (k1 (mbin E .lss 3 x16 x15) fun u7 => (kb u7 (k1 (mfieldAddr E.P 23 x3 1) fun u8 => (k1 (xload E.P m 3 u8) fun u9 => (r66_L2 call fuel base (fun v m => kp v m) (fun w19 w20 w21 w22 w23 m => (k1 (mbin E .add 3 w23 (.int .i64 1)) fun u24 => (ih w19 w20 w21 w22 u24 m))) fuel x1 x3 x4 x16 x15 x16 u9 (.int .i64 0) m))) (kx0 x1 x3 x4 m)))) n
noncomputable def r66_L4 (call : CallF) (fuel base : Nat) (kp : Value → M → Res2) (kx4 : Value → Value → Value → M → Res2) (n : Nat) : Value → Value → Value → Value → Value → M → Res2 :=
  Nat.rec (motive := fun _ => Value → Value → Value → Value → Value → M → Res2) (fun _ _ _ _ _ _ => none)
    (fun _ ih x1 x3 x4 x39 x40 m =>
      (k1 (mbin E .lss 3 x40 x39) fun u30 => (kb u30 (k1 (mfieldAddr E.P 23 x3 2) fun u31 => (k1 (xload E.P m 3 u31) fun u32 => (r66_L6 call fuel base (fun v m => kp v m) (fun w42 w43 w44 w45 w46 m => (k1 (mbin E .add 3 w46 (.int .i64 1)) fun u47 => (ih w42 w43 w44 w45 u47 m))) fuel x1 x3 x4 x40 x39 x40 u32 (.int .i64 0) m))) (kx4 x1 x3 x4 m)))) n
noncomputable def r66_L8 (call : CallF) (fuel base : Nat) (kp : Value → M → Res2) (kx8 : Value → M → Res2) (n : Nat) : Value → Value → Value → Value → Value → M → Res2 :=
  Nat.rec (motive := fun _ => Value → Value → Value → Value → Value → M → Res2) (fun _ _ _ _ _ _ => none)
    (fun _ ih x3 x4 x9 x66 x67 m =>
      (k1 (mbin E .lss 3 x67 x66) fun u57 => (kb u57 (k1 (mfieldAddr E.P 23 x3 2) fun u58 => (k1 (xload E.P m 3 u58) fun u59 => (r66_L10 call fuel base (fun v m => kp v m) (fun w68 w69 w70 w71 w72 m => (k1 (mbin E .add 3 w72 (.int .i64 1)) fun u73 => (ih w68 w69 w70 w71 u73 m))) fuel x3 x4 x9 x67 x66 x67 u59 (.int .i64 0) m))) (kx8 x4 m)))) n
noncomputable def r66 (call : CallF) (fuel base : Nat) (x0 : Value) (m : M) : Res2 :=
  (k2 (xbox m x0) fun u1 m => (k1 (mfieldAddr E.P 79 u1 0) fun u2 => (k1 (xload E.P m 23 u2) fun u3 => (k2 (xalloc E.P m 23) fun u4 m => (ks (xstore E.P base m 23 u4 u3) fun m => (k1 (mfieldAddr E.P 23 u4 0) fun u5 => (k1 (xload E.P m 3 u5) fun u6 => (r66_L0 call fuel base (fun v m => some (.pan v, m)) (fun w25 w26 w27 m => (k1 (mfieldAddr E.P 23 w26 0) fun u28 => (k1 (xload E.P m 3 u28) fun u29 => (r66_L4 call fuel base (fun v m => some (.pan v, m)) (fun w48 w49 w50 m => (k1 (xload E.P m 79 w48) fun u51 => (kc (call base 63 [u51] m) (fun u52 m => (k1 (mfield E.P 79 u52 1) fun u53 => (k2 (xalloc E.P m 77) fun u54 m => (ks (xstore E.P base m 77 u54 u53) fun m => (k1 (mfieldAddr E.P 23 w49 1) fun u55 => (k1 (xload E.P m 3 u55) fun u56 => (r66_L8 call fuel base (fun v m => some (.pan v, m)) (fun w74 m => (kc (call base 92 [w74, (.func (.func 93) #[] #[])] m) (fun u75 m => (fVal w74 fun v => some (.ret v, m))) (fun v m => some (.pan v, m)))) fuel w49 w50 u54 u56 (.int .i64 0) m))))))) (fun v m => some (.pan v, m))))) fuel w25 w26 w27 u29 (.int .i64 0) m)))) fuel u1 u4 (.slice none 0 0) u6 (.int .i64 0) m))))))))
def keep66 : Keep := { region := fun i => ([[1], [1, 3], [1, 3, 4], [1, 3, 4, 15, 16], [1, 3, 4, 15, 16, 17], [1, 3, 4, 5, 15, 16], [1, 3, 4, 5, 15, 16, 20, 21], [1, 3, 4, 5, 15, 16, 20, 21, 22], [1, 3, 4, 5, 6, 15, 16, 20, 21], [1, 3, 4, 5, 15, 16, 20, 21], [1, 3, 4, 5, 15, 16, 20, 21], [1, 3, 4, 15, 16], [1, 3, 4, 39, 40], [1, 3, 4, 39, 40, 41], [1, 3, 4, 7, 39, 40], [1, 3, 4, 7, 39, 40, 44, 45], [1, 3, 4, 7, 39, 40, 44, 45, 46], [1, 3, 4, 7, 8, 39, 40, 44, 45], [1, 3, 4, 7, 39, 40, 44, 45], [1, 3, 4, 7, 39, 40, 44, 45], [1, 3, 4, 39, 40], [3, 4, 9], [3, 4, 9, 66, 67], [3, 4, 9, 66, 67, 68], [3, 4, 9, 10, 66, 67], [3, 4, 9, 10, 66, 67, 71, 72], [3, 4, 9, 10, 66, 67, 71, 72, 73], [3, 4, 9, 10, 11, 66, 67, 71, 72], [3, 4, 9, 10, 66, 67, 71, 72], [3, 4, 9, 10, 66, 67, 71, 72], [3, 4, 9, 66, 67], [4], [2]] : List (List Nat))[i]?, exit := fun i => ([[1, 3, 4], [1, 3, 4, 15, 16], [1, 3, 4, 15, 16], [1, 3, 4, 5, 15, 16, 20, 21], [1, 3, 4], [1, 3, 4, 39, 40], [1, 3, 4, 39, 40], [1, 3, 4, 7, 39, 40, 44, 45], [4], [3, 4, 9, 66, 67], [3, 4, 9, 66, 67], [3, 4, 9, 10, 66, 67, 71, 72]] : List (List Nat))[i]?, ret := some [2] }
noncomputable def r66_L2_R (call : CallF) (fuel base n : Nat) (vs : List Value) (m : M) (K : KT) : Res2 := match vs with
  | [x1, x3, x4, x5, x15, x16, x20, x21] => r66_L2 call fuel base (fun v m => K (.pan v) { n := 91, l := [] } m) (fun y1 y3 y4 y15 y16 m => K (.exit 2) { n := 91, l := [(1, y1), (3, y3), (4, y4), (15, y15), (16, y16)] } m) n x1 x3 x4 x5 x15 x16 x20 x21 m
  | _ => none
noncomputable def r66_L6_R (call : CallF) (fuel base n : Nat) (vs : List Value) (m : M) (K : KT) : Res2 := match vs with
  | [x1, x3, x4, x7, x39, x40, x44, x45] => r66_L6 call fuel base (fun v m => K (.pan v) { n := 91, l := [] } m) (fun y1 y3 y4 y39 y40 m => K (.exit 6) { n := 91, l := [(1, y1), (3, y3), (4, y4), (39, y39), (40, y40)] } m) n x1 x3 x4 x7 x39 x40 x44 x45 m
  | _ => none
noncomputable def r66_L10_R (call : CallF) (fuel base n : Nat) (vs : List Value) (m : M) (K : KT) : Res2 := match vs with
  | [x3, x4, x9, x10, x66, x67, x71, x72] => r66_L10 call fuel base (fun v m => K (.pan v) { n := 91, l := [] } m) (fun y3 y4 y9 y66 y67 m => K (.exit 10) { n := 91, l := [(3, y3), (4, y4), (9, y9), (66, y66), (67, y67)] } m) n x3 x4 x9 x10 x66 x67 x71 x72 m
  | _ => none
noncomputable def r66_L0_R (call : CallF) (fuel base n : Nat) (vs : List Value) (m : M) (K : KT) : Res2 := match vs with
  | [x1, x3, x4, x15, x16] => r66_L0 call fuel base (fun v m => K (.pan v) { n := 91, l := [] } m) (fun y1 y3 y4 m => K (.exit 0) { n := 91, l := [(1, y1), (3, y3), (4, y4)] } m) n x1 x3 x4 x15 x16 m
  | _ => none
noncomputable def r66_L4_R (call : CallF) (fuel base n : Nat) (vs : List Value) (m : M) (K : KT) : Res2 := match vs with
  | [x1, x3, x4, x39, x40] => r66_L4 call fuel base (fun v m => K (.pan v) { n := 91, l := [] } m) (fun y1 y3 y4 m => K (.exit 4) { n := 91, l := [(1, y1), (3, y3), (4, y4)] } m) n x1 x3 x4 x39 x40 m
  | _ => none
noncomputable def r66_L8_R (call : CallF) (fuel base n : Nat) (vs : List Value) (m : M) (K : KT) : Res2 := match vs with
  | [x3, x4, x9, x66, x67] => r66_L8 call fuel base (fun v m => K (.pan v) { n := 91, l := [] } m) (fun y4 m => K (.exit 8) { n := 91, l := [(4, y4)] } m) n x3 x4 x9 x66 x67 m
  | _ => none
noncomputable def lp66 (call : CallF) (fuel base : Nat) : Lp := lpsel [(2, fun T m K => kslots 91 [1, 3, 4, 5, 15, 16, 20, 21] T fun vs => r66_L2_R call fuel base fuel vs m K), (6, fun T m K => kslots 91 [1, 3, 4, 7, 39, 40, 44, 45] T fun vs => r66_L6_R call fuel base fuel vs m K), (10, fun T m K => kslots 91 [3, 4, 9, 10, 66, 67, 71, 72] T fun vs => r66_L10_R call fuel base fuel vs m K), (0, fun T m K => kslots 91 [1, 3, 4, 15, 16] T fun vs => r66_L0_R call fuel base fuel vs m K), (4, fun T m K => kslots 91 [1, 3, 4, 39, 40] T fun vs => r66_L4_R call fuel base fuel vs m K), (8, fun T m K => kslots 91 [3, 4, 9, 66, 67] T fun vs => r66_L8_R call fuel base fuel vs m K)]
noncomputable def c66 : Code := Try.f66.body.getD .skip
theorem r66_L2_lk (call : CallF) (fuel base : Nat) : LoopsOk E call (lp66 call fuel base) fuel base 2 (loopB (blockB (seqR (seqR (blockB (seqL (seqR (seqR (loopB (blockB (seqR (seqL (seqR (seqR (seqR c66))))))))))))))) = (And True (And (And True True) (And (And True True) True))) := by kernel_rfl
theorem r66_L2_ok (call : CallF) (fuel base : Nat) : LpOk E call (lp66 call fuel base) fuel base 2 (loopB (blockB (seqR (seqR (blockB (seqL (seqR (seqR (loopB (blockB (seqR (seqL (seqR (seqR (seqR c66))))))))))))))) := by
  refine loop_ok (kp := keep66) (hb := Eq.mpr (r66_L2_lk call fuel base) (And.intro trivial (And.intro (And.intro trivial trivial) (And.intro (And.intro trivial trivial) trivial)))) 91 [1, 3, 4, 5, 15, 16, 20, 21] (fun n vs m K => r66_L2_R call fuel base n vs m K) ?_ ?_ (fun _ _ _ => rfl)
  · intro vs m K
    unfold r66_L2_R
    split <;> rfl
  · intro n vs m K hl
    match vs, hl with
    | [x1, x3, x4, x5, x15, x16, x20, x21], _ => show _ = _; kernel_rfl
theorem r66_L6_lk (call : CallF) (fuel base : Nat) : LoopsOk E call (lp66 call fuel base) fuel base 6 (loopB (blockB (seqR (seqR (blockB (seqL (seqR (seqR (loopB (blockB (seqR (seqL (seqR (seqR (seqR (seqR c66)))))))))))))))) = (And True (And (And True True) (And (And True True) True))) := by kernel_rfl
theorem r66_L6_ok (call : CallF) (fuel base : Nat) : LpOk E call (lp66 call fuel base) fuel base 6 (loopB (blockB (seqR (seqR (blockB (seqL (seqR (seqR (loopB (blockB (seqR (seqL (seqR (seqR (seqR (seqR c66)))))))))))))))) := by
  refine loop_ok (kp := keep66) (hb := Eq.mpr (r66_L6_lk call fuel base) (And.intro trivial (And.intro (And.intro trivial trivial) (And.intro (And.intro trivial trivial) trivial)))) 91 [1, 3, 4, 7, 39, 40, 44, 45] (fun n vs m K => r66_L6_R call fuel base n vs m K) ?_ ?_ (fun _ _ _ => rfl)
  · intro vs m K
    unfold r66_L6_R
    split <;> rfl
  · intro n vs m K hl
    match vs, hl with
    | [x1, x3, x4, x7, x39, x40, x44, x45], _ => show _ = _; kernel_rfl
theorem r66_L10_lk (call : CallF) (fuel base : Nat) : LoopsOk E call (lp66 call fuel base) fuel base 10 (loopB (blockB (seqR (seqR (blockB (seqL (seqR (seqR (loopB (blockB (seqR (seqL (seqR (seqR (seqR (seqR (seqR (seqR c66)))))))))))))))))) = (And True (And (And True True) (And (And True True) True))) := by kernel_rfl
theorem r66_L10_ok (call : CallF) (fuel base : Nat) : LpOk E call (lp66 call fuel base) fuel base 10 (loopB (blockB (seqR (seqR (blockB (seqL (seqR (seqR (loopB (blockB (seqR (seqL (seqR (seqR (seqR (seqR (seqR (seqR c66)))))))))))))))))) := by
  refine loop_ok (kp := keep66) (hb := Eq.mpr (r66_L10_lk call fuel base) (And.intro trivial (And.intro (And.intro trivial trivial) (And.intro (And.intro trivial trivial) trivial)))) 91 [3, 4, 9, 10, 66, 67, 71, 72] (fun n vs m K => r66_L10_R call fuel base n vs m K) ?_ ?_ (fun _ _ _ => rfl)
  · intro vs m K
    unfold r66_L10_R
    split <;> rfl
  · intro n vs m K hl
    match vs, hl with
    | [x3, x4, x9, x10, x66, x67, x71, x72], _ => show _ = _; kernel_rfl
theorem r66_L0_lk (call : CallF) (fuel base : Nat) : LoopsOk E call (lp66 call fuel base) fuel base 0 (loopB (blockB (seqR (seqL (seqR (seqR (seqR c66))))))) = (And True (And (And True True) (And (And True (And True (LpOk E call (lp66 call fuel base) fuel base 2 (loopB (blockB (seqR (seqR (blockB (seqL (seqR (seqR (loopB (blockB (seqR (seqL (seqR (seqR (seqR c66)))))))))))))))))) True))) := by kernel_rfl
theorem r66_L0_ok (call : CallF) (fuel base : Nat) : LpOk E call (lp66 call fuel base) fuel base 0 (loopB (blockB (seqR (seqL (seqR (seqR (seqR c66))))))) := by
  refine loop_ok (kp := keep66) (hb := Eq.mpr (r66_L0_lk call fuel base) (And.intro trivial (And.intro (And.intro trivial trivial) (And.intro (And.intro trivial (And.intro trivial (r66_L2_ok call fuel base))) trivial)))) 91 [1, 3, 4, 15, 16] (fun n vs m K => r66_L0_R call fuel base n vs m K) ?_ ?_ (fun _ _ _ => rfl)
  · intro vs m K
    unfold r66_L0_R
    split <;> rfl
  · intro n vs m K hl
    match vs, hl with
    | [x1, x3, x4, x15, x16], _ => show _ = _; kernel_rfl
theorem r66_L4_lk (call : CallF) (fuel base : Nat) : LoopsOk E call (lp66 call fuel base) fuel base 4 (loopB (blockB (seqR (seqL (seqR (seqR (seqR (seqR c66)))))))) = (And True (And (And True True) (And (And True (And True (LpOk E call (lp66 call fuel base) fuel base 6 (loopB (blockB (seqR (seqR (blockB (seqL (seqR (seqR (loopB (blockB (seqR (seqL (seqR (seqR (seqR (seqR c66))))))))))))))))))) True))) := by kernel_rfl
theorem r66_L4_ok (call : CallF) (fuel base : Nat) : LpOk E call (lp66 call fuel base) fuel base 4 (loopB (blockB (seqR (seqL (seqR (seqR (seqR (seqR c66)))))))) := by
  refine loop_ok (kp := keep66) (hb := Eq.mpr (r66_L4_lk call fuel base) (And.intro trivial (And.intro (And.intro trivial trivial) (And.intro (And.intro trivial (And.intro trivial (r66_L6_ok call fuel base))) trivial)))) 91 [1, 3, 4, 39, 40] (fun n vs m K => r66_L4_R call fuel base n vs m K) ?_ ?_ (fun _ _ _ => rfl)
  · intro vs m K
    unfold r66_L4_R
    split <;> rfl
  · intro n vs m K hl
    match vs, hl with
    | [x1, x3, x4, x39, x40], _ => show _ = _; kernel_rfl
theorem r66_L8_lk (call : CallF) (fuel base : Nat) : LoopsOk E call (lp66 call fuel base) fuel base 8 (loopB (blockB (seqR (seqL (seqR (seqR (seqR (seqR (seqR (seqR c66)))))))))) = (And True (And (And True True) (And (And True (And True (LpOk E call (lp66 call fuel base) fuel base 10 (loopB (blockB (seqR (seqR (blockB (seqL (seqR (seqR (loopB (blockB (seqR (seqL (seqR (seqR (seqR (seqR (seqR (seqR c66))))))))))))))))))))) True))) := by kernel_rfl
theorem r66_L8_ok (call : CallF) (fuel base : Nat) : LpOk E call (lp66 call fuel base) fuel base 8 (loopB (blockB (seqR (seqL (seqR (seqR (seqR (seqR (seqR (seqR c66)))))))))) := by
  refine loop_ok (kp := keep66) (hb := Eq.mpr (r66_L8_lk call fuel base) (And.intro trivial (And.intro (And.intro trivial trivial) (And.intro (And.intro trivial (And.intro trivial (r66_L10_ok call fuel base))) trivial)))) 91 [3, 4, 9, 66, 67] (fun n vs m K => r66_L8_R call fuel base n vs m K) ?_ ?_ (fun _ _ _ => rfl)
  · intro vs m K
    unfold r66_L8_R
    split <;> rfl
  · intro n vs m K hl
    match vs, hl with
    | [x3, x4, x9, x66, x67], _ => show _ = _; kernel_rfl
theorem r66_eq (call : CallF) (fuel base : Nat) (x0 : Value) (m : M) : kbody E call keep66 (lp66 call fuel base) base Try.f66 [x0] m = r66 call fuel base x0 m := by
  kernel_rfl
noncomputable def rf66 : RF := fun call fuel base args m => match args with
  | [x0] => r66 call fuel base x0 m
  | _ => none
theorem r66_lk (call : CallF) (fuel base : Nat) : LoopsOk E call (lp66 call fuel base) fuel base 0 c66 = (And True (And True (And True (And (And True (LpOk E call (lp66 call fuel base) fuel base 0 (loopB (blockB (seqR (seqL (seqR (seqR (seqR c66))))))))) (And (And True (LpOk E call (lp66 call fuel base) fuel base 4 (loopB (blockB (seqR (seqL (seqR (seqR (seqR (seqR c66)))))))))) (And True (And (And True (LpOk E call (lp66 call fuel base) fuel base 8 (loopB (blockB (seqR (seqL (seqR (seqR (seqR (seqR (seqR (seqR c66)))))))))))) (And True (And True True))))))))) := by kernel_rfl
theorem r66_fn : E.P.funcs[66]? = some Try.f66 := by kernel_rfl
theorem r66_body : Try.f66.body = some c66 := by kernel_rfl
theorem rf66_ok : RFok E 66 rf66 := by
  show RFok' E 66 rf66
  refine ⟨Try.f66, r66_fn, fun call fuel base args m r _ h => ?_⟩
  unfold rf66 at h
  split at h
  · rw [← r66_eq] at h
    exact kbody_sound (c := c66) r66_body (Eq.mpr (r66_lk call fuel base) (And.intro trivial (And.intro trivial (And.intro trivial (And.intro (And.intro trivial (r66_L0_ok call fuel base)) (And.intro (And.intro trivial (r66_L4_ok call fuel base)) (And.intro trivial (And.intro (And.intro trivial (r66_L8_ok call fuel base)) (And.intro trivial (And.intro trivial trivial)))))))))) h
  · simp at h
end Go.AM
namespace Go.AM
open Go Go.Proofs
noncomputable def r74 (call : CallF) (fuel base : Nat) (x0 : Value) (x1 : Value) (x2 : Value) (x3 : Value) (m : M) : Res2 :=
  (k2 (xbox m x0) fun u1 m => (k1 (mfieldAddr E.P 23 u1 2) fun u2 => (k1 (xload E.P m 3 u2) fun u3 => (k1 (mbin E .gtr 3 x3 (.int .i64 0)) fun u4 => (kb u4 (k1 (mindexAddr E.P 33 x1 x2) fun u5 => (k1 (xload E.P m 27 u5) fun u6 => (k1 (mbin E .sub 3 x3 (.int .i64 1)) fun u7 => (k1 (mindexAddr E.P 27 u6 u7) fun u8 => (k1 (xload E.P m 3 u8) fun u9 => (k2 (vcall E.P base m .min [3, 3] [u3, u9]) fun u10 m => (k1 (mbin E .gtr 3 x2 (.int .i64 0)) fun u11 => (kb u11 (k1 (mbin E .sub 3 x2 (.int .i64 1)) fun u12 => (k1 (mindexAddr E.P 33 x1 u12) fun u13 => (k1 (xload E.P m 27 u13) fun u14 => (k1 (mindexAddr E.P 27 u14 x3) fun u15 => (k1 (xload E.P m 3 u15) fun u16 => (k2 (vcall E.P base m .min [3, 3] [u10, u16]) fun u17 m => (fVal u17 fun v => some (.ret v, m)))))))) (fVal u10 fun v => some (.ret v, m)))))))))) (k1 (mbin E .gtr 3 x2 (.int .i64 0)) fun u18 => (kb u18 (k1 (mbin E .sub 3 x2 (.int .i64 1)) fun u19 => (k1 (mindexAddr E.P 33 x1 u19) fun u20 => (k1 (xload E.P m 27 u20) fun u21 => (k1 (mindexAddr E.P 27 u21 x3) fun u22 => (k1 (xload E.P m 3 u22) fun u23 => (k2 (vcall E.P base m .min [3, 3] [u3, u23]) fun u24 m => (fVal u24 fun v => some (.ret v, m)))))))) (fVal u3 fun v => some (.ret v, m)))))))))
def keep74 : Keep := { region := fun i => ([[1, 2, 3, 4], [1, 2, 3, 9], [1, 2, 3, 9, 13], [1, 2, 3, 9], [1, 2, 3, 9, 25], [9], [8]] : List (List Nat))[i]?, exit := fun i => ([] : List (List Nat))[i]?, ret := some [8] }
noncomputable def lp74 (call : CallF) (fuel base : Nat) : Lp := lpsel []
noncomputable def c74 : Code := Try.f74.body.getD .skip
theorem r74_eq (call : CallF) (fuel base : Nat) (x0 : Value) (x1 : Value) (x2 : Value) (x3 : Value) (m : M) : kbody E call keep74 (lp74 call fuel base) base Try.f74 [x0, x1, x2, x3] m = r74 call fuel base x0 x1 x2 x3 m := by
  kernel_rfl
noncomputable def rf74 : RF := fun call fuel base args m => match args with
  | [x0, x1, x2, x3] => r74 call fuel base x0 x1 x2 x3 m
  | _ => none
theorem r74_lk (call : CallF) (fuel base : Nat) : LoopsOk E call (lp74 call fuel base) fuel base 0 c74 = (And True (And True (And (And True (And True True)) (And (And True (And True True)) (And True True))))) := by kernel_rfl
theorem r74_fn : E.P.funcs[74]? = some Try.f74 := by kernel_rfl
theorem r74_body : Try.f74.body = some c74 := by kernel_rfl
theorem rf74_ok : RFok E 74 rf74 := by
  show RFok' E 74 rf74
  refine ⟨Try.f74, r74_fn, fun call fuel base args m r _ h => ?_⟩
  unfold rf74 at h
  split at h
  · rw [← r74_eq] at h
    exact kbody_sound (c := c74) r74_body (Eq.mpr (r74_lk call fuel base) (And.intro trivial (And.intro trivial (And.intro (And.intro trivial (And.intro trivial trivial)) (And.intro (And.intro trivial (And.intro trivial trivial)) (And.intro trivial trivial)))))) h
  · simp at h
end Go.AM
namespace Go.AM
open Go Go.Proofs
noncomputable def r75 (call : CallF) (fuel base : Nat) (x0 : Value) (m : M) : Res2 :=
  (k1 (mbin E .leq 3 (.int .i64 1) x0) fun u1 => (kb u1 (k1 (mbin E .leq 3 x0 (.int .i64 4)) fun u2 => (fVal u2 fun v => some (.ret v, m))) (fVal (.bool false) fun v => some (.ret v, m))))
def keep75 : Keep := { region := fun i => ([[0], [2]] : List (List Nat))[i]?, exit := fun i => ([] : List (List Nat))[i]?, ret := some [2] }
noncomputable def lp75 (call : CallF) (fuel base : Nat) : Lp := lpsel []
noncomputable def c75 : Code := Try.f75.body.getD .skip
theorem r75_eq (call : CallF) (fuel base : Nat) (x0 : Value) (m : M) : kbody E call keep75 (lp75 call fuel base) base Try.f75 [x0] m = r75 call fuel base x0 m := by
  kernel_rfl
noncomputable def rf75 : RF := fun call fuel base args m => match args with
  | [x0] => r75 call fuel base x0 m
  | _ => none
theorem r75_lk (call : CallF) (fuel base : Nat) : LoopsOk E call (lp75 call fuel base) fuel base 0 c75 = (And True (And True True)) := by kernel_rfl
theorem r75_fn : E.P.funcs[75]? = some Try.f75 := by kernel_rfl
theorem r75_body : Try.f75.body = some c75 := by kernel_rfl
theorem rf75_ok : RFok E 75 rf75 := by
  show RFok' E 75 rf75
  refine ⟨Try.f75, r75_fn, fun call fuel base args m r _ h => ?_⟩
  unfold rf75 at h
  split at h
  · rw [← r75_eq] at h
    exact kbody_sound (c := c75) r75_body (Eq.mpr (r75_lk call fuel base) (And.intro trivial (And.intro trivial trivial))) h
  · simp at h
end Go.AM
namespace Go.AM
open Go Go.Proofs
noncomputable def r76_L0 (call : CallF) (fuel base : Nat) (kx0 : Value → M → Res2) (n : Nat) : Value → Value → Value → Value → M → Res2 :=
  Nat.rec (motive := fun _ => Value → Value → Value → Value → M → Res2) (fun _ _ _ _ _ => none)
    (fun _ ih x0 x5 x14 x15 m =>
      (k1 (mbin E .lss 3 x15 x14) fun u3 => (kb u3 (k1 (mbin E .sub 3 x0 x15) fun u4 => (k1 (mbin E .mul 3 x5 u4) fun u5 => (k1 (mbin E .add 3 x15 (.int .i64 1)) fun u6 => (k1 (mbin E .quo 3 u5 u6) fun u7 => (k1 (mbin E .add 3 x15 (.int .i64 1)) fun u8 => (ih x0 u7 x14 u8 m)))))) (kx0 x5 m)))) n
noncomputable def r76 (call : CallF) (fuel base : Nat) (x0 : Value) (x1 : Value) (m : M) : Res2 :=
  (k1 (mbin E .lss 3 x1 (.int .i64 0)) fun u1 => (kb u1 (fVal (.int .i64 0) fun v => some (.ret v, m)) (k1 (mbin E .gtr 3 x1 x0) fun u2 => (kb u2 (fVal (.int .i64 0) fun v => some (.ret v, m)) (r76_L0 call fuel base (fun w9 m => (fVal w9 fun v => some (.ret v, m))) fuel x0 (.int .i64 1) x1 (.int .i64 0) m)))))
def keep76 : Keep := { region := fun i => ([[0, 1], [0, 1, 13], [4], [0, 1, 5], [0, 5, 14, 15], [0, 5, 14, 15, 16], [0, 5, 6, 14, 15], [0, 5, 14, 15], [0, 5, 14, 15], [4]] : List (List Nat))[i]?, exit := fun i => ([[5], [0, 5, 14, 15]] : List (List Nat))[i]?, ret := some [4] }
noncomputable def r76_L0_R (call : CallF) (fuel base n : Nat) (vs : List Value) (m : M) (K : KT) : Res2 := match vs with
  | [x0, x5, x14, x15] => r76_L0 call fuel base (fun y5 m => K (.exit 0) { n := 28, l := [(5, y5)] } m) n x0 x5 x14 x15 m
  | _ => none
noncomputable def lp76 (call : CallF) (fuel base : Nat) : Lp := lpsel [(0, fun T m K => kslots 28 [0, 5, 14, 15] T fun vs => r76_L0_R call fuel base fuel vs m K)]
noncomputable def c76 : Code := Try.f76.body.getD .skip
theorem r76_L0_lk (call : CallF) (fuel base : Nat) : LoopsOk E call (lp76 call fuel base) fuel base 0 (loopB (blockB (seqR (seqL (seqR (seqR (seqR c76))))))) = (And True (And (And True True) (And (And True True) True))) := by kernel_rfl
theorem r76_L0_ok (call : CallF) (fuel base : Nat) : LpOk E call (lp76 call fuel base) fuel base 0 (loopB (blockB (seqR (seqL (seqR (seqR (seqR c76))))))) := by
  refine loop_ok (kp := keep76) (hb := Eq.mpr (r76_L0_lk call fuel base) (And.intro trivial (And.intro (And.intro trivial trivial) (And.intro (And.intro trivial trivial) trivial)))) 28 [0, 5, 14, 15] (fun n vs m K => r76_L0_R call fuel base n vs m K) ?_ ?_ (fun _ _ _ => rfl)
  · intro vs m K
    unfold r76_L0_R
    split <;> rfl
  · intro n vs m K hl
    match vs, hl with
    | [x0, x5, x14, x15], _ => show _ = _; kernel_rfl
theorem r76_eq (call : CallF) (fuel base : Nat) (x0 : Value) (x1 : Value) (m : M) : kbody E call keep76 (lp76 call fuel base) base Try.f76 [x0, x1] m = r76 call fuel base x0 x1 m := by
  kernel_rfl
noncomputable def rf76 : RF := fun call fuel base args m => match args with
  | [x0, x1] => r76 call fuel base x0 x1 m
  | _ => none
theorem r76_lk (call : CallF) (fuel base : Nat) : LoopsOk E call (lp76 call fuel base) fuel base 0 c76 = (And True (And (And True (And (And True True) True)) (And True (And (And True (LpOk E call (lp76 call fuel base) fuel base 0 (loopB (blockB (seqR (seqL (seqR (seqR (seqR c76))))))))) (And True True))))) := by kernel_rfl
theorem r76_fn : E.P.funcs[76]? = some Try.f76 := by kernel_rfl
theorem r76_body : Try.f76.body = some c76 := by kernel_rfl
theorem rf76_ok : RFok E 76 rf76 := by
  show RFok' E 76 rf76
  refine ⟨Try.f76, r76_fn, fun call fuel base args m r _ h => ?_⟩
  unfold rf76 at h
  split at h
  · rw [← r76_eq] at h
    exact kbody_sound (c := c76) r76_body (Eq.mpr (r76_lk call fuel base) (And.intro trivial (And.intro (And.intro trivial (And.intro (And.intro trivial trivial) trivial)) (And.intro trivial (And.intro (And.intro trivial (r76_L0_ok call fuel base)) (And.intro trivial trivial)))))) h
  · simp at h
end Go.AM
namespace Go.AM
open Go Go.Proofs
noncomputable def r77_L0 (call : CallF) (fuel base : Nat) (kp : Value → M → Res2) (kr : Value → M → Res2) (kx0 : Value → Value → Value → M → Res2) (n : Nat) : Value → Value → Value → Value → Value → Value → M → Res2 :=
  Nat.rec (motive := fun _ => Value → Value → Value → Value → Value → Value → M → Res2) (fun _ _ _ _ _ _ _ => none)
    (fun _ ih x0 x3 x4 x5 x10 x11 m =>
      (k1 (mbin E .lss 3 x11 x10) fun u4 => (kb u4 (kc (call base 98 [x0, x11] m) (fun u5 m => (k1 (mbin E .lss 3 u5 (.int .i64 0)) fun u6 => (kb u6 (kr (.int .i64 0) m) (k1 (mbin E .neq 3 u5 x11) fun u7 => (kb u7 (k1 (mindexAddr E.P 33 x0 u5) fun u8 => (k1 (xload E.P m 27 u8) fun u9 => (k1 (mindexAddr E.P 33 x0 x11) fun u10 => (k1 (xload E.P m 27 u10) fun u11 => (k1 (mindexAddr E.P 33 x0 x11) fun u12 => (ks (xstore E.P base m 27 u12 u9) fun m => (k1 (mindexAddr E.P 33 x0 u5) fun u13 => (ks (xstore E.P base m 27 u13 u11) fun m => (k1 (mun .not x5) fun u14 => (k1 (xload E.P m 120 x3) fun u15 => (kc (call base 99 [x0, x11, x4, u15] m) (fun u16 m => (k1 (mindexAddr E.P 33 x0 x11) fun u17 => (k1 (xload E.P m 27 u17) fun u18 => (k1 (mindexAddr E.P 27 u18 x11) fun u19 => (k1 (xload E.P m 3 u19) fun u20 => (k1 (mbin E .add 3 x11 (.int .i64 1)) fun u21 => (ih x0 x3 u20 u14 x10 u21 m))))))) (fun v m => kp v m)))))))))))) (k1 (xload E.P m 120 x3) fun u22 => (kc (call base 99 [x0, x11, x4, u22] m) (fun u23 m => (k1 (mindexAddr E.P 33 x0 x11) fun u24 => (k1 (xload E.P m 27 u24) fun u25 => (k1 (mindexAddr E.P 27 u25 x11) fun u26 => (k1 (xload E.P m 3 u26) fun u27 => (k1 (mbin E .add 3 x11 (.int .i64 1)) fun u28 => (ih x0 x3 u27 x5 x10 u28 m))))))) (fun v m => kp v m)))))))) (fun v m => kp v m)) (kx0 x3 x4 x5 m)))) n
noncomputable def r77 (call : CallF) (fuel base : Nat) (x0 : Value) (m : M) : Res2 :=
  (kc (call base 97 [] m) (fun u1 m => (k2 (xalloc E.P m 120) fun u2 m => (ks (xstore E.P base m 120 u2 u1) fun m => (k2 (vcall E.P base m .len [33] [x0]) fun u3 m => (r77_L0 call fuel base (fun v m => some (.pan v, m)) (fun w29 m => (fVal w29 fun v => some (.ret v, m))) (fun w30 w31 w32 m => (kb w32 (k1 (mfieldAddr E.P 120 w30 1) fun u33 => (k1 (xload E.P m 56 u33) fun u34 => (kc (kv call base u34 [(.int .i64 0), w31] m) (fun u35 m => (fVal u35 fun v => some (.ret v, m))) (fun v m => some (.pan v, m))))) (fVal w31 fun v => some (.ret v, m)))) fuel x0 u2 (.int .i64 1) (.bool false) u3 (.int .i64 0) m))))) (fun v m => some (.pan v, m)))
def keep77 : Keep := { region := fun i => ([[0], [0, 3], [0, 3, 4, 5], [0, 3, 4, 5, 10, 11], [0, 3, 4, 5, 10, 11, 12], [0, 3, 4, 5, 6, 10, 11], [0, 3, 4, 5, 6, 7, 10, 11], [0, 3, 4, 5, 6, 7, 10, 11, 18], [2], [0, 3, 4, 5, 6, 7, 10, 11, 21], [0, 3, 4, 5, 6, 10, 11], [0, 3, 4, 5, 6, 10, 11], [0, 3, 5, 6, 10, 11], [0, 3, 4, 5, 10, 11], [0, 3, 4, 5, 10, 11], [3, 4, 51], [2], [2]] : List (List Nat))[i]?, exit := fun i => ([[3, 4, 5], [0, 3, 4, 5, 10, 11]] : List (List Nat))[i]?, ret := some [2] }
noncomputable def r77_L0_R (call : CallF) (fuel base n : Nat) (vs : List Value) (m : M) (K : KT) : Res2 := match vs with
  | [x0, x3, x4, x5, x10, x11] => r77_L0 call fuel base (fun v m => K (.pan v) { n := 57, l := [] } m) (fun y2 m => K .ret { n := 57, l := [(2, y2)] } m) (fun y3 y4 y5 m => K (.exit 0) { n := 57, l := [(3, y3), (4, y4), (5, y5)] } m) n x0 x3 x4 x5 x10 x11 m
  | _ => none
noncomputable def lp77 (call : CallF) (fuel base : Nat) : Lp := lpsel [(0, fun T m K => kslots 57 [0, 3, 4, 5, 10, 11] T fun vs => r77_L0_R call fuel base fuel vs m K)]
noncomputable def c77 : Code := Try.f77.body.getD .skip
theorem r77_L0_lk (call : CallF) (fuel base : Nat) : LoopsOk E call (lp77 call fuel base) fuel base 0 (loopB (blockB (seqR (seqL (seqR (seqR (seqR c77))))))) = (And True (And (And True True) (And (And True (And True (And (And True (And (And True True) True)) (And (And True (And (And True True) True)) (And True True))))) True))) := by kernel_rfl
theorem r77_L0_ok (call : CallF) (fuel base : Nat) : LpOk E call (lp77 call fuel base) fuel base 0 (loopB (blockB (seqR (seqL (seqR (seqR (seqR c77))))))) := by
  refine loop_ok (kp := keep77) (hb := Eq.mpr (r77_L0_lk call fuel base) (And.intro trivial (And.intro (And.intro trivial trivial) (And.intro (And.intro trivial (And.intro trivial (And.intro (And.intro trivial (And.intro (And.intro trivial trivial) trivial)) (And.intro (And.intro trivial (And.intro (And.intro trivial trivial) trivial)) (And.intro trivial trivial))))) trivial)))) 57 [0, 3, 4, 5, 10, 11] (fun n vs m K => r77_L0_R call fuel base n vs m K) ?_ ?_ (fun _ _ _ => rfl)
  · intro vs m K
    unfold r77_L0_R
    split <;> rfl
  · intro n vs m K hl
    match vs, hl with
    | [x0, x3, x4, x5, x10, x11], _ => show _ = _; kernel_rfl
theorem r77_eq (call : CallF) (fuel base : Nat) (x0 : Value) (m : M) : kbody E call keep77 (lp77 call fuel base) base Try.f77 [x0] m = r77 call fuel base x0 m := by
  kernel_rfl
noncomputable def rf77 : RF := fun call fuel base args m => match args with
  | [x0] => r77 call fuel base x0 m
  | _ => none
theorem r77_lk (call : CallF) (fuel base : Nat) : LoopsOk E call (lp77 call fuel base) fuel base 0 c77 = (And True (And True (And True (And (And True (LpOk E call (lp77 call fuel base) fuel base 0 (loopB (blockB (seqR (seqL (seqR (seqR (seqR c77))))))))) (And (And True (And (And True True) True)) (And True True)))))) := by kernel_rfl
theorem r77_fn : E.P.funcs[77]? = some Try.f77 := by kernel_rfl
theorem r77_body : Try.f77.body = some c77 := by kernel_rfl
theorem rf77_ok : RFok E 77 rf77 := by
  show RFok' E 77 rf77
  refine ⟨Try.f77, r77_fn, fun call fuel base args m r _ h => ?_⟩
  unfold rf77 at h
  split at h
  · rw [← r77_eq] at h
    exact kbody_sound (c := c77) r77_body (Eq.mpr (r77_lk call fuel base) (And.intro trivial (And.intro trivial (And.intro trivial (And.intro (And.intro trivial (r77_L0_ok call fuel base)) (And.intro (And.intro trivial (And.intro (And.intro trivial trivial) trivial)) (And.intro trivial trivial))))))) h
  · simp at h
end Go.AM
namespace Go.AM
open Go Go.Proofs
noncomputable def r80 (call : CallF) (fuel base : Nat) (x0 : Value) (x1 : Value) (x2 : Value) (m : M) : Res2 :=
  (k2 (xbox m x0) fun u1 m => (k1 (xload E.P m 79 u1) fun u2 => (k1 (mbin E .sub 3 x1 (.int .i64 1)) fun u3 => (kc (kB m (call m.length 104 [u2, u3, x2] m)) (fun u4 m => (k1 (xload E.P m 79 u1) fun u5 => (k1 (mbin E .sub 3 x2 (.int .i64 1)) fun u6 => (kc (kB m (call m.length 104 [u5, x1, u6] m)) (fun u7 m => (k2 (vcall E.P base m .min [3, 3] [u4, u7]) fun u8 m => (fVal u8 fun v => some (.ret v, m)))) (fun _ _ => none))))) (fun _ _ => none)))))
def keep80 : Keep := { region := fun i => ([[1, 2, 3], [6]] : List (List Nat))[i]?, exit := fun i => ([] : List (List Nat))[i]?, ret := some [6] }
noncomputable def lp80 (call : CallF) (fuel base : Nat) : Lp := lpsel []
noncomputable def c80 : Code := Try.f80.body.getD .skip
theorem r80_eq (call : CallF) (fuel base : Nat) (x0 : Value) (x1 : Value) (x2 : Value) (m : M) : kbody E call keep80 (lp80 call fuel base) base Try.f80 [x0, x1, x2] m = r80 call fuel base x0 x1 x2 m := by
  kernel_rfl
noncomputable def rf80 : RF := fun call fuel base args m => match args with
  | [x0, x1, x2] => r80 call fuel base x0 x1 x2 m
  | _ => none
theorem r80_lk (call : CallF) (fuel base : Nat) : LoopsOk E call (lp80 call fuel base) fuel base 0 c80 = (And True (And True True)) := by kernel_rfl
theorem r80_fn : E.P.funcs[80]? = some Try.f80 := by kernel_rfl
theorem r80_body : Try.f80.body = some c80 := by kernel_rfl
theorem rf80_ok : RFok E 80 rf80 := by
  show RFok' E 80 rf80
  refine ⟨Try.f80, r80_fn, fun call fuel base args m r _ h => ?_⟩
  unfold rf80 at h
  split at h
  · rw [← r80_eq] at h
    exact kbody_sound (c := c80) r80_body (Eq.mpr (r80_lk call fuel base) (And.intro trivial (And.intro trivial trivial))) h
  · simp at h
end Go.AM
namespace Go.AM
open Go Go.Proofs
noncomputable def r81_L4 (call : CallF) (fuel base : Nat) (kp : Value → M → Res2) (kx4 : Value → Value → Value → Value → Value → Value → Value → Value → Value → M → Res2) (n : Nat) : Value → Value → Value → Value → Value → Value → Value → Value → Value → Value → Value → Value → Value → Value → M → Res2 :=
  Nat.rec (motive := fun _ => Value → Value → Value → Value → Value → Value → Value → Value → Value → Value → Value → Value → Value → Value → M → Res2) (fun _ _ _ _ _ _ _ _ _ _ _ _ _ _ _ => none)
    (fun _ ih x1 x2 x3 x4 x5 x6 x7 x8 x27 x28 x29 x37 x38 x39 m =>
      (k1 (mbin E .lss 3 x39 x38) fun u22 => (kb u22 (k1 (mindexAddr E.P 104 x37 x39) fun u23 => (k1 (xload E.P m 76 u23) fun u24 => (k2 (xalloc E.P m 76) fun u25 m => (ks (xstore E.P base m 76 u25 u24) fun m => (k1 (xload E.P m 76 u25) fun u26 => (k1 (xload E.P m 76 x8) fun u27 => (kc (call base 103 [u26, u27] m) (fun u28 m => (kb u28 (k1 (mindexAddr E.P 27 x6 x7) fun u29 => (k1 (xload E.P m 3 u29) fun u30 => (k1 (mbin E .sub 3 x5 (.int .i64 1)) fun u31 => (k1 (mindexAddr E.P 33 x4 u31) fun u32 => (k1 (xload E.P m 27 u32) fun u33 => (k1 (mindexAddr E.P 27 u33 x39) fun u34 => (k1 (xload E.P m 3 u34) fun u35 => (k1 (mbin E .add 3 u30 u35) fun u36 => (k1 (mindexAddr E.P 27 x6 x7) fun u37 => (ks (xstore E.P base m 3 u37 u36) fun m => (k1 (mbin E .add 3 x39 (.int .i64 1)) fun u38 => (ih x1 x2 x3 x4 x5 x6 x7 x8 x27 x28 x29 x37 x38 u38 m)))))))))))) (k1 (mbin E .add 3 x39 (.int .i64 1)) fun u39 => (ih x1 x2 x3 x4 x5 x6 x7 x8 x27 x28 x29 x37 x38 u39 m)))) (fun v m => kp v m)))))))) (kx4 x1 x2 x3 x4 x5 x6 x27 x28 x29 m)))) n
noncomputable def r81_L2 (call : CallF) (fuel base : Nat) (kp : Value → M → Res2) (kx2 : Value → Value → Value → Value → Value → Value → M → Res2) (n : Nat) : Value → Value → Value → Value → Value → Value → Value → Value → Value → M → Res2 :=
  Nat.rec (motive := fun _ => Value → Value → Value → Value → Value → Value → Value → Value → Value → M → Res2) (fun _ _ _ _ _ _ _ _ _ _ => none)
    (fun _ ih x1 x2 x3 x4 x5 x6 x27 x28 x29 m =>
      (k1 (mbin E .lss 3 x29 x28) fun u15 => (kb u15 (k1 (mindexAddr E.P 104 x27 x29) fun u16 => (k1 (xload E.P m 76 u16) fun u17 => (k2 (xalloc E.P m 76) fun u18 m => (ks (xstore E.P base m 76 u18 u17) fun m => (k1 (mbin E .add 3 x29 (.int .i64 1)) fun u19 => (k1 (mslice E.P m 104 x3 none (some u19) none) fun u20 => (k2 (vcall E.P base m .len [104] [u20]) fun u21 m => (r81_L4 call fuel base (fun v m => kp v m) (fun w40 w41 w42 w43 w44 w45 w46 w47 w48 m => (k1 (mbin E .add 3 w48 (.int .i64 1)) fun u49 => (ih w40 w41 w42 w43 w44 w45 w46 w47 u49 m))) fuel x1 x2 x3 x4 x5 x6 x29 u18 x27 x28 x29 u20 u21 (.int .i64 0) m)))))))) (kx2 x1 x2 x3 x4 x5 x6 m)))) n
noncomputable def r81_L0 (call : CallF) (fuel base : Nat) (kp : Value → M → Res2) (kx0 : Value → Value → Value → M → Res2) (n : Nat) : Value → Value → Value → Value → Value → M → Res2 :=
  Nat.rec (motive := fun _ => Value → Value → Value → Value → Value → M → Res2) (fun _ _ _ _ _ _ => none)
    (fun _ ih x1 x2 x3 x4 x5 m =>
      (k1 (mfieldAddr E.P 23 x1 0) fun u9 => (k1 (xload E.P m 3 u9) fun u10 => (k1 (mbin E .lss 3 x5 u10) fun u11 => (kb u11 (k2 (vcall E.P base m .len [104] [x3]) fun u12 m => (k2 (xmakeSlice E.P m 27 u12 u12) fun u13 m => (k2 (vcall E.P base m .len [104] [x3]) fun u14 m => (r81_L2 call fuel base (fun v m => kp v m) (fun w50 w51 w52 w53 w54 w55 m => (k2 (xbuildSlice E.P m 33 1 [(0, w55)]) fun u56 m => (k2 (vcall E.P base m .append [33, 33] [w53, u56]) fun u57 m => (k1 (mbin E .add 3 w54 (.int .i64 1)) fun u58 => (ih w50 w51 w52 u57 u58 m))))) fuel x1 x2 x3 x4 x5 u13 x3 u14 (.int .i64 0) m)))) (kx0 x2 x3 x4 m)))))) n
noncomputable def r81 (call : CallF) (fuel base : Nat) (x0 : Value) (m : M) : Res2 :=
  (k2 (xbox m x0) fun u1 m => (k2 (xalloc E.P m 106) fun u2 m => (k1 (xload E.P m 23 u1) fun u3 => (kc (call base 101 [u3] m) (fun u4 m => (k2 (xbuildSlice E.P m 27 1 [(0, (.int .i64 1))]) fun u5 m => (k2 (vcall E.P base m .len [104] [u4]) fun u6 m => (kc (call base 105 [u5, u6] m) (fun u7 m => (k2 (xbuildSlice E.P m 33 1 [(0, u7)]) fun u8 m => (r81_L0 call fuel base (fun v m => some (.pan v, m)) (fun w59 w60 w61 m => (k1 (mbuild E.P 106 [(0, w60), (1, w61)]) fun u62 => (ks (xstore E.P base m 106 w59 u62) fun m => (k0 (mload E.P m 106 w59) fun r_63 => (fVal r_63 fun v => some (.ret v, m)))))) fuel u1 u2 u4 u8 (.int .i64 1) m))) (fun v m => some (.pan v, m)))))) (fun v m => some (.pan v, m))))))
def keep81 : Keep := { region := fun i => ([[1, 2], [1, 2, 3], [1, 2, 3, 4], [1, 2, 3, 4, 5], [1, 2, 3, 4, 5, 21], [1, 2, 3, 4, 5], [1, 2, 3, 4, 5, 6], [1, 2, 3, 4, 5, 6, 27, 28, 29], [1, 2, 3, 4, 5, 6, 27, 28, 29, 30], [1, 2, 3, 4, 5, 6, 7, 8, 27, 28, 29], [1, 2, 3, 4, 5, 6, 7, 8, 27, 28, 29, 37, 38, 39], [1, 2, 3, 4, 5, 6, 7, 8, 27, 28, 29, 37, 38, 39, 40], [1, 2, 3, 4, 5, 6, 7, 8, 9, 10, 27, 28, 29, 37, 38, 39], [1, 2, 3, 4, 5, 6, 7, 8, 9, 27, 28, 29, 37, 38, 39, 46], [1, 2, 3, 4, 5, 6, 7, 8, 27, 28, 29, 37, 38, 39], [1, 2, 3, 4, 5, 6, 7, 8, 27, 28, 29, 37, 38, 39], [1, 2, 3, 4, 5, 6, 27, 28, 29], [1, 2, 3, 4, 5], [2]] : List (List Nat))[i]?, exit := fun i => ([[2, 3, 4], [1, 2, 3, 4, 5], [1, 2, 3, 4, 5, 6], [1, 2, 3, 4, 5, 6, 27, 28, 29], [1, 2, 3, 4, 5, 6, 27, 28, 29], [1, 2, 3, 4, 5, 6, 7, 8, 27, 28, 29, 37, 38, 39]] : List (List Nat))[i]?, ret := some [2] }
noncomputable def r81_L4_R (call : CallF) (fuel base n : Nat) (vs : List Value) (m : M) (K : KT) : Res2 := match vs with
  | [x1, x2, x3, x4, x5, x6, x7, x8, x27, x28, x29, x37, x38, x39] => r81_L4 call fuel base (fun v m => K (.pan v) { n := 70, l := [] } m) (fun y1 y2 y3 y4 y5 y6 y27 y28 y29 m => K (.exit 4) { n := 70, l := [(1, y1), (2, y2), (3, y3), (4, y4), (5, y5), (6, y6), (27, y27), (28, y28), (29, y29)] } m) n x1 x2 x3 x4 x5 x6 x7 x8 x27 x28 x29 x37 x38 x39 m
  | _ => none
noncomputable def r81_L2_R (call : CallF) (fuel base n : Nat) (vs : List Value) (m : M) (K : KT) : Res2 := match vs with
  | [x1, x2, x3, x4, x5, x6, x27, x28, x29] => r81_L2 call fuel base (fun v m => K (.pan v) { n := 70, l := [] } m) (fun y1 y2 y3 y4 y5 y6 m => K (.exit 2) { n := 70, l := [(1, y1), (2, y2), (3, y3), (4, y4), (5, y5), (6, y6)] } m) n x1 x2 x3 x4 x5 x6 x27 x28 x29 m
  | _ => none
noncomputable def r81_L0_R (call : CallF) (fuel base n : Nat) (vs : List Value) (m : M) (K : KT) : Res2 := match vs with
  | [x1, x2, x3, x4, x5] => r81_L0 call fuel base (fun v m => K (.pan v) { n := 70, l := [] } m) (fun y2 y3 y4 m => K (.exit 0) { n := 70, l := [(2, y2), (3, y3), (4, y4)] } m) n x1 x2 x3 x4 x5 m
  | _ => none
noncomputable def lp81 (call : CallF) (fuel base : Nat) : Lp := lpsel [(4, fun T m K => kslots 70 [1, 2, 3, 4, 5, 6, 7, 8, 27, 28, 29, 37, 38, 39] T fun vs => r81_L4_R call fuel base fuel vs m K), (2, fun T m K => kslots 70 [1, 2, 3, 4, 5, 6, 27, 28, 29] T fun vs => r81_L2_R call fuel base fuel vs m K), (0, fun T m K => kslots 70 [1, 2, 3, 4, 5] T fun vs => r81_L0_R call fuel base fuel vs m K)]
noncomputable def c81 : Code := Try.f81.body.getD .skip
theorem r81_L4_lk (call : CallF) (fuel base : Nat) : LoopsOk E call (lp81 call fuel base) fuel base 4 (loopB (blockB (seqR (seqR (blockB (seqL (seqR (seqR (loopB (blockB (seqR (seqL (seqR (blockB (seqL (seqR (loopB (blockB (seqR (seqL (seqR (seqR (seqR c81))))))))))))))))))))))) = (And True (And (And True True) (And (And True (And True (And True True))) True))) := by kernel_rfl
theorem r81_L4_ok (call : CallF) (fuel base : Nat) : LpOk E call (lp81 call fuel base) fuel base 4 (loopB (blockB (seqR (seqR (blockB (seqL (seqR (seqR (loopB (blockB (seqR (seqL (seqR (blockB (seqL (seqR (loopB (blockB (seqR (seqL (seqR (seqR (seqR c81))))))))))))))))))))))) := by
  refine loop_ok (kp := keep81) (hb := Eq.mpr (r81_L4_lk call fuel base) (And.intro trivial (And.intro (And.intro trivial trivial) (And.intro (And.intro trivial (And.intro trivial (And.intro trivial trivial))) trivial)))) 70 [1, 2, 3, 4, 5, 6, 7, 8, 27, 28, 29, 37, 38, 39] (fun n vs m K => r81_L4_R call fuel base n vs m K) ?_ ?_ (fun _ _ _ => rfl)
  · intro vs m K
    unfold r81_L4_R
    split <;> rfl
  · intro n vs m K hl
    match vs, hl with
    | [x1, x2, x3, x4, x5, x6, x7, x8, x27, x28, x29, x37, x38, x39], _ => show _ = _; kernel_rfl
theorem r81_L2_lk (call : CallF) (fuel base : Nat) : LoopsOk E call (lp81 call fuel base) fuel base 2 (loopB (blockB (seqR (seqL (seqR (blockB (seqL (seqR (loopB (blockB (seqR (seqL (seqR (seqR (seqR c81))))))))))))))) = (And True (And (And True True) (And (And True (And True (LpOk E call (lp81 call fuel base) fuel base 4 (loopB (blockB (seqR (seqR (blockB (seqL (seqR (seqR (loopB (blockB (seqR (seqL (seqR (blockB (seqL (seqR (loopB (blockB (seqR (seqL (seqR (seqR (seqR c81)))))))))))))))))))))))))) True))) := by kernel_rfl
theorem r81_L2_ok (call : CallF) (fuel base : Nat) : LpOk E call (lp81 call fuel base) fuel base 2 (loopB (blockB (seqR (seqL (seqR (blockB (seqL (seqR (loopB (blockB (seqR (seqL (seqR (seqR (seqR c81))))))))))))))) := by
  refine loop_ok (kp := keep81) (hb := Eq.mpr (r81_L2_lk call fuel base) (And.intro trivial (And.intro (And.intro trivial trivial) (And.intro (And.intro trivial (And.intro trivial (r81_L4_ok call fuel base))) trivial)))) 70 [1, 2, 3, 4, 5, 6, 27, 28, 29] (fun n vs m K => r81_L2_R call fuel base n vs m K) ?_ ?_ (fun _ _ _ => rfl)
  · intro vs m K
    unfold r81_L2_R
    split <;> rfl
  · intro n vs m K hl
    match vs, hl with
    | [x1, x2, x3, x4, x5, x6, x27, x28, x29], _ => show _ = _; kernel_rfl
theorem r81_L0_lk (call : CallF) (fuel base : Nat) : LoopsOk E call (lp81 call fuel base) fuel base 0 (loopB (blockB (seqR (seqL (seqR (seqR (seqR c81))))))) = (And (And True (And True True)) (And (And True (And (And True (LpOk E call (lp81 call fuel base) fuel base 2 (loopB (blockB (seqR (seqL (seqR (blockB (seqL (seqR (loopB (blockB (seqR (seqL (seqR (seqR (seqR c81))))))))))))))))) True)) True)) := by kernel_rfl
theorem r81_L0_ok (call : CallF) (fuel base : Nat) : LpOk E call (lp81 call fuel base) fuel base 0 (loopB (blockB (seqR (seqL (seqR (seqR (seqR c81))))))) := by
  refine loop_ok (kp := keep81) (hb := Eq.mpr (r81_L0_lk call fuel base) (And.intro (And.intro trivial (And.intro trivial trivial)) (And.intro (And.intro trivial (And.intro (And.intro trivial (r81_L2_ok call fuel base)) trivial)) trivial))) 70 [1, 2, 3, 4, 5] (fun n vs m K => r81_L0_R call fuel base n vs m K) ?_ ?_ (fun _ _ _ => rfl)
  · intro vs m K
    unfold r81_L0_R
    split <;> rfl
  · intro n vs m K hl
    match vs, hl with
    | [x1, x2, x3, x4, x5], _ => show _ = _; kernel_rfl
theorem r81_eq (call : CallF) (fuel base : Nat) (x0 : Value) (m : M) : kbody E call keep81 (lp81 call fuel base) base Try.f81 [x0] m = r81 call fuel base x0 m := by
  kernel_rfl
noncomputable def rf81 : RF := fun call fuel base args m => match args with
  | [x0] => r81 call fuel base x0 m
  | _ => none
theorem r81_lk (call : CallF) (fuel base : Nat) : LoopsOk E call (lp81 call fuel base) fuel base 0 c81 = (And True (And True (And True (And (And True (LpOk E call (lp81 call fuel base) fuel base 0 (loopB (blockB (seqR (seqL (seqR (seqR (seqR c81))))))))) (And True True))))) := by kernel_rfl
theorem r81_fn : E.P.funcs[81]? = some Try.f81 := by kernel_rfl
theorem r81_body : Try.f81.body = some c81 := by kernel_rfl
theorem rf81_ok : RFok E 81 rf81 := by
  show RFok' E 81 rf81
  refine ⟨Try.f81, r81_fn, fun call fuel base args m r _ h => ?_⟩
  unfold rf81 at h
  split at h
  · rw [← r81_eq] at h
    exact kbody_sound (c := c81) r81_body (Eq.mpr (r81_lk call fuel base) (And.intro trivial (And.intro trivial (And.intro trivial (And.intro (And.intro trivial (r81_L0_ok call fuel base)) (And.intro trivial trivial)))))) h
  · simp at h
end Go.AM
namespace Go.AM
open Go Go.Proofs
noncomputable def r82 (call : CallF) (fuel base : Nat) (x0 : Value) (m : M) : Res2 :=
  (k2 (xbox m x0) fun u1 m => (k2 (xalloc E.P m 76) fun u2 m => (k1 (mfieldAddr E.P 106 u1 0) fun u3 => (k1 (xload E.P m 104 u3) fun u4 => (k1 (mfieldAddr E.P 106 u1 0) fun u5 => (k1 (xload E.P m 104 u5) fun u6 => (k2 (vcall E.P base m .len [104] [u6]) fun u7 m => (k1 (mbin E .sub 3 u7 (.int .i64 1)) fun u8 => (k1 (mindexAddr E.P 104 u4 u8) fun u9 => (k1 (xload E.P m 76 u9) fun u10 => (ks (xstore E.P base m 76 u2 u10) fun m => (k0 (mload E.P m 76 u2) fun r_11 => (fVal r_11 fun v => some (.ret v, m))))))))))))))
def keep82 : Keep := { region := fun i => ([[1, 2], [2]] : List (List Nat))[i]?, exit := fun i => ([] : List (List Nat))[i]?, ret := some [2] }
noncomputable def lp82 (call : CallF) (fuel base : Nat) : Lp := lpsel []
noncomputable def c82 : Code := Try.f82.body.getD .skip
theorem r82_eq (call : CallF) (fuel base : Nat) (x0 : Value) (m : M) : kbody E call keep82 (lp82 call fuel base) base Try.f82 [x0] m = r82 call fuel base x0 m := by
  kernel_rfl
noncomputable def rf82 : RF := fun call fuel base args m => match args with
  | [x0] => r82 call fuel base x0 m
  | _ => none
theorem r82_lk (call : CallF) (fuel base : Nat) : LoopsOk E call (lp82 call fuel base) fuel base 0 c82 = (And True (And True True)) := by kernel_rfl
theorem r82_fn : E.P.funcs[82]? = some Try.f82 := by kernel_rfl
theorem r82_body : Try.f82.body = some c82 := by kernel_rfl
theorem rf82_ok : RFok E 82 rf82 := by
  show RFok' E 82 rf82
  refine ⟨Try.f82, r82_fn, fun call fuel base args m r _ h => ?_⟩
  unfold rf82 at h
  split at h
  · rw [← r82_eq] at h
    exact kbody_sound (c := c82) r82_body (Eq.mpr (r82_lk call fuel base) (And.intro trivial (And.intro trivial trivial))) h
  · simp at h
end Go.AM
namespace Go.AM
open Go Go.Proofs
noncomputable def r83 (call : CallF) (fuel base : Nat) (x0 : Value) (x1 : Value) (x2 : Value) (m : M) : Res2 :=
  (k2 (xbox m x0) fun u1 m => (k2 (xbox m x1) fun u2 m => (k2 (xbox m x2) fun u3 m => (fVal (.func (.func 106) #[] #[u1, u2, u3]) fun v => some (.ret v, m)))))
def keep83 : Keep := { region := fun i => ([[3, 4, 5], [6]] : List (List Nat))[i]?, exit := fun i => ([] : List (List Nat))[i]?, ret := some [6] }
noncomputable def lp83 (call : CallF) (fuel base : Nat) : Lp := lpsel []
noncomputable def c83 : Code := Try.f83.body.getD .skip
theorem r83_eq (call : CallF) (fuel base : Nat) (x0 : Value) (x1 : Value) (x2 : Value) (m : M) : kbody E call keep83 (lp83 call fuel base) base Try.f83 [x0, x1, x2] m = r83 call fuel base x0 x1 x2 m := by
  kernel_rfl
noncomputable def rf83 : RF := fun call fuel base args m => match args with
  | [x0, x1, x2] => r83 call fuel base x0 x1 x2 m
  | _ => none
theorem r83_lk (call : CallF) (fuel base : Nat) : LoopsOk E call (lp83 call fuel base) fuel base 0 c83 = (And True (And True True)) := by kernel_rfl
theorem r83_fn : E.P.funcs[83]? = some Try.f83 := by kernel_rfl
theorem r83_body : Try.f83.body = some c83 := by kernel_rfl
theorem rf83_ok : RFok E 83 rf83 := by
  show RFok' E 83 rf83
  refine ⟨Try.f83, r83_fn, fun call fuel base args m r _ h => ?_⟩
  unfold rf83 at h
  split at h
  · rw [← r83_eq] at h
    exact kbody_sound (c := c83) r83_body (Eq.mpr (r83_lk call fuel base) (And.intro trivial (And.intro trivial trivial))) h
  · simp at h
end Go.AM
namespace Go.AM
open Go Go.Proofs
noncomputable def r85_L2 (call : CallF) (fuel base : Nat) (kx2 : Value → Value → Value → Value → Value → Value → M → Res2) (n : Nat) : Value → Value → Value → Value → Value → Value → Value → Value → Value → M → Res2 :=
  Nat.rec (motive := fun _ => Value → Value → Value → Value → Value → Value → Value → Value → Value → M → Res2) (fun _ _ _ _ _ _ _ _ _ _ => none)
    (fun _ ih x1 x2 x4 x5 x6 x11 x12 x16 x17 m =>
      (k1 (mbin E .lss 3 x17 x16) fun u11 => (kb u11 (kc (kB m (kv call m.length x1 [x6, x17] m)) (fun u12 m => (k1 (mfieldAddr E.P 79 x5 1) fun u13 => (k1 (mindexAddr E.P 77 u13 x6) fun u14 => (k1 (mindexAddr E.P 76 u14 x17) fun u15 => (ks (xstore E.P base m 3 u15 u12) fun m => (k1 (mbin E .add 3 x17 (.int .i64 1)) fun u16 => (ih x1 x2 x4 x5 x6 x11 x12 x16 u16 m))))))) (fun _ _ => none)) (kx2 x1 x2 x4 x5 x11 x12 m)))) n
noncomputable def r85_L0 (call : CallF) (fuel base : Nat) (kx0 : Value → Value → M → Res2) (n : Nat) : Value → Value → Value → Value → Value → Value → M → Res2 :=
  Nat.rec (motive := fun _ => Value → Value → Value → Value → Value → Value → M → Res2) (fun _ _ _ _ _ _ _ => none)
    (fun _ ih x1 x2 x4 x5 x11 x12 m =>
      (k1 (mbin E .lss 3 x12 x11) fun u8 => (kb u8 (k1 (mfieldAddr E.P 23 x2 1) fun u9 => (k1 (xload E.P m 3 u9) fun u10 => (r85_L2 call fuel base (fun w17 w18 w19 w20 w21 w22 m => (k1 (mbin E .add 3 w22 (.int .i64 1)) fun u23 => (ih w17 w18 w19 w20 w21 u23 m))) fuel x1 x2 x4 x5 x12 x11 x12 u10 (.int .i64 0) m))) (kx0 x4 x5 m)))) n
noncomputable def r85 (call : CallF) (fuel base : Nat) (x0 : Value) (x1 : Value) (m : M) : Res2 :=
  (k2 (xbox m x0) fun u1 m => (k2 (xalloc E.P m 79) fun u2 m => (k1 (xload E.P m 23 u1) fun u3 => (k1 (mbuild E.P 79 [(0, u3)]) fun u4 => (k2 (xalloc E.P m 79) fun u5 m => (ks (xstore E.P base m 79 u5 u4) fun m => (k1 (mfieldAddr E.P 23 u1 0) fun u6 => (k1 (xload E.P m 3 u6) fun u7 => (r85_L0 call fuel base (fun w24 w25 m => (k1 (xload E.P m 79 w25) fun u26 => (ks (xstore E.P base m 79 w24 u26) fun m => (k0 (mload E.P m 79 w24) fun r_27 => (fVal r_27 fun v => some (.ret v, m)))))) fuel x1 u1 u2 u5 u7 (.int .i64 0) m)))))))))
def keep85 : Keep := { region := fun i => ([[1, 2, 4], [1, 2, 4, 5], [1, 2, 4, 5, 11, 12], [1, 2, 4, 5, 11, 12, 13], [1, 2, 4, 5, 6, 11, 12], [1, 2, 4, 5, 6, 11, 12, 16, 17], [1, 2, 4, 5, 6, 11, 12, 16, 17, 18], [1, 2, 4, 5, 6, 7, 11, 12, 16, 17], [1, 2, 4, 5, 6, 11, 12, 16, 17], [1, 2, 4, 5, 6, 11, 12, 16, 17], [1, 2, 4, 5, 11, 12], [4]] : List (List Nat))[i]?, exit := fun i => ([[4, 5], [1, 2, 4, 5, 11, 12], [1, 2, 4, 5, 11, 12], [1, 2, 4, 5, 6, 11, 12, 16, 17]] : List (List Nat))[i]?, ret := some [4] }
noncomputable def r85_L2_R (call : CallF) (fuel base n : Nat) (vs : List Value) (m : M) (K : KT) : Res2 := match vs with
  | [x1, x2, x4, x5, x6, x11, x12, x16, x17] => r85_L2 call fuel base (fun y1 y2 y4 y5 y11 y12 m => K (.exit 2) { n := 32, l := [(1, y1), (2, y2), (4, y4), (5, y5), (11, y11), (12, y12)] } m) n x1 x2 x4 x5 x6 x11 x12 x16 x17 m
  | _ => none
noncomputable def r85_L0_R (call : CallF) (fuel base n : Nat) (vs : List Value) (m : M) (K : KT) : Res2 := match vs with
  | [x1, x2, x4, x5, x11, x12] => r85_L0 call fuel base (fun y4 y5 m => K (.exit 0) { n := 32, l := [(4, y4), (5, y5)] } m) n x1 x2 x4 x5 x11 x12 m
  | _ => none
noncomputable def lp85 (call : CallF) (fuel base : Nat) : Lp := lpsel [(2, fun T m K => kslots 32 [1, 2, 4, 5, 6, 11, 12, 16, 17] T fun vs => r85_L2_R call fuel base fuel vs m K), (0, fun T m K => kslots 32 [1, 2, 4, 5, 11, 12] T fun vs => r85_L0_R call fuel base fuel vs m K)]
noncomputable def c85 : Code := Try.f85.body.getD .skip
theorem r85_L2_lk (call : CallF) (fuel base : Nat) : LoopsOk E call (lp85 call fuel base) fuel base 2 (loopB (blockB (seqR (seqR (blockB (seqL (seqR (seqR (loopB (blockB (seqR (seqL (seqR (seqR c85)))))))))))))) = (And True (And (And True True) (And (And True True) True))) := by kernel_rfl
theorem r85_L2_ok (call : CallF) (fuel base : Nat) : LpOk E call (lp85 call fuel base) fuel base 2 (loopB (blockB (seqR (seqR (blockB (seqL (seqR (seqR (loopB (blockB (seqR (seqL (seqR (seqR c85)))))))))))))) := by
  refine loop_ok (kp := keep85) (hb := Eq.mpr (r85_L2_lk call fuel base) (And.intro trivial (And.intro (And.intro trivial trivial) (And.intro (And.intro trivial trivial) trivial)))) 32 [1, 2, 4, 5, 6, 11, 12, 16, 17] (fun n vs m K => r85_L2_R call fuel base n vs m K) ?_ ?_ (fun _ _ _ => rfl)
  · intro vs m K
    unfold r85_L2_R
    split <;> rfl
  · intro n vs m K hl
    match vs, hl with
    | [x1, x2, x4, x5, x6, x11, x12, x16, x17], _ => show _ = _; kernel_rfl
theorem r85_L0_lk (call : CallF) (fuel base : Nat) : LoopsOk E call (lp85 call fuel base) fuel base 0 (loopB (blockB (seqR (seqL (seqR (seqR c85)))))) = (And True (And (And True True) (And (And True (And True (LpOk E call (lp85 call fuel base) fuel base 2 (loopB (blockB (seqR (seqR (blockB (seqL (seqR (seqR (loopB (blockB (seqR (seqL (seqR (seqR c85))))))))))))))))) True))) := by kernel_rfl
theorem r85_L0_ok (call : CallF) (fuel base : Nat) : LpOk E call (lp85 call fuel base) fuel base 0 (loopB (blockB (seqR (seqL (seqR (seqR c85)))))) := by
  refine loop_ok (kp := keep85) (hb := Eq.mpr (r85_L0_lk call fuel base) (And.intro trivial (And.intro (And.intro trivial trivial) (And.intro (And.intro trivial (And.intro trivial (r85_L2_ok call fuel base))) trivial)))) 32 [1, 2, 4, 5, 11, 12] (fun n vs m K => r85_L0_R call fuel base n vs m K) ?_ ?_ (fun _ _ _ => rfl)
  · intro vs m K
    unfold r85_L0_R
    split <;> rfl
  · intro n vs m K hl
    match vs, hl with
    | [x1, x2, x4, x5, x11, x12], _ => show _ = _; kernel_rfl
theorem r85_eq (call : CallF) (fuel base : Nat) (x0 : Value) (x1 : Value) (m : M) : kbody E call keep85 (lp85 call fuel base) base Try.f85 [x0, x1] m = r85 call fuel base x0 x1 m := by
  kernel_rfl
noncomputable def rf85 : RF := fun call fuel base args m => match args with
  | [x0, x1] => r85 call fuel base x0 x1 m
  | _ => none
theorem r85_lk (call : CallF) (fuel base : Nat) : LoopsOk E call (lp85 call fuel base) fuel base 0 c85 = (And True (And True (And (And True (LpOk E call (lp85 call fuel base) fuel base 0 (loopB (blockB (seqR (seqL (seqR (seqR c85)))))))) (And True True)))) := by kernel_rfl
theorem r85_fn : E.P.funcs[85]? = some Try.f85 := by kernel_rfl
theorem r85_body : Try.f85.body = some c85 := by kernel_rfl
theorem rf85_ok : RFok E 85 rf85 := by
  show RFok' E 85 rf85
  refine ⟨Try.f85, r85_fn, fun call fuel base args m r _ h => ?_⟩
  unfold rf85 at h
  split at h
  · rw [← r85_eq] at h
    exact kbody_sound (c := c85) r85_body (Eq.mpr (r85_lk call fuel base) (And.intro trivial (And.intro trivial (And.intro (And.intro trivial (r85_L0_ok call fuel base)) (And.intro trivial trivial))))) h
  · simp at h
end Go.AM
namespace Go.AM
open Go Go.Proofs
noncomputable def r87 (call : CallF) (fuel base : Nat) (x0 : Value) (x1 : Value) (x2 : Value) (m : M) : Res2 :=
  (k1 (mfieldAddr E.P 79 x2 1) fun u1 => (k1 (mindexAddr E.P 77 u1 x1) fun u2 => (k1 (mindexAddr E.P 76 u2 x0) fun u3 => (k1 (xload E.P m 3 u3) fun u4 => (fVal u4 fun v => some (.ret v, m))))))
def keep87 : Keep := { region := fun i => ([[0, 1, 2], [5]] : List (List Nat))[i]?, exit := fun i => ([] : List (List Nat))[i]?, ret := some [5] }
noncomputable def lp87 (call : CallF) (fuel base : Nat) : Lp := lpsel []
noncomputable def c87 : Code := Try.f87.body.getD .skip
theorem r87_eq (call : CallF) (fuel base : Nat) (x0 : Value) (x1 : Value) (x2 : Value) (m : M) : kbody E call keep87 (lp87 call fuel base) base Try.f87 [x0, x1, x2] m = r87 call fuel base x0 x1 x2 m := by
  kernel_rfl
noncomputable def rf87 : RF := fun call fuel base args m => match args with
  | [x0, x1, x2] => r87 call fuel base x0 x1 x2 m
  | _ => none
theorem r87_lk (call : CallF) (fuel base : Nat) : LoopsOk E call (lp87 call fuel base) fuel base 0 c87 = (And True (And True True)) := by kernel_rfl
theorem r87_fn : E.P.funcs[87]? = some Try.f87 := by kernel_rfl
theorem r87_body : Try.f87.body = some c87 := by kernel_rfl
theorem rf87_ok : RFok E 87 rf87 := by
  show RFok' E 87 rf87
  refine ⟨Try.f87, r87_fn, fun call fuel base args m r _ h => ?_⟩
  unfold rf87 at h
  split at h
  · rw [← r87_eq] at h
    exact kbody_sound (c := c87) r87_body (Eq.mpr (r87_lk call fuel base) (And.intro trivial (And.intro trivial trivial))) h
  · simp at h
end Go.AM
namespace Go.AM
open Go Go.Proofs
noncomputable def r89_L0 (call : CallF) (fuel base : Nat) (kx0 : Value → M → Res2) (n : Nat) : Value → Value → Value → Value → M → Res2 :=
  Nat.rec (motive := fun _ => Value → Value → Value → Value → M → Res2) (fun _ _ _ _ _ => none)
    (fun _ ih x1 x5 x8 x9 m =>
      (k1 (mbin E .lss 3 x9 (.int .i64 4)) fun u3 => (kb u3 (k1 (mindex E.P 76 x8 x9) fun u4 => (k1 (mbin E .gtr 3 u4 x1) fun u5 => (kb u5 (k1 (mbin E .add 3 x5 (.int .i64 1)) fun u6 => (k1 (mbin E .add 3 x9 (.int .i64 1)) fun u7 => (ih x1 u6 x8 u7 m))) (k1 (mbin E .add 3 x9 (.int .i64 1)) fun u8 => (ih x1 x5 x8 u8 m))))) (kx0 x5 m)))) n
noncomputable def r89 (call : CallF) (fuel base : Nat) (x0 : Value) (x1 : Value) (m : M) : Res2 :=
  (k2 (xbox m x0) fun u1 m => (k1 (xload E.P m 76 u1) fun u2 => (r89_L0 call fuel base (fun w9 m => (fVal w9 fun v => some (.ret v, m))) fuel x1 (.int .i64 0) u2 (.int .i64 0) m)))
def keep89 : Keep := { region := fun i => ([[1, 2], [1, 2, 5], [1, 5, 8, 9], [1, 5, 8, 9, 10], [1, 5, 7, 8, 9], [1, 5, 8, 9, 14], [1, 5, 8, 9], [1, 5, 8, 9], [4]] : List (List Nat))[i]?, exit := fun i => ([[5], [1, 5, 8, 9]] : List (List Nat))[i]?, ret := some [4] }
noncomputable def r89_L0_R (call : CallF) (fuel base n : Nat) (vs : List Value) (m : M) (K : KT) : Res2 := match vs with
  | [x1, x5, x8, x9] => r89_L0 call fuel base (fun y5 m => K (.exit 0) { n := 19, l := [(5, y5)] } m) n x1 x5 x8 x9 m
  | _ => none
noncomputable def lp89 (call : CallF) (fuel base : Nat) : Lp := lpsel [(0, fun T m K => kslots 19 [1, 5, 8, 9] T fun vs => r89_L0_R call fuel base fuel vs m K)]
noncomputable def c89 : Code := Try.f89.body.getD .skip
theorem r89_L0_lk (call : CallF) (fuel base : Nat) : LoopsOk E call (lp89 call fuel base) fuel base 0 (loopB (blockB (seqR (seqL (seqR (seqR c89)))))) = (And True (And (And True True) (And (And True (And True (And True True))) True))) := by kernel_rfl
theorem r89_L0_ok (call : CallF) (fuel base : Nat) : LpOk E call (lp89 call fuel base) fuel base 0 (loopB (blockB (seqR (seqL (seqR (seqR c89)))))) := by
  refine loop_ok (kp := keep89) (hb := Eq.mpr (r89_L0_lk call fuel base) (And.intro trivial (And.intro (And.intro trivial trivial) (And.intro (And.intro trivial (And.intro trivial (And.intro trivial trivial))) trivial)))) 19 [1, 5, 8, 9] (fun n vs m K => r89_L0_R call fuel base n vs m K) ?_ ?_ (fun _ _ _ => rfl)
  · intro vs m K
    unfold r89_L0_R
    split <;> rfl
  · intro n vs m K hl
    match vs, hl with
    | [x1, x5, x8, x9], _ => show _ = _; kernel_rfl
theorem r89_eq (call : CallF) (fuel base : Nat) (x0 : Value) (x1 : Value) (m : M) : kbody E call keep89 (lp89 call fuel base) base Try.f89 [x0, x1] m = r89 call fuel base x0 x1 m := by
  kernel_rfl
noncomputable def rf89 : RF := fun call fuel base args m => match args with
  | [x0, x1] => r89 call fuel base x0 x1 m
  | _ => none
theorem r89_lk (call : CallF) (fuel base : Nat) : LoopsOk E call (lp89 call fuel base) fuel base 0 c89 = (And True (And True (And (And True (LpOk E call (lp89 call fuel base) fuel base 0 (loopB (blockB (seqR (seqL (seqR (seqR c89)))))))) (And True True)))) := by kernel_rfl
theorem r89_fn : E.P.funcs[89]? = some Try.f89 := by kernel_rfl
theorem r89_body : Try.f89.body = some c89 := by kernel_rfl
theorem rf89_ok : RFok E 89 rf89 := by
  show RFok' E 89 rf89
  refine ⟨Try.f89, r89_fn, fun call fuel base args m r _ h => ?_⟩
  unfold rf89 at h
  split at h
  · rw [← r89_eq] at h
    exact kbody_sound (c := c89) r89_body (Eq.mpr (r89_lk call fuel base) (And.intro trivial (And.intro trivial (And.intro (And.intro trivial (r89_L0_ok call fuel base)) (And.intro trivial trivial))))) h
  · simp at h
end Go.AM
namespace Go.AM
open Go Go.Proofs
noncomputable def r90 (call : CallF) (fuel base : Nat) (x0 : Value) (x1 : Value) (x2 : Value) (m : M) : Res2 :=
  (k2 (xbox m x0) fun u1 m => (k1 (xload E.P m 79 u1) fun u2 => (k1 (mbin E .add 3 x1 (.int .i64 1)) fun u3 => (kc (kB m (call m.length 104 [u2, u3, x2] m)) (fun u4 m => (k1 (xload E.P m 79 u1) fun u5 => (k1 (mbin E .add 3 x2 (.int .i64 1)) fun u6 => (kc (kB m (call m.length 104 [u5, x1, u6] m)) (fun u7 m => (k2 (vcall E.P base m .max [3, 3] [u4, u7]) fun u8 m => (fVal u8 fun v => some (.ret v, m)))) (fun _ _ => none))))) (fun _ _ => none)))))
def keep90 : Keep := { region := fun i => ([[1, 2, 3], [6]] : List (List Nat))[i]?, exit := fun i => ([] : List (List Nat))[i]?, ret := some [6] }
noncomputable def lp90 (call : CallF) (fuel base : Nat) : Lp := lpsel []
noncomputable def c90 : Code := Try.f90.body.getD .skip
theorem r90_eq (call : CallF) (fuel base : Nat) (x0 : Value) (x1 : Value) (x2 : Value) (m : M) : kbody E call keep90 (lp90 call fuel base) base Try.f90 [x0, x1, x2] m = r90 call fuel base x0 x1 x2 m := by
  kernel_rfl
noncomputable def rf90 : RF := fun call fuel base args m => match args with
  | [x0, x1, x2] => r90 call fuel base x0 x1 x2 m
  | _ => none
theorem r90_lk (call : CallF) (fuel base : Nat) : LoopsOk E call (lp90 call fuel base) fuel base 0 c90 = (And True (And True True)) := by kernel_rfl
theorem r90_fn : E.P.funcs[90]? = some Try.f90 := by kernel_rfl
theorem r90_body : Try.f90.body = some c90 := by kernel_rfl
theorem rf90_ok : RFok E 90 rf90 := by
  show RFok' E 90 rf90
  refine ⟨Try.f90, r90_fn, fun call fuel base args m r _ h => ?_⟩
  unfold rf90 at h
  split at h
  · rw [← r90_eq] at h
    exact kbody_sound (c := c90) r90_body (Eq.mpr (r90_lk call fuel base) (And.intro trivial (And.intro trivial trivial))) h
  · simp at h
end Go.AM
namespace Go.AM
open Go Go.Proofs
noncomputable def r91 (call : CallF) (fuel base : Nat) (x0 : Value) (x1 : Value) (x2 : Value) (x3 : Value) (m : M) : Res2 :=
  (k2 (xalloc E.P m 69) fun u1 m => (k1 (mbin E .sub 3 x2 x1) fun u2 => (k1 (mbin E .sub 3 x3 x1) fun u3 => (k1 (mbuild E.P 69 [(0, x0), (1, u2), (2, u3)]) fun u4 => (ks (xstore E.P base m 69 u1 u4) fun m => (k0 (mload E.P m 69 u1) fun r_5 => (fVal r_5 fun v => some (.ret v, m))))))))
def keep91 : Keep := { region := fun i => ([[0, 1, 2, 3, 8], [8]] : List (List Nat))[i]?, exit := fun i => ([] : List (List Nat))[i]?, ret := some [8] }
noncomputable def lp91 (call : CallF) (fuel base : Nat) : Lp := lpsel []
noncomputable def c91 : Code := Try.f91.body.getD .skip
theorem r91_eq (call : CallF) (fuel base : Nat) (x0 : Value) (x1 : Value) (x2 : Value) (x3 : Value) (m : M) : kbody E call keep91 (lp91 call fuel base) base Try.f91 [x0, x1, x2, x3] m = r91 call fuel base x0 x1 x2 x3 m := by
  kernel_rfl
noncomputable def rf91 : RF := fun call fuel base args m => match args with
  | [x0, x1, x2, x3] => r91 call fuel base x0 x1 x2 x3 m
  | _ => none
theorem r91_lk (call : CallF) (fuel base : Nat) : LoopsOk E call (lp91 call fuel base) fuel base 0 c91 = (And True (And True True)) := by kernel_rfl
theorem r91_fn : E.P.funcs[91]? = some Try.f91 := by kernel_rfl
theorem r91_body : Try.f91.body = some c91 := by kernel_rfl
theorem rf91_ok : RFok E 91 rf91 := by
  show RFok' E 91 rf91
  refine ⟨Try.f91, r91_fn, fun call fuel base args m r _ h => ?_⟩
  unfold rf91 at h
  split at h
  · rw [← r91_eq] at h
    exact kbody_sound (c := c91) r91_body (Eq.mpr (r91_lk call fuel base) (And.intro trivial (And.intro trivial trivial))) h
  · simp at h
end Go.AM
namespace Go.AM
open Go Go.Proofs
noncomputable def r92 (call : CallF) (fuel base : Nat) (x0 : Value) (x1 : Value) (m : M) : Res2 :=
  (k2 (vcall E.P base m .len [47] [x0]) fun u1 m => (k1 (mconvert E.P 3 132 u1) fun u2 => (kc (call base 108 [u2] m) (fun u3 m => (kc (call base 107 [x0, (.int .i64 0), u1, u3, x1] m) (fun u4 m => (some (.ret (.tuple #[]), m))) (fun v m => some (.pan v, m)))) (fun v m => some (.pan v, m)))))
def keep92 : Keep := { region := fun i => ([[0, 1, 4], []] : List (List Nat))[i]?, exit := fun i => ([] : List (List Nat))[i]?, ret := some [] }
noncomputable def lp92 (call : CallF) (fuel base : Nat) : Lp := lpsel []
noncomputable def c92 : Code := Try.f92.body.getD .skip
theorem r92_eq (call : CallF) (fuel base : Nat) (x0 : Value) (x1 : Value) (m : M) : kbody E call keep92 (lp92 call fuel base) base Try.f92 [x0, x1] m = r92 call fuel base x0 x1 m := by
  kernel_rfl
noncomputable def rf92 : RF := fun call fuel base args m => match args with
  | [x0, x1] => r92 call fuel base x0 x1 m
  | _ => none
theorem r92_lk (call : CallF) (fuel base : Nat) : LoopsOk E call (lp92 call fuel base) fuel base 0 c92 = (And True True) := by kernel_rfl
theorem r92_fn : E.P.funcs[92]? = some Try.f92 := by kernel_rfl
theorem r92_body : Try.f92.body = some c92 := by kernel_rfl
theorem rf92_ok : RFok E 92 rf92 := by
  show RFok' E 92 rf92
  refine ⟨Try.f92, r92_fn, fun call fuel base args m r _ h => ?_⟩
  unfold rf92 at h
  split at h
  · rw [← r92_eq] at h
    exact kbody_sound (c := c92) r92_body (Eq.mpr (r92_lk call fuel base) (And.intro trivial trivial)) h
  · simp at h
end Go.AM
namespace Go.AM
open Go Go.Proofs
noncomputable def r93 (call : CallF) (fuel base : Nat) (x0 : Value) (x1 : Value) (m : M) : Res2 :=
  (k2 (xbox m x0) fun u1 m => (k2 (xbox m x1) fun u2 m => (k1 (mfieldAddr E.P 69 u1 0) fun u3 => (k1 (xload E.P m 3 u3) fun u4 => (k1 (mfieldAddr E.P 69 u2 0) fun u5 => (k1 (xload E.P m 3 u5) fun u6 => (kc (kB m (call m.length 110 [u4, u6] m)) (fun u7 m => (k1 (mfieldAddr E.P 69 u1 1) fun u8 => (k1 (xload E.P m 3 u8) fun u9 => (k1 (mfieldAddr E.P 69 u2 1) fun u10 => (k1 (xload E.P m 3 u10) fun u11 => (kc (kB m (call m.length 110 [u9, u11] m)) (fun u12 m => (k1 (mfieldAddr E.P 69 u1 2) fun u13 => (k1 (xload E.P m 3 u13) fun u14 => (k1 (mfieldAddr E.P 69 u2 2) fun u15 => (k1 (xload E.P m 3 u15) fun u16 => (kc (kB m (call m.length 110 [u14, u16] m)) (fun u17 m => (k2 (xbuildSlice E.P m 27 3 [(0, u7), (1, u12), (2, u17)]) fun u18 m => (kc (kB m (call m.length 109 [u18] m)) (fun u19 m => (fVal u19 fun v => some (.ret v, m))) (fun _ _ => none)))) (fun _ _ => none))))))) (fun _ _ => none))))))) (fun _ _ => none))))))))
def keep93 : Keep := { region := fun i => ([[2, 3], [4]] : List (List Nat))[i]?, exit := fun i => ([] : List (List Nat))[i]?, ret := some [4] }
noncomputable def lp93 (call : CallF) (fuel base : Nat) : Lp := lpsel []
noncomputable def c93 : Code := Try.f93.body.getD .skip
theorem r93_eq (call : CallF) (fuel base : Nat) (x0 : Value) (x1 : Value) (m : M) : kbody E call keep93 (lp93 call fuel base) base Try.f93 [x0, x1] m = r93 call fuel base x0 x1 m := by
  kernel_rfl
noncomputable def rf93 : RF := fun call fuel base args m => match args with
  | [x0, x1] => r93 call fuel base x0 x1 m
  | _ => none
theorem r93_lk (call : CallF) (fuel base : Nat) : LoopsOk E call (lp93 call fuel base) fuel base 0 c93 = (And True (And True True)) := by kernel_rfl
theorem r93_fn : E.P.funcs[93]? = some Try.f93 := by kernel_rfl
theorem r93_body : Try.f93.body = some c93 := by kernel_rfl
theorem rf93_ok : RFok E 93 rf93 := by
  show RFok' E 93 rf93
  refine ⟨Try.f93, r93_fn, fun call fuel base args m r _ h => ?_⟩
  unfold rf93 at h
  split at h
  · rw [← r93_eq] at h
    exact kbody_sound (c := c93) r93_body (Eq.mpr (r93_lk call fuel base) (And.intro trivial (And.intro trivial trivial))) h
  · simp at h
end Go.AM
namespace Go.AM
open Go Go.Proofs
noncomputable def r97 (call : CallF) (fuel base : Nat) (m : M) : Res2 :=
  (k2 (xalloc E.P m 120) fun u1 m => (k1 (mbuild E.P 120 [(0, (.func (.func 111) #[] #[])), (1, (.func (.func 112) #[] #[])), (2, (.func (.func 113) #[] #[]))]) fun u2 => (ks (xstore E.P base m 120 u1 u2) fun m => (k0 (mload E.P m 120 u1) fun r_3 => (fVal r_3 fun v => some (.ret v, m))))))
def keep97 : Keep := { region := fun i => ([[0], [0]] : List (List Nat))[i]?, exit := fun i => ([] : List (List Nat))[i]?, ret := some [0] }
noncomputable def lp97 (call : CallF) (fuel base : Nat) : Lp := lpsel []
noncomputable def c97 : Code := Try.f97.body.getD .skip
theorem r97_eq (call : CallF) (fuel base : Nat) (m : M) : kbody E call keep97 (lp97 call fuel base) base Try.f97 [] m = r97 call fuel base  m := by
  kernel_rfl
noncomputable def rf97 : RF := fun call fuel base args m => match args with
  | [] => r97 call fuel base  m
  | _ => none
theorem r97_lk (call : CallF) (fuel base : Nat) : LoopsOk E call (lp97 call fuel base) fuel base 0 c97 = (And True (And True True)) := by kernel_rfl
theorem r97_fn : E.P.funcs[97]? = some Try.f97 := by kernel_rfl
theorem r97_body : Try.f97.body = some c97 := by kernel_rfl
theorem rf97_ok : RFok E 97 rf97 := by
  show RFok' E 97 rf97
  refine ⟨Try.f97, r97_fn, fun call fuel base args m r _ h => ?_⟩
  unfold rf97 at h
  split at h
  · rw [← r97_eq] at h
    exact kbody_sound (c := c97) r97_body (Eq.mpr (r97_lk call fuel base) (And.intro trivial (And.intro trivial trivial))) h
  · simp at h
end Go.AM
namespace Go.AM
open Go Go.Proofs
noncomputable def r98_L0 (call : CallF) (fuel base : Nat) (kr : Value → M → Res2) (kx0 : M → Res2) (n : Nat) : Value → Value → Value → M → Res2 :=
  Nat.rec (motive := fun _ => Value → Value → Value → M → Res2) (fun _ _ _ _ => none)
    (fun _ ih x0 x1 x5 m =>
      (k2 (vcall E.P base m .len [33] [x0]) fun u1 m => (k1 (mbin E .lss 3 x5 u1) fun u2 => (kb u2 (k1 (mindexAddr E.P 33 x0 x5) fun u3 => (k1 (xload E.P m 27 u3) fun u4 => (k1 (mindexAddr E.P 27 u4 x1) fun u5 => (k1 (xload E.P m 3 u5) fun u6 => (k1 (mbin E .neq 3 u6 (.int .i64 0)) fun u7 => (kb u7 (kr x5 m) (k1 (mbin E .add 3 x5 (.int .i64 1)) fun u8 => (ih x0 x1 u8 m)))))))) (kx0 m))))) n
noncomputable def r98 (call : CallF) (fuel base : Nat) (x0 : Value) (x1 : Value) (m : M) : Res2 :=
  (r98_L0 call fuel base (fun w9 m => (fVal w9 fun v => some (.ret v, m))) (fun m => (fVal (.int .i64 (-1)) fun v => some (.ret v, m))) fuel x0 x1 x1 m)
def keep98 : Keep := { region := fun i => ([[0, 1], [0, 1, 5], [0, 1, 5, 10], [0, 1, 5], [0, 1, 5, 20], [4], [4]] : List (List Nat))[i]?, exit := fun i => ([[], [0, 1, 5]] : List (List Nat))[i]?, ret := some [4] }
noncomputable def r98_L0_R (call : CallF) (fuel base n : Nat) (vs : List Value) (m : M) (K : KT) : Res2 := match vs with
  | [x0, x1, x5] => r98_L0 call fuel base (fun y4 m => K .ret { n := 22, l := [(4, y4)] } m) (fun m => K (.exit 0) { n := 22, l := [] } m) n x0 x1 x5 m
  | _ => none
noncomputable def lp98 (call : CallF) (fuel base : Nat) : Lp := lpsel [(0, fun T m K => kslots 22 [0, 1, 5] T fun vs => r98_L0_R call fuel base fuel vs m K)]
noncomputable def c98 : Code := Try.f98.body.getD .skip
theorem r98_L0_lk (call : CallF) (fuel base : Nat) : LoopsOk E call (lp98 call fuel base) fuel base 0 (loopB (blockB (seqR (seqL (seqR c98))))) = (And (And True (And True True)) (And (And True (And (And True True) True)) True)) := by kernel_rfl
theorem r98_L0_ok (call : CallF) (fuel base : Nat) : LpOk E call (lp98 call fuel base) fuel base 0 (loopB (blockB (seqR (seqL (seqR c98))))) := by
  refine loop_ok (kp := keep98) (hb := Eq.mpr (r98_L0_lk call fuel base) (And.intro (And.intro trivial (And.intro trivial trivial)) (And.intro (And.intro trivial (And.intro (And.intro trivial trivial) trivial)) trivial))) 22 [0, 1, 5] (fun n vs m K => r98_L0_R call fuel base n vs m K) ?_ ?_ (fun _ _ _ => rfl)
  · intro vs m K
    unfold r98_L0_R
    split <;> rfl
  · intro n vs m K hl
    match vs, hl with
    | [x0, x1, x5], _ => show _ = _; kernel_rfl
theorem r98_eq (call : CallF) (fuel base : Nat) (x0 : Value) (x1 : Value) (m : M) : kbody E call keep98 (lp98 call fuel base) base Try.f98 [x0, x1] m = r98 call fuel base x0 x1 m := by
  kernel_rfl
noncomputable def rf98 : RF := fun call fuel base args m => match args with
  | [x0, x1] => r98 call fuel base x0 x1 m
  | _ => none
theorem r98_lk (call : CallF) (fuel base : Nat) : LoopsOk E call (lp98 call fuel base) fuel base 0 c98 = (And True (And (And True (LpOk E call (lp98 call fuel base) fuel base 0 (loopB (blockB (seqR (seqL (seqR c98))))))) (And True True))) := by kernel_rfl
theorem r98_fn : E.P.funcs[98]? = some Try.f98 := by kernel_rfl
theorem r98_body : Try.f98.body = some c98 := by kernel_rfl
theorem rf98_ok : RFok E 98 rf98 := by
  show RFok' E 98 rf98
  refine ⟨Try.f98, r98_fn, fun call fuel base args m r _ h => ?_⟩
  unfold rf98 at h
  split at h
  · rw [← r98_eq] at h
    exact kbody_sound (c := c98) r98_body (Eq.mpr (r98_lk call fuel base) (And.intro trivial (And.intro (And.intro trivial (r98_L0_ok call fuel base)) (And.intro trivial trivial)))) h
  · simp at h
end Go.AM
namespace Go.AM
open Go Go.Proofs
noncomputable def r99_L2 (call : CallF) (fuel base : Nat) (kx2 : Value → Value → Value → Value → Value → M → Res2) (n : Nat) : Value → Value → Value → Value → Value → Value → M → Res2 :=
  Nat.rec (motive := fun _ => Value → Value → Value → Value → Value → Value → M → Res2) (fun _ _ _ _ _ _ _ => none)
    (fun _ ih x0 x1 x2 x7 x8 x9 m =>
      (k2 (vcall E.P base m .len [33] [x0]) fun u6 m => (k1 (mbin E .lss 3 x9 u6) fun u7 => (kb u7 (k1 (mfieldAddr E.P 120 x7 1) fun u8 => (k1 (xload E.P m 56 u8) fun u9 => (k1 (mfieldAddr E.P 120 x7 0) fun u10 => (k1 (xload E.P m 56 u10) fun u11 => (k1 (mindexAddr E.P 33 x0 x1) fun u12 => (k1 (xload E.P m 27 u12) fun u13 => (k1 (mindexAddr E.P 27 u13 x1) fun u14 => (k1 (xload E.P m 3 u14) fun u15 => (k1 (mindexAddr E.P 33 x0 x8) fun u16 => (k1 (xload E.P m 27 u16) fun u17 => (k1 (mindexAddr E.P 27 u17 x9) fun u18 => (k1 (xload E.P m 3 u18) fun u19 => (kc (kB m (kv call m.length u11 [u15, u19] m)) (fun u20 m => (k1 (mfieldAddr E.P 120 x7 0) fun u21 => (k1 (xload E.P m 56 u21) fun u22 => (k1 (mindexAddr E.P 33 x0 x8) fun u23 => (k1 (xload E.P m 27 u23) fun u24 => (k1 (mindexAddr E.P 27 u24 x1) fun u25 => (k1 (xload E.P m 3 u25) fun u26 => (k1 (mindexAddr E.P 33 x0 x1) fun u27 => (k1 (xload E.P m 27 u27) fun u28 => (k1 (mindexAddr E.P 27 u28 x9) fun u29 => (k1 (xload E.P m 3 u29) fun u30 => (kc (kB m (kv call m.length u22 [u26, u30] m)) (fun u31 m => (kc (kB m (kv call m.length u9 [u20, u31] m)) (fun u32 m => (k1 (mindexAddr E.P 33 x0 x8) fun u33 => (k1 (xload E.P m 27 u33) fun u34 => (k1 (mfieldAddr E.P 120 x7 2) fun u35 => (k1 (xload E.P m 56 u35) fun u36 => (kc (kB m (kv call m.length u36 [u32, x2] m)) (fun u37 m => (k1 (mindexAddr E.P 27 u34 x9) fun u38 => (ks (xstore E.P base m 3 u38 u37) fun m => (k1 (mbin E .add 3 x9 (.int .i64 1)) fun u39 => (ih x0 x1 x2 x7 x8 u39 m))))) (fun _ _ => none))))))) (fun _ _ => none))) (fun _ _ => none))))))))))))) (fun _ _ => none)))))))))))))) (kx2 x0 x1 x2 x7 x8 m))))) n
noncomputable def r99_L0 (call : CallF) (fuel base : Nat) (kx0 : M → Res2) (n : Nat) : Value → Value → Value → Value → Value → M → Res2 :=
  Nat.rec (motive := fun _ => Value → Value → Value → Value → Value → M → Res2) (fun _ _ _ _ _ _ => none)
    (fun _ ih x0 x1 x2 x7 x8 m =>
      (k2 (vcall E.P base m .len [33] [x0]) fun u3 m => (k1 (mbin E .lss 3 x8 u3) fun u4 => (kb u4 (k1 (mbin E .add 3 x1 (.int .i64 1)) fun u5 => (r99_L2 call fuel base (fun w40 w41 w42 w43 w44 m => (k1 (mbin E .add 3 w44 (.int .i64 1)) fun u45 => (ih w40 w41 w42 w43 u45 m))) fuel x0 x1 x2 x7 x8 u5 m)) (kx0 m))))) n
noncomputable def r99 (call : CallF) (fuel base : Nat) (x0 : Value) (x1 : Value) (x2 : Value) (x3 : Value) (m : M) : Res2 :=
  (k2 (xbox m x3) fun u1 m => (k1 (mbin E .add 3 x1 (.int .i64 1)) fun u2 => (r99_L0 call fuel base (fun m => (some (.ret (.tuple #[]), m))) fuel x0 x1 x2 u1 u2 m)))
def keep99 : Keep := { region := fun i => ([[0, 1, 2, 7], [0, 1, 2, 7, 8], [0, 1, 2, 7, 8, 16], [0, 1, 2, 7, 8], [0, 1, 2, 7, 8, 9], [0, 1, 2, 7, 8, 9, 24], [0, 1, 2, 7, 8, 9], [0, 1, 2, 7, 8, 9, 10], [0, 1, 2, 7, 8, 9]] : List (List Nat))[i]?, exit := fun i => ([[], [0, 1, 2, 7, 8], [0, 1, 2, 7, 8], [0, 1, 2, 7, 8, 9]] : List (List Nat))[i]?, ret := some [] }
noncomputable def r99_L2_R (call : CallF) (fuel base n : Nat) (vs : List Value) (m : M) (K : KT) : Res2 := match vs with
  | [x0, x1, x2, x7, x8, x9] => r99_L2 call fuel base (fun y0 y1 y2 y7 y8 m => K (.exit 2) { n := 75, l := [(0, y0), (1, y1), (2, y2), (7, y7), (8, y8)] } m) n x0 x1 x2 x7 x8 x9 m
  | _ => none
noncomputable def r99_L0_R (call : CallF) (fuel base n : Nat) (vs : List Value) (m : M) (K : KT) : Res2 := match vs with
  | [x0, x1, x2, x7, x8] => r99_L0 call fuel base (fun m => K (.exit 0) { n := 75, l := [] } m) n x0 x1 x2 x7 x8 m
  | _ => none
noncomputable def lp99 (call : CallF) (fuel base : Nat) : Lp := lpsel [(2, fun T m K => kslots 75 [0, 1, 2, 7, 8, 9] T fun vs => r99_L2_R call fuel base fuel vs m K), (0, fun T m K => kslots 75 [0, 1, 2, 7, 8] T fun vs => r99_L0_R call fuel base fuel vs m K)]
noncomputable def c99 : Code := Try.f99.body.getD .skip
theorem r99_L2_lk (call : CallF) (fuel base : Nat) : LoopsOk E call (lp99 call fuel base) fuel base 2 (loopB (blockB (seqR (blockB (seqL (seqR (loopB (blockB (seqR (seqR c99)))))))))) = (And (And True (And True True)) (And (And True True) True)) := by kernel_rfl
theorem r99_L2_ok (call : CallF) (fuel base : Nat) : LpOk E call (lp99 call fuel base) fuel base 2 (loopB (blockB (seqR (blockB (seqL (seqR (loopB (blockB (seqR (seqR c99)))))))))) := by
  refine loop_ok (kp := keep99) (hb := Eq.mpr (r99_L2_lk call fuel base) (And.intro (And.intro trivial (And.intro trivial trivial)) (And.intro (And.intro trivial trivial) trivial))) 75 [0, 1, 2, 7, 8, 9] (fun n vs m K => r99_L2_R call fuel base n vs m K) ?_ ?_ (fun _ _ _ => rfl)
  · intro vs m K
    unfold r99_L2_R
    split <;> rfl
  · intro n vs m K hl
    match vs, hl with
    | [x0, x1, x2, x7, x8, x9], _ => show _ = _; kernel_rfl
theorem r99_L0_lk (call : CallF) (fuel base : Nat) : LoopsOk E call (lp99 call fuel base) fuel base 0 (loopB (blockB (seqR (seqR c99)))) = (And (And True (And True True)) (And (And True (LpOk E call (lp99 call fuel base) fuel base 2 (loopB (blockB (seqR (blockB (seqL (seqR (loopB (blockB (seqR (seqR c99)))))))))))) True)) := by kernel_rfl
theorem r99_L0_ok (call : CallF) (fuel base : Nat) : LpOk E call (lp99 call fuel base) fuel base 0 (loopB (blockB (seqR (seqR c99)))) := by
  refine loop_ok (kp := keep99) (hb := Eq.mpr (r99_L0_lk call fuel base) (And.intro (And.intro trivial (And.intro trivial trivial)) (And.intro (And.intro trivial (r99_L2_ok call fuel base)) trivial))) 75 [0, 1, 2, 7, 8] (fun n vs m K => r99_L0_R call fuel base n vs m K) ?_ ?_ (fun _ _ _ => rfl)
  · intro vs m K
    unfold r99_L0_R
    split <;> rfl
  · intro n vs m K hl
    match vs, hl with
    | [x0, x1, x2, x7, x8], _ => show _ = _; kernel_rfl
theorem r99_eq (call : CallF) (fuel base : Nat) (x0 : Value) (x1 : Value) (x2 : Value) (x3 : Value) (m : M) : kbody E call keep99 (lp99 call fuel base) base Try.f99 [x0, x1, x2, x3] m = r99 call fuel base x0 x1 x2 x3 m := by
  kernel_rfl
noncomputable def rf99 : RF := fun call fuel base args m => match args with
  | [x0, x1, x2, x3] => r99 call fuel base x0 x1 x2 x3 m
  | _ => none
theorem r99_lk (call : CallF) (fuel base : Nat) : LoopsOk E call (lp99 call fuel base) fuel base 0 c99 = (And True (And True (LpOk E call (lp99 call fuel base) fuel base 0 (loopB (blockB (seqR (seqR c99))))))) := by kernel_rfl
theorem r99_fn : E.P.funcs[99]? = some Try.f99 := by kernel_rfl
theorem r99_body : Try.f99.body = some c99 := by kernel_rfl
theorem rf99_ok : RFok E 99 rf99 := by
  show RFok' E 99 rf99
  refine ⟨Try.f99, r99_fn, fun call fuel base args m r _ h => ?_⟩
  unfold rf99 at h
  split at h
  · rw [← r99_eq] at h
    exact kbody_sound (c := c99) r99_body (Eq.mpr (r99_lk call fuel base) (And.intro trivial (And.intro trivial (r99_L0_ok call fuel base)))) h
  · simp at h
end Go.AM
namespace Go.AM
open Go Go.Proofs
noncomputable def r101 (call : CallF) (fuel base : Nat) (x0 : Value) (m : M) : Res2 :=
  (k2 (xbox m x0) fun u1 m => (k2 (xalloc E.P m 104) fun u2 m => (k2 (xalloc E.P m 134) fun u3 m => (ks (xstore E.P base m 134 u3 (.func (.func 114) #[] #[u1, u2, u3])) fun m => (k1 (xload E.P m 134 u3) fun u4 => (k1 (mbuild E.P 76 []) fun u5 => (k1 (mfieldAddr E.P 23 u1 2) fun u6 => (k1 (xload E.P m 3 u6) fun u7 => (kc (kv call base u4 [u5, (.int .i64 0), u7] m) (fun u8 m => (k1 (xload E.P m 104 u2) fun u9 => (fVal u9 fun v => some (.ret v, m)))) (fun v m => some (.pan v, m)))))))))))
def keep101 : Keep := { region := fun i => ([[1], [1, 3], [1, 3, 4], [1, 3, 4], [3], [2]] : List (List Nat))[i]?, exit := fun i => ([] : List (List Nat))[i]?, ret := some [2] }
noncomputable def lp101 (call : CallF) (fuel base : Nat) : Lp := lpsel []
noncomputable def c101 : Code := Try.f101.body.getD .skip
theorem r101_eq (call : CallF) (fuel base : Nat) (x0 : Value) (m : M) : kbody E call keep101 (lp101 call fuel base) base Try.f101 [x0] m = r101 call fuel base x0 m := by
  kernel_rfl
noncomputable def rf101 : RF := fun call fuel base args m => match args with
  | [x0] => r101 call fuel base x0 m
  | _ => none
theorem r101_lk (call : CallF) (fuel base : Nat) : LoopsOk E call (lp101 call fuel base) fuel base 0 c101 = (And True (And True (And True (And True (And True (And True True)))))) := by kernel_rfl
theorem r101_fn : E.P.funcs[101]? = some Try.f101 := by kernel_rfl
theorem r101_body : Try.f101.body = some c101 := by kernel_rfl
theorem rf101_ok : RFok E 101 rf101 := by
  show RFok' E 101 rf101
  refine ⟨Try.f101, r101_fn, fun call fuel base args m r _ h => ?_⟩
  unfold rf101 at h
  split at h
  · rw [← r101_eq] at h
    exact kbody_sound (c := c101) r101_body (Eq.mpr (r101_lk call fuel base) (And.intro trivial (And.intro trivial (And.intro trivial (And.intro trivial (And.intro trivial (And.intro trivial trivial))))))) h
  · simp at h
end Go.AM
namespace Go.AM
open Go Go.Proofs
noncomputable def r103_L0 (call : CallF) (fuel base : Nat) (kr : Value → M → Res2) (kx0 : M → Res2) (n : Nat) : Value → Value → Value → M → Res2 :=
  Nat.rec (motive := fun _ => Value → Value → Value → M → Res2) (fun _ _ _ _ => none)
    (fun _ ih x3 x7 x8 m =>
      (k1 (mbin E .lss 3 x8 (.int .i64 4)) fun u4 => (kb u4 (k1 (mindex E.P 76 x7 x8) fun u5 => (k1 (mindexAddr E.P 76 x3 x8) fun u6 => (k1 (xload E.P m 3 u6) fun u7 => (k1 (mbin E .gtr 3 u5 u7) fun u8 => (kb u8 (kr (.bool false) m) (k1 (mbin E .add 3 x8 (.int .i64 1)) fun u9 => (ih x3 x7 u9 m))))))) (kx0 m)))) n
noncomputable def r103 (call : CallF) (fuel base : Nat) (x0 : Value) (x1 : Value) (m : M) : Res2 :=
  (k2 (xbox m x0) fun u1 m => (k2 (xbox m x1) fun u2 m => (k1 (xload E.P m 76 u1) fun u3 => (r103_L0 call fuel base (fun w10 m => (fVal w10 fun v => some (.ret v, m))) (fun m => (fVal (.bool true) fun v => some (.ret v, m))) fuel u2 u3 (.int .i64 0) m))))
def keep103 : Keep := { region := fun i => ([[2, 3], [3, 7, 8], [3, 7, 8, 9], [3, 5, 6, 7, 8], [3, 7, 8, 16], [4], [3, 7, 8], [4]] : List (List Nat))[i]?, exit := fun i => ([[], [3, 7, 8]] : List (List Nat))[i]?, ret := some [4] }
noncomputable def r103_L0_R (call : CallF) (fuel base n : Nat) (vs : List Value) (m : M) (K : KT) : Res2 := match vs with
  | [x3, x7, x8] => r103_L0 call fuel base (fun y4 m => K .ret { n := 18, l := [(4, y4)] } m) (fun m => K (.exit 0) { n := 18, l := [] } m) n x3 x7 x8 m
  | _ => none
noncomputable def lp103 (call : CallF) (fuel base : Nat) : Lp := lpsel [(0, fun T m K => kslots 18 [3, 7, 8] T fun vs => r103_L0_R call fuel base fuel vs m K)]
noncomputable def c103 : Code := Try.f103.body.getD .skip
theorem r103_L0_lk (call : CallF) (fuel base : Nat) : LoopsOk E call (lp103 call fuel base) fuel base 0 (loopB (blockB (seqR (seqL (seqR c103))))) = (And True (And (And True True) (And (And True (And True (And (And True True) True))) True))) := by kernel_rfl
theorem r103_L0_ok (call : CallF) (fuel base : Nat) : LpOk E call (lp103 call fuel base) fuel base 0 (loopB (blockB (seqR (seqL (seqR c103))))) := by
  refine loop_ok (kp := keep103) (hb := Eq.mpr (r103_L0_lk call fuel base) (And.intro trivial (And.intro (And.intro trivial trivial) (And.intro (And.intro trivial (And.intro trivial (And.intro (And.intro trivial trivial) trivial))) trivial)))) 18 [3, 7, 8] (fun n vs m K => r103_L0_R call fuel base n vs m K) ?_ ?_ (fun _ _ _ => rfl)
  · intro vs m K
    unfold r103_L0_R
    split <;> rfl
  · intro n vs m K hl
    match vs, hl with
    | [x3, x7, x8], _ => show _ = _; kernel_rfl
theorem r103_eq (call : CallF) (fuel base : Nat) (x0 : Value) (x1 : Value) (m : M) : kbody E call keep103 (lp103 call fuel base) base Try.f103 [x0, x1] m = r103 call fuel base x0 x1 m := by
  kernel_rfl
noncomputable def rf103 : RF := fun call fuel base args m => match args with
  | [x0, x1] => r103 call fuel base x0 x1 m
  | _ => none
theorem r103_lk (call : CallF) (fuel base : Nat) : LoopsOk E call (lp103 call fuel base) fuel base 0 c103 = (And True (And (And True (LpOk E call (lp103 call fuel base) fuel base 0 (loopB (blockB (seqR (seqL (seqR c103))))))) (And True True))) := by kernel_rfl
theorem r103_fn : E.P.funcs[103]? = some Try.f103 := by kernel_rfl
theorem r103_body : Try.f103.body = some c103 := by kernel_rfl
theorem rf103_ok : RFok E 103 rf103 := by
  show RFok' E 103 rf103
  refine ⟨Try.f103, r103_fn, fun call fuel base args m r _ h => ?_⟩
  unfold rf103 at h
  split at h
  · rw [← r103_eq] at h
    exact kbody_sound (c := c103) r103_body (Eq.mpr (r103_lk call fuel base) (And.intro trivial (And.intro (And.intro trivial (r103_L0_ok call fuel base)) (And.intro trivial trivial)))) h
  · simp at h
end Go.AM
namespace Go.AM
open Go Go.Proofs
noncomputable def r104 (call : CallF) (fuel base : Nat) (x0 : Value) (x1 : Value) (x2 : Value) (m : M) : Res2 :=
  (k2 (xbox m x0) fun u1 m => (k1 (mbin E .lss 3 x1 (.int .i64 0)) fun u2 => (kb u2 (k1 (mfieldAddr E.P 79 u1 0) fun u3 => (k1 (mfieldAddr E.P 23 u3 2) fun u4 => (k1 (xload E.P m 3 u4) fun u5 => (fVal u5 fun v => some (.ret v, m))))) (k1 (mbin E .lss 3 x2 (.int .i64 0)) fun u6 => (kb u6 (k1 (mfieldAddr E.P 79 u1 0) fun u7 => (k1 (mfieldAddr E.P 23 u7 2) fun u8 => (k1 (xload E.P m 3 u8) fun u9 => (fVal u9 fun v => some (.ret v, m))))) (k1 (mfieldAddr E.P 79 u1 0) fun u10 => (k1 (mfieldAddr E.P 23 u10 0) fun u11 => (k1 (xload E.P m 3 u11) fun u12 => (k1 (mbin E .geq 3 x1 u12) fun u13 => (kb u13 (fVal (.int .i64 0) fun v => some (.ret v, m)) (k1 (mfieldAddr E.P 79 u1 0) fun u14 => (k1 (mfieldAddr E.P 23 u14 1) fun u15 => (k1 (xload E.P m 3 u15) fun u16 => (k1 (mbin E .geq 3 x2 u16) fun u17 => (kb u17 (fVal (.int .i64 0) fun v => some (.ret v, m)) (k1 (mfieldAddr E.P 79 u1 1) fun u18 => (k1 (mindexAddr E.P 77 u18 x1) fun u19 => (k1 (mindexAddr E.P 76 u19 x2) fun u20 => (k1 (xload E.P m 3 u20) fun u21 => (fVal u21 fun v => some (.ret v, m)))))))))))))))))))))
def keep104 : Keep := { region := fun i => ([[1, 2, 3], [6], [1, 2, 3, 13], [6], [1, 2, 3, 23], [6]] : List (List Nat))[i]?, exit := fun i => ([[6]] : List (List Nat))[i]?, ret := some [6] }
noncomputable def lp104 (call : CallF) (fuel base : Nat) : Lp := lpsel []
noncomputable def c104 : Code := Try.f104.body.getD .skip
theorem r104_eq (call : CallF) (fuel base : Nat) (x0 : Value) (x1 : Value) (x2 : Value) (m : M) : kbody E call keep104 (lp104 call fuel base) base Try.f104 [x0, x1, x2] m = r104 call fuel base x0 x1 x2 m := by
  kernel_rfl
noncomputable def rf104 : RF := fun call fuel base args m => match args with
  | [x0, x1, x2] => r104 call fuel base x0 x1 x2 m
  | _ => none
theorem r104_lk (call : CallF) (fuel base : Nat) : LoopsOk E call (lp104 call fuel base) fuel base 0 c104 = (And True (And True (And (And True True) (And True (And (And True True) (And True True)))))) := by kernel_rfl
theorem r104_fn : E.P.funcs[104]? = some Try.f104 := by kernel_rfl
theorem r104_body : Try.f104.body = some c104 := by kernel_rfl
theorem rf104_ok : RFok E 104 rf104 := by
  show RFok' E 104 rf104
  refine ⟨Try.f104, r104_fn, fun call fuel base args m r _ h => ?_⟩
  unfold rf104 at h
  split at h
  · rw [← r104_eq] at h
    exact kbody_sound (c := c104) r104_body (Eq.mpr (r104_lk call fuel base) (And.intro trivial (And.intro trivial (And.intro (And.intro trivial trivial) (And.intro trivial (And.intro (And.intro trivial trivial) (And.intro trivial trivial))))))) h
  · simp at h
end Go.AM
namespace Go.AM
open Go Go.Proofs
noncomputable def r105_L0 (call : CallF) (fuel base : Nat) (kx0 : Value → M → Res2) (n : Nat) : Value → Value → M → Res2 :=
  Nat.rec (motive := fun _ => Value → Value → M → Res2) (fun _ _ _ => none)
    (fun _ ih x7 x8 m =>
      (k2 (vcall E.P base m .len [27] [x7]) fun u13 m => (k1 (mbin E .lss 3 x8 u13) fun u14 => (kb u14 (k1 (mslice E.P m 27 x7 (some x8) none none) fun u15 => (k1 (mslice E.P m 27 x7 none (some x8) none) fun u16 => (k2 (vcall E.P base m .copy [27, 27] [u15, u16]) fun u17 m => (k1 (mbin E .add 3 x8 u17) fun u18 => (ih x7 u18 m))))) (kx0 x7 m))))) n
noncomputable def r105 (call : CallF) (fuel base : Nat) (x0 : Value) (x1 : Value) (m : M) : Res2 :=
  (k1 (mbin E .lss 3 x1 (.int .i64 0)) fun u1 => (kb u1 none (k2 (vcall E.P base m .len [27] [x0]) fun u2 m => (k1 (mconvert E.P 3 132 u2) fun u3 => (k1 (mconvert E.P 3 132 x1) fun u4 => (kc (call base 115 [u3, u4] m) (fun u5 m => (k1 (mextract 0 u5) fun u6 => (k1 (mextract 1 u5) fun u7 => (k1 (mbin E .gtr 132 u6 (.int .u64 0)) fun u8 => (kb u8 none (k1 (mbin E .gtr 132 u7 (.int .u64 9223372036854775807)) fun u9 => (kb u9 none (k1 (mconvert E.P 132 3 u7) fun u10 => (k2 (xmakeSlice E.P m 27 u10 u10) fun u11 m => (k2 (vcall E.P base m .copy [27, 27] [u11, x0]) fun u12 m => (r105_L0 call fuel base (fun w19 m => (fVal w19 fun v => some (.ret v, m))) fuel u11 u12 m))))))))))) (fun v m => some (.pan v, m))))))))
def keep105 : Keep := { region := fun i => ([[0, 1], [0, 1, 10], [0, 1], [0, 5, 6], [0, 6, 26], [0, 6], [0, 7], [7, 8], [7, 8, 37], [7, 8], [4]] : List (List Nat))[i]?, exit := fun i => ([[7], [7, 8]] : List (List Nat))[i]?, ret := some [4] }
noncomputable def r105_L0_R (call : CallF) (fuel base n : Nat) (vs : List Value) (m : M) (K : KT) : Res2 := match vs with
  | [x7, x8] => r105_L0 call fuel base (fun y7 m => K (.exit 0) { n := 48, l := [(7, y7)] } m) n x7 x8 m
  | _ => none
noncomputable def lp105 (call : CallF) (fuel base : Nat) : Lp := lpsel [(0, fun T m K => kslots 48 [7, 8] T fun vs => r105_L0_R call fuel base fuel vs m K)]
noncomputable def c105 : Code := Try.f105.body.getD .skip
theorem r105_L0_lk (call : CallF) (fuel base : Nat) : LoopsOk E call (lp105 call fuel base) fuel base 0 (loopB (blockB (seqL (seqR (seqR (seqR (seqR (seqR (seqR c105))))))))) = (And (And True (And True True)) True) := by kernel_rfl
theorem r105_L0_ok (call : CallF) (fuel base : Nat) : LpOk E call (lp105 call fuel base) fuel base 0 (loopB (blockB (seqL (seqR (seqR (seqR (seqR (seqR (seqR c105))))))))) := by
  refine loop_ok (kp := keep105) (hb := Eq.mpr (r105_L0_lk call fuel base) (And.intro (And.intro trivial (And.intro trivial trivial)) trivial)) 48 [7, 8] (fun n vs m K => r105_L0_R call fuel base n vs m K) ?_ ?_ (fun _ _ _ => rfl)
  · intro vs m K
    unfold r105_L0_R
    split <;> rfl
  · intro n vs m K hl
    match vs, hl with
    | [x7, x8], _ => show _ = _; kernel_rfl
theorem r105_eq (call : CallF) (fuel base : Nat) (x0 : Value) (x1 : Value) (m : M) : kbody E call keep105 (lp105 call fuel base) base Try.f105 [x0, x1] m = r105 call fuel base x0 x1 m := by
  kernel_rfl
noncomputable def rf105 : RF := fun call fuel base args m => match args with
  | [x0, x1] => r105 call fuel base x0 x1 m
  | _ => none
theorem r105_lk (call : CallF) (fuel base : Nat) : LoopsOk E call (lp105 call fuel base) fuel base 0 c105 = (And True (And (And True (And True True)) (And True (And (And True (And True True)) (And True (And True (And (LpOk E call (lp105 call fuel base) fuel base 0 (loopB (blockB (seqL (seqR (seqR (seqR (seqR (seqR (seqR c105)))))))))) (And True True)))))))) := by kernel_rfl
theorem r105_fn : E.P.funcs[105]? = some Try.f105 := by kernel_rfl
theorem r105_body : Try.f105.body = some c105 := by kernel_rfl
theorem rf105_ok : RFok E 105 rf105 := by
  show RFok' E 105 rf105
  refine ⟨Try.f105, r105_fn, fun call fuel base args m r _ h => ?_⟩
  unfold rf105 at h
  split at h
  · rw [← r105_eq] at h
    exact kbody_sound (c := c105) r105_body (Eq.mpr (r105_lk call fuel base) (And.intro trivial (And.intro (And.intro trivial (And.intro trivial trivial)) (And.intro trivial (And.intro (And.intro trivial (And.intro trivial trivial)) (And.intro trivial (And.intro trivial (And.intro (r105_L0_ok call fuel base) (And.intro trivial trivial))))))))) h
  · simp at h
end Go.AM
namespace Go.AM
open Go Go.Proofs
noncomputable def r106_L0 (call : CallF) (fuel base : Nat) (kr : M → Res2) (kx0 : M → Res2) (n : Nat) : Value → Value → Value → Value → Value → Value → Value → M → Res2 :=
  Nat.rec (motive := fun _ => Value → Value → Value → Value → Value → Value → Value → M → Res2) (fun _ _ _ _ _ _ _ _ => none)
    (fun _ ih x0 x1 x2 x3 x8 x9 x10 m =>
      (k1 (mbin E .lss 3 x10 x9) fun u4 => (kb u4 (k1 (mindexAddr E.P 104 x8 x10) fun u5 => (k1 (xload E.P m 76 u5) fun u6 => (k2 (xalloc E.P m 76) fun u7 m => (ks (xstore E.P base m 76 u7 u6) fun m => (k1 (xload E.P m 76 u7) fun u8 => (k1 (xload E.P m 76 x2) fun u9 => (kc (kB m (call m.length 103 [u8, u9] m)) (fun u10 m => (kb u10 (k1 (xload E.P m 76 u7) fun u11 => (k1 (mfieldAddr E.P 106 x1 1) fun u12 => (k1 (xload E.P m 33 u12) fun u13 => (k1 (xload E.P m 3 x3) fun u14 => (k1 (mindexAddr E.P 33 u13 u14) fun u15 => (k1 (xload E.P m 27 u15) fun u16 => (k1 (mindexAddr E.P 27 u16 x10) fun u17 => (k1 (xload E.P m 3 u17) fun u18 => (kc (kv call base x0 [u11, u18] m) (fun u19 m => (k1 (mun .not u19) fun u20 => (kb u20 (kr m) (k1 (mbin E .add 3 x10 (.int .i64 1)) fun u21 => (ih x0 x1 x2 x3 x8 x9 u21 m))))) (fun _ _ => none)))))))))) (k1 (mbin E .add 3 x10 (.int .i64 1)) fun u22 => (ih x0 x1 x2 x3 x8 x9 u22 m)))) (fun _ _ => none)))))))) (kx0 m)))) n
noncomputable def r106 (call : CallF) (fuel base : Nat) (x0 : Value) (x1 : Value) (x2 : Value) (x3 : Value) (m : M) : Res2 :=
  (k1 (mfieldAddr E.P 106 x1 0) fun u1 => (k1 (xload E.P m 104 u1) fun u2 => (k2 (vcall E.P base m .len [104] [u2]) fun u3 m => (r106_L0 call fuel base (fun m => (some (.ret (.tuple #[]), m))) (fun m => (some (.ret (.tuple #[]), m))) fuel x0 x1 x2 x3 u2 u3 (.int .i64 0) m))))
def keep106 : Keep := { region := fun i => ([[0, 1, 2, 3, 8, 9, 10], [0, 1, 2, 3, 8, 9, 10, 11], [0, 1, 2, 3, 5, 6, 8, 9, 10], [0, 1, 2, 3, 8, 9, 10, 31], [0, 1, 2, 3, 8, 9, 10]] : List (List Nat))[i]?, exit := fun i => ([[], [0, 1, 2, 3, 8, 9, 10]] : List (List Nat))[i]?, ret := some [] }
noncomputable def r106_L0_R (call : CallF) (fuel base n : Nat) (vs : List Value) (m : M) (K : KT) : Res2 := match vs with
  | [x0, x1, x2, x3, x8, x9, x10] => r106_L0 call fuel base (fun m => K .ret { n := 33, l := [] } m) (fun m => K (.exit 0) { n := 33, l := [] } m) n x0 x1 x2 x3 x8 x9 x10 m
  | _ => none
noncomputable def lp106 (call : CallF) (fuel base : Nat) : Lp := lpsel [(0, fun T m K => kslots 33 [0, 1, 2, 3, 8, 9, 10] T fun vs => r106_L0_R call fuel base fuel vs m K)]
noncomputable def c106 : Code := Try.f106.body.getD .skip
theorem r106_L0_lk (call : CallF) (fuel base : Nat) : LoopsOk E call (lp106 call fuel base) fuel base 0 (loopB (blockB (seqR c106))) = (And True (And (And True True) (And (And True (And True (And True True))) True))) := by kernel_rfl
theorem r106_L0_ok (call : CallF) (fuel base : Nat) : LpOk E call (lp106 call fuel base) fuel base 0 (loopB (blockB (seqR c106))) := by
  refine loop_ok (kp := keep106) (hb := Eq.mpr (r106_L0_lk call fuel base) (And.intro trivial (And.intro (And.intro trivial trivial) (And.intro (And.intro trivial (And.intro trivial (And.intro trivial trivial))) trivial)))) 33 [0, 1, 2, 3, 8, 9, 10] (fun n vs m K => r106_L0_R call fuel base n vs m K) ?_ ?_ (fun _ _ _ => rfl)
  · intro vs m K
    unfold r106_L0_R
    split <;> rfl
  · intro n vs m K hl
    match vs, hl with
    | [x0, x1, x2, x3, x8, x9, x10], _ => show _ = _; kernel_rfl
theorem r106_eq (call : CallF) (fuel base : Nat) (x0 : Value) (x1 : Value) (x2 : Value) (x3 : Value) (m : M) : kbody E call keep106 (lp106 call fuel base) base Try.f106 [x0, x1, x2, x3] m = r106 call fuel base x0 x1 x2 x3 m := by
  kernel_rfl
noncomputable def rf106 : RF := fun call fuel base args m => match args with
  | [x0, x1, x2, x3] => r106 call fuel base x0 x1 x2 x3 m
  | _ => none
theorem r106_lk (call : CallF) (fuel base : Nat) : LoopsOk E call (lp106 call fuel base) fuel base 0 c106 = (And True (LpOk E call (lp106 call fuel base) fuel base 0 (loopB (blockB (seqR c106))))) := by kernel_rfl
theorem r106_fn : E.P.funcs[106]? = some Try.f106 := by kernel_rfl
theorem r106_body : Try.f106.body = some c106 := by kernel_rfl
theorem rf106_ok : RFok E 106 rf106 := by
  show RFok' E 106 rf106
  refine ⟨Try.f106, r106_fn, fun call fuel base args m r _ h => ?_⟩
  unfold rf106 at h
  split at h
  · rw [← r106_eq] at h
    exact kbody_sound (c := c106) r106_body (Eq.mpr (r106_lk call fuel base) (And.intro trivial (r106_L0_ok call fuel base))) h
  · simp at h
end Go.AM
