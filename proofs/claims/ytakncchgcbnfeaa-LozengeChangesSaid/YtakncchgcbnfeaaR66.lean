import Derived.KernelRfl
import Derived.Laws.BytesArg
import Derived.Laws.StructEq
import Derived.RangeFuncLeaves
import Derived.RangeFuncRecord
import Derived.Test.YtakncchgcbnfeaaProg
import Derived.Test.YtakncchgcbnfeaaRows
import Derived.WalkKit
import Derived.Test.YtakncchgcbnfeaaAmB
import Derived.Test.YtakncchgcbnfeaaAmG
import Derived.Test.YtakncchgcbnfeaaAmModel
import Derived.Test.YtakncchgcbnfeaaAmRel
import Derived.Test.YtakncchgcbnfeaaAmOps6
import Derived.Test.YtakncchgcbnfeaaAmCode
import Derived.Test.YtakncchgcbnfeaaAmDraw5
import Derived.Test.YtakncchgcbnfeaaAmEq
import Derived.Test.YtakncchgcbnfeaaRBase
set_option linter.unusedVariables false
set_option linter.unusedSimpArgs false
set_option linter.unusedSectionVars false
namespace Go.AM
open Go Go.Proofs
noncomputable def r66_L2 (call : CallF) (fuel base : Nat) (kp : Value → M → Res2) (kx2 : Value → Value → Value → Value → Value → M → Res2) (n : Nat) : Value → Value → Value → Value → Value → Value → Value → Value → M → Res2 :=
  Nat.rec (motive := fun _ => Value → Value → Value → Value → Value → Value → Value → Value → M → Res2) (fun _ _ _ _ _ _ _ _ _ => none)
    (fun _ ih x1 x3 x4 x5 x15 x16 x20 x21 m =>
      (k1 (mbin E .lss 3 x21 x20) fun u10 => (kb u10 (k1 (mfieldAddr E.P 79 x1 1) fun u11 => (k1 (mindexAddr E.P 77 u11 x5) fun u12 => (k1 (mindexAddr E.P 76 u12 x21) fun u13 => (k1 (xload E.P m 3 u13) fun u14 => (kc (call base 91 [(.int .i64 0), x5, x21, u14] m) (fun u15 m => (k2 (xbuildSlice E.P m 47 1 [(0, u15)]) fun u16 m => (k2 (vcall E.P base m .append [47, 47] [x4, u16]) fun u17 m => (k1 (mbin E .add 3 x21 (.int .i64 1)) fun u18 => (ih x1 x3 u17 x5 x15 x16 x20 u18 m))))) (fun v m => kp v m)))))) (kx2 x1 x3 x4 x15 x16 m)))) n
noncomputable def r66_L6 (call : CallF) (fuel base : Nat) (kp : Value → M → Res2) (kx6 : Value → Value → Value → Value → Value → M → Res2) (n : Nat) : Value → Value → Value → Value → Value → Value → Value → Value → M → Res2 :=
  Nat.rec (motive := fun _ => Value → Value → Value → Value → Value → Value → Value → Value → M → Res2) (fun _ _ _ _ _ _ _ _ _ => none)
    (fun _ ih x1 x3 x4 x7 x39 x40 x44 x45 m =>
      (k1 (mbin E .lss 3 x45 x44) fun u33 => (kb u33 (k1 (mfieldAddr E.P 79 x1 1) fun u34 => (k1 (mindexAddr E.P 77 u34 x7) fun u35 => (k1 (xload E.P m 76 u35) fun u36 => (kc (call base 89 [u36, x45] m) (fun u37 m => (kc (call base 91 [(.int .i64 1), x7, u37, x45] m) (fun u38 m => (k2 (xbuildSlice E.P m 47 1 [(0, u38)]) fun u39 m => (k2 (vcall E.P base m .append [47, 47] [x4, u39]) fun u40 m => (k1 (mbin E .add 3 x45 (.int .i64 1)) fun u41 => (ih x1 x3 u40 x7 x39 x40 x44 u41 m))))) (fun v m => kp v m))) (fun v m => kp v m))))) (kx6 x1 x3 x4 x39 x40 m)))) n
noncomputable def r66_L10 (call : CallF) (fuel base : Nat) (kp : Value → M → Res2) (kx10 : Value → Value → Value → Value → Value → M → Res2) (n : Nat) : Value → Value → Value → Value → Value → Value → Value → Value → M → Res2 :=
  Nat.rec (motive := fun _ => Value → Value → Value → Value → Value → Value → Value → Value → M → Res2) (fun _ _ _ _ _ _ _ _ _ => none)
    (fun _ ih x3 x4 x9 x10 x66 x67 x71 x72 m =>
      (k1 (mbin E .lss 3 x72 x71) fun u60 => (kb u60 (k1 (mindexAddr E.P 77 x9 x10) fun u61 => (k1 (xload E.P m 76 u61) fun u62 => (kc (call base 89 [u62, x72] m) (fun u63 m => (kc (call base 91 [(.int .i64 2), u63, x10, x72] m) (fun u64 m => (k2 (xbuildSlice E.P m 47 1 [(0, u64)]) fun u65 m => (k2 (vcall E.P base m .append [47, 47] [x4, u65]) fun u66 m => (k1 (mbin E .add 3 x72 (.int .i64 1)) fun u67 => (ih x3 u66 x9 x10 x66 x67 x71 u67 m))))) (fun v m => kp v m))) (fun v m => kp v m)))) (kx10 x3 x4 x9 x66 x67 m)))) n
noncomputable def r66_L0 (call : CallF) (fuel base : Nat) (kp : Value → M → Res2) (kx0 : Value → Value → Value → M → Res2) (n : Nat) : Value → Value → Value → Value → Value → M → Res2 :=
  Nat.rec (motive := fun _ => Value → Value → Value → Value → Value → M → Res2) (fun _ _ _ _ _ _ => none)
    (fun _ ih x1 x3 x4 x15 x16 m =>
      (k1 (mbin E .lss 3 x16 x15) fun u7 => (kb u7 (k1 (mfieldAddr E.P 23 x3 1) fun u8 => (k1 (xload E.P m 3 u8) fun u9 => (r66_L2 call fuel base (fun v m => kp v m) (fun w19 w20 w21 w22 w23 m => (k1 (mbin E .add 3 w23 (.int .i64 1)) fun u24 => (ih w19 w20 w21 w22 u24 m))) fuel x1 x3 x4 x16 x15 x16 u9 (.int .i64 0) m))) (kx0 x1 x3 x4 m)))) n
noncomputable def r66_L4 (call : CallF) (fuel base : Nat) (kp : Value → M → Res2) (kx4 : Value → Value → Value → M → Res2) (n : Nat) : Value → Value → Value → Value → Value → M → Res2 :=
  Nat.rec (motive := fun _ => Value → Value → Value → Value → Value → M → Res2) (fun _ _ _ _ _ _ => none)
    (fun _ ih x1 x3 x4 x39 x40 m =>
      (k1 (mbin E .lss 3 x40 x39) fun u30 => (kb u30 (k1 (mfieldAddr E.P 23 x3 2) fun u31 => (k1 (xload E.P m 3 u31) fun u32 => (r66_L6 call fuel base (fun v m => kp v m) (fun w42 w43 w44 w45 w46 m => (k1 (mbin E .add 3 w46 (.int .i64 1)) fun u47 => (ih w42 w43 w44 w45 u47 m))) fuel x1 x3 x4 x40 x39 x40 u32 (.int .i64 0) m))) (kx4 x1 x3 x4 m)))) n
noncomputable def r66_L8 (call : CallF) (fuel base : Nat) (kp : Value → M → Res2) (kx8 : Value → M → Res2) (n : Nat) : Value → Value → Value → Value → Value → M → Res2 :=
  Nat.rec (motive := fun _ => Value → Value → Value → Value → Value → M → Res2) (fun _ _ _ _ _ _ => none)
    (fun _ ih x3 x4 x9 x66 x67 m =>
      (k1 (mbin E .lss 3 x67 x66) fun u57 => (kb u57 (k1 (mfieldAddr E.P 23 x3 2) fun u58 => (k1 (xload E.P m 3 u58) fun u59 => (r66_L10 call fuel base (fun v m => kp v m) (fun w68 w69 w70 w71 w72 m => (k1 (mbin E .add 3 w72 (.int .i64 1)) fun u73 => (ih w68 w69 w70 w71 u73 m))) fuel x3 x4 x9 x67 x66 x67 u59 (.int .i64 0) m))) (kx8 x4 m)))) n
noncomputable def r66 (call : CallF) (fuel base : Nat) (x0 : Value) (m : M) : Res2 :=
  (k2 (xbox m x0) fun u1 m => (k1 (mfieldAddr E.P 79 u1 0) fun u2 => (k1 (xload E.P m 23 u2) fun u3 => (k2 (xalloc E.P m 23) fun u4 m => (ks (xstore E.P base m 23 u4 u3) fun m => (k1 (mfieldAddr E.P 23 u4 0) fun u5 => (k1 (xload E.P m 3 u5) fun u6 => (r66_L0 call fuel base (fun v m => some (.pan v, m)) (fun w25 w26 w27 m => (k1 (mfieldAddr E.P 23 w26 0) fun u28 => (k1 (xload E.P m 3 u28) fun u29 => (r66_L4 call fuel base (fun v m => some (.pan v, m)) (fun w48 w49 w50 m => (k1 (xload E.P m 79 w48) fun u51 => (kc (call base 63 [u51] m) (fun u52 m => (k1 (mfield E.P 79 u52 1) fun u53 => (k2 (xalloc E.P m 77) fun u54 m => (ks (xstore E.P base m 77 u54 u53) fun m => (k1 (mfieldAddr E.P 23 w49 1) fun u55 => (k1 (xload E.P m 3 u55) fun u56 => (r66_L8 call fuel base (fun v m => some (.pan v, m)) (fun w74 m => (kc (call base 92 [w74, (.func (.func 93) #[] #[])] m) (fun u75 m => (fVal w74 fun v => some (.ret v, m))) (fun v m => some (.pan v, m)))) fuel w49 w50 u54 u56 (.int .i64 0) m))))))) (fun v m => some (.pan v, m))))) fuel w25 w26 w27 u29 (.int .i64 0) m)))) fuel u1 u4 (.slice none 0 0) u6 (.int .i64 0) m))))))))
def keep66 : Keep := { region := fun i => ([[1], [1, 3], [1, 3, 4], [1, 3, 4, 15, 16], [1, 3, 4, 15, 16, 17], [1, 3, 4, 5, 15, 16], [1, 3, 4, 5, 15, 16, 20, 21], [1, 3, 4, 5, 15, 16, 20, 21, 22], [1, 3, 4, 5, 6, 15, 16, 20, 21], [1, 3, 4, 5, 15, 16, 20, 21], [1, 3, 4, 5, 15, 16, 20, 21], [1, 3, 4, 15, 16], [1, 3, 4, 39, 40], [1, 3, 4, 39, 40, 41], [1, 3, 4, 7, 39, 40], [1, 3, 4, 7, 39, 40, 44, 45], [1, 3, 4, 7, 39, 40, 44, 45, 46], [1, 3, 4, 7, 8, 39, 40, 44, 45], [1, 3, 4, 7, 39, 40, 44, 45], [1, 3, 4, 7, 39, 40, 44, 45], [1, 3, 4, 39, 40], [3, 4, 9], [3, 4, 9, 66, 67], [3, 4, 9, 66, 67, 68], [3, 4, 9, 10, 66, 67], [3, 4, 9, 10, 66, 67, 71, 72], [3, 4, 9, 10, 66, 67, 71, 72, 73], [3, 4, 9, 10, 11, 66, 67, 71, 72], [3, 4, 9, 10, 66, 67, 71, 72], [3, 4, 9, 10, 66, 67, 71, 72], [3, 4, 9, 66, 67], [4], [2]] : List (List Nat))[i]?, exit := fun i => ([[1, 3, 4], [1, 3, 4, 15, 16], [1, 3, 4, 15, 16], [1, 3, 4, 5, 15, 16, 20, 21], [1, 3, 4], [1, 3, 4, 39, 40], [1, 3, 4, 39, 40], [1, 3, 4, 7, 39, 40, 44, 45], [4], [3, 4, 9, 66, 67], [3, 4, 9, 66, 67], [3, 4, 9, 10, 66, 67, 71, 72]] : List (List Nat))[i]?, ret := some [2] }
noncomputable def r66_L2_R (call : CallF) (fuel base n : Nat) (vs : List Value) (m : M) (K : KT) : Res2 := match vs with
  | [x1, x3, x4, x5, x15, x16, x20, x21] => r66_L2 call fuel base (fun v m => K (.pan v) { n := 91, l := [] } m) (fun y1 y3 y4 y15 y16 m => K (.exit 2) { n := 91, l := [(1, y1), (3, y3), (4, y4), (15, y15), (16, y16)] } m) n x1 x3 x4 x5 x15 x16 x20 x21 m
  | _ => none
noncomputable def r66_L6_R (call : CallF) (fuel base n : Nat) (vs : List Value) (m : M) (K : KT) : Res2 := match vs with
  | [x1, x3, x4, x7, x39, x40, x44, x45] => r66_L6 call fuel base (fun v m => K (.pan v) { n := 91, l := [] } m) (fun y1 y3 y4 y39 y40 m => K (.exit 6) { n := 91, l := [(1, y1), (3, y3), (4, y4), (39, y39), (40, y40)] } m) n x1 x3 x4 x7 x39 x40 x44 x45 m
  | _ => none
noncomputable def r66_L10_R (call : CallF) (fuel base n : Nat) (vs : List Value) (m : M) (K : KT) : Res2 := match vs with
  | [x3, x4, x9, x10, x66, x67, x71, x72] => r66_L10 call fuel base (fun v m => K (.pan v) { n := 91, l := [] } m) (fun y3 y4 y9 y66 y67 m => K (.exit 10) { n := 91, l := [(3, y3), (4, y4), (9, y9), (66, y66), (67, y67)] } m) n x3 x4 x9 x10 x66 x67 x71 x72 m
  | _ => none
noncomputable def r66_L0_R (call : CallF) (fuel base n : Nat) (vs : List Value) (m : M) (K : KT) : Res2 := match vs with
  | [x1, x3, x4, x15, x16] => r66_L0 call fuel base (fun v m => K (.pan v) { n := 91, l := [] } m) (fun y1 y3 y4 m => K (.exit 0) { n := 91, l := [(1, y1), (3, y3), (4, y4)] } m) n x1 x3 x4 x15 x16 m
  | _ => none
noncomputable def r66_L4_R (call : CallF) (fuel base n : Nat) (vs : List Value) (m : M) (K : KT) : Res2 := match vs with
  | [x1, x3, x4, x39, x40] => r66_L4 call fuel base (fun v m => K (.pan v) { n := 91, l := [] } m) (fun y1 y3 y4 m => K (.exit 4) { n := 91, l := [(1, y1), (3, y3), (4, y4)] } m) n x1 x3 x4 x39 x40 m
  | _ => none
noncomputable def r66_L8_R (call : CallF) (fuel base n : Nat) (vs : List Value) (m : M) (K : KT) : Res2 := match vs with
  | [x3, x4, x9, x66, x67] => r66_L8 call fuel base (fun v m => K (.pan v) { n := 91, l := [] } m) (fun y4 m => K (.exit 8) { n := 91, l := [(4, y4)] } m) n x3 x4 x9 x66 x67 m
  | _ => none
noncomputable def lp66 (call : CallF) (fuel base : Nat) : Lp := lpsel [(2, fun T m K => kslots 91 [1, 3, 4, 5, 15, 16, 20, 21] T fun vs => r66_L2_R call fuel base fuel vs m K), (6, fun T m K => kslots 91 [1, 3, 4, 7, 39, 40, 44, 45] T fun vs => r66_L6_R call fuel base fuel vs m K), (10, fun T m K => kslots 91 [3, 4, 9, 10, 66, 67, 71, 72] T fun vs => r66_L10_R call fuel base fuel vs m K), (0, fun T m K => kslots 91 [1, 3, 4, 15, 16] T fun vs => r66_L0_R call fuel base fuel vs m K), (4, fun T m K => kslots 91 [1, 3, 4, 39, 40] T fun vs => r66_L4_R call fuel base fuel vs m K), (8, fun T m K => kslots 91 [3, 4, 9, 66, 67] T fun vs => r66_L8_R call fuel base fuel vs m K)]
noncomputable def c66 : Code := Try.f66.body.getD .skip
noncomputable def p66_0 : Code := loopB (blockB (seqR (seqL (seqR (seqR (seqR c66))))))
noncomputable def p66_2 : Code := loopB (blockB (seqR (seqR (blockB (seqL (seqR (seqR (loopB (blockB (seqR (seqL (seqR (seqR (seqR c66))))))))))))))
noncomputable def p66_4 : Code := loopB (blockB (seqR (seqL (seqR (seqR (seqR (seqR c66)))))))
noncomputable def p66_6 : Code := loopB (blockB (seqR (seqR (blockB (seqL (seqR (seqR (loopB (blockB (seqR (seqL (seqR (seqR (seqR (seqR c66)))))))))))))))
noncomputable def p66_8 : Code := loopB (blockB (seqR (seqL (seqR (seqR (seqR (seqR (seqR (seqR c66)))))))))
noncomputable def p66_10 : Code := loopB (blockB (seqR (seqR (blockB (seqL (seqR (seqR (loopB (blockB (seqR (seqL (seqR (seqR (seqR (seqR (seqR (seqR c66)))))))))))))))))
theorem r66_L2_ok (call : CallF) (fuel base : Nat) : LQ lp66 call fuel base 2 p66_2 := by
  refine loop_ok (kp := keep66) (hb := Eq.mpr (show _ = (And True (And B2 D2)) by kernel_rfl) ⟨trivial, ⟨q2, e2⟩⟩) 91 [1, 3, 4, 5, 15, 16, 20, 21] (r66_L2_R call fuel base) ?_ ?_ (fun _ _ _ => rfl)
  · intro vs m K
    unfold r66_L2_R
    split <;> rfl
  · intro n vs m K hl
    match vs, hl with
    | [x1, x3, x4, x5, x15, x16, x20, x21], _ => show _ = _; kernel_rfl
theorem r66_L6_ok (call : CallF) (fuel base : Nat) : LQ lp66 call fuel base 6 p66_6 := by
  refine loop_ok (kp := keep66) (hb := Eq.mpr (show _ = (And True (And B2 D2)) by kernel_rfl) ⟨trivial, ⟨q2, e2⟩⟩) 91 [1, 3, 4, 7, 39, 40, 44, 45] (r66_L6_R call fuel base) ?_ ?_ (fun _ _ _ => rfl)
  · intro vs m K
    unfold r66_L6_R
    split <;> rfl
  · intro n vs m K hl
    match vs, hl with
    | [x1, x3, x4, x7, x39, x40, x44, x45], _ => show _ = _; kernel_rfl
theorem r66_L10_ok (call : CallF) (fuel base : Nat) : LQ lp66 call fuel base 10 p66_10 := by
  refine loop_ok (kp := keep66) (hb := Eq.mpr (show _ = (And True (And B2 D2)) by kernel_rfl) ⟨trivial, ⟨q2, e2⟩⟩) 91 [3, 4, 9, 10, 66, 67, 71, 72] (r66_L10_R call fuel base) ?_ ?_ (fun _ _ _ => rfl)
  · intro vs m K
    unfold r66_L10_R
    split <;> rfl
  · intro n vs m K hl
    match vs, hl with
    | [x3, x4, x9, x10, x66, x67, x71, x72], _ => show _ = _; kernel_rfl
theorem r66_L0_ok (call : CallF) (fuel base : Nat) : LQ lp66 call fuel base 0 p66_0 := by
  refine loop_ok (kp := keep66) (hb := Eq.mpr (show _ = (And True (And B2 (And (And True (And True (LQ lp66 call fuel base 2 p66_2))) True))) by kernel_rfl) ⟨trivial, ⟨q2, ⟨⟨trivial, ⟨trivial, (r66_L2_ok call fuel base)⟩⟩, trivial⟩⟩⟩) 91 [1, 3, 4, 15, 16] (r66_L0_R call fuel base) ?_ ?_ (fun _ _ _ => rfl)
  · intro vs m K
    unfold r66_L0_R
    split <;> rfl
  · intro n vs m K hl
    match vs, hl with
    | [x1, x3, x4, x15, x16], _ => show _ = _; kernel_rfl
theorem r66_L4_ok (call : CallF) (fuel base : Nat) : LQ lp66 call fuel base 4 p66_4 := by
  refine loop_ok (kp := keep66) (hb := Eq.mpr (show _ = (And True (And B2 (And (And True (And True (LQ lp66 call fuel base 6 p66_6))) True))) by kernel_rfl) ⟨trivial, ⟨q2, ⟨⟨trivial, ⟨trivial, (r66_L6_ok call fuel base)⟩⟩, trivial⟩⟩⟩) 91 [1, 3, 4, 39, 40] (r66_L4_R call fuel base) ?_ ?_ (fun _ _ _ => rfl)
  · intro vs m K
    unfold r66_L4_R
    split <;> rfl
  · intro n vs m K hl
    match vs, hl with
    | [x1, x3, x4, x39, x40], _ => show _ = _; kernel_rfl
theorem r66_L8_ok (call : CallF) (fuel base : Nat) : LQ lp66 call fuel base 8 p66_8 := by
  refine loop_ok (kp := keep66) (hb := Eq.mpr (show _ = (And True (And B2 (And (And True (And True (LQ lp66 call fuel base 10 p66_10))) True))) by kernel_rfl) ⟨trivial, ⟨q2, ⟨⟨trivial, ⟨trivial, (r66_L10_ok call fuel base)⟩⟩, trivial⟩⟩⟩) 91 [3, 4, 9, 66, 67] (r66_L8_R call fuel base) ?_ ?_ (fun _ _ _ => rfl)
  · intro vs m K
    unfold r66_L8_R
    split <;> rfl
  · intro n vs m K hl
    match vs, hl with
    | [x3, x4, x9, x66, x67], _ => show _ = _; kernel_rfl
theorem r66_eq (call : CallF) (fuel base : Nat) (x0 : Value) (m : M) : kbody E call keep66 (lp66 call fuel base) base Try.f66 [x0] m = r66 call fuel base x0 m := by
  kernel_rfl
noncomputable def rf66 : RF := fun call fuel base args m => match args with
  | [x0] => r66 call fuel base x0 m
  | _ => none
theorem rf66_ok : RFok E 66 rf66 := by
  show RFok' E 66 rf66
  refine ⟨Try.f66, (by kernel_rfl), fun call fuel base args m r _ h => ?_⟩
  unfold rf66 at h
  split at h
  · rw [← r66_eq] at h
    exact kbody_sound (c := c66) (by kernel_rfl) (Eq.mpr (show _ = (And True (And True (And True (And (And True (LQ lp66 call fuel base 0 p66_0)) (And (And True (LQ lp66 call fuel base 4 p66_4)) (And True (And (And True (LQ lp66 call fuel base 8 p66_8)) B3))))))) by kernel_rfl) ⟨trivial, ⟨trivial, ⟨trivial, ⟨⟨trivial, (r66_L0_ok call fuel base)⟩, ⟨⟨trivial, (r66_L4_ok call fuel base)⟩, ⟨trivial, ⟨⟨trivial, (r66_L8_ok call fuel base)⟩, q3⟩⟩⟩⟩⟩⟩⟩) h
  · simp at h
end Go.AM
namespace Go.AM
open Go Go.Proofs
noncomputable def r67_L0 (call : CallF) (fuel base : Nat) (kx0 : Value → M → Res2) (n : Nat) : Value → Value → Value → Value → M → Res2 :=
  Nat.rec (motive := fun _ => Value → Value → Value → Value → M → Res2) (fun _ _ _ _ _ => none)
    (fun _ ih x0 x1 x5 x6 m =>
      (k2 (vcall E.P base m .len [27] [x0]) fun u1 m => (k1 (mbin E .lss 3 x6 u1) fun u2 => (kb u2 (k1 (mindexAddr E.P 27 x0 x6) fun u3 => (k1 (xload E.P m 3 u3) fun u4 => (k1 (mbin E .gtr 3 u4 x1) fun u5 => (kb u5 (k1 (mbin E .add 3 x5 (.int .i64 1)) fun u6 => (k1 (mbin E .add 3 x6 (.int .i64 1)) fun u7 => (ih x0 x1 u6 u7 m))) (k1 (mbin E .add 3 x6 (.int .i64 1)) fun u8 => (ih x0 x1 x5 u8 m)))))) (kx0 x5 m))))) n
noncomputable def r67 (call : CallF) (fuel base : Nat) (x0 : Value) (x1 : Value) (m : M) : Res2 :=
  (r67_L0 call fuel base (fun w9 m => (fVal w9 fun v => some (.ret v, m))) fuel x0 x1 (.int .i64 0) (.int .i64 0) m)
def keep67 : Keep := { region := fun i => ([[0, 1], [0, 1, 5], [0, 1, 5, 6], [0, 1, 5, 6, 10], [0, 1, 5, 6], [0, 1, 5, 6, 18], [0, 1, 5, 6], [4]] : List (List Nat))[i]?, exit := fun i => ([[5], [0, 1, 5, 6]] : List (List Nat))[i]?, ret := some [4] }
noncomputable def r67_L0_R (call : CallF) (fuel base n : Nat) (vs : List Value) (m : M) (K : KT) : Res2 := match vs with
  | [x0, x1, x5, x6] => r67_L0 call fuel base (fun y5 m => K (.exit 0) { n := 22, l := [(5, y5)] } m) n x0 x1 x5 x6 m
  | _ => none
noncomputable def lp67 (call : CallF) (fuel base : Nat) : Lp := lpsel [(0, fun T m K => kslots 22 [0, 1, 5, 6] T fun vs => r67_L0_R call fuel base fuel vs m K)]
noncomputable def c67 : Code := Try.f67.body.getD .skip
noncomputable def p67_0 : Code := loopB (blockB (seqR (seqL (seqR (seqR c67)))))
theorem r67_L0_ok (call : CallF) (fuel base : Nat) : LQ lp67 call fuel base 0 p67_0 := by
  refine loop_ok (kp := keep67) (hb := Eq.mpr (show _ = (And B3 (And B3 True)) by kernel_rfl) ⟨q3, ⟨q3, trivial⟩⟩) 22 [0, 1, 5, 6] (r67_L0_R call fuel base) ?_ ?_ (fun _ _ _ => rfl)
  · intro vs m K
    unfold r67_L0_R
    split <;> rfl
  · intro n vs m K hl
    match vs, hl with
    | [x0, x1, x5, x6], _ => show _ = _; kernel_rfl
theorem r67_eq (call : CallF) (fuel base : Nat) (x0 : Value) (x1 : Value) (m : M) : kbody E call keep67 (lp67 call fuel base) base Try.f67 [x0, x1] m = r67 call fuel base x0 x1 m := by
  kernel_rfl
noncomputable def rf67 : RF := fun call fuel base args m => match args with
  | [x0, x1] => r67 call fuel base x0 x1 m
  | _ => none
theorem rf67_ok : RFok E 67 rf67 := by
  show RFok' E 67 rf67
  refine ⟨Try.f67, (by kernel_rfl), fun call fuel base args m r _ h => ?_⟩
  unfold rf67 at h
  split at h
  · rw [← r67_eq] at h
    exact kbody_sound (c := c67) (by kernel_rfl) (Eq.mpr (show _ = (And True (And True (And (And True (LQ lp67 call fuel base 0 p67_0)) B2))) by kernel_rfl) ⟨trivial, ⟨trivial, ⟨⟨trivial, (r67_L0_ok call fuel base)⟩, q2⟩⟩⟩) h
  · simp at h
end Go.AM
namespace Go.AM
open Go Go.Proofs
noncomputable def r68_L2 (call : CallF) (fuel base : Nat) (kx2 : Value → Value → Value → Value → M → Res2) (n : Nat) : Value → Value → Value → Value → Value → M → Res2 :=
  Nat.rec (motive := fun _ => Value → Value → Value → Value → Value → M → Res2) (fun _ _ _ _ _ _ => none)
    (fun _ ih x1 x2 x5 x6 x7 m =>
      (k1 (mfieldAddr E.P 23 x2 1) fun u13 => (k1 (xload E.P m 3 u13) fun u14 => (k1 (mbin E .lss 3 x7 u14) fun u15 => (kb u15 (k1 (mindexAddr E.P 33 x5 x7) fun u16 => (k1 (xload E.P m 27 u16) fun u17 => (k1 (mindexAddr E.P 33 x1 x6) fun u18 => (k1 (xload E.P m 27 u18) fun u19 => (k1 (mindexAddr E.P 27 u19 x7) fun u20 => (k1 (xload E.P m 3 u20) fun u21 => (k1 (mindexAddr E.P 27 u17 x6) fun u22 => (ks (xstore E.P base m 3 u22 u21) fun m => (k1 (mbin E .add 3 x7 (.int .i64 1)) fun u23 => (ih x1 x2 x5 x6 u23 m)))))))))) (kx2 x1 x2 x5 x6 m)))))) n
noncomputable def r68_L0 (call : CallF) (fuel base : Nat) (kx0 : Value → M → Res2) (n : Nat) : Value → Value → Value → Value → M → Res2 :=
  Nat.rec (motive := fun _ => Value → Value → Value → Value → M → Res2) (fun _ _ _ _ _ => none)
    (fun _ ih x1 x2 x5 x6 m =>
      (k1 (mfieldAddr E.P 23 x2 0) fun u10 => (k1 (xload E.P m 3 u10) fun u11 => (k1 (mbin E .lss 3 x6 u11) fun u12 => (kb u12 (r68_L2 call fuel base (fun w24 w25 w26 w27 m => (k1 (mbin E .add 3 w27 (.int .i64 1)) fun u28 => (ih w24 w25 w26 u28 m))) fuel x1 x2 x5 x6 (.int .i64 0) m) (kx0 x5 m)))))) n
noncomputable def r68 (call : CallF) (fuel base : Nat) (x0 : Value) (x1 : Value) (m : M) : Res2 :=
  (k2 (xbox m x0) fun u1 m => (k1 (mfieldAddr E.P 23 u1 1) fun u2 => (k1 (xload E.P m 3 u2) fun u3 => (k1 (mfieldAddr E.P 23 u1 0) fun u4 => (k1 (xload E.P m 3 u4) fun u5 => (k1 (mfieldAddr E.P 23 u1 2) fun u6 => (k1 (xload E.P m 3 u6) fun u7 => (k1 (mbuild E.P 23 [(0, u3), (1, u5), (2, u7)]) fun u8 => (kc (call base 54 [u8] m) (fun u9 m => (r68_L0 call fuel base (fun w29 m => (fVal w29 fun v => some (.ret v, m))) fuel x1 u1 u9 (.int .i64 0) m)) (fun v m => some (.pan v, m)))))))))))
def keep68 : Keep := { region := fun i => ([[1, 2], [1, 2, 5], [1, 2, 5, 6], [1, 2, 5, 6, 19], [1, 2, 5, 6], [1, 2, 5, 6, 7], [1, 2, 5, 6, 7, 25], [1, 2, 5, 6, 7], [1, 2, 5, 6, 7], [4]] : List (List Nat))[i]?, exit := fun i => ([[5], [1, 2, 5, 6], [1, 2, 5, 6], [1, 2, 5, 6, 7]] : List (List Nat))[i]?, ret := some [4] }
noncomputable def r68_L2_R (call : CallF) (fuel base n : Nat) (vs : List Value) (m : M) (K : KT) : Res2 := match vs with
  | [x1, x2, x5, x6, x7] => r68_L2 call fuel base (fun y1 y2 y5 y6 m => K (.exit 2) { n := 42, l := [(1, y1), (2, y2), (5, y5), (6, y6)] } m) n x1 x2 x5 x6 x7 m
  | _ => none
noncomputable def r68_L0_R (call : CallF) (fuel base n : Nat) (vs : List Value) (m : M) (K : KT) : Res2 := match vs with
  | [x1, x2, x5, x6] => r68_L0 call fuel base (fun y5 m => K (.exit 0) { n := 42, l := [(5, y5)] } m) n x1 x2 x5 x6 m
  | _ => none
noncomputable def lp68 (call : CallF) (fuel base : Nat) : Lp := lpsel [(2, fun T m K => kslots 42 [1, 2, 5, 6, 7] T fun vs => r68_L2_R call fuel base fuel vs m K), (0, fun T m K => kslots 42 [1, 2, 5, 6] T fun vs => r68_L0_R call fuel base fuel vs m K)]
noncomputable def c68 : Code := Try.f68.body.getD .skip
noncomputable def p68_0 : Code := loopB (blockB (seqR (seqL (seqR (seqR c68)))))
noncomputable def p68_2 : Code := loopB (blockB (seqR (blockB (seqL (seqR (loopB (blockB (seqR (seqL (seqR (seqR c68)))))))))))
theorem r68_L2_ok (call : CallF) (fuel base : Nat) : LQ lp68 call fuel base 2 p68_2 := by
  refine loop_ok (kp := keep68) (hb := Eq.mpr (show _ = (And B3 B2) by kernel_rfl) ⟨q3, q2⟩) 42 [1, 2, 5, 6, 7] (r68_L2_R call fuel base) ?_ ?_ (fun _ _ _ => rfl)
  · intro vs m K
    unfold r68_L2_R
    split <;> rfl
  · intro n vs m K hl
    match vs, hl with
    | [x1, x2, x5, x6, x7], _ => show _ = _; kernel_rfl
theorem r68_L0_ok (call : CallF) (fuel base : Nat) : LQ lp68 call fuel base 0 p68_0 := by
  refine loop_ok (kp := keep68) (hb := Eq.mpr (show _ = (And B3 (And (And True (LQ lp68 call fuel base 2 p68_2)) True)) by kernel_rfl) ⟨q3, ⟨⟨trivial, (r68_L2_ok call fuel base)⟩, trivial⟩⟩) 42 [1, 2, 5, 6] (r68_L0_R call fuel base) ?_ ?_ (fun _ _ _ => rfl)
  · intro vs m K
    unfold r68_L0_R
    split <;> rfl
  · intro n vs m K hl
    match vs, hl with
    | [x1, x2, x5, x6], _ => show _ = _; kernel_rfl
theorem r68_eq (call : CallF) (fuel base : Nat) (x0 : Value) (x1 : Value) (m : M) : kbody E call keep68 (lp68 call fuel base) base Try.f68 [x0, x1] m = r68 call fuel base x0 x1 m := by
  kernel_rfl
noncomputable def rf68 : RF := fun call fuel base args m => match args with
  | [x0, x1] => r68 call fuel base x0 x1 m
  | _ => none
theorem rf68_ok : RFok E 68 rf68 := by
  show RFok' E 68 rf68
  refine ⟨Try.f68, (by kernel_rfl), fun call fuel base args m r _ h => ?_⟩
  unfold rf68 at h
  split at h
  · rw [← r68_eq] at h
    exact kbody_sound (c := c68) (by kernel_rfl) (Eq.mpr (show _ = (And True (And True (And (And True (LQ lp68 call fuel base 0 p68_0)) B2))) by kernel_rfl) ⟨trivial, ⟨trivial, ⟨⟨trivial, (r68_L0_ok call fuel base)⟩, q2⟩⟩⟩) h
  · simp at h
end Go.AM
namespace Go.AM
open Go Go.Proofs
noncomputable def r69_L2 (call : CallF) (fuel base : Nat) (kx2 : Value → Value → Value → M → Res2) (n : Nat) : Value → Value → Value → Value → M → Res2 :=
  Nat.rec (motive := fun _ => Value → Value → Value → Value → M → Res2) (fun _ _ _ _ _ => none)
    (fun _ ih x0 x3 x4 x5 m =>
      (k1 (mbin E .gtr 3 x5 (.int .i64 0)) fun u9 => (kb u9 (k1 (mindexAddr E.P 47 x3 x5) fun u10 => (k1 (xload E.P m 69 u10) fun u11 => (k1 (mbin E .sub 3 x5 (.int .i64 1)) fun u12 => (k1 (mindexAddr E.P 47 x3 u12) fun u13 => (k1 (xload E.P m 69 u13) fun u14 => (kc (kB m (call m.length 94 [u11, u14] m)) (fun u15 m => (kb u15 (k1 (mindexAddr E.P 47 x3 x5) fun u16 => (k1 (xload E.P m 69 u16) fun u17 => (k2 (xalloc E.P m 69) fun u18 m => (ks (xstore E.P base m 69 u18 u17) fun m => (k1 (mbin E .sub 3 x5 (.int .i64 1)) fun u19 => (k1 (mindexAddr E.P 47 x3 u19) fun u20 => (k1 (xload E.P m 69 u20) fun u21 => (k1 (mindexAddr E.P 47 x3 x5) fun u22 => (ks (xstore E.P base m 69 u22 u21) fun m => (k1 (mbin E .sub 3 x5 (.int .i64 1)) fun u23 => (k1 (xload E.P m 69 u18) fun u24 => (k1 (mindexAddr E.P 47 x3 u23) fun u25 => (ks (xstore E.P base m 69 u25 u24) fun m => (k1 (mbin E .sub 3 x5 (.int .i64 1)) fun u26 => (ih x0 x3 x4 u26 m))))))))))))))) (kx2 x0 x3 x4 m))) (fun _ _ => none))))))) (kx2 x0 x3 x4 m)))) n
noncomputable def r69_L0 (call : CallF) (fuel base : Nat) (kx0 : Value → M → Res2) (n : Nat) : Value → Value → Value → M → Res2 :=
  Nat.rec (motive := fun _ => Value → Value → Value → M → Res2) (fun _ _ _ _ => none)
    (fun _ ih x0 x3 x4 m =>
      (k2 (vcall E.P base m .len [47] [x0]) fun u1 m => (k1 (mbin E .lss 3 x4 u1) fun u2 => (kb u2 (k1 (mindexAddr E.P 47 x0 x4) fun u3 => (k1 (xload E.P m 69 u3) fun u4 => (k2 (xbuildSlice E.P m 47 1 [(0, u4)]) fun u5 m => (k2 (vcall E.P base m .append [47, 47] [x3, u5]) fun u6 m => (k2 (vcall E.P base m .len [47] [u6]) fun u7 m => (k1 (mbin E .sub 3 u7 (.int .i64 1)) fun u8 => (r69_L2 call fuel base (fun w27 w28 w29 m => (k1 (mbin E .add 3 w29 (.int .i64 1)) fun u30 => (ih w27 w28 u30 m))) fuel x0 u6 x4 u8 m))))))) (kx0 x3 m))))) n
noncomputable def r69 (call : CallF) (fuel base : Nat) (x0 : Value) (m : M) : Res2 :=
  (r69_L0 call fuel base (fun w31 m => (fVal w31 fun v => some (.ret v, m))) fuel x0 (.slice none 0 0) (.int .i64 0) m)
def keep69 : Keep := { region := fun i => ([[0], [0, 3], [0, 3, 4], [0, 3, 4, 10], [0, 3, 4], [0, 3, 4], [0, 3, 4, 5], [0, 3, 4, 5, 36], [0, 3, 4, 5], [0, 3, 4, 5, 6], [0, 3, 4, 5, 6], [0, 3, 4, 5], [2]] : List (List Nat))[i]?, exit := fun i => ([[3], [0, 3, 4], [0, 3, 4], [0, 3, 4, 5]] : List (List Nat))[i]?, ret := some [2] }
noncomputable def r69_L2_R (call : CallF) (fuel base n : Nat) (vs : List Value) (m : M) (K : KT) : Res2 := match vs with
  | [x0, x3, x4, x5] => r69_L2 call fuel base (fun y0 y3 y4 m => K (.exit 2) { n := 57, l := [(0, y0), (3, y3), (4, y4)] } m) n x0 x3 x4 x5 m
  | _ => none
noncomputable def r69_L0_R (call : CallF) (fuel base n : Nat) (vs : List Value) (m : M) (K : KT) : Res2 := match vs with
  | [x0, x3, x4] => r69_L0 call fuel base (fun y3 m => K (.exit 0) { n := 57, l := [(3, y3)] } m) n x0 x3 x4 m
  | _ => none
noncomputable def lp69 (call : CallF) (fuel base : Nat) : Lp := lpsel [(2, fun T m K => kslots 57 [0, 3, 4, 5] T fun vs => r69_L2_R call fuel base fuel vs m K), (0, fun T m K => kslots 57 [0, 3, 4] T fun vs => r69_L0_R call fuel base fuel vs m K)]
noncomputable def c69 : Code := Try.f69.body.getD .skip
noncomputable def p69_0 : Code := loopB (blockB (seqR (seqL (seqR (seqR c69)))))
noncomputable def p69_2 : Code := loopB (blockB (seqR (seqR (blockB (seqL (seqR (loopB (blockB (seqR (seqL (seqR (seqR c69))))))))))))
theorem r69_L2_ok (call : CallF) (fuel base : Nat) : LQ lp69 call fuel base 2 p69_2 := by
  refine loop_ok (kp := keep69) (hb := Eq.mpr (show _ = (And B3 (And B3 True)) by kernel_rfl) ⟨q3, ⟨q3, trivial⟩⟩) 57 [0, 3, 4, 5] (r69_L2_R call fuel base) ?_ ?_ (fun _ _ _ => rfl)
  · intro vs m K
    unfold r69_L2_R
    split <;> rfl
  · intro n vs m K hl
    match vs, hl with
    | [x0, x3, x4, x5], _ => show _ = _; kernel_rfl
theorem r69_L0_ok (call : CallF) (fuel base : Nat) : LQ lp69 call fuel base 0 p69_0 := by
  refine loop_ok (kp := keep69) (hb := Eq.mpr (show _ = (And B3 (And (And True (And True (LQ lp69 call fuel base 2 p69_2))) True)) by kernel_rfl) ⟨q3, ⟨⟨trivial, ⟨trivial, (r69_L2_ok call fuel base)⟩⟩, trivial⟩⟩) 57 [0, 3, 4] (r69_L0_R call fuel base) ?_ ?_ (fun _ _ _ => rfl)
  · intro vs m K
    unfold r69_L0_R
    split <;> rfl
  · intro n vs m K hl
    match vs, hl with
    | [x0, x3, x4], _ => show _ = _; kernel_rfl
theorem r69_eq (call : CallF) (fuel base : Nat) (x0 : Value) (m : M) : kbody E call keep69 (lp69 call fuel base) base Try.f69 [x0] m = r69 call fuel base x0 m := by
  kernel_rfl
noncomputable def rf69 : RF := fun call fuel base args m => match args with
  | [x0] => r69 call fuel base x0 m
  | _ => none
theorem rf69_ok : RFok E 69 rf69 := by
  show RFok' E 69 rf69
  refine ⟨Try.f69, (by kernel_rfl), fun call fuel base args m r _ h => ?_⟩
  unfold rf69 at h
  split at h
  · rw [← r69_eq] at h
    exact kbody_sound (c := c69) (by kernel_rfl) (Eq.mpr (show _ = (And True (And True (And (And True (LQ lp69 call fuel base 0 p69_0)) B2))) by kernel_rfl) ⟨trivial, ⟨trivial, ⟨⟨trivial, (r69_L0_ok call fuel base)⟩, q2⟩⟩⟩) h
  · simp at h
end Go.AM
namespace Go.AM
open Go Go.Proofs
noncomputable def r70_L2 (call : CallF) (fuel base : Nat) (kx2 : Value → Value → Value → Value → M → Res2) (n : Nat) : Value → Value → Value → Value → Value → M → Res2 :=
  Nat.rec (motive := fun _ => Value → Value → Value → Value → Value → M → Res2) (fun _ _ _ _ _ _ => none)
    (fun _ ih x1 x2 x5 x6 x7 m =>
      (k1 (mfieldAddr E.P 23 x2 1) fun u7 => (k1 (xload E.P m 3 u7) fun u8 => (k1 (mbin E .lss 3 x7 u8) fun u9 => (kb u9 (k1 (mindexAddr E.P 33 x5 x6) fun u10 => (k1 (xload E.P m 27 u10) fun u11 => (k1 (mfieldAddr E.P 23 x2 2) fun u12 => (k1 (xload E.P m 3 u12) fun u13 => (k1 (mfieldAddr E.P 23 x2 0) fun u14 => (k1 (xload E.P m 3 u14) fun u15 => (k1 (mbin E .sub 3 u15 (.int .i64 1)) fun u16 => (k1 (mbin E .sub 3 u16 x6) fun u17 => (k1 (mindexAddr E.P 33 x1 u17) fun u18 => (k1 (xload E.P m 27 u18) fun u19 => (k1 (mfieldAddr E.P 23 x2 1) fun u20 => (k1 (xload E.P m 3 u20) fun u21 => (k1 (mbin E .sub 3 u21 (.int .i64 1)) fun u22 => (k1 (mbin E .sub 3 u22 x7) fun u23 => (k1 (mindexAddr E.P 27 u19 u23) fun u24 => (k1 (xload E.P m 3 u24) fun u25 => (k1 (mbin E .sub 3 u13 u25) fun u26 => (k1 (mindexAddr E.P 27 u11 x7) fun u27 => (ks (xstore E.P base m 3 u27 u26) fun m => (k1 (mbin E .add 3 x7 (.int .i64 1)) fun u28 => (ih x1 x2 x5 x6 u28 m))))))))))))))))))))) (kx2 x1 x2 x5 x6 m)))))) n
noncomputable def r70_L0 (call : CallF) (fuel base : Nat) (kx0 : Value → M → Res2) (n : Nat) : Value → Value → Value → Value → M → Res2 :=
  Nat.rec (motive := fun _ => Value → Value → Value → Value → M → Res2) (fun _ _ _ _ _ => none)
    (fun _ ih x1 x2 x5 x6 m =>
      (k1 (mfieldAddr E.P 23 x2 0) fun u4 => (k1 (xload E.P m 3 u4) fun u5 => (k1 (mbin E .lss 3 x6 u5) fun u6 => (kb u6 (r70_L2 call fuel base (fun w29 w30 w31 w32 m => (k1 (mbin E .add 3 w32 (.int .i64 1)) fun u33 => (ih w29 w30 w31 u33 m))) fuel x1 x2 x5 x6 (.int .i64 0) m) (kx0 x5 m)))))) n
noncomputable def r70 (call : CallF) (fuel base : Nat) (x0 : Value) (x1 : Value) (m : M) : Res2 :=
  (k2 (xbox m x0) fun u1 m => (k1 (xload E.P m 23 u1) fun u2 => (kc (call base 54 [u2] m) (fun u3 m => (r70_L0 call fuel base (fun w34 m => (fVal w34 fun v => some (.ret v, m))) fuel x1 u1 u3 (.int .i64 0) m)) (fun v m => some (.pan v, m)))))
def keep70 : Keep := { region := fun i => ([[1, 2], [1, 2, 5], [1, 2, 5, 6], [1, 2, 5, 6, 13], [1, 2, 5, 6], [1, 2, 5, 6, 7], [1, 2, 5, 6, 7, 19], [1, 2, 5, 6, 7], [1, 2, 5, 6, 7], [4]] : List (List Nat))[i]?, exit := fun i => ([[5], [1, 2, 5, 6], [1, 2, 5, 6], [1, 2, 5, 6, 7]] : List (List Nat))[i]?, ret := some [4] }
noncomputable def r70_L2_R (call : CallF) (fuel base n : Nat) (vs : List Value) (m : M) (K : KT) : Res2 := match vs with
  | [x1, x2, x5, x6, x7] => r70_L2 call fuel base (fun y1 y2 y5 y6 m => K (.exit 2) { n := 47, l := [(1, y1), (2, y2), (5, y5), (6, y6)] } m) n x1 x2 x5 x6 x7 m
  | _ => none
noncomputable def r70_L0_R (call : CallF) (fuel base n : Nat) (vs : List Value) (m : M) (K : KT) : Res2 := match vs with
  | [x1, x2, x5, x6] => r70_L0 call fuel base (fun y5 m => K (.exit 0) { n := 47, l := [(5, y5)] } m) n x1 x2 x5 x6 m
  | _ => none
noncomputable def lp70 (call : CallF) (fuel base : Nat) : Lp := lpsel [(2, fun T m K => kslots 47 [1, 2, 5, 6, 7] T fun vs => r70_L2_R call fuel base fuel vs m K), (0, fun T m K => kslots 47 [1, 2, 5, 6] T fun vs => r70_L0_R call fuel base fuel vs m K)]
noncomputable def c70 : Code := Try.f70.body.getD .skip
noncomputable def p70_0 : Code := loopB (blockB (seqR (seqL (seqR (seqR c70)))))
noncomputable def p70_2 : Code := loopB (blockB (seqR (blockB (seqL (seqR (loopB (blockB (seqR (seqL (seqR (seqR c70)))))))))))
theorem r70_L2_ok (call : CallF) (fuel base : Nat) : LQ lp70 call fuel base 2 p70_2 := by
  refine loop_ok (kp := keep70) (hb := Eq.mpr (show _ = (And B3 B2) by kernel_rfl) ⟨q3, q2⟩) 47 [1, 2, 5, 6, 7] (r70_L2_R call fuel base) ?_ ?_ (fun _ _ _ => rfl)
  · intro vs m K
    unfold r70_L2_R
    split <;> rfl
  · intro n vs m K hl
    match vs, hl with
    | [x1, x2, x5, x6, x7], _ => show _ = _; kernel_rfl
theorem r70_L0_ok (call : CallF) (fuel base : Nat) : LQ lp70 call fuel base 0 p70_0 := by
  refine loop_ok (kp := keep70) (hb := Eq.mpr (show _ = (And B3 (And (And True (LQ lp70 call fuel base 2 p70_2)) True)) by kernel_rfl) ⟨q3, ⟨⟨trivial, (r70_L2_ok call fuel base)⟩, trivial⟩⟩) 47 [1, 2, 5, 6] (r70_L0_R call fuel base) ?_ ?_ (fun _ _ _ => rfl)
  · intro vs m K
    unfold r70_L0_R
    split <;> rfl
  · intro n vs m K hl
    match vs, hl with
    | [x1, x2, x5, x6], _ => show _ = _; kernel_rfl
theorem r70_eq (call : CallF) (fuel base : Nat) (x0 : Value) (x1 : Value) (m : M) : kbody E call keep70 (lp70 call fuel base) base Try.f70 [x0, x1] m = r70 call fuel base x0 x1 m := by
  kernel_rfl
noncomputable def rf70 : RF := fun call fuel base args m => match args with
  | [x0, x1] => r70 call fuel base x0 x1 m
  | _ => none
theorem rf70_ok : RFok E 70 rf70 := by
  show RFok' E 70 rf70
  refine ⟨Try.f70, (by kernel_rfl), fun call fuel base args m r _ h => ?_⟩
  unfold rf70 at h
  split at h
  · rw [← r70_eq] at h
    exact kbody_sound (c := c70) (by kernel_rfl) (Eq.mpr (show _ = (And True (And True (And (And True (LQ lp70 call fuel base 0 p70_0)) B2))) by kernel_rfl) ⟨trivial, ⟨trivial, ⟨⟨trivial, (r70_L0_ok call fuel base)⟩, q2⟩⟩⟩) h
  · simp at h
end Go.AM
namespace Go.AM
open Go Go.Proofs
noncomputable def r71_L2 (call : CallF) (fuel base : Nat) (kx2 : Value → Value → Value → Value → M → Res2) (n : Nat) : Value → Value → Value → Value → Value → M → Res2 :=
  Nat.rec (motive := fun _ => Value → Value → Value → Value → Value → M → Res2) (fun _ _ _ _ _ _ => none)
    (fun _ ih x1 x2 x5 x6 x7 m =>
      (k1 (mfieldAddr E.P 23 x2 0) fun u13 => (k1 (xload E.P m 3 u13) fun u14 => (k1 (mbin E .lss 3 x7 u14) fun u15 => (kb u15 (k1 (mindexAddr E.P 33 x5 x6) fun u16 => (k1 (xload E.P m 27 u16) fun u17 => (k1 (mindexAddr E.P 33 x1 x7) fun u18 => (k1 (xload E.P m 27 u18) fun u19 => (kc (kB m (call m.length 67 [u19, x6] m)) (fun u20 m => (k1 (mindexAddr E.P 27 u17 x7) fun u21 => (ks (xstore E.P base m 3 u21 u20) fun m => (k1 (mbin E .add 3 x7 (.int .i64 1)) fun u22 => (ih x1 x2 x5 x6 u22 m))))) (fun _ _ => none)))))) (kx2 x1 x2 x5 x6 m)))))) n
noncomputable def r71_L0 (call : CallF) (fuel base : Nat) (kx0 : Value → M → Res2) (n : Nat) : Value → Value → Value → Value → M → Res2 :=
  Nat.rec (motive := fun _ => Value → Value → Value → Value → M → Res2) (fun _ _ _ _ _ => none)
    (fun _ ih x1 x2 x5 x6 m =>
      (k1 (mfieldAddr E.P 23 x2 2) fun u10 => (k1 (xload E.P m 3 u10) fun u11 => (k1 (mbin E .lss 3 x6 u11) fun u12 => (kb u12 (r71_L2 call fuel base (fun w23 w24 w25 w26 m => (k1 (mbin E .add 3 w26 (.int .i64 1)) fun u27 => (ih w23 w24 w25 u27 m))) fuel x1 x2 x5 x6 (.int .i64 0) m) (kx0 x5 m)))))) n
noncomputable def r71 (call : CallF) (fuel base : Nat) (x0 : Value) (x1 : Value) (m : M) : Res2 :=
  (k2 (xbox m x0) fun u1 m => (k1 (mfieldAddr E.P 23 u1 2) fun u2 => (k1 (xload E.P m 3 u2) fun u3 => (k1 (mfieldAddr E.P 23 u1 0) fun u4 => (k1 (xload E.P m 3 u4) fun u5 => (k1 (mfieldAddr E.P 23 u1 1) fun u6 => (k1 (xload E.P m 3 u6) fun u7 => (k1 (mbuild E.P 23 [(0, u3), (1, u5), (2, u7)]) fun u8 => (kc (call base 54 [u8] m) (fun u9 m => (r71_L0 call fuel base (fun w28 m => (fVal w28 fun v => some (.ret v, m))) fuel x1 u1 u9 (.int .i64 0) m)) (fun v m => some (.pan v, m)))))))))))
def keep71 : Keep := { region := fun i => ([[1, 2], [1, 2, 5], [1, 2, 5, 6], [1, 2, 5, 6, 19], [1, 2, 5, 6], [1, 2, 5, 6, 7], [1, 2, 5, 6, 7, 25], [1, 2, 5, 6, 7], [1, 2, 5, 6, 7], [4]] : List (List Nat))[i]?, exit := fun i => ([[5], [1, 2, 5, 6], [1, 2, 5, 6], [1, 2, 5, 6, 7]] : List (List Nat))[i]?, ret := some [4] }
noncomputable def r71_L2_R (call : CallF) (fuel base n : Nat) (vs : List Value) (m : M) (K : KT) : Res2 := match vs with
  | [x1, x2, x5, x6, x7] => r71_L2 call fuel base (fun y1 y2 y5 y6 m => K (.exit 2) { n := 41, l := [(1, y1), (2, y2), (5, y5), (6, y6)] } m) n x1 x2 x5 x6 x7 m
  | _ => none
noncomputable def r71_L0_R (call : CallF) (fuel base n : Nat) (vs : List Value) (m : M) (K : KT) : Res2 := match vs with
  | [x1, x2, x5, x6] => r71_L0 call fuel base (fun y5 m => K (.exit 0) { n := 41, l := [(5, y5)] } m) n x1 x2 x5 x6 m
  | _ => none
noncomputable def lp71 (call : CallF) (fuel base : Nat) : Lp := lpsel [(2, fun T m K => kslots 41 [1, 2, 5, 6, 7] T fun vs => r71_L2_R call fuel base fuel vs m K), (0, fun T m K => kslots 41 [1, 2, 5, 6] T fun vs => r71_L0_R call fuel base fuel vs m K)]
noncomputable def c71 : Code := Try.f71.body.getD .skip
noncomputable def p71_0 : Code := loopB (blockB (seqR (seqL (seqR (seqR c71)))))
noncomputable def p71_2 : Code := loopB (blockB (seqR (blockB (seqL (seqR (loopB (blockB (seqR (seqL (seqR (seqR c71)))))))))))
theorem r71_L2_ok (call : CallF) (fuel base : Nat) : LQ lp71 call fuel base 2 p71_2 := by
  refine loop_ok (kp := keep71) (hb := Eq.mpr (show _ = (And B3 B2) by kernel_rfl) ⟨q3, q2⟩) 41 [1, 2, 5, 6, 7] (r71_L2_R call fuel base) ?_ ?_ (fun _ _ _ => rfl)
  · intro vs m K
    unfold r71_L2_R
    split <;> rfl
  · intro n vs m K hl
    match vs, hl with
    | [x1, x2, x5, x6, x7], _ => show _ = _; kernel_rfl
theorem r71_L0_ok (call : CallF) (fuel base : Nat) : LQ lp71 call fuel base 0 p71_0 := by
  refine loop_ok (kp := keep71) (hb := Eq.mpr (show _ = (And B3 (And (And True (LQ lp71 call fuel base 2 p71_2)) True)) by kernel_rfl) ⟨q3, ⟨⟨trivial, (r71_L2_ok call fuel base)⟩, trivial⟩⟩) 41 [1, 2, 5, 6] (r71_L0_R call fuel base) ?_ ?_ (fun _ _ _ => rfl)
  · intro vs m K
    unfold r71_L0_R
    split <;> rfl
  · intro n vs m K hl
    match vs, hl with
    | [x1, x2, x5, x6], _ => show _ = _; kernel_rfl
theorem r71_eq (call : CallF) (fuel base : Nat) (x0 : Value) (x1 : Value) (m : M) : kbody E call keep71 (lp71 call fuel base) base Try.f71 [x0, x1] m = r71 call fuel base x0 x1 m := by
  kernel_rfl
noncomputable def rf71 : RF := fun call fuel base args m => match args with
  | [x0, x1] => r71 call fuel base x0 x1 m
  | _ => none
theorem rf71_ok : RFok E 71 rf71 := by
  show RFok' E 71 rf71
  refine ⟨Try.f71, (by kernel_rfl), fun call fuel base args m r _ h => ?_⟩
  unfold rf71 at h
  split at h
  · rw [← r71_eq] at h
    exact kbody_sound (c := c71) (by kernel_rfl) (Eq.mpr (show _ = (And True (And True (And (And True (LQ lp71 call fuel base 0 p71_0)) B2))) by kernel_rfl) ⟨trivial, ⟨trivial, ⟨⟨trivial, (r71_L0_ok call fuel base)⟩, q2⟩⟩⟩) h
  · simp at h
end Go.AM
namespace Go.AM
open Go Go.Proofs
noncomputable def r74 (call : CallF) (fuel base : Nat) (x0 : Value) (x1 : Value) (x2 : Value) (x3 : Value) (m : M) : Res2 :=
  (k2 (xbox m x0) fun u1 m => (k1 (mfieldAddr E.P 23 u1 2) fun u2 => (k1 (xload E.P m 3 u2) fun u3 => (k1 (mbin E .gtr 3 x3 (.int .i64 0)) fun u4 => (kb u4 (k1 (mindexAddr E.P 33 x1 x2) fun u5 => (k1 (xload E.P m 27 u5) fun u6 => (k1 (mbin E .sub 3 x3 (.int .i64 1)) fun u7 => (k1 (mindexAddr E.P 27 u6 u7) fun u8 => (k1 (xload E.P m 3 u8) fun u9 => (k2 (vcall E.P base m .min [3, 3] [u3, u9]) fun u10 m => (k1 (mbin E .gtr 3 x2 (.int .i64 0)) fun u11 => (kb u11 (k1 (mbin E .sub 3 x2 (.int .i64 1)) fun u12 => (k1 (mindexAddr E.P 33 x1 u12) fun u13 => (k1 (xload E.P m 27 u13) fun u14 => (k1 (mindexAddr E.P 27 u14 x3) fun u15 => (k1 (xload E.P m 3 u15) fun u16 => (k2 (vcall E.P base m .min [3, 3] [u10, u16]) fun u17 m => (fVal u17 fun v => some (.ret v, m)))))))) (fVal u10 fun v => some (.ret v, m)))))))))) (k1 (mbin E .gtr 3 x2 (.int .i64 0)) fun u18 => (kb u18 (k1 (mbin E .sub 3 x2 (.int .i64 1)) fun u19 => (k1 (mindexAddr E.P 33 x1 u19) fun u20 => (k1 (xload E.P m 27 u20) fun u21 => (k1 (mindexAddr E.P 27 u21 x3) fun u22 => (k1 (xload E.P m 3 u22) fun u23 => (k2 (vcall E.P base m .min [3, 3] [u3, u23]) fun u24 m => (fVal u24 fun v => some (.ret v, m)))))))) (fVal u3 fun v => some (.ret v, m)))))))))
def keep74 : Keep := { region := fun i => ([[1, 2, 3, 4], [1, 2, 3, 9], [1, 2, 3, 9, 13], [1, 2, 3, 9], [1, 2, 3, 9, 25], [9], [8]] : List (List Nat))[i]?, exit := fun i => ([] : List (List Nat))[i]?, ret := some [8] }
noncomputable def lp74 (call : CallF) (fuel base : Nat) : Lp := lpsel []
noncomputable def c74 : Code := Try.f74.body.getD .skip
theorem r74_eq (call : CallF) (fuel base : Nat) (x0 : Value) (x1 : Value) (x2 : Value) (x3 : Value) (m : M) : kbody E call keep74 (lp74 call fuel base) base Try.f74 [x0, x1, x2, x3] m = r74 call fuel base x0 x1 x2 x3 m := by
  kernel_rfl
noncomputable def rf74 : RF := fun call fuel base args m => match args with
  | [x0, x1, x2, x3] => r74 call fuel base x0 x1 x2 x3 m
  | _ => none
theorem rf74_ok : RFok E 74 rf74 := by
  show RFok' E 74 rf74
  refine ⟨Try.f74, (by kernel_rfl), fun call fuel base args m r _ h => ?_⟩
  unfold rf74 at h
  split at h
  · rw [← r74_eq] at h
    exact kbody_sound (c := c74) (by kernel_rfl) (Eq.mpr (show _ = (And True (And True (And B3 (And B3 B2)))) by kernel_rfl) ⟨trivial, ⟨trivial, ⟨q3, ⟨q3, q2⟩⟩⟩⟩) h
  · simp at h
end Go.AM
namespace Go.AM
open Go Go.Proofs
noncomputable def r75 (call : CallF) (fuel base : Nat) (x0 : Value) (m : M) : Res2 :=
  (k1 (mbin E .leq 3 (.int .i64 1) x0) fun u1 => (kb u1 (k1 (mbin E .leq 3 x0 (.int .i64 4)) fun u2 => (fVal u2 fun v => some (.ret v, m))) (fVal (.bool false) fun v => some (.ret v, m))))
def keep75 : Keep := { region := fun i => ([[0], [2]] : List (List Nat))[i]?, exit := fun i => ([] : List (List Nat))[i]?, ret := some [2] }
noncomputable def lp75 (call : CallF) (fuel base : Nat) : Lp := lpsel []
noncomputable def c75 : Code := Try.f75.body.getD .skip
theorem r75_eq (call : CallF) (fuel base : Nat) (x0 : Value) (m : M) : kbody E call keep75 (lp75 call fuel base) base Try.f75 [x0] m = r75 call fuel base x0 m := by
  kernel_rfl
noncomputable def rf75 : RF := fun call fuel base args m => match args with
  | [x0] => r75 call fuel base x0 m
  | _ => none
theorem rf75_ok : RFok E 75 rf75 := by
  show RFok' E 75 rf75
  refine ⟨Try.f75, (by kernel_rfl), fun call fuel base args m r _ h => ?_⟩
  unfold rf75 at h
  split at h
  · rw [← r75_eq] at h
    exact kbody_sound (c := c75) (by kernel_rfl) (Eq.mpr (show _ = B3 by kernel_rfl) q3) h
  · simp at h
end Go.AM
namespace Go.AM
open Go Go.Proofs
noncomputable def r76_L0 (call : CallF) (fuel base : Nat) (kx0 : Value → M → Res2) (n : Nat) : Value → Value → Value → Value → M → Res2 :=
  Nat.rec (motive := fun _ => Value → Value → Value → Value → M → Res2) (fun _ _ _ _ _ => none)
    (fun _ ih x0 x5 x14 x15 m =>
      (k1 (mbin E .lss 3 x15 x14) fun u3 => (kb u3 (k1 (mbin E .sub 3 x0 x15) fun u4 => (k1 (mbin E .mul 3 x5 u4) fun u5 => (k1 (mbin E .add 3 x15 (.int .i64 1)) fun u6 => (k1 (mbin E .quo 3 u5 u6) fun u7 => (k1 (mbin E .add 3 x15 (.int .i64 1)) fun u8 => (ih x0 u7 x14 u8 m)))))) (kx0 x5 m)))) n
noncomputable def r76 (call : CallF) (fuel base : Nat) (x0 : Value) (x1 : Value) (m : M) : Res2 :=
  (k1 (mbin E .lss 3 x1 (.int .i64 0)) fun u1 => (kb u1 (fVal (.int .i64 0) fun v => some (.ret v, m)) (k1 (mbin E .gtr 3 x1 x0) fun u2 => (kb u2 (fVal (.int .i64 0) fun v => some (.ret v, m)) (r76_L0 call fuel base (fun w9 m => (fVal w9 fun v => some (.ret v, m))) fuel x0 (.int .i64 1) x1 (.int .i64 0) m)))))
def keep76 : Keep := { region := fun i => ([[0, 1], [0, 1, 13], [4], [0, 1, 5], [0, 5, 14, 15], [0, 5, 14, 15, 16], [0, 5, 6, 14, 15], [0, 5, 14, 15], [0, 5, 14, 15], [4]] : List (List Nat))[i]?, exit := fun i => ([[5], [0, 5, 14, 15]] : List (List Nat))[i]?, ret := some [4] }
noncomputable def r76_L0_R (call : CallF) (fuel base n : Nat) (vs : List Value) (m : M) (K : KT) : Res2 := match vs with
  | [x0, x5, x14, x15] => r76_L0 call fuel base (fun y5 m => K (.exit 0) { n := 28, l := [(5, y5)] } m) n x0 x5 x14 x15 m
  | _ => none
noncomputable def lp76 (call : CallF) (fuel base : Nat) : Lp := lpsel [(0, fun T m K => kslots 28 [0, 5, 14, 15] T fun vs => r76_L0_R call fuel base fuel vs m K)]
noncomputable def c76 : Code := Try.f76.body.getD .skip
noncomputable def p76_0 : Code := loopB (blockB (seqR (seqL (seqR (seqR (seqR c76))))))
theorem r76_L0_ok (call : CallF) (fuel base : Nat) : LQ lp76 call fuel base 0 p76_0 := by
  refine loop_ok (kp := keep76) (hb := Eq.mpr (show _ = (And True (And B2 D2)) by kernel_rfl) ⟨trivial, ⟨q2, e2⟩⟩) 28 [0, 5, 14, 15] (r76_L0_R call fuel base) ?_ ?_ (fun _ _ _ => rfl)
  · intro vs m K
    unfold r76_L0_R
    split <;> rfl
  · intro n vs m K hl
    match vs, hl with
    | [x0, x5, x14, x15], _ => show _ = _; kernel_rfl
theorem r76_eq (call : CallF) (fuel base : Nat) (x0 : Value) (x1 : Value) (m : M) : kbody E call keep76 (lp76 call fuel base) base Try.f76 [x0, x1] m = r76 call fuel base x0 x1 m := by
  kernel_rfl
noncomputable def rf76 : RF := fun call fuel base args m => match args with
  | [x0, x1] => r76 call fuel base x0 x1 m
  | _ => none
theorem rf76_ok : RFok E 76 rf76 := by
  show RFok' E 76 rf76
  refine ⟨Try.f76, (by kernel_rfl), fun call fuel base args m r _ h => ?_⟩
  unfold rf76 at h
  split at h
  · rw [← r76_eq] at h
    exact kbody_sound (c := c76) (by kernel_rfl) (Eq.mpr (show _ = (And True (And D3 (And True (And (And True (LQ lp76 call fuel base 0 p76_0)) B2)))) by kernel_rfl) ⟨trivial, ⟨e3, ⟨trivial, ⟨⟨trivial, (r76_L0_ok call fuel base)⟩, q2⟩⟩⟩⟩) h
  · simp at h
end Go.AM
namespace Go.AM
open Go Go.Proofs
noncomputable def r77_L0 (call : CallF) (fuel base : Nat) (kp : Value → M → Res2) (kr : Value → M → Res2) (kx0 : Value → Value → Value → M → Res2) (n : Nat) : Value → Value → Value → Value → Value → Value → M → Res2 :=
  Nat.rec (motive := fun _ => Value → Value → Value → Value → Value → Value → M → Res2) (fun _ _ _ _ _ _ _ => none)
    (fun _ ih x0 x3 x4 x5 x10 x11 m =>
      (k1 (mbin E .lss 3 x11 x10) fun u4 => (kb u4 (kc (call base 98 [x0, x11] m) (fun u5 m => (k1 (mbin E .lss 3 u5 (.int .i64 0)) fun u6 => (kb u6 (kr (.int .i64 0) m) (k1 (mbin E .neq 3 u5 x11) fun u7 => (kb u7 (k1 (mindexAddr E.P 33 x0 u5) fun u8 => (k1 (xload E.P m 27 u8) fun u9 => (k1 (mindexAddr E.P 33 x0 x11) fun u10 => (k1 (xload E.P m 27 u10) fun u11 => (k1 (mindexAddr E.P 33 x0 x11) fun u12 => (ks (xstore E.P base m 27 u12 u9) fun m => (k1 (mindexAddr E.P 33 x0 u5) fun u13 => (ks (xstore E.P base m 27 u13 u11) fun m => (k1 (mun .not x5) fun u14 => (k1 (xload E.P m 120 x3) fun u15 => (kc (call base 99 [x0, x11, x4, u15] m) (fun u16 m => (k1 (mindexAddr E.P 33 x0 x11) fun u17 => (k1 (xload E.P m 27 u17) fun u18 => (k1 (mindexAddr E.P 27 u18 x11) fun u19 => (k1 (xload E.P m 3 u19) fun u20 => (k1 (mbin E .add 3 x11 (.int .i64 1)) fun u21 => (ih x0 x3 u20 u14 x10 u21 m))))))) (fun v m => kp v m)))))))))))) (k1 (xload E.P m 120 x3) fun u22 => (kc (call base 99 [x0, x11, x4, u22] m) (fun u23 m => (k1 (mindexAddr E.P 33 x0 x11) fun u24 => (k1 (xload E.P m 27 u24) fun u25 => (k1 (mindexAddr E.P 27 u25 x11) fun u26 => (k1 (xload E.P m 3 u26) fun u27 => (k1 (mbin E .add 3 x11 (.int .i64 1)) fun u28 => (ih x0 x3 u27 x5 x10 u28 m))))))) (fun v m => kp v m)))))))) (fun v m => kp v m)) (kx0 x3 x4 x5 m)))) n
noncomputable def r77 (call : CallF) (fuel base : Nat) (x0 : Value) (m : M) : Res2 :=
  (kc (call base 97 [] m) (fun u1 m => (k2 (xalloc E.P m 120) fun u2 m => (ks (xstore E.P base m 120 u2 u1) fun m => (k2 (vcall E.P base m .len [33] [x0]) fun u3 m => (r77_L0 call fuel base (fun v m => some (.pan v, m)) (fun w29 m => (fVal w29 fun v => some (.ret v, m))) (fun w30 w31 w32 m => (kb w32 (k1 (mfieldAddr E.P 120 w30 1) fun u33 => (k1 (xload E.P m 56 u33) fun u34 => (kc (kv call base u34 [(.int .i64 0), w31] m) (fun u35 m => (fVal u35 fun v => some (.ret v, m))) (fun v m => some (.pan v, m))))) (fVal w31 fun v => some (.ret v, m)))) fuel x0 u2 (.int .i64 1) (.bool false) u3 (.int .i64 0) m))))) (fun v m => some (.pan v, m)))
def keep77 : Keep := { region := fun i => ([[0], [0, 3], [0, 3, 4, 5], [0, 3, 4, 5, 10, 11], [0, 3, 4, 5, 10, 11, 12], [0, 3, 4, 5, 6, 10, 11], [0, 3, 4, 5, 6, 7, 10, 11], [0, 3, 4, 5, 6, 7, 10, 11, 18], [2], [0, 3, 4, 5, 6, 7, 10, 11, 21], [0, 3, 4, 5, 6, 10, 11], [0, 3, 4, 5, 6, 10, 11], [0, 3, 5, 6, 10, 11], [0, 3, 4, 5, 10, 11], [0, 3, 4, 5, 10, 11], [3, 4, 51], [2], [2]] : List (List Nat))[i]?, exit := fun i => ([[3, 4, 5], [0, 3, 4, 5, 10, 11]] : List (List Nat))[i]?, ret := some [2] }
noncomputable def r77_L0_R (call : CallF) (fuel base n : Nat) (vs : List Value) (m : M) (K : KT) : Res2 := match vs with
  | [x0, x3, x4, x5, x10, x11] => r77_L0 call fuel base (fun v m => K (.pan v) { n := 57, l := [] } m) (fun y2 m => K .ret { n := 57, l := [(2, y2)] } m) (fun y3 y4 y5 m => K (.exit 0) { n := 57, l := [(3, y3), (4, y4), (5, y5)] } m) n x0 x3 x4 x5 x10 x11 m
  | _ => none
noncomputable def lp77 (call : CallF) (fuel base : Nat) : Lp := lpsel [(0, fun T m K => kslots 57 [0, 3, 4, 5, 10, 11] T fun vs => r77_L0_R call fuel base fuel vs m K)]
noncomputable def c77 : Code := Try.f77.body.getD .skip
noncomputable def p77_0 : Code := loopB (blockB (seqR (seqL (seqR (seqR (seqR c77))))))
theorem r77_L0_ok (call : CallF) (fuel base : Nat) : LQ lp77 call fuel base 0 p77_0 := by
  refine loop_ok (kp := keep77) (hb := Eq.mpr (show _ = (And True (And B2 (And (And True (And True (And D3 D5))) True))) by kernel_rfl) ⟨trivial, ⟨q2, ⟨⟨trivial, ⟨trivial, ⟨e3, e5⟩⟩⟩, trivial⟩⟩⟩) 57 [0, 3, 4, 5, 10, 11] (r77_L0_R call fuel base) ?_ ?_ (fun _ _ _ => rfl)
  · intro vs m K
    unfold r77_L0_R
    split <;> rfl
  · intro n vs m K hl
    match vs, hl with
    | [x0, x3, x4, x5, x10, x11], _ => show _ = _; kernel_rfl
theorem r77_eq (call : CallF) (fuel base : Nat) (x0 : Value) (m : M) : kbody E call keep77 (lp77 call fuel base) base Try.f77 [x0] m = r77 call fuel base x0 m := by
  kernel_rfl
noncomputable def rf77 : RF := fun call fuel base args m => match args with
  | [x0] => r77 call fuel base x0 m
  | _ => none
theorem rf77_ok : RFok E 77 rf77 := by
  show RFok' E 77 rf77
  refine ⟨Try.f77, (by kernel_rfl), fun call fuel base args m r _ h => ?_⟩
  unfold rf77 at h
  split at h
  · rw [← r77_eq] at h
    exact kbody_sound (c := c77) (by kernel_rfl) (Eq.mpr (show _ = (And True (And True (And True (And (And True (LQ lp77 call fuel base 0 p77_0)) D5)))) by kernel_rfl) ⟨trivial, ⟨trivial, ⟨trivial, ⟨⟨trivial, (r77_L0_ok call fuel base)⟩, e5⟩⟩⟩⟩) h
  · simp at h
end Go.AM
namespace Go.AM
open Go Go.Proofs
noncomputable def r80 (call : CallF) (fuel base : Nat) (x0 : Value) (x1 : Value) (x2 : Value) (m : M) : Res2 :=
  (k2 (xbox m x0) fun u1 m => (k1 (xload E.P m 79 u1) fun u2 => (k1 (mbin E .sub 3 x1 (.int .i64 1)) fun u3 => (kc (kB m (call m.length 104 [u2, u3, x2] m)) (fun u4 m => (k1 (xload E.P m 79 u1) fun u5 => (k1 (mbin E .sub 3 x2 (.int .i64 1)) fun u6 => (kc (kB m (call m.length 104 [u5, x1, u6] m)) (fun u7 m => (k2 (vcall E.P base m .min [3, 3] [u4, u7]) fun u8 m => (fVal u8 fun v => some (.ret v, m)))) (fun _ _ => none))))) (fun _ _ => none)))))
def keep80 : Keep := { region := fun i => ([[1, 2, 3], [6]] : List (List Nat))[i]?, exit := fun i => ([] : List (List Nat))[i]?, ret := some [6] }
noncomputable def lp80 (call : CallF) (fuel base : Nat) : Lp := lpsel []
noncomputable def c80 : Code := Try.f80.body.getD .skip
theorem r80_eq (call : CallF) (fuel base : Nat) (x0 : Value) (x1 : Value) (x2 : Value) (m : M) : kbody E call keep80 (lp80 call fuel base) base Try.f80 [x0, x1, x2] m = r80 call fuel base x0 x1 x2 m := by
  kernel_rfl
noncomputable def rf80 : RF := fun call fuel base args m => match args with
  | [x0, x1, x2] => r80 call fuel base x0 x1 x2 m
  | _ => none
theorem rf80_ok : RFok E 80 rf80 := by
  show RFok' E 80 rf80
  refine ⟨Try.f80, (by kernel_rfl), fun call fuel base args m r _ h => ?_⟩
  unfold rf80 at h
  split at h
  · rw [← r80_eq] at h
    exact kbody_sound (c := c80) (by kernel_rfl) (Eq.mpr (show _ = B3 by kernel_rfl) q3) h
  · simp at h
end Go.AM
namespace Go.AM
open Go Go.Proofs
noncomputable def r81_L4 (call : CallF) (fuel base : Nat) (kp : Value → M → Res2) (kx4 : Value → Value → Value → Value → Value → Value → Value → Value → Value → M → Res2) (n : Nat) : Value → Value → Value → Value → Value → Value → Value → Value → Value → Value → Value → Value → Value → Value → M → Res2 :=
  Nat.rec (motive := fun _ => Value → Value → Value → Value → Value → Value → Value → Value → Value → Value → Value → Value → Value → Value → M → Res2) (fun _ _ _ _ _ _ _ _ _ _ _ _ _ _ _ => none)
    (fun _ ih x1 x2 x3 x4 x5 x6 x7 x8 x27 x28 x29 x37 x38 x39 m =>
      (k1 (mbin E .lss 3 x39 x38) fun u22 => (kb u22 (k1 (mindexAddr E.P 104 x37 x39) fun u23 => (k1 (xload E.P m 76 u23) fun u24 => (k2 (xalloc E.P m 76) fun u25 m => (ks (xstore E.P base m 76 u25 u24) fun m => (k1 (xload E.P m 76 u25) fun u26 => (k1 (xload E.P m 76 x8) fun u27 => (kc (call base 103 [u26, u27] m) (fun u28 m => (kb u28 (k1 (mindexAddr E.P 27 x6 x7) fun u29 => (k1 (xload E.P m 3 u29) fun u30 => (k1 (mbin E .sub 3 x5 (.int .i64 1)) fun u31 => (k1 (mindexAddr E.P 33 x4 u31) fun u32 => (k1 (xload E.P m 27 u32) fun u33 => (k1 (mindexAddr E.P 27 u33 x39) fun u34 => (k1 (xload E.P m 3 u34) fun u35 => (k1 (mbin E .add 3 u30 u35) fun u36 => (k1 (mindexAddr E.P 27 x6 x7) fun u37 => (ks (xstore E.P base m 3 u37 u36) fun m => (k1 (mbin E .add 3 x39 (.int .i64 1)) fun u38 => (ih x1 x2 x3 x4 x5 x6 x7 x8 x27 x28 x29 x37 x38 u38 m)))))))))))) (k1 (mbin E .add 3 x39 (.int .i64 1)) fun u39 => (ih x1 x2 x3 x4 x5 x6 x7 x8 x27 x28 x29 x37 x38 u39 m)))) (fun v m => kp v m)))))))) (kx4 x1 x2 x3 x4 x5 x6 x27 x28 x29 m)))) n
noncomputable def r81_L2 (call : CallF) (fuel base : Nat) (kp : Value → M → Res2) (kx2 : Value → Value → Value → Value → Value → Value → M → Res2) (n : Nat) : Value → Value → Value → Value → Value → Value → Value → Value → Value → M → Res2 :=
  Nat.rec (motive := fun _ => Value → Value → Value → Value → Value → Value → Value → Value → Value → M → Res2) (fun _ _ _ _ _ _ _ _ _ _ => none)
    (fun _ ih x1 x2 x3 x4 x5 x6 x27 x28 x29 m =>
      (k1 (mbin E .lss 3 x29 x28) fun u15 => (kb u15 (k1 (mindexAddr E.P 104 x27 x29) fun u16 => (k1 (xload E.P m 76 u16) fun u17 => (k2 (xalloc E.P m 76) fun u18 m => (ks (xstore E.P base m 76 u18 u17) fun m => (k1 (mbin E .add 3 x29 (.int .i64 1)) fun u19 => (k1 (mslice E.P m 104 x3 none (some u19) none) fun u20 => (k2 (vcall E.P base m .len [104] [u20]) fun u21 m => (r81_L4 call fuel base (fun v m => kp v m) (fun w40 w41 w42 w43 w44 w45 w46 w47 w48 m => (k1 (mbin E .add 3 w48 (.int .i64 1)) fun u49 => (ih w40 w41 w42 w43 w44 w45 w46 w47 u49 m))) fuel x1 x2 x3 x4 x5 x6 x29 u18 x27 x28 x29 u20 u21 (.int .i64 0) m)))))))) (kx2 x1 x2 x3 x4 x5 x6 m)))) n
noncomputable def r81_L0 (call : CallF) (fuel base : Nat) (kp : Value → M → Res2) (kx0 : Value → Value → Value → M → Res2) (n : Nat) : Value → Value → Value → Value → Value → M → Res2 :=
  Nat.rec (motive := fun _ => Value → Value → Value → Value → Value → M → Res2) (fun _ _ _ _ _ _ => none)
    (fun _ ih x1 x2 x3 x4 x5 m =>
      (k1 (mfieldAddr E.P 23 x1 0) fun u9 => (k1 (xload E.P m 3 u9) fun u10 => (k1 (mbin E .lss 3 x5 u10) fun u11 => (kb u11 (k2 (vcall E.P base m .len [104] [x3]) fun u12 m => (k2 (xmakeSlice E.P m 27 u12 u12) fun u13 m => (k2 (vcall E.P base m .len [104] [x3]) fun u14 m => (r81_L2 call fuel base (fun v m => kp v m) (fun w50 w51 w52 w53 w54 w55 m => (k2 (xbuildSlice E.P m 33 1 [(0, w55)]) fun u56 m => (k2 (vcall E.P base m .append [33, 33] [w53, u56]) fun u57 m => (k1 (mbin E .add 3 w54 (.int .i64 1)) fun u58 => (ih w50 w51 w52 u57 u58 m))))) fuel x1 x2 x3 x4 x5 u13 x3 u14 (.int .i64 0) m)))) (kx0 x2 x3 x4 m)))))) n
noncomputable def r81 (call : CallF) (fuel base : Nat) (x0 : Value) (m : M) : Res2 :=
  (k2 (xbox m x0) fun u1 m => (k2 (xalloc E.P m 106) fun u2 m => (k1 (xload E.P m 23 u1) fun u3 => (kc (call base 101 [u3] m) (fun u4 m => (k2 (xbuildSlice E.P m 27 1 [(0, (.int .i64 1))]) fun u5 m => (k2 (vcall E.P base m .len [104] [u4]) fun u6 m => (kc (call base 105 [u5, u6] m) (fun u7 m => (k2 (xbuildSlice E.P m 33 1 [(0, u7)]) fun u8 m => (r81_L0 call fuel base (fun v m => some (.pan v, m)) (fun w59 w60 w61 m => (k1 (mbuild E.P 106 [(0, w60), (1, w61)]) fun u62 => (ks (xstore E.P base m 106 w59 u62) fun m => (k0 (mload E.P m 106 w59) fun r_63 => (fVal r_63 fun v => some (.ret v, m)))))) fuel u1 u2 u4 u8 (.int .i64 1) m))) (fun v m => some (.pan v, m)))))) (fun v m => some (.pan v, m))))))
def keep81 : Keep := { region := fun i => ([[1, 2], [1, 2, 3], [1, 2, 3, 4], [1, 2, 3, 4, 5], [1, 2, 3, 4, 5, 21], [1, 2, 3, 4, 5], [1, 2, 3, 4, 5, 6], [1, 2, 3, 4, 5, 6, 27, 28, 29], [1, 2, 3, 4, 5, 6, 27, 28, 29, 30], [1, 2, 3, 4, 5, 6, 7, 8, 27, 28, 29], [1, 2, 3, 4, 5, 6, 7, 8, 27, 28, 29, 37, 38, 39], [1, 2, 3, 4, 5, 6, 7, 8, 27, 28, 29, 37, 38, 39, 40], [1, 2, 3, 4, 5, 6, 7, 8, 9, 10, 27, 28, 29, 37, 38, 39], [1, 2, 3, 4, 5, 6, 7, 8, 9, 27, 28, 29, 37, 38, 39, 46], [1, 2, 3, 4, 5, 6, 7, 8, 27, 28, 29, 37, 38, 39], [1, 2, 3, 4, 5, 6, 7, 8, 27, 28, 29, 37, 38, 39], [1, 2, 3, 4, 5, 6, 27, 28, 29], [1, 2, 3, 4, 5], [2]] : List (List Nat))[i]?, exit := fun i => ([[2, 3, 4], [1, 2, 3, 4, 5], [1, 2, 3, 4, 5, 6], [1, 2, 3, 4, 5, 6, 27, 28, 29], [1, 2, 3, 4, 5, 6, 27, 28, 29], [1, 2, 3, 4, 5, 6, 7, 8, 27, 28, 29, 37, 38, 39]] : List (List Nat))[i]?, ret := some [2] }
noncomputable def r81_L4_R (call : CallF) (fuel base n : Nat) (vs : List Value) (m : M) (K : KT) : Res2 := match vs with
  | [x1, x2, x3, x4, x5, x6, x7, x8, x27, x28, x29, x37, x38, x39] => r81_L4 call fuel base (fun v m => K (.pan v) { n := 70, l := [] } m) (fun y1 y2 y3 y4 y5 y6 y27 y28 y29 m => K (.exit 4) { n := 70, l := [(1, y1), (2, y2), (3, y3), (4, y4), (5, y5), (6, y6), (27, y27), (28, y28), (29, y29)] } m) n x1 x2 x3 x4 x5 x6 x7 x8 x27 x28 x29 x37 x38 x39 m
  | _ => none
noncomputable def r81_L2_R (call : CallF) (fuel base n : Nat) (vs : List Value) (m : M) (K : KT) : Res2 := match vs with
  | [x1, x2, x3, x4, x5, x6, x27, x28, x29] => r81_L2 call fuel base (fun v m => K (.pan v) { n := 70, l := [] } m) (fun y1 y2 y3 y4 y5 y6 m => K (.exit 2) { n := 70, l := [(1, y1), (2, y2), (3, y3), (4, y4), (5, y5), (6, y6)] } m) n x1 x2 x3 x4 x5 x6 x27 x28 x29 m
  | _ => none
noncomputable def r81_L0_R (call : CallF) (fuel base n : Nat) (vs : List Value) (m : M) (K : KT) : Res2 := match vs with
  | [x1, x2, x3, x4, x5] => r81_L0 call fuel base (fun v m => K (.pan v) { n := 70, l := [] } m) (fun y2 y3 y4 m => K (.exit 0) { n := 70, l := [(2, y2), (3, y3), (4, y4)] } m) n x1 x2 x3 x4 x5 m
  | _ => none
noncomputable def lp81 (call : CallF) (fuel base : Nat) : Lp := lpsel [(4, fun T m K => kslots 70 [1, 2, 3, 4, 5, 6, 7, 8, 27, 28, 29, 37, 38, 39] T fun vs => r81_L4_R call fuel base fuel vs m K), (2, fun T m K => kslots 70 [1, 2, 3, 4, 5, 6, 27, 28, 29] T fun vs => r81_L2_R call fuel base fuel vs m K), (0, fun T m K => kslots 70 [1, 2, 3, 4, 5] T fun vs => r81_L0_R call fuel base fuel vs m K)]
noncomputable def c81 : Code := Try.f81.body.getD .skip
noncomputable def p81_0 : Code := loopB (blockB (seqR (seqL (seqR (seqR (seqR c81))))))
noncomputable def p81_2 : Code := loopB (blockB (seqR (seqL (seqR (blockB (seqL (seqR (loopB (blockB (seqR (seqL (seqR (seqR (seqR c81))))))))))))))
noncomputable def p81_4 : Code := loopB (blockB (seqR (seqR (blockB (seqL (seqR (seqR (loopB (blockB (seqR (seqL (seqR (blockB (seqL (seqR (loopB (blockB (seqR (seqL (seqR (seqR (seqR c81))))))))))))))))))))))
theorem r81_L4_ok (call : CallF) (fuel base : Nat) : LQ lp81 call fuel base 4 p81_4 := by
  refine loop_ok (kp := keep81) (hb := Eq.mpr (show _ = (And True (And B2 (And B4 True))) by kernel_rfl) ⟨trivial, ⟨q2, ⟨q4, trivial⟩⟩⟩) 70 [1, 2, 3, 4, 5, 6, 7, 8, 27, 28, 29, 37, 38, 39] (r81_L4_R call fuel base) ?_ ?_ (fun _ _ _ => rfl)
  · intro vs m K
    unfold r81_L4_R
    split <;> rfl
  · intro n vs m K hl
    match vs, hl with
    | [x1, x2, x3, x4, x5, x6, x7, x8, x27, x28, x29, x37, x38, x39], _ => show _ = _; kernel_rfl
theorem r81_L2_ok (call : CallF) (fuel base : Nat) : LQ lp81 call fuel base 2 p81_2 := by
  refine loop_ok (kp := keep81) (hb := Eq.mpr (show _ = (And True (And B2 (And (And True (And True (LQ lp81 call fuel base 4 p81_4))) True))) by kernel_rfl) ⟨trivial, ⟨q2, ⟨⟨trivial, ⟨trivial, (r81_L4_ok call fuel base)⟩⟩, trivial⟩⟩⟩) 70 [1, 2, 3, 4, 5, 6, 27, 28, 29] (r81_L2_R call fuel base) ?_ ?_ (fun _ _ _ => rfl)
  · intro vs m K
    unfold r81_L2_R
    split <;> rfl
  · intro n vs m K hl
    match vs, hl with
    | [x1, x2, x3, x4, x5, x6, x27, x28, x29], _ => show _ = _; kernel_rfl
theorem r81_L0_ok (call : CallF) (fuel base : Nat) : LQ lp81 call fuel base 0 p81_0 := by
  refine loop_ok (kp := keep81) (hb := Eq.mpr (show _ = (And B3 (And (And True (And (And True (LQ lp81 call fuel base 2 p81_2)) True)) True)) by kernel_rfl) ⟨q3, ⟨⟨trivial, ⟨⟨trivial, (r81_L2_ok call fuel base)⟩, trivial⟩⟩, trivial⟩⟩) 70 [1, 2, 3, 4, 5] (r81_L0_R call fuel base) ?_ ?_ (fun _ _ _ => rfl)
  · intro vs m K
    unfold r81_L0_R
    split <;> rfl
  · intro n vs m K hl
    match vs, hl with
    | [x1, x2, x3, x4, x5], _ => show _ = _; kernel_rfl
theorem r81_eq (call : CallF) (fuel base : Nat) (x0 : Value) (m : M) : kbody E call keep81 (lp81 call fuel base) base Try.f81 [x0] m = r81 call fuel base x0 m := by
  kernel_rfl
noncomputable def rf81 : RF := fun call fuel base args m => match args with
  | [x0] => r81 call fuel base x0 m
  | _ => none
theorem rf81_ok : RFok E 81 rf81 := by
  show RFok' E 81 rf81
  refine ⟨Try.f81, (by kernel_rfl), fun call fuel base args m r _ h => ?_⟩
  unfold rf81 at h
  split at h
  · rw [← r81_eq] at h
    exact kbody_sound (c := c81) (by kernel_rfl) (Eq.mpr (show _ = (And True (And True (And True (And (And True (LQ lp81 call fuel base 0 p81_0)) B2)))) by kernel_rfl) ⟨trivial, ⟨trivial, ⟨trivial, ⟨⟨trivial, (r81_L0_ok call fuel base)⟩, q2⟩⟩⟩⟩) h
  · simp at h
end Go.AM
namespace Go.AM
open Go Go.Proofs
noncomputable def r82 (call : CallF) (fuel base : Nat) (x0 : Value) (m : M) : Res2 :=
  (k2 (xbox m x0) fun u1 m => (k2 (xalloc E.P m 76) fun u2 m => (k1 (mfieldAddr E.P 106 u1 0) fun u3 => (k1 (xload E.P m 104 u3) fun u4 => (k1 (mfieldAddr E.P 106 u1 0) fun u5 => (k1 (xload E.P m 104 u5) fun u6 => (k2 (vcall E.P base m .len [104] [u6]) fun u7 m => (k1 (mbin E .sub 3 u7 (.int .i64 1)) fun u8 => (k1 (mindexAddr E.P 104 u4 u8) fun u9 => (k1 (xload E.P m 76 u9) fun u10 => (ks (xstore E.P base m 76 u2 u10) fun m => (k0 (mload E.P m 76 u2) fun r_11 => (fVal r_11 fun v => some (.ret v, m))))))))))))))
def keep82 : Keep := { region := fun i => ([[1, 2], [2]] : List (List Nat))[i]?, exit := fun i => ([] : List (List Nat))[i]?, ret := some [2] }
noncomputable def lp82 (call : CallF) (fuel base : Nat) : Lp := lpsel []
noncomputable def c82 : Code := Try.f82.body.getD .skip
theorem r82_eq (call : CallF) (fuel base : Nat) (x0 : Value) (m : M) : kbody E call keep82 (lp82 call fuel base) base Try.f82 [x0] m = r82 call fuel base x0 m := by
  kernel_rfl
noncomputable def rf82 : RF := fun call fuel base args m => match args with
  | [x0] => r82 call fuel base x0 m
  | _ => none
theorem rf82_ok : RFok E 82 rf82 := by
  show RFok' E 82 rf82
  refine ⟨Try.f82, (by kernel_rfl), fun call fuel base args m r _ h => ?_⟩
  unfold rf82 at h
  split at h
  · rw [← r82_eq] at h
    exact kbody_sound (c := c82) (by kernel_rfl) (Eq.mpr (show _ = B3 by kernel_rfl) q3) h
  · simp at h
end Go.AM
namespace Go.AM
open Go Go.Proofs
noncomputable def r83 (call : CallF) (fuel base : Nat) (x0 : Value) (x1 : Value) (x2 : Value) (m : M) : Res2 :=
  (k2 (xbox m x0) fun u1 m => (k2 (xbox m x1) fun u2 m => (k2 (xbox m x2) fun u3 m => (fVal (.func (.func 106) #[] #[u1, u2, u3]) fun v => some (.ret v, m)))))
def keep83 : Keep := { region := fun i => ([[3, 4, 5], [6]] : List (List Nat))[i]?, exit := fun i => ([] : List (List Nat))[i]?, ret := some [6] }
noncomputable def lp83 (call : CallF) (fuel base : Nat) : Lp := lpsel []
noncomputable def c83 : Code := Try.f83.body.getD .skip
theorem r83_eq (call : CallF) (fuel base : Nat) (x0 : Value) (x1 : Value) (x2 : Value) (m : M) : kbody E call keep83 (lp83 call fuel base) base Try.f83 [x0, x1, x2] m = r83 call fuel base x0 x1 x2 m := by
  kernel_rfl
noncomputable def rf83 : RF := fun call fuel base args m => match args with
  | [x0, x1, x2] => r83 call fuel base x0 x1 x2 m
  | _ => none
theorem rf83_ok : RFok E 83 rf83 := by
  show RFok' E 83 rf83
  refine ⟨Try.f83, (by kernel_rfl), fun call fuel base args m r _ h => ?_⟩
  unfold rf83 at h
  split at h
  · rw [← r83_eq] at h
    exact kbody_sound (c := c83) (by kernel_rfl) (Eq.mpr (show _ = B3 by kernel_rfl) q3) h
  · simp at h
end Go.AM
namespace Go.AM
open Go Go.Proofs
noncomputable def r84 (call : CallF) (fuel base : Nat) (x0 : Value) (m : M) : Res2 :=
  (k1 (mbin E .eql 27 x0 (.slice none 0 0)) fun u1 => (kb u1 (fVal (.slice none 0 0) fun v => some (.ret v, m)) (k2 (xbuildSlice E.P m 27 0 []) fun u2 m => (k2 (vcall E.P base m .append [27, 27] [u2, x0]) fun u3 m => (fVal u3 fun v => some (.ret v, m))))))
def keep84 : Keep := { region := fun i => ([[0], [0, 4], [2], [2]] : List (List Nat))[i]?, exit := fun i => ([] : List (List Nat))[i]?, ret := some [2] }
noncomputable def lp84 (call : CallF) (fuel base : Nat) : Lp := lpsel []
noncomputable def c84 : Code := Try.f84.body.getD .skip
theorem r84_eq (call : CallF) (fuel base : Nat) (x0 : Value) (m : M) : kbody E call keep84 (lp84 call fuel base) base Try.f84 [x0] m = r84 call fuel base x0 m := by
  kernel_rfl
noncomputable def rf84 : RF := fun call fuel base args m => match args with
  | [x0] => r84 call fuel base x0 m
  | _ => none
theorem rf84_ok : RFok E 84 rf84 := by
  show RFok' E 84 rf84
  refine ⟨Try.f84, (by kernel_rfl), fun call fuel base args m r _ h => ?_⟩
  unfold rf84 at h
  split at h
  · rw [← r84_eq] at h
    exact kbody_sound (c := c84) (by kernel_rfl) (Eq.mpr (show _ = (And True D5) by kernel_rfl) ⟨trivial, e5⟩) h
  · simp at h
end Go.AM
namespace Go.AM
open Go Go.Proofs
noncomputable def r85_L2 (call : CallF) (fuel base : Nat) (kx2 : Value → Value → Value → Value → Value → Value → M → Res2) (n : Nat) : Value → Value → Value → Value → Value → Value → Value → Value → Value → M → Res2 :=
  Nat.rec (motive := fun _ => Value → Value → Value → Value → Value → Value → Value → Value → Value → M → Res2) (fun _ _ _ _ _ _ _ _ _ _ => none)
    (fun _ ih x1 x2 x4 x5 x6 x11 x12 x16 x17 m =>
      (k1 (mbin E .lss 3 x17 x16) fun u11 => (kb u11 (kc (kB m (kv call m.length x1 [x6, x17] m)) (fun u12 m => (k1 (mfieldAddr E.P 79 x5 1) fun u13 => (k1 (mindexAddr E.P 77 u13 x6) fun u14 => (k1 (mindexAddr E.P 76 u14 x17) fun u15 => (ks (xstore E.P base m 3 u15 u12) fun m => (k1 (mbin E .add 3 x17 (.int .i64 1)) fun u16 => (ih x1 x2 x4 x5 x6 x11 x12 x16 u16 m))))))) (fun _ _ => none)) (kx2 x1 x2 x4 x5 x11 x12 m)))) n
noncomputable def r85_L0 (call : CallF) (fuel base : Nat) (kx0 : Value → Value → M → Res2) (n : Nat) : Value → Value → Value → Value → Value → Value → M → Res2 :=
  Nat.rec (motive := fun _ => Value → Value → Value → Value → Value → Value → M → Res2) (fun _ _ _ _ _ _ _ => none)
    (fun _ ih x1 x2 x4 x5 x11 x12 m =>
      (k1 (mbin E .lss 3 x12 x11) fun u8 => (kb u8 (k1 (mfieldAddr E.P 23 x2 1) fun u9 => (k1 (xload E.P m 3 u9) fun u10 => (r85_L2 call fuel base (fun w17 w18 w19 w20 w21 w22 m => (k1 (mbin E .add 3 w22 (.int .i64 1)) fun u23 => (ih w17 w18 w19 w20 w21 u23 m))) fuel x1 x2 x4 x5 x12 x11 x12 u10 (.int .i64 0) m))) (kx0 x4 x5 m)))) n
noncomputable def r85 (call : CallF) (fuel base : Nat) (x0 : Value) (x1 : Value) (m : M) : Res2 :=
  (k2 (xbox m x0) fun u1 m => (k2 (xalloc E.P m 79) fun u2 m => (k1 (xload E.P m 23 u1) fun u3 => (k1 (mbuild E.P 79 [(0, u3)]) fun u4 => (k2 (xalloc E.P m 79) fun u5 m => (ks (xstore E.P base m 79 u5 u4) fun m => (k1 (mfieldAddr E.P 23 u1 0) fun u6 => (k1 (xload E.P m 3 u6) fun u7 => (r85_L0 call fuel base (fun w24 w25 m => (k1 (xload E.P m 79 w25) fun u26 => (ks (xstore E.P base m 79 w24 u26) fun m => (k0 (mload E.P m 79 w24) fun r_27 => (fVal r_27 fun v => some (.ret v, m)))))) fuel x1 u1 u2 u5 u7 (.int .i64 0) m)))))))))
def keep85 : Keep := { region := fun i => ([[1, 2, 4], [1, 2, 4, 5], [1, 2, 4, 5, 11, 12], [1, 2, 4, 5, 11, 12, 13], [1, 2, 4, 5, 6, 11, 12], [1, 2, 4, 5, 6, 11, 12, 16, 17], [1, 2, 4, 5, 6, 11, 12, 16, 17, 18], [1, 2, 4, 5, 6, 7, 11, 12, 16, 17], [1, 2, 4, 5, 6, 11, 12, 16, 17], [1, 2, 4, 5, 6, 11, 12, 16, 17], [1, 2, 4, 5, 11, 12], [4]] : List (List Nat))[i]?, exit := fun i => ([[4, 5], [1, 2, 4, 5, 11, 12], [1, 2, 4, 5, 11, 12], [1, 2, 4, 5, 6, 11, 12, 16, 17]] : List (List Nat))[i]?, ret := some [4] }
noncomputable def r85_L2_R (call : CallF) (fuel base n : Nat) (vs : List Value) (m : M) (K : KT) : Res2 := match vs with
  | [x1, x2, x4, x5, x6, x11, x12, x16, x17] => r85_L2 call fuel base (fun y1 y2 y4 y5 y11 y12 m => K (.exit 2) { n := 32, l := [(1, y1), (2, y2), (4, y4), (5, y5), (11, y11), (12, y12)] } m) n x1 x2 x4 x5 x6 x11 x12 x16 x17 m
  | _ => none
noncomputable def r85_L0_R (call : CallF) (fuel base n : Nat) (vs : List Value) (m : M) (K : KT) : Res2 := match vs with
  | [x1, x2, x4, x5, x11, x12] => r85_L0 call fuel base (fun y4 y5 m => K (.exit 0) { n := 32, l := [(4, y4), (5, y5)] } m) n x1 x2 x4 x5 x11 x12 m
  | _ => none
noncomputable def lp85 (call : CallF) (fuel base : Nat) : Lp := lpsel [(2, fun T m K => kslots 32 [1, 2, 4, 5, 6, 11, 12, 16, 17] T fun vs => r85_L2_R call fuel base fuel vs m K), (0, fun T m K => kslots 32 [1, 2, 4, 5, 11, 12] T fun vs => r85_L0_R call fuel base fuel vs m K)]
noncomputable def c85 : Code := Try.f85.body.getD .skip
noncomputable def p85_0 : Code := loopB (blockB (seqR (seqL (seqR (seqR c85)))))
noncomputable def p85_2 : Code := loopB (blockB (seqR (seqR (blockB (seqL (seqR (seqR (loopB (blockB (seqR (seqL (seqR (seqR c85)))))))))))))
theorem r85_L2_ok (call : CallF) (fuel base : Nat) : LQ lp85 call fuel base 2 p85_2 := by
  refine loop_ok (kp := keep85) (hb := Eq.mpr (show _ = (And True (And B2 D2)) by kernel_rfl) ⟨trivial, ⟨q2, e2⟩⟩) 32 [1, 2, 4, 5, 6, 11, 12, 16, 17] (r85_L2_R call fuel base) ?_ ?_ (fun _ _ _ => rfl)
  · intro vs m K
    unfold r85_L2_R
    split <;> rfl
  · intro n vs m K hl
    match vs, hl with
    | [x1, x2, x4, x5, x6, x11, x12, x16, x17], _ => show _ = _; kernel_rfl
theorem r85_L0_ok (call : CallF) (fuel base : Nat) : LQ lp85 call fuel base 0 p85_0 := by
  refine loop_ok (kp := keep85) (hb := Eq.mpr (show _ = (And True (And B2 (And (And True (And True (LQ lp85 call fuel base 2 p85_2))) True))) by kernel_rfl) ⟨trivial, ⟨q2, ⟨⟨trivial, ⟨trivial, (r85_L2_ok call fuel base)⟩⟩, trivial⟩⟩⟩) 32 [1, 2, 4, 5, 11, 12] (r85_L0_R call fuel base) ?_ ?_ (fun _ _ _ => rfl)
  · intro vs m K
    unfold r85_L0_R
    split <;> rfl
  · intro n vs m K hl
    match vs, hl with
    | [x1, x2, x4, x5, x11, x12], _ => show _ = _; kernel_rfl
theorem r85_eq (call : CallF) (fuel base : Nat) (x0 : Value) (x1 : Value) (m : M) : kbody E call keep85 (lp85 call fuel base) base Try.f85 [x0, x1] m = r85 call fuel base x0 x1 m := by
  kernel_rfl
noncomputable def rf85 : RF := fun call fuel base args m => match args with
  | [x0, x1] => r85 call fuel base x0 x1 m
  | _ => none
theorem rf85_ok : RFok E 85 rf85 := by
  show RFok' E 85 rf85
  refine ⟨Try.f85, (by kernel_rfl), fun call fuel base args m r _ h => ?_⟩
  unfold rf85 at h
  split at h
  · rw [← r85_eq] at h
    exact kbody_sound (c := c85) (by kernel_rfl) (Eq.mpr (show _ = (And True (And True (And (And True (LQ lp85 call fuel base 0 p85_0)) B2))) by kernel_rfl) ⟨trivial, ⟨trivial, ⟨⟨trivial, (r85_L0_ok call fuel base)⟩, q2⟩⟩⟩) h
  · simp at h
end Go.AM
namespace Go.AM
open Go Go.Proofs
noncomputable def r86 (call : CallF) (fuel base : Nat) (x0 : Value) (x1 : Value) (x2 : Value) (x3 : Value) (m : M) : Res2 :=
  (k1 (mfieldAddr E.P 23 x2 2) fun u1 => (k1 (xload E.P m 3 u1) fun u2 => (k1 (mfieldAddr E.P 23 x2 0) fun u3 => (k1 (xload E.P m 3 u3) fun u4 => (k1 (mbin E .sub 3 u4 (.int .i64 1)) fun u5 => (k1 (mbin E .sub 3 u5 x0) fun u6 => (k1 (mfieldAddr E.P 23 x2 1) fun u7 => (k1 (xload E.P m 3 u7) fun u8 => (k1 (mbin E .sub 3 u8 (.int .i64 1)) fun u9 => (k1 (mbin E .sub 3 u9 x1) fun u10 => (k1 (mfieldAddr E.P 79 x3 1) fun u11 => (k1 (mindexAddr E.P 77 u11 u6) fun u12 => (k1 (mindexAddr E.P 76 u12 u10) fun u13 => (k1 (xload E.P m 3 u13) fun u14 => (k1 (mbin E .sub 3 u2 u14) fun u15 => (fVal u15 fun v => some (.ret v, m)))))))))))))))))
def keep86 : Keep := { region := fun i => ([[0, 1, 2, 3], [6]] : List (List Nat))[i]?, exit := fun i => ([] : List (List Nat))[i]?, ret := some [6] }
noncomputable def lp86 (call : CallF) (fuel base : Nat) : Lp := lpsel []
noncomputable def c86 : Code := Try.f86.body.getD .skip
theorem r86_eq (call : CallF) (fuel base : Nat) (x0 : Value) (x1 : Value) (x2 : Value) (x3 : Value) (m : M) : kbody E call keep86 (lp86 call fuel base) base Try.f86 [x0, x1, x2, x3] m = r86 call fuel base x0 x1 x2 x3 m := by
  kernel_rfl
noncomputable def rf86 : RF := fun call fuel base args m => match args with
  | [x0, x1, x2, x3] => r86 call fuel base x0 x1 x2 x3 m
  | _ => none
theorem rf86_ok : RFok E 86 rf86 := by
  show RFok' E 86 rf86
  refine ⟨Try.f86, (by kernel_rfl), fun call fuel base args m r _ h => ?_⟩
  unfold rf86 at h
  split at h
  · rw [← r86_eq] at h
    exact kbody_sound (c := c86) (by kernel_rfl) (Eq.mpr (show _ = B3 by kernel_rfl) q3) h
  · simp at h
end Go.AM
namespace Go.AM
open Go Go.Proofs
noncomputable def r87 (call : CallF) (fuel base : Nat) (x0 : Value) (x1 : Value) (x2 : Value) (m : M) : Res2 :=
  (k1 (mfieldAddr E.P 79 x2 1) fun u1 => (k1 (mindexAddr E.P 77 u1 x1) fun u2 => (k1 (mindexAddr E.P 76 u2 x0) fun u3 => (k1 (xload E.P m 3 u3) fun u4 => (fVal u4 fun v => some (.ret v, m))))))
def keep87 : Keep := { region := fun i => ([[0, 1, 2], [5]] : List (List Nat))[i]?, exit := fun i => ([] : List (List Nat))[i]?, ret := some [5] }
noncomputable def lp87 (call : CallF) (fuel base : Nat) : Lp := lpsel []
noncomputable def c87 : Code := Try.f87.body.getD .skip
theorem r87_eq (call : CallF) (fuel base : Nat) (x0 : Value) (x1 : Value) (x2 : Value) (m : M) : kbody E call keep87 (lp87 call fuel base) base Try.f87 [x0, x1, x2] m = r87 call fuel base x0 x1 x2 m := by
  kernel_rfl
noncomputable def rf87 : RF := fun call fuel base args m => match args with
  | [x0, x1, x2] => r87 call fuel base x0 x1 x2 m
  | _ => none
theorem rf87_ok : RFok E 87 rf87 := by
  show RFok' E 87 rf87
  refine ⟨Try.f87, (by kernel_rfl), fun call fuel base args m r _ h => ?_⟩
  unfold rf87 at h
  split at h
  · rw [← r87_eq] at h
    exact kbody_sound (c := c87) (by kernel_rfl) (Eq.mpr (show _ = B3 by kernel_rfl) q3) h
  · simp at h
end Go.AM
namespace Go.AM
open Go Go.Proofs
noncomputable def r88 (call : CallF) (fuel base : Nat) (x0 : Value) (x1 : Value) (x2 : Value) (m : M) : Res2 :=
  (k1 (mfieldAddr E.P 79 x2 1) fun u1 => (k1 (mindexAddr E.P 77 u1 x1) fun u2 => (k1 (xload E.P m 76 u2) fun u3 => (kc (call base 89 [u3, x0] m) (fun u4 m => (fVal u4 fun v => some (.ret v, m))) (fun v m => some (.pan v, m))))))
def keep88 : Keep := { region := fun i => ([[0, 1, 2], [5]] : List (List Nat))[i]?, exit := fun i => ([] : List (List Nat))[i]?, ret := some [5] }
noncomputable def lp88 (call : CallF) (fuel base : Nat) : Lp := lpsel []
noncomputable def c88 : Code := Try.f88.body.getD .skip
theorem r88_eq (call : CallF) (fuel base : Nat) (x0 : Value) (x1 : Value) (x2 : Value) (m : M) : kbody E call keep88 (lp88 call fuel base) base Try.f88 [x0, x1, x2] m = r88 call fuel base x0 x1 x2 m := by
  kernel_rfl
noncomputable def rf88 : RF := fun call fuel base args m => match args with
  | [x0, x1, x2] => r88 call fuel base x0 x1 x2 m
  | _ => none
theorem rf88_ok : RFok E 88 rf88 := by
  show RFok' E 88 rf88
  refine ⟨Try.f88, (by kernel_rfl), fun call fuel base args m r _ h => ?_⟩
  unfold rf88 at h
  split at h
  · rw [← r88_eq] at h
    exact kbody_sound (c := c88) (by kernel_rfl) (Eq.mpr (show _ = B3 by kernel_rfl) q3) h
  · simp at h
end Go.AM
namespace Go.AM
open Go Go.Proofs
noncomputable def r89_L0 (call : CallF) (fuel base : Nat) (kx0 : Value → M → Res2) (n : Nat) : Value → Value → Value → Value → M → Res2 :=
  Nat.rec (motive := fun _ => Value → Value → Value → Value → M → Res2) (fun _ _ _ _ _ => none)
    (fun _ ih x1 x5 x8 x9 m =>
      (k1 (mbin E .lss 3 x9 (.int .i64 4)) fun u3 => (kb u3 (k1 (mindex E.P 76 x8 x9) fun u4 => (k1 (mbin E .gtr 3 u4 x1) fun u5 => (kb u5 (k1 (mbin E .add 3 x5 (.int .i64 1)) fun u6 => (k1 (mbin E .add 3 x9 (.int .i64 1)) fun u7 => (ih x1 u6 x8 u7 m))) (k1 (mbin E .add 3 x9 (.int .i64 1)) fun u8 => (ih x1 x5 x8 u8 m))))) (kx0 x5 m)))) n
noncomputable def r89 (call : CallF) (fuel base : Nat) (x0 : Value) (x1 : Value) (m : M) : Res2 :=
  (k2 (xbox m x0) fun u1 m => (k1 (xload E.P m 76 u1) fun u2 => (r89_L0 call fuel base (fun w9 m => (fVal w9 fun v => some (.ret v, m))) fuel x1 (.int .i64 0) u2 (.int .i64 0) m)))
def keep89 : Keep := { region := fun i => ([[1, 2], [1, 2, 5], [1, 5, 8, 9], [1, 5, 8, 9, 10], [1, 5, 7, 8, 9], [1, 5, 8, 9, 14], [1, 5, 8, 9], [1, 5, 8, 9], [4]] : List (List Nat))[i]?, exit := fun i => ([[5], [1, 5, 8, 9]] : List (List Nat))[i]?, ret := some [4] }
noncomputable def r89_L0_R (call : CallF) (fuel base n : Nat) (vs : List Value) (m : M) (K : KT) : Res2 := match vs with
  | [x1, x5, x8, x9] => r89_L0 call fuel base (fun y5 m => K (.exit 0) { n := 19, l := [(5, y5)] } m) n x1 x5 x8 x9 m
  | _ => none
noncomputable def lp89 (call : CallF) (fuel base : Nat) : Lp := lpsel [(0, fun T m K => kslots 19 [1, 5, 8, 9] T fun vs => r89_L0_R call fuel base fuel vs m K)]
noncomputable def c89 : Code := Try.f89.body.getD .skip
noncomputable def p89_0 : Code := loopB (blockB (seqR (seqL (seqR (seqR c89)))))
theorem r89_L0_ok (call : CallF) (fuel base : Nat) : LQ lp89 call fuel base 0 p89_0 := by
  refine loop_ok (kp := keep89) (hb := Eq.mpr (show _ = (And True (And B2 (And B4 True))) by kernel_rfl) ⟨trivial, ⟨q2, ⟨q4, trivial⟩⟩⟩) 19 [1, 5, 8, 9] (r89_L0_R call fuel base) ?_ ?_ (fun _ _ _ => rfl)
  · intro vs m K
    unfold r89_L0_R
    split <;> rfl
  · intro n vs m K hl
    match vs, hl with
    | [x1, x5, x8, x9], _ => show _ = _; kernel_rfl
theorem r89_eq (call : CallF) (fuel base : Nat) (x0 : Value) (x1 : Value) (m : M) : kbody E call keep89 (lp89 call fuel base) base Try.f89 [x0, x1] m = r89 call fuel base x0 x1 m := by
  kernel_rfl
noncomputable def rf89 : RF := fun call fuel base args m => match args with
  | [x0, x1] => r89 call fuel base x0 x1 m
  | _ => none
theorem rf89_ok : RFok E 89 rf89 := by
  show RFok' E 89 rf89
  refine ⟨Try.f89, (by kernel_rfl), fun call fuel base args m r _ h => ?_⟩
  unfold rf89 at h
  split at h
  · rw [← r89_eq] at h
    exact kbody_sound (c := c89) (by kernel_rfl) (Eq.mpr (show _ = (And True (And True (And (And True (LQ lp89 call fuel base 0 p89_0)) B2))) by kernel_rfl) ⟨trivial, ⟨trivial, ⟨⟨trivial, (r89_L0_ok call fuel base)⟩, q2⟩⟩⟩) h
  · simp at h
end Go.AM
namespace Go.AM
open Go Go.Proofs
noncomputable def r90 (call : CallF) (fuel base : Nat) (x0 : Value) (x1 : Value) (x2 : Value) (m : M) : Res2 :=
  (k2 (xbox m x0) fun u1 m => (k1 (xload E.P m 79 u1) fun u2 => (k1 (mbin E .add 3 x1 (.int .i64 1)) fun u3 => (kc (kB m (call m.length 104 [u2, u3, x2] m)) (fun u4 m => (k1 (xload E.P m 79 u1) fun u5 => (k1 (mbin E .add 3 x2 (.int .i64 1)) fun u6 => (kc (kB m (call m.length 104 [u5, x1, u6] m)) (fun u7 m => (k2 (vcall E.P base m .max [3, 3] [u4, u7]) fun u8 m => (fVal u8 fun v => some (.ret v, m)))) (fun _ _ => none))))) (fun _ _ => none)))))
def keep90 : Keep := { region := fun i => ([[1, 2, 3], [6]] : List (List Nat))[i]?, exit := fun i => ([] : List (List Nat))[i]?, ret := some [6] }
noncomputable def lp90 (call : CallF) (fuel base : Nat) : Lp := lpsel []
noncomputable def c90 : Code := Try.f90.body.getD .skip
theorem r90_eq (call : CallF) (fuel base : Nat) (x0 : Value) (x1 : Value) (x2 : Value) (m : M) : kbody E call keep90 (lp90 call fuel base) base Try.f90 [x0, x1, x2] m = r90 call fuel base x0 x1 x2 m := by
  kernel_rfl
noncomputable def rf90 : RF := fun call fuel base args m => match args with
  | [x0, x1, x2] => r90 call fuel base x0 x1 x2 m
  | _ => none
theorem rf90_ok : RFok E 90 rf90 := by
  show RFok' E 90 rf90
  refine ⟨Try.f90, (by kernel_rfl), fun call fuel base args m r _ h => ?_⟩
  unfold rf90 at h
  split at h
  · rw [← r90_eq] at h
    exact kbody_sound (c := c90) (by kernel_rfl) (Eq.mpr (show _ = B3 by kernel_rfl) q3) h
  · simp at h
end Go.AM
namespace Go.AM
open Go Go.Proofs
noncomputable def r91 (call : CallF) (fuel base : Nat) (x0 : Value) (x1 : Value) (x2 : Value) (x3 : Value) (m : M) : Res2 :=
  (k2 (xalloc E.P m 69) fun u1 m => (k1 (mbin E .sub 3 x2 x1) fun u2 => (k1 (mbin E .sub 3 x3 x1) fun u3 => (k1 (mbuild E.P 69 [(0, x0), (1, u2), (2, u3)]) fun u4 => (ks (xstore E.P base m 69 u1 u4) fun m => (k0 (mload E.P m 69 u1) fun r_5 => (fVal r_5 fun v => some (.ret v, m))))))))
def keep91 : Keep := { region := fun i => ([[0, 1, 2, 3, 8], [8]] : List (List Nat))[i]?, exit := fun i => ([] : List (List Nat))[i]?, ret := some [8] }
noncomputable def lp91 (call : CallF) (fuel base : Nat) : Lp := lpsel []
noncomputable def c91 : Code := Try.f91.body.getD .skip
theorem r91_eq (call : CallF) (fuel base : Nat) (x0 : Value) (x1 : Value) (x2 : Value) (x3 : Value) (m : M) : kbody E call keep91 (lp91 call fuel base) base Try.f91 [x0, x1, x2, x3] m = r91 call fuel base x0 x1 x2 x3 m := by
  kernel_rfl
noncomputable def rf91 : RF := fun call fuel base args m => match args with
  | [x0, x1, x2, x3] => r91 call fuel base x0 x1 x2 x3 m
  | _ => none
theorem rf91_ok : RFok E 91 rf91 := by
  show RFok' E 91 rf91
  refine ⟨Try.f91, (by kernel_rfl), fun call fuel base args m r _ h => ?_⟩
  unfold rf91 at h
  split at h
  · rw [← r91_eq] at h
    exact kbody_sound (c := c91) (by kernel_rfl) (Eq.mpr (show _ = B3 by kernel_rfl) q3) h
  · simp at h
end Go.AM
namespace Go.AM
open Go Go.Proofs
noncomputable def r92 (call : CallF) (fuel base : Nat) (x0 : Value) (x1 : Value) (m : M) : Res2 :=
  (k2 (vcall E.P base m .len [47] [x0]) fun u1 m => (k1 (mconvert E.P 3 132 u1) fun u2 => (kc (call base 108 [u2] m) (fun u3 m => (kc (call base 107 [x0, (.int .i64 0), u1, u3, x1] m) (fun u4 m => (some (.ret (.tuple #[]), m))) (fun v m => some (.pan v, m)))) (fun v m => some (.pan v, m)))))
def keep92 : Keep := { region := fun i => ([[0, 1, 4], []] : List (List Nat))[i]?, exit := fun i => ([] : List (List Nat))[i]?, ret := some [] }
noncomputable def lp92 (call : CallF) (fuel base : Nat) : Lp := lpsel []
noncomputable def c92 : Code := Try.f92.body.getD .skip
theorem r92_eq (call : CallF) (fuel base : Nat) (x0 : Value) (x1 : Value) (m : M) : kbody E call keep92 (lp92 call fuel base) base Try.f92 [x0, x1] m = r92 call fuel base x0 x1 m := by
  kernel_rfl
noncomputable def rf92 : RF := fun call fuel base args m => match args with
  | [x0, x1] => r92 call fuel base x0 x1 m
  | _ => none
theorem rf92_ok : RFok E 92 rf92 := by
  show RFok' E 92 rf92
  refine ⟨Try.f92, (by kernel_rfl), fun call fuel base args m r _ h => ?_⟩
  unfold rf92 at h
  split at h
  · rw [← r92_eq] at h
    exact kbody_sound (c := c92) (by kernel_rfl) (Eq.mpr (show _ = B2 by kernel_rfl) q2) h
  · simp at h
end Go.AM
namespace Go.AM
open Go Go.Proofs
noncomputable def r93 (call : CallF) (fuel base : Nat) (x0 : Value) (x1 : Value) (m : M) : Res2 :=
  (k2 (xbox m x0) fun u1 m => (k2 (xbox m x1) fun u2 m => (k1 (mfieldAddr E.P 69 u1 0) fun u3 => (k1 (xload E.P m 3 u3) fun u4 => (k1 (mfieldAddr E.P 69 u2 0) fun u5 => (k1 (xload E.P m 3 u5) fun u6 => (kc (kB m (call m.length 110 [u4, u6] m)) (fun u7 m => (k1 (mfieldAddr E.P 69 u1 1) fun u8 => (k1 (xload E.P m 3 u8) fun u9 => (k1 (mfieldAddr E.P 69 u2 1) fun u10 => (k1 (xload E.P m 3 u10) fun u11 => (kc (kB m (call m.length 110 [u9, u11] m)) (fun u12 m => (k1 (mfieldAddr E.P 69 u1 2) fun u13 => (k1 (xload E.P m 3 u13) fun u14 => (k1 (mfieldAddr E.P 69 u2 2) fun u15 => (k1 (xload E.P m 3 u15) fun u16 => (kc (kB m (call m.length 110 [u14, u16] m)) (fun u17 m => (k2 (xbuildSlice E.P m 27 3 [(0, u7), (1, u12), (2, u17)]) fun u18 m => (kc (kB m (call m.length 109 [u18] m)) (fun u19 m => (fVal u19 fun v => some (.ret v, m))) (fun _ _ => none)))) (fun _ _ => none))))))) (fun _ _ => none))))))) (fun _ _ => none))))))))
def keep93 : Keep := { region := fun i => ([[2, 3], [4]] : List (List Nat))[i]?, exit := fun i => ([] : List (List Nat))[i]?, ret := some [4] }
noncomputable def lp93 (call : CallF) (fuel base : Nat) : Lp := lpsel []
noncomputable def c93 : Code := Try.f93.body.getD .skip
theorem r93_eq (call : CallF) (fuel base : Nat) (x0 : Value) (x1 : Value) (m : M) : kbody E call keep93 (lp93 call fuel base) base Try.f93 [x0, x1] m = r93 call fuel base x0 x1 m := by
  kernel_rfl
noncomputable def rf93 : RF := fun call fuel base args m => match args with
  | [x0, x1] => r93 call fuel base x0 x1 m
  | _ => none
theorem rf93_ok : RFok E 93 rf93 := by
  show RFok' E 93 rf93
  refine ⟨Try.f93, (by kernel_rfl), fun call fuel base args m r _ h => ?_⟩
  unfold rf93 at h
  split at h
  · rw [← r93_eq] at h
    exact kbody_sound (c := c93) (by kernel_rfl) (Eq.mpr (show _ = B3 by kernel_rfl) q3) h
  · simp at h
end Go.AM
namespace Go.AM
open Go Go.Proofs
noncomputable def r94 (call : CallF) (fuel base : Nat) (x0 : Value) (x1 : Value) (m : M) : Res2 :=
  (k2 (xbox m x0) fun u1 m => (k2 (xbox m x1) fun u2 m => (k1 (mfieldAddr E.P 69 u1 0) fun u3 => (k1 (xload E.P m 3 u3) fun u4 => (k1 (mfieldAddr E.P 69 u2 0) fun u5 => (k1 (xload E.P m 3 u5) fun u6 => (k1 (mbin E .neq 3 u4 u6) fun u7 => (kb u7 (k1 (mfieldAddr E.P 69 u1 0) fun u8 => (k1 (xload E.P m 3 u8) fun u9 => (k1 (mfieldAddr E.P 69 u2 0) fun u10 => (k1 (xload E.P m 3 u10) fun u11 => (k1 (mbin E .lss 3 u9 u11) fun u12 => (fVal u12 fun v => some (.ret v, m))))))) (k1 (mfieldAddr E.P 69 u1 1) fun u13 => (k1 (xload E.P m 3 u13) fun u14 => (k1 (mfieldAddr E.P 69 u2 1) fun u15 => (k1 (xload E.P m 3 u15) fun u16 => (k1 (mbin E .lss 3 u14 u16) fun u17 => (kb u17 (fVal (.bool true) fun v => some (.ret v, m)) (k1 (mfieldAddr E.P 69 u1 1) fun u18 => (k1 (xload E.P m 3 u18) fun u19 => (k1 (mfieldAddr E.P 69 u2 1) fun u20 => (k1 (xload E.P m 3 u20) fun u21 => (k1 (mbin E .eql 3 u19 u21) fun u22 => (kbu u22 (k1 (mfieldAddr E.P 69 u1 2) fun u23 => (k1 (xload E.P m 3 u23) fun u24 => (k1 (mfieldAddr E.P 69 u2 2) fun u25 => (k1 (xload E.P m 3 u25) fun u26 => (k1 (mbin E .lss 3 u24 u26) fun u27 => (fVal u27 fun v => some (.ret v, m))))))) (fVal (.bool false) fun v => some (.ret v, m)) (k0 (mpick undef undef (.bool false)) fun u28 => (fVal u28 fun v => some (.ret v, m)))))))))))))))))))))))
def keep94 : Keep := { region := fun i => ([[2, 3], [2, 3, 9], [4], [4]] : List (List Nat))[i]?, exit := fun i => ([] : List (List Nat))[i]?, ret := some [4] }
noncomputable def lp94 (call : CallF) (fuel base : Nat) : Lp := lpsel []
noncomputable def c94 : Code := Try.f94.body.getD .skip
theorem r94_eq (call : CallF) (fuel base : Nat) (x0 : Value) (x1 : Value) (m : M) : kbody E call keep94 (lp94 call fuel base) base Try.f94 [x0, x1] m = r94 call fuel base x0 x1 m := by
  kernel_rfl
noncomputable def rf94 : RF := fun call fuel base args m => match args with
  | [x0, x1] => r94 call fuel base x0 x1 m
  | _ => none
theorem rf94_ok : RFok E 94 rf94 := by
  show RFok' E 94 rf94
  refine ⟨Try.f94, (by kernel_rfl), fun call fuel base args m r _ h => ?_⟩
  unfold rf94 at h
  split at h
  · rw [← r94_eq] at h
    exact kbody_sound (c := c94) (by kernel_rfl) (Eq.mpr (show _ = (And True D5) by kernel_rfl) ⟨trivial, e5⟩) h
  · simp at h
end Go.AM
namespace Go.AM
open Go Go.Proofs
noncomputable def r97 (call : CallF) (fuel base : Nat) (m : M) : Res2 :=
  (k2 (xalloc E.P m 120) fun u1 m => (k1 (mbuild E.P 120 [(0, (.func (.func 111) #[] #[])), (1, (.func (.func 112) #[] #[])), (2, (.func (.func 113) #[] #[]))]) fun u2 => (ks (xstore E.P base m 120 u1 u2) fun m => (k0 (mload E.P m 120 u1) fun r_3 => (fVal r_3 fun v => some (.ret v, m))))))
def keep97 : Keep := { region := fun i => ([[0], [0]] : List (List Nat))[i]?, exit := fun i => ([] : List (List Nat))[i]?, ret := some [0] }
noncomputable def lp97 (call : CallF) (fuel base : Nat) : Lp := lpsel []
noncomputable def c97 : Code := Try.f97.body.getD .skip
theorem r97_eq (call : CallF) (fuel base : Nat) (m : M) : kbody E call keep97 (lp97 call fuel base) base Try.f97 [] m = r97 call fuel base  m := by
  kernel_rfl
noncomputable def rf97 : RF := fun call fuel base args m => match args with
  | [] => r97 call fuel base  m
  | _ => none
theorem rf97_ok : RFok E 97 rf97 := by
  show RFok' E 97 rf97
  refine ⟨Try.f97, (by kernel_rfl), fun call fuel base args m r _ h => ?_⟩
  unfold rf97 at h
  split at h
  · rw [← r97_eq] at h
    exact kbody_sound (c := c97) (by kernel_rfl) (Eq.mpr (show _ = B3 by kernel_rfl) q3) h
  · simp at h
end Go.AM
namespace Go.AM
open Go Go.Proofs
noncomputable def r98_L0 (call : CallF) (fuel base : Nat) (kr : Value → M → Res2) (kx0 : M → Res2) (n : Nat) : Value → Value → Value → M → Res2 :=
  Nat.rec (motive := fun _ => Value → Value → Value → M → Res2) (fun _ _ _ _ => none)
    (fun _ ih x0 x1 x5 m =>
      (k2 (vcall E.P base m .len [33] [x0]) fun u1 m => (k1 (mbin E .lss 3 x5 u1) fun u2 => (kb u2 (k1 (mindexAddr E.P 33 x0 x5) fun u3 => (k1 (xload E.P m 27 u3) fun u4 => (k1 (mindexAddr E.P 27 u4 x1) fun u5 => (k1 (xload E.P m 3 u5) fun u6 => (k1 (mbin E .neq 3 u6 (.int .i64 0)) fun u7 => (kb u7 (kr x5 m) (k1 (mbin E .add 3 x5 (.int .i64 1)) fun u8 => (ih x0 x1 u8 m)))))))) (kx0 m))))) n
noncomputable def r98 (call : CallF) (fuel base : Nat) (x0 : Value) (x1 : Value) (m : M) : Res2 :=
  (r98_L0 call fuel base (fun w9 m => (fVal w9 fun v => some (.ret v, m))) (fun m => (fVal (.int .i64 (-1)) fun v => some (.ret v, m))) fuel x0 x1 x1 m)
def keep98 : Keep := { region := fun i => ([[0, 1], [0, 1, 5], [0, 1, 5, 10], [0, 1, 5], [0, 1, 5, 20], [4], [4]] : List (List Nat))[i]?, exit := fun i => ([[], [0, 1, 5]] : List (List Nat))[i]?, ret := some [4] }
noncomputable def r98_L0_R (call : CallF) (fuel base n : Nat) (vs : List Value) (m : M) (K : KT) : Res2 := match vs with
  | [x0, x1, x5] => r98_L0 call fuel base (fun y4 m => K .ret { n := 22, l := [(4, y4)] } m) (fun m => K (.exit 0) { n := 22, l := [] } m) n x0 x1 x5 m
  | _ => none
noncomputable def lp98 (call : CallF) (fuel base : Nat) : Lp := lpsel [(0, fun T m K => kslots 22 [0, 1, 5] T fun vs => r98_L0_R call fuel base fuel vs m K)]
noncomputable def c98 : Code := Try.f98.body.getD .skip
noncomputable def p98_0 : Code := loopB (blockB (seqR (seqL (seqR c98))))
theorem r98_L0_ok (call : CallF) (fuel base : Nat) : LQ lp98 call fuel base 0 p98_0 := by
  refine loop_ok (kp := keep98) (hb := Eq.mpr (show _ = (And B3 (And D3 True)) by kernel_rfl) ⟨q3, ⟨e3, trivial⟩⟩) 22 [0, 1, 5] (r98_L0_R call fuel base) ?_ ?_ (fun _ _ _ => rfl)
  · intro vs m K
    unfold r98_L0_R
    split <;> rfl
  · intro n vs m K hl
    match vs, hl with
    | [x0, x1, x5], _ => show _ = _; kernel_rfl
theorem r98_eq (call : CallF) (fuel base : Nat) (x0 : Value) (x1 : Value) (m : M) : kbody E call keep98 (lp98 call fuel base) base Try.f98 [x0, x1] m = r98 call fuel base x0 x1 m := by
  kernel_rfl
noncomputable def rf98 : RF := fun call fuel base args m => match args with
  | [x0, x1] => r98 call fuel base x0 x1 m
  | _ => none
theorem rf98_ok : RFok E 98 rf98 := by
  show RFok' E 98 rf98
  refine ⟨Try.f98, (by kernel_rfl), fun call fuel base args m r _ h => ?_⟩
  unfold rf98 at h
  split at h
  · rw [← r98_eq] at h
    exact kbody_sound (c := c98) (by kernel_rfl) (Eq.mpr (show _ = (And True (And (And True (LQ lp98 call fuel base 0 p98_0)) B2)) by kernel_rfl) ⟨trivial, ⟨⟨trivial, (r98_L0_ok call fuel base)⟩, q2⟩⟩) h
  · simp at h
end Go.AM
namespace Go.AM
open Go Go.Proofs
noncomputable def r99_L2 (call : CallF) (fuel base : Nat) (kx2 : Value → Value → Value → Value → Value → M → Res2) (n : Nat) : Value → Value → Value → Value → Value → Value → M → Res2 :=
  Nat.rec (motive := fun _ => Value → Value → Value → Value → Value → Value → M → Res2) (fun _ _ _ _ _ _ _ => none)
    (fun _ ih x0 x1 x2 x7 x8 x9 m =>
      (k2 (vcall E.P base m .len [33] [x0]) fun u6 m => (k1 (mbin E .lss 3 x9 u6) fun u7 => (kb u7 (k1 (mfieldAddr E.P 120 x7 1) fun u8 => (k1 (xload E.P m 56 u8) fun u9 => (k1 (mfieldAddr E.P 120 x7 0) fun u10 => (k1 (xload E.P m 56 u10) fun u11 => (k1 (mindexAddr E.P 33 x0 x1) fun u12 => (k1 (xload E.P m 27 u12) fun u13 => (k1 (mindexAddr E.P 27 u13 x1) fun u14 => (k1 (xload E.P m 3 u14) fun u15 => (k1 (mindexAddr E.P 33 x0 x8) fun u16 => (k1 (xload E.P m 27 u16) fun u17 => (k1 (mindexAddr E.P 27 u17 x9) fun u18 => (k1 (xload E.P m 3 u18) fun u19 => (kc (kB m (kv call m.length u11 [u15, u19] m)) (fun u20 m => (k1 (mfieldAddr E.P 120 x7 0) fun u21 => (k1 (xload E.P m 56 u21) fun u22 => (k1 (mindexAddr E.P 33 x0 x8) fun u23 => (k1 (xload E.P m 27 u23) fun u24 => (k1 (mindexAddr E.P 27 u24 x1) fun u25 => (k1 (xload E.P m 3 u25) fun u26 => (k1 (mindexAddr E.P 33 x0 x1) fun u27 => (k1 (xload E.P m 27 u27) fun u28 => (k1 (mindexAddr E.P 27 u28 x9) fun u29 => (k1 (xload E.P m 3 u29) fun u30 => (kc (kB m (kv call m.length u22 [u26, u30] m)) (fun u31 m => (kc (kB m (kv call m.length u9 [u20, u31] m)) (fun u32 m => (k1 (mindexAddr E.P 33 x0 x8) fun u33 => (k1 (xload E.P m 27 u33) fun u34 => (k1 (mfieldAddr E.P 120 x7 2) fun u35 => (k1 (xload E.P m 56 u35) fun u36 => (kc (kB m (kv call m.length u36 [u32, x2] m)) (fun u37 m => (k1 (mindexAddr E.P 27 u34 x9) fun u38 => (ks (xstore E.P base m 3 u38 u37) fun m => (k1 (mbin E .add 3 x9 (.int .i64 1)) fun u39 => (ih x0 x1 x2 x7 x8 u39 m))))) (fun _ _ => none))))))) (fun _ _ => none))) (fun _ _ => none))))))))))))) (fun _ _ => none)))))))))))))) (kx2 x0 x1 x2 x7 x8 m))))) n
noncomputable def r99_L0 (call : CallF) (fuel base : Nat) (kx0 : M → Res2) (n : Nat) : Value → Value → Value → Value → Value → M → Res2 :=
  Nat.rec (motive := fun _ => Value → Value → Value → Value → Value → M → Res2) (fun _ _ _ _ _ _ => none)
    (fun _ ih x0 x1 x2 x7 x8 m =>
      (k2 (vcall E.P base m .len [33] [x0]) fun u3 m => (k1 (mbin E .lss 3 x8 u3) fun u4 => (kb u4 (k1 (mbin E .add 3 x1 (.int .i64 1)) fun u5 => (r99_L2 call fuel base (fun w40 w41 w42 w43 w44 m => (k1 (mbin E .add 3 w44 (.int .i64 1)) fun u45 => (ih w40 w41 w42 w43 u45 m))) fuel x0 x1 x2 x7 x8 u5 m)) (kx0 m))))) n
noncomputable def r99 (call : CallF) (fuel base : Nat) (x0 : Value) (x1 : Value) (x2 : Value) (x3 : Value) (m : M) : Res2 :=
  (k2 (xbox m x3) fun u1 m => (k1 (mbin E .add 3 x1 (.int .i64 1)) fun u2 => (r99_L0 call fuel base (fun m => (some (.ret (.tuple #[]), m))) fuel x0 x1 x2 u1 u2 m)))
def keep99 : Keep := { region := fun i => ([[0, 1, 2, 7], [0, 1, 2, 7, 8], [0, 1, 2, 7, 8, 16], [0, 1, 2, 7, 8], [0, 1, 2, 7, 8, 9], [0, 1, 2, 7, 8, 9, 24], [0, 1, 2, 7, 8, 9], [0, 1, 2, 7, 8, 9, 10], [0, 1, 2, 7, 8, 9]] : List (List Nat))[i]?, exit := fun i => ([[], [0, 1, 2, 7, 8], [0, 1, 2, 7, 8], [0, 1, 2, 7, 8, 9]] : List (List Nat))[i]?, ret := some [] }
noncomputable def r99_L2_R (call : CallF) (fuel base n : Nat) (vs : List Value) (m : M) (K : KT) : Res2 := match vs with
  | [x0, x1, x2, x7, x8, x9] => r99_L2 call fuel base (fun y0 y1 y2 y7 y8 m => K (.exit 2) { n := 75, l := [(0, y0), (1, y1), (2, y2), (7, y7), (8, y8)] } m) n x0 x1 x2 x7 x8 x9 m
  | _ => none
noncomputable def r99_L0_R (call : CallF) (fuel base n : Nat) (vs : List Value) (m : M) (K : KT) : Res2 := match vs with
  | [x0, x1, x2, x7, x8] => r99_L0 call fuel base (fun m => K (.exit 0) { n := 75, l := [] } m) n x0 x1 x2 x7 x8 m
  | _ => none
noncomputable def lp99 (call : CallF) (fuel base : Nat) : Lp := lpsel [(2, fun T m K => kslots 75 [0, 1, 2, 7, 8, 9] T fun vs => r99_L2_R call fuel base fuel vs m K), (0, fun T m K => kslots 75 [0, 1, 2, 7, 8] T fun vs => r99_L0_R call fuel base fuel vs m K)]
noncomputable def c99 : Code := Try.f99.body.getD .skip
noncomputable def p99_0 : Code := loopB (blockB (seqR (seqR c99)))
noncomputable def p99_2 : Code := loopB (blockB (seqR (blockB (seqL (seqR (loopB (blockB (seqR (seqR c99)))))))))
theorem r99_L2_ok (call : CallF) (fuel base : Nat) : LQ lp99 call fuel base 2 p99_2 := by
  refine loop_ok (kp := keep99) (hb := Eq.mpr (show _ = (And B3 D2) by kernel_rfl) ⟨q3, e2⟩) 75 [0, 1, 2, 7, 8, 9] (r99_L2_R call fuel base) ?_ ?_ (fun _ _ _ => rfl)
  · intro vs m K
    unfold r99_L2_R
    split <;> rfl
  · intro n vs m K hl
    match vs, hl with
    | [x0, x1, x2, x7, x8, x9], _ => show _ = _; kernel_rfl
theorem r99_L0_ok (call : CallF) (fuel base : Nat) : LQ lp99 call fuel base 0 p99_0 := by
  refine loop_ok (kp := keep99) (hb := Eq.mpr (show _ = (And B3 (And (And True (LQ lp99 call fuel base 2 p99_2)) True)) by kernel_rfl) ⟨q3, ⟨⟨trivial, (r99_L2_ok call fuel base)⟩, trivial⟩⟩) 75 [0, 1, 2, 7, 8] (r99_L0_R call fuel base) ?_ ?_ (fun _ _ _ => rfl)
  · intro vs m K
    unfold r99_L0_R
    split <;> rfl
  · intro n vs m K hl
    match vs, hl with
    | [x0, x1, x2, x7, x8], _ => show _ = _; kernel_rfl
theorem r99_eq (call : CallF) (fuel base : Nat) (x0 : Value) (x1 : Value) (x2 : Value) (x3 : Value) (m : M) : kbody E call keep99 (lp99 call fuel base) base Try.f99 [x0, x1, x2, x3] m = r99 call fuel base x0 x1 x2 x3 m := by
  kernel_rfl
noncomputable def rf99 : RF := fun call fuel base args m => match args with
  | [x0, x1, x2, x3] => r99 call fuel base x0 x1 x2 x3 m
  | _ => none
theorem rf99_ok : RFok E 99 rf99 := by
  show RFok' E 99 rf99
  refine ⟨Try.f99, (by kernel_rfl), fun call fuel base args m r _ h => ?_⟩
  unfold rf99 at h
  split at h
  · rw [← r99_eq] at h
    exact kbody_sound (c := c99) (by kernel_rfl) (Eq.mpr (show _ = (And True (And True (LQ lp99 call fuel base 0 p99_0))) by kernel_rfl) ⟨trivial, ⟨trivial, (r99_L0_ok call fuel base)⟩⟩) h
  · simp at h
end Go.AM
namespace Go.AM
open Go Go.Proofs
noncomputable def r101 (call : CallF) (fuel base : Nat) (x0 : Value) (m : M) : Res2 :=
  (k2 (xbox m x0) fun u1 m => (k2 (xalloc E.P m 104) fun u2 m => (k2 (xalloc E.P m 134) fun u3 m => (ks (xstore E.P base m 134 u3 (.func (.func 114) #[] #[u1, u2, u3])) fun m => (k1 (xload E.P m 134 u3) fun u4 => (k1 (mbuild E.P 76 []) fun u5 => (k1 (mfieldAddr E.P 23 u1 2) fun u6 => (k1 (xload E.P m 3 u6) fun u7 => (kc (kv call base u4 [u5, (.int .i64 0), u7] m) (fun u8 m => (k1 (xload E.P m 104 u2) fun u9 => (fVal u9 fun v => some (.ret v, m)))) (fun v m => some (.pan v, m)))))))))))
def keep101 : Keep := { region := fun i => ([[1], [1, 3], [1, 3, 4], [1, 3, 4], [3], [2]] : List (List Nat))[i]?, exit := fun i => ([] : List (List Nat))[i]?, ret := some [2] }
noncomputable def lp101 (call : CallF) (fuel base : Nat) : Lp := lpsel []
noncomputable def c101 : Code := Try.f101.body.getD .skip
theorem r101_eq (call : CallF) (fuel base : Nat) (x0 : Value) (m : M) : kbody E call keep101 (lp101 call fuel base) base Try.f101 [x0] m = r101 call fuel base x0 m := by
  kernel_rfl
noncomputable def rf101 : RF := fun call fuel base args m => match args with
  | [x0] => r101 call fuel base x0 m
  | _ => none
theorem rf101_ok : RFok E 101 rf101 := by
  show RFok' E 101 rf101
  refine ⟨Try.f101, (by kernel_rfl), fun call fuel base args m r _ h => ?_⟩
  unfold rf101 at h
  split at h
  · rw [← r101_eq] at h
    exact kbody_sound (c := c101) (by kernel_rfl) (Eq.mpr (show _ = (And True B6) by kernel_rfl) ⟨trivial, q6⟩) h
  · simp at h
end Go.AM
namespace Go.AM
open Go Go.Proofs
noncomputable def r103_L0 (call : CallF) (fuel base : Nat) (kr : Value → M → Res2) (kx0 : M → Res2) (n : Nat) : Value → Value → Value → M → Res2 :=
  Nat.rec (motive := fun _ => Value → Value → Value → M → Res2) (fun _ _ _ _ => none)
    (fun _ ih x3 x7 x8 m =>
      (k1 (mbin E .lss 3 x8 (.int .i64 4)) fun u4 => (kb u4 (k1 (mindex E.P 76 x7 x8) fun u5 => (k1 (mindexAddr E.P 76 x3 x8) fun u6 => (k1 (xload E.P m 3 u6) fun u7 => (k1 (mbin E .gtr 3 u5 u7) fun u8 => (kb u8 (kr (.bool false) m) (k1 (mbin E .add 3 x8 (.int .i64 1)) fun u9 => (ih x3 x7 u9 m))))))) (kx0 m)))) n
noncomputable def r103 (call : CallF) (fuel base : Nat) (x0 : Value) (x1 : Value) (m : M) : Res2 :=
  (k2 (xbox m x0) fun u1 m => (k2 (xbox m x1) fun u2 m => (k1 (xload E.P m 76 u1) fun u3 => (r103_L0 call fuel base (fun w10 m => (fVal w10 fun v => some (.ret v, m))) (fun m => (fVal (.bool true) fun v => some (.ret v, m))) fuel u2 u3 (.int .i64 0) m))))
def keep103 : Keep := { region := fun i => ([[2, 3], [3, 7, 8], [3, 7, 8, 9], [3, 5, 6, 7, 8], [3, 7, 8, 16], [4], [3, 7, 8], [4]] : List (List Nat))[i]?, exit := fun i => ([[], [3, 7, 8]] : List (List Nat))[i]?, ret := some [4] }
noncomputable def r103_L0_R (call : CallF) (fuel base n : Nat) (vs : List Value) (m : M) (K : KT) : Res2 := match vs with
  | [x3, x7, x8] => r103_L0 call fuel base (fun y4 m => K .ret { n := 18, l := [(4, y4)] } m) (fun m => K (.exit 0) { n := 18, l := [] } m) n x3 x7 x8 m
  | _ => none
noncomputable def lp103 (call : CallF) (fuel base : Nat) : Lp := lpsel [(0, fun T m K => kslots 18 [3, 7, 8] T fun vs => r103_L0_R call fuel base fuel vs m K)]
noncomputable def c103 : Code := Try.f103.body.getD .skip
noncomputable def p103_0 : Code := loopB (blockB (seqR (seqL (seqR c103))))
theorem r103_L0_ok (call : CallF) (fuel base : Nat) : LQ lp103 call fuel base 0 p103_0 := by
  refine loop_ok (kp := keep103) (hb := Eq.mpr (show _ = (And True (And B2 (And (And True D3) True))) by kernel_rfl) ⟨trivial, ⟨q2, ⟨⟨trivial, e3⟩, trivial⟩⟩⟩) 18 [3, 7, 8] (r103_L0_R call fuel base) ?_ ?_ (fun _ _ _ => rfl)
  · intro vs m K
    unfold r103_L0_R
    split <;> rfl
  · intro n vs m K hl
    match vs, hl with
    | [x3, x7, x8], _ => show _ = _; kernel_rfl
theorem r103_eq (call : CallF) (fuel base : Nat) (x0 : Value) (x1 : Value) (m : M) : kbody E call keep103 (lp103 call fuel base) base Try.f103 [x0, x1] m = r103 call fuel base x0 x1 m := by
  kernel_rfl
noncomputable def rf103 : RF := fun call fuel base args m => match args with
  | [x0, x1] => r103 call fuel base x0 x1 m
  | _ => none
theorem rf103_ok : RFok E 103 rf103 := by
  show RFok' E 103 rf103
  refine ⟨Try.f103, (by kernel_rfl), fun call fuel base args m r _ h => ?_⟩
  unfold rf103 at h
  split at h
  · rw [← r103_eq] at h
    exact kbody_sound (c := c103) (by kernel_rfl) (Eq.mpr (show _ = (And True (And (And True (LQ lp103 call fuel base 0 p103_0)) B2)) by kernel_rfl) ⟨trivial, ⟨⟨trivial, (r103_L0_ok call fuel base)⟩, q2⟩⟩) h
  · simp at h
end Go.AM
namespace Go.AM
open Go Go.Proofs
noncomputable def r104 (call : CallF) (fuel base : Nat) (x0 : Value) (x1 : Value) (x2 : Value) (m : M) : Res2 :=
  (k2 (xbox m x0) fun u1 m => (k1 (mbin E .lss 3 x1 (.int .i64 0)) fun u2 => (kb u2 (k1 (mfieldAddr E.P 79 u1 0) fun u3 => (k1 (mfieldAddr E.P 23 u3 2) fun u4 => (k1 (xload E.P m 3 u4) fun u5 => (fVal u5 fun v => some (.ret v, m))))) (k1 (mbin E .lss 3 x2 (.int .i64 0)) fun u6 => (kb u6 (k1 (mfieldAddr E.P 79 u1 0) fun u7 => (k1 (mfieldAddr E.P 23 u7 2) fun u8 => (k1 (xload E.P m 3 u8) fun u9 => (fVal u9 fun v => some (.ret v, m))))) (k1 (mfieldAddr E.P 79 u1 0) fun u10 => (k1 (mfieldAddr E.P 23 u10 0) fun u11 => (k1 (xload E.P m 3 u11) fun u12 => (k1 (mbin E .geq 3 x1 u12) fun u13 => (kb u13 (fVal (.int .i64 0) fun v => some (.ret v, m)) (k1 (mfieldAddr E.P 79 u1 0) fun u14 => (k1 (mfieldAddr E.P 23 u14 1) fun u15 => (k1 (xload E.P m 3 u15) fun u16 => (k1 (mbin E .geq 3 x2 u16) fun u17 => (kb u17 (fVal (.int .i64 0) fun v => some (.ret v, m)) (k1 (mfieldAddr E.P 79 u1 1) fun u18 => (k1 (mindexAddr E.P 77 u18 x1) fun u19 => (k1 (mindexAddr E.P 76 u19 x2) fun u20 => (k1 (xload E.P m 3 u20) fun u21 => (fVal u21 fun v => some (.ret v, m)))))))))))))))))))))
def keep104 : Keep := { region := fun i => ([[1, 2, 3], [6], [1, 2, 3, 13], [6], [1, 2, 3, 23], [6]] : List (List Nat))[i]?, exit := fun i => ([[6]] : List (List Nat))[i]?, ret := some [6] }
noncomputable def lp104 (call : CallF) (fuel base : Nat) : Lp := lpsel []
noncomputable def c104 : Code := Try.f104.body.getD .skip
theorem r104_eq (call : CallF) (fuel base : Nat) (x0 : Value) (x1 : Value) (x2 : Value) (m : M) : kbody E call keep104 (lp104 call fuel base) base Try.f104 [x0, x1, x2] m = r104 call fuel base x0 x1 x2 m := by
  kernel_rfl
noncomputable def rf104 : RF := fun call fuel base args m => match args with
  | [x0, x1, x2] => r104 call fuel base x0 x1 x2 m
  | _ => none
theorem rf104_ok : RFok E 104 rf104 := by
  show RFok' E 104 rf104
  refine ⟨Try.f104, (by kernel_rfl), fun call fuel base args m r _ h => ?_⟩
  unfold rf104 at h
  split at h
  · rw [← r104_eq] at h
    exact kbody_sound (c := c104) (by kernel_rfl) (Eq.mpr (show _ = (And True (And True (And B2 (And True D4)))) by kernel_rfl) ⟨trivial, ⟨trivial, ⟨q2, ⟨trivial, e4⟩⟩⟩⟩) h
  · simp at h
end Go.AM
namespace Go.AM
open Go Go.Proofs
noncomputable def r105_L0 (call : CallF) (fuel base : Nat) (kx0 : Value → M → Res2) (n : Nat) : Value → Value → M → Res2 :=
  Nat.rec (motive := fun _ => Value → Value → M → Res2) (fun _ _ _ => none)
    (fun _ ih x7 x8 m =>
      (k2 (vcall E.P base m .len [27] [x7]) fun u13 m => (k1 (mbin E .lss 3 x8 u13) fun u14 => (kb u14 (k1 (mslice E.P m 27 x7 (some x8) none none) fun u15 => (k1 (mslice E.P m 27 x7 none (some x8) none) fun u16 => (k2 (vcall E.P base m .copy [27, 27] [u15, u16]) fun u17 m => (k1 (mbin E .add 3 x8 u17) fun u18 => (ih x7 u18 m))))) (kx0 x7 m))))) n
noncomputable def r105 (call : CallF) (fuel base : Nat) (x0 : Value) (x1 : Value) (m : M) : Res2 :=
  (k1 (mbin E .lss 3 x1 (.int .i64 0)) fun u1 => (kb u1 none (k2 (vcall E.P base m .len [27] [x0]) fun u2 m => (k1 (mconvert E.P 3 132 u2) fun u3 => (k1 (mconvert E.P 3 132 x1) fun u4 => (kc (call base 115 [u3, u4] m) (fun u5 m => (k1 (mextract 0 u5) fun u6 => (k1 (mextract 1 u5) fun u7 => (k1 (mbin E .gtr 132 u6 (.int .u64 0)) fun u8 => (kb u8 none (k1 (mbin E .gtr 132 u7 (.int .u64 9223372036854775807)) fun u9 => (kb u9 none (k1 (mconvert E.P 132 3 u7) fun u10 => (k2 (xmakeSlice E.P m 27 u10 u10) fun u11 m => (k2 (vcall E.P base m .copy [27, 27] [u11, x0]) fun u12 m => (r105_L0 call fuel base (fun w19 m => (fVal w19 fun v => some (.ret v, m))) fuel u11 u12 m))))))))))) (fun v m => some (.pan v, m))))))))
def keep105 : Keep := { region := fun i => ([[0, 1], [0, 1, 10], [0, 1], [0, 5, 6], [0, 6, 26], [0, 6], [0, 7], [7, 8], [7, 8, 37], [7, 8], [4]] : List (List Nat))[i]?, exit := fun i => ([[7], [7, 8]] : List (List Nat))[i]?, ret := some [4] }
noncomputable def r105_L0_R (call : CallF) (fuel base n : Nat) (vs : List Value) (m : M) (K : KT) : Res2 := match vs with
  | [x7, x8] => r105_L0 call fuel base (fun y7 m => K (.exit 0) { n := 48, l := [(7, y7)] } m) n x7 x8 m
  | _ => none
noncomputable def lp105 (call : CallF) (fuel base : Nat) : Lp := lpsel [(0, fun T m K => kslots 48 [7, 8] T fun vs => r105_L0_R call fuel base fuel vs m K)]
noncomputable def c105 : Code := Try.f105.body.getD .skip
noncomputable def p105_0 : Code := loopB (blockB (seqL (seqR (seqR (seqR (seqR (seqR (seqR c105))))))))
theorem r105_L0_ok (call : CallF) (fuel base : Nat) : LQ lp105 call fuel base 0 p105_0 := by
  refine loop_ok (kp := keep105) (hb := Eq.mpr (show _ = (And B3 True) by kernel_rfl) ⟨q3, trivial⟩) 48 [7, 8] (r105_L0_R call fuel base) ?_ ?_ (fun _ _ _ => rfl)
  · intro vs m K
    unfold r105_L0_R
    split <;> rfl
  · intro n vs m K hl
    match vs, hl with
    | [x7, x8], _ => show _ = _; kernel_rfl
theorem r105_eq (call : CallF) (fuel base : Nat) (x0 : Value) (x1 : Value) (m : M) : kbody E call keep105 (lp105 call fuel base) base Try.f105 [x0, x1] m = r105 call fuel base x0 x1 m := by
  kernel_rfl
noncomputable def rf105 : RF := fun call fuel base args m => match args with
  | [x0, x1] => r105 call fuel base x0 x1 m
  | _ => none
theorem rf105_ok : RFok E 105 rf105 := by
  show RFok' E 105 rf105
  refine ⟨Try.f105, (by kernel_rfl), fun call fuel base args m r _ h => ?_⟩
  unfold rf105 at h
  split at h
  · rw [← r105_eq] at h
    exact kbody_sound (c := c105) (by kernel_rfl) (Eq.mpr (show _ = (And True (And B3 (And True (And B3 (And True (And True (And (LQ lp105 call fuel base 0 p105_0) B2))))))) by kernel_rfl) ⟨trivial, ⟨q3, ⟨trivial, ⟨q3, ⟨trivial, ⟨trivial, ⟨(r105_L0_ok call fuel base), q2⟩⟩⟩⟩⟩⟩⟩) h
  · simp at h
end Go.AM
namespace Go.AM
open Go Go.Proofs
noncomputable def r106_L0 (call : CallF) (fuel base : Nat) (kr : M → Res2) (kx0 : M → Res2) (n : Nat) : Value → Value → Value → Value → Value → Value → Value → M → Res2 :=
  Nat.rec (motive := fun _ => Value → Value → Value → Value → Value → Value → Value → M → Res2) (fun _ _ _ _ _ _ _ _ => none)
    (fun _ ih x0 x1 x2 x3 x8 x9 x10 m =>
      (k1 (mbin E .lss 3 x10 x9) fun u4 => (kb u4 (k1 (mindexAddr E.P 104 x8 x10) fun u5 => (k1 (xload E.P m 76 u5) fun u6 => (k2 (xalloc E.P m 76) fun u7 m => (ks (xstore E.P base m 76 u7 u6) fun m => (k1 (xload E.P m 76 u7) fun u8 => (k1 (xload E.P m 76 x2) fun u9 => (kc (kB m (call m.length 103 [u8, u9] m)) (fun u10 m => (kb u10 (k1 (xload E.P m 76 u7) fun u11 => (k1 (mfieldAddr E.P 106 x1 1) fun u12 => (k1 (xload E.P m 33 u12) fun u13 => (k1 (xload E.P m 3 x3) fun u14 => (k1 (mindexAddr E.P 33 u13 u14) fun u15 => (k1 (xload E.P m 27 u15) fun u16 => (k1 (mindexAddr E.P 27 u16 x10) fun u17 => (k1 (xload E.P m 3 u17) fun u18 => (kc (kv call base x0 [u11, u18] m) (fun u19 m => (k1 (mun .not u19) fun u20 => (kb u20 (kr m) (k1 (mbin E .add 3 x10 (.int .i64 1)) fun u21 => (ih x0 x1 x2 x3 x8 x9 u21 m))))) (fun _ _ => none)))))))))) (k1 (mbin E .add 3 x10 (.int .i64 1)) fun u22 => (ih x0 x1 x2 x3 x8 x9 u22 m)))) (fun _ _ => none)))))))) (kx0 m)))) n
noncomputable def r106 (call : CallF) (fuel base : Nat) (x0 : Value) (x1 : Value) (x2 : Value) (x3 : Value) (m : M) : Res2 :=
  (k1 (mfieldAddr E.P 106 x1 0) fun u1 => (k1 (xload E.P m 104 u1) fun u2 => (k2 (vcall E.P base m .len [104] [u2]) fun u3 m => (r106_L0 call fuel base (fun m => (some (.ret (.tuple #[]), m))) (fun m => (some (.ret (.tuple #[]), m))) fuel x0 x1 x2 x3 u2 u3 (.int .i64 0) m))))
def keep106 : Keep := { region := fun i => ([[0, 1, 2, 3, 8, 9, 10], [0, 1, 2, 3, 8, 9, 10, 11], [0, 1, 2, 3, 5, 6, 8, 9, 10], [0, 1, 2, 3, 8, 9, 10, 31], [0, 1, 2, 3, 8, 9, 10]] : List (List Nat))[i]?, exit := fun i => ([[], [0, 1, 2, 3, 8, 9, 10]] : List (List Nat))[i]?, ret := some [] }
noncomputable def r106_L0_R (call : CallF) (fuel base n : Nat) (vs : List Value) (m : M) (K : KT) : Res2 := match vs with
  | [x0, x1, x2, x3, x8, x9, x10] => r106_L0 call fuel base (fun m => K .ret { n := 33, l := [] } m) (fun m => K (.exit 0) { n := 33, l := [] } m) n x0 x1 x2 x3 x8 x9 x10 m
  | _ => none
noncomputable def lp106 (call : CallF) (fuel base : Nat) : Lp := lpsel [(0, fun T m K => kslots 33 [0, 1, 2, 3, 8, 9, 10] T fun vs => r106_L0_R call fuel base fuel vs m K)]
noncomputable def c106 : Code := Try.f106.body.getD .skip
noncomputable def p106_0 : Code := loopB (blockB (seqR c106))
theorem r106_L0_ok (call : CallF) (fuel base : Nat) : LQ lp106 call fuel base 0 p106_0 := by
  refine loop_ok (kp := keep106) (hb := Eq.mpr (show _ = (And True (And B2 (And B4 True))) by kernel_rfl) ⟨trivial, ⟨q2, ⟨q4, trivial⟩⟩⟩) 33 [0, 1, 2, 3, 8, 9, 10] (r106_L0_R call fuel base) ?_ ?_ (fun _ _ _ => rfl)
  · intro vs m K
    unfold r106_L0_R
    split <;> rfl
  · intro n vs m K hl
    match vs, hl with
    | [x0, x1, x2, x3, x8, x9, x10], _ => show _ = _; kernel_rfl
theorem r106_eq (call : CallF) (fuel base : Nat) (x0 : Value) (x1 : Value) (x2 : Value) (x3 : Value) (m : M) : kbody E call keep106 (lp106 call fuel base) base Try.f106 [x0, x1, x2, x3] m = r106 call fuel base x0 x1 x2 x3 m := by
  kernel_rfl
noncomputable def rf106 : RF := fun call fuel base args m => match args with
  | [x0, x1, x2, x3] => r106 call fuel base x0 x1 x2 x3 m
  | _ => none
theorem rf106_ok : RFok E 106 rf106 := by
  show RFok' E 106 rf106
  refine ⟨Try.f106, (by kernel_rfl), fun call fuel base args m r _ h => ?_⟩
  unfold rf106 at h
  split at h
  · rw [← r106_eq] at h
    exact kbody_sound (c := c106) (by kernel_rfl) (Eq.mpr (show _ = (And True (LQ lp106 call fuel base 0 p106_0)) by kernel_rfl) ⟨trivial, (r106_L0_ok call fuel base)⟩) h
  · simp at h
end Go.AM
namespace Go.AM
open Go Go.Proofs
noncomputable def pt107 (call : CallF) (base : Nat) (kp : Value → M → Res2) (kr : M → Res2) (ih : Value → Value → Value → Value → Value → Value → Value → M → Res2) (x0 x1 x2 x3 x4 x10 x11 u310 u1 : Value) (m : M) : Res2 :=
  (kc (call base 123 [x0, x1, x2, u310, x4] m) (fun u596 m => (k1 (mextract 0 u596) fun u597 => (k1 (mextract 1 u596) fun u598 => (k1 (mbin E .sub 3 u597 x1) fun u599 => (k1 (mbin E .sub 3 x2 u597) fun u600 => (k1 (mbin E .quo 3 u1 (.int .i64 8)) fun u601 => (k1 (mbin E .lss 3 u599 u600) fun u602 => (kb u602 (k1 (mbin E .geq 3 u599 u601) fun u603 => (kc (call base 107 [x0, x1, u597, x3, x4] m) (fun u604 m => (k1 (mbin E .add 3 u597 (.int .i64 1)) fun u605 => (ih x0 u605 x2 x3 x4 u603 u598 m))) (fun v m => kp v m))) (k1 (mbin E .geq 3 u600 u601) fun u606 => (k1 (mbin E .add 3 u597 (.int .i64 1)) fun u607 => (kc (call base 107 [x0, u607, x2, x3, x4] m) (fun u608 m => (ih x0 x1 u597 x3 x4 u606 u598 m)) (fun v m => kp v m)))))))))))) (fun v m => kp v m))
noncomputable def rs107 (call : CallF) (base : Nat) (kp : Value → M → Res2) (kr : M → Res2) (ih : Value → Value → Value → Value → Value → Value → Value → M → Res2) (x0 x1 x2 x3 x4 x10 x11 u310 u1 : Value) (m : M) : Res2 :=
  (k1 (mbin E .gtr 3 x1 (.int .i64 0)) fun u573 => (kb u573 (k1 (mbin E .sub 3 x1 (.int .i64 1)) fun u574 => (k1 (mindexAddr E.P 47 x0 u574) fun u575 => (k1 (xload E.P m 69 u575) fun u576 => (k1 (mindexAddr E.P 47 x0 u310) fun u577 => (k1 (xload E.P m 69 u577) fun u578 => (kc (kB m (kv call m.length x4 [u576, u578] m)) (fun u579 m => (k1 (mbin E .lss 3 u579 (.int .i64 0)) fun u580 => (k1 (mun .not u580) fun u581 => (kb u581 (kc (call base 122 [x0, x1, x2, u310, x4] m) (fun u582 m => (ih x0 u582 x2 x3 x4 x10 x11 m)) (fun v m => kp v m)) (pt107 call base kp kr ih x0 x1 x2 x3 x4 x10 x11 u310 u1 m))))) (fun _ _ => none))))))) (pt107 call base kp kr ih x0 x1 x2 x3 x4 x10 x11 u310 u1 m)))
noncomputable def pv107 (call : CallF) (base : Nat) (kp : Value → M → Res2) (kr : M → Res2) (ih : Value → Value → Value → Value → Value → Value → Value → M → Res2) (x0 x1 x2 x3 x4 x10 x11 u1 : Value) (m : M) : Res2 :=
  (kc (call base 119 [x0, x1, x2, x4] m) (fun u309 m => (k1 (mextract 0 u309) fun u310 => (k1 (mextract 1 u309) fun u311 => (k1 (mbin E .eql 138 u311 (.int .i64 2)) fun u312 => (kb u312 (kc (call base 120 [x0, x1, x2, x4] m) (fun u313 m => (k1 (mbin E .sub 3 x2 (.int .i64 1)) fun u314 => (k1 (mbin E .sub 3 u310 x1) fun u315 => (k1 (mbin E .sub 3 u314 u315) fun u316 => (kb x10 (kb x11 (k1 (mbin E .eql 138 (.int .i64 1) (.int .i64 1)) fun u317 => (kb u317 (kc (call base 121 [x0, x1, x2, x4] m) (fun u318 m => (kb u318 (kr m) (rs107 call base kp kr ih x0 x1 x2 x3 x4 x10 x11 u316 u1 m))) (fun v m => kp v m)) (rs107 call base kp kr ih x0 x1 x2 x3 x4 x10 x11 u316 u1 m))) (rs107 call base kp kr ih x0 x1 x2 x3 x4 x10 x11 u316 u1 m)) (rs107 call base kp kr ih x0 x1 x2 x3 x4 x10 x11 u316 u1 m)))))) (fun v m => kp v m)) (kb x10 (kb x11 (k1 (mbin E .eql 138 u311 (.int .i64 1)) fun u463 => (kb u463 (kc (call base 121 [x0, x1, x2, x4] m) (fun u464 m => (kb u464 (kr m) (rs107 call base kp kr ih x0 x1 x2 x3 x4 x10 x11 u310 u1 m))) (fun v m => kp v m)) (rs107 call base kp kr ih x0 x1 x2 x3 x4 x10 x11 u310 u1 m))) (rs107 call base kp kr ih x0 x1 x2 x3 x4 x10 x11 u310 u1 m)) (rs107 call base kp kr ih x0 x1 x2 x3 x4 x10 x11 u310 u1 m))))))) (fun v m => kp v m))
noncomputable def r107_L0 (call : CallF) (fuel base : Nat) (kp : Value → M → Res2) (kr : M → Res2) (n : Nat) : Value → Value → Value → Value → Value → Value → Value → M → Res2 :=
  Nat.rec (motive := fun _ => Value → Value → Value → Value → Value → Value → Value → M → Res2) (fun _ _ _ _ _ _ _ _ => none)
    (fun _ ih x0 x1 x2 x3 x4 x10 x11 m =>
(k1 (mbin E .sub 3 x2 x1) fun u1 => (k1 (mbin E .leq 3 u1 (.int .i64 12)) fun u2 => (kb u2 (kc (call base 116 [x0, x1, x2, x4] m) (fun u3 m => (kr m)) (fun v m => kp v m)) (k1 (mbin E .eql 3 x3 (.int .i64 0)) fun u4 => (kb u4 (kc (call base 117 [x0, x1, x2, x4] m) (fun u5 m => (kr m)) (fun v m => kp v m)) (k1 (mun .not x10) fun u6 => (kb u6 (kc (call base 118 [x0, x1, x2, x4] m) (fun u7 m => (k1 (mbin E .sub 3 x3 (.int .i64 1)) fun u8 => (pv107 call base kp kr ih x0 x1 x2 u8 x4 x10 x11 u1 m))) (fun v m => kp v m)) (pv107 call base kp kr ih x0 x1 x2 x3 x4 x10 x11 u1 m))))))))) n
noncomputable def r107 (call : CallF) (fuel base : Nat) (x0 : Value) (x1 : Value) (x2 : Value) (x3 : Value) (x4 : Value) (m : M) : Res2 :=
  (r107_L0 call fuel base (fun v m => some (.pan v, m)) (fun m => (some (.ret (.tuple #[]), m))) fuel x0 x1 x2 x3 x4 (.bool true) (.bool true) m)
def keep107 : Keep := { region := fun i => ([[0, 1, 2, 3, 4, 10], [0, 1, 2, 3, 4, 10, 11], [0, 1, 2, 3, 4, 10, 11, 12], [0, 1, 2, 3, 4, 10, 11, 12, 25], [], [0, 1, 2, 3, 4, 10, 11, 12, 32], [], [0, 1, 2, 3, 4, 10, 11, 12, 39], [0, 1, 2, 3, 4, 10, 11, 12], [0, 1, 2, 3, 4, 10, 11, 12], [0, 1, 2, 3, 4, 10, 11, 12, 13, 14], [0, 1, 2, 3, 4, 10, 11, 12, 13, 14, 56], [0, 1, 2, 3, 4, 10, 11, 12, 13], [0, 1, 2, 3, 4, 10, 11, 12, 13], [0, 1, 2, 3, 4, 10, 11, 12, 13, 14], [0, 1, 2, 3, 4, 10, 11, 12, 13, 75], [0, 1, 2, 3, 4, 10, 11, 12, 13, 80], [0, 1, 2, 3, 4, 10, 11, 12, 13, 97], [0, 2, 3, 4, 10, 11, 15], [0, 1, 2, 3, 4, 10, 11], [0, 1, 2, 3, 4, 12, 16, 17], [0, 1, 2, 3, 4, 11, 12, 16], [0, 1, 2, 3, 4, 11, 12, 16, 18, 19], [0, 1, 2, 3, 4, 11, 16, 18, 19, 20], [0, 1, 2, 3, 4, 11, 16, 18, 19, 20, 125], [0, 1, 2, 3, 4, 10, 11, 16], [0, 2, 3, 4, 10, 11, 16], [0, 1, 2, 3, 4, 10, 11], [0, 1, 2, 3, 4, 10, 11, 16], [0, 1, 3, 4, 10, 11, 16], [0, 1, 2, 3, 4, 10, 11]] : List (List Nat))[i]?, exit := fun i => ([[], [0, 1, 2, 3, 4, 10, 11]] : List (List Nat))[i]?, ret := some [] }
noncomputable def r107_L0_R (call : CallF) (fuel base n : Nat) (vs : List Value) (m : M) (K : KT) : Res2 := match vs with
  | [x0, x1, x2, x3, x4, x10, x11] => r107_L0 call fuel base (fun v m => K (.pan v) { n := 148, l := [] } m) (fun m => K .ret { n := 148, l := [] } m) n x0 x1 x2 x3 x4 x10 x11 m
  | _ => none
noncomputable def lp107 (call : CallF) (fuel base : Nat) : Lp := lpsel [(0, fun T m K => kslots 148 [0, 1, 2, 3, 4, 10, 11] T fun vs => r107_L0_R call fuel base fuel vs m K)]
noncomputable def c107 : Code := Try.f107.body.getD .skip
noncomputable def p107_0 : Code := loopB (blockB (seqR (seqR c107)))
theorem r107_L0_ok (call : CallF) (fuel base : Nat) : LQ lp107 call fuel base 0 p107_0 := by
  refine loop_ok (kp := keep107) (hb := Eq.mpr (show _ = (And True (And D3 (And D3 (And D3 (And True (And (And True (And B3 True)) (And (And True (And B3 True)) (And (And True (And B3 True)) (And True (And True (And True (And True (And True (And B3 B3)))))))))))))) by kernel_rfl) ⟨trivial, ⟨e3, ⟨e3, ⟨e3, ⟨trivial, ⟨⟨trivial, ⟨q3, trivial⟩⟩, ⟨⟨trivial, ⟨q3, trivial⟩⟩, ⟨⟨trivial, ⟨q3, trivial⟩⟩, ⟨trivial, ⟨trivial, ⟨trivial, ⟨trivial, ⟨trivial, ⟨q3, q3⟩⟩⟩⟩⟩⟩⟩⟩⟩⟩⟩⟩⟩⟩) 148 [0, 1, 2, 3, 4, 10, 11] (r107_L0_R call fuel base) ?_ ?_ (fun _ _ _ => rfl)
  · intro vs m K
    unfold r107_L0_R
    split <;> rfl
  · intro n vs m K hl
    match vs, hl with
    | [x0, x1, x2, x3, x4, x10, x11], _ => show _ = _; kernel_rfl
theorem r107_eq (call : CallF) (fuel base : Nat) (x0 : Value) (x1 : Value) (x2 : Value) (x3 : Value) (x4 : Value) (m : M) : kbody E call keep107 (lp107 call fuel base) base Try.f107 [x0, x1, x2, x3, x4] m = r107 call fuel base x0 x1 x2 x3 x4 m := by
  kernel_rfl
noncomputable def rf107 : RF := fun call fuel base args m => match args with
  | [x0, x1, x2, x3, x4] => r107 call fuel base x0 x1 x2 x3 x4 m
  | _ => none
theorem rf107_ok : RFok E 107 rf107 := by
  show RFok' E 107 rf107
  refine ⟨Try.f107, (by kernel_rfl), fun call fuel base args m r _ h => ?_⟩
  unfold rf107 at h
  split at h
  · rw [← r107_eq] at h
    exact kbody_sound (c := c107) (by kernel_rfl) (Eq.mpr (show _ = (And True (And True (LQ lp107 call fuel base 0 p107_0))) by kernel_rfl) ⟨trivial, ⟨trivial, (r107_L0_ok call fuel base)⟩⟩) h
  · simp at h
end Go.AM
namespace Go.AM
open Go Go.Proofs
noncomputable def r108 (call : CallF) (fuel base : Nat) (x0 : Value) (m : M) : Res2 :=
  (kc (call base 125 [x0] m) (fun u1 m => (fVal u1 fun v => some (.ret v, m))) (fun v m => some (.pan v, m)))
def keep108 : Keep := { region := fun i => ([[0], [2], [2]] : List (List Nat))[i]?, exit := fun i => ([] : List (List Nat))[i]?, ret := some [2] }
noncomputable def lp108 (call : CallF) (fuel base : Nat) : Lp := lpsel []
noncomputable def c108 : Code := Try.f108.body.getD .skip
theorem r108_eq (call : CallF) (fuel base : Nat) (x0 : Value) (m : M) : kbody E call keep108 (lp108 call fuel base) base Try.f108 [x0] m = r108 call fuel base x0 m := by
  kernel_rfl
noncomputable def rf108 : RF := fun call fuel base args m => match args with
  | [x0] => r108 call fuel base x0 m
  | _ => none
theorem rf108_ok : RFok E 108 rf108 := by
  show RFok' E 108 rf108
  refine ⟨Try.f108, (by kernel_rfl), fun call fuel base args m r _ h => ?_⟩
  unfold rf108 at h
  split at h
  · rw [← r108_eq] at h
    exact kbody_sound (c := c108) (by kernel_rfl) (Eq.mpr (show _ = (And True (And D2 B2)) by kernel_rfl) ⟨trivial, ⟨e2, q2⟩⟩) h
  · simp at h
end Go.AM
namespace Go.AM
open Go Go.Proofs
noncomputable def r109_L0 (call : CallF) (fuel base : Nat) (kr : Value → M → Res2) (kx0 : Value → M → Res2) (n : Nat) : Value → Value → Value → Value → M → Res2 :=
  Nat.rec (motive := fun _ => Value → Value → Value → Value → M → Res2) (fun _ _ _ _ _ => none)
    (fun _ ih x3 x6 x7 x8 m =>
      (k1 (mbin E .lss 3 x8 x7) fun u2 => (kb u2 (k1 (mindexAddr E.P 27 x6 x8) fun u3 => (k1 (xload E.P m 3 u3) fun u4 => (k1 (mbin E .neq 3 u4 x3) fun u5 => (kb u5 (kr u4 m) (k1 (mbin E .add 3 x8 (.int .i64 1)) fun u6 => (ih x3 x6 x7 u6 m)))))) (kx0 x3 m)))) n
noncomputable def r109 (call : CallF) (fuel base : Nat) (x0 : Value) (m : M) : Res2 :=
  (k2 (vcall E.P base m .len [27] [x0]) fun u1 m => (r109_L0 call fuel base (fun w7 m => (fVal w7 fun v => some (.ret v, m))) (fun w8 m => (fVal w8 fun v => some (.ret v, m))) fuel (.int .i64 0) x0 u1 (.int .i64 0) m))
def keep109 : Keep := { region := fun i => ([[0], [0, 3], [3, 6, 7, 8], [3, 6, 7, 8, 9], [3, 5, 6, 7, 8], [3, 5, 6, 7, 8, 14], [2], [3, 6, 7, 8], [2]] : List (List Nat))[i]?, exit := fun i => ([[3], [3, 6, 7, 8]] : List (List Nat))[i]?, ret := some [2] }
noncomputable def r109_L0_R (call : CallF) (fuel base n : Nat) (vs : List Value) (m : M) (K : KT) : Res2 := match vs with
  | [x3, x6, x7, x8] => r109_L0 call fuel base (fun y2 m => K .ret { n := 18, l := [(2, y2)] } m) (fun y3 m => K (.exit 0) { n := 18, l := [(3, y3)] } m) n x3 x6 x7 x8 m
  | _ => none
noncomputable def lp109 (call : CallF) (fuel base : Nat) : Lp := lpsel [(0, fun T m K => kslots 18 [3, 6, 7, 8] T fun vs => r109_L0_R call fuel base fuel vs m K)]
noncomputable def c109 : Code := Try.f109.body.getD .skip
noncomputable def p109_0 : Code := loopB (blockB (seqR (seqL (seqR (seqR c109)))))
theorem r109_L0_ok (call : CallF) (fuel base : Nat) : LQ lp109 call fuel base 0 p109_0 := by
  refine loop_ok (kp := keep109) (hb := Eq.mpr (show _ = (And True (And B2 (And (And True D3) True))) by kernel_rfl) ⟨trivial, ⟨q2, ⟨⟨trivial, e3⟩, trivial⟩⟩⟩) 18 [3, 6, 7, 8] (r109_L0_R call fuel base) ?_ ?_ (fun _ _ _ => rfl)
  · intro vs m K
    unfold r109_L0_R
    split <;> rfl
  · intro n vs m K hl
    match vs, hl with
    | [x3, x6, x7, x8], _ => show _ = _; kernel_rfl
theorem r109_eq (call : CallF) (fuel base : Nat) (x0 : Value) (m : M) : kbody E call keep109 (lp109 call fuel base) base Try.f109 [x0] m = r109 call fuel base x0 m := by
  kernel_rfl
noncomputable def rf109 : RF := fun call fuel base args m => match args with
  | [x0] => r109 call fuel base x0 m
  | _ => none
theorem rf109_ok : RFok E 109 rf109 := by
  show RFok' E 109 rf109
  refine ⟨Try.f109, (by kernel_rfl), fun call fuel base args m r _ h => ?_⟩
  unfold rf109 at h
  split at h
  · rw [← r109_eq] at h
    exact kbody_sound (c := c109) (by kernel_rfl) (Eq.mpr (show _ = (And True (And True (And (And True (LQ lp109 call fuel base 0 p109_0)) B2))) by kernel_rfl) ⟨trivial, ⟨trivial, ⟨⟨trivial, (r109_L0_ok call fuel base)⟩, q2⟩⟩⟩) h
  · simp at h
end Go.AM
namespace Go.AM
open Go Go.Proofs
noncomputable def r110 (call : CallF) (fuel base : Nat) (x0 : Value) (x1 : Value) (m : M) : Res2 :=
  (kc (call base 126 [x0] m) (fun u1 m => (kc (call base 126 [x1] m) (fun u2 m => (kb u1 (kb u2 (fVal (.int .i64 0) fun v => some (.ret v, m)) (fVal (.int .i64 (-1)) fun v => some (.ret v, m))) (kb u2 (fVal (.int .i64 1) fun v => some (.ret v, m)) (k1 (mbin E .lss 3 x0 x1) fun u3 => (kb u3 (fVal (.int .i64 (-1)) fun v => some (.ret v, m)) (k1 (mbin E .gtr 3 x0 x1) fun u4 => (kb u4 (fVal (.int .i64 1) fun v => some (.ret v, m)) (fVal (.int .i64 0) fun v => some (.ret v, m))))))))) (fun v m => some (.pan v, m)))) (fun v m => some (.pan v, m)))
def keep110 : Keep := { region := fun i => ([[0, 1], [0, 1, 5], [0, 1, 5, 6], [0, 1, 6, 11], [12], [4], [4], [0, 1, 13], [4], [0, 1, 16], [4], [19], [4], [4]] : List (List Nat))[i]?, exit := fun i => ([] : List (List Nat))[i]?, ret := some [4] }
noncomputable def lp110 (call : CallF) (fuel base : Nat) : Lp := lpsel []
noncomputable def c110 : Code := Try.f110.body.getD .skip
theorem r110_eq (call : CallF) (fuel base : Nat) (x0 : Value) (x1 : Value) (m : M) : kbody E call keep110 (lp110 call fuel base) base Try.f110 [x0, x1] m = r110 call fuel base x0 x1 m := by
  kernel_rfl
noncomputable def rf110 : RF := fun call fuel base args m => match args with
  | [x0, x1] => r110 call fuel base x0 x1 m
  | _ => none
theorem rf110_ok : RFok E 110 rf110 := by
  show RFok' E 110 rf110
  refine ⟨Try.f110, (by kernel_rfl), fun call fuel base args m r _ h => ?_⟩
  unfold rf110 at h
  split at h
  · rw [← r110_eq] at h
    exact kbody_sound (c := c110) (by kernel_rfl) (Eq.mpr (show _ = (And True (And True (And True (And (And True (And D5 True)) (And D3 (And D3 D5)))))) by kernel_rfl) ⟨trivial, ⟨trivial, ⟨trivial, ⟨⟨trivial, ⟨e5, trivial⟩⟩, ⟨e3, ⟨e3, e5⟩⟩⟩⟩⟩⟩) h
  · simp at h
end Go.AM
namespace Go.AM
open Go Go.Proofs
noncomputable def r111 (call : CallF) (fuel base : Nat) (x0 : Value) (x1 : Value) (m : M) : Res2 :=
  (k1 (mbin E .mul 3 x0 x1) fun u1 => (fVal u1 fun v => some (.ret v, m)))
def keep111 : Keep := { region := fun i => ([[0, 1], [4]] : List (List Nat))[i]?, exit := fun i => ([] : List (List Nat))[i]?, ret := some [4] }
noncomputable def lp111 (call : CallF) (fuel base : Nat) : Lp := lpsel []
noncomputable def c111 : Code := Try.f111.body.getD .skip
theorem r111_eq (call : CallF) (fuel base : Nat) (x0 : Value) (x1 : Value) (m : M) : kbody E call keep111 (lp111 call fuel base) base Try.f111 [x0, x1] m = r111 call fuel base x0 x1 m := by
  kernel_rfl
noncomputable def rf111 : RF := fun call fuel base args m => match args with
  | [x0, x1] => r111 call fuel base x0 x1 m
  | _ => none
theorem rf111_ok : RFok E 111 rf111 := by
  show RFok' E 111 rf111
  refine ⟨Try.f111, (by kernel_rfl), fun call fuel base args m r _ h => ?_⟩
  unfold rf111 at h
  split at h
  · rw [← r111_eq] at h
    exact kbody_sound (c := c111) (by kernel_rfl) (Eq.mpr (show _ = B3 by kernel_rfl) q3) h
  · simp at h
end Go.AM
namespace Go.AM
open Go Go.Proofs
noncomputable def r112 (call : CallF) (fuel base : Nat) (x0 : Value) (x1 : Value) (m : M) : Res2 :=
  (k1 (mbin E .sub 3 x0 x1) fun u1 => (fVal u1 fun v => some (.ret v, m)))
def keep112 : Keep := { region := fun i => ([[0, 1], [4]] : List (List Nat))[i]?, exit := fun i => ([] : List (List Nat))[i]?, ret := some [4] }
noncomputable def lp112 (call : CallF) (fuel base : Nat) : Lp := lpsel []
noncomputable def c112 : Code := Try.f112.body.getD .skip
theorem r112_eq (call : CallF) (fuel base : Nat) (x0 : Value) (x1 : Value) (m : M) : kbody E call keep112 (lp112 call fuel base) base Try.f112 [x0, x1] m = r112 call fuel base x0 x1 m := by
  kernel_rfl
noncomputable def rf112 : RF := fun call fuel base args m => match args with
  | [x0, x1] => r112 call fuel base x0 x1 m
  | _ => none
theorem rf112_ok : RFok E 112 rf112 := by
  show RFok' E 112 rf112
  refine ⟨Try.f112, (by kernel_rfl), fun call fuel base args m r _ h => ?_⟩
  unfold rf112 at h
  split at h
  · rw [← r112_eq] at h
    exact kbody_sound (c := c112) (by kernel_rfl) (Eq.mpr (show _ = B3 by kernel_rfl) q3) h
  · simp at h
end Go.AM
namespace Go.AM
open Go Go.Proofs
noncomputable def r113 (call : CallF) (fuel base : Nat) (x0 : Value) (x1 : Value) (m : M) : Res2 :=
  (k1 (mbin E .quo 3 x0 x1) fun u1 => (fVal u1 fun v => some (.ret v, m)))
def keep113 : Keep := { region := fun i => ([[0, 1], [4]] : List (List Nat))[i]?, exit := fun i => ([] : List (List Nat))[i]?, ret := some [4] }
noncomputable def lp113 (call : CallF) (fuel base : Nat) : Lp := lpsel []
noncomputable def c113 : Code := Try.f113.body.getD .skip
theorem r113_eq (call : CallF) (fuel base : Nat) (x0 : Value) (x1 : Value) (m : M) : kbody E call keep113 (lp113 call fuel base) base Try.f113 [x0, x1] m = r113 call fuel base x0 x1 m := by
  kernel_rfl
noncomputable def rf113 : RF := fun call fuel base args m => match args with
  | [x0, x1] => r113 call fuel base x0 x1 m
  | _ => none
theorem rf113_ok : RFok E 113 rf113 := by
  show RFok' E 113 rf113
  refine ⟨Try.f113, (by kernel_rfl), fun call fuel base args m r _ h => ?_⟩
  unfold rf113 at h
  split at h
  · rw [← r113_eq] at h
    exact kbody_sound (c := c113) (by kernel_rfl) (Eq.mpr (show _ = B3 by kernel_rfl) q3) h
  · simp at h
end Go.AM
namespace Go.AM
open Go Go.Proofs
noncomputable def r114_L0 (call : CallF) (fuel base : Nat) (kp : Value → M → Res2) (kx0 : M → Res2) (n : Nat) : Value → Value → Value → Value → Value → M → Res2 :=
  Nat.rec (motive := fun _ => Value → Value → Value → Value → Value → M → Res2) (fun _ _ _ _ _ _ => none)
    (fun _ ih x1 x5 x6 x19 x20 m =>
      (k1 (mbin E .lss 3 x20 x19) fun u10 => (kb u10 (k1 (mindexAddr E.P 76 x6 x1) fun u11 => (ks (xstore E.P base m 3 u11 x20) fun m => (k1 (xload E.P m 134 x5) fun u12 => (k1 (xload E.P m 76 x6) fun u13 => (k1 (mbin E .add 3 x1 (.int .i64 1)) fun u14 => (kc (kv call base u12 [u13, u14, x20] m) (fun u15 m => (k1 (mbin E .add 3 x20 (.int .i64 1)) fun u16 => (ih x1 x5 x6 x19 u16 m))) (fun v m => kp v m))))))) (kx0 m)))) n
noncomputable def r114 (call : CallF) (fuel base : Nat) (x0 : Value) (x1 : Value) (x2 : Value) (x3 : Value) (x4 : Value) (x5 : Value) (m : M) : Res2 :=
  (k2 (xbox m x0) fun u1 m => (k1 (mfieldAddr E.P 23 x3 1) fun u2 => (k1 (xload E.P m 3 u2) fun u3 => (k1 (mbin E .eql 3 x1 u3) fun u4 => (kb u4 (k1 (xload E.P m 104 x4) fun u5 => (k1 (xload E.P m 76 u1) fun u6 => (k2 (xbuildSlice E.P m 104 1 [(0, u6)]) fun u7 m => (k2 (vcall E.P base m .append [104, 104] [u5, u7]) fun u8 m => (ks (xstore E.P base m 104 x4 u8) fun m => (some (.ret (.tuple #[]), m))))))) (k1 (mbin E .add 3 x2 (.int .i64 1)) fun u9 => (r114_L0 call fuel base (fun v m => some (.pan v, m)) (fun m => (some (.ret (.tuple #[]), m))) fuel x1 x5 u1 u9 (.int .i64 0) m)))))))
def keep114 : Keep := { region := fun i => ([[1, 2, 3, 4, 5, 6], [1, 2, 4, 5, 6, 13], [], [1, 5, 6, 19, 20], [1, 5, 6, 19, 20, 21], [1, 5, 6, 9, 19, 20], [1, 5, 6, 9, 19, 20], [1, 5, 6, 19, 20], [1, 5, 6, 19, 20]] : List (List Nat))[i]?, exit := fun i => ([[], [1, 5, 6, 19, 20]] : List (List Nat))[i]?, ret := some [] }
noncomputable def r114_L0_R (call : CallF) (fuel base n : Nat) (vs : List Value) (m : M) (K : KT) : Res2 := match vs with
  | [x1, x5, x6, x19, x20] => r114_L0 call fuel base (fun v m => K (.pan v) { n := 33, l := [] } m) (fun m => K (.exit 0) { n := 33, l := [] } m) n x1 x5 x6 x19 x20 m
  | _ => none
noncomputable def lp114 (call : CallF) (fuel base : Nat) : Lp := lpsel [(0, fun T m K => kslots 33 [1, 5, 6, 19, 20] T fun vs => r114_L0_R call fuel base fuel vs m K)]
noncomputable def c114 : Code := Try.f114.body.getD .skip
noncomputable def p114_0 : Code := loopB (blockB (seqR (seqR (seqR c114))))
theorem r114_L0_ok (call : CallF) (fuel base : Nat) : LQ lp114 call fuel base 0 p114_0 := by
  refine loop_ok (kp := keep114) (hb := Eq.mpr (show _ = (And True (And B2 (And B3 True))) by kernel_rfl) ⟨trivial, ⟨q2, ⟨q3, trivial⟩⟩⟩) 33 [1, 5, 6, 19, 20] (r114_L0_R call fuel base) ?_ ?_ (fun _ _ _ => rfl)
  · intro vs m K
    unfold r114_L0_R
    split <;> rfl
  · intro n vs m K hl
    match vs, hl with
    | [x1, x5, x6, x19, x20], _ => show _ = _; kernel_rfl
theorem r114_eq (call : CallF) (fuel base : Nat) (x0 : Value) (x1 : Value) (x2 : Value) (x3 : Value) (x4 : Value) (x5 : Value) (m : M) : kbody E call keep114 (lp114 call fuel base) base Try.f114 [x0, x1, x2, x3, x4, x5] m = r114 call fuel base x0 x1 x2 x3 x4 x5 m := by
  kernel_rfl
noncomputable def rf114 : RF := fun call fuel base args m => match args with
  | [x0, x1, x2, x3, x4, x5] => r114 call fuel base x0 x1 x2 x3 x4 x5 m
  | _ => none
theorem rf114_ok : RFok E 114 rf114 := by
  show RFok' E 114 rf114
  refine ⟨Try.f114, (by kernel_rfl), fun call fuel base args m r _ h => ?_⟩
  unfold rf114 at h
  split at h
  · rw [← r114_eq] at h
    exact kbody_sound (c := c114) (by kernel_rfl) (Eq.mpr (show _ = (And True (And D3 (And True (LQ lp114 call fuel base 0 p114_0)))) by kernel_rfl) ⟨trivial, ⟨e3, ⟨trivial, (r114_L0_ok call fuel base)⟩⟩⟩) h
  · simp at h
end Go.AM
