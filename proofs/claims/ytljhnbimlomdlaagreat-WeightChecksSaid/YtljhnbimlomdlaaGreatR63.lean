import Derived.KernelRfl
import Derived.Laws.BytesArg
import Derived.Laws.StructEq
import Derived.RangeFuncLeaves
import Derived.RangeFuncRecord
import Derived.Test.YtljhnbimlomdlaaGreatProg
import Derived.Test.YtljhnbimlomdlaaGreatRows
import Derived.WalkKit
import Derived.Test.YtljhnbimlomdlaaGreatAmB
import Derived.Test.YtljhnbimlomdlaaGreatAmG
import Derived.Test.YtljhnbimlomdlaaGreatAmModel
import Derived.Test.YtljhnbimlomdlaaGreatAmRel
import Derived.Test.YtljhnbimlomdlaaGreatAmOps6
import Derived.Test.YtljhnbimlomdlaaGreatAmCode
import Derived.Test.YtljhnbimlomdlaaGreatAmDraw5
import Derived.Test.YtljhnbimlomdlaaGreatAmEq
import Derived.Test.YtljhnbimlomdlaaGreatRBase
set_option linter.unusedVariables false
set_option linter.unusedSimpArgs false
set_option linter.unusedSectionVars false
namespace Go.AM
open Go Go.Proofs
noncomputable def r63_L4 (call : CallF) (fuel base : Nat) (kx4 : Value → Value → Value → Value → Value → Value → Value → M → Res2) (n : Nat) : Value → Value → Value → Value → Value → Value → Value → Value → Value → Value → M → Res2 :=
  Nat.rec (motive := fun _ => Value → Value → Value → Value → Value → Value → Value → Value → Value → Value → M → Res2) (fun _ _ _ _ _ _ _ _ _ _ _ => none)
    (fun _ ih x0 x5 x9 x10 x36 x37 x38 x57 x58 x59 m =>
      (k1 (mbin E .lss 3 x59 x58) fun v60_41 => (kb v60_41 (k1 (mindexAddr E.P 42 x57 x59) fun v62_42 => (k1 (xload E.P m 24 v62_42) fun v63_43 => (k1 (xload E.P m 96 x10) fun v64_44 => (k1 (mfieldAddr E.P 99 x9 0) fun v65_45 => (k1 (xload E.P m 70 v65_45) fun v66_46 => (kc (kB m (call m.length 81 [v66_46, v63_43] m)) (fun v68_47 m => (k1 (mindexAddr E.P 24 x5 x59) fun v71_48 => (k1 (xload E.P m 3 v71_48) fun v72_49 => (k1 (mun .neg v72_49) fun v73_50 => (kc (kB m (call m.length 50 [v73_50, (.int .i64 1)] m)) (fun v74_51 m => (kc (kB m (call m.length 56 [v68_47, v74_51] m)) (fun v75_52 m => (kc (kB m (call m.length 91 [v64_44, v75_52] m)) (fun v76_53 m => (ks (xstore E.P base m 96 x10 v76_53) fun m => (k1 (mbin E .add 3 x59 (.int .i64 1)) fun v77_54 => (ih x0 x5 x9 x10 x36 x37 x38 x57 x58 v77_54 m)))) (fun _ _ => none))) (fun _ _ => none))) (fun _ _ => none)))))) (fun _ _ => none))))))) (kx4 x0 x5 x9 x10 x36 x37 x38 m)))) n
noncomputable def r63_L0 (call : CallF) (fuel base : Nat) (kx0 : Value → Value → M → Res2) (n : Nat) : Value → Value → Value → Value → Value → M → Res2 :=
  Nat.rec (motive := fun _ => Value → Value → Value → Value → Value → M → Res2) (fun _ _ _ _ _ _ => none)
    (fun _ ih x0 x5 x20 x21 x22 m =>
      (k1 (mbin E .lss 3 x22 x21) fun v23_8 => (kb v23_8 (k1 (mindexAddr E.P 55 x20 x22) fun v25_9 => (k1 (xload E.P m 50 v25_9) fun v26_10 => (k1 (mun .neg v26_10) fun v30_11 => (k1 (mindexAddr E.P 24 x5 x22) fun v31_12 => (ks (xstore E.P base m 3 v31_12 v30_11) fun m => (k1 (mbin E .add 3 x22 (.int .i64 1)) fun v32_13 => (ih x0 x5 x20 x21 v32_13 m))))))) (kx0 x0 x5 m)))) n
noncomputable def r63_L2 (call : CallF) (fuel base : Nat) (kx2 : Value → M → Res2) (n : Nat) : Value → Value → Value → Value → Value → M → Res2 :=
  Nat.rec (motive := fun _ => Value → Value → Value → Value → Value → M → Res2) (fun _ _ _ _ _ _ => none)
    (fun _ ih x0 x5 x36 x37 x38 m =>
      (k1 (mbin E .lss 3 x38 x37) fun v39_20 => (kb v39_20 (k1 (mindexAddr E.P 91 x36 x38) fun v40_21 => (k1 (xload E.P m 99 v40_21) fun v41_22 => (k2 (xalloc E.P m 99) fun v9_23 m => (ks (xstore E.P base m 99 v9_23 v41_22) fun m => (k1 (mfieldAddr E.P 99 v9_23 1) fun v42_24 => (k1 (xload E.P m 3 v42_24) fun v43_25 => (k1 (mbin E .eql 3 v43_25 (.int .i64 (-1))) fun v44_26 => (kb v44_26 (k1 (mbin E .add 3 x38 (.int .i64 1)) fun v84_27 => (ih x0 x5 x36 x37 v84_27 m)) (k1 (mfieldAddr E.P 99 v9_23 0) fun v45_28 => (k1 (xload E.P m 70 v45_28) fun v46_29 => (k1 (mnil x0) fun v48_30 => (k1 (mfieldAddr E.P 93 v48_30 0) fun v49_31 => (k1 (mfieldAddr E.P 44 v49_31 2) fun v50_32 => (k1 (xload E.P m 24 v50_32) fun v51_33 => (kc (kB m (call m.length 81 [v46_29, v51_33] m)) (fun v52_34 m => (k2 (xalloc E.P m 96) fun v10_35 m => (ks (xstore E.P base m 96 v10_35 v52_34) fun m => (k1 (mnil x0) fun v54_36 => (k1 (mfieldAddr E.P 93 v54_36 0) fun v55_37 => (k1 (mfieldAddr E.P 44 v55_37 1) fun v56_38 => (k1 (xload E.P m 42 v56_38) fun v57_39 => (k2 (vcall E.P base m .len [42] [v57_39]) fun v58_40 m => (r63_L4 call fuel base (fun y0_55 y5_56 y9_57 y10_58 y36_59 y37_60 y38_61 m => (k1 (mfieldAddr E.P 99 y9_57 1) fun v79_62 => (k1 (xload E.P m 3 v79_62) fun v80_63 => (k1 (mfieldAddr E.P 96 y10_58 0) fun v81_64 => (k1 (xload E.P m 3 v81_64) fun v82_65 => (k1 (mindexAddr E.P 24 y5_56 v80_63) fun v83_66 => (ks (xstore E.P base m 3 v83_66 v82_65) fun m => (k1 (mbin E .add 3 y38_61 (.int .i64 1)) fun v84_67 => (ih y0_55 y5_56 y36_59 y37_60 v84_67 m))))))))) fuel x0 x5 v9_23 v10_35 x36 x37 x38 v57_39 v58_40 (.int .i64 0) m))))))))) (fun _ _ => none)))))))))))))))) (kx2 x5 m)))) n
noncomputable def r63 (call : CallF) (fuel base : Nat) (x0 : Value) (x1 : Value) (m : M) : Res2 :=
  (k1 (mnil x0) fun v14_1 => (k1 (mfieldAddr E.P 93 v14_1 0) fun v15_2 => (k1 (mfieldAddr E.P 44 v15_2 1) fun v16_3 => (k1 (xload E.P m 42 v16_3) fun v17_4 => (k2 (vcall E.P base m .len [42] [v17_4]) fun v18_5 m => (k2 (xmakeSlice E.P m 24 v18_5 v18_5) fun v19_6 m => (k2 (vcall E.P base m .len [55] [x1]) fun v21_7 m => (r63_L0 call fuel base (fun y0_14 y5_15 m => (k1 (mnil y0_14) fun v34_16 => (k1 (mfieldAddr E.P 93 v34_16 1) fun v35_17 => (k1 (xload E.P m 91 v35_17) fun v36_18 => (k2 (vcall E.P base m .len [91] [v36_18]) fun v37_19 m => (r63_L2 call fuel base (fun y5_68 m => (fVal y5_68 fun v => some (.ret v, m))) fuel y0_14 y5_15 v36_18 v37_19 (.int .i64 0) m)))))) fuel x0 v19_6 x1 v21_7 (.int .i64 0) m))))))))
def keep63 : Keep := { region := fun i => ([[0, 1], [0, 1, 5], [0, 5, 20, 21, 22], [0, 5, 20, 21, 22, 23], [0, 5, 6, 7, 20, 21, 22], [0, 5, 20, 21, 22], [0, 5, 20, 21, 22], [0, 5, 36, 37, 38], [0, 5, 36, 37, 38, 39], [0, 5, 9, 36, 37, 38], [0, 5, 9, 36, 37, 38, 44], [0, 5, 9, 10, 36, 37, 38], [0, 5, 9, 10, 36, 37, 38, 57, 58, 59], [0, 5, 9, 10, 36, 37, 38, 57, 58, 59, 60], [0, 5, 9, 10, 11, 12, 36, 37, 38, 57, 58, 59], [0, 5, 9, 10, 36, 37, 38, 57, 58, 59], [0, 5, 9, 10, 36, 37, 38, 57, 58, 59], [0, 5, 36, 37, 38], [0, 5, 36, 37, 38], [4]] : List (List Nat))[i]?, exit := fun i => ([[0, 5], [0, 5, 20, 21, 22], [5], [0, 5, 36, 37, 38], [0, 5, 9, 10, 36, 37, 38], [0, 5, 9, 10, 36, 37, 38, 57, 58, 59]] : List (List Nat))[i]?, ret := some [4] }
noncomputable def r63_L4_R (call : CallF) (fuel base n : Nat) (vs : List Value) (m : M) (K : KT) : Res2 := match vs with
  | [x0, x5, x9, x10, x36, x37, x38, x57, x58, x59] => r63_L4 call fuel base (fun y0 y5 y9 y10 y36 y37 y38 m => K (.exit 4) { n := 86, l := [(0, y0), (5, y5), (9, y9), (10, y10), (36, y36), (37, y37), (38, y38)] } m) n x0 x5 x9 x10 x36 x37 x38 x57 x58 x59 m
  | _ => none
noncomputable def r63_L0_R (call : CallF) (fuel base n : Nat) (vs : List Value) (m : M) (K : KT) : Res2 := match vs with
  | [x0, x5, x20, x21, x22] => r63_L0 call fuel base (fun y0 y5 m => K (.exit 0) { n := 86, l := [(0, y0), (5, y5)] } m) n x0 x5 x20 x21 x22 m
  | _ => none
noncomputable def r63_L2_R (call : CallF) (fuel base n : Nat) (vs : List Value) (m : M) (K : KT) : Res2 := match vs with
  | [x0, x5, x36, x37, x38] => r63_L2 call fuel base (fun y5 m => K (.exit 2) { n := 86, l := [(5, y5)] } m) n x0 x5 x36 x37 x38 m
  | _ => none
noncomputable def lp63 (call : CallF) (fuel base : Nat) : Lp := lpsel [(4, fun T m K => kslots 86 [0, 5, 9, 10, 36, 37, 38, 57, 58, 59] T fun vs => r63_L4_R call fuel base fuel vs m K), (0, fun T m K => kslots 86 [0, 5, 20, 21, 22] T fun vs => r63_L0_R call fuel base fuel vs m K), (2, fun T m K => kslots 86 [0, 5, 36, 37, 38] T fun vs => r63_L2_R call fuel base fuel vs m K)]
noncomputable def c63 : Code := Tryz.f63.body.getD .skip
theorem r63_L4_lk (call : CallF) (fuel base : Nat) : LoopsOk E call (lp63 call fuel base) fuel base 4 (loopB (blockB (seqR (seqL (seqR (seqR (seqR (blockB (seqL (seqR (seqR (loopB (blockB (seqR (seqL (seqR (seqR (seqR c63)))))))))))))))))) = (And True (And (And True True) (And (And True True) True))) := by kernel_rfl
theorem r63_L4_ok (call : CallF) (fuel base : Nat) : LpOk E call (lp63 call fuel base) fuel base 4 (loopB (blockB (seqR (seqL (seqR (seqR (seqR (blockB (seqL (seqR (seqR (loopB (blockB (seqR (seqL (seqR (seqR (seqR c63)))))))))))))))))) := by
  refine loop_ok (kp := keep63) (hb := Eq.mpr (r63_L4_lk call fuel base) (And.intro trivial (And.intro (And.intro trivial trivial) (And.intro (And.intro trivial trivial) trivial)))) 86 [0, 5, 9, 10, 36, 37, 38, 57, 58, 59] (fun n vs m K => r63_L4_R call fuel base n vs m K) ?_ ?_ (fun _ _ _ => rfl)
  · intro vs m K
    unfold r63_L4_R
    split <;> rfl
  · intro n vs m K hl
    match vs, hl with
    | [x0, x5, x9, x10, x36, x37, x38, x57, x58, x59], _ => show _ = _; kernel_rfl
theorem r63_L0_lk (call : CallF) (fuel base : Nat) : LoopsOk E call (lp63 call fuel base) fuel base 0 (loopB (blockB (seqR (seqL (seqR (seqR c63)))))) = (And True (And (And True True) (And (And True True) True))) := by kernel_rfl
theorem r63_L0_ok (call : CallF) (fuel base : Nat) : LpOk E call (lp63 call fuel base) fuel base 0 (loopB (blockB (seqR (seqL (seqR (seqR c63)))))) := by
  refine loop_ok (kp := keep63) (hb := Eq.mpr (r63_L0_lk call fuel base) (And.intro trivial (And.intro (And.intro trivial trivial) (And.intro (And.intro trivial trivial) trivial)))) 86 [0, 5, 20, 21, 22] (fun n vs m K => r63_L0_R call fuel base n vs m K) ?_ ?_ (fun _ _ _ => rfl)
  · intro vs m K
    unfold r63_L0_R
    split <;> rfl
  · intro n vs m K hl
    match vs, hl with
    | [x0, x5, x20, x21, x22], _ => show _ = _; kernel_rfl
theorem r63_L2_lk (call : CallF) (fuel base : Nat) : LoopsOk E call (lp63 call fuel base) fuel base 2 (loopB (blockB (seqR (seqL (seqR (seqR (seqR c63))))))) = (And True (And (And True True) (And (And True (And (And True (And True True)) (And True (And (And True (LpOk E call (lp63 call fuel base) fuel base 4 (loopB (blockB (seqR (seqL (seqR (seqR (seqR (blockB (seqL (seqR (seqR (loopB (blockB (seqR (seqL (seqR (seqR (seqR c63)))))))))))))))))))) True)))) True))) := by kernel_rfl
theorem r63_L2_ok (call : CallF) (fuel base : Nat) : LpOk E call (lp63 call fuel base) fuel base 2 (loopB (blockB (seqR (seqL (seqR (seqR (seqR c63))))))) := by
  refine loop_ok (kp := keep63) (hb := Eq.mpr (r63_L2_lk call fuel base) (And.intro trivial (And.intro (And.intro trivial trivial) (And.intro (And.intro trivial (And.intro (And.intro trivial (And.intro trivial trivial)) (And.intro trivial (And.intro (And.intro trivial (r63_L4_ok call fuel base)) trivial)))) trivial)))) 86 [0, 5, 36, 37, 38] (fun n vs m K => r63_L2_R call fuel base n vs m K) ?_ ?_ (fun _ _ _ => rfl)
  · intro vs m K
    unfold r63_L2_R
    split <;> rfl
  · intro n vs m K hl
    match vs, hl with
    | [x0, x5, x36, x37, x38], _ => show _ = _; kernel_rfl
theorem r63_eq (call : CallF) (fuel base : Nat) (x0 : Value) (x1 : Value) (m : M) : kbody E call keep63 (lp63 call fuel base) base Tryz.f63 [x0, x1] m = r63 call fuel base x0 x1 m := by
  kernel_rfl
noncomputable def rf63 : RF := fun call fuel base args m => match args with
  | [x0, x1] => r63 call fuel base x0 x1 m
  | _ => none
theorem r63_lk (call : CallF) (fuel base : Nat) : LoopsOk E call (lp63 call fuel base) fuel base 0 c63 = (And True (And True (And (And True (LpOk E call (lp63 call fuel base) fuel base 0 (loopB (blockB (seqR (seqL (seqR (seqR c63)))))))) (And (And True (LpOk E call (lp63 call fuel base) fuel base 2 (loopB (blockB (seqR (seqL (seqR (seqR (seqR c63))))))))) (And True True))))) := by kernel_rfl
theorem r63_fn : E.P.funcs[63]? = some Tryz.f63 := by kernel_rfl
theorem r63_body : Tryz.f63.body = some c63 := by kernel_rfl
theorem rf63_ok : RFok E 63 rf63 := by
  show RFok' E 63 rf63
  refine ⟨Tryz.f63, r63_fn, fun call fuel base args m r _ h => ?_⟩
  unfold rf63 at h
  split at h
  · rw [← r63_eq] at h
    exact kbody_sound (c := c63) r63_body (Eq.mpr (r63_lk call fuel base) (And.intro trivial (And.intro trivial (And.intro (And.intro trivial (r63_L0_ok call fuel base)) (And.intro (And.intro trivial (r63_L2_ok call fuel base)) (And.intro trivial trivial)))))) h
  · simp at h
end Go.AM
namespace Go.AM
open Go Go.Proofs
noncomputable def r64_L0 (call : CallF) (fuel base : Nat) (kp : Value → M → Res2) (kx0 : Value → M → Res2) (n : Nat) : Value → Value → Value → Value → M → Res2 :=
  Nat.rec (motive := fun _ => Value → Value → Value → Value → M → Res2) (fun _ _ _ _ _ => none)
    (fun _ ih x3 x6 x7 x8 m =>
      (k1 (mbin E .lss 3 x8 x7) fun v9_2 => (kb v9_2 (k1 (mindexAddr E.P 70 x6 x8) fun v10_3 => (k1 (xload E.P m 96 v10_3) fun v11_4 => (k2 (xalloc E.P m 96) fun v5_5 m => (ks (xstore E.P base m 96 v5_5 v11_4) fun m => (k1 (xload E.P m 96 v5_5) fun v13_6 => (kc (call base 85 [v13_6] m) (fun v14_7 m => (kc (call base 92 [x3, v14_7] m) (fun v15_8 m => (k1 (mbin E .add 3 x8 (.int .i64 1)) fun v16_9 => (ih v15_8 x6 x7 v16_9 m))) (fun v m => kp v m))) (fun v m => kp v m))))))) (kx0 x3 m)))) n
noncomputable def r64 (call : CallF) (fuel base : Nat) (x0 : Value) (m : M) : Res2 :=
  (k2 (vcall E.P base m .len [70] [x0]) fun v7_1 m => (r64_L0 call fuel base (fun v m => some (.pan v, m)) (fun y3_10 m => (fVal y3_10 fun v => some (.ret v, m))) fuel (.int .i64 1) x0 v7_1 (.int .i64 0) m))
def keep64 : Keep := { region := fun i => ([[0], [0, 3], [3, 6, 7, 8], [3, 6, 7, 8, 9], [3, 5, 6, 7, 8], [3, 6, 7, 8], [3, 6, 7, 8], [2]] : List (List Nat))[i]?, exit := fun i => ([[3], [3, 6, 7, 8]] : List (List Nat))[i]?, ret := some [2] }
noncomputable def r64_L0_R (call : CallF) (fuel base n : Nat) (vs : List Value) (m : M) (K : KT) : Res2 := match vs with
  | [x3, x6, x7, x8] => r64_L0 call fuel base (fun v m => K (.pan v) { n := 18, l := [] } m) (fun y3 m => K (.exit 0) { n := 18, l := [(3, y3)] } m) n x3 x6 x7 x8 m
  | _ => none
noncomputable def lp64 (call : CallF) (fuel base : Nat) : Lp := lpsel [(0, fun T m K => kslots 18 [3, 6, 7, 8] T fun vs => r64_L0_R call fuel base fuel vs m K)]
noncomputable def c64 : Code := Tryz.f64.body.getD .skip
theorem r64_L0_lk (call : CallF) (fuel base : Nat) : LoopsOk E call (lp64 call fuel base) fuel base 0 (loopB (blockB (seqR (seqL (seqR (seqR c64)))))) = (And True (And (And True True) (And (And True True) True))) := by kernel_rfl
theorem r64_L0_ok (call : CallF) (fuel base : Nat) : LpOk E call (lp64 call fuel base) fuel base 0 (loopB (blockB (seqR (seqL (seqR (seqR c64)))))) := by
  refine loop_ok (kp := keep64) (hb := Eq.mpr (r64_L0_lk call fuel base) (And.intro trivial (And.intro (And.intro trivial trivial) (And.intro (And.intro trivial trivial) trivial)))) 18 [3, 6, 7, 8] (fun n vs m K => r64_L0_R call fuel base n vs m K) ?_ ?_ (fun _ _ _ => rfl)
  · intro vs m K
    unfold r64_L0_R
    split <;> rfl
  · intro n vs m K hl
    match vs, hl with
    | [x3, x6, x7, x8], _ => show _ = _; kernel_rfl
theorem r64_eq (call : CallF) (fuel base : Nat) (x0 : Value) (m : M) : kbody E call keep64 (lp64 call fuel base) base Tryz.f64 [x0] m = r64 call fuel base x0 m := by
  kernel_rfl
noncomputable def rf64 : RF := fun call fuel base args m => match args with
  | [x0] => r64 call fuel base x0 m
  | _ => none
theorem r64_lk (call : CallF) (fuel base : Nat) : LoopsOk E call (lp64 call fuel base) fuel base 0 c64 = (And True (And True (And (And True (LpOk E call (lp64 call fuel base) fuel base 0 (loopB (blockB (seqR (seqL (seqR (seqR c64)))))))) (And True True)))) := by kernel_rfl
theorem r64_fn : E.P.funcs[64]? = some Tryz.f64 := by kernel_rfl
theorem r64_body : Tryz.f64.body = some c64 := by kernel_rfl
theorem rf64_ok : RFok E 64 rf64 := by
  show RFok' E 64 rf64
  refine ⟨Tryz.f64, r64_fn, fun call fuel base args m r _ h => ?_⟩
  unfold rf64 at h
  split at h
  · rw [← r64_eq] at h
    exact kbody_sound (c := c64) r64_body (Eq.mpr (r64_lk call fuel base) (And.intro trivial (And.intro trivial (And.intro (And.intro trivial (r64_L0_ok call fuel base)) (And.intro trivial trivial))))) h
  · simp at h
end Go.AM
namespace Go.AM
open Go Go.Proofs
noncomputable def r65 (call : CallF) (fuel base : Nat) (x0 : Value) (x1 : Value) (m : M) : Res2 :=
  (k2 (xbox m x0) fun v2_1 m => (k1 (mfieldAddr E.P 96 v2_1 0) fun v5_2 => (k1 (xload E.P m 3 v5_2) fun v6_3 => (k1 (xload E.P m 96 v2_1) fun v8_4 => (kc (kB m (call m.length 85 [v8_4] m)) (fun v9_5 m => (k1 (mbin E .quo 3 x1 v9_5) fun v10_6 => (k1 (mbin E .mul 3 v6_3 v10_6) fun v11_7 => (fVal v11_7 fun v => some (.ret v, m))))) (fun _ _ => none))))))
def keep65 : Keep := { region := fun i => ([[1, 2], [4]] : List (List Nat))[i]?, exit := fun i => ([] : List (List Nat))[i]?, ret := some [4] }
noncomputable def lp65 (call : CallF) (fuel base : Nat) : Lp := lpsel []
noncomputable def c65 : Code := Tryz.f65.body.getD .skip
theorem r65_eq (call : CallF) (fuel base : Nat) (x0 : Value) (x1 : Value) (m : M) : kbody E call keep65 (lp65 call fuel base) base Tryz.f65 [x0, x1] m = r65 call fuel base x0 x1 m := by
  kernel_rfl
noncomputable def rf65 : RF := fun call fuel base args m => match args with
  | [x0, x1] => r65 call fuel base x0 x1 m
  | _ => none
theorem r65_lk (call : CallF) (fuel base : Nat) : LoopsOk E call (lp65 call fuel base) fuel base 0 c65 = (And True (And True True)) := by kernel_rfl
theorem r65_fn : E.P.funcs[65]? = some Tryz.f65 := by kernel_rfl
theorem r65_body : Tryz.f65.body = some c65 := by kernel_rfl
theorem rf65_ok : RFok E 65 rf65 := by
  show RFok' E 65 rf65
  refine ⟨Tryz.f65, r65_fn, fun call fuel base args m r _ h => ?_⟩
  unfold rf65 at h
  split at h
  · rw [← r65_eq] at h
    exact kbody_sound (c := c65) r65_body (Eq.mpr (r65_lk call fuel base) (And.intro trivial (And.intro trivial trivial))) h
  · simp at h
end Go.AM
namespace Go.AM
open Go Go.Proofs
noncomputable def r66 (call : CallF) (fuel base : Nat) (x0 : Value) (m : M) : Res2 :=
  (k1 (mbin E .leq 3 (.int .i64 1) x0) fun v4_1 => (kb v4_1 (k1 (mbin E .leq 3 x0 (.int .i64 4)) fun v7_2 => (fVal v7_2 fun v => some (.ret v, m))) (fVal (.bool false) fun v => some (.ret v, m))))
def keep66 : Keep := { region := fun i => ([[0], [2]] : List (List Nat))[i]?, exit := fun i => ([] : List (List Nat))[i]?, ret := some [2] }
noncomputable def lp66 (call : CallF) (fuel base : Nat) : Lp := lpsel []
noncomputable def c66 : Code := Tryz.f66.body.getD .skip
theorem r66_eq (call : CallF) (fuel base : Nat) (x0 : Value) (m : M) : kbody E call keep66 (lp66 call fuel base) base Tryz.f66 [x0] m = r66 call fuel base x0 m := by
  kernel_rfl
noncomputable def rf66 : RF := fun call fuel base args m => match args with
  | [x0] => r66 call fuel base x0 m
  | _ => none
theorem r66_lk (call : CallF) (fuel base : Nat) : LoopsOk E call (lp66 call fuel base) fuel base 0 c66 = (And True (And True True)) := by kernel_rfl
theorem r66_fn : E.P.funcs[66]? = some Tryz.f66 := by kernel_rfl
theorem r66_body : Tryz.f66.body = some c66 := by kernel_rfl
theorem rf66_ok : RFok E 66 rf66 := by
  show RFok' E 66 rf66
  refine ⟨Tryz.f66, r66_fn, fun call fuel base args m r _ h => ?_⟩
  unfold rf66 at h
  split at h
  · rw [← r66_eq] at h
    exact kbody_sound (c := c66) r66_body (Eq.mpr (r66_lk call fuel base) (And.intro trivial (And.intro trivial trivial))) h
  · simp at h
end Go.AM
namespace Go.AM
open Go Go.Proofs
noncomputable def r67 (call : CallF) (fuel base : Nat) (x0 : Value) (x1 : Value) (m : M) : Res2 :=
  (k1 (xload E.P m 34 x1) fun v5_1 => (kc (call base 68 [x0, v5_1] m) (fun v6_2 m => (fVal v6_2 fun v => some (.ret v, m))) (fun v m => some (.pan v, m))))
def keep67 : Keep := { region := fun i => ([[0, 1], [3]] : List (List Nat))[i]?, exit := fun i => ([] : List (List Nat))[i]?, ret := some [3] }
noncomputable def lp67 (call : CallF) (fuel base : Nat) : Lp := lpsel []
noncomputable def c67 : Code := Tryz.f67.body.getD .skip
theorem r67_eq (call : CallF) (fuel base : Nat) (x0 : Value) (x1 : Value) (m : M) : kbody E call keep67 (lp67 call fuel base) base Tryz.f67 [x0, x1] m = r67 call fuel base x0 x1 m := by
  kernel_rfl
noncomputable def rf67 : RF := fun call fuel base args m => match args with
  | [x0, x1] => r67 call fuel base x0 x1 m
  | _ => none
theorem r67_lk (call : CallF) (fuel base : Nat) : LoopsOk E call (lp67 call fuel base) fuel base 0 c67 = (And True (And True True)) := by kernel_rfl
theorem r67_fn : E.P.funcs[67]? = some Tryz.f67 := by kernel_rfl
theorem r67_body : Tryz.f67.body = some c67 := by kernel_rfl
theorem rf67_ok : RFok E 67 rf67 := by
  show RFok' E 67 rf67
  refine ⟨Tryz.f67, r67_fn, fun call fuel base args m r _ h => ?_⟩
  unfold rf67 at h
  split at h
  · rw [← r67_eq] at h
    exact kbody_sound (c := c67) r67_body (Eq.mpr (r67_lk call fuel base) (And.intro trivial (And.intro trivial trivial))) h
  · simp at h
end Go.AM
namespace Go.AM
open Go Go.Proofs
noncomputable def r68_L0 (call : CallF) (fuel base : Nat) (kr : Value → M → Res2) (kx0 : M → Res2) (n : Nat) : Value → Value → Value → Value → M → Res2 :=
  Nat.rec (motive := fun _ => Value → Value → Value → Value → M → Res2) (fun _ _ _ _ _ => none)
    (fun _ ih x0 x1 x12 x13 m =>
      (k1 (mbin E .lss 3 x13 x12) fun v14_5 => (kb v14_5 (k1 (mindexAddr E.P 34 x0 x13) fun v18_6 => (k1 (xload E.P m 68 v18_6) fun v19_7 => (k1 (mindexAddr E.P 34 x1 x13) fun v22_8 => (k1 (xload E.P m 68 v22_8) fun v23_9 => (k1 (mbin E .neq 68 v19_7 v23_9) fun v24_10 => (kb v24_10 (kr (.bool false) m) (k1 (mbin E .add 3 x13 (.int .i64 1)) fun v25_11 => (ih x0 x1 x12 v25_11 m)))))))) (kx0 m)))) n
noncomputable def r68 (call : CallF) (fuel base : Nat) (x0 : Value) (x1 : Value) (m : M) : Res2 :=
  (k2 (vcall E.P base m .len [34] [x0]) fun v7_1 m => (k2 (vcall E.P base m .len [34] [x1]) fun v9_2 m => (k1 (mbin E .neq 3 v7_1 v9_2) fun v10_3 => (kb v10_3 (fVal (.bool false) fun v => some (.ret v, m)) (k2 (vcall E.P base m .len [34] [x0]) fun v12_4 m => (r68_L0 call fuel base (fun y4_12 m => (fVal y4_12 fun v => some (.ret v, m))) (fun m => (fVal (.bool true) fun v => some (.ret v, m))) fuel x0 x1 v12_4 (.int .i64 0) m))))))
def keep68 : Keep := { region := fun i => ([[0, 1], [0, 1, 10], [4], [0, 1, 12, 13], [0, 1, 12, 13, 14], [0, 1, 5, 12, 13], [0, 1, 12, 13, 24], [4], [0, 1, 12, 13], [4]] : List (List Nat))[i]?, exit := fun i => ([[], [0, 1, 12, 13]] : List (List Nat))[i]?, ret := some [4] }
noncomputable def r68_L0_R (call : CallF) (fuel base n : Nat) (vs : List Value) (m : M) (K : KT) : Res2 := match vs with
  | [x0, x1, x12, x13] => r68_L0 call fuel base (fun y4 m => K .ret { n := 26, l := [(4, y4)] } m) (fun m => K (.exit 0) { n := 26, l := [] } m) n x0 x1 x12 x13 m
  | _ => none
noncomputable def lp68 (call : CallF) (fuel base : Nat) : Lp := lpsel [(0, fun T m K => kslots 26 [0, 1, 12, 13] T fun vs => r68_L0_R call fuel base fuel vs m K)]
noncomputable def c68 : Code := Tryz.f68.body.getD .skip
theorem r68_L0_lk (call : CallF) (fuel base : Nat) : LoopsOk E call (lp68 call fuel base) fuel base 0 (loopB (blockB (seqR (seqL (seqR (seqR c68)))))) = (And True (And (And True True) (And (And True (And True (And (And True True) True))) True))) := by kernel_rfl
theorem r68_L0_ok (call : CallF) (fuel base : Nat) : LpOk E call (lp68 call fuel base) fuel base 0 (loopB (blockB (seqR (seqL (seqR (seqR c68)))))) := by
  refine loop_ok (kp := keep68) (hb := Eq.mpr (r68_L0_lk call fuel base) (And.intro trivial (And.intro (And.intro trivial trivial) (And.intro (And.intro trivial (And.intro trivial (And.intro (And.intro trivial trivial) trivial))) trivial)))) 26 [0, 1, 12, 13] (fun n vs m K => r68_L0_R call fuel base n vs m K) ?_ ?_ (fun _ _ _ => rfl)
  · intro vs m K
    unfold r68_L0_R
    split <;> rfl
  · intro n vs m K hl
    match vs, hl with
    | [x0, x1, x12, x13], _ => show _ = _; kernel_rfl
theorem r68_eq (call : CallF) (fuel base : Nat) (x0 : Value) (x1 : Value) (m : M) : kbody E call keep68 (lp68 call fuel base) base Tryz.f68 [x0, x1] m = r68 call fuel base x0 x1 m := by
  kernel_rfl
noncomputable def rf68 : RF := fun call fuel base args m => match args with
  | [x0, x1] => r68 call fuel base x0 x1 m
  | _ => none
theorem r68_lk (call : CallF) (fuel base : Nat) : LoopsOk E call (lp68 call fuel base) fuel base 0 c68 = (And True (And (And True (And (And True True) True)) (And (And True (LpOk E call (lp68 call fuel base) fuel base 0 (loopB (blockB (seqR (seqL (seqR (seqR c68)))))))) (And True True)))) := by kernel_rfl
theorem r68_fn : E.P.funcs[68]? = some Tryz.f68 := by kernel_rfl
theorem r68_body : Tryz.f68.body = some c68 := by kernel_rfl
theorem rf68_ok : RFok E 68 rf68 := by
  show RFok' E 68 rf68
  refine ⟨Tryz.f68, r68_fn, fun call fuel base args m r _ h => ?_⟩
  unfold rf68 at h
  split at h
  · rw [← r68_eq] at h
    exact kbody_sound (c := c68) r68_body (Eq.mpr (r68_lk call fuel base) (And.intro trivial (And.intro (And.intro trivial (And.intro (And.intro trivial trivial) trivial)) (And.intro (And.intro trivial (r68_L0_ok call fuel base)) (And.intro trivial trivial))))) h
  · simp at h
end Go.AM
namespace Go.AM
open Go Go.Proofs
noncomputable def r69 (call : CallF) (fuel base : Nat) (x0 : Value) (x1 : Value) (m : M) : Res2 :=
  (kc (call base 93 [x0, x1] m) (fun v7_1 m => (k1 (mbin E .geq 3 v7_1 (.int .i64 0)) fun v8_2 => (fVal v8_2 fun v => some (.ret v, m)))) (fun v m => some (.pan v, m)))
def keep69 : Keep := { region := fun i => ([[0, 1], [4]] : List (List Nat))[i]?, exit := fun i => ([] : List (List Nat))[i]?, ret := some [4] }
noncomputable def lp69 (call : CallF) (fuel base : Nat) : Lp := lpsel []
noncomputable def c69 : Code := Tryz.f69.body.getD .skip
theorem r69_eq (call : CallF) (fuel base : Nat) (x0 : Value) (x1 : Value) (m : M) : kbody E call keep69 (lp69 call fuel base) base Tryz.f69 [x0, x1] m = r69 call fuel base x0 x1 m := by
  kernel_rfl
noncomputable def rf69 : RF := fun call fuel base args m => match args with
  | [x0, x1] => r69 call fuel base x0 x1 m
  | _ => none
theorem r69_lk (call : CallF) (fuel base : Nat) : LoopsOk E call (lp69 call fuel base) fuel base 0 c69 = (And True (And True True)) := by kernel_rfl
theorem r69_fn : E.P.funcs[69]? = some Tryz.f69 := by kernel_rfl
theorem r69_body : Tryz.f69.body = some c69 := by kernel_rfl
theorem rf69_ok : RFok E 69 rf69 := by
  show RFok' E 69 rf69
  refine ⟨Tryz.f69, r69_fn, fun call fuel base args m r _ h => ?_⟩
  unfold rf69 at h
  split at h
  · rw [← r69_eq] at h
    exact kbody_sound (c := c69) r69_body (Eq.mpr (r69_lk call fuel base) (And.intro trivial (And.intro trivial trivial))) h
  · simp at h
end Go.AM
namespace Go.AM
open Go Go.Proofs
noncomputable def r70_L0 (call : CallF) (fuel base : Nat) (kr : Value → M → Res2) (kx0 : M → Res2) (n : Nat) : Value → Value → Value → Value → M → Res2 :=
  Nat.rec (motive := fun _ => Value → Value → Value → Value → M → Res2) (fun _ _ _ _ _ => none)
    (fun _ ih x0 x3 x7 x8 m =>
      (k1 (mbin E .lss 3 x8 x7) fun v9_3 => (kb v9_3 (k1 (xload E.P m 68 x3) fun v11_4 => (k1 (mindexAddr E.P 33 x0 x8) fun v14_5 => (k1 (xload E.P m 68 v14_5) fun v15_6 => (k1 (mbin E .eql 68 v11_4 v15_6) fun v16_7 => (kb v16_7 (kr x8 m) (k1 (mbin E .add 3 x8 (.int .i64 1)) fun v18_8 => (ih x0 x3 x7 v18_8 m))))))) (kx0 m)))) n
noncomputable def r70 (call : CallF) (fuel base : Nat) (x0 : Value) (x1 : Value) (m : M) : Res2 :=
  (k2 (xbox m x1) fun v3_1 m => (k2 (vcall E.P base m .len [33] [x0]) fun v7_2 m => (r70_L0 call fuel base (fun y4_9 m => (fVal y4_9 fun v => some (.ret v, m))) (fun m => (fVal (.int .i64 (-1)) fun v => some (.ret v, m))) fuel x0 v3_1 v7_2 (.int .i64 0) m)))
def keep70 : Keep := { region := fun i => ([[0, 3], [0, 3, 7, 8], [0, 3, 7, 8, 9], [0, 3, 5, 7, 8], [0, 3, 5, 7, 8, 16], [4], [0, 3, 7, 8], [4]] : List (List Nat))[i]?, exit := fun i => ([[], [0, 3, 7, 8]] : List (List Nat))[i]?, ret := some [4] }
noncomputable def r70_L0_R (call : CallF) (fuel base n : Nat) (vs : List Value) (m : M) (K : KT) : Res2 := match vs with
  | [x0, x3, x7, x8] => r70_L0 call fuel base (fun y4 m => K .ret { n := 19, l := [(4, y4)] } m) (fun m => K (.exit 0) { n := 19, l := [] } m) n x0 x3 x7 x8 m
  | _ => none
noncomputable def lp70 (call : CallF) (fuel base : Nat) : Lp := lpsel [(0, fun T m K => kslots 19 [0, 3, 7, 8] T fun vs => r70_L0_R call fuel base fuel vs m K)]
noncomputable def c70 : Code := Tryz.f70.body.getD .skip
theorem r70_L0_lk (call : CallF) (fuel base : Nat) : LoopsOk E call (lp70 call fuel base) fuel base 0 (loopB (blockB (seqR (seqL (seqR c70))))) = (And True (And (And True True) (And (And True (And True (And (And True True) True))) True))) := by kernel_rfl
theorem r70_L0_ok (call : CallF) (fuel base : Nat) : LpOk E call (lp70 call fuel base) fuel base 0 (loopB (blockB (seqR (seqL (seqR c70))))) := by
  refine loop_ok (kp := keep70) (hb := Eq.mpr (r70_L0_lk call fuel base) (And.intro trivial (And.intro (And.intro trivial trivial) (And.intro (And.intro trivial (And.intro trivial (And.intro (And.intro trivial trivial) trivial))) trivial)))) 19 [0, 3, 7, 8] (fun n vs m K => r70_L0_R call fuel base n vs m K) ?_ ?_ (fun _ _ _ => rfl)
  · intro vs m K
    unfold r70_L0_R
    split <;> rfl
  · intro n vs m K hl
    match vs, hl with
    | [x0, x3, x7, x8], _ => show _ = _; kernel_rfl
theorem r70_eq (call : CallF) (fuel base : Nat) (x0 : Value) (x1 : Value) (m : M) : kbody E call keep70 (lp70 call fuel base) base Tryz.f70 [x0, x1] m = r70 call fuel base x0 x1 m := by
  kernel_rfl
noncomputable def rf70 : RF := fun call fuel base args m => match args with
  | [x0, x1] => r70 call fuel base x0 x1 m
  | _ => none
theorem r70_lk (call : CallF) (fuel base : Nat) : LoopsOk E call (lp70 call fuel base) fuel base 0 c70 = (And True (And (And True (LpOk E call (lp70 call fuel base) fuel base 0 (loopB (blockB (seqR (seqL (seqR c70))))))) (And True True))) := by kernel_rfl
theorem r70_fn : E.P.funcs[70]? = some Tryz.f70 := by kernel_rfl
theorem r70_body : Tryz.f70.body = some c70 := by kernel_rfl
theorem rf70_ok : RFok E 70 rf70 := by
  show RFok' E 70 rf70
  refine ⟨Tryz.f70, r70_fn, fun call fuel base args m r _ h => ?_⟩
  unfold rf70 at h
  split at h
  · rw [← r70_eq] at h
    exact kbody_sound (c := c70) r70_body (Eq.mpr (r70_lk call fuel base) (And.intro trivial (And.intro (And.intro trivial (r70_L0_ok call fuel base)) (And.intro trivial trivial)))) h
  · simp at h
end Go.AM
namespace Go.AM
open Go Go.Proofs
noncomputable def r71 (call : CallF) (fuel base : Nat) (x0 : Value) (x1 : Value) (x2 : Value) (m : M) : Res2 :=
  (k2 (xbox m x0) fun v3_1 m => (k2 (xalloc E.P m 68) fun v6_2 m => (k1 (mfieldAddr E.P 68 v3_1 0) fun v7_3 => (k1 (xload E.P m 3 v7_3) fun v8_4 => (k1 (mbin E .add 3 v8_4 x1) fun v10_5 => (k1 (mfieldAddr E.P 68 v3_1 1) fun v11_6 => (k1 (xload E.P m 3 v11_6) fun v12_7 => (k1 (mbin E .add 3 v12_7 x2) fun v14_8 => (k1 (mbuild E.P 68 [(0, v10_5), (1, v14_8)]) fun v15_9 => (ks (xstore E.P base m 68 v6_2 v15_9) fun m => (k0 (mload E.P m 68 v6_2) fun r_10 => (fVal r_10 fun v => some (.ret v, m)))))))))))))
def keep71 : Keep := { region := fun i => ([[1, 2, 3, 6], [6]] : List (List Nat))[i]?, exit := fun i => ([] : List (List Nat))[i]?, ret := some [6] }
noncomputable def lp71 (call : CallF) (fuel base : Nat) : Lp := lpsel []
noncomputable def c71 : Code := Tryz.f71.body.getD .skip
theorem r71_eq (call : CallF) (fuel base : Nat) (x0 : Value) (x1 : Value) (x2 : Value) (m : M) : kbody E call keep71 (lp71 call fuel base) base Tryz.f71 [x0, x1, x2] m = r71 call fuel base x0 x1 x2 m := by
  kernel_rfl
noncomputable def rf71 : RF := fun call fuel base args m => match args with
  | [x0, x1, x2] => r71 call fuel base x0 x1 x2 m
  | _ => none
theorem r71_lk (call : CallF) (fuel base : Nat) : LoopsOk E call (lp71 call fuel base) fuel base 0 c71 = (And True (And True True)) := by kernel_rfl
theorem r71_fn : E.P.funcs[71]? = some Tryz.f71 := by kernel_rfl
theorem r71_body : Tryz.f71.body = some c71 := by kernel_rfl
theorem rf71_ok : RFok E 71 rf71 := by
  show RFok' E 71 rf71
  refine ⟨Tryz.f71, r71_fn, fun call fuel base args m r _ h => ?_⟩
  unfold rf71 at h
  split at h
  · rw [← r71_eq] at h
    exact kbody_sound (c := c71) r71_body (Eq.mpr (r71_lk call fuel base) (And.intro trivial (And.intro trivial trivial))) h
  · simp at h
end Go.AM
namespace Go.AM
open Go Go.Proofs
noncomputable def r72_L2 (call : CallF) (fuel base : Nat) (kr : Value → M → Res2) (kx2 : Value → Value → M → Res2) (n : Nat) : Value → Value → Value → M → Res2 :=
  Nat.rec (motive := fun _ => Value → Value → Value → M → Res2) (fun _ _ _ _ => none)
    (fun _ ih x0 x3 x4 m =>
      (k1 (mindexAddr E.P 22 x0 x3) fun v46_22 => (k1 (xload E.P m 9 v46_22) fun v47_23 => (k2 (vcall E.P base m .len [9] [v47_23]) fun v48_24 m => (k1 (mbin E .lss 3 x4 v48_24) fun v49_25 => (kb v49_25 (k1 (mindexAddr E.P 22 x0 x3) fun v54_26 => (k1 (xload E.P m 9 v54_26) fun v55_27 => (k1 (mindex E.P 9 v55_27 x4) fun v57_28 => (k1 (mbin E .neq 5 v57_28 (.int .u8 35)) fun v58_29 => (kb v58_29 (k1 (mindexAddr E.P 22 x0 x3) fun v62_30 => (k1 (xload E.P m 9 v62_30) fun v63_31 => (k1 (mindex E.P 9 v63_31 x4) fun v65_32 => (k1 (mbin E .neq 5 v65_32 (.int .u8 46)) fun v66_33 => (kb v66_33 (kr (.bool false) m) (k1 (mbin E .add 3 x4 (.int .i64 1)) fun v51_34 => (ih x0 x3 v51_34 m))))))) (k1 (mbin E .add 3 x4 (.int .i64 1)) fun v51_35 => (ih x0 x3 v51_35 m))))))) (kx2 x0 x3 m))))))) n
noncomputable def r72_L0 (call : CallF) (fuel base : Nat) (kr : Value → M → Res2) (kx0 : M → Res2) (n : Nat) : Value → Value → M → Res2 :=
  Nat.rec (motive := fun _ => Value → Value → M → Res2) (fun _ _ _ => none)
    (fun _ ih x0 x3 m =>
      (k2 (vcall E.P base m .len [22] [x0]) fun v29_13 m => (k1 (mbin E .lss 3 x3 v29_13) fun v30_14 => (kb v30_14 (k1 (mindexAddr E.P 22 x0 x3) fun v35_15 => (k1 (xload E.P m 9 v35_15) fun v36_16 => (k2 (vcall E.P base m .len [9] [v36_16]) fun v37_17 m => (k1 (mindexAddr E.P 22 x0 (.int .i64 0)) fun v39_18 => (k1 (xload E.P m 9 v39_18) fun v40_19 => (k2 (vcall E.P base m .len [9] [v40_19]) fun v41_20 m => (k1 (mbin E .neq 3 v37_17 v41_20) fun v42_21 => (kb v42_21 (kr (.bool false) m) (r72_L2 call fuel base (fun y2_36 m => (kr y2_36 m)) (fun y0_37 y3_38 m => (k1 (mbin E .add 3 y3_38 (.int .i64 1)) fun v32_39 => (ih y0_37 v32_39 m))) fuel x0 x3 (.int .i64 0) m))))))))) (kx0 m))))) n
noncomputable def r72 (call : CallF) (fuel base : Nat) (x0 : Value) (m : M) : Res2 :=
  (k2 (vcall E.P base m .len [22] [x0]) fun v6_1 m => (k1 (mbin E .lss 3 v6_1 (.int .i64 1)) fun v7_2 => (kb v7_2 (fVal (.bool false) fun v => some (.ret v, m)) (k2 (vcall E.P base m .len [22] [x0]) fun v10_3 m => (k1 (mbin E .gtr 3 v10_3 (.int .i64 8)) fun v11_4 => (kb v11_4 (fVal (.bool false) fun v => some (.ret v, m)) (k1 (mindexAddr E.P 22 x0 (.int .i64 0)) fun v15_5 => (k1 (xload E.P m 9 v15_5) fun v16_6 => (k2 (vcall E.P base m .len [9] [v16_6]) fun v17_7 m => (k1 (mbin E .lss 3 v17_7 (.int .i64 1)) fun v18_8 => (kb v18_8 (fVal (.bool false) fun v => some (.ret v, m)) (k1 (mindexAddr E.P 22 x0 (.int .i64 0)) fun v22_9 => (k1 (xload E.P m 9 v22_9) fun v23_10 => (k2 (vcall E.P base m .len [9] [v23_10]) fun v24_11 m => (k1 (mbin E .gtr 3 v24_11 (.int .i64 8)) fun v25_12 => (kb v25_12 (fVal (.bool false) fun v => some (.ret v, m)) (r72_L0 call fuel base (fun y2_40 m => (fVal y2_40 fun v => some (.ret v, m))) (fun m => (fVal (.bool true) fun v => some (.ret v, m))) fuel x0 (.int .i64 0) m)))))))))))))))))
def keep72 : Keep := { region := fun i => ([[0], [0, 26], [2], [0, 3], [0, 3, 30], [0, 3], [0, 3, 42], [2], [0, 3, 4], [0, 3, 4, 49], [0, 3, 4], [0, 3, 4, 67], [2], [2]] : List (List Nat))[i]?, exit := fun i => ([[], [0, 3], [0, 3], [0, 3, 4]] : List (List Nat))[i]?, ret := some [2] }
noncomputable def r72_L2_R (call : CallF) (fuel base n : Nat) (vs : List Value) (m : M) (K : KT) : Res2 := match vs with
  | [x0, x3, x4] => r72_L2 call fuel base (fun y2 m => K .ret { n := 68, l := [(2, y2)] } m) (fun y0 y3 m => K (.exit 2) { n := 68, l := [(0, y0), (3, y3)] } m) n x0 x3 x4 m
  | _ => none
noncomputable def r72_L0_R (call : CallF) (fuel base n : Nat) (vs : List Value) (m : M) (K : KT) : Res2 := match vs with
  | [x0, x3] => r72_L0 call fuel base (fun y2 m => K .ret { n := 68, l := [(2, y2)] } m) (fun m => K (.exit 0) { n := 68, l := [] } m) n x0 x3 m
  | _ => none
noncomputable def lp72 (call : CallF) (fuel base : Nat) : Lp := lpsel [(2, fun T m K => kslots 68 [0, 3, 4] T fun vs => r72_L2_R call fuel base fuel vs m K), (0, fun T m K => kslots 68 [0, 3] T fun vs => r72_L0_R call fuel base fuel vs m K)]
noncomputable def c72 : Code := Tryz.f72.body.getD .skip
theorem r72_L2_lk (call : CallF) (fuel base : Nat) : LoopsOk E call (lp72 call fuel base) fuel base 2 (loopB (blockB (seqR (seqR (blockB (seqL (seqR (loopB (blockB (seqR (seqL (seqR (seqR c72))))))))))))) = (And (And True (And True True)) (And (And True (And (And True True) True)) True)) := by kernel_rfl
theorem r72_L2_ok (call : CallF) (fuel base : Nat) : LpOk E call (lp72 call fuel base) fuel base 2 (loopB (blockB (seqR (seqR (blockB (seqL (seqR (loopB (blockB (seqR (seqL (seqR (seqR c72))))))))))))) := by
  refine loop_ok (kp := keep72) (hb := Eq.mpr (r72_L2_lk call fuel base) (And.intro (And.intro trivial (And.intro trivial trivial)) (And.intro (And.intro trivial (And.intro (And.intro trivial trivial) trivial)) trivial))) 68 [0, 3, 4] (fun n vs m K => r72_L2_R call fuel base n vs m K) ?_ ?_ (fun _ _ _ => rfl)
  · intro vs m K
    unfold r72_L2_R
    split <;> rfl
  · intro n vs m K hl
    match vs, hl with
    | [x0, x3, x4], _ => show _ = _; kernel_rfl
theorem r72_L0_lk (call : CallF) (fuel base : Nat) : LoopsOk E call (lp72 call fuel base) fuel base 0 (loopB (blockB (seqR (seqL (seqR (seqR c72)))))) = (And (And True (And True True)) (And (And (And True (And (And True True) True)) (And True (LpOk E call (lp72 call fuel base) fuel base 2 (loopB (blockB (seqR (seqR (blockB (seqL (seqR (loopB (blockB (seqR (seqL (seqR (seqR c72)))))))))))))))) True)) := by kernel_rfl
theorem r72_L0_ok (call : CallF) (fuel base : Nat) : LpOk E call (lp72 call fuel base) fuel base 0 (loopB (blockB (seqR (seqL (seqR (seqR c72)))))) := by
  refine loop_ok (kp := keep72) (hb := Eq.mpr (r72_L0_lk call fuel base) (And.intro (And.intro trivial (And.intro trivial trivial)) (And.intro (And.intro (And.intro trivial (And.intro (And.intro trivial trivial) trivial)) (And.intro trivial (r72_L2_ok call fuel base))) trivial))) 68 [0, 3] (fun n vs m K => r72_L0_R call fuel base n vs m K) ?_ ?_ (fun _ _ _ => rfl)
  · intro vs m K
    unfold r72_L0_R
    split <;> rfl
  · intro n vs m K hl
    match vs, hl with
    | [x0, x3], _ => show _ = _; kernel_rfl
theorem r72_eq (call : CallF) (fuel base : Nat) (x0 : Value) (m : M) : kbody E call keep72 (lp72 call fuel base) base Tryz.f72 [x0] m = r72 call fuel base x0 m := by
  kernel_rfl
noncomputable def rf72 : RF := fun call fuel base args m => match args with
  | [x0] => r72 call fuel base x0 m
  | _ => none
theorem r72_lk (call : CallF) (fuel base : Nat) : LoopsOk E call (lp72 call fuel base) fuel base 0 c72 = (And True (And (And True (And (And True True) True)) (And (And True (LpOk E call (lp72 call fuel base) fuel base 0 (loopB (blockB (seqR (seqL (seqR (seqR c72)))))))) (And True True)))) := by kernel_rfl
theorem r72_fn : E.P.funcs[72]? = some Tryz.f72 := by kernel_rfl
theorem r72_body : Tryz.f72.body = some c72 := by kernel_rfl
theorem rf72_ok : RFok E 72 rf72 := by
  show RFok' E 72 rf72
  refine ⟨Tryz.f72, r72_fn, fun call fuel base args m r _ h => ?_⟩
  unfold rf72 at h
  split at h
  · rw [← r72_eq] at h
    exact kbody_sound (c := c72) r72_body (Eq.mpr (r72_lk call fuel base) (And.intro trivial (And.intro (And.intro trivial (And.intro (And.intro trivial trivial) trivial)) (And.intro (And.intro trivial (r72_L0_ok call fuel base)) (And.intro trivial trivial))))) h
  · simp at h
end Go.AM
namespace Go.AM
open Go Go.Proofs
noncomputable def r73 (call : CallF) (fuel base : Nat) (x0 : Value) (x1 : Value) (m : M) : Res2 :=
  (k2 (xbox m x0) fun v2_1 m => (k2 (xbox m x1) fun v3_2 m => (k1 (mfieldAddr E.P 68 v2_1 1) fun v5_3 => (k1 (xload E.P m 3 v5_3) fun v6_4 => (k1 (mfieldAddr E.P 68 v3_2 1) fun v7_5 => (k1 (xload E.P m 3 v7_5) fun v8_6 => (k1 (mbin E .lss 3 v6_4 v8_6) fun v9_7 => (kb v9_7 (fVal (.bool true) fun v => some (.ret v, m)) (k1 (mfieldAddr E.P 68 v2_1 1) fun v11_8 => (k1 (xload E.P m 3 v11_8) fun v12_9 => (k1 (mfieldAddr E.P 68 v3_2 1) fun v13_10 => (k1 (xload E.P m 3 v13_10) fun v14_11 => (k1 (mbin E .eql 3 v12_9 v14_11) fun v15_12 => (kbu v15_12 (k1 (mfieldAddr E.P 68 v2_1 0) fun v17_13 => (k1 (xload E.P m 3 v17_13) fun v18_14 => (k1 (mfieldAddr E.P 68 v3_2 0) fun v19_15 => (k1 (xload E.P m 3 v19_15) fun v20_16 => (k1 (mbin E .lss 3 v18_14 v20_16) fun v21_17 => (fVal v21_17 fun v => some (.ret v, m))))))) (fVal (.bool false) fun v => some (.ret v, m)) (k0 (mpick undef undef (.bool false)) fun v22_18 => (fVal v22_18 fun v => some (.ret v, m)))))))))))))))))
def keep73 : Keep := { region := fun i => ([[2, 3], [4]] : List (List Nat))[i]?, exit := fun i => ([] : List (List Nat))[i]?, ret := some [4] }
noncomputable def lp73 (call : CallF) (fuel base : Nat) : Lp := lpsel []
noncomputable def c73 : Code := Tryz.f73.body.getD .skip
theorem r73_eq (call : CallF) (fuel base : Nat) (x0 : Value) (x1 : Value) (m : M) : kbody E call keep73 (lp73 call fuel base) base Tryz.f73 [x0, x1] m = r73 call fuel base x0 x1 m := by
  kernel_rfl
noncomputable def rf73 : RF := fun call fuel base args m => match args with
  | [x0, x1] => r73 call fuel base x0 x1 m
  | _ => none
theorem r73_lk (call : CallF) (fuel base : Nat) : LoopsOk E call (lp73 call fuel base) fuel base 0 c73 = (And True (And True True)) := by kernel_rfl
theorem r73_fn : E.P.funcs[73]? = some Tryz.f73 := by kernel_rfl
theorem r73_body : Tryz.f73.body = some c73 := by kernel_rfl
theorem rf73_ok : RFok E 73 rf73 := by
  show RFok' E 73 rf73
  refine ⟨Tryz.f73, r73_fn, fun call fuel base args m r _ h => ?_⟩
  unfold rf73 at h
  split at h
  · rw [← r73_eq] at h
    exact kbody_sound (c := c73) r73_body (Eq.mpr (r73_lk call fuel base) (And.intro trivial (And.intro trivial trivial))) h
  · simp at h
end Go.AM
namespace Go.AM
open Go Go.Proofs
noncomputable def r74_L0 (call : CallF) (fuel base : Nat) (kr : Value → M → Res2) (kx0 : Value → M → Res2) (n : Nat) : Value → Value → Value → Value → M → Res2 :=
  Nat.rec (motive := fun _ => Value → Value → Value → Value → M → Res2) (fun _ _ _ _ _ => none)
    (fun _ ih x3 x6 x7 x8 m =>
      (k1 (mbin E .lss 3 x8 x7) fun v9_2 => (kb v9_2 (k1 (mindexAddr E.P 24 x6 x8) fun v10_3 => (k1 (xload E.P m 3 v10_3) fun v11_4 => (k1 (mbin E .neq 3 v11_4 x3) fun v14_5 => (kb v14_5 (kr v11_4 m) (k1 (mbin E .add 3 x8 (.int .i64 1)) fun v16_6 => (ih x3 x6 x7 v16_6 m)))))) (kx0 x3 m)))) n
noncomputable def r74 (call : CallF) (fuel base : Nat) (x0 : Value) (m : M) : Res2 :=
  (k2 (vcall E.P base m .len [24] [x0]) fun v7_1 m => (r74_L0 call fuel base (fun y2_7 m => (fVal y2_7 fun v => some (.ret v, m))) (fun y3_8 m => (fVal y3_8 fun v => some (.ret v, m))) fuel (.int .i64 0) x0 v7_1 (.int .i64 0) m))
def keep74 : Keep := { region := fun i => ([[0], [0, 3], [3, 6, 7, 8], [3, 6, 7, 8, 9], [3, 5, 6, 7, 8], [3, 5, 6, 7, 8, 14], [2], [3, 6, 7, 8], [2]] : List (List Nat))[i]?, exit := fun i => ([[3], [3, 6, 7, 8]] : List (List Nat))[i]?, ret := some [2] }
noncomputable def r74_L0_R (call : CallF) (fuel base n : Nat) (vs : List Value) (m : M) (K : KT) : Res2 := match vs with
  | [x3, x6, x7, x8] => r74_L0 call fuel base (fun y2 m => K .ret { n := 18, l := [(2, y2)] } m) (fun y3 m => K (.exit 0) { n := 18, l := [(3, y3)] } m) n x3 x6 x7 x8 m
  | _ => none
noncomputable def lp74 (call : CallF) (fuel base : Nat) : Lp := lpsel [(0, fun T m K => kslots 18 [3, 6, 7, 8] T fun vs => r74_L0_R call fuel base fuel vs m K)]
noncomputable def c74 : Code := Tryz.f74.body.getD .skip
theorem r74_L0_lk (call : CallF) (fuel base : Nat) : LoopsOk E call (lp74 call fuel base) fuel base 0 (loopB (blockB (seqR (seqL (seqR (seqR c74)))))) = (And True (And (And True True) (And (And True (And True (And (And True True) True))) True))) := by kernel_rfl
theorem r74_L0_ok (call : CallF) (fuel base : Nat) : LpOk E call (lp74 call fuel base) fuel base 0 (loopB (blockB (seqR (seqL (seqR (seqR c74)))))) := by
  refine loop_ok (kp := keep74) (hb := Eq.mpr (r74_L0_lk call fuel base) (And.intro trivial (And.intro (And.intro trivial trivial) (And.intro (And.intro trivial (And.intro trivial (And.intro (And.intro trivial trivial) trivial))) trivial)))) 18 [3, 6, 7, 8] (fun n vs m K => r74_L0_R call fuel base n vs m K) ?_ ?_ (fun _ _ _ => rfl)
  · intro vs m K
    unfold r74_L0_R
    split <;> rfl
  · intro n vs m K hl
    match vs, hl with
    | [x3, x6, x7, x8], _ => show _ = _; kernel_rfl
theorem r74_eq (call : CallF) (fuel base : Nat) (x0 : Value) (m : M) : kbody E call keep74 (lp74 call fuel base) base Tryz.f74 [x0] m = r74 call fuel base x0 m := by
  kernel_rfl
noncomputable def rf74 : RF := fun call fuel base args m => match args with
  | [x0] => r74 call fuel base x0 m
  | _ => none
theorem r74_lk (call : CallF) (fuel base : Nat) : LoopsOk E call (lp74 call fuel base) fuel base 0 c74 = (And True (And True (And (And True (LpOk E call (lp74 call fuel base) fuel base 0 (loopB (blockB (seqR (seqL (seqR (seqR c74)))))))) (And True True)))) := by kernel_rfl
theorem r74_fn : E.P.funcs[74]? = some Tryz.f74 := by kernel_rfl
theorem r74_body : Tryz.f74.body = some c74 := by kernel_rfl
theorem rf74_ok : RFok E 74 rf74 := by
  show RFok' E 74 rf74
  refine ⟨Tryz.f74, r74_fn, fun call fuel base args m r _ h => ?_⟩
  unfold rf74 at h
  split at h
  · rw [← r74_eq] at h
    exact kbody_sound (c := c74) r74_body (Eq.mpr (r74_lk call fuel base) (And.intro trivial (And.intro trivial (And.intro (And.intro trivial (r74_L0_ok call fuel base)) (And.intro trivial trivial))))) h
  · simp at h
end Go.AM
namespace Go.AM
open Go Go.Proofs
noncomputable def r75 (call : CallF) (fuel base : Nat) (x0 : Value) (x1 : Value) (m : M) : Res2 :=
  (kc (call base 94 [x0] m) (fun v8_1 m => (kc (call base 94 [x1] m) (fun v10_2 m => (kb v8_1 (kb v10_2 (fVal (.int .i64 0) fun v => some (.ret v, m)) (fVal (.int .i64 (-1)) fun v => some (.ret v, m))) (kb v10_2 (fVal (.int .i64 1) fun v => some (.ret v, m)) (k1 (mbin E .lss 3 x0 x1) fun v16_3 => (kb v16_3 (fVal (.int .i64 (-1)) fun v => some (.ret v, m)) (k1 (mbin E .gtr 3 x0 x1) fun v19_4 => (kb v19_4 (fVal (.int .i64 1) fun v => some (.ret v, m)) (fVal (.int .i64 0) fun v => some (.ret v, m))))))))) (fun v m => some (.pan v, m)))) (fun v m => some (.pan v, m)))
def keep75 : Keep := { region := fun i => ([[0, 1], [0, 1, 5], [0, 1, 5, 6], [0, 1, 6, 11], [12], [4], [4], [0, 1, 13], [4], [0, 1, 16], [4], [19], [4], [4]] : List (List Nat))[i]?, exit := fun i => ([] : List (List Nat))[i]?, ret := some [4] }
noncomputable def lp75 (call : CallF) (fuel base : Nat) : Lp := lpsel []
noncomputable def c75 : Code := Tryz.f75.body.getD .skip
theorem r75_eq (call : CallF) (fuel base : Nat) (x0 : Value) (x1 : Value) (m : M) : kbody E call keep75 (lp75 call fuel base) base Tryz.f75 [x0, x1] m = r75 call fuel base x0 x1 m := by
  kernel_rfl
noncomputable def rf75 : RF := fun call fuel base args m => match args with
  | [x0, x1] => r75 call fuel base x0 x1 m
  | _ => none
theorem r75_lk (call : CallF) (fuel base : Nat) : LoopsOk E call (lp75 call fuel base) fuel base 0 c75 = (And True (And True (And True (And (And True (And (And (And True (And (And True True) True)) (And True True)) True)) (And (And True (And (And True True) True)) (And (And True (And (And True True) True)) (And (And True (And (And True True) True)) (And True True)))))))) := by kernel_rfl
theorem r75_fn : E.P.funcs[75]? = some Tryz.f75 := by kernel_rfl
theorem r75_body : Tryz.f75.body = some c75 := by kernel_rfl
theorem rf75_ok : RFok E 75 rf75 := by
  show RFok' E 75 rf75
  refine ⟨Tryz.f75, r75_fn, fun call fuel base args m r _ h => ?_⟩
  unfold rf75 at h
  split at h
  · rw [← r75_eq] at h
    exact kbody_sound (c := c75) r75_body (Eq.mpr (r75_lk call fuel base) (And.intro trivial (And.intro trivial (And.intro trivial (And.intro (And.intro trivial (And.intro (And.intro (And.intro trivial (And.intro (And.intro trivial trivial) trivial)) (And.intro trivial trivial)) trivial)) (And.intro (And.intro trivial (And.intro (And.intro trivial trivial) trivial)) (And.intro (And.intro trivial (And.intro (And.intro trivial trivial) trivial)) (And.intro (And.intro trivial (And.intro (And.intro trivial trivial) trivial)) (And.intro trivial trivial))))))))) h
  · simp at h
end Go.AM
namespace Go.AM
open Go Go.Proofs
noncomputable def r76 (call : CallF) (fuel base : Nat) (x0 : Value) (x1 : Value) (m : M) : Res2 :=
  (k2 (vcall E.P base m .len [34] [x0]) fun v6_1 m => (k1 (mconvert E.P 3 131 v6_1) fun v10_2 => (kc (call base 78 [v10_2] m) (fun v11_3 m => (kc (call base 95 [x0, (.int .i64 0), v6_1, v11_3, x1] m) (fun v13_4 m => (some (.ret (.tuple #[]), m))) (fun v m => some (.pan v, m)))) (fun v m => some (.pan v, m)))))
def keep76 : Keep := { region := fun i => ([[0, 1, 4], []] : List (List Nat))[i]?, exit := fun i => ([] : List (List Nat))[i]?, ret := some [] }
noncomputable def lp76 (call : CallF) (fuel base : Nat) : Lp := lpsel []
noncomputable def c76 : Code := Tryz.f76.body.getD .skip
theorem r76_eq (call : CallF) (fuel base : Nat) (x0 : Value) (x1 : Value) (m : M) : kbody E call keep76 (lp76 call fuel base) base Tryz.f76 [x0, x1] m = r76 call fuel base x0 x1 m := by
  kernel_rfl
noncomputable def rf76 : RF := fun call fuel base args m => match args with
  | [x0, x1] => r76 call fuel base x0 x1 m
  | _ => none
theorem r76_lk (call : CallF) (fuel base : Nat) : LoopsOk E call (lp76 call fuel base) fuel base 0 c76 = (And True True) := by kernel_rfl
theorem r76_fn : E.P.funcs[76]? = some Tryz.f76 := by kernel_rfl
theorem r76_body : Tryz.f76.body = some c76 := by kernel_rfl
theorem rf76_ok : RFok E 76 rf76 := by
  show RFok' E 76 rf76
  refine ⟨Tryz.f76, r76_fn, fun call fuel base args m r _ h => ?_⟩
  unfold rf76 at h
  split at h
  · rw [← r76_eq] at h
    exact kbody_sound (c := c76) r76_body (Eq.mpr (r76_lk call fuel base) (And.intro trivial trivial)) h
  · simp at h
end Go.AM
namespace Go.AM
open Go Go.Proofs
noncomputable def r77_L0 (call : CallF) (fuel base : Nat) (kp : Value → M → Res2) (kr : M → Res2) (n : Nat) : Value → Value → Value → Value → Value → Value → Value → M → Res2 :=
  Nat.rec (motive := fun _ => Value → Value → Value → Value → Value → Value → Value → M → Res2) (fun _ _ _ _ _ _ _ _ => none)
    (fun _ ih x0 x1 x2 x3 x4 x10 x11 m =>
      (k1 (mbin E .sub 3 x2 x1) fun v23_1 => (k1 (mbin E .leq 3 v23_1 (.int .i64 12)) fun v25_2 => (kb v25_2 (kc (call base 96 [x0, x1, x2, x4] m) (fun v30_3 m => (kr m)) (fun v m => kp v m)) (k1 (mbin E .eql 3 x3 (.int .i64 0)) fun v32_4 => (kb v32_4 (kc (call base 97 [x0, x1, x2, x4] m) (fun v37_5 m => (kr m)) (fun v m => kp v m)) (k1 (mun .not x10) fun v39_6 => (kb v39_6 (kc (call base 98 [x0, x1, x2, x4] m) (fun v44_7 m => (k1 (mbin E .sub 3 x3 (.int .i64 1)) fun v46_8 => (kc (call base 99 [x0, x1, x2, x4] m) (fun v52_9 m => (k1 (mextract 0 v52_9) fun v53_10 => (k1 (mextract 1 v52_9) fun v54_11 => (k1 (mbin E .eql 142 v54_11 (.int .i64 2)) fun v56_12 => (kb v56_12 (kc (call base 100 [x0, x1, x2, x4] m) (fun v61_13 m => (k1 (mbin E .sub 3 x2 (.int .i64 1)) fun v63_14 => (k1 (mbin E .sub 3 v53_10 x1) fun v66_15 => (k1 (mbin E .sub 3 v63_14 v66_15) fun v67_16 => (kb x10 (kb x11 (k1 (mbin E .eql 142 (.int .i64 1) (.int .i64 1)) fun v74_17 => (kb v74_17 (kc (call base 101 [x0, x1, x2, x4] m) (fun v80_18 m => (kb v80_18 (kr m) (k1 (mbin E .gtr 3 x1 (.int .i64 0)) fun v82_19 => (kb v82_19 (k1 (mbin E .sub 3 x1 (.int .i64 1)) fun v87_20 => (k1 (mindexAddr E.P 23 x0 v87_20) fun v88_21 => (k1 (xload E.P m 34 v88_21) fun v89_22 => (k1 (mindexAddr E.P 23 x0 v67_16) fun v92_23 => (k1 (xload E.P m 34 v92_23) fun v93_24 => (kc (kB m (kv call m.length x4 [v89_22, v93_24] m)) (fun v94_25 m => (k1 (mbin E .lss 3 v94_25 (.int .i64 0)) fun v95_26 => (k1 (mun .not v95_26) fun v96_27 => (kb v96_27 (kc (call base 102 [x0, x1, x2, v67_16, x4] m) (fun v103_28 m => (ih x0 v103_28 x2 v46_8 x4 x10 x11 m)) (fun v m => kp v m)) (kc (call base 103 [x0, x1, x2, v67_16, x4] m) (fun v111_29 m => (k1 (mextract 0 v111_29) fun v112_30 => (k1 (mextract 1 v111_29) fun v113_31 => (k1 (mbin E .sub 3 v112_30 x1) fun v117_32 => (k1 (mbin E .sub 3 x2 v112_30) fun v120_33 => (k1 (mbin E .quo 3 v23_1 (.int .i64 8)) fun v122_34 => (k1 (mbin E .lss 3 v117_32 v120_33) fun v125_35 => (kb v125_35 (k1 (mbin E .geq 3 v117_32 v122_34) fun v128_36 => (kc (call base 77 [x0, x1, v112_30, v46_8, x4] m) (fun v134_37 m => (k1 (mbin E .add 3 v112_30 (.int .i64 1)) fun v136_38 => (ih x0 v136_38 x2 v46_8 x4 v128_36 v113_31 m))) (fun v m => kp v m))) (k1 (mbin E .geq 3 v120_33 v122_34) fun v139_39 => (k1 (mbin E .add 3 v112_30 (.int .i64 1)) fun v142_40 => (kc (call base 77 [x0, v142_40, x2, v46_8, x4] m) (fun v146_41 m => (ih x0 x1 v112_30 v46_8 x4 v139_39 v113_31 m)) (fun v m => kp v m)))))))))))) (fun v m => kp v m)))))) (fun _ _ => none))))))) (kc (call base 103 [x0, x1, x2, v67_16, x4] m) (fun v111_42 m => (k1 (mextract 0 v111_42) fun v112_43 => (k1 (mextract 1 v111_42) fun v113_44 => (k1 (mbin E .sub 3 v112_43 x1) fun v117_45 => (k1 (mbin E .sub 3 x2 v112_43) fun v120_46 => (k1 (mbin E .quo 3 v23_1 (.int .i64 8)) fun v122_47 => (k1 (mbin E .lss 3 v117_45 v120_46) fun v125_48 => (kb v125_48 (k1 (mbin E .geq 3 v117_45 v122_47) fun v128_49 => (kc (call base 77 [x0, x1, v112_43, v46_8, x4] m) (fun v134_50 m => (k1 (mbin E .add 3 v112_43 (.int .i64 1)) fun v136_51 => (ih x0 v136_51 x2 v46_8 x4 v128_49 v113_44 m))) (fun v m => kp v m))) (k1 (mbin E .geq 3 v120_46 v122_47) fun v139_52 => (k1 (mbin E .add 3 v112_43 (.int .i64 1)) fun v142_53 => (kc (call base 77 [x0, v142_53, x2, v46_8, x4] m) (fun v146_54 m => (ih x0 x1 v112_43 v46_8 x4 v139_52 v113_44 m)) (fun v m => kp v m)))))))))))) (fun v m => kp v m)))))) (fun v m => kp v m)) (k1 (mbin E .gtr 3 x1 (.int .i64 0)) fun v82_55 => (kb v82_55 (k1 (mbin E .sub 3 x1 (.int .i64 1)) fun v87_56 => (k1 (mindexAddr E.P 23 x0 v87_56) fun v88_57 => (k1 (xload E.P m 34 v88_57) fun v89_58 => (k1 (mindexAddr E.P 23 x0 v67_16) fun v92_59 => (k1 (xload E.P m 34 v92_59) fun v93_60 => (kc (kB m (kv call m.length x4 [v89_58, v93_60] m)) (fun v94_61 m => (k1 (mbin E .lss 3 v94_61 (.int .i64 0)) fun v95_62 => (k1 (mun .not v95_62) fun v96_63 => (kb v96_63 (kc (call base 102 [x0, x1, x2, v67_16, x4] m) (fun v103_64 m => (ih x0 v103_64 x2 v46_8 x4 x10 x11 m)) (fun v m => kp v m)) (kc (call base 103 [x0, x1, x2, v67_16, x4] m) (fun v111_65 m => (k1 (mextract 0 v111_65) fun v112_66 => (k1 (mextract 1 v111_65) fun v113_67 => (k1 (mbin E .sub 3 v112_66 x1) fun v117_68 => (k1 (mbin E .sub 3 x2 v112_66) fun v120_69 => (k1 (mbin E .quo 3 v23_1 (.int .i64 8)) fun v122_70 => (k1 (mbin E .lss 3 v117_68 v120_69) fun v125_71 => (kb v125_71 (k1 (mbin E .geq 3 v117_68 v122_70) fun v128_72 => (kc (call base 77 [x0, x1, v112_66, v46_8, x4] m) (fun v134_73 m => (k1 (mbin E .add 3 v112_66 (.int .i64 1)) fun v136_74 => (ih x0 v136_74 x2 v46_8 x4 v128_72 v113_67 m))) (fun v m => kp v m))) (k1 (mbin E .geq 3 v120_69 v122_70) fun v139_75 => (k1 (mbin E .add 3 v112_66 (.int .i64 1)) fun v142_76 => (kc (call base 77 [x0, v142_76, x2, v46_8, x4] m) (fun v146_77 m => (ih x0 x1 v112_66 v46_8 x4 v139_75 v113_67 m)) (fun v m => kp v m)))))))))))) (fun v m => kp v m)))))) (fun _ _ => none))))))) (kc (call base 103 [x0, x1, x2, v67_16, x4] m) (fun v111_78 m => (k1 (mextract 0 v111_78) fun v112_79 => (k1 (mextract 1 v111_78) fun v113_80 => (k1 (mbin E .sub 3 v112_79 x1) fun v117_81 => (k1 (mbin E .sub 3 x2 v112_79) fun v120_82 => (k1 (mbin E .quo 3 v23_1 (.int .i64 8)) fun v122_83 => (k1 (mbin E .lss 3 v117_81 v120_82) fun v125_84 => (kb v125_84 (k1 (mbin E .geq 3 v117_81 v122_83) fun v128_85 => (kc (call base 77 [x0, x1, v112_79, v46_8, x4] m) (fun v134_86 m => (k1 (mbin E .add 3 v112_79 (.int .i64 1)) fun v136_87 => (ih x0 v136_87 x2 v46_8 x4 v128_85 v113_80 m))) (fun v m => kp v m))) (k1 (mbin E .geq 3 v120_82 v122_83) fun v139_88 => (k1 (mbin E .add 3 v112_79 (.int .i64 1)) fun v142_89 => (kc (call base 77 [x0, v142_89, x2, v46_8, x4] m) (fun v146_90 m => (ih x0 x1 v112_79 v46_8 x4 v139_88 v113_80 m)) (fun v m => kp v m)))))))))))) (fun v m => kp v m)))))) (k1 (mbin E .gtr 3 x1 (.int .i64 0)) fun v82_91 => (kb v82_91 (k1 (mbin E .sub 3 x1 (.int .i64 1)) fun v87_92 => (k1 (mindexAddr E.P 23 x0 v87_92) fun v88_93 => (k1 (xload E.P m 34 v88_93) fun v89_94 => (k1 (mindexAddr E.P 23 x0 v67_16) fun v92_95 => (k1 (xload E.P m 34 v92_95) fun v93_96 => (kc (kB m (kv call m.length x4 [v89_94, v93_96] m)) (fun v94_97 m => (k1 (mbin E .lss 3 v94_97 (.int .i64 0)) fun v95_98 => (k1 (mun .not v95_98) fun v96_99 => (kb v96_99 (kc (call base 102 [x0, x1, x2, v67_16, x4] m) (fun v103_100 m => (ih x0 v103_100 x2 v46_8 x4 x10 x11 m)) (fun v m => kp v m)) (kc (call base 103 [x0, x1, x2, v67_16, x4] m) (fun v111_101 m => (k1 (mextract 0 v111_101) fun v112_102 => (k1 (mextract 1 v111_101) fun v113_103 => (k1 (mbin E .sub 3 v112_102 x1) fun v117_104 => (k1 (mbin E .sub 3 x2 v112_102) fun v120_105 => (k1 (mbin E .quo 3 v23_1 (.int .i64 8)) fun v122_106 => (k1 (mbin E .lss 3 v117_104 v120_105) fun v125_107 => (kb v125_107 (k1 (mbin E .geq 3 v117_104 v122_106) fun v128_108 => (kc (call base 77 [x0, x1, v112_102, v46_8, x4] m) (fun v134_109 m => (k1 (mbin E .add 3 v112_102 (.int .i64 1)) fun v136_110 => (ih x0 v136_110 x2 v46_8 x4 v128_108 v113_103 m))) (fun v m => kp v m))) (k1 (mbin E .geq 3 v120_105 v122_106) fun v139_111 => (k1 (mbin E .add 3 v112_102 (.int .i64 1)) fun v142_112 => (kc (call base 77 [x0, v142_112, x2, v46_8, x4] m) (fun v146_113 m => (ih x0 x1 v112_102 v46_8 x4 v139_111 v113_103 m)) (fun v m => kp v m)))))))))))) (fun v m => kp v m)))))) (fun _ _ => none))))))) (kc (call base 103 [x0, x1, x2, v67_16, x4] m) (fun v111_114 m => (k1 (mextract 0 v111_114) fun v112_115 => (k1 (mextract 1 v111_114) fun v113_116 => (k1 (mbin E .sub 3 v112_115 x1) fun v117_117 => (k1 (mbin E .sub 3 x2 v112_115) fun v120_118 => (k1 (mbin E .quo 3 v23_1 (.int .i64 8)) fun v122_119 => (k1 (mbin E .lss 3 v117_117 v120_118) fun v125_120 => (kb v125_120 (k1 (mbin E .geq 3 v117_117 v122_119) fun v128_121 => (kc (call base 77 [x0, x1, v112_115, v46_8, x4] m) (fun v134_122 m => (k1 (mbin E .add 3 v112_115 (.int .i64 1)) fun v136_123 => (ih x0 v136_123 x2 v46_8 x4 v128_121 v113_116 m))) (fun v m => kp v m))) (k1 (mbin E .geq 3 v120_118 v122_119) fun v139_124 => (k1 (mbin E .add 3 v112_115 (.int .i64 1)) fun v142_125 => (kc (call base 77 [x0, v142_125, x2, v46_8, x4] m) (fun v146_126 m => (ih x0 x1 v112_115 v46_8 x4 v139_124 v113_116 m)) (fun v m => kp v m)))))))))))) (fun v m => kp v m))))) (k1 (mbin E .gtr 3 x1 (.int .i64 0)) fun v82_127 => (kb v82_127 (k1 (mbin E .sub 3 x1 (.int .i64 1)) fun v87_128 => (k1 (mindexAddr E.P 23 x0 v87_128) fun v88_129 => (k1 (xload E.P m 34 v88_129) fun v89_130 => (k1 (mindexAddr E.P 23 x0 v67_16) fun v92_131 => (k1 (xload E.P m 34 v92_131) fun v93_132 => (kc (kB m (kv call m.length x4 [v89_130, v93_132] m)) (fun v94_133 m => (k1 (mbin E .lss 3 v94_133 (.int .i64 0)) fun v95_134 => (k1 (mun .not v95_134) fun v96_135 => (kb v96_135 (kc (call base 102 [x0, x1, x2, v67_16, x4] m) (fun v103_136 m => (ih x0 v103_136 x2 v46_8 x4 x10 x11 m)) (fun v m => kp v m)) (kc (call base 103 [x0, x1, x2, v67_16, x4] m) (fun v111_137 m => (k1 (mextract 0 v111_137) fun v112_138 => (k1 (mextract 1 v111_137) fun v113_139 => (k1 (mbin E .sub 3 v112_138 x1) fun v117_140 => (k1 (mbin E .sub 3 x2 v112_138) fun v120_141 => (k1 (mbin E .quo 3 v23_1 (.int .i64 8)) fun v122_142 => (k1 (mbin E .lss 3 v117_140 v120_141) fun v125_143 => (kb v125_143 (k1 (mbin E .geq 3 v117_140 v122_142) fun v128_144 => (kc (call base 77 [x0, x1, v112_138, v46_8, x4] m) (fun v134_145 m => (k1 (mbin E .add 3 v112_138 (.int .i64 1)) fun v136_146 => (ih x0 v136_146 x2 v46_8 x4 v128_144 v113_139 m))) (fun v m => kp v m))) (k1 (mbin E .geq 3 v120_141 v122_142) fun v139_147 => (k1 (mbin E .add 3 v112_138 (.int .i64 1)) fun v142_148 => (kc (call base 77 [x0, v142_148, x2, v46_8, x4] m) (fun v146_149 m => (ih x0 x1 v112_138 v46_8 x4 v139_147 v113_139 m)) (fun v m => kp v m)))))))))))) (fun v m => kp v m)))))) (fun _ _ => none))))))) (kc (call base 103 [x0, x1, x2, v67_16, x4] m) (fun v111_150 m => (k1 (mextract 0 v111_150) fun v112_151 => (k1 (mextract 1 v111_150) fun v113_152 => (k1 (mbin E .sub 3 v112_151 x1) fun v117_153 => (k1 (mbin E .sub 3 x2 v112_151) fun v120_154 => (k1 (mbin E .quo 3 v23_1 (.int .i64 8)) fun v122_155 => (k1 (mbin E .lss 3 v117_153 v120_154) fun v125_156 => (kb v125_156 (k1 (mbin E .geq 3 v117_153 v122_155) fun v128_157 => (kc (call base 77 [x0, x1, v112_151, v46_8, x4] m) (fun v134_158 m => (k1 (mbin E .add 3 v112_151 (.int .i64 1)) fun v136_159 => (ih x0 v136_159 x2 v46_8 x4 v128_157 v113_152 m))) (fun v m => kp v m))) (k1 (mbin E .geq 3 v120_154 v122_155) fun v139_160 => (k1 (mbin E .add 3 v112_151 (.int .i64 1)) fun v142_161 => (kc (call base 77 [x0, v142_161, x2, v46_8, x4] m) (fun v146_162 m => (ih x0 x1 v112_151 v46_8 x4 v139_160 v113_152 m)) (fun v m => kp v m)))))))))))) (fun v m => kp v m))))))))) (fun v m => kp v m)) (kb x10 (kb x11 (k1 (mbin E .eql 142 v54_11 (.int .i64 1)) fun v74_163 => (kb v74_163 (kc (call base 101 [x0, x1, x2, x4] m) (fun v80_164 m => (kb v80_164 (kr m) (k1 (mbin E .gtr 3 x1 (.int .i64 0)) fun v82_165 => (kb v82_165 (k1 (mbin E .sub 3 x1 (.int .i64 1)) fun v87_166 => (k1 (mindexAddr E.P 23 x0 v87_166) fun v88_167 => (k1 (xload E.P m 34 v88_167) fun v89_168 => (k1 (mindexAddr E.P 23 x0 v53_10) fun v92_169 => (k1 (xload E.P m 34 v92_169) fun v93_170 => (kc (kB m (kv call m.length x4 [v89_168, v93_170] m)) (fun v94_171 m => (k1 (mbin E .lss 3 v94_171 (.int .i64 0)) fun v95_172 => (k1 (mun .not v95_172) fun v96_173 => (kb v96_173 (kc (call base 102 [x0, x1, x2, v53_10, x4] m) (fun v103_174 m => (ih x0 v103_174 x2 v46_8 x4 x10 x11 m)) (fun v m => kp v m)) (kc (call base 103 [x0, x1, x2, v53_10, x4] m) (fun v111_175 m => (k1 (mextract 0 v111_175) fun v112_176 => (k1 (mextract 1 v111_175) fun v113_177 => (k1 (mbin E .sub 3 v112_176 x1) fun v117_178 => (k1 (mbin E .sub 3 x2 v112_176) fun v120_179 => (k1 (mbin E .quo 3 v23_1 (.int .i64 8)) fun v122_180 => (k1 (mbin E .lss 3 v117_178 v120_179) fun v125_181 => (kb v125_181 (k1 (mbin E .geq 3 v117_178 v122_180) fun v128_182 => (kc (call base 77 [x0, x1, v112_176, v46_8, x4] m) (fun v134_183 m => (k1 (mbin E .add 3 v112_176 (.int .i64 1)) fun v136_184 => (ih x0 v136_184 x2 v46_8 x4 v128_182 v113_177 m))) (fun v m => kp v m))) (k1 (mbin E .geq 3 v120_179 v122_180) fun v139_185 => (k1 (mbin E .add 3 v112_176 (.int .i64 1)) fun v142_186 => (kc (call base 77 [x0, v142_186, x2, v46_8, x4] m) (fun v146_187 m => (ih x0 x1 v112_176 v46_8 x4 v139_185 v113_177 m)) (fun v m => kp v m)))))))))))) (fun v m => kp v m)))))) (fun _ _ => none))))))) (kc (call base 103 [x0, x1, x2, v53_10, x4] m) (fun v111_188 m => (k1 (mextract 0 v111_188) fun v112_189 => (k1 (mextract 1 v111_188) fun v113_190 => (k1 (mbin E .sub 3 v112_189 x1) fun v117_191 => (k1 (mbin E .sub 3 x2 v112_189) fun v120_192 => (k1 (mbin E .quo 3 v23_1 (.int .i64 8)) fun v122_193 => (k1 (mbin E .lss 3 v117_191 v120_192) fun v125_194 => (kb v125_194 (k1 (mbin E .geq 3 v117_191 v122_193) fun v128_195 => (kc (call base 77 [x0, x1, v112_189, v46_8, x4] m) (fun v134_196 m => (k1 (mbin E .add 3 v112_189 (.int .i64 1)) fun v136_197 => (ih x0 v136_197 x2 v46_8 x4 v128_195 v113_190 m))) (fun v m => kp v m))) (k1 (mbin E .geq 3 v120_192 v122_193) fun v139_198 => (k1 (mbin E .add 3 v112_189 (.int .i64 1)) fun v142_199 => (kc (call base 77 [x0, v142_199, x2, v46_8, x4] m) (fun v146_200 m => (ih x0 x1 v112_189 v46_8 x4 v139_198 v113_190 m)) (fun v m => kp v m)))))))))))) (fun v m => kp v m)))))) (fun v m => kp v m)) (k1 (mbin E .gtr 3 x1 (.int .i64 0)) fun v82_201 => (kb v82_201 (k1 (mbin E .sub 3 x1 (.int .i64 1)) fun v87_202 => (k1 (mindexAddr E.P 23 x0 v87_202) fun v88_203 => (k1 (xload E.P m 34 v88_203) fun v89_204 => (k1 (mindexAddr E.P 23 x0 v53_10) fun v92_205 => (k1 (xload E.P m 34 v92_205) fun v93_206 => (kc (kB m (kv call m.length x4 [v89_204, v93_206] m)) (fun v94_207 m => (k1 (mbin E .lss 3 v94_207 (.int .i64 0)) fun v95_208 => (k1 (mun .not v95_208) fun v96_209 => (kb v96_209 (kc (call base 102 [x0, x1, x2, v53_10, x4] m) (fun v103_210 m => (ih x0 v103_210 x2 v46_8 x4 x10 x11 m)) (fun v m => kp v m)) (kc (call base 103 [x0, x1, x2, v53_10, x4] m) (fun v111_211 m => (k1 (mextract 0 v111_211) fun v112_212 => (k1 (mextract 1 v111_211) fun v113_213 => (k1 (mbin E .sub 3 v112_212 x1) fun v117_214 => (k1 (mbin E .sub 3 x2 v112_212) fun v120_215 => (k1 (mbin E .quo 3 v23_1 (.int .i64 8)) fun v122_216 => (k1 (mbin E .lss 3 v117_214 v120_215) fun v125_217 => (kb v125_217 (k1 (mbin E .geq 3 v117_214 v122_216) fun v128_218 => (kc (call base 77 [x0, x1, v112_212, v46_8, x4] m) (fun v134_219 m => (k1 (mbin E .add 3 v112_212 (.int .i64 1)) fun v136_220 => (ih x0 v136_220 x2 v46_8 x4 v128_218 v113_213 m))) (fun v m => kp v m))) (k1 (mbin E .geq 3 v120_215 v122_216) fun v139_221 => (k1 (mbin E .add 3 v112_212 (.int .i64 1)) fun v142_222 => (kc (call base 77 [x0, v142_222, x2, v46_8, x4] m) (fun v146_223 m => (ih x0 x1 v112_212 v46_8 x4 v139_221 v113_213 m)) (fun v m => kp v m)))))))))))) (fun v m => kp v m)))))) (fun _ _ => none))))))) (kc (call base 103 [x0, x1, x2, v53_10, x4] m) (fun v111_224 m => (k1 (mextract 0 v111_224) fun v112_225 => (k1 (mextract 1 v111_224) fun v113_226 => (k1 (mbin E .sub 3 v112_225 x1) fun v117_227 => (k1 (mbin E .sub 3 x2 v112_225) fun v120_228 => (k1 (mbin E .quo 3 v23_1 (.int .i64 8)) fun v122_229 => (k1 (mbin E .lss 3 v117_227 v120_228) fun v125_230 => (kb v125_230 (k1 (mbin E .geq 3 v117_227 v122_229) fun v128_231 => (kc (call base 77 [x0, x1, v112_225, v46_8, x4] m) (fun v134_232 m => (k1 (mbin E .add 3 v112_225 (.int .i64 1)) fun v136_233 => (ih x0 v136_233 x2 v46_8 x4 v128_231 v113_226 m))) (fun v m => kp v m))) (k1 (mbin E .geq 3 v120_228 v122_229) fun v139_234 => (k1 (mbin E .add 3 v112_225 (.int .i64 1)) fun v142_235 => (kc (call base 77 [x0, v142_235, x2, v46_8, x4] m) (fun v146_236 m => (ih x0 x1 v112_225 v46_8 x4 v139_234 v113_226 m)) (fun v m => kp v m)))))))))))) (fun v m => kp v m)))))) (k1 (mbin E .gtr 3 x1 (.int .i64 0)) fun v82_237 => (kb v82_237 (k1 (mbin E .sub 3 x1 (.int .i64 1)) fun v87_238 => (k1 (mindexAddr E.P 23 x0 v87_238) fun v88_239 => (k1 (xload E.P m 34 v88_239) fun v89_240 => (k1 (mindexAddr E.P 23 x0 v53_10) fun v92_241 => (k1 (xload E.P m 34 v92_241) fun v93_242 => (kc (kB m (kv call m.length x4 [v89_240, v93_242] m)) (fun v94_243 m => (k1 (mbin E .lss 3 v94_243 (.int .i64 0)) fun v95_244 => (k1 (mun .not v95_244) fun v96_245 => (kb v96_245 (kc (call base 102 [x0, x1, x2, v53_10, x4] m) (fun v103_246 m => (ih x0 v103_246 x2 v46_8 x4 x10 x11 m)) (fun v m => kp v m)) (kc (call base 103 [x0, x1, x2, v53_10, x4] m) (fun v111_247 m => (k1 (mextract 0 v111_247) fun v112_248 => (k1 (mextract 1 v111_247) fun v113_249 => (k1 (mbin E .sub 3 v112_248 x1) fun v117_250 => (k1 (mbin E .sub 3 x2 v112_248) fun v120_251 => (k1 (mbin E .quo 3 v23_1 (.int .i64 8)) fun v122_252 => (k1 (mbin E .lss 3 v117_250 v120_251) fun v125_253 => (kb v125_253 (k1 (mbin E .geq 3 v117_250 v122_252) fun v128_254 => (kc (call base 77 [x0, x1, v112_248, v46_8, x4] m) (fun v134_255 m => (k1 (mbin E .add 3 v112_248 (.int .i64 1)) fun v136_256 => (ih x0 v136_256 x2 v46_8 x4 v128_254 v113_249 m))) (fun v m => kp v m))) (k1 (mbin E .geq 3 v120_251 v122_252) fun v139_257 => (k1 (mbin E .add 3 v112_248 (.int .i64 1)) fun v142_258 => (kc (call base 77 [x0, v142_258, x2, v46_8, x4] m) (fun v146_259 m => (ih x0 x1 v112_248 v46_8 x4 v139_257 v113_249 m)) (fun v m => kp v m)))))))))))) (fun v m => kp v m)))))) (fun _ _ => none))))))) (kc (call base 103 [x0, x1, x2, v53_10, x4] m) (fun v111_260 m => (k1 (mextract 0 v111_260) fun v112_261 => (k1 (mextract 1 v111_260) fun v113_262 => (k1 (mbin E .sub 3 v112_261 x1) fun v117_263 => (k1 (mbin E .sub 3 x2 v112_261) fun v120_264 => (k1 (mbin E .quo 3 v23_1 (.int .i64 8)) fun v122_265 => (k1 (mbin E .lss 3 v117_263 v120_264) fun v125_266 => (kb v125_266 (k1 (mbin E .geq 3 v117_263 v122_265) fun v128_267 => (kc (call base 77 [x0, x1, v112_261, v46_8, x4] m) (fun v134_268 m => (k1 (mbin E .add 3 v112_261 (.int .i64 1)) fun v136_269 => (ih x0 v136_269 x2 v46_8 x4 v128_267 v113_262 m))) (fun v m => kp v m))) (k1 (mbin E .geq 3 v120_264 v122_265) fun v139_270 => (k1 (mbin E .add 3 v112_261 (.int .i64 1)) fun v142_271 => (kc (call base 77 [x0, v142_271, x2, v46_8, x4] m) (fun v146_272 m => (ih x0 x1 v112_261 v46_8 x4 v139_270 v113_262 m)) (fun v m => kp v m)))))))))))) (fun v m => kp v m))))) (k1 (mbin E .gtr 3 x1 (.int .i64 0)) fun v82_273 => (kb v82_273 (k1 (mbin E .sub 3 x1 (.int .i64 1)) fun v87_274 => (k1 (mindexAddr E.P 23 x0 v87_274) fun v88_275 => (k1 (xload E.P m 34 v88_275) fun v89_276 => (k1 (mindexAddr E.P 23 x0 v53_10) fun v92_277 => (k1 (xload E.P m 34 v92_277) fun v93_278 => (kc (kB m (kv call m.length x4 [v89_276, v93_278] m)) (fun v94_279 m => (k1 (mbin E .lss 3 v94_279 (.int .i64 0)) fun v95_280 => (k1 (mun .not v95_280) fun v96_281 => (kb v96_281 (kc (call base 102 [x0, x1, x2, v53_10, x4] m) (fun v103_282 m => (ih x0 v103_282 x2 v46_8 x4 x10 x11 m)) (fun v m => kp v m)) (kc (call base 103 [x0, x1, x2, v53_10, x4] m) (fun v111_283 m => (k1 (mextract 0 v111_283) fun v112_284 => (k1 (mextract 1 v111_283) fun v113_285 => (k1 (mbin E .sub 3 v112_284 x1) fun v117_286 => (k1 (mbin E .sub 3 x2 v112_284) fun v120_287 => (k1 (mbin E .quo 3 v23_1 (.int .i64 8)) fun v122_288 => (k1 (mbin E .lss 3 v117_286 v120_287) fun v125_289 => (kb v125_289 (k1 (mbin E .geq 3 v117_286 v122_288) fun v128_290 => (kc (call base 77 [x0, x1, v112_284, v46_8, x4] m) (fun v134_291 m => (k1 (mbin E .add 3 v112_284 (.int .i64 1)) fun v136_292 => (ih x0 v136_292 x2 v46_8 x4 v128_290 v113_285 m))) (fun v m => kp v m))) (k1 (mbin E .geq 3 v120_287 v122_288) fun v139_293 => (k1 (mbin E .add 3 v112_284 (.int .i64 1)) fun v142_294 => (kc (call base 77 [x0, v142_294, x2, v46_8, x4] m) (fun v146_295 m => (ih x0 x1 v112_284 v46_8 x4 v139_293 v113_285 m)) (fun v m => kp v m)))))))))))) (fun v m => kp v m)))))) (fun _ _ => none))))))) (kc (call base 103 [x0, x1, x2, v53_10, x4] m) (fun v111_296 m => (k1 (mextract 0 v111_296) fun v112_297 => (k1 (mextract 1 v111_296) fun v113_298 => (k1 (mbin E .sub 3 v112_297 x1) fun v117_299 => (k1 (mbin E .sub 3 x2 v112_297) fun v120_300 => (k1 (mbin E .quo 3 v23_1 (.int .i64 8)) fun v122_301 => (k1 (mbin E .lss 3 v117_299 v120_300) fun v125_302 => (kb v125_302 (k1 (mbin E .geq 3 v117_299 v122_301) fun v128_303 => (kc (call base 77 [x0, x1, v112_297, v46_8, x4] m) (fun v134_304 m => (k1 (mbin E .add 3 v112_297 (.int .i64 1)) fun v136_305 => (ih x0 v136_305 x2 v46_8 x4 v128_303 v113_298 m))) (fun v m => kp v m))) (k1 (mbin E .geq 3 v120_300 v122_301) fun v139_306 => (k1 (mbin E .add 3 v112_297 (.int .i64 1)) fun v142_307 => (kc (call base 77 [x0, v142_307, x2, v46_8, x4] m) (fun v146_308 m => (ih x0 x1 v112_297 v46_8 x4 v139_306 v113_298 m)) (fun v m => kp v m)))))))))))) (fun v m => kp v m)))))))))) (fun v m => kp v m)))) (fun v m => kp v m)) (kc (call base 99 [x0, x1, x2, x4] m) (fun v52_309 m => (k1 (mextract 0 v52_309) fun v53_310 => (k1 (mextract 1 v52_309) fun v54_311 => (k1 (mbin E .eql 142 v54_311 (.int .i64 2)) fun v56_312 => (kb v56_312 (kc (call base 100 [x0, x1, x2, x4] m) (fun v61_313 m => (k1 (mbin E .sub 3 x2 (.int .i64 1)) fun v63_314 => (k1 (mbin E .sub 3 v53_310 x1) fun v66_315 => (k1 (mbin E .sub 3 v63_314 v66_315) fun v67_316 => (kb x10 (kb x11 (k1 (mbin E .eql 142 (.int .i64 1) (.int .i64 1)) fun v74_317 => (kb v74_317 (kc (call base 101 [x0, x1, x2, x4] m) (fun v80_318 m => (kb v80_318 (kr m) (k1 (mbin E .gtr 3 x1 (.int .i64 0)) fun v82_319 => (kb v82_319 (k1 (mbin E .sub 3 x1 (.int .i64 1)) fun v87_320 => (k1 (mindexAddr E.P 23 x0 v87_320) fun v88_321 => (k1 (xload E.P m 34 v88_321) fun v89_322 => (k1 (mindexAddr E.P 23 x0 v67_316) fun v92_323 => (k1 (xload E.P m 34 v92_323) fun v93_324 => (kc (kB m (kv call m.length x4 [v89_322, v93_324] m)) (fun v94_325 m => (k1 (mbin E .lss 3 v94_325 (.int .i64 0)) fun v95_326 => (k1 (mun .not v95_326) fun v96_327 => (kb v96_327 (kc (call base 102 [x0, x1, x2, v67_316, x4] m) (fun v103_328 m => (ih x0 v103_328 x2 x3 x4 x10 x11 m)) (fun v m => kp v m)) (kc (call base 103 [x0, x1, x2, v67_316, x4] m) (fun v111_329 m => (k1 (mextract 0 v111_329) fun v112_330 => (k1 (mextract 1 v111_329) fun v113_331 => (k1 (mbin E .sub 3 v112_330 x1) fun v117_332 => (k1 (mbin E .sub 3 x2 v112_330) fun v120_333 => (k1 (mbin E .quo 3 v23_1 (.int .i64 8)) fun v122_334 => (k1 (mbin E .lss 3 v117_332 v120_333) fun v125_335 => (kb v125_335 (k1 (mbin E .geq 3 v117_332 v122_334) fun v128_336 => (kc (call base 77 [x0, x1, v112_330, x3, x4] m) (fun v134_337 m => (k1 (mbin E .add 3 v112_330 (.int .i64 1)) fun v136_338 => (ih x0 v136_338 x2 x3 x4 v128_336 v113_331 m))) (fun v m => kp v m))) (k1 (mbin E .geq 3 v120_333 v122_334) fun v139_339 => (k1 (mbin E .add 3 v112_330 (.int .i64 1)) fun v142_340 => (kc (call base 77 [x0, v142_340, x2, x3, x4] m) (fun v146_341 m => (ih x0 x1 v112_330 x3 x4 v139_339 v113_331 m)) (fun v m => kp v m)))))))))))) (fun v m => kp v m)))))) (fun _ _ => none))))))) (kc (call base 103 [x0, x1, x2, v67_316, x4] m) (fun v111_342 m => (k1 (mextract 0 v111_342) fun v112_343 => (k1 (mextract 1 v111_342) fun v113_344 => (k1 (mbin E .sub 3 v112_343 x1) fun v117_345 => (k1 (mbin E .sub 3 x2 v112_343) fun v120_346 => (k1 (mbin E .quo 3 v23_1 (.int .i64 8)) fun v122_347 => (k1 (mbin E .lss 3 v117_345 v120_346) fun v125_348 => (kb v125_348 (k1 (mbin E .geq 3 v117_345 v122_347) fun v128_349 => (kc (call base 77 [x0, x1, v112_343, x3, x4] m) (fun v134_350 m => (k1 (mbin E .add 3 v112_343 (.int .i64 1)) fun v136_351 => (ih x0 v136_351 x2 x3 x4 v128_349 v113_344 m))) (fun v m => kp v m))) (k1 (mbin E .geq 3 v120_346 v122_347) fun v139_352 => (k1 (mbin E .add 3 v112_343 (.int .i64 1)) fun v142_353 => (kc (call base 77 [x0, v142_353, x2, x3, x4] m) (fun v146_354 m => (ih x0 x1 v112_343 x3 x4 v139_352 v113_344 m)) (fun v m => kp v m)))))))))))) (fun v m => kp v m)))))) (fun v m => kp v m)) (k1 (mbin E .gtr 3 x1 (.int .i64 0)) fun v82_355 => (kb v82_355 (k1 (mbin E .sub 3 x1 (.int .i64 1)) fun v87_356 => (k1 (mindexAddr E.P 23 x0 v87_356) fun v88_357 => (k1 (xload E.P m 34 v88_357) fun v89_358 => (k1 (mindexAddr E.P 23 x0 v67_316) fun v92_359 => (k1 (xload E.P m 34 v92_359) fun v93_360 => (kc (kB m (kv call m.length x4 [v89_358, v93_360] m)) (fun v94_361 m => (k1 (mbin E .lss 3 v94_361 (.int .i64 0)) fun v95_362 => (k1 (mun .not v95_362) fun v96_363 => (kb v96_363 (kc (call base 102 [x0, x1, x2, v67_316, x4] m) (fun v103_364 m => (ih x0 v103_364 x2 x3 x4 x10 x11 m)) (fun v m => kp v m)) (kc (call base 103 [x0, x1, x2, v67_316, x4] m) (fun v111_365 m => (k1 (mextract 0 v111_365) fun v112_366 => (k1 (mextract 1 v111_365) fun v113_367 => (k1 (mbin E .sub 3 v112_366 x1) fun v117_368 => (k1 (mbin E .sub 3 x2 v112_366) fun v120_369 => (k1 (mbin E .quo 3 v23_1 (.int .i64 8)) fun v122_370 => (k1 (mbin E .lss 3 v117_368 v120_369) fun v125_371 => (kb v125_371 (k1 (mbin E .geq 3 v117_368 v122_370) fun v128_372 => (kc (call base 77 [x0, x1, v112_366, x3, x4] m) (fun v134_373 m => (k1 (mbin E .add 3 v112_366 (.int .i64 1)) fun v136_374 => (ih x0 v136_374 x2 x3 x4 v128_372 v113_367 m))) (fun v m => kp v m))) (k1 (mbin E .geq 3 v120_369 v122_370) fun v139_375 => (k1 (mbin E .add 3 v112_366 (.int .i64 1)) fun v142_376 => (kc (call base 77 [x0, v142_376, x2, x3, x4] m) (fun v146_377 m => (ih x0 x1 v112_366 x3 x4 v139_375 v113_367 m)) (fun v m => kp v m)))))))))))) (fun v m => kp v m)))))) (fun _ _ => none))))))) (kc (call base 103 [x0, x1, x2, v67_316, x4] m) (fun v111_378 m => (k1 (mextract 0 v111_378) fun v112_379 => (k1 (mextract 1 v111_378) fun v113_380 => (k1 (mbin E .sub 3 v112_379 x1) fun v117_381 => (k1 (mbin E .sub 3 x2 v112_379) fun v120_382 => (k1 (mbin E .quo 3 v23_1 (.int .i64 8)) fun v122_383 => (k1 (mbin E .lss 3 v117_381 v120_382) fun v125_384 => (kb v125_384 (k1 (mbin E .geq 3 v117_381 v122_383) fun v128_385 => (kc (call base 77 [x0, x1, v112_379, x3, x4] m) (fun v134_386 m => (k1 (mbin E .add 3 v112_379 (.int .i64 1)) fun v136_387 => (ih x0 v136_387 x2 x3 x4 v128_385 v113_380 m))) (fun v m => kp v m))) (k1 (mbin E .geq 3 v120_382 v122_383) fun v139_388 => (k1 (mbin E .add 3 v112_379 (.int .i64 1)) fun v142_389 => (kc (call base 77 [x0, v142_389, x2, x3, x4] m) (fun v146_390 m => (ih x0 x1 v112_379 x3 x4 v139_388 v113_380 m)) (fun v m => kp v m)))))))))))) (fun v m => kp v m)))))) (k1 (mbin E .gtr 3 x1 (.int .i64 0)) fun v82_391 => (kb v82_391 (k1 (mbin E .sub 3 x1 (.int .i64 1)) fun v87_392 => (k1 (mindexAddr E.P 23 x0 v87_392) fun v88_393 => (k1 (xload E.P m 34 v88_393) fun v89_394 => (k1 (mindexAddr E.P 23 x0 v67_316) fun v92_395 => (k1 (xload E.P m 34 v92_395) fun v93_396 => (kc (kB m (kv call m.length x4 [v89_394, v93_396] m)) (fun v94_397 m => (k1 (mbin E .lss 3 v94_397 (.int .i64 0)) fun v95_398 => (k1 (mun .not v95_398) fun v96_399 => (kb v96_399 (kc (call base 102 [x0, x1, x2, v67_316, x4] m) (fun v103_400 m => (ih x0 v103_400 x2 x3 x4 x10 x11 m)) (fun v m => kp v m)) (kc (call base 103 [x0, x1, x2, v67_316, x4] m) (fun v111_401 m => (k1 (mextract 0 v111_401) fun v112_402 => (k1 (mextract 1 v111_401) fun v113_403 => (k1 (mbin E .sub 3 v112_402 x1) fun v117_404 => (k1 (mbin E .sub 3 x2 v112_402) fun v120_405 => (k1 (mbin E .quo 3 v23_1 (.int .i64 8)) fun v122_406 => (k1 (mbin E .lss 3 v117_404 v120_405) fun v125_407 => (kb v125_407 (k1 (mbin E .geq 3 v117_404 v122_406) fun v128_408 => (kc (call base 77 [x0, x1, v112_402, x3, x4] m) (fun v134_409 m => (k1 (mbin E .add 3 v112_402 (.int .i64 1)) fun v136_410 => (ih x0 v136_410 x2 x3 x4 v128_408 v113_403 m))) (fun v m => kp v m))) (k1 (mbin E .geq 3 v120_405 v122_406) fun v139_411 => (k1 (mbin E .add 3 v112_402 (.int .i64 1)) fun v142_412 => (kc (call base 77 [x0, v142_412, x2, x3, x4] m) (fun v146_413 m => (ih x0 x1 v112_402 x3 x4 v139_411 v113_403 m)) (fun v m => kp v m)))))))))))) (fun v m => kp v m)))))) (fun _ _ => none))))))) (kc (call base 103 [x0, x1, x2, v67_316, x4] m) (fun v111_414 m => (k1 (mextract 0 v111_414) fun v112_415 => (k1 (mextract 1 v111_414) fun v113_416 => (k1 (mbin E .sub 3 v112_415 x1) fun v117_417 => (k1 (mbin E .sub 3 x2 v112_415) fun v120_418 => (k1 (mbin E .quo 3 v23_1 (.int .i64 8)) fun v122_419 => (k1 (mbin E .lss 3 v117_417 v120_418) fun v125_420 => (kb v125_420 (k1 (mbin E .geq 3 v117_417 v122_419) fun v128_421 => (kc (call base 77 [x0, x1, v112_415, x3, x4] m) (fun v134_422 m => (k1 (mbin E .add 3 v112_415 (.int .i64 1)) fun v136_423 => (ih x0 v136_423 x2 x3 x4 v128_421 v113_416 m))) (fun v m => kp v m))) (k1 (mbin E .geq 3 v120_418 v122_419) fun v139_424 => (k1 (mbin E .add 3 v112_415 (.int .i64 1)) fun v142_425 => (kc (call base 77 [x0, v142_425, x2, x3, x4] m) (fun v146_426 m => (ih x0 x1 v112_415 x3 x4 v139_424 v113_416 m)) (fun v m => kp v m)))))))))))) (fun v m => kp v m))))) (k1 (mbin E .gtr 3 x1 (.int .i64 0)) fun v82_427 => (kb v82_427 (k1 (mbin E .sub 3 x1 (.int .i64 1)) fun v87_428 => (k1 (mindexAddr E.P 23 x0 v87_428) fun v88_429 => (k1 (xload E.P m 34 v88_429) fun v89_430 => (k1 (mindexAddr E.P 23 x0 v67_316) fun v92_431 => (k1 (xload E.P m 34 v92_431) fun v93_432 => (kc (kB m (kv call m.length x4 [v89_430, v93_432] m)) (fun v94_433 m => (k1 (mbin E .lss 3 v94_433 (.int .i64 0)) fun v95_434 => (k1 (mun .not v95_434) fun v96_435 => (kb v96_435 (kc (call base 102 [x0, x1, x2, v67_316, x4] m) (fun v103_436 m => (ih x0 v103_436 x2 x3 x4 x10 x11 m)) (fun v m => kp v m)) (kc (call base 103 [x0, x1, x2, v67_316, x4] m) (fun v111_437 m => (k1 (mextract 0 v111_437) fun v112_438 => (k1 (mextract 1 v111_437) fun v113_439 => (k1 (mbin E .sub 3 v112_438 x1) fun v117_440 => (k1 (mbin E .sub 3 x2 v112_438) fun v120_441 => (k1 (mbin E .quo 3 v23_1 (.int .i64 8)) fun v122_442 => (k1 (mbin E .lss 3 v117_440 v120_441) fun v125_443 => (kb v125_443 (k1 (mbin E .geq 3 v117_440 v122_442) fun v128_444 => (kc (call base 77 [x0, x1, v112_438, x3, x4] m) (fun v134_445 m => (k1 (mbin E .add 3 v112_438 (.int .i64 1)) fun v136_446 => (ih x0 v136_446 x2 x3 x4 v128_444 v113_439 m))) (fun v m => kp v m))) (k1 (mbin E .geq 3 v120_441 v122_442) fun v139_447 => (k1 (mbin E .add 3 v112_438 (.int .i64 1)) fun v142_448 => (kc (call base 77 [x0, v142_448, x2, x3, x4] m) (fun v146_449 m => (ih x0 x1 v112_438 x3 x4 v139_447 v113_439 m)) (fun v m => kp v m)))))))))))) (fun v m => kp v m)))))) (fun _ _ => none))))))) (kc (call base 103 [x0, x1, x2, v67_316, x4] m) (fun v111_450 m => (k1 (mextract 0 v111_450) fun v112_451 => (k1 (mextract 1 v111_450) fun v113_452 => (k1 (mbin E .sub 3 v112_451 x1) fun v117_453 => (k1 (mbin E .sub 3 x2 v112_451) fun v120_454 => (k1 (mbin E .quo 3 v23_1 (.int .i64 8)) fun v122_455 => (k1 (mbin E .lss 3 v117_453 v120_454) fun v125_456 => (kb v125_456 (k1 (mbin E .geq 3 v117_453 v122_455) fun v128_457 => (kc (call base 77 [x0, x1, v112_451, x3, x4] m) (fun v134_458 m => (k1 (mbin E .add 3 v112_451 (.int .i64 1)) fun v136_459 => (ih x0 v136_459 x2 x3 x4 v128_457 v113_452 m))) (fun v m => kp v m))) (k1 (mbin E .geq 3 v120_454 v122_455) fun v139_460 => (k1 (mbin E .add 3 v112_451 (.int .i64 1)) fun v142_461 => (kc (call base 77 [x0, v142_461, x2, x3, x4] m) (fun v146_462 m => (ih x0 x1 v112_451 x3 x4 v139_460 v113_452 m)) (fun v m => kp v m)))))))))))) (fun v m => kp v m))))))))) (fun v m => kp v m)) (kb x10 (kb x11 (k1 (mbin E .eql 142 v54_311 (.int .i64 1)) fun v74_463 => (kb v74_463 (kc (call base 101 [x0, x1, x2, x4] m) (fun v80_464 m => (kb v80_464 (kr m) (k1 (mbin E .gtr 3 x1 (.int .i64 0)) fun v82_465 => (kb v82_465 (k1 (mbin E .sub 3 x1 (.int .i64 1)) fun v87_466 => (k1 (mindexAddr E.P 23 x0 v87_466) fun v88_467 => (k1 (xload E.P m 34 v88_467) fun v89_468 => (k1 (mindexAddr E.P 23 x0 v53_310) fun v92_469 => (k1 (xload E.P m 34 v92_469) fun v93_470 => (kc (kB m (kv call m.length x4 [v89_468, v93_470] m)) (fun v94_471 m => (k1 (mbin E .lss 3 v94_471 (.int .i64 0)) fun v95_472 => (k1 (mun .not v95_472) fun v96_473 => (kb v96_473 (kc (call base 102 [x0, x1, x2, v53_310, x4] m) (fun v103_474 m => (ih x0 v103_474 x2 x3 x4 x10 x11 m)) (fun v m => kp v m)) (kc (call base 103 [x0, x1, x2, v53_310, x4] m) (fun v111_475 m => (k1 (mextract 0 v111_475) fun v112_476 => (k1 (mextract 1 v111_475) fun v113_477 => (k1 (mbin E .sub 3 v112_476 x1) fun v117_478 => (k1 (mbin E .sub 3 x2 v112_476) fun v120_479 => (k1 (mbin E .quo 3 v23_1 (.int .i64 8)) fun v122_480 => (k1 (mbin E .lss 3 v117_478 v120_479) fun v125_481 => (kb v125_481 (k1 (mbin E .geq 3 v117_478 v122_480) fun v128_482 => (kc (call base 77 [x0, x1, v112_476, x3, x4] m) (fun v134_483 m => (k1 (mbin E .add 3 v112_476 (.int .i64 1)) fun v136_484 => (ih x0 v136_484 x2 x3 x4 v128_482 v113_477 m))) (fun v m => kp v m))) (k1 (mbin E .geq 3 v120_479 v122_480) fun v139_485 => (k1 (mbin E .add 3 v112_476 (.int .i64 1)) fun v142_486 => (kc (call base 77 [x0, v142_486, x2, x3, x4] m) (fun v146_487 m => (ih x0 x1 v112_476 x3 x4 v139_485 v113_477 m)) (fun v m => kp v m)))))))))))) (fun v m => kp v m)))))) (fun _ _ => none))))))) (kc (call base 103 [x0, x1, x2, v53_310, x4] m) (fun v111_488 m => (k1 (mextract 0 v111_488) fun v112_489 => (k1 (mextract 1 v111_488) fun v113_490 => (k1 (mbin E .sub 3 v112_489 x1) fun v117_491 => (k1 (mbin E .sub 3 x2 v112_489) fun v120_492 => (k1 (mbin E .quo 3 v23_1 (.int .i64 8)) fun v122_493 => (k1 (mbin E .lss 3 v117_491 v120_492) fun v125_494 => (kb v125_494 (k1 (mbin E .geq 3 v117_491 v122_493) fun v128_495 => (kc (call base 77 [x0, x1, v112_489, x3, x4] m) (fun v134_496 m => (k1 (mbin E .add 3 v112_489 (.int .i64 1)) fun v136_497 => (ih x0 v136_497 x2 x3 x4 v128_495 v113_490 m))) (fun v m => kp v m))) (k1 (mbin E .geq 3 v120_492 v122_493) fun v139_498 => (k1 (mbin E .add 3 v112_489 (.int .i64 1)) fun v142_499 => (kc (call base 77 [x0, v142_499, x2, x3, x4] m) (fun v146_500 m => (ih x0 x1 v112_489 x3 x4 v139_498 v113_490 m)) (fun v m => kp v m)))))))))))) (fun v m => kp v m)))))) (fun v m => kp v m)) (k1 (mbin E .gtr 3 x1 (.int .i64 0)) fun v82_501 => (kb v82_501 (k1 (mbin E .sub 3 x1 (.int .i64 1)) fun v87_502 => (k1 (mindexAddr E.P 23 x0 v87_502) fun v88_503 => (k1 (xload E.P m 34 v88_503) fun v89_504 => (k1 (mindexAddr E.P 23 x0 v53_310) fun v92_505 => (k1 (xload E.P m 34 v92_505) fun v93_506 => (kc (kB m (kv call m.length x4 [v89_504, v93_506] m)) (fun v94_507 m => (k1 (mbin E .lss 3 v94_507 (.int .i64 0)) fun v95_508 => (k1 (mun .not v95_508) fun v96_509 => (kb v96_509 (kc (call base 102 [x0, x1, x2, v53_310, x4] m) (fun v103_510 m => (ih x0 v103_510 x2 x3 x4 x10 x11 m)) (fun v m => kp v m)) (kc (call base 103 [x0, x1, x2, v53_310, x4] m) (fun v111_511 m => (k1 (mextract 0 v111_511) fun v112_512 => (k1 (mextract 1 v111_511) fun v113_513 => (k1 (mbin E .sub 3 v112_512 x1) fun v117_514 => (k1 (mbin E .sub 3 x2 v112_512) fun v120_515 => (k1 (mbin E .quo 3 v23_1 (.int .i64 8)) fun v122_516 => (k1 (mbin E .lss 3 v117_514 v120_515) fun v125_517 => (kb v125_517 (k1 (mbin E .geq 3 v117_514 v122_516) fun v128_518 => (kc (call base 77 [x0, x1, v112_512, x3, x4] m) (fun v134_519 m => (k1 (mbin E .add 3 v112_512 (.int .i64 1)) fun v136_520 => (ih x0 v136_520 x2 x3 x4 v128_518 v113_513 m))) (fun v m => kp v m))) (k1 (mbin E .geq 3 v120_515 v122_516) fun v139_521 => (k1 (mbin E .add 3 v112_512 (.int .i64 1)) fun v142_522 => (kc (call base 77 [x0, v142_522, x2, x3, x4] m) (fun v146_523 m => (ih x0 x1 v112_512 x3 x4 v139_521 v113_513 m)) (fun v m => kp v m)))))))))))) (fun v m => kp v m)))))) (fun _ _ => none))))))) (kc (call base 103 [x0, x1, x2, v53_310, x4] m) (fun v111_524 m => (k1 (mextract 0 v111_524) fun v112_525 => (k1 (mextract 1 v111_524) fun v113_526 => (k1 (mbin E .sub 3 v112_525 x1) fun v117_527 => (k1 (mbin E .sub 3 x2 v112_525) fun v120_528 => (k1 (mbin E .quo 3 v23_1 (.int .i64 8)) fun v122_529 => (k1 (mbin E .lss 3 v117_527 v120_528) fun v125_530 => (kb v125_530 (k1 (mbin E .geq 3 v117_527 v122_529) fun v128_531 => (kc (call base 77 [x0, x1, v112_525, x3, x4] m) (fun v134_532 m => (k1 (mbin E .add 3 v112_525 (.int .i64 1)) fun v136_533 => (ih x0 v136_533 x2 x3 x4 v128_531 v113_526 m))) (fun v m => kp v m))) (k1 (mbin E .geq 3 v120_528 v122_529) fun v139_534 => (k1 (mbin E .add 3 v112_525 (.int .i64 1)) fun v142_535 => (kc (call base 77 [x0, v142_535, x2, x3, x4] m) (fun v146_536 m => (ih x0 x1 v112_525 x3 x4 v139_534 v113_526 m)) (fun v m => kp v m)))))))))))) (fun v m => kp v m)))))) (k1 (mbin E .gtr 3 x1 (.int .i64 0)) fun v82_537 => (kb v82_537 (k1 (mbin E .sub 3 x1 (.int .i64 1)) fun v87_538 => (k1 (mindexAddr E.P 23 x0 v87_538) fun v88_539 => (k1 (xload E.P m 34 v88_539) fun v89_540 => (k1 (mindexAddr E.P 23 x0 v53_310) fun v92_541 => (k1 (xload E.P m 34 v92_541) fun v93_542 => (kc (kB m (kv call m.length x4 [v89_540, v93_542] m)) (fun v94_543 m => (k1 (mbin E .lss 3 v94_543 (.int .i64 0)) fun v95_544 => (k1 (mun .not v95_544) fun v96_545 => (kb v96_545 (kc (call base 102 [x0, x1, x2, v53_310, x4] m) (fun v103_546 m => (ih x0 v103_546 x2 x3 x4 x10 x11 m)) (fun v m => kp v m)) (kc (call base 103 [x0, x1, x2, v53_310, x4] m) (fun v111_547 m => (k1 (mextract 0 v111_547) fun v112_548 => (k1 (mextract 1 v111_547) fun v113_549 => (k1 (mbin E .sub 3 v112_548 x1) fun v117_550 => (k1 (mbin E .sub 3 x2 v112_548) fun v120_551 => (k1 (mbin E .quo 3 v23_1 (.int .i64 8)) fun v122_552 => (k1 (mbin E .lss 3 v117_550 v120_551) fun v125_553 => (kb v125_553 (k1 (mbin E .geq 3 v117_550 v122_552) fun v128_554 => (kc (call base 77 [x0, x1, v112_548, x3, x4] m) (fun v134_555 m => (k1 (mbin E .add 3 v112_548 (.int .i64 1)) fun v136_556 => (ih x0 v136_556 x2 x3 x4 v128_554 v113_549 m))) (fun v m => kp v m))) (k1 (mbin E .geq 3 v120_551 v122_552) fun v139_557 => (k1 (mbin E .add 3 v112_548 (.int .i64 1)) fun v142_558 => (kc (call base 77 [x0, v142_558, x2, x3, x4] m) (fun v146_559 m => (ih x0 x1 v112_548 x3 x4 v139_557 v113_549 m)) (fun v m => kp v m)))))))))))) (fun v m => kp v m)))))) (fun _ _ => none))))))) (kc (call base 103 [x0, x1, x2, v53_310, x4] m) (fun v111_560 m => (k1 (mextract 0 v111_560) fun v112_561 => (k1 (mextract 1 v111_560) fun v113_562 => (k1 (mbin E .sub 3 v112_561 x1) fun v117_563 => (k1 (mbin E .sub 3 x2 v112_561) fun v120_564 => (k1 (mbin E .quo 3 v23_1 (.int .i64 8)) fun v122_565 => (k1 (mbin E .lss 3 v117_563 v120_564) fun v125_566 => (kb v125_566 (k1 (mbin E .geq 3 v117_563 v122_565) fun v128_567 => (kc (call base 77 [x0, x1, v112_561, x3, x4] m) (fun v134_568 m => (k1 (mbin E .add 3 v112_561 (.int .i64 1)) fun v136_569 => (ih x0 v136_569 x2 x3 x4 v128_567 v113_562 m))) (fun v m => kp v m))) (k1 (mbin E .geq 3 v120_564 v122_565) fun v139_570 => (k1 (mbin E .add 3 v112_561 (.int .i64 1)) fun v142_571 => (kc (call base 77 [x0, v142_571, x2, x3, x4] m) (fun v146_572 m => (ih x0 x1 v112_561 x3 x4 v139_570 v113_562 m)) (fun v m => kp v m)))))))))))) (fun v m => kp v m))))) (k1 (mbin E .gtr 3 x1 (.int .i64 0)) fun v82_573 => (kb v82_573 (k1 (mbin E .sub 3 x1 (.int .i64 1)) fun v87_574 => (k1 (mindexAddr E.P 23 x0 v87_574) fun v88_575 => (k1 (xload E.P m 34 v88_575) fun v89_576 => (k1 (mindexAddr E.P 23 x0 v53_310) fun v92_577 => (k1 (xload E.P m 34 v92_577) fun v93_578 => (kc (kB m (kv call m.length x4 [v89_576, v93_578] m)) (fun v94_579 m => (k1 (mbin E .lss 3 v94_579 (.int .i64 0)) fun v95_580 => (k1 (mun .not v95_580) fun v96_581 => (kb v96_581 (kc (call base 102 [x0, x1, x2, v53_310, x4] m) (fun v103_582 m => (ih x0 v103_582 x2 x3 x4 x10 x11 m)) (fun v m => kp v m)) (kc (call base 103 [x0, x1, x2, v53_310, x4] m) (fun v111_583 m => (k1 (mextract 0 v111_583) fun v112_584 => (k1 (mextract 1 v111_583) fun v113_585 => (k1 (mbin E .sub 3 v112_584 x1) fun v117_586 => (k1 (mbin E .sub 3 x2 v112_584) fun v120_587 => (k1 (mbin E .quo 3 v23_1 (.int .i64 8)) fun v122_588 => (k1 (mbin E .lss 3 v117_586 v120_587) fun v125_589 => (kb v125_589 (k1 (mbin E .geq 3 v117_586 v122_588) fun v128_590 => (kc (call base 77 [x0, x1, v112_584, x3, x4] m) (fun v134_591 m => (k1 (mbin E .add 3 v112_584 (.int .i64 1)) fun v136_592 => (ih x0 v136_592 x2 x3 x4 v128_590 v113_585 m))) (fun v m => kp v m))) (k1 (mbin E .geq 3 v120_587 v122_588) fun v139_593 => (k1 (mbin E .add 3 v112_584 (.int .i64 1)) fun v142_594 => (kc (call base 77 [x0, v142_594, x2, x3, x4] m) (fun v146_595 m => (ih x0 x1 v112_584 x3 x4 v139_593 v113_585 m)) (fun v m => kp v m)))))))))))) (fun v m => kp v m)))))) (fun _ _ => none))))))) (kc (call base 103 [x0, x1, x2, v53_310, x4] m) (fun v111_596 m => (k1 (mextract 0 v111_596) fun v112_597 => (k1 (mextract 1 v111_596) fun v113_598 => (k1 (mbin E .sub 3 v112_597 x1) fun v117_599 => (k1 (mbin E .sub 3 x2 v112_597) fun v120_600 => (k1 (mbin E .quo 3 v23_1 (.int .i64 8)) fun v122_601 => (k1 (mbin E .lss 3 v117_599 v120_600) fun v125_602 => (kb v125_602 (k1 (mbin E .geq 3 v117_599 v122_601) fun v128_603 => (kc (call base 77 [x0, x1, v112_597, x3, x4] m) (fun v134_604 m => (k1 (mbin E .add 3 v112_597 (.int .i64 1)) fun v136_605 => (ih x0 v136_605 x2 x3 x4 v128_603 v113_598 m))) (fun v m => kp v m))) (k1 (mbin E .geq 3 v120_600 v122_601) fun v139_606 => (k1 (mbin E .add 3 v112_597 (.int .i64 1)) fun v142_607 => (kc (call base 77 [x0, v142_607, x2, x3, x4] m) (fun v146_608 m => (ih x0 x1 v112_597 x3 x4 v139_606 v113_598 m)) (fun v m => kp v m)))))))))))) (fun v m => kp v m)))))))))) (fun v m => kp v m)))))))))) n
noncomputable def r77 (call : CallF) (fuel base : Nat) (x0 : Value) (x1 : Value) (x2 : Value) (x3 : Value) (x4 : Value) (m : M) : Res2 :=
  (r77_L0 call fuel base (fun v m => some (.pan v, m)) (fun m => (some (.ret (.tuple #[]), m))) fuel x0 x1 x2 x3 x4 (.bool true) (.bool true) m)
def keep77 : Keep := { region := fun i => ([[0, 1, 2, 3, 4, 10], [0, 1, 2, 3, 4, 10, 11], [0, 1, 2, 3, 4, 10, 11, 12], [0, 1, 2, 3, 4, 10, 11, 12, 25], [], [0, 1, 2, 3, 4, 10, 11, 12, 32], [], [0, 1, 2, 3, 4, 10, 11, 12, 39], [0, 1, 2, 3, 4, 10, 11, 12], [0, 1, 2, 3, 4, 10, 11, 12], [0, 1, 2, 3, 4, 10, 11, 12, 13, 14], [0, 1, 2, 3, 4, 10, 11, 12, 13, 14, 56], [0, 1, 2, 3, 4, 10, 11, 12, 13], [0, 1, 2, 3, 4, 10, 11, 12, 13], [0, 1, 2, 3, 4, 10, 11, 12, 13, 14], [0, 1, 2, 3, 4, 10, 11, 12, 13, 75], [0, 1, 2, 3, 4, 10, 11, 12, 13, 80], [0, 1, 2, 3, 4, 10, 11, 12, 13, 97], [0, 2, 3, 4, 10, 11, 15], [0, 1, 2, 3, 4, 10, 11], [0, 1, 2, 3, 4, 12, 16, 17], [0, 1, 2, 3, 4, 11, 12, 16], [0, 1, 2, 3, 4, 11, 12, 16, 18, 19], [0, 1, 2, 3, 4, 11, 16, 18, 19, 20], [0, 1, 2, 3, 4, 11, 16, 18, 19, 20, 125], [0, 1, 2, 3, 4, 10, 11, 16], [0, 2, 3, 4, 10, 11, 16], [0, 1, 2, 3, 4, 10, 11], [0, 1, 2, 3, 4, 10, 11, 16], [0, 1, 3, 4, 10, 11, 16], [0, 1, 2, 3, 4, 10, 11]] : List (List Nat))[i]?, exit := fun i => ([[], [0, 1, 2, 3, 4, 10, 11]] : List (List Nat))[i]?, ret := some [] }
noncomputable def r77_L0_R (call : CallF) (fuel base n : Nat) (vs : List Value) (m : M) (K : KT) : Res2 := match vs with
  | [x0, x1, x2, x3, x4, x10, x11] => r77_L0 call fuel base (fun v m => K (.pan v) { n := 148, l := [] } m) (fun m => K .ret { n := 148, l := [] } m) n x0 x1 x2 x3 x4 x10 x11 m
  | _ => none
noncomputable def lp77 (call : CallF) (fuel base : Nat) : Lp := lpsel [(0, fun T m K => kslots 148 [0, 1, 2, 3, 4, 10, 11] T fun vs => r77_L0_R call fuel base fuel vs m K)]
noncomputable def c77 : Code := Tryz.f77.body.getD .skip
theorem r77_L0_lk (call : CallF) (fuel base : Nat) : LoopsOk E call (lp77 call fuel base) fuel base 0 (loopB (blockB (seqR (seqR c77)))) = (And True (And (And True (And (And True True) True)) (And (And True (And (And True True) True)) (And (And True (And (And True True) True)) (And True (And (And True (And (And True (And True True)) True)) (And (And True (And (And True (And True True)) True)) (And (And True (And (And True (And True True)) True)) (And True (And True (And True (And True (And True (And (And True (And True True)) (And True (And True True)))))))))))))))) := by kernel_rfl
theorem r77_L0_ok (call : CallF) (fuel base : Nat) : LpOk E call (lp77 call fuel base) fuel base 0 (loopB (blockB (seqR (seqR c77)))) := by
  refine loop_ok (kp := keep77) (hb := Eq.mpr (r77_L0_lk call fuel base) (And.intro trivial (And.intro (And.intro trivial (And.intro (And.intro trivial trivial) trivial)) (And.intro (And.intro trivial (And.intro (And.intro trivial trivial) trivial)) (And.intro (And.intro trivial (And.intro (And.intro trivial trivial) trivial)) (And.intro trivial (And.intro (And.intro trivial (And.intro (And.intro trivial (And.intro trivial trivial)) trivial)) (And.intro (And.intro trivial (And.intro (And.intro trivial (And.intro trivial trivial)) trivial)) (And.intro (And.intro trivial (And.intro (And.intro trivial (And.intro trivial trivial)) trivial)) (And.intro trivial (And.intro trivial (And.intro trivial (And.intro trivial (And.intro trivial (And.intro (And.intro trivial (And.intro trivial trivial)) (And.intro trivial (And.intro trivial trivial))))))))))))))))) 148 [0, 1, 2, 3, 4, 10, 11] (fun n vs m K => r77_L0_R call fuel base n vs m K) ?_ ?_ (fun _ _ _ => rfl)
  · intro vs m K
    unfold r77_L0_R
    split <;> rfl
  · intro n vs m K hl
    match vs, hl with
    | [x0, x1, x2, x3, x4, x10, x11], _ => show _ = _; kernel_rfl
theorem r77_eq (call : CallF) (fuel base : Nat) (x0 : Value) (x1 : Value) (x2 : Value) (x3 : Value) (x4 : Value) (m : M) : kbody E call keep77 (lp77 call fuel base) base Tryz.f77 [x0, x1, x2, x3, x4] m = r77 call fuel base x0 x1 x2 x3 x4 m := by
  kernel_rfl
noncomputable def rf77 : RF := fun call fuel base args m => match args with
  | [x0, x1, x2, x3, x4] => r77 call fuel base x0 x1 x2 x3 x4 m
  | _ => none
theorem r77_lk (call : CallF) (fuel base : Nat) : LoopsOk E call (lp77 call fuel base) fuel base 0 c77 = (And True (And True (LpOk E call (lp77 call fuel base) fuel base 0 (loopB (blockB (seqR (seqR c77))))))) := by kernel_rfl
theorem r77_fn : E.P.funcs[77]? = some Tryz.f77 := by kernel_rfl
theorem r77_body : Tryz.f77.body = some c77 := by kernel_rfl
theorem rf77_ok : RFok E 77 rf77 := by
  show RFok' E 77 rf77
  refine ⟨Tryz.f77, r77_fn, fun call fuel base args m r _ h => ?_⟩
  unfold rf77 at h
  split at h
  · rw [← r77_eq] at h
    exact kbody_sound (c := c77) r77_body (Eq.mpr (r77_lk call fuel base) (And.intro trivial (And.intro trivial (r77_L0_ok call fuel base)))) h
  · simp at h
end Go.AM
namespace Go.AM
open Go Go.Proofs
noncomputable def r78 (call : CallF) (fuel base : Nat) (x0 : Value) (m : M) : Res2 :=
  (kc (call base 105 [x0] m) (fun v7_1 m => (fVal v7_1 fun v => some (.ret v, m))) (fun v m => some (.pan v, m)))
def keep78 : Keep := { region := fun i => ([[0], [2], [2]] : List (List Nat))[i]?, exit := fun i => ([] : List (List Nat))[i]?, ret := some [2] }
noncomputable def lp78 (call : CallF) (fuel base : Nat) : Lp := lpsel []
noncomputable def c78 : Code := Tryz.f78.body.getD .skip
theorem r78_eq (call : CallF) (fuel base : Nat) (x0 : Value) (m : M) : kbody E call keep78 (lp78 call fuel base) base Tryz.f78 [x0] m = r78 call fuel base x0 m := by
  kernel_rfl
noncomputable def rf78 : RF := fun call fuel base args m => match args with
  | [x0] => r78 call fuel base x0 m
  | _ => none
theorem r78_lk (call : CallF) (fuel base : Nat) : LoopsOk E call (lp78 call fuel base) fuel base 0 c78 = (And True (And (And (And True True) True) (And True True))) := by kernel_rfl
theorem r78_fn : E.P.funcs[78]? = some Tryz.f78 := by kernel_rfl
theorem r78_body : Tryz.f78.body = some c78 := by kernel_rfl
theorem rf78_ok : RFok E 78 rf78 := by
  show RFok' E 78 rf78
  refine ⟨Tryz.f78, r78_fn, fun call fuel base args m r _ h => ?_⟩
  unfold rf78 at h
  split at h
  · rw [← r78_eq] at h
    exact kbody_sound (c := c78) r78_body (Eq.mpr (r78_lk call fuel base) (And.intro trivial (And.intro (And.intro (And.intro trivial trivial) trivial) (And.intro trivial trivial)))) h
  · simp at h
end Go.AM
namespace Go.AM
open Go Go.Proofs
noncomputable def r79_L0 (call : CallF) (fuel base : Nat) (kp : Value → M → Res2) (kr : Value → M → Res2) (kx0 : Value → Value → M → Res2) (n : Nat) : Value → Value → Value → Value → Value → Value → M → Res2 :=
  Nat.rec (motive := fun _ => Value → Value → Value → Value → Value → Value → M → Res2) (fun _ _ _ _ _ _ _ => none)
    (fun _ ih x0 x1 x2 x11 x12 x13 m =>
      (k1 (mbin E .lss 3 x13 x12) fun v14_2 => (kb v14_2 (k1 (mindexAddr E.P 34 x11 x13) fun v16_3 => (k1 (xload E.P m 68 v16_3) fun v17_4 => (k2 (xalloc E.P m 68) fun v8_5 m => (ks (xstore E.P base m 68 v8_5 v17_4) fun m => (k2 (vcall E.P base m .len [34] [x1]) fun v20_6 m => (k1 (mbin E .geq 3 x13 v20_6) fun v21_7 => (kb v21_7 (kr (.int .i64 1) m) (k1 (mindexAddr E.P 34 x1 x13) fun v24_8 => (k1 (xload E.P m 68 v24_8) fun v25_9 => (k2 (xalloc E.P m 68) fun v9_10 m => (ks (xstore E.P base m 68 v9_10 v25_9) fun m => (k1 (xload E.P m 68 v8_5) fun v27_11 => (k1 (xload E.P m 68 v9_10) fun v28_12 => (kc (kv call base x2 [v27_11, v28_12] m) (fun v29_13 m => (k1 (mbin E .neq 3 v29_13 (.int .i64 0)) fun v31_14 => (kb v31_14 (kr v29_13 m) (k1 (mbin E .add 3 x13 (.int .i64 1)) fun v33_15 => (ih x0 x1 x2 x11 x12 v33_15 m))))) (fun v m => kp v m))))))))))))))) (kx0 x0 x1 m)))) n
noncomputable def r79 (call : CallF) (fuel base : Nat) (x0 : Value) (x1 : Value) (x2 : Value) (m : M) : Res2 :=
  (k2 (vcall E.P base m .len [34] [x0]) fun v12_1 m => (r79_L0 call fuel base (fun v m => some (.pan v, m)) (fun y6_16 m => (fVal y6_16 fun v => some (.ret v, m))) (fun y0_17 y1_18 m => (k2 (vcall E.P base m .len [34] [y0_17]) fun v35_19 m => (k2 (vcall E.P base m .len [34] [y1_18]) fun v37_20 m => (k1 (mbin E .lss 3 v35_19 v37_20) fun v38_21 => (kb v38_21 (fVal (.int .i64 (-1)) fun v => some (.ret v, m)) (fVal (.int .i64 0) fun v => some (.ret v, m))))))) fuel x0 x1 x2 x0 v12_1 (.int .i64 0) m))
def keep79 : Keep := { region := fun i => ([[0, 1, 2], [0, 1, 2, 11, 12, 13], [0, 1, 2, 11, 12, 13, 14], [0, 1, 2, 7, 8, 11, 12, 13], [0, 1, 2, 7, 8, 11, 12, 13, 21], [6], [0, 1, 2, 8, 9, 11, 12, 13], [0, 1, 2, 10, 11, 12, 13], [0, 1, 2, 10, 11, 12, 13, 31], [6], [0, 1, 2, 11, 12, 13], [38], [6], [6]] : List (List Nat))[i]?, exit := fun i => ([[0, 1], [0, 1, 2, 11, 12, 13]] : List (List Nat))[i]?, ret := some [6] }
noncomputable def r79_L0_R (call : CallF) (fuel base n : Nat) (vs : List Value) (m : M) (K : KT) : Res2 := match vs with
  | [x0, x1, x2, x11, x12, x13] => r79_L0 call fuel base (fun v m => K (.pan v) { n := 39, l := [] } m) (fun y6 m => K .ret { n := 39, l := [(6, y6)] } m) (fun y0 y1 m => K (.exit 0) { n := 39, l := [(0, y0), (1, y1)] } m) n x0 x1 x2 x11 x12 x13 m
  | _ => none
noncomputable def lp79 (call : CallF) (fuel base : Nat) : Lp := lpsel [(0, fun T m K => kslots 39 [0, 1, 2, 11, 12, 13] T fun vs => r79_L0_R call fuel base fuel vs m K)]
noncomputable def c79 : Code := Tryz.f79.body.getD .skip
theorem r79_L0_lk (call : CallF) (fuel base : Nat) : LoopsOk E call (lp79 call fuel base) fuel base 0 (loopB (blockB (seqR (seqL (seqR c79))))) = (And True (And (And True True) (And (And True (And (And True (And (And True True) True)) (And True (And True (And True (And (And True True) True)))))) True))) := by kernel_rfl
theorem r79_L0_ok (call : CallF) (fuel base : Nat) : LpOk E call (lp79 call fuel base) fuel base 0 (loopB (blockB (seqR (seqL (seqR c79))))) := by
  refine loop_ok (kp := keep79) (hb := Eq.mpr (r79_L0_lk call fuel base) (And.intro trivial (And.intro (And.intro trivial trivial) (And.intro (And.intro trivial (And.intro (And.intro trivial (And.intro (And.intro trivial trivial) trivial)) (And.intro trivial (And.intro trivial (And.intro trivial (And.intro (And.intro trivial trivial) trivial)))))) trivial)))) 39 [0, 1, 2, 11, 12, 13] (fun n vs m K => r79_L0_R call fuel base n vs m K) ?_ ?_ (fun _ _ _ => rfl)
  · intro vs m K
    unfold r79_L0_R
    split <;> rfl
  · intro n vs m K hl
    match vs, hl with
    | [x0, x1, x2, x11, x12, x13], _ => show _ = _; kernel_rfl
theorem r79_eq (call : CallF) (fuel base : Nat) (x0 : Value) (x1 : Value) (x2 : Value) (m : M) : kbody E call keep79 (lp79 call fuel base) base Tryz.f79 [x0, x1, x2] m = r79 call fuel base x0 x1 x2 m := by
  kernel_rfl
noncomputable def rf79 : RF := fun call fuel base args m => match args with
  | [x0, x1, x2] => r79 call fuel base x0 x1 x2 m
  | _ => none
theorem r79_lk (call : CallF) (fuel base : Nat) : LoopsOk E call (lp79 call fuel base) fuel base 0 c79 = (And True (And (And True (LpOk E call (lp79 call fuel base) fuel base 0 (loopB (blockB (seqR (seqL (seqR c79))))))) (And (And True (And (And True True) True)) (And True True)))) := by kernel_rfl
theorem r79_fn : E.P.funcs[79]? = some Tryz.f79 := by kernel_rfl
theorem r79_body : Tryz.f79.body = some c79 := by kernel_rfl
theorem rf79_ok : RFok E 79 rf79 := by
  show RFok' E 79 rf79
  refine ⟨Tryz.f79, r79_fn, fun call fuel base args m r _ h => ?_⟩
  unfold rf79 at h
  split at h
  · rw [← r79_eq] at h
    exact kbody_sound (c := c79) r79_body (Eq.mpr (r79_lk call fuel base) (And.intro trivial (And.intro (And.intro trivial (r79_L0_ok call fuel base)) (And.intro (And.intro trivial (And.intro (And.intro trivial trivial) trivial)) (And.intro trivial trivial))))) h
  · simp at h
end Go.AM
namespace Go.AM
open Go Go.Proofs
noncomputable def r80_L0 (call : CallF) (fuel base : Nat) (kx0 : Value → M → Res2) (n : Nat) : Value → Value → M → Res2 :=
  Nat.rec (motive := fun _ => Value → Value → M → Res2) (fun _ _ _ => none)
    (fun _ ih x0 x1 m =>
      (k1 (mbin E .neq 3 x1 (.int .i64 0)) fun v6_1 => (kb v6_1 (k1 (mbin E .rem 3 x0 x1) fun v10_2 => (ih x1 v10_2 m)) (kx0 x0 m)))) n
noncomputable def r80 (call : CallF) (fuel base : Nat) (x0 : Value) (x1 : Value) (m : M) : Res2 :=
  (r80_L0 call fuel base (fun y0_3 m => (fVal y0_3 fun v => some (.ret v, m))) fuel x0 x1 m)
def keep80 : Keep := { region := fun i => ([[0, 1], [0, 1, 6], [0, 1], [4]] : List (List Nat))[i]?, exit := fun i => ([[0], [0, 1]] : List (List Nat))[i]?, ret := some [4] }
noncomputable def r80_L0_R (call : CallF) (fuel base n : Nat) (vs : List Value) (m : M) (K : KT) : Res2 := match vs with
  | [x0, x1] => r80_L0 call fuel base (fun y0 m => K (.exit 0) { n := 12, l := [(0, y0)] } m) n x0 x1 m
  | _ => none
noncomputable def lp80 (call : CallF) (fuel base : Nat) : Lp := lpsel [(0, fun T m K => kslots 12 [0, 1] T fun vs => r80_L0_R call fuel base fuel vs m K)]
noncomputable def c80 : Code := Tryz.f80.body.getD .skip
theorem r80_L0_lk (call : CallF) (fuel base : Nat) : LoopsOk E call (lp80 call fuel base) fuel base 0 (loopB (blockB (seqL (seqR c80)))) = (And (And True (And True True)) True) := by kernel_rfl
theorem r80_L0_ok (call : CallF) (fuel base : Nat) : LpOk E call (lp80 call fuel base) fuel base 0 (loopB (blockB (seqL (seqR c80)))) := by
  refine loop_ok (kp := keep80) (hb := Eq.mpr (r80_L0_lk call fuel base) (And.intro (And.intro trivial (And.intro trivial trivial)) trivial)) 12 [0, 1] (fun n vs m K => r80_L0_R call fuel base n vs m K) ?_ ?_ (fun _ _ _ => rfl)
  · intro vs m K
    unfold r80_L0_R
    split <;> rfl
  · intro n vs m K hl
    match vs, hl with
    | [x0, x1], _ => show _ = _; kernel_rfl
theorem r80_eq (call : CallF) (fuel base : Nat) (x0 : Value) (x1 : Value) (m : M) : kbody E call keep80 (lp80 call fuel base) base Tryz.f80 [x0, x1] m = r80 call fuel base x0 x1 m := by
  kernel_rfl
noncomputable def rf80 : RF := fun call fuel base args m => match args with
  | [x0, x1] => r80 call fuel base x0 x1 m
  | _ => none
theorem r80_lk (call : CallF) (fuel base : Nat) : LoopsOk E call (lp80 call fuel base) fuel base 0 c80 = (And True (And (LpOk E call (lp80 call fuel base) fuel base 0 (loopB (blockB (seqL (seqR c80))))) (And True True))) := by kernel_rfl
theorem r80_fn : E.P.funcs[80]? = some Tryz.f80 := by kernel_rfl
theorem r80_body : Tryz.f80.body = some c80 := by kernel_rfl
theorem rf80_ok : RFok E 80 rf80 := by
  show RFok' E 80 rf80
  refine ⟨Tryz.f80, r80_fn, fun call fuel base args m r _ h => ?_⟩
  unfold rf80 at h
  split at h
  · rw [← r80_eq] at h
    exact kbody_sound (c := c80) r80_body (Eq.mpr (r80_lk call fuel base) (And.intro trivial (And.intro (r80_L0_ok call fuel base) (And.intro trivial trivial)))) h
  · simp at h
end Go.AM
namespace Go.AM
open Go Go.Proofs
noncomputable def r81_L0 (call : CallF) (fuel base : Nat) (kx0 : Value → Value → M → Res2) (n : Nat) : Value → Value → Value → Value → Value → Value → M → Res2 :=
  Nat.rec (motive := fun _ => Value → Value → Value → Value → Value → Value → M → Res2) (fun _ _ _ _ _ _ _ => none)
    (fun _ ih x0 x4 x5 x8 x9 x10 m =>
      (k1 (mbin E .lss 3 x10 x9) fun v11_4 => (kb v11_4 (k1 (mindexAddr E.P 24 x8 x10) fun v12_5 => (k1 (xload E.P m 3 v12_5) fun v13_6 => (k1 (xload E.P m 96 x5) fun v14_7 => (k1 (miface E.P 96 v14_7) fun v15_8 => (k1 (mindexAddr E.P 70 x0 v13_6) fun v18_9 => (k1 (xload E.P m 96 v18_9) fun v19_10 => (kc (kB m (kv call m.length (imeth 0 v15_8) [v19_10] m)) (fun v20_11 m => (ks (xstore E.P base m 96 x5 v20_11) fun m => (k1 (mbin E .add 3 x10 (.int .i64 1)) fun v21_12 => (ih x0 x4 x5 x8 x9 v21_12 m)))) (fun _ _ => none)))))))) (kx0 x4 x5 m)))) n
noncomputable def r81 (call : CallF) (fuel base : Nat) (x0 : Value) (x1 : Value) (m : M) : Res2 :=
  (k2 (xalloc E.P m 96) fun v4_1 m => (k2 (xalloc E.P m 96) fun v5_2 m => (k2 (vcall E.P base m .len [24] [x1]) fun v9_3 m => (r81_L0 call fuel base (fun y4_13 y5_14 m => (k1 (xload E.P m 96 y5_14) fun v22_15 => (ks (xstore E.P base m 96 y4_13 v22_15) fun m => (k0 (mload E.P m 96 y4_13) fun r_16 => (fVal r_16 fun v => some (.ret v, m)))))) fuel x0 v4_1 v5_2 x1 v9_3 (.int .i64 0) m))))
def keep81 : Keep := { region := fun i => ([[0, 1, 4], [0, 1, 4, 5], [0, 4, 5, 8, 9, 10], [0, 4, 5, 8, 9, 10, 11], [0, 4, 5, 7, 8, 9, 10], [0, 4, 5, 8, 9, 10], [0, 4, 5, 8, 9, 10], [4]] : List (List Nat))[i]?, exit := fun i => ([[4, 5], [0, 4, 5, 8, 9, 10]] : List (List Nat))[i]?, ret := some [4] }
noncomputable def r81_L0_R (call : CallF) (fuel base n : Nat) (vs : List Value) (m : M) (K : KT) : Res2 := match vs with
  | [x0, x4, x5, x8, x9, x10] => r81_L0 call fuel base (fun y4 y5 m => K (.exit 0) { n := 23, l := [(4, y4), (5, y5)] } m) n x0 x4 x5 x8 x9 x10 m
  | _ => none
noncomputable def lp81 (call : CallF) (fuel base : Nat) : Lp := lpsel [(0, fun T m K => kslots 23 [0, 4, 5, 8, 9, 10] T fun vs => r81_L0_R call fuel base fuel vs m K)]
noncomputable def c81 : Code := Tryz.f81.body.getD .skip
theorem r81_L0_lk (call : CallF) (fuel base : Nat) : LoopsOk E call (lp81 call fuel base) fuel base 0 (loopB (blockB (seqR (seqL (seqR (seqR c81)))))) = (And True (And (And True True) (And (And True True) True))) := by kernel_rfl
theorem r81_L0_ok (call : CallF) (fuel base : Nat) : LpOk E call (lp81 call fuel base) fuel base 0 (loopB (blockB (seqR (seqL (seqR (seqR c81)))))) := by
  refine loop_ok (kp := keep81) (hb := Eq.mpr (r81_L0_lk call fuel base) (And.intro trivial (And.intro (And.intro trivial trivial) (And.intro (And.intro trivial trivial) trivial)))) 23 [0, 4, 5, 8, 9, 10] (fun n vs m K => r81_L0_R call fuel base n vs m K) ?_ ?_ (fun _ _ _ => rfl)
  · intro vs m K
    unfold r81_L0_R
    split <;> rfl
  · intro n vs m K hl
    match vs, hl with
    | [x0, x4, x5, x8, x9, x10], _ => show _ = _; kernel_rfl
theorem r81_eq (call : CallF) (fuel base : Nat) (x0 : Value) (x1 : Value) (m : M) : kbody E call keep81 (lp81 call fuel base) base Tryz.f81 [x0, x1] m = r81 call fuel base x0 x1 m := by
  kernel_rfl
noncomputable def rf81 : RF := fun call fuel base args m => match args with
  | [x0, x1] => r81 call fuel base x0 x1 m
  | _ => none
theorem r81_lk (call : CallF) (fuel base : Nat) : LoopsOk E call (lp81 call fuel base) fuel base 0 c81 = (And True (And True (And (And True (LpOk E call (lp81 call fuel base) fuel base 0 (loopB (blockB (seqR (seqL (seqR (seqR c81)))))))) (And True True)))) := by kernel_rfl
theorem r81_fn : E.P.funcs[81]? = some Tryz.f81 := by kernel_rfl
theorem r81_body : Tryz.f81.body = some c81 := by kernel_rfl
theorem rf81_ok : RFok E 81 rf81 := by
  show RFok' E 81 rf81
  refine ⟨Tryz.f81, r81_fn, fun call fuel base args m r _ h => ?_⟩
  unfold rf81 at h
  split at h
  · rw [← r81_eq] at h
    exact kbody_sound (c := c81) r81_body (Eq.mpr (r81_lk call fuel base) (And.intro trivial (And.intro trivial (And.intro (And.intro trivial (r81_L0_ok call fuel base)) (And.intro trivial trivial))))) h
  · simp at h
end Go.AM
namespace Go.AM
open Go Go.Proofs
noncomputable def r82 (call : CallF) (fuel base : Nat) (x0 : Value) (m : M) : Res2 :=
  (k2 (xbox m x0) fun v1_1 m => (k2 (xalloc E.P m 96) fun v2_2 m => (k1 (xload E.P m 96 v1_1) fun v3_3 => (kc (kB m (call m.length 85 [v3_3] m)) (fun v4_4 m => (k1 (mfieldAddr E.P 96 v1_1 0) fun v5_5 => (k1 (xload E.P m 3 v5_5) fun v6_6 => (kc (kB m (call m.length 50 [v4_4, v6_6] m)) (fun v7_7 m => (ks (xstore E.P base m 96 v2_2 v7_7) fun m => (k0 (mload E.P m 96 v2_2) fun r_8 => (fVal r_8 fun v => some (.ret v, m))))) (fun _ _ => none))))) (fun _ _ => none)))))
def keep82 : Keep := { region := fun i => ([[1, 2], [2]] : List (List Nat))[i]?, exit := fun i => ([] : List (List Nat))[i]?, ret := some [2] }
noncomputable def lp82 (call : CallF) (fuel base : Nat) : Lp := lpsel []
noncomputable def c82 : Code := Tryz.f82.body.getD .skip
theorem r82_eq (call : CallF) (fuel base : Nat) (x0 : Value) (m : M) : kbody E call keep82 (lp82 call fuel base) base Tryz.f82 [x0] m = r82 call fuel base x0 m := by
  kernel_rfl
noncomputable def rf82 : RF := fun call fuel base args m => match args with
  | [x0] => r82 call fuel base x0 m
  | _ => none
theorem r82_lk (call : CallF) (fuel base : Nat) : LoopsOk E call (lp82 call fuel base) fuel base 0 c82 = (And True (And True True)) := by kernel_rfl
theorem r82_fn : E.P.funcs[82]? = some Tryz.f82 := by kernel_rfl
theorem r82_body : Tryz.f82.body = some c82 := by kernel_rfl
theorem rf82_ok : RFok E 82 rf82 := by
  show RFok' E 82 rf82
  refine ⟨Tryz.f82, r82_fn, fun call fuel base args m r _ h => ?_⟩
  unfold rf82 at h
  split at h
  · rw [← r82_eq] at h
    exact kbody_sound (c := c82) r82_body (Eq.mpr (r82_lk call fuel base) (And.intro trivial (And.intro trivial trivial))) h
  · simp at h
end Go.AM
namespace Go.AM
open Go Go.Proofs
noncomputable def r83_L0 (call : CallF) (fuel base : Nat) (kx0 : Value → M → Res2) (n : Nat) : Value → Value → Value → Value → Value → Value → M → Res2 :=
  Nat.rec (motive := fun _ => Value → Value → Value → Value → Value → Value → M → Res2) (fun _ _ _ _ _ _ _ => none)
    (fun _ ih x0 x2 x4 x7 x13 x14 m =>
      (k1 (mbin E .lss 3 x14 x13) fun v15_5 => (kb v15_5 (k1 (mindexAddr E.P 70 x0 x14) fun v21_6 => (k1 (xload E.P m 96 v21_6) fun v22_7 => (k1 (miface E.P 96 v22_7) fun v23_8 => (k1 (xload E.P m 96 x4) fun v24_9 => (k1 (miface E.P 96 v24_9) fun v25_10 => (k1 (mindexAddr E.P 70 x2 x14) fun v28_11 => (k1 (xload E.P m 96 v28_11) fun v29_12 => (kc (kB m (kv call m.length (imeth 1 v25_10) [v29_12] m)) (fun v30_13 m => (kc (kB m (kv call m.length (imeth 0 v23_8) [v30_13] m)) (fun v31_14 m => (k1 (mindexAddr E.P 70 x7 x14) fun v32_15 => (ks (xstore E.P base m 96 v32_15 v31_14) fun m => (k1 (mbin E .add 3 x14 (.int .i64 1)) fun v33_16 => (ih x0 x2 x4 x7 x13 v33_16 m))))) (fun _ _ => none))) (fun _ _ => none))))))))) (kx0 x7 m)))) n
noncomputable def r83 (call : CallF) (fuel base : Nat) (x0 : Value) (x1 : Value) (x2 : Value) (m : M) : Res2 :=
  (k2 (xbox m x1) fun v4_1 m => (k2 (vcall E.P base m .len [70] [x0]) fun v10_2 m => (k2 (xmakeSlice E.P m 70 v10_2 v10_2) fun v11_3 m => (k2 (vcall E.P base m .len [70] [x0]) fun v13_4 m => (r83_L0 call fuel base (fun y7_17 m => (fVal y7_17 fun v => some (.ret v, m))) fuel x0 x2 v4_1 v11_3 v13_4 (.int .i64 0) m)))))
def keep83 : Keep := { region := fun i => ([[0, 2, 4], [0, 2, 4, 7], [0, 2, 4, 7, 13, 14], [0, 2, 4, 7, 13, 14, 15], [0, 2, 4, 7, 8, 13, 14], [0, 2, 4, 7, 13, 14], [0, 2, 4, 7, 13, 14], [6]] : List (List Nat))[i]?, exit := fun i => ([[7], [0, 2, 4, 7, 13, 14]] : List (List Nat))[i]?, ret := some [6] }
noncomputable def r83_L0_R (call : CallF) (fuel base n : Nat) (vs : List Value) (m : M) (K : KT) : Res2 := match vs with
  | [x0, x2, x4, x7, x13, x14] => r83_L0 call fuel base (fun y7 m => K (.exit 0) { n := 35, l := [(7, y7)] } m) n x0 x2 x4 x7 x13 x14 m
  | _ => none
noncomputable def lp83 (call : CallF) (fuel base : Nat) : Lp := lpsel [(0, fun T m K => kslots 35 [0, 2, 4, 7, 13, 14] T fun vs => r83_L0_R call fuel base fuel vs m K)]
noncomputable def c83 : Code := Tryz.f83.body.getD .skip
theorem r83_L0_lk (call : CallF) (fuel base : Nat) : LoopsOk E call (lp83 call fuel base) fuel base 0 (loopB (blockB (seqR (seqL (seqR (seqR c83)))))) = (And True (And (And True True) (And (And True True) True))) := by kernel_rfl
theorem r83_L0_ok (call : CallF) (fuel base : Nat) : LpOk E call (lp83 call fuel base) fuel base 0 (loopB (blockB (seqR (seqL (seqR (seqR c83)))))) := by
  refine loop_ok (kp := keep83) (hb := Eq.mpr (r83_L0_lk call fuel base) (And.intro trivial (And.intro (And.intro trivial trivial) (And.intro (And.intro trivial trivial) trivial)))) 35 [0, 2, 4, 7, 13, 14] (fun n vs m K => r83_L0_R call fuel base n vs m K) ?_ ?_ (fun _ _ _ => rfl)
  · intro vs m K
    unfold r83_L0_R
    split <;> rfl
  · intro n vs m K hl
    match vs, hl with
    | [x0, x2, x4, x7, x13, x14], _ => show _ = _; kernel_rfl
theorem r83_eq (call : CallF) (fuel base : Nat) (x0 : Value) (x1 : Value) (x2 : Value) (m : M) : kbody E call keep83 (lp83 call fuel base) base Tryz.f83 [x0, x1, x2] m = r83 call fuel base x0 x1 x2 m := by
  kernel_rfl
noncomputable def rf83 : RF := fun call fuel base args m => match args with
  | [x0, x1, x2] => r83 call fuel base x0 x1 x2 m
  | _ => none
theorem r83_lk (call : CallF) (fuel base : Nat) : LoopsOk E call (lp83 call fuel base) fuel base 0 c83 = (And True (And True (And (And True (LpOk E call (lp83 call fuel base) fuel base 0 (loopB (blockB (seqR (seqL (seqR (seqR c83)))))))) (And True True)))) := by kernel_rfl
theorem r83_fn : E.P.funcs[83]? = some Tryz.f83 := by kernel_rfl
theorem r83_body : Tryz.f83.body = some c83 := by kernel_rfl
theorem rf83_ok : RFok E 83 rf83 := by
  show RFok' E 83 rf83
  refine ⟨Tryz.f83, r83_fn, fun call fuel base args m r _ h => ?_⟩
  unfold rf83 at h
  split at h
  · rw [← r83_eq] at h
    exact kbody_sound (c := c83) r83_body (Eq.mpr (r83_lk call fuel base) (And.intro trivial (And.intro trivial (And.intro (And.intro trivial (r83_L0_ok call fuel base)) (And.intro trivial trivial))))) h
  · simp at h
end Go.AM
namespace Go.AM
open Go Go.Proofs
noncomputable def r84 (call : CallF) (fuel base : Nat) (x0 : Value) (m : M) : Res2 :=
  (k2 (xbox m x0) fun v1_1 m => (k2 (xalloc E.P m 96) fun v2_2 m => (k1 (mfieldAddr E.P 96 v1_1 0) fun v3_3 => (k1 (xload E.P m 3 v3_3) fun v4_4 => (k1 (mun .neg v4_4) fun v5_5 => (k1 (mfieldAddr E.P 96 v1_1 1) fun v6_6 => (k1 (xload E.P m 3 v6_6) fun v7_7 => (k1 (mbuild E.P 96 [(0, v5_5), (1, v7_7)]) fun v8_8 => (ks (xstore E.P base m 96 v2_2 v8_8) fun m => (k0 (mload E.P m 96 v2_2) fun r_9 => (fVal r_9 fun v => some (.ret v, m))))))))))))
def keep84 : Keep := { region := fun i => ([[1, 2], [2]] : List (List Nat))[i]?, exit := fun i => ([] : List (List Nat))[i]?, ret := some [2] }
noncomputable def lp84 (call : CallF) (fuel base : Nat) : Lp := lpsel []
noncomputable def c84 : Code := Tryz.f84.body.getD .skip
theorem r84_eq (call : CallF) (fuel base : Nat) (x0 : Value) (m : M) : kbody E call keep84 (lp84 call fuel base) base Tryz.f84 [x0] m = r84 call fuel base x0 m := by
  kernel_rfl
noncomputable def rf84 : RF := fun call fuel base args m => match args with
  | [x0] => r84 call fuel base x0 m
  | _ => none
theorem r84_lk (call : CallF) (fuel base : Nat) : LoopsOk E call (lp84 call fuel base) fuel base 0 c84 = (And True (And True True)) := by kernel_rfl
theorem r84_fn : E.P.funcs[84]? = some Tryz.f84 := by kernel_rfl
theorem r84_body : Tryz.f84.body = some c84 := by kernel_rfl
theorem rf84_ok : RFok E 84 rf84 := by
  show RFok' E 84 rf84
  refine ⟨Tryz.f84, r84_fn, fun call fuel base args m r _ h => ?_⟩
  unfold rf84 at h
  split at h
  · rw [← r84_eq] at h
    exact kbody_sound (c := c84) r84_body (Eq.mpr (r84_lk call fuel base) (And.intro trivial (And.intro trivial trivial))) h
  · simp at h
end Go.AM
namespace Go.AM
open Go Go.Proofs
noncomputable def r85 (call : CallF) (fuel base : Nat) (x0 : Value) (m : M) : Res2 :=
  (k2 (xbox m x0) fun v1_1 m => (k1 (mfieldAddr E.P 96 v1_1 1) fun v3_2 => (k1 (xload E.P m 3 v3_2) fun v4_3 => (k2 (vcall E.P base m .max [3, 3] [v4_3, (.int .i64 1)]) fun v5_4 m => (fVal v5_4 fun v => some (.ret v, m))))))
def keep85 : Keep := { region := fun i => ([[1], [2]] : List (List Nat))[i]?, exit := fun i => ([] : List (List Nat))[i]?, ret := some [2] }
noncomputable def lp85 (call : CallF) (fuel base : Nat) : Lp := lpsel []
noncomputable def c85 : Code := Tryz.f85.body.getD .skip
theorem r85_eq (call : CallF) (fuel base : Nat) (x0 : Value) (m : M) : kbody E call keep85 (lp85 call fuel base) base Tryz.f85 [x0] m = r85 call fuel base x0 m := by
  kernel_rfl
noncomputable def rf85 : RF := fun call fuel base args m => match args with
  | [x0] => r85 call fuel base x0 m
  | _ => none
theorem r85_lk (call : CallF) (fuel base : Nat) : LoopsOk E call (lp85 call fuel base) fuel base 0 c85 = (And True (And True True)) := by kernel_rfl
theorem r85_fn : E.P.funcs[85]? = some Tryz.f85 := by kernel_rfl
theorem r85_body : Tryz.f85.body = some c85 := by kernel_rfl
theorem rf85_ok : RFok E 85 rf85 := by
  show RFok' E 85 rf85
  refine ⟨Tryz.f85, r85_fn, fun call fuel base args m r _ h => ?_⟩
  unfold rf85 at h
  split at h
  · rw [← r85_eq] at h
    exact kbody_sound (c := c85) r85_body (Eq.mpr (r85_lk call fuel base) (And.intro trivial (And.intro trivial trivial))) h
  · simp at h
end Go.AM
namespace Go.AM
open Go Go.Proofs
noncomputable def r86 (call : CallF) (fuel base : Nat) (x0 : Value) (x1 : Value) (m : M) : Res2 :=
  (k1 (mbin E .rem 3 x0 x1) fun v7_1 => (k1 (mbin E .add 3 v7_1 x1) fun v9_2 => (k1 (mbin E .rem 3 v9_2 x1) fun v11_3 => (fVal v11_3 fun v => some (.ret v, m)))))
def keep86 : Keep := { region := fun i => ([[0, 1], [4]] : List (List Nat))[i]?, exit := fun i => ([] : List (List Nat))[i]?, ret := some [4] }
noncomputable def lp86 (call : CallF) (fuel base : Nat) : Lp := lpsel []
noncomputable def c86 : Code := Tryz.f86.body.getD .skip
theorem r86_eq (call : CallF) (fuel base : Nat) (x0 : Value) (x1 : Value) (m : M) : kbody E call keep86 (lp86 call fuel base) base Tryz.f86 [x0, x1] m = r86 call fuel base x0 x1 m := by
  kernel_rfl
noncomputable def rf86 : RF := fun call fuel base args m => match args with
  | [x0, x1] => r86 call fuel base x0 x1 m
  | _ => none
theorem r86_lk (call : CallF) (fuel base : Nat) : LoopsOk E call (lp86 call fuel base) fuel base 0 c86 = (And True (And True True)) := by kernel_rfl
theorem r86_fn : E.P.funcs[86]? = some Tryz.f86 := by kernel_rfl
theorem r86_body : Tryz.f86.body = some c86 := by kernel_rfl
theorem rf86_ok : RFok E 86 rf86 := by
  show RFok' E 86 rf86
  refine ⟨Tryz.f86, r86_fn, fun call fuel base args m r _ h => ?_⟩
  unfold rf86 at h
  split at h
  · rw [← r86_eq] at h
    exact kbody_sound (c := c86) r86_body (Eq.mpr (r86_lk call fuel base) (And.intro trivial (And.intro trivial trivial))) h
  · simp at h
end Go.AM
namespace Go.AM
open Go Go.Proofs
noncomputable def r87_L0 (call : CallF) (fuel base : Nat) (kp : Value → M → Res2) (kx0 : Value → M → Res2) (n : Nat) : Value → Value → Value → Value → M → Res2 :=
  Nat.rec (motive := fun _ => Value → Value → Value → Value → M → Res2) (fun _ _ _ _ _ => none)
    (fun _ ih x3 x9 x10 x11 m =>
      (k1 (mbin E .lss 3 x11 x10) fun v12_5 => (kb v12_5 (k1 (mindexAddr E.P 91 x9 x11) fun v13_6 => (k1 (xload E.P m 99 v13_6) fun v14_7 => (k2 (xalloc E.P m 99) fun v5_8 m => (ks (xstore E.P base m 99 v5_8 v14_7) fun m => (k1 (mfieldAddr E.P 99 v5_8 0) fun v16_9 => (k1 (xload E.P m 70 v16_9) fun v17_10 => (kc (call base 64 [v17_10] m) (fun v18_11 m => (kc (call base 92 [x3, v18_11] m) (fun v19_12 m => (k1 (mbin E .add 3 x11 (.int .i64 1)) fun v20_13 => (ih v19_12 x9 x10 v20_13 m))) (fun v m => kp v m))) (fun v m => kp v m)))))))) (kx0 x3 m)))) n
noncomputable def r87 (call : CallF) (fuel base : Nat) (x0 : Value) (m : M) : Res2 :=
  (k1 (mnil x0) fun v7_1 => (k1 (mfieldAddr E.P 93 v7_1 1) fun v8_2 => (k1 (xload E.P m 91 v8_2) fun v9_3 => (k2 (vcall E.P base m .len [91] [v9_3]) fun v10_4 m => (r87_L0 call fuel base (fun v m => some (.pan v, m)) (fun y3_14 m => (fVal y3_14 fun v => some (.ret v, m))) fuel (.int .i64 1) v9_3 v10_4 (.int .i64 0) m)))))
def keep87 : Keep := { region := fun i => ([[0], [0, 3], [3, 9, 10, 11], [3, 9, 10, 11, 12], [3, 5, 9, 10, 11], [3, 9, 10, 11], [3, 9, 10, 11], [2]] : List (List Nat))[i]?, exit := fun i => ([[3], [3, 9, 10, 11]] : List (List Nat))[i]?, ret := some [2] }
noncomputable def r87_L0_R (call : CallF) (fuel base n : Nat) (vs : List Value) (m : M) (K : KT) : Res2 := match vs with
  | [x3, x9, x10, x11] => r87_L0 call fuel base (fun v m => K (.pan v) { n := 22, l := [] } m) (fun y3 m => K (.exit 0) { n := 22, l := [(3, y3)] } m) n x3 x9 x10 x11 m
  | _ => none
noncomputable def lp87 (call : CallF) (fuel base : Nat) : Lp := lpsel [(0, fun T m K => kslots 22 [3, 9, 10, 11] T fun vs => r87_L0_R call fuel base fuel vs m K)]
noncomputable def c87 : Code := Tryz.f87.body.getD .skip
theorem r87_L0_lk (call : CallF) (fuel base : Nat) : LoopsOk E call (lp87 call fuel base) fuel base 0 (loopB (blockB (seqR (seqL (seqR (seqR c87)))))) = (And True (And (And True True) (And (And True True) True))) := by kernel_rfl
theorem r87_L0_ok (call : CallF) (fuel base : Nat) : LpOk E call (lp87 call fuel base) fuel base 0 (loopB (blockB (seqR (seqL (seqR (seqR c87)))))) := by
  refine loop_ok (kp := keep87) (hb := Eq.mpr (r87_L0_lk call fuel base) (And.intro trivial (And.intro (And.intro trivial trivial) (And.intro (And.intro trivial trivial) trivial)))) 22 [3, 9, 10, 11] (fun n vs m K => r87_L0_R call fuel base n vs m K) ?_ ?_ (fun _ _ _ => rfl)
  · intro vs m K
    unfold r87_L0_R
    split <;> rfl
  · intro n vs m K hl
    match vs, hl with
    | [x3, x9, x10, x11], _ => show _ = _; kernel_rfl
theorem r87_eq (call : CallF) (fuel base : Nat) (x0 : Value) (m : M) : kbody E call keep87 (lp87 call fuel base) base Tryz.f87 [x0] m = r87 call fuel base x0 m := by
  kernel_rfl
noncomputable def rf87 : RF := fun call fuel base args m => match args with
  | [x0] => r87 call fuel base x0 m
  | _ => none
theorem r87_lk (call : CallF) (fuel base : Nat) : LoopsOk E call (lp87 call fuel base) fuel base 0 c87 = (And True (And True (And (And True (LpOk E call (lp87 call fuel base) fuel base 0 (loopB (blockB (seqR (seqL (seqR (seqR c87)))))))) (And True True)))) := by kernel_rfl
theorem r87_fn : E.P.funcs[87]? = some Tryz.f87 := by kernel_rfl
theorem r87_body : Tryz.f87.body = some c87 := by kernel_rfl
theorem rf87_ok : RFok E 87 rf87 := by
  show RFok' E 87 rf87
  refine ⟨Tryz.f87, r87_fn, fun call fuel base args m r _ h => ?_⟩
  unfold rf87 at h
  split at h
  · rw [← r87_eq] at h
    exact kbody_sound (c := c87) r87_body (Eq.mpr (r87_lk call fuel base) (And.intro trivial (And.intro trivial (And.intro (And.intro trivial (r87_L0_ok call fuel base)) (And.intro trivial trivial))))) h
  · simp at h
end Go.AM
namespace Go.AM
open Go Go.Proofs
noncomputable def r88 (call : CallF) (fuel base : Nat) (x0 : Value) (x1 : Value) (x2 : Value) (m : M) : Res2 :=
  (k2 (xmakeSlice E.P m 55 x0 x0) fun v9_1 m => (k1 (mindexAddr E.P 55 v9_1 x1) fun v13_2 => (ks (xstore E.P base m 50 v13_2 x2) fun m => (fVal v9_1 fun v => some (.ret v, m)))))
def keep88 : Keep := { region := fun i => ([[0, 1, 2], [1, 2, 7], [7], [6]] : List (List Nat))[i]?, exit := fun i => ([] : List (List Nat))[i]?, ret := some [6] }
noncomputable def lp88 (call : CallF) (fuel base : Nat) : Lp := lpsel []
noncomputable def c88 : Code := Tryz.f88.body.getD .skip
theorem r88_eq (call : CallF) (fuel base : Nat) (x0 : Value) (x1 : Value) (x2 : Value) (m : M) : kbody E call keep88 (lp88 call fuel base) base Tryz.f88 [x0, x1, x2] m = r88 call fuel base x0 x1 x2 m := by
  kernel_rfl
noncomputable def rf88 : RF := fun call fuel base args m => match args with
  | [x0, x1, x2] => r88 call fuel base x0 x1 x2 m
  | _ => none
theorem r88_lk (call : CallF) (fuel base : Nat) : LoopsOk E call (lp88 call fuel base) fuel base 0 c88 = (And True (And True (And True (And True True)))) := by kernel_rfl
theorem r88_fn : E.P.funcs[88]? = some Tryz.f88 := by kernel_rfl
theorem r88_body : Tryz.f88.body = some c88 := by kernel_rfl
theorem rf88_ok : RFok E 88 rf88 := by
  show RFok' E 88 rf88
  refine ⟨Tryz.f88, r88_fn, fun call fuel base args m r _ h => ?_⟩
  unfold rf88 at h
  split at h
  · rw [← r88_eq] at h
    exact kbody_sound (c := c88) r88_body (Eq.mpr (r88_lk call fuel base) (And.intro trivial (And.intro trivial (And.intro trivial (And.intro trivial trivial))))) h
  · simp at h
end Go.AM
namespace Go.AM
open Go Go.Proofs
noncomputable def r89_L2 (call : CallF) (fuel base : Nat) (kx2 : Value → Value → Value → Value → M → Res2) (n : Nat) : Value → Value → Value → Value → Value → M → Res2 :=
  Nat.rec (motive := fun _ => Value → Value → Value → Value → Value → M → Res2) (fun _ _ _ _ _ _ => none)
    (fun _ ih x1 x2 x4 x8 x9 m =>
      (k1 (mindexAddr E.P 55 x1 x4) fun v14_6 => (k1 (xload E.P m 50 v14_6) fun v15_7 => (k1 (mbin E .neq 50 v15_7 (.int .i64 0)) fun v16_8 => (kb v16_8 (k1 (xload E.P m 110 x2) fun v17_9 => (k1 (mfieldAddr E.P 110 x2 1) fun v18_10 => (k1 (xload E.P m 108 v18_10) fun v19_11 => (k1 (mindexAddr E.P 108 v19_11 x4) fun v21_12 => (k1 (xload E.P m 55 v21_12) fun v22_13 => (k1 (mfieldAddr E.P 110 x2 1) fun v23_14 => (k1 (xload E.P m 108 v23_14) fun v24_15 => (k1 (mindexAddr E.P 108 v24_15 x4) fun v26_16 => (k1 (xload E.P m 55 v26_16) fun v27_17 => (k1 (mindexAddr E.P 55 v27_17 x4) fun v29_18 => (k1 (xload E.P m 50 v29_18) fun v30_19 => (k1 (mindexAddr E.P 55 x1 x4) fun v33_20 => (k1 (xload E.P m 50 v33_20) fun v34_21 => (k1 (mbin E .quo 50 v30_19 v34_21) fun v35_22 => (kc (kB m (call m.length 90 [v17_9, v22_13, v35_22, x1] m)) (fun v37_23 m => (k1 (mfieldAddr E.P 110 x2 1) fun v38_24 => (k1 (xload E.P m 108 v38_24) fun v39_25 => (k1 (mindexAddr E.P 108 v39_25 x4) fun v43_26 => (ks (xstore E.P base m 55 v43_26 x1) fun m => (ih v37_23 x2 x4 x8 x9 m)))))) (fun _ _ => none)))))))))))))))) (kx2 x1 x2 x8 x9 m)))))) n
noncomputable def r89_L0 (call : CallF) (fuel base : Nat) (kx0 : M → Res2) (n : Nat) : Value → Value → Value → Value → M → Res2 :=
  Nat.rec (motive := fun _ => Value → Value → Value → Value → M → Res2) (fun _ _ _ _ _ => none)
    (fun _ ih x1 x2 x8 x9 m =>
      (k1 (mbin E .lss 3 x9 x8) fun v10_5 => (kb v10_5 (r89_L2 call fuel base (fun y1_27 y2_28 y8_29 y9_30 m => (k1 (mbin E .add 3 y9_30 (.int .i64 1)) fun v44_31 => (ih y1_27 y2_28 y8_29 v44_31 m))) fuel x1 x2 x9 x8 x9 m) (kx0 m)))) n
noncomputable def r89 (call : CallF) (fuel base : Nat) (x0 : Value) (x1 : Value) (m : M) : Res2 :=
  (k2 (xbox m x0) fun v2_1 m => (k1 (mfieldAddr E.P 110 v2_1 1) fun v6_2 => (k1 (xload E.P m 108 v6_2) fun v7_3 => (k2 (vcall E.P base m .len [108] [v7_3]) fun v8_4 m => (r89_L0 call fuel base (fun m => (some (.ret (.tuple #[]), m))) fuel x1 v2_1 v8_4 (.int .i64 0) m)))))
def keep89 : Keep := { region := fun i => ([[1, 2], [1, 2, 8, 9], [1, 2, 8, 9, 10], [1, 2, 4, 8, 9], [1, 2, 4, 8, 9, 16], [1, 2, 4, 5, 8, 9], [1, 2, 4, 8, 9], [1, 2, 8, 9]] : List (List Nat))[i]?, exit := fun i => ([[], [1, 2, 8, 9], [1, 2, 8, 9], [1, 2, 4, 8, 9]] : List (List Nat))[i]?, ret := some [] }
noncomputable def r89_L2_R (call : CallF) (fuel base n : Nat) (vs : List Value) (m : M) (K : KT) : Res2 := match vs with
  | [x1, x2, x4, x8, x9] => r89_L2 call fuel base (fun y1 y2 y8 y9 m => K (.exit 2) { n := 45, l := [(1, y1), (2, y2), (8, y8), (9, y9)] } m) n x1 x2 x4 x8 x9 m
  | _ => none
noncomputable def r89_L0_R (call : CallF) (fuel base n : Nat) (vs : List Value) (m : M) (K : KT) : Res2 := match vs with
  | [x1, x2, x8, x9] => r89_L0 call fuel base (fun m => K (.exit 0) { n := 45, l := [] } m) n x1 x2 x8 x9 m
  | _ => none
noncomputable def lp89 (call : CallF) (fuel base : Nat) : Lp := lpsel [(2, fun T m K => kslots 45 [1, 2, 4, 8, 9] T fun vs => r89_L2_R call fuel base fuel vs m K), (0, fun T m K => kslots 45 [1, 2, 8, 9] T fun vs => r89_L0_R call fuel base fuel vs m K)]
noncomputable def c89 : Code := Tryz.f89.body.getD .skip
theorem r89_L2_lk (call : CallF) (fuel base : Nat) : LoopsOk E call (lp89 call fuel base) fuel base 2 (loopB (blockB (seqR (blockB (seqL (seqR (seqR (loopB (blockB (seqR (seqR c89))))))))))) = (And (And True (And True True)) (And True True)) := by kernel_rfl
theorem r89_L2_ok (call : CallF) (fuel base : Nat) : LpOk E call (lp89 call fuel base) fuel base 2 (loopB (blockB (seqR (blockB (seqL (seqR (seqR (loopB (blockB (seqR (seqR c89))))))))))) := by
  refine loop_ok (kp := keep89) (hb := Eq.mpr (r89_L2_lk call fuel base) (And.intro (And.intro trivial (And.intro trivial trivial)) (And.intro trivial trivial))) 45 [1, 2, 4, 8, 9] (fun n vs m K => r89_L2_R call fuel base n vs m K) ?_ ?_ (fun _ _ _ => rfl)
  · intro vs m K
    unfold r89_L2_R
    split <;> rfl
  · intro n vs m K hl
    match vs, hl with
    | [x1, x2, x4, x8, x9], _ => show _ = _; kernel_rfl
theorem r89_L0_lk (call : CallF) (fuel base : Nat) : LoopsOk E call (lp89 call fuel base) fuel base 0 (loopB (blockB (seqR (seqR c89)))) = (And True (And (And True True) (And (And True (LpOk E call (lp89 call fuel base) fuel base 2 (loopB (blockB (seqR (blockB (seqL (seqR (seqR (loopB (blockB (seqR (seqR c89))))))))))))) True))) := by kernel_rfl
theorem r89_L0_ok (call : CallF) (fuel base : Nat) : LpOk E call (lp89 call fuel base) fuel base 0 (loopB (blockB (seqR (seqR c89)))) := by
  refine loop_ok (kp := keep89) (hb := Eq.mpr (r89_L0_lk call fuel base) (And.intro trivial (And.intro (And.intro trivial trivial) (And.intro (And.intro trivial (r89_L2_ok call fuel base)) trivial)))) 45 [1, 2, 8, 9] (fun n vs m K => r89_L0_R call fuel base n vs m K) ?_ ?_ (fun _ _ _ => rfl)
  · intro vs m K
    unfold r89_L0_R
    split <;> rfl
  · intro n vs m K hl
    match vs, hl with
    | [x1, x2, x8, x9], _ => show _ = _; kernel_rfl
theorem r89_eq (call : CallF) (fuel base : Nat) (x0 : Value) (x1 : Value) (m : M) : kbody E call keep89 (lp89 call fuel base) base Tryz.f89 [x0, x1] m = r89 call fuel base x0 x1 m := by
  kernel_rfl
noncomputable def rf89 : RF := fun call fuel base args m => match args with
  | [x0, x1] => r89 call fuel base x0 x1 m
  | _ => none
theorem r89_lk (call : CallF) (fuel base : Nat) : LoopsOk E call (lp89 call fuel base) fuel base 0 c89 = (And True (And True (LpOk E call (lp89 call fuel base) fuel base 0 (loopB (blockB (seqR (seqR c89))))))) := by kernel_rfl
theorem r89_fn : E.P.funcs[89]? = some Tryz.f89 := by kernel_rfl
theorem r89_body : Tryz.f89.body = some c89 := by kernel_rfl
theorem rf89_ok : RFok E 89 rf89 := by
  show RFok' E 89 rf89
  refine ⟨Tryz.f89, r89_fn, fun call fuel base args m r _ h => ?_⟩
  unfold rf89 at h
  split at h
  · rw [← r89_eq] at h
    exact kbody_sound (c := c89) r89_body (Eq.mpr (r89_lk call fuel base) (And.intro trivial (And.intro trivial (r89_L0_ok call fuel base)))) h
  · simp at h
end Go.AM
namespace Go.AM
open Go Go.Proofs
noncomputable def r90 (call : CallF) (fuel base : Nat) (x0 : Value) (x1 : Value) (x2 : Value) (x3 : Value) (m : M) : Res2 :=
  (k2 (xbox m x0) fun v4_1 m => (k1 (mun .neg x2) fun v11_2 => (kc (call base 106 [x1, v11_2, x3] m) (fun v13_3 m => (kc (call base 107 [v13_3, (.func (.func 108) #[] #[v4_1])] m) (fun v15_4 m => (fVal v15_4 fun v => some (.ret v, m))) (fun v m => some (.pan v, m)))) (fun v m => some (.pan v, m)))))
def keep90 : Keep := { region := fun i => ([[1, 2, 3, 4], [8]] : List (List Nat))[i]?, exit := fun i => ([] : List (List Nat))[i]?, ret := some [8] }
noncomputable def lp90 (call : CallF) (fuel base : Nat) : Lp := lpsel []
noncomputable def c90 : Code := Tryz.f90.body.getD .skip
theorem r90_eq (call : CallF) (fuel base : Nat) (x0 : Value) (x1 : Value) (x2 : Value) (x3 : Value) (m : M) : kbody E call keep90 (lp90 call fuel base) base Tryz.f90 [x0, x1, x2, x3] m = r90 call fuel base x0 x1 x2 x3 m := by
  kernel_rfl
noncomputable def rf90 : RF := fun call fuel base args m => match args with
  | [x0, x1, x2, x3] => r90 call fuel base x0 x1 x2 x3 m
  | _ => none
theorem r90_lk (call : CallF) (fuel base : Nat) : LoopsOk E call (lp90 call fuel base) fuel base 0 c90 = (And True (And True True)) := by kernel_rfl
theorem r90_fn : E.P.funcs[90]? = some Tryz.f90 := by kernel_rfl
theorem r90_body : Tryz.f90.body = some c90 := by kernel_rfl
theorem rf90_ok : RFok E 90 rf90 := by
  show RFok' E 90 rf90
  refine ⟨Tryz.f90, r90_fn, fun call fuel base args m r _ h => ?_⟩
  unfold rf90 at h
  split at h
  · rw [← r90_eq] at h
    exact kbody_sound (c := c90) r90_body (Eq.mpr (r90_lk call fuel base) (And.intro trivial (And.intro trivial trivial))) h
  · simp at h
end Go.AM
namespace Go.AM
open Go Go.Proofs
noncomputable def r91 (call : CallF) (fuel base : Nat) (x0 : Value) (x1 : Value) (m : M) : Res2 :=
  (k2 (xbox m x0) fun v2_1 m => (k2 (xbox m x1) fun v3_2 m => (k2 (xalloc E.P m 96) fun v4_3 m => (k1 (xload E.P m 96 v2_1) fun v6_4 => (kc (kB m (call m.length 85 [v6_4] m)) (fun v7_5 m => (k1 (xload E.P m 96 v3_2) fun v8_6 => (kc (kB m (call m.length 85 [v8_6] m)) (fun v9_7 m => (kc (kB m (call m.length 92 [v7_5, v9_7] m)) (fun v10_8 m => (k1 (xload E.P m 96 v2_1) fun v11_9 => (kc (kB m (call m.length 65 [v11_9, v10_8] m)) (fun v13_10 m => (k1 (xload E.P m 96 v3_2) fun v14_11 => (kc (kB m (call m.length 65 [v14_11, v10_8] m)) (fun v16_12 m => (k1 (mbin E .add 3 v13_10 v16_12) fun v17_13 => (kc (kB m (call m.length 50 [v17_13, v10_8] m)) (fun v19_14 m => (ks (xstore E.P base m 96 v4_3 v19_14) fun m => (k0 (mload E.P m 96 v4_3) fun r_15 => (fVal r_15 fun v => some (.ret v, m))))) (fun _ _ => none)))) (fun _ _ => none)))) (fun _ _ => none)))) (fun _ _ => none))) (fun _ _ => none)))) (fun _ _ => none))))))
def keep91 : Keep := { region := fun i => ([[2, 3, 4], [2, 3, 4, 5], [4]] : List (List Nat))[i]?, exit := fun i => ([] : List (List Nat))[i]?, ret := some [4] }
noncomputable def lp91 (call : CallF) (fuel base : Nat) : Lp := lpsel []
noncomputable def c91 : Code := Tryz.f91.body.getD .skip
theorem r91_eq (call : CallF) (fuel base : Nat) (x0 : Value) (x1 : Value) (m : M) : kbody E call keep91 (lp91 call fuel base) base Tryz.f91 [x0, x1] m = r91 call fuel base x0 x1 m := by
  kernel_rfl
noncomputable def rf91 : RF := fun call fuel base args m => match args with
  | [x0, x1] => r91 call fuel base x0 x1 m
  | _ => none
theorem r91_lk (call : CallF) (fuel base : Nat) : LoopsOk E call (lp91 call fuel base) fuel base 0 c91 = (And True (And True (And True True))) := by kernel_rfl
theorem r91_fn : E.P.funcs[91]? = some Tryz.f91 := by kernel_rfl
theorem r91_body : Tryz.f91.body = some c91 := by kernel_rfl
theorem rf91_ok : RFok E 91 rf91 := by
  show RFok' E 91 rf91
  refine ⟨Tryz.f91, r91_fn, fun call fuel base args m r _ h => ?_⟩
  unfold rf91 at h
  split at h
  · rw [← r91_eq] at h
    exact kbody_sound (c := c91) r91_body (Eq.mpr (r91_lk call fuel base) (And.intro trivial (And.intro trivial (And.intro trivial trivial)))) h
  · simp at h
end Go.AM
namespace Go.AM
open Go Go.Proofs
noncomputable def r92 (call : CallF) (fuel base : Nat) (x0 : Value) (x1 : Value) (m : M) : Res2 :=
  (kc (call base 80 [x0, x1] m) (fun v8_1 m => (k1 (mbin E .quo 3 x0 v8_1) fun v9_2 => (k1 (mbin E .mul 3 v9_2 x1) fun v11_3 => (fVal v11_3 fun v => some (.ret v, m))))) (fun v m => some (.pan v, m)))
def keep92 : Keep := { region := fun i => ([[0, 1], [4]] : List (List Nat))[i]?, exit := fun i => ([] : List (List Nat))[i]?, ret := some [4] }
noncomputable def lp92 (call : CallF) (fuel base : Nat) : Lp := lpsel []
noncomputable def c92 : Code := Tryz.f92.body.getD .skip
theorem r92_eq (call : CallF) (fuel base : Nat) (x0 : Value) (x1 : Value) (m : M) : kbody E call keep92 (lp92 call fuel base) base Tryz.f92 [x0, x1] m = r92 call fuel base x0 x1 m := by
  kernel_rfl
noncomputable def rf92 : RF := fun call fuel base args m => match args with
  | [x0, x1] => r92 call fuel base x0 x1 m
  | _ => none
theorem r92_lk (call : CallF) (fuel base : Nat) : LoopsOk E call (lp92 call fuel base) fuel base 0 c92 = (And True (And True True)) := by kernel_rfl
theorem r92_fn : E.P.funcs[92]? = some Tryz.f92 := by kernel_rfl
theorem r92_body : Tryz.f92.body = some c92 := by kernel_rfl
theorem rf92_ok : RFok E 92 rf92 := by
  show RFok' E 92 rf92
  refine ⟨Tryz.f92, r92_fn, fun call fuel base args m r _ h => ?_⟩
  unfold rf92 at h
  split at h
  · rw [← r92_eq] at h
    exact kbody_sound (c := c92) r92_body (Eq.mpr (r92_lk call fuel base) (And.intro trivial (And.intro trivial trivial))) h
  · simp at h
end Go.AM
