import Derived.KernelRfl
import Derived.Laws.BytesArg
import Derived.Laws.StructEq
import Derived.Test.YtoggcogekknlkaaRows
import Derived.WalkKit
import Derived.Test.YtoggcogekknlkaaAmB
import Derived.Test.YtoggcogekknlkaaAmModel
import Derived.Test.YtoggcogekknlkaaAmOps5
import Derived.Test.YtoggcogekknlkaaAmOps6
import Derived.Test.YtoggcogekknlkaaAmCode
import Derived.Test.YtoggcogekknlkaaAmX
import Derived.Test.YtoggcogekknlkaaAmEq
import Derived.Test.YtoggcogekknlkaaRBase
import Derived.Test.YtoggcogekknlkaaR96
set_option linter.unusedVariables false
set_option linter.unusedSimpArgs false
set_option linter.unusedSectionVars false
namespace Go.AM
open Go Go.Proofs
noncomputable def r127_L0 (call : CallF) (fuel base : Nat) (kx0 : M → Res2) (n : Nat) : Value → Value → Value → M → Res2 :=
  Nat.rec (motive := fun _ => Value → Value → Value → M → Res2) (fun _ _ _ _ => none)
    (fun _ ih x0 x6 x7 m =>
      (k1 (mbin E .lss 3 x6 x7) fun v13_2 => (kb v13_2 (k1 (mindexAddr E.P 33 x0 x7) fun v20_3 => (k1 (xload E.P m 3 v20_3) fun v21_4 => (k1 (mindexAddr E.P 33 x0 x6) fun v24_5 => (k1 (xload E.P m 3 v24_5) fun v25_6 => (k1 (mindexAddr E.P 33 x0 x6) fun v26_7 => (ks (xstore E.P base m 3 v26_7 v21_4) fun m => (k1 (mindexAddr E.P 33 x0 x7) fun v27_8 => (ks (xstore E.P base m 3 v27_8 v25_6) fun m => (k1 (mbin E .add 3 x6 (.int .i64 1)) fun v29_9 => (k1 (mbin E .sub 3 x7 (.int .i64 1)) fun v31_10 => (ih x0 v29_9 v31_10 m))))))))))) (kx0 m)))) n
noncomputable def r127 (call : CallF) (fuel base : Nat) (x0 : Value) (x1 : Value) (x2 : Value) (m : M) : Res2 :=
  (k1 (mbin E .sub 3 x2 (.int .i64 1)) fun v10_1 => (r127_L0 call fuel base (fun m => (some (.ret (.tuple #[]), m))) fuel x0 x1 v10_1 m))
def keep127 : Keep := { region := fun i => ([[0, 2, 6], [0, 6, 7], [0, 6, 7, 13], [0, 6, 7], [0, 6, 7], [0, 6, 7]] : List (List Nat))[i]?, exit := fun i => ([[], [0, 6, 7]] : List (List Nat))[i]?, ret := some [] }
noncomputable def r127_L0_R (call : CallF) (fuel base n : Nat) (vs : List Value) (m : M) (K : KT) : Res2 := match vs with
  | [x0, x6, x7] => r127_L0 call fuel base (fun m => K (.exit 0) { n := 32, l := [] } m) n x0 x6 x7 m
  | _ => none
noncomputable def lp127 (call : CallF) (fuel base : Nat) : Lp := lpsel [(0, fun T m K => kslots 32 [0, 6, 7] T fun vs => r127_L0_R call fuel base fuel vs m K)]
noncomputable def c127 : Code := Try.f127.body.getD .skip
theorem r127_L0_lk (call : CallF) (fuel base : Nat) : LoopsOk E call (lp127 call fuel base) fuel base 0 (loopB (blockB (seqR (seqR c127)))) = (And (And True (And True True)) (And True (And True True))) := by kernel_rfl
theorem r127_L0_ok (call : CallF) (fuel base : Nat) : LpOk E call (lp127 call fuel base) fuel base 0 (loopB (blockB (seqR (seqR c127)))) := by
  refine loop_ok (kp := keep127) (hb := Eq.mpr (r127_L0_lk call fuel base) (And.intro (And.intro trivial (And.intro trivial trivial)) (And.intro trivial (And.intro trivial trivial)))) 32 [0, 6, 7] (fun n vs m K => r127_L0_R call fuel base n vs m K) ?_ ?_ (fun _ _ _ => rfl)
  · intro vs m K
    unfold r127_L0_R
    split <;> rfl
  · intro n vs m K hl
    match vs, hl with
    | [x0, x6, x7], _ => show _ = _; kernel_rfl
theorem r127_eq (call : CallF) (fuel base : Nat) (x0 : Value) (x1 : Value) (x2 : Value) (m : M) : kbody E call keep127 (lp127 call fuel base) base Try.f127 [x0, x1, x2] m = r127 call fuel base x0 x1 x2 m := by
  kernel_rfl
noncomputable def rf127 : RF := fun call fuel base args m => match args with
  | [x0, x1, x2] => r127 call fuel base x0 x1 x2 m
  | _ => none
theorem r127_lk (call : CallF) (fuel base : Nat) : LoopsOk E call (lp127 call fuel base) fuel base 0 c127 = (And True (And True (LpOk E call (lp127 call fuel base) fuel base 0 (loopB (blockB (seqR (seqR c127))))))) := by kernel_rfl
theorem r127_fn : E.P.funcs[127]? = some Try.f127 := by kernel_rfl
theorem r127_body : Try.f127.body = some c127 := by kernel_rfl
theorem rf127_ok : RFok E 127 rf127 := by
  refine ⟨Try.f127, r127_fn, fun call fuel base args m r _ h => ?_⟩
  unfold rf127 at h
  split at h
  · rw [← r127_eq] at h
    exact kbody_sound (c := c127) r127_body (Eq.mpr (r127_lk call fuel base) (And.intro trivial (And.intro trivial (r127_L0_ok call fuel base)))) h
  · simp at h
end Go.AM
namespace Go.AM
open Go Go.Proofs
noncomputable def r128_L2 (call : CallF) (fuel base : Nat) (kx2 : Value → Value → Value → Value → Value → M → Res2) (n : Nat) : Value → Value → Value → Value → Value → M → Res2 :=
  Nat.rec (motive := fun _ => Value → Value → Value → Value → Value → M → Res2) (fun _ _ _ _ _ _ => none)
    (fun _ ih x0 x1 x2 x7 x8 m =>
      (k1 (mbin E .lss 3 x7 x2) fun v19_3 => (kb v19_3 (k1 (mindexAddr E.P 33 x0 x7) fun v23_4 => (k1 (xload E.P m 3 v23_4) fun v24_5 => (k1 (mbin E .sub 3 x7 (.int .i64 1)) fun v27_6 => (k1 (mindexAddr E.P 33 x0 v27_6) fun v28_7 => (k1 (xload E.P m 3 v28_7) fun v29_8 => (kc (kB m (call m.length 129 [v24_5, v29_8] m)) (fun v30_9 m => (k1 (mun .not v30_9) fun v31_10 => (kb v31_10 (k1 (mbin E .add 3 x7 (.int .i64 1)) fun v34_11 => (ih x0 x1 x2 v34_11 x8 m)) (kx2 x0 x1 x2 x7 x8 m)))) (fun _ _ => none))))))) (kx2 x0 x1 x2 x7 x8 m)))) n
noncomputable def r128_L4 (call : CallF) (fuel base : Nat) (kx4 : Value → Value → Value → Value → Value → M → Res2) (n : Nat) : Value → Value → Value → Value → Value → Value → M → Res2 :=
  Nat.rec (motive := fun _ => Value → Value → Value → Value → Value → Value → M → Res2) (fun _ _ _ _ _ _ _ => none)
    (fun _ ih x0 x1 x2 x7 x8 x9 m =>
      (k1 (mbin E .geq 3 x9 (.int .i64 1)) fun v65_31 => (kb v65_31 (k1 (mindexAddr E.P 33 x0 x9) fun v70_32 => (k1 (xload E.P m 3 v70_32) fun v71_33 => (k1 (mbin E .sub 3 x9 (.int .i64 1)) fun v74_34 => (k1 (mindexAddr E.P 33 x0 v74_34) fun v75_35 => (k1 (xload E.P m 3 v75_35) fun v76_36 => (kc (kB m (call m.length 129 [v71_33, v76_36] m)) (fun v77_37 m => (k1 (mun .not v77_37) fun v78_38 => (kb v78_38 (kx4 x0 x1 x2 x7 x8 m) (k1 (mbin E .sub 3 x9 (.int .i64 1)) fun v83_39 => (k1 (mbin E .sub 3 x9 (.int .i64 1)) fun v86_40 => (k1 (mindexAddr E.P 33 x0 v86_40) fun v87_41 => (k1 (xload E.P m 3 v87_41) fun v88_42 => (k1 (mindexAddr E.P 33 x0 x9) fun v91_43 => (k1 (xload E.P m 3 v91_43) fun v92_44 => (k1 (mindexAddr E.P 33 x0 x9) fun v93_45 => (ks (xstore E.P base m 3 v93_45 v88_42) fun m => (k1 (mindexAddr E.P 33 x0 v83_39) fun v94_46 => (ks (xstore E.P base m 3 v94_46 v92_44) fun m => (k1 (mbin E .sub 3 x9 (.int .i64 1)) fun v67_47 => (ih x0 x1 x2 x7 x8 v67_47 m))))))))))))))) (fun _ _ => none))))))) (kx4 x0 x1 x2 x7 x8 m)))) n
noncomputable def r128_L6 (call : CallF) (fuel base : Nat) (kx6 : Value → Value → Value → Value → Value → M → Res2) (n : Nat) : Value → Value → Value → Value → Value → Value → M → Res2 :=
  Nat.rec (motive := fun _ => Value → Value → Value → Value → Value → Value → M → Res2) (fun _ _ _ _ _ _ _ => none)
    (fun _ ih x0 x1 x2 x7 x8 x10 m =>
      (k1 (mbin E .lss 3 x10 x2) fun v103_56 => (kb v103_56 (k1 (mindexAddr E.P 33 x0 x10) fun v108_57 => (k1 (xload E.P m 3 v108_57) fun v109_58 => (k1 (mbin E .sub 3 x10 (.int .i64 1)) fun v112_59 => (k1 (mindexAddr E.P 33 x0 v112_59) fun v113_60 => (k1 (xload E.P m 3 v113_60) fun v114_61 => (kc (kB m (call m.length 129 [v109_58, v114_61] m)) (fun v115_62 m => (k1 (mun .not v115_62) fun v116_63 => (kb v116_63 (kx6 x0 x1 x2 x7 x8 m) (k1 (mbin E .sub 3 x10 (.int .i64 1)) fun v121_64 => (k1 (mbin E .sub 3 x10 (.int .i64 1)) fun v124_65 => (k1 (mindexAddr E.P 33 x0 v124_65) fun v125_66 => (k1 (xload E.P m 3 v125_66) fun v126_67 => (k1 (mindexAddr E.P 33 x0 x10) fun v129_68 => (k1 (xload E.P m 3 v129_68) fun v130_69 => (k1 (mindexAddr E.P 33 x0 x10) fun v131_70 => (ks (xstore E.P base m 3 v131_70 v126_67) fun m => (k1 (mindexAddr E.P 33 x0 v121_64) fun v132_71 => (ks (xstore E.P base m 3 v132_71 v130_69) fun m => (k1 (mbin E .add 3 x10 (.int .i64 1)) fun v105_72 => (ih x0 x1 x2 x7 x8 v105_72 m))))))))))))))) (fun _ _ => none))))))) (kx6 x0 x1 x2 x7 x8 m)))) n
noncomputable def r128_L0 (call : CallF) (fuel base : Nat) (kr : Value → M → Res2) (kx0 : M → Res2) (n : Nat) : Value → Value → Value → Value → Value → M → Res2 :=
  Nat.rec (motive := fun _ => Value → Value → Value → Value → Value → M → Res2) (fun _ _ _ _ _ _ => none)
    (fun _ ih x0 x1 x2 x7 x8 m =>
      (k1 (mbin E .lss 3 x8 (.int .i64 5)) fun v14_2 => (kb v14_2 (r128_L2 call fuel base (fun y0_12 y1_13 y2_14 y7_15 y8_16 m => (k1 (mbin E .eql 3 y7_15 y2_14) fun v37_17 => (kb v37_17 (kr (.bool true) m) (k1 (mbin E .sub 3 y2_14 y1_13) fun v40_18 => (k1 (mbin E .lss 3 v40_18 (.int .i64 50)) fun v41_19 => (kb v41_19 (kr (.bool false) m) (k1 (mbin E .sub 3 y7_15 (.int .i64 1)) fun v46_20 => (k1 (mbin E .sub 3 y7_15 (.int .i64 1)) fun v49_21 => (k1 (mindexAddr E.P 33 y0_12 v49_21) fun v50_22 => (k1 (xload E.P m 3 v50_22) fun v51_23 => (k1 (mindexAddr E.P 33 y0_12 y7_15) fun v54_24 => (k1 (xload E.P m 3 v54_24) fun v55_25 => (k1 (mindexAddr E.P 33 y0_12 y7_15) fun v56_26 => (ks (xstore E.P base m 3 v56_26 v51_23) fun m => (k1 (mindexAddr E.P 33 y0_12 v46_20) fun v57_27 => (ks (xstore E.P base m 3 v57_27 v55_25) fun m => (k1 (mbin E .sub 3 y7_15 y1_13) fun v60_28 => (k1 (mbin E .geq 3 v60_28 (.int .i64 2)) fun v61_29 => (kb v61_29 (k1 (mbin E .sub 3 y7_15 (.int .i64 1)) fun v63_30 => (r128_L4 call fuel base (fun y0_48 y1_49 y2_50 y7_51 y8_52 m => (k1 (mbin E .sub 3 y2_50 y7_51) fun v97_53 => (k1 (mbin E .geq 3 v97_53 (.int .i64 2)) fun v98_54 => (kb v98_54 (k1 (mbin E .add 3 y7_51 (.int .i64 1)) fun v100_55 => (r128_L6 call fuel base (fun y0_73 y1_74 y2_75 y7_76 y8_77 m => (k1 (mbin E .add 3 y8_77 (.int .i64 1)) fun v16_78 => (ih y0_73 y1_74 y2_75 y7_76 v16_78 m))) fuel y0_48 y1_49 y2_50 y7_51 y8_52 v100_55 m)) (k1 (mbin E .add 3 y8_52 (.int .i64 1)) fun v16_79 => (ih y0_48 y1_49 y2_50 y7_51 v16_79 m)))))) fuel y0_12 y1_13 y2_14 y7_15 y8_16 v63_30 m)) (k1 (mbin E .sub 3 y2_14 y7_15) fun v97_80 => (k1 (mbin E .geq 3 v97_80 (.int .i64 2)) fun v98_81 => (kb v98_81 (k1 (mbin E .add 3 y7_15 (.int .i64 1)) fun v100_82 => (r128_L6 call fuel base (fun y0_83 y1_84 y2_85 y7_86 y8_87 m => (k1 (mbin E .add 3 y8_87 (.int .i64 1)) fun v16_88 => (ih y0_83 y1_84 y2_85 y7_86 v16_88 m))) fuel y0_12 y1_13 y2_14 y7_15 y8_16 v100_82 m)) (k1 (mbin E .add 3 y8_16 (.int .i64 1)) fun v16_89 => (ih y0_12 y1_13 y2_14 y7_15 v16_89 m)))))))))))))))))))))))) fuel x0 x1 x2 x7 x8 m) (kx0 m)))) n
noncomputable def r128 (call : CallF) (fuel base : Nat) (x0 : Value) (x1 : Value) (x2 : Value) (m : M) : Res2 :=
  (k1 (mbin E .add 3 x1 (.int .i64 1)) fun v12_1 => (r128_L0 call fuel base (fun y6_90 m => (fVal y6_90 fun v => some (.ret v, m))) (fun m => (fVal (.bool false) fun v => some (.ret v, m))) fuel x0 x1 x2 v12_1 (.int .i64 0) m))
def keep128 : Keep := { region := fun i => ([[0, 1, 2], [0, 1, 2, 7], [0, 1, 2, 7, 8], [0, 1, 2, 7, 8, 14], [0, 1, 2, 7, 8], [0, 1, 2, 7, 8, 32], [0, 1, 2, 7, 8], [0, 1, 2, 7, 8, 37], [6], [0, 1, 2, 7, 8, 41], [6], [0, 1, 2, 7, 8], [0, 1, 2, 7, 8, 61], [0, 1, 2, 7, 8, 9], [0, 1, 2, 7, 8, 9, 65], [0, 1, 2, 7, 8, 9], [0, 1, 2, 7, 8, 9, 78], [0, 1, 2, 7, 8, 9], [0, 1, 2, 7, 8, 98], [0, 1, 2, 7, 8, 10], [0, 1, 2, 7, 8, 10, 103], [0, 1, 2, 7, 8, 10], [0, 1, 2, 7, 8, 10, 116], [0, 1, 2, 7, 8, 10], [6]] : List (List Nat))[i]?, exit := fun i => ([[], [0, 1, 2, 7, 8], [0, 1, 2, 7, 8], [0, 1, 2, 7, 8], [0, 1, 2, 7, 8], [0, 1, 2, 7, 8, 9], [0, 1, 2, 7, 8], [0, 1, 2, 7, 8, 10]] : List (List Nat))[i]?, ret := some [6] }
noncomputable def r128_L2_R (call : CallF) (fuel base n : Nat) (vs : List Value) (m : M) (K : KT) : Res2 := match vs with
  | [x0, x1, x2, x7, x8] => r128_L2 call fuel base (fun y0 y1 y2 y7 y8 m => K (.exit 2) { n := 133, l := [(0, y0), (1, y1), (2, y2), (7, y7), (8, y8)] } m) n x0 x1 x2 x7 x8 m
  | _ => none
noncomputable def r128_L4_R (call : CallF) (fuel base n : Nat) (vs : List Value) (m : M) (K : KT) : Res2 := match vs with
  | [x0, x1, x2, x7, x8, x9] => r128_L4 call fuel base (fun y0 y1 y2 y7 y8 m => K (.exit 4) { n := 133, l := [(0, y0), (1, y1), (2, y2), (7, y7), (8, y8)] } m) n x0 x1 x2 x7 x8 x9 m
  | _ => none
noncomputable def r128_L6_R (call : CallF) (fuel base n : Nat) (vs : List Value) (m : M) (K : KT) : Res2 := match vs with
  | [x0, x1, x2, x7, x8, x10] => r128_L6 call fuel base (fun y0 y1 y2 y7 y8 m => K (.exit 6) { n := 133, l := [(0, y0), (1, y1), (2, y2), (7, y7), (8, y8)] } m) n x0 x1 x2 x7 x8 x10 m
  | _ => none
noncomputable def r128_L0_R (call : CallF) (fuel base n : Nat) (vs : List Value) (m : M) (K : KT) : Res2 := match vs with
  | [x0, x1, x2, x7, x8] => r128_L0 call fuel base (fun y6 m => K .ret { n := 133, l := [(6, y6)] } m) (fun m => K (.exit 0) { n := 133, l := [] } m) n x0 x1 x2 x7 x8 m
  | _ => none
noncomputable def lp128 (call : CallF) (fuel base : Nat) : Lp := lpsel [(2, fun T m K => kslots 133 [0, 1, 2, 7, 8] T fun vs => r128_L2_R call fuel base fuel vs m K), (4, fun T m K => kslots 133 [0, 1, 2, 7, 8, 9] T fun vs => r128_L4_R call fuel base fuel vs m K), (6, fun T m K => kslots 133 [0, 1, 2, 7, 8, 10] T fun vs => r128_L6_R call fuel base fuel vs m K), (0, fun T m K => kslots 133 [0, 1, 2, 7, 8] T fun vs => r128_L0_R call fuel base fuel vs m K)]
noncomputable def c128 : Code := Try.f128.body.getD .skip
theorem r128_L2_lk (call : CallF) (fuel base : Nat) : LoopsOk E call (lp128 call fuel base) fuel base 2 (loopB (blockB (seqL (blockB (seqL (seqR (loopB (blockB (seqR (seqL (seqR (seqR c128)))))))))))) = (And (And True (And True True)) True) := by kernel_rfl
theorem r128_L2_ok (call : CallF) (fuel base : Nat) : LpOk E call (lp128 call fuel base) fuel base 2 (loopB (blockB (seqL (blockB (seqL (seqR (loopB (blockB (seqR (seqL (seqR (seqR c128)))))))))))) := by
  refine loop_ok (kp := keep128) (hb := Eq.mpr (r128_L2_lk call fuel base) (And.intro (And.intro trivial (And.intro trivial trivial)) trivial)) 133 [0, 1, 2, 7, 8] (fun n vs m K => r128_L2_R call fuel base n vs m K) ?_ ?_ (fun _ _ _ => rfl)
  · intro vs m K
    unfold r128_L2_R
    split <;> rfl
  · intro n vs m K hl
    match vs, hl with
    | [x0, x1, x2, x7, x8], _ => show _ = _; kernel_rfl
theorem r128_L4_lk (call : CallF) (fuel base : Nat) : LoopsOk E call (lp128 call fuel base) fuel base 4 (loopB (blockB (seqR (condT (seqR (seqL (seqR (seqR (seqR (seqR (blockB (seqL (seqR (loopB (blockB (seqR (seqL (seqR (seqR c128))))))))))))))))))) = (And (And True (And True True)) (And (And (And True (And True True)) True) True)) := by kernel_rfl
theorem r128_L4_ok (call : CallF) (fuel base : Nat) : LpOk E call (lp128 call fuel base) fuel base 4 (loopB (blockB (seqR (condT (seqR (seqL (seqR (seqR (seqR (seqR (blockB (seqL (seqR (loopB (blockB (seqR (seqL (seqR (seqR c128))))))))))))))))))) := by
  refine loop_ok (kp := keep128) (hb := Eq.mpr (r128_L4_lk call fuel base) (And.intro (And.intro trivial (And.intro trivial trivial)) (And.intro (And.intro (And.intro trivial (And.intro trivial trivial)) trivial) trivial))) 133 [0, 1, 2, 7, 8, 9] (fun n vs m K => r128_L4_R call fuel base n vs m K) ?_ ?_ (fun _ _ _ => rfl)
  · intro vs m K
    unfold r128_L4_R
    split <;> rfl
  · intro n vs m K hl
    match vs, hl with
    | [x0, x1, x2, x7, x8, x9], _ => show _ = _; kernel_rfl
theorem r128_L6_lk (call : CallF) (fuel base : Nat) : LoopsOk E call (lp128 call fuel base) fuel base 6 (loopB (blockB (seqR (condT (seqR (seqR (seqR (seqR (seqR (seqR (blockB (seqL (seqR (loopB (blockB (seqR (seqL (seqR (seqR c128))))))))))))))))))) = (And (And True (And True True)) (And (And (And True (And True True)) True) True)) := by kernel_rfl
theorem r128_L6_ok (call : CallF) (fuel base : Nat) : LpOk E call (lp128 call fuel base) fuel base 6 (loopB (blockB (seqR (condT (seqR (seqR (seqR (seqR (seqR (seqR (blockB (seqL (seqR (loopB (blockB (seqR (seqL (seqR (seqR c128))))))))))))))))))) := by
  refine loop_ok (kp := keep128) (hb := Eq.mpr (r128_L6_lk call fuel base) (And.intro (And.intro trivial (And.intro trivial trivial)) (And.intro (And.intro (And.intro trivial (And.intro trivial trivial)) trivial) trivial))) 133 [0, 1, 2, 7, 8, 10] (fun n vs m K => r128_L6_R call fuel base n vs m K) ?_ ?_ (fun _ _ _ => rfl)
  · intro vs m K
    unfold r128_L6_R
    split <;> rfl
  · intro n vs m K hl
    match vs, hl with
    | [x0, x1, x2, x7, x8, x10], _ => show _ = _; kernel_rfl
theorem r128_L0_lk (call : CallF) (fuel base : Nat) : LoopsOk E call (lp128 call fuel base) fuel base 0 (loopB (blockB (seqR (seqL (seqR (seqR c128)))))) = (And (And True (And True True)) (And (And (LpOk E call (lp128 call fuel base) fuel base 2 (loopB (blockB (seqL (blockB (seqL (seqR (loopB (blockB (seqR (seqL (seqR (seqR c128))))))))))))) (And (And True (And (And True True) True)) (And (And True (And (And True True) True)) (And True (And (And True (And (And True (LpOk E call (lp128 call fuel base) fuel base 4 (loopB (blockB (seqR (condT (seqR (seqL (seqR (seqR (seqR (seqR (blockB (seqL (seqR (loopB (blockB (seqR (seqL (seqR (seqR c128))))))))))))))))))))) True)) (And True (And (And True (LpOk E call (lp128 call fuel base) fuel base 6 (loopB (blockB (seqR (condT (seqR (seqR (seqR (seqR (seqR (seqR (blockB (seqL (seqR (loopB (blockB (seqR (seqL (seqR (seqR c128))))))))))))))))))))) True))))))) True)) := by kernel_rfl
theorem r128_L0_ok (call : CallF) (fuel base : Nat) : LpOk E call (lp128 call fuel base) fuel base 0 (loopB (blockB (seqR (seqL (seqR (seqR c128)))))) := by
  refine loop_ok (kp := keep128) (hb := Eq.mpr (r128_L0_lk call fuel base) (And.intro (And.intro trivial (And.intro trivial trivial)) (And.intro (And.intro (r128_L2_ok call fuel base) (And.intro (And.intro trivial (And.intro (And.intro trivial trivial) trivial)) (And.intro (And.intro trivial (And.intro (And.intro trivial trivial) trivial)) (And.intro trivial (And.intro (And.intro trivial (And.intro (And.intro trivial (r128_L4_ok call fuel base)) trivial)) (And.intro trivial (And.intro (And.intro trivial (r128_L6_ok call fuel base)) trivial))))))) trivial))) 133 [0, 1, 2, 7, 8] (fun n vs m K => r128_L0_R call fuel base n vs m K) ?_ ?_ (fun _ _ _ => rfl)
  · intro vs m K
    unfold r128_L0_R
    split <;> rfl
  · intro n vs m K hl
    match vs, hl with
    | [x0, x1, x2, x7, x8], _ => show _ = _; kernel_rfl
theorem r128_eq (call : CallF) (fuel base : Nat) (x0 : Value) (x1 : Value) (x2 : Value) (m : M) : kbody E call keep128 (lp128 call fuel base) base Try.f128 [x0, x1, x2] m = r128 call fuel base x0 x1 x2 m := by
  kernel_rfl
noncomputable def rf128 : RF := fun call fuel base args m => match args with
  | [x0, x1, x2] => r128 call fuel base x0 x1 x2 m
  | _ => none
theorem r128_lk (call : CallF) (fuel base : Nat) : LoopsOk E call (lp128 call fuel base) fuel base 0 c128 = (And True (And True (And (And True (LpOk E call (lp128 call fuel base) fuel base 0 (loopB (blockB (seqR (seqL (seqR (seqR c128)))))))) (And True True)))) := by kernel_rfl
theorem r128_fn : E.P.funcs[128]? = some Try.f128 := by kernel_rfl
theorem r128_body : Try.f128.body = some c128 := by kernel_rfl
theorem rf128_ok : RFok E 128 rf128 := by
  refine ⟨Try.f128, r128_fn, fun call fuel base args m r _ h => ?_⟩
  unfold rf128 at h
  split at h
  · rw [← r128_eq] at h
    exact kbody_sound (c := c128) r128_body (Eq.mpr (r128_lk call fuel base) (And.intro trivial (And.intro trivial (And.intro (And.intro trivial (r128_L0_ok call fuel base)) (And.intro trivial trivial))))) h
  · simp at h
end Go.AM
namespace Go.AM
open Go Go.Proofs
noncomputable def r129 (call : CallF) (fuel base : Nat) (x0 : Value) (x1 : Value) (m : M) : Res2 :=
  (kc (call base 121 [x0] m) (fun v6_1 m => (kb v6_1 (kc (call base 121 [x1] m) (fun v9_2 m => (k1 (mun .not v9_2) fun v10_3 => (kb v10_3 (fVal (.bool true) fun v => some (.ret v, m)) (k1 (mbin E .lss 3 x0 x1) fun v15_4 => (fVal v15_4 fun v => some (.ret v, m)))))) (fun v m => some (.pan v, m))) (k1 (mbin E .lss 3 x0 x1) fun v15_5 => (fVal v15_5 fun v => some (.ret v, m))))) (fun v m => some (.pan v, m)))
def keep129 : Keep := { region := fun i => ([[0, 1], [4]] : List (List Nat))[i]?, exit := fun i => ([] : List (List Nat))[i]?, ret := some [4] }
noncomputable def lp129 (call : CallF) (fuel base : Nat) : Lp := lpsel []
noncomputable def c129 : Code := Try.f129.body.getD .skip
theorem r129_eq (call : CallF) (fuel base : Nat) (x0 : Value) (x1 : Value) (m : M) : kbody E call keep129 (lp129 call fuel base) base Try.f129 [x0, x1] m = r129 call fuel base x0 x1 m := by
  kernel_rfl
noncomputable def rf129 : RF := fun call fuel base args m => match args with
  | [x0, x1] => r129 call fuel base x0 x1 m
  | _ => none
theorem r129_lk (call : CallF) (fuel base : Nat) : LoopsOk E call (lp129 call fuel base) fuel base 0 c129 = (And True (And True True)) := by kernel_rfl
theorem r129_fn : E.P.funcs[129]? = some Try.f129 := by kernel_rfl
theorem r129_body : Try.f129.body = some c129 := by kernel_rfl
theorem rf129_ok : RFok E 129 rf129 := by
  refine ⟨Try.f129, r129_fn, fun call fuel base args m r _ h => ?_⟩
  unfold rf129 at h
  split at h
  · rw [← r129_eq] at h
    exact kbody_sound (c := c129) r129_body (Eq.mpr (r129_lk call fuel base) (And.intro trivial (And.intro trivial trivial))) h
  · simp at h
end Go.AM
namespace Go.AM
open Go Go.Proofs
noncomputable def r130_L2 (call : CallF) (fuel base : Nat) (kx2 : Value → Value → Value → Value → M → Res2) (n : Nat) : Value → Value → Value → Value → M → Res2 :=
  Nat.rec (motive := fun _ => Value → Value → Value → Value → M → Res2) (fun _ _ _ _ _ => none)
    (fun _ ih x0 x1 x9 x10 m =>
      (k1 (mbin E .leq 3 x9 x10) fun v31_9 => (kb v31_9 (k1 (mindexAddr E.P 33 x0 x1) fun v35_10 => (k1 (xload E.P m 3 v35_10) fun v36_11 => (k1 (mindexAddr E.P 33 x0 x9) fun v39_12 => (k1 (xload E.P m 3 v39_12) fun v40_13 => (kc (kB m (call m.length 129 [v36_11, v40_13] m)) (fun v41_14 m => (k1 (mun .not v41_14) fun v42_15 => (kb v42_15 (k1 (mbin E .add 3 x9 (.int .i64 1)) fun v45_16 => (ih x0 x1 v45_16 x10 m)) (kx2 x0 x1 x9 x10 m)))) (fun _ _ => none)))))) (kx2 x0 x1 x9 x10 m)))) n
noncomputable def r130_L4 (call : CallF) (fuel base : Nat) (kx4 : Value → Value → Value → Value → M → Res2) (n : Nat) : Value → Value → Value → Value → M → Res2 :=
  Nat.rec (motive := fun _ => Value → Value → Value → Value → M → Res2) (fun _ _ _ _ _ => none)
    (fun _ ih x0 x1 x9 x10 m =>
      (k1 (mbin E .leq 3 x9 x10) fun v48_21 => (kb v48_21 (k1 (mindexAddr E.P 33 x0 x1) fun v52_22 => (k1 (xload E.P m 3 v52_22) fun v53_23 => (k1 (mindexAddr E.P 33 x0 x10) fun v56_24 => (k1 (xload E.P m 3 v56_24) fun v57_25 => (kc (kB m (call m.length 129 [v53_23, v57_25] m)) (fun v58_26 m => (kb v58_26 (k1 (mbin E .sub 3 x10 (.int .i64 1)) fun v61_27 => (ih x0 x1 x9 v61_27 m)) (kx4 x0 x1 x9 x10 m))) (fun _ _ => none)))))) (kx4 x0 x1 x9 x10 m)))) n
noncomputable def r130_L0 (call : CallF) (fuel base : Nat) (kx0 : Value → M → Res2) (n : Nat) : Value → Value → Value → Value → M → Res2 :=
  Nat.rec (motive := fun _ => Value → Value → Value → Value → M → Res2) (fun _ _ _ _ _ => none)
    (fun _ ih x0 x1 x9 x10 m =>
      (r130_L2 call fuel base (fun y0_17 y1_18 y9_19 y10_20 m => (r130_L4 call fuel base (fun y0_28 y1_29 y9_30 y10_31 m => (k1 (mbin E .gtr 3 y9_30 y10_31) fun v64_32 => (kb v64_32 (kx0 y9_30 m) (k1 (mindexAddr E.P 33 y0_28 y10_31) fun v71_33 => (k1 (xload E.P m 3 v71_33) fun v72_34 => (k1 (mindexAddr E.P 33 y0_28 y9_30) fun v75_35 => (k1 (xload E.P m 3 v75_35) fun v76_36 => (k1 (mindexAddr E.P 33 y0_28 y9_30) fun v77_37 => (ks (xstore E.P base m 3 v77_37 v72_34) fun m => (k1 (mindexAddr E.P 33 y0_28 y10_31) fun v78_38 => (ks (xstore E.P base m 3 v78_38 v76_36) fun m => (k1 (mbin E .add 3 y9_30 (.int .i64 1)) fun v80_39 => (k1 (mbin E .sub 3 y10_31 (.int .i64 1)) fun v82_40 => (ih y0_28 y1_29 v80_39 v82_40 m)))))))))))))) fuel y0_17 y1_18 y9_19 y10_20 m)) fuel x0 x1 x9 x10 m)) n
noncomputable def r130 (call : CallF) (fuel base : Nat) (x0 : Value) (x1 : Value) (x2 : Value) (x3 : Value) (m : M) : Res2 :=
  (k1 (mindexAddr E.P 33 x0 x3) fun v17_1 => (k1 (xload E.P m 3 v17_1) fun v18_2 => (k1 (mindexAddr E.P 33 x0 x1) fun v21_3 => (k1 (xload E.P m 3 v21_3) fun v22_4 => (k1 (mindexAddr E.P 33 x0 x1) fun v23_5 => (ks (xstore E.P base m 3 v23_5 v18_2) fun m => (k1 (mindexAddr E.P 33 x0 x3) fun v24_6 => (ks (xstore E.P base m 3 v24_6 v22_4) fun m => (k1 (mbin E .add 3 x1 (.int .i64 1)) fun v26_7 => (k1 (mbin E .sub 3 x2 (.int .i64 1)) fun v28_8 => (r130_L0 call fuel base (fun y9_41 m => (fVal y9_41 fun v => some (.ret v, m))) fuel x0 x1 v26_7 v28_8 m)))))))))))
def keep130 : Keep := { region := fun i => ([[0, 1, 2, 3], [0, 1, 2], [0, 1, 9, 10], [0, 1, 9, 10, 43], [0, 1, 9, 10], [0, 1, 9, 10, 59], [0, 1, 9, 10], [0, 1, 9, 10, 64], [0, 1, 9, 10], [0, 1, 9, 10], [0, 1, 9, 10], [8]] : List (List Nat))[i]?, exit := fun i => ([[9], [0, 1, 9, 10], [0, 1, 9, 10], [0, 1, 9, 10], [0, 1, 9, 10], [0, 1, 9, 10]] : List (List Nat))[i]?, ret := some [8] }
noncomputable def r130_L2_R (call : CallF) (fuel base n : Nat) (vs : List Value) (m : M) (K : KT) : Res2 := match vs with
  | [x0, x1, x9, x10] => r130_L2 call fuel base (fun y0 y1 y9 y10 m => K (.exit 2) { n := 84, l := [(0, y0), (1, y1), (9, y9), (10, y10)] } m) n x0 x1 x9 x10 m
  | _ => none
noncomputable def r130_L4_R (call : CallF) (fuel base n : Nat) (vs : List Value) (m : M) (K : KT) : Res2 := match vs with
  | [x0, x1, x9, x10] => r130_L4 call fuel base (fun y0 y1 y9 y10 m => K (.exit 4) { n := 84, l := [(0, y0), (1, y1), (9, y9), (10, y10)] } m) n x0 x1 x9 x10 m
  | _ => none
noncomputable def r130_L0_R (call : CallF) (fuel base n : Nat) (vs : List Value) (m : M) (K : KT) : Res2 := match vs with
  | [x0, x1, x9, x10] => r130_L0 call fuel base (fun y9 m => K (.exit 0) { n := 84, l := [(9, y9)] } m) n x0 x1 x9 x10 m
  | _ => none
noncomputable def lp130 (call : CallF) (fuel base : Nat) : Lp := lpsel [(2, fun T m K => kslots 84 [0, 1, 9, 10] T fun vs => r130_L2_R call fuel base fuel vs m K), (4, fun T m K => kslots 84 [0, 1, 9, 10] T fun vs => r130_L4_R call fuel base fuel vs m K), (0, fun T m K => kslots 84 [0, 1, 9, 10] T fun vs => r130_L0_R call fuel base fuel vs m K)]
noncomputable def c130 : Code := Try.f130.body.getD .skip
theorem r130_L2_lk (call : CallF) (fuel base : Nat) : LoopsOk E call (lp130 call fuel base) fuel base 2 (loopB (blockB (seqL (blockB (loopB (blockB (seqL (seqR (seqR (seqR c130)))))))))) = (And (And True (And True True)) True) := by kernel_rfl
theorem r130_L2_ok (call : CallF) (fuel base : Nat) : LpOk E call (lp130 call fuel base) fuel base 2 (loopB (blockB (seqL (blockB (loopB (blockB (seqL (seqR (seqR (seqR c130)))))))))) := by
  refine loop_ok (kp := keep130) (hb := Eq.mpr (r130_L2_lk call fuel base) (And.intro (And.intro trivial (And.intro trivial trivial)) trivial)) 84 [0, 1, 9, 10] (fun n vs m K => r130_L2_R call fuel base n vs m K) ?_ ?_ (fun _ _ _ => rfl)
  · intro vs m K
    unfold r130_L2_R
    split <;> rfl
  · intro n vs m K hl
    match vs, hl with
    | [x0, x1, x9, x10], _ => show _ = _; kernel_rfl
theorem r130_L4_lk (call : CallF) (fuel base : Nat) : LoopsOk E call (lp130 call fuel base) fuel base 4 (loopB (blockB (seqL (seqR (blockB (loopB (blockB (seqL (seqR (seqR (seqR c130))))))))))) = (And (And True (And True True)) True) := by kernel_rfl
theorem r130_L4_ok (call : CallF) (fuel base : Nat) : LpOk E call (lp130 call fuel base) fuel base 4 (loopB (blockB (seqL (seqR (blockB (loopB (blockB (seqL (seqR (seqR (seqR c130))))))))))) := by
  refine loop_ok (kp := keep130) (hb := Eq.mpr (r130_L4_lk call fuel base) (And.intro (And.intro trivial (And.intro trivial trivial)) trivial)) 84 [0, 1, 9, 10] (fun n vs m K => r130_L4_R call fuel base n vs m K) ?_ ?_ (fun _ _ _ => rfl)
  · intro vs m K
    unfold r130_L4_R
    split <;> rfl
  · intro n vs m K hl
    match vs, hl with
    | [x0, x1, x9, x10], _ => show _ = _; kernel_rfl
theorem r130_L0_lk (call : CallF) (fuel base : Nat) : LoopsOk E call (lp130 call fuel base) fuel base 0 (loopB (blockB (seqL (seqR (seqR (seqR c130)))))) = (And (LpOk E call (lp130 call fuel base) fuel base 2 (loopB (blockB (seqL (blockB (loopB (blockB (seqL (seqR (seqR (seqR c130))))))))))) (And (LpOk E call (lp130 call fuel base) fuel base 4 (loopB (blockB (seqL (seqR (blockB (loopB (blockB (seqL (seqR (seqR (seqR c130)))))))))))) (And (And True (And True True)) (And True (And True True))))) := by kernel_rfl
theorem r130_L0_ok (call : CallF) (fuel base : Nat) : LpOk E call (lp130 call fuel base) fuel base 0 (loopB (blockB (seqL (seqR (seqR (seqR c130)))))) := by
  refine loop_ok (kp := keep130) (hb := Eq.mpr (r130_L0_lk call fuel base) (And.intro (r130_L2_ok call fuel base) (And.intro (r130_L4_ok call fuel base) (And.intro (And.intro trivial (And.intro trivial trivial)) (And.intro trivial (And.intro trivial trivial)))))) 84 [0, 1, 9, 10] (fun n vs m K => r130_L0_R call fuel base n vs m K) ?_ ?_ (fun _ _ _ => rfl)
  · intro vs m K
    unfold r130_L0_R
    split <;> rfl
  · intro n vs m K hl
    match vs, hl with
    | [x0, x1, x9, x10], _ => show _ = _; kernel_rfl
theorem r130_eq (call : CallF) (fuel base : Nat) (x0 : Value) (x1 : Value) (x2 : Value) (x3 : Value) (m : M) : kbody E call keep130 (lp130 call fuel base) base Try.f130 [x0, x1, x2, x3] m = r130 call fuel base x0 x1 x2 x3 m := by
  kernel_rfl
noncomputable def rf130 : RF := fun call fuel base args m => match args with
  | [x0, x1, x2, x3] => r130 call fuel base x0 x1 x2 x3 m
  | _ => none
theorem r130_lk (call : CallF) (fuel base : Nat) : LoopsOk E call (lp130 call fuel base) fuel base 0 c130 = (And True (And True (And True (And (LpOk E call (lp130 call fuel base) fuel base 0 (loopB (blockB (seqL (seqR (seqR (seqR c130))))))) (And True True))))) := by kernel_rfl
theorem r130_fn : E.P.funcs[130]? = some Try.f130 := by kernel_rfl
theorem r130_body : Try.f130.body = some c130 := by kernel_rfl
theorem rf130_ok : RFok E 130 rf130 := by
  refine ⟨Try.f130, r130_fn, fun call fuel base args m r _ h => ?_⟩
  unfold rf130 at h
  split at h
  · rw [← r130_eq] at h
    exact kbody_sound (c := c130) r130_body (Eq.mpr (r130_lk call fuel base) (And.intro trivial (And.intro trivial (And.intro trivial (And.intro (r130_L0_ok call fuel base) (And.intro trivial trivial)))))) h
  · simp at h
end Go.AM
namespace Go.AM
open Go Go.Proofs
noncomputable def r131_L6 (call : CallF) (fuel base : Nat) (kx6 : Value → Value → Value → Value → M → Res2) (n : Nat) : Value → Value → Value → Value → M → Res2 :=
  Nat.rec (motive := fun _ => Value → Value → Value → Value → M → Res2) (fun _ _ _ _ _ => none)
    (fun _ ih x0 x1 x10 x11 m =>
      (k1 (mbin E .leq 3 x10 x11) fun v101_47 => (kb v101_47 (k1 (mindexAddr E.P 33 x0 x10) fun v105_48 => (k1 (xload E.P m 3 v105_48) fun v106_49 => (k1 (mindexAddr E.P 33 x0 x1) fun v109_50 => (k1 (xload E.P m 3 v109_50) fun v110_51 => (kc (kB m (call m.length 129 [v106_49, v110_51] m)) (fun v111_52 m => (kb v111_52 (k1 (mbin E .add 3 x10 (.int .i64 1)) fun v114_53 => (ih x0 x1 v114_53 x11 m)) (kx6 x0 x1 x10 x11 m))) (fun _ _ => none)))))) (kx6 x0 x1 x10 x11 m)))) n
noncomputable def r131_L8 (call : CallF) (fuel base : Nat) (kx8 : Value → Value → Value → Value → M → Res2) (n : Nat) : Value → Value → Value → Value → M → Res2 :=
  Nat.rec (motive := fun _ => Value → Value → Value → Value → M → Res2) (fun _ _ _ _ _ => none)
    (fun _ ih x0 x1 x10 x11 m =>
      (k1 (mbin E .leq 3 x10 x11) fun v117_58 => (kb v117_58 (k1 (mindexAddr E.P 33 x0 x11) fun v121_59 => (k1 (xload E.P m 3 v121_59) fun v122_60 => (k1 (mindexAddr E.P 33 x0 x1) fun v125_61 => (k1 (xload E.P m 3 v125_61) fun v126_62 => (kc (kB m (call m.length 129 [v122_60, v126_62] m)) (fun v127_63 m => (k1 (mun .not v127_63) fun v128_64 => (kb v128_64 (k1 (mbin E .sub 3 x11 (.int .i64 1)) fun v131_65 => (ih x0 x1 x10 v131_65 m)) (kx8 x0 x1 x10 x11 m)))) (fun _ _ => none)))))) (kx8 x0 x1 x10 x11 m)))) n
noncomputable def r131_L0 (call : CallF) (fuel base : Nat) (kx0 : Value → Value → Value → Value → M → Res2) (n : Nat) : Value → Value → Value → Value → M → Res2 :=
  Nat.rec (motive := fun _ => Value → Value → Value → Value → M → Res2) (fun _ _ _ _ _ => none)
    (fun _ ih x0 x1 x10 x11 m =>
      (k1 (mbin E .leq 3 x10 x11) fun v32_9 => (kb v32_9 (k1 (mindexAddr E.P 33 x0 x10) fun v36_10 => (k1 (xload E.P m 3 v36_10) fun v37_11 => (k1 (mindexAddr E.P 33 x0 x1) fun v40_12 => (k1 (xload E.P m 3 v40_12) fun v41_13 => (kc (kB m (call m.length 129 [v37_11, v41_13] m)) (fun v42_14 m => (kb v42_14 (k1 (mbin E .add 3 x10 (.int .i64 1)) fun v45_15 => (ih x0 x1 v45_15 x11 m)) (kx0 x0 x1 x10 x11 m))) (fun _ _ => none)))))) (kx0 x0 x1 x10 x11 m)))) n
noncomputable def r131_L2 (call : CallF) (fuel base : Nat) (kx2 : Value → Value → Value → Value → M → Res2) (n : Nat) : Value → Value → Value → Value → M → Res2 :=
  Nat.rec (motive := fun _ => Value → Value → Value → Value → M → Res2) (fun _ _ _ _ _ => none)
    (fun _ ih x0 x1 x10 x11 m =>
      (k1 (mbin E .leq 3 x10 x11) fun v48_20 => (kb v48_20 (k1 (mindexAddr E.P 33 x0 x11) fun v52_21 => (k1 (xload E.P m 3 v52_21) fun v53_22 => (k1 (mindexAddr E.P 33 x0 x1) fun v56_23 => (k1 (xload E.P m 3 v56_23) fun v57_24 => (kc (kB m (call m.length 129 [v53_22, v57_24] m)) (fun v58_25 m => (k1 (mun .not v58_25) fun v59_26 => (kb v59_26 (k1 (mbin E .sub 3 x11 (.int .i64 1)) fun v62_27 => (ih x0 x1 x10 v62_27 m)) (kx2 x0 x1 x10 x11 m)))) (fun _ _ => none)))))) (kx2 x0 x1 x10 x11 m)))) n
noncomputable def r131_L4 (call : CallF) (fuel base : Nat) (kx4 : Value → Value → Value → M → Res2) (n : Nat) : Value → Value → Value → Value → M → Res2 :=
  Nat.rec (motive := fun _ => Value → Value → Value → Value → M → Res2) (fun _ _ _ _ _ => none)
    (fun _ ih x0 x1 x10 x11 m =>
      (r131_L6 call fuel base (fun y0_54 y1_55 y10_56 y11_57 m => (r131_L8 call fuel base (fun y0_66 y1_67 y10_68 y11_69 m => (k1 (mbin E .gtr 3 y10_68 y11_69) fun v134_70 => (kb v134_70 (kx4 y0_66 y1_67 y11_69 m) (k1 (mindexAddr E.P 33 y0_66 y11_69) fun v141_71 => (k1 (xload E.P m 3 v141_71) fun v142_72 => (k1 (mindexAddr E.P 33 y0_66 y10_68) fun v145_73 => (k1 (xload E.P m 3 v145_73) fun v146_74 => (k1 (mindexAddr E.P 33 y0_66 y10_68) fun v147_75 => (ks (xstore E.P base m 3 v147_75 v142_72) fun m => (k1 (mindexAddr E.P 33 y0_66 y11_69) fun v148_76 => (ks (xstore E.P base m 3 v148_76 v146_74) fun m => (k1 (mbin E .add 3 y10_68 (.int .i64 1)) fun v150_77 => (k1 (mbin E .sub 3 y11_69 (.int .i64 1)) fun v152_78 => (ih y0_66 y1_67 v150_77 v152_78 m)))))))))))))) fuel y0_54 y1_55 y10_56 y11_57 m)) fuel x0 x1 x10 x11 m)) n
noncomputable def r131 (call : CallF) (fuel base : Nat) (x0 : Value) (x1 : Value) (x2 : Value) (x3 : Value) (m : M) : Res2 :=
  (k1 (mindexAddr E.P 33 x0 x3) fun v18_1 => (k1 (xload E.P m 3 v18_1) fun v19_2 => (k1 (mindexAddr E.P 33 x0 x1) fun v22_3 => (k1 (xload E.P m 3 v22_3) fun v23_4 => (k1 (mindexAddr E.P 33 x0 x1) fun v24_5 => (ks (xstore E.P base m 3 v24_5 v19_2) fun m => (k1 (mindexAddr E.P 33 x0 x3) fun v25_6 => (ks (xstore E.P base m 3 v25_6 v23_4) fun m => (k1 (mbin E .add 3 x1 (.int .i64 1)) fun v27_7 => (k1 (mbin E .sub 3 x2 (.int .i64 1)) fun v29_8 => (r131_L0 call fuel base (fun y0_16 y1_17 y10_18 y11_19 m => (r131_L2 call fuel base (fun y0_28 y1_29 y10_30 y11_31 m => (k1 (mbin E .gtr 3 y10_30 y11_31) fun v65_32 => (kb v65_32 (k1 (mindexAddr E.P 33 y0_28 y1_29) fun v72_33 => (k1 (xload E.P m 3 v72_33) fun v73_34 => (k1 (mindexAddr E.P 33 y0_28 y11_31) fun v76_35 => (k1 (xload E.P m 3 v76_35) fun v77_36 => (k1 (mindexAddr E.P 33 y0_28 y11_31) fun v78_37 => (ks (xstore E.P base m 3 v78_37 v73_34) fun m => (k1 (mindexAddr E.P 33 y0_28 y1_29) fun v79_38 => (ks (xstore E.P base m 3 v79_38 v77_36) fun m => (some (.ret (.tuple #[y11_31, (.bool true)]), m)))))))))) (k1 (mindexAddr E.P 33 y0_28 y11_31) fun v87_39 => (k1 (xload E.P m 3 v87_39) fun v88_40 => (k1 (mindexAddr E.P 33 y0_28 y10_30) fun v91_41 => (k1 (xload E.P m 3 v91_41) fun v92_42 => (k1 (mindexAddr E.P 33 y0_28 y10_30) fun v93_43 => (ks (xstore E.P base m 3 v93_43 v88_40) fun m => (k1 (mindexAddr E.P 33 y0_28 y11_31) fun v94_44 => (ks (xstore E.P base m 3 v94_44 v92_42) fun m => (k1 (mbin E .add 3 y10_30 (.int .i64 1)) fun v96_45 => (k1 (mbin E .sub 3 y11_31 (.int .i64 1)) fun v98_46 => (r131_L4 call fuel base (fun y0_79 y1_80 y11_81 m => (k1 (mindexAddr E.P 33 y0_79 y1_80) fun v159_82 => (k1 (xload E.P m 3 v159_82) fun v160_83 => (k1 (mindexAddr E.P 33 y0_79 y11_81) fun v163_84 => (k1 (xload E.P m 3 v163_84) fun v164_85 => (k1 (mindexAddr E.P 33 y0_79 y11_81) fun v165_86 => (ks (xstore E.P base m 3 v165_86 v160_83) fun m => (k1 (mindexAddr E.P 33 y0_79 y1_80) fun v166_87 => (ks (xstore E.P base m 3 v166_87 v164_85) fun m => (some (.ret (.tuple #[y11_81, (.bool false)]), m))))))))))) fuel y0_28 y1_29 v96_45 v98_46 m)))))))))))))) fuel y0_16 y1_17 y10_18 y11_19 m)) fuel x0 x1 v27_7 v29_8 m)))))))))))
def keep131 : Keep := { region := fun i => ([[0, 1, 2, 3], [0, 1, 2], [0, 1, 10, 11], [0, 1, 10, 11, 43], [0, 1, 10, 11], [0, 1, 10, 11, 60], [0, 1, 10, 11], [0, 1, 10, 11, 65], [11], [8, 9], [0, 1, 10, 11], [0, 1, 10, 11], [0, 1, 10, 11], [0, 1, 10, 11, 112], [0, 1, 10, 11], [0, 1, 10, 11, 129], [0, 1, 10, 11], [0, 1, 10, 11, 134], [0, 1, 10, 11], [0, 1, 10, 11], [0, 1, 10, 11], [11], [8, 9]] : List (List Nat))[i]?, exit := fun i => ([[0, 1, 10, 11], [0, 1, 10, 11], [0, 1, 10, 11], [0, 1, 10, 11], [0, 1, 11], [0, 1, 10, 11], [0, 1, 10, 11], [0, 1, 10, 11], [0, 1, 10, 11], [0, 1, 10, 11]] : List (List Nat))[i]?, ret := some [8, 9] }
noncomputable def r131_L6_R (call : CallF) (fuel base n : Nat) (vs : List Value) (m : M) (K : KT) : Res2 := match vs with
  | [x0, x1, x10, x11] => r131_L6 call fuel base (fun y0 y1 y10 y11 m => K (.exit 6) { n := 168, l := [(0, y0), (1, y1), (10, y10), (11, y11)] } m) n x0 x1 x10 x11 m
  | _ => none
noncomputable def r131_L8_R (call : CallF) (fuel base n : Nat) (vs : List Value) (m : M) (K : KT) : Res2 := match vs with
  | [x0, x1, x10, x11] => r131_L8 call fuel base (fun y0 y1 y10 y11 m => K (.exit 8) { n := 168, l := [(0, y0), (1, y1), (10, y10), (11, y11)] } m) n x0 x1 x10 x11 m
  | _ => none
noncomputable def r131_L0_R (call : CallF) (fuel base n : Nat) (vs : List Value) (m : M) (K : KT) : Res2 := match vs with
  | [x0, x1, x10, x11] => r131_L0 call fuel base (fun y0 y1 y10 y11 m => K (.exit 0) { n := 168, l := [(0, y0), (1, y1), (10, y10), (11, y11)] } m) n x0 x1 x10 x11 m
  | _ => none
noncomputable def r131_L2_R (call : CallF) (fuel base n : Nat) (vs : List Value) (m : M) (K : KT) : Res2 := match vs with
  | [x0, x1, x10, x11] => r131_L2 call fuel base (fun y0 y1 y10 y11 m => K (.exit 2) { n := 168, l := [(0, y0), (1, y1), (10, y10), (11, y11)] } m) n x0 x1 x10 x11 m
  | _ => none
noncomputable def r131_L4_R (call : CallF) (fuel base n : Nat) (vs : List Value) (m : M) (K : KT) : Res2 := match vs with
  | [x0, x1, x10, x11] => r131_L4 call fuel base (fun y0 y1 y11 m => K (.exit 4) { n := 168, l := [(0, y0), (1, y1), (11, y11)] } m) n x0 x1 x10 x11 m
  | _ => none
noncomputable def lp131 (call : CallF) (fuel base : Nat) : Lp := lpsel [(6, fun T m K => kslots 168 [0, 1, 10, 11] T fun vs => r131_L6_R call fuel base fuel vs m K), (8, fun T m K => kslots 168 [0, 1, 10, 11] T fun vs => r131_L8_R call fuel base fuel vs m K), (0, fun T m K => kslots 168 [0, 1, 10, 11] T fun vs => r131_L0_R call fuel base fuel vs m K), (2, fun T m K => kslots 168 [0, 1, 10, 11] T fun vs => r131_L2_R call fuel base fuel vs m K), (4, fun T m K => kslots 168 [0, 1, 10, 11] T fun vs => r131_L4_R call fuel base fuel vs m K)]
noncomputable def c131 : Code := Try.f131.body.getD .skip
theorem r131_L6_lk (call : CallF) (fuel base : Nat) : LoopsOk E call (lp131 call fuel base) fuel base 6 (loopB (blockB (seqL (blockB (loopB (blockB (seqL (seqR (seqR (seqR (seqR (seqR (seqR (seqR (seqR (seqR c131)))))))))))))))) = (And (And True (And True True)) True) := by kernel_rfl
theorem r131_L6_ok (call : CallF) (fuel base : Nat) : LpOk E call (lp131 call fuel base) fuel base 6 (loopB (blockB (seqL (blockB (loopB (blockB (seqL (seqR (seqR (seqR (seqR (seqR (seqR (seqR (seqR (seqR c131)))))))))))))))) := by
  refine loop_ok (kp := keep131) (hb := Eq.mpr (r131_L6_lk call fuel base) (And.intro (And.intro trivial (And.intro trivial trivial)) trivial)) 168 [0, 1, 10, 11] (fun n vs m K => r131_L6_R call fuel base n vs m K) ?_ ?_ (fun _ _ _ => rfl)
  · intro vs m K
    unfold r131_L6_R
    split <;> rfl
  · intro n vs m K hl
    match vs, hl with
    | [x0, x1, x10, x11], _ => show _ = _; kernel_rfl
theorem r131_L8_lk (call : CallF) (fuel base : Nat) : LoopsOk E call (lp131 call fuel base) fuel base 8 (loopB (blockB (seqL (seqR (blockB (loopB (blockB (seqL (seqR (seqR (seqR (seqR (seqR (seqR (seqR (seqR (seqR c131))))))))))))))))) = (And (And True (And True True)) True) := by kernel_rfl
theorem r131_L8_ok (call : CallF) (fuel base : Nat) : LpOk E call (lp131 call fuel base) fuel base 8 (loopB (blockB (seqL (seqR (blockB (loopB (blockB (seqL (seqR (seqR (seqR (seqR (seqR (seqR (seqR (seqR (seqR c131))))))))))))))))) := by
  refine loop_ok (kp := keep131) (hb := Eq.mpr (r131_L8_lk call fuel base) (And.intro (And.intro trivial (And.intro trivial trivial)) trivial)) 168 [0, 1, 10, 11] (fun n vs m K => r131_L8_R call fuel base n vs m K) ?_ ?_ (fun _ _ _ => rfl)
  · intro vs m K
    unfold r131_L8_R
    split <;> rfl
  · intro n vs m K hl
    match vs, hl with
    | [x0, x1, x10, x11], _ => show _ = _; kernel_rfl
theorem r131_L0_lk (call : CallF) (fuel base : Nat) : LoopsOk E call (lp131 call fuel base) fuel base 0 (loopB (blockB (seqL (seqR (seqR (seqR c131)))))) = (And (And True (And True True)) True) := by kernel_rfl
theorem r131_L0_ok (call : CallF) (fuel base : Nat) : LpOk E call (lp131 call fuel base) fuel base 0 (loopB (blockB (seqL (seqR (seqR (seqR c131)))))) := by
  refine loop_ok (kp := keep131) (hb := Eq.mpr (r131_L0_lk call fuel base) (And.intro (And.intro trivial (And.intro trivial trivial)) trivial)) 168 [0, 1, 10, 11] (fun n vs m K => r131_L0_R call fuel base n vs m K) ?_ ?_ (fun _ _ _ => rfl)
  · intro vs m K
    unfold r131_L0_R
    split <;> rfl
  · intro n vs m K hl
    match vs, hl with
    | [x0, x1, x10, x11], _ => show _ = _; kernel_rfl
theorem r131_L2_lk (call : CallF) (fuel base : Nat) : LoopsOk E call (lp131 call fuel base) fuel base 2 (loopB (blockB (seqL (seqR (seqR (seqR (seqR c131))))))) = (And (And True (And True True)) True) := by kernel_rfl
theorem r131_L2_ok (call : CallF) (fuel base : Nat) : LpOk E call (lp131 call fuel base) fuel base 2 (loopB (blockB (seqL (seqR (seqR (seqR (seqR c131))))))) := by
  refine loop_ok (kp := keep131) (hb := Eq.mpr (r131_L2_lk call fuel base) (And.intro (And.intro trivial (And.intro trivial trivial)) trivial)) 168 [0, 1, 10, 11] (fun n vs m K => r131_L2_R call fuel base n vs m K) ?_ ?_ (fun _ _ _ => rfl)
  · intro vs m K
    unfold r131_L2_R
    split <;> rfl
  · intro n vs m K hl
    match vs, hl with
    | [x0, x1, x10, x11], _ => show _ = _; kernel_rfl
theorem r131_L4_lk (call : CallF) (fuel base : Nat) : LoopsOk E call (lp131 call fuel base) fuel base 4 (loopB (blockB (seqL (seqR (seqR (seqR (seqR (seqR (seqR (seqR (seqR (seqR c131)))))))))))) = (And (LpOk E call (lp131 call fuel base) fuel base 6 (loopB (blockB (seqL (blockB (loopB (blockB (seqL (seqR (seqR (seqR (seqR (seqR (seqR (seqR (seqR (seqR c131))))))))))))))))) (And (LpOk E call (lp131 call fuel base) fuel base 8 (loopB (blockB (seqL (seqR (blockB (loopB (blockB (seqL (seqR (seqR (seqR (seqR (seqR (seqR (seqR (seqR (seqR c131)))))))))))))))))) (And (And True (And True True)) (And True (And True True))))) := by kernel_rfl
theorem r131_L4_ok (call : CallF) (fuel base : Nat) : LpOk E call (lp131 call fuel base) fuel base 4 (loopB (blockB (seqL (seqR (seqR (seqR (seqR (seqR (seqR (seqR (seqR (seqR c131)))))))))))) := by
  refine loop_ok (kp := keep131) (hb := Eq.mpr (r131_L4_lk call fuel base) (And.intro (r131_L6_ok call fuel base) (And.intro (r131_L8_ok call fuel base) (And.intro (And.intro trivial (And.intro trivial trivial)) (And.intro trivial (And.intro trivial trivial)))))) 168 [0, 1, 10, 11] (fun n vs m K => r131_L4_R call fuel base n vs m K) ?_ ?_ (fun _ _ _ => rfl)
  · intro vs m K
    unfold r131_L4_R
    split <;> rfl
  · intro n vs m K hl
    match vs, hl with
    | [x0, x1, x10, x11], _ => show _ = _; kernel_rfl
theorem r131_eq (call : CallF) (fuel base : Nat) (x0 : Value) (x1 : Value) (x2 : Value) (x3 : Value) (m : M) : kbody E call keep131 (lp131 call fuel base) base Try.f131 [x0, x1, x2, x3] m = r131 call fuel base x0 x1 x2 x3 m := by
  kernel_rfl
noncomputable def rf131 : RF := fun call fuel base args m => match args with
  | [x0, x1, x2, x3] => r131 call fuel base x0 x1 x2 x3 m
  | _ => none
theorem r131_lk (call : CallF) (fuel base : Nat) : LoopsOk E call (lp131 call fuel base) fuel base 0 c131 = (And True (And True (And True (And (LpOk E call (lp131 call fuel base) fuel base 0 (loopB (blockB (seqL (seqR (seqR (seqR c131))))))) (And (LpOk E call (lp131 call fuel base) fuel base 2 (loopB (blockB (seqL (seqR (seqR (seqR (seqR c131)))))))) (And (And True (And (And True (And True True)) True)) (And True (And True (And True (And (LpOk E call (lp131 call fuel base) fuel base 4 (loopB (blockB (seqL (seqR (seqR (seqR (seqR (seqR (seqR (seqR (seqR (seqR c131))))))))))))) (And True (And True True)))))))))))) := by kernel_rfl
theorem r131_fn : E.P.funcs[131]? = some Try.f131 := by kernel_rfl
theorem r131_body : Try.f131.body = some c131 := by kernel_rfl
theorem rf131_ok : RFok E 131 rf131 := by
  refine ⟨Try.f131, r131_fn, fun call fuel base args m r _ h => ?_⟩
  unfold rf131 at h
  split at h
  · rw [← r131_eq] at h
    exact kbody_sound (c := c131) r131_body (Eq.mpr (r131_lk call fuel base) (And.intro trivial (And.intro trivial (And.intro trivial (And.intro (r131_L0_ok call fuel base) (And.intro (r131_L2_ok call fuel base) (And.intro (And.intro trivial (And.intro (And.intro trivial (And.intro trivial trivial)) trivial)) (And.intro trivial (And.intro trivial (And.intro trivial (And.intro (r131_L4_ok call fuel base) (And.intro trivial (And.intro trivial trivial))))))))))))) h
  · simp at h
end Go.AM
namespace Go.AM
open Go Go.Proofs
noncomputable def r133 (call : CallF) (fuel base : Nat) (x0 : Value) (m : M) : Res2 :=
  (k1 (mbin E .geq 139 x0 (.int .u64 4294967296)) fun v4_1 => (kb v4_1 (k1 (mbin E .shr 139 x0 (.int .u64 32)) fun v6_2 => (k1 (mbin E .geq 139 v6_2 (.int .u64 65536)) fun v8_3 => (kb v8_3 (k1 (mbin E .shr 139 v6_2 (.int .u64 16)) fun v10_4 => (k1 (mbin E .add 3 (.int .i64 32) (.int .i64 16)) fun v12_5 => (k1 (mbin E .geq 139 v10_4 (.int .u64 256)) fun v14_6 => (kb v14_6 (k1 (mbin E .shr 139 v10_4 (.int .u64 8)) fun v16_7 => (k1 (mbin E .add 3 v12_5 (.int .i64 8)) fun v18_8 => (k1 (mconvert E.P 139 5 v16_7) fun v21_9 => (k1 (mindex E.P 9 (.string (ByteArray.mk #[0, 1, 2, 2, 3, 3, 3, 3, 4, 4, 4, 4, 4, 4, 4, 4, 5, 5, 5, 5, 5, 5, 5, 5, 5, 5, 5, 5, 5, 5, 5, 5, 6, 6, 6, 6, 6, 6, 6, 6, 6, 6, 6, 6, 6, 6, 6, 6, 6, 6, 6, 6, 6, 6, 6, 6, 6, 6, 6, 6, 6, 6, 6, 6, 7, 7, 7, 7, 7, 7, 7, 7, 7, 7, 7, 7, 7, 7, 7, 7, 7, 7, 7, 7, 7, 7, 7, 7, 7, 7, 7, 7, 7, 7, 7, 7, 7, 7, 7, 7, 7, 7, 7, 7, 7, 7, 7, 7, 7, 7, 7, 7, 7, 7, 7, 7, 7, 7, 7, 7, 7, 7, 7, 7, 7, 7, 7, 7, 8, 8, 8, 8, 8, 8, 8, 8, 8, 8, 8, 8, 8, 8, 8, 8, 8, 8, 8, 8, 8, 8, 8, 8, 8, 8, 8, 8, 8, 8, 8, 8, 8, 8, 8, 8, 8, 8, 8, 8, 8, 8, 8, 8, 8, 8, 8, 8, 8, 8, 8, 8, 8, 8, 8, 8, 8, 8, 8, 8, 8, 8, 8, 8, 8, 8, 8, 8, 8, 8, 8, 8, 8, 8, 8, 8, 8, 8, 8, 8, 8, 8, 8, 8, 8, 8, 8, 8, 8, 8, 8, 8, 8, 8, 8, 8, 8, 8, 8, 8, 8, 8, 8, 8, 8, 8, 8, 8, 8, 8, 8, 8, 8, 8, 8, 8, 8, 8, 8, 8, 8, 8, 8, 8, 8, 8, 8, 8])) v21_9) fun v22_10 => (k1 (mconvert E.P 5 3 v22_10) fun v23_11 => (k1 (mbin E .add 3 v18_8 v23_11) fun v24_12 => (fVal v24_12 fun v => some (.ret v, m)))))))) (k1 (mconvert E.P 139 5 v10_4) fun v21_13 => (k1 (mindex E.P 9 (.string (ByteArray.mk #[0, 1, 2, 2, 3, 3, 3, 3, 4, 4, 4, 4, 4, 4, 4, 4, 5, 5, 5, 5, 5, 5, 5, 5, 5, 5, 5, 5, 5, 5, 5, 5, 6, 6, 6, 6, 6, 6, 6, 6, 6, 6, 6, 6, 6, 6, 6, 6, 6, 6, 6, 6, 6, 6, 6, 6, 6, 6, 6, 6, 6, 6, 6, 6, 7, 7, 7, 7, 7, 7, 7, 7, 7, 7, 7, 7, 7, 7, 7, 7, 7, 7, 7, 7, 7, 7, 7, 7, 7, 7, 7, 7, 7, 7, 7, 7, 7, 7, 7, 7, 7, 7, 7, 7, 7, 7, 7, 7, 7, 7, 7, 7, 7, 7, 7, 7, 7, 7, 7, 7, 7, 7, 7, 7, 7, 7, 7, 7, 8, 8, 8, 8, 8, 8, 8, 8, 8, 8, 8, 8, 8, 8, 8, 8, 8, 8, 8, 8, 8, 8, 8, 8, 8, 8, 8, 8, 8, 8, 8, 8, 8, 8, 8, 8, 8, 8, 8, 8, 8, 8, 8, 8, 8, 8, 8, 8, 8, 8, 8, 8, 8, 8, 8, 8, 8, 8, 8, 8, 8, 8, 8, 8, 8, 8, 8, 8, 8, 8, 8, 8, 8, 8, 8, 8, 8, 8, 8, 8, 8, 8, 8, 8, 8, 8, 8, 8, 8, 8, 8, 8, 8, 8, 8, 8, 8, 8, 8, 8, 8, 8, 8, 8, 8, 8, 8, 8, 8, 8, 8, 8, 8, 8, 8, 8, 8, 8, 8, 8, 8, 8, 8, 8, 8, 8, 8, 8])) v21_13) fun v22_14 => (k1 (mconvert E.P 5 3 v22_14) fun v23_15 => (k1 (mbin E .add 3 v12_5 v23_15) fun v24_16 => (fVal v24_16 fun v => some (.ret v, m)))))))))) (k1 (mbin E .geq 139 v6_2 (.int .u64 256)) fun v14_17 => (kb v14_17 (k1 (mbin E .shr 139 v6_2 (.int .u64 8)) fun v16_18 => (k1 (mbin E .add 3 (.int .i64 32) (.int .i64 8)) fun v18_19 => (k1 (mconvert E.P 139 5 v16_18) fun v21_20 => (k1 (mindex E.P 9 (.string (ByteArray.mk #[0, 1, 2, 2, 3, 3, 3, 3, 4, 4, 4, 4, 4, 4, 4, 4, 5, 5, 5, 5, 5, 5, 5, 5, 5, 5, 5, 5, 5, 5, 5, 5, 6, 6, 6, 6, 6, 6, 6, 6, 6, 6, 6, 6, 6, 6, 6, 6, 6, 6, 6, 6, 6, 6, 6, 6, 6, 6, 6, 6, 6, 6, 6, 6, 7, 7, 7, 7, 7, 7, 7, 7, 7, 7, 7, 7, 7, 7, 7, 7, 7, 7, 7, 7, 7, 7, 7, 7, 7, 7, 7, 7, 7, 7, 7, 7, 7, 7, 7, 7, 7, 7, 7, 7, 7, 7, 7, 7, 7, 7, 7, 7, 7, 7, 7, 7, 7, 7, 7, 7, 7, 7, 7, 7, 7, 7, 7, 7, 8, 8, 8, 8, 8, 8, 8, 8, 8, 8, 8, 8, 8, 8, 8, 8, 8, 8, 8, 8, 8, 8, 8, 8, 8, 8, 8, 8, 8, 8, 8, 8, 8, 8, 8, 8, 8, 8, 8, 8, 8, 8, 8, 8, 8, 8, 8, 8, 8, 8, 8, 8, 8, 8, 8, 8, 8, 8, 8, 8, 8, 8, 8, 8, 8, 8, 8, 8, 8, 8, 8, 8, 8, 8, 8, 8, 8, 8, 8, 8, 8, 8, 8, 8, 8, 8, 8, 8, 8, 8, 8, 8, 8, 8, 8, 8, 8, 8, 8, 8, 8, 8, 8, 8, 8, 8, 8, 8, 8, 8, 8, 8, 8, 8, 8, 8, 8, 8, 8, 8, 8, 8, 8, 8, 8, 8, 8, 8])) v21_20) fun v22_21 => (k1 (mconvert E.P 5 3 v22_21) fun v23_22 => (k1 (mbin E .add 3 v18_19 v23_22) fun v24_23 => (fVal v24_23 fun v => some (.ret v, m)))))))) (k1 (mconvert E.P 139 5 v6_2) fun v21_24 => (k1 (mindex E.P 9 (.string (ByteArray.mk #[0, 1, 2, 2, 3, 3, 3, 3, 4, 4, 4, 4, 4, 4, 4, 4, 5, 5, 5, 5, 5, 5, 5, 5, 5, 5, 5, 5, 5, 5, 5, 5, 6, 6, 6, 6, 6, 6, 6, 6, 6, 6, 6, 6, 6, 6, 6, 6, 6, 6, 6, 6, 6, 6, 6, 6, 6, 6, 6, 6, 6, 6, 6, 6, 7, 7, 7, 7, 7, 7, 7, 7, 7, 7, 7, 7, 7, 7, 7, 7, 7, 7, 7, 7, 7, 7, 7, 7, 7, 7, 7, 7, 7, 7, 7, 7, 7, 7, 7, 7, 7, 7, 7, 7, 7, 7, 7, 7, 7, 7, 7, 7, 7, 7, 7, 7, 7, 7, 7, 7, 7, 7, 7, 7, 7, 7, 7, 7, 8, 8, 8, 8, 8, 8, 8, 8, 8, 8, 8, 8, 8, 8, 8, 8, 8, 8, 8, 8, 8, 8, 8, 8, 8, 8, 8, 8, 8, 8, 8, 8, 8, 8, 8, 8, 8, 8, 8, 8, 8, 8, 8, 8, 8, 8, 8, 8, 8, 8, 8, 8, 8, 8, 8, 8, 8, 8, 8, 8, 8, 8, 8, 8, 8, 8, 8, 8, 8, 8, 8, 8, 8, 8, 8, 8, 8, 8, 8, 8, 8, 8, 8, 8, 8, 8, 8, 8, 8, 8, 8, 8, 8, 8, 8, 8, 8, 8, 8, 8, 8, 8, 8, 8, 8, 8, 8, 8, 8, 8, 8, 8, 8, 8, 8, 8, 8, 8, 8, 8, 8, 8, 8, 8, 8, 8, 8, 8])) v21_24) fun v22_25 => (k1 (mconvert E.P 5 3 v22_25) fun v23_26 => (k1 (mbin E .add 3 (.int .i64 32) v23_26) fun v24_27 => (fVal v24_27 fun v => some (.ret v, m))))))))))) (k1 (mbin E .geq 139 x0 (.int .u64 65536)) fun v8_28 => (kb v8_28 (k1 (mbin E .shr 139 x0 (.int .u64 16)) fun v10_29 => (k1 (mbin E .add 3 (.int .i64 0) (.int .i64 16)) fun v12_30 => (k1 (mbin E .geq 139 v10_29 (.int .u64 256)) fun v14_31 => (kb v14_31 (k1 (mbin E .shr 139 v10_29 (.int .u64 8)) fun v16_32 => (k1 (mbin E .add 3 v12_30 (.int .i64 8)) fun v18_33 => (k1 (mconvert E.P 139 5 v16_32) fun v21_34 => (k1 (mindex E.P 9 (.string (ByteArray.mk #[0, 1, 2, 2, 3, 3, 3, 3, 4, 4, 4, 4, 4, 4, 4, 4, 5, 5, 5, 5, 5, 5, 5, 5, 5, 5, 5, 5, 5, 5, 5, 5, 6, 6, 6, 6, 6, 6, 6, 6, 6, 6, 6, 6, 6, 6, 6, 6, 6, 6, 6, 6, 6, 6, 6, 6, 6, 6, 6, 6, 6, 6, 6, 6, 7, 7, 7, 7, 7, 7, 7, 7, 7, 7, 7, 7, 7, 7, 7, 7, 7, 7, 7, 7, 7, 7, 7, 7, 7, 7, 7, 7, 7, 7, 7, 7, 7, 7, 7, 7, 7, 7, 7, 7, 7, 7, 7, 7, 7, 7, 7, 7, 7, 7, 7, 7, 7, 7, 7, 7, 7, 7, 7, 7, 7, 7, 7, 7, 8, 8, 8, 8, 8, 8, 8, 8, 8, 8, 8, 8, 8, 8, 8, 8, 8, 8, 8, 8, 8, 8, 8, 8, 8, 8, 8, 8, 8, 8, 8, 8, 8, 8, 8, 8, 8, 8, 8, 8, 8, 8, 8, 8, 8, 8, 8, 8, 8, 8, 8, 8, 8, 8, 8, 8, 8, 8, 8, 8, 8, 8, 8, 8, 8, 8, 8, 8, 8, 8, 8, 8, 8, 8, 8, 8, 8, 8, 8, 8, 8, 8, 8, 8, 8, 8, 8, 8, 8, 8, 8, 8, 8, 8, 8, 8, 8, 8, 8, 8, 8, 8, 8, 8, 8, 8, 8, 8, 8, 8, 8, 8, 8, 8, 8, 8, 8, 8, 8, 8, 8, 8, 8, 8, 8, 8, 8, 8])) v21_34) fun v22_35 => (k1 (mconvert E.P 5 3 v22_35) fun v23_36 => (k1 (mbin E .add 3 v18_33 v23_36) fun v24_37 => (fVal v24_37 fun v => some (.ret v, m)))))))) (k1 (mconvert E.P 139 5 v10_29) fun v21_38 => (k1 (mindex E.P 9 (.string (ByteArray.mk #[0, 1, 2, 2, 3, 3, 3, 3, 4, 4, 4, 4, 4, 4, 4, 4, 5, 5, 5, 5, 5, 5, 5, 5, 5, 5, 5, 5, 5, 5, 5, 5, 6, 6, 6, 6, 6, 6, 6, 6, 6, 6, 6, 6, 6, 6, 6, 6, 6, 6, 6, 6, 6, 6, 6, 6, 6, 6, 6, 6, 6, 6, 6, 6, 7, 7, 7, 7, 7, 7, 7, 7, 7, 7, 7, 7, 7, 7, 7, 7, 7, 7, 7, 7, 7, 7, 7, 7, 7, 7, 7, 7, 7, 7, 7, 7, 7, 7, 7, 7, 7, 7, 7, 7, 7, 7, 7, 7, 7, 7, 7, 7, 7, 7, 7, 7, 7, 7, 7, 7, 7, 7, 7, 7, 7, 7, 7, 7, 8, 8, 8, 8, 8, 8, 8, 8, 8, 8, 8, 8, 8, 8, 8, 8, 8, 8, 8, 8, 8, 8, 8, 8, 8, 8, 8, 8, 8, 8, 8, 8, 8, 8, 8, 8, 8, 8, 8, 8, 8, 8, 8, 8, 8, 8, 8, 8, 8, 8, 8, 8, 8, 8, 8, 8, 8, 8, 8, 8, 8, 8, 8, 8, 8, 8, 8, 8, 8, 8, 8, 8, 8, 8, 8, 8, 8, 8, 8, 8, 8, 8, 8, 8, 8, 8, 8, 8, 8, 8, 8, 8, 8, 8, 8, 8, 8, 8, 8, 8, 8, 8, 8, 8, 8, 8, 8, 8, 8, 8, 8, 8, 8, 8, 8, 8, 8, 8, 8, 8, 8, 8, 8, 8, 8, 8, 8, 8])) v21_38) fun v22_39 => (k1 (mconvert E.P 5 3 v22_39) fun v23_40 => (k1 (mbin E .add 3 v12_30 v23_40) fun v24_41 => (fVal v24_41 fun v => some (.ret v, m)))))))))) (k1 (mbin E .geq 139 x0 (.int .u64 256)) fun v14_42 => (kb v14_42 (k1 (mbin E .shr 139 x0 (.int .u64 8)) fun v16_43 => (k1 (mbin E .add 3 (.int .i64 0) (.int .i64 8)) fun v18_44 => (k1 (mconvert E.P 139 5 v16_43) fun v21_45 => (k1 (mindex E.P 9 (.string (ByteArray.mk #[0, 1, 2, 2, 3, 3, 3, 3, 4, 4, 4, 4, 4, 4, 4, 4, 5, 5, 5, 5, 5, 5, 5, 5, 5, 5, 5, 5, 5, 5, 5, 5, 6, 6, 6, 6, 6, 6, 6, 6, 6, 6, 6, 6, 6, 6, 6, 6, 6, 6, 6, 6, 6, 6, 6, 6, 6, 6, 6, 6, 6, 6, 6, 6, 7, 7, 7, 7, 7, 7, 7, 7, 7, 7, 7, 7, 7, 7, 7, 7, 7, 7, 7, 7, 7, 7, 7, 7, 7, 7, 7, 7, 7, 7, 7, 7, 7, 7, 7, 7, 7, 7, 7, 7, 7, 7, 7, 7, 7, 7, 7, 7, 7, 7, 7, 7, 7, 7, 7, 7, 7, 7, 7, 7, 7, 7, 7, 7, 8, 8, 8, 8, 8, 8, 8, 8, 8, 8, 8, 8, 8, 8, 8, 8, 8, 8, 8, 8, 8, 8, 8, 8, 8, 8, 8, 8, 8, 8, 8, 8, 8, 8, 8, 8, 8, 8, 8, 8, 8, 8, 8, 8, 8, 8, 8, 8, 8, 8, 8, 8, 8, 8, 8, 8, 8, 8, 8, 8, 8, 8, 8, 8, 8, 8, 8, 8, 8, 8, 8, 8, 8, 8, 8, 8, 8, 8, 8, 8, 8, 8, 8, 8, 8, 8, 8, 8, 8, 8, 8, 8, 8, 8, 8, 8, 8, 8, 8, 8, 8, 8, 8, 8, 8, 8, 8, 8, 8, 8, 8, 8, 8, 8, 8, 8, 8, 8, 8, 8, 8, 8, 8, 8, 8, 8, 8, 8])) v21_45) fun v22_46 => (k1 (mconvert E.P 5 3 v22_46) fun v23_47 => (k1 (mbin E .add 3 v18_44 v23_47) fun v24_48 => (fVal v24_48 fun v => some (.ret v, m)))))))) (k1 (mconvert E.P 139 5 x0) fun v21_49 => (k1 (mindex E.P 9 (.string (ByteArray.mk #[0, 1, 2, 2, 3, 3, 3, 3, 4, 4, 4, 4, 4, 4, 4, 4, 5, 5, 5, 5, 5, 5, 5, 5, 5, 5, 5, 5, 5, 5, 5, 5, 6, 6, 6, 6, 6, 6, 6, 6, 6, 6, 6, 6, 6, 6, 6, 6, 6, 6, 6, 6, 6, 6, 6, 6, 6, 6, 6, 6, 6, 6, 6, 6, 7, 7, 7, 7, 7, 7, 7, 7, 7, 7, 7, 7, 7, 7, 7, 7, 7, 7, 7, 7, 7, 7, 7, 7, 7, 7, 7, 7, 7, 7, 7, 7, 7, 7, 7, 7, 7, 7, 7, 7, 7, 7, 7, 7, 7, 7, 7, 7, 7, 7, 7, 7, 7, 7, 7, 7, 7, 7, 7, 7, 7, 7, 7, 7, 8, 8, 8, 8, 8, 8, 8, 8, 8, 8, 8, 8, 8, 8, 8, 8, 8, 8, 8, 8, 8, 8, 8, 8, 8, 8, 8, 8, 8, 8, 8, 8, 8, 8, 8, 8, 8, 8, 8, 8, 8, 8, 8, 8, 8, 8, 8, 8, 8, 8, 8, 8, 8, 8, 8, 8, 8, 8, 8, 8, 8, 8, 8, 8, 8, 8, 8, 8, 8, 8, 8, 8, 8, 8, 8, 8, 8, 8, 8, 8, 8, 8, 8, 8, 8, 8, 8, 8, 8, 8, 8, 8, 8, 8, 8, 8, 8, 8, 8, 8, 8, 8, 8, 8, 8, 8, 8, 8, 8, 8, 8, 8, 8, 8, 8, 8, 8, 8, 8, 8, 8, 8, 8, 8, 8, 8, 8, 8])) v21_49) fun v22_50 => (k1 (mconvert E.P 5 3 v22_50) fun v23_51 => (k1 (mbin E .add 3 (.int .i64 0) v23_51) fun v24_52 => (fVal v24_52 fun v => some (.ret v, m))))))))))))
def keep133 : Keep := { region := fun i => ([[0, 2], [0, 2, 4], [0], [0, 2], [0, 2, 8], [0, 2], [0, 2], [0, 2, 14], [0, 2], [0, 2], [2]] : List (List Nat))[i]?, exit := fun i => ([] : List (List Nat))[i]?, ret := some [2] }
noncomputable def lp133 (call : CallF) (fuel base : Nat) : Lp := lpsel []
noncomputable def c133 : Code := Try.f133.body.getD .skip
theorem r133_eq (call : CallF) (fuel base : Nat) (x0 : Value) (m : M) : kbody E call keep133 (lp133 call fuel base) base Try.f133 [x0] m = r133 call fuel base x0 m := by
  kernel_rfl
noncomputable def rf133 : RF := fun call fuel base args m => match args with
  | [x0] => r133 call fuel base x0 m
  | _ => none
theorem r133_lk (call : CallF) (fuel base : Nat) : LoopsOk E call (lp133 call fuel base) fuel base 0 c133 = (And True (And (And True (And (And True True) True)) (And (And True (And (And True True) True)) (And (And True (And (And True True) True)) (And True True))))) := by kernel_rfl
theorem r133_fn : E.P.funcs[133]? = some Try.f133 := by kernel_rfl
theorem r133_body : Try.f133.body = some c133 := by kernel_rfl
theorem rf133_ok : RFok E 133 rf133 := by
  refine ⟨Try.f133, r133_fn, fun call fuel base args m r _ h => ?_⟩
  unfold rf133 at h
  split at h
  · rw [← r133_eq] at h
    exact kbody_sound (c := c133) r133_body (Eq.mpr (r133_lk call fuel base) (And.intro trivial (And.intro (And.intro trivial (And.intro (And.intro trivial trivial) trivial)) (And.intro (And.intro trivial (And.intro (And.intro trivial trivial) trivial)) (And.intro (And.intro trivial (And.intro (And.intro trivial trivial) trivial)) (And.intro trivial trivial)))))) h
  · simp at h
end Go.AM
namespace Go.AM
open Go Go.Proofs
noncomputable def r134_L0 (call : CallF) (fuel base : Nat) (kr : M → Res2) (kx0 : M → Res2) (n : Nat) : Value → Value → Value → Value → M → Res2 :=
  Nat.rec (motive := fun _ => Value → Value → Value → Value → M → Res2) (fun _ _ _ _ _ => none)
    (fun _ ih x0 x2 x3 x8 m =>
      (k1 (mbin E .mul 3 (.int .i64 2) x8) fun v12_1 => (k1 (mbin E .add 3 v12_1 (.int .i64 1)) fun v13_2 => (k1 (mbin E .geq 3 v13_2 x2) fun v16_3 => (kb v16_3 (kx0 m) (k1 (mbin E .add 3 v13_2 (.int .i64 1)) fun v18_4 => (k1 (mbin E .lss 3 v18_4 x2) fun v20_5 => (kb v20_5 (k1 (mbin E .add 3 x3 v13_2) fun v25_6 => (k1 (mindexAddr E.P 33 x0 v25_6) fun v26_7 => (k1 (xload E.P m 3 v26_7) fun v27_8 => (k1 (mbin E .add 3 x3 v13_2) fun v31_9 => (k1 (mbin E .add 3 v31_9 (.int .i64 1)) fun v32_10 => (k1 (mindexAddr E.P 33 x0 v32_10) fun v33_11 => (k1 (xload E.P m 3 v33_11) fun v34_12 => (kc (kB m (call m.length 129 [v27_8, v34_12] m)) (fun v35_13 m => (kb v35_13 (k1 (mbin E .add 3 v13_2 (.int .i64 1)) fun v38_14 => (k1 (mbin E .add 3 x3 x8) fun v42_15 => (k1 (mindexAddr E.P 33 x0 v42_15) fun v43_16 => (k1 (xload E.P m 3 v43_16) fun v44_17 => (k1 (mbin E .add 3 x3 v38_14) fun v48_18 => (k1 (mindexAddr E.P 33 x0 v48_18) fun v49_19 => (k1 (xload E.P m 3 v49_19) fun v50_20 => (kc (kB m (call m.length 129 [v44_17, v50_20] m)) (fun v51_21 m => (k1 (mun .not v51_21) fun v52_22 => (kb v52_22 (kr m) (k1 (mbin E .add 3 x3 x8) fun v56_23 => (k1 (mbin E .add 3 x3 v38_14) fun v60_24 => (k1 (mbin E .add 3 x3 v38_14) fun v64_25 => (k1 (mindexAddr E.P 33 x0 v64_25) fun v65_26 => (k1 (xload E.P m 3 v65_26) fun v66_27 => (k1 (mbin E .add 3 x3 x8) fun v70_28 => (k1 (mindexAddr E.P 33 x0 v70_28) fun v71_29 => (k1 (xload E.P m 3 v71_29) fun v72_30 => (k1 (mindexAddr E.P 33 x0 v56_23) fun v73_31 => (ks (xstore E.P base m 3 v73_31 v66_27) fun m => (k1 (mindexAddr E.P 33 x0 v60_24) fun v74_32 => (ks (xstore E.P base m 3 v74_32 v72_30) fun m => (ih x0 x2 x3 v38_14 m)))))))))))))))) (fun _ _ => none))))))))) (k1 (mbin E .add 3 x3 x8) fun v42_33 => (k1 (mindexAddr E.P 33 x0 v42_33) fun v43_34 => (k1 (xload E.P m 3 v43_34) fun v44_35 => (k1 (mbin E .add 3 x3 v13_2) fun v48_36 => (k1 (mindexAddr E.P 33 x0 v48_36) fun v49_37 => (k1 (xload E.P m 3 v49_37) fun v50_38 => (kc (kB m (call m.length 129 [v44_35, v50_38] m)) (fun v51_39 m => (k1 (mun .not v51_39) fun v52_40 => (kb v52_40 (kr m) (k1 (mbin E .add 3 x3 x8) fun v56_41 => (k1 (mbin E .add 3 x3 v13_2) fun v60_42 => (k1 (mbin E .add 3 x3 v13_2) fun v64_43 => (k1 (mindexAddr E.P 33 x0 v64_43) fun v65_44 => (k1 (xload E.P m 3 v65_44) fun v66_45 => (k1 (mbin E .add 3 x3 x8) fun v70_46 => (k1 (mindexAddr E.P 33 x0 v70_46) fun v71_47 => (k1 (xload E.P m 3 v71_47) fun v72_48 => (k1 (mindexAddr E.P 33 x0 v56_41) fun v73_49 => (ks (xstore E.P base m 3 v73_49 v66_45) fun m => (k1 (mindexAddr E.P 33 x0 v60_42) fun v74_50 => (ks (xstore E.P base m 3 v74_50 v72_48) fun m => (ih x0 x2 x3 v13_2 m)))))))))))))))) (fun _ _ => none)))))))))) (fun _ _ => none))))))))) (k1 (mbin E .add 3 x3 x8) fun v42_51 => (k1 (mindexAddr E.P 33 x0 v42_51) fun v43_52 => (k1 (xload E.P m 3 v43_52) fun v44_53 => (k1 (mbin E .add 3 x3 v13_2) fun v48_54 => (k1 (mindexAddr E.P 33 x0 v48_54) fun v49_55 => (k1 (xload E.P m 3 v49_55) fun v50_56 => (kc (kB m (call m.length 129 [v44_53, v50_56] m)) (fun v51_57 m => (k1 (mun .not v51_57) fun v52_58 => (kb v52_58 (kr m) (k1 (mbin E .add 3 x3 x8) fun v56_59 => (k1 (mbin E .add 3 x3 v13_2) fun v60_60 => (k1 (mbin E .add 3 x3 v13_2) fun v64_61 => (k1 (mindexAddr E.P 33 x0 v64_61) fun v65_62 => (k1 (xload E.P m 3 v65_62) fun v66_63 => (k1 (mbin E .add 3 x3 x8) fun v70_64 => (k1 (mindexAddr E.P 33 x0 v70_64) fun v71_65 => (k1 (xload E.P m 3 v71_65) fun v72_66 => (k1 (mindexAddr E.P 33 x0 v56_59) fun v73_67 => (ks (xstore E.P base m 3 v73_67 v66_63) fun m => (k1 (mindexAddr E.P 33 x0 v60_60) fun v74_68 => (ks (xstore E.P base m 3 v74_68 v72_66) fun m => (ih x0 x2 x3 v13_2 m)))))))))))))))) (fun _ _ => none)))))))))))))))) n
noncomputable def r134 (call : CallF) (fuel base : Nat) (x0 : Value) (x1 : Value) (x2 : Value) (x3 : Value) (m : M) : Res2 :=
  (r134_L0 call fuel base (fun m => (some (.ret (.tuple #[]), m))) (fun m => (some (.ret (.tuple #[]), m))) fuel x0 x2 x3 x1 m)
def keep134 : Keep := { region := fun i => ([[0, 2, 3, 8], [0, 2, 3, 8, 9], [0, 2, 3, 8, 9, 16], [0, 2, 3, 8, 9, 36], [0, 2, 3, 8, 9], [0, 2, 3, 8, 9, 52], [0, 2, 3, 9], [0, 2, 3, 8]] : List (List Nat))[i]?, exit := fun i => ([[], [0, 2, 3, 8]] : List (List Nat))[i]?, ret := some [] }
noncomputable def r134_L0_R (call : CallF) (fuel base n : Nat) (vs : List Value) (m : M) (K : KT) : Res2 := match vs with
  | [x0, x2, x3, x8] => r134_L0 call fuel base (fun m => K .ret { n := 76, l := [] } m) (fun m => K (.exit 0) { n := 76, l := [] } m) n x0 x2 x3 x8 m
  | _ => none
noncomputable def lp134 (call : CallF) (fuel base : Nat) : Lp := lpsel [(0, fun T m K => kslots 76 [0, 2, 3, 8] T fun vs => r134_L0_R call fuel base fuel vs m K)]
noncomputable def c134 : Code := Try.f134.body.getD .skip
theorem r134_L0_lk (call : CallF) (fuel base : Nat) : LoopsOk E call (lp134 call fuel base) fuel base 0 (loopB (blockB (seqR c134))) = (And True (And (And True (And True True)) (And (And True (And True True)) (And (And True (And True True)) (And True True))))) := by kernel_rfl
theorem r134_L0_ok (call : CallF) (fuel base : Nat) : LpOk E call (lp134 call fuel base) fuel base 0 (loopB (blockB (seqR c134))) := by
  refine loop_ok (kp := keep134) (hb := Eq.mpr (r134_L0_lk call fuel base) (And.intro trivial (And.intro (And.intro trivial (And.intro trivial trivial)) (And.intro (And.intro trivial (And.intro trivial trivial)) (And.intro (And.intro trivial (And.intro trivial trivial)) (And.intro trivial trivial)))))) 76 [0, 2, 3, 8] (fun n vs m K => r134_L0_R call fuel base n vs m K) ?_ ?_ (fun _ _ _ => rfl)
  · intro vs m K
    unfold r134_L0_R
    split <;> rfl
  · intro n vs m K hl
    match vs, hl with
    | [x0, x2, x3, x8], _ => show _ = _; kernel_rfl
theorem r134_eq (call : CallF) (fuel base : Nat) (x0 : Value) (x1 : Value) (x2 : Value) (x3 : Value) (m : M) : kbody E call keep134 (lp134 call fuel base) base Try.f134 [x0, x1, x2, x3] m = r134 call fuel base x0 x1 x2 x3 m := by
  kernel_rfl
noncomputable def rf134 : RF := fun call fuel base args m => match args with
  | [x0, x1, x2, x3] => r134 call fuel base x0 x1 x2 x3 m
  | _ => none
theorem r134_lk (call : CallF) (fuel base : Nat) : LoopsOk E call (lp134 call fuel base) fuel base 0 c134 = (And True (LpOk E call (lp134 call fuel base) fuel base 0 (loopB (blockB (seqR c134))))) := by kernel_rfl
theorem r134_fn : E.P.funcs[134]? = some Try.f134 := by kernel_rfl
theorem r134_body : Try.f134.body = some c134 := by kernel_rfl
theorem rf134_ok : RFok E 134 rf134 := by
  refine ⟨Try.f134, r134_fn, fun call fuel base args m r _ h => ?_⟩
  unfold rf134 at h
  split at h
  · rw [← r134_eq] at h
    exact kbody_sound (c := c134) r134_body (Eq.mpr (r134_lk call fuel base) (And.intro trivial (r134_L0_ok call fuel base))) h
  · simp at h
end Go.AM
namespace Go.AM
open Go Go.Proofs
noncomputable def r135 (call : CallF) (fuel base : Nat) (x0 : Value) (m : M) : Res2 :=
  (k1 (mconvert E.P 3 125 x0) fun v4_1 => (kc (call base 120 [v4_1] m) (fun v5_2 m => (k1 (mbin E .shl 125 (.int .u64 1) v5_2) fun v6_3 => (fVal v6_3 fun v => some (.ret v, m)))) (fun v m => some (.pan v, m))))
def keep135 : Keep := { region := fun i => ([[0], [2]] : List (List Nat))[i]?, exit := fun i => ([] : List (List Nat))[i]?, ret := some [2] }
noncomputable def lp135 (call : CallF) (fuel base : Nat) : Lp := lpsel []
noncomputable def c135 : Code := Try.f135.body.getD .skip
theorem r135_eq (call : CallF) (fuel base : Nat) (x0 : Value) (m : M) : kbody E call keep135 (lp135 call fuel base) base Try.f135 [x0] m = r135 call fuel base x0 m := by
  kernel_rfl
noncomputable def rf135 : RF := fun call fuel base args m => match args with
  | [x0] => r135 call fuel base x0 m
  | _ => none
theorem r135_lk (call : CallF) (fuel base : Nat) : LoopsOk E call (lp135 call fuel base) fuel base 0 c135 = (And True (And True True)) := by kernel_rfl
theorem r135_fn : E.P.funcs[135]? = some Try.f135 := by kernel_rfl
theorem r135_body : Try.f135.body = some c135 := by kernel_rfl
theorem rf135_ok : RFok E 135 rf135 := by
  refine ⟨Try.f135, r135_fn, fun call fuel base args m r _ h => ?_⟩
  unfold rf135 at h
  split at h
  · rw [← r135_eq] at h
    exact kbody_sound (c := c135) r135_body (Eq.mpr (r135_lk call fuel base) (And.intro trivial (And.intro trivial trivial))) h
  · simp at h
end Go.AM
namespace Go.AM
open Go Go.Proofs
noncomputable def r136 (call : CallF) (fuel base : Nat) (x0 : Value) (m : M) : Res2 :=
  (k1 (mnil x0) fun v4_1 => (k1 (xload E.P m 140 v4_1) fun v5_2 => (k1 (mnil x0) fun v7_3 => (k1 (xload E.P m 140 v7_3) fun v8_4 => (k1 (mbin E .shl 140 v8_4 (.int .u64 13)) fun v9_5 => (k1 (mbin E .xor 140 v5_2 v9_5) fun v10_6 => (k1 (mnil x0) fun v11_7 => (ks (xstore E.P base m 140 v11_7 v10_6) fun m => (k1 (mnil x0) fun v13_8 => (k1 (xload E.P m 140 v13_8) fun v14_9 => (k1 (mnil x0) fun v16_10 => (k1 (xload E.P m 140 v16_10) fun v17_11 => (k1 (mbin E .shr 140 v17_11 (.int .u64 7)) fun v18_12 => (k1 (mbin E .xor 140 v14_9 v18_12) fun v19_13 => (k1 (mnil x0) fun v20_14 => (ks (xstore E.P base m 140 v20_14 v19_13) fun m => (k1 (mnil x0) fun v22_15 => (k1 (xload E.P m 140 v22_15) fun v23_16 => (k1 (mnil x0) fun v25_17 => (k1 (xload E.P m 140 v25_17) fun v26_18 => (k1 (mbin E .shl 140 v26_18 (.int .u64 17)) fun v27_19 => (k1 (mbin E .xor 140 v23_16 v27_19) fun v28_20 => (k1 (mnil x0) fun v29_21 => (ks (xstore E.P base m 140 v29_21 v28_20) fun m => (k1 (mnil x0) fun v31_22 => (k1 (xload E.P m 140 v31_22) fun v32_23 => (fVal v32_23 fun v => some (.ret v, m))))))))))))))))))))))))))))
def keep136 : Keep := { region := fun i => ([[0], [0], [0], [0], [2]] : List (List Nat))[i]?, exit := fun i => ([] : List (List Nat))[i]?, ret := some [2] }
noncomputable def lp136 (call : CallF) (fuel base : Nat) : Lp := lpsel []
noncomputable def c136 : Code := Try.f136.body.getD .skip
theorem r136_eq (call : CallF) (fuel base : Nat) (x0 : Value) (m : M) : kbody E call keep136 (lp136 call fuel base) base Try.f136 [x0] m = r136 call fuel base x0 m := by
  kernel_rfl
noncomputable def rf136 : RF := fun call fuel base args m => match args with
  | [x0] => r136 call fuel base x0 m
  | _ => none
theorem r136_lk (call : CallF) (fuel base : Nat) : LoopsOk E call (lp136 call fuel base) fuel base 0 c136 = (And True (And True (And True (And True (And True True))))) := by kernel_rfl
theorem r136_fn : E.P.funcs[136]? = some Try.f136 := by kernel_rfl
theorem r136_body : Try.f136.body = some c136 := by kernel_rfl
theorem rf136_ok : RFok E 136 rf136 := by
  refine ⟨Try.f136, r136_fn, fun call fuel base args m r _ h => ?_⟩
  unfold rf136 at h
  split at h
  · rw [← r136_eq] at h
    exact kbody_sound (c := c136) r136_body (Eq.mpr (r136_lk call fuel base) (And.intro trivial (And.intro trivial (And.intro trivial (And.intro trivial (And.intro trivial trivial)))))) h
  · simp at h
end Go.AM
namespace Go.AM
open Go Go.Proofs
noncomputable def r137 (call : CallF) (fuel base : Nat) (x0 : Value) (x1 : Value) (x2 : Value) (m : M) : Res2 :=
  (k1 (mbin E .sub 3 x1 (.int .i64 1)) fun v9_1 => (k1 (mbin E .add 3 x1 (.int .i64 1)) fun v12_2 => (kc (call base 138 [x0, v9_1, x1, v12_2, x2] m) (fun v14_3 m => (fVal v14_3 fun v => some (.ret v, m))) (fun v m => some (.pan v, m)))))
def keep137 : Keep := { region := fun i => ([[0, 1, 2], [6]] : List (List Nat))[i]?, exit := fun i => ([] : List (List Nat))[i]?, ret := some [6] }
noncomputable def lp137 (call : CallF) (fuel base : Nat) : Lp := lpsel []
noncomputable def c137 : Code := Try.f137.body.getD .skip
theorem r137_eq (call : CallF) (fuel base : Nat) (x0 : Value) (x1 : Value) (x2 : Value) (m : M) : kbody E call keep137 (lp137 call fuel base) base Try.f137 [x0, x1, x2] m = r137 call fuel base x0 x1 x2 m := by
  kernel_rfl
noncomputable def rf137 : RF := fun call fuel base args m => match args with
  | [x0, x1, x2] => r137 call fuel base x0 x1 x2 m
  | _ => none
theorem r137_lk (call : CallF) (fuel base : Nat) : LoopsOk E call (lp137 call fuel base) fuel base 0 c137 = (And True (And True True)) := by kernel_rfl
theorem r137_fn : E.P.funcs[137]? = some Try.f137 := by kernel_rfl
theorem r137_body : Try.f137.body = some c137 := by kernel_rfl
theorem rf137_ok : RFok E 137 rf137 := by
  refine ⟨Try.f137, r137_fn, fun call fuel base args m r _ h => ?_⟩
  unfold rf137 at h
  split at h
  · rw [← r137_eq] at h
    exact kbody_sound (c := c137) r137_body (Eq.mpr (r137_lk call fuel base) (And.intro trivial (And.intro trivial trivial))) h
  · simp at h
end Go.AM
namespace Go.AM
open Go Go.Proofs
noncomputable def r138 (call : CallF) (fuel base : Nat) (x0 : Value) (x1 : Value) (x2 : Value) (x3 : Value) (x4 : Value) (m : M) : Res2 :=
  (kc (call base 139 [x0, x1, x2, x4] m) (fun v16_1 m => (k1 (mextract 0 v16_1) fun v17_2 => (k1 (mextract 1 v16_1) fun v18_3 => (kc (call base 139 [x0, v18_3, x3, x4] m) (fun v24_4 m => (k1 (mextract 0 v24_4) fun v25_5 => (k1 (mextract 1 v24_4) fun v26_6 => (kc (call base 139 [x0, v17_2, v25_5, x4] m) (fun v32_7 m => (k1 (mextract 0 v32_7) fun v33_8 => (k1 (mextract 1 v32_7) fun v34_9 => (fVal v34_9 fun v => some (.ret v, m))))) (fun v m => some (.pan v, m)))))) (fun v m => some (.pan v, m)))))) (fun v m => some (.pan v, m)))
def keep138 : Keep := { region := fun i => ([[0, 1, 2, 3, 4], [0, 1, 2, 3, 4], [0, 1, 2, 4], [2], [10]] : List (List Nat))[i]?, exit := fun i => ([] : List (List Nat))[i]?, ret := some [10] }
noncomputable def lp138 (call : CallF) (fuel base : Nat) : Lp := lpsel []
noncomputable def c138 : Code := Try.f138.body.getD .skip
theorem r138_eq (call : CallF) (fuel base : Nat) (x0 : Value) (x1 : Value) (x2 : Value) (x3 : Value) (x4 : Value) (m : M) : kbody E call keep138 (lp138 call fuel base) base Try.f138 [x0, x1, x2, x3, x4] m = r138 call fuel base x0 x1 x2 x3 x4 m := by
  kernel_rfl
noncomputable def rf138 : RF := fun call fuel base args m => match args with
  | [x0, x1, x2, x3, x4] => r138 call fuel base x0 x1 x2 x3 x4 m
  | _ => none
theorem r138_lk (call : CallF) (fuel base : Nat) : LoopsOk E call (lp138 call fuel base) fuel base 0 c138 = (And True (And True (And True (And True (And True True))))) := by kernel_rfl
theorem r138_fn : E.P.funcs[138]? = some Try.f138 := by kernel_rfl
theorem r138_body : Try.f138.body = some c138 := by kernel_rfl
theorem rf138_ok : RFok E 138 rf138 := by
  refine ⟨Try.f138, r138_fn, fun call fuel base args m r _ h => ?_⟩
  unfold rf138 at h
  split at h
  · rw [← r138_eq] at h
    exact kbody_sound (c := c138) r138_body (Eq.mpr (r138_lk call fuel base) (And.intro trivial (And.intro trivial (And.intro trivial (And.intro trivial (And.intro trivial trivial)))))) h
  · simp at h
end Go.AM
namespace Go.AM
open Go Go.Proofs
noncomputable def r139 (call : CallF) (fuel base : Nat) (x0 : Value) (x1 : Value) (x2 : Value) (x3 : Value) (m : M) : Res2 :=
  (k1 (mindexAddr E.P 33 x0 x2) fun v12_1 => (k1 (xload E.P m 3 v12_1) fun v13_2 => (k1 (mindexAddr E.P 33 x0 x1) fun v16_3 => (k1 (xload E.P m 3 v16_3) fun v17_4 => (kc (kB m (call m.length 129 [v13_2, v17_4] m)) (fun v18_5 m => (kb v18_5 (k1 (mnil x3) fun v20_6 => (k1 (xload E.P m 3 v20_6) fun v21_7 => (k1 (mbin E .add 3 v21_7 (.int .i64 1)) fun v22_8 => (k1 (mnil x3) fun v23_9 => (ks (xstore E.P base m 3 v23_9 v22_8) fun m => (some (.ret (.tuple #[x2, x1]), m))))))) (some (.ret (.tuple #[x1, x2]), m)))) (fun _ _ => none))))))
def keep139 : Keep := { region := fun i => ([[0, 1, 2, 3], [1, 2, 3, 18], [1, 2], [8, 9], [8, 9]] : List (List Nat))[i]?, exit := fun i => ([] : List (List Nat))[i]?, ret := some [8, 9] }
noncomputable def lp139 (call : CallF) (fuel base : Nat) : Lp := lpsel []
noncomputable def c139 : Code := Try.f139.body.getD .skip
theorem r139_eq (call : CallF) (fuel base : Nat) (x0 : Value) (x1 : Value) (x2 : Value) (x3 : Value) (m : M) : kbody E call keep139 (lp139 call fuel base) base Try.f139 [x0, x1, x2, x3] m = r139 call fuel base x0 x1 x2 x3 m := by
  kernel_rfl
noncomputable def rf139 : RF := fun call fuel base args m => match args with
  | [x0, x1, x2, x3] => r139 call fuel base x0 x1 x2 x3 m
  | _ => none
theorem r139_lk (call : CallF) (fuel base : Nat) : LoopsOk E call (lp139 call fuel base) fuel base 0 c139 = (And True (And (And True (And (And True (And True True)) True)) (And True True))) := by kernel_rfl
theorem r139_fn : E.P.funcs[139]? = some Try.f139 := by kernel_rfl
theorem r139_body : Try.f139.body = some c139 := by kernel_rfl
theorem rf139_ok : RFok E 139 rf139 := by
  refine ⟨Try.f139, r139_fn, fun call fuel base args m r _ h => ?_⟩
  unfold rf139 at h
  split at h
  · rw [← r139_eq] at h
    exact kbody_sound (c := c139) r139_body (Eq.mpr (r139_lk call fuel base) (And.intro trivial (And.intro (And.intro trivial (And.intro (And.intro trivial (And.intro trivial trivial)) trivial)) (And.intro trivial trivial)))) h
  · simp at h
end Go.AM
namespace Go.AM
open Go Go.Proofs
noncomputable def tab : List (Nat × RF) := [(14, rf14), (15, rf15), (16, rf16), (24, rf24), (28, rf28), (32, rf32), (41, rf41), (43, rf43), (46, rf46), (47, rf47), (48, rf48), (59, rf59), (60, rf60), (61, rf61), (62, rf62), (68, rf68), (69, rf69), (74, rf74), (77, rf77), (78, rf78), (80, rf80), (81, rf81), (82, rf82), (83, rf83), (84, rf84), (91, rf91), (92, rf92), (93, rf93), (94, rf94), (95, rf95), (96, rf96), (97, rf97), (98, rf98), (99, rf99), (104, rf104), (106, rf106), (107, rf107), (109, rf109), (110, rf110), (111, rf111), (112, rf112), (113, rf113), (114, rf114), (115, rf115), (116, rf116), (117, rf117), (118, rf118), (119, rf119), (120, rf120), (121, rf121), (122, rf122), (123, rf123), (124, rf124), (125, rf125), (126, rf126), (127, rf127), (128, rf128), (129, rf129), (130, rf130), (131, rf131), (133, rf133), (134, rf134), (135, rf135), (136, rf136), (137, rf137), (138, rf138), (139, rf139)]
theorem tab_ok : ∀ p ∈ tab, RFok E p.1 p.2 := by
  unfold tab
  simp only [List.mem_cons, forall_eq_or_imp, List.not_mem_nil, false_imp_iff, implies_true, and_true]
  exact ⟨rf14_ok, rf15_ok, rf16_ok, rf24_ok, rf28_ok, rf32_ok, rf41_ok, rf43_ok, rf46_ok, rf47_ok, rf48_ok, rf59_ok, rf60_ok, rf61_ok, rf62_ok, rf68_ok, rf69_ok, rf74_ok, rf77_ok, rf78_ok, rf80_ok, rf81_ok, rf82_ok, rf83_ok, rf84_ok, rf91_ok, rf92_ok, rf93_ok, rf94_ok, rf95_ok, rf96_ok, rf97_ok, rf98_ok, rf99_ok, rf104_ok, rf106_ok, rf107_ok, rf109_ok, rf110_ok, rf111_ok, rf112_ok, rf113_ok, rf114_ok, rf115_ok, rf116_ok, rf117_ok, rf118_ok, rf119_ok, rf120_ok, rf121_ok, rf122_ok, rf123_ok, rf124_ok, rf125_ok, rf126_ok, rf127_ok, rf128_ok, rf129_ok, rf130_ok, rf131_ok, rf133_ok, rf134_ok, rf135_ok, rf136_ok, rf137_ok, rf138_ok, rf139_ok⟩
noncomputable def rc (n : Nat) : CallF := rcall E.pure tab n
end Go.AM
namespace Go.AM
open Go Go.Proofs
abbrev nilS : Value := .slice none 0 0
def k1n (o : Option Value) (k : Value → Res2) : Res2 := match o with
  | some r => k r
  | none => none
theorem k1_fun : k1 = k1n := by
  funext o k
  cases o with
  | none => rfl
  | some r => exact fVal_eq r k
theorem fVal_fun : (@fVal Res2 : Value → (Value → Res2) → Res2) = fun v k => k v := by
  funext v k
  exact fVal_eq v k
noncomputable def vcalln (P : Program) (base : Nat) (m : M) (b : Builtin) (tys : List TypeId) (vs : List Value) : Option (Value × M) := match b with
  | .len => match tys, vs with
    | t :: _, [x] => match mlen P t x with
      | some r => some (r, m)
      | none => none
    | _, _ => none
  | .min => match vs with
    | x :: xs => match mfold mmin2 x xs with
      | some r => some (r, m)
      | none => none
    | _ => none
  | .max => match vs with
    | x :: xs => match mfold mmax2 x xs with
      | some r => some (r, m)
      | none => none
    | _ => none
  | b => xbuiltin P base m b tys vs
theorem vcall_fun : vcall = vcalln := by
  funext P base m b tys vs
  unfold vcall vcalln
  cases b <;> first
    | rfl
    | (simp only [xbuiltin, obuiltin, fVal_eq]; done)
    | (simp only [xbuiltin, obuiltin, fVal_eq]; rfl)
def vi (n : Int) : Value := .int .i64 n
def rowz (z : Nat) (ex : Bool) (cs : List Value) : Row := { esz := z, ex := ex, ro := false, cells := cs }
abbrev sl (p N : Nat) : Value := .slice (some ⟨p, 0, none⟩) N N
abbrev pt (p off : Nat) : Value := .pointer (some ⟨p, off, none⟩)
/-- A slice that grows: nil while it has nothing, else a row of its own. -/
def Grow (z b : Nat) (m : M) (v : Value) (cs : List Value) (n : Nat) : Prop :=
  (n = 0 ∧ v = .slice none 0 0 ∧ cs = []) ∨ ∃ r, 1 ≤ n ∧ b ≤ r ∧ v = sl r n ∧ m[r]? = some (rowz z false cs) ∧ cs.length = n * z
def Keeps (n : Nat) (m m' : M) : Prop := m.length ≤ m'.length ∧ ∀ i, i < n → m'[i]? = m[i]?
theorem Keeps.refl (n : Nat) (m : M) : Keeps n m m := ⟨Nat.le_refl _, fun _ _ => rfl⟩
theorem Keeps.trans {n : Nat} {a b c : M} (h : Keeps n a b) (k : Keeps n b c) : Keeps n a c := ⟨Nat.le_trans h.1 k.1, fun i hi => (k.2 i hi).trans (h.2 i hi)⟩
theorem Keeps.mono {n k : Nat} {a b : M} (h : Keeps n a b) (hk : k ≤ n) : Keeps k a b := ⟨h.1, fun i hi => h.2 i (by omega)⟩
theorem Keeps.push (n : Nat) (m : M) (h : n ≤ m.length) (x : List Row) : Keeps n m (m ++ x) := ⟨by simp, fun i hi => List.getElem?_append_left (by omega)⟩
theorem Keeps.set (n : Nat) (m : M) (r : Nat) (row : Row) (h : n ≤ r) : Keeps n m (m.set r row) := ⟨by simp, fun i hi => List.getElem?_set_ne (by omega)⟩
abbrev wr (n : Int) : Int := IntKind.i64.wrap n
def cellR (cs : List Value) : Row := { esz := 0, ex := true, ro := false, cells := cs }
theorem wr_id {n : Int} (h0 : -4611686018427387904 ≤ n) (h1 : n ≤ 4611686018427387904) : wr n = n := by
  unfold wr IntKind.wrap
  simp [IntKind.bits, IntKind.signed]
  omega
theorem wr_succ (j : Nat) (h : j ≤ 1000000) : wr ((j : Int) + 1) = ((j + 1 : Nat) : Int) := (wr_id (by omega) (by omega)).trans (by omega)
theorem lss_nat (i j : Nat) : mbin E .lss 3 (vi i) (vi j) = some (.bool (decide (i < j))) := by
  have e : mbin E .lss 3 (vi i) (vi j) = some (.bool (decide ((i : Int) < j))) := rfl
  rw [e]
  congr 2
  exact decide_eq_decide.2 (by omega)
theorem splice_one (cs : List Value) (off : Nat) (v : Value) (h : off < cs.length) : splice cs off [v] = cs.set off v := by
  unfold splice
  rw [List.set_eq_take_append_cons_drop, if_pos h]
  simp
theorem mwrite_one {base : Nat} {m : M} {p off : Nat} {v : Value} {row : Row} (hb : base ≤ p) (hr : m[p]? = some row) (hro : row.ro = false) (ho : off < row.cells.length) (hv : v.oneCell' = true) :
    mwrite base m p off [v] = some (m.set p { row with cells := row.cells.set off v }) := by
  unfold mwrite
  rw [if_neg (by omega), hr]
  simp only [hro, Bool.false_eq_true, if_false, List.length_cons, List.length_nil, List.all_cons, List.all_nil, hv, Bool.and_self, if_true]
  rw [if_pos (by omega), splice_one _ _ _ ho, fList_eq, fList_eq]
theorem add1 (j : Nat) (h : j ≤ 1000000) : mbin E .add 3 (vi j) (.int .i64 1) = some (vi ((j + 1 : Nat) : Int)) := by
  have e : mbin E .add 3 (vi j) (.int .i64 1) = some (vi (wr ((j : Int) + 1))) := rfl
  rw [e, wr_succ j h]
theorem kB_same (m : M) (v : Value) : kB m (some (.ret v, m)) = some (.ret v, m) := by
  simp only [kB, List.drop_length, List.append_nil, fList_eq]
theorem k2s (a : Value) (m : M) (k : Value → M → Res2) : k2 (some (a, m)) k = k a m := Eq.trans rfl rfl
theorem k1s (a : Value) (k : Value → Res2) : k1n (some a) k = k a := Eq.trans rfl rfl
theorem kss (m : M) (k : M → Res2) : ks (some m) k = k m := Eq.trans rfl rfl
theorem kcs (a : Value) (m : M) (k p : Value → M → Res2) : kc (some (.ret a, m)) k p = k a m := Eq.trans rfl rfl
theorem kbt (t f : Res2) : kb (.bool true) t f = t := Eq.trans rfl rfl
theorem kbf (t f : Res2) : kb (.bool false) t f = f := Eq.trans rfl rfl
theorem k0s (a : Value) (k : Value → Res2) : k0 (some a) k = k a := Eq.trans rfl rfl
theorem box_cell {m : M} {q : Nat} {cs : List Value} (h : m[q]? = some (cellR cs)) (j : Nat) (v : Value) (hv : cs[j]? = some v) : mcell m q j = some v := by
  unfold mcell
  rw [h]
  exact hv
theorem bxa4 (m : M) (a0 a1 a2 a3 : Value) : xbox m (.agg #[a0, a1, a2, a3]) = some (pt m.length 0, m ++ [cellR [a0, a1, a2, a3]]) := by
  have e : xbox m (.agg #[a0, a1, a2, a3]) = xlen m fun k => xpush m (cellR [a0, a1, a2, a3]) fun m' => some (pt k 0, m') := by kernel_rfl
  rw [e, xlen_eq, fNat_eq, xpush_eq, fList_eq]
theorem rem3 (a b : Int) (h : b ≠ 0) : mbin E .rem 3 (vi a) (vi b) = some (vi (a.tmod b)) := by
  have e : mbin E .rem 3 (vi a) (vi b) = if b = 0 then none else some (vi (a.tmod b)) := by kernel_rfl
  rw [e, if_neg h]
theorem quo3 (a b : Int) (h : b ≠ 0) : mbin E .quo 3 (vi a) (vi b) = some (vi (wr (a.tdiv b))) := by
  have e : mbin E .quo 3 (vi a) (vi b) = if b = 0 then none else some (vi (wr (a.tdiv b))) := by kernel_rfl
  rw [e, if_neg h]
theorem add3 (a b : Int) : mbin E .add 3 (vi a) (vi b) = some (vi (wr (a + b))) := by kernel_rfl
theorem sub3 (a b : Int) : mbin E .sub 3 (vi a) (vi b) = some (vi (wr (a - b))) := by kernel_rfl
theorem mul3 (a b : Int) : mbin E .mul 3 (vi a) (vi b) = some (vi (wr (a * b))) := by kernel_rfl
theorem lss3 (a b : Int) : mbin E .lss 3 (vi a) (vi b) = some (.bool (decide (a < b))) := by kernel_rfl
theorem leq3 (a b : Int) : mbin E .leq 3 (vi a) (vi b) = some (.bool (decide (a ≤ b))) := by kernel_rfl
theorem gtr3 (a b : Int) : mbin E .gtr 3 (vi a) (vi b) = some (.bool (decide (a > b))) := by kernel_rfl
theorem geq3 (a b : Int) : mbin E .geq 3 (vi a) (vi b) = some (.bool (decide (a ≥ b))) := by kernel_rfl
theorem eql3 (a b : Int) : mbin E .eql 3 (vi a) (vi b) = some (.bool (decide (a = b))) := by
  have e : mbin E .eql 3 (vi a) (vi b) = some (.bool (a == b)) := by kernel_rfl
  rw [e]; congr 2
theorem neq3 (a b : Int) : mbin E .neq 3 (vi a) (vi b) = some (.bool (!decide (a = b))) := by
  have e : mbin E .neq 3 (vi a) (vi b) = some (.bool (!(a == b))) := by kernel_rfl
  rw [e]; congr 2
theorem eql26 (a b : Int) : mbin E .eql 26 (vi a) (vi b) = some (.bool (decide (a = b))) := by
  have e : mbin E .eql 26 (vi a) (vi b) = some (.bool (a == b)) := by kernel_rfl
  rw [e]; congr 2
theorem neq26 (a b : Int) : mbin E .neq 26 (vi a) (vi b) = some (.bool (!decide (a = b))) := by
  have e : mbin E .neq 26 (vi a) (vi b) = some (.bool (!(a == b))) := by kernel_rfl
  rw [e]; congr 2
theorem not4 (b : Bool) : mun .not (.bool b) = some (.bool !b) := by kernel_rfl
theorem ld3 (m : M) (r off : Nat) : xload E.P m 3 (pt r off) = mcell m r off := by
  have e : xload E.P m 3 (pt r off) = xcell m r off := by kernel_rfl
  rw [e, xcell_eq]
theorem st3 (base : Nat) (m : M) (p off : Nat) (x : Int) : xstore E.P base m 3 (pt p off) (vi x) = mwrite base m p off [(vi x)] := by
  have e : xstore E.P base m 3 (pt p off) (vi x) = xwrite base m p off [(vi x)] := by kernel_rfl
  rw [e, xwrite_eq]
theorem ld33 (m : M) (r off : Nat) : xload E.P m 33 (pt r off) = mcell m r off := by
  have e : xload E.P m 33 (pt r off) = xcell m r off := by kernel_rfl
  rw [e, xcell_eq]
theorem st33 (base : Nat) (m : M) (p off q l c : Nat) : xstore E.P base m 33 (pt p off) (.slice (some ⟨q, 0, none⟩) l c) = mwrite base m p off [.slice (some ⟨q, 0, none⟩) l c] := by
  have e : xstore E.P base m 33 (pt p off) (.slice (some ⟨q, 0, none⟩) l c) = xwrite base m p off [.slice (some ⟨q, 0, none⟩) l c] := by kernel_rfl
  rw [e, xwrite_eq]
theorem al45 (m : M) : xalloc E.P m 45 = some (pt m.length 0, m ++ [cellR [.int .i64 0, .int .i64 0, .int .i64 0, .int .i64 0]]) := by
  have e : xalloc E.P m 45 = xlen m fun n => xpush m (cellR [.int .i64 0, .int .i64 0, .int .i64 0, .int .i64 0]) fun m' => some (pt n 0, m') := by kernel_rfl
  rw [e, xlen_eq, fNat_eq, xpush_eq, fList_eq]
theorem ld45 {m : M} {r : Nat} {row : Row} {off : Nat} (h : m[r]? = some row) (hl : off + 4 ≤ row.cells.length) : xload E.P m 45 (pt r off) = some (.agg ((row.cells.drop off).take 4).toArray) := by
  have e : xload E.P m 45 (pt r off) = (xread m r off 4).map fun cs => .agg cs.toArray := by kernel_rfl
  rw [e, xread_eq]
  unfold mread
  rw [h]
  simp only
  rw [if_pos hl]
  rfl
theorem ldb45 {m : M} {r : Nat} {a0 a1 a2 a3 : Value} (h : m[r]? = some (cellR [a0, a1, a2, a3])) : xload E.P m 45 (pt r 0) = some (.agg #[a0, a1, a2, a3]) := ld45 h (by simp [cellR])
theorem st45 {base : Nat} {m : M} {p : Nat} (hb : base ≤ p) {a0 a1 a2 a3 b0 b1 b2 b3 : Value} (h : m[p]? = some (cellR [b0, b1, b2, b3])) (hone : ([a0, a1, a2, a3] : List Value).all (·.oneCell') = true) : xstore E.P base m 45 (pt p 0) (.agg #[a0, a1, a2, a3]) = some (m.set p (cellR [a0, a1, a2, a3])) := by
  have e : xstore E.P base m 45 (pt p 0) (.agg #[a0, a1, a2, a3]) = xwrite base m p 0 [a0, a1, a2, a3] := by kernel_rfl
  rw [e, xwrite_eq]
  unfold mwrite
  rw [if_neg (by omega), h]
  simp only [cellR, splice, fList_eq, Bool.false_eq_true, if_false, hone, if_true]
  simp
theorem ff45_0 (p o : Nat) : mfieldAddr E.P 45 (pt p o) 0 = some (pt p (o + 0)) := by kernel_rfl
theorem ff45_1 (p o : Nat) : mfieldAddr E.P 45 (pt p o) 1 = some (pt p (o + 1)) := by kernel_rfl
theorem ff45_2 (p o : Nat) : mfieldAddr E.P 45 (pt p o) 2 = some (pt p (o + 2)) := by kernel_rfl
theorem ff45_3 (p o : Nat) : mfieldAddr E.P 45 (pt p o) 3 = some (pt p (o + 3)) := by kernel_rfl
theorem ld69 {m : M} {r : Nat} {row : Row} {off : Nat} (h : m[r]? = some row) (hl : off + 3 ≤ row.cells.length) : xload E.P m 69 (pt r off) = some (.agg ((row.cells.drop off).take 3).toArray) := by
  have e : xload E.P m 69 (pt r off) = (xread m r off 3).map fun cs => .agg cs.toArray := by kernel_rfl
  rw [e, xread_eq]
  unfold mread
  rw [h]
  simp only
  rw [if_pos hl]
  rfl
theorem al109 (m : M) : xalloc E.P m 109 = some (pt m.length 0, m ++ [cellR [.int .i64 0, .int .i64 0, .int .i64 0, .int .i64 0, .int .i64 0, .int .i64 0, .int .i64 0, .int .i64 0]]) := by
  have e : xalloc E.P m 109 = xlen m fun n => xpush m (cellR [.int .i64 0, .int .i64 0, .int .i64 0, .int .i64 0, .int .i64 0, .int .i64 0, .int .i64 0, .int .i64 0]) fun m' => some (pt n 0, m') := by kernel_rfl
  rw [e, xlen_eq, fNat_eq, xpush_eq, fList_eq]
theorem ld109 {m : M} {r : Nat} {row : Row} {off : Nat} (h : m[r]? = some row) (hl : off + 8 ≤ row.cells.length) : xload E.P m 109 (pt r off) = some (.agg ((row.cells.drop off).take 8).toArray) := by
  have e : xload E.P m 109 (pt r off) = (xread m r off 8).map fun cs => .agg cs.toArray := by kernel_rfl
  rw [e, xread_eq]
  unfold mread
  rw [h]
  simp only
  rw [if_pos hl]
  rfl
theorem ldb109 {m : M} {r : Nat} {a0 a1 a2 a3 a4 a5 a6 a7 : Value} (h : m[r]? = some (cellR [a0, a1, a2, a3, a4, a5, a6, a7])) : xload E.P m 109 (pt r 0) = some (.agg #[a0, a1, a2, a3, a4, a5, a6, a7]) := ld109 h (by simp [cellR])
theorem ml109 {m : M} {r : Nat} {a0 a1 a2 a3 a4 a5 a6 a7 : Value} (h : m[r]? = some (cellR [a0, a1, a2, a3, a4, a5, a6, a7])) : mload E.P m 109 (pt r 0) = some (.agg #[a0, a1, a2, a3, a4, a5, a6, a7]) := by
  have e : mload E.P m 109 (pt r 0) = (mread m r 0 8).map fun cs => .agg cs.toArray := by kernel_rfl
  rw [e]
  unfold mread
  rw [h]
  rfl
theorem st109 {base : Nat} {m : M} {p : Nat} (hb : base ≤ p) {a0 a1 a2 a3 a4 a5 a6 a7 b0 b1 b2 b3 b4 b5 b6 b7 : Value} (h : m[p]? = some (cellR [b0, b1, b2, b3, b4, b5, b6, b7])) (hone : ([a0, a1, a2, a3, a4, a5, a6, a7] : List Value).all (·.oneCell') = true) : xstore E.P base m 109 (pt p 0) (.agg #[a0, a1, a2, a3, a4, a5, a6, a7]) = some (m.set p (cellR [a0, a1, a2, a3, a4, a5, a6, a7])) := by
  have e : xstore E.P base m 109 (pt p 0) (.agg #[a0, a1, a2, a3, a4, a5, a6, a7]) = xwrite base m p 0 [a0, a1, a2, a3, a4, a5, a6, a7] := by kernel_rfl
  rw [e, xwrite_eq]
  unfold mwrite
  rw [if_neg (by omega), h]
  simp only [cellR, splice, fList_eq, Bool.false_eq_true, if_false, hone, if_true]
  simp
theorem ff109_0 (p o : Nat) : mfieldAddr E.P 109 (pt p o) 0 = some (pt p (o + 0)) := by kernel_rfl
theorem ff109_1 (p o : Nat) : mfieldAddr E.P 109 (pt p o) 1 = some (pt p (o + 4)) := by kernel_rfl
theorem ff109_2 (p o : Nat) : mfieldAddr E.P 109 (pt p o) 2 = some (pt p (o + 5)) := by kernel_rfl
theorem ff109_3 (p o : Nat) : mfieldAddr E.P 109 (pt p o) 3 = some (pt p (o + 6)) := by kernel_rfl
theorem ff109_4 (p o : Nat) : mfieldAddr E.P 109 (pt p o) 4 = some (pt p (o + 7)) := by kernel_rfl
theorem ix33 (p l c j : Nat) (h : j < l) : mindexAddr E.P 33 (.slice (some ⟨p, 0, none⟩) l c) (vi j) = some (pt p j) := by
  have e : mindexAddr E.P 33 (.slice (some ⟨p, 0, none⟩) l c) (vi j) = if 0 ≤ (j : Int) ∧ (j : Int) < l then some (.pointer (some ⟨p, 0 + ((j : Int)).toNat * 1, none⟩)) else none := by kernel_rfl
  rw [e, if_pos (by omega)]
  simp
theorem len33 (base : Nat) (m : M) (o l c : Nat) : vcalln E.P base m .len [33] [.slice (some ⟨o, 0, none⟩) l c] = some (vi l, m) := by kernel_rfl
theorem len33n (base : Nat) (m : M) : vcalln E.P base m .len [33] [nilS] = some (vi 0, m) := by kernel_rfl
theorem ix23 (p l c j : Nat) (h : j < l) : mindexAddr E.P 23 (.slice (some ⟨p, 0, none⟩) l c) (vi j) = some (pt p j) := by
  have e : mindexAddr E.P 23 (.slice (some ⟨p, 0, none⟩) l c) (vi j) = if 0 ≤ (j : Int) ∧ (j : Int) < l then some (.pointer (some ⟨p, 0 + ((j : Int)).toNat * 1, none⟩)) else none := by kernel_rfl
  rw [e, if_pos (by omega)]
  simp
theorem len23n (base : Nat) (m : M) : vcalln E.P base m .len [23] [nilS] = some (vi 0, m) := by kernel_rfl
theorem ix22 (p l c j : Nat) (h : j < l) : mindexAddr E.P 22 (.slice (some ⟨p, 0, none⟩) l c) (vi j) = some (pt p (j * 4)) := by
  have e : mindexAddr E.P 22 (.slice (some ⟨p, 0, none⟩) l c) (vi j) = if 0 ≤ (j : Int) ∧ (j : Int) < l then some (.pointer (some ⟨p, 0 + ((j : Int)).toNat * 4, none⟩)) else none := by kernel_rfl
  rw [e, if_pos (by omega)]
  simp
theorem len22n (base : Nat) (m : M) : vcalln E.P base m .len [22] [nilS] = some (vi 0, m) := by kernel_rfl
theorem len30n (base : Nat) (m : M) : vcalln E.P base m .len [30] [nilS] = some (vi 0, m) := by kernel_rfl
theorem ix74 (p l c j : Nat) (h : j < l) : mindexAddr E.P 74 (.slice (some ⟨p, 0, none⟩) l c) (vi j) = some (pt p (j * 8)) := by
  have e : mindexAddr E.P 74 (.slice (some ⟨p, 0, none⟩) l c) (vi j) = if 0 ≤ (j : Int) ∧ (j : Int) < l then some (.pointer (some ⟨p, 0 + ((j : Int)).toNat * 8, none⟩)) else none := by kernel_rfl
  rw [e, if_pos (by omega)]
  simp
theorem len74n (base : Nat) (m : M) : vcalln E.P base m .len [74] [nilS] = some (vi 0, m) := by kernel_rfl
end Go.AM
