import Derived.KernelRfl
import Derived.Laws.BytesArg
import Derived.Laws.StructEq
import Derived.Test.YtcgohiiihhplgaaDoorRows
import Derived.WalkKit
import Derived.Test.YtcgohiiihhplgaaDoorAmB
import Derived.Test.YtcgohiiihhplgaaDoorAmModel
import Derived.Test.YtcgohiiihhplgaaDoorAmOps6
import Derived.Test.YtcgohiiihhplgaaDoorAmCode
import Derived.Test.YtcgohiiihhplgaaDoorAmK2
import Derived.Test.YtcgohiiihhplgaaDoorAmEq
import Derived.Test.YtcgohiiihhplgaaDoorRBase
set_option linter.unusedVariables false
set_option linter.unusedSimpArgs false
set_option linter.unusedSectionVars false
namespace Go.AM
open Go Go.Proofs
noncomputable def r41_L2 (call : CallF) (fuel base : Nat) (kr : Value → Value → M → Res2) (kx2 : Value → Value → Value → Value → Value → M → Res2) (n : Nat) : Value → Value → Value → Value → Value → Value → Value → Value → Value → M → Res2 :=
  Nat.rec (motive := fun _ => Value → Value → Value → Value → Value → Value → Value → Value → Value → M → Res2) (fun _ _ _ _ _ _ _ _ _ _ => none)
    (fun _ ih x2 x4 x5 x6 x38 x39 x40 x52 x53 m =>
      (k1 (mbin E .lss 3 x53 x52) fun v54_39 => (kb v54_39 (k1 (mindex E.P 9 x6 x53) fun v58_40 => (k1 (mbin E .eql 5 v58_40 (.int .u8 35)) fun v61_41 => (kb v61_41 (k1 (mfieldAddr E.P 60 x4 2) fun v62_42 => (k1 (xload E.P m 58 v62_42) fun v63_43 => (kc (kB m (call m.length 69 [x53, x5] m)) (fun v66_44 m => (k1 (mbin E .or 58 v63_43 v66_44) fun v67_45 => (k1 (mfieldAddr E.P 60 x4 2) fun v68_46 => (ks (xstore E.P base m 58 v68_46 v67_45) fun m => (k1 (mbin E .add 3 x53 (.int .i64 1)) fun v78_47 => (ih x2 x4 x5 x6 x38 x39 x40 x52 v78_47 m)))))) (fun _ _ => none)))) (k1 (mbin E .eql 5 v58_40 (.int .u8 46)) fun v70_48 => (kb v70_48 (k1 (mfieldAddr E.P 60 x4 3) fun v71_49 => (k1 (xload E.P m 58 v71_49) fun v72_50 => (kc (kB m (call m.length 69 [x53, x5] m)) (fun v75_51 m => (k1 (mbin E .or 58 v72_50 v75_51) fun v76_52 => (k1 (mfieldAddr E.P 60 x4 3) fun v77_53 => (ks (xstore E.P base m 58 v77_53 v76_52) fun m => (k1 (mbin E .add 3 x53 (.int .i64 1)) fun v78_54 => (ih x2 x4 x5 x6 x38 x39 x40 x52 v78_54 m)))))) (fun _ _ => none)))) (k1 (mbuild E.P 60 []) fun v59_55 => (ks (xstore E.P base m 60 x2 v59_55) fun m => (kr x2 (.bool false) m)))))))) (kx2 x2 x4 x38 x39 x40 m)))) n
noncomputable def r41_L0 (call : CallF) (fuel base : Nat) (kr : Value → Value → M → Res2) (kx0 : Value → Value → M → Res2) (n : Nat) : Value → Value → Value → Value → Value → M → Res2 :=
  Nat.rec (motive := fun _ => Value → Value → Value → Value → Value → M → Res2) (fun _ _ _ _ _ _ => none)
    (fun _ ih x2 x4 x38 x39 x40 m =>
      (k1 (mbin E .lss 3 x40 x39) fun v41_29 => (kb v41_29 (k1 (mindexAddr E.P 22 x38 x40) fun v43_30 => (k1 (xload E.P m 9 v43_30) fun v44_31 => (k2 (vcall E.P base m .len [9] [v44_31]) fun v46_32 m => (k1 (mfieldAddr E.P 60 x4 0) fun v47_33 => (k1 (xload E.P m 3 v47_33) fun v48_34 => (k1 (mbin E .neq 3 v46_32 v48_34) fun v49_35 => (kb v49_35 (k1 (mbuild E.P 60 []) fun v50_36 => (ks (xstore E.P base m 60 x2 v50_36) fun m => (kr x2 (.bool false) m))) (k1 (mfieldAddr E.P 60 x4 0) fun v51_37 => (k1 (xload E.P m 3 v51_37) fun v52_38 => (r41_L2 call fuel base (fun y2_56 y3_57 m => (kr y2_56 y3_57 m)) (fun y2_58 y4_59 y38_60 y39_61 y40_62 m => (k1 (mbin E .add 3 y40_62 (.int .i64 1)) fun v79_63 => (ih y2_58 y4_59 y38_60 y39_61 v79_63 m))) fuel x2 x4 x40 v44_31 x38 x39 x40 v52_38 (.int .i64 0) m)))))))))) (kx0 x2 x4 m)))) n
noncomputable def r41 (call : CallF) (fuel base : Nat) (x0 : Value) (m : M) : Res2 :=
  (k2 (xalloc E.P m 60) fun v2_1 m => (k2 (vcall E.P base m .len [22] [x0]) fun v9_2 m => (k1 (mbin E .lss 3 v9_2 (.int .i64 1)) fun v10_3 => (kb v10_3 (k1 (mbuild E.P 60 []) fun v30_4 => (ks (xstore E.P base m 60 v2_1 v30_4) fun m => (k0 (mload E.P m 60 v2_1) fun r_5 => (some (.ret (.tuple #[r_5, (.bool false)]), m))))) (k2 (vcall E.P base m .len [22] [x0]) fun v13_6 m => (k1 (mbin E .gtr 3 v13_6 (.int .i64 8)) fun v14_7 => (kb v14_7 (k1 (mbuild E.P 60 []) fun v30_8 => (ks (xstore E.P base m 60 v2_1 v30_8) fun m => (k0 (mload E.P m 60 v2_1) fun r_9 => (some (.ret (.tuple #[r_9, (.bool false)]), m))))) (k1 (mindexAddr E.P 22 x0 (.int .i64 0)) fun v18_10 => (k1 (xload E.P m 9 v18_10) fun v19_11 => (k2 (vcall E.P base m .len [9] [v19_11]) fun v20_12 m => (k1 (mbin E .lss 3 v20_12 (.int .i64 1)) fun v21_13 => (kb v21_13 (k1 (mbuild E.P 60 []) fun v30_14 => (ks (xstore E.P base m 60 v2_1 v30_14) fun m => (k0 (mload E.P m 60 v2_1) fun r_15 => (some (.ret (.tuple #[r_15, (.bool false)]), m))))) (k1 (mindexAddr E.P 22 x0 (.int .i64 0)) fun v25_16 => (k1 (xload E.P m 9 v25_16) fun v26_17 => (k2 (vcall E.P base m .len [9] [v26_17]) fun v27_18 m => (k1 (mbin E .gtr 3 v27_18 (.int .i64 8)) fun v28_19 => (kb v28_19 (k1 (mbuild E.P 60 []) fun v30_20 => (ks (xstore E.P base m 60 v2_1 v30_20) fun m => (k0 (mload E.P m 60 v2_1) fun r_21 => (some (.ret (.tuple #[r_21, (.bool false)]), m))))) (k1 (mindexAddr E.P 22 x0 (.int .i64 0)) fun v32_22 => (k1 (xload E.P m 9 v32_22) fun v33_23 => (k2 (vcall E.P base m .len [9] [v33_23]) fun v34_24 m => (k2 (vcall E.P base m .len [22] [x0]) fun v36_25 m => (k1 (mbuild E.P 60 [(0, v34_24), (1, v36_25)]) fun v37_26 => (k2 (xalloc E.P m 60) fun v4_27 m => (ks (xstore E.P base m 60 v4_27 v37_26) fun m => (k2 (vcall E.P base m .len [22] [x0]) fun v39_28 m => (r41_L0 call fuel base (fun y2_64 y3_65 m => (k0 (mload E.P m 60 y2_64) fun r_66 => (some (.ret (.tuple #[r_66, y3_65]), m)))) (fun y2_67 y4_68 m => (k1 (xload E.P m 60 y4_68) fun v80_69 => (ks (xstore E.P base m 60 y2_67 v80_69) fun m => (k0 (mload E.P m 60 y2_67) fun r_70 => (some (.ret (.tuple #[r_70, (.bool true)]), m)))))) fuel v2_1 v4_27 x0 v39_28 (.int .i64 0) m))))))))))))))))))))))))))
def keep41 : Keep := { region := fun i => ([[0, 2], [0, 2, 29], [2, 3], [0, 2, 4], [2, 4, 38, 39, 40], [2, 4, 38, 39, 40, 41], [2, 4, 5, 6, 38, 39, 40], [2, 4, 5, 6, 38, 39, 40, 49], [2, 3], [2, 4, 5, 6, 38, 39, 40, 52, 53], [2, 4, 5, 6, 38, 39, 40, 52, 53, 54], [2, 4, 5, 6, 7, 38, 39, 40, 52, 53], [2, 4, 5, 6, 7, 38, 39, 40, 52, 53, 58], [2, 3], [2, 4, 5, 6, 7, 38, 39, 40, 52, 53, 58, 60], [2, 4, 5, 6, 38, 39, 40, 52, 53], [2, 4, 5, 6, 7, 38, 39, 40, 52, 53, 69], [2, 4, 5, 6, 38, 39, 40, 52, 53], [2, 4, 5, 6, 38, 39, 40, 52, 53], [2, 4, 38, 39, 40], [2, 3]] : List (List Nat))[i]?, exit := fun i => ([[2, 4], [2, 4, 38, 39, 40], [2, 4, 38, 39, 40], [2, 4, 5, 6, 38, 39, 40, 52, 53], [2, 4, 5, 6, 38, 39, 40, 52, 53]] : List (List Nat))[i]?, ret := some [2, 3] }
noncomputable def r41_L2_R (call : CallF) (fuel base n : Nat) (vs : List Value) (m : M) (K : KT) : Res2 := match vs with
  | [x2, x4, x5, x6, x38, x39, x40, x52, x53] => r41_L2 call fuel base (fun y2 y3 m => K .ret { n := 81, l := [(2, y2), (3, y3)] } m) (fun y2 y4 y38 y39 y40 m => K (.exit 2) { n := 81, l := [(2, y2), (4, y4), (38, y38), (39, y39), (40, y40)] } m) n x2 x4 x5 x6 x38 x39 x40 x52 x53 m
  | _ => none
noncomputable def r41_L0_R (call : CallF) (fuel base n : Nat) (vs : List Value) (m : M) (K : KT) : Res2 := match vs with
  | [x2, x4, x38, x39, x40] => r41_L0 call fuel base (fun y2 y3 m => K .ret { n := 81, l := [(2, y2), (3, y3)] } m) (fun y2 y4 m => K (.exit 0) { n := 81, l := [(2, y2), (4, y4)] } m) n x2 x4 x38 x39 x40 m
  | _ => none
noncomputable def lp41 (call : CallF) (fuel base : Nat) : Lp := lpsel [(2, fun T m K => kslots 81 [2, 4, 5, 6, 38, 39, 40, 52, 53] T fun vs => r41_L2_R call fuel base fuel vs m K), (0, fun T m K => kslots 81 [2, 4, 38, 39, 40] T fun vs => r41_L0_R call fuel base fuel vs m K)]
noncomputable def c41 : Code := Tryd.f41.body.getD .skip
theorem r41_L2_lk (call : CallF) (fuel base : Nat) : LoopsOk E call (lp41 call fuel base) fuel base 2 (loopB (blockB (seqR (seqR (seqR (blockB (seqL (seqR (seqR (loopB (blockB (seqR (seqL (seqR (seqR (seqR c41)))))))))))))))) = (And True (And (And True True) (And (And True (And True (And True (And True (And True (And True (And True True))))))) True))) := by kernel_rfl
theorem r41_L2_ok (call : CallF) (fuel base : Nat) : LpOk E call (lp41 call fuel base) fuel base 2 (loopB (blockB (seqR (seqR (seqR (blockB (seqL (seqR (seqR (loopB (blockB (seqR (seqL (seqR (seqR (seqR c41)))))))))))))))) := by
  refine loop_ok (kp := keep41) (hb := Eq.mpr (r41_L2_lk call fuel base) (And.intro trivial (And.intro (And.intro trivial trivial) (And.intro (And.intro trivial (And.intro trivial (And.intro trivial (And.intro trivial (And.intro trivial (And.intro trivial (And.intro trivial trivial))))))) trivial)))) 81 [2, 4, 5, 6, 38, 39, 40, 52, 53] (fun n vs m K => r41_L2_R call fuel base n vs m K) ?_ ?_ (fun _ _ _ => rfl)
  · intro vs m K
    unfold r41_L2_R
    split <;> rfl
  · intro n vs m K hl
    match vs, hl with
    | [x2, x4, x5, x6, x38, x39, x40, x52, x53], _ => show _ = _; kernel_rfl
theorem r41_L0_lk (call : CallF) (fuel base : Nat) : LoopsOk E call (lp41 call fuel base) fuel base 0 (loopB (blockB (seqR (seqL (seqR (seqR (seqR c41))))))) = (And True (And (And True True) (And (And True (And (And True (And (And True True) True)) (And True (LpOk E call (lp41 call fuel base) fuel base 2 (loopB (blockB (seqR (seqR (seqR (blockB (seqL (seqR (seqR (loopB (blockB (seqR (seqL (seqR (seqR (seqR c41)))))))))))))))))))) True))) := by kernel_rfl
theorem r41_L0_ok (call : CallF) (fuel base : Nat) : LpOk E call (lp41 call fuel base) fuel base 0 (loopB (blockB (seqR (seqL (seqR (seqR (seqR c41))))))) := by
  refine loop_ok (kp := keep41) (hb := Eq.mpr (r41_L0_lk call fuel base) (And.intro trivial (And.intro (And.intro trivial trivial) (And.intro (And.intro trivial (And.intro (And.intro trivial (And.intro (And.intro trivial trivial) trivial)) (And.intro trivial (r41_L2_ok call fuel base)))) trivial)))) 81 [2, 4, 38, 39, 40] (fun n vs m K => r41_L0_R call fuel base n vs m K) ?_ ?_ (fun _ _ _ => rfl)
  · intro vs m K
    unfold r41_L0_R
    split <;> rfl
  · intro n vs m K hl
    match vs, hl with
    | [x2, x4, x38, x39, x40], _ => show _ = _; kernel_rfl
theorem r41_eq (call : CallF) (fuel base : Nat) (x0 : Value) (m : M) : kbody E call keep41 (lp41 call fuel base) base Tryd.f41 [x0] m = r41 call fuel base x0 m := by
  kernel_rfl
noncomputable def rf41 : RF := fun call fuel base args m => match args with
  | [x0] => r41 call fuel base x0 m
  | _ => none
theorem r41_lk (call : CallF) (fuel base : Nat) : LoopsOk E call (lp41 call fuel base) fuel base 0 c41 = (And True (And (And True (And (And True True) True)) (And True (And (And True (LpOk E call (lp41 call fuel base) fuel base 0 (loopB (blockB (seqR (seqL (seqR (seqR (seqR c41))))))))) (And True True))))) := by kernel_rfl
theorem r41_fn : E.P.funcs[41]? = some Tryd.f41 := by kernel_rfl
theorem r41_body : Tryd.f41.body = some c41 := by kernel_rfl
theorem rf41_ok : RFok E 41 rf41 := by
  refine ⟨Tryd.f41, r41_fn, fun call fuel base args m r _ h => ?_⟩
  unfold rf41 at h
  split at h
  · rw [← r41_eq] at h
    exact kbody_sound (c := c41) r41_body (Eq.mpr (r41_lk call fuel base) (And.intro trivial (And.intro (And.intro trivial (And.intro (And.intro trivial trivial) trivial)) (And.intro trivial (And.intro (And.intro trivial (r41_L0_ok call fuel base)) (And.intro trivial trivial)))))) h
  · simp at h
end Go.AM
