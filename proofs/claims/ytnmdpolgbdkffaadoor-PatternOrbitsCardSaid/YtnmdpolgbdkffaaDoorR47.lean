import Derived.KernelRfl
import Derived.Laws.BytesArg
import Derived.Laws.StructEq
import Derived.Test.YtnmdpolgbdkffaaDoorRows
import Derived.WalkKit
import Derived.Test.YtnmdpolgbdkffaaDoorAmB
import Derived.Test.YtnmdpolgbdkffaaDoorAmModel
import Derived.Test.YtnmdpolgbdkffaaDoorAmOps6
import Derived.Test.YtnmdpolgbdkffaaDoorAmCode
import Derived.Test.YtnmdpolgbdkffaaDoorAmK2
import Derived.Test.YtnmdpolgbdkffaaDoorAmEq
import Derived.Test.YtnmdpolgbdkffaaDoorRBase
set_option linter.unusedVariables false
set_option linter.unusedSimpArgs false
set_option linter.unusedSectionVars false
namespace Go.AM
open Go Go.Proofs
noncomputable def r47 (call : CallF) (fuel base : Nat) (x0 : Value) (m : M) : Res2 :=
  (k2 (xalloc E.P m 39) fun v2_1 m => (k1 (mbin E .eql 9 x0 (.string (ByteArray.mk #[112, 50]))) fun v5_2 => (kb v5_2 (k2 (xbuildSlice E.P m 37 4 [(0, (.int .i64 2)), (1, (.int .i64 2)), (2, (.int .i64 2)), (3, (.int .i64 2))]) fun v6_3 m => (k1 (mbuild E.P 39 [(0, v6_3)]) fun v7_4 => (ks (xstore E.P base m 39 v2_1 v7_4) fun m => (k0 (mload E.P m 39 v2_1) fun r_5 => (fVal r_5 fun v => some (.ret v, m)))))) (k1 (mbin E .eql 9 x0 (.string (ByteArray.mk #[112, 109]))) fun v9_6 => (kb v9_6 (k1 (mbuild E.P 39 [(2, (.int .i64 2))]) fun v10_7 => (ks (xstore E.P base m 39 v2_1 v10_7) fun m => (k0 (mload E.P m 39 v2_1) fun r_8 => (fVal r_8 fun v => some (.ret v, m))))) (k1 (mbin E .eql 9 x0 (.string (ByteArray.mk #[112, 103]))) fun v12_9 => (kb v12_9 (k1 (mbuild E.P 39 [(3, (.int .i64 2))]) fun v13_10 => (ks (xstore E.P base m 39 v2_1 v13_10) fun m => (k0 (mload E.P m 39 v2_1) fun r_11 => (fVal r_11 fun v => some (.ret v, m))))) (k1 (mbin E .eql 9 x0 (.string (ByteArray.mk #[99, 109]))) fun v15_12 => (kb v15_12 (k1 (mbuild E.P 39 [(2, (.int .i64 1)), (3, (.int .i64 1))]) fun v16_13 => (ks (xstore E.P base m 39 v2_1 v16_13) fun m => (k0 (mload E.P m 39 v2_1) fun r_14 => (fVal r_14 fun v => some (.ret v, m))))) (k1 (mbin E .eql 9 x0 (.string (ByteArray.mk #[112, 109, 109]))) fun v18_15 => (kb v18_15 (k2 (xbuildSlice E.P m 37 4 [(0, (.int .i64 2)), (1, (.int .i64 2)), (2, (.int .i64 2)), (3, (.int .i64 2))]) fun v19_16 m => (k1 (mbuild E.P 39 [(1, v19_16), (2, (.int .i64 1))]) fun v20_17 => (ks (xstore E.P base m 39 v2_1 v20_17) fun m => (k0 (mload E.P m 39 v2_1) fun r_18 => (fVal r_18 fun v => some (.ret v, m)))))) (k1 (mbin E .eql 9 x0 (.string (ByteArray.mk #[112, 109, 103]))) fun v22_19 => (kb v22_19 (k2 (xbuildSlice E.P m 37 2 [(0, (.int .i64 2)), (1, (.int .i64 2))]) fun v23_20 m => (k1 (mbuild E.P 39 [(0, v23_20), (2, (.int .i64 1))]) fun v24_21 => (ks (xstore E.P base m 39 v2_1 v24_21) fun m => (k0 (mload E.P m 39 v2_1) fun r_22 => (fVal r_22 fun v => some (.ret v, m)))))) (k1 (mbin E .eql 9 x0 (.string (ByteArray.mk #[112, 103, 103]))) fun v26_23 => (kb v26_23 (k2 (xbuildSlice E.P m 37 2 [(0, (.int .i64 2)), (1, (.int .i64 2))]) fun v27_24 m => (k1 (mbuild E.P 39 [(0, v27_24), (3, (.int .i64 1))]) fun v28_25 => (ks (xstore E.P base m 39 v2_1 v28_25) fun m => (k0 (mload E.P m 39 v2_1) fun r_26 => (fVal r_26 fun v => some (.ret v, m)))))) (k1 (mbin E .eql 9 x0 (.string (ByteArray.mk #[99, 109, 109]))) fun v30_27 => (kb v30_27 (k2 (xbuildSlice E.P m 37 1 [(0, (.int .i64 2))]) fun v31_28 m => (k2 (xbuildSlice E.P m 37 2 [(0, (.int .i64 2)), (1, (.int .i64 2))]) fun v32_29 m => (k1 (mbuild E.P 39 [(0, v31_28), (1, v32_29), (2, (.int .i64 1))]) fun v33_30 => (ks (xstore E.P base m 39 v2_1 v33_30) fun m => (k0 (mload E.P m 39 v2_1) fun r_31 => (fVal r_31 fun v => some (.ret v, m))))))) (k1 (mbin E .eql 9 x0 (.string (ByteArray.mk #[112, 52]))) fun v35_32 => (kb v35_32 (k2 (xbuildSlice E.P m 37 3 [(0, (.int .i64 4)), (1, (.int .i64 4)), (2, (.int .i64 2))]) fun v36_33 m => (k1 (mbuild E.P 39 [(0, v36_33)]) fun v37_34 => (ks (xstore E.P base m 39 v2_1 v37_34) fun m => (k0 (mload E.P m 39 v2_1) fun r_35 => (fVal r_35 fun v => some (.ret v, m)))))) (k1 (mbin E .eql 9 x0 (.string (ByteArray.mk #[112, 52, 109]))) fun v39_36 => (kb v39_36 (k2 (xbuildSlice E.P m 37 3 [(0, (.int .i64 4)), (1, (.int .i64 4)), (2, (.int .i64 2))]) fun v40_37 m => (k1 (mbuild E.P 39 [(1, v40_37), (2, (.int .i64 1))]) fun v41_38 => (ks (xstore E.P base m 39 v2_1 v41_38) fun m => (k0 (mload E.P m 39 v2_1) fun r_39 => (fVal r_39 fun v => some (.ret v, m)))))) (k1 (mbin E .eql 9 x0 (.string (ByteArray.mk #[112, 52, 103]))) fun v43_40 => (kb v43_40 (k2 (xbuildSlice E.P m 37 1 [(0, (.int .i64 4))]) fun v44_41 m => (k2 (xbuildSlice E.P m 37 1 [(0, (.int .i64 2))]) fun v45_42 m => (k1 (mbuild E.P 39 [(0, v44_41), (1, v45_42), (2, (.int .i64 1))]) fun v46_43 => (ks (xstore E.P base m 39 v2_1 v46_43) fun m => (k0 (mload E.P m 39 v2_1) fun r_44 => (fVal r_44 fun v => some (.ret v, m))))))) (k1 (mbuild E.P 39 []) fun v47_45 => (ks (xstore E.P base m 39 v2_1 v47_45) fun m => (k0 (mload E.P m 39 v2_1) fun r_46 => (fVal r_46 fun v => some (.ret v, m))))))))))))))))))))))))))))
def keep47 : Keep := { region := fun i => ([[0, 2], [2, 3], [2, 3, 4], [2], [2, 3, 8], [2], [2, 3, 11], [2], [2, 3, 14], [2], [2, 3, 17], [2], [2, 3, 21], [2], [2, 3, 25], [2], [2, 3, 29], [2], [2, 3, 34], [2], [2, 3, 38], [2], [2, 42], [2], [2]] : List (List Nat))[i]?, exit := fun i => ([[2]] : List (List Nat))[i]?, ret := some [2] }
noncomputable def lp47 (call : CallF) (fuel base : Nat) : Lp := lpsel []
noncomputable def c47 : Code := Tryd.f47.body.getD .skip
theorem r47_eq (call : CallF) (fuel base : Nat) (x0 : Value) (m : M) : kbody E call keep47 (lp47 call fuel base) base Tryd.f47 [x0] m = r47 call fuel base x0 m := by
  kernel_rfl
noncomputable def rf47 : RF := fun call fuel base args m => match args with
  | [x0] => r47 call fuel base x0 m
  | _ => none
theorem r47_lk (call : CallF) (fuel base : Nat) : LoopsOk E call (lp47 call fuel base) fuel base 0 c47 = (And True (And (And True (And True (And (And True True) (And True (And (And True True) (And True (And (And True True) (And True (And (And True True) (And True (And (And True True) (And True (And (And True True) (And True (And (And True True) (And True (And (And True True) (And True (And (And True True) (And True (And (And True True) (And True (And (And True True) True))))))))))))))))))))))) (And True True))) := by kernel_rfl
theorem r47_fn : E.P.funcs[47]? = some Tryd.f47 := by kernel_rfl
theorem r47_body : Tryd.f47.body = some c47 := by kernel_rfl
theorem rf47_ok : RFok E 47 rf47 := by
  refine ⟨Tryd.f47, r47_fn, fun call fuel base args m r _ h => ?_⟩
  unfold rf47 at h
  split at h
  · rw [← r47_eq] at h
    exact kbody_sound (c := c47) r47_body (Eq.mpr (r47_lk call fuel base) (And.intro trivial (And.intro (And.intro trivial (And.intro trivial (And.intro (And.intro trivial trivial) (And.intro trivial (And.intro (And.intro trivial trivial) (And.intro trivial (And.intro (And.intro trivial trivial) (And.intro trivial (And.intro (And.intro trivial trivial) (And.intro trivial (And.intro (And.intro trivial trivial) (And.intro trivial (And.intro (And.intro trivial trivial) (And.intro trivial (And.intro (And.intro trivial trivial) (And.intro trivial (And.intro (And.intro trivial trivial) (And.intro trivial (And.intro (And.intro trivial trivial) (And.intro trivial (And.intro (And.intro trivial trivial) (And.intro trivial (And.intro (And.intro trivial trivial) trivial))))))))))))))))))))))) (And.intro trivial trivial)))) h
  · simp at h
end Go.AM
namespace Go.AM
open Go Go.Proofs
noncomputable def r48_L4 (call : CallF) (fuel base : Nat) (kp : Value → M → Res2) (kx4 : Value → Value → Value → Value → Value → Value → Value → M → Res2) (n : Nat) : Value → Value → Value → Value → Value → Value → Value → Value → Value → Value → M → Res2 :=
  Nat.rec (motive := fun _ => Value → Value → Value → Value → Value → Value → Value → Value → Value → Value → M → Res2) (fun _ _ _ _ _ _ _ _ _ _ _ => none)
    (fun _ ih x1 x3 x7 x9 x10 x11 x29 x30 x42 x43 m =>
      (k1 (mbin E .lss 3 x43 x42) fun v44_21 => (kb v44_21 (k1 (mbuild E.P 103 [(0, x43), (1, x11)]) fun v48_22 => (k2 (xalloc E.P m 103) fun v13_23 m => (ks (xstore E.P base m 103 v13_23 v48_22) fun m => (k1 (xload E.P m 70 x3) fun v50_24 => (k1 (xload E.P m 103 v13_23) fun v51_25 => (kc (call base 75 [v50_24, v51_25] m) (fun v52_26 m => (k1 (mindexAddr E.P 37 x7 v52_26) fun v53_27 => (k1 (xload E.P m 3 v53_27) fun v54_28 => (k1 (mbin E .eql 3 v54_28 (.int .i64 (-1))) fun v55_29 => (kb v55_29 (k1 (xload E.P m 70 x3) fun v56_30 => (k1 (xload E.P m 103 v13_23) fun v58_31 => (kc (call base 76 [v56_30, x7, v58_31, x9] m) (fun v60_32 m => (k1 (mbin E .add 3 x9 (.int .i64 1)) fun v62_33 => (k1 (mindexAddr E.P 43 x10 x11) fun v65_34 => (k1 (xload E.P m 37 v65_34) fun v66_35 => (k1 (xload E.P m 70 x3) fun v69_36 => (k1 (xload E.P m 103 v13_23) fun v70_37 => (kc (kB m (call m.length 75 [v69_36, v70_37] m)) (fun v71_38 m => (k1 (mindexAddr E.P 37 x7 v71_38) fun v72_39 => (k1 (xload E.P m 3 v72_39) fun v73_40 => (k1 (mindexAddr E.P 37 v66_35 x43) fun v74_41 => (ks (xstore E.P base m 3 v74_41 v73_40) fun m => (k1 (mbin E .add 3 x43 (.int .i64 1)) fun v75_42 => (ih x1 x3 x7 v62_33 x10 x11 x29 x30 x42 v75_42 m))))))) (fun _ _ => none)))))))) (fun v m => kp v m)))) (k1 (mindexAddr E.P 43 x10 x11) fun v65_43 => (k1 (xload E.P m 37 v65_43) fun v66_44 => (k1 (xload E.P m 70 x3) fun v69_45 => (k1 (xload E.P m 103 v13_23) fun v70_46 => (kc (kB m (call m.length 75 [v69_45, v70_46] m)) (fun v71_47 m => (k1 (mindexAddr E.P 37 x7 v71_47) fun v72_48 => (k1 (xload E.P m 3 v72_48) fun v73_49 => (k1 (mindexAddr E.P 37 v66_44 x43) fun v74_50 => (ks (xstore E.P base m 3 v74_50 v73_49) fun m => (k1 (mbin E .add 3 x43 (.int .i64 1)) fun v75_51 => (ih x1 x3 x7 x9 x10 x11 x29 x30 x42 v75_51 m))))))) (fun _ _ => none))))))))))) (fun v m => kp v m))))))) (kx4 x1 x3 x7 x9 x10 x29 x30 m)))) n
noncomputable def r48_L0 (call : CallF) (fuel base : Nat) (kx0 : Value → Value → Value → Value → M → Res2) (n : Nat) : Value → Value → Value → Value → Value → Value → M → Res2 :=
  Nat.rec (motive := fun _ => Value → Value → Value → Value → Value → Value → M → Res2) (fun _ _ _ _ _ _ _ => none)
    (fun _ ih x1 x2 x3 x7 x18 x19 m =>
      (k1 (mbin E .lss 3 x19 x18) fun v20_6 => (kb v20_6 (k1 (mindexAddr E.P 37 x7 x19) fun v24_7 => (ks (xstore E.P base m 3 v24_7 (.int .i64 (-1))) fun m => (k1 (mbin E .add 3 x19 (.int .i64 1)) fun v25_8 => (ih x1 x2 x3 x7 x18 v25_8 m)))) (kx0 x1 x2 x3 x7 m)))) n
noncomputable def r48_L2 (call : CallF) (fuel base : Nat) (kp : Value → M → Res2) (kx2 : Value → M → Res2) (n : Nat) : Value → Value → Value → Value → Value → Value → Value → M → Res2 :=
  Nat.rec (motive := fun _ => Value → Value → Value → Value → Value → Value → Value → M → Res2) (fun _ _ _ _ _ _ _ _ => none)
    (fun _ ih x1 x3 x7 x9 x10 x29 x30 m =>
      (k1 (mbin E .lss 3 x30 x29) fun v31_15 => (kb v31_15 (k2 (xmakeSlice E.P m 37 x1 x1) fun v36_16 m => (k1 (mindexAddr E.P 43 x10 x30) fun v37_17 => (ks (xstore E.P base m 37 v37_17 v36_16) fun m => (k1 (mindexAddr E.P 43 x10 x30) fun v40_18 => (k1 (xload E.P m 37 v40_18) fun v41_19 => (k2 (vcall E.P base m .len [37] [v41_19]) fun v42_20 m => (r48_L4 call fuel base (fun v m => kp v m) (fun y1_52 y3_53 y7_54 y9_55 y10_56 y29_57 y30_58 m => (k1 (mbin E .add 3 y30_58 (.int .i64 1)) fun v76_59 => (ih y1_52 y3_53 y7_54 y9_55 y10_56 y29_57 v76_59 m))) fuel x1 x3 x7 x9 x10 x30 x29 x30 v42_20 (.int .i64 0) m))))))) (kx2 x10 m)))) n
noncomputable def r48 (call : CallF) (fuel base : Nat) (x0 : Value) (x1 : Value) (x2 : Value) (m : M) : Res2 :=
  (k2 (xbox m x0) fun v3_1 m => (k1 (xload E.P m 70 v3_1) fun v14_2 => (kc (call base 51 [v14_2] m) (fun v15_3 m => (k2 (xmakeSlice E.P m 37 v15_3 v15_3) fun v16_4 m => (k2 (vcall E.P base m .len [37] [v16_4]) fun v18_5 m => (r48_L0 call fuel base (fun y1_9 y2_10 y3_11 y7_12 m => (k2 (xmakeSlice E.P m 43 y2_10 y2_10) fun v27_13 m => (k2 (vcall E.P base m .len [43] [v27_13]) fun v29_14 m => (r48_L2 call fuel base (fun v m => some (.pan v, m)) (fun y10_60 m => (fVal y10_60 fun v => some (.ret v, m))) fuel y1_9 y3_11 y7_12 (.int .i64 0) v27_13 v29_14 (.int .i64 0) m)))) fuel x1 x2 v3_1 v16_4 v18_5 (.int .i64 0) m)))) (fun v m => some (.pan v, m)))))
def keep48 : Keep := { region := fun i => ([[1, 2, 3], [1, 2, 3, 7], [1, 2, 3, 7, 18, 19], [1, 2, 3, 7, 18, 19, 20], [1, 2, 3, 7, 8, 18, 19], [1, 2, 3, 7, 18, 19], [1, 2, 3, 7, 18, 19], [1, 2, 3, 7, 9], [1, 3, 7, 9, 10], [1, 3, 7, 9, 10, 29, 30], [1, 3, 7, 9, 10, 29, 30, 31], [1, 3, 7, 9, 10, 11, 29, 30], [1, 3, 7, 9, 10, 11, 29, 30], [1, 3, 7, 9, 10, 11, 29, 30, 42, 43], [1, 3, 7, 9, 10, 11, 29, 30, 42, 43, 44], [1, 3, 7, 9, 10, 11, 12, 29, 30, 42, 43], [1, 3, 7, 9, 10, 11, 12, 13, 29, 30, 42, 43], [1, 3, 7, 9, 10, 11, 12, 13, 29, 30, 42, 43, 55], [1, 3, 7, 9, 10, 11, 12, 13, 29, 30, 42, 43], [1, 3, 7, 9, 10, 11, 12, 13, 29, 30, 42, 43], [1, 3, 7, 9, 10, 11, 29, 30, 42, 43], [1, 3, 7, 9, 10, 11, 29, 30, 42, 43], [1, 3, 7, 9, 10, 29, 30], [6]] : List (List Nat))[i]?, exit := fun i => ([[1, 2, 3, 7], [1, 2, 3, 7, 18, 19], [10], [1, 3, 7, 9, 10, 29, 30], [1, 3, 7, 9, 10, 29, 30], [1, 3, 7, 9, 10, 11, 29, 30, 42, 43]] : List (List Nat))[i]?, ret := some [6] }
noncomputable def r48_L4_R (call : CallF) (fuel base n : Nat) (vs : List Value) (m : M) (K : KT) : Res2 := match vs with
  | [x1, x3, x7, x9, x10, x11, x29, x30, x42, x43] => r48_L4 call fuel base (fun v m => K (.pan v) { n := 78, l := [] } m) (fun y1 y3 y7 y9 y10 y29 y30 m => K (.exit 4) { n := 78, l := [(1, y1), (3, y3), (7, y7), (9, y9), (10, y10), (29, y29), (30, y30)] } m) n x1 x3 x7 x9 x10 x11 x29 x30 x42 x43 m
  | _ => none
noncomputable def r48_L0_R (call : CallF) (fuel base n : Nat) (vs : List Value) (m : M) (K : KT) : Res2 := match vs with
  | [x1, x2, x3, x7, x18, x19] => r48_L0 call fuel base (fun y1 y2 y3 y7 m => K (.exit 0) { n := 78, l := [(1, y1), (2, y2), (3, y3), (7, y7)] } m) n x1 x2 x3 x7 x18 x19 m
  | _ => none
noncomputable def r48_L2_R (call : CallF) (fuel base n : Nat) (vs : List Value) (m : M) (K : KT) : Res2 := match vs with
  | [x1, x3, x7, x9, x10, x29, x30] => r48_L2 call fuel base (fun v m => K (.pan v) { n := 78, l := [] } m) (fun y10 m => K (.exit 2) { n := 78, l := [(10, y10)] } m) n x1 x3 x7 x9 x10 x29 x30 m
  | _ => none
noncomputable def lp48 (call : CallF) (fuel base : Nat) : Lp := lpsel [(4, fun T m K => kslots 78 [1, 3, 7, 9, 10, 11, 29, 30, 42, 43] T fun vs => r48_L4_R call fuel base fuel vs m K), (0, fun T m K => kslots 78 [1, 2, 3, 7, 18, 19] T fun vs => r48_L0_R call fuel base fuel vs m K), (2, fun T m K => kslots 78 [1, 3, 7, 9, 10, 29, 30] T fun vs => r48_L2_R call fuel base fuel vs m K)]
noncomputable def c48 : Code := Tryd.f48.body.getD .skip
theorem r48_L4_lk (call : CallF) (fuel base : Nat) : LoopsOk E call (lp48 call fuel base) fuel base 4 (loopB (blockB (seqR (seqR (seqR (blockB (seqL (seqR (seqR (loopB (blockB (seqR (seqL (seqR (seqR (seqR (seqR (seqR c48)))))))))))))))))) = (And True (And (And True True) (And (And True (And True (And (And True (And (And True True) True)) True))) True))) := by kernel_rfl
theorem r48_L4_ok (call : CallF) (fuel base : Nat) : LpOk E call (lp48 call fuel base) fuel base 4 (loopB (blockB (seqR (seqR (seqR (blockB (seqL (seqR (seqR (loopB (blockB (seqR (seqL (seqR (seqR (seqR (seqR (seqR c48)))))))))))))))))) := by
  refine loop_ok (kp := keep48) (hb := Eq.mpr (r48_L4_lk call fuel base) (And.intro trivial (And.intro (And.intro trivial trivial) (And.intro (And.intro trivial (And.intro trivial (And.intro (And.intro trivial (And.intro (And.intro trivial trivial) trivial)) trivial))) trivial)))) 78 [1, 3, 7, 9, 10, 11, 29, 30, 42, 43] (fun n vs m K => r48_L4_R call fuel base n vs m K) ?_ ?_ (fun _ _ _ => rfl)
  · intro vs m K
    unfold r48_L4_R
    split <;> rfl
  · intro n vs m K hl
    match vs, hl with
    | [x1, x3, x7, x9, x10, x11, x29, x30, x42, x43], _ => show _ = _; kernel_rfl
theorem r48_L0_lk (call : CallF) (fuel base : Nat) : LoopsOk E call (lp48 call fuel base) fuel base 0 (loopB (blockB (seqR (seqL (seqR (seqR c48)))))) = (And True (And (And True True) (And (And True True) True))) := by kernel_rfl
theorem r48_L0_ok (call : CallF) (fuel base : Nat) : LpOk E call (lp48 call fuel base) fuel base 0 (loopB (blockB (seqR (seqL (seqR (seqR c48)))))) := by
  refine loop_ok (kp := keep48) (hb := Eq.mpr (r48_L0_lk call fuel base) (And.intro trivial (And.intro (And.intro trivial trivial) (And.intro (And.intro trivial trivial) trivial)))) 78 [1, 2, 3, 7, 18, 19] (fun n vs m K => r48_L0_R call fuel base n vs m K) ?_ ?_ (fun _ _ _ => rfl)
  · intro vs m K
    unfold r48_L0_R
    split <;> rfl
  · intro n vs m K hl
    match vs, hl with
    | [x1, x2, x3, x7, x18, x19], _ => show _ = _; kernel_rfl
theorem r48_L2_lk (call : CallF) (fuel base : Nat) : LoopsOk E call (lp48 call fuel base) fuel base 2 (loopB (blockB (seqR (seqL (seqR (seqR (seqR (seqR (seqR c48))))))))) = (And True (And (And True True) (And (And True (And True (And True (LpOk E call (lp48 call fuel base) fuel base 4 (loopB (blockB (seqR (seqR (seqR (blockB (seqL (seqR (seqR (loopB (blockB (seqR (seqL (seqR (seqR (seqR (seqR (seqR c48)))))))))))))))))))))) True))) := by kernel_rfl
theorem r48_L2_ok (call : CallF) (fuel base : Nat) : LpOk E call (lp48 call fuel base) fuel base 2 (loopB (blockB (seqR (seqL (seqR (seqR (seqR (seqR (seqR c48))))))))) := by
  refine loop_ok (kp := keep48) (hb := Eq.mpr (r48_L2_lk call fuel base) (And.intro trivial (And.intro (And.intro trivial trivial) (And.intro (And.intro trivial (And.intro trivial (And.intro trivial (r48_L4_ok call fuel base)))) trivial)))) 78 [1, 3, 7, 9, 10, 29, 30] (fun n vs m K => r48_L2_R call fuel base n vs m K) ?_ ?_ (fun _ _ _ => rfl)
  · intro vs m K
    unfold r48_L2_R
    split <;> rfl
  · intro n vs m K hl
    match vs, hl with
    | [x1, x3, x7, x9, x10, x29, x30], _ => show _ = _; kernel_rfl
theorem r48_eq (call : CallF) (fuel base : Nat) (x0 : Value) (x1 : Value) (x2 : Value) (m : M) : kbody E call keep48 (lp48 call fuel base) base Tryd.f48 [x0, x1, x2] m = r48 call fuel base x0 x1 x2 m := by
  kernel_rfl
noncomputable def rf48 : RF := fun call fuel base args m => match args with
  | [x0, x1, x2] => r48 call fuel base x0 x1 x2 m
  | _ => none
theorem r48_lk (call : CallF) (fuel base : Nat) : LoopsOk E call (lp48 call fuel base) fuel base 0 c48 = (And True (And True (And (And True (LpOk E call (lp48 call fuel base) fuel base 0 (loopB (blockB (seqR (seqL (seqR (seqR c48)))))))) (And True (And True (And (And True (LpOk E call (lp48 call fuel base) fuel base 2 (loopB (blockB (seqR (seqL (seqR (seqR (seqR (seqR (seqR c48))))))))))) (And True True))))))) := by kernel_rfl
theorem r48_fn : E.P.funcs[48]? = some Tryd.f48 := by kernel_rfl
theorem r48_body : Tryd.f48.body = some c48 := by kernel_rfl
theorem rf48_ok : RFok E 48 rf48 := by
  refine ⟨Tryd.f48, r48_fn, fun call fuel base args m r _ h => ?_⟩
  unfold rf48 at h
  split at h
  · rw [← r48_eq] at h
    exact kbody_sound (c := c48) r48_body (Eq.mpr (r48_lk call fuel base) (And.intro trivial (And.intro trivial (And.intro (And.intro trivial (r48_L0_ok call fuel base)) (And.intro trivial (And.intro trivial (And.intro (And.intro trivial (r48_L2_ok call fuel base)) (And.intro trivial trivial)))))))) h
  · simp at h
end Go.AM
namespace Go.AM
open Go Go.Proofs
noncomputable def r49 (call : CallF) (fuel base : Nat) (x0 : Value) (x1 : Value) (x2 : Value) (m : M) : Res2 :=
  (k2 (xbox m x0) fun v3_1 m => (k1 (mfieldAddr E.P 26 v3_1 0) fun v9_2 => (k1 (xload E.P m 3 v9_2) fun v10_3 => (kc (call base 77 [x1, v10_3] m) (fun v11_4 m => (k1 (mfieldAddr E.P 26 v3_1 2) fun v13_5 => (k1 (xload E.P m 3 v13_5) fun v14_6 => (k1 (mbin E .mul 3 v11_4 v14_6) fun v15_7 => (k1 (mbin E .sub 3 x1 v11_4) fun v19_8 => (k1 (mfieldAddr E.P 26 v3_1 0) fun v20_9 => (k1 (xload E.P m 3 v20_9) fun v21_10 => (k1 (mbin E .quo 3 v19_8 v21_10) fun v22_11 => (k1 (mfieldAddr E.P 26 v3_1 1) fun v23_12 => (k1 (xload E.P m 3 v23_12) fun v24_13 => (k1 (mbin E .mul 3 v22_11 v24_13) fun v25_14 => (k1 (mbin E .sub 3 x2 v25_14) fun v26_15 => (k1 (mfieldAddr E.P 26 v3_1 2) fun v27_16 => (k1 (xload E.P m 3 v27_16) fun v28_17 => (kc (kB m (call m.length 77 [v26_15, v28_17] m)) (fun v29_18 m => (k1 (mbin E .add 3 v15_7 v29_18) fun v30_19 => (fVal v30_19 fun v => some (.ret v, m)))) (fun _ _ => none)))))))))))))))) (fun v m => some (.pan v, m))))))
def keep49 : Keep := { region := fun i => ([[1, 2, 3], [1, 2, 3, 7], [6]] : List (List Nat))[i]?, exit := fun i => ([] : List (List Nat))[i]?, ret := some [6] }
noncomputable def lp49 (call : CallF) (fuel base : Nat) : Lp := lpsel []
noncomputable def c49 : Code := Tryd.f49.body.getD .skip
theorem r49_eq (call : CallF) (fuel base : Nat) (x0 : Value) (x1 : Value) (x2 : Value) (m : M) : kbody E call keep49 (lp49 call fuel base) base Tryd.f49 [x0, x1, x2] m = r49 call fuel base x0 x1 x2 m := by
  kernel_rfl
noncomputable def rf49 : RF := fun call fuel base args m => match args with
  | [x0, x1, x2] => r49 call fuel base x0 x1 x2 m
  | _ => none
theorem r49_lk (call : CallF) (fuel base : Nat) : LoopsOk E call (lp49 call fuel base) fuel base 0 c49 = (And True (And True (And True True))) := by kernel_rfl
theorem r49_fn : E.P.funcs[49]? = some Tryd.f49 := by kernel_rfl
theorem r49_body : Tryd.f49.body = some c49 := by kernel_rfl
theorem rf49_ok : RFok E 49 rf49 := by
  refine ⟨Tryd.f49, r49_fn, fun call fuel base args m r _ h => ?_⟩
  unfold rf49 at h
  split at h
  · rw [← r49_eq] at h
    exact kbody_sound (c := c49) r49_body (Eq.mpr (r49_lk call fuel base) (And.intro trivial (And.intro trivial (And.intro trivial trivial)))) h
  · simp at h
end Go.AM
namespace Go.AM
open Go Go.Proofs
noncomputable def r50 (call : CallF) (fuel base : Nat) (x0 : Value) (x1 : Value) (x2 : Value) (m : M) : Res2 :=
  (k2 (xbox m x0) fun v3_1 m => (k1 (mfieldAddr E.P 50 v3_1 0) fun v8_2 => (k1 (xload E.P m 3 v8_2) fun v9_3 => (k1 (mbin E .mul 3 v9_3 x1) fun v11_4 => (k1 (mfieldAddr E.P 50 v3_1 1) fun v12_5 => (k1 (xload E.P m 3 v12_5) fun v13_6 => (k1 (mbin E .mul 3 v13_6 x2) fun v15_7 => (k1 (mbin E .add 3 v11_4 v15_7) fun v16_8 => (k1 (mfieldAddr E.P 50 v3_1 4) fun v17_9 => (k1 (xload E.P m 3 v17_9) fun v18_10 => (k1 (mbin E .add 3 v16_8 v18_10) fun v19_11 => (k1 (mfieldAddr E.P 50 v3_1 2) fun v20_12 => (k1 (xload E.P m 3 v20_12) fun v21_13 => (k1 (mbin E .mul 3 v21_13 x1) fun v23_14 => (k1 (mfieldAddr E.P 50 v3_1 3) fun v24_15 => (k1 (xload E.P m 3 v24_15) fun v25_16 => (k1 (mbin E .mul 3 v25_16 x2) fun v27_17 => (k1 (mbin E .add 3 v23_14 v27_17) fun v28_18 => (k1 (mfieldAddr E.P 50 v3_1 5) fun v29_19 => (k1 (xload E.P m 3 v29_19) fun v30_20 => (k1 (mbin E .add 3 v28_18 v30_20) fun v31_21 => (some (.ret (.tuple #[v19_11, v31_21]), m)))))))))))))))))))))))
def keep50 : Keep := { region := fun i => ([[1, 2, 3], [6, 7]] : List (List Nat))[i]?, exit := fun i => ([] : List (List Nat))[i]?, ret := some [6, 7] }
noncomputable def lp50 (call : CallF) (fuel base : Nat) : Lp := lpsel []
noncomputable def c50 : Code := Tryd.f50.body.getD .skip
theorem r50_eq (call : CallF) (fuel base : Nat) (x0 : Value) (x1 : Value) (x2 : Value) (m : M) : kbody E call keep50 (lp50 call fuel base) base Tryd.f50 [x0, x1, x2] m = r50 call fuel base x0 x1 x2 m := by
  kernel_rfl
noncomputable def rf50 : RF := fun call fuel base args m => match args with
  | [x0, x1, x2] => r50 call fuel base x0 x1 x2 m
  | _ => none
theorem r50_lk (call : CallF) (fuel base : Nat) : LoopsOk E call (lp50 call fuel base) fuel base 0 c50 = (And True (And True True)) := by kernel_rfl
theorem r50_fn : E.P.funcs[50]? = some Tryd.f50 := by kernel_rfl
theorem r50_body : Tryd.f50.body = some c50 := by kernel_rfl
theorem rf50_ok : RFok E 50 rf50 := by
  refine ⟨Tryd.f50, r50_fn, fun call fuel base args m r _ h => ?_⟩
  unfold rf50 at h
  split at h
  · rw [← r50_eq] at h
    exact kbody_sound (c := c50) r50_body (Eq.mpr (r50_lk call fuel base) (And.intro trivial (And.intro trivial trivial))) h
  · simp at h
end Go.AM
namespace Go.AM
open Go Go.Proofs
noncomputable def r51 (call : CallF) (fuel base : Nat) (x0 : Value) (m : M) : Res2 :=
  (k2 (xbox m x0) fun v1_1 m => (k1 (mfieldAddr E.P 70 v1_1 0) fun v3_2 => (k1 (mfieldAddr E.P 26 v3_2 0) fun v4_3 => (k1 (xload E.P m 3 v4_3) fun v5_4 => (k1 (mfieldAddr E.P 70 v1_1 0) fun v6_5 => (k1 (mfieldAddr E.P 26 v6_5 2) fun v7_6 => (k1 (xload E.P m 3 v7_6) fun v8_7 => (k1 (mbin E .mul 3 v5_4 v8_7) fun v9_8 => (fVal v9_8 fun v => some (.ret v, m))))))))))
def keep51 : Keep := { region := fun i => ([[1], [2]] : List (List Nat))[i]?, exit := fun i => ([] : List (List Nat))[i]?, ret := some [2] }
noncomputable def lp51 (call : CallF) (fuel base : Nat) : Lp := lpsel []
noncomputable def c51 : Code := Tryd.f51.body.getD .skip
theorem r51_eq (call : CallF) (fuel base : Nat) (x0 : Value) (m : M) : kbody E call keep51 (lp51 call fuel base) base Tryd.f51 [x0] m = r51 call fuel base x0 m := by
  kernel_rfl
noncomputable def rf51 : RF := fun call fuel base args m => match args with
  | [x0] => r51 call fuel base x0 m
  | _ => none
theorem r51_lk (call : CallF) (fuel base : Nat) : LoopsOk E call (lp51 call fuel base) fuel base 0 c51 = (And True (And True True)) := by kernel_rfl
theorem r51_fn : E.P.funcs[51]? = some Tryd.f51 := by kernel_rfl
theorem r51_body : Tryd.f51.body = some c51 := by kernel_rfl
theorem rf51_ok : RFok E 51 rf51 := by
  refine ⟨Tryd.f51, r51_fn, fun call fuel base args m r _ h => ?_⟩
  unfold rf51 at h
  split at h
  · rw [← r51_eq] at h
    exact kbody_sound (c := c51) r51_body (Eq.mpr (r51_lk call fuel base) (And.intro trivial (And.intro trivial trivial))) h
  · simp at h
end Go.AM
namespace Go.AM
open Go Go.Proofs
noncomputable def r52_L0 (call : CallF) (fuel base : Nat) (kp : Value → M → Res2) (kx0 : Value → Value → M → Res2) (n : Nat) : Value → Value → Value → Value → Value → Value → Value → M → Res2 :=
  Nat.rec (motive := fun _ => Value → Value → Value → Value → Value → Value → Value → M → Res2) (fun _ _ _ _ _ _ _ _ => none)
    (fun _ ih x0 x1 x2 x7 x10 x11 x12 m =>
      (k1 (mbin E .lss 3 x12 x11) fun v13_2 => (kb v13_2 (k1 (mindexAddr E.P 30 x10 x12) fun v14_3 => (k1 (xload E.P m 50 v14_3) fun v15_4 => (k2 (xalloc E.P m 50) fun v9_5 m => (ks (xstore E.P base m 50 v9_5 v15_4) fun m => (k1 (xload E.P m 50 v9_5) fun v19_6 => (kc (kv call base x2 [v19_6] m) (fun v20_7 m => (kc (call base 78 [x1, v20_7] m) (fun v21_8 m => (k1 (mbin E .add 3 x7 v21_8) fun v22_9 => (k1 (mbin E .add 3 x12 (.int .i64 1)) fun v23_10 => (ih x0 x1 x2 v22_9 x10 x11 v23_10 m)))) (fun v m => kp v m))) (fun v m => kp v m))))))) (kx0 x0 x7 m)))) n
noncomputable def r52 (call : CallF) (fuel base : Nat) (x0 : Value) (x1 : Value) (x2 : Value) (m : M) : Res2 :=
  (k2 (vcall E.P base m .len [30] [x0]) fun v11_1 m => (r52_L0 call fuel base (fun v m => some (.pan v, m)) (fun y0_11 y7_12 m => (k2 (vcall E.P base m .len [30] [y0_11]) fun v26_13 m => (k1 (mbin E .quo 3 y7_12 v26_13) fun v27_14 => (fVal v27_14 fun v => some (.ret v, m))))) fuel x0 x1 x2 (.int .i64 0) x0 v11_1 (.int .i64 0) m))
def keep52 : Keep := { region := fun i => ([[0, 1, 2], [0, 1, 2, 7], [0, 1, 2, 7, 10, 11, 12], [0, 1, 2, 7, 10, 11, 12, 13], [0, 1, 2, 7, 9, 10, 11, 12], [0, 1, 2, 7, 10, 11, 12], [0, 1, 2, 7, 10, 11, 12], [6]] : List (List Nat))[i]?, exit := fun i => ([[0, 7], [0, 1, 2, 7, 10, 11, 12]] : List (List Nat))[i]?, ret := some [6] }
noncomputable def r52_L0_R (call : CallF) (fuel base n : Nat) (vs : List Value) (m : M) (K : KT) : Res2 := match vs with
  | [x0, x1, x2, x7, x10, x11, x12] => r52_L0 call fuel base (fun v m => K (.pan v) { n := 28, l := [] } m) (fun y0 y7 m => K (.exit 0) { n := 28, l := [(0, y0), (7, y7)] } m) n x0 x1 x2 x7 x10 x11 x12 m
  | _ => none
noncomputable def lp52 (call : CallF) (fuel base : Nat) : Lp := lpsel [(0, fun T m K => kslots 28 [0, 1, 2, 7, 10, 11, 12] T fun vs => r52_L0_R call fuel base fuel vs m K)]
noncomputable def c52 : Code := Tryd.f52.body.getD .skip
theorem r52_L0_lk (call : CallF) (fuel base : Nat) : LoopsOk E call (lp52 call fuel base) fuel base 0 (loopB (blockB (seqR (seqL (seqR (seqR c52)))))) = (And True (And (And True True) (And (And True True) True))) := by kernel_rfl
theorem r52_L0_ok (call : CallF) (fuel base : Nat) : LpOk E call (lp52 call fuel base) fuel base 0 (loopB (blockB (seqR (seqL (seqR (seqR c52)))))) := by
  refine loop_ok (kp := keep52) (hb := Eq.mpr (r52_L0_lk call fuel base) (And.intro trivial (And.intro (And.intro trivial trivial) (And.intro (And.intro trivial trivial) trivial)))) 28 [0, 1, 2, 7, 10, 11, 12] (fun n vs m K => r52_L0_R call fuel base n vs m K) ?_ ?_ (fun _ _ _ => rfl)
  · intro vs m K
    unfold r52_L0_R
    split <;> rfl
  · intro n vs m K hl
    match vs, hl with
    | [x0, x1, x2, x7, x10, x11, x12], _ => show _ = _; kernel_rfl
theorem r52_eq (call : CallF) (fuel base : Nat) (x0 : Value) (x1 : Value) (x2 : Value) (m : M) : kbody E call keep52 (lp52 call fuel base) base Tryd.f52 [x0, x1, x2] m = r52 call fuel base x0 x1 x2 m := by
  kernel_rfl
noncomputable def rf52 : RF := fun call fuel base args m => match args with
  | [x0, x1, x2] => r52 call fuel base x0 x1 x2 m
  | _ => none
theorem r52_lk (call : CallF) (fuel base : Nat) : LoopsOk E call (lp52 call fuel base) fuel base 0 c52 = (And True (And True (And (And True (LpOk E call (lp52 call fuel base) fuel base 0 (loopB (blockB (seqR (seqL (seqR (seqR c52)))))))) (And True True)))) := by kernel_rfl
theorem r52_fn : E.P.funcs[52]? = some Tryd.f52 := by kernel_rfl
theorem r52_body : Tryd.f52.body = some c52 := by kernel_rfl
theorem rf52_ok : RFok E 52 rf52 := by
  refine ⟨Tryd.f52, r52_fn, fun call fuel base args m r _ h => ?_⟩
  unfold rf52 at h
  split at h
  · rw [← r52_eq] at h
    exact kbody_sound (c := c52) r52_body (Eq.mpr (r52_lk call fuel base) (And.intro trivial (And.intro trivial (And.intro (And.intro trivial (r52_L0_ok call fuel base)) (And.intro trivial trivial))))) h
  · simp at h
end Go.AM
namespace Go.AM
open Go Go.Proofs
noncomputable def r53_L2 (call : CallF) (fuel base : Nat) (kx2 : Value → Value → Value → Value → Value → Value → M → Res2) (n : Nat) : Value → Value → Value → Value → Value → Value → Value → M → Res2 :=
  Nat.rec (motive := fun _ => Value → Value → Value → Value → Value → Value → Value → M → Res2) (fun _ _ _ _ _ _ _ _ => none)
    (fun _ ih x2 x3 x5 x6 x8 x13 x14 m =>
      (k1 (mindexAddr E.P 106 x5 x8) fun v26_12 => (k1 (xload E.P m 4 v26_12) fun v27_13 => (k1 (mun .not v27_13) fun v28_14 => (kb v28_14 (k1 (mindexAddr E.P 106 x5 x8) fun v38_15 => (ks (xstore E.P base m 4 v38_15 (.bool true)) fun m => (k1 (xload E.P m 70 x2) fun v29_16 => (k1 (xload E.P m 50 x3) fun v30_17 => (k1 (xload E.P m 70 x2) fun v31_18 => (kc (kB m (call m.length 80 [v31_18, x8] m)) (fun v33_19 m => (kc (kB m (call m.length 79 [v30_17, v33_19] m)) (fun v34_20 m => (kc (kB m (call m.length 75 [v29_16, v34_20] m)) (fun v35_21 m => (ih x2 x3 x5 x6 v35_21 x13 x14 m)) (fun _ _ => none))) (fun _ _ => none))) (fun _ _ => none))))))) (kx2 x2 x3 x5 x6 x13 x14 m)))))) n
noncomputable def r53_L0 (call : CallF) (fuel base : Nat) (kx0 : Value → M → Res2) (n : Nat) : Value → Value → Value → Value → Value → Value → M → Res2 :=
  Nat.rec (motive := fun _ => Value → Value → Value → Value → Value → Value → M → Res2) (fun _ _ _ _ _ _ _ => none)
    (fun _ ih x2 x3 x5 x6 x13 x14 m =>
      (k1 (mbin E .lss 3 x14 x13) fun v15_7 => (kb v15_7 (k1 (mindexAddr E.P 106 x5 x14) fun v19_8 => (k1 (xload E.P m 4 v19_8) fun v20_9 => (kb v20_9 (k1 (mbin E .add 3 x14 (.int .i64 1)) fun v39_10 => (ih x2 x3 x5 x6 x13 v39_10 m)) (k1 (mbin E .add 3 x6 (.int .i64 1)) fun v22_11 => (r53_L2 call fuel base (fun y2_22 y3_23 y5_24 y6_25 y13_26 y14_27 m => (k1 (mbin E .add 3 y14_27 (.int .i64 1)) fun v39_28 => (ih y2_22 y3_23 y5_24 y6_25 y13_26 v39_28 m))) fuel x2 x3 x5 v22_11 x14 x13 x14 m))))) (kx0 x6 m)))) n
noncomputable def r53 (call : CallF) (fuel base : Nat) (x0 : Value) (x1 : Value) (m : M) : Res2 :=
  (k2 (xbox m x0) fun v2_1 m => (k2 (xbox m x1) fun v3_2 m => (k1 (xload E.P m 70 v2_1) fun v9_3 => (kc (call base 51 [v9_3] m) (fun v10_4 m => (k2 (xmakeSlice E.P m 106 v10_4 v10_4) fun v11_5 m => (k2 (vcall E.P base m .len [106] [v11_5]) fun v13_6 m => (r53_L0 call fuel base (fun y6_29 m => (fVal y6_29 fun v => some (.ret v, m))) fuel v2_1 v3_2 v11_5 (.int .i64 0) v13_6 (.int .i64 0) m)))) (fun v m => some (.pan v, m))))))
def keep53 : Keep := { region := fun i => ([[2, 3], [2, 3, 5], [2, 3, 5, 6], [2, 3, 5, 6, 13, 14], [2, 3, 5, 6, 13, 14, 15], [2, 3, 5, 6, 7, 13, 14], [2, 3, 5, 6, 7, 13, 14, 20], [2, 3, 5, 6, 7, 13, 14], [2, 3, 5, 6, 8, 13, 14], [2, 3, 5, 6, 8, 13, 14, 28], [2, 3, 5, 6, 8, 13, 14], [2, 3, 5, 6, 8, 13, 14], [2, 3, 5, 6, 13, 14], [4]] : List (List Nat))[i]?, exit := fun i => ([[6], [2, 3, 5, 6, 13, 14], [2, 3, 5, 6, 13, 14], [2, 3, 5, 6, 8, 13, 14]] : List (List Nat))[i]?, ret := some [4] }
noncomputable def r53_L2_R (call : CallF) (fuel base n : Nat) (vs : List Value) (m : M) (K : KT) : Res2 := match vs with
  | [x2, x3, x5, x6, x8, x13, x14] => r53_L2 call fuel base (fun y2 y3 y5 y6 y13 y14 m => K (.exit 2) { n := 41, l := [(2, y2), (3, y3), (5, y5), (6, y6), (13, y13), (14, y14)] } m) n x2 x3 x5 x6 x8 x13 x14 m
  | _ => none
noncomputable def r53_L0_R (call : CallF) (fuel base n : Nat) (vs : List Value) (m : M) (K : KT) : Res2 := match vs with
  | [x2, x3, x5, x6, x13, x14] => r53_L0 call fuel base (fun y6 m => K (.exit 0) { n := 41, l := [(6, y6)] } m) n x2 x3 x5 x6 x13 x14 m
  | _ => none
noncomputable def lp53 (call : CallF) (fuel base : Nat) : Lp := lpsel [(2, fun T m K => kslots 41 [2, 3, 5, 6, 8, 13, 14] T fun vs => r53_L2_R call fuel base fuel vs m K), (0, fun T m K => kslots 41 [2, 3, 5, 6, 13, 14] T fun vs => r53_L0_R call fuel base fuel vs m K)]
noncomputable def c53 : Code := Tryd.f53.body.getD .skip
theorem r53_L2_lk (call : CallF) (fuel base : Nat) : LoopsOk E call (lp53 call fuel base) fuel base 2 (loopB (blockB (seqR (seqR (seqR (seqR (blockB (seqL (seqR (seqR (loopB (blockB (seqR (seqL (seqR (seqR (seqR c53))))))))))))))))) = (And (And True (And True True)) (And True True)) := by kernel_rfl
theorem r53_L2_ok (call : CallF) (fuel base : Nat) : LpOk E call (lp53 call fuel base) fuel base 2 (loopB (blockB (seqR (seqR (seqR (seqR (blockB (seqL (seqR (seqR (loopB (blockB (seqR (seqL (seqR (seqR (seqR c53))))))))))))))))) := by
  refine loop_ok (kp := keep53) (hb := Eq.mpr (r53_L2_lk call fuel base) (And.intro (And.intro trivial (And.intro trivial trivial)) (And.intro trivial trivial))) 41 [2, 3, 5, 6, 8, 13, 14] (fun n vs m K => r53_L2_R call fuel base n vs m K) ?_ ?_ (fun _ _ _ => rfl)
  · intro vs m K
    unfold r53_L2_R
    split <;> rfl
  · intro n vs m K hl
    match vs, hl with
    | [x2, x3, x5, x6, x8, x13, x14], _ => show _ = _; kernel_rfl
theorem r53_L0_lk (call : CallF) (fuel base : Nat) : LoopsOk E call (lp53 call fuel base) fuel base 0 (loopB (blockB (seqR (seqL (seqR (seqR (seqR c53))))))) = (And True (And (And True True) (And (And True (And (And True (And True True)) (And True (And True (LpOk E call (lp53 call fuel base) fuel base 2 (loopB (blockB (seqR (seqR (seqR (seqR (blockB (seqL (seqR (seqR (loopB (blockB (seqR (seqL (seqR (seqR (seqR c53)))))))))))))))))))))) True))) := by kernel_rfl
theorem r53_L0_ok (call : CallF) (fuel base : Nat) : LpOk E call (lp53 call fuel base) fuel base 0 (loopB (blockB (seqR (seqL (seqR (seqR (seqR c53))))))) := by
  refine loop_ok (kp := keep53) (hb := Eq.mpr (r53_L0_lk call fuel base) (And.intro trivial (And.intro (And.intro trivial trivial) (And.intro (And.intro trivial (And.intro (And.intro trivial (And.intro trivial trivial)) (And.intro trivial (And.intro trivial (r53_L2_ok call fuel base))))) trivial)))) 41 [2, 3, 5, 6, 13, 14] (fun n vs m K => r53_L0_R call fuel base n vs m K) ?_ ?_ (fun _ _ _ => rfl)
  · intro vs m K
    unfold r53_L0_R
    split <;> rfl
  · intro n vs m K hl
    match vs, hl with
    | [x2, x3, x5, x6, x13, x14], _ => show _ = _; kernel_rfl
theorem r53_eq (call : CallF) (fuel base : Nat) (x0 : Value) (x1 : Value) (m : M) : kbody E call keep53 (lp53 call fuel base) base Tryd.f53 [x0, x1] m = r53 call fuel base x0 x1 m := by
  kernel_rfl
noncomputable def rf53 : RF := fun call fuel base args m => match args with
  | [x0, x1] => r53 call fuel base x0 x1 m
  | _ => none
theorem r53_lk (call : CallF) (fuel base : Nat) : LoopsOk E call (lp53 call fuel base) fuel base 0 c53 = (And True (And True (And True (And (And True (LpOk E call (lp53 call fuel base) fuel base 0 (loopB (blockB (seqR (seqL (seqR (seqR (seqR c53))))))))) (And True True))))) := by kernel_rfl
theorem r53_fn : E.P.funcs[53]? = some Tryd.f53 := by kernel_rfl
theorem r53_body : Tryd.f53.body = some c53 := by kernel_rfl
theorem rf53_ok : RFok E 53 rf53 := by
  refine ⟨Tryd.f53, r53_fn, fun call fuel base args m r _ h => ?_⟩
  unfold rf53 at h
  split at h
  · rw [← r53_eq] at h
    exact kbody_sound (c := c53) r53_body (Eq.mpr (r53_lk call fuel base) (And.intro trivial (And.intro trivial (And.intro trivial (And.intro (And.intro trivial (r53_L0_ok call fuel base)) (And.intro trivial trivial)))))) h
  · simp at h
end Go.AM
namespace Go.AM
open Go Go.Proofs
noncomputable def r54_L0 (call : CallF) (fuel base : Nat) (kx0 : Value → M → Res2) (n : Nat) : Value → Value → Value → Value → M → Res2 :=
  Nat.rec (motive := fun _ => Value → Value → Value → Value → M → Res2) (fun _ _ _ _ _ => none)
    (fun _ ih x0 x1 x5 x6 m =>
      (k1 (mbin E .lss 3 x6 x1) fun v9_1 => (kb v9_1 (k1 (mbin E .mul 3 x5 x0) fun v14_2 => (k1 (mbin E .add 3 x6 (.int .i64 1)) fun v11_3 => (ih x0 x1 v14_2 v11_3 m))) (kx0 x5 m)))) n
noncomputable def r54 (call : CallF) (fuel base : Nat) (x0 : Value) (x1 : Value) (m : M) : Res2 :=
  (r54_L0 call fuel base (fun y5_4 m => (fVal y5_4 fun v => some (.ret v, m))) fuel x0 x1 (.int .i64 1) (.int .i64 0) m)
def keep54 : Keep := { region := fun i => ([[0, 1], [0, 1, 5], [0, 1, 5, 6], [0, 1, 5, 6, 9], [0, 1, 5, 6], [0, 1, 5, 6], [4]] : List (List Nat))[i]?, exit := fun i => ([[5], [0, 1, 5, 6]] : List (List Nat))[i]?, ret := some [4] }
noncomputable def r54_L0_R (call : CallF) (fuel base n : Nat) (vs : List Value) (m : M) (K : KT) : Res2 := match vs with
  | [x0, x1, x5, x6] => r54_L0 call fuel base (fun y5 m => K (.exit 0) { n := 16, l := [(5, y5)] } m) n x0 x1 x5 x6 m
  | _ => none
noncomputable def lp54 (call : CallF) (fuel base : Nat) : Lp := lpsel [(0, fun T m K => kslots 16 [0, 1, 5, 6] T fun vs => r54_L0_R call fuel base fuel vs m K)]
noncomputable def c54 : Code := Tryd.f54.body.getD .skip
theorem r54_L0_lk (call : CallF) (fuel base : Nat) : LoopsOk E call (lp54 call fuel base) fuel base 0 (loopB (blockB (seqR (seqL (seqR (seqR c54)))))) = (And (And True (And True True)) (And True True)) := by kernel_rfl
theorem r54_L0_ok (call : CallF) (fuel base : Nat) : LpOk E call (lp54 call fuel base) fuel base 0 (loopB (blockB (seqR (seqL (seqR (seqR c54)))))) := by
  refine loop_ok (kp := keep54) (hb := Eq.mpr (r54_L0_lk call fuel base) (And.intro (And.intro trivial (And.intro trivial trivial)) (And.intro trivial trivial))) 16 [0, 1, 5, 6] (fun n vs m K => r54_L0_R call fuel base n vs m K) ?_ ?_ (fun _ _ _ => rfl)
  · intro vs m K
    unfold r54_L0_R
    split <;> rfl
  · intro n vs m K hl
    match vs, hl with
    | [x0, x1, x5, x6], _ => show _ = _; kernel_rfl
theorem r54_eq (call : CallF) (fuel base : Nat) (x0 : Value) (x1 : Value) (m : M) : kbody E call keep54 (lp54 call fuel base) base Tryd.f54 [x0, x1] m = r54 call fuel base x0 x1 m := by
  kernel_rfl
noncomputable def rf54 : RF := fun call fuel base args m => match args with
  | [x0, x1] => r54 call fuel base x0 x1 m
  | _ => none
theorem r54_lk (call : CallF) (fuel base : Nat) : LoopsOk E call (lp54 call fuel base) fuel base 0 c54 = (And True (And True (And (And True (LpOk E call (lp54 call fuel base) fuel base 0 (loopB (blockB (seqR (seqL (seqR (seqR c54)))))))) (And True True)))) := by kernel_rfl
theorem r54_fn : E.P.funcs[54]? = some Tryd.f54 := by kernel_rfl
theorem r54_body : Tryd.f54.body = some c54 := by kernel_rfl
theorem rf54_ok : RFok E 54 rf54 := by
  refine ⟨Tryd.f54, r54_fn, fun call fuel base args m r _ h => ?_⟩
  unfold rf54 at h
  split at h
  · rw [← r54_eq] at h
    exact kbody_sound (c := c54) r54_body (Eq.mpr (r54_lk call fuel base) (And.intro trivial (And.intro trivial (And.intro (And.intro trivial (r54_L0_ok call fuel base)) (And.intro trivial trivial))))) h
  · simp at h
end Go.AM
namespace Go.AM
open Go Go.Proofs
noncomputable def r55_L2 (call : CallF) (fuel base : Nat) (kp : Value → M → Res2) (kx2 : Value → Value → Value → Value → Value → M → Res2) (n : Nat) : Value → Value → Value → Value → Value → Value → M → Res2 :=
  Nat.rec (motive := fun _ => Value → Value → Value → Value → Value → Value → M → Res2) (fun _ _ _ _ _ _ _ => none)
    (fun _ ih x2 x3 x5 x6 x7 x10 m =>
      (k1 (mindexAddr E.P 106 x5 x10) fun v40_21 => (k1 (xload E.P m 4 v40_21) fun v41_22 => (k1 (mun .not v41_22) fun v42_23 => (kb v42_23 (k1 (mindexAddr E.P 106 x5 x10) fun v49_24 => (ks (xstore E.P base m 4 v49_24 (.bool true)) fun m => (k1 (xload E.P m 50 x3) fun v51_25 => (k1 (mfieldAddr E.P 26 x2 2) fun v53_26 => (k1 (xload E.P m 3 v53_26) fun v54_27 => (k1 (mbin E .quo 3 x10 v54_27) fun v55_28 => (k1 (mfieldAddr E.P 26 x2 2) fun v57_29 => (k1 (xload E.P m 3 v57_29) fun v58_30 => (k1 (mbin E .rem 3 x10 v58_30) fun v59_31 => (kc (kB m (call m.length 50 [v51_25, v55_28, v59_31] m)) (fun v60_32 m => (k1 (mextract 0 v60_32) fun v61_33 => (k1 (mextract 1 v60_32) fun v62_34 => (k1 (xload E.P m 26 x2) fun v43_35 => (kc (call base 49 [v43_35, v61_33, v62_34] m) (fun v46_36 m => (ih x2 x3 x5 x6 x7 v46_36 m)) (fun v m => kp v m)))))) (fun _ _ => none))))))))))) (kx2 x2 x3 x5 x6 x7 m)))))) n
noncomputable def r55_L0 (call : CallF) (fuel base : Nat) (kp : Value → M → Res2) (kx0 : Value → M → Res2) (n : Nat) : Value → Value → Value → Value → Value → M → Res2 :=
  Nat.rec (motive := fun _ => Value → Value → Value → Value → Value → M → Res2) (fun _ _ _ _ _ _ => none)
    (fun _ ih x2 x3 x5 x6 x7 m =>
      (k2 (vcall E.P base m .len [106] [x5]) fun v19_9 m => (k1 (mbin E .lss 3 x7 v19_9) fun v20_10 => (kb v20_10 (k1 (mfieldAddr E.P 26 x2 2) fun v24_11 => (k1 (xload E.P m 3 v24_11) fun v25_12 => (k1 (mbin E .quo 3 x7 v25_12) fun v26_13 => (k1 (mfieldAddr E.P 26 x2 2) fun v28_14 => (k1 (xload E.P m 3 v28_14) fun v29_15 => (k1 (mbin E .rem 3 x7 v29_15) fun v30_16 => (k1 (mindexAddr E.P 106 x5 x7) fun v33_17 => (k1 (xload E.P m 4 v33_17) fun v34_18 => (kb v34_18 (k1 (mbin E .add 3 x7 (.int .i64 1)) fun v22_19 => (ih x2 x3 x5 x6 v22_19 m)) (k1 (mbin E .add 3 x6 (.int .i64 1)) fun v36_20 => (r55_L2 call fuel base (fun v m => kp v m) (fun y2_37 y3_38 y5_39 y6_40 y7_41 m => (k1 (mbin E .add 3 y7_41 (.int .i64 1)) fun v22_42 => (ih y2_37 y3_38 y5_39 y6_40 v22_42 m))) fuel x2 x3 x5 v36_20 x7 x7 m))))))))))) (kx0 x6 m))))) n
noncomputable def r55 (call : CallF) (fuel base : Nat) (x0 : Value) (x1 : Value) (m : M) : Res2 :=
  (k2 (xbox m x0) fun v2_1 m => (k2 (xbox m x1) fun v3_2 m => (k1 (mfieldAddr E.P 26 v2_1 0) fun v11_3 => (k1 (xload E.P m 3 v11_3) fun v12_4 => (k1 (mfieldAddr E.P 26 v2_1 2) fun v13_5 => (k1 (xload E.P m 3 v13_5) fun v14_6 => (k1 (mbin E .mul 3 v12_4 v14_6) fun v15_7 => (k2 (xmakeSlice E.P m 106 v15_7 v15_7) fun v16_8 m => (r55_L0 call fuel base (fun v m => some (.pan v, m)) (fun y6_43 m => (fVal y6_43 fun v => some (.ret v, m))) fuel v2_1 v3_2 v16_8 (.int .i64 0) (.int .i64 0) m)))))))))
def keep55 : Keep := { region := fun i => ([[2, 3], [2, 3, 5], [2, 3, 5, 6], [2, 3, 5, 6, 7], [2, 3, 5, 6, 7, 20], [2, 3, 5, 6, 7], [2, 3, 5, 6, 7], [2, 3, 5, 6, 7, 34], [2, 3, 5, 6, 7], [2, 3, 5, 6, 7, 10], [2, 3, 5, 6, 7, 10, 42], [2, 3, 5, 6, 7, 10], [2, 3, 5, 6, 7, 10], [2, 3, 5, 6, 7, 8, 9], [4]] : List (List Nat))[i]?, exit := fun i => ([[6], [2, 3, 5, 6, 7], [2, 3, 5, 6, 7], [2, 3, 5, 6, 7, 8, 9]] : List (List Nat))[i]?, ret := some [4] }
noncomputable def r55_L2_R (call : CallF) (fuel base n : Nat) (vs : List Value) (m : M) (K : KT) : Res2 := match vs with
  | [x2, x3, x5, x6, x7, x10] => r55_L2 call fuel base (fun v m => K (.pan v) { n := 64, l := [] } m) (fun y2 y3 y5 y6 y7 m => K (.exit 2) { n := 64, l := [(2, y2), (3, y3), (5, y5), (6, y6), (7, y7)] } m) n x2 x3 x5 x6 x7 x10 m
  | _ => none
noncomputable def r55_L0_R (call : CallF) (fuel base n : Nat) (vs : List Value) (m : M) (K : KT) : Res2 := match vs with
  | [x2, x3, x5, x6, x7] => r55_L0 call fuel base (fun v m => K (.pan v) { n := 64, l := [] } m) (fun y6 m => K (.exit 0) { n := 64, l := [(6, y6)] } m) n x2 x3 x5 x6 x7 m
  | _ => none
noncomputable def lp55 (call : CallF) (fuel base : Nat) : Lp := lpsel [(2, fun T m K => kslots 64 [2, 3, 5, 6, 7, 10] T fun vs => r55_L2_R call fuel base fuel vs m K), (0, fun T m K => kslots 64 [2, 3, 5, 6, 7] T fun vs => r55_L0_R call fuel base fuel vs m K)]
noncomputable def c55 : Code := Tryd.f55.body.getD .skip
theorem r55_L2_lk (call : CallF) (fuel base : Nat) : LoopsOk E call (lp55 call fuel base) fuel base 2 (loopB (blockB (seqR (seqR (seqR (seqR (blockB (seqL (seqR (loopB (blockB (seqR (seqL (seqR (seqR (seqR c55)))))))))))))))) = (And (And True (And True True)) (And (And True True) True)) := by kernel_rfl
theorem r55_L2_ok (call : CallF) (fuel base : Nat) : LpOk E call (lp55 call fuel base) fuel base 2 (loopB (blockB (seqR (seqR (seqR (seqR (blockB (seqL (seqR (loopB (blockB (seqR (seqL (seqR (seqR (seqR c55)))))))))))))))) := by
  refine loop_ok (kp := keep55) (hb := Eq.mpr (r55_L2_lk call fuel base) (And.intro (And.intro trivial (And.intro trivial trivial)) (And.intro (And.intro trivial trivial) trivial))) 64 [2, 3, 5, 6, 7, 10] (fun n vs m K => r55_L2_R call fuel base n vs m K) ?_ ?_ (fun _ _ _ => rfl)
  · intro vs m K
    unfold r55_L2_R
    split <;> rfl
  · intro n vs m K hl
    match vs, hl with
    | [x2, x3, x5, x6, x7, x10], _ => show _ = _; kernel_rfl
theorem r55_L0_lk (call : CallF) (fuel base : Nat) : LoopsOk E call (lp55 call fuel base) fuel base 0 (loopB (blockB (seqR (seqL (seqR (seqR (seqR c55))))))) = (And (And True (And True True)) (And (And True (And (And True (And True True)) (And True (And True (LpOk E call (lp55 call fuel base) fuel base 2 (loopB (blockB (seqR (seqR (seqR (seqR (blockB (seqL (seqR (loopB (blockB (seqR (seqL (seqR (seqR (seqR c55))))))))))))))))))))) True)) := by kernel_rfl
theorem r55_L0_ok (call : CallF) (fuel base : Nat) : LpOk E call (lp55 call fuel base) fuel base 0 (loopB (blockB (seqR (seqL (seqR (seqR (seqR c55))))))) := by
  refine loop_ok (kp := keep55) (hb := Eq.mpr (r55_L0_lk call fuel base) (And.intro (And.intro trivial (And.intro trivial trivial)) (And.intro (And.intro trivial (And.intro (And.intro trivial (And.intro trivial trivial)) (And.intro trivial (And.intro trivial (r55_L2_ok call fuel base))))) trivial))) 64 [2, 3, 5, 6, 7] (fun n vs m K => r55_L0_R call fuel base n vs m K) ?_ ?_ (fun _ _ _ => rfl)
  · intro vs m K
    unfold r55_L0_R
    split <;> rfl
  · intro n vs m K hl
    match vs, hl with
    | [x2, x3, x5, x6, x7], _ => show _ = _; kernel_rfl
theorem r55_eq (call : CallF) (fuel base : Nat) (x0 : Value) (x1 : Value) (m : M) : kbody E call keep55 (lp55 call fuel base) base Tryd.f55 [x0, x1] m = r55 call fuel base x0 x1 m := by
  kernel_rfl
noncomputable def rf55 : RF := fun call fuel base args m => match args with
  | [x0, x1] => r55 call fuel base x0 x1 m
  | _ => none
theorem r55_lk (call : CallF) (fuel base : Nat) : LoopsOk E call (lp55 call fuel base) fuel base 0 c55 = (And True (And True (And True (And (And True (LpOk E call (lp55 call fuel base) fuel base 0 (loopB (blockB (seqR (seqL (seqR (seqR (seqR c55))))))))) (And True True))))) := by kernel_rfl
theorem r55_fn : E.P.funcs[55]? = some Tryd.f55 := by kernel_rfl
theorem r55_body : Tryd.f55.body = some c55 := by kernel_rfl
theorem rf55_ok : RFok E 55 rf55 := by
  refine ⟨Tryd.f55, r55_fn, fun call fuel base args m r _ h => ?_⟩
  unfold rf55 at h
  split at h
  · rw [← r55_eq] at h
    exact kbody_sound (c := c55) r55_body (Eq.mpr (r55_lk call fuel base) (And.intro trivial (And.intro trivial (And.intro trivial (And.intro (And.intro trivial (r55_L0_ok call fuel base)) (And.intro trivial trivial)))))) h
  · simp at h
end Go.AM
namespace Go.AM
open Go Go.Proofs
noncomputable def r58 (call : CallF) (fuel base : Nat) (x0 : Value) (x1 : Value) (x2 : Value) (m : M) : Res2 :=
  (k2 (vcall E.P base m .len [22] [x0]) fun v10_1 m => (kc (kB m (call m.length 77 [x2, v10_1] m)) (fun v11_2 m => (k1 (mindexAddr E.P 22 x0 v11_2) fun v12_3 => (k1 (xload E.P m 9 v12_3) fun v13_4 => (k1 (mindexAddr E.P 22 x0 (.int .i64 0)) fun v16_5 => (k1 (xload E.P m 9 v16_5) fun v17_6 => (k2 (vcall E.P base m .len [9] [v17_6]) fun v18_7 m => (kc (kB m (call m.length 77 [x1, v18_7] m)) (fun v19_8 m => (k1 (mindex E.P 9 v13_4 v19_8) fun v20_9 => (fVal v20_9 fun v => some (.ret v, m)))) (fun _ _ => none)))))))) (fun _ _ => none)))
def keep58 : Keep := { region := fun i => ([[0, 1, 2], [6]] : List (List Nat))[i]?, exit := fun i => ([] : List (List Nat))[i]?, ret := some [6] }
noncomputable def lp58 (call : CallF) (fuel base : Nat) : Lp := lpsel []
noncomputable def c58 : Code := Tryd.f58.body.getD .skip
theorem r58_eq (call : CallF) (fuel base : Nat) (x0 : Value) (x1 : Value) (x2 : Value) (m : M) : kbody E call keep58 (lp58 call fuel base) base Tryd.f58 [x0, x1, x2] m = r58 call fuel base x0 x1 x2 m := by
  kernel_rfl
noncomputable def rf58 : RF := fun call fuel base args m => match args with
  | [x0, x1, x2] => r58 call fuel base x0 x1 x2 m
  | _ => none
theorem r58_lk (call : CallF) (fuel base : Nat) : LoopsOk E call (lp58 call fuel base) fuel base 0 c58 = (And True (And True True)) := by kernel_rfl
theorem r58_fn : E.P.funcs[58]? = some Tryd.f58 := by kernel_rfl
theorem r58_body : Tryd.f58.body = some c58 := by kernel_rfl
theorem rf58_ok : RFok E 58 rf58 := by
  refine ⟨Tryd.f58, r58_fn, fun call fuel base args m r _ h => ?_⟩
  unfold rf58 at h
  split at h
  · rw [← r58_eq] at h
    exact kbody_sound (c := c58) r58_body (Eq.mpr (r58_lk call fuel base) (And.intro trivial (And.intro trivial trivial))) h
  · simp at h
end Go.AM
namespace Go.AM
open Go Go.Proofs
noncomputable def r60_L2 (call : CallF) (fuel base : Nat) (kp : Value → M → Res2) (kr : Value → M → Res2) (kx2 : Value → Value → Value → Value → M → Res2) (n : Nat) : Value → Value → Value → Value → Value → M → Res2 :=
  Nat.rec (motive := fun _ => Value → Value → Value → Value → Value → M → Res2) (fun _ _ _ _ _ _ => none)
    (fun _ ih x0 x1 x2 x7 x8 m =>
      (k1 (mindexAddr E.P 22 x0 (.int .i64 0)) fun v17_3 => (k1 (xload E.P m 9 v17_3) fun v18_4 => (k2 (vcall E.P base m .len [9] [v18_4]) fun v19_5 m => (k1 (mbin E .lss 3 x8 v19_5) fun v20_6 => (kb v20_6 (kc (call base 58 [x0, x8, x7] m) (fun v26_7 m => (k1 (mbin E .add 3 x8 x1) fun v30_8 => (k1 (mbin E .add 3 x7 x2) fun v33_9 => (kc (call base 58 [x0, v30_8, v33_9] m) (fun v34_10 m => (k1 (mbin E .neq 5 v26_7 v34_10) fun v35_11 => (kb v35_11 (kr (.bool false) m) (k1 (mbin E .add 3 x8 (.int .i64 1)) fun v22_12 => (ih x0 x1 x2 x7 v22_12 m))))) (fun v m => kp v m))))) (fun v m => kp v m)) (kx2 x0 x1 x2 x7 m))))))) n
noncomputable def r60_L0 (call : CallF) (fuel base : Nat) (kp : Value → M → Res2) (kr : Value → M → Res2) (kx0 : M → Res2) (n : Nat) : Value → Value → Value → Value → M → Res2 :=
  Nat.rec (motive := fun _ => Value → Value → Value → Value → M → Res2) (fun _ _ _ _ _ => none)
    (fun _ ih x0 x1 x2 x7 m =>
      (k2 (vcall E.P base m .len [22] [x0]) fun v11_1 m => (k1 (mbin E .lss 3 x7 v11_1) fun v12_2 => (kb v12_2 (r60_L2 call fuel base (fun v m => kp v m) (fun y6_13 m => (kr y6_13 m)) (fun y0_14 y1_15 y2_16 y7_17 m => (k1 (mbin E .add 3 y7_17 (.int .i64 1)) fun v14_18 => (ih y0_14 y1_15 y2_16 v14_18 m))) fuel x0 x1 x2 x7 (.int .i64 0) m) (kx0 m))))) n
noncomputable def r60 (call : CallF) (fuel base : Nat) (x0 : Value) (x1 : Value) (x2 : Value) (m : M) : Res2 :=
  (r60_L0 call fuel base (fun v m => some (.pan v, m)) (fun y6_19 m => (fVal y6_19 fun v => some (.ret v, m))) (fun m => (fVal (.bool true) fun v => some (.ret v, m))) fuel x0 x1 x2 (.int .i64 0) m)
def keep60 : Keep := { region := fun i => ([[0, 1, 2], [0, 1, 2, 7], [0, 1, 2, 7, 12], [0, 1, 2, 7], [0, 1, 2, 7, 8], [0, 1, 2, 7, 8, 20], [0, 1, 2, 7, 8], [0, 1, 2, 7, 8, 35], [6], [6]] : List (List Nat))[i]?, exit := fun i => ([[], [0, 1, 2, 7], [0, 1, 2, 7], [0, 1, 2, 7, 8]] : List (List Nat))[i]?, ret := some [6] }
noncomputable def r60_L2_R (call : CallF) (fuel base n : Nat) (vs : List Value) (m : M) (K : KT) : Res2 := match vs with
  | [x0, x1, x2, x7, x8] => r60_L2 call fuel base (fun v m => K (.pan v) { n := 36, l := [] } m) (fun y6 m => K .ret { n := 36, l := [(6, y6)] } m) (fun y0 y1 y2 y7 m => K (.exit 2) { n := 36, l := [(0, y0), (1, y1), (2, y2), (7, y7)] } m) n x0 x1 x2 x7 x8 m
  | _ => none
noncomputable def r60_L0_R (call : CallF) (fuel base n : Nat) (vs : List Value) (m : M) (K : KT) : Res2 := match vs with
  | [x0, x1, x2, x7] => r60_L0 call fuel base (fun v m => K (.pan v) { n := 36, l := [] } m) (fun y6 m => K .ret { n := 36, l := [(6, y6)] } m) (fun m => K (.exit 0) { n := 36, l := [] } m) n x0 x1 x2 x7 m
  | _ => none
noncomputable def lp60 (call : CallF) (fuel base : Nat) : Lp := lpsel [(2, fun T m K => kslots 36 [0, 1, 2, 7, 8] T fun vs => r60_L2_R call fuel base fuel vs m K), (0, fun T m K => kslots 36 [0, 1, 2, 7] T fun vs => r60_L0_R call fuel base fuel vs m K)]
noncomputable def c60 : Code := Tryd.f60.body.getD .skip
theorem r60_L2_lk (call : CallF) (fuel base : Nat) : LoopsOk E call (lp60 call fuel base) fuel base 2 (loopB (blockB (seqR (blockB (seqL (seqR (loopB (blockB (seqR (seqL (seqR c60))))))))))) = (And (And True (And True True)) (And (And True (And (And True True) True)) True)) := by kernel_rfl
theorem r60_L2_ok (call : CallF) (fuel base : Nat) : LpOk E call (lp60 call fuel base) fuel base 2 (loopB (blockB (seqR (blockB (seqL (seqR (loopB (blockB (seqR (seqL (seqR c60))))))))))) := by
  refine loop_ok (kp := keep60) (hb := Eq.mpr (r60_L2_lk call fuel base) (And.intro (And.intro trivial (And.intro trivial trivial)) (And.intro (And.intro trivial (And.intro (And.intro trivial trivial) trivial)) trivial))) 36 [0, 1, 2, 7, 8] (fun n vs m K => r60_L2_R call fuel base n vs m K) ?_ ?_ (fun _ _ _ => rfl)
  · intro vs m K
    unfold r60_L2_R
    split <;> rfl
  · intro n vs m K hl
    match vs, hl with
    | [x0, x1, x2, x7, x8], _ => show _ = _; kernel_rfl
theorem r60_L0_lk (call : CallF) (fuel base : Nat) : LoopsOk E call (lp60 call fuel base) fuel base 0 (loopB (blockB (seqR (seqL (seqR c60))))) = (And (And True (And True True)) (And (And True (LpOk E call (lp60 call fuel base) fuel base 2 (loopB (blockB (seqR (blockB (seqL (seqR (loopB (blockB (seqR (seqL (seqR c60))))))))))))) True)) := by kernel_rfl
theorem r60_L0_ok (call : CallF) (fuel base : Nat) : LpOk E call (lp60 call fuel base) fuel base 0 (loopB (blockB (seqR (seqL (seqR c60))))) := by
  refine loop_ok (kp := keep60) (hb := Eq.mpr (r60_L0_lk call fuel base) (And.intro (And.intro trivial (And.intro trivial trivial)) (And.intro (And.intro trivial (r60_L2_ok call fuel base)) trivial))) 36 [0, 1, 2, 7] (fun n vs m K => r60_L0_R call fuel base n vs m K) ?_ ?_ (fun _ _ _ => rfl)
  · intro vs m K
    unfold r60_L0_R
    split <;> rfl
  · intro n vs m K hl
    match vs, hl with
    | [x0, x1, x2, x7], _ => show _ = _; kernel_rfl
theorem r60_eq (call : CallF) (fuel base : Nat) (x0 : Value) (x1 : Value) (x2 : Value) (m : M) : kbody E call keep60 (lp60 call fuel base) base Tryd.f60 [x0, x1, x2] m = r60 call fuel base x0 x1 x2 m := by
  kernel_rfl
noncomputable def rf60 : RF := fun call fuel base args m => match args with
  | [x0, x1, x2] => r60 call fuel base x0 x1 x2 m
  | _ => none
theorem r60_lk (call : CallF) (fuel base : Nat) : LoopsOk E call (lp60 call fuel base) fuel base 0 c60 = (And True (And (And True (LpOk E call (lp60 call fuel base) fuel base 0 (loopB (blockB (seqR (seqL (seqR c60))))))) (And True True))) := by kernel_rfl
theorem r60_fn : E.P.funcs[60]? = some Tryd.f60 := by kernel_rfl
theorem r60_body : Tryd.f60.body = some c60 := by kernel_rfl
theorem rf60_ok : RFok E 60 rf60 := by
  refine ⟨Tryd.f60, r60_fn, fun call fuel base args m r _ h => ?_⟩
  unfold rf60 at h
  split at h
  · rw [← r60_eq] at h
    exact kbody_sound (c := c60) r60_body (Eq.mpr (r60_lk call fuel base) (And.intro trivial (And.intro (And.intro trivial (r60_L0_ok call fuel base)) (And.intro trivial trivial)))) h
  · simp at h
end Go.AM
namespace Go.AM
open Go Go.Proofs
noncomputable def r61 (call : CallF) (fuel base : Nat) (x0 : Value) (m : M) : Res2 :=
  (k2 (xalloc E.P m 50) fun v2_1 m => (k1 (mbin E .eql 3 x0 (.int .i64 0)) fun v5_2 => (kb v5_2 (k1 (mbuild E.P 50 [(0, (.int .i64 1)), (3, (.int .i64 1))]) fun v6_3 => (ks (xstore E.P base m 50 v2_1 v6_3) fun m => (k0 (mload E.P m 50 v2_1) fun r_4 => (fVal r_4 fun v => some (.ret v, m))))) (k1 (mbin E .eql 3 x0 (.int .i64 1)) fun v8_5 => (kb v8_5 (k1 (mbuild E.P 50 [(1, (.int .i64 (-1))), (2, (.int .i64 1))]) fun v9_6 => (ks (xstore E.P base m 50 v2_1 v9_6) fun m => (k0 (mload E.P m 50 v2_1) fun r_7 => (fVal r_7 fun v => some (.ret v, m))))) (k1 (mbin E .eql 3 x0 (.int .i64 2)) fun v11_8 => (kb v11_8 (k1 (mbuild E.P 50 [(0, (.int .i64 (-1))), (3, (.int .i64 (-1)))]) fun v12_9 => (ks (xstore E.P base m 50 v2_1 v12_9) fun m => (k0 (mload E.P m 50 v2_1) fun r_10 => (fVal r_10 fun v => some (.ret v, m))))) (k1 (mbin E .eql 3 x0 (.int .i64 3)) fun v14_11 => (kb v14_11 (k1 (mbuild E.P 50 [(1, (.int .i64 1)), (2, (.int .i64 (-1)))]) fun v15_12 => (ks (xstore E.P base m 50 v2_1 v15_12) fun m => (k0 (mload E.P m 50 v2_1) fun r_13 => (fVal r_13 fun v => some (.ret v, m))))) (k1 (mbin E .eql 3 x0 (.int .i64 4)) fun v17_14 => (kb v17_14 (k1 (mbuild E.P 50 [(0, (.int .i64 1)), (3, (.int .i64 (-1)))]) fun v18_15 => (ks (xstore E.P base m 50 v2_1 v18_15) fun m => (k0 (mload E.P m 50 v2_1) fun r_16 => (fVal r_16 fun v => some (.ret v, m))))) (k1 (mbin E .eql 3 x0 (.int .i64 5)) fun v20_17 => (kb v20_17 (k1 (mbuild E.P 50 [(0, (.int .i64 (-1))), (3, (.int .i64 1))]) fun v21_18 => (ks (xstore E.P base m 50 v2_1 v21_18) fun m => (k0 (mload E.P m 50 v2_1) fun r_19 => (fVal r_19 fun v => some (.ret v, m))))) (k1 (mbin E .eql 3 x0 (.int .i64 6)) fun v23_20 => (kb v23_20 (k1 (mbuild E.P 50 [(1, (.int .i64 1)), (2, (.int .i64 1))]) fun v24_21 => (ks (xstore E.P base m 50 v2_1 v24_21) fun m => (k0 (mload E.P m 50 v2_1) fun r_22 => (fVal r_22 fun v => some (.ret v, m))))) (k1 (mbuild E.P 50 [(1, (.int .i64 (-1))), (2, (.int .i64 (-1)))]) fun v25_23 => (ks (xstore E.P base m 50 v2_1 v25_23) fun m => (k0 (mload E.P m 50 v2_1) fun r_24 => (fVal r_24 fun v => some (.ret v, m))))))))))))))))))))
def keep61 : Keep := { region := fun i => ([[0, 2], [2, 3], [2, 3, 4], [2], [2, 3, 7], [2], [2, 3, 10], [2], [2, 3, 13], [2], [2, 3, 16], [2], [2, 3, 19], [2], [2, 22], [2], [2]] : List (List Nat))[i]?, exit := fun i => ([[2]] : List (List Nat))[i]?, ret := some [2] }
noncomputable def lp61 (call : CallF) (fuel base : Nat) : Lp := lpsel []
noncomputable def c61 : Code := Tryd.f61.body.getD .skip
theorem r61_eq (call : CallF) (fuel base : Nat) (x0 : Value) (m : M) : kbody E call keep61 (lp61 call fuel base) base Tryd.f61 [x0] m = r61 call fuel base x0 m := by
  kernel_rfl
noncomputable def rf61 : RF := fun call fuel base args m => match args with
  | [x0] => r61 call fuel base x0 m
  | _ => none
theorem r61_lk (call : CallF) (fuel base : Nat) : LoopsOk E call (lp61 call fuel base) fuel base 0 c61 = (And True (And (And True (And True (And (And True True) (And True (And (And True True) (And True (And (And True True) (And True (And (And True True) (And True (And (And True True) (And True (And (And True True) (And True (And (And True True) True))))))))))))))) (And True True))) := by kernel_rfl
theorem r61_fn : E.P.funcs[61]? = some Tryd.f61 := by kernel_rfl
theorem r61_body : Tryd.f61.body = some c61 := by kernel_rfl
theorem rf61_ok : RFok E 61 rf61 := by
  refine ⟨Tryd.f61, r61_fn, fun call fuel base args m r _ h => ?_⟩
  unfold rf61 at h
  split at h
  · rw [← r61_eq] at h
    exact kbody_sound (c := c61) r61_body (Eq.mpr (r61_lk call fuel base) (And.intro trivial (And.intro (And.intro trivial (And.intro trivial (And.intro (And.intro trivial trivial) (And.intro trivial (And.intro (And.intro trivial trivial) (And.intro trivial (And.intro (And.intro trivial trivial) (And.intro trivial (And.intro (And.intro trivial trivial) (And.intro trivial (And.intro (And.intro trivial trivial) (And.intro trivial (And.intro (And.intro trivial trivial) (And.intro trivial (And.intro (And.intro trivial trivial) trivial))))))))))))))) (And.intro trivial trivial)))) h
  · simp at h
end Go.AM
namespace Go.AM
open Go Go.Proofs
noncomputable def r62_L0 (call : CallF) (fuel base : Nat) (kr : Value → M → Res2) (kx0 : M → Res2) (n : Nat) : Value → Value → Value → M → Res2 :=
  Nat.rec (motive := fun _ => Value → Value → Value → M → Res2) (fun _ _ _ _ => none)
    (fun _ ih x0 x5 x6 m =>
      (k1 (mbin E .lss 3 x6 x5) fun v7_2 => (kb v7_2 (k1 (mindex E.P 9 x0 x6) fun v11_3 => (k1 (mbin E .lss 5 v11_3 (.int .u8 97)) fun v12_4 => (kb v12_4 (kr (.bool false) m) (k1 (mindex E.P 9 x0 x6) fun v16_5 => (k1 (mbin E .gtr 5 v16_5 (.int .u8 100)) fun v17_6 => (kb v17_6 (kr (.bool false) m) (k1 (mbin E .add 3 x6 (.int .i64 1)) fun v19_7 => (ih x0 x5 v19_7 m)))))))) (kx0 m)))) n
noncomputable def r62 (call : CallF) (fuel base : Nat) (x0 : Value) (m : M) : Res2 :=
  (k2 (vcall E.P base m .len [9] [x0]) fun v5_1 m => (r62_L0 call fuel base (fun y2_8 m => (fVal y2_8 fun v => some (.ret v, m))) (fun m => (fVal (.bool true) fun v => some (.ret v, m))) fuel x0 v5_1 (.int .i64 0) m))
def keep62 : Keep := { region := fun i => ([[0], [0, 5, 6], [0, 5, 6, 7], [0, 3, 5, 6], [0, 5, 6, 18], [2], [0, 5, 6], [2]] : List (List Nat))[i]?, exit := fun i => ([[], [0, 5, 6]] : List (List Nat))[i]?, ret := some [2] }
noncomputable def r62_L0_R (call : CallF) (fuel base n : Nat) (vs : List Value) (m : M) (K : KT) : Res2 := match vs with
  | [x0, x5, x6] => r62_L0 call fuel base (fun y2 m => K .ret { n := 20, l := [(2, y2)] } m) (fun m => K (.exit 0) { n := 20, l := [] } m) n x0 x5 x6 m
  | _ => none
noncomputable def lp62 (call : CallF) (fuel base : Nat) : Lp := lpsel [(0, fun T m K => kslots 20 [0, 5, 6] T fun vs => r62_L0_R call fuel base fuel vs m K)]
noncomputable def c62 : Code := Tryd.f62.body.getD .skip
theorem r62_L0_lk (call : CallF) (fuel base : Nat) : LoopsOk E call (lp62 call fuel base) fuel base 0 (loopB (blockB (seqR (seqL (seqR c62))))) = (And True (And (And True True) (And (And True (And True (And (And True True) True))) True))) := by kernel_rfl
theorem r62_L0_ok (call : CallF) (fuel base : Nat) : LpOk E call (lp62 call fuel base) fuel base 0 (loopB (blockB (seqR (seqL (seqR c62))))) := by
  refine loop_ok (kp := keep62) (hb := Eq.mpr (r62_L0_lk call fuel base) (And.intro trivial (And.intro (And.intro trivial trivial) (And.intro (And.intro trivial (And.intro trivial (And.intro (And.intro trivial trivial) trivial))) trivial)))) 20 [0, 5, 6] (fun n vs m K => r62_L0_R call fuel base n vs m K) ?_ ?_ (fun _ _ _ => rfl)
  · intro vs m K
    unfold r62_L0_R
    split <;> rfl
  · intro n vs m K hl
    match vs, hl with
    | [x0, x5, x6], _ => show _ = _; kernel_rfl
theorem r62_eq (call : CallF) (fuel base : Nat) (x0 : Value) (m : M) : kbody E call keep62 (lp62 call fuel base) base Tryd.f62 [x0] m = r62 call fuel base x0 m := by
  kernel_rfl
noncomputable def rf62 : RF := fun call fuel base args m => match args with
  | [x0] => r62 call fuel base x0 m
  | _ => none
theorem r62_lk (call : CallF) (fuel base : Nat) : LoopsOk E call (lp62 call fuel base) fuel base 0 c62 = (And True (And (And True (LpOk E call (lp62 call fuel base) fuel base 0 (loopB (blockB (seqR (seqL (seqR c62))))))) (And True True))) := by kernel_rfl
theorem r62_fn : E.P.funcs[62]? = some Tryd.f62 := by kernel_rfl
theorem r62_body : Tryd.f62.body = some c62 := by kernel_rfl
theorem rf62_ok : RFok E 62 rf62 := by
  refine ⟨Tryd.f62, r62_fn, fun call fuel base args m r _ h => ?_⟩
  unfold rf62 at h
  split at h
  · rw [← r62_eq] at h
    exact kbody_sound (c := c62) r62_body (Eq.mpr (r62_lk call fuel base) (And.intro trivial (And.intro (And.intro trivial (r62_L0_ok call fuel base)) (And.intro trivial trivial)))) h
  · simp at h
end Go.AM
namespace Go.AM
open Go Go.Proofs
noncomputable def r63_L4 (call : CallF) (fuel base : Nat) (kr : Value → M → Res2) (kx4 : Value → Value → Value → Value → Value → M → Res2) (n : Nat) : Value → Value → Value → Value → Value → Value → Value → Value → M → Res2 :=
  Nat.rec (motive := fun _ => Value → Value → Value → Value → Value → Value → Value → Value → M → Res2) (fun _ _ _ _ _ _ _ _ _ => none)
    (fun _ ih x0 x3 x5 x6 x22 x23 x26 x27 m =>
      (k1 (mbin E .lss 3 x27 x26) fun v28_14 => (kb v28_14 (k1 (mbuild E.P 103 [(0, x27), (1, x6)]) fun v32_15 => (k2 (xalloc E.P m 103) fun v8_16 m => (ks (xstore E.P base m 103 v8_16 v32_15) fun m => (k1 (xload E.P m 103 v8_16) fun v34_17 => (kc (kB m (call m.length 85 [x0, v34_17] m)) (fun v35_18 m => (k1 (xload E.P m 50 x3) fun v37_19 => (k1 (xload E.P m 103 v8_16) fun v38_20 => (kc (kB m (call m.length 79 [v37_19, v38_20] m)) (fun v39_21 m => (kc (kB m (call m.length 85 [x0, v39_21] m)) (fun v40_22 m => (k1 (mbin E .neq 5 v35_18 v40_22) fun v41_23 => (kb v41_23 (kr (.bool false) m) (k1 (mbin E .add 3 x27 (.int .i64 1)) fun v42_24 => (ih x0 x3 x5 x6 x22 x23 x26 v42_24 m))))) (fun _ _ => none))) (fun _ _ => none))))) (fun _ _ => none)))))) (kx4 x0 x3 x5 x22 x23 m)))) n
noncomputable def r63_L0 (call : CallF) (fuel base : Nat) (kx0 : Value → Value → Value → M → Res2) (n : Nat) : Value → Value → Value → M → Res2 :=
  Nat.rec (motive := fun _ => Value → Value → Value → M → Res2) (fun _ _ _ _ => none)
    (fun _ ih x0 x3 x5 m =>
      (k1 (mindexAddr E.P 66 x0 (.int .i64 0)) fun v13_3 => (k1 (xload E.P m 9 v13_3) fun v14_4 => (k2 (vcall E.P base m .len [9] [v14_4]) fun v15_5 m => (k1 (mbin E .rem 3 x5 v15_5) fun v16_6 => (k1 (mbin E .neq 3 v16_6 (.int .i64 0)) fun v17_7 => (kb v17_7 (k2 (vcall E.P base m .len [66] [x0]) fun v20_8 m => (k1 (mbin E .add 3 x5 v20_8) fun v21_9 => (ih x0 x3 v21_9 m))) (kx0 x0 x3 x5 m)))))))) n
noncomputable def r63_L2 (call : CallF) (fuel base : Nat) (kr : Value → M → Res2) (kx2 : M → Res2) (n : Nat) : Value → Value → Value → Value → Value → M → Res2 :=
  Nat.rec (motive := fun _ => Value → Value → Value → Value → Value → M → Res2) (fun _ _ _ _ _ _ => none)
    (fun _ ih x0 x3 x5 x22 x23 m =>
      (k1 (mbin E .lss 3 x23 x22) fun v24_13 => (kb v24_13 (r63_L4 call fuel base (fun y4_25 m => (kr y4_25 m)) (fun y0_26 y3_27 y5_28 y22_29 y23_30 m => (k1 (mbin E .add 3 y23_30 (.int .i64 1)) fun v43_31 => (ih y0_26 y3_27 y5_28 y22_29 v43_31 m))) fuel x0 x3 x5 x23 x22 x23 x5 (.int .i64 0) m) (kx2 m)))) n
noncomputable def r63 (call : CallF) (fuel base : Nat) (x0 : Value) (x1 : Value) (m : M) : Res2 :=
  (k2 (xbox m x1) fun v3_1 m => (k2 (vcall E.P base m .len [66] [x0]) fun v10_2 m => (r63_L0 call fuel base (fun y0_10 y3_11 y5_12 m => (r63_L2 call fuel base (fun y4_32 m => (fVal y4_32 fun v => some (.ret v, m))) (fun m => (fVal (.bool true) fun v => some (.ret v, m))) fuel y0_10 y3_11 y5_12 y5_12 (.int .i64 0) m)) fuel x0 v3_1 v10_2 m)))
def keep63 : Keep := { region := fun i => ([[0, 3], [0, 3, 5], [0, 3, 5, 17], [0, 3, 5], [0, 3, 5, 22, 23], [0, 3, 5, 22, 23, 24], [0, 3, 5, 6, 22, 23], [0, 3, 5, 6, 22, 23, 26, 27], [0, 3, 5, 6, 22, 23, 26, 27, 28], [0, 3, 5, 6, 7, 22, 23, 26, 27], [0, 3, 5, 6, 8, 22, 23, 26, 27], [0, 3, 5, 6, 22, 23, 26, 27, 41], [4], [0, 3, 5, 6, 22, 23, 26, 27], [0, 3, 5, 22, 23], [4]] : List (List Nat))[i]?, exit := fun i => ([[0, 3, 5], [0, 3, 5], [], [0, 3, 5, 22, 23], [0, 3, 5, 22, 23], [0, 3, 5, 6, 22, 23, 26, 27]] : List (List Nat))[i]?, ret := some [4] }
noncomputable def r63_L4_R (call : CallF) (fuel base n : Nat) (vs : List Value) (m : M) (K : KT) : Res2 := match vs with
  | [x0, x3, x5, x6, x22, x23, x26, x27] => r63_L4 call fuel base (fun y4 m => K .ret { n := 44, l := [(4, y4)] } m) (fun y0 y3 y5 y22 y23 m => K (.exit 4) { n := 44, l := [(0, y0), (3, y3), (5, y5), (22, y22), (23, y23)] } m) n x0 x3 x5 x6 x22 x23 x26 x27 m
  | _ => none
noncomputable def r63_L0_R (call : CallF) (fuel base n : Nat) (vs : List Value) (m : M) (K : KT) : Res2 := match vs with
  | [x0, x3, x5] => r63_L0 call fuel base (fun y0 y3 y5 m => K (.exit 0) { n := 44, l := [(0, y0), (3, y3), (5, y5)] } m) n x0 x3 x5 m
  | _ => none
noncomputable def r63_L2_R (call : CallF) (fuel base n : Nat) (vs : List Value) (m : M) (K : KT) : Res2 := match vs with
  | [x0, x3, x5, x22, x23] => r63_L2 call fuel base (fun y4 m => K .ret { n := 44, l := [(4, y4)] } m) (fun m => K (.exit 2) { n := 44, l := [] } m) n x0 x3 x5 x22 x23 m
  | _ => none
noncomputable def lp63 (call : CallF) (fuel base : Nat) : Lp := lpsel [(4, fun T m K => kslots 44 [0, 3, 5, 6, 22, 23, 26, 27] T fun vs => r63_L4_R call fuel base fuel vs m K), (0, fun T m K => kslots 44 [0, 3, 5] T fun vs => r63_L0_R call fuel base fuel vs m K), (2, fun T m K => kslots 44 [0, 3, 5, 22, 23] T fun vs => r63_L2_R call fuel base fuel vs m K)]
noncomputable def c63 : Code := Tryd.f63.body.getD .skip
theorem r63_L4_lk (call : CallF) (fuel base : Nat) : LoopsOk E call (lp63 call fuel base) fuel base 4 (loopB (blockB (seqR (seqR (blockB (seqL (seqR (seqR (loopB (blockB (seqR (seqL (seqR (seqR (seqR c63))))))))))))))) = (And True (And (And True True) (And (And True (And True (And True (And (And True True) True)))) True))) := by kernel_rfl
theorem r63_L4_ok (call : CallF) (fuel base : Nat) : LpOk E call (lp63 call fuel base) fuel base 4 (loopB (blockB (seqR (seqR (blockB (seqL (seqR (seqR (loopB (blockB (seqR (seqL (seqR (seqR (seqR c63))))))))))))))) := by
  refine loop_ok (kp := keep63) (hb := Eq.mpr (r63_L4_lk call fuel base) (And.intro trivial (And.intro (And.intro trivial trivial) (And.intro (And.intro trivial (And.intro trivial (And.intro trivial (And.intro (And.intro trivial trivial) trivial)))) trivial)))) 44 [0, 3, 5, 6, 22, 23, 26, 27] (fun n vs m K => r63_L4_R call fuel base n vs m K) ?_ ?_ (fun _ _ _ => rfl)
  · intro vs m K
    unfold r63_L4_R
    split <;> rfl
  · intro n vs m K hl
    match vs, hl with
    | [x0, x3, x5, x6, x22, x23, x26, x27], _ => show _ = _; kernel_rfl
theorem r63_L0_lk (call : CallF) (fuel base : Nat) : LoopsOk E call (lp63 call fuel base) fuel base 0 (loopB (blockB (seqL (seqR (seqR c63))))) = (And (And True (And True True)) True) := by kernel_rfl
theorem r63_L0_ok (call : CallF) (fuel base : Nat) : LpOk E call (lp63 call fuel base) fuel base 0 (loopB (blockB (seqL (seqR (seqR c63))))) := by
  refine loop_ok (kp := keep63) (hb := Eq.mpr (r63_L0_lk call fuel base) (And.intro (And.intro trivial (And.intro trivial trivial)) trivial)) 44 [0, 3, 5] (fun n vs m K => r63_L0_R call fuel base n vs m K) ?_ ?_ (fun _ _ _ => rfl)
  · intro vs m K
    unfold r63_L0_R
    split <;> rfl
  · intro n vs m K hl
    match vs, hl with
    | [x0, x3, x5], _ => show _ = _; kernel_rfl
theorem r63_L2_lk (call : CallF) (fuel base : Nat) : LoopsOk E call (lp63 call fuel base) fuel base 2 (loopB (blockB (seqR (seqL (seqR (seqR (seqR c63))))))) = (And True (And (And True True) (And (And True (And True (LpOk E call (lp63 call fuel base) fuel base 4 (loopB (blockB (seqR (seqR (blockB (seqL (seqR (seqR (loopB (blockB (seqR (seqL (seqR (seqR (seqR c63)))))))))))))))))) True))) := by kernel_rfl
theorem r63_L2_ok (call : CallF) (fuel base : Nat) : LpOk E call (lp63 call fuel base) fuel base 2 (loopB (blockB (seqR (seqL (seqR (seqR (seqR c63))))))) := by
  refine loop_ok (kp := keep63) (hb := Eq.mpr (r63_L2_lk call fuel base) (And.intro trivial (And.intro (And.intro trivial trivial) (And.intro (And.intro trivial (And.intro trivial (r63_L4_ok call fuel base))) trivial)))) 44 [0, 3, 5, 22, 23] (fun n vs m K => r63_L2_R call fuel base n vs m K) ?_ ?_ (fun _ _ _ => rfl)
  · intro vs m K
    unfold r63_L2_R
    split <;> rfl
  · intro n vs m K hl
    match vs, hl with
    | [x0, x3, x5, x22, x23], _ => show _ = _; kernel_rfl
theorem r63_eq (call : CallF) (fuel base : Nat) (x0 : Value) (x1 : Value) (m : M) : kbody E call keep63 (lp63 call fuel base) base Tryd.f63 [x0, x1] m = r63 call fuel base x0 x1 m := by
  kernel_rfl
noncomputable def rf63 : RF := fun call fuel base args m => match args with
  | [x0, x1] => r63 call fuel base x0 x1 m
  | _ => none
theorem r63_lk (call : CallF) (fuel base : Nat) : LoopsOk E call (lp63 call fuel base) fuel base 0 c63 = (And True (And True (And (LpOk E call (lp63 call fuel base) fuel base 0 (loopB (blockB (seqL (seqR (seqR c63)))))) (And (And True (LpOk E call (lp63 call fuel base) fuel base 2 (loopB (blockB (seqR (seqL (seqR (seqR (seqR c63))))))))) (And True True))))) := by kernel_rfl
theorem r63_fn : E.P.funcs[63]? = some Tryd.f63 := by kernel_rfl
theorem r63_body : Tryd.f63.body = some c63 := by kernel_rfl
theorem rf63_ok : RFok E 63 rf63 := by
  refine ⟨Tryd.f63, r63_fn, fun call fuel base args m r _ h => ?_⟩
  unfold rf63 at h
  split at h
  · rw [← r63_eq] at h
    exact kbody_sound (c := c63) r63_body (Eq.mpr (r63_lk call fuel base) (And.intro trivial (And.intro trivial (And.intro (r63_L0_ok call fuel base) (And.intro (And.intro trivial (r63_L2_ok call fuel base)) (And.intro trivial trivial)))))) h
  · simp at h
end Go.AM
namespace Go.AM
open Go Go.Proofs
noncomputable def r64 (call : CallF) (fuel base : Nat) (x0 : Value) (x1 : Value) (x2 : Value) (m : M) : Res2 :=
  (k2 (xalloc E.P m 50) fun v6_1 m => (k1 (mindexAddr E.P 92 (.pointer (some ⟨0, 0, some 0⟩)) x0) fun v9_2 => (k1 (xload E.P m 50 v9_2) fun v10_3 => (k2 (xalloc E.P m 50) fun v7_4 m => (ks (xstore E.P base m 50 v7_4 v10_3) fun m => (k1 (mfieldAddr E.P 50 v7_4 4) fun v13_5 => (ks (xstore E.P base m 3 v13_5 x1) fun m => (k1 (mfieldAddr E.P 50 v7_4 5) fun v14_6 => (ks (xstore E.P base m 3 v14_6 x2) fun m => (k1 (xload E.P m 50 v7_4) fun v15_7 => (ks (xstore E.P base m 50 v6_1 v15_7) fun m => (k0 (mload E.P m 50 v6_1) fun r_8 => (fVal r_8 fun v => some (.ret v, m))))))))))))))
def keep64 : Keep := { region := fun i => ([[0, 1, 2, 6], [1, 2, 6, 7], [6, 7], [6]] : List (List Nat))[i]?, exit := fun i => ([] : List (List Nat))[i]?, ret := some [6] }
noncomputable def lp64 (call : CallF) (fuel base : Nat) : Lp := lpsel []
noncomputable def c64 : Code := Tryd.f64.body.getD .skip
theorem r64_eq (call : CallF) (fuel base : Nat) (x0 : Value) (x1 : Value) (x2 : Value) (m : M) : kbody E call keep64 (lp64 call fuel base) base Tryd.f64 [x0, x1, x2] m = r64 call fuel base x0 x1 x2 m := by
  kernel_rfl
noncomputable def rf64 : RF := fun call fuel base args m => match args with
  | [x0, x1, x2] => r64 call fuel base x0 x1 x2 m
  | _ => none
theorem r64_lk (call : CallF) (fuel base : Nat) : LoopsOk E call (lp64 call fuel base) fuel base 0 c64 = (And True (And True (And True (And True True)))) := by kernel_rfl
theorem r64_fn : E.P.funcs[64]? = some Tryd.f64 := by kernel_rfl
theorem r64_body : Tryd.f64.body = some c64 := by kernel_rfl
theorem rf64_ok : RFok E 64 rf64 := by
  refine ⟨Tryd.f64, r64_fn, fun call fuel base args m r _ h => ?_⟩
  unfold rf64 at h
  split at h
  · rw [← r64_eq] at h
    exact kbody_sound (c := c64) r64_body (Eq.mpr (r64_lk call fuel base) (And.intro trivial (And.intro trivial (And.intro trivial (And.intro trivial trivial))))) h
  · simp at h
end Go.AM
namespace Go.AM
open Go Go.Proofs
noncomputable def r65_L2 (call : CallF) (fuel base : Nat) (kp : Value → M → Res2) (kr : Value → M → Res2) (kx2 : Value → Value → Value → Value → Value → M → Res2) (n : Nat) : Value → Value → Value → Value → Value → Value → Value → Value → M → Res2 :=
  Nat.rec (motive := fun _ => Value → Value → Value → Value → Value → Value → Value → Value → M → Res2) (fun _ _ _ _ _ _ _ _ _ => none)
    (fun _ ih x0 x1 x5 x7 x11 x12 x16 x17 m =>
      (k1 (mbin E .lss 3 x17 x16) fun v18_7 => (kb v18_7 (kc (call base 64 [x1, x7, x17] m) (fun v23_8 m => (k2 (xalloc E.P m 50) fun v9_9 m => (ks (xstore E.P base m 50 v9_9 v23_8) fun m => (k1 (xload E.P m 50 v9_9) fun v25_10 => (kc (call base 63 [x0, v25_10] m) (fun v26_11 m => (kb v26_11 (k1 (xload E.P m 50 v9_9) fun v27_12 => (k2 (xbuildSlice E.P m 30 1 [(0, v27_12)]) fun v28_13 m => (kr v28_13 m))) (k1 (mbin E .add 3 x17 (.int .i64 1)) fun v29_14 => (ih x0 x1 x5 x7 x11 x12 x16 v29_14 m)))) (fun v m => kp v m)))))) (fun v m => kp v m)) (kx2 x0 x1 x5 x11 x12 m)))) n
noncomputable def r65_L0 (call : CallF) (fuel base : Nat) (kp : Value → M → Res2) (kr : Value → M → Res2) (kx0 : M → Res2) (n : Nat) : Value → Value → Value → Value → Value → M → Res2 :=
  Nat.rec (motive := fun _ => Value → Value → Value → Value → Value → M → Res2) (fun _ _ _ _ _ _ => none)
    (fun _ ih x0 x1 x5 x11 x12 m =>
      (k1 (mbin E .lss 3 x12 x11) fun v13_4 => (kb v13_4 (k1 (mfieldAddr E.P 26 x5 2) fun v15_5 => (k1 (xload E.P m 3 v15_5) fun v16_6 => (r65_L2 call fuel base (fun v m => kp v m) (fun y6_15 m => (kr y6_15 m)) (fun y0_16 y1_17 y5_18 y11_19 y12_20 m => (k1 (mbin E .add 3 y12_20 (.int .i64 1)) fun v30_21 => (ih y0_16 y1_17 y5_18 y11_19 v30_21 m))) fuel x0 x1 x5 x12 x11 x12 v16_6 (.int .i64 0) m))) (kx0 m)))) n
noncomputable def r65 (call : CallF) (fuel base : Nat) (x0 : Value) (x1 : Value) (x2 : Value) (m : M) : Res2 :=
  (k2 (xbox m x2) fun v5_1 m => (k1 (mfieldAddr E.P 26 v5_1 0) fun v10_2 => (k1 (xload E.P m 3 v10_2) fun v11_3 => (r65_L0 call fuel base (fun v m => some (.pan v, m)) (fun y6_22 m => (fVal y6_22 fun v => some (.ret v, m))) (fun m => (fVal (.slice none 0 0) fun v => some (.ret v, m))) fuel x0 x1 v5_1 v11_3 (.int .i64 0) m))))
def keep65 : Keep := { region := fun i => ([[0, 1, 5], [0, 1, 5, 11, 12], [0, 1, 5, 11, 12, 13], [0, 1, 5, 7, 11, 12], [0, 1, 5, 7, 11, 12, 16, 17], [0, 1, 5, 7, 11, 12, 16, 17, 18], [0, 1, 5, 7, 8, 11, 12, 16, 17], [0, 1, 5, 7, 9, 11, 12, 16, 17], [0, 1, 5, 7, 9, 11, 12, 16, 17, 26], [6], [0, 1, 5, 7, 11, 12, 16, 17], [0, 1, 5, 11, 12], [6]] : List (List Nat))[i]?, exit := fun i => ([[], [0, 1, 5, 11, 12], [0, 1, 5, 11, 12], [0, 1, 5, 7, 11, 12, 16, 17]] : List (List Nat))[i]?, ret := some [6] }
noncomputable def r65_L2_R (call : CallF) (fuel base n : Nat) (vs : List Value) (m : M) (K : KT) : Res2 := match vs with
  | [x0, x1, x5, x7, x11, x12, x16, x17] => r65_L2 call fuel base (fun v m => K (.pan v) { n := 31, l := [] } m) (fun y6 m => K .ret { n := 31, l := [(6, y6)] } m) (fun y0 y1 y5 y11 y12 m => K (.exit 2) { n := 31, l := [(0, y0), (1, y1), (5, y5), (11, y11), (12, y12)] } m) n x0 x1 x5 x7 x11 x12 x16 x17 m
  | _ => none
noncomputable def r65_L0_R (call : CallF) (fuel base n : Nat) (vs : List Value) (m : M) (K : KT) : Res2 := match vs with
  | [x0, x1, x5, x11, x12] => r65_L0 call fuel base (fun v m => K (.pan v) { n := 31, l := [] } m) (fun y6 m => K .ret { n := 31, l := [(6, y6)] } m) (fun m => K (.exit 0) { n := 31, l := [] } m) n x0 x1 x5 x11 x12 m
  | _ => none
noncomputable def lp65 (call : CallF) (fuel base : Nat) : Lp := lpsel [(2, fun T m K => kslots 31 [0, 1, 5, 7, 11, 12, 16, 17] T fun vs => r65_L2_R call fuel base fuel vs m K), (0, fun T m K => kslots 31 [0, 1, 5, 11, 12] T fun vs => r65_L0_R call fuel base fuel vs m K)]
noncomputable def c65 : Code := Tryd.f65.body.getD .skip
theorem r65_L2_lk (call : CallF) (fuel base : Nat) : LoopsOk E call (lp65 call fuel base) fuel base 2 (loopB (blockB (seqR (seqR (blockB (seqL (seqR (seqR (loopB (blockB (seqR (seqL (seqR c65))))))))))))) = (And True (And (And True True) (And (And True (And True (And True (And (And True True) True)))) True))) := by kernel_rfl
theorem r65_L2_ok (call : CallF) (fuel base : Nat) : LpOk E call (lp65 call fuel base) fuel base 2 (loopB (blockB (seqR (seqR (blockB (seqL (seqR (seqR (loopB (blockB (seqR (seqL (seqR c65))))))))))))) := by
  refine loop_ok (kp := keep65) (hb := Eq.mpr (r65_L2_lk call fuel base) (And.intro trivial (And.intro (And.intro trivial trivial) (And.intro (And.intro trivial (And.intro trivial (And.intro trivial (And.intro (And.intro trivial trivial) trivial)))) trivial)))) 31 [0, 1, 5, 7, 11, 12, 16, 17] (fun n vs m K => r65_L2_R call fuel base n vs m K) ?_ ?_ (fun _ _ _ => rfl)
  · intro vs m K
    unfold r65_L2_R
    split <;> rfl
  · intro n vs m K hl
    match vs, hl with
    | [x0, x1, x5, x7, x11, x12, x16, x17], _ => show _ = _; kernel_rfl
theorem r65_L0_lk (call : CallF) (fuel base : Nat) : LoopsOk E call (lp65 call fuel base) fuel base 0 (loopB (blockB (seqR (seqL (seqR c65))))) = (And True (And (And True True) (And (And True (And True (LpOk E call (lp65 call fuel base) fuel base 2 (loopB (blockB (seqR (seqR (blockB (seqL (seqR (seqR (loopB (blockB (seqR (seqL (seqR c65)))))))))))))))) True))) := by kernel_rfl
theorem r65_L0_ok (call : CallF) (fuel base : Nat) : LpOk E call (lp65 call fuel base) fuel base 0 (loopB (blockB (seqR (seqL (seqR c65))))) := by
  refine loop_ok (kp := keep65) (hb := Eq.mpr (r65_L0_lk call fuel base) (And.intro trivial (And.intro (And.intro trivial trivial) (And.intro (And.intro trivial (And.intro trivial (r65_L2_ok call fuel base))) trivial)))) 31 [0, 1, 5, 11, 12] (fun n vs m K => r65_L0_R call fuel base n vs m K) ?_ ?_ (fun _ _ _ => rfl)
  · intro vs m K
    unfold r65_L0_R
    split <;> rfl
  · intro n vs m K hl
    match vs, hl with
    | [x0, x1, x5, x11, x12], _ => show _ = _; kernel_rfl
theorem r65_eq (call : CallF) (fuel base : Nat) (x0 : Value) (x1 : Value) (x2 : Value) (m : M) : kbody E call keep65 (lp65 call fuel base) base Tryd.f65 [x0, x1, x2] m = r65 call fuel base x0 x1 x2 m := by
  kernel_rfl
noncomputable def rf65 : RF := fun call fuel base args m => match args with
  | [x0, x1, x2] => r65 call fuel base x0 x1 x2 m
  | _ => none
theorem r65_lk (call : CallF) (fuel base : Nat) : LoopsOk E call (lp65 call fuel base) fuel base 0 c65 = (And True (And (And True (LpOk E call (lp65 call fuel base) fuel base 0 (loopB (blockB (seqR (seqL (seqR c65))))))) (And True True))) := by kernel_rfl
theorem r65_fn : E.P.funcs[65]? = some Tryd.f65 := by kernel_rfl
theorem r65_body : Tryd.f65.body = some c65 := by kernel_rfl
theorem rf65_ok : RFok E 65 rf65 := by
  refine ⟨Tryd.f65, r65_fn, fun call fuel base args m r _ h => ?_⟩
  unfold rf65 at h
  split at h
  · rw [← r65_eq] at h
    exact kbody_sound (c := c65) r65_body (Eq.mpr (r65_lk call fuel base) (And.intro trivial (And.intro (And.intro trivial (r65_L0_ok call fuel base)) (And.intro trivial trivial)))) h
  · simp at h
end Go.AM
namespace Go.AM
open Go Go.Proofs
noncomputable def r66_L2 (call : CallF) (fuel base : Nat) (kp : Value → M → Res2) (kr : Value → M → Res2) (kx2 : Value → Value → Value → Value → Value → M → Res2) (n : Nat) : Value → Value → Value → Value → Value → Value → M → Res2 :=
  Nat.rec (motive := fun _ => Value → Value → Value → Value → Value → Value → M → Res2) (fun _ _ _ _ _ _ _ => none)
    (fun _ ih x0 x3 x5 x6 x7 x8 m =>
      (k1 (mbin E .mul 3 x5 x6) fun v27_8 => (k1 (mbin E .lss 3 x8 v27_8) fun v28_9 => (kb v28_9 (k1 (xload E.P m 50 x3) fun v32_10 => (kc (call base 50 [v32_10, x8, x7] m) (fun v35_11 m => (k1 (mextract 0 v35_11) fun v36_12 => (k1 (mextract 1 v35_11) fun v37_13 => (kc (call base 58 [x0, x8, x7] m) (fun v41_14 m => (kc (call base 58 [x0, v36_12, v37_13] m) (fun v45_15 m => (k1 (mbin E .neq 5 v41_14 v45_15) fun v46_16 => (kb v46_16 (kr (.bool false) m) (k1 (mbin E .add 3 x8 (.int .i64 1)) fun v30_17 => (ih x0 x3 x5 x6 x7 v30_17 m))))) (fun v m => kp v m))) (fun v m => kp v m))))) (fun v m => kp v m))) (kx2 x0 x3 x5 x6 x7 m))))) n
noncomputable def r66_L0 (call : CallF) (fuel base : Nat) (kp : Value → M → Res2) (kr : Value → M → Res2) (kx0 : M → Res2) (n : Nat) : Value → Value → Value → Value → Value → M → Res2 :=
  Nat.rec (motive := fun _ => Value → Value → Value → Value → Value → M → Res2) (fun _ _ _ _ _ _ => none)
    (fun _ ih x0 x3 x5 x6 x7 m =>
      (k1 (mbin E .mul 3 x5 x6) fun v20_6 => (k1 (mbin E .lss 3 x7 v20_6) fun v21_7 => (kb v21_7 (r66_L2 call fuel base (fun v m => kp v m) (fun y4_18 m => (kr y4_18 m)) (fun y0_19 y3_20 y5_21 y6_22 y7_23 m => (k1 (mbin E .add 3 y7_23 (.int .i64 1)) fun v23_24 => (ih y0_19 y3_20 y5_21 y6_22 v23_24 m))) fuel x0 x3 x5 x6 x7 (.int .i64 0) m) (kx0 m))))) n
noncomputable def r66 (call : CallF) (fuel base : Nat) (x0 : Value) (x1 : Value) (m : M) : Res2 :=
  (k2 (xbox m x1) fun v3_1 m => (k1 (mindexAddr E.P 22 x0 (.int .i64 0)) fun v12_2 => (k1 (xload E.P m 9 v12_2) fun v13_3 => (k2 (vcall E.P base m .len [9] [v13_3]) fun v14_4 m => (k2 (vcall E.P base m .len [22] [x0]) fun v16_5 m => (r66_L0 call fuel base (fun v m => some (.pan v, m)) (fun y4_25 m => (fVal y4_25 fun v => some (.ret v, m))) (fun m => (fVal (.bool true) fun v => some (.ret v, m))) fuel x0 v3_1 v14_4 v16_5 (.int .i64 0) m))))))
def keep66 : Keep := { region := fun i => ([[0, 3], [0, 3, 5, 6], [0, 3, 5, 6, 7], [0, 3, 5, 6, 7, 21], [0, 3, 5, 6, 7], [0, 3, 5, 6, 7, 8], [0, 3, 5, 6, 7, 8, 28], [0, 3, 5, 6, 7, 8], [0, 3, 5, 6, 7, 8, 9, 10], [0, 3, 5, 6, 7, 8, 46], [4], [4]] : List (List Nat))[i]?, exit := fun i => ([[], [0, 3, 5, 6, 7], [0, 3, 5, 6, 7], [0, 3, 5, 6, 7, 8]] : List (List Nat))[i]?, ret := some [4] }
noncomputable def r66_L2_R (call : CallF) (fuel base n : Nat) (vs : List Value) (m : M) (K : KT) : Res2 := match vs with
  | [x0, x3, x5, x6, x7, x8] => r66_L2 call fuel base (fun v m => K (.pan v) { n := 47, l := [] } m) (fun y4 m => K .ret { n := 47, l := [(4, y4)] } m) (fun y0 y3 y5 y6 y7 m => K (.exit 2) { n := 47, l := [(0, y0), (3, y3), (5, y5), (6, y6), (7, y7)] } m) n x0 x3 x5 x6 x7 x8 m
  | _ => none
noncomputable def r66_L0_R (call : CallF) (fuel base n : Nat) (vs : List Value) (m : M) (K : KT) : Res2 := match vs with
  | [x0, x3, x5, x6, x7] => r66_L0 call fuel base (fun v m => K (.pan v) { n := 47, l := [] } m) (fun y4 m => K .ret { n := 47, l := [(4, y4)] } m) (fun m => K (.exit 0) { n := 47, l := [] } m) n x0 x3 x5 x6 x7 m
  | _ => none
noncomputable def lp66 (call : CallF) (fuel base : Nat) : Lp := lpsel [(2, fun T m K => kslots 47 [0, 3, 5, 6, 7, 8] T fun vs => r66_L2_R call fuel base fuel vs m K), (0, fun T m K => kslots 47 [0, 3, 5, 6, 7] T fun vs => r66_L0_R call fuel base fuel vs m K)]
noncomputable def c66 : Code := Tryd.f66.body.getD .skip
theorem r66_L2_lk (call : CallF) (fuel base : Nat) : LoopsOk E call (lp66 call fuel base) fuel base 2 (loopB (blockB (seqR (blockB (seqL (seqR (loopB (blockB (seqR (seqL (seqR (seqR c66)))))))))))) = (And (And True (And True True)) (And (And True (And True (And (And True True) True))) True)) := by kernel_rfl
theorem r66_L2_ok (call : CallF) (fuel base : Nat) : LpOk E call (lp66 call fuel base) fuel base 2 (loopB (blockB (seqR (blockB (seqL (seqR (loopB (blockB (seqR (seqL (seqR (seqR c66)))))))))))) := by
  refine loop_ok (kp := keep66) (hb := Eq.mpr (r66_L2_lk call fuel base) (And.intro (And.intro trivial (And.intro trivial trivial)) (And.intro (And.intro trivial (And.intro trivial (And.intro (And.intro trivial trivial) trivial))) trivial))) 47 [0, 3, 5, 6, 7, 8] (fun n vs m K => r66_L2_R call fuel base n vs m K) ?_ ?_ (fun _ _ _ => rfl)
  · intro vs m K
    unfold r66_L2_R
    split <;> rfl
  · intro n vs m K hl
    match vs, hl with
    | [x0, x3, x5, x6, x7, x8], _ => show _ = _; kernel_rfl
theorem r66_L0_lk (call : CallF) (fuel base : Nat) : LoopsOk E call (lp66 call fuel base) fuel base 0 (loopB (blockB (seqR (seqL (seqR (seqR c66)))))) = (And (And True (And True True)) (And (And True (LpOk E call (lp66 call fuel base) fuel base 2 (loopB (blockB (seqR (blockB (seqL (seqR (loopB (blockB (seqR (seqL (seqR (seqR c66)))))))))))))) True)) := by kernel_rfl
theorem r66_L0_ok (call : CallF) (fuel base : Nat) : LpOk E call (lp66 call fuel base) fuel base 0 (loopB (blockB (seqR (seqL (seqR (seqR c66)))))) := by
  refine loop_ok (kp := keep66) (hb := Eq.mpr (r66_L0_lk call fuel base) (And.intro (And.intro trivial (And.intro trivial trivial)) (And.intro (And.intro trivial (r66_L2_ok call fuel base)) trivial))) 47 [0, 3, 5, 6, 7] (fun n vs m K => r66_L0_R call fuel base n vs m K) ?_ ?_ (fun _ _ _ => rfl)
  · intro vs m K
    unfold r66_L0_R
    split <;> rfl
  · intro n vs m K hl
    match vs, hl with
    | [x0, x3, x5, x6, x7], _ => show _ = _; kernel_rfl
theorem r66_eq (call : CallF) (fuel base : Nat) (x0 : Value) (x1 : Value) (m : M) : kbody E call keep66 (lp66 call fuel base) base Tryd.f66 [x0, x1] m = r66 call fuel base x0 x1 m := by
  kernel_rfl
noncomputable def rf66 : RF := fun call fuel base args m => match args with
  | [x0, x1] => r66 call fuel base x0 x1 m
  | _ => none
theorem r66_lk (call : CallF) (fuel base : Nat) : LoopsOk E call (lp66 call fuel base) fuel base 0 c66 = (And True (And True (And (And True (LpOk E call (lp66 call fuel base) fuel base 0 (loopB (blockB (seqR (seqL (seqR (seqR c66)))))))) (And True True)))) := by kernel_rfl
theorem r66_fn : E.P.funcs[66]? = some Tryd.f66 := by kernel_rfl
theorem r66_body : Tryd.f66.body = some c66 := by kernel_rfl
theorem rf66_ok : RFok E 66 rf66 := by
  refine ⟨Tryd.f66, r66_fn, fun call fuel base args m r _ h => ?_⟩
  unfold rf66 at h
  split at h
  · rw [← r66_eq] at h
    exact kbody_sound (c := c66) r66_body (Eq.mpr (r66_lk call fuel base) (And.intro trivial (And.intro trivial (And.intro (And.intro trivial (r66_L0_ok call fuel base)) (And.intro trivial trivial))))) h
  · simp at h
end Go.AM
namespace Go.AM
open Go Go.Proofs
noncomputable def r67 (call : CallF) (fuel base : Nat) (x0 : Value) (x1 : Value) (m : M) : Res2 :=
  (k2 (xbox m x0) fun v2_1 m => (k2 (xbox m x1) fun v3_2 m => (k2 (xalloc E.P m 50) fun v4_3 m => (k1 (mfieldAddr E.P 70 v2_1 1) fun v7_4 => (k1 (xload E.P m 30 v7_4) fun v8_5 => (kc (call base 87 [v8_5, (.func (.func 88) #[] #[v3_2])] m) (fun v10_6 m => (k1 (mbin E .lss 3 v10_6 (.int .i64 0)) fun v12_7 => (kb v12_7 (k1 (mbuild E.P 50 []) fun v13_8 => (ks (xstore E.P base m 50 v4_3 v13_8) fun m => (k0 (mload E.P m 50 v4_3) fun r_9 => (some (.ret (.tuple #[r_9, (.bool false)]), m))))) (k1 (mfieldAddr E.P 70 v2_1 1) fun v14_10 => (k1 (xload E.P m 30 v14_10) fun v15_11 => (k1 (mindexAddr E.P 30 v15_11 v10_6) fun v17_12 => (k1 (xload E.P m 50 v17_12) fun v18_13 => (ks (xstore E.P base m 50 v4_3 v18_13) fun m => (k0 (mload E.P m 50 v4_3) fun r_14 => (some (.ret (.tuple #[r_14, (.bool true)]), m))))))))))) (fun v m => some (.pan v, m))))))))
def keep67 : Keep := { region := fun i => ([[2, 3, 4], [2, 4, 6], [2, 4, 6, 12], [4, 5], [4, 5]] : List (List Nat))[i]?, exit := fun i => ([] : List (List Nat))[i]?, ret := some [4, 5] }
noncomputable def lp67 (call : CallF) (fuel base : Nat) : Lp := lpsel []
noncomputable def c67 : Code := Tryd.f67.body.getD .skip
theorem r67_eq (call : CallF) (fuel base : Nat) (x0 : Value) (x1 : Value) (m : M) : kbody E call keep67 (lp67 call fuel base) base Tryd.f67 [x0, x1] m = r67 call fuel base x0 x1 m := by
  kernel_rfl
noncomputable def rf67 : RF := fun call fuel base args m => match args with
  | [x0, x1] => r67 call fuel base x0 x1 m
  | _ => none
theorem r67_lk (call : CallF) (fuel base : Nat) : LoopsOk E call (lp67 call fuel base) fuel base 0 c67 = (And True (And True (And (And True (And (And True True) True)) (And True True)))) := by kernel_rfl
theorem r67_fn : E.P.funcs[67]? = some Tryd.f67 := by kernel_rfl
theorem r67_body : Tryd.f67.body = some c67 := by kernel_rfl
theorem rf67_ok : RFok E 67 rf67 := by
  refine ⟨Tryd.f67, r67_fn, fun call fuel base args m r _ h => ?_⟩
  unfold rf67 at h
  split at h
  · rw [← r67_eq] at h
    exact kbody_sound (c := c67) r67_body (Eq.mpr (r67_lk call fuel base) (And.intro trivial (And.intro trivial (And.intro (And.intro trivial (And.intro (And.intro trivial trivial) trivial)) (And.intro trivial trivial))))) h
  · simp at h
end Go.AM
namespace Go.AM
open Go Go.Proofs
noncomputable def r68 (call : CallF) (fuel base : Nat) (x0 : Value) (m : M) : Res2 :=
  (k2 (xbox m x0) fun v1_1 m => (k1 (xload E.P m 70 v1_1) fun v4_2 => (kc (call base 89 [v4_2] m) (fun v5_3 m => (k2 (vcall E.P base m .len [37] [v5_3]) fun v6_4 m => (k1 (mbin E .eql 3 v6_4 (.int .i64 0)) fun v7_5 => (kb v7_5 (fVal (.string (ByteArray.mk #[112, 52])) fun v => some (.ret v, m)) (k1 (xload E.P m 70 v1_1) fun v9_6 => (kc (kB m (call m.length 91 [v9_6, (.int .i64 1)] m)) (fun v10_7 m => (k1 (xload E.P m 70 v1_1) fun v11_8 => (kc (kB m (call m.length 90 [v10_7, (.func (.func 92) #[v11_8] #[])] m)) (fun v13_9 m => (kb v13_9 (fVal (.string (ByteArray.mk #[112, 52, 109])) fun v => some (.ret v, m)) (fVal (.string (ByteArray.mk #[112, 52, 103])) fun v => some (.ret v, m)))) (fun _ _ => none)))) (fun _ _ => none))))))) (fun v m => some (.pan v, m)))))
def keep68 : Keep := { region := fun i => ([[1], [1, 3], [2], [8], [2], [2]] : List (List Nat))[i]?, exit := fun i => ([[]] : List (List Nat))[i]?, ret := some [2] }
noncomputable def lp68 (call : CallF) (fuel base : Nat) : Lp := lpsel []
noncomputable def c68 : Code := Tryd.f68.body.getD .skip
theorem r68_eq (call : CallF) (fuel base : Nat) (x0 : Value) (m : M) : kbody E call keep68 (lp68 call fuel base) base Tryd.f68 [x0] m = r68 call fuel base x0 m := by
  kernel_rfl
noncomputable def rf68 : RF := fun call fuel base args m => match args with
  | [x0] => r68 call fuel base x0 m
  | _ => none
theorem r68_lk (call : CallF) (fuel base : Nat) : LoopsOk E call (lp68 call fuel base) fuel base 0 c68 = (And True (And (And True (And (And True True) (And True (And (And True True) True)))) (And True True))) := by kernel_rfl
theorem r68_fn : E.P.funcs[68]? = some Tryd.f68 := by kernel_rfl
theorem r68_body : Tryd.f68.body = some c68 := by kernel_rfl
theorem rf68_ok : RFok E 68 rf68 := by
  refine ⟨Tryd.f68, r68_fn, fun call fuel base args m r _ h => ?_⟩
  unfold rf68 at h
  split at h
  · rw [← r68_eq] at h
    exact kbody_sound (c := c68) r68_body (Eq.mpr (r68_lk call fuel base) (And.intro trivial (And.intro (And.intro trivial (And.intro (And.intro trivial trivial) (And.intro trivial (And.intro (And.intro trivial trivial) trivial)))) (And.intro trivial trivial)))) h
  · simp at h
end Go.AM
namespace Go.AM
open Go Go.Proofs
noncomputable def r69 (call : CallF) (fuel base : Nat) (x0 : Value) (m : M) : Res2 :=
  (k2 (xbox m x0) fun v1_1 m => (k1 (xload E.P m 70 v1_1) fun v3_2 => (kc (call base 89 [v3_2] m) (fun v4_3 m => (k2 (vcall E.P base m .len [37] [v4_3]) fun v5_4 m => (k1 (mbin E .eql 3 v5_4 (.int .i64 0)) fun v6_5 => (kb v6_5 (fVal (.string (ByteArray.mk #[112, 50])) fun v => some (.ret v, m)) (k1 (xload E.P m 70 v1_1) fun v7_6 => (kc (call base 93 [v7_6] m) (fun v8_7 m => (k1 (mbin E .eql 3 v8_7 (.int .i64 0)) fun v10_8 => (kb v10_8 (fVal (.string (ByteArray.mk #[112, 103, 103])) fun v => some (.ret v, m)) (k1 (mbin E .eql 3 v8_7 (.int .i64 1)) fun v12_9 => (kb v12_9 (fVal (.string (ByteArray.mk #[112, 109, 103])) fun v => some (.ret v, m)) (k1 (xload E.P m 70 v1_1) fun v13_10 => (kc (kB m (call m.length 91 [v13_10, (.int .i64 2)] m)) (fun v14_11 m => (k1 (xload E.P m 70 v1_1) fun v15_12 => (kc (kB m (call m.length 90 [v14_11, (.func (.func 94) #[v15_12] #[])] m)) (fun v17_13 m => (kb v17_13 (fVal (.string (ByteArray.mk #[99, 109, 109])) fun v => some (.ret v, m)) (fVal (.string (ByteArray.mk #[112, 109, 109])) fun v => some (.ret v, m)))) (fun _ _ => none)))) (fun _ _ => none)))))))) (fun v m => some (.pan v, m)))))))) (fun v m => some (.pan v, m)))))
def keep69 : Keep := { region := fun i => ([[1], [1, 6], [2], [1, 8], [1, 8, 9], [2], [1, 11], [2], [17], [2], [2]] : List (List Nat))[i]?, exit := fun i => ([[1]] : List (List Nat))[i]?, ret := some [2] }
noncomputable def lp69 (call : CallF) (fuel base : Nat) : Lp := lpsel []
noncomputable def c69 : Code := Tryd.f69.body.getD .skip
theorem r69_eq (call : CallF) (fuel base : Nat) (x0 : Value) (m : M) : kbody E call keep69 (lp69 call fuel base) base Tryd.f69 [x0] m = r69 call fuel base x0 m := by
  kernel_rfl
noncomputable def rf69 : RF := fun call fuel base args m => match args with
  | [x0] => r69 call fuel base x0 m
  | _ => none
theorem r69_lk (call : CallF) (fuel base : Nat) : LoopsOk E call (lp69 call fuel base) fuel base 0 c69 = (And True (And (And True (And (And True True) True)) (And (And True (And True (And (And True True) (And True (And (And True True) True))))) (And (And True (And (And True True) True)) (And True True))))) := by kernel_rfl
theorem r69_fn : E.P.funcs[69]? = some Tryd.f69 := by kernel_rfl
theorem r69_body : Tryd.f69.body = some c69 := by kernel_rfl
theorem rf69_ok : RFok E 69 rf69 := by
  refine ⟨Tryd.f69, r69_fn, fun call fuel base args m r _ h => ?_⟩
  unfold rf69 at h
  split at h
  · rw [← r69_eq] at h
    exact kbody_sound (c := c69) r69_body (Eq.mpr (r69_lk call fuel base) (And.intro trivial (And.intro (And.intro trivial (And.intro (And.intro trivial trivial) trivial)) (And.intro (And.intro trivial (And.intro trivial (And.intro (And.intro trivial trivial) (And.intro trivial (And.intro (And.intro trivial trivial) trivial))))) (And.intro (And.intro trivial (And.intro (And.intro trivial trivial) trivial)) (And.intro trivial trivial)))))) h
  · simp at h
end Go.AM
namespace Go.AM
open Go Go.Proofs
noncomputable def r70 (call : CallF) (fuel base : Nat) (x0 : Value) (m : M) : Res2 :=
  (k2 (xbox m x0) fun v1_1 m => (k1 (xload E.P m 70 v1_1) fun v4_2 => (kc (call base 89 [v4_2] m) (fun v5_3 m => (k2 (vcall E.P base m .len [37] [v5_3]) fun v7_4 m => (k1 (mbin E .eql 3 v7_4 (.int .i64 0)) fun v8_5 => (kb v8_5 (fVal (.string (ByteArray.mk #[112, 49])) fun v => some (.ret v, m)) (k1 (xload E.P m 70 v1_1) fun v9_6 => (kc (call base 93 [v9_6] m) (fun v10_7 m => (k1 (mbin E .eql 3 v10_7 (.int .i64 0)) fun v11_8 => (kb v11_8 (fVal (.string (ByteArray.mk #[112, 103])) fun v => some (.ret v, m)) (k1 (xload E.P m 70 v1_1) fun v12_9 => (k1 (mindexAddr E.P 37 v5_3 (.int .i64 0)) fun v14_10 => (k1 (xload E.P m 3 v14_10) fun v15_11 => (kc (kB m (call m.length 91 [v12_9, v15_11] m)) (fun v16_12 m => (k1 (xload E.P m 70 v1_1) fun v17_13 => (kc (kB m (call m.length 90 [v16_12, (.func (.func 94) #[v17_13] #[])] m)) (fun v19_14 m => (kb v19_14 (fVal (.string (ByteArray.mk #[99, 109])) fun v => some (.ret v, m)) (fVal (.string (ByteArray.mk #[112, 109])) fun v => some (.ret v, m)))) (fun _ _ => none)))) (fun _ _ => none)))))))) (fun v m => some (.pan v, m)))))))) (fun v m => some (.pan v, m)))))
def keep70 : Keep := { region := fun i => ([[1], [1, 3], [1, 3, 8], [2], [1, 3, 11], [2], [19], [2], [2]] : List (List Nat))[i]?, exit := fun i => ([] : List (List Nat))[i]?, ret := some [2] }
noncomputable def lp70 (call : CallF) (fuel base : Nat) : Lp := lpsel []
noncomputable def c70 : Code := Tryd.f70.body.getD .skip
theorem r70_eq (call : CallF) (fuel base : Nat) (x0 : Value) (m : M) : kbody E call keep70 (lp70 call fuel base) base Tryd.f70 [x0] m = r70 call fuel base x0 m := by
  kernel_rfl
noncomputable def rf70 : RF := fun call fuel base args m => match args with
  | [x0] => r70 call fuel base x0 m
  | _ => none
theorem r70_lk (call : CallF) (fuel base : Nat) : LoopsOk E call (lp70 call fuel base) fuel base 0 c70 = (And True (And True (And (And True (And (And True True) True)) (And (And True (And (And True True) True)) (And (And True (And (And True True) True)) (And True True)))))) := by kernel_rfl
theorem r70_fn : E.P.funcs[70]? = some Tryd.f70 := by kernel_rfl
theorem r70_body : Tryd.f70.body = some c70 := by kernel_rfl
theorem rf70_ok : RFok E 70 rf70 := by
  refine ⟨Tryd.f70, r70_fn, fun call fuel base args m r _ h => ?_⟩
  unfold rf70 at h
  split at h
  · rw [← r70_eq] at h
    exact kbody_sound (c := c70) r70_body (Eq.mpr (r70_lk call fuel base) (And.intro trivial (And.intro trivial (And.intro (And.intro trivial (And.intro (And.intro trivial trivial) trivial)) (And.intro (And.intro trivial (And.intro (And.intro trivial trivial) trivial)) (And.intro (And.intro trivial (And.intro (And.intro trivial trivial) trivial)) (And.intro trivial trivial))))))) h
  · simp at h
end Go.AM
namespace Go.AM
open Go Go.Proofs
noncomputable def r71_L4 (call : CallF) (fuel base : Nat) (kx4 : Value → Value → Value → Value → Value → M → Res2) (n : Nat) : Value → Value → Value → Value → Value → Value → M → Res2 :=
  Nat.rec (motive := fun _ => Value → Value → Value → Value → Value → Value → M → Res2) (fun _ _ _ _ _ _ _ => none)
    (fun _ ih x3 x4 x5 x6 x7 x8 m =>
      (k1 (mbin E .leq 3 x8 (.int .i64 14)) fun v27_7 => (kb v27_7 (k1 (mindexAddr E.P 30 x4 x6) fun v33_8 => (k1 (mfieldAddr E.P 50 v33_8 4) fun v34_9 => (k1 (xload E.P m 3 v34_9) fun v35_10 => (k1 (mbin E .sub 3 x7 v35_10) fun v36_11 => (k1 (mindexAddr E.P 30 x4 x6) fun v40_12 => (k1 (mfieldAddr E.P 50 v40_12 5) fun v41_13 => (k1 (xload E.P m 3 v41_13) fun v42_14 => (k1 (mbin E .sub 3 x8 v42_14) fun v43_15 => (k1 (mfieldAddr E.P 26 x3 0) fun v45_16 => (k1 (xload E.P m 3 v45_16) fun v46_17 => (k1 (mbin E .rem 3 v36_11 v46_17) fun v47_18 => (k1 (mbin E .eql 3 v47_18 (.int .i64 0)) fun v48_19 => (kb v48_19 (k1 (mfieldAddr E.P 26 x3 0) fun v52_20 => (k1 (xload E.P m 3 v52_20) fun v53_21 => (k1 (mbin E .quo 3 v36_11 v53_21) fun v54_22 => (k1 (mfieldAddr E.P 26 x3 1) fun v55_23 => (k1 (xload E.P m 3 v55_23) fun v56_24 => (k1 (mbin E .mul 3 v54_22 v56_24) fun v57_25 => (k1 (mbin E .sub 3 v43_15 v57_25) fun v58_26 => (k1 (mfieldAddr E.P 26 x3 2) fun v59_27 => (k1 (xload E.P m 3 v59_27) fun v60_28 => (k1 (mbin E .rem 3 v58_26 v60_28) fun v61_29 => (k1 (mbin E .eql 3 v61_29 (.int .i64 0)) fun v62_30 => (kb v62_30 (k1 (mindexAddr E.P 30 x4 x6) fun v66_31 => (k1 (xload E.P m 50 v66_31) fun v67_32 => (k2 (xalloc E.P m 50) fun v11_33 m => (ks (xstore E.P base m 50 v11_33 v67_32) fun m => (k1 (mfieldAddr E.P 50 v11_33 4) fun v69_34 => (ks (xstore E.P base m 3 v69_34 x7) fun m => (k1 (mfieldAddr E.P 50 v11_33 5) fun v71_35 => (ks (xstore E.P base m 3 v71_35 x8) fun m => (k1 (xload E.P m 50 v11_33) fun v73_36 => (k2 (xbuildSlice E.P m 30 1 [(0, v73_36)]) fun v74_37 m => (k2 (vcall E.P base m .append [30, 30] [x5, v74_37]) fun v75_38 m => (k1 (mbin E .add 3 x8 (.int .i64 1)) fun v29_39 => (ih x3 x4 v75_38 x6 x7 v29_39 m))))))))))))) (k1 (mbin E .add 3 x8 (.int .i64 1)) fun v29_40 => (ih x3 x4 x5 x6 x7 v29_40 m)))))))))))))) (k1 (mbin E .add 3 x8 (.int .i64 1)) fun v29_41 => (ih x3 x4 x5 x6 x7 v29_41 m))))))))))))))) (kx4 x3 x4 x5 x6 x7 m)))) n
noncomputable def r71_L2 (call : CallF) (fuel base : Nat) (kx2 : Value → Value → Value → Value → M → Res2) (n : Nat) : Value → Value → Value → Value → Value → M → Res2 :=
  Nat.rec (motive := fun _ => Value → Value → Value → Value → Value → M → Res2) (fun _ _ _ _ _ _ => none)
    (fun _ ih x3 x4 x5 x6 x7 m =>
      (k1 (mbin E .leq 3 x7 (.int .i64 14)) fun v23_6 => (kb v23_6 (r71_L4 call fuel base (fun y3_42 y4_43 y5_44 y6_45 y7_46 m => (k1 (mbin E .add 3 y7_46 (.int .i64 1)) fun v25_47 => (ih y3_42 y4_43 y5_44 y6_45 v25_47 m))) fuel x3 x4 x5 x6 x7 (.int .i64 (-14)) m) (kx2 x3 x4 x5 x6 m)))) n
noncomputable def r71_L0 (call : CallF) (fuel base : Nat) (kx0 : Value → M → Res2) (n : Nat) : Value → Value → Value → Value → M → Res2 :=
  Nat.rec (motive := fun _ => Value → Value → Value → Value → M → Res2) (fun _ _ _ _ _ => none)
    (fun _ ih x3 x4 x5 x6 m =>
      (k2 (vcall E.P base m .len [30] [x4]) fun v18_4 m => (k1 (mbin E .lss 3 x6 v18_4) fun v19_5 => (kb v19_5 (r71_L2 call fuel base (fun y3_48 y4_49 y5_50 y6_51 m => (k1 (mbin E .add 3 y6_51 (.int .i64 1)) fun v21_52 => (ih y3_48 y4_49 y5_50 v21_52 m))) fuel x3 x4 x5 x6 (.int .i64 (-14)) m) (kx0 x5 m))))) n
noncomputable def r71 (call : CallF) (fuel base : Nat) (x0 : Value) (m : M) : Res2 :=
  (kc (call base 42 [x0] m) (fun v13_1 m => (k2 (xalloc E.P m 26) fun v3_2 m => (ks (xstore E.P base m 26 v3_2 v13_1) fun m => (kc (call base 44 [x0] m) (fun v15_3 m => (r71_L0 call fuel base (fun y5_53 m => (fVal y5_53 fun v => some (.ret v, m))) fuel v3_2 v15_3 (.slice none 0 0) (.int .i64 0) m)) (fun v m => some (.pan v, m)))))) (fun v m => some (.pan v, m)))
def keep71 : Keep := { region := fun i => ([[0], [0, 3], [3, 4], [3, 4, 5], [3, 4, 5, 6], [3, 4, 5, 6, 19], [3, 4, 5, 6], [3, 4, 5, 6, 7], [3, 4, 5, 6, 7, 23], [3, 4, 5, 6, 7], [3, 4, 5, 6, 7, 8], [3, 4, 5, 6, 7, 8, 27], [3, 4, 5, 6, 7, 8], [3, 4, 5, 6, 7, 8, 9, 10], [3, 4, 5, 6, 7, 8, 63], [3, 4, 5, 6, 7, 8, 11], [3, 4, 5, 6, 7, 8, 11], [3, 4, 5, 6, 7, 8, 11], [3, 4, 5, 6, 7, 8], [2]] : List (List Nat))[i]?, exit := fun i => ([[5], [3, 4, 5, 6], [3, 4, 5, 6], [3, 4, 5, 6, 7], [3, 4, 5, 6, 7], [3, 4, 5, 6, 7, 8]] : List (List Nat))[i]?, ret := some [2] }
noncomputable def r71_L4_R (call : CallF) (fuel base n : Nat) (vs : List Value) (m : M) (K : KT) : Res2 := match vs with
  | [x3, x4, x5, x6, x7, x8] => r71_L4 call fuel base (fun y3 y4 y5 y6 y7 m => K (.exit 4) { n := 77, l := [(3, y3), (4, y4), (5, y5), (6, y6), (7, y7)] } m) n x3 x4 x5 x6 x7 x8 m
  | _ => none
noncomputable def r71_L2_R (call : CallF) (fuel base n : Nat) (vs : List Value) (m : M) (K : KT) : Res2 := match vs with
  | [x3, x4, x5, x6, x7] => r71_L2 call fuel base (fun y3 y4 y5 y6 m => K (.exit 2) { n := 77, l := [(3, y3), (4, y4), (5, y5), (6, y6)] } m) n x3 x4 x5 x6 x7 m
  | _ => none
noncomputable def r71_L0_R (call : CallF) (fuel base n : Nat) (vs : List Value) (m : M) (K : KT) : Res2 := match vs with
  | [x3, x4, x5, x6] => r71_L0 call fuel base (fun y5 m => K (.exit 0) { n := 77, l := [(5, y5)] } m) n x3 x4 x5 x6 m
  | _ => none
noncomputable def lp71 (call : CallF) (fuel base : Nat) : Lp := lpsel [(4, fun T m K => kslots 77 [3, 4, 5, 6, 7, 8] T fun vs => r71_L4_R call fuel base fuel vs m K), (2, fun T m K => kslots 77 [3, 4, 5, 6, 7] T fun vs => r71_L2_R call fuel base fuel vs m K), (0, fun T m K => kslots 77 [3, 4, 5, 6] T fun vs => r71_L0_R call fuel base fuel vs m K)]
noncomputable def c71 : Code := Tryd.f71.body.getD .skip
theorem r71_L4_lk (call : CallF) (fuel base : Nat) : LoopsOk E call (lp71 call fuel base) fuel base 4 (loopB (blockB (seqR (blockB (seqL (seqR (loopB (blockB (seqR (blockB (seqL (seqR (loopB (blockB (seqR (seqL (seqR (seqR (seqR (seqR c71)))))))))))))))))))) = (And (And True (And True True)) (And (And True (And True (And (And True (And True (And True True))) True))) True)) := by kernel_rfl
theorem r71_L4_ok (call : CallF) (fuel base : Nat) : LpOk E call (lp71 call fuel base) fuel base 4 (loopB (blockB (seqR (blockB (seqL (seqR (loopB (blockB (seqR (blockB (seqL (seqR (loopB (blockB (seqR (seqL (seqR (seqR (seqR (seqR c71)))))))))))))))))))) := by
  refine loop_ok (kp := keep71) (hb := Eq.mpr (r71_L4_lk call fuel base) (And.intro (And.intro trivial (And.intro trivial trivial)) (And.intro (And.intro trivial (And.intro trivial (And.intro (And.intro trivial (And.intro trivial (And.intro trivial trivial))) trivial))) trivial))) 77 [3, 4, 5, 6, 7, 8] (fun n vs m K => r71_L4_R call fuel base n vs m K) ?_ ?_ (fun _ _ _ => rfl)
  · intro vs m K
    unfold r71_L4_R
    split <;> rfl
  · intro n vs m K hl
    match vs, hl with
    | [x3, x4, x5, x6, x7, x8], _ => show _ = _; kernel_rfl
theorem r71_L2_lk (call : CallF) (fuel base : Nat) : LoopsOk E call (lp71 call fuel base) fuel base 2 (loopB (blockB (seqR (blockB (seqL (seqR (loopB (blockB (seqR (seqL (seqR (seqR (seqR (seqR c71)))))))))))))) = (And (And True (And True True)) (And (And True (LpOk E call (lp71 call fuel base) fuel base 4 (loopB (blockB (seqR (blockB (seqL (seqR (loopB (blockB (seqR (blockB (seqL (seqR (loopB (blockB (seqR (seqL (seqR (seqR (seqR (seqR c71)))))))))))))))))))))) True)) := by kernel_rfl
theorem r71_L2_ok (call : CallF) (fuel base : Nat) : LpOk E call (lp71 call fuel base) fuel base 2 (loopB (blockB (seqR (blockB (seqL (seqR (loopB (blockB (seqR (seqL (seqR (seqR (seqR (seqR c71)))))))))))))) := by
  refine loop_ok (kp := keep71) (hb := Eq.mpr (r71_L2_lk call fuel base) (And.intro (And.intro trivial (And.intro trivial trivial)) (And.intro (And.intro trivial (r71_L4_ok call fuel base)) trivial))) 77 [3, 4, 5, 6, 7] (fun n vs m K => r71_L2_R call fuel base n vs m K) ?_ ?_ (fun _ _ _ => rfl)
  · intro vs m K
    unfold r71_L2_R
    split <;> rfl
  · intro n vs m K hl
    match vs, hl with
    | [x3, x4, x5, x6, x7], _ => show _ = _; kernel_rfl
theorem r71_L0_lk (call : CallF) (fuel base : Nat) : LoopsOk E call (lp71 call fuel base) fuel base 0 (loopB (blockB (seqR (seqL (seqR (seqR (seqR (seqR c71)))))))) = (And (And True (And True True)) (And (And True (LpOk E call (lp71 call fuel base) fuel base 2 (loopB (blockB (seqR (blockB (seqL (seqR (loopB (blockB (seqR (seqL (seqR (seqR (seqR (seqR c71)))))))))))))))) True)) := by kernel_rfl
theorem r71_L0_ok (call : CallF) (fuel base : Nat) : LpOk E call (lp71 call fuel base) fuel base 0 (loopB (blockB (seqR (seqL (seqR (seqR (seqR (seqR c71)))))))) := by
  refine loop_ok (kp := keep71) (hb := Eq.mpr (r71_L0_lk call fuel base) (And.intro (And.intro trivial (And.intro trivial trivial)) (And.intro (And.intro trivial (r71_L2_ok call fuel base)) trivial))) 77 [3, 4, 5, 6] (fun n vs m K => r71_L0_R call fuel base n vs m K) ?_ ?_ (fun _ _ _ => rfl)
  · intro vs m K
    unfold r71_L0_R
    split <;> rfl
  · intro n vs m K hl
    match vs, hl with
    | [x3, x4, x5, x6], _ => show _ = _; kernel_rfl
theorem r71_eq (call : CallF) (fuel base : Nat) (x0 : Value) (m : M) : kbody E call keep71 (lp71 call fuel base) base Tryd.f71 [x0] m = r71 call fuel base x0 m := by
  kernel_rfl
noncomputable def rf71 : RF := fun call fuel base args m => match args with
  | [x0] => r71 call fuel base x0 m
  | _ => none
theorem r71_lk (call : CallF) (fuel base : Nat) : LoopsOk E call (lp71 call fuel base) fuel base 0 c71 = (And True (And True (And True (And True (And (And True (LpOk E call (lp71 call fuel base) fuel base 0 (loopB (blockB (seqR (seqL (seqR (seqR (seqR (seqR c71)))))))))) (And True True)))))) := by kernel_rfl
theorem r71_fn : E.P.funcs[71]? = some Tryd.f71 := by kernel_rfl
theorem r71_body : Tryd.f71.body = some c71 := by kernel_rfl
theorem rf71_ok : RFok E 71 rf71 := by
  refine ⟨Tryd.f71, r71_fn, fun call fuel base args m r _ h => ?_⟩
  unfold rf71 at h
  split at h
  · rw [← r71_eq] at h
    exact kbody_sound (c := c71) r71_body (Eq.mpr (r71_lk call fuel base) (And.intro trivial (And.intro trivial (And.intro trivial (And.intro trivial (And.intro (And.intro trivial (r71_L0_ok call fuel base)) (And.intro trivial trivial))))))) h
  · simp at h
end Go.AM
namespace Go.AM
open Go Go.Proofs
noncomputable def r72_L0 (call : CallF) (fuel base : Nat) (kp : Value → M → Res2) (kx0 : Value → Value → M → Res2) (n : Nat) : Value → Value → Value → Value → M → Res2 :=
  Nat.rec (motive := fun _ => Value → Value → Value → Value → M → Res2) (fun _ _ _ _ _ => none)
    (fun _ ih x0 x2 x3 x4 m =>
      (k2 (vcall E.P base m .len [30] [x0]) fun v11_4 m => (k1 (mbin E .lss 3 x4 v11_4) fun v12_5 => (kb v12_5 (k1 (mindexAddr E.P 30 x0 x4) fun v17_6 => (k1 (xload E.P m 50 v17_6) fun v18_7 => (kc (call base 35 [v18_7] m) (fun v19_8 m => (k1 (mindexAddr E.P 30 x0 x4) fun v23_9 => (k1 (xload E.P m 50 v23_9) fun v24_10 => (kc (call base 95 [v24_10] m) (fun v25_11 m => (k1 (mextract 0 v25_11) fun v26_12 => (k1 (mextract 1 v25_11) fun v27_13 => (k1 (mbin E .eql 3 v19_8 (.int .i64 1)) fun v30_14 => (kb v30_14 (k1 (mfieldAddr E.P 99 x3 0) fun v35_15 => (ks (xstore E.P base m 3 v35_15 (.int .i64 4)) fun m => (k1 (mfieldAddr E.P 99 x3 5) fun v36_16 => (k1 (xload E.P m 4 v36_16) fun v37_17 => (kb v37_17 (k1 (mfieldAddr E.P 99 x3 5) fun v49_18 => (ks (xstore E.P base m 4 v49_18 (.bool true)) fun m => (k1 (mbin E .add 3 x4 (.int .i64 1)) fun v14_19 => (ih x0 x2 x3 v14_19 m)))) (kc (call base 96 [v26_12, v27_13] m) (fun v41_20 m => (kbu v41_20 (kc (call base 97 [x0, v26_12, v27_13] m) (fun v46_21 m => (k1 (mfieldAddr E.P 99 x3 5) fun v49_22 => (ks (xstore E.P base m 4 v49_22 v46_21) fun m => (k1 (mbin E .add 3 x4 (.int .i64 1)) fun v14_23 => (ih x0 x2 x3 v14_23 m))))) (fun v m => kp v m)) (k1 (mfieldAddr E.P 99 x3 5) fun v49_24 => (ks (xstore E.P base m 4 v49_24 (.bool false)) fun m => (k1 (mbin E .add 3 x4 (.int .i64 1)) fun v14_25 => (ih x0 x2 x3 v14_25 m)))) (k0 (mpick undef undef (.bool false)) fun v47_26 => (k1 (mfieldAddr E.P 99 x3 5) fun v49_27 => (ks (xstore E.P base m 4 v49_27 v47_26) fun m => (k1 (mbin E .add 3 x4 (.int .i64 1)) fun v14_28 => (ih x0 x2 x3 v14_28 m))))))) (fun v m => kp v m))))))) (k1 (mbin E .eql 3 v19_8 (.int .i64 3)) fun v33_29 => (kb v33_29 (k1 (mfieldAddr E.P 99 x3 0) fun v35_30 => (ks (xstore E.P base m 3 v35_30 (.int .i64 4)) fun m => (k1 (mfieldAddr E.P 99 x3 5) fun v36_31 => (k1 (xload E.P m 4 v36_31) fun v37_32 => (kb v37_32 (k1 (mfieldAddr E.P 99 x3 5) fun v49_33 => (ks (xstore E.P base m 4 v49_33 (.bool true)) fun m => (k1 (mbin E .add 3 x4 (.int .i64 1)) fun v14_34 => (ih x0 x2 x3 v14_34 m)))) (kc (call base 96 [v26_12, v27_13] m) (fun v41_35 m => (kbu v41_35 (kc (call base 97 [x0, v26_12, v27_13] m) (fun v46_36 m => (k1 (mfieldAddr E.P 99 x3 5) fun v49_37 => (ks (xstore E.P base m 4 v49_37 v46_36) fun m => (k1 (mbin E .add 3 x4 (.int .i64 1)) fun v14_38 => (ih x0 x2 x3 v14_38 m))))) (fun v m => kp v m)) (k1 (mfieldAddr E.P 99 x3 5) fun v49_39 => (ks (xstore E.P base m 4 v49_39 (.bool false)) fun m => (k1 (mbin E .add 3 x4 (.int .i64 1)) fun v14_40 => (ih x0 x2 x3 v14_40 m)))) (k0 (mpick undef undef (.bool false)) fun v47_41 => (k1 (mfieldAddr E.P 99 x3 5) fun v49_42 => (ks (xstore E.P base m 4 v49_42 v47_41) fun m => (k1 (mbin E .add 3 x4 (.int .i64 1)) fun v14_43 => (ih x0 x2 x3 v14_43 m))))))) (fun v m => kp v m))))))) (k1 (mbin E .eql 3 v19_8 (.int .i64 2)) fun v52_44 => (kb v52_44 (k1 (mfieldAddr E.P 99 x3 0) fun v53_45 => (k1 (xload E.P m 3 v53_45) fun v54_46 => (k2 (vcall E.P base m .max [3, 3] [v54_46, (.int .i64 2)]) fun v55_47 m => (k1 (mfieldAddr E.P 99 x3 0) fun v56_48 => (ks (xstore E.P base m 3 v56_48 v55_47) fun m => (kc (call base 96 [v26_12, v27_13] m) (fun v59_49 m => (kb v59_49 (kc (call base 97 [x0, v26_12, v27_13] m) (fun v64_50 m => (k1 (mun .not v64_50) fun v65_51 => (kb v65_51 (k1 (mfieldAddr E.P 99 x3 4) fun v67_52 => (ks (xstore E.P base m 4 v67_52 (.bool false)) fun m => (k1 (mbin E .add 3 x4 (.int .i64 1)) fun v14_53 => (ih x0 x2 x3 v14_53 m)))) (k1 (mbin E .add 3 x4 (.int .i64 1)) fun v14_54 => (ih x0 x2 x3 v14_54 m))))) (fun v m => kp v m)) (k1 (mbin E .add 3 x4 (.int .i64 1)) fun v14_55 => (ih x0 x2 x3 v14_55 m)))) (fun v m => kp v m))))))) (k1 (mbin E .geq 3 v19_8 (.int .i64 4)) fun v70_56 => (kb v70_56 (k1 (mfieldAddr E.P 99 x3 1) fun v71_57 => (ks (xstore E.P base m 4 v71_57 (.bool true)) fun m => (k1 (mindexAddr E.P 30 x0 x4) fun v74_58 => (k1 (xload E.P m 50 v74_58) fun v75_59 => (kc (call base 98 [v75_59] m) (fun v76_60 m => (kb v76_60 (k1 (mfieldAddr E.P 99 x3 2) fun v77_61 => (ks (xstore E.P base m 4 v77_61 (.bool true)) fun m => (k1 (mfieldAddr E.P 99 x3 3) fun v79_62 => (k1 (mindexAddr E.P 97 v79_62 v19_8) fun v80_63 => (ks (xstore E.P base m 4 v80_63 (.bool true)) fun m => (k1 (mbin E .add 3 x4 (.int .i64 1)) fun v14_64 => (ih x0 x2 x3 v14_64 m))))))) (k1 (mbin E .add 3 x4 (.int .i64 1)) fun v14_65 => (ih x0 x2 x3 v14_65 m)))) (fun v m => kp v m)))))) (k1 (mbin E .add 3 x4 (.int .i64 1)) fun v14_66 => (ih x0 x2 x3 v14_66 m))))))))))))) (fun v m => kp v m))))) (fun v m => kp v m)))) (kx0 x2 x3 m))))) n
noncomputable def r72 (call : CallF) (fuel base : Nat) (x0 : Value) (m : M) : Res2 :=
  (k2 (xalloc E.P m 99) fun v2_1 m => (k1 (mbuild E.P 99 [(0, (.int .i64 1)), (4, (.bool true))]) fun v8_2 => (k2 (xalloc E.P m 99) fun v3_3 m => (ks (xstore E.P base m 99 v3_3 v8_2) fun m => (r72_L0 call fuel base (fun v m => some (.pan v, m)) (fun y2_67 y3_68 m => (k1 (xload E.P m 99 y3_68) fun v81_69 => (ks (xstore E.P base m 99 y2_67 v81_69) fun m => (k0 (mload E.P m 99 y2_67) fun r_70 => (fVal r_70 fun v => some (.ret v, m)))))) fuel x0 v2_1 v3_3 (.int .i64 0) m)))))
def keep72 : Keep := { region := fun i => ([[0, 2], [0, 2, 3], [0, 2, 3, 4], [0, 2, 3, 4, 12], [0, 2, 3, 4], [0, 2, 3, 4, 5], [0, 2, 3, 4, 5, 6, 7], [0, 2, 3, 4, 5, 6, 7, 28], [0, 2, 3, 4, 6, 7], [0, 2, 3, 4], [0, 2, 3, 4, 5, 6, 7, 50], [0, 2, 3, 4, 6, 7], [0, 2, 3, 4, 66], [0, 2, 3, 4], [0, 2, 3, 4, 5, 68], [0, 2, 3, 4, 5], [0, 2, 3, 4, 5, 76], [0, 2, 3, 4, 5], [0, 2, 3, 4], [2]] : List (List Nat))[i]?, exit := fun i => ([[2, 3], [0, 2, 3, 4], [0, 2, 3, 4]] : List (List Nat))[i]?, ret := some [2] }
noncomputable def r72_L0_R (call : CallF) (fuel base n : Nat) (vs : List Value) (m : M) (K : KT) : Res2 := match vs with
  | [x0, x2, x3, x4] => r72_L0 call fuel base (fun v m => K (.pan v) { n := 82, l := [] } m) (fun y2 y3 m => K (.exit 0) { n := 82, l := [(2, y2), (3, y3)] } m) n x0 x2 x3 x4 m
  | _ => none
noncomputable def lp72 (call : CallF) (fuel base : Nat) : Lp := lpsel [(0, fun T m K => kslots 82 [0, 2, 3, 4] T fun vs => r72_L0_R call fuel base fuel vs m K)]
noncomputable def c72 : Code := Tryd.f72.body.getD .skip
theorem r72_L0_lk (call : CallF) (fuel base : Nat) : LoopsOk E call (lp72 call fuel base) fuel base 0 (loopB (blockB (seqR (seqL (seqR (seqR c72)))))) = (And (And True (And True True)) (And (And True (And True (And True (And (And True True) (And True (And (And True (And True (And True True))) (And True (And (And True (And True (And (And True True) True))) True)))))))) True)) := by kernel_rfl
theorem r72_L0_ok (call : CallF) (fuel base : Nat) : LpOk E call (lp72 call fuel base) fuel base 0 (loopB (blockB (seqR (seqL (seqR (seqR c72)))))) := by
  refine loop_ok (kp := keep72) (hb := Eq.mpr (r72_L0_lk call fuel base) (And.intro (And.intro trivial (And.intro trivial trivial)) (And.intro (And.intro trivial (And.intro trivial (And.intro trivial (And.intro (And.intro trivial trivial) (And.intro trivial (And.intro (And.intro trivial (And.intro trivial (And.intro trivial trivial))) (And.intro trivial (And.intro (And.intro trivial (And.intro trivial (And.intro (And.intro trivial trivial) trivial))) trivial)))))))) trivial))) 82 [0, 2, 3, 4] (fun n vs m K => r72_L0_R call fuel base n vs m K) ?_ ?_ (fun _ _ _ => rfl)
  · intro vs m K
    unfold r72_L0_R
    split <;> rfl
  · intro n vs m K hl
    match vs, hl with
    | [x0, x2, x3, x4], _ => show _ = _; kernel_rfl
theorem r72_eq (call : CallF) (fuel base : Nat) (x0 : Value) (m : M) : kbody E call keep72 (lp72 call fuel base) base Tryd.f72 [x0] m = r72 call fuel base x0 m := by
  kernel_rfl
noncomputable def rf72 : RF := fun call fuel base args m => match args with
  | [x0] => r72 call fuel base x0 m
  | _ => none
theorem r72_lk (call : CallF) (fuel base : Nat) : LoopsOk E call (lp72 call fuel base) fuel base 0 c72 = (And True (And True (And (And True (LpOk E call (lp72 call fuel base) fuel base 0 (loopB (blockB (seqR (seqL (seqR (seqR c72)))))))) (And True True)))) := by kernel_rfl
theorem r72_fn : E.P.funcs[72]? = some Tryd.f72 := by kernel_rfl
theorem r72_body : Tryd.f72.body = some c72 := by kernel_rfl
theorem rf72_ok : RFok E 72 rf72 := by
  refine ⟨Tryd.f72, r72_fn, fun call fuel base args m r _ h => ?_⟩
  unfold rf72 at h
  split at h
  · rw [← r72_eq] at h
    exact kbody_sound (c := c72) r72_body (Eq.mpr (r72_lk call fuel base) (And.intro trivial (And.intro trivial (And.intro (And.intro trivial (r72_L0_ok call fuel base)) (And.intro trivial trivial))))) h
  · simp at h
end Go.AM
namespace Go.AM
open Go Go.Proofs
noncomputable def r73_L0 (call : CallF) (fuel base : Nat) (kx0 : Value → M → Res2) (n : Nat) : Value → Value → Value → M → Res2 :=
  Nat.rec (motive := fun _ => Value → Value → Value → M → Res2) (fun _ _ _ _ => none)
    (fun _ ih x1 x3 x4 m =>
      (k1 (mbin E .lss 3 x4 (.int .i64 8)) fun v6_2 => (kb v6_2 (k1 (mfieldAddr E.P 99 x1 3) fun v10_3 => (k1 (mindexAddr E.P 97 v10_3 x4) fun v11_4 => (k1 (xload E.P m 4 v11_4) fun v12_5 => (kb v12_5 (k1 (mbin E .add 3 x3 (.int .i64 1)) fun v14_6 => (k1 (mbin E .add 3 x4 (.int .i64 1)) fun v8_7 => (ih x1 v14_6 v8_7 m))) (k1 (mbin E .add 3 x4 (.int .i64 1)) fun v8_8 => (ih x1 x3 v8_8 m)))))) (kx0 x3 m)))) n
noncomputable def r73 (call : CallF) (fuel base : Nat) (x0 : Value) (m : M) : Res2 :=
  (k2 (xbox m x0) fun v1_1 m => (r73_L0 call fuel base (fun y3_9 m => (k1 (mbin E .eql 3 y3_9 (.int .i64 1)) fun v16_10 => (fVal v16_10 fun v => some (.ret v, m)))) fuel v1_1 (.int .i64 0) (.int .i64 4) m))
def keep73 : Keep := { region := fun i => ([[1], [1, 3], [1, 3, 4], [1, 3, 4, 6], [1, 3, 4], [1, 3, 4, 12], [1, 3, 4], [2]] : List (List Nat))[i]?, exit := fun i => ([[3], [1, 3, 4]] : List (List Nat))[i]?, ret := some [2] }
noncomputable def r73_L0_R (call : CallF) (fuel base n : Nat) (vs : List Value) (m : M) (K : KT) : Res2 := match vs with
  | [x1, x3, x4] => r73_L0 call fuel base (fun y3 m => K (.exit 0) { n := 17, l := [(3, y3)] } m) n x1 x3 x4 m
  | _ => none
noncomputable def lp73 (call : CallF) (fuel base : Nat) : Lp := lpsel [(0, fun T m K => kslots 17 [1, 3, 4] T fun vs => r73_L0_R call fuel base fuel vs m K)]
noncomputable def c73 : Code := Tryd.f73.body.getD .skip
theorem r73_L0_lk (call : CallF) (fuel base : Nat) : LoopsOk E call (lp73 call fuel base) fuel base 0 (loopB (blockB (seqR (seqL (seqR (seqR c73)))))) = (And (And True (And True True)) (And (And True (And True True)) True)) := by kernel_rfl
theorem r73_L0_ok (call : CallF) (fuel base : Nat) : LpOk E call (lp73 call fuel base) fuel base 0 (loopB (blockB (seqR (seqL (seqR (seqR c73)))))) := by
  refine loop_ok (kp := keep73) (hb := Eq.mpr (r73_L0_lk call fuel base) (And.intro (And.intro trivial (And.intro trivial trivial)) (And.intro (And.intro trivial (And.intro trivial trivial)) trivial))) 17 [1, 3, 4] (fun n vs m K => r73_L0_R call fuel base n vs m K) ?_ ?_ (fun _ _ _ => rfl)
  · intro vs m K
    unfold r73_L0_R
    split <;> rfl
  · intro n vs m K hl
    match vs, hl with
    | [x1, x3, x4], _ => show _ = _; kernel_rfl
theorem r73_eq (call : CallF) (fuel base : Nat) (x0 : Value) (m : M) : kbody E call keep73 (lp73 call fuel base) base Tryd.f73 [x0] m = r73 call fuel base x0 m := by
  kernel_rfl
noncomputable def rf73 : RF := fun call fuel base args m => match args with
  | [x0] => r73 call fuel base x0 m
  | _ => none
theorem r73_lk (call : CallF) (fuel base : Nat) : LoopsOk E call (lp73 call fuel base) fuel base 0 c73 = (And True (And True (And (And True (LpOk E call (lp73 call fuel base) fuel base 0 (loopB (blockB (seqR (seqL (seqR (seqR c73)))))))) (And True True)))) := by kernel_rfl
theorem r73_fn : E.P.funcs[73]? = some Tryd.f73 := by kernel_rfl
theorem r73_body : Tryd.f73.body = some c73 := by kernel_rfl
theorem rf73_ok : RFok E 73 rf73 := by
  refine ⟨Tryd.f73, r73_fn, fun call fuel base args m r _ h => ?_⟩
  unfold rf73 at h
  split at h
  · rw [← r73_eq] at h
    exact kbody_sound (c := c73) r73_body (Eq.mpr (r73_lk call fuel base) (And.intro trivial (And.intro trivial (And.intro (And.intro trivial (r73_L0_ok call fuel base)) (And.intro trivial trivial))))) h
  · simp at h
end Go.AM
namespace Go.AM
open Go Go.Proofs
noncomputable def r74_L2 (call : CallF) (fuel base : Nat) (kp : Value → M → Res2) (kx2 : Value → Value → Value → M → Res2) (n : Nat) : Value → Value → Value → Value → Value → M → Res2 :=
  Nat.rec (motive := fun _ => Value → Value → Value → Value → Value → M → Res2) (fun _ _ _ _ _ _ => none)
    (fun _ ih x0 x3 x4 x5 x6 m =>
      (k2 (vcall E.P base m .len [30] [x0]) fun v49_29 m => (k1 (mbin E .lss 3 x6 v49_29) fun v50_30 => (kb v50_30 (k1 (mindexAddr E.P 30 x0 x6) fun v55_31 => (k1 (xload E.P m 50 v55_31) fun v56_32 => (k2 (xalloc E.P m 50) fun v7_33 m => (ks (xstore E.P base m 50 v7_33 v56_32) fun m => (k1 (xload E.P m 50 v7_33) fun v57_34 => (kc (kB m (call m.length 35 [v57_34] m)) (fun v58_35 m => (k1 (xload E.P m 50 x4) fun v59_36 => (kc (kB m (call m.length 35 [v59_36] m)) (fun v60_37 m => (k1 (mbin E .neq 3 v58_35 v60_37) fun v61_38 => (kb v61_38 (k1 (mbin E .add 3 x6 (.int .i64 1)) fun v52_39 => (ih x0 x3 x4 x5 v52_39 m)) (k1 (xload E.P m 50 v7_33) fun v63_40 => (kc (kB m (call m.length 98 [v63_40] m)) (fun v64_41 m => (k1 (mun .not v64_41) fun v65_42 => (kb v65_42 (k1 (mbin E .add 3 x6 (.int .i64 1)) fun v52_43 => (ih x0 x3 x4 x5 v52_43 m)) (k1 (mfieldAddr E.P 50 x4 4) fun v67_44 => (k1 (xload E.P m 3 v67_44) fun v68_45 => (k1 (mfieldAddr E.P 50 v7_33 4) fun v69_46 => (k1 (xload E.P m 3 v69_46) fun v70_47 => (k1 (mbin E .sub 3 v68_45 v70_47) fun v71_48 => (k1 (mfieldAddr E.P 50 x4 5) fun v72_49 => (k1 (xload E.P m 3 v72_49) fun v73_50 => (k1 (mfieldAddr E.P 50 v7_33 5) fun v74_51 => (k1 (xload E.P m 3 v74_51) fun v75_52 => (k1 (mbin E .sub 3 v73_50 v75_52) fun v76_53 => (k1 (xload E.P m 50 x4) fun v77_54 => (kc (call base 35 [v77_54] m) (fun v78_55 m => (k1 (mbin E .eql 3 v78_55 (.int .i64 4)) fun v80_56 => (kb v80_56 (kb x5 (k1 (mbin E .add 3 x6 (.int .i64 1)) fun v52_57 => (ih x0 x3 x4 (.bool true) v52_57 m)) (k1 (mbin E .eql 3 v76_53 (.int .i64 0)) fun v84_58 => (k1 (mbin E .add 3 x6 (.int .i64 1)) fun v52_59 => (ih x0 x3 x4 v84_58 v52_59 m)))) (k1 (mbin E .eql 3 v78_55 (.int .i64 5)) fun v87_60 => (kb v87_60 (kb x5 (k1 (mbin E .add 3 x6 (.int .i64 1)) fun v52_61 => (ih x0 x3 x4 (.bool true) v52_61 m)) (k1 (mbin E .eql 3 v71_48 (.int .i64 0)) fun v91_62 => (k1 (mbin E .add 3 x6 (.int .i64 1)) fun v52_63 => (ih x0 x3 x4 v91_62 v52_63 m)))) (k1 (mbin E .eql 3 v78_55 (.int .i64 6)) fun v94_64 => (kb v94_64 (kb x5 (k1 (mbin E .add 3 x6 (.int .i64 1)) fun v52_65 => (ih x0 x3 x4 (.bool true) v52_65 m)) (k1 (mbin E .eql 3 v71_48 v76_53) fun v99_66 => (k1 (mbin E .add 3 x6 (.int .i64 1)) fun v52_67 => (ih x0 x3 x4 v99_66 v52_67 m)))) (k1 (mbin E .eql 3 v78_55 (.int .i64 7)) fun v102_68 => (kb v102_68 (kb x5 (k1 (mbin E .add 3 x6 (.int .i64 1)) fun v52_69 => (ih x0 x3 x4 (.bool true) v52_69 m)) (k1 (mun .neg v76_53) fun v107_70 => (k1 (mbin E .eql 3 v71_48 v107_70) fun v108_71 => (k1 (mbin E .add 3 x6 (.int .i64 1)) fun v52_72 => (ih x0 x3 x4 v108_71 v52_72 m))))) (k1 (mbin E .add 3 x6 (.int .i64 1)) fun v52_73 => (ih x0 x3 x4 x5 v52_73 m))))))))))) (fun v m => kp v m)))))))))))))))) (fun _ _ => none)))))) (fun _ _ => none)))) (fun _ _ => none))))))) (kx2 x0 x3 x5 m))))) n
noncomputable def r74_L0 (call : CallF) (fuel base : Nat) (kp : Value → M → Res2) (kr : Value → M → Res2) (kx0 : M → Res2) (n : Nat) : Value → Value → M → Res2 :=
  Nat.rec (motive := fun _ => Value → Value → M → Res2) (fun _ _ _ => none)
    (fun _ ih x0 x3 m =>
      (k2 (vcall E.P base m .len [30] [x0]) fun v12_1 m => (k1 (mbin E .lss 3 x3 v12_1) fun v13_2 => (kb v13_2 (k1 (mindexAddr E.P 30 x0 x3) fun v18_3 => (k1 (xload E.P m 50 v18_3) fun v19_4 => (k2 (xalloc E.P m 50) fun v4_5 m => (ks (xstore E.P base m 50 v4_5 v19_4) fun m => (k1 (xload E.P m 50 v4_5) fun v20_6 => (kc (call base 99 [v20_6] m) (fun v21_7 m => (k1 (mun .not v21_7) fun v22_8 => (kb v22_8 (k1 (mbin E .add 3 x3 (.int .i64 1)) fun v15_9 => (ih x0 v15_9 m)) (k1 (xload E.P m 50 v4_5) fun v24_10 => (kc (call base 98 [v24_10] m) (fun v25_11 m => (kb v25_11 (k1 (mbin E .add 3 x3 (.int .i64 1)) fun v15_12 => (ih x0 v15_12 m)) (k1 (mfieldAddr E.P 50 v4_5 4) fun v28_13 => (k1 (xload E.P m 3 v28_13) fun v29_14 => (k1 (mbin E .lss 3 v29_14 (.int .i64 (-7))) fun v30_15 => (kb v30_15 (k1 (mbin E .add 3 x3 (.int .i64 1)) fun v15_16 => (ih x0 v15_16 m)) (k1 (mfieldAddr E.P 50 v4_5 4) fun v33_17 => (k1 (xload E.P m 3 v33_17) fun v34_18 => (k1 (mbin E .gtr 3 v34_18 (.int .i64 7)) fun v35_19 => (kb v35_19 (k1 (mbin E .add 3 x3 (.int .i64 1)) fun v15_20 => (ih x0 v15_20 m)) (k1 (mfieldAddr E.P 50 v4_5 5) fun v38_21 => (k1 (xload E.P m 3 v38_21) fun v39_22 => (k1 (mbin E .lss 3 v39_22 (.int .i64 (-7))) fun v40_23 => (kb v40_23 (k1 (mbin E .add 3 x3 (.int .i64 1)) fun v15_24 => (ih x0 v15_24 m)) (k1 (mfieldAddr E.P 50 v4_5 5) fun v43_25 => (k1 (xload E.P m 3 v43_25) fun v44_26 => (k1 (mbin E .gtr 3 v44_26 (.int .i64 7)) fun v45_27 => (kb v45_27 (k1 (mbin E .add 3 x3 (.int .i64 1)) fun v15_28 => (ih x0 v15_28 m)) (r74_L2 call fuel base (fun v m => kp v m) (fun y0_74 y3_75 y5_76 m => (k1 (mun .not y5_76) fun v111_77 => (kb v111_77 (kr (.bool false) m) (k1 (mbin E .add 3 y3_75 (.int .i64 1)) fun v15_78 => (ih y0_74 v15_78 m))))) fuel x0 x3 v4_5 (.bool false) (.int .i64 0) m))))))))))))))))))) (fun v m => kp v m)))))) (fun v m => kp v m))))))) (kx0 m))))) n
noncomputable def r74 (call : CallF) (fuel base : Nat) (x0 : Value) (m : M) : Res2 :=
  (r74_L0 call fuel base (fun v m => some (.pan v, m)) (fun y2_79 m => (fVal y2_79 fun v => some (.ret v, m))) (fun m => (fVal (.bool true) fun v => some (.ret v, m))) fuel x0 (.int .i64 0) m)
def keep74 : Keep := { region := fun i => ([[0], [0, 3], [0, 3, 13], [0, 3], [0, 3, 4], [0, 3, 4, 46], [0, 3, 4, 5], [0, 3, 4, 5, 6], [0, 3, 4, 5, 6, 50], [0, 3, 4, 5, 6], [0, 3, 4, 5, 6, 7], [0, 3, 4, 5, 6, 7, 66], [0, 3, 4, 5, 6, 8, 9], [0, 3, 4, 5, 6, 8, 9, 78], [0, 3, 4, 5, 6, 8, 9, 78, 79], [0, 3, 4, 5, 6], [0, 3, 4, 5, 6, 8, 9, 78, 86], [0, 3, 4, 5, 6], [0, 3, 4, 5, 6, 8, 9, 78, 93], [0, 3, 4, 5, 6], [0, 3, 4, 5, 6, 8, 9, 101], [0, 3, 4, 5, 6], [0, 3, 111], [2], [2]] : List (List Nat))[i]?, exit := fun i => ([[], [0, 3], [0, 3, 5], [0, 3, 4, 5, 6], [0, 3, 4, 5, 6]] : List (List Nat))[i]?, ret := some [2] }
noncomputable def r74_L2_R (call : CallF) (fuel base n : Nat) (vs : List Value) (m : M) (K : KT) : Res2 := match vs with
  | [x0, x3, x4, x5, x6] => r74_L2 call fuel base (fun v m => K (.pan v) { n := 112, l := [] } m) (fun y0 y3 y5 m => K (.exit 2) { n := 112, l := [(0, y0), (3, y3), (5, y5)] } m) n x0 x3 x4 x5 x6 m
  | _ => none
noncomputable def r74_L0_R (call : CallF) (fuel base n : Nat) (vs : List Value) (m : M) (K : KT) : Res2 := match vs with
  | [x0, x3] => r74_L0 call fuel base (fun v m => K (.pan v) { n := 112, l := [] } m) (fun y2 m => K .ret { n := 112, l := [(2, y2)] } m) (fun m => K (.exit 0) { n := 112, l := [] } m) n x0 x3 m
  | _ => none
noncomputable def lp74 (call : CallF) (fuel base : Nat) : Lp := lpsel [(2, fun T m K => kslots 112 [0, 3, 4, 5, 6] T fun vs => r74_L2_R call fuel base fuel vs m K), (0, fun T m K => kslots 112 [0, 3] T fun vs => r74_L0_R call fuel base fuel vs m K)]
noncomputable def c74 : Code := Tryd.f74.body.getD .skip
theorem r74_L2_lk (call : CallF) (fuel base : Nat) : LoopsOk E call (lp74 call fuel base) fuel base 2 (loopB (blockB (seqR (seqL (seqR (seqR (seqR (blockB (seqL (seqR (loopB (blockB (seqR (seqL (seqR c74))))))))))))))) = (And (And True (And True True)) (And (And True (And (And True (And True True)) (And True (And True (And True (And True (And True (And True (And True (And True (And True (And True True)))))))))))) True)) := by kernel_rfl
theorem r74_L2_ok (call : CallF) (fuel base : Nat) : LpOk E call (lp74 call fuel base) fuel base 2 (loopB (blockB (seqR (seqL (seqR (seqR (seqR (blockB (seqL (seqR (loopB (blockB (seqR (seqL (seqR c74))))))))))))))) := by
  refine loop_ok (kp := keep74) (hb := Eq.mpr (r74_L2_lk call fuel base) (And.intro (And.intro trivial (And.intro trivial trivial)) (And.intro (And.intro trivial (And.intro (And.intro trivial (And.intro trivial trivial)) (And.intro trivial (And.intro trivial (And.intro trivial (And.intro trivial (And.intro trivial (And.intro trivial (And.intro trivial (And.intro trivial (And.intro trivial (And.intro trivial trivial)))))))))))) trivial))) 112 [0, 3, 4, 5, 6] (fun n vs m K => r74_L2_R call fuel base n vs m K) ?_ ?_ (fun _ _ _ => rfl)
  · intro vs m K
    unfold r74_L2_R
    split <;> rfl
  · intro n vs m K hl
    match vs, hl with
    | [x0, x3, x4, x5, x6], _ => show _ = _; kernel_rfl
theorem r74_L0_lk (call : CallF) (fuel base : Nat) : LoopsOk E call (lp74 call fuel base) fuel base 0 (loopB (blockB (seqR (seqL (seqR c74))))) = (And (And True (And True True)) (And (And True (And (And True (And True True)) (And True (And (And True (LpOk E call (lp74 call fuel base) fuel base 2 (loopB (blockB (seqR (seqL (seqR (seqR (seqR (blockB (seqL (seqR (loopB (blockB (seqR (seqL (seqR c74))))))))))))))))) (And True (And (And True True) True)))))) True)) := by kernel_rfl
theorem r74_L0_ok (call : CallF) (fuel base : Nat) : LpOk E call (lp74 call fuel base) fuel base 0 (loopB (blockB (seqR (seqL (seqR c74))))) := by
  refine loop_ok (kp := keep74) (hb := Eq.mpr (r74_L0_lk call fuel base) (And.intro (And.intro trivial (And.intro trivial trivial)) (And.intro (And.intro trivial (And.intro (And.intro trivial (And.intro trivial trivial)) (And.intro trivial (And.intro (And.intro trivial (r74_L2_ok call fuel base)) (And.intro trivial (And.intro (And.intro trivial trivial) trivial)))))) trivial))) 112 [0, 3] (fun n vs m K => r74_L0_R call fuel base n vs m K) ?_ ?_ (fun _ _ _ => rfl)
  · intro vs m K
    unfold r74_L0_R
    split <;> rfl
  · intro n vs m K hl
    match vs, hl with
    | [x0, x3], _ => show _ = _; kernel_rfl
theorem r74_eq (call : CallF) (fuel base : Nat) (x0 : Value) (m : M) : kbody E call keep74 (lp74 call fuel base) base Tryd.f74 [x0] m = r74 call fuel base x0 m := by
  kernel_rfl
noncomputable def rf74 : RF := fun call fuel base args m => match args with
  | [x0] => r74 call fuel base x0 m
  | _ => none
theorem r74_lk (call : CallF) (fuel base : Nat) : LoopsOk E call (lp74 call fuel base) fuel base 0 c74 = (And True (And (And True (LpOk E call (lp74 call fuel base) fuel base 0 (loopB (blockB (seqR (seqL (seqR c74))))))) (And True True))) := by kernel_rfl
theorem r74_fn : E.P.funcs[74]? = some Tryd.f74 := by kernel_rfl
theorem r74_body : Tryd.f74.body = some c74 := by kernel_rfl
theorem rf74_ok : RFok E 74 rf74 := by
  refine ⟨Tryd.f74, r74_fn, fun call fuel base args m r _ h => ?_⟩
  unfold rf74 at h
  split at h
  · rw [← r74_eq] at h
    exact kbody_sound (c := c74) r74_body (Eq.mpr (r74_lk call fuel base) (And.intro trivial (And.intro (And.intro trivial (r74_L0_ok call fuel base)) (And.intro trivial trivial)))) h
  · simp at h
end Go.AM
namespace Go.AM
open Go Go.Proofs
noncomputable def r75 (call : CallF) (fuel base : Nat) (x0 : Value) (x1 : Value) (m : M) : Res2 :=
  (k2 (xbox m x0) fun v2_1 m => (k2 (xbox m x1) fun v3_2 m => (k1 (xload E.P m 70 v2_1) fun v5_3 => (k1 (xload E.P m 103 v3_2) fun v6_4 => (kc (call base 100 [v5_3, v6_4] m) (fun v7_5 m => (ks (xstore E.P base m 103 v3_2 v7_5) fun m => (k1 (mfieldAddr E.P 103 v3_2 1) fun v8_6 => (k1 (xload E.P m 3 v8_6) fun v9_7 => (k1 (mfieldAddr E.P 70 v2_1 0) fun v10_8 => (k1 (mfieldAddr E.P 26 v10_8 0) fun v11_9 => (k1 (xload E.P m 3 v11_9) fun v12_10 => (k1 (mbin E .mul 3 v9_7 v12_10) fun v13_11 => (k1 (mfieldAddr E.P 103 v3_2 0) fun v14_12 => (k1 (xload E.P m 3 v14_12) fun v15_13 => (k1 (mbin E .add 3 v13_11 v15_13) fun v16_14 => (fVal v16_14 fun v => some (.ret v, m))))))))))))) (fun v m => some (.pan v, m)))))))
def keep75 : Keep := { region := fun i => ([[2, 3], [2, 3], [4]] : List (List Nat))[i]?, exit := fun i => ([] : List (List Nat))[i]?, ret := some [4] }
noncomputable def lp75 (call : CallF) (fuel base : Nat) : Lp := lpsel []
noncomputable def c75 : Code := Tryd.f75.body.getD .skip
theorem r75_eq (call : CallF) (fuel base : Nat) (x0 : Value) (x1 : Value) (m : M) : kbody E call keep75 (lp75 call fuel base) base Tryd.f75 [x0, x1] m = r75 call fuel base x0 x1 m := by
  kernel_rfl
noncomputable def rf75 : RF := fun call fuel base args m => match args with
  | [x0, x1] => r75 call fuel base x0 x1 m
  | _ => none
theorem r75_lk (call : CallF) (fuel base : Nat) : LoopsOk E call (lp75 call fuel base) fuel base 0 c75 = (And True (And True (And True True))) := by kernel_rfl
theorem r75_fn : E.P.funcs[75]? = some Tryd.f75 := by kernel_rfl
theorem r75_body : Tryd.f75.body = some c75 := by kernel_rfl
theorem rf75_ok : RFok E 75 rf75 := by
  refine ⟨Tryd.f75, r75_fn, fun call fuel base args m r _ h => ?_⟩
  unfold rf75 at h
  split at h
  · rw [← r75_eq] at h
    exact kbody_sound (c := c75) r75_body (Eq.mpr (r75_lk call fuel base) (And.intro trivial (And.intro trivial (And.intro trivial trivial)))) h
  · simp at h
end Go.AM
