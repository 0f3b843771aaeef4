import Derived.KernelRfl
import Derived.Laws.BytesArg
import Derived.Laws.StructEq
import Derived.RangeFuncLeaves
import Derived.RangeFuncRecord
import Derived.Test.YtakncchgcbnfeaaProg
import Derived.Test.YtakncchgcbnfeaaRows
import Derived.WalkKit
import Derived.Test.YtakncchgcbnfeaaAmB
import Derived.Test.YtakncchgcbnfeaaAmG
import Derived.Test.YtakncchgcbnfeaaAmModel
import Derived.Test.YtakncchgcbnfeaaAmRel
import Derived.Test.YtakncchgcbnfeaaAmOps6
import Derived.Test.YtakncchgcbnfeaaAmCode
import Derived.Test.YtakncchgcbnfeaaAmDraw5
import Derived.Test.YtakncchgcbnfeaaAmEq
import Derived.Test.YtakncchgcbnfeaaRBase
set_option linter.unusedVariables false
set_option linter.unusedSimpArgs false
set_option linter.unusedSectionVars false
namespace Go.AM
open Go Go.Proofs
noncomputable def r77_L0 (call : CallF) (fuel base : Nat) (kp : Value → M → Res2) (kr : Value → M → Res2) (kx0 : Value → Value → Value → M → Res2) (n : Nat) : Value → Value → Value → Value → Value → Value → M → Res2 :=
  Nat.rec (motive := fun _ => Value → Value → Value → Value → Value → Value → M → Res2) (fun _ _ _ _ _ _ _ => none)
    (fun _ ih x0 x3 x4 x5 x10 x11 m =>
      (k1 (mbin E .lss 3 x11 x10) fun v12_4 => (kb v12_4 (kc (call base 98 [x0, x11] m) (fun v16_5 m => (k1 (mbin E .lss 3 v16_5 (.int .i64 0)) fun v18_6 => (kb v18_6 (kr (.int .i64 0) m) (k1 (mbin E .neq 3 v16_5 x11) fun v21_7 => (kb v21_7 (k1 (mindexAddr E.P 33 x0 v16_5) fun v28_8 => (k1 (xload E.P m 27 v28_8) fun v29_9 => (k1 (mindexAddr E.P 33 x0 x11) fun v32_10 => (k1 (xload E.P m 27 v32_10) fun v33_11 => (k1 (mindexAddr E.P 33 x0 x11) fun v34_12 => (ks (xstore E.P base m 27 v34_12 v29_9) fun m => (k1 (mindexAddr E.P 33 x0 v16_5) fun v35_13 => (ks (xstore E.P base m 27 v35_13 v33_11) fun m => (k1 (mun .not x5) fun v37_14 => (k1 (xload E.P m 120 x3) fun v41_15 => (kc (call base 99 [x0, x11, x4, v41_15] m) (fun v42_16 m => (k1 (mindexAddr E.P 33 x0 x11) fun v45_17 => (k1 (xload E.P m 27 v45_17) fun v46_18 => (k1 (mindexAddr E.P 27 v46_18 x11) fun v48_19 => (k1 (xload E.P m 3 v48_19) fun v49_20 => (k1 (mbin E .add 3 x11 (.int .i64 1)) fun v50_21 => (ih x0 x3 v49_20 v37_14 x10 v50_21 m))))))) (fun v m => kp v m)))))))))))) (k1 (xload E.P m 120 x3) fun v41_22 => (kc (call base 99 [x0, x11, x4, v41_22] m) (fun v42_23 m => (k1 (mindexAddr E.P 33 x0 x11) fun v45_24 => (k1 (xload E.P m 27 v45_24) fun v46_25 => (k1 (mindexAddr E.P 27 v46_25 x11) fun v48_26 => (k1 (xload E.P m 3 v48_26) fun v49_27 => (k1 (mbin E .add 3 x11 (.int .i64 1)) fun v50_28 => (ih x0 x3 v49_27 x5 x10 v50_28 m))))))) (fun v m => kp v m)))))))) (fun v m => kp v m)) (kx0 x3 x4 x5 m)))) n
noncomputable def r77 (call : CallF) (fuel base : Nat) (x0 : Value) (m : M) : Res2 :=
  (kc (call base 97 [] m) (fun v8_1 m => (k2 (xalloc E.P m 120) fun v3_2 m => (ks (xstore E.P base m 120 v3_2 v8_1) fun m => (k2 (vcall E.P base m .len [33] [x0]) fun v10_3 m => (r77_L0 call fuel base (fun v m => some (.pan v, m)) (fun y2_29 m => (fVal y2_29 fun v => some (.ret v, m))) (fun y3_30 y4_31 y5_32 m => (kb y5_32 (k1 (mfieldAddr E.P 120 y3_30 1) fun v52_33 => (k1 (xload E.P m 56 v52_33) fun v53_34 => (kc (kv call base v53_34 [(.int .i64 0), y4_31] m) (fun v55_35 m => (fVal v55_35 fun v => some (.ret v, m))) (fun v m => some (.pan v, m))))) (fVal y4_31 fun v => some (.ret v, m)))) fuel x0 v3_2 (.int .i64 1) (.bool false) v10_3 (.int .i64 0) m))))) (fun v m => some (.pan v, m)))
def keep77 : Keep := { region := fun i => ([[0], [0, 3], [0, 3, 4, 5], [0, 3, 4, 5, 10, 11], [0, 3, 4, 5, 10, 11, 12], [0, 3, 4, 5, 6, 10, 11], [0, 3, 4, 5, 6, 7, 10, 11], [0, 3, 4, 5, 6, 7, 10, 11, 18], [2], [0, 3, 4, 5, 6, 7, 10, 11, 21], [0, 3, 4, 5, 6, 10, 11], [0, 3, 4, 5, 6, 10, 11], [0, 3, 5, 6, 10, 11], [0, 3, 4, 5, 10, 11], [0, 3, 4, 5, 10, 11], [3, 4, 51], [2], [2]] : List (List Nat))[i]?, exit := fun i => ([[3, 4, 5], [0, 3, 4, 5, 10, 11]] : List (List Nat))[i]?, ret := some [2] }
noncomputable def r77_L0_R (call : CallF) (fuel base n : Nat) (vs : List Value) (m : M) (K : KT) : Res2 := match vs with
  | [x0, x3, x4, x5, x10, x11] => r77_L0 call fuel base (fun v m => K (.pan v) { n := 57, l := [] } m) (fun y2 m => K .ret { n := 57, l := [(2, y2)] } m) (fun y3 y4 y5 m => K (.exit 0) { n := 57, l := [(3, y3), (4, y4), (5, y5)] } m) n x0 x3 x4 x5 x10 x11 m
  | _ => none
noncomputable def lp77 (call : CallF) (fuel base : Nat) : Lp := lpsel [(0, fun T m K => kslots 57 [0, 3, 4, 5, 10, 11] T fun vs => r77_L0_R call fuel base fuel vs m K)]
noncomputable def c77 : Code := Try.f77.body.getD .skip
theorem r77_L0_lk (call : CallF) (fuel base : Nat) : LoopsOk E call (lp77 call fuel base) fuel base 0 (loopB (blockB (seqR (seqL (seqR (seqR (seqR c77))))))) = (And True (And (And True True) (And (And True (And True (And (And True (And (And True True) True)) (And (And True (And (And True True) True)) (And True True))))) True))) := by kernel_rfl
theorem r77_L0_ok (call : CallF) (fuel base : Nat) : LpOk E call (lp77 call fuel base) fuel base 0 (loopB (blockB (seqR (seqL (seqR (seqR (seqR c77))))))) := by
  refine loop_ok (kp := keep77) (hb := Eq.mpr (r77_L0_lk call fuel base) (And.intro trivial (And.intro (And.intro trivial trivial) (And.intro (And.intro trivial (And.intro trivial (And.intro (And.intro trivial (And.intro (And.intro trivial trivial) trivial)) (And.intro (And.intro trivial (And.intro (And.intro trivial trivial) trivial)) (And.intro trivial trivial))))) trivial)))) 57 [0, 3, 4, 5, 10, 11] (fun n vs m K => r77_L0_R call fuel base n vs m K) ?_ ?_ (fun _ _ _ => rfl)
  · intro vs m K
    unfold r77_L0_R
    split <;> rfl
  · intro n vs m K hl
    match vs, hl with
    | [x0, x3, x4, x5, x10, x11], _ => show _ = _; kernel_rfl
theorem r77_eq (call : CallF) (fuel base : Nat) (x0 : Value) (m : M) : kbody E call keep77 (lp77 call fuel base) base Try.f77 [x0] m = r77 call fuel base x0 m := by
  kernel_rfl
noncomputable def rf77 : RF := fun call fuel base args m => match args with
  | [x0] => r77 call fuel base x0 m
  | _ => none
theorem r77_lk (call : CallF) (fuel base : Nat) : LoopsOk E call (lp77 call fuel base) fuel base 0 c77 = (And True (And True (And True (And (And True (LpOk E call (lp77 call fuel base) fuel base 0 (loopB (blockB (seqR (seqL (seqR (seqR (seqR c77))))))))) (And (And True (And (And True True) True)) (And True True)))))) := by kernel_rfl
theorem r77_fn : E.P.funcs[77]? = some Try.f77 := by kernel_rfl
theorem r77_body : Try.f77.body = some c77 := by kernel_rfl
theorem rf77_ok : RFok E 77 rf77 := by
  show RFok' E 77 rf77
  refine ⟨Try.f77, r77_fn, fun call fuel base args m r _ h => ?_⟩
  unfold rf77 at h
  split at h
  · rw [← r77_eq] at h
    exact kbody_sound (c := c77) r77_body (Eq.mpr (r77_lk call fuel base) (And.intro trivial (And.intro trivial (And.intro trivial (And.intro (And.intro trivial (r77_L0_ok call fuel base)) (And.intro (And.intro trivial (And.intro (And.intro trivial trivial) trivial)) (And.intro trivial trivial))))))) h
  · simp at h
end Go.AM
namespace Go.AM
open Go Go.Proofs
noncomputable def r80 (call : CallF) (fuel base : Nat) (x0 : Value) (x1 : Value) (x2 : Value) (m : M) : Res2 :=
  (k2 (xbox m x0) fun v3_1 m => (k1 (xload E.P m 79 v3_1) fun v7_2 => (k1 (mbin E .sub 3 x1 (.int .i64 1)) fun v9_3 => (kc (kB m (call m.length 104 [v7_2, v9_3, x2] m)) (fun v11_4 m => (k1 (xload E.P m 79 v3_1) fun v12_5 => (k1 (mbin E .sub 3 x2 (.int .i64 1)) fun v15_6 => (kc (kB m (call m.length 104 [v12_5, x1, v15_6] m)) (fun v16_7 m => (k2 (vcall E.P base m .min [3, 3] [v11_4, v16_7]) fun v17_8 m => (fVal v17_8 fun v => some (.ret v, m)))) (fun _ _ => none))))) (fun _ _ => none)))))
def keep80 : Keep := { region := fun i => ([[1, 2, 3], [6]] : List (List Nat))[i]?, exit := fun i => ([] : List (List Nat))[i]?, ret := some [6] }
noncomputable def lp80 (call : CallF) (fuel base : Nat) : Lp := lpsel []
noncomputable def c80 : Code := Try.f80.body.getD .skip
theorem r80_eq (call : CallF) (fuel base : Nat) (x0 : Value) (x1 : Value) (x2 : Value) (m : M) : kbody E call keep80 (lp80 call fuel base) base Try.f80 [x0, x1, x2] m = r80 call fuel base x0 x1 x2 m := by
  kernel_rfl
noncomputable def rf80 : RF := fun call fuel base args m => match args with
  | [x0, x1, x2] => r80 call fuel base x0 x1 x2 m
  | _ => none
theorem r80_lk (call : CallF) (fuel base : Nat) : LoopsOk E call (lp80 call fuel base) fuel base 0 c80 = (And True (And True True)) := by kernel_rfl
theorem r80_fn : E.P.funcs[80]? = some Try.f80 := by kernel_rfl
theorem r80_body : Try.f80.body = some c80 := by kernel_rfl
theorem rf80_ok : RFok E 80 rf80 := by
  show RFok' E 80 rf80
  refine ⟨Try.f80, r80_fn, fun call fuel base args m r _ h => ?_⟩
  unfold rf80 at h
  split at h
  · rw [← r80_eq] at h
    exact kbody_sound (c := c80) r80_body (Eq.mpr (r80_lk call fuel base) (And.intro trivial (And.intro trivial trivial))) h
  · simp at h
end Go.AM
namespace Go.AM
open Go Go.Proofs
noncomputable def r81_L4 (call : CallF) (fuel base : Nat) (kp : Value → M → Res2) (kx4 : Value → Value → Value → Value → Value → Value → Value → Value → Value → M → Res2) (n : Nat) : Value → Value → Value → Value → Value → Value → Value → Value → Value → Value → Value → Value → Value → Value → M → Res2 :=
  Nat.rec (motive := fun _ => Value → Value → Value → Value → Value → Value → Value → Value → Value → Value → Value → Value → Value → Value → M → Res2) (fun _ _ _ _ _ _ _ _ _ _ _ _ _ _ _ => none)
    (fun _ ih x1 x2 x3 x4 x5 x6 x7 x8 x27 x28 x29 x37 x38 x39 m =>
      (k1 (mbin E .lss 3 x39 x38) fun v40_22 => (kb v40_22 (k1 (mindexAddr E.P 104 x37 x39) fun v42_23 => (k1 (xload E.P m 76 v42_23) fun v43_24 => (k2 (xalloc E.P m 76) fun v10_25 m => (ks (xstore E.P base m 76 v10_25 v43_24) fun m => (k1 (xload E.P m 76 v10_25) fun v44_26 => (k1 (xload E.P m 76 x8) fun v45_27 => (kc (call base 103 [v44_26, v45_27] m) (fun v46_28 m => (kb v46_28 (k1 (mindexAddr E.P 27 x6 x7) fun v49_29 => (k1 (xload E.P m 3 v49_29) fun v50_30 => (k1 (mbin E .sub 3 x5 (.int .i64 1)) fun v53_31 => (k1 (mindexAddr E.P 33 x4 v53_31) fun v54_32 => (k1 (xload E.P m 27 v54_32) fun v55_33 => (k1 (mindexAddr E.P 27 v55_33 x39) fun v57_34 => (k1 (xload E.P m 3 v57_34) fun v58_35 => (k1 (mbin E .add 3 v50_30 v58_35) fun v59_36 => (k1 (mindexAddr E.P 27 x6 x7) fun v60_37 => (ks (xstore E.P base m 3 v60_37 v59_36) fun m => (k1 (mbin E .add 3 x39 (.int .i64 1)) fun v61_38 => (ih x1 x2 x3 x4 x5 x6 x7 x8 x27 x28 x29 x37 x38 v61_38 m)))))))))))) (k1 (mbin E .add 3 x39 (.int .i64 1)) fun v61_39 => (ih x1 x2 x3 x4 x5 x6 x7 x8 x27 x28 x29 x37 x38 v61_39 m)))) (fun v m => kp v m)))))))) (kx4 x1 x2 x3 x4 x5 x6 x27 x28 x29 m)))) n
noncomputable def r81_L2 (call : CallF) (fuel base : Nat) (kp : Value → M → Res2) (kx2 : Value → Value → Value → Value → Value → Value → M → Res2) (n : Nat) : Value → Value → Value → Value → Value → Value → Value → Value → Value → M → Res2 :=
  Nat.rec (motive := fun _ => Value → Value → Value → Value → Value → Value → Value → Value → Value → M → Res2) (fun _ _ _ _ _ _ _ _ _ _ => none)
    (fun _ ih x1 x2 x3 x4 x5 x6 x27 x28 x29 m =>
      (k1 (mbin E .lss 3 x29 x28) fun v30_15 => (kb v30_15 (k1 (mindexAddr E.P 104 x27 x29) fun v32_16 => (k1 (xload E.P m 76 v32_16) fun v33_17 => (k2 (xalloc E.P m 76) fun v8_18 m => (ks (xstore E.P base m 76 v8_18 v33_17) fun m => (k1 (mbin E .add 3 x29 (.int .i64 1)) fun v36_19 => (k1 (mslice E.P m 104 x3 none (some v36_19) none) fun v37_20 => (k2 (vcall E.P base m .len [104] [v37_20]) fun v38_21 m => (r81_L4 call fuel base (fun v m => kp v m) (fun y1_40 y2_41 y3_42 y4_43 y5_44 y6_45 y27_46 y28_47 y29_48 m => (k1 (mbin E .add 3 y29_48 (.int .i64 1)) fun v62_49 => (ih y1_40 y2_41 y3_42 y4_43 y5_44 y6_45 y27_46 y28_47 v62_49 m))) fuel x1 x2 x3 x4 x5 x6 x29 v8_18 x27 x28 x29 v37_20 v38_21 (.int .i64 0) m)))))))) (kx2 x1 x2 x3 x4 x5 x6 m)))) n
noncomputable def r81_L0 (call : CallF) (fuel base : Nat) (kp : Value → M → Res2) (kx0 : Value → Value → Value → M → Res2) (n : Nat) : Value → Value → Value → Value → Value → M → Res2 :=
  Nat.rec (motive := fun _ => Value → Value → Value → Value → Value → M → Res2) (fun _ _ _ _ _ _ => none)
    (fun _ ih x1 x2 x3 x4 x5 m =>
      (k1 (mfieldAddr E.P 23 x1 0) fun v19_9 => (k1 (xload E.P m 3 v19_9) fun v20_10 => (k1 (mbin E .lss 3 x5 v20_10) fun v21_11 => (kb v21_11 (k2 (vcall E.P base m .len [104] [x3]) fun v25_12 m => (k2 (xmakeSlice E.P m 27 v25_12 v25_12) fun v26_13 m => (k2 (vcall E.P base m .len [104] [x3]) fun v28_14 m => (r81_L2 call fuel base (fun v m => kp v m) (fun y1_50 y2_51 y3_52 y4_53 y5_54 y6_55 m => (k2 (xbuildSlice E.P m 33 1 [(0, y6_55)]) fun v65_56 m => (k2 (vcall E.P base m .append [33, 33] [y4_53, v65_56]) fun v66_57 m => (k1 (mbin E .add 3 y5_54 (.int .i64 1)) fun v23_58 => (ih y1_50 y2_51 y3_52 v66_57 v23_58 m))))) fuel x1 x2 x3 x4 x5 v26_13 x3 v28_14 (.int .i64 0) m)))) (kx0 x2 x3 x4 m)))))) n
noncomputable def r81 (call : CallF) (fuel base : Nat) (x0 : Value) (m : M) : Res2 :=
  (k2 (xbox m x0) fun v1_1 m => (k2 (xalloc E.P m 106) fun v2_2 m => (k1 (xload E.P m 23 v1_1) fun v11_3 => (kc (call base 101 [v11_3] m) (fun v12_4 m => (k2 (xbuildSlice E.P m 27 1 [(0, (.int .i64 1))]) fun v13_5 m => (k2 (vcall E.P base m .len [104] [v12_4]) fun v15_6 m => (kc (call base 105 [v13_5, v15_6] m) (fun v16_7 m => (k2 (xbuildSlice E.P m 33 1 [(0, v16_7)]) fun v17_8 m => (r81_L0 call fuel base (fun v m => some (.pan v, m)) (fun y2_59 y3_60 y4_61 m => (k1 (mbuild E.P 106 [(0, y3_60), (1, y4_61)]) fun v69_62 => (ks (xstore E.P base m 106 y2_59 v69_62) fun m => (k0 (mload E.P m 106 y2_59) fun r_63 => (fVal r_63 fun v => some (.ret v, m)))))) fuel v1_1 v2_2 v12_4 v17_8 (.int .i64 1) m))) (fun v m => some (.pan v, m)))))) (fun v m => some (.pan v, m))))))
def keep81 : Keep := { region := fun i => ([[1, 2], [1, 2, 3], [1, 2, 3, 4], [1, 2, 3, 4, 5], [1, 2, 3, 4, 5, 21], [1, 2, 3, 4, 5], [1, 2, 3, 4, 5, 6], [1, 2, 3, 4, 5, 6, 27, 28, 29], [1, 2, 3, 4, 5, 6, 27, 28, 29, 30], [1, 2, 3, 4, 5, 6, 7, 8, 27, 28, 29], [1, 2, 3, 4, 5, 6, 7, 8, 27, 28, 29, 37, 38, 39], [1, 2, 3, 4, 5, 6, 7, 8, 27, 28, 29, 37, 38, 39, 40], [1, 2, 3, 4, 5, 6, 7, 8, 9, 10, 27, 28, 29, 37, 38, 39], [1, 2, 3, 4, 5, 6, 7, 8, 9, 27, 28, 29, 37, 38, 39, 46], [1, 2, 3, 4, 5, 6, 7, 8, 27, 28, 29, 37, 38, 39], [1, 2, 3, 4, 5, 6, 7, 8, 27, 28, 29, 37, 38, 39], [1, 2, 3, 4, 5, 6, 27, 28, 29], [1, 2, 3, 4, 5], [2]] : List (List Nat))[i]?, exit := fun i => ([[2, 3, 4], [1, 2, 3, 4, 5], [1, 2, 3, 4, 5, 6], [1, 2, 3, 4, 5, 6, 27, 28, 29], [1, 2, 3, 4, 5, 6, 27, 28, 29], [1, 2, 3, 4, 5, 6, 7, 8, 27, 28, 29, 37, 38, 39]] : List (List Nat))[i]?, ret := some [2] }
noncomputable def r81_L4_R (call : CallF) (fuel base n : Nat) (vs : List Value) (m : M) (K : KT) : Res2 := match vs with
  | [x1, x2, x3, x4, x5, x6, x7, x8, x27, x28, x29, x37, x38, x39] => r81_L4 call fuel base (fun v m => K (.pan v) { n := 70, l := [] } m) (fun y1 y2 y3 y4 y5 y6 y27 y28 y29 m => K (.exit 4) { n := 70, l := [(1, y1), (2, y2), (3, y3), (4, y4), (5, y5), (6, y6), (27, y27), (28, y28), (29, y29)] } m) n x1 x2 x3 x4 x5 x6 x7 x8 x27 x28 x29 x37 x38 x39 m
  | _ => none
noncomputable def r81_L2_R (call : CallF) (fuel base n : Nat) (vs : List Value) (m : M) (K : KT) : Res2 := match vs with
  | [x1, x2, x3, x4, x5, x6, x27, x28, x29] => r81_L2 call fuel base (fun v m => K (.pan v) { n := 70, l := [] } m) (fun y1 y2 y3 y4 y5 y6 m => K (.exit 2) { n := 70, l := [(1, y1), (2, y2), (3, y3), (4, y4), (5, y5), (6, y6)] } m) n x1 x2 x3 x4 x5 x6 x27 x28 x29 m
  | _ => none
noncomputable def r81_L0_R (call : CallF) (fuel base n : Nat) (vs : List Value) (m : M) (K : KT) : Res2 := match vs with
  | [x1, x2, x3, x4, x5] => r81_L0 call fuel base (fun v m => K (.pan v) { n := 70, l := [] } m) (fun y2 y3 y4 m => K (.exit 0) { n := 70, l := [(2, y2), (3, y3), (4, y4)] } m) n x1 x2 x3 x4 x5 m
  | _ => none
noncomputable def lp81 (call : CallF) (fuel base : Nat) : Lp := lpsel [(4, fun T m K => kslots 70 [1, 2, 3, 4, 5, 6, 7, 8, 27, 28, 29, 37, 38, 39] T fun vs => r81_L4_R call fuel base fuel vs m K), (2, fun T m K => kslots 70 [1, 2, 3, 4, 5, 6, 27, 28, 29] T fun vs => r81_L2_R call fuel base fuel vs m K), (0, fun T m K => kslots 70 [1, 2, 3, 4, 5] T fun vs => r81_L0_R call fuel base fuel vs m K)]
noncomputable def c81 : Code := Try.f81.body.getD .skip
theorem r81_L4_lk (call : CallF) (fuel base : Nat) : LoopsOk E call (lp81 call fuel base) fuel base 4 (loopB (blockB (seqR (seqR (blockB (seqL (seqR (seqR (loopB (blockB (seqR (seqL (seqR (blockB (seqL (seqR (loopB (blockB (seqR (seqL (seqR (seqR (seqR c81))))))))))))))))))))))) = (And True (And (And True True) (And (And True (And True (And True True))) True))) := by kernel_rfl
theorem r81_L4_ok (call : CallF) (fuel base : Nat) : LpOk E call (lp81 call fuel base) fuel base 4 (loopB (blockB (seqR (seqR (blockB (seqL (seqR (seqR (loopB (blockB (seqR (seqL (seqR (blockB (seqL (seqR (loopB (blockB (seqR (seqL (seqR (seqR (seqR c81))))))))))))))))))))))) := by
  refine loop_ok (kp := keep81) (hb := Eq.mpr (r81_L4_lk call fuel base) (And.intro trivial (And.intro (And.intro trivial trivial) (And.intro (And.intro trivial (And.intro trivial (And.intro trivial trivial))) trivial)))) 70 [1, 2, 3, 4, 5, 6, 7, 8, 27, 28, 29, 37, 38, 39] (fun n vs m K => r81_L4_R call fuel base n vs m K) ?_ ?_ (fun _ _ _ => rfl)
  · intro vs m K
    unfold r81_L4_R
    split <;> rfl
  · intro n vs m K hl
    match vs, hl with
    | [x1, x2, x3, x4, x5, x6, x7, x8, x27, x28, x29, x37, x38, x39], _ => show _ = _; kernel_rfl
theorem r81_L2_lk (call : CallF) (fuel base : Nat) : LoopsOk E call (lp81 call fuel base) fuel base 2 (loopB (blockB (seqR (seqL (seqR (blockB (seqL (seqR (loopB (blockB (seqR (seqL (seqR (seqR (seqR c81))))))))))))))) = (And True (And (And True True) (And (And True (And True (LpOk E call (lp81 call fuel base) fuel base 4 (loopB (blockB (seqR (seqR (blockB (seqL (seqR (seqR (loopB (blockB (seqR (seqL (seqR (blockB (seqL (seqR (loopB (blockB (seqR (seqL (seqR (seqR (seqR c81)))))))))))))))))))))))))) True))) := by kernel_rfl
theorem r81_L2_ok (call : CallF) (fuel base : Nat) : LpOk E call (lp81 call fuel base) fuel base 2 (loopB (blockB (seqR (seqL (seqR (blockB (seqL (seqR (loopB (blockB (seqR (seqL (seqR (seqR (seqR c81))))))))))))))) := by
  refine loop_ok (kp := keep81) (hb := Eq.mpr (r81_L2_lk call fuel base) (And.intro trivial (And.intro (And.intro trivial trivial) (And.intro (And.intro trivial (And.intro trivial (r81_L4_ok call fuel base))) trivial)))) 70 [1, 2, 3, 4, 5, 6, 27, 28, 29] (fun n vs m K => r81_L2_R call fuel base n vs m K) ?_ ?_ (fun _ _ _ => rfl)
  · intro vs m K
    unfold r81_L2_R
    split <;> rfl
  · intro n vs m K hl
    match vs, hl with
    | [x1, x2, x3, x4, x5, x6, x27, x28, x29], _ => show _ = _; kernel_rfl
theorem r81_L0_lk (call : CallF) (fuel base : Nat) : LoopsOk E call (lp81 call fuel base) fuel base 0 (loopB (blockB (seqR (seqL (seqR (seqR (seqR c81))))))) = (And (And True (And True True)) (And (And True (And (And True (LpOk E call (lp81 call fuel base) fuel base 2 (loopB (blockB (seqR (seqL (seqR (blockB (seqL (seqR (loopB (blockB (seqR (seqL (seqR (seqR (seqR c81))))))))))))))))) True)) True)) := by kernel_rfl
theorem r81_L0_ok (call : CallF) (fuel base : Nat) : LpOk E call (lp81 call fuel base) fuel base 0 (loopB (blockB (seqR (seqL (seqR (seqR (seqR c81))))))) := by
  refine loop_ok (kp := keep81) (hb := Eq.mpr (r81_L0_lk call fuel base) (And.intro (And.intro trivial (And.intro trivial trivial)) (And.intro (And.intro trivial (And.intro (And.intro trivial (r81_L2_ok call fuel base)) trivial)) trivial))) 70 [1, 2, 3, 4, 5] (fun n vs m K => r81_L0_R call fuel base n vs m K) ?_ ?_ (fun _ _ _ => rfl)
  · intro vs m K
    unfold r81_L0_R
    split <;> rfl
  · intro n vs m K hl
    match vs, hl with
    | [x1, x2, x3, x4, x5], _ => show _ = _; kernel_rfl
theorem r81_eq (call : CallF) (fuel base : Nat) (x0 : Value) (m : M) : kbody E call keep81 (lp81 call fuel base) base Try.f81 [x0] m = r81 call fuel base x0 m := by
  kernel_rfl
noncomputable def rf81 : RF := fun call fuel base args m => match args with
  | [x0] => r81 call fuel base x0 m
  | _ => none
theorem r81_lk (call : CallF) (fuel base : Nat) : LoopsOk E call (lp81 call fuel base) fuel base 0 c81 = (And True (And True (And True (And (And True (LpOk E call (lp81 call fuel base) fuel base 0 (loopB (blockB (seqR (seqL (seqR (seqR (seqR c81))))))))) (And True True))))) := by kernel_rfl
theorem r81_fn : E.P.funcs[81]? = some Try.f81 := by kernel_rfl
theorem r81_body : Try.f81.body = some c81 := by kernel_rfl
theorem rf81_ok : RFok E 81 rf81 := by
  show RFok' E 81 rf81
  refine ⟨Try.f81, r81_fn, fun call fuel base args m r _ h => ?_⟩
  unfold rf81 at h
  split at h
  · rw [← r81_eq] at h
    exact kbody_sound (c := c81) r81_body (Eq.mpr (r81_lk call fuel base) (And.intro trivial (And.intro trivial (And.intro trivial (And.intro (And.intro trivial (r81_L0_ok call fuel base)) (And.intro trivial trivial)))))) h
  · simp at h
end Go.AM
namespace Go.AM
open Go Go.Proofs
noncomputable def r82 (call : CallF) (fuel base : Nat) (x0 : Value) (m : M) : Res2 :=
  (k2 (xbox m x0) fun v1_1 m => (k2 (xalloc E.P m 76) fun v2_2 m => (k1 (mfieldAddr E.P 106 v1_1 0) fun v3_3 => (k1 (xload E.P m 104 v3_3) fun v4_4 => (k1 (mfieldAddr E.P 106 v1_1 0) fun v5_5 => (k1 (xload E.P m 104 v5_5) fun v6_6 => (k2 (vcall E.P base m .len [104] [v6_6]) fun v7_7 m => (k1 (mbin E .sub 3 v7_7 (.int .i64 1)) fun v8_8 => (k1 (mindexAddr E.P 104 v4_4 v8_8) fun v9_9 => (k1 (xload E.P m 76 v9_9) fun v10_10 => (ks (xstore E.P base m 76 v2_2 v10_10) fun m => (k0 (mload E.P m 76 v2_2) fun r_11 => (fVal r_11 fun v => some (.ret v, m))))))))))))))
def keep82 : Keep := { region := fun i => ([[1, 2], [2]] : List (List Nat))[i]?, exit := fun i => ([] : List (List Nat))[i]?, ret := some [2] }
noncomputable def lp82 (call : CallF) (fuel base : Nat) : Lp := lpsel []
noncomputable def c82 : Code := Try.f82.body.getD .skip
theorem r82_eq (call : CallF) (fuel base : Nat) (x0 : Value) (m : M) : kbody E call keep82 (lp82 call fuel base) base Try.f82 [x0] m = r82 call fuel base x0 m := by
  kernel_rfl
noncomputable def rf82 : RF := fun call fuel base args m => match args with
  | [x0] => r82 call fuel base x0 m
  | _ => none
theorem r82_lk (call : CallF) (fuel base : Nat) : LoopsOk E call (lp82 call fuel base) fuel base 0 c82 = (And True (And True True)) := by kernel_rfl
theorem r82_fn : E.P.funcs[82]? = some Try.f82 := by kernel_rfl
theorem r82_body : Try.f82.body = some c82 := by kernel_rfl
theorem rf82_ok : RFok E 82 rf82 := by
  show RFok' E 82 rf82
  refine ⟨Try.f82, r82_fn, fun call fuel base args m r _ h => ?_⟩
  unfold rf82 at h
  split at h
  · rw [← r82_eq] at h
    exact kbody_sound (c := c82) r82_body (Eq.mpr (r82_lk call fuel base) (And.intro trivial (And.intro trivial trivial))) h
  · simp at h
end Go.AM
namespace Go.AM
open Go Go.Proofs
noncomputable def r83 (call : CallF) (fuel base : Nat) (x0 : Value) (x1 : Value) (x2 : Value) (m : M) : Res2 :=
  (k2 (xbox m x0) fun v3_1 m => (k2 (xbox m x1) fun v4_2 m => (k2 (xbox m x2) fun v5_3 m => (fVal (.func (.func 106) #[] #[v3_1, v4_2, v5_3]) fun v => some (.ret v, m)))))
def keep83 : Keep := { region := fun i => ([[3, 4, 5], [6]] : List (List Nat))[i]?, exit := fun i => ([] : List (List Nat))[i]?, ret := some [6] }
noncomputable def lp83 (call : CallF) (fuel base : Nat) : Lp := lpsel []
noncomputable def c83 : Code := Try.f83.body.getD .skip
theorem r83_eq (call : CallF) (fuel base : Nat) (x0 : Value) (x1 : Value) (x2 : Value) (m : M) : kbody E call keep83 (lp83 call fuel base) base Try.f83 [x0, x1, x2] m = r83 call fuel base x0 x1 x2 m := by
  kernel_rfl
noncomputable def rf83 : RF := fun call fuel base args m => match args with
  | [x0, x1, x2] => r83 call fuel base x0 x1 x2 m
  | _ => none
theorem r83_lk (call : CallF) (fuel base : Nat) : LoopsOk E call (lp83 call fuel base) fuel base 0 c83 = (And True (And True True)) := by kernel_rfl
theorem r83_fn : E.P.funcs[83]? = some Try.f83 := by kernel_rfl
theorem r83_body : Try.f83.body = some c83 := by kernel_rfl
theorem rf83_ok : RFok E 83 rf83 := by
  show RFok' E 83 rf83
  refine ⟨Try.f83, r83_fn, fun call fuel base args m r _ h => ?_⟩
  unfold rf83 at h
  split at h
  · rw [← r83_eq] at h
    exact kbody_sound (c := c83) r83_body (Eq.mpr (r83_lk call fuel base) (And.intro trivial (And.intro trivial trivial))) h
  · simp at h
end Go.AM
namespace Go.AM
open Go Go.Proofs
noncomputable def r84 (call : CallF) (fuel base : Nat) (x0 : Value) (m : M) : Res2 :=
  (k1 (mbin E .eql 27 x0 (.slice none 0 0)) fun v4_1 => (kb v4_1 (fVal (.slice none 0 0) fun v => some (.ret v, m)) (k2 (xbuildSlice E.P m 27 0 []) fun v5_2 m => (k2 (vcall E.P base m .append [27, 27] [v5_2, x0]) fun v7_3 m => (fVal v7_3 fun v => some (.ret v, m))))))
def keep84 : Keep := { region := fun i => ([[0], [0, 4], [2], [2]] : List (List Nat))[i]?, exit := fun i => ([] : List (List Nat))[i]?, ret := some [2] }
noncomputable def lp84 (call : CallF) (fuel base : Nat) : Lp := lpsel []
noncomputable def c84 : Code := Try.f84.body.getD .skip
theorem r84_eq (call : CallF) (fuel base : Nat) (x0 : Value) (m : M) : kbody E call keep84 (lp84 call fuel base) base Try.f84 [x0] m = r84 call fuel base x0 m := by
  kernel_rfl
noncomputable def rf84 : RF := fun call fuel base args m => match args with
  | [x0] => r84 call fuel base x0 m
  | _ => none
theorem r84_lk (call : CallF) (fuel base : Nat) : LoopsOk E call (lp84 call fuel base) fuel base 0 c84 = (And True (And (And True (And (And True True) True)) (And True True))) := by kernel_rfl
theorem r84_fn : E.P.funcs[84]? = some Try.f84 := by kernel_rfl
theorem r84_body : Try.f84.body = some c84 := by kernel_rfl
theorem rf84_ok : RFok E 84 rf84 := by
  show RFok' E 84 rf84
  refine ⟨Try.f84, r84_fn, fun call fuel base args m r _ h => ?_⟩
  unfold rf84 at h
  split at h
  · rw [← r84_eq] at h
    exact kbody_sound (c := c84) r84_body (Eq.mpr (r84_lk call fuel base) (And.intro trivial (And.intro (And.intro trivial (And.intro (And.intro trivial trivial) trivial)) (And.intro trivial trivial)))) h
  · simp at h
end Go.AM
namespace Go.AM
open Go Go.Proofs
noncomputable def r85_L2 (call : CallF) (fuel base : Nat) (kx2 : Value → Value → Value → Value → Value → Value → M → Res2) (n : Nat) : Value → Value → Value → Value → Value → Value → Value → Value → Value → M → Res2 :=
  Nat.rec (motive := fun _ => Value → Value → Value → Value → Value → Value → Value → Value → Value → M → Res2) (fun _ _ _ _ _ _ _ _ _ _ => none)
    (fun _ ih x1 x2 x4 x5 x6 x11 x12 x16 x17 m =>
      (k1 (mbin E .lss 3 x17 x16) fun v18_11 => (kb v18_11 (kc (kB m (kv call m.length x1 [x6, x17] m)) (fun v25_12 m => (k1 (mfieldAddr E.P 79 x5 1) fun v26_13 => (k1 (mindexAddr E.P 77 v26_13 x6) fun v27_14 => (k1 (mindexAddr E.P 76 v27_14 x17) fun v28_15 => (ks (xstore E.P base m 3 v28_15 v25_12) fun m => (k1 (mbin E .add 3 x17 (.int .i64 1)) fun v29_16 => (ih x1 x2 x4 x5 x6 x11 x12 x16 v29_16 m))))))) (fun _ _ => none)) (kx2 x1 x2 x4 x5 x11 x12 m)))) n
noncomputable def r85_L0 (call : CallF) (fuel base : Nat) (kx0 : Value → Value → M → Res2) (n : Nat) : Value → Value → Value → Value → Value → Value → M → Res2 :=
  Nat.rec (motive := fun _ => Value → Value → Value → Value → Value → Value → M → Res2) (fun _ _ _ _ _ _ _ => none)
    (fun _ ih x1 x2 x4 x5 x11 x12 m =>
      (k1 (mbin E .lss 3 x12 x11) fun v13_8 => (kb v13_8 (k1 (mfieldAddr E.P 23 x2 1) fun v15_9 => (k1 (xload E.P m 3 v15_9) fun v16_10 => (r85_L2 call fuel base (fun y1_17 y2_18 y4_19 y5_20 y11_21 y12_22 m => (k1 (mbin E .add 3 y12_22 (.int .i64 1)) fun v30_23 => (ih y1_17 y2_18 y4_19 y5_20 y11_21 v30_23 m))) fuel x1 x2 x4 x5 x12 x11 x12 v16_10 (.int .i64 0) m))) (kx0 x4 x5 m)))) n
noncomputable def r85 (call : CallF) (fuel base : Nat) (x0 : Value) (x1 : Value) (m : M) : Res2 :=
  (k2 (xbox m x0) fun v2_1 m => (k2 (xalloc E.P m 79) fun v4_2 m => (k1 (xload E.P m 23 v2_1) fun v8_3 => (k1 (mbuild E.P 79 [(0, v8_3)]) fun v9_4 => (k2 (xalloc E.P m 79) fun v5_5 m => (ks (xstore E.P base m 79 v5_5 v9_4) fun m => (k1 (mfieldAddr E.P 23 v2_1 0) fun v10_6 => (k1 (xload E.P m 3 v10_6) fun v11_7 => (r85_L0 call fuel base (fun y4_24 y5_25 m => (k1 (xload E.P m 79 y5_25) fun v31_26 => (ks (xstore E.P base m 79 y4_24 v31_26) fun m => (k0 (mload E.P m 79 y4_24) fun r_27 => (fVal r_27 fun v => some (.ret v, m)))))) fuel x1 v2_1 v4_2 v5_5 v11_7 (.int .i64 0) m)))))))))
def keep85 : Keep := { region := fun i => ([[1, 2, 4], [1, 2, 4, 5], [1, 2, 4, 5, 11, 12], [1, 2, 4, 5, 11, 12, 13], [1, 2, 4, 5, 6, 11, 12], [1, 2, 4, 5, 6, 11, 12, 16, 17], [1, 2, 4, 5, 6, 11, 12, 16, 17, 18], [1, 2, 4, 5, 6, 7, 11, 12, 16, 17], [1, 2, 4, 5, 6, 11, 12, 16, 17], [1, 2, 4, 5, 6, 11, 12, 16, 17], [1, 2, 4, 5, 11, 12], [4]] : List (List Nat))[i]?, exit := fun i => ([[4, 5], [1, 2, 4, 5, 11, 12], [1, 2, 4, 5, 11, 12], [1, 2, 4, 5, 6, 11, 12, 16, 17]] : List (List Nat))[i]?, ret := some [4] }
noncomputable def r85_L2_R (call : CallF) (fuel base n : Nat) (vs : List Value) (m : M) (K : KT) : Res2 := match vs with
  | [x1, x2, x4, x5, x6, x11, x12, x16, x17] => r85_L2 call fuel base (fun y1 y2 y4 y5 y11 y12 m => K (.exit 2) { n := 32, l := [(1, y1), (2, y2), (4, y4), (5, y5), (11, y11), (12, y12)] } m) n x1 x2 x4 x5 x6 x11 x12 x16 x17 m
  | _ => none
noncomputable def r85_L0_R (call : CallF) (fuel base n : Nat) (vs : List Value) (m : M) (K : KT) : Res2 := match vs with
  | [x1, x2, x4, x5, x11, x12] => r85_L0 call fuel base (fun y4 y5 m => K (.exit 0) { n := 32, l := [(4, y4), (5, y5)] } m) n x1 x2 x4 x5 x11 x12 m
  | _ => none
noncomputable def lp85 (call : CallF) (fuel base : Nat) : Lp := lpsel [(2, fun T m K => kslots 32 [1, 2, 4, 5, 6, 11, 12, 16, 17] T fun vs => r85_L2_R call fuel base fuel vs m K), (0, fun T m K => kslots 32 [1, 2, 4, 5, 11, 12] T fun vs => r85_L0_R call fuel base fuel vs m K)]
noncomputable def c85 : Code := Try.f85.body.getD .skip
theorem r85_L2_lk (call : CallF) (fuel base : Nat) : LoopsOk E call (lp85 call fuel base) fuel base 2 (loopB (blockB (seqR (seqR (blockB (seqL (seqR (seqR (loopB (blockB (seqR (seqL (seqR (seqR c85)))))))))))))) = (And True (And (And True True) (And (And True True) True))) := by kernel_rfl
theorem r85_L2_ok (call : CallF) (fuel base : Nat) : LpOk E call (lp85 call fuel base) fuel base 2 (loopB (blockB (seqR (seqR (blockB (seqL (seqR (seqR (loopB (blockB (seqR (seqL (seqR (seqR c85)))))))))))))) := by
  refine loop_ok (kp := keep85) (hb := Eq.mpr (r85_L2_lk call fuel base) (And.intro trivial (And.intro (And.intro trivial trivial) (And.intro (And.intro trivial trivial) trivial)))) 32 [1, 2, 4, 5, 6, 11, 12, 16, 17] (fun n vs m K => r85_L2_R call fuel base n vs m K) ?_ ?_ (fun _ _ _ => rfl)
  · intro vs m K
    unfold r85_L2_R
    split <;> rfl
  · intro n vs m K hl
    match vs, hl with
    | [x1, x2, x4, x5, x6, x11, x12, x16, x17], _ => show _ = _; kernel_rfl
theorem r85_L0_lk (call : CallF) (fuel base : Nat) : LoopsOk E call (lp85 call fuel base) fuel base 0 (loopB (blockB (seqR (seqL (seqR (seqR c85)))))) = (And True (And (And True True) (And (And True (And True (LpOk E call (lp85 call fuel base) fuel base 2 (loopB (blockB (seqR (seqR (blockB (seqL (seqR (seqR (loopB (blockB (seqR (seqL (seqR (seqR c85))))))))))))))))) True))) := by kernel_rfl
theorem r85_L0_ok (call : CallF) (fuel base : Nat) : LpOk E call (lp85 call fuel base) fuel base 0 (loopB (blockB (seqR (seqL (seqR (seqR c85)))))) := by
  refine loop_ok (kp := keep85) (hb := Eq.mpr (r85_L0_lk call fuel base) (And.intro trivial (And.intro (And.intro trivial trivial) (And.intro (And.intro trivial (And.intro trivial (r85_L2_ok call fuel base))) trivial)))) 32 [1, 2, 4, 5, 11, 12] (fun n vs m K => r85_L0_R call fuel base n vs m K) ?_ ?_ (fun _ _ _ => rfl)
  · intro vs m K
    unfold r85_L0_R
    split <;> rfl
  · intro n vs m K hl
    match vs, hl with
    | [x1, x2, x4, x5, x11, x12], _ => show _ = _; kernel_rfl
theorem r85_eq (call : CallF) (fuel base : Nat) (x0 : Value) (x1 : Value) (m : M) : kbody E call keep85 (lp85 call fuel base) base Try.f85 [x0, x1] m = r85 call fuel base x0 x1 m := by
  kernel_rfl
noncomputable def rf85 : RF := fun call fuel base args m => match args with
  | [x0, x1] => r85 call fuel base x0 x1 m
  | _ => none
theorem r85_lk (call : CallF) (fuel base : Nat) : LoopsOk E call (lp85 call fuel base) fuel base 0 c85 = (And True (And True (And (And True (LpOk E call (lp85 call fuel base) fuel base 0 (loopB (blockB (seqR (seqL (seqR (seqR c85)))))))) (And True True)))) := by kernel_rfl
theorem r85_fn : E.P.funcs[85]? = some Try.f85 := by kernel_rfl
theorem r85_body : Try.f85.body = some c85 := by kernel_rfl
theorem rf85_ok : RFok E 85 rf85 := by
  show RFok' E 85 rf85
  refine ⟨Try.f85, r85_fn, fun call fuel base args m r _ h => ?_⟩
  unfold rf85 at h
  split at h
  · rw [← r85_eq] at h
    exact kbody_sound (c := c85) r85_body (Eq.mpr (r85_lk call fuel base) (And.intro trivial (And.intro trivial (And.intro (And.intro trivial (r85_L0_ok call fuel base)) (And.intro trivial trivial))))) h
  · simp at h
end Go.AM
namespace Go.AM
open Go Go.Proofs
noncomputable def r86 (call : CallF) (fuel base : Nat) (x0 : Value) (x1 : Value) (x2 : Value) (x3 : Value) (m : M) : Res2 :=
  (k1 (mfieldAddr E.P 23 x2 2) fun v7_1 => (k1 (xload E.P m 3 v7_1) fun v8_2 => (k1 (mfieldAddr E.P 23 x2 0) fun v9_3 => (k1 (xload E.P m 3 v9_3) fun v10_4 => (k1 (mbin E .sub 3 v10_4 (.int .i64 1)) fun v11_5 => (k1 (mbin E .sub 3 v11_5 x0) fun v13_6 => (k1 (mfieldAddr E.P 23 x2 1) fun v14_7 => (k1 (xload E.P m 3 v14_7) fun v15_8 => (k1 (mbin E .sub 3 v15_8 (.int .i64 1)) fun v16_9 => (k1 (mbin E .sub 3 v16_9 x1) fun v18_10 => (k1 (mfieldAddr E.P 79 x3 1) fun v19_11 => (k1 (mindexAddr E.P 77 v19_11 v13_6) fun v20_12 => (k1 (mindexAddr E.P 76 v20_12 v18_10) fun v21_13 => (k1 (xload E.P m 3 v21_13) fun v22_14 => (k1 (mbin E .sub 3 v8_2 v22_14) fun v23_15 => (fVal v23_15 fun v => some (.ret v, m)))))))))))))))))
def keep86 : Keep := { region := fun i => ([[0, 1, 2, 3], [6]] : List (List Nat))[i]?, exit := fun i => ([] : List (List Nat))[i]?, ret := some [6] }
noncomputable def lp86 (call : CallF) (fuel base : Nat) : Lp := lpsel []
noncomputable def c86 : Code := Try.f86.body.getD .skip
theorem r86_eq (call : CallF) (fuel base : Nat) (x0 : Value) (x1 : Value) (x2 : Value) (x3 : Value) (m : M) : kbody E call keep86 (lp86 call fuel base) base Try.f86 [x0, x1, x2, x3] m = r86 call fuel base x0 x1 x2 x3 m := by
  kernel_rfl
noncomputable def rf86 : RF := fun call fuel base args m => match args with
  | [x0, x1, x2, x3] => r86 call fuel base x0 x1 x2 x3 m
  | _ => none
theorem r86_lk (call : CallF) (fuel base : Nat) : LoopsOk E call (lp86 call fuel base) fuel base 0 c86 = (And True (And True True)) := by kernel_rfl
theorem r86_fn : E.P.funcs[86]? = some Try.f86 := by kernel_rfl
theorem r86_body : Try.f86.body = some c86 := by kernel_rfl
theorem rf86_ok : RFok E 86 rf86 := by
  show RFok' E 86 rf86
  refine ⟨Try.f86, r86_fn, fun call fuel base args m r _ h => ?_⟩
  unfold rf86 at h
  split at h
  · rw [← r86_eq] at h
    exact kbody_sound (c := c86) r86_body (Eq.mpr (r86_lk call fuel base) (And.intro trivial (And.intro trivial trivial))) h
  · simp at h
end Go.AM
namespace Go.AM
open Go Go.Proofs
noncomputable def r87 (call : CallF) (fuel base : Nat) (x0 : Value) (x1 : Value) (x2 : Value) (m : M) : Res2 :=
  (k1 (mfieldAddr E.P 79 x2 1) fun v8_1 => (k1 (mindexAddr E.P 77 v8_1 x1) fun v9_2 => (k1 (mindexAddr E.P 76 v9_2 x0) fun v10_3 => (k1 (xload E.P m 3 v10_3) fun v11_4 => (fVal v11_4 fun v => some (.ret v, m))))))
def keep87 : Keep := { region := fun i => ([[0, 1, 2], [5]] : List (List Nat))[i]?, exit := fun i => ([] : List (List Nat))[i]?, ret := some [5] }
noncomputable def lp87 (call : CallF) (fuel base : Nat) : Lp := lpsel []
noncomputable def c87 : Code := Try.f87.body.getD .skip
theorem r87_eq (call : CallF) (fuel base : Nat) (x0 : Value) (x1 : Value) (x2 : Value) (m : M) : kbody E call keep87 (lp87 call fuel base) base Try.f87 [x0, x1, x2] m = r87 call fuel base x0 x1 x2 m := by
  kernel_rfl
noncomputable def rf87 : RF := fun call fuel base args m => match args with
  | [x0, x1, x2] => r87 call fuel base x0 x1 x2 m
  | _ => none
theorem r87_lk (call : CallF) (fuel base : Nat) : LoopsOk E call (lp87 call fuel base) fuel base 0 c87 = (And True (And True True)) := by kernel_rfl
theorem r87_fn : E.P.funcs[87]? = some Try.f87 := by kernel_rfl
theorem r87_body : Try.f87.body = some c87 := by kernel_rfl
theorem rf87_ok : RFok E 87 rf87 := by
  show RFok' E 87 rf87
  refine ⟨Try.f87, r87_fn, fun call fuel base args m r _ h => ?_⟩
  unfold rf87 at h
  split at h
  · rw [← r87_eq] at h
    exact kbody_sound (c := c87) r87_body (Eq.mpr (r87_lk call fuel base) (And.intro trivial (And.intro trivial trivial))) h
  · simp at h
end Go.AM
namespace Go.AM
open Go Go.Proofs
noncomputable def r88 (call : CallF) (fuel base : Nat) (x0 : Value) (x1 : Value) (x2 : Value) (m : M) : Res2 :=
  (k1 (mfieldAddr E.P 79 x2 1) fun v7_1 => (k1 (mindexAddr E.P 77 v7_1 x1) fun v8_2 => (k1 (xload E.P m 76 v8_2) fun v9_3 => (kc (call base 89 [v9_3, x0] m) (fun v11_4 m => (fVal v11_4 fun v => some (.ret v, m))) (fun v m => some (.pan v, m))))))
def keep88 : Keep := { region := fun i => ([[0, 1, 2], [5]] : List (List Nat))[i]?, exit := fun i => ([] : List (List Nat))[i]?, ret := some [5] }
noncomputable def lp88 (call : CallF) (fuel base : Nat) : Lp := lpsel []
noncomputable def c88 : Code := Try.f88.body.getD .skip
theorem r88_eq (call : CallF) (fuel base : Nat) (x0 : Value) (x1 : Value) (x2 : Value) (m : M) : kbody E call keep88 (lp88 call fuel base) base Try.f88 [x0, x1, x2] m = r88 call fuel base x0 x1 x2 m := by
  kernel_rfl
noncomputable def rf88 : RF := fun call fuel base args m => match args with
  | [x0, x1, x2] => r88 call fuel base x0 x1 x2 m
  | _ => none
theorem r88_lk (call : CallF) (fuel base : Nat) : LoopsOk E call (lp88 call fuel base) fuel base 0 c88 = (And True (And True True)) := by kernel_rfl
theorem r88_fn : E.P.funcs[88]? = some Try.f88 := by kernel_rfl
theorem r88_body : Try.f88.body = some c88 := by kernel_rfl
theorem rf88_ok : RFok E 88 rf88 := by
  show RFok' E 88 rf88
  refine ⟨Try.f88, r88_fn, fun call fuel base args m r _ h => ?_⟩
  unfold rf88 at h
  split at h
  · rw [← r88_eq] at h
    exact kbody_sound (c := c88) r88_body (Eq.mpr (r88_lk call fuel base) (And.intro trivial (And.intro trivial trivial))) h
  · simp at h
end Go.AM
namespace Go.AM
open Go Go.Proofs
noncomputable def r89_L0 (call : CallF) (fuel base : Nat) (kx0 : Value → M → Res2) (n : Nat) : Value → Value → Value → Value → M → Res2 :=
  Nat.rec (motive := fun _ => Value → Value → Value → Value → M → Res2) (fun _ _ _ _ _ => none)
    (fun _ ih x1 x5 x8 x9 m =>
      (k1 (mbin E .lss 3 x9 (.int .i64 4)) fun v10_3 => (kb v10_3 (k1 (mindex E.P 76 x8 x9) fun v11_4 => (k1 (mbin E .gtr 3 v11_4 x1) fun v14_5 => (kb v14_5 (k1 (mbin E .add 3 x5 (.int .i64 1)) fun v16_6 => (k1 (mbin E .add 3 x9 (.int .i64 1)) fun v17_7 => (ih x1 v16_6 x8 v17_7 m))) (k1 (mbin E .add 3 x9 (.int .i64 1)) fun v17_8 => (ih x1 x5 x8 v17_8 m))))) (kx0 x5 m)))) n
noncomputable def r89 (call : CallF) (fuel base : Nat) (x0 : Value) (x1 : Value) (m : M) : Res2 :=
  (k2 (xbox m x0) fun v2_1 m => (k1 (xload E.P m 76 v2_1) fun v8_2 => (r89_L0 call fuel base (fun y5_9 m => (fVal y5_9 fun v => some (.ret v, m))) fuel x1 (.int .i64 0) v8_2 (.int .i64 0) m)))
def keep89 : Keep := { region := fun i => ([[1, 2], [1, 2, 5], [1, 5, 8, 9], [1, 5, 8, 9, 10], [1, 5, 7, 8, 9], [1, 5, 8, 9, 14], [1, 5, 8, 9], [1, 5, 8, 9], [4]] : List (List Nat))[i]?, exit := fun i => ([[5], [1, 5, 8, 9]] : List (List Nat))[i]?, ret := some [4] }
noncomputable def r89_L0_R (call : CallF) (fuel base n : Nat) (vs : List Value) (m : M) (K : KT) : Res2 := match vs with
  | [x1, x5, x8, x9] => r89_L0 call fuel base (fun y5 m => K (.exit 0) { n := 19, l := [(5, y5)] } m) n x1 x5 x8 x9 m
  | _ => none
noncomputable def lp89 (call : CallF) (fuel base : Nat) : Lp := lpsel [(0, fun T m K => kslots 19 [1, 5, 8, 9] T fun vs => r89_L0_R call fuel base fuel vs m K)]
noncomputable def c89 : Code := Try.f89.body.getD .skip
theorem r89_L0_lk (call : CallF) (fuel base : Nat) : LoopsOk E call (lp89 call fuel base) fuel base 0 (loopB (blockB (seqR (seqL (seqR (seqR c89)))))) = (And True (And (And True True) (And (And True (And True (And True True))) True))) := by kernel_rfl
theorem r89_L0_ok (call : CallF) (fuel base : Nat) : LpOk E call (lp89 call fuel base) fuel base 0 (loopB (blockB (seqR (seqL (seqR (seqR c89)))))) := by
  refine loop_ok (kp := keep89) (hb := Eq.mpr (r89_L0_lk call fuel base) (And.intro trivial (And.intro (And.intro trivial trivial) (And.intro (And.intro trivial (And.intro trivial (And.intro trivial trivial))) trivial)))) 19 [1, 5, 8, 9] (fun n vs m K => r89_L0_R call fuel base n vs m K) ?_ ?_ (fun _ _ _ => rfl)
  · intro vs m K
    unfold r89_L0_R
    split <;> rfl
  · intro n vs m K hl
    match vs, hl with
    | [x1, x5, x8, x9], _ => show _ = _; kernel_rfl
theorem r89_eq (call : CallF) (fuel base : Nat) (x0 : Value) (x1 : Value) (m : M) : kbody E call keep89 (lp89 call fuel base) base Try.f89 [x0, x1] m = r89 call fuel base x0 x1 m := by
  kernel_rfl
noncomputable def rf89 : RF := fun call fuel base args m => match args with
  | [x0, x1] => r89 call fuel base x0 x1 m
  | _ => none
theorem r89_lk (call : CallF) (fuel base : Nat) : LoopsOk E call (lp89 call fuel base) fuel base 0 c89 = (And True (And True (And (And True (LpOk E call (lp89 call fuel base) fuel base 0 (loopB (blockB (seqR (seqL (seqR (seqR c89)))))))) (And True True)))) := by kernel_rfl
theorem r89_fn : E.P.funcs[89]? = some Try.f89 := by kernel_rfl
theorem r89_body : Try.f89.body = some c89 := by kernel_rfl
theorem rf89_ok : RFok E 89 rf89 := by
  show RFok' E 89 rf89
  refine ⟨Try.f89, r89_fn, fun call fuel base args m r _ h => ?_⟩
  unfold rf89 at h
  split at h
  · rw [← r89_eq] at h
    exact kbody_sound (c := c89) r89_body (Eq.mpr (r89_lk call fuel base) (And.intro trivial (And.intro trivial (And.intro (And.intro trivial (r89_L0_ok call fuel base)) (And.intro trivial trivial))))) h
  · simp at h
end Go.AM
namespace Go.AM
open Go Go.Proofs
noncomputable def r97 (call : CallF) (fuel base : Nat) (m : M) : Res2 :=
  (k2 (xalloc E.P m 120) fun v0_1 m => (k1 (mbuild E.P 120 [(0, (.func (.func 111) #[] #[])), (1, (.func (.func 112) #[] #[])), (2, (.func (.func 113) #[] #[]))]) fun v1_2 => (ks (xstore E.P base m 120 v0_1 v1_2) fun m => (k0 (mload E.P m 120 v0_1) fun r_3 => (fVal r_3 fun v => some (.ret v, m))))))
def keep97 : Keep := { region := fun i => ([[0], [0]] : List (List Nat))[i]?, exit := fun i => ([] : List (List Nat))[i]?, ret := some [0] }
noncomputable def lp97 (call : CallF) (fuel base : Nat) : Lp := lpsel []
noncomputable def c97 : Code := Try.f97.body.getD .skip
theorem r97_eq (call : CallF) (fuel base : Nat) (m : M) : kbody E call keep97 (lp97 call fuel base) base Try.f97 [] m = r97 call fuel base  m := by
  kernel_rfl
noncomputable def rf97 : RF := fun call fuel base args m => match args with
  | [] => r97 call fuel base  m
  | _ => none
theorem r97_lk (call : CallF) (fuel base : Nat) : LoopsOk E call (lp97 call fuel base) fuel base 0 c97 = (And True (And True True)) := by kernel_rfl
theorem r97_fn : E.P.funcs[97]? = some Try.f97 := by kernel_rfl
theorem r97_body : Try.f97.body = some c97 := by kernel_rfl
theorem rf97_ok : RFok E 97 rf97 := by
  show RFok' E 97 rf97
  refine ⟨Try.f97, r97_fn, fun call fuel base args m r _ h => ?_⟩
  unfold rf97 at h
  split at h
  · rw [← r97_eq] at h
    exact kbody_sound (c := c97) r97_body (Eq.mpr (r97_lk call fuel base) (And.intro trivial (And.intro trivial trivial))) h
  · simp at h
end Go.AM
namespace Go.AM
open Go Go.Proofs
noncomputable def r98_L0 (call : CallF) (fuel base : Nat) (kr : Value → M → Res2) (kx0 : M → Res2) (n : Nat) : Value → Value → Value → M → Res2 :=
  Nat.rec (motive := fun _ => Value → Value → Value → M → Res2) (fun _ _ _ _ => none)
    (fun _ ih x0 x1 x5 m =>
      (k2 (vcall E.P base m .len [33] [x0]) fun v9_1 m => (k1 (mbin E .lss 3 x5 v9_1) fun v10_2 => (kb v10_2 (k1 (mindexAddr E.P 33 x0 x5) fun v15_3 => (k1 (xload E.P m 27 v15_3) fun v16_4 => (k1 (mindexAddr E.P 27 v16_4 x1) fun v18_5 => (k1 (xload E.P m 3 v18_5) fun v19_6 => (k1 (mbin E .neq 3 v19_6 (.int .i64 0)) fun v20_7 => (kb v20_7 (kr x5 m) (k1 (mbin E .add 3 x5 (.int .i64 1)) fun v12_8 => (ih x0 x1 v12_8 m)))))))) (kx0 m))))) n
noncomputable def r98 (call : CallF) (fuel base : Nat) (x0 : Value) (x1 : Value) (m : M) : Res2 :=
  (r98_L0 call fuel base (fun y4_9 m => (fVal y4_9 fun v => some (.ret v, m))) (fun m => (fVal (.int .i64 (-1)) fun v => some (.ret v, m))) fuel x0 x1 x1 m)
def keep98 : Keep := { region := fun i => ([[0, 1], [0, 1, 5], [0, 1, 5, 10], [0, 1, 5], [0, 1, 5, 20], [4], [4]] : List (List Nat))[i]?, exit := fun i => ([[], [0, 1, 5]] : List (List Nat))[i]?, ret := some [4] }
noncomputable def r98_L0_R (call : CallF) (fuel base n : Nat) (vs : List Value) (m : M) (K : KT) : Res2 := match vs with
  | [x0, x1, x5] => r98_L0 call fuel base (fun y4 m => K .ret { n := 22, l := [(4, y4)] } m) (fun m => K (.exit 0) { n := 22, l := [] } m) n x0 x1 x5 m
  | _ => none
noncomputable def lp98 (call : CallF) (fuel base : Nat) : Lp := lpsel [(0, fun T m K => kslots 22 [0, 1, 5] T fun vs => r98_L0_R call fuel base fuel vs m K)]
noncomputable def c98 : Code := Try.f98.body.getD .skip
theorem r98_L0_lk (call : CallF) (fuel base : Nat) : LoopsOk E call (lp98 call fuel base) fuel base 0 (loopB (blockB (seqR (seqL (seqR c98))))) = (And (And True (And True True)) (And (And True (And (And True True) True)) True)) := by kernel_rfl
theorem r98_L0_ok (call : CallF) (fuel base : Nat) : LpOk E call (lp98 call fuel base) fuel base 0 (loopB (blockB (seqR (seqL (seqR c98))))) := by
  refine loop_ok (kp := keep98) (hb := Eq.mpr (r98_L0_lk call fuel base) (And.intro (And.intro trivial (And.intro trivial trivial)) (And.intro (And.intro trivial (And.intro (And.intro trivial trivial) trivial)) trivial))) 22 [0, 1, 5] (fun n vs m K => r98_L0_R call fuel base n vs m K) ?_ ?_ (fun _ _ _ => rfl)
  · intro vs m K
    unfold r98_L0_R
    split <;> rfl
  · intro n vs m K hl
    match vs, hl with
    | [x0, x1, x5], _ => show _ = _; kernel_rfl
theorem r98_eq (call : CallF) (fuel base : Nat) (x0 : Value) (x1 : Value) (m : M) : kbody E call keep98 (lp98 call fuel base) base Try.f98 [x0, x1] m = r98 call fuel base x0 x1 m := by
  kernel_rfl
noncomputable def rf98 : RF := fun call fuel base args m => match args with
  | [x0, x1] => r98 call fuel base x0 x1 m
  | _ => none
theorem r98_lk (call : CallF) (fuel base : Nat) : LoopsOk E call (lp98 call fuel base) fuel base 0 c98 = (And True (And (And True (LpOk E call (lp98 call fuel base) fuel base 0 (loopB (blockB (seqR (seqL (seqR c98))))))) (And True True))) := by kernel_rfl
theorem r98_fn : E.P.funcs[98]? = some Try.f98 := by kernel_rfl
theorem r98_body : Try.f98.body = some c98 := by kernel_rfl
theorem rf98_ok : RFok E 98 rf98 := by
  show RFok' E 98 rf98
  refine ⟨Try.f98, r98_fn, fun call fuel base args m r _ h => ?_⟩
  unfold rf98 at h
  split at h
  · rw [← r98_eq] at h
    exact kbody_sound (c := c98) r98_body (Eq.mpr (r98_lk call fuel base) (And.intro trivial (And.intro (And.intro trivial (r98_L0_ok call fuel base)) (And.intro trivial trivial)))) h
  · simp at h
end Go.AM
namespace Go.AM
open Go Go.Proofs
noncomputable def r99_L2 (call : CallF) (fuel base : Nat) (kx2 : Value → Value → Value → Value → Value → M → Res2) (n : Nat) : Value → Value → Value → Value → Value → Value → M → Res2 :=
  Nat.rec (motive := fun _ => Value → Value → Value → Value → Value → Value → M → Res2) (fun _ _ _ _ _ _ _ => none)
    (fun _ ih x0 x1 x2 x7 x8 x9 m =>
      (k2 (vcall E.P base m .len [33] [x0]) fun v23_6 m => (k1 (mbin E .lss 3 x9 v23_6) fun v24_7 => (kb v24_7 (k1 (mfieldAddr E.P 120 x7 1) fun v27_8 => (k1 (xload E.P m 56 v27_8) fun v28_9 => (k1 (mfieldAddr E.P 120 x7 0) fun v29_10 => (k1 (xload E.P m 56 v29_10) fun v30_11 => (k1 (mindexAddr E.P 33 x0 x1) fun v33_12 => (k1 (xload E.P m 27 v33_12) fun v34_13 => (k1 (mindexAddr E.P 27 v34_13 x1) fun v36_14 => (k1 (xload E.P m 3 v36_14) fun v37_15 => (k1 (mindexAddr E.P 33 x0 x8) fun v40_16 => (k1 (xload E.P m 27 v40_16) fun v41_17 => (k1 (mindexAddr E.P 27 v41_17 x9) fun v43_18 => (k1 (xload E.P m 3 v43_18) fun v44_19 => (kc (kB m (kv call m.length v30_11 [v37_15, v44_19] m)) (fun v45_20 m => (k1 (mfieldAddr E.P 120 x7 0) fun v46_21 => (k1 (xload E.P m 56 v46_21) fun v47_22 => (k1 (mindexAddr E.P 33 x0 x8) fun v50_23 => (k1 (xload E.P m 27 v50_23) fun v51_24 => (k1 (mindexAddr E.P 27 v51_24 x1) fun v53_25 => (k1 (xload E.P m 3 v53_25) fun v54_26 => (k1 (mindexAddr E.P 33 x0 x1) fun v57_27 => (k1 (xload E.P m 27 v57_27) fun v58_28 => (k1 (mindexAddr E.P 27 v58_28 x9) fun v60_29 => (k1 (xload E.P m 3 v60_29) fun v61_30 => (kc (kB m (kv call m.length v47_22 [v54_26, v61_30] m)) (fun v62_31 m => (kc (kB m (kv call m.length v28_9 [v45_20, v62_31] m)) (fun v63_32 m => (k1 (mindexAddr E.P 33 x0 x8) fun v66_33 => (k1 (xload E.P m 27 v66_33) fun v67_34 => (k1 (mfieldAddr E.P 120 x7 2) fun v69_35 => (k1 (xload E.P m 56 v69_35) fun v70_36 => (kc (kB m (kv call m.length v70_36 [v63_32, x2] m)) (fun v73_37 m => (k1 (mindexAddr E.P 27 v67_34 x9) fun v74_38 => (ks (xstore E.P base m 3 v74_38 v73_37) fun m => (k1 (mbin E .add 3 x9 (.int .i64 1)) fun v26_39 => (ih x0 x1 x2 x7 x8 v26_39 m))))) (fun _ _ => none))))))) (fun _ _ => none))) (fun _ _ => none))))))))))))) (fun _ _ => none)))))))))))))) (kx2 x0 x1 x2 x7 x8 m))))) n
noncomputable def r99_L0 (call : CallF) (fuel base : Nat) (kx0 : M → Res2) (n : Nat) : Value → Value → Value → Value → Value → M → Res2 :=
  Nat.rec (motive := fun _ => Value → Value → Value → Value → Value → M → Res2) (fun _ _ _ _ _ _ => none)
    (fun _ ih x0 x1 x2 x7 x8 m =>
      (k2 (vcall E.P base m .len [33] [x0]) fun v15_3 m => (k1 (mbin E .lss 3 x8 v15_3) fun v16_4 => (kb v16_4 (k1 (mbin E .add 3 x1 (.int .i64 1)) fun v20_5 => (r99_L2 call fuel base (fun y0_40 y1_41 y2_42 y7_43 y8_44 m => (k1 (mbin E .add 3 y8_44 (.int .i64 1)) fun v18_45 => (ih y0_40 y1_41 y2_42 y7_43 v18_45 m))) fuel x0 x1 x2 x7 x8 v20_5 m)) (kx0 m))))) n
noncomputable def r99 (call : CallF) (fuel base : Nat) (x0 : Value) (x1 : Value) (x2 : Value) (x3 : Value) (m : M) : Res2 :=
  (k2 (xbox m x3) fun v7_1 m => (k1 (mbin E .add 3 x1 (.int .i64 1)) fun v12_2 => (r99_L0 call fuel base (fun m => (some (.ret (.tuple #[]), m))) fuel x0 x1 x2 v7_1 v12_2 m)))
def keep99 : Keep := { region := fun i => ([[0, 1, 2, 7], [0, 1, 2, 7, 8], [0, 1, 2, 7, 8, 16], [0, 1, 2, 7, 8], [0, 1, 2, 7, 8, 9], [0, 1, 2, 7, 8, 9, 24], [0, 1, 2, 7, 8, 9], [0, 1, 2, 7, 8, 9, 10], [0, 1, 2, 7, 8, 9]] : List (List Nat))[i]?, exit := fun i => ([[], [0, 1, 2, 7, 8], [0, 1, 2, 7, 8], [0, 1, 2, 7, 8, 9]] : List (List Nat))[i]?, ret := some [] }
noncomputable def r99_L2_R (call : CallF) (fuel base n : Nat) (vs : List Value) (m : M) (K : KT) : Res2 := match vs with
  | [x0, x1, x2, x7, x8, x9] => r99_L2 call fuel base (fun y0 y1 y2 y7 y8 m => K (.exit 2) { n := 75, l := [(0, y0), (1, y1), (2, y2), (7, y7), (8, y8)] } m) n x0 x1 x2 x7 x8 x9 m
  | _ => none
noncomputable def r99_L0_R (call : CallF) (fuel base n : Nat) (vs : List Value) (m : M) (K : KT) : Res2 := match vs with
  | [x0, x1, x2, x7, x8] => r99_L0 call fuel base (fun m => K (.exit 0) { n := 75, l := [] } m) n x0 x1 x2 x7 x8 m
  | _ => none
noncomputable def lp99 (call : CallF) (fuel base : Nat) : Lp := lpsel [(2, fun T m K => kslots 75 [0, 1, 2, 7, 8, 9] T fun vs => r99_L2_R call fuel base fuel vs m K), (0, fun T m K => kslots 75 [0, 1, 2, 7, 8] T fun vs => r99_L0_R call fuel base fuel vs m K)]
noncomputable def c99 : Code := Try.f99.body.getD .skip
theorem r99_L2_lk (call : CallF) (fuel base : Nat) : LoopsOk E call (lp99 call fuel base) fuel base 2 (loopB (blockB (seqR (blockB (seqL (seqR (loopB (blockB (seqR (seqR c99)))))))))) = (And (And True (And True True)) (And (And True True) True)) := by kernel_rfl
theorem r99_L2_ok (call : CallF) (fuel base : Nat) : LpOk E call (lp99 call fuel base) fuel base 2 (loopB (blockB (seqR (blockB (seqL (seqR (loopB (blockB (seqR (seqR c99)))))))))) := by
  refine loop_ok (kp := keep99) (hb := Eq.mpr (r99_L2_lk call fuel base) (And.intro (And.intro trivial (And.intro trivial trivial)) (And.intro (And.intro trivial trivial) trivial))) 75 [0, 1, 2, 7, 8, 9] (fun n vs m K => r99_L2_R call fuel base n vs m K) ?_ ?_ (fun _ _ _ => rfl)
  · intro vs m K
    unfold r99_L2_R
    split <;> rfl
  · intro n vs m K hl
    match vs, hl with
    | [x0, x1, x2, x7, x8, x9], _ => show _ = _; kernel_rfl
theorem r99_L0_lk (call : CallF) (fuel base : Nat) : LoopsOk E call (lp99 call fuel base) fuel base 0 (loopB (blockB (seqR (seqR c99)))) = (And (And True (And True True)) (And (And True (LpOk E call (lp99 call fuel base) fuel base 2 (loopB (blockB (seqR (blockB (seqL (seqR (loopB (blockB (seqR (seqR c99)))))))))))) True)) := by kernel_rfl
theorem r99_L0_ok (call : CallF) (fuel base : Nat) : LpOk E call (lp99 call fuel base) fuel base 0 (loopB (blockB (seqR (seqR c99)))) := by
  refine loop_ok (kp := keep99) (hb := Eq.mpr (r99_L0_lk call fuel base) (And.intro (And.intro trivial (And.intro trivial trivial)) (And.intro (And.intro trivial (r99_L2_ok call fuel base)) trivial))) 75 [0, 1, 2, 7, 8] (fun n vs m K => r99_L0_R call fuel base n vs m K) ?_ ?_ (fun _ _ _ => rfl)
  · intro vs m K
    unfold r99_L0_R
    split <;> rfl
  · intro n vs m K hl
    match vs, hl with
    | [x0, x1, x2, x7, x8], _ => show _ = _; kernel_rfl
theorem r99_eq (call : CallF) (fuel base : Nat) (x0 : Value) (x1 : Value) (x2 : Value) (x3 : Value) (m : M) : kbody E call keep99 (lp99 call fuel base) base Try.f99 [x0, x1, x2, x3] m = r99 call fuel base x0 x1 x2 x3 m := by
  kernel_rfl
noncomputable def rf99 : RF := fun call fuel base args m => match args with
  | [x0, x1, x2, x3] => r99 call fuel base x0 x1 x2 x3 m
  | _ => none
theorem r99_lk (call : CallF) (fuel base : Nat) : LoopsOk E call (lp99 call fuel base) fuel base 0 c99 = (And True (And True (LpOk E call (lp99 call fuel base) fuel base 0 (loopB (blockB (seqR (seqR c99))))))) := by kernel_rfl
theorem r99_fn : E.P.funcs[99]? = some Try.f99 := by kernel_rfl
theorem r99_body : Try.f99.body = some c99 := by kernel_rfl
theorem rf99_ok : RFok E 99 rf99 := by
  show RFok' E 99 rf99
  refine ⟨Try.f99, r99_fn, fun call fuel base args m r _ h => ?_⟩
  unfold rf99 at h
  split at h
  · rw [← r99_eq] at h
    exact kbody_sound (c := c99) r99_body (Eq.mpr (r99_lk call fuel base) (And.intro trivial (And.intro trivial (r99_L0_ok call fuel base)))) h
  · simp at h
end Go.AM
namespace Go.AM
open Go Go.Proofs
noncomputable def r101 (call : CallF) (fuel base : Nat) (x0 : Value) (m : M) : Res2 :=
  (k2 (xbox m x0) fun v1_1 m => (k2 (xalloc E.P m 104) fun v3_2 m => (k2 (xalloc E.P m 134) fun v4_3 m => (ks (xstore E.P base m 134 v4_3 (.func (.func 114) #[] #[v1_1, v3_2, v4_3])) fun m => (k1 (xload E.P m 134 v4_3) fun v6_4 => (k1 (mbuild E.P 76 []) fun v7_5 => (k1 (mfieldAddr E.P 23 v1_1 2) fun v8_6 => (k1 (xload E.P m 3 v8_6) fun v9_7 => (kc (kv call base v6_4 [v7_5, (.int .i64 0), v9_7] m) (fun v10_8 m => (k1 (xload E.P m 104 v3_2) fun v11_9 => (fVal v11_9 fun v => some (.ret v, m)))) (fun v m => some (.pan v, m)))))))))))
def keep101 : Keep := { region := fun i => ([[1], [1, 3], [1, 3, 4], [1, 3, 4], [3], [2]] : List (List Nat))[i]?, exit := fun i => ([] : List (List Nat))[i]?, ret := some [2] }
noncomputable def lp101 (call : CallF) (fuel base : Nat) : Lp := lpsel []
noncomputable def c101 : Code := Try.f101.body.getD .skip
theorem r101_eq (call : CallF) (fuel base : Nat) (x0 : Value) (m : M) : kbody E call keep101 (lp101 call fuel base) base Try.f101 [x0] m = r101 call fuel base x0 m := by
  kernel_rfl
noncomputable def rf101 : RF := fun call fuel base args m => match args with
  | [x0] => r101 call fuel base x0 m
  | _ => none
theorem r101_lk (call : CallF) (fuel base : Nat) : LoopsOk E call (lp101 call fuel base) fuel base 0 c101 = (And True (And True (And True (And True (And True (And True True)))))) := by kernel_rfl
theorem r101_fn : E.P.funcs[101]? = some Try.f101 := by kernel_rfl
theorem r101_body : Try.f101.body = some c101 := by kernel_rfl
theorem rf101_ok : RFok E 101 rf101 := by
  show RFok' E 101 rf101
  refine ⟨Try.f101, r101_fn, fun call fuel base args m r _ h => ?_⟩
  unfold rf101 at h
  split at h
  · rw [← r101_eq] at h
    exact kbody_sound (c := c101) r101_body (Eq.mpr (r101_lk call fuel base) (And.intro trivial (And.intro trivial (And.intro trivial (And.intro trivial (And.intro trivial (And.intro trivial trivial))))))) h
  · simp at h
end Go.AM
namespace Go.AM
open Go Go.Proofs
noncomputable def r103_L0 (call : CallF) (fuel base : Nat) (kr : Value → M → Res2) (kx0 : M → Res2) (n : Nat) : Value → Value → Value → M → Res2 :=
  Nat.rec (motive := fun _ => Value → Value → Value → M → Res2) (fun _ _ _ _ => none)
    (fun _ ih x3 x7 x8 m =>
      (k1 (mbin E .lss 3 x8 (.int .i64 4)) fun v9_4 => (kb v9_4 (k1 (mindex E.P 76 x7 x8) fun v11_5 => (k1 (mindexAddr E.P 76 x3 x8) fun v14_6 => (k1 (xload E.P m 3 v14_6) fun v15_7 => (k1 (mbin E .gtr 3 v11_5 v15_7) fun v16_8 => (kb v16_8 (kr (.bool false) m) (k1 (mbin E .add 3 x8 (.int .i64 1)) fun v17_9 => (ih x3 x7 v17_9 m))))))) (kx0 m)))) n
noncomputable def r103 (call : CallF) (fuel base : Nat) (x0 : Value) (x1 : Value) (m : M) : Res2 :=
  (k2 (xbox m x0) fun v2_1 m => (k2 (xbox m x1) fun v3_2 m => (k1 (xload E.P m 76 v2_1) fun v7_3 => (r103_L0 call fuel base (fun y4_10 m => (fVal y4_10 fun v => some (.ret v, m))) (fun m => (fVal (.bool true) fun v => some (.ret v, m))) fuel v3_2 v7_3 (.int .i64 0) m))))
def keep103 : Keep := { region := fun i => ([[2, 3], [3, 7, 8], [3, 7, 8, 9], [3, 5, 6, 7, 8], [3, 7, 8, 16], [4], [3, 7, 8], [4]] : List (List Nat))[i]?, exit := fun i => ([[], [3, 7, 8]] : List (List Nat))[i]?, ret := some [4] }
noncomputable def r103_L0_R (call : CallF) (fuel base n : Nat) (vs : List Value) (m : M) (K : KT) : Res2 := match vs with
  | [x3, x7, x8] => r103_L0 call fuel base (fun y4 m => K .ret { n := 18, l := [(4, y4)] } m) (fun m => K (.exit 0) { n := 18, l := [] } m) n x3 x7 x8 m
  | _ => none
noncomputable def lp103 (call : CallF) (fuel base : Nat) : Lp := lpsel [(0, fun T m K => kslots 18 [3, 7, 8] T fun vs => r103_L0_R call fuel base fuel vs m K)]
noncomputable def c103 : Code := Try.f103.body.getD .skip
theorem r103_L0_lk (call : CallF) (fuel base : Nat) : LoopsOk E call (lp103 call fuel base) fuel base 0 (loopB (blockB (seqR (seqL (seqR c103))))) = (And True (And (And True True) (And (And True (And True (And (And True True) True))) True))) := by kernel_rfl
theorem r103_L0_ok (call : CallF) (fuel base : Nat) : LpOk E call (lp103 call fuel base) fuel base 0 (loopB (blockB (seqR (seqL (seqR c103))))) := by
  refine loop_ok (kp := keep103) (hb := Eq.mpr (r103_L0_lk call fuel base) (And.intro trivial (And.intro (And.intro trivial trivial) (And.intro (And.intro trivial (And.intro trivial (And.intro (And.intro trivial trivial) trivial))) trivial)))) 18 [3, 7, 8] (fun n vs m K => r103_L0_R call fuel base n vs m K) ?_ ?_ (fun _ _ _ => rfl)
  · intro vs m K
    unfold r103_L0_R
    split <;> rfl
  · intro n vs m K hl
    match vs, hl with
    | [x3, x7, x8], _ => show _ = _; kernel_rfl
theorem r103_eq (call : CallF) (fuel base : Nat) (x0 : Value) (x1 : Value) (m : M) : kbody E call keep103 (lp103 call fuel base) base Try.f103 [x0, x1] m = r103 call fuel base x0 x1 m := by
  kernel_rfl
noncomputable def rf103 : RF := fun call fuel base args m => match args with
  | [x0, x1] => r103 call fuel base x0 x1 m
  | _ => none
theorem r103_lk (call : CallF) (fuel base : Nat) : LoopsOk E call (lp103 call fuel base) fuel base 0 c103 = (And True (And (And True (LpOk E call (lp103 call fuel base) fuel base 0 (loopB (blockB (seqR (seqL (seqR c103))))))) (And True True))) := by kernel_rfl
theorem r103_fn : E.P.funcs[103]? = some Try.f103 := by kernel_rfl
theorem r103_body : Try.f103.body = some c103 := by kernel_rfl
theorem rf103_ok : RFok E 103 rf103 := by
  show RFok' E 103 rf103
  refine ⟨Try.f103, r103_fn, fun call fuel base args m r _ h => ?_⟩
  unfold rf103 at h
  split at h
  · rw [← r103_eq] at h
    exact kbody_sound (c := c103) r103_body (Eq.mpr (r103_lk call fuel base) (And.intro trivial (And.intro (And.intro trivial (r103_L0_ok call fuel base)) (And.intro trivial trivial)))) h
  · simp at h
end Go.AM
namespace Go.AM
open Go Go.Proofs
noncomputable def r104 (call : CallF) (fuel base : Nat) (x0 : Value) (x1 : Value) (x2 : Value) (m : M) : Res2 :=
  (k2 (xbox m x0) fun v3_1 m => (k1 (mbin E .lss 3 x1 (.int .i64 0)) fun v15_2 => (kb v15_2 (k1 (mfieldAddr E.P 79 v3_1 0) fun v20_3 => (k1 (mfieldAddr E.P 23 v20_3 2) fun v21_4 => (k1 (xload E.P m 3 v21_4) fun v22_5 => (fVal v22_5 fun v => some (.ret v, m))))) (k1 (mbin E .lss 3 x2 (.int .i64 0)) fun v18_6 => (kb v18_6 (k1 (mfieldAddr E.P 79 v3_1 0) fun v20_7 => (k1 (mfieldAddr E.P 23 v20_7 2) fun v21_8 => (k1 (xload E.P m 3 v21_8) fun v22_9 => (fVal v22_9 fun v => some (.ret v, m))))) (k1 (mfieldAddr E.P 79 v3_1 0) fun v25_10 => (k1 (mfieldAddr E.P 23 v25_10 0) fun v26_11 => (k1 (xload E.P m 3 v26_11) fun v27_12 => (k1 (mbin E .geq 3 x1 v27_12) fun v28_13 => (kb v28_13 (fVal (.int .i64 0) fun v => some (.ret v, m)) (k1 (mfieldAddr E.P 79 v3_1 0) fun v31_14 => (k1 (mfieldAddr E.P 23 v31_14 1) fun v32_15 => (k1 (xload E.P m 3 v32_15) fun v33_16 => (k1 (mbin E .geq 3 x2 v33_16) fun v34_17 => (kb v34_17 (fVal (.int .i64 0) fun v => some (.ret v, m)) (k1 (mfieldAddr E.P 79 v3_1 1) fun v9_18 => (k1 (mindexAddr E.P 77 v9_18 x1) fun v10_19 => (k1 (mindexAddr E.P 76 v10_19 x2) fun v11_20 => (k1 (xload E.P m 3 v11_20) fun v12_21 => (fVal v12_21 fun v => some (.ret v, m)))))))))))))))))))))
def keep104 : Keep := { region := fun i => ([[1, 2, 3], [6], [1, 2, 3, 13], [6], [1, 2, 3, 23], [6]] : List (List Nat))[i]?, exit := fun i => ([[6]] : List (List Nat))[i]?, ret := some [6] }
noncomputable def lp104 (call : CallF) (fuel base : Nat) : Lp := lpsel []
noncomputable def c104 : Code := Try.f104.body.getD .skip
theorem r104_eq (call : CallF) (fuel base : Nat) (x0 : Value) (x1 : Value) (x2 : Value) (m : M) : kbody E call keep104 (lp104 call fuel base) base Try.f104 [x0, x1, x2] m = r104 call fuel base x0 x1 x2 m := by
  kernel_rfl
noncomputable def rf104 : RF := fun call fuel base args m => match args with
  | [x0, x1, x2] => r104 call fuel base x0 x1 x2 m
  | _ => none
theorem r104_lk (call : CallF) (fuel base : Nat) : LoopsOk E call (lp104 call fuel base) fuel base 0 c104 = (And True (And True (And (And True True) (And True (And (And True True) (And True True)))))) := by kernel_rfl
theorem r104_fn : E.P.funcs[104]? = some Try.f104 := by kernel_rfl
theorem r104_body : Try.f104.body = some c104 := by kernel_rfl
theorem rf104_ok : RFok E 104 rf104 := by
  show RFok' E 104 rf104
  refine ⟨Try.f104, r104_fn, fun call fuel base args m r _ h => ?_⟩
  unfold rf104 at h
  split at h
  · rw [← r104_eq] at h
    exact kbody_sound (c := c104) r104_body (Eq.mpr (r104_lk call fuel base) (And.intro trivial (And.intro trivial (And.intro (And.intro trivial trivial) (And.intro trivial (And.intro (And.intro trivial trivial) (And.intro trivial trivial))))))) h
  · simp at h
end Go.AM
namespace Go.AM
open Go Go.Proofs
noncomputable def r105_L0 (call : CallF) (fuel base : Nat) (kx0 : Value → M → Res2) (n : Nat) : Value → Value → M → Res2 :=
  Nat.rec (motive := fun _ => Value → Value → M → Res2) (fun _ _ _ => none)
    (fun _ ih x7 x8 m =>
      (k2 (vcall E.P base m .len [27] [x7]) fun v36_13 m => (k1 (mbin E .lss 3 x8 v36_13) fun v37_14 => (kb v37_14 (k1 (mslice E.P m 27 x7 (some x8) none none) fun v41_15 => (k1 (mslice E.P m 27 x7 none (some x8) none) fun v44_16 => (k2 (vcall E.P base m .copy [27, 27] [v41_15, v44_16]) fun v45_17 m => (k1 (mbin E .add 3 x8 v45_17) fun v46_18 => (ih x7 v46_18 m))))) (kx0 x7 m))))) n
noncomputable def r105 (call : CallF) (fuel base : Nat) (x0 : Value) (x1 : Value) (m : M) : Res2 :=
  (k1 (mbin E .lss 3 x1 (.int .i64 0)) fun v10_1 => (kb v10_1 none (k2 (vcall E.P base m .len [27] [x0]) fun v14_2 m => (k1 (mconvert E.P 3 132 v14_2) fun v15_3 => (k1 (mconvert E.P 3 132 x1) fun v17_4 => (kc (call base 115 [v15_3, v17_4] m) (fun v18_5 m => (k1 (mextract 0 v18_5) fun v19_6 => (k1 (mextract 1 v18_5) fun v20_7 => (k1 (mbin E .gtr 132 v19_6 (.int .u64 0)) fun v22_8 => (kb v22_8 none (k1 (mbin E .gtr 132 v20_7 (.int .u64 9223372036854775807)) fun v25_9 => (kb v25_9 none (k1 (mconvert E.P 132 3 v20_7) fun v29_10 => (k2 (xmakeSlice E.P m 27 v29_10 v29_10) fun v30_11 m => (k2 (vcall E.P base m .copy [27, 27] [v30_11, x0]) fun v33_12 m => (r105_L0 call fuel base (fun y7_19 m => (fVal y7_19 fun v => some (.ret v, m))) fuel v30_11 v33_12 m))))))))))) (fun v m => some (.pan v, m))))))))
def keep105 : Keep := { region := fun i => ([[0, 1], [0, 1, 10], [0, 1], [0, 5, 6], [0, 6, 26], [0, 6], [0, 7], [7, 8], [7, 8, 37], [7, 8], [4]] : List (List Nat))[i]?, exit := fun i => ([[7], [7, 8]] : List (List Nat))[i]?, ret := some [4] }
noncomputable def r105_L0_R (call : CallF) (fuel base n : Nat) (vs : List Value) (m : M) (K : KT) : Res2 := match vs with
  | [x7, x8] => r105_L0 call fuel base (fun y7 m => K (.exit 0) { n := 48, l := [(7, y7)] } m) n x7 x8 m
  | _ => none
noncomputable def lp105 (call : CallF) (fuel base : Nat) : Lp := lpsel [(0, fun T m K => kslots 48 [7, 8] T fun vs => r105_L0_R call fuel base fuel vs m K)]
noncomputable def c105 : Code := Try.f105.body.getD .skip
theorem r105_L0_lk (call : CallF) (fuel base : Nat) : LoopsOk E call (lp105 call fuel base) fuel base 0 (loopB (blockB (seqL (seqR (seqR (seqR (seqR (seqR (seqR c105))))))))) = (And (And True (And True True)) True) := by kernel_rfl
theorem r105_L0_ok (call : CallF) (fuel base : Nat) : LpOk E call (lp105 call fuel base) fuel base 0 (loopB (blockB (seqL (seqR (seqR (seqR (seqR (seqR (seqR c105))))))))) := by
  refine loop_ok (kp := keep105) (hb := Eq.mpr (r105_L0_lk call fuel base) (And.intro (And.intro trivial (And.intro trivial trivial)) trivial)) 48 [7, 8] (fun n vs m K => r105_L0_R call fuel base n vs m K) ?_ ?_ (fun _ _ _ => rfl)
  · intro vs m K
    unfold r105_L0_R
    split <;> rfl
  · intro n vs m K hl
    match vs, hl with
    | [x7, x8], _ => show _ = _; kernel_rfl
theorem r105_eq (call : CallF) (fuel base : Nat) (x0 : Value) (x1 : Value) (m : M) : kbody E call keep105 (lp105 call fuel base) base Try.f105 [x0, x1] m = r105 call fuel base x0 x1 m := by
  kernel_rfl
noncomputable def rf105 : RF := fun call fuel base args m => match args with
  | [x0, x1] => r105 call fuel base x0 x1 m
  | _ => none
theorem r105_lk (call : CallF) (fuel base : Nat) : LoopsOk E call (lp105 call fuel base) fuel base 0 c105 = (And True (And (And True (And True True)) (And True (And (And True (And True True)) (And True (And True (And (LpOk E call (lp105 call fuel base) fuel base 0 (loopB (blockB (seqL (seqR (seqR (seqR (seqR (seqR (seqR c105)))))))))) (And True True)))))))) := by kernel_rfl
theorem r105_fn : E.P.funcs[105]? = some Try.f105 := by kernel_rfl
theorem r105_body : Try.f105.body = some c105 := by kernel_rfl
theorem rf105_ok : RFok E 105 rf105 := by
  show RFok' E 105 rf105
  refine ⟨Try.f105, r105_fn, fun call fuel base args m r _ h => ?_⟩
  unfold rf105 at h
  split at h
  · rw [← r105_eq] at h
    exact kbody_sound (c := c105) r105_body (Eq.mpr (r105_lk call fuel base) (And.intro trivial (And.intro (And.intro trivial (And.intro trivial trivial)) (And.intro trivial (And.intro (And.intro trivial (And.intro trivial trivial)) (And.intro trivial (And.intro trivial (And.intro (r105_L0_ok call fuel base) (And.intro trivial trivial))))))))) h
  · simp at h
end Go.AM
namespace Go.AM
open Go Go.Proofs
noncomputable def r106_L0 (call : CallF) (fuel base : Nat) (kr : M → Res2) (kx0 : M → Res2) (n : Nat) : Value → Value → Value → Value → Value → Value → Value → M → Res2 :=
  Nat.rec (motive := fun _ => Value → Value → Value → Value → Value → Value → Value → M → Res2) (fun _ _ _ _ _ _ _ _ => none)
    (fun _ ih x0 x1 x2 x3 x8 x9 x10 m =>
      (k1 (mbin E .lss 3 x10 x9) fun v11_4 => (kb v11_4 (k1 (mindexAddr E.P 104 x8 x10) fun v13_5 => (k1 (xload E.P m 76 v13_5) fun v14_6 => (k2 (xalloc E.P m 76) fun v6_7 m => (ks (xstore E.P base m 76 v6_7 v14_6) fun m => (k1 (xload E.P m 76 v6_7) fun v15_8 => (k1 (xload E.P m 76 x2) fun v16_9 => (kc (kB m (call m.length 103 [v15_8, v16_9] m)) (fun v17_10 m => (kb v17_10 (k1 (xload E.P m 76 v6_7) fun v20_11 => (k1 (mfieldAddr E.P 106 x1 1) fun v21_12 => (k1 (xload E.P m 33 v21_12) fun v22_13 => (k1 (xload E.P m 3 x3) fun v23_14 => (k1 (mindexAddr E.P 33 v22_13 v23_14) fun v24_15 => (k1 (xload E.P m 27 v24_15) fun v25_16 => (k1 (mindexAddr E.P 27 v25_16 x10) fun v27_17 => (k1 (xload E.P m 3 v27_17) fun v28_18 => (kc (kv call base x0 [v20_11, v28_18] m) (fun v29_19 m => (k1 (mun .not v29_19) fun v30_20 => (kb v30_20 (kr m) (k1 (mbin E .add 3 x10 (.int .i64 1)) fun v32_21 => (ih x0 x1 x2 x3 x8 x9 v32_21 m))))) (fun _ _ => none)))))))))) (k1 (mbin E .add 3 x10 (.int .i64 1)) fun v32_22 => (ih x0 x1 x2 x3 x8 x9 v32_22 m)))) (fun _ _ => none)))))))) (kx0 m)))) n
noncomputable def r106 (call : CallF) (fuel base : Nat) (x0 : Value) (x1 : Value) (x2 : Value) (x3 : Value) (m : M) : Res2 :=
  (k1 (mfieldAddr E.P 106 x1 0) fun v7_1 => (k1 (xload E.P m 104 v7_1) fun v8_2 => (k2 (vcall E.P base m .len [104] [v8_2]) fun v9_3 m => (r106_L0 call fuel base (fun m => (some (.ret (.tuple #[]), m))) (fun m => (some (.ret (.tuple #[]), m))) fuel x0 x1 x2 x3 v8_2 v9_3 (.int .i64 0) m))))
def keep106 : Keep := { region := fun i => ([[0, 1, 2, 3, 8, 9, 10], [0, 1, 2, 3, 8, 9, 10, 11], [0, 1, 2, 3, 5, 6, 8, 9, 10], [0, 1, 2, 3, 8, 9, 10, 31], [0, 1, 2, 3, 8, 9, 10]] : List (List Nat))[i]?, exit := fun i => ([[], [0, 1, 2, 3, 8, 9, 10]] : List (List Nat))[i]?, ret := some [] }
noncomputable def r106_L0_R (call : CallF) (fuel base n : Nat) (vs : List Value) (m : M) (K : KT) : Res2 := match vs with
  | [x0, x1, x2, x3, x8, x9, x10] => r106_L0 call fuel base (fun m => K .ret { n := 33, l := [] } m) (fun m => K (.exit 0) { n := 33, l := [] } m) n x0 x1 x2 x3 x8 x9 x10 m
  | _ => none
noncomputable def lp106 (call : CallF) (fuel base : Nat) : Lp := lpsel [(0, fun T m K => kslots 33 [0, 1, 2, 3, 8, 9, 10] T fun vs => r106_L0_R call fuel base fuel vs m K)]
noncomputable def c106 : Code := Try.f106.body.getD .skip
theorem r106_L0_lk (call : CallF) (fuel base : Nat) : LoopsOk E call (lp106 call fuel base) fuel base 0 (loopB (blockB (seqR c106))) = (And True (And (And True True) (And (And True (And True (And True True))) True))) := by kernel_rfl
theorem r106_L0_ok (call : CallF) (fuel base : Nat) : LpOk E call (lp106 call fuel base) fuel base 0 (loopB (blockB (seqR c106))) := by
  refine loop_ok (kp := keep106) (hb := Eq.mpr (r106_L0_lk call fuel base) (And.intro trivial (And.intro (And.intro trivial trivial) (And.intro (And.intro trivial (And.intro trivial (And.intro trivial trivial))) trivial)))) 33 [0, 1, 2, 3, 8, 9, 10] (fun n vs m K => r106_L0_R call fuel base n vs m K) ?_ ?_ (fun _ _ _ => rfl)
  · intro vs m K
    unfold r106_L0_R
    split <;> rfl
  · intro n vs m K hl
    match vs, hl with
    | [x0, x1, x2, x3, x8, x9, x10], _ => show _ = _; kernel_rfl
theorem r106_eq (call : CallF) (fuel base : Nat) (x0 : Value) (x1 : Value) (x2 : Value) (x3 : Value) (m : M) : kbody E call keep106 (lp106 call fuel base) base Try.f106 [x0, x1, x2, x3] m = r106 call fuel base x0 x1 x2 x3 m := by
  kernel_rfl
noncomputable def rf106 : RF := fun call fuel base args m => match args with
  | [x0, x1, x2, x3] => r106 call fuel base x0 x1 x2 x3 m
  | _ => none
theorem r106_lk (call : CallF) (fuel base : Nat) : LoopsOk E call (lp106 call fuel base) fuel base 0 c106 = (And True (LpOk E call (lp106 call fuel base) fuel base 0 (loopB (blockB (seqR c106))))) := by kernel_rfl
theorem r106_fn : E.P.funcs[106]? = some Try.f106 := by kernel_rfl
theorem r106_body : Try.f106.body = some c106 := by kernel_rfl
theorem rf106_ok : RFok E 106 rf106 := by
  show RFok' E 106 rf106
  refine ⟨Try.f106, r106_fn, fun call fuel base args m r _ h => ?_⟩
  unfold rf106 at h
  split at h
  · rw [← r106_eq] at h
    exact kbody_sound (c := c106) r106_body (Eq.mpr (r106_lk call fuel base) (And.intro trivial (r106_L0_ok call fuel base))) h
  · simp at h
end Go.AM
namespace Go.AM
open Go Go.Proofs
noncomputable def r111 (call : CallF) (fuel base : Nat) (x0 : Value) (x1 : Value) (m : M) : Res2 :=
  (k1 (mbin E .mul 3 x0 x1) fun v7_1 => (fVal v7_1 fun v => some (.ret v, m)))
def keep111 : Keep := { region := fun i => ([[0, 1], [4]] : List (List Nat))[i]?, exit := fun i => ([] : List (List Nat))[i]?, ret := some [4] }
noncomputable def lp111 (call : CallF) (fuel base : Nat) : Lp := lpsel []
noncomputable def c111 : Code := Try.f111.body.getD .skip
theorem r111_eq (call : CallF) (fuel base : Nat) (x0 : Value) (x1 : Value) (m : M) : kbody E call keep111 (lp111 call fuel base) base Try.f111 [x0, x1] m = r111 call fuel base x0 x1 m := by
  kernel_rfl
noncomputable def rf111 : RF := fun call fuel base args m => match args with
  | [x0, x1] => r111 call fuel base x0 x1 m
  | _ => none
theorem r111_lk (call : CallF) (fuel base : Nat) : LoopsOk E call (lp111 call fuel base) fuel base 0 c111 = (And True (And True True)) := by kernel_rfl
theorem r111_fn : E.P.funcs[111]? = some Try.f111 := by kernel_rfl
theorem r111_body : Try.f111.body = some c111 := by kernel_rfl
theorem rf111_ok : RFok E 111 rf111 := by
  show RFok' E 111 rf111
  refine ⟨Try.f111, r111_fn, fun call fuel base args m r _ h => ?_⟩
  unfold rf111 at h
  split at h
  · rw [← r111_eq] at h
    exact kbody_sound (c := c111) r111_body (Eq.mpr (r111_lk call fuel base) (And.intro trivial (And.intro trivial trivial))) h
  · simp at h
end Go.AM
namespace Go.AM
open Go Go.Proofs
noncomputable def r112 (call : CallF) (fuel base : Nat) (x0 : Value) (x1 : Value) (m : M) : Res2 :=
  (k1 (mbin E .sub 3 x0 x1) fun v7_1 => (fVal v7_1 fun v => some (.ret v, m)))
def keep112 : Keep := { region := fun i => ([[0, 1], [4]] : List (List Nat))[i]?, exit := fun i => ([] : List (List Nat))[i]?, ret := some [4] }
noncomputable def lp112 (call : CallF) (fuel base : Nat) : Lp := lpsel []
noncomputable def c112 : Code := Try.f112.body.getD .skip
theorem r112_eq (call : CallF) (fuel base : Nat) (x0 : Value) (x1 : Value) (m : M) : kbody E call keep112 (lp112 call fuel base) base Try.f112 [x0, x1] m = r112 call fuel base x0 x1 m := by
  kernel_rfl
noncomputable def rf112 : RF := fun call fuel base args m => match args with
  | [x0, x1] => r112 call fuel base x0 x1 m
  | _ => none
theorem r112_lk (call : CallF) (fuel base : Nat) : LoopsOk E call (lp112 call fuel base) fuel base 0 c112 = (And True (And True True)) := by kernel_rfl
theorem r112_fn : E.P.funcs[112]? = some Try.f112 := by kernel_rfl
theorem r112_body : Try.f112.body = some c112 := by kernel_rfl
theorem rf112_ok : RFok E 112 rf112 := by
  show RFok' E 112 rf112
  refine ⟨Try.f112, r112_fn, fun call fuel base args m r _ h => ?_⟩
  unfold rf112 at h
  split at h
  · rw [← r112_eq] at h
    exact kbody_sound (c := c112) r112_body (Eq.mpr (r112_lk call fuel base) (And.intro trivial (And.intro trivial trivial))) h
  · simp at h
end Go.AM
namespace Go.AM
open Go Go.Proofs
noncomputable def r113 (call : CallF) (fuel base : Nat) (x0 : Value) (x1 : Value) (m : M) : Res2 :=
  (k1 (mbin E .quo 3 x0 x1) fun v7_1 => (fVal v7_1 fun v => some (.ret v, m)))
def keep113 : Keep := { region := fun i => ([[0, 1], [4]] : List (List Nat))[i]?, exit := fun i => ([] : List (List Nat))[i]?, ret := some [4] }
noncomputable def lp113 (call : CallF) (fuel base : Nat) : Lp := lpsel []
noncomputable def c113 : Code := Try.f113.body.getD .skip
theorem r113_eq (call : CallF) (fuel base : Nat) (x0 : Value) (x1 : Value) (m : M) : kbody E call keep113 (lp113 call fuel base) base Try.f113 [x0, x1] m = r113 call fuel base x0 x1 m := by
  kernel_rfl
noncomputable def rf113 : RF := fun call fuel base args m => match args with
  | [x0, x1] => r113 call fuel base x0 x1 m
  | _ => none
theorem r113_lk (call : CallF) (fuel base : Nat) : LoopsOk E call (lp113 call fuel base) fuel base 0 c113 = (And True (And True True)) := by kernel_rfl
theorem r113_fn : E.P.funcs[113]? = some Try.f113 := by kernel_rfl
theorem r113_body : Try.f113.body = some c113 := by kernel_rfl
theorem rf113_ok : RFok E 113 rf113 := by
  show RFok' E 113 rf113
  refine ⟨Try.f113, r113_fn, fun call fuel base args m r _ h => ?_⟩
  unfold rf113 at h
  split at h
  · rw [← r113_eq] at h
    exact kbody_sound (c := c113) r113_body (Eq.mpr (r113_lk call fuel base) (And.intro trivial (And.intro trivial trivial))) h
  · simp at h
end Go.AM
namespace Go.AM
open Go Go.Proofs
noncomputable def r114_L0 (call : CallF) (fuel base : Nat) (kp : Value → M → Res2) (kx0 : M → Res2) (n : Nat) : Value → Value → Value → Value → Value → M → Res2 :=
  Nat.rec (motive := fun _ => Value → Value → Value → Value → Value → M → Res2) (fun _ _ _ _ _ _ => none)
    (fun _ ih x1 x5 x6 x19 x20 m =>
      (k1 (mbin E .lss 3 x20 x19) fun v21_10 => (kb v21_10 (k1 (mindexAddr E.P 76 x6 x1) fun v25_11 => (ks (xstore E.P base m 3 v25_11 x20) fun m => (k1 (xload E.P m 134 x5) fun v26_12 => (k1 (xload E.P m 76 x6) fun v27_13 => (k1 (mbin E .add 3 x1 (.int .i64 1)) fun v29_14 => (kc (kv call base v26_12 [v27_13, v29_14, x20] m) (fun v31_15 m => (k1 (mbin E .add 3 x20 (.int .i64 1)) fun v32_16 => (ih x1 x5 x6 x19 v32_16 m))) (fun v m => kp v m))))))) (kx0 m)))) n
noncomputable def r114 (call : CallF) (fuel base : Nat) (x0 : Value) (x1 : Value) (x2 : Value) (x3 : Value) (x4 : Value) (x5 : Value) (m : M) : Res2 :=
  (k2 (xbox m x0) fun v6_1 m => (k1 (mfieldAddr E.P 23 x3 1) fun v11_2 => (k1 (xload E.P m 3 v11_2) fun v12_3 => (k1 (mbin E .eql 3 x1 v12_3) fun v13_4 => (kb v13_4 (k1 (xload E.P m 104 x4) fun v14_5 => (k1 (xload E.P m 76 v6_1) fun v15_6 => (k2 (xbuildSlice E.P m 104 1 [(0, v15_6)]) fun v16_7 m => (k2 (vcall E.P base m .append [104, 104] [v14_5, v16_7]) fun v17_8 m => (ks (xstore E.P base m 104 x4 v17_8) fun m => (some (.ret (.tuple #[]), m))))))) (k1 (mbin E .add 3 x2 (.int .i64 1)) fun v19_9 => (r114_L0 call fuel base (fun v m => some (.pan v, m)) (fun m => (some (.ret (.tuple #[]), m))) fuel x1 x5 v6_1 v19_9 (.int .i64 0) m)))))))
def keep114 : Keep := { region := fun i => ([[1, 2, 3, 4, 5, 6], [1, 2, 4, 5, 6, 13], [], [1, 5, 6, 19, 20], [1, 5, 6, 19, 20, 21], [1, 5, 6, 9, 19, 20], [1, 5, 6, 9, 19, 20], [1, 5, 6, 19, 20], [1, 5, 6, 19, 20]] : List (List Nat))[i]?, exit := fun i => ([[], [1, 5, 6, 19, 20]] : List (List Nat))[i]?, ret := some [] }
noncomputable def r114_L0_R (call : CallF) (fuel base n : Nat) (vs : List Value) (m : M) (K : KT) : Res2 := match vs with
  | [x1, x5, x6, x19, x20] => r114_L0 call fuel base (fun v m => K (.pan v) { n := 33, l := [] } m) (fun m => K (.exit 0) { n := 33, l := [] } m) n x1 x5 x6 x19 x20 m
  | _ => none
noncomputable def lp114 (call : CallF) (fuel base : Nat) : Lp := lpsel [(0, fun T m K => kslots 33 [1, 5, 6, 19, 20] T fun vs => r114_L0_R call fuel base fuel vs m K)]
noncomputable def c114 : Code := Try.f114.body.getD .skip
theorem r114_L0_lk (call : CallF) (fuel base : Nat) : LoopsOk E call (lp114 call fuel base) fuel base 0 (loopB (blockB (seqR (seqR (seqR c114))))) = (And True (And (And True True) (And (And True (And True True)) True))) := by kernel_rfl
theorem r114_L0_ok (call : CallF) (fuel base : Nat) : LpOk E call (lp114 call fuel base) fuel base 0 (loopB (blockB (seqR (seqR (seqR c114))))) := by
  refine loop_ok (kp := keep114) (hb := Eq.mpr (r114_L0_lk call fuel base) (And.intro trivial (And.intro (And.intro trivial trivial) (And.intro (And.intro trivial (And.intro trivial trivial)) trivial)))) 33 [1, 5, 6, 19, 20] (fun n vs m K => r114_L0_R call fuel base n vs m K) ?_ ?_ (fun _ _ _ => rfl)
  · intro vs m K
    unfold r114_L0_R
    split <;> rfl
  · intro n vs m K hl
    match vs, hl with
    | [x1, x5, x6, x19, x20], _ => show _ = _; kernel_rfl
theorem r114_eq (call : CallF) (fuel base : Nat) (x0 : Value) (x1 : Value) (x2 : Value) (x3 : Value) (x4 : Value) (x5 : Value) (m : M) : kbody E call keep114 (lp114 call fuel base) base Try.f114 [x0, x1, x2, x3, x4, x5] m = r114 call fuel base x0 x1 x2 x3 x4 x5 m := by
  kernel_rfl
noncomputable def rf114 : RF := fun call fuel base args m => match args with
  | [x0, x1, x2, x3, x4, x5] => r114 call fuel base x0 x1 x2 x3 x4 x5 m
  | _ => none
theorem r114_lk (call : CallF) (fuel base : Nat) : LoopsOk E call (lp114 call fuel base) fuel base 0 c114 = (And True (And (And True (And (And True True) True)) (And True (LpOk E call (lp114 call fuel base) fuel base 0 (loopB (blockB (seqR (seqR (seqR c114))))))))) := by kernel_rfl
theorem r114_fn : E.P.funcs[114]? = some Try.f114 := by kernel_rfl
theorem r114_body : Try.f114.body = some c114 := by kernel_rfl
theorem rf114_ok : RFok E 114 rf114 := by
  show RFok' E 114 rf114
  refine ⟨Try.f114, r114_fn, fun call fuel base args m r _ h => ?_⟩
  unfold rf114 at h
  split at h
  · rw [← r114_eq] at h
    exact kbody_sound (c := c114) r114_body (Eq.mpr (r114_lk call fuel base) (And.intro trivial (And.intro (And.intro trivial (And.intro (And.intro trivial trivial) trivial)) (And.intro trivial (r114_L0_ok call fuel base))))) h
  · simp at h
end Go.AM
namespace Go.AM
open Go Go.Proofs
noncomputable def r115 (call : CallF) (fuel base : Nat) (x0 : Value) (x1 : Value) (m : M) : Res2 :=
  (kc (call base 128 [x0, x1] m) (fun v25_1 m => (k1 (mextract 0 v25_1) fun v26_2 => (k1 (mextract 1 v25_1) fun v27_3 => (some (.ret (.tuple #[v26_2, v27_3]), m))))) (fun v m => some (.pan v, m)))
def keep115 : Keep := { region := fun i => ([[0, 1], [6, 7], [4, 5], [8, 9], [4, 5]] : List (List Nat))[i]?, exit := fun i => ([] : List (List Nat))[i]?, ret := some [4, 5] }
noncomputable def lp115 (call : CallF) (fuel base : Nat) : Lp := lpsel []
noncomputable def c115 : Code := Try.f115.body.getD .skip
theorem r115_eq (call : CallF) (fuel base : Nat) (x0 : Value) (x1 : Value) (m : M) : kbody E call keep115 (lp115 call fuel base) base Try.f115 [x0, x1] m = r115 call fuel base x0 x1 m := by
  kernel_rfl
noncomputable def rf115 : RF := fun call fuel base args m => match args with
  | [x0, x1] => r115 call fuel base x0 x1 m
  | _ => none
theorem r115_lk (call : CallF) (fuel base : Nat) : LoopsOk E call (lp115 call fuel base) fuel base 0 c115 = (And True (And (And (And True (And True True)) True) (And True (And True True)))) := by kernel_rfl
theorem r115_fn : E.P.funcs[115]? = some Try.f115 := by kernel_rfl
theorem r115_body : Try.f115.body = some c115 := by kernel_rfl
theorem rf115_ok : RFok E 115 rf115 := by
  show RFok' E 115 rf115
  refine ⟨Try.f115, r115_fn, fun call fuel base args m r _ h => ?_⟩
  unfold rf115 at h
  split at h
  · rw [← r115_eq] at h
    exact kbody_sound (c := c115) r115_body (Eq.mpr (r115_lk call fuel base) (And.intro trivial (And.intro (And.intro (And.intro trivial (And.intro trivial trivial)) trivial) (And.intro trivial (And.intro trivial trivial))))) h
  · simp at h
end Go.AM
namespace Go.AM
open Go Go.Proofs
noncomputable def r127 (call : CallF) (fuel base : Nat) (x0 : Value) (x1 : Value) (m : M) : Res2 :=
  (k1 (mconvert E.P 58 147 x0) fun v8_1 => (k1 (mconvert E.P 58 147 x1) fun v10_2 => (k1 (mbin E .mul 147 v8_1 v10_2) fun v11_3 => (k1 (mbin E .shr 147 v11_3 (.int .u64 32)) fun v13_4 => (k1 (mconvert E.P 147 58 v13_4) fun v14_5 => (k1 (mconvert E.P 147 58 v11_3) fun v16_6 => (some (.ret (.tuple #[v14_5, v16_6]), m))))))))
def keep127 : Keep := { region := fun i => ([[0, 1], [6], [4, 5]] : List (List Nat))[i]?, exit := fun i => ([] : List (List Nat))[i]?, ret := some [4, 5] }
noncomputable def lp127 (call : CallF) (fuel base : Nat) : Lp := lpsel []
noncomputable def c127 : Code := Try.f127.body.getD .skip
theorem r127_eq (call : CallF) (fuel base : Nat) (x0 : Value) (x1 : Value) (m : M) : kbody E call keep127 (lp127 call fuel base) base Try.f127 [x0, x1] m = r127 call fuel base x0 x1 m := by
  kernel_rfl
noncomputable def rf127 : RF := fun call fuel base args m => match args with
  | [x0, x1] => r127 call fuel base x0 x1 m
  | _ => none
theorem r127_lk (call : CallF) (fuel base : Nat) : LoopsOk E call (lp127 call fuel base) fuel base 0 c127 = (And True (And True (And True True))) := by kernel_rfl
theorem r127_fn : E.P.funcs[127]? = some Try.f127 := by kernel_rfl
theorem r127_body : Try.f127.body = some c127 := by kernel_rfl
theorem rf127_ok : RFok E 127 rf127 := by
  show RFok' E 127 rf127
  refine ⟨Try.f127, r127_fn, fun call fuel base args m r _ h => ?_⟩
  unfold rf127 at h
  split at h
  · rw [← r127_eq] at h
    exact kbody_sound (c := c127) r127_body (Eq.mpr (r127_lk call fuel base) (And.intro trivial (And.intro trivial (And.intro trivial trivial)))) h
  · simp at h
end Go.AM
namespace Go.AM
open Go Go.Proofs
noncomputable def r128 (call : CallF) (fuel base : Nat) (x0 : Value) (x1 : Value) (m : M) : Res2 :=
  (k1 (mbin E .and 147 x0 (.int .u64 4294967295)) fun v15_1 => (k1 (mbin E .shr 147 x0 (.int .u64 32)) fun v17_2 => (k1 (mbin E .and 147 x1 (.int .u64 4294967295)) fun v19_3 => (k1 (mbin E .shr 147 x1 (.int .u64 32)) fun v21_4 => (k1 (mbin E .mul 147 v15_1 v19_3) fun v24_5 => (k1 (mbin E .mul 147 v17_2 v19_3) fun v27_6 => (k1 (mbin E .shr 147 v24_5 (.int .u64 32)) fun v29_7 => (k1 (mbin E .add 147 v27_6 v29_7) fun v30_8 => (k1 (mbin E .and 147 v30_8 (.int .u64 4294967295)) fun v32_9 => (k1 (mbin E .shr 147 v30_8 (.int .u64 32)) fun v34_10 => (k1 (mbin E .mul 147 v15_1 v21_4) fun v38_11 => (k1 (mbin E .add 147 v32_9 v38_11) fun v39_12 => (k1 (mbin E .mul 147 v17_2 v21_4) fun v42_13 => (k1 (mbin E .add 147 v42_13 v34_10) fun v44_14 => (k1 (mbin E .shr 147 v39_12 (.int .u64 32)) fun v46_15 => (k1 (mbin E .add 147 v44_14 v46_15) fun v47_16 => (k1 (mbin E .mul 147 x0 x1) fun v50_17 => (some (.ret (.tuple #[v47_16, v50_17]), m)))))))))))))))))))
def keep128 : Keep := { region := fun i => ([[0, 1], [0, 1, 6], [0, 1, 6, 7], [0, 1, 6, 7, 8], [0, 1, 6, 7, 8, 9], [0, 1, 6, 7, 8, 9, 10], [0, 1, 6, 7, 9, 11], [0, 1, 6, 7, 9, 11, 12], [0, 1, 6, 7, 9, 12, 13], [0, 1, 7, 9, 12, 13], [0, 1, 4], [4, 5]] : List (List Nat))[i]?, exit := fun i => ([] : List (List Nat))[i]?, ret := some [4, 5] }
noncomputable def lp128 (call : CallF) (fuel base : Nat) : Lp := lpsel []
noncomputable def c128 : Code := Try.f128.body.getD .skip
theorem r128_eq (call : CallF) (fuel base : Nat) (x0 : Value) (x1 : Value) (m : M) : kbody E call keep128 (lp128 call fuel base) base Try.f128 [x0, x1] m = r128 call fuel base x0 x1 m := by
  kernel_rfl
noncomputable def rf128 : RF := fun call fuel base args m => match args with
  | [x0, x1] => r128 call fuel base x0 x1 m
  | _ => none
theorem r128_lk (call : CallF) (fuel base : Nat) : LoopsOk E call (lp128 call fuel base) fuel base 0 c128 = (And True (And True (And True (And True (And True (And True (And True (And True (And True (And True (And True (And True True)))))))))))) := by kernel_rfl
theorem r128_fn : E.P.funcs[128]? = some Try.f128 := by kernel_rfl
theorem r128_body : Try.f128.body = some c128 := by kernel_rfl
theorem rf128_ok : RFok E 128 rf128 := by
  show RFok' E 128 rf128
  refine ⟨Try.f128, r128_fn, fun call fuel base args m r _ h => ?_⟩
  unfold rf128 at h
  split at h
  · rw [← r128_eq] at h
    exact kbody_sound (c := c128) r128_body (Eq.mpr (r128_lk call fuel base) (And.intro trivial (And.intro trivial (And.intro trivial (And.intro trivial (And.intro trivial (And.intro trivial (And.intro trivial (And.intro trivial (And.intro trivial (And.intro trivial (And.intro trivial (And.intro trivial trivial))))))))))))) h
  · simp at h
end Go.AM
namespace Go.AM
open Go Go.Proofs
noncomputable def ytab : List (Nat × RYs) := [(968610, y57_0)]
theorem ytab_ok : ∀ p ∈ ytab, RYsOk E p.1 p.2 := by
  unfold ytab
  simp only [List.mem_cons, forall_eq_or_imp, List.not_mem_nil, false_imp_iff, implies_true, and_true]
  exact y57_0_ok
theorem ry_ok' : RFok E yid (ryOf ytab) := show RYok E (ryOf ytab) from ry_ok ytab_ok
noncomputable def tab : List (Nat × RF) := [(yid, ryOf ytab), (8, rf8), (12, rf12), (14, rf14), (15, rf15), (19, rf19), (24, rf24), (26, rf26), (27, rf27), (29, rf29), (30, rf30), (31, rf31), (42, rf42), (43, rf43), (44, rf44), (47, rf47), (48, rf48), (49, rf49), (50, rf50), (51, rf51), (52, rf52), (54, rf54), (55, rf55), (56, rf56), (57, rf57), (60, rf60), (61, rf61), (62, rf62), (63, rf63), (64, rf64), (74, rf74), (75, rf75), (76, rf76), (77, rf77), (80, rf80), (81, rf81), (82, rf82), (83, rf83), (84, rf84), (85, rf85), (86, rf86), (87, rf87), (88, rf88), (89, rf89), (97, rf97), (98, rf98), (99, rf99), (101, rf101), (103, rf103), (104, rf104), (105, rf105), (106, rf106), (111, rf111), (112, rf112), (113, rf113), (114, rf114), (115, rf115), (127, rf127), (128, rf128)]
theorem tab_ok : ∀ p ∈ tab, RFok E p.1 p.2 := by
  unfold tab
  simp only [List.mem_cons, forall_eq_or_imp, List.not_mem_nil, false_imp_iff, implies_true, and_true]
  exact ⟨ry_ok', rf8_ok, rf12_ok, rf14_ok, rf15_ok, rf19_ok, rf24_ok, rf26_ok, rf27_ok, rf29_ok, rf30_ok, rf31_ok, rf42_ok, rf43_ok, rf44_ok, rf47_ok, rf48_ok, rf49_ok, rf50_ok, rf51_ok, rf52_ok, rf54_ok, rf55_ok, rf56_ok, rf57_ok, rf60_ok, rf61_ok, rf62_ok, rf63_ok, rf64_ok, rf74_ok, rf75_ok, rf76_ok, rf77_ok, rf80_ok, rf81_ok, rf82_ok, rf83_ok, rf84_ok, rf85_ok, rf86_ok, rf87_ok, rf88_ok, rf89_ok, rf97_ok, rf98_ok, rf99_ok, rf101_ok, rf103_ok, rf104_ok, rf105_ok, rf106_ok, rf111_ok, rf112_ok, rf113_ok, rf114_ok, rf115_ok, rf127_ok, rf128_ok⟩
noncomputable def rc (n : Nat) : CallF := rcall E.pure tab n
theorem rc_sound (n : Nat) : SoundCall E (rc n) := rcall_sound E_good E_mix _ tab_ok n
end Go.AM
namespace Go.AM
open Go Go.Proofs
abbrev nilS : Value := .slice none 0 0
def k1n (o : Option Value) (k : Value → Res2) : Res2 := match o with
  | some r => k r
  | none => none
theorem k1_fun : k1 = k1n := by
  funext o k
  cases o with
  | none => rfl
  | some r => exact fVal_eq r k
theorem fVal_fun : (@fVal Res2 : Value → (Value → Res2) → Res2) = fun v k => k v := by
  funext v k
  exact fVal_eq v k
noncomputable def vcalln (P : Program) (base : Nat) (m : M) (b : Builtin) (tys : List TypeId) (vs : List Value) : Option (Value × M) := match b with
  | .len => match tys, vs with
    | t :: _, [x] => match mlen P t x with
      | some r => some (r, m)
      | none => none
    | _, _ => none
  | .min => match vs with
    | x :: xs => match mfold mmin2 x xs with
      | some r => some (r, m)
      | none => none
    | _ => none
  | .max => match vs with
    | x :: xs => match mfold mmax2 x xs with
      | some r => some (r, m)
      | none => none
    | _ => none
  | b => xbuiltin P base m b tys vs
theorem vcall_fun : vcall = vcalln := by
  funext P base m b tys vs
  unfold vcall vcalln
  cases b <;> first
    | rfl
    | (simp only [xbuiltin, obuiltin, fVal_eq]; done)
    | (simp only [xbuiltin, obuiltin, fVal_eq]; rfl)
def vi (n : Int) : Value := .int .i64 n
def rowz (z : Nat) (ex : Bool) (cs : List Value) : Row := { esz := z, ex := ex, ro := false, cells := cs }
abbrev sl (p N : Nat) : Value := .slice (some ⟨p, 0, none⟩) N N
abbrev pt (p off : Nat) : Value := .pointer (some ⟨p, off, none⟩)
/-- A slice that grows: nil while it has nothing, else a row of its own. -/
def Grow (z b : Nat) (m : M) (v : Value) (cs : List Value) (n : Nat) : Prop :=
  (n = 0 ∧ v = .slice none 0 0 ∧ cs = []) ∨ ∃ r, 1 ≤ n ∧ b ≤ r ∧ v = sl r n ∧ m[r]? = some (rowz z false cs) ∧ cs.length = n * z
def Keeps (n : Nat) (m m' : M) : Prop := m.length ≤ m'.length ∧ ∀ i, i < n → m'[i]? = m[i]?
theorem Keeps.refl (n : Nat) (m : M) : Keeps n m m := ⟨Nat.le_refl _, fun _ _ => rfl⟩
theorem Keeps.trans {n : Nat} {a b c : M} (h : Keeps n a b) (k : Keeps n b c) : Keeps n a c := ⟨Nat.le_trans h.1 k.1, fun i hi => (k.2 i hi).trans (h.2 i hi)⟩
theorem Keeps.mono {n k : Nat} {a b : M} (h : Keeps n a b) (hk : k ≤ n) : Keeps k a b := ⟨h.1, fun i hi => h.2 i (by omega)⟩
theorem Keeps.push (n : Nat) (m : M) (h : n ≤ m.length) (x : List Row) : Keeps n m (m ++ x) := ⟨by simp, fun i hi => List.getElem?_append_left (by omega)⟩
theorem Keeps.set (n : Nat) (m : M) (r : Nat) (row : Row) (h : n ≤ r) : Keeps n m (m.set r row) := ⟨by simp, fun i hi => List.getElem?_set_ne (by omega)⟩
abbrev wr (n : Int) : Int := IntKind.i64.wrap n
def cellR (cs : List Value) : Row := { esz := 0, ex := true, ro := false, cells := cs }
theorem wr_id {n : Int} (h0 : -4611686018427387904 ≤ n) (h1 : n ≤ 4611686018427387904) : wr n = n := by
  unfold wr IntKind.wrap
  simp [IntKind.bits, IntKind.signed]
  omega
theorem wr_succ (j : Nat) (h : j ≤ 1000000) : wr ((j : Int) + 1) = ((j + 1 : Nat) : Int) := (wr_id (by omega) (by omega)).trans (by omega)
theorem lss_nat (i j : Nat) : mbin E .lss 3 (vi i) (vi j) = some (.bool (decide (i < j))) := by
  have e : mbin E .lss 3 (vi i) (vi j) = some (.bool (decide ((i : Int) < j))) := rfl
  rw [e]
  congr 2
  exact decide_eq_decide.2 (by omega)
theorem splice_one (cs : List Value) (off : Nat) (v : Value) (h : off < cs.length) : splice cs off [v] = cs.set off v := by
  unfold splice
  rw [List.set_eq_take_append_cons_drop, if_pos h]
  simp
theorem mwrite_one {base : Nat} {m : M} {p off : Nat} {v : Value} {row : Row} (hb : base ≤ p) (hr : m[p]? = some row) (hro : row.ro = false) (ho : off < row.cells.length) (hv : v.oneCell' = true) :
    mwrite base m p off [v] = some (m.set p { row with cells := row.cells.set off v }) := by
  unfold mwrite
  rw [if_neg (by omega), hr]
  simp only [hro, Bool.false_eq_true, if_false, List.length_cons, List.length_nil, List.all_cons, List.all_nil, hv, Bool.and_self, if_true]
  rw [if_pos (by omega), splice_one _ _ _ ho, fList_eq, fList_eq]
theorem add1 (j : Nat) (h : j ≤ 1000000) : mbin E .add 3 (vi j) (.int .i64 1) = some (vi ((j + 1 : Nat) : Int)) := by
  have e : mbin E .add 3 (vi j) (.int .i64 1) = some (vi (wr ((j : Int) + 1))) := rfl
  rw [e, wr_succ j h]
theorem kB_same (m : M) (v : Value) : kB m (some (.ret v, m)) = some (.ret v, m) := by
  simp only [kB, List.drop_length, List.append_nil, fList_eq]
theorem k2s (a : Value) (m : M) (k : Value → M → Res2) : k2 (some (a, m)) k = k a m := Eq.trans rfl rfl
theorem k1s (a : Value) (k : Value → Res2) : k1n (some a) k = k a := Eq.trans rfl rfl
theorem kss (m : M) (k : M → Res2) : ks (some m) k = k m := Eq.trans rfl rfl
theorem kcs (a : Value) (m : M) (k p : Value → M → Res2) : kc (some (.ret a, m)) k p = k a m := Eq.trans rfl rfl
theorem kbt (t f : Res2) : kb (.bool true) t f = t := Eq.trans rfl rfl
theorem kbf (t f : Res2) : kb (.bool false) t f = f := Eq.trans rfl rfl
theorem k0s (a : Value) (k : Value → Res2) : k0 (some a) k = k a := Eq.trans rfl rfl
theorem box_cell {m : M} {q : Nat} {cs : List Value} (h : m[q]? = some (cellR cs)) (j : Nat) (v : Value) (hv : cs[j]? = some v) : mcell m q j = some v := by
  unfold mcell
  rw [h]
  exact hv
theorem bxa3 (m : M) (a0 a1 a2 : Value) : xbox m (.agg #[a0, a1, a2]) = some (pt m.length 0, m ++ [cellR [a0, a1, a2]]) := by
  have e : xbox m (.agg #[a0, a1, a2]) = xlen m fun k => xpush m (cellR [a0, a1, a2]) fun m' => some (pt k 0, m') := by kernel_rfl
  rw [e, xlen_eq, fNat_eq, xpush_eq, fList_eq]
theorem bxa4 (m : M) (a0 a1 a2 a3 : Value) : xbox m (.agg #[a0, a1, a2, a3]) = some (pt m.length 0, m ++ [cellR [a0, a1, a2, a3]]) := by
  have e : xbox m (.agg #[a0, a1, a2, a3]) = xlen m fun k => xpush m (cellR [a0, a1, a2, a3]) fun m' => some (pt k 0, m') := by kernel_rfl
  rw [e, xlen_eq, fNat_eq, xpush_eq, fList_eq]
theorem rem3 (a b : Int) (h : b ≠ 0) : mbin E .rem 3 (vi a) (vi b) = some (vi (a.tmod b)) := by
  have e : mbin E .rem 3 (vi a) (vi b) = if b = 0 then none else some (vi (a.tmod b)) := by kernel_rfl
  rw [e, if_neg h]
theorem quo3 (a b : Int) (h : b ≠ 0) : mbin E .quo 3 (vi a) (vi b) = some (vi (wr (a.tdiv b))) := by
  have e : mbin E .quo 3 (vi a) (vi b) = if b = 0 then none else some (vi (wr (a.tdiv b))) := by kernel_rfl
  rw [e, if_neg h]
theorem add3 (a b : Int) : mbin E .add 3 (vi a) (vi b) = some (vi (wr (a + b))) := by kernel_rfl
theorem sub3 (a b : Int) : mbin E .sub 3 (vi a) (vi b) = some (vi (wr (a - b))) := by kernel_rfl
theorem mul3 (a b : Int) : mbin E .mul 3 (vi a) (vi b) = some (vi (wr (a * b))) := by kernel_rfl
theorem lss3 (a b : Int) : mbin E .lss 3 (vi a) (vi b) = some (.bool (decide (a < b))) := by kernel_rfl
theorem leq3 (a b : Int) : mbin E .leq 3 (vi a) (vi b) = some (.bool (decide (a ≤ b))) := by kernel_rfl
theorem gtr3 (a b : Int) : mbin E .gtr 3 (vi a) (vi b) = some (.bool (decide (a > b))) := by kernel_rfl
theorem geq3 (a b : Int) : mbin E .geq 3 (vi a) (vi b) = some (.bool (decide (a ≥ b))) := by kernel_rfl
theorem eql3 (a b : Int) : mbin E .eql 3 (vi a) (vi b) = some (.bool (decide (a = b))) := by
  have e : mbin E .eql 3 (vi a) (vi b) = some (.bool (a == b)) := by kernel_rfl
  rw [e]; congr 2
theorem neq3 (a b : Int) : mbin E .neq 3 (vi a) (vi b) = some (.bool (!decide (a = b))) := by
  have e : mbin E .neq 3 (vi a) (vi b) = some (.bool (!(a == b))) := by kernel_rfl
  rw [e]; congr 2
theorem neq24 (a b : Int) : mbin E .neq 24 (vi a) (vi b) = some (.bool (!decide (a = b))) := by
  have e : mbin E .neq 24 (vi a) (vi b) = some (.bool (!(a == b))) := by kernel_rfl
  rw [e]; congr 2
theorem not4 (b : Bool) : mun .not (.bool b) = some (.bool !b) := by kernel_rfl
theorem ld3 (m : M) (r off : Nat) : xload E.P m 3 (pt r off) = mcell m r off := by
  have e : xload E.P m 3 (pt r off) = xcell m r off := by kernel_rfl
  rw [e, xcell_eq]
theorem st3 (base : Nat) (m : M) (p off : Nat) (x : Int) : xstore E.P base m 3 (pt p off) (vi x) = mwrite base m p off [(vi x)] := by
  have e : xstore E.P base m 3 (pt p off) (vi x) = xwrite base m p off [(vi x)] := by kernel_rfl
  rw [e, xwrite_eq]
theorem ld27 (m : M) (r off : Nat) : xload E.P m 27 (pt r off) = mcell m r off := by
  have e : xload E.P m 27 (pt r off) = xcell m r off := by kernel_rfl
  rw [e, xcell_eq]
theorem st27 (base : Nat) (m : M) (p off q l c : Nat) : xstore E.P base m 27 (pt p off) (.slice (some ⟨q, 0, none⟩) l c) = mwrite base m p off [.slice (some ⟨q, 0, none⟩) l c] := by
  have e : xstore E.P base m 27 (pt p off) (.slice (some ⟨q, 0, none⟩) l c) = xwrite base m p off [.slice (some ⟨q, 0, none⟩) l c] := by kernel_rfl
  rw [e, xwrite_eq]
theorem ld23 {m : M} {r : Nat} {row : Row} {off : Nat} (h : m[r]? = some row) (hl : off + 3 ≤ row.cells.length) : xload E.P m 23 (pt r off) = some (.agg ((row.cells.drop off).take 3).toArray) := by
  have e : xload E.P m 23 (pt r off) = (xread m r off 3).map fun cs => .agg cs.toArray := by kernel_rfl
  rw [e, xread_eq]
  unfold mread
  rw [h]
  simp only
  rw [if_pos hl]
  rfl
theorem ldb23 {m : M} {r : Nat} {a0 a1 a2 : Value} (h : m[r]? = some (cellR [a0, a1, a2])) : xload E.P m 23 (pt r 0) = some (.agg #[a0, a1, a2]) := ld23 h (by simp [cellR])
theorem ml23 {m : M} {r : Nat} {a0 a1 a2 : Value} (h : m[r]? = some (cellR [a0, a1, a2])) : mload E.P m 23 (pt r 0) = some (.agg #[a0, a1, a2]) := by
  have e : mload E.P m 23 (pt r 0) = (mread m r 0 3).map fun cs => .agg cs.toArray := by kernel_rfl
  rw [e]
  unfold mread
  rw [h]
  rfl
theorem ff23_0 (p o : Nat) : mfieldAddr E.P 23 (pt p o) 0 = some (pt p (o + 0)) := by kernel_rfl
theorem ff23_1 (p o : Nat) : mfieldAddr E.P 23 (pt p o) 1 = some (pt p (o + 1)) := by kernel_rfl
theorem ff23_2 (p o : Nat) : mfieldAddr E.P 23 (pt p o) 2 = some (pt p (o + 2)) := by kernel_rfl
theorem ix27 (p l c j : Nat) (h : j < l) : mindexAddr E.P 27 (.slice (some ⟨p, 0, none⟩) l c) (vi j) = some (pt p j) := by
  have e : mindexAddr E.P 27 (.slice (some ⟨p, 0, none⟩) l c) (vi j) = if 0 ≤ (j : Int) ∧ (j : Int) < l then some (.pointer (some ⟨p, 0 + ((j : Int)).toNat * 1, none⟩)) else none := by kernel_rfl
  rw [e, if_pos (by omega)]
  simp
theorem len27n (base : Nat) (m : M) : vcalln E.P base m .len [27] [nilS] = some (vi 0, m) := by kernel_rfl
theorem ix33 (p l c j : Nat) (h : j < l) : mindexAddr E.P 33 (.slice (some ⟨p, 0, none⟩) l c) (vi j) = some (pt p j) := by
  have e : mindexAddr E.P 33 (.slice (some ⟨p, 0, none⟩) l c) (vi j) = if 0 ≤ (j : Int) ∧ (j : Int) < l then some (.pointer (some ⟨p, 0 + ((j : Int)).toNat * 1, none⟩)) else none := by kernel_rfl
  rw [e, if_pos (by omega)]
  simp
theorem len33 (base : Nat) (m : M) (o l c : Nat) : vcalln E.P base m .len [33] [.slice (some ⟨o, 0, none⟩) l c] = some (vi l, m) := by kernel_rfl
theorem len33n (base : Nat) (m : M) : vcalln E.P base m .len [33] [nilS] = some (vi 0, m) := by kernel_rfl
theorem mk27 (m : M) (n : Nat) (h : n ≤ 100) : xmakeSlice E.P m 27 (vi n) (vi n) = some (sl m.length n, m ++ [rowz 1 true (repCells [.int .i64 0] n)]) := by
  have e : xmakeSlice E.P m 27 (vi n) (vi n) = if ((n : Int) < 0 ∨ (n : Int) < n ∨ (n : Int) > 2 ^ 40 ∨ 8 > 2 ^ 7) then none else
    xlen m fun k => fNat n fun l => fNat n fun c => fList (repCells [.int .i64 0] c) fun cs => xpush m (rowz 1 true cs) fun m' => some (.slice (some ⟨k, 0, none⟩) l c, m') := by kernel_rfl
  rw [e, if_neg (by omega), xlen_eq, fNat_eq, fNat_eq, fNat_eq, fList_eq, xpush_eq, fList_eq]
theorem mk33 (m : M) (n : Nat) (h : n ≤ 100) : xmakeSlice E.P m 33 (vi n) (vi n) = some (sl m.length n, m ++ [rowz 1 true (repCells [.slice none 0 0] n)]) := by
  have e : xmakeSlice E.P m 33 (vi n) (vi n) = if ((n : Int) < 0 ∨ (n : Int) < n ∨ (n : Int) > 2 ^ 40 ∨ 24 > 2 ^ 7) then none else
    xlen m fun k => fNat n fun l => fNat n fun c => fList (repCells [.slice none 0 0] c) fun cs => xpush m (rowz 1 true cs) fun m' => some (.slice (some ⟨k, 0, none⟩) l c, m') := by kernel_rfl
  rw [e, if_neg (by omega), xlen_eq, fNat_eq, fNat_eq, fNat_eq, fList_eq, xpush_eq, fList_eq]
end Go.AM
