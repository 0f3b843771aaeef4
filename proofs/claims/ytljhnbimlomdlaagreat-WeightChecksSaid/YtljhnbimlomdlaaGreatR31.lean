import Derived.KernelRfl
import Derived.Laws.BytesArg
import Derived.Laws.StructEq
import Derived.RangeFuncLeaves
import Derived.RangeFuncRecord
import Derived.Test.YtljhnbimlomdlaaGreatProg
import Derived.Test.YtljhnbimlomdlaaGreatRows
import Derived.WalkKit
import Derived.Test.YtljhnbimlomdlaaGreatAmB
import Derived.Test.YtljhnbimlomdlaaGreatAmG
import Derived.Test.YtljhnbimlomdlaaGreatAmModel
import Derived.Test.YtljhnbimlomdlaaGreatAmRel
import Derived.Test.YtljhnbimlomdlaaGreatAmOps6
import Derived.Test.YtljhnbimlomdlaaGreatAmCode
import Derived.Test.YtljhnbimlomdlaaGreatAmDraw5
import Derived.Test.YtljhnbimlomdlaaGreatAmEq
import Derived.Test.YtljhnbimlomdlaaGreatRBase
set_option linter.unusedVariables false
set_option linter.unusedSimpArgs false
set_option linter.unusedSectionVars false
namespace Go.AM
open Go Go.Proofs
noncomputable def r31 (call : CallF) (fuel base : Nat) (x0 : Value) (m : M) : Res2 :=
  (kc (call base 54 [x0] m) (fun v9_1 m => (k1 (mbin E .neq 70 v9_1 (.slice none 0 0)) fun v11_2 => (kb v11_2 (kc (call base 50 [(.int .i64 1), (.int .i64 2)] m) (fun v13_3 m => (kc (call base 55 [v9_1, (.func (.func 56) #[v13_3] #[])] m) (fun v15_4 m => (kc (call base 55 [v15_4, (.func (.func 57) #[] #[])] m) (fun v16_5 m => (some (.ret (.tuple #[(.slice none 0 0), v16_5]), m))) (fun v m => some (.pan v, m)))) (fun v m => some (.pan v, m)))) (fun v m => some (.pan v, m))) (kc (call base 58 [x0] m) (fun v18_6 m => (k2 (xalloc E.P m 110) fun v5_7 m => (ks (xstore E.P base m 110 v5_7 v18_6) fun m => (k1 (xload E.P m 110 v5_7) fun v20_8 => (k1 (mnil x0) fun v23_9 => (k1 (mfieldAddr E.P 93 v23_9 0) fun v24_10 => (k1 (mfieldAddr E.P 44 v24_10 2) fun v25_11 => (k1 (xload E.P m 24 v25_11) fun v26_12 => (k1 (mfieldAddr E.P 110 v5_7 0) fun v27_13 => (k1 (xload E.P m 3 v27_13) fun v28_14 => (kc (kB m (call m.length 60 [x0, v26_12, v28_14] m)) (fun v29_15 m => (kc (kB m (call m.length 59 [v20_8, v29_15] m)) (fun v30_16 m => (k1 (mextract 0 v30_16) fun v31_17 => (k1 (mextract 1 v30_16) fun v32_18 => (k1 (mbin E .eql 55 v31_17 (.slice none 0 0)) fun v34_19 => (kb v34_19 (k1 (xload E.P m 110 v5_7) fun v36_20 => (kc (call base 62 [v36_20, v32_18] m) (fun v38_21 m => (kc (call base 61 [x0, v38_21] m) (fun v39_22 m => (kc (call base 55 [v39_22, (.func (.func 57) #[] #[])] m) (fun v40_23 m => (some (.ret (.tuple #[(.slice none 0 0), v40_23]), m))) (fun v m => some (.pan v, m)))) (fun v m => some (.pan v, m)))) (fun v m => some (.pan v, m)))) (k1 (mnil x0) fun v44_24 => (k1 (mfieldAddr E.P 93 v44_24 0) fun v45_25 => (k1 (mfieldAddr E.P 44 v45_25 0) fun v46_26 => (k1 (xload E.P m 3 v46_26) fun v47_27 => (k1 (mslice E.P m 55 v31_17 (some v47_27) none none) fun v48_28 => (kc (call base 63 [x0, v48_28] m) (fun v49_29 m => (some (.ret (.tuple #[v49_29, (.slice none 0 0)]), m))) (fun v m => some (.pan v, m))))))))))))) (fun _ _ => none))) (fun _ _ => none)))))))))))) (fun v m => some (.pan v, m)))))) (fun v m => some (.pan v, m)))
def keep31 : Keep := { region := fun i => ([[0], [0, 4], [0, 4, 11], [2, 3], [0, 5], [0, 5, 6, 7], [0, 5, 6, 7, 34], [2, 3], [2, 3]] : List (List Nat))[i]?, exit := fun i => ([] : List (List Nat))[i]?, ret := some [2, 3] }
noncomputable def lp31 (call : CallF) (fuel base : Nat) : Lp := lpsel []
noncomputable def c31 : Code := Tryz.f31.body.getD .skip
theorem r31_eq (call : CallF) (fuel base : Nat) (x0 : Value) (m : M) : kbody E call keep31 (lp31 call fuel base) base Tryz.f31 [x0] m = r31 call fuel base x0 m := by
  kernel_rfl
noncomputable def rf31 : RF := fun call fuel base args m => match args with
  | [x0] => r31 call fuel base x0 m
  | _ => none
theorem r31_lk (call : CallF) (fuel base : Nat) : LoopsOk E call (lp31 call fuel base) fuel base 0 c31 = (And True (And (And True (And True (And (And True True) True))) (And True (And True (And (And True (And (And True True) True)) (And True True)))))) := by kernel_rfl
theorem r31_fn : E.P.funcs[31]? = some Tryz.f31 := by kernel_rfl
theorem r31_body : Tryz.f31.body = some c31 := by kernel_rfl
theorem rf31_ok : RFok E 31 rf31 := by
  show RFok' E 31 rf31
  refine ⟨Tryz.f31, r31_fn, fun call fuel base args m r _ h => ?_⟩
  unfold rf31 at h
  split at h
  · rw [← r31_eq] at h
    exact kbody_sound (c := c31) r31_body (Eq.mpr (r31_lk call fuel base) (And.intro trivial (And.intro (And.intro trivial (And.intro trivial (And.intro (And.intro trivial trivial) trivial))) (And.intro trivial (And.intro trivial (And.intro (And.intro trivial (And.intro (And.intro trivial trivial) trivial)) (And.intro trivial trivial))))))) h
  · simp at h
end Go.AM
namespace Go.AM
open Go Go.Proofs
noncomputable def r32_L0 (call : CallF) (fuel base : Nat) (kx0 : Value → Value → M → Res2) (n : Nat) : Value → Value → Value → Value → Value → M → Res2 :=
  Nat.rec (motive := fun _ => Value → Value → Value → Value → Value → M → Res2) (fun _ _ _ _ _ _ => none)
    (fun _ ih x2 x3 x12 x13 x14 m =>
      (k1 (mbin E .lss 3 x14 x13) fun v15_8 => (kb v15_8 (k1 (mindexAddr E.P 70 x12 x14) fun v17_9 => (k1 (xload E.P m 96 v17_9) fun v18_10 => (k2 (xalloc E.P m 96) fun v5_11 m => (ks (xstore E.P base m 96 v5_11 v18_10) fun m => (k1 (mfieldAddr E.P 26 x3 0) fun v19_12 => (k1 (xload E.P m 24 v19_12) fun v20_13 => (k1 (xload E.P m 96 v5_11) fun v22_14 => (k1 (mfieldAddr E.P 26 x3 1) fun v23_15 => (k1 (xload E.P m 3 v23_15) fun v24_16 => (kc (kB m (call m.length 65 [v22_14, v24_16] m)) (fun v25_17 m => (k1 (mindexAddr E.P 24 v20_13 x14) fun v26_18 => (ks (xstore E.P base m 3 v26_18 v25_17) fun m => (k1 (mbin E .add 3 x14 (.int .i64 1)) fun v27_19 => (ih x2 x3 x12 x13 v27_19 m))))) (fun _ _ => none))))))))))) (kx0 x2 x3 m)))) n
noncomputable def r32 (call : CallF) (fuel base : Nat) (x0 : Value) (m : M) : Res2 :=
  (k2 (xalloc E.P m 26) fun v2_1 m => (k2 (vcall E.P base m .len [70] [x0]) fun v7_2 m => (k2 (xmakeSlice E.P m 24 v7_2 v7_2) fun v8_3 m => (kc (kB m (call m.length 64 [x0] m)) (fun v10_4 m => (k1 (mbuild E.P 26 [(0, v8_3), (1, v10_4)]) fun v11_5 => (k2 (xalloc E.P m 26) fun v3_6 m => (ks (xstore E.P base m 26 v3_6 v11_5) fun m => (k2 (vcall E.P base m .len [70] [x0]) fun v13_7 m => (r32_L0 call fuel base (fun y2_20 y3_21 m => (k1 (xload E.P m 26 y3_21) fun v28_22 => (ks (xstore E.P base m 26 y2_20 v28_22) fun m => (k0 (mload E.P m 26 y2_20) fun r_23 => (fVal r_23 fun v => some (.ret v, m)))))) fuel v2_1 v3_6 x0 v13_7 (.int .i64 0) m)))))) (fun _ _ => none)))))
def keep32 : Keep := { region := fun i => ([[0, 2], [0, 2, 3], [2, 3, 12, 13, 14], [2, 3, 12, 13, 14, 15], [2, 3, 4, 5, 12, 13, 14], [2, 3, 12, 13, 14], [2, 3, 12, 13, 14], [2]] : List (List Nat))[i]?, exit := fun i => ([[2, 3], [2, 3, 12, 13, 14]] : List (List Nat))[i]?, ret := some [2] }
noncomputable def r32_L0_R (call : CallF) (fuel base n : Nat) (vs : List Value) (m : M) (K : KT) : Res2 := match vs with
  | [x2, x3, x12, x13, x14] => r32_L0 call fuel base (fun y2 y3 m => K (.exit 0) { n := 29, l := [(2, y2), (3, y3)] } m) n x2 x3 x12 x13 x14 m
  | _ => none
noncomputable def lp32 (call : CallF) (fuel base : Nat) : Lp := lpsel [(0, fun T m K => kslots 29 [2, 3, 12, 13, 14] T fun vs => r32_L0_R call fuel base fuel vs m K)]
noncomputable def c32 : Code := Tryz.f32.body.getD .skip
theorem r32_L0_lk (call : CallF) (fuel base : Nat) : LoopsOk E call (lp32 call fuel base) fuel base 0 (loopB (blockB (seqR (seqL (seqR (seqR c32)))))) = (And True (And (And True True) (And (And True True) True))) := by kernel_rfl
theorem r32_L0_ok (call : CallF) (fuel base : Nat) : LpOk E call (lp32 call fuel base) fuel base 0 (loopB (blockB (seqR (seqL (seqR (seqR c32)))))) := by
  refine loop_ok (kp := keep32) (hb := Eq.mpr (r32_L0_lk call fuel base) (And.intro trivial (And.intro (And.intro trivial trivial) (And.intro (And.intro trivial trivial) trivial)))) 29 [2, 3, 12, 13, 14] (fun n vs m K => r32_L0_R call fuel base n vs m K) ?_ ?_ (fun _ _ _ => rfl)
  · intro vs m K
    unfold r32_L0_R
    split <;> rfl
  · intro n vs m K hl
    match vs, hl with
    | [x2, x3, x12, x13, x14], _ => show _ = _; kernel_rfl
theorem r32_eq (call : CallF) (fuel base : Nat) (x0 : Value) (m : M) : kbody E call keep32 (lp32 call fuel base) base Tryz.f32 [x0] m = r32 call fuel base x0 m := by
  kernel_rfl
noncomputable def rf32 : RF := fun call fuel base args m => match args with
  | [x0] => r32 call fuel base x0 m
  | _ => none
theorem r32_lk (call : CallF) (fuel base : Nat) : LoopsOk E call (lp32 call fuel base) fuel base 0 c32 = (And True (And True (And (And True (LpOk E call (lp32 call fuel base) fuel base 0 (loopB (blockB (seqR (seqL (seqR (seqR c32)))))))) (And True True)))) := by kernel_rfl
theorem r32_fn : E.P.funcs[32]? = some Tryz.f32 := by kernel_rfl
theorem r32_body : Tryz.f32.body = some c32 := by kernel_rfl
theorem rf32_ok : RFok E 32 rf32 := by
  show RFok' E 32 rf32
  refine ⟨Tryz.f32, r32_fn, fun call fuel base args m r _ h => ?_⟩
  unfold rf32 at h
  split at h
  · rw [← r32_eq] at h
    exact kbody_sound (c := c32) r32_body (Eq.mpr (r32_lk call fuel base) (And.intro trivial (And.intro trivial (And.intro (And.intro trivial (r32_L0_ok call fuel base)) (And.intro trivial trivial))))) h
  · simp at h
end Go.AM
namespace Go.AM
open Go Go.Proofs
noncomputable def r33_L2 (call : CallF) (fuel base : Nat) (kr : Value → Value → M → Res2) (kx2 : Value → Value → Value → Value → Value → M → Res2) (n : Nat) : Value → Value → Value → Value → Value → Value → Value → Value → Value → M → Res2 :=
  Nat.rec (motive := fun _ => Value → Value → Value → Value → Value → Value → Value → Value → Value → M → Res2) (fun _ _ _ _ _ _ _ _ _ _ => none)
    (fun _ ih x0 x4 x5 x6 x20 x21 x22 x35 x36 m =>
      (k1 (mbin E .lss 3 x36 x35) fun v37_19 => (kb v37_19 (k1 (mindex E.P 9 x6 x36) fun v41_20 => (k1 (mbin E .neq 5 v41_20 (.int .u8 35)) fun v42_21 => (kb v42_21 (k1 (mindex E.P 9 x6 x36) fun v46_22 => (k1 (mbin E .neq 5 v46_22 (.int .u8 46)) fun v47_23 => (kb v47_23 (kr (.slice none 0 0) (.bool false) m) (k1 (mindex E.P 9 x6 x36) fun v51_24 => (k1 (mbin E .eql 5 v51_24 (.int .u8 35)) fun v52_25 => (kb v52_25 (k1 (mbuild E.P 68 [(0, x36), (1, x5)]) fun v56_26 => (k2 (xbuildSlice E.P m 33 1 [(0, v56_26)]) fun v57_27 m => (k2 (vcall E.P base m .append [33, 33] [x4, v57_27]) fun v58_28 m => (k1 (mbin E .add 3 x36 (.int .i64 1)) fun v59_29 => (ih x0 v58_28 x5 x6 x20 x21 x22 x35 v59_29 m))))) (k1 (mbin E .add 3 x36 (.int .i64 1)) fun v59_30 => (ih x0 x4 x5 x6 x20 x21 x22 x35 v59_30 m)))))))) (k1 (mindex E.P 9 x6 x36) fun v51_31 => (k1 (mbin E .eql 5 v51_31 (.int .u8 35)) fun v52_32 => (kb v52_32 (k1 (mbuild E.P 68 [(0, x36), (1, x5)]) fun v56_33 => (k2 (xbuildSlice E.P m 33 1 [(0, v56_33)]) fun v57_34 m => (k2 (vcall E.P base m .append [33, 33] [x4, v57_34]) fun v58_35 m => (k1 (mbin E .add 3 x36 (.int .i64 1)) fun v59_36 => (ih x0 v58_35 x5 x6 x20 x21 x22 x35 v59_36 m))))) (k1 (mbin E .add 3 x36 (.int .i64 1)) fun v59_37 => (ih x0 x4 x5 x6 x20 x21 x22 x35 v59_37 m)))))))) (kx2 x0 x4 x20 x21 x22 m)))) n
noncomputable def r33_L0 (call : CallF) (fuel base : Nat) (kr : Value → Value → M → Res2) (kx0 : Value → M → Res2) (n : Nat) : Value → Value → Value → Value → Value → M → Res2 :=
  Nat.rec (motive := fun _ => Value → Value → Value → Value → Value → M → Res2) (fun _ _ _ _ _ _ => none)
    (fun _ ih x0 x4 x20 x21 x22 m =>
      (k1 (mbin E .lss 3 x22 x21) fun v23_10 => (kb v23_10 (k1 (mindexAddr E.P 22 x20 x22) fun v25_11 => (k1 (xload E.P m 9 v25_11) fun v26_12 => (k2 (vcall E.P base m .len [9] [v26_12]) fun v28_13 m => (k1 (mindexAddr E.P 22 x0 (.int .i64 0)) fun v30_14 => (k1 (xload E.P m 9 v30_14) fun v31_15 => (k2 (vcall E.P base m .len [9] [v31_15]) fun v32_16 m => (k1 (mbin E .neq 3 v28_13 v32_16) fun v33_17 => (kb v33_17 (kr (.slice none 0 0) (.bool false) m) (k2 (vcall E.P base m .len [9] [v26_12]) fun v35_18 m => (r33_L2 call fuel base (fun y2_38 y3_39 m => (kr y2_38 y3_39 m)) (fun y0_40 y4_41 y20_42 y21_43 y22_44 m => (k1 (mbin E .add 3 y22_44 (.int .i64 1)) fun v60_45 => (ih y0_40 y4_41 y20_42 y21_43 v60_45 m))) fuel x0 x4 x22 v26_12 x20 x21 x22 v35_18 (.int .i64 0) m)))))))))) (kx0 x4 m)))) n
noncomputable def r33 (call : CallF) (fuel base : Nat) (x0 : Value) (m : M) : Res2 :=
  (k2 (vcall E.P base m .len [22] [x0]) fun v9_1 m => (kc (call base 66 [v9_1] m) (fun v10_2 m => (k1 (mun .not v10_2) fun v11_3 => (kb v11_3 (some (.ret (.tuple #[(.slice none 0 0), (.bool false)]), m)) (k1 (mindexAddr E.P 22 x0 (.int .i64 0)) fun v14_4 => (k1 (xload E.P m 9 v14_4) fun v15_5 => (k2 (vcall E.P base m .len [9] [v15_5]) fun v16_6 m => (kc (call base 66 [v16_6] m) (fun v17_7 m => (k1 (mun .not v17_7) fun v18_8 => (kb v18_8 (some (.ret (.tuple #[(.slice none 0 0), (.bool false)]), m)) (k2 (vcall E.P base m .len [22] [x0]) fun v21_9 m => (r33_L0 call fuel base (fun y2_46 y3_47 m => (some (.ret (.tuple #[y2_46, y3_47]), m))) (fun y4_48 m => (k2 (vcall E.P base m .len [33] [y4_48]) fun v63_49 m => (k1 (mbin E .gtr 3 v63_49 (.int .i64 0)) fun v64_50 => (some (.ret (.tuple #[y4_48, v64_50]), m))))) fuel x0 (.slice none 0 0) x0 v21_9 (.int .i64 0) m))))) (fun v m => some (.pan v, m))))))))) (fun v m => some (.pan v, m))))
def keep33 : Keep := { region := fun i => ([[0], [0, 19], [2, 3], [0, 4], [0, 4, 20, 21, 22], [0, 4, 20, 21, 22, 23], [0, 4, 5, 6, 20, 21, 22], [0, 4, 5, 6, 20, 21, 22, 33], [2, 3], [0, 4, 5, 6, 20, 21, 22, 35, 36], [0, 4, 5, 6, 20, 21, 22, 35, 36, 37], [0, 4, 5, 6, 7, 20, 21, 22, 35, 36], [0, 4, 5, 6, 7, 20, 21, 22, 35, 36, 48], [2, 3], [0, 4, 5, 6, 7, 20, 21, 22, 35, 36, 52], [0, 4, 5, 6, 20, 21, 22, 35, 36], [0, 4, 5, 6, 20, 21, 22, 35, 36], [0, 4, 20, 21, 22], [2, 3]] : List (List Nat))[i]?, exit := fun i => ([[4], [0, 4, 20, 21, 22], [0, 4, 20, 21, 22], [0, 4, 5, 6, 20, 21, 22, 35, 36]] : List (List Nat))[i]?, ret := some [2, 3] }
noncomputable def r33_L2_R (call : CallF) (fuel base n : Nat) (vs : List Value) (m : M) (K : KT) : Res2 := match vs with
  | [x0, x4, x5, x6, x20, x21, x22, x35, x36] => r33_L2 call fuel base (fun y2 y3 m => K .ret { n := 65, l := [(2, y2), (3, y3)] } m) (fun y0 y4 y20 y21 y22 m => K (.exit 2) { n := 65, l := [(0, y0), (4, y4), (20, y20), (21, y21), (22, y22)] } m) n x0 x4 x5 x6 x20 x21 x22 x35 x36 m
  | _ => none
noncomputable def r33_L0_R (call : CallF) (fuel base n : Nat) (vs : List Value) (m : M) (K : KT) : Res2 := match vs with
  | [x0, x4, x20, x21, x22] => r33_L0 call fuel base (fun y2 y3 m => K .ret { n := 65, l := [(2, y2), (3, y3)] } m) (fun y4 m => K (.exit 0) { n := 65, l := [(4, y4)] } m) n x0 x4 x20 x21 x22 m
  | _ => none
noncomputable def lp33 (call : CallF) (fuel base : Nat) : Lp := lpsel [(2, fun T m K => kslots 65 [0, 4, 5, 6, 20, 21, 22, 35, 36] T fun vs => r33_L2_R call fuel base fuel vs m K), (0, fun T m K => kslots 65 [0, 4, 20, 21, 22] T fun vs => r33_L0_R call fuel base fuel vs m K)]
noncomputable def c33 : Code := Tryz.f33.body.getD .skip
theorem r33_L2_lk (call : CallF) (fuel base : Nat) : LoopsOk E call (lp33 call fuel base) fuel base 2 (loopB (blockB (seqR (seqR (seqR (blockB (seqL (seqR (seqR (loopB (blockB (seqR (seqL (seqR (seqR (seqR c33)))))))))))))))) = (And True (And (And True True) (And (And True (And (And True (And (And True True) True)) (And True (And True True)))) True))) := by kernel_rfl
theorem r33_L2_ok (call : CallF) (fuel base : Nat) : LpOk E call (lp33 call fuel base) fuel base 2 (loopB (blockB (seqR (seqR (seqR (blockB (seqL (seqR (seqR (loopB (blockB (seqR (seqL (seqR (seqR (seqR c33)))))))))))))))) := by
  refine loop_ok (kp := keep33) (hb := Eq.mpr (r33_L2_lk call fuel base) (And.intro trivial (And.intro (And.intro trivial trivial) (And.intro (And.intro trivial (And.intro (And.intro trivial (And.intro (And.intro trivial trivial) trivial)) (And.intro trivial (And.intro trivial trivial)))) trivial)))) 65 [0, 4, 5, 6, 20, 21, 22, 35, 36] (fun n vs m K => r33_L2_R call fuel base n vs m K) ?_ ?_ (fun _ _ _ => rfl)
  · intro vs m K
    unfold r33_L2_R
    split <;> rfl
  · intro n vs m K hl
    match vs, hl with
    | [x0, x4, x5, x6, x20, x21, x22, x35, x36], _ => show _ = _; kernel_rfl
theorem r33_L0_lk (call : CallF) (fuel base : Nat) : LoopsOk E call (lp33 call fuel base) fuel base 0 (loopB (blockB (seqR (seqL (seqR (seqR (seqR c33))))))) = (And True (And (And True True) (And (And True (And (And True (And (And True True) True)) (And True (LpOk E call (lp33 call fuel base) fuel base 2 (loopB (blockB (seqR (seqR (seqR (blockB (seqL (seqR (seqR (loopB (blockB (seqR (seqL (seqR (seqR (seqR c33)))))))))))))))))))) True))) := by kernel_rfl
theorem r33_L0_ok (call : CallF) (fuel base : Nat) : LpOk E call (lp33 call fuel base) fuel base 0 (loopB (blockB (seqR (seqL (seqR (seqR (seqR c33))))))) := by
  refine loop_ok (kp := keep33) (hb := Eq.mpr (r33_L0_lk call fuel base) (And.intro trivial (And.intro (And.intro trivial trivial) (And.intro (And.intro trivial (And.intro (And.intro trivial (And.intro (And.intro trivial trivial) trivial)) (And.intro trivial (r33_L2_ok call fuel base)))) trivial)))) 65 [0, 4, 20, 21, 22] (fun n vs m K => r33_L0_R call fuel base n vs m K) ?_ ?_ (fun _ _ _ => rfl)
  · intro vs m K
    unfold r33_L0_R
    split <;> rfl
  · intro n vs m K hl
    match vs, hl with
    | [x0, x4, x20, x21, x22], _ => show _ = _; kernel_rfl
theorem r33_eq (call : CallF) (fuel base : Nat) (x0 : Value) (m : M) : kbody E call keep33 (lp33 call fuel base) base Tryz.f33 [x0] m = r33 call fuel base x0 m := by
  kernel_rfl
noncomputable def rf33 : RF := fun call fuel base args m => match args with
  | [x0] => r33 call fuel base x0 m
  | _ => none
theorem r33_lk (call : CallF) (fuel base : Nat) : LoopsOk E call (lp33 call fuel base) fuel base 0 c33 = (And True (And (And True (And (And True True) True)) (And True (And (And True (LpOk E call (lp33 call fuel base) fuel base 0 (loopB (blockB (seqR (seqL (seqR (seqR (seqR c33))))))))) (And True True))))) := by kernel_rfl
theorem r33_fn : E.P.funcs[33]? = some Tryz.f33 := by kernel_rfl
theorem r33_body : Tryz.f33.body = some c33 := by kernel_rfl
theorem rf33_ok : RFok E 33 rf33 := by
  show RFok' E 33 rf33
  refine ⟨Tryz.f33, r33_fn, fun call fuel base args m r _ h => ?_⟩
  unfold rf33 at h
  split at h
  · rw [← r33_eq] at h
    exact kbody_sound (c := c33) r33_body (Eq.mpr (r33_lk call fuel base) (And.intro trivial (And.intro (And.intro trivial (And.intro (And.intro trivial trivial) trivial)) (And.intro trivial (And.intro (And.intro trivial (r33_L0_ok call fuel base)) (And.intro trivial trivial)))))) h
  · simp at h
end Go.AM
namespace Go.AM
open Go Go.Proofs
noncomputable def r34_L0 (call : CallF) (fuel base : Nat) (kp : Value → M → Res2) (kr : Value → M → Res2) (kx0 : M → Res2) (n : Nat) : Value → Value → Value → Value → M → Res2 :=
  Nat.rec (motive := fun _ => Value → Value → Value → Value → M → Res2) (fun _ _ _ _ _ => none)
    (fun _ ih x0 x14 x15 x16 m =>
      (k1 (mbin E .lss 3 x16 x15) fun v17_6 => (kb v17_6 (k1 (mindexAddr E.P 23 x14 x16) fun v19_7 => (k1 (xload E.P m 34 v19_7) fun v20_8 => (k2 (xalloc E.P m 34) fun v4_9 m => (ks (xstore E.P base m 34 v4_9 v20_8) fun m => (k1 (xload E.P m 34 v4_9) fun v22_10 => (kc (call base 28 [v22_10] m) (fun v23_11 m => (k1 (mun .not v23_11) fun v24_12 => (kb v24_12 (kr (.bool false) m) (k1 (mslice E.P m 23 x0 none (some x16) none) fun v28_13 => (kc (call base 69 [v28_13, (.func (.func 67) #[] #[v4_9])] m) (fun v30_14 m => (kb v30_14 (kr (.bool false) m) (k1 (mbin E .add 3 x16 (.int .i64 1)) fun v32_15 => (ih x0 x14 x15 v32_15 m)))) (fun v m => kp v m)))))) (fun v m => kp v m))))))) (kx0 m)))) n
noncomputable def r34 (call : CallF) (fuel base : Nat) (x0 : Value) (m : M) : Res2 :=
  (k2 (vcall E.P base m .len [23] [x0]) fun v7_1 m => (k1 (mbin E .lss 3 v7_1 (.int .i64 1)) fun v8_2 => (kb v8_2 (fVal (.bool false) fun v => some (.ret v, m)) (k2 (vcall E.P base m .len [23] [x0]) fun v11_3 m => (k1 (mbin E .gtr 3 v11_3 (.int .i64 6)) fun v12_4 => (kb v12_4 (fVal (.bool false) fun v => some (.ret v, m)) (k2 (vcall E.P base m .len [23] [x0]) fun v15_5 m => (r34_L0 call fuel base (fun v m => some (.pan v, m)) (fun y2_16 m => (fVal y2_16 fun v => some (.ret v, m))) (fun m => (fVal (.bool true) fun v => some (.ret v, m))) fuel x0 x0 v15_5 (.int .i64 0) m))))))))
def keep34 : Keep := { region := fun i => ([[0], [0, 13], [2], [0, 14, 15, 16], [0, 14, 15, 16, 17], [0, 3, 4, 14, 15, 16], [0, 3, 4, 5, 14, 15, 16], [0, 14, 15, 16, 31], [2], [0, 14, 15, 16], [2]] : List (List Nat))[i]?, exit := fun i => ([[], [0, 14, 15, 16]] : List (List Nat))[i]?, ret := some [2] }
noncomputable def r34_L0_R (call : CallF) (fuel base n : Nat) (vs : List Value) (m : M) (K : KT) : Res2 := match vs with
  | [x0, x14, x15, x16] => r34_L0 call fuel base (fun v m => K (.pan v) { n := 33, l := [] } m) (fun y2 m => K .ret { n := 33, l := [(2, y2)] } m) (fun m => K (.exit 0) { n := 33, l := [] } m) n x0 x14 x15 x16 m
  | _ => none
noncomputable def lp34 (call : CallF) (fuel base : Nat) : Lp := lpsel [(0, fun T m K => kslots 33 [0, 14, 15, 16] T fun vs => r34_L0_R call fuel base fuel vs m K)]
noncomputable def c34 : Code := Tryz.f34.body.getD .skip
theorem r34_L0_lk (call : CallF) (fuel base : Nat) : LoopsOk E call (lp34 call fuel base) fuel base 0 (loopB (blockB (seqR (seqL (seqR (seqR c34)))))) = (And True (And (And True True) (And (And True (And True (And True (And (And True True) True)))) True))) := by kernel_rfl
theorem r34_L0_ok (call : CallF) (fuel base : Nat) : LpOk E call (lp34 call fuel base) fuel base 0 (loopB (blockB (seqR (seqL (seqR (seqR c34)))))) := by
  refine loop_ok (kp := keep34) (hb := Eq.mpr (r34_L0_lk call fuel base) (And.intro trivial (And.intro (And.intro trivial trivial) (And.intro (And.intro trivial (And.intro trivial (And.intro trivial (And.intro (And.intro trivial trivial) trivial)))) trivial)))) 33 [0, 14, 15, 16] (fun n vs m K => r34_L0_R call fuel base n vs m K) ?_ ?_ (fun _ _ _ => rfl)
  · intro vs m K
    unfold r34_L0_R
    split <;> rfl
  · intro n vs m K hl
    match vs, hl with
    | [x0, x14, x15, x16], _ => show _ = _; kernel_rfl
theorem r34_eq (call : CallF) (fuel base : Nat) (x0 : Value) (m : M) : kbody E call keep34 (lp34 call fuel base) base Tryz.f34 [x0] m = r34 call fuel base x0 m := by
  kernel_rfl
noncomputable def rf34 : RF := fun call fuel base args m => match args with
  | [x0] => r34 call fuel base x0 m
  | _ => none
theorem r34_lk (call : CallF) (fuel base : Nat) : LoopsOk E call (lp34 call fuel base) fuel base 0 c34 = (And True (And (And True (And (And True True) True)) (And (And True (LpOk E call (lp34 call fuel base) fuel base 0 (loopB (blockB (seqR (seqL (seqR (seqR c34)))))))) (And True True)))) := by kernel_rfl
theorem r34_fn : E.P.funcs[34]? = some Tryz.f34 := by kernel_rfl
theorem r34_body : Tryz.f34.body = some c34 := by kernel_rfl
theorem rf34_ok : RFok E 34 rf34 := by
  show RFok' E 34 rf34
  refine ⟨Tryz.f34, r34_fn, fun call fuel base args m r _ h => ?_⟩
  unfold rf34 at h
  split at h
  · rw [← r34_eq] at h
    exact kbody_sound (c := c34) r34_body (Eq.mpr (r34_lk call fuel base) (And.intro trivial (And.intro (And.intro trivial (And.intro (And.intro trivial trivial) trivial)) (And.intro (And.intro trivial (r34_L0_ok call fuel base)) (And.intro trivial trivial))))) h
  · simp at h
end Go.AM
namespace Go.AM
open Go Go.Proofs
noncomputable def r35_L0 (call : CallF) (fuel base : Nat) (kr : Value → M → Res2) (kx0 : Value → M → Res2) (n : Nat) : Value → Value → Value → Value → Value → Value → M → Res2 :=
  Nat.rec (motive := fun _ => Value → Value → Value → Value → Value → Value → M → Res2) (fun _ _ _ _ _ _ _ => none)
    (fun _ ih x3 x5 x7 x11 x12 x13 m =>
      (k1 (mbin E .lss 3 x13 x12) fun v14_4 => (kb v14_4 (k1 (mindexAddr E.P 34 x11 x13) fun v15_5 => (k1 (xload E.P m 68 v15_5) fun v16_6 => (k2 (xalloc E.P m 68) fun v9_7 m => (ks (xstore E.P base m 68 v9_7 v16_6) fun m => (k1 (mfieldAddr E.P 47 x3 1) fun v17_8 => (k1 (xload E.P m 33 v17_8) fun v18_9 => (k1 (xload E.P m 68 v9_7) fun v19_10 => (k1 (mfieldAddr E.P 68 x5 0) fun v20_11 => (k1 (xload E.P m 3 v20_11) fun v21_12 => (k1 (mfieldAddr E.P 68 x5 1) fun v22_13 => (k1 (xload E.P m 3 v22_13) fun v23_14 => (kc (kB m (call m.length 71 [v19_10, v21_12, v23_14] m)) (fun v24_15 m => (kc (kB m (call m.length 70 [v18_9, v24_15] m)) (fun v25_16 m => (k1 (mbin E .lss 3 v25_16 (.int .i64 0)) fun v27_17 => (kb v27_17 (kr (.slice none 0 0) m) (k2 (xbuildSlice E.P m 24 1 [(0, v25_16)]) fun v30_18 m => (k2 (vcall E.P base m .append [24, 24] [x7, v30_18]) fun v31_19 m => (k1 (mbin E .add 3 x13 (.int .i64 1)) fun v32_20 => (ih x3 x5 v31_19 x11 x12 v32_20 m))))))) (fun _ _ => none))) (fun _ _ => none))))))))))))) (kx0 x7 m)))) n
noncomputable def r35 (call : CallF) (fuel base : Nat) (x0 : Value) (x1 : Value) (x2 : Value) (m : M) : Res2 :=
  (k2 (xbox m x0) fun v3_1 m => (k2 (xbox m x2) fun v5_2 m => (k2 (vcall E.P base m .len [34] [x1]) fun v12_3 m => (r35_L0 call fuel base (fun y6_21 m => (fVal y6_21 fun v => some (.ret v, m))) (fun y7_22 m => (fVal y7_22 fun v => some (.ret v, m))) fuel v3_1 v5_2 (.slice none 0 0) x1 v12_3 (.int .i64 0) m))))
def keep35 : Keep := { region := fun i => ([[1, 3, 5], [1, 3, 5, 7], [3, 5, 7, 11, 12, 13], [3, 5, 7, 11, 12, 13, 14], [3, 5, 7, 9, 11, 12, 13], [3, 5, 7, 10, 11, 12, 13], [3, 5, 7, 10, 11, 12, 13, 27], [6], [3, 5, 7, 11, 12, 13], [3, 5, 7, 11, 12, 13], [6]] : List (List Nat))[i]?, exit := fun i => ([[7], [3, 5, 7, 11, 12, 13]] : List (List Nat))[i]?, ret := some [6] }
noncomputable def r35_L0_R (call : CallF) (fuel base n : Nat) (vs : List Value) (m : M) (K : KT) : Res2 := match vs with
  | [x3, x5, x7, x11, x12, x13] => r35_L0 call fuel base (fun y6 m => K .ret { n := 34, l := [(6, y6)] } m) (fun y7 m => K (.exit 0) { n := 34, l := [(7, y7)] } m) n x3 x5 x7 x11 x12 x13 m
  | _ => none
noncomputable def lp35 (call : CallF) (fuel base : Nat) : Lp := lpsel [(0, fun T m K => kslots 34 [3, 5, 7, 11, 12, 13] T fun vs => r35_L0_R call fuel base fuel vs m K)]
noncomputable def c35 : Code := Tryz.f35.body.getD .skip
theorem r35_L0_lk (call : CallF) (fuel base : Nat) : LoopsOk E call (lp35 call fuel base) fuel base 0 (loopB (blockB (seqR (seqL (seqR (seqR c35)))))) = (And True (And (And True True) (And (And True (And True (And (And True (And (And True True) True)) True))) True))) := by kernel_rfl
theorem r35_L0_ok (call : CallF) (fuel base : Nat) : LpOk E call (lp35 call fuel base) fuel base 0 (loopB (blockB (seqR (seqL (seqR (seqR c35)))))) := by
  refine loop_ok (kp := keep35) (hb := Eq.mpr (r35_L0_lk call fuel base) (And.intro trivial (And.intro (And.intro trivial trivial) (And.intro (And.intro trivial (And.intro trivial (And.intro (And.intro trivial (And.intro (And.intro trivial trivial) trivial)) trivial))) trivial)))) 34 [3, 5, 7, 11, 12, 13] (fun n vs m K => r35_L0_R call fuel base n vs m K) ?_ ?_ (fun _ _ _ => rfl)
  · intro vs m K
    unfold r35_L0_R
    split <;> rfl
  · intro n vs m K hl
    match vs, hl with
    | [x3, x5, x7, x11, x12, x13], _ => show _ = _; kernel_rfl
theorem r35_eq (call : CallF) (fuel base : Nat) (x0 : Value) (x1 : Value) (x2 : Value) (m : M) : kbody E call keep35 (lp35 call fuel base) base Tryz.f35 [x0, x1, x2] m = r35 call fuel base x0 x1 x2 m := by
  kernel_rfl
noncomputable def rf35 : RF := fun call fuel base args m => match args with
  | [x0, x1, x2] => r35 call fuel base x0 x1 x2 m
  | _ => none
theorem r35_lk (call : CallF) (fuel base : Nat) : LoopsOk E call (lp35 call fuel base) fuel base 0 c35 = (And True (And True (And (And True (LpOk E call (lp35 call fuel base) fuel base 0 (loopB (blockB (seqR (seqL (seqR (seqR c35)))))))) (And True True)))) := by kernel_rfl
theorem r35_fn : E.P.funcs[35]? = some Tryz.f35 := by kernel_rfl
theorem r35_body : Tryz.f35.body = some c35 := by kernel_rfl
theorem rf35_ok : RFok E 35 rf35 := by
  show RFok' E 35 rf35
  refine ⟨Tryz.f35, r35_fn, fun call fuel base args m r _ h => ?_⟩
  unfold rf35 at h
  split at h
  · rw [← r35_eq] at h
    exact kbody_sound (c := c35) r35_body (Eq.mpr (r35_lk call fuel base) (And.intro trivial (And.intro trivial (And.intro (And.intro trivial (r35_L0_ok call fuel base)) (And.intro trivial trivial))))) h
  · simp at h
end Go.AM
namespace Go.AM
open Go Go.Proofs
noncomputable def r36_L0 (call : CallF) (fuel base : Nat) (kp : Value → M → Res2) (kx0 : Value → M → Res2) (n : Nat) : Value → Value → Value → Value → Value → M → Res2 :=
  Nat.rec (motive := fun _ => Value → Value → Value → Value → Value → M → Res2) (fun _ _ _ _ _ _ => none)
    (fun _ ih x0 x5 x8 x9 x10 m =>
      (k1 (mbin E .lss 3 x10 x9) fun v11_2 => (kb v11_2 (k1 (mindexAddr E.P 24 x8 x10) fun v12_3 => (k1 (xload E.P m 3 v12_3) fun v13_4 => (k1 (miface E.P 50 x5) fun v15_5 => (k1 (mindexAddr E.P 55 x0 v13_4) fun v18_6 => (k1 (xload E.P m 50 v18_6) fun v19_7 => (kc (kv call base (imeth 0 v15_5) [v19_7] m) (fun v20_8 m => (k1 (mbin E .add 3 x10 (.int .i64 1)) fun v21_9 => (ih x0 v20_8 x8 x9 v21_9 m))) (fun v m => kp v m))))))) (kx0 x5 m)))) n
noncomputable def r36 (call : CallF) (fuel base : Nat) (x0 : Value) (x1 : Value) (m : M) : Res2 :=
  (k2 (vcall E.P base m .len [24] [x1]) fun v9_1 m => (r36_L0 call fuel base (fun v m => some (.pan v, m)) (fun y5_10 m => (fVal y5_10 fun v => some (.ret v, m))) fuel x0 (.int .i64 0) x1 v9_1 (.int .i64 0) m))
def keep36 : Keep := { region := fun i => ([[0, 1], [0, 1, 5], [0, 5, 8, 9, 10], [0, 5, 8, 9, 10, 11], [0, 5, 7, 8, 9, 10], [0, 5, 8, 9, 10], [0, 5, 8, 9, 10], [4]] : List (List Nat))[i]?, exit := fun i => ([[5], [0, 5, 8, 9, 10]] : List (List Nat))[i]?, ret := some [4] }
noncomputable def r36_L0_R (call : CallF) (fuel base n : Nat) (vs : List Value) (m : M) (K : KT) : Res2 := match vs with
  | [x0, x5, x8, x9, x10] => r36_L0 call fuel base (fun v m => K (.pan v) { n := 23, l := [] } m) (fun y5 m => K (.exit 0) { n := 23, l := [(5, y5)] } m) n x0 x5 x8 x9 x10 m
  | _ => none
noncomputable def lp36 (call : CallF) (fuel base : Nat) : Lp := lpsel [(0, fun T m K => kslots 23 [0, 5, 8, 9, 10] T fun vs => r36_L0_R call fuel base fuel vs m K)]
noncomputable def c36 : Code := Tryz.f36.body.getD .skip
theorem r36_L0_lk (call : CallF) (fuel base : Nat) : LoopsOk E call (lp36 call fuel base) fuel base 0 (loopB (blockB (seqR (seqL (seqR (seqR c36)))))) = (And True (And (And True True) (And (And True True) True))) := by kernel_rfl
theorem r36_L0_ok (call : CallF) (fuel base : Nat) : LpOk E call (lp36 call fuel base) fuel base 0 (loopB (blockB (seqR (seqL (seqR (seqR c36)))))) := by
  refine loop_ok (kp := keep36) (hb := Eq.mpr (r36_L0_lk call fuel base) (And.intro trivial (And.intro (And.intro trivial trivial) (And.intro (And.intro trivial trivial) trivial)))) 23 [0, 5, 8, 9, 10] (fun n vs m K => r36_L0_R call fuel base n vs m K) ?_ ?_ (fun _ _ _ => rfl)
  · intro vs m K
    unfold r36_L0_R
    split <;> rfl
  · intro n vs m K hl
    match vs, hl with
    | [x0, x5, x8, x9, x10], _ => show _ = _; kernel_rfl
theorem r36_eq (call : CallF) (fuel base : Nat) (x0 : Value) (x1 : Value) (m : M) : kbody E call keep36 (lp36 call fuel base) base Tryz.f36 [x0, x1] m = r36 call fuel base x0 x1 m := by
  kernel_rfl
noncomputable def rf36 : RF := fun call fuel base args m => match args with
  | [x0, x1] => r36 call fuel base x0 x1 m
  | _ => none
theorem r36_lk (call : CallF) (fuel base : Nat) : LoopsOk E call (lp36 call fuel base) fuel base 0 c36 = (And True (And True (And (And True (LpOk E call (lp36 call fuel base) fuel base 0 (loopB (blockB (seqR (seqL (seqR (seqR c36)))))))) (And True True)))) := by kernel_rfl
theorem r36_fn : E.P.funcs[36]? = some Tryz.f36 := by kernel_rfl
theorem r36_body : Tryz.f36.body = some c36 := by kernel_rfl
theorem rf36_ok : RFok E 36 rf36 := by
  show RFok' E 36 rf36
  refine ⟨Tryz.f36, r36_fn, fun call fuel base args m r _ h => ?_⟩
  unfold rf36 at h
  split at h
  · rw [← r36_eq] at h
    exact kbody_sound (c := c36) r36_body (Eq.mpr (r36_lk call fuel base) (And.intro trivial (And.intro trivial (And.intro (And.intro trivial (r36_L0_ok call fuel base)) (And.intro trivial trivial))))) h
  · simp at h
end Go.AM
namespace Go.AM
open Go Go.Proofs
noncomputable def r37 (call : CallF) (fuel base : Nat) (x0 : Value) (m : M) : Res2 :=
  (kc (call base 72 [x0] m) (fun v4_1 m => (kb v4_1 (k2 (vcall E.P base m .len [22] [x0]) fun v7_2 m => (k1 (mbin E .leq 3 v7_2 (.int .i64 4)) fun v8_3 => (kb v8_3 (k1 (mindexAddr E.P 22 x0 (.int .i64 0)) fun v12_4 => (k1 (xload E.P m 9 v12_4) fun v13_5 => (k2 (vcall E.P base m .len [9] [v13_5]) fun v14_6 m => (k1 (mbin E .leq 3 v14_6 (.int .i64 4)) fun v15_7 => (kb v15_7 (kc (call base 21 [x0] m) (fun v19_8 m => (k2 (vcall E.P base m .len [33] [v19_8]) fun v20_9 m => (k1 (mbin E .gtr 3 v20_9 (.int .i64 0)) fun v21_10 => (fVal v21_10 fun v => some (.ret v, m))))) (fun v m => some (.pan v, m))) (fVal (.bool false) fun v => some (.ret v, m))))))) (fVal (.bool false) fun v => some (.ret v, m))))) (fVal (.bool false) fun v => some (.ret v, m)))) (fun v m => some (.pan v, m)))
def keep37 : Keep := { region := fun i => ([[0], [2]] : List (List Nat))[i]?, exit := fun i => ([] : List (List Nat))[i]?, ret := some [2] }
noncomputable def lp37 (call : CallF) (fuel base : Nat) : Lp := lpsel []
noncomputable def c37 : Code := Tryz.f37.body.getD .skip
theorem r37_eq (call : CallF) (fuel base : Nat) (x0 : Value) (m : M) : kbody E call keep37 (lp37 call fuel base) base Tryz.f37 [x0] m = r37 call fuel base x0 m := by
  kernel_rfl
noncomputable def rf37 : RF := fun call fuel base args m => match args with
  | [x0] => r37 call fuel base x0 m
  | _ => none
theorem r37_lk (call : CallF) (fuel base : Nat) : LoopsOk E call (lp37 call fuel base) fuel base 0 c37 = (And True (And True True)) := by kernel_rfl
theorem r37_fn : E.P.funcs[37]? = some Tryz.f37 := by kernel_rfl
theorem r37_body : Tryz.f37.body = some c37 := by kernel_rfl
theorem rf37_ok : RFok E 37 rf37 := by
  show RFok' E 37 rf37
  refine ⟨Tryz.f37, r37_fn, fun call fuel base args m r _ h => ?_⟩
  unfold rf37 at h
  split at h
  · rw [← r37_eq] at h
    exact kbody_sound (c := c37) r37_body (Eq.mpr (r37_lk call fuel base) (And.intro trivial (And.intro trivial trivial))) h
  · simp at h
end Go.AM
namespace Go.AM
open Go Go.Proofs
noncomputable def r38_L0 (call : CallF) (fuel base : Nat) (kr : Value → M → Res2) (kx0 : M → Res2) (n : Nat) : Value → Value → M → Res2 :=
  Nat.rec (motive := fun _ => Value → Value → M → Res2) (fun _ _ _ => none)
    (fun _ ih x0 x3 m =>
      (k2 (vcall E.P base m .len [34] [x0]) fun v21_9 m => (k1 (mbin E .lss 3 x3 v21_9) fun v22_10 => (kb v22_10 (k1 (mindexAddr E.P 34 x0 x3) fun v27_11 => (k1 (mfieldAddr E.P 68 v27_11 0) fun v28_12 => (k1 (xload E.P m 3 v28_12) fun v29_13 => (k1 (mbin E .lss 3 v29_13 (.int .i64 (-4))) fun v30_14 => (kb v30_14 (kr (.bool false) m) (k1 (mindexAddr E.P 34 x0 x3) fun v34_15 => (k1 (mfieldAddr E.P 68 v34_15 0) fun v35_16 => (k1 (xload E.P m 3 v35_16) fun v36_17 => (k1 (mbin E .gtr 3 v36_17 (.int .i64 4)) fun v37_18 => (kb v37_18 (kr (.bool false) m) (k1 (mindexAddr E.P 34 x0 x3) fun v42_19 => (k1 (mfieldAddr E.P 68 v42_19 1) fun v43_20 => (k1 (xload E.P m 3 v43_20) fun v44_21 => (k1 (mbin E .lss 3 v44_21 (.int .i64 0)) fun v45_22 => (kb v45_22 (kr (.bool false) m) (k1 (mindexAddr E.P 34 x0 x3) fun v50_23 => (k1 (mfieldAddr E.P 68 v50_23 1) fun v51_24 => (k1 (xload E.P m 3 v51_24) fun v52_25 => (k1 (mbin E .gtr 3 v52_25 (.int .i64 4)) fun v53_26 => (kb v53_26 (kr (.bool false) m) (k1 (mbin E .gtr 3 x3 (.int .i64 0)) fun v57_27 => (kbu v57_27 (k1 (mbin E .sub 3 x3 (.int .i64 1)) fun v61_28 => (k1 (mindexAddr E.P 34 x0 v61_28) fun v62_29 => (k1 (xload E.P m 68 v62_29) fun v63_30 => (k1 (mindexAddr E.P 34 x0 x3) fun v66_31 => (k1 (xload E.P m 68 v66_31) fun v67_32 => (kc (kB m (call m.length 73 [v63_30, v67_32] m)) (fun v68_33 m => (k1 (mun .not v68_33) fun v69_34 => (kb v69_34 (kr (.bool false) m) (k1 (mbin E .add 3 x3 (.int .i64 1)) fun v24_35 => (ih x0 v24_35 m))))) (fun _ _ => none))))))) (k1 (mbin E .add 3 x3 (.int .i64 1)) fun v24_36 => (ih x0 v24_36 m)) (k0 (mpick undef undef (.bool false)) fun v70_37 => (kb v70_37 (kr (.bool false) m) (k1 (mbin E .add 3 x3 (.int .i64 1)) fun v24_38 => (ih x0 v24_38 m)))))))))))))))))))))))))) (kx0 m))))) n
noncomputable def r38 (call : CallF) (fuel base : Nat) (x0 : Value) (m : M) : Res2 :=
  (k2 (vcall E.P base m .len [34] [x0]) fun v5_1 m => (k1 (mbin E .lss 3 v5_1 (.int .i64 1)) fun v6_2 => (kb v6_2 (fVal (.bool false) fun v => some (.ret v, m)) (k2 (vcall E.P base m .len [34] [x0]) fun v9_3 m => (k1 (mbin E .gtr 3 v9_3 (.int .i64 5)) fun v10_4 => (kb v10_4 (fVal (.bool false) fun v => some (.ret v, m)) (k1 (mindexAddr E.P 34 x0 (.int .i64 0)) fun v14_5 => (k1 (xload E.P m 68 v14_5) fun v15_6 => (k1 (mbuild E.P 68 []) fun v16_7 => (k1 (mbin E .neq 68 v15_6 v16_7) fun v17_8 => (kb v17_8 (fVal (.bool false) fun v => some (.ret v, m)) (r38_L0 call fuel base (fun y2_39 m => (fVal y2_39 fun v => some (.ret v, m))) (fun m => (fVal (.bool true) fun v => some (.ret v, m))) fuel x0 (.int .i64 0) m))))))))))))
def keep38 : Keep := { region := fun i => ([[0], [0, 18], [2], [0, 3], [0, 3, 22], [0, 3], [0, 3, 71], [2], [2]] : List (List Nat))[i]?, exit := fun i => ([[], [0, 3]] : List (List Nat))[i]?, ret := some [2] }
noncomputable def r38_L0_R (call : CallF) (fuel base n : Nat) (vs : List Value) (m : M) (K : KT) : Res2 := match vs with
  | [x0, x3] => r38_L0 call fuel base (fun y2 m => K .ret { n := 72, l := [(2, y2)] } m) (fun m => K (.exit 0) { n := 72, l := [] } m) n x0 x3 m
  | _ => none
noncomputable def lp38 (call : CallF) (fuel base : Nat) : Lp := lpsel [(0, fun T m K => kslots 72 [0, 3] T fun vs => r38_L0_R call fuel base fuel vs m K)]
noncomputable def c38 : Code := Tryz.f38.body.getD .skip
theorem r38_L0_lk (call : CallF) (fuel base : Nat) : LoopsOk E call (lp38 call fuel base) fuel base 0 (loopB (blockB (seqR (seqL (seqR (seqR c38)))))) = (And (And True (And True True)) (And (And True (And (And True True) True)) True)) := by kernel_rfl
theorem r38_L0_ok (call : CallF) (fuel base : Nat) : LpOk E call (lp38 call fuel base) fuel base 0 (loopB (blockB (seqR (seqL (seqR (seqR c38)))))) := by
  refine loop_ok (kp := keep38) (hb := Eq.mpr (r38_L0_lk call fuel base) (And.intro (And.intro trivial (And.intro trivial trivial)) (And.intro (And.intro trivial (And.intro (And.intro trivial trivial) trivial)) trivial))) 72 [0, 3] (fun n vs m K => r38_L0_R call fuel base n vs m K) ?_ ?_ (fun _ _ _ => rfl)
  · intro vs m K
    unfold r38_L0_R
    split <;> rfl
  · intro n vs m K hl
    match vs, hl with
    | [x0, x3], _ => show _ = _; kernel_rfl
theorem r38_eq (call : CallF) (fuel base : Nat) (x0 : Value) (m : M) : kbody E call keep38 (lp38 call fuel base) base Tryz.f38 [x0] m = r38 call fuel base x0 m := by
  kernel_rfl
noncomputable def rf38 : RF := fun call fuel base args m => match args with
  | [x0] => r38 call fuel base x0 m
  | _ => none
theorem r38_lk (call : CallF) (fuel base : Nat) : LoopsOk E call (lp38 call fuel base) fuel base 0 c38 = (And True (And (And True (And (And True True) True)) (And (And True (LpOk E call (lp38 call fuel base) fuel base 0 (loopB (blockB (seqR (seqL (seqR (seqR c38)))))))) (And True True)))) := by kernel_rfl
theorem r38_fn : E.P.funcs[38]? = some Tryz.f38 := by kernel_rfl
theorem r38_body : Tryz.f38.body = some c38 := by kernel_rfl
theorem rf38_ok : RFok E 38 rf38 := by
  show RFok' E 38 rf38
  refine ⟨Tryz.f38, r38_fn, fun call fuel base args m r _ h => ?_⟩
  unfold rf38 at h
  split at h
  · rw [← r38_eq] at h
    exact kbody_sound (c := c38) r38_body (Eq.mpr (r38_lk call fuel base) (And.intro trivial (And.intro (And.intro trivial (And.intro (And.intro trivial trivial) trivial)) (And.intro (And.intro trivial (r38_L0_ok call fuel base)) (And.intro trivial trivial))))) h
  · simp at h
end Go.AM
namespace Go.AM
open Go Go.Proofs
noncomputable def r39_L0 (call : CallF) (fuel base : Nat) (kr : Value → M → Res2) (kx0 : M → Res2) (n : Nat) : Value → Value → Value → M → Res2 :=
  Nat.rec (motive := fun _ => Value → Value → Value → M → Res2) (fun _ _ _ _ => none)
    (fun _ ih x0 x1 x5 m =>
      (k2 (vcall E.P base m .len [34] [x0]) fun v13_4 m => (k1 (mbin E .lss 3 x5 v13_4) fun v14_5 => (kb v14_5 (k1 (mindexAddr E.P 34 x0 x5) fun v19_6 => (k1 (xload E.P m 68 v19_6) fun v20_7 => (k1 (mindexAddr E.P 34 x1 x5) fun v23_8 => (k1 (xload E.P m 68 v23_8) fun v24_9 => (k1 (mbin E .neq 68 v20_7 v24_9) fun v25_10 => (kb v25_10 (kr (.bool false) m) (k1 (mbin E .add 3 x5 (.int .i64 1)) fun v16_11 => (ih x0 x1 v16_11 m)))))))) (kx0 m))))) n
noncomputable def r39 (call : CallF) (fuel base : Nat) (x0 : Value) (x1 : Value) (m : M) : Res2 :=
  (k2 (vcall E.P base m .len [34] [x0]) fun v7_1 m => (k2 (vcall E.P base m .len [34] [x1]) fun v9_2 m => (k1 (mbin E .neq 3 v7_1 v9_2) fun v10_3 => (kb v10_3 (fVal (.bool false) fun v => some (.ret v, m)) (r39_L0 call fuel base (fun y4_12 m => (fVal y4_12 fun v => some (.ret v, m))) (fun m => (fVal (.bool true) fun v => some (.ret v, m))) fuel x0 x1 (.int .i64 0) m)))))
def keep39 : Keep := { region := fun i => ([[0, 1], [0, 1, 10], [4], [0, 1, 5], [0, 1, 5, 14], [0, 1, 5], [0, 1, 5, 25], [4], [4]] : List (List Nat))[i]?, exit := fun i => ([[], [0, 1, 5]] : List (List Nat))[i]?, ret := some [4] }
noncomputable def r39_L0_R (call : CallF) (fuel base n : Nat) (vs : List Value) (m : M) (K : KT) : Res2 := match vs with
  | [x0, x1, x5] => r39_L0 call fuel base (fun y4 m => K .ret { n := 26, l := [(4, y4)] } m) (fun m => K (.exit 0) { n := 26, l := [] } m) n x0 x1 x5 m
  | _ => none
noncomputable def lp39 (call : CallF) (fuel base : Nat) : Lp := lpsel [(0, fun T m K => kslots 26 [0, 1, 5] T fun vs => r39_L0_R call fuel base fuel vs m K)]
noncomputable def c39 : Code := Tryz.f39.body.getD .skip
theorem r39_L0_lk (call : CallF) (fuel base : Nat) : LoopsOk E call (lp39 call fuel base) fuel base 0 (loopB (blockB (seqR (seqL (seqR (seqR c39)))))) = (And (And True (And True True)) (And (And True (And (And True True) True)) True)) := by kernel_rfl
theorem r39_L0_ok (call : CallF) (fuel base : Nat) : LpOk E call (lp39 call fuel base) fuel base 0 (loopB (blockB (seqR (seqL (seqR (seqR c39)))))) := by
  refine loop_ok (kp := keep39) (hb := Eq.mpr (r39_L0_lk call fuel base) (And.intro (And.intro trivial (And.intro trivial trivial)) (And.intro (And.intro trivial (And.intro (And.intro trivial trivial) trivial)) trivial))) 26 [0, 1, 5] (fun n vs m K => r39_L0_R call fuel base n vs m K) ?_ ?_ (fun _ _ _ => rfl)
  · intro vs m K
    unfold r39_L0_R
    split <;> rfl
  · intro n vs m K hl
    match vs, hl with
    | [x0, x1, x5], _ => show _ = _; kernel_rfl
theorem r39_eq (call : CallF) (fuel base : Nat) (x0 : Value) (x1 : Value) (m : M) : kbody E call keep39 (lp39 call fuel base) base Tryz.f39 [x0, x1] m = r39 call fuel base x0 x1 m := by
  kernel_rfl
noncomputable def rf39 : RF := fun call fuel base args m => match args with
  | [x0, x1] => r39 call fuel base x0 x1 m
  | _ => none
theorem r39_lk (call : CallF) (fuel base : Nat) : LoopsOk E call (lp39 call fuel base) fuel base 0 c39 = (And True (And (And True (And (And True True) True)) (And (And True (LpOk E call (lp39 call fuel base) fuel base 0 (loopB (blockB (seqR (seqL (seqR (seqR c39)))))))) (And True True)))) := by kernel_rfl
theorem r39_fn : E.P.funcs[39]? = some Tryz.f39 := by kernel_rfl
theorem r39_body : Tryz.f39.body = some c39 := by kernel_rfl
theorem rf39_ok : RFok E 39 rf39 := by
  show RFok' E 39 rf39
  refine ⟨Tryz.f39, r39_fn, fun call fuel base args m r _ h => ?_⟩
  unfold rf39 at h
  split at h
  · rw [← r39_eq] at h
    exact kbody_sound (c := c39) r39_body (Eq.mpr (r39_lk call fuel base) (And.intro trivial (And.intro (And.intro trivial (And.intro (And.intro trivial trivial) trivial)) (And.intro (And.intro trivial (r39_L0_ok call fuel base)) (And.intro trivial trivial))))) h
  · simp at h
end Go.AM
namespace Go.AM
open Go Go.Proofs
noncomputable def r40 (call : CallF) (fuel base : Nat) (x0 : Value) (x1 : Value) (x2 : Value) (m : M) : Res2 :=
  (k1 (mbin E .geq 3 x2 (.int .i64 0)) fun v8_1 => (kb v8_1 (k2 (vcall E.P base m .len [22] [x0]) fun v12_2 m => (k1 (mbin E .lss 3 x2 v12_2) fun v13_3 => (kb v13_3 (k1 (mbin E .geq 3 x1 (.int .i64 0)) fun v17_4 => (kb v17_4 (k1 (mindexAddr E.P 22 x0 (.int .i64 0)) fun v22_5 => (k1 (xload E.P m 9 v22_5) fun v23_6 => (k2 (vcall E.P base m .len [9] [v23_6]) fun v24_7 m => (k1 (mbin E .lss 3 x1 v24_7) fun v25_8 => (kb v25_8 (k1 (mindexAddr E.P 22 x0 x2) fun v30_9 => (k1 (xload E.P m 9 v30_9) fun v31_10 => (k1 (mindex E.P 9 v31_10 x1) fun v33_11 => (k1 (mbin E .eql 5 v33_11 (.int .u8 35)) fun v34_12 => (fVal v34_12 fun v => some (.ret v, m)))))) (fVal (.bool false) fun v => some (.ret v, m))))))) (fVal (.bool false) fun v => some (.ret v, m)))) (fVal (.bool false) fun v => some (.ret v, m))))) (fVal (.bool false) fun v => some (.ret v, m))))
def keep40 : Keep := { region := fun i => ([[0, 1, 2], [6]] : List (List Nat))[i]?, exit := fun i => ([] : List (List Nat))[i]?, ret := some [6] }
noncomputable def lp40 (call : CallF) (fuel base : Nat) : Lp := lpsel []
noncomputable def c40 : Code := Tryz.f40.body.getD .skip
theorem r40_eq (call : CallF) (fuel base : Nat) (x0 : Value) (x1 : Value) (x2 : Value) (m : M) : kbody E call keep40 (lp40 call fuel base) base Tryz.f40 [x0, x1, x2] m = r40 call fuel base x0 x1 x2 m := by
  kernel_rfl
noncomputable def rf40 : RF := fun call fuel base args m => match args with
  | [x0, x1, x2] => r40 call fuel base x0 x1 x2 m
  | _ => none
theorem r40_lk (call : CallF) (fuel base : Nat) : LoopsOk E call (lp40 call fuel base) fuel base 0 c40 = (And True (And True True)) := by kernel_rfl
theorem r40_fn : E.P.funcs[40]? = some Tryz.f40 := by kernel_rfl
theorem r40_body : Tryz.f40.body = some c40 := by kernel_rfl
theorem rf40_ok : RFok E 40 rf40 := by
  show RFok' E 40 rf40
  refine ⟨Tryz.f40, r40_fn, fun call fuel base args m r _ h => ?_⟩
  unfold rf40 at h
  split at h
  · rw [← r40_eq] at h
    exact kbody_sound (c := c40) r40_body (Eq.mpr (r40_lk call fuel base) (And.intro trivial (And.intro trivial trivial))) h
  · simp at h
end Go.AM
namespace Go.AM
open Go Go.Proofs
noncomputable def r41 (call : CallF) (fuel base : Nat) (x0 : Value) (x1 : Value) (m : M) : Res2 :=
  (k2 (xbox m x0) fun v2_1 m => (k2 (xbox m x1) fun v3_2 m => (k1 (mfieldAddr E.P 68 v2_1 1) fun v5_3 => (k1 (xload E.P m 3 v5_3) fun v6_4 => (k1 (mfieldAddr E.P 68 v3_2 1) fun v7_5 => (k1 (xload E.P m 3 v7_5) fun v8_6 => (kc (kB m (call m.length 75 [v6_4, v8_6] m)) (fun v9_7 m => (k1 (mfieldAddr E.P 68 v2_1 0) fun v10_8 => (k1 (xload E.P m 3 v10_8) fun v11_9 => (k1 (mfieldAddr E.P 68 v3_2 0) fun v12_10 => (k1 (xload E.P m 3 v12_10) fun v13_11 => (kc (kB m (call m.length 75 [v11_9, v13_11] m)) (fun v14_12 m => (k2 (xbuildSlice E.P m 24 2 [(0, v9_7), (1, v14_12)]) fun v15_13 m => (kc (kB m (call m.length 74 [v15_13] m)) (fun v16_14 m => (fVal v16_14 fun v => some (.ret v, m))) (fun _ _ => none)))) (fun _ _ => none))))))) (fun _ _ => none))))))))
def keep41 : Keep := { region := fun i => ([[2, 3], [4]] : List (List Nat))[i]?, exit := fun i => ([] : List (List Nat))[i]?, ret := some [4] }
noncomputable def lp41 (call : CallF) (fuel base : Nat) : Lp := lpsel []
noncomputable def c41 : Code := Tryz.f41.body.getD .skip
theorem r41_eq (call : CallF) (fuel base : Nat) (x0 : Value) (x1 : Value) (m : M) : kbody E call keep41 (lp41 call fuel base) base Tryz.f41 [x0, x1] m = r41 call fuel base x0 x1 m := by
  kernel_rfl
noncomputable def rf41 : RF := fun call fuel base args m => match args with
  | [x0, x1] => r41 call fuel base x0 x1 m
  | _ => none
theorem r41_lk (call : CallF) (fuel base : Nat) : LoopsOk E call (lp41 call fuel base) fuel base 0 c41 = (And True (And True True)) := by kernel_rfl
theorem r41_fn : E.P.funcs[41]? = some Tryz.f41 := by kernel_rfl
theorem r41_body : Tryz.f41.body = some c41 := by kernel_rfl
theorem rf41_ok : RFok E 41 rf41 := by
  show RFok' E 41 rf41
  refine ⟨Tryz.f41, r41_fn, fun call fuel base args m r _ h => ?_⟩
  unfold rf41 at h
  split at h
  · rw [← r41_eq] at h
    exact kbody_sound (c := c41) r41_body (Eq.mpr (r41_lk call fuel base) (And.intro trivial (And.intro trivial trivial))) h
  · simp at h
end Go.AM
namespace Go.AM
open Go Go.Proofs
noncomputable def r42_L0 (call : CallF) (fuel base : Nat) (kp : Value → M → Res2) (kx0 : Value → M → Res2) (n : Nat) : Value → Value → Value → Value → Value → M → Res2 :=
  Nat.rec (motive := fun _ => Value → Value → Value → Value → Value → M → Res2) (fun _ _ _ _ _ _ => none)
    (fun _ ih x1 x5 x14 x15 x16 m =>
      (k1 (mbin E .lss 3 x16 x15) fun v17_4 => (kb v17_4 (k1 (mindexAddr E.P 34 x14 x16) fun v19_5 => (k1 (xload E.P m 68 v19_5) fun v20_6 => (k2 (xalloc E.P m 68) fun v7_7 m => (ks (xstore E.P base m 68 v7_7 v20_6) fun m => (k1 (xload E.P m 68 v7_7) fun v24_8 => (kc (kv call base x1 [v24_8] m) (fun v25_9 m => (k1 (mindexAddr E.P 34 x5 x16) fun v26_10 => (ks (xstore E.P base m 68 v26_10 v25_9) fun m => (k1 (mbin E .add 3 x16 (.int .i64 1)) fun v27_11 => (ih x1 x5 x14 x15 v27_11 m))))) (fun v m => kp v m))))))) (kx0 x5 m)))) n
noncomputable def r42_L2 (call : CallF) (fuel base : Nat) (kp : Value → M → Res2) (kx2 : Value → M → Res2) (n : Nat) : Value → Value → Value → Value → Value → M → Res2 :=
  Nat.rec (motive := fun _ => Value → Value → Value → Value → Value → M → Res2) (fun _ _ _ _ _ _ => none)
    (fun _ ih x5 x8 x33 x34 x35 m =>
      (k1 (mbin E .lss 3 x35 x34) fun v36_18 => (kb v36_18 (k1 (mindexAddr E.P 34 x33 x35) fun v38_19 => (k1 (xload E.P m 68 v38_19) fun v39_20 => (k2 (xalloc E.P m 68) fun v10_21 m => (ks (xstore E.P base m 68 v10_21 v39_20) fun m => (k1 (xload E.P m 68 v10_21) fun v42_22 => (k1 (mfieldAddr E.P 68 x8 0) fun v43_23 => (k1 (xload E.P m 3 v43_23) fun v44_24 => (k1 (mun .neg v44_24) fun v45_25 => (k1 (mfieldAddr E.P 68 x8 1) fun v46_26 => (k1 (xload E.P m 3 v46_26) fun v47_27 => (k1 (mun .neg v47_27) fun v48_28 => (kc (call base 71 [v42_22, v45_25, v48_28] m) (fun v49_29 m => (k1 (mindexAddr E.P 34 x5 x35) fun v50_30 => (ks (xstore E.P base m 68 v50_30 v49_29) fun m => (k1 (mbin E .add 3 x35 (.int .i64 1)) fun v51_31 => (ih x5 x8 x33 x34 v51_31 m))))) (fun v m => kp v m))))))))))))) (kx2 x5 m)))) n
noncomputable def r42 (call : CallF) (fuel base : Nat) (x0 : Value) (x1 : Value) (m : M) : Res2 :=
  (k2 (vcall E.P base m .len [34] [x0]) fun v12_1 m => (k2 (xmakeSlice E.P m 34 v12_1 v12_1) fun v13_2 m => (k2 (vcall E.P base m .len [34] [x0]) fun v15_3 m => (r42_L0 call fuel base (fun v m => some (.pan v, m)) (fun y5_12 m => (kc (call base 76 [y5_12, (.func (.func 41) #[] #[])] m) (fun v29_13 m => (k1 (mindexAddr E.P 34 y5_12 (.int .i64 0)) fun v31_14 => (k1 (xload E.P m 68 v31_14) fun v32_15 => (k2 (xalloc E.P m 68) fun v8_16 m => (ks (xstore E.P base m 68 v8_16 v32_15) fun m => (k2 (vcall E.P base m .len [34] [y5_12]) fun v34_17 m => (r42_L2 call fuel base (fun v m => some (.pan v, m)) (fun y5_32 m => (fVal y5_32 fun v => some (.ret v, m))) fuel y5_12 v8_16 y5_12 v34_17 (.int .i64 0) m))))))) (fun v m => some (.pan v, m)))) fuel x1 v13_2 x0 v15_3 (.int .i64 0) m))))
def keep42 : Keep := { region := fun i => ([[0, 1], [0, 1, 5], [1, 5, 14, 15, 16], [1, 5, 14, 15, 16, 17], [1, 5, 6, 7, 14, 15, 16], [1, 5, 14, 15, 16], [1, 5, 14, 15, 16], [5], [5, 8], [5, 8, 33, 34, 35], [5, 8, 33, 34, 35, 36], [5, 8, 9, 10, 33, 34, 35], [5, 8, 33, 34, 35], [5, 8, 33, 34, 35], [4]] : List (List Nat))[i]?, exit := fun i => ([[5], [1, 5, 14, 15, 16], [5], [5, 8, 33, 34, 35]] : List (List Nat))[i]?, ret := some [4] }
noncomputable def r42_L0_R (call : CallF) (fuel base n : Nat) (vs : List Value) (m : M) (K : KT) : Res2 := match vs with
  | [x1, x5, x14, x15, x16] => r42_L0 call fuel base (fun v m => K (.pan v) { n := 53, l := [] } m) (fun y5 m => K (.exit 0) { n := 53, l := [(5, y5)] } m) n x1 x5 x14 x15 x16 m
  | _ => none
noncomputable def r42_L2_R (call : CallF) (fuel base n : Nat) (vs : List Value) (m : M) (K : KT) : Res2 := match vs with
  | [x5, x8, x33, x34, x35] => r42_L2 call fuel base (fun v m => K (.pan v) { n := 53, l := [] } m) (fun y5 m => K (.exit 2) { n := 53, l := [(5, y5)] } m) n x5 x8 x33 x34 x35 m
  | _ => none
noncomputable def lp42 (call : CallF) (fuel base : Nat) : Lp := lpsel [(0, fun T m K => kslots 53 [1, 5, 14, 15, 16] T fun vs => r42_L0_R call fuel base fuel vs m K), (2, fun T m K => kslots 53 [5, 8, 33, 34, 35] T fun vs => r42_L2_R call fuel base fuel vs m K)]
noncomputable def c42 : Code := Tryz.f42.body.getD .skip
theorem r42_L0_lk (call : CallF) (fuel base : Nat) : LoopsOk E call (lp42 call fuel base) fuel base 0 (loopB (blockB (seqR (seqL (seqR (seqR c42)))))) = (And True (And (And True True) (And (And True True) True))) := by kernel_rfl
theorem r42_L0_ok (call : CallF) (fuel base : Nat) : LpOk E call (lp42 call fuel base) fuel base 0 (loopB (blockB (seqR (seqL (seqR (seqR c42)))))) := by
  refine loop_ok (kp := keep42) (hb := Eq.mpr (r42_L0_lk call fuel base) (And.intro trivial (And.intro (And.intro trivial trivial) (And.intro (And.intro trivial trivial) trivial)))) 53 [1, 5, 14, 15, 16] (fun n vs m K => r42_L0_R call fuel base n vs m K) ?_ ?_ (fun _ _ _ => rfl)
  · intro vs m K
    unfold r42_L0_R
    split <;> rfl
  · intro n vs m K hl
    match vs, hl with
    | [x1, x5, x14, x15, x16], _ => show _ = _; kernel_rfl
theorem r42_L2_lk (call : CallF) (fuel base : Nat) : LoopsOk E call (lp42 call fuel base) fuel base 2 (loopB (blockB (seqR (seqL (seqR (seqR (seqR (seqR (seqR c42))))))))) = (And True (And (And True True) (And (And True True) True))) := by kernel_rfl
theorem r42_L2_ok (call : CallF) (fuel base : Nat) : LpOk E call (lp42 call fuel base) fuel base 2 (loopB (blockB (seqR (seqL (seqR (seqR (seqR (seqR (seqR c42))))))))) := by
  refine loop_ok (kp := keep42) (hb := Eq.mpr (r42_L2_lk call fuel base) (And.intro trivial (And.intro (And.intro trivial trivial) (And.intro (And.intro trivial trivial) trivial)))) 53 [5, 8, 33, 34, 35] (fun n vs m K => r42_L2_R call fuel base n vs m K) ?_ ?_ (fun _ _ _ => rfl)
  · intro vs m K
    unfold r42_L2_R
    split <;> rfl
  · intro n vs m K hl
    match vs, hl with
    | [x5, x8, x33, x34, x35], _ => show _ = _; kernel_rfl
theorem r42_eq (call : CallF) (fuel base : Nat) (x0 : Value) (x1 : Value) (m : M) : kbody E call keep42 (lp42 call fuel base) base Tryz.f42 [x0, x1] m = r42 call fuel base x0 x1 m := by
  kernel_rfl
noncomputable def rf42 : RF := fun call fuel base args m => match args with
  | [x0, x1] => r42 call fuel base x0 x1 m
  | _ => none
theorem r42_lk (call : CallF) (fuel base : Nat) : LoopsOk E call (lp42 call fuel base) fuel base 0 c42 = (And True (And True (And (And True (LpOk E call (lp42 call fuel base) fuel base 0 (loopB (blockB (seqR (seqL (seqR (seqR c42)))))))) (And True (And True (And (And True (LpOk E call (lp42 call fuel base) fuel base 2 (loopB (blockB (seqR (seqL (seqR (seqR (seqR (seqR (seqR c42))))))))))) (And True True))))))) := by kernel_rfl
theorem r42_fn : E.P.funcs[42]? = some Tryz.f42 := by kernel_rfl
theorem r42_body : Tryz.f42.body = some c42 := by kernel_rfl
theorem rf42_ok : RFok E 42 rf42 := by
  show RFok' E 42 rf42
  refine ⟨Tryz.f42, r42_fn, fun call fuel base args m r _ h => ?_⟩
  unfold rf42 at h
  split at h
  · rw [← r42_eq] at h
    exact kbody_sound (c := c42) r42_body (Eq.mpr (r42_lk call fuel base) (And.intro trivial (And.intro trivial (And.intro (And.intro trivial (r42_L0_ok call fuel base)) (And.intro trivial (And.intro trivial (And.intro (And.intro trivial (r42_L2_ok call fuel base)) (And.intro trivial trivial)))))))) h
  · simp at h
end Go.AM
namespace Go.AM
open Go Go.Proofs
noncomputable def r43 (call : CallF) (fuel base : Nat) (x0 : Value) (m : M) : Res2 :=
  (k2 (xbox m x0) fun v1_1 m => (k2 (xalloc E.P m 68) fun v2_2 m => (k1 (mfieldAddr E.P 68 v1_1 0) fun v3_3 => (k1 (xload E.P m 3 v3_3) fun v4_4 => (k1 (mun .neg v4_4) fun v5_5 => (k1 (mfieldAddr E.P 68 v1_1 1) fun v6_6 => (k1 (xload E.P m 3 v6_6) fun v7_7 => (k1 (mbuild E.P 68 [(0, v5_5), (1, v7_7)]) fun v8_8 => (ks (xstore E.P base m 68 v2_2 v8_8) fun m => (k0 (mload E.P m 68 v2_2) fun r_9 => (fVal r_9 fun v => some (.ret v, m))))))))))))
def keep43 : Keep := { region := fun i => ([[1, 2], [2]] : List (List Nat))[i]?, exit := fun i => ([] : List (List Nat))[i]?, ret := some [2] }
noncomputable def lp43 (call : CallF) (fuel base : Nat) : Lp := lpsel []
noncomputable def c43 : Code := Tryz.f43.body.getD .skip
theorem r43_eq (call : CallF) (fuel base : Nat) (x0 : Value) (m : M) : kbody E call keep43 (lp43 call fuel base) base Tryz.f43 [x0] m = r43 call fuel base x0 m := by
  kernel_rfl
noncomputable def rf43 : RF := fun call fuel base args m => match args with
  | [x0] => r43 call fuel base x0 m
  | _ => none
theorem r43_lk (call : CallF) (fuel base : Nat) : LoopsOk E call (lp43 call fuel base) fuel base 0 c43 = (And True (And True True)) := by kernel_rfl
theorem r43_fn : E.P.funcs[43]? = some Tryz.f43 := by kernel_rfl
theorem r43_body : Tryz.f43.body = some c43 := by kernel_rfl
theorem rf43_ok : RFok E 43 rf43 := by
  show RFok' E 43 rf43
  refine ⟨Tryz.f43, r43_fn, fun call fuel base args m r _ h => ?_⟩
  unfold rf43 at h
  split at h
  · rw [← r43_eq] at h
    exact kbody_sound (c := c43) r43_body (Eq.mpr (r43_lk call fuel base) (And.intro trivial (And.intro trivial trivial))) h
  · simp at h
end Go.AM
namespace Go.AM
open Go Go.Proofs
noncomputable def r44 (call : CallF) (fuel base : Nat) (x0 : Value) (m : M) : Res2 :=
  (k2 (xbox m x0) fun v1_1 m => (k2 (xalloc E.P m 68) fun v2_2 m => (k1 (mfieldAddr E.P 68 v1_1 1) fun v3_3 => (k1 (xload E.P m 3 v3_3) fun v4_4 => (k1 (mun .neg v4_4) fun v5_5 => (k1 (mfieldAddr E.P 68 v1_1 0) fun v6_6 => (k1 (xload E.P m 3 v6_6) fun v7_7 => (k1 (mbuild E.P 68 [(0, v5_5), (1, v7_7)]) fun v8_8 => (ks (xstore E.P base m 68 v2_2 v8_8) fun m => (k0 (mload E.P m 68 v2_2) fun r_9 => (fVal r_9 fun v => some (.ret v, m))))))))))))
def keep44 : Keep := { region := fun i => ([[1, 2], [2]] : List (List Nat))[i]?, exit := fun i => ([] : List (List Nat))[i]?, ret := some [2] }
noncomputable def lp44 (call : CallF) (fuel base : Nat) : Lp := lpsel []
noncomputable def c44 : Code := Tryz.f44.body.getD .skip
theorem r44_eq (call : CallF) (fuel base : Nat) (x0 : Value) (m : M) : kbody E call keep44 (lp44 call fuel base) base Tryz.f44 [x0] m = r44 call fuel base x0 m := by
  kernel_rfl
noncomputable def rf44 : RF := fun call fuel base args m => match args with
  | [x0] => r44 call fuel base x0 m
  | _ => none
theorem r44_lk (call : CallF) (fuel base : Nat) : LoopsOk E call (lp44 call fuel base) fuel base 0 c44 = (And True (And True True)) := by kernel_rfl
theorem r44_fn : E.P.funcs[44]? = some Tryz.f44 := by kernel_rfl
theorem r44_body : Tryz.f44.body = some c44 := by kernel_rfl
theorem rf44_ok : RFok E 44 rf44 := by
  show RFok' E 44 rf44
  refine ⟨Tryz.f44, r44_fn, fun call fuel base args m r _ h => ?_⟩
  unfold rf44 at h
  split at h
  · rw [← r44_eq] at h
    exact kbody_sound (c := c44) r44_body (Eq.mpr (r44_lk call fuel base) (And.intro trivial (And.intro trivial trivial))) h
  · simp at h
end Go.AM
namespace Go.AM
open Go Go.Proofs
noncomputable def r45 (call : CallF) (fuel base : Nat) (x0 : Value) (x1 : Value) (m : M) : Res2 :=
  (k2 (vcall E.P base m .len [23] [x0]) fun v6_1 m => (k1 (mconvert E.P 3 131 v6_1) fun v10_2 => (kc (call base 78 [v10_2] m) (fun v11_3 m => (kc (call base 77 [x0, (.int .i64 0), v6_1, v11_3, x1] m) (fun v13_4 m => (some (.ret (.tuple #[]), m))) (fun v m => some (.pan v, m)))) (fun v m => some (.pan v, m)))))
def keep45 : Keep := { region := fun i => ([[0, 1, 4], []] : List (List Nat))[i]?, exit := fun i => ([] : List (List Nat))[i]?, ret := some [] }
noncomputable def lp45 (call : CallF) (fuel base : Nat) : Lp := lpsel []
noncomputable def c45 : Code := Tryz.f45.body.getD .skip
theorem r45_eq (call : CallF) (fuel base : Nat) (x0 : Value) (x1 : Value) (m : M) : kbody E call keep45 (lp45 call fuel base) base Tryz.f45 [x0, x1] m = r45 call fuel base x0 x1 m := by
  kernel_rfl
noncomputable def rf45 : RF := fun call fuel base args m => match args with
  | [x0, x1] => r45 call fuel base x0 x1 m
  | _ => none
theorem r45_lk (call : CallF) (fuel base : Nat) : LoopsOk E call (lp45 call fuel base) fuel base 0 c45 = (And True True) := by kernel_rfl
theorem r45_fn : E.P.funcs[45]? = some Tryz.f45 := by kernel_rfl
theorem r45_body : Tryz.f45.body = some c45 := by kernel_rfl
theorem rf45_ok : RFok E 45 rf45 := by
  show RFok' E 45 rf45
  refine ⟨Tryz.f45, r45_fn, fun call fuel base args m r _ h => ?_⟩
  unfold rf45 at h
  split at h
  · rw [← r45_eq] at h
    exact kbody_sound (c := c45) r45_body (Eq.mpr (r45_lk call fuel base) (And.intro trivial trivial)) h
  · simp at h
end Go.AM
namespace Go.AM
open Go Go.Proofs
noncomputable def r46 (call : CallF) (fuel base : Nat) (x0 : Value) (x1 : Value) (m : M) : Res2 :=
  (kc (call base 79 [x0, x1, (.func (.func 41) #[] #[])] m) (fun v7_1 m => (fVal v7_1 fun v => some (.ret v, m))) (fun v m => some (.pan v, m)))
def keep46 : Keep := { region := fun i => ([[0, 1], [4]] : List (List Nat))[i]?, exit := fun i => ([] : List (List Nat))[i]?, ret := some [4] }
noncomputable def lp46 (call : CallF) (fuel base : Nat) : Lp := lpsel []
noncomputable def c46 : Code := Tryz.f46.body.getD .skip
theorem r46_eq (call : CallF) (fuel base : Nat) (x0 : Value) (x1 : Value) (m : M) : kbody E call keep46 (lp46 call fuel base) base Tryz.f46 [x0, x1] m = r46 call fuel base x0 x1 m := by
  kernel_rfl
noncomputable def rf46 : RF := fun call fuel base args m => match args with
  | [x0, x1] => r46 call fuel base x0 x1 m
  | _ => none
theorem r46_lk (call : CallF) (fuel base : Nat) : LoopsOk E call (lp46 call fuel base) fuel base 0 c46 = (And True (And True True)) := by kernel_rfl
theorem r46_fn : E.P.funcs[46]? = some Tryz.f46 := by kernel_rfl
theorem r46_body : Tryz.f46.body = some c46 := by kernel_rfl
theorem rf46_ok : RFok E 46 rf46 := by
  show RFok' E 46 rf46
  refine ⟨Tryz.f46, r46_fn, fun call fuel base args m r _ h => ?_⟩
  unfold rf46 at h
  split at h
  · rw [← r46_eq] at h
    exact kbody_sound (c := c46) r46_body (Eq.mpr (r46_lk call fuel base) (And.intro trivial (And.intro trivial trivial))) h
  · simp at h
end Go.AM
namespace Go.AM
open Go Go.Proofs
noncomputable def r47_L2 (call : CallF) (fuel base : Nat) (kx2 : Value → Value → M → Res2) (n : Nat) : Value → Value → Value → Value → Value → M → Res2 :=
  Nat.rec (motive := fun _ => Value → Value → Value → Value → Value → M → Res2) (fun _ _ _ _ _ _ => none)
    (fun _ ih x0 x1 x5 x6 x7 m =>
      (k2 (vcall E.P base m .len [23] [x6]) fun v34_12 m => (k1 (mbin E .lss 3 x7 v34_12) fun v35_13 => (kb v35_13 (k1 (mindexAddr E.P 23 x6 x7) fun v41_14 => (k1 (xload E.P m 34 v41_14) fun v42_15 => (k1 (mbin E .sub 3 x7 (.int .i64 1)) fun v45_16 => (k1 (mindexAddr E.P 23 x6 v45_16) fun v46_17 => (k1 (xload E.P m 34 v46_17) fun v47_18 => (kc (kB m (kv call m.length x1 [v42_15, v47_18] m)) (fun v48_19 m => (k1 (mun .not v48_19) fun v49_20 => (kb v49_20 (k1 (mindexAddr E.P 23 x6 x7) fun v54_21 => (k1 (xload E.P m 34 v54_21) fun v55_22 => (k1 (mindexAddr E.P 23 x0 x5) fun v56_23 => (ks (xstore E.P base m 34 v56_23 v55_22) fun m => (k1 (mbin E .add 3 x5 (.int .i64 1)) fun v58_24 => (k1 (mbin E .add 3 x7 (.int .i64 1)) fun v37_25 => (ih x0 x1 v58_24 x6 v37_25 m))))))) (k1 (mbin E .add 3 x7 (.int .i64 1)) fun v37_26 => (ih x0 x1 x5 x6 v37_26 m))))) (fun _ _ => none))))))) (kx2 x0 x5 m))))) n
noncomputable def r47_L0 (call : CallF) (fuel base : Nat) (kr : Value → M → Res2) (kx0 : Value → M → Res2) (n : Nat) : Value → Value → Value → M → Res2 :=
  Nat.rec (motive := fun _ => Value → Value → Value → M → Res2) (fun _ _ _ _ => none)
    (fun _ ih x0 x1 x5 m =>
      (k2 (vcall E.P base m .len [23] [x0]) fun v14_3 m => (k1 (mbin E .lss 3 x5 v14_3) fun v15_4 => (kb v15_4 (k1 (mindexAddr E.P 23 x0 x5) fun v21_5 => (k1 (xload E.P m 34 v21_5) fun v22_6 => (k1 (mbin E .sub 3 x5 (.int .i64 1)) fun v25_7 => (k1 (mindexAddr E.P 23 x0 v25_7) fun v26_8 => (k1 (xload E.P m 34 v26_8) fun v27_9 => (kc (kB m (kv call m.length x1 [v22_6, v27_9] m)) (fun v28_10 m => (kb v28_10 (k1 (mslice E.P m 23 x0 (some x5) none none) fun v31_11 => (r47_L2 call fuel base (fun y0_27 y5_28 m => (k1 (mslice E.P m 23 y0_27 (some y5_28) none none) fun v61_29 => (k2 (vcall E.P base m .clear [23] [v61_29]) fun vNone_30 m => (k1 (mslice E.P m 23 y0_27 none (some y5_28) none) fun v64_31 => (kr v64_31 m))))) fuel x0 x1 x5 v31_11 (.int .i64 1) m)) (k1 (mbin E .add 3 x5 (.int .i64 1)) fun v17_32 => (ih x0 x1 v17_32 m)))) (fun _ _ => none))))))) (kx0 x0 m))))) n
noncomputable def r47 (call : CallF) (fuel base : Nat) (x0 : Value) (x1 : Value) (m : M) : Res2 :=
  (k2 (vcall E.P base m .len [23] [x0]) fun v9_1 m => (k1 (mbin E .lss 3 v9_1 (.int .i64 2)) fun v10_2 => (kb v10_2 (fVal x0 fun v => some (.ret v, m)) (r47_L0 call fuel base (fun y4_33 m => (fVal y4_33 fun v => some (.ret v, m))) (fun y0_34 m => (fVal y0_34 fun v => some (.ret v, m))) fuel x0 x1 (.int .i64 1) m))))
def keep47 : Keep := { region := fun i => ([[0, 1], [0, 1, 10], [4], [0, 1, 5], [0, 1, 5, 15], [0, 1, 5], [0, 1, 5, 28], [0, 1, 5, 6], [0, 1, 5, 6, 7], [0, 1, 5, 6, 7, 35], [0, 1, 5, 6, 7], [0, 1, 5, 6, 7, 49], [0, 1, 5, 6, 7], [0, 1, 5, 6, 7], [0, 5], [4], [4]] : List (List Nat))[i]?, exit := fun i => ([[0], [0, 1, 5], [0, 5], [0, 1, 5, 6, 7]] : List (List Nat))[i]?, ret := some [4] }
noncomputable def r47_L2_R (call : CallF) (fuel base n : Nat) (vs : List Value) (m : M) (K : KT) : Res2 := match vs with
  | [x0, x1, x5, x6, x7] => r47_L2 call fuel base (fun y0 y5 m => K (.exit 2) { n := 66, l := [(0, y0), (5, y5)] } m) n x0 x1 x5 x6 x7 m
  | _ => none
noncomputable def r47_L0_R (call : CallF) (fuel base n : Nat) (vs : List Value) (m : M) (K : KT) : Res2 := match vs with
  | [x0, x1, x5] => r47_L0 call fuel base (fun y4 m => K .ret { n := 66, l := [(4, y4)] } m) (fun y0 m => K (.exit 0) { n := 66, l := [(0, y0)] } m) n x0 x1 x5 m
  | _ => none
noncomputable def lp47 (call : CallF) (fuel base : Nat) : Lp := lpsel [(2, fun T m K => kslots 66 [0, 1, 5, 6, 7] T fun vs => r47_L2_R call fuel base fuel vs m K), (0, fun T m K => kslots 66 [0, 1, 5] T fun vs => r47_L0_R call fuel base fuel vs m K)]
noncomputable def c47 : Code := Tryz.f47.body.getD .skip
theorem r47_L2_lk (call : CallF) (fuel base : Nat) : LoopsOk E call (lp47 call fuel base) fuel base 2 (loopB (blockB (seqR (seqL (seqR (condT (seqR (blockB (seqL (seqR (loopB (blockB (seqR (seqL (seqR (seqR c47)))))))))))))))) = (And (And True (And True True)) (And (And True (And (And True True) True)) True)) := by kernel_rfl
theorem r47_L2_ok (call : CallF) (fuel base : Nat) : LpOk E call (lp47 call fuel base) fuel base 2 (loopB (blockB (seqR (seqL (seqR (condT (seqR (blockB (seqL (seqR (loopB (blockB (seqR (seqL (seqR (seqR c47)))))))))))))))) := by
  refine loop_ok (kp := keep47) (hb := Eq.mpr (r47_L2_lk call fuel base) (And.intro (And.intro trivial (And.intro trivial trivial)) (And.intro (And.intro trivial (And.intro (And.intro trivial trivial) trivial)) trivial))) 66 [0, 1, 5, 6, 7] (fun n vs m K => r47_L2_R call fuel base n vs m K) ?_ ?_ (fun _ _ _ => rfl)
  · intro vs m K
    unfold r47_L2_R
    split <;> rfl
  · intro n vs m K hl
    match vs, hl with
    | [x0, x1, x5, x6, x7], _ => show _ = _; kernel_rfl
theorem r47_L0_lk (call : CallF) (fuel base : Nat) : LoopsOk E call (lp47 call fuel base) fuel base 0 (loopB (blockB (seqR (seqL (seqR (seqR c47)))))) = (And (And True (And True True)) (And (And True (And (And True (And (And True (LpOk E call (lp47 call fuel base) fuel base 2 (loopB (blockB (seqR (seqL (seqR (condT (seqR (blockB (seqL (seqR (loopB (blockB (seqR (seqL (seqR (seqR c47)))))))))))))))))) (And True (And True True)))) True)) True)) := by kernel_rfl
theorem r47_L0_ok (call : CallF) (fuel base : Nat) : LpOk E call (lp47 call fuel base) fuel base 0 (loopB (blockB (seqR (seqL (seqR (seqR c47)))))) := by
  refine loop_ok (kp := keep47) (hb := Eq.mpr (r47_L0_lk call fuel base) (And.intro (And.intro trivial (And.intro trivial trivial)) (And.intro (And.intro trivial (And.intro (And.intro trivial (And.intro (And.intro trivial (r47_L2_ok call fuel base)) (And.intro trivial (And.intro trivial trivial)))) trivial)) trivial))) 66 [0, 1, 5] (fun n vs m K => r47_L0_R call fuel base n vs m K) ?_ ?_ (fun _ _ _ => rfl)
  · intro vs m K
    unfold r47_L0_R
    split <;> rfl
  · intro n vs m K hl
    match vs, hl with
    | [x0, x1, x5], _ => show _ = _; kernel_rfl
theorem r47_eq (call : CallF) (fuel base : Nat) (x0 : Value) (x1 : Value) (m : M) : kbody E call keep47 (lp47 call fuel base) base Tryz.f47 [x0, x1] m = r47 call fuel base x0 x1 m := by
  kernel_rfl
noncomputable def rf47 : RF := fun call fuel base args m => match args with
  | [x0, x1] => r47 call fuel base x0 x1 m
  | _ => none
theorem r47_lk (call : CallF) (fuel base : Nat) : LoopsOk E call (lp47 call fuel base) fuel base 0 c47 = (And True (And (And True (And (And True True) True)) (And (And True (LpOk E call (lp47 call fuel base) fuel base 0 (loopB (blockB (seqR (seqL (seqR (seqR c47)))))))) (And True True)))) := by kernel_rfl
theorem r47_fn : E.P.funcs[47]? = some Tryz.f47 := by kernel_rfl
theorem r47_body : Tryz.f47.body = some c47 := by kernel_rfl
theorem rf47_ok : RFok E 47 rf47 := by
  show RFok' E 47 rf47
  refine ⟨Tryz.f47, r47_fn, fun call fuel base args m r _ h => ?_⟩
  unfold rf47 at h
  split at h
  · rw [← r47_eq] at h
    exact kbody_sound (c := c47) r47_body (Eq.mpr (r47_lk call fuel base) (And.intro trivial (And.intro (And.intro trivial (And.intro (And.intro trivial trivial) trivial)) (And.intro (And.intro trivial (r47_L0_ok call fuel base)) (And.intro trivial trivial))))) h
  · simp at h
end Go.AM
namespace Go.AM
open Go Go.Proofs
noncomputable def r48 (call : CallF) (fuel base : Nat) (x0 : Value) (x1 : Value) (m : M) : Res2 :=
  (kc (call base 46 [x0, x1] m) (fun v7_1 m => (k1 (mbin E .eql 3 v7_1 (.int .i64 0)) fun v8_2 => (fVal v8_2 fun v => some (.ret v, m)))) (fun v m => some (.pan v, m)))
def keep48 : Keep := { region := fun i => ([[0, 1], [4]] : List (List Nat))[i]?, exit := fun i => ([] : List (List Nat))[i]?, ret := some [4] }
noncomputable def lp48 (call : CallF) (fuel base : Nat) : Lp := lpsel []
noncomputable def c48 : Code := Tryz.f48.body.getD .skip
theorem r48_eq (call : CallF) (fuel base : Nat) (x0 : Value) (x1 : Value) (m : M) : kbody E call keep48 (lp48 call fuel base) base Tryz.f48 [x0, x1] m = r48 call fuel base x0 x1 m := by
  kernel_rfl
noncomputable def rf48 : RF := fun call fuel base args m => match args with
  | [x0, x1] => r48 call fuel base x0 x1 m
  | _ => none
theorem r48_lk (call : CallF) (fuel base : Nat) : LoopsOk E call (lp48 call fuel base) fuel base 0 c48 = (And True (And True True)) := by kernel_rfl
theorem r48_fn : E.P.funcs[48]? = some Tryz.f48 := by kernel_rfl
theorem r48_body : Tryz.f48.body = some c48 := by kernel_rfl
theorem rf48_ok : RFok E 48 rf48 := by
  show RFok' E 48 rf48
  refine ⟨Tryz.f48, r48_fn, fun call fuel base args m r _ h => ?_⟩
  unfold rf48 at h
  split at h
  · rw [← r48_eq] at h
    exact kbody_sound (c := c48) r48_body (Eq.mpr (r48_lk call fuel base) (And.intro trivial (And.intro trivial trivial))) h
  · simp at h
end Go.AM
namespace Go.AM
open Go Go.Proofs
noncomputable def r49 (call : CallF) (fuel base : Nat) (x0 : Value) (x1 : Value) (x2 : Value) (m : M) : Res2 :=
  (k2 (xbox m x2) fun v5_1 m => (k2 (xmakeSlice E.P m 70 x0 x0) fun v9_2 m => (k1 (xload E.P m 96 v5_1) fun v12_3 => (k1 (mindexAddr E.P 70 v9_2 x1) fun v13_4 => (ks (xstore E.P base m 96 v13_4 v12_3) fun m => (fVal v9_2 fun v => some (.ret v, m)))))))
def keep49 : Keep := { region := fun i => ([[0, 1, 5], [1, 5, 7], [7], [6]] : List (List Nat))[i]?, exit := fun i => ([] : List (List Nat))[i]?, ret := some [6] }
noncomputable def lp49 (call : CallF) (fuel base : Nat) : Lp := lpsel []
noncomputable def c49 : Code := Tryz.f49.body.getD .skip
theorem r49_eq (call : CallF) (fuel base : Nat) (x0 : Value) (x1 : Value) (x2 : Value) (m : M) : kbody E call keep49 (lp49 call fuel base) base Tryz.f49 [x0, x1, x2] m = r49 call fuel base x0 x1 x2 m := by
  kernel_rfl
noncomputable def rf49 : RF := fun call fuel base args m => match args with
  | [x0, x1, x2] => r49 call fuel base x0 x1 x2 m
  | _ => none
theorem r49_lk (call : CallF) (fuel base : Nat) : LoopsOk E call (lp49 call fuel base) fuel base 0 c49 = (And True (And True (And True (And True True)))) := by kernel_rfl
theorem r49_fn : E.P.funcs[49]? = some Tryz.f49 := by kernel_rfl
theorem r49_body : Tryz.f49.body = some c49 := by kernel_rfl
theorem rf49_ok : RFok E 49 rf49 := by
  show RFok' E 49 rf49
  refine ⟨Tryz.f49, r49_fn, fun call fuel base args m r _ h => ?_⟩
  unfold rf49 at h
  split at h
  · rw [← r49_eq] at h
    exact kbody_sound (c := c49) r49_body (Eq.mpr (r49_lk call fuel base) (And.intro trivial (And.intro trivial (And.intro trivial (And.intro trivial trivial))))) h
  · simp at h
end Go.AM
namespace Go.AM
open Go Go.Proofs
noncomputable def r50 (call : CallF) (fuel base : Nat) (x0 : Value) (x1 : Value) (m : M) : Res2 :=
  (k2 (xalloc E.P m 96) fun v4_1 m => (k1 (mbin E .lss 3 x1 (.int .i64 0)) fun v7_2 => (kb v7_2 (k1 (mun .neg x0) fun v9_3 => (k1 (mun .neg x1) fun v11_4 => (k1 (mun .neg v9_3) fun v14_5 => (k2 (vcall E.P base m .max [3, 3] [v9_3, v14_5]) fun v15_6 m => (kc (call base 80 [v15_6, v11_4] m) (fun v17_7 m => (k1 (mbin E .quo 3 v9_3 v17_7) fun v20_8 => (k1 (mbin E .quo 3 v11_4 v17_7) fun v23_9 => (k1 (mbuild E.P 96 [(0, v20_8), (1, v23_9)]) fun v24_10 => (ks (xstore E.P base m 96 v4_1 v24_10) fun m => (k0 (mload E.P m 96 v4_1) fun r_11 => (fVal r_11 fun v => some (.ret v, m)))))))) (fun v m => some (.pan v, m))))))) (k1 (mun .neg x0) fun v14_12 => (k2 (vcall E.P base m .max [3, 3] [x0, v14_12]) fun v15_13 m => (kc (call base 80 [v15_13, x1] m) (fun v17_14 m => (k1 (mbin E .quo 3 x0 v17_14) fun v20_15 => (k1 (mbin E .quo 3 x1 v17_14) fun v23_16 => (k1 (mbuild E.P 96 [(0, v20_15), (1, v23_16)]) fun v24_17 => (ks (xstore E.P base m 96 v4_1 v24_17) fun m => (k0 (mload E.P m 96 v4_1) fun r_18 => (fVal r_18 fun v => some (.ret v, m)))))))) (fun v m => some (.pan v, m))))))))
def keep50 : Keep := { region := fun i => ([[0, 1, 4], [0, 1, 4, 7], [0, 1, 4], [0, 1, 4, 5], [4]] : List (List Nat))[i]?, exit := fun i => ([] : List (List Nat))[i]?, ret := some [4] }
noncomputable def lp50 (call : CallF) (fuel base : Nat) : Lp := lpsel []
noncomputable def c50 : Code := Tryz.f50.body.getD .skip
theorem r50_eq (call : CallF) (fuel base : Nat) (x0 : Value) (x1 : Value) (m : M) : kbody E call keep50 (lp50 call fuel base) base Tryz.f50 [x0, x1] m = r50 call fuel base x0 x1 m := by
  kernel_rfl
noncomputable def rf50 : RF := fun call fuel base args m => match args with
  | [x0, x1] => r50 call fuel base x0 x1 m
  | _ => none
theorem r50_lk (call : CallF) (fuel base : Nat) : LoopsOk E call (lp50 call fuel base) fuel base 0 c50 = (And True (And (And True (And True True)) (And True (And True True)))) := by kernel_rfl
theorem r50_fn : E.P.funcs[50]? = some Tryz.f50 := by kernel_rfl
theorem r50_body : Tryz.f50.body = some c50 := by kernel_rfl
theorem rf50_ok : RFok E 50 rf50 := by
  show RFok' E 50 rf50
  refine ⟨Tryz.f50, r50_fn, fun call fuel base args m r _ h => ?_⟩
  unfold rf50 at h
  split at h
  · rw [← r50_eq] at h
    exact kbody_sound (c := c50) r50_body (Eq.mpr (r50_lk call fuel base) (And.intro trivial (And.intro (And.intro trivial (And.intro trivial trivial)) (And.intro trivial (And.intro trivial trivial))))) h
  · simp at h
end Go.AM
namespace Go.AM
open Go Go.Proofs
noncomputable def r51_L0 (call : CallF) (fuel base : Nat) (kp : Value → M → Res2) (kr : Value → Value → M → Res2) (kx0 : M → Res2) (n : Nat) : Value → Value → Value → Value → Value → Value → M → Res2 :=
  Nat.rec (motive := fun _ => Value → Value → Value → Value → Value → Value → M → Res2) (fun _ _ _ _ _ _ _ => none)
    (fun _ ih x0 x1 x2 x14 x15 x16 m =>
      (k1 (mbin E .lss 3 x16 x15) fun v17_6 => (kb v17_6 (k1 (mindexAddr E.P 42 x14 x16) fun v19_7 => (k1 (xload E.P m 24 v19_7) fun v20_8 => (k1 (mnil x0) fun v23_9 => (k1 (mfieldAddr E.P 93 v23_9 1) fun v24_10 => (k1 (xload E.P m 91 v24_10) fun v25_11 => (k1 (mindexAddr E.P 91 v25_11 x1) fun v27_12 => (k1 (mfieldAddr E.P 99 v27_12 0) fun v28_13 => (k1 (xload E.P m 70 v28_13) fun v29_14 => (kc (call base 81 [v29_14, v20_8] m) (fun v31_15 m => (kc (kv call base x2 [v31_15] m) (fun v32_16 m => (kb v32_16 (kr x16 (.bool true) m) (k1 (mbin E .add 3 x16 (.int .i64 1)) fun v34_17 => (ih x0 x1 x2 x14 x15 v34_17 m)))) (fun v m => kp v m))) (fun v m => kp v m)))))))))) (kx0 m)))) n
noncomputable def r51 (call : CallF) (fuel base : Nat) (x0 : Value) (x1 : Value) (x2 : Value) (m : M) : Res2 :=
  (k1 (mnil x0) fun v11_1 => (k1 (mfieldAddr E.P 93 v11_1 0) fun v12_2 => (k1 (mfieldAddr E.P 44 v12_2 1) fun v13_3 => (k1 (xload E.P m 42 v13_3) fun v14_4 => (k2 (vcall E.P base m .len [42] [v14_4]) fun v15_5 m => (r51_L0 call fuel base (fun v m => some (.pan v, m)) (fun y6_18 y7_19 m => (some (.ret (.tuple #[y6_18, y7_19]), m))) (fun m => (some (.ret (.tuple #[(.int .i64 0), (.bool false)]), m))) fuel x0 x1 x2 v14_4 v15_5 (.int .i64 0) m))))))
def keep51 : Keep := { region := fun i => ([[0, 1, 2], [0, 1, 2, 14, 15, 16], [0, 1, 2, 14, 15, 16, 17], [0, 1, 2, 8, 9, 14, 15, 16], [0, 1, 2, 8, 14, 15, 16, 32], [6, 7], [0, 1, 2, 14, 15, 16], [6, 7]] : List (List Nat))[i]?, exit := fun i => ([[], [0, 1, 2, 14, 15, 16]] : List (List Nat))[i]?, ret := some [6, 7] }
noncomputable def r51_L0_R (call : CallF) (fuel base n : Nat) (vs : List Value) (m : M) (K : KT) : Res2 := match vs with
  | [x0, x1, x2, x14, x15, x16] => r51_L0 call fuel base (fun v m => K (.pan v) { n := 35, l := [] } m) (fun y6 y7 m => K .ret { n := 35, l := [(6, y6), (7, y7)] } m) (fun m => K (.exit 0) { n := 35, l := [] } m) n x0 x1 x2 x14 x15 x16 m
  | _ => none
noncomputable def lp51 (call : CallF) (fuel base : Nat) : Lp := lpsel [(0, fun T m K => kslots 35 [0, 1, 2, 14, 15, 16] T fun vs => r51_L0_R call fuel base fuel vs m K)]
noncomputable def c51 : Code := Tryz.f51.body.getD .skip
theorem r51_L0_lk (call : CallF) (fuel base : Nat) : LoopsOk E call (lp51 call fuel base) fuel base 0 (loopB (blockB (seqR (seqL (seqR c51))))) = (And True (And (And True True) (And (And True (And True (And (And True True) True))) True))) := by kernel_rfl
theorem r51_L0_ok (call : CallF) (fuel base : Nat) : LpOk E call (lp51 call fuel base) fuel base 0 (loopB (blockB (seqR (seqL (seqR c51))))) := by
  refine loop_ok (kp := keep51) (hb := Eq.mpr (r51_L0_lk call fuel base) (And.intro trivial (And.intro (And.intro trivial trivial) (And.intro (And.intro trivial (And.intro trivial (And.intro (And.intro trivial trivial) trivial))) trivial)))) 35 [0, 1, 2, 14, 15, 16] (fun n vs m K => r51_L0_R call fuel base n vs m K) ?_ ?_ (fun _ _ _ => rfl)
  · intro vs m K
    unfold r51_L0_R
    split <;> rfl
  · intro n vs m K hl
    match vs, hl with
    | [x0, x1, x2, x14, x15, x16], _ => show _ = _; kernel_rfl
theorem r51_eq (call : CallF) (fuel base : Nat) (x0 : Value) (x1 : Value) (x2 : Value) (m : M) : kbody E call keep51 (lp51 call fuel base) base Tryz.f51 [x0, x1, x2] m = r51 call fuel base x0 x1 x2 m := by
  kernel_rfl
noncomputable def rf51 : RF := fun call fuel base args m => match args with
  | [x0, x1, x2] => r51 call fuel base x0 x1 x2 m
  | _ => none
theorem r51_lk (call : CallF) (fuel base : Nat) : LoopsOk E call (lp51 call fuel base) fuel base 0 c51 = (And True (And (And True (LpOk E call (lp51 call fuel base) fuel base 0 (loopB (blockB (seqR (seqL (seqR c51))))))) (And True True))) := by kernel_rfl
theorem r51_fn : E.P.funcs[51]? = some Tryz.f51 := by kernel_rfl
theorem r51_body : Tryz.f51.body = some c51 := by kernel_rfl
theorem rf51_ok : RFok E 51 rf51 := by
  show RFok' E 51 rf51
  refine ⟨Tryz.f51, r51_fn, fun call fuel base args m r _ h => ?_⟩
  unfold rf51 at h
  split at h
  · rw [← r51_eq] at h
    exact kbody_sound (c := c51) r51_body (Eq.mpr (r51_lk call fuel base) (And.intro trivial (And.intro (And.intro trivial (r51_L0_ok call fuel base)) (And.intro trivial trivial)))) h
  · simp at h
end Go.AM
namespace Go.AM
open Go Go.Proofs
noncomputable def r52 (call : CallF) (fuel base : Nat) (x0 : Value) (m : M) : Res2 :=
  (k2 (xbox m x0) fun v1_1 m => (k1 (mfieldAddr E.P 96 v1_1 0) fun v3_2 => (k1 (xload E.P m 3 v3_2) fun v4_3 => (k1 (mbin E .neq 3 v4_3 (.int .i64 0)) fun v5_4 => (fVal v5_4 fun v => some (.ret v, m))))))
def keep52 : Keep := { region := fun i => ([[1], [2]] : List (List Nat))[i]?, exit := fun i => ([] : List (List Nat))[i]?, ret := some [2] }
noncomputable def lp52 (call : CallF) (fuel base : Nat) : Lp := lpsel []
noncomputable def c52 : Code := Tryz.f52.body.getD .skip
theorem r52_eq (call : CallF) (fuel base : Nat) (x0 : Value) (m : M) : kbody E call keep52 (lp52 call fuel base) base Tryz.f52 [x0] m = r52 call fuel base x0 m := by
  kernel_rfl
noncomputable def rf52 : RF := fun call fuel base args m => match args with
  | [x0] => r52 call fuel base x0 m
  | _ => none
theorem r52_lk (call : CallF) (fuel base : Nat) : LoopsOk E call (lp52 call fuel base) fuel base 0 c52 = (And True (And True True)) := by kernel_rfl
theorem r52_fn : E.P.funcs[52]? = some Tryz.f52 := by kernel_rfl
theorem r52_body : Tryz.f52.body = some c52 := by kernel_rfl
theorem rf52_ok : RFok E 52 rf52 := by
  show RFok' E 52 rf52
  refine ⟨Tryz.f52, r52_fn, fun call fuel base args m r _ h => ?_⟩
  unfold rf52 at h
  split at h
  · rw [← r52_eq] at h
    exact kbody_sound (c := c52) r52_body (Eq.mpr (r52_lk call fuel base) (And.intro trivial (And.intro trivial trivial))) h
  · simp at h
end Go.AM
namespace Go.AM
open Go Go.Proofs
noncomputable def r53_L0 (call : CallF) (fuel base : Nat) (kx0 : Value → Value → Value → Value → M → Res2) (n : Nat) : Value → Value → Value → Value → Value → Value → Value → Value → M → Res2 :=
  Nat.rec (motive := fun _ => Value → Value → Value → Value → Value → Value → Value → Value → M → Res2) (fun _ _ _ _ _ _ _ _ _ => none)
    (fun _ ih x0 x1 x2 x6 x7 x36 x37 x38 m =>
      (k1 (mbin E .lss 3 x38 x37) fun v39_20 => (kb v39_20 (k1 (mindexAddr E.P 91 x36 x38) fun v41_21 => (k1 (xload E.P m 99 v41_21) fun v42_22 => (k2 (xalloc E.P m 99) fun v9_23 m => (ks (xstore E.P base m 99 v9_23 v42_22) fun m => (k1 (mnil x0) fun v44_24 => (k1 (mfieldAddr E.P 93 v44_24 1) fun v45_25 => (k1 (xload E.P m 91 v45_25) fun v46_26 => (k1 (mfieldAddr E.P 99 v9_23 0) fun v48_27 => (k1 (xload E.P m 70 v48_27) fun v49_28 => (k1 (mfieldAddr E.P 99 v9_23 0) fun v50_29 => (k1 (xload E.P m 70 v50_29) fun v51_30 => (kc (kB m (call m.length 81 [v51_30, x6] m)) (fun v53_31 m => (kc (kB m (call m.length 84 [v53_31] m)) (fun v54_32 m => (kc (kB m (call m.length 83 [v49_28, v54_32, x7] m)) (fun v56_33 m => (k1 (mindexAddr E.P 91 v46_26 x38) fun v57_34 => (k1 (mfieldAddr E.P 99 v57_34 0) fun v58_35 => (ks (xstore E.P base m 70 v58_35 v56_33) fun m => (k1 (mbin E .add 3 x38 (.int .i64 1)) fun v59_36 => (ih x0 x1 x2 x6 x7 x36 x37 v59_36 m)))))) (fun _ _ => none))) (fun _ _ => none))) (fun _ _ => none))))))))))))) (kx0 x0 x1 x2 x7 m)))) n
noncomputable def r53 (call : CallF) (fuel base : Nat) (x0 : Value) (x1 : Value) (x2 : Value) (m : M) : Res2 :=
  (k1 (mnil x0) fun v11_1 => (k1 (mfieldAddr E.P 93 v11_1 0) fun v12_2 => (k1 (mfieldAddr E.P 44 v12_2 1) fun v13_3 => (k1 (xload E.P m 42 v13_3) fun v14_4 => (k1 (mindexAddr E.P 42 v14_4 x2) fun v16_5 => (k1 (xload E.P m 24 v16_5) fun v17_6 => (k1 (mnil x0) fun v19_7 => (k1 (mfieldAddr E.P 93 v19_7 1) fun v20_8 => (k1 (xload E.P m 91 v20_8) fun v21_9 => (k1 (mindexAddr E.P 91 v21_9 x1) fun v23_10 => (k1 (mfieldAddr E.P 99 v23_10 0) fun v24_11 => (k1 (xload E.P m 70 v24_11) fun v25_12 => (kc (call base 81 [v25_12, v17_6] m) (fun v29_13 m => (kc (call base 82 [v29_13] m) (fun v30_14 m => (kc (call base 55 [v25_12, (.func (.func 56) #[v30_14] #[])] m) (fun v32_15 m => (k1 (mnil x0) fun v34_16 => (k1 (mfieldAddr E.P 93 v34_16 1) fun v35_17 => (k1 (xload E.P m 91 v35_17) fun v36_18 => (k2 (vcall E.P base m .len [91] [v36_18]) fun v37_19 m => (r53_L0 call fuel base (fun y0_37 y1_38 y2_39 y7_40 m => (k1 (mnil y0_37) fun v61_41 => (k1 (mfieldAddr E.P 93 v61_41 1) fun v62_42 => (k1 (xload E.P m 91 v62_42) fun v63_43 => (k1 (mbuild E.P 99 [(0, y7_40), (1, y2_39)]) fun v67_44 => (k1 (mindexAddr E.P 91 v63_43 y1_38) fun v68_45 => (ks (xstore E.P base m 99 v68_45 v67_44) fun m => (some (.ret (.tuple #[]), m))))))))) fuel x0 x1 x2 v17_6 v32_15 v36_18 v37_19 (.int .i64 0) m)))))) (fun v m => some (.pan v, m)))) (fun v m => some (.pan v, m)))) (fun v m => some (.pan v, m)))))))))))))))
def keep53 : Keep := { region := fun i => ([[0, 1, 2, 6], [0, 1, 2, 6, 7], [0, 1, 2, 6, 7], [0, 1, 2, 6, 7, 36, 37, 38], [0, 1, 2, 6, 7, 36, 37, 38, 39], [0, 1, 2, 6, 7, 8, 9, 36, 37, 38], [0, 1, 2, 6, 7, 36, 37, 38], [0, 1, 2, 6, 7, 36, 37, 38], []] : List (List Nat))[i]?, exit := fun i => ([[0, 1, 2, 7], [0, 1, 2, 6, 7, 36, 37, 38]] : List (List Nat))[i]?, ret := some [] }
noncomputable def r53_L0_R (call : CallF) (fuel base n : Nat) (vs : List Value) (m : M) (K : KT) : Res2 := match vs with
  | [x0, x1, x2, x6, x7, x36, x37, x38] => r53_L0 call fuel base (fun y0 y1 y2 y7 m => K (.exit 0) { n := 69, l := [(0, y0), (1, y1), (2, y2), (7, y7)] } m) n x0 x1 x2 x6 x7 x36 x37 x38 m
  | _ => none
noncomputable def lp53 (call : CallF) (fuel base : Nat) : Lp := lpsel [(0, fun T m K => kslots 69 [0, 1, 2, 6, 7, 36, 37, 38] T fun vs => r53_L0_R call fuel base fuel vs m K)]
noncomputable def c53 : Code := Tryz.f53.body.getD .skip
theorem r53_L0_lk (call : CallF) (fuel base : Nat) : LoopsOk E call (lp53 call fuel base) fuel base 0 (loopB (blockB (seqR (seqL (seqR (seqR (seqR c53))))))) = (And True (And (And True True) (And (And True True) True))) := by kernel_rfl
theorem r53_L0_ok (call : CallF) (fuel base : Nat) : LpOk E call (lp53 call fuel base) fuel base 0 (loopB (blockB (seqR (seqL (seqR (seqR (seqR c53))))))) := by
  refine loop_ok (kp := keep53) (hb := Eq.mpr (r53_L0_lk call fuel base) (And.intro trivial (And.intro (And.intro trivial trivial) (And.intro (And.intro trivial trivial) trivial)))) 69 [0, 1, 2, 6, 7, 36, 37, 38] (fun n vs m K => r53_L0_R call fuel base n vs m K) ?_ ?_ (fun _ _ _ => rfl)
  · intro vs m K
    unfold r53_L0_R
    split <;> rfl
  · intro n vs m K hl
    match vs, hl with
    | [x0, x1, x2, x6, x7, x36, x37, x38], _ => show _ = _; kernel_rfl
theorem r53_eq (call : CallF) (fuel base : Nat) (x0 : Value) (x1 : Value) (x2 : Value) (m : M) : kbody E call keep53 (lp53 call fuel base) base Tryz.f53 [x0, x1, x2] m = r53 call fuel base x0 x1 x2 m := by
  kernel_rfl
noncomputable def rf53 : RF := fun call fuel base args m => match args with
  | [x0, x1, x2] => r53 call fuel base x0 x1 x2 m
  | _ => none
theorem r53_lk (call : CallF) (fuel base : Nat) : LoopsOk E call (lp53 call fuel base) fuel base 0 c53 = (And True (And True (And True (And (And True (LpOk E call (lp53 call fuel base) fuel base 0 (loopB (blockB (seqR (seqL (seqR (seqR (seqR c53))))))))) True)))) := by kernel_rfl
theorem r53_fn : E.P.funcs[53]? = some Tryz.f53 := by kernel_rfl
theorem r53_body : Tryz.f53.body = some c53 := by kernel_rfl
theorem rf53_ok : RFok E 53 rf53 := by
  show RFok' E 53 rf53
  refine ⟨Tryz.f53, r53_fn, fun call fuel base args m r _ h => ?_⟩
  unfold rf53 at h
  split at h
  · rw [← r53_eq] at h
    exact kbody_sound (c := c53) r53_body (Eq.mpr (r53_lk call fuel base) (And.intro trivial (And.intro trivial (And.intro trivial (And.intro (And.intro trivial (r53_L0_ok call fuel base)) trivial))))) h
  · simp at h
end Go.AM
namespace Go.AM
open Go Go.Proofs
noncomputable def r54_L0 (call : CallF) (fuel base : Nat) (kp : Value → M → Res2) (kr : Value → M → Res2) (kx0 : M → Res2) (n : Nat) : Value → Value → Value → Value → M → Res2 :=
  Nat.rec (motive := fun _ => Value → Value → Value → Value → M → Res2) (fun _ _ _ _ _ => none)
    (fun _ ih x0 x9 x10 x11 m =>
      (k1 (mbin E .lss 3 x11 x10) fun v12_5 => (kb v12_5 (k1 (mindexAddr E.P 91 x9 x11) fun v13_6 => (k1 (xload E.P m 99 v13_6) fun v14_7 => (k2 (xalloc E.P m 99) fun v4_8 m => (ks (xstore E.P base m 99 v4_8 v14_7) fun m => (k1 (mfieldAddr E.P 99 v4_8 0) fun v15_9 => (k1 (xload E.P m 70 v15_9) fun v16_10 => (k1 (mnil x0) fun v18_11 => (k1 (mfieldAddr E.P 93 v18_11 0) fun v19_12 => (k1 (mfieldAddr E.P 44 v19_12 2) fun v20_13 => (k1 (xload E.P m 24 v20_13) fun v21_14 => (kc (kB m (call m.length 81 [v16_10, v21_14] m)) (fun v22_15 m => (k2 (xalloc E.P m 96) fun v5_16 m => (ks (xstore E.P base m 96 v5_16 v22_15) fun m => (k1 (mfieldAddr E.P 99 v4_8 1) fun v23_17 => (k1 (xload E.P m 3 v23_17) fun v24_18 => (k1 (mbin E .eql 3 v24_18 (.int .i64 (-1))) fun v25_19 => (kb v25_19 (k1 (xload E.P m 96 v5_16) fun v27_20 => (kc (call base 52 [v27_20] m) (fun v28_21 m => (kb v28_21 (k1 (mfieldAddr E.P 99 v4_8 0) fun v30_22 => (k1 (xload E.P m 70 v30_22) fun v31_23 => (k1 (xload E.P m 96 v5_16) fun v32_24 => (kc (kB m (call m.length 82 [v32_24] m)) (fun v33_25 m => (kc (kB m (call m.length 55 [v31_23, (.func (.func 56) #[v33_25] #[])] m)) (fun v35_26 m => (kr v35_26 m)) (fun _ _ => none))) (fun _ _ => none))))) (k1 (mbin E .add 3 x11 (.int .i64 1)) fun v36_27 => (ih x0 x9 x10 v36_27 m)))) (fun v m => kp v m))) (k1 (mbin E .add 3 x11 (.int .i64 1)) fun v36_28 => (ih x0 x9 x10 v36_28 m))))))))) (fun _ _ => none)))))))))))) (kx0 m)))) n
noncomputable def r54 (call : CallF) (fuel base : Nat) (x0 : Value) (m : M) : Res2 :=
  (k1 (mnil x0) fun v7_1 => (k1 (mfieldAddr E.P 93 v7_1 1) fun v8_2 => (k1 (xload E.P m 91 v8_2) fun v9_3 => (k2 (vcall E.P base m .len [91] [v9_3]) fun v10_4 m => (r54_L0 call fuel base (fun v m => some (.pan v, m)) (fun y2_29 m => (fVal y2_29 fun v => some (.ret v, m))) (fun m => (fVal (.slice none 0 0) fun v => some (.ret v, m))) fuel x0 v9_3 v10_4 (.int .i64 0) m)))))
def keep54 : Keep := { region := fun i => ([[0], [0, 9, 10, 11], [0, 9, 10, 11, 12], [0, 4, 9, 10, 11], [0, 4, 5, 9, 10, 11], [0, 4, 5, 9, 10, 11, 29], [2], [0, 9, 10, 11], [2]] : List (List Nat))[i]?, exit := fun i => ([[], [0, 9, 10, 11]] : List (List Nat))[i]?, ret := some [2] }
noncomputable def r54_L0_R (call : CallF) (fuel base n : Nat) (vs : List Value) (m : M) (K : KT) : Res2 := match vs with
  | [x0, x9, x10, x11] => r54_L0 call fuel base (fun v m => K (.pan v) { n := 37, l := [] } m) (fun y2 m => K .ret { n := 37, l := [(2, y2)] } m) (fun m => K (.exit 0) { n := 37, l := [] } m) n x0 x9 x10 x11 m
  | _ => none
noncomputable def lp54 (call : CallF) (fuel base : Nat) : Lp := lpsel [(0, fun T m K => kslots 37 [0, 9, 10, 11] T fun vs => r54_L0_R call fuel base fuel vs m K)]
noncomputable def c54 : Code := Tryz.f54.body.getD .skip
theorem r54_L0_lk (call : CallF) (fuel base : Nat) : LoopsOk E call (lp54 call fuel base) fuel base 0 (loopB (blockB (seqR (seqL (seqR c54))))) = (And True (And (And True True) (And (And True (And True (And True (And (And True True) True)))) True))) := by kernel_rfl
theorem r54_L0_ok (call : CallF) (fuel base : Nat) : LpOk E call (lp54 call fuel base) fuel base 0 (loopB (blockB (seqR (seqL (seqR c54))))) := by
  refine loop_ok (kp := keep54) (hb := Eq.mpr (r54_L0_lk call fuel base) (And.intro trivial (And.intro (And.intro trivial trivial) (And.intro (And.intro trivial (And.intro trivial (And.intro trivial (And.intro (And.intro trivial trivial) trivial)))) trivial)))) 37 [0, 9, 10, 11] (fun n vs m K => r54_L0_R call fuel base n vs m K) ?_ ?_ (fun _ _ _ => rfl)
  · intro vs m K
    unfold r54_L0_R
    split <;> rfl
  · intro n vs m K hl
    match vs, hl with
    | [x0, x9, x10, x11], _ => show _ = _; kernel_rfl
theorem r54_eq (call : CallF) (fuel base : Nat) (x0 : Value) (m : M) : kbody E call keep54 (lp54 call fuel base) base Tryz.f54 [x0] m = r54 call fuel base x0 m := by
  kernel_rfl
noncomputable def rf54 : RF := fun call fuel base args m => match args with
  | [x0] => r54 call fuel base x0 m
  | _ => none
theorem r54_lk (call : CallF) (fuel base : Nat) : LoopsOk E call (lp54 call fuel base) fuel base 0 c54 = (And True (And (And True (LpOk E call (lp54 call fuel base) fuel base 0 (loopB (blockB (seqR (seqL (seqR c54))))))) (And True True))) := by kernel_rfl
theorem r54_fn : E.P.funcs[54]? = some Tryz.f54 := by kernel_rfl
theorem r54_body : Tryz.f54.body = some c54 := by kernel_rfl
theorem rf54_ok : RFok E 54 rf54 := by
  show RFok' E 54 rf54
  refine ⟨Tryz.f54, r54_fn, fun call fuel base args m r _ h => ?_⟩
  unfold rf54 at h
  split at h
  · rw [← r54_eq] at h
    exact kbody_sound (c := c54) r54_body (Eq.mpr (r54_lk call fuel base) (And.intro trivial (And.intro (And.intro trivial (r54_L0_ok call fuel base)) (And.intro trivial trivial)))) h
  · simp at h
end Go.AM
namespace Go.AM
open Go Go.Proofs
noncomputable def r55_L0 (call : CallF) (fuel base : Nat) (kp : Value → M → Res2) (kx0 : Value → M → Res2) (n : Nat) : Value → Value → Value → Value → Value → M → Res2 :=
  Nat.rec (motive := fun _ => Value → Value → Value → Value → Value → M → Res2) (fun _ _ _ _ _ _ => none)
    (fun _ ih x0 x1 x5 x11 x12 m =>
      (k1 (mbin E .lss 3 x12 x11) fun v13_4 => (kb v13_4 (k1 (mindexAddr E.P 70 x0 x12) fun v20_5 => (k1 (xload E.P m 96 v20_5) fun v21_6 => (kc (kv call base x1 [v21_6] m) (fun v22_7 m => (k1 (mindexAddr E.P 70 x5 x12) fun v23_8 => (ks (xstore E.P base m 96 v23_8 v22_7) fun m => (k1 (mbin E .add 3 x12 (.int .i64 1)) fun v24_9 => (ih x0 x1 x5 x11 v24_9 m))))) (fun v m => kp v m)))) (kx0 x5 m)))) n
noncomputable def r55 (call : CallF) (fuel base : Nat) (x0 : Value) (x1 : Value) (m : M) : Res2 :=
  (k2 (vcall E.P base m .len [70] [x0]) fun v8_1 m => (k2 (xmakeSlice E.P m 70 v8_1 v8_1) fun v9_2 m => (k2 (vcall E.P base m .len [70] [x0]) fun v11_3 m => (r55_L0 call fuel base (fun v m => some (.pan v, m)) (fun y5_10 m => (fVal y5_10 fun v => some (.ret v, m))) fuel x0 x1 v9_2 v11_3 (.int .i64 0) m))))
def keep55 : Keep := { region := fun i => ([[0, 1], [0, 1, 5], [0, 1, 5, 11, 12], [0, 1, 5, 11, 12, 13], [0, 1, 5, 6, 11, 12], [0, 1, 5, 11, 12], [0, 1, 5, 11, 12], [4]] : List (List Nat))[i]?, exit := fun i => ([[5], [0, 1, 5, 11, 12]] : List (List Nat))[i]?, ret := some [4] }
noncomputable def r55_L0_R (call : CallF) (fuel base n : Nat) (vs : List Value) (m : M) (K : KT) : Res2 := match vs with
  | [x0, x1, x5, x11, x12] => r55_L0 call fuel base (fun v m => K (.pan v) { n := 26, l := [] } m) (fun y5 m => K (.exit 0) { n := 26, l := [(5, y5)] } m) n x0 x1 x5 x11 x12 m
  | _ => none
noncomputable def lp55 (call : CallF) (fuel base : Nat) : Lp := lpsel [(0, fun T m K => kslots 26 [0, 1, 5, 11, 12] T fun vs => r55_L0_R call fuel base fuel vs m K)]
noncomputable def c55 : Code := Tryz.f55.body.getD .skip
theorem r55_L0_lk (call : CallF) (fuel base : Nat) : LoopsOk E call (lp55 call fuel base) fuel base 0 (loopB (blockB (seqR (seqL (seqR (seqR c55)))))) = (And True (And (And True True) (And (And True True) True))) := by kernel_rfl
theorem r55_L0_ok (call : CallF) (fuel base : Nat) : LpOk E call (lp55 call fuel base) fuel base 0 (loopB (blockB (seqR (seqL (seqR (seqR c55)))))) := by
  refine loop_ok (kp := keep55) (hb := Eq.mpr (r55_L0_lk call fuel base) (And.intro trivial (And.intro (And.intro trivial trivial) (And.intro (And.intro trivial trivial) trivial)))) 26 [0, 1, 5, 11, 12] (fun n vs m K => r55_L0_R call fuel base n vs m K) ?_ ?_ (fun _ _ _ => rfl)
  · intro vs m K
    unfold r55_L0_R
    split <;> rfl
  · intro n vs m K hl
    match vs, hl with
    | [x0, x1, x5, x11, x12], _ => show _ = _; kernel_rfl
theorem r55_eq (call : CallF) (fuel base : Nat) (x0 : Value) (x1 : Value) (m : M) : kbody E call keep55 (lp55 call fuel base) base Tryz.f55 [x0, x1] m = r55 call fuel base x0 x1 m := by
  kernel_rfl
noncomputable def rf55 : RF := fun call fuel base args m => match args with
  | [x0, x1] => r55 call fuel base x0 x1 m
  | _ => none
theorem r55_lk (call : CallF) (fuel base : Nat) : LoopsOk E call (lp55 call fuel base) fuel base 0 c55 = (And True (And True (And (And True (LpOk E call (lp55 call fuel base) fuel base 0 (loopB (blockB (seqR (seqL (seqR (seqR c55)))))))) (And True True)))) := by kernel_rfl
theorem r55_fn : E.P.funcs[55]? = some Tryz.f55 := by kernel_rfl
theorem r55_body : Tryz.f55.body = some c55 := by kernel_rfl
theorem rf55_ok : RFok E 55 rf55 := by
  show RFok' E 55 rf55
  refine ⟨Tryz.f55, r55_fn, fun call fuel base args m r _ h => ?_⟩
  unfold rf55 at h
  split at h
  · rw [← r55_eq] at h
    exact kbody_sound (c := c55) r55_body (Eq.mpr (r55_lk call fuel base) (And.intro trivial (And.intro trivial (And.intro (And.intro trivial (r55_L0_ok call fuel base)) (And.intro trivial trivial))))) h
  · simp at h
end Go.AM
namespace Go.AM
open Go Go.Proofs
noncomputable def r56 (call : CallF) (fuel base : Nat) (x0 : Value) (x1 : Value) (m : M) : Res2 :=
  (k2 (xbox m x0) fun v2_1 m => (k2 (xbox m x1) fun v3_2 m => (k2 (xalloc E.P m 96) fun v4_3 m => (k1 (mfieldAddr E.P 96 v2_1 0) fun v5_4 => (k1 (xload E.P m 3 v5_4) fun v6_5 => (k1 (mfieldAddr E.P 96 v3_2 0) fun v7_6 => (k1 (xload E.P m 3 v7_6) fun v8_7 => (k1 (mbin E .mul 3 v6_5 v8_7) fun v9_8 => (k1 (xload E.P m 96 v2_1) fun v10_9 => (kc (kB m (call m.length 85 [v10_9] m)) (fun v11_10 m => (k1 (xload E.P m 96 v3_2) fun v12_11 => (kc (kB m (call m.length 85 [v12_11] m)) (fun v13_12 m => (k1 (mbin E .mul 3 v11_10 v13_12) fun v14_13 => (kc (kB m (call m.length 50 [v9_8, v14_13] m)) (fun v15_14 m => (ks (xstore E.P base m 96 v4_3 v15_14) fun m => (k0 (mload E.P m 96 v4_3) fun r_15 => (fVal r_15 fun v => some (.ret v, m))))) (fun _ _ => none)))) (fun _ _ => none)))) (fun _ _ => none)))))))))))
def keep56 : Keep := { region := fun i => ([[2, 3, 4], [4]] : List (List Nat))[i]?, exit := fun i => ([] : List (List Nat))[i]?, ret := some [4] }
noncomputable def lp56 (call : CallF) (fuel base : Nat) : Lp := lpsel []
noncomputable def c56 : Code := Tryz.f56.body.getD .skip
theorem r56_eq (call : CallF) (fuel base : Nat) (x0 : Value) (x1 : Value) (m : M) : kbody E call keep56 (lp56 call fuel base) base Tryz.f56 [x0, x1] m = r56 call fuel base x0 x1 m := by
  kernel_rfl
noncomputable def rf56 : RF := fun call fuel base args m => match args with
  | [x0, x1] => r56 call fuel base x0 x1 m
  | _ => none
theorem r56_lk (call : CallF) (fuel base : Nat) : LoopsOk E call (lp56 call fuel base) fuel base 0 c56 = (And True (And True True)) := by kernel_rfl
theorem r56_fn : E.P.funcs[56]? = some Tryz.f56 := by kernel_rfl
theorem r56_body : Tryz.f56.body = some c56 := by kernel_rfl
theorem rf56_ok : RFok E 56 rf56 := by
  show RFok' E 56 rf56
  refine ⟨Tryz.f56, r56_fn, fun call fuel base args m r _ h => ?_⟩
  unfold rf56 at h
  split at h
  · rw [← r56_eq] at h
    exact kbody_sound (c := c56) r56_body (Eq.mpr (r56_lk call fuel base) (And.intro trivial (And.intro trivial trivial))) h
  · simp at h
end Go.AM
namespace Go.AM
open Go Go.Proofs
noncomputable def r57 (call : CallF) (fuel base : Nat) (x0 : Value) (m : M) : Res2 :=
  (k2 (xbox m x0) fun v1_1 m => (k2 (xalloc E.P m 96) fun v2_2 m => (k1 (mfieldAddr E.P 96 v1_1 0) fun v3_3 => (k1 (xload E.P m 3 v3_3) fun v4_4 => (k1 (xload E.P m 96 v1_1) fun v5_5 => (kc (kB m (call m.length 85 [v5_5] m)) (fun v6_6 m => (kc (kB m (call m.length 86 [v4_4, v6_6] m)) (fun v7_7 m => (k1 (xload E.P m 96 v1_1) fun v8_8 => (kc (kB m (call m.length 85 [v8_8] m)) (fun v9_9 m => (kc (kB m (call m.length 50 [v7_7, v9_9] m)) (fun v10_10 m => (ks (xstore E.P base m 96 v2_2 v10_10) fun m => (k0 (mload E.P m 96 v2_2) fun r_11 => (fVal r_11 fun v => some (.ret v, m))))) (fun _ _ => none))) (fun _ _ => none)))) (fun _ _ => none))) (fun _ _ => none)))))))
def keep57 : Keep := { region := fun i => ([[1, 2], [2]] : List (List Nat))[i]?, exit := fun i => ([] : List (List Nat))[i]?, ret := some [2] }
noncomputable def lp57 (call : CallF) (fuel base : Nat) : Lp := lpsel []
noncomputable def c57 : Code := Tryz.f57.body.getD .skip
theorem r57_eq (call : CallF) (fuel base : Nat) (x0 : Value) (m : M) : kbody E call keep57 (lp57 call fuel base) base Tryz.f57 [x0] m = r57 call fuel base x0 m := by
  kernel_rfl
noncomputable def rf57 : RF := fun call fuel base args m => match args with
  | [x0] => r57 call fuel base x0 m
  | _ => none
theorem r57_lk (call : CallF) (fuel base : Nat) : LoopsOk E call (lp57 call fuel base) fuel base 0 c57 = (And True (And True True)) := by kernel_rfl
theorem r57_fn : E.P.funcs[57]? = some Tryz.f57 := by kernel_rfl
theorem r57_body : Tryz.f57.body = some c57 := by kernel_rfl
theorem rf57_ok : RFok E 57 rf57 := by
  show RFok' E 57 rf57
  refine ⟨Tryz.f57, r57_fn, fun call fuel base args m r _ h => ?_⟩
  unfold rf57 at h
  split at h
  · rw [← r57_eq] at h
    exact kbody_sound (c := c57) r57_body (Eq.mpr (r57_lk call fuel base) (And.intro trivial (And.intro trivial trivial))) h
  · simp at h
end Go.AM
namespace Go.AM
open Go Go.Proofs
noncomputable def r58_L0 (call : CallF) (fuel base : Nat) (kx0 : Value → Value → Value → M → Res2) (n : Nat) : Value → Value → Value → Value → Value → M → Res2 :=
  Nat.rec (motive := fun _ => Value → Value → Value → Value → Value → M → Res2) (fun _ _ _ _ _ _ => none)
    (fun _ ih x0 x2 x3 x15 x16 m =>
      (k1 (mbin E .lss 3 x16 x15) fun v17_9 => (kb v17_9 (k1 (mfieldAddr E.P 110 x3 1) fun v19_10 => (k1 (xload E.P m 108 v19_10) fun v20_11 => (k1 (mnil x0) fun v22_12 => (k1 (mfieldAddr E.P 93 v22_12 0) fun v23_13 => (k1 (mfieldAddr E.P 44 v23_13 0) fun v24_14 => (k1 (xload E.P m 3 v24_14) fun v25_15 => (k1 (mnil x0) fun v27_16 => (k1 (mfieldAddr E.P 93 v27_16 0) fun v28_17 => (k1 (mfieldAddr E.P 44 v28_17 1) fun v29_18 => (k1 (xload E.P m 42 v29_18) fun v30_19 => (k2 (vcall E.P base m .len [42] [v30_19]) fun v31_20 m => (k1 (mbin E .add 3 v25_15 v31_20) fun v32_21 => (k1 (mfieldAddr E.P 110 x3 0) fun v34_22 => (k1 (xload E.P m 3 v34_22) fun v35_23 => (kc (kB m (call m.length 88 [v32_21, x16, v35_23] m)) (fun v36_24 m => (k2 (xbuildSlice E.P m 108 1 [(0, v36_24)]) fun v37_25 m => (k2 (vcall E.P base m .append [108, 108] [v20_11, v37_25]) fun v38_26 m => (k1 (mfieldAddr E.P 110 x3 1) fun v39_27 => (ks (xstore E.P base m 108 v39_27 v38_26) fun m => (k1 (mbin E .add 3 x16 (.int .i64 1)) fun v40_28 => (ih x0 x2 x3 x15 v40_28 m))))))) (fun _ _ => none)))))))))))))))) (kx0 x0 x2 x3 m)))) n
noncomputable def r58_L2 (call : CallF) (fuel base : Nat) (kp : Value → M → Res2) (kx2 : Value → Value → M → Res2) (n : Nat) : Value → Value → Value → Value → Value → Value → M → Res2 :=
  Nat.rec (motive := fun _ => Value → Value → Value → Value → Value → Value → M → Res2) (fun _ _ _ _ _ _ _ => none)
    (fun _ ih x0 x2 x3 x45 x46 x47 m =>
      (k1 (mbin E .lss 3 x47 x46) fun v48_37 => (kb v48_37 (k1 (mindexAddr E.P 42 x45 x47) fun v50_38 => (k1 (xload E.P m 24 v50_38) fun v51_39 => (k1 (mfieldAddr E.P 110 x3 0) fun v54_40 => (k1 (xload E.P m 3 v54_40) fun v55_41 => (kc (call base 60 [x0, v51_39, v55_41] m) (fun v56_42 m => (k1 (mnil x0) fun v59_43 => (k1 (mfieldAddr E.P 93 v59_43 0) fun v60_44 => (k1 (mfieldAddr E.P 44 v60_44 0) fun v61_45 => (k1 (xload E.P m 3 v61_45) fun v62_46 => (k1 (mbin E .add 3 v62_46 x47) fun v64_47 => (k1 (mindexAddr E.P 55 v56_42 v64_47) fun v65_48 => (ks (xstore E.P base m 50 v65_48 (.int .i64 1)) fun m => (k1 (xload E.P m 110 x3) fun v66_49 => (kc (call base 89 [v66_49, v56_42] m) (fun v68_50 m => (k1 (mbin E .add 3 x47 (.int .i64 1)) fun v69_51 => (ih x0 x2 x3 x45 x46 v69_51 m))) (fun v m => kp v m))))))))))) (fun v m => kp v m)))))) (kx2 x2 x3 m)))) n
noncomputable def r58 (call : CallF) (fuel base : Nat) (x0 : Value) (m : M) : Res2 :=
  (k2 (xalloc E.P m 110) fun v2_1 m => (kc (call base 87 [x0] m) (fun v9_2 m => (k1 (mbuild E.P 110 [(0, v9_2)]) fun v10_3 => (k2 (xalloc E.P m 110) fun v3_4 m => (ks (xstore E.P base m 110 v3_4 v10_3) fun m => (k1 (mnil x0) fun v12_5 => (k1 (mfieldAddr E.P 93 v12_5 0) fun v13_6 => (k1 (mfieldAddr E.P 44 v13_6 0) fun v14_7 => (k1 (xload E.P m 3 v14_7) fun v15_8 => (r58_L0 call fuel base (fun y0_29 y2_30 y3_31 m => (k1 (mnil y0_29) fun v42_32 => (k1 (mfieldAddr E.P 93 v42_32 0) fun v43_33 => (k1 (mfieldAddr E.P 44 v43_33 1) fun v44_34 => (k1 (xload E.P m 42 v44_34) fun v45_35 => (k2 (vcall E.P base m .len [42] [v45_35]) fun v46_36 m => (r58_L2 call fuel base (fun v m => some (.pan v, m)) (fun y2_52 y3_53 m => (k1 (xload E.P m 110 y3_53) fun v70_54 => (ks (xstore E.P base m 110 y2_52 v70_54) fun m => (k0 (mload E.P m 110 y2_52) fun r_55 => (fVal r_55 fun v => some (.ret v, m)))))) fuel y0_29 y2_30 y3_31 v45_35 v46_36 (.int .i64 0) m))))))) fuel x0 v2_1 v3_4 v15_8 (.int .i64 0) m))))))))) (fun v m => some (.pan v, m))))
def keep58 : Keep := { region := fun i => ([[0, 2], [0, 2, 3], [0, 2, 3, 15, 16], [0, 2, 3, 15, 16, 17], [0, 2, 3, 4, 15, 16], [0, 2, 3, 15, 16], [0, 2, 3, 15, 16], [0, 2, 3, 45, 46, 47], [0, 2, 3, 45, 46, 47, 48], [0, 2, 3, 5, 6, 45, 46, 47], [0, 2, 3, 5, 7, 45, 46, 47], [0, 2, 3, 7, 45, 46, 47], [0, 2, 3, 45, 46, 47], [0, 2, 3, 45, 46, 47], [2]] : List (List Nat))[i]?, exit := fun i => ([[0, 2, 3], [0, 2, 3, 15, 16], [2, 3], [0, 2, 3, 45, 46, 47]] : List (List Nat))[i]?, ret := some [2] }
noncomputable def r58_L0_R (call : CallF) (fuel base n : Nat) (vs : List Value) (m : M) (K : KT) : Res2 := match vs with
  | [x0, x2, x3, x15, x16] => r58_L0 call fuel base (fun y0 y2 y3 m => K (.exit 0) { n := 71, l := [(0, y0), (2, y2), (3, y3)] } m) n x0 x2 x3 x15 x16 m
  | _ => none
noncomputable def r58_L2_R (call : CallF) (fuel base n : Nat) (vs : List Value) (m : M) (K : KT) : Res2 := match vs with
  | [x0, x2, x3, x45, x46, x47] => r58_L2 call fuel base (fun v m => K (.pan v) { n := 71, l := [] } m) (fun y2 y3 m => K (.exit 2) { n := 71, l := [(2, y2), (3, y3)] } m) n x0 x2 x3 x45 x46 x47 m
  | _ => none
noncomputable def lp58 (call : CallF) (fuel base : Nat) : Lp := lpsel [(0, fun T m K => kslots 71 [0, 2, 3, 15, 16] T fun vs => r58_L0_R call fuel base fuel vs m K), (2, fun T m K => kslots 71 [0, 2, 3, 45, 46, 47] T fun vs => r58_L2_R call fuel base fuel vs m K)]
noncomputable def c58 : Code := Tryz.f58.body.getD .skip
theorem r58_L0_lk (call : CallF) (fuel base : Nat) : LoopsOk E call (lp58 call fuel base) fuel base 0 (loopB (blockB (seqR (seqL (seqR (seqR c58)))))) = (And True (And (And True True) (And (And True True) True))) := by kernel_rfl
theorem r58_L0_ok (call : CallF) (fuel base : Nat) : LpOk E call (lp58 call fuel base) fuel base 0 (loopB (blockB (seqR (seqL (seqR (seqR c58)))))) := by
  refine loop_ok (kp := keep58) (hb := Eq.mpr (r58_L0_lk call fuel base) (And.intro trivial (And.intro (And.intro trivial trivial) (And.intro (And.intro trivial trivial) trivial)))) 71 [0, 2, 3, 15, 16] (fun n vs m K => r58_L0_R call fuel base n vs m K) ?_ ?_ (fun _ _ _ => rfl)
  · intro vs m K
    unfold r58_L0_R
    split <;> rfl
  · intro n vs m K hl
    match vs, hl with
    | [x0, x2, x3, x15, x16], _ => show _ = _; kernel_rfl
theorem r58_L2_lk (call : CallF) (fuel base : Nat) : LoopsOk E call (lp58 call fuel base) fuel base 2 (loopB (blockB (seqR (seqL (seqR (seqR (seqR c58))))))) = (And True (And (And True True) (And (And True (And True (And True True))) True))) := by kernel_rfl
theorem r58_L2_ok (call : CallF) (fuel base : Nat) : LpOk E call (lp58 call fuel base) fuel base 2 (loopB (blockB (seqR (seqL (seqR (seqR (seqR c58))))))) := by
  refine loop_ok (kp := keep58) (hb := Eq.mpr (r58_L2_lk call fuel base) (And.intro trivial (And.intro (And.intro trivial trivial) (And.intro (And.intro trivial (And.intro trivial (And.intro trivial trivial))) trivial)))) 71 [0, 2, 3, 45, 46, 47] (fun n vs m K => r58_L2_R call fuel base n vs m K) ?_ ?_ (fun _ _ _ => rfl)
  · intro vs m K
    unfold r58_L2_R
    split <;> rfl
  · intro n vs m K hl
    match vs, hl with
    | [x0, x2, x3, x45, x46, x47], _ => show _ = _; kernel_rfl
theorem r58_eq (call : CallF) (fuel base : Nat) (x0 : Value) (m : M) : kbody E call keep58 (lp58 call fuel base) base Tryz.f58 [x0] m = r58 call fuel base x0 m := by
  kernel_rfl
noncomputable def rf58 : RF := fun call fuel base args m => match args with
  | [x0] => r58 call fuel base x0 m
  | _ => none
theorem r58_lk (call : CallF) (fuel base : Nat) : LoopsOk E call (lp58 call fuel base) fuel base 0 c58 = (And True (And True (And (And True (LpOk E call (lp58 call fuel base) fuel base 0 (loopB (blockB (seqR (seqL (seqR (seqR c58)))))))) (And (And True (LpOk E call (lp58 call fuel base) fuel base 2 (loopB (blockB (seqR (seqL (seqR (seqR (seqR c58))))))))) (And True True))))) := by kernel_rfl
theorem r58_fn : E.P.funcs[58]? = some Tryz.f58 := by kernel_rfl
theorem r58_body : Tryz.f58.body = some c58 := by kernel_rfl
theorem rf58_ok : RFok E 58 rf58 := by
  show RFok' E 58 rf58
  refine ⟨Tryz.f58, r58_fn, fun call fuel base args m r _ h => ?_⟩
  unfold rf58 at h
  split at h
  · rw [← r58_eq] at h
    exact kbody_sound (c := c58) r58_body (Eq.mpr (r58_lk call fuel base) (And.intro trivial (And.intro trivial (And.intro (And.intro trivial (r58_L0_ok call fuel base)) (And.intro (And.intro trivial (r58_L2_ok call fuel base)) (And.intro trivial trivial)))))) h
  · simp at h
end Go.AM
namespace Go.AM
open Go Go.Proofs
noncomputable def r59_L0 (call : CallF) (fuel base : Nat) (kr : Value → Value → M → Res2) (kx0 : Value → M → Res2) (n : Nat) : Value → Value → Value → Value → Value → M → Res2 :=
  Nat.rec (motive := fun _ => Value → Value → Value → Value → Value → M → Res2) (fun _ _ _ _ _ _ => none)
    (fun _ ih x1 x2 x9 x10 x11 m =>
      (k1 (mbin E .lss 3 x11 x10) fun v12_5 => (kb v12_5 (k1 (mindexAddr E.P 108 x9 x11) fun v14_6 => (k1 (xload E.P m 55 v14_6) fun v15_7 => (k1 (mindexAddr E.P 55 x1 x11) fun v18_8 => (k1 (xload E.P m 50 v18_8) fun v19_9 => (k1 (mindexAddr E.P 55 v15_7 x11) fun v22_10 => (k1 (xload E.P m 50 v22_10) fun v23_11 => (k1 (mbin E .rem 50 v19_9 v23_11) fun v24_12 => (k1 (mbin E .neq 50 v24_12 (.int .i64 0)) fun v25_13 => (kb v25_13 (kr (.slice none 0 0) x11 m) (k1 (xload E.P m 110 x2) fun v27_14 => (k1 (mindexAddr E.P 55 x1 x11) fun v31_15 => (k1 (xload E.P m 50 v31_15) fun v32_16 => (k1 (mindexAddr E.P 55 v15_7 x11) fun v35_17 => (k1 (xload E.P m 50 v35_17) fun v36_18 => (k1 (mbin E .quo 50 v32_16 v36_18) fun v37_19 => (kc (kB m (call m.length 90 [v27_14, x1, v37_19, v15_7] m)) (fun v39_20 m => (k1 (mbin E .add 3 x11 (.int .i64 1)) fun v40_21 => (ih v39_20 x2 x9 x10 v40_21 m))) (fun _ _ => none))))))))))))))))) (kx0 x1 m)))) n
noncomputable def r59 (call : CallF) (fuel base : Nat) (x0 : Value) (x1 : Value) (m : M) : Res2 :=
  (k2 (xbox m x0) fun v2_1 m => (k1 (mfieldAddr E.P 110 v2_1 1) fun v8_2 => (k1 (xload E.P m 108 v8_2) fun v9_3 => (k2 (vcall E.P base m .len [108] [v9_3]) fun v10_4 m => (r59_L0 call fuel base (fun y4_22 y5_23 m => (some (.ret (.tuple #[y4_22, y5_23]), m))) (fun y1_24 m => (some (.ret (.tuple #[y1_24, (.int .i64 0)]), m))) fuel x1 v2_1 v9_3 v10_4 (.int .i64 0) m)))))
def keep59 : Keep := { region := fun i => ([[1, 2], [1, 2, 9, 10, 11], [1, 2, 9, 10, 11, 12], [1, 2, 6, 7, 9, 10, 11], [1, 2, 6, 7, 9, 10, 11, 25], [4, 5], [1, 2, 9, 10, 11], [1, 2, 9, 10, 11], [4, 5]] : List (List Nat))[i]?, exit := fun i => ([[1], [1, 2, 9, 10, 11]] : List (List Nat))[i]?, ret := some [4, 5] }
noncomputable def r59_L0_R (call : CallF) (fuel base n : Nat) (vs : List Value) (m : M) (K : KT) : Res2 := match vs with
  | [x1, x2, x9, x10, x11] => r59_L0 call fuel base (fun y4 y5 m => K .ret { n := 42, l := [(4, y4), (5, y5)] } m) (fun y1 m => K (.exit 0) { n := 42, l := [(1, y1)] } m) n x1 x2 x9 x10 x11 m
  | _ => none
noncomputable def lp59 (call : CallF) (fuel base : Nat) : Lp := lpsel [(0, fun T m K => kslots 42 [1, 2, 9, 10, 11] T fun vs => r59_L0_R call fuel base fuel vs m K)]
noncomputable def c59 : Code := Tryz.f59.body.getD .skip
theorem r59_L0_lk (call : CallF) (fuel base : Nat) : LoopsOk E call (lp59 call fuel base) fuel base 0 (loopB (blockB (seqR (seqL (seqR c59))))) = (And True (And (And True True) (And (And True (And (And True (And (And True True) True)) True)) True))) := by kernel_rfl
theorem r59_L0_ok (call : CallF) (fuel base : Nat) : LpOk E call (lp59 call fuel base) fuel base 0 (loopB (blockB (seqR (seqL (seqR c59))))) := by
  refine loop_ok (kp := keep59) (hb := Eq.mpr (r59_L0_lk call fuel base) (And.intro trivial (And.intro (And.intro trivial trivial) (And.intro (And.intro trivial (And.intro (And.intro trivial (And.intro (And.intro trivial trivial) trivial)) trivial)) trivial)))) 42 [1, 2, 9, 10, 11] (fun n vs m K => r59_L0_R call fuel base n vs m K) ?_ ?_ (fun _ _ _ => rfl)
  · intro vs m K
    unfold r59_L0_R
    split <;> rfl
  · intro n vs m K hl
    match vs, hl with
    | [x1, x2, x9, x10, x11], _ => show _ = _; kernel_rfl
theorem r59_eq (call : CallF) (fuel base : Nat) (x0 : Value) (x1 : Value) (m : M) : kbody E call keep59 (lp59 call fuel base) base Tryz.f59 [x0, x1] m = r59 call fuel base x0 x1 m := by
  kernel_rfl
noncomputable def rf59 : RF := fun call fuel base args m => match args with
  | [x0, x1] => r59 call fuel base x0 x1 m
  | _ => none
theorem r59_lk (call : CallF) (fuel base : Nat) : LoopsOk E call (lp59 call fuel base) fuel base 0 c59 = (And True (And (And True (LpOk E call (lp59 call fuel base) fuel base 0 (loopB (blockB (seqR (seqL (seqR c59))))))) (And True True))) := by kernel_rfl
theorem r59_fn : E.P.funcs[59]? = some Tryz.f59 := by kernel_rfl
theorem r59_body : Tryz.f59.body = some c59 := by kernel_rfl
theorem rf59_ok : RFok E 59 rf59 := by
  show RFok' E 59 rf59
  refine ⟨Tryz.f59, r59_fn, fun call fuel base args m r _ h => ?_⟩
  unfold rf59 at h
  split at h
  · rw [← r59_eq] at h
    exact kbody_sound (c := c59) r59_body (Eq.mpr (r59_lk call fuel base) (And.intro trivial (And.intro (And.intro trivial (r59_L0_ok call fuel base)) (And.intro trivial trivial)))) h
  · simp at h
end Go.AM
namespace Go.AM
open Go Go.Proofs
noncomputable def r60_L0 (call : CallF) (fuel base : Nat) (kp : Value → M → Res2) (kx0 : Value → M → Res2) (n : Nat) : Value → Value → Value → Value → Value → Value → M → Res2 :=
  Nat.rec (motive := fun _ => Value → Value → Value → Value → Value → Value → M → Res2) (fun _ _ _ _ _ _ _ => none)
    (fun _ ih x1 x2 x7 x26 x27 x28 m =>
      (k1 (mbin E .lss 3 x28 x27) fun v29_16 => (kb v29_16 (k1 (mindexAddr E.P 91 x26 x28) fun v31_17 => (k1 (xload E.P m 99 v31_17) fun v32_18 => (k2 (xalloc E.P m 99) fun v9_19 m => (ks (xstore E.P base m 99 v9_19 v32_18) fun m => (k1 (mfieldAddr E.P 99 v9_19 0) fun v35_20 => (k1 (xload E.P m 70 v35_20) fun v36_21 => (kc (call base 81 [v36_21, x1] m) (fun v38_22 m => (kc (call base 65 [v38_22, x2] m) (fun v40_23 m => (kc (call base 86 [v40_23, x2] m) (fun v42_24 m => (k1 (mindexAddr E.P 55 x7 x28) fun v43_25 => (ks (xstore E.P base m 50 v43_25 v42_24) fun m => (k1 (mbin E .add 3 x28 (.int .i64 1)) fun v44_26 => (ih x1 x2 x7 x26 x27 v44_26 m))))) (fun v m => kp v m))) (fun v m => kp v m))) (fun v m => kp v m)))))))) (kx0 x7 m)))) n
noncomputable def r60 (call : CallF) (fuel base : Nat) (x0 : Value) (x1 : Value) (x2 : Value) (m : M) : Res2 :=
  (k1 (mnil x0) fun v11_1 => (k1 (mfieldAddr E.P 93 v11_1 0) fun v12_2 => (k1 (mfieldAddr E.P 44 v12_2 0) fun v13_3 => (k1 (xload E.P m 3 v13_3) fun v14_4 => (k1 (mnil x0) fun v16_5 => (k1 (mfieldAddr E.P 93 v16_5 0) fun v17_6 => (k1 (mfieldAddr E.P 44 v17_6 1) fun v18_7 => (k1 (xload E.P m 42 v18_7) fun v19_8 => (k2 (vcall E.P base m .len [42] [v19_8]) fun v20_9 m => (k1 (mbin E .add 3 v14_4 v20_9) fun v21_10 => (k2 (xmakeSlice E.P m 55 v21_10 v21_10) fun v22_11 m => (k1 (mnil x0) fun v24_12 => (k1 (mfieldAddr E.P 93 v24_12 1) fun v25_13 => (k1 (xload E.P m 91 v25_13) fun v26_14 => (k2 (vcall E.P base m .len [91] [v26_14]) fun v27_15 m => (r60_L0 call fuel base (fun v m => some (.pan v, m)) (fun y7_27 m => (fVal y7_27 fun v => some (.ret v, m))) fuel x1 x2 v22_11 v26_14 v27_15 (.int .i64 0) m))))))))))))))))
def keep60 : Keep := { region := fun i => ([[0, 1, 2], [0, 1, 2, 7], [1, 2, 7, 26, 27, 28], [1, 2, 7, 26, 27, 28, 29], [1, 2, 7, 8, 9, 26, 27, 28], [1, 2, 7, 26, 27, 28], [1, 2, 7, 26, 27, 28], [6]] : List (List Nat))[i]?, exit := fun i => ([[7], [1, 2, 7, 26, 27, 28]] : List (List Nat))[i]?, ret := some [6] }
noncomputable def r60_L0_R (call : CallF) (fuel base n : Nat) (vs : List Value) (m : M) (K : KT) : Res2 := match vs with
  | [x1, x2, x7, x26, x27, x28] => r60_L0 call fuel base (fun v m => K (.pan v) { n := 46, l := [] } m) (fun y7 m => K (.exit 0) { n := 46, l := [(7, y7)] } m) n x1 x2 x7 x26 x27 x28 m
  | _ => none
noncomputable def lp60 (call : CallF) (fuel base : Nat) : Lp := lpsel [(0, fun T m K => kslots 46 [1, 2, 7, 26, 27, 28] T fun vs => r60_L0_R call fuel base fuel vs m K)]
noncomputable def c60 : Code := Tryz.f60.body.getD .skip
theorem r60_L0_lk (call : CallF) (fuel base : Nat) : LoopsOk E call (lp60 call fuel base) fuel base 0 (loopB (blockB (seqR (seqL (seqR (seqR c60)))))) = (And True (And (And True True) (And (And True True) True))) := by kernel_rfl
theorem r60_L0_ok (call : CallF) (fuel base : Nat) : LpOk E call (lp60 call fuel base) fuel base 0 (loopB (blockB (seqR (seqL (seqR (seqR c60)))))) := by
  refine loop_ok (kp := keep60) (hb := Eq.mpr (r60_L0_lk call fuel base) (And.intro trivial (And.intro (And.intro trivial trivial) (And.intro (And.intro trivial trivial) trivial)))) 46 [1, 2, 7, 26, 27, 28] (fun n vs m K => r60_L0_R call fuel base n vs m K) ?_ ?_ (fun _ _ _ => rfl)
  · intro vs m K
    unfold r60_L0_R
    split <;> rfl
  · intro n vs m K hl
    match vs, hl with
    | [x1, x2, x7, x26, x27, x28], _ => show _ = _; kernel_rfl
theorem r60_eq (call : CallF) (fuel base : Nat) (x0 : Value) (x1 : Value) (x2 : Value) (m : M) : kbody E call keep60 (lp60 call fuel base) base Tryz.f60 [x0, x1, x2] m = r60 call fuel base x0 x1 x2 m := by
  kernel_rfl
noncomputable def rf60 : RF := fun call fuel base args m => match args with
  | [x0, x1, x2] => r60 call fuel base x0 x1 x2 m
  | _ => none
theorem r60_lk (call : CallF) (fuel base : Nat) : LoopsOk E call (lp60 call fuel base) fuel base 0 c60 = (And True (And True (And (And True (LpOk E call (lp60 call fuel base) fuel base 0 (loopB (blockB (seqR (seqL (seqR (seqR c60)))))))) (And True True)))) := by kernel_rfl
theorem r60_fn : E.P.funcs[60]? = some Tryz.f60 := by kernel_rfl
theorem r60_body : Tryz.f60.body = some c60 := by kernel_rfl
theorem rf60_ok : RFok E 60 rf60 := by
  show RFok' E 60 rf60
  refine ⟨Tryz.f60, r60_fn, fun call fuel base args m r _ h => ?_⟩
  unfold rf60 at h
  split at h
  · rw [← r60_eq] at h
    exact kbody_sound (c := c60) r60_body (Eq.mpr (r60_lk call fuel base) (And.intro trivial (And.intro trivial (And.intro (And.intro trivial (r60_L0_ok call fuel base)) (And.intro trivial trivial))))) h
  · simp at h
end Go.AM
namespace Go.AM
open Go Go.Proofs
noncomputable def r61_L0 (call : CallF) (fuel base : Nat) (kx0 : Value → M → Res2) (n : Nat) : Value → Value → Value → Value → Value → M → Res2 :=
  Nat.rec (motive := fun _ => Value → Value → Value → Value → Value → M → Res2) (fun _ _ _ _ _ _ => none)
    (fun _ ih x1 x5 x17 x18 x19 m =>
      (k1 (mbin E .lss 3 x19 x18) fun v20_10 => (kb v20_10 (k1 (mindexAddr E.P 91 x17 x19) fun v22_11 => (k1 (xload E.P m 99 v22_11) fun v23_12 => (k2 (xalloc E.P m 99) fun v7_13 m => (ks (xstore E.P base m 99 v7_13 v23_12) fun m => (k1 (mindexAddr E.P 55 x1 x19) fun v27_14 => (k1 (xload E.P m 50 v27_14) fun v28_15 => (kc (kB m (call m.length 50 [v28_15, (.int .i64 1)] m)) (fun v29_16 m => (k1 (mfieldAddr E.P 99 v7_13 0) fun v30_17 => (k1 (xload E.P m 70 v30_17) fun v31_18 => (kc (kB m (call m.length 83 [x5, v29_16, v31_18] m)) (fun v32_19 m => (k1 (mbin E .add 3 x19 (.int .i64 1)) fun v33_20 => (ih x1 v32_19 x17 x18 v33_20 m))) (fun _ _ => none))))) (fun _ _ => none)))))))) (kx0 x5 m)))) n
noncomputable def r61 (call : CallF) (fuel base : Nat) (x0 : Value) (x1 : Value) (m : M) : Res2 :=
  (k1 (mnil x0) fun v9_1 => (k1 (mfieldAddr E.P 93 v9_1 0) fun v10_2 => (k1 (mfieldAddr E.P 44 v10_2 0) fun v11_3 => (k1 (xload E.P m 3 v11_3) fun v12_4 => (k2 (xmakeSlice E.P m 70 v12_4 v12_4) fun v13_5 m => (k1 (mnil x0) fun v15_6 => (k1 (mfieldAddr E.P 93 v15_6 1) fun v16_7 => (k1 (xload E.P m 91 v16_7) fun v17_8 => (k2 (vcall E.P base m .len [91] [v17_8]) fun v18_9 m => (r61_L0 call fuel base (fun y5_21 m => (fVal y5_21 fun v => some (.ret v, m))) fuel x1 v13_5 v17_8 v18_9 (.int .i64 0) m))))))))))
def keep61 : Keep := { region := fun i => ([[0, 1], [0, 1, 5], [1, 5, 17, 18, 19], [1, 5, 17, 18, 19, 20], [1, 5, 6, 7, 17, 18, 19], [1, 5, 17, 18, 19], [1, 5, 17, 18, 19], [4]] : List (List Nat))[i]?, exit := fun i => ([[5], [1, 5, 17, 18, 19]] : List (List Nat))[i]?, ret := some [4] }
noncomputable def r61_L0_R (call : CallF) (fuel base n : Nat) (vs : List Value) (m : M) (K : KT) : Res2 := match vs with
  | [x1, x5, x17, x18, x19] => r61_L0 call fuel base (fun y5 m => K (.exit 0) { n := 35, l := [(5, y5)] } m) n x1 x5 x17 x18 x19 m
  | _ => none
noncomputable def lp61 (call : CallF) (fuel base : Nat) : Lp := lpsel [(0, fun T m K => kslots 35 [1, 5, 17, 18, 19] T fun vs => r61_L0_R call fuel base fuel vs m K)]
noncomputable def c61 : Code := Tryz.f61.body.getD .skip
theorem r61_L0_lk (call : CallF) (fuel base : Nat) : LoopsOk E call (lp61 call fuel base) fuel base 0 (loopB (blockB (seqR (seqL (seqR (seqR c61)))))) = (And True (And (And True True) (And (And True True) True))) := by kernel_rfl
theorem r61_L0_ok (call : CallF) (fuel base : Nat) : LpOk E call (lp61 call fuel base) fuel base 0 (loopB (blockB (seqR (seqL (seqR (seqR c61)))))) := by
  refine loop_ok (kp := keep61) (hb := Eq.mpr (r61_L0_lk call fuel base) (And.intro trivial (And.intro (And.intro trivial trivial) (And.intro (And.intro trivial trivial) trivial)))) 35 [1, 5, 17, 18, 19] (fun n vs m K => r61_L0_R call fuel base n vs m K) ?_ ?_ (fun _ _ _ => rfl)
  · intro vs m K
    unfold r61_L0_R
    split <;> rfl
  · intro n vs m K hl
    match vs, hl with
    | [x1, x5, x17, x18, x19], _ => show _ = _; kernel_rfl
theorem r61_eq (call : CallF) (fuel base : Nat) (x0 : Value) (x1 : Value) (m : M) : kbody E call keep61 (lp61 call fuel base) base Tryz.f61 [x0, x1] m = r61 call fuel base x0 x1 m := by
  kernel_rfl
noncomputable def rf61 : RF := fun call fuel base args m => match args with
  | [x0, x1] => r61 call fuel base x0 x1 m
  | _ => none
theorem r61_lk (call : CallF) (fuel base : Nat) : LoopsOk E call (lp61 call fuel base) fuel base 0 c61 = (And True (And True (And (And True (LpOk E call (lp61 call fuel base) fuel base 0 (loopB (blockB (seqR (seqL (seqR (seqR c61)))))))) (And True True)))) := by kernel_rfl
theorem r61_fn : E.P.funcs[61]? = some Tryz.f61 := by kernel_rfl
theorem r61_body : Tryz.f61.body = some c61 := by kernel_rfl
theorem rf61_ok : RFok E 61 rf61 := by
  show RFok' E 61 rf61
  refine ⟨Tryz.f61, r61_fn, fun call fuel base args m r _ h => ?_⟩
  unfold rf61 at h
  split at h
  · rw [← r61_eq] at h
    exact kbody_sound (c := c61) r61_body (Eq.mpr (r61_lk call fuel base) (And.intro trivial (And.intro trivial (And.intro (And.intro trivial (r61_L0_ok call fuel base)) (And.intro trivial trivial))))) h
  · simp at h
end Go.AM
namespace Go.AM
open Go Go.Proofs
noncomputable def r62_L2 (call : CallF) (fuel base : Nat) (kx2 : Value → Value → Value → Value → Value → M → Res2) (n : Nat) : Value → Value → Value → Value → Value → Value → M → Res2 :=
  Nat.rec (motive := fun _ => Value → Value → Value → Value → Value → Value → M → Res2) (fun _ _ _ _ _ _ _ => none)
    (fun _ ih x1 x2 x5 x6 x7 x8 m =>
      (k1 (mbin E .leq 3 x8 x1) fun v37_19 => (kb v37_19 (k1 (mindexAddr E.P 55 x5 x8) fun v43_20 => (k1 (xload E.P m 50 v43_20) fun v44_21 => (k1 (mfieldAddr E.P 110 x2 1) fun v45_22 => (k1 (xload E.P m 108 v45_22) fun v46_23 => (k1 (mindexAddr E.P 108 v46_23 x6) fun v48_24 => (k1 (xload E.P m 55 v48_24) fun v49_25 => (k1 (mindexAddr E.P 55 v49_25 x8) fun v51_26 => (k1 (xload E.P m 50 v51_26) fun v52_27 => (k1 (mbin E .mul 50 v44_21 v52_27) fun v53_28 => (k1 (mbin E .add 50 x7 v53_28) fun v54_29 => (k1 (mbin E .add 3 x8 (.int .i64 1)) fun v39_30 => (ih x1 x2 x5 x6 v54_29 v39_30 m)))))))))))) (kx2 x1 x2 x5 x6 x7 m)))) n
noncomputable def r62_L0 (call : CallF) (fuel base : Nat) (kx0 : Value → M → Res2) (n : Nat) : Value → Value → Value → Value → M → Res2 :=
  Nat.rec (motive := fun _ => Value → Value → Value → Value → M → Res2) (fun _ _ _ _ _ => none)
    (fun _ ih x1 x2 x5 x6 m =>
      (k1 (mbin E .geq 3 x6 (.int .i64 0)) fun v30_17 => (kb v30_17 (k1 (mbin E .add 3 x6 (.int .i64 1)) fun v34_18 => (r62_L2 call fuel base (fun y1_31 y2_32 y5_33 y6_34 y7_35 m => (k1 (mfieldAddr E.P 110 y2_32 1) fun v58_36 => (k1 (xload E.P m 108 v58_36) fun v59_37 => (k1 (mindexAddr E.P 108 v59_37 y6_34) fun v61_38 => (k1 (xload E.P m 55 v61_38) fun v62_39 => (k1 (mindexAddr E.P 55 v62_39 y6_34) fun v64_40 => (k1 (xload E.P m 50 v64_40) fun v65_41 => (k1 (mbin E .quo 50 y7_35 v65_41) fun v66_42 => (k1 (mun .neg v66_42) fun v67_43 => (k1 (mfieldAddr E.P 110 y2_32 0) fun v68_44 => (k1 (xload E.P m 3 v68_44) fun v69_45 => (kc (kB m (call m.length 86 [v67_43, v69_45] m)) (fun v70_46 m => (k1 (mindexAddr E.P 55 y5_33 y6_34) fun v71_47 => (ks (xstore E.P base m 50 v71_47 v70_46) fun m => (k1 (mbin E .sub 3 y6_34 (.int .i64 1)) fun v32_48 => (ih y1_31 y2_32 y5_33 v32_48 m))))) (fun _ _ => none))))))))))))) fuel x1 x2 x5 x6 (.int .i64 0) v34_18 m)) (kx0 x5 m)))) n
noncomputable def r62 (call : CallF) (fuel base : Nat) (x0 : Value) (x1 : Value) (m : M) : Res2 :=
  (k2 (xbox m x0) fun v2_1 m => (k1 (mfieldAddr E.P 110 v2_1 1) fun v9_2 => (k1 (xload E.P m 108 v9_2) fun v10_3 => (k2 (vcall E.P base m .len [108] [v10_3]) fun v11_4 m => (k2 (xmakeSlice E.P m 55 v11_4 v11_4) fun v12_5 m => (k1 (mfieldAddr E.P 110 v2_1 0) fun v15_6 => (k1 (xload E.P m 3 v15_6) fun v16_7 => (k1 (mfieldAddr E.P 110 v2_1 1) fun v17_8 => (k1 (xload E.P m 108 v17_8) fun v18_9 => (k1 (mindexAddr E.P 108 v18_9 x1) fun v20_10 => (k1 (xload E.P m 55 v20_10) fun v21_11 => (k1 (mindexAddr E.P 55 v21_11 x1) fun v23_12 => (k1 (xload E.P m 50 v23_12) fun v24_13 => (k1 (mbin E .quo 50 v16_7 v24_13) fun v25_14 => (k1 (mindexAddr E.P 55 v12_5 x1) fun v26_15 => (ks (xstore E.P base m 50 v26_15 v25_14) fun m => (k1 (mbin E .sub 3 x1 (.int .i64 1)) fun v28_16 => (r62_L0 call fuel base (fun y5_49 m => (fVal y5_49 fun v => some (.ret v, m))) fuel x1 v2_1 v12_5 v28_16 m))))))))))))))))))
def keep62 : Keep := { region := fun i => ([[1, 2], [1, 2, 5], [1, 2, 5], [1, 2, 5, 6], [1, 2, 5, 6, 30], [1, 2, 5, 6], [1, 2, 5, 6, 7], [1, 2, 5, 6, 7, 8], [1, 2, 5, 6, 7, 8, 37], [1, 2, 5, 6, 7, 8], [1, 2, 5, 6, 7, 8], [1, 2, 5, 6], [4]] : List (List Nat))[i]?, exit := fun i => ([[5], [1, 2, 5, 6], [1, 2, 5, 6, 7], [1, 2, 5, 6, 7, 8]] : List (List Nat))[i]?, ret := some [4] }
noncomputable def r62_L2_R (call : CallF) (fuel base n : Nat) (vs : List Value) (m : M) (K : KT) : Res2 := match vs with
  | [x1, x2, x5, x6, x7, x8] => r62_L2 call fuel base (fun y1 y2 y5 y6 y7 m => K (.exit 2) { n := 73, l := [(1, y1), (2, y2), (5, y5), (6, y6), (7, y7)] } m) n x1 x2 x5 x6 x7 x8 m
  | _ => none
noncomputable def r62_L0_R (call : CallF) (fuel base n : Nat) (vs : List Value) (m : M) (K : KT) : Res2 := match vs with
  | [x1, x2, x5, x6] => r62_L0 call fuel base (fun y5 m => K (.exit 0) { n := 73, l := [(5, y5)] } m) n x1 x2 x5 x6 m
  | _ => none
noncomputable def lp62 (call : CallF) (fuel base : Nat) : Lp := lpsel [(2, fun T m K => kslots 73 [1, 2, 5, 6, 7, 8] T fun vs => r62_L2_R call fuel base fuel vs m K), (0, fun T m K => kslots 73 [1, 2, 5, 6] T fun vs => r62_L0_R call fuel base fuel vs m K)]
noncomputable def c62 : Code := Tryz.f62.body.getD .skip
theorem r62_L2_lk (call : CallF) (fuel base : Nat) : LoopsOk E call (lp62 call fuel base) fuel base 2 (loopB (blockB (seqR (seqL (seqR (blockB (seqL (seqR (loopB (blockB (seqR (seqL (seqR (seqR (seqR c62))))))))))))))) = (And (And True (And True True)) (And True True)) := by kernel_rfl
theorem r62_L2_ok (call : CallF) (fuel base : Nat) : LpOk E call (lp62 call fuel base) fuel base 2 (loopB (blockB (seqR (seqL (seqR (blockB (seqL (seqR (loopB (blockB (seqR (seqL (seqR (seqR (seqR c62))))))))))))))) := by
  refine loop_ok (kp := keep62) (hb := Eq.mpr (r62_L2_lk call fuel base) (And.intro (And.intro trivial (And.intro trivial trivial)) (And.intro trivial trivial))) 73 [1, 2, 5, 6, 7, 8] (fun n vs m K => r62_L2_R call fuel base n vs m K) ?_ ?_ (fun _ _ _ => rfl)
  · intro vs m K
    unfold r62_L2_R
    split <;> rfl
  · intro n vs m K hl
    match vs, hl with
    | [x1, x2, x5, x6, x7, x8], _ => show _ = _; kernel_rfl
theorem r62_L0_lk (call : CallF) (fuel base : Nat) : LoopsOk E call (lp62 call fuel base) fuel base 0 (loopB (blockB (seqR (seqL (seqR (seqR (seqR c62))))))) = (And (And True (And True True)) (And (And True (And (And True (LpOk E call (lp62 call fuel base) fuel base 2 (loopB (blockB (seqR (seqL (seqR (blockB (seqL (seqR (loopB (blockB (seqR (seqL (seqR (seqR (seqR c62))))))))))))))))) True)) True)) := by kernel_rfl
theorem r62_L0_ok (call : CallF) (fuel base : Nat) : LpOk E call (lp62 call fuel base) fuel base 0 (loopB (blockB (seqR (seqL (seqR (seqR (seqR c62))))))) := by
  refine loop_ok (kp := keep62) (hb := Eq.mpr (r62_L0_lk call fuel base) (And.intro (And.intro trivial (And.intro trivial trivial)) (And.intro (And.intro trivial (And.intro (And.intro trivial (r62_L2_ok call fuel base)) trivial)) trivial))) 73 [1, 2, 5, 6] (fun n vs m K => r62_L0_R call fuel base n vs m K) ?_ ?_ (fun _ _ _ => rfl)
  · intro vs m K
    unfold r62_L0_R
    split <;> rfl
  · intro n vs m K hl
    match vs, hl with
    | [x1, x2, x5, x6], _ => show _ = _; kernel_rfl
theorem r62_eq (call : CallF) (fuel base : Nat) (x0 : Value) (x1 : Value) (m : M) : kbody E call keep62 (lp62 call fuel base) base Tryz.f62 [x0, x1] m = r62 call fuel base x0 x1 m := by
  kernel_rfl
noncomputable def rf62 : RF := fun call fuel base args m => match args with
  | [x0, x1] => r62 call fuel base x0 x1 m
  | _ => none
theorem r62_lk (call : CallF) (fuel base : Nat) : LoopsOk E call (lp62 call fuel base) fuel base 0 c62 = (And True (And True (And True (And (And True (LpOk E call (lp62 call fuel base) fuel base 0 (loopB (blockB (seqR (seqL (seqR (seqR (seqR c62))))))))) (And True True))))) := by kernel_rfl
theorem r62_fn : E.P.funcs[62]? = some Tryz.f62 := by kernel_rfl
theorem r62_body : Tryz.f62.body = some c62 := by kernel_rfl
theorem rf62_ok : RFok E 62 rf62 := by
  show RFok' E 62 rf62
  refine ⟨Tryz.f62, r62_fn, fun call fuel base args m r _ h => ?_⟩
  unfold rf62 at h
  split at h
  · rw [← r62_eq] at h
    exact kbody_sound (c := c62) r62_body (Eq.mpr (r62_lk call fuel base) (And.intro trivial (And.intro trivial (And.intro trivial (And.intro (And.intro trivial (r62_L0_ok call fuel base)) (And.intro trivial trivial)))))) h
  · simp at h
end Go.AM
