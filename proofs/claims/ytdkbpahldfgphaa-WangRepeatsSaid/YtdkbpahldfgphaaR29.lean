import Derived.KernelRfl
import Derived.Laws.BytesArg
import Derived.Laws.StructEq
import Derived.Scope
import Derived.Test.YtdkbpahldfgphaaRows
import Derived.WalkKit
import Derived.Test.YtdkbpahldfgphaaAmB
import Derived.Test.YtdkbpahldfgphaaAmModel
import Derived.Test.YtdkbpahldfgphaaAmOps5
import Derived.Test.YtdkbpahldfgphaaAmOps6
import Derived.Test.YtdkbpahldfgphaaAmCode
import Derived.Test.YtdkbpahldfgphaaAmX
import Derived.Test.YtdkbpahldfgphaaAmEq
import Derived.Test.YtdkbpahldfgphaaRBase
set_option linter.unusedVariables false
set_option linter.unusedSimpArgs false
set_option linter.unusedSectionVars false
namespace Go.AM
open Go Go.Proofs
noncomputable def r29_L2 (call : CallF) (fuel base : Nat) (kp : Value → M → Res2) (kx2 : Value → Value → Value → Value → Value → Value → M → Res2) (n : Nat) : Value → Value → Value → Value → Value → Value → Value → Value → Value → M → Res2 :=
  Nat.rec (motive := fun _ => Value → Value → Value → Value → Value → Value → Value → Value → Value → M → Res2) (fun _ _ _ _ _ _ _ _ _ _ => none)
    (fun _ ih x1 x2 x5 x7 x8 x9 x25 x26 x27 m =>
      (k1 (mbin E .lss 3 x27 x26) fun v28_10 => (kb v28_10 (k1 (mindexAddr E.P 66 x25 x27) fun v30_11 => (k1 (xload E.P m 37 v30_11) fun v31_12 => (k2 (vcall E.P base m .len [37] [v31_12]) fun v33_13 m => (k1 (mbin E .gtr 3 v33_13 (.int .i64 0)) fun v34_14 => (kb v34_14 (k1 (mindexAddr E.P 28 x5 x9) fun v38_15 => (k1 (xload E.P m 37 v38_15) fun v39_16 => (k1 (mindexAddr E.P 37 v39_16 x27) fun v41_17 => (k1 (xload E.P m 3 v41_17) fun v42_18 => (k1 (mbin E .eql 3 v42_18 (.int .i64 0)) fun v43_19 => (kb v43_19 (k1 (mbin E .sub 3 x9 (.int .i64 1)) fun v48_20 => (k1 (mindexAddr E.P 28 x5 v48_20) fun v49_21 => (k1 (xload E.P m 37 v49_21) fun v50_22 => (k1 (mindexAddr E.P 37 v50_22 x27) fun v52_23 => (k1 (xload E.P m 3 v52_23) fun v53_24 => (k1 (mbin E .gtr 3 v53_24 (.int .i64 0)) fun v54_25 => (kb v54_25 (k2 (xbuildSlice E.P m 37 1 [(0, x9)]) fun v58_26 m => (k1 (mfieldAddr E.P 47 x2 0) fun v60_27 => (k1 (xload E.P m 3 v60_27) fun v61_28 => (kc (call base 53 [x27, v61_28] m) (fun v62_29 m => (k2 (xbuildSlice E.P m 28 2 [(0, v58_26), (1, v62_29)]) fun v63_30 m => (kc (call base 52 [v63_30] m) (fun v64_31 m => (k2 (xbuildSlice E.P m 28 1 [(0, v64_31)]) fun v65_32 m => (k2 (vcall E.P base m .append [28, 28] [x8, v65_32]) fun v66_33 m => (k1 (mbin E .add 3 x27 (.int .i64 1)) fun v67_34 => (ih x1 x2 x5 x7 v66_33 x9 x25 x26 v67_34 m))))) (fun v m => kp v m)))) (fun v m => kp v m))))) (k1 (mbin E .add 3 x27 (.int .i64 1)) fun v67_35 => (ih x1 x2 x5 x7 x8 x9 x25 x26 v67_35 m))))))))) (k1 (mbin E .add 3 x27 (.int .i64 1)) fun v67_36 => (ih x1 x2 x5 x7 x8 x9 x25 x26 v67_36 m)))))))) (k1 (mbin E .add 3 x27 (.int .i64 1)) fun v67_37 => (ih x1 x2 x5 x7 x8 x9 x25 x26 v67_37 m))))))) (kx2 x1 x2 x5 x7 x8 x9 m)))) n
noncomputable def r29_L0 (call : CallF) (fuel base : Nat) (kp : Value → M → Res2) (kx0 : Value → M → Res2) (n : Nat) : Value → Value → Value → Value → Value → Value → M → Res2 :=
  Nat.rec (motive := fun _ => Value → Value → Value → Value → Value → Value → M → Res2) (fun _ _ _ _ _ _ _ => none)
    (fun _ ih x1 x2 x5 x7 x8 x9 m =>
      (k1 (mbin E .lss 3 x9 x1) fun v22_8 => (kb v22_8 (k2 (vcall E.P base m .len [66] [x7]) fun v26_9 m => (r29_L2 call fuel base (fun v m => kp v m) (fun y1_38 y2_39 y5_40 y7_41 y8_42 y9_43 m => (k1 (mbin E .add 3 y9_43 (.int .i64 1)) fun v24_44 => (ih y1_38 y2_39 y5_40 y7_41 y8_42 v24_44 m))) fuel x1 x2 x5 x7 x8 x9 x7 v26_9 (.int .i64 0) m)) (kx0 x8 m)))) n
noncomputable def r29 (call : CallF) (fuel base : Nat) (x0 : Value) (x1 : Value) (m : M) : Res2 :=
  (k2 (xbox m x0) fun v2_1 m => (k1 (xload E.P m 47 v2_1) fun v12_2 => (kc (call base 39 [v12_2, x1] m) (fun v14_3 m => (k1 (xload E.P m 47 v2_1) fun v16_4 => (kc (call base 44 [v16_4] m) (fun v17_5 m => (k1 (mextract 0 v17_5) fun v18_6 => (k1 (mextract 1 v17_5) fun v19_7 => (r29_L0 call fuel base (fun v m => some (.pan v, m)) (fun y8_45 m => (fVal y8_45 fun v => some (.ret v, m))) fuel x1 v2_1 v14_3 v19_7 (.slice none 0 0) (.int .i64 1) m)))) (fun v m => some (.pan v, m))))) (fun v m => some (.pan v, m)))))
def keep29 : Keep := { region := fun i => ([[1, 2], [1, 2, 5], [1, 2, 5, 7], [1, 2, 5, 7, 8], [1, 2, 5, 7, 8, 9], [1, 2, 5, 7, 8, 9, 22], [1, 2, 5, 7, 8, 9], [1, 2, 5, 7, 8, 9, 25, 26, 27], [1, 2, 5, 7, 8, 9, 25, 26, 27, 28], [1, 2, 5, 7, 8, 9, 10, 11, 25, 26, 27], [1, 2, 5, 7, 8, 9, 10, 25, 26, 27, 55], [1, 2, 5, 7, 8, 9, 25, 26, 27], [1, 2, 5, 7, 8, 9, 25, 26, 27], [4]] : List (List Nat))[i]?, exit := fun i => ([[8], [1, 2, 5, 7, 8, 9], [1, 2, 5, 7, 8, 9], [1, 2, 5, 7, 8, 9, 25, 26, 27]] : List (List Nat))[i]?, ret := some [4] }
noncomputable def r29_L2_R (call : CallF) (fuel base n : Nat) (vs : List Value) (m : M) (K : KT) : Res2 := match vs with
  | [x1, x2, x5, x7, x8, x9, x25, x26, x27] => r29_L2 call fuel base (fun v m => K (.pan v) { n := 69, l := [] } m) (fun y1 y2 y5 y7 y8 y9 m => K (.exit 2) { n := 69, l := [(1, y1), (2, y2), (5, y5), (7, y7), (8, y8), (9, y9)] } m) n x1 x2 x5 x7 x8 x9 x25 x26 x27 m
  | _ => none
noncomputable def r29_L0_R (call : CallF) (fuel base n : Nat) (vs : List Value) (m : M) (K : KT) : Res2 := match vs with
  | [x1, x2, x5, x7, x8, x9] => r29_L0 call fuel base (fun v m => K (.pan v) { n := 69, l := [] } m) (fun y8 m => K (.exit 0) { n := 69, l := [(8, y8)] } m) n x1 x2 x5 x7 x8 x9 m
  | _ => none
noncomputable def lp29 (call : CallF) (fuel base : Nat) : Lp := lpsel [(2, fun T m K => kslots 69 [1, 2, 5, 7, 8, 9, 25, 26, 27] T fun vs => r29_L2_R call fuel base fuel vs m K), (0, fun T m K => kslots 69 [1, 2, 5, 7, 8, 9] T fun vs => r29_L0_R call fuel base fuel vs m K)]
noncomputable def c29 : Code := Try.f29.body.getD .skip
theorem r29_L2_lk (call : CallF) (fuel base : Nat) : LoopsOk E call (lp29 call fuel base) fuel base 2 (loopB (blockB (seqR (blockB (seqL (seqR (loopB (blockB (seqR (seqL (seqR (seqR (seqR (seqR c29)))))))))))))) = (And True (And (And True True) (And (And True (And True (And True True))) True))) := by kernel_rfl
theorem r29_L2_ok (call : CallF) (fuel base : Nat) : LpOk E call (lp29 call fuel base) fuel base 2 (loopB (blockB (seqR (blockB (seqL (seqR (loopB (blockB (seqR (seqL (seqR (seqR (seqR (seqR c29)))))))))))))) := by
  refine loop_ok (kp := keep29) (hb := Eq.mpr (r29_L2_lk call fuel base) (And.intro trivial (And.intro (And.intro trivial trivial) (And.intro (And.intro trivial (And.intro trivial (And.intro trivial trivial))) trivial)))) 69 [1, 2, 5, 7, 8, 9, 25, 26, 27] (fun n vs m K => r29_L2_R call fuel base n vs m K) ?_ ?_ (fun _ _ _ => rfl)
  · intro vs m K
    unfold r29_L2_R
    split <;> rfl
  · intro n vs m K hl
    match vs, hl with
    | [x1, x2, x5, x7, x8, x9, x25, x26, x27], _ => show _ = _; kernel_rfl
theorem r29_L0_lk (call : CallF) (fuel base : Nat) : LoopsOk E call (lp29 call fuel base) fuel base 0 (loopB (blockB (seqR (seqL (seqR (seqR (seqR (seqR c29)))))))) = (And (And True (And True True)) (And (And True (LpOk E call (lp29 call fuel base) fuel base 2 (loopB (blockB (seqR (blockB (seqL (seqR (loopB (blockB (seqR (seqL (seqR (seqR (seqR (seqR c29)))))))))))))))) True)) := by kernel_rfl
theorem r29_L0_ok (call : CallF) (fuel base : Nat) : LpOk E call (lp29 call fuel base) fuel base 0 (loopB (blockB (seqR (seqL (seqR (seqR (seqR (seqR c29)))))))) := by
  refine loop_ok (kp := keep29) (hb := Eq.mpr (r29_L0_lk call fuel base) (And.intro (And.intro trivial (And.intro trivial trivial)) (And.intro (And.intro trivial (r29_L2_ok call fuel base)) trivial))) 69 [1, 2, 5, 7, 8, 9] (fun n vs m K => r29_L0_R call fuel base n vs m K) ?_ ?_ (fun _ _ _ => rfl)
  · intro vs m K
    unfold r29_L0_R
    split <;> rfl
  · intro n vs m K hl
    match vs, hl with
    | [x1, x2, x5, x7, x8, x9], _ => show _ = _; kernel_rfl
theorem r29_eq (call : CallF) (fuel base : Nat) (x0 : Value) (x1 : Value) (m : M) : kbody E call keep29 (lp29 call fuel base) base Try.f29 [x0, x1] m = r29 call fuel base x0 x1 m := by
  kernel_rfl
noncomputable def rf29 : RF := fun call fuel base args m => match args with
  | [x0, x1] => r29 call fuel base x0 x1 m
  | _ => none
theorem r29_lk (call : CallF) (fuel base : Nat) : LoopsOk E call (lp29 call fuel base) fuel base 0 c29 = (And True (And True (And True (And True (And (And True (LpOk E call (lp29 call fuel base) fuel base 0 (loopB (blockB (seqR (seqL (seqR (seqR (seqR (seqR c29)))))))))) (And True True)))))) := by kernel_rfl
theorem r29_fn : E.P.funcs[29]? = some Try.f29 := by kernel_rfl
theorem r29_body : Try.f29.body = some c29 := by kernel_rfl
theorem rf29_ok : RFok E 29 rf29 := by
  refine ⟨Try.f29, r29_fn, fun call fuel base args m r _ h => ?_⟩
  unfold rf29 at h
  split at h
  · rw [← r29_eq] at h
    exact kbody_sound (c := c29) r29_body (Eq.mpr (r29_lk call fuel base) (And.intro trivial (And.intro trivial (And.intro trivial (And.intro trivial (And.intro (And.intro trivial (r29_L0_ok call fuel base)) (And.intro trivial trivial))))))) h
  · simp at h
end Go.AM
namespace Go.AM
open Go Go.Proofs
noncomputable def r30 (call : CallF) (fuel base : Nat) (x0 : Value) (x1 : Value) (m : M) : Res2 :=
  (kc (call base 54 [x0, x1] m) (fun v7_1 m => (k1 (mbin E .geq 3 v7_1 (.int .i64 0)) fun v8_2 => (fVal v8_2 fun v => some (.ret v, m)))) (fun v m => some (.pan v, m)))
def keep30 : Keep := { region := fun i => ([[0, 1], [4]] : List (List Nat))[i]?, exit := fun i => ([] : List (List Nat))[i]?, ret := some [4] }
noncomputable def lp30 (call : CallF) (fuel base : Nat) : Lp := lpsel []
noncomputable def c30 : Code := Try.f30.body.getD .skip
theorem r30_eq (call : CallF) (fuel base : Nat) (x0 : Value) (x1 : Value) (m : M) : kbody E call keep30 (lp30 call fuel base) base Try.f30 [x0, x1] m = r30 call fuel base x0 x1 m := by
  kernel_rfl
noncomputable def rf30 : RF := fun call fuel base args m => match args with
  | [x0, x1] => r30 call fuel base x0 x1 m
  | _ => none
theorem r30_lk (call : CallF) (fuel base : Nat) : LoopsOk E call (lp30 call fuel base) fuel base 0 c30 = (And True (And True True)) := by kernel_rfl
theorem r30_fn : E.P.funcs[30]? = some Try.f30 := by kernel_rfl
theorem r30_body : Try.f30.body = some c30 := by kernel_rfl
theorem rf30_ok : RFok E 30 rf30 := by
  refine ⟨Try.f30, r30_fn, fun call fuel base args m r _ h => ?_⟩
  unfold rf30 at h
  split at h
  · rw [← r30_eq] at h
    exact kbody_sound (c := c30) r30_body (Eq.mpr (r30_lk call fuel base) (And.intro trivial (And.intro trivial trivial))) h
  · simp at h
end Go.AM
namespace Go.AM
open Go Go.Proofs
noncomputable def r31 (call : CallF) (fuel base : Nat) (x0 : Value) (m : M) : Res2 :=
  (k1 (mbin E .lss 3 x0 (.int .i64 0)) fun v4_1 => (kb v4_1 (fVal (.bool true) fun v => some (.ret v, m)) (k1 (mbin E .geq 3 x0 (.int .i64 8)) fun v7_2 => (fVal v7_2 fun v => some (.ret v, m)))))
def keep31 : Keep := { region := fun i => ([[0], [2]] : List (List Nat))[i]?, exit := fun i => ([] : List (List Nat))[i]?, ret := some [2] }
noncomputable def lp31 (call : CallF) (fuel base : Nat) : Lp := lpsel []
noncomputable def c31 : Code := Try.f31.body.getD .skip
theorem r31_eq (call : CallF) (fuel base : Nat) (x0 : Value) (m : M) : kbody E call keep31 (lp31 call fuel base) base Try.f31 [x0] m = r31 call fuel base x0 m := by
  kernel_rfl
noncomputable def rf31 : RF := fun call fuel base args m => match args with
  | [x0] => r31 call fuel base x0 m
  | _ => none
theorem r31_lk (call : CallF) (fuel base : Nat) : LoopsOk E call (lp31 call fuel base) fuel base 0 c31 = (And True (And True True)) := by kernel_rfl
theorem r31_fn : E.P.funcs[31]? = some Try.f31 := by kernel_rfl
theorem r31_body : Try.f31.body = some c31 := by kernel_rfl
theorem rf31_ok : RFok E 31 rf31 := by
  refine ⟨Try.f31, r31_fn, fun call fuel base args m r _ h => ?_⟩
  unfold rf31 at h
  split at h
  · rw [← r31_eq] at h
    exact kbody_sound (c := c31) r31_body (Eq.mpr (r31_lk call fuel base) (And.intro trivial (And.intro trivial trivial))) h
  · simp at h
end Go.AM
namespace Go.AM
open Go Go.Proofs
noncomputable def r32 (call : CallF) (fuel base : Nat) (x0 : Value) (x1 : Value) (m : M) : Res2 :=
  (k2 (xbox m x1) fun v3_1 m => (k1 (xload E.P m 35 v3_1) fun v6_2 => (kc (call base 55 [x0, v6_2] m) (fun v7_3 m => (k1 (mbin E .geq 3 v7_3 (.int .i64 0)) fun v8_4 => (fVal v8_4 fun v => some (.ret v, m)))) (fun v m => some (.pan v, m)))))
def keep32 : Keep := { region := fun i => ([[0, 3], [4]] : List (List Nat))[i]?, exit := fun i => ([] : List (List Nat))[i]?, ret := some [4] }
noncomputable def lp32 (call : CallF) (fuel base : Nat) : Lp := lpsel []
noncomputable def c32 : Code := Try.f32.body.getD .skip
theorem r32_eq (call : CallF) (fuel base : Nat) (x0 : Value) (x1 : Value) (m : M) : kbody E call keep32 (lp32 call fuel base) base Try.f32 [x0, x1] m = r32 call fuel base x0 x1 m := by
  kernel_rfl
noncomputable def rf32 : RF := fun call fuel base args m => match args with
  | [x0, x1] => r32 call fuel base x0 x1 m
  | _ => none
theorem r32_lk (call : CallF) (fuel base : Nat) : LoopsOk E call (lp32 call fuel base) fuel base 0 c32 = (And True (And True True)) := by kernel_rfl
theorem r32_fn : E.P.funcs[32]? = some Try.f32 := by kernel_rfl
theorem r32_body : Try.f32.body = some c32 := by kernel_rfl
theorem rf32_ok : RFok E 32 rf32 := by
  refine ⟨Try.f32, r32_fn, fun call fuel base args m r _ h => ?_⟩
  unfold rf32 at h
  split at h
  · rw [← r32_eq] at h
    exact kbody_sound (c := c32) r32_body (Eq.mpr (r32_lk call fuel base) (And.intro trivial (And.intro trivial trivial))) h
  · simp at h
end Go.AM
namespace Go.AM
open Go Go.Proofs
noncomputable def r33 (call : CallF) (fuel base : Nat) (x0 : Value) (m : M) : Res2 :=
  (k1 (mbin E .leq 3 (.int .i64 1) x0) fun v4_1 => (kb v4_1 (k1 (mbin E .leq 3 x0 (.int .i64 4)) fun v7_2 => (fVal v7_2 fun v => some (.ret v, m))) (fVal (.bool false) fun v => some (.ret v, m))))
def keep33 : Keep := { region := fun i => ([[0], [2]] : List (List Nat))[i]?, exit := fun i => ([] : List (List Nat))[i]?, ret := some [2] }
noncomputable def lp33 (call : CallF) (fuel base : Nat) : Lp := lpsel []
noncomputable def c33 : Code := Try.f33.body.getD .skip
theorem r33_eq (call : CallF) (fuel base : Nat) (x0 : Value) (m : M) : kbody E call keep33 (lp33 call fuel base) base Try.f33 [x0] m = r33 call fuel base x0 m := by
  kernel_rfl
noncomputable def rf33 : RF := fun call fuel base args m => match args with
  | [x0] => r33 call fuel base x0 m
  | _ => none
theorem r33_lk (call : CallF) (fuel base : Nat) : LoopsOk E call (lp33 call fuel base) fuel base 0 c33 = (And True (And True True)) := by kernel_rfl
theorem r33_fn : E.P.funcs[33]? = some Try.f33 := by kernel_rfl
theorem r33_body : Try.f33.body = some c33 := by kernel_rfl
theorem rf33_ok : RFok E 33 rf33 := by
  refine ⟨Try.f33, r33_fn, fun call fuel base args m r _ h => ?_⟩
  unfold rf33 at h
  split at h
  · rw [← r33_eq] at h
    exact kbody_sound (c := c33) r33_body (Eq.mpr (r33_lk call fuel base) (And.intro trivial (And.intro trivial trivial))) h
  · simp at h
end Go.AM
namespace Go.AM
open Go Go.Proofs
noncomputable def r34 (call : CallF) (fuel base : Nat) (x0 : Value) (x1 : Value) (x2 : Value) (m : M) : Res2 :=
  (kc (call base 5 [x0] m) (fun v8_1 m => (k1 (mun .not v8_1) fun v9_2 => (kb v9_2 (fVal (.int .i64 2) fun v => some (.ret v, m)) (kc (call base 56 [x1] m) (fun v12_3 m => (k1 (mun .not v12_3) fun v13_4 => (kb v13_4 (fVal (.int .i64 2) fun v => some (.ret v, m)) (kc (call base 56 [x2] m) (fun v17_5 m => (k1 (mun .not v17_5) fun v18_6 => (kb v18_6 (fVal (.int .i64 2) fun v => some (.ret v, m)) (fVal (.int .i64 0) fun v => some (.ret v, m))))) (fun v m => some (.pan v, m)))))) (fun v m => some (.pan v, m)))))) (fun v m => some (.pan v, m)))
def keep34 : Keep := { region := fun i => ([[0, 1, 2], [19], [6], [6]] : List (List Nat))[i]?, exit := fun i => ([] : List (List Nat))[i]?, ret := some [6] }
noncomputable def lp34 (call : CallF) (fuel base : Nat) : Lp := lpsel []
noncomputable def c34 : Code := Try.f34.body.getD .skip
theorem r34_eq (call : CallF) (fuel base : Nat) (x0 : Value) (x1 : Value) (x2 : Value) (m : M) : kbody E call keep34 (lp34 call fuel base) base Try.f34 [x0, x1, x2] m = r34 call fuel base x0 x1 x2 m := by
  kernel_rfl
noncomputable def rf34 : RF := fun call fuel base args m => match args with
  | [x0, x1, x2] => r34 call fuel base x0 x1 x2 m
  | _ => none
theorem r34_lk (call : CallF) (fuel base : Nat) : LoopsOk E call (lp34 call fuel base) fuel base 0 c34 = (And True (And (And True (And (And True True) True)) (And True True))) := by kernel_rfl
theorem r34_fn : E.P.funcs[34]? = some Try.f34 := by kernel_rfl
theorem r34_body : Try.f34.body = some c34 := by kernel_rfl
theorem rf34_ok : RFok E 34 rf34 := by
  refine ⟨Try.f34, r34_fn, fun call fuel base args m r _ h => ?_⟩
  unfold rf34 at h
  split at h
  · rw [← r34_eq] at h
    exact kbody_sound (c := c34) r34_body (Eq.mpr (r34_lk call fuel base) (And.intro trivial (And.intro (And.intro trivial (And.intro (And.intro trivial trivial) trivial)) (And.intro trivial trivial)))) h
  · simp at h
end Go.AM
namespace Go.AM
open Go Go.Proofs
noncomputable def r35_L2 (call : CallF) (fuel base : Nat) (kp : Value → M → Res2) (kx2 : Value → Value → Value → Value → Value → Value → Value → M → Res2) (n : Nat) : Value → Value → Value → Value → Value → Value → Value → Value → M → Res2 :=
  Nat.rec (motive := fun _ => Value → Value → Value → Value → Value → Value → Value → Value → M → Res2) (fun _ _ _ _ _ _ _ _ _ => none)
    (fun _ ih x0 x1 x5 x6 x7 x8 x9 x10 m =>
      (k1 (mbin E .leq 3 x10 (.int .i64 7)) fun v25_6 => (kb v25_6 (kc (call base 58 [x0, x5, x1, (.int .i64 0), x8, (.int .i64 0), x10, x10, x9] m) (fun v35_7 m => (k1 (mbin E .add 3 x10 (.int .i64 1)) fun v27_8 => (ih x0 x1 x5 x6 x7 x8 x9 v27_8 m))) (fun v m => kp v m)) (kx2 x0 x1 x5 x6 x7 x8 x9 m)))) n
noncomputable def r35_L0 (call : CallF) (fuel base : Nat) (kp : Value → M → Res2) (kx0 : Value → M → Res2) (n : Nat) : Value → Value → Value → Value → Value → Value → M → Res2 :=
  Nat.rec (motive := fun _ => Value → Value → Value → Value → Value → Value → M → Res2) (fun _ _ _ _ _ _ _ => none)
    (fun _ ih x0 x1 x5 x6 x7 x8 m =>
      (k1 (mbin E .lss 3 x8 x6) fun v19_4 => (kb v19_4 (k2 (xmakeSlice E.P m 37 x6 x6) fun v23_5 m => (r35_L2 call fuel base (fun v m => kp v m) (fun y0_9 y1_10 y5_11 y6_12 y7_13 y8_14 y9_15 m => (k2 (xbuildSlice E.P m 28 1 [(0, y9_15)]) fun v38_16 m => (k2 (vcall E.P base m .append [28, 28] [y7_13, v38_16]) fun v39_17 m => (k1 (mbin E .add 3 y8_14 (.int .i64 1)) fun v21_18 => (ih y0_9 y1_10 y5_11 y6_12 v39_17 v21_18 m))))) fuel x0 x1 x5 x6 x7 x8 v23_5 (.int .i64 0) m)) (kx0 x7 m)))) n
noncomputable def r35 (call : CallF) (fuel base : Nat) (x0 : Value) (x1 : Value) (m : M) : Res2 :=
  (kc (call base 13 [x0] m) (fun v12_1 m => (k2 (vcall E.P base m .len [37] [v12_1]) fun v14_2 m => (kc (call base 57 [v14_2, x1] m) (fun v16_3 m => (r35_L0 call fuel base (fun v m => some (.pan v, m)) (fun y7_19 m => (fVal y7_19 fun v => some (.ret v, m))) fuel x0 x1 v12_1 v16_3 (.slice none 0 0) (.int .i64 0) m)) (fun v m => some (.pan v, m))))) (fun v m => some (.pan v, m)))
def keep35 : Keep := { region := fun i => ([[0, 1], [0, 1, 5], [0, 1, 5, 6], [0, 1, 5, 6, 7], [0, 1, 5, 6, 7, 8], [0, 1, 5, 6, 7, 8, 19], [0, 1, 5, 6, 7, 8], [0, 1, 5, 6, 7, 8, 9], [0, 1, 5, 6, 7, 8, 9, 10], [0, 1, 5, 6, 7, 8, 9, 10, 25], [0, 1, 5, 6, 7, 8, 9, 10], [0, 1, 5, 6, 7, 8, 9, 10], [0, 1, 5, 6, 7, 8], [4]] : List (List Nat))[i]?, exit := fun i => ([[7], [0, 1, 5, 6, 7, 8], [0, 1, 5, 6, 7, 8, 9], [0, 1, 5, 6, 7, 8, 9, 10]] : List (List Nat))[i]?, ret := some [4] }
noncomputable def r35_L2_R (call : CallF) (fuel base n : Nat) (vs : List Value) (m : M) (K : KT) : Res2 := match vs with
  | [x0, x1, x5, x6, x7, x8, x9, x10] => r35_L2 call fuel base (fun v m => K (.pan v) { n := 41, l := [] } m) (fun y0 y1 y5 y6 y7 y8 y9 m => K (.exit 2) { n := 41, l := [(0, y0), (1, y1), (5, y5), (6, y6), (7, y7), (8, y8), (9, y9)] } m) n x0 x1 x5 x6 x7 x8 x9 x10 m
  | _ => none
noncomputable def r35_L0_R (call : CallF) (fuel base n : Nat) (vs : List Value) (m : M) (K : KT) : Res2 := match vs with
  | [x0, x1, x5, x6, x7, x8] => r35_L0 call fuel base (fun v m => K (.pan v) { n := 41, l := [] } m) (fun y7 m => K (.exit 0) { n := 41, l := [(7, y7)] } m) n x0 x1 x5 x6 x7 x8 m
  | _ => none
noncomputable def lp35 (call : CallF) (fuel base : Nat) : Lp := lpsel [(2, fun T m K => kslots 41 [0, 1, 5, 6, 7, 8, 9, 10] T fun vs => r35_L2_R call fuel base fuel vs m K), (0, fun T m K => kslots 41 [0, 1, 5, 6, 7, 8] T fun vs => r35_L0_R call fuel base fuel vs m K)]
noncomputable def c35 : Code := Try.f35.body.getD .skip
theorem r35_L2_lk (call : CallF) (fuel base : Nat) : LoopsOk E call (lp35 call fuel base) fuel base 2 (loopB (blockB (seqR (seqL (seqR (blockB (seqL (seqR (loopB (blockB (seqR (seqL (seqR (seqR (seqR (seqR c35)))))))))))))))) = (And (And True (And True True)) (And True True)) := by kernel_rfl
theorem r35_L2_ok (call : CallF) (fuel base : Nat) : LpOk E call (lp35 call fuel base) fuel base 2 (loopB (blockB (seqR (seqL (seqR (blockB (seqL (seqR (loopB (blockB (seqR (seqL (seqR (seqR (seqR (seqR c35)))))))))))))))) := by
  refine loop_ok (kp := keep35) (hb := Eq.mpr (r35_L2_lk call fuel base) (And.intro (And.intro trivial (And.intro trivial trivial)) (And.intro trivial trivial))) 41 [0, 1, 5, 6, 7, 8, 9, 10] (fun n vs m K => r35_L2_R call fuel base n vs m K) ?_ ?_ (fun _ _ _ => rfl)
  · intro vs m K
    unfold r35_L2_R
    split <;> rfl
  · intro n vs m K hl
    match vs, hl with
    | [x0, x1, x5, x6, x7, x8, x9, x10], _ => show _ = _; kernel_rfl
theorem r35_L0_lk (call : CallF) (fuel base : Nat) : LoopsOk E call (lp35 call fuel base) fuel base 0 (loopB (blockB (seqR (seqL (seqR (seqR (seqR (seqR c35)))))))) = (And (And True (And True True)) (And (And True (And (And True (LpOk E call (lp35 call fuel base) fuel base 2 (loopB (blockB (seqR (seqL (seqR (blockB (seqL (seqR (loopB (blockB (seqR (seqL (seqR (seqR (seqR (seqR c35)))))))))))))))))) True)) True)) := by kernel_rfl
theorem r35_L0_ok (call : CallF) (fuel base : Nat) : LpOk E call (lp35 call fuel base) fuel base 0 (loopB (blockB (seqR (seqL (seqR (seqR (seqR (seqR c35)))))))) := by
  refine loop_ok (kp := keep35) (hb := Eq.mpr (r35_L0_lk call fuel base) (And.intro (And.intro trivial (And.intro trivial trivial)) (And.intro (And.intro trivial (And.intro (And.intro trivial (r35_L2_ok call fuel base)) trivial)) trivial))) 41 [0, 1, 5, 6, 7, 8] (fun n vs m K => r35_L0_R call fuel base n vs m K) ?_ ?_ (fun _ _ _ => rfl)
  · intro vs m K
    unfold r35_L0_R
    split <;> rfl
  · intro n vs m K hl
    match vs, hl with
    | [x0, x1, x5, x6, x7, x8], _ => show _ = _; kernel_rfl
theorem r35_eq (call : CallF) (fuel base : Nat) (x0 : Value) (x1 : Value) (m : M) : kbody E call keep35 (lp35 call fuel base) base Try.f35 [x0, x1] m = r35 call fuel base x0 x1 m := by
  kernel_rfl
noncomputable def rf35 : RF := fun call fuel base args m => match args with
  | [x0, x1] => r35 call fuel base x0 x1 m
  | _ => none
theorem r35_lk (call : CallF) (fuel base : Nat) : LoopsOk E call (lp35 call fuel base) fuel base 0 c35 = (And True (And True (And True (And True (And (And True (LpOk E call (lp35 call fuel base) fuel base 0 (loopB (blockB (seqR (seqL (seqR (seqR (seqR (seqR c35)))))))))) (And True True)))))) := by kernel_rfl
theorem r35_fn : E.P.funcs[35]? = some Try.f35 := by kernel_rfl
theorem r35_body : Try.f35.body = some c35 := by kernel_rfl
theorem rf35_ok : RFok E 35 rf35 := by
  refine ⟨Try.f35, r35_fn, fun call fuel base args m r _ h => ?_⟩
  unfold rf35 at h
  split at h
  · rw [← r35_eq] at h
    exact kbody_sound (c := c35) r35_body (Eq.mpr (r35_lk call fuel base) (And.intro trivial (And.intro trivial (And.intro trivial (And.intro trivial (And.intro (And.intro trivial (r35_L0_ok call fuel base)) (And.intro trivial trivial))))))) h
  · simp at h
end Go.AM
namespace Go.AM
open Go Go.Proofs
noncomputable def r36 (call : CallF) (fuel base : Nat) (x0 : Value) (m : M) : Res2 :=
  (k2 (vcall E.P base m .min [3, 3] [x0, (.int .i64 1099511627777)]) fun v4_1 m => (fVal v4_1 fun v => some (.ret v, m)))
def keep36 : Keep := { region := fun i => ([[0], [2]] : List (List Nat))[i]?, exit := fun i => ([] : List (List Nat))[i]?, ret := some [2] }
noncomputable def lp36 (call : CallF) (fuel base : Nat) : Lp := lpsel []
noncomputable def c36 : Code := Try.f36.body.getD .skip
theorem r36_eq (call : CallF) (fuel base : Nat) (x0 : Value) (m : M) : kbody E call keep36 (lp36 call fuel base) base Try.f36 [x0] m = r36 call fuel base x0 m := by
  kernel_rfl
noncomputable def rf36 : RF := fun call fuel base args m => match args with
  | [x0] => r36 call fuel base x0 m
  | _ => none
theorem r36_lk (call : CallF) (fuel base : Nat) : LoopsOk E call (lp36 call fuel base) fuel base 0 c36 = (And True (And True True)) := by kernel_rfl
theorem r36_fn : E.P.funcs[36]? = some Try.f36 := by kernel_rfl
theorem r36_body : Try.f36.body = some c36 := by kernel_rfl
theorem rf36_ok : RFok E 36 rf36 := by
  refine ⟨Try.f36, r36_fn, fun call fuel base args m r _ h => ?_⟩
  unfold rf36 at h
  split at h
  · rw [← r36_eq] at h
    exact kbody_sound (c := c36) r36_body (Eq.mpr (r36_lk call fuel base) (And.intro trivial (And.intro trivial trivial))) h
  · simp at h
end Go.AM
namespace Go.AM
open Go Go.Proofs
noncomputable def r37_L4 (call : CallF) (fuel base : Nat) (kp : Value → M → Res2) (kx4 : Value → Value → Value → Value → Value → Value → Value → Value → Value → M → Res2) (n : Nat) : Value → Value → Value → Value → Value → Value → Value → Value → Value → Value → Value → Value → Value → M → Res2 :=
  Nat.rec (motive := fun _ => Value → Value → Value → Value → Value → Value → Value → Value → Value → Value → Value → Value → Value → M → Res2) (fun _ _ _ _ _ _ _ _ _ _ _ _ _ _ => none)
    (fun _ ih x0 x2 x8 x9 x11 x16 x17 x20 x21 x22 x26 x27 x28 m =>
      (k1 (mbin E .lss 3 x28 x27) fun v29_10 => (kb v29_10 (k1 (mindexAddr E.P 22 x26 x28) fun v31_11 => (k1 (xload E.P m 35 v31_11) fun v32_12 => (k2 (xalloc E.P m 35) fun v13_13 m => (ks (xstore E.P base m 35 v13_13 v32_12) fun m => (k1 (xload E.P m 35 v13_13) fun v35_14 => (kc (kv call base x2 [x8, v35_14] m) (fun v36_15 m => (kb v36_15 (k1 (mbin E .eql 3 x8 (.int .i64 0)) fun v39_16 => (kbu v39_16 (k1 (xload E.P m 63 x11) fun v49_17 => (k1 (xload E.P m 35 v13_13) fun v52_18 => (kc (call base 59 [v49_17, x8, x28, v52_18] m) (fun v53_19 m => (k2 (xbuildSlice E.P m 45 1 [(0, v53_19)]) fun v54_20 m => (k2 (vcall E.P base m .append [45, 45] [x9, v54_20]) fun v55_21 m => (k1 (mbin E .add 3 x28 (.int .i64 1)) fun v56_22 => (ih x0 x2 x8 v55_21 x11 x16 x17 x20 x21 x22 x26 x27 v56_22 m))))) (fun v m => kp v m)))) (k1 (mfieldAddr E.P 63 x11 4) fun v41_23 => (k1 (xload E.P m 3 v41_23) fun v42_24 => (k1 (mfieldAddr E.P 35 v13_13 3) fun v43_25 => (k1 (xload E.P m 3 v43_25) fun v44_26 => (k1 (mbin E .eql 3 v42_24 v44_26) fun v45_27 => (kb v45_27 (k1 (xload E.P m 63 x11) fun v49_28 => (k1 (xload E.P m 35 v13_13) fun v52_29 => (kc (call base 59 [v49_28, x8, x28, v52_29] m) (fun v53_30 m => (k2 (xbuildSlice E.P m 45 1 [(0, v53_30)]) fun v54_31 m => (k2 (vcall E.P base m .append [45, 45] [x9, v54_31]) fun v55_32 m => (k1 (mbin E .add 3 x28 (.int .i64 1)) fun v56_33 => (ih x0 x2 x8 v55_32 x11 x16 x17 x20 x21 x22 x26 x27 v56_33 m))))) (fun v m => kp v m)))) (k1 (mbin E .add 3 x28 (.int .i64 1)) fun v56_34 => (ih x0 x2 x8 x9 x11 x16 x17 x20 x21 x22 x26 x27 v56_34 m)))))))) (k0 (mpick undef (.bool true) undef) fun v46_35 => (kb v46_35 (k1 (xload E.P m 63 x11) fun v49_36 => (k1 (xload E.P m 35 v13_13) fun v52_37 => (kc (call base 59 [v49_36, x8, x28, v52_37] m) (fun v53_38 m => (k2 (xbuildSlice E.P m 45 1 [(0, v53_38)]) fun v54_39 m => (k2 (vcall E.P base m .append [45, 45] [x9, v54_39]) fun v55_40 m => (k1 (mbin E .add 3 x28 (.int .i64 1)) fun v56_41 => (ih x0 x2 x8 v55_40 x11 x16 x17 x20 x21 x22 x26 x27 v56_41 m))))) (fun v m => kp v m)))) (k1 (mbin E .add 3 x28 (.int .i64 1)) fun v56_42 => (ih x0 x2 x8 x9 x11 x16 x17 x20 x21 x22 x26 x27 v56_42 m)))))) (k1 (mbin E .add 3 x28 (.int .i64 1)) fun v56_43 => (ih x0 x2 x8 x9 x11 x16 x17 x20 x21 x22 x26 x27 v56_43 m)))) (fun v m => kp v m))))))) (kx4 x0 x2 x8 x9 x16 x17 x20 x21 x22 m)))) n
noncomputable def r37_L2 (call : CallF) (fuel base : Nat) (kp : Value → M → Res2) (kx2 : Value → Value → Value → Value → Value → M → Res2) (n : Nat) : Value → Value → Value → Value → Value → Value → Value → Value → Value → M → Res2 :=
  Nat.rec (motive := fun _ => Value → Value → Value → Value → Value → Value → Value → Value → Value → M → Res2) (fun _ _ _ _ _ _ _ _ _ _ => none)
    (fun _ ih x0 x2 x8 x9 x16 x17 x20 x21 x22 m =>
      (k1 (mbin E .lss 3 x22 x21) fun v23_5 => (kb v23_5 (k1 (mindexAddr E.P 45 x20 x22) fun v24_6 => (k1 (xload E.P m 63 v24_6) fun v25_7 => (k2 (xalloc E.P m 63) fun v11_8 m => (ks (xstore E.P base m 63 v11_8 v25_7) fun m => (k2 (vcall E.P base m .len [22] [x0]) fun v27_9 m => (r37_L4 call fuel base (fun v m => kp v m) (fun y0_44 y2_45 y8_46 y9_47 y16_48 y17_49 y20_50 y21_51 y22_52 m => (k1 (mbin E .add 3 y22_52 (.int .i64 1)) fun v57_53 => (ih y0_44 y2_45 y8_46 y9_47 y16_48 y17_49 y20_50 y21_51 v57_53 m))) fuel x0 x2 x8 x9 v11_8 x16 x17 x20 x21 x22 x0 v27_9 (.int .i64 0) m)))))) (kx2 x0 x2 x9 x16 x17 m)))) n
noncomputable def r37_L0 (call : CallF) (fuel base : Nat) (kp : Value → M → Res2) (kx0 : Value → M → Res2) (n : Nat) : Value → Value → Value → Value → Value → M → Res2 :=
  Nat.rec (motive := fun _ => Value → Value → Value → Value → Value → M → Res2) (fun _ _ _ _ _ _ => none)
    (fun _ ih x0 x2 x7 x16 x17 m =>
      (k1 (mbin E .lss 3 x17 x16) fun v18_3 => (kb v18_3 (k2 (vcall E.P base m .len [45] [x7]) fun v21_4 m => (r37_L2 call fuel base (fun v m => kp v m) (fun y0_54 y2_55 y9_56 y16_57 y17_58 m => (k1 (mbin E .add 3 y17_58 (.int .i64 1)) fun v59_59 => (ih y0_54 y2_55 y9_56 y16_57 v59_59 m))) fuel x0 x2 x17 (.slice none 0 0) x16 x17 x7 v21_4 (.int .i64 0) m)) (kx0 x7 m)))) n
noncomputable def r37 (call : CallF) (fuel base : Nat) (x0 : Value) (x1 : Value) (x2 : Value) (m : M) : Res2 :=
  (k1 (mbuild E.P 63 []) fun v14_1 => (k2 (xbuildSlice E.P m 45 1 [(0, v14_1)]) fun v15_2 m => (r37_L0 call fuel base (fun v m => some (.pan v, m)) (fun y7_60 m => (fVal y7_60 fun v => some (.ret v, m))) fuel x0 x2 v15_2 x1 (.int .i64 0) m)))
def keep37 : Keep := { region := fun i => ([[0, 1, 2], [0, 1, 2, 7], [0, 2, 7, 16, 17], [0, 2, 7, 16, 17, 18], [0, 2, 7, 8, 16, 17], [0, 2, 7, 8, 9, 16, 17], [0, 2, 8, 9, 16, 17, 20, 21, 22], [0, 2, 8, 9, 16, 17, 20, 21, 22, 23], [0, 2, 8, 9, 11, 16, 17, 20, 21, 22], [0, 2, 8, 9, 11, 16, 17, 20, 21, 22, 26, 27, 28], [0, 2, 8, 9, 11, 16, 17, 20, 21, 22, 26, 27, 28, 29], [0, 2, 8, 9, 11, 12, 13, 16, 17, 20, 21, 22, 26, 27, 28], [0, 2, 8, 9, 11, 12, 13, 16, 17, 20, 21, 22, 26, 27, 28, 47], [0, 2, 8, 9, 11, 16, 17, 20, 21, 22, 26, 27, 28], [0, 2, 8, 9, 11, 16, 17, 20, 21, 22, 26, 27, 28], [0, 2, 8, 9, 16, 17, 20, 21, 22], [0, 2, 7, 16, 17], [0, 2, 7, 16, 17], [6]] : List (List Nat))[i]?, exit := fun i => ([[7], [0, 2, 7, 16, 17], [0, 2, 9, 16, 17], [0, 2, 8, 9, 16, 17, 20, 21, 22], [0, 2, 8, 9, 16, 17, 20, 21, 22], [0, 2, 8, 9, 11, 16, 17, 20, 21, 22, 26, 27, 28]] : List (List Nat))[i]?, ret := some [6] }
noncomputable def r37_L4_R (call : CallF) (fuel base n : Nat) (vs : List Value) (m : M) (K : KT) : Res2 := match vs with
  | [x0, x2, x8, x9, x11, x16, x17, x20, x21, x22, x26, x27, x28] => r37_L4 call fuel base (fun v m => K (.pan v) { n := 61, l := [] } m) (fun y0 y2 y8 y9 y16 y17 y20 y21 y22 m => K (.exit 4) { n := 61, l := [(0, y0), (2, y2), (8, y8), (9, y9), (16, y16), (17, y17), (20, y20), (21, y21), (22, y22)] } m) n x0 x2 x8 x9 x11 x16 x17 x20 x21 x22 x26 x27 x28 m
  | _ => none
noncomputable def r37_L2_R (call : CallF) (fuel base n : Nat) (vs : List Value) (m : M) (K : KT) : Res2 := match vs with
  | [x0, x2, x8, x9, x16, x17, x20, x21, x22] => r37_L2 call fuel base (fun v m => K (.pan v) { n := 61, l := [] } m) (fun y0 y2 y9 y16 y17 m => K (.exit 2) { n := 61, l := [(0, y0), (2, y2), (9, y9), (16, y16), (17, y17)] } m) n x0 x2 x8 x9 x16 x17 x20 x21 x22 m
  | _ => none
noncomputable def r37_L0_R (call : CallF) (fuel base n : Nat) (vs : List Value) (m : M) (K : KT) : Res2 := match vs with
  | [x0, x2, x7, x16, x17] => r37_L0 call fuel base (fun v m => K (.pan v) { n := 61, l := [] } m) (fun y7 m => K (.exit 0) { n := 61, l := [(7, y7)] } m) n x0 x2 x7 x16 x17 m
  | _ => none
noncomputable def lp37 (call : CallF) (fuel base : Nat) : Lp := lpsel [(4, fun T m K => kslots 61 [0, 2, 8, 9, 11, 16, 17, 20, 21, 22, 26, 27, 28] T fun vs => r37_L4_R call fuel base fuel vs m K), (2, fun T m K => kslots 61 [0, 2, 8, 9, 16, 17, 20, 21, 22] T fun vs => r37_L2_R call fuel base fuel vs m K), (0, fun T m K => kslots 61 [0, 2, 7, 16, 17] T fun vs => r37_L0_R call fuel base fuel vs m K)]
noncomputable def c37 : Code := Try.f37.body.getD .skip
theorem r37_L4_lk (call : CallF) (fuel base : Nat) : LoopsOk E call (lp37 call fuel base) fuel base 4 (loopB (blockB (seqR (seqR (blockB (seqL (seqR (seqR (loopB (blockB (seqR (seqL (seqR (seqR (blockB (seqL (seqR (seqR (loopB (blockB (seqR (seqL (seqR (seqR c37)))))))))))))))))))))))) = (And True (And (And True True) (And (And True (And True (And True True))) True))) := by kernel_rfl
theorem r37_L4_ok (call : CallF) (fuel base : Nat) : LpOk E call (lp37 call fuel base) fuel base 4 (loopB (blockB (seqR (seqR (blockB (seqL (seqR (seqR (loopB (blockB (seqR (seqL (seqR (seqR (blockB (seqL (seqR (seqR (loopB (blockB (seqR (seqL (seqR (seqR c37)))))))))))))))))))))))) := by
  refine loop_ok (kp := keep37) (hb := Eq.mpr (r37_L4_lk call fuel base) (And.intro trivial (And.intro (And.intro trivial trivial) (And.intro (And.intro trivial (And.intro trivial (And.intro trivial trivial))) trivial)))) 61 [0, 2, 8, 9, 11, 16, 17, 20, 21, 22, 26, 27, 28] (fun n vs m K => r37_L4_R call fuel base n vs m K) ?_ ?_ (fun _ _ _ => rfl)
  · intro vs m K
    unfold r37_L4_R
    split <;> rfl
  · intro n vs m K hl
    match vs, hl with
    | [x0, x2, x8, x9, x11, x16, x17, x20, x21, x22, x26, x27, x28], _ => show _ = _; kernel_rfl
theorem r37_L2_lk (call : CallF) (fuel base : Nat) : LoopsOk E call (lp37 call fuel base) fuel base 2 (loopB (blockB (seqR (seqL (seqR (seqR (blockB (seqL (seqR (seqR (loopB (blockB (seqR (seqL (seqR (seqR c37)))))))))))))))) = (And True (And (And True True) (And (And True (And True (LpOk E call (lp37 call fuel base) fuel base 4 (loopB (blockB (seqR (seqR (blockB (seqL (seqR (seqR (loopB (blockB (seqR (seqL (seqR (seqR (blockB (seqL (seqR (seqR (loopB (blockB (seqR (seqL (seqR (seqR c37))))))))))))))))))))))))))) True))) := by kernel_rfl
theorem r37_L2_ok (call : CallF) (fuel base : Nat) : LpOk E call (lp37 call fuel base) fuel base 2 (loopB (blockB (seqR (seqL (seqR (seqR (blockB (seqL (seqR (seqR (loopB (blockB (seqR (seqL (seqR (seqR c37)))))))))))))))) := by
  refine loop_ok (kp := keep37) (hb := Eq.mpr (r37_L2_lk call fuel base) (And.intro trivial (And.intro (And.intro trivial trivial) (And.intro (And.intro trivial (And.intro trivial (r37_L4_ok call fuel base))) trivial)))) 61 [0, 2, 8, 9, 16, 17, 20, 21, 22] (fun n vs m K => r37_L2_R call fuel base n vs m K) ?_ ?_ (fun _ _ _ => rfl)
  · intro vs m K
    unfold r37_L2_R
    split <;> rfl
  · intro n vs m K hl
    match vs, hl with
    | [x0, x2, x8, x9, x16, x17, x20, x21, x22], _ => show _ = _; kernel_rfl
theorem r37_L0_lk (call : CallF) (fuel base : Nat) : LoopsOk E call (lp37 call fuel base) fuel base 0 (loopB (blockB (seqR (seqL (seqR (seqR c37)))))) = (And True (And (And True True) (And (And True (And True (And (And True (LpOk E call (lp37 call fuel base) fuel base 2 (loopB (blockB (seqR (seqL (seqR (seqR (blockB (seqL (seqR (seqR (loopB (blockB (seqR (seqL (seqR (seqR c37)))))))))))))))))) True))) True))) := by kernel_rfl
theorem r37_L0_ok (call : CallF) (fuel base : Nat) : LpOk E call (lp37 call fuel base) fuel base 0 (loopB (blockB (seqR (seqL (seqR (seqR c37)))))) := by
  refine loop_ok (kp := keep37) (hb := Eq.mpr (r37_L0_lk call fuel base) (And.intro trivial (And.intro (And.intro trivial trivial) (And.intro (And.intro trivial (And.intro trivial (And.intro (And.intro trivial (r37_L2_ok call fuel base)) trivial))) trivial)))) 61 [0, 2, 7, 16, 17] (fun n vs m K => r37_L0_R call fuel base n vs m K) ?_ ?_ (fun _ _ _ => rfl)
  · intro vs m K
    unfold r37_L0_R
    split <;> rfl
  · intro n vs m K hl
    match vs, hl with
    | [x0, x2, x7, x16, x17], _ => show _ = _; kernel_rfl
theorem r37_eq (call : CallF) (fuel base : Nat) (x0 : Value) (x1 : Value) (x2 : Value) (m : M) : kbody E call keep37 (lp37 call fuel base) base Try.f37 [x0, x1, x2] m = r37 call fuel base x0 x1 x2 m := by
  kernel_rfl
noncomputable def rf37 : RF := fun call fuel base args m => match args with
  | [x0, x1, x2] => r37 call fuel base x0 x1 x2 m
  | _ => none
theorem r37_lk (call : CallF) (fuel base : Nat) : LoopsOk E call (lp37 call fuel base) fuel base 0 c37 = (And True (And True (And (And True (LpOk E call (lp37 call fuel base) fuel base 0 (loopB (blockB (seqR (seqL (seqR (seqR c37)))))))) (And True True)))) := by kernel_rfl
theorem r37_fn : E.P.funcs[37]? = some Try.f37 := by kernel_rfl
theorem r37_body : Try.f37.body = some c37 := by kernel_rfl
theorem rf37_ok : RFok E 37 rf37 := by
  refine ⟨Try.f37, r37_fn, fun call fuel base args m r _ h => ?_⟩
  unfold rf37 at h
  split at h
  · rw [← r37_eq] at h
    exact kbody_sound (c := c37) r37_body (Eq.mpr (r37_lk call fuel base) (And.intro trivial (And.intro trivial (And.intro (And.intro trivial (r37_L0_ok call fuel base)) (And.intro trivial trivial))))) h
  · simp at h
end Go.AM
namespace Go.AM
open Go Go.Proofs
noncomputable def r38 (call : CallF) (fuel base : Nat) (x0 : Value) (x1 : Value) (m : M) : Res2 :=
  (k2 (xbox m x1) fun v3_1 m => (fVal (.bool true) fun v => some (.ret v, m)))
def keep38 : Keep := { region := fun i => ([[], [4]] : List (List Nat))[i]?, exit := fun i => ([] : List (List Nat))[i]?, ret := some [4] }
noncomputable def lp38 (call : CallF) (fuel base : Nat) : Lp := lpsel []
noncomputable def c38 : Code := Try.f38.body.getD .skip
theorem r38_eq (call : CallF) (fuel base : Nat) (x0 : Value) (x1 : Value) (m : M) : kbody E call keep38 (lp38 call fuel base) base Try.f38 [x0, x1] m = r38 call fuel base x0 x1 m := by
  kernel_rfl
noncomputable def rf38 : RF := fun call fuel base args m => match args with
  | [x0, x1] => r38 call fuel base x0 x1 m
  | _ => none
theorem r38_lk (call : CallF) (fuel base : Nat) : LoopsOk E call (lp38 call fuel base) fuel base 0 c38 = (And True (And True True)) := by kernel_rfl
theorem r38_fn : E.P.funcs[38]? = some Try.f38 := by kernel_rfl
theorem r38_body : Try.f38.body = some c38 := by kernel_rfl
theorem rf38_ok : RFok E 38 rf38 := by
  refine ⟨Try.f38, r38_fn, fun call fuel base args m r _ h => ?_⟩
  unfold rf38 at h
  split at h
  · rw [← r38_eq] at h
    exact kbody_sound (c := c38) r38_body (Eq.mpr (r38_lk call fuel base) (And.intro trivial (And.intro trivial trivial))) h
  · simp at h
end Go.AM
namespace Go.AM
open Go Go.Proofs
noncomputable def r39_L0 (call : CallF) (fuel base : Nat) (kx0 : Value → Value → M → Res2) (n : Nat) : Value → Value → Value → Value → M → Res2 :=
  Nat.rec (motive := fun _ => Value → Value → Value → Value → M → Res2) (fun _ _ _ _ _ => none)
    (fun _ ih x2 x5 x15 x16 m =>
      (k1 (mbin E .lss 3 x16 x15) fun v17_7 => (kb v17_7 (k1 (mindexAddr E.P 28 x5 (.int .i64 0)) fun v20_8 => (k1 (xload E.P m 37 v20_8) fun v21_9 => (k1 (mindexAddr E.P 37 v21_9 x16) fun v23_10 => (ks (xstore E.P base m 3 v23_10 (.int .i64 1)) fun m => (k1 (mbin E .add 3 x16 (.int .i64 1)) fun v24_11 => (ih x2 x5 x15 v24_11 m)))))) (kx0 x2 x5 m)))) n
noncomputable def r39 (call : CallF) (fuel base : Nat) (x0 : Value) (x1 : Value) (m : M) : Res2 :=
  (k2 (xbox m x0) fun v2_1 m => (k1 (xload E.P m 47 v2_1) fun v9_2 => (kc (call base 45 [v9_2, x1] m) (fun v11_3 m => (k1 (mindexAddr E.P 28 v11_3 (.int .i64 0)) fun v13_4 => (k1 (xload E.P m 37 v13_4) fun v14_5 => (k2 (vcall E.P base m .len [37] [v14_5]) fun v15_6 m => (r39_L0 call fuel base (fun y2_12 y5_13 m => (k1 (xload E.P m 47 y2_12) fun v26_14 => (kc (call base 44 [v26_14] m) (fun v27_15 m => (k1 (mextract 0 v27_15) fun v28_16 => (k1 (mextract 1 v27_15) fun v29_17 => (kc (call base 60 [v29_17, y5_13] m) (fun v32_18 m => (fVal y5_13 fun v => some (.ret v, m))) (fun v m => some (.pan v, m)))))) (fun v m => some (.pan v, m))))) fuel v2_1 v11_3 v15_6 (.int .i64 0) m))))) (fun v m => some (.pan v, m)))))
def keep39 : Keep := { region := fun i => ([[1, 2], [2, 5], [2, 5, 15, 16], [2, 5, 15, 16, 17], [2, 5, 6, 15, 16], [2, 5, 15, 16], [2, 5, 15, 16], [5, 8], [5], [4]] : List (List Nat))[i]?, exit := fun i => ([[2, 5], [2, 5, 15, 16]] : List (List Nat))[i]?, ret := some [4] }
noncomputable def r39_L0_R (call : CallF) (fuel base n : Nat) (vs : List Value) (m : M) (K : KT) : Res2 := match vs with
  | [x2, x5, x15, x16] => r39_L0 call fuel base (fun y2 y5 m => K (.exit 0) { n := 34, l := [(2, y2), (5, y5)] } m) n x2 x5 x15 x16 m
  | _ => none
noncomputable def lp39 (call : CallF) (fuel base : Nat) : Lp := lpsel [(0, fun T m K => kslots 34 [2, 5, 15, 16] T fun vs => r39_L0_R call fuel base fuel vs m K)]
noncomputable def c39 : Code := Try.f39.body.getD .skip
theorem r39_L0_lk (call : CallF) (fuel base : Nat) : LoopsOk E call (lp39 call fuel base) fuel base 0 (loopB (blockB (seqR (seqL (seqR (seqR c39)))))) = (And True (And (And True True) (And (And True True) True))) := by kernel_rfl
theorem r39_L0_ok (call : CallF) (fuel base : Nat) : LpOk E call (lp39 call fuel base) fuel base 0 (loopB (blockB (seqR (seqL (seqR (seqR c39)))))) := by
  refine loop_ok (kp := keep39) (hb := Eq.mpr (r39_L0_lk call fuel base) (And.intro trivial (And.intro (And.intro trivial trivial) (And.intro (And.intro trivial trivial) trivial)))) 34 [2, 5, 15, 16] (fun n vs m K => r39_L0_R call fuel base n vs m K) ?_ ?_ (fun _ _ _ => rfl)
  · intro vs m K
    unfold r39_L0_R
    split <;> rfl
  · intro n vs m K hl
    match vs, hl with
    | [x2, x5, x15, x16], _ => show _ = _; kernel_rfl
theorem r39_eq (call : CallF) (fuel base : Nat) (x0 : Value) (x1 : Value) (m : M) : kbody E call keep39 (lp39 call fuel base) base Try.f39 [x0, x1] m = r39 call fuel base x0 x1 m := by
  kernel_rfl
noncomputable def rf39 : RF := fun call fuel base args m => match args with
  | [x0, x1] => r39 call fuel base x0 x1 m
  | _ => none
theorem r39_lk (call : CallF) (fuel base : Nat) : LoopsOk E call (lp39 call fuel base) fuel base 0 c39 = (And True (And True (And (And True (LpOk E call (lp39 call fuel base) fuel base 0 (loopB (blockB (seqR (seqL (seqR (seqR c39)))))))) (And True (And True (And True True)))))) := by kernel_rfl
theorem r39_fn : E.P.funcs[39]? = some Try.f39 := by kernel_rfl
theorem r39_body : Try.f39.body = some c39 := by kernel_rfl
theorem rf39_ok : RFok E 39 rf39 := by
  refine ⟨Try.f39, r39_fn, fun call fuel base args m r _ h => ?_⟩
  unfold rf39 at h
  split at h
  · rw [← r39_eq] at h
    exact kbody_sound (c := c39) r39_body (Eq.mpr (r39_lk call fuel base) (And.intro trivial (And.intro trivial (And.intro (And.intro trivial (r39_L0_ok call fuel base)) (And.intro trivial (And.intro trivial (And.intro trivial trivial))))))) h
  · simp at h
end Go.AM
namespace Go.AM
open Go Go.Proofs
noncomputable def r40_L0 (call : CallF) (fuel base : Nat) (kp : Value → M → Res2) (kr : Value → M → Res2) (kx0 : M → Res2) (n : Nat) : Value → Value → Value → Value → M → Res2 :=
  Nat.rec (motive := fun _ => Value → Value → Value → Value → M → Res2) (fun _ _ _ _ _ => none)
    (fun _ ih x0 x1 x7 x8 m =>
      (k1 (mbin E .lss 3 x8 x7) fun v9_2 => (kb v9_2 (k1 (mindexAddr E.P 45 x0 x8) fun v14_3 => (k1 (xload E.P m 63 v14_3) fun v15_4 => (kc (kv call base x1 [v15_4] m) (fun v16_5 m => (kb v16_5 (kr x8 m) (k1 (mbin E .add 3 x8 (.int .i64 1)) fun v18_6 => (ih x0 x1 x7 v18_6 m)))) (fun v m => kp v m)))) (kx0 m)))) n
noncomputable def r40 (call : CallF) (fuel base : Nat) (x0 : Value) (x1 : Value) (m : M) : Res2 :=
  (k2 (vcall E.P base m .len [45] [x0]) fun v7_1 m => (r40_L0 call fuel base (fun v m => some (.pan v, m)) (fun y4_7 m => (fVal y4_7 fun v => some (.ret v, m))) (fun m => (fVal (.int .i64 (-1)) fun v => some (.ret v, m))) fuel x0 x1 v7_1 (.int .i64 0) m))
def keep40 : Keep := { region := fun i => ([[0, 1], [0, 1, 7, 8], [0, 1, 7, 8, 9], [0, 1, 5, 7, 8], [0, 1, 5, 7, 8, 16], [4], [0, 1, 7, 8], [4]] : List (List Nat))[i]?, exit := fun i => ([[], [0, 1, 7, 8]] : List (List Nat))[i]?, ret := some [4] }
noncomputable def r40_L0_R (call : CallF) (fuel base n : Nat) (vs : List Value) (m : M) (K : KT) : Res2 := match vs with
  | [x0, x1, x7, x8] => r40_L0 call fuel base (fun v m => K (.pan v) { n := 19, l := [] } m) (fun y4 m => K .ret { n := 19, l := [(4, y4)] } m) (fun m => K (.exit 0) { n := 19, l := [] } m) n x0 x1 x7 x8 m
  | _ => none
noncomputable def lp40 (call : CallF) (fuel base : Nat) : Lp := lpsel [(0, fun T m K => kslots 19 [0, 1, 7, 8] T fun vs => r40_L0_R call fuel base fuel vs m K)]
noncomputable def c40 : Code := Try.f40.body.getD .skip
theorem r40_L0_lk (call : CallF) (fuel base : Nat) : LoopsOk E call (lp40 call fuel base) fuel base 0 (loopB (blockB (seqR (seqL (seqR c40))))) = (And True (And (And True True) (And (And True (And True (And (And True True) True))) True))) := by kernel_rfl
theorem r40_L0_ok (call : CallF) (fuel base : Nat) : LpOk E call (lp40 call fuel base) fuel base 0 (loopB (blockB (seqR (seqL (seqR c40))))) := by
  refine loop_ok (kp := keep40) (hb := Eq.mpr (r40_L0_lk call fuel base) (And.intro trivial (And.intro (And.intro trivial trivial) (And.intro (And.intro trivial (And.intro trivial (And.intro (And.intro trivial trivial) trivial))) trivial)))) 19 [0, 1, 7, 8] (fun n vs m K => r40_L0_R call fuel base n vs m K) ?_ ?_ (fun _ _ _ => rfl)
  · intro vs m K
    unfold r40_L0_R
    split <;> rfl
  · intro n vs m K hl
    match vs, hl with
    | [x0, x1, x7, x8], _ => show _ = _; kernel_rfl
theorem r40_eq (call : CallF) (fuel base : Nat) (x0 : Value) (x1 : Value) (m : M) : kbody E call keep40 (lp40 call fuel base) base Try.f40 [x0, x1] m = r40 call fuel base x0 x1 m := by
  kernel_rfl
noncomputable def rf40 : RF := fun call fuel base args m => match args with
  | [x0, x1] => r40 call fuel base x0 x1 m
  | _ => none
theorem r40_lk (call : CallF) (fuel base : Nat) : LoopsOk E call (lp40 call fuel base) fuel base 0 c40 = (And True (And (And True (LpOk E call (lp40 call fuel base) fuel base 0 (loopB (blockB (seqR (seqL (seqR c40))))))) (And True True))) := by kernel_rfl
theorem r40_fn : E.P.funcs[40]? = some Try.f40 := by kernel_rfl
theorem r40_body : Try.f40.body = some c40 := by kernel_rfl
theorem rf40_ok : RFok E 40 rf40 := by
  refine ⟨Try.f40, r40_fn, fun call fuel base args m r _ h => ?_⟩
  unfold rf40 at h
  split at h
  · rw [← r40_eq] at h
    exact kbody_sound (c := c40) r40_body (Eq.mpr (r40_lk call fuel base) (And.intro trivial (And.intro (And.intro trivial (r40_L0_ok call fuel base)) (And.intro trivial trivial)))) h
  · simp at h
end Go.AM
namespace Go.AM
open Go Go.Proofs
noncomputable def r41 (call : CallF) (fuel base : Nat) (x0 : Value) (x1 : Value) (x2 : Value) (x3 : Value) (x4 : Value) (m : M) : Res2 :=
  (k2 (xbox m x0) fun v5_1 m => (k1 (xload E.P m 28 x1) fun v7_2 => (k2 (vcall E.P base m .len [28] [v7_2]) fun v8_3 m => (k1 (mbin E .eql 3 v8_3 (.int .i64 0)) fun v9_4 => (kb v9_4 (k1 (xload E.P m 28 x3) fun v17_5 => (k1 (xload E.P m 3 x4) fun v18_6 => (k1 (mindexAddr E.P 28 v17_5 v18_6) fun v19_7 => (k1 (xload E.P m 37 v19_7) fun v20_8 => (k1 (mfieldAddr E.P 63 v5_1 2) fun v21_9 => (k1 (xload E.P m 3 v21_9) fun v22_10 => (k1 (mindexAddr E.P 37 v20_8 v22_10) fun v23_11 => (k1 (xload E.P m 3 v23_11) fun v24_12 => (k1 (mbin E .gtr 3 v24_12 (.int .i64 0)) fun v25_13 => (fVal v25_13 fun v => some (.ret v, m))))))))))) (k1 (mfieldAddr E.P 63 v5_1 1) fun v11_14 => (k1 (xload E.P m 3 v11_14) fun v12_15 => (k1 (xload E.P m 3 x2) fun v13_16 => (k1 (mbin E .eql 3 v12_15 v13_16) fun v14_17 => (kb v14_17 (k1 (xload E.P m 28 x3) fun v17_18 => (k1 (xload E.P m 3 x4) fun v18_19 => (k1 (mindexAddr E.P 28 v17_18 v18_19) fun v19_20 => (k1 (xload E.P m 37 v19_20) fun v20_21 => (k1 (mfieldAddr E.P 63 v5_1 2) fun v21_22 => (k1 (xload E.P m 3 v21_22) fun v22_23 => (k1 (mindexAddr E.P 37 v20_21 v22_23) fun v23_24 => (k1 (xload E.P m 3 v23_24) fun v24_25 => (k1 (mbin E .gtr 3 v24_25 (.int .i64 0)) fun v25_26 => (fVal v25_26 fun v => some (.ret v, m))))))))))) (fVal (.bool false) fun v => some (.ret v, m))))))))))))
def keep41 : Keep := { region := fun i => ([[1, 2, 3, 4, 5], [6]] : List (List Nat))[i]?, exit := fun i => ([] : List (List Nat))[i]?, ret := some [6] }
noncomputable def lp41 (call : CallF) (fuel base : Nat) : Lp := lpsel []
noncomputable def c41 : Code := Try.f41.body.getD .skip
theorem r41_eq (call : CallF) (fuel base : Nat) (x0 : Value) (x1 : Value) (x2 : Value) (x3 : Value) (x4 : Value) (m : M) : kbody E call keep41 (lp41 call fuel base) base Try.f41 [x0, x1, x2, x3, x4] m = r41 call fuel base x0 x1 x2 x3 x4 m := by
  kernel_rfl
noncomputable def rf41 : RF := fun call fuel base args m => match args with
  | [x0, x1, x2, x3, x4] => r41 call fuel base x0 x1 x2 x3 x4 m
  | _ => none
theorem r41_lk (call : CallF) (fuel base : Nat) : LoopsOk E call (lp41 call fuel base) fuel base 0 c41 = (And True (And True True)) := by kernel_rfl
theorem r41_fn : E.P.funcs[41]? = some Try.f41 := by kernel_rfl
theorem r41_body : Try.f41.body = some c41 := by kernel_rfl
theorem rf41_ok : RFok E 41 rf41 := by
  refine ⟨Try.f41, r41_fn, fun call fuel base args m r _ h => ?_⟩
  unfold rf41 at h
  split at h
  · rw [← r41_eq] at h
    exact kbody_sound (c := c41) r41_body (Eq.mpr (r41_lk call fuel base) (And.intro trivial (And.intro trivial trivial))) h
  · simp at h
end Go.AM
namespace Go.AM
open Go Go.Proofs
noncomputable def r42 (call : CallF) (fuel base : Nat) (x0 : Value) (m : M) : Res2 :=
  (k1 (mbin E .eql 37 x0 (.slice none 0 0)) fun v4_1 => (kb v4_1 (fVal (.slice none 0 0) fun v => some (.ret v, m)) (k2 (xbuildSlice E.P m 37 0 []) fun v5_2 m => (k2 (vcall E.P base m .append [37, 37] [v5_2, x0]) fun v7_3 m => (fVal v7_3 fun v => some (.ret v, m))))))
def keep42 : Keep := { region := fun i => ([[0], [0, 4], [2], [2]] : List (List Nat))[i]?, exit := fun i => ([] : List (List Nat))[i]?, ret := some [2] }
noncomputable def lp42 (call : CallF) (fuel base : Nat) : Lp := lpsel []
noncomputable def c42 : Code := Try.f42.body.getD .skip
theorem r42_eq (call : CallF) (fuel base : Nat) (x0 : Value) (m : M) : kbody E call keep42 (lp42 call fuel base) base Try.f42 [x0] m = r42 call fuel base x0 m := by
  kernel_rfl
noncomputable def rf42 : RF := fun call fuel base args m => match args with
  | [x0] => r42 call fuel base x0 m
  | _ => none
theorem r42_lk (call : CallF) (fuel base : Nat) : LoopsOk E call (lp42 call fuel base) fuel base 0 c42 = (And True (And (And True (And (And True True) True)) (And True True))) := by kernel_rfl
theorem r42_fn : E.P.funcs[42]? = some Try.f42 := by kernel_rfl
theorem r42_body : Try.f42.body = some c42 := by kernel_rfl
theorem rf42_ok : RFok E 42 rf42 := by
  refine ⟨Try.f42, r42_fn, fun call fuel base args m r _ h => ?_⟩
  unfold rf42 at h
  split at h
  · rw [← r42_eq] at h
    exact kbody_sound (c := c42) r42_body (Eq.mpr (r42_lk call fuel base) (And.intro trivial (And.intro (And.intro trivial (And.intro (And.intro trivial trivial) trivial)) (And.intro trivial trivial)))) h
  · simp at h
end Go.AM
namespace Go.AM
open Go Go.Proofs
noncomputable def r43_L0 (call : CallF) (fuel base : Nat) (kx0 : Value → Value → M → Res2) (n : Nat) : Value → Value → Value → Value → Value → M → Res2 :=
  Nat.rec (motive := fun _ => Value → Value → Value → Value → Value → M → Res2) (fun _ _ _ _ _ _ => none)
    (fun _ ih x2 x3 x10 x11 x12 m =>
      (k1 (mbin E .lss 3 x12 x11) fun v13_10 => (kb v13_10 (k1 (mindexAddr E.P 45 x10 x12) fun v14_11 => (k1 (xload E.P m 63 v14_11) fun v15_12 => (k2 (xalloc E.P m 63) fun v5_13 m => (ks (xstore E.P base m 63 v5_13 v15_12) fun m => (k1 (mfieldAddr E.P 63 v5_13 4) fun v16_14 => (k1 (xload E.P m 3 v16_14) fun v17_15 => (k1 (mfieldAddr E.P 63 v5_13 3) fun v18_16 => (k1 (xload E.P m 3 v18_16) fun v19_17 => (k1 (mbin E .eql 3 v17_15 v19_17) fun v20_18 => (kb v20_18 (k1 (mfieldAddr E.P 47 x3 1) fun v21_19 => (k1 (xload E.P m 45 v21_19) fun v22_20 => (k1 (xload E.P m 63 v5_13) fun v23_21 => (k2 (xbuildSlice E.P m 45 1 [(0, v23_21)]) fun v24_22 m => (k2 (vcall E.P base m .append [45, 45] [v22_20, v24_22]) fun v25_23 m => (k1 (mfieldAddr E.P 47 x3 1) fun v26_24 => (ks (xstore E.P base m 45 v26_24 v25_23) fun m => (k1 (mbin E .add 3 x12 (.int .i64 1)) fun v27_25 => (ih x2 x3 x10 x11 v27_25 m))))))))) (k1 (mbin E .add 3 x12 (.int .i64 1)) fun v27_26 => (ih x2 x3 x10 x11 v27_26 m)))))))))))) (kx0 x2 x3 m)))) n
noncomputable def r43 (call : CallF) (fuel base : Nat) (x0 : Value) (m : M) : Res2 :=
  (k2 (xbox m x0) fun v1_1 m => (k2 (xalloc E.P m 47) fun v2_2 m => (k1 (mfieldAddr E.P 47 v1_1 0) fun v6_3 => (k1 (xload E.P m 3 v6_3) fun v7_4 => (k1 (mbuild E.P 47 [(0, v7_4)]) fun v8_5 => (k2 (xalloc E.P m 47) fun v3_6 m => (ks (xstore E.P base m 47 v3_6 v8_5) fun m => (k1 (mfieldAddr E.P 47 v1_1 1) fun v9_7 => (k1 (xload E.P m 45 v9_7) fun v10_8 => (k2 (vcall E.P base m .len [45] [v10_8]) fun v11_9 m => (r43_L0 call fuel base (fun y2_27 y3_28 m => (k1 (xload E.P m 47 y3_28) fun v28_29 => (ks (xstore E.P base m 47 y2_27 v28_29) fun m => (k0 (mload E.P m 47 y2_27) fun r_30 => (fVal r_30 fun v => some (.ret v, m)))))) fuel v2_2 v3_6 v10_8 v11_9 (.int .i64 0) m)))))))))))
def keep43 : Keep := { region := fun i => ([[1, 2], [1, 2, 3], [2, 3, 10, 11, 12], [2, 3, 10, 11, 12, 13], [2, 3, 5, 10, 11, 12], [2, 3, 5, 10, 11, 12, 20], [2, 3, 10, 11, 12], [2, 3, 10, 11, 12], [2]] : List (List Nat))[i]?, exit := fun i => ([[2, 3], [2, 3, 10, 11, 12]] : List (List Nat))[i]?, ret := some [2] }
noncomputable def r43_L0_R (call : CallF) (fuel base n : Nat) (vs : List Value) (m : M) (K : KT) : Res2 := match vs with
  | [x2, x3, x10, x11, x12] => r43_L0 call fuel base (fun y2 y3 m => K (.exit 0) { n := 29, l := [(2, y2), (3, y3)] } m) n x2 x3 x10 x11 x12 m
  | _ => none
noncomputable def lp43 (call : CallF) (fuel base : Nat) : Lp := lpsel [(0, fun T m K => kslots 29 [2, 3, 10, 11, 12] T fun vs => r43_L0_R call fuel base fuel vs m K)]
noncomputable def c43 : Code := Try.f43.body.getD .skip
theorem r43_L0_lk (call : CallF) (fuel base : Nat) : LoopsOk E call (lp43 call fuel base) fuel base 0 (loopB (blockB (seqR (seqL (seqR (seqR c43)))))) = (And True (And (And True True) (And (And True (And True (And True True))) True))) := by kernel_rfl
theorem r43_L0_ok (call : CallF) (fuel base : Nat) : LpOk E call (lp43 call fuel base) fuel base 0 (loopB (blockB (seqR (seqL (seqR (seqR c43)))))) := by
  refine loop_ok (kp := keep43) (hb := Eq.mpr (r43_L0_lk call fuel base) (And.intro trivial (And.intro (And.intro trivial trivial) (And.intro (And.intro trivial (And.intro trivial (And.intro trivial trivial))) trivial)))) 29 [2, 3, 10, 11, 12] (fun n vs m K => r43_L0_R call fuel base n vs m K) ?_ ?_ (fun _ _ _ => rfl)
  · intro vs m K
    unfold r43_L0_R
    split <;> rfl
  · intro n vs m K hl
    match vs, hl with
    | [x2, x3, x10, x11, x12], _ => show _ = _; kernel_rfl
theorem r43_eq (call : CallF) (fuel base : Nat) (x0 : Value) (m : M) : kbody E call keep43 (lp43 call fuel base) base Try.f43 [x0] m = r43 call fuel base x0 m := by
  kernel_rfl
noncomputable def rf43 : RF := fun call fuel base args m => match args with
  | [x0] => r43 call fuel base x0 m
  | _ => none
theorem r43_lk (call : CallF) (fuel base : Nat) : LoopsOk E call (lp43 call fuel base) fuel base 0 c43 = (And True (And True (And (And True (LpOk E call (lp43 call fuel base) fuel base 0 (loopB (blockB (seqR (seqL (seqR (seqR c43)))))))) (And True True)))) := by kernel_rfl
theorem r43_fn : E.P.funcs[43]? = some Try.f43 := by kernel_rfl
theorem r43_body : Try.f43.body = some c43 := by kernel_rfl
theorem rf43_ok : RFok E 43 rf43 := by
  refine ⟨Try.f43, r43_fn, fun call fuel base args m r _ h => ?_⟩
  unfold rf43 at h
  split at h
  · rw [← r43_eq] at h
    exact kbody_sound (c := c43) r43_body (Eq.mpr (r43_lk call fuel base) (And.intro trivial (And.intro trivial (And.intro (And.intro trivial (r43_L0_ok call fuel base)) (And.intro trivial trivial))))) h
  · simp at h
end Go.AM
namespace Go.AM
open Go Go.Proofs
noncomputable def r44_L0 (call : CallF) (fuel base : Nat) (kx0 : Value → Value → M → Res2) (n : Nat) : Value → Value → Value → Value → Value → M → Res2 :=
  Nat.rec (motive := fun _ => Value → Value → Value → Value → Value → M → Res2) (fun _ _ _ _ _ _ => none)
    (fun _ ih x4 x5 x17 x18 x19 m =>
      (k1 (mbin E .lss 3 x19 x18) fun v20_13 => (kb v20_13 (k1 (mindexAddr E.P 45 x17 x19) fun v21_14 => (k1 (xload E.P m 63 v21_14) fun v22_15 => (k2 (xalloc E.P m 63) fun v7_16 m => (ks (xstore E.P base m 63 v7_16 v22_15) fun m => (k1 (mfieldAddr E.P 63 v7_16 1) fun v24_17 => (kexv (mexact m v24_17) (k1 (xload E.P m 3 v24_17) fun v25_18 => (k1 (mfieldAddr E.P 63 v7_16 1) fun v27_19 => (k1 (xload E.P m 3 v27_19) fun v28_20 => (k1 (mindexAddr E.P 66 x4 v28_20) fun v29_21 => (k1 (xload E.P m 37 v29_21) fun v30_22 => (k1 (mfieldAddr E.P 63 v7_16 2) fun v31_23 => (k1 (xload E.P m 3 v31_23) fun v32_24 => (k2 (xbuildSlice E.P m 37 1 [(0, v32_24)]) fun v33_25 m => (kexv (mfull [v30_22, v33_25]) (k2 (vcall E.P base m .append [37, 37] [v30_22, v33_25]) fun v34_26 m => (k1 (mindexAddr E.P 66 x4 v25_18) fun v35_27 => (ks (xstore E.P base m 37 v35_27 v34_26) fun m => (k1 (mfieldAddr E.P 63 v7_16 2) fun v37_28 => (kexv (mexact m v37_28) (k1 (xload E.P m 3 v37_28) fun v38_29 => (k1 (mfieldAddr E.P 63 v7_16 2) fun v40_30 => (k1 (xload E.P m 3 v40_30) fun v41_31 => (k1 (mindexAddr E.P 66 x5 v41_31) fun v42_32 => (k1 (xload E.P m 37 v42_32) fun v43_33 => (k1 (mfieldAddr E.P 63 v7_16 1) fun v44_34 => (k1 (xload E.P m 3 v44_34) fun v45_35 => (k2 (xbuildSlice E.P m 37 1 [(0, v45_35)]) fun v46_36 m => (kexv (mfull [v43_33, v46_36]) (k2 (vcall E.P base m .append [37, 37] [v43_33, v46_36]) fun v47_37 m => (k1 (mindexAddr E.P 66 x5 v38_29) fun v48_38 => (ks (xstore E.P base m 37 v48_38 v47_37) fun m => (k1 (mbin E .add 3 x19 (.int .i64 1)) fun v49_39 => (ih x4 x5 x17 x18 v49_39 m)))))))))))))))))))))))))))))))))) (kx0 x4 x5 m)))) n
noncomputable def r44 (call : CallF) (fuel base : Nat) (x0 : Value) (m : M) : Res2 :=
  (k2 (xbox m x0) fun v1_1 m => (k1 (mfieldAddr E.P 47 v1_1 0) fun v8_2 => (k1 (xload E.P m 3 v8_2) fun v9_3 => (kc (kB m (call m.length 49 [v9_3] m)) (fun v10_4 m => (k2 (xmakeSlice E.P m 66 v10_4 v10_4) fun v11_5 m => (k1 (mfieldAddr E.P 47 v1_1 0) fun v12_6 => (k1 (xload E.P m 3 v12_6) fun v13_7 => (kc (kB m (call m.length 49 [v13_7] m)) (fun v14_8 m => (k2 (xmakeSlice E.P m 66 v14_8 v14_8) fun v15_9 m => (k1 (mfieldAddr E.P 47 v1_1 1) fun v16_10 => (k1 (xload E.P m 45 v16_10) fun v17_11 => (k2 (vcall E.P base m .len [45] [v17_11]) fun v18_12 m => (r44_L0 call fuel base (fun y4_40 y5_41 m => (some (.ret (.tuple #[y4_40, y5_41]), m))) fuel v11_5 v15_9 v17_11 v18_12 (.int .i64 0) m)))))) (fun _ _ => none)))))) (fun _ _ => none)))))
def keep44 : Keep := { region := fun i => ([[1], [1, 4, 5], [4, 5, 17, 18, 19], [4, 5, 17, 18, 19, 20], [4, 5, 7, 17, 18, 19], [4, 5, 7, 17, 18, 19], [4, 5, 17, 18, 19], [4, 5, 17, 18, 19], [2, 3]] : List (List Nat))[i]?, exit := fun i => ([[4, 5], [4, 5, 17, 18, 19]] : List (List Nat))[i]?, ret := some [2, 3] }
noncomputable def r44_L0_R (call : CallF) (fuel base n : Nat) (vs : List Value) (m : M) (K : KT) : Res2 := match vs with
  | [x4, x5, x17, x18, x19] => r44_L0 call fuel base (fun y4 y5 m => K (.exit 0) { n := 52, l := [(4, y4), (5, y5)] } m) n x4 x5 x17 x18 x19 m
  | _ => none
noncomputable def lp44 (call : CallF) (fuel base : Nat) : Lp := lpsel [(0, fun T m K => kslots 52 [4, 5, 17, 18, 19] T fun vs => r44_L0_R call fuel base fuel vs m K)]
noncomputable def c44 : Code := Try.f44.body.getD .skip
theorem r44_L0_lk (call : CallF) (fuel base : Nat) : LoopsOk E call (lp44 call fuel base) fuel base 0 (loopB (blockB (seqR (seqL (seqR (seqR c44)))))) = (And True (And (And True True) (And (And True (And True True)) True))) := by kernel_rfl
theorem r44_L0_ok (call : CallF) (fuel base : Nat) : LpOk E call (lp44 call fuel base) fuel base 0 (loopB (blockB (seqR (seqL (seqR (seqR c44)))))) := by
  refine loop_ok (kp := keep44) (hb := Eq.mpr (r44_L0_lk call fuel base) (And.intro trivial (And.intro (And.intro trivial trivial) (And.intro (And.intro trivial (And.intro trivial trivial)) trivial)))) 52 [4, 5, 17, 18, 19] (fun n vs m K => r44_L0_R call fuel base n vs m K) ?_ ?_ (fun _ _ _ => rfl)
  · intro vs m K
    unfold r44_L0_R
    split <;> rfl
  · intro n vs m K hl
    match vs, hl with
    | [x4, x5, x17, x18, x19], _ => show _ = _; kernel_rfl
theorem r44_eq (call : CallF) (fuel base : Nat) (x0 : Value) (m : M) : kbody E call keep44 (lp44 call fuel base) base Try.f44 [x0] m = r44 call fuel base x0 m := by
  kernel_rfl
noncomputable def rf44 : RF := fun call fuel base args m => match args with
  | [x0] => r44 call fuel base x0 m
  | _ => none
theorem r44_lk (call : CallF) (fuel base : Nat) : LoopsOk E call (lp44 call fuel base) fuel base 0 c44 = (And True (And True (And (And True (LpOk E call (lp44 call fuel base) fuel base 0 (loopB (blockB (seqR (seqL (seqR (seqR c44)))))))) (And True True)))) := by kernel_rfl
theorem r44_fn : E.P.funcs[44]? = some Try.f44 := by kernel_rfl
theorem r44_body : Try.f44.body = some c44 := by kernel_rfl
theorem rf44_ok : RFok E 44 rf44 := by
  refine ⟨Try.f44, r44_fn, fun call fuel base args m r _ h => ?_⟩
  unfold rf44 at h
  split at h
  · rw [← r44_eq] at h
    exact kbody_sound (c := c44) r44_body (Eq.mpr (r44_lk call fuel base) (And.intro trivial (And.intro trivial (And.intro (And.intro trivial (r44_L0_ok call fuel base)) (And.intro trivial trivial))))) h
  · simp at h
end Go.AM
namespace Go.AM
open Go Go.Proofs
noncomputable def r45_L0 (call : CallF) (fuel base : Nat) (kp : Value → M → Res2) (kx0 : Value → M → Res2) (n : Nat) : Value → Value → Value → Value → M → Res2 :=
  Nat.rec (motive := fun _ => Value → Value → Value → Value → M → Res2) (fun _ _ _ _ _ => none)
    (fun _ ih x2 x5 x11 x12 m =>
      (k1 (mbin E .lss 3 x12 x11) fun v13_5 => (kb v13_5 (k1 (mfieldAddr E.P 47 x2 0) fun v17_6 => (k1 (xload E.P m 3 v17_6) fun v18_7 => (kc (call base 49 [v18_7] m) (fun v19_8 m => (k2 (xmakeSlice E.P m 37 v19_8 v19_8) fun v20_9 m => (k1 (mindexAddr E.P 28 x5 x12) fun v21_10 => (ks (xstore E.P base m 37 v21_10 v20_9) fun m => (k1 (mbin E .add 3 x12 (.int .i64 1)) fun v22_11 => (ih x2 x5 x11 v22_11 m)))))) (fun v m => kp v m)))) (kx0 x5 m)))) n
noncomputable def r45 (call : CallF) (fuel base : Nat) (x0 : Value) (x1 : Value) (m : M) : Res2 :=
  (k2 (xbox m x0) fun v2_1 m => (k1 (mbin E .add 3 x1 (.int .i64 1)) fun v8_2 => (k2 (xmakeSlice E.P m 28 v8_2 v8_2) fun v9_3 m => (k2 (vcall E.P base m .len [28] [v9_3]) fun v11_4 m => (r45_L0 call fuel base (fun v m => some (.pan v, m)) (fun y5_12 m => (fVal y5_12 fun v => some (.ret v, m))) fuel v2_1 v9_3 v11_4 (.int .i64 0) m)))))
def keep45 : Keep := { region := fun i => ([[1, 2], [2, 5], [2, 5, 11, 12], [2, 5, 11, 12, 13], [2, 5, 6, 11, 12], [2, 5, 11, 12], [2, 5, 11, 12], [4]] : List (List Nat))[i]?, exit := fun i => ([[5], [2, 5, 11, 12]] : List (List Nat))[i]?, ret := some [4] }
noncomputable def r45_L0_R (call : CallF) (fuel base n : Nat) (vs : List Value) (m : M) (K : KT) : Res2 := match vs with
  | [x2, x5, x11, x12] => r45_L0 call fuel base (fun v m => K (.pan v) { n := 24, l := [] } m) (fun y5 m => K (.exit 0) { n := 24, l := [(5, y5)] } m) n x2 x5 x11 x12 m
  | _ => none
noncomputable def lp45 (call : CallF) (fuel base : Nat) : Lp := lpsel [(0, fun T m K => kslots 24 [2, 5, 11, 12] T fun vs => r45_L0_R call fuel base fuel vs m K)]
noncomputable def c45 : Code := Try.f45.body.getD .skip
theorem r45_L0_lk (call : CallF) (fuel base : Nat) : LoopsOk E call (lp45 call fuel base) fuel base 0 (loopB (blockB (seqR (seqL (seqR (seqR c45)))))) = (And True (And (And True True) (And (And True True) True))) := by kernel_rfl
theorem r45_L0_ok (call : CallF) (fuel base : Nat) : LpOk E call (lp45 call fuel base) fuel base 0 (loopB (blockB (seqR (seqL (seqR (seqR c45)))))) := by
  refine loop_ok (kp := keep45) (hb := Eq.mpr (r45_L0_lk call fuel base) (And.intro trivial (And.intro (And.intro trivial trivial) (And.intro (And.intro trivial trivial) trivial)))) 24 [2, 5, 11, 12] (fun n vs m K => r45_L0_R call fuel base n vs m K) ?_ ?_ (fun _ _ _ => rfl)
  · intro vs m K
    unfold r45_L0_R
    split <;> rfl
  · intro n vs m K hl
    match vs, hl with
    | [x2, x5, x11, x12], _ => show _ = _; kernel_rfl
theorem r45_eq (call : CallF) (fuel base : Nat) (x0 : Value) (x1 : Value) (m : M) : kbody E call keep45 (lp45 call fuel base) base Try.f45 [x0, x1] m = r45 call fuel base x0 x1 m := by
  kernel_rfl
noncomputable def rf45 : RF := fun call fuel base args m => match args with
  | [x0, x1] => r45 call fuel base x0 x1 m
  | _ => none
theorem r45_lk (call : CallF) (fuel base : Nat) : LoopsOk E call (lp45 call fuel base) fuel base 0 c45 = (And True (And True (And (And True (LpOk E call (lp45 call fuel base) fuel base 0 (loopB (blockB (seqR (seqL (seqR (seqR c45)))))))) (And True True)))) := by kernel_rfl
theorem r45_fn : E.P.funcs[45]? = some Try.f45 := by kernel_rfl
theorem r45_body : Try.f45.body = some c45 := by kernel_rfl
theorem rf45_ok : RFok E 45 rf45 := by
  refine ⟨Try.f45, r45_fn, fun call fuel base args m r _ h => ?_⟩
  unfold rf45 at h
  split at h
  · rw [← r45_eq] at h
    exact kbody_sound (c := c45) r45_body (Eq.mpr (r45_lk call fuel base) (And.intro trivial (And.intro trivial (And.intro (And.intro trivial (r45_L0_ok call fuel base)) (And.intro trivial trivial))))) h
  · simp at h
end Go.AM
namespace Go.AM
open Go Go.Proofs
noncomputable def r46 (call : CallF) (fuel base : Nat) (x0 : Value) (x1 : Value) (x2 : Value) (m : M) : Res2 :=
  (k1 (mindexAddr E.P 28 x2 (.int .i64 0)) fun v8_1 => (k1 (xload E.P m 37 v8_1) fun v9_2 => (k2 (vcall E.P base m .clear [37] [v9_2]) fun vNone_3 m => (k1 (mindexAddr E.P 28 x2 (.int .i64 0)) fun v11_4 => (k1 (xload E.P m 37 v11_4) fun v12_5 => (k1 (mindexAddr E.P 37 v12_5 x1) fun v14_6 => (ks (xstore E.P base m 3 v14_6 (.int .i64 1)) fun m => (kc (call base 60 [x0, x2] m) (fun v17_7 m => (k2 (vcall E.P base m .len [28] [x2]) fun v20_8 m => (k1 (mbin E .sub 3 v20_8 (.int .i64 1)) fun v21_9 => (k1 (mindexAddr E.P 28 x2 v21_9) fun v22_10 => (k1 (xload E.P m 37 v22_10) fun v23_11 => (fVal v23_11 fun v => some (.ret v, m))))))) (fun v m => some (.pan v, m))))))))))
def keep46 : Keep := { region := fun i => ([[0, 1, 2], [0, 1, 2], [0, 2], [2], [6]] : List (List Nat))[i]?, exit := fun i => ([] : List (List Nat))[i]?, ret := some [6] }
noncomputable def lp46 (call : CallF) (fuel base : Nat) : Lp := lpsel []
noncomputable def c46 : Code := Try.f46.body.getD .skip
theorem r46_eq (call : CallF) (fuel base : Nat) (x0 : Value) (x1 : Value) (x2 : Value) (m : M) : kbody E call keep46 (lp46 call fuel base) base Try.f46 [x0, x1, x2] m = r46 call fuel base x0 x1 x2 m := by
  kernel_rfl
noncomputable def rf46 : RF := fun call fuel base args m => match args with
  | [x0, x1, x2] => r46 call fuel base x0 x1 x2 m
  | _ => none
theorem r46_lk (call : CallF) (fuel base : Nat) : LoopsOk E call (lp46 call fuel base) fuel base 0 c46 = (And True (And True (And True (And True (And True True))))) := by kernel_rfl
theorem r46_fn : E.P.funcs[46]? = some Try.f46 := by kernel_rfl
theorem r46_body : Try.f46.body = some c46 := by kernel_rfl
theorem rf46_ok : RFok E 46 rf46 := by
  refine ⟨Try.f46, r46_fn, fun call fuel base args m r _ h => ?_⟩
  unfold rf46 at h
  split at h
  · rw [← r46_eq] at h
    exact kbody_sound (c := c46) r46_body (Eq.mpr (r46_lk call fuel base) (And.intro trivial (And.intro trivial (And.intro trivial (And.intro trivial (And.intro trivial trivial)))))) h
  · simp at h
end Go.AM
namespace Go.AM
open Go Go.Proofs
noncomputable def r47 (call : CallF) (fuel base : Nat) (x0 : Value) (x1 : Value) (m : M) : Res2 :=
  (k1 (mbin E .add 3 x0 x1) fun v7_1 => (k2 (vcall E.P base m .min [3, 3] [v7_1, (.int .i64 1099511627777)]) fun v8_2 m => (fVal v8_2 fun v => some (.ret v, m))))
def keep47 : Keep := { region := fun i => ([[0, 1], [4]] : List (List Nat))[i]?, exit := fun i => ([] : List (List Nat))[i]?, ret := some [4] }
noncomputable def lp47 (call : CallF) (fuel base : Nat) : Lp := lpsel []
noncomputable def c47 : Code := Try.f47.body.getD .skip
theorem r47_eq (call : CallF) (fuel base : Nat) (x0 : Value) (x1 : Value) (m : M) : kbody E call keep47 (lp47 call fuel base) base Try.f47 [x0, x1] m = r47 call fuel base x0 x1 m := by
  kernel_rfl
noncomputable def rf47 : RF := fun call fuel base args m => match args with
  | [x0, x1] => r47 call fuel base x0 x1 m
  | _ => none
theorem r47_lk (call : CallF) (fuel base : Nat) : LoopsOk E call (lp47 call fuel base) fuel base 0 c47 = (And True (And True True)) := by kernel_rfl
theorem r47_fn : E.P.funcs[47]? = some Try.f47 := by kernel_rfl
theorem r47_body : Try.f47.body = some c47 := by kernel_rfl
theorem rf47_ok : RFok E 47 rf47 := by
  refine ⟨Try.f47, r47_fn, fun call fuel base args m r _ h => ?_⟩
  unfold rf47 at h
  split at h
  · rw [← r47_eq] at h
    exact kbody_sound (c := c47) r47_body (Eq.mpr (r47_lk call fuel base) (And.intro trivial (And.intro trivial trivial))) h
  · simp at h
end Go.AM
namespace Go.AM
open Go Go.Proofs
noncomputable def r48_L0 (call : CallF) (fuel base : Nat) (kp : Value → M → Res2) (kr : Value → M → Res2) (kx0 : Value → Value → M → Res2) (n : Nat) : Value → Value → Value → Value → Value → M → Res2 :=
  Nat.rec (motive := fun _ => Value → Value → Value → Value → Value → M → Res2) (fun _ _ _ _ _ _ => none)
    (fun _ ih x0 x1 x9 x10 x11 m =>
      (k1 (mbin E .lss 3 x11 x10) fun v12_2 => (kb v12_2 (k1 (mindexAddr E.P 37 x9 x11) fun v14_3 => (k1 (xload E.P m 3 v14_3) fun v15_4 => (k2 (vcall E.P base m .len [37] [x1]) fun v18_5 m => (k1 (mbin E .geq 3 x11 v18_5) fun v19_6 => (kb v19_6 (kr (.int .i64 1) m) (k1 (mindexAddr E.P 37 x1 x11) fun v22_7 => (k1 (xload E.P m 3 v22_7) fun v23_8 => (kc (call base 61 [v15_4, v23_8] m) (fun v26_9 m => (k1 (mbin E .neq 3 v26_9 (.int .i64 0)) fun v28_10 => (kb v28_10 (kr v26_9 m) (k1 (mbin E .add 3 x11 (.int .i64 1)) fun v30_11 => (ih x0 x1 x9 x10 v30_11 m))))) (fun v m => kp v m))))))))) (kx0 x0 x1 m)))) n
noncomputable def r48 (call : CallF) (fuel base : Nat) (x0 : Value) (x1 : Value) (m : M) : Res2 :=
  (k2 (vcall E.P base m .len [37] [x0]) fun v10_1 m => (r48_L0 call fuel base (fun v m => some (.pan v, m)) (fun y4_12 m => (fVal y4_12 fun v => some (.ret v, m))) (fun y0_13 y1_14 m => (k2 (vcall E.P base m .len [37] [y0_13]) fun v32_15 m => (k2 (vcall E.P base m .len [37] [y1_14]) fun v34_16 m => (k1 (mbin E .lss 3 v32_15 v34_16) fun v35_17 => (kb v35_17 (fVal (.int .i64 (-1)) fun v => some (.ret v, m)) (fVal (.int .i64 0) fun v => some (.ret v, m))))))) fuel x0 x1 x0 v10_1 (.int .i64 0) m))
def keep48 : Keep := { region := fun i => ([[0, 1], [0, 1, 9, 10, 11], [0, 1, 9, 10, 11, 12], [0, 1, 5, 6, 9, 10, 11], [0, 1, 5, 6, 9, 10, 11, 19], [4], [0, 1, 6, 7, 9, 10, 11], [0, 1, 8, 9, 10, 11], [0, 1, 8, 9, 10, 11, 28], [4], [0, 1, 9, 10, 11], [35], [4], [4]] : List (List Nat))[i]?, exit := fun i => ([[0, 1], [0, 1, 9, 10, 11]] : List (List Nat))[i]?, ret := some [4] }
noncomputable def r48_L0_R (call : CallF) (fuel base n : Nat) (vs : List Value) (m : M) (K : KT) : Res2 := match vs with
  | [x0, x1, x9, x10, x11] => r48_L0 call fuel base (fun v m => K (.pan v) { n := 36, l := [] } m) (fun y4 m => K .ret { n := 36, l := [(4, y4)] } m) (fun y0 y1 m => K (.exit 0) { n := 36, l := [(0, y0), (1, y1)] } m) n x0 x1 x9 x10 x11 m
  | _ => none
noncomputable def lp48 (call : CallF) (fuel base : Nat) : Lp := lpsel [(0, fun T m K => kslots 36 [0, 1, 9, 10, 11] T fun vs => r48_L0_R call fuel base fuel vs m K)]
noncomputable def c48 : Code := Try.f48.body.getD .skip
theorem r48_L0_lk (call : CallF) (fuel base : Nat) : LoopsOk E call (lp48 call fuel base) fuel base 0 (loopB (blockB (seqR (seqL (seqR c48))))) = (And True (And (And True True) (And (And True (And (And True (And (And True True) True)) (And True (And True (And True (And (And True True) True)))))) True))) := by kernel_rfl
theorem r48_L0_ok (call : CallF) (fuel base : Nat) : LpOk E call (lp48 call fuel base) fuel base 0 (loopB (blockB (seqR (seqL (seqR c48))))) := by
  refine loop_ok (kp := keep48) (hb := Eq.mpr (r48_L0_lk call fuel base) (And.intro trivial (And.intro (And.intro trivial trivial) (And.intro (And.intro trivial (And.intro (And.intro trivial (And.intro (And.intro trivial trivial) trivial)) (And.intro trivial (And.intro trivial (And.intro trivial (And.intro (And.intro trivial trivial) trivial)))))) trivial)))) 36 [0, 1, 9, 10, 11] (fun n vs m K => r48_L0_R call fuel base n vs m K) ?_ ?_ (fun _ _ _ => rfl)
  · intro vs m K
    unfold r48_L0_R
    split <;> rfl
  · intro n vs m K hl
    match vs, hl with
    | [x0, x1, x9, x10, x11], _ => show _ = _; kernel_rfl
theorem r48_eq (call : CallF) (fuel base : Nat) (x0 : Value) (x1 : Value) (m : M) : kbody E call keep48 (lp48 call fuel base) base Try.f48 [x0, x1] m = r48 call fuel base x0 x1 m := by
  kernel_rfl
noncomputable def rf48 : RF := fun call fuel base args m => match args with
  | [x0, x1] => r48 call fuel base x0 x1 m
  | _ => none
theorem r48_lk (call : CallF) (fuel base : Nat) : LoopsOk E call (lp48 call fuel base) fuel base 0 c48 = (And True (And (And True (LpOk E call (lp48 call fuel base) fuel base 0 (loopB (blockB (seqR (seqL (seqR c48))))))) (And (And True (And (And True True) True)) (And True True)))) := by kernel_rfl
theorem r48_fn : E.P.funcs[48]? = some Try.f48 := by kernel_rfl
theorem r48_body : Try.f48.body = some c48 := by kernel_rfl
theorem rf48_ok : RFok E 48 rf48 := by
  refine ⟨Try.f48, r48_fn, fun call fuel base args m r _ h => ?_⟩
  unfold rf48 at h
  split at h
  · rw [← r48_eq] at h
    exact kbody_sound (c := c48) r48_body (Eq.mpr (r48_lk call fuel base) (And.intro trivial (And.intro (And.intro trivial (r48_L0_ok call fuel base)) (And.intro (And.intro trivial (And.intro (And.intro trivial trivial) trivial)) (And.intro trivial trivial))))) h
  · simp at h
end Go.AM
namespace Go.AM
open Go Go.Proofs
noncomputable def r49_L0 (call : CallF) (fuel base : Nat) (kx0 : Value → M → Res2) (n : Nat) : Value → Value → Value → M → Res2 :=
  Nat.rec (motive := fun _ => Value → Value → Value → M → Res2) (fun _ _ _ _ => none)
    (fun _ ih x3 x4 x5 m =>
      (k1 (mbin E .lss 3 x5 x4) fun v6_1 => (kb v6_1 (k1 (mbin E .mul 3 x3 (.int .i64 8)) fun v8_2 => (k1 (mbin E .add 3 x5 (.int .i64 1)) fun v9_3 => (ih v8_2 x4 v9_3 m))) (kx0 x3 m)))) n
noncomputable def r49 (call : CallF) (fuel base : Nat) (x0 : Value) (m : M) : Res2 :=
  (r49_L0 call fuel base (fun y3_4 m => (fVal y3_4 fun v => some (.ret v, m))) fuel (.int .i64 1) x0 (.int .i64 0) m)
def keep49 : Keep := { region := fun i => ([[0], [0, 3], [3, 4, 5], [3, 4, 5, 6], [3, 4, 5], [3, 4, 5], [2]] : List (List Nat))[i]?, exit := fun i => ([[3], [3, 4, 5]] : List (List Nat))[i]?, ret := some [2] }
noncomputable def r49_L0_R (call : CallF) (fuel base n : Nat) (vs : List Value) (m : M) (K : KT) : Res2 := match vs with
  | [x3, x4, x5] => r49_L0 call fuel base (fun y3 m => K (.exit 0) { n := 11, l := [(3, y3)] } m) n x3 x4 x5 m
  | _ => none
noncomputable def lp49 (call : CallF) (fuel base : Nat) : Lp := lpsel [(0, fun T m K => kslots 11 [3, 4, 5] T fun vs => r49_L0_R call fuel base fuel vs m K)]
noncomputable def c49 : Code := Try.f49.body.getD .skip
theorem r49_L0_lk (call : CallF) (fuel base : Nat) : LoopsOk E call (lp49 call fuel base) fuel base 0 (loopB (blockB (seqR (seqL (seqR (seqR c49)))))) = (And True (And (And True True) (And True True))) := by kernel_rfl
theorem r49_L0_ok (call : CallF) (fuel base : Nat) : LpOk E call (lp49 call fuel base) fuel base 0 (loopB (blockB (seqR (seqL (seqR (seqR c49)))))) := by
  refine loop_ok (kp := keep49) (hb := Eq.mpr (r49_L0_lk call fuel base) (And.intro trivial (And.intro (And.intro trivial trivial) (And.intro trivial trivial)))) 11 [3, 4, 5] (fun n vs m K => r49_L0_R call fuel base n vs m K) ?_ ?_ (fun _ _ _ => rfl)
  · intro vs m K
    unfold r49_L0_R
    split <;> rfl
  · intro n vs m K hl
    match vs, hl with
    | [x3, x4, x5], _ => show _ = _; kernel_rfl
theorem r49_eq (call : CallF) (fuel base : Nat) (x0 : Value) (m : M) : kbody E call keep49 (lp49 call fuel base) base Try.f49 [x0] m = r49 call fuel base x0 m := by
  kernel_rfl
noncomputable def rf49 : RF := fun call fuel base args m => match args with
  | [x0] => r49 call fuel base x0 m
  | _ => none
theorem r49_lk (call : CallF) (fuel base : Nat) : LoopsOk E call (lp49 call fuel base) fuel base 0 c49 = (And True (And True (And (And True (LpOk E call (lp49 call fuel base) fuel base 0 (loopB (blockB (seqR (seqL (seqR (seqR c49)))))))) (And True True)))) := by kernel_rfl
theorem r49_fn : E.P.funcs[49]? = some Try.f49 := by kernel_rfl
theorem r49_body : Try.f49.body = some c49 := by kernel_rfl
theorem rf49_ok : RFok E 49 rf49 := by
  refine ⟨Try.f49, r49_fn, fun call fuel base args m r _ h => ?_⟩
  unfold rf49 at h
  split at h
  · rw [← r49_eq] at h
    exact kbody_sound (c := c49) r49_body (Eq.mpr (r49_lk call fuel base) (And.intro trivial (And.intro trivial (And.intro (And.intro trivial (r49_L0_ok call fuel base)) (And.intro trivial trivial))))) h
  · simp at h
end Go.AM
namespace Go.AM
open Go Go.Proofs
noncomputable def r50_L0 (call : CallF) (fuel base : Nat) (kx0 : Value → M → Res2) (n : Nat) : Value → Value → Value → Value → M → Res2 :=
  Nat.rec (motive := fun _ => Value → Value → Value → Value → M → Res2) (fun _ _ _ _ _ => none)
    (fun _ ih x3 x6 x7 x8 m =>
      (k1 (mbin E .lss 3 x8 x7) fun v9_2 => (kb v9_2 (k1 (mindexAddr E.P 37 x6 x8) fun v10_3 => (k1 (xload E.P m 3 v10_3) fun v11_4 => (k1 (mbin E .mul 3 x3 (.int .i64 8)) fun v13_5 => (k1 (mbin E .add 3 v13_5 v11_4) fun v15_6 => (k1 (mbin E .add 3 x8 (.int .i64 1)) fun v16_7 => (ih v15_6 x6 x7 v16_7 m)))))) (kx0 x3 m)))) n
noncomputable def r50 (call : CallF) (fuel base : Nat) (x0 : Value) (m : M) : Res2 :=
  (k2 (vcall E.P base m .len [37] [x0]) fun v7_1 m => (r50_L0 call fuel base (fun y3_8 m => (fVal y3_8 fun v => some (.ret v, m))) fuel (.int .i64 0) x0 v7_1 (.int .i64 0) m))
def keep50 : Keep := { region := fun i => ([[0], [0, 3], [3, 6, 7, 8], [3, 6, 7, 8, 9], [3, 5, 6, 7, 8], [3, 6, 7, 8], [3, 6, 7, 8], [2]] : List (List Nat))[i]?, exit := fun i => ([[3], [3, 6, 7, 8]] : List (List Nat))[i]?, ret := some [2] }
noncomputable def r50_L0_R (call : CallF) (fuel base n : Nat) (vs : List Value) (m : M) (K : KT) : Res2 := match vs with
  | [x3, x6, x7, x8] => r50_L0 call fuel base (fun y3 m => K (.exit 0) { n := 18, l := [(3, y3)] } m) n x3 x6 x7 x8 m
  | _ => none
noncomputable def lp50 (call : CallF) (fuel base : Nat) : Lp := lpsel [(0, fun T m K => kslots 18 [3, 6, 7, 8] T fun vs => r50_L0_R call fuel base fuel vs m K)]
noncomputable def c50 : Code := Try.f50.body.getD .skip
theorem r50_L0_lk (call : CallF) (fuel base : Nat) : LoopsOk E call (lp50 call fuel base) fuel base 0 (loopB (blockB (seqR (seqL (seqR (seqR c50)))))) = (And True (And (And True True) (And (And True True) True))) := by kernel_rfl
theorem r50_L0_ok (call : CallF) (fuel base : Nat) : LpOk E call (lp50 call fuel base) fuel base 0 (loopB (blockB (seqR (seqL (seqR (seqR c50)))))) := by
  refine loop_ok (kp := keep50) (hb := Eq.mpr (r50_L0_lk call fuel base) (And.intro trivial (And.intro (And.intro trivial trivial) (And.intro (And.intro trivial trivial) trivial)))) 18 [3, 6, 7, 8] (fun n vs m K => r50_L0_R call fuel base n vs m K) ?_ ?_ (fun _ _ _ => rfl)
  · intro vs m K
    unfold r50_L0_R
    split <;> rfl
  · intro n vs m K hl
    match vs, hl with
    | [x3, x6, x7, x8], _ => show _ = _; kernel_rfl
theorem r50_eq (call : CallF) (fuel base : Nat) (x0 : Value) (m : M) : kbody E call keep50 (lp50 call fuel base) base Try.f50 [x0] m = r50 call fuel base x0 m := by
  kernel_rfl
noncomputable def rf50 : RF := fun call fuel base args m => match args with
  | [x0] => r50 call fuel base x0 m
  | _ => none
theorem r50_lk (call : CallF) (fuel base : Nat) : LoopsOk E call (lp50 call fuel base) fuel base 0 c50 = (And True (And True (And (And True (LpOk E call (lp50 call fuel base) fuel base 0 (loopB (blockB (seqR (seqL (seqR (seqR c50)))))))) (And True True)))) := by kernel_rfl
theorem r50_fn : E.P.funcs[50]? = some Try.f50 := by kernel_rfl
theorem r50_body : Try.f50.body = some c50 := by kernel_rfl
theorem rf50_ok : RFok E 50 rf50 := by
  refine ⟨Try.f50, r50_fn, fun call fuel base args m r _ h => ?_⟩
  unfold rf50 at h
  split at h
  · rw [← r50_eq] at h
    exact kbody_sound (c := c50) r50_body (Eq.mpr (r50_lk call fuel base) (And.intro trivial (And.intro trivial (And.intro (And.intro trivial (r50_L0_ok call fuel base)) (And.intro trivial trivial))))) h
  · simp at h
end Go.AM
namespace Go.AM
open Go Go.Proofs
noncomputable def r51 (call : CallF) (fuel base : Nat) (x0 : Value) (x1 : Value) (x2 : Value) (m : M) : Res2 :=
  (k1 (xload E.P m 37 x1) fun v5_1 => (k1 (mindexAddr E.P 37 v5_1 x0) fun v7_2 => (k1 (xload E.P m 3 v7_2) fun v8_3 => (k1 (xload E.P m 37 x2) fun v9_4 => (k1 (mindexAddr E.P 37 v9_4 (.int .i64 0)) fun v10_5 => (k1 (xload E.P m 3 v10_5) fun v11_6 => (k1 (mbin E .geq 3 v8_3 v11_6) fun v12_7 => (fVal v12_7 fun v => some (.ret v, m)))))))))
def keep51 : Keep := { region := fun i => ([[0, 1, 2], [4]] : List (List Nat))[i]?, exit := fun i => ([] : List (List Nat))[i]?, ret := some [4] }
noncomputable def lp51 (call : CallF) (fuel base : Nat) : Lp := lpsel []
noncomputable def c51 : Code := Try.f51.body.getD .skip
theorem r51_eq (call : CallF) (fuel base : Nat) (x0 : Value) (x1 : Value) (x2 : Value) (m : M) : kbody E call keep51 (lp51 call fuel base) base Try.f51 [x0, x1, x2] m = r51 call fuel base x0 x1 x2 m := by
  kernel_rfl
noncomputable def rf51 : RF := fun call fuel base args m => match args with
  | [x0, x1, x2] => r51 call fuel base x0 x1 x2 m
  | _ => none
theorem r51_lk (call : CallF) (fuel base : Nat) : LoopsOk E call (lp51 call fuel base) fuel base 0 c51 = (And True (And True True)) := by kernel_rfl
theorem r51_fn : E.P.funcs[51]? = some Try.f51 := by kernel_rfl
theorem r51_body : Try.f51.body = some c51 := by kernel_rfl
theorem rf51_ok : RFok E 51 rf51 := by
  refine ⟨Try.f51, r51_fn, fun call fuel base args m r _ h => ?_⟩
  unfold rf51 at h
  split at h
  · rw [← r51_eq] at h
    exact kbody_sound (c := c51) r51_body (Eq.mpr (r51_lk call fuel base) (And.intro trivial (And.intro trivial trivial))) h
  · simp at h
end Go.AM
namespace Go.AM
open Go Go.Proofs
noncomputable def r52_L0 (call : CallF) (fuel base : Nat) (kx0 : Value → Value → M → Res2) (n : Nat) : Value → Value → Value → Value → Value → M → Res2 :=
  Nat.rec (motive := fun _ => Value → Value → Value → Value → Value → M → Res2) (fun _ _ _ _ _ _ => none)
    (fun _ ih x0 x3 x9 x10 x11 m =>
      (k1 (mbin E .lss 3 x11 x10) fun v12_2 => (kb v12_2 (k1 (mindexAddr E.P 28 x9 x11) fun v13_3 => (k1 (xload E.P m 37 v13_3) fun v14_4 => (k2 (vcall E.P base m .len [37] [v14_4]) fun v17_5 m => (k1 (mbin E .add 3 x3 v17_5) fun v18_6 => (k1 (mbin E .lss 3 v18_6 (.int .i64 0)) fun v20_7 => (kb v20_7 none (k1 (mbin E .add 3 x11 (.int .i64 1)) fun v22_8 => (ih x0 v18_6 x9 x10 v22_8 m)))))))) (kx0 x0 x3 m)))) n
noncomputable def r52_L2 (call : CallF) (fuel base : Nat) (kx2 : Value → M → Res2) (n : Nat) : Value → Value → Value → Value → M → Res2 :=
  Nat.rec (motive := fun _ => Value → Value → Value → Value → M → Res2) (fun _ _ _ _ _ => none)
    (fun _ ih x6 x25 x26 x27 m =>
      (k1 (mbin E .lss 3 x27 x26) fun v28_13 => (kb v28_13 (k1 (mindexAddr E.P 28 x25 x27) fun v29_14 => (k1 (xload E.P m 37 v29_14) fun v30_15 => (k2 (vcall E.P base m .append [37, 37] [x6, v30_15]) fun v33_16 m => (k1 (mbin E .add 3 x27 (.int .i64 1)) fun v34_17 => (ih v33_16 x25 x26 v34_17 m))))) (kx2 x6 m)))) n
noncomputable def r52 (call : CallF) (fuel base : Nat) (x0 : Value) (m : M) : Res2 :=
  (k2 (vcall E.P base m .len [28] [x0]) fun v10_1 m => (r52_L0 call fuel base (fun y0_9 y3_10 m => (kc (call base 62 [(.slice none 0 0), y3_10] m) (fun v24_11 m => (k2 (vcall E.P base m .len [28] [y0_9]) fun v26_12 m => (r52_L2 call fuel base (fun y6_18 m => (fVal y6_18 fun v => some (.ret v, m))) fuel v24_11 y0_9 v26_12 (.int .i64 0) m))) (fun v m => some (.pan v, m)))) fuel x0 (.int .i64 0) x0 v10_1 (.int .i64 0) m))
def keep52 : Keep := { region := fun i => ([[0], [0, 3], [0, 3, 9, 10, 11], [0, 3, 9, 10, 11, 12], [0, 3, 5, 9, 10, 11], [0, 3, 9, 10, 11], [0, 3, 9, 10, 11, 20], [0, 3, 9, 10, 11], [0, 3, 9, 10, 11], [0, 6], [6, 25, 26, 27], [6, 25, 26, 27, 28], [6, 8, 25, 26, 27], [6, 25, 26, 27], [6, 25, 26, 27], [2]] : List (List Nat))[i]?, exit := fun i => ([[0, 3], [0, 3, 9, 10, 11], [6], [6, 25, 26, 27]] : List (List Nat))[i]?, ret := some [2] }
noncomputable def r52_L0_R (call : CallF) (fuel base n : Nat) (vs : List Value) (m : M) (K : KT) : Res2 := match vs with
  | [x0, x3, x9, x10, x11] => r52_L0 call fuel base (fun y0 y3 m => K (.exit 0) { n := 36, l := [(0, y0), (3, y3)] } m) n x0 x3 x9 x10 x11 m
  | _ => none
noncomputable def r52_L2_R (call : CallF) (fuel base n : Nat) (vs : List Value) (m : M) (K : KT) : Res2 := match vs with
  | [x6, x25, x26, x27] => r52_L2 call fuel base (fun y6 m => K (.exit 2) { n := 36, l := [(6, y6)] } m) n x6 x25 x26 x27 m
  | _ => none
noncomputable def lp52 (call : CallF) (fuel base : Nat) : Lp := lpsel [(0, fun T m K => kslots 36 [0, 3, 9, 10, 11] T fun vs => r52_L0_R call fuel base fuel vs m K), (2, fun T m K => kslots 36 [6, 25, 26, 27] T fun vs => r52_L2_R call fuel base fuel vs m K)]
noncomputable def c52 : Code := Try.f52.body.getD .skip
theorem r52_L0_lk (call : CallF) (fuel base : Nat) : LoopsOk E call (lp52 call fuel base) fuel base 0 (loopB (blockB (seqR (seqL (seqR (seqR c52)))))) = (And True (And (And True True) (And (And True (And True (And True (And True True)))) True))) := by kernel_rfl
theorem r52_L0_ok (call : CallF) (fuel base : Nat) : LpOk E call (lp52 call fuel base) fuel base 0 (loopB (blockB (seqR (seqL (seqR (seqR c52)))))) := by
  refine loop_ok (kp := keep52) (hb := Eq.mpr (r52_L0_lk call fuel base) (And.intro trivial (And.intro (And.intro trivial trivial) (And.intro (And.intro trivial (And.intro trivial (And.intro trivial (And.intro trivial trivial)))) trivial)))) 36 [0, 3, 9, 10, 11] (fun n vs m K => r52_L0_R call fuel base n vs m K) ?_ ?_ (fun _ _ _ => rfl)
  · intro vs m K
    unfold r52_L0_R
    split <;> rfl
  · intro n vs m K hl
    match vs, hl with
    | [x0, x3, x9, x10, x11], _ => show _ = _; kernel_rfl
theorem r52_L2_lk (call : CallF) (fuel base : Nat) : LoopsOk E call (lp52 call fuel base) fuel base 2 (loopB (blockB (seqR (seqL (seqR (seqR (seqR (seqR c52)))))))) = (And True (And (And True True) (And (And True True) True))) := by kernel_rfl
theorem r52_L2_ok (call : CallF) (fuel base : Nat) : LpOk E call (lp52 call fuel base) fuel base 2 (loopB (blockB (seqR (seqL (seqR (seqR (seqR (seqR c52)))))))) := by
  refine loop_ok (kp := keep52) (hb := Eq.mpr (r52_L2_lk call fuel base) (And.intro trivial (And.intro (And.intro trivial trivial) (And.intro (And.intro trivial trivial) trivial)))) 36 [6, 25, 26, 27] (fun n vs m K => r52_L2_R call fuel base n vs m K) ?_ ?_ (fun _ _ _ => rfl)
  · intro vs m K
    unfold r52_L2_R
    split <;> rfl
  · intro n vs m K hl
    match vs, hl with
    | [x6, x25, x26, x27], _ => show _ = _; kernel_rfl
theorem r52_eq (call : CallF) (fuel base : Nat) (x0 : Value) (m : M) : kbody E call keep52 (lp52 call fuel base) base Try.f52 [x0] m = r52 call fuel base x0 m := by
  kernel_rfl
noncomputable def rf52 : RF := fun call fuel base args m => match args with
  | [x0] => r52 call fuel base x0 m
  | _ => none
theorem r52_lk (call : CallF) (fuel base : Nat) : LoopsOk E call (lp52 call fuel base) fuel base 0 c52 = (And True (And True (And (And True (LpOk E call (lp52 call fuel base) fuel base 0 (loopB (blockB (seqR (seqL (seqR (seqR c52)))))))) (And True (And (And True (LpOk E call (lp52 call fuel base) fuel base 2 (loopB (blockB (seqR (seqL (seqR (seqR (seqR (seqR c52)))))))))) (And True True)))))) := by kernel_rfl
theorem r52_fn : E.P.funcs[52]? = some Try.f52 := by kernel_rfl
theorem r52_body : Try.f52.body = some c52 := by kernel_rfl
theorem rf52_ok : RFok E 52 rf52 := by
  refine ⟨Try.f52, r52_fn, fun call fuel base args m r _ h => ?_⟩
  unfold rf52 at h
  split at h
  · rw [← r52_eq] at h
    exact kbody_sound (c := c52) r52_body (Eq.mpr (r52_lk call fuel base) (And.intro trivial (And.intro trivial (And.intro (And.intro trivial (r52_L0_ok call fuel base)) (And.intro trivial (And.intro (And.intro trivial (r52_L2_ok call fuel base)) (And.intro trivial trivial))))))) h
  · simp at h
end Go.AM
namespace Go.AM
open Go Go.Proofs
noncomputable def r53_L0 (call : CallF) (fuel base : Nat) (kx0 : Value → M → Res2) (n : Nat) : Value → Value → Value → M → Res2 :=
  Nat.rec (motive := fun _ => Value → Value → Value → M → Res2) (fun _ _ _ _ => none)
    (fun _ ih x0 x5 x6 m =>
      (k1 (mbin E .geq 3 x6 (.int .i64 0)) fun v12_3 => (kb v12_3 (k1 (mbin E .rem 3 x0 (.int .i64 8)) fun v18_4 => (k1 (mindexAddr E.P 37 x5 x6) fun v19_5 => (ks (xstore E.P base m 3 v19_5 v18_4) fun m => (k1 (mbin E .quo 3 x0 (.int .i64 8)) fun v21_6 => (k1 (mbin E .sub 3 x6 (.int .i64 1)) fun v14_7 => (ih v21_6 x5 v14_7 m)))))) (kx0 x5 m)))) n
noncomputable def r53 (call : CallF) (fuel base : Nat) (x0 : Value) (x1 : Value) (m : M) : Res2 :=
  (k2 (xmakeSlice E.P m 37 x1 x1) fun v8_1 m => (k1 (mbin E .sub 3 x1 (.int .i64 1)) fun v10_2 => (r53_L0 call fuel base (fun y5_8 m => (fVal y5_8 fun v => some (.ret v, m))) fuel x0 v8_1 v10_2 m)))
def keep53 : Keep := { region := fun i => ([[0, 1], [0, 1, 5], [0, 5, 6], [0, 5, 6, 12], [0, 5, 6], [0, 5, 6], [0, 5, 6], [4]] : List (List Nat))[i]?, exit := fun i => ([[5], [0, 5, 6]] : List (List Nat))[i]?, ret := some [4] }
noncomputable def r53_L0_R (call : CallF) (fuel base n : Nat) (vs : List Value) (m : M) (K : KT) : Res2 := match vs with
  | [x0, x5, x6] => r53_L0 call fuel base (fun y5 m => K (.exit 0) { n := 23, l := [(5, y5)] } m) n x0 x5 x6 m
  | _ => none
noncomputable def lp53 (call : CallF) (fuel base : Nat) : Lp := lpsel [(0, fun T m K => kslots 23 [0, 5, 6] T fun vs => r53_L0_R call fuel base fuel vs m K)]
noncomputable def c53 : Code := Try.f53.body.getD .skip
theorem r53_L0_lk (call : CallF) (fuel base : Nat) : LoopsOk E call (lp53 call fuel base) fuel base 0 (loopB (blockB (seqR (seqL (seqR (seqR c53)))))) = (And (And True (And True True)) (And (And True True) True)) := by kernel_rfl
theorem r53_L0_ok (call : CallF) (fuel base : Nat) : LpOk E call (lp53 call fuel base) fuel base 0 (loopB (blockB (seqR (seqL (seqR (seqR c53)))))) := by
  refine loop_ok (kp := keep53) (hb := Eq.mpr (r53_L0_lk call fuel base) (And.intro (And.intro trivial (And.intro trivial trivial)) (And.intro (And.intro trivial trivial) trivial))) 23 [0, 5, 6] (fun n vs m K => r53_L0_R call fuel base n vs m K) ?_ ?_ (fun _ _ _ => rfl)
  · intro vs m K
    unfold r53_L0_R
    split <;> rfl
  · intro n vs m K hl
    match vs, hl with
    | [x0, x5, x6], _ => show _ = _; kernel_rfl
theorem r53_eq (call : CallF) (fuel base : Nat) (x0 : Value) (x1 : Value) (m : M) : kbody E call keep53 (lp53 call fuel base) base Try.f53 [x0, x1] m = r53 call fuel base x0 x1 m := by
  kernel_rfl
noncomputable def rf53 : RF := fun call fuel base args m => match args with
  | [x0, x1] => r53 call fuel base x0 x1 m
  | _ => none
theorem r53_lk (call : CallF) (fuel base : Nat) : LoopsOk E call (lp53 call fuel base) fuel base 0 c53 = (And True (And True (And (And True (LpOk E call (lp53 call fuel base) fuel base 0 (loopB (blockB (seqR (seqL (seqR (seqR c53)))))))) (And True True)))) := by kernel_rfl
theorem r53_fn : E.P.funcs[53]? = some Try.f53 := by kernel_rfl
theorem r53_body : Try.f53.body = some c53 := by kernel_rfl
theorem rf53_ok : RFok E 53 rf53 := by
  refine ⟨Try.f53, r53_fn, fun call fuel base args m r _ h => ?_⟩
  unfold rf53 at h
  split at h
  · rw [← r53_eq] at h
    exact kbody_sound (c := c53) r53_body (Eq.mpr (r53_lk call fuel base) (And.intro trivial (And.intro trivial (And.intro (And.intro trivial (r53_L0_ok call fuel base)) (And.intro trivial trivial))))) h
  · simp at h
end Go.AM
namespace Go.AM
open Go Go.Proofs
noncomputable def r54_L0 (call : CallF) (fuel base : Nat) (kp : Value → M → Res2) (kr : Value → M → Res2) (kx0 : M → Res2) (n : Nat) : Value → Value → Value → Value → M → Res2 :=
  Nat.rec (motive := fun _ => Value → Value → Value → Value → M → Res2) (fun _ _ _ _ _ => none)
    (fun _ ih x0 x1 x7 x8 m =>
      (k1 (mbin E .lss 3 x8 x7) fun v9_2 => (kb v9_2 (k1 (mindexAddr E.P 37 x0 x8) fun v14_3 => (k1 (xload E.P m 3 v14_3) fun v15_4 => (kc (kv call base x1 [v15_4] m) (fun v16_5 m => (kb v16_5 (kr x8 m) (k1 (mbin E .add 3 x8 (.int .i64 1)) fun v18_6 => (ih x0 x1 x7 v18_6 m)))) (fun v m => kp v m)))) (kx0 m)))) n
noncomputable def r54 (call : CallF) (fuel base : Nat) (x0 : Value) (x1 : Value) (m : M) : Res2 :=
  (k2 (vcall E.P base m .len [37] [x0]) fun v7_1 m => (r54_L0 call fuel base (fun v m => some (.pan v, m)) (fun y4_7 m => (fVal y4_7 fun v => some (.ret v, m))) (fun m => (fVal (.int .i64 (-1)) fun v => some (.ret v, m))) fuel x0 x1 v7_1 (.int .i64 0) m))
def keep54 : Keep := { region := fun i => ([[0, 1], [0, 1, 7, 8], [0, 1, 7, 8, 9], [0, 1, 5, 7, 8], [0, 1, 5, 7, 8, 16], [4], [0, 1, 7, 8], [4]] : List (List Nat))[i]?, exit := fun i => ([[], [0, 1, 7, 8]] : List (List Nat))[i]?, ret := some [4] }
noncomputable def r54_L0_R (call : CallF) (fuel base n : Nat) (vs : List Value) (m : M) (K : KT) : Res2 := match vs with
  | [x0, x1, x7, x8] => r54_L0 call fuel base (fun v m => K (.pan v) { n := 19, l := [] } m) (fun y4 m => K .ret { n := 19, l := [(4, y4)] } m) (fun m => K (.exit 0) { n := 19, l := [] } m) n x0 x1 x7 x8 m
  | _ => none
noncomputable def lp54 (call : CallF) (fuel base : Nat) : Lp := lpsel [(0, fun T m K => kslots 19 [0, 1, 7, 8] T fun vs => r54_L0_R call fuel base fuel vs m K)]
noncomputable def c54 : Code := Try.f54.body.getD .skip
theorem r54_L0_lk (call : CallF) (fuel base : Nat) : LoopsOk E call (lp54 call fuel base) fuel base 0 (loopB (blockB (seqR (seqL (seqR c54))))) = (And True (And (And True True) (And (And True (And True (And (And True True) True))) True))) := by kernel_rfl
theorem r54_L0_ok (call : CallF) (fuel base : Nat) : LpOk E call (lp54 call fuel base) fuel base 0 (loopB (blockB (seqR (seqL (seqR c54))))) := by
  refine loop_ok (kp := keep54) (hb := Eq.mpr (r54_L0_lk call fuel base) (And.intro trivial (And.intro (And.intro trivial trivial) (And.intro (And.intro trivial (And.intro trivial (And.intro (And.intro trivial trivial) trivial))) trivial)))) 19 [0, 1, 7, 8] (fun n vs m K => r54_L0_R call fuel base n vs m K) ?_ ?_ (fun _ _ _ => rfl)
  · intro vs m K
    unfold r54_L0_R
    split <;> rfl
  · intro n vs m K hl
    match vs, hl with
    | [x0, x1, x7, x8], _ => show _ = _; kernel_rfl
theorem r54_eq (call : CallF) (fuel base : Nat) (x0 : Value) (x1 : Value) (m : M) : kbody E call keep54 (lp54 call fuel base) base Try.f54 [x0, x1] m = r54 call fuel base x0 x1 m := by
  kernel_rfl
noncomputable def rf54 : RF := fun call fuel base args m => match args with
  | [x0, x1] => r54 call fuel base x0 x1 m
  | _ => none
theorem r54_lk (call : CallF) (fuel base : Nat) : LoopsOk E call (lp54 call fuel base) fuel base 0 c54 = (And True (And (And True (LpOk E call (lp54 call fuel base) fuel base 0 (loopB (blockB (seqR (seqL (seqR c54))))))) (And True True))) := by kernel_rfl
theorem r54_fn : E.P.funcs[54]? = some Try.f54 := by kernel_rfl
theorem r54_body : Try.f54.body = some c54 := by kernel_rfl
theorem rf54_ok : RFok E 54 rf54 := by
  refine ⟨Try.f54, r54_fn, fun call fuel base args m r _ h => ?_⟩
  unfold rf54 at h
  split at h
  · rw [← r54_eq] at h
    exact kbody_sound (c := c54) r54_body (Eq.mpr (r54_lk call fuel base) (And.intro trivial (And.intro (And.intro trivial (r54_L0_ok call fuel base)) (And.intro trivial trivial)))) h
  · simp at h
end Go.AM
namespace Go.AM
open Go Go.Proofs
noncomputable def r55_L0 (call : CallF) (fuel base : Nat) (kr : Value → M → Res2) (kx0 : M → Res2) (n : Nat) : Value → Value → Value → Value → M → Res2 :=
  Nat.rec (motive := fun _ => Value → Value → Value → Value → M → Res2) (fun _ _ _ _ _ => none)
    (fun _ ih x0 x3 x7 x8 m =>
      (k1 (mbin E .lss 3 x8 x7) fun v9_3 => (kb v9_3 (k1 (xload E.P m 35 x3) fun v11_4 => (k1 (mindexAddr E.P 22 x0 x8) fun v14_5 => (k1 (xload E.P m 35 v14_5) fun v15_6 => (k1 (mbin E .eql 35 v11_4 v15_6) fun v16_7 => (kb v16_7 (kr x8 m) (k1 (mbin E .add 3 x8 (.int .i64 1)) fun v18_8 => (ih x0 x3 x7 v18_8 m))))))) (kx0 m)))) n
noncomputable def r55 (call : CallF) (fuel base : Nat) (x0 : Value) (x1 : Value) (m : M) : Res2 :=
  (k2 (xbox m x1) fun v3_1 m => (k2 (vcall E.P base m .len [22] [x0]) fun v7_2 m => (r55_L0 call fuel base (fun y4_9 m => (fVal y4_9 fun v => some (.ret v, m))) (fun m => (fVal (.int .i64 (-1)) fun v => some (.ret v, m))) fuel x0 v3_1 v7_2 (.int .i64 0) m)))
def keep55 : Keep := { region := fun i => ([[0, 3], [0, 3, 7, 8], [0, 3, 7, 8, 9], [0, 3, 5, 7, 8], [0, 3, 5, 7, 8, 16], [4], [0, 3, 7, 8], [4]] : List (List Nat))[i]?, exit := fun i => ([[], [0, 3, 7, 8]] : List (List Nat))[i]?, ret := some [4] }
noncomputable def r55_L0_R (call : CallF) (fuel base n : Nat) (vs : List Value) (m : M) (K : KT) : Res2 := match vs with
  | [x0, x3, x7, x8] => r55_L0 call fuel base (fun y4 m => K .ret { n := 19, l := [(4, y4)] } m) (fun m => K (.exit 0) { n := 19, l := [] } m) n x0 x3 x7 x8 m
  | _ => none
noncomputable def lp55 (call : CallF) (fuel base : Nat) : Lp := lpsel [(0, fun T m K => kslots 19 [0, 3, 7, 8] T fun vs => r55_L0_R call fuel base fuel vs m K)]
noncomputable def c55 : Code := Try.f55.body.getD .skip
theorem r55_L0_lk (call : CallF) (fuel base : Nat) : LoopsOk E call (lp55 call fuel base) fuel base 0 (loopB (blockB (seqR (seqL (seqR c55))))) = (And True (And (And True True) (And (And True (And True (And (And True True) True))) True))) := by kernel_rfl
theorem r55_L0_ok (call : CallF) (fuel base : Nat) : LpOk E call (lp55 call fuel base) fuel base 0 (loopB (blockB (seqR (seqL (seqR c55))))) := by
  refine loop_ok (kp := keep55) (hb := Eq.mpr (r55_L0_lk call fuel base) (And.intro trivial (And.intro (And.intro trivial trivial) (And.intro (And.intro trivial (And.intro trivial (And.intro (And.intro trivial trivial) trivial))) trivial)))) 19 [0, 3, 7, 8] (fun n vs m K => r55_L0_R call fuel base n vs m K) ?_ ?_ (fun _ _ _ => rfl)
  · intro vs m K
    unfold r55_L0_R
    split <;> rfl
  · intro n vs m K hl
    match vs, hl with
    | [x0, x3, x7, x8], _ => show _ = _; kernel_rfl
theorem r55_eq (call : CallF) (fuel base : Nat) (x0 : Value) (x1 : Value) (m : M) : kbody E call keep55 (lp55 call fuel base) base Try.f55 [x0, x1] m = r55 call fuel base x0 x1 m := by
  kernel_rfl
noncomputable def rf55 : RF := fun call fuel base args m => match args with
  | [x0, x1] => r55 call fuel base x0 x1 m
  | _ => none
theorem r55_lk (call : CallF) (fuel base : Nat) : LoopsOk E call (lp55 call fuel base) fuel base 0 c55 = (And True (And (And True (LpOk E call (lp55 call fuel base) fuel base 0 (loopB (blockB (seqR (seqL (seqR c55))))))) (And True True))) := by kernel_rfl
theorem r55_fn : E.P.funcs[55]? = some Try.f55 := by kernel_rfl
theorem r55_body : Try.f55.body = some c55 := by kernel_rfl
theorem rf55_ok : RFok E 55 rf55 := by
  refine ⟨Try.f55, r55_fn, fun call fuel base args m r _ h => ?_⟩
  unfold rf55 at h
  split at h
  · rw [← r55_eq] at h
    exact kbody_sound (c := c55) r55_body (Eq.mpr (r55_lk call fuel base) (And.intro trivial (And.intro (And.intro trivial (r55_L0_ok call fuel base)) (And.intro trivial trivial)))) h
  · simp at h
end Go.AM
namespace Go.AM
open Go Go.Proofs
noncomputable def r56 (call : CallF) (fuel base : Nat) (x0 : Value) (m : M) : Res2 :=
  (k1 (mbin E .geq 3 x0 (.int .i64 1)) fun v4_1 => (kb v4_1 (k1 (mbin E .leq 3 x0 (.int .i64 4)) fun v7_2 => (fVal v7_2 fun v => some (.ret v, m))) (fVal (.bool false) fun v => some (.ret v, m))))
def keep56 : Keep := { region := fun i => ([[0], [2]] : List (List Nat))[i]?, exit := fun i => ([] : List (List Nat))[i]?, ret := some [2] }
noncomputable def lp56 (call : CallF) (fuel base : Nat) : Lp := lpsel []
noncomputable def c56 : Code := Try.f56.body.getD .skip
theorem r56_eq (call : CallF) (fuel base : Nat) (x0 : Value) (m : M) : kbody E call keep56 (lp56 call fuel base) base Try.f56 [x0] m = r56 call fuel base x0 m := by
  kernel_rfl
noncomputable def rf56 : RF := fun call fuel base args m => match args with
  | [x0] => r56 call fuel base x0 m
  | _ => none
theorem r56_lk (call : CallF) (fuel base : Nat) : LoopsOk E call (lp56 call fuel base) fuel base 0 c56 = (And True (And True True)) := by kernel_rfl
theorem r56_fn : E.P.funcs[56]? = some Try.f56 := by kernel_rfl
theorem r56_body : Try.f56.body = some c56 := by kernel_rfl
theorem rf56_ok : RFok E 56 rf56 := by
  refine ⟨Try.f56, r56_fn, fun call fuel base args m r _ h => ?_⟩
  unfold rf56 at h
  split at h
  · rw [← r56_eq] at h
    exact kbody_sound (c := c56) r56_body (Eq.mpr (r56_lk call fuel base) (And.intro trivial (And.intro trivial trivial))) h
  · simp at h
end Go.AM
namespace Go.AM
open Go Go.Proofs
noncomputable def r57_L0 (call : CallF) (fuel base : Nat) (kx0 : Value → M → Res2) (n : Nat) : Value → Value → Value → Value → M → Res2 :=
  Nat.rec (motive := fun _ => Value → Value → Value → Value → M → Res2) (fun _ _ _ _ _ => none)
    (fun _ ih x0 x1 x5 x6 m =>
      (k1 (mbin E .lss 3 x6 x1) fun v9_1 => (kb v9_1 (k1 (mbin E .mul 3 x5 x0) fun v14_2 => (k1 (mbin E .add 3 x6 (.int .i64 1)) fun v11_3 => (ih x0 x1 v14_2 v11_3 m))) (kx0 x5 m)))) n
noncomputable def r57 (call : CallF) (fuel base : Nat) (x0 : Value) (x1 : Value) (m : M) : Res2 :=
  (r57_L0 call fuel base (fun y5_4 m => (fVal y5_4 fun v => some (.ret v, m))) fuel x0 x1 (.int .i64 1) (.int .i64 0) m)
def keep57 : Keep := { region := fun i => ([[0, 1], [0, 1, 5], [0, 1, 5, 6], [0, 1, 5, 6, 9], [0, 1, 5, 6], [0, 1, 5, 6], [4]] : List (List Nat))[i]?, exit := fun i => ([[5], [0, 1, 5, 6]] : List (List Nat))[i]?, ret := some [4] }
noncomputable def r57_L0_R (call : CallF) (fuel base n : Nat) (vs : List Value) (m : M) (K : KT) : Res2 := match vs with
  | [x0, x1, x5, x6] => r57_L0 call fuel base (fun y5 m => K (.exit 0) { n := 16, l := [(5, y5)] } m) n x0 x1 x5 x6 m
  | _ => none
noncomputable def lp57 (call : CallF) (fuel base : Nat) : Lp := lpsel [(0, fun T m K => kslots 16 [0, 1, 5, 6] T fun vs => r57_L0_R call fuel base fuel vs m K)]
noncomputable def c57 : Code := Try.f57.body.getD .skip
theorem r57_L0_lk (call : CallF) (fuel base : Nat) : LoopsOk E call (lp57 call fuel base) fuel base 0 (loopB (blockB (seqR (seqL (seqR (seqR c57)))))) = (And (And True (And True True)) (And True True)) := by kernel_rfl
theorem r57_L0_ok (call : CallF) (fuel base : Nat) : LpOk E call (lp57 call fuel base) fuel base 0 (loopB (blockB (seqR (seqL (seqR (seqR c57)))))) := by
  refine loop_ok (kp := keep57) (hb := Eq.mpr (r57_L0_lk call fuel base) (And.intro (And.intro trivial (And.intro trivial trivial)) (And.intro trivial trivial))) 16 [0, 1, 5, 6] (fun n vs m K => r57_L0_R call fuel base n vs m K) ?_ ?_ (fun _ _ _ => rfl)
  · intro vs m K
    unfold r57_L0_R
    split <;> rfl
  · intro n vs m K hl
    match vs, hl with
    | [x0, x1, x5, x6], _ => show _ = _; kernel_rfl
theorem r57_eq (call : CallF) (fuel base : Nat) (x0 : Value) (x1 : Value) (m : M) : kbody E call keep57 (lp57 call fuel base) base Try.f57 [x0, x1] m = r57 call fuel base x0 x1 m := by
  kernel_rfl
noncomputable def rf57 : RF := fun call fuel base args m => match args with
  | [x0, x1] => r57 call fuel base x0 x1 m
  | _ => none
theorem r57_lk (call : CallF) (fuel base : Nat) : LoopsOk E call (lp57 call fuel base) fuel base 0 c57 = (And True (And True (And (And True (LpOk E call (lp57 call fuel base) fuel base 0 (loopB (blockB (seqR (seqL (seqR (seqR c57)))))))) (And True True)))) := by kernel_rfl
theorem r57_fn : E.P.funcs[57]? = some Try.f57 := by kernel_rfl
theorem r57_body : Try.f57.body = some c57 := by kernel_rfl
theorem rf57_ok : RFok E 57 rf57 := by
  refine ⟨Try.f57, r57_fn, fun call fuel base args m r _ h => ?_⟩
  unfold rf57 at h
  split at h
  · rw [← r57_eq] at h
    exact kbody_sound (c := c57) r57_body (Eq.mpr (r57_lk call fuel base) (And.intro trivial (And.intro trivial (And.intro (And.intro trivial (r57_L0_ok call fuel base)) (And.intro trivial trivial))))) h
  · simp at h
end Go.AM
namespace Go.AM
open Go Go.Proofs
noncomputable def r58_L0 (call : CallF) (fuel base : Nat) (kx0 : M → Res2) (n : Nat) : Value → Value → Value → Value → Value → Value → Value → Value → Value → Value → Value → M → Res2 :=
  Nat.rec (motive := fun _ => Value → Value → Value → Value → Value → Value → Value → Value → Value → Value → Value → M → Res2) (fun _ _ _ _ _ _ _ _ _ _ _ _ => none)
    (fun _ ih x0 x1 x2 x3 x4 x5 x6 x7 x8 x18 x19 m =>
      (k2 (vcall E.P base m .len [22] [x0]) fun v38_9 m => (k1 (mbin E .lss 3 x19 v38_9) fun v39_10 => (kb v39_10 (k1 (mindexAddr E.P 22 x0 x19) fun v44_11 => (k1 (mfieldAddr E.P 35 v44_11 3) fun v45_12 => (k1 (xload E.P m 3 v45_12) fun v46_13 => (k1 (mbin E .eql 3 v46_13 x6) fun v48_14 => (kb v48_14 (k1 (mindexAddr E.P 22 x0 x19) fun v52_15 => (k1 (mfieldAddr E.P 35 v52_15 0) fun v53_16 => (k1 (xload E.P m 3 v53_16) fun v54_17 => (k1 (mbin E .quo 3 x4 x18) fun v58_18 => (k2 (vcall E.P base m .len [37] [x1]) fun v60_19 m => (k1 (mbin E .rem 3 v58_18 v60_19) fun v61_20 => (k1 (mindexAddr E.P 37 x1 v61_20) fun v62_21 => (k1 (xload E.P m 3 v62_21) fun v63_22 => (k1 (mbin E .eql 3 v54_17 v63_22) fun v64_23 => (kb v64_23 (k1 (mbin E .add 3 x3 (.int .i64 1)) fun v70_24 => (k1 (mindexAddr E.P 22 x0 x19) fun v76_25 => (k1 (mfieldAddr E.P 35 v76_25 2) fun v77_26 => (k1 (xload E.P m 3 v77_26) fun v78_27 => (kc (kB m (call m.length 63 [x1, v78_27] m)) (fun v79_28 m => (k1 (mbin E .mul 3 v79_28 x18) fun v81_29 => (k1 (mbin E .add 3 x5 v81_29) fun v82_30 => (k1 (mindexAddr E.P 22 x0 x19) fun v85_31 => (k1 (mfieldAddr E.P 35 v85_31 1) fun v86_32 => (k1 (xload E.P m 3 v86_32) fun v87_33 => (kc (call base 58 [x0, x1, x2, v70_24, x4, v82_30, v87_33, x7, x8] m) (fun v90_34 m => (k1 (mbin E .add 3 x19 (.int .i64 1)) fun v41_35 => (ih x0 x1 x2 x3 x4 x5 x6 x7 x8 x18 v41_35 m))) (fun _ _ => none)))))))) (fun _ _ => none)))))) (k1 (mbin E .add 3 x19 (.int .i64 1)) fun v41_36 => (ih x0 x1 x2 x3 x4 x5 x6 x7 x8 x18 v41_36 m)))))))))))) (k1 (mbin E .add 3 x19 (.int .i64 1)) fun v41_37 => (ih x0 x1 x2 x3 x4 x5 x6 x7 x8 x18 v41_37 m))))))) (kx0 m))))) n
noncomputable def r58 (call : CallF) (fuel base : Nat) (x0 : Value) (x1 : Value) (x2 : Value) (x3 : Value) (x4 : Value) (x5 : Value) (x6 : Value) (x7 : Value) (x8 : Value) (m : M) : Res2 :=
  (k1 (mbin E .eql 3 x3 x2) fun v22_1 => (kb v22_1 (k1 (mbin E .eql 3 x6 x7) fun v25_2 => (kb v25_2 (k1 (mindexAddr E.P 37 x8 x5) fun v28_3 => (k1 (xload E.P m 3 v28_3) fun v29_4 => (k1 (mbin E .add 3 v29_4 (.int .i64 1)) fun v30_5 => (k1 (mindexAddr E.P 37 x8 x5) fun v31_6 => (ks (xstore E.P base m 3 v31_6 v30_5) fun m => (some (.ret (.tuple #[]), m))))))) (some (.ret (.tuple #[]), m)))) (k2 (vcall E.P base m .len [37] [x1]) fun v33_7 m => (kc (call base 57 [v33_7, x3] m) (fun v35_8 m => (r58_L0 call fuel base (fun m => (some (.ret (.tuple #[]), m))) fuel x0 x1 x2 x3 x4 x5 x6 x7 x8 v35_8 (.int .i64 0) m)) (fun v m => some (.pan v, m))))))
def keep58 : Keep := { region := fun i => ([[0, 1, 2, 3, 4, 5, 6, 7, 8, 22], [5, 8, 25], [], [0, 1, 2, 3, 4, 5, 6, 7, 8, 18], [0, 1, 2, 3, 4, 5, 6, 7, 8, 18, 19], [0, 1, 2, 3, 4, 5, 6, 7, 8, 18, 19, 39], [0, 1, 2, 3, 4, 5, 6, 7, 8, 18, 19], [0, 1, 2, 3, 4, 5, 6, 7, 8, 18, 19, 65], [0, 1, 2, 3, 4, 5, 6, 7, 8, 18, 19]] : List (List Nat))[i]?, exit := fun i => ([[], [0, 1, 2, 3, 4, 5, 6, 7, 8, 18, 19]] : List (List Nat))[i]?, ret := some [] }
noncomputable def r58_L0_R (call : CallF) (fuel base n : Nat) (vs : List Value) (m : M) (K : KT) : Res2 := match vs with
  | [x0, x1, x2, x3, x4, x5, x6, x7, x8, x18, x19] => r58_L0 call fuel base (fun m => K (.exit 0) { n := 91, l := [] } m) n x0 x1 x2 x3 x4 x5 x6 x7 x8 x18 x19 m
  | _ => none
noncomputable def lp58 (call : CallF) (fuel base : Nat) : Lp := lpsel [(0, fun T m K => kslots 91 [0, 1, 2, 3, 4, 5, 6, 7, 8, 18, 19] T fun vs => r58_L0_R call fuel base fuel vs m K)]
noncomputable def c58 : Code := Try.f58.body.getD .skip
theorem r58_L0_lk (call : CallF) (fuel base : Nat) : LoopsOk E call (lp58 call fuel base) fuel base 0 (loopB (blockB (seqR (seqR (seqR c58))))) = (And (And True (And True True)) (And (And True (And True True)) True)) := by kernel_rfl
theorem r58_L0_ok (call : CallF) (fuel base : Nat) : LpOk E call (lp58 call fuel base) fuel base 0 (loopB (blockB (seqR (seqR (seqR c58))))) := by
  refine loop_ok (kp := keep58) (hb := Eq.mpr (r58_L0_lk call fuel base) (And.intro (And.intro trivial (And.intro trivial trivial)) (And.intro (And.intro trivial (And.intro trivial trivial)) trivial))) 91 [0, 1, 2, 3, 4, 5, 6, 7, 8, 18, 19] (fun n vs m K => r58_L0_R call fuel base n vs m K) ?_ ?_ (fun _ _ _ => rfl)
  · intro vs m K
    unfold r58_L0_R
    split <;> rfl
  · intro n vs m K hl
    match vs, hl with
    | [x0, x1, x2, x3, x4, x5, x6, x7, x8, x18, x19], _ => show _ = _; kernel_rfl
theorem r58_eq (call : CallF) (fuel base : Nat) (x0 : Value) (x1 : Value) (x2 : Value) (x3 : Value) (x4 : Value) (x5 : Value) (x6 : Value) (x7 : Value) (x8 : Value) (m : M) : kbody E call keep58 (lp58 call fuel base) base Try.f58 [x0, x1, x2, x3, x4, x5, x6, x7, x8] m = r58 call fuel base x0 x1 x2 x3 x4 x5 x6 x7 x8 m := by
  kernel_rfl
noncomputable def rf58 : RF := fun call fuel base args m => match args with
  | [x0, x1, x2, x3, x4, x5, x6, x7, x8] => r58 call fuel base x0 x1 x2 x3 x4 x5 x6 x7 x8 m
  | _ => none
theorem r58_lk (call : CallF) (fuel base : Nat) : LoopsOk E call (lp58 call fuel base) fuel base 0 c58 = (And (And True (And (And (And True (And True True)) True) True)) (And True (And True (LpOk E call (lp58 call fuel base) fuel base 0 (loopB (blockB (seqR (seqR (seqR c58))))))))) := by kernel_rfl
theorem r58_fn : E.P.funcs[58]? = some Try.f58 := by kernel_rfl
theorem r58_body : Try.f58.body = some c58 := by kernel_rfl
theorem rf58_ok : RFok E 58 rf58 := by
  refine ⟨Try.f58, r58_fn, fun call fuel base args m r _ h => ?_⟩
  unfold rf58 at h
  split at h
  · rw [← r58_eq] at h
    exact kbody_sound (c := c58) r58_body (Eq.mpr (r58_lk call fuel base) (And.intro (And.intro trivial (And.intro (And.intro (And.intro trivial (And.intro trivial trivial)) trivial) trivial)) (And.intro trivial (And.intro trivial (r58_L0_ok call fuel base))))) h
  · simp at h
end Go.AM
namespace Go.AM
open Go Go.Proofs
noncomputable def r59 (call : CallF) (fuel base : Nat) (x0 : Value) (x1 : Value) (x2 : Value) (x3 : Value) (m : M) : Res2 :=
  (k2 (xbox m x0) fun v4_1 m => (k2 (xbox m x3) fun v7_2 m => (k2 (xalloc E.P m 63) fun v8_3 m => (k1 (mbin E .eql 3 x1 (.int .i64 0)) fun v10_4 => (kb v10_4 (k1 (mfieldAddr E.P 35 v7_2 3) fun v11_5 => (k1 (xload E.P m 3 v11_5) fun v12_6 => (k1 (mfieldAddr E.P 63 v4_1 3) fun v13_7 => (ks (xstore E.P base m 3 v13_7 v12_6) fun m => (k1 (mfieldAddr E.P 63 v4_1 0) fun v16_8 => (k1 (mindexAddr E.P 61 v16_8 x1) fun v17_9 => (ks (xstore E.P base m 3 v17_9 x2) fun m => (k1 (mfieldAddr E.P 35 v7_2 1) fun v18_10 => (k1 (xload E.P m 3 v18_10) fun v19_11 => (k1 (mfieldAddr E.P 63 v4_1 4) fun v20_12 => (ks (xstore E.P base m 3 v20_12 v19_11) fun m => (k1 (mfieldAddr E.P 63 v4_1 1) fun v21_13 => (k1 (xload E.P m 3 v21_13) fun v22_14 => (k1 (mbin E .mul 3 v22_14 (.int .i64 8)) fun v23_15 => (k1 (mfieldAddr E.P 35 v7_2 0) fun v24_16 => (k1 (xload E.P m 3 v24_16) fun v25_17 => (k1 (mbin E .add 3 v23_15 v25_17) fun v26_18 => (k1 (mfieldAddr E.P 63 v4_1 1) fun v27_19 => (ks (xstore E.P base m 3 v27_19 v26_18) fun m => (k1 (mfieldAddr E.P 63 v4_1 2) fun v28_20 => (k1 (xload E.P m 3 v28_20) fun v29_21 => (k1 (mbin E .mul 3 v29_21 (.int .i64 8)) fun v30_22 => (k1 (mfieldAddr E.P 35 v7_2 2) fun v31_23 => (k1 (xload E.P m 3 v31_23) fun v32_24 => (k1 (mbin E .add 3 v30_22 v32_24) fun v33_25 => (k1 (mfieldAddr E.P 63 v4_1 2) fun v34_26 => (ks (xstore E.P base m 3 v34_26 v33_25) fun m => (k1 (xload E.P m 63 v4_1) fun v35_27 => (ks (xstore E.P base m 63 v8_3 v35_27) fun m => (k0 (mload E.P m 63 v8_3) fun r_28 => (fVal r_28 fun v => some (.ret v, m)))))))))))))))))))))))))))))))) (k1 (mfieldAddr E.P 63 v4_1 0) fun v16_29 => (k1 (mindexAddr E.P 61 v16_29 x1) fun v17_30 => (ks (xstore E.P base m 3 v17_30 x2) fun m => (k1 (mfieldAddr E.P 35 v7_2 1) fun v18_31 => (k1 (xload E.P m 3 v18_31) fun v19_32 => (k1 (mfieldAddr E.P 63 v4_1 4) fun v20_33 => (ks (xstore E.P base m 3 v20_33 v19_32) fun m => (k1 (mfieldAddr E.P 63 v4_1 1) fun v21_34 => (k1 (xload E.P m 3 v21_34) fun v22_35 => (k1 (mbin E .mul 3 v22_35 (.int .i64 8)) fun v23_36 => (k1 (mfieldAddr E.P 35 v7_2 0) fun v24_37 => (k1 (xload E.P m 3 v24_37) fun v25_38 => (k1 (mbin E .add 3 v23_36 v25_38) fun v26_39 => (k1 (mfieldAddr E.P 63 v4_1 1) fun v27_40 => (ks (xstore E.P base m 3 v27_40 v26_39) fun m => (k1 (mfieldAddr E.P 63 v4_1 2) fun v28_41 => (k1 (xload E.P m 3 v28_41) fun v29_42 => (k1 (mbin E .mul 3 v29_42 (.int .i64 8)) fun v30_43 => (k1 (mfieldAddr E.P 35 v7_2 2) fun v31_44 => (k1 (xload E.P m 3 v31_44) fun v32_45 => (k1 (mbin E .add 3 v30_43 v32_45) fun v33_46 => (k1 (mfieldAddr E.P 63 v4_1 2) fun v34_47 => (ks (xstore E.P base m 3 v34_47 v33_46) fun m => (k1 (xload E.P m 63 v4_1) fun v35_48 => (ks (xstore E.P base m 63 v8_3 v35_48) fun m => (k0 (mload E.P m 63 v8_3) fun r_49 => (fVal r_49 fun v => some (.ret v, m)))))))))))))))))))))))))))))))))
def keep59 : Keep := { region := fun i => ([[1, 2, 4, 7, 8], [1, 2, 4, 7, 8, 10], [1, 2, 4, 7, 8], [4, 7, 8], [4, 7, 8], [4, 7, 8], [4, 8], [8]] : List (List Nat))[i]?, exit := fun i => ([] : List (List Nat))[i]?, ret := some [8] }
noncomputable def lp59 (call : CallF) (fuel base : Nat) : Lp := lpsel []
noncomputable def c59 : Code := Try.f59.body.getD .skip
theorem r59_eq (call : CallF) (fuel base : Nat) (x0 : Value) (x1 : Value) (x2 : Value) (x3 : Value) (m : M) : kbody E call keep59 (lp59 call fuel base) base Try.f59 [x0, x1, x2, x3] m = r59 call fuel base x0 x1 x2 x3 m := by
  kernel_rfl
noncomputable def rf59 : RF := fun call fuel base args m => match args with
  | [x0, x1, x2, x3] => r59 call fuel base x0 x1 x2 x3 m
  | _ => none
theorem r59_lk (call : CallF) (fuel base : Nat) : LoopsOk E call (lp59 call fuel base) fuel base 0 c59 = (And True (And (And True (And True True)) (And True (And True (And True (And True (And True True))))))) := by kernel_rfl
theorem r59_fn : E.P.funcs[59]? = some Try.f59 := by kernel_rfl
theorem r59_body : Try.f59.body = some c59 := by kernel_rfl
theorem rf59_ok : RFok E 59 rf59 := by
  refine ⟨Try.f59, r59_fn, fun call fuel base args m r _ h => ?_⟩
  unfold rf59 at h
  split at h
  · rw [← r59_eq] at h
    exact kbody_sound (c := c59) r59_body (Eq.mpr (r59_lk call fuel base) (And.intro trivial (And.intro (And.intro trivial (And.intro trivial trivial)) (And.intro trivial (And.intro trivial (And.intro trivial (And.intro trivial (And.intro trivial trivial)))))))) h
  · simp at h
end Go.AM
namespace Go.AM
open Go Go.Proofs
noncomputable def r60_L0 (call : CallF) (fuel base : Nat) (kx0 : M → Res2) (n : Nat) : Value → Value → Value → Value → M → Res2 :=
  Nat.rec (motive := fun _ => Value → Value → Value → Value → M → Res2) (fun _ _ _ _ _ => none)
    (fun _ ih x0 x1 x7 x8 m =>
      (k1 (mbin E .lss 3 x8 x7) fun v9_3 => (kb v9_3 (k1 (mindexAddr E.P 28 x1 x8) fun v14_4 => (k1 (xload E.P m 37 v14_4) fun v15_5 => (k1 (mbin E .add 3 x8 (.int .i64 1)) fun v18_6 => (k1 (mindexAddr E.P 28 x1 v18_6) fun v19_7 => (k1 (xload E.P m 37 v19_7) fun v20_8 => (kc (call base 64 [x0, v15_5, v20_8] m) (fun v21_9 m => (k1 (mbin E .add 3 x8 (.int .i64 1)) fun v22_10 => (ih x0 x1 x7 v22_10 m))) (fun _ _ => none))))))) (kx0 m)))) n
noncomputable def r60 (call : CallF) (fuel base : Nat) (x0 : Value) (x1 : Value) (m : M) : Res2 :=
  (k2 (vcall E.P base m .len [28] [x1]) fun v6_1 m => (k1 (mbin E .sub 3 v6_1 (.int .i64 1)) fun v7_2 => (r60_L0 call fuel base (fun m => (some (.ret (.tuple #[]), m))) fuel x0 x1 v7_2 (.int .i64 0) m)))
def keep60 : Keep := { region := fun i => ([[0, 1, 7, 8], [0, 1, 7, 8, 9], [0, 1, 4, 7, 8], [0, 1, 7, 8], [0, 1, 7, 8]] : List (List Nat))[i]?, exit := fun i => ([[], [0, 1, 7, 8]] : List (List Nat))[i]?, ret := some [] }
noncomputable def r60_L0_R (call : CallF) (fuel base n : Nat) (vs : List Value) (m : M) (K : KT) : Res2 := match vs with
  | [x0, x1, x7, x8] => r60_L0 call fuel base (fun m => K (.exit 0) { n := 23, l := [] } m) n x0 x1 x7 x8 m
  | _ => none
noncomputable def lp60 (call : CallF) (fuel base : Nat) : Lp := lpsel [(0, fun T m K => kslots 23 [0, 1, 7, 8] T fun vs => r60_L0_R call fuel base fuel vs m K)]
noncomputable def c60 : Code := Try.f60.body.getD .skip
theorem r60_L0_lk (call : CallF) (fuel base : Nat) : LoopsOk E call (lp60 call fuel base) fuel base 0 (loopB (blockB (seqR c60))) = (And True (And (And True True) (And (And True True) True))) := by kernel_rfl
theorem r60_L0_ok (call : CallF) (fuel base : Nat) : LpOk E call (lp60 call fuel base) fuel base 0 (loopB (blockB (seqR c60))) := by
  refine loop_ok (kp := keep60) (hb := Eq.mpr (r60_L0_lk call fuel base) (And.intro trivial (And.intro (And.intro trivial trivial) (And.intro (And.intro trivial trivial) trivial)))) 23 [0, 1, 7, 8] (fun n vs m K => r60_L0_R call fuel base n vs m K) ?_ ?_ (fun _ _ _ => rfl)
  · intro vs m K
    unfold r60_L0_R
    split <;> rfl
  · intro n vs m K hl
    match vs, hl with
    | [x0, x1, x7, x8], _ => show _ = _; kernel_rfl
theorem r60_eq (call : CallF) (fuel base : Nat) (x0 : Value) (x1 : Value) (m : M) : kbody E call keep60 (lp60 call fuel base) base Try.f60 [x0, x1] m = r60 call fuel base x0 x1 m := by
  kernel_rfl
noncomputable def rf60 : RF := fun call fuel base args m => match args with
  | [x0, x1] => r60 call fuel base x0 x1 m
  | _ => none
theorem r60_lk (call : CallF) (fuel base : Nat) : LoopsOk E call (lp60 call fuel base) fuel base 0 c60 = (And True (LpOk E call (lp60 call fuel base) fuel base 0 (loopB (blockB (seqR c60))))) := by kernel_rfl
theorem r60_fn : E.P.funcs[60]? = some Try.f60 := by kernel_rfl
theorem r60_body : Try.f60.body = some c60 := by kernel_rfl
theorem rf60_ok : RFok E 60 rf60 := by
  refine ⟨Try.f60, r60_fn, fun call fuel base args m r _ h => ?_⟩
  unfold rf60 at h
  split at h
  · rw [← r60_eq] at h
    exact kbody_sound (c := c60) r60_body (Eq.mpr (r60_lk call fuel base) (And.intro trivial (r60_L0_ok call fuel base))) h
  · simp at h
end Go.AM
namespace Go.AM
open Go Go.Proofs
noncomputable def r61 (call : CallF) (fuel base : Nat) (x0 : Value) (x1 : Value) (m : M) : Res2 :=
  (kc (call base 65 [x0] m) (fun v8_1 m => (kc (call base 65 [x1] m) (fun v10_2 m => (kb v8_1 (kb v10_2 (fVal (.int .i64 0) fun v => some (.ret v, m)) (fVal (.int .i64 (-1)) fun v => some (.ret v, m))) (kb v10_2 (fVal (.int .i64 1) fun v => some (.ret v, m)) (k1 (mbin E .lss 3 x0 x1) fun v16_3 => (kb v16_3 (fVal (.int .i64 (-1)) fun v => some (.ret v, m)) (k1 (mbin E .gtr 3 x0 x1) fun v19_4 => (kb v19_4 (fVal (.int .i64 1) fun v => some (.ret v, m)) (fVal (.int .i64 0) fun v => some (.ret v, m))))))))) (fun v m => some (.pan v, m)))) (fun v m => some (.pan v, m)))
def keep61 : Keep := { region := fun i => ([[0, 1], [0, 1, 5], [0, 1, 5, 6], [0, 1, 6, 11], [12], [4], [4], [0, 1, 13], [4], [0, 1, 16], [4], [19], [4], [4]] : List (List Nat))[i]?, exit := fun i => ([] : List (List Nat))[i]?, ret := some [4] }
noncomputable def lp61 (call : CallF) (fuel base : Nat) : Lp := lpsel []
noncomputable def c61 : Code := Try.f61.body.getD .skip
theorem r61_eq (call : CallF) (fuel base : Nat) (x0 : Value) (x1 : Value) (m : M) : kbody E call keep61 (lp61 call fuel base) base Try.f61 [x0, x1] m = r61 call fuel base x0 x1 m := by
  kernel_rfl
noncomputable def rf61 : RF := fun call fuel base args m => match args with
  | [x0, x1] => r61 call fuel base x0 x1 m
  | _ => none
theorem r61_lk (call : CallF) (fuel base : Nat) : LoopsOk E call (lp61 call fuel base) fuel base 0 c61 = (And True (And True (And True (And (And True (And (And (And True (And (And True True) True)) (And True True)) True)) (And (And True (And (And True True) True)) (And (And True (And (And True True) True)) (And (And True (And (And True True) True)) (And True True)))))))) := by kernel_rfl
theorem r61_fn : E.P.funcs[61]? = some Try.f61 := by kernel_rfl
theorem r61_body : Try.f61.body = some c61 := by kernel_rfl
theorem rf61_ok : RFok E 61 rf61 := by
  refine ⟨Try.f61, r61_fn, fun call fuel base args m r _ h => ?_⟩
  unfold rf61 at h
  split at h
  · rw [← r61_eq] at h
    exact kbody_sound (c := c61) r61_body (Eq.mpr (r61_lk call fuel base) (And.intro trivial (And.intro trivial (And.intro trivial (And.intro (And.intro trivial (And.intro (And.intro (And.intro trivial (And.intro (And.intro trivial trivial) trivial)) (And.intro trivial trivial)) trivial)) (And.intro (And.intro trivial (And.intro (And.intro trivial trivial) trivial)) (And.intro (And.intro trivial (And.intro (And.intro trivial trivial) trivial)) (And.intro (And.intro trivial (And.intro (And.intro trivial trivial) trivial)) (And.intro trivial trivial))))))))) h
  · simp at h
end Go.AM
namespace Go.AM
open Go Go.Proofs
noncomputable def r62 (call : CallF) (fuel base : Nat) (x0 : Value) (x1 : Value) (m : M) : Res2 :=
  (k1 (mbin E .lss 3 x1 (.int .i64 0)) fun v6_1 => (kb v6_1 none (k2 (vcall E.P base m .cap [37] [x0]) fun v10_2 m => (k2 (vcall E.P base m .len [37] [x0]) fun v12_3 m => (k1 (mbin E .sub 3 v10_2 v12_3) fun v13_4 => (k1 (mbin E .sub 3 x1 v13_4) fun v14_5 => (k1 (mbin E .gtr 3 v14_5 (.int .i64 0)) fun v16_6 => (kb v16_6 (k2 (vcall E.P base m .cap [37] [x0]) fun v19_7 m => (k1 (mslice E.P m 37 x0 none (some v19_7) none) fun v20_8 => (k2 (vcall E.P base m .append [37, 3] [v20_8, v14_5]) fun v22_9 m => (k2 (vcall E.P base m .len [37] [x0]) fun v24_10 m => (k1 (mslice E.P m 37 v22_9 none (some v24_10) none) fun v25_11 => (fVal v25_11 fun v => some (.ret v, m))))))) (fVal x0 fun v => some (.ret v, m))))))))))
def keep62 : Keep := { region := fun i => ([[0, 1], [0, 1, 6], [0, 1], [0, 1], [0, 1, 16], [0], [4]] : List (List Nat))[i]?, exit := fun i => ([] : List (List Nat))[i]?, ret := some [4] }
noncomputable def lp62 (call : CallF) (fuel base : Nat) : Lp := lpsel []
noncomputable def c62 : Code := Try.f62.body.getD .skip
theorem r62_eq (call : CallF) (fuel base : Nat) (x0 : Value) (x1 : Value) (m : M) : kbody E call keep62 (lp62 call fuel base) base Try.f62 [x0, x1] m = r62 call fuel base x0 x1 m := by
  kernel_rfl
noncomputable def rf62 : RF := fun call fuel base args m => match args with
  | [x0, x1] => r62 call fuel base x0 x1 m
  | _ => none
theorem r62_lk (call : CallF) (fuel base : Nat) : LoopsOk E call (lp62 call fuel base) fuel base 0 c62 = (And True (And (And True (And True True)) (And (And True (And True (And True True))) (And True True)))) := by kernel_rfl
theorem r62_fn : E.P.funcs[62]? = some Try.f62 := by kernel_rfl
theorem r62_body : Try.f62.body = some c62 := by kernel_rfl
theorem rf62_ok : RFok E 62 rf62 := by
  refine ⟨Try.f62, r62_fn, fun call fuel base args m r _ h => ?_⟩
  unfold rf62 at h
  split at h
  · rw [← r62_eq] at h
    exact kbody_sound (c := c62) r62_body (Eq.mpr (r62_lk call fuel base) (And.intro trivial (And.intro (And.intro trivial (And.intro trivial trivial)) (And.intro (And.intro trivial (And.intro trivial (And.intro trivial trivial))) (And.intro trivial trivial))))) h
  · simp at h
end Go.AM
namespace Go.AM
open Go Go.Proofs
noncomputable def r63_L0 (call : CallF) (fuel base : Nat) (kr : Value → M → Res2) (kx0 : M → Res2) (n : Nat) : Value → Value → Value → M → Res2 :=
  Nat.rec (motive := fun _ => Value → Value → Value → M → Res2) (fun _ _ _ _ => none)
    (fun _ ih x0 x1 x5 m =>
      (k2 (vcall E.P base m .len [37] [x0]) fun v8_1 m => (k1 (mbin E .lss 3 x5 v8_1) fun v9_2 => (kb v9_2 (k1 (mindexAddr E.P 37 x0 x5) fun v14_3 => (k1 (xload E.P m 3 v14_3) fun v15_4 => (k1 (mbin E .eql 3 v15_4 x1) fun v17_5 => (kb v17_5 (kr x5 m) (k1 (mbin E .add 3 x5 (.int .i64 1)) fun v11_6 => (ih x0 x1 v11_6 m)))))) (kx0 m))))) n
noncomputable def r63 (call : CallF) (fuel base : Nat) (x0 : Value) (x1 : Value) (m : M) : Res2 :=
  (r63_L0 call fuel base (fun y4_7 m => (fVal y4_7 fun v => some (.ret v, m))) (fun m => (fVal (.int .i64 (-1)) fun v => some (.ret v, m))) fuel x0 x1 (.int .i64 0) m)
def keep63 : Keep := { region := fun i => ([[0, 1], [0, 1, 5], [0, 1, 5, 9], [0, 1, 5], [0, 1, 5, 17], [4], [4]] : List (List Nat))[i]?, exit := fun i => ([[], [0, 1, 5]] : List (List Nat))[i]?, ret := some [4] }
noncomputable def r63_L0_R (call : CallF) (fuel base n : Nat) (vs : List Value) (m : M) (K : KT) : Res2 := match vs with
  | [x0, x1, x5] => r63_L0 call fuel base (fun y4 m => K .ret { n := 19, l := [(4, y4)] } m) (fun m => K (.exit 0) { n := 19, l := [] } m) n x0 x1 x5 m
  | _ => none
noncomputable def lp63 (call : CallF) (fuel base : Nat) : Lp := lpsel [(0, fun T m K => kslots 19 [0, 1, 5] T fun vs => r63_L0_R call fuel base fuel vs m K)]
noncomputable def c63 : Code := Try.f63.body.getD .skip
theorem r63_L0_lk (call : CallF) (fuel base : Nat) : LoopsOk E call (lp63 call fuel base) fuel base 0 (loopB (blockB (seqR (seqL (seqR c63))))) = (And (And True (And True True)) (And (And True (And (And True True) True)) True)) := by kernel_rfl
theorem r63_L0_ok (call : CallF) (fuel base : Nat) : LpOk E call (lp63 call fuel base) fuel base 0 (loopB (blockB (seqR (seqL (seqR c63))))) := by
  refine loop_ok (kp := keep63) (hb := Eq.mpr (r63_L0_lk call fuel base) (And.intro (And.intro trivial (And.intro trivial trivial)) (And.intro (And.intro trivial (And.intro (And.intro trivial trivial) trivial)) trivial))) 19 [0, 1, 5] (fun n vs m K => r63_L0_R call fuel base n vs m K) ?_ ?_ (fun _ _ _ => rfl)
  · intro vs m K
    unfold r63_L0_R
    split <;> rfl
  · intro n vs m K hl
    match vs, hl with
    | [x0, x1, x5], _ => show _ = _; kernel_rfl
theorem r63_eq (call : CallF) (fuel base : Nat) (x0 : Value) (x1 : Value) (m : M) : kbody E call keep63 (lp63 call fuel base) base Try.f63 [x0, x1] m = r63 call fuel base x0 x1 m := by
  kernel_rfl
noncomputable def rf63 : RF := fun call fuel base args m => match args with
  | [x0, x1] => r63 call fuel base x0 x1 m
  | _ => none
theorem r63_lk (call : CallF) (fuel base : Nat) : LoopsOk E call (lp63 call fuel base) fuel base 0 c63 = (And True (And (And True (LpOk E call (lp63 call fuel base) fuel base 0 (loopB (blockB (seqR (seqL (seqR c63))))))) (And True True))) := by kernel_rfl
theorem r63_fn : E.P.funcs[63]? = some Try.f63 := by kernel_rfl
theorem r63_body : Try.f63.body = some c63 := by kernel_rfl
theorem rf63_ok : RFok E 63 rf63 := by
  refine ⟨Try.f63, r63_fn, fun call fuel base args m r _ h => ?_⟩
  unfold rf63 at h
  split at h
  · rw [← r63_eq] at h
    exact kbody_sound (c := c63) r63_body (Eq.mpr (r63_lk call fuel base) (And.intro trivial (And.intro (And.intro trivial (r63_L0_ok call fuel base)) (And.intro trivial trivial)))) h
  · simp at h
end Go.AM
namespace Go.AM
open Go Go.Proofs
noncomputable def r64_L2 (call : CallF) (fuel base : Nat) (kp : Value → M → Res2) (kx2 : Value → Value → Value → Value → Value → M → Res2) (n : Nat) : Value → Value → Value → Value → Value → Value → Value → Value → Value → M → Res2 :=
  Nat.rec (motive := fun _ => Value → Value → Value → Value → Value → Value → Value → Value → Value → M → Res2) (fun _ _ _ _ _ _ _ _ _ _ => none)
    (fun _ ih x0 x2 x7 x11 x12 x13 x23 x24 x25 m =>
      (k1 (mbin E .lss 3 x25 x24) fun v26_11 => (kb v26_11 (k1 (mindexAddr E.P 37 x23 x25) fun v27_12 => (k1 (xload E.P m 3 v27_12) fun v28_13 => (k1 (mindexAddr E.P 37 x2 v28_13) fun v33_14 => (k1 (xload E.P m 3 v33_14) fun v34_15 => (kc (call base 47 [v34_15, x7] m) (fun v36_16 m => (k1 (mindexAddr E.P 37 x2 v28_13) fun v37_17 => (ks (xstore E.P base m 3 v37_17 v36_16) fun m => (k1 (mbin E .add 3 x25 (.int .i64 1)) fun v38_18 => (ih x0 x2 x7 x11 x12 x13 x23 x24 v38_18 m))))) (fun v m => kp v m)))))) (kx2 x0 x2 x11 x12 x13 m)))) n
noncomputable def r64_L0 (call : CallF) (fuel base : Nat) (kp : Value → M → Res2) (kx0 : M → Res2) (n : Nat) : Value → Value → Value → Value → Value → M → Res2 :=
  Nat.rec (motive := fun _ => Value → Value → Value → Value → Value → M → Res2) (fun _ _ _ _ _ _ => none)
    (fun _ ih x0 x2 x11 x12 x13 m =>
      (k1 (mbin E .lss 3 x13 x12) fun v14_3 => (kb v14_3 (k1 (mindexAddr E.P 37 x11 x13) fun v16_4 => (k1 (xload E.P m 3 v16_4) fun v17_5 => (k1 (mbin E .eql 3 v17_5 (.int .i64 0)) fun v19_6 => (kb v19_6 (k1 (mbin E .add 3 x13 (.int .i64 1)) fun v39_7 => (ih x0 x2 x11 x12 v39_7 m)) (k1 (mindexAddr E.P 66 x0 x13) fun v22_8 => (k1 (xload E.P m 37 v22_8) fun v23_9 => (k2 (vcall E.P base m .len [37] [v23_9]) fun v24_10 m => (r64_L2 call fuel base (fun v m => kp v m) (fun y0_19 y2_20 y11_21 y12_22 y13_23 m => (k1 (mbin E .add 3 y13_23 (.int .i64 1)) fun v39_24 => (ih y0_19 y2_20 y11_21 y12_22 v39_24 m))) fuel x0 x2 v17_5 x11 x12 x13 v23_9 v24_10 (.int .i64 0) m)))))))) (kx0 m)))) n
noncomputable def r64 (call : CallF) (fuel base : Nat) (x0 : Value) (x1 : Value) (x2 : Value) (m : M) : Res2 :=
  (k2 (vcall E.P base m .clear [37] [x2]) fun vNone_1 m => (k2 (vcall E.P base m .len [37] [x1]) fun v12_2 m => (r64_L0 call fuel base (fun v m => some (.pan v, m)) (fun m => (some (.ret (.tuple #[]), m))) fuel x0 x2 x1 v12_2 (.int .i64 0) m)))
def keep64 : Keep := { region := fun i => ([[0, 1, 2], [0, 2, 11, 12, 13], [0, 2, 11, 12, 13, 14], [0, 2, 6, 7, 11, 12, 13], [0, 2, 6, 7, 11, 12, 13, 19], [0, 2, 7, 11, 12, 13, 23, 24, 25], [0, 2, 7, 11, 12, 13, 23, 24, 25, 26], [0, 2, 7, 9, 11, 12, 13, 23, 24, 25], [0, 2, 7, 11, 12, 13, 23, 24, 25], [0, 2, 7, 11, 12, 13, 23, 24, 25], [0, 2, 11, 12, 13]] : List (List Nat))[i]?, exit := fun i => ([[], [0, 2, 11, 12, 13], [0, 2, 11, 12, 13], [0, 2, 7, 11, 12, 13, 23, 24, 25]] : List (List Nat))[i]?, ret := some [] }
noncomputable def r64_L2_R (call : CallF) (fuel base n : Nat) (vs : List Value) (m : M) (K : KT) : Res2 := match vs with
  | [x0, x2, x7, x11, x12, x13, x23, x24, x25] => r64_L2 call fuel base (fun v m => K (.pan v) { n := 40, l := [] } m) (fun y0 y2 y11 y12 y13 m => K (.exit 2) { n := 40, l := [(0, y0), (2, y2), (11, y11), (12, y12), (13, y13)] } m) n x0 x2 x7 x11 x12 x13 x23 x24 x25 m
  | _ => none
noncomputable def r64_L0_R (call : CallF) (fuel base n : Nat) (vs : List Value) (m : M) (K : KT) : Res2 := match vs with
  | [x0, x2, x11, x12, x13] => r64_L0 call fuel base (fun v m => K (.pan v) { n := 40, l := [] } m) (fun m => K (.exit 0) { n := 40, l := [] } m) n x0 x2 x11 x12 x13 m
  | _ => none
noncomputable def lp64 (call : CallF) (fuel base : Nat) : Lp := lpsel [(2, fun T m K => kslots 40 [0, 2, 7, 11, 12, 13, 23, 24, 25] T fun vs => r64_L2_R call fuel base fuel vs m K), (0, fun T m K => kslots 40 [0, 2, 11, 12, 13] T fun vs => r64_L0_R call fuel base fuel vs m K)]
noncomputable def c64 : Code := Try.f64.body.getD .skip
theorem r64_L2_lk (call : CallF) (fuel base : Nat) : LoopsOk E call (lp64 call fuel base) fuel base 2 (loopB (blockB (seqR (seqR (seqR (blockB (seqL (seqR (seqR (loopB (blockB (seqR (seqR c64))))))))))))) = (And True (And (And True True) (And (And True True) True))) := by kernel_rfl
theorem r64_L2_ok (call : CallF) (fuel base : Nat) : LpOk E call (lp64 call fuel base) fuel base 2 (loopB (blockB (seqR (seqR (seqR (blockB (seqL (seqR (seqR (loopB (blockB (seqR (seqR c64))))))))))))) := by
  refine loop_ok (kp := keep64) (hb := Eq.mpr (r64_L2_lk call fuel base) (And.intro trivial (And.intro (And.intro trivial trivial) (And.intro (And.intro trivial trivial) trivial)))) 40 [0, 2, 7, 11, 12, 13, 23, 24, 25] (fun n vs m K => r64_L2_R call fuel base n vs m K) ?_ ?_ (fun _ _ _ => rfl)
  · intro vs m K
    unfold r64_L2_R
    split <;> rfl
  · intro n vs m K hl
    match vs, hl with
    | [x0, x2, x7, x11, x12, x13, x23, x24, x25], _ => show _ = _; kernel_rfl
theorem r64_L0_lk (call : CallF) (fuel base : Nat) : LoopsOk E call (lp64 call fuel base) fuel base 0 (loopB (blockB (seqR (seqR c64)))) = (And True (And (And True True) (And (And True (And (And True (And True True)) (And True (LpOk E call (lp64 call fuel base) fuel base 2 (loopB (blockB (seqR (seqR (seqR (blockB (seqL (seqR (seqR (loopB (blockB (seqR (seqR c64))))))))))))))))) True))) := by kernel_rfl
theorem r64_L0_ok (call : CallF) (fuel base : Nat) : LpOk E call (lp64 call fuel base) fuel base 0 (loopB (blockB (seqR (seqR c64)))) := by
  refine loop_ok (kp := keep64) (hb := Eq.mpr (r64_L0_lk call fuel base) (And.intro trivial (And.intro (And.intro trivial trivial) (And.intro (And.intro trivial (And.intro (And.intro trivial (And.intro trivial trivial)) (And.intro trivial (r64_L2_ok call fuel base)))) trivial)))) 40 [0, 2, 11, 12, 13] (fun n vs m K => r64_L0_R call fuel base n vs m K) ?_ ?_ (fun _ _ _ => rfl)
  · intro vs m K
    unfold r64_L0_R
    split <;> rfl
  · intro n vs m K hl
    match vs, hl with
    | [x0, x2, x11, x12, x13], _ => show _ = _; kernel_rfl
theorem r64_eq (call : CallF) (fuel base : Nat) (x0 : Value) (x1 : Value) (x2 : Value) (m : M) : kbody E call keep64 (lp64 call fuel base) base Try.f64 [x0, x1, x2] m = r64 call fuel base x0 x1 x2 m := by
  kernel_rfl
noncomputable def rf64 : RF := fun call fuel base args m => match args with
  | [x0, x1, x2] => r64 call fuel base x0 x1 x2 m
  | _ => none
theorem r64_lk (call : CallF) (fuel base : Nat) : LoopsOk E call (lp64 call fuel base) fuel base 0 c64 = (And True (And True (LpOk E call (lp64 call fuel base) fuel base 0 (loopB (blockB (seqR (seqR c64))))))) := by kernel_rfl
theorem r64_fn : E.P.funcs[64]? = some Try.f64 := by kernel_rfl
theorem r64_body : Try.f64.body = some c64 := by kernel_rfl
theorem rf64_ok : RFok E 64 rf64 := by
  refine ⟨Try.f64, r64_fn, fun call fuel base args m r _ h => ?_⟩
  unfold rf64 at h
  split at h
  · rw [← r64_eq] at h
    exact kbody_sound (c := c64) r64_body (Eq.mpr (r64_lk call fuel base) (And.intro trivial (And.intro trivial (r64_L0_ok call fuel base)))) h
  · simp at h
end Go.AM
namespace Go.AM
open Go Go.Proofs
noncomputable def r65 (call : CallF) (fuel base : Nat) (x0 : Value) (m : M) : Res2 :=
  (k1 (mbin E .neq 3 x0 x0) fun v5_1 => (fVal v5_1 fun v => some (.ret v, m)))
def keep65 : Keep := { region := fun i => ([[0], [2]] : List (List Nat))[i]?, exit := fun i => ([] : List (List Nat))[i]?, ret := some [2] }
noncomputable def lp65 (call : CallF) (fuel base : Nat) : Lp := lpsel []
noncomputable def c65 : Code := Try.f65.body.getD .skip
theorem r65_eq (call : CallF) (fuel base : Nat) (x0 : Value) (m : M) : kbody E call keep65 (lp65 call fuel base) base Try.f65 [x0] m = r65 call fuel base x0 m := by
  kernel_rfl
noncomputable def rf65 : RF := fun call fuel base args m => match args with
  | [x0] => r65 call fuel base x0 m
  | _ => none
theorem r65_lk (call : CallF) (fuel base : Nat) : LoopsOk E call (lp65 call fuel base) fuel base 0 c65 = (And True (And True True)) := by kernel_rfl
theorem r65_fn : E.P.funcs[65]? = some Try.f65 := by kernel_rfl
theorem r65_body : Try.f65.body = some c65 := by kernel_rfl
theorem rf65_ok : RFok E 65 rf65 := by
  refine ⟨Try.f65, r65_fn, fun call fuel base args m r _ h => ?_⟩
  unfold rf65 at h
  split at h
  · rw [← r65_eq] at h
    exact kbody_sound (c := c65) r65_body (Eq.mpr (r65_lk call fuel base) (And.intro trivial (And.intro trivial trivial))) h
  · simp at h
end Go.AM
namespace Go.AM
open Go Go.Proofs
noncomputable def tab : List (Nat × RF) := [(4, rf4), (5, rf5), (6, rf6), (7, rf7), (8, rf8), (9, rf9), (10, rf10), (11, rf11), (12, rf12), (13, rf13), (14, rf14), (15, rf15), (16, rf16), (17, rf17), (18, rf18), (19, rf19), (20, rf20), (21, rf21), (22, rf22), (23, rf23), (24, rf24), (25, rf25), (26, rf26), (27, rf27), (28, rf28), (29, rf29), (30, rf30), (31, rf31), (32, rf32), (33, rf33), (34, rf34), (35, rf35), (36, rf36), (37, rf37), (38, rf38), (39, rf39), (40, rf40), (41, rf41), (42, rf42), (43, rf43), (44, rf44), (45, rf45), (46, rf46), (47, rf47), (48, rf48), (49, rf49), (50, rf50), (51, rf51), (52, rf52), (53, rf53), (54, rf54), (55, rf55), (56, rf56), (57, rf57), (58, rf58), (59, rf59), (60, rf60), (61, rf61), (62, rf62), (63, rf63), (64, rf64), (65, rf65)]
theorem tab_ok : ∀ p ∈ tab, RFok E p.1 p.2 := by
  unfold tab
  simp only [List.mem_cons, forall_eq_or_imp, List.not_mem_nil, false_imp_iff, implies_true, and_true]
  exact ⟨rf4_ok, rf5_ok, rf6_ok, rf7_ok, rf8_ok, rf9_ok, rf10_ok, rf11_ok, rf12_ok, rf13_ok, rf14_ok, rf15_ok, rf16_ok, rf17_ok, rf18_ok, rf19_ok, rf20_ok, rf21_ok, rf22_ok, rf23_ok, rf24_ok, rf25_ok, rf26_ok, rf27_ok, rf28_ok, rf29_ok, rf30_ok, rf31_ok, rf32_ok, rf33_ok, rf34_ok, rf35_ok, rf36_ok, rf37_ok, rf38_ok, rf39_ok, rf40_ok, rf41_ok, rf42_ok, rf43_ok, rf44_ok, rf45_ok, rf46_ok, rf47_ok, rf48_ok, rf49_ok, rf50_ok, rf51_ok, rf52_ok, rf53_ok, rf54_ok, rf55_ok, rf56_ok, rf57_ok, rf58_ok, rf59_ok, rf60_ok, rf61_ok, rf62_ok, rf63_ok, rf64_ok, rf65_ok⟩
noncomputable def rc (n : Nat) : CallF := rcall E.pure tab n
end Go.AM
