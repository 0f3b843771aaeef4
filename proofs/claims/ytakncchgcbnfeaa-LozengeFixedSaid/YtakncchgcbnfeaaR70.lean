import Derived.KernelRfl
import Derived.Laws.BytesArg
import Derived.Laws.StructEq
import Derived.RangeFuncLeaves
import Derived.RangeFuncRecord
import Derived.Test.YtakncchgcbnfeaaProg
import Derived.Test.YtakncchgcbnfeaaRows
import Derived.WalkKit
import Derived.Test.YtakncchgcbnfeaaAmB
import Derived.Test.YtakncchgcbnfeaaAmG
import Derived.Test.YtakncchgcbnfeaaAmModel
import Derived.Test.YtakncchgcbnfeaaAmRel
import Derived.Test.YtakncchgcbnfeaaAmOps6
import Derived.Test.YtakncchgcbnfeaaAmCode
import Derived.Test.YtakncchgcbnfeaaAmDraw5
import Derived.Test.YtakncchgcbnfeaaAmEq
import Derived.Test.YtakncchgcbnfeaaRBase
set_option linter.unusedVariables false
set_option linter.unusedSimpArgs false
set_option linter.unusedSectionVars false
namespace Go.AM
open Go Go.Proofs
noncomputable def r70_L2 (call : CallF) (fuel base : Nat) (kx2 : Value → Value → Value → Value → M → Res2) (n : Nat) : Value → Value → Value → Value → Value → M → Res2 :=
  Nat.rec (motive := fun _ => Value → Value → Value → Value → Value → M → Res2) (fun _ _ _ _ _ _ => none)
    (fun _ ih x1 x2 x5 x6 x7 m =>
      (k1 (mfieldAddr E.P 23 x2 1) fun v17_7 => (k1 (xload E.P m 3 v17_7) fun v18_8 => (k1 (mbin E .lss 3 x7 v18_8) fun v19_9 => (kb v19_9 (k1 (mindexAddr E.P 33 x5 x6) fun v24_10 => (k1 (xload E.P m 27 v24_10) fun v25_11 => (k1 (mfieldAddr E.P 23 x2 2) fun v27_12 => (k1 (xload E.P m 3 v27_12) fun v28_13 => (k1 (mfieldAddr E.P 23 x2 0) fun v30_14 => (k1 (xload E.P m 3 v30_14) fun v31_15 => (k1 (mbin E .sub 3 v31_15 (.int .i64 1)) fun v32_16 => (k1 (mbin E .sub 3 v32_16 x6) fun v34_17 => (k1 (mindexAddr E.P 33 x1 v34_17) fun v35_18 => (k1 (xload E.P m 27 v35_18) fun v36_19 => (k1 (mfieldAddr E.P 23 x2 1) fun v37_20 => (k1 (xload E.P m 3 v37_20) fun v38_21 => (k1 (mbin E .sub 3 v38_21 (.int .i64 1)) fun v39_22 => (k1 (mbin E .sub 3 v39_22 x7) fun v41_23 => (k1 (mindexAddr E.P 27 v36_19 v41_23) fun v42_24 => (k1 (xload E.P m 3 v42_24) fun v43_25 => (k1 (mbin E .sub 3 v28_13 v43_25) fun v44_26 => (k1 (mindexAddr E.P 27 v25_11 x7) fun v45_27 => (ks (xstore E.P base m 3 v45_27 v44_26) fun m => (k1 (mbin E .add 3 x7 (.int .i64 1)) fun v21_28 => (ih x1 x2 x5 x6 v21_28 m))))))))))))))))))))) (kx2 x1 x2 x5 x6 m)))))) n
noncomputable def r70_L0 (call : CallF) (fuel base : Nat) (kx0 : Value → M → Res2) (n : Nat) : Value → Value → Value → Value → M → Res2 :=
  Nat.rec (motive := fun _ => Value → Value → Value → Value → M → Res2) (fun _ _ _ _ _ => none)
    (fun _ ih x1 x2 x5 x6 m =>
      (k1 (mfieldAddr E.P 23 x2 0) fun v11_4 => (k1 (xload E.P m 3 v11_4) fun v12_5 => (k1 (mbin E .lss 3 x6 v12_5) fun v13_6 => (kb v13_6 (r70_L2 call fuel base (fun y1_29 y2_30 y5_31 y6_32 m => (k1 (mbin E .add 3 y6_32 (.int .i64 1)) fun v15_33 => (ih y1_29 y2_30 y5_31 v15_33 m))) fuel x1 x2 x5 x6 (.int .i64 0) m) (kx0 x5 m)))))) n
noncomputable def r70 (call : CallF) (fuel base : Nat) (x0 : Value) (x1 : Value) (m : M) : Res2 :=
  (k2 (xbox m x0) fun v2_1 m => (k1 (xload E.P m 23 v2_1) fun v8_2 => (kc (call base 54 [v8_2] m) (fun v9_3 m => (r70_L0 call fuel base (fun y5_34 m => (fVal y5_34 fun v => some (.ret v, m))) fuel x1 v2_1 v9_3 (.int .i64 0) m)) (fun v m => some (.pan v, m)))))
def keep70 : Keep := { region := fun i => ([[1, 2], [1, 2, 5], [1, 2, 5, 6], [1, 2, 5, 6, 13], [1, 2, 5, 6], [1, 2, 5, 6, 7], [1, 2, 5, 6, 7, 19], [1, 2, 5, 6, 7], [1, 2, 5, 6, 7], [4]] : List (List Nat))[i]?, exit := fun i => ([[5], [1, 2, 5, 6], [1, 2, 5, 6], [1, 2, 5, 6, 7]] : List (List Nat))[i]?, ret := some [4] }
noncomputable def r70_L2_R (call : CallF) (fuel base n : Nat) (vs : List Value) (m : M) (K : KT) : Res2 := match vs with
  | [x1, x2, x5, x6, x7] => r70_L2 call fuel base (fun y1 y2 y5 y6 m => K (.exit 2) { n := 47, l := [(1, y1), (2, y2), (5, y5), (6, y6)] } m) n x1 x2 x5 x6 x7 m
  | _ => none
noncomputable def r70_L0_R (call : CallF) (fuel base n : Nat) (vs : List Value) (m : M) (K : KT) : Res2 := match vs with
  | [x1, x2, x5, x6] => r70_L0 call fuel base (fun y5 m => K (.exit 0) { n := 47, l := [(5, y5)] } m) n x1 x2 x5 x6 m
  | _ => none
noncomputable def lp70 (call : CallF) (fuel base : Nat) : Lp := lpsel [(2, fun T m K => kslots 47 [1, 2, 5, 6, 7] T fun vs => r70_L2_R call fuel base fuel vs m K), (0, fun T m K => kslots 47 [1, 2, 5, 6] T fun vs => r70_L0_R call fuel base fuel vs m K)]
noncomputable def c70 : Code := Try.f70.body.getD .skip
theorem r70_L2_lk (call : CallF) (fuel base : Nat) : LoopsOk E call (lp70 call fuel base) fuel base 2 (loopB (blockB (seqR (blockB (seqL (seqR (loopB (blockB (seqR (seqL (seqR (seqR c70)))))))))))) = (And (And True (And True True)) (And True True)) := by kernel_rfl
theorem r70_L2_ok (call : CallF) (fuel base : Nat) : LpOk E call (lp70 call fuel base) fuel base 2 (loopB (blockB (seqR (blockB (seqL (seqR (loopB (blockB (seqR (seqL (seqR (seqR c70)))))))))))) := by
  refine loop_ok (kp := keep70) (hb := Eq.mpr (r70_L2_lk call fuel base) (And.intro (And.intro trivial (And.intro trivial trivial)) (And.intro trivial trivial))) 47 [1, 2, 5, 6, 7] (fun n vs m K => r70_L2_R call fuel base n vs m K) ?_ ?_ (fun _ _ _ => rfl)
  · intro vs m K
    unfold r70_L2_R
    split <;> rfl
  · intro n vs m K hl
    match vs, hl with
    | [x1, x2, x5, x6, x7], _ => show _ = _; kernel_rfl
theorem r70_L0_lk (call : CallF) (fuel base : Nat) : LoopsOk E call (lp70 call fuel base) fuel base 0 (loopB (blockB (seqR (seqL (seqR (seqR c70)))))) = (And (And True (And True True)) (And (And True (LpOk E call (lp70 call fuel base) fuel base 2 (loopB (blockB (seqR (blockB (seqL (seqR (loopB (blockB (seqR (seqL (seqR (seqR c70)))))))))))))) True)) := by kernel_rfl
theorem r70_L0_ok (call : CallF) (fuel base : Nat) : LpOk E call (lp70 call fuel base) fuel base 0 (loopB (blockB (seqR (seqL (seqR (seqR c70)))))) := by
  refine loop_ok (kp := keep70) (hb := Eq.mpr (r70_L0_lk call fuel base) (And.intro (And.intro trivial (And.intro trivial trivial)) (And.intro (And.intro trivial (r70_L2_ok call fuel base)) trivial))) 47 [1, 2, 5, 6] (fun n vs m K => r70_L0_R call fuel base n vs m K) ?_ ?_ (fun _ _ _ => rfl)
  · intro vs m K
    unfold r70_L0_R
    split <;> rfl
  · intro n vs m K hl
    match vs, hl with
    | [x1, x2, x5, x6], _ => show _ = _; kernel_rfl
theorem r70_eq (call : CallF) (fuel base : Nat) (x0 : Value) (x1 : Value) (m : M) : kbody E call keep70 (lp70 call fuel base) base Try.f70 [x0, x1] m = r70 call fuel base x0 x1 m := by
  kernel_rfl
noncomputable def rf70 : RF := fun call fuel base args m => match args with
  | [x0, x1] => r70 call fuel base x0 x1 m
  | _ => none
theorem r70_lk (call : CallF) (fuel base : Nat) : LoopsOk E call (lp70 call fuel base) fuel base 0 c70 = (And True (And True (And (And True (LpOk E call (lp70 call fuel base) fuel base 0 (loopB (blockB (seqR (seqL (seqR (seqR c70)))))))) (And True True)))) := by kernel_rfl
theorem r70_fn : E.P.funcs[70]? = some Try.f70 := by kernel_rfl
theorem r70_body : Try.f70.body = some c70 := by kernel_rfl
theorem rf70_ok : RFok E 70 rf70 := by
  show RFok' E 70 rf70
  refine ⟨Try.f70, r70_fn, fun call fuel base args m r _ h => ?_⟩
  unfold rf70 at h
  split at h
  · rw [← r70_eq] at h
    exact kbody_sound (c := c70) r70_body (Eq.mpr (r70_lk call fuel base) (And.intro trivial (And.intro trivial (And.intro (And.intro trivial (r70_L0_ok call fuel base)) (And.intro trivial trivial))))) h
  · simp at h
end Go.AM
namespace Go.AM
open Go Go.Proofs
noncomputable def r71_L2 (call : CallF) (fuel base : Nat) (kx2 : Value → Value → Value → Value → M → Res2) (n : Nat) : Value → Value → Value → Value → Value → M → Res2 :=
  Nat.rec (motive := fun _ => Value → Value → Value → Value → Value → M → Res2) (fun _ _ _ _ _ _ => none)
    (fun _ ih x1 x2 x5 x6 x7 m =>
      (k1 (mfieldAddr E.P 23 x2 0) fun v23_13 => (k1 (xload E.P m 3 v23_13) fun v24_14 => (k1 (mbin E .lss 3 x7 v24_14) fun v25_15 => (kb v25_15 (k1 (mindexAddr E.P 33 x5 x6) fun v30_16 => (k1 (xload E.P m 27 v30_16) fun v31_17 => (k1 (mindexAddr E.P 33 x1 x7) fun v35_18 => (k1 (xload E.P m 27 v35_18) fun v36_19 => (kc (kB m (call m.length 67 [v36_19, x6] m)) (fun v38_20 m => (k1 (mindexAddr E.P 27 v31_17 x7) fun v39_21 => (ks (xstore E.P base m 3 v39_21 v38_20) fun m => (k1 (mbin E .add 3 x7 (.int .i64 1)) fun v27_22 => (ih x1 x2 x5 x6 v27_22 m))))) (fun _ _ => none)))))) (kx2 x1 x2 x5 x6 m)))))) n
noncomputable def r71_L0 (call : CallF) (fuel base : Nat) (kx0 : Value → M → Res2) (n : Nat) : Value → Value → Value → Value → M → Res2 :=
  Nat.rec (motive := fun _ => Value → Value → Value → Value → M → Res2) (fun _ _ _ _ _ => none)
    (fun _ ih x1 x2 x5 x6 m =>
      (k1 (mfieldAddr E.P 23 x2 2) fun v17_10 => (k1 (xload E.P m 3 v17_10) fun v18_11 => (k1 (mbin E .lss 3 x6 v18_11) fun v19_12 => (kb v19_12 (r71_L2 call fuel base (fun y1_23 y2_24 y5_25 y6_26 m => (k1 (mbin E .add 3 y6_26 (.int .i64 1)) fun v21_27 => (ih y1_23 y2_24 y5_25 v21_27 m))) fuel x1 x2 x5 x6 (.int .i64 0) m) (kx0 x5 m)))))) n
noncomputable def r71 (call : CallF) (fuel base : Nat) (x0 : Value) (x1 : Value) (m : M) : Res2 :=
  (k2 (xbox m x0) fun v2_1 m => (k1 (mfieldAddr E.P 23 v2_1 2) fun v8_2 => (k1 (xload E.P m 3 v8_2) fun v9_3 => (k1 (mfieldAddr E.P 23 v2_1 0) fun v10_4 => (k1 (xload E.P m 3 v10_4) fun v11_5 => (k1 (mfieldAddr E.P 23 v2_1 1) fun v12_6 => (k1 (xload E.P m 3 v12_6) fun v13_7 => (k1 (mbuild E.P 23 [(0, v9_3), (1, v11_5), (2, v13_7)]) fun v14_8 => (kc (call base 54 [v14_8] m) (fun v15_9 m => (r71_L0 call fuel base (fun y5_28 m => (fVal y5_28 fun v => some (.ret v, m))) fuel x1 v2_1 v15_9 (.int .i64 0) m)) (fun v m => some (.pan v, m)))))))))))
def keep71 : Keep := { region := fun i => ([[1, 2], [1, 2, 5], [1, 2, 5, 6], [1, 2, 5, 6, 19], [1, 2, 5, 6], [1, 2, 5, 6, 7], [1, 2, 5, 6, 7, 25], [1, 2, 5, 6, 7], [1, 2, 5, 6, 7], [4]] : List (List Nat))[i]?, exit := fun i => ([[5], [1, 2, 5, 6], [1, 2, 5, 6], [1, 2, 5, 6, 7]] : List (List Nat))[i]?, ret := some [4] }
noncomputable def r71_L2_R (call : CallF) (fuel base n : Nat) (vs : List Value) (m : M) (K : KT) : Res2 := match vs with
  | [x1, x2, x5, x6, x7] => r71_L2 call fuel base (fun y1 y2 y5 y6 m => K (.exit 2) { n := 41, l := [(1, y1), (2, y2), (5, y5), (6, y6)] } m) n x1 x2 x5 x6 x7 m
  | _ => none
noncomputable def r71_L0_R (call : CallF) (fuel base n : Nat) (vs : List Value) (m : M) (K : KT) : Res2 := match vs with
  | [x1, x2, x5, x6] => r71_L0 call fuel base (fun y5 m => K (.exit 0) { n := 41, l := [(5, y5)] } m) n x1 x2 x5 x6 m
  | _ => none
noncomputable def lp71 (call : CallF) (fuel base : Nat) : Lp := lpsel [(2, fun T m K => kslots 41 [1, 2, 5, 6, 7] T fun vs => r71_L2_R call fuel base fuel vs m K), (0, fun T m K => kslots 41 [1, 2, 5, 6] T fun vs => r71_L0_R call fuel base fuel vs m K)]
noncomputable def c71 : Code := Try.f71.body.getD .skip
theorem r71_L2_lk (call : CallF) (fuel base : Nat) : LoopsOk E call (lp71 call fuel base) fuel base 2 (loopB (blockB (seqR (blockB (seqL (seqR (loopB (blockB (seqR (seqL (seqR (seqR c71)))))))))))) = (And (And True (And True True)) (And True True)) := by kernel_rfl
theorem r71_L2_ok (call : CallF) (fuel base : Nat) : LpOk E call (lp71 call fuel base) fuel base 2 (loopB (blockB (seqR (blockB (seqL (seqR (loopB (blockB (seqR (seqL (seqR (seqR c71)))))))))))) := by
  refine loop_ok (kp := keep71) (hb := Eq.mpr (r71_L2_lk call fuel base) (And.intro (And.intro trivial (And.intro trivial trivial)) (And.intro trivial trivial))) 41 [1, 2, 5, 6, 7] (fun n vs m K => r71_L2_R call fuel base n vs m K) ?_ ?_ (fun _ _ _ => rfl)
  · intro vs m K
    unfold r71_L2_R
    split <;> rfl
  · intro n vs m K hl
    match vs, hl with
    | [x1, x2, x5, x6, x7], _ => show _ = _; kernel_rfl
theorem r71_L0_lk (call : CallF) (fuel base : Nat) : LoopsOk E call (lp71 call fuel base) fuel base 0 (loopB (blockB (seqR (seqL (seqR (seqR c71)))))) = (And (And True (And True True)) (And (And True (LpOk E call (lp71 call fuel base) fuel base 2 (loopB (blockB (seqR (blockB (seqL (seqR (loopB (blockB (seqR (seqL (seqR (seqR c71)))))))))))))) True)) := by kernel_rfl
theorem r71_L0_ok (call : CallF) (fuel base : Nat) : LpOk E call (lp71 call fuel base) fuel base 0 (loopB (blockB (seqR (seqL (seqR (seqR c71)))))) := by
  refine loop_ok (kp := keep71) (hb := Eq.mpr (r71_L0_lk call fuel base) (And.intro (And.intro trivial (And.intro trivial trivial)) (And.intro (And.intro trivial (r71_L2_ok call fuel base)) trivial))) 41 [1, 2, 5, 6] (fun n vs m K => r71_L0_R call fuel base n vs m K) ?_ ?_ (fun _ _ _ => rfl)
  · intro vs m K
    unfold r71_L0_R
    split <;> rfl
  · intro n vs m K hl
    match vs, hl with
    | [x1, x2, x5, x6], _ => show _ = _; kernel_rfl
theorem r71_eq (call : CallF) (fuel base : Nat) (x0 : Value) (x1 : Value) (m : M) : kbody E call keep71 (lp71 call fuel base) base Try.f71 [x0, x1] m = r71 call fuel base x0 x1 m := by
  kernel_rfl
noncomputable def rf71 : RF := fun call fuel base args m => match args with
  | [x0, x1] => r71 call fuel base x0 x1 m
  | _ => none
theorem r71_lk (call : CallF) (fuel base : Nat) : LoopsOk E call (lp71 call fuel base) fuel base 0 c71 = (And True (And True (And (And True (LpOk E call (lp71 call fuel base) fuel base 0 (loopB (blockB (seqR (seqL (seqR (seqR c71)))))))) (And True True)))) := by kernel_rfl
theorem r71_fn : E.P.funcs[71]? = some Try.f71 := by kernel_rfl
theorem r71_body : Try.f71.body = some c71 := by kernel_rfl
theorem rf71_ok : RFok E 71 rf71 := by
  show RFok' E 71 rf71
  refine ⟨Try.f71, r71_fn, fun call fuel base args m r _ h => ?_⟩
  unfold rf71 at h
  split at h
  · rw [← r71_eq] at h
    exact kbody_sound (c := c71) r71_body (Eq.mpr (r71_lk call fuel base) (And.intro trivial (And.intro trivial (And.intro (And.intro trivial (r71_L0_ok call fuel base)) (And.intro trivial trivial))))) h
  · simp at h
end Go.AM
namespace Go.AM
open Go Go.Proofs
noncomputable def r72 (call : CallF) (fuel base : Nat) (x0 : Value) (x1 : Value) (m : M) : Res2 :=
  (k2 (xbox m x0) fun v2_1 m => (k1 (mbin E .eql 3 x1 (.int .i64 0)) fun v8_2 => (kb v8_2 (some (.ret (.tuple #[(.func (.func 95) #[] #[]), (.bool true)]), m)) (k1 (mbin E .eql 3 x1 (.int .i64 1)) fun v11_3 => (kb v11_3 (some (.ret (.tuple #[(.func (.func 62) #[] #[]), (.bool true)]), m)) (k1 (mbin E .eql 3 x1 (.int .i64 2)) fun v14_4 => (kb v14_4 (k1 (mfieldAddr E.P 23 v2_1 0) fun v16_5 => (k1 (xload E.P m 3 v16_5) fun v17_6 => (k1 (mfieldAddr E.P 23 v2_1 1) fun v18_7 => (k1 (xload E.P m 3 v18_7) fun v19_8 => (k1 (mbin E .eql 3 v17_6 v19_8) fun v20_9 => (kb v20_9 (some (.ret (.tuple #[(.func (.func 63) #[] #[]), (.bool true)]), m)) (k1 (mbin E .eql 3 x1 (.int .i64 3)) fun v24_10 => (kb v24_10 (k1 (mfieldAddr E.P 23 v2_1 0) fun v26_11 => (k1 (xload E.P m 3 v26_11) fun v27_12 => (k1 (mfieldAddr E.P 23 v2_1 1) fun v28_13 => (k1 (xload E.P m 3 v28_13) fun v29_14 => (k1 (mbin E .eql 3 v27_12 v29_14) fun v30_15 => (kb v30_15 (k1 (mfieldAddr E.P 23 v2_1 1) fun v33_16 => (k1 (xload E.P m 3 v33_16) fun v34_17 => (k1 (mfieldAddr E.P 23 v2_1 2) fun v35_18 => (k1 (xload E.P m 3 v35_18) fun v36_19 => (k1 (mbin E .eql 3 v34_17 v36_19) fun v37_20 => (kb v37_20 (some (.ret (.tuple #[(.func (.func 64) #[] #[]), (.bool true)]), m)) (k1 (mbin E .eql 3 x1 (.int .i64 4)) fun v41_21 => (kb v41_21 (k1 (mfieldAddr E.P 23 v2_1 0) fun v43_22 => (k1 (xload E.P m 3 v43_22) fun v44_23 => (k1 (mfieldAddr E.P 23 v2_1 1) fun v45_24 => (k1 (xload E.P m 3 v45_24) fun v46_25 => (k1 (mbin E .eql 3 v44_23 v46_25) fun v47_26 => (kb v47_26 (some (.ret (.tuple #[(.func (.func 96) #[] #[]), (.bool true)]), m)) (some (.ret (.tuple #[.nilFunc, (.bool false)]), m)))))))) (some (.ret (.tuple #[.nilFunc, (.bool false)]), m)))))))))) (k1 (mbin E .eql 3 x1 (.int .i64 4)) fun v41_27 => (kb v41_27 (k1 (mfieldAddr E.P 23 v2_1 0) fun v43_28 => (k1 (xload E.P m 3 v43_28) fun v44_29 => (k1 (mfieldAddr E.P 23 v2_1 1) fun v45_30 => (k1 (xload E.P m 3 v45_30) fun v46_31 => (k1 (mbin E .eql 3 v44_29 v46_31) fun v47_32 => (kb v47_32 (some (.ret (.tuple #[(.func (.func 96) #[] #[]), (.bool true)]), m)) (some (.ret (.tuple #[.nilFunc, (.bool false)]), m)))))))) (some (.ret (.tuple #[.nilFunc, (.bool false)]), m)))))))))) (k1 (mbin E .eql 3 x1 (.int .i64 4)) fun v41_33 => (kb v41_33 (k1 (mfieldAddr E.P 23 v2_1 0) fun v43_34 => (k1 (xload E.P m 3 v43_34) fun v44_35 => (k1 (mfieldAddr E.P 23 v2_1 1) fun v45_36 => (k1 (xload E.P m 3 v45_36) fun v46_37 => (k1 (mbin E .eql 3 v44_35 v46_37) fun v47_38 => (kb v47_38 (some (.ret (.tuple #[(.func (.func 96) #[] #[]), (.bool true)]), m)) (some (.ret (.tuple #[.nilFunc, (.bool false)]), m)))))))) (some (.ret (.tuple #[.nilFunc, (.bool false)]), m)))))))))))) (k1 (mbin E .eql 3 x1 (.int .i64 3)) fun v24_39 => (kb v24_39 (k1 (mfieldAddr E.P 23 v2_1 0) fun v26_40 => (k1 (xload E.P m 3 v26_40) fun v27_41 => (k1 (mfieldAddr E.P 23 v2_1 1) fun v28_42 => (k1 (xload E.P m 3 v28_42) fun v29_43 => (k1 (mbin E .eql 3 v27_41 v29_43) fun v30_44 => (kb v30_44 (k1 (mfieldAddr E.P 23 v2_1 1) fun v33_45 => (k1 (xload E.P m 3 v33_45) fun v34_46 => (k1 (mfieldAddr E.P 23 v2_1 2) fun v35_47 => (k1 (xload E.P m 3 v35_47) fun v36_48 => (k1 (mbin E .eql 3 v34_46 v36_48) fun v37_49 => (kb v37_49 (some (.ret (.tuple #[(.func (.func 64) #[] #[]), (.bool true)]), m)) (k1 (mbin E .eql 3 x1 (.int .i64 4)) fun v41_50 => (kb v41_50 (k1 (mfieldAddr E.P 23 v2_1 0) fun v43_51 => (k1 (xload E.P m 3 v43_51) fun v44_52 => (k1 (mfieldAddr E.P 23 v2_1 1) fun v45_53 => (k1 (xload E.P m 3 v45_53) fun v46_54 => (k1 (mbin E .eql 3 v44_52 v46_54) fun v47_55 => (kb v47_55 (some (.ret (.tuple #[(.func (.func 96) #[] #[]), (.bool true)]), m)) (some (.ret (.tuple #[.nilFunc, (.bool false)]), m)))))))) (some (.ret (.tuple #[.nilFunc, (.bool false)]), m)))))))))) (k1 (mbin E .eql 3 x1 (.int .i64 4)) fun v41_56 => (kb v41_56 (k1 (mfieldAddr E.P 23 v2_1 0) fun v43_57 => (k1 (xload E.P m 3 v43_57) fun v44_58 => (k1 (mfieldAddr E.P 23 v2_1 1) fun v45_59 => (k1 (xload E.P m 3 v45_59) fun v46_60 => (k1 (mbin E .eql 3 v44_58 v46_60) fun v47_61 => (kb v47_61 (some (.ret (.tuple #[(.func (.func 96) #[] #[]), (.bool true)]), m)) (some (.ret (.tuple #[.nilFunc, (.bool false)]), m)))))))) (some (.ret (.tuple #[.nilFunc, (.bool false)]), m)))))))))) (k1 (mbin E .eql 3 x1 (.int .i64 4)) fun v41_62 => (kb v41_62 (k1 (mfieldAddr E.P 23 v2_1 0) fun v43_63 => (k1 (xload E.P m 3 v43_63) fun v44_64 => (k1 (mfieldAddr E.P 23 v2_1 1) fun v45_65 => (k1 (xload E.P m 3 v45_65) fun v46_66 => (k1 (mbin E .eql 3 v44_64 v46_66) fun v47_67 => (kb v47_67 (some (.ret (.tuple #[(.func (.func 96) #[] #[]), (.bool true)]), m)) (some (.ret (.tuple #[.nilFunc, (.bool false)]), m)))))))) (some (.ret (.tuple #[.nilFunc, (.bool false)]), m)))))))))))))
def keep72 : Keep := { region := fun i => ([[1, 2], [4, 5], [1, 2, 6], [4, 5], [1, 2, 9], [4, 5], [1, 2, 12], [4, 5], [1, 2, 22], [4, 5], [39], [4, 5]] : List (List Nat))[i]?, exit := fun i => ([[4, 5]] : List (List Nat))[i]?, ret := some [4, 5] }
noncomputable def lp72 (call : CallF) (fuel base : Nat) : Lp := lpsel []
noncomputable def c72 : Code := Try.f72.body.getD .skip
theorem r72_eq (call : CallF) (fuel base : Nat) (x0 : Value) (x1 : Value) (m : M) : kbody E call keep72 (lp72 call fuel base) base Try.f72 [x0, x1] m = r72 call fuel base x0 x1 m := by
  kernel_rfl
noncomputable def rf72 : RF := fun call fuel base args m => match args with
  | [x0, x1] => r72 call fuel base x0 x1 m
  | _ => none
theorem r72_lk (call : CallF) (fuel base : Nat) : LoopsOk E call (lp72 call fuel base) fuel base 0 c72 = (And True (And True (And (And True True) (And True (And (And True True) (And True (And (And True True) (And True (And (And True True) (And True (And (And True True) (And True True)))))))))))) := by kernel_rfl
theorem r72_fn : E.P.funcs[72]? = some Try.f72 := by kernel_rfl
theorem r72_body : Try.f72.body = some c72 := by kernel_rfl
theorem rf72_ok : RFok E 72 rf72 := by
  show RFok' E 72 rf72
  refine ⟨Try.f72, r72_fn, fun call fuel base args m r _ h => ?_⟩
  unfold rf72 at h
  split at h
  · rw [← r72_eq] at h
    exact kbody_sound (c := c72) r72_body (Eq.mpr (r72_lk call fuel base) (And.intro trivial (And.intro trivial (And.intro (And.intro trivial trivial) (And.intro trivial (And.intro (And.intro trivial trivial) (And.intro trivial (And.intro (And.intro trivial trivial) (And.intro trivial (And.intro (And.intro trivial trivial) (And.intro trivial (And.intro (And.intro trivial trivial) (And.intro trivial trivial))))))))))))) h
  · simp at h
end Go.AM
namespace Go.AM
open Go Go.Proofs
noncomputable def r73_Y0 (call : CallF) (fuel base y : Nat) (x3 : Value) (x5 : Value) (x9 : Value) (m : M) : Res2 :=
  (k2 (xalloc E.P m 79) fun v6_7 m => (ks (xstore E.P base m 79 v6_7 x9) fun m => (ks (mbusy m y) fun m => (k1 (xload E.P m 88 x3) fun v10_8 => (k1 (xload E.P m 79 v6_7) fun v11_9 => (kc (kB m (kv call m.length v10_8 [v11_9] m)) (fun v12_10 m => (k1 (xload E.P m 79 v6_7) fun v13_11 => (k1 (mbin E .eql 79 v12_10 v13_11) fun v14_12 => (kb v14_12 (k1 (xload E.P m 3 x5) fun v15_13 => (k1 (mbin E .add 3 v15_13 (.int .i64 1)) fun v16_14 => (ks (xstore E.P base m 3 x5 v16_14) fun m => (mfin m y (some none))))) (mfin m y (some none)))))) (fun _ _ => none)))))))
noncomputable def r73 (call : CallF) (fuel base : Nat) (x0 : Value) (x1 : Value) (m : M) : Res2 :=
  (k2 (xbox m x0) fun v2_1 m => (k2 (xbox m x1) fun v3_2 m => (k2 (xalloc E.P m 3) fun v5_3 m => (ks (xstore E.P base m 3 v5_3 (.int .i64 0)) fun m => (k1 (xload E.P m 23 v2_1) fun v7_4 => (kc (call base 78 [v7_4] m) (fun v8_5 m => (kr (mrange call base v8_5 856855 { n := 18, l := [(3, v3_2), (5, v5_3)] } m) (fun m => (k1 (xload E.P m 3 v5_3) fun v17_6 => (fVal v17_6 fun v => some (.ret v, m)))) (fun _ => none) (kxs []))) (fun v m => some (.pan v, m))))))))
def keep73 : Keep := { region := fun i => ([[2, 3], [2, 3, 5], [3, 5, 8], [3, 5, 6], [5, 14], [], [4]] : List (List Nat))[i]?, exit := fun i => ([[5], []] : List (List Nat))[i]?, ret := some [4] }
noncomputable def lp73 (call : CallF) (fuel base : Nat) : Lp := lpsel []
noncomputable def c73 : Code := Try.f73.body.getD .skip
theorem r73_eq (call : CallF) (fuel base : Nat) (x0 : Value) (x1 : Value) (m : M) : kbody E call keep73 (lp73 call fuel base) base Try.f73 [x0, x1] m = r73 call fuel base x0 x1 m := by
  kernel_rfl
noncomputable def rf73 : RF := fun call fuel base args m => match args with
  | [x0, x1] => r73 call fuel base x0 x1 m
  | _ => none
theorem r73_lk (call : CallF) (fuel base : Nat) : LoopsOk E call (lp73 call fuel base) fuel base 0 c73 = (And True (And True (And (And True True) (And True True)))) := by kernel_rfl
theorem r73_fn : E.P.funcs[73]? = some Try.f73 := by kernel_rfl
theorem r73_body : Try.f73.body = some c73 := by kernel_rfl
theorem rf73_ok : RFok E 73 rf73 := by
  show RFok' E 73 rf73
  refine ⟨Try.f73, r73_fn, fun call fuel base args m r _ h => ?_⟩
  unfold rf73 at h
  split at h
  · rw [← r73_eq] at h
    exact kbody_sound (c := c73) r73_body (Eq.mpr (r73_lk call fuel base) (And.intro trivial (And.intro trivial (And.intro (And.intro trivial trivial) (And.intro trivial trivial))))) h
  · simp at h
noncomputable def site73_0 : Site := ⟨856855, [9], rangeA (blockB (seqR (seqL (seqR (seqR c73))))), rangeB (blockB (seqR (seqL (seqR (seqR c73)))))⟩
theorem site73_0_g : gsite 856855 = some site73_0 := by kernel_rfl
theorem r73_Y0_eq (call : CallF) (fuel base y : Nat) (x3 : Value) (x5 : Value) (x9 : Value) (m : M) : kround E call keep73 (lp73 call fuel base) base y site73_0 { n := 18, l := [(3, x3), (5, x5)] } [x9] m = r73_Y0 call fuel base y x3 x5 x9 m := by
  kernel_rfl
noncomputable def r73_Y0_R (call : CallF) (fuel base y : Nat) (xs vs : List Value) (m : M) : Res2 := match xs, vs with
  | [x3, x5], [x9] => r73_Y0 call fuel base y x3 x5 x9 m
  | _, _ => none
noncomputable def y73_0 : RYs := fun call fuel base y T vs m => kslots 18 [3, 5] T fun xs => r73_Y0_R call fuel base y xs vs m
theorem r73_Y0_lA (call : CallF) (fuel base : Nat) : LoopsOk E call (lp73 call fuel base) fuel base 0 site73_0.assign = True := by kernel_rfl
theorem r73_Y0_lB (call : CallF) (fuel base : Nat) : LoopsOk E call (lp73 call fuel base) fuel base 0 site73_0.body = (And True (And True True)) := by kernel_rfl
theorem y73_0_ok : RYsOk E 856855 y73_0 := by
  intro call fuel base y T vs m r lr hC hby hm hst hk hT h
  unfold y73_0 at h
  obtain ⟨xs, hl, hsub, h⟩ := kslots_some h
  unfold r73_Y0_R at h
  split at h
  · rw [← r73_Y0_eq] at h
    exact kround_sound (Eq.mpr (r73_Y0_lA call fuel base) trivial) (Eq.mpr (r73_Y0_lB call fuel base) (And.intro trivial (And.intro trivial trivial))) hby hm hst (by rw [hk]; exact site73_0_g) rfl (hT ▸ hsub) h
  · simp at h
end Go.AM
namespace Go.AM
open Go Go.Proofs
noncomputable def r74 (call : CallF) (fuel base : Nat) (x0 : Value) (x1 : Value) (x2 : Value) (x3 : Value) (m : M) : Res2 :=
  (k2 (xbox m x0) fun v4_1 m => (k1 (mfieldAddr E.P 23 v4_1 2) fun v10_2 => (k1 (xload E.P m 3 v10_2) fun v11_3 => (k1 (mbin E .gtr 3 x3 (.int .i64 0)) fun v13_4 => (kb v13_4 (k1 (mindexAddr E.P 33 x1 x2) fun v17_5 => (k1 (xload E.P m 27 v17_5) fun v18_6 => (k1 (mbin E .sub 3 x3 (.int .i64 1)) fun v20_7 => (k1 (mindexAddr E.P 27 v18_6 v20_7) fun v21_8 => (k1 (xload E.P m 3 v21_8) fun v22_9 => (k2 (vcall E.P base m .min [3, 3] [v11_3, v22_9]) fun v23_10 m => (k1 (mbin E .gtr 3 x2 (.int .i64 0)) fun v25_11 => (kb v25_11 (k1 (mbin E .sub 3 x2 (.int .i64 1)) fun v29_12 => (k1 (mindexAddr E.P 33 x1 v29_12) fun v30_13 => (k1 (xload E.P m 27 v30_13) fun v31_14 => (k1 (mindexAddr E.P 27 v31_14 x3) fun v33_15 => (k1 (xload E.P m 3 v33_15) fun v34_16 => (k2 (vcall E.P base m .min [3, 3] [v23_10, v34_16]) fun v35_17 m => (fVal v35_17 fun v => some (.ret v, m)))))))) (fVal v23_10 fun v => some (.ret v, m)))))))))) (k1 (mbin E .gtr 3 x2 (.int .i64 0)) fun v25_18 => (kb v25_18 (k1 (mbin E .sub 3 x2 (.int .i64 1)) fun v29_19 => (k1 (mindexAddr E.P 33 x1 v29_19) fun v30_20 => (k1 (xload E.P m 27 v30_20) fun v31_21 => (k1 (mindexAddr E.P 27 v31_21 x3) fun v33_22 => (k1 (xload E.P m 3 v33_22) fun v34_23 => (k2 (vcall E.P base m .min [3, 3] [v11_3, v34_23]) fun v35_24 m => (fVal v35_24 fun v => some (.ret v, m)))))))) (fVal v11_3 fun v => some (.ret v, m)))))))))
def keep74 : Keep := { region := fun i => ([[1, 2, 3, 4], [1, 2, 3, 9], [1, 2, 3, 9, 13], [1, 2, 3, 9], [1, 2, 3, 9, 25], [9], [8]] : List (List Nat))[i]?, exit := fun i => ([] : List (List Nat))[i]?, ret := some [8] }
noncomputable def lp74 (call : CallF) (fuel base : Nat) : Lp := lpsel []
noncomputable def c74 : Code := Try.f74.body.getD .skip
theorem r74_eq (call : CallF) (fuel base : Nat) (x0 : Value) (x1 : Value) (x2 : Value) (x3 : Value) (m : M) : kbody E call keep74 (lp74 call fuel base) base Try.f74 [x0, x1, x2, x3] m = r74 call fuel base x0 x1 x2 x3 m := by
  kernel_rfl
noncomputable def rf74 : RF := fun call fuel base args m => match args with
  | [x0, x1, x2, x3] => r74 call fuel base x0 x1 x2 x3 m
  | _ => none
theorem r74_lk (call : CallF) (fuel base : Nat) : LoopsOk E call (lp74 call fuel base) fuel base 0 c74 = (And True (And True (And (And True (And True True)) (And (And True (And True True)) (And True True))))) := by kernel_rfl
theorem r74_fn : E.P.funcs[74]? = some Try.f74 := by kernel_rfl
theorem r74_body : Try.f74.body = some c74 := by kernel_rfl
theorem rf74_ok : RFok E 74 rf74 := by
  show RFok' E 74 rf74
  refine ⟨Try.f74, r74_fn, fun call fuel base args m r _ h => ?_⟩
  unfold rf74 at h
  split at h
  · rw [← r74_eq] at h
    exact kbody_sound (c := c74) r74_body (Eq.mpr (r74_lk call fuel base) (And.intro trivial (And.intro trivial (And.intro (And.intro trivial (And.intro trivial trivial)) (And.intro (And.intro trivial (And.intro trivial trivial)) (And.intro trivial trivial)))))) h
  · simp at h
end Go.AM
namespace Go.AM
open Go Go.Proofs
noncomputable def r75 (call : CallF) (fuel base : Nat) (x0 : Value) (m : M) : Res2 :=
  (k1 (mbin E .leq 3 (.int .i64 1) x0) fun v4_1 => (kb v4_1 (k1 (mbin E .leq 3 x0 (.int .i64 4)) fun v7_2 => (fVal v7_2 fun v => some (.ret v, m))) (fVal (.bool false) fun v => some (.ret v, m))))
def keep75 : Keep := { region := fun i => ([[0], [2]] : List (List Nat))[i]?, exit := fun i => ([] : List (List Nat))[i]?, ret := some [2] }
noncomputable def lp75 (call : CallF) (fuel base : Nat) : Lp := lpsel []
noncomputable def c75 : Code := Try.f75.body.getD .skip
theorem r75_eq (call : CallF) (fuel base : Nat) (x0 : Value) (m : M) : kbody E call keep75 (lp75 call fuel base) base Try.f75 [x0] m = r75 call fuel base x0 m := by
  kernel_rfl
noncomputable def rf75 : RF := fun call fuel base args m => match args with
  | [x0] => r75 call fuel base x0 m
  | _ => none
theorem r75_lk (call : CallF) (fuel base : Nat) : LoopsOk E call (lp75 call fuel base) fuel base 0 c75 = (And True (And True True)) := by kernel_rfl
theorem r75_fn : E.P.funcs[75]? = some Try.f75 := by kernel_rfl
theorem r75_body : Try.f75.body = some c75 := by kernel_rfl
theorem rf75_ok : RFok E 75 rf75 := by
  show RFok' E 75 rf75
  refine ⟨Try.f75, r75_fn, fun call fuel base args m r _ h => ?_⟩
  unfold rf75 at h
  split at h
  · rw [← r75_eq] at h
    exact kbody_sound (c := c75) r75_body (Eq.mpr (r75_lk call fuel base) (And.intro trivial (And.intro trivial trivial))) h
  · simp at h
end Go.AM
namespace Go.AM
open Go Go.Proofs
noncomputable def r76_L0 (call : CallF) (fuel base : Nat) (kx0 : Value → M → Res2) (n : Nat) : Value → Value → Value → Value → M → Res2 :=
  Nat.rec (motive := fun _ => Value → Value → Value → Value → M → Res2) (fun _ _ _ _ _ => none)
    (fun _ ih x0 x5 x14 x15 m =>
      (k1 (mbin E .lss 3 x15 x14) fun v16_3 => (kb v16_3 (k1 (mbin E .sub 3 x0 x15) fun v21_4 => (k1 (mbin E .mul 3 x5 v21_4) fun v22_5 => (k1 (mbin E .add 3 x15 (.int .i64 1)) fun v24_6 => (k1 (mbin E .quo 3 v22_5 v24_6) fun v25_7 => (k1 (mbin E .add 3 x15 (.int .i64 1)) fun v26_8 => (ih x0 v25_7 x14 v26_8 m)))))) (kx0 x5 m)))) n
noncomputable def r76 (call : CallF) (fuel base : Nat) (x0 : Value) (x1 : Value) (m : M) : Res2 :=
  (k1 (mbin E .lss 3 x1 (.int .i64 0)) fun v8_1 => (kb v8_1 (fVal (.int .i64 0) fun v => some (.ret v, m)) (k1 (mbin E .gtr 3 x1 x0) fun v12_2 => (kb v12_2 (fVal (.int .i64 0) fun v => some (.ret v, m)) (r76_L0 call fuel base (fun y5_9 m => (fVal y5_9 fun v => some (.ret v, m))) fuel x0 (.int .i64 1) x1 (.int .i64 0) m)))))
def keep76 : Keep := { region := fun i => ([[0, 1], [0, 1, 13], [4], [0, 1, 5], [0, 5, 14, 15], [0, 5, 14, 15, 16], [0, 5, 6, 14, 15], [0, 5, 14, 15], [0, 5, 14, 15], [4]] : List (List Nat))[i]?, exit := fun i => ([[5], [0, 5, 14, 15]] : List (List Nat))[i]?, ret := some [4] }
noncomputable def r76_L0_R (call : CallF) (fuel base n : Nat) (vs : List Value) (m : M) (K : KT) : Res2 := match vs with
  | [x0, x5, x14, x15] => r76_L0 call fuel base (fun y5 m => K (.exit 0) { n := 28, l := [(5, y5)] } m) n x0 x5 x14 x15 m
  | _ => none
noncomputable def lp76 (call : CallF) (fuel base : Nat) : Lp := lpsel [(0, fun T m K => kslots 28 [0, 5, 14, 15] T fun vs => r76_L0_R call fuel base fuel vs m K)]
noncomputable def c76 : Code := Try.f76.body.getD .skip
theorem r76_L0_lk (call : CallF) (fuel base : Nat) : LoopsOk E call (lp76 call fuel base) fuel base 0 (loopB (blockB (seqR (seqL (seqR (seqR (seqR c76))))))) = (And True (And (And True True) (And (And True True) True))) := by kernel_rfl
theorem r76_L0_ok (call : CallF) (fuel base : Nat) : LpOk E call (lp76 call fuel base) fuel base 0 (loopB (blockB (seqR (seqL (seqR (seqR (seqR c76))))))) := by
  refine loop_ok (kp := keep76) (hb := Eq.mpr (r76_L0_lk call fuel base) (And.intro trivial (And.intro (And.intro trivial trivial) (And.intro (And.intro trivial trivial) trivial)))) 28 [0, 5, 14, 15] (fun n vs m K => r76_L0_R call fuel base n vs m K) ?_ ?_ (fun _ _ _ => rfl)
  · intro vs m K
    unfold r76_L0_R
    split <;> rfl
  · intro n vs m K hl
    match vs, hl with
    | [x0, x5, x14, x15], _ => show _ = _; kernel_rfl
theorem r76_eq (call : CallF) (fuel base : Nat) (x0 : Value) (x1 : Value) (m : M) : kbody E call keep76 (lp76 call fuel base) base Try.f76 [x0, x1] m = r76 call fuel base x0 x1 m := by
  kernel_rfl
noncomputable def rf76 : RF := fun call fuel base args m => match args with
  | [x0, x1] => r76 call fuel base x0 x1 m
  | _ => none
theorem r76_lk (call : CallF) (fuel base : Nat) : LoopsOk E call (lp76 call fuel base) fuel base 0 c76 = (And True (And (And True (And (And True True) True)) (And True (And (And True (LpOk E call (lp76 call fuel base) fuel base 0 (loopB (blockB (seqR (seqL (seqR (seqR (seqR c76))))))))) (And True True))))) := by kernel_rfl
theorem r76_fn : E.P.funcs[76]? = some Try.f76 := by kernel_rfl
theorem r76_body : Try.f76.body = some c76 := by kernel_rfl
theorem rf76_ok : RFok E 76 rf76 := by
  show RFok' E 76 rf76
  refine ⟨Try.f76, r76_fn, fun call fuel base args m r _ h => ?_⟩
  unfold rf76 at h
  split at h
  · rw [← r76_eq] at h
    exact kbody_sound (c := c76) r76_body (Eq.mpr (r76_lk call fuel base) (And.intro trivial (And.intro (And.intro trivial (And.intro (And.intro trivial trivial) trivial)) (And.intro trivial (And.intro (And.intro trivial (r76_L0_ok call fuel base)) (And.intro trivial trivial)))))) h
  · simp at h
end Go.AM
namespace Go.AM
open Go Go.Proofs
noncomputable def r77_L0 (call : CallF) (fuel base : Nat) (kp : Value → M → Res2) (kr : Value → M → Res2) (kx0 : Value → Value → Value → M → Res2) (n : Nat) : Value → Value → Value → Value → Value → Value → M → Res2 :=
  Nat.rec (motive := fun _ => Value → Value → Value → Value → Value → Value → M → Res2) (fun _ _ _ _ _ _ _ => none)
    (fun _ ih x0 x3 x4 x5 x10 x11 m =>
      (k1 (mbin E .lss 3 x11 x10) fun v12_4 => (kb v12_4 (kc (call base 98 [x0, x11] m) (fun v16_5 m => (k1 (mbin E .lss 3 v16_5 (.int .i64 0)) fun v18_6 => (kb v18_6 (kr (.int .i64 0) m) (k1 (mbin E .neq 3 v16_5 x11) fun v21_7 => (kb v21_7 (k1 (mindexAddr E.P 33 x0 v16_5) fun v28_8 => (k1 (xload E.P m 27 v28_8) fun v29_9 => (k1 (mindexAddr E.P 33 x0 x11) fun v32_10 => (k1 (xload E.P m 27 v32_10) fun v33_11 => (k1 (mindexAddr E.P 33 x0 x11) fun v34_12 => (ks (xstore E.P base m 27 v34_12 v29_9) fun m => (k1 (mindexAddr E.P 33 x0 v16_5) fun v35_13 => (ks (xstore E.P base m 27 v35_13 v33_11) fun m => (k1 (mun .not x5) fun v37_14 => (k1 (xload E.P m 120 x3) fun v41_15 => (kc (call base 99 [x0, x11, x4, v41_15] m) (fun v42_16 m => (k1 (mindexAddr E.P 33 x0 x11) fun v45_17 => (k1 (xload E.P m 27 v45_17) fun v46_18 => (k1 (mindexAddr E.P 27 v46_18 x11) fun v48_19 => (k1 (xload E.P m 3 v48_19) fun v49_20 => (k1 (mbin E .add 3 x11 (.int .i64 1)) fun v50_21 => (ih x0 x3 v49_20 v37_14 x10 v50_21 m))))))) (fun v m => kp v m)))))))))))) (k1 (xload E.P m 120 x3) fun v41_22 => (kc (call base 99 [x0, x11, x4, v41_22] m) (fun v42_23 m => (k1 (mindexAddr E.P 33 x0 x11) fun v45_24 => (k1 (xload E.P m 27 v45_24) fun v46_25 => (k1 (mindexAddr E.P 27 v46_25 x11) fun v48_26 => (k1 (xload E.P m 3 v48_26) fun v49_27 => (k1 (mbin E .add 3 x11 (.int .i64 1)) fun v50_28 => (ih x0 x3 v49_27 x5 x10 v50_28 m))))))) (fun v m => kp v m)))))))) (fun v m => kp v m)) (kx0 x3 x4 x5 m)))) n
noncomputable def r77 (call : CallF) (fuel base : Nat) (x0 : Value) (m : M) : Res2 :=
  (kc (call base 97 [] m) (fun v8_1 m => (k2 (xalloc E.P m 120) fun v3_2 m => (ks (xstore E.P base m 120 v3_2 v8_1) fun m => (k2 (vcall E.P base m .len [33] [x0]) fun v10_3 m => (r77_L0 call fuel base (fun v m => some (.pan v, m)) (fun y2_29 m => (fVal y2_29 fun v => some (.ret v, m))) (fun y3_30 y4_31 y5_32 m => (kb y5_32 (k1 (mfieldAddr E.P 120 y3_30 1) fun v52_33 => (k1 (xload E.P m 56 v52_33) fun v53_34 => (kc (kv call base v53_34 [(.int .i64 0), y4_31] m) (fun v55_35 m => (fVal v55_35 fun v => some (.ret v, m))) (fun v m => some (.pan v, m))))) (fVal y4_31 fun v => some (.ret v, m)))) fuel x0 v3_2 (.int .i64 1) (.bool false) v10_3 (.int .i64 0) m))))) (fun v m => some (.pan v, m)))
def keep77 : Keep := { region := fun i => ([[0], [0, 3], [0, 3, 4, 5], [0, 3, 4, 5, 10, 11], [0, 3, 4, 5, 10, 11, 12], [0, 3, 4, 5, 6, 10, 11], [0, 3, 4, 5, 6, 7, 10, 11], [0, 3, 4, 5, 6, 7, 10, 11, 18], [2], [0, 3, 4, 5, 6, 7, 10, 11, 21], [0, 3, 4, 5, 6, 10, 11], [0, 3, 4, 5, 6, 10, 11], [0, 3, 5, 6, 10, 11], [0, 3, 4, 5, 10, 11], [0, 3, 4, 5, 10, 11], [3, 4, 51], [2], [2]] : List (List Nat))[i]?, exit := fun i => ([[3, 4, 5], [0, 3, 4, 5, 10, 11]] : List (List Nat))[i]?, ret := some [2] }
noncomputable def r77_L0_R (call : CallF) (fuel base n : Nat) (vs : List Value) (m : M) (K : KT) : Res2 := match vs with
  | [x0, x3, x4, x5, x10, x11] => r77_L0 call fuel base (fun v m => K (.pan v) { n := 57, l := [] } m) (fun y2 m => K .ret { n := 57, l := [(2, y2)] } m) (fun y3 y4 y5 m => K (.exit 0) { n := 57, l := [(3, y3), (4, y4), (5, y5)] } m) n x0 x3 x4 x5 x10 x11 m
  | _ => none
noncomputable def lp77 (call : CallF) (fuel base : Nat) : Lp := lpsel [(0, fun T m K => kslots 57 [0, 3, 4, 5, 10, 11] T fun vs => r77_L0_R call fuel base fuel vs m K)]
noncomputable def c77 : Code := Try.f77.body.getD .skip
theorem r77_L0_lk (call : CallF) (fuel base : Nat) : LoopsOk E call (lp77 call fuel base) fuel base 0 (loopB (blockB (seqR (seqL (seqR (seqR (seqR c77))))))) = (And True (And (And True True) (And (And True (And True (And (And True (And (And True True) True)) (And (And True (And (And True True) True)) (And True True))))) True))) := by kernel_rfl
theorem r77_L0_ok (call : CallF) (fuel base : Nat) : LpOk E call (lp77 call fuel base) fuel base 0 (loopB (blockB (seqR (seqL (seqR (seqR (seqR c77))))))) := by
  refine loop_ok (kp := keep77) (hb := Eq.mpr (r77_L0_lk call fuel base) (And.intro trivial (And.intro (And.intro trivial trivial) (And.intro (And.intro trivial (And.intro trivial (And.intro (And.intro trivial (And.intro (And.intro trivial trivial) trivial)) (And.intro (And.intro trivial (And.intro (And.intro trivial trivial) trivial)) (And.intro trivial trivial))))) trivial)))) 57 [0, 3, 4, 5, 10, 11] (fun n vs m K => r77_L0_R call fuel base n vs m K) ?_ ?_ (fun _ _ _ => rfl)
  · intro vs m K
    unfold r77_L0_R
    split <;> rfl
  · intro n vs m K hl
    match vs, hl with
    | [x0, x3, x4, x5, x10, x11], _ => show _ = _; kernel_rfl
theorem r77_eq (call : CallF) (fuel base : Nat) (x0 : Value) (m : M) : kbody E call keep77 (lp77 call fuel base) base Try.f77 [x0] m = r77 call fuel base x0 m := by
  kernel_rfl
noncomputable def rf77 : RF := fun call fuel base args m => match args with
  | [x0] => r77 call fuel base x0 m
  | _ => none
theorem r77_lk (call : CallF) (fuel base : Nat) : LoopsOk E call (lp77 call fuel base) fuel base 0 c77 = (And True (And True (And True (And (And True (LpOk E call (lp77 call fuel base) fuel base 0 (loopB (blockB (seqR (seqL (seqR (seqR (seqR c77))))))))) (And (And True (And (And True True) True)) (And True True)))))) := by kernel_rfl
theorem r77_fn : E.P.funcs[77]? = some Try.f77 := by kernel_rfl
theorem r77_body : Try.f77.body = some c77 := by kernel_rfl
theorem rf77_ok : RFok E 77 rf77 := by
  show RFok' E 77 rf77
  refine ⟨Try.f77, r77_fn, fun call fuel base args m r _ h => ?_⟩
  unfold rf77 at h
  split at h
  · rw [← r77_eq] at h
    exact kbody_sound (c := c77) r77_body (Eq.mpr (r77_lk call fuel base) (And.intro trivial (And.intro trivial (And.intro trivial (And.intro (And.intro trivial (r77_L0_ok call fuel base)) (And.intro (And.intro trivial (And.intro (And.intro trivial trivial) trivial)) (And.intro trivial trivial))))))) h
  · simp at h
end Go.AM
namespace Go.AM
open Go Go.Proofs
noncomputable def r78 (call : CallF) (fuel base : Nat) (x0 : Value) (m : M) : Res2 :=
  (k2 (xbox m x0) fun v1_1 m => (fVal (.func (.func 100) #[] #[v1_1]) fun v => some (.ret v, m)))
def keep78 : Keep := { region := fun i => ([[1], [2]] : List (List Nat))[i]?, exit := fun i => ([] : List (List Nat))[i]?, ret := some [2] }
noncomputable def lp78 (call : CallF) (fuel base : Nat) : Lp := lpsel []
noncomputable def c78 : Code := Try.f78.body.getD .skip
theorem r78_eq (call : CallF) (fuel base : Nat) (x0 : Value) (m : M) : kbody E call keep78 (lp78 call fuel base) base Try.f78 [x0] m = r78 call fuel base x0 m := by
  kernel_rfl
noncomputable def rf78 : RF := fun call fuel base args m => match args with
  | [x0] => r78 call fuel base x0 m
  | _ => none
theorem r78_lk (call : CallF) (fuel base : Nat) : LoopsOk E call (lp78 call fuel base) fuel base 0 c78 = (And True (And True True)) := by kernel_rfl
theorem r78_fn : E.P.funcs[78]? = some Try.f78 := by kernel_rfl
theorem r78_body : Try.f78.body = some c78 := by kernel_rfl
theorem rf78_ok : RFok E 78 rf78 := by
  show RFok' E 78 rf78
  refine ⟨Try.f78, r78_fn, fun call fuel base args m r _ h => ?_⟩
  unfold rf78 at h
  split at h
  · rw [← r78_eq] at h
    exact kbody_sound (c := c78) r78_body (Eq.mpr (r78_lk call fuel base) (And.intro trivial (And.intro trivial trivial))) h
  · simp at h
end Go.AM
namespace Go.AM
open Go Go.Proofs
noncomputable def r80 (call : CallF) (fuel base : Nat) (x0 : Value) (x1 : Value) (x2 : Value) (m : M) : Res2 :=
  (k2 (xbox m x0) fun v3_1 m => (k1 (xload E.P m 79 v3_1) fun v7_2 => (k1 (mbin E .sub 3 x1 (.int .i64 1)) fun v9_3 => (kc (kB m (call m.length 104 [v7_2, v9_3, x2] m)) (fun v11_4 m => (k1 (xload E.P m 79 v3_1) fun v12_5 => (k1 (mbin E .sub 3 x2 (.int .i64 1)) fun v15_6 => (kc (kB m (call m.length 104 [v12_5, x1, v15_6] m)) (fun v16_7 m => (k2 (vcall E.P base m .min [3, 3] [v11_4, v16_7]) fun v17_8 m => (fVal v17_8 fun v => some (.ret v, m)))) (fun _ _ => none))))) (fun _ _ => none)))))
def keep80 : Keep := { region := fun i => ([[1, 2, 3], [6]] : List (List Nat))[i]?, exit := fun i => ([] : List (List Nat))[i]?, ret := some [6] }
noncomputable def lp80 (call : CallF) (fuel base : Nat) : Lp := lpsel []
noncomputable def c80 : Code := Try.f80.body.getD .skip
theorem r80_eq (call : CallF) (fuel base : Nat) (x0 : Value) (x1 : Value) (x2 : Value) (m : M) : kbody E call keep80 (lp80 call fuel base) base Try.f80 [x0, x1, x2] m = r80 call fuel base x0 x1 x2 m := by
  kernel_rfl
noncomputable def rf80 : RF := fun call fuel base args m => match args with
  | [x0, x1, x2] => r80 call fuel base x0 x1 x2 m
  | _ => none
theorem r80_lk (call : CallF) (fuel base : Nat) : LoopsOk E call (lp80 call fuel base) fuel base 0 c80 = (And True (And True True)) := by kernel_rfl
theorem r80_fn : E.P.funcs[80]? = some Try.f80 := by kernel_rfl
theorem r80_body : Try.f80.body = some c80 := by kernel_rfl
theorem rf80_ok : RFok E 80 rf80 := by
  show RFok' E 80 rf80
  refine ⟨Try.f80, r80_fn, fun call fuel base args m r _ h => ?_⟩
  unfold rf80 at h
  split at h
  · rw [← r80_eq] at h
    exact kbody_sound (c := c80) r80_body (Eq.mpr (r80_lk call fuel base) (And.intro trivial (And.intro trivial trivial))) h
  · simp at h
end Go.AM
namespace Go.AM
open Go Go.Proofs
noncomputable def r81_L4 (call : CallF) (fuel base : Nat) (kp : Value → M → Res2) (kx4 : Value → Value → Value → Value → Value → Value → Value → Value → Value → M → Res2) (n : Nat) : Value → Value → Value → Value → Value → Value → Value → Value → Value → Value → Value → Value → Value → Value → M → Res2 :=
  Nat.rec (motive := fun _ => Value → Value → Value → Value → Value → Value → Value → Value → Value → Value → Value → Value → Value → Value → M → Res2) (fun _ _ _ _ _ _ _ _ _ _ _ _ _ _ _ => none)
    (fun _ ih x1 x2 x3 x4 x5 x6 x7 x8 x27 x28 x29 x37 x38 x39 m =>
      (k1 (mbin E .lss 3 x39 x38) fun v40_22 => (kb v40_22 (k1 (mindexAddr E.P 104 x37 x39) fun v42_23 => (k1 (xload E.P m 76 v42_23) fun v43_24 => (k2 (xalloc E.P m 76) fun v10_25 m => (ks (xstore E.P base m 76 v10_25 v43_24) fun m => (k1 (xload E.P m 76 v10_25) fun v44_26 => (k1 (xload E.P m 76 x8) fun v45_27 => (kc (call base 103 [v44_26, v45_27] m) (fun v46_28 m => (kb v46_28 (k1 (mindexAddr E.P 27 x6 x7) fun v49_29 => (k1 (xload E.P m 3 v49_29) fun v50_30 => (k1 (mbin E .sub 3 x5 (.int .i64 1)) fun v53_31 => (k1 (mindexAddr E.P 33 x4 v53_31) fun v54_32 => (k1 (xload E.P m 27 v54_32) fun v55_33 => (k1 (mindexAddr E.P 27 v55_33 x39) fun v57_34 => (k1 (xload E.P m 3 v57_34) fun v58_35 => (k1 (mbin E .add 3 v50_30 v58_35) fun v59_36 => (k1 (mindexAddr E.P 27 x6 x7) fun v60_37 => (ks (xstore E.P base m 3 v60_37 v59_36) fun m => (k1 (mbin E .add 3 x39 (.int .i64 1)) fun v61_38 => (ih x1 x2 x3 x4 x5 x6 x7 x8 x27 x28 x29 x37 x38 v61_38 m)))))))))))) (k1 (mbin E .add 3 x39 (.int .i64 1)) fun v61_39 => (ih x1 x2 x3 x4 x5 x6 x7 x8 x27 x28 x29 x37 x38 v61_39 m)))) (fun v m => kp v m)))))))) (kx4 x1 x2 x3 x4 x5 x6 x27 x28 x29 m)))) n
noncomputable def r81_L2 (call : CallF) (fuel base : Nat) (kp : Value → M → Res2) (kx2 : Value → Value → Value → Value → Value → Value → M → Res2) (n : Nat) : Value → Value → Value → Value → Value → Value → Value → Value → Value → M → Res2 :=
  Nat.rec (motive := fun _ => Value → Value → Value → Value → Value → Value → Value → Value → Value → M → Res2) (fun _ _ _ _ _ _ _ _ _ _ => none)
    (fun _ ih x1 x2 x3 x4 x5 x6 x27 x28 x29 m =>
      (k1 (mbin E .lss 3 x29 x28) fun v30_15 => (kb v30_15 (k1 (mindexAddr E.P 104 x27 x29) fun v32_16 => (k1 (xload E.P m 76 v32_16) fun v33_17 => (k2 (xalloc E.P m 76) fun v8_18 m => (ks (xstore E.P base m 76 v8_18 v33_17) fun m => (k1 (mbin E .add 3 x29 (.int .i64 1)) fun v36_19 => (k1 (mslice E.P m 104 x3 none (some v36_19) none) fun v37_20 => (k2 (vcall E.P base m .len [104] [v37_20]) fun v38_21 m => (r81_L4 call fuel base (fun v m => kp v m) (fun y1_40 y2_41 y3_42 y4_43 y5_44 y6_45 y27_46 y28_47 y29_48 m => (k1 (mbin E .add 3 y29_48 (.int .i64 1)) fun v62_49 => (ih y1_40 y2_41 y3_42 y4_43 y5_44 y6_45 y27_46 y28_47 v62_49 m))) fuel x1 x2 x3 x4 x5 x6 x29 v8_18 x27 x28 x29 v37_20 v38_21 (.int .i64 0) m)))))))) (kx2 x1 x2 x3 x4 x5 x6 m)))) n
noncomputable def r81_L0 (call : CallF) (fuel base : Nat) (kp : Value → M → Res2) (kx0 : Value → Value → Value → M → Res2) (n : Nat) : Value → Value → Value → Value → Value → M → Res2 :=
  Nat.rec (motive := fun _ => Value → Value → Value → Value → Value → M → Res2) (fun _ _ _ _ _ _ => none)
    (fun _ ih x1 x2 x3 x4 x5 m =>
      (k1 (mfieldAddr E.P 23 x1 0) fun v19_9 => (k1 (xload E.P m 3 v19_9) fun v20_10 => (k1 (mbin E .lss 3 x5 v20_10) fun v21_11 => (kb v21_11 (k2 (vcall E.P base m .len [104] [x3]) fun v25_12 m => (k2 (xmakeSlice E.P m 27 v25_12 v25_12) fun v26_13 m => (k2 (vcall E.P base m .len [104] [x3]) fun v28_14 m => (r81_L2 call fuel base (fun v m => kp v m) (fun y1_50 y2_51 y3_52 y4_53 y5_54 y6_55 m => (k2 (xbuildSlice E.P m 33 1 [(0, y6_55)]) fun v65_56 m => (k2 (vcall E.P base m .append [33, 33] [y4_53, v65_56]) fun v66_57 m => (k1 (mbin E .add 3 y5_54 (.int .i64 1)) fun v23_58 => (ih y1_50 y2_51 y3_52 v66_57 v23_58 m))))) fuel x1 x2 x3 x4 x5 v26_13 x3 v28_14 (.int .i64 0) m)))) (kx0 x2 x3 x4 m)))))) n
noncomputable def r81 (call : CallF) (fuel base : Nat) (x0 : Value) (m : M) : Res2 :=
  (k2 (xbox m x0) fun v1_1 m => (k2 (xalloc E.P m 106) fun v2_2 m => (k1 (xload E.P m 23 v1_1) fun v11_3 => (kc (call base 101 [v11_3] m) (fun v12_4 m => (k2 (xbuildSlice E.P m 27 1 [(0, (.int .i64 1))]) fun v13_5 m => (k2 (vcall E.P base m .len [104] [v12_4]) fun v15_6 m => (kc (call base 105 [v13_5, v15_6] m) (fun v16_7 m => (k2 (xbuildSlice E.P m 33 1 [(0, v16_7)]) fun v17_8 m => (r81_L0 call fuel base (fun v m => some (.pan v, m)) (fun y2_59 y3_60 y4_61 m => (k1 (mbuild E.P 106 [(0, y3_60), (1, y4_61)]) fun v69_62 => (ks (xstore E.P base m 106 y2_59 v69_62) fun m => (k0 (mload E.P m 106 y2_59) fun r_63 => (fVal r_63 fun v => some (.ret v, m)))))) fuel v1_1 v2_2 v12_4 v17_8 (.int .i64 1) m))) (fun v m => some (.pan v, m)))))) (fun v m => some (.pan v, m))))))
def keep81 : Keep := { region := fun i => ([[1, 2], [1, 2, 3], [1, 2, 3, 4], [1, 2, 3, 4, 5], [1, 2, 3, 4, 5, 21], [1, 2, 3, 4, 5], [1, 2, 3, 4, 5, 6], [1, 2, 3, 4, 5, 6, 27, 28, 29], [1, 2, 3, 4, 5, 6, 27, 28, 29, 30], [1, 2, 3, 4, 5, 6, 7, 8, 27, 28, 29], [1, 2, 3, 4, 5, 6, 7, 8, 27, 28, 29, 37, 38, 39], [1, 2, 3, 4, 5, 6, 7, 8, 27, 28, 29, 37, 38, 39, 40], [1, 2, 3, 4, 5, 6, 7, 8, 9, 10, 27, 28, 29, 37, 38, 39], [1, 2, 3, 4, 5, 6, 7, 8, 9, 27, 28, 29, 37, 38, 39, 46], [1, 2, 3, 4, 5, 6, 7, 8, 27, 28, 29, 37, 38, 39], [1, 2, 3, 4, 5, 6, 7, 8, 27, 28, 29, 37, 38, 39], [1, 2, 3, 4, 5, 6, 27, 28, 29], [1, 2, 3, 4, 5], [2]] : List (List Nat))[i]?, exit := fun i => ([[2, 3, 4], [1, 2, 3, 4, 5], [1, 2, 3, 4, 5, 6], [1, 2, 3, 4, 5, 6, 27, 28, 29], [1, 2, 3, 4, 5, 6, 27, 28, 29], [1, 2, 3, 4, 5, 6, 7, 8, 27, 28, 29, 37, 38, 39]] : List (List Nat))[i]?, ret := some [2] }
noncomputable def r81_L4_R (call : CallF) (fuel base n : Nat) (vs : List Value) (m : M) (K : KT) : Res2 := match vs with
  | [x1, x2, x3, x4, x5, x6, x7, x8, x27, x28, x29, x37, x38, x39] => r81_L4 call fuel base (fun v m => K (.pan v) { n := 70, l := [] } m) (fun y1 y2 y3 y4 y5 y6 y27 y28 y29 m => K (.exit 4) { n := 70, l := [(1, y1), (2, y2), (3, y3), (4, y4), (5, y5), (6, y6), (27, y27), (28, y28), (29, y29)] } m) n x1 x2 x3 x4 x5 x6 x7 x8 x27 x28 x29 x37 x38 x39 m
  | _ => none
noncomputable def r81_L2_R (call : CallF) (fuel base n : Nat) (vs : List Value) (m : M) (K : KT) : Res2 := match vs with
  | [x1, x2, x3, x4, x5, x6, x27, x28, x29] => r81_L2 call fuel base (fun v m => K (.pan v) { n := 70, l := [] } m) (fun y1 y2 y3 y4 y5 y6 m => K (.exit 2) { n := 70, l := [(1, y1), (2, y2), (3, y3), (4, y4), (5, y5), (6, y6)] } m) n x1 x2 x3 x4 x5 x6 x27 x28 x29 m
  | _ => none
noncomputable def r81_L0_R (call : CallF) (fuel base n : Nat) (vs : List Value) (m : M) (K : KT) : Res2 := match vs with
  | [x1, x2, x3, x4, x5] => r81_L0 call fuel base (fun v m => K (.pan v) { n := 70, l := [] } m) (fun y2 y3 y4 m => K (.exit 0) { n := 70, l := [(2, y2), (3, y3), (4, y4)] } m) n x1 x2 x3 x4 x5 m
  | _ => none
noncomputable def lp81 (call : CallF) (fuel base : Nat) : Lp := lpsel [(4, fun T m K => kslots 70 [1, 2, 3, 4, 5, 6, 7, 8, 27, 28, 29, 37, 38, 39] T fun vs => r81_L4_R call fuel base fuel vs m K), (2, fun T m K => kslots 70 [1, 2, 3, 4, 5, 6, 27, 28, 29] T fun vs => r81_L2_R call fuel base fuel vs m K), (0, fun T m K => kslots 70 [1, 2, 3, 4, 5] T fun vs => r81_L0_R call fuel base fuel vs m K)]
noncomputable def c81 : Code := Try.f81.body.getD .skip
theorem r81_L4_lk (call : CallF) (fuel base : Nat) : LoopsOk E call (lp81 call fuel base) fuel base 4 (loopB (blockB (seqR (seqR (blockB (seqL (seqR (seqR (loopB (blockB (seqR (seqL (seqR (blockB (seqL (seqR (loopB (blockB (seqR (seqL (seqR (seqR (seqR c81))))))))))))))))))))))) = (And True (And (And True True) (And (And True (And True (And True True))) True))) := by kernel_rfl
theorem r81_L4_ok (call : CallF) (fuel base : Nat) : LpOk E call (lp81 call fuel base) fuel base 4 (loopB (blockB (seqR (seqR (blockB (seqL (seqR (seqR (loopB (blockB (seqR (seqL (seqR (blockB (seqL (seqR (loopB (blockB (seqR (seqL (seqR (seqR (seqR c81))))))))))))))))))))))) := by
  refine loop_ok (kp := keep81) (hb := Eq.mpr (r81_L4_lk call fuel base) (And.intro trivial (And.intro (And.intro trivial trivial) (And.intro (And.intro trivial (And.intro trivial (And.intro trivial trivial))) trivial)))) 70 [1, 2, 3, 4, 5, 6, 7, 8, 27, 28, 29, 37, 38, 39] (fun n vs m K => r81_L4_R call fuel base n vs m K) ?_ ?_ (fun _ _ _ => rfl)
  · intro vs m K
    unfold r81_L4_R
    split <;> rfl
  · intro n vs m K hl
    match vs, hl with
    | [x1, x2, x3, x4, x5, x6, x7, x8, x27, x28, x29, x37, x38, x39], _ => show _ = _; kernel_rfl
theorem r81_L2_lk (call : CallF) (fuel base : Nat) : LoopsOk E call (lp81 call fuel base) fuel base 2 (loopB (blockB (seqR (seqL (seqR (blockB (seqL (seqR (loopB (blockB (seqR (seqL (seqR (seqR (seqR c81))))))))))))))) = (And True (And (And True True) (And (And True (And True (LpOk E call (lp81 call fuel base) fuel base 4 (loopB (blockB (seqR (seqR (blockB (seqL (seqR (seqR (loopB (blockB (seqR (seqL (seqR (blockB (seqL (seqR (loopB (blockB (seqR (seqL (seqR (seqR (seqR c81)))))))))))))))))))))))))) True))) := by kernel_rfl
theorem r81_L2_ok (call : CallF) (fuel base : Nat) : LpOk E call (lp81 call fuel base) fuel base 2 (loopB (blockB (seqR (seqL (seqR (blockB (seqL (seqR (loopB (blockB (seqR (seqL (seqR (seqR (seqR c81))))))))))))))) := by
  refine loop_ok (kp := keep81) (hb := Eq.mpr (r81_L2_lk call fuel base) (And.intro trivial (And.intro (And.intro trivial trivial) (And.intro (And.intro trivial (And.intro trivial (r81_L4_ok call fuel base))) trivial)))) 70 [1, 2, 3, 4, 5, 6, 27, 28, 29] (fun n vs m K => r81_L2_R call fuel base n vs m K) ?_ ?_ (fun _ _ _ => rfl)
  · intro vs m K
    unfold r81_L2_R
    split <;> rfl
  · intro n vs m K hl
    match vs, hl with
    | [x1, x2, x3, x4, x5, x6, x27, x28, x29], _ => show _ = _; kernel_rfl
theorem r81_L0_lk (call : CallF) (fuel base : Nat) : LoopsOk E call (lp81 call fuel base) fuel base 0 (loopB (blockB (seqR (seqL (seqR (seqR (seqR c81))))))) = (And (And True (And True True)) (And (And True (And (And True (LpOk E call (lp81 call fuel base) fuel base 2 (loopB (blockB (seqR (seqL (seqR (blockB (seqL (seqR (loopB (blockB (seqR (seqL (seqR (seqR (seqR c81))))))))))))))))) True)) True)) := by kernel_rfl
theorem r81_L0_ok (call : CallF) (fuel base : Nat) : LpOk E call (lp81 call fuel base) fuel base 0 (loopB (blockB (seqR (seqL (seqR (seqR (seqR c81))))))) := by
  refine loop_ok (kp := keep81) (hb := Eq.mpr (r81_L0_lk call fuel base) (And.intro (And.intro trivial (And.intro trivial trivial)) (And.intro (And.intro trivial (And.intro (And.intro trivial (r81_L2_ok call fuel base)) trivial)) trivial))) 70 [1, 2, 3, 4, 5] (fun n vs m K => r81_L0_R call fuel base n vs m K) ?_ ?_ (fun _ _ _ => rfl)
  · intro vs m K
    unfold r81_L0_R
    split <;> rfl
  · intro n vs m K hl
    match vs, hl with
    | [x1, x2, x3, x4, x5], _ => show _ = _; kernel_rfl
theorem r81_eq (call : CallF) (fuel base : Nat) (x0 : Value) (m : M) : kbody E call keep81 (lp81 call fuel base) base Try.f81 [x0] m = r81 call fuel base x0 m := by
  kernel_rfl
noncomputable def rf81 : RF := fun call fuel base args m => match args with
  | [x0] => r81 call fuel base x0 m
  | _ => none
theorem r81_lk (call : CallF) (fuel base : Nat) : LoopsOk E call (lp81 call fuel base) fuel base 0 c81 = (And True (And True (And True (And (And True (LpOk E call (lp81 call fuel base) fuel base 0 (loopB (blockB (seqR (seqL (seqR (seqR (seqR c81))))))))) (And True True))))) := by kernel_rfl
theorem r81_fn : E.P.funcs[81]? = some Try.f81 := by kernel_rfl
theorem r81_body : Try.f81.body = some c81 := by kernel_rfl
theorem rf81_ok : RFok E 81 rf81 := by
  show RFok' E 81 rf81
  refine ⟨Try.f81, r81_fn, fun call fuel base args m r _ h => ?_⟩
  unfold rf81 at h
  split at h
  · rw [← r81_eq] at h
    exact kbody_sound (c := c81) r81_body (Eq.mpr (r81_lk call fuel base) (And.intro trivial (And.intro trivial (And.intro trivial (And.intro (And.intro trivial (r81_L0_ok call fuel base)) (And.intro trivial trivial)))))) h
  · simp at h
end Go.AM
namespace Go.AM
open Go Go.Proofs
noncomputable def r82 (call : CallF) (fuel base : Nat) (x0 : Value) (m : M) : Res2 :=
  (k2 (xbox m x0) fun v1_1 m => (k2 (xalloc E.P m 76) fun v2_2 m => (k1 (mfieldAddr E.P 106 v1_1 0) fun v3_3 => (k1 (xload E.P m 104 v3_3) fun v4_4 => (k1 (mfieldAddr E.P 106 v1_1 0) fun v5_5 => (k1 (xload E.P m 104 v5_5) fun v6_6 => (k2 (vcall E.P base m .len [104] [v6_6]) fun v7_7 m => (k1 (mbin E .sub 3 v7_7 (.int .i64 1)) fun v8_8 => (k1 (mindexAddr E.P 104 v4_4 v8_8) fun v9_9 => (k1 (xload E.P m 76 v9_9) fun v10_10 => (ks (xstore E.P base m 76 v2_2 v10_10) fun m => (k0 (mload E.P m 76 v2_2) fun r_11 => (fVal r_11 fun v => some (.ret v, m))))))))))))))
def keep82 : Keep := { region := fun i => ([[1, 2], [2]] : List (List Nat))[i]?, exit := fun i => ([] : List (List Nat))[i]?, ret := some [2] }
noncomputable def lp82 (call : CallF) (fuel base : Nat) : Lp := lpsel []
noncomputable def c82 : Code := Try.f82.body.getD .skip
theorem r82_eq (call : CallF) (fuel base : Nat) (x0 : Value) (m : M) : kbody E call keep82 (lp82 call fuel base) base Try.f82 [x0] m = r82 call fuel base x0 m := by
  kernel_rfl
noncomputable def rf82 : RF := fun call fuel base args m => match args with
  | [x0] => r82 call fuel base x0 m
  | _ => none
theorem r82_lk (call : CallF) (fuel base : Nat) : LoopsOk E call (lp82 call fuel base) fuel base 0 c82 = (And True (And True True)) := by kernel_rfl
theorem r82_fn : E.P.funcs[82]? = some Try.f82 := by kernel_rfl
theorem r82_body : Try.f82.body = some c82 := by kernel_rfl
theorem rf82_ok : RFok E 82 rf82 := by
  show RFok' E 82 rf82
  refine ⟨Try.f82, r82_fn, fun call fuel base args m r _ h => ?_⟩
  unfold rf82 at h
  split at h
  · rw [← r82_eq] at h
    exact kbody_sound (c := c82) r82_body (Eq.mpr (r82_lk call fuel base) (And.intro trivial (And.intro trivial trivial))) h
  · simp at h
end Go.AM
namespace Go.AM
open Go Go.Proofs
noncomputable def r83 (call : CallF) (fuel base : Nat) (x0 : Value) (x1 : Value) (x2 : Value) (m : M) : Res2 :=
  (k2 (xbox m x0) fun v3_1 m => (k2 (xbox m x1) fun v4_2 m => (k2 (xbox m x2) fun v5_3 m => (fVal (.func (.func 106) #[] #[v3_1, v4_2, v5_3]) fun v => some (.ret v, m)))))
def keep83 : Keep := { region := fun i => ([[3, 4, 5], [6]] : List (List Nat))[i]?, exit := fun i => ([] : List (List Nat))[i]?, ret := some [6] }
noncomputable def lp83 (call : CallF) (fuel base : Nat) : Lp := lpsel []
noncomputable def c83 : Code := Try.f83.body.getD .skip
theorem r83_eq (call : CallF) (fuel base : Nat) (x0 : Value) (x1 : Value) (x2 : Value) (m : M) : kbody E call keep83 (lp83 call fuel base) base Try.f83 [x0, x1, x2] m = r83 call fuel base x0 x1 x2 m := by
  kernel_rfl
noncomputable def rf83 : RF := fun call fuel base args m => match args with
  | [x0, x1, x2] => r83 call fuel base x0 x1 x2 m
  | _ => none
theorem r83_lk (call : CallF) (fuel base : Nat) : LoopsOk E call (lp83 call fuel base) fuel base 0 c83 = (And True (And True True)) := by kernel_rfl
theorem r83_fn : E.P.funcs[83]? = some Try.f83 := by kernel_rfl
theorem r83_body : Try.f83.body = some c83 := by kernel_rfl
theorem rf83_ok : RFok E 83 rf83 := by
  show RFok' E 83 rf83
  refine ⟨Try.f83, r83_fn, fun call fuel base args m r _ h => ?_⟩
  unfold rf83 at h
  split at h
  · rw [← r83_eq] at h
    exact kbody_sound (c := c83) r83_body (Eq.mpr (r83_lk call fuel base) (And.intro trivial (And.intro trivial trivial))) h
  · simp at h
end Go.AM
namespace Go.AM
open Go Go.Proofs
noncomputable def r85_L2 (call : CallF) (fuel base : Nat) (kx2 : Value → Value → Value → Value → Value → Value → M → Res2) (n : Nat) : Value → Value → Value → Value → Value → Value → Value → Value → Value → M → Res2 :=
  Nat.rec (motive := fun _ => Value → Value → Value → Value → Value → Value → Value → Value → Value → M → Res2) (fun _ _ _ _ _ _ _ _ _ _ => none)
    (fun _ ih x1 x2 x4 x5 x6 x11 x12 x16 x17 m =>
      (k1 (mbin E .lss 3 x17 x16) fun v18_11 => (kb v18_11 (kc (kB m (kv call m.length x1 [x6, x17] m)) (fun v25_12 m => (k1 (mfieldAddr E.P 79 x5 1) fun v26_13 => (k1 (mindexAddr E.P 77 v26_13 x6) fun v27_14 => (k1 (mindexAddr E.P 76 v27_14 x17) fun v28_15 => (ks (xstore E.P base m 3 v28_15 v25_12) fun m => (k1 (mbin E .add 3 x17 (.int .i64 1)) fun v29_16 => (ih x1 x2 x4 x5 x6 x11 x12 x16 v29_16 m))))))) (fun _ _ => none)) (kx2 x1 x2 x4 x5 x11 x12 m)))) n
noncomputable def r85_L0 (call : CallF) (fuel base : Nat) (kx0 : Value → Value → M → Res2) (n : Nat) : Value → Value → Value → Value → Value → Value → M → Res2 :=
  Nat.rec (motive := fun _ => Value → Value → Value → Value → Value → Value → M → Res2) (fun _ _ _ _ _ _ _ => none)
    (fun _ ih x1 x2 x4 x5 x11 x12 m =>
      (k1 (mbin E .lss 3 x12 x11) fun v13_8 => (kb v13_8 (k1 (mfieldAddr E.P 23 x2 1) fun v15_9 => (k1 (xload E.P m 3 v15_9) fun v16_10 => (r85_L2 call fuel base (fun y1_17 y2_18 y4_19 y5_20 y11_21 y12_22 m => (k1 (mbin E .add 3 y12_22 (.int .i64 1)) fun v30_23 => (ih y1_17 y2_18 y4_19 y5_20 y11_21 v30_23 m))) fuel x1 x2 x4 x5 x12 x11 x12 v16_10 (.int .i64 0) m))) (kx0 x4 x5 m)))) n
noncomputable def r85 (call : CallF) (fuel base : Nat) (x0 : Value) (x1 : Value) (m : M) : Res2 :=
  (k2 (xbox m x0) fun v2_1 m => (k2 (xalloc E.P m 79) fun v4_2 m => (k1 (xload E.P m 23 v2_1) fun v8_3 => (k1 (mbuild E.P 79 [(0, v8_3)]) fun v9_4 => (k2 (xalloc E.P m 79) fun v5_5 m => (ks (xstore E.P base m 79 v5_5 v9_4) fun m => (k1 (mfieldAddr E.P 23 v2_1 0) fun v10_6 => (k1 (xload E.P m 3 v10_6) fun v11_7 => (r85_L0 call fuel base (fun y4_24 y5_25 m => (k1 (xload E.P m 79 y5_25) fun v31_26 => (ks (xstore E.P base m 79 y4_24 v31_26) fun m => (k0 (mload E.P m 79 y4_24) fun r_27 => (fVal r_27 fun v => some (.ret v, m)))))) fuel x1 v2_1 v4_2 v5_5 v11_7 (.int .i64 0) m)))))))))
def keep85 : Keep := { region := fun i => ([[1, 2, 4], [1, 2, 4, 5], [1, 2, 4, 5, 11, 12], [1, 2, 4, 5, 11, 12, 13], [1, 2, 4, 5, 6, 11, 12], [1, 2, 4, 5, 6, 11, 12, 16, 17], [1, 2, 4, 5, 6, 11, 12, 16, 17, 18], [1, 2, 4, 5, 6, 7, 11, 12, 16, 17], [1, 2, 4, 5, 6, 11, 12, 16, 17], [1, 2, 4, 5, 6, 11, 12, 16, 17], [1, 2, 4, 5, 11, 12], [4]] : List (List Nat))[i]?, exit := fun i => ([[4, 5], [1, 2, 4, 5, 11, 12], [1, 2, 4, 5, 11, 12], [1, 2, 4, 5, 6, 11, 12, 16, 17]] : List (List Nat))[i]?, ret := some [4] }
noncomputable def r85_L2_R (call : CallF) (fuel base n : Nat) (vs : List Value) (m : M) (K : KT) : Res2 := match vs with
  | [x1, x2, x4, x5, x6, x11, x12, x16, x17] => r85_L2 call fuel base (fun y1 y2 y4 y5 y11 y12 m => K (.exit 2) { n := 32, l := [(1, y1), (2, y2), (4, y4), (5, y5), (11, y11), (12, y12)] } m) n x1 x2 x4 x5 x6 x11 x12 x16 x17 m
  | _ => none
noncomputable def r85_L0_R (call : CallF) (fuel base n : Nat) (vs : List Value) (m : M) (K : KT) : Res2 := match vs with
  | [x1, x2, x4, x5, x11, x12] => r85_L0 call fuel base (fun y4 y5 m => K (.exit 0) { n := 32, l := [(4, y4), (5, y5)] } m) n x1 x2 x4 x5 x11 x12 m
  | _ => none
noncomputable def lp85 (call : CallF) (fuel base : Nat) : Lp := lpsel [(2, fun T m K => kslots 32 [1, 2, 4, 5, 6, 11, 12, 16, 17] T fun vs => r85_L2_R call fuel base fuel vs m K), (0, fun T m K => kslots 32 [1, 2, 4, 5, 11, 12] T fun vs => r85_L0_R call fuel base fuel vs m K)]
noncomputable def c85 : Code := Try.f85.body.getD .skip
theorem r85_L2_lk (call : CallF) (fuel base : Nat) : LoopsOk E call (lp85 call fuel base) fuel base 2 (loopB (blockB (seqR (seqR (blockB (seqL (seqR (seqR (loopB (blockB (seqR (seqL (seqR (seqR c85)))))))))))))) = (And True (And (And True True) (And (And True True) True))) := by kernel_rfl
theorem r85_L2_ok (call : CallF) (fuel base : Nat) : LpOk E call (lp85 call fuel base) fuel base 2 (loopB (blockB (seqR (seqR (blockB (seqL (seqR (seqR (loopB (blockB (seqR (seqL (seqR (seqR c85)))))))))))))) := by
  refine loop_ok (kp := keep85) (hb := Eq.mpr (r85_L2_lk call fuel base) (And.intro trivial (And.intro (And.intro trivial trivial) (And.intro (And.intro trivial trivial) trivial)))) 32 [1, 2, 4, 5, 6, 11, 12, 16, 17] (fun n vs m K => r85_L2_R call fuel base n vs m K) ?_ ?_ (fun _ _ _ => rfl)
  · intro vs m K
    unfold r85_L2_R
    split <;> rfl
  · intro n vs m K hl
    match vs, hl with
    | [x1, x2, x4, x5, x6, x11, x12, x16, x17], _ => show _ = _; kernel_rfl
theorem r85_L0_lk (call : CallF) (fuel base : Nat) : LoopsOk E call (lp85 call fuel base) fuel base 0 (loopB (blockB (seqR (seqL (seqR (seqR c85)))))) = (And True (And (And True True) (And (And True (And True (LpOk E call (lp85 call fuel base) fuel base 2 (loopB (blockB (seqR (seqR (blockB (seqL (seqR (seqR (loopB (blockB (seqR (seqL (seqR (seqR c85))))))))))))))))) True))) := by kernel_rfl
theorem r85_L0_ok (call : CallF) (fuel base : Nat) : LpOk E call (lp85 call fuel base) fuel base 0 (loopB (blockB (seqR (seqL (seqR (seqR c85)))))) := by
  refine loop_ok (kp := keep85) (hb := Eq.mpr (r85_L0_lk call fuel base) (And.intro trivial (And.intro (And.intro trivial trivial) (And.intro (And.intro trivial (And.intro trivial (r85_L2_ok call fuel base))) trivial)))) 32 [1, 2, 4, 5, 11, 12] (fun n vs m K => r85_L0_R call fuel base n vs m K) ?_ ?_ (fun _ _ _ => rfl)
  · intro vs m K
    unfold r85_L0_R
    split <;> rfl
  · intro n vs m K hl
    match vs, hl with
    | [x1, x2, x4, x5, x11, x12], _ => show _ = _; kernel_rfl
theorem r85_eq (call : CallF) (fuel base : Nat) (x0 : Value) (x1 : Value) (m : M) : kbody E call keep85 (lp85 call fuel base) base Try.f85 [x0, x1] m = r85 call fuel base x0 x1 m := by
  kernel_rfl
noncomputable def rf85 : RF := fun call fuel base args m => match args with
  | [x0, x1] => r85 call fuel base x0 x1 m
  | _ => none
theorem r85_lk (call : CallF) (fuel base : Nat) : LoopsOk E call (lp85 call fuel base) fuel base 0 c85 = (And True (And True (And (And True (LpOk E call (lp85 call fuel base) fuel base 0 (loopB (blockB (seqR (seqL (seqR (seqR c85)))))))) (And True True)))) := by kernel_rfl
theorem r85_fn : E.P.funcs[85]? = some Try.f85 := by kernel_rfl
theorem r85_body : Try.f85.body = some c85 := by kernel_rfl
theorem rf85_ok : RFok E 85 rf85 := by
  show RFok' E 85 rf85
  refine ⟨Try.f85, r85_fn, fun call fuel base args m r _ h => ?_⟩
  unfold rf85 at h
  split at h
  · rw [← r85_eq] at h
    exact kbody_sound (c := c85) r85_body (Eq.mpr (r85_lk call fuel base) (And.intro trivial (And.intro trivial (And.intro (And.intro trivial (r85_L0_ok call fuel base)) (And.intro trivial trivial))))) h
  · simp at h
end Go.AM
namespace Go.AM
open Go Go.Proofs
noncomputable def r86 (call : CallF) (fuel base : Nat) (x0 : Value) (x1 : Value) (x2 : Value) (x3 : Value) (m : M) : Res2 :=
  (k1 (mfieldAddr E.P 23 x2 2) fun v7_1 => (k1 (xload E.P m 3 v7_1) fun v8_2 => (k1 (mfieldAddr E.P 23 x2 0) fun v9_3 => (k1 (xload E.P m 3 v9_3) fun v10_4 => (k1 (mbin E .sub 3 v10_4 (.int .i64 1)) fun v11_5 => (k1 (mbin E .sub 3 v11_5 x0) fun v13_6 => (k1 (mfieldAddr E.P 23 x2 1) fun v14_7 => (k1 (xload E.P m 3 v14_7) fun v15_8 => (k1 (mbin E .sub 3 v15_8 (.int .i64 1)) fun v16_9 => (k1 (mbin E .sub 3 v16_9 x1) fun v18_10 => (k1 (mfieldAddr E.P 79 x3 1) fun v19_11 => (k1 (mindexAddr E.P 77 v19_11 v13_6) fun v20_12 => (k1 (mindexAddr E.P 76 v20_12 v18_10) fun v21_13 => (k1 (xload E.P m 3 v21_13) fun v22_14 => (k1 (mbin E .sub 3 v8_2 v22_14) fun v23_15 => (fVal v23_15 fun v => some (.ret v, m)))))))))))))))))
def keep86 : Keep := { region := fun i => ([[0, 1, 2, 3], [6]] : List (List Nat))[i]?, exit := fun i => ([] : List (List Nat))[i]?, ret := some [6] }
noncomputable def lp86 (call : CallF) (fuel base : Nat) : Lp := lpsel []
noncomputable def c86 : Code := Try.f86.body.getD .skip
theorem r86_eq (call : CallF) (fuel base : Nat) (x0 : Value) (x1 : Value) (x2 : Value) (x3 : Value) (m : M) : kbody E call keep86 (lp86 call fuel base) base Try.f86 [x0, x1, x2, x3] m = r86 call fuel base x0 x1 x2 x3 m := by
  kernel_rfl
noncomputable def rf86 : RF := fun call fuel base args m => match args with
  | [x0, x1, x2, x3] => r86 call fuel base x0 x1 x2 x3 m
  | _ => none
theorem r86_lk (call : CallF) (fuel base : Nat) : LoopsOk E call (lp86 call fuel base) fuel base 0 c86 = (And True (And True True)) := by kernel_rfl
theorem r86_fn : E.P.funcs[86]? = some Try.f86 := by kernel_rfl
theorem r86_body : Try.f86.body = some c86 := by kernel_rfl
theorem rf86_ok : RFok E 86 rf86 := by
  show RFok' E 86 rf86
  refine ⟨Try.f86, r86_fn, fun call fuel base args m r _ h => ?_⟩
  unfold rf86 at h
  split at h
  · rw [← r86_eq] at h
    exact kbody_sound (c := c86) r86_body (Eq.mpr (r86_lk call fuel base) (And.intro trivial (And.intro trivial trivial))) h
  · simp at h
end Go.AM
namespace Go.AM
open Go Go.Proofs
noncomputable def r87 (call : CallF) (fuel base : Nat) (x0 : Value) (x1 : Value) (x2 : Value) (m : M) : Res2 :=
  (k1 (mfieldAddr E.P 79 x2 1) fun v8_1 => (k1 (mindexAddr E.P 77 v8_1 x1) fun v9_2 => (k1 (mindexAddr E.P 76 v9_2 x0) fun v10_3 => (k1 (xload E.P m 3 v10_3) fun v11_4 => (fVal v11_4 fun v => some (.ret v, m))))))
def keep87 : Keep := { region := fun i => ([[0, 1, 2], [5]] : List (List Nat))[i]?, exit := fun i => ([] : List (List Nat))[i]?, ret := some [5] }
noncomputable def lp87 (call : CallF) (fuel base : Nat) : Lp := lpsel []
noncomputable def c87 : Code := Try.f87.body.getD .skip
theorem r87_eq (call : CallF) (fuel base : Nat) (x0 : Value) (x1 : Value) (x2 : Value) (m : M) : kbody E call keep87 (lp87 call fuel base) base Try.f87 [x0, x1, x2] m = r87 call fuel base x0 x1 x2 m := by
  kernel_rfl
noncomputable def rf87 : RF := fun call fuel base args m => match args with
  | [x0, x1, x2] => r87 call fuel base x0 x1 x2 m
  | _ => none
theorem r87_lk (call : CallF) (fuel base : Nat) : LoopsOk E call (lp87 call fuel base) fuel base 0 c87 = (And True (And True True)) := by kernel_rfl
theorem r87_fn : E.P.funcs[87]? = some Try.f87 := by kernel_rfl
theorem r87_body : Try.f87.body = some c87 := by kernel_rfl
theorem rf87_ok : RFok E 87 rf87 := by
  show RFok' E 87 rf87
  refine ⟨Try.f87, r87_fn, fun call fuel base args m r _ h => ?_⟩
  unfold rf87 at h
  split at h
  · rw [← r87_eq] at h
    exact kbody_sound (c := c87) r87_body (Eq.mpr (r87_lk call fuel base) (And.intro trivial (And.intro trivial trivial))) h
  · simp at h
end Go.AM
namespace Go.AM
open Go Go.Proofs
noncomputable def r88 (call : CallF) (fuel base : Nat) (x0 : Value) (x1 : Value) (x2 : Value) (m : M) : Res2 :=
  (k1 (mfieldAddr E.P 79 x2 1) fun v7_1 => (k1 (mindexAddr E.P 77 v7_1 x1) fun v8_2 => (k1 (xload E.P m 76 v8_2) fun v9_3 => (kc (call base 89 [v9_3, x0] m) (fun v11_4 m => (fVal v11_4 fun v => some (.ret v, m))) (fun v m => some (.pan v, m))))))
def keep88 : Keep := { region := fun i => ([[0, 1, 2], [5]] : List (List Nat))[i]?, exit := fun i => ([] : List (List Nat))[i]?, ret := some [5] }
noncomputable def lp88 (call : CallF) (fuel base : Nat) : Lp := lpsel []
noncomputable def c88 : Code := Try.f88.body.getD .skip
theorem r88_eq (call : CallF) (fuel base : Nat) (x0 : Value) (x1 : Value) (x2 : Value) (m : M) : kbody E call keep88 (lp88 call fuel base) base Try.f88 [x0, x1, x2] m = r88 call fuel base x0 x1 x2 m := by
  kernel_rfl
noncomputable def rf88 : RF := fun call fuel base args m => match args with
  | [x0, x1, x2] => r88 call fuel base x0 x1 x2 m
  | _ => none
theorem r88_lk (call : CallF) (fuel base : Nat) : LoopsOk E call (lp88 call fuel base) fuel base 0 c88 = (And True (And True True)) := by kernel_rfl
theorem r88_fn : E.P.funcs[88]? = some Try.f88 := by kernel_rfl
theorem r88_body : Try.f88.body = some c88 := by kernel_rfl
theorem rf88_ok : RFok E 88 rf88 := by
  show RFok' E 88 rf88
  refine ⟨Try.f88, r88_fn, fun call fuel base args m r _ h => ?_⟩
  unfold rf88 at h
  split at h
  · rw [← r88_eq] at h
    exact kbody_sound (c := c88) r88_body (Eq.mpr (r88_lk call fuel base) (And.intro trivial (And.intro trivial trivial))) h
  · simp at h
end Go.AM
namespace Go.AM
open Go Go.Proofs
noncomputable def r89_L0 (call : CallF) (fuel base : Nat) (kx0 : Value → M → Res2) (n : Nat) : Value → Value → Value → Value → M → Res2 :=
  Nat.rec (motive := fun _ => Value → Value → Value → Value → M → Res2) (fun _ _ _ _ _ => none)
    (fun _ ih x1 x5 x8 x9 m =>
      (k1 (mbin E .lss 3 x9 (.int .i64 4)) fun v10_3 => (kb v10_3 (k1 (mindex E.P 76 x8 x9) fun v11_4 => (k1 (mbin E .gtr 3 v11_4 x1) fun v14_5 => (kb v14_5 (k1 (mbin E .add 3 x5 (.int .i64 1)) fun v16_6 => (k1 (mbin E .add 3 x9 (.int .i64 1)) fun v17_7 => (ih x1 v16_6 x8 v17_7 m))) (k1 (mbin E .add 3 x9 (.int .i64 1)) fun v17_8 => (ih x1 x5 x8 v17_8 m))))) (kx0 x5 m)))) n
noncomputable def r89 (call : CallF) (fuel base : Nat) (x0 : Value) (x1 : Value) (m : M) : Res2 :=
  (k2 (xbox m x0) fun v2_1 m => (k1 (xload E.P m 76 v2_1) fun v8_2 => (r89_L0 call fuel base (fun y5_9 m => (fVal y5_9 fun v => some (.ret v, m))) fuel x1 (.int .i64 0) v8_2 (.int .i64 0) m)))
def keep89 : Keep := { region := fun i => ([[1, 2], [1, 2, 5], [1, 5, 8, 9], [1, 5, 8, 9, 10], [1, 5, 7, 8, 9], [1, 5, 8, 9, 14], [1, 5, 8, 9], [1, 5, 8, 9], [4]] : List (List Nat))[i]?, exit := fun i => ([[5], [1, 5, 8, 9]] : List (List Nat))[i]?, ret := some [4] }
noncomputable def r89_L0_R (call : CallF) (fuel base n : Nat) (vs : List Value) (m : M) (K : KT) : Res2 := match vs with
  | [x1, x5, x8, x9] => r89_L0 call fuel base (fun y5 m => K (.exit 0) { n := 19, l := [(5, y5)] } m) n x1 x5 x8 x9 m
  | _ => none
noncomputable def lp89 (call : CallF) (fuel base : Nat) : Lp := lpsel [(0, fun T m K => kslots 19 [1, 5, 8, 9] T fun vs => r89_L0_R call fuel base fuel vs m K)]
noncomputable def c89 : Code := Try.f89.body.getD .skip
theorem r89_L0_lk (call : CallF) (fuel base : Nat) : LoopsOk E call (lp89 call fuel base) fuel base 0 (loopB (blockB (seqR (seqL (seqR (seqR c89)))))) = (And True (And (And True True) (And (And True (And True (And True True))) True))) := by kernel_rfl
theorem r89_L0_ok (call : CallF) (fuel base : Nat) : LpOk E call (lp89 call fuel base) fuel base 0 (loopB (blockB (seqR (seqL (seqR (seqR c89)))))) := by
  refine loop_ok (kp := keep89) (hb := Eq.mpr (r89_L0_lk call fuel base) (And.intro trivial (And.intro (And.intro trivial trivial) (And.intro (And.intro trivial (And.intro trivial (And.intro trivial trivial))) trivial)))) 19 [1, 5, 8, 9] (fun n vs m K => r89_L0_R call fuel base n vs m K) ?_ ?_ (fun _ _ _ => rfl)
  · intro vs m K
    unfold r89_L0_R
    split <;> rfl
  · intro n vs m K hl
    match vs, hl with
    | [x1, x5, x8, x9], _ => show _ = _; kernel_rfl
theorem r89_eq (call : CallF) (fuel base : Nat) (x0 : Value) (x1 : Value) (m : M) : kbody E call keep89 (lp89 call fuel base) base Try.f89 [x0, x1] m = r89 call fuel base x0 x1 m := by
  kernel_rfl
noncomputable def rf89 : RF := fun call fuel base args m => match args with
  | [x0, x1] => r89 call fuel base x0 x1 m
  | _ => none
theorem r89_lk (call : CallF) (fuel base : Nat) : LoopsOk E call (lp89 call fuel base) fuel base 0 c89 = (And True (And True (And (And True (LpOk E call (lp89 call fuel base) fuel base 0 (loopB (blockB (seqR (seqL (seqR (seqR c89)))))))) (And True True)))) := by kernel_rfl
theorem r89_fn : E.P.funcs[89]? = some Try.f89 := by kernel_rfl
theorem r89_body : Try.f89.body = some c89 := by kernel_rfl
theorem rf89_ok : RFok E 89 rf89 := by
  show RFok' E 89 rf89
  refine ⟨Try.f89, r89_fn, fun call fuel base args m r _ h => ?_⟩
  unfold rf89 at h
  split at h
  · rw [← r89_eq] at h
    exact kbody_sound (c := c89) r89_body (Eq.mpr (r89_lk call fuel base) (And.intro trivial (And.intro trivial (And.intro (And.intro trivial (r89_L0_ok call fuel base)) (And.intro trivial trivial))))) h
  · simp at h
end Go.AM
namespace Go.AM
open Go Go.Proofs
noncomputable def r95 (call : CallF) (fuel base : Nat) (x0 : Value) (m : M) : Res2 :=
  (k2 (xbox m x0) fun v1_1 m => (k2 (xalloc E.P m 79) fun v2_2 m => (k1 (xload E.P m 79 v1_1) fun v3_3 => (ks (xstore E.P base m 79 v2_2 v3_3) fun m => (k0 (mload E.P m 79 v2_2) fun r_4 => (fVal r_4 fun v => some (.ret v, m)))))))
def keep95 : Keep := { region := fun i => ([[1, 2], [2]] : List (List Nat))[i]?, exit := fun i => ([] : List (List Nat))[i]?, ret := some [2] }
noncomputable def lp95 (call : CallF) (fuel base : Nat) : Lp := lpsel []
noncomputable def c95 : Code := Try.f95.body.getD .skip
theorem r95_eq (call : CallF) (fuel base : Nat) (x0 : Value) (m : M) : kbody E call keep95 (lp95 call fuel base) base Try.f95 [x0] m = r95 call fuel base x0 m := by
  kernel_rfl
noncomputable def rf95 : RF := fun call fuel base args m => match args with
  | [x0] => r95 call fuel base x0 m
  | _ => none
theorem r95_lk (call : CallF) (fuel base : Nat) : LoopsOk E call (lp95 call fuel base) fuel base 0 c95 = (And True (And True True)) := by kernel_rfl
theorem r95_fn : E.P.funcs[95]? = some Try.f95 := by kernel_rfl
theorem r95_body : Try.f95.body = some c95 := by kernel_rfl
theorem rf95_ok : RFok E 95 rf95 := by
  show RFok' E 95 rf95
  refine ⟨Try.f95, r95_fn, fun call fuel base args m r _ h => ?_⟩
  unfold rf95 at h
  split at h
  · rw [← r95_eq] at h
    exact kbody_sound (c := c95) r95_body (Eq.mpr (r95_lk call fuel base) (And.intro trivial (And.intro trivial trivial))) h
  · simp at h
end Go.AM
namespace Go.AM
open Go Go.Proofs
noncomputable def r96 (call : CallF) (fuel base : Nat) (x0 : Value) (m : M) : Res2 :=
  (k2 (xbox m x0) fun v1_1 m => (k2 (xalloc E.P m 79) fun v2_2 m => (k1 (xload E.P m 79 v1_1) fun v3_3 => (kc (call base 63 [v3_3] m) (fun v4_4 m => (kc (call base 62 [v4_4] m) (fun v5_5 m => (ks (xstore E.P base m 79 v2_2 v5_5) fun m => (k0 (mload E.P m 79 v2_2) fun r_6 => (fVal r_6 fun v => some (.ret v, m))))) (fun v m => some (.pan v, m)))) (fun v m => some (.pan v, m))))))
def keep96 : Keep := { region := fun i => ([[1, 2], [2]] : List (List Nat))[i]?, exit := fun i => ([] : List (List Nat))[i]?, ret := some [2] }
noncomputable def lp96 (call : CallF) (fuel base : Nat) : Lp := lpsel []
noncomputable def c96 : Code := Try.f96.body.getD .skip
theorem r96_eq (call : CallF) (fuel base : Nat) (x0 : Value) (m : M) : kbody E call keep96 (lp96 call fuel base) base Try.f96 [x0] m = r96 call fuel base x0 m := by
  kernel_rfl
noncomputable def rf96 : RF := fun call fuel base args m => match args with
  | [x0] => r96 call fuel base x0 m
  | _ => none
theorem r96_lk (call : CallF) (fuel base : Nat) : LoopsOk E call (lp96 call fuel base) fuel base 0 c96 = (And True (And True True)) := by kernel_rfl
theorem r96_fn : E.P.funcs[96]? = some Try.f96 := by kernel_rfl
theorem r96_body : Try.f96.body = some c96 := by kernel_rfl
theorem rf96_ok : RFok E 96 rf96 := by
  show RFok' E 96 rf96
  refine ⟨Try.f96, r96_fn, fun call fuel base args m r _ h => ?_⟩
  unfold rf96 at h
  split at h
  · rw [← r96_eq] at h
    exact kbody_sound (c := c96) r96_body (Eq.mpr (r96_lk call fuel base) (And.intro trivial (And.intro trivial trivial))) h
  · simp at h
end Go.AM
namespace Go.AM
open Go Go.Proofs
noncomputable def r97 (call : CallF) (fuel base : Nat) (m : M) : Res2 :=
  (k2 (xalloc E.P m 120) fun v0_1 m => (k1 (mbuild E.P 120 [(0, (.func (.func 111) #[] #[])), (1, (.func (.func 112) #[] #[])), (2, (.func (.func 113) #[] #[]))]) fun v1_2 => (ks (xstore E.P base m 120 v0_1 v1_2) fun m => (k0 (mload E.P m 120 v0_1) fun r_3 => (fVal r_3 fun v => some (.ret v, m))))))
def keep97 : Keep := { region := fun i => ([[0], [0]] : List (List Nat))[i]?, exit := fun i => ([] : List (List Nat))[i]?, ret := some [0] }
noncomputable def lp97 (call : CallF) (fuel base : Nat) : Lp := lpsel []
noncomputable def c97 : Code := Try.f97.body.getD .skip
theorem r97_eq (call : CallF) (fuel base : Nat) (m : M) : kbody E call keep97 (lp97 call fuel base) base Try.f97 [] m = r97 call fuel base  m := by
  kernel_rfl
noncomputable def rf97 : RF := fun call fuel base args m => match args with
  | [] => r97 call fuel base  m
  | _ => none
theorem r97_lk (call : CallF) (fuel base : Nat) : LoopsOk E call (lp97 call fuel base) fuel base 0 c97 = (And True (And True True)) := by kernel_rfl
theorem r97_fn : E.P.funcs[97]? = some Try.f97 := by kernel_rfl
theorem r97_body : Try.f97.body = some c97 := by kernel_rfl
theorem rf97_ok : RFok E 97 rf97 := by
  show RFok' E 97 rf97
  refine ⟨Try.f97, r97_fn, fun call fuel base args m r _ h => ?_⟩
  unfold rf97 at h
  split at h
  · rw [← r97_eq] at h
    exact kbody_sound (c := c97) r97_body (Eq.mpr (r97_lk call fuel base) (And.intro trivial (And.intro trivial trivial))) h
  · simp at h
end Go.AM
namespace Go.AM
open Go Go.Proofs
noncomputable def r98_L0 (call : CallF) (fuel base : Nat) (kr : Value → M → Res2) (kx0 : M → Res2) (n : Nat) : Value → Value → Value → M → Res2 :=
  Nat.rec (motive := fun _ => Value → Value → Value → M → Res2) (fun _ _ _ _ => none)
    (fun _ ih x0 x1 x5 m =>
      (k2 (vcall E.P base m .len [33] [x0]) fun v9_1 m => (k1 (mbin E .lss 3 x5 v9_1) fun v10_2 => (kb v10_2 (k1 (mindexAddr E.P 33 x0 x5) fun v15_3 => (k1 (xload E.P m 27 v15_3) fun v16_4 => (k1 (mindexAddr E.P 27 v16_4 x1) fun v18_5 => (k1 (xload E.P m 3 v18_5) fun v19_6 => (k1 (mbin E .neq 3 v19_6 (.int .i64 0)) fun v20_7 => (kb v20_7 (kr x5 m) (k1 (mbin E .add 3 x5 (.int .i64 1)) fun v12_8 => (ih x0 x1 v12_8 m)))))))) (kx0 m))))) n
noncomputable def r98 (call : CallF) (fuel base : Nat) (x0 : Value) (x1 : Value) (m : M) : Res2 :=
  (r98_L0 call fuel base (fun y4_9 m => (fVal y4_9 fun v => some (.ret v, m))) (fun m => (fVal (.int .i64 (-1)) fun v => some (.ret v, m))) fuel x0 x1 x1 m)
def keep98 : Keep := { region := fun i => ([[0, 1], [0, 1, 5], [0, 1, 5, 10], [0, 1, 5], [0, 1, 5, 20], [4], [4]] : List (List Nat))[i]?, exit := fun i => ([[], [0, 1, 5]] : List (List Nat))[i]?, ret := some [4] }
noncomputable def r98_L0_R (call : CallF) (fuel base n : Nat) (vs : List Value) (m : M) (K : KT) : Res2 := match vs with
  | [x0, x1, x5] => r98_L0 call fuel base (fun y4 m => K .ret { n := 22, l := [(4, y4)] } m) (fun m => K (.exit 0) { n := 22, l := [] } m) n x0 x1 x5 m
  | _ => none
noncomputable def lp98 (call : CallF) (fuel base : Nat) : Lp := lpsel [(0, fun T m K => kslots 22 [0, 1, 5] T fun vs => r98_L0_R call fuel base fuel vs m K)]
noncomputable def c98 : Code := Try.f98.body.getD .skip
theorem r98_L0_lk (call : CallF) (fuel base : Nat) : LoopsOk E call (lp98 call fuel base) fuel base 0 (loopB (blockB (seqR (seqL (seqR c98))))) = (And (And True (And True True)) (And (And True (And (And True True) True)) True)) := by kernel_rfl
theorem r98_L0_ok (call : CallF) (fuel base : Nat) : LpOk E call (lp98 call fuel base) fuel base 0 (loopB (blockB (seqR (seqL (seqR c98))))) := by
  refine loop_ok (kp := keep98) (hb := Eq.mpr (r98_L0_lk call fuel base) (And.intro (And.intro trivial (And.intro trivial trivial)) (And.intro (And.intro trivial (And.intro (And.intro trivial trivial) trivial)) trivial))) 22 [0, 1, 5] (fun n vs m K => r98_L0_R call fuel base n vs m K) ?_ ?_ (fun _ _ _ => rfl)
  · intro vs m K
    unfold r98_L0_R
    split <;> rfl
  · intro n vs m K hl
    match vs, hl with
    | [x0, x1, x5], _ => show _ = _; kernel_rfl
theorem r98_eq (call : CallF) (fuel base : Nat) (x0 : Value) (x1 : Value) (m : M) : kbody E call keep98 (lp98 call fuel base) base Try.f98 [x0, x1] m = r98 call fuel base x0 x1 m := by
  kernel_rfl
noncomputable def rf98 : RF := fun call fuel base args m => match args with
  | [x0, x1] => r98 call fuel base x0 x1 m
  | _ => none
theorem r98_lk (call : CallF) (fuel base : Nat) : LoopsOk E call (lp98 call fuel base) fuel base 0 c98 = (And True (And (And True (LpOk E call (lp98 call fuel base) fuel base 0 (loopB (blockB (seqR (seqL (seqR c98))))))) (And True True))) := by kernel_rfl
theorem r98_fn : E.P.funcs[98]? = some Try.f98 := by kernel_rfl
theorem r98_body : Try.f98.body = some c98 := by kernel_rfl
theorem rf98_ok : RFok E 98 rf98 := by
  show RFok' E 98 rf98
  refine ⟨Try.f98, r98_fn, fun call fuel base args m r _ h => ?_⟩
  unfold rf98 at h
  split at h
  · rw [← r98_eq] at h
    exact kbody_sound (c := c98) r98_body (Eq.mpr (r98_lk call fuel base) (And.intro trivial (And.intro (And.intro trivial (r98_L0_ok call fuel base)) (And.intro trivial trivial)))) h
  · simp at h
end Go.AM
namespace Go.AM
open Go Go.Proofs
noncomputable def r99_L2 (call : CallF) (fuel base : Nat) (kx2 : Value → Value → Value → Value → Value → M → Res2) (n : Nat) : Value → Value → Value → Value → Value → Value → M → Res2 :=
  Nat.rec (motive := fun _ => Value → Value → Value → Value → Value → Value → M → Res2) (fun _ _ _ _ _ _ _ => none)
    (fun _ ih x0 x1 x2 x7 x8 x9 m =>
      (k2 (vcall E.P base m .len [33] [x0]) fun v23_6 m => (k1 (mbin E .lss 3 x9 v23_6) fun v24_7 => (kb v24_7 (k1 (mfieldAddr E.P 120 x7 1) fun v27_8 => (k1 (xload E.P m 56 v27_8) fun v28_9 => (k1 (mfieldAddr E.P 120 x7 0) fun v29_10 => (k1 (xload E.P m 56 v29_10) fun v30_11 => (k1 (mindexAddr E.P 33 x0 x1) fun v33_12 => (k1 (xload E.P m 27 v33_12) fun v34_13 => (k1 (mindexAddr E.P 27 v34_13 x1) fun v36_14 => (k1 (xload E.P m 3 v36_14) fun v37_15 => (k1 (mindexAddr E.P 33 x0 x8) fun v40_16 => (k1 (xload E.P m 27 v40_16) fun v41_17 => (k1 (mindexAddr E.P 27 v41_17 x9) fun v43_18 => (k1 (xload E.P m 3 v43_18) fun v44_19 => (kc (kB m (kv call m.length v30_11 [v37_15, v44_19] m)) (fun v45_20 m => (k1 (mfieldAddr E.P 120 x7 0) fun v46_21 => (k1 (xload E.P m 56 v46_21) fun v47_22 => (k1 (mindexAddr E.P 33 x0 x8) fun v50_23 => (k1 (xload E.P m 27 v50_23) fun v51_24 => (k1 (mindexAddr E.P 27 v51_24 x1) fun v53_25 => (k1 (xload E.P m 3 v53_25) fun v54_26 => (k1 (mindexAddr E.P 33 x0 x1) fun v57_27 => (k1 (xload E.P m 27 v57_27) fun v58_28 => (k1 (mindexAddr E.P 27 v58_28 x9) fun v60_29 => (k1 (xload E.P m 3 v60_29) fun v61_30 => (kc (kB m (kv call m.length v47_22 [v54_26, v61_30] m)) (fun v62_31 m => (kc (kB m (kv call m.length v28_9 [v45_20, v62_31] m)) (fun v63_32 m => (k1 (mindexAddr E.P 33 x0 x8) fun v66_33 => (k1 (xload E.P m 27 v66_33) fun v67_34 => (k1 (mfieldAddr E.P 120 x7 2) fun v69_35 => (k1 (xload E.P m 56 v69_35) fun v70_36 => (kc (kB m (kv call m.length v70_36 [v63_32, x2] m)) (fun v73_37 m => (k1 (mindexAddr E.P 27 v67_34 x9) fun v74_38 => (ks (xstore E.P base m 3 v74_38 v73_37) fun m => (k1 (mbin E .add 3 x9 (.int .i64 1)) fun v26_39 => (ih x0 x1 x2 x7 x8 v26_39 m))))) (fun _ _ => none))))))) (fun _ _ => none))) (fun _ _ => none))))))))))))) (fun _ _ => none)))))))))))))) (kx2 x0 x1 x2 x7 x8 m))))) n
noncomputable def r99_L0 (call : CallF) (fuel base : Nat) (kx0 : M → Res2) (n : Nat) : Value → Value → Value → Value → Value → M → Res2 :=
  Nat.rec (motive := fun _ => Value → Value → Value → Value → Value → M → Res2) (fun _ _ _ _ _ _ => none)
    (fun _ ih x0 x1 x2 x7 x8 m =>
      (k2 (vcall E.P base m .len [33] [x0]) fun v15_3 m => (k1 (mbin E .lss 3 x8 v15_3) fun v16_4 => (kb v16_4 (k1 (mbin E .add 3 x1 (.int .i64 1)) fun v20_5 => (r99_L2 call fuel base (fun y0_40 y1_41 y2_42 y7_43 y8_44 m => (k1 (mbin E .add 3 y8_44 (.int .i64 1)) fun v18_45 => (ih y0_40 y1_41 y2_42 y7_43 v18_45 m))) fuel x0 x1 x2 x7 x8 v20_5 m)) (kx0 m))))) n
noncomputable def r99 (call : CallF) (fuel base : Nat) (x0 : Value) (x1 : Value) (x2 : Value) (x3 : Value) (m : M) : Res2 :=
  (k2 (xbox m x3) fun v7_1 m => (k1 (mbin E .add 3 x1 (.int .i64 1)) fun v12_2 => (r99_L0 call fuel base (fun m => (some (.ret (.tuple #[]), m))) fuel x0 x1 x2 v7_1 v12_2 m)))
def keep99 : Keep := { region := fun i => ([[0, 1, 2, 7], [0, 1, 2, 7, 8], [0, 1, 2, 7, 8, 16], [0, 1, 2, 7, 8], [0, 1, 2, 7, 8, 9], [0, 1, 2, 7, 8, 9, 24], [0, 1, 2, 7, 8, 9], [0, 1, 2, 7, 8, 9, 10], [0, 1, 2, 7, 8, 9]] : List (List Nat))[i]?, exit := fun i => ([[], [0, 1, 2, 7, 8], [0, 1, 2, 7, 8], [0, 1, 2, 7, 8, 9]] : List (List Nat))[i]?, ret := some [] }
noncomputable def r99_L2_R (call : CallF) (fuel base n : Nat) (vs : List Value) (m : M) (K : KT) : Res2 := match vs with
  | [x0, x1, x2, x7, x8, x9] => r99_L2 call fuel base (fun y0 y1 y2 y7 y8 m => K (.exit 2) { n := 75, l := [(0, y0), (1, y1), (2, y2), (7, y7), (8, y8)] } m) n x0 x1 x2 x7 x8 x9 m
  | _ => none
noncomputable def r99_L0_R (call : CallF) (fuel base n : Nat) (vs : List Value) (m : M) (K : KT) : Res2 := match vs with
  | [x0, x1, x2, x7, x8] => r99_L0 call fuel base (fun m => K (.exit 0) { n := 75, l := [] } m) n x0 x1 x2 x7 x8 m
  | _ => none
noncomputable def lp99 (call : CallF) (fuel base : Nat) : Lp := lpsel [(2, fun T m K => kslots 75 [0, 1, 2, 7, 8, 9] T fun vs => r99_L2_R call fuel base fuel vs m K), (0, fun T m K => kslots 75 [0, 1, 2, 7, 8] T fun vs => r99_L0_R call fuel base fuel vs m K)]
noncomputable def c99 : Code := Try.f99.body.getD .skip
theorem r99_L2_lk (call : CallF) (fuel base : Nat) : LoopsOk E call (lp99 call fuel base) fuel base 2 (loopB (blockB (seqR (blockB (seqL (seqR (loopB (blockB (seqR (seqR c99)))))))))) = (And (And True (And True True)) (And (And True True) True)) := by kernel_rfl
theorem r99_L2_ok (call : CallF) (fuel base : Nat) : LpOk E call (lp99 call fuel base) fuel base 2 (loopB (blockB (seqR (blockB (seqL (seqR (loopB (blockB (seqR (seqR c99)))))))))) := by
  refine loop_ok (kp := keep99) (hb := Eq.mpr (r99_L2_lk call fuel base) (And.intro (And.intro trivial (And.intro trivial trivial)) (And.intro (And.intro trivial trivial) trivial))) 75 [0, 1, 2, 7, 8, 9] (fun n vs m K => r99_L2_R call fuel base n vs m K) ?_ ?_ (fun _ _ _ => rfl)
  · intro vs m K
    unfold r99_L2_R
    split <;> rfl
  · intro n vs m K hl
    match vs, hl with
    | [x0, x1, x2, x7, x8, x9], _ => show _ = _; kernel_rfl
theorem r99_L0_lk (call : CallF) (fuel base : Nat) : LoopsOk E call (lp99 call fuel base) fuel base 0 (loopB (blockB (seqR (seqR c99)))) = (And (And True (And True True)) (And (And True (LpOk E call (lp99 call fuel base) fuel base 2 (loopB (blockB (seqR (blockB (seqL (seqR (loopB (blockB (seqR (seqR c99)))))))))))) True)) := by kernel_rfl
theorem r99_L0_ok (call : CallF) (fuel base : Nat) : LpOk E call (lp99 call fuel base) fuel base 0 (loopB (blockB (seqR (seqR c99)))) := by
  refine loop_ok (kp := keep99) (hb := Eq.mpr (r99_L0_lk call fuel base) (And.intro (And.intro trivial (And.intro trivial trivial)) (And.intro (And.intro trivial (r99_L2_ok call fuel base)) trivial))) 75 [0, 1, 2, 7, 8] (fun n vs m K => r99_L0_R call fuel base n vs m K) ?_ ?_ (fun _ _ _ => rfl)
  · intro vs m K
    unfold r99_L0_R
    split <;> rfl
  · intro n vs m K hl
    match vs, hl with
    | [x0, x1, x2, x7, x8], _ => show _ = _; kernel_rfl
theorem r99_eq (call : CallF) (fuel base : Nat) (x0 : Value) (x1 : Value) (x2 : Value) (x3 : Value) (m : M) : kbody E call keep99 (lp99 call fuel base) base Try.f99 [x0, x1, x2, x3] m = r99 call fuel base x0 x1 x2 x3 m := by
  kernel_rfl
noncomputable def rf99 : RF := fun call fuel base args m => match args with
  | [x0, x1, x2, x3] => r99 call fuel base x0 x1 x2 x3 m
  | _ => none
theorem r99_lk (call : CallF) (fuel base : Nat) : LoopsOk E call (lp99 call fuel base) fuel base 0 c99 = (And True (And True (LpOk E call (lp99 call fuel base) fuel base 0 (loopB (blockB (seqR (seqR c99))))))) := by kernel_rfl
theorem r99_fn : E.P.funcs[99]? = some Try.f99 := by kernel_rfl
theorem r99_body : Try.f99.body = some c99 := by kernel_rfl
theorem rf99_ok : RFok E 99 rf99 := by
  show RFok' E 99 rf99
  refine ⟨Try.f99, r99_fn, fun call fuel base args m r _ h => ?_⟩
  unfold rf99 at h
  split at h
  · rw [← r99_eq] at h
    exact kbody_sound (c := c99) r99_body (Eq.mpr (r99_lk call fuel base) (And.intro trivial (And.intro trivial (r99_L0_ok call fuel base)))) h
  · simp at h
end Go.AM
namespace Go.AM
open Go Go.Proofs
noncomputable def r100 (call : CallF) (fuel base : Nat) (x0 : Value) (x1 : Value) (m : M) : Res2 :=
  (k2 (xbox m x0) fun v2_1 m => (k1 (xload E.P m 23 x1) fun v5_2 => (kc (call base 101 [v5_2] m) (fun v6_3 m => (k2 (xalloc E.P m 104) fun v3_4 m => (ks (xstore E.P base m 104 v3_4 v6_3) fun m => (k2 (xalloc E.P m 126) fun v4_5 m => (ks (xstore E.P base m 126 v4_5 (.func (.func 102) #[] #[x1, v2_1, v3_4, v4_5])) fun m => (k1 (xload E.P m 126 v4_5) fun v8_6 => (k1 (xload E.P m 23 x1) fun v9_7 => (k1 (mbuild E.P 79 [(0, v9_7)]) fun v10_8 => (k1 (xload E.P m 104 v3_4) fun v11_9 => (k1 (xload E.P m 104 v3_4) fun v12_10 => (k2 (vcall E.P base m .len [104] [v12_10]) fun v13_11 m => (k1 (mbin E .sub 3 v13_11 (.int .i64 1)) fun v14_12 => (k1 (mindexAddr E.P 104 v11_9 v14_12) fun v15_13 => (k1 (xload E.P m 76 v15_13) fun v16_14 => (kc (kv call base v8_6 [v10_8, (.int .i64 0), v16_14] m) (fun v17_15 m => (some (.ret (.tuple #[]), m))) (fun _ _ => none)))))))))))))))) (fun v m => some (.pan v, m)))))
def keep100 : Keep := { region := fun i => ([[1, 2], [1, 2, 3], [1, 2, 3, 4], [1, 3, 4], []] : List (List Nat))[i]?, exit := fun i => ([] : List (List Nat))[i]?, ret := some [] }
noncomputable def lp100 (call : CallF) (fuel base : Nat) : Lp := lpsel []
noncomputable def c100 : Code := Try.f100.body.getD .skip
theorem r100_eq (call : CallF) (fuel base : Nat) (x0 : Value) (x1 : Value) (m : M) : kbody E call keep100 (lp100 call fuel base) base Try.f100 [x0, x1] m = r100 call fuel base x0 x1 m := by
  kernel_rfl
noncomputable def rf100 : RF := fun call fuel base args m => match args with
  | [x0, x1] => r100 call fuel base x0 x1 m
  | _ => none
theorem r100_lk (call : CallF) (fuel base : Nat) : LoopsOk E call (lp100 call fuel base) fuel base 0 c100 = (And True (And True (And True (And True True)))) := by kernel_rfl
theorem r100_fn : E.P.funcs[100]? = some Try.f100 := by kernel_rfl
theorem r100_body : Try.f100.body = some c100 := by kernel_rfl
theorem rf100_ok : RFok E 100 rf100 := by
  show RFok' E 100 rf100
  refine ⟨Try.f100, r100_fn, fun call fuel base args m r _ h => ?_⟩
  unfold rf100 at h
  split at h
  · rw [← r100_eq] at h
    exact kbody_sound (c := c100) r100_body (Eq.mpr (r100_lk call fuel base) (And.intro trivial (And.intro trivial (And.intro trivial (And.intro trivial trivial))))) h
  · simp at h
end Go.AM
namespace Go.AM
open Go Go.Proofs
noncomputable def r101 (call : CallF) (fuel base : Nat) (x0 : Value) (m : M) : Res2 :=
  (k2 (xbox m x0) fun v1_1 m => (k2 (xalloc E.P m 104) fun v3_2 m => (k2 (xalloc E.P m 134) fun v4_3 m => (ks (xstore E.P base m 134 v4_3 (.func (.func 114) #[] #[v1_1, v3_2, v4_3])) fun m => (k1 (xload E.P m 134 v4_3) fun v6_4 => (k1 (mbuild E.P 76 []) fun v7_5 => (k1 (mfieldAddr E.P 23 v1_1 2) fun v8_6 => (k1 (xload E.P m 3 v8_6) fun v9_7 => (kc (kv call base v6_4 [v7_5, (.int .i64 0), v9_7] m) (fun v10_8 m => (k1 (xload E.P m 104 v3_2) fun v11_9 => (fVal v11_9 fun v => some (.ret v, m)))) (fun v m => some (.pan v, m)))))))))))
def keep101 : Keep := { region := fun i => ([[1], [1, 3], [1, 3, 4], [1, 3, 4], [3], [2]] : List (List Nat))[i]?, exit := fun i => ([] : List (List Nat))[i]?, ret := some [2] }
noncomputable def lp101 (call : CallF) (fuel base : Nat) : Lp := lpsel []
noncomputable def c101 : Code := Try.f101.body.getD .skip
theorem r101_eq (call : CallF) (fuel base : Nat) (x0 : Value) (m : M) : kbody E call keep101 (lp101 call fuel base) base Try.f101 [x0] m = r101 call fuel base x0 m := by
  kernel_rfl
noncomputable def rf101 : RF := fun call fuel base args m => match args with
  | [x0] => r101 call fuel base x0 m
  | _ => none
theorem r101_lk (call : CallF) (fuel base : Nat) : LoopsOk E call (lp101 call fuel base) fuel base 0 c101 = (And True (And True (And True (And True (And True (And True True)))))) := by kernel_rfl
theorem r101_fn : E.P.funcs[101]? = some Try.f101 := by kernel_rfl
theorem r101_body : Try.f101.body = some c101 := by kernel_rfl
theorem rf101_ok : RFok E 101 rf101 := by
  show RFok' E 101 rf101
  refine ⟨Try.f101, r101_fn, fun call fuel base args m r _ h => ?_⟩
  unfold rf101 at h
  split at h
  · rw [← r101_eq] at h
    exact kbody_sound (c := c101) r101_body (Eq.mpr (r101_lk call fuel base) (And.intro trivial (And.intro trivial (And.intro trivial (And.intro trivial (And.intro trivial (And.intro trivial trivial))))))) h
  · simp at h
end Go.AM
namespace Go.AM
open Go Go.Proofs
noncomputable def r102_L0 (call : CallF) (fuel base : Nat) (kp : Value → M → Res2) (kr : Value → M → Res2) (kx0 : M → Res2) (n : Nat) : Value → Value → Value → Value → Value → Value → Value → M → Res2 :=
  Nat.rec (motive := fun _ => Value → Value → Value → Value → Value → Value → Value → M → Res2) (fun _ _ _ _ _ _ _ _ => none)
    (fun _ ih x1 x6 x7 x9 x20 x21 x22 m =>
      (k1 (mbin E .lss 3 x22 x21) fun v23_11 => (kb v23_11 (k1 (mindexAddr E.P 104 x20 x22) fun v24_12 => (k1 (xload E.P m 76 v24_12) fun v25_13 => (k2 (xalloc E.P m 76) fun v12_14 m => (ks (xstore E.P base m 76 v12_14 v25_13) fun m => (k1 (xload E.P m 76 v12_14) fun v26_15 => (k1 (xload E.P m 76 x9) fun v27_16 => (kc (call base 103 [v26_15, v27_16] m) (fun v28_17 m => (k1 (mun .not v28_17) fun v29_18 => (kb v29_18 (k1 (mbin E .add 3 x22 (.int .i64 1)) fun v41_19 => (ih x1 x6 x7 x9 x20 x21 v41_19 m)) (k1 (xload E.P m 76 v12_14) fun v31_20 => (k1 (mfieldAddr E.P 79 x7 1) fun v32_21 => (k1 (mindexAddr E.P 77 v32_21 x1) fun v33_22 => (ks (xstore E.P base m 76 v33_22 v31_20) fun m => (k1 (xload E.P m 126 x6) fun v34_23 => (k1 (xload E.P m 79 x7) fun v35_24 => (k1 (mbin E .add 3 x1 (.int .i64 1)) fun v37_25 => (k1 (xload E.P m 76 v12_14) fun v38_26 => (kc (kv call base v34_23 [v35_24, v37_25, v38_26] m) (fun v39_27 m => (k1 (mun .not v39_27) fun v40_28 => (kb v40_28 (kr (.bool false) m) (k1 (mbin E .add 3 x22 (.int .i64 1)) fun v41_29 => (ih x1 x6 x7 x9 x20 x21 v41_29 m))))) (fun v m => kp v m))))))))))))) (fun v m => kp v m)))))))) (kx0 m)))) n
noncomputable def r102 (call : CallF) (fuel base : Nat) (x0 : Value) (x1 : Value) (x2 : Value) (x3 : Value) (x4 : Value) (x5 : Value) (x6 : Value) (m : M) : Res2 :=
  (k2 (xbox m x0) fun v7_1 m => (k2 (xbox m x2) fun v9_2 m => (k1 (mfieldAddr E.P 23 x3 0) fun v14_3 => (k1 (xload E.P m 3 v14_3) fun v15_4 => (k1 (mbin E .eql 3 x1 v15_4) fun v16_5 => (kb v16_5 (k1 (xload E.P m 124 x4) fun v17_6 => (k1 (xload E.P m 79 v7_1) fun v18_7 => (kc (kv call base v17_6 [v18_7] m) (fun v19_8 m => (fVal v19_8 fun v => some (.ret v, m))) (fun v m => some (.pan v, m))))) (k1 (xload E.P m 104 x5) fun v20_9 => (k2 (vcall E.P base m .len [104] [v20_9]) fun v21_10 m => (r102_L0 call fuel base (fun v m => some (.pan v, m)) (fun y10_30 m => (fVal y10_30 fun v => some (.ret v, m))) (fun m => (fVal (.bool true) fun v => some (.ret v, m))) fuel x1 x6 v7_1 v9_2 v20_9 v21_10 (.int .i64 0) m)))))))))
def keep102 : Keep := { region := fun i => ([[1, 3, 4, 5, 6, 7, 9], [1, 4, 5, 6, 7, 9, 16], [10], [1, 6, 7, 9, 20, 21, 22], [1, 6, 7, 9, 20, 21, 22, 23], [1, 6, 7, 9, 12, 20, 21, 22], [1, 6, 7, 9, 12, 20, 21, 22, 29], [1, 6, 7, 9, 12, 20, 21, 22], [1, 6, 7, 9, 20, 21, 22, 40], [10], [1, 6, 7, 9, 20, 21, 22], [10]] : List (List Nat))[i]?, exit := fun i => ([[], [1, 6, 7, 9, 20, 21, 22]] : List (List Nat))[i]?, ret := some [10] }
noncomputable def r102_L0_R (call : CallF) (fuel base n : Nat) (vs : List Value) (m : M) (K : KT) : Res2 := match vs with
  | [x1, x6, x7, x9, x20, x21, x22] => r102_L0 call fuel base (fun v m => K (.pan v) { n := 42, l := [] } m) (fun y10 m => K .ret { n := 42, l := [(10, y10)] } m) (fun m => K (.exit 0) { n := 42, l := [] } m) n x1 x6 x7 x9 x20 x21 x22 m
  | _ => none
noncomputable def lp102 (call : CallF) (fuel base : Nat) : Lp := lpsel [(0, fun T m K => kslots 42 [1, 6, 7, 9, 20, 21, 22] T fun vs => r102_L0_R call fuel base fuel vs m K)]
noncomputable def c102 : Code := Try.f102.body.getD .skip
theorem r102_L0_lk (call : CallF) (fuel base : Nat) : LoopsOk E call (lp102 call fuel base) fuel base 0 (loopB (blockB (seqR (seqL (seqR (seqR c102)))))) = (And True (And (And True True) (And (And True (And (And True (And True True)) (And True (And True (And (And True True) True))))) True))) := by kernel_rfl
theorem r102_L0_ok (call : CallF) (fuel base : Nat) : LpOk E call (lp102 call fuel base) fuel base 0 (loopB (blockB (seqR (seqL (seqR (seqR c102)))))) := by
  refine loop_ok (kp := keep102) (hb := Eq.mpr (r102_L0_lk call fuel base) (And.intro trivial (And.intro (And.intro trivial trivial) (And.intro (And.intro trivial (And.intro (And.intro trivial (And.intro trivial trivial)) (And.intro trivial (And.intro trivial (And.intro (And.intro trivial trivial) trivial))))) trivial)))) 42 [1, 6, 7, 9, 20, 21, 22] (fun n vs m K => r102_L0_R call fuel base n vs m K) ?_ ?_ (fun _ _ _ => rfl)
  · intro vs m K
    unfold r102_L0_R
    split <;> rfl
  · intro n vs m K hl
    match vs, hl with
    | [x1, x6, x7, x9, x20, x21, x22], _ => show _ = _; kernel_rfl
theorem r102_eq (call : CallF) (fuel base : Nat) (x0 : Value) (x1 : Value) (x2 : Value) (x3 : Value) (x4 : Value) (x5 : Value) (x6 : Value) (m : M) : kbody E call keep102 (lp102 call fuel base) base Try.f102 [x0, x1, x2, x3, x4, x5, x6] m = r102 call fuel base x0 x1 x2 x3 x4 x5 x6 m := by
  kernel_rfl
noncomputable def rf102 : RF := fun call fuel base args m => match args with
  | [x0, x1, x2, x3, x4, x5, x6] => r102 call fuel base x0 x1 x2 x3 x4 x5 x6 m
  | _ => none
theorem r102_lk (call : CallF) (fuel base : Nat) : LoopsOk E call (lp102 call fuel base) fuel base 0 c102 = (And True (And (And True (And (And True True) True)) (And (And True (LpOk E call (lp102 call fuel base) fuel base 0 (loopB (blockB (seqR (seqL (seqR (seqR c102)))))))) (And True True)))) := by kernel_rfl
theorem r102_fn : E.P.funcs[102]? = some Try.f102 := by kernel_rfl
theorem r102_body : Try.f102.body = some c102 := by kernel_rfl
theorem rf102_ok : RFok E 102 rf102 := by
  show RFok' E 102 rf102
  refine ⟨Try.f102, r102_fn, fun call fuel base args m r _ h => ?_⟩
  unfold rf102 at h
  split at h
  · rw [← r102_eq] at h
    exact kbody_sound (c := c102) r102_body (Eq.mpr (r102_lk call fuel base) (And.intro trivial (And.intro (And.intro trivial (And.intro (And.intro trivial trivial) trivial)) (And.intro (And.intro trivial (r102_L0_ok call fuel base)) (And.intro trivial trivial))))) h
  · simp at h
end Go.AM
namespace Go.AM
open Go Go.Proofs
noncomputable def r103_L0 (call : CallF) (fuel base : Nat) (kr : Value → M → Res2) (kx0 : M → Res2) (n : Nat) : Value → Value → Value → M → Res2 :=
  Nat.rec (motive := fun _ => Value → Value → Value → M → Res2) (fun _ _ _ _ => none)
    (fun _ ih x3 x7 x8 m =>
      (k1 (mbin E .lss 3 x8 (.int .i64 4)) fun v9_4 => (kb v9_4 (k1 (mindex E.P 76 x7 x8) fun v11_5 => (k1 (mindexAddr E.P 76 x3 x8) fun v14_6 => (k1 (xload E.P m 3 v14_6) fun v15_7 => (k1 (mbin E .gtr 3 v11_5 v15_7) fun v16_8 => (kb v16_8 (kr (.bool false) m) (k1 (mbin E .add 3 x8 (.int .i64 1)) fun v17_9 => (ih x3 x7 v17_9 m))))))) (kx0 m)))) n
noncomputable def r103 (call : CallF) (fuel base : Nat) (x0 : Value) (x1 : Value) (m : M) : Res2 :=
  (k2 (xbox m x0) fun v2_1 m => (k2 (xbox m x1) fun v3_2 m => (k1 (xload E.P m 76 v2_1) fun v7_3 => (r103_L0 call fuel base (fun y4_10 m => (fVal y4_10 fun v => some (.ret v, m))) (fun m => (fVal (.bool true) fun v => some (.ret v, m))) fuel v3_2 v7_3 (.int .i64 0) m))))
def keep103 : Keep := { region := fun i => ([[2, 3], [3, 7, 8], [3, 7, 8, 9], [3, 5, 6, 7, 8], [3, 7, 8, 16], [4], [3, 7, 8], [4]] : List (List Nat))[i]?, exit := fun i => ([[], [3, 7, 8]] : List (List Nat))[i]?, ret := some [4] }
noncomputable def r103_L0_R (call : CallF) (fuel base n : Nat) (vs : List Value) (m : M) (K : KT) : Res2 := match vs with
  | [x3, x7, x8] => r103_L0 call fuel base (fun y4 m => K .ret { n := 18, l := [(4, y4)] } m) (fun m => K (.exit 0) { n := 18, l := [] } m) n x3 x7 x8 m
  | _ => none
noncomputable def lp103 (call : CallF) (fuel base : Nat) : Lp := lpsel [(0, fun T m K => kslots 18 [3, 7, 8] T fun vs => r103_L0_R call fuel base fuel vs m K)]
noncomputable def c103 : Code := Try.f103.body.getD .skip
theorem r103_L0_lk (call : CallF) (fuel base : Nat) : LoopsOk E call (lp103 call fuel base) fuel base 0 (loopB (blockB (seqR (seqL (seqR c103))))) = (And True (And (And True True) (And (And True (And True (And (And True True) True))) True))) := by kernel_rfl
theorem r103_L0_ok (call : CallF) (fuel base : Nat) : LpOk E call (lp103 call fuel base) fuel base 0 (loopB (blockB (seqR (seqL (seqR c103))))) := by
  refine loop_ok (kp := keep103) (hb := Eq.mpr (r103_L0_lk call fuel base) (And.intro trivial (And.intro (And.intro trivial trivial) (And.intro (And.intro trivial (And.intro trivial (And.intro (And.intro trivial trivial) trivial))) trivial)))) 18 [3, 7, 8] (fun n vs m K => r103_L0_R call fuel base n vs m K) ?_ ?_ (fun _ _ _ => rfl)
  · intro vs m K
    unfold r103_L0_R
    split <;> rfl
  · intro n vs m K hl
    match vs, hl with
    | [x3, x7, x8], _ => show _ = _; kernel_rfl
theorem r103_eq (call : CallF) (fuel base : Nat) (x0 : Value) (x1 : Value) (m : M) : kbody E call keep103 (lp103 call fuel base) base Try.f103 [x0, x1] m = r103 call fuel base x0 x1 m := by
  kernel_rfl
noncomputable def rf103 : RF := fun call fuel base args m => match args with
  | [x0, x1] => r103 call fuel base x0 x1 m
  | _ => none
theorem r103_lk (call : CallF) (fuel base : Nat) : LoopsOk E call (lp103 call fuel base) fuel base 0 c103 = (And True (And (And True (LpOk E call (lp103 call fuel base) fuel base 0 (loopB (blockB (seqR (seqL (seqR c103))))))) (And True True))) := by kernel_rfl
theorem r103_fn : E.P.funcs[103]? = some Try.f103 := by kernel_rfl
theorem r103_body : Try.f103.body = some c103 := by kernel_rfl
theorem rf103_ok : RFok E 103 rf103 := by
  show RFok' E 103 rf103
  refine ⟨Try.f103, r103_fn, fun call fuel base args m r _ h => ?_⟩
  unfold rf103 at h
  split at h
  · rw [← r103_eq] at h
    exact kbody_sound (c := c103) r103_body (Eq.mpr (r103_lk call fuel base) (And.intro trivial (And.intro (And.intro trivial (r103_L0_ok call fuel base)) (And.intro trivial trivial)))) h
  · simp at h
end Go.AM
namespace Go.AM
open Go Go.Proofs
noncomputable def r104 (call : CallF) (fuel base : Nat) (x0 : Value) (x1 : Value) (x2 : Value) (m : M) : Res2 :=
  (k2 (xbox m x0) fun v3_1 m => (k1 (mbin E .lss 3 x1 (.int .i64 0)) fun v15_2 => (kb v15_2 (k1 (mfieldAddr E.P 79 v3_1 0) fun v20_3 => (k1 (mfieldAddr E.P 23 v20_3 2) fun v21_4 => (k1 (xload E.P m 3 v21_4) fun v22_5 => (fVal v22_5 fun v => some (.ret v, m))))) (k1 (mbin E .lss 3 x2 (.int .i64 0)) fun v18_6 => (kb v18_6 (k1 (mfieldAddr E.P 79 v3_1 0) fun v20_7 => (k1 (mfieldAddr E.P 23 v20_7 2) fun v21_8 => (k1 (xload E.P m 3 v21_8) fun v22_9 => (fVal v22_9 fun v => some (.ret v, m))))) (k1 (mfieldAddr E.P 79 v3_1 0) fun v25_10 => (k1 (mfieldAddr E.P 23 v25_10 0) fun v26_11 => (k1 (xload E.P m 3 v26_11) fun v27_12 => (k1 (mbin E .geq 3 x1 v27_12) fun v28_13 => (kb v28_13 (fVal (.int .i64 0) fun v => some (.ret v, m)) (k1 (mfieldAddr E.P 79 v3_1 0) fun v31_14 => (k1 (mfieldAddr E.P 23 v31_14 1) fun v32_15 => (k1 (xload E.P m 3 v32_15) fun v33_16 => (k1 (mbin E .geq 3 x2 v33_16) fun v34_17 => (kb v34_17 (fVal (.int .i64 0) fun v => some (.ret v, m)) (k1 (mfieldAddr E.P 79 v3_1 1) fun v9_18 => (k1 (mindexAddr E.P 77 v9_18 x1) fun v10_19 => (k1 (mindexAddr E.P 76 v10_19 x2) fun v11_20 => (k1 (xload E.P m 3 v11_20) fun v12_21 => (fVal v12_21 fun v => some (.ret v, m)))))))))))))))))))))
def keep104 : Keep := { region := fun i => ([[1, 2, 3], [6], [1, 2, 3, 13], [6], [1, 2, 3, 23], [6]] : List (List Nat))[i]?, exit := fun i => ([[6]] : List (List Nat))[i]?, ret := some [6] }
noncomputable def lp104 (call : CallF) (fuel base : Nat) : Lp := lpsel []
noncomputable def c104 : Code := Try.f104.body.getD .skip
theorem r104_eq (call : CallF) (fuel base : Nat) (x0 : Value) (x1 : Value) (x2 : Value) (m : M) : kbody E call keep104 (lp104 call fuel base) base Try.f104 [x0, x1, x2] m = r104 call fuel base x0 x1 x2 m := by
  kernel_rfl
noncomputable def rf104 : RF := fun call fuel base args m => match args with
  | [x0, x1, x2] => r104 call fuel base x0 x1 x2 m
  | _ => none
theorem r104_lk (call : CallF) (fuel base : Nat) : LoopsOk E call (lp104 call fuel base) fuel base 0 c104 = (And True (And True (And (And True True) (And True (And (And True True) (And True True)))))) := by kernel_rfl
theorem r104_fn : E.P.funcs[104]? = some Try.f104 := by kernel_rfl
theorem r104_body : Try.f104.body = some c104 := by kernel_rfl
theorem rf104_ok : RFok E 104 rf104 := by
  show RFok' E 104 rf104
  refine ⟨Try.f104, r104_fn, fun call fuel base args m r _ h => ?_⟩
  unfold rf104 at h
  split at h
  · rw [← r104_eq] at h
    exact kbody_sound (c := c104) r104_body (Eq.mpr (r104_lk call fuel base) (And.intro trivial (And.intro trivial (And.intro (And.intro trivial trivial) (And.intro trivial (And.intro (And.intro trivial trivial) (And.intro trivial trivial))))))) h
  · simp at h
end Go.AM
namespace Go.AM
open Go Go.Proofs
noncomputable def r105_L0 (call : CallF) (fuel base : Nat) (kx0 : Value → M → Res2) (n : Nat) : Value → Value → M → Res2 :=
  Nat.rec (motive := fun _ => Value → Value → M → Res2) (fun _ _ _ => none)
    (fun _ ih x7 x8 m =>
      (k2 (vcall E.P base m .len [27] [x7]) fun v36_13 m => (k1 (mbin E .lss 3 x8 v36_13) fun v37_14 => (kb v37_14 (k1 (mslice E.P m 27 x7 (some x8) none none) fun v41_15 => (k1 (mslice E.P m 27 x7 none (some x8) none) fun v44_16 => (k2 (vcall E.P base m .copy [27, 27] [v41_15, v44_16]) fun v45_17 m => (k1 (mbin E .add 3 x8 v45_17) fun v46_18 => (ih x7 v46_18 m))))) (kx0 x7 m))))) n
noncomputable def r105 (call : CallF) (fuel base : Nat) (x0 : Value) (x1 : Value) (m : M) : Res2 :=
  (k1 (mbin E .lss 3 x1 (.int .i64 0)) fun v10_1 => (kb v10_1 none (k2 (vcall E.P base m .len [27] [x0]) fun v14_2 m => (k1 (mconvert E.P 3 132 v14_2) fun v15_3 => (k1 (mconvert E.P 3 132 x1) fun v17_4 => (kc (call base 115 [v15_3, v17_4] m) (fun v18_5 m => (k1 (mextract 0 v18_5) fun v19_6 => (k1 (mextract 1 v18_5) fun v20_7 => (k1 (mbin E .gtr 132 v19_6 (.int .u64 0)) fun v22_8 => (kb v22_8 none (k1 (mbin E .gtr 132 v20_7 (.int .u64 9223372036854775807)) fun v25_9 => (kb v25_9 none (k1 (mconvert E.P 132 3 v20_7) fun v29_10 => (k2 (xmakeSlice E.P m 27 v29_10 v29_10) fun v30_11 m => (k2 (vcall E.P base m .copy [27, 27] [v30_11, x0]) fun v33_12 m => (r105_L0 call fuel base (fun y7_19 m => (fVal y7_19 fun v => some (.ret v, m))) fuel v30_11 v33_12 m))))))))))) (fun v m => some (.pan v, m))))))))
def keep105 : Keep := { region := fun i => ([[0, 1], [0, 1, 10], [0, 1], [0, 5, 6], [0, 6, 26], [0, 6], [0, 7], [7, 8], [7, 8, 37], [7, 8], [4]] : List (List Nat))[i]?, exit := fun i => ([[7], [7, 8]] : List (List Nat))[i]?, ret := some [4] }
noncomputable def r105_L0_R (call : CallF) (fuel base n : Nat) (vs : List Value) (m : M) (K : KT) : Res2 := match vs with
  | [x7, x8] => r105_L0 call fuel base (fun y7 m => K (.exit 0) { n := 48, l := [(7, y7)] } m) n x7 x8 m
  | _ => none
noncomputable def lp105 (call : CallF) (fuel base : Nat) : Lp := lpsel [(0, fun T m K => kslots 48 [7, 8] T fun vs => r105_L0_R call fuel base fuel vs m K)]
noncomputable def c105 : Code := Try.f105.body.getD .skip
theorem r105_L0_lk (call : CallF) (fuel base : Nat) : LoopsOk E call (lp105 call fuel base) fuel base 0 (loopB (blockB (seqL (seqR (seqR (seqR (seqR (seqR (seqR c105))))))))) = (And (And True (And True True)) True) := by kernel_rfl
theorem r105_L0_ok (call : CallF) (fuel base : Nat) : LpOk E call (lp105 call fuel base) fuel base 0 (loopB (blockB (seqL (seqR (seqR (seqR (seqR (seqR (seqR c105))))))))) := by
  refine loop_ok (kp := keep105) (hb := Eq.mpr (r105_L0_lk call fuel base) (And.intro (And.intro trivial (And.intro trivial trivial)) trivial)) 48 [7, 8] (fun n vs m K => r105_L0_R call fuel base n vs m K) ?_ ?_ (fun _ _ _ => rfl)
  · intro vs m K
    unfold r105_L0_R
    split <;> rfl
  · intro n vs m K hl
    match vs, hl with
    | [x7, x8], _ => show _ = _; kernel_rfl
theorem r105_eq (call : CallF) (fuel base : Nat) (x0 : Value) (x1 : Value) (m : M) : kbody E call keep105 (lp105 call fuel base) base Try.f105 [x0, x1] m = r105 call fuel base x0 x1 m := by
  kernel_rfl
noncomputable def rf105 : RF := fun call fuel base args m => match args with
  | [x0, x1] => r105 call fuel base x0 x1 m
  | _ => none
theorem r105_lk (call : CallF) (fuel base : Nat) : LoopsOk E call (lp105 call fuel base) fuel base 0 c105 = (And True (And (And True (And True True)) (And True (And (And True (And True True)) (And True (And True (And (LpOk E call (lp105 call fuel base) fuel base 0 (loopB (blockB (seqL (seqR (seqR (seqR (seqR (seqR (seqR c105)))))))))) (And True True)))))))) := by kernel_rfl
theorem r105_fn : E.P.funcs[105]? = some Try.f105 := by kernel_rfl
theorem r105_body : Try.f105.body = some c105 := by kernel_rfl
theorem rf105_ok : RFok E 105 rf105 := by
  show RFok' E 105 rf105
  refine ⟨Try.f105, r105_fn, fun call fuel base args m r _ h => ?_⟩
  unfold rf105 at h
  split at h
  · rw [← r105_eq] at h
    exact kbody_sound (c := c105) r105_body (Eq.mpr (r105_lk call fuel base) (And.intro trivial (And.intro (And.intro trivial (And.intro trivial trivial)) (And.intro trivial (And.intro (And.intro trivial (And.intro trivial trivial)) (And.intro trivial (And.intro trivial (And.intro (r105_L0_ok call fuel base) (And.intro trivial trivial))))))))) h
  · simp at h
end Go.AM
namespace Go.AM
open Go Go.Proofs
noncomputable def r106_L0 (call : CallF) (fuel base : Nat) (kr : M → Res2) (kx0 : M → Res2) (n : Nat) : Value → Value → Value → Value → Value → Value → Value → M → Res2 :=
  Nat.rec (motive := fun _ => Value → Value → Value → Value → Value → Value → Value → M → Res2) (fun _ _ _ _ _ _ _ _ => none)
    (fun _ ih x0 x1 x2 x3 x8 x9 x10 m =>
      (k1 (mbin E .lss 3 x10 x9) fun v11_4 => (kb v11_4 (k1 (mindexAddr E.P 104 x8 x10) fun v13_5 => (k1 (xload E.P m 76 v13_5) fun v14_6 => (k2 (xalloc E.P m 76) fun v6_7 m => (ks (xstore E.P base m 76 v6_7 v14_6) fun m => (k1 (xload E.P m 76 v6_7) fun v15_8 => (k1 (xload E.P m 76 x2) fun v16_9 => (kc (kB m (call m.length 103 [v15_8, v16_9] m)) (fun v17_10 m => (kb v17_10 (k1 (xload E.P m 76 v6_7) fun v20_11 => (k1 (mfieldAddr E.P 106 x1 1) fun v21_12 => (k1 (xload E.P m 33 v21_12) fun v22_13 => (k1 (xload E.P m 3 x3) fun v23_14 => (k1 (mindexAddr E.P 33 v22_13 v23_14) fun v24_15 => (k1 (xload E.P m 27 v24_15) fun v25_16 => (k1 (mindexAddr E.P 27 v25_16 x10) fun v27_17 => (k1 (xload E.P m 3 v27_17) fun v28_18 => (kc (kv call base x0 [v20_11, v28_18] m) (fun v29_19 m => (k1 (mun .not v29_19) fun v30_20 => (kb v30_20 (kr m) (k1 (mbin E .add 3 x10 (.int .i64 1)) fun v32_21 => (ih x0 x1 x2 x3 x8 x9 v32_21 m))))) (fun _ _ => none)))))))))) (k1 (mbin E .add 3 x10 (.int .i64 1)) fun v32_22 => (ih x0 x1 x2 x3 x8 x9 v32_22 m)))) (fun _ _ => none)))))))) (kx0 m)))) n
noncomputable def r106 (call : CallF) (fuel base : Nat) (x0 : Value) (x1 : Value) (x2 : Value) (x3 : Value) (m : M) : Res2 :=
  (k1 (mfieldAddr E.P 106 x1 0) fun v7_1 => (k1 (xload E.P m 104 v7_1) fun v8_2 => (k2 (vcall E.P base m .len [104] [v8_2]) fun v9_3 m => (r106_L0 call fuel base (fun m => (some (.ret (.tuple #[]), m))) (fun m => (some (.ret (.tuple #[]), m))) fuel x0 x1 x2 x3 v8_2 v9_3 (.int .i64 0) m))))
def keep106 : Keep := { region := fun i => ([[0, 1, 2, 3, 8, 9, 10], [0, 1, 2, 3, 8, 9, 10, 11], [0, 1, 2, 3, 5, 6, 8, 9, 10], [0, 1, 2, 3, 8, 9, 10, 31], [0, 1, 2, 3, 8, 9, 10]] : List (List Nat))[i]?, exit := fun i => ([[], [0, 1, 2, 3, 8, 9, 10]] : List (List Nat))[i]?, ret := some [] }
noncomputable def r106_L0_R (call : CallF) (fuel base n : Nat) (vs : List Value) (m : M) (K : KT) : Res2 := match vs with
  | [x0, x1, x2, x3, x8, x9, x10] => r106_L0 call fuel base (fun m => K .ret { n := 33, l := [] } m) (fun m => K (.exit 0) { n := 33, l := [] } m) n x0 x1 x2 x3 x8 x9 x10 m
  | _ => none
noncomputable def lp106 (call : CallF) (fuel base : Nat) : Lp := lpsel [(0, fun T m K => kslots 33 [0, 1, 2, 3, 8, 9, 10] T fun vs => r106_L0_R call fuel base fuel vs m K)]
noncomputable def c106 : Code := Try.f106.body.getD .skip
theorem r106_L0_lk (call : CallF) (fuel base : Nat) : LoopsOk E call (lp106 call fuel base) fuel base 0 (loopB (blockB (seqR c106))) = (And True (And (And True True) (And (And True (And True (And True True))) True))) := by kernel_rfl
theorem r106_L0_ok (call : CallF) (fuel base : Nat) : LpOk E call (lp106 call fuel base) fuel base 0 (loopB (blockB (seqR c106))) := by
  refine loop_ok (kp := keep106) (hb := Eq.mpr (r106_L0_lk call fuel base) (And.intro trivial (And.intro (And.intro trivial trivial) (And.intro (And.intro trivial (And.intro trivial (And.intro trivial trivial))) trivial)))) 33 [0, 1, 2, 3, 8, 9, 10] (fun n vs m K => r106_L0_R call fuel base n vs m K) ?_ ?_ (fun _ _ _ => rfl)
  · intro vs m K
    unfold r106_L0_R
    split <;> rfl
  · intro n vs m K hl
    match vs, hl with
    | [x0, x1, x2, x3, x8, x9, x10], _ => show _ = _; kernel_rfl
theorem r106_eq (call : CallF) (fuel base : Nat) (x0 : Value) (x1 : Value) (x2 : Value) (x3 : Value) (m : M) : kbody E call keep106 (lp106 call fuel base) base Try.f106 [x0, x1, x2, x3] m = r106 call fuel base x0 x1 x2 x3 m := by
  kernel_rfl
noncomputable def rf106 : RF := fun call fuel base args m => match args with
  | [x0, x1, x2, x3] => r106 call fuel base x0 x1 x2 x3 m
  | _ => none
theorem r106_lk (call : CallF) (fuel base : Nat) : LoopsOk E call (lp106 call fuel base) fuel base 0 c106 = (And True (LpOk E call (lp106 call fuel base) fuel base 0 (loopB (blockB (seqR c106))))) := by kernel_rfl
theorem r106_fn : E.P.funcs[106]? = some Try.f106 := by kernel_rfl
theorem r106_body : Try.f106.body = some c106 := by kernel_rfl
theorem rf106_ok : RFok E 106 rf106 := by
  show RFok' E 106 rf106
  refine ⟨Try.f106, r106_fn, fun call fuel base args m r _ h => ?_⟩
  unfold rf106 at h
  split at h
  · rw [← r106_eq] at h
    exact kbody_sound (c := c106) r106_body (Eq.mpr (r106_lk call fuel base) (And.intro trivial (r106_L0_ok call fuel base))) h
  · simp at h
end Go.AM
namespace Go.AM
open Go Go.Proofs
noncomputable def r111 (call : CallF) (fuel base : Nat) (x0 : Value) (x1 : Value) (m : M) : Res2 :=
  (k1 (mbin E .mul 3 x0 x1) fun v7_1 => (fVal v7_1 fun v => some (.ret v, m)))
def keep111 : Keep := { region := fun i => ([[0, 1], [4]] : List (List Nat))[i]?, exit := fun i => ([] : List (List Nat))[i]?, ret := some [4] }
noncomputable def lp111 (call : CallF) (fuel base : Nat) : Lp := lpsel []
noncomputable def c111 : Code := Try.f111.body.getD .skip
theorem r111_eq (call : CallF) (fuel base : Nat) (x0 : Value) (x1 : Value) (m : M) : kbody E call keep111 (lp111 call fuel base) base Try.f111 [x0, x1] m = r111 call fuel base x0 x1 m := by
  kernel_rfl
noncomputable def rf111 : RF := fun call fuel base args m => match args with
  | [x0, x1] => r111 call fuel base x0 x1 m
  | _ => none
theorem r111_lk (call : CallF) (fuel base : Nat) : LoopsOk E call (lp111 call fuel base) fuel base 0 c111 = (And True (And True True)) := by kernel_rfl
theorem r111_fn : E.P.funcs[111]? = some Try.f111 := by kernel_rfl
theorem r111_body : Try.f111.body = some c111 := by kernel_rfl
theorem rf111_ok : RFok E 111 rf111 := by
  show RFok' E 111 rf111
  refine ⟨Try.f111, r111_fn, fun call fuel base args m r _ h => ?_⟩
  unfold rf111 at h
  split at h
  · rw [← r111_eq] at h
    exact kbody_sound (c := c111) r111_body (Eq.mpr (r111_lk call fuel base) (And.intro trivial (And.intro trivial trivial))) h
  · simp at h
end Go.AM
namespace Go.AM
open Go Go.Proofs
noncomputable def r112 (call : CallF) (fuel base : Nat) (x0 : Value) (x1 : Value) (m : M) : Res2 :=
  (k1 (mbin E .sub 3 x0 x1) fun v7_1 => (fVal v7_1 fun v => some (.ret v, m)))
def keep112 : Keep := { region := fun i => ([[0, 1], [4]] : List (List Nat))[i]?, exit := fun i => ([] : List (List Nat))[i]?, ret := some [4] }
noncomputable def lp112 (call : CallF) (fuel base : Nat) : Lp := lpsel []
noncomputable def c112 : Code := Try.f112.body.getD .skip
theorem r112_eq (call : CallF) (fuel base : Nat) (x0 : Value) (x1 : Value) (m : M) : kbody E call keep112 (lp112 call fuel base) base Try.f112 [x0, x1] m = r112 call fuel base x0 x1 m := by
  kernel_rfl
noncomputable def rf112 : RF := fun call fuel base args m => match args with
  | [x0, x1] => r112 call fuel base x0 x1 m
  | _ => none
theorem r112_lk (call : CallF) (fuel base : Nat) : LoopsOk E call (lp112 call fuel base) fuel base 0 c112 = (And True (And True True)) := by kernel_rfl
theorem r112_fn : E.P.funcs[112]? = some Try.f112 := by kernel_rfl
theorem r112_body : Try.f112.body = some c112 := by kernel_rfl
theorem rf112_ok : RFok E 112 rf112 := by
  show RFok' E 112 rf112
  refine ⟨Try.f112, r112_fn, fun call fuel base args m r _ h => ?_⟩
  unfold rf112 at h
  split at h
  · rw [← r112_eq] at h
    exact kbody_sound (c := c112) r112_body (Eq.mpr (r112_lk call fuel base) (And.intro trivial (And.intro trivial trivial))) h
  · simp at h
end Go.AM
namespace Go.AM
open Go Go.Proofs
noncomputable def r113 (call : CallF) (fuel base : Nat) (x0 : Value) (x1 : Value) (m : M) : Res2 :=
  (k1 (mbin E .quo 3 x0 x1) fun v7_1 => (fVal v7_1 fun v => some (.ret v, m)))
def keep113 : Keep := { region := fun i => ([[0, 1], [4]] : List (List Nat))[i]?, exit := fun i => ([] : List (List Nat))[i]?, ret := some [4] }
noncomputable def lp113 (call : CallF) (fuel base : Nat) : Lp := lpsel []
noncomputable def c113 : Code := Try.f113.body.getD .skip
theorem r113_eq (call : CallF) (fuel base : Nat) (x0 : Value) (x1 : Value) (m : M) : kbody E call keep113 (lp113 call fuel base) base Try.f113 [x0, x1] m = r113 call fuel base x0 x1 m := by
  kernel_rfl
noncomputable def rf113 : RF := fun call fuel base args m => match args with
  | [x0, x1] => r113 call fuel base x0 x1 m
  | _ => none
theorem r113_lk (call : CallF) (fuel base : Nat) : LoopsOk E call (lp113 call fuel base) fuel base 0 c113 = (And True (And True True)) := by kernel_rfl
theorem r113_fn : E.P.funcs[113]? = some Try.f113 := by kernel_rfl
theorem r113_body : Try.f113.body = some c113 := by kernel_rfl
theorem rf113_ok : RFok E 113 rf113 := by
  show RFok' E 113 rf113
  refine ⟨Try.f113, r113_fn, fun call fuel base args m r _ h => ?_⟩
  unfold rf113 at h
  split at h
  · rw [← r113_eq] at h
    exact kbody_sound (c := c113) r113_body (Eq.mpr (r113_lk call fuel base) (And.intro trivial (And.intro trivial trivial))) h
  · simp at h
end Go.AM
namespace Go.AM
open Go Go.Proofs
noncomputable def r114_L0 (call : CallF) (fuel base : Nat) (kp : Value → M → Res2) (kx0 : M → Res2) (n : Nat) : Value → Value → Value → Value → Value → M → Res2 :=
  Nat.rec (motive := fun _ => Value → Value → Value → Value → Value → M → Res2) (fun _ _ _ _ _ _ => none)
    (fun _ ih x1 x5 x6 x19 x20 m =>
      (k1 (mbin E .lss 3 x20 x19) fun v21_10 => (kb v21_10 (k1 (mindexAddr E.P 76 x6 x1) fun v25_11 => (ks (xstore E.P base m 3 v25_11 x20) fun m => (k1 (xload E.P m 134 x5) fun v26_12 => (k1 (xload E.P m 76 x6) fun v27_13 => (k1 (mbin E .add 3 x1 (.int .i64 1)) fun v29_14 => (kc (kv call base v26_12 [v27_13, v29_14, x20] m) (fun v31_15 m => (k1 (mbin E .add 3 x20 (.int .i64 1)) fun v32_16 => (ih x1 x5 x6 x19 v32_16 m))) (fun v m => kp v m))))))) (kx0 m)))) n
noncomputable def r114 (call : CallF) (fuel base : Nat) (x0 : Value) (x1 : Value) (x2 : Value) (x3 : Value) (x4 : Value) (x5 : Value) (m : M) : Res2 :=
  (k2 (xbox m x0) fun v6_1 m => (k1 (mfieldAddr E.P 23 x3 1) fun v11_2 => (k1 (xload E.P m 3 v11_2) fun v12_3 => (k1 (mbin E .eql 3 x1 v12_3) fun v13_4 => (kb v13_4 (k1 (xload E.P m 104 x4) fun v14_5 => (k1 (xload E.P m 76 v6_1) fun v15_6 => (k2 (xbuildSlice E.P m 104 1 [(0, v15_6)]) fun v16_7 m => (k2 (vcall E.P base m .append [104, 104] [v14_5, v16_7]) fun v17_8 m => (ks (xstore E.P base m 104 x4 v17_8) fun m => (some (.ret (.tuple #[]), m))))))) (k1 (mbin E .add 3 x2 (.int .i64 1)) fun v19_9 => (r114_L0 call fuel base (fun v m => some (.pan v, m)) (fun m => (some (.ret (.tuple #[]), m))) fuel x1 x5 v6_1 v19_9 (.int .i64 0) m)))))))
def keep114 : Keep := { region := fun i => ([[1, 2, 3, 4, 5, 6], [1, 2, 4, 5, 6, 13], [], [1, 5, 6, 19, 20], [1, 5, 6, 19, 20, 21], [1, 5, 6, 9, 19, 20], [1, 5, 6, 9, 19, 20], [1, 5, 6, 19, 20], [1, 5, 6, 19, 20]] : List (List Nat))[i]?, exit := fun i => ([[], [1, 5, 6, 19, 20]] : List (List Nat))[i]?, ret := some [] }
noncomputable def r114_L0_R (call : CallF) (fuel base n : Nat) (vs : List Value) (m : M) (K : KT) : Res2 := match vs with
  | [x1, x5, x6, x19, x20] => r114_L0 call fuel base (fun v m => K (.pan v) { n := 33, l := [] } m) (fun m => K (.exit 0) { n := 33, l := [] } m) n x1 x5 x6 x19 x20 m
  | _ => none
noncomputable def lp114 (call : CallF) (fuel base : Nat) : Lp := lpsel [(0, fun T m K => kslots 33 [1, 5, 6, 19, 20] T fun vs => r114_L0_R call fuel base fuel vs m K)]
noncomputable def c114 : Code := Try.f114.body.getD .skip
theorem r114_L0_lk (call : CallF) (fuel base : Nat) : LoopsOk E call (lp114 call fuel base) fuel base 0 (loopB (blockB (seqR (seqR (seqR c114))))) = (And True (And (And True True) (And (And True (And True True)) True))) := by kernel_rfl
theorem r114_L0_ok (call : CallF) (fuel base : Nat) : LpOk E call (lp114 call fuel base) fuel base 0 (loopB (blockB (seqR (seqR (seqR c114))))) := by
  refine loop_ok (kp := keep114) (hb := Eq.mpr (r114_L0_lk call fuel base) (And.intro trivial (And.intro (And.intro trivial trivial) (And.intro (And.intro trivial (And.intro trivial trivial)) trivial)))) 33 [1, 5, 6, 19, 20] (fun n vs m K => r114_L0_R call fuel base n vs m K) ?_ ?_ (fun _ _ _ => rfl)
  · intro vs m K
    unfold r114_L0_R
    split <;> rfl
  · intro n vs m K hl
    match vs, hl with
    | [x1, x5, x6, x19, x20], _ => show _ = _; kernel_rfl
theorem r114_eq (call : CallF) (fuel base : Nat) (x0 : Value) (x1 : Value) (x2 : Value) (x3 : Value) (x4 : Value) (x5 : Value) (m : M) : kbody E call keep114 (lp114 call fuel base) base Try.f114 [x0, x1, x2, x3, x4, x5] m = r114 call fuel base x0 x1 x2 x3 x4 x5 m := by
  kernel_rfl
noncomputable def rf114 : RF := fun call fuel base args m => match args with
  | [x0, x1, x2, x3, x4, x5] => r114 call fuel base x0 x1 x2 x3 x4 x5 m
  | _ => none
theorem r114_lk (call : CallF) (fuel base : Nat) : LoopsOk E call (lp114 call fuel base) fuel base 0 c114 = (And True (And (And True (And (And True True) True)) (And True (LpOk E call (lp114 call fuel base) fuel base 0 (loopB (blockB (seqR (seqR (seqR c114))))))))) := by kernel_rfl
theorem r114_fn : E.P.funcs[114]? = some Try.f114 := by kernel_rfl
theorem r114_body : Try.f114.body = some c114 := by kernel_rfl
theorem rf114_ok : RFok E 114 rf114 := by
  show RFok' E 114 rf114
  refine ⟨Try.f114, r114_fn, fun call fuel base args m r _ h => ?_⟩
  unfold rf114 at h
  split at h
  · rw [← r114_eq] at h
    exact kbody_sound (c := c114) r114_body (Eq.mpr (r114_lk call fuel base) (And.intro trivial (And.intro (And.intro trivial (And.intro (And.intro trivial trivial) trivial)) (And.intro trivial (r114_L0_ok call fuel base))))) h
  · simp at h
end Go.AM
namespace Go.AM
open Go Go.Proofs
noncomputable def r115 (call : CallF) (fuel base : Nat) (x0 : Value) (x1 : Value) (m : M) : Res2 :=
  (kc (call base 128 [x0, x1] m) (fun v25_1 m => (k1 (mextract 0 v25_1) fun v26_2 => (k1 (mextract 1 v25_1) fun v27_3 => (some (.ret (.tuple #[v26_2, v27_3]), m))))) (fun v m => some (.pan v, m)))
def keep115 : Keep := { region := fun i => ([[0, 1], [6, 7], [4, 5], [8, 9], [4, 5]] : List (List Nat))[i]?, exit := fun i => ([] : List (List Nat))[i]?, ret := some [4, 5] }
noncomputable def lp115 (call : CallF) (fuel base : Nat) : Lp := lpsel []
noncomputable def c115 : Code := Try.f115.body.getD .skip
theorem r115_eq (call : CallF) (fuel base : Nat) (x0 : Value) (x1 : Value) (m : M) : kbody E call keep115 (lp115 call fuel base) base Try.f115 [x0, x1] m = r115 call fuel base x0 x1 m := by
  kernel_rfl
noncomputable def rf115 : RF := fun call fuel base args m => match args with
  | [x0, x1] => r115 call fuel base x0 x1 m
  | _ => none
theorem r115_lk (call : CallF) (fuel base : Nat) : LoopsOk E call (lp115 call fuel base) fuel base 0 c115 = (And True (And (And (And True (And True True)) True) (And True (And True True)))) := by kernel_rfl
theorem r115_fn : E.P.funcs[115]? = some Try.f115 := by kernel_rfl
theorem r115_body : Try.f115.body = some c115 := by kernel_rfl
theorem rf115_ok : RFok E 115 rf115 := by
  show RFok' E 115 rf115
  refine ⟨Try.f115, r115_fn, fun call fuel base args m r _ h => ?_⟩
  unfold rf115 at h
  split at h
  · rw [← r115_eq] at h
    exact kbody_sound (c := c115) r115_body (Eq.mpr (r115_lk call fuel base) (And.intro trivial (And.intro (And.intro (And.intro trivial (And.intro trivial trivial)) trivial) (And.intro trivial (And.intro trivial trivial))))) h
  · simp at h
end Go.AM
namespace Go.AM
open Go Go.Proofs
noncomputable def r127 (call : CallF) (fuel base : Nat) (x0 : Value) (x1 : Value) (m : M) : Res2 :=
  (k1 (mconvert E.P 58 147 x0) fun v8_1 => (k1 (mconvert E.P 58 147 x1) fun v10_2 => (k1 (mbin E .mul 147 v8_1 v10_2) fun v11_3 => (k1 (mbin E .shr 147 v11_3 (.int .u64 32)) fun v13_4 => (k1 (mconvert E.P 147 58 v13_4) fun v14_5 => (k1 (mconvert E.P 147 58 v11_3) fun v16_6 => (some (.ret (.tuple #[v14_5, v16_6]), m))))))))
def keep127 : Keep := { region := fun i => ([[0, 1], [6], [4, 5]] : List (List Nat))[i]?, exit := fun i => ([] : List (List Nat))[i]?, ret := some [4, 5] }
noncomputable def lp127 (call : CallF) (fuel base : Nat) : Lp := lpsel []
noncomputable def c127 : Code := Try.f127.body.getD .skip
theorem r127_eq (call : CallF) (fuel base : Nat) (x0 : Value) (x1 : Value) (m : M) : kbody E call keep127 (lp127 call fuel base) base Try.f127 [x0, x1] m = r127 call fuel base x0 x1 m := by
  kernel_rfl
noncomputable def rf127 : RF := fun call fuel base args m => match args with
  | [x0, x1] => r127 call fuel base x0 x1 m
  | _ => none
theorem r127_lk (call : CallF) (fuel base : Nat) : LoopsOk E call (lp127 call fuel base) fuel base 0 c127 = (And True (And True (And True True))) := by kernel_rfl
theorem r127_fn : E.P.funcs[127]? = some Try.f127 := by kernel_rfl
theorem r127_body : Try.f127.body = some c127 := by kernel_rfl
theorem rf127_ok : RFok E 127 rf127 := by
  show RFok' E 127 rf127
  refine ⟨Try.f127, r127_fn, fun call fuel base args m r _ h => ?_⟩
  unfold rf127 at h
  split at h
  · rw [← r127_eq] at h
    exact kbody_sound (c := c127) r127_body (Eq.mpr (r127_lk call fuel base) (And.intro trivial (And.intro trivial (And.intro trivial trivial)))) h
  · simp at h
end Go.AM
namespace Go.AM
open Go Go.Proofs
noncomputable def r128 (call : CallF) (fuel base : Nat) (x0 : Value) (x1 : Value) (m : M) : Res2 :=
  (k1 (mbin E .and 147 x0 (.int .u64 4294967295)) fun v15_1 => (k1 (mbin E .shr 147 x0 (.int .u64 32)) fun v17_2 => (k1 (mbin E .and 147 x1 (.int .u64 4294967295)) fun v19_3 => (k1 (mbin E .shr 147 x1 (.int .u64 32)) fun v21_4 => (k1 (mbin E .mul 147 v15_1 v19_3) fun v24_5 => (k1 (mbin E .mul 147 v17_2 v19_3) fun v27_6 => (k1 (mbin E .shr 147 v24_5 (.int .u64 32)) fun v29_7 => (k1 (mbin E .add 147 v27_6 v29_7) fun v30_8 => (k1 (mbin E .and 147 v30_8 (.int .u64 4294967295)) fun v32_9 => (k1 (mbin E .shr 147 v30_8 (.int .u64 32)) fun v34_10 => (k1 (mbin E .mul 147 v15_1 v21_4) fun v38_11 => (k1 (mbin E .add 147 v32_9 v38_11) fun v39_12 => (k1 (mbin E .mul 147 v17_2 v21_4) fun v42_13 => (k1 (mbin E .add 147 v42_13 v34_10) fun v44_14 => (k1 (mbin E .shr 147 v39_12 (.int .u64 32)) fun v46_15 => (k1 (mbin E .add 147 v44_14 v46_15) fun v47_16 => (k1 (mbin E .mul 147 x0 x1) fun v50_17 => (some (.ret (.tuple #[v47_16, v50_17]), m)))))))))))))))))))
def keep128 : Keep := { region := fun i => ([[0, 1], [0, 1, 6], [0, 1, 6, 7], [0, 1, 6, 7, 8], [0, 1, 6, 7, 8, 9], [0, 1, 6, 7, 8, 9, 10], [0, 1, 6, 7, 9, 11], [0, 1, 6, 7, 9, 11, 12], [0, 1, 6, 7, 9, 12, 13], [0, 1, 7, 9, 12, 13], [0, 1, 4], [4, 5]] : List (List Nat))[i]?, exit := fun i => ([] : List (List Nat))[i]?, ret := some [4, 5] }
noncomputable def lp128 (call : CallF) (fuel base : Nat) : Lp := lpsel []
noncomputable def c128 : Code := Try.f128.body.getD .skip
theorem r128_eq (call : CallF) (fuel base : Nat) (x0 : Value) (x1 : Value) (m : M) : kbody E call keep128 (lp128 call fuel base) base Try.f128 [x0, x1] m = r128 call fuel base x0 x1 m := by
  kernel_rfl
noncomputable def rf128 : RF := fun call fuel base args m => match args with
  | [x0, x1] => r128 call fuel base x0 x1 m
  | _ => none
theorem r128_lk (call : CallF) (fuel base : Nat) : LoopsOk E call (lp128 call fuel base) fuel base 0 c128 = (And True (And True (And True (And True (And True (And True (And True (And True (And True (And True (And True (And True True)))))))))))) := by kernel_rfl
theorem r128_fn : E.P.funcs[128]? = some Try.f128 := by kernel_rfl
theorem r128_body : Try.f128.body = some c128 := by kernel_rfl
theorem rf128_ok : RFok E 128 rf128 := by
  show RFok' E 128 rf128
  refine ⟨Try.f128, r128_fn, fun call fuel base args m r _ h => ?_⟩
  unfold rf128 at h
  split at h
  · rw [← r128_eq] at h
    exact kbody_sound (c := c128) r128_body (Eq.mpr (r128_lk call fuel base) (And.intro trivial (And.intro trivial (And.intro trivial (And.intro trivial (And.intro trivial (And.intro trivial (And.intro trivial (And.intro trivial (And.intro trivial (And.intro trivial (And.intro trivial (And.intro trivial trivial))))))))))))) h
  · simp at h
end Go.AM
namespace Go.AM
open Go Go.Proofs
noncomputable def ytab : List (Nat × RYs) := [(968610, y57_0), (856855, y73_0)]
theorem ytab_ok : ∀ p ∈ ytab, RYsOk E p.1 p.2 := by
  unfold ytab
  simp only [List.mem_cons, forall_eq_or_imp, List.not_mem_nil, false_imp_iff, implies_true, and_true]
  exact ⟨y57_0_ok, y73_0_ok⟩
theorem ry_ok' : RFok E yid (ryOf ytab) := show RYok E (ryOf ytab) from ry_ok ytab_ok
noncomputable def tab : List (Nat × RF) := [(yid, ryOf ytab), (6, rf6), (12, rf12), (14, rf14), (15, rf15), (19, rf19), (24, rf24), (26, rf26), (38, rf38), (39, rf39), (40, rf40), (44, rf44), (47, rf47), (48, rf48), (49, rf49), (50, rf50), (51, rf51), (52, rf52), (54, rf54), (55, rf55), (56, rf56), (57, rf57), (62, rf62), (63, rf63), (64, rf64), (67, rf67), (68, rf68), (70, rf70), (71, rf71), (72, rf72), (73, rf73), (74, rf74), (75, rf75), (76, rf76), (77, rf77), (78, rf78), (80, rf80), (81, rf81), (82, rf82), (83, rf83), (85, rf85), (86, rf86), (87, rf87), (88, rf88), (89, rf89), (95, rf95), (96, rf96), (97, rf97), (98, rf98), (99, rf99), (100, rf100), (101, rf101), (102, rf102), (103, rf103), (104, rf104), (105, rf105), (106, rf106), (111, rf111), (112, rf112), (113, rf113), (114, rf114), (115, rf115), (127, rf127), (128, rf128)]
theorem tab_ok : ∀ p ∈ tab, RFok E p.1 p.2 := by
  unfold tab
  simp only [List.mem_cons, forall_eq_or_imp, List.not_mem_nil, false_imp_iff, implies_true, and_true]
  exact ⟨ry_ok', rf6_ok, rf12_ok, rf14_ok, rf15_ok, rf19_ok, rf24_ok, rf26_ok, rf38_ok, rf39_ok, rf40_ok, rf44_ok, rf47_ok, rf48_ok, rf49_ok, rf50_ok, rf51_ok, rf52_ok, rf54_ok, rf55_ok, rf56_ok, rf57_ok, rf62_ok, rf63_ok, rf64_ok, rf67_ok, rf68_ok, rf70_ok, rf71_ok, rf72_ok, rf73_ok, rf74_ok, rf75_ok, rf76_ok, rf77_ok, rf78_ok, rf80_ok, rf81_ok, rf82_ok, rf83_ok, rf85_ok, rf86_ok, rf87_ok, rf88_ok, rf89_ok, rf95_ok, rf96_ok, rf97_ok, rf98_ok, rf99_ok, rf100_ok, rf101_ok, rf102_ok, rf103_ok, rf104_ok, rf105_ok, rf106_ok, rf111_ok, rf112_ok, rf113_ok, rf114_ok, rf115_ok, rf127_ok, rf128_ok⟩
noncomputable def rc (n : Nat) : CallF := rcall E.pure tab n
theorem rc_sound (n : Nat) : SoundCall E (rc n) := rcall_sound E_good E_mix _ tab_ok n
end Go.AM
