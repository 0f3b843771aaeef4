import Derived.KernelRfl
import Derived.Laws.BytesArg
import Derived.Laws.StructEq
import Derived.RangeFuncLeaves
import Derived.RangeFuncRecord
import Derived.Test.YtnefldkiipdckaaProg
import Derived.Test.YtnefldkiipdckaaRows
import Derived.WalkKit
import Derived.Test.YtnefldkiipdckaaAmB
import Derived.Test.YtnefldkiipdckaaAmG
import Derived.Test.YtnefldkiipdckaaAmModel
import Derived.Test.YtnefldkiipdckaaAmRel
import Derived.Test.YtnefldkiipdckaaAmOps6
import Derived.Test.YtnefldkiipdckaaAmCode
import Derived.Test.YtnefldkiipdckaaAmDraw5
import Derived.Test.YtnefldkiipdckaaAmEq
import Derived.Test.YtnefldkiipdckaaRBase
set_option linter.unusedVariables false
set_option linter.unusedSimpArgs false
set_option linter.unusedSectionVars false
namespace Go.AM
open Go Go.Proofs
noncomputable def r91 (call : CallF) (fuel base : Nat) (x0 : Value) (x1 : Value) (m : M) : Res2 :=
  (k2 (xbox m x1) fun v3_1 m => (k1 (mfieldAddr E.P 36 v3_1 0) fun v4_2 => (k1 (xload E.P m 5 v4_2) fun v5_3 => (k1 (mbin E .rem 5 v5_3 (.int .u8 8)) fun v6_4 => (k1 (mbin E .eql 5 v6_4 (.int .u8 0)) fun v14_5 => (kb v14_5 (k1 (mfieldAddr E.P 36 v3_1 1) fun v16_6 => (k1 (xload E.P m 3 v16_6) fun v17_7 => (k1 (mfieldAddr E.P 36 v3_1 3) fun v18_8 => (k1 (xload E.P m 3 v18_8) fun v19_9 => (kc (call base 24 [x0, v17_7, v19_9] m) (fun v20_10 m => (some (.ret (.tuple #[]), m))) (fun v m => some (.pan v, m))))))) (k1 (mbin E .eql 5 v6_4 (.int .u8 1)) fun v22_11 => (kb v22_11 (k1 (mfieldAddr E.P 36 v3_1 1) fun v25_12 => (k1 (xload E.P m 3 v25_12) fun v26_13 => (k1 (mfieldAddr E.P 36 v3_1 2) fun v27_14 => (k1 (xload E.P m 3 v27_14) fun v28_15 => (k1 (mfieldAddr E.P 36 v3_1 3) fun v29_16 => (k1 (xload E.P m 3 v29_16) fun v30_17 => (kc (call base 23 [x0, v26_13, v28_15, v30_17] m) (fun v31_18 m => (some (.ret (.tuple #[]), m))) (fun v m => some (.pan v, m))))))))) (k1 (mbin E .eql 5 v6_4 (.int .u8 2)) fun v23_19 => (kb v23_19 (k1 (mfieldAddr E.P 36 v3_1 1) fun v25_20 => (k1 (xload E.P m 3 v25_20) fun v26_21 => (k1 (mfieldAddr E.P 36 v3_1 2) fun v27_22 => (k1 (xload E.P m 3 v27_22) fun v28_23 => (k1 (mfieldAddr E.P 36 v3_1 3) fun v29_24 => (k1 (xload E.P m 3 v29_24) fun v30_25 => (kc (call base 23 [x0, v26_21, v28_23, v30_25] m) (fun v31_26 m => (some (.ret (.tuple #[]), m))) (fun v m => some (.pan v, m))))))))) (k1 (mbin E .eql 5 v6_4 (.int .u8 7)) fun v33_27 => (kb v33_27 (k1 (mfieldAddr E.P 36 v3_1 1) fun v35_28 => (k1 (xload E.P m 3 v35_28) fun v36_29 => (kc (call base 27 [x0, v36_29] m) (fun v37_30 m => (some (.ret (.tuple #[]), m))) (fun v m => some (.pan v, m))))) (k1 (mfieldAddr E.P 36 v3_1 1) fun v8_31 => (k1 (xload E.P m 3 v8_31) fun v9_32 => (k1 (mfieldAddr E.P 36 v3_1 2) fun v10_33 => (k1 (xload E.P m 3 v10_33) fun v11_34 => (kc (call base 25 [x0, v9_32, v11_34] m) (fun v12_35 m => (some (.ret (.tuple #[]), m))) (fun v m => some (.pan v, m)))))))))))))))))))
def keep91 : Keep := { region := fun i => ([[0, 3], [0, 3, 6], [], [0, 3, 6, 13], [], [0, 3, 6, 21], [0, 3, 6, 21], [], [0, 3, 32], []] : List (List Nat))[i]?, exit := fun i => ([[]] : List (List Nat))[i]?, ret := some [] }
noncomputable def lp91 (call : CallF) (fuel base : Nat) : Lp := lpsel []
noncomputable def c91 : Code := Try.f91.body.getD .skip
theorem r91_eq (call : CallF) (fuel base : Nat) (x0 : Value) (x1 : Value) (m : M) : kbody E call keep91 (lp91 call fuel base) base Try.f91 [x0, x1] m = r91 call fuel base x0 x1 m := by
  kernel_rfl
noncomputable def rf91 : RF := fun call fuel base args m => match args with
  | [x0, x1] => r91 call fuel base x0 x1 m
  | _ => none
theorem r91_lk (call : CallF) (fuel base : Nat) : LoopsOk E call (lp91 call fuel base) fuel base 0 c91 = (And True (And True (And True (And True (And (And True (And True True)) (And True (And True (And True True)))))))) := by kernel_rfl
theorem r91_fn : E.P.funcs[91]? = some Try.f91 := by kernel_rfl
theorem r91_body : Try.f91.body = some c91 := by kernel_rfl
theorem rf91_ok : RFok E 91 rf91 := by
  show RFok' E 91 rf91
  refine ⟨Try.f91, r91_fn, fun call fuel base args m r _ h => ?_⟩
  unfold rf91 at h
  split at h
  · rw [← r91_eq] at h
    exact kbody_sound (c := c91) r91_body (Eq.mpr (r91_lk call fuel base) (And.intro trivial (And.intro trivial (And.intro trivial (And.intro trivial (And.intro (And.intro trivial (And.intro trivial trivial)) (And.intro trivial (And.intro trivial (And.intro trivial trivial))))))))) h
  · simp at h
end Go.AM
namespace Go.AM
open Go Go.Proofs
noncomputable def r92_L0 (call : CallF) (fuel base : Nat) (kp : Value → M → Res2) (kr : Value → M → Res2) (kx0 : M → Res2) (n : Nat) : Value → Value → Value → Value → M → Res2 :=
  Nat.rec (motive := fun _ => Value → Value → Value → Value → M → Res2) (fun _ _ _ _ _ => none)
    (fun _ ih x0 x1 x7 x8 m =>
      (k1 (mbin E .lss 3 x8 x7) fun v9_2 => (kb v9_2 (k1 (mindexAddr E.P 22 x0 x8) fun v14_3 => (k1 (xload E.P m 3 v14_3) fun v15_4 => (kc (kv call base x1 [v15_4] m) (fun v16_5 m => (kb v16_5 (kr x8 m) (k1 (mbin E .add 3 x8 (.int .i64 1)) fun v18_6 => (ih x0 x1 x7 v18_6 m)))) (fun v m => kp v m)))) (kx0 m)))) n
noncomputable def r92 (call : CallF) (fuel base : Nat) (x0 : Value) (x1 : Value) (m : M) : Res2 :=
  (k2 (vcall E.P base m .len [22] [x0]) fun v7_1 m => (r92_L0 call fuel base (fun v m => some (.pan v, m)) (fun y4_7 m => (fVal y4_7 fun v => some (.ret v, m))) (fun m => (fVal (.int .i64 (-1)) fun v => some (.ret v, m))) fuel x0 x1 v7_1 (.int .i64 0) m))
def keep92 : Keep := { region := fun i => ([[0, 1], [0, 1, 7, 8], [0, 1, 7, 8, 9], [0, 1, 5, 7, 8], [0, 1, 5, 7, 8, 16], [4], [0, 1, 7, 8], [4]] : List (List Nat))[i]?, exit := fun i => ([[], [0, 1, 7, 8]] : List (List Nat))[i]?, ret := some [4] }
noncomputable def r92_L0_R (call : CallF) (fuel base n : Nat) (vs : List Value) (m : M) (K : KT) : Res2 := match vs with
  | [x0, x1, x7, x8] => r92_L0 call fuel base (fun v m => K (.pan v) { n := 19, l := [] } m) (fun y4 m => K .ret { n := 19, l := [(4, y4)] } m) (fun m => K (.exit 0) { n := 19, l := [] } m) n x0 x1 x7 x8 m
  | _ => none
noncomputable def lp92 (call : CallF) (fuel base : Nat) : Lp := lpsel [(0, fun T m K => kslots 19 [0, 1, 7, 8] T fun vs => r92_L0_R call fuel base fuel vs m K)]
noncomputable def c92 : Code := Try.f92.body.getD .skip
theorem r92_L0_lk (call : CallF) (fuel base : Nat) : LoopsOk E call (lp92 call fuel base) fuel base 0 (loopB (blockB (seqR (seqL (seqR c92))))) = (And True (And (And True True) (And (And True (And True (And (And True True) True))) True))) := by kernel_rfl
theorem r92_L0_ok (call : CallF) (fuel base : Nat) : LpOk E call (lp92 call fuel base) fuel base 0 (loopB (blockB (seqR (seqL (seqR c92))))) := by
  refine loop_ok (kp := keep92) (hb := Eq.mpr (r92_L0_lk call fuel base) (And.intro trivial (And.intro (And.intro trivial trivial) (And.intro (And.intro trivial (And.intro trivial (And.intro (And.intro trivial trivial) trivial))) trivial)))) 19 [0, 1, 7, 8] (fun n vs m K => r92_L0_R call fuel base n vs m K) ?_ ?_ (fun _ _ _ => rfl)
  · intro vs m K
    unfold r92_L0_R
    split <;> rfl
  · intro n vs m K hl
    match vs, hl with
    | [x0, x1, x7, x8], _ => show _ = _; kernel_rfl
theorem r92_eq (call : CallF) (fuel base : Nat) (x0 : Value) (x1 : Value) (m : M) : kbody E call keep92 (lp92 call fuel base) base Try.f92 [x0, x1] m = r92 call fuel base x0 x1 m := by
  kernel_rfl
noncomputable def rf92 : RF := fun call fuel base args m => match args with
  | [x0, x1] => r92 call fuel base x0 x1 m
  | _ => none
theorem r92_lk (call : CallF) (fuel base : Nat) : LoopsOk E call (lp92 call fuel base) fuel base 0 c92 = (And True (And (And True (LpOk E call (lp92 call fuel base) fuel base 0 (loopB (blockB (seqR (seqL (seqR c92))))))) (And True True))) := by kernel_rfl
theorem r92_fn : E.P.funcs[92]? = some Try.f92 := by kernel_rfl
theorem r92_body : Try.f92.body = some c92 := by kernel_rfl
theorem rf92_ok : RFok E 92 rf92 := by
  show RFok' E 92 rf92
  refine ⟨Try.f92, r92_fn, fun call fuel base args m r _ h => ?_⟩
  unfold rf92 at h
  split at h
  · rw [← r92_eq] at h
    exact kbody_sound (c := c92) r92_body (Eq.mpr (r92_lk call fuel base) (And.intro trivial (And.intro (And.intro trivial (r92_L0_ok call fuel base)) (And.intro trivial trivial)))) h
  · simp at h
end Go.AM
namespace Go.AM
open Go Go.Proofs
noncomputable def r100 (call : CallF) (fuel base : Nat) (x0 : Value) (x1 : Value) (m : M) : Res2 :=
  (k2 (xbox m x1) fun v3_1 m => (k1 (mnil x0) fun v6_2 => (k1 (mfieldAddr E.P 57 v6_2 0) fun v7_3 => (k1 (xload E.P m 53 v7_3) fun v8_4 => (k1 (mfieldAddr E.P 72 v3_1 0) fun v9_5 => (k1 (xload E.P m 3 v9_5) fun v10_6 => (k1 (mindexAddr E.P 53 v8_4 v10_6) fun v11_7 => (k1 (mfieldAddr E.P 72 v3_1 0) fun v13_8 => (k1 (xload E.P m 3 v13_8) fun v14_9 => (k1 (mnil v11_7) fun v15_10 => (k1 (mfieldAddr E.P 114 v15_10 1) fun v16_11 => (k1 (mindexAddr E.P 112 v16_11 v14_9) fun v17_12 => (k1 (xload E.P m 3 v17_12) fun v18_13 => (k1 (mbin E .add 3 v18_13 (.int .i64 1)) fun v19_14 => (k1 (mnil v11_7) fun v20_15 => (k1 (mfieldAddr E.P 114 v20_15 1) fun v21_16 => (k1 (mindexAddr E.P 112 v21_16 v14_9) fun v22_17 => (ks (xstore E.P base m 3 v22_17 v19_14) fun m => (k1 (mnil v11_7) fun v24_18 => (k1 (mfieldAddr E.P 114 v24_18 1) fun v25_19 => (k1 (mnil x0) fun v27_20 => (k1 (mfieldAddr E.P 57 v27_20 0) fun v28_21 => (k1 (xload E.P m 53 v28_21) fun v29_22 => (k2 (vcall E.P base m .len [53] [v29_22]) fun v30_23 m => (k1 (mslice E.P m 112 v25_19 none (some v30_23) none) fun v31_24 => (kc (kB m (call m.length 74 [v31_24] m)) (fun v32_25 m => (k1 (mfieldAddr E.P 72 v3_1 4) fun v33_26 => (ks (xstore E.P base m 22 v33_26 v32_25) fun m => (k1 (mnil x0) fun v36_27 => (k1 (mfieldAddr E.P 57 v36_27 2) fun v37_28 => (k1 (xload E.P m 45 v37_28) fun v38_29 => (k1 (xload E.P m 72 v3_1) fun v39_30 => (k2 (xbuildSlice E.P m 45 1 [(0, v39_30)]) fun v40_31 m => (k2 (vcall E.P base m .append [45, 45] [v38_29, v40_31]) fun v41_32 m => (k1 (mnil x0) fun v42_33 => (k1 (mfieldAddr E.P 57 v42_33 2) fun v43_34 => (ks (xstore E.P base m 45 v43_34 v41_32) fun m => (some (.ret (.tuple #[]), m)))))))))))))) (fun _ _ => none)))))))))))))))))))))))))))
def keep100 : Keep := { region := fun i => ([[0, 3], [0, 3, 4], [0, 3, 4], [0, 3], []] : List (List Nat))[i]?, exit := fun i => ([] : List (List Nat))[i]?, ret := some [] }
noncomputable def lp100 (call : CallF) (fuel base : Nat) : Lp := lpsel []
noncomputable def c100 : Code := Try.f100.body.getD .skip
theorem r100_eq (call : CallF) (fuel base : Nat) (x0 : Value) (x1 : Value) (m : M) : kbody E call keep100 (lp100 call fuel base) base Try.f100 [x0, x1] m = r100 call fuel base x0 x1 m := by
  kernel_rfl
noncomputable def rf100 : RF := fun call fuel base args m => match args with
  | [x0, x1] => r100 call fuel base x0 x1 m
  | _ => none
theorem r100_lk (call : CallF) (fuel base : Nat) : LoopsOk E call (lp100 call fuel base) fuel base 0 c100 = (And True (And True (And True (And True True)))) := by kernel_rfl
theorem r100_fn : E.P.funcs[100]? = some Try.f100 := by kernel_rfl
theorem r100_body : Try.f100.body = some c100 := by kernel_rfl
theorem rf100_ok : RFok E 100 rf100 := by
  show RFok' E 100 rf100
  refine ⟨Try.f100, r100_fn, fun call fuel base args m r _ h => ?_⟩
  unfold rf100 at h
  split at h
  · rw [← r100_eq] at h
    exact kbody_sound (c := c100) r100_body (Eq.mpr (r100_lk call fuel base) (And.intro trivial (And.intro trivial (And.intro trivial (And.intro trivial trivial))))) h
  · simp at h
end Go.AM
namespace Go.AM
open Go Go.Proofs
noncomputable def r101 (call : CallF) (fuel base : Nat) (x0 : Value) (x1 : Value) (x2 : Value) (x3 : Value) (m : M) : Res2 :=
  (k1 (mnil x0) fun v9_1 => (k1 (mfieldAddr E.P 57 v9_1 1) fun v10_2 => (kexv (mexact m v10_2) (k1 (xload E.P m 54 v10_2) fun v11_3 => (k1 (mindexAddr E.P 54 v11_3 x1) fun v13_4 => (kexv (mexact m v13_4) (k1 (xload E.P m 104 v13_4) fun v14_5 => (k1 (mnil x0) fun v17_6 => (k1 (mfieldAddr E.P 57 v17_6 1) fun v18_7 => (k1 (xload E.P m 54 v18_7) fun v19_8 => (k1 (mindexAddr E.P 54 v19_8 x1) fun v21_9 => (k1 (xload E.P m 104 v21_9) fun v22_10 => (k1 (mindexAddr E.P 104 v22_10 x2) fun v24_11 => (k1 (xload E.P m 103 v24_11) fun v25_12 => (k2 (xbuildSlice E.P m 103 1 [(0, x3)]) fun v27_13 m => (kexv (mdifV [v25_12, v27_13] [v10_2, v13_4]) (k2 (vcall E.P base m .append [103, 103] [v25_12, v27_13]) fun v28_14 m => (k1 (mindexAddr E.P 104 v14_5 x2) fun v29_15 => (ks (xstore E.P base m 103 v29_15 v28_14) fun m => (some (.ret (.tuple #[]), m)))))))))))))))))))))
def keep101 : Keep := { region := fun i => ([[]] : List (List Nat))[i]?, exit := fun i => ([] : List (List Nat))[i]?, ret := some [] }
noncomputable def lp101 (call : CallF) (fuel base : Nat) : Lp := lpsel []
noncomputable def c101 : Code := Try.f101.body.getD .skip
theorem r101_eq (call : CallF) (fuel base : Nat) (x0 : Value) (x1 : Value) (x2 : Value) (x3 : Value) (m : M) : kbody E call keep101 (lp101 call fuel base) base Try.f101 [x0, x1, x2, x3] m = r101 call fuel base x0 x1 x2 x3 m := by
  kernel_rfl
noncomputable def rf101 : RF := fun call fuel base args m => match args with
  | [x0, x1, x2, x3] => r101 call fuel base x0 x1 x2 x3 m
  | _ => none
theorem r101_lk (call : CallF) (fuel base : Nat) : LoopsOk E call (lp101 call fuel base) fuel base 0 c101 = True := by kernel_rfl
theorem r101_fn : E.P.funcs[101]? = some Try.f101 := by kernel_rfl
theorem r101_body : Try.f101.body = some c101 := by kernel_rfl
theorem rf101_ok : RFok E 101 rf101 := by
  show RFok' E 101 rf101
  refine ⟨Try.f101, r101_fn, fun call fuel base args m r _ h => ?_⟩
  unfold rf101 at h
  split at h
  · rw [← r101_eq] at h
    exact kbody_sound (c := c101) r101_body (Eq.mpr (r101_lk call fuel base) trivial) h
  · simp at h
end Go.AM
namespace Go.AM
open Go Go.Proofs
noncomputable def r102 (call : CallF) (fuel base : Nat) (x0 : Value) (x1 : Value) (x2 : Value) (m : M) : Res2 :=
  (k1 (mnil x0) fun v8_1 => (k1 (mfieldAddr E.P 147 v8_1 3) fun v9_2 => (k1 (mindexAddr E.P 144 v9_2 x1) fun v10_3 => (k1 (xload E.P m 4 v10_3) fun v11_4 => (kb v11_4 (k1 (mnil x0) fun v16_5 => (k1 (mfieldAddr E.P 147 v16_5 4) fun v17_6 => (k1 (mindexAddr E.P 145 v17_6 x1) fun v18_7 => (k1 (xload E.P m 22 v18_7) fun v19_8 => (k2 (xbuildSlice E.P m 22 1 [(0, x2)]) fun v21_9 m => (k2 (vcall E.P base m .append [22, 22] [v19_8, v21_9]) fun v22_10 m => (k1 (mnil x0) fun v23_11 => (k1 (mfieldAddr E.P 147 v23_11 4) fun v24_12 => (k1 (mindexAddr E.P 145 v24_12 x1) fun v25_13 => (ks (xstore E.P base m 22 v25_13 v22_10) fun m => (some (.ret (.tuple #[]), m)))))))))))) (some (.ret (.tuple #[]), m)))))))
def keep102 : Keep := { region := fun i => ([[0, 1, 2, 11], []] : List (List Nat))[i]?, exit := fun i => ([] : List (List Nat))[i]?, ret := some [] }
noncomputable def lp102 (call : CallF) (fuel base : Nat) : Lp := lpsel []
noncomputable def c102 : Code := Try.f102.body.getD .skip
theorem r102_eq (call : CallF) (fuel base : Nat) (x0 : Value) (x1 : Value) (x2 : Value) (m : M) : kbody E call keep102 (lp102 call fuel base) base Try.f102 [x0, x1, x2] m = r102 call fuel base x0 x1 x2 m := by
  kernel_rfl
noncomputable def rf102 : RF := fun call fuel base args m => match args with
  | [x0, x1, x2] => r102 call fuel base x0 x1 x2 m
  | _ => none
theorem r102_lk (call : CallF) (fuel base : Nat) : LoopsOk E call (lp102 call fuel base) fuel base 0 c102 = (And True (And True True)) := by kernel_rfl
theorem r102_fn : E.P.funcs[102]? = some Try.f102 := by kernel_rfl
theorem r102_body : Try.f102.body = some c102 := by kernel_rfl
theorem rf102_ok : RFok E 102 rf102 := by
  show RFok' E 102 rf102
  refine ⟨Try.f102, r102_fn, fun call fuel base args m r _ h => ?_⟩
  unfold rf102 at h
  split at h
  · rw [← r102_eq] at h
    exact kbody_sound (c := c102) r102_body (Eq.mpr (r102_lk call fuel base) (And.intro trivial (And.intro trivial trivial))) h
  · simp at h
end Go.AM
namespace Go.AM
open Go Go.Proofs
noncomputable def r103_L0 (call : CallF) (fuel base : Nat) (kx0 : Value → Value → M → Res2) (n : Nat) : Value → Value → Value → Value → M → Res2 :=
  Nat.rec (motive := fun _ => Value → Value → Value → Value → M → Res2) (fun _ _ _ _ _ => none)
    (fun _ ih x2 x4 x7 x8 m =>
      (k1 (mbin E .lss 3 x8 (.int .i64 5)) fun v9_5 => (kb v9_5 (k1 (mindex E.P 112 x7 x8) fun v11_6 => (k1 (mindexAddr E.P 112 x2 x8) fun v14_7 => (k1 (xload E.P m 3 v14_7) fun v15_8 => (k2 (vcall E.P base m .max [3, 3] [v15_8, v11_6]) fun v17_9 m => (k1 (mindexAddr E.P 112 x2 x8) fun v18_10 => (ks (xstore E.P base m 3 v18_10 v17_9) fun m => (k1 (mbin E .add 3 x8 (.int .i64 1)) fun v19_11 => (ih x2 x4 x7 v19_11 m)))))))) (kx0 x2 x4 m)))) n
noncomputable def r103 (call : CallF) (fuel base : Nat) (x0 : Value) (x1 : Value) (m : M) : Res2 :=
  (k2 (xbox m x0) fun v2_1 m => (k2 (xbox m x1) fun v3_2 m => (k2 (xalloc E.P m 112) fun v4_3 m => (k1 (xload E.P m 112 v3_2) fun v7_4 => (r103_L0 call fuel base (fun y2_12 y4_13 m => (k1 (xload E.P m 112 y2_12) fun v20_14 => (ks (xstore E.P base m 112 y4_13 v20_14) fun m => (k0 (mload E.P m 112 y4_13) fun r_15 => (fVal r_15 fun v => some (.ret v, m)))))) fuel v2_1 v4_3 v7_4 (.int .i64 0) m)))))
def keep103 : Keep := { region := fun i => ([[2, 3, 4], [2, 4, 7, 8], [2, 4, 7, 8, 9], [2, 4, 5, 6, 7, 8], [2, 4, 7, 8], [2, 4, 7, 8], [4]] : List (List Nat))[i]?, exit := fun i => ([[2, 4], [2, 4, 7, 8]] : List (List Nat))[i]?, ret := some [4] }
noncomputable def r103_L0_R (call : CallF) (fuel base n : Nat) (vs : List Value) (m : M) (K : KT) : Res2 := match vs with
  | [x2, x4, x7, x8] => r103_L0 call fuel base (fun y2 y4 m => K (.exit 0) { n := 21, l := [(2, y2), (4, y4)] } m) n x2 x4 x7 x8 m
  | _ => none
noncomputable def lp103 (call : CallF) (fuel base : Nat) : Lp := lpsel [(0, fun T m K => kslots 21 [2, 4, 7, 8] T fun vs => r103_L0_R call fuel base fuel vs m K)]
noncomputable def c103 : Code := Try.f103.body.getD .skip
theorem r103_L0_lk (call : CallF) (fuel base : Nat) : LoopsOk E call (lp103 call fuel base) fuel base 0 (loopB (blockB (seqR (seqL (seqR c103))))) = (And True (And (And True True) (And (And True True) True))) := by kernel_rfl
theorem r103_L0_ok (call : CallF) (fuel base : Nat) : LpOk E call (lp103 call fuel base) fuel base 0 (loopB (blockB (seqR (seqL (seqR c103))))) := by
  refine loop_ok (kp := keep103) (hb := Eq.mpr (r103_L0_lk call fuel base) (And.intro trivial (And.intro (And.intro trivial trivial) (And.intro (And.intro trivial trivial) trivial)))) 21 [2, 4, 7, 8] (fun n vs m K => r103_L0_R call fuel base n vs m K) ?_ ?_ (fun _ _ _ => rfl)
  · intro vs m K
    unfold r103_L0_R
    split <;> rfl
  · intro n vs m K hl
    match vs, hl with
    | [x2, x4, x7, x8], _ => show _ = _; kernel_rfl
theorem r103_eq (call : CallF) (fuel base : Nat) (x0 : Value) (x1 : Value) (m : M) : kbody E call keep103 (lp103 call fuel base) base Try.f103 [x0, x1] m = r103 call fuel base x0 x1 m := by
  kernel_rfl
noncomputable def rf103 : RF := fun call fuel base args m => match args with
  | [x0, x1] => r103 call fuel base x0 x1 m
  | _ => none
theorem r103_lk (call : CallF) (fuel base : Nat) : LoopsOk E call (lp103 call fuel base) fuel base 0 c103 = (And True (And (And True (LpOk E call (lp103 call fuel base) fuel base 0 (loopB (blockB (seqR (seqL (seqR c103))))))) (And True True))) := by kernel_rfl
theorem r103_fn : E.P.funcs[103]? = some Try.f103 := by kernel_rfl
theorem r103_body : Try.f103.body = some c103 := by kernel_rfl
theorem rf103_ok : RFok E 103 rf103 := by
  show RFok' E 103 rf103
  refine ⟨Try.f103, r103_fn, fun call fuel base args m r _ h => ?_⟩
  unfold rf103 at h
  split at h
  · rw [← r103_eq] at h
    exact kbody_sound (c := c103) r103_body (Eq.mpr (r103_lk call fuel base) (And.intro trivial (And.intro (And.intro trivial (r103_L0_ok call fuel base)) (And.intro trivial trivial)))) h
  · simp at h
end Go.AM
namespace Go.AM
open Go Go.Proofs
noncomputable def r104_L0 (call : CallF) (fuel base : Nat) (kx0 : Value → M → Res2) (n : Nat) : Value → Value → Value → Value → M → Res2 :=
  Nat.rec (motive := fun _ => Value → Value → Value → Value → M → Res2) (fun _ _ _ _ _ => none)
    (fun _ ih x3 x8 x9 x10 m =>
      (k1 (mbin E .lss 3 x10 x9) fun v11_2 => (kb v11_2 (k1 (mindexAddr E.P 103 x8 x10) fun v12_3 => (k1 (xload E.P m 106 v12_3) fun v13_4 => (k1 (mtassert E.P 117 true v13_4) fun v16_5 => (k1 (mextract 0 v16_5) fun v17_6 => (k1 (mextract 1 v16_5) fun v18_7 => (k2 (xalloc E.P m 117) fun v6_8 m => (ks (xstore E.P base m 117 v6_8 v17_6) fun m => (kb v18_7 (k1 (mfieldAddr E.P 117 v6_8 0) fun v21_9 => (k1 (xload E.P m 3 v21_9) fun v22_10 => (k1 (mbin E .add 3 x3 v22_10) fun v23_11 => (k1 (mbin E .add 3 x10 (.int .i64 1)) fun v24_12 => (ih v23_11 x8 x9 v24_12 m))))) (k1 (mbin E .add 3 x10 (.int .i64 1)) fun v24_13 => (ih x3 x8 x9 v24_13 m)))))))))) (kx0 x3 m)))) n
noncomputable def r104 (call : CallF) (fuel base : Nat) (x0 : Value) (m : M) : Res2 :=
  (k2 (vcall E.P base m .len [103] [x0]) fun v9_1 m => (r104_L0 call fuel base (fun y3_14 m => (fVal y3_14 fun v => some (.ret v, m))) fuel (.int .i64 0) x0 v9_1 (.int .i64 0) m))
def keep104 : Keep := { region := fun i => ([[0], [0, 3], [3, 8, 9, 10], [3, 8, 9, 10, 11], [3, 5, 8, 9, 10], [3, 6, 7, 8, 9, 10], [3, 6, 8, 9, 10, 19], [3, 8, 9, 10], [3, 8, 9, 10], [2]] : List (List Nat))[i]?, exit := fun i => ([[3], [3, 8, 9, 10]] : List (List Nat))[i]?, ret := some [2] }
noncomputable def r104_L0_R (call : CallF) (fuel base n : Nat) (vs : List Value) (m : M) (K : KT) : Res2 := match vs with
  | [x3, x8, x9, x10] => r104_L0 call fuel base (fun y3 m => K (.exit 0) { n := 26, l := [(3, y3)] } m) n x3 x8 x9 x10 m
  | _ => none
noncomputable def lp104 (call : CallF) (fuel base : Nat) : Lp := lpsel [(0, fun T m K => kslots 26 [3, 8, 9, 10] T fun vs => r104_L0_R call fuel base fuel vs m K)]
noncomputable def c104 : Code := Try.f104.body.getD .skip
theorem r104_L0_lk (call : CallF) (fuel base : Nat) : LoopsOk E call (lp104 call fuel base) fuel base 0 (loopB (blockB (seqR (seqL (seqR (seqR c104)))))) = (And True (And (And True True) (And (And True (And True (And True (And True True)))) True))) := by kernel_rfl
theorem r104_L0_ok (call : CallF) (fuel base : Nat) : LpOk E call (lp104 call fuel base) fuel base 0 (loopB (blockB (seqR (seqL (seqR (seqR c104)))))) := by
  refine loop_ok (kp := keep104) (hb := Eq.mpr (r104_L0_lk call fuel base) (And.intro trivial (And.intro (And.intro trivial trivial) (And.intro (And.intro trivial (And.intro trivial (And.intro trivial (And.intro trivial trivial)))) trivial)))) 26 [3, 8, 9, 10] (fun n vs m K => r104_L0_R call fuel base n vs m K) ?_ ?_ (fun _ _ _ => rfl)
  · intro vs m K
    unfold r104_L0_R
    split <;> rfl
  · intro n vs m K hl
    match vs, hl with
    | [x3, x8, x9, x10], _ => show _ = _; kernel_rfl
theorem r104_eq (call : CallF) (fuel base : Nat) (x0 : Value) (m : M) : kbody E call keep104 (lp104 call fuel base) base Try.f104 [x0] m = r104 call fuel base x0 m := by
  kernel_rfl
noncomputable def rf104 : RF := fun call fuel base args m => match args with
  | [x0] => r104 call fuel base x0 m
  | _ => none
theorem r104_lk (call : CallF) (fuel base : Nat) : LoopsOk E call (lp104 call fuel base) fuel base 0 c104 = (And True (And True (And (And True (LpOk E call (lp104 call fuel base) fuel base 0 (loopB (blockB (seqR (seqL (seqR (seqR c104)))))))) (And True True)))) := by kernel_rfl
theorem r104_fn : E.P.funcs[104]? = some Try.f104 := by kernel_rfl
theorem r104_body : Try.f104.body = some c104 := by kernel_rfl
theorem rf104_ok : RFok E 104 rf104 := by
  show RFok' E 104 rf104
  refine ⟨Try.f104, r104_fn, fun call fuel base args m r _ h => ?_⟩
  unfold rf104 at h
  split at h
  · rw [← r104_eq] at h
    exact kbody_sound (c := c104) r104_body (Eq.mpr (r104_lk call fuel base) (And.intro trivial (And.intro trivial (And.intro (And.intro trivial (r104_L0_ok call fuel base)) (And.intro trivial trivial))))) h
  · simp at h
end Go.AM
namespace Go.AM
open Go Go.Proofs
noncomputable def r108 (call : CallF) (fuel base : Nat) (x0 : Value) (m : M) : Res2 :=
  (k1 (mnil x0) fun v4_1 => (k1 (mfieldAddr E.P 147 v4_1 0) fun v5_2 => (k1 (xload E.P m 4 v5_2) fun v6_3 => (kb v6_3 (k1 (mnil x0) fun v9_4 => (k1 (mfieldAddr E.P 147 v9_4 3) fun v10_5 => (k1 (xload E.P m 144 v10_5) fun v11_6 => (k1 (mbuild E.P 144 []) fun v12_7 => (k1 (mbin E .eql 144 v11_6 v12_7) fun v13_8 => (fVal v13_8 fun v => some (.ret v, m))))))) (fVal (.bool false) fun v => some (.ret v, m))))))
def keep108 : Keep := { region := fun i => ([[0], [2]] : List (List Nat))[i]?, exit := fun i => ([] : List (List Nat))[i]?, ret := some [2] }
noncomputable def lp108 (call : CallF) (fuel base : Nat) : Lp := lpsel []
noncomputable def c108 : Code := Try.f108.body.getD .skip
theorem r108_eq (call : CallF) (fuel base : Nat) (x0 : Value) (m : M) : kbody E call keep108 (lp108 call fuel base) base Try.f108 [x0] m = r108 call fuel base x0 m := by
  kernel_rfl
noncomputable def rf108 : RF := fun call fuel base args m => match args with
  | [x0] => r108 call fuel base x0 m
  | _ => none
theorem r108_lk (call : CallF) (fuel base : Nat) : LoopsOk E call (lp108 call fuel base) fuel base 0 c108 = (And True (And True True)) := by kernel_rfl
theorem r108_fn : E.P.funcs[108]? = some Try.f108 := by kernel_rfl
theorem r108_body : Try.f108.body = some c108 := by kernel_rfl
theorem rf108_ok : RFok E 108 rf108 := by
  show RFok' E 108 rf108
  refine ⟨Try.f108, r108_fn, fun call fuel base args m r _ h => ?_⟩
  unfold rf108 at h
  split at h
  · rw [← r108_eq] at h
    exact kbody_sound (c := c108) r108_body (Eq.mpr (r108_lk call fuel base) (And.intro trivial (And.intro trivial trivial))) h
  · simp at h
end Go.AM
namespace Go.AM
open Go Go.Proofs
noncomputable def ytab : List (Nat × RYs) := []
theorem ytab_ok : ∀ p ∈ ytab, RYsOk E p.1 p.2 := by
  unfold ytab
  simp only [List.mem_cons, forall_eq_or_imp, List.not_mem_nil, false_imp_iff, implies_true, and_true]
theorem ry_ok' : RFok E yid (ryOf ytab) := show RYok E (ryOf ytab) from ry_ok ytab_ok
noncomputable def tab : List (Nat × RF) := [(yid, ryOf ytab), (9, rf9), (14, rf14), (15, rf15), (17, rf17), (23, rf23), (24, rf24), (25, rf25), (26, rf26), (27, rf27), (28, rf28), (31, rf31), (32, rf32), (43, rf43), (44, rf44), (45, rf45), (49, rf49), (50, rf50), (51, rf51), (52, rf52), (59, rf59), (65, rf65), (66, rf66), (67, rf67), (68, rf68), (69, rf69), (70, rf70), (71, rf71), (72, rf72), (73, rf73), (74, rf74), (75, rf75), (76, rf76), (78, rf78), (79, rf79), (80, rf80), (81, rf81), (82, rf82), (91, rf91), (92, rf92), (100, rf100), (101, rf101), (102, rf102), (103, rf103), (104, rf104), (108, rf108)]
theorem tab_ok : ∀ p ∈ tab, RFok E p.1 p.2 := by
  unfold tab
  simp only [List.mem_cons, forall_eq_or_imp, List.not_mem_nil, false_imp_iff, implies_true, and_true]
  exact ⟨ry_ok', rf9_ok, rf14_ok, rf15_ok, rf17_ok, rf23_ok, rf24_ok, rf25_ok, rf26_ok, rf27_ok, rf28_ok, rf31_ok, rf32_ok, rf43_ok, rf44_ok, rf45_ok, rf49_ok, rf50_ok, rf51_ok, rf52_ok, rf59_ok, rf65_ok, rf66_ok, rf67_ok, rf68_ok, rf69_ok, rf70_ok, rf71_ok, rf72_ok, rf73_ok, rf74_ok, rf75_ok, rf76_ok, rf78_ok, rf79_ok, rf80_ok, rf81_ok, rf82_ok, rf91_ok, rf92_ok, rf100_ok, rf101_ok, rf102_ok, rf103_ok, rf104_ok, rf108_ok⟩
noncomputable def rc (n : Nat) : CallF := rcall E.pure tab n
end Go.AM
