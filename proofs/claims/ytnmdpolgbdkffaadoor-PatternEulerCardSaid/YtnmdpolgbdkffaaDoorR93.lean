import Derived.KernelRfl
import Derived.Laws.BytesArg
import Derived.Laws.StructEq
import Derived.Test.YtnmdpolgbdkffaaDoorRows
import Derived.WalkKit
import Derived.Test.YtnmdpolgbdkffaaDoorAmB
import Derived.Test.YtnmdpolgbdkffaaDoorAmModel
import Derived.Test.YtnmdpolgbdkffaaDoorAmOps6
import Derived.Test.YtnmdpolgbdkffaaDoorAmCode
import Derived.Test.YtnmdpolgbdkffaaDoorAmK2
import Derived.Test.YtnmdpolgbdkffaaDoorAmEq
import Derived.Test.YtnmdpolgbdkffaaDoorRBase
set_option linter.unusedVariables false
set_option linter.unusedSimpArgs false
set_option linter.unusedSectionVars false
namespace Go.AM
open Go Go.Proofs
noncomputable def r93_L0 (call : CallF) (fuel base : Nat) (kp : Value → M → Res2) (kx0 : Value → M → Res2) (n : Nat) : Value → Value → Value → Value → Value → M → Res2 :=
  Nat.rec (motive := fun _ => Value → Value → Value → Value → Value → M → Res2) (fun _ _ _ _ _ _ => none)
    (fun _ ih x1 x3 x7 x8 x9 m =>
      (k1 (mbin E .lss 3 x9 x8) fun v10_5 => (kb v10_5 (k1 (mindexAddr E.P 37 x7 x9) fun v11_6 => (k1 (xload E.P m 3 v11_6) fun v12_7 => (k2 (xalloc E.P m 3) fun v5_8 m => (ks (xstore E.P base m 3 v5_8 v12_7) fun m => (k1 (xload E.P m 70 x1) fun v13_9 => (k1 (xload E.P m 3 v5_8) fun v14_10 => (kc (call base 91 [v13_9, v14_10] m) (fun v15_11 m => (kc (call base 90 [v15_11, (.func (.func 106) #[] #[x1, v5_8])] m) (fun v17_12 m => (kb v17_12 (k1 (mbin E .add 3 x3 (.int .i64 1)) fun v19_13 => (k1 (mbin E .add 3 x9 (.int .i64 1)) fun v20_14 => (ih x1 v19_13 x7 x8 v20_14 m))) (k1 (mbin E .add 3 x9 (.int .i64 1)) fun v20_15 => (ih x1 x3 x7 x8 v20_15 m)))) (fun v m => kp v m))) (fun v m => kp v m)))))))) (kx0 x3 m)))) n
noncomputable def r93 (call : CallF) (fuel base : Nat) (x0 : Value) (m : M) : Res2 :=
  (k2 (xbox m x0) fun v1_1 m => (k1 (xload E.P m 70 v1_1) fun v6_2 => (kc (call base 89 [v6_2] m) (fun v7_3 m => (k2 (vcall E.P base m .len [37] [v7_3]) fun v8_4 m => (r93_L0 call fuel base (fun v m => some (.pan v, m)) (fun y3_16 m => (fVal y3_16 fun v => some (.ret v, m))) fuel v1_1 (.int .i64 0) v7_3 v8_4 (.int .i64 0) m))) (fun v m => some (.pan v, m)))))
def keep93 : Keep := { region := fun i => ([[1], [1, 3], [1, 3, 7, 8, 9], [1, 3, 7, 8, 9, 10], [1, 3, 5, 7, 8, 9], [1, 3, 7, 8, 9, 17], [1, 3, 7, 8, 9], [1, 3, 7, 8, 9], [2]] : List (List Nat))[i]?, exit := fun i => ([[3], [1, 3, 7, 8, 9]] : List (List Nat))[i]?, ret := some [2] }
noncomputable def r93_L0_R (call : CallF) (fuel base n : Nat) (vs : List Value) (m : M) (K : KT) : Res2 := match vs with
  | [x1, x3, x7, x8, x9] => r93_L0 call fuel base (fun v m => K (.pan v) { n := 22, l := [] } m) (fun y3 m => K (.exit 0) { n := 22, l := [(3, y3)] } m) n x1 x3 x7 x8 x9 m
  | _ => none
noncomputable def lp93 (call : CallF) (fuel base : Nat) : Lp := lpsel [(0, fun T m K => kslots 22 [1, 3, 7, 8, 9] T fun vs => r93_L0_R call fuel base fuel vs m K)]
noncomputable def c93 : Code := Tryd.f93.body.getD .skip
theorem r93_L0_lk (call : CallF) (fuel base : Nat) : LoopsOk E call (lp93 call fuel base) fuel base 0 (loopB (blockB (seqR (seqL (seqR (seqR c93)))))) = (And True (And (And True True) (And (And True (And True (And True True))) True))) := by kernel_rfl
theorem r93_L0_ok (call : CallF) (fuel base : Nat) : LpOk E call (lp93 call fuel base) fuel base 0 (loopB (blockB (seqR (seqL (seqR (seqR c93)))))) := by
  refine loop_ok (kp := keep93) (hb := Eq.mpr (r93_L0_lk call fuel base) (And.intro trivial (And.intro (And.intro trivial trivial) (And.intro (And.intro trivial (And.intro trivial (And.intro trivial trivial))) trivial)))) 22 [1, 3, 7, 8, 9] (fun n vs m K => r93_L0_R call fuel base n vs m K) ?_ ?_ (fun _ _ _ => rfl)
  · intro vs m K
    unfold r93_L0_R
    split <;> rfl
  · intro n vs m K hl
    match vs, hl with
    | [x1, x3, x7, x8, x9], _ => show _ = _; kernel_rfl
theorem r93_eq (call : CallF) (fuel base : Nat) (x0 : Value) (m : M) : kbody E call keep93 (lp93 call fuel base) base Tryd.f93 [x0] m = r93 call fuel base x0 m := by
  kernel_rfl
noncomputable def rf93 : RF := fun call fuel base args m => match args with
  | [x0] => r93 call fuel base x0 m
  | _ => none
theorem r93_lk (call : CallF) (fuel base : Nat) : LoopsOk E call (lp93 call fuel base) fuel base 0 c93 = (And True (And True (And (And True (LpOk E call (lp93 call fuel base) fuel base 0 (loopB (blockB (seqR (seqL (seqR (seqR c93)))))))) (And True True)))) := by kernel_rfl
theorem r93_fn : E.P.funcs[93]? = some Tryd.f93 := by kernel_rfl
theorem r93_body : Tryd.f93.body = some c93 := by kernel_rfl
theorem rf93_ok : RFok E 93 rf93 := by
  refine ⟨Tryd.f93, r93_fn, fun call fuel base args m r _ h => ?_⟩
  unfold rf93 at h
  split at h
  · rw [← r93_eq] at h
    exact kbody_sound (c := c93) r93_body (Eq.mpr (r93_lk call fuel base) (And.intro trivial (And.intro trivial (And.intro (And.intro trivial (r93_L0_ok call fuel base)) (And.intro trivial trivial))))) h
  · simp at h
end Go.AM
namespace Go.AM
open Go Go.Proofs
noncomputable def r94 (call : CallF) (fuel base : Nat) (x0 : Value) (x1 : Value) (m : M) : Res2 :=
  (k2 (xbox m x0) fun v2_1 m => (k2 (xbox m x1) fun v3_2 m => (k1 (xload E.P m 70 v2_1) fun v5_3 => (k1 (xload E.P m 103 v3_2) fun v6_4 => (kc (call base 92 [v5_3, v6_4] m) (fun v7_5 m => (k1 (mun .not v7_5) fun v8_6 => (fVal v8_6 fun v => some (.ret v, m)))) (fun v m => some (.pan v, m)))))))
def keep94 : Keep := { region := fun i => ([[2, 3], [4]] : List (List Nat))[i]?, exit := fun i => ([] : List (List Nat))[i]?, ret := some [4] }
noncomputable def lp94 (call : CallF) (fuel base : Nat) : Lp := lpsel []
noncomputable def c94 : Code := Tryd.f94.body.getD .skip
theorem r94_eq (call : CallF) (fuel base : Nat) (x0 : Value) (x1 : Value) (m : M) : kbody E call keep94 (lp94 call fuel base) base Tryd.f94 [x0, x1] m = r94 call fuel base x0 x1 m := by
  kernel_rfl
noncomputable def rf94 : RF := fun call fuel base args m => match args with
  | [x0, x1] => r94 call fuel base x0 x1 m
  | _ => none
theorem r94_lk (call : CallF) (fuel base : Nat) : LoopsOk E call (lp94 call fuel base) fuel base 0 c94 = (And True (And True True)) := by kernel_rfl
theorem r94_fn : E.P.funcs[94]? = some Tryd.f94 := by kernel_rfl
theorem r94_body : Tryd.f94.body = some c94 := by kernel_rfl
theorem rf94_ok : RFok E 94 rf94 := by
  refine ⟨Tryd.f94, r94_fn, fun call fuel base args m r _ h => ?_⟩
  unfold rf94 at h
  split at h
  · rw [← r94_eq] at h
    exact kbody_sound (c := c94) r94_body (Eq.mpr (r94_lk call fuel base) (And.intro trivial (And.intro trivial trivial))) h
  · simp at h
end Go.AM
namespace Go.AM
open Go Go.Proofs
noncomputable def r100 (call : CallF) (fuel base : Nat) (x0 : Value) (x1 : Value) (m : M) : Res2 :=
  (k2 (xbox m x0) fun v2_1 m => (k2 (xbox m x1) fun v3_2 m => (k2 (xalloc E.P m 103) fun v4_3 m => (k1 (mfieldAddr E.P 103 v3_2 0) fun v7_4 => (k1 (xload E.P m 3 v7_4) fun v8_5 => (k1 (mfieldAddr E.P 70 v2_1 0) fun v9_6 => (k1 (mfieldAddr E.P 26 v9_6 0) fun v10_7 => (k1 (xload E.P m 3 v10_7) fun v11_8 => (kc (call base 101 [v8_5, v11_8] m) (fun v12_9 m => (k1 (mfieldAddr E.P 103 v3_2 0) fun v13_10 => (k1 (xload E.P m 3 v13_10) fun v14_11 => (k1 (mbin E .sub 3 v14_11 v12_9) fun v16_12 => (k1 (mfieldAddr E.P 70 v2_1 0) fun v17_13 => (k1 (mfieldAddr E.P 26 v17_13 0) fun v18_14 => (k1 (xload E.P m 3 v18_14) fun v19_15 => (k1 (mbin E .quo 3 v16_12 v19_15) fun v20_16 => (k1 (mfieldAddr E.P 103 v3_2 1) fun v22_17 => (k1 (xload E.P m 3 v22_17) fun v23_18 => (k1 (mfieldAddr E.P 70 v2_1 0) fun v25_19 => (k1 (mfieldAddr E.P 26 v25_19 1) fun v26_20 => (k1 (xload E.P m 3 v26_20) fun v27_21 => (k1 (mbin E .mul 3 v20_16 v27_21) fun v28_22 => (k1 (mbin E .sub 3 v23_18 v28_22) fun v29_23 => (k1 (mfieldAddr E.P 70 v2_1 0) fun v30_24 => (k1 (mfieldAddr E.P 26 v30_24 2) fun v31_25 => (k1 (xload E.P m 3 v31_25) fun v32_26 => (kc (call base 101 [v29_23, v32_26] m) (fun v33_27 m => (k1 (mbuild E.P 103 [(0, v12_9), (1, v33_27)]) fun v34_28 => (ks (xstore E.P base m 103 v4_3 v34_28) fun m => (k0 (mload E.P m 103 v4_3) fun r_29 => (fVal r_29 fun v => some (.ret v, m)))))) (fun v m => some (.pan v, m))))))))))))))))))))) (fun v m => some (.pan v, m)))))))))))
def keep100 : Keep := { region := fun i => ([[2, 3, 4], [2, 3, 4, 5], [2, 3, 4, 5, 6], [4]] : List (List Nat))[i]?, exit := fun i => ([] : List (List Nat))[i]?, ret := some [4] }
noncomputable def lp100 (call : CallF) (fuel base : Nat) : Lp := lpsel []
noncomputable def c100 : Code := Tryd.f100.body.getD .skip
theorem r100_eq (call : CallF) (fuel base : Nat) (x0 : Value) (x1 : Value) (m : M) : kbody E call keep100 (lp100 call fuel base) base Tryd.f100 [x0, x1] m = r100 call fuel base x0 x1 m := by
  kernel_rfl
noncomputable def rf100 : RF := fun call fuel base args m => match args with
  | [x0, x1] => r100 call fuel base x0 x1 m
  | _ => none
theorem r100_lk (call : CallF) (fuel base : Nat) : LoopsOk E call (lp100 call fuel base) fuel base 0 c100 = (And True (And True (And True (And True True)))) := by kernel_rfl
theorem r100_fn : E.P.funcs[100]? = some Tryd.f100 := by kernel_rfl
theorem r100_body : Tryd.f100.body = some c100 := by kernel_rfl
theorem rf100_ok : RFok E 100 rf100 := by
  refine ⟨Tryd.f100, r100_fn, fun call fuel base args m r _ h => ?_⟩
  unfold rf100 at h
  split at h
  · rw [← r100_eq] at h
    exact kbody_sound (c := c100) r100_body (Eq.mpr (r100_lk call fuel base) (And.intro trivial (And.intro trivial (And.intro trivial (And.intro trivial trivial))))) h
  · simp at h
end Go.AM
namespace Go.AM
open Go Go.Proofs
noncomputable def r101 (call : CallF) (fuel base : Nat) (x0 : Value) (x1 : Value) (m : M) : Res2 :=
  (k1 (mbin E .rem 3 x0 x1) fun v7_1 => (k1 (mbin E .add 3 v7_1 x1) fun v9_2 => (k1 (mbin E .rem 3 v9_2 x1) fun v11_3 => (fVal v11_3 fun v => some (.ret v, m)))))
def keep101 : Keep := { region := fun i => ([[0, 1], [4]] : List (List Nat))[i]?, exit := fun i => ([] : List (List Nat))[i]?, ret := some [4] }
noncomputable def lp101 (call : CallF) (fuel base : Nat) : Lp := lpsel []
noncomputable def c101 : Code := Tryd.f101.body.getD .skip
theorem r101_eq (call : CallF) (fuel base : Nat) (x0 : Value) (x1 : Value) (m : M) : kbody E call keep101 (lp101 call fuel base) base Tryd.f101 [x0, x1] m = r101 call fuel base x0 x1 m := by
  kernel_rfl
noncomputable def rf101 : RF := fun call fuel base args m => match args with
  | [x0, x1] => r101 call fuel base x0 x1 m
  | _ => none
theorem r101_lk (call : CallF) (fuel base : Nat) : LoopsOk E call (lp101 call fuel base) fuel base 0 c101 = (And True (And True True)) := by kernel_rfl
theorem r101_fn : E.P.funcs[101]? = some Tryd.f101 := by kernel_rfl
theorem r101_body : Tryd.f101.body = some c101 := by kernel_rfl
theorem rf101_ok : RFok E 101 rf101 := by
  refine ⟨Tryd.f101, r101_fn, fun call fuel base args m r _ h => ?_⟩
  unfold rf101 at h
  split at h
  · rw [← r101_eq] at h
    exact kbody_sound (c := c101) r101_body (Eq.mpr (r101_lk call fuel base) (And.intro trivial (And.intro trivial trivial))) h
  · simp at h
end Go.AM
namespace Go.AM
open Go Go.Proofs
noncomputable def r102_L0 (call : CallF) (fuel base : Nat) (kp : Value → M → Res2) (kr : Value → M → Res2) (kx0 : M → Res2) (n : Nat) : Value → Value → Value → Value → M → Res2 :=
  Nat.rec (motive := fun _ => Value → Value → Value → Value → M → Res2) (fun _ _ _ _ _ => none)
    (fun _ ih x0 x1 x7 x8 m =>
      (k1 (mbin E .lss 3 x8 x7) fun v9_2 => (kb v9_2 (k1 (mindexAddr E.P 115 x0 x8) fun v14_3 => (k1 (xload E.P m 103 v14_3) fun v15_4 => (kc (kv call base x1 [v15_4] m) (fun v16_5 m => (kb v16_5 (kr x8 m) (k1 (mbin E .add 3 x8 (.int .i64 1)) fun v18_6 => (ih x0 x1 x7 v18_6 m)))) (fun v m => kp v m)))) (kx0 m)))) n
noncomputable def r102 (call : CallF) (fuel base : Nat) (x0 : Value) (x1 : Value) (m : M) : Res2 :=
  (k2 (vcall E.P base m .len [115] [x0]) fun v7_1 m => (r102_L0 call fuel base (fun v m => some (.pan v, m)) (fun y4_7 m => (fVal y4_7 fun v => some (.ret v, m))) (fun m => (fVal (.int .i64 (-1)) fun v => some (.ret v, m))) fuel x0 x1 v7_1 (.int .i64 0) m))
def keep102 : Keep := { region := fun i => ([[0, 1], [0, 1, 7, 8], [0, 1, 7, 8, 9], [0, 1, 5, 7, 8], [0, 1, 5, 7, 8, 16], [4], [0, 1, 7, 8], [4]] : List (List Nat))[i]?, exit := fun i => ([[], [0, 1, 7, 8]] : List (List Nat))[i]?, ret := some [4] }
noncomputable def r102_L0_R (call : CallF) (fuel base n : Nat) (vs : List Value) (m : M) (K : KT) : Res2 := match vs with
  | [x0, x1, x7, x8] => r102_L0 call fuel base (fun v m => K (.pan v) { n := 19, l := [] } m) (fun y4 m => K .ret { n := 19, l := [(4, y4)] } m) (fun m => K (.exit 0) { n := 19, l := [] } m) n x0 x1 x7 x8 m
  | _ => none
noncomputable def lp102 (call : CallF) (fuel base : Nat) : Lp := lpsel [(0, fun T m K => kslots 19 [0, 1, 7, 8] T fun vs => r102_L0_R call fuel base fuel vs m K)]
noncomputable def c102 : Code := Tryd.f102.body.getD .skip
theorem r102_L0_lk (call : CallF) (fuel base : Nat) : LoopsOk E call (lp102 call fuel base) fuel base 0 (loopB (blockB (seqR (seqL (seqR c102))))) = (And True (And (And True True) (And (And True (And True (And (And True True) True))) True))) := by kernel_rfl
theorem r102_L0_ok (call : CallF) (fuel base : Nat) : LpOk E call (lp102 call fuel base) fuel base 0 (loopB (blockB (seqR (seqL (seqR c102))))) := by
  refine loop_ok (kp := keep102) (hb := Eq.mpr (r102_L0_lk call fuel base) (And.intro trivial (And.intro (And.intro trivial trivial) (And.intro (And.intro trivial (And.intro trivial (And.intro (And.intro trivial trivial) trivial))) trivial)))) 19 [0, 1, 7, 8] (fun n vs m K => r102_L0_R call fuel base n vs m K) ?_ ?_ (fun _ _ _ => rfl)
  · intro vs m K
    unfold r102_L0_R
    split <;> rfl
  · intro n vs m K hl
    match vs, hl with
    | [x0, x1, x7, x8], _ => show _ = _; kernel_rfl
theorem r102_eq (call : CallF) (fuel base : Nat) (x0 : Value) (x1 : Value) (m : M) : kbody E call keep102 (lp102 call fuel base) base Tryd.f102 [x0, x1] m = r102 call fuel base x0 x1 m := by
  kernel_rfl
noncomputable def rf102 : RF := fun call fuel base args m => match args with
  | [x0, x1] => r102 call fuel base x0 x1 m
  | _ => none
theorem r102_lk (call : CallF) (fuel base : Nat) : LoopsOk E call (lp102 call fuel base) fuel base 0 c102 = (And True (And (And True (LpOk E call (lp102 call fuel base) fuel base 0 (loopB (blockB (seqR (seqL (seqR c102))))))) (And True True))) := by kernel_rfl
theorem r102_fn : E.P.funcs[102]? = some Tryd.f102 := by kernel_rfl
theorem r102_body : Tryd.f102.body = some c102 := by kernel_rfl
theorem rf102_ok : RFok E 102 rf102 := by
  refine ⟨Tryd.f102, r102_fn, fun call fuel base args m r _ h => ?_⟩
  unfold rf102 at h
  split at h
  · rw [← r102_eq] at h
    exact kbody_sound (c := c102) r102_body (Eq.mpr (r102_lk call fuel base) (And.intro trivial (And.intro (And.intro trivial (r102_L0_ok call fuel base)) (And.intro trivial trivial)))) h
  · simp at h
end Go.AM
namespace Go.AM
open Go Go.Proofs
noncomputable def r103 (call : CallF) (fuel base : Nat) (x0 : Value) (x1 : Value) (m : M) : Res2 :=
  (kc (call base 108 [x0, x1] m) (fun v7_1 m => (k1 (mbin E .geq 3 v7_1 (.int .i64 0)) fun v8_2 => (fVal v8_2 fun v => some (.ret v, m)))) (fun v m => some (.pan v, m)))
def keep103 : Keep := { region := fun i => ([[0, 1], [4]] : List (List Nat))[i]?, exit := fun i => ([] : List (List Nat))[i]?, ret := some [4] }
noncomputable def lp103 (call : CallF) (fuel base : Nat) : Lp := lpsel []
noncomputable def c103 : Code := Tryd.f103.body.getD .skip
theorem r103_eq (call : CallF) (fuel base : Nat) (x0 : Value) (x1 : Value) (m : M) : kbody E call keep103 (lp103 call fuel base) base Tryd.f103 [x0, x1] m = r103 call fuel base x0 x1 m := by
  kernel_rfl
noncomputable def rf103 : RF := fun call fuel base args m => match args with
  | [x0, x1] => r103 call fuel base x0 x1 m
  | _ => none
theorem r103_lk (call : CallF) (fuel base : Nat) : LoopsOk E call (lp103 call fuel base) fuel base 0 c103 = (And True (And True True)) := by kernel_rfl
theorem r103_fn : E.P.funcs[103]? = some Tryd.f103 := by kernel_rfl
theorem r103_body : Tryd.f103.body = some c103 := by kernel_rfl
theorem rf103_ok : RFok E 103 rf103 := by
  refine ⟨Tryd.f103, r103_fn, fun call fuel base args m r _ h => ?_⟩
  unfold rf103 at h
  split at h
  · rw [← r103_eq] at h
    exact kbody_sound (c := c103) r103_body (Eq.mpr (r103_lk call fuel base) (And.intro trivial (And.intro trivial trivial))) h
  · simp at h
end Go.AM
namespace Go.AM
open Go Go.Proofs
noncomputable def r104 (call : CallF) (fuel base : Nat) (x0 : Value) (x1 : Value) (x2 : Value) (m : M) : Res2 :=
  (k1 (xload E.P m 70 x1) fun v5_1 => (k1 (xload E.P m 103 x2) fun v7_2 => (kc (call base 105 [v5_1, x0, v7_2] m) (fun v8_3 m => (fVal v8_3 fun v => some (.ret v, m))) (fun v m => some (.pan v, m)))))
def keep104 : Keep := { region := fun i => ([[0, 1, 2], [4]] : List (List Nat))[i]?, exit := fun i => ([] : List (List Nat))[i]?, ret := some [4] }
noncomputable def lp104 (call : CallF) (fuel base : Nat) : Lp := lpsel []
noncomputable def c104 : Code := Tryd.f104.body.getD .skip
theorem r104_eq (call : CallF) (fuel base : Nat) (x0 : Value) (x1 : Value) (x2 : Value) (m : M) : kbody E call keep104 (lp104 call fuel base) base Tryd.f104 [x0, x1, x2] m = r104 call fuel base x0 x1 x2 m := by
  kernel_rfl
noncomputable def rf104 : RF := fun call fuel base args m => match args with
  | [x0, x1, x2] => r104 call fuel base x0 x1 x2 m
  | _ => none
theorem r104_lk (call : CallF) (fuel base : Nat) : LoopsOk E call (lp104 call fuel base) fuel base 0 c104 = (And True (And True True)) := by kernel_rfl
theorem r104_fn : E.P.funcs[104]? = some Tryd.f104 := by kernel_rfl
theorem r104_body : Tryd.f104.body = some c104 := by kernel_rfl
theorem rf104_ok : RFok E 104 rf104 := by
  refine ⟨Tryd.f104, r104_fn, fun call fuel base args m r _ h => ?_⟩
  unfold rf104 at h
  split at h
  · rw [← r104_eq] at h
    exact kbody_sound (c := c104) r104_body (Eq.mpr (r104_lk call fuel base) (And.intro trivial (And.intro trivial trivial))) h
  · simp at h
end Go.AM
namespace Go.AM
open Go Go.Proofs
noncomputable def r105 (call : CallF) (fuel base : Nat) (x0 : Value) (x1 : Value) (x2 : Value) (m : M) : Res2 :=
  (k2 (xbox m x0) fun v3_1 m => (k2 (xbox m x2) fun v5_2 m => (k1 (xload E.P m 103 v5_2) fun v11_3 => (kc (call base 109 [x1, v11_3] m) (fun v12_4 m => (k1 (mextract 0 v12_4) fun v13_5 => (k1 (mextract 1 v12_4) fun v14_6 => (k2 (xalloc E.P m 50) fun v7_7 m => (ks (xstore E.P base m 50 v7_7 v13_5) fun m => (kb v14_6 (k1 (xload E.P m 70 v3_1) fun v17_8 => (k1 (xload E.P m 50 v7_7) fun v18_9 => (kc (call base 110 [v17_8, v18_9] m) (fun v19_10 m => (fVal v19_10 fun v => some (.ret v, m))) (fun v m => some (.pan v, m))))) (fVal (.bool false) fun v => some (.ret v, m)))))))) (fun v m => some (.pan v, m))))))
def keep105 : Keep := { region := fun i => ([[1, 3, 5], [3, 7, 8], [6]] : List (List Nat))[i]?, exit := fun i => ([] : List (List Nat))[i]?, ret := some [6] }
noncomputable def lp105 (call : CallF) (fuel base : Nat) : Lp := lpsel []
noncomputable def c105 : Code := Tryd.f105.body.getD .skip
theorem r105_eq (call : CallF) (fuel base : Nat) (x0 : Value) (x1 : Value) (x2 : Value) (m : M) : kbody E call keep105 (lp105 call fuel base) base Tryd.f105 [x0, x1, x2] m = r105 call fuel base x0 x1 x2 m := by
  kernel_rfl
noncomputable def rf105 : RF := fun call fuel base args m => match args with
  | [x0, x1, x2] => r105 call fuel base x0 x1 x2 m
  | _ => none
theorem r105_lk (call : CallF) (fuel base : Nat) : LoopsOk E call (lp105 call fuel base) fuel base 0 c105 = (And True (And True (And True True))) := by kernel_rfl
theorem r105_fn : E.P.funcs[105]? = some Tryd.f105 := by kernel_rfl
theorem r105_body : Tryd.f105.body = some c105 := by kernel_rfl
theorem rf105_ok : RFok E 105 rf105 := by
  refine ⟨Tryd.f105, r105_fn, fun call fuel base args m r _ h => ?_⟩
  unfold rf105 at h
  split at h
  · rw [← r105_eq] at h
    exact kbody_sound (c := c105) r105_body (Eq.mpr (r105_lk call fuel base) (And.intro trivial (And.intro trivial (And.intro trivial trivial)))) h
  · simp at h
end Go.AM
namespace Go.AM
open Go Go.Proofs
noncomputable def r106 (call : CallF) (fuel base : Nat) (x0 : Value) (x1 : Value) (x2 : Value) (m : M) : Res2 :=
  (k2 (xbox m x0) fun v3_1 m => (k1 (xload E.P m 70 x1) fun v5_2 => (k1 (xload E.P m 3 x2) fun v6_3 => (k1 (xload E.P m 103 v3_1) fun v7_4 => (kc (call base 105 [v5_2, v6_3, v7_4] m) (fun v8_5 m => (fVal v8_5 fun v => some (.ret v, m))) (fun v m => some (.pan v, m)))))))
def keep106 : Keep := { region := fun i => ([[1, 2, 3], [4]] : List (List Nat))[i]?, exit := fun i => ([] : List (List Nat))[i]?, ret := some [4] }
noncomputable def lp106 (call : CallF) (fuel base : Nat) : Lp := lpsel []
noncomputable def c106 : Code := Tryd.f106.body.getD .skip
theorem r106_eq (call : CallF) (fuel base : Nat) (x0 : Value) (x1 : Value) (x2 : Value) (m : M) : kbody E call keep106 (lp106 call fuel base) base Tryd.f106 [x0, x1, x2] m = r106 call fuel base x0 x1 x2 m := by
  kernel_rfl
noncomputable def rf106 : RF := fun call fuel base args m => match args with
  | [x0, x1, x2] => r106 call fuel base x0 x1 x2 m
  | _ => none
theorem r106_lk (call : CallF) (fuel base : Nat) : LoopsOk E call (lp106 call fuel base) fuel base 0 c106 = (And True (And True True)) := by kernel_rfl
theorem r106_fn : E.P.funcs[106]? = some Tryd.f106 := by kernel_rfl
theorem r106_body : Tryd.f106.body = some c106 := by kernel_rfl
theorem rf106_ok : RFok E 106 rf106 := by
  refine ⟨Tryd.f106, r106_fn, fun call fuel base args m r _ h => ?_⟩
  unfold rf106 at h
  split at h
  · rw [← r106_eq] at h
    exact kbody_sound (c := c106) r106_body (Eq.mpr (r106_lk call fuel base) (And.intro trivial (And.intro trivial trivial))) h
  · simp at h
end Go.AM
namespace Go.AM
open Go Go.Proofs
noncomputable def r108_L0 (call : CallF) (fuel base : Nat) (kp : Value → M → Res2) (kr : Value → M → Res2) (kx0 : M → Res2) (n : Nat) : Value → Value → Value → Value → M → Res2 :=
  Nat.rec (motive := fun _ => Value → Value → Value → Value → M → Res2) (fun _ _ _ _ _ => none)
    (fun _ ih x0 x1 x7 x8 m =>
      (k1 (mbin E .lss 3 x8 x7) fun v9_2 => (kb v9_2 (k1 (mindexAddr E.P 37 x0 x8) fun v14_3 => (k1 (xload E.P m 3 v14_3) fun v15_4 => (kc (kv call base x1 [v15_4] m) (fun v16_5 m => (kb v16_5 (kr x8 m) (k1 (mbin E .add 3 x8 (.int .i64 1)) fun v18_6 => (ih x0 x1 x7 v18_6 m)))) (fun v m => kp v m)))) (kx0 m)))) n
noncomputable def r108 (call : CallF) (fuel base : Nat) (x0 : Value) (x1 : Value) (m : M) : Res2 :=
  (k2 (vcall E.P base m .len [37] [x0]) fun v7_1 m => (r108_L0 call fuel base (fun v m => some (.pan v, m)) (fun y4_7 m => (fVal y4_7 fun v => some (.ret v, m))) (fun m => (fVal (.int .i64 (-1)) fun v => some (.ret v, m))) fuel x0 x1 v7_1 (.int .i64 0) m))
def keep108 : Keep := { region := fun i => ([[0, 1], [0, 1, 7, 8], [0, 1, 7, 8, 9], [0, 1, 5, 7, 8], [0, 1, 5, 7, 8, 16], [4], [0, 1, 7, 8], [4]] : List (List Nat))[i]?, exit := fun i => ([[], [0, 1, 7, 8]] : List (List Nat))[i]?, ret := some [4] }
noncomputable def r108_L0_R (call : CallF) (fuel base n : Nat) (vs : List Value) (m : M) (K : KT) : Res2 := match vs with
  | [x0, x1, x7, x8] => r108_L0 call fuel base (fun v m => K (.pan v) { n := 19, l := [] } m) (fun y4 m => K .ret { n := 19, l := [(4, y4)] } m) (fun m => K (.exit 0) { n := 19, l := [] } m) n x0 x1 x7 x8 m
  | _ => none
noncomputable def lp108 (call : CallF) (fuel base : Nat) : Lp := lpsel [(0, fun T m K => kslots 19 [0, 1, 7, 8] T fun vs => r108_L0_R call fuel base fuel vs m K)]
noncomputable def c108 : Code := Tryd.f108.body.getD .skip
theorem r108_L0_lk (call : CallF) (fuel base : Nat) : LoopsOk E call (lp108 call fuel base) fuel base 0 (loopB (blockB (seqR (seqL (seqR c108))))) = (And True (And (And True True) (And (And True (And True (And (And True True) True))) True))) := by kernel_rfl
theorem r108_L0_ok (call : CallF) (fuel base : Nat) : LpOk E call (lp108 call fuel base) fuel base 0 (loopB (blockB (seqR (seqL (seqR c108))))) := by
  refine loop_ok (kp := keep108) (hb := Eq.mpr (r108_L0_lk call fuel base) (And.intro trivial (And.intro (And.intro trivial trivial) (And.intro (And.intro trivial (And.intro trivial (And.intro (And.intro trivial trivial) trivial))) trivial)))) 19 [0, 1, 7, 8] (fun n vs m K => r108_L0_R call fuel base n vs m K) ?_ ?_ (fun _ _ _ => rfl)
  · intro vs m K
    unfold r108_L0_R
    split <;> rfl
  · intro n vs m K hl
    match vs, hl with
    | [x0, x1, x7, x8], _ => show _ = _; kernel_rfl
theorem r108_eq (call : CallF) (fuel base : Nat) (x0 : Value) (x1 : Value) (m : M) : kbody E call keep108 (lp108 call fuel base) base Tryd.f108 [x0, x1] m = r108 call fuel base x0 x1 m := by
  kernel_rfl
noncomputable def rf108 : RF := fun call fuel base args m => match args with
  | [x0, x1] => r108 call fuel base x0 x1 m
  | _ => none
theorem r108_lk (call : CallF) (fuel base : Nat) : LoopsOk E call (lp108 call fuel base) fuel base 0 c108 = (And True (And (And True (LpOk E call (lp108 call fuel base) fuel base 0 (loopB (blockB (seqR (seqL (seqR c108))))))) (And True True))) := by kernel_rfl
theorem r108_fn : E.P.funcs[108]? = some Tryd.f108 := by kernel_rfl
theorem r108_body : Tryd.f108.body = some c108 := by kernel_rfl
theorem rf108_ok : RFok E 108 rf108 := by
  refine ⟨Tryd.f108, r108_fn, fun call fuel base args m r _ h => ?_⟩
  unfold rf108 at h
  split at h
  · rw [← r108_eq] at h
    exact kbody_sound (c := c108) r108_body (Eq.mpr (r108_lk call fuel base) (And.intro trivial (And.intro (And.intro trivial (r108_L0_ok call fuel base)) (And.intro trivial trivial)))) h
  · simp at h
end Go.AM
namespace Go.AM
open Go Go.Proofs
noncomputable def r109 (call : CallF) (fuel base : Nat) (x0 : Value) (x1 : Value) (m : M) : Res2 :=
  (k2 (xbox m x1) fun v3_1 m => (k2 (xalloc E.P m 50) fun v4_2 m => (k1 (mindexAddr E.P 92 (.pointer (some ⟨0, 0, some 0⟩)) x0) fun v10_3 => (k1 (xload E.P m 50 v10_3) fun v11_4 => (k1 (xload E.P m 103 v3_1) fun v12_5 => (kc (kB m (call m.length 79 [v11_4, v12_5] m)) (fun v13_6 m => (k2 (xalloc E.P m 103) fun v6_7 m => (ks (xstore E.P base m 103 v6_7 v13_6) fun m => (k1 (mfieldAddr E.P 103 v3_1 0) fun v14_8 => (k1 (xload E.P m 3 v14_8) fun v15_9 => (k1 (mfieldAddr E.P 103 v6_7 0) fun v16_10 => (k1 (xload E.P m 3 v16_10) fun v17_11 => (k1 (mbin E .sub 3 v15_9 v17_11) fun v18_12 => (k1 (mfieldAddr E.P 103 v3_1 1) fun v19_13 => (k1 (xload E.P m 3 v19_13) fun v20_14 => (k1 (mfieldAddr E.P 103 v6_7 1) fun v21_15 => (k1 (xload E.P m 3 v21_15) fun v22_16 => (k1 (mbin E .sub 3 v20_14 v22_16) fun v23_17 => (k1 (mbin E .quo 3 v18_12 (.int .i64 2)) fun v26_18 => (k1 (mbin E .quo 3 v23_17 (.int .i64 2)) fun v28_19 => (kc (call base 64 [x0, v26_18, v28_19] m) (fun v29_20 m => (k1 (mbin E .rem 3 v18_12 (.int .i64 2)) fun v31_21 => (k1 (mbin E .eql 3 v31_21 (.int .i64 0)) fun v32_22 => (ks (xstore E.P base m 50 v4_2 v29_20) fun m => (k0 (mload E.P m 50 v4_2) fun r_23 => (some (.ret (.tuple #[r_23, v32_22]), m))))))) (fun v m => some (.pan v, m)))))))))))))))))) (fun _ _ => none)))))))
def keep109 : Keep := { region := fun i => ([[0, 3, 4], [0, 3, 4, 6], [0, 4, 7, 8], [4, 5]] : List (List Nat))[i]?, exit := fun i => ([] : List (List Nat))[i]?, ret := some [4, 5] }
noncomputable def lp109 (call : CallF) (fuel base : Nat) : Lp := lpsel []
noncomputable def c109 : Code := Tryd.f109.body.getD .skip
theorem r109_eq (call : CallF) (fuel base : Nat) (x0 : Value) (x1 : Value) (m : M) : kbody E call keep109 (lp109 call fuel base) base Tryd.f109 [x0, x1] m = r109 call fuel base x0 x1 m := by
  kernel_rfl
noncomputable def rf109 : RF := fun call fuel base args m => match args with
  | [x0, x1] => r109 call fuel base x0 x1 m
  | _ => none
theorem r109_lk (call : CallF) (fuel base : Nat) : LoopsOk E call (lp109 call fuel base) fuel base 0 c109 = (And True (And True (And True (And True True)))) := by kernel_rfl
theorem r109_fn : E.P.funcs[109]? = some Tryd.f109 := by kernel_rfl
theorem r109_body : Tryd.f109.body = some c109 := by kernel_rfl
theorem rf109_ok : RFok E 109 rf109 := by
  refine ⟨Tryd.f109, r109_fn, fun call fuel base args m r _ h => ?_⟩
  unfold rf109 at h
  split at h
  · rw [← r109_eq] at h
    exact kbody_sound (c := c109) r109_body (Eq.mpr (r109_lk call fuel base) (And.intro trivial (And.intro trivial (And.intro trivial (And.intro trivial trivial))))) h
  · simp at h
end Go.AM
namespace Go.AM
open Go Go.Proofs
noncomputable def r110 (call : CallF) (fuel base : Nat) (x0 : Value) (x1 : Value) (m : M) : Res2 :=
  (k2 (xbox m x0) fun v2_1 m => (k2 (xbox m x1) fun v3_2 m => (k1 (xload E.P m 70 v2_1) fun v8_3 => (k1 (xload E.P m 50 v3_2) fun v9_4 => (kc (kB m (call m.length 81 [v9_4] m)) (fun v10_5 m => (kc (kB m (call m.length 67 [v8_3, v10_5] m)) (fun v11_6 m => (k1 (mextract 0 v11_6) fun v12_7 => (k1 (mextract 1 v11_6) fun v13_8 => (k2 (xalloc E.P m 50) fun v5_9 m => (ks (xstore E.P base m 50 v5_9 v12_7) fun m => (kb v13_8 (k1 (xload E.P m 70 v2_1) fun v16_10 => (k1 (mfieldAddr E.P 50 v3_2 4) fun v17_11 => (k1 (xload E.P m 3 v17_11) fun v18_12 => (k1 (mfieldAddr E.P 50 v5_9 4) fun v19_13 => (k1 (xload E.P m 3 v19_13) fun v20_14 => (k1 (mbin E .sub 3 v18_12 v20_14) fun v21_15 => (k1 (mfieldAddr E.P 50 v3_2 5) fun v22_16 => (k1 (xload E.P m 3 v22_16) fun v23_17 => (k1 (mfieldAddr E.P 50 v5_9 5) fun v24_18 => (k1 (xload E.P m 3 v24_18) fun v25_19 => (k1 (mbin E .sub 3 v23_17 v25_19) fun v26_20 => (k1 (mbuild E.P 103 [(0, v21_15), (1, v26_20)]) fun v27_21 => (kc (call base 100 [v16_10, v27_21] m) (fun v28_22 m => (k1 (mbuild E.P 103 []) fun v29_23 => (k1 (mbin E .eql 103 v28_22 v29_23) fun v30_24 => (fVal v30_24 fun v => some (.ret v, m))))) (fun v m => some (.pan v, m))))))))))))))) (fVal (.bool false) fun v => some (.ret v, m)))))))) (fun _ _ => none))) (fun _ _ => none))))))
def keep110 : Keep := { region := fun i => ([[2, 3], [2, 3, 5, 6], [4]] : List (List Nat))[i]?, exit := fun i => ([] : List (List Nat))[i]?, ret := some [4] }
noncomputable def lp110 (call : CallF) (fuel base : Nat) : Lp := lpsel []
noncomputable def c110 : Code := Tryd.f110.body.getD .skip
theorem r110_eq (call : CallF) (fuel base : Nat) (x0 : Value) (x1 : Value) (m : M) : kbody E call keep110 (lp110 call fuel base) base Tryd.f110 [x0, x1] m = r110 call fuel base x0 x1 m := by
  kernel_rfl
noncomputable def rf110 : RF := fun call fuel base args m => match args with
  | [x0, x1] => r110 call fuel base x0 x1 m
  | _ => none
theorem r110_lk (call : CallF) (fuel base : Nat) : LoopsOk E call (lp110 call fuel base) fuel base 0 c110 = (And True (And True (And True True))) := by kernel_rfl
theorem r110_fn : E.P.funcs[110]? = some Tryd.f110 := by kernel_rfl
theorem r110_body : Tryd.f110.body = some c110 := by kernel_rfl
theorem rf110_ok : RFok E 110 rf110 := by
  refine ⟨Tryd.f110, r110_fn, fun call fuel base args m r _ h => ?_⟩
  unfold rf110 at h
  split at h
  · rw [← r110_eq] at h
    exact kbody_sound (c := c110) r110_body (Eq.mpr (r110_lk call fuel base) (And.intro trivial (And.intro trivial (And.intro trivial trivial)))) h
  · simp at h
end Go.AM
namespace Go.AM
open Go Go.Proofs
noncomputable def tab : List (Nat × RF) := [(7, rf7), (10, rf10), (11, rf11), (12, rf12), (17, rf17), (20, rf20), (27, rf27), (28, rf28), (40, rf40), (41, rf41), (43, rf43), (45, rf45), (47, rf47), (50, rf50), (61, rf61), (62, rf62), (63, rf63), (64, rf64), (65, rf65), (67, rf67), (68, rf68), (69, rf69), (70, rf70), (79, rf79), (81, rf81), (85, rf85), (86, rf86), (87, rf87), (88, rf88), (89, rf89), (90, rf90), (91, rf91), (92, rf92), (93, rf93), (94, rf94), (100, rf100), (101, rf101), (102, rf102), (103, rf103), (104, rf104), (105, rf105), (106, rf106), (108, rf108), (109, rf109), (110, rf110)]
theorem tab_ok : ∀ p ∈ tab, RFok E p.1 p.2 := by
  unfold tab
  simp only [List.mem_cons, forall_eq_or_imp, List.not_mem_nil, false_imp_iff, implies_true, and_true]
  exact ⟨rf7_ok, rf10_ok, rf11_ok, rf12_ok, rf17_ok, rf20_ok, rf27_ok, rf28_ok, rf40_ok, rf41_ok, rf43_ok, rf45_ok, rf47_ok, rf50_ok, rf61_ok, rf62_ok, rf63_ok, rf64_ok, rf65_ok, rf67_ok, rf68_ok, rf69_ok, rf70_ok, rf79_ok, rf81_ok, rf85_ok, rf86_ok, rf87_ok, rf88_ok, rf89_ok, rf90_ok, rf91_ok, rf92_ok, rf93_ok, rf94_ok, rf100_ok, rf101_ok, rf102_ok, rf103_ok, rf104_ok, rf105_ok, rf106_ok, rf108_ok, rf109_ok, rf110_ok⟩
noncomputable def rc (n : Nat) : CallF := rcall E.pure tab n
theorem rc_sound (n : Nat) : SoundCall E (rc n) := rcall_sound E_good E_mix _ tab_ok n
end Go.AM
namespace Go.AM
open Go Go.Proofs
abbrev nilS : Value := .slice none 0 0
def k1n (o : Option Value) (k : Value → Res2) : Res2 := match o with
  | some r => k r
  | none => none
theorem k1_fun : k1 = k1n := by
  funext o k
  cases o with
  | none => rfl
  | some r => exact fVal_eq r k
theorem fVal_fun : (@fVal Res2 : Value → (Value → Res2) → Res2) = fun v k => k v := by
  funext v k
  exact fVal_eq v k
noncomputable def vcalln (P : Program) (base : Nat) (m : M) (b : Builtin) (tys : List TypeId) (vs : List Value) : Option (Value × M) := match b with
  | .len => match tys, vs with
    | t :: _, [x] => match mlen P t x with
      | some r => some (r, m)
      | none => none
    | _, _ => none
  | .min => match vs with
    | x :: xs => match mfold mmin2 x xs with
      | some r => some (r, m)
      | none => none
    | _ => none
  | .max => match vs with
    | x :: xs => match mfold mmax2 x xs with
      | some r => some (r, m)
      | none => none
    | _ => none
  | b => xbuiltin P base m b tys vs
theorem vcall_fun : vcall = vcalln := by
  funext P base m b tys vs
  unfold vcall vcalln
  cases b <;> first
    | rfl
    | (simp only [xbuiltin, obuiltin, fVal_eq]; done)
    | (simp only [xbuiltin, obuiltin, fVal_eq]; rfl)
def vi (n : Int) : Value := .int .i64 n
def rowz (z : Nat) (ex : Bool) (cs : List Value) : Row := { esz := z, ex := ex, ro := false, cells := cs }
abbrev sl (p N : Nat) : Value := .slice (some ⟨p, 0, none⟩) N N
abbrev pt (p off : Nat) : Value := .pointer (some ⟨p, off, none⟩)
/-- A slice that grows: nil while it has nothing, else a row of its own. -/
def Grow (z b : Nat) (m : M) (v : Value) (cs : List Value) (n : Nat) : Prop :=
  (n = 0 ∧ v = .slice none 0 0 ∧ cs = []) ∨ ∃ r, 1 ≤ n ∧ b ≤ r ∧ v = sl r n ∧ m[r]? = some (rowz z false cs) ∧ cs.length = n * z
def Keeps (n : Nat) (m m' : M) : Prop := m.length ≤ m'.length ∧ ∀ i, i < n → m'[i]? = m[i]?
theorem Keeps.refl (n : Nat) (m : M) : Keeps n m m := ⟨Nat.le_refl _, fun _ _ => rfl⟩
theorem Keeps.trans {n : Nat} {a b c : M} (h : Keeps n a b) (k : Keeps n b c) : Keeps n a c := ⟨Nat.le_trans h.1 k.1, fun i hi => (k.2 i hi).trans (h.2 i hi)⟩
theorem Keeps.mono {n k : Nat} {a b : M} (h : Keeps n a b) (hk : k ≤ n) : Keeps k a b := ⟨h.1, fun i hi => h.2 i (by omega)⟩
theorem Keeps.push (n : Nat) (m : M) (h : n ≤ m.length) (x : List Row) : Keeps n m (m ++ x) := ⟨by simp, fun i hi => List.getElem?_append_left (by omega)⟩
theorem Keeps.set (n : Nat) (m : M) (r : Nat) (row : Row) (h : n ≤ r) : Keeps n m (m.set r row) := ⟨by simp, fun i hi => List.getElem?_set_ne (by omega)⟩
abbrev wr (n : Int) : Int := IntKind.i64.wrap n
def cellR (cs : List Value) : Row := { esz := 0, ex := true, ro := false, cells := cs }
theorem wr_id {n : Int} (h0 : -4611686018427387904 ≤ n) (h1 : n ≤ 4611686018427387904) : wr n = n := by
  unfold wr IntKind.wrap
  simp [IntKind.bits, IntKind.signed]
  omega
theorem wr_succ (j : Nat) (h : j ≤ 1000000) : wr ((j : Int) + 1) = ((j + 1 : Nat) : Int) := (wr_id (by omega) (by omega)).trans (by omega)
theorem lss_nat (i j : Nat) : mbin E .lss 3 (vi i) (vi j) = some (.bool (decide (i < j))) := by
  have e : mbin E .lss 3 (vi i) (vi j) = some (.bool (decide ((i : Int) < j))) := rfl
  rw [e]
  congr 2
  exact decide_eq_decide.2 (by omega)
theorem splice_one (cs : List Value) (off : Nat) (v : Value) (h : off < cs.length) : splice cs off [v] = cs.set off v := by
  unfold splice
  rw [List.set_eq_take_append_cons_drop, if_pos h]
  simp
theorem mwrite_one {base : Nat} {m : M} {p off : Nat} {v : Value} {row : Row} (hb : base ≤ p) (hr : m[p]? = some row) (hro : row.ro = false) (ho : off < row.cells.length) (hv : v.oneCell' = true) :
    mwrite base m p off [v] = some (m.set p { row with cells := row.cells.set off v }) := by
  unfold mwrite
  rw [if_neg (by omega), hr]
  simp only [hro, Bool.false_eq_true, if_false, List.length_cons, List.length_nil, List.all_cons, List.all_nil, hv, Bool.and_self, if_true]
  rw [if_pos (by omega), splice_one _ _ _ ho, fList_eq, fList_eq]
theorem add1 (j : Nat) (h : j ≤ 1000000) : mbin E .add 3 (vi j) (.int .i64 1) = some (vi ((j + 1 : Nat) : Int)) := by
  have e : mbin E .add 3 (vi j) (.int .i64 1) = some (vi (wr ((j : Int) + 1))) := rfl
  rw [e, wr_succ j h]
theorem kB_same (m : M) (v : Value) : kB m (some (.ret v, m)) = some (.ret v, m) := by
  simp only [kB, List.drop_length, List.append_nil, fList_eq]
theorem k2s (a : Value) (m : M) (k : Value → M → Res2) : k2 (some (a, m)) k = k a m := Eq.trans rfl rfl
theorem k1s (a : Value) (k : Value → Res2) : k1n (some a) k = k a := Eq.trans rfl rfl
theorem kss (m : M) (k : M → Res2) : ks (some m) k = k m := Eq.trans rfl rfl
theorem kcs (a : Value) (m : M) (k p : Value → M → Res2) : kc (some (.ret a, m)) k p = k a m := Eq.trans rfl rfl
theorem kbt (t f : Res2) : kb (.bool true) t f = t := Eq.trans rfl rfl
theorem kbf (t f : Res2) : kb (.bool false) t f = f := Eq.trans rfl rfl
theorem k0s (a : Value) (k : Value → Res2) : k0 (some a) k = k a := Eq.trans rfl rfl
theorem len9 (base : Nat) (m : M) (s : ByteArray) : vcalln E.P base m .len [9] [.string s] = some (vi s.size, m) := by kernel_rfl
theorem idx9 (s : ByteArray) (j : Nat) : mindex E.P 9 (.string s) (vi j) = (s[j]?).map fun b => .int .u8 (b.toNat : Int) := by
  have e : mindex E.P 9 (.string s) (vi j) = if 0 ≤ (j : Int) then (s[(j : Int).toNat]?).map fun b => .int .u8 (b.toNat : Int) else none := by kernel_rfl
  rw [e, if_pos (by omega)]
  rfl
theorem box_cell {m : M} {q : Nat} {cs : List Value} (h : m[q]? = some (cellR cs)) (j : Nat) (v : Value) (hv : cs[j]? = some v) : mcell m q j = some v := by
  unfold mcell
  rw [h]
  exact hv
theorem bx1 (m : M) (n : Int) : xbox m (vi n) = some (pt m.length 0, m ++ [cellR [vi n]]) := by
  have e : xbox m (vi n) = xlen m fun k => xpush m (cellR [vi n]) fun m' => some (pt k 0, m') := by kernel_rfl
  rw [e, xlen_eq, fNat_eq, xpush_eq, fList_eq]
theorem bxa2 (m : M) (a0 a1 : Value) : xbox m (.agg #[a0, a1]) = some (pt m.length 0, m ++ [cellR [a0, a1]]) := by
  have e : xbox m (.agg #[a0, a1]) = xlen m fun k => xpush m (cellR [a0, a1]) fun m' => some (pt k 0, m') := by kernel_rfl
  rw [e, xlen_eq, fNat_eq, xpush_eq, fList_eq]
theorem bxa3 (m : M) (a0 a1 a2 : Value) : xbox m (.agg #[a0, a1, a2]) = some (pt m.length 0, m ++ [cellR [a0, a1, a2]]) := by
  have e : xbox m (.agg #[a0, a1, a2]) = xlen m fun k => xpush m (cellR [a0, a1, a2]) fun m' => some (pt k 0, m') := by kernel_rfl
  rw [e, xlen_eq, fNat_eq, xpush_eq, fList_eq]
theorem bxa4 (m : M) (a0 a1 a2 a3 : Value) : xbox m (.agg #[a0, a1, a2, a3]) = some (pt m.length 0, m ++ [cellR [a0, a1, a2, a3]]) := by
  have e : xbox m (.agg #[a0, a1, a2, a3]) = xlen m fun k => xpush m (cellR [a0, a1, a2, a3]) fun m' => some (pt k 0, m') := by kernel_rfl
  rw [e, xlen_eq, fNat_eq, xpush_eq, fList_eq]
theorem bxa6 (m : M) (a0 a1 a2 a3 a4 a5 : Value) : xbox m (.agg #[a0, a1, a2, a3, a4, a5]) = some (pt m.length 0, m ++ [cellR [a0, a1, a2, a3, a4, a5]]) := by
  have e : xbox m (.agg #[a0, a1, a2, a3, a4, a5]) = xlen m fun k => xpush m (cellR [a0, a1, a2, a3, a4, a5]) fun m' => some (pt k 0, m') := by kernel_rfl
  rw [e, xlen_eq, fNat_eq, xpush_eq, fList_eq]
theorem rem3 (a b : Int) (h : b ≠ 0) : mbin E .rem 3 (vi a) (vi b) = some (vi (a.tmod b)) := by
  have e : mbin E .rem 3 (vi a) (vi b) = if b = 0 then none else some (vi (a.tmod b)) := by kernel_rfl
  rw [e, if_neg h]
theorem quo3 (a b : Int) (h : b ≠ 0) : mbin E .quo 3 (vi a) (vi b) = some (vi (wr (a.tdiv b))) := by
  have e : mbin E .quo 3 (vi a) (vi b) = if b = 0 then none else some (vi (wr (a.tdiv b))) := by kernel_rfl
  rw [e, if_neg h]
theorem add3 (a b : Int) : mbin E .add 3 (vi a) (vi b) = some (vi (wr (a + b))) := by kernel_rfl
theorem sub3 (a b : Int) : mbin E .sub 3 (vi a) (vi b) = some (vi (wr (a - b))) := by kernel_rfl
theorem mul3 (a b : Int) : mbin E .mul 3 (vi a) (vi b) = some (vi (wr (a * b))) := by kernel_rfl
theorem lss3 (a b : Int) : mbin E .lss 3 (vi a) (vi b) = some (.bool (decide (a < b))) := by kernel_rfl
theorem gtr3 (a b : Int) : mbin E .gtr 3 (vi a) (vi b) = some (.bool (decide (a > b))) := by kernel_rfl
theorem geq3 (a b : Int) : mbin E .geq 3 (vi a) (vi b) = some (.bool (decide (a ≥ b))) := by kernel_rfl
theorem eql3 (a b : Int) : mbin E .eql 3 (vi a) (vi b) = some (.bool (decide (a = b))) := by
  have e : mbin E .eql 3 (vi a) (vi b) = some (.bool (a == b)) := by kernel_rfl
  rw [e]; congr 2
theorem neq3 (a b : Int) : mbin E .neq 3 (vi a) (vi b) = some (.bool (!decide (a = b))) := by
  have e : mbin E .neq 3 (vi a) (vi b) = some (.bool (!(a == b))) := by kernel_rfl
  rw [e]; congr 2
theorem eql27 (a b : Int) : mbin E .eql 27 (vi a) (vi b) = some (.bool (decide (a = b))) := by
  have e : mbin E .eql 27 (vi a) (vi b) = some (.bool (a == b)) := by kernel_rfl
  rw [e]; congr 2
theorem neq27 (a b : Int) : mbin E .neq 27 (vi a) (vi b) = some (.bool (!decide (a = b))) := by
  have e : mbin E .neq 27 (vi a) (vi b) = some (.bool (!(a == b))) := by kernel_rfl
  rw [e]; congr 2
theorem not4 (b : Bool) : mun .not (.bool b) = some (.bool !b) := by kernel_rfl
theorem lss5 (a b : Int) : mbin E .lss 5 (.int .u8 a) (.int .u8 b) = some (.bool (decide (a < b))) := by kernel_rfl
theorem gtr5 (a b : Int) : mbin E .gtr 5 (.int .u8 a) (.int .u8 b) = some (.bool (decide (a > b))) := by kernel_rfl
theorem neq5 (a b : Int) : mbin E .neq 5 (.int .u8 a) (.int .u8 b) = some (.bool (!decide (a = b))) := by
  have e : mbin E .neq 5 (.int .u8 a) (.int .u8 b) = some (.bool (!(a == b))) := by kernel_rfl
  rw [e]; congr 2
theorem bytes_eq (a b : ByteArray) : (a.toList == b.toList) = decide (a = b) := by
  have key : ∀ c : ByteArray, c.toList = c.data.toList := by
    intro c
    have h : ∀ (n i : Nat) (r : List UInt8), c.size = i + n → ByteArray.toList.loop c i r = r.reverse ++ c.data.toList.drop i := by
      intro n
      induction n with
      | zero =>
        intro i r h
        unfold ByteArray.toList.loop
        rw [if_neg (by omega), List.drop_eq_nil_of_le (by simp; show c.size ≤ i; omega)]
        simp
      | succ n ih =>
        intro i r h
        unfold ByteArray.toList.loop
        rw [if_pos (by omega), ih (i + 1) _ (by omega)]
        have hi : i < c.data.toList.length := by simp; show i < c.size; omega
        rw [List.drop_eq_getElem_cons hi, List.reverse_cons, List.append_assoc]
        congr 1
        simp only [List.cons_append, List.nil_append]
        congr 1
        have hi' : i < c.size := by omega
        show c.get! i = _
        simp [ByteArray.get!, getElem!_pos c.data i (by show i < c.size; omega)]
    have := h c.size 0 [] (by omega)
    unfold ByteArray.toList
    rw [this]; simp
  rw [key, key, Bool.eq_iff_iff]
  simp only [beq_iff_eq, decide_eq_true_eq]
  constructor
  · intro h
    have : a.data = b.data := Array.ext' h
    cases a; cases b; simp_all
  · rintro rfl; rfl
theorem ld3 (m : M) (r off : Nat) : xload E.P m 3 (pt r off) = mcell m r off := by
  have e : xload E.P m 3 (pt r off) = xcell m r off := by kernel_rfl
  rw [e, xcell_eq]
theorem st3 (base : Nat) (m : M) (p off : Nat) (x : Int) : xstore E.P base m 3 (pt p off) (vi x) = mwrite base m p off [(vi x)] := by
  have e : xstore E.P base m 3 (pt p off) (vi x) = xwrite base m p off [(vi x)] := by kernel_rfl
  rw [e, xwrite_eq]
theorem ld9 (m : M) (r off : Nat) : xload E.P m 9 (pt r off) = mcell m r off := by
  have e : xload E.P m 9 (pt r off) = xcell m r off := by kernel_rfl
  rw [e, xcell_eq]
theorem ld30 (m : M) (r off : Nat) : xload E.P m 30 (pt r off) = mcell m r off := by
  have e : xload E.P m 30 (pt r off) = xcell m r off := by kernel_rfl
  rw [e, xcell_eq]
theorem st30 (base : Nat) (m : M) (p off q l c : Nat) : xstore E.P base m 30 (pt p off) (.slice (some ⟨q, 0, none⟩) l c) = mwrite base m p off [.slice (some ⟨q, 0, none⟩) l c] := by
  have e : xstore E.P base m 30 (pt p off) (.slice (some ⟨q, 0, none⟩) l c) = xwrite base m p off [.slice (some ⟨q, 0, none⟩) l c] := by kernel_rfl
  rw [e, xwrite_eq]
theorem st30n (base : Nat) (m : M) (p off : Nat) : xstore E.P base m 30 (pt p off) nilS = mwrite base m p off [nilS] := by
  have e : xstore E.P base m 30 (pt p off) nilS = xwrite base m p off [nilS] := by kernel_rfl
  rw [e, xwrite_eq]
theorem al103 (m : M) : xalloc E.P m 103 = some (pt m.length 0, m ++ [cellR [.int .i64 0, .int .i64 0]]) := by
  have e : xalloc E.P m 103 = xlen m fun n => xpush m (cellR [.int .i64 0, .int .i64 0]) fun m' => some (pt n 0, m') := by kernel_rfl
  rw [e, xlen_eq, fNat_eq, xpush_eq, fList_eq]
theorem ld103 {m : M} {r : Nat} {row : Row} {off : Nat} (h : m[r]? = some row) (hl : off + 2 ≤ row.cells.length) : xload E.P m 103 (pt r off) = some (.agg ((row.cells.drop off).take 2).toArray) := by
  have e : xload E.P m 103 (pt r off) = (xread m r off 2).map fun cs => .agg cs.toArray := by kernel_rfl
  rw [e, xread_eq]
  unfold mread
  rw [h]
  simp only
  rw [if_pos hl]
  rfl
theorem ldb103 {m : M} {r : Nat} {a0 a1 : Value} (h : m[r]? = some (cellR [a0, a1])) : xload E.P m 103 (pt r 0) = some (.agg #[a0, a1]) := ld103 h (by simp [cellR])
theorem ml103 {m : M} {r : Nat} {a0 a1 : Value} (h : m[r]? = some (cellR [a0, a1])) : mload E.P m 103 (pt r 0) = some (.agg #[a0, a1]) := by
  have e : mload E.P m 103 (pt r 0) = (mread m r 0 2).map fun cs => .agg cs.toArray := by kernel_rfl
  rw [e]
  unfold mread
  rw [h]
  rfl
theorem st103 {base : Nat} {m : M} {p : Nat} (hb : base ≤ p) {a0 a1 b0 b1 : Value} (h : m[p]? = some (cellR [b0, b1])) (hone : ([a0, a1] : List Value).all (·.oneCell') = true) : xstore E.P base m 103 (pt p 0) (.agg #[a0, a1]) = some (m.set p (cellR [a0, a1])) := by
  have e : xstore E.P base m 103 (pt p 0) (.agg #[a0, a1]) = xwrite base m p 0 [a0, a1] := by kernel_rfl
  rw [e, xwrite_eq]
  unfold mwrite
  rw [if_neg (by omega), h]
  simp only [cellR, splice, fList_eq, Bool.false_eq_true, if_false, hone, if_true]
  simp
theorem ff103_0 (p o : Nat) : mfieldAddr E.P 103 (pt p o) 0 = some (pt p (o + 0)) := by kernel_rfl
theorem ff103_1 (p o : Nat) : mfieldAddr E.P 103 (pt p o) 1 = some (pt p (o + 1)) := by kernel_rfl
theorem al26 (m : M) : xalloc E.P m 26 = some (pt m.length 0, m ++ [cellR [.int .i64 0, .int .i64 0, .int .i64 0]]) := by
  have e : xalloc E.P m 26 = xlen m fun n => xpush m (cellR [.int .i64 0, .int .i64 0, .int .i64 0]) fun m' => some (pt n 0, m') := by kernel_rfl
  rw [e, xlen_eq, fNat_eq, xpush_eq, fList_eq]
theorem ld26 {m : M} {r : Nat} {row : Row} {off : Nat} (h : m[r]? = some row) (hl : off + 3 ≤ row.cells.length) : xload E.P m 26 (pt r off) = some (.agg ((row.cells.drop off).take 3).toArray) := by
  have e : xload E.P m 26 (pt r off) = (xread m r off 3).map fun cs => .agg cs.toArray := by kernel_rfl
  rw [e, xread_eq]
  unfold mread
  rw [h]
  simp only
  rw [if_pos hl]
  rfl
theorem ml26 {m : M} {r : Nat} {a0 a1 a2 : Value} (h : m[r]? = some (cellR [a0, a1, a2])) : mload E.P m 26 (pt r 0) = some (.agg #[a0, a1, a2]) := by
  have e : mload E.P m 26 (pt r 0) = (mread m r 0 3).map fun cs => .agg cs.toArray := by kernel_rfl
  rw [e]
  unfold mread
  rw [h]
  rfl
theorem st26 {base : Nat} {m : M} {p : Nat} (hb : base ≤ p) {a0 a1 a2 b0 b1 b2 : Value} (h : m[p]? = some (cellR [b0, b1, b2])) (hone : ([a0, a1, a2] : List Value).all (·.oneCell') = true) : xstore E.P base m 26 (pt p 0) (.agg #[a0, a1, a2]) = some (m.set p (cellR [a0, a1, a2])) := by
  have e : xstore E.P base m 26 (pt p 0) (.agg #[a0, a1, a2]) = xwrite base m p 0 [a0, a1, a2] := by kernel_rfl
  rw [e, xwrite_eq]
  unfold mwrite
  rw [if_neg (by omega), h]
  simp only [cellR, splice, fList_eq, Bool.false_eq_true, if_false, hone, if_true]
  simp
theorem ff26_0 (p o : Nat) : mfieldAddr E.P 26 (pt p o) 0 = some (pt p (o + 0)) := by kernel_rfl
theorem ff26_1 (p o : Nat) : mfieldAddr E.P 26 (pt p o) 1 = some (pt p (o + 1)) := by kernel_rfl
theorem ff26_2 (p o : Nat) : mfieldAddr E.P 26 (pt p o) 2 = some (pt p (o + 2)) := by kernel_rfl
theorem al50 (m : M) : xalloc E.P m 50 = some (pt m.length 0, m ++ [cellR [.int .i64 0, .int .i64 0, .int .i64 0, .int .i64 0, .int .i64 0, .int .i64 0]]) := by
  have e : xalloc E.P m 50 = xlen m fun n => xpush m (cellR [.int .i64 0, .int .i64 0, .int .i64 0, .int .i64 0, .int .i64 0, .int .i64 0]) fun m' => some (pt n 0, m') := by kernel_rfl
  rw [e, xlen_eq, fNat_eq, xpush_eq, fList_eq]
theorem ld50 {m : M} {r : Nat} {row : Row} {off : Nat} (h : m[r]? = some row) (hl : off + 6 ≤ row.cells.length) : xload E.P m 50 (pt r off) = some (.agg ((row.cells.drop off).take 6).toArray) := by
  have e : xload E.P m 50 (pt r off) = (xread m r off 6).map fun cs => .agg cs.toArray := by kernel_rfl
  rw [e, xread_eq]
  unfold mread
  rw [h]
  simp only
  rw [if_pos hl]
  rfl
theorem ldb50 {m : M} {r : Nat} {a0 a1 a2 a3 a4 a5 : Value} (h : m[r]? = some (cellR [a0, a1, a2, a3, a4, a5])) : xload E.P m 50 (pt r 0) = some (.agg #[a0, a1, a2, a3, a4, a5]) := ld50 h (by simp [cellR])
theorem ml50 {m : M} {r : Nat} {a0 a1 a2 a3 a4 a5 : Value} (h : m[r]? = some (cellR [a0, a1, a2, a3, a4, a5])) : mload E.P m 50 (pt r 0) = some (.agg #[a0, a1, a2, a3, a4, a5]) := by
  have e : mload E.P m 50 (pt r 0) = (mread m r 0 6).map fun cs => .agg cs.toArray := by kernel_rfl
  rw [e]
  unfold mread
  rw [h]
  rfl
theorem st50 {base : Nat} {m : M} {p : Nat} (hb : base ≤ p) {a0 a1 a2 a3 a4 a5 b0 b1 b2 b3 b4 b5 : Value} (h : m[p]? = some (cellR [b0, b1, b2, b3, b4, b5])) (hone : ([a0, a1, a2, a3, a4, a5] : List Value).all (·.oneCell') = true) : xstore E.P base m 50 (pt p 0) (.agg #[a0, a1, a2, a3, a4, a5]) = some (m.set p (cellR [a0, a1, a2, a3, a4, a5])) := by
  have e : xstore E.P base m 50 (pt p 0) (.agg #[a0, a1, a2, a3, a4, a5]) = xwrite base m p 0 [a0, a1, a2, a3, a4, a5] := by kernel_rfl
  rw [e, xwrite_eq]
  unfold mwrite
  rw [if_neg (by omega), h]
  simp only [cellR, splice, fList_eq, Bool.false_eq_true, if_false, hone, if_true]
  simp
theorem ff50_4 (p o : Nat) : mfieldAddr E.P 50 (pt p o) 4 = some (pt p (o + 4)) := by kernel_rfl
theorem ff50_5 (p o : Nat) : mfieldAddr E.P 50 (pt p o) 5 = some (pt p (o + 5)) := by kernel_rfl
theorem ix22 (p l c j : Nat) (h : j < l) : mindexAddr E.P 22 (.slice (some ⟨p, 0, none⟩) l c) (vi j) = some (pt p j) := by
  have e : mindexAddr E.P 22 (.slice (some ⟨p, 0, none⟩) l c) (vi j) = if 0 ≤ (j : Int) ∧ (j : Int) < l then some (.pointer (some ⟨p, 0 + ((j : Int)).toNat * 1, none⟩)) else none := by kernel_rfl
  rw [e, if_pos (by omega)]
  simp
theorem len22 (base : Nat) (m : M) (o l c : Nat) : vcalln E.P base m .len [22] [.slice (some ⟨o, 0, none⟩) l c] = some (vi l, m) := by kernel_rfl
theorem len22n (base : Nat) (m : M) : vcalln E.P base m .len [22] [nilS] = some (vi 0, m) := by kernel_rfl
theorem ix66 (p l c j : Nat) (h : j < l) : mindexAddr E.P 66 (.slice (some ⟨p, 0, none⟩) l c) (vi j) = some (pt p j) := by
  have e : mindexAddr E.P 66 (.slice (some ⟨p, 0, none⟩) l c) (vi j) = if 0 ≤ (j : Int) ∧ (j : Int) < l then some (.pointer (some ⟨p, 0 + ((j : Int)).toNat * 1, none⟩)) else none := by kernel_rfl
  rw [e, if_pos (by omega)]
  simp
theorem len66 (base : Nat) (m : M) (o l c : Nat) : vcalln E.P base m .len [66] [.slice (some ⟨o, 0, none⟩) l c] = some (vi l, m) := by kernel_rfl
theorem len66n (base : Nat) (m : M) : vcalln E.P base m .len [66] [nilS] = some (vi 0, m) := by kernel_rfl
theorem ix30 (p l c j : Nat) (h : j < l) : mindexAddr E.P 30 (.slice (some ⟨p, 0, none⟩) l c) (vi j) = some (pt p (j * 6)) := by
  have e : mindexAddr E.P 30 (.slice (some ⟨p, 0, none⟩) l c) (vi j) = if 0 ≤ (j : Int) ∧ (j : Int) < l then some (.pointer (some ⟨p, 0 + ((j : Int)).toNat * 6, none⟩)) else none := by kernel_rfl
  rw [e, if_pos (by omega)]
  simp
theorem len30 (base : Nat) (m : M) (o l c : Nat) : vcalln E.P base m .len [30] [.slice (some ⟨o, 0, none⟩) l c] = some (vi l, m) := by kernel_rfl
theorem len30n (base : Nat) (m : M) : vcalln E.P base m .len [30] [nilS] = some (vi 0, m) := by kernel_rfl
theorem ix37 (p l c j : Nat) (h : j < l) : mindexAddr E.P 37 (.slice (some ⟨p, 0, none⟩) l c) (vi j) = some (pt p j) := by
  have e : mindexAddr E.P 37 (.slice (some ⟨p, 0, none⟩) l c) (vi j) = if 0 ≤ (j : Int) ∧ (j : Int) < l then some (.pointer (some ⟨p, 0 + ((j : Int)).toNat * 1, none⟩)) else none := by kernel_rfl
  rw [e, if_pos (by omega)]
  simp
theorem len37 (base : Nat) (m : M) (o l c : Nat) : vcalln E.P base m .len [37] [.slice (some ⟨o, 0, none⟩) l c] = some (vi l, m) := by kernel_rfl
theorem len37n (base : Nat) (m : M) : vcalln E.P base m .len [37] [nilS] = some (vi 0, m) := by kernel_rfl
theorem ix115 (p l c j : Nat) (h : j < l) : mindexAddr E.P 115 (.slice (some ⟨p, 0, none⟩) l c) (vi j) = some (pt p (j * 2)) := by
  have e : mindexAddr E.P 115 (.slice (some ⟨p, 0, none⟩) l c) (vi j) = if 0 ≤ (j : Int) ∧ (j : Int) < l then some (.pointer (some ⟨p, 0 + ((j : Int)).toNat * 2, none⟩)) else none := by kernel_rfl
  rw [e, if_pos (by omega)]
  simp
theorem len115 (base : Nat) (m : M) (o l c : Nat) : vcalln E.P base m .len [115] [.slice (some ⟨o, 0, none⟩) l c] = some (vi l, m) := by kernel_rfl
theorem len115n (base : Nat) (m : M) : vcalln E.P base m .len [115] [nilS] = some (vi 0, m) := by kernel_rfl
end Go.AM
