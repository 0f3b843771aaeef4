import Derived.KernelRfl
import Derived.Laws.BytesArg
import Derived.Laws.StructEq
import Derived.Test.YtnmdpolgbdkffaaDoorRows
import Derived.WalkKit
import Derived.Test.YtnmdpolgbdkffaaDoorAmB
import Derived.Test.YtnmdpolgbdkffaaDoorAmModel
import Derived.Test.YtnmdpolgbdkffaaDoorAmOps6
import Derived.Test.YtnmdpolgbdkffaaDoorAmCode
import Derived.Test.YtnmdpolgbdkffaaDoorAmK2
import Derived.Test.YtnmdpolgbdkffaaDoorAmEq
import Derived.Test.YtnmdpolgbdkffaaDoorRBase
set_option linter.unusedVariables false
set_option linter.unusedSimpArgs false
set_option linter.unusedSectionVars false
namespace Go.AM
open Go Go.Proofs
noncomputable def r66_L2 (call : CallF) (fuel base : Nat) (kp : Value → M → Res2) (kr : Value → M → Res2) (kx2 : Value → Value → Value → Value → Value → M → Res2) (n : Nat) : Value → Value → Value → Value → Value → Value → M → Res2 :=
  Nat.rec (motive := fun _ => Value → Value → Value → Value → Value → Value → M → Res2) (fun _ _ _ _ _ _ _ => none)
    (fun _ ih x0 x3 x5 x6 x7 x8 m =>
      (k1 (mbin E .mul 3 x5 x6) fun v27_8 => (k1 (mbin E .lss 3 x8 v27_8) fun v28_9 => (kb v28_9 (k1 (xload E.P m 50 x3) fun v32_10 => (kc (call base 50 [v32_10, x8, x7] m) (fun v35_11 m => (k1 (mextract 0 v35_11) fun v36_12 => (k1 (mextract 1 v35_11) fun v37_13 => (kc (call base 58 [x0, x8, x7] m) (fun v41_14 m => (kc (call base 58 [x0, v36_12, v37_13] m) (fun v45_15 m => (k1 (mbin E .neq 5 v41_14 v45_15) fun v46_16 => (kb v46_16 (kr (.bool false) m) (k1 (mbin E .add 3 x8 (.int .i64 1)) fun v30_17 => (ih x0 x3 x5 x6 x7 v30_17 m))))) (fun v m => kp v m))) (fun v m => kp v m))))) (fun v m => kp v m))) (kx2 x0 x3 x5 x6 x7 m))))) n
noncomputable def r66_L0 (call : CallF) (fuel base : Nat) (kp : Value → M → Res2) (kr : Value → M → Res2) (kx0 : M → Res2) (n : Nat) : Value → Value → Value → Value → Value → M → Res2 :=
  Nat.rec (motive := fun _ => Value → Value → Value → Value → Value → M → Res2) (fun _ _ _ _ _ _ => none)
    (fun _ ih x0 x3 x5 x6 x7 m =>
      (k1 (mbin E .mul 3 x5 x6) fun v20_6 => (k1 (mbin E .lss 3 x7 v20_6) fun v21_7 => (kb v21_7 (r66_L2 call fuel base (fun v m => kp v m) (fun y4_18 m => (kr y4_18 m)) (fun y0_19 y3_20 y5_21 y6_22 y7_23 m => (k1 (mbin E .add 3 y7_23 (.int .i64 1)) fun v23_24 => (ih y0_19 y3_20 y5_21 y6_22 v23_24 m))) fuel x0 x3 x5 x6 x7 (.int .i64 0) m) (kx0 m))))) n
noncomputable def r66 (call : CallF) (fuel base : Nat) (x0 : Value) (x1 : Value) (m : M) : Res2 :=
  (k2 (xbox m x1) fun v3_1 m => (k1 (mindexAddr E.P 22 x0 (.int .i64 0)) fun v12_2 => (k1 (xload E.P m 9 v12_2) fun v13_3 => (k2 (vcall E.P base m .len [9] [v13_3]) fun v14_4 m => (k2 (vcall E.P base m .len [22] [x0]) fun v16_5 m => (r66_L0 call fuel base (fun v m => some (.pan v, m)) (fun y4_25 m => (fVal y4_25 fun v => some (.ret v, m))) (fun m => (fVal (.bool true) fun v => some (.ret v, m))) fuel x0 v3_1 v14_4 v16_5 (.int .i64 0) m))))))
def keep66 : Keep := { region := fun i => ([[0, 3], [0, 3, 5, 6], [0, 3, 5, 6, 7], [0, 3, 5, 6, 7, 21], [0, 3, 5, 6, 7], [0, 3, 5, 6, 7, 8], [0, 3, 5, 6, 7, 8, 28], [0, 3, 5, 6, 7, 8], [0, 3, 5, 6, 7, 8, 9, 10], [0, 3, 5, 6, 7, 8, 46], [4], [4]] : List (List Nat))[i]?, exit := fun i => ([[], [0, 3, 5, 6, 7], [0, 3, 5, 6, 7], [0, 3, 5, 6, 7, 8]] : List (List Nat))[i]?, ret := some [4] }
noncomputable def r66_L2_R (call : CallF) (fuel base n : Nat) (vs : List Value) (m : M) (K : KT) : Res2 := match vs with
  | [x0, x3, x5, x6, x7, x8] => r66_L2 call fuel base (fun v m => K (.pan v) { n := 47, l := [] } m) (fun y4 m => K .ret { n := 47, l := [(4, y4)] } m) (fun y0 y3 y5 y6 y7 m => K (.exit 2) { n := 47, l := [(0, y0), (3, y3), (5, y5), (6, y6), (7, y7)] } m) n x0 x3 x5 x6 x7 x8 m
  | _ => none
noncomputable def r66_L0_R (call : CallF) (fuel base n : Nat) (vs : List Value) (m : M) (K : KT) : Res2 := match vs with
  | [x0, x3, x5, x6, x7] => r66_L0 call fuel base (fun v m => K (.pan v) { n := 47, l := [] } m) (fun y4 m => K .ret { n := 47, l := [(4, y4)] } m) (fun m => K (.exit 0) { n := 47, l := [] } m) n x0 x3 x5 x6 x7 m
  | _ => none
noncomputable def lp66 (call : CallF) (fuel base : Nat) : Lp := lpsel [(2, fun T m K => kslots 47 [0, 3, 5, 6, 7, 8] T fun vs => r66_L2_R call fuel base fuel vs m K), (0, fun T m K => kslots 47 [0, 3, 5, 6, 7] T fun vs => r66_L0_R call fuel base fuel vs m K)]
noncomputable def c66 : Code := Tryd.f66.body.getD .skip
theorem r66_L2_lk (call : CallF) (fuel base : Nat) : LoopsOk E call (lp66 call fuel base) fuel base 2 (loopB (blockB (seqR (blockB (seqL (seqR (loopB (blockB (seqR (seqL (seqR (seqR c66)))))))))))) = (And (And True (And True True)) (And (And True (And True (And (And True True) True))) True)) := by kernel_rfl
theorem r66_L2_ok (call : CallF) (fuel base : Nat) : LpOk E call (lp66 call fuel base) fuel base 2 (loopB (blockB (seqR (blockB (seqL (seqR (loopB (blockB (seqR (seqL (seqR (seqR c66)))))))))))) := by
  refine loop_ok (kp := keep66) (hb := Eq.mpr (r66_L2_lk call fuel base) (And.intro (And.intro trivial (And.intro trivial trivial)) (And.intro (And.intro trivial (And.intro trivial (And.intro (And.intro trivial trivial) trivial))) trivial))) 47 [0, 3, 5, 6, 7, 8] (fun n vs m K => r66_L2_R call fuel base n vs m K) ?_ ?_ (fun _ _ _ => rfl)
  · intro vs m K
    unfold r66_L2_R
    split <;> rfl
  · intro n vs m K hl
    match vs, hl with
    | [x0, x3, x5, x6, x7, x8], _ => show _ = _; kernel_rfl
theorem r66_L0_lk (call : CallF) (fuel base : Nat) : LoopsOk E call (lp66 call fuel base) fuel base 0 (loopB (blockB (seqR (seqL (seqR (seqR c66)))))) = (And (And True (And True True)) (And (And True (LpOk E call (lp66 call fuel base) fuel base 2 (loopB (blockB (seqR (blockB (seqL (seqR (loopB (blockB (seqR (seqL (seqR (seqR c66)))))))))))))) True)) := by kernel_rfl
theorem r66_L0_ok (call : CallF) (fuel base : Nat) : LpOk E call (lp66 call fuel base) fuel base 0 (loopB (blockB (seqR (seqL (seqR (seqR c66)))))) := by
  refine loop_ok (kp := keep66) (hb := Eq.mpr (r66_L0_lk call fuel base) (And.intro (And.intro trivial (And.intro trivial trivial)) (And.intro (And.intro trivial (r66_L2_ok call fuel base)) trivial))) 47 [0, 3, 5, 6, 7] (fun n vs m K => r66_L0_R call fuel base n vs m K) ?_ ?_ (fun _ _ _ => rfl)
  · intro vs m K
    unfold r66_L0_R
    split <;> rfl
  · intro n vs m K hl
    match vs, hl with
    | [x0, x3, x5, x6, x7], _ => show _ = _; kernel_rfl
theorem r66_eq (call : CallF) (fuel base : Nat) (x0 : Value) (x1 : Value) (m : M) : kbody E call keep66 (lp66 call fuel base) base Tryd.f66 [x0, x1] m = r66 call fuel base x0 x1 m := by
  kernel_rfl
noncomputable def rf66 : RF := fun call fuel base args m => match args with
  | [x0, x1] => r66 call fuel base x0 x1 m
  | _ => none
theorem r66_lk (call : CallF) (fuel base : Nat) : LoopsOk E call (lp66 call fuel base) fuel base 0 c66 = (And True (And True (And (And True (LpOk E call (lp66 call fuel base) fuel base 0 (loopB (blockB (seqR (seqL (seqR (seqR c66)))))))) (And True True)))) := by kernel_rfl
theorem r66_fn : E.P.funcs[66]? = some Tryd.f66 := by kernel_rfl
theorem r66_body : Tryd.f66.body = some c66 := by kernel_rfl
theorem rf66_ok : RFok E 66 rf66 := by
  refine ⟨Tryd.f66, r66_fn, fun call fuel base args m r _ h => ?_⟩
  unfold rf66 at h
  split at h
  · rw [← r66_eq] at h
    exact kbody_sound (c := c66) r66_body (Eq.mpr (r66_lk call fuel base) (And.intro trivial (And.intro trivial (And.intro (And.intro trivial (r66_L0_ok call fuel base)) (And.intro trivial trivial))))) h
  · simp at h
end Go.AM
namespace Go.AM
open Go Go.Proofs
noncomputable def r67 (call : CallF) (fuel base : Nat) (x0 : Value) (x1 : Value) (m : M) : Res2 :=
  (k2 (xbox m x0) fun v2_1 m => (k2 (xbox m x1) fun v3_2 m => (k2 (xalloc E.P m 50) fun v4_3 m => (k1 (mfieldAddr E.P 70 v2_1 1) fun v7_4 => (k1 (xload E.P m 30 v7_4) fun v8_5 => (kc (call base 87 [v8_5, (.func (.func 88) #[] #[v3_2])] m) (fun v10_6 m => (k1 (mbin E .lss 3 v10_6 (.int .i64 0)) fun v12_7 => (kb v12_7 (k1 (mbuild E.P 50 []) fun v13_8 => (ks (xstore E.P base m 50 v4_3 v13_8) fun m => (k0 (mload E.P m 50 v4_3) fun r_9 => (some (.ret (.tuple #[r_9, (.bool false)]), m))))) (k1 (mfieldAddr E.P 70 v2_1 1) fun v14_10 => (k1 (xload E.P m 30 v14_10) fun v15_11 => (k1 (mindexAddr E.P 30 v15_11 v10_6) fun v17_12 => (k1 (xload E.P m 50 v17_12) fun v18_13 => (ks (xstore E.P base m 50 v4_3 v18_13) fun m => (k0 (mload E.P m 50 v4_3) fun r_14 => (some (.ret (.tuple #[r_14, (.bool true)]), m))))))))))) (fun v m => some (.pan v, m))))))))
def keep67 : Keep := { region := fun i => ([[2, 3, 4], [2, 4, 6], [2, 4, 6, 12], [4, 5], [4, 5]] : List (List Nat))[i]?, exit := fun i => ([] : List (List Nat))[i]?, ret := some [4, 5] }
noncomputable def lp67 (call : CallF) (fuel base : Nat) : Lp := lpsel []
noncomputable def c67 : Code := Tryd.f67.body.getD .skip
theorem r67_eq (call : CallF) (fuel base : Nat) (x0 : Value) (x1 : Value) (m : M) : kbody E call keep67 (lp67 call fuel base) base Tryd.f67 [x0, x1] m = r67 call fuel base x0 x1 m := by
  kernel_rfl
noncomputable def rf67 : RF := fun call fuel base args m => match args with
  | [x0, x1] => r67 call fuel base x0 x1 m
  | _ => none
theorem r67_lk (call : CallF) (fuel base : Nat) : LoopsOk E call (lp67 call fuel base) fuel base 0 c67 = (And True (And True (And (And True (And (And True True) True)) (And True True)))) := by kernel_rfl
theorem r67_fn : E.P.funcs[67]? = some Tryd.f67 := by kernel_rfl
theorem r67_body : Tryd.f67.body = some c67 := by kernel_rfl
theorem rf67_ok : RFok E 67 rf67 := by
  refine ⟨Tryd.f67, r67_fn, fun call fuel base args m r _ h => ?_⟩
  unfold rf67 at h
  split at h
  · rw [← r67_eq] at h
    exact kbody_sound (c := c67) r67_body (Eq.mpr (r67_lk call fuel base) (And.intro trivial (And.intro trivial (And.intro (And.intro trivial (And.intro (And.intro trivial trivial) trivial)) (And.intro trivial trivial))))) h
  · simp at h
end Go.AM
namespace Go.AM
open Go Go.Proofs
noncomputable def r68 (call : CallF) (fuel base : Nat) (x0 : Value) (m : M) : Res2 :=
  (k2 (xbox m x0) fun v1_1 m => (k1 (xload E.P m 70 v1_1) fun v4_2 => (kc (call base 89 [v4_2] m) (fun v5_3 m => (k2 (vcall E.P base m .len [37] [v5_3]) fun v6_4 m => (k1 (mbin E .eql 3 v6_4 (.int .i64 0)) fun v7_5 => (kb v7_5 (fVal (.string (ByteArray.mk #[112, 52])) fun v => some (.ret v, m)) (k1 (xload E.P m 70 v1_1) fun v9_6 => (kc (kB m (call m.length 91 [v9_6, (.int .i64 1)] m)) (fun v10_7 m => (k1 (xload E.P m 70 v1_1) fun v11_8 => (kc (kB m (call m.length 90 [v10_7, (.func (.func 92) #[v11_8] #[])] m)) (fun v13_9 m => (kb v13_9 (fVal (.string (ByteArray.mk #[112, 52, 109])) fun v => some (.ret v, m)) (fVal (.string (ByteArray.mk #[112, 52, 103])) fun v => some (.ret v, m)))) (fun _ _ => none)))) (fun _ _ => none))))))) (fun v m => some (.pan v, m)))))
def keep68 : Keep := { region := fun i => ([[1], [1, 3], [2], [8], [2], [2]] : List (List Nat))[i]?, exit := fun i => ([[]] : List (List Nat))[i]?, ret := some [2] }
noncomputable def lp68 (call : CallF) (fuel base : Nat) : Lp := lpsel []
noncomputable def c68 : Code := Tryd.f68.body.getD .skip
theorem r68_eq (call : CallF) (fuel base : Nat) (x0 : Value) (m : M) : kbody E call keep68 (lp68 call fuel base) base Tryd.f68 [x0] m = r68 call fuel base x0 m := by
  kernel_rfl
noncomputable def rf68 : RF := fun call fuel base args m => match args with
  | [x0] => r68 call fuel base x0 m
  | _ => none
theorem r68_lk (call : CallF) (fuel base : Nat) : LoopsOk E call (lp68 call fuel base) fuel base 0 c68 = (And True (And (And True (And (And True True) (And True (And (And True True) True)))) (And True True))) := by kernel_rfl
theorem r68_fn : E.P.funcs[68]? = some Tryd.f68 := by kernel_rfl
theorem r68_body : Tryd.f68.body = some c68 := by kernel_rfl
theorem rf68_ok : RFok E 68 rf68 := by
  refine ⟨Tryd.f68, r68_fn, fun call fuel base args m r _ h => ?_⟩
  unfold rf68 at h
  split at h
  · rw [← r68_eq] at h
    exact kbody_sound (c := c68) r68_body (Eq.mpr (r68_lk call fuel base) (And.intro trivial (And.intro (And.intro trivial (And.intro (And.intro trivial trivial) (And.intro trivial (And.intro (And.intro trivial trivial) trivial)))) (And.intro trivial trivial)))) h
  · simp at h
end Go.AM
namespace Go.AM
open Go Go.Proofs
noncomputable def r69 (call : CallF) (fuel base : Nat) (x0 : Value) (m : M) : Res2 :=
  (k2 (xbox m x0) fun v1_1 m => (k1 (xload E.P m 70 v1_1) fun v3_2 => (kc (call base 89 [v3_2] m) (fun v4_3 m => (k2 (vcall E.P base m .len [37] [v4_3]) fun v5_4 m => (k1 (mbin E .eql 3 v5_4 (.int .i64 0)) fun v6_5 => (kb v6_5 (fVal (.string (ByteArray.mk #[112, 50])) fun v => some (.ret v, m)) (k1 (xload E.P m 70 v1_1) fun v7_6 => (kc (call base 93 [v7_6] m) (fun v8_7 m => (k1 (mbin E .eql 3 v8_7 (.int .i64 0)) fun v10_8 => (kb v10_8 (fVal (.string (ByteArray.mk #[112, 103, 103])) fun v => some (.ret v, m)) (k1 (mbin E .eql 3 v8_7 (.int .i64 1)) fun v12_9 => (kb v12_9 (fVal (.string (ByteArray.mk #[112, 109, 103])) fun v => some (.ret v, m)) (k1 (xload E.P m 70 v1_1) fun v13_10 => (kc (kB m (call m.length 91 [v13_10, (.int .i64 2)] m)) (fun v14_11 m => (k1 (xload E.P m 70 v1_1) fun v15_12 => (kc (kB m (call m.length 90 [v14_11, (.func (.func 94) #[v15_12] #[])] m)) (fun v17_13 m => (kb v17_13 (fVal (.string (ByteArray.mk #[99, 109, 109])) fun v => some (.ret v, m)) (fVal (.string (ByteArray.mk #[112, 109, 109])) fun v => some (.ret v, m)))) (fun _ _ => none)))) (fun _ _ => none)))))))) (fun v m => some (.pan v, m)))))))) (fun v m => some (.pan v, m)))))
def keep69 : Keep := { region := fun i => ([[1], [1, 6], [2], [1, 8], [1, 8, 9], [2], [1, 11], [2], [17], [2], [2]] : List (List Nat))[i]?, exit := fun i => ([[1]] : List (List Nat))[i]?, ret := some [2] }
noncomputable def lp69 (call : CallF) (fuel base : Nat) : Lp := lpsel []
noncomputable def c69 : Code := Tryd.f69.body.getD .skip
theorem r69_eq (call : CallF) (fuel base : Nat) (x0 : Value) (m : M) : kbody E call keep69 (lp69 call fuel base) base Tryd.f69 [x0] m = r69 call fuel base x0 m := by
  kernel_rfl
noncomputable def rf69 : RF := fun call fuel base args m => match args with
  | [x0] => r69 call fuel base x0 m
  | _ => none
theorem r69_lk (call : CallF) (fuel base : Nat) : LoopsOk E call (lp69 call fuel base) fuel base 0 c69 = (And True (And (And True (And (And True True) True)) (And (And True (And True (And (And True True) (And True (And (And True True) True))))) (And (And True (And (And True True) True)) (And True True))))) := by kernel_rfl
theorem r69_fn : E.P.funcs[69]? = some Tryd.f69 := by kernel_rfl
theorem r69_body : Tryd.f69.body = some c69 := by kernel_rfl
theorem rf69_ok : RFok E 69 rf69 := by
  refine ⟨Tryd.f69, r69_fn, fun call fuel base args m r _ h => ?_⟩
  unfold rf69 at h
  split at h
  · rw [← r69_eq] at h
    exact kbody_sound (c := c69) r69_body (Eq.mpr (r69_lk call fuel base) (And.intro trivial (And.intro (And.intro trivial (And.intro (And.intro trivial trivial) trivial)) (And.intro (And.intro trivial (And.intro trivial (And.intro (And.intro trivial trivial) (And.intro trivial (And.intro (And.intro trivial trivial) trivial))))) (And.intro (And.intro trivial (And.intro (And.intro trivial trivial) trivial)) (And.intro trivial trivial)))))) h
  · simp at h
end Go.AM
namespace Go.AM
open Go Go.Proofs
noncomputable def r70 (call : CallF) (fuel base : Nat) (x0 : Value) (m : M) : Res2 :=
  (k2 (xbox m x0) fun v1_1 m => (k1 (xload E.P m 70 v1_1) fun v4_2 => (kc (call base 89 [v4_2] m) (fun v5_3 m => (k2 (vcall E.P base m .len [37] [v5_3]) fun v7_4 m => (k1 (mbin E .eql 3 v7_4 (.int .i64 0)) fun v8_5 => (kb v8_5 (fVal (.string (ByteArray.mk #[112, 49])) fun v => some (.ret v, m)) (k1 (xload E.P m 70 v1_1) fun v9_6 => (kc (call base 93 [v9_6] m) (fun v10_7 m => (k1 (mbin E .eql 3 v10_7 (.int .i64 0)) fun v11_8 => (kb v11_8 (fVal (.string (ByteArray.mk #[112, 103])) fun v => some (.ret v, m)) (k1 (xload E.P m 70 v1_1) fun v12_9 => (k1 (mindexAddr E.P 37 v5_3 (.int .i64 0)) fun v14_10 => (k1 (xload E.P m 3 v14_10) fun v15_11 => (kc (kB m (call m.length 91 [v12_9, v15_11] m)) (fun v16_12 m => (k1 (xload E.P m 70 v1_1) fun v17_13 => (kc (kB m (call m.length 90 [v16_12, (.func (.func 94) #[v17_13] #[])] m)) (fun v19_14 m => (kb v19_14 (fVal (.string (ByteArray.mk #[99, 109])) fun v => some (.ret v, m)) (fVal (.string (ByteArray.mk #[112, 109])) fun v => some (.ret v, m)))) (fun _ _ => none)))) (fun _ _ => none)))))))) (fun v m => some (.pan v, m)))))))) (fun v m => some (.pan v, m)))))
def keep70 : Keep := { region := fun i => ([[1], [1, 3], [1, 3, 8], [2], [1, 3, 11], [2], [19], [2], [2]] : List (List Nat))[i]?, exit := fun i => ([] : List (List Nat))[i]?, ret := some [2] }
noncomputable def lp70 (call : CallF) (fuel base : Nat) : Lp := lpsel []
noncomputable def c70 : Code := Tryd.f70.body.getD .skip
theorem r70_eq (call : CallF) (fuel base : Nat) (x0 : Value) (m : M) : kbody E call keep70 (lp70 call fuel base) base Tryd.f70 [x0] m = r70 call fuel base x0 m := by
  kernel_rfl
noncomputable def rf70 : RF := fun call fuel base args m => match args with
  | [x0] => r70 call fuel base x0 m
  | _ => none
theorem r70_lk (call : CallF) (fuel base : Nat) : LoopsOk E call (lp70 call fuel base) fuel base 0 c70 = (And True (And True (And (And True (And (And True True) True)) (And (And True (And (And True True) True)) (And (And True (And (And True True) True)) (And True True)))))) := by kernel_rfl
theorem r70_fn : E.P.funcs[70]? = some Tryd.f70 := by kernel_rfl
theorem r70_body : Tryd.f70.body = some c70 := by kernel_rfl
theorem rf70_ok : RFok E 70 rf70 := by
  refine ⟨Tryd.f70, r70_fn, fun call fuel base args m r _ h => ?_⟩
  unfold rf70 at h
  split at h
  · rw [← r70_eq] at h
    exact kbody_sound (c := c70) r70_body (Eq.mpr (r70_lk call fuel base) (And.intro trivial (And.intro trivial (And.intro (And.intro trivial (And.intro (And.intro trivial trivial) trivial)) (And.intro (And.intro trivial (And.intro (And.intro trivial trivial) trivial)) (And.intro (And.intro trivial (And.intro (And.intro trivial trivial) trivial)) (And.intro trivial trivial))))))) h
  · simp at h
end Go.AM
namespace Go.AM
open Go Go.Proofs
noncomputable def r71_L4 (call : CallF) (fuel base : Nat) (kx4 : Value → Value → Value → Value → Value → M → Res2) (n : Nat) : Value → Value → Value → Value → Value → Value → M → Res2 :=
  Nat.rec (motive := fun _ => Value → Value → Value → Value → Value → Value → M → Res2) (fun _ _ _ _ _ _ _ => none)
    (fun _ ih x3 x4 x5 x6 x7 x8 m =>
      (k1 (mbin E .leq 3 x8 (.int .i64 14)) fun v27_7 => (kb v27_7 (k1 (mindexAddr E.P 30 x4 x6) fun v33_8 => (k1 (mfieldAddr E.P 50 v33_8 4) fun v34_9 => (k1 (xload E.P m 3 v34_9) fun v35_10 => (k1 (mbin E .sub 3 x7 v35_10) fun v36_11 => (k1 (mindexAddr E.P 30 x4 x6) fun v40_12 => (k1 (mfieldAddr E.P 50 v40_12 5) fun v41_13 => (k1 (xload E.P m 3 v41_13) fun v42_14 => (k1 (mbin E .sub 3 x8 v42_14) fun v43_15 => (k1 (mfieldAddr E.P 26 x3 0) fun v45_16 => (k1 (xload E.P m 3 v45_16) fun v46_17 => (k1 (mbin E .rem 3 v36_11 v46_17) fun v47_18 => (k1 (mbin E .eql 3 v47_18 (.int .i64 0)) fun v48_19 => (kb v48_19 (k1 (mfieldAddr E.P 26 x3 0) fun v52_20 => (k1 (xload E.P m 3 v52_20) fun v53_21 => (k1 (mbin E .quo 3 v36_11 v53_21) fun v54_22 => (k1 (mfieldAddr E.P 26 x3 1) fun v55_23 => (k1 (xload E.P m 3 v55_23) fun v56_24 => (k1 (mbin E .mul 3 v54_22 v56_24) fun v57_25 => (k1 (mbin E .sub 3 v43_15 v57_25) fun v58_26 => (k1 (mfieldAddr E.P 26 x3 2) fun v59_27 => (k1 (xload E.P m 3 v59_27) fun v60_28 => (k1 (mbin E .rem 3 v58_26 v60_28) fun v61_29 => (k1 (mbin E .eql 3 v61_29 (.int .i64 0)) fun v62_30 => (kb v62_30 (k1 (mindexAddr E.P 30 x4 x6) fun v66_31 => (k1 (xload E.P m 50 v66_31) fun v67_32 => (k2 (xalloc E.P m 50) fun v11_33 m => (ks (xstore E.P base m 50 v11_33 v67_32) fun m => (k1 (mfieldAddr E.P 50 v11_33 4) fun v69_34 => (ks (xstore E.P base m 3 v69_34 x7) fun m => (k1 (mfieldAddr E.P 50 v11_33 5) fun v71_35 => (ks (xstore E.P base m 3 v71_35 x8) fun m => (k1 (xload E.P m 50 v11_33) fun v73_36 => (k2 (xbuildSlice E.P m 30 1 [(0, v73_36)]) fun v74_37 m => (k2 (vcall E.P base m .append [30, 30] [x5, v74_37]) fun v75_38 m => (k1 (mbin E .add 3 x8 (.int .i64 1)) fun v29_39 => (ih x3 x4 v75_38 x6 x7 v29_39 m))))))))))))) (k1 (mbin E .add 3 x8 (.int .i64 1)) fun v29_40 => (ih x3 x4 x5 x6 x7 v29_40 m)))))))))))))) (k1 (mbin E .add 3 x8 (.int .i64 1)) fun v29_41 => (ih x3 x4 x5 x6 x7 v29_41 m))))))))))))))) (kx4 x3 x4 x5 x6 x7 m)))) n
noncomputable def r71_L2 (call : CallF) (fuel base : Nat) (kx2 : Value → Value → Value → Value → M → Res2) (n : Nat) : Value → Value → Value → Value → Value → M → Res2 :=
  Nat.rec (motive := fun _ => Value → Value → Value → Value → Value → M → Res2) (fun _ _ _ _ _ _ => none)
    (fun _ ih x3 x4 x5 x6 x7 m =>
      (k1 (mbin E .leq 3 x7 (.int .i64 14)) fun v23_6 => (kb v23_6 (r71_L4 call fuel base (fun y3_42 y4_43 y5_44 y6_45 y7_46 m => (k1 (mbin E .add 3 y7_46 (.int .i64 1)) fun v25_47 => (ih y3_42 y4_43 y5_44 y6_45 v25_47 m))) fuel x3 x4 x5 x6 x7 (.int .i64 (-14)) m) (kx2 x3 x4 x5 x6 m)))) n
noncomputable def r71_L0 (call : CallF) (fuel base : Nat) (kx0 : Value → M → Res2) (n : Nat) : Value → Value → Value → Value → M → Res2 :=
  Nat.rec (motive := fun _ => Value → Value → Value → Value → M → Res2) (fun _ _ _ _ _ => none)
    (fun _ ih x3 x4 x5 x6 m =>
      (k2 (vcall E.P base m .len [30] [x4]) fun v18_4 m => (k1 (mbin E .lss 3 x6 v18_4) fun v19_5 => (kb v19_5 (r71_L2 call fuel base (fun y3_48 y4_49 y5_50 y6_51 m => (k1 (mbin E .add 3 y6_51 (.int .i64 1)) fun v21_52 => (ih y3_48 y4_49 y5_50 v21_52 m))) fuel x3 x4 x5 x6 (.int .i64 (-14)) m) (kx0 x5 m))))) n
noncomputable def r71 (call : CallF) (fuel base : Nat) (x0 : Value) (m : M) : Res2 :=
  (kc (call base 42 [x0] m) (fun v13_1 m => (k2 (xalloc E.P m 26) fun v3_2 m => (ks (xstore E.P base m 26 v3_2 v13_1) fun m => (kc (call base 44 [x0] m) (fun v15_3 m => (r71_L0 call fuel base (fun y5_53 m => (fVal y5_53 fun v => some (.ret v, m))) fuel v3_2 v15_3 (.slice none 0 0) (.int .i64 0) m)) (fun v m => some (.pan v, m)))))) (fun v m => some (.pan v, m)))
def keep71 : Keep := { region := fun i => ([[0], [0, 3], [3, 4], [3, 4, 5], [3, 4, 5, 6], [3, 4, 5, 6, 19], [3, 4, 5, 6], [3, 4, 5, 6, 7], [3, 4, 5, 6, 7, 23], [3, 4, 5, 6, 7], [3, 4, 5, 6, 7, 8], [3, 4, 5, 6, 7, 8, 27], [3, 4, 5, 6, 7, 8], [3, 4, 5, 6, 7, 8, 9, 10], [3, 4, 5, 6, 7, 8, 63], [3, 4, 5, 6, 7, 8, 11], [3, 4, 5, 6, 7, 8, 11], [3, 4, 5, 6, 7, 8, 11], [3, 4, 5, 6, 7, 8], [2]] : List (List Nat))[i]?, exit := fun i => ([[5], [3, 4, 5, 6], [3, 4, 5, 6], [3, 4, 5, 6, 7], [3, 4, 5, 6, 7], [3, 4, 5, 6, 7, 8]] : List (List Nat))[i]?, ret := some [2] }
noncomputable def r71_L4_R (call : CallF) (fuel base n : Nat) (vs : List Value) (m : M) (K : KT) : Res2 := match vs with
  | [x3, x4, x5, x6, x7, x8] => r71_L4 call fuel base (fun y3 y4 y5 y6 y7 m => K (.exit 4) { n := 77, l := [(3, y3), (4, y4), (5, y5), (6, y6), (7, y7)] } m) n x3 x4 x5 x6 x7 x8 m
  | _ => none
noncomputable def r71_L2_R (call : CallF) (fuel base n : Nat) (vs : List Value) (m : M) (K : KT) : Res2 := match vs with
  | [x3, x4, x5, x6, x7] => r71_L2 call fuel base (fun y3 y4 y5 y6 m => K (.exit 2) { n := 77, l := [(3, y3), (4, y4), (5, y5), (6, y6)] } m) n x3 x4 x5 x6 x7 m
  | _ => none
noncomputable def r71_L0_R (call : CallF) (fuel base n : Nat) (vs : List Value) (m : M) (K : KT) : Res2 := match vs with
  | [x3, x4, x5, x6] => r71_L0 call fuel base (fun y5 m => K (.exit 0) { n := 77, l := [(5, y5)] } m) n x3 x4 x5 x6 m
  | _ => none
noncomputable def lp71 (call : CallF) (fuel base : Nat) : Lp := lpsel [(4, fun T m K => kslots 77 [3, 4, 5, 6, 7, 8] T fun vs => r71_L4_R call fuel base fuel vs m K), (2, fun T m K => kslots 77 [3, 4, 5, 6, 7] T fun vs => r71_L2_R call fuel base fuel vs m K), (0, fun T m K => kslots 77 [3, 4, 5, 6] T fun vs => r71_L0_R call fuel base fuel vs m K)]
noncomputable def c71 : Code := Tryd.f71.body.getD .skip
theorem r71_L4_lk (call : CallF) (fuel base : Nat) : LoopsOk E call (lp71 call fuel base) fuel base 4 (loopB (blockB (seqR (blockB (seqL (seqR (loopB (blockB (seqR (blockB (seqL (seqR (loopB (blockB (seqR (seqL (seqR (seqR (seqR (seqR c71)))))))))))))))))))) = (And (And True (And True True)) (And (And True (And True (And (And True (And True (And True True))) True))) True)) := by kernel_rfl
theorem r71_L4_ok (call : CallF) (fuel base : Nat) : LpOk E call (lp71 call fuel base) fuel base 4 (loopB (blockB (seqR (blockB (seqL (seqR (loopB (blockB (seqR (blockB (seqL (seqR (loopB (blockB (seqR (seqL (seqR (seqR (seqR (seqR c71)))))))))))))))))))) := by
  refine loop_ok (kp := keep71) (hb := Eq.mpr (r71_L4_lk call fuel base) (And.intro (And.intro trivial (And.intro trivial trivial)) (And.intro (And.intro trivial (And.intro trivial (And.intro (And.intro trivial (And.intro trivial (And.intro trivial trivial))) trivial))) trivial))) 77 [3, 4, 5, 6, 7, 8] (fun n vs m K => r71_L4_R call fuel base n vs m K) ?_ ?_ (fun _ _ _ => rfl)
  · intro vs m K
    unfold r71_L4_R
    split <;> rfl
  · intro n vs m K hl
    match vs, hl with
    | [x3, x4, x5, x6, x7, x8], _ => show _ = _; kernel_rfl
theorem r71_L2_lk (call : CallF) (fuel base : Nat) : LoopsOk E call (lp71 call fuel base) fuel base 2 (loopB (blockB (seqR (blockB (seqL (seqR (loopB (blockB (seqR (seqL (seqR (seqR (seqR (seqR c71)))))))))))))) = (And (And True (And True True)) (And (And True (LpOk E call (lp71 call fuel base) fuel base 4 (loopB (blockB (seqR (blockB (seqL (seqR (loopB (blockB (seqR (blockB (seqL (seqR (loopB (blockB (seqR (seqL (seqR (seqR (seqR (seqR c71)))))))))))))))))))))) True)) := by kernel_rfl
theorem r71_L2_ok (call : CallF) (fuel base : Nat) : LpOk E call (lp71 call fuel base) fuel base 2 (loopB (blockB (seqR (blockB (seqL (seqR (loopB (blockB (seqR (seqL (seqR (seqR (seqR (seqR c71)))))))))))))) := by
  refine loop_ok (kp := keep71) (hb := Eq.mpr (r71_L2_lk call fuel base) (And.intro (And.intro trivial (And.intro trivial trivial)) (And.intro (And.intro trivial (r71_L4_ok call fuel base)) trivial))) 77 [3, 4, 5, 6, 7] (fun n vs m K => r71_L2_R call fuel base n vs m K) ?_ ?_ (fun _ _ _ => rfl)
  · intro vs m K
    unfold r71_L2_R
    split <;> rfl
  · intro n vs m K hl
    match vs, hl with
    | [x3, x4, x5, x6, x7], _ => show _ = _; kernel_rfl
theorem r71_L0_lk (call : CallF) (fuel base : Nat) : LoopsOk E call (lp71 call fuel base) fuel base 0 (loopB (blockB (seqR (seqL (seqR (seqR (seqR (seqR c71)))))))) = (And (And True (And True True)) (And (And True (LpOk E call (lp71 call fuel base) fuel base 2 (loopB (blockB (seqR (blockB (seqL (seqR (loopB (blockB (seqR (seqL (seqR (seqR (seqR (seqR c71)))))))))))))))) True)) := by kernel_rfl
theorem r71_L0_ok (call : CallF) (fuel base : Nat) : LpOk E call (lp71 call fuel base) fuel base 0 (loopB (blockB (seqR (seqL (seqR (seqR (seqR (seqR c71)))))))) := by
  refine loop_ok (kp := keep71) (hb := Eq.mpr (r71_L0_lk call fuel base) (And.intro (And.intro trivial (And.intro trivial trivial)) (And.intro (And.intro trivial (r71_L2_ok call fuel base)) trivial))) 77 [3, 4, 5, 6] (fun n vs m K => r71_L0_R call fuel base n vs m K) ?_ ?_ (fun _ _ _ => rfl)
  · intro vs m K
    unfold r71_L0_R
    split <;> rfl
  · intro n vs m K hl
    match vs, hl with
    | [x3, x4, x5, x6], _ => show _ = _; kernel_rfl
theorem r71_eq (call : CallF) (fuel base : Nat) (x0 : Value) (m : M) : kbody E call keep71 (lp71 call fuel base) base Tryd.f71 [x0] m = r71 call fuel base x0 m := by
  kernel_rfl
noncomputable def rf71 : RF := fun call fuel base args m => match args with
  | [x0] => r71 call fuel base x0 m
  | _ => none
theorem r71_lk (call : CallF) (fuel base : Nat) : LoopsOk E call (lp71 call fuel base) fuel base 0 c71 = (And True (And True (And True (And True (And (And True (LpOk E call (lp71 call fuel base) fuel base 0 (loopB (blockB (seqR (seqL (seqR (seqR (seqR (seqR c71)))))))))) (And True True)))))) := by kernel_rfl
theorem r71_fn : E.P.funcs[71]? = some Tryd.f71 := by kernel_rfl
theorem r71_body : Tryd.f71.body = some c71 := by kernel_rfl
theorem rf71_ok : RFok E 71 rf71 := by
  refine ⟨Tryd.f71, r71_fn, fun call fuel base args m r _ h => ?_⟩
  unfold rf71 at h
  split at h
  · rw [← r71_eq] at h
    exact kbody_sound (c := c71) r71_body (Eq.mpr (r71_lk call fuel base) (And.intro trivial (And.intro trivial (And.intro trivial (And.intro trivial (And.intro (And.intro trivial (r71_L0_ok call fuel base)) (And.intro trivial trivial))))))) h
  · simp at h
end Go.AM
namespace Go.AM
open Go Go.Proofs
noncomputable def r72_L0 (call : CallF) (fuel base : Nat) (kp : Value → M → Res2) (kx0 : Value → Value → M → Res2) (n : Nat) : Value → Value → Value → Value → M → Res2 :=
  Nat.rec (motive := fun _ => Value → Value → Value → Value → M → Res2) (fun _ _ _ _ _ => none)
    (fun _ ih x0 x2 x3 x4 m =>
      (k2 (vcall E.P base m .len [30] [x0]) fun v11_4 m => (k1 (mbin E .lss 3 x4 v11_4) fun v12_5 => (kb v12_5 (k1 (mindexAddr E.P 30 x0 x4) fun v17_6 => (k1 (xload E.P m 50 v17_6) fun v18_7 => (kc (call base 35 [v18_7] m) (fun v19_8 m => (k1 (mindexAddr E.P 30 x0 x4) fun v23_9 => (k1 (xload E.P m 50 v23_9) fun v24_10 => (kc (call base 95 [v24_10] m) (fun v25_11 m => (k1 (mextract 0 v25_11) fun v26_12 => (k1 (mextract 1 v25_11) fun v27_13 => (k1 (mbin E .eql 3 v19_8 (.int .i64 1)) fun v30_14 => (kb v30_14 (k1 (mfieldAddr E.P 99 x3 0) fun v35_15 => (ks (xstore E.P base m 3 v35_15 (.int .i64 4)) fun m => (k1 (mfieldAddr E.P 99 x3 5) fun v36_16 => (k1 (xload E.P m 4 v36_16) fun v37_17 => (kb v37_17 (k1 (mfieldAddr E.P 99 x3 5) fun v49_18 => (ks (xstore E.P base m 4 v49_18 (.bool true)) fun m => (k1 (mbin E .add 3 x4 (.int .i64 1)) fun v14_19 => (ih x0 x2 x3 v14_19 m)))) (kc (call base 96 [v26_12, v27_13] m) (fun v41_20 m => (kbu v41_20 (kc (call base 97 [x0, v26_12, v27_13] m) (fun v46_21 m => (k1 (mfieldAddr E.P 99 x3 5) fun v49_22 => (ks (xstore E.P base m 4 v49_22 v46_21) fun m => (k1 (mbin E .add 3 x4 (.int .i64 1)) fun v14_23 => (ih x0 x2 x3 v14_23 m))))) (fun v m => kp v m)) (k1 (mfieldAddr E.P 99 x3 5) fun v49_24 => (ks (xstore E.P base m 4 v49_24 (.bool false)) fun m => (k1 (mbin E .add 3 x4 (.int .i64 1)) fun v14_25 => (ih x0 x2 x3 v14_25 m)))) (k0 (mpick undef undef (.bool false)) fun v47_26 => (k1 (mfieldAddr E.P 99 x3 5) fun v49_27 => (ks (xstore E.P base m 4 v49_27 v47_26) fun m => (k1 (mbin E .add 3 x4 (.int .i64 1)) fun v14_28 => (ih x0 x2 x3 v14_28 m))))))) (fun v m => kp v m))))))) (k1 (mbin E .eql 3 v19_8 (.int .i64 3)) fun v33_29 => (kb v33_29 (k1 (mfieldAddr E.P 99 x3 0) fun v35_30 => (ks (xstore E.P base m 3 v35_30 (.int .i64 4)) fun m => (k1 (mfieldAddr E.P 99 x3 5) fun v36_31 => (k1 (xload E.P m 4 v36_31) fun v37_32 => (kb v37_32 (k1 (mfieldAddr E.P 99 x3 5) fun v49_33 => (ks (xstore E.P base m 4 v49_33 (.bool true)) fun m => (k1 (mbin E .add 3 x4 (.int .i64 1)) fun v14_34 => (ih x0 x2 x3 v14_34 m)))) (kc (call base 96 [v26_12, v27_13] m) (fun v41_35 m => (kbu v41_35 (kc (call base 97 [x0, v26_12, v27_13] m) (fun v46_36 m => (k1 (mfieldAddr E.P 99 x3 5) fun v49_37 => (ks (xstore E.P base m 4 v49_37 v46_36) fun m => (k1 (mbin E .add 3 x4 (.int .i64 1)) fun v14_38 => (ih x0 x2 x3 v14_38 m))))) (fun v m => kp v m)) (k1 (mfieldAddr E.P 99 x3 5) fun v49_39 => (ks (xstore E.P base m 4 v49_39 (.bool false)) fun m => (k1 (mbin E .add 3 x4 (.int .i64 1)) fun v14_40 => (ih x0 x2 x3 v14_40 m)))) (k0 (mpick undef undef (.bool false)) fun v47_41 => (k1 (mfieldAddr E.P 99 x3 5) fun v49_42 => (ks (xstore E.P base m 4 v49_42 v47_41) fun m => (k1 (mbin E .add 3 x4 (.int .i64 1)) fun v14_43 => (ih x0 x2 x3 v14_43 m))))))) (fun v m => kp v m))))))) (k1 (mbin E .eql 3 v19_8 (.int .i64 2)) fun v52_44 => (kb v52_44 (k1 (mfieldAddr E.P 99 x3 0) fun v53_45 => (k1 (xload E.P m 3 v53_45) fun v54_46 => (k2 (vcall E.P base m .max [3, 3] [v54_46, (.int .i64 2)]) fun v55_47 m => (k1 (mfieldAddr E.P 99 x3 0) fun v56_48 => (ks (xstore E.P base m 3 v56_48 v55_47) fun m => (kc (call base 96 [v26_12, v27_13] m) (fun v59_49 m => (kb v59_49 (kc (call base 97 [x0, v26_12, v27_13] m) (fun v64_50 m => (k1 (mun .not v64_50) fun v65_51 => (kb v65_51 (k1 (mfieldAddr E.P 99 x3 4) fun v67_52 => (ks (xstore E.P base m 4 v67_52 (.bool false)) fun m => (k1 (mbin E .add 3 x4 (.int .i64 1)) fun v14_53 => (ih x0 x2 x3 v14_53 m)))) (k1 (mbin E .add 3 x4 (.int .i64 1)) fun v14_54 => (ih x0 x2 x3 v14_54 m))))) (fun v m => kp v m)) (k1 (mbin E .add 3 x4 (.int .i64 1)) fun v14_55 => (ih x0 x2 x3 v14_55 m)))) (fun v m => kp v m))))))) (k1 (mbin E .geq 3 v19_8 (.int .i64 4)) fun v70_56 => (kb v70_56 (k1 (mfieldAddr E.P 99 x3 1) fun v71_57 => (ks (xstore E.P base m 4 v71_57 (.bool true)) fun m => (k1 (mindexAddr E.P 30 x0 x4) fun v74_58 => (k1 (xload E.P m 50 v74_58) fun v75_59 => (kc (call base 98 [v75_59] m) (fun v76_60 m => (kb v76_60 (k1 (mfieldAddr E.P 99 x3 2) fun v77_61 => (ks (xstore E.P base m 4 v77_61 (.bool true)) fun m => (k1 (mfieldAddr E.P 99 x3 3) fun v79_62 => (k1 (mindexAddr E.P 97 v79_62 v19_8) fun v80_63 => (ks (xstore E.P base m 4 v80_63 (.bool true)) fun m => (k1 (mbin E .add 3 x4 (.int .i64 1)) fun v14_64 => (ih x0 x2 x3 v14_64 m))))))) (k1 (mbin E .add 3 x4 (.int .i64 1)) fun v14_65 => (ih x0 x2 x3 v14_65 m)))) (fun v m => kp v m)))))) (k1 (mbin E .add 3 x4 (.int .i64 1)) fun v14_66 => (ih x0 x2 x3 v14_66 m))))))))))))) (fun v m => kp v m))))) (fun v m => kp v m)))) (kx0 x2 x3 m))))) n
noncomputable def r72 (call : CallF) (fuel base : Nat) (x0 : Value) (m : M) : Res2 :=
  (k2 (xalloc E.P m 99) fun v2_1 m => (k1 (mbuild E.P 99 [(0, (.int .i64 1)), (4, (.bool true))]) fun v8_2 => (k2 (xalloc E.P m 99) fun v3_3 m => (ks (xstore E.P base m 99 v3_3 v8_2) fun m => (r72_L0 call fuel base (fun v m => some (.pan v, m)) (fun y2_67 y3_68 m => (k1 (xload E.P m 99 y3_68) fun v81_69 => (ks (xstore E.P base m 99 y2_67 v81_69) fun m => (k0 (mload E.P m 99 y2_67) fun r_70 => (fVal r_70 fun v => some (.ret v, m)))))) fuel x0 v2_1 v3_3 (.int .i64 0) m)))))
def keep72 : Keep := { region := fun i => ([[0, 2], [0, 2, 3], [0, 2, 3, 4], [0, 2, 3, 4, 12], [0, 2, 3, 4], [0, 2, 3, 4, 5], [0, 2, 3, 4, 5, 6, 7], [0, 2, 3, 4, 5, 6, 7, 28], [0, 2, 3, 4, 6, 7], [0, 2, 3, 4], [0, 2, 3, 4, 5, 6, 7, 50], [0, 2, 3, 4, 6, 7], [0, 2, 3, 4, 66], [0, 2, 3, 4], [0, 2, 3, 4, 5, 68], [0, 2, 3, 4, 5], [0, 2, 3, 4, 5, 76], [0, 2, 3, 4, 5], [0, 2, 3, 4], [2]] : List (List Nat))[i]?, exit := fun i => ([[2, 3], [0, 2, 3, 4], [0, 2, 3, 4]] : List (List Nat))[i]?, ret := some [2] }
noncomputable def r72_L0_R (call : CallF) (fuel base n : Nat) (vs : List Value) (m : M) (K : KT) : Res2 := match vs with
  | [x0, x2, x3, x4] => r72_L0 call fuel base (fun v m => K (.pan v) { n := 82, l := [] } m) (fun y2 y3 m => K (.exit 0) { n := 82, l := [(2, y2), (3, y3)] } m) n x0 x2 x3 x4 m
  | _ => none
noncomputable def lp72 (call : CallF) (fuel base : Nat) : Lp := lpsel [(0, fun T m K => kslots 82 [0, 2, 3, 4] T fun vs => r72_L0_R call fuel base fuel vs m K)]
noncomputable def c72 : Code := Tryd.f72.body.getD .skip
theorem r72_L0_lk (call : CallF) (fuel base : Nat) : LoopsOk E call (lp72 call fuel base) fuel base 0 (loopB (blockB (seqR (seqL (seqR (seqR c72)))))) = (And (And True (And True True)) (And (And True (And True (And True (And (And True True) (And True (And (And True (And True (And True True))) (And True (And (And True (And True (And (And True True) True))) True)))))))) True)) := by kernel_rfl
theorem r72_L0_ok (call : CallF) (fuel base : Nat) : LpOk E call (lp72 call fuel base) fuel base 0 (loopB (blockB (seqR (seqL (seqR (seqR c72)))))) := by
  refine loop_ok (kp := keep72) (hb := Eq.mpr (r72_L0_lk call fuel base) (And.intro (And.intro trivial (And.intro trivial trivial)) (And.intro (And.intro trivial (And.intro trivial (And.intro trivial (And.intro (And.intro trivial trivial) (And.intro trivial (And.intro (And.intro trivial (And.intro trivial (And.intro trivial trivial))) (And.intro trivial (And.intro (And.intro trivial (And.intro trivial (And.intro (And.intro trivial trivial) trivial))) trivial)))))))) trivial))) 82 [0, 2, 3, 4] (fun n vs m K => r72_L0_R call fuel base n vs m K) ?_ ?_ (fun _ _ _ => rfl)
  · intro vs m K
    unfold r72_L0_R
    split <;> rfl
  · intro n vs m K hl
    match vs, hl with
    | [x0, x2, x3, x4], _ => show _ = _; kernel_rfl
theorem r72_eq (call : CallF) (fuel base : Nat) (x0 : Value) (m : M) : kbody E call keep72 (lp72 call fuel base) base Tryd.f72 [x0] m = r72 call fuel base x0 m := by
  kernel_rfl
noncomputable def rf72 : RF := fun call fuel base args m => match args with
  | [x0] => r72 call fuel base x0 m
  | _ => none
theorem r72_lk (call : CallF) (fuel base : Nat) : LoopsOk E call (lp72 call fuel base) fuel base 0 c72 = (And True (And True (And (And True (LpOk E call (lp72 call fuel base) fuel base 0 (loopB (blockB (seqR (seqL (seqR (seqR c72)))))))) (And True True)))) := by kernel_rfl
theorem r72_fn : E.P.funcs[72]? = some Tryd.f72 := by kernel_rfl
theorem r72_body : Tryd.f72.body = some c72 := by kernel_rfl
theorem rf72_ok : RFok E 72 rf72 := by
  refine ⟨Tryd.f72, r72_fn, fun call fuel base args m r _ h => ?_⟩
  unfold rf72 at h
  split at h
  · rw [← r72_eq] at h
    exact kbody_sound (c := c72) r72_body (Eq.mpr (r72_lk call fuel base) (And.intro trivial (And.intro trivial (And.intro (And.intro trivial (r72_L0_ok call fuel base)) (And.intro trivial trivial))))) h
  · simp at h
end Go.AM
namespace Go.AM
open Go Go.Proofs
noncomputable def r73_L0 (call : CallF) (fuel base : Nat) (kx0 : Value → M → Res2) (n : Nat) : Value → Value → Value → M → Res2 :=
  Nat.rec (motive := fun _ => Value → Value → Value → M → Res2) (fun _ _ _ _ => none)
    (fun _ ih x1 x3 x4 m =>
      (k1 (mbin E .lss 3 x4 (.int .i64 8)) fun v6_2 => (kb v6_2 (k1 (mfieldAddr E.P 99 x1 3) fun v10_3 => (k1 (mindexAddr E.P 97 v10_3 x4) fun v11_4 => (k1 (xload E.P m 4 v11_4) fun v12_5 => (kb v12_5 (k1 (mbin E .add 3 x3 (.int .i64 1)) fun v14_6 => (k1 (mbin E .add 3 x4 (.int .i64 1)) fun v8_7 => (ih x1 v14_6 v8_7 m))) (k1 (mbin E .add 3 x4 (.int .i64 1)) fun v8_8 => (ih x1 x3 v8_8 m)))))) (kx0 x3 m)))) n
noncomputable def r73 (call : CallF) (fuel base : Nat) (x0 : Value) (m : M) : Res2 :=
  (k2 (xbox m x0) fun v1_1 m => (r73_L0 call fuel base (fun y3_9 m => (k1 (mbin E .eql 3 y3_9 (.int .i64 1)) fun v16_10 => (fVal v16_10 fun v => some (.ret v, m)))) fuel v1_1 (.int .i64 0) (.int .i64 4) m))
def keep73 : Keep := { region := fun i => ([[1], [1, 3], [1, 3, 4], [1, 3, 4, 6], [1, 3, 4], [1, 3, 4, 12], [1, 3, 4], [2]] : List (List Nat))[i]?, exit := fun i => ([[3], [1, 3, 4]] : List (List Nat))[i]?, ret := some [2] }
noncomputable def r73_L0_R (call : CallF) (fuel base n : Nat) (vs : List Value) (m : M) (K : KT) : Res2 := match vs with
  | [x1, x3, x4] => r73_L0 call fuel base (fun y3 m => K (.exit 0) { n := 17, l := [(3, y3)] } m) n x1 x3 x4 m
  | _ => none
noncomputable def lp73 (call : CallF) (fuel base : Nat) : Lp := lpsel [(0, fun T m K => kslots 17 [1, 3, 4] T fun vs => r73_L0_R call fuel base fuel vs m K)]
noncomputable def c73 : Code := Tryd.f73.body.getD .skip
theorem r73_L0_lk (call : CallF) (fuel base : Nat) : LoopsOk E call (lp73 call fuel base) fuel base 0 (loopB (blockB (seqR (seqL (seqR (seqR c73)))))) = (And (And True (And True True)) (And (And True (And True True)) True)) := by kernel_rfl
theorem r73_L0_ok (call : CallF) (fuel base : Nat) : LpOk E call (lp73 call fuel base) fuel base 0 (loopB (blockB (seqR (seqL (seqR (seqR c73)))))) := by
  refine loop_ok (kp := keep73) (hb := Eq.mpr (r73_L0_lk call fuel base) (And.intro (And.intro trivial (And.intro trivial trivial)) (And.intro (And.intro trivial (And.intro trivial trivial)) trivial))) 17 [1, 3, 4] (fun n vs m K => r73_L0_R call fuel base n vs m K) ?_ ?_ (fun _ _ _ => rfl)
  · intro vs m K
    unfold r73_L0_R
    split <;> rfl
  · intro n vs m K hl
    match vs, hl with
    | [x1, x3, x4], _ => show _ = _; kernel_rfl
theorem r73_eq (call : CallF) (fuel base : Nat) (x0 : Value) (m : M) : kbody E call keep73 (lp73 call fuel base) base Tryd.f73 [x0] m = r73 call fuel base x0 m := by
  kernel_rfl
noncomputable def rf73 : RF := fun call fuel base args m => match args with
  | [x0] => r73 call fuel base x0 m
  | _ => none
theorem r73_lk (call : CallF) (fuel base : Nat) : LoopsOk E call (lp73 call fuel base) fuel base 0 c73 = (And True (And True (And (And True (LpOk E call (lp73 call fuel base) fuel base 0 (loopB (blockB (seqR (seqL (seqR (seqR c73)))))))) (And True True)))) := by kernel_rfl
theorem r73_fn : E.P.funcs[73]? = some Tryd.f73 := by kernel_rfl
theorem r73_body : Tryd.f73.body = some c73 := by kernel_rfl
theorem rf73_ok : RFok E 73 rf73 := by
  refine ⟨Tryd.f73, r73_fn, fun call fuel base args m r _ h => ?_⟩
  unfold rf73 at h
  split at h
  · rw [← r73_eq] at h
    exact kbody_sound (c := c73) r73_body (Eq.mpr (r73_lk call fuel base) (And.intro trivial (And.intro trivial (And.intro (And.intro trivial (r73_L0_ok call fuel base)) (And.intro trivial trivial))))) h
  · simp at h
end Go.AM
namespace Go.AM
open Go Go.Proofs
noncomputable def r74_L2 (call : CallF) (fuel base : Nat) (kp : Value → M → Res2) (kx2 : Value → Value → Value → M → Res2) (n : Nat) : Value → Value → Value → Value → Value → M → Res2 :=
  Nat.rec (motive := fun _ => Value → Value → Value → Value → Value → M → Res2) (fun _ _ _ _ _ _ => none)
    (fun _ ih x0 x3 x4 x5 x6 m =>
      (k2 (vcall E.P base m .len [30] [x0]) fun v49_29 m => (k1 (mbin E .lss 3 x6 v49_29) fun v50_30 => (kb v50_30 (k1 (mindexAddr E.P 30 x0 x6) fun v55_31 => (k1 (xload E.P m 50 v55_31) fun v56_32 => (k2 (xalloc E.P m 50) fun v7_33 m => (ks (xstore E.P base m 50 v7_33 v56_32) fun m => (k1 (xload E.P m 50 v7_33) fun v57_34 => (kc (kB m (call m.length 35 [v57_34] m)) (fun v58_35 m => (k1 (xload E.P m 50 x4) fun v59_36 => (kc (kB m (call m.length 35 [v59_36] m)) (fun v60_37 m => (k1 (mbin E .neq 3 v58_35 v60_37) fun v61_38 => (kb v61_38 (k1 (mbin E .add 3 x6 (.int .i64 1)) fun v52_39 => (ih x0 x3 x4 x5 v52_39 m)) (k1 (xload E.P m 50 v7_33) fun v63_40 => (kc (kB m (call m.length 98 [v63_40] m)) (fun v64_41 m => (k1 (mun .not v64_41) fun v65_42 => (kb v65_42 (k1 (mbin E .add 3 x6 (.int .i64 1)) fun v52_43 => (ih x0 x3 x4 x5 v52_43 m)) (k1 (mfieldAddr E.P 50 x4 4) fun v67_44 => (k1 (xload E.P m 3 v67_44) fun v68_45 => (k1 (mfieldAddr E.P 50 v7_33 4) fun v69_46 => (k1 (xload E.P m 3 v69_46) fun v70_47 => (k1 (mbin E .sub 3 v68_45 v70_47) fun v71_48 => (k1 (mfieldAddr E.P 50 x4 5) fun v72_49 => (k1 (xload E.P m 3 v72_49) fun v73_50 => (k1 (mfieldAddr E.P 50 v7_33 5) fun v74_51 => (k1 (xload E.P m 3 v74_51) fun v75_52 => (k1 (mbin E .sub 3 v73_50 v75_52) fun v76_53 => (k1 (xload E.P m 50 x4) fun v77_54 => (kc (call base 35 [v77_54] m) (fun v78_55 m => (k1 (mbin E .eql 3 v78_55 (.int .i64 4)) fun v80_56 => (kb v80_56 (kb x5 (k1 (mbin E .add 3 x6 (.int .i64 1)) fun v52_57 => (ih x0 x3 x4 (.bool true) v52_57 m)) (k1 (mbin E .eql 3 v76_53 (.int .i64 0)) fun v84_58 => (k1 (mbin E .add 3 x6 (.int .i64 1)) fun v52_59 => (ih x0 x3 x4 v84_58 v52_59 m)))) (k1 (mbin E .eql 3 v78_55 (.int .i64 5)) fun v87_60 => (kb v87_60 (kb x5 (k1 (mbin E .add 3 x6 (.int .i64 1)) fun v52_61 => (ih x0 x3 x4 (.bool true) v52_61 m)) (k1 (mbin E .eql 3 v71_48 (.int .i64 0)) fun v91_62 => (k1 (mbin E .add 3 x6 (.int .i64 1)) fun v52_63 => (ih x0 x3 x4 v91_62 v52_63 m)))) (k1 (mbin E .eql 3 v78_55 (.int .i64 6)) fun v94_64 => (kb v94_64 (kb x5 (k1 (mbin E .add 3 x6 (.int .i64 1)) fun v52_65 => (ih x0 x3 x4 (.bool true) v52_65 m)) (k1 (mbin E .eql 3 v71_48 v76_53) fun v99_66 => (k1 (mbin E .add 3 x6 (.int .i64 1)) fun v52_67 => (ih x0 x3 x4 v99_66 v52_67 m)))) (k1 (mbin E .eql 3 v78_55 (.int .i64 7)) fun v102_68 => (kb v102_68 (kb x5 (k1 (mbin E .add 3 x6 (.int .i64 1)) fun v52_69 => (ih x0 x3 x4 (.bool true) v52_69 m)) (k1 (mun .neg v76_53) fun v107_70 => (k1 (mbin E .eql 3 v71_48 v107_70) fun v108_71 => (k1 (mbin E .add 3 x6 (.int .i64 1)) fun v52_72 => (ih x0 x3 x4 v108_71 v52_72 m))))) (k1 (mbin E .add 3 x6 (.int .i64 1)) fun v52_73 => (ih x0 x3 x4 x5 v52_73 m))))))))))) (fun v m => kp v m)))))))))))))))) (fun _ _ => none)))))) (fun _ _ => none)))) (fun _ _ => none))))))) (kx2 x0 x3 x5 m))))) n
noncomputable def r74_L0 (call : CallF) (fuel base : Nat) (kp : Value → M → Res2) (kr : Value → M → Res2) (kx0 : M → Res2) (n : Nat) : Value → Value → M → Res2 :=
  Nat.rec (motive := fun _ => Value → Value → M → Res2) (fun _ _ _ => none)
    (fun _ ih x0 x3 m =>
      (k2 (vcall E.P base m .len [30] [x0]) fun v12_1 m => (k1 (mbin E .lss 3 x3 v12_1) fun v13_2 => (kb v13_2 (k1 (mindexAddr E.P 30 x0 x3) fun v18_3 => (k1 (xload E.P m 50 v18_3) fun v19_4 => (k2 (xalloc E.P m 50) fun v4_5 m => (ks (xstore E.P base m 50 v4_5 v19_4) fun m => (k1 (xload E.P m 50 v4_5) fun v20_6 => (kc (call base 99 [v20_6] m) (fun v21_7 m => (k1 (mun .not v21_7) fun v22_8 => (kb v22_8 (k1 (mbin E .add 3 x3 (.int .i64 1)) fun v15_9 => (ih x0 v15_9 m)) (k1 (xload E.P m 50 v4_5) fun v24_10 => (kc (call base 98 [v24_10] m) (fun v25_11 m => (kb v25_11 (k1 (mbin E .add 3 x3 (.int .i64 1)) fun v15_12 => (ih x0 v15_12 m)) (k1 (mfieldAddr E.P 50 v4_5 4) fun v28_13 => (k1 (xload E.P m 3 v28_13) fun v29_14 => (k1 (mbin E .lss 3 v29_14 (.int .i64 (-7))) fun v30_15 => (kb v30_15 (k1 (mbin E .add 3 x3 (.int .i64 1)) fun v15_16 => (ih x0 v15_16 m)) (k1 (mfieldAddr E.P 50 v4_5 4) fun v33_17 => (k1 (xload E.P m 3 v33_17) fun v34_18 => (k1 (mbin E .gtr 3 v34_18 (.int .i64 7)) fun v35_19 => (kb v35_19 (k1 (mbin E .add 3 x3 (.int .i64 1)) fun v15_20 => (ih x0 v15_20 m)) (k1 (mfieldAddr E.P 50 v4_5 5) fun v38_21 => (k1 (xload E.P m 3 v38_21) fun v39_22 => (k1 (mbin E .lss 3 v39_22 (.int .i64 (-7))) fun v40_23 => (kb v40_23 (k1 (mbin E .add 3 x3 (.int .i64 1)) fun v15_24 => (ih x0 v15_24 m)) (k1 (mfieldAddr E.P 50 v4_5 5) fun v43_25 => (k1 (xload E.P m 3 v43_25) fun v44_26 => (k1 (mbin E .gtr 3 v44_26 (.int .i64 7)) fun v45_27 => (kb v45_27 (k1 (mbin E .add 3 x3 (.int .i64 1)) fun v15_28 => (ih x0 v15_28 m)) (r74_L2 call fuel base (fun v m => kp v m) (fun y0_74 y3_75 y5_76 m => (k1 (mun .not y5_76) fun v111_77 => (kb v111_77 (kr (.bool false) m) (k1 (mbin E .add 3 y3_75 (.int .i64 1)) fun v15_78 => (ih y0_74 v15_78 m))))) fuel x0 x3 v4_5 (.bool false) (.int .i64 0) m))))))))))))))))))) (fun v m => kp v m)))))) (fun v m => kp v m))))))) (kx0 m))))) n
noncomputable def r74 (call : CallF) (fuel base : Nat) (x0 : Value) (m : M) : Res2 :=
  (r74_L0 call fuel base (fun v m => some (.pan v, m)) (fun y2_79 m => (fVal y2_79 fun v => some (.ret v, m))) (fun m => (fVal (.bool true) fun v => some (.ret v, m))) fuel x0 (.int .i64 0) m)
def keep74 : Keep := { region := fun i => ([[0], [0, 3], [0, 3, 13], [0, 3], [0, 3, 4], [0, 3, 4, 46], [0, 3, 4, 5], [0, 3, 4, 5, 6], [0, 3, 4, 5, 6, 50], [0, 3, 4, 5, 6], [0, 3, 4, 5, 6, 7], [0, 3, 4, 5, 6, 7, 66], [0, 3, 4, 5, 6, 8, 9], [0, 3, 4, 5, 6, 8, 9, 78], [0, 3, 4, 5, 6, 8, 9, 78, 79], [0, 3, 4, 5, 6], [0, 3, 4, 5, 6, 8, 9, 78, 86], [0, 3, 4, 5, 6], [0, 3, 4, 5, 6, 8, 9, 78, 93], [0, 3, 4, 5, 6], [0, 3, 4, 5, 6, 8, 9, 101], [0, 3, 4, 5, 6], [0, 3, 111], [2], [2]] : List (List Nat))[i]?, exit := fun i => ([[], [0, 3], [0, 3, 5], [0, 3, 4, 5, 6], [0, 3, 4, 5, 6]] : List (List Nat))[i]?, ret := some [2] }
noncomputable def r74_L2_R (call : CallF) (fuel base n : Nat) (vs : List Value) (m : M) (K : KT) : Res2 := match vs with
  | [x0, x3, x4, x5, x6] => r74_L2 call fuel base (fun v m => K (.pan v) { n := 112, l := [] } m) (fun y0 y3 y5 m => K (.exit 2) { n := 112, l := [(0, y0), (3, y3), (5, y5)] } m) n x0 x3 x4 x5 x6 m
  | _ => none
noncomputable def r74_L0_R (call : CallF) (fuel base n : Nat) (vs : List Value) (m : M) (K : KT) : Res2 := match vs with
  | [x0, x3] => r74_L0 call fuel base (fun v m => K (.pan v) { n := 112, l := [] } m) (fun y2 m => K .ret { n := 112, l := [(2, y2)] } m) (fun m => K (.exit 0) { n := 112, l := [] } m) n x0 x3 m
  | _ => none
noncomputable def lp74 (call : CallF) (fuel base : Nat) : Lp := lpsel [(2, fun T m K => kslots 112 [0, 3, 4, 5, 6] T fun vs => r74_L2_R call fuel base fuel vs m K), (0, fun T m K => kslots 112 [0, 3] T fun vs => r74_L0_R call fuel base fuel vs m K)]
noncomputable def c74 : Code := Tryd.f74.body.getD .skip
theorem r74_L2_lk (call : CallF) (fuel base : Nat) : LoopsOk E call (lp74 call fuel base) fuel base 2 (loopB (blockB (seqR (seqL (seqR (seqR (seqR (blockB (seqL (seqR (loopB (blockB (seqR (seqL (seqR c74))))))))))))))) = (And (And True (And True True)) (And (And True (And (And True (And True True)) (And True (And True (And True (And True (And True (And True (And True (And True (And True (And True True)))))))))))) True)) := by kernel_rfl
theorem r74_L2_ok (call : CallF) (fuel base : Nat) : LpOk E call (lp74 call fuel base) fuel base 2 (loopB (blockB (seqR (seqL (seqR (seqR (seqR (blockB (seqL (seqR (loopB (blockB (seqR (seqL (seqR c74))))))))))))))) := by
  refine loop_ok (kp := keep74) (hb := Eq.mpr (r74_L2_lk call fuel base) (And.intro (And.intro trivial (And.intro trivial trivial)) (And.intro (And.intro trivial (And.intro (And.intro trivial (And.intro trivial trivial)) (And.intro trivial (And.intro trivial (And.intro trivial (And.intro trivial (And.intro trivial (And.intro trivial (And.intro trivial (And.intro trivial (And.intro trivial (And.intro trivial trivial)))))))))))) trivial))) 112 [0, 3, 4, 5, 6] (fun n vs m K => r74_L2_R call fuel base n vs m K) ?_ ?_ (fun _ _ _ => rfl)
  · intro vs m K
    unfold r74_L2_R
    split <;> rfl
  · intro n vs m K hl
    match vs, hl with
    | [x0, x3, x4, x5, x6], _ => show _ = _; kernel_rfl
theorem r74_L0_lk (call : CallF) (fuel base : Nat) : LoopsOk E call (lp74 call fuel base) fuel base 0 (loopB (blockB (seqR (seqL (seqR c74))))) = (And (And True (And True True)) (And (And True (And (And True (And True True)) (And True (And (And True (LpOk E call (lp74 call fuel base) fuel base 2 (loopB (blockB (seqR (seqL (seqR (seqR (seqR (blockB (seqL (seqR (loopB (blockB (seqR (seqL (seqR c74))))))))))))))))) (And True (And (And True True) True)))))) True)) := by kernel_rfl
theorem r74_L0_ok (call : CallF) (fuel base : Nat) : LpOk E call (lp74 call fuel base) fuel base 0 (loopB (blockB (seqR (seqL (seqR c74))))) := by
  refine loop_ok (kp := keep74) (hb := Eq.mpr (r74_L0_lk call fuel base) (And.intro (And.intro trivial (And.intro trivial trivial)) (And.intro (And.intro trivial (And.intro (And.intro trivial (And.intro trivial trivial)) (And.intro trivial (And.intro (And.intro trivial (r74_L2_ok call fuel base)) (And.intro trivial (And.intro (And.intro trivial trivial) trivial)))))) trivial))) 112 [0, 3] (fun n vs m K => r74_L0_R call fuel base n vs m K) ?_ ?_ (fun _ _ _ => rfl)
  · intro vs m K
    unfold r74_L0_R
    split <;> rfl
  · intro n vs m K hl
    match vs, hl with
    | [x0, x3], _ => show _ = _; kernel_rfl
theorem r74_eq (call : CallF) (fuel base : Nat) (x0 : Value) (m : M) : kbody E call keep74 (lp74 call fuel base) base Tryd.f74 [x0] m = r74 call fuel base x0 m := by
  kernel_rfl
noncomputable def rf74 : RF := fun call fuel base args m => match args with
  | [x0] => r74 call fuel base x0 m
  | _ => none
theorem r74_lk (call : CallF) (fuel base : Nat) : LoopsOk E call (lp74 call fuel base) fuel base 0 c74 = (And True (And (And True (LpOk E call (lp74 call fuel base) fuel base 0 (loopB (blockB (seqR (seqL (seqR c74))))))) (And True True))) := by kernel_rfl
theorem r74_fn : E.P.funcs[74]? = some Tryd.f74 := by kernel_rfl
theorem r74_body : Tryd.f74.body = some c74 := by kernel_rfl
theorem rf74_ok : RFok E 74 rf74 := by
  refine ⟨Tryd.f74, r74_fn, fun call fuel base args m r _ h => ?_⟩
  unfold rf74 at h
  split at h
  · rw [← r74_eq] at h
    exact kbody_sound (c := c74) r74_body (Eq.mpr (r74_lk call fuel base) (And.intro trivial (And.intro (And.intro trivial (r74_L0_ok call fuel base)) (And.intro trivial trivial)))) h
  · simp at h
end Go.AM
namespace Go.AM
open Go Go.Proofs
noncomputable def r77 (call : CallF) (fuel base : Nat) (x0 : Value) (x1 : Value) (m : M) : Res2 :=
  (k1 (mbin E .rem 3 x0 x1) fun v7_1 => (k1 (mbin E .add 3 v7_1 x1) fun v9_2 => (k1 (mbin E .rem 3 v9_2 x1) fun v11_3 => (fVal v11_3 fun v => some (.ret v, m)))))
def keep77 : Keep := { region := fun i => ([[0, 1], [4]] : List (List Nat))[i]?, exit := fun i => ([] : List (List Nat))[i]?, ret := some [4] }
noncomputable def lp77 (call : CallF) (fuel base : Nat) : Lp := lpsel []
noncomputable def c77 : Code := Tryd.f77.body.getD .skip
theorem r77_eq (call : CallF) (fuel base : Nat) (x0 : Value) (x1 : Value) (m : M) : kbody E call keep77 (lp77 call fuel base) base Tryd.f77 [x0, x1] m = r77 call fuel base x0 x1 m := by
  kernel_rfl
noncomputable def rf77 : RF := fun call fuel base args m => match args with
  | [x0, x1] => r77 call fuel base x0 x1 m
  | _ => none
theorem r77_lk (call : CallF) (fuel base : Nat) : LoopsOk E call (lp77 call fuel base) fuel base 0 c77 = (And True (And True True)) := by kernel_rfl
theorem r77_fn : E.P.funcs[77]? = some Tryd.f77 := by kernel_rfl
theorem r77_body : Tryd.f77.body = some c77 := by kernel_rfl
theorem rf77_ok : RFok E 77 rf77 := by
  refine ⟨Tryd.f77, r77_fn, fun call fuel base args m r _ h => ?_⟩
  unfold rf77 at h
  split at h
  · rw [← r77_eq] at h
    exact kbody_sound (c := c77) r77_body (Eq.mpr (r77_lk call fuel base) (And.intro trivial (And.intro trivial trivial))) h
  · simp at h
end Go.AM
namespace Go.AM
open Go Go.Proofs
noncomputable def r79 (call : CallF) (fuel base : Nat) (x0 : Value) (x1 : Value) (m : M) : Res2 :=
  (k2 (xbox m x0) fun v2_1 m => (k2 (xbox m x1) fun v3_2 m => (k2 (xalloc E.P m 103) fun v4_3 m => (k1 (mfieldAddr E.P 50 v2_1 0) fun v5_4 => (k1 (xload E.P m 3 v5_4) fun v6_5 => (k1 (mfieldAddr E.P 103 v3_2 0) fun v7_6 => (k1 (xload E.P m 3 v7_6) fun v8_7 => (k1 (mbin E .mul 3 v6_5 v8_7) fun v9_8 => (k1 (mfieldAddr E.P 50 v2_1 1) fun v10_9 => (k1 (xload E.P m 3 v10_9) fun v11_10 => (k1 (mfieldAddr E.P 103 v3_2 1) fun v12_11 => (k1 (xload E.P m 3 v12_11) fun v13_12 => (k1 (mbin E .mul 3 v11_10 v13_12) fun v14_13 => (k1 (mbin E .add 3 v9_8 v14_13) fun v15_14 => (k1 (mfieldAddr E.P 50 v2_1 4) fun v16_15 => (k1 (xload E.P m 3 v16_15) fun v17_16 => (k1 (mbin E .add 3 v15_14 v17_16) fun v18_17 => (k1 (mfieldAddr E.P 50 v2_1 2) fun v19_18 => (k1 (xload E.P m 3 v19_18) fun v20_19 => (k1 (mfieldAddr E.P 103 v3_2 0) fun v21_20 => (k1 (xload E.P m 3 v21_20) fun v22_21 => (k1 (mbin E .mul 3 v20_19 v22_21) fun v23_22 => (k1 (mfieldAddr E.P 50 v2_1 3) fun v24_23 => (k1 (xload E.P m 3 v24_23) fun v25_24 => (k1 (mfieldAddr E.P 103 v3_2 1) fun v26_25 => (k1 (xload E.P m 3 v26_25) fun v27_26 => (k1 (mbin E .mul 3 v25_24 v27_26) fun v28_27 => (k1 (mbin E .add 3 v23_22 v28_27) fun v29_28 => (k1 (mfieldAddr E.P 50 v2_1 5) fun v30_29 => (k1 (xload E.P m 3 v30_29) fun v31_30 => (k1 (mbin E .add 3 v29_28 v31_30) fun v32_31 => (k1 (mbuild E.P 103 [(0, v18_17), (1, v32_31)]) fun v33_32 => (ks (xstore E.P base m 103 v4_3 v33_32) fun m => (k0 (mload E.P m 103 v4_3) fun r_33 => (fVal r_33 fun v => some (.ret v, m))))))))))))))))))))))))))))))))))))
def keep79 : Keep := { region := fun i => ([[2, 3, 4], [4]] : List (List Nat))[i]?, exit := fun i => ([] : List (List Nat))[i]?, ret := some [4] }
noncomputable def lp79 (call : CallF) (fuel base : Nat) : Lp := lpsel []
noncomputable def c79 : Code := Tryd.f79.body.getD .skip
theorem r79_eq (call : CallF) (fuel base : Nat) (x0 : Value) (x1 : Value) (m : M) : kbody E call keep79 (lp79 call fuel base) base Tryd.f79 [x0, x1] m = r79 call fuel base x0 x1 m := by
  kernel_rfl
noncomputable def rf79 : RF := fun call fuel base args m => match args with
  | [x0, x1] => r79 call fuel base x0 x1 m
  | _ => none
theorem r79_lk (call : CallF) (fuel base : Nat) : LoopsOk E call (lp79 call fuel base) fuel base 0 c79 = (And True (And True True)) := by kernel_rfl
theorem r79_fn : E.P.funcs[79]? = some Tryd.f79 := by kernel_rfl
theorem r79_body : Tryd.f79.body = some c79 := by kernel_rfl
theorem rf79_ok : RFok E 79 rf79 := by
  refine ⟨Tryd.f79, r79_fn, fun call fuel base args m r _ h => ?_⟩
  unfold rf79 at h
  split at h
  · rw [← r79_eq] at h
    exact kbody_sound (c := c79) r79_body (Eq.mpr (r79_lk call fuel base) (And.intro trivial (And.intro trivial trivial))) h
  · simp at h
end Go.AM
namespace Go.AM
open Go Go.Proofs
noncomputable def r81_L0 (call : CallF) (fuel base : Nat) (kr : Value → M → Res2) (kx0 : M → Res2) (n : Nat) : Value → Value → Value → M → Res2 :=
  Nat.rec (motive := fun _ => Value → Value → Value → M → Res2) (fun _ _ _ _ => none)
    (fun _ ih x1 x7 x8 m =>
      (k1 (mbin E .lss 3 x8 (.int .i64 8)) fun v9_5 => (kb v9_5 (k1 (mindex E.P 92 x7 x8) fun v11_6 => (k2 (xalloc E.P m 50) fun v4_7 m => (ks (xstore E.P base m 50 v4_7 v11_6) fun m => (k1 (xload E.P m 50 x1) fun v12_8 => (k1 (xload E.P m 50 v4_7) fun v13_9 => (k1 (mbin E .eql 50 v12_8 v13_9) fun v14_10 => (kb v14_10 (kr x8 m) (k1 (mbin E .add 3 x8 (.int .i64 1)) fun v16_11 => (ih x1 x7 v16_11 m))))))))) (kx0 m)))) n
noncomputable def r81 (call : CallF) (fuel base : Nat) (x0 : Value) (m : M) : Res2 :=
  (k2 (xbox m x0) fun v1_1 m => (k1 (mfieldAddr E.P 50 v1_1 4) fun v5_2 => (ks (xstore E.P base m 3 v5_2 (.int .i64 0)) fun m => (k1 (mfieldAddr E.P 50 v1_1 5) fun v6_3 => (ks (xstore E.P base m 3 v6_3 (.int .i64 0)) fun m => (k1 (xload E.P m 92 (.pointer (some ⟨0, 0, some 0⟩))) fun v7_4 => (r81_L0 call fuel base (fun y2_12 m => (fVal y2_12 fun v => some (.ret v, m))) (fun m => (fVal (.int .i64 (-1)) fun v => some (.ret v, m))) fuel v1_1 v7_4 (.int .i64 0) m)))))))
def keep81 : Keep := { region := fun i => ([[1], [1], [1, 7, 8], [1, 7, 8, 9], [1, 3, 4, 7, 8], [1, 3, 7, 8, 14], [2], [1, 7, 8], [2]] : List (List Nat))[i]?, exit := fun i => ([[], [1, 7, 8]] : List (List Nat))[i]?, ret := some [2] }
noncomputable def r81_L0_R (call : CallF) (fuel base n : Nat) (vs : List Value) (m : M) (K : KT) : Res2 := match vs with
  | [x1, x7, x8] => r81_L0 call fuel base (fun y2 m => K .ret { n := 17, l := [(2, y2)] } m) (fun m => K (.exit 0) { n := 17, l := [] } m) n x1 x7 x8 m
  | _ => none
noncomputable def lp81 (call : CallF) (fuel base : Nat) : Lp := lpsel [(0, fun T m K => kslots 17 [1, 7, 8] T fun vs => r81_L0_R call fuel base fuel vs m K)]
noncomputable def c81 : Code := Tryd.f81.body.getD .skip
theorem r81_L0_lk (call : CallF) (fuel base : Nat) : LoopsOk E call (lp81 call fuel base) fuel base 0 (loopB (blockB (seqR (seqL (seqR (seqR c81)))))) = (And True (And (And True True) (And (And True (And True (And (And True True) True))) True))) := by kernel_rfl
theorem r81_L0_ok (call : CallF) (fuel base : Nat) : LpOk E call (lp81 call fuel base) fuel base 0 (loopB (blockB (seqR (seqL (seqR (seqR c81)))))) := by
  refine loop_ok (kp := keep81) (hb := Eq.mpr (r81_L0_lk call fuel base) (And.intro trivial (And.intro (And.intro trivial trivial) (And.intro (And.intro trivial (And.intro trivial (And.intro (And.intro trivial trivial) trivial))) trivial)))) 17 [1, 7, 8] (fun n vs m K => r81_L0_R call fuel base n vs m K) ?_ ?_ (fun _ _ _ => rfl)
  · intro vs m K
    unfold r81_L0_R
    split <;> rfl
  · intro n vs m K hl
    match vs, hl with
    | [x1, x7, x8], _ => show _ = _; kernel_rfl
theorem r81_eq (call : CallF) (fuel base : Nat) (x0 : Value) (m : M) : kbody E call keep81 (lp81 call fuel base) base Tryd.f81 [x0] m = r81 call fuel base x0 m := by
  kernel_rfl
noncomputable def rf81 : RF := fun call fuel base args m => match args with
  | [x0] => r81 call fuel base x0 m
  | _ => none
theorem r81_lk (call : CallF) (fuel base : Nat) : LoopsOk E call (lp81 call fuel base) fuel base 0 c81 = (And True (And True (And (And True (LpOk E call (lp81 call fuel base) fuel base 0 (loopB (blockB (seqR (seqL (seqR (seqR c81)))))))) (And True True)))) := by kernel_rfl
theorem r81_fn : E.P.funcs[81]? = some Tryd.f81 := by kernel_rfl
theorem r81_body : Tryd.f81.body = some c81 := by kernel_rfl
theorem rf81_ok : RFok E 81 rf81 := by
  refine ⟨Tryd.f81, r81_fn, fun call fuel base args m r _ h => ?_⟩
  unfold rf81 at h
  split at h
  · rw [← r81_eq] at h
    exact kbody_sound (c := c81) r81_body (Eq.mpr (r81_lk call fuel base) (And.intro trivial (And.intro trivial (And.intro (And.intro trivial (r81_L0_ok call fuel base)) (And.intro trivial trivial))))) h
  · simp at h
end Go.AM
namespace Go.AM
open Go Go.Proofs
noncomputable def r85 (call : CallF) (fuel base : Nat) (x0 : Value) (x1 : Value) (m : M) : Res2 :=
  (k2 (xbox m x1) fun v3_1 m => (k1 (mfieldAddr E.P 103 v3_1 1) fun v7_2 => (k1 (xload E.P m 3 v7_2) fun v8_3 => (k2 (vcall E.P base m .len [66] [x0]) fun v10_4 m => (kc (call base 101 [v8_3, v10_4] m) (fun v11_5 m => (k1 (mindexAddr E.P 66 x0 v11_5) fun v12_6 => (k1 (xload E.P m 9 v12_6) fun v13_7 => (k1 (mfieldAddr E.P 103 v3_1 0) fun v15_8 => (k1 (xload E.P m 3 v15_8) fun v16_9 => (k2 (vcall E.P base m .len [9] [v13_7]) fun v18_10 m => (kc (call base 101 [v16_9, v18_10] m) (fun v19_11 m => (k1 (mindex E.P 9 v13_7 v19_11) fun v20_12 => (fVal v20_12 fun v => some (.ret v, m)))) (fun v m => some (.pan v, m))))))))) (fun v m => some (.pan v, m)))))))
def keep85 : Keep := { region := fun i => ([[0, 3], [3, 5], [4]] : List (List Nat))[i]?, exit := fun i => ([] : List (List Nat))[i]?, ret := some [4] }
noncomputable def lp85 (call : CallF) (fuel base : Nat) : Lp := lpsel []
noncomputable def c85 : Code := Tryd.f85.body.getD .skip
theorem r85_eq (call : CallF) (fuel base : Nat) (x0 : Value) (x1 : Value) (m : M) : kbody E call keep85 (lp85 call fuel base) base Tryd.f85 [x0, x1] m = r85 call fuel base x0 x1 m := by
  kernel_rfl
noncomputable def rf85 : RF := fun call fuel base args m => match args with
  | [x0, x1] => r85 call fuel base x0 x1 m
  | _ => none
theorem r85_lk (call : CallF) (fuel base : Nat) : LoopsOk E call (lp85 call fuel base) fuel base 0 c85 = (And True (And True (And True True))) := by kernel_rfl
theorem r85_fn : E.P.funcs[85]? = some Tryd.f85 := by kernel_rfl
theorem r85_body : Tryd.f85.body = some c85 := by kernel_rfl
theorem rf85_ok : RFok E 85 rf85 := by
  refine ⟨Tryd.f85, r85_fn, fun call fuel base args m r _ h => ?_⟩
  unfold rf85 at h
  split at h
  · rw [← r85_eq] at h
    exact kbody_sound (c := c85) r85_body (Eq.mpr (r85_lk call fuel base) (And.intro trivial (And.intro trivial (And.intro trivial trivial)))) h
  · simp at h
end Go.AM
namespace Go.AM
open Go Go.Proofs
noncomputable def r86 (call : CallF) (fuel base : Nat) (x0 : Value) (x1 : Value) (m : M) : Res2 :=
  (k2 (xbox m x0) fun v2_1 m => (k2 (xbox m x1) fun v3_2 m => (k2 (xalloc E.P m 103) fun v4_3 m => (k1 (mfieldAddr E.P 103 v3_2 0) fun v7_4 => (k1 (xload E.P m 3 v7_4) fun v8_5 => (k1 (mfieldAddr E.P 50 v2_1 4) fun v9_6 => (k1 (xload E.P m 3 v9_6) fun v10_7 => (k1 (mbin E .sub 3 v8_5 v10_7) fun v11_8 => (k1 (mfieldAddr E.P 103 v3_2 1) fun v12_9 => (k1 (xload E.P m 3 v12_9) fun v13_10 => (k1 (mfieldAddr E.P 50 v2_1 5) fun v14_11 => (k1 (xload E.P m 3 v14_11) fun v15_12 => (k1 (mbin E .sub 3 v13_10 v15_12) fun v16_13 => (k1 (mfieldAddr E.P 50 v2_1 0) fun v17_14 => (k1 (xload E.P m 3 v17_14) fun v18_15 => (k1 (mbin E .mul 3 v18_15 v11_8) fun v20_16 => (k1 (mfieldAddr E.P 50 v2_1 2) fun v21_17 => (k1 (xload E.P m 3 v21_17) fun v22_18 => (k1 (mbin E .mul 3 v22_18 v16_13) fun v24_19 => (k1 (mbin E .add 3 v20_16 v24_19) fun v25_20 => (k1 (mfieldAddr E.P 50 v2_1 1) fun v26_21 => (k1 (xload E.P m 3 v26_21) fun v27_22 => (k1 (mbin E .mul 3 v27_22 v11_8) fun v29_23 => (k1 (mfieldAddr E.P 50 v2_1 3) fun v30_24 => (k1 (xload E.P m 3 v30_24) fun v31_25 => (k1 (mbin E .mul 3 v31_25 v16_13) fun v33_26 => (k1 (mbin E .add 3 v29_23 v33_26) fun v34_27 => (k1 (mbuild E.P 103 [(0, v25_20), (1, v34_27)]) fun v35_28 => (ks (xstore E.P base m 103 v4_3 v35_28) fun m => (k0 (mload E.P m 103 v4_3) fun r_29 => (fVal r_29 fun v => some (.ret v, m))))))))))))))))))))))))))))))))
def keep86 : Keep := { region := fun i => ([[2, 3, 4], [2, 4, 5, 6], [4]] : List (List Nat))[i]?, exit := fun i => ([] : List (List Nat))[i]?, ret := some [4] }
noncomputable def lp86 (call : CallF) (fuel base : Nat) : Lp := lpsel []
noncomputable def c86 : Code := Tryd.f86.body.getD .skip
theorem r86_eq (call : CallF) (fuel base : Nat) (x0 : Value) (x1 : Value) (m : M) : kbody E call keep86 (lp86 call fuel base) base Tryd.f86 [x0, x1] m = r86 call fuel base x0 x1 m := by
  kernel_rfl
noncomputable def rf86 : RF := fun call fuel base args m => match args with
  | [x0, x1] => r86 call fuel base x0 x1 m
  | _ => none
theorem r86_lk (call : CallF) (fuel base : Nat) : LoopsOk E call (lp86 call fuel base) fuel base 0 c86 = (And True (And True (And True True))) := by kernel_rfl
theorem r86_fn : E.P.funcs[86]? = some Tryd.f86 := by kernel_rfl
theorem r86_body : Tryd.f86.body = some c86 := by kernel_rfl
theorem rf86_ok : RFok E 86 rf86 := by
  refine ⟨Tryd.f86, r86_fn, fun call fuel base args m r _ h => ?_⟩
  unfold rf86 at h
  split at h
  · rw [← r86_eq] at h
    exact kbody_sound (c := c86) r86_body (Eq.mpr (r86_lk call fuel base) (And.intro trivial (And.intro trivial (And.intro trivial trivial)))) h
  · simp at h
end Go.AM
namespace Go.AM
open Go Go.Proofs
noncomputable def r87_L0 (call : CallF) (fuel base : Nat) (kp : Value → M → Res2) (kr : Value → M → Res2) (kx0 : M → Res2) (n : Nat) : Value → Value → Value → Value → M → Res2 :=
  Nat.rec (motive := fun _ => Value → Value → Value → Value → M → Res2) (fun _ _ _ _ _ => none)
    (fun _ ih x0 x1 x7 x8 m =>
      (k1 (mbin E .lss 3 x8 x7) fun v9_2 => (kb v9_2 (k1 (mindexAddr E.P 30 x0 x8) fun v14_3 => (k1 (xload E.P m 50 v14_3) fun v15_4 => (kc (kv call base x1 [v15_4] m) (fun v16_5 m => (kb v16_5 (kr x8 m) (k1 (mbin E .add 3 x8 (.int .i64 1)) fun v18_6 => (ih x0 x1 x7 v18_6 m)))) (fun v m => kp v m)))) (kx0 m)))) n
noncomputable def r87 (call : CallF) (fuel base : Nat) (x0 : Value) (x1 : Value) (m : M) : Res2 :=
  (k2 (vcall E.P base m .len [30] [x0]) fun v7_1 m => (r87_L0 call fuel base (fun v m => some (.pan v, m)) (fun y4_7 m => (fVal y4_7 fun v => some (.ret v, m))) (fun m => (fVal (.int .i64 (-1)) fun v => some (.ret v, m))) fuel x0 x1 v7_1 (.int .i64 0) m))
def keep87 : Keep := { region := fun i => ([[0, 1], [0, 1, 7, 8], [0, 1, 7, 8, 9], [0, 1, 5, 7, 8], [0, 1, 5, 7, 8, 16], [4], [0, 1, 7, 8], [4]] : List (List Nat))[i]?, exit := fun i => ([[], [0, 1, 7, 8]] : List (List Nat))[i]?, ret := some [4] }
noncomputable def r87_L0_R (call : CallF) (fuel base n : Nat) (vs : List Value) (m : M) (K : KT) : Res2 := match vs with
  | [x0, x1, x7, x8] => r87_L0 call fuel base (fun v m => K (.pan v) { n := 19, l := [] } m) (fun y4 m => K .ret { n := 19, l := [(4, y4)] } m) (fun m => K (.exit 0) { n := 19, l := [] } m) n x0 x1 x7 x8 m
  | _ => none
noncomputable def lp87 (call : CallF) (fuel base : Nat) : Lp := lpsel [(0, fun T m K => kslots 19 [0, 1, 7, 8] T fun vs => r87_L0_R call fuel base fuel vs m K)]
noncomputable def c87 : Code := Tryd.f87.body.getD .skip
theorem r87_L0_lk (call : CallF) (fuel base : Nat) : LoopsOk E call (lp87 call fuel base) fuel base 0 (loopB (blockB (seqR (seqL (seqR c87))))) = (And True (And (And True True) (And (And True (And True (And (And True True) True))) True))) := by kernel_rfl
theorem r87_L0_ok (call : CallF) (fuel base : Nat) : LpOk E call (lp87 call fuel base) fuel base 0 (loopB (blockB (seqR (seqL (seqR c87))))) := by
  refine loop_ok (kp := keep87) (hb := Eq.mpr (r87_L0_lk call fuel base) (And.intro trivial (And.intro (And.intro trivial trivial) (And.intro (And.intro trivial (And.intro trivial (And.intro (And.intro trivial trivial) trivial))) trivial)))) 19 [0, 1, 7, 8] (fun n vs m K => r87_L0_R call fuel base n vs m K) ?_ ?_ (fun _ _ _ => rfl)
  · intro vs m K
    unfold r87_L0_R
    split <;> rfl
  · intro n vs m K hl
    match vs, hl with
    | [x0, x1, x7, x8], _ => show _ = _; kernel_rfl
theorem r87_eq (call : CallF) (fuel base : Nat) (x0 : Value) (x1 : Value) (m : M) : kbody E call keep87 (lp87 call fuel base) base Tryd.f87 [x0, x1] m = r87 call fuel base x0 x1 m := by
  kernel_rfl
noncomputable def rf87 : RF := fun call fuel base args m => match args with
  | [x0, x1] => r87 call fuel base x0 x1 m
  | _ => none
theorem r87_lk (call : CallF) (fuel base : Nat) : LoopsOk E call (lp87 call fuel base) fuel base 0 c87 = (And True (And (And True (LpOk E call (lp87 call fuel base) fuel base 0 (loopB (blockB (seqR (seqL (seqR c87))))))) (And True True))) := by kernel_rfl
theorem r87_fn : E.P.funcs[87]? = some Tryd.f87 := by kernel_rfl
theorem r87_body : Tryd.f87.body = some c87 := by kernel_rfl
theorem rf87_ok : RFok E 87 rf87 := by
  refine ⟨Tryd.f87, r87_fn, fun call fuel base args m r _ h => ?_⟩
  unfold rf87 at h
  split at h
  · rw [← r87_eq] at h
    exact kbody_sound (c := c87) r87_body (Eq.mpr (r87_lk call fuel base) (And.intro trivial (And.intro (And.intro trivial (r87_L0_ok call fuel base)) (And.intro trivial trivial)))) h
  · simp at h
end Go.AM
namespace Go.AM
open Go Go.Proofs
noncomputable def r88 (call : CallF) (fuel base : Nat) (x0 : Value) (x1 : Value) (m : M) : Res2 :=
  (k2 (xbox m x0) fun v2_1 m => (k1 (xload E.P m 50 v2_1) fun v4_2 => (kc (kB m (call m.length 81 [v4_2] m)) (fun v5_3 m => (k1 (xload E.P m 3 x1) fun v6_4 => (k1 (mbin E .eql 3 v5_3 v6_4) fun v7_5 => (fVal v7_5 fun v => some (.ret v, m))))) (fun _ _ => none))))
def keep88 : Keep := { region := fun i => ([[1, 2], [3]] : List (List Nat))[i]?, exit := fun i => ([] : List (List Nat))[i]?, ret := some [3] }
noncomputable def lp88 (call : CallF) (fuel base : Nat) : Lp := lpsel []
noncomputable def c88 : Code := Tryd.f88.body.getD .skip
theorem r88_eq (call : CallF) (fuel base : Nat) (x0 : Value) (x1 : Value) (m : M) : kbody E call keep88 (lp88 call fuel base) base Tryd.f88 [x0, x1] m = r88 call fuel base x0 x1 m := by
  kernel_rfl
noncomputable def rf88 : RF := fun call fuel base args m => match args with
  | [x0, x1] => r88 call fuel base x0 x1 m
  | _ => none
theorem r88_lk (call : CallF) (fuel base : Nat) : LoopsOk E call (lp88 call fuel base) fuel base 0 c88 = (And True (And True True)) := by kernel_rfl
theorem r88_fn : E.P.funcs[88]? = some Tryd.f88 := by kernel_rfl
theorem r88_body : Tryd.f88.body = some c88 := by kernel_rfl
theorem rf88_ok : RFok E 88 rf88 := by
  refine ⟨Tryd.f88, r88_fn, fun call fuel base args m r _ h => ?_⟩
  unfold rf88 at h
  split at h
  · rw [← r88_eq] at h
    exact kbody_sound (c := c88) r88_body (Eq.mpr (r88_lk call fuel base) (And.intro trivial (And.intro trivial trivial))) h
  · simp at h
end Go.AM
namespace Go.AM
open Go Go.Proofs
noncomputable def r89_L0 (call : CallF) (fuel base : Nat) (kp : Value → M → Res2) (kx0 : Value → M → Res2) (n : Nat) : Value → Value → Value → M → Res2 :=
  Nat.rec (motive := fun _ => Value → Value → Value → M → Res2) (fun _ _ _ _ => none)
    (fun _ ih x1 x3 x4 m =>
      (k1 (mbin E .lss 3 x4 (.int .i64 8)) fun v8_2 => (kb v8_2 (k1 (xload E.P m 70 x1) fun v12_3 => (kc (call base 67 [v12_3, x4] m) (fun v14_4 m => (k1 (mextract 0 v14_4) fun v15_5 => (k1 (mextract 1 v14_4) fun v16_6 => (k2 (xalloc E.P m 50) fun v5_7 m => (ks (xstore E.P base m 50 v5_7 v15_5) fun m => (kb v16_6 (k2 (xbuildSlice E.P m 37 1 [(0, x4)]) fun v20_8 m => (k2 (vcall E.P base m .append [37, 37] [x3, v20_8]) fun v21_9 m => (k1 (mbin E .add 3 x4 (.int .i64 1)) fun v10_10 => (ih x1 v21_9 v10_10 m)))) (k1 (mbin E .add 3 x4 (.int .i64 1)) fun v10_11 => (ih x1 x3 v10_11 m)))))))) (fun v m => kp v m))) (kx0 x3 m)))) n
noncomputable def r89 (call : CallF) (fuel base : Nat) (x0 : Value) (m : M) : Res2 :=
  (k2 (xbox m x0) fun v1_1 m => (r89_L0 call fuel base (fun v m => some (.pan v, m)) (fun y3_12 m => (fVal y3_12 fun v => some (.ret v, m))) fuel v1_1 (.slice none 0 0) (.int .i64 4) m))
def keep89 : Keep := { region := fun i => ([[1], [1, 3], [1, 3, 4], [1, 3, 4, 8], [1, 3, 4], [1, 3, 4, 6], [1, 3, 4, 17], [1, 3, 4], [2]] : List (List Nat))[i]?, exit := fun i => ([[3], [1, 3, 4]] : List (List Nat))[i]?, ret := some [2] }
noncomputable def r89_L0_R (call : CallF) (fuel base n : Nat) (vs : List Value) (m : M) (K : KT) : Res2 := match vs with
  | [x1, x3, x4] => r89_L0 call fuel base (fun v m => K (.pan v) { n := 23, l := [] } m) (fun y3 m => K (.exit 0) { n := 23, l := [(3, y3)] } m) n x1 x3 x4 m
  | _ => none
noncomputable def lp89 (call : CallF) (fuel base : Nat) : Lp := lpsel [(0, fun T m K => kslots 23 [1, 3, 4] T fun vs => r89_L0_R call fuel base fuel vs m K)]
noncomputable def c89 : Code := Tryd.f89.body.getD .skip
theorem r89_L0_lk (call : CallF) (fuel base : Nat) : LoopsOk E call (lp89 call fuel base) fuel base 0 (loopB (blockB (seqR (seqL (seqR (seqR c89)))))) = (And (And True (And True True)) (And (And True (And True (And True True))) True)) := by kernel_rfl
theorem r89_L0_ok (call : CallF) (fuel base : Nat) : LpOk E call (lp89 call fuel base) fuel base 0 (loopB (blockB (seqR (seqL (seqR (seqR c89)))))) := by
  refine loop_ok (kp := keep89) (hb := Eq.mpr (r89_L0_lk call fuel base) (And.intro (And.intro trivial (And.intro trivial trivial)) (And.intro (And.intro trivial (And.intro trivial (And.intro trivial trivial))) trivial))) 23 [1, 3, 4] (fun n vs m K => r89_L0_R call fuel base n vs m K) ?_ ?_ (fun _ _ _ => rfl)
  · intro vs m K
    unfold r89_L0_R
    split <;> rfl
  · intro n vs m K hl
    match vs, hl with
    | [x1, x3, x4], _ => show _ = _; kernel_rfl
theorem r89_eq (call : CallF) (fuel base : Nat) (x0 : Value) (m : M) : kbody E call keep89 (lp89 call fuel base) base Tryd.f89 [x0] m = r89 call fuel base x0 m := by
  kernel_rfl
noncomputable def rf89 : RF := fun call fuel base args m => match args with
  | [x0] => r89 call fuel base x0 m
  | _ => none
theorem r89_lk (call : CallF) (fuel base : Nat) : LoopsOk E call (lp89 call fuel base) fuel base 0 c89 = (And True (And True (And (And True (LpOk E call (lp89 call fuel base) fuel base 0 (loopB (blockB (seqR (seqL (seqR (seqR c89)))))))) (And True True)))) := by kernel_rfl
theorem r89_fn : E.P.funcs[89]? = some Tryd.f89 := by kernel_rfl
theorem r89_body : Tryd.f89.body = some c89 := by kernel_rfl
theorem rf89_ok : RFok E 89 rf89 := by
  refine ⟨Tryd.f89, r89_fn, fun call fuel base args m r _ h => ?_⟩
  unfold rf89 at h
  split at h
  · rw [← r89_eq] at h
    exact kbody_sound (c := c89) r89_body (Eq.mpr (r89_lk call fuel base) (And.intro trivial (And.intro trivial (And.intro (And.intro trivial (r89_L0_ok call fuel base)) (And.intro trivial trivial))))) h
  · simp at h
end Go.AM
namespace Go.AM
open Go Go.Proofs
noncomputable def r90 (call : CallF) (fuel base : Nat) (x0 : Value) (x1 : Value) (m : M) : Res2 :=
  (kc (call base 102 [x0, x1] m) (fun v7_1 m => (k1 (mbin E .geq 3 v7_1 (.int .i64 0)) fun v8_2 => (fVal v8_2 fun v => some (.ret v, m)))) (fun v m => some (.pan v, m)))
def keep90 : Keep := { region := fun i => ([[0, 1], [4]] : List (List Nat))[i]?, exit := fun i => ([] : List (List Nat))[i]?, ret := some [4] }
noncomputable def lp90 (call : CallF) (fuel base : Nat) : Lp := lpsel []
noncomputable def c90 : Code := Tryd.f90.body.getD .skip
theorem r90_eq (call : CallF) (fuel base : Nat) (x0 : Value) (x1 : Value) (m : M) : kbody E call keep90 (lp90 call fuel base) base Tryd.f90 [x0, x1] m = r90 call fuel base x0 x1 m := by
  kernel_rfl
noncomputable def rf90 : RF := fun call fuel base args m => match args with
  | [x0, x1] => r90 call fuel base x0 x1 m
  | _ => none
theorem r90_lk (call : CallF) (fuel base : Nat) : LoopsOk E call (lp90 call fuel base) fuel base 0 c90 = (And True (And True True)) := by kernel_rfl
theorem r90_fn : E.P.funcs[90]? = some Tryd.f90 := by kernel_rfl
theorem r90_body : Tryd.f90.body = some c90 := by kernel_rfl
theorem rf90_ok : RFok E 90 rf90 := by
  refine ⟨Tryd.f90, r90_fn, fun call fuel base args m r _ h => ?_⟩
  unfold rf90 at h
  split at h
  · rw [← r90_eq] at h
    exact kbody_sound (c := c90) r90_body (Eq.mpr (r90_lk call fuel base) (And.intro trivial (And.intro trivial trivial))) h
  · simp at h
end Go.AM
namespace Go.AM
open Go Go.Proofs
noncomputable def r91_L0 (call : CallF) (fuel base : Nat) (kx0 : Value → M → Res2) (n : Nat) : Value → Value → Value → Value → M → Res2 :=
  Nat.rec (motive := fun _ => Value → Value → Value → Value → M → Res2) (fun _ _ _ _ _ => none)
    (fun _ ih x8 x62 x63 x64 m =>
      (k1 (mbin E .lss 3 x64 x63) fun v65_52 => (kb v65_52 (k1 (mindexAddr E.P 115 x62 x64) fun v67_53 => (k1 (xload E.P m 103 v67_53) fun v68_54 => (k2 (xalloc E.P m 103) fun v10_55 m => (ks (xstore E.P base m 103 v10_55 v68_54) fun m => (k1 (mfieldAddr E.P 103 v10_55 0) fun v71_56 => (k1 (xload E.P m 3 v71_56) fun v72_57 => (k1 (mfieldAddr E.P 103 v10_55 1) fun v73_58 => (k1 (xload E.P m 3 v73_58) fun v74_59 => (k1 (mbin E .sub 3 v72_57 v74_59) fun v75_60 => (k1 (mfieldAddr E.P 103 v10_55 0) fun v76_61 => (k1 (xload E.P m 3 v76_61) fun v77_62 => (k1 (mfieldAddr E.P 103 v10_55 1) fun v78_63 => (k1 (xload E.P m 3 v78_63) fun v79_64 => (k1 (mbin E .add 3 v77_62 v79_64) fun v80_65 => (k1 (mbuild E.P 103 [(0, v75_60), (1, v80_65)]) fun v81_66 => (k1 (mindexAddr E.P 115 x8 x64) fun v82_67 => (ks (xstore E.P base m 103 v82_67 v81_66) fun m => (k1 (mbin E .add 3 x64 (.int .i64 1)) fun v83_68 => (ih x8 x62 x63 v83_68 m))))))))))))))))))) (kx0 x8 m)))) n
noncomputable def r91 (call : CallF) (fuel base : Nat) (x0 : Value) (x1 : Value) (m : M) : Res2 :=
  (k2 (xbox m x0) fun v2_1 m => (k1 (xload E.P m 70 v2_1) fun v12_2 => (kc (call base 67 [v12_2, x1] m) (fun v14_3 m => (k1 (mextract 0 v14_3) fun v15_4 => (k1 (mextract 1 v14_3) fun v16_5 => (k2 (xalloc E.P m 50) fun v5_6 m => (ks (xstore E.P base m 50 v5_6 v15_4) fun m => (k1 (mun .not v16_5) fun v18_7 => (kb v18_7 (fVal (.slice none 0 0) fun v => some (.ret v, m)) (k1 (mfieldAddr E.P 70 v2_1 0) fun v19_8 => (k1 (xload E.P m 26 v19_8) fun v20_9 => (k2 (xalloc E.P m 26) fun v7_10 m => (ks (xstore E.P base m 26 v7_10 v20_9) fun m => (k1 (mfieldAddr E.P 50 v5_6 4) fun v21_11 => (k1 (xload E.P m 3 v21_11) fun v22_12 => (k1 (mfieldAddr E.P 50 v5_6 5) fun v23_13 => (k1 (xload E.P m 3 v23_13) fun v24_14 => (k1 (mbuild E.P 103 [(0, v22_12), (1, v24_14)]) fun v25_15 => (k1 (mfieldAddr E.P 50 v5_6 4) fun v26_16 => (k1 (xload E.P m 3 v26_16) fun v27_17 => (k1 (mfieldAddr E.P 50 v5_6 5) fun v28_18 => (k1 (xload E.P m 3 v28_18) fun v29_19 => (k1 (mfieldAddr E.P 26 v7_10 2) fun v30_20 => (k1 (xload E.P m 3 v30_20) fun v31_21 => (k1 (mbin E .add 3 v29_19 v31_21) fun v32_22 => (k1 (mbuild E.P 103 [(0, v27_17), (1, v32_22)]) fun v33_23 => (k1 (mfieldAddr E.P 50 v5_6 4) fun v34_24 => (k1 (xload E.P m 3 v34_24) fun v35_25 => (k1 (mfieldAddr E.P 26 v7_10 0) fun v36_26 => (k1 (xload E.P m 3 v36_26) fun v37_27 => (k1 (mbin E .add 3 v35_25 v37_27) fun v38_28 => (k1 (mfieldAddr E.P 50 v5_6 5) fun v39_29 => (k1 (xload E.P m 3 v39_29) fun v40_30 => (k1 (mfieldAddr E.P 26 v7_10 1) fun v41_31 => (k1 (xload E.P m 3 v41_31) fun v42_32 => (k1 (mbin E .add 3 v40_30 v42_32) fun v43_33 => (k1 (mbuild E.P 103 [(0, v38_28), (1, v43_33)]) fun v44_34 => (k1 (mfieldAddr E.P 50 v5_6 4) fun v45_35 => (k1 (xload E.P m 3 v45_35) fun v46_36 => (k1 (mfieldAddr E.P 26 v7_10 0) fun v47_37 => (k1 (xload E.P m 3 v47_37) fun v48_38 => (k1 (mbin E .add 3 v46_36 v48_38) fun v49_39 => (k1 (mfieldAddr E.P 50 v5_6 5) fun v50_40 => (k1 (xload E.P m 3 v50_40) fun v51_41 => (k1 (mfieldAddr E.P 26 v7_10 1) fun v52_42 => (k1 (xload E.P m 3 v52_42) fun v53_43 => (k1 (mbin E .add 3 v51_41 v53_43) fun v54_44 => (k1 (mfieldAddr E.P 26 v7_10 2) fun v55_45 => (k1 (xload E.P m 3 v55_45) fun v56_46 => (k1 (mbin E .add 3 v54_44 v56_46) fun v57_47 => (k1 (mbuild E.P 103 [(0, v49_39), (1, v57_47)]) fun v58_48 => (k2 (xbuildSlice E.P m 115 4 [(0, v25_15), (1, v33_23), (2, v44_34), (3, v58_48)]) fun v59_49 m => (k1 (mbin E .eql 3 x1 (.int .i64 1)) fun v61_50 => (kb v61_50 (k2 (vcall E.P base m .len [115] [v59_49]) fun v63_51 m => (r91_L0 call fuel base (fun y8_69 m => (fVal y8_69 fun v => some (.ret v, m))) fuel v59_49 v59_49 v63_51 (.int .i64 0) m)) (fVal v59_49 fun v => some (.ret v, m)))))))))))))))))))))))))))))))))))))))))))))))))))))) (fun v m => some (.pan v, m)))))
def keep91 : Keep := { region := fun i => ([[1, 2], [1, 2, 5, 6], [1, 2, 5, 18], [4], [1, 5, 7], [1, 8], [8, 61], [8, 62, 63, 64], [8, 62, 63, 64, 65], [8, 9, 10, 62, 63, 64], [8, 62, 63, 64], [8, 62, 63, 64], [4]] : List (List Nat))[i]?, exit := fun i => ([[8], [8, 62, 63, 64]] : List (List Nat))[i]?, ret := some [4] }
noncomputable def r91_L0_R (call : CallF) (fuel base n : Nat) (vs : List Value) (m : M) (K : KT) : Res2 := match vs with
  | [x8, x62, x63, x64] => r91_L0 call fuel base (fun y8 m => K (.exit 0) { n := 85, l := [(8, y8)] } m) n x8 x62 x63 x64 m
  | _ => none
noncomputable def lp91 (call : CallF) (fuel base : Nat) : Lp := lpsel [(0, fun T m K => kslots 85 [8, 62, 63, 64] T fun vs => r91_L0_R call fuel base fuel vs m K)]
noncomputable def c91 : Code := Tryd.f91.body.getD .skip
theorem r91_L0_lk (call : CallF) (fuel base : Nat) : LoopsOk E call (lp91 call fuel base) fuel base 0 (loopB (blockB (seqR (condT (seqR (seqL (seqR (seqR (seqR (seqR (seqR c91))))))))))) = (And True (And (And True True) (And (And True True) True))) := by kernel_rfl
theorem r91_L0_ok (call : CallF) (fuel base : Nat) : LpOk E call (lp91 call fuel base) fuel base 0 (loopB (blockB (seqR (condT (seqR (seqL (seqR (seqR (seqR (seqR (seqR c91))))))))))) := by
  refine loop_ok (kp := keep91) (hb := Eq.mpr (r91_L0_lk call fuel base) (And.intro trivial (And.intro (And.intro trivial trivial) (And.intro (And.intro trivial trivial) trivial)))) 85 [8, 62, 63, 64] (fun n vs m K => r91_L0_R call fuel base n vs m K) ?_ ?_ (fun _ _ _ => rfl)
  · intro vs m K
    unfold r91_L0_R
    split <;> rfl
  · intro n vs m K hl
    match vs, hl with
    | [x8, x62, x63, x64], _ => show _ = _; kernel_rfl
theorem r91_eq (call : CallF) (fuel base : Nat) (x0 : Value) (x1 : Value) (m : M) : kbody E call keep91 (lp91 call fuel base) base Tryd.f91 [x0, x1] m = r91 call fuel base x0 x1 m := by
  kernel_rfl
noncomputable def rf91 : RF := fun call fuel base args m => match args with
  | [x0, x1] => r91 call fuel base x0 x1 m
  | _ => none
theorem r91_lk (call : CallF) (fuel base : Nat) : LoopsOk E call (lp91 call fuel base) fuel base 0 c91 = (And True (And True (And (And True (And (And True True) True)) (And True (And True (And (And True (And (And True (LpOk E call (lp91 call fuel base) fuel base 0 (loopB (blockB (seqR (condT (seqR (seqL (seqR (seqR (seqR (seqR (seqR c91))))))))))))) True)) (And True True))))))) := by kernel_rfl
theorem r91_fn : E.P.funcs[91]? = some Tryd.f91 := by kernel_rfl
theorem r91_body : Tryd.f91.body = some c91 := by kernel_rfl
theorem rf91_ok : RFok E 91 rf91 := by
  refine ⟨Tryd.f91, r91_fn, fun call fuel base args m r _ h => ?_⟩
  unfold rf91 at h
  split at h
  · rw [← r91_eq] at h
    exact kbody_sound (c := c91) r91_body (Eq.mpr (r91_lk call fuel base) (And.intro trivial (And.intro trivial (And.intro (And.intro trivial (And.intro (And.intro trivial trivial) trivial)) (And.intro trivial (And.intro trivial (And.intro (And.intro trivial (And.intro (And.intro trivial (r91_L0_ok call fuel base)) trivial)) (And.intro trivial trivial)))))))) h
  · simp at h
end Go.AM
namespace Go.AM
open Go Go.Proofs
noncomputable def r92 (call : CallF) (fuel base : Nat) (x0 : Value) (x1 : Value) (m : M) : Res2 :=
  (k2 (xbox m x0) fun v2_1 m => (k2 (xbox m x1) fun v3_2 m => (k1 (xload E.P m 70 v2_1) fun v5_3 => (kc (call base 89 [v5_3] m) (fun v6_4 m => (kc (call base 103 [v6_4, (.func (.func 104) #[] #[v2_1, v3_2])] m) (fun v8_5 m => (fVal v8_5 fun v => some (.ret v, m))) (fun v m => some (.pan v, m)))) (fun v m => some (.pan v, m))))))
def keep92 : Keep := { region := fun i => ([[2, 3], [4]] : List (List Nat))[i]?, exit := fun i => ([] : List (List Nat))[i]?, ret := some [4] }
noncomputable def lp92 (call : CallF) (fuel base : Nat) : Lp := lpsel []
noncomputable def c92 : Code := Tryd.f92.body.getD .skip
theorem r92_eq (call : CallF) (fuel base : Nat) (x0 : Value) (x1 : Value) (m : M) : kbody E call keep92 (lp92 call fuel base) base Tryd.f92 [x0, x1] m = r92 call fuel base x0 x1 m := by
  kernel_rfl
noncomputable def rf92 : RF := fun call fuel base args m => match args with
  | [x0, x1] => r92 call fuel base x0 x1 m
  | _ => none
theorem r92_lk (call : CallF) (fuel base : Nat) : LoopsOk E call (lp92 call fuel base) fuel base 0 c92 = (And True (And True True)) := by kernel_rfl
theorem r92_fn : E.P.funcs[92]? = some Tryd.f92 := by kernel_rfl
theorem r92_body : Tryd.f92.body = some c92 := by kernel_rfl
theorem rf92_ok : RFok E 92 rf92 := by
  refine ⟨Tryd.f92, r92_fn, fun call fuel base args m r _ h => ?_⟩
  unfold rf92 at h
  split at h
  · rw [← r92_eq] at h
    exact kbody_sound (c := c92) r92_body (Eq.mpr (r92_lk call fuel base) (And.intro trivial (And.intro trivial trivial))) h
  · simp at h
end Go.AM
namespace Go.AM
open Go Go.Proofs
noncomputable def r93_L0 (call : CallF) (fuel base : Nat) (kp : Value → M → Res2) (kx0 : Value → M → Res2) (n : Nat) : Value → Value → Value → Value → Value → M → Res2 :=
  Nat.rec (motive := fun _ => Value → Value → Value → Value → Value → M → Res2) (fun _ _ _ _ _ _ => none)
    (fun _ ih x1 x3 x7 x8 x9 m =>
      (k1 (mbin E .lss 3 x9 x8) fun v10_5 => (kb v10_5 (k1 (mindexAddr E.P 37 x7 x9) fun v11_6 => (k1 (xload E.P m 3 v11_6) fun v12_7 => (k2 (xalloc E.P m 3) fun v5_8 m => (ks (xstore E.P base m 3 v5_8 v12_7) fun m => (k1 (xload E.P m 70 x1) fun v13_9 => (k1 (xload E.P m 3 v5_8) fun v14_10 => (kc (call base 91 [v13_9, v14_10] m) (fun v15_11 m => (kc (call base 90 [v15_11, (.func (.func 106) #[] #[x1, v5_8])] m) (fun v17_12 m => (kb v17_12 (k1 (mbin E .add 3 x3 (.int .i64 1)) fun v19_13 => (k1 (mbin E .add 3 x9 (.int .i64 1)) fun v20_14 => (ih x1 v19_13 x7 x8 v20_14 m))) (k1 (mbin E .add 3 x9 (.int .i64 1)) fun v20_15 => (ih x1 x3 x7 x8 v20_15 m)))) (fun v m => kp v m))) (fun v m => kp v m)))))))) (kx0 x3 m)))) n
noncomputable def r93 (call : CallF) (fuel base : Nat) (x0 : Value) (m : M) : Res2 :=
  (k2 (xbox m x0) fun v1_1 m => (k1 (xload E.P m 70 v1_1) fun v6_2 => (kc (call base 89 [v6_2] m) (fun v7_3 m => (k2 (vcall E.P base m .len [37] [v7_3]) fun v8_4 m => (r93_L0 call fuel base (fun v m => some (.pan v, m)) (fun y3_16 m => (fVal y3_16 fun v => some (.ret v, m))) fuel v1_1 (.int .i64 0) v7_3 v8_4 (.int .i64 0) m))) (fun v m => some (.pan v, m)))))
def keep93 : Keep := { region := fun i => ([[1], [1, 3], [1, 3, 7, 8, 9], [1, 3, 7, 8, 9, 10], [1, 3, 5, 7, 8, 9], [1, 3, 7, 8, 9, 17], [1, 3, 7, 8, 9], [1, 3, 7, 8, 9], [2]] : List (List Nat))[i]?, exit := fun i => ([[3], [1, 3, 7, 8, 9]] : List (List Nat))[i]?, ret := some [2] }
noncomputable def r93_L0_R (call : CallF) (fuel base n : Nat) (vs : List Value) (m : M) (K : KT) : Res2 := match vs with
  | [x1, x3, x7, x8, x9] => r93_L0 call fuel base (fun v m => K (.pan v) { n := 22, l := [] } m) (fun y3 m => K (.exit 0) { n := 22, l := [(3, y3)] } m) n x1 x3 x7 x8 x9 m
  | _ => none
noncomputable def lp93 (call : CallF) (fuel base : Nat) : Lp := lpsel [(0, fun T m K => kslots 22 [1, 3, 7, 8, 9] T fun vs => r93_L0_R call fuel base fuel vs m K)]
noncomputable def c93 : Code := Tryd.f93.body.getD .skip
theorem r93_L0_lk (call : CallF) (fuel base : Nat) : LoopsOk E call (lp93 call fuel base) fuel base 0 (loopB (blockB (seqR (seqL (seqR (seqR c93)))))) = (And True (And (And True True) (And (And True (And True (And True True))) True))) := by kernel_rfl
theorem r93_L0_ok (call : CallF) (fuel base : Nat) : LpOk E call (lp93 call fuel base) fuel base 0 (loopB (blockB (seqR (seqL (seqR (seqR c93)))))) := by
  refine loop_ok (kp := keep93) (hb := Eq.mpr (r93_L0_lk call fuel base) (And.intro trivial (And.intro (And.intro trivial trivial) (And.intro (And.intro trivial (And.intro trivial (And.intro trivial trivial))) trivial)))) 22 [1, 3, 7, 8, 9] (fun n vs m K => r93_L0_R call fuel base n vs m K) ?_ ?_ (fun _ _ _ => rfl)
  · intro vs m K
    unfold r93_L0_R
    split <;> rfl
  · intro n vs m K hl
    match vs, hl with
    | [x1, x3, x7, x8, x9], _ => show _ = _; kernel_rfl
theorem r93_eq (call : CallF) (fuel base : Nat) (x0 : Value) (m : M) : kbody E call keep93 (lp93 call fuel base) base Tryd.f93 [x0] m = r93 call fuel base x0 m := by
  kernel_rfl
noncomputable def rf93 : RF := fun call fuel base args m => match args with
  | [x0] => r93 call fuel base x0 m
  | _ => none
theorem r93_lk (call : CallF) (fuel base : Nat) : LoopsOk E call (lp93 call fuel base) fuel base 0 c93 = (And True (And True (And (And True (LpOk E call (lp93 call fuel base) fuel base 0 (loopB (blockB (seqR (seqL (seqR (seqR c93)))))))) (And True True)))) := by kernel_rfl
theorem r93_fn : E.P.funcs[93]? = some Tryd.f93 := by kernel_rfl
theorem r93_body : Tryd.f93.body = some c93 := by kernel_rfl
theorem rf93_ok : RFok E 93 rf93 := by
  refine ⟨Tryd.f93, r93_fn, fun call fuel base args m r _ h => ?_⟩
  unfold rf93 at h
  split at h
  · rw [← r93_eq] at h
    exact kbody_sound (c := c93) r93_body (Eq.mpr (r93_lk call fuel base) (And.intro trivial (And.intro trivial (And.intro (And.intro trivial (r93_L0_ok call fuel base)) (And.intro trivial trivial))))) h
  · simp at h
end Go.AM
namespace Go.AM
open Go Go.Proofs
noncomputable def r94 (call : CallF) (fuel base : Nat) (x0 : Value) (x1 : Value) (m : M) : Res2 :=
  (k2 (xbox m x0) fun v2_1 m => (k2 (xbox m x1) fun v3_2 m => (k1 (xload E.P m 70 v2_1) fun v5_3 => (k1 (xload E.P m 103 v3_2) fun v6_4 => (kc (call base 92 [v5_3, v6_4] m) (fun v7_5 m => (k1 (mun .not v7_5) fun v8_6 => (fVal v8_6 fun v => some (.ret v, m)))) (fun v m => some (.pan v, m)))))))
def keep94 : Keep := { region := fun i => ([[2, 3], [4]] : List (List Nat))[i]?, exit := fun i => ([] : List (List Nat))[i]?, ret := some [4] }
noncomputable def lp94 (call : CallF) (fuel base : Nat) : Lp := lpsel []
noncomputable def c94 : Code := Tryd.f94.body.getD .skip
theorem r94_eq (call : CallF) (fuel base : Nat) (x0 : Value) (x1 : Value) (m : M) : kbody E call keep94 (lp94 call fuel base) base Tryd.f94 [x0, x1] m = r94 call fuel base x0 x1 m := by
  kernel_rfl
noncomputable def rf94 : RF := fun call fuel base args m => match args with
  | [x0, x1] => r94 call fuel base x0 x1 m
  | _ => none
theorem r94_lk (call : CallF) (fuel base : Nat) : LoopsOk E call (lp94 call fuel base) fuel base 0 c94 = (And True (And True True)) := by kernel_rfl
theorem r94_fn : E.P.funcs[94]? = some Tryd.f94 := by kernel_rfl
theorem r94_body : Tryd.f94.body = some c94 := by kernel_rfl
theorem rf94_ok : RFok E 94 rf94 := by
  refine ⟨Tryd.f94, r94_fn, fun call fuel base args m r _ h => ?_⟩
  unfold rf94 at h
  split at h
  · rw [← r94_eq] at h
    exact kbody_sound (c := c94) r94_body (Eq.mpr (r94_lk call fuel base) (And.intro trivial (And.intro trivial trivial))) h
  · simp at h
end Go.AM
namespace Go.AM
open Go Go.Proofs
noncomputable def r95 (call : CallF) (fuel base : Nat) (x0 : Value) (m : M) : Res2 :=
  (k2 (xbox m x0) fun v1_1 m => (k1 (xload E.P m 50 v1_1) fun v4_2 => (kc (call base 35 [v4_2] m) (fun v5_3 m => (k1 (mbin E .eql 3 v5_3 (.int .i64 1)) fun v7_4 => (kb v7_4 (k1 (mfieldAddr E.P 50 v1_1 4) fun v8_5 => (k1 (xload E.P m 3 v8_5) fun v9_6 => (k1 (mfieldAddr E.P 50 v1_1 5) fun v10_7 => (k1 (xload E.P m 3 v10_7) fun v11_8 => (k1 (mbin E .sub 3 v9_6 v11_8) fun v12_9 => (k1 (mfieldAddr E.P 50 v1_1 4) fun v13_10 => (k1 (xload E.P m 3 v13_10) fun v14_11 => (k1 (mfieldAddr E.P 50 v1_1 5) fun v15_12 => (k1 (xload E.P m 3 v15_12) fun v16_13 => (k1 (mbin E .add 3 v14_11 v16_13) fun v17_14 => (some (.ret (.tuple #[v12_9, v17_14]), m)))))))))))) (k1 (mbin E .eql 3 v5_3 (.int .i64 3)) fun v19_15 => (kb v19_15 (k1 (mfieldAddr E.P 50 v1_1 4) fun v20_16 => (k1 (xload E.P m 3 v20_16) fun v21_17 => (k1 (mfieldAddr E.P 50 v1_1 5) fun v22_18 => (k1 (xload E.P m 3 v22_18) fun v23_19 => (k1 (mbin E .add 3 v21_17 v23_19) fun v24_20 => (k1 (mfieldAddr E.P 50 v1_1 5) fun v25_21 => (k1 (xload E.P m 3 v25_21) fun v26_22 => (k1 (mfieldAddr E.P 50 v1_1 4) fun v27_23 => (k1 (xload E.P m 3 v27_23) fun v28_24 => (k1 (mbin E .sub 3 v26_22 v28_24) fun v29_25 => (some (.ret (.tuple #[v24_20, v29_25]), m)))))))))))) (k1 (mfieldAddr E.P 50 v1_1 4) fun v30_26 => (k1 (xload E.P m 3 v30_26) fun v31_27 => (k1 (mfieldAddr E.P 50 v1_1 5) fun v32_28 => (k1 (xload E.P m 3 v32_28) fun v33_29 => (some (.ret (.tuple #[v31_27, v33_29]), m))))))))))) (fun v m => some (.pan v, m)))))
def keep95 : Keep := { region := fun i => ([[1], [1, 5], [1, 5, 6], [2, 3], [1, 18], [2, 3], [2, 3]] : List (List Nat))[i]?, exit := fun i => ([[1]] : List (List Nat))[i]?, ret := some [2, 3] }
noncomputable def lp95 (call : CallF) (fuel base : Nat) : Lp := lpsel []
noncomputable def c95 : Code := Tryd.f95.body.getD .skip
theorem r95_eq (call : CallF) (fuel base : Nat) (x0 : Value) (m : M) : kbody E call keep95 (lp95 call fuel base) base Tryd.f95 [x0] m = r95 call fuel base x0 m := by
  kernel_rfl
noncomputable def rf95 : RF := fun call fuel base args m => match args with
  | [x0] => r95 call fuel base x0 m
  | _ => none
theorem r95_lk (call : CallF) (fuel base : Nat) : LoopsOk E call (lp95 call fuel base) fuel base 0 c95 = (And True (And (And True (And True (And (And True True) (And True (And (And True True) True))))) (And True True))) := by kernel_rfl
theorem r95_fn : E.P.funcs[95]? = some Tryd.f95 := by kernel_rfl
theorem r95_body : Tryd.f95.body = some c95 := by kernel_rfl
theorem rf95_ok : RFok E 95 rf95 := by
  refine ⟨Tryd.f95, r95_fn, fun call fuel base args m r _ h => ?_⟩
  unfold rf95 at h
  split at h
  · rw [← r95_eq] at h
    exact kbody_sound (c := c95) r95_body (Eq.mpr (r95_lk call fuel base) (And.intro trivial (And.intro (And.intro trivial (And.intro trivial (And.intro (And.intro trivial trivial) (And.intro trivial (And.intro (And.intro trivial trivial) trivial))))) (And.intro trivial trivial)))) h
  · simp at h
end Go.AM
namespace Go.AM
open Go Go.Proofs
noncomputable def r96 (call : CallF) (fuel base : Nat) (x0 : Value) (x1 : Value) (m : M) : Res2 :=
  (k1 (mbin E .geq 3 x0 (.int .i64 0)) fun v6_1 => (kb v6_1 (k1 (mbin E .leq 3 x0 (.int .i64 12)) fun v9_2 => (kb v9_2 (k1 (mbin E .geq 3 x1 (.int .i64 0)) fun v13_3 => (kb v13_3 (k1 (mbin E .leq 3 x1 (.int .i64 12)) fun v17_4 => (fVal v17_4 fun v => some (.ret v, m))) (fVal (.bool false) fun v => some (.ret v, m)))) (fVal (.bool false) fun v => some (.ret v, m)))) (fVal (.bool false) fun v => some (.ret v, m))))
def keep96 : Keep := { region := fun i => ([[0, 1], [4]] : List (List Nat))[i]?, exit := fun i => ([] : List (List Nat))[i]?, ret := some [4] }
noncomputable def lp96 (call : CallF) (fuel base : Nat) : Lp := lpsel []
noncomputable def c96 : Code := Tryd.f96.body.getD .skip
theorem r96_eq (call : CallF) (fuel base : Nat) (x0 : Value) (x1 : Value) (m : M) : kbody E call keep96 (lp96 call fuel base) base Tryd.f96 [x0, x1] m = r96 call fuel base x0 x1 m := by
  kernel_rfl
noncomputable def rf96 : RF := fun call fuel base args m => match args with
  | [x0, x1] => r96 call fuel base x0 x1 m
  | _ => none
theorem r96_lk (call : CallF) (fuel base : Nat) : LoopsOk E call (lp96 call fuel base) fuel base 0 c96 = (And True (And True True)) := by kernel_rfl
theorem r96_fn : E.P.funcs[96]? = some Tryd.f96 := by kernel_rfl
theorem r96_body : Tryd.f96.body = some c96 := by kernel_rfl
theorem rf96_ok : RFok E 96 rf96 := by
  refine ⟨Tryd.f96, r96_fn, fun call fuel base args m r _ h => ?_⟩
  unfold rf96 at h
  split at h
  · rw [← r96_eq] at h
    exact kbody_sound (c := c96) r96_body (Eq.mpr (r96_lk call fuel base) (And.intro trivial (And.intro trivial trivial))) h
  · simp at h
end Go.AM
namespace Go.AM
open Go Go.Proofs
noncomputable def r97_L0 (call : CallF) (fuel base : Nat) (kp : Value → M → Res2) (kr : Value → M → Res2) (kx0 : M → Res2) (n : Nat) : Value → Value → Value → Value → M → Res2 :=
  Nat.rec (motive := fun _ => Value → Value → Value → Value → M → Res2) (fun _ _ _ _ _ => none)
    (fun _ ih x0 x1 x2 x7 m =>
      (k2 (vcall E.P base m .len [30] [x0]) fun v10_1 m => (k1 (mbin E .lss 3 x7 v10_1) fun v11_2 => (kb v11_2 (k1 (mindexAddr E.P 30 x0 x7) fun v16_3 => (k1 (xload E.P m 50 v16_3) fun v17_4 => (kc (call base 98 [v17_4] m) (fun v18_5 m => (kb v18_5 (k1 (mindexAddr E.P 30 x0 x7) fun v22_6 => (k1 (xload E.P m 50 v22_6) fun v23_7 => (kc (call base 107 [v23_7, x1, x2] m) (fun v26_8 m => (kb v26_8 (kr (.bool true) m) (k1 (mbin E .add 3 x7 (.int .i64 1)) fun v13_9 => (ih x0 x1 x2 v13_9 m)))) (fun v m => kp v m)))) (k1 (mbin E .add 3 x7 (.int .i64 1)) fun v13_10 => (ih x0 x1 x2 v13_10 m)))) (fun v m => kp v m)))) (kx0 m))))) n
noncomputable def r97 (call : CallF) (fuel base : Nat) (x0 : Value) (x1 : Value) (x2 : Value) (m : M) : Res2 :=
  (r97_L0 call fuel base (fun v m => some (.pan v, m)) (fun y6_11 m => (fVal y6_11 fun v => some (.ret v, m))) (fun m => (fVal (.bool false) fun v => some (.ret v, m))) fuel x0 x1 x2 (.int .i64 0) m)
def keep97 : Keep := { region := fun i => ([[0, 1, 2], [0, 1, 2, 7], [0, 1, 2, 7, 11], [0, 1, 2, 7], [0, 1, 2, 7, 27], [6], [6]] : List (List Nat))[i]?, exit := fun i => ([[], [0, 1, 2, 7]] : List (List Nat))[i]?, ret := some [6] }
noncomputable def r97_L0_R (call : CallF) (fuel base n : Nat) (vs : List Value) (m : M) (K : KT) : Res2 := match vs with
  | [x0, x1, x2, x7] => r97_L0 call fuel base (fun v m => K (.pan v) { n := 28, l := [] } m) (fun y6 m => K .ret { n := 28, l := [(6, y6)] } m) (fun m => K (.exit 0) { n := 28, l := [] } m) n x0 x1 x2 x7 m
  | _ => none
noncomputable def lp97 (call : CallF) (fuel base : Nat) : Lp := lpsel [(0, fun T m K => kslots 28 [0, 1, 2, 7] T fun vs => r97_L0_R call fuel base fuel vs m K)]
noncomputable def c97 : Code := Tryd.f97.body.getD .skip
theorem r97_L0_lk (call : CallF) (fuel base : Nat) : LoopsOk E call (lp97 call fuel base) fuel base 0 (loopB (blockB (seqR (seqL (seqR c97))))) = (And (And True (And True True)) (And (And True (And (And True True) True)) True)) := by kernel_rfl
theorem r97_L0_ok (call : CallF) (fuel base : Nat) : LpOk E call (lp97 call fuel base) fuel base 0 (loopB (blockB (seqR (seqL (seqR c97))))) := by
  refine loop_ok (kp := keep97) (hb := Eq.mpr (r97_L0_lk call fuel base) (And.intro (And.intro trivial (And.intro trivial trivial)) (And.intro (And.intro trivial (And.intro (And.intro trivial trivial) trivial)) trivial))) 28 [0, 1, 2, 7] (fun n vs m K => r97_L0_R call fuel base n vs m K) ?_ ?_ (fun _ _ _ => rfl)
  · intro vs m K
    unfold r97_L0_R
    split <;> rfl
  · intro n vs m K hl
    match vs, hl with
    | [x0, x1, x2, x7], _ => show _ = _; kernel_rfl
theorem r97_eq (call : CallF) (fuel base : Nat) (x0 : Value) (x1 : Value) (x2 : Value) (m : M) : kbody E call keep97 (lp97 call fuel base) base Tryd.f97 [x0, x1, x2] m = r97 call fuel base x0 x1 x2 m := by
  kernel_rfl
noncomputable def rf97 : RF := fun call fuel base args m => match args with
  | [x0, x1, x2] => r97 call fuel base x0 x1 x2 m
  | _ => none
theorem r97_lk (call : CallF) (fuel base : Nat) : LoopsOk E call (lp97 call fuel base) fuel base 0 c97 = (And True (And (And True (LpOk E call (lp97 call fuel base) fuel base 0 (loopB (blockB (seqR (seqL (seqR c97))))))) (And True True))) := by kernel_rfl
theorem r97_fn : E.P.funcs[97]? = some Tryd.f97 := by kernel_rfl
theorem r97_body : Tryd.f97.body = some c97 := by kernel_rfl
theorem rf97_ok : RFok E 97 rf97 := by
  refine ⟨Tryd.f97, r97_fn, fun call fuel base args m r _ h => ?_⟩
  unfold rf97 at h
  split at h
  · rw [← r97_eq] at h
    exact kbody_sound (c := c97) r97_body (Eq.mpr (r97_lk call fuel base) (And.intro trivial (And.intro (And.intro trivial (r97_L0_ok call fuel base)) (And.intro trivial trivial)))) h
  · simp at h
end Go.AM
namespace Go.AM
open Go Go.Proofs
noncomputable def r98 (call : CallF) (fuel base : Nat) (x0 : Value) (m : M) : Res2 :=
  (k2 (xbox m x0) fun v1_1 m => (k1 (xload E.P m 50 v1_1) fun v3_2 => (kc (call base 35 [v3_2] m) (fun v4_3 m => (k1 (mbin E .eql 3 v4_3 (.int .i64 4)) fun v6_4 => (kb v6_4 (k1 (mfieldAddr E.P 50 v1_1 4) fun v7_5 => (k1 (xload E.P m 3 v7_5) fun v8_6 => (k1 (mbin E .eql 3 v8_6 (.int .i64 0)) fun v9_7 => (fVal v9_7 fun v => some (.ret v, m))))) (k1 (mbin E .eql 3 v4_3 (.int .i64 5)) fun v11_8 => (kb v11_8 (k1 (mfieldAddr E.P 50 v1_1 5) fun v12_9 => (k1 (xload E.P m 3 v12_9) fun v13_10 => (k1 (mbin E .eql 3 v13_10 (.int .i64 0)) fun v14_11 => (fVal v14_11 fun v => some (.ret v, m))))) (k1 (mbin E .eql 3 v4_3 (.int .i64 6)) fun v16_12 => (kb v16_12 (k1 (mfieldAddr E.P 50 v1_1 4) fun v17_13 => (k1 (xload E.P m 3 v17_13) fun v18_14 => (k1 (mfieldAddr E.P 50 v1_1 5) fun v19_15 => (k1 (xload E.P m 3 v19_15) fun v20_16 => (k1 (mbin E .add 3 v18_14 v20_16) fun v21_17 => (k1 (mbin E .eql 3 v21_17 (.int .i64 0)) fun v22_18 => (fVal v22_18 fun v => some (.ret v, m)))))))) (k1 (mbin E .eql 3 v4_3 (.int .i64 7)) fun v24_19 => (kb v24_19 (k1 (mfieldAddr E.P 50 v1_1 4) fun v25_20 => (k1 (xload E.P m 3 v25_20) fun v26_21 => (k1 (mfieldAddr E.P 50 v1_1 5) fun v27_22 => (k1 (xload E.P m 3 v27_22) fun v28_23 => (k1 (mbin E .eql 3 v26_21 v28_23) fun v29_24 => (fVal v29_24 fun v => some (.ret v, m))))))) (fVal (.bool false) fun v => some (.ret v, m))))))))))) (fun v m => some (.pan v, m)))))
def keep98 : Keep := { region := fun i => ([[1], [1, 4], [1, 4, 5], [2], [1, 4, 10], [2], [1, 4, 15], [2], [1, 23], [2], [2]] : List (List Nat))[i]?, exit := fun i => ([[]] : List (List Nat))[i]?, ret := some [2] }
noncomputable def lp98 (call : CallF) (fuel base : Nat) : Lp := lpsel []
noncomputable def c98 : Code := Tryd.f98.body.getD .skip
theorem r98_eq (call : CallF) (fuel base : Nat) (x0 : Value) (m : M) : kbody E call keep98 (lp98 call fuel base) base Tryd.f98 [x0] m = r98 call fuel base x0 m := by
  kernel_rfl
noncomputable def rf98 : RF := fun call fuel base args m => match args with
  | [x0] => r98 call fuel base x0 m
  | _ => none
theorem r98_lk (call : CallF) (fuel base : Nat) : LoopsOk E call (lp98 call fuel base) fuel base 0 c98 = (And True (And (And True (And True (And (And True True) (And True (And (And True True) (And True (And (And True True) (And True (And (And True True) True))))))))) (And True True))) := by kernel_rfl
theorem r98_fn : E.P.funcs[98]? = some Tryd.f98 := by kernel_rfl
theorem r98_body : Tryd.f98.body = some c98 := by kernel_rfl
theorem rf98_ok : RFok E 98 rf98 := by
  refine ⟨Tryd.f98, r98_fn, fun call fuel base args m r _ h => ?_⟩
  unfold rf98 at h
  split at h
  · rw [← r98_eq] at h
    exact kbody_sound (c := c98) r98_body (Eq.mpr (r98_lk call fuel base) (And.intro trivial (And.intro (And.intro trivial (And.intro trivial (And.intro (And.intro trivial trivial) (And.intro trivial (And.intro (And.intro trivial trivial) (And.intro trivial (And.intro (And.intro trivial trivial) (And.intro trivial (And.intro (And.intro trivial trivial) trivial))))))))) (And.intro trivial trivial)))) h
  · simp at h
end Go.AM
namespace Go.AM
open Go Go.Proofs
noncomputable def r99 (call : CallF) (fuel base : Nat) (x0 : Value) (m : M) : Res2 :=
  (k2 (xbox m x0) fun v1_1 m => (k1 (xload E.P m 50 v1_1) fun v3_2 => (kc (call base 35 [v3_2] m) (fun v4_3 m => (k1 (mbin E .geq 3 v4_3 (.int .i64 4)) fun v5_4 => (fVal v5_4 fun v => some (.ret v, m)))) (fun v m => some (.pan v, m)))))
def keep99 : Keep := { region := fun i => ([[1], [2]] : List (List Nat))[i]?, exit := fun i => ([] : List (List Nat))[i]?, ret := some [2] }
noncomputable def lp99 (call : CallF) (fuel base : Nat) : Lp := lpsel []
noncomputable def c99 : Code := Tryd.f99.body.getD .skip
theorem r99_eq (call : CallF) (fuel base : Nat) (x0 : Value) (m : M) : kbody E call keep99 (lp99 call fuel base) base Tryd.f99 [x0] m = r99 call fuel base x0 m := by
  kernel_rfl
noncomputable def rf99 : RF := fun call fuel base args m => match args with
  | [x0] => r99 call fuel base x0 m
  | _ => none
theorem r99_lk (call : CallF) (fuel base : Nat) : LoopsOk E call (lp99 call fuel base) fuel base 0 c99 = (And True (And True True)) := by kernel_rfl
theorem r99_fn : E.P.funcs[99]? = some Tryd.f99 := by kernel_rfl
theorem r99_body : Tryd.f99.body = some c99 := by kernel_rfl
theorem rf99_ok : RFok E 99 rf99 := by
  refine ⟨Tryd.f99, r99_fn, fun call fuel base args m r _ h => ?_⟩
  unfold rf99 at h
  split at h
  · rw [← r99_eq] at h
    exact kbody_sound (c := c99) r99_body (Eq.mpr (r99_lk call fuel base) (And.intro trivial (And.intro trivial trivial))) h
  · simp at h
end Go.AM
namespace Go.AM
open Go Go.Proofs
noncomputable def r100 (call : CallF) (fuel base : Nat) (x0 : Value) (x1 : Value) (m : M) : Res2 :=
  (k2 (xbox m x0) fun v2_1 m => (k2 (xbox m x1) fun v3_2 m => (k2 (xalloc E.P m 103) fun v4_3 m => (k1 (mfieldAddr E.P 103 v3_2 0) fun v7_4 => (k1 (xload E.P m 3 v7_4) fun v8_5 => (k1 (mfieldAddr E.P 70 v2_1 0) fun v9_6 => (k1 (mfieldAddr E.P 26 v9_6 0) fun v10_7 => (k1 (xload E.P m 3 v10_7) fun v11_8 => (kc (call base 101 [v8_5, v11_8] m) (fun v12_9 m => (k1 (mfieldAddr E.P 103 v3_2 0) fun v13_10 => (k1 (xload E.P m 3 v13_10) fun v14_11 => (k1 (mbin E .sub 3 v14_11 v12_9) fun v16_12 => (k1 (mfieldAddr E.P 70 v2_1 0) fun v17_13 => (k1 (mfieldAddr E.P 26 v17_13 0) fun v18_14 => (k1 (xload E.P m 3 v18_14) fun v19_15 => (k1 (mbin E .quo 3 v16_12 v19_15) fun v20_16 => (k1 (mfieldAddr E.P 103 v3_2 1) fun v22_17 => (k1 (xload E.P m 3 v22_17) fun v23_18 => (k1 (mfieldAddr E.P 70 v2_1 0) fun v25_19 => (k1 (mfieldAddr E.P 26 v25_19 1) fun v26_20 => (k1 (xload E.P m 3 v26_20) fun v27_21 => (k1 (mbin E .mul 3 v20_16 v27_21) fun v28_22 => (k1 (mbin E .sub 3 v23_18 v28_22) fun v29_23 => (k1 (mfieldAddr E.P 70 v2_1 0) fun v30_24 => (k1 (mfieldAddr E.P 26 v30_24 2) fun v31_25 => (k1 (xload E.P m 3 v31_25) fun v32_26 => (kc (call base 101 [v29_23, v32_26] m) (fun v33_27 m => (k1 (mbuild E.P 103 [(0, v12_9), (1, v33_27)]) fun v34_28 => (ks (xstore E.P base m 103 v4_3 v34_28) fun m => (k0 (mload E.P m 103 v4_3) fun r_29 => (fVal r_29 fun v => some (.ret v, m)))))) (fun v m => some (.pan v, m))))))))))))))))))))) (fun v m => some (.pan v, m)))))))))))
def keep100 : Keep := { region := fun i => ([[2, 3, 4], [2, 3, 4, 5], [2, 3, 4, 5, 6], [4]] : List (List Nat))[i]?, exit := fun i => ([] : List (List Nat))[i]?, ret := some [4] }
noncomputable def lp100 (call : CallF) (fuel base : Nat) : Lp := lpsel []
noncomputable def c100 : Code := Tryd.f100.body.getD .skip
theorem r100_eq (call : CallF) (fuel base : Nat) (x0 : Value) (x1 : Value) (m : M) : kbody E call keep100 (lp100 call fuel base) base Tryd.f100 [x0, x1] m = r100 call fuel base x0 x1 m := by
  kernel_rfl
noncomputable def rf100 : RF := fun call fuel base args m => match args with
  | [x0, x1] => r100 call fuel base x0 x1 m
  | _ => none
theorem r100_lk (call : CallF) (fuel base : Nat) : LoopsOk E call (lp100 call fuel base) fuel base 0 c100 = (And True (And True (And True (And True True)))) := by kernel_rfl
theorem r100_fn : E.P.funcs[100]? = some Tryd.f100 := by kernel_rfl
theorem r100_body : Tryd.f100.body = some c100 := by kernel_rfl
theorem rf100_ok : RFok E 100 rf100 := by
  refine ⟨Tryd.f100, r100_fn, fun call fuel base args m r _ h => ?_⟩
  unfold rf100 at h
  split at h
  · rw [← r100_eq] at h
    exact kbody_sound (c := c100) r100_body (Eq.mpr (r100_lk call fuel base) (And.intro trivial (And.intro trivial (And.intro trivial (And.intro trivial trivial))))) h
  · simp at h
end Go.AM
namespace Go.AM
open Go Go.Proofs
noncomputable def r101 (call : CallF) (fuel base : Nat) (x0 : Value) (x1 : Value) (m : M) : Res2 :=
  (k1 (mbin E .rem 3 x0 x1) fun v7_1 => (k1 (mbin E .add 3 v7_1 x1) fun v9_2 => (k1 (mbin E .rem 3 v9_2 x1) fun v11_3 => (fVal v11_3 fun v => some (.ret v, m)))))
def keep101 : Keep := { region := fun i => ([[0, 1], [4]] : List (List Nat))[i]?, exit := fun i => ([] : List (List Nat))[i]?, ret := some [4] }
noncomputable def lp101 (call : CallF) (fuel base : Nat) : Lp := lpsel []
noncomputable def c101 : Code := Tryd.f101.body.getD .skip
theorem r101_eq (call : CallF) (fuel base : Nat) (x0 : Value) (x1 : Value) (m : M) : kbody E call keep101 (lp101 call fuel base) base Tryd.f101 [x0, x1] m = r101 call fuel base x0 x1 m := by
  kernel_rfl
noncomputable def rf101 : RF := fun call fuel base args m => match args with
  | [x0, x1] => r101 call fuel base x0 x1 m
  | _ => none
theorem r101_lk (call : CallF) (fuel base : Nat) : LoopsOk E call (lp101 call fuel base) fuel base 0 c101 = (And True (And True True)) := by kernel_rfl
theorem r101_fn : E.P.funcs[101]? = some Tryd.f101 := by kernel_rfl
theorem r101_body : Tryd.f101.body = some c101 := by kernel_rfl
theorem rf101_ok : RFok E 101 rf101 := by
  refine ⟨Tryd.f101, r101_fn, fun call fuel base args m r _ h => ?_⟩
  unfold rf101 at h
  split at h
  · rw [← r101_eq] at h
    exact kbody_sound (c := c101) r101_body (Eq.mpr (r101_lk call fuel base) (And.intro trivial (And.intro trivial trivial))) h
  · simp at h
end Go.AM
namespace Go.AM
open Go Go.Proofs
noncomputable def r102_L0 (call : CallF) (fuel base : Nat) (kp : Value → M → Res2) (kr : Value → M → Res2) (kx0 : M → Res2) (n : Nat) : Value → Value → Value → Value → M → Res2 :=
  Nat.rec (motive := fun _ => Value → Value → Value → Value → M → Res2) (fun _ _ _ _ _ => none)
    (fun _ ih x0 x1 x7 x8 m =>
      (k1 (mbin E .lss 3 x8 x7) fun v9_2 => (kb v9_2 (k1 (mindexAddr E.P 115 x0 x8) fun v14_3 => (k1 (xload E.P m 103 v14_3) fun v15_4 => (kc (kv call base x1 [v15_4] m) (fun v16_5 m => (kb v16_5 (kr x8 m) (k1 (mbin E .add 3 x8 (.int .i64 1)) fun v18_6 => (ih x0 x1 x7 v18_6 m)))) (fun v m => kp v m)))) (kx0 m)))) n
noncomputable def r102 (call : CallF) (fuel base : Nat) (x0 : Value) (x1 : Value) (m : M) : Res2 :=
  (k2 (vcall E.P base m .len [115] [x0]) fun v7_1 m => (r102_L0 call fuel base (fun v m => some (.pan v, m)) (fun y4_7 m => (fVal y4_7 fun v => some (.ret v, m))) (fun m => (fVal (.int .i64 (-1)) fun v => some (.ret v, m))) fuel x0 x1 v7_1 (.int .i64 0) m))
def keep102 : Keep := { region := fun i => ([[0, 1], [0, 1, 7, 8], [0, 1, 7, 8, 9], [0, 1, 5, 7, 8], [0, 1, 5, 7, 8, 16], [4], [0, 1, 7, 8], [4]] : List (List Nat))[i]?, exit := fun i => ([[], [0, 1, 7, 8]] : List (List Nat))[i]?, ret := some [4] }
noncomputable def r102_L0_R (call : CallF) (fuel base n : Nat) (vs : List Value) (m : M) (K : KT) : Res2 := match vs with
  | [x0, x1, x7, x8] => r102_L0 call fuel base (fun v m => K (.pan v) { n := 19, l := [] } m) (fun y4 m => K .ret { n := 19, l := [(4, y4)] } m) (fun m => K (.exit 0) { n := 19, l := [] } m) n x0 x1 x7 x8 m
  | _ => none
noncomputable def lp102 (call : CallF) (fuel base : Nat) : Lp := lpsel [(0, fun T m K => kslots 19 [0, 1, 7, 8] T fun vs => r102_L0_R call fuel base fuel vs m K)]
noncomputable def c102 : Code := Tryd.f102.body.getD .skip
theorem r102_L0_lk (call : CallF) (fuel base : Nat) : LoopsOk E call (lp102 call fuel base) fuel base 0 (loopB (blockB (seqR (seqL (seqR c102))))) = (And True (And (And True True) (And (And True (And True (And (And True True) True))) True))) := by kernel_rfl
theorem r102_L0_ok (call : CallF) (fuel base : Nat) : LpOk E call (lp102 call fuel base) fuel base 0 (loopB (blockB (seqR (seqL (seqR c102))))) := by
  refine loop_ok (kp := keep102) (hb := Eq.mpr (r102_L0_lk call fuel base) (And.intro trivial (And.intro (And.intro trivial trivial) (And.intro (And.intro trivial (And.intro trivial (And.intro (And.intro trivial trivial) trivial))) trivial)))) 19 [0, 1, 7, 8] (fun n vs m K => r102_L0_R call fuel base n vs m K) ?_ ?_ (fun _ _ _ => rfl)
  · intro vs m K
    unfold r102_L0_R
    split <;> rfl
  · intro n vs m K hl
    match vs, hl with
    | [x0, x1, x7, x8], _ => show _ = _; kernel_rfl
theorem r102_eq (call : CallF) (fuel base : Nat) (x0 : Value) (x1 : Value) (m : M) : kbody E call keep102 (lp102 call fuel base) base Tryd.f102 [x0, x1] m = r102 call fuel base x0 x1 m := by
  kernel_rfl
noncomputable def rf102 : RF := fun call fuel base args m => match args with
  | [x0, x1] => r102 call fuel base x0 x1 m
  | _ => none
theorem r102_lk (call : CallF) (fuel base : Nat) : LoopsOk E call (lp102 call fuel base) fuel base 0 c102 = (And True (And (And True (LpOk E call (lp102 call fuel base) fuel base 0 (loopB (blockB (seqR (seqL (seqR c102))))))) (And True True))) := by kernel_rfl
theorem r102_fn : E.P.funcs[102]? = some Tryd.f102 := by kernel_rfl
theorem r102_body : Tryd.f102.body = some c102 := by kernel_rfl
theorem rf102_ok : RFok E 102 rf102 := by
  refine ⟨Tryd.f102, r102_fn, fun call fuel base args m r _ h => ?_⟩
  unfold rf102 at h
  split at h
  · rw [← r102_eq] at h
    exact kbody_sound (c := c102) r102_body (Eq.mpr (r102_lk call fuel base) (And.intro trivial (And.intro (And.intro trivial (r102_L0_ok call fuel base)) (And.intro trivial trivial)))) h
  · simp at h
end Go.AM
namespace Go.AM
open Go Go.Proofs
noncomputable def r103 (call : CallF) (fuel base : Nat) (x0 : Value) (x1 : Value) (m : M) : Res2 :=
  (kc (call base 108 [x0, x1] m) (fun v7_1 m => (k1 (mbin E .geq 3 v7_1 (.int .i64 0)) fun v8_2 => (fVal v8_2 fun v => some (.ret v, m)))) (fun v m => some (.pan v, m)))
def keep103 : Keep := { region := fun i => ([[0, 1], [4]] : List (List Nat))[i]?, exit := fun i => ([] : List (List Nat))[i]?, ret := some [4] }
noncomputable def lp103 (call : CallF) (fuel base : Nat) : Lp := lpsel []
noncomputable def c103 : Code := Tryd.f103.body.getD .skip
theorem r103_eq (call : CallF) (fuel base : Nat) (x0 : Value) (x1 : Value) (m : M) : kbody E call keep103 (lp103 call fuel base) base Tryd.f103 [x0, x1] m = r103 call fuel base x0 x1 m := by
  kernel_rfl
noncomputable def rf103 : RF := fun call fuel base args m => match args with
  | [x0, x1] => r103 call fuel base x0 x1 m
  | _ => none
theorem r103_lk (call : CallF) (fuel base : Nat) : LoopsOk E call (lp103 call fuel base) fuel base 0 c103 = (And True (And True True)) := by kernel_rfl
theorem r103_fn : E.P.funcs[103]? = some Tryd.f103 := by kernel_rfl
theorem r103_body : Tryd.f103.body = some c103 := by kernel_rfl
theorem rf103_ok : RFok E 103 rf103 := by
  refine ⟨Tryd.f103, r103_fn, fun call fuel base args m r _ h => ?_⟩
  unfold rf103 at h
  split at h
  · rw [← r103_eq] at h
    exact kbody_sound (c := c103) r103_body (Eq.mpr (r103_lk call fuel base) (And.intro trivial (And.intro trivial trivial))) h
  · simp at h
end Go.AM
namespace Go.AM
open Go Go.Proofs
noncomputable def r104 (call : CallF) (fuel base : Nat) (x0 : Value) (x1 : Value) (x2 : Value) (m : M) : Res2 :=
  (k1 (xload E.P m 70 x1) fun v5_1 => (k1 (xload E.P m 103 x2) fun v7_2 => (kc (call base 105 [v5_1, x0, v7_2] m) (fun v8_3 m => (fVal v8_3 fun v => some (.ret v, m))) (fun v m => some (.pan v, m)))))
def keep104 : Keep := { region := fun i => ([[0, 1, 2], [4]] : List (List Nat))[i]?, exit := fun i => ([] : List (List Nat))[i]?, ret := some [4] }
noncomputable def lp104 (call : CallF) (fuel base : Nat) : Lp := lpsel []
noncomputable def c104 : Code := Tryd.f104.body.getD .skip
theorem r104_eq (call : CallF) (fuel base : Nat) (x0 : Value) (x1 : Value) (x2 : Value) (m : M) : kbody E call keep104 (lp104 call fuel base) base Tryd.f104 [x0, x1, x2] m = r104 call fuel base x0 x1 x2 m := by
  kernel_rfl
noncomputable def rf104 : RF := fun call fuel base args m => match args with
  | [x0, x1, x2] => r104 call fuel base x0 x1 x2 m
  | _ => none
theorem r104_lk (call : CallF) (fuel base : Nat) : LoopsOk E call (lp104 call fuel base) fuel base 0 c104 = (And True (And True True)) := by kernel_rfl
theorem r104_fn : E.P.funcs[104]? = some Tryd.f104 := by kernel_rfl
theorem r104_body : Tryd.f104.body = some c104 := by kernel_rfl
theorem rf104_ok : RFok E 104 rf104 := by
  refine ⟨Tryd.f104, r104_fn, fun call fuel base args m r _ h => ?_⟩
  unfold rf104 at h
  split at h
  · rw [← r104_eq] at h
    exact kbody_sound (c := c104) r104_body (Eq.mpr (r104_lk call fuel base) (And.intro trivial (And.intro trivial trivial))) h
  · simp at h
end Go.AM
namespace Go.AM
open Go Go.Proofs
noncomputable def r105 (call : CallF) (fuel base : Nat) (x0 : Value) (x1 : Value) (x2 : Value) (m : M) : Res2 :=
  (k2 (xbox m x0) fun v3_1 m => (k2 (xbox m x2) fun v5_2 m => (k1 (xload E.P m 103 v5_2) fun v11_3 => (kc (call base 109 [x1, v11_3] m) (fun v12_4 m => (k1 (mextract 0 v12_4) fun v13_5 => (k1 (mextract 1 v12_4) fun v14_6 => (k2 (xalloc E.P m 50) fun v7_7 m => (ks (xstore E.P base m 50 v7_7 v13_5) fun m => (kb v14_6 (k1 (xload E.P m 70 v3_1) fun v17_8 => (k1 (xload E.P m 50 v7_7) fun v18_9 => (kc (call base 110 [v17_8, v18_9] m) (fun v19_10 m => (fVal v19_10 fun v => some (.ret v, m))) (fun v m => some (.pan v, m))))) (fVal (.bool false) fun v => some (.ret v, m)))))))) (fun v m => some (.pan v, m))))))
def keep105 : Keep := { region := fun i => ([[1, 3, 5], [3, 7, 8], [6]] : List (List Nat))[i]?, exit := fun i => ([] : List (List Nat))[i]?, ret := some [6] }
noncomputable def lp105 (call : CallF) (fuel base : Nat) : Lp := lpsel []
noncomputable def c105 : Code := Tryd.f105.body.getD .skip
theorem r105_eq (call : CallF) (fuel base : Nat) (x0 : Value) (x1 : Value) (x2 : Value) (m : M) : kbody E call keep105 (lp105 call fuel base) base Tryd.f105 [x0, x1, x2] m = r105 call fuel base x0 x1 x2 m := by
  kernel_rfl
noncomputable def rf105 : RF := fun call fuel base args m => match args with
  | [x0, x1, x2] => r105 call fuel base x0 x1 x2 m
  | _ => none
theorem r105_lk (call : CallF) (fuel base : Nat) : LoopsOk E call (lp105 call fuel base) fuel base 0 c105 = (And True (And True (And True True))) := by kernel_rfl
theorem r105_fn : E.P.funcs[105]? = some Tryd.f105 := by kernel_rfl
theorem r105_body : Tryd.f105.body = some c105 := by kernel_rfl
theorem rf105_ok : RFok E 105 rf105 := by
  refine ⟨Tryd.f105, r105_fn, fun call fuel base args m r _ h => ?_⟩
  unfold rf105 at h
  split at h
  · rw [← r105_eq] at h
    exact kbody_sound (c := c105) r105_body (Eq.mpr (r105_lk call fuel base) (And.intro trivial (And.intro trivial (And.intro trivial trivial)))) h
  · simp at h
end Go.AM
namespace Go.AM
open Go Go.Proofs
noncomputable def r106 (call : CallF) (fuel base : Nat) (x0 : Value) (x1 : Value) (x2 : Value) (m : M) : Res2 :=
  (k2 (xbox m x0) fun v3_1 m => (k1 (xload E.P m 70 x1) fun v5_2 => (k1 (xload E.P m 3 x2) fun v6_3 => (k1 (xload E.P m 103 v3_1) fun v7_4 => (kc (call base 105 [v5_2, v6_3, v7_4] m) (fun v8_5 m => (fVal v8_5 fun v => some (.ret v, m))) (fun v m => some (.pan v, m)))))))
def keep106 : Keep := { region := fun i => ([[1, 2, 3], [4]] : List (List Nat))[i]?, exit := fun i => ([] : List (List Nat))[i]?, ret := some [4] }
noncomputable def lp106 (call : CallF) (fuel base : Nat) : Lp := lpsel []
noncomputable def c106 : Code := Tryd.f106.body.getD .skip
theorem r106_eq (call : CallF) (fuel base : Nat) (x0 : Value) (x1 : Value) (x2 : Value) (m : M) : kbody E call keep106 (lp106 call fuel base) base Tryd.f106 [x0, x1, x2] m = r106 call fuel base x0 x1 x2 m := by
  kernel_rfl
noncomputable def rf106 : RF := fun call fuel base args m => match args with
  | [x0, x1, x2] => r106 call fuel base x0 x1 x2 m
  | _ => none
theorem r106_lk (call : CallF) (fuel base : Nat) : LoopsOk E call (lp106 call fuel base) fuel base 0 c106 = (And True (And True True)) := by kernel_rfl
theorem r106_fn : E.P.funcs[106]? = some Tryd.f106 := by kernel_rfl
theorem r106_body : Tryd.f106.body = some c106 := by kernel_rfl
theorem rf106_ok : RFok E 106 rf106 := by
  refine ⟨Tryd.f106, r106_fn, fun call fuel base args m r _ h => ?_⟩
  unfold rf106 at h
  split at h
  · rw [← r106_eq] at h
    exact kbody_sound (c := c106) r106_body (Eq.mpr (r106_lk call fuel base) (And.intro trivial (And.intro trivial trivial))) h
  · simp at h
end Go.AM
namespace Go.AM
open Go Go.Proofs
noncomputable def r107 (call : CallF) (fuel base : Nat) (x0 : Value) (x1 : Value) (x2 : Value) (m : M) : Res2 :=
  (k2 (xbox m x0) fun v3_1 m => (k1 (mfieldAddr E.P 50 v3_1 0) fun v7_2 => (k1 (xload E.P m 3 v7_2) fun v8_3 => (k1 (mbin E .mul 3 v8_3 x1) fun v10_4 => (k1 (mfieldAddr E.P 50 v3_1 1) fun v11_5 => (k1 (xload E.P m 3 v11_5) fun v12_6 => (k1 (mbin E .mul 3 v12_6 x2) fun v14_7 => (k1 (mbin E .add 3 v10_4 v14_7) fun v15_8 => (k1 (mfieldAddr E.P 50 v3_1 4) fun v16_9 => (k1 (xload E.P m 3 v16_9) fun v17_10 => (k1 (mbin E .mul 3 (.int .i64 2) v17_10) fun v18_11 => (k1 (mbin E .add 3 v15_8 v18_11) fun v19_12 => (k1 (mbin E .eql 3 v19_12 x1) fun v21_13 => (kb v21_13 (k1 (mfieldAddr E.P 50 v3_1 2) fun v23_14 => (k1 (xload E.P m 3 v23_14) fun v24_15 => (k1 (mbin E .mul 3 v24_15 x1) fun v26_16 => (k1 (mfieldAddr E.P 50 v3_1 3) fun v27_17 => (k1 (xload E.P m 3 v27_17) fun v28_18 => (k1 (mbin E .mul 3 v28_18 x2) fun v30_19 => (k1 (mbin E .add 3 v26_16 v30_19) fun v31_20 => (k1 (mfieldAddr E.P 50 v3_1 5) fun v32_21 => (k1 (xload E.P m 3 v32_21) fun v33_22 => (k1 (mbin E .mul 3 (.int .i64 2) v33_22) fun v34_23 => (k1 (mbin E .add 3 v31_20 v34_23) fun v35_24 => (k1 (mbin E .eql 3 v35_24 x2) fun v37_25 => (fVal v37_25 fun v => some (.ret v, m)))))))))))))) (fVal (.bool false) fun v => some (.ret v, m))))))))))))))))
def keep107 : Keep := { region := fun i => ([[1, 2, 3], [6]] : List (List Nat))[i]?, exit := fun i => ([] : List (List Nat))[i]?, ret := some [6] }
noncomputable def lp107 (call : CallF) (fuel base : Nat) : Lp := lpsel []
noncomputable def c107 : Code := Tryd.f107.body.getD .skip
theorem r107_eq (call : CallF) (fuel base : Nat) (x0 : Value) (x1 : Value) (x2 : Value) (m : M) : kbody E call keep107 (lp107 call fuel base) base Tryd.f107 [x0, x1, x2] m = r107 call fuel base x0 x1 x2 m := by
  kernel_rfl
noncomputable def rf107 : RF := fun call fuel base args m => match args with
  | [x0, x1, x2] => r107 call fuel base x0 x1 x2 m
  | _ => none
theorem r107_lk (call : CallF) (fuel base : Nat) : LoopsOk E call (lp107 call fuel base) fuel base 0 c107 = (And True (And True True)) := by kernel_rfl
theorem r107_fn : E.P.funcs[107]? = some Tryd.f107 := by kernel_rfl
theorem r107_body : Tryd.f107.body = some c107 := by kernel_rfl
theorem rf107_ok : RFok E 107 rf107 := by
  refine ⟨Tryd.f107, r107_fn, fun call fuel base args m r _ h => ?_⟩
  unfold rf107 at h
  split at h
  · rw [← r107_eq] at h
    exact kbody_sound (c := c107) r107_body (Eq.mpr (r107_lk call fuel base) (And.intro trivial (And.intro trivial trivial))) h
  · simp at h
end Go.AM
namespace Go.AM
open Go Go.Proofs
noncomputable def r108_L0 (call : CallF) (fuel base : Nat) (kp : Value → M → Res2) (kr : Value → M → Res2) (kx0 : M → Res2) (n : Nat) : Value → Value → Value → Value → M → Res2 :=
  Nat.rec (motive := fun _ => Value → Value → Value → Value → M → Res2) (fun _ _ _ _ _ => none)
    (fun _ ih x0 x1 x7 x8 m =>
      (k1 (mbin E .lss 3 x8 x7) fun v9_2 => (kb v9_2 (k1 (mindexAddr E.P 37 x0 x8) fun v14_3 => (k1 (xload E.P m 3 v14_3) fun v15_4 => (kc (kv call base x1 [v15_4] m) (fun v16_5 m => (kb v16_5 (kr x8 m) (k1 (mbin E .add 3 x8 (.int .i64 1)) fun v18_6 => (ih x0 x1 x7 v18_6 m)))) (fun v m => kp v m)))) (kx0 m)))) n
noncomputable def r108 (call : CallF) (fuel base : Nat) (x0 : Value) (x1 : Value) (m : M) : Res2 :=
  (k2 (vcall E.P base m .len [37] [x0]) fun v7_1 m => (r108_L0 call fuel base (fun v m => some (.pan v, m)) (fun y4_7 m => (fVal y4_7 fun v => some (.ret v, m))) (fun m => (fVal (.int .i64 (-1)) fun v => some (.ret v, m))) fuel x0 x1 v7_1 (.int .i64 0) m))
def keep108 : Keep := { region := fun i => ([[0, 1], [0, 1, 7, 8], [0, 1, 7, 8, 9], [0, 1, 5, 7, 8], [0, 1, 5, 7, 8, 16], [4], [0, 1, 7, 8], [4]] : List (List Nat))[i]?, exit := fun i => ([[], [0, 1, 7, 8]] : List (List Nat))[i]?, ret := some [4] }
noncomputable def r108_L0_R (call : CallF) (fuel base n : Nat) (vs : List Value) (m : M) (K : KT) : Res2 := match vs with
  | [x0, x1, x7, x8] => r108_L0 call fuel base (fun v m => K (.pan v) { n := 19, l := [] } m) (fun y4 m => K .ret { n := 19, l := [(4, y4)] } m) (fun m => K (.exit 0) { n := 19, l := [] } m) n x0 x1 x7 x8 m
  | _ => none
noncomputable def lp108 (call : CallF) (fuel base : Nat) : Lp := lpsel [(0, fun T m K => kslots 19 [0, 1, 7, 8] T fun vs => r108_L0_R call fuel base fuel vs m K)]
noncomputable def c108 : Code := Tryd.f108.body.getD .skip
theorem r108_L0_lk (call : CallF) (fuel base : Nat) : LoopsOk E call (lp108 call fuel base) fuel base 0 (loopB (blockB (seqR (seqL (seqR c108))))) = (And True (And (And True True) (And (And True (And True (And (And True True) True))) True))) := by kernel_rfl
theorem r108_L0_ok (call : CallF) (fuel base : Nat) : LpOk E call (lp108 call fuel base) fuel base 0 (loopB (blockB (seqR (seqL (seqR c108))))) := by
  refine loop_ok (kp := keep108) (hb := Eq.mpr (r108_L0_lk call fuel base) (And.intro trivial (And.intro (And.intro trivial trivial) (And.intro (And.intro trivial (And.intro trivial (And.intro (And.intro trivial trivial) trivial))) trivial)))) 19 [0, 1, 7, 8] (fun n vs m K => r108_L0_R call fuel base n vs m K) ?_ ?_ (fun _ _ _ => rfl)
  · intro vs m K
    unfold r108_L0_R
    split <;> rfl
  · intro n vs m K hl
    match vs, hl with
    | [x0, x1, x7, x8], _ => show _ = _; kernel_rfl
theorem r108_eq (call : CallF) (fuel base : Nat) (x0 : Value) (x1 : Value) (m : M) : kbody E call keep108 (lp108 call fuel base) base Tryd.f108 [x0, x1] m = r108 call fuel base x0 x1 m := by
  kernel_rfl
noncomputable def rf108 : RF := fun call fuel base args m => match args with
  | [x0, x1] => r108 call fuel base x0 x1 m
  | _ => none
theorem r108_lk (call : CallF) (fuel base : Nat) : LoopsOk E call (lp108 call fuel base) fuel base 0 c108 = (And True (And (And True (LpOk E call (lp108 call fuel base) fuel base 0 (loopB (blockB (seqR (seqL (seqR c108))))))) (And True True))) := by kernel_rfl
theorem r108_fn : E.P.funcs[108]? = some Tryd.f108 := by kernel_rfl
theorem r108_body : Tryd.f108.body = some c108 := by kernel_rfl
theorem rf108_ok : RFok E 108 rf108 := by
  refine ⟨Tryd.f108, r108_fn, fun call fuel base args m r _ h => ?_⟩
  unfold rf108 at h
  split at h
  · rw [← r108_eq] at h
    exact kbody_sound (c := c108) r108_body (Eq.mpr (r108_lk call fuel base) (And.intro trivial (And.intro (And.intro trivial (r108_L0_ok call fuel base)) (And.intro trivial trivial)))) h
  · simp at h
end Go.AM
namespace Go.AM
open Go Go.Proofs
noncomputable def r109 (call : CallF) (fuel base : Nat) (x0 : Value) (x1 : Value) (m : M) : Res2 :=
  (k2 (xbox m x1) fun v3_1 m => (k2 (xalloc E.P m 50) fun v4_2 m => (k1 (mindexAddr E.P 92 (.pointer (some ⟨0, 0, some 0⟩)) x0) fun v10_3 => (k1 (xload E.P m 50 v10_3) fun v11_4 => (k1 (xload E.P m 103 v3_1) fun v12_5 => (kc (kB m (call m.length 79 [v11_4, v12_5] m)) (fun v13_6 m => (k2 (xalloc E.P m 103) fun v6_7 m => (ks (xstore E.P base m 103 v6_7 v13_6) fun m => (k1 (mfieldAddr E.P 103 v3_1 0) fun v14_8 => (k1 (xload E.P m 3 v14_8) fun v15_9 => (k1 (mfieldAddr E.P 103 v6_7 0) fun v16_10 => (k1 (xload E.P m 3 v16_10) fun v17_11 => (k1 (mbin E .sub 3 v15_9 v17_11) fun v18_12 => (k1 (mfieldAddr E.P 103 v3_1 1) fun v19_13 => (k1 (xload E.P m 3 v19_13) fun v20_14 => (k1 (mfieldAddr E.P 103 v6_7 1) fun v21_15 => (k1 (xload E.P m 3 v21_15) fun v22_16 => (k1 (mbin E .sub 3 v20_14 v22_16) fun v23_17 => (k1 (mbin E .quo 3 v18_12 (.int .i64 2)) fun v26_18 => (k1 (mbin E .quo 3 v23_17 (.int .i64 2)) fun v28_19 => (kc (call base 64 [x0, v26_18, v28_19] m) (fun v29_20 m => (k1 (mbin E .rem 3 v18_12 (.int .i64 2)) fun v31_21 => (k1 (mbin E .eql 3 v31_21 (.int .i64 0)) fun v32_22 => (ks (xstore E.P base m 50 v4_2 v29_20) fun m => (k0 (mload E.P m 50 v4_2) fun r_23 => (some (.ret (.tuple #[r_23, v32_22]), m))))))) (fun v m => some (.pan v, m)))))))))))))))))) (fun _ _ => none)))))))
def keep109 : Keep := { region := fun i => ([[0, 3, 4], [0, 3, 4, 6], [0, 4, 7, 8], [4, 5]] : List (List Nat))[i]?, exit := fun i => ([] : List (List Nat))[i]?, ret := some [4, 5] }
noncomputable def lp109 (call : CallF) (fuel base : Nat) : Lp := lpsel []
noncomputable def c109 : Code := Tryd.f109.body.getD .skip
theorem r109_eq (call : CallF) (fuel base : Nat) (x0 : Value) (x1 : Value) (m : M) : kbody E call keep109 (lp109 call fuel base) base Tryd.f109 [x0, x1] m = r109 call fuel base x0 x1 m := by
  kernel_rfl
noncomputable def rf109 : RF := fun call fuel base args m => match args with
  | [x0, x1] => r109 call fuel base x0 x1 m
  | _ => none
theorem r109_lk (call : CallF) (fuel base : Nat) : LoopsOk E call (lp109 call fuel base) fuel base 0 c109 = (And True (And True (And True (And True True)))) := by kernel_rfl
theorem r109_fn : E.P.funcs[109]? = some Tryd.f109 := by kernel_rfl
theorem r109_body : Tryd.f109.body = some c109 := by kernel_rfl
theorem rf109_ok : RFok E 109 rf109 := by
  refine ⟨Tryd.f109, r109_fn, fun call fuel base args m r _ h => ?_⟩
  unfold rf109 at h
  split at h
  · rw [← r109_eq] at h
    exact kbody_sound (c := c109) r109_body (Eq.mpr (r109_lk call fuel base) (And.intro trivial (And.intro trivial (And.intro trivial (And.intro trivial trivial))))) h
  · simp at h
end Go.AM
namespace Go.AM
open Go Go.Proofs
noncomputable def r110 (call : CallF) (fuel base : Nat) (x0 : Value) (x1 : Value) (m : M) : Res2 :=
  (k2 (xbox m x0) fun v2_1 m => (k2 (xbox m x1) fun v3_2 m => (k1 (xload E.P m 70 v2_1) fun v8_3 => (k1 (xload E.P m 50 v3_2) fun v9_4 => (kc (kB m (call m.length 81 [v9_4] m)) (fun v10_5 m => (kc (kB m (call m.length 67 [v8_3, v10_5] m)) (fun v11_6 m => (k1 (mextract 0 v11_6) fun v12_7 => (k1 (mextract 1 v11_6) fun v13_8 => (k2 (xalloc E.P m 50) fun v5_9 m => (ks (xstore E.P base m 50 v5_9 v12_7) fun m => (kb v13_8 (k1 (xload E.P m 70 v2_1) fun v16_10 => (k1 (mfieldAddr E.P 50 v3_2 4) fun v17_11 => (k1 (xload E.P m 3 v17_11) fun v18_12 => (k1 (mfieldAddr E.P 50 v5_9 4) fun v19_13 => (k1 (xload E.P m 3 v19_13) fun v20_14 => (k1 (mbin E .sub 3 v18_12 v20_14) fun v21_15 => (k1 (mfieldAddr E.P 50 v3_2 5) fun v22_16 => (k1 (xload E.P m 3 v22_16) fun v23_17 => (k1 (mfieldAddr E.P 50 v5_9 5) fun v24_18 => (k1 (xload E.P m 3 v24_18) fun v25_19 => (k1 (mbin E .sub 3 v23_17 v25_19) fun v26_20 => (k1 (mbuild E.P 103 [(0, v21_15), (1, v26_20)]) fun v27_21 => (kc (call base 100 [v16_10, v27_21] m) (fun v28_22 m => (k1 (mbuild E.P 103 []) fun v29_23 => (k1 (mbin E .eql 103 v28_22 v29_23) fun v30_24 => (fVal v30_24 fun v => some (.ret v, m))))) (fun v m => some (.pan v, m))))))))))))))) (fVal (.bool false) fun v => some (.ret v, m)))))))) (fun _ _ => none))) (fun _ _ => none))))))
def keep110 : Keep := { region := fun i => ([[2, 3], [2, 3, 5, 6], [4]] : List (List Nat))[i]?, exit := fun i => ([] : List (List Nat))[i]?, ret := some [4] }
noncomputable def lp110 (call : CallF) (fuel base : Nat) : Lp := lpsel []
noncomputable def c110 : Code := Tryd.f110.body.getD .skip
theorem r110_eq (call : CallF) (fuel base : Nat) (x0 : Value) (x1 : Value) (m : M) : kbody E call keep110 (lp110 call fuel base) base Tryd.f110 [x0, x1] m = r110 call fuel base x0 x1 m := by
  kernel_rfl
noncomputable def rf110 : RF := fun call fuel base args m => match args with
  | [x0, x1] => r110 call fuel base x0 x1 m
  | _ => none
theorem r110_lk (call : CallF) (fuel base : Nat) : LoopsOk E call (lp110 call fuel base) fuel base 0 c110 = (And True (And True (And True True))) := by kernel_rfl
theorem r110_fn : E.P.funcs[110]? = some Tryd.f110 := by kernel_rfl
theorem r110_body : Tryd.f110.body = some c110 := by kernel_rfl
theorem rf110_ok : RFok E 110 rf110 := by
  refine ⟨Tryd.f110, r110_fn, fun call fuel base args m r _ h => ?_⟩
  unfold rf110 at h
  split at h
  · rw [← r110_eq] at h
    exact kbody_sound (c := c110) r110_body (Eq.mpr (r110_lk call fuel base) (And.intro trivial (And.intro trivial (And.intro trivial trivial)))) h
  · simp at h
end Go.AM
namespace Go.AM
open Go Go.Proofs
noncomputable def tab : List (Nat × RF) := [(3, rf3), (10, rf10), (11, rf11), (12, rf12), (13, rf13), (14, rf14), (15, rf15), (16, rf16), (17, rf17), (18, rf18), (19, rf19), (27, rf27), (28, rf28), (33, rf33), (35, rf35), (40, rf40), (41, rf41), (42, rf42), (43, rf43), (44, rf44), (45, rf45), (46, rf46), (50, rf50), (58, rf58), (60, rf60), (61, rf61), (62, rf62), (63, rf63), (64, rf64), (65, rf65), (66, rf66), (67, rf67), (68, rf68), (69, rf69), (70, rf70), (71, rf71), (72, rf72), (73, rf73), (74, rf74), (77, rf77), (79, rf79), (81, rf81), (85, rf85), (86, rf86), (87, rf87), (88, rf88), (89, rf89), (90, rf90), (91, rf91), (92, rf92), (93, rf93), (94, rf94), (95, rf95), (96, rf96), (97, rf97), (98, rf98), (99, rf99), (100, rf100), (101, rf101), (102, rf102), (103, rf103), (104, rf104), (105, rf105), (106, rf106), (107, rf107), (108, rf108), (109, rf109), (110, rf110)]
theorem tab_ok : ∀ p ∈ tab, RFok E p.1 p.2 := by
  unfold tab
  simp only [List.mem_cons, forall_eq_or_imp, List.not_mem_nil, false_imp_iff, implies_true, and_true]
  exact ⟨rf3_ok, rf10_ok, rf11_ok, rf12_ok, rf13_ok, rf14_ok, rf15_ok, rf16_ok, rf17_ok, rf18_ok, rf19_ok, rf27_ok, rf28_ok, rf33_ok, rf35_ok, rf40_ok, rf41_ok, rf42_ok, rf43_ok, rf44_ok, rf45_ok, rf46_ok, rf50_ok, rf58_ok, rf60_ok, rf61_ok, rf62_ok, rf63_ok, rf64_ok, rf65_ok, rf66_ok, rf67_ok, rf68_ok, rf69_ok, rf70_ok, rf71_ok, rf72_ok, rf73_ok, rf74_ok, rf77_ok, rf79_ok, rf81_ok, rf85_ok, rf86_ok, rf87_ok, rf88_ok, rf89_ok, rf90_ok, rf91_ok, rf92_ok, rf93_ok, rf94_ok, rf95_ok, rf96_ok, rf97_ok, rf98_ok, rf99_ok, rf100_ok, rf101_ok, rf102_ok, rf103_ok, rf104_ok, rf105_ok, rf106_ok, rf107_ok, rf108_ok, rf109_ok, rf110_ok⟩
noncomputable def rc (n : Nat) : CallF := rcall E.pure tab n
theorem rc_sound (n : Nat) : SoundCall E (rc n) := rcall_sound E_good E_mix _ tab_ok n
end Go.AM
