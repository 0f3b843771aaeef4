import Derived.KernelRfl
import Derived.Laws.BytesArg
import Derived.Laws.StructEq
import Derived.Test.YtcgohiiihhplgaaDoorRows
import Derived.WalkKit
import Derived.Test.YtcgohiiihhplgaaDoorAmB
import Derived.Test.YtcgohiiihhplgaaDoorAmModel
import Derived.Test.YtcgohiiihhplgaaDoorAmOps6
import Derived.Test.YtcgohiiihhplgaaDoorAmCode
import Derived.Test.YtcgohiiihhplgaaDoorAmK2
import Derived.Test.YtcgohiiihhplgaaDoorAmEq
import Derived.Test.YtcgohiiihhplgaaDoorRBase
import Derived.Test.YtcgohiiihhplgaaDoorR6
import Derived.Test.YtcgohiiihhplgaaDoorR41
set_option linter.unusedVariables false
set_option linter.unusedSimpArgs false
set_option linter.unusedSectionVars false
namespace Go.AM
open Go Go.Proofs
noncomputable def r42 (call : CallF) (fuel base : Nat) (x0 : Value) (m : M) : Res2 :=
  (kc (call base 71 [x0] m) (fun v5_1 m => (kc (call base 70 [x0, v5_1] m) (fun v6_2 m => (k1 (mbin E .eql 58 v6_2 (.int .u64 0)) fun v7_3 => (fVal v7_3 fun v => some (.ret v, m)))) (fun v m => some (.pan v, m)))) (fun v m => some (.pan v, m)))
def keep42 : Keep := { region := fun i => ([[0], [2]] : List (List Nat))[i]?, exit := fun i => ([] : List (List Nat))[i]?, ret := some [2] }
noncomputable def lp42 (call : CallF) (fuel base : Nat) : Lp := lpsel []
noncomputable def c42 : Code := Tryd.f42.body.getD .skip
theorem r42_eq (call : CallF) (fuel base : Nat) (x0 : Value) (m : M) : kbody E call keep42 (lp42 call fuel base) base Tryd.f42 [x0] m = r42 call fuel base x0 m := by
  kernel_rfl
noncomputable def rf42 : RF := fun call fuel base args m => match args with
  | [x0] => r42 call fuel base x0 m
  | _ => none
theorem r42_lk (call : CallF) (fuel base : Nat) : LoopsOk E call (lp42 call fuel base) fuel base 0 c42 = (And True (And True True)) := by kernel_rfl
theorem r42_fn : E.P.funcs[42]? = some Tryd.f42 := by kernel_rfl
theorem r42_body : Tryd.f42.body = some c42 := by kernel_rfl
theorem rf42_ok : RFok E 42 rf42 := by
  refine ⟨Tryd.f42, r42_fn, fun call fuel base args m r _ h => ?_⟩
  unfold rf42 at h
  split at h
  · rw [← r42_eq] at h
    exact kbody_sound (c := c42) r42_body (Eq.mpr (r42_lk call fuel base) (And.intro trivial (And.intro trivial trivial))) h
  · simp at h
end Go.AM
namespace Go.AM
open Go Go.Proofs
noncomputable def r47 (call : CallF) (fuel base : Nat) (x0 : Value) (x1 : Value) (x2 : Value) (m : M) : Res2 :=
  (k1 (mbin E .geq 3 x2 (.int .i64 0)) fun v8_1 => (kb v8_1 (k2 (vcall E.P base m .len [22] [x0]) fun v12_2 m => (k1 (mbin E .lss 3 x2 v12_2) fun v13_3 => (kb v13_3 (k1 (mbin E .geq 3 x1 (.int .i64 0)) fun v17_4 => (kb v17_4 (k1 (mindexAddr E.P 22 x0 (.int .i64 0)) fun v22_5 => (k1 (xload E.P m 9 v22_5) fun v23_6 => (k2 (vcall E.P base m .len [9] [v23_6]) fun v24_7 m => (k1 (mbin E .lss 3 x1 v24_7) fun v25_8 => (kb v25_8 (k1 (mindexAddr E.P 22 x0 x2) fun v30_9 => (k1 (xload E.P m 9 v30_9) fun v31_10 => (k1 (mindex E.P 9 v31_10 x1) fun v33_11 => (k1 (mbin E .eql 5 v33_11 (.int .u8 35)) fun v34_12 => (fVal v34_12 fun v => some (.ret v, m)))))) (fVal (.bool false) fun v => some (.ret v, m))))))) (fVal (.bool false) fun v => some (.ret v, m)))) (fVal (.bool false) fun v => some (.ret v, m))))) (fVal (.bool false) fun v => some (.ret v, m))))
def keep47 : Keep := { region := fun i => ([[0, 1, 2], [6]] : List (List Nat))[i]?, exit := fun i => ([] : List (List Nat))[i]?, ret := some [6] }
noncomputable def lp47 (call : CallF) (fuel base : Nat) : Lp := lpsel []
noncomputable def c47 : Code := Tryd.f47.body.getD .skip
theorem r47_eq (call : CallF) (fuel base : Nat) (x0 : Value) (x1 : Value) (x2 : Value) (m : M) : kbody E call keep47 (lp47 call fuel base) base Tryd.f47 [x0, x1, x2] m = r47 call fuel base x0 x1 x2 m := by
  kernel_rfl
noncomputable def rf47 : RF := fun call fuel base args m => match args with
  | [x0, x1, x2] => r47 call fuel base x0 x1 x2 m
  | _ => none
theorem r47_lk (call : CallF) (fuel base : Nat) : LoopsOk E call (lp47 call fuel base) fuel base 0 c47 = (And True (And True True)) := by kernel_rfl
theorem r47_fn : E.P.funcs[47]? = some Tryd.f47 := by kernel_rfl
theorem r47_body : Tryd.f47.body = some c47 := by kernel_rfl
theorem rf47_ok : RFok E 47 rf47 := by
  refine ⟨Tryd.f47, r47_fn, fun call fuel base args m r _ h => ?_⟩
  unfold rf47 at h
  split at h
  · rw [← r47_eq] at h
    exact kbody_sound (c := c47) r47_body (Eq.mpr (r47_lk call fuel base) (And.intro trivial (And.intro trivial trivial))) h
  · simp at h
end Go.AM
namespace Go.AM
open Go Go.Proofs
noncomputable def r48_L0 (call : CallF) (fuel base : Nat) (kx0 : Value → M → Res2) (n : Nat) : Value → Value → Value → Value → M → Res2 :=
  Nat.rec (motive := fun _ => Value → Value → Value → Value → M → Res2) (fun _ _ _ _ _ => none)
    (fun _ ih x0 x5 x6 x7 m =>
      (k2 (vcall E.P base m .len [36] [x6]) fun v35_27 m => (k1 (mbin E .lss 3 x7 v35_27) fun v36_28 => (kb v36_28 (k1 (mindexAddr E.P 36 x6 x7) fun v42_29 => (k1 (mfieldAddr E.P 68 v42_29 0) fun v43_30 => (k1 (xload E.P m 3 v43_30) fun v44_31 => (k1 (mindexAddr E.P 36 x6 x7) fun v47_32 => (k1 (mfieldAddr E.P 68 v47_32 1) fun v48_33 => (k1 (xload E.P m 3 v48_33) fun v49_34 => (kc (kB m (call m.length 47 [x0, v44_31, v49_34] m)) (fun v50_35 m => (kb v50_35 (k1 (mindexAddr E.P 36 x6 x7) fun v54_36 => (k1 (xload E.P m 68 v54_36) fun v55_37 => (k2 (xbuildSlice E.P m 36 1 [(0, v55_37)]) fun v56_38 m => (k2 (vcall E.P base m .append [36, 36] [x5, v56_38]) fun v57_39 m => (k1 (mbin E .add 3 x7 (.int .i64 1)) fun v38_40 => (ih x0 v57_39 x6 v38_40 m)))))) (k1 (mbin E .add 3 x7 (.int .i64 1)) fun v38_41 => (ih x0 x5 x6 v38_41 m)))) (fun _ _ => none)))))))) (kx0 x5 m))))) n
noncomputable def r48 (call : CallF) (fuel base : Nat) (x0 : Value) (x1 : Value) (m : M) : Res2 :=
  (k2 (xbox m x1) fun v3_1 m => (k1 (mfieldAddr E.P 68 v3_1 0) fun v8_2 => (k1 (xload E.P m 3 v8_2) fun v9_3 => (k1 (mfieldAddr E.P 68 v3_1 1) fun v10_4 => (k1 (xload E.P m 3 v10_4) fun v11_5 => (k1 (mbin E .sub 3 v11_5 (.int .i64 1)) fun v12_6 => (k1 (mbuild E.P 68 [(0, v9_3), (1, v12_6)]) fun v13_7 => (k1 (mfieldAddr E.P 68 v3_1 0) fun v14_8 => (k1 (xload E.P m 3 v14_8) fun v15_9 => (k1 (mbin E .sub 3 v15_9 (.int .i64 1)) fun v16_10 => (k1 (mfieldAddr E.P 68 v3_1 1) fun v17_11 => (k1 (xload E.P m 3 v17_11) fun v18_12 => (k1 (mbuild E.P 68 [(0, v16_10), (1, v18_12)]) fun v19_13 => (k1 (mfieldAddr E.P 68 v3_1 0) fun v20_14 => (k1 (xload E.P m 3 v20_14) fun v21_15 => (k1 (mbin E .add 3 v21_15 (.int .i64 1)) fun v22_16 => (k1 (mfieldAddr E.P 68 v3_1 1) fun v23_17 => (k1 (xload E.P m 3 v23_17) fun v24_18 => (k1 (mbuild E.P 68 [(0, v22_16), (1, v24_18)]) fun v25_19 => (k1 (mfieldAddr E.P 68 v3_1 0) fun v26_20 => (k1 (xload E.P m 3 v26_20) fun v27_21 => (k1 (mfieldAddr E.P 68 v3_1 1) fun v28_22 => (k1 (xload E.P m 3 v28_22) fun v29_23 => (k1 (mbin E .add 3 v29_23 (.int .i64 1)) fun v30_24 => (k1 (mbuild E.P 68 [(0, v27_21), (1, v30_24)]) fun v31_25 => (k2 (xbuildSlice E.P m 36 4 [(0, v13_7), (1, v19_13), (2, v25_19), (3, v31_25)]) fun v32_26 m => (r48_L0 call fuel base (fun y5_42 m => (fVal y5_42 fun v => some (.ret v, m))) fuel x0 (.slice none 0 0) v32_26 (.int .i64 0) m)))))))))))))))))))))))))))
def keep48 : Keep := { region := fun i => ([[0, 3], [0, 3, 5], [0, 5, 6], [0, 5, 6, 7], [0, 5, 6, 7, 36], [0, 5, 6, 7], [0, 5, 6, 7, 50], [0, 5, 6, 7], [4]] : List (List Nat))[i]?, exit := fun i => ([[5], [0, 5, 6, 7]] : List (List Nat))[i]?, ret := some [4] }
noncomputable def r48_L0_R (call : CallF) (fuel base n : Nat) (vs : List Value) (m : M) (K : KT) : Res2 := match vs with
  | [x0, x5, x6, x7] => r48_L0 call fuel base (fun y5 m => K (.exit 0) { n := 59, l := [(5, y5)] } m) n x0 x5 x6 x7 m
  | _ => none
noncomputable def lp48 (call : CallF) (fuel base : Nat) : Lp := lpsel [(0, fun T m K => kslots 59 [0, 5, 6, 7] T fun vs => r48_L0_R call fuel base fuel vs m K)]
noncomputable def c48 : Code := Tryd.f48.body.getD .skip
theorem r48_L0_lk (call : CallF) (fuel base : Nat) : LoopsOk E call (lp48 call fuel base) fuel base 0 (loopB (blockB (seqR (seqL (seqR (seqR (seqR c48))))))) = (And (And True (And True True)) (And (And True (And True True)) True)) := by kernel_rfl
theorem r48_L0_ok (call : CallF) (fuel base : Nat) : LpOk E call (lp48 call fuel base) fuel base 0 (loopB (blockB (seqR (seqL (seqR (seqR (seqR c48))))))) := by
  refine loop_ok (kp := keep48) (hb := Eq.mpr (r48_L0_lk call fuel base) (And.intro (And.intro trivial (And.intro trivial trivial)) (And.intro (And.intro trivial (And.intro trivial trivial)) trivial))) 59 [0, 5, 6, 7] (fun n vs m K => r48_L0_R call fuel base n vs m K) ?_ ?_ (fun _ _ _ => rfl)
  · intro vs m K
    unfold r48_L0_R
    split <;> rfl
  · intro n vs m K hl
    match vs, hl with
    | [x0, x5, x6, x7], _ => show _ = _; kernel_rfl
theorem r48_eq (call : CallF) (fuel base : Nat) (x0 : Value) (x1 : Value) (m : M) : kbody E call keep48 (lp48 call fuel base) base Tryd.f48 [x0, x1] m = r48 call fuel base x0 x1 m := by
  kernel_rfl
noncomputable def rf48 : RF := fun call fuel base args m => match args with
  | [x0, x1] => r48 call fuel base x0 x1 m
  | _ => none
theorem r48_lk (call : CallF) (fuel base : Nat) : LoopsOk E call (lp48 call fuel base) fuel base 0 c48 = (And True (And True (And True (And (And True (LpOk E call (lp48 call fuel base) fuel base 0 (loopB (blockB (seqR (seqL (seqR (seqR (seqR c48))))))))) (And True True))))) := by kernel_rfl
theorem r48_fn : E.P.funcs[48]? = some Tryd.f48 := by kernel_rfl
theorem r48_body : Tryd.f48.body = some c48 := by kernel_rfl
theorem rf48_ok : RFok E 48 rf48 := by
  refine ⟨Tryd.f48, r48_fn, fun call fuel base args m r _ h => ?_⟩
  unfold rf48 at h
  split at h
  · rw [← r48_eq] at h
    exact kbody_sound (c := c48) r48_body (Eq.mpr (r48_lk call fuel base) (And.intro trivial (And.intro trivial (And.intro trivial (And.intro (And.intro trivial (r48_L0_ok call fuel base)) (And.intro trivial trivial)))))) h
  · simp at h
end Go.AM
namespace Go.AM
open Go Go.Proofs
noncomputable def r49_L0 (call : CallF) (fuel base : Nat) (kr : Value → M → Res2) (kx0 : M → Res2) (n : Nat) : Value → Value → Value → M → Res2 :=
  Nat.rec (motive := fun _ => Value → Value → Value → M → Res2) (fun _ _ _ _ => none)
    (fun _ ih x0 x3 x5 m =>
      (k2 (vcall E.P base m .len [36] [x0]) fun v8_2 m => (k1 (mbin E .lss 3 x5 v8_2) fun v9_3 => (kb v9_3 (k1 (mindexAddr E.P 36 x0 x5) fun v14_4 => (k1 (xload E.P m 68 v14_4) fun v15_5 => (k1 (xload E.P m 68 x3) fun v16_6 => (k1 (mbin E .eql 68 v15_5 v16_6) fun v17_7 => (kb v17_7 (kr (.bool true) m) (k1 (mbin E .add 3 x5 (.int .i64 1)) fun v11_8 => (ih x0 x3 v11_8 m))))))) (kx0 m))))) n
noncomputable def r49 (call : CallF) (fuel base : Nat) (x0 : Value) (x1 : Value) (m : M) : Res2 :=
  (k2 (xbox m x1) fun v3_1 m => (r49_L0 call fuel base (fun y4_9 m => (fVal y4_9 fun v => some (.ret v, m))) (fun m => (fVal (.bool false) fun v => some (.ret v, m))) fuel x0 v3_1 (.int .i64 0) m))
def keep49 : Keep := { region := fun i => ([[0, 3], [0, 3, 5], [0, 3, 5, 9], [0, 3, 5], [0, 3, 5, 17], [4], [4]] : List (List Nat))[i]?, exit := fun i => ([[], [0, 3, 5]] : List (List Nat))[i]?, ret := some [4] }
noncomputable def r49_L0_R (call : CallF) (fuel base n : Nat) (vs : List Value) (m : M) (K : KT) : Res2 := match vs with
  | [x0, x3, x5] => r49_L0 call fuel base (fun y4 m => K .ret { n := 18, l := [(4, y4)] } m) (fun m => K (.exit 0) { n := 18, l := [] } m) n x0 x3 x5 m
  | _ => none
noncomputable def lp49 (call : CallF) (fuel base : Nat) : Lp := lpsel [(0, fun T m K => kslots 18 [0, 3, 5] T fun vs => r49_L0_R call fuel base fuel vs m K)]
noncomputable def c49 : Code := Tryd.f49.body.getD .skip
theorem r49_L0_lk (call : CallF) (fuel base : Nat) : LoopsOk E call (lp49 call fuel base) fuel base 0 (loopB (blockB (seqR (seqL (seqR c49))))) = (And (And True (And True True)) (And (And True (And (And True True) True)) True)) := by kernel_rfl
theorem r49_L0_ok (call : CallF) (fuel base : Nat) : LpOk E call (lp49 call fuel base) fuel base 0 (loopB (blockB (seqR (seqL (seqR c49))))) := by
  refine loop_ok (kp := keep49) (hb := Eq.mpr (r49_L0_lk call fuel base) (And.intro (And.intro trivial (And.intro trivial trivial)) (And.intro (And.intro trivial (And.intro (And.intro trivial trivial) trivial)) trivial))) 18 [0, 3, 5] (fun n vs m K => r49_L0_R call fuel base n vs m K) ?_ ?_ (fun _ _ _ => rfl)
  · intro vs m K
    unfold r49_L0_R
    split <;> rfl
  · intro n vs m K hl
    match vs, hl with
    | [x0, x3, x5], _ => show _ = _; kernel_rfl
theorem r49_eq (call : CallF) (fuel base : Nat) (x0 : Value) (x1 : Value) (m : M) : kbody E call keep49 (lp49 call fuel base) base Tryd.f49 [x0, x1] m = r49 call fuel base x0 x1 m := by
  kernel_rfl
noncomputable def rf49 : RF := fun call fuel base args m => match args with
  | [x0, x1] => r49 call fuel base x0 x1 m
  | _ => none
theorem r49_lk (call : CallF) (fuel base : Nat) : LoopsOk E call (lp49 call fuel base) fuel base 0 c49 = (And True (And (And True (LpOk E call (lp49 call fuel base) fuel base 0 (loopB (blockB (seqR (seqL (seqR c49))))))) (And True True))) := by kernel_rfl
theorem r49_fn : E.P.funcs[49]? = some Tryd.f49 := by kernel_rfl
theorem r49_body : Tryd.f49.body = some c49 := by kernel_rfl
theorem rf49_ok : RFok E 49 rf49 := by
  refine ⟨Tryd.f49, r49_fn, fun call fuel base args m r _ h => ?_⟩
  unfold rf49 at h
  split at h
  · rw [← r49_eq] at h
    exact kbody_sound (c := c49) r49_body (Eq.mpr (r49_lk call fuel base) (And.intro trivial (And.intro (And.intro trivial (r49_L0_ok call fuel base)) (And.intro trivial trivial)))) h
  · simp at h
end Go.AM
namespace Go.AM
open Go Go.Proofs
noncomputable def r50_L2 (call : CallF) (fuel base : Nat) (kp : Value → M → Res2) (kx2 : Value → Value → Value → Value → M → Res2) (n : Nat) : Value → Value → Value → Value → Value → Value → Value → M → Res2 :=
  Nat.rec (motive := fun _ => Value → Value → Value → Value → Value → Value → Value → M → Res2) (fun _ _ _ _ _ _ _ _ => none)
    (fun _ ih x0 x3 x4 x5 x19 x20 x21 m =>
      (k1 (mbin E .lss 3 x21 x20) fun v22_10 => (kb v22_10 (k1 (mindexAddr E.P 86 x19 x21) fun v23_11 => (k1 (xload E.P m 58 v23_11) fun v24_12 => (kc (call base 76 [v24_12] m) (fun v27_13 m => (k1 (mindexAddr E.P 98 x3 v27_13) fun v28_14 => (k1 (xload E.P m 58 v28_14) fun v29_15 => (k1 (mbin E .or 58 x5 v29_15) fun v30_16 => (k1 (mbin E .add 3 x21 (.int .i64 1)) fun v31_17 => (ih x0 x3 x4 v30_16 x19 x20 v31_17 m)))))) (fun v m => kp v m)))) (kx2 x0 x3 x4 x5 m)))) n
noncomputable def r50_L0 (call : CallF) (fuel base : Nat) (kp : Value → M → Res2) (kr : Value → M → Res2) (n : Nat) : Value → Value → Value → M → Res2 :=
  Nat.rec (motive := fun _ => Value → Value → Value → M → Res2) (fun _ _ _ _ => none)
    (fun _ ih x0 x3 x4 m =>
      (kc (call base 60 [x4] m) (fun v16_6 m => (k1 (mbin E .and 58 v16_6 x0) fun v18_7 => (kc (call base 75 [v18_7] m) (fun v19_8 m => (k2 (vcall E.P base m .len [86] [v19_8]) fun v20_9 m => (r50_L2 call fuel base (fun v m => kp v m) (fun y0_18 y3_19 y4_20 y5_21 m => (k1 (mbin E .eql 58 y5_21 y4_20) fun v34_22 => (kb v34_22 (kr y4_20 m) (ih y0_18 y3_19 y5_21 m)))) fuel x0 x3 x4 x4 v19_8 v20_9 (.int .i64 0) m))) (fun v m => kp v m)))) (fun v m => kp v m))) n
noncomputable def r50 (call : CallF) (fuel base : Nat) (x0 : Value) (m : M) : Res2 :=
  (kc (call base 71 [x0] m) (fun v9_1 m => (k2 (xalloc E.P m 98) fun v3_2 m => (ks (xstore E.P base m 98 v3_2 v9_1) fun m => (k1 (xload E.P m 98 v3_2) fun v11_3 => (kc (call base 70 [x0, v11_3] m) (fun v12_4 m => (kc (call base 72 [v12_4] m) (fun v13_5 m => (r50_L0 call fuel base (fun v m => some (.pan v, m)) (fun y2_23 m => (fVal y2_23 fun v => some (.ret v, m))) fuel x0 v3_2 v13_5 m)) (fun v m => some (.pan v, m)))) (fun v m => some (.pan v, m))))))) (fun v m => some (.pan v, m)))
def keep50 : Keep := { region := fun i => ([[0], [0, 3], [0, 3, 4], [0, 3, 4, 5], [0, 3, 4, 5, 19, 20, 21], [0, 3, 4, 5, 19, 20, 21, 22], [0, 3, 4, 5, 7, 19, 20, 21], [0, 3, 4, 5, 19, 20, 21], [0, 3, 4, 5, 19, 20, 21], [0, 3, 4, 5, 34], [2], [0, 3, 4]] : List (List Nat))[i]?, exit := fun i => ([[2], [0, 3, 4], [0, 3, 4, 5], [0, 3, 4, 5, 19, 20, 21]] : List (List Nat))[i]?, ret := some [2] }
noncomputable def r50_L2_R (call : CallF) (fuel base n : Nat) (vs : List Value) (m : M) (K : KT) : Res2 := match vs with
  | [x0, x3, x4, x5, x19, x20, x21] => r50_L2 call fuel base (fun v m => K (.pan v) { n := 37, l := [] } m) (fun y0 y3 y4 y5 m => K (.exit 2) { n := 37, l := [(0, y0), (3, y3), (4, y4), (5, y5)] } m) n x0 x3 x4 x5 x19 x20 x21 m
  | _ => none
noncomputable def r50_L0_R (call : CallF) (fuel base n : Nat) (vs : List Value) (m : M) (K : KT) : Res2 := match vs with
  | [x0, x3, x4] => r50_L0 call fuel base (fun v m => K (.pan v) { n := 37, l := [] } m) (fun y2 m => K .ret { n := 37, l := [(2, y2)] } m) n x0 x3 x4 m
  | _ => none
noncomputable def lp50 (call : CallF) (fuel base : Nat) : Lp := lpsel [(2, fun T m K => kslots 37 [0, 3, 4, 5, 19, 20, 21] T fun vs => r50_L2_R call fuel base fuel vs m K), (0, fun T m K => kslots 37 [0, 3, 4] T fun vs => r50_L0_R call fuel base fuel vs m K)]
noncomputable def c50 : Code := Tryd.f50.body.getD .skip
theorem r50_L2_lk (call : CallF) (fuel base : Nat) : LoopsOk E call (lp50 call fuel base) fuel base 2 (loopB (blockB (seqR (seqL (seqR (blockB (loopB (blockB (seqR (seqR (seqR c50))))))))))) = (And True (And (And True True) (And (And True True) True))) := by kernel_rfl
theorem r50_L2_ok (call : CallF) (fuel base : Nat) : LpOk E call (lp50 call fuel base) fuel base 2 (loopB (blockB (seqR (seqL (seqR (blockB (loopB (blockB (seqR (seqR (seqR c50))))))))))) := by
  refine loop_ok (kp := keep50) (hb := Eq.mpr (r50_L2_lk call fuel base) (And.intro trivial (And.intro (And.intro trivial trivial) (And.intro (And.intro trivial trivial) trivial)))) 37 [0, 3, 4, 5, 19, 20, 21] (fun n vs m K => r50_L2_R call fuel base n vs m K) ?_ ?_ (fun _ _ _ => rfl)
  · intro vs m K
    unfold r50_L2_R
    split <;> rfl
  · intro n vs m K hl
    match vs, hl with
    | [x0, x3, x4, x5, x19, x20, x21], _ => show _ = _; kernel_rfl
theorem r50_L0_lk (call : CallF) (fuel base : Nat) : LoopsOk E call (lp50 call fuel base) fuel base 0 (loopB (blockB (seqR (seqR (seqR c50))))) = (And True (And (And True (LpOk E call (lp50 call fuel base) fuel base 2 (loopB (blockB (seqR (seqL (seqR (blockB (loopB (blockB (seqR (seqR (seqR c50))))))))))))) (And (And True (And (And True True) True)) True))) := by kernel_rfl
theorem r50_L0_ok (call : CallF) (fuel base : Nat) : LpOk E call (lp50 call fuel base) fuel base 0 (loopB (blockB (seqR (seqR (seqR c50))))) := by
  refine loop_ok (kp := keep50) (hb := Eq.mpr (r50_L0_lk call fuel base) (And.intro trivial (And.intro (And.intro trivial (r50_L2_ok call fuel base)) (And.intro (And.intro trivial (And.intro (And.intro trivial trivial) trivial)) trivial)))) 37 [0, 3, 4] (fun n vs m K => r50_L0_R call fuel base n vs m K) ?_ ?_ (fun _ _ _ => rfl)
  · intro vs m K
    unfold r50_L0_R
    split <;> rfl
  · intro n vs m K hl
    match vs, hl with
    | [x0, x3, x4], _ => show _ = _; kernel_rfl
theorem r50_eq (call : CallF) (fuel base : Nat) (x0 : Value) (m : M) : kbody E call keep50 (lp50 call fuel base) base Tryd.f50 [x0] m = r50 call fuel base x0 m := by
  kernel_rfl
noncomputable def rf50 : RF := fun call fuel base args m => match args with
  | [x0] => r50 call fuel base x0 m
  | _ => none
theorem r50_lk (call : CallF) (fuel base : Nat) : LoopsOk E call (lp50 call fuel base) fuel base 0 c50 = (And True (And True (And True (LpOk E call (lp50 call fuel base) fuel base 0 (loopB (blockB (seqR (seqR (seqR c50))))))))) := by kernel_rfl
theorem r50_fn : E.P.funcs[50]? = some Tryd.f50 := by kernel_rfl
theorem r50_body : Tryd.f50.body = some c50 := by kernel_rfl
theorem rf50_ok : RFok E 50 rf50 := by
  refine ⟨Tryd.f50, r50_fn, fun call fuel base args m r _ h => ?_⟩
  unfold rf50 at h
  split at h
  · rw [← r50_eq] at h
    exact kbody_sound (c := c50) r50_body (Eq.mpr (r50_lk call fuel base) (And.intro trivial (And.intro trivial (And.intro trivial (r50_L0_ok call fuel base))))) h
  · simp at h
end Go.AM
namespace Go.AM
open Go Go.Proofs
noncomputable def r51_L0 (call : CallF) (fuel base : Nat) (kp : Value → M → Res2) (kx0 : Value → M → Res2) (n : Nat) : Value → Value → Value → Value → M → Res2 :=
  Nat.rec (motive := fun _ => Value → Value → Value → Value → M → Res2) (fun _ _ _ _ _ => none)
    (fun _ ih x3 x7 x8 x9 m =>
      (k1 (mbin E .lss 3 x9 x8) fun v10_3 => (kb v10_3 (k1 (mindexAddr E.P 86 x7 x9) fun v11_4 => (k1 (xload E.P m 58 v11_4) fun v12_5 => (kc (call base 73 [v12_5] m) (fun v15_6 m => (k2 (xbuildSlice E.P m 36 1 [(0, v15_6)]) fun v16_7 m => (k2 (vcall E.P base m .append [36, 36] [x3, v16_7]) fun v17_8 m => (k1 (mbin E .add 3 x9 (.int .i64 1)) fun v18_9 => (ih v17_8 x7 x8 v18_9 m))))) (fun v m => kp v m)))) (kx0 x3 m)))) n
noncomputable def r51 (call : CallF) (fuel base : Nat) (x0 : Value) (m : M) : Res2 :=
  (kc (call base 75 [x0] m) (fun v7_1 m => (k2 (vcall E.P base m .len [86] [v7_1]) fun v8_2 m => (r51_L0 call fuel base (fun v m => some (.pan v, m)) (fun y3_10 m => (fVal y3_10 fun v => some (.ret v, m))) fuel (.slice none 0 0) v7_1 v8_2 (.int .i64 0) m))) (fun v m => some (.pan v, m)))
def keep51 : Keep := { region := fun i => ([[0], [0, 3], [3, 7, 8, 9], [3, 7, 8, 9, 10], [3, 5, 7, 8, 9], [3, 7, 8, 9], [3, 7, 8, 9], [2]] : List (List Nat))[i]?, exit := fun i => ([[3], [3, 7, 8, 9]] : List (List Nat))[i]?, ret := some [2] }
noncomputable def r51_L0_R (call : CallF) (fuel base n : Nat) (vs : List Value) (m : M) (K : KT) : Res2 := match vs with
  | [x3, x7, x8, x9] => r51_L0 call fuel base (fun v m => K (.pan v) { n := 20, l := [] } m) (fun y3 m => K (.exit 0) { n := 20, l := [(3, y3)] } m) n x3 x7 x8 x9 m
  | _ => none
noncomputable def lp51 (call : CallF) (fuel base : Nat) : Lp := lpsel [(0, fun T m K => kslots 20 [3, 7, 8, 9] T fun vs => r51_L0_R call fuel base fuel vs m K)]
noncomputable def c51 : Code := Tryd.f51.body.getD .skip
theorem r51_L0_lk (call : CallF) (fuel base : Nat) : LoopsOk E call (lp51 call fuel base) fuel base 0 (loopB (blockB (seqR (seqL (seqR (seqR c51)))))) = (And True (And (And True True) (And (And True True) True))) := by kernel_rfl
theorem r51_L0_ok (call : CallF) (fuel base : Nat) : LpOk E call (lp51 call fuel base) fuel base 0 (loopB (blockB (seqR (seqL (seqR (seqR c51)))))) := by
  refine loop_ok (kp := keep51) (hb := Eq.mpr (r51_L0_lk call fuel base) (And.intro trivial (And.intro (And.intro trivial trivial) (And.intro (And.intro trivial trivial) trivial)))) 20 [3, 7, 8, 9] (fun n vs m K => r51_L0_R call fuel base n vs m K) ?_ ?_ (fun _ _ _ => rfl)
  · intro vs m K
    unfold r51_L0_R
    split <;> rfl
  · intro n vs m K hl
    match vs, hl with
    | [x3, x7, x8, x9], _ => show _ = _; kernel_rfl
theorem r51_eq (call : CallF) (fuel base : Nat) (x0 : Value) (m : M) : kbody E call keep51 (lp51 call fuel base) base Tryd.f51 [x0] m = r51 call fuel base x0 m := by
  kernel_rfl
noncomputable def rf51 : RF := fun call fuel base args m => match args with
  | [x0] => r51 call fuel base x0 m
  | _ => none
theorem r51_lk (call : CallF) (fuel base : Nat) : LoopsOk E call (lp51 call fuel base) fuel base 0 c51 = (And True (And True (And (And True (LpOk E call (lp51 call fuel base) fuel base 0 (loopB (blockB (seqR (seqL (seqR (seqR c51)))))))) (And True True)))) := by kernel_rfl
theorem r51_fn : E.P.funcs[51]? = some Tryd.f51 := by kernel_rfl
theorem r51_body : Tryd.f51.body = some c51 := by kernel_rfl
theorem rf51_ok : RFok E 51 rf51 := by
  refine ⟨Tryd.f51, r51_fn, fun call fuel base args m r _ h => ?_⟩
  unfold rf51 at h
  split at h
  · rw [← r51_eq] at h
    exact kbody_sound (c := c51) r51_body (Eq.mpr (r51_lk call fuel base) (And.intro trivial (And.intro trivial (And.intro (And.intro trivial (r51_L0_ok call fuel base)) (And.intro trivial trivial))))) h
  · simp at h
end Go.AM
namespace Go.AM
open Go Go.Proofs
noncomputable def r53_L2 (call : CallF) (fuel base : Nat) (kx2 : Value → Value → Value → Value → Value → M → Res2) (n : Nat) : Value → Value → Value → Value → Value → Value → Value → Value → Value → Value → M → Res2 :=
  Nat.rec (motive := fun _ => Value → Value → Value → Value → Value → Value → Value → Value → Value → Value → M → Res2) (fun _ _ _ _ _ _ _ _ _ _ _ => none)
    (fun _ ih x4 x5 x6 x7 x24 x25 x26 x37 x38 x39 m =>
      (k1 (mbin E .lss 3 x39 x38) fun v40_18 => (kb v40_18 (k1 (mindexAddr E.P 86 x37 x39) fun v42_19 => (k1 (xload E.P m 58 v42_19) fun v43_20 => (k1 (mindexAddr E.P 105 x5 x6) fun v46_21 => (k1 (xload E.P m 78 v46_21) fun v47_22 => (kc (kB m (call m.length 77 [x7, v43_20] m)) (fun v51_23 m => (k1 (mindexAddr E.P 78 v47_22 x39) fun v52_24 => (ks (xstore E.P base m 3 v52_24 v51_23) fun m => (k1 (mbin E .add 3 x39 (.int .i64 1)) fun v53_25 => (ih x4 x5 x6 x7 x24 x25 x26 x37 x38 v53_25 m))))) (fun _ _ => none)))))) (kx2 x4 x5 x24 x25 x26 m)))) n
noncomputable def r53_L0 (call : CallF) (fuel base : Nat) (kx0 : Value → M → Res2) (n : Nat) : Value → Value → Value → Value → Value → M → Res2 :=
  Nat.rec (motive := fun _ => Value → Value → Value → Value → Value → M → Res2) (fun _ _ _ _ _ _ => none)
    (fun _ ih x4 x5 x24 x25 x26 m =>
      (k1 (mbin E .lss 3 x26 x25) fun v27_11 => (kb v27_11 (k1 (mindexAddr E.P 86 x24 x26) fun v29_12 => (k1 (xload E.P m 58 v29_12) fun v30_13 => (k2 (vcall E.P base m .len [86] [x4]) fun v34_14 m => (k2 (xmakeSlice E.P m 78 v34_14 v34_14) fun v35_15 m => (k1 (mindexAddr E.P 105 x5 x26) fun v36_16 => (ks (xstore E.P base m 78 v36_16 v35_15) fun m => (k2 (vcall E.P base m .len [86] [x4]) fun v38_17 m => (r53_L2 call fuel base (fun y4_26 y5_27 y24_28 y25_29 y26_30 m => (k1 (mbin E .add 3 y26_30 (.int .i64 1)) fun v54_31 => (ih y4_26 y5_27 y24_28 y25_29 v54_31 m))) fuel x4 x5 x26 v30_13 x24 x25 x26 x4 v38_17 (.int .i64 0) m)))))))) (kx0 x5 m)))) n
noncomputable def r53 (call : CallF) (fuel base : Nat) (x0 : Value) (m : M) : Res2 :=
  (k1 (mbin E .and 58 x0 (.int .u64 12273903644374837845)) fun v11_1 => (kc (call base 75 [v11_1] m) (fun v12_2 m => (k1 (mbin E .andNot 58 x0 (.int .u64 12273903644374837845)) fun v14_3 => (kc (call base 75 [v14_3] m) (fun v15_4 m => (k2 (vcall E.P base m .len [86] [v12_2]) fun v17_5 m => (k2 (vcall E.P base m .len [86] [v15_4]) fun v19_6 m => (k1 (mbin E .neq 3 v17_5 v19_6) fun v20_7 => (kb v20_7 (fVal (.int .i64 0) fun v => some (.ret v, m)) (k2 (vcall E.P base m .len [86] [v12_2]) fun v22_8 m => (k2 (xmakeSlice E.P m 105 v22_8 v22_8) fun v23_9 m => (k2 (vcall E.P base m .len [86] [v12_2]) fun v25_10 m => (r53_L0 call fuel base (fun y5_32 m => (kc (call base 78 [y5_32] m) (fun v56_33 m => (fVal v56_33 fun v => some (.ret v, m))) (fun v m => some (.pan v, m)))) fuel v15_4 v23_9 v12_2 v25_10 (.int .i64 0) m))))))))) (fun v m => some (.pan v, m))))) (fun v m => some (.pan v, m))))
def keep53 : Keep := { region := fun i => ([[0], [3, 4], [3, 4, 20], [2], [3, 4, 5], [4, 5, 24, 25, 26], [4, 5, 24, 25, 26, 27], [4, 5, 6, 7, 24, 25, 26], [4, 5, 6, 7, 24, 25, 26], [4, 5, 6, 7, 24, 25, 26, 37, 38, 39], [4, 5, 6, 7, 24, 25, 26, 37, 38, 39, 40], [4, 5, 6, 7, 8, 9, 24, 25, 26, 37, 38, 39], [4, 5, 6, 7, 24, 25, 26, 37, 38, 39], [4, 5, 6, 7, 24, 25, 26, 37, 38, 39], [4, 5, 24, 25, 26], [2]] : List (List Nat))[i]?, exit := fun i => ([[5], [4, 5, 24, 25, 26], [4, 5, 24, 25, 26], [4, 5, 6, 7, 24, 25, 26, 37, 38, 39]] : List (List Nat))[i]?, ret := some [2] }
noncomputable def r53_L2_R (call : CallF) (fuel base n : Nat) (vs : List Value) (m : M) (K : KT) : Res2 := match vs with
  | [x4, x5, x6, x7, x24, x25, x26, x37, x38, x39] => r53_L2 call fuel base (fun y4 y5 y24 y25 y26 m => K (.exit 2) { n := 57, l := [(4, y4), (5, y5), (24, y24), (25, y25), (26, y26)] } m) n x4 x5 x6 x7 x24 x25 x26 x37 x38 x39 m
  | _ => none
noncomputable def r53_L0_R (call : CallF) (fuel base n : Nat) (vs : List Value) (m : M) (K : KT) : Res2 := match vs with
  | [x4, x5, x24, x25, x26] => r53_L0 call fuel base (fun y5 m => K (.exit 0) { n := 57, l := [(5, y5)] } m) n x4 x5 x24 x25 x26 m
  | _ => none
noncomputable def lp53 (call : CallF) (fuel base : Nat) : Lp := lpsel [(2, fun T m K => kslots 57 [4, 5, 6, 7, 24, 25, 26, 37, 38, 39] T fun vs => r53_L2_R call fuel base fuel vs m K), (0, fun T m K => kslots 57 [4, 5, 24, 25, 26] T fun vs => r53_L0_R call fuel base fuel vs m K)]
noncomputable def c53 : Code := Tryd.f53.body.getD .skip
theorem r53_L2_lk (call : CallF) (fuel base : Nat) : LoopsOk E call (lp53 call fuel base) fuel base 2 (loopB (blockB (seqR (seqR (seqR (blockB (seqL (seqR (seqR (loopB (blockB (seqR (seqL (seqR (seqR (seqR (seqR c53))))))))))))))))) = (And True (And (And True True) (And (And True True) True))) := by kernel_rfl
theorem r53_L2_ok (call : CallF) (fuel base : Nat) : LpOk E call (lp53 call fuel base) fuel base 2 (loopB (blockB (seqR (seqR (seqR (blockB (seqL (seqR (seqR (loopB (blockB (seqR (seqL (seqR (seqR (seqR (seqR c53))))))))))))))))) := by
  refine loop_ok (kp := keep53) (hb := Eq.mpr (r53_L2_lk call fuel base) (And.intro trivial (And.intro (And.intro trivial trivial) (And.intro (And.intro trivial trivial) trivial)))) 57 [4, 5, 6, 7, 24, 25, 26, 37, 38, 39] (fun n vs m K => r53_L2_R call fuel base n vs m K) ?_ ?_ (fun _ _ _ => rfl)
  · intro vs m K
    unfold r53_L2_R
    split <;> rfl
  · intro n vs m K hl
    match vs, hl with
    | [x4, x5, x6, x7, x24, x25, x26, x37, x38, x39], _ => show _ = _; kernel_rfl
theorem r53_L0_lk (call : CallF) (fuel base : Nat) : LoopsOk E call (lp53 call fuel base) fuel base 0 (loopB (blockB (seqR (seqL (seqR (seqR (seqR (seqR c53)))))))) = (And True (And (And True True) (And (And True (And True (And True (LpOk E call (lp53 call fuel base) fuel base 2 (loopB (blockB (seqR (seqR (seqR (blockB (seqL (seqR (seqR (loopB (blockB (seqR (seqL (seqR (seqR (seqR (seqR c53))))))))))))))))))))) True))) := by kernel_rfl
theorem r53_L0_ok (call : CallF) (fuel base : Nat) : LpOk E call (lp53 call fuel base) fuel base 0 (loopB (blockB (seqR (seqL (seqR (seqR (seqR (seqR c53)))))))) := by
  refine loop_ok (kp := keep53) (hb := Eq.mpr (r53_L0_lk call fuel base) (And.intro trivial (And.intro (And.intro trivial trivial) (And.intro (And.intro trivial (And.intro trivial (And.intro trivial (r53_L2_ok call fuel base)))) trivial)))) 57 [4, 5, 24, 25, 26] (fun n vs m K => r53_L0_R call fuel base n vs m K) ?_ ?_ (fun _ _ _ => rfl)
  · intro vs m K
    unfold r53_L0_R
    split <;> rfl
  · intro n vs m K hl
    match vs, hl with
    | [x4, x5, x24, x25, x26], _ => show _ = _; kernel_rfl
theorem r53_eq (call : CallF) (fuel base : Nat) (x0 : Value) (m : M) : kbody E call keep53 (lp53 call fuel base) base Tryd.f53 [x0] m = r53 call fuel base x0 m := by
  kernel_rfl
noncomputable def rf53 : RF := fun call fuel base args m => match args with
  | [x0] => r53 call fuel base x0 m
  | _ => none
theorem r53_lk (call : CallF) (fuel base : Nat) : LoopsOk E call (lp53 call fuel base) fuel base 0 c53 = (And True (And True (And (And True (And (And True True) True)) (And True (And (And True (LpOk E call (lp53 call fuel base) fuel base 0 (loopB (blockB (seqR (seqL (seqR (seqR (seqR (seqR c53)))))))))) (And True True)))))) := by kernel_rfl
theorem r53_fn : E.P.funcs[53]? = some Tryd.f53 := by kernel_rfl
theorem r53_body : Tryd.f53.body = some c53 := by kernel_rfl
theorem rf53_ok : RFok E 53 rf53 := by
  refine ⟨Tryd.f53, r53_fn, fun call fuel base args m r _ h => ?_⟩
  unfold rf53 at h
  split at h
  · rw [← r53_eq] at h
    exact kbody_sound (c := c53) r53_body (Eq.mpr (r53_lk call fuel base) (And.intro trivial (And.intro trivial (And.intro (And.intro trivial (And.intro (And.intro trivial trivial) trivial)) (And.intro trivial (And.intro (And.intro trivial (r53_L0_ok call fuel base)) (And.intro trivial trivial))))))) h
  · simp at h
end Go.AM
namespace Go.AM
open Go Go.Proofs
noncomputable def r59_L0 (call : CallF) (fuel base : Nat) (kp : Value → M → Res2) (kx0 : Value → M → Res2) (n : Nat) : Value → Value → Value → M → Res2 :=
  Nat.rec (motive := fun _ => Value → Value → Value → M → Res2) (fun _ _ _ _ => none)
    (fun _ ih x0 x1 x5 m =>
      (k1 (mbin E .neq 58 x0 (.int .u64 0)) fun v8_1 => (kb v8_1 (kc (call base 72 [x0] m) (fun v10_2 m => (kc (call base 86 [v10_2, x0, x1] m) (fun v13_3 m => (k2 (xbuildSlice E.P m 86 1 [(0, v13_3)]) fun v16_4 m => (k2 (vcall E.P base m .append [86, 86] [x5, v16_4]) fun v17_5 m => (k1 (mbin E .andNot 58 x0 v13_3) fun v20_6 => (ih v20_6 x1 v17_5 m))))) (fun v m => kp v m))) (fun v m => kp v m)) (kx0 x5 m)))) n
noncomputable def r59 (call : CallF) (fuel base : Nat) (x0 : Value) (x1 : Value) (m : M) : Res2 :=
  (r59_L0 call fuel base (fun v m => some (.pan v, m)) (fun y5_7 m => (fVal y5_7 fun v => some (.ret v, m))) fuel x0 x1 (.slice none 0 0) m)
def keep59 : Keep := { region := fun i => ([[0, 1], [0, 1, 5], [0, 1, 5, 8], [0, 1, 5, 6], [0, 1, 5, 6], [0, 1, 5], [4]] : List (List Nat))[i]?, exit := fun i => ([[5], [0, 1, 5]] : List (List Nat))[i]?, ret := some [4] }
noncomputable def r59_L0_R (call : CallF) (fuel base n : Nat) (vs : List Value) (m : M) (K : KT) : Res2 := match vs with
  | [x0, x1, x5] => r59_L0 call fuel base (fun v m => K (.pan v) { n := 22, l := [] } m) (fun y5 m => K (.exit 0) { n := 22, l := [(5, y5)] } m) n x0 x1 x5 m
  | _ => none
noncomputable def lp59 (call : CallF) (fuel base : Nat) : Lp := lpsel [(0, fun T m K => kslots 22 [0, 1, 5] T fun vs => r59_L0_R call fuel base fuel vs m K)]
noncomputable def c59 : Code := Tryd.f59.body.getD .skip
theorem r59_L0_lk (call : CallF) (fuel base : Nat) : LoopsOk E call (lp59 call fuel base) fuel base 0 (loopB (blockB (seqL (seqR (seqR c59))))) = (And (And True (And True True)) (And True (And True True))) := by kernel_rfl
theorem r59_L0_ok (call : CallF) (fuel base : Nat) : LpOk E call (lp59 call fuel base) fuel base 0 (loopB (blockB (seqL (seqR (seqR c59))))) := by
  refine loop_ok (kp := keep59) (hb := Eq.mpr (r59_L0_lk call fuel base) (And.intro (And.intro trivial (And.intro trivial trivial)) (And.intro trivial (And.intro trivial trivial)))) 22 [0, 1, 5] (fun n vs m K => r59_L0_R call fuel base n vs m K) ?_ ?_ (fun _ _ _ => rfl)
  · intro vs m K
    unfold r59_L0_R
    split <;> rfl
  · intro n vs m K hl
    match vs, hl with
    | [x0, x1, x5], _ => show _ = _; kernel_rfl
theorem r59_eq (call : CallF) (fuel base : Nat) (x0 : Value) (x1 : Value) (m : M) : kbody E call keep59 (lp59 call fuel base) base Tryd.f59 [x0, x1] m = r59 call fuel base x0 x1 m := by
  kernel_rfl
noncomputable def rf59 : RF := fun call fuel base args m => match args with
  | [x0, x1] => r59 call fuel base x0 x1 m
  | _ => none
theorem r59_lk (call : CallF) (fuel base : Nat) : LoopsOk E call (lp59 call fuel base) fuel base 0 c59 = (And True (And True (And (LpOk E call (lp59 call fuel base) fuel base 0 (loopB (blockB (seqL (seqR (seqR c59)))))) (And True True)))) := by kernel_rfl
theorem r59_fn : E.P.funcs[59]? = some Tryd.f59 := by kernel_rfl
theorem r59_body : Tryd.f59.body = some c59 := by kernel_rfl
theorem rf59_ok : RFok E 59 rf59 := by
  refine ⟨Tryd.f59, r59_fn, fun call fuel base args m r _ h => ?_⟩
  unfold rf59 at h
  split at h
  · rw [← r59_eq] at h
    exact kbody_sound (c := c59) r59_body (Eq.mpr (r59_lk call fuel base) (And.intro trivial (And.intro trivial (And.intro (r59_L0_ok call fuel base) (And.intro trivial trivial))))) h
  · simp at h
end Go.AM
namespace Go.AM
open Go Go.Proofs
noncomputable def r60 (call : CallF) (fuel base : Nat) (x0 : Value) (m : M) : Res2 :=
  (kc (call base 87 [x0] m) (fun v4_1 m => (kc (call base 65 [x0] m) (fun v6_2 m => (k1 (mbin E .or 58 v4_1 v6_2) fun v7_3 => (kc (call base 88 [x0] m) (fun v9_4 m => (k1 (mbin E .or 58 v7_3 v9_4) fun v10_5 => (kc (call base 66 [x0] m) (fun v12_6 m => (k1 (mbin E .or 58 v10_5 v12_6) fun v13_7 => (fVal v13_7 fun v => some (.ret v, m)))) (fun v m => some (.pan v, m))))) (fun v m => some (.pan v, m))))) (fun v m => some (.pan v, m)))) (fun v m => some (.pan v, m)))
def keep60 : Keep := { region := fun i => ([[0], [2]] : List (List Nat))[i]?, exit := fun i => ([] : List (List Nat))[i]?, ret := some [2] }
noncomputable def lp60 (call : CallF) (fuel base : Nat) : Lp := lpsel []
noncomputable def c60 : Code := Tryd.f60.body.getD .skip
theorem r60_eq (call : CallF) (fuel base : Nat) (x0 : Value) (m : M) : kbody E call keep60 (lp60 call fuel base) base Tryd.f60 [x0] m = r60 call fuel base x0 m := by
  kernel_rfl
noncomputable def rf60 : RF := fun call fuel base args m => match args with
  | [x0] => r60 call fuel base x0 m
  | _ => none
theorem r60_lk (call : CallF) (fuel base : Nat) : LoopsOk E call (lp60 call fuel base) fuel base 0 c60 = (And True (And True True)) := by kernel_rfl
theorem r60_fn : E.P.funcs[60]? = some Tryd.f60 := by kernel_rfl
theorem r60_body : Tryd.f60.body = some c60 := by kernel_rfl
theorem rf60_ok : RFok E 60 rf60 := by
  refine ⟨Tryd.f60, r60_fn, fun call fuel base args m r _ h => ?_⟩
  unfold rf60 at h
  split at h
  · rw [← r60_eq] at h
    exact kbody_sound (c := c60) r60_body (Eq.mpr (r60_lk call fuel base) (And.intro trivial (And.intro trivial trivial))) h
  · simp at h
end Go.AM
namespace Go.AM
open Go Go.Proofs
noncomputable def r61_L2 (call : CallF) (fuel base : Nat) (kp : Value → M → Res2) (kx2 : Value → Value → Value → Value → Value → Value → Value → M → Res2) (n : Nat) : Value → Value → Value → Value → Value → Value → Value → Value → Value → M → Res2 :=
  Nat.rec (motive := fun _ => Value → Value → Value → Value → Value → Value → Value → Value → Value → M → Res2) (fun _ _ _ _ _ _ _ _ _ _ => none)
    (fun _ ih x1 x2 x5 x6 x7 x13 x14 x21 x22 m =>
      (k1 (mbin E .lss 3 x22 x21) fun v23_11 => (kb v23_11 (k1 (mindexAddr E.P 92 x7 x22) fun v27_12 => (ks (xstore E.P base m 5 v27_12 (.int .u8 46)) fun m => (kc (call base 69 [x22, x6] m) (fun v31_13 m => (k1 (mbin E .and 58 x1 v31_13) fun v32_14 => (k1 (mbin E .neq 58 v32_14 (.int .u64 0)) fun v33_15 => (kb v33_15 (k1 (mindexAddr E.P 92 x7 x22) fun v36_16 => (ks (xstore E.P base m 5 v36_16 (.int .u8 35)) fun m => (k1 (mbin E .add 3 x22 (.int .i64 1)) fun v37_17 => (ih x1 x2 x5 x6 x7 x13 x14 x21 v37_17 m)))) (k1 (mbin E .add 3 x22 (.int .i64 1)) fun v37_18 => (ih x1 x2 x5 x6 x7 x13 x14 x21 v37_18 m)))))) (fun v m => kp v m)))) (kx2 x1 x2 x5 x6 x7 x13 x14 m)))) n
noncomputable def r61_L0 (call : CallF) (fuel base : Nat) (kp : Value → M → Res2) (kx0 : Value → M → Res2) (n : Nat) : Value → Value → Value → Value → Value → M → Res2 :=
  Nat.rec (motive := fun _ => Value → Value → Value → Value → Value → M → Res2) (fun _ _ _ _ _ _ => none)
    (fun _ ih x1 x2 x5 x13 x14 m =>
      (k1 (mbin E .lss 3 x14 x13) fun v15_6 => (kb v15_6 (k1 (mfieldAddr E.P 60 x2 0) fun v17_7 => (k1 (xload E.P m 3 v17_7) fun v18_8 => (k2 (xmakeSlice E.P m 92 v18_8 v18_8) fun v19_9 m => (k2 (vcall E.P base m .len [92] [v19_9]) fun v21_10 m => (r61_L2 call fuel base (fun v m => kp v m) (fun y1_19 y2_20 y5_21 y6_22 y7_23 y13_24 y14_25 m => (k1 (mconv E.P m 92 9 y7_23) fun v41_26 => (k1 (mindexAddr E.P 22 y5_21 y6_22) fun v42_27 => (ks (xstore E.P base m 9 v42_27 v41_26) fun m => (k1 (mbin E .add 3 y14_25 (.int .i64 1)) fun v43_28 => (ih y1_19 y2_20 y5_21 y13_24 v43_28 m)))))) fuel x1 x2 x5 x14 v19_9 x13 x14 v21_10 (.int .i64 0) m))))) (kx0 x5 m)))) n
noncomputable def r61 (call : CallF) (fuel base : Nat) (x0 : Value) (x1 : Value) (m : M) : Res2 :=
  (k2 (xbox m x0) fun v2_1 m => (k1 (mfieldAddr E.P 60 v2_1 1) fun v9_2 => (k1 (xload E.P m 3 v9_2) fun v10_3 => (k2 (xmakeSlice E.P m 22 v10_3 v10_3) fun v11_4 m => (k2 (vcall E.P base m .len [22] [v11_4]) fun v13_5 m => (r61_L0 call fuel base (fun v m => some (.pan v, m)) (fun y5_29 m => (fVal y5_29 fun v => some (.ret v, m))) fuel x1 v2_1 v11_4 v13_5 (.int .i64 0) m))))))
def keep61 : Keep := { region := fun i => ([[1, 2], [1, 2, 5], [1, 2, 5, 13, 14], [1, 2, 5, 13, 14, 15], [1, 2, 5, 6, 13, 14], [1, 2, 5, 6, 7, 13, 14], [1, 2, 5, 6, 7, 13, 14, 21, 22], [1, 2, 5, 6, 7, 13, 14, 21, 22, 23], [1, 2, 5, 6, 7, 8, 13, 14, 21, 22], [1, 2, 5, 6, 7, 8, 13, 14, 21, 22], [1, 2, 5, 6, 7, 8, 13, 14, 21, 22, 33], [1, 2, 5, 6, 7, 13, 14, 21, 22], [1, 2, 5, 6, 7, 13, 14, 21, 22], [1, 2, 5, 13, 14], [1, 2, 5, 13, 14], [4]] : List (List Nat))[i]?, exit := fun i => ([[5], [1, 2, 5, 13, 14], [1, 2, 5, 6, 7, 13, 14], [1, 2, 5, 6, 7, 13, 14, 21, 22]] : List (List Nat))[i]?, ret := some [4] }
noncomputable def r61_L2_R (call : CallF) (fuel base n : Nat) (vs : List Value) (m : M) (K : KT) : Res2 := match vs with
  | [x1, x2, x5, x6, x7, x13, x14, x21, x22] => r61_L2 call fuel base (fun v m => K (.pan v) { n := 45, l := [] } m) (fun y1 y2 y5 y6 y7 y13 y14 m => K (.exit 2) { n := 45, l := [(1, y1), (2, y2), (5, y5), (6, y6), (7, y7), (13, y13), (14, y14)] } m) n x1 x2 x5 x6 x7 x13 x14 x21 x22 m
  | _ => none
noncomputable def r61_L0_R (call : CallF) (fuel base n : Nat) (vs : List Value) (m : M) (K : KT) : Res2 := match vs with
  | [x1, x2, x5, x13, x14] => r61_L0 call fuel base (fun v m => K (.pan v) { n := 45, l := [] } m) (fun y5 m => K (.exit 0) { n := 45, l := [(5, y5)] } m) n x1 x2 x5 x13 x14 m
  | _ => none
noncomputable def lp61 (call : CallF) (fuel base : Nat) : Lp := lpsel [(2, fun T m K => kslots 45 [1, 2, 5, 6, 7, 13, 14, 21, 22] T fun vs => r61_L2_R call fuel base fuel vs m K), (0, fun T m K => kslots 45 [1, 2, 5, 13, 14] T fun vs => r61_L0_R call fuel base fuel vs m K)]
noncomputable def c61 : Code := Tryd.f61.body.getD .skip
theorem r61_L2_lk (call : CallF) (fuel base : Nat) : LoopsOk E call (lp61 call fuel base) fuel base 2 (loopB (blockB (seqR (seqL (seqR (seqR (blockB (seqL (seqR (seqR (loopB (blockB (seqR (seqL (seqR (seqR c61)))))))))))))))) = (And True (And (And True True) (And (And True (And True (And True (And True True)))) True))) := by kernel_rfl
theorem r61_L2_ok (call : CallF) (fuel base : Nat) : LpOk E call (lp61 call fuel base) fuel base 2 (loopB (blockB (seqR (seqL (seqR (seqR (blockB (seqL (seqR (seqR (loopB (blockB (seqR (seqL (seqR (seqR c61)))))))))))))))) := by
  refine loop_ok (kp := keep61) (hb := Eq.mpr (r61_L2_lk call fuel base) (And.intro trivial (And.intro (And.intro trivial trivial) (And.intro (And.intro trivial (And.intro trivial (And.intro trivial (And.intro trivial trivial)))) trivial)))) 45 [1, 2, 5, 6, 7, 13, 14, 21, 22] (fun n vs m K => r61_L2_R call fuel base n vs m K) ?_ ?_ (fun _ _ _ => rfl)
  · intro vs m K
    unfold r61_L2_R
    split <;> rfl
  · intro n vs m K hl
    match vs, hl with
    | [x1, x2, x5, x6, x7, x13, x14, x21, x22], _ => show _ = _; kernel_rfl
theorem r61_L0_lk (call : CallF) (fuel base : Nat) : LoopsOk E call (lp61 call fuel base) fuel base 0 (loopB (blockB (seqR (seqL (seqR (seqR c61)))))) = (And True (And (And True True) (And (And True (And True (And (And True (LpOk E call (lp61 call fuel base) fuel base 2 (loopB (blockB (seqR (seqL (seqR (seqR (blockB (seqL (seqR (seqR (loopB (blockB (seqR (seqL (seqR (seqR c61)))))))))))))))))) True))) True))) := by kernel_rfl
theorem r61_L0_ok (call : CallF) (fuel base : Nat) : LpOk E call (lp61 call fuel base) fuel base 0 (loopB (blockB (seqR (seqL (seqR (seqR c61)))))) := by
  refine loop_ok (kp := keep61) (hb := Eq.mpr (r61_L0_lk call fuel base) (And.intro trivial (And.intro (And.intro trivial trivial) (And.intro (And.intro trivial (And.intro trivial (And.intro (And.intro trivial (r61_L2_ok call fuel base)) trivial))) trivial)))) 45 [1, 2, 5, 13, 14] (fun n vs m K => r61_L0_R call fuel base n vs m K) ?_ ?_ (fun _ _ _ => rfl)
  · intro vs m K
    unfold r61_L0_R
    split <;> rfl
  · intro n vs m K hl
    match vs, hl with
    | [x1, x2, x5, x13, x14], _ => show _ = _; kernel_rfl
theorem r61_eq (call : CallF) (fuel base : Nat) (x0 : Value) (x1 : Value) (m : M) : kbody E call keep61 (lp61 call fuel base) base Tryd.f61 [x0, x1] m = r61 call fuel base x0 x1 m := by
  kernel_rfl
noncomputable def rf61 : RF := fun call fuel base args m => match args with
  | [x0, x1] => r61 call fuel base x0 x1 m
  | _ => none
theorem r61_lk (call : CallF) (fuel base : Nat) : LoopsOk E call (lp61 call fuel base) fuel base 0 c61 = (And True (And True (And (And True (LpOk E call (lp61 call fuel base) fuel base 0 (loopB (blockB (seqR (seqL (seqR (seqR c61)))))))) (And True True)))) := by kernel_rfl
theorem r61_fn : E.P.funcs[61]? = some Tryd.f61 := by kernel_rfl
theorem r61_body : Tryd.f61.body = some c61 := by kernel_rfl
theorem rf61_ok : RFok E 61 rf61 := by
  refine ⟨Tryd.f61, r61_fn, fun call fuel base args m r _ h => ?_⟩
  unfold rf61 at h
  split at h
  · rw [← r61_eq] at h
    exact kbody_sound (c := c61) r61_body (Eq.mpr (r61_lk call fuel base) (And.intro trivial (And.intro trivial (And.intro (And.intro trivial (r61_L0_ok call fuel base)) (And.intro trivial trivial))))) h
  · simp at h
end Go.AM
namespace Go.AM
open Go Go.Proofs
noncomputable def r62_L2 (call : CallF) (fuel base : Nat) (kp : Value → M → Res2) (kx2 : Value → Value → Value → Value → Value → M → Res2) (n : Nat) : Value → Value → Value → Value → Value → Value → M → Res2 :=
  Nat.rec (motive := fun _ => Value → Value → Value → Value → Value → Value → M → Res2) (fun _ _ _ _ _ _ _ => none)
    (fun _ ih x0 x1 x5 x6 x7 x8 m =>
      (k1 (mindexAddr E.P 22 x0 (.int .i64 0)) fun v17_3 => (k1 (xload E.P m 9 v17_3) fun v18_4 => (k2 (vcall E.P base m .len [9] [v18_4]) fun v19_5 m => (k1 (mbin E .lss 3 x8 v19_5) fun v20_6 => (kb v20_6 (k1 (mbuild E.P 68 [(0, x8), (1, x6)]) fun v26_7 => (kc (call base 49 [x1, v26_7] m) (fun v27_8 m => (kb v27_8 (k2 (xbuildSlice E.P m 92 1 [(0, (.int .u8 35))]) fun v29_9 m => (k2 (vcall E.P base m .append [92, 92] [x7, v29_9]) fun v30_10 m => (k1 (mbin E .add 3 x8 (.int .i64 1)) fun v22_11 => (ih x0 x1 x5 x6 v30_10 v22_11 m)))) (k2 (xbuildSlice E.P m 92 1 [(0, (.int .u8 46))]) fun v32_12 m => (k2 (vcall E.P base m .append [92, 92] [x7, v32_12]) fun v33_13 m => (k1 (mbin E .add 3 x8 (.int .i64 1)) fun v22_14 => (ih x0 x1 x5 x6 v33_13 v22_14 m)))))) (fun v m => kp v m))) (kx2 x0 x1 x5 x6 x7 m))))))) n
noncomputable def r62_L0 (call : CallF) (fuel base : Nat) (kp : Value → M → Res2) (kx0 : Value → M → Res2) (n : Nat) : Value → Value → Value → Value → M → Res2 :=
  Nat.rec (motive := fun _ => Value → Value → Value → Value → M → Res2) (fun _ _ _ _ _ => none)
    (fun _ ih x0 x1 x5 x6 m =>
      (k2 (vcall E.P base m .len [22] [x0]) fun v11_1 m => (k1 (mbin E .lss 3 x6 v11_1) fun v12_2 => (kb v12_2 (r62_L2 call fuel base (fun v m => kp v m) (fun y0_15 y1_16 y5_17 y6_18 y7_19 m => (k1 (mconv E.P m 92 9 y7_19) fun v36_20 => (k2 (xbuildSlice E.P m 22 1 [(0, v36_20)]) fun v37_21 m => (k2 (vcall E.P base m .append [22, 22] [y5_17, v37_21]) fun v38_22 m => (k1 (mbin E .add 3 y6_18 (.int .i64 1)) fun v14_23 => (ih y0_15 y1_16 v38_22 v14_23 m)))))) fuel x0 x1 x5 x6 (.slice none 0 0) (.int .i64 0) m) (kx0 x5 m))))) n
noncomputable def r62 (call : CallF) (fuel base : Nat) (x0 : Value) (x1 : Value) (m : M) : Res2 :=
  (r62_L0 call fuel base (fun v m => some (.pan v, m)) (fun y5_24 m => (fVal y5_24 fun v => some (.ret v, m))) fuel x0 x1 (.slice none 0 0) (.int .i64 0) m)
def keep62 : Keep := { region := fun i => ([[0, 1], [0, 1, 5], [0, 1, 5, 6], [0, 1, 5, 6, 12], [0, 1, 5, 6], [0, 1, 5, 6, 7], [0, 1, 5, 6, 7, 8], [0, 1, 5, 6, 7, 8, 20], [0, 1, 5, 6, 7, 8], [0, 1, 5, 6, 7, 8, 27], [0, 1, 5, 6, 7, 8], [0, 1, 5, 6, 7, 8], [0, 1, 5, 6], [4]] : List (List Nat))[i]?, exit := fun i => ([[5], [0, 1, 5, 6], [0, 1, 5, 6, 7], [0, 1, 5, 6, 7, 8]] : List (List Nat))[i]?, ret := some [4] }
noncomputable def r62_L2_R (call : CallF) (fuel base n : Nat) (vs : List Value) (m : M) (K : KT) : Res2 := match vs with
  | [x0, x1, x5, x6, x7, x8] => r62_L2 call fuel base (fun v m => K (.pan v) { n := 40, l := [] } m) (fun y0 y1 y5 y6 y7 m => K (.exit 2) { n := 40, l := [(0, y0), (1, y1), (5, y5), (6, y6), (7, y7)] } m) n x0 x1 x5 x6 x7 x8 m
  | _ => none
noncomputable def r62_L0_R (call : CallF) (fuel base n : Nat) (vs : List Value) (m : M) (K : KT) : Res2 := match vs with
  | [x0, x1, x5, x6] => r62_L0 call fuel base (fun v m => K (.pan v) { n := 40, l := [] } m) (fun y5 m => K (.exit 0) { n := 40, l := [(5, y5)] } m) n x0 x1 x5 x6 m
  | _ => none
noncomputable def lp62 (call : CallF) (fuel base : Nat) : Lp := lpsel [(2, fun T m K => kslots 40 [0, 1, 5, 6, 7, 8] T fun vs => r62_L2_R call fuel base fuel vs m K), (0, fun T m K => kslots 40 [0, 1, 5, 6] T fun vs => r62_L0_R call fuel base fuel vs m K)]
noncomputable def c62 : Code := Tryd.f62.body.getD .skip
theorem r62_L2_lk (call : CallF) (fuel base : Nat) : LoopsOk E call (lp62 call fuel base) fuel base 2 (loopB (blockB (seqR (seqL (seqR (blockB (seqL (seqR (loopB (blockB (seqR (seqL (seqR (seqR c62)))))))))))))) = (And (And True (And True True)) (And (And True (And True True)) True)) := by kernel_rfl
theorem r62_L2_ok (call : CallF) (fuel base : Nat) : LpOk E call (lp62 call fuel base) fuel base 2 (loopB (blockB (seqR (seqL (seqR (blockB (seqL (seqR (loopB (blockB (seqR (seqL (seqR (seqR c62)))))))))))))) := by
  refine loop_ok (kp := keep62) (hb := Eq.mpr (r62_L2_lk call fuel base) (And.intro (And.intro trivial (And.intro trivial trivial)) (And.intro (And.intro trivial (And.intro trivial trivial)) trivial))) 40 [0, 1, 5, 6, 7, 8] (fun n vs m K => r62_L2_R call fuel base n vs m K) ?_ ?_ (fun _ _ _ => rfl)
  · intro vs m K
    unfold r62_L2_R
    split <;> rfl
  · intro n vs m K hl
    match vs, hl with
    | [x0, x1, x5, x6, x7, x8], _ => show _ = _; kernel_rfl
theorem r62_L0_lk (call : CallF) (fuel base : Nat) : LoopsOk E call (lp62 call fuel base) fuel base 0 (loopB (blockB (seqR (seqL (seqR (seqR c62)))))) = (And (And True (And True True)) (And (And True (And (And True (LpOk E call (lp62 call fuel base) fuel base 2 (loopB (blockB (seqR (seqL (seqR (blockB (seqL (seqR (loopB (blockB (seqR (seqL (seqR (seqR c62)))))))))))))))) True)) True)) := by kernel_rfl
theorem r62_L0_ok (call : CallF) (fuel base : Nat) : LpOk E call (lp62 call fuel base) fuel base 0 (loopB (blockB (seqR (seqL (seqR (seqR c62)))))) := by
  refine loop_ok (kp := keep62) (hb := Eq.mpr (r62_L0_lk call fuel base) (And.intro (And.intro trivial (And.intro trivial trivial)) (And.intro (And.intro trivial (And.intro (And.intro trivial (r62_L2_ok call fuel base)) trivial)) trivial))) 40 [0, 1, 5, 6] (fun n vs m K => r62_L0_R call fuel base n vs m K) ?_ ?_ (fun _ _ _ => rfl)
  · intro vs m K
    unfold r62_L0_R
    split <;> rfl
  · intro n vs m K hl
    match vs, hl with
    | [x0, x1, x5, x6], _ => show _ = _; kernel_rfl
theorem r62_eq (call : CallF) (fuel base : Nat) (x0 : Value) (x1 : Value) (m : M) : kbody E call keep62 (lp62 call fuel base) base Tryd.f62 [x0, x1] m = r62 call fuel base x0 x1 m := by
  kernel_rfl
noncomputable def rf62 : RF := fun call fuel base args m => match args with
  | [x0, x1] => r62 call fuel base x0 x1 m
  | _ => none
theorem r62_lk (call : CallF) (fuel base : Nat) : LoopsOk E call (lp62 call fuel base) fuel base 0 c62 = (And True (And True (And (And True (LpOk E call (lp62 call fuel base) fuel base 0 (loopB (blockB (seqR (seqL (seqR (seqR c62)))))))) (And True True)))) := by kernel_rfl
theorem r62_fn : E.P.funcs[62]? = some Tryd.f62 := by kernel_rfl
theorem r62_body : Tryd.f62.body = some c62 := by kernel_rfl
theorem rf62_ok : RFok E 62 rf62 := by
  refine ⟨Tryd.f62, r62_fn, fun call fuel base args m r _ h => ?_⟩
  unfold rf62 at h
  split at h
  · rw [← r62_eq] at h
    exact kbody_sound (c := c62) r62_body (Eq.mpr (r62_lk call fuel base) (And.intro trivial (And.intro trivial (And.intro (And.intro trivial (r62_L0_ok call fuel base)) (And.intro trivial trivial))))) h
  · simp at h
end Go.AM
namespace Go.AM
open Go Go.Proofs
noncomputable def r63_L0 (call : CallF) (fuel base : Nat) (kx0 : Value → M → Res2) (n : Nat) : Value → Value → Value → Value → Value → M → Res2 :=
  Nat.rec (motive := fun _ => Value → Value → Value → Value → Value → M → Res2) (fun _ _ _ _ _ _ => none)
    (fun _ ih x3 x4 x11 x12 x13 m =>
      (k1 (mbin E .lss 3 x13 x12) fun v14_8 => (kb v14_8 (k1 (mindexAddr E.P 86 x11 x13) fun v15_9 => (k1 (xload E.P m 58 v15_9) fun v16_10 => (k1 (mbin E .and 58 v16_10 x4) fun v19_11 => (k1 (mbin E .eql 58 v19_11 (.int .u64 0)) fun v20_12 => (kb v20_12 (k1 (mbin E .add 3 x3 (.int .i64 1)) fun v22_13 => (k1 (mbin E .add 3 x13 (.int .i64 1)) fun v23_14 => (ih v22_13 x4 x11 x12 v23_14 m))) (k1 (mbin E .add 3 x13 (.int .i64 1)) fun v23_15 => (ih x3 x4 x11 x12 v23_15 m))))))) (kx0 x3 m)))) n
noncomputable def r63 (call : CallF) (fuel base : Nat) (x0 : Value) (m : M) : Res2 :=
  (k2 (xbox m x0) fun v1_1 m => (k1 (xload E.P m 60 v1_1) fun v7_2 => (kc (call base 89 [v7_2] m) (fun v8_3 m => (k1 (mfieldAddr E.P 60 v1_1 3) fun v9_4 => (k1 (xload E.P m 58 v9_4) fun v10_5 => (kc (call base 59 [v10_5, (.func (.func 90) #[] #[])] m) (fun v11_6 m => (k2 (vcall E.P base m .len [86] [v11_6]) fun v12_7 m => (r63_L0 call fuel base (fun y3_16 m => (fVal y3_16 fun v => some (.ret v, m))) fuel (.int .i64 0) v8_3 v11_6 v12_7 (.int .i64 0) m))) (fun v m => some (.pan v, m)))))) (fun v m => some (.pan v, m)))))
def keep63 : Keep := { region := fun i => ([[1], [1, 3, 4], [3, 4, 11, 12, 13], [3, 4, 11, 12, 13, 14], [3, 4, 6, 11, 12, 13], [3, 4, 11, 12, 13, 20], [3, 4, 11, 12, 13], [3, 4, 11, 12, 13], [2]] : List (List Nat))[i]?, exit := fun i => ([[3], [3, 4, 11, 12, 13]] : List (List Nat))[i]?, ret := some [2] }
noncomputable def r63_L0_R (call : CallF) (fuel base n : Nat) (vs : List Value) (m : M) (K : KT) : Res2 := match vs with
  | [x3, x4, x11, x12, x13] => r63_L0 call fuel base (fun y3 m => K (.exit 0) { n := 25, l := [(3, y3)] } m) n x3 x4 x11 x12 x13 m
  | _ => none
noncomputable def lp63 (call : CallF) (fuel base : Nat) : Lp := lpsel [(0, fun T m K => kslots 25 [3, 4, 11, 12, 13] T fun vs => r63_L0_R call fuel base fuel vs m K)]
noncomputable def c63 : Code := Tryd.f63.body.getD .skip
theorem r63_L0_lk (call : CallF) (fuel base : Nat) : LoopsOk E call (lp63 call fuel base) fuel base 0 (loopB (blockB (seqR (seqL (seqR (seqR c63)))))) = (And True (And (And True True) (And (And True (And True (And True True))) True))) := by kernel_rfl
theorem r63_L0_ok (call : CallF) (fuel base : Nat) : LpOk E call (lp63 call fuel base) fuel base 0 (loopB (blockB (seqR (seqL (seqR (seqR c63)))))) := by
  refine loop_ok (kp := keep63) (hb := Eq.mpr (r63_L0_lk call fuel base) (And.intro trivial (And.intro (And.intro trivial trivial) (And.intro (And.intro trivial (And.intro trivial (And.intro trivial trivial))) trivial)))) 25 [3, 4, 11, 12, 13] (fun n vs m K => r63_L0_R call fuel base n vs m K) ?_ ?_ (fun _ _ _ => rfl)
  · intro vs m K
    unfold r63_L0_R
    split <;> rfl
  · intro n vs m K hl
    match vs, hl with
    | [x3, x4, x11, x12, x13], _ => show _ = _; kernel_rfl
theorem r63_eq (call : CallF) (fuel base : Nat) (x0 : Value) (m : M) : kbody E call keep63 (lp63 call fuel base) base Tryd.f63 [x0] m = r63 call fuel base x0 m := by
  kernel_rfl
noncomputable def rf63 : RF := fun call fuel base args m => match args with
  | [x0] => r63 call fuel base x0 m
  | _ => none
theorem r63_lk (call : CallF) (fuel base : Nat) : LoopsOk E call (lp63 call fuel base) fuel base 0 c63 = (And True (And True (And (And True (LpOk E call (lp63 call fuel base) fuel base 0 (loopB (blockB (seqR (seqL (seqR (seqR c63)))))))) (And True True)))) := by kernel_rfl
theorem r63_fn : E.P.funcs[63]? = some Tryd.f63 := by kernel_rfl
theorem r63_body : Tryd.f63.body = some c63 := by kernel_rfl
theorem rf63_ok : RFok E 63 rf63 := by
  refine ⟨Tryd.f63, r63_fn, fun call fuel base args m r _ h => ?_⟩
  unfold rf63 at h
  split at h
  · rw [← r63_eq] at h
    exact kbody_sound (c := c63) r63_body (Eq.mpr (r63_lk call fuel base) (And.intro trivial (And.intro trivial (And.intro (And.intro trivial (r63_L0_ok call fuel base)) (And.intro trivial trivial))))) h
  · simp at h
end Go.AM
namespace Go.AM
open Go Go.Proofs
noncomputable def r64_L0 (call : CallF) (fuel base : Nat) (kp : Value → M → Res2) (kx0 : Value → M → Res2) (n : Nat) : Value → Value → Value → Value → Value → Value → M → Res2 :=
  Nat.rec (motive := fun _ => Value → Value → Value → Value → Value → Value → M → Res2) (fun _ _ _ _ _ _ _ => none)
    (fun _ ih x0 x1 x5 x9 x10 x11 m =>
      (k1 (mbin E .lss 3 x11 x10) fun v12_3 => (kb v12_3 (k1 (mindexAddr E.P 86 x9 x11) fun v13_4 => (k1 (xload E.P m 58 v13_4) fun v14_5 => (kc (kv call base x1 [v14_5] m) (fun v18_6 m => (k1 (mbin E .and 58 x0 v18_6) fun v19_7 => (k1 (mbin E .neq 58 v19_7 (.int .u64 0)) fun v20_8 => (kb v20_8 (kc (kv call base x1 [v14_5] m) (fun v26_9 m => (k1 (mbin E .or 58 v14_5 v26_9) fun v27_10 => (k1 (mbin E .andNot 58 x0 v27_10) fun v28_11 => (kc (call base 42 [v28_11] m) (fun v29_12 m => (kb v29_12 (k1 (mbin E .or 58 x5 v14_5) fun v33_13 => (k1 (mbin E .add 3 x11 (.int .i64 1)) fun v34_14 => (ih x0 x1 v33_13 x9 x10 v34_14 m))) (k1 (mbin E .add 3 x11 (.int .i64 1)) fun v34_15 => (ih x0 x1 x5 x9 x10 v34_15 m)))) (fun v m => kp v m))))) (fun v m => kp v m)) (k1 (mbin E .add 3 x11 (.int .i64 1)) fun v34_16 => (ih x0 x1 x5 x9 x10 v34_16 m)))))) (fun v m => kp v m)))) (kx0 x5 m)))) n
noncomputable def r64 (call : CallF) (fuel base : Nat) (x0 : Value) (x1 : Value) (m : M) : Res2 :=
  (kc (call base 75 [x0] m) (fun v9_1 m => (k2 (vcall E.P base m .len [86] [v9_1]) fun v10_2 m => (r64_L0 call fuel base (fun v m => some (.pan v, m)) (fun y5_17 m => (fVal y5_17 fun v => some (.ret v, m))) fuel x0 x1 (.int .u64 0) v9_1 v10_2 (.int .i64 0) m))) (fun v m => some (.pan v, m)))
def keep64 : Keep := { region := fun i => ([[0, 1], [0, 1, 5], [0, 1, 5, 9, 10, 11], [0, 1, 5, 9, 10, 11, 12], [0, 1, 5, 7, 9, 10, 11], [0, 1, 5, 7, 9, 10, 11, 30], [0, 1, 5, 9, 10, 11], [0, 1, 5, 9, 10, 11], [4]] : List (List Nat))[i]?, exit := fun i => ([[5], [0, 1, 5, 9, 10, 11]] : List (List Nat))[i]?, ret := some [4] }
noncomputable def r64_L0_R (call : CallF) (fuel base n : Nat) (vs : List Value) (m : M) (K : KT) : Res2 := match vs with
  | [x0, x1, x5, x9, x10, x11] => r64_L0 call fuel base (fun v m => K (.pan v) { n := 36, l := [] } m) (fun y5 m => K (.exit 0) { n := 36, l := [(5, y5)] } m) n x0 x1 x5 x9 x10 x11 m
  | _ => none
noncomputable def lp64 (call : CallF) (fuel base : Nat) : Lp := lpsel [(0, fun T m K => kslots 36 [0, 1, 5, 9, 10, 11] T fun vs => r64_L0_R call fuel base fuel vs m K)]
noncomputable def c64 : Code := Tryd.f64.body.getD .skip
theorem r64_L0_lk (call : CallF) (fuel base : Nat) : LoopsOk E call (lp64 call fuel base) fuel base 0 (loopB (blockB (seqR (seqL (seqR (seqR c64)))))) = (And True (And (And True True) (And (And True (And True (And True True))) True))) := by kernel_rfl
theorem r64_L0_ok (call : CallF) (fuel base : Nat) : LpOk E call (lp64 call fuel base) fuel base 0 (loopB (blockB (seqR (seqL (seqR (seqR c64)))))) := by
  refine loop_ok (kp := keep64) (hb := Eq.mpr (r64_L0_lk call fuel base) (And.intro trivial (And.intro (And.intro trivial trivial) (And.intro (And.intro trivial (And.intro trivial (And.intro trivial trivial))) trivial)))) 36 [0, 1, 5, 9, 10, 11] (fun n vs m K => r64_L0_R call fuel base n vs m K) ?_ ?_ (fun _ _ _ => rfl)
  · intro vs m K
    unfold r64_L0_R
    split <;> rfl
  · intro n vs m K hl
    match vs, hl with
    | [x0, x1, x5, x9, x10, x11], _ => show _ = _; kernel_rfl
theorem r64_eq (call : CallF) (fuel base : Nat) (x0 : Value) (x1 : Value) (m : M) : kbody E call keep64 (lp64 call fuel base) base Tryd.f64 [x0, x1] m = r64 call fuel base x0 x1 m := by
  kernel_rfl
noncomputable def rf64 : RF := fun call fuel base args m => match args with
  | [x0, x1] => r64 call fuel base x0 x1 m
  | _ => none
theorem r64_lk (call : CallF) (fuel base : Nat) : LoopsOk E call (lp64 call fuel base) fuel base 0 c64 = (And True (And True (And (And True (LpOk E call (lp64 call fuel base) fuel base 0 (loopB (blockB (seqR (seqL (seqR (seqR c64)))))))) (And True True)))) := by kernel_rfl
theorem r64_fn : E.P.funcs[64]? = some Tryd.f64 := by kernel_rfl
theorem r64_body : Tryd.f64.body = some c64 := by kernel_rfl
theorem rf64_ok : RFok E 64 rf64 := by
  refine ⟨Tryd.f64, r64_fn, fun call fuel base args m r _ h => ?_⟩
  unfold rf64 at h
  split at h
  · rw [← r64_eq] at h
    exact kbody_sound (c := c64) r64_body (Eq.mpr (r64_lk call fuel base) (And.intro trivial (And.intro trivial (And.intro (And.intro trivial (r64_L0_ok call fuel base)) (And.intro trivial trivial))))) h
  · simp at h
end Go.AM
namespace Go.AM
open Go Go.Proofs
noncomputable def r65 (call : CallF) (fuel base : Nat) (x0 : Value) (m : M) : Res2 :=
  (k1 (mbin E .andNot 58 x0 (.int .u64 9259542123273814144)) fun v4_1 => (k1 (mbin E .shl 58 v4_1 (.int .u64 1)) fun v5_2 => (fVal v5_2 fun v => some (.ret v, m))))
def keep65 : Keep := { region := fun i => ([[0], [2]] : List (List Nat))[i]?, exit := fun i => ([] : List (List Nat))[i]?, ret := some [2] }
noncomputable def lp65 (call : CallF) (fuel base : Nat) : Lp := lpsel []
noncomputable def c65 : Code := Tryd.f65.body.getD .skip
theorem r65_eq (call : CallF) (fuel base : Nat) (x0 : Value) (m : M) : kbody E call keep65 (lp65 call fuel base) base Tryd.f65 [x0] m = r65 call fuel base x0 m := by
  kernel_rfl
noncomputable def rf65 : RF := fun call fuel base args m => match args with
  | [x0] => r65 call fuel base x0 m
  | _ => none
theorem r65_lk (call : CallF) (fuel base : Nat) : LoopsOk E call (lp65 call fuel base) fuel base 0 c65 = (And True (And True True)) := by kernel_rfl
theorem r65_fn : E.P.funcs[65]? = some Tryd.f65 := by kernel_rfl
theorem r65_body : Tryd.f65.body = some c65 := by kernel_rfl
theorem rf65_ok : RFok E 65 rf65 := by
  refine ⟨Tryd.f65, r65_fn, fun call fuel base args m r _ h => ?_⟩
  unfold rf65 at h
  split at h
  · rw [← r65_eq] at h
    exact kbody_sound (c := c65) r65_body (Eq.mpr (r65_lk call fuel base) (And.intro trivial (And.intro trivial trivial))) h
  · simp at h
end Go.AM
namespace Go.AM
open Go Go.Proofs
noncomputable def r66 (call : CallF) (fuel base : Nat) (x0 : Value) (m : M) : Res2 :=
  (k1 (mbin E .shl 58 x0 (.int .u64 8)) fun v4_1 => (fVal v4_1 fun v => some (.ret v, m)))
def keep66 : Keep := { region := fun i => ([[0], [2]] : List (List Nat))[i]?, exit := fun i => ([] : List (List Nat))[i]?, ret := some [2] }
noncomputable def lp66 (call : CallF) (fuel base : Nat) : Lp := lpsel []
noncomputable def c66 : Code := Tryd.f66.body.getD .skip
theorem r66_eq (call : CallF) (fuel base : Nat) (x0 : Value) (m : M) : kbody E call keep66 (lp66 call fuel base) base Tryd.f66 [x0] m = r66 call fuel base x0 m := by
  kernel_rfl
noncomputable def rf66 : RF := fun call fuel base args m => match args with
  | [x0] => r66 call fuel base x0 m
  | _ => none
theorem r66_lk (call : CallF) (fuel base : Nat) : LoopsOk E call (lp66 call fuel base) fuel base 0 c66 = (And True (And True True)) := by kernel_rfl
theorem r66_fn : E.P.funcs[66]? = some Tryd.f66 := by kernel_rfl
theorem r66_body : Tryd.f66.body = some c66 := by kernel_rfl
theorem rf66_ok : RFok E 66 rf66 := by
  refine ⟨Tryd.f66, r66_fn, fun call fuel base args m r _ h => ?_⟩
  unfold rf66 at h
  split at h
  · rw [← r66_eq] at h
    exact kbody_sound (c := c66) r66_body (Eq.mpr (r66_lk call fuel base) (And.intro trivial (And.intro trivial trivial))) h
  · simp at h
end Go.AM
namespace Go.AM
open Go Go.Proofs
noncomputable def r68 (call : CallF) (fuel base : Nat) (x0 : Value) (m : M) : Res2 :=
  (k2 (xbox m x0) fun v1_1 m => (k2 (xalloc E.P m 68) fun v2_2 m => (k1 (mfieldAddr E.P 31 v1_1 2) fun v3_3 => (k1 (xload E.P m 4 v3_3) fun v4_4 => (kb v4_4 (k1 (mfieldAddr E.P 31 v1_1 0) fun v5_5 => (k1 (xload E.P m 3 v5_5) fun v6_6 => (k1 (mfieldAddr E.P 31 v1_1 1) fun v7_7 => (k1 (xload E.P m 3 v7_7) fun v8_8 => (k1 (mbin E .add 3 v8_8 (.int .i64 1)) fun v9_9 => (k1 (mbuild E.P 68 [(0, v6_6), (1, v9_9)]) fun v10_10 => (ks (xstore E.P base m 68 v2_2 v10_10) fun m => (k0 (mload E.P m 68 v2_2) fun r_11 => (fVal r_11 fun v => some (.ret v, m)))))))))) (k1 (mfieldAddr E.P 31 v1_1 0) fun v11_12 => (k1 (xload E.P m 3 v11_12) fun v12_13 => (k1 (mbin E .add 3 v12_13 (.int .i64 1)) fun v13_14 => (k1 (mfieldAddr E.P 31 v1_1 1) fun v14_15 => (k1 (xload E.P m 3 v14_15) fun v15_16 => (k1 (mbuild E.P 68 [(0, v13_14), (1, v15_16)]) fun v16_17 => (ks (xstore E.P base m 68 v2_2 v16_17) fun m => (k0 (mload E.P m 68 v2_2) fun r_18 => (fVal r_18 fun v => some (.ret v, m)))))))))))))))
def keep68 : Keep := { region := fun i => ([[1, 2], [1, 2, 4], [2], [2]] : List (List Nat))[i]?, exit := fun i => ([] : List (List Nat))[i]?, ret := some [2] }
noncomputable def lp68 (call : CallF) (fuel base : Nat) : Lp := lpsel []
noncomputable def c68 : Code := Tryd.f68.body.getD .skip
theorem r68_eq (call : CallF) (fuel base : Nat) (x0 : Value) (m : M) : kbody E call keep68 (lp68 call fuel base) base Tryd.f68 [x0] m = r68 call fuel base x0 m := by
  kernel_rfl
noncomputable def rf68 : RF := fun call fuel base args m => match args with
  | [x0] => r68 call fuel base x0 m
  | _ => none
theorem r68_lk (call : CallF) (fuel base : Nat) : LoopsOk E call (lp68 call fuel base) fuel base 0 c68 = (And True (And (And True (And (And True True) True)) (And True True))) := by kernel_rfl
theorem r68_fn : E.P.funcs[68]? = some Tryd.f68 := by kernel_rfl
theorem r68_body : Tryd.f68.body = some c68 := by kernel_rfl
theorem rf68_ok : RFok E 68 rf68 := by
  refine ⟨Tryd.f68, r68_fn, fun call fuel base args m r _ h => ?_⟩
  unfold rf68 at h
  split at h
  · rw [← r68_eq] at h
    exact kbody_sound (c := c68) r68_body (Eq.mpr (r68_lk call fuel base) (And.intro trivial (And.intro (And.intro trivial (And.intro (And.intro trivial trivial) trivial)) (And.intro trivial trivial)))) h
  · simp at h
end Go.AM
namespace Go.AM
open Go Go.Proofs
noncomputable def r69 (call : CallF) (fuel base : Nat) (x0 : Value) (x1 : Value) (m : M) : Res2 :=
  (k1 (mbin E .lss 3 x0 (.int .i64 0)) fun v6_1 => (kb v6_1 (fVal (.int .u64 0) fun v => some (.ret v, m)) (k1 (mbin E .geq 3 x0 (.int .i64 8)) fun v9_2 => (kb v9_2 (fVal (.int .u64 0) fun v => some (.ret v, m)) (k1 (mbin E .lss 3 x1 (.int .i64 0)) fun v13_3 => (kb v13_3 (fVal (.int .u64 0) fun v => some (.ret v, m)) (k1 (mbin E .geq 3 x1 (.int .i64 8)) fun v17_4 => (kb v17_4 (fVal (.int .u64 0) fun v => some (.ret v, m)) (k1 (mbin E .mul 3 x1 (.int .i64 8)) fun v20_5 => (k1 (mbin E .add 3 v20_5 x0) fun v22_6 => (k1 (mbin E .shl 58 (.int .u64 1) v22_6) fun v23_7 => (fVal v23_7 fun v => some (.ret v, m)))))))))))))
def keep69 : Keep := { region := fun i => ([[0, 1], [0, 1, 18], [4], [4]] : List (List Nat))[i]?, exit := fun i => ([] : List (List Nat))[i]?, ret := some [4] }
noncomputable def lp69 (call : CallF) (fuel base : Nat) : Lp := lpsel []
noncomputable def c69 : Code := Tryd.f69.body.getD .skip
theorem r69_eq (call : CallF) (fuel base : Nat) (x0 : Value) (x1 : Value) (m : M) : kbody E call keep69 (lp69 call fuel base) base Tryd.f69 [x0, x1] m = r69 call fuel base x0 x1 m := by
  kernel_rfl
noncomputable def rf69 : RF := fun call fuel base args m => match args with
  | [x0, x1] => r69 call fuel base x0 x1 m
  | _ => none
theorem r69_lk (call : CallF) (fuel base : Nat) : LoopsOk E call (lp69 call fuel base) fuel base 0 c69 = (And True (And (And True (And (And True True) True)) (And True True))) := by kernel_rfl
theorem r69_fn : E.P.funcs[69]? = some Tryd.f69 := by kernel_rfl
theorem r69_body : Tryd.f69.body = some c69 := by kernel_rfl
theorem rf69_ok : RFok E 69 rf69 := by
  refine ⟨Tryd.f69, r69_fn, fun call fuel base args m r _ h => ?_⟩
  unfold rf69 at h
  split at h
  · rw [← r69_eq] at h
    exact kbody_sound (c := c69) r69_body (Eq.mpr (r69_lk call fuel base) (And.intro trivial (And.intro (And.intro trivial (And.intro (And.intro trivial trivial) trivial)) (And.intro trivial trivial)))) h
  · simp at h
end Go.AM
namespace Go.AM
open Go Go.Proofs
noncomputable def r70_L0 (call : CallF) (fuel base : Nat) (kp : Value → M → Res2) (kx0 : Value → M → Res2) (n : Nat) : Value → Value → Value → Value → Value → M → Res2 :=
  Nat.rec (motive := fun _ => Value → Value → Value → Value → Value → M → Res2) (fun _ _ _ _ _ _ => none)
    (fun _ ih x3 x5 x9 x10 x11 m =>
      (k1 (mbin E .lss 3 x11 x10) fun v12_4 => (kb v12_4 (k1 (mindexAddr E.P 86 x9 x11) fun v13_5 => (k1 (xload E.P m 58 v13_5) fun v14_6 => (kc (call base 76 [v14_6] m) (fun v16_7 m => (k1 (mindexAddr E.P 98 x3 v16_7) fun v17_8 => (k1 (xload E.P m 58 v17_8) fun v18_9 => (k1 (mbin E .eql 58 v18_9 (.int .u64 0)) fun v19_10 => (kb v19_10 (k1 (mbin E .or 58 x5 v14_6) fun v22_11 => (k1 (mbin E .add 3 x11 (.int .i64 1)) fun v23_12 => (ih x3 v22_11 x9 x10 v23_12 m))) (k1 (mbin E .add 3 x11 (.int .i64 1)) fun v23_13 => (ih x3 x5 x9 x10 v23_13 m))))))) (fun v m => kp v m)))) (kx0 x5 m)))) n
noncomputable def r70 (call : CallF) (fuel base : Nat) (x0 : Value) (x1 : Value) (m : M) : Res2 :=
  (k2 (xbox m x1) fun v3_1 m => (kc (call base 75 [x0] m) (fun v9_2 m => (k2 (vcall E.P base m .len [86] [v9_2]) fun v10_3 m => (r70_L0 call fuel base (fun v m => some (.pan v, m)) (fun y5_14 m => (fVal y5_14 fun v => some (.ret v, m))) fuel v3_1 (.int .u64 0) v9_2 v10_3 (.int .i64 0) m))) (fun v m => some (.pan v, m))))
def keep70 : Keep := { region := fun i => ([[0, 3], [0, 3, 5], [3, 5, 9, 10, 11], [3, 5, 9, 10, 11, 12], [3, 5, 7, 9, 10, 11], [3, 5, 7, 9, 10, 11, 19], [3, 5, 9, 10, 11], [3, 5, 9, 10, 11], [4]] : List (List Nat))[i]?, exit := fun i => ([[5], [3, 5, 9, 10, 11]] : List (List Nat))[i]?, ret := some [4] }
noncomputable def r70_L0_R (call : CallF) (fuel base n : Nat) (vs : List Value) (m : M) (K : KT) : Res2 := match vs with
  | [x3, x5, x9, x10, x11] => r70_L0 call fuel base (fun v m => K (.pan v) { n := 25, l := [] } m) (fun y5 m => K (.exit 0) { n := 25, l := [(5, y5)] } m) n x3 x5 x9 x10 x11 m
  | _ => none
noncomputable def lp70 (call : CallF) (fuel base : Nat) : Lp := lpsel [(0, fun T m K => kslots 25 [3, 5, 9, 10, 11] T fun vs => r70_L0_R call fuel base fuel vs m K)]
noncomputable def c70 : Code := Tryd.f70.body.getD .skip
theorem r70_L0_lk (call : CallF) (fuel base : Nat) : LoopsOk E call (lp70 call fuel base) fuel base 0 (loopB (blockB (seqR (seqL (seqR (seqR c70)))))) = (And True (And (And True True) (And (And True (And True (And True True))) True))) := by kernel_rfl
theorem r70_L0_ok (call : CallF) (fuel base : Nat) : LpOk E call (lp70 call fuel base) fuel base 0 (loopB (blockB (seqR (seqL (seqR (seqR c70)))))) := by
  refine loop_ok (kp := keep70) (hb := Eq.mpr (r70_L0_lk call fuel base) (And.intro trivial (And.intro (And.intro trivial trivial) (And.intro (And.intro trivial (And.intro trivial (And.intro trivial trivial))) trivial)))) 25 [3, 5, 9, 10, 11] (fun n vs m K => r70_L0_R call fuel base n vs m K) ?_ ?_ (fun _ _ _ => rfl)
  · intro vs m K
    unfold r70_L0_R
    split <;> rfl
  · intro n vs m K hl
    match vs, hl with
    | [x3, x5, x9, x10, x11], _ => show _ = _; kernel_rfl
theorem r70_eq (call : CallF) (fuel base : Nat) (x0 : Value) (x1 : Value) (m : M) : kbody E call keep70 (lp70 call fuel base) base Tryd.f70 [x0, x1] m = r70 call fuel base x0 x1 m := by
  kernel_rfl
noncomputable def rf70 : RF := fun call fuel base args m => match args with
  | [x0, x1] => r70 call fuel base x0 x1 m
  | _ => none
theorem r70_lk (call : CallF) (fuel base : Nat) : LoopsOk E call (lp70 call fuel base) fuel base 0 c70 = (And True (And True (And (And True (LpOk E call (lp70 call fuel base) fuel base 0 (loopB (blockB (seqR (seqL (seqR (seqR c70)))))))) (And True True)))) := by kernel_rfl
theorem r70_fn : E.P.funcs[70]? = some Tryd.f70 := by kernel_rfl
theorem r70_body : Tryd.f70.body = some c70 := by kernel_rfl
theorem rf70_ok : RFok E 70 rf70 := by
  refine ⟨Tryd.f70, r70_fn, fun call fuel base args m r _ h => ?_⟩
  unfold rf70 at h
  split at h
  · rw [← r70_eq] at h
    exact kbody_sound (c := c70) r70_body (Eq.mpr (r70_lk call fuel base) (And.intro trivial (And.intro trivial (And.intro (And.intro trivial (r70_L0_ok call fuel base)) (And.intro trivial trivial))))) h
  · simp at h
end Go.AM
namespace Go.AM
open Go Go.Proofs
noncomputable def r71_L0 (call : CallF) (fuel base : Nat) (kp : Value → M → Res2) (kx0 : Value → Value → M → Res2) (n : Nat) : Value → Value → Value → Value → Value → Value → Value → M → Res2 :=
  Nat.rec (motive := fun _ => Value → Value → Value → Value → Value → Value → Value → M → Res2) (fun _ _ _ _ _ _ _ _ => none)
    (fun _ ih x2 x3 x4 x5 x11 x12 x13 m =>
      (k1 (mbin E .lss 3 x13 x12) fun v14_10 => (kb v14_10 (k1 (mindexAddr E.P 86 x11 x13) fun v15_11 => (k1 (xload E.P m 58 v15_11) fun v16_12 => (ks (xstore E.P base m 58 x4 (.int .u64 0)) fun m => (k1 (xload E.P m 63 x5) fun v17_13 => (kc (kv call base v17_13 [v16_12] m) (fun v19_14 m => (k1 (mbin E .add 3 x13 (.int .i64 1)) fun v20_15 => (ih x2 x3 x4 x5 x11 x12 v20_15 m))) (fun v m => kp v m)))))) (kx0 x2 x3 m)))) n
noncomputable def r71 (call : CallF) (fuel base : Nat) (x0 : Value) (m : M) : Res2 :=
  (k2 (xbox m x0) fun v1_1 m => (k2 (xalloc E.P m 98) fun v2_2 m => (k2 (xalloc E.P m 98) fun v3_3 m => (k2 (xalloc E.P m 58) fun v4_4 m => (k2 (xalloc E.P m 63) fun v5_5 m => (ks (xstore E.P base m 63 v5_5 (.func (.func 91) #[] #[v1_1, v4_4, v3_3, v5_5])) fun m => (k1 (xload E.P m 58 v1_1) fun v9_6 => (k1 (mbin E .and 58 v9_6 (.int .u64 12273903644374837845)) fun v10_7 => (kc (call base 75 [v10_7] m) (fun v11_8 m => (k2 (vcall E.P base m .len [86] [v11_8]) fun v12_9 m => (r71_L0 call fuel base (fun v m => some (.pan v, m)) (fun y2_16 y3_17 m => (k1 (xload E.P m 98 y3_17) fun v21_18 => (ks (xstore E.P base m 98 y2_16 v21_18) fun m => (k0 (mload E.P m 98 y2_16) fun r_19 => (fVal r_19 fun v => some (.ret v, m)))))) fuel v2_2 v3_3 v4_4 v5_5 v11_8 v12_9 (.int .i64 0) m))) (fun v m => some (.pan v, m)))))))))))
def keep71 : Keep := { region := fun i => ([[1, 2], [1, 2, 3], [1, 2, 3, 4], [1, 2, 3, 4, 5], [1, 2, 3, 4, 5], [2, 3, 4, 5, 11, 12, 13], [2, 3, 4, 5, 11, 12, 13, 14], [2, 3, 4, 5, 7, 11, 12, 13], [2, 3, 4, 5, 7, 11, 12, 13], [2, 3, 4, 5, 11, 12, 13], [2, 3, 4, 5, 11, 12, 13], [2]] : List (List Nat))[i]?, exit := fun i => ([[2, 3], [2, 3, 4, 5, 11, 12, 13]] : List (List Nat))[i]?, ret := some [2] }
noncomputable def r71_L0_R (call : CallF) (fuel base n : Nat) (vs : List Value) (m : M) (K : KT) : Res2 := match vs with
  | [x2, x3, x4, x5, x11, x12, x13] => r71_L0 call fuel base (fun v m => K (.pan v) { n := 22, l := [] } m) (fun y2 y3 m => K (.exit 0) { n := 22, l := [(2, y2), (3, y3)] } m) n x2 x3 x4 x5 x11 x12 x13 m
  | _ => none
noncomputable def lp71 (call : CallF) (fuel base : Nat) : Lp := lpsel [(0, fun T m K => kslots 22 [2, 3, 4, 5, 11, 12, 13] T fun vs => r71_L0_R call fuel base fuel vs m K)]
noncomputable def c71 : Code := Tryd.f71.body.getD .skip
theorem r71_L0_lk (call : CallF) (fuel base : Nat) : LoopsOk E call (lp71 call fuel base) fuel base 0 (loopB (blockB (seqR (seqL (seqR (seqR (seqR (seqR (seqR c71))))))))) = (And True (And (And True True) (And (And True (And True True)) True))) := by kernel_rfl
theorem r71_L0_ok (call : CallF) (fuel base : Nat) : LpOk E call (lp71 call fuel base) fuel base 0 (loopB (blockB (seqR (seqL (seqR (seqR (seqR (seqR (seqR c71))))))))) := by
  refine loop_ok (kp := keep71) (hb := Eq.mpr (r71_L0_lk call fuel base) (And.intro trivial (And.intro (And.intro trivial trivial) (And.intro (And.intro trivial (And.intro trivial trivial)) trivial)))) 22 [2, 3, 4, 5, 11, 12, 13] (fun n vs m K => r71_L0_R call fuel base n vs m K) ?_ ?_ (fun _ _ _ => rfl)
  · intro vs m K
    unfold r71_L0_R
    split <;> rfl
  · intro n vs m K hl
    match vs, hl with
    | [x2, x3, x4, x5, x11, x12, x13], _ => show _ = _; kernel_rfl
theorem r71_eq (call : CallF) (fuel base : Nat) (x0 : Value) (m : M) : kbody E call keep71 (lp71 call fuel base) base Tryd.f71 [x0] m = r71 call fuel base x0 m := by
  kernel_rfl
noncomputable def rf71 : RF := fun call fuel base args m => match args with
  | [x0] => r71 call fuel base x0 m
  | _ => none
theorem r71_lk (call : CallF) (fuel base : Nat) : LoopsOk E call (lp71 call fuel base) fuel base 0 c71 = (And True (And True (And True (And True (And True (And (And True (LpOk E call (lp71 call fuel base) fuel base 0 (loopB (blockB (seqR (seqL (seqR (seqR (seqR (seqR (seqR c71))))))))))) (And True True))))))) := by kernel_rfl
theorem r71_fn : E.P.funcs[71]? = some Tryd.f71 := by kernel_rfl
theorem r71_body : Tryd.f71.body = some c71 := by kernel_rfl
theorem rf71_ok : RFok E 71 rf71 := by
  refine ⟨Tryd.f71, r71_fn, fun call fuel base args m r _ h => ?_⟩
  unfold rf71 at h
  split at h
  · rw [← r71_eq] at h
    exact kbody_sound (c := c71) r71_body (Eq.mpr (r71_lk call fuel base) (And.intro trivial (And.intro trivial (And.intro trivial (And.intro trivial (And.intro trivial (And.intro (And.intro trivial (r71_L0_ok call fuel base)) (And.intro trivial trivial)))))))) h
  · simp at h
end Go.AM
namespace Go.AM
open Go Go.Proofs
noncomputable def r72 (call : CallF) (fuel base : Nat) (x0 : Value) (m : M) : Res2 :=
  (k1 (mun .neg x0) fun v5_1 => (k1 (mbin E .and 58 x0 v5_1) fun v6_2 => (fVal v6_2 fun v => some (.ret v, m))))
def keep72 : Keep := { region := fun i => ([[0], [2]] : List (List Nat))[i]?, exit := fun i => ([] : List (List Nat))[i]?, ret := some [2] }
noncomputable def lp72 (call : CallF) (fuel base : Nat) : Lp := lpsel []
noncomputable def c72 : Code := Tryd.f72.body.getD .skip
theorem r72_eq (call : CallF) (fuel base : Nat) (x0 : Value) (m : M) : kbody E call keep72 (lp72 call fuel base) base Tryd.f72 [x0] m = r72 call fuel base x0 m := by
  kernel_rfl
noncomputable def rf72 : RF := fun call fuel base args m => match args with
  | [x0] => r72 call fuel base x0 m
  | _ => none
theorem r72_lk (call : CallF) (fuel base : Nat) : LoopsOk E call (lp72 call fuel base) fuel base 0 c72 = (And True (And True True)) := by kernel_rfl
theorem r72_fn : E.P.funcs[72]? = some Tryd.f72 := by kernel_rfl
theorem r72_body : Tryd.f72.body = some c72 := by kernel_rfl
theorem rf72_ok : RFok E 72 rf72 := by
  refine ⟨Tryd.f72, r72_fn, fun call fuel base args m r _ h => ?_⟩
  unfold rf72 at h
  split at h
  · rw [← r72_eq] at h
    exact kbody_sound (c := c72) r72_body (Eq.mpr (r72_lk call fuel base) (And.intro trivial (And.intro trivial trivial))) h
  · simp at h
end Go.AM
namespace Go.AM
open Go Go.Proofs
noncomputable def r73 (call : CallF) (fuel base : Nat) (x0 : Value) (m : M) : Res2 :=
  (k2 (xalloc E.P m 68) fun v2_1 m => (kc (call base 76 [x0] m) (fun v4_2 m => (k1 (mbin E .rem 3 v4_2 (.int .i64 8)) fun v5_3 => (kc (call base 76 [x0] m) (fun v7_4 m => (k1 (mbin E .quo 3 v7_4 (.int .i64 8)) fun v8_5 => (k1 (mbuild E.P 68 [(0, v5_3), (1, v8_5)]) fun v9_6 => (ks (xstore E.P base m 68 v2_1 v9_6) fun m => (k0 (mload E.P m 68 v2_1) fun r_7 => (fVal r_7 fun v => some (.ret v, m))))))) (fun v m => some (.pan v, m))))) (fun v m => some (.pan v, m))))
def keep73 : Keep := { region := fun i => ([[0, 2], [2]] : List (List Nat))[i]?, exit := fun i => ([] : List (List Nat))[i]?, ret := some [2] }
noncomputable def lp73 (call : CallF) (fuel base : Nat) : Lp := lpsel []
noncomputable def c73 : Code := Tryd.f73.body.getD .skip
theorem r73_eq (call : CallF) (fuel base : Nat) (x0 : Value) (m : M) : kbody E call keep73 (lp73 call fuel base) base Tryd.f73 [x0] m = r73 call fuel base x0 m := by
  kernel_rfl
noncomputable def rf73 : RF := fun call fuel base args m => match args with
  | [x0] => r73 call fuel base x0 m
  | _ => none
theorem r73_lk (call : CallF) (fuel base : Nat) : LoopsOk E call (lp73 call fuel base) fuel base 0 c73 = (And True (And True True)) := by kernel_rfl
theorem r73_fn : E.P.funcs[73]? = some Tryd.f73 := by kernel_rfl
theorem r73_body : Tryd.f73.body = some c73 := by kernel_rfl
theorem rf73_ok : RFok E 73 rf73 := by
  refine ⟨Tryd.f73, r73_fn, fun call fuel base args m r _ h => ?_⟩
  unfold rf73 at h
  split at h
  · rw [← r73_eq] at h
    exact kbody_sound (c := c73) r73_body (Eq.mpr (r73_lk call fuel base) (And.intro trivial (And.intro trivial trivial))) h
  · simp at h
end Go.AM
namespace Go.AM
open Go Go.Proofs
noncomputable def r75_L0 (call : CallF) (fuel base : Nat) (kp : Value → M → Res2) (kx0 : Value → M → Res2) (n : Nat) : Value → Value → M → Res2 :=
  Nat.rec (motive := fun _ => Value → Value → M → Res2) (fun _ _ _ => none)
    (fun _ ih x0 x3 m =>
      (k1 (mbin E .neq 58 x0 (.int .u64 0)) fun v5_1 => (kb v5_1 (kc (call base 72 [x0] m) (fun v8_2 m => (k2 (xbuildSlice E.P m 86 1 [(0, v8_2)]) fun v9_3 m => (k2 (vcall E.P base m .append [86, 86] [x3, v9_3]) fun v10_4 m => (kc (call base 72 [x0] m) (fun v13_5 m => (k1 (mbin E .andNot 58 x0 v13_5) fun v14_6 => (ih v14_6 v10_4 m))) (fun v m => kp v m))))) (fun v m => kp v m)) (kx0 x3 m)))) n
noncomputable def r75 (call : CallF) (fuel base : Nat) (x0 : Value) (m : M) : Res2 :=
  (r75_L0 call fuel base (fun v m => some (.pan v, m)) (fun y3_7 m => (fVal y3_7 fun v => some (.ret v, m))) fuel x0 (.slice none 0 0) m)
def keep75 : Keep := { region := fun i => ([[0], [0, 3], [0, 3, 5], [0, 3], [0, 3], [2]] : List (List Nat))[i]?, exit := fun i => ([[3], [0, 3]] : List (List Nat))[i]?, ret := some [2] }
noncomputable def r75_L0_R (call : CallF) (fuel base n : Nat) (vs : List Value) (m : M) (K : KT) : Res2 := match vs with
  | [x0, x3] => r75_L0 call fuel base (fun v m => K (.pan v) { n := 16, l := [] } m) (fun y3 m => K (.exit 0) { n := 16, l := [(3, y3)] } m) n x0 x3 m
  | _ => none
noncomputable def lp75 (call : CallF) (fuel base : Nat) : Lp := lpsel [(0, fun T m K => kslots 16 [0, 3] T fun vs => r75_L0_R call fuel base fuel vs m K)]
noncomputable def c75 : Code := Tryd.f75.body.getD .skip
theorem r75_L0_lk (call : CallF) (fuel base : Nat) : LoopsOk E call (lp75 call fuel base) fuel base 0 (loopB (blockB (seqL (seqR (seqR c75))))) = (And (And True (And True True)) (And True True)) := by kernel_rfl
theorem r75_L0_ok (call : CallF) (fuel base : Nat) : LpOk E call (lp75 call fuel base) fuel base 0 (loopB (blockB (seqL (seqR (seqR c75))))) := by
  refine loop_ok (kp := keep75) (hb := Eq.mpr (r75_L0_lk call fuel base) (And.intro (And.intro trivial (And.intro trivial trivial)) (And.intro trivial trivial))) 16 [0, 3] (fun n vs m K => r75_L0_R call fuel base n vs m K) ?_ ?_ (fun _ _ _ => rfl)
  · intro vs m K
    unfold r75_L0_R
    split <;> rfl
  · intro n vs m K hl
    match vs, hl with
    | [x0, x3], _ => show _ = _; kernel_rfl
theorem r75_eq (call : CallF) (fuel base : Nat) (x0 : Value) (m : M) : kbody E call keep75 (lp75 call fuel base) base Tryd.f75 [x0] m = r75 call fuel base x0 m := by
  kernel_rfl
noncomputable def rf75 : RF := fun call fuel base args m => match args with
  | [x0] => r75 call fuel base x0 m
  | _ => none
theorem r75_lk (call : CallF) (fuel base : Nat) : LoopsOk E call (lp75 call fuel base) fuel base 0 c75 = (And True (And True (And (LpOk E call (lp75 call fuel base) fuel base 0 (loopB (blockB (seqL (seqR (seqR c75)))))) (And True True)))) := by kernel_rfl
theorem r75_fn : E.P.funcs[75]? = some Tryd.f75 := by kernel_rfl
theorem r75_body : Tryd.f75.body = some c75 := by kernel_rfl
theorem rf75_ok : RFok E 75 rf75 := by
  refine ⟨Tryd.f75, r75_fn, fun call fuel base args m r _ h => ?_⟩
  unfold rf75 at h
  split at h
  · rw [← r75_eq] at h
    exact kbody_sound (c := c75) r75_body (Eq.mpr (r75_lk call fuel base) (And.intro trivial (And.intro trivial (And.intro (r75_L0_ok call fuel base) (And.intro trivial trivial))))) h
  · simp at h
end Go.AM
namespace Go.AM
open Go Go.Proofs
noncomputable def r76 (call : CallF) (fuel base : Nat) (x0 : Value) (m : M) : Res2 :=
  (kc (call base 93 [x0] m) (fun v4_1 m => (fVal v4_1 fun v => some (.ret v, m))) (fun v m => some (.pan v, m)))
def keep76 : Keep := { region := fun i => ([[0], [2]] : List (List Nat))[i]?, exit := fun i => ([] : List (List Nat))[i]?, ret := some [2] }
noncomputable def lp76 (call : CallF) (fuel base : Nat) : Lp := lpsel []
noncomputable def c76 : Code := Tryd.f76.body.getD .skip
theorem r76_eq (call : CallF) (fuel base : Nat) (x0 : Value) (m : M) : kbody E call keep76 (lp76 call fuel base) base Tryd.f76 [x0] m = r76 call fuel base x0 m := by
  kernel_rfl
noncomputable def rf76 : RF := fun call fuel base args m => match args with
  | [x0] => r76 call fuel base x0 m
  | _ => none
theorem r76_lk (call : CallF) (fuel base : Nat) : LoopsOk E call (lp76 call fuel base) fuel base 0 c76 = (And True (And True True)) := by kernel_rfl
theorem r76_fn : E.P.funcs[76]? = some Tryd.f76 := by kernel_rfl
theorem r76_body : Tryd.f76.body = some c76 := by kernel_rfl
theorem rf76_ok : RFok E 76 rf76 := by
  refine ⟨Tryd.f76, r76_fn, fun call fuel base args m r _ h => ?_⟩
  unfold rf76 at h
  split at h
  · rw [← r76_eq] at h
    exact kbody_sound (c := c76) r76_body (Eq.mpr (r76_lk call fuel base) (And.intro trivial (And.intro trivial trivial))) h
  · simp at h
end Go.AM
namespace Go.AM
open Go Go.Proofs
noncomputable def r77 (call : CallF) (fuel base : Nat) (x0 : Value) (x1 : Value) (m : M) : Res2 :=
  (kc (call base 87 [x0] m) (fun v7_1 m => (kc (call base 65 [x0] m) (fun v9_2 m => (k1 (mbin E .or 58 v7_1 v9_2) fun v10_3 => (k1 (mbin E .and 58 v10_3 x1) fun v12_4 => (k1 (mbin E .neq 58 v12_4 (.int .u64 0)) fun v13_5 => (kb v13_5 (fVal (.int .i64 1) fun v => some (.ret v, m)) (kc (call base 88 [x0] m) (fun v16_6 m => (kc (call base 66 [x0] m) (fun v18_7 m => (k1 (mbin E .or 58 v16_6 v18_7) fun v19_8 => (k1 (mbin E .and 58 v19_8 x1) fun v21_9 => (k1 (mbin E .eql 58 v21_9 (.int .u64 0)) fun v22_10 => (kb v22_10 (fVal (.int .i64 0) fun v => some (.ret v, m)) (kc (call base 73 [x0] m) (fun v25_11 m => (k1 (mfield E.P 68 v25_11 0) fun v26_12 => (k1 (mbin E .rem 3 v26_12 (.int .i64 2)) fun v27_13 => (k1 (mbin E .eql 3 v27_13 (.int .i64 0)) fun v28_14 => (kb v28_14 (fVal (.int .i64 1) fun v => some (.ret v, m)) (fVal (.int .i64 (-1)) fun v => some (.ret v, m))))))) (fun v m => some (.pan v, m)))))))) (fun v m => some (.pan v, m)))) (fun v m => some (.pan v, m)))))))) (fun v m => some (.pan v, m)))) (fun v m => some (.pan v, m)))
def keep77 : Keep := { region := fun i => ([[0, 1], [4], [0, 1, 5], [4], [0, 14], [4], [23], [4]] : List (List Nat))[i]?, exit := fun i => ([[4]] : List (List Nat))[i]?, ret := some [4] }
noncomputable def lp77 (call : CallF) (fuel base : Nat) : Lp := lpsel []
noncomputable def c77 : Code := Tryd.f77.body.getD .skip
theorem r77_eq (call : CallF) (fuel base : Nat) (x0 : Value) (x1 : Value) (m : M) : kbody E call keep77 (lp77 call fuel base) base Tryd.f77 [x0, x1] m = r77 call fuel base x0 x1 m := by
  kernel_rfl
noncomputable def rf77 : RF := fun call fuel base args m => match args with
  | [x0, x1] => r77 call fuel base x0 x1 m
  | _ => none
theorem r77_lk (call : CallF) (fuel base : Nat) : LoopsOk E call (lp77 call fuel base) fuel base 0 c77 = (And True (And True (And (And True True) (And True (And (And True True) (And True (And (And True True) (And True True)))))))) := by kernel_rfl
theorem r77_fn : E.P.funcs[77]? = some Tryd.f77 := by kernel_rfl
theorem r77_body : Tryd.f77.body = some c77 := by kernel_rfl
theorem rf77_ok : RFok E 77 rf77 := by
  refine ⟨Tryd.f77, r77_fn, fun call fuel base args m r _ h => ?_⟩
  unfold rf77 at h
  split at h
  · rw [← r77_eq] at h
    exact kbody_sound (c := c77) r77_body (Eq.mpr (r77_lk call fuel base) (And.intro trivial (And.intro trivial (And.intro (And.intro trivial trivial) (And.intro trivial (And.intro (And.intro trivial trivial) (And.intro trivial (And.intro (And.intro trivial trivial) (And.intro trivial trivial))))))))) h
  · simp at h
end Go.AM
namespace Go.AM
open Go Go.Proofs
noncomputable def r78_L0 (call : CallF) (fuel base : Nat) (kp : Value → M → Res2) (kr : Value → M → Res2) (kx0 : Value → Value → Value → M → Res2) (n : Nat) : Value → Value → Value → Value → Value → Value → M → Res2 :=
  Nat.rec (motive := fun _ => Value → Value → Value → Value → Value → Value → M → Res2) (fun _ _ _ _ _ _ _ => none)
    (fun _ ih x0 x3 x4 x5 x10 x11 m =>
      (k1 (mbin E .lss 3 x11 x10) fun v12_4 => (kb v12_4 (kc (call base 95 [x0, x11] m) (fun v16_5 m => (k1 (mbin E .lss 3 v16_5 (.int .i64 0)) fun v18_6 => (kb v18_6 (kr (.int .i64 0) m) (k1 (mbin E .neq 3 v16_5 x11) fun v21_7 => (kb v21_7 (k1 (mindexAddr E.P 105 x0 v16_5) fun v28_8 => (k1 (xload E.P m 78 v28_8) fun v29_9 => (k1 (mindexAddr E.P 105 x0 x11) fun v32_10 => (k1 (xload E.P m 78 v32_10) fun v33_11 => (k1 (mindexAddr E.P 105 x0 x11) fun v34_12 => (ks (xstore E.P base m 78 v34_12 v29_9) fun m => (k1 (mindexAddr E.P 105 x0 v16_5) fun v35_13 => (ks (xstore E.P base m 78 v35_13 v33_11) fun m => (k1 (mun .not x5) fun v37_14 => (k1 (xload E.P m 118 x3) fun v41_15 => (kc (call base 96 [x0, x11, x4, v41_15] m) (fun v42_16 m => (k1 (mindexAddr E.P 105 x0 x11) fun v45_17 => (k1 (xload E.P m 78 v45_17) fun v46_18 => (k1 (mindexAddr E.P 78 v46_18 x11) fun v48_19 => (k1 (xload E.P m 3 v48_19) fun v49_20 => (k1 (mbin E .add 3 x11 (.int .i64 1)) fun v50_21 => (ih x0 x3 v49_20 v37_14 x10 v50_21 m))))))) (fun v m => kp v m)))))))))))) (k1 (xload E.P m 118 x3) fun v41_22 => (kc (call base 96 [x0, x11, x4, v41_22] m) (fun v42_23 m => (k1 (mindexAddr E.P 105 x0 x11) fun v45_24 => (k1 (xload E.P m 78 v45_24) fun v46_25 => (k1 (mindexAddr E.P 78 v46_25 x11) fun v48_26 => (k1 (xload E.P m 3 v48_26) fun v49_27 => (k1 (mbin E .add 3 x11 (.int .i64 1)) fun v50_28 => (ih x0 x3 v49_27 x5 x10 v50_28 m))))))) (fun v m => kp v m)))))))) (fun v m => kp v m)) (kx0 x3 x4 x5 m)))) n
noncomputable def r78 (call : CallF) (fuel base : Nat) (x0 : Value) (m : M) : Res2 :=
  (kc (call base 94 [] m) (fun v8_1 m => (k2 (xalloc E.P m 118) fun v3_2 m => (ks (xstore E.P base m 118 v3_2 v8_1) fun m => (k2 (vcall E.P base m .len [105] [x0]) fun v10_3 m => (r78_L0 call fuel base (fun v m => some (.pan v, m)) (fun y2_29 m => (fVal y2_29 fun v => some (.ret v, m))) (fun y3_30 y4_31 y5_32 m => (kb y5_32 (k1 (mfieldAddr E.P 118 y3_30 1) fun v52_33 => (k1 (xload E.P m 116 v52_33) fun v53_34 => (kc (kv call base v53_34 [(.int .i64 0), y4_31] m) (fun v55_35 m => (fVal v55_35 fun v => some (.ret v, m))) (fun v m => some (.pan v, m))))) (fVal y4_31 fun v => some (.ret v, m)))) fuel x0 v3_2 (.int .i64 1) (.bool false) v10_3 (.int .i64 0) m))))) (fun v m => some (.pan v, m)))
def keep78 : Keep := { region := fun i => ([[0], [0, 3], [0, 3, 4, 5], [0, 3, 4, 5, 10, 11], [0, 3, 4, 5, 10, 11, 12], [0, 3, 4, 5, 6, 10, 11], [0, 3, 4, 5, 6, 7, 10, 11], [0, 3, 4, 5, 6, 7, 10, 11, 18], [2], [0, 3, 4, 5, 6, 7, 10, 11, 21], [0, 3, 4, 5, 6, 10, 11], [0, 3, 4, 5, 6, 10, 11], [0, 3, 5, 6, 10, 11], [0, 3, 4, 5, 10, 11], [0, 3, 4, 5, 10, 11], [3, 4, 51], [2], [2]] : List (List Nat))[i]?, exit := fun i => ([[3, 4, 5], [0, 3, 4, 5, 10, 11]] : List (List Nat))[i]?, ret := some [2] }
noncomputable def r78_L0_R (call : CallF) (fuel base n : Nat) (vs : List Value) (m : M) (K : KT) : Res2 := match vs with
  | [x0, x3, x4, x5, x10, x11] => r78_L0 call fuel base (fun v m => K (.pan v) { n := 57, l := [] } m) (fun y2 m => K .ret { n := 57, l := [(2, y2)] } m) (fun y3 y4 y5 m => K (.exit 0) { n := 57, l := [(3, y3), (4, y4), (5, y5)] } m) n x0 x3 x4 x5 x10 x11 m
  | _ => none
noncomputable def lp78 (call : CallF) (fuel base : Nat) : Lp := lpsel [(0, fun T m K => kslots 57 [0, 3, 4, 5, 10, 11] T fun vs => r78_L0_R call fuel base fuel vs m K)]
noncomputable def c78 : Code := Tryd.f78.body.getD .skip
theorem r78_L0_lk (call : CallF) (fuel base : Nat) : LoopsOk E call (lp78 call fuel base) fuel base 0 (loopB (blockB (seqR (seqL (seqR (seqR (seqR c78))))))) = (And True (And (And True True) (And (And True (And True (And (And True (And (And True True) True)) (And (And True (And (And True True) True)) (And True True))))) True))) := by kernel_rfl
theorem r78_L0_ok (call : CallF) (fuel base : Nat) : LpOk E call (lp78 call fuel base) fuel base 0 (loopB (blockB (seqR (seqL (seqR (seqR (seqR c78))))))) := by
  refine loop_ok (kp := keep78) (hb := Eq.mpr (r78_L0_lk call fuel base) (And.intro trivial (And.intro (And.intro trivial trivial) (And.intro (And.intro trivial (And.intro trivial (And.intro (And.intro trivial (And.intro (And.intro trivial trivial) trivial)) (And.intro (And.intro trivial (And.intro (And.intro trivial trivial) trivial)) (And.intro trivial trivial))))) trivial)))) 57 [0, 3, 4, 5, 10, 11] (fun n vs m K => r78_L0_R call fuel base n vs m K) ?_ ?_ (fun _ _ _ => rfl)
  · intro vs m K
    unfold r78_L0_R
    split <;> rfl
  · intro n vs m K hl
    match vs, hl with
    | [x0, x3, x4, x5, x10, x11], _ => show _ = _; kernel_rfl
theorem r78_eq (call : CallF) (fuel base : Nat) (x0 : Value) (m : M) : kbody E call keep78 (lp78 call fuel base) base Tryd.f78 [x0] m = r78 call fuel base x0 m := by
  kernel_rfl
noncomputable def rf78 : RF := fun call fuel base args m => match args with
  | [x0] => r78 call fuel base x0 m
  | _ => none
theorem r78_lk (call : CallF) (fuel base : Nat) : LoopsOk E call (lp78 call fuel base) fuel base 0 c78 = (And True (And True (And True (And (And True (LpOk E call (lp78 call fuel base) fuel base 0 (loopB (blockB (seqR (seqL (seqR (seqR (seqR c78))))))))) (And (And True (And (And True True) True)) (And True True)))))) := by kernel_rfl
theorem r78_fn : E.P.funcs[78]? = some Tryd.f78 := by kernel_rfl
theorem r78_body : Tryd.f78.body = some c78 := by kernel_rfl
theorem rf78_ok : RFok E 78 rf78 := by
  refine ⟨Tryd.f78, r78_fn, fun call fuel base args m r _ h => ?_⟩
  unfold rf78 at h
  split at h
  · rw [← r78_eq] at h
    exact kbody_sound (c := c78) r78_body (Eq.mpr (r78_lk call fuel base) (And.intro trivial (And.intro trivial (And.intro trivial (And.intro (And.intro trivial (r78_L0_ok call fuel base)) (And.intro (And.intro trivial (And.intro (And.intro trivial trivial) trivial)) (And.intro trivial trivial))))))) h
  · simp at h
end Go.AM
namespace Go.AM
open Go Go.Proofs
noncomputable def r86_L0 (call : CallF) (fuel base : Nat) (kp : Value → M → Res2) (kr : Value → M → Res2) (n : Nat) : Value → Value → Value → M → Res2 :=
  Nat.rec (motive := fun _ => Value → Value → Value → M → Res2) (fun _ _ _ _ => none)
    (fun _ ih x0 x1 x2 m =>
      (kc (kv call base x2 [x0] m) (fun v11_1 m => (k1 (mbin E .and 58 v11_1 x1) fun v13_2 => (k1 (mbin E .or 58 x0 v13_2) fun v14_3 => (k1 (mbin E .eql 58 v14_3 x0) fun v17_4 => (kb v17_4 (kr x0 m) (ih v14_3 x1 x2 m)))))) (fun v m => kp v m))) n
noncomputable def r86 (call : CallF) (fuel base : Nat) (x0 : Value) (x1 : Value) (x2 : Value) (m : M) : Res2 :=
  (r86_L0 call fuel base (fun v m => some (.pan v, m)) (fun y6_5 m => (fVal y6_5 fun v => some (.ret v, m))) fuel x0 x1 x2 m)
def keep86 : Keep := { region := fun i => ([[0, 1, 2], [0, 1, 2, 7], [0, 1, 2, 7, 17], [6], [0, 1, 2]] : List (List Nat))[i]?, exit := fun i => ([[6], [0, 1, 2]] : List (List Nat))[i]?, ret := some [6] }
noncomputable def r86_L0_R (call : CallF) (fuel base n : Nat) (vs : List Value) (m : M) (K : KT) : Res2 := match vs with
  | [x0, x1, x2] => r86_L0 call fuel base (fun v m => K (.pan v) { n := 20, l := [] } m) (fun y6 m => K .ret { n := 20, l := [(6, y6)] } m) n x0 x1 x2 m
  | _ => none
noncomputable def lp86 (call : CallF) (fuel base : Nat) : Lp := lpsel [(0, fun T m K => kslots 20 [0, 1, 2] T fun vs => r86_L0_R call fuel base fuel vs m K)]
noncomputable def c86 : Code := Tryd.f86.body.getD .skip
theorem r86_L0_lk (call : CallF) (fuel base : Nat) : LoopsOk E call (lp86 call fuel base) fuel base 0 (loopB (blockB (seqR c86))) = (And True (And (And True (And (And True True) True)) True)) := by kernel_rfl
theorem r86_L0_ok (call : CallF) (fuel base : Nat) : LpOk E call (lp86 call fuel base) fuel base 0 (loopB (blockB (seqR c86))) := by
  refine loop_ok (kp := keep86) (hb := Eq.mpr (r86_L0_lk call fuel base) (And.intro trivial (And.intro (And.intro trivial (And.intro (And.intro trivial trivial) trivial)) trivial))) 20 [0, 1, 2] (fun n vs m K => r86_L0_R call fuel base n vs m K) ?_ ?_ (fun _ _ _ => rfl)
  · intro vs m K
    unfold r86_L0_R
    split <;> rfl
  · intro n vs m K hl
    match vs, hl with
    | [x0, x1, x2], _ => show _ = _; kernel_rfl
theorem r86_eq (call : CallF) (fuel base : Nat) (x0 : Value) (x1 : Value) (x2 : Value) (m : M) : kbody E call keep86 (lp86 call fuel base) base Tryd.f86 [x0, x1, x2] m = r86 call fuel base x0 x1 x2 m := by
  kernel_rfl
noncomputable def rf86 : RF := fun call fuel base args m => match args with
  | [x0, x1, x2] => r86 call fuel base x0 x1 x2 m
  | _ => none
theorem r86_lk (call : CallF) (fuel base : Nat) : LoopsOk E call (lp86 call fuel base) fuel base 0 c86 = (And True (LpOk E call (lp86 call fuel base) fuel base 0 (loopB (blockB (seqR c86))))) := by kernel_rfl
theorem r86_fn : E.P.funcs[86]? = some Tryd.f86 := by kernel_rfl
theorem r86_body : Tryd.f86.body = some c86 := by kernel_rfl
theorem rf86_ok : RFok E 86 rf86 := by
  refine ⟨Tryd.f86, r86_fn, fun call fuel base args m r _ h => ?_⟩
  unfold rf86 at h
  split at h
  · rw [← r86_eq] at h
    exact kbody_sound (c := c86) r86_body (Eq.mpr (r86_lk call fuel base) (And.intro trivial (r86_L0_ok call fuel base))) h
  · simp at h
end Go.AM
namespace Go.AM
open Go Go.Proofs
noncomputable def r87 (call : CallF) (fuel base : Nat) (x0 : Value) (m : M) : Res2 :=
  (k1 (mbin E .andNot 58 x0 (.int .u64 72340172838076673)) fun v4_1 => (k1 (mbin E .shr 58 v4_1 (.int .u64 1)) fun v5_2 => (fVal v5_2 fun v => some (.ret v, m))))
def keep87 : Keep := { region := fun i => ([[0], [2]] : List (List Nat))[i]?, exit := fun i => ([] : List (List Nat))[i]?, ret := some [2] }
noncomputable def lp87 (call : CallF) (fuel base : Nat) : Lp := lpsel []
noncomputable def c87 : Code := Tryd.f87.body.getD .skip
theorem r87_eq (call : CallF) (fuel base : Nat) (x0 : Value) (m : M) : kbody E call keep87 (lp87 call fuel base) base Tryd.f87 [x0] m = r87 call fuel base x0 m := by
  kernel_rfl
noncomputable def rf87 : RF := fun call fuel base args m => match args with
  | [x0] => r87 call fuel base x0 m
  | _ => none
theorem r87_lk (call : CallF) (fuel base : Nat) : LoopsOk E call (lp87 call fuel base) fuel base 0 c87 = (And True (And True True)) := by kernel_rfl
theorem r87_fn : E.P.funcs[87]? = some Tryd.f87 := by kernel_rfl
theorem r87_body : Tryd.f87.body = some c87 := by kernel_rfl
theorem rf87_ok : RFok E 87 rf87 := by
  refine ⟨Tryd.f87, r87_fn, fun call fuel base args m r _ h => ?_⟩
  unfold rf87 at h
  split at h
  · rw [← r87_eq] at h
    exact kbody_sound (c := c87) r87_body (Eq.mpr (r87_lk call fuel base) (And.intro trivial (And.intro trivial trivial))) h
  · simp at h
end Go.AM
namespace Go.AM
open Go Go.Proofs
noncomputable def r88 (call : CallF) (fuel base : Nat) (x0 : Value) (m : M) : Res2 :=
  (k1 (mbin E .shr 58 x0 (.int .u64 8)) fun v4_1 => (fVal v4_1 fun v => some (.ret v, m)))
def keep88 : Keep := { region := fun i => ([[0], [2]] : List (List Nat))[i]?, exit := fun i => ([] : List (List Nat))[i]?, ret := some [2] }
noncomputable def lp88 (call : CallF) (fuel base : Nat) : Lp := lpsel []
noncomputable def c88 : Code := Tryd.f88.body.getD .skip
theorem r88_eq (call : CallF) (fuel base : Nat) (x0 : Value) (m : M) : kbody E call keep88 (lp88 call fuel base) base Tryd.f88 [x0] m = r88 call fuel base x0 m := by
  kernel_rfl
noncomputable def rf88 : RF := fun call fuel base args m => match args with
  | [x0] => r88 call fuel base x0 m
  | _ => none
theorem r88_lk (call : CallF) (fuel base : Nat) : LoopsOk E call (lp88 call fuel base) fuel base 0 c88 = (And True (And True True)) := by kernel_rfl
theorem r88_fn : E.P.funcs[88]? = some Tryd.f88 := by kernel_rfl
theorem r88_body : Tryd.f88.body = some c88 := by kernel_rfl
theorem rf88_ok : RFok E 88 rf88 := by
  refine ⟨Tryd.f88, r88_fn, fun call fuel base args m r _ h => ?_⟩
  unfold rf88 at h
  split at h
  · rw [← r88_eq] at h
    exact kbody_sound (c := c88) r88_body (Eq.mpr (r88_lk call fuel base) (And.intro trivial (And.intro trivial trivial))) h
  · simp at h
end Go.AM
namespace Go.AM
open Go Go.Proofs
noncomputable def r89_L2 (call : CallF) (fuel base : Nat) (kp : Value → M → Res2) (kx2 : Value → Value → Value → Value → M → Res2) (n : Nat) : Value → Value → Value → Value → Value → Value → Value → M → Res2 :=
  Nat.rec (motive := fun _ => Value → Value → Value → Value → Value → Value → Value → M → Res2) (fun _ _ _ _ _ _ _ _ => none)
    (fun _ ih x1 x3 x4 x7 x8 x12 x13 m =>
      (k1 (mbin E .lss 3 x13 x12) fun v14_7 => (kb v14_7 (k1 (mbin E .eql 3 x13 (.int .i64 0)) fun v17_8 => (kb v17_8 (kc (call base 69 [x13, x4] m) (fun v39_9 m => (k1 (mbin E .or 58 x3 v39_9) fun v40_10 => (k1 (mbin E .add 3 x13 (.int .i64 1)) fun v41_11 => (ih x1 v40_10 x4 x7 x8 x12 v41_11 m)))) (fun v m => kp v m)) (k1 (mbin E .eql 3 x4 (.int .i64 0)) fun v20_12 => (kb v20_12 (kc (call base 69 [x13, x4] m) (fun v39_13 m => (k1 (mbin E .or 58 x3 v39_13) fun v40_14 => (k1 (mbin E .add 3 x13 (.int .i64 1)) fun v41_15 => (ih x1 v40_14 x4 x7 x8 x12 v41_15 m)))) (fun v m => kp v m)) (k1 (mfieldAddr E.P 60 x1 0) fun v24_16 => (k1 (xload E.P m 3 v24_16) fun v25_17 => (k1 (mbin E .sub 3 v25_17 (.int .i64 1)) fun v26_18 => (k1 (mbin E .eql 3 x13 v26_18) fun v27_19 => (kb v27_19 (kc (call base 69 [x13, x4] m) (fun v39_20 m => (k1 (mbin E .or 58 x3 v39_20) fun v40_21 => (k1 (mbin E .add 3 x13 (.int .i64 1)) fun v41_22 => (ih x1 v40_21 x4 x7 x8 x12 v41_22 m)))) (fun v m => kp v m)) (k1 (mfieldAddr E.P 60 x1 1) fun v31_23 => (k1 (xload E.P m 3 v31_23) fun v32_24 => (k1 (mbin E .sub 3 v32_24 (.int .i64 1)) fun v33_25 => (k1 (mbin E .eql 3 x4 v33_25) fun v34_26 => (kb v34_26 (kc (call base 69 [x13, x4] m) (fun v39_27 m => (k1 (mbin E .or 58 x3 v39_27) fun v40_28 => (k1 (mbin E .add 3 x13 (.int .i64 1)) fun v41_29 => (ih x1 v40_28 x4 x7 x8 x12 v41_29 m)))) (fun v m => kp v m)) (k1 (mbin E .add 3 x13 (.int .i64 1)) fun v41_30 => (ih x1 x3 x4 x7 x8 x12 v41_30 m)))))))))))))))) (kx2 x1 x3 x7 x8 m)))) n
noncomputable def r89_L0 (call : CallF) (fuel base : Nat) (kp : Value → M → Res2) (kx0 : Value → M → Res2) (n : Nat) : Value → Value → Value → Value → M → Res2 :=
  Nat.rec (motive := fun _ => Value → Value → Value → Value → M → Res2) (fun _ _ _ _ _ => none)
    (fun _ ih x1 x3 x7 x8 m =>
      (k1 (mbin E .lss 3 x8 x7) fun v9_4 => (kb v9_4 (k1 (mfieldAddr E.P 60 x1 0) fun v11_5 => (k1 (xload E.P m 3 v11_5) fun v12_6 => (r89_L2 call fuel base (fun v m => kp v m) (fun y1_31 y3_32 y7_33 y8_34 m => (k1 (mbin E .add 3 y8_34 (.int .i64 1)) fun v42_35 => (ih y1_31 y3_32 y7_33 v42_35 m))) fuel x1 x3 x8 x7 x8 v12_6 (.int .i64 0) m))) (kx0 x3 m)))) n
noncomputable def r89 (call : CallF) (fuel base : Nat) (x0 : Value) (m : M) : Res2 :=
  (k2 (xbox m x0) fun v1_1 m => (k1 (mfieldAddr E.P 60 v1_1 1) fun v6_2 => (k1 (xload E.P m 3 v6_2) fun v7_3 => (r89_L0 call fuel base (fun v m => some (.pan v, m)) (fun y3_36 m => (fVal y3_36 fun v => some (.ret v, m))) fuel v1_1 (.int .u64 0) v7_3 (.int .i64 0) m))))
def keep89 : Keep := { region := fun i => ([[1], [1, 3], [1, 3, 7, 8], [1, 3, 7, 8, 9], [1, 3, 4, 7, 8], [1, 3, 4, 7, 8, 12, 13], [1, 3, 4, 7, 8, 12, 13, 14], [1, 3, 4, 5, 7, 8, 12, 13], [1, 3, 4, 5, 7, 8, 12, 13, 35], [1, 3, 4, 7, 8, 12, 13], [1, 3, 4, 7, 8, 12, 13], [1, 3, 7, 8], [2]] : List (List Nat))[i]?, exit := fun i => ([[3], [1, 3, 7, 8], [1, 3, 7, 8], [1, 3, 4, 7, 8, 12, 13]] : List (List Nat))[i]?, ret := some [2] }
noncomputable def r89_L2_R (call : CallF) (fuel base n : Nat) (vs : List Value) (m : M) (K : KT) : Res2 := match vs with
  | [x1, x3, x4, x7, x8, x12, x13] => r89_L2 call fuel base (fun v m => K (.pan v) { n := 44, l := [] } m) (fun y1 y3 y7 y8 m => K (.exit 2) { n := 44, l := [(1, y1), (3, y3), (7, y7), (8, y8)] } m) n x1 x3 x4 x7 x8 x12 x13 m
  | _ => none
noncomputable def r89_L0_R (call : CallF) (fuel base n : Nat) (vs : List Value) (m : M) (K : KT) : Res2 := match vs with
  | [x1, x3, x7, x8] => r89_L0 call fuel base (fun v m => K (.pan v) { n := 44, l := [] } m) (fun y3 m => K (.exit 0) { n := 44, l := [(3, y3)] } m) n x1 x3 x7 x8 m
  | _ => none
noncomputable def lp89 (call : CallF) (fuel base : Nat) : Lp := lpsel [(2, fun T m K => kslots 44 [1, 3, 4, 7, 8, 12, 13] T fun vs => r89_L2_R call fuel base fuel vs m K), (0, fun T m K => kslots 44 [1, 3, 7, 8] T fun vs => r89_L0_R call fuel base fuel vs m K)]
noncomputable def c89 : Code := Tryd.f89.body.getD .skip
theorem r89_L2_lk (call : CallF) (fuel base : Nat) : LoopsOk E call (lp89 call fuel base) fuel base 2 (loopB (blockB (seqR (seqR (blockB (seqL (seqR (seqR (loopB (blockB (seqR (seqL (seqR (seqR c89)))))))))))))) = (And True (And (And True True) (And (And True (And True (And True True))) True))) := by kernel_rfl
theorem r89_L2_ok (call : CallF) (fuel base : Nat) : LpOk E call (lp89 call fuel base) fuel base 2 (loopB (blockB (seqR (seqR (blockB (seqL (seqR (seqR (loopB (blockB (seqR (seqL (seqR (seqR c89)))))))))))))) := by
  refine loop_ok (kp := keep89) (hb := Eq.mpr (r89_L2_lk call fuel base) (And.intro trivial (And.intro (And.intro trivial trivial) (And.intro (And.intro trivial (And.intro trivial (And.intro trivial trivial))) trivial)))) 44 [1, 3, 4, 7, 8, 12, 13] (fun n vs m K => r89_L2_R call fuel base n vs m K) ?_ ?_ (fun _ _ _ => rfl)
  · intro vs m K
    unfold r89_L2_R
    split <;> rfl
  · intro n vs m K hl
    match vs, hl with
    | [x1, x3, x4, x7, x8, x12, x13], _ => show _ = _; kernel_rfl
theorem r89_L0_lk (call : CallF) (fuel base : Nat) : LoopsOk E call (lp89 call fuel base) fuel base 0 (loopB (blockB (seqR (seqL (seqR (seqR c89)))))) = (And True (And (And True True) (And (And True (And True (LpOk E call (lp89 call fuel base) fuel base 2 (loopB (blockB (seqR (seqR (blockB (seqL (seqR (seqR (loopB (blockB (seqR (seqL (seqR (seqR c89))))))))))))))))) True))) := by kernel_rfl
theorem r89_L0_ok (call : CallF) (fuel base : Nat) : LpOk E call (lp89 call fuel base) fuel base 0 (loopB (blockB (seqR (seqL (seqR (seqR c89)))))) := by
  refine loop_ok (kp := keep89) (hb := Eq.mpr (r89_L0_lk call fuel base) (And.intro trivial (And.intro (And.intro trivial trivial) (And.intro (And.intro trivial (And.intro trivial (r89_L2_ok call fuel base))) trivial)))) 44 [1, 3, 7, 8] (fun n vs m K => r89_L0_R call fuel base n vs m K) ?_ ?_ (fun _ _ _ => rfl)
  · intro vs m K
    unfold r89_L0_R
    split <;> rfl
  · intro n vs m K hl
    match vs, hl with
    | [x1, x3, x7, x8], _ => show _ = _; kernel_rfl
theorem r89_eq (call : CallF) (fuel base : Nat) (x0 : Value) (m : M) : kbody E call keep89 (lp89 call fuel base) base Tryd.f89 [x0] m = r89 call fuel base x0 m := by
  kernel_rfl
noncomputable def rf89 : RF := fun call fuel base args m => match args with
  | [x0] => r89 call fuel base x0 m
  | _ => none
theorem r89_lk (call : CallF) (fuel base : Nat) : LoopsOk E call (lp89 call fuel base) fuel base 0 c89 = (And True (And True (And (And True (LpOk E call (lp89 call fuel base) fuel base 0 (loopB (blockB (seqR (seqL (seqR (seqR c89)))))))) (And True True)))) := by kernel_rfl
theorem r89_fn : E.P.funcs[89]? = some Tryd.f89 := by kernel_rfl
theorem r89_body : Tryd.f89.body = some c89 := by kernel_rfl
theorem rf89_ok : RFok E 89 rf89 := by
  refine ⟨Tryd.f89, r89_fn, fun call fuel base args m r _ h => ?_⟩
  unfold rf89 at h
  split at h
  · rw [← r89_eq] at h
    exact kbody_sound (c := c89) r89_body (Eq.mpr (r89_lk call fuel base) (And.intro trivial (And.intro trivial (And.intro (And.intro trivial (r89_L0_ok call fuel base)) (And.intro trivial trivial))))) h
  · simp at h
end Go.AM
namespace Go.AM
open Go Go.Proofs
noncomputable def r90 (call : CallF) (fuel base : Nat) (x0 : Value) (m : M) : Res2 :=
  (kc (call base 87 [x0] m) (fun v6_1 m => (k1 (mbin E .or 58 x0 v6_1) fun v7_2 => (kc (call base 65 [x0] m) (fun v9_3 m => (k1 (mbin E .or 58 v7_2 v9_3) fun v10_4 => (kc (call base 88 [v10_4] m) (fun v13_5 m => (k1 (mbin E .or 58 v10_4 v13_5) fun v14_6 => (kc (call base 66 [v10_4] m) (fun v16_7 m => (k1 (mbin E .or 58 v14_6 v16_7) fun v17_8 => (fVal v17_8 fun v => some (.ret v, m)))) (fun v m => some (.pan v, m))))) (fun v m => some (.pan v, m))))) (fun v m => some (.pan v, m))))) (fun v m => some (.pan v, m)))
def keep90 : Keep := { region := fun i => ([[0], [3], [2]] : List (List Nat))[i]?, exit := fun i => ([] : List (List Nat))[i]?, ret := some [2] }
noncomputable def lp90 (call : CallF) (fuel base : Nat) : Lp := lpsel []
noncomputable def c90 : Code := Tryd.f90.body.getD .skip
theorem r90_eq (call : CallF) (fuel base : Nat) (x0 : Value) (m : M) : kbody E call keep90 (lp90 call fuel base) base Tryd.f90 [x0] m = r90 call fuel base x0 m := by
  kernel_rfl
noncomputable def rf90 : RF := fun call fuel base args m => match args with
  | [x0] => r90 call fuel base x0 m
  | _ => none
theorem r90_lk (call : CallF) (fuel base : Nat) : LoopsOk E call (lp90 call fuel base) fuel base 0 c90 = (And True (And True (And True True))) := by kernel_rfl
theorem r90_fn : E.P.funcs[90]? = some Tryd.f90 := by kernel_rfl
theorem r90_body : Tryd.f90.body = some c90 := by kernel_rfl
theorem rf90_ok : RFok E 90 rf90 := by
  refine ⟨Tryd.f90, r90_fn, fun call fuel base args m r _ h => ?_⟩
  unfold rf90 at h
  split at h
  · rw [← r90_eq] at h
    exact kbody_sound (c := c90) r90_body (Eq.mpr (r90_lk call fuel base) (And.intro trivial (And.intro trivial (And.intro trivial trivial)))) h
  · simp at h
end Go.AM
namespace Go.AM
open Go Go.Proofs
noncomputable def r91_L0 (call : CallF) (fuel base : Nat) (kp : Value → M → Res2) (kr : Value → M → Res2) (n : Nat) : Value → Value → Value → Value → Value → M → Res2 :=
  Nat.rec (motive := fun _ => Value → Value → Value → Value → Value → M → Res2) (fun _ _ _ _ _ _ => none)
    (fun _ ih x0 x1 x2 x3 x4 m =>
      (kc (kB m (call m.length 60 [x0] m)) (fun v10_1 m => (k1 (xload E.P m 58 x1) fun v11_2 => (k1 (mbin E .and 58 v10_1 v11_2) fun v12_3 => (k1 (xload E.P m 58 x2) fun v13_4 => (k1 (mbin E .andNot 58 v12_3 v13_4) fun v14_5 => (kc (kB m (call m.length 72 [v14_5] m)) (fun v15_6 m => (k1 (mbin E .eql 58 v15_6 (.int .u64 0)) fun v17_7 => (kb v17_7 (kr (.bool false) m) (k1 (xload E.P m 58 x2) fun v18_8 => (k1 (mbin E .or 58 v18_8 v15_6) fun v20_9 => (ks (xstore E.P base m 58 x2 v20_9) fun m => (kc (call base 76 [v15_6] m) (fun v22_10 m => (k1 (mindexAddr E.P 98 x3 v22_10) fun v23_11 => (k1 (xload E.P m 58 v23_11) fun v24_12 => (k1 (mbin E .eql 58 v24_12 (.int .u64 0)) fun v26_13 => (kb v26_13 (kc (kB m (call m.length 76 [v15_6] m)) (fun v33_14 m => (kc (kB m (call m.length 76 [x0] m)) (fun v35_15 m => (k1 (mindexAddr E.P 98 x3 v33_14) fun v38_16 => (ks (xstore E.P base m 58 v38_16 x0) fun m => (k1 (mindexAddr E.P 98 x3 v35_15) fun v39_17 => (ks (xstore E.P base m 58 v39_17 v15_6) fun m => (kr (.bool true) m)))))) (fun _ _ => none))) (fun _ _ => none)) (k1 (xload E.P m 63 x4) fun v28_18 => (kc (kv call base v28_18 [v24_12] m) (fun v30_19 m => (kb v30_19 (kc (kB m (call m.length 76 [v15_6] m)) (fun v33_20 m => (kc (kB m (call m.length 76 [x0] m)) (fun v35_21 m => (k1 (mindexAddr E.P 98 x3 v33_20) fun v38_22 => (ks (xstore E.P base m 58 v38_22 x0) fun m => (k1 (mindexAddr E.P 98 x3 v35_21) fun v39_23 => (ks (xstore E.P base m 58 v39_23 v15_6) fun m => (kr (.bool true) m)))))) (fun _ _ => none))) (fun _ _ => none)) (ih x0 x1 x2 x3 x4 m))) (fun v m => kp v m)))))))) (fun v m => kp v m)))))))) (fun _ _ => none))))))) (fun _ _ => none))) n
noncomputable def r91 (call : CallF) (fuel base : Nat) (x0 : Value) (x1 : Value) (x2 : Value) (x3 : Value) (x4 : Value) (m : M) : Res2 :=
  (r91_L0 call fuel base (fun v m => some (.pan v, m)) (fun y6_24 m => (fVal y6_24 fun v => some (.ret v, m))) fuel x0 x1 x2 x3 x4 m)
def keep91 : Keep := { region := fun i => ([[0, 1, 2, 3, 4], [0, 1, 2, 3, 4, 7], [0, 1, 2, 3, 4, 7, 17], [6], [0, 1, 2, 3, 4, 7], [0, 1, 2, 3, 4, 7, 8], [0, 1, 2, 3, 4, 7, 31], [], [6]] : List (List Nat))[i]?, exit := fun i => ([[6], [0, 1, 2, 3, 4]] : List (List Nat))[i]?, ret := some [6] }
noncomputable def r91_L0_R (call : CallF) (fuel base n : Nat) (vs : List Value) (m : M) (K : KT) : Res2 := match vs with
  | [x0, x1, x2, x3, x4] => r91_L0 call fuel base (fun v m => K (.pan v) { n := 40, l := [] } m) (fun y6 m => K .ret { n := 40, l := [(6, y6)] } m) n x0 x1 x2 x3 x4 m
  | _ => none
noncomputable def lp91 (call : CallF) (fuel base : Nat) : Lp := lpsel [(0, fun T m K => kslots 40 [0, 1, 2, 3, 4] T fun vs => r91_L0_R call fuel base fuel vs m K)]
noncomputable def c91 : Code := Tryd.f91.body.getD .skip
theorem r91_L0_lk (call : CallF) (fuel base : Nat) : LoopsOk E call (lp91 call fuel base) fuel base 0 (loopB (blockB (seqR c91))) = (And True (And (And True (And (And True True) True)) (And True (And True (And True (And (And True (And True True)) True)))))) := by kernel_rfl
theorem r91_L0_ok (call : CallF) (fuel base : Nat) : LpOk E call (lp91 call fuel base) fuel base 0 (loopB (blockB (seqR c91))) := by
  refine loop_ok (kp := keep91) (hb := Eq.mpr (r91_L0_lk call fuel base) (And.intro trivial (And.intro (And.intro trivial (And.intro (And.intro trivial trivial) trivial)) (And.intro trivial (And.intro trivial (And.intro trivial (And.intro (And.intro trivial (And.intro trivial trivial)) trivial))))))) 40 [0, 1, 2, 3, 4] (fun n vs m K => r91_L0_R call fuel base n vs m K) ?_ ?_ (fun _ _ _ => rfl)
  · intro vs m K
    unfold r91_L0_R
    split <;> rfl
  · intro n vs m K hl
    match vs, hl with
    | [x0, x1, x2, x3, x4], _ => show _ = _; kernel_rfl
theorem r91_eq (call : CallF) (fuel base : Nat) (x0 : Value) (x1 : Value) (x2 : Value) (x3 : Value) (x4 : Value) (m : M) : kbody E call keep91 (lp91 call fuel base) base Tryd.f91 [x0, x1, x2, x3, x4] m = r91 call fuel base x0 x1 x2 x3 x4 m := by
  kernel_rfl
noncomputable def rf91 : RF := fun call fuel base args m => match args with
  | [x0, x1, x2, x3, x4] => r91 call fuel base x0 x1 x2 x3 x4 m
  | _ => none
theorem r91_lk (call : CallF) (fuel base : Nat) : LoopsOk E call (lp91 call fuel base) fuel base 0 c91 = (And True (LpOk E call (lp91 call fuel base) fuel base 0 (loopB (blockB (seqR c91))))) := by kernel_rfl
theorem r91_fn : E.P.funcs[91]? = some Tryd.f91 := by kernel_rfl
theorem r91_body : Tryd.f91.body = some c91 := by kernel_rfl
theorem rf91_ok : RFok E 91 rf91 := by
  refine ⟨Tryd.f91, r91_fn, fun call fuel base args m r _ h => ?_⟩
  unfold rf91 at h
  split at h
  · rw [← r91_eq] at h
    exact kbody_sound (c := c91) r91_body (Eq.mpr (r91_lk call fuel base) (And.intro trivial (r91_L0_ok call fuel base))) h
  · simp at h
end Go.AM
namespace Go.AM
open Go Go.Proofs
noncomputable def r94 (call : CallF) (fuel base : Nat) (m : M) : Res2 :=
  (k2 (xalloc E.P m 118) fun v0_1 m => (k1 (mbuild E.P 118 [(0, (.func (.func 101) #[] #[])), (1, (.func (.func 102) #[] #[])), (2, (.func (.func 103) #[] #[]))]) fun v1_2 => (ks (xstore E.P base m 118 v0_1 v1_2) fun m => (k0 (mload E.P m 118 v0_1) fun r_3 => (fVal r_3 fun v => some (.ret v, m))))))
def keep94 : Keep := { region := fun i => ([[0], [0]] : List (List Nat))[i]?, exit := fun i => ([] : List (List Nat))[i]?, ret := some [0] }
noncomputable def lp94 (call : CallF) (fuel base : Nat) : Lp := lpsel []
noncomputable def c94 : Code := Tryd.f94.body.getD .skip
theorem r94_eq (call : CallF) (fuel base : Nat) (m : M) : kbody E call keep94 (lp94 call fuel base) base Tryd.f94 [] m = r94 call fuel base  m := by
  kernel_rfl
noncomputable def rf94 : RF := fun call fuel base args m => match args with
  | [] => r94 call fuel base  m
  | _ => none
theorem r94_lk (call : CallF) (fuel base : Nat) : LoopsOk E call (lp94 call fuel base) fuel base 0 c94 = (And True (And True True)) := by kernel_rfl
theorem r94_fn : E.P.funcs[94]? = some Tryd.f94 := by kernel_rfl
theorem r94_body : Tryd.f94.body = some c94 := by kernel_rfl
theorem rf94_ok : RFok E 94 rf94 := by
  refine ⟨Tryd.f94, r94_fn, fun call fuel base args m r _ h => ?_⟩
  unfold rf94 at h
  split at h
  · rw [← r94_eq] at h
    exact kbody_sound (c := c94) r94_body (Eq.mpr (r94_lk call fuel base) (And.intro trivial (And.intro trivial trivial))) h
  · simp at h
end Go.AM
namespace Go.AM
open Go Go.Proofs
noncomputable def r95_L0 (call : CallF) (fuel base : Nat) (kr : Value → M → Res2) (kx0 : M → Res2) (n : Nat) : Value → Value → Value → M → Res2 :=
  Nat.rec (motive := fun _ => Value → Value → Value → M → Res2) (fun _ _ _ _ => none)
    (fun _ ih x0 x1 x5 m =>
      (k2 (vcall E.P base m .len [105] [x0]) fun v9_1 m => (k1 (mbin E .lss 3 x5 v9_1) fun v10_2 => (kb v10_2 (k1 (mindexAddr E.P 105 x0 x5) fun v15_3 => (k1 (xload E.P m 78 v15_3) fun v16_4 => (k1 (mindexAddr E.P 78 v16_4 x1) fun v18_5 => (k1 (xload E.P m 3 v18_5) fun v19_6 => (k1 (mbin E .neq 3 v19_6 (.int .i64 0)) fun v20_7 => (kb v20_7 (kr x5 m) (k1 (mbin E .add 3 x5 (.int .i64 1)) fun v12_8 => (ih x0 x1 v12_8 m)))))))) (kx0 m))))) n
noncomputable def r95 (call : CallF) (fuel base : Nat) (x0 : Value) (x1 : Value) (m : M) : Res2 :=
  (r95_L0 call fuel base (fun y4_9 m => (fVal y4_9 fun v => some (.ret v, m))) (fun m => (fVal (.int .i64 (-1)) fun v => some (.ret v, m))) fuel x0 x1 x1 m)
def keep95 : Keep := { region := fun i => ([[0, 1], [0, 1, 5], [0, 1, 5, 10], [0, 1, 5], [0, 1, 5, 20], [4], [4]] : List (List Nat))[i]?, exit := fun i => ([[], [0, 1, 5]] : List (List Nat))[i]?, ret := some [4] }
noncomputable def r95_L0_R (call : CallF) (fuel base n : Nat) (vs : List Value) (m : M) (K : KT) : Res2 := match vs with
  | [x0, x1, x5] => r95_L0 call fuel base (fun y4 m => K .ret { n := 22, l := [(4, y4)] } m) (fun m => K (.exit 0) { n := 22, l := [] } m) n x0 x1 x5 m
  | _ => none
noncomputable def lp95 (call : CallF) (fuel base : Nat) : Lp := lpsel [(0, fun T m K => kslots 22 [0, 1, 5] T fun vs => r95_L0_R call fuel base fuel vs m K)]
noncomputable def c95 : Code := Tryd.f95.body.getD .skip
theorem r95_L0_lk (call : CallF) (fuel base : Nat) : LoopsOk E call (lp95 call fuel base) fuel base 0 (loopB (blockB (seqR (seqL (seqR c95))))) = (And (And True (And True True)) (And (And True (And (And True True) True)) True)) := by kernel_rfl
theorem r95_L0_ok (call : CallF) (fuel base : Nat) : LpOk E call (lp95 call fuel base) fuel base 0 (loopB (blockB (seqR (seqL (seqR c95))))) := by
  refine loop_ok (kp := keep95) (hb := Eq.mpr (r95_L0_lk call fuel base) (And.intro (And.intro trivial (And.intro trivial trivial)) (And.intro (And.intro trivial (And.intro (And.intro trivial trivial) trivial)) trivial))) 22 [0, 1, 5] (fun n vs m K => r95_L0_R call fuel base n vs m K) ?_ ?_ (fun _ _ _ => rfl)
  · intro vs m K
    unfold r95_L0_R
    split <;> rfl
  · intro n vs m K hl
    match vs, hl with
    | [x0, x1, x5], _ => show _ = _; kernel_rfl
theorem r95_eq (call : CallF) (fuel base : Nat) (x0 : Value) (x1 : Value) (m : M) : kbody E call keep95 (lp95 call fuel base) base Tryd.f95 [x0, x1] m = r95 call fuel base x0 x1 m := by
  kernel_rfl
noncomputable def rf95 : RF := fun call fuel base args m => match args with
  | [x0, x1] => r95 call fuel base x0 x1 m
  | _ => none
theorem r95_lk (call : CallF) (fuel base : Nat) : LoopsOk E call (lp95 call fuel base) fuel base 0 c95 = (And True (And (And True (LpOk E call (lp95 call fuel base) fuel base 0 (loopB (blockB (seqR (seqL (seqR c95))))))) (And True True))) := by kernel_rfl
theorem r95_fn : E.P.funcs[95]? = some Tryd.f95 := by kernel_rfl
theorem r95_body : Tryd.f95.body = some c95 := by kernel_rfl
theorem rf95_ok : RFok E 95 rf95 := by
  refine ⟨Tryd.f95, r95_fn, fun call fuel base args m r _ h => ?_⟩
  unfold rf95 at h
  split at h
  · rw [← r95_eq] at h
    exact kbody_sound (c := c95) r95_body (Eq.mpr (r95_lk call fuel base) (And.intro trivial (And.intro (And.intro trivial (r95_L0_ok call fuel base)) (And.intro trivial trivial)))) h
  · simp at h
end Go.AM
namespace Go.AM
open Go Go.Proofs
noncomputable def r96_L2 (call : CallF) (fuel base : Nat) (kx2 : Value → Value → Value → Value → Value → M → Res2) (n : Nat) : Value → Value → Value → Value → Value → Value → M → Res2 :=
  Nat.rec (motive := fun _ => Value → Value → Value → Value → Value → Value → M → Res2) (fun _ _ _ _ _ _ _ => none)
    (fun _ ih x0 x1 x2 x7 x8 x9 m =>
      (k2 (vcall E.P base m .len [105] [x0]) fun v23_6 m => (k1 (mbin E .lss 3 x9 v23_6) fun v24_7 => (kb v24_7 (k1 (mfieldAddr E.P 118 x7 1) fun v27_8 => (k1 (xload E.P m 116 v27_8) fun v28_9 => (k1 (mfieldAddr E.P 118 x7 0) fun v29_10 => (k1 (xload E.P m 116 v29_10) fun v30_11 => (k1 (mindexAddr E.P 105 x0 x1) fun v33_12 => (k1 (xload E.P m 78 v33_12) fun v34_13 => (k1 (mindexAddr E.P 78 v34_13 x1) fun v36_14 => (k1 (xload E.P m 3 v36_14) fun v37_15 => (k1 (mindexAddr E.P 105 x0 x8) fun v40_16 => (k1 (xload E.P m 78 v40_16) fun v41_17 => (k1 (mindexAddr E.P 78 v41_17 x9) fun v43_18 => (k1 (xload E.P m 3 v43_18) fun v44_19 => (kc (kB m (kv call m.length v30_11 [v37_15, v44_19] m)) (fun v45_20 m => (k1 (mfieldAddr E.P 118 x7 0) fun v46_21 => (k1 (xload E.P m 116 v46_21) fun v47_22 => (k1 (mindexAddr E.P 105 x0 x8) fun v50_23 => (k1 (xload E.P m 78 v50_23) fun v51_24 => (k1 (mindexAddr E.P 78 v51_24 x1) fun v53_25 => (k1 (xload E.P m 3 v53_25) fun v54_26 => (k1 (mindexAddr E.P 105 x0 x1) fun v57_27 => (k1 (xload E.P m 78 v57_27) fun v58_28 => (k1 (mindexAddr E.P 78 v58_28 x9) fun v60_29 => (k1 (xload E.P m 3 v60_29) fun v61_30 => (kc (kB m (kv call m.length v47_22 [v54_26, v61_30] m)) (fun v62_31 m => (kc (kB m (kv call m.length v28_9 [v45_20, v62_31] m)) (fun v63_32 m => (k1 (mindexAddr E.P 105 x0 x8) fun v66_33 => (k1 (xload E.P m 78 v66_33) fun v67_34 => (k1 (mfieldAddr E.P 118 x7 2) fun v69_35 => (k1 (xload E.P m 116 v69_35) fun v70_36 => (kc (kB m (kv call m.length v70_36 [v63_32, x2] m)) (fun v73_37 m => (k1 (mindexAddr E.P 78 v67_34 x9) fun v74_38 => (ks (xstore E.P base m 3 v74_38 v73_37) fun m => (k1 (mbin E .add 3 x9 (.int .i64 1)) fun v26_39 => (ih x0 x1 x2 x7 x8 v26_39 m))))) (fun _ _ => none))))))) (fun _ _ => none))) (fun _ _ => none))))))))))))) (fun _ _ => none)))))))))))))) (kx2 x0 x1 x2 x7 x8 m))))) n
noncomputable def r96_L0 (call : CallF) (fuel base : Nat) (kx0 : M → Res2) (n : Nat) : Value → Value → Value → Value → Value → M → Res2 :=
  Nat.rec (motive := fun _ => Value → Value → Value → Value → Value → M → Res2) (fun _ _ _ _ _ _ => none)
    (fun _ ih x0 x1 x2 x7 x8 m =>
      (k2 (vcall E.P base m .len [105] [x0]) fun v15_3 m => (k1 (mbin E .lss 3 x8 v15_3) fun v16_4 => (kb v16_4 (k1 (mbin E .add 3 x1 (.int .i64 1)) fun v20_5 => (r96_L2 call fuel base (fun y0_40 y1_41 y2_42 y7_43 y8_44 m => (k1 (mbin E .add 3 y8_44 (.int .i64 1)) fun v18_45 => (ih y0_40 y1_41 y2_42 y7_43 v18_45 m))) fuel x0 x1 x2 x7 x8 v20_5 m)) (kx0 m))))) n
noncomputable def r96 (call : CallF) (fuel base : Nat) (x0 : Value) (x1 : Value) (x2 : Value) (x3 : Value) (m : M) : Res2 :=
  (k2 (xbox m x3) fun v7_1 m => (k1 (mbin E .add 3 x1 (.int .i64 1)) fun v12_2 => (r96_L0 call fuel base (fun m => (some (.ret (.tuple #[]), m))) fuel x0 x1 x2 v7_1 v12_2 m)))
def keep96 : Keep := { region := fun i => ([[0, 1, 2, 7], [0, 1, 2, 7, 8], [0, 1, 2, 7, 8, 16], [0, 1, 2, 7, 8], [0, 1, 2, 7, 8, 9], [0, 1, 2, 7, 8, 9, 24], [0, 1, 2, 7, 8, 9], [0, 1, 2, 7, 8, 9, 10], [0, 1, 2, 7, 8, 9]] : List (List Nat))[i]?, exit := fun i => ([[], [0, 1, 2, 7, 8], [0, 1, 2, 7, 8], [0, 1, 2, 7, 8, 9]] : List (List Nat))[i]?, ret := some [] }
noncomputable def r96_L2_R (call : CallF) (fuel base n : Nat) (vs : List Value) (m : M) (K : KT) : Res2 := match vs with
  | [x0, x1, x2, x7, x8, x9] => r96_L2 call fuel base (fun y0 y1 y2 y7 y8 m => K (.exit 2) { n := 75, l := [(0, y0), (1, y1), (2, y2), (7, y7), (8, y8)] } m) n x0 x1 x2 x7 x8 x9 m
  | _ => none
noncomputable def r96_L0_R (call : CallF) (fuel base n : Nat) (vs : List Value) (m : M) (K : KT) : Res2 := match vs with
  | [x0, x1, x2, x7, x8] => r96_L0 call fuel base (fun m => K (.exit 0) { n := 75, l := [] } m) n x0 x1 x2 x7 x8 m
  | _ => none
noncomputable def lp96 (call : CallF) (fuel base : Nat) : Lp := lpsel [(2, fun T m K => kslots 75 [0, 1, 2, 7, 8, 9] T fun vs => r96_L2_R call fuel base fuel vs m K), (0, fun T m K => kslots 75 [0, 1, 2, 7, 8] T fun vs => r96_L0_R call fuel base fuel vs m K)]
noncomputable def c96 : Code := Tryd.f96.body.getD .skip
theorem r96_L2_lk (call : CallF) (fuel base : Nat) : LoopsOk E call (lp96 call fuel base) fuel base 2 (loopB (blockB (seqR (blockB (seqL (seqR (loopB (blockB (seqR (seqR c96)))))))))) = (And (And True (And True True)) (And (And True True) True)) := by kernel_rfl
theorem r96_L2_ok (call : CallF) (fuel base : Nat) : LpOk E call (lp96 call fuel base) fuel base 2 (loopB (blockB (seqR (blockB (seqL (seqR (loopB (blockB (seqR (seqR c96)))))))))) := by
  refine loop_ok (kp := keep96) (hb := Eq.mpr (r96_L2_lk call fuel base) (And.intro (And.intro trivial (And.intro trivial trivial)) (And.intro (And.intro trivial trivial) trivial))) 75 [0, 1, 2, 7, 8, 9] (fun n vs m K => r96_L2_R call fuel base n vs m K) ?_ ?_ (fun _ _ _ => rfl)
  · intro vs m K
    unfold r96_L2_R
    split <;> rfl
  · intro n vs m K hl
    match vs, hl with
    | [x0, x1, x2, x7, x8, x9], _ => show _ = _; kernel_rfl
theorem r96_L0_lk (call : CallF) (fuel base : Nat) : LoopsOk E call (lp96 call fuel base) fuel base 0 (loopB (blockB (seqR (seqR c96)))) = (And (And True (And True True)) (And (And True (LpOk E call (lp96 call fuel base) fuel base 2 (loopB (blockB (seqR (blockB (seqL (seqR (loopB (blockB (seqR (seqR c96)))))))))))) True)) := by kernel_rfl
theorem r96_L0_ok (call : CallF) (fuel base : Nat) : LpOk E call (lp96 call fuel base) fuel base 0 (loopB (blockB (seqR (seqR c96)))) := by
  refine loop_ok (kp := keep96) (hb := Eq.mpr (r96_L0_lk call fuel base) (And.intro (And.intro trivial (And.intro trivial trivial)) (And.intro (And.intro trivial (r96_L2_ok call fuel base)) trivial))) 75 [0, 1, 2, 7, 8] (fun n vs m K => r96_L0_R call fuel base n vs m K) ?_ ?_ (fun _ _ _ => rfl)
  · intro vs m K
    unfold r96_L0_R
    split <;> rfl
  · intro n vs m K hl
    match vs, hl with
    | [x0, x1, x2, x7, x8], _ => show _ = _; kernel_rfl
theorem r96_eq (call : CallF) (fuel base : Nat) (x0 : Value) (x1 : Value) (x2 : Value) (x3 : Value) (m : M) : kbody E call keep96 (lp96 call fuel base) base Tryd.f96 [x0, x1, x2, x3] m = r96 call fuel base x0 x1 x2 x3 m := by
  kernel_rfl
noncomputable def rf96 : RF := fun call fuel base args m => match args with
  | [x0, x1, x2, x3] => r96 call fuel base x0 x1 x2 x3 m
  | _ => none
theorem r96_lk (call : CallF) (fuel base : Nat) : LoopsOk E call (lp96 call fuel base) fuel base 0 c96 = (And True (And True (LpOk E call (lp96 call fuel base) fuel base 0 (loopB (blockB (seqR (seqR c96))))))) := by kernel_rfl
theorem r96_fn : E.P.funcs[96]? = some Tryd.f96 := by kernel_rfl
theorem r96_body : Tryd.f96.body = some c96 := by kernel_rfl
theorem rf96_ok : RFok E 96 rf96 := by
  refine ⟨Tryd.f96, r96_fn, fun call fuel base args m r _ h => ?_⟩
  unfold rf96 at h
  split at h
  · rw [← r96_eq] at h
    exact kbody_sound (c := c96) r96_body (Eq.mpr (r96_lk call fuel base) (And.intro trivial (And.intro trivial (r96_L0_ok call fuel base)))) h
  · simp at h
end Go.AM
namespace Go.AM
open Go Go.Proofs
noncomputable def r101 (call : CallF) (fuel base : Nat) (x0 : Value) (x1 : Value) (m : M) : Res2 :=
  (k1 (mbin E .mul 3 x0 x1) fun v7_1 => (fVal v7_1 fun v => some (.ret v, m)))
def keep101 : Keep := { region := fun i => ([[0, 1], [4]] : List (List Nat))[i]?, exit := fun i => ([] : List (List Nat))[i]?, ret := some [4] }
noncomputable def lp101 (call : CallF) (fuel base : Nat) : Lp := lpsel []
noncomputable def c101 : Code := Tryd.f101.body.getD .skip
theorem r101_eq (call : CallF) (fuel base : Nat) (x0 : Value) (x1 : Value) (m : M) : kbody E call keep101 (lp101 call fuel base) base Tryd.f101 [x0, x1] m = r101 call fuel base x0 x1 m := by
  kernel_rfl
noncomputable def rf101 : RF := fun call fuel base args m => match args with
  | [x0, x1] => r101 call fuel base x0 x1 m
  | _ => none
theorem r101_lk (call : CallF) (fuel base : Nat) : LoopsOk E call (lp101 call fuel base) fuel base 0 c101 = (And True (And True True)) := by kernel_rfl
theorem r101_fn : E.P.funcs[101]? = some Tryd.f101 := by kernel_rfl
theorem r101_body : Tryd.f101.body = some c101 := by kernel_rfl
theorem rf101_ok : RFok E 101 rf101 := by
  refine ⟨Tryd.f101, r101_fn, fun call fuel base args m r _ h => ?_⟩
  unfold rf101 at h
  split at h
  · rw [← r101_eq] at h
    exact kbody_sound (c := c101) r101_body (Eq.mpr (r101_lk call fuel base) (And.intro trivial (And.intro trivial trivial))) h
  · simp at h
end Go.AM
namespace Go.AM
open Go Go.Proofs
noncomputable def r102 (call : CallF) (fuel base : Nat) (x0 : Value) (x1 : Value) (m : M) : Res2 :=
  (k1 (mbin E .sub 3 x0 x1) fun v7_1 => (fVal v7_1 fun v => some (.ret v, m)))
def keep102 : Keep := { region := fun i => ([[0, 1], [4]] : List (List Nat))[i]?, exit := fun i => ([] : List (List Nat))[i]?, ret := some [4] }
noncomputable def lp102 (call : CallF) (fuel base : Nat) : Lp := lpsel []
noncomputable def c102 : Code := Tryd.f102.body.getD .skip
theorem r102_eq (call : CallF) (fuel base : Nat) (x0 : Value) (x1 : Value) (m : M) : kbody E call keep102 (lp102 call fuel base) base Tryd.f102 [x0, x1] m = r102 call fuel base x0 x1 m := by
  kernel_rfl
noncomputable def rf102 : RF := fun call fuel base args m => match args with
  | [x0, x1] => r102 call fuel base x0 x1 m
  | _ => none
theorem r102_lk (call : CallF) (fuel base : Nat) : LoopsOk E call (lp102 call fuel base) fuel base 0 c102 = (And True (And True True)) := by kernel_rfl
theorem r102_fn : E.P.funcs[102]? = some Tryd.f102 := by kernel_rfl
theorem r102_body : Tryd.f102.body = some c102 := by kernel_rfl
theorem rf102_ok : RFok E 102 rf102 := by
  refine ⟨Tryd.f102, r102_fn, fun call fuel base args m r _ h => ?_⟩
  unfold rf102 at h
  split at h
  · rw [← r102_eq] at h
    exact kbody_sound (c := c102) r102_body (Eq.mpr (r102_lk call fuel base) (And.intro trivial (And.intro trivial trivial))) h
  · simp at h
end Go.AM
namespace Go.AM
open Go Go.Proofs
noncomputable def r103 (call : CallF) (fuel base : Nat) (x0 : Value) (x1 : Value) (m : M) : Res2 :=
  (k1 (mbin E .quo 3 x0 x1) fun v7_1 => (fVal v7_1 fun v => some (.ret v, m)))
def keep103 : Keep := { region := fun i => ([[0, 1], [4]] : List (List Nat))[i]?, exit := fun i => ([] : List (List Nat))[i]?, ret := some [4] }
noncomputable def lp103 (call : CallF) (fuel base : Nat) : Lp := lpsel []
noncomputable def c103 : Code := Tryd.f103.body.getD .skip
theorem r103_eq (call : CallF) (fuel base : Nat) (x0 : Value) (x1 : Value) (m : M) : kbody E call keep103 (lp103 call fuel base) base Tryd.f103 [x0, x1] m = r103 call fuel base x0 x1 m := by
  kernel_rfl
noncomputable def rf103 : RF := fun call fuel base args m => match args with
  | [x0, x1] => r103 call fuel base x0 x1 m
  | _ => none
theorem r103_lk (call : CallF) (fuel base : Nat) : LoopsOk E call (lp103 call fuel base) fuel base 0 c103 = (And True (And True True)) := by kernel_rfl
theorem r103_fn : E.P.funcs[103]? = some Tryd.f103 := by kernel_rfl
theorem r103_body : Tryd.f103.body = some c103 := by kernel_rfl
theorem rf103_ok : RFok E 103 rf103 := by
  refine ⟨Tryd.f103, r103_fn, fun call fuel base args m r _ h => ?_⟩
  unfold rf103 at h
  split at h
  · rw [← r103_eq] at h
    exact kbody_sound (c := c103) r103_body (Eq.mpr (r103_lk call fuel base) (And.intro trivial (And.intro trivial trivial))) h
  · simp at h
end Go.AM
namespace Go.AM
open Go Go.Proofs
noncomputable def tab : List (Nat × RF) := [(6, rf6), (12, rf12), (13, rf13), (19, rf19), (23, rf23), (24, rf24), (25, rf25), (27, rf27), (28, rf28), (29, rf29), (30, rf30), (31, rf31), (32, rf32), (33, rf33), (34, rf34), (37, rf37), (38, rf38), (39, rf39), (40, rf40), (41, rf41), (42, rf42), (47, rf47), (48, rf48), (49, rf49), (50, rf50), (51, rf51), (53, rf53), (59, rf59), (60, rf60), (61, rf61), (62, rf62), (63, rf63), (64, rf64), (65, rf65), (66, rf66), (68, rf68), (69, rf69), (70, rf70), (71, rf71), (72, rf72), (73, rf73), (75, rf75), (76, rf76), (77, rf77), (78, rf78), (86, rf86), (87, rf87), (88, rf88), (89, rf89), (90, rf90), (91, rf91), (94, rf94), (95, rf95), (96, rf96), (101, rf101), (102, rf102), (103, rf103)]
theorem tab_ok : ∀ p ∈ tab, RFok E p.1 p.2 := by
  unfold tab
  simp only [List.mem_cons, forall_eq_or_imp, List.not_mem_nil, false_imp_iff, implies_true, and_true]
  exact ⟨rf6_ok, rf12_ok, rf13_ok, rf19_ok, rf23_ok, rf24_ok, rf25_ok, rf27_ok, rf28_ok, rf29_ok, rf30_ok, rf31_ok, rf32_ok, rf33_ok, rf34_ok, rf37_ok, rf38_ok, rf39_ok, rf40_ok, rf41_ok, rf42_ok, rf47_ok, rf48_ok, rf49_ok, rf50_ok, rf51_ok, rf53_ok, rf59_ok, rf60_ok, rf61_ok, rf62_ok, rf63_ok, rf64_ok, rf65_ok, rf66_ok, rf68_ok, rf69_ok, rf70_ok, rf71_ok, rf72_ok, rf73_ok, rf75_ok, rf76_ok, rf77_ok, rf78_ok, rf86_ok, rf87_ok, rf88_ok, rf89_ok, rf90_ok, rf91_ok, rf94_ok, rf95_ok, rf96_ok, rf101_ok, rf102_ok, rf103_ok⟩
noncomputable def rc (n : Nat) : CallF := rcall E.pure tab n
theorem rc_sound (n : Nat) : SoundCall E (rc n) := rcall_sound E_good E_mix _ tab_ok n
theorem rc_imp {f : FuncId} {rf : RF} (hf : rfind f tab = some rf) (hp : E.pure f = false) (n base : Nat) (args : List Value) (m : M) : rc (n + 1) base f args m = rf (rc n) n base args m := by
  show rcall E.pure tab (n + 1) base f args m = _
  unfold rcall
  simp only [hf, hp]
  rfl
theorem rc_pure {f : FuncId} {rf : RF} (hf : rfind f tab = some rf) (hp : E.pure f = true) (n base : Nat) (args : List Value) (m m1 : M) (v : Value) (h : rf (rc n) n m.length args m = some (.ret v, m1)) (hv : vflat v = true) : rc (n + 1) base f args m = some (.ret v, m) := by
  show rcall E.pure tab (n + 1) base f args m = _
  unfold rcall
  simp only [hf, hp, xlen_eq, fNat_eq]
  have h' : rf (rcall E.pure tab n) n m.length args m = some (.ret v, m1) := h
  rw [h']
  simp only [hv]
end Go.AM
