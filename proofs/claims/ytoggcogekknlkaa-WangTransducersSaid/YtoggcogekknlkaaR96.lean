import Derived.KernelRfl
import Derived.Laws.BytesArg
import Derived.Laws.StructEq
import Derived.Test.YtoggcogekknlkaaRows
import Derived.WalkKit
import Derived.Test.YtoggcogekknlkaaAmB
import Derived.Test.YtoggcogekknlkaaAmModel
import Derived.Test.YtoggcogekknlkaaAmOps5
import Derived.Test.YtoggcogekknlkaaAmOps6
import Derived.Test.YtoggcogekknlkaaAmCode
import Derived.Test.YtoggcogekknlkaaAmX
import Derived.Test.YtoggcogekknlkaaAmEq
import Derived.Test.YtoggcogekknlkaaRBase
set_option linter.unusedVariables false
set_option linter.unusedSimpArgs false
set_option linter.unusedSectionVars false
namespace Go.AM
open Go Go.Proofs
noncomputable def r96_L0 (call : CallF) (fuel base : Nat) (kx0 : Value → Value → M → Res2) (n : Nat) : Value → Value → Value → Value → Value → M → Res2 :=
  Nat.rec (motive := fun _ => Value → Value → Value → Value → Value → M → Res2) (fun _ _ _ _ _ _ => none)
    (fun _ ih x4 x5 x17 x18 x19 m =>
      (k1 (mbin E .lss 3 x19 x18) fun v20_13 => (kb v20_13 (k1 (mindexAddr E.P 74 x17 x19) fun v21_14 => (k1 (xload E.P m 109 v21_14) fun v22_15 => (k2 (xalloc E.P m 109) fun v7_16 m => (ks (xstore E.P base m 109 v7_16 v22_15) fun m => (k1 (mfieldAddr E.P 109 v7_16 1) fun v24_17 => (kexv (mexact m v24_17) (k1 (xload E.P m 3 v24_17) fun v25_18 => (k1 (mfieldAddr E.P 109 v7_16 1) fun v27_19 => (k1 (xload E.P m 3 v27_19) fun v28_20 => (k1 (mindexAddr E.P 103 x4 v28_20) fun v29_21 => (k1 (xload E.P m 33 v29_21) fun v30_22 => (k1 (mfieldAddr E.P 109 v7_16 2) fun v31_23 => (k1 (xload E.P m 3 v31_23) fun v32_24 => (k2 (xbuildSlice E.P m 33 1 [(0, v32_24)]) fun v33_25 m => (kexv (mfull [v30_22, v33_25]) (k2 (vcall E.P base m .append [33, 33] [v30_22, v33_25]) fun v34_26 m => (k1 (mindexAddr E.P 103 x4 v25_18) fun v35_27 => (ks (xstore E.P base m 33 v35_27 v34_26) fun m => (k1 (mfieldAddr E.P 109 v7_16 2) fun v37_28 => (kexv (mexact m v37_28) (k1 (xload E.P m 3 v37_28) fun v38_29 => (k1 (mfieldAddr E.P 109 v7_16 2) fun v40_30 => (k1 (xload E.P m 3 v40_30) fun v41_31 => (k1 (mindexAddr E.P 103 x5 v41_31) fun v42_32 => (k1 (xload E.P m 33 v42_32) fun v43_33 => (k1 (mfieldAddr E.P 109 v7_16 1) fun v44_34 => (k1 (xload E.P m 3 v44_34) fun v45_35 => (k2 (xbuildSlice E.P m 33 1 [(0, v45_35)]) fun v46_36 m => (kexv (mfull [v43_33, v46_36]) (k2 (vcall E.P base m .append [33, 33] [v43_33, v46_36]) fun v47_37 m => (k1 (mindexAddr E.P 103 x5 v38_29) fun v48_38 => (ks (xstore E.P base m 33 v48_38 v47_37) fun m => (k1 (mbin E .add 3 x19 (.int .i64 1)) fun v49_39 => (ih x4 x5 x17 x18 v49_39 m)))))))))))))))))))))))))))))))))) (kx0 x4 x5 m)))) n
noncomputable def r96 (call : CallF) (fuel base : Nat) (x0 : Value) (m : M) : Res2 :=
  (k2 (xbox m x0) fun v1_1 m => (k1 (mfieldAddr E.P 76 v1_1 0) fun v8_2 => (k1 (xload E.P m 3 v8_2) fun v9_3 => (kc (kB m (call m.length 94 [v9_3] m)) (fun v10_4 m => (k2 (xmakeSlice E.P m 103 v10_4 v10_4) fun v11_5 m => (k1 (mfieldAddr E.P 76 v1_1 0) fun v12_6 => (k1 (xload E.P m 3 v12_6) fun v13_7 => (kc (kB m (call m.length 94 [v13_7] m)) (fun v14_8 m => (k2 (xmakeSlice E.P m 103 v14_8 v14_8) fun v15_9 m => (k1 (mfieldAddr E.P 76 v1_1 1) fun v16_10 => (k1 (xload E.P m 74 v16_10) fun v17_11 => (k2 (vcall E.P base m .len [74] [v17_11]) fun v18_12 m => (r96_L0 call fuel base (fun y4_40 y5_41 m => (some (.ret (.tuple #[y4_40, y5_41]), m))) fuel v11_5 v15_9 v17_11 v18_12 (.int .i64 0) m)))))) (fun _ _ => none)))))) (fun _ _ => none)))))
def keep96 : Keep := { region := fun i => ([[1], [1, 4, 5], [4, 5, 17, 18, 19], [4, 5, 17, 18, 19, 20], [4, 5, 7, 17, 18, 19], [4, 5, 7, 17, 18, 19], [4, 5, 17, 18, 19], [4, 5, 17, 18, 19], [2, 3]] : List (List Nat))[i]?, exit := fun i => ([[4, 5], [4, 5, 17, 18, 19]] : List (List Nat))[i]?, ret := some [2, 3] }
noncomputable def r96_L0_R (call : CallF) (fuel base n : Nat) (vs : List Value) (m : M) (K : KT) : Res2 := match vs with
  | [x4, x5, x17, x18, x19] => r96_L0 call fuel base (fun y4 y5 m => K (.exit 0) { n := 52, l := [(4, y4), (5, y5)] } m) n x4 x5 x17 x18 x19 m
  | _ => none
noncomputable def lp96 (call : CallF) (fuel base : Nat) : Lp := lpsel [(0, fun T m K => kslots 52 [4, 5, 17, 18, 19] T fun vs => r96_L0_R call fuel base fuel vs m K)]
noncomputable def c96 : Code := Try.f96.body.getD .skip
theorem r96_L0_lk (call : CallF) (fuel base : Nat) : LoopsOk E call (lp96 call fuel base) fuel base 0 (loopB (blockB (seqR (seqL (seqR (seqR c96)))))) = (And True (And (And True True) (And (And True (And True True)) True))) := by kernel_rfl
theorem r96_L0_ok (call : CallF) (fuel base : Nat) : LpOk E call (lp96 call fuel base) fuel base 0 (loopB (blockB (seqR (seqL (seqR (seqR c96)))))) := by
  refine loop_ok (kp := keep96) (hb := Eq.mpr (r96_L0_lk call fuel base) (And.intro trivial (And.intro (And.intro trivial trivial) (And.intro (And.intro trivial (And.intro trivial trivial)) trivial)))) 52 [4, 5, 17, 18, 19] (fun n vs m K => r96_L0_R call fuel base n vs m K) ?_ ?_ (fun _ _ _ => rfl)
  · intro vs m K
    unfold r96_L0_R
    split <;> rfl
  · intro n vs m K hl
    match vs, hl with
    | [x4, x5, x17, x18, x19], _ => show _ = _; kernel_rfl
theorem r96_eq (call : CallF) (fuel base : Nat) (x0 : Value) (m : M) : kbody E call keep96 (lp96 call fuel base) base Try.f96 [x0] m = r96 call fuel base x0 m := by
  kernel_rfl
noncomputable def rf96 : RF := fun call fuel base args m => match args with
  | [x0] => r96 call fuel base x0 m
  | _ => none
theorem r96_lk (call : CallF) (fuel base : Nat) : LoopsOk E call (lp96 call fuel base) fuel base 0 c96 = (And True (And True (And (And True (LpOk E call (lp96 call fuel base) fuel base 0 (loopB (blockB (seqR (seqL (seqR (seqR c96)))))))) (And True True)))) := by kernel_rfl
theorem r96_fn : E.P.funcs[96]? = some Try.f96 := by kernel_rfl
theorem r96_body : Try.f96.body = some c96 := by kernel_rfl
theorem rf96_ok : RFok E 96 rf96 := by
  refine ⟨Try.f96, r96_fn, fun call fuel base args m r _ h => ?_⟩
  unfold rf96 at h
  split at h
  · rw [← r96_eq] at h
    exact kbody_sound (c := c96) r96_body (Eq.mpr (r96_lk call fuel base) (And.intro trivial (And.intro trivial (And.intro (And.intro trivial (r96_L0_ok call fuel base)) (And.intro trivial trivial))))) h
  · simp at h
end Go.AM
namespace Go.AM
open Go Go.Proofs
noncomputable def r97 (call : CallF) (fuel base : Nat) (x0 : Value) (x1 : Value) (x2 : Value) (m : M) : Res2 :=
  (k1 (xload E.P m 33 x1) fun v5_1 => (k1 (mindexAddr E.P 33 v5_1 x0) fun v7_2 => (k1 (xload E.P m 3 v7_2) fun v8_3 => (k1 (xload E.P m 33 x2) fun v9_4 => (k1 (mindexAddr E.P 33 v9_4 (.int .i64 0)) fun v10_5 => (k1 (xload E.P m 3 v10_5) fun v11_6 => (k1 (mbin E .geq 3 v8_3 v11_6) fun v12_7 => (fVal v12_7 fun v => some (.ret v, m)))))))))
def keep97 : Keep := { region := fun i => ([[0, 1, 2], [4]] : List (List Nat))[i]?, exit := fun i => ([] : List (List Nat))[i]?, ret := some [4] }
noncomputable def lp97 (call : CallF) (fuel base : Nat) : Lp := lpsel []
noncomputable def c97 : Code := Try.f97.body.getD .skip
theorem r97_eq (call : CallF) (fuel base : Nat) (x0 : Value) (x1 : Value) (x2 : Value) (m : M) : kbody E call keep97 (lp97 call fuel base) base Try.f97 [x0, x1, x2] m = r97 call fuel base x0 x1 x2 m := by
  kernel_rfl
noncomputable def rf97 : RF := fun call fuel base args m => match args with
  | [x0, x1, x2] => r97 call fuel base x0 x1 x2 m
  | _ => none
theorem r97_lk (call : CallF) (fuel base : Nat) : LoopsOk E call (lp97 call fuel base) fuel base 0 c97 = (And True (And True True)) := by kernel_rfl
theorem r97_fn : E.P.funcs[97]? = some Try.f97 := by kernel_rfl
theorem r97_body : Try.f97.body = some c97 := by kernel_rfl
theorem rf97_ok : RFok E 97 rf97 := by
  refine ⟨Try.f97, r97_fn, fun call fuel base args m r _ h => ?_⟩
  unfold rf97 at h
  split at h
  · rw [← r97_eq] at h
    exact kbody_sound (c := c97) r97_body (Eq.mpr (r97_lk call fuel base) (And.intro trivial (And.intro trivial trivial))) h
  · simp at h
end Go.AM
namespace Go.AM
open Go Go.Proofs
noncomputable def r98_L0 (call : CallF) (fuel base : Nat) (kx0 : Value → Value → M → Res2) (n : Nat) : Value → Value → Value → Value → M → Res2 :=
  Nat.rec (motive := fun _ => Value → Value → Value → Value → M → Res2) (fun _ _ _ _ _ => none)
    (fun _ ih x2 x5 x15 x16 m =>
      (k1 (mbin E .lss 3 x16 x15) fun v17_7 => (kb v17_7 (k1 (mindexAddr E.P 23 x5 (.int .i64 0)) fun v20_8 => (k1 (xload E.P m 33 v20_8) fun v21_9 => (k1 (mindexAddr E.P 33 v21_9 x16) fun v23_10 => (ks (xstore E.P base m 3 v23_10 (.int .i64 1)) fun m => (k1 (mbin E .add 3 x16 (.int .i64 1)) fun v24_11 => (ih x2 x5 x15 v24_11 m)))))) (kx0 x2 x5 m)))) n
noncomputable def r98 (call : CallF) (fuel base : Nat) (x0 : Value) (x1 : Value) (m : M) : Res2 :=
  (k2 (xbox m x0) fun v2_1 m => (k1 (xload E.P m 76 v2_1) fun v9_2 => (kc (call base 104 [v9_2, x1] m) (fun v11_3 m => (k1 (mindexAddr E.P 23 v11_3 (.int .i64 0)) fun v13_4 => (k1 (xload E.P m 33 v13_4) fun v14_5 => (k2 (vcall E.P base m .len [33] [v14_5]) fun v15_6 m => (r98_L0 call fuel base (fun y2_12 y5_13 m => (k1 (xload E.P m 76 y2_12) fun v26_14 => (kc (call base 96 [v26_14] m) (fun v27_15 m => (k1 (mextract 0 v27_15) fun v28_16 => (k1 (mextract 1 v27_15) fun v29_17 => (kc (call base 117 [v29_17, y5_13] m) (fun v32_18 m => (fVal y5_13 fun v => some (.ret v, m))) (fun v m => some (.pan v, m)))))) (fun v m => some (.pan v, m))))) fuel v2_1 v11_3 v15_6 (.int .i64 0) m))))) (fun v m => some (.pan v, m)))))
def keep98 : Keep := { region := fun i => ([[1, 2], [2, 5], [2, 5, 15, 16], [2, 5, 15, 16, 17], [2, 5, 6, 15, 16], [2, 5, 15, 16], [2, 5, 15, 16], [5, 8], [5], [4]] : List (List Nat))[i]?, exit := fun i => ([[2, 5], [2, 5, 15, 16]] : List (List Nat))[i]?, ret := some [4] }
noncomputable def r98_L0_R (call : CallF) (fuel base n : Nat) (vs : List Value) (m : M) (K : KT) : Res2 := match vs with
  | [x2, x5, x15, x16] => r98_L0 call fuel base (fun y2 y5 m => K (.exit 0) { n := 34, l := [(2, y2), (5, y5)] } m) n x2 x5 x15 x16 m
  | _ => none
noncomputable def lp98 (call : CallF) (fuel base : Nat) : Lp := lpsel [(0, fun T m K => kslots 34 [2, 5, 15, 16] T fun vs => r98_L0_R call fuel base fuel vs m K)]
noncomputable def c98 : Code := Try.f98.body.getD .skip
theorem r98_L0_lk (call : CallF) (fuel base : Nat) : LoopsOk E call (lp98 call fuel base) fuel base 0 (loopB (blockB (seqR (seqL (seqR (seqR c98)))))) = (And True (And (And True True) (And (And True True) True))) := by kernel_rfl
theorem r98_L0_ok (call : CallF) (fuel base : Nat) : LpOk E call (lp98 call fuel base) fuel base 0 (loopB (blockB (seqR (seqL (seqR (seqR c98)))))) := by
  refine loop_ok (kp := keep98) (hb := Eq.mpr (r98_L0_lk call fuel base) (And.intro trivial (And.intro (And.intro trivial trivial) (And.intro (And.intro trivial trivial) trivial)))) 34 [2, 5, 15, 16] (fun n vs m K => r98_L0_R call fuel base n vs m K) ?_ ?_ (fun _ _ _ => rfl)
  · intro vs m K
    unfold r98_L0_R
    split <;> rfl
  · intro n vs m K hl
    match vs, hl with
    | [x2, x5, x15, x16], _ => show _ = _; kernel_rfl
theorem r98_eq (call : CallF) (fuel base : Nat) (x0 : Value) (x1 : Value) (m : M) : kbody E call keep98 (lp98 call fuel base) base Try.f98 [x0, x1] m = r98 call fuel base x0 x1 m := by
  kernel_rfl
noncomputable def rf98 : RF := fun call fuel base args m => match args with
  | [x0, x1] => r98 call fuel base x0 x1 m
  | _ => none
theorem r98_lk (call : CallF) (fuel base : Nat) : LoopsOk E call (lp98 call fuel base) fuel base 0 c98 = (And True (And True (And (And True (LpOk E call (lp98 call fuel base) fuel base 0 (loopB (blockB (seqR (seqL (seqR (seqR c98)))))))) (And True (And True (And True True)))))) := by kernel_rfl
theorem r98_fn : E.P.funcs[98]? = some Try.f98 := by kernel_rfl
theorem r98_body : Try.f98.body = some c98 := by kernel_rfl
theorem rf98_ok : RFok E 98 rf98 := by
  refine ⟨Try.f98, r98_fn, fun call fuel base args m r _ h => ?_⟩
  unfold rf98 at h
  split at h
  · rw [← r98_eq] at h
    exact kbody_sound (c := c98) r98_body (Eq.mpr (r98_lk call fuel base) (And.intro trivial (And.intro trivial (And.intro (And.intro trivial (r98_L0_ok call fuel base)) (And.intro trivial (And.intro trivial (And.intro trivial trivial))))))) h
  · simp at h
end Go.AM
namespace Go.AM
open Go Go.Proofs
noncomputable def r99 (call : CallF) (fuel base : Nat) (x0 : Value) (x1 : Value) (m : M) : Res2 :=
  (k1 (mbin E .add 3 x0 x1) fun v7_1 => (k2 (vcall E.P base m .min [3, 3] [v7_1, (.int .i64 1099511627777)]) fun v8_2 m => (fVal v8_2 fun v => some (.ret v, m))))
def keep99 : Keep := { region := fun i => ([[0, 1], [4]] : List (List Nat))[i]?, exit := fun i => ([] : List (List Nat))[i]?, ret := some [4] }
noncomputable def lp99 (call : CallF) (fuel base : Nat) : Lp := lpsel []
noncomputable def c99 : Code := Try.f99.body.getD .skip
theorem r99_eq (call : CallF) (fuel base : Nat) (x0 : Value) (x1 : Value) (m : M) : kbody E call keep99 (lp99 call fuel base) base Try.f99 [x0, x1] m = r99 call fuel base x0 x1 m := by
  kernel_rfl
noncomputable def rf99 : RF := fun call fuel base args m => match args with
  | [x0, x1] => r99 call fuel base x0 x1 m
  | _ => none
theorem r99_lk (call : CallF) (fuel base : Nat) : LoopsOk E call (lp99 call fuel base) fuel base 0 c99 = (And True (And True True)) := by kernel_rfl
theorem r99_fn : E.P.funcs[99]? = some Try.f99 := by kernel_rfl
theorem r99_body : Try.f99.body = some c99 := by kernel_rfl
theorem rf99_ok : RFok E 99 rf99 := by
  refine ⟨Try.f99, r99_fn, fun call fuel base args m r _ h => ?_⟩
  unfold rf99 at h
  split at h
  · rw [← r99_eq] at h
    exact kbody_sound (c := c99) r99_body (Eq.mpr (r99_lk call fuel base) (And.intro trivial (And.intro trivial trivial))) h
  · simp at h
end Go.AM
namespace Go.AM
open Go Go.Proofs
noncomputable def r104_L0 (call : CallF) (fuel base : Nat) (kp : Value → M → Res2) (kx0 : Value → M → Res2) (n : Nat) : Value → Value → Value → Value → M → Res2 :=
  Nat.rec (motive := fun _ => Value → Value → Value → Value → M → Res2) (fun _ _ _ _ _ => none)
    (fun _ ih x2 x5 x11 x12 m =>
      (k1 (mbin E .lss 3 x12 x11) fun v13_5 => (kb v13_5 (k1 (mfieldAddr E.P 76 x2 0) fun v17_6 => (k1 (xload E.P m 3 v17_6) fun v18_7 => (kc (call base 94 [v18_7] m) (fun v19_8 m => (k2 (xmakeSlice E.P m 33 v19_8 v19_8) fun v20_9 m => (k1 (mindexAddr E.P 23 x5 x12) fun v21_10 => (ks (xstore E.P base m 33 v21_10 v20_9) fun m => (k1 (mbin E .add 3 x12 (.int .i64 1)) fun v22_11 => (ih x2 x5 x11 v22_11 m)))))) (fun v m => kp v m)))) (kx0 x5 m)))) n
noncomputable def r104 (call : CallF) (fuel base : Nat) (x0 : Value) (x1 : Value) (m : M) : Res2 :=
  (k2 (xbox m x0) fun v2_1 m => (k1 (mbin E .add 3 x1 (.int .i64 1)) fun v8_2 => (k2 (xmakeSlice E.P m 23 v8_2 v8_2) fun v9_3 m => (k2 (vcall E.P base m .len [23] [v9_3]) fun v11_4 m => (r104_L0 call fuel base (fun v m => some (.pan v, m)) (fun y5_12 m => (fVal y5_12 fun v => some (.ret v, m))) fuel v2_1 v9_3 v11_4 (.int .i64 0) m)))))
def keep104 : Keep := { region := fun i => ([[1, 2], [2, 5], [2, 5, 11, 12], [2, 5, 11, 12, 13], [2, 5, 6, 11, 12], [2, 5, 11, 12], [2, 5, 11, 12], [4]] : List (List Nat))[i]?, exit := fun i => ([[5], [2, 5, 11, 12]] : List (List Nat))[i]?, ret := some [4] }
noncomputable def r104_L0_R (call : CallF) (fuel base n : Nat) (vs : List Value) (m : M) (K : KT) : Res2 := match vs with
  | [x2, x5, x11, x12] => r104_L0 call fuel base (fun v m => K (.pan v) { n := 24, l := [] } m) (fun y5 m => K (.exit 0) { n := 24, l := [(5, y5)] } m) n x2 x5 x11 x12 m
  | _ => none
noncomputable def lp104 (call : CallF) (fuel base : Nat) : Lp := lpsel [(0, fun T m K => kslots 24 [2, 5, 11, 12] T fun vs => r104_L0_R call fuel base fuel vs m K)]
noncomputable def c104 : Code := Try.f104.body.getD .skip
theorem r104_L0_lk (call : CallF) (fuel base : Nat) : LoopsOk E call (lp104 call fuel base) fuel base 0 (loopB (blockB (seqR (seqL (seqR (seqR c104)))))) = (And True (And (And True True) (And (And True True) True))) := by kernel_rfl
theorem r104_L0_ok (call : CallF) (fuel base : Nat) : LpOk E call (lp104 call fuel base) fuel base 0 (loopB (blockB (seqR (seqL (seqR (seqR c104)))))) := by
  refine loop_ok (kp := keep104) (hb := Eq.mpr (r104_L0_lk call fuel base) (And.intro trivial (And.intro (And.intro trivial trivial) (And.intro (And.intro trivial trivial) trivial)))) 24 [2, 5, 11, 12] (fun n vs m K => r104_L0_R call fuel base n vs m K) ?_ ?_ (fun _ _ _ => rfl)
  · intro vs m K
    unfold r104_L0_R
    split <;> rfl
  · intro n vs m K hl
    match vs, hl with
    | [x2, x5, x11, x12], _ => show _ = _; kernel_rfl
theorem r104_eq (call : CallF) (fuel base : Nat) (x0 : Value) (x1 : Value) (m : M) : kbody E call keep104 (lp104 call fuel base) base Try.f104 [x0, x1] m = r104 call fuel base x0 x1 m := by
  kernel_rfl
noncomputable def rf104 : RF := fun call fuel base args m => match args with
  | [x0, x1] => r104 call fuel base x0 x1 m
  | _ => none
theorem r104_lk (call : CallF) (fuel base : Nat) : LoopsOk E call (lp104 call fuel base) fuel base 0 c104 = (And True (And True (And (And True (LpOk E call (lp104 call fuel base) fuel base 0 (loopB (blockB (seqR (seqL (seqR (seqR c104)))))))) (And True True)))) := by kernel_rfl
theorem r104_fn : E.P.funcs[104]? = some Try.f104 := by kernel_rfl
theorem r104_body : Try.f104.body = some c104 := by kernel_rfl
theorem rf104_ok : RFok E 104 rf104 := by
  refine ⟨Try.f104, r104_fn, fun call fuel base args m r _ h => ?_⟩
  unfold rf104 at h
  split at h
  · rw [← r104_eq] at h
    exact kbody_sound (c := c104) r104_body (Eq.mpr (r104_lk call fuel base) (And.intro trivial (And.intro trivial (And.intro (And.intro trivial (r104_L0_ok call fuel base)) (And.intro trivial trivial))))) h
  · simp at h
end Go.AM
namespace Go.AM
open Go Go.Proofs
noncomputable def r106_L0 (call : CallF) (fuel base : Nat) (kx0 : Value → Value → M → Res2) (n : Nat) : Value → Value → Value → Value → Value → M → Res2 :=
  Nat.rec (motive := fun _ => Value → Value → Value → Value → Value → M → Res2) (fun _ _ _ _ _ _ => none)
    (fun _ ih x0 x3 x9 x10 x11 m =>
      (k1 (mbin E .lss 3 x11 x10) fun v12_2 => (kb v12_2 (k1 (mindexAddr E.P 23 x9 x11) fun v13_3 => (k1 (xload E.P m 33 v13_3) fun v14_4 => (k2 (vcall E.P base m .len [33] [v14_4]) fun v17_5 m => (k1 (mbin E .add 3 x3 v17_5) fun v18_6 => (k1 (mbin E .lss 3 v18_6 (.int .i64 0)) fun v20_7 => (kb v20_7 none (k1 (mbin E .add 3 x11 (.int .i64 1)) fun v22_8 => (ih x0 v18_6 x9 x10 v22_8 m)))))))) (kx0 x0 x3 m)))) n
noncomputable def r106_L2 (call : CallF) (fuel base : Nat) (kx2 : Value → M → Res2) (n : Nat) : Value → Value → Value → Value → M → Res2 :=
  Nat.rec (motive := fun _ => Value → Value → Value → Value → M → Res2) (fun _ _ _ _ _ => none)
    (fun _ ih x6 x25 x26 x27 m =>
      (k1 (mbin E .lss 3 x27 x26) fun v28_13 => (kb v28_13 (k1 (mindexAddr E.P 23 x25 x27) fun v29_14 => (k1 (xload E.P m 33 v29_14) fun v30_15 => (k2 (vcall E.P base m .append [33, 33] [x6, v30_15]) fun v33_16 m => (k1 (mbin E .add 3 x27 (.int .i64 1)) fun v34_17 => (ih v33_16 x25 x26 v34_17 m))))) (kx2 x6 m)))) n
noncomputable def r106 (call : CallF) (fuel base : Nat) (x0 : Value) (m : M) : Res2 :=
  (k2 (vcall E.P base m .len [23] [x0]) fun v10_1 m => (r106_L0 call fuel base (fun y0_9 y3_10 m => (kc (call base 118 [(.slice none 0 0), y3_10] m) (fun v24_11 m => (k2 (vcall E.P base m .len [23] [y0_9]) fun v26_12 m => (r106_L2 call fuel base (fun y6_18 m => (fVal y6_18 fun v => some (.ret v, m))) fuel v24_11 y0_9 v26_12 (.int .i64 0) m))) (fun v m => some (.pan v, m)))) fuel x0 (.int .i64 0) x0 v10_1 (.int .i64 0) m))
def keep106 : Keep := { region := fun i => ([[0], [0, 3], [0, 3, 9, 10, 11], [0, 3, 9, 10, 11, 12], [0, 3, 5, 9, 10, 11], [0, 3, 9, 10, 11], [0, 3, 9, 10, 11, 20], [0, 3, 9, 10, 11], [0, 3, 9, 10, 11], [0, 6], [6, 25, 26, 27], [6, 25, 26, 27, 28], [6, 8, 25, 26, 27], [6, 25, 26, 27], [6, 25, 26, 27], [2]] : List (List Nat))[i]?, exit := fun i => ([[0, 3], [0, 3, 9, 10, 11], [6], [6, 25, 26, 27]] : List (List Nat))[i]?, ret := some [2] }
noncomputable def r106_L0_R (call : CallF) (fuel base n : Nat) (vs : List Value) (m : M) (K : KT) : Res2 := match vs with
  | [x0, x3, x9, x10, x11] => r106_L0 call fuel base (fun y0 y3 m => K (.exit 0) { n := 36, l := [(0, y0), (3, y3)] } m) n x0 x3 x9 x10 x11 m
  | _ => none
noncomputable def r106_L2_R (call : CallF) (fuel base n : Nat) (vs : List Value) (m : M) (K : KT) : Res2 := match vs with
  | [x6, x25, x26, x27] => r106_L2 call fuel base (fun y6 m => K (.exit 2) { n := 36, l := [(6, y6)] } m) n x6 x25 x26 x27 m
  | _ => none
noncomputable def lp106 (call : CallF) (fuel base : Nat) : Lp := lpsel [(0, fun T m K => kslots 36 [0, 3, 9, 10, 11] T fun vs => r106_L0_R call fuel base fuel vs m K), (2, fun T m K => kslots 36 [6, 25, 26, 27] T fun vs => r106_L2_R call fuel base fuel vs m K)]
noncomputable def c106 : Code := Try.f106.body.getD .skip
theorem r106_L0_lk (call : CallF) (fuel base : Nat) : LoopsOk E call (lp106 call fuel base) fuel base 0 (loopB (blockB (seqR (seqL (seqR (seqR c106)))))) = (And True (And (And True True) (And (And True (And True (And True (And True True)))) True))) := by kernel_rfl
theorem r106_L0_ok (call : CallF) (fuel base : Nat) : LpOk E call (lp106 call fuel base) fuel base 0 (loopB (blockB (seqR (seqL (seqR (seqR c106)))))) := by
  refine loop_ok (kp := keep106) (hb := Eq.mpr (r106_L0_lk call fuel base) (And.intro trivial (And.intro (And.intro trivial trivial) (And.intro (And.intro trivial (And.intro trivial (And.intro trivial (And.intro trivial trivial)))) trivial)))) 36 [0, 3, 9, 10, 11] (fun n vs m K => r106_L0_R call fuel base n vs m K) ?_ ?_ (fun _ _ _ => rfl)
  · intro vs m K
    unfold r106_L0_R
    split <;> rfl
  · intro n vs m K hl
    match vs, hl with
    | [x0, x3, x9, x10, x11], _ => show _ = _; kernel_rfl
theorem r106_L2_lk (call : CallF) (fuel base : Nat) : LoopsOk E call (lp106 call fuel base) fuel base 2 (loopB (blockB (seqR (seqL (seqR (seqR (seqR (seqR c106)))))))) = (And True (And (And True True) (And (And True True) True))) := by kernel_rfl
theorem r106_L2_ok (call : CallF) (fuel base : Nat) : LpOk E call (lp106 call fuel base) fuel base 2 (loopB (blockB (seqR (seqL (seqR (seqR (seqR (seqR c106)))))))) := by
  refine loop_ok (kp := keep106) (hb := Eq.mpr (r106_L2_lk call fuel base) (And.intro trivial (And.intro (And.intro trivial trivial) (And.intro (And.intro trivial trivial) trivial)))) 36 [6, 25, 26, 27] (fun n vs m K => r106_L2_R call fuel base n vs m K) ?_ ?_ (fun _ _ _ => rfl)
  · intro vs m K
    unfold r106_L2_R
    split <;> rfl
  · intro n vs m K hl
    match vs, hl with
    | [x6, x25, x26, x27], _ => show _ = _; kernel_rfl
theorem r106_eq (call : CallF) (fuel base : Nat) (x0 : Value) (m : M) : kbody E call keep106 (lp106 call fuel base) base Try.f106 [x0] m = r106 call fuel base x0 m := by
  kernel_rfl
noncomputable def rf106 : RF := fun call fuel base args m => match args with
  | [x0] => r106 call fuel base x0 m
  | _ => none
theorem r106_lk (call : CallF) (fuel base : Nat) : LoopsOk E call (lp106 call fuel base) fuel base 0 c106 = (And True (And True (And (And True (LpOk E call (lp106 call fuel base) fuel base 0 (loopB (blockB (seqR (seqL (seqR (seqR c106)))))))) (And True (And (And True (LpOk E call (lp106 call fuel base) fuel base 2 (loopB (blockB (seqR (seqL (seqR (seqR (seqR (seqR c106)))))))))) (And True True)))))) := by kernel_rfl
theorem r106_fn : E.P.funcs[106]? = some Try.f106 := by kernel_rfl
theorem r106_body : Try.f106.body = some c106 := by kernel_rfl
theorem rf106_ok : RFok E 106 rf106 := by
  refine ⟨Try.f106, r106_fn, fun call fuel base args m r _ h => ?_⟩
  unfold rf106 at h
  split at h
  · rw [← r106_eq] at h
    exact kbody_sound (c := c106) r106_body (Eq.mpr (r106_lk call fuel base) (And.intro trivial (And.intro trivial (And.intro (And.intro trivial (r106_L0_ok call fuel base)) (And.intro trivial (And.intro (And.intro trivial (r106_L2_ok call fuel base)) (And.intro trivial trivial))))))) h
  · simp at h
end Go.AM
namespace Go.AM
open Go Go.Proofs
noncomputable def r107_L0 (call : CallF) (fuel base : Nat) (kx0 : Value → M → Res2) (n : Nat) : Value → Value → Value → M → Res2 :=
  Nat.rec (motive := fun _ => Value → Value → Value → M → Res2) (fun _ _ _ _ => none)
    (fun _ ih x0 x5 x6 m =>
      (k1 (mbin E .geq 3 x6 (.int .i64 0)) fun v12_3 => (kb v12_3 (k1 (mbin E .rem 3 x0 (.int .i64 8)) fun v18_4 => (k1 (mindexAddr E.P 33 x5 x6) fun v19_5 => (ks (xstore E.P base m 3 v19_5 v18_4) fun m => (k1 (mbin E .quo 3 x0 (.int .i64 8)) fun v21_6 => (k1 (mbin E .sub 3 x6 (.int .i64 1)) fun v14_7 => (ih v21_6 x5 v14_7 m)))))) (kx0 x5 m)))) n
noncomputable def r107 (call : CallF) (fuel base : Nat) (x0 : Value) (x1 : Value) (m : M) : Res2 :=
  (k2 (xmakeSlice E.P m 33 x1 x1) fun v8_1 m => (k1 (mbin E .sub 3 x1 (.int .i64 1)) fun v10_2 => (r107_L0 call fuel base (fun y5_8 m => (fVal y5_8 fun v => some (.ret v, m))) fuel x0 v8_1 v10_2 m)))
def keep107 : Keep := { region := fun i => ([[0, 1], [0, 1, 5], [0, 5, 6], [0, 5, 6, 12], [0, 5, 6], [0, 5, 6], [0, 5, 6], [4]] : List (List Nat))[i]?, exit := fun i => ([[5], [0, 5, 6]] : List (List Nat))[i]?, ret := some [4] }
noncomputable def r107_L0_R (call : CallF) (fuel base n : Nat) (vs : List Value) (m : M) (K : KT) : Res2 := match vs with
  | [x0, x5, x6] => r107_L0 call fuel base (fun y5 m => K (.exit 0) { n := 23, l := [(5, y5)] } m) n x0 x5 x6 m
  | _ => none
noncomputable def lp107 (call : CallF) (fuel base : Nat) : Lp := lpsel [(0, fun T m K => kslots 23 [0, 5, 6] T fun vs => r107_L0_R call fuel base fuel vs m K)]
noncomputable def c107 : Code := Try.f107.body.getD .skip
theorem r107_L0_lk (call : CallF) (fuel base : Nat) : LoopsOk E call (lp107 call fuel base) fuel base 0 (loopB (blockB (seqR (seqL (seqR (seqR c107)))))) = (And (And True (And True True)) (And (And True True) True)) := by kernel_rfl
theorem r107_L0_ok (call : CallF) (fuel base : Nat) : LpOk E call (lp107 call fuel base) fuel base 0 (loopB (blockB (seqR (seqL (seqR (seqR c107)))))) := by
  refine loop_ok (kp := keep107) (hb := Eq.mpr (r107_L0_lk call fuel base) (And.intro (And.intro trivial (And.intro trivial trivial)) (And.intro (And.intro trivial trivial) trivial))) 23 [0, 5, 6] (fun n vs m K => r107_L0_R call fuel base n vs m K) ?_ ?_ (fun _ _ _ => rfl)
  · intro vs m K
    unfold r107_L0_R
    split <;> rfl
  · intro n vs m K hl
    match vs, hl with
    | [x0, x5, x6], _ => show _ = _; kernel_rfl
theorem r107_eq (call : CallF) (fuel base : Nat) (x0 : Value) (x1 : Value) (m : M) : kbody E call keep107 (lp107 call fuel base) base Try.f107 [x0, x1] m = r107 call fuel base x0 x1 m := by
  kernel_rfl
noncomputable def rf107 : RF := fun call fuel base args m => match args with
  | [x0, x1] => r107 call fuel base x0 x1 m
  | _ => none
theorem r107_lk (call : CallF) (fuel base : Nat) : LoopsOk E call (lp107 call fuel base) fuel base 0 c107 = (And True (And True (And (And True (LpOk E call (lp107 call fuel base) fuel base 0 (loopB (blockB (seqR (seqL (seqR (seqR c107)))))))) (And True True)))) := by kernel_rfl
theorem r107_fn : E.P.funcs[107]? = some Try.f107 := by kernel_rfl
theorem r107_body : Try.f107.body = some c107 := by kernel_rfl
theorem rf107_ok : RFok E 107 rf107 := by
  refine ⟨Try.f107, r107_fn, fun call fuel base args m r _ h => ?_⟩
  unfold rf107 at h
  split at h
  · rw [← r107_eq] at h
    exact kbody_sound (c := c107) r107_body (Eq.mpr (r107_lk call fuel base) (And.intro trivial (And.intro trivial (And.intro (And.intro trivial (r107_L0_ok call fuel base)) (And.intro trivial trivial))))) h
  · simp at h
end Go.AM
namespace Go.AM
open Go Go.Proofs
noncomputable def r109 (call : CallF) (fuel base : Nat) (x0 : Value) (m : M) : Res2 :=
  (k2 (vcall E.P base m .len [33] [x0]) fun v4_1 m => (k1 (mconvert E.P 3 125 v4_1) fun v8_2 => (kc (call base 120 [v8_2] m) (fun v9_3 m => (kc (call base 119 [x0, (.int .i64 0), v4_1, v9_3] m) (fun v10_4 m => (some (.ret (.tuple #[]), m))) (fun v m => some (.pan v, m)))) (fun v m => some (.pan v, m)))))
def keep109 : Keep := { region := fun i => ([[0, 2], []] : List (List Nat))[i]?, exit := fun i => ([] : List (List Nat))[i]?, ret := some [] }
noncomputable def lp109 (call : CallF) (fuel base : Nat) : Lp := lpsel []
noncomputable def c109 : Code := Try.f109.body.getD .skip
theorem r109_eq (call : CallF) (fuel base : Nat) (x0 : Value) (m : M) : kbody E call keep109 (lp109 call fuel base) base Try.f109 [x0] m = r109 call fuel base x0 m := by
  kernel_rfl
noncomputable def rf109 : RF := fun call fuel base args m => match args with
  | [x0] => r109 call fuel base x0 m
  | _ => none
theorem r109_lk (call : CallF) (fuel base : Nat) : LoopsOk E call (lp109 call fuel base) fuel base 0 c109 = (And True True) := by kernel_rfl
theorem r109_fn : E.P.funcs[109]? = some Try.f109 := by kernel_rfl
theorem r109_body : Try.f109.body = some c109 := by kernel_rfl
theorem rf109_ok : RFok E 109 rf109 := by
  refine ⟨Try.f109, r109_fn, fun call fuel base args m r _ h => ?_⟩
  unfold rf109 at h
  split at h
  · rw [← r109_eq] at h
    exact kbody_sound (c := c109) r109_body (Eq.mpr (r109_lk call fuel base) (And.intro trivial trivial)) h
  · simp at h
end Go.AM
namespace Go.AM
open Go Go.Proofs
noncomputable def r110_L2 (call : CallF) (fuel base : Nat) (kx2 : Value → Value → M → Res2) (n : Nat) : Value → Value → Value → Value → M → Res2 :=
  Nat.rec (motive := fun _ => Value → Value → Value → Value → M → Res2) (fun _ _ _ _ _ => none)
    (fun _ ih x0 x3 x4 x5 m =>
      (k2 (vcall E.P base m .len [33] [x4]) fun v31_12 m => (k1 (mbin E .lss 3 x5 v31_12) fun v32_13 => (kb v32_13 (k1 (mindexAddr E.P 33 x4 x5) fun v37_14 => (k1 (xload E.P m 3 v37_14) fun v38_15 => (k1 (mbin E .sub 3 x5 (.int .i64 1)) fun v41_16 => (k1 (mindexAddr E.P 33 x4 v41_16) fun v42_17 => (k1 (xload E.P m 3 v42_17) fun v43_18 => (k1 (mbin E .neq 3 v38_15 v43_18) fun v44_19 => (kb v44_19 (k1 (mindexAddr E.P 33 x4 x5) fun v49_20 => (k1 (xload E.P m 3 v49_20) fun v50_21 => (k1 (mindexAddr E.P 33 x0 x3) fun v51_22 => (ks (xstore E.P base m 3 v51_22 v50_21) fun m => (k1 (mbin E .add 3 x3 (.int .i64 1)) fun v53_23 => (k1 (mbin E .add 3 x5 (.int .i64 1)) fun v34_24 => (ih x0 v53_23 x4 v34_24 m))))))) (k1 (mbin E .add 3 x5 (.int .i64 1)) fun v34_25 => (ih x0 x3 x4 v34_25 m))))))))) (kx2 x0 x3 m))))) n
noncomputable def r110_L0 (call : CallF) (fuel base : Nat) (kr : Value → M → Res2) (kx0 : Value → M → Res2) (n : Nat) : Value → Value → M → Res2 :=
  Nat.rec (motive := fun _ => Value → Value → M → Res2) (fun _ _ _ => none)
    (fun _ ih x0 x3 m =>
      (k2 (vcall E.P base m .len [33] [x0]) fun v12_3 m => (k1 (mbin E .lss 3 x3 v12_3) fun v13_4 => (kb v13_4 (k1 (mindexAddr E.P 33 x0 x3) fun v18_5 => (k1 (xload E.P m 3 v18_5) fun v19_6 => (k1 (mbin E .sub 3 x3 (.int .i64 1)) fun v22_7 => (k1 (mindexAddr E.P 33 x0 v22_7) fun v23_8 => (k1 (xload E.P m 3 v23_8) fun v24_9 => (k1 (mbin E .eql 3 v19_6 v24_9) fun v25_10 => (kb v25_10 (k1 (mslice E.P m 33 x0 (some x3) none none) fun v28_11 => (r110_L2 call fuel base (fun y0_26 y3_27 m => (k1 (mslice E.P m 33 y0_26 (some y3_27) none none) fun v56_28 => (k2 (vcall E.P base m .clear [33] [v56_28]) fun vNone_29 m => (k1 (mslice E.P m 33 y0_26 none (some y3_27) none) fun v59_30 => (kr v59_30 m))))) fuel x0 x3 v28_11 (.int .i64 1) m)) (k1 (mbin E .add 3 x3 (.int .i64 1)) fun v15_31 => (ih x0 v15_31 m))))))))) (kx0 x0 m))))) n
noncomputable def r110 (call : CallF) (fuel base : Nat) (x0 : Value) (m : M) : Res2 :=
  (k2 (vcall E.P base m .len [33] [x0]) fun v7_1 m => (k1 (mbin E .lss 3 v7_1 (.int .i64 2)) fun v8_2 => (kb v8_2 (fVal x0 fun v => some (.ret v, m)) (r110_L0 call fuel base (fun y2_32 m => (fVal y2_32 fun v => some (.ret v, m))) (fun y0_33 m => (fVal y0_33 fun v => some (.ret v, m))) fuel x0 (.int .i64 1) m))))
def keep110 : Keep := { region := fun i => ([[0], [0, 8], [2], [0, 3], [0, 3, 13], [0, 3], [0, 3, 25], [0, 3, 4], [0, 3, 4, 5], [0, 3, 4, 5, 32], [0, 3, 4, 5], [0, 3, 4, 5, 44], [0, 3, 4, 5], [0, 3, 4, 5], [0, 3], [2], [2]] : List (List Nat))[i]?, exit := fun i => ([[0], [0, 3], [0, 3], [0, 3, 4, 5]] : List (List Nat))[i]?, ret := some [2] }
noncomputable def r110_L2_R (call : CallF) (fuel base n : Nat) (vs : List Value) (m : M) (K : KT) : Res2 := match vs with
  | [x0, x3, x4, x5] => r110_L2 call fuel base (fun y0 y3 m => K (.exit 2) { n := 61, l := [(0, y0), (3, y3)] } m) n x0 x3 x4 x5 m
  | _ => none
noncomputable def r110_L0_R (call : CallF) (fuel base n : Nat) (vs : List Value) (m : M) (K : KT) : Res2 := match vs with
  | [x0, x3] => r110_L0 call fuel base (fun y2 m => K .ret { n := 61, l := [(2, y2)] } m) (fun y0 m => K (.exit 0) { n := 61, l := [(0, y0)] } m) n x0 x3 m
  | _ => none
noncomputable def lp110 (call : CallF) (fuel base : Nat) : Lp := lpsel [(2, fun T m K => kslots 61 [0, 3, 4, 5] T fun vs => r110_L2_R call fuel base fuel vs m K), (0, fun T m K => kslots 61 [0, 3] T fun vs => r110_L0_R call fuel base fuel vs m K)]
noncomputable def c110 : Code := Try.f110.body.getD .skip
theorem r110_L2_lk (call : CallF) (fuel base : Nat) : LoopsOk E call (lp110 call fuel base) fuel base 2 (loopB (blockB (seqR (seqL (seqR (condT (seqR (blockB (seqL (seqR (loopB (blockB (seqR (seqL (seqR (seqR c110)))))))))))))))) = (And (And True (And True True)) (And (And True (And (And True True) True)) True)) := by kernel_rfl
theorem r110_L2_ok (call : CallF) (fuel base : Nat) : LpOk E call (lp110 call fuel base) fuel base 2 (loopB (blockB (seqR (seqL (seqR (condT (seqR (blockB (seqL (seqR (loopB (blockB (seqR (seqL (seqR (seqR c110)))))))))))))))) := by
  refine loop_ok (kp := keep110) (hb := Eq.mpr (r110_L2_lk call fuel base) (And.intro (And.intro trivial (And.intro trivial trivial)) (And.intro (And.intro trivial (And.intro (And.intro trivial trivial) trivial)) trivial))) 61 [0, 3, 4, 5] (fun n vs m K => r110_L2_R call fuel base n vs m K) ?_ ?_ (fun _ _ _ => rfl)
  · intro vs m K
    unfold r110_L2_R
    split <;> rfl
  · intro n vs m K hl
    match vs, hl with
    | [x0, x3, x4, x5], _ => show _ = _; kernel_rfl
theorem r110_L0_lk (call : CallF) (fuel base : Nat) : LoopsOk E call (lp110 call fuel base) fuel base 0 (loopB (blockB (seqR (seqL (seqR (seqR c110)))))) = (And (And True (And True True)) (And (And True (And (And True (And (And True (LpOk E call (lp110 call fuel base) fuel base 2 (loopB (blockB (seqR (seqL (seqR (condT (seqR (blockB (seqL (seqR (loopB (blockB (seqR (seqL (seqR (seqR c110)))))))))))))))))) (And True (And True True)))) True)) True)) := by kernel_rfl
theorem r110_L0_ok (call : CallF) (fuel base : Nat) : LpOk E call (lp110 call fuel base) fuel base 0 (loopB (blockB (seqR (seqL (seqR (seqR c110)))))) := by
  refine loop_ok (kp := keep110) (hb := Eq.mpr (r110_L0_lk call fuel base) (And.intro (And.intro trivial (And.intro trivial trivial)) (And.intro (And.intro trivial (And.intro (And.intro trivial (And.intro (And.intro trivial (r110_L2_ok call fuel base)) (And.intro trivial (And.intro trivial trivial)))) trivial)) trivial))) 61 [0, 3] (fun n vs m K => r110_L0_R call fuel base n vs m K) ?_ ?_ (fun _ _ _ => rfl)
  · intro vs m K
    unfold r110_L0_R
    split <;> rfl
  · intro n vs m K hl
    match vs, hl with
    | [x0, x3], _ => show _ = _; kernel_rfl
theorem r110_eq (call : CallF) (fuel base : Nat) (x0 : Value) (m : M) : kbody E call keep110 (lp110 call fuel base) base Try.f110 [x0] m = r110 call fuel base x0 m := by
  kernel_rfl
noncomputable def rf110 : RF := fun call fuel base args m => match args with
  | [x0] => r110 call fuel base x0 m
  | _ => none
theorem r110_lk (call : CallF) (fuel base : Nat) : LoopsOk E call (lp110 call fuel base) fuel base 0 c110 = (And True (And (And True (And (And True True) True)) (And (And True (LpOk E call (lp110 call fuel base) fuel base 0 (loopB (blockB (seqR (seqL (seqR (seqR c110)))))))) (And True True)))) := by kernel_rfl
theorem r110_fn : E.P.funcs[110]? = some Try.f110 := by kernel_rfl
theorem r110_body : Try.f110.body = some c110 := by kernel_rfl
theorem rf110_ok : RFok E 110 rf110 := by
  refine ⟨Try.f110, r110_fn, fun call fuel base args m r _ h => ?_⟩
  unfold rf110 at h
  split at h
  · rw [← r110_eq] at h
    exact kbody_sound (c := c110) r110_body (Eq.mpr (r110_lk call fuel base) (And.intro trivial (And.intro (And.intro trivial (And.intro (And.intro trivial trivial) trivial)) (And.intro (And.intro trivial (r110_L0_ok call fuel base)) (And.intro trivial trivial))))) h
  · simp at h
end Go.AM
namespace Go.AM
open Go Go.Proofs
noncomputable def r111_L0 (call : CallF) (fuel base : Nat) (kr : Value → M → Res2) (kx0 : M → Res2) (n : Nat) : Value → Value → Value → Value → M → Res2 :=
  Nat.rec (motive := fun _ => Value → Value → Value → Value → M → Res2) (fun _ _ _ _ _ => none)
    (fun _ ih x0 x1 x7 x8 m =>
      (k1 (mbin E .lss 3 x8 x7) fun v9_2 => (kb v9_2 (k1 (mindexAddr E.P 33 x0 x8) fun v14_3 => (k1 (xload E.P m 3 v14_3) fun v15_4 => (k1 (mbin E .eql 3 x1 v15_4) fun v16_5 => (kb v16_5 (kr x8 m) (k1 (mbin E .add 3 x8 (.int .i64 1)) fun v18_6 => (ih x0 x1 x7 v18_6 m)))))) (kx0 m)))) n
noncomputable def r111 (call : CallF) (fuel base : Nat) (x0 : Value) (x1 : Value) (m : M) : Res2 :=
  (k2 (vcall E.P base m .len [33] [x0]) fun v7_1 m => (r111_L0 call fuel base (fun y4_7 m => (fVal y4_7 fun v => some (.ret v, m))) (fun m => (fVal (.int .i64 (-1)) fun v => some (.ret v, m))) fuel x0 x1 v7_1 (.int .i64 0) m))
def keep111 : Keep := { region := fun i => ([[0, 1], [0, 1, 7, 8], [0, 1, 7, 8, 9], [0, 1, 5, 7, 8], [0, 1, 5, 7, 8, 16], [4], [0, 1, 7, 8], [4]] : List (List Nat))[i]?, exit := fun i => ([[], [0, 1, 7, 8]] : List (List Nat))[i]?, ret := some [4] }
noncomputable def r111_L0_R (call : CallF) (fuel base n : Nat) (vs : List Value) (m : M) (K : KT) : Res2 := match vs with
  | [x0, x1, x7, x8] => r111_L0 call fuel base (fun y4 m => K .ret { n := 19, l := [(4, y4)] } m) (fun m => K (.exit 0) { n := 19, l := [] } m) n x0 x1 x7 x8 m
  | _ => none
noncomputable def lp111 (call : CallF) (fuel base : Nat) : Lp := lpsel [(0, fun T m K => kslots 19 [0, 1, 7, 8] T fun vs => r111_L0_R call fuel base fuel vs m K)]
noncomputable def c111 : Code := Try.f111.body.getD .skip
theorem r111_L0_lk (call : CallF) (fuel base : Nat) : LoopsOk E call (lp111 call fuel base) fuel base 0 (loopB (blockB (seqR (seqL (seqR c111))))) = (And True (And (And True True) (And (And True (And True (And (And True True) True))) True))) := by kernel_rfl
theorem r111_L0_ok (call : CallF) (fuel base : Nat) : LpOk E call (lp111 call fuel base) fuel base 0 (loopB (blockB (seqR (seqL (seqR c111))))) := by
  refine loop_ok (kp := keep111) (hb := Eq.mpr (r111_L0_lk call fuel base) (And.intro trivial (And.intro (And.intro trivial trivial) (And.intro (And.intro trivial (And.intro trivial (And.intro (And.intro trivial trivial) trivial))) trivial)))) 19 [0, 1, 7, 8] (fun n vs m K => r111_L0_R call fuel base n vs m K) ?_ ?_ (fun _ _ _ => rfl)
  · intro vs m K
    unfold r111_L0_R
    split <;> rfl
  · intro n vs m K hl
    match vs, hl with
    | [x0, x1, x7, x8], _ => show _ = _; kernel_rfl
theorem r111_eq (call : CallF) (fuel base : Nat) (x0 : Value) (x1 : Value) (m : M) : kbody E call keep111 (lp111 call fuel base) base Try.f111 [x0, x1] m = r111 call fuel base x0 x1 m := by
  kernel_rfl
noncomputable def rf111 : RF := fun call fuel base args m => match args with
  | [x0, x1] => r111 call fuel base x0 x1 m
  | _ => none
theorem r111_lk (call : CallF) (fuel base : Nat) : LoopsOk E call (lp111 call fuel base) fuel base 0 c111 = (And True (And (And True (LpOk E call (lp111 call fuel base) fuel base 0 (loopB (blockB (seqR (seqL (seqR c111))))))) (And True True))) := by kernel_rfl
theorem r111_fn : E.P.funcs[111]? = some Try.f111 := by kernel_rfl
theorem r111_body : Try.f111.body = some c111 := by kernel_rfl
theorem rf111_ok : RFok E 111 rf111 := by
  refine ⟨Try.f111, r111_fn, fun call fuel base args m r _ h => ?_⟩
  unfold rf111 at h
  split at h
  · rw [← r111_eq] at h
    exact kbody_sound (c := c111) r111_body (Eq.mpr (r111_lk call fuel base) (And.intro trivial (And.intro (And.intro trivial (r111_L0_ok call fuel base)) (And.intro trivial trivial)))) h
  · simp at h
end Go.AM
namespace Go.AM
open Go Go.Proofs
noncomputable def r112_L0 (call : CallF) (fuel base : Nat) (kp : Value → M → Res2) (kr : Value → M → Res2) (kx0 : M → Res2) (n : Nat) : Value → Value → Value → Value → M → Res2 :=
  Nat.rec (motive := fun _ => Value → Value → Value → Value → M → Res2) (fun _ _ _ _ _ => none)
    (fun _ ih x0 x1 x7 x8 m =>
      (k1 (mbin E .lss 3 x8 x7) fun v9_2 => (kb v9_2 (k1 (mindexAddr E.P 33 x0 x8) fun v14_3 => (k1 (xload E.P m 3 v14_3) fun v15_4 => (kc (kv call base x1 [v15_4] m) (fun v16_5 m => (kb v16_5 (kr x8 m) (k1 (mbin E .add 3 x8 (.int .i64 1)) fun v18_6 => (ih x0 x1 x7 v18_6 m)))) (fun v m => kp v m)))) (kx0 m)))) n
noncomputable def r112 (call : CallF) (fuel base : Nat) (x0 : Value) (x1 : Value) (m : M) : Res2 :=
  (k2 (vcall E.P base m .len [33] [x0]) fun v7_1 m => (r112_L0 call fuel base (fun v m => some (.pan v, m)) (fun y4_7 m => (fVal y4_7 fun v => some (.ret v, m))) (fun m => (fVal (.int .i64 (-1)) fun v => some (.ret v, m))) fuel x0 x1 v7_1 (.int .i64 0) m))
def keep112 : Keep := { region := fun i => ([[0, 1], [0, 1, 7, 8], [0, 1, 7, 8, 9], [0, 1, 5, 7, 8], [0, 1, 5, 7, 8, 16], [4], [0, 1, 7, 8], [4]] : List (List Nat))[i]?, exit := fun i => ([[], [0, 1, 7, 8]] : List (List Nat))[i]?, ret := some [4] }
noncomputable def r112_L0_R (call : CallF) (fuel base n : Nat) (vs : List Value) (m : M) (K : KT) : Res2 := match vs with
  | [x0, x1, x7, x8] => r112_L0 call fuel base (fun v m => K (.pan v) { n := 19, l := [] } m) (fun y4 m => K .ret { n := 19, l := [(4, y4)] } m) (fun m => K (.exit 0) { n := 19, l := [] } m) n x0 x1 x7 x8 m
  | _ => none
noncomputable def lp112 (call : CallF) (fuel base : Nat) : Lp := lpsel [(0, fun T m K => kslots 19 [0, 1, 7, 8] T fun vs => r112_L0_R call fuel base fuel vs m K)]
noncomputable def c112 : Code := Try.f112.body.getD .skip
theorem r112_L0_lk (call : CallF) (fuel base : Nat) : LoopsOk E call (lp112 call fuel base) fuel base 0 (loopB (blockB (seqR (seqL (seqR c112))))) = (And True (And (And True True) (And (And True (And True (And (And True True) True))) True))) := by kernel_rfl
theorem r112_L0_ok (call : CallF) (fuel base : Nat) : LpOk E call (lp112 call fuel base) fuel base 0 (loopB (blockB (seqR (seqL (seqR c112))))) := by
  refine loop_ok (kp := keep112) (hb := Eq.mpr (r112_L0_lk call fuel base) (And.intro trivial (And.intro (And.intro trivial trivial) (And.intro (And.intro trivial (And.intro trivial (And.intro (And.intro trivial trivial) trivial))) trivial)))) 19 [0, 1, 7, 8] (fun n vs m K => r112_L0_R call fuel base n vs m K) ?_ ?_ (fun _ _ _ => rfl)
  · intro vs m K
    unfold r112_L0_R
    split <;> rfl
  · intro n vs m K hl
    match vs, hl with
    | [x0, x1, x7, x8], _ => show _ = _; kernel_rfl
theorem r112_eq (call : CallF) (fuel base : Nat) (x0 : Value) (x1 : Value) (m : M) : kbody E call keep112 (lp112 call fuel base) base Try.f112 [x0, x1] m = r112 call fuel base x0 x1 m := by
  kernel_rfl
noncomputable def rf112 : RF := fun call fuel base args m => match args with
  | [x0, x1] => r112 call fuel base x0 x1 m
  | _ => none
theorem r112_lk (call : CallF) (fuel base : Nat) : LoopsOk E call (lp112 call fuel base) fuel base 0 c112 = (And True (And (And True (LpOk E call (lp112 call fuel base) fuel base 0 (loopB (blockB (seqR (seqL (seqR c112))))))) (And True True))) := by kernel_rfl
theorem r112_fn : E.P.funcs[112]? = some Try.f112 := by kernel_rfl
theorem r112_body : Try.f112.body = some c112 := by kernel_rfl
theorem rf112_ok : RFok E 112 rf112 := by
  refine ⟨Try.f112, r112_fn, fun call fuel base args m r _ h => ?_⟩
  unfold rf112 at h
  split at h
  · rw [← r112_eq] at h
    exact kbody_sound (c := c112) r112_body (Eq.mpr (r112_lk call fuel base) (And.intro trivial (And.intro (And.intro trivial (r112_L0_ok call fuel base)) (And.intro trivial trivial)))) h
  · simp at h
end Go.AM
namespace Go.AM
open Go Go.Proofs
noncomputable def r113 (call : CallF) (fuel base : Nat) (x0 : Value) (x1 : Value) (x2 : Value) (m : M) : Res2 :=
  (k2 (xbox m x1) fun v4_1 m => (k1 (mfieldAddr E.P 45 v4_1 0) fun v6_2 => (k1 (xload E.P m 3 v6_2) fun v7_3 => (k1 (xload E.P m 33 x2) fun v8_4 => (k1 (mindexAddr E.P 33 v8_4 x0) fun v10_5 => (k1 (xload E.P m 3 v10_5) fun v11_6 => (k1 (mbin E .eql 3 v7_3 v11_6) fun v12_7 => (fVal v12_7 fun v => some (.ret v, m)))))))))
def keep113 : Keep := { region := fun i => ([[0, 2, 4], [5]] : List (List Nat))[i]?, exit := fun i => ([] : List (List Nat))[i]?, ret := some [5] }
noncomputable def lp113 (call : CallF) (fuel base : Nat) : Lp := lpsel []
noncomputable def c113 : Code := Try.f113.body.getD .skip
theorem r113_eq (call : CallF) (fuel base : Nat) (x0 : Value) (x1 : Value) (x2 : Value) (m : M) : kbody E call keep113 (lp113 call fuel base) base Try.f113 [x0, x1, x2] m = r113 call fuel base x0 x1 x2 m := by
  kernel_rfl
noncomputable def rf113 : RF := fun call fuel base args m => match args with
  | [x0, x1, x2] => r113 call fuel base x0 x1 x2 m
  | _ => none
theorem r113_lk (call : CallF) (fuel base : Nat) : LoopsOk E call (lp113 call fuel base) fuel base 0 c113 = (And True (And True True)) := by kernel_rfl
theorem r113_fn : E.P.funcs[113]? = some Try.f113 := by kernel_rfl
theorem r113_body : Try.f113.body = some c113 := by kernel_rfl
theorem rf113_ok : RFok E 113 rf113 := by
  refine ⟨Try.f113, r113_fn, fun call fuel base args m r _ h => ?_⟩
  unfold rf113 at h
  split at h
  · rw [← r113_eq] at h
    exact kbody_sound (c := c113) r113_body (Eq.mpr (r113_lk call fuel base) (And.intro trivial (And.intro trivial trivial))) h
  · simp at h
end Go.AM
namespace Go.AM
open Go Go.Proofs
noncomputable def r114_L0 (call : CallF) (fuel base : Nat) (kr : Value → M → Res2) (kx0 : M → Res2) (n : Nat) : Value → Value → Value → Value → M → Res2 :=
  Nat.rec (motive := fun _ => Value → Value → Value → Value → M → Res2) (fun _ _ _ _ _ => none)
    (fun _ ih x0 x3 x7 x8 m =>
      (k1 (mbin E .lss 3 x8 x7) fun v9_3 => (kb v9_3 (k1 (xload E.P m 45 x3) fun v11_4 => (k1 (mindexAddr E.P 22 x0 x8) fun v14_5 => (k1 (xload E.P m 45 v14_5) fun v15_6 => (k1 (mbin E .eql 45 v11_4 v15_6) fun v16_7 => (kb v16_7 (kr x8 m) (k1 (mbin E .add 3 x8 (.int .i64 1)) fun v18_8 => (ih x0 x3 x7 v18_8 m))))))) (kx0 m)))) n
noncomputable def r114 (call : CallF) (fuel base : Nat) (x0 : Value) (x1 : Value) (m : M) : Res2 :=
  (k2 (xbox m x1) fun v3_1 m => (k2 (vcall E.P base m .len [22] [x0]) fun v7_2 m => (r114_L0 call fuel base (fun y4_9 m => (fVal y4_9 fun v => some (.ret v, m))) (fun m => (fVal (.int .i64 (-1)) fun v => some (.ret v, m))) fuel x0 v3_1 v7_2 (.int .i64 0) m)))
def keep114 : Keep := { region := fun i => ([[0, 3], [0, 3, 7, 8], [0, 3, 7, 8, 9], [0, 3, 5, 7, 8], [0, 3, 5, 7, 8, 16], [4], [0, 3, 7, 8], [4]] : List (List Nat))[i]?, exit := fun i => ([[], [0, 3, 7, 8]] : List (List Nat))[i]?, ret := some [4] }
noncomputable def r114_L0_R (call : CallF) (fuel base n : Nat) (vs : List Value) (m : M) (K : KT) : Res2 := match vs with
  | [x0, x3, x7, x8] => r114_L0 call fuel base (fun y4 m => K .ret { n := 19, l := [(4, y4)] } m) (fun m => K (.exit 0) { n := 19, l := [] } m) n x0 x3 x7 x8 m
  | _ => none
noncomputable def lp114 (call : CallF) (fuel base : Nat) : Lp := lpsel [(0, fun T m K => kslots 19 [0, 3, 7, 8] T fun vs => r114_L0_R call fuel base fuel vs m K)]
noncomputable def c114 : Code := Try.f114.body.getD .skip
theorem r114_L0_lk (call : CallF) (fuel base : Nat) : LoopsOk E call (lp114 call fuel base) fuel base 0 (loopB (blockB (seqR (seqL (seqR c114))))) = (And True (And (And True True) (And (And True (And True (And (And True True) True))) True))) := by kernel_rfl
theorem r114_L0_ok (call : CallF) (fuel base : Nat) : LpOk E call (lp114 call fuel base) fuel base 0 (loopB (blockB (seqR (seqL (seqR c114))))) := by
  refine loop_ok (kp := keep114) (hb := Eq.mpr (r114_L0_lk call fuel base) (And.intro trivial (And.intro (And.intro trivial trivial) (And.intro (And.intro trivial (And.intro trivial (And.intro (And.intro trivial trivial) trivial))) trivial)))) 19 [0, 3, 7, 8] (fun n vs m K => r114_L0_R call fuel base n vs m K) ?_ ?_ (fun _ _ _ => rfl)
  · intro vs m K
    unfold r114_L0_R
    split <;> rfl
  · intro n vs m K hl
    match vs, hl with
    | [x0, x3, x7, x8], _ => show _ = _; kernel_rfl
theorem r114_eq (call : CallF) (fuel base : Nat) (x0 : Value) (x1 : Value) (m : M) : kbody E call keep114 (lp114 call fuel base) base Try.f114 [x0, x1] m = r114 call fuel base x0 x1 m := by
  kernel_rfl
noncomputable def rf114 : RF := fun call fuel base args m => match args with
  | [x0, x1] => r114 call fuel base x0 x1 m
  | _ => none
theorem r114_lk (call : CallF) (fuel base : Nat) : LoopsOk E call (lp114 call fuel base) fuel base 0 c114 = (And True (And (And True (LpOk E call (lp114 call fuel base) fuel base 0 (loopB (blockB (seqR (seqL (seqR c114))))))) (And True True))) := by kernel_rfl
theorem r114_fn : E.P.funcs[114]? = some Try.f114 := by kernel_rfl
theorem r114_body : Try.f114.body = some c114 := by kernel_rfl
theorem rf114_ok : RFok E 114 rf114 := by
  refine ⟨Try.f114, r114_fn, fun call fuel base args m r _ h => ?_⟩
  unfold rf114 at h
  split at h
  · rw [← r114_eq] at h
    exact kbody_sound (c := c114) r114_body (Eq.mpr (r114_lk call fuel base) (And.intro trivial (And.intro (And.intro trivial (r114_L0_ok call fuel base)) (And.intro trivial trivial)))) h
  · simp at h
end Go.AM
namespace Go.AM
open Go Go.Proofs
noncomputable def r115 (call : CallF) (fuel base : Nat) (x0 : Value) (x1 : Value) (m : M) : Res2 :=
  (kc (call base 121 [x0] m) (fun v8_1 m => (kc (call base 121 [x1] m) (fun v10_2 m => (kb v8_1 (kb v10_2 (fVal (.int .i64 0) fun v => some (.ret v, m)) (fVal (.int .i64 (-1)) fun v => some (.ret v, m))) (kb v10_2 (fVal (.int .i64 1) fun v => some (.ret v, m)) (k1 (mbin E .lss 3 x0 x1) fun v16_3 => (kb v16_3 (fVal (.int .i64 (-1)) fun v => some (.ret v, m)) (k1 (mbin E .gtr 3 x0 x1) fun v19_4 => (kb v19_4 (fVal (.int .i64 1) fun v => some (.ret v, m)) (fVal (.int .i64 0) fun v => some (.ret v, m))))))))) (fun v m => some (.pan v, m)))) (fun v m => some (.pan v, m)))
def keep115 : Keep := { region := fun i => ([[0, 1], [0, 1, 5], [0, 1, 5, 6], [0, 1, 6, 11], [12], [4], [4], [0, 1, 13], [4], [0, 1, 16], [4], [19], [4], [4]] : List (List Nat))[i]?, exit := fun i => ([] : List (List Nat))[i]?, ret := some [4] }
noncomputable def lp115 (call : CallF) (fuel base : Nat) : Lp := lpsel []
noncomputable def c115 : Code := Try.f115.body.getD .skip
theorem r115_eq (call : CallF) (fuel base : Nat) (x0 : Value) (x1 : Value) (m : M) : kbody E call keep115 (lp115 call fuel base) base Try.f115 [x0, x1] m = r115 call fuel base x0 x1 m := by
  kernel_rfl
noncomputable def rf115 : RF := fun call fuel base args m => match args with
  | [x0, x1] => r115 call fuel base x0 x1 m
  | _ => none
theorem r115_lk (call : CallF) (fuel base : Nat) : LoopsOk E call (lp115 call fuel base) fuel base 0 c115 = (And True (And True (And True (And (And True (And (And (And True (And (And True True) True)) (And True True)) True)) (And (And True (And (And True True) True)) (And (And True (And (And True True) True)) (And (And True (And (And True True) True)) (And True True)))))))) := by kernel_rfl
theorem r115_fn : E.P.funcs[115]? = some Try.f115 := by kernel_rfl
theorem r115_body : Try.f115.body = some c115 := by kernel_rfl
theorem rf115_ok : RFok E 115 rf115 := by
  refine ⟨Try.f115, r115_fn, fun call fuel base args m r _ h => ?_⟩
  unfold rf115 at h
  split at h
  · rw [← r115_eq] at h
    exact kbody_sound (c := c115) r115_body (Eq.mpr (r115_lk call fuel base) (And.intro trivial (And.intro trivial (And.intro trivial (And.intro (And.intro trivial (And.intro (And.intro (And.intro trivial (And.intro (And.intro trivial trivial) trivial)) (And.intro trivial trivial)) trivial)) (And.intro (And.intro trivial (And.intro (And.intro trivial trivial) trivial)) (And.intro (And.intro trivial (And.intro (And.intro trivial trivial) trivial)) (And.intro (And.intro trivial (And.intro (And.intro trivial trivial) trivial)) (And.intro trivial trivial))))))))) h
  · simp at h
end Go.AM
namespace Go.AM
open Go Go.Proofs
noncomputable def r116 (call : CallF) (fuel base : Nat) (x0 : Value) (x1 : Value) (x2 : Value) (x3 : Value) (m : M) : Res2 :=
  (k2 (xbox m x0) fun v4_1 m => (k2 (xbox m x3) fun v7_2 m => (k2 (xalloc E.P m 109) fun v8_3 m => (k1 (mbin E .eql 3 x1 (.int .i64 0)) fun v10_4 => (kb v10_4 (k1 (mfieldAddr E.P 45 v7_2 3) fun v11_5 => (k1 (xload E.P m 3 v11_5) fun v12_6 => (k1 (mfieldAddr E.P 109 v4_1 3) fun v13_7 => (ks (xstore E.P base m 3 v13_7 v12_6) fun m => (k1 (mfieldAddr E.P 109 v4_1 0) fun v16_8 => (k1 (mindexAddr E.P 107 v16_8 x1) fun v17_9 => (ks (xstore E.P base m 3 v17_9 x2) fun m => (k1 (mfieldAddr E.P 45 v7_2 1) fun v18_10 => (k1 (xload E.P m 3 v18_10) fun v19_11 => (k1 (mfieldAddr E.P 109 v4_1 4) fun v20_12 => (ks (xstore E.P base m 3 v20_12 v19_11) fun m => (k1 (mfieldAddr E.P 109 v4_1 1) fun v21_13 => (k1 (xload E.P m 3 v21_13) fun v22_14 => (k1 (mbin E .mul 3 v22_14 (.int .i64 8)) fun v23_15 => (k1 (mfieldAddr E.P 45 v7_2 0) fun v24_16 => (k1 (xload E.P m 3 v24_16) fun v25_17 => (k1 (mbin E .add 3 v23_15 v25_17) fun v26_18 => (k1 (mfieldAddr E.P 109 v4_1 1) fun v27_19 => (ks (xstore E.P base m 3 v27_19 v26_18) fun m => (k1 (mfieldAddr E.P 109 v4_1 2) fun v28_20 => (k1 (xload E.P m 3 v28_20) fun v29_21 => (k1 (mbin E .mul 3 v29_21 (.int .i64 8)) fun v30_22 => (k1 (mfieldAddr E.P 45 v7_2 2) fun v31_23 => (k1 (xload E.P m 3 v31_23) fun v32_24 => (k1 (mbin E .add 3 v30_22 v32_24) fun v33_25 => (k1 (mfieldAddr E.P 109 v4_1 2) fun v34_26 => (ks (xstore E.P base m 3 v34_26 v33_25) fun m => (k1 (xload E.P m 109 v4_1) fun v35_27 => (ks (xstore E.P base m 109 v8_3 v35_27) fun m => (k0 (mload E.P m 109 v8_3) fun r_28 => (fVal r_28 fun v => some (.ret v, m)))))))))))))))))))))))))))))))) (k1 (mfieldAddr E.P 109 v4_1 0) fun v16_29 => (k1 (mindexAddr E.P 107 v16_29 x1) fun v17_30 => (ks (xstore E.P base m 3 v17_30 x2) fun m => (k1 (mfieldAddr E.P 45 v7_2 1) fun v18_31 => (k1 (xload E.P m 3 v18_31) fun v19_32 => (k1 (mfieldAddr E.P 109 v4_1 4) fun v20_33 => (ks (xstore E.P base m 3 v20_33 v19_32) fun m => (k1 (mfieldAddr E.P 109 v4_1 1) fun v21_34 => (k1 (xload E.P m 3 v21_34) fun v22_35 => (k1 (mbin E .mul 3 v22_35 (.int .i64 8)) fun v23_36 => (k1 (mfieldAddr E.P 45 v7_2 0) fun v24_37 => (k1 (xload E.P m 3 v24_37) fun v25_38 => (k1 (mbin E .add 3 v23_36 v25_38) fun v26_39 => (k1 (mfieldAddr E.P 109 v4_1 1) fun v27_40 => (ks (xstore E.P base m 3 v27_40 v26_39) fun m => (k1 (mfieldAddr E.P 109 v4_1 2) fun v28_41 => (k1 (xload E.P m 3 v28_41) fun v29_42 => (k1 (mbin E .mul 3 v29_42 (.int .i64 8)) fun v30_43 => (k1 (mfieldAddr E.P 45 v7_2 2) fun v31_44 => (k1 (xload E.P m 3 v31_44) fun v32_45 => (k1 (mbin E .add 3 v30_43 v32_45) fun v33_46 => (k1 (mfieldAddr E.P 109 v4_1 2) fun v34_47 => (ks (xstore E.P base m 3 v34_47 v33_46) fun m => (k1 (xload E.P m 109 v4_1) fun v35_48 => (ks (xstore E.P base m 109 v8_3 v35_48) fun m => (k0 (mload E.P m 109 v8_3) fun r_49 => (fVal r_49 fun v => some (.ret v, m)))))))))))))))))))))))))))))))))
def keep116 : Keep := { region := fun i => ([[1, 2, 4, 7, 8], [1, 2, 4, 7, 8, 10], [1, 2, 4, 7, 8], [4, 7, 8], [4, 7, 8], [4, 7, 8], [4, 8], [8]] : List (List Nat))[i]?, exit := fun i => ([] : List (List Nat))[i]?, ret := some [8] }
noncomputable def lp116 (call : CallF) (fuel base : Nat) : Lp := lpsel []
noncomputable def c116 : Code := Try.f116.body.getD .skip
theorem r116_eq (call : CallF) (fuel base : Nat) (x0 : Value) (x1 : Value) (x2 : Value) (x3 : Value) (m : M) : kbody E call keep116 (lp116 call fuel base) base Try.f116 [x0, x1, x2, x3] m = r116 call fuel base x0 x1 x2 x3 m := by
  kernel_rfl
noncomputable def rf116 : RF := fun call fuel base args m => match args with
  | [x0, x1, x2, x3] => r116 call fuel base x0 x1 x2 x3 m
  | _ => none
theorem r116_lk (call : CallF) (fuel base : Nat) : LoopsOk E call (lp116 call fuel base) fuel base 0 c116 = (And True (And (And True (And True True)) (And True (And True (And True (And True (And True True))))))) := by kernel_rfl
theorem r116_fn : E.P.funcs[116]? = some Try.f116 := by kernel_rfl
theorem r116_body : Try.f116.body = some c116 := by kernel_rfl
theorem rf116_ok : RFok E 116 rf116 := by
  refine ⟨Try.f116, r116_fn, fun call fuel base args m r _ h => ?_⟩
  unfold rf116 at h
  split at h
  · rw [← r116_eq] at h
    exact kbody_sound (c := c116) r116_body (Eq.mpr (r116_lk call fuel base) (And.intro trivial (And.intro (And.intro trivial (And.intro trivial trivial)) (And.intro trivial (And.intro trivial (And.intro trivial (And.intro trivial (And.intro trivial trivial)))))))) h
  · simp at h
end Go.AM
namespace Go.AM
open Go Go.Proofs
noncomputable def r117_L0 (call : CallF) (fuel base : Nat) (kx0 : M → Res2) (n : Nat) : Value → Value → Value → Value → M → Res2 :=
  Nat.rec (motive := fun _ => Value → Value → Value → Value → M → Res2) (fun _ _ _ _ _ => none)
    (fun _ ih x0 x1 x7 x8 m =>
      (k1 (mbin E .lss 3 x8 x7) fun v9_3 => (kb v9_3 (k1 (mindexAddr E.P 23 x1 x8) fun v14_4 => (k1 (xload E.P m 33 v14_4) fun v15_5 => (k1 (mbin E .add 3 x8 (.int .i64 1)) fun v18_6 => (k1 (mindexAddr E.P 23 x1 v18_6) fun v19_7 => (k1 (xload E.P m 33 v19_7) fun v20_8 => (kc (call base 122 [x0, v15_5, v20_8] m) (fun v21_9 m => (k1 (mbin E .add 3 x8 (.int .i64 1)) fun v22_10 => (ih x0 x1 x7 v22_10 m))) (fun _ _ => none))))))) (kx0 m)))) n
noncomputable def r117 (call : CallF) (fuel base : Nat) (x0 : Value) (x1 : Value) (m : M) : Res2 :=
  (k2 (vcall E.P base m .len [23] [x1]) fun v6_1 m => (k1 (mbin E .sub 3 v6_1 (.int .i64 1)) fun v7_2 => (r117_L0 call fuel base (fun m => (some (.ret (.tuple #[]), m))) fuel x0 x1 v7_2 (.int .i64 0) m)))
def keep117 : Keep := { region := fun i => ([[0, 1, 7, 8], [0, 1, 7, 8, 9], [0, 1, 4, 7, 8], [0, 1, 7, 8], [0, 1, 7, 8]] : List (List Nat))[i]?, exit := fun i => ([[], [0, 1, 7, 8]] : List (List Nat))[i]?, ret := some [] }
noncomputable def r117_L0_R (call : CallF) (fuel base n : Nat) (vs : List Value) (m : M) (K : KT) : Res2 := match vs with
  | [x0, x1, x7, x8] => r117_L0 call fuel base (fun m => K (.exit 0) { n := 23, l := [] } m) n x0 x1 x7 x8 m
  | _ => none
noncomputable def lp117 (call : CallF) (fuel base : Nat) : Lp := lpsel [(0, fun T m K => kslots 23 [0, 1, 7, 8] T fun vs => r117_L0_R call fuel base fuel vs m K)]
noncomputable def c117 : Code := Try.f117.body.getD .skip
theorem r117_L0_lk (call : CallF) (fuel base : Nat) : LoopsOk E call (lp117 call fuel base) fuel base 0 (loopB (blockB (seqR c117))) = (And True (And (And True True) (And (And True True) True))) := by kernel_rfl
theorem r117_L0_ok (call : CallF) (fuel base : Nat) : LpOk E call (lp117 call fuel base) fuel base 0 (loopB (blockB (seqR c117))) := by
  refine loop_ok (kp := keep117) (hb := Eq.mpr (r117_L0_lk call fuel base) (And.intro trivial (And.intro (And.intro trivial trivial) (And.intro (And.intro trivial trivial) trivial)))) 23 [0, 1, 7, 8] (fun n vs m K => r117_L0_R call fuel base n vs m K) ?_ ?_ (fun _ _ _ => rfl)
  · intro vs m K
    unfold r117_L0_R
    split <;> rfl
  · intro n vs m K hl
    match vs, hl with
    | [x0, x1, x7, x8], _ => show _ = _; kernel_rfl
theorem r117_eq (call : CallF) (fuel base : Nat) (x0 : Value) (x1 : Value) (m : M) : kbody E call keep117 (lp117 call fuel base) base Try.f117 [x0, x1] m = r117 call fuel base x0 x1 m := by
  kernel_rfl
noncomputable def rf117 : RF := fun call fuel base args m => match args with
  | [x0, x1] => r117 call fuel base x0 x1 m
  | _ => none
theorem r117_lk (call : CallF) (fuel base : Nat) : LoopsOk E call (lp117 call fuel base) fuel base 0 c117 = (And True (LpOk E call (lp117 call fuel base) fuel base 0 (loopB (blockB (seqR c117))))) := by kernel_rfl
theorem r117_fn : E.P.funcs[117]? = some Try.f117 := by kernel_rfl
theorem r117_body : Try.f117.body = some c117 := by kernel_rfl
theorem rf117_ok : RFok E 117 rf117 := by
  refine ⟨Try.f117, r117_fn, fun call fuel base args m r _ h => ?_⟩
  unfold rf117 at h
  split at h
  · rw [← r117_eq] at h
    exact kbody_sound (c := c117) r117_body (Eq.mpr (r117_lk call fuel base) (And.intro trivial (r117_L0_ok call fuel base))) h
  · simp at h
end Go.AM
namespace Go.AM
open Go Go.Proofs
noncomputable def r118 (call : CallF) (fuel base : Nat) (x0 : Value) (x1 : Value) (m : M) : Res2 :=
  (k1 (mbin E .lss 3 x1 (.int .i64 0)) fun v6_1 => (kb v6_1 none (k2 (vcall E.P base m .cap [33] [x0]) fun v10_2 m => (k2 (vcall E.P base m .len [33] [x0]) fun v12_3 m => (k1 (mbin E .sub 3 v10_2 v12_3) fun v13_4 => (k1 (mbin E .sub 3 x1 v13_4) fun v14_5 => (k1 (mbin E .gtr 3 v14_5 (.int .i64 0)) fun v16_6 => (kb v16_6 (k2 (vcall E.P base m .cap [33] [x0]) fun v19_7 m => (k1 (mslice E.P m 33 x0 none (some v19_7) none) fun v20_8 => (k2 (vcall E.P base m .append [33, 3] [v20_8, v14_5]) fun v22_9 m => (k2 (vcall E.P base m .len [33] [x0]) fun v24_10 m => (k1 (mslice E.P m 33 v22_9 none (some v24_10) none) fun v25_11 => (fVal v25_11 fun v => some (.ret v, m))))))) (fVal x0 fun v => some (.ret v, m))))))))))
def keep118 : Keep := { region := fun i => ([[0, 1], [0, 1, 6], [0, 1], [0, 1], [0, 1, 16], [0], [4]] : List (List Nat))[i]?, exit := fun i => ([] : List (List Nat))[i]?, ret := some [4] }
noncomputable def lp118 (call : CallF) (fuel base : Nat) : Lp := lpsel []
noncomputable def c118 : Code := Try.f118.body.getD .skip
theorem r118_eq (call : CallF) (fuel base : Nat) (x0 : Value) (x1 : Value) (m : M) : kbody E call keep118 (lp118 call fuel base) base Try.f118 [x0, x1] m = r118 call fuel base x0 x1 m := by
  kernel_rfl
noncomputable def rf118 : RF := fun call fuel base args m => match args with
  | [x0, x1] => r118 call fuel base x0 x1 m
  | _ => none
theorem r118_lk (call : CallF) (fuel base : Nat) : LoopsOk E call (lp118 call fuel base) fuel base 0 c118 = (And True (And (And True (And True True)) (And (And True (And True (And True True))) (And True True)))) := by kernel_rfl
theorem r118_fn : E.P.funcs[118]? = some Try.f118 := by kernel_rfl
theorem r118_body : Try.f118.body = some c118 := by kernel_rfl
theorem rf118_ok : RFok E 118 rf118 := by
  refine ⟨Try.f118, r118_fn, fun call fuel base args m r _ h => ?_⟩
  unfold rf118 at h
  split at h
  · rw [← r118_eq] at h
    exact kbody_sound (c := c118) r118_body (Eq.mpr (r118_lk call fuel base) (And.intro trivial (And.intro (And.intro trivial (And.intro trivial trivial)) (And.intro (And.intro trivial (And.intro trivial (And.intro trivial trivial))) (And.intro trivial trivial))))) h
  · simp at h
end Go.AM
namespace Go.AM
open Go Go.Proofs
noncomputable def r119_L0 (call : CallF) (fuel base : Nat) (kp : Value → M → Res2) (kr : M → Res2) (n : Nat) : Value → Value → Value → Value → Value → Value → M → Res2 :=
  Nat.rec (motive := fun _ => Value → Value → Value → Value → Value → Value → M → Res2) (fun _ _ _ _ _ _ _ => none)
    (fun _ ih x0 x1 x2 x3 x8 x9 m =>
      (k1 (mbin E .sub 3 x2 x1) fun v21_1 => (k1 (mbin E .leq 3 v21_1 (.int .i64 12)) fun v23_2 => (kb v23_2 (kc (call base 123 [x0, x1, x2] m) (fun v27_3 m => (kr m)) (fun v m => kp v m)) (k1 (mbin E .eql 3 x3 (.int .i64 0)) fun v29_4 => (kb v29_4 (kc (call base 124 [x0, x1, x2] m) (fun v33_5 m => (kr m)) (fun v m => kp v m)) (k1 (mun .not x8) fun v35_6 => (kb v35_6 (kc (call base 125 [x0, x1, x2] m) (fun v39_7 m => (k1 (mbin E .sub 3 x3 (.int .i64 1)) fun v41_8 => (kc (call base 126 [x0, x1, x2] m) (fun v46_9 m => (k1 (mextract 0 v46_9) fun v47_10 => (k1 (mextract 1 v46_9) fun v48_11 => (k1 (mbin E .eql 128 v48_11 (.int .i64 2)) fun v50_12 => (kb v50_12 (kc (call base 127 [x0, x1, x2] m) (fun v54_13 m => (k1 (mbin E .sub 3 x2 (.int .i64 1)) fun v56_14 => (k1 (mbin E .sub 3 v47_10 x1) fun v59_15 => (k1 (mbin E .sub 3 v56_14 v59_15) fun v60_16 => (kb x8 (kb x9 (k1 (mbin E .eql 128 (.int .i64 1) (.int .i64 1)) fun v67_17 => (kb v67_17 (kc (call base 128 [x0, x1, x2] m) (fun v72_18 m => (kb v72_18 (kr m) (k1 (mbin E .gtr 3 x1 (.int .i64 0)) fun v74_19 => (kb v74_19 (k1 (mbin E .sub 3 x1 (.int .i64 1)) fun v78_20 => (k1 (mindexAddr E.P 33 x0 v78_20) fun v79_21 => (k1 (xload E.P m 3 v79_21) fun v80_22 => (k1 (mindexAddr E.P 33 x0 v60_16) fun v83_23 => (k1 (xload E.P m 3 v83_23) fun v84_24 => (kc (kB m (call m.length 129 [v80_22, v84_24] m)) (fun v85_25 m => (k1 (mun .not v85_25) fun v86_26 => (kb v86_26 (kc (call base 130 [x0, x1, x2, v60_16] m) (fun v92_27 m => (ih x0 v92_27 x2 v41_8 x8 x9 m)) (fun v m => kp v m)) (kc (call base 131 [x0, x1, x2, v60_16] m) (fun v99_28 m => (k1 (mextract 0 v99_28) fun v100_29 => (k1 (mextract 1 v99_28) fun v101_30 => (k1 (mbin E .sub 3 v100_29 x1) fun v105_31 => (k1 (mbin E .sub 3 x2 v100_29) fun v108_32 => (k1 (mbin E .quo 3 v21_1 (.int .i64 8)) fun v110_33 => (k1 (mbin E .lss 3 v105_31 v108_32) fun v113_34 => (kb v113_34 (k1 (mbin E .geq 3 v105_31 v110_33) fun v116_35 => (kc (call base 119 [x0, x1, v100_29, v41_8] m) (fun v121_36 m => (k1 (mbin E .add 3 v100_29 (.int .i64 1)) fun v123_37 => (ih x0 v123_37 x2 v41_8 v116_35 v101_30 m))) (fun v m => kp v m))) (k1 (mbin E .geq 3 v108_32 v110_33) fun v126_38 => (k1 (mbin E .add 3 v100_29 (.int .i64 1)) fun v129_39 => (kc (call base 119 [x0, v129_39, x2, v41_8] m) (fun v132_40 m => (ih x0 x1 v100_29 v41_8 v126_38 v101_30 m)) (fun v m => kp v m)))))))))))) (fun v m => kp v m))))) (fun _ _ => none))))))) (kc (call base 131 [x0, x1, x2, v60_16] m) (fun v99_41 m => (k1 (mextract 0 v99_41) fun v100_42 => (k1 (mextract 1 v99_41) fun v101_43 => (k1 (mbin E .sub 3 v100_42 x1) fun v105_44 => (k1 (mbin E .sub 3 x2 v100_42) fun v108_45 => (k1 (mbin E .quo 3 v21_1 (.int .i64 8)) fun v110_46 => (k1 (mbin E .lss 3 v105_44 v108_45) fun v113_47 => (kb v113_47 (k1 (mbin E .geq 3 v105_44 v110_46) fun v116_48 => (kc (call base 119 [x0, x1, v100_42, v41_8] m) (fun v121_49 m => (k1 (mbin E .add 3 v100_42 (.int .i64 1)) fun v123_50 => (ih x0 v123_50 x2 v41_8 v116_48 v101_43 m))) (fun v m => kp v m))) (k1 (mbin E .geq 3 v108_45 v110_46) fun v126_51 => (k1 (mbin E .add 3 v100_42 (.int .i64 1)) fun v129_52 => (kc (call base 119 [x0, v129_52, x2, v41_8] m) (fun v132_53 m => (ih x0 x1 v100_42 v41_8 v126_51 v101_43 m)) (fun v m => kp v m)))))))))))) (fun v m => kp v m)))))) (fun v m => kp v m)) (k1 (mbin E .gtr 3 x1 (.int .i64 0)) fun v74_54 => (kb v74_54 (k1 (mbin E .sub 3 x1 (.int .i64 1)) fun v78_55 => (k1 (mindexAddr E.P 33 x0 v78_55) fun v79_56 => (k1 (xload E.P m 3 v79_56) fun v80_57 => (k1 (mindexAddr E.P 33 x0 v60_16) fun v83_58 => (k1 (xload E.P m 3 v83_58) fun v84_59 => (kc (kB m (call m.length 129 [v80_57, v84_59] m)) (fun v85_60 m => (k1 (mun .not v85_60) fun v86_61 => (kb v86_61 (kc (call base 130 [x0, x1, x2, v60_16] m) (fun v92_62 m => (ih x0 v92_62 x2 v41_8 x8 x9 m)) (fun v m => kp v m)) (kc (call base 131 [x0, x1, x2, v60_16] m) (fun v99_63 m => (k1 (mextract 0 v99_63) fun v100_64 => (k1 (mextract 1 v99_63) fun v101_65 => (k1 (mbin E .sub 3 v100_64 x1) fun v105_66 => (k1 (mbin E .sub 3 x2 v100_64) fun v108_67 => (k1 (mbin E .quo 3 v21_1 (.int .i64 8)) fun v110_68 => (k1 (mbin E .lss 3 v105_66 v108_67) fun v113_69 => (kb v113_69 (k1 (mbin E .geq 3 v105_66 v110_68) fun v116_70 => (kc (call base 119 [x0, x1, v100_64, v41_8] m) (fun v121_71 m => (k1 (mbin E .add 3 v100_64 (.int .i64 1)) fun v123_72 => (ih x0 v123_72 x2 v41_8 v116_70 v101_65 m))) (fun v m => kp v m))) (k1 (mbin E .geq 3 v108_67 v110_68) fun v126_73 => (k1 (mbin E .add 3 v100_64 (.int .i64 1)) fun v129_74 => (kc (call base 119 [x0, v129_74, x2, v41_8] m) (fun v132_75 m => (ih x0 x1 v100_64 v41_8 v126_73 v101_65 m)) (fun v m => kp v m)))))))))))) (fun v m => kp v m))))) (fun _ _ => none))))))) (kc (call base 131 [x0, x1, x2, v60_16] m) (fun v99_76 m => (k1 (mextract 0 v99_76) fun v100_77 => (k1 (mextract 1 v99_76) fun v101_78 => (k1 (mbin E .sub 3 v100_77 x1) fun v105_79 => (k1 (mbin E .sub 3 x2 v100_77) fun v108_80 => (k1 (mbin E .quo 3 v21_1 (.int .i64 8)) fun v110_81 => (k1 (mbin E .lss 3 v105_79 v108_80) fun v113_82 => (kb v113_82 (k1 (mbin E .geq 3 v105_79 v110_81) fun v116_83 => (kc (call base 119 [x0, x1, v100_77, v41_8] m) (fun v121_84 m => (k1 (mbin E .add 3 v100_77 (.int .i64 1)) fun v123_85 => (ih x0 v123_85 x2 v41_8 v116_83 v101_78 m))) (fun v m => kp v m))) (k1 (mbin E .geq 3 v108_80 v110_81) fun v126_86 => (k1 (mbin E .add 3 v100_77 (.int .i64 1)) fun v129_87 => (kc (call base 119 [x0, v129_87, x2, v41_8] m) (fun v132_88 m => (ih x0 x1 v100_77 v41_8 v126_86 v101_78 m)) (fun v m => kp v m)))))))))))) (fun v m => kp v m)))))) (k1 (mbin E .gtr 3 x1 (.int .i64 0)) fun v74_89 => (kb v74_89 (k1 (mbin E .sub 3 x1 (.int .i64 1)) fun v78_90 => (k1 (mindexAddr E.P 33 x0 v78_90) fun v79_91 => (k1 (xload E.P m 3 v79_91) fun v80_92 => (k1 (mindexAddr E.P 33 x0 v60_16) fun v83_93 => (k1 (xload E.P m 3 v83_93) fun v84_94 => (kc (kB m (call m.length 129 [v80_92, v84_94] m)) (fun v85_95 m => (k1 (mun .not v85_95) fun v86_96 => (kb v86_96 (kc (call base 130 [x0, x1, x2, v60_16] m) (fun v92_97 m => (ih x0 v92_97 x2 v41_8 x8 x9 m)) (fun v m => kp v m)) (kc (call base 131 [x0, x1, x2, v60_16] m) (fun v99_98 m => (k1 (mextract 0 v99_98) fun v100_99 => (k1 (mextract 1 v99_98) fun v101_100 => (k1 (mbin E .sub 3 v100_99 x1) fun v105_101 => (k1 (mbin E .sub 3 x2 v100_99) fun v108_102 => (k1 (mbin E .quo 3 v21_1 (.int .i64 8)) fun v110_103 => (k1 (mbin E .lss 3 v105_101 v108_102) fun v113_104 => (kb v113_104 (k1 (mbin E .geq 3 v105_101 v110_103) fun v116_105 => (kc (call base 119 [x0, x1, v100_99, v41_8] m) (fun v121_106 m => (k1 (mbin E .add 3 v100_99 (.int .i64 1)) fun v123_107 => (ih x0 v123_107 x2 v41_8 v116_105 v101_100 m))) (fun v m => kp v m))) (k1 (mbin E .geq 3 v108_102 v110_103) fun v126_108 => (k1 (mbin E .add 3 v100_99 (.int .i64 1)) fun v129_109 => (kc (call base 119 [x0, v129_109, x2, v41_8] m) (fun v132_110 m => (ih x0 x1 v100_99 v41_8 v126_108 v101_100 m)) (fun v m => kp v m)))))))))))) (fun v m => kp v m))))) (fun _ _ => none))))))) (kc (call base 131 [x0, x1, x2, v60_16] m) (fun v99_111 m => (k1 (mextract 0 v99_111) fun v100_112 => (k1 (mextract 1 v99_111) fun v101_113 => (k1 (mbin E .sub 3 v100_112 x1) fun v105_114 => (k1 (mbin E .sub 3 x2 v100_112) fun v108_115 => (k1 (mbin E .quo 3 v21_1 (.int .i64 8)) fun v110_116 => (k1 (mbin E .lss 3 v105_114 v108_115) fun v113_117 => (kb v113_117 (k1 (mbin E .geq 3 v105_114 v110_116) fun v116_118 => (kc (call base 119 [x0, x1, v100_112, v41_8] m) (fun v121_119 m => (k1 (mbin E .add 3 v100_112 (.int .i64 1)) fun v123_120 => (ih x0 v123_120 x2 v41_8 v116_118 v101_113 m))) (fun v m => kp v m))) (k1 (mbin E .geq 3 v108_115 v110_116) fun v126_121 => (k1 (mbin E .add 3 v100_112 (.int .i64 1)) fun v129_122 => (kc (call base 119 [x0, v129_122, x2, v41_8] m) (fun v132_123 m => (ih x0 x1 v100_112 v41_8 v126_121 v101_113 m)) (fun v m => kp v m)))))))))))) (fun v m => kp v m))))) (k1 (mbin E .gtr 3 x1 (.int .i64 0)) fun v74_124 => (kb v74_124 (k1 (mbin E .sub 3 x1 (.int .i64 1)) fun v78_125 => (k1 (mindexAddr E.P 33 x0 v78_125) fun v79_126 => (k1 (xload E.P m 3 v79_126) fun v80_127 => (k1 (mindexAddr E.P 33 x0 v60_16) fun v83_128 => (k1 (xload E.P m 3 v83_128) fun v84_129 => (kc (kB m (call m.length 129 [v80_127, v84_129] m)) (fun v85_130 m => (k1 (mun .not v85_130) fun v86_131 => (kb v86_131 (kc (call base 130 [x0, x1, x2, v60_16] m) (fun v92_132 m => (ih x0 v92_132 x2 v41_8 x8 x9 m)) (fun v m => kp v m)) (kc (call base 131 [x0, x1, x2, v60_16] m) (fun v99_133 m => (k1 (mextract 0 v99_133) fun v100_134 => (k1 (mextract 1 v99_133) fun v101_135 => (k1 (mbin E .sub 3 v100_134 x1) fun v105_136 => (k1 (mbin E .sub 3 x2 v100_134) fun v108_137 => (k1 (mbin E .quo 3 v21_1 (.int .i64 8)) fun v110_138 => (k1 (mbin E .lss 3 v105_136 v108_137) fun v113_139 => (kb v113_139 (k1 (mbin E .geq 3 v105_136 v110_138) fun v116_140 => (kc (call base 119 [x0, x1, v100_134, v41_8] m) (fun v121_141 m => (k1 (mbin E .add 3 v100_134 (.int .i64 1)) fun v123_142 => (ih x0 v123_142 x2 v41_8 v116_140 v101_135 m))) (fun v m => kp v m))) (k1 (mbin E .geq 3 v108_137 v110_138) fun v126_143 => (k1 (mbin E .add 3 v100_134 (.int .i64 1)) fun v129_144 => (kc (call base 119 [x0, v129_144, x2, v41_8] m) (fun v132_145 m => (ih x0 x1 v100_134 v41_8 v126_143 v101_135 m)) (fun v m => kp v m)))))))))))) (fun v m => kp v m))))) (fun _ _ => none))))))) (kc (call base 131 [x0, x1, x2, v60_16] m) (fun v99_146 m => (k1 (mextract 0 v99_146) fun v100_147 => (k1 (mextract 1 v99_146) fun v101_148 => (k1 (mbin E .sub 3 v100_147 x1) fun v105_149 => (k1 (mbin E .sub 3 x2 v100_147) fun v108_150 => (k1 (mbin E .quo 3 v21_1 (.int .i64 8)) fun v110_151 => (k1 (mbin E .lss 3 v105_149 v108_150) fun v113_152 => (kb v113_152 (k1 (mbin E .geq 3 v105_149 v110_151) fun v116_153 => (kc (call base 119 [x0, x1, v100_147, v41_8] m) (fun v121_154 m => (k1 (mbin E .add 3 v100_147 (.int .i64 1)) fun v123_155 => (ih x0 v123_155 x2 v41_8 v116_153 v101_148 m))) (fun v m => kp v m))) (k1 (mbin E .geq 3 v108_150 v110_151) fun v126_156 => (k1 (mbin E .add 3 v100_147 (.int .i64 1)) fun v129_157 => (kc (call base 119 [x0, v129_157, x2, v41_8] m) (fun v132_158 m => (ih x0 x1 v100_147 v41_8 v126_156 v101_148 m)) (fun v m => kp v m)))))))))))) (fun v m => kp v m))))))))) (fun v m => kp v m)) (kb x8 (kb x9 (k1 (mbin E .eql 128 v48_11 (.int .i64 1)) fun v67_159 => (kb v67_159 (kc (call base 128 [x0, x1, x2] m) (fun v72_160 m => (kb v72_160 (kr m) (k1 (mbin E .gtr 3 x1 (.int .i64 0)) fun v74_161 => (kb v74_161 (k1 (mbin E .sub 3 x1 (.int .i64 1)) fun v78_162 => (k1 (mindexAddr E.P 33 x0 v78_162) fun v79_163 => (k1 (xload E.P m 3 v79_163) fun v80_164 => (k1 (mindexAddr E.P 33 x0 v47_10) fun v83_165 => (k1 (xload E.P m 3 v83_165) fun v84_166 => (kc (kB m (call m.length 129 [v80_164, v84_166] m)) (fun v85_167 m => (k1 (mun .not v85_167) fun v86_168 => (kb v86_168 (kc (call base 130 [x0, x1, x2, v47_10] m) (fun v92_169 m => (ih x0 v92_169 x2 v41_8 x8 x9 m)) (fun v m => kp v m)) (kc (call base 131 [x0, x1, x2, v47_10] m) (fun v99_170 m => (k1 (mextract 0 v99_170) fun v100_171 => (k1 (mextract 1 v99_170) fun v101_172 => (k1 (mbin E .sub 3 v100_171 x1) fun v105_173 => (k1 (mbin E .sub 3 x2 v100_171) fun v108_174 => (k1 (mbin E .quo 3 v21_1 (.int .i64 8)) fun v110_175 => (k1 (mbin E .lss 3 v105_173 v108_174) fun v113_176 => (kb v113_176 (k1 (mbin E .geq 3 v105_173 v110_175) fun v116_177 => (kc (call base 119 [x0, x1, v100_171, v41_8] m) (fun v121_178 m => (k1 (mbin E .add 3 v100_171 (.int .i64 1)) fun v123_179 => (ih x0 v123_179 x2 v41_8 v116_177 v101_172 m))) (fun v m => kp v m))) (k1 (mbin E .geq 3 v108_174 v110_175) fun v126_180 => (k1 (mbin E .add 3 v100_171 (.int .i64 1)) fun v129_181 => (kc (call base 119 [x0, v129_181, x2, v41_8] m) (fun v132_182 m => (ih x0 x1 v100_171 v41_8 v126_180 v101_172 m)) (fun v m => kp v m)))))))))))) (fun v m => kp v m))))) (fun _ _ => none))))))) (kc (call base 131 [x0, x1, x2, v47_10] m) (fun v99_183 m => (k1 (mextract 0 v99_183) fun v100_184 => (k1 (mextract 1 v99_183) fun v101_185 => (k1 (mbin E .sub 3 v100_184 x1) fun v105_186 => (k1 (mbin E .sub 3 x2 v100_184) fun v108_187 => (k1 (mbin E .quo 3 v21_1 (.int .i64 8)) fun v110_188 => (k1 (mbin E .lss 3 v105_186 v108_187) fun v113_189 => (kb v113_189 (k1 (mbin E .geq 3 v105_186 v110_188) fun v116_190 => (kc (call base 119 [x0, x1, v100_184, v41_8] m) (fun v121_191 m => (k1 (mbin E .add 3 v100_184 (.int .i64 1)) fun v123_192 => (ih x0 v123_192 x2 v41_8 v116_190 v101_185 m))) (fun v m => kp v m))) (k1 (mbin E .geq 3 v108_187 v110_188) fun v126_193 => (k1 (mbin E .add 3 v100_184 (.int .i64 1)) fun v129_194 => (kc (call base 119 [x0, v129_194, x2, v41_8] m) (fun v132_195 m => (ih x0 x1 v100_184 v41_8 v126_193 v101_185 m)) (fun v m => kp v m)))))))))))) (fun v m => kp v m)))))) (fun v m => kp v m)) (k1 (mbin E .gtr 3 x1 (.int .i64 0)) fun v74_196 => (kb v74_196 (k1 (mbin E .sub 3 x1 (.int .i64 1)) fun v78_197 => (k1 (mindexAddr E.P 33 x0 v78_197) fun v79_198 => (k1 (xload E.P m 3 v79_198) fun v80_199 => (k1 (mindexAddr E.P 33 x0 v47_10) fun v83_200 => (k1 (xload E.P m 3 v83_200) fun v84_201 => (kc (kB m (call m.length 129 [v80_199, v84_201] m)) (fun v85_202 m => (k1 (mun .not v85_202) fun v86_203 => (kb v86_203 (kc (call base 130 [x0, x1, x2, v47_10] m) (fun v92_204 m => (ih x0 v92_204 x2 v41_8 x8 x9 m)) (fun v m => kp v m)) (kc (call base 131 [x0, x1, x2, v47_10] m) (fun v99_205 m => (k1 (mextract 0 v99_205) fun v100_206 => (k1 (mextract 1 v99_205) fun v101_207 => (k1 (mbin E .sub 3 v100_206 x1) fun v105_208 => (k1 (mbin E .sub 3 x2 v100_206) fun v108_209 => (k1 (mbin E .quo 3 v21_1 (.int .i64 8)) fun v110_210 => (k1 (mbin E .lss 3 v105_208 v108_209) fun v113_211 => (kb v113_211 (k1 (mbin E .geq 3 v105_208 v110_210) fun v116_212 => (kc (call base 119 [x0, x1, v100_206, v41_8] m) (fun v121_213 m => (k1 (mbin E .add 3 v100_206 (.int .i64 1)) fun v123_214 => (ih x0 v123_214 x2 v41_8 v116_212 v101_207 m))) (fun v m => kp v m))) (k1 (mbin E .geq 3 v108_209 v110_210) fun v126_215 => (k1 (mbin E .add 3 v100_206 (.int .i64 1)) fun v129_216 => (kc (call base 119 [x0, v129_216, x2, v41_8] m) (fun v132_217 m => (ih x0 x1 v100_206 v41_8 v126_215 v101_207 m)) (fun v m => kp v m)))))))))))) (fun v m => kp v m))))) (fun _ _ => none))))))) (kc (call base 131 [x0, x1, x2, v47_10] m) (fun v99_218 m => (k1 (mextract 0 v99_218) fun v100_219 => (k1 (mextract 1 v99_218) fun v101_220 => (k1 (mbin E .sub 3 v100_219 x1) fun v105_221 => (k1 (mbin E .sub 3 x2 v100_219) fun v108_222 => (k1 (mbin E .quo 3 v21_1 (.int .i64 8)) fun v110_223 => (k1 (mbin E .lss 3 v105_221 v108_222) fun v113_224 => (kb v113_224 (k1 (mbin E .geq 3 v105_221 v110_223) fun v116_225 => (kc (call base 119 [x0, x1, v100_219, v41_8] m) (fun v121_226 m => (k1 (mbin E .add 3 v100_219 (.int .i64 1)) fun v123_227 => (ih x0 v123_227 x2 v41_8 v116_225 v101_220 m))) (fun v m => kp v m))) (k1 (mbin E .geq 3 v108_222 v110_223) fun v126_228 => (k1 (mbin E .add 3 v100_219 (.int .i64 1)) fun v129_229 => (kc (call base 119 [x0, v129_229, x2, v41_8] m) (fun v132_230 m => (ih x0 x1 v100_219 v41_8 v126_228 v101_220 m)) (fun v m => kp v m)))))))))))) (fun v m => kp v m)))))) (k1 (mbin E .gtr 3 x1 (.int .i64 0)) fun v74_231 => (kb v74_231 (k1 (mbin E .sub 3 x1 (.int .i64 1)) fun v78_232 => (k1 (mindexAddr E.P 33 x0 v78_232) fun v79_233 => (k1 (xload E.P m 3 v79_233) fun v80_234 => (k1 (mindexAddr E.P 33 x0 v47_10) fun v83_235 => (k1 (xload E.P m 3 v83_235) fun v84_236 => (kc (kB m (call m.length 129 [v80_234, v84_236] m)) (fun v85_237 m => (k1 (mun .not v85_237) fun v86_238 => (kb v86_238 (kc (call base 130 [x0, x1, x2, v47_10] m) (fun v92_239 m => (ih x0 v92_239 x2 v41_8 x8 x9 m)) (fun v m => kp v m)) (kc (call base 131 [x0, x1, x2, v47_10] m) (fun v99_240 m => (k1 (mextract 0 v99_240) fun v100_241 => (k1 (mextract 1 v99_240) fun v101_242 => (k1 (mbin E .sub 3 v100_241 x1) fun v105_243 => (k1 (mbin E .sub 3 x2 v100_241) fun v108_244 => (k1 (mbin E .quo 3 v21_1 (.int .i64 8)) fun v110_245 => (k1 (mbin E .lss 3 v105_243 v108_244) fun v113_246 => (kb v113_246 (k1 (mbin E .geq 3 v105_243 v110_245) fun v116_247 => (kc (call base 119 [x0, x1, v100_241, v41_8] m) (fun v121_248 m => (k1 (mbin E .add 3 v100_241 (.int .i64 1)) fun v123_249 => (ih x0 v123_249 x2 v41_8 v116_247 v101_242 m))) (fun v m => kp v m))) (k1 (mbin E .geq 3 v108_244 v110_245) fun v126_250 => (k1 (mbin E .add 3 v100_241 (.int .i64 1)) fun v129_251 => (kc (call base 119 [x0, v129_251, x2, v41_8] m) (fun v132_252 m => (ih x0 x1 v100_241 v41_8 v126_250 v101_242 m)) (fun v m => kp v m)))))))))))) (fun v m => kp v m))))) (fun _ _ => none))))))) (kc (call base 131 [x0, x1, x2, v47_10] m) (fun v99_253 m => (k1 (mextract 0 v99_253) fun v100_254 => (k1 (mextract 1 v99_253) fun v101_255 => (k1 (mbin E .sub 3 v100_254 x1) fun v105_256 => (k1 (mbin E .sub 3 x2 v100_254) fun v108_257 => (k1 (mbin E .quo 3 v21_1 (.int .i64 8)) fun v110_258 => (k1 (mbin E .lss 3 v105_256 v108_257) fun v113_259 => (kb v113_259 (k1 (mbin E .geq 3 v105_256 v110_258) fun v116_260 => (kc (call base 119 [x0, x1, v100_254, v41_8] m) (fun v121_261 m => (k1 (mbin E .add 3 v100_254 (.int .i64 1)) fun v123_262 => (ih x0 v123_262 x2 v41_8 v116_260 v101_255 m))) (fun v m => kp v m))) (k1 (mbin E .geq 3 v108_257 v110_258) fun v126_263 => (k1 (mbin E .add 3 v100_254 (.int .i64 1)) fun v129_264 => (kc (call base 119 [x0, v129_264, x2, v41_8] m) (fun v132_265 m => (ih x0 x1 v100_254 v41_8 v126_263 v101_255 m)) (fun v m => kp v m)))))))))))) (fun v m => kp v m))))) (k1 (mbin E .gtr 3 x1 (.int .i64 0)) fun v74_266 => (kb v74_266 (k1 (mbin E .sub 3 x1 (.int .i64 1)) fun v78_267 => (k1 (mindexAddr E.P 33 x0 v78_267) fun v79_268 => (k1 (xload E.P m 3 v79_268) fun v80_269 => (k1 (mindexAddr E.P 33 x0 v47_10) fun v83_270 => (k1 (xload E.P m 3 v83_270) fun v84_271 => (kc (kB m (call m.length 129 [v80_269, v84_271] m)) (fun v85_272 m => (k1 (mun .not v85_272) fun v86_273 => (kb v86_273 (kc (call base 130 [x0, x1, x2, v47_10] m) (fun v92_274 m => (ih x0 v92_274 x2 v41_8 x8 x9 m)) (fun v m => kp v m)) (kc (call base 131 [x0, x1, x2, v47_10] m) (fun v99_275 m => (k1 (mextract 0 v99_275) fun v100_276 => (k1 (mextract 1 v99_275) fun v101_277 => (k1 (mbin E .sub 3 v100_276 x1) fun v105_278 => (k1 (mbin E .sub 3 x2 v100_276) fun v108_279 => (k1 (mbin E .quo 3 v21_1 (.int .i64 8)) fun v110_280 => (k1 (mbin E .lss 3 v105_278 v108_279) fun v113_281 => (kb v113_281 (k1 (mbin E .geq 3 v105_278 v110_280) fun v116_282 => (kc (call base 119 [x0, x1, v100_276, v41_8] m) (fun v121_283 m => (k1 (mbin E .add 3 v100_276 (.int .i64 1)) fun v123_284 => (ih x0 v123_284 x2 v41_8 v116_282 v101_277 m))) (fun v m => kp v m))) (k1 (mbin E .geq 3 v108_279 v110_280) fun v126_285 => (k1 (mbin E .add 3 v100_276 (.int .i64 1)) fun v129_286 => (kc (call base 119 [x0, v129_286, x2, v41_8] m) (fun v132_287 m => (ih x0 x1 v100_276 v41_8 v126_285 v101_277 m)) (fun v m => kp v m)))))))))))) (fun v m => kp v m))))) (fun _ _ => none))))))) (kc (call base 131 [x0, x1, x2, v47_10] m) (fun v99_288 m => (k1 (mextract 0 v99_288) fun v100_289 => (k1 (mextract 1 v99_288) fun v101_290 => (k1 (mbin E .sub 3 v100_289 x1) fun v105_291 => (k1 (mbin E .sub 3 x2 v100_289) fun v108_292 => (k1 (mbin E .quo 3 v21_1 (.int .i64 8)) fun v110_293 => (k1 (mbin E .lss 3 v105_291 v108_292) fun v113_294 => (kb v113_294 (k1 (mbin E .geq 3 v105_291 v110_293) fun v116_295 => (kc (call base 119 [x0, x1, v100_289, v41_8] m) (fun v121_296 m => (k1 (mbin E .add 3 v100_289 (.int .i64 1)) fun v123_297 => (ih x0 v123_297 x2 v41_8 v116_295 v101_290 m))) (fun v m => kp v m))) (k1 (mbin E .geq 3 v108_292 v110_293) fun v126_298 => (k1 (mbin E .add 3 v100_289 (.int .i64 1)) fun v129_299 => (kc (call base 119 [x0, v129_299, x2, v41_8] m) (fun v132_300 m => (ih x0 x1 v100_289 v41_8 v126_298 v101_290 m)) (fun v m => kp v m)))))))))))) (fun v m => kp v m)))))))))) (fun v m => kp v m)))) (fun v m => kp v m)) (kc (call base 126 [x0, x1, x2] m) (fun v46_301 m => (k1 (mextract 0 v46_301) fun v47_302 => (k1 (mextract 1 v46_301) fun v48_303 => (k1 (mbin E .eql 128 v48_303 (.int .i64 2)) fun v50_304 => (kb v50_304 (kc (call base 127 [x0, x1, x2] m) (fun v54_305 m => (k1 (mbin E .sub 3 x2 (.int .i64 1)) fun v56_306 => (k1 (mbin E .sub 3 v47_302 x1) fun v59_307 => (k1 (mbin E .sub 3 v56_306 v59_307) fun v60_308 => (kb x8 (kb x9 (k1 (mbin E .eql 128 (.int .i64 1) (.int .i64 1)) fun v67_309 => (kb v67_309 (kc (call base 128 [x0, x1, x2] m) (fun v72_310 m => (kb v72_310 (kr m) (k1 (mbin E .gtr 3 x1 (.int .i64 0)) fun v74_311 => (kb v74_311 (k1 (mbin E .sub 3 x1 (.int .i64 1)) fun v78_312 => (k1 (mindexAddr E.P 33 x0 v78_312) fun v79_313 => (k1 (xload E.P m 3 v79_313) fun v80_314 => (k1 (mindexAddr E.P 33 x0 v60_308) fun v83_315 => (k1 (xload E.P m 3 v83_315) fun v84_316 => (kc (kB m (call m.length 129 [v80_314, v84_316] m)) (fun v85_317 m => (k1 (mun .not v85_317) fun v86_318 => (kb v86_318 (kc (call base 130 [x0, x1, x2, v60_308] m) (fun v92_319 m => (ih x0 v92_319 x2 x3 x8 x9 m)) (fun v m => kp v m)) (kc (call base 131 [x0, x1, x2, v60_308] m) (fun v99_320 m => (k1 (mextract 0 v99_320) fun v100_321 => (k1 (mextract 1 v99_320) fun v101_322 => (k1 (mbin E .sub 3 v100_321 x1) fun v105_323 => (k1 (mbin E .sub 3 x2 v100_321) fun v108_324 => (k1 (mbin E .quo 3 v21_1 (.int .i64 8)) fun v110_325 => (k1 (mbin E .lss 3 v105_323 v108_324) fun v113_326 => (kb v113_326 (k1 (mbin E .geq 3 v105_323 v110_325) fun v116_327 => (kc (call base 119 [x0, x1, v100_321, x3] m) (fun v121_328 m => (k1 (mbin E .add 3 v100_321 (.int .i64 1)) fun v123_329 => (ih x0 v123_329 x2 x3 v116_327 v101_322 m))) (fun v m => kp v m))) (k1 (mbin E .geq 3 v108_324 v110_325) fun v126_330 => (k1 (mbin E .add 3 v100_321 (.int .i64 1)) fun v129_331 => (kc (call base 119 [x0, v129_331, x2, x3] m) (fun v132_332 m => (ih x0 x1 v100_321 x3 v126_330 v101_322 m)) (fun v m => kp v m)))))))))))) (fun v m => kp v m))))) (fun _ _ => none))))))) (kc (call base 131 [x0, x1, x2, v60_308] m) (fun v99_333 m => (k1 (mextract 0 v99_333) fun v100_334 => (k1 (mextract 1 v99_333) fun v101_335 => (k1 (mbin E .sub 3 v100_334 x1) fun v105_336 => (k1 (mbin E .sub 3 x2 v100_334) fun v108_337 => (k1 (mbin E .quo 3 v21_1 (.int .i64 8)) fun v110_338 => (k1 (mbin E .lss 3 v105_336 v108_337) fun v113_339 => (kb v113_339 (k1 (mbin E .geq 3 v105_336 v110_338) fun v116_340 => (kc (call base 119 [x0, x1, v100_334, x3] m) (fun v121_341 m => (k1 (mbin E .add 3 v100_334 (.int .i64 1)) fun v123_342 => (ih x0 v123_342 x2 x3 v116_340 v101_335 m))) (fun v m => kp v m))) (k1 (mbin E .geq 3 v108_337 v110_338) fun v126_343 => (k1 (mbin E .add 3 v100_334 (.int .i64 1)) fun v129_344 => (kc (call base 119 [x0, v129_344, x2, x3] m) (fun v132_345 m => (ih x0 x1 v100_334 x3 v126_343 v101_335 m)) (fun v m => kp v m)))))))))))) (fun v m => kp v m)))))) (fun v m => kp v m)) (k1 (mbin E .gtr 3 x1 (.int .i64 0)) fun v74_346 => (kb v74_346 (k1 (mbin E .sub 3 x1 (.int .i64 1)) fun v78_347 => (k1 (mindexAddr E.P 33 x0 v78_347) fun v79_348 => (k1 (xload E.P m 3 v79_348) fun v80_349 => (k1 (mindexAddr E.P 33 x0 v60_308) fun v83_350 => (k1 (xload E.P m 3 v83_350) fun v84_351 => (kc (kB m (call m.length 129 [v80_349, v84_351] m)) (fun v85_352 m => (k1 (mun .not v85_352) fun v86_353 => (kb v86_353 (kc (call base 130 [x0, x1, x2, v60_308] m) (fun v92_354 m => (ih x0 v92_354 x2 x3 x8 x9 m)) (fun v m => kp v m)) (kc (call base 131 [x0, x1, x2, v60_308] m) (fun v99_355 m => (k1 (mextract 0 v99_355) fun v100_356 => (k1 (mextract 1 v99_355) fun v101_357 => (k1 (mbin E .sub 3 v100_356 x1) fun v105_358 => (k1 (mbin E .sub 3 x2 v100_356) fun v108_359 => (k1 (mbin E .quo 3 v21_1 (.int .i64 8)) fun v110_360 => (k1 (mbin E .lss 3 v105_358 v108_359) fun v113_361 => (kb v113_361 (k1 (mbin E .geq 3 v105_358 v110_360) fun v116_362 => (kc (call base 119 [x0, x1, v100_356, x3] m) (fun v121_363 m => (k1 (mbin E .add 3 v100_356 (.int .i64 1)) fun v123_364 => (ih x0 v123_364 x2 x3 v116_362 v101_357 m))) (fun v m => kp v m))) (k1 (mbin E .geq 3 v108_359 v110_360) fun v126_365 => (k1 (mbin E .add 3 v100_356 (.int .i64 1)) fun v129_366 => (kc (call base 119 [x0, v129_366, x2, x3] m) (fun v132_367 m => (ih x0 x1 v100_356 x3 v126_365 v101_357 m)) (fun v m => kp v m)))))))))))) (fun v m => kp v m))))) (fun _ _ => none))))))) (kc (call base 131 [x0, x1, x2, v60_308] m) (fun v99_368 m => (k1 (mextract 0 v99_368) fun v100_369 => (k1 (mextract 1 v99_368) fun v101_370 => (k1 (mbin E .sub 3 v100_369 x1) fun v105_371 => (k1 (mbin E .sub 3 x2 v100_369) fun v108_372 => (k1 (mbin E .quo 3 v21_1 (.int .i64 8)) fun v110_373 => (k1 (mbin E .lss 3 v105_371 v108_372) fun v113_374 => (kb v113_374 (k1 (mbin E .geq 3 v105_371 v110_373) fun v116_375 => (kc (call base 119 [x0, x1, v100_369, x3] m) (fun v121_376 m => (k1 (mbin E .add 3 v100_369 (.int .i64 1)) fun v123_377 => (ih x0 v123_377 x2 x3 v116_375 v101_370 m))) (fun v m => kp v m))) (k1 (mbin E .geq 3 v108_372 v110_373) fun v126_378 => (k1 (mbin E .add 3 v100_369 (.int .i64 1)) fun v129_379 => (kc (call base 119 [x0, v129_379, x2, x3] m) (fun v132_380 m => (ih x0 x1 v100_369 x3 v126_378 v101_370 m)) (fun v m => kp v m)))))))))))) (fun v m => kp v m)))))) (k1 (mbin E .gtr 3 x1 (.int .i64 0)) fun v74_381 => (kb v74_381 (k1 (mbin E .sub 3 x1 (.int .i64 1)) fun v78_382 => (k1 (mindexAddr E.P 33 x0 v78_382) fun v79_383 => (k1 (xload E.P m 3 v79_383) fun v80_384 => (k1 (mindexAddr E.P 33 x0 v60_308) fun v83_385 => (k1 (xload E.P m 3 v83_385) fun v84_386 => (kc (kB m (call m.length 129 [v80_384, v84_386] m)) (fun v85_387 m => (k1 (mun .not v85_387) fun v86_388 => (kb v86_388 (kc (call base 130 [x0, x1, x2, v60_308] m) (fun v92_389 m => (ih x0 v92_389 x2 x3 x8 x9 m)) (fun v m => kp v m)) (kc (call base 131 [x0, x1, x2, v60_308] m) (fun v99_390 m => (k1 (mextract 0 v99_390) fun v100_391 => (k1 (mextract 1 v99_390) fun v101_392 => (k1 (mbin E .sub 3 v100_391 x1) fun v105_393 => (k1 (mbin E .sub 3 x2 v100_391) fun v108_394 => (k1 (mbin E .quo 3 v21_1 (.int .i64 8)) fun v110_395 => (k1 (mbin E .lss 3 v105_393 v108_394) fun v113_396 => (kb v113_396 (k1 (mbin E .geq 3 v105_393 v110_395) fun v116_397 => (kc (call base 119 [x0, x1, v100_391, x3] m) (fun v121_398 m => (k1 (mbin E .add 3 v100_391 (.int .i64 1)) fun v123_399 => (ih x0 v123_399 x2 x3 v116_397 v101_392 m))) (fun v m => kp v m))) (k1 (mbin E .geq 3 v108_394 v110_395) fun v126_400 => (k1 (mbin E .add 3 v100_391 (.int .i64 1)) fun v129_401 => (kc (call base 119 [x0, v129_401, x2, x3] m) (fun v132_402 m => (ih x0 x1 v100_391 x3 v126_400 v101_392 m)) (fun v m => kp v m)))))))))))) (fun v m => kp v m))))) (fun _ _ => none))))))) (kc (call base 131 [x0, x1, x2, v60_308] m) (fun v99_403 m => (k1 (mextract 0 v99_403) fun v100_404 => (k1 (mextract 1 v99_403) fun v101_405 => (k1 (mbin E .sub 3 v100_404 x1) fun v105_406 => (k1 (mbin E .sub 3 x2 v100_404) fun v108_407 => (k1 (mbin E .quo 3 v21_1 (.int .i64 8)) fun v110_408 => (k1 (mbin E .lss 3 v105_406 v108_407) fun v113_409 => (kb v113_409 (k1 (mbin E .geq 3 v105_406 v110_408) fun v116_410 => (kc (call base 119 [x0, x1, v100_404, x3] m) (fun v121_411 m => (k1 (mbin E .add 3 v100_404 (.int .i64 1)) fun v123_412 => (ih x0 v123_412 x2 x3 v116_410 v101_405 m))) (fun v m => kp v m))) (k1 (mbin E .geq 3 v108_407 v110_408) fun v126_413 => (k1 (mbin E .add 3 v100_404 (.int .i64 1)) fun v129_414 => (kc (call base 119 [x0, v129_414, x2, x3] m) (fun v132_415 m => (ih x0 x1 v100_404 x3 v126_413 v101_405 m)) (fun v m => kp v m)))))))))))) (fun v m => kp v m))))) (k1 (mbin E .gtr 3 x1 (.int .i64 0)) fun v74_416 => (kb v74_416 (k1 (mbin E .sub 3 x1 (.int .i64 1)) fun v78_417 => (k1 (mindexAddr E.P 33 x0 v78_417) fun v79_418 => (k1 (xload E.P m 3 v79_418) fun v80_419 => (k1 (mindexAddr E.P 33 x0 v60_308) fun v83_420 => (k1 (xload E.P m 3 v83_420) fun v84_421 => (kc (kB m (call m.length 129 [v80_419, v84_421] m)) (fun v85_422 m => (k1 (mun .not v85_422) fun v86_423 => (kb v86_423 (kc (call base 130 [x0, x1, x2, v60_308] m) (fun v92_424 m => (ih x0 v92_424 x2 x3 x8 x9 m)) (fun v m => kp v m)) (kc (call base 131 [x0, x1, x2, v60_308] m) (fun v99_425 m => (k1 (mextract 0 v99_425) fun v100_426 => (k1 (mextract 1 v99_425) fun v101_427 => (k1 (mbin E .sub 3 v100_426 x1) fun v105_428 => (k1 (mbin E .sub 3 x2 v100_426) fun v108_429 => (k1 (mbin E .quo 3 v21_1 (.int .i64 8)) fun v110_430 => (k1 (mbin E .lss 3 v105_428 v108_429) fun v113_431 => (kb v113_431 (k1 (mbin E .geq 3 v105_428 v110_430) fun v116_432 => (kc (call base 119 [x0, x1, v100_426, x3] m) (fun v121_433 m => (k1 (mbin E .add 3 v100_426 (.int .i64 1)) fun v123_434 => (ih x0 v123_434 x2 x3 v116_432 v101_427 m))) (fun v m => kp v m))) (k1 (mbin E .geq 3 v108_429 v110_430) fun v126_435 => (k1 (mbin E .add 3 v100_426 (.int .i64 1)) fun v129_436 => (kc (call base 119 [x0, v129_436, x2, x3] m) (fun v132_437 m => (ih x0 x1 v100_426 x3 v126_435 v101_427 m)) (fun v m => kp v m)))))))))))) (fun v m => kp v m))))) (fun _ _ => none))))))) (kc (call base 131 [x0, x1, x2, v60_308] m) (fun v99_438 m => (k1 (mextract 0 v99_438) fun v100_439 => (k1 (mextract 1 v99_438) fun v101_440 => (k1 (mbin E .sub 3 v100_439 x1) fun v105_441 => (k1 (mbin E .sub 3 x2 v100_439) fun v108_442 => (k1 (mbin E .quo 3 v21_1 (.int .i64 8)) fun v110_443 => (k1 (mbin E .lss 3 v105_441 v108_442) fun v113_444 => (kb v113_444 (k1 (mbin E .geq 3 v105_441 v110_443) fun v116_445 => (kc (call base 119 [x0, x1, v100_439, x3] m) (fun v121_446 m => (k1 (mbin E .add 3 v100_439 (.int .i64 1)) fun v123_447 => (ih x0 v123_447 x2 x3 v116_445 v101_440 m))) (fun v m => kp v m))) (k1 (mbin E .geq 3 v108_442 v110_443) fun v126_448 => (k1 (mbin E .add 3 v100_439 (.int .i64 1)) fun v129_449 => (kc (call base 119 [x0, v129_449, x2, x3] m) (fun v132_450 m => (ih x0 x1 v100_439 x3 v126_448 v101_440 m)) (fun v m => kp v m)))))))))))) (fun v m => kp v m))))))))) (fun v m => kp v m)) (kb x8 (kb x9 (k1 (mbin E .eql 128 v48_303 (.int .i64 1)) fun v67_451 => (kb v67_451 (kc (call base 128 [x0, x1, x2] m) (fun v72_452 m => (kb v72_452 (kr m) (k1 (mbin E .gtr 3 x1 (.int .i64 0)) fun v74_453 => (kb v74_453 (k1 (mbin E .sub 3 x1 (.int .i64 1)) fun v78_454 => (k1 (mindexAddr E.P 33 x0 v78_454) fun v79_455 => (k1 (xload E.P m 3 v79_455) fun v80_456 => (k1 (mindexAddr E.P 33 x0 v47_302) fun v83_457 => (k1 (xload E.P m 3 v83_457) fun v84_458 => (kc (kB m (call m.length 129 [v80_456, v84_458] m)) (fun v85_459 m => (k1 (mun .not v85_459) fun v86_460 => (kb v86_460 (kc (call base 130 [x0, x1, x2, v47_302] m) (fun v92_461 m => (ih x0 v92_461 x2 x3 x8 x9 m)) (fun v m => kp v m)) (kc (call base 131 [x0, x1, x2, v47_302] m) (fun v99_462 m => (k1 (mextract 0 v99_462) fun v100_463 => (k1 (mextract 1 v99_462) fun v101_464 => (k1 (mbin E .sub 3 v100_463 x1) fun v105_465 => (k1 (mbin E .sub 3 x2 v100_463) fun v108_466 => (k1 (mbin E .quo 3 v21_1 (.int .i64 8)) fun v110_467 => (k1 (mbin E .lss 3 v105_465 v108_466) fun v113_468 => (kb v113_468 (k1 (mbin E .geq 3 v105_465 v110_467) fun v116_469 => (kc (call base 119 [x0, x1, v100_463, x3] m) (fun v121_470 m => (k1 (mbin E .add 3 v100_463 (.int .i64 1)) fun v123_471 => (ih x0 v123_471 x2 x3 v116_469 v101_464 m))) (fun v m => kp v m))) (k1 (mbin E .geq 3 v108_466 v110_467) fun v126_472 => (k1 (mbin E .add 3 v100_463 (.int .i64 1)) fun v129_473 => (kc (call base 119 [x0, v129_473, x2, x3] m) (fun v132_474 m => (ih x0 x1 v100_463 x3 v126_472 v101_464 m)) (fun v m => kp v m)))))))))))) (fun v m => kp v m))))) (fun _ _ => none))))))) (kc (call base 131 [x0, x1, x2, v47_302] m) (fun v99_475 m => (k1 (mextract 0 v99_475) fun v100_476 => (k1 (mextract 1 v99_475) fun v101_477 => (k1 (mbin E .sub 3 v100_476 x1) fun v105_478 => (k1 (mbin E .sub 3 x2 v100_476) fun v108_479 => (k1 (mbin E .quo 3 v21_1 (.int .i64 8)) fun v110_480 => (k1 (mbin E .lss 3 v105_478 v108_479) fun v113_481 => (kb v113_481 (k1 (mbin E .geq 3 v105_478 v110_480) fun v116_482 => (kc (call base 119 [x0, x1, v100_476, x3] m) (fun v121_483 m => (k1 (mbin E .add 3 v100_476 (.int .i64 1)) fun v123_484 => (ih x0 v123_484 x2 x3 v116_482 v101_477 m))) (fun v m => kp v m))) (k1 (mbin E .geq 3 v108_479 v110_480) fun v126_485 => (k1 (mbin E .add 3 v100_476 (.int .i64 1)) fun v129_486 => (kc (call base 119 [x0, v129_486, x2, x3] m) (fun v132_487 m => (ih x0 x1 v100_476 x3 v126_485 v101_477 m)) (fun v m => kp v m)))))))))))) (fun v m => kp v m)))))) (fun v m => kp v m)) (k1 (mbin E .gtr 3 x1 (.int .i64 0)) fun v74_488 => (kb v74_488 (k1 (mbin E .sub 3 x1 (.int .i64 1)) fun v78_489 => (k1 (mindexAddr E.P 33 x0 v78_489) fun v79_490 => (k1 (xload E.P m 3 v79_490) fun v80_491 => (k1 (mindexAddr E.P 33 x0 v47_302) fun v83_492 => (k1 (xload E.P m 3 v83_492) fun v84_493 => (kc (kB m (call m.length 129 [v80_491, v84_493] m)) (fun v85_494 m => (k1 (mun .not v85_494) fun v86_495 => (kb v86_495 (kc (call base 130 [x0, x1, x2, v47_302] m) (fun v92_496 m => (ih x0 v92_496 x2 x3 x8 x9 m)) (fun v m => kp v m)) (kc (call base 131 [x0, x1, x2, v47_302] m) (fun v99_497 m => (k1 (mextract 0 v99_497) fun v100_498 => (k1 (mextract 1 v99_497) fun v101_499 => (k1 (mbin E .sub 3 v100_498 x1) fun v105_500 => (k1 (mbin E .sub 3 x2 v100_498) fun v108_501 => (k1 (mbin E .quo 3 v21_1 (.int .i64 8)) fun v110_502 => (k1 (mbin E .lss 3 v105_500 v108_501) fun v113_503 => (kb v113_503 (k1 (mbin E .geq 3 v105_500 v110_502) fun v116_504 => (kc (call base 119 [x0, x1, v100_498, x3] m) (fun v121_505 m => (k1 (mbin E .add 3 v100_498 (.int .i64 1)) fun v123_506 => (ih x0 v123_506 x2 x3 v116_504 v101_499 m))) (fun v m => kp v m))) (k1 (mbin E .geq 3 v108_501 v110_502) fun v126_507 => (k1 (mbin E .add 3 v100_498 (.int .i64 1)) fun v129_508 => (kc (call base 119 [x0, v129_508, x2, x3] m) (fun v132_509 m => (ih x0 x1 v100_498 x3 v126_507 v101_499 m)) (fun v m => kp v m)))))))))))) (fun v m => kp v m))))) (fun _ _ => none))))))) (kc (call base 131 [x0, x1, x2, v47_302] m) (fun v99_510 m => (k1 (mextract 0 v99_510) fun v100_511 => (k1 (mextract 1 v99_510) fun v101_512 => (k1 (mbin E .sub 3 v100_511 x1) fun v105_513 => (k1 (mbin E .sub 3 x2 v100_511) fun v108_514 => (k1 (mbin E .quo 3 v21_1 (.int .i64 8)) fun v110_515 => (k1 (mbin E .lss 3 v105_513 v108_514) fun v113_516 => (kb v113_516 (k1 (mbin E .geq 3 v105_513 v110_515) fun v116_517 => (kc (call base 119 [x0, x1, v100_511, x3] m) (fun v121_518 m => (k1 (mbin E .add 3 v100_511 (.int .i64 1)) fun v123_519 => (ih x0 v123_519 x2 x3 v116_517 v101_512 m))) (fun v m => kp v m))) (k1 (mbin E .geq 3 v108_514 v110_515) fun v126_520 => (k1 (mbin E .add 3 v100_511 (.int .i64 1)) fun v129_521 => (kc (call base 119 [x0, v129_521, x2, x3] m) (fun v132_522 m => (ih x0 x1 v100_511 x3 v126_520 v101_512 m)) (fun v m => kp v m)))))))))))) (fun v m => kp v m)))))) (k1 (mbin E .gtr 3 x1 (.int .i64 0)) fun v74_523 => (kb v74_523 (k1 (mbin E .sub 3 x1 (.int .i64 1)) fun v78_524 => (k1 (mindexAddr E.P 33 x0 v78_524) fun v79_525 => (k1 (xload E.P m 3 v79_525) fun v80_526 => (k1 (mindexAddr E.P 33 x0 v47_302) fun v83_527 => (k1 (xload E.P m 3 v83_527) fun v84_528 => (kc (kB m (call m.length 129 [v80_526, v84_528] m)) (fun v85_529 m => (k1 (mun .not v85_529) fun v86_530 => (kb v86_530 (kc (call base 130 [x0, x1, x2, v47_302] m) (fun v92_531 m => (ih x0 v92_531 x2 x3 x8 x9 m)) (fun v m => kp v m)) (kc (call base 131 [x0, x1, x2, v47_302] m) (fun v99_532 m => (k1 (mextract 0 v99_532) fun v100_533 => (k1 (mextract 1 v99_532) fun v101_534 => (k1 (mbin E .sub 3 v100_533 x1) fun v105_535 => (k1 (mbin E .sub 3 x2 v100_533) fun v108_536 => (k1 (mbin E .quo 3 v21_1 (.int .i64 8)) fun v110_537 => (k1 (mbin E .lss 3 v105_535 v108_536) fun v113_538 => (kb v113_538 (k1 (mbin E .geq 3 v105_535 v110_537) fun v116_539 => (kc (call base 119 [x0, x1, v100_533, x3] m) (fun v121_540 m => (k1 (mbin E .add 3 v100_533 (.int .i64 1)) fun v123_541 => (ih x0 v123_541 x2 x3 v116_539 v101_534 m))) (fun v m => kp v m))) (k1 (mbin E .geq 3 v108_536 v110_537) fun v126_542 => (k1 (mbin E .add 3 v100_533 (.int .i64 1)) fun v129_543 => (kc (call base 119 [x0, v129_543, x2, x3] m) (fun v132_544 m => (ih x0 x1 v100_533 x3 v126_542 v101_534 m)) (fun v m => kp v m)))))))))))) (fun v m => kp v m))))) (fun _ _ => none))))))) (kc (call base 131 [x0, x1, x2, v47_302] m) (fun v99_545 m => (k1 (mextract 0 v99_545) fun v100_546 => (k1 (mextract 1 v99_545) fun v101_547 => (k1 (mbin E .sub 3 v100_546 x1) fun v105_548 => (k1 (mbin E .sub 3 x2 v100_546) fun v108_549 => (k1 (mbin E .quo 3 v21_1 (.int .i64 8)) fun v110_550 => (k1 (mbin E .lss 3 v105_548 v108_549) fun v113_551 => (kb v113_551 (k1 (mbin E .geq 3 v105_548 v110_550) fun v116_552 => (kc (call base 119 [x0, x1, v100_546, x3] m) (fun v121_553 m => (k1 (mbin E .add 3 v100_546 (.int .i64 1)) fun v123_554 => (ih x0 v123_554 x2 x3 v116_552 v101_547 m))) (fun v m => kp v m))) (k1 (mbin E .geq 3 v108_549 v110_550) fun v126_555 => (k1 (mbin E .add 3 v100_546 (.int .i64 1)) fun v129_556 => (kc (call base 119 [x0, v129_556, x2, x3] m) (fun v132_557 m => (ih x0 x1 v100_546 x3 v126_555 v101_547 m)) (fun v m => kp v m)))))))))))) (fun v m => kp v m))))) (k1 (mbin E .gtr 3 x1 (.int .i64 0)) fun v74_558 => (kb v74_558 (k1 (mbin E .sub 3 x1 (.int .i64 1)) fun v78_559 => (k1 (mindexAddr E.P 33 x0 v78_559) fun v79_560 => (k1 (xload E.P m 3 v79_560) fun v80_561 => (k1 (mindexAddr E.P 33 x0 v47_302) fun v83_562 => (k1 (xload E.P m 3 v83_562) fun v84_563 => (kc (kB m (call m.length 129 [v80_561, v84_563] m)) (fun v85_564 m => (k1 (mun .not v85_564) fun v86_565 => (kb v86_565 (kc (call base 130 [x0, x1, x2, v47_302] m) (fun v92_566 m => (ih x0 v92_566 x2 x3 x8 x9 m)) (fun v m => kp v m)) (kc (call base 131 [x0, x1, x2, v47_302] m) (fun v99_567 m => (k1 (mextract 0 v99_567) fun v100_568 => (k1 (mextract 1 v99_567) fun v101_569 => (k1 (mbin E .sub 3 v100_568 x1) fun v105_570 => (k1 (mbin E .sub 3 x2 v100_568) fun v108_571 => (k1 (mbin E .quo 3 v21_1 (.int .i64 8)) fun v110_572 => (k1 (mbin E .lss 3 v105_570 v108_571) fun v113_573 => (kb v113_573 (k1 (mbin E .geq 3 v105_570 v110_572) fun v116_574 => (kc (call base 119 [x0, x1, v100_568, x3] m) (fun v121_575 m => (k1 (mbin E .add 3 v100_568 (.int .i64 1)) fun v123_576 => (ih x0 v123_576 x2 x3 v116_574 v101_569 m))) (fun v m => kp v m))) (k1 (mbin E .geq 3 v108_571 v110_572) fun v126_577 => (k1 (mbin E .add 3 v100_568 (.int .i64 1)) fun v129_578 => (kc (call base 119 [x0, v129_578, x2, x3] m) (fun v132_579 m => (ih x0 x1 v100_568 x3 v126_577 v101_569 m)) (fun v m => kp v m)))))))))))) (fun v m => kp v m))))) (fun _ _ => none))))))) (kc (call base 131 [x0, x1, x2, v47_302] m) (fun v99_580 m => (k1 (mextract 0 v99_580) fun v100_581 => (k1 (mextract 1 v99_580) fun v101_582 => (k1 (mbin E .sub 3 v100_581 x1) fun v105_583 => (k1 (mbin E .sub 3 x2 v100_581) fun v108_584 => (k1 (mbin E .quo 3 v21_1 (.int .i64 8)) fun v110_585 => (k1 (mbin E .lss 3 v105_583 v108_584) fun v113_586 => (kb v113_586 (k1 (mbin E .geq 3 v105_583 v110_585) fun v116_587 => (kc (call base 119 [x0, x1, v100_581, x3] m) (fun v121_588 m => (k1 (mbin E .add 3 v100_581 (.int .i64 1)) fun v123_589 => (ih x0 v123_589 x2 x3 v116_587 v101_582 m))) (fun v m => kp v m))) (k1 (mbin E .geq 3 v108_584 v110_585) fun v126_590 => (k1 (mbin E .add 3 v100_581 (.int .i64 1)) fun v129_591 => (kc (call base 119 [x0, v129_591, x2, x3] m) (fun v132_592 m => (ih x0 x1 v100_581 x3 v126_590 v101_582 m)) (fun v m => kp v m)))))))))))) (fun v m => kp v m)))))))))) (fun v m => kp v m)))))))))) n
noncomputable def r119 (call : CallF) (fuel base : Nat) (x0 : Value) (x1 : Value) (x2 : Value) (x3 : Value) (m : M) : Res2 :=
  (r119_L0 call fuel base (fun v m => some (.pan v, m)) (fun m => (some (.ret (.tuple #[]), m))) fuel x0 x1 x2 x3 (.bool true) (.bool true) m)
def keep119 : Keep := { region := fun i => ([[0, 1, 2, 3, 8], [0, 1, 2, 3, 8, 9], [0, 1, 2, 3, 8, 9, 10], [0, 1, 2, 3, 8, 9, 10, 23], [], [0, 1, 2, 3, 8, 9, 10, 29], [], [0, 1, 2, 3, 8, 9, 10, 35], [0, 1, 2, 3, 8, 9, 10], [0, 1, 2, 3, 8, 9, 10], [0, 1, 2, 3, 8, 9, 10, 11, 12], [0, 1, 2, 3, 8, 9, 10, 11, 12, 50], [0, 1, 2, 3, 8, 9, 10, 11], [0, 1, 2, 3, 8, 9, 10, 11], [0, 1, 2, 3, 8, 9, 10, 11, 12], [0, 1, 2, 3, 8, 9, 10, 11, 68], [0, 1, 2, 3, 8, 9, 10, 11, 72], [0, 1, 2, 3, 8, 9, 10, 11, 87], [0, 2, 3, 8, 9, 13], [0, 1, 2, 3, 8, 9], [0, 1, 2, 3, 10, 14, 15], [0, 1, 2, 3, 9, 10, 14], [0, 1, 2, 3, 9, 10, 14, 16, 17], [0, 1, 2, 3, 9, 14, 16, 17, 18], [0, 1, 2, 3, 9, 14, 16, 17, 18, 113], [0, 1, 2, 3, 8, 9, 14], [0, 2, 3, 8, 9, 14], [0, 1, 2, 3, 8, 9], [0, 1, 2, 3, 8, 9, 14], [0, 1, 3, 8, 9, 14], [0, 1, 2, 3, 8, 9]] : List (List Nat))[i]?, exit := fun i => ([[], [0, 1, 2, 3, 8, 9]] : List (List Nat))[i]?, ret := some [] }
noncomputable def r119_L0_R (call : CallF) (fuel base n : Nat) (vs : List Value) (m : M) (K : KT) : Res2 := match vs with
  | [x0, x1, x2, x3, x8, x9] => r119_L0 call fuel base (fun v m => K (.pan v) { n := 134, l := [] } m) (fun m => K .ret { n := 134, l := [] } m) n x0 x1 x2 x3 x8 x9 m
  | _ => none
noncomputable def lp119 (call : CallF) (fuel base : Nat) : Lp := lpsel [(0, fun T m K => kslots 134 [0, 1, 2, 3, 8, 9] T fun vs => r119_L0_R call fuel base fuel vs m K)]
noncomputable def c119 : Code := Try.f119.body.getD .skip
theorem r119_L0_lk (call : CallF) (fuel base : Nat) : LoopsOk E call (lp119 call fuel base) fuel base 0 (loopB (blockB (seqR (seqR c119)))) = (And True (And (And True (And (And True True) True)) (And (And True (And (And True True) True)) (And (And True (And (And True True) True)) (And True (And (And True (And (And True (And True True)) True)) (And (And True (And (And True (And True True)) True)) (And (And True (And (And True (And True True)) True)) (And True (And True (And True (And True (And True (And (And True (And True True)) (And True (And True True)))))))))))))))) := by kernel_rfl
theorem r119_L0_ok (call : CallF) (fuel base : Nat) : LpOk E call (lp119 call fuel base) fuel base 0 (loopB (blockB (seqR (seqR c119)))) := by
  refine loop_ok (kp := keep119) (hb := Eq.mpr (r119_L0_lk call fuel base) (And.intro trivial (And.intro (And.intro trivial (And.intro (And.intro trivial trivial) trivial)) (And.intro (And.intro trivial (And.intro (And.intro trivial trivial) trivial)) (And.intro (And.intro trivial (And.intro (And.intro trivial trivial) trivial)) (And.intro trivial (And.intro (And.intro trivial (And.intro (And.intro trivial (And.intro trivial trivial)) trivial)) (And.intro (And.intro trivial (And.intro (And.intro trivial (And.intro trivial trivial)) trivial)) (And.intro (And.intro trivial (And.intro (And.intro trivial (And.intro trivial trivial)) trivial)) (And.intro trivial (And.intro trivial (And.intro trivial (And.intro trivial (And.intro trivial (And.intro (And.intro trivial (And.intro trivial trivial)) (And.intro trivial (And.intro trivial trivial))))))))))))))))) 134 [0, 1, 2, 3, 8, 9] (fun n vs m K => r119_L0_R call fuel base n vs m K) ?_ ?_ (fun _ _ _ => rfl)
  · intro vs m K
    unfold r119_L0_R
    split <;> rfl
  · intro n vs m K hl
    match vs, hl with
    | [x0, x1, x2, x3, x8, x9], _ => show _ = _; kernel_rfl
theorem r119_eq (call : CallF) (fuel base : Nat) (x0 : Value) (x1 : Value) (x2 : Value) (x3 : Value) (m : M) : kbody E call keep119 (lp119 call fuel base) base Try.f119 [x0, x1, x2, x3] m = r119 call fuel base x0 x1 x2 x3 m := by
  kernel_rfl
noncomputable def rf119 : RF := fun call fuel base args m => match args with
  | [x0, x1, x2, x3] => r119 call fuel base x0 x1 x2 x3 m
  | _ => none
theorem r119_lk (call : CallF) (fuel base : Nat) : LoopsOk E call (lp119 call fuel base) fuel base 0 c119 = (And True (And True (LpOk E call (lp119 call fuel base) fuel base 0 (loopB (blockB (seqR (seqR c119))))))) := by kernel_rfl
theorem r119_fn : E.P.funcs[119]? = some Try.f119 := by kernel_rfl
theorem r119_body : Try.f119.body = some c119 := by kernel_rfl
theorem rf119_ok : RFok E 119 rf119 := by
  refine ⟨Try.f119, r119_fn, fun call fuel base args m r _ h => ?_⟩
  unfold rf119 at h
  split at h
  · rw [← r119_eq] at h
    exact kbody_sound (c := c119) r119_body (Eq.mpr (r119_lk call fuel base) (And.intro trivial (And.intro trivial (r119_L0_ok call fuel base)))) h
  · simp at h
end Go.AM
namespace Go.AM
open Go Go.Proofs
noncomputable def r120 (call : CallF) (fuel base : Nat) (x0 : Value) (m : M) : Res2 :=
  (kc (call base 133 [x0] m) (fun v7_1 m => (fVal v7_1 fun v => some (.ret v, m))) (fun v m => some (.pan v, m)))
def keep120 : Keep := { region := fun i => ([[0], [2], [2]] : List (List Nat))[i]?, exit := fun i => ([] : List (List Nat))[i]?, ret := some [2] }
noncomputable def lp120 (call : CallF) (fuel base : Nat) : Lp := lpsel []
noncomputable def c120 : Code := Try.f120.body.getD .skip
theorem r120_eq (call : CallF) (fuel base : Nat) (x0 : Value) (m : M) : kbody E call keep120 (lp120 call fuel base) base Try.f120 [x0] m = r120 call fuel base x0 m := by
  kernel_rfl
noncomputable def rf120 : RF := fun call fuel base args m => match args with
  | [x0] => r120 call fuel base x0 m
  | _ => none
theorem r120_lk (call : CallF) (fuel base : Nat) : LoopsOk E call (lp120 call fuel base) fuel base 0 c120 = (And True (And (And (And True True) True) (And True True))) := by kernel_rfl
theorem r120_fn : E.P.funcs[120]? = some Try.f120 := by kernel_rfl
theorem r120_body : Try.f120.body = some c120 := by kernel_rfl
theorem rf120_ok : RFok E 120 rf120 := by
  refine ⟨Try.f120, r120_fn, fun call fuel base args m r _ h => ?_⟩
  unfold rf120 at h
  split at h
  · rw [← r120_eq] at h
    exact kbody_sound (c := c120) r120_body (Eq.mpr (r120_lk call fuel base) (And.intro trivial (And.intro (And.intro (And.intro trivial trivial) trivial) (And.intro trivial trivial)))) h
  · simp at h
end Go.AM
namespace Go.AM
open Go Go.Proofs
noncomputable def r121 (call : CallF) (fuel base : Nat) (x0 : Value) (m : M) : Res2 :=
  (k1 (mbin E .neq 3 x0 x0) fun v5_1 => (fVal v5_1 fun v => some (.ret v, m)))
def keep121 : Keep := { region := fun i => ([[0], [2]] : List (List Nat))[i]?, exit := fun i => ([] : List (List Nat))[i]?, ret := some [2] }
noncomputable def lp121 (call : CallF) (fuel base : Nat) : Lp := lpsel []
noncomputable def c121 : Code := Try.f121.body.getD .skip
theorem r121_eq (call : CallF) (fuel base : Nat) (x0 : Value) (m : M) : kbody E call keep121 (lp121 call fuel base) base Try.f121 [x0] m = r121 call fuel base x0 m := by
  kernel_rfl
noncomputable def rf121 : RF := fun call fuel base args m => match args with
  | [x0] => r121 call fuel base x0 m
  | _ => none
theorem r121_lk (call : CallF) (fuel base : Nat) : LoopsOk E call (lp121 call fuel base) fuel base 0 c121 = (And True (And True True)) := by kernel_rfl
theorem r121_fn : E.P.funcs[121]? = some Try.f121 := by kernel_rfl
theorem r121_body : Try.f121.body = some c121 := by kernel_rfl
theorem rf121_ok : RFok E 121 rf121 := by
  refine ⟨Try.f121, r121_fn, fun call fuel base args m r _ h => ?_⟩
  unfold rf121 at h
  split at h
  · rw [← r121_eq] at h
    exact kbody_sound (c := c121) r121_body (Eq.mpr (r121_lk call fuel base) (And.intro trivial (And.intro trivial trivial))) h
  · simp at h
end Go.AM
namespace Go.AM
open Go Go.Proofs
noncomputable def r122_L2 (call : CallF) (fuel base : Nat) (kp : Value → M → Res2) (kx2 : Value → Value → Value → Value → Value → M → Res2) (n : Nat) : Value → Value → Value → Value → Value → Value → Value → Value → Value → M → Res2 :=
  Nat.rec (motive := fun _ => Value → Value → Value → Value → Value → Value → Value → Value → Value → M → Res2) (fun _ _ _ _ _ _ _ _ _ _ => none)
    (fun _ ih x0 x2 x7 x11 x12 x13 x23 x24 x25 m =>
      (k1 (mbin E .lss 3 x25 x24) fun v26_11 => (kb v26_11 (k1 (mindexAddr E.P 33 x23 x25) fun v27_12 => (k1 (xload E.P m 3 v27_12) fun v28_13 => (k1 (mindexAddr E.P 33 x2 v28_13) fun v33_14 => (k1 (xload E.P m 3 v33_14) fun v34_15 => (kc (call base 99 [v34_15, x7] m) (fun v36_16 m => (k1 (mindexAddr E.P 33 x2 v28_13) fun v37_17 => (ks (xstore E.P base m 3 v37_17 v36_16) fun m => (k1 (mbin E .add 3 x25 (.int .i64 1)) fun v38_18 => (ih x0 x2 x7 x11 x12 x13 x23 x24 v38_18 m))))) (fun v m => kp v m)))))) (kx2 x0 x2 x11 x12 x13 m)))) n
noncomputable def r122_L0 (call : CallF) (fuel base : Nat) (kp : Value → M → Res2) (kx0 : M → Res2) (n : Nat) : Value → Value → Value → Value → Value → M → Res2 :=
  Nat.rec (motive := fun _ => Value → Value → Value → Value → Value → M → Res2) (fun _ _ _ _ _ _ => none)
    (fun _ ih x0 x2 x11 x12 x13 m =>
      (k1 (mbin E .lss 3 x13 x12) fun v14_3 => (kb v14_3 (k1 (mindexAddr E.P 33 x11 x13) fun v16_4 => (k1 (xload E.P m 3 v16_4) fun v17_5 => (k1 (mbin E .eql 3 v17_5 (.int .i64 0)) fun v19_6 => (kb v19_6 (k1 (mbin E .add 3 x13 (.int .i64 1)) fun v39_7 => (ih x0 x2 x11 x12 v39_7 m)) (k1 (mindexAddr E.P 103 x0 x13) fun v22_8 => (k1 (xload E.P m 33 v22_8) fun v23_9 => (k2 (vcall E.P base m .len [33] [v23_9]) fun v24_10 m => (r122_L2 call fuel base (fun v m => kp v m) (fun y0_19 y2_20 y11_21 y12_22 y13_23 m => (k1 (mbin E .add 3 y13_23 (.int .i64 1)) fun v39_24 => (ih y0_19 y2_20 y11_21 y12_22 v39_24 m))) fuel x0 x2 v17_5 x11 x12 x13 v23_9 v24_10 (.int .i64 0) m)))))))) (kx0 m)))) n
noncomputable def r122 (call : CallF) (fuel base : Nat) (x0 : Value) (x1 : Value) (x2 : Value) (m : M) : Res2 :=
  (k2 (vcall E.P base m .clear [33] [x2]) fun vNone_1 m => (k2 (vcall E.P base m .len [33] [x1]) fun v12_2 m => (r122_L0 call fuel base (fun v m => some (.pan v, m)) (fun m => (some (.ret (.tuple #[]), m))) fuel x0 x2 x1 v12_2 (.int .i64 0) m)))
def keep122 : Keep := { region := fun i => ([[0, 1, 2], [0, 2, 11, 12, 13], [0, 2, 11, 12, 13, 14], [0, 2, 6, 7, 11, 12, 13], [0, 2, 6, 7, 11, 12, 13, 19], [0, 2, 7, 11, 12, 13, 23, 24, 25], [0, 2, 7, 11, 12, 13, 23, 24, 25, 26], [0, 2, 7, 9, 11, 12, 13, 23, 24, 25], [0, 2, 7, 11, 12, 13, 23, 24, 25], [0, 2, 7, 11, 12, 13, 23, 24, 25], [0, 2, 11, 12, 13]] : List (List Nat))[i]?, exit := fun i => ([[], [0, 2, 11, 12, 13], [0, 2, 11, 12, 13], [0, 2, 7, 11, 12, 13, 23, 24, 25]] : List (List Nat))[i]?, ret := some [] }
noncomputable def r122_L2_R (call : CallF) (fuel base n : Nat) (vs : List Value) (m : M) (K : KT) : Res2 := match vs with
  | [x0, x2, x7, x11, x12, x13, x23, x24, x25] => r122_L2 call fuel base (fun v m => K (.pan v) { n := 40, l := [] } m) (fun y0 y2 y11 y12 y13 m => K (.exit 2) { n := 40, l := [(0, y0), (2, y2), (11, y11), (12, y12), (13, y13)] } m) n x0 x2 x7 x11 x12 x13 x23 x24 x25 m
  | _ => none
noncomputable def r122_L0_R (call : CallF) (fuel base n : Nat) (vs : List Value) (m : M) (K : KT) : Res2 := match vs with
  | [x0, x2, x11, x12, x13] => r122_L0 call fuel base (fun v m => K (.pan v) { n := 40, l := [] } m) (fun m => K (.exit 0) { n := 40, l := [] } m) n x0 x2 x11 x12 x13 m
  | _ => none
noncomputable def lp122 (call : CallF) (fuel base : Nat) : Lp := lpsel [(2, fun T m K => kslots 40 [0, 2, 7, 11, 12, 13, 23, 24, 25] T fun vs => r122_L2_R call fuel base fuel vs m K), (0, fun T m K => kslots 40 [0, 2, 11, 12, 13] T fun vs => r122_L0_R call fuel base fuel vs m K)]
noncomputable def c122 : Code := Try.f122.body.getD .skip
theorem r122_L2_lk (call : CallF) (fuel base : Nat) : LoopsOk E call (lp122 call fuel base) fuel base 2 (loopB (blockB (seqR (seqR (seqR (blockB (seqL (seqR (seqR (loopB (blockB (seqR (seqR c122))))))))))))) = (And True (And (And True True) (And (And True True) True))) := by kernel_rfl
theorem r122_L2_ok (call : CallF) (fuel base : Nat) : LpOk E call (lp122 call fuel base) fuel base 2 (loopB (blockB (seqR (seqR (seqR (blockB (seqL (seqR (seqR (loopB (blockB (seqR (seqR c122))))))))))))) := by
  refine loop_ok (kp := keep122) (hb := Eq.mpr (r122_L2_lk call fuel base) (And.intro trivial (And.intro (And.intro trivial trivial) (And.intro (And.intro trivial trivial) trivial)))) 40 [0, 2, 7, 11, 12, 13, 23, 24, 25] (fun n vs m K => r122_L2_R call fuel base n vs m K) ?_ ?_ (fun _ _ _ => rfl)
  · intro vs m K
    unfold r122_L2_R
    split <;> rfl
  · intro n vs m K hl
    match vs, hl with
    | [x0, x2, x7, x11, x12, x13, x23, x24, x25], _ => show _ = _; kernel_rfl
theorem r122_L0_lk (call : CallF) (fuel base : Nat) : LoopsOk E call (lp122 call fuel base) fuel base 0 (loopB (blockB (seqR (seqR c122)))) = (And True (And (And True True) (And (And True (And (And True (And True True)) (And True (LpOk E call (lp122 call fuel base) fuel base 2 (loopB (blockB (seqR (seqR (seqR (blockB (seqL (seqR (seqR (loopB (blockB (seqR (seqR c122))))))))))))))))) True))) := by kernel_rfl
theorem r122_L0_ok (call : CallF) (fuel base : Nat) : LpOk E call (lp122 call fuel base) fuel base 0 (loopB (blockB (seqR (seqR c122)))) := by
  refine loop_ok (kp := keep122) (hb := Eq.mpr (r122_L0_lk call fuel base) (And.intro trivial (And.intro (And.intro trivial trivial) (And.intro (And.intro trivial (And.intro (And.intro trivial (And.intro trivial trivial)) (And.intro trivial (r122_L2_ok call fuel base)))) trivial)))) 40 [0, 2, 11, 12, 13] (fun n vs m K => r122_L0_R call fuel base n vs m K) ?_ ?_ (fun _ _ _ => rfl)
  · intro vs m K
    unfold r122_L0_R
    split <;> rfl
  · intro n vs m K hl
    match vs, hl with
    | [x0, x2, x11, x12, x13], _ => show _ = _; kernel_rfl
theorem r122_eq (call : CallF) (fuel base : Nat) (x0 : Value) (x1 : Value) (x2 : Value) (m : M) : kbody E call keep122 (lp122 call fuel base) base Try.f122 [x0, x1, x2] m = r122 call fuel base x0 x1 x2 m := by
  kernel_rfl
noncomputable def rf122 : RF := fun call fuel base args m => match args with
  | [x0, x1, x2] => r122 call fuel base x0 x1 x2 m
  | _ => none
theorem r122_lk (call : CallF) (fuel base : Nat) : LoopsOk E call (lp122 call fuel base) fuel base 0 c122 = (And True (And True (LpOk E call (lp122 call fuel base) fuel base 0 (loopB (blockB (seqR (seqR c122))))))) := by kernel_rfl
theorem r122_fn : E.P.funcs[122]? = some Try.f122 := by kernel_rfl
theorem r122_body : Try.f122.body = some c122 := by kernel_rfl
theorem rf122_ok : RFok E 122 rf122 := by
  refine ⟨Try.f122, r122_fn, fun call fuel base args m r _ h => ?_⟩
  unfold rf122 at h
  split at h
  · rw [← r122_eq] at h
    exact kbody_sound (c := c122) r122_body (Eq.mpr (r122_lk call fuel base) (And.intro trivial (And.intro trivial (r122_L0_ok call fuel base)))) h
  · simp at h
end Go.AM
namespace Go.AM
open Go Go.Proofs
noncomputable def r123_L2 (call : CallF) (fuel base : Nat) (kx2 : Value → Value → Value → Value → M → Res2) (n : Nat) : Value → Value → Value → Value → Value → M → Res2 :=
  Nat.rec (motive := fun _ => Value → Value → Value → Value → Value → M → Res2) (fun _ _ _ _ _ _ => none)
    (fun _ ih x0 x1 x2 x6 x7 m =>
      (k1 (mbin E .gtr 3 x7 x1) fun v18_3 => (kb v18_3 (k1 (mindexAddr E.P 33 x0 x7) fun v22_4 => (k1 (xload E.P m 3 v22_4) fun v23_5 => (k1 (mbin E .sub 3 x7 (.int .i64 1)) fun v26_6 => (k1 (mindexAddr E.P 33 x0 v26_6) fun v27_7 => (k1 (xload E.P m 3 v27_7) fun v28_8 => (kc (kB m (call m.length 129 [v23_5, v28_8] m)) (fun v29_9 m => (kb v29_9 (k1 (mbin E .sub 3 x7 (.int .i64 1)) fun v37_10 => (k1 (mbin E .sub 3 x7 (.int .i64 1)) fun v40_11 => (k1 (mindexAddr E.P 33 x0 v40_11) fun v41_12 => (k1 (xload E.P m 3 v41_12) fun v42_13 => (k1 (mindexAddr E.P 33 x0 x7) fun v45_14 => (k1 (xload E.P m 3 v45_14) fun v46_15 => (k1 (mindexAddr E.P 33 x0 x7) fun v47_16 => (ks (xstore E.P base m 3 v47_16 v42_13) fun m => (k1 (mindexAddr E.P 33 x0 v37_10) fun v48_17 => (ks (xstore E.P base m 3 v48_17 v46_15) fun m => (k1 (mbin E .sub 3 x7 (.int .i64 1)) fun v32_18 => (ih x0 x1 x2 x6 v32_18 m)))))))))))) (kx2 x0 x1 x2 x6 m))) (fun _ _ => none))))))) (kx2 x0 x1 x2 x6 m)))) n
noncomputable def r123_L0 (call : CallF) (fuel base : Nat) (kx0 : M → Res2) (n : Nat) : Value → Value → Value → Value → M → Res2 :=
  Nat.rec (motive := fun _ => Value → Value → Value → Value → M → Res2) (fun _ _ _ _ _ => none)
    (fun _ ih x0 x1 x2 x6 m =>
      (k1 (mbin E .lss 3 x6 x2) fun v12_2 => (kb v12_2 (r123_L2 call fuel base (fun y0_19 y1_20 y2_21 y6_22 m => (k1 (mbin E .add 3 y6_22 (.int .i64 1)) fun v14_23 => (ih y0_19 y1_20 y2_21 v14_23 m))) fuel x0 x1 x2 x6 x6 m) (kx0 m)))) n
noncomputable def r123 (call : CallF) (fuel base : Nat) (x0 : Value) (x1 : Value) (x2 : Value) (m : M) : Res2 :=
  (k1 (mbin E .add 3 x1 (.int .i64 1)) fun v9_1 => (r123_L0 call fuel base (fun m => (some (.ret (.tuple #[]), m))) fuel x0 x1 x2 v9_1 m))
def keep123 : Keep := { region := fun i => ([[0, 1, 2, 6], [0, 1, 2, 6, 12], [0, 1, 2, 6], [0, 1, 2, 6, 7], [0, 1, 2, 6, 7, 30], [0, 1, 2, 6, 7], [0, 1, 2, 6, 7]] : List (List Nat))[i]?, exit := fun i => ([[], [0, 1, 2, 6], [0, 1, 2, 6], [0, 1, 2, 6, 7]] : List (List Nat))[i]?, ret := some [] }
noncomputable def r123_L2_R (call : CallF) (fuel base n : Nat) (vs : List Value) (m : M) (K : KT) : Res2 := match vs with
  | [x0, x1, x2, x6, x7] => r123_L2 call fuel base (fun y0 y1 y2 y6 m => K (.exit 2) { n := 49, l := [(0, y0), (1, y1), (2, y2), (6, y6)] } m) n x0 x1 x2 x6 x7 m
  | _ => none
noncomputable def r123_L0_R (call : CallF) (fuel base n : Nat) (vs : List Value) (m : M) (K : KT) : Res2 := match vs with
  | [x0, x1, x2, x6] => r123_L0 call fuel base (fun m => K (.exit 0) { n := 49, l := [] } m) n x0 x1 x2 x6 m
  | _ => none
noncomputable def lp123 (call : CallF) (fuel base : Nat) : Lp := lpsel [(2, fun T m K => kslots 49 [0, 1, 2, 6, 7] T fun vs => r123_L2_R call fuel base fuel vs m K), (0, fun T m K => kslots 49 [0, 1, 2, 6] T fun vs => r123_L0_R call fuel base fuel vs m K)]
noncomputable def c123 : Code := Try.f123.body.getD .skip
theorem r123_L2_lk (call : CallF) (fuel base : Nat) : LoopsOk E call (lp123 call fuel base) fuel base 2 (loopB (blockB (seqR (blockB (seqL (seqR (loopB (blockB (seqR c123))))))))) = (And (And True (And True True)) (And True True)) := by kernel_rfl
theorem r123_L2_ok (call : CallF) (fuel base : Nat) : LpOk E call (lp123 call fuel base) fuel base 2 (loopB (blockB (seqR (blockB (seqL (seqR (loopB (blockB (seqR c123))))))))) := by
  refine loop_ok (kp := keep123) (hb := Eq.mpr (r123_L2_lk call fuel base) (And.intro (And.intro trivial (And.intro trivial trivial)) (And.intro trivial trivial))) 49 [0, 1, 2, 6, 7] (fun n vs m K => r123_L2_R call fuel base n vs m K) ?_ ?_ (fun _ _ _ => rfl)
  · intro vs m K
    unfold r123_L2_R
    split <;> rfl
  · intro n vs m K hl
    match vs, hl with
    | [x0, x1, x2, x6, x7], _ => show _ = _; kernel_rfl
theorem r123_L0_lk (call : CallF) (fuel base : Nat) : LoopsOk E call (lp123 call fuel base) fuel base 0 (loopB (blockB (seqR c123))) = (And (And True (And True True)) (And (And True (LpOk E call (lp123 call fuel base) fuel base 2 (loopB (blockB (seqR (blockB (seqL (seqR (loopB (blockB (seqR c123))))))))))) True)) := by kernel_rfl
theorem r123_L0_ok (call : CallF) (fuel base : Nat) : LpOk E call (lp123 call fuel base) fuel base 0 (loopB (blockB (seqR c123))) := by
  refine loop_ok (kp := keep123) (hb := Eq.mpr (r123_L0_lk call fuel base) (And.intro (And.intro trivial (And.intro trivial trivial)) (And.intro (And.intro trivial (r123_L2_ok call fuel base)) trivial))) 49 [0, 1, 2, 6] (fun n vs m K => r123_L0_R call fuel base n vs m K) ?_ ?_ (fun _ _ _ => rfl)
  · intro vs m K
    unfold r123_L0_R
    split <;> rfl
  · intro n vs m K hl
    match vs, hl with
    | [x0, x1, x2, x6], _ => show _ = _; kernel_rfl
theorem r123_eq (call : CallF) (fuel base : Nat) (x0 : Value) (x1 : Value) (x2 : Value) (m : M) : kbody E call keep123 (lp123 call fuel base) base Try.f123 [x0, x1, x2] m = r123 call fuel base x0 x1 x2 m := by
  kernel_rfl
noncomputable def rf123 : RF := fun call fuel base args m => match args with
  | [x0, x1, x2] => r123 call fuel base x0 x1 x2 m
  | _ => none
theorem r123_lk (call : CallF) (fuel base : Nat) : LoopsOk E call (lp123 call fuel base) fuel base 0 c123 = (And True (LpOk E call (lp123 call fuel base) fuel base 0 (loopB (blockB (seqR c123))))) := by kernel_rfl
theorem r123_fn : E.P.funcs[123]? = some Try.f123 := by kernel_rfl
theorem r123_body : Try.f123.body = some c123 := by kernel_rfl
theorem rf123_ok : RFok E 123 rf123 := by
  refine ⟨Try.f123, r123_fn, fun call fuel base args m r _ h => ?_⟩
  unfold rf123 at h
  split at h
  · rw [← r123_eq] at h
    exact kbody_sound (c := c123) r123_body (Eq.mpr (r123_lk call fuel base) (And.intro trivial (r123_L0_ok call fuel base))) h
  · simp at h
end Go.AM
namespace Go.AM
open Go Go.Proofs
noncomputable def r124_L0 (call : CallF) (fuel base : Nat) (kp : Value → M → Res2) (kx0 : Value → Value → Value → Value → M → Res2) (n : Nat) : Value → Value → Value → Value → Value → M → Res2 :=
  Nat.rec (motive := fun _ => Value → Value → Value → Value → Value → M → Res2) (fun _ _ _ _ _ _ => none)
    (fun _ ih x0 x6 x7 x8 x9 m =>
      (k1 (mbin E .geq 3 x9 (.int .i64 0)) fun v19_4 => (kb v19_4 (kc (call base 134 [x0, x9, x8, x6] m) (fun v26_5 m => (k1 (mbin E .sub 3 x9 (.int .i64 1)) fun v21_6 => (ih x0 x6 x7 x8 v21_6 m))) (fun v m => kp v m)) (kx0 x0 x6 x7 x8 m)))) n
noncomputable def r124_L2 (call : CallF) (fuel base : Nat) (kp : Value → M → Res2) (kx2 : M → Res2) (n : Nat) : Value → Value → Value → Value → M → Res2 :=
  Nat.rec (motive := fun _ => Value → Value → Value → Value → M → Res2) (fun _ _ _ _ _ => none)
    (fun _ ih x0 x6 x7 x10 m =>
      (k1 (mbin E .geq 3 x10 (.int .i64 0)) fun v30_12 => (kb v30_12 (k1 (mbin E .add 3 x6 x10) fun v38_13 => (k1 (mbin E .add 3 x6 x10) fun v42_14 => (k1 (mindexAddr E.P 33 x0 v42_14) fun v43_15 => (k1 (xload E.P m 3 v43_15) fun v44_16 => (k1 (mindexAddr E.P 33 x0 x6) fun v47_17 => (k1 (xload E.P m 3 v47_17) fun v48_18 => (k1 (mindexAddr E.P 33 x0 x6) fun v49_19 => (ks (xstore E.P base m 3 v49_19 v44_16) fun m => (k1 (mindexAddr E.P 33 x0 v38_13) fun v50_20 => (ks (xstore E.P base m 3 v50_20 v48_18) fun m => (kc (call base 134 [x0, x7, x10, x6] m) (fun v55_21 m => (k1 (mbin E .sub 3 x10 (.int .i64 1)) fun v32_22 => (ih x0 x6 x7 v32_22 m))) (fun v m => kp v m)))))))))))) (kx2 m)))) n
noncomputable def r124 (call : CallF) (fuel base : Nat) (x0 : Value) (x1 : Value) (x2 : Value) (m : M) : Res2 :=
  (k1 (mbin E .sub 3 x2 x1) fun v14_1 => (k1 (mbin E .sub 3 v14_1 (.int .i64 1)) fun v16_2 => (k1 (mbin E .quo 3 v16_2 (.int .i64 2)) fun v17_3 => (r124_L0 call fuel base (fun v m => some (.pan v, m)) (fun y0_7 y6_8 y7_9 y8_10 m => (k1 (mbin E .sub 3 y8_10 (.int .i64 1)) fun v28_11 => (r124_L2 call fuel base (fun v m => some (.pan v, m)) (fun m => (some (.ret (.tuple #[]), m))) fuel y0_7 y6_8 y7_9 v28_11 m))) fuel x0 x1 (.int .i64 0) v14_1 v17_3 m))))
def keep124 : Keep := { region := fun i => ([[0, 1, 2, 6], [0, 1, 2, 6, 7], [0, 6, 7, 8], [0, 6, 7, 8, 9], [0, 6, 7, 8, 9, 19], [0, 6, 7, 8, 9], [0, 6, 7, 8, 9], [0, 6, 7, 10], [0, 6, 7, 10, 30], [0, 6, 7, 10], [0, 6, 7, 10], [0, 6, 7, 10]] : List (List Nat))[i]?, exit := fun i => ([[0, 6, 7, 8], [0, 6, 7, 8, 9], [], [0, 6, 7, 10]] : List (List Nat))[i]?, ret := some [] }
noncomputable def r124_L0_R (call : CallF) (fuel base n : Nat) (vs : List Value) (m : M) (K : KT) : Res2 := match vs with
  | [x0, x6, x7, x8, x9] => r124_L0 call fuel base (fun v m => K (.pan v) { n := 56, l := [] } m) (fun y0 y6 y7 y8 m => K (.exit 0) { n := 56, l := [(0, y0), (6, y6), (7, y7), (8, y8)] } m) n x0 x6 x7 x8 x9 m
  | _ => none
noncomputable def r124_L2_R (call : CallF) (fuel base n : Nat) (vs : List Value) (m : M) (K : KT) : Res2 := match vs with
  | [x0, x6, x7, x10] => r124_L2 call fuel base (fun v m => K (.pan v) { n := 56, l := [] } m) (fun m => K (.exit 2) { n := 56, l := [] } m) n x0 x6 x7 x10 m
  | _ => none
noncomputable def lp124 (call : CallF) (fuel base : Nat) : Lp := lpsel [(0, fun T m K => kslots 56 [0, 6, 7, 8, 9] T fun vs => r124_L0_R call fuel base fuel vs m K), (2, fun T m K => kslots 56 [0, 6, 7, 10] T fun vs => r124_L2_R call fuel base fuel vs m K)]
noncomputable def c124 : Code := Try.f124.body.getD .skip
theorem r124_L0_lk (call : CallF) (fuel base : Nat) : LoopsOk E call (lp124 call fuel base) fuel base 0 (loopB (blockB (seqR (seqL (seqR (seqR (seqR c124))))))) = (And (And True (And True True)) (And True True)) := by kernel_rfl
theorem r124_L0_ok (call : CallF) (fuel base : Nat) : LpOk E call (lp124 call fuel base) fuel base 0 (loopB (blockB (seqR (seqL (seqR (seqR (seqR c124))))))) := by
  refine loop_ok (kp := keep124) (hb := Eq.mpr (r124_L0_lk call fuel base) (And.intro (And.intro trivial (And.intro trivial trivial)) (And.intro trivial trivial))) 56 [0, 6, 7, 8, 9] (fun n vs m K => r124_L0_R call fuel base n vs m K) ?_ ?_ (fun _ _ _ => rfl)
  · intro vs m K
    unfold r124_L0_R
    split <;> rfl
  · intro n vs m K hl
    match vs, hl with
    | [x0, x6, x7, x8, x9], _ => show _ = _; kernel_rfl
theorem r124_L2_lk (call : CallF) (fuel base : Nat) : LoopsOk E call (lp124 call fuel base) fuel base 2 (loopB (blockB (seqR (seqR (seqR (seqR (seqR c124))))))) = (And (And True (And True True)) (And (And True True) True)) := by kernel_rfl
theorem r124_L2_ok (call : CallF) (fuel base : Nat) : LpOk E call (lp124 call fuel base) fuel base 2 (loopB (blockB (seqR (seqR (seqR (seqR (seqR c124))))))) := by
  refine loop_ok (kp := keep124) (hb := Eq.mpr (r124_L2_lk call fuel base) (And.intro (And.intro trivial (And.intro trivial trivial)) (And.intro (And.intro trivial trivial) trivial))) 56 [0, 6, 7, 10] (fun n vs m K => r124_L2_R call fuel base n vs m K) ?_ ?_ (fun _ _ _ => rfl)
  · intro vs m K
    unfold r124_L2_R
    split <;> rfl
  · intro n vs m K hl
    match vs, hl with
    | [x0, x6, x7, x10], _ => show _ = _; kernel_rfl
theorem r124_eq (call : CallF) (fuel base : Nat) (x0 : Value) (x1 : Value) (x2 : Value) (m : M) : kbody E call keep124 (lp124 call fuel base) base Try.f124 [x0, x1, x2] m = r124 call fuel base x0 x1 x2 m := by
  kernel_rfl
noncomputable def rf124 : RF := fun call fuel base args m => match args with
  | [x0, x1, x2] => r124 call fuel base x0 x1 x2 m
  | _ => none
theorem r124_lk (call : CallF) (fuel base : Nat) : LoopsOk E call (lp124 call fuel base) fuel base 0 c124 = (And True (And True (And True (And (And True (LpOk E call (lp124 call fuel base) fuel base 0 (loopB (blockB (seqR (seqL (seqR (seqR (seqR c124))))))))) (And True (LpOk E call (lp124 call fuel base) fuel base 2 (loopB (blockB (seqR (seqR (seqR (seqR (seqR c124))))))))))))) := by kernel_rfl
theorem r124_fn : E.P.funcs[124]? = some Try.f124 := by kernel_rfl
theorem r124_body : Try.f124.body = some c124 := by kernel_rfl
theorem rf124_ok : RFok E 124 rf124 := by
  refine ⟨Try.f124, r124_fn, fun call fuel base args m r _ h => ?_⟩
  unfold rf124 at h
  split at h
  · rw [← r124_eq] at h
    exact kbody_sound (c := c124) r124_body (Eq.mpr (r124_lk call fuel base) (And.intro trivial (And.intro trivial (And.intro trivial (And.intro (And.intro trivial (r124_L0_ok call fuel base)) (And.intro trivial (r124_L2_ok call fuel base))))))) h
  · simp at h
end Go.AM
namespace Go.AM
open Go Go.Proofs
noncomputable def r125_L0 (call : CallF) (fuel base : Nat) (kp : Value → M → Res2) (kx0 : M → Res2) (n : Nat) : Value → Value → Value → Value → Value → Value → M → Res2 :=
  Nat.rec (motive := fun _ => Value → Value → Value → Value → Value → Value → M → Res2) (fun _ _ _ _ _ _ _ => none)
    (fun _ ih x0 x1 x6 x7 x8 x9 m =>
      (k1 (mbin E .quo 3 x6 (.int .i64 4)) fun v29_10 => (k1 (mbin E .mul 3 v29_10 (.int .i64 2)) fun v30_11 => (k1 (mbin E .add 3 x1 v30_11) fun v31_12 => (k1 (mbin E .add 3 v31_12 (.int .i64 1)) fun v32_13 => (k1 (mbin E .leq 3 x9 v32_13) fun v33_14 => (kb v33_14 (kc (call base 136 [x7] m) (fun v36_15 m => (k1 (mbin E .sub 125 x8 (.int .u64 1)) fun v38_16 => (k1 (mbin E .and 125 v36_15 v38_16) fun v39_17 => (k1 (mconvert E.P 125 3 v39_17) fun v40_18 => (k1 (mbin E .geq 3 v40_18 x6) fun v43_19 => (kb v43_19 (k1 (mbin E .sub 3 v40_18 x6) fun v46_20 => (k1 (mbin E .add 3 x1 v46_20) fun v52_21 => (k1 (mbin E .add 3 x1 v46_20) fun v56_22 => (k1 (mindexAddr E.P 33 x0 v56_22) fun v57_23 => (k1 (xload E.P m 3 v57_23) fun v58_24 => (k1 (mindexAddr E.P 33 x0 x9) fun v61_25 => (k1 (xload E.P m 3 v61_25) fun v62_26 => (k1 (mindexAddr E.P 33 x0 x9) fun v63_27 => (ks (xstore E.P base m 3 v63_27 v58_24) fun m => (k1 (mindexAddr E.P 33 x0 v52_21) fun v64_28 => (ks (xstore E.P base m 3 v64_28 v62_26) fun m => (k1 (mbin E .add 3 x9 (.int .i64 1)) fun v35_29 => (ih x0 x1 x6 x7 x8 v35_29 m))))))))))))) (k1 (mbin E .add 3 x1 v40_18) fun v52_30 => (k1 (mbin E .add 3 x1 v40_18) fun v56_31 => (k1 (mindexAddr E.P 33 x0 v56_31) fun v57_32 => (k1 (xload E.P m 3 v57_32) fun v58_33 => (k1 (mindexAddr E.P 33 x0 x9) fun v61_34 => (k1 (xload E.P m 3 v61_34) fun v62_35 => (k1 (mindexAddr E.P 33 x0 x9) fun v63_36 => (ks (xstore E.P base m 3 v63_36 v58_33) fun m => (k1 (mindexAddr E.P 33 x0 v52_30) fun v64_37 => (ks (xstore E.P base m 3 v64_37 v62_35) fun m => (k1 (mbin E .add 3 x9 (.int .i64 1)) fun v35_38 => (ih x0 x1 x6 x7 x8 v35_38 m)))))))))))))))))) (fun v m => kp v m)) (kx0 m)))))))) n
noncomputable def r125 (call : CallF) (fuel base : Nat) (x0 : Value) (x1 : Value) (x2 : Value) (m : M) : Res2 :=
  (k1 (mbin E .sub 3 x2 x1) fun v13_1 => (k1 (mbin E .geq 3 v13_1 (.int .i64 8)) fun v15_2 => (kb v15_2 (k1 (mconvert E.P 3 140 v13_1) fun v17_3 => (k2 (xalloc E.P m 140) fun v7_4 m => (ks (xstore E.P base m 140 v7_4 v17_3) fun m => (kc (call base 135 [v13_1] m) (fun v19_5 m => (k1 (mbin E .quo 3 v13_1 (.int .i64 4)) fun v22_6 => (k1 (mbin E .mul 3 v22_6 (.int .i64 2)) fun v23_7 => (k1 (mbin E .add 3 x1 v23_7) fun v24_8 => (k1 (mbin E .sub 3 v24_8 (.int .i64 1)) fun v25_9 => (r125_L0 call fuel base (fun v m => some (.pan v, m)) (fun m => (some (.ret (.tuple #[]), m))) fuel x0 x1 v13_1 v7_4 v19_5 v25_9 m)))))) (fun v m => some (.pan v, m)))))) (some (.ret (.tuple #[]), m)))))
def keep125 : Keep := { region := fun i => ([[0, 1, 6], [0, 1, 6, 15], [0, 1, 6, 7], [0, 1, 6, 7, 8], [0, 1, 6, 7, 8, 9], [0, 1, 6, 7, 8, 9, 33], [0, 1, 6, 7, 8, 9], [0, 1, 6, 7, 8, 9, 10], [0, 1, 6, 7, 8, 9, 10, 43], [0, 1, 6, 7, 8, 9, 10], [0, 1, 6, 7, 8, 9]] : List (List Nat))[i]?, exit := fun i => ([[], [0, 1, 6, 7, 8, 9]] : List (List Nat))[i]?, ret := some [] }
noncomputable def r125_L0_R (call : CallF) (fuel base n : Nat) (vs : List Value) (m : M) (K : KT) : Res2 := match vs with
  | [x0, x1, x6, x7, x8, x9] => r125_L0 call fuel base (fun v m => K (.pan v) { n := 65, l := [] } m) (fun m => K (.exit 0) { n := 65, l := [] } m) n x0 x1 x6 x7 x8 x9 m
  | _ => none
noncomputable def lp125 (call : CallF) (fuel base : Nat) : Lp := lpsel [(0, fun T m K => kslots 65 [0, 1, 6, 7, 8, 9] T fun vs => r125_L0_R call fuel base fuel vs m K)]
noncomputable def c125 : Code := Try.f125.body.getD .skip
theorem r125_L0_lk (call : CallF) (fuel base : Nat) : LoopsOk E call (lp125 call fuel base) fuel base 0 (loopB (blockB (seqR (seqR (seqR (condT (seqR (seqR c125)))))))) = (And (And True (And True True)) (And (And True (And (And True (And True True)) True)) True)) := by kernel_rfl
theorem r125_L0_ok (call : CallF) (fuel base : Nat) : LpOk E call (lp125 call fuel base) fuel base 0 (loopB (blockB (seqR (seqR (seqR (condT (seqR (seqR c125)))))))) := by
  refine loop_ok (kp := keep125) (hb := Eq.mpr (r125_L0_lk call fuel base) (And.intro (And.intro trivial (And.intro trivial trivial)) (And.intro (And.intro trivial (And.intro (And.intro trivial (And.intro trivial trivial)) trivial)) trivial))) 65 [0, 1, 6, 7, 8, 9] (fun n vs m K => r125_L0_R call fuel base n vs m K) ?_ ?_ (fun _ _ _ => rfl)
  · intro vs m K
    unfold r125_L0_R
    split <;> rfl
  · intro n vs m K hl
    match vs, hl with
    | [x0, x1, x6, x7, x8, x9], _ => show _ = _; kernel_rfl
theorem r125_eq (call : CallF) (fuel base : Nat) (x0 : Value) (x1 : Value) (x2 : Value) (m : M) : kbody E call keep125 (lp125 call fuel base) base Try.f125 [x0, x1, x2] m = r125 call fuel base x0 x1 x2 m := by
  kernel_rfl
noncomputable def rf125 : RF := fun call fuel base args m => match args with
  | [x0, x1, x2] => r125 call fuel base x0 x1 x2 m
  | _ => none
theorem r125_lk (call : CallF) (fuel base : Nat) : LoopsOk E call (lp125 call fuel base) fuel base 0 c125 = (And True (And True (And (And True (And True (And True (LpOk E call (lp125 call fuel base) fuel base 0 (loopB (blockB (seqR (seqR (seqR (condT (seqR (seqR c125)))))))))))) True))) := by kernel_rfl
theorem r125_fn : E.P.funcs[125]? = some Try.f125 := by kernel_rfl
theorem r125_body : Try.f125.body = some c125 := by kernel_rfl
theorem rf125_ok : RFok E 125 rf125 := by
  refine ⟨Try.f125, r125_fn, fun call fuel base args m r _ h => ?_⟩
  unfold rf125 at h
  split at h
  · rw [← r125_eq] at h
    exact kbody_sound (c := c125) r125_body (Eq.mpr (r125_lk call fuel base) (And.intro trivial (And.intro trivial (And.intro (And.intro trivial (And.intro trivial (And.intro trivial (r125_L0_ok call fuel base)))) trivial)))) h
  · simp at h
end Go.AM
namespace Go.AM
open Go Go.Proofs
noncomputable def r126 (call : CallF) (fuel base : Nat) (x0 : Value) (x1 : Value) (x2 : Value) (m : M) : Res2 :=
  (k1 (mbin E .sub 3 x2 x1) fun v15_1 => (k2 (xalloc E.P m 3) fun v9_2 m => (k1 (mbin E .quo 3 v15_1 (.int .i64 4)) fun v18_3 => (k1 (mbin E .mul 3 v18_3 (.int .i64 1)) fun v19_4 => (k1 (mbin E .add 3 x1 v19_4) fun v20_5 => (k1 (mbin E .quo 3 v15_1 (.int .i64 4)) fun v23_6 => (k1 (mbin E .mul 3 v23_6 (.int .i64 2)) fun v24_7 => (k1 (mbin E .add 3 x1 v24_7) fun v25_8 => (k1 (mbin E .quo 3 v15_1 (.int .i64 4)) fun v28_9 => (k1 (mbin E .mul 3 v28_9 (.int .i64 3)) fun v29_10 => (k1 (mbin E .add 3 x1 v29_10) fun v30_11 => (k1 (mbin E .geq 3 v15_1 (.int .i64 8)) fun v32_12 => (kb v32_12 (k1 (mbin E .geq 3 v15_1 (.int .i64 50)) fun v34_13 => (kb v34_13 (kc (call base 137 [x0, v20_5, v9_2] m) (fun v37_14 m => (kc (call base 137 [x0, v25_8, v9_2] m) (fun v40_15 m => (kc (call base 137 [x0, v30_11, v9_2] m) (fun v43_16 m => (kc (call base 138 [x0, v37_14, v40_15, v43_16, v9_2] m) (fun v48_17 m => (k1 (xload E.P m 3 v9_2) fun v49_18 => (k1 (mbin E .eql 3 v49_18 (.int .i64 0)) fun v52_19 => (kb v52_19 (some (.ret (.tuple #[v48_17, (.int .i64 1)]), m)) (k1 (mbin E .eql 3 v49_18 (.int .i64 12)) fun v55_20 => (kb v55_20 (some (.ret (.tuple #[v48_17, (.int .i64 2)]), m)) (some (.ret (.tuple #[v48_17, (.int .i64 0)]), m)))))))) (fun v m => some (.pan v, m)))) (fun v m => some (.pan v, m)))) (fun v m => some (.pan v, m)))) (fun v m => some (.pan v, m))) (kc (call base 138 [x0, v20_5, v25_8, v30_11, v9_2] m) (fun v48_21 m => (k1 (xload E.P m 3 v9_2) fun v49_22 => (k1 (mbin E .eql 3 v49_22 (.int .i64 0)) fun v52_23 => (kb v52_23 (some (.ret (.tuple #[v48_21, (.int .i64 1)]), m)) (k1 (mbin E .eql 3 v49_22 (.int .i64 12)) fun v55_24 => (kb v55_24 (some (.ret (.tuple #[v48_21, (.int .i64 2)]), m)) (some (.ret (.tuple #[v48_21, (.int .i64 0)]), m)))))))) (fun v m => some (.pan v, m))))) (k1 (xload E.P m 3 v9_2) fun v49_25 => (k1 (mbin E .eql 3 v49_25 (.int .i64 0)) fun v52_26 => (kb v52_26 (some (.ret (.tuple #[v25_8, (.int .i64 1)]), m)) (k1 (mbin E .eql 3 v49_25 (.int .i64 12)) fun v55_27 => (kb v55_27 (some (.ret (.tuple #[v25_8, (.int .i64 2)]), m)) (some (.ret (.tuple #[v25_8, (.int .i64 0)]), m))))))))))))))))))))
def keep126 : Keep := { region := fun i => ([[0, 1, 2], [0, 1, 8], [0, 1, 8, 9], [0, 1, 8, 9, 10], [0, 1, 8, 9, 10, 11], [0, 8, 9, 10, 11, 12], [0, 8, 9, 10, 11, 12, 32], [0, 9, 10, 11, 12, 34], [0, 9, 10, 11, 12], [0, 9, 10, 11, 12], [0, 9, 10, 11, 12], [9, 11], [11, 49], [6, 7], [11, 49, 51], [6, 7], [11, 54], [6, 7]] : List (List Nat))[i]?, exit := fun i => ([[6, 7]] : List (List Nat))[i]?, ret := some [6, 7] }
noncomputable def lp126 (call : CallF) (fuel base : Nat) : Lp := lpsel []
noncomputable def c126 : Code := Try.f126.body.getD .skip
theorem r126_eq (call : CallF) (fuel base : Nat) (x0 : Value) (x1 : Value) (x2 : Value) (m : M) : kbody E call keep126 (lp126 call fuel base) base Try.f126 [x0, x1, x2] m = r126 call fuel base x0 x1 x2 m := by
  kernel_rfl
noncomputable def rf126 : RF := fun call fuel base args m => match args with
  | [x0, x1, x2] => r126 call fuel base x0 x1 x2 m
  | _ => none
theorem r126_lk (call : CallF) (fuel base : Nat) : LoopsOk E call (lp126 call fuel base) fuel base 0 c126 = (And True (And True (And True (And True (And True (And True (And (And True (And (And (And True (And (And True (And True True)) True)) True) True)) (And True (And True (And (And True True) (And True (And (And True True) (And True True))))))))))))) := by kernel_rfl
theorem r126_fn : E.P.funcs[126]? = some Try.f126 := by kernel_rfl
theorem r126_body : Try.f126.body = some c126 := by kernel_rfl
theorem rf126_ok : RFok E 126 rf126 := by
  refine ⟨Try.f126, r126_fn, fun call fuel base args m r _ h => ?_⟩
  unfold rf126 at h
  split at h
  · rw [← r126_eq] at h
    exact kbody_sound (c := c126) r126_body (Eq.mpr (r126_lk call fuel base) (And.intro trivial (And.intro trivial (And.intro trivial (And.intro trivial (And.intro trivial (And.intro trivial (And.intro (And.intro trivial (And.intro (And.intro (And.intro trivial (And.intro (And.intro trivial (And.intro trivial trivial)) trivial)) trivial) trivial)) (And.intro trivial (And.intro trivial (And.intro (And.intro trivial trivial) (And.intro trivial (And.intro (And.intro trivial trivial) (And.intro trivial trivial)))))))))))))) h
  · simp at h
end Go.AM
