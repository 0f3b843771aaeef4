import Derived.KernelRfl
import Derived.Laws.BytesArg
import Derived.Laws.StructEq
import Derived.Test.YtkjeeiifhbmnnaaRows
import Derived.WalkKit
import Derived.Test.YtkjeeiifhbmnnaaAmB
import Derived.Test.YtkjeeiifhbmnnaaAmModel
import Derived.Test.YtkjeeiifhbmnnaaAmOps5
import Derived.Test.YtkjeeiifhbmnnaaAmOps6
import Derived.Test.YtkjeeiifhbmnnaaAmCode
import Derived.Test.YtkjeeiifhbmnnaaAmX
import Derived.Test.YtkjeeiifhbmnnaaAmEq
import Derived.Test.YtkjeeiifhbmnnaaRBase
set_option linter.unusedVariables false
set_option linter.unusedSimpArgs false
set_option linter.unusedSectionVars false
namespace Go.AM
open Go Go.Proofs
noncomputable def r94_L0 (call : CallF) (fuel base : Nat) (kx0 : Value → M → Res2) (n : Nat) : Value → Value → Value → M → Res2 :=
  Nat.rec (motive := fun _ => Value → Value → Value → M → Res2) (fun _ _ _ _ => none)
    (fun _ ih x3 x4 x5 m =>
      (k1 (mbin E .lss 3 x5 x4) fun v6_1 => (kb v6_1 (k1 (mbin E .mul 3 x3 (.int .i64 8)) fun v8_2 => (k1 (mbin E .add 3 x5 (.int .i64 1)) fun v9_3 => (ih v8_2 x4 v9_3 m))) (kx0 x3 m)))) n
noncomputable def r94 (call : CallF) (fuel base : Nat) (x0 : Value) (m : M) : Res2 :=
  (r94_L0 call fuel base (fun y3_4 m => (fVal y3_4 fun v => some (.ret v, m))) fuel (.int .i64 1) x0 (.int .i64 0) m)
def keep94 : Keep := { region := fun i => ([[0], [0, 3], [3, 4, 5], [3, 4, 5, 6], [3, 4, 5], [3, 4, 5], [2]] : List (List Nat))[i]?, exit := fun i => ([[3], [3, 4, 5]] : List (List Nat))[i]?, ret := some [2] }
noncomputable def r94_L0_R (call : CallF) (fuel base n : Nat) (vs : List Value) (m : M) (K : KT) : Res2 := match vs with
  | [x3, x4, x5] => r94_L0 call fuel base (fun y3 m => K (.exit 0) { n := 11, l := [(3, y3)] } m) n x3 x4 x5 m
  | _ => none
noncomputable def lp94 (call : CallF) (fuel base : Nat) : Lp := lpsel [(0, fun T m K => kslots 11 [3, 4, 5] T fun vs => r94_L0_R call fuel base fuel vs m K)]
noncomputable def c94 : Code := Try.f94.body.getD .skip
theorem r94_L0_lk (call : CallF) (fuel base : Nat) : LoopsOk E call (lp94 call fuel base) fuel base 0 (loopB (blockB (seqR (seqL (seqR (seqR c94)))))) = (And True (And (And True True) (And True True))) := by kernel_rfl
theorem r94_L0_ok (call : CallF) (fuel base : Nat) : LpOk E call (lp94 call fuel base) fuel base 0 (loopB (blockB (seqR (seqL (seqR (seqR c94)))))) := by
  refine loop_ok (kp := keep94) (hb := Eq.mpr (r94_L0_lk call fuel base) (And.intro trivial (And.intro (And.intro trivial trivial) (And.intro trivial trivial)))) 11 [3, 4, 5] (fun n vs m K => r94_L0_R call fuel base n vs m K) ?_ ?_ (fun _ _ _ => rfl)
  · intro vs m K
    unfold r94_L0_R
    split <;> rfl
  · intro n vs m K hl
    match vs, hl with
    | [x3, x4, x5], _ => show _ = _; kernel_rfl
theorem r94_eq (call : CallF) (fuel base : Nat) (x0 : Value) (m : M) : kbody E call keep94 (lp94 call fuel base) base Try.f94 [x0] m = r94 call fuel base x0 m := by
  kernel_rfl
noncomputable def rf94 : RF := fun call fuel base args m => match args with
  | [x0] => r94 call fuel base x0 m
  | _ => none
theorem r94_lk (call : CallF) (fuel base : Nat) : LoopsOk E call (lp94 call fuel base) fuel base 0 c94 = (And True (And True (And (And True (LpOk E call (lp94 call fuel base) fuel base 0 (loopB (blockB (seqR (seqL (seqR (seqR c94)))))))) (And True True)))) := by kernel_rfl
theorem r94_fn : E.P.funcs[94]? = some Try.f94 := by kernel_rfl
theorem r94_body : Try.f94.body = some c94 := by kernel_rfl
theorem rf94_ok : RFok E 94 rf94 := by
  refine ⟨Try.f94, r94_fn, fun call fuel base args m r _ h => ?_⟩
  unfold rf94 at h
  split at h
  · rw [← r94_eq] at h
    exact kbody_sound (c := c94) r94_body (Eq.mpr (r94_lk call fuel base) (And.intro trivial (And.intro trivial (And.intro (And.intro trivial (r94_L0_ok call fuel base)) (And.intro trivial trivial))))) h
  · simp at h
end Go.AM
namespace Go.AM
open Go Go.Proofs
noncomputable def r95_L0 (call : CallF) (fuel base : Nat) (kx0 : Value → M → Res2) (n : Nat) : Value → Value → Value → Value → M → Res2 :=
  Nat.rec (motive := fun _ => Value → Value → Value → Value → M → Res2) (fun _ _ _ _ _ => none)
    (fun _ ih x3 x6 x7 x8 m =>
      (k1 (mbin E .lss 3 x8 x7) fun v9_2 => (kb v9_2 (k1 (mindexAddr E.P 33 x6 x8) fun v10_3 => (k1 (xload E.P m 3 v10_3) fun v11_4 => (k1 (mbin E .mul 3 x3 (.int .i64 8)) fun v13_5 => (k1 (mbin E .add 3 v13_5 v11_4) fun v15_6 => (k1 (mbin E .add 3 x8 (.int .i64 1)) fun v16_7 => (ih v15_6 x6 x7 v16_7 m)))))) (kx0 x3 m)))) n
noncomputable def r95 (call : CallF) (fuel base : Nat) (x0 : Value) (m : M) : Res2 :=
  (k2 (vcall E.P base m .len [33] [x0]) fun v7_1 m => (r95_L0 call fuel base (fun y3_8 m => (fVal y3_8 fun v => some (.ret v, m))) fuel (.int .i64 0) x0 v7_1 (.int .i64 0) m))
def keep95 : Keep := { region := fun i => ([[0], [0, 3], [3, 6, 7, 8], [3, 6, 7, 8, 9], [3, 5, 6, 7, 8], [3, 6, 7, 8], [3, 6, 7, 8], [2]] : List (List Nat))[i]?, exit := fun i => ([[3], [3, 6, 7, 8]] : List (List Nat))[i]?, ret := some [2] }
noncomputable def r95_L0_R (call : CallF) (fuel base n : Nat) (vs : List Value) (m : M) (K : KT) : Res2 := match vs with
  | [x3, x6, x7, x8] => r95_L0 call fuel base (fun y3 m => K (.exit 0) { n := 18, l := [(3, y3)] } m) n x3 x6 x7 x8 m
  | _ => none
noncomputable def lp95 (call : CallF) (fuel base : Nat) : Lp := lpsel [(0, fun T m K => kslots 18 [3, 6, 7, 8] T fun vs => r95_L0_R call fuel base fuel vs m K)]
noncomputable def c95 : Code := Try.f95.body.getD .skip
theorem r95_L0_lk (call : CallF) (fuel base : Nat) : LoopsOk E call (lp95 call fuel base) fuel base 0 (loopB (blockB (seqR (seqL (seqR (seqR c95)))))) = (And True (And (And True True) (And (And True True) True))) := by kernel_rfl
theorem r95_L0_ok (call : CallF) (fuel base : Nat) : LpOk E call (lp95 call fuel base) fuel base 0 (loopB (blockB (seqR (seqL (seqR (seqR c95)))))) := by
  refine loop_ok (kp := keep95) (hb := Eq.mpr (r95_L0_lk call fuel base) (And.intro trivial (And.intro (And.intro trivial trivial) (And.intro (And.intro trivial trivial) trivial)))) 18 [3, 6, 7, 8] (fun n vs m K => r95_L0_R call fuel base n vs m K) ?_ ?_ (fun _ _ _ => rfl)
  · intro vs m K
    unfold r95_L0_R
    split <;> rfl
  · intro n vs m K hl
    match vs, hl with
    | [x3, x6, x7, x8], _ => show _ = _; kernel_rfl
theorem r95_eq (call : CallF) (fuel base : Nat) (x0 : Value) (m : M) : kbody E call keep95 (lp95 call fuel base) base Try.f95 [x0] m = r95 call fuel base x0 m := by
  kernel_rfl
noncomputable def rf95 : RF := fun call fuel base args m => match args with
  | [x0] => r95 call fuel base x0 m
  | _ => none
theorem r95_lk (call : CallF) (fuel base : Nat) : LoopsOk E call (lp95 call fuel base) fuel base 0 c95 = (And True (And True (And (And True (LpOk E call (lp95 call fuel base) fuel base 0 (loopB (blockB (seqR (seqL (seqR (seqR c95)))))))) (And True True)))) := by kernel_rfl
theorem r95_fn : E.P.funcs[95]? = some Try.f95 := by kernel_rfl
theorem r95_body : Try.f95.body = some c95 := by kernel_rfl
theorem rf95_ok : RFok E 95 rf95 := by
  refine ⟨Try.f95, r95_fn, fun call fuel base args m r _ h => ?_⟩
  unfold rf95 at h
  split at h
  · rw [← r95_eq] at h
    exact kbody_sound (c := c95) r95_body (Eq.mpr (r95_lk call fuel base) (And.intro trivial (And.intro trivial (And.intro (And.intro trivial (r95_L0_ok call fuel base)) (And.intro trivial trivial))))) h
  · simp at h
end Go.AM
namespace Go.AM
open Go Go.Proofs
noncomputable def r96_L0 (call : CallF) (fuel base : Nat) (kx0 : Value → Value → M → Res2) (n : Nat) : Value → Value → Value → Value → Value → M → Res2 :=
  Nat.rec (motive := fun _ => Value → Value → Value → Value → Value → M → Res2) (fun _ _ _ _ _ _ => none)
    (fun _ ih x4 x5 x17 x18 x19 m =>
      (k1 (mbin E .lss 3 x19 x18) fun v20_13 => (kb v20_13 (k1 (mindexAddr E.P 74 x17 x19) fun v21_14 => (k1 (xload E.P m 109 v21_14) fun v22_15 => (k2 (xalloc E.P m 109) fun v7_16 m => (ks (xstore E.P base m 109 v7_16 v22_15) fun m => (k1 (mfieldAddr E.P 109 v7_16 1) fun v24_17 => (kexv (mexact m v24_17) (k1 (xload E.P m 3 v24_17) fun v25_18 => (k1 (mfieldAddr E.P 109 v7_16 1) fun v27_19 => (k1 (xload E.P m 3 v27_19) fun v28_20 => (k1 (mindexAddr E.P 103 x4 v28_20) fun v29_21 => (k1 (xload E.P m 33 v29_21) fun v30_22 => (k1 (mfieldAddr E.P 109 v7_16 2) fun v31_23 => (k1 (xload E.P m 3 v31_23) fun v32_24 => (k2 (xbuildSlice E.P m 33 1 [(0, v32_24)]) fun v33_25 m => (kexv (mfull [v30_22, v33_25]) (k2 (vcall E.P base m .append [33, 33] [v30_22, v33_25]) fun v34_26 m => (k1 (mindexAddr E.P 103 x4 v25_18) fun v35_27 => (ks (xstore E.P base m 33 v35_27 v34_26) fun m => (k1 (mfieldAddr E.P 109 v7_16 2) fun v37_28 => (kexv (mexact m v37_28) (k1 (xload E.P m 3 v37_28) fun v38_29 => (k1 (mfieldAddr E.P 109 v7_16 2) fun v40_30 => (k1 (xload E.P m 3 v40_30) fun v41_31 => (k1 (mindexAddr E.P 103 x5 v41_31) fun v42_32 => (k1 (xload E.P m 33 v42_32) fun v43_33 => (k1 (mfieldAddr E.P 109 v7_16 1) fun v44_34 => (k1 (xload E.P m 3 v44_34) fun v45_35 => (k2 (xbuildSlice E.P m 33 1 [(0, v45_35)]) fun v46_36 m => (kexv (mfull [v43_33, v46_36]) (k2 (vcall E.P base m .append [33, 33] [v43_33, v46_36]) fun v47_37 m => (k1 (mindexAddr E.P 103 x5 v38_29) fun v48_38 => (ks (xstore E.P base m 33 v48_38 v47_37) fun m => (k1 (mbin E .add 3 x19 (.int .i64 1)) fun v49_39 => (ih x4 x5 x17 x18 v49_39 m)))))))))))))))))))))))))))))))))) (kx0 x4 x5 m)))) n
noncomputable def r96 (call : CallF) (fuel base : Nat) (x0 : Value) (m : M) : Res2 :=
  (k2 (xbox m x0) fun v1_1 m => (k1 (mfieldAddr E.P 76 v1_1 0) fun v8_2 => (k1 (xload E.P m 3 v8_2) fun v9_3 => (kc (kB m (call m.length 94 [v9_3] m)) (fun v10_4 m => (k2 (xmakeSlice E.P m 103 v10_4 v10_4) fun v11_5 m => (k1 (mfieldAddr E.P 76 v1_1 0) fun v12_6 => (k1 (xload E.P m 3 v12_6) fun v13_7 => (kc (kB m (call m.length 94 [v13_7] m)) (fun v14_8 m => (k2 (xmakeSlice E.P m 103 v14_8 v14_8) fun v15_9 m => (k1 (mfieldAddr E.P 76 v1_1 1) fun v16_10 => (k1 (xload E.P m 74 v16_10) fun v17_11 => (k2 (vcall E.P base m .len [74] [v17_11]) fun v18_12 m => (r96_L0 call fuel base (fun y4_40 y5_41 m => (some (.ret (.tuple #[y4_40, y5_41]), m))) fuel v11_5 v15_9 v17_11 v18_12 (.int .i64 0) m)))))) (fun _ _ => none)))))) (fun _ _ => none)))))
def keep96 : Keep := { region := fun i => ([[1], [1, 4, 5], [4, 5, 17, 18, 19], [4, 5, 17, 18, 19, 20], [4, 5, 7, 17, 18, 19], [4, 5, 7, 17, 18, 19], [4, 5, 17, 18, 19], [4, 5, 17, 18, 19], [2, 3]] : List (List Nat))[i]?, exit := fun i => ([[4, 5], [4, 5, 17, 18, 19]] : List (List Nat))[i]?, ret := some [2, 3] }
noncomputable def r96_L0_R (call : CallF) (fuel base n : Nat) (vs : List Value) (m : M) (K : KT) : Res2 := match vs with
  | [x4, x5, x17, x18, x19] => r96_L0 call fuel base (fun y4 y5 m => K (.exit 0) { n := 52, l := [(4, y4), (5, y5)] } m) n x4 x5 x17 x18 x19 m
  | _ => none
noncomputable def lp96 (call : CallF) (fuel base : Nat) : Lp := lpsel [(0, fun T m K => kslots 52 [4, 5, 17, 18, 19] T fun vs => r96_L0_R call fuel base fuel vs m K)]
noncomputable def c96 : Code := Try.f96.body.getD .skip
theorem r96_L0_lk (call : CallF) (fuel base : Nat) : LoopsOk E call (lp96 call fuel base) fuel base 0 (loopB (blockB (seqR (seqL (seqR (seqR c96)))))) = (And True (And (And True True) (And (And True (And True True)) True))) := by kernel_rfl
theorem r96_L0_ok (call : CallF) (fuel base : Nat) : LpOk E call (lp96 call fuel base) fuel base 0 (loopB (blockB (seqR (seqL (seqR (seqR c96)))))) := by
  refine loop_ok (kp := keep96) (hb := Eq.mpr (r96_L0_lk call fuel base) (And.intro trivial (And.intro (And.intro trivial trivial) (And.intro (And.intro trivial (And.intro trivial trivial)) trivial)))) 52 [4, 5, 17, 18, 19] (fun n vs m K => r96_L0_R call fuel base n vs m K) ?_ ?_ (fun _ _ _ => rfl)
  · intro vs m K
    unfold r96_L0_R
    split <;> rfl
  · intro n vs m K hl
    match vs, hl with
    | [x4, x5, x17, x18, x19], _ => show _ = _; kernel_rfl
theorem r96_eq (call : CallF) (fuel base : Nat) (x0 : Value) (m : M) : kbody E call keep96 (lp96 call fuel base) base Try.f96 [x0] m = r96 call fuel base x0 m := by
  kernel_rfl
noncomputable def rf96 : RF := fun call fuel base args m => match args with
  | [x0] => r96 call fuel base x0 m
  | _ => none
theorem r96_lk (call : CallF) (fuel base : Nat) : LoopsOk E call (lp96 call fuel base) fuel base 0 c96 = (And True (And True (And (And True (LpOk E call (lp96 call fuel base) fuel base 0 (loopB (blockB (seqR (seqL (seqR (seqR c96)))))))) (And True True)))) := by kernel_rfl
theorem r96_fn : E.P.funcs[96]? = some Try.f96 := by kernel_rfl
theorem r96_body : Try.f96.body = some c96 := by kernel_rfl
theorem rf96_ok : RFok E 96 rf96 := by
  refine ⟨Try.f96, r96_fn, fun call fuel base args m r _ h => ?_⟩
  unfold rf96 at h
  split at h
  · rw [← r96_eq] at h
    exact kbody_sound (c := c96) r96_body (Eq.mpr (r96_lk call fuel base) (And.intro trivial (And.intro trivial (And.intro (And.intro trivial (r96_L0_ok call fuel base)) (And.intro trivial trivial))))) h
  · simp at h
end Go.AM
namespace Go.AM
open Go Go.Proofs
noncomputable def r97 (call : CallF) (fuel base : Nat) (x0 : Value) (x1 : Value) (x2 : Value) (m : M) : Res2 :=
  (k1 (xload E.P m 33 x1) fun v5_1 => (k1 (mindexAddr E.P 33 v5_1 x0) fun v7_2 => (k1 (xload E.P m 3 v7_2) fun v8_3 => (k1 (xload E.P m 33 x2) fun v9_4 => (k1 (mindexAddr E.P 33 v9_4 (.int .i64 0)) fun v10_5 => (k1 (xload E.P m 3 v10_5) fun v11_6 => (k1 (mbin E .geq 3 v8_3 v11_6) fun v12_7 => (fVal v12_7 fun v => some (.ret v, m)))))))))
def keep97 : Keep := { region := fun i => ([[0, 1, 2], [4]] : List (List Nat))[i]?, exit := fun i => ([] : List (List Nat))[i]?, ret := some [4] }
noncomputable def lp97 (call : CallF) (fuel base : Nat) : Lp := lpsel []
noncomputable def c97 : Code := Try.f97.body.getD .skip
theorem r97_eq (call : CallF) (fuel base : Nat) (x0 : Value) (x1 : Value) (x2 : Value) (m : M) : kbody E call keep97 (lp97 call fuel base) base Try.f97 [x0, x1, x2] m = r97 call fuel base x0 x1 x2 m := by
  kernel_rfl
noncomputable def rf97 : RF := fun call fuel base args m => match args with
  | [x0, x1, x2] => r97 call fuel base x0 x1 x2 m
  | _ => none
theorem r97_lk (call : CallF) (fuel base : Nat) : LoopsOk E call (lp97 call fuel base) fuel base 0 c97 = (And True (And True True)) := by kernel_rfl
theorem r97_fn : E.P.funcs[97]? = some Try.f97 := by kernel_rfl
theorem r97_body : Try.f97.body = some c97 := by kernel_rfl
theorem rf97_ok : RFok E 97 rf97 := by
  refine ⟨Try.f97, r97_fn, fun call fuel base args m r _ h => ?_⟩
  unfold rf97 at h
  split at h
  · rw [← r97_eq] at h
    exact kbody_sound (c := c97) r97_body (Eq.mpr (r97_lk call fuel base) (And.intro trivial (And.intro trivial trivial))) h
  · simp at h
end Go.AM
namespace Go.AM
open Go Go.Proofs
noncomputable def r98_L0 (call : CallF) (fuel base : Nat) (kx0 : Value → Value → M → Res2) (n : Nat) : Value → Value → Value → Value → M → Res2 :=
  Nat.rec (motive := fun _ => Value → Value → Value → Value → M → Res2) (fun _ _ _ _ _ => none)
    (fun _ ih x2 x5 x15 x16 m =>
      (k1 (mbin E .lss 3 x16 x15) fun v17_7 => (kb v17_7 (k1 (mindexAddr E.P 23 x5 (.int .i64 0)) fun v20_8 => (k1 (xload E.P m 33 v20_8) fun v21_9 => (k1 (mindexAddr E.P 33 v21_9 x16) fun v23_10 => (ks (xstore E.P base m 3 v23_10 (.int .i64 1)) fun m => (k1 (mbin E .add 3 x16 (.int .i64 1)) fun v24_11 => (ih x2 x5 x15 v24_11 m)))))) (kx0 x2 x5 m)))) n
noncomputable def r98 (call : CallF) (fuel base : Nat) (x0 : Value) (x1 : Value) (m : M) : Res2 :=
  (k2 (xbox m x0) fun v2_1 m => (k1 (xload E.P m 76 v2_1) fun v9_2 => (kc (call base 104 [v9_2, x1] m) (fun v11_3 m => (k1 (mindexAddr E.P 23 v11_3 (.int .i64 0)) fun v13_4 => (k1 (xload E.P m 33 v13_4) fun v14_5 => (k2 (vcall E.P base m .len [33] [v14_5]) fun v15_6 m => (r98_L0 call fuel base (fun y2_12 y5_13 m => (k1 (xload E.P m 76 y2_12) fun v26_14 => (kc (call base 96 [v26_14] m) (fun v27_15 m => (k1 (mextract 0 v27_15) fun v28_16 => (k1 (mextract 1 v27_15) fun v29_17 => (kc (call base 117 [v29_17, y5_13] m) (fun v32_18 m => (fVal y5_13 fun v => some (.ret v, m))) (fun v m => some (.pan v, m)))))) (fun v m => some (.pan v, m))))) fuel v2_1 v11_3 v15_6 (.int .i64 0) m))))) (fun v m => some (.pan v, m)))))
def keep98 : Keep := { region := fun i => ([[1, 2], [2, 5], [2, 5, 15, 16], [2, 5, 15, 16, 17], [2, 5, 6, 15, 16], [2, 5, 15, 16], [2, 5, 15, 16], [5, 8], [5], [4]] : List (List Nat))[i]?, exit := fun i => ([[2, 5], [2, 5, 15, 16]] : List (List Nat))[i]?, ret := some [4] }
noncomputable def r98_L0_R (call : CallF) (fuel base n : Nat) (vs : List Value) (m : M) (K : KT) : Res2 := match vs with
  | [x2, x5, x15, x16] => r98_L0 call fuel base (fun y2 y5 m => K (.exit 0) { n := 34, l := [(2, y2), (5, y5)] } m) n x2 x5 x15 x16 m
  | _ => none
noncomputable def lp98 (call : CallF) (fuel base : Nat) : Lp := lpsel [(0, fun T m K => kslots 34 [2, 5, 15, 16] T fun vs => r98_L0_R call fuel base fuel vs m K)]
noncomputable def c98 : Code := Try.f98.body.getD .skip
theorem r98_L0_lk (call : CallF) (fuel base : Nat) : LoopsOk E call (lp98 call fuel base) fuel base 0 (loopB (blockB (seqR (seqL (seqR (seqR c98)))))) = (And True (And (And True True) (And (And True True) True))) := by kernel_rfl
theorem r98_L0_ok (call : CallF) (fuel base : Nat) : LpOk E call (lp98 call fuel base) fuel base 0 (loopB (blockB (seqR (seqL (seqR (seqR c98)))))) := by
  refine loop_ok (kp := keep98) (hb := Eq.mpr (r98_L0_lk call fuel base) (And.intro trivial (And.intro (And.intro trivial trivial) (And.intro (And.intro trivial trivial) trivial)))) 34 [2, 5, 15, 16] (fun n vs m K => r98_L0_R call fuel base n vs m K) ?_ ?_ (fun _ _ _ => rfl)
  · intro vs m K
    unfold r98_L0_R
    split <;> rfl
  · intro n vs m K hl
    match vs, hl with
    | [x2, x5, x15, x16], _ => show _ = _; kernel_rfl
theorem r98_eq (call : CallF) (fuel base : Nat) (x0 : Value) (x1 : Value) (m : M) : kbody E call keep98 (lp98 call fuel base) base Try.f98 [x0, x1] m = r98 call fuel base x0 x1 m := by
  kernel_rfl
noncomputable def rf98 : RF := fun call fuel base args m => match args with
  | [x0, x1] => r98 call fuel base x0 x1 m
  | _ => none
theorem r98_lk (call : CallF) (fuel base : Nat) : LoopsOk E call (lp98 call fuel base) fuel base 0 c98 = (And True (And True (And (And True (LpOk E call (lp98 call fuel base) fuel base 0 (loopB (blockB (seqR (seqL (seqR (seqR c98)))))))) (And True (And True (And True True)))))) := by kernel_rfl
theorem r98_fn : E.P.funcs[98]? = some Try.f98 := by kernel_rfl
theorem r98_body : Try.f98.body = some c98 := by kernel_rfl
theorem rf98_ok : RFok E 98 rf98 := by
  refine ⟨Try.f98, r98_fn, fun call fuel base args m r _ h => ?_⟩
  unfold rf98 at h
  split at h
  · rw [← r98_eq] at h
    exact kbody_sound (c := c98) r98_body (Eq.mpr (r98_lk call fuel base) (And.intro trivial (And.intro trivial (And.intro (And.intro trivial (r98_L0_ok call fuel base)) (And.intro trivial (And.intro trivial (And.intro trivial trivial))))))) h
  · simp at h
end Go.AM
namespace Go.AM
open Go Go.Proofs
noncomputable def r99 (call : CallF) (fuel base : Nat) (x0 : Value) (x1 : Value) (m : M) : Res2 :=
  (k1 (mbin E .add 3 x0 x1) fun v7_1 => (k2 (vcall E.P base m .min [3, 3] [v7_1, (.int .i64 1099511627777)]) fun v8_2 m => (fVal v8_2 fun v => some (.ret v, m))))
def keep99 : Keep := { region := fun i => ([[0, 1], [4]] : List (List Nat))[i]?, exit := fun i => ([] : List (List Nat))[i]?, ret := some [4] }
noncomputable def lp99 (call : CallF) (fuel base : Nat) : Lp := lpsel []
noncomputable def c99 : Code := Try.f99.body.getD .skip
theorem r99_eq (call : CallF) (fuel base : Nat) (x0 : Value) (x1 : Value) (m : M) : kbody E call keep99 (lp99 call fuel base) base Try.f99 [x0, x1] m = r99 call fuel base x0 x1 m := by
  kernel_rfl
noncomputable def rf99 : RF := fun call fuel base args m => match args with
  | [x0, x1] => r99 call fuel base x0 x1 m
  | _ => none
theorem r99_lk (call : CallF) (fuel base : Nat) : LoopsOk E call (lp99 call fuel base) fuel base 0 c99 = (And True (And True True)) := by kernel_rfl
theorem r99_fn : E.P.funcs[99]? = some Try.f99 := by kernel_rfl
theorem r99_body : Try.f99.body = some c99 := by kernel_rfl
theorem rf99_ok : RFok E 99 rf99 := by
  refine ⟨Try.f99, r99_fn, fun call fuel base args m r _ h => ?_⟩
  unfold rf99 at h
  split at h
  · rw [← r99_eq] at h
    exact kbody_sound (c := c99) r99_body (Eq.mpr (r99_lk call fuel base) (And.intro trivial (And.intro trivial trivial))) h
  · simp at h
end Go.AM
namespace Go.AM
open Go Go.Proofs
noncomputable def r102_L0 (call : CallF) (fuel base : Nat) (kr : Value → M → Res2) (kx0 : M → Res2) (n : Nat) : Value → Value → Value → M → Res2 :=
  Nat.rec (motive := fun _ => Value → Value → Value → M → Res2) (fun _ _ _ _ => none)
    (fun _ ih x0 x1 x5 m =>
      (k2 (vcall E.P base m .len [33] [x0]) fun v8_1 m => (k1 (mbin E .lss 3 x5 v8_1) fun v9_2 => (kb v9_2 (k1 (mindexAddr E.P 33 x0 x5) fun v14_3 => (k1 (xload E.P m 3 v14_3) fun v15_4 => (k1 (mbin E .eql 3 v15_4 x1) fun v17_5 => (kb v17_5 (kr x5 m) (k1 (mbin E .add 3 x5 (.int .i64 1)) fun v11_6 => (ih x0 x1 v11_6 m)))))) (kx0 m))))) n
noncomputable def r102 (call : CallF) (fuel base : Nat) (x0 : Value) (x1 : Value) (m : M) : Res2 :=
  (r102_L0 call fuel base (fun y4_7 m => (fVal y4_7 fun v => some (.ret v, m))) (fun m => (fVal (.int .i64 (-1)) fun v => some (.ret v, m))) fuel x0 x1 (.int .i64 0) m)
def keep102 : Keep := { region := fun i => ([[0, 1], [0, 1, 5], [0, 1, 5, 9], [0, 1, 5], [0, 1, 5, 17], [4], [4]] : List (List Nat))[i]?, exit := fun i => ([[], [0, 1, 5]] : List (List Nat))[i]?, ret := some [4] }
noncomputable def r102_L0_R (call : CallF) (fuel base n : Nat) (vs : List Value) (m : M) (K : KT) : Res2 := match vs with
  | [x0, x1, x5] => r102_L0 call fuel base (fun y4 m => K .ret { n := 19, l := [(4, y4)] } m) (fun m => K (.exit 0) { n := 19, l := [] } m) n x0 x1 x5 m
  | _ => none
noncomputable def lp102 (call : CallF) (fuel base : Nat) : Lp := lpsel [(0, fun T m K => kslots 19 [0, 1, 5] T fun vs => r102_L0_R call fuel base fuel vs m K)]
noncomputable def c102 : Code := Try.f102.body.getD .skip
theorem r102_L0_lk (call : CallF) (fuel base : Nat) : LoopsOk E call (lp102 call fuel base) fuel base 0 (loopB (blockB (seqR (seqL (seqR c102))))) = (And (And True (And True True)) (And (And True (And (And True True) True)) True)) := by kernel_rfl
theorem r102_L0_ok (call : CallF) (fuel base : Nat) : LpOk E call (lp102 call fuel base) fuel base 0 (loopB (blockB (seqR (seqL (seqR c102))))) := by
  refine loop_ok (kp := keep102) (hb := Eq.mpr (r102_L0_lk call fuel base) (And.intro (And.intro trivial (And.intro trivial trivial)) (And.intro (And.intro trivial (And.intro (And.intro trivial trivial) trivial)) trivial))) 19 [0, 1, 5] (fun n vs m K => r102_L0_R call fuel base n vs m K) ?_ ?_ (fun _ _ _ => rfl)
  · intro vs m K
    unfold r102_L0_R
    split <;> rfl
  · intro n vs m K hl
    match vs, hl with
    | [x0, x1, x5], _ => show _ = _; kernel_rfl
theorem r102_eq (call : CallF) (fuel base : Nat) (x0 : Value) (x1 : Value) (m : M) : kbody E call keep102 (lp102 call fuel base) base Try.f102 [x0, x1] m = r102 call fuel base x0 x1 m := by
  kernel_rfl
noncomputable def rf102 : RF := fun call fuel base args m => match args with
  | [x0, x1] => r102 call fuel base x0 x1 m
  | _ => none
theorem r102_lk (call : CallF) (fuel base : Nat) : LoopsOk E call (lp102 call fuel base) fuel base 0 c102 = (And True (And (And True (LpOk E call (lp102 call fuel base) fuel base 0 (loopB (blockB (seqR (seqL (seqR c102))))))) (And True True))) := by kernel_rfl
theorem r102_fn : E.P.funcs[102]? = some Try.f102 := by kernel_rfl
theorem r102_body : Try.f102.body = some c102 := by kernel_rfl
theorem rf102_ok : RFok E 102 rf102 := by
  refine ⟨Try.f102, r102_fn, fun call fuel base args m r _ h => ?_⟩
  unfold rf102 at h
  split at h
  · rw [← r102_eq] at h
    exact kbody_sound (c := c102) r102_body (Eq.mpr (r102_lk call fuel base) (And.intro trivial (And.intro (And.intro trivial (r102_L0_ok call fuel base)) (And.intro trivial trivial)))) h
  · simp at h
end Go.AM
namespace Go.AM
open Go Go.Proofs
noncomputable def r103_L0 (call : CallF) (fuel base : Nat) (kx0 : Value → Value → M → Res2) (n : Nat) : Value → Value → Value → Value → Value → M → Res2 :=
  Nat.rec (motive := fun _ => Value → Value → Value → Value → Value → M → Res2) (fun _ _ _ _ _ _ => none)
    (fun _ ih x2 x3 x10 x11 x12 m =>
      (k1 (mbin E .lss 3 x12 x11) fun v13_10 => (kb v13_10 (k1 (mindexAddr E.P 74 x10 x12) fun v14_11 => (k1 (xload E.P m 109 v14_11) fun v15_12 => (k2 (xalloc E.P m 109) fun v5_13 m => (ks (xstore E.P base m 109 v5_13 v15_12) fun m => (k1 (mfieldAddr E.P 109 v5_13 4) fun v16_14 => (k1 (xload E.P m 3 v16_14) fun v17_15 => (k1 (mfieldAddr E.P 109 v5_13 3) fun v18_16 => (k1 (xload E.P m 3 v18_16) fun v19_17 => (k1 (mbin E .eql 3 v17_15 v19_17) fun v20_18 => (kb v20_18 (k1 (mfieldAddr E.P 76 x3 1) fun v21_19 => (k1 (xload E.P m 74 v21_19) fun v22_20 => (k1 (xload E.P m 109 v5_13) fun v23_21 => (k2 (xbuildSlice E.P m 74 1 [(0, v23_21)]) fun v24_22 m => (k2 (vcall E.P base m .append [74, 74] [v22_20, v24_22]) fun v25_23 m => (k1 (mfieldAddr E.P 76 x3 1) fun v26_24 => (ks (xstore E.P base m 74 v26_24 v25_23) fun m => (k1 (mbin E .add 3 x12 (.int .i64 1)) fun v27_25 => (ih x2 x3 x10 x11 v27_25 m))))))))) (k1 (mbin E .add 3 x12 (.int .i64 1)) fun v27_26 => (ih x2 x3 x10 x11 v27_26 m)))))))))))) (kx0 x2 x3 m)))) n
noncomputable def r103 (call : CallF) (fuel base : Nat) (x0 : Value) (m : M) : Res2 :=
  (k2 (xbox m x0) fun v1_1 m => (k2 (xalloc E.P m 76) fun v2_2 m => (k1 (mfieldAddr E.P 76 v1_1 0) fun v6_3 => (k1 (xload E.P m 3 v6_3) fun v7_4 => (k1 (mbuild E.P 76 [(0, v7_4)]) fun v8_5 => (k2 (xalloc E.P m 76) fun v3_6 m => (ks (xstore E.P base m 76 v3_6 v8_5) fun m => (k1 (mfieldAddr E.P 76 v1_1 1) fun v9_7 => (k1 (xload E.P m 74 v9_7) fun v10_8 => (k2 (vcall E.P base m .len [74] [v10_8]) fun v11_9 m => (r103_L0 call fuel base (fun y2_27 y3_28 m => (k1 (xload E.P m 76 y3_28) fun v28_29 => (ks (xstore E.P base m 76 y2_27 v28_29) fun m => (k0 (mload E.P m 76 y2_27) fun r_30 => (fVal r_30 fun v => some (.ret v, m)))))) fuel v2_2 v3_6 v10_8 v11_9 (.int .i64 0) m)))))))))))
def keep103 : Keep := { region := fun i => ([[1, 2], [1, 2, 3], [2, 3, 10, 11, 12], [2, 3, 10, 11, 12, 13], [2, 3, 5, 10, 11, 12], [2, 3, 5, 10, 11, 12, 20], [2, 3, 10, 11, 12], [2, 3, 10, 11, 12], [2]] : List (List Nat))[i]?, exit := fun i => ([[2, 3], [2, 3, 10, 11, 12]] : List (List Nat))[i]?, ret := some [2] }
noncomputable def r103_L0_R (call : CallF) (fuel base n : Nat) (vs : List Value) (m : M) (K : KT) : Res2 := match vs with
  | [x2, x3, x10, x11, x12] => r103_L0 call fuel base (fun y2 y3 m => K (.exit 0) { n := 29, l := [(2, y2), (3, y3)] } m) n x2 x3 x10 x11 x12 m
  | _ => none
noncomputable def lp103 (call : CallF) (fuel base : Nat) : Lp := lpsel [(0, fun T m K => kslots 29 [2, 3, 10, 11, 12] T fun vs => r103_L0_R call fuel base fuel vs m K)]
noncomputable def c103 : Code := Try.f103.body.getD .skip
theorem r103_L0_lk (call : CallF) (fuel base : Nat) : LoopsOk E call (lp103 call fuel base) fuel base 0 (loopB (blockB (seqR (seqL (seqR (seqR c103)))))) = (And True (And (And True True) (And (And True (And True (And True True))) True))) := by kernel_rfl
theorem r103_L0_ok (call : CallF) (fuel base : Nat) : LpOk E call (lp103 call fuel base) fuel base 0 (loopB (blockB (seqR (seqL (seqR (seqR c103)))))) := by
  refine loop_ok (kp := keep103) (hb := Eq.mpr (r103_L0_lk call fuel base) (And.intro trivial (And.intro (And.intro trivial trivial) (And.intro (And.intro trivial (And.intro trivial (And.intro trivial trivial))) trivial)))) 29 [2, 3, 10, 11, 12] (fun n vs m K => r103_L0_R call fuel base n vs m K) ?_ ?_ (fun _ _ _ => rfl)
  · intro vs m K
    unfold r103_L0_R
    split <;> rfl
  · intro n vs m K hl
    match vs, hl with
    | [x2, x3, x10, x11, x12], _ => show _ = _; kernel_rfl
theorem r103_eq (call : CallF) (fuel base : Nat) (x0 : Value) (m : M) : kbody E call keep103 (lp103 call fuel base) base Try.f103 [x0] m = r103 call fuel base x0 m := by
  kernel_rfl
noncomputable def rf103 : RF := fun call fuel base args m => match args with
  | [x0] => r103 call fuel base x0 m
  | _ => none
theorem r103_lk (call : CallF) (fuel base : Nat) : LoopsOk E call (lp103 call fuel base) fuel base 0 c103 = (And True (And True (And (And True (LpOk E call (lp103 call fuel base) fuel base 0 (loopB (blockB (seqR (seqL (seqR (seqR c103)))))))) (And True True)))) := by kernel_rfl
theorem r103_fn : E.P.funcs[103]? = some Try.f103 := by kernel_rfl
theorem r103_body : Try.f103.body = some c103 := by kernel_rfl
theorem rf103_ok : RFok E 103 rf103 := by
  refine ⟨Try.f103, r103_fn, fun call fuel base args m r _ h => ?_⟩
  unfold rf103 at h
  split at h
  · rw [← r103_eq] at h
    exact kbody_sound (c := c103) r103_body (Eq.mpr (r103_lk call fuel base) (And.intro trivial (And.intro trivial (And.intro (And.intro trivial (r103_L0_ok call fuel base)) (And.intro trivial trivial))))) h
  · simp at h
end Go.AM
namespace Go.AM
open Go Go.Proofs
noncomputable def r104_L0 (call : CallF) (fuel base : Nat) (kp : Value → M → Res2) (kx0 : Value → M → Res2) (n : Nat) : Value → Value → Value → Value → M → Res2 :=
  Nat.rec (motive := fun _ => Value → Value → Value → Value → M → Res2) (fun _ _ _ _ _ => none)
    (fun _ ih x2 x5 x11 x12 m =>
      (k1 (mbin E .lss 3 x12 x11) fun v13_5 => (kb v13_5 (k1 (mfieldAddr E.P 76 x2 0) fun v17_6 => (k1 (xload E.P m 3 v17_6) fun v18_7 => (kc (call base 94 [v18_7] m) (fun v19_8 m => (k2 (xmakeSlice E.P m 33 v19_8 v19_8) fun v20_9 m => (k1 (mindexAddr E.P 23 x5 x12) fun v21_10 => (ks (xstore E.P base m 33 v21_10 v20_9) fun m => (k1 (mbin E .add 3 x12 (.int .i64 1)) fun v22_11 => (ih x2 x5 x11 v22_11 m)))))) (fun v m => kp v m)))) (kx0 x5 m)))) n
noncomputable def r104 (call : CallF) (fuel base : Nat) (x0 : Value) (x1 : Value) (m : M) : Res2 :=
  (k2 (xbox m x0) fun v2_1 m => (k1 (mbin E .add 3 x1 (.int .i64 1)) fun v8_2 => (k2 (xmakeSlice E.P m 23 v8_2 v8_2) fun v9_3 m => (k2 (vcall E.P base m .len [23] [v9_3]) fun v11_4 m => (r104_L0 call fuel base (fun v m => some (.pan v, m)) (fun y5_12 m => (fVal y5_12 fun v => some (.ret v, m))) fuel v2_1 v9_3 v11_4 (.int .i64 0) m)))))
def keep104 : Keep := { region := fun i => ([[1, 2], [2, 5], [2, 5, 11, 12], [2, 5, 11, 12, 13], [2, 5, 6, 11, 12], [2, 5, 11, 12], [2, 5, 11, 12], [4]] : List (List Nat))[i]?, exit := fun i => ([[5], [2, 5, 11, 12]] : List (List Nat))[i]?, ret := some [4] }
noncomputable def r104_L0_R (call : CallF) (fuel base n : Nat) (vs : List Value) (m : M) (K : KT) : Res2 := match vs with
  | [x2, x5, x11, x12] => r104_L0 call fuel base (fun v m => K (.pan v) { n := 24, l := [] } m) (fun y5 m => K (.exit 0) { n := 24, l := [(5, y5)] } m) n x2 x5 x11 x12 m
  | _ => none
noncomputable def lp104 (call : CallF) (fuel base : Nat) : Lp := lpsel [(0, fun T m K => kslots 24 [2, 5, 11, 12] T fun vs => r104_L0_R call fuel base fuel vs m K)]
noncomputable def c104 : Code := Try.f104.body.getD .skip
theorem r104_L0_lk (call : CallF) (fuel base : Nat) : LoopsOk E call (lp104 call fuel base) fuel base 0 (loopB (blockB (seqR (seqL (seqR (seqR c104)))))) = (And True (And (And True True) (And (And True True) True))) := by kernel_rfl
theorem r104_L0_ok (call : CallF) (fuel base : Nat) : LpOk E call (lp104 call fuel base) fuel base 0 (loopB (blockB (seqR (seqL (seqR (seqR c104)))))) := by
  refine loop_ok (kp := keep104) (hb := Eq.mpr (r104_L0_lk call fuel base) (And.intro trivial (And.intro (And.intro trivial trivial) (And.intro (And.intro trivial trivial) trivial)))) 24 [2, 5, 11, 12] (fun n vs m K => r104_L0_R call fuel base n vs m K) ?_ ?_ (fun _ _ _ => rfl)
  · intro vs m K
    unfold r104_L0_R
    split <;> rfl
  · intro n vs m K hl
    match vs, hl with
    | [x2, x5, x11, x12], _ => show _ = _; kernel_rfl
theorem r104_eq (call : CallF) (fuel base : Nat) (x0 : Value) (x1 : Value) (m : M) : kbody E call keep104 (lp104 call fuel base) base Try.f104 [x0, x1] m = r104 call fuel base x0 x1 m := by
  kernel_rfl
noncomputable def rf104 : RF := fun call fuel base args m => match args with
  | [x0, x1] => r104 call fuel base x0 x1 m
  | _ => none
theorem r104_lk (call : CallF) (fuel base : Nat) : LoopsOk E call (lp104 call fuel base) fuel base 0 c104 = (And True (And True (And (And True (LpOk E call (lp104 call fuel base) fuel base 0 (loopB (blockB (seqR (seqL (seqR (seqR c104)))))))) (And True True)))) := by kernel_rfl
theorem r104_fn : E.P.funcs[104]? = some Try.f104 := by kernel_rfl
theorem r104_body : Try.f104.body = some c104 := by kernel_rfl
theorem rf104_ok : RFok E 104 rf104 := by
  refine ⟨Try.f104, r104_fn, fun call fuel base args m r _ h => ?_⟩
  unfold rf104 at h
  split at h
  · rw [← r104_eq] at h
    exact kbody_sound (c := c104) r104_body (Eq.mpr (r104_lk call fuel base) (And.intro trivial (And.intro trivial (And.intro (And.intro trivial (r104_L0_ok call fuel base)) (And.intro trivial trivial))))) h
  · simp at h
end Go.AM
namespace Go.AM
open Go Go.Proofs
noncomputable def r105 (call : CallF) (fuel base : Nat) (x0 : Value) (x1 : Value) (x2 : Value) (m : M) : Res2 :=
  (k1 (mindexAddr E.P 23 x2 (.int .i64 0)) fun v8_1 => (k1 (xload E.P m 33 v8_1) fun v9_2 => (k2 (vcall E.P base m .clear [33] [v9_2]) fun vNone_3 m => (k1 (mindexAddr E.P 23 x2 (.int .i64 0)) fun v11_4 => (k1 (xload E.P m 33 v11_4) fun v12_5 => (k1 (mindexAddr E.P 33 v12_5 x1) fun v14_6 => (ks (xstore E.P base m 3 v14_6 (.int .i64 1)) fun m => (kc (call base 117 [x0, x2] m) (fun v17_7 m => (k2 (vcall E.P base m .len [23] [x2]) fun v20_8 m => (k1 (mbin E .sub 3 v20_8 (.int .i64 1)) fun v21_9 => (k1 (mindexAddr E.P 23 x2 v21_9) fun v22_10 => (k1 (xload E.P m 33 v22_10) fun v23_11 => (fVal v23_11 fun v => some (.ret v, m))))))) (fun v m => some (.pan v, m))))))))))
def keep105 : Keep := { region := fun i => ([[0, 1, 2], [0, 1, 2], [0, 2], [2], [6]] : List (List Nat))[i]?, exit := fun i => ([] : List (List Nat))[i]?, ret := some [6] }
noncomputable def lp105 (call : CallF) (fuel base : Nat) : Lp := lpsel []
noncomputable def c105 : Code := Try.f105.body.getD .skip
theorem r105_eq (call : CallF) (fuel base : Nat) (x0 : Value) (x1 : Value) (x2 : Value) (m : M) : kbody E call keep105 (lp105 call fuel base) base Try.f105 [x0, x1, x2] m = r105 call fuel base x0 x1 x2 m := by
  kernel_rfl
noncomputable def rf105 : RF := fun call fuel base args m => match args with
  | [x0, x1, x2] => r105 call fuel base x0 x1 x2 m
  | _ => none
theorem r105_lk (call : CallF) (fuel base : Nat) : LoopsOk E call (lp105 call fuel base) fuel base 0 c105 = (And True (And True (And True (And True (And True True))))) := by kernel_rfl
theorem r105_fn : E.P.funcs[105]? = some Try.f105 := by kernel_rfl
theorem r105_body : Try.f105.body = some c105 := by kernel_rfl
theorem rf105_ok : RFok E 105 rf105 := by
  refine ⟨Try.f105, r105_fn, fun call fuel base args m r _ h => ?_⟩
  unfold rf105 at h
  split at h
  · rw [← r105_eq] at h
    exact kbody_sound (c := c105) r105_body (Eq.mpr (r105_lk call fuel base) (And.intro trivial (And.intro trivial (And.intro trivial (And.intro trivial (And.intro trivial trivial)))))) h
  · simp at h
end Go.AM
namespace Go.AM
open Go Go.Proofs
noncomputable def r106_L0 (call : CallF) (fuel base : Nat) (kx0 : Value → Value → M → Res2) (n : Nat) : Value → Value → Value → Value → Value → M → Res2 :=
  Nat.rec (motive := fun _ => Value → Value → Value → Value → Value → M → Res2) (fun _ _ _ _ _ _ => none)
    (fun _ ih x0 x3 x9 x10 x11 m =>
      (k1 (mbin E .lss 3 x11 x10) fun v12_2 => (kb v12_2 (k1 (mindexAddr E.P 23 x9 x11) fun v13_3 => (k1 (xload E.P m 33 v13_3) fun v14_4 => (k2 (vcall E.P base m .len [33] [v14_4]) fun v17_5 m => (k1 (mbin E .add 3 x3 v17_5) fun v18_6 => (k1 (mbin E .lss 3 v18_6 (.int .i64 0)) fun v20_7 => (kb v20_7 none (k1 (mbin E .add 3 x11 (.int .i64 1)) fun v22_8 => (ih x0 v18_6 x9 x10 v22_8 m)))))))) (kx0 x0 x3 m)))) n
noncomputable def r106_L2 (call : CallF) (fuel base : Nat) (kx2 : Value → M → Res2) (n : Nat) : Value → Value → Value → Value → M → Res2 :=
  Nat.rec (motive := fun _ => Value → Value → Value → Value → M → Res2) (fun _ _ _ _ _ => none)
    (fun _ ih x6 x25 x26 x27 m =>
      (k1 (mbin E .lss 3 x27 x26) fun v28_13 => (kb v28_13 (k1 (mindexAddr E.P 23 x25 x27) fun v29_14 => (k1 (xload E.P m 33 v29_14) fun v30_15 => (k2 (vcall E.P base m .append [33, 33] [x6, v30_15]) fun v33_16 m => (k1 (mbin E .add 3 x27 (.int .i64 1)) fun v34_17 => (ih v33_16 x25 x26 v34_17 m))))) (kx2 x6 m)))) n
noncomputable def r106 (call : CallF) (fuel base : Nat) (x0 : Value) (m : M) : Res2 :=
  (k2 (vcall E.P base m .len [23] [x0]) fun v10_1 m => (r106_L0 call fuel base (fun y0_9 y3_10 m => (kc (call base 118 [(.slice none 0 0), y3_10] m) (fun v24_11 m => (k2 (vcall E.P base m .len [23] [y0_9]) fun v26_12 m => (r106_L2 call fuel base (fun y6_18 m => (fVal y6_18 fun v => some (.ret v, m))) fuel v24_11 y0_9 v26_12 (.int .i64 0) m))) (fun v m => some (.pan v, m)))) fuel x0 (.int .i64 0) x0 v10_1 (.int .i64 0) m))
def keep106 : Keep := { region := fun i => ([[0], [0, 3], [0, 3, 9, 10, 11], [0, 3, 9, 10, 11, 12], [0, 3, 5, 9, 10, 11], [0, 3, 9, 10, 11], [0, 3, 9, 10, 11, 20], [0, 3, 9, 10, 11], [0, 3, 9, 10, 11], [0, 6], [6, 25, 26, 27], [6, 25, 26, 27, 28], [6, 8, 25, 26, 27], [6, 25, 26, 27], [6, 25, 26, 27], [2]] : List (List Nat))[i]?, exit := fun i => ([[0, 3], [0, 3, 9, 10, 11], [6], [6, 25, 26, 27]] : List (List Nat))[i]?, ret := some [2] }
noncomputable def r106_L0_R (call : CallF) (fuel base n : Nat) (vs : List Value) (m : M) (K : KT) : Res2 := match vs with
  | [x0, x3, x9, x10, x11] => r106_L0 call fuel base (fun y0 y3 m => K (.exit 0) { n := 36, l := [(0, y0), (3, y3)] } m) n x0 x3 x9 x10 x11 m
  | _ => none
noncomputable def r106_L2_R (call : CallF) (fuel base n : Nat) (vs : List Value) (m : M) (K : KT) : Res2 := match vs with
  | [x6, x25, x26, x27] => r106_L2 call fuel base (fun y6 m => K (.exit 2) { n := 36, l := [(6, y6)] } m) n x6 x25 x26 x27 m
  | _ => none
noncomputable def lp106 (call : CallF) (fuel base : Nat) : Lp := lpsel [(0, fun T m K => kslots 36 [0, 3, 9, 10, 11] T fun vs => r106_L0_R call fuel base fuel vs m K), (2, fun T m K => kslots 36 [6, 25, 26, 27] T fun vs => r106_L2_R call fuel base fuel vs m K)]
noncomputable def c106 : Code := Try.f106.body.getD .skip
theorem r106_L0_lk (call : CallF) (fuel base : Nat) : LoopsOk E call (lp106 call fuel base) fuel base 0 (loopB (blockB (seqR (seqL (seqR (seqR c106)))))) = (And True (And (And True True) (And (And True (And True (And True (And True True)))) True))) := by kernel_rfl
theorem r106_L0_ok (call : CallF) (fuel base : Nat) : LpOk E call (lp106 call fuel base) fuel base 0 (loopB (blockB (seqR (seqL (seqR (seqR c106)))))) := by
  refine loop_ok (kp := keep106) (hb := Eq.mpr (r106_L0_lk call fuel base) (And.intro trivial (And.intro (And.intro trivial trivial) (And.intro (And.intro trivial (And.intro trivial (And.intro trivial (And.intro trivial trivial)))) trivial)))) 36 [0, 3, 9, 10, 11] (fun n vs m K => r106_L0_R call fuel base n vs m K) ?_ ?_ (fun _ _ _ => rfl)
  · intro vs m K
    unfold r106_L0_R
    split <;> rfl
  · intro n vs m K hl
    match vs, hl with
    | [x0, x3, x9, x10, x11], _ => show _ = _; kernel_rfl
theorem r106_L2_lk (call : CallF) (fuel base : Nat) : LoopsOk E call (lp106 call fuel base) fuel base 2 (loopB (blockB (seqR (seqL (seqR (seqR (seqR (seqR c106)))))))) = (And True (And (And True True) (And (And True True) True))) := by kernel_rfl
theorem r106_L2_ok (call : CallF) (fuel base : Nat) : LpOk E call (lp106 call fuel base) fuel base 2 (loopB (blockB (seqR (seqL (seqR (seqR (seqR (seqR c106)))))))) := by
  refine loop_ok (kp := keep106) (hb := Eq.mpr (r106_L2_lk call fuel base) (And.intro trivial (And.intro (And.intro trivial trivial) (And.intro (And.intro trivial trivial) trivial)))) 36 [6, 25, 26, 27] (fun n vs m K => r106_L2_R call fuel base n vs m K) ?_ ?_ (fun _ _ _ => rfl)
  · intro vs m K
    unfold r106_L2_R
    split <;> rfl
  · intro n vs m K hl
    match vs, hl with
    | [x6, x25, x26, x27], _ => show _ = _; kernel_rfl
theorem r106_eq (call : CallF) (fuel base : Nat) (x0 : Value) (m : M) : kbody E call keep106 (lp106 call fuel base) base Try.f106 [x0] m = r106 call fuel base x0 m := by
  kernel_rfl
noncomputable def rf106 : RF := fun call fuel base args m => match args with
  | [x0] => r106 call fuel base x0 m
  | _ => none
theorem r106_lk (call : CallF) (fuel base : Nat) : LoopsOk E call (lp106 call fuel base) fuel base 0 c106 = (And True (And True (And (And True (LpOk E call (lp106 call fuel base) fuel base 0 (loopB (blockB (seqR (seqL (seqR (seqR c106)))))))) (And True (And (And True (LpOk E call (lp106 call fuel base) fuel base 2 (loopB (blockB (seqR (seqL (seqR (seqR (seqR (seqR c106)))))))))) (And True True)))))) := by kernel_rfl
theorem r106_fn : E.P.funcs[106]? = some Try.f106 := by kernel_rfl
theorem r106_body : Try.f106.body = some c106 := by kernel_rfl
theorem rf106_ok : RFok E 106 rf106 := by
  refine ⟨Try.f106, r106_fn, fun call fuel base args m r _ h => ?_⟩
  unfold rf106 at h
  split at h
  · rw [← r106_eq] at h
    exact kbody_sound (c := c106) r106_body (Eq.mpr (r106_lk call fuel base) (And.intro trivial (And.intro trivial (And.intro (And.intro trivial (r106_L0_ok call fuel base)) (And.intro trivial (And.intro (And.intro trivial (r106_L2_ok call fuel base)) (And.intro trivial trivial))))))) h
  · simp at h
end Go.AM
namespace Go.AM
open Go Go.Proofs
noncomputable def r107_L0 (call : CallF) (fuel base : Nat) (kx0 : Value → M → Res2) (n : Nat) : Value → Value → Value → M → Res2 :=
  Nat.rec (motive := fun _ => Value → Value → Value → M → Res2) (fun _ _ _ _ => none)
    (fun _ ih x0 x5 x6 m =>
      (k1 (mbin E .geq 3 x6 (.int .i64 0)) fun v12_3 => (kb v12_3 (k1 (mbin E .rem 3 x0 (.int .i64 8)) fun v18_4 => (k1 (mindexAddr E.P 33 x5 x6) fun v19_5 => (ks (xstore E.P base m 3 v19_5 v18_4) fun m => (k1 (mbin E .quo 3 x0 (.int .i64 8)) fun v21_6 => (k1 (mbin E .sub 3 x6 (.int .i64 1)) fun v14_7 => (ih v21_6 x5 v14_7 m)))))) (kx0 x5 m)))) n
noncomputable def r107 (call : CallF) (fuel base : Nat) (x0 : Value) (x1 : Value) (m : M) : Res2 :=
  (k2 (xmakeSlice E.P m 33 x1 x1) fun v8_1 m => (k1 (mbin E .sub 3 x1 (.int .i64 1)) fun v10_2 => (r107_L0 call fuel base (fun y5_8 m => (fVal y5_8 fun v => some (.ret v, m))) fuel x0 v8_1 v10_2 m)))
def keep107 : Keep := { region := fun i => ([[0, 1], [0, 1, 5], [0, 5, 6], [0, 5, 6, 12], [0, 5, 6], [0, 5, 6], [0, 5, 6], [4]] : List (List Nat))[i]?, exit := fun i => ([[5], [0, 5, 6]] : List (List Nat))[i]?, ret := some [4] }
noncomputable def r107_L0_R (call : CallF) (fuel base n : Nat) (vs : List Value) (m : M) (K : KT) : Res2 := match vs with
  | [x0, x5, x6] => r107_L0 call fuel base (fun y5 m => K (.exit 0) { n := 23, l := [(5, y5)] } m) n x0 x5 x6 m
  | _ => none
noncomputable def lp107 (call : CallF) (fuel base : Nat) : Lp := lpsel [(0, fun T m K => kslots 23 [0, 5, 6] T fun vs => r107_L0_R call fuel base fuel vs m K)]
noncomputable def c107 : Code := Try.f107.body.getD .skip
theorem r107_L0_lk (call : CallF) (fuel base : Nat) : LoopsOk E call (lp107 call fuel base) fuel base 0 (loopB (blockB (seqR (seqL (seqR (seqR c107)))))) = (And (And True (And True True)) (And (And True True) True)) := by kernel_rfl
theorem r107_L0_ok (call : CallF) (fuel base : Nat) : LpOk E call (lp107 call fuel base) fuel base 0 (loopB (blockB (seqR (seqL (seqR (seqR c107)))))) := by
  refine loop_ok (kp := keep107) (hb := Eq.mpr (r107_L0_lk call fuel base) (And.intro (And.intro trivial (And.intro trivial trivial)) (And.intro (And.intro trivial trivial) trivial))) 23 [0, 5, 6] (fun n vs m K => r107_L0_R call fuel base n vs m K) ?_ ?_ (fun _ _ _ => rfl)
  · intro vs m K
    unfold r107_L0_R
    split <;> rfl
  · intro n vs m K hl
    match vs, hl with
    | [x0, x5, x6], _ => show _ = _; kernel_rfl
theorem r107_eq (call : CallF) (fuel base : Nat) (x0 : Value) (x1 : Value) (m : M) : kbody E call keep107 (lp107 call fuel base) base Try.f107 [x0, x1] m = r107 call fuel base x0 x1 m := by
  kernel_rfl
noncomputable def rf107 : RF := fun call fuel base args m => match args with
  | [x0, x1] => r107 call fuel base x0 x1 m
  | _ => none
theorem r107_lk (call : CallF) (fuel base : Nat) : LoopsOk E call (lp107 call fuel base) fuel base 0 c107 = (And True (And True (And (And True (LpOk E call (lp107 call fuel base) fuel base 0 (loopB (blockB (seqR (seqL (seqR (seqR c107)))))))) (And True True)))) := by kernel_rfl
theorem r107_fn : E.P.funcs[107]? = some Try.f107 := by kernel_rfl
theorem r107_body : Try.f107.body = some c107 := by kernel_rfl
theorem rf107_ok : RFok E 107 rf107 := by
  refine ⟨Try.f107, r107_fn, fun call fuel base args m r _ h => ?_⟩
  unfold rf107 at h
  split at h
  · rw [← r107_eq] at h
    exact kbody_sound (c := c107) r107_body (Eq.mpr (r107_lk call fuel base) (And.intro trivial (And.intro trivial (And.intro (And.intro trivial (r107_L0_ok call fuel base)) (And.intro trivial trivial))))) h
  · simp at h
end Go.AM
namespace Go.AM
open Go Go.Proofs
noncomputable def r108_L0 (call : CallF) (fuel base : Nat) (kx0 : M → Res2) (n : Nat) : Value → Value → Value → Value → Value → Value → Value → Value → Value → Value → Value → M → Res2 :=
  Nat.rec (motive := fun _ => Value → Value → Value → Value → Value → Value → Value → Value → Value → Value → Value → M → Res2) (fun _ _ _ _ _ _ _ _ _ _ _ _ => none)
    (fun _ ih x0 x1 x2 x3 x4 x5 x6 x7 x8 x18 x19 m =>
      (k2 (vcall E.P base m .len [22] [x0]) fun v38_9 m => (k1 (mbin E .lss 3 x19 v38_9) fun v39_10 => (kb v39_10 (k1 (mindexAddr E.P 22 x0 x19) fun v44_11 => (k1 (mfieldAddr E.P 45 v44_11 3) fun v45_12 => (k1 (xload E.P m 3 v45_12) fun v46_13 => (k1 (mbin E .eql 3 v46_13 x6) fun v48_14 => (kb v48_14 (k1 (mindexAddr E.P 22 x0 x19) fun v52_15 => (k1 (mfieldAddr E.P 45 v52_15 0) fun v53_16 => (k1 (xload E.P m 3 v53_16) fun v54_17 => (k1 (mbin E .quo 3 x4 x18) fun v58_18 => (k2 (vcall E.P base m .len [33] [x1]) fun v60_19 m => (k1 (mbin E .rem 3 v58_18 v60_19) fun v61_20 => (k1 (mindexAddr E.P 33 x1 v61_20) fun v62_21 => (k1 (xload E.P m 3 v62_21) fun v63_22 => (k1 (mbin E .eql 3 v54_17 v63_22) fun v64_23 => (kb v64_23 (k1 (mbin E .add 3 x3 (.int .i64 1)) fun v70_24 => (k1 (mindexAddr E.P 22 x0 x19) fun v76_25 => (k1 (mfieldAddr E.P 45 v76_25 2) fun v77_26 => (k1 (xload E.P m 3 v77_26) fun v78_27 => (kc (kB m (call m.length 102 [x1, v78_27] m)) (fun v79_28 m => (k1 (mbin E .mul 3 v79_28 x18) fun v81_29 => (k1 (mbin E .add 3 x5 v81_29) fun v82_30 => (k1 (mindexAddr E.P 22 x0 x19) fun v85_31 => (k1 (mfieldAddr E.P 45 v85_31 1) fun v86_32 => (k1 (xload E.P m 3 v86_32) fun v87_33 => (kc (call base 108 [x0, x1, x2, v70_24, x4, v82_30, v87_33, x7, x8] m) (fun v90_34 m => (k1 (mbin E .add 3 x19 (.int .i64 1)) fun v41_35 => (ih x0 x1 x2 x3 x4 x5 x6 x7 x8 x18 v41_35 m))) (fun _ _ => none)))))))) (fun _ _ => none)))))) (k1 (mbin E .add 3 x19 (.int .i64 1)) fun v41_36 => (ih x0 x1 x2 x3 x4 x5 x6 x7 x8 x18 v41_36 m)))))))))))) (k1 (mbin E .add 3 x19 (.int .i64 1)) fun v41_37 => (ih x0 x1 x2 x3 x4 x5 x6 x7 x8 x18 v41_37 m))))))) (kx0 m))))) n
noncomputable def r108 (call : CallF) (fuel base : Nat) (x0 : Value) (x1 : Value) (x2 : Value) (x3 : Value) (x4 : Value) (x5 : Value) (x6 : Value) (x7 : Value) (x8 : Value) (m : M) : Res2 :=
  (k1 (mbin E .eql 3 x3 x2) fun v22_1 => (kb v22_1 (k1 (mbin E .eql 3 x6 x7) fun v25_2 => (kb v25_2 (k1 (mindexAddr E.P 33 x8 x5) fun v28_3 => (k1 (xload E.P m 3 v28_3) fun v29_4 => (k1 (mbin E .add 3 v29_4 (.int .i64 1)) fun v30_5 => (k1 (mindexAddr E.P 33 x8 x5) fun v31_6 => (ks (xstore E.P base m 3 v31_6 v30_5) fun m => (some (.ret (.tuple #[]), m))))))) (some (.ret (.tuple #[]), m)))) (k2 (vcall E.P base m .len [33] [x1]) fun v33_7 m => (kc (call base 66 [v33_7, x3] m) (fun v35_8 m => (r108_L0 call fuel base (fun m => (some (.ret (.tuple #[]), m))) fuel x0 x1 x2 x3 x4 x5 x6 x7 x8 v35_8 (.int .i64 0) m)) (fun v m => some (.pan v, m))))))
def keep108 : Keep := { region := fun i => ([[0, 1, 2, 3, 4, 5, 6, 7, 8, 22], [5, 8, 25], [], [0, 1, 2, 3, 4, 5, 6, 7, 8, 18], [0, 1, 2, 3, 4, 5, 6, 7, 8, 18, 19], [0, 1, 2, 3, 4, 5, 6, 7, 8, 18, 19, 39], [0, 1, 2, 3, 4, 5, 6, 7, 8, 18, 19], [0, 1, 2, 3, 4, 5, 6, 7, 8, 18, 19, 65], [0, 1, 2, 3, 4, 5, 6, 7, 8, 18, 19]] : List (List Nat))[i]?, exit := fun i => ([[], [0, 1, 2, 3, 4, 5, 6, 7, 8, 18, 19]] : List (List Nat))[i]?, ret := some [] }
noncomputable def r108_L0_R (call : CallF) (fuel base n : Nat) (vs : List Value) (m : M) (K : KT) : Res2 := match vs with
  | [x0, x1, x2, x3, x4, x5, x6, x7, x8, x18, x19] => r108_L0 call fuel base (fun m => K (.exit 0) { n := 91, l := [] } m) n x0 x1 x2 x3 x4 x5 x6 x7 x8 x18 x19 m
  | _ => none
noncomputable def lp108 (call : CallF) (fuel base : Nat) : Lp := lpsel [(0, fun T m K => kslots 91 [0, 1, 2, 3, 4, 5, 6, 7, 8, 18, 19] T fun vs => r108_L0_R call fuel base fuel vs m K)]
noncomputable def c108 : Code := Try.f108.body.getD .skip
theorem r108_L0_lk (call : CallF) (fuel base : Nat) : LoopsOk E call (lp108 call fuel base) fuel base 0 (loopB (blockB (seqR (seqR (seqR c108))))) = (And (And True (And True True)) (And (And True (And True True)) True)) := by kernel_rfl
theorem r108_L0_ok (call : CallF) (fuel base : Nat) : LpOk E call (lp108 call fuel base) fuel base 0 (loopB (blockB (seqR (seqR (seqR c108))))) := by
  refine loop_ok (kp := keep108) (hb := Eq.mpr (r108_L0_lk call fuel base) (And.intro (And.intro trivial (And.intro trivial trivial)) (And.intro (And.intro trivial (And.intro trivial trivial)) trivial))) 91 [0, 1, 2, 3, 4, 5, 6, 7, 8, 18, 19] (fun n vs m K => r108_L0_R call fuel base n vs m K) ?_ ?_ (fun _ _ _ => rfl)
  · intro vs m K
    unfold r108_L0_R
    split <;> rfl
  · intro n vs m K hl
    match vs, hl with
    | [x0, x1, x2, x3, x4, x5, x6, x7, x8, x18, x19], _ => show _ = _; kernel_rfl
theorem r108_eq (call : CallF) (fuel base : Nat) (x0 : Value) (x1 : Value) (x2 : Value) (x3 : Value) (x4 : Value) (x5 : Value) (x6 : Value) (x7 : Value) (x8 : Value) (m : M) : kbody E call keep108 (lp108 call fuel base) base Try.f108 [x0, x1, x2, x3, x4, x5, x6, x7, x8] m = r108 call fuel base x0 x1 x2 x3 x4 x5 x6 x7 x8 m := by
  kernel_rfl
noncomputable def rf108 : RF := fun call fuel base args m => match args with
  | [x0, x1, x2, x3, x4, x5, x6, x7, x8] => r108 call fuel base x0 x1 x2 x3 x4 x5 x6 x7 x8 m
  | _ => none
theorem r108_lk (call : CallF) (fuel base : Nat) : LoopsOk E call (lp108 call fuel base) fuel base 0 c108 = (And (And True (And (And (And True (And True True)) True) True)) (And True (And True (LpOk E call (lp108 call fuel base) fuel base 0 (loopB (blockB (seqR (seqR (seqR c108))))))))) := by kernel_rfl
theorem r108_fn : E.P.funcs[108]? = some Try.f108 := by kernel_rfl
theorem r108_body : Try.f108.body = some c108 := by kernel_rfl
theorem rf108_ok : RFok E 108 rf108 := by
  refine ⟨Try.f108, r108_fn, fun call fuel base args m r _ h => ?_⟩
  unfold rf108 at h
  split at h
  · rw [← r108_eq] at h
    exact kbody_sound (c := c108) r108_body (Eq.mpr (r108_lk call fuel base) (And.intro (And.intro trivial (And.intro (And.intro (And.intro trivial (And.intro trivial trivial)) trivial) trivial)) (And.intro trivial (And.intro trivial (r108_L0_ok call fuel base))))) h
  · simp at h
end Go.AM
namespace Go.AM
open Go Go.Proofs
noncomputable def r112_L0 (call : CallF) (fuel base : Nat) (kp : Value → M → Res2) (kr : Value → M → Res2) (kx0 : M → Res2) (n : Nat) : Value → Value → Value → Value → M → Res2 :=
  Nat.rec (motive := fun _ => Value → Value → Value → Value → M → Res2) (fun _ _ _ _ _ => none)
    (fun _ ih x0 x1 x7 x8 m =>
      (k1 (mbin E .lss 3 x8 x7) fun v9_2 => (kb v9_2 (k1 (mindexAddr E.P 33 x0 x8) fun v14_3 => (k1 (xload E.P m 3 v14_3) fun v15_4 => (kc (kv call base x1 [v15_4] m) (fun v16_5 m => (kb v16_5 (kr x8 m) (k1 (mbin E .add 3 x8 (.int .i64 1)) fun v18_6 => (ih x0 x1 x7 v18_6 m)))) (fun v m => kp v m)))) (kx0 m)))) n
noncomputable def r112 (call : CallF) (fuel base : Nat) (x0 : Value) (x1 : Value) (m : M) : Res2 :=
  (k2 (vcall E.P base m .len [33] [x0]) fun v7_1 m => (r112_L0 call fuel base (fun v m => some (.pan v, m)) (fun y4_7 m => (fVal y4_7 fun v => some (.ret v, m))) (fun m => (fVal (.int .i64 (-1)) fun v => some (.ret v, m))) fuel x0 x1 v7_1 (.int .i64 0) m))
def keep112 : Keep := { region := fun i => ([[0, 1], [0, 1, 7, 8], [0, 1, 7, 8, 9], [0, 1, 5, 7, 8], [0, 1, 5, 7, 8, 16], [4], [0, 1, 7, 8], [4]] : List (List Nat))[i]?, exit := fun i => ([[], [0, 1, 7, 8]] : List (List Nat))[i]?, ret := some [4] }
noncomputable def r112_L0_R (call : CallF) (fuel base n : Nat) (vs : List Value) (m : M) (K : KT) : Res2 := match vs with
  | [x0, x1, x7, x8] => r112_L0 call fuel base (fun v m => K (.pan v) { n := 19, l := [] } m) (fun y4 m => K .ret { n := 19, l := [(4, y4)] } m) (fun m => K (.exit 0) { n := 19, l := [] } m) n x0 x1 x7 x8 m
  | _ => none
noncomputable def lp112 (call : CallF) (fuel base : Nat) : Lp := lpsel [(0, fun T m K => kslots 19 [0, 1, 7, 8] T fun vs => r112_L0_R call fuel base fuel vs m K)]
noncomputable def c112 : Code := Try.f112.body.getD .skip
theorem r112_L0_lk (call : CallF) (fuel base : Nat) : LoopsOk E call (lp112 call fuel base) fuel base 0 (loopB (blockB (seqR (seqL (seqR c112))))) = (And True (And (And True True) (And (And True (And True (And (And True True) True))) True))) := by kernel_rfl
theorem r112_L0_ok (call : CallF) (fuel base : Nat) : LpOk E call (lp112 call fuel base) fuel base 0 (loopB (blockB (seqR (seqL (seqR c112))))) := by
  refine loop_ok (kp := keep112) (hb := Eq.mpr (r112_L0_lk call fuel base) (And.intro trivial (And.intro (And.intro trivial trivial) (And.intro (And.intro trivial (And.intro trivial (And.intro (And.intro trivial trivial) trivial))) trivial)))) 19 [0, 1, 7, 8] (fun n vs m K => r112_L0_R call fuel base n vs m K) ?_ ?_ (fun _ _ _ => rfl)
  · intro vs m K
    unfold r112_L0_R
    split <;> rfl
  · intro n vs m K hl
    match vs, hl with
    | [x0, x1, x7, x8], _ => show _ = _; kernel_rfl
theorem r112_eq (call : CallF) (fuel base : Nat) (x0 : Value) (x1 : Value) (m : M) : kbody E call keep112 (lp112 call fuel base) base Try.f112 [x0, x1] m = r112 call fuel base x0 x1 m := by
  kernel_rfl
noncomputable def rf112 : RF := fun call fuel base args m => match args with
  | [x0, x1] => r112 call fuel base x0 x1 m
  | _ => none
theorem r112_lk (call : CallF) (fuel base : Nat) : LoopsOk E call (lp112 call fuel base) fuel base 0 c112 = (And True (And (And True (LpOk E call (lp112 call fuel base) fuel base 0 (loopB (blockB (seqR (seqL (seqR c112))))))) (And True True))) := by kernel_rfl
theorem r112_fn : E.P.funcs[112]? = some Try.f112 := by kernel_rfl
theorem r112_body : Try.f112.body = some c112 := by kernel_rfl
theorem rf112_ok : RFok E 112 rf112 := by
  refine ⟨Try.f112, r112_fn, fun call fuel base args m r _ h => ?_⟩
  unfold rf112 at h
  split at h
  · rw [← r112_eq] at h
    exact kbody_sound (c := c112) r112_body (Eq.mpr (r112_lk call fuel base) (And.intro trivial (And.intro (And.intro trivial (r112_L0_ok call fuel base)) (And.intro trivial trivial)))) h
  · simp at h
end Go.AM
namespace Go.AM
open Go Go.Proofs
noncomputable def r114_L0 (call : CallF) (fuel base : Nat) (kr : Value → M → Res2) (kx0 : M → Res2) (n : Nat) : Value → Value → Value → Value → M → Res2 :=
  Nat.rec (motive := fun _ => Value → Value → Value → Value → M → Res2) (fun _ _ _ _ _ => none)
    (fun _ ih x0 x3 x7 x8 m =>
      (k1 (mbin E .lss 3 x8 x7) fun v9_3 => (kb v9_3 (k1 (xload E.P m 45 x3) fun v11_4 => (k1 (mindexAddr E.P 22 x0 x8) fun v14_5 => (k1 (xload E.P m 45 v14_5) fun v15_6 => (k1 (mbin E .eql 45 v11_4 v15_6) fun v16_7 => (kb v16_7 (kr x8 m) (k1 (mbin E .add 3 x8 (.int .i64 1)) fun v18_8 => (ih x0 x3 x7 v18_8 m))))))) (kx0 m)))) n
noncomputable def r114 (call : CallF) (fuel base : Nat) (x0 : Value) (x1 : Value) (m : M) : Res2 :=
  (k2 (xbox m x1) fun v3_1 m => (k2 (vcall E.P base m .len [22] [x0]) fun v7_2 m => (r114_L0 call fuel base (fun y4_9 m => (fVal y4_9 fun v => some (.ret v, m))) (fun m => (fVal (.int .i64 (-1)) fun v => some (.ret v, m))) fuel x0 v3_1 v7_2 (.int .i64 0) m)))
def keep114 : Keep := { region := fun i => ([[0, 3], [0, 3, 7, 8], [0, 3, 7, 8, 9], [0, 3, 5, 7, 8], [0, 3, 5, 7, 8, 16], [4], [0, 3, 7, 8], [4]] : List (List Nat))[i]?, exit := fun i => ([[], [0, 3, 7, 8]] : List (List Nat))[i]?, ret := some [4] }
noncomputable def r114_L0_R (call : CallF) (fuel base n : Nat) (vs : List Value) (m : M) (K : KT) : Res2 := match vs with
  | [x0, x3, x7, x8] => r114_L0 call fuel base (fun y4 m => K .ret { n := 19, l := [(4, y4)] } m) (fun m => K (.exit 0) { n := 19, l := [] } m) n x0 x3 x7 x8 m
  | _ => none
noncomputable def lp114 (call : CallF) (fuel base : Nat) : Lp := lpsel [(0, fun T m K => kslots 19 [0, 3, 7, 8] T fun vs => r114_L0_R call fuel base fuel vs m K)]
noncomputable def c114 : Code := Try.f114.body.getD .skip
theorem r114_L0_lk (call : CallF) (fuel base : Nat) : LoopsOk E call (lp114 call fuel base) fuel base 0 (loopB (blockB (seqR (seqL (seqR c114))))) = (And True (And (And True True) (And (And True (And True (And (And True True) True))) True))) := by kernel_rfl
theorem r114_L0_ok (call : CallF) (fuel base : Nat) : LpOk E call (lp114 call fuel base) fuel base 0 (loopB (blockB (seqR (seqL (seqR c114))))) := by
  refine loop_ok (kp := keep114) (hb := Eq.mpr (r114_L0_lk call fuel base) (And.intro trivial (And.intro (And.intro trivial trivial) (And.intro (And.intro trivial (And.intro trivial (And.intro (And.intro trivial trivial) trivial))) trivial)))) 19 [0, 3, 7, 8] (fun n vs m K => r114_L0_R call fuel base n vs m K) ?_ ?_ (fun _ _ _ => rfl)
  · intro vs m K
    unfold r114_L0_R
    split <;> rfl
  · intro n vs m K hl
    match vs, hl with
    | [x0, x3, x7, x8], _ => show _ = _; kernel_rfl
theorem r114_eq (call : CallF) (fuel base : Nat) (x0 : Value) (x1 : Value) (m : M) : kbody E call keep114 (lp114 call fuel base) base Try.f114 [x0, x1] m = r114 call fuel base x0 x1 m := by
  kernel_rfl
noncomputable def rf114 : RF := fun call fuel base args m => match args with
  | [x0, x1] => r114 call fuel base x0 x1 m
  | _ => none
theorem r114_lk (call : CallF) (fuel base : Nat) : LoopsOk E call (lp114 call fuel base) fuel base 0 c114 = (And True (And (And True (LpOk E call (lp114 call fuel base) fuel base 0 (loopB (blockB (seqR (seqL (seqR c114))))))) (And True True))) := by kernel_rfl
theorem r114_fn : E.P.funcs[114]? = some Try.f114 := by kernel_rfl
theorem r114_body : Try.f114.body = some c114 := by kernel_rfl
theorem rf114_ok : RFok E 114 rf114 := by
  refine ⟨Try.f114, r114_fn, fun call fuel base args m r _ h => ?_⟩
  unfold rf114 at h
  split at h
  · rw [← r114_eq] at h
    exact kbody_sound (c := c114) r114_body (Eq.mpr (r114_lk call fuel base) (And.intro trivial (And.intro (And.intro trivial (r114_L0_ok call fuel base)) (And.intro trivial trivial)))) h
  · simp at h
end Go.AM
namespace Go.AM
open Go Go.Proofs
noncomputable def r115 (call : CallF) (fuel base : Nat) (x0 : Value) (x1 : Value) (m : M) : Res2 :=
  (kc (call base 121 [x0] m) (fun v8_1 m => (kc (call base 121 [x1] m) (fun v10_2 m => (kb v8_1 (kb v10_2 (fVal (.int .i64 0) fun v => some (.ret v, m)) (fVal (.int .i64 (-1)) fun v => some (.ret v, m))) (kb v10_2 (fVal (.int .i64 1) fun v => some (.ret v, m)) (k1 (mbin E .lss 3 x0 x1) fun v16_3 => (kb v16_3 (fVal (.int .i64 (-1)) fun v => some (.ret v, m)) (k1 (mbin E .gtr 3 x0 x1) fun v19_4 => (kb v19_4 (fVal (.int .i64 1) fun v => some (.ret v, m)) (fVal (.int .i64 0) fun v => some (.ret v, m))))))))) (fun v m => some (.pan v, m)))) (fun v m => some (.pan v, m)))
def keep115 : Keep := { region := fun i => ([[0, 1], [0, 1, 5], [0, 1, 5, 6], [0, 1, 6, 11], [12], [4], [4], [0, 1, 13], [4], [0, 1, 16], [4], [19], [4], [4]] : List (List Nat))[i]?, exit := fun i => ([] : List (List Nat))[i]?, ret := some [4] }
noncomputable def lp115 (call : CallF) (fuel base : Nat) : Lp := lpsel []
noncomputable def c115 : Code := Try.f115.body.getD .skip
theorem r115_eq (call : CallF) (fuel base : Nat) (x0 : Value) (x1 : Value) (m : M) : kbody E call keep115 (lp115 call fuel base) base Try.f115 [x0, x1] m = r115 call fuel base x0 x1 m := by
  kernel_rfl
noncomputable def rf115 : RF := fun call fuel base args m => match args with
  | [x0, x1] => r115 call fuel base x0 x1 m
  | _ => none
theorem r115_lk (call : CallF) (fuel base : Nat) : LoopsOk E call (lp115 call fuel base) fuel base 0 c115 = (And True (And True (And True (And (And True (And (And (And True (And (And True True) True)) (And True True)) True)) (And (And True (And (And True True) True)) (And (And True (And (And True True) True)) (And (And True (And (And True True) True)) (And True True)))))))) := by kernel_rfl
theorem r115_fn : E.P.funcs[115]? = some Try.f115 := by kernel_rfl
theorem r115_body : Try.f115.body = some c115 := by kernel_rfl
theorem rf115_ok : RFok E 115 rf115 := by
  refine ⟨Try.f115, r115_fn, fun call fuel base args m r _ h => ?_⟩
  unfold rf115 at h
  split at h
  · rw [← r115_eq] at h
    exact kbody_sound (c := c115) r115_body (Eq.mpr (r115_lk call fuel base) (And.intro trivial (And.intro trivial (And.intro trivial (And.intro (And.intro trivial (And.intro (And.intro (And.intro trivial (And.intro (And.intro trivial trivial) trivial)) (And.intro trivial trivial)) trivial)) (And.intro (And.intro trivial (And.intro (And.intro trivial trivial) trivial)) (And.intro (And.intro trivial (And.intro (And.intro trivial trivial) trivial)) (And.intro (And.intro trivial (And.intro (And.intro trivial trivial) trivial)) (And.intro trivial trivial))))))))) h
  · simp at h
end Go.AM
namespace Go.AM
open Go Go.Proofs
noncomputable def r116 (call : CallF) (fuel base : Nat) (x0 : Value) (x1 : Value) (x2 : Value) (x3 : Value) (m : M) : Res2 :=
  (k2 (xbox m x0) fun v4_1 m => (k2 (xbox m x3) fun v7_2 m => (k2 (xalloc E.P m 109) fun v8_3 m => (k1 (mbin E .eql 3 x1 (.int .i64 0)) fun v10_4 => (kb v10_4 (k1 (mfieldAddr E.P 45 v7_2 3) fun v11_5 => (k1 (xload E.P m 3 v11_5) fun v12_6 => (k1 (mfieldAddr E.P 109 v4_1 3) fun v13_7 => (ks (xstore E.P base m 3 v13_7 v12_6) fun m => (k1 (mfieldAddr E.P 109 v4_1 0) fun v16_8 => (k1 (mindexAddr E.P 107 v16_8 x1) fun v17_9 => (ks (xstore E.P base m 3 v17_9 x2) fun m => (k1 (mfieldAddr E.P 45 v7_2 1) fun v18_10 => (k1 (xload E.P m 3 v18_10) fun v19_11 => (k1 (mfieldAddr E.P 109 v4_1 4) fun v20_12 => (ks (xstore E.P base m 3 v20_12 v19_11) fun m => (k1 (mfieldAddr E.P 109 v4_1 1) fun v21_13 => (k1 (xload E.P m 3 v21_13) fun v22_14 => (k1 (mbin E .mul 3 v22_14 (.int .i64 8)) fun v23_15 => (k1 (mfieldAddr E.P 45 v7_2 0) fun v24_16 => (k1 (xload E.P m 3 v24_16) fun v25_17 => (k1 (mbin E .add 3 v23_15 v25_17) fun v26_18 => (k1 (mfieldAddr E.P 109 v4_1 1) fun v27_19 => (ks (xstore E.P base m 3 v27_19 v26_18) fun m => (k1 (mfieldAddr E.P 109 v4_1 2) fun v28_20 => (k1 (xload E.P m 3 v28_20) fun v29_21 => (k1 (mbin E .mul 3 v29_21 (.int .i64 8)) fun v30_22 => (k1 (mfieldAddr E.P 45 v7_2 2) fun v31_23 => (k1 (xload E.P m 3 v31_23) fun v32_24 => (k1 (mbin E .add 3 v30_22 v32_24) fun v33_25 => (k1 (mfieldAddr E.P 109 v4_1 2) fun v34_26 => (ks (xstore E.P base m 3 v34_26 v33_25) fun m => (k1 (xload E.P m 109 v4_1) fun v35_27 => (ks (xstore E.P base m 109 v8_3 v35_27) fun m => (k0 (mload E.P m 109 v8_3) fun r_28 => (fVal r_28 fun v => some (.ret v, m)))))))))))))))))))))))))))))))) (k1 (mfieldAddr E.P 109 v4_1 0) fun v16_29 => (k1 (mindexAddr E.P 107 v16_29 x1) fun v17_30 => (ks (xstore E.P base m 3 v17_30 x2) fun m => (k1 (mfieldAddr E.P 45 v7_2 1) fun v18_31 => (k1 (xload E.P m 3 v18_31) fun v19_32 => (k1 (mfieldAddr E.P 109 v4_1 4) fun v20_33 => (ks (xstore E.P base m 3 v20_33 v19_32) fun m => (k1 (mfieldAddr E.P 109 v4_1 1) fun v21_34 => (k1 (xload E.P m 3 v21_34) fun v22_35 => (k1 (mbin E .mul 3 v22_35 (.int .i64 8)) fun v23_36 => (k1 (mfieldAddr E.P 45 v7_2 0) fun v24_37 => (k1 (xload E.P m 3 v24_37) fun v25_38 => (k1 (mbin E .add 3 v23_36 v25_38) fun v26_39 => (k1 (mfieldAddr E.P 109 v4_1 1) fun v27_40 => (ks (xstore E.P base m 3 v27_40 v26_39) fun m => (k1 (mfieldAddr E.P 109 v4_1 2) fun v28_41 => (k1 (xload E.P m 3 v28_41) fun v29_42 => (k1 (mbin E .mul 3 v29_42 (.int .i64 8)) fun v30_43 => (k1 (mfieldAddr E.P 45 v7_2 2) fun v31_44 => (k1 (xload E.P m 3 v31_44) fun v32_45 => (k1 (mbin E .add 3 v30_43 v32_45) fun v33_46 => (k1 (mfieldAddr E.P 109 v4_1 2) fun v34_47 => (ks (xstore E.P base m 3 v34_47 v33_46) fun m => (k1 (xload E.P m 109 v4_1) fun v35_48 => (ks (xstore E.P base m 109 v8_3 v35_48) fun m => (k0 (mload E.P m 109 v8_3) fun r_49 => (fVal r_49 fun v => some (.ret v, m)))))))))))))))))))))))))))))))))
def keep116 : Keep := { region := fun i => ([[1, 2, 4, 7, 8], [1, 2, 4, 7, 8, 10], [1, 2, 4, 7, 8], [4, 7, 8], [4, 7, 8], [4, 7, 8], [4, 8], [8]] : List (List Nat))[i]?, exit := fun i => ([] : List (List Nat))[i]?, ret := some [8] }
noncomputable def lp116 (call : CallF) (fuel base : Nat) : Lp := lpsel []
noncomputable def c116 : Code := Try.f116.body.getD .skip
theorem r116_eq (call : CallF) (fuel base : Nat) (x0 : Value) (x1 : Value) (x2 : Value) (x3 : Value) (m : M) : kbody E call keep116 (lp116 call fuel base) base Try.f116 [x0, x1, x2, x3] m = r116 call fuel base x0 x1 x2 x3 m := by
  kernel_rfl
noncomputable def rf116 : RF := fun call fuel base args m => match args with
  | [x0, x1, x2, x3] => r116 call fuel base x0 x1 x2 x3 m
  | _ => none
theorem r116_lk (call : CallF) (fuel base : Nat) : LoopsOk E call (lp116 call fuel base) fuel base 0 c116 = (And True (And (And True (And True True)) (And True (And True (And True (And True (And True True))))))) := by kernel_rfl
theorem r116_fn : E.P.funcs[116]? = some Try.f116 := by kernel_rfl
theorem r116_body : Try.f116.body = some c116 := by kernel_rfl
theorem rf116_ok : RFok E 116 rf116 := by
  refine ⟨Try.f116, r116_fn, fun call fuel base args m r _ h => ?_⟩
  unfold rf116 at h
  split at h
  · rw [← r116_eq] at h
    exact kbody_sound (c := c116) r116_body (Eq.mpr (r116_lk call fuel base) (And.intro trivial (And.intro (And.intro trivial (And.intro trivial trivial)) (And.intro trivial (And.intro trivial (And.intro trivial (And.intro trivial (And.intro trivial trivial)))))))) h
  · simp at h
end Go.AM
namespace Go.AM
open Go Go.Proofs
noncomputable def r117_L0 (call : CallF) (fuel base : Nat) (kx0 : M → Res2) (n : Nat) : Value → Value → Value → Value → M → Res2 :=
  Nat.rec (motive := fun _ => Value → Value → Value → Value → M → Res2) (fun _ _ _ _ _ => none)
    (fun _ ih x0 x1 x7 x8 m =>
      (k1 (mbin E .lss 3 x8 x7) fun v9_3 => (kb v9_3 (k1 (mindexAddr E.P 23 x1 x8) fun v14_4 => (k1 (xload E.P m 33 v14_4) fun v15_5 => (k1 (mbin E .add 3 x8 (.int .i64 1)) fun v18_6 => (k1 (mindexAddr E.P 23 x1 v18_6) fun v19_7 => (k1 (xload E.P m 33 v19_7) fun v20_8 => (kc (call base 122 [x0, v15_5, v20_8] m) (fun v21_9 m => (k1 (mbin E .add 3 x8 (.int .i64 1)) fun v22_10 => (ih x0 x1 x7 v22_10 m))) (fun _ _ => none))))))) (kx0 m)))) n
noncomputable def r117 (call : CallF) (fuel base : Nat) (x0 : Value) (x1 : Value) (m : M) : Res2 :=
  (k2 (vcall E.P base m .len [23] [x1]) fun v6_1 m => (k1 (mbin E .sub 3 v6_1 (.int .i64 1)) fun v7_2 => (r117_L0 call fuel base (fun m => (some (.ret (.tuple #[]), m))) fuel x0 x1 v7_2 (.int .i64 0) m)))
def keep117 : Keep := { region := fun i => ([[0, 1, 7, 8], [0, 1, 7, 8, 9], [0, 1, 4, 7, 8], [0, 1, 7, 8], [0, 1, 7, 8]] : List (List Nat))[i]?, exit := fun i => ([[], [0, 1, 7, 8]] : List (List Nat))[i]?, ret := some [] }
noncomputable def r117_L0_R (call : CallF) (fuel base n : Nat) (vs : List Value) (m : M) (K : KT) : Res2 := match vs with
  | [x0, x1, x7, x8] => r117_L0 call fuel base (fun m => K (.exit 0) { n := 23, l := [] } m) n x0 x1 x7 x8 m
  | _ => none
noncomputable def lp117 (call : CallF) (fuel base : Nat) : Lp := lpsel [(0, fun T m K => kslots 23 [0, 1, 7, 8] T fun vs => r117_L0_R call fuel base fuel vs m K)]
noncomputable def c117 : Code := Try.f117.body.getD .skip
theorem r117_L0_lk (call : CallF) (fuel base : Nat) : LoopsOk E call (lp117 call fuel base) fuel base 0 (loopB (blockB (seqR c117))) = (And True (And (And True True) (And (And True True) True))) := by kernel_rfl
theorem r117_L0_ok (call : CallF) (fuel base : Nat) : LpOk E call (lp117 call fuel base) fuel base 0 (loopB (blockB (seqR c117))) := by
  refine loop_ok (kp := keep117) (hb := Eq.mpr (r117_L0_lk call fuel base) (And.intro trivial (And.intro (And.intro trivial trivial) (And.intro (And.intro trivial trivial) trivial)))) 23 [0, 1, 7, 8] (fun n vs m K => r117_L0_R call fuel base n vs m K) ?_ ?_ (fun _ _ _ => rfl)
  · intro vs m K
    unfold r117_L0_R
    split <;> rfl
  · intro n vs m K hl
    match vs, hl with
    | [x0, x1, x7, x8], _ => show _ = _; kernel_rfl
theorem r117_eq (call : CallF) (fuel base : Nat) (x0 : Value) (x1 : Value) (m : M) : kbody E call keep117 (lp117 call fuel base) base Try.f117 [x0, x1] m = r117 call fuel base x0 x1 m := by
  kernel_rfl
noncomputable def rf117 : RF := fun call fuel base args m => match args with
  | [x0, x1] => r117 call fuel base x0 x1 m
  | _ => none
theorem r117_lk (call : CallF) (fuel base : Nat) : LoopsOk E call (lp117 call fuel base) fuel base 0 c117 = (And True (LpOk E call (lp117 call fuel base) fuel base 0 (loopB (blockB (seqR c117))))) := by kernel_rfl
theorem r117_fn : E.P.funcs[117]? = some Try.f117 := by kernel_rfl
theorem r117_body : Try.f117.body = some c117 := by kernel_rfl
theorem rf117_ok : RFok E 117 rf117 := by
  refine ⟨Try.f117, r117_fn, fun call fuel base args m r _ h => ?_⟩
  unfold rf117 at h
  split at h
  · rw [← r117_eq] at h
    exact kbody_sound (c := c117) r117_body (Eq.mpr (r117_lk call fuel base) (And.intro trivial (r117_L0_ok call fuel base))) h
  · simp at h
end Go.AM
namespace Go.AM
open Go Go.Proofs
noncomputable def r118 (call : CallF) (fuel base : Nat) (x0 : Value) (x1 : Value) (m : M) : Res2 :=
  (k1 (mbin E .lss 3 x1 (.int .i64 0)) fun v6_1 => (kb v6_1 none (k2 (vcall E.P base m .cap [33] [x0]) fun v10_2 m => (k2 (vcall E.P base m .len [33] [x0]) fun v12_3 m => (k1 (mbin E .sub 3 v10_2 v12_3) fun v13_4 => (k1 (mbin E .sub 3 x1 v13_4) fun v14_5 => (k1 (mbin E .gtr 3 v14_5 (.int .i64 0)) fun v16_6 => (kb v16_6 (k2 (vcall E.P base m .cap [33] [x0]) fun v19_7 m => (k1 (mslice E.P m 33 x0 none (some v19_7) none) fun v20_8 => (k2 (vcall E.P base m .append [33, 3] [v20_8, v14_5]) fun v22_9 m => (k2 (vcall E.P base m .len [33] [x0]) fun v24_10 m => (k1 (mslice E.P m 33 v22_9 none (some v24_10) none) fun v25_11 => (fVal v25_11 fun v => some (.ret v, m))))))) (fVal x0 fun v => some (.ret v, m))))))))))
def keep118 : Keep := { region := fun i => ([[0, 1], [0, 1, 6], [0, 1], [0, 1], [0, 1, 16], [0], [4]] : List (List Nat))[i]?, exit := fun i => ([] : List (List Nat))[i]?, ret := some [4] }
noncomputable def lp118 (call : CallF) (fuel base : Nat) : Lp := lpsel []
noncomputable def c118 : Code := Try.f118.body.getD .skip
theorem r118_eq (call : CallF) (fuel base : Nat) (x0 : Value) (x1 : Value) (m : M) : kbody E call keep118 (lp118 call fuel base) base Try.f118 [x0, x1] m = r118 call fuel base x0 x1 m := by
  kernel_rfl
noncomputable def rf118 : RF := fun call fuel base args m => match args with
  | [x0, x1] => r118 call fuel base x0 x1 m
  | _ => none
theorem r118_lk (call : CallF) (fuel base : Nat) : LoopsOk E call (lp118 call fuel base) fuel base 0 c118 = (And True (And (And True (And True True)) (And (And True (And True (And True True))) (And True True)))) := by kernel_rfl
theorem r118_fn : E.P.funcs[118]? = some Try.f118 := by kernel_rfl
theorem r118_body : Try.f118.body = some c118 := by kernel_rfl
theorem rf118_ok : RFok E 118 rf118 := by
  refine ⟨Try.f118, r118_fn, fun call fuel base args m r _ h => ?_⟩
  unfold rf118 at h
  split at h
  · rw [← r118_eq] at h
    exact kbody_sound (c := c118) r118_body (Eq.mpr (r118_lk call fuel base) (And.intro trivial (And.intro (And.intro trivial (And.intro trivial trivial)) (And.intro (And.intro trivial (And.intro trivial (And.intro trivial trivial))) (And.intro trivial trivial))))) h
  · simp at h
end Go.AM
namespace Go.AM
open Go Go.Proofs
noncomputable def r121 (call : CallF) (fuel base : Nat) (x0 : Value) (m : M) : Res2 :=
  (k1 (mbin E .neq 3 x0 x0) fun v5_1 => (fVal v5_1 fun v => some (.ret v, m)))
def keep121 : Keep := { region := fun i => ([[0], [2]] : List (List Nat))[i]?, exit := fun i => ([] : List (List Nat))[i]?, ret := some [2] }
noncomputable def lp121 (call : CallF) (fuel base : Nat) : Lp := lpsel []
noncomputable def c121 : Code := Try.f121.body.getD .skip
theorem r121_eq (call : CallF) (fuel base : Nat) (x0 : Value) (m : M) : kbody E call keep121 (lp121 call fuel base) base Try.f121 [x0] m = r121 call fuel base x0 m := by
  kernel_rfl
noncomputable def rf121 : RF := fun call fuel base args m => match args with
  | [x0] => r121 call fuel base x0 m
  | _ => none
theorem r121_lk (call : CallF) (fuel base : Nat) : LoopsOk E call (lp121 call fuel base) fuel base 0 c121 = (And True (And True True)) := by kernel_rfl
theorem r121_fn : E.P.funcs[121]? = some Try.f121 := by kernel_rfl
theorem r121_body : Try.f121.body = some c121 := by kernel_rfl
theorem rf121_ok : RFok E 121 rf121 := by
  refine ⟨Try.f121, r121_fn, fun call fuel base args m r _ h => ?_⟩
  unfold rf121 at h
  split at h
  · rw [← r121_eq] at h
    exact kbody_sound (c := c121) r121_body (Eq.mpr (r121_lk call fuel base) (And.intro trivial (And.intro trivial trivial))) h
  · simp at h
end Go.AM
namespace Go.AM
open Go Go.Proofs
noncomputable def r122_L2 (call : CallF) (fuel base : Nat) (kp : Value → M → Res2) (kx2 : Value → Value → Value → Value → Value → M → Res2) (n : Nat) : Value → Value → Value → Value → Value → Value → Value → Value → Value → M → Res2 :=
  Nat.rec (motive := fun _ => Value → Value → Value → Value → Value → Value → Value → Value → Value → M → Res2) (fun _ _ _ _ _ _ _ _ _ _ => none)
    (fun _ ih x0 x2 x7 x11 x12 x13 x23 x24 x25 m =>
      (k1 (mbin E .lss 3 x25 x24) fun v26_11 => (kb v26_11 (k1 (mindexAddr E.P 33 x23 x25) fun v27_12 => (k1 (xload E.P m 3 v27_12) fun v28_13 => (k1 (mindexAddr E.P 33 x2 v28_13) fun v33_14 => (k1 (xload E.P m 3 v33_14) fun v34_15 => (kc (call base 99 [v34_15, x7] m) (fun v36_16 m => (k1 (mindexAddr E.P 33 x2 v28_13) fun v37_17 => (ks (xstore E.P base m 3 v37_17 v36_16) fun m => (k1 (mbin E .add 3 x25 (.int .i64 1)) fun v38_18 => (ih x0 x2 x7 x11 x12 x13 x23 x24 v38_18 m))))) (fun v m => kp v m)))))) (kx2 x0 x2 x11 x12 x13 m)))) n
noncomputable def r122_L0 (call : CallF) (fuel base : Nat) (kp : Value → M → Res2) (kx0 : M → Res2) (n : Nat) : Value → Value → Value → Value → Value → M → Res2 :=
  Nat.rec (motive := fun _ => Value → Value → Value → Value → Value → M → Res2) (fun _ _ _ _ _ _ => none)
    (fun _ ih x0 x2 x11 x12 x13 m =>
      (k1 (mbin E .lss 3 x13 x12) fun v14_3 => (kb v14_3 (k1 (mindexAddr E.P 33 x11 x13) fun v16_4 => (k1 (xload E.P m 3 v16_4) fun v17_5 => (k1 (mbin E .eql 3 v17_5 (.int .i64 0)) fun v19_6 => (kb v19_6 (k1 (mbin E .add 3 x13 (.int .i64 1)) fun v39_7 => (ih x0 x2 x11 x12 v39_7 m)) (k1 (mindexAddr E.P 103 x0 x13) fun v22_8 => (k1 (xload E.P m 33 v22_8) fun v23_9 => (k2 (vcall E.P base m .len [33] [v23_9]) fun v24_10 m => (r122_L2 call fuel base (fun v m => kp v m) (fun y0_19 y2_20 y11_21 y12_22 y13_23 m => (k1 (mbin E .add 3 y13_23 (.int .i64 1)) fun v39_24 => (ih y0_19 y2_20 y11_21 y12_22 v39_24 m))) fuel x0 x2 v17_5 x11 x12 x13 v23_9 v24_10 (.int .i64 0) m)))))))) (kx0 m)))) n
noncomputable def r122 (call : CallF) (fuel base : Nat) (x0 : Value) (x1 : Value) (x2 : Value) (m : M) : Res2 :=
  (k2 (vcall E.P base m .clear [33] [x2]) fun vNone_1 m => (k2 (vcall E.P base m .len [33] [x1]) fun v12_2 m => (r122_L0 call fuel base (fun v m => some (.pan v, m)) (fun m => (some (.ret (.tuple #[]), m))) fuel x0 x2 x1 v12_2 (.int .i64 0) m)))
def keep122 : Keep := { region := fun i => ([[0, 1, 2], [0, 2, 11, 12, 13], [0, 2, 11, 12, 13, 14], [0, 2, 6, 7, 11, 12, 13], [0, 2, 6, 7, 11, 12, 13, 19], [0, 2, 7, 11, 12, 13, 23, 24, 25], [0, 2, 7, 11, 12, 13, 23, 24, 25, 26], [0, 2, 7, 9, 11, 12, 13, 23, 24, 25], [0, 2, 7, 11, 12, 13, 23, 24, 25], [0, 2, 7, 11, 12, 13, 23, 24, 25], [0, 2, 11, 12, 13]] : List (List Nat))[i]?, exit := fun i => ([[], [0, 2, 11, 12, 13], [0, 2, 11, 12, 13], [0, 2, 7, 11, 12, 13, 23, 24, 25]] : List (List Nat))[i]?, ret := some [] }
noncomputable def r122_L2_R (call : CallF) (fuel base n : Nat) (vs : List Value) (m : M) (K : KT) : Res2 := match vs with
  | [x0, x2, x7, x11, x12, x13, x23, x24, x25] => r122_L2 call fuel base (fun v m => K (.pan v) { n := 40, l := [] } m) (fun y0 y2 y11 y12 y13 m => K (.exit 2) { n := 40, l := [(0, y0), (2, y2), (11, y11), (12, y12), (13, y13)] } m) n x0 x2 x7 x11 x12 x13 x23 x24 x25 m
  | _ => none
noncomputable def r122_L0_R (call : CallF) (fuel base n : Nat) (vs : List Value) (m : M) (K : KT) : Res2 := match vs with
  | [x0, x2, x11, x12, x13] => r122_L0 call fuel base (fun v m => K (.pan v) { n := 40, l := [] } m) (fun m => K (.exit 0) { n := 40, l := [] } m) n x0 x2 x11 x12 x13 m
  | _ => none
noncomputable def lp122 (call : CallF) (fuel base : Nat) : Lp := lpsel [(2, fun T m K => kslots 40 [0, 2, 7, 11, 12, 13, 23, 24, 25] T fun vs => r122_L2_R call fuel base fuel vs m K), (0, fun T m K => kslots 40 [0, 2, 11, 12, 13] T fun vs => r122_L0_R call fuel base fuel vs m K)]
noncomputable def c122 : Code := Try.f122.body.getD .skip
theorem r122_L2_lk (call : CallF) (fuel base : Nat) : LoopsOk E call (lp122 call fuel base) fuel base 2 (loopB (blockB (seqR (seqR (seqR (blockB (seqL (seqR (seqR (loopB (blockB (seqR (seqR c122))))))))))))) = (And True (And (And True True) (And (And True True) True))) := by kernel_rfl
theorem r122_L2_ok (call : CallF) (fuel base : Nat) : LpOk E call (lp122 call fuel base) fuel base 2 (loopB (blockB (seqR (seqR (seqR (blockB (seqL (seqR (seqR (loopB (blockB (seqR (seqR c122))))))))))))) := by
  refine loop_ok (kp := keep122) (hb := Eq.mpr (r122_L2_lk call fuel base) (And.intro trivial (And.intro (And.intro trivial trivial) (And.intro (And.intro trivial trivial) trivial)))) 40 [0, 2, 7, 11, 12, 13, 23, 24, 25] (fun n vs m K => r122_L2_R call fuel base n vs m K) ?_ ?_ (fun _ _ _ => rfl)
  · intro vs m K
    unfold r122_L2_R
    split <;> rfl
  · intro n vs m K hl
    match vs, hl with
    | [x0, x2, x7, x11, x12, x13, x23, x24, x25], _ => show _ = _; kernel_rfl
theorem r122_L0_lk (call : CallF) (fuel base : Nat) : LoopsOk E call (lp122 call fuel base) fuel base 0 (loopB (blockB (seqR (seqR c122)))) = (And True (And (And True True) (And (And True (And (And True (And True True)) (And True (LpOk E call (lp122 call fuel base) fuel base 2 (loopB (blockB (seqR (seqR (seqR (blockB (seqL (seqR (seqR (loopB (blockB (seqR (seqR c122))))))))))))))))) True))) := by kernel_rfl
theorem r122_L0_ok (call : CallF) (fuel base : Nat) : LpOk E call (lp122 call fuel base) fuel base 0 (loopB (blockB (seqR (seqR c122)))) := by
  refine loop_ok (kp := keep122) (hb := Eq.mpr (r122_L0_lk call fuel base) (And.intro trivial (And.intro (And.intro trivial trivial) (And.intro (And.intro trivial (And.intro (And.intro trivial (And.intro trivial trivial)) (And.intro trivial (r122_L2_ok call fuel base)))) trivial)))) 40 [0, 2, 11, 12, 13] (fun n vs m K => r122_L0_R call fuel base n vs m K) ?_ ?_ (fun _ _ _ => rfl)
  · intro vs m K
    unfold r122_L0_R
    split <;> rfl
  · intro n vs m K hl
    match vs, hl with
    | [x0, x2, x11, x12, x13], _ => show _ = _; kernel_rfl
theorem r122_eq (call : CallF) (fuel base : Nat) (x0 : Value) (x1 : Value) (x2 : Value) (m : M) : kbody E call keep122 (lp122 call fuel base) base Try.f122 [x0, x1, x2] m = r122 call fuel base x0 x1 x2 m := by
  kernel_rfl
noncomputable def rf122 : RF := fun call fuel base args m => match args with
  | [x0, x1, x2] => r122 call fuel base x0 x1 x2 m
  | _ => none
theorem r122_lk (call : CallF) (fuel base : Nat) : LoopsOk E call (lp122 call fuel base) fuel base 0 c122 = (And True (And True (LpOk E call (lp122 call fuel base) fuel base 0 (loopB (blockB (seqR (seqR c122))))))) := by kernel_rfl
theorem r122_fn : E.P.funcs[122]? = some Try.f122 := by kernel_rfl
theorem r122_body : Try.f122.body = some c122 := by kernel_rfl
theorem rf122_ok : RFok E 122 rf122 := by
  refine ⟨Try.f122, r122_fn, fun call fuel base args m r _ h => ?_⟩
  unfold rf122 at h
  split at h
  · rw [← r122_eq] at h
    exact kbody_sound (c := c122) r122_body (Eq.mpr (r122_lk call fuel base) (And.intro trivial (And.intro trivial (r122_L0_ok call fuel base)))) h
  · simp at h
end Go.AM
namespace Go.AM
open Go Go.Proofs
noncomputable def tab : List (Nat × RF) := [(11, rf11), (16, rf16), (25, rf25), (28, rf28), (30, rf30), (31, rf31), (32, rf32), (40, rf40), (41, rf41), (42, rf42), (48, rf48), (52, rf52), (58, rf58), (59, rf59), (60, rf60), (61, rf61), (62, rf62), (66, rf66), (67, rf67), (68, rf68), (69, rf69), (73, rf73), (74, rf74), (75, rf75), (76, rf76), (80, rf80), (81, rf81), (82, rf82), (84, rf84), (91, rf91), (92, rf92), (93, rf93), (94, rf94), (95, rf95), (96, rf96), (97, rf97), (98, rf98), (99, rf99), (102, rf102), (103, rf103), (104, rf104), (105, rf105), (106, rf106), (107, rf107), (108, rf108), (112, rf112), (114, rf114), (115, rf115), (116, rf116), (117, rf117), (118, rf118), (121, rf121), (122, rf122)]
theorem tab_ok : ∀ p ∈ tab, RFok E p.1 p.2 := by
  unfold tab
  simp only [List.mem_cons, forall_eq_or_imp, List.not_mem_nil, false_imp_iff, implies_true, and_true]
  exact ⟨rf11_ok, rf16_ok, rf25_ok, rf28_ok, rf30_ok, rf31_ok, rf32_ok, rf40_ok, rf41_ok, rf42_ok, rf48_ok, rf52_ok, rf58_ok, rf59_ok, rf60_ok, rf61_ok, rf62_ok, rf66_ok, rf67_ok, rf68_ok, rf69_ok, rf73_ok, rf74_ok, rf75_ok, rf76_ok, rf80_ok, rf81_ok, rf82_ok, rf84_ok, rf91_ok, rf92_ok, rf93_ok, rf94_ok, rf95_ok, rf96_ok, rf97_ok, rf98_ok, rf99_ok, rf102_ok, rf103_ok, rf104_ok, rf105_ok, rf106_ok, rf107_ok, rf108_ok, rf112_ok, rf114_ok, rf115_ok, rf116_ok, rf117_ok, rf118_ok, rf121_ok, rf122_ok⟩
noncomputable def rc (n : Nat) : CallF := rcall E.pure tab n
end Go.AM
namespace Go.AM
open Go Go.Proofs
abbrev nilS : Value := .slice none 0 0
def k1n (o : Option Value) (k : Value → Res2) : Res2 := match o with
  | some r => k r
  | none => none
theorem k1_fun : k1 = k1n := by
  funext o k
  cases o with
  | none => rfl
  | some r => exact fVal_eq r k
theorem fVal_fun : (@fVal Res2 : Value → (Value → Res2) → Res2) = fun v k => k v := by
  funext v k
  exact fVal_eq v k
noncomputable def vcalln (P : Program) (base : Nat) (m : M) (b : Builtin) (tys : List TypeId) (vs : List Value) : Option (Value × M) := match b with
  | .len => match tys, vs with
    | t :: _, [x] => match mlen P t x with
      | some r => some (r, m)
      | none => none
    | _, _ => none
  | .min => match vs with
    | x :: xs => match mfold mmin2 x xs with
      | some r => some (r, m)
      | none => none
    | _ => none
  | .max => match vs with
    | x :: xs => match mfold mmax2 x xs with
      | some r => some (r, m)
      | none => none
    | _ => none
  | b => xbuiltin P base m b tys vs
theorem vcall_fun : vcall = vcalln := by
  funext P base m b tys vs
  unfold vcall vcalln
  cases b <;> first
    | rfl
    | (simp only [xbuiltin, obuiltin, fVal_eq]; done)
    | (simp only [xbuiltin, obuiltin, fVal_eq]; rfl)
def vi (n : Int) : Value := .int .i64 n
def rowz (z : Nat) (ex : Bool) (cs : List Value) : Row := { esz := z, ex := ex, ro := false, cells := cs }
abbrev sl (p N : Nat) : Value := .slice (some ⟨p, 0, none⟩) N N
abbrev pt (p off : Nat) : Value := .pointer (some ⟨p, off, none⟩)
/-- A slice that grows: nil while it has nothing, else a row of its own. -/
def Grow (z b : Nat) (m : M) (v : Value) (cs : List Value) (n : Nat) : Prop :=
  (n = 0 ∧ v = .slice none 0 0 ∧ cs = []) ∨ ∃ r, 1 ≤ n ∧ b ≤ r ∧ v = sl r n ∧ m[r]? = some (rowz z false cs) ∧ cs.length = n * z
def Keeps (n : Nat) (m m' : M) : Prop := m.length ≤ m'.length ∧ ∀ i, i < n → m'[i]? = m[i]?
theorem Keeps.refl (n : Nat) (m : M) : Keeps n m m := ⟨Nat.le_refl _, fun _ _ => rfl⟩
theorem Keeps.trans {n : Nat} {a b c : M} (h : Keeps n a b) (k : Keeps n b c) : Keeps n a c := ⟨Nat.le_trans h.1 k.1, fun i hi => (k.2 i hi).trans (h.2 i hi)⟩
theorem Keeps.mono {n k : Nat} {a b : M} (h : Keeps n a b) (hk : k ≤ n) : Keeps k a b := ⟨h.1, fun i hi => h.2 i (by omega)⟩
theorem Keeps.push (n : Nat) (m : M) (h : n ≤ m.length) (x : List Row) : Keeps n m (m ++ x) := ⟨by simp, fun i hi => List.getElem?_append_left (by omega)⟩
theorem Keeps.set (n : Nat) (m : M) (r : Nat) (row : Row) (h : n ≤ r) : Keeps n m (m.set r row) := ⟨by simp, fun i hi => List.getElem?_set_ne (by omega)⟩
abbrev wr (n : Int) : Int := IntKind.i64.wrap n
def cellR (cs : List Value) : Row := { esz := 0, ex := true, ro := false, cells := cs }
theorem wr_id {n : Int} (h0 : -4611686018427387904 ≤ n) (h1 : n ≤ 4611686018427387904) : wr n = n := by
  unfold wr IntKind.wrap
  simp [IntKind.bits, IntKind.signed]
  omega
theorem wr_succ (j : Nat) (h : j ≤ 1000000) : wr ((j : Int) + 1) = ((j + 1 : Nat) : Int) := (wr_id (by omega) (by omega)).trans (by omega)
theorem lss_nat (i j : Nat) : mbin E .lss 3 (vi i) (vi j) = some (.bool (decide (i < j))) := by
  have e : mbin E .lss 3 (vi i) (vi j) = some (.bool (decide ((i : Int) < j))) := rfl
  rw [e]
  congr 2
  exact decide_eq_decide.2 (by omega)
theorem splice_one (cs : List Value) (off : Nat) (v : Value) (h : off < cs.length) : splice cs off [v] = cs.set off v := by
  unfold splice
  rw [List.set_eq_take_append_cons_drop, if_pos h]
  simp
theorem mwrite_one {base : Nat} {m : M} {p off : Nat} {v : Value} {row : Row} (hb : base ≤ p) (hr : m[p]? = some row) (hro : row.ro = false) (ho : off < row.cells.length) (hv : v.oneCell' = true) :
    mwrite base m p off [v] = some (m.set p { row with cells := row.cells.set off v }) := by
  unfold mwrite
  rw [if_neg (by omega), hr]
  simp only [hro, Bool.false_eq_true, if_false, List.length_cons, List.length_nil, List.all_cons, List.all_nil, hv, Bool.and_self, if_true]
  rw [if_pos (by omega), splice_one _ _ _ ho, fList_eq, fList_eq]
theorem add1 (j : Nat) (h : j ≤ 1000000) : mbin E .add 3 (vi j) (.int .i64 1) = some (vi ((j + 1 : Nat) : Int)) := by
  have e : mbin E .add 3 (vi j) (.int .i64 1) = some (vi (wr ((j : Int) + 1))) := rfl
  rw [e, wr_succ j h]
theorem kB_same (m : M) (v : Value) : kB m (some (.ret v, m)) = some (.ret v, m) := by
  simp only [kB, List.drop_length, List.append_nil, fList_eq]
theorem k2s (a : Value) (m : M) (k : Value → M → Res2) : k2 (some (a, m)) k = k a m := Eq.trans rfl rfl
theorem k1s (a : Value) (k : Value → Res2) : k1n (some a) k = k a := Eq.trans rfl rfl
theorem kss (m : M) (k : M → Res2) : ks (some m) k = k m := Eq.trans rfl rfl
theorem kcs (a : Value) (m : M) (k p : Value → M → Res2) : kc (some (.ret a, m)) k p = k a m := Eq.trans rfl rfl
theorem kbt (t f : Res2) : kb (.bool true) t f = t := Eq.trans rfl rfl
theorem kbf (t f : Res2) : kb (.bool false) t f = f := Eq.trans rfl rfl
theorem k0s (a : Value) (k : Value → Res2) : k0 (some a) k = k a := Eq.trans rfl rfl
theorem box_cell {m : M} {q : Nat} {cs : List Value} (h : m[q]? = some (cellR cs)) (j : Nat) (v : Value) (hv : cs[j]? = some v) : mcell m q j = some v := by
  unfold mcell
  rw [h]
  exact hv
theorem bxa2 (m : M) (a0 a1 : Value) : xbox m (.agg #[a0, a1]) = some (pt m.length 0, m ++ [cellR [a0, a1]]) := by
  have e : xbox m (.agg #[a0, a1]) = xlen m fun k => xpush m (cellR [a0, a1]) fun m' => some (pt k 0, m') := by kernel_rfl
  rw [e, xlen_eq, fNat_eq, xpush_eq, fList_eq]
theorem bxa4 (m : M) (a0 a1 a2 a3 : Value) : xbox m (.agg #[a0, a1, a2, a3]) = some (pt m.length 0, m ++ [cellR [a0, a1, a2, a3]]) := by
  have e : xbox m (.agg #[a0, a1, a2, a3]) = xlen m fun k => xpush m (cellR [a0, a1, a2, a3]) fun m' => some (pt k 0, m') := by kernel_rfl
  rw [e, xlen_eq, fNat_eq, xpush_eq, fList_eq]
theorem rem3 (a b : Int) (h : b ≠ 0) : mbin E .rem 3 (vi a) (vi b) = some (vi (a.tmod b)) := by
  have e : mbin E .rem 3 (vi a) (vi b) = if b = 0 then none else some (vi (a.tmod b)) := by kernel_rfl
  rw [e, if_neg h]
theorem quo3 (a b : Int) (h : b ≠ 0) : mbin E .quo 3 (vi a) (vi b) = some (vi (wr (a.tdiv b))) := by
  have e : mbin E .quo 3 (vi a) (vi b) = if b = 0 then none else some (vi (wr (a.tdiv b))) := by kernel_rfl
  rw [e, if_neg h]
theorem add3 (a b : Int) : mbin E .add 3 (vi a) (vi b) = some (vi (wr (a + b))) := by kernel_rfl
theorem sub3 (a b : Int) : mbin E .sub 3 (vi a) (vi b) = some (vi (wr (a - b))) := by kernel_rfl
theorem mul3 (a b : Int) : mbin E .mul 3 (vi a) (vi b) = some (vi (wr (a * b))) := by kernel_rfl
theorem lss3 (a b : Int) : mbin E .lss 3 (vi a) (vi b) = some (.bool (decide (a < b))) := by kernel_rfl
theorem leq3 (a b : Int) : mbin E .leq 3 (vi a) (vi b) = some (.bool (decide (a ≤ b))) := by kernel_rfl
theorem gtr3 (a b : Int) : mbin E .gtr 3 (vi a) (vi b) = some (.bool (decide (a > b))) := by kernel_rfl
theorem geq3 (a b : Int) : mbin E .geq 3 (vi a) (vi b) = some (.bool (decide (a ≥ b))) := by kernel_rfl
theorem eql3 (a b : Int) : mbin E .eql 3 (vi a) (vi b) = some (.bool (decide (a = b))) := by
  have e : mbin E .eql 3 (vi a) (vi b) = some (.bool (a == b)) := by kernel_rfl
  rw [e]; congr 2
theorem eql26 (a b : Int) : mbin E .eql 26 (vi a) (vi b) = some (.bool (decide (a = b))) := by
  have e : mbin E .eql 26 (vi a) (vi b) = some (.bool (a == b)) := by kernel_rfl
  rw [e]; congr 2
theorem neq26 (a b : Int) : mbin E .neq 26 (vi a) (vi b) = some (.bool (!decide (a = b))) := by
  have e : mbin E .neq 26 (vi a) (vi b) = some (.bool (!(a == b))) := by kernel_rfl
  rw [e]; congr 2
theorem not4 (b : Bool) : mun .not (.bool b) = some (.bool !b) := by kernel_rfl
theorem ld3 (m : M) (r off : Nat) : xload E.P m 3 (pt r off) = mcell m r off := by
  have e : xload E.P m 3 (pt r off) = xcell m r off := by kernel_rfl
  rw [e, xcell_eq]
theorem st3 (base : Nat) (m : M) (p off : Nat) (x : Int) : xstore E.P base m 3 (pt p off) (vi x) = mwrite base m p off [(vi x)] := by
  have e : xstore E.P base m 3 (pt p off) (vi x) = xwrite base m p off [(vi x)] := by kernel_rfl
  rw [e, xwrite_eq]
theorem ld33 (m : M) (r off : Nat) : xload E.P m 33 (pt r off) = mcell m r off := by
  have e : xload E.P m 33 (pt r off) = xcell m r off := by kernel_rfl
  rw [e, xcell_eq]
theorem st33 (base : Nat) (m : M) (p off q l c : Nat) : xstore E.P base m 33 (pt p off) (.slice (some ⟨q, 0, none⟩) l c) = mwrite base m p off [.slice (some ⟨q, 0, none⟩) l c] := by
  have e : xstore E.P base m 33 (pt p off) (.slice (some ⟨q, 0, none⟩) l c) = xwrite base m p off [.slice (some ⟨q, 0, none⟩) l c] := by kernel_rfl
  rw [e, xwrite_eq]
theorem al45 (m : M) : xalloc E.P m 45 = some (pt m.length 0, m ++ [cellR [.int .i64 0, .int .i64 0, .int .i64 0, .int .i64 0]]) := by
  have e : xalloc E.P m 45 = xlen m fun n => xpush m (cellR [.int .i64 0, .int .i64 0, .int .i64 0, .int .i64 0]) fun m' => some (pt n 0, m') := by kernel_rfl
  rw [e, xlen_eq, fNat_eq, xpush_eq, fList_eq]
theorem ld45 {m : M} {r : Nat} {row : Row} {off : Nat} (h : m[r]? = some row) (hl : off + 4 ≤ row.cells.length) : xload E.P m 45 (pt r off) = some (.agg ((row.cells.drop off).take 4).toArray) := by
  have e : xload E.P m 45 (pt r off) = (xread m r off 4).map fun cs => .agg cs.toArray := by kernel_rfl
  rw [e, xread_eq]
  unfold mread
  rw [h]
  simp only
  rw [if_pos hl]
  rfl
theorem ldb45 {m : M} {r : Nat} {a0 a1 a2 a3 : Value} (h : m[r]? = some (cellR [a0, a1, a2, a3])) : xload E.P m 45 (pt r 0) = some (.agg #[a0, a1, a2, a3]) := ld45 h (by simp [cellR])
theorem st45 {base : Nat} {m : M} {p : Nat} (hb : base ≤ p) {a0 a1 a2 a3 b0 b1 b2 b3 : Value} (h : m[p]? = some (cellR [b0, b1, b2, b3])) (hone : ([a0, a1, a2, a3] : List Value).all (·.oneCell') = true) : xstore E.P base m 45 (pt p 0) (.agg #[a0, a1, a2, a3]) = some (m.set p (cellR [a0, a1, a2, a3])) := by
  have e : xstore E.P base m 45 (pt p 0) (.agg #[a0, a1, a2, a3]) = xwrite base m p 0 [a0, a1, a2, a3] := by kernel_rfl
  rw [e, xwrite_eq]
  unfold mwrite
  rw [if_neg (by omega), h]
  simp only [cellR, splice, fList_eq, Bool.false_eq_true, if_false, hone, if_true]
  simp
theorem ff45_0 (p o : Nat) : mfieldAddr E.P 45 (pt p o) 0 = some (pt p (o + 0)) := by kernel_rfl
theorem ff45_1 (p o : Nat) : mfieldAddr E.P 45 (pt p o) 1 = some (pt p (o + 1)) := by kernel_rfl
theorem ff45_2 (p o : Nat) : mfieldAddr E.P 45 (pt p o) 2 = some (pt p (o + 2)) := by kernel_rfl
theorem ff45_3 (p o : Nat) : mfieldAddr E.P 45 (pt p o) 3 = some (pt p (o + 3)) := by kernel_rfl
theorem ld69 {m : M} {r : Nat} {row : Row} {off : Nat} (h : m[r]? = some row) (hl : off + 3 ≤ row.cells.length) : xload E.P m 69 (pt r off) = some (.agg ((row.cells.drop off).take 3).toArray) := by
  have e : xload E.P m 69 (pt r off) = (xread m r off 3).map fun cs => .agg cs.toArray := by kernel_rfl
  rw [e, xread_eq]
  unfold mread
  rw [h]
  simp only
  rw [if_pos hl]
  rfl
theorem al76 (m : M) : xalloc E.P m 76 = some (pt m.length 0, m ++ [cellR [.int .i64 0, .slice none 0 0]]) := by
  have e : xalloc E.P m 76 = xlen m fun n => xpush m (cellR [.int .i64 0, .slice none 0 0]) fun m' => some (pt n 0, m') := by kernel_rfl
  rw [e, xlen_eq, fNat_eq, xpush_eq, fList_eq]
theorem ld76 {m : M} {r : Nat} {row : Row} {off : Nat} (h : m[r]? = some row) (hl : off + 2 ≤ row.cells.length) : xload E.P m 76 (pt r off) = some (.agg ((row.cells.drop off).take 2).toArray) := by
  have e : xload E.P m 76 (pt r off) = (xread m r off 2).map fun cs => .agg cs.toArray := by kernel_rfl
  rw [e, xread_eq]
  unfold mread
  rw [h]
  simp only
  rw [if_pos hl]
  rfl
theorem ldb76 {m : M} {r : Nat} {a0 a1 : Value} (h : m[r]? = some (cellR [a0, a1])) : xload E.P m 76 (pt r 0) = some (.agg #[a0, a1]) := ld76 h (by simp [cellR])
theorem ml76 {m : M} {r : Nat} {a0 a1 : Value} (h : m[r]? = some (cellR [a0, a1])) : mload E.P m 76 (pt r 0) = some (.agg #[a0, a1]) := by
  have e : mload E.P m 76 (pt r 0) = (mread m r 0 2).map fun cs => .agg cs.toArray := by kernel_rfl
  rw [e]
  unfold mread
  rw [h]
  rfl
theorem st76 {base : Nat} {m : M} {p : Nat} (hb : base ≤ p) {a0 a1 b0 b1 : Value} (h : m[p]? = some (cellR [b0, b1])) (hone : ([a0, a1] : List Value).all (·.oneCell') = true) : xstore E.P base m 76 (pt p 0) (.agg #[a0, a1]) = some (m.set p (cellR [a0, a1])) := by
  have e : xstore E.P base m 76 (pt p 0) (.agg #[a0, a1]) = xwrite base m p 0 [a0, a1] := by kernel_rfl
  rw [e, xwrite_eq]
  unfold mwrite
  rw [if_neg (by omega), h]
  simp only [cellR, splice, fList_eq, Bool.false_eq_true, if_false, hone, if_true]
  simp
theorem ff76_0 (p o : Nat) : mfieldAddr E.P 76 (pt p o) 0 = some (pt p (o + 0)) := by kernel_rfl
theorem ff76_1 (p o : Nat) : mfieldAddr E.P 76 (pt p o) 1 = some (pt p (o + 1)) := by kernel_rfl
theorem al109 (m : M) : xalloc E.P m 109 = some (pt m.length 0, m ++ [cellR [.int .i64 0, .int .i64 0, .int .i64 0, .int .i64 0, .int .i64 0, .int .i64 0, .int .i64 0, .int .i64 0]]) := by
  have e : xalloc E.P m 109 = xlen m fun n => xpush m (cellR [.int .i64 0, .int .i64 0, .int .i64 0, .int .i64 0, .int .i64 0, .int .i64 0, .int .i64 0, .int .i64 0]) fun m' => some (pt n 0, m') := by kernel_rfl
  rw [e, xlen_eq, fNat_eq, xpush_eq, fList_eq]
theorem ld109 {m : M} {r : Nat} {row : Row} {off : Nat} (h : m[r]? = some row) (hl : off + 8 ≤ row.cells.length) : xload E.P m 109 (pt r off) = some (.agg ((row.cells.drop off).take 8).toArray) := by
  have e : xload E.P m 109 (pt r off) = (xread m r off 8).map fun cs => .agg cs.toArray := by kernel_rfl
  rw [e, xread_eq]
  unfold mread
  rw [h]
  simp only
  rw [if_pos hl]
  rfl
theorem ldb109 {m : M} {r : Nat} {a0 a1 a2 a3 a4 a5 a6 a7 : Value} (h : m[r]? = some (cellR [a0, a1, a2, a3, a4, a5, a6, a7])) : xload E.P m 109 (pt r 0) = some (.agg #[a0, a1, a2, a3, a4, a5, a6, a7]) := ld109 h (by simp [cellR])
theorem ml109 {m : M} {r : Nat} {a0 a1 a2 a3 a4 a5 a6 a7 : Value} (h : m[r]? = some (cellR [a0, a1, a2, a3, a4, a5, a6, a7])) : mload E.P m 109 (pt r 0) = some (.agg #[a0, a1, a2, a3, a4, a5, a6, a7]) := by
  have e : mload E.P m 109 (pt r 0) = (mread m r 0 8).map fun cs => .agg cs.toArray := by kernel_rfl
  rw [e]
  unfold mread
  rw [h]
  rfl
theorem st109 {base : Nat} {m : M} {p : Nat} (hb : base ≤ p) {a0 a1 a2 a3 a4 a5 a6 a7 b0 b1 b2 b3 b4 b5 b6 b7 : Value} (h : m[p]? = some (cellR [b0, b1, b2, b3, b4, b5, b6, b7])) (hone : ([a0, a1, a2, a3, a4, a5, a6, a7] : List Value).all (·.oneCell') = true) : xstore E.P base m 109 (pt p 0) (.agg #[a0, a1, a2, a3, a4, a5, a6, a7]) = some (m.set p (cellR [a0, a1, a2, a3, a4, a5, a6, a7])) := by
  have e : xstore E.P base m 109 (pt p 0) (.agg #[a0, a1, a2, a3, a4, a5, a6, a7]) = xwrite base m p 0 [a0, a1, a2, a3, a4, a5, a6, a7] := by kernel_rfl
  rw [e, xwrite_eq]
  unfold mwrite
  rw [if_neg (by omega), h]
  simp only [cellR, splice, fList_eq, Bool.false_eq_true, if_false, hone, if_true]
  simp
theorem ff109_0 (p o : Nat) : mfieldAddr E.P 109 (pt p o) 0 = some (pt p (o + 0)) := by kernel_rfl
theorem ff109_1 (p o : Nat) : mfieldAddr E.P 109 (pt p o) 1 = some (pt p (o + 4)) := by kernel_rfl
theorem ff109_2 (p o : Nat) : mfieldAddr E.P 109 (pt p o) 2 = some (pt p (o + 5)) := by kernel_rfl
theorem ff109_3 (p o : Nat) : mfieldAddr E.P 109 (pt p o) 3 = some (pt p (o + 6)) := by kernel_rfl
theorem ff109_4 (p o : Nat) : mfieldAddr E.P 109 (pt p o) 4 = some (pt p (o + 7)) := by kernel_rfl
theorem ix33 (p l c j : Nat) (h : j < l) : mindexAddr E.P 33 (.slice (some ⟨p, 0, none⟩) l c) (vi j) = some (pt p j) := by
  have e : mindexAddr E.P 33 (.slice (some ⟨p, 0, none⟩) l c) (vi j) = if 0 ≤ (j : Int) ∧ (j : Int) < l then some (.pointer (some ⟨p, 0 + ((j : Int)).toNat * 1, none⟩)) else none := by kernel_rfl
  rw [e, if_pos (by omega)]
  simp
theorem len33 (base : Nat) (m : M) (o l c : Nat) : vcalln E.P base m .len [33] [.slice (some ⟨o, 0, none⟩) l c] = some (vi l, m) := by kernel_rfl
theorem len33n (base : Nat) (m : M) : vcalln E.P base m .len [33] [nilS] = some (vi 0, m) := by kernel_rfl
theorem ix23 (p l c j : Nat) (h : j < l) : mindexAddr E.P 23 (.slice (some ⟨p, 0, none⟩) l c) (vi j) = some (pt p j) := by
  have e : mindexAddr E.P 23 (.slice (some ⟨p, 0, none⟩) l c) (vi j) = if 0 ≤ (j : Int) ∧ (j : Int) < l then some (.pointer (some ⟨p, 0 + ((j : Int)).toNat * 1, none⟩)) else none := by kernel_rfl
  rw [e, if_pos (by omega)]
  simp
theorem len23 (base : Nat) (m : M) (o l c : Nat) : vcalln E.P base m .len [23] [.slice (some ⟨o, 0, none⟩) l c] = some (vi l, m) := by kernel_rfl
theorem len23n (base : Nat) (m : M) : vcalln E.P base m .len [23] [nilS] = some (vi 0, m) := by kernel_rfl
theorem ix103 (p l c j : Nat) (h : j < l) : mindexAddr E.P 103 (.slice (some ⟨p, 0, none⟩) l c) (vi j) = some (pt p j) := by
  have e : mindexAddr E.P 103 (.slice (some ⟨p, 0, none⟩) l c) (vi j) = if 0 ≤ (j : Int) ∧ (j : Int) < l then some (.pointer (some ⟨p, 0 + ((j : Int)).toNat * 1, none⟩)) else none := by kernel_rfl
  rw [e, if_pos (by omega)]
  simp
theorem len103 (base : Nat) (m : M) (o l c : Nat) : vcalln E.P base m .len [103] [.slice (some ⟨o, 0, none⟩) l c] = some (vi l, m) := by kernel_rfl
theorem len22n (base : Nat) (m : M) : vcalln E.P base m .len [22] [nilS] = some (vi 0, m) := by kernel_rfl
theorem len30n (base : Nat) (m : M) : vcalln E.P base m .len [30] [nilS] = some (vi 0, m) := by kernel_rfl
theorem ix74 (p l c j : Nat) (h : j < l) : mindexAddr E.P 74 (.slice (some ⟨p, 0, none⟩) l c) (vi j) = some (pt p (j * 8)) := by
  have e : mindexAddr E.P 74 (.slice (some ⟨p, 0, none⟩) l c) (vi j) = if 0 ≤ (j : Int) ∧ (j : Int) < l then some (.pointer (some ⟨p, 0 + ((j : Int)).toNat * 8, none⟩)) else none := by kernel_rfl
  rw [e, if_pos (by omega)]
  simp
theorem len74n (base : Nat) (m : M) : vcalln E.P base m .len [74] [nilS] = some (vi 0, m) := by kernel_rfl
theorem mk23 (m : M) (n : Nat) (h : n ≤ 100) : xmakeSlice E.P m 23 (vi n) (vi n) = some (sl m.length n, m ++ [rowz 1 true (repCells [.slice none 0 0] n)]) := by
  have e : xmakeSlice E.P m 23 (vi n) (vi n) = if ((n : Int) < 0 ∨ (n : Int) < n ∨ (n : Int) > 2 ^ 40 ∨ 24 > 2 ^ 7) then none else
    xlen m fun k => fNat n fun l => fNat n fun c => fList (repCells [.slice none 0 0] c) fun cs => xpush m (rowz 1 true cs) fun m' => some (.slice (some ⟨k, 0, none⟩) l c, m') := by kernel_rfl
  rw [e, if_neg (by omega), xlen_eq, fNat_eq, fNat_eq, fNat_eq, fList_eq, xpush_eq, fList_eq]
end Go.AM
