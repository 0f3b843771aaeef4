import Derived.KernelRfl
import Derived.Laws.BytesArg
import Derived.Laws.StructEq
import Derived.Test.YtkjeeiifhbmnnaaRows
import Derived.WalkKit
import Derived.Test.YtkjeeiifhbmnnaaAmB
import Derived.Test.YtkjeeiifhbmnnaaAmModel
import Derived.Test.YtkjeeiifhbmnnaaAmOps5
import Derived.Test.YtkjeeiifhbmnnaaAmOps6
import Derived.Test.YtkjeeiifhbmnnaaAmCode
import Derived.Test.YtkjeeiifhbmnnaaAmX
import Derived.Test.YtkjeeiifhbmnnaaAmEq
import Derived.Test.YtkjeeiifhbmnnaaRBase
set_option linter.unusedVariables false
set_option linter.unusedSimpArgs false
set_option linter.unusedSectionVars false
namespace Go.AM
open Go Go.Proofs
noncomputable def r62_L0 (call : CallF) (fuel base : Nat) (kp : Value → M → Res2) (kx0 : Value → Value → Value → M → Res2) (n : Nat) : Value → Value → Value → Value → Value → Value → M → Res2 :=
  Nat.rec (motive := fun _ => Value → Value → Value → Value → Value → Value → M → Res2) (fun _ _ _ _ _ _ _ => none)
    (fun _ ih x1 x2 x5 x20 x21 x22 m =>
      (k1 (mbin E .lss 3 x22 x21) fun v23_8 => (kb v23_8 (k1 (mindexAddr E.P 23 x20 x22) fun v24_9 => (k1 (xload E.P m 33 v24_9) fun v25_10 => (k1 (mslice E.P m 33 v25_10 (some (.int .i64 1)) none none) fun v27_11 => (kc (call base 95 [v27_11] m) (fun v28_12 m => (k1 (xload E.P m 33 x5) fun v29_13 => (k1 (mindexAddr E.P 33 v29_13 v28_12) fun v31_14 => (k1 (xload E.P m 3 v31_14) fun v32_15 => (k1 (mbin E .eql 3 v32_15 (.int .i64 0)) fun v33_16 => (kb v33_16 (k1 (xload E.P m 33 x5) fun v34_17 => (k1 (mindexAddr E.P 33 v25_10 (.int .i64 0)) fun v37_18 => (k1 (xload E.P m 3 v37_18) fun v38_19 => (k1 (mindexAddr E.P 33 v34_17 v28_12) fun v39_20 => (ks (xstore E.P base m 3 v39_20 v38_19) fun m => (k1 (mbin E .add 3 x22 (.int .i64 1)) fun v40_21 => (ih x1 x2 x5 x20 x21 v40_21 m))))))) (k1 (mbin E .add 3 x22 (.int .i64 1)) fun v40_22 => (ih x1 x2 x5 x20 x21 v40_22 m)))))))) (fun v m => kp v m))))) (kx0 x1 x2 x5 m)))) n
noncomputable def r62_L2 (call : CallF) (fuel base : Nat) (kr : Value → M → Res2) (kx2 : Value → Value → Value → M → Res2) (n : Nat) : Value → Value → Value → Value → Value → Value → M → Res2 :=
  Nat.rec (motive := fun _ => Value → Value → Value → Value → Value → Value → M → Res2) (fun _ _ _ _ _ _ _ => none)
    (fun _ ih x1 x5 x9 x46 x47 x48 m =>
      (k1 (mbin E .lss 3 x48 x47) fun v49_31 => (kb v49_31 (k1 (mindexAddr E.P 103 x46 x48) fun v51_32 => (k1 (xload E.P m 33 v51_32) fun v52_33 => (k2 (vcall E.P base m .len [33] [v52_33]) fun v54_34 m => (k1 (mbin E .gtr 3 v54_34 (.int .i64 0)) fun v55_35 => (kb v55_35 (k1 (xload E.P m 33 x5) fun v57_36 => (k1 (mindexAddr E.P 33 v57_36 x48) fun v59_37 => (k1 (xload E.P m 3 v59_37) fun v60_38 => (k1 (mbin E .eql 3 v60_38 (.int .i64 0)) fun v61_39 => (kb v61_39 (kr (.bool false) m) (k1 (mbin E .add 3 x48 (.int .i64 1)) fun v63_40 => (ih x1 x5 x9 x46 x47 v63_40 m))))))) (k1 (mbin E .add 3 x48 (.int .i64 1)) fun v63_41 => (ih x1 x5 x9 x46 x47 v63_41 m))))))) (kx2 x1 x5 x9 m)))) n
noncomputable def r62_L4 (call : CallF) (fuel base : Nat) (kp : Value → M → Res2) (kr : Value → M → Res2) (kx4 : M → Res2) (n : Nat) : Value → Value → Value → Value → Value → M → Res2 :=
  Nat.rec (motive := fun _ => Value → Value → Value → Value → Value → M → Res2) (fun _ _ _ _ _ _ => none)
    (fun _ ih x5 x9 x64 x65 x66 m =>
      (k1 (mbin E .lss 3 x66 x65) fun v67_47 => (kb v67_47 (k1 (mindexAddr E.P 23 x64 x66) fun v68_48 => (k1 (xload E.P m 33 v68_48) fun v69_49 => (k2 (xalloc E.P m 33) fun v14_50 m => (ks (xstore E.P base m 33 v14_50 v69_49) fun m => (k1 (xload E.P m 33 v14_50) fun v72_51 => (k1 (mslice E.P m 33 v72_51 (some (.int .i64 1)) none none) fun v73_52 => (kc (call base 95 [v73_52] m) (fun v74_53 m => (k1 (mindexAddr E.P 103 x9 v74_53) fun v75_54 => (k1 (xload E.P m 33 v75_54) fun v76_55 => (kc (call base 81 [v76_55, (.func (.func 97) #[] #[x5, v14_50])] m) (fun v78_56 m => (kb v78_56 (kr (.bool false) m) (k1 (mbin E .add 3 x66 (.int .i64 1)) fun v79_57 => (ih x5 x9 x64 x65 v79_57 m)))) (fun v m => kp v m))))) (fun v m => kp v m)))))))) (kx4 m)))) n
noncomputable def r62 (call : CallF) (fuel base : Nat) (x0 : Value) (x1 : Value) (m : M) : Res2 :=
  (k2 (xbox m x0) fun v2_1 m => (k1 (mfieldAddr E.P 76 v2_1 0) fun v16_2 => (k1 (xload E.P m 3 v16_2) fun v17_3 => (kc (call base 94 [v17_3] m) (fun v18_4 m => (k2 (xmakeSlice E.P m 33 v18_4 v18_4) fun v19_5 m => (k2 (xalloc E.P m 33) fun v5_6 m => (ks (xstore E.P base m 33 v5_6 v19_5) fun m => (k2 (vcall E.P base m .len [23] [x1]) fun v21_7 m => (r62_L0 call fuel base (fun v m => some (.pan v, m)) (fun y1_23 y2_24 y5_25 m => (k1 (xload E.P m 76 y2_24) fun v42_26 => (kc (call base 96 [v42_26] m) (fun v43_27 m => (k1 (mextract 0 v43_27) fun v44_28 => (k1 (mextract 1 v43_27) fun v45_29 => (k2 (vcall E.P base m .len [103] [v45_29]) fun v47_30 m => (r62_L2 call fuel base (fun y4_42 m => (fVal y4_42 fun v => some (.ret v, m))) (fun y1_43 y5_44 y9_45 m => (k2 (vcall E.P base m .len [23] [y1_43]) fun v65_46 m => (r62_L4 call fuel base (fun v m => some (.pan v, m)) (fun y4_58 m => (fVal y4_58 fun v => some (.ret v, m))) (fun m => (fVal (.bool true) fun v => some (.ret v, m))) fuel y5_44 y9_45 y1_43 v65_46 (.int .i64 0) m))) fuel y1_23 y5_25 v44_28 v45_29 v47_30 (.int .i64 0) m))))) (fun v m => some (.pan v, m))))) fuel x1 v2_1 v5_6 x1 v21_7 (.int .i64 0) m)))))) (fun v m => some (.pan v, m))))))
def keep62 : Keep := { region := fun i => ([[1, 2], [1, 2, 5], [1, 2, 5, 20, 21, 22], [1, 2, 5, 20, 21, 22, 23], [1, 2, 5, 7, 20, 21, 22], [1, 2, 5, 7, 8, 20, 21, 22], [1, 2, 5, 7, 8, 20, 21, 22, 33], [1, 2, 5, 20, 21, 22], [1, 2, 5, 20, 21, 22], [1, 5, 9, 10], [1, 5, 9, 46, 47, 48], [1, 5, 9, 46, 47, 48, 49], [1, 5, 9, 11, 12, 46, 47, 48], [1, 5, 9, 46, 47, 48, 62], [4], [1, 5, 9, 46, 47, 48], [5, 9, 64, 65, 66], [5, 9, 64, 65, 66, 67], [5, 9, 14, 64, 65, 66], [5, 9, 14, 15, 64, 65, 66], [5, 9, 64, 65, 66, 78], [4], [5, 9, 64, 65, 66], [4]] : List (List Nat))[i]?, exit := fun i => ([[1, 2, 5], [1, 2, 5, 20, 21, 22], [1, 5, 9], [1, 5, 9, 46, 47, 48], [], [5, 9, 64, 65, 66]] : List (List Nat))[i]?, ret := some [4] }
noncomputable def r62_L0_R (call : CallF) (fuel base n : Nat) (vs : List Value) (m : M) (K : KT) : Res2 := match vs with
  | [x1, x2, x5, x20, x21, x22] => r62_L0 call fuel base (fun v m => K (.pan v) { n := 80, l := [] } m) (fun y1 y2 y5 m => K (.exit 0) { n := 80, l := [(1, y1), (2, y2), (5, y5)] } m) n x1 x2 x5 x20 x21 x22 m
  | _ => none
noncomputable def r62_L2_R (call : CallF) (fuel base n : Nat) (vs : List Value) (m : M) (K : KT) : Res2 := match vs with
  | [x1, x5, x9, x46, x47, x48] => r62_L2 call fuel base (fun y4 m => K .ret { n := 80, l := [(4, y4)] } m) (fun y1 y5 y9 m => K (.exit 2) { n := 80, l := [(1, y1), (5, y5), (9, y9)] } m) n x1 x5 x9 x46 x47 x48 m
  | _ => none
noncomputable def r62_L4_R (call : CallF) (fuel base n : Nat) (vs : List Value) (m : M) (K : KT) : Res2 := match vs with
  | [x5, x9, x64, x65, x66] => r62_L4 call fuel base (fun v m => K (.pan v) { n := 80, l := [] } m) (fun y4 m => K .ret { n := 80, l := [(4, y4)] } m) (fun m => K (.exit 4) { n := 80, l := [] } m) n x5 x9 x64 x65 x66 m
  | _ => none
noncomputable def lp62 (call : CallF) (fuel base : Nat) : Lp := lpsel [(0, fun T m K => kslots 80 [1, 2, 5, 20, 21, 22] T fun vs => r62_L0_R call fuel base fuel vs m K), (2, fun T m K => kslots 80 [1, 5, 9, 46, 47, 48] T fun vs => r62_L2_R call fuel base fuel vs m K), (4, fun T m K => kslots 80 [5, 9, 64, 65, 66] T fun vs => r62_L4_R call fuel base fuel vs m K)]
noncomputable def c62 : Code := Try.f62.body.getD .skip
theorem r62_L0_lk (call : CallF) (fuel base : Nat) : LoopsOk E call (lp62 call fuel base) fuel base 0 (loopB (blockB (seqR (seqL (seqR (seqR c62)))))) = (And True (And (And True True) (And (And True (And True (And True (And True True)))) True))) := by kernel_rfl
theorem r62_L0_ok (call : CallF) (fuel base : Nat) : LpOk E call (lp62 call fuel base) fuel base 0 (loopB (blockB (seqR (seqL (seqR (seqR c62)))))) := by
  refine loop_ok (kp := keep62) (hb := Eq.mpr (r62_L0_lk call fuel base) (And.intro trivial (And.intro (And.intro trivial trivial) (And.intro (And.intro trivial (And.intro trivial (And.intro trivial (And.intro trivial trivial)))) trivial)))) 80 [1, 2, 5, 20, 21, 22] (fun n vs m K => r62_L0_R call fuel base n vs m K) ?_ ?_ (fun _ _ _ => rfl)
  · intro vs m K
    unfold r62_L0_R
    split <;> rfl
  · intro n vs m K hl
    match vs, hl with
    | [x1, x2, x5, x20, x21, x22], _ => show _ = _; kernel_rfl
theorem r62_L2_lk (call : CallF) (fuel base : Nat) : LoopsOk E call (lp62 call fuel base) fuel base 2 (loopB (blockB (seqR (seqL (seqR (seqR (seqR (seqR c62)))))))) = (And True (And (And True True) (And (And True (And True (And (And True True) True))) True))) := by kernel_rfl
theorem r62_L2_ok (call : CallF) (fuel base : Nat) : LpOk E call (lp62 call fuel base) fuel base 2 (loopB (blockB (seqR (seqL (seqR (seqR (seqR (seqR c62)))))))) := by
  refine loop_ok (kp := keep62) (hb := Eq.mpr (r62_L2_lk call fuel base) (And.intro trivial (And.intro (And.intro trivial trivial) (And.intro (And.intro trivial (And.intro trivial (And.intro (And.intro trivial trivial) trivial))) trivial)))) 80 [1, 5, 9, 46, 47, 48] (fun n vs m K => r62_L2_R call fuel base n vs m K) ?_ ?_ (fun _ _ _ => rfl)
  · intro vs m K
    unfold r62_L2_R
    split <;> rfl
  · intro n vs m K hl
    match vs, hl with
    | [x1, x5, x9, x46, x47, x48], _ => show _ = _; kernel_rfl
theorem r62_L4_lk (call : CallF) (fuel base : Nat) : LoopsOk E call (lp62 call fuel base) fuel base 4 (loopB (blockB (seqR (seqL (seqR (seqR (seqR (seqR (seqR c62))))))))) = (And True (And (And True True) (And (And True (And True (And True (And (And True True) True)))) True))) := by kernel_rfl
theorem r62_L4_ok (call : CallF) (fuel base : Nat) : LpOk E call (lp62 call fuel base) fuel base 4 (loopB (blockB (seqR (seqL (seqR (seqR (seqR (seqR (seqR c62))))))))) := by
  refine loop_ok (kp := keep62) (hb := Eq.mpr (r62_L4_lk call fuel base) (And.intro trivial (And.intro (And.intro trivial trivial) (And.intro (And.intro trivial (And.intro trivial (And.intro trivial (And.intro (And.intro trivial trivial) trivial)))) trivial)))) 80 [5, 9, 64, 65, 66] (fun n vs m K => r62_L4_R call fuel base n vs m K) ?_ ?_ (fun _ _ _ => rfl)
  · intro vs m K
    unfold r62_L4_R
    split <;> rfl
  · intro n vs m K hl
    match vs, hl with
    | [x5, x9, x64, x65, x66], _ => show _ = _; kernel_rfl
theorem r62_eq (call : CallF) (fuel base : Nat) (x0 : Value) (x1 : Value) (m : M) : kbody E call keep62 (lp62 call fuel base) base Try.f62 [x0, x1] m = r62 call fuel base x0 x1 m := by
  kernel_rfl
noncomputable def rf62 : RF := fun call fuel base args m => match args with
  | [x0, x1] => r62 call fuel base x0 x1 m
  | _ => none
theorem r62_lk (call : CallF) (fuel base : Nat) : LoopsOk E call (lp62 call fuel base) fuel base 0 c62 = (And True (And True (And (And True (LpOk E call (lp62 call fuel base) fuel base 0 (loopB (blockB (seqR (seqL (seqR (seqR c62)))))))) (And True (And (And True (LpOk E call (lp62 call fuel base) fuel base 2 (loopB (blockB (seqR (seqL (seqR (seqR (seqR (seqR c62)))))))))) (And (And True (LpOk E call (lp62 call fuel base) fuel base 4 (loopB (blockB (seqR (seqL (seqR (seqR (seqR (seqR (seqR c62))))))))))) (And True True))))))) := by kernel_rfl
theorem r62_fn : E.P.funcs[62]? = some Try.f62 := by kernel_rfl
theorem r62_body : Try.f62.body = some c62 := by kernel_rfl
theorem rf62_ok : RFok E 62 rf62 := by
  refine ⟨Try.f62, r62_fn, fun call fuel base args m r _ h => ?_⟩
  unfold rf62 at h
  split at h
  · rw [← r62_eq] at h
    exact kbody_sound (c := c62) r62_body (Eq.mpr (r62_lk call fuel base) (And.intro trivial (And.intro trivial (And.intro (And.intro trivial (r62_L0_ok call fuel base)) (And.intro trivial (And.intro (And.intro trivial (r62_L2_ok call fuel base)) (And.intro (And.intro trivial (r62_L4_ok call fuel base)) (And.intro trivial trivial)))))))) h
  · simp at h
end Go.AM
namespace Go.AM
open Go Go.Proofs
noncomputable def r66_L0 (call : CallF) (fuel base : Nat) (kx0 : Value → M → Res2) (n : Nat) : Value → Value → Value → Value → M → Res2 :=
  Nat.rec (motive := fun _ => Value → Value → Value → Value → M → Res2) (fun _ _ _ _ _ => none)
    (fun _ ih x0 x1 x5 x6 m =>
      (k1 (mbin E .lss 3 x6 x1) fun v9_1 => (kb v9_1 (k1 (mbin E .mul 3 x5 x0) fun v14_2 => (k1 (mbin E .add 3 x6 (.int .i64 1)) fun v11_3 => (ih x0 x1 v14_2 v11_3 m))) (kx0 x5 m)))) n
noncomputable def r66 (call : CallF) (fuel base : Nat) (x0 : Value) (x1 : Value) (m : M) : Res2 :=
  (r66_L0 call fuel base (fun y5_4 m => (fVal y5_4 fun v => some (.ret v, m))) fuel x0 x1 (.int .i64 1) (.int .i64 0) m)
def keep66 : Keep := { region := fun i => ([[0, 1], [0, 1, 5], [0, 1, 5, 6], [0, 1, 5, 6, 9], [0, 1, 5, 6], [0, 1, 5, 6], [4]] : List (List Nat))[i]?, exit := fun i => ([[5], [0, 1, 5, 6]] : List (List Nat))[i]?, ret := some [4] }
noncomputable def r66_L0_R (call : CallF) (fuel base n : Nat) (vs : List Value) (m : M) (K : KT) : Res2 := match vs with
  | [x0, x1, x5, x6] => r66_L0 call fuel base (fun y5 m => K (.exit 0) { n := 16, l := [(5, y5)] } m) n x0 x1 x5 x6 m
  | _ => none
noncomputable def lp66 (call : CallF) (fuel base : Nat) : Lp := lpsel [(0, fun T m K => kslots 16 [0, 1, 5, 6] T fun vs => r66_L0_R call fuel base fuel vs m K)]
noncomputable def c66 : Code := Try.f66.body.getD .skip
theorem r66_L0_lk (call : CallF) (fuel base : Nat) : LoopsOk E call (lp66 call fuel base) fuel base 0 (loopB (blockB (seqR (seqL (seqR (seqR c66)))))) = (And (And True (And True True)) (And True True)) := by kernel_rfl
theorem r66_L0_ok (call : CallF) (fuel base : Nat) : LpOk E call (lp66 call fuel base) fuel base 0 (loopB (blockB (seqR (seqL (seqR (seqR c66)))))) := by
  refine loop_ok (kp := keep66) (hb := Eq.mpr (r66_L0_lk call fuel base) (And.intro (And.intro trivial (And.intro trivial trivial)) (And.intro trivial trivial))) 16 [0, 1, 5, 6] (fun n vs m K => r66_L0_R call fuel base n vs m K) ?_ ?_ (fun _ _ _ => rfl)
  · intro vs m K
    unfold r66_L0_R
    split <;> rfl
  · intro n vs m K hl
    match vs, hl with
    | [x0, x1, x5, x6], _ => show _ = _; kernel_rfl
theorem r66_eq (call : CallF) (fuel base : Nat) (x0 : Value) (x1 : Value) (m : M) : kbody E call keep66 (lp66 call fuel base) base Try.f66 [x0, x1] m = r66 call fuel base x0 x1 m := by
  kernel_rfl
noncomputable def rf66 : RF := fun call fuel base args m => match args with
  | [x0, x1] => r66 call fuel base x0 x1 m
  | _ => none
theorem r66_lk (call : CallF) (fuel base : Nat) : LoopsOk E call (lp66 call fuel base) fuel base 0 c66 = (And True (And True (And (And True (LpOk E call (lp66 call fuel base) fuel base 0 (loopB (blockB (seqR (seqL (seqR (seqR c66)))))))) (And True True)))) := by kernel_rfl
theorem r66_fn : E.P.funcs[66]? = some Try.f66 := by kernel_rfl
theorem r66_body : Try.f66.body = some c66 := by kernel_rfl
theorem rf66_ok : RFok E 66 rf66 := by
  refine ⟨Try.f66, r66_fn, fun call fuel base args m r _ h => ?_⟩
  unfold rf66 at h
  split at h
  · rw [← r66_eq] at h
    exact kbody_sound (c := c66) r66_body (Eq.mpr (r66_lk call fuel base) (And.intro trivial (And.intro trivial (And.intro (And.intro trivial (r66_L0_ok call fuel base)) (And.intro trivial trivial))))) h
  · simp at h
end Go.AM
namespace Go.AM
open Go Go.Proofs
noncomputable def r67_L2 (call : CallF) (fuel base : Nat) (kx2 : Value → Value → Value → Value → M → Res2) (n : Nat) : Value → Value → Value → Value → Value → M → Res2 :=
  Nat.rec (motive := fun _ => Value → Value → Value → Value → Value → M → Res2) (fun _ _ _ _ _ _ => none)
    (fun _ ih x0 x3 x4 x5 x6 m =>
      (k2 (vcall E.P base m .len [22] [x0]) fun v13_2 m => (k1 (mbin E .lss 3 x6 v13_2) fun v14_3 => (kb v14_3 (kb x5 (k1 (mbin E .add 3 x6 (.int .i64 1)) fun v16_4 => (ih x0 x3 x4 (.bool true) v16_4 m)) (k1 (mindexAddr E.P 22 x0 x6) fun v21_5 => (k1 (mfieldAddr E.P 45 v21_5 0) fun v22_6 => (k1 (xload E.P m 3 v22_6) fun v23_7 => (k1 (mbin E .eql 3 v23_7 x4) fun v25_8 => (kb v25_8 (k1 (mbin E .add 3 x6 (.int .i64 1)) fun v16_9 => (ih x0 x3 x4 (.bool true) v16_9 m)) (k1 (mindexAddr E.P 22 x0 x6) fun v30_10 => (k1 (mfieldAddr E.P 45 v30_10 2) fun v31_11 => (k1 (xload E.P m 3 v31_11) fun v32_12 => (k1 (mbin E .eql 3 v32_12 x4) fun v34_13 => (k1 (mbin E .add 3 x6 (.int .i64 1)) fun v16_14 => (ih x0 x3 x4 v34_13 v16_14 m)))))))))))) (kx2 x0 x3 x4 x5 m))))) n
noncomputable def r67_L0 (call : CallF) (fuel base : Nat) (kx0 : Value → M → Res2) (n : Nat) : Value → Value → Value → M → Res2 :=
  Nat.rec (motive := fun _ => Value → Value → Value → M → Res2) (fun _ _ _ _ => none)
    (fun _ ih x0 x3 x4 m =>
      (k1 (mbin E .leq 3 x4 (.int .i64 7)) fun v8_1 => (kb v8_1 (r67_L2 call fuel base (fun y0_15 y3_16 y4_17 y5_18 m => (kb y5_18 (k2 (xbuildSlice E.P m 33 1 [(0, y4_17)]) fun v39_19 m => (k2 (vcall E.P base m .append [33, 33] [y3_16, v39_19]) fun v40_20 m => (k1 (mbin E .add 3 y4_17 (.int .i64 1)) fun v10_21 => (ih y0_15 v40_20 v10_21 m)))) (k1 (mbin E .add 3 y4_17 (.int .i64 1)) fun v10_22 => (ih y0_15 y3_16 v10_22 m)))) fuel x0 x3 x4 (.bool false) (.int .i64 0) m) (kx0 x3 m)))) n
noncomputable def r67 (call : CallF) (fuel base : Nat) (x0 : Value) (m : M) : Res2 :=
  (r67_L0 call fuel base (fun y3_23 m => (fVal y3_23 fun v => some (.ret v, m))) fuel x0 (.slice none 0 0) (.int .i64 0) m)
def keep67 : Keep := { region := fun i => ([[0], [0, 3], [0, 3, 4], [0, 3, 4, 8], [0, 3, 4], [0, 3, 4, 5], [0, 3, 4, 5, 6], [0, 3, 4, 5, 6, 14], [0, 3, 4, 5, 6], [0, 3, 4, 5, 6], [0, 3, 4, 36], [0, 3, 4], [2]] : List (List Nat))[i]?, exit := fun i => ([[3], [0, 3, 4], [0, 3, 4, 5], [0, 3, 4, 5, 6]] : List (List Nat))[i]?, ret := some [2] }
noncomputable def r67_L2_R (call : CallF) (fuel base n : Nat) (vs : List Value) (m : M) (K : KT) : Res2 := match vs with
  | [x0, x3, x4, x5, x6] => r67_L2 call fuel base (fun y0 y3 y4 y5 m => K (.exit 2) { n := 42, l := [(0, y0), (3, y3), (4, y4), (5, y5)] } m) n x0 x3 x4 x5 x6 m
  | _ => none
noncomputable def r67_L0_R (call : CallF) (fuel base n : Nat) (vs : List Value) (m : M) (K : KT) : Res2 := match vs with
  | [x0, x3, x4] => r67_L0 call fuel base (fun y3 m => K (.exit 0) { n := 42, l := [(3, y3)] } m) n x0 x3 x4 m
  | _ => none
noncomputable def lp67 (call : CallF) (fuel base : Nat) : Lp := lpsel [(2, fun T m K => kslots 42 [0, 3, 4, 5, 6] T fun vs => r67_L2_R call fuel base fuel vs m K), (0, fun T m K => kslots 42 [0, 3, 4] T fun vs => r67_L0_R call fuel base fuel vs m K)]
noncomputable def c67 : Code := Try.f67.body.getD .skip
theorem r67_L2_lk (call : CallF) (fuel base : Nat) : LoopsOk E call (lp67 call fuel base) fuel base 2 (loopB (blockB (seqR (seqL (seqR (blockB (seqL (seqR (loopB (blockB (seqR (seqL (seqR (seqR c67)))))))))))))) = (And (And True (And True True)) (And True True)) := by kernel_rfl
theorem r67_L2_ok (call : CallF) (fuel base : Nat) : LpOk E call (lp67 call fuel base) fuel base 2 (loopB (blockB (seqR (seqL (seqR (blockB (seqL (seqR (loopB (blockB (seqR (seqL (seqR (seqR c67)))))))))))))) := by
  refine loop_ok (kp := keep67) (hb := Eq.mpr (r67_L2_lk call fuel base) (And.intro (And.intro trivial (And.intro trivial trivial)) (And.intro trivial trivial))) 42 [0, 3, 4, 5, 6] (fun n vs m K => r67_L2_R call fuel base n vs m K) ?_ ?_ (fun _ _ _ => rfl)
  · intro vs m K
    unfold r67_L2_R
    split <;> rfl
  · intro n vs m K hl
    match vs, hl with
    | [x0, x3, x4, x5, x6], _ => show _ = _; kernel_rfl
theorem r67_L0_lk (call : CallF) (fuel base : Nat) : LoopsOk E call (lp67 call fuel base) fuel base 0 (loopB (blockB (seqR (seqL (seqR (seqR c67)))))) = (And (And True (And True True)) (And (And True (And (And True (LpOk E call (lp67 call fuel base) fuel base 2 (loopB (blockB (seqR (seqL (seqR (blockB (seqL (seqR (loopB (blockB (seqR (seqL (seqR (seqR c67)))))))))))))))) (And True (And True True)))) True)) := by kernel_rfl
theorem r67_L0_ok (call : CallF) (fuel base : Nat) : LpOk E call (lp67 call fuel base) fuel base 0 (loopB (blockB (seqR (seqL (seqR (seqR c67)))))) := by
  refine loop_ok (kp := keep67) (hb := Eq.mpr (r67_L0_lk call fuel base) (And.intro (And.intro trivial (And.intro trivial trivial)) (And.intro (And.intro trivial (And.intro (And.intro trivial (r67_L2_ok call fuel base)) (And.intro trivial (And.intro trivial trivial)))) trivial))) 42 [0, 3, 4] (fun n vs m K => r67_L0_R call fuel base n vs m K) ?_ ?_ (fun _ _ _ => rfl)
  · intro vs m K
    unfold r67_L0_R
    split <;> rfl
  · intro n vs m K hl
    match vs, hl with
    | [x0, x3, x4], _ => show _ = _; kernel_rfl
theorem r67_eq (call : CallF) (fuel base : Nat) (x0 : Value) (m : M) : kbody E call keep67 (lp67 call fuel base) base Try.f67 [x0] m = r67 call fuel base x0 m := by
  kernel_rfl
noncomputable def rf67 : RF := fun call fuel base args m => match args with
  | [x0] => r67 call fuel base x0 m
  | _ => none
theorem r67_lk (call : CallF) (fuel base : Nat) : LoopsOk E call (lp67 call fuel base) fuel base 0 c67 = (And True (And True (And (And True (LpOk E call (lp67 call fuel base) fuel base 0 (loopB (blockB (seqR (seqL (seqR (seqR c67)))))))) (And True True)))) := by kernel_rfl
theorem r67_fn : E.P.funcs[67]? = some Try.f67 := by kernel_rfl
theorem r67_body : Try.f67.body = some c67 := by kernel_rfl
theorem rf67_ok : RFok E 67 rf67 := by
  refine ⟨Try.f67, r67_fn, fun call fuel base args m r _ h => ?_⟩
  unfold rf67 at h
  split at h
  · rw [← r67_eq] at h
    exact kbody_sound (c := c67) r67_body (Eq.mpr (r67_lk call fuel base) (And.intro trivial (And.intro trivial (And.intro (And.intro trivial (r67_L0_ok call fuel base)) (And.intro trivial trivial))))) h
  · simp at h
end Go.AM
namespace Go.AM
open Go Go.Proofs
noncomputable def r68 (call : CallF) (fuel base : Nat) (x0 : Value) (m : M) : Res2 :=
  (k1 (mbin E .gtr 3 x0 (.int .i64 1099511627776)) fun v5_1 => (kb v5_1 (some (.ret (.tuple #[(.int .i64 0), (.int .i64 8)]), m)) (some (.ret (.tuple #[x0, (.int .i64 0)]), m))))
def keep68 : Keep := { region := fun i => ([[0], [0, 5], [2, 3], [2, 3]] : List (List Nat))[i]?, exit := fun i => ([] : List (List Nat))[i]?, ret := some [2, 3] }
noncomputable def lp68 (call : CallF) (fuel base : Nat) : Lp := lpsel []
noncomputable def c68 : Code := Try.f68.body.getD .skip
theorem r68_eq (call : CallF) (fuel base : Nat) (x0 : Value) (m : M) : kbody E call keep68 (lp68 call fuel base) base Try.f68 [x0] m = r68 call fuel base x0 m := by
  kernel_rfl
noncomputable def rf68 : RF := fun call fuel base args m => match args with
  | [x0] => r68 call fuel base x0 m
  | _ => none
theorem r68_lk (call : CallF) (fuel base : Nat) : LoopsOk E call (lp68 call fuel base) fuel base 0 c68 = (And True (And (And True (And (And True True) True)) (And True True))) := by kernel_rfl
theorem r68_fn : E.P.funcs[68]? = some Try.f68 := by kernel_rfl
theorem r68_body : Try.f68.body = some c68 := by kernel_rfl
theorem rf68_ok : RFok E 68 rf68 := by
  refine ⟨Try.f68, r68_fn, fun call fuel base args m r _ h => ?_⟩
  unfold rf68 at h
  split at h
  · rw [← r68_eq] at h
    exact kbody_sound (c := c68) r68_body (Eq.mpr (r68_lk call fuel base) (And.intro trivial (And.intro (And.intro trivial (And.intro (And.intro trivial trivial) trivial)) (And.intro trivial trivial)))) h
  · simp at h
end Go.AM
namespace Go.AM
open Go Go.Proofs
noncomputable def r69_L0 (call : CallF) (fuel base : Nat) (kp : Value → M → Res2) (kx0 : Value → M → Res2) (n : Nat) : Value → Value → Value → Value → M → Res2 :=
  Nat.rec (motive := fun _ => Value → Value → Value → Value → M → Res2) (fun _ _ _ _ _ => none)
    (fun _ ih x5 x13 x14 x15 m =>
      (k1 (mbin E .lss 3 x15 x14) fun v16_7 => (kb v16_7 (k1 (mindexAddr E.P 33 x13 x15) fun v17_8 => (k1 (xload E.P m 3 v17_8) fun v18_9 => (kc (call base 99 [x5, v18_9] m) (fun v21_10 m => (k1 (mbin E .add 3 x15 (.int .i64 1)) fun v22_11 => (ih v21_10 x13 x14 v22_11 m))) (fun v m => kp v m)))) (kx0 x5 m)))) n
noncomputable def r69 (call : CallF) (fuel base : Nat) (x0 : Value) (x1 : Value) (m : M) : Res2 :=
  (k2 (xbox m x0) fun v2_1 m => (k1 (xload E.P m 76 v2_1) fun v8_2 => (kc (call base 98 [v8_2, x1] m) (fun v10_3 m => (k1 (mindexAddr E.P 23 v10_3 x1) fun v12_4 => (k1 (xload E.P m 33 v12_4) fun v13_5 => (k2 (vcall E.P base m .len [33] [v13_5]) fun v14_6 m => (r69_L0 call fuel base (fun v m => some (.pan v, m)) (fun y5_12 m => (fVal y5_12 fun v => some (.ret v, m))) fuel (.int .i64 0) v13_5 v14_6 (.int .i64 0) m))))) (fun v m => some (.pan v, m)))))
def keep69 : Keep := { region := fun i => ([[1, 2], [1, 2, 5], [5, 13, 14, 15], [5, 13, 14, 15, 16], [5, 7, 13, 14, 15], [5, 13, 14, 15], [5, 13, 14, 15], [4]] : List (List Nat))[i]?, exit := fun i => ([[5], [5, 13, 14, 15]] : List (List Nat))[i]?, ret := some [4] }
noncomputable def r69_L0_R (call : CallF) (fuel base n : Nat) (vs : List Value) (m : M) (K : KT) : Res2 := match vs with
  | [x5, x13, x14, x15] => r69_L0 call fuel base (fun v m => K (.pan v) { n := 24, l := [] } m) (fun y5 m => K (.exit 0) { n := 24, l := [(5, y5)] } m) n x5 x13 x14 x15 m
  | _ => none
noncomputable def lp69 (call : CallF) (fuel base : Nat) : Lp := lpsel [(0, fun T m K => kslots 24 [5, 13, 14, 15] T fun vs => r69_L0_R call fuel base fuel vs m K)]
noncomputable def c69 : Code := Try.f69.body.getD .skip
theorem r69_L0_lk (call : CallF) (fuel base : Nat) : LoopsOk E call (lp69 call fuel base) fuel base 0 (loopB (blockB (seqR (seqL (seqR (seqR c69)))))) = (And True (And (And True True) (And (And True True) True))) := by kernel_rfl
theorem r69_L0_ok (call : CallF) (fuel base : Nat) : LpOk E call (lp69 call fuel base) fuel base 0 (loopB (blockB (seqR (seqL (seqR (seqR c69)))))) := by
  refine loop_ok (kp := keep69) (hb := Eq.mpr (r69_L0_lk call fuel base) (And.intro trivial (And.intro (And.intro trivial trivial) (And.intro (And.intro trivial trivial) trivial)))) 24 [5, 13, 14, 15] (fun n vs m K => r69_L0_R call fuel base n vs m K) ?_ ?_ (fun _ _ _ => rfl)
  · intro vs m K
    unfold r69_L0_R
    split <;> rfl
  · intro n vs m K hl
    match vs, hl with
    | [x5, x13, x14, x15], _ => show _ = _; kernel_rfl
theorem r69_eq (call : CallF) (fuel base : Nat) (x0 : Value) (x1 : Value) (m : M) : kbody E call keep69 (lp69 call fuel base) base Try.f69 [x0, x1] m = r69 call fuel base x0 x1 m := by
  kernel_rfl
noncomputable def rf69 : RF := fun call fuel base args m => match args with
  | [x0, x1] => r69 call fuel base x0 x1 m
  | _ => none
theorem r69_lk (call : CallF) (fuel base : Nat) : LoopsOk E call (lp69 call fuel base) fuel base 0 c69 = (And True (And True (And (And True (LpOk E call (lp69 call fuel base) fuel base 0 (loopB (blockB (seqR (seqL (seqR (seqR c69)))))))) (And True True)))) := by kernel_rfl
theorem r69_fn : E.P.funcs[69]? = some Try.f69 := by kernel_rfl
theorem r69_body : Try.f69.body = some c69 := by kernel_rfl
theorem rf69_ok : RFok E 69 rf69 := by
  refine ⟨Try.f69, r69_fn, fun call fuel base args m r _ h => ?_⟩
  unfold rf69 at h
  split at h
  · rw [← r69_eq] at h
    exact kbody_sound (c := c69) r69_body (Eq.mpr (r69_lk call fuel base) (And.intro trivial (And.intro trivial (And.intro (And.intro trivial (r69_L0_ok call fuel base)) (And.intro trivial trivial))))) h
  · simp at h
end Go.AM
namespace Go.AM
open Go Go.Proofs
noncomputable def r71_L0 (call : CallF) (fuel base : Nat) (kp : Value → M → Res2) (kr : Value → M → Res2) (kx0 : Value → M → Res2) (n : Nat) : Value → Value → Value → Value → Value → M → Res2 :=
  Nat.rec (motive := fun _ => Value → Value → Value → Value → Value → M → Res2) (fun _ _ _ _ _ _ => none)
    (fun _ ih x2 x5 x6 x7 x8 m =>
      (k1 (xload E.P m 3 x8) fun v15_9 => (k1 (mbin E .geq 3 v15_9 (.int .i64 0)) fun v16_10 => (kb v16_10 (k1 (mfieldAddr E.P 76 x2 1) fun v19_11 => (k1 (xload E.P m 74 v19_11) fun v20_12 => (kc (call base 100 [v20_12, (.func (.func 101) #[] #[x6, x7, x5, x8])] m) (fun v22_13 m => (k1 (mbin E .lss 3 v22_13 (.int .i64 0)) fun v24_14 => (kb v24_14 (kr (.slice none 0 0) m) (k1 (xload E.P m 23 x6) fun v25_15 => (k1 (mfieldAddr E.P 76 x2 1) fun v26_16 => (k1 (xload E.P m 74 v26_16) fun v27_17 => (k1 (mindexAddr E.P 74 v27_17 v22_13) fun v29_18 => (k1 (mfieldAddr E.P 109 v29_18 0) fun v30_19 => (k1 (mfieldAddr E.P 76 x2 0) fun v31_20 => (k1 (xload E.P m 3 v31_20) fun v32_21 => (k1 (mslice E.P m 107 v30_19 none (some v32_21) none) fun v33_22 => (kc (kB m (call m.length 89 [v33_22] m)) (fun v34_23 m => (k2 (xbuildSlice E.P m 23 1 [(0, v34_23)]) fun v35_24 m => (k2 (vcall E.P base m .append [23, 23] [v25_15, v35_24]) fun v36_25 m => (ks (xstore E.P base m 23 x6 v36_25) fun m => (k1 (mfieldAddr E.P 76 x2 1) fun v37_26 => (k1 (xload E.P m 74 v37_26) fun v38_27 => (k1 (mindexAddr E.P 74 v38_27 v22_13) fun v40_28 => (k1 (mfieldAddr E.P 109 v40_28 2) fun v41_29 => (k1 (xload E.P m 3 v41_29) fun v42_30 => (ks (xstore E.P base m 3 x7 v42_30) fun m => (k1 (xload E.P m 3 x8) fun v43_31 => (k2 (xalloc E.P m 3) fun v8_32 m => (ks (xstore E.P base m 3 v8_32 v43_31) fun m => (k1 (xload E.P m 3 v8_32) fun v17_33 => (k1 (mbin E .sub 3 v17_33 (.int .i64 1)) fun v18_34 => (ks (xstore E.P base m 3 v8_32 v18_34) fun m => (ih x2 x5 x6 x7 v8_32 m))))))))))))))))) (fun _ _ => none))))))))))))) (fun v m => kp v m)))) (kx0 x6 m))))) n
noncomputable def r71 (call : CallF) (fuel base : Nat) (x0 : Value) (x1 : Value) (m : M) : Res2 :=
  (k2 (xbox m x0) fun v2_1 m => (k1 (xload E.P m 76 v2_1) fun v10_2 => (kc (call base 98 [v10_2, x1] m) (fun v12_3 m => (k2 (xalloc E.P m 23) fun v5_4 m => (ks (xstore E.P base m 23 v5_4 v12_3) fun m => (k2 (xalloc E.P m 23) fun v6_5 m => (k2 (xalloc E.P m 3) fun v7_6 m => (ks (xstore E.P base m 3 v7_6 (.int .i64 0)) fun m => (k1 (mbin E .sub 3 x1 (.int .i64 1)) fun v14_7 => (k2 (xalloc E.P m 3) fun v8_8 m => (ks (xstore E.P base m 3 v8_8 v14_7) fun m => (r71_L0 call fuel base (fun v m => some (.pan v, m)) (fun y4_35 m => (fVal y4_35 fun v => some (.ret v, m))) (fun y6_36 m => (k1 (xload E.P m 23 y6_36) fun v44_37 => (fVal v44_37 fun v => some (.ret v, m)))) fuel v2_1 v5_4 v6_5 v7_6 v8_8 m)))))))))) (fun v m => some (.pan v, m)))))
def keep71 : Keep := { region := fun i => ([[1, 2], [1, 2, 5], [1, 2, 5, 6], [1, 2, 5, 6, 7], [2, 5, 6, 7, 8], [2, 5, 6, 7, 8, 16], [2, 5, 6, 7, 8], [2, 5, 6, 7, 8, 9], [2, 5, 6, 7, 8, 9, 24], [4], [2, 5, 6, 7, 8, 9], [2, 5, 6, 7, 8], [2, 5, 6, 7, 43], [2, 5, 6, 7, 8], [4]] : List (List Nat))[i]?, exit := fun i => ([[6], [2, 5, 6, 7, 8]] : List (List Nat))[i]?, ret := some [4] }
noncomputable def r71_L0_R (call : CallF) (fuel base n : Nat) (vs : List Value) (m : M) (K : KT) : Res2 := match vs with
  | [x2, x5, x6, x7, x8] => r71_L0 call fuel base (fun v m => K (.pan v) { n := 45, l := [] } m) (fun y4 m => K .ret { n := 45, l := [(4, y4)] } m) (fun y6 m => K (.exit 0) { n := 45, l := [(6, y6)] } m) n x2 x5 x6 x7 x8 m
  | _ => none
noncomputable def lp71 (call : CallF) (fuel base : Nat) : Lp := lpsel [(0, fun T m K => kslots 45 [2, 5, 6, 7, 8] T fun vs => r71_L0_R call fuel base fuel vs m K)]
noncomputable def c71 : Code := Try.f71.body.getD .skip
theorem r71_L0_lk (call : CallF) (fuel base : Nat) : LoopsOk E call (lp71 call fuel base) fuel base 0 (loopB (blockB (seqR (seqL (seqR (seqR (seqR (seqR c71)))))))) = (And (And True (And True True)) (And (And True (And (And True (And (And True True) True)) (And True True))) (And (And True True) True))) := by kernel_rfl
theorem r71_L0_ok (call : CallF) (fuel base : Nat) : LpOk E call (lp71 call fuel base) fuel base 0 (loopB (blockB (seqR (seqL (seqR (seqR (seqR (seqR c71)))))))) := by
  refine loop_ok (kp := keep71) (hb := Eq.mpr (r71_L0_lk call fuel base) (And.intro (And.intro trivial (And.intro trivial trivial)) (And.intro (And.intro trivial (And.intro (And.intro trivial (And.intro (And.intro trivial trivial) trivial)) (And.intro trivial trivial))) (And.intro (And.intro trivial trivial) trivial)))) 45 [2, 5, 6, 7, 8] (fun n vs m K => r71_L0_R call fuel base n vs m K) ?_ ?_ (fun _ _ _ => rfl)
  · intro vs m K
    unfold r71_L0_R
    split <;> rfl
  · intro n vs m K hl
    match vs, hl with
    | [x2, x5, x6, x7, x8], _ => show _ = _; kernel_rfl
theorem r71_eq (call : CallF) (fuel base : Nat) (x0 : Value) (x1 : Value) (m : M) : kbody E call keep71 (lp71 call fuel base) base Try.f71 [x0, x1] m = r71 call fuel base x0 x1 m := by
  kernel_rfl
noncomputable def rf71 : RF := fun call fuel base args m => match args with
  | [x0, x1] => r71 call fuel base x0 x1 m
  | _ => none
theorem r71_lk (call : CallF) (fuel base : Nat) : LoopsOk E call (lp71 call fuel base) fuel base 0 c71 = (And True (And True (And True (And True (And (And True (LpOk E call (lp71 call fuel base) fuel base 0 (loopB (blockB (seqR (seqL (seqR (seqR (seqR (seqR c71)))))))))) (And True True)))))) := by kernel_rfl
theorem r71_fn : E.P.funcs[71]? = some Try.f71 := by kernel_rfl
theorem r71_body : Try.f71.body = some c71 := by kernel_rfl
theorem rf71_ok : RFok E 71 rf71 := by
  refine ⟨Try.f71, r71_fn, fun call fuel base args m r _ h => ?_⟩
  unfold rf71 at h
  split at h
  · rw [← r71_eq] at h
    exact kbody_sound (c := c71) r71_body (Eq.mpr (r71_lk call fuel base) (And.intro trivial (And.intro trivial (And.intro trivial (And.intro trivial (And.intro (And.intro trivial (r71_L0_ok call fuel base)) (And.intro trivial trivial))))))) h
  · simp at h
end Go.AM
namespace Go.AM
open Go Go.Proofs
noncomputable def r73_L2 (call : CallF) (fuel base : Nat) (kp : Value → M → Res2) (kx2 : Value → Value → Value → Value → Value → Value → Value → M → Res2) (n : Nat) : Value → Value → Value → Value → Value → Value → Value → Value → Value → Value → Value → M → Res2 :=
  Nat.rec (motive := fun _ => Value → Value → Value → Value → Value → Value → Value → Value → Value → Value → Value → M → Res2) (fun _ _ _ _ _ _ _ _ _ _ _ _ => none)
    (fun _ ih x5 x6 x7 x8 x9 x12 x32 x33 x58 x59 x60 m =>
      (k1 (mbin E .lss 3 x60 x59) fun v61_29 => (kb v61_29 (k1 (mindexAddr E.P 33 x58 x60) fun v63_30 => (k1 (xload E.P m 3 v63_30) fun v64_31 => (k1 (mindexAddr E.P 33 x12 x60) fun v69_32 => (k1 (xload E.P m 3 v69_32) fun v70_33 => (k1 (mbin E .mul 3 v64_31 v70_33) fun v71_34 => (kc (call base 99 [x9, v71_34] m) (fun v72_35 m => (k1 (mbin E .add 3 x60 (.int .i64 1)) fun v73_36 => (ih x5 x6 x7 x8 v72_35 x12 x32 x33 x58 x59 v73_36 m))) (fun v m => kp v m))))))) (kx2 x5 x6 x7 x8 x9 x32 x33 m)))) n
noncomputable def r73_L0 (call : CallF) (fuel base : Nat) (kp : Value → M → Res2) (kx0 : Value → M → Res2) (n : Nat) : Value → Value → Value → Value → Value → Value → Value → M → Res2 :=
  Nat.rec (motive := fun _ => Value → Value → Value → Value → Value → Value → Value → M → Res2) (fun _ _ _ _ _ _ _ _ => none)
    (fun _ ih x5 x6 x7 x8 x9 x32 x33 m =>
      (k1 (mbin E .lss 3 x33 x32) fun v34_15 => (kb v34_15 (k1 (mindexAddr E.P 103 x5 x33) fun v38_16 => (k1 (xload E.P m 33 v38_16) fun v39_17 => (k2 (vcall E.P base m .len [33] [v39_17]) fun v40_18 m => (k1 (mbin E .eql 3 v40_18 (.int .i64 0)) fun v41_19 => (kb v41_19 (k1 (mbin E .add 3 x33 (.int .i64 1)) fun v74_20 => (ih x5 x6 x7 x8 x9 x32 v74_20 m)) (k1 (mindexAddr E.P 103 x6 x33) fun v45_21 => (k1 (xload E.P m 33 v45_21) fun v46_22 => (k2 (vcall E.P base m .len [33] [v46_22]) fun v47_23 m => (k1 (mbin E .eql 3 v47_23 (.int .i64 0)) fun v48_24 => (kb v48_24 (k1 (mbin E .add 3 x33 (.int .i64 1)) fun v74_25 => (ih x5 x6 x7 x8 x9 x32 v74_25 m)) (kc (call base 105 [x5, x33, x7] m) (fun v53_26 m => (kc (call base 105 [x6, x33, x8] m) (fun v57_27 m => (k2 (vcall E.P base m .len [33] [v53_26]) fun v59_28 m => (r73_L2 call fuel base (fun v m => kp v m) (fun y5_37 y6_38 y7_39 y8_40 y9_41 y32_42 y33_43 m => (k1 (mbin E .add 3 y33_43 (.int .i64 1)) fun v74_44 => (ih y5_37 y6_38 y7_39 y8_40 y9_41 y32_42 v74_44 m))) fuel x5 x6 x7 x8 x9 v57_27 x32 x33 v53_26 v59_28 (.int .i64 0) m))) (fun v m => kp v m))) (fun v m => kp v m)))))))))))) (kx0 x9 m)))) n
noncomputable def r73 (call : CallF) (fuel base : Nat) (x0 : Value) (x1 : Value) (m : M) : Res2 :=
  (k2 (xbox m x0) fun v2_1 m => (k1 (xload E.P m 76 v2_1) fun v16_2 => (kc (call base 103 [v16_2] m) (fun v17_3 m => (kc (call base 96 [v17_3] m) (fun v18_4 m => (k1 (mextract 0 v18_4) fun v19_5 => (k1 (mextract 1 v18_4) fun v20_6 => (k1 (xload E.P m 76 v2_1) fun v21_7 => (k1 (mbin E .quo 3 x1 (.int .i64 2)) fun v23_8 => (kc (kB m (call m.length 104 [v21_7, v23_8] m)) (fun v24_9 m => (k1 (xload E.P m 76 v2_1) fun v25_10 => (k1 (mbin E .quo 3 x1 (.int .i64 2)) fun v28_11 => (k1 (mbin E .sub 3 x1 v28_11) fun v29_12 => (kc (kB m (call m.length 104 [v25_10, v29_12] m)) (fun v30_13 m => (k2 (vcall E.P base m .len [103] [v19_5]) fun v32_14 m => (r73_L0 call fuel base (fun v m => some (.pan v, m)) (fun y9_45 m => (fVal y9_45 fun v => some (.ret v, m))) fuel v19_5 v20_6 v24_9 v30_13 (.int .i64 0) v32_14 (.int .i64 0) m))) (fun _ _ => none)))))) (fun _ _ => none))))))) (fun v m => some (.pan v, m)))) (fun v m => some (.pan v, m)))))
def keep73 : Keep := { region := fun i => ([[1, 2], [1, 2, 5, 6], [5, 6, 7, 8], [5, 6, 7, 8, 9], [5, 6, 7, 8, 9, 32, 33], [5, 6, 7, 8, 9, 32, 33, 34], [5, 6, 7, 8, 9, 10, 32, 33], [5, 6, 7, 8, 9, 10, 32, 33, 49], [5, 6, 7, 8, 9, 11, 12, 32, 33], [5, 6, 7, 8, 9, 12, 32, 33, 58, 59, 60], [5, 6, 7, 8, 9, 12, 32, 33, 58, 59, 60, 61], [5, 6, 7, 8, 9, 12, 13, 14, 32, 33, 58, 59, 60], [5, 6, 7, 8, 9, 12, 32, 33, 58, 59, 60], [5, 6, 7, 8, 9, 12, 32, 33, 58, 59, 60], [5, 6, 7, 8, 9, 32, 33], [4]] : List (List Nat))[i]?, exit := fun i => ([[9], [5, 6, 7, 8, 9, 32, 33], [5, 6, 7, 8, 9, 32, 33], [5, 6, 7, 8, 9, 12, 32, 33, 58, 59, 60]] : List (List Nat))[i]?, ret := some [4] }
noncomputable def r73_L2_R (call : CallF) (fuel base n : Nat) (vs : List Value) (m : M) (K : KT) : Res2 := match vs with
  | [x5, x6, x7, x8, x9, x12, x32, x33, x58, x59, x60] => r73_L2 call fuel base (fun v m => K (.pan v) { n := 76, l := [] } m) (fun y5 y6 y7 y8 y9 y32 y33 m => K (.exit 2) { n := 76, l := [(5, y5), (6, y6), (7, y7), (8, y8), (9, y9), (32, y32), (33, y33)] } m) n x5 x6 x7 x8 x9 x12 x32 x33 x58 x59 x60 m
  | _ => none
noncomputable def r73_L0_R (call : CallF) (fuel base n : Nat) (vs : List Value) (m : M) (K : KT) : Res2 := match vs with
  | [x5, x6, x7, x8, x9, x32, x33] => r73_L0 call fuel base (fun v m => K (.pan v) { n := 76, l := [] } m) (fun y9 m => K (.exit 0) { n := 76, l := [(9, y9)] } m) n x5 x6 x7 x8 x9 x32 x33 m
  | _ => none
noncomputable def lp73 (call : CallF) (fuel base : Nat) : Lp := lpsel [(2, fun T m K => kslots 76 [5, 6, 7, 8, 9, 12, 32, 33, 58, 59, 60] T fun vs => r73_L2_R call fuel base fuel vs m K), (0, fun T m K => kslots 76 [5, 6, 7, 8, 9, 32, 33] T fun vs => r73_L0_R call fuel base fuel vs m K)]
noncomputable def c73 : Code := Try.f73.body.getD .skip
theorem r73_L2_lk (call : CallF) (fuel base : Nat) : LoopsOk E call (lp73 call fuel base) fuel base 2 (loopB (blockB (seqR (seqR (seqR (seqR (blockB (seqL (seqR (seqR (loopB (blockB (seqR (seqL (seqR (seqR (seqR (seqR c73)))))))))))))))))) = (And True (And (And True True) (And (And True True) True))) := by kernel_rfl
theorem r73_L2_ok (call : CallF) (fuel base : Nat) : LpOk E call (lp73 call fuel base) fuel base 2 (loopB (blockB (seqR (seqR (seqR (seqR (blockB (seqL (seqR (seqR (loopB (blockB (seqR (seqL (seqR (seqR (seqR (seqR c73)))))))))))))))))) := by
  refine loop_ok (kp := keep73) (hb := Eq.mpr (r73_L2_lk call fuel base) (And.intro trivial (And.intro (And.intro trivial trivial) (And.intro (And.intro trivial trivial) trivial)))) 76 [5, 6, 7, 8, 9, 12, 32, 33, 58, 59, 60] (fun n vs m K => r73_L2_R call fuel base n vs m K) ?_ ?_ (fun _ _ _ => rfl)
  · intro vs m K
    unfold r73_L2_R
    split <;> rfl
  · intro n vs m K hl
    match vs, hl with
    | [x5, x6, x7, x8, x9, x12, x32, x33, x58, x59, x60], _ => show _ = _; kernel_rfl
theorem r73_L0_lk (call : CallF) (fuel base : Nat) : LoopsOk E call (lp73 call fuel base) fuel base 0 (loopB (blockB (seqR (seqL (seqR (seqR (seqR (seqR c73)))))))) = (And True (And (And True True) (And (And True (And (And True (And True True)) (And True (And True (LpOk E call (lp73 call fuel base) fuel base 2 (loopB (blockB (seqR (seqR (seqR (seqR (blockB (seqL (seqR (seqR (loopB (blockB (seqR (seqL (seqR (seqR (seqR (seqR c73))))))))))))))))))))))) True))) := by kernel_rfl
theorem r73_L0_ok (call : CallF) (fuel base : Nat) : LpOk E call (lp73 call fuel base) fuel base 0 (loopB (blockB (seqR (seqL (seqR (seqR (seqR (seqR c73)))))))) := by
  refine loop_ok (kp := keep73) (hb := Eq.mpr (r73_L0_lk call fuel base) (And.intro trivial (And.intro (And.intro trivial trivial) (And.intro (And.intro trivial (And.intro (And.intro trivial (And.intro trivial trivial)) (And.intro trivial (And.intro trivial (r73_L2_ok call fuel base))))) trivial)))) 76 [5, 6, 7, 8, 9, 32, 33] (fun n vs m K => r73_L0_R call fuel base n vs m K) ?_ ?_ (fun _ _ _ => rfl)
  · intro vs m K
    unfold r73_L0_R
    split <;> rfl
  · intro n vs m K hl
    match vs, hl with
    | [x5, x6, x7, x8, x9, x32, x33], _ => show _ = _; kernel_rfl
theorem r73_eq (call : CallF) (fuel base : Nat) (x0 : Value) (x1 : Value) (m : M) : kbody E call keep73 (lp73 call fuel base) base Try.f73 [x0, x1] m = r73 call fuel base x0 x1 m := by
  kernel_rfl
noncomputable def rf73 : RF := fun call fuel base args m => match args with
  | [x0, x1] => r73 call fuel base x0 x1 m
  | _ => none
theorem r73_lk (call : CallF) (fuel base : Nat) : LoopsOk E call (lp73 call fuel base) fuel base 0 c73 = (And True (And True (And True (And True (And (And True (LpOk E call (lp73 call fuel base) fuel base 0 (loopB (blockB (seqR (seqL (seqR (seqR (seqR (seqR c73)))))))))) (And True True)))))) := by kernel_rfl
theorem r73_fn : E.P.funcs[73]? = some Try.f73 := by kernel_rfl
theorem r73_body : Try.f73.body = some c73 := by kernel_rfl
theorem rf73_ok : RFok E 73 rf73 := by
  refine ⟨Try.f73, r73_fn, fun call fuel base args m r _ h => ?_⟩
  unfold rf73 at h
  split at h
  · rw [← r73_eq] at h
    exact kbody_sound (c := c73) r73_body (Eq.mpr (r73_lk call fuel base) (And.intro trivial (And.intro trivial (And.intro trivial (And.intro trivial (And.intro (And.intro trivial (r73_L0_ok call fuel base)) (And.intro trivial trivial))))))) h
  · simp at h
end Go.AM
namespace Go.AM
open Go Go.Proofs
noncomputable def r74_L2 (call : CallF) (fuel base : Nat) (kp : Value → M → Res2) (kx2 : Value → Value → Value → Value → Value → Value → M → Res2) (n : Nat) : Value → Value → Value → Value → Value → Value → Value → Value → Value → M → Res2 :=
  Nat.rec (motive := fun _ => Value → Value → Value → Value → Value → Value → Value → Value → Value → M → Res2) (fun _ _ _ _ _ _ _ _ _ _ => none)
    (fun _ ih x1 x2 x5 x7 x8 x9 x25 x26 x27 m =>
      (k1 (mbin E .lss 3 x27 x26) fun v28_10 => (kb v28_10 (k1 (mindexAddr E.P 103 x25 x27) fun v30_11 => (k1 (xload E.P m 33 v30_11) fun v31_12 => (k2 (vcall E.P base m .len [33] [v31_12]) fun v33_13 m => (k1 (mbin E .gtr 3 v33_13 (.int .i64 0)) fun v34_14 => (kb v34_14 (k1 (mindexAddr E.P 23 x5 x9) fun v38_15 => (k1 (xload E.P m 33 v38_15) fun v39_16 => (k1 (mindexAddr E.P 33 v39_16 x27) fun v41_17 => (k1 (xload E.P m 3 v41_17) fun v42_18 => (k1 (mbin E .eql 3 v42_18 (.int .i64 0)) fun v43_19 => (kb v43_19 (k1 (mbin E .sub 3 x9 (.int .i64 1)) fun v48_20 => (k1 (mindexAddr E.P 23 x5 v48_20) fun v49_21 => (k1 (xload E.P m 33 v49_21) fun v50_22 => (k1 (mindexAddr E.P 33 v50_22 x27) fun v52_23 => (k1 (xload E.P m 3 v52_23) fun v53_24 => (k1 (mbin E .gtr 3 v53_24 (.int .i64 0)) fun v54_25 => (kb v54_25 (k2 (xbuildSlice E.P m 33 1 [(0, x9)]) fun v58_26 m => (k1 (mfieldAddr E.P 76 x2 0) fun v60_27 => (k1 (xload E.P m 3 v60_27) fun v61_28 => (kc (call base 107 [x27, v61_28] m) (fun v62_29 m => (k2 (xbuildSlice E.P m 23 2 [(0, v58_26), (1, v62_29)]) fun v63_30 m => (kc (call base 106 [v63_30] m) (fun v64_31 m => (k2 (xbuildSlice E.P m 23 1 [(0, v64_31)]) fun v65_32 m => (k2 (vcall E.P base m .append [23, 23] [x8, v65_32]) fun v66_33 m => (k1 (mbin E .add 3 x27 (.int .i64 1)) fun v67_34 => (ih x1 x2 x5 x7 v66_33 x9 x25 x26 v67_34 m))))) (fun v m => kp v m)))) (fun v m => kp v m))))) (k1 (mbin E .add 3 x27 (.int .i64 1)) fun v67_35 => (ih x1 x2 x5 x7 x8 x9 x25 x26 v67_35 m))))))))) (k1 (mbin E .add 3 x27 (.int .i64 1)) fun v67_36 => (ih x1 x2 x5 x7 x8 x9 x25 x26 v67_36 m)))))))) (k1 (mbin E .add 3 x27 (.int .i64 1)) fun v67_37 => (ih x1 x2 x5 x7 x8 x9 x25 x26 v67_37 m))))))) (kx2 x1 x2 x5 x7 x8 x9 m)))) n
noncomputable def r74_L0 (call : CallF) (fuel base : Nat) (kp : Value → M → Res2) (kx0 : Value → M → Res2) (n : Nat) : Value → Value → Value → Value → Value → Value → M → Res2 :=
  Nat.rec (motive := fun _ => Value → Value → Value → Value → Value → Value → M → Res2) (fun _ _ _ _ _ _ _ => none)
    (fun _ ih x1 x2 x5 x7 x8 x9 m =>
      (k1 (mbin E .lss 3 x9 x1) fun v22_8 => (kb v22_8 (k2 (vcall E.P base m .len [103] [x7]) fun v26_9 m => (r74_L2 call fuel base (fun v m => kp v m) (fun y1_38 y2_39 y5_40 y7_41 y8_42 y9_43 m => (k1 (mbin E .add 3 y9_43 (.int .i64 1)) fun v24_44 => (ih y1_38 y2_39 y5_40 y7_41 y8_42 v24_44 m))) fuel x1 x2 x5 x7 x8 x9 x7 v26_9 (.int .i64 0) m)) (kx0 x8 m)))) n
noncomputable def r74 (call : CallF) (fuel base : Nat) (x0 : Value) (x1 : Value) (m : M) : Res2 :=
  (k2 (xbox m x0) fun v2_1 m => (k1 (xload E.P m 76 v2_1) fun v12_2 => (kc (call base 98 [v12_2, x1] m) (fun v14_3 m => (k1 (xload E.P m 76 v2_1) fun v16_4 => (kc (call base 96 [v16_4] m) (fun v17_5 m => (k1 (mextract 0 v17_5) fun v18_6 => (k1 (mextract 1 v17_5) fun v19_7 => (r74_L0 call fuel base (fun v m => some (.pan v, m)) (fun y8_45 m => (fVal y8_45 fun v => some (.ret v, m))) fuel x1 v2_1 v14_3 v19_7 (.slice none 0 0) (.int .i64 1) m)))) (fun v m => some (.pan v, m))))) (fun v m => some (.pan v, m)))))
def keep74 : Keep := { region := fun i => ([[1, 2], [1, 2, 5], [1, 2, 5, 7], [1, 2, 5, 7, 8], [1, 2, 5, 7, 8, 9], [1, 2, 5, 7, 8, 9, 22], [1, 2, 5, 7, 8, 9], [1, 2, 5, 7, 8, 9, 25, 26, 27], [1, 2, 5, 7, 8, 9, 25, 26, 27, 28], [1, 2, 5, 7, 8, 9, 10, 11, 25, 26, 27], [1, 2, 5, 7, 8, 9, 10, 25, 26, 27, 55], [1, 2, 5, 7, 8, 9, 25, 26, 27], [1, 2, 5, 7, 8, 9, 25, 26, 27], [4]] : List (List Nat))[i]?, exit := fun i => ([[8], [1, 2, 5, 7, 8, 9], [1, 2, 5, 7, 8, 9], [1, 2, 5, 7, 8, 9, 25, 26, 27]] : List (List Nat))[i]?, ret := some [4] }
noncomputable def r74_L2_R (call : CallF) (fuel base n : Nat) (vs : List Value) (m : M) (K : KT) : Res2 := match vs with
  | [x1, x2, x5, x7, x8, x9, x25, x26, x27] => r74_L2 call fuel base (fun v m => K (.pan v) { n := 69, l := [] } m) (fun y1 y2 y5 y7 y8 y9 m => K (.exit 2) { n := 69, l := [(1, y1), (2, y2), (5, y5), (7, y7), (8, y8), (9, y9)] } m) n x1 x2 x5 x7 x8 x9 x25 x26 x27 m
  | _ => none
noncomputable def r74_L0_R (call : CallF) (fuel base n : Nat) (vs : List Value) (m : M) (K : KT) : Res2 := match vs with
  | [x1, x2, x5, x7, x8, x9] => r74_L0 call fuel base (fun v m => K (.pan v) { n := 69, l := [] } m) (fun y8 m => K (.exit 0) { n := 69, l := [(8, y8)] } m) n x1 x2 x5 x7 x8 x9 m
  | _ => none
noncomputable def lp74 (call : CallF) (fuel base : Nat) : Lp := lpsel [(2, fun T m K => kslots 69 [1, 2, 5, 7, 8, 9, 25, 26, 27] T fun vs => r74_L2_R call fuel base fuel vs m K), (0, fun T m K => kslots 69 [1, 2, 5, 7, 8, 9] T fun vs => r74_L0_R call fuel base fuel vs m K)]
noncomputable def c74 : Code := Try.f74.body.getD .skip
theorem r74_L2_lk (call : CallF) (fuel base : Nat) : LoopsOk E call (lp74 call fuel base) fuel base 2 (loopB (blockB (seqR (blockB (seqL (seqR (loopB (blockB (seqR (seqL (seqR (seqR (seqR (seqR c74)))))))))))))) = (And True (And (And True True) (And (And True (And True (And True True))) True))) := by kernel_rfl
theorem r74_L2_ok (call : CallF) (fuel base : Nat) : LpOk E call (lp74 call fuel base) fuel base 2 (loopB (blockB (seqR (blockB (seqL (seqR (loopB (blockB (seqR (seqL (seqR (seqR (seqR (seqR c74)))))))))))))) := by
  refine loop_ok (kp := keep74) (hb := Eq.mpr (r74_L2_lk call fuel base) (And.intro trivial (And.intro (And.intro trivial trivial) (And.intro (And.intro trivial (And.intro trivial (And.intro trivial trivial))) trivial)))) 69 [1, 2, 5, 7, 8, 9, 25, 26, 27] (fun n vs m K => r74_L2_R call fuel base n vs m K) ?_ ?_ (fun _ _ _ => rfl)
  · intro vs m K
    unfold r74_L2_R
    split <;> rfl
  · intro n vs m K hl
    match vs, hl with
    | [x1, x2, x5, x7, x8, x9, x25, x26, x27], _ => show _ = _; kernel_rfl
theorem r74_L0_lk (call : CallF) (fuel base : Nat) : LoopsOk E call (lp74 call fuel base) fuel base 0 (loopB (blockB (seqR (seqL (seqR (seqR (seqR (seqR c74)))))))) = (And (And True (And True True)) (And (And True (LpOk E call (lp74 call fuel base) fuel base 2 (loopB (blockB (seqR (blockB (seqL (seqR (loopB (blockB (seqR (seqL (seqR (seqR (seqR (seqR c74)))))))))))))))) True)) := by kernel_rfl
theorem r74_L0_ok (call : CallF) (fuel base : Nat) : LpOk E call (lp74 call fuel base) fuel base 0 (loopB (blockB (seqR (seqL (seqR (seqR (seqR (seqR c74)))))))) := by
  refine loop_ok (kp := keep74) (hb := Eq.mpr (r74_L0_lk call fuel base) (And.intro (And.intro trivial (And.intro trivial trivial)) (And.intro (And.intro trivial (r74_L2_ok call fuel base)) trivial))) 69 [1, 2, 5, 7, 8, 9] (fun n vs m K => r74_L0_R call fuel base n vs m K) ?_ ?_ (fun _ _ _ => rfl)
  · intro vs m K
    unfold r74_L0_R
    split <;> rfl
  · intro n vs m K hl
    match vs, hl with
    | [x1, x2, x5, x7, x8, x9], _ => show _ = _; kernel_rfl
theorem r74_eq (call : CallF) (fuel base : Nat) (x0 : Value) (x1 : Value) (m : M) : kbody E call keep74 (lp74 call fuel base) base Try.f74 [x0, x1] m = r74 call fuel base x0 x1 m := by
  kernel_rfl
noncomputable def rf74 : RF := fun call fuel base args m => match args with
  | [x0, x1] => r74 call fuel base x0 x1 m
  | _ => none
theorem r74_lk (call : CallF) (fuel base : Nat) : LoopsOk E call (lp74 call fuel base) fuel base 0 c74 = (And True (And True (And True (And True (And (And True (LpOk E call (lp74 call fuel base) fuel base 0 (loopB (blockB (seqR (seqL (seqR (seqR (seqR (seqR c74)))))))))) (And True True)))))) := by kernel_rfl
theorem r74_fn : E.P.funcs[74]? = some Try.f74 := by kernel_rfl
theorem r74_body : Try.f74.body = some c74 := by kernel_rfl
theorem rf74_ok : RFok E 74 rf74 := by
  refine ⟨Try.f74, r74_fn, fun call fuel base args m r _ h => ?_⟩
  unfold rf74 at h
  split at h
  · rw [← r74_eq] at h
    exact kbody_sound (c := c74) r74_body (Eq.mpr (r74_lk call fuel base) (And.intro trivial (And.intro trivial (And.intro trivial (And.intro trivial (And.intro (And.intro trivial (r74_L0_ok call fuel base)) (And.intro trivial trivial))))))) h
  · simp at h
end Go.AM
namespace Go.AM
open Go Go.Proofs
noncomputable def r80 (call : CallF) (fuel base : Nat) (x0 : Value) (m : M) : Res2 :=
  (k1 (mbin E .leq 3 (.int .i64 1) x0) fun v4_1 => (kb v4_1 (k1 (mbin E .leq 3 x0 (.int .i64 4)) fun v7_2 => (fVal v7_2 fun v => some (.ret v, m))) (fVal (.bool false) fun v => some (.ret v, m))))
def keep80 : Keep := { region := fun i => ([[0], [2]] : List (List Nat))[i]?, exit := fun i => ([] : List (List Nat))[i]?, ret := some [2] }
noncomputable def lp80 (call : CallF) (fuel base : Nat) : Lp := lpsel []
noncomputable def c80 : Code := Try.f80.body.getD .skip
theorem r80_eq (call : CallF) (fuel base : Nat) (x0 : Value) (m : M) : kbody E call keep80 (lp80 call fuel base) base Try.f80 [x0] m = r80 call fuel base x0 m := by
  kernel_rfl
noncomputable def rf80 : RF := fun call fuel base args m => match args with
  | [x0] => r80 call fuel base x0 m
  | _ => none
theorem r80_lk (call : CallF) (fuel base : Nat) : LoopsOk E call (lp80 call fuel base) fuel base 0 c80 = (And True (And True True)) := by kernel_rfl
theorem r80_fn : E.P.funcs[80]? = some Try.f80 := by kernel_rfl
theorem r80_body : Try.f80.body = some c80 := by kernel_rfl
theorem rf80_ok : RFok E 80 rf80 := by
  refine ⟨Try.f80, r80_fn, fun call fuel base args m r _ h => ?_⟩
  unfold rf80 at h
  split at h
  · rw [← r80_eq] at h
    exact kbody_sound (c := c80) r80_body (Eq.mpr (r80_lk call fuel base) (And.intro trivial (And.intro trivial trivial))) h
  · simp at h
end Go.AM
namespace Go.AM
open Go Go.Proofs
noncomputable def r81 (call : CallF) (fuel base : Nat) (x0 : Value) (x1 : Value) (m : M) : Res2 :=
  (kc (call base 112 [x0, x1] m) (fun v7_1 m => (k1 (mbin E .geq 3 v7_1 (.int .i64 0)) fun v8_2 => (fVal v8_2 fun v => some (.ret v, m)))) (fun v m => some (.pan v, m)))
def keep81 : Keep := { region := fun i => ([[0, 1], [4]] : List (List Nat))[i]?, exit := fun i => ([] : List (List Nat))[i]?, ret := some [4] }
noncomputable def lp81 (call : CallF) (fuel base : Nat) : Lp := lpsel []
noncomputable def c81 : Code := Try.f81.body.getD .skip
theorem r81_eq (call : CallF) (fuel base : Nat) (x0 : Value) (x1 : Value) (m : M) : kbody E call keep81 (lp81 call fuel base) base Try.f81 [x0, x1] m = r81 call fuel base x0 x1 m := by
  kernel_rfl
noncomputable def rf81 : RF := fun call fuel base args m => match args with
  | [x0, x1] => r81 call fuel base x0 x1 m
  | _ => none
theorem r81_lk (call : CallF) (fuel base : Nat) : LoopsOk E call (lp81 call fuel base) fuel base 0 c81 = (And True (And True True)) := by kernel_rfl
theorem r81_fn : E.P.funcs[81]? = some Try.f81 := by kernel_rfl
theorem r81_body : Try.f81.body = some c81 := by kernel_rfl
theorem rf81_ok : RFok E 81 rf81 := by
  refine ⟨Try.f81, r81_fn, fun call fuel base args m r _ h => ?_⟩
  unfold rf81 at h
  split at h
  · rw [← r81_eq] at h
    exact kbody_sound (c := c81) r81_body (Eq.mpr (r81_lk call fuel base) (And.intro trivial (And.intro trivial trivial))) h
  · simp at h
end Go.AM
namespace Go.AM
open Go Go.Proofs
noncomputable def r82 (call : CallF) (fuel base : Nat) (x0 : Value) (m : M) : Res2 :=
  (k1 (mbin E .lss 3 x0 (.int .i64 0)) fun v4_1 => (kb v4_1 (fVal (.bool true) fun v => some (.ret v, m)) (k1 (mbin E .geq 3 x0 (.int .i64 8)) fun v7_2 => (fVal v7_2 fun v => some (.ret v, m)))))
def keep82 : Keep := { region := fun i => ([[0], [2]] : List (List Nat))[i]?, exit := fun i => ([] : List (List Nat))[i]?, ret := some [2] }
noncomputable def lp82 (call : CallF) (fuel base : Nat) : Lp := lpsel []
noncomputable def c82 : Code := Try.f82.body.getD .skip
theorem r82_eq (call : CallF) (fuel base : Nat) (x0 : Value) (m : M) : kbody E call keep82 (lp82 call fuel base) base Try.f82 [x0] m = r82 call fuel base x0 m := by
  kernel_rfl
noncomputable def rf82 : RF := fun call fuel base args m => match args with
  | [x0] => r82 call fuel base x0 m
  | _ => none
theorem r82_lk (call : CallF) (fuel base : Nat) : LoopsOk E call (lp82 call fuel base) fuel base 0 c82 = (And True (And True True)) := by kernel_rfl
theorem r82_fn : E.P.funcs[82]? = some Try.f82 := by kernel_rfl
theorem r82_body : Try.f82.body = some c82 := by kernel_rfl
theorem rf82_ok : RFok E 82 rf82 := by
  refine ⟨Try.f82, r82_fn, fun call fuel base args m r _ h => ?_⟩
  unfold rf82 at h
  split at h
  · rw [← r82_eq] at h
    exact kbody_sound (c := c82) r82_body (Eq.mpr (r82_lk call fuel base) (And.intro trivial (And.intro trivial trivial))) h
  · simp at h
end Go.AM
namespace Go.AM
open Go Go.Proofs
noncomputable def r84 (call : CallF) (fuel base : Nat) (x0 : Value) (x1 : Value) (m : M) : Res2 :=
  (k2 (xbox m x1) fun v3_1 m => (k1 (xload E.P m 45 v3_1) fun v6_2 => (kc (call base 114 [x0, v6_2] m) (fun v7_3 m => (k1 (mbin E .geq 3 v7_3 (.int .i64 0)) fun v8_4 => (fVal v8_4 fun v => some (.ret v, m)))) (fun v m => some (.pan v, m)))))
def keep84 : Keep := { region := fun i => ([[0, 3], [4]] : List (List Nat))[i]?, exit := fun i => ([] : List (List Nat))[i]?, ret := some [4] }
noncomputable def lp84 (call : CallF) (fuel base : Nat) : Lp := lpsel []
noncomputable def c84 : Code := Try.f84.body.getD .skip
theorem r84_eq (call : CallF) (fuel base : Nat) (x0 : Value) (x1 : Value) (m : M) : kbody E call keep84 (lp84 call fuel base) base Try.f84 [x0, x1] m = r84 call fuel base x0 x1 m := by
  kernel_rfl
noncomputable def rf84 : RF := fun call fuel base args m => match args with
  | [x0, x1] => r84 call fuel base x0 x1 m
  | _ => none
theorem r84_lk (call : CallF) (fuel base : Nat) : LoopsOk E call (lp84 call fuel base) fuel base 0 c84 = (And True (And True True)) := by kernel_rfl
theorem r84_fn : E.P.funcs[84]? = some Try.f84 := by kernel_rfl
theorem r84_body : Try.f84.body = some c84 := by kernel_rfl
theorem rf84_ok : RFok E 84 rf84 := by
  refine ⟨Try.f84, r84_fn, fun call fuel base args m r _ h => ?_⟩
  unfold rf84 at h
  split at h
  · rw [← r84_eq] at h
    exact kbody_sound (c := c84) r84_body (Eq.mpr (r84_lk call fuel base) (And.intro trivial (And.intro trivial trivial))) h
  · simp at h
end Go.AM
namespace Go.AM
open Go Go.Proofs
noncomputable def r89 (call : CallF) (fuel base : Nat) (x0 : Value) (m : M) : Res2 :=
  (k1 (mbin E .eql 33 x0 (.slice none 0 0)) fun v4_1 => (kb v4_1 (fVal (.slice none 0 0) fun v => some (.ret v, m)) (k2 (xbuildSlice E.P m 33 0 []) fun v5_2 m => (k2 (vcall E.P base m .append [33, 33] [v5_2, x0]) fun v7_3 m => (fVal v7_3 fun v => some (.ret v, m))))))
def keep89 : Keep := { region := fun i => ([[0], [0, 4], [2], [2]] : List (List Nat))[i]?, exit := fun i => ([] : List (List Nat))[i]?, ret := some [2] }
noncomputable def lp89 (call : CallF) (fuel base : Nat) : Lp := lpsel []
noncomputable def c89 : Code := Try.f89.body.getD .skip
theorem r89_eq (call : CallF) (fuel base : Nat) (x0 : Value) (m : M) : kbody E call keep89 (lp89 call fuel base) base Try.f89 [x0] m = r89 call fuel base x0 m := by
  kernel_rfl
noncomputable def rf89 : RF := fun call fuel base args m => match args with
  | [x0] => r89 call fuel base x0 m
  | _ => none
theorem r89_lk (call : CallF) (fuel base : Nat) : LoopsOk E call (lp89 call fuel base) fuel base 0 c89 = (And True (And (And True (And (And True True) True)) (And True True))) := by kernel_rfl
theorem r89_fn : E.P.funcs[89]? = some Try.f89 := by kernel_rfl
theorem r89_body : Try.f89.body = some c89 := by kernel_rfl
theorem rf89_ok : RFok E 89 rf89 := by
  refine ⟨Try.f89, r89_fn, fun call fuel base args m r _ h => ?_⟩
  unfold rf89 at h
  split at h
  · rw [← r89_eq] at h
    exact kbody_sound (c := c89) r89_body (Eq.mpr (r89_lk call fuel base) (And.intro trivial (And.intro (And.intro trivial (And.intro (And.intro trivial trivial) trivial)) (And.intro trivial trivial)))) h
  · simp at h
end Go.AM
namespace Go.AM
open Go Go.Proofs
noncomputable def r91_L0 (call : CallF) (fuel base : Nat) (kp : Value → M → Res2) (kr : Value → M → Res2) (kx0 : Value → Value → M → Res2) (n : Nat) : Value → Value → Value → Value → Value → M → Res2 :=
  Nat.rec (motive := fun _ => Value → Value → Value → Value → Value → M → Res2) (fun _ _ _ _ _ _ => none)
    (fun _ ih x0 x1 x9 x10 x11 m =>
      (k1 (mbin E .lss 3 x11 x10) fun v12_2 => (kb v12_2 (k1 (mindexAddr E.P 33 x9 x11) fun v14_3 => (k1 (xload E.P m 3 v14_3) fun v15_4 => (k2 (vcall E.P base m .len [33] [x1]) fun v18_5 m => (k1 (mbin E .geq 3 x11 v18_5) fun v19_6 => (kb v19_6 (kr (.int .i64 1) m) (k1 (mindexAddr E.P 33 x1 x11) fun v22_7 => (k1 (xload E.P m 3 v22_7) fun v23_8 => (kc (call base 115 [v15_4, v23_8] m) (fun v26_9 m => (k1 (mbin E .neq 3 v26_9 (.int .i64 0)) fun v28_10 => (kb v28_10 (kr v26_9 m) (k1 (mbin E .add 3 x11 (.int .i64 1)) fun v30_11 => (ih x0 x1 x9 x10 v30_11 m))))) (fun v m => kp v m))))))))) (kx0 x0 x1 m)))) n
noncomputable def r91 (call : CallF) (fuel base : Nat) (x0 : Value) (x1 : Value) (m : M) : Res2 :=
  (k2 (vcall E.P base m .len [33] [x0]) fun v10_1 m => (r91_L0 call fuel base (fun v m => some (.pan v, m)) (fun y4_12 m => (fVal y4_12 fun v => some (.ret v, m))) (fun y0_13 y1_14 m => (k2 (vcall E.P base m .len [33] [y0_13]) fun v32_15 m => (k2 (vcall E.P base m .len [33] [y1_14]) fun v34_16 m => (k1 (mbin E .lss 3 v32_15 v34_16) fun v35_17 => (kb v35_17 (fVal (.int .i64 (-1)) fun v => some (.ret v, m)) (fVal (.int .i64 0) fun v => some (.ret v, m))))))) fuel x0 x1 x0 v10_1 (.int .i64 0) m))
def keep91 : Keep := { region := fun i => ([[0, 1], [0, 1, 9, 10, 11], [0, 1, 9, 10, 11, 12], [0, 1, 5, 6, 9, 10, 11], [0, 1, 5, 6, 9, 10, 11, 19], [4], [0, 1, 6, 7, 9, 10, 11], [0, 1, 8, 9, 10, 11], [0, 1, 8, 9, 10, 11, 28], [4], [0, 1, 9, 10, 11], [35], [4], [4]] : List (List Nat))[i]?, exit := fun i => ([[0, 1], [0, 1, 9, 10, 11]] : List (List Nat))[i]?, ret := some [4] }
noncomputable def r91_L0_R (call : CallF) (fuel base n : Nat) (vs : List Value) (m : M) (K : KT) : Res2 := match vs with
  | [x0, x1, x9, x10, x11] => r91_L0 call fuel base (fun v m => K (.pan v) { n := 36, l := [] } m) (fun y4 m => K .ret { n := 36, l := [(4, y4)] } m) (fun y0 y1 m => K (.exit 0) { n := 36, l := [(0, y0), (1, y1)] } m) n x0 x1 x9 x10 x11 m
  | _ => none
noncomputable def lp91 (call : CallF) (fuel base : Nat) : Lp := lpsel [(0, fun T m K => kslots 36 [0, 1, 9, 10, 11] T fun vs => r91_L0_R call fuel base fuel vs m K)]
noncomputable def c91 : Code := Try.f91.body.getD .skip
theorem r91_L0_lk (call : CallF) (fuel base : Nat) : LoopsOk E call (lp91 call fuel base) fuel base 0 (loopB (blockB (seqR (seqL (seqR c91))))) = (And True (And (And True True) (And (And True (And (And True (And (And True True) True)) (And True (And True (And True (And (And True True) True)))))) True))) := by kernel_rfl
theorem r91_L0_ok (call : CallF) (fuel base : Nat) : LpOk E call (lp91 call fuel base) fuel base 0 (loopB (blockB (seqR (seqL (seqR c91))))) := by
  refine loop_ok (kp := keep91) (hb := Eq.mpr (r91_L0_lk call fuel base) (And.intro trivial (And.intro (And.intro trivial trivial) (And.intro (And.intro trivial (And.intro (And.intro trivial (And.intro (And.intro trivial trivial) trivial)) (And.intro trivial (And.intro trivial (And.intro trivial (And.intro (And.intro trivial trivial) trivial)))))) trivial)))) 36 [0, 1, 9, 10, 11] (fun n vs m K => r91_L0_R call fuel base n vs m K) ?_ ?_ (fun _ _ _ => rfl)
  · intro vs m K
    unfold r91_L0_R
    split <;> rfl
  · intro n vs m K hl
    match vs, hl with
    | [x0, x1, x9, x10, x11], _ => show _ = _; kernel_rfl
theorem r91_eq (call : CallF) (fuel base : Nat) (x0 : Value) (x1 : Value) (m : M) : kbody E call keep91 (lp91 call fuel base) base Try.f91 [x0, x1] m = r91 call fuel base x0 x1 m := by
  kernel_rfl
noncomputable def rf91 : RF := fun call fuel base args m => match args with
  | [x0, x1] => r91 call fuel base x0 x1 m
  | _ => none
theorem r91_lk (call : CallF) (fuel base : Nat) : LoopsOk E call (lp91 call fuel base) fuel base 0 c91 = (And True (And (And True (LpOk E call (lp91 call fuel base) fuel base 0 (loopB (blockB (seqR (seqL (seqR c91))))))) (And (And True (And (And True True) True)) (And True True)))) := by kernel_rfl
theorem r91_fn : E.P.funcs[91]? = some Try.f91 := by kernel_rfl
theorem r91_body : Try.f91.body = some c91 := by kernel_rfl
theorem rf91_ok : RFok E 91 rf91 := by
  refine ⟨Try.f91, r91_fn, fun call fuel base args m r _ h => ?_⟩
  unfold rf91 at h
  split at h
  · rw [← r91_eq] at h
    exact kbody_sound (c := c91) r91_body (Eq.mpr (r91_lk call fuel base) (And.intro trivial (And.intro (And.intro trivial (r91_L0_ok call fuel base)) (And.intro (And.intro trivial (And.intro (And.intro trivial trivial) trivial)) (And.intro trivial trivial))))) h
  · simp at h
end Go.AM
namespace Go.AM
open Go Go.Proofs
noncomputable def r92_L4 (call : CallF) (fuel base : Nat) (kp : Value → M → Res2) (kx4 : Value → Value → Value → Value → Value → Value → Value → Value → Value → M → Res2) (n : Nat) : Value → Value → Value → Value → Value → Value → Value → Value → Value → Value → Value → Value → Value → M → Res2 :=
  Nat.rec (motive := fun _ => Value → Value → Value → Value → Value → Value → Value → Value → Value → Value → Value → Value → Value → M → Res2) (fun _ _ _ _ _ _ _ _ _ _ _ _ _ _ => none)
    (fun _ ih x0 x2 x8 x9 x11 x16 x17 x20 x21 x22 x26 x27 x28 m =>
      (k1 (mbin E .lss 3 x28 x27) fun v29_10 => (kb v29_10 (k1 (mindexAddr E.P 22 x26 x28) fun v31_11 => (k1 (xload E.P m 45 v31_11) fun v32_12 => (k2 (xalloc E.P m 45) fun v13_13 m => (ks (xstore E.P base m 45 v13_13 v32_12) fun m => (k1 (xload E.P m 45 v13_13) fun v35_14 => (kc (kv call base x2 [x8, v35_14] m) (fun v36_15 m => (kb v36_15 (k1 (mbin E .eql 3 x8 (.int .i64 0)) fun v39_16 => (kbu v39_16 (k1 (xload E.P m 109 x11) fun v49_17 => (k1 (xload E.P m 45 v13_13) fun v52_18 => (kc (call base 116 [v49_17, x8, x28, v52_18] m) (fun v53_19 m => (k2 (xbuildSlice E.P m 74 1 [(0, v53_19)]) fun v54_20 m => (k2 (vcall E.P base m .append [74, 74] [x9, v54_20]) fun v55_21 m => (k1 (mbin E .add 3 x28 (.int .i64 1)) fun v56_22 => (ih x0 x2 x8 v55_21 x11 x16 x17 x20 x21 x22 x26 x27 v56_22 m))))) (fun v m => kp v m)))) (k1 (mfieldAddr E.P 109 x11 4) fun v41_23 => (k1 (xload E.P m 3 v41_23) fun v42_24 => (k1 (mfieldAddr E.P 45 v13_13 3) fun v43_25 => (k1 (xload E.P m 3 v43_25) fun v44_26 => (k1 (mbin E .eql 3 v42_24 v44_26) fun v45_27 => (kb v45_27 (k1 (xload E.P m 109 x11) fun v49_28 => (k1 (xload E.P m 45 v13_13) fun v52_29 => (kc (call base 116 [v49_28, x8, x28, v52_29] m) (fun v53_30 m => (k2 (xbuildSlice E.P m 74 1 [(0, v53_30)]) fun v54_31 m => (k2 (vcall E.P base m .append [74, 74] [x9, v54_31]) fun v55_32 m => (k1 (mbin E .add 3 x28 (.int .i64 1)) fun v56_33 => (ih x0 x2 x8 v55_32 x11 x16 x17 x20 x21 x22 x26 x27 v56_33 m))))) (fun v m => kp v m)))) (k1 (mbin E .add 3 x28 (.int .i64 1)) fun v56_34 => (ih x0 x2 x8 x9 x11 x16 x17 x20 x21 x22 x26 x27 v56_34 m)))))))) (k0 (mpick undef (.bool true) undef) fun v46_35 => (kb v46_35 (k1 (xload E.P m 109 x11) fun v49_36 => (k1 (xload E.P m 45 v13_13) fun v52_37 => (kc (call base 116 [v49_36, x8, x28, v52_37] m) (fun v53_38 m => (k2 (xbuildSlice E.P m 74 1 [(0, v53_38)]) fun v54_39 m => (k2 (vcall E.P base m .append [74, 74] [x9, v54_39]) fun v55_40 m => (k1 (mbin E .add 3 x28 (.int .i64 1)) fun v56_41 => (ih x0 x2 x8 v55_40 x11 x16 x17 x20 x21 x22 x26 x27 v56_41 m))))) (fun v m => kp v m)))) (k1 (mbin E .add 3 x28 (.int .i64 1)) fun v56_42 => (ih x0 x2 x8 x9 x11 x16 x17 x20 x21 x22 x26 x27 v56_42 m)))))) (k1 (mbin E .add 3 x28 (.int .i64 1)) fun v56_43 => (ih x0 x2 x8 x9 x11 x16 x17 x20 x21 x22 x26 x27 v56_43 m)))) (fun v m => kp v m))))))) (kx4 x0 x2 x8 x9 x16 x17 x20 x21 x22 m)))) n
noncomputable def r92_L2 (call : CallF) (fuel base : Nat) (kp : Value → M → Res2) (kx2 : Value → Value → Value → Value → Value → M → Res2) (n : Nat) : Value → Value → Value → Value → Value → Value → Value → Value → Value → M → Res2 :=
  Nat.rec (motive := fun _ => Value → Value → Value → Value → Value → Value → Value → Value → Value → M → Res2) (fun _ _ _ _ _ _ _ _ _ _ => none)
    (fun _ ih x0 x2 x8 x9 x16 x17 x20 x21 x22 m =>
      (k1 (mbin E .lss 3 x22 x21) fun v23_5 => (kb v23_5 (k1 (mindexAddr E.P 74 x20 x22) fun v24_6 => (k1 (xload E.P m 109 v24_6) fun v25_7 => (k2 (xalloc E.P m 109) fun v11_8 m => (ks (xstore E.P base m 109 v11_8 v25_7) fun m => (k2 (vcall E.P base m .len [22] [x0]) fun v27_9 m => (r92_L4 call fuel base (fun v m => kp v m) (fun y0_44 y2_45 y8_46 y9_47 y16_48 y17_49 y20_50 y21_51 y22_52 m => (k1 (mbin E .add 3 y22_52 (.int .i64 1)) fun v57_53 => (ih y0_44 y2_45 y8_46 y9_47 y16_48 y17_49 y20_50 y21_51 v57_53 m))) fuel x0 x2 x8 x9 v11_8 x16 x17 x20 x21 x22 x0 v27_9 (.int .i64 0) m)))))) (kx2 x0 x2 x9 x16 x17 m)))) n
noncomputable def r92_L0 (call : CallF) (fuel base : Nat) (kp : Value → M → Res2) (kx0 : Value → M → Res2) (n : Nat) : Value → Value → Value → Value → Value → M → Res2 :=
  Nat.rec (motive := fun _ => Value → Value → Value → Value → Value → M → Res2) (fun _ _ _ _ _ _ => none)
    (fun _ ih x0 x2 x7 x16 x17 m =>
      (k1 (mbin E .lss 3 x17 x16) fun v18_3 => (kb v18_3 (k2 (vcall E.P base m .len [74] [x7]) fun v21_4 m => (r92_L2 call fuel base (fun v m => kp v m) (fun y0_54 y2_55 y9_56 y16_57 y17_58 m => (k1 (mbin E .add 3 y17_58 (.int .i64 1)) fun v59_59 => (ih y0_54 y2_55 y9_56 y16_57 v59_59 m))) fuel x0 x2 x17 (.slice none 0 0) x16 x17 x7 v21_4 (.int .i64 0) m)) (kx0 x7 m)))) n
noncomputable def r92 (call : CallF) (fuel base : Nat) (x0 : Value) (x1 : Value) (x2 : Value) (m : M) : Res2 :=
  (k1 (mbuild E.P 109 []) fun v14_1 => (k2 (xbuildSlice E.P m 74 1 [(0, v14_1)]) fun v15_2 m => (r92_L0 call fuel base (fun v m => some (.pan v, m)) (fun y7_60 m => (fVal y7_60 fun v => some (.ret v, m))) fuel x0 x2 v15_2 x1 (.int .i64 0) m)))
def keep92 : Keep := { region := fun i => ([[0, 1, 2], [0, 1, 2, 7], [0, 2, 7, 16, 17], [0, 2, 7, 16, 17, 18], [0, 2, 7, 8, 16, 17], [0, 2, 7, 8, 9, 16, 17], [0, 2, 8, 9, 16, 17, 20, 21, 22], [0, 2, 8, 9, 16, 17, 20, 21, 22, 23], [0, 2, 8, 9, 11, 16, 17, 20, 21, 22], [0, 2, 8, 9, 11, 16, 17, 20, 21, 22, 26, 27, 28], [0, 2, 8, 9, 11, 16, 17, 20, 21, 22, 26, 27, 28, 29], [0, 2, 8, 9, 11, 12, 13, 16, 17, 20, 21, 22, 26, 27, 28], [0, 2, 8, 9, 11, 12, 13, 16, 17, 20, 21, 22, 26, 27, 28, 47], [0, 2, 8, 9, 11, 16, 17, 20, 21, 22, 26, 27, 28], [0, 2, 8, 9, 11, 16, 17, 20, 21, 22, 26, 27, 28], [0, 2, 8, 9, 16, 17, 20, 21, 22], [0, 2, 7, 16, 17], [0, 2, 7, 16, 17], [6]] : List (List Nat))[i]?, exit := fun i => ([[7], [0, 2, 7, 16, 17], [0, 2, 9, 16, 17], [0, 2, 8, 9, 16, 17, 20, 21, 22], [0, 2, 8, 9, 16, 17, 20, 21, 22], [0, 2, 8, 9, 11, 16, 17, 20, 21, 22, 26, 27, 28]] : List (List Nat))[i]?, ret := some [6] }
noncomputable def r92_L4_R (call : CallF) (fuel base n : Nat) (vs : List Value) (m : M) (K : KT) : Res2 := match vs with
  | [x0, x2, x8, x9, x11, x16, x17, x20, x21, x22, x26, x27, x28] => r92_L4 call fuel base (fun v m => K (.pan v) { n := 61, l := [] } m) (fun y0 y2 y8 y9 y16 y17 y20 y21 y22 m => K (.exit 4) { n := 61, l := [(0, y0), (2, y2), (8, y8), (9, y9), (16, y16), (17, y17), (20, y20), (21, y21), (22, y22)] } m) n x0 x2 x8 x9 x11 x16 x17 x20 x21 x22 x26 x27 x28 m
  | _ => none
noncomputable def r92_L2_R (call : CallF) (fuel base n : Nat) (vs : List Value) (m : M) (K : KT) : Res2 := match vs with
  | [x0, x2, x8, x9, x16, x17, x20, x21, x22] => r92_L2 call fuel base (fun v m => K (.pan v) { n := 61, l := [] } m) (fun y0 y2 y9 y16 y17 m => K (.exit 2) { n := 61, l := [(0, y0), (2, y2), (9, y9), (16, y16), (17, y17)] } m) n x0 x2 x8 x9 x16 x17 x20 x21 x22 m
  | _ => none
noncomputable def r92_L0_R (call : CallF) (fuel base n : Nat) (vs : List Value) (m : M) (K : KT) : Res2 := match vs with
  | [x0, x2, x7, x16, x17] => r92_L0 call fuel base (fun v m => K (.pan v) { n := 61, l := [] } m) (fun y7 m => K (.exit 0) { n := 61, l := [(7, y7)] } m) n x0 x2 x7 x16 x17 m
  | _ => none
noncomputable def lp92 (call : CallF) (fuel base : Nat) : Lp := lpsel [(4, fun T m K => kslots 61 [0, 2, 8, 9, 11, 16, 17, 20, 21, 22, 26, 27, 28] T fun vs => r92_L4_R call fuel base fuel vs m K), (2, fun T m K => kslots 61 [0, 2, 8, 9, 16, 17, 20, 21, 22] T fun vs => r92_L2_R call fuel base fuel vs m K), (0, fun T m K => kslots 61 [0, 2, 7, 16, 17] T fun vs => r92_L0_R call fuel base fuel vs m K)]
noncomputable def c92 : Code := Try.f92.body.getD .skip
theorem r92_L4_lk (call : CallF) (fuel base : Nat) : LoopsOk E call (lp92 call fuel base) fuel base 4 (loopB (blockB (seqR (seqR (blockB (seqL (seqR (seqR (loopB (blockB (seqR (seqL (seqR (seqR (blockB (seqL (seqR (seqR (loopB (blockB (seqR (seqL (seqR (seqR c92)))))))))))))))))))))))) = (And True (And (And True True) (And (And True (And True (And True True))) True))) := by kernel_rfl
theorem r92_L4_ok (call : CallF) (fuel base : Nat) : LpOk E call (lp92 call fuel base) fuel base 4 (loopB (blockB (seqR (seqR (blockB (seqL (seqR (seqR (loopB (blockB (seqR (seqL (seqR (seqR (blockB (seqL (seqR (seqR (loopB (blockB (seqR (seqL (seqR (seqR c92)))))))))))))))))))))))) := by
  refine loop_ok (kp := keep92) (hb := Eq.mpr (r92_L4_lk call fuel base) (And.intro trivial (And.intro (And.intro trivial trivial) (And.intro (And.intro trivial (And.intro trivial (And.intro trivial trivial))) trivial)))) 61 [0, 2, 8, 9, 11, 16, 17, 20, 21, 22, 26, 27, 28] (fun n vs m K => r92_L4_R call fuel base n vs m K) ?_ ?_ (fun _ _ _ => rfl)
  · intro vs m K
    unfold r92_L4_R
    split <;> rfl
  · intro n vs m K hl
    match vs, hl with
    | [x0, x2, x8, x9, x11, x16, x17, x20, x21, x22, x26, x27, x28], _ => show _ = _; kernel_rfl
theorem r92_L2_lk (call : CallF) (fuel base : Nat) : LoopsOk E call (lp92 call fuel base) fuel base 2 (loopB (blockB (seqR (seqL (seqR (seqR (blockB (seqL (seqR (seqR (loopB (blockB (seqR (seqL (seqR (seqR c92)))))))))))))))) = (And True (And (And True True) (And (And True (And True (LpOk E call (lp92 call fuel base) fuel base 4 (loopB (blockB (seqR (seqR (blockB (seqL (seqR (seqR (loopB (blockB (seqR (seqL (seqR (seqR (blockB (seqL (seqR (seqR (loopB (blockB (seqR (seqL (seqR (seqR c92))))))))))))))))))))))))))) True))) := by kernel_rfl
theorem r92_L2_ok (call : CallF) (fuel base : Nat) : LpOk E call (lp92 call fuel base) fuel base 2 (loopB (blockB (seqR (seqL (seqR (seqR (blockB (seqL (seqR (seqR (loopB (blockB (seqR (seqL (seqR (seqR c92)))))))))))))))) := by
  refine loop_ok (kp := keep92) (hb := Eq.mpr (r92_L2_lk call fuel base) (And.intro trivial (And.intro (And.intro trivial trivial) (And.intro (And.intro trivial (And.intro trivial (r92_L4_ok call fuel base))) trivial)))) 61 [0, 2, 8, 9, 16, 17, 20, 21, 22] (fun n vs m K => r92_L2_R call fuel base n vs m K) ?_ ?_ (fun _ _ _ => rfl)
  · intro vs m K
    unfold r92_L2_R
    split <;> rfl
  · intro n vs m K hl
    match vs, hl with
    | [x0, x2, x8, x9, x16, x17, x20, x21, x22], _ => show _ = _; kernel_rfl
theorem r92_L0_lk (call : CallF) (fuel base : Nat) : LoopsOk E call (lp92 call fuel base) fuel base 0 (loopB (blockB (seqR (seqL (seqR (seqR c92)))))) = (And True (And (And True True) (And (And True (And True (And (And True (LpOk E call (lp92 call fuel base) fuel base 2 (loopB (blockB (seqR (seqL (seqR (seqR (blockB (seqL (seqR (seqR (loopB (blockB (seqR (seqL (seqR (seqR c92)))))))))))))))))) True))) True))) := by kernel_rfl
theorem r92_L0_ok (call : CallF) (fuel base : Nat) : LpOk E call (lp92 call fuel base) fuel base 0 (loopB (blockB (seqR (seqL (seqR (seqR c92)))))) := by
  refine loop_ok (kp := keep92) (hb := Eq.mpr (r92_L0_lk call fuel base) (And.intro trivial (And.intro (And.intro trivial trivial) (And.intro (And.intro trivial (And.intro trivial (And.intro (And.intro trivial (r92_L2_ok call fuel base)) trivial))) trivial)))) 61 [0, 2, 7, 16, 17] (fun n vs m K => r92_L0_R call fuel base n vs m K) ?_ ?_ (fun _ _ _ => rfl)
  · intro vs m K
    unfold r92_L0_R
    split <;> rfl
  · intro n vs m K hl
    match vs, hl with
    | [x0, x2, x7, x16, x17], _ => show _ = _; kernel_rfl
theorem r92_eq (call : CallF) (fuel base : Nat) (x0 : Value) (x1 : Value) (x2 : Value) (m : M) : kbody E call keep92 (lp92 call fuel base) base Try.f92 [x0, x1, x2] m = r92 call fuel base x0 x1 x2 m := by
  kernel_rfl
noncomputable def rf92 : RF := fun call fuel base args m => match args with
  | [x0, x1, x2] => r92 call fuel base x0 x1 x2 m
  | _ => none
theorem r92_lk (call : CallF) (fuel base : Nat) : LoopsOk E call (lp92 call fuel base) fuel base 0 c92 = (And True (And True (And (And True (LpOk E call (lp92 call fuel base) fuel base 0 (loopB (blockB (seqR (seqL (seqR (seqR c92)))))))) (And True True)))) := by kernel_rfl
theorem r92_fn : E.P.funcs[92]? = some Try.f92 := by kernel_rfl
theorem r92_body : Try.f92.body = some c92 := by kernel_rfl
theorem rf92_ok : RFok E 92 rf92 := by
  refine ⟨Try.f92, r92_fn, fun call fuel base args m r _ h => ?_⟩
  unfold rf92 at h
  split at h
  · rw [← r92_eq] at h
    exact kbody_sound (c := c92) r92_body (Eq.mpr (r92_lk call fuel base) (And.intro trivial (And.intro trivial (And.intro (And.intro trivial (r92_L0_ok call fuel base)) (And.intro trivial trivial))))) h
  · simp at h
end Go.AM
namespace Go.AM
open Go Go.Proofs
noncomputable def r93 (call : CallF) (fuel base : Nat) (x0 : Value) (x1 : Value) (m : M) : Res2 :=
  (k2 (xbox m x1) fun v3_1 m => (fVal (.bool true) fun v => some (.ret v, m)))
def keep93 : Keep := { region := fun i => ([[], [4]] : List (List Nat))[i]?, exit := fun i => ([] : List (List Nat))[i]?, ret := some [4] }
noncomputable def lp93 (call : CallF) (fuel base : Nat) : Lp := lpsel []
noncomputable def c93 : Code := Try.f93.body.getD .skip
theorem r93_eq (call : CallF) (fuel base : Nat) (x0 : Value) (x1 : Value) (m : M) : kbody E call keep93 (lp93 call fuel base) base Try.f93 [x0, x1] m = r93 call fuel base x0 x1 m := by
  kernel_rfl
noncomputable def rf93 : RF := fun call fuel base args m => match args with
  | [x0, x1] => r93 call fuel base x0 x1 m
  | _ => none
theorem r93_lk (call : CallF) (fuel base : Nat) : LoopsOk E call (lp93 call fuel base) fuel base 0 c93 = (And True (And True True)) := by kernel_rfl
theorem r93_fn : E.P.funcs[93]? = some Try.f93 := by kernel_rfl
theorem r93_body : Try.f93.body = some c93 := by kernel_rfl
theorem rf93_ok : RFok E 93 rf93 := by
  refine ⟨Try.f93, r93_fn, fun call fuel base args m r _ h => ?_⟩
  unfold rf93 at h
  split at h
  · rw [← r93_eq] at h
    exact kbody_sound (c := c93) r93_body (Eq.mpr (r93_lk call fuel base) (And.intro trivial (And.intro trivial trivial))) h
  · simp at h
end Go.AM
namespace Go.AM
open Go Go.Proofs
noncomputable def r94_L0 (call : CallF) (fuel base : Nat) (kx0 : Value → M → Res2) (n : Nat) : Value → Value → Value → M → Res2 :=
  Nat.rec (motive := fun _ => Value → Value → Value → M → Res2) (fun _ _ _ _ => none)
    (fun _ ih x3 x4 x5 m =>
      (k1 (mbin E .lss 3 x5 x4) fun v6_1 => (kb v6_1 (k1 (mbin E .mul 3 x3 (.int .i64 8)) fun v8_2 => (k1 (mbin E .add 3 x5 (.int .i64 1)) fun v9_3 => (ih v8_2 x4 v9_3 m))) (kx0 x3 m)))) n
noncomputable def r94 (call : CallF) (fuel base : Nat) (x0 : Value) (m : M) : Res2 :=
  (r94_L0 call fuel base (fun y3_4 m => (fVal y3_4 fun v => some (.ret v, m))) fuel (.int .i64 1) x0 (.int .i64 0) m)
def keep94 : Keep := { region := fun i => ([[0], [0, 3], [3, 4, 5], [3, 4, 5, 6], [3, 4, 5], [3, 4, 5], [2]] : List (List Nat))[i]?, exit := fun i => ([[3], [3, 4, 5]] : List (List Nat))[i]?, ret := some [2] }
noncomputable def r94_L0_R (call : CallF) (fuel base n : Nat) (vs : List Value) (m : M) (K : KT) : Res2 := match vs with
  | [x3, x4, x5] => r94_L0 call fuel base (fun y3 m => K (.exit 0) { n := 11, l := [(3, y3)] } m) n x3 x4 x5 m
  | _ => none
noncomputable def lp94 (call : CallF) (fuel base : Nat) : Lp := lpsel [(0, fun T m K => kslots 11 [3, 4, 5] T fun vs => r94_L0_R call fuel base fuel vs m K)]
noncomputable def c94 : Code := Try.f94.body.getD .skip
theorem r94_L0_lk (call : CallF) (fuel base : Nat) : LoopsOk E call (lp94 call fuel base) fuel base 0 (loopB (blockB (seqR (seqL (seqR (seqR c94)))))) = (And True (And (And True True) (And True True))) := by kernel_rfl
theorem r94_L0_ok (call : CallF) (fuel base : Nat) : LpOk E call (lp94 call fuel base) fuel base 0 (loopB (blockB (seqR (seqL (seqR (seqR c94)))))) := by
  refine loop_ok (kp := keep94) (hb := Eq.mpr (r94_L0_lk call fuel base) (And.intro trivial (And.intro (And.intro trivial trivial) (And.intro trivial trivial)))) 11 [3, 4, 5] (fun n vs m K => r94_L0_R call fuel base n vs m K) ?_ ?_ (fun _ _ _ => rfl)
  · intro vs m K
    unfold r94_L0_R
    split <;> rfl
  · intro n vs m K hl
    match vs, hl with
    | [x3, x4, x5], _ => show _ = _; kernel_rfl
theorem r94_eq (call : CallF) (fuel base : Nat) (x0 : Value) (m : M) : kbody E call keep94 (lp94 call fuel base) base Try.f94 [x0] m = r94 call fuel base x0 m := by
  kernel_rfl
noncomputable def rf94 : RF := fun call fuel base args m => match args with
  | [x0] => r94 call fuel base x0 m
  | _ => none
theorem r94_lk (call : CallF) (fuel base : Nat) : LoopsOk E call (lp94 call fuel base) fuel base 0 c94 = (And True (And True (And (And True (LpOk E call (lp94 call fuel base) fuel base 0 (loopB (blockB (seqR (seqL (seqR (seqR c94)))))))) (And True True)))) := by kernel_rfl
theorem r94_fn : E.P.funcs[94]? = some Try.f94 := by kernel_rfl
theorem r94_body : Try.f94.body = some c94 := by kernel_rfl
theorem rf94_ok : RFok E 94 rf94 := by
  refine ⟨Try.f94, r94_fn, fun call fuel base args m r _ h => ?_⟩
  unfold rf94 at h
  split at h
  · rw [← r94_eq] at h
    exact kbody_sound (c := c94) r94_body (Eq.mpr (r94_lk call fuel base) (And.intro trivial (And.intro trivial (And.intro (And.intro trivial (r94_L0_ok call fuel base)) (And.intro trivial trivial))))) h
  · simp at h
end Go.AM
namespace Go.AM
open Go Go.Proofs
noncomputable def r95_L0 (call : CallF) (fuel base : Nat) (kx0 : Value → M → Res2) (n : Nat) : Value → Value → Value → Value → M → Res2 :=
  Nat.rec (motive := fun _ => Value → Value → Value → Value → M → Res2) (fun _ _ _ _ _ => none)
    (fun _ ih x3 x6 x7 x8 m =>
      (k1 (mbin E .lss 3 x8 x7) fun v9_2 => (kb v9_2 (k1 (mindexAddr E.P 33 x6 x8) fun v10_3 => (k1 (xload E.P m 3 v10_3) fun v11_4 => (k1 (mbin E .mul 3 x3 (.int .i64 8)) fun v13_5 => (k1 (mbin E .add 3 v13_5 v11_4) fun v15_6 => (k1 (mbin E .add 3 x8 (.int .i64 1)) fun v16_7 => (ih v15_6 x6 x7 v16_7 m)))))) (kx0 x3 m)))) n
noncomputable def r95 (call : CallF) (fuel base : Nat) (x0 : Value) (m : M) : Res2 :=
  (k2 (vcall E.P base m .len [33] [x0]) fun v7_1 m => (r95_L0 call fuel base (fun y3_8 m => (fVal y3_8 fun v => some (.ret v, m))) fuel (.int .i64 0) x0 v7_1 (.int .i64 0) m))
def keep95 : Keep := { region := fun i => ([[0], [0, 3], [3, 6, 7, 8], [3, 6, 7, 8, 9], [3, 5, 6, 7, 8], [3, 6, 7, 8], [3, 6, 7, 8], [2]] : List (List Nat))[i]?, exit := fun i => ([[3], [3, 6, 7, 8]] : List (List Nat))[i]?, ret := some [2] }
noncomputable def r95_L0_R (call : CallF) (fuel base n : Nat) (vs : List Value) (m : M) (K : KT) : Res2 := match vs with
  | [x3, x6, x7, x8] => r95_L0 call fuel base (fun y3 m => K (.exit 0) { n := 18, l := [(3, y3)] } m) n x3 x6 x7 x8 m
  | _ => none
noncomputable def lp95 (call : CallF) (fuel base : Nat) : Lp := lpsel [(0, fun T m K => kslots 18 [3, 6, 7, 8] T fun vs => r95_L0_R call fuel base fuel vs m K)]
noncomputable def c95 : Code := Try.f95.body.getD .skip
theorem r95_L0_lk (call : CallF) (fuel base : Nat) : LoopsOk E call (lp95 call fuel base) fuel base 0 (loopB (blockB (seqR (seqL (seqR (seqR c95)))))) = (And True (And (And True True) (And (And True True) True))) := by kernel_rfl
theorem r95_L0_ok (call : CallF) (fuel base : Nat) : LpOk E call (lp95 call fuel base) fuel base 0 (loopB (blockB (seqR (seqL (seqR (seqR c95)))))) := by
  refine loop_ok (kp := keep95) (hb := Eq.mpr (r95_L0_lk call fuel base) (And.intro trivial (And.intro (And.intro trivial trivial) (And.intro (And.intro trivial trivial) trivial)))) 18 [3, 6, 7, 8] (fun n vs m K => r95_L0_R call fuel base n vs m K) ?_ ?_ (fun _ _ _ => rfl)
  · intro vs m K
    unfold r95_L0_R
    split <;> rfl
  · intro n vs m K hl
    match vs, hl with
    | [x3, x6, x7, x8], _ => show _ = _; kernel_rfl
theorem r95_eq (call : CallF) (fuel base : Nat) (x0 : Value) (m : M) : kbody E call keep95 (lp95 call fuel base) base Try.f95 [x0] m = r95 call fuel base x0 m := by
  kernel_rfl
noncomputable def rf95 : RF := fun call fuel base args m => match args with
  | [x0] => r95 call fuel base x0 m
  | _ => none
theorem r95_lk (call : CallF) (fuel base : Nat) : LoopsOk E call (lp95 call fuel base) fuel base 0 c95 = (And True (And True (And (And True (LpOk E call (lp95 call fuel base) fuel base 0 (loopB (blockB (seqR (seqL (seqR (seqR c95)))))))) (And True True)))) := by kernel_rfl
theorem r95_fn : E.P.funcs[95]? = some Try.f95 := by kernel_rfl
theorem r95_body : Try.f95.body = some c95 := by kernel_rfl
theorem rf95_ok : RFok E 95 rf95 := by
  refine ⟨Try.f95, r95_fn, fun call fuel base args m r _ h => ?_⟩
  unfold rf95 at h
  split at h
  · rw [← r95_eq] at h
    exact kbody_sound (c := c95) r95_body (Eq.mpr (r95_lk call fuel base) (And.intro trivial (And.intro trivial (And.intro (And.intro trivial (r95_L0_ok call fuel base)) (And.intro trivial trivial))))) h
  · simp at h
end Go.AM
namespace Go.AM
open Go Go.Proofs
noncomputable def r96_L0 (call : CallF) (fuel base : Nat) (kx0 : Value → Value → M → Res2) (n : Nat) : Value → Value → Value → Value → Value → M → Res2 :=
  Nat.rec (motive := fun _ => Value → Value → Value → Value → Value → M → Res2) (fun _ _ _ _ _ _ => none)
    (fun _ ih x4 x5 x17 x18 x19 m =>
      (k1 (mbin E .lss 3 x19 x18) fun v20_13 => (kb v20_13 (k1 (mindexAddr E.P 74 x17 x19) fun v21_14 => (k1 (xload E.P m 109 v21_14) fun v22_15 => (k2 (xalloc E.P m 109) fun v7_16 m => (ks (xstore E.P base m 109 v7_16 v22_15) fun m => (k1 (mfieldAddr E.P 109 v7_16 1) fun v24_17 => (kexv (mexact m v24_17) (k1 (xload E.P m 3 v24_17) fun v25_18 => (k1 (mfieldAddr E.P 109 v7_16 1) fun v27_19 => (k1 (xload E.P m 3 v27_19) fun v28_20 => (k1 (mindexAddr E.P 103 x4 v28_20) fun v29_21 => (k1 (xload E.P m 33 v29_21) fun v30_22 => (k1 (mfieldAddr E.P 109 v7_16 2) fun v31_23 => (k1 (xload E.P m 3 v31_23) fun v32_24 => (k2 (xbuildSlice E.P m 33 1 [(0, v32_24)]) fun v33_25 m => (kexv (mfull [v30_22, v33_25]) (k2 (vcall E.P base m .append [33, 33] [v30_22, v33_25]) fun v34_26 m => (k1 (mindexAddr E.P 103 x4 v25_18) fun v35_27 => (ks (xstore E.P base m 33 v35_27 v34_26) fun m => (k1 (mfieldAddr E.P 109 v7_16 2) fun v37_28 => (kexv (mexact m v37_28) (k1 (xload E.P m 3 v37_28) fun v38_29 => (k1 (mfieldAddr E.P 109 v7_16 2) fun v40_30 => (k1 (xload E.P m 3 v40_30) fun v41_31 => (k1 (mindexAddr E.P 103 x5 v41_31) fun v42_32 => (k1 (xload E.P m 33 v42_32) fun v43_33 => (k1 (mfieldAddr E.P 109 v7_16 1) fun v44_34 => (k1 (xload E.P m 3 v44_34) fun v45_35 => (k2 (xbuildSlice E.P m 33 1 [(0, v45_35)]) fun v46_36 m => (kexv (mfull [v43_33, v46_36]) (k2 (vcall E.P base m .append [33, 33] [v43_33, v46_36]) fun v47_37 m => (k1 (mindexAddr E.P 103 x5 v38_29) fun v48_38 => (ks (xstore E.P base m 33 v48_38 v47_37) fun m => (k1 (mbin E .add 3 x19 (.int .i64 1)) fun v49_39 => (ih x4 x5 x17 x18 v49_39 m)))))))))))))))))))))))))))))))))) (kx0 x4 x5 m)))) n
noncomputable def r96 (call : CallF) (fuel base : Nat) (x0 : Value) (m : M) : Res2 :=
  (k2 (xbox m x0) fun v1_1 m => (k1 (mfieldAddr E.P 76 v1_1 0) fun v8_2 => (k1 (xload E.P m 3 v8_2) fun v9_3 => (kc (kB m (call m.length 94 [v9_3] m)) (fun v10_4 m => (k2 (xmakeSlice E.P m 103 v10_4 v10_4) fun v11_5 m => (k1 (mfieldAddr E.P 76 v1_1 0) fun v12_6 => (k1 (xload E.P m 3 v12_6) fun v13_7 => (kc (kB m (call m.length 94 [v13_7] m)) (fun v14_8 m => (k2 (xmakeSlice E.P m 103 v14_8 v14_8) fun v15_9 m => (k1 (mfieldAddr E.P 76 v1_1 1) fun v16_10 => (k1 (xload E.P m 74 v16_10) fun v17_11 => (k2 (vcall E.P base m .len [74] [v17_11]) fun v18_12 m => (r96_L0 call fuel base (fun y4_40 y5_41 m => (some (.ret (.tuple #[y4_40, y5_41]), m))) fuel v11_5 v15_9 v17_11 v18_12 (.int .i64 0) m)))))) (fun _ _ => none)))))) (fun _ _ => none)))))
def keep96 : Keep := { region := fun i => ([[1], [1, 4, 5], [4, 5, 17, 18, 19], [4, 5, 17, 18, 19, 20], [4, 5, 7, 17, 18, 19], [4, 5, 7, 17, 18, 19], [4, 5, 17, 18, 19], [4, 5, 17, 18, 19], [2, 3]] : List (List Nat))[i]?, exit := fun i => ([[4, 5], [4, 5, 17, 18, 19]] : List (List Nat))[i]?, ret := some [2, 3] }
noncomputable def r96_L0_R (call : CallF) (fuel base n : Nat) (vs : List Value) (m : M) (K : KT) : Res2 := match vs with
  | [x4, x5, x17, x18, x19] => r96_L0 call fuel base (fun y4 y5 m => K (.exit 0) { n := 52, l := [(4, y4), (5, y5)] } m) n x4 x5 x17 x18 x19 m
  | _ => none
noncomputable def lp96 (call : CallF) (fuel base : Nat) : Lp := lpsel [(0, fun T m K => kslots 52 [4, 5, 17, 18, 19] T fun vs => r96_L0_R call fuel base fuel vs m K)]
noncomputable def c96 : Code := Try.f96.body.getD .skip
theorem r96_L0_lk (call : CallF) (fuel base : Nat) : LoopsOk E call (lp96 call fuel base) fuel base 0 (loopB (blockB (seqR (seqL (seqR (seqR c96)))))) = (And True (And (And True True) (And (And True (And True True)) True))) := by kernel_rfl
theorem r96_L0_ok (call : CallF) (fuel base : Nat) : LpOk E call (lp96 call fuel base) fuel base 0 (loopB (blockB (seqR (seqL (seqR (seqR c96)))))) := by
  refine loop_ok (kp := keep96) (hb := Eq.mpr (r96_L0_lk call fuel base) (And.intro trivial (And.intro (And.intro trivial trivial) (And.intro (And.intro trivial (And.intro trivial trivial)) trivial)))) 52 [4, 5, 17, 18, 19] (fun n vs m K => r96_L0_R call fuel base n vs m K) ?_ ?_ (fun _ _ _ => rfl)
  · intro vs m K
    unfold r96_L0_R
    split <;> rfl
  · intro n vs m K hl
    match vs, hl with
    | [x4, x5, x17, x18, x19], _ => show _ = _; kernel_rfl
theorem r96_eq (call : CallF) (fuel base : Nat) (x0 : Value) (m : M) : kbody E call keep96 (lp96 call fuel base) base Try.f96 [x0] m = r96 call fuel base x0 m := by
  kernel_rfl
noncomputable def rf96 : RF := fun call fuel base args m => match args with
  | [x0] => r96 call fuel base x0 m
  | _ => none
theorem r96_lk (call : CallF) (fuel base : Nat) : LoopsOk E call (lp96 call fuel base) fuel base 0 c96 = (And True (And True (And (And True (LpOk E call (lp96 call fuel base) fuel base 0 (loopB (blockB (seqR (seqL (seqR (seqR c96)))))))) (And True True)))) := by kernel_rfl
theorem r96_fn : E.P.funcs[96]? = some Try.f96 := by kernel_rfl
theorem r96_body : Try.f96.body = some c96 := by kernel_rfl
theorem rf96_ok : RFok E 96 rf96 := by
  refine ⟨Try.f96, r96_fn, fun call fuel base args m r _ h => ?_⟩
  unfold rf96 at h
  split at h
  · rw [← r96_eq] at h
    exact kbody_sound (c := c96) r96_body (Eq.mpr (r96_lk call fuel base) (And.intro trivial (And.intro trivial (And.intro (And.intro trivial (r96_L0_ok call fuel base)) (And.intro trivial trivial))))) h
  · simp at h
end Go.AM
namespace Go.AM
open Go Go.Proofs
noncomputable def r97 (call : CallF) (fuel base : Nat) (x0 : Value) (x1 : Value) (x2 : Value) (m : M) : Res2 :=
  (k1 (xload E.P m 33 x1) fun v5_1 => (k1 (mindexAddr E.P 33 v5_1 x0) fun v7_2 => (k1 (xload E.P m 3 v7_2) fun v8_3 => (k1 (xload E.P m 33 x2) fun v9_4 => (k1 (mindexAddr E.P 33 v9_4 (.int .i64 0)) fun v10_5 => (k1 (xload E.P m 3 v10_5) fun v11_6 => (k1 (mbin E .geq 3 v8_3 v11_6) fun v12_7 => (fVal v12_7 fun v => some (.ret v, m)))))))))
def keep97 : Keep := { region := fun i => ([[0, 1, 2], [4]] : List (List Nat))[i]?, exit := fun i => ([] : List (List Nat))[i]?, ret := some [4] }
noncomputable def lp97 (call : CallF) (fuel base : Nat) : Lp := lpsel []
noncomputable def c97 : Code := Try.f97.body.getD .skip
theorem r97_eq (call : CallF) (fuel base : Nat) (x0 : Value) (x1 : Value) (x2 : Value) (m : M) : kbody E call keep97 (lp97 call fuel base) base Try.f97 [x0, x1, x2] m = r97 call fuel base x0 x1 x2 m := by
  kernel_rfl
noncomputable def rf97 : RF := fun call fuel base args m => match args with
  | [x0, x1, x2] => r97 call fuel base x0 x1 x2 m
  | _ => none
theorem r97_lk (call : CallF) (fuel base : Nat) : LoopsOk E call (lp97 call fuel base) fuel base 0 c97 = (And True (And True True)) := by kernel_rfl
theorem r97_fn : E.P.funcs[97]? = some Try.f97 := by kernel_rfl
theorem r97_body : Try.f97.body = some c97 := by kernel_rfl
theorem rf97_ok : RFok E 97 rf97 := by
  refine ⟨Try.f97, r97_fn, fun call fuel base args m r _ h => ?_⟩
  unfold rf97 at h
  split at h
  · rw [← r97_eq] at h
    exact kbody_sound (c := c97) r97_body (Eq.mpr (r97_lk call fuel base) (And.intro trivial (And.intro trivial trivial))) h
  · simp at h
end Go.AM
namespace Go.AM
open Go Go.Proofs
noncomputable def r98_L0 (call : CallF) (fuel base : Nat) (kx0 : Value → Value → M → Res2) (n : Nat) : Value → Value → Value → Value → M → Res2 :=
  Nat.rec (motive := fun _ => Value → Value → Value → Value → M → Res2) (fun _ _ _ _ _ => none)
    (fun _ ih x2 x5 x15 x16 m =>
      (k1 (mbin E .lss 3 x16 x15) fun v17_7 => (kb v17_7 (k1 (mindexAddr E.P 23 x5 (.int .i64 0)) fun v20_8 => (k1 (xload E.P m 33 v20_8) fun v21_9 => (k1 (mindexAddr E.P 33 v21_9 x16) fun v23_10 => (ks (xstore E.P base m 3 v23_10 (.int .i64 1)) fun m => (k1 (mbin E .add 3 x16 (.int .i64 1)) fun v24_11 => (ih x2 x5 x15 v24_11 m)))))) (kx0 x2 x5 m)))) n
noncomputable def r98 (call : CallF) (fuel base : Nat) (x0 : Value) (x1 : Value) (m : M) : Res2 :=
  (k2 (xbox m x0) fun v2_1 m => (k1 (xload E.P m 76 v2_1) fun v9_2 => (kc (call base 104 [v9_2, x1] m) (fun v11_3 m => (k1 (mindexAddr E.P 23 v11_3 (.int .i64 0)) fun v13_4 => (k1 (xload E.P m 33 v13_4) fun v14_5 => (k2 (vcall E.P base m .len [33] [v14_5]) fun v15_6 m => (r98_L0 call fuel base (fun y2_12 y5_13 m => (k1 (xload E.P m 76 y2_12) fun v26_14 => (kc (call base 96 [v26_14] m) (fun v27_15 m => (k1 (mextract 0 v27_15) fun v28_16 => (k1 (mextract 1 v27_15) fun v29_17 => (kc (call base 117 [v29_17, y5_13] m) (fun v32_18 m => (fVal y5_13 fun v => some (.ret v, m))) (fun v m => some (.pan v, m)))))) (fun v m => some (.pan v, m))))) fuel v2_1 v11_3 v15_6 (.int .i64 0) m))))) (fun v m => some (.pan v, m)))))
def keep98 : Keep := { region := fun i => ([[1, 2], [2, 5], [2, 5, 15, 16], [2, 5, 15, 16, 17], [2, 5, 6, 15, 16], [2, 5, 15, 16], [2, 5, 15, 16], [5, 8], [5], [4]] : List (List Nat))[i]?, exit := fun i => ([[2, 5], [2, 5, 15, 16]] : List (List Nat))[i]?, ret := some [4] }
noncomputable def r98_L0_R (call : CallF) (fuel base n : Nat) (vs : List Value) (m : M) (K : KT) : Res2 := match vs with
  | [x2, x5, x15, x16] => r98_L0 call fuel base (fun y2 y5 m => K (.exit 0) { n := 34, l := [(2, y2), (5, y5)] } m) n x2 x5 x15 x16 m
  | _ => none
noncomputable def lp98 (call : CallF) (fuel base : Nat) : Lp := lpsel [(0, fun T m K => kslots 34 [2, 5, 15, 16] T fun vs => r98_L0_R call fuel base fuel vs m K)]
noncomputable def c98 : Code := Try.f98.body.getD .skip
theorem r98_L0_lk (call : CallF) (fuel base : Nat) : LoopsOk E call (lp98 call fuel base) fuel base 0 (loopB (blockB (seqR (seqL (seqR (seqR c98)))))) = (And True (And (And True True) (And (And True True) True))) := by kernel_rfl
theorem r98_L0_ok (call : CallF) (fuel base : Nat) : LpOk E call (lp98 call fuel base) fuel base 0 (loopB (blockB (seqR (seqL (seqR (seqR c98)))))) := by
  refine loop_ok (kp := keep98) (hb := Eq.mpr (r98_L0_lk call fuel base) (And.intro trivial (And.intro (And.intro trivial trivial) (And.intro (And.intro trivial trivial) trivial)))) 34 [2, 5, 15, 16] (fun n vs m K => r98_L0_R call fuel base n vs m K) ?_ ?_ (fun _ _ _ => rfl)
  · intro vs m K
    unfold r98_L0_R
    split <;> rfl
  · intro n vs m K hl
    match vs, hl with
    | [x2, x5, x15, x16], _ => show _ = _; kernel_rfl
theorem r98_eq (call : CallF) (fuel base : Nat) (x0 : Value) (x1 : Value) (m : M) : kbody E call keep98 (lp98 call fuel base) base Try.f98 [x0, x1] m = r98 call fuel base x0 x1 m := by
  kernel_rfl
noncomputable def rf98 : RF := fun call fuel base args m => match args with
  | [x0, x1] => r98 call fuel base x0 x1 m
  | _ => none
theorem r98_lk (call : CallF) (fuel base : Nat) : LoopsOk E call (lp98 call fuel base) fuel base 0 c98 = (And True (And True (And (And True (LpOk E call (lp98 call fuel base) fuel base 0 (loopB (blockB (seqR (seqL (seqR (seqR c98)))))))) (And True (And True (And True True)))))) := by kernel_rfl
theorem r98_fn : E.P.funcs[98]? = some Try.f98 := by kernel_rfl
theorem r98_body : Try.f98.body = some c98 := by kernel_rfl
theorem rf98_ok : RFok E 98 rf98 := by
  refine ⟨Try.f98, r98_fn, fun call fuel base args m r _ h => ?_⟩
  unfold rf98 at h
  split at h
  · rw [← r98_eq] at h
    exact kbody_sound (c := c98) r98_body (Eq.mpr (r98_lk call fuel base) (And.intro trivial (And.intro trivial (And.intro (And.intro trivial (r98_L0_ok call fuel base)) (And.intro trivial (And.intro trivial (And.intro trivial trivial))))))) h
  · simp at h
end Go.AM
namespace Go.AM
open Go Go.Proofs
noncomputable def r99 (call : CallF) (fuel base : Nat) (x0 : Value) (x1 : Value) (m : M) : Res2 :=
  (k1 (mbin E .add 3 x0 x1) fun v7_1 => (k2 (vcall E.P base m .min [3, 3] [v7_1, (.int .i64 1099511627777)]) fun v8_2 m => (fVal v8_2 fun v => some (.ret v, m))))
def keep99 : Keep := { region := fun i => ([[0, 1], [4]] : List (List Nat))[i]?, exit := fun i => ([] : List (List Nat))[i]?, ret := some [4] }
noncomputable def lp99 (call : CallF) (fuel base : Nat) : Lp := lpsel []
noncomputable def c99 : Code := Try.f99.body.getD .skip
theorem r99_eq (call : CallF) (fuel base : Nat) (x0 : Value) (x1 : Value) (m : M) : kbody E call keep99 (lp99 call fuel base) base Try.f99 [x0, x1] m = r99 call fuel base x0 x1 m := by
  kernel_rfl
noncomputable def rf99 : RF := fun call fuel base args m => match args with
  | [x0, x1] => r99 call fuel base x0 x1 m
  | _ => none
theorem r99_lk (call : CallF) (fuel base : Nat) : LoopsOk E call (lp99 call fuel base) fuel base 0 c99 = (And True (And True True)) := by kernel_rfl
theorem r99_fn : E.P.funcs[99]? = some Try.f99 := by kernel_rfl
theorem r99_body : Try.f99.body = some c99 := by kernel_rfl
theorem rf99_ok : RFok E 99 rf99 := by
  refine ⟨Try.f99, r99_fn, fun call fuel base args m r _ h => ?_⟩
  unfold rf99 at h
  split at h
  · rw [← r99_eq] at h
    exact kbody_sound (c := c99) r99_body (Eq.mpr (r99_lk call fuel base) (And.intro trivial (And.intro trivial trivial))) h
  · simp at h
end Go.AM
namespace Go.AM
open Go Go.Proofs
noncomputable def r100_L0 (call : CallF) (fuel base : Nat) (kp : Value → M → Res2) (kr : Value → M → Res2) (kx0 : M → Res2) (n : Nat) : Value → Value → Value → Value → M → Res2 :=
  Nat.rec (motive := fun _ => Value → Value → Value → Value → M → Res2) (fun _ _ _ _ _ => none)
    (fun _ ih x0 x1 x7 x8 m =>
      (k1 (mbin E .lss 3 x8 x7) fun v9_2 => (kb v9_2 (k1 (mindexAddr E.P 74 x0 x8) fun v14_3 => (k1 (xload E.P m 109 v14_3) fun v15_4 => (kc (kv call base x1 [v15_4] m) (fun v16_5 m => (kb v16_5 (kr x8 m) (k1 (mbin E .add 3 x8 (.int .i64 1)) fun v18_6 => (ih x0 x1 x7 v18_6 m)))) (fun v m => kp v m)))) (kx0 m)))) n
noncomputable def r100 (call : CallF) (fuel base : Nat) (x0 : Value) (x1 : Value) (m : M) : Res2 :=
  (k2 (vcall E.P base m .len [74] [x0]) fun v7_1 m => (r100_L0 call fuel base (fun v m => some (.pan v, m)) (fun y4_7 m => (fVal y4_7 fun v => some (.ret v, m))) (fun m => (fVal (.int .i64 (-1)) fun v => some (.ret v, m))) fuel x0 x1 v7_1 (.int .i64 0) m))
def keep100 : Keep := { region := fun i => ([[0, 1], [0, 1, 7, 8], [0, 1, 7, 8, 9], [0, 1, 5, 7, 8], [0, 1, 5, 7, 8, 16], [4], [0, 1, 7, 8], [4]] : List (List Nat))[i]?, exit := fun i => ([[], [0, 1, 7, 8]] : List (List Nat))[i]?, ret := some [4] }
noncomputable def r100_L0_R (call : CallF) (fuel base n : Nat) (vs : List Value) (m : M) (K : KT) : Res2 := match vs with
  | [x0, x1, x7, x8] => r100_L0 call fuel base (fun v m => K (.pan v) { n := 19, l := [] } m) (fun y4 m => K .ret { n := 19, l := [(4, y4)] } m) (fun m => K (.exit 0) { n := 19, l := [] } m) n x0 x1 x7 x8 m
  | _ => none
noncomputable def lp100 (call : CallF) (fuel base : Nat) : Lp := lpsel [(0, fun T m K => kslots 19 [0, 1, 7, 8] T fun vs => r100_L0_R call fuel base fuel vs m K)]
noncomputable def c100 : Code := Try.f100.body.getD .skip
theorem r100_L0_lk (call : CallF) (fuel base : Nat) : LoopsOk E call (lp100 call fuel base) fuel base 0 (loopB (blockB (seqR (seqL (seqR c100))))) = (And True (And (And True True) (And (And True (And True (And (And True True) True))) True))) := by kernel_rfl
theorem r100_L0_ok (call : CallF) (fuel base : Nat) : LpOk E call (lp100 call fuel base) fuel base 0 (loopB (blockB (seqR (seqL (seqR c100))))) := by
  refine loop_ok (kp := keep100) (hb := Eq.mpr (r100_L0_lk call fuel base) (And.intro trivial (And.intro (And.intro trivial trivial) (And.intro (And.intro trivial (And.intro trivial (And.intro (And.intro trivial trivial) trivial))) trivial)))) 19 [0, 1, 7, 8] (fun n vs m K => r100_L0_R call fuel base n vs m K) ?_ ?_ (fun _ _ _ => rfl)
  · intro vs m K
    unfold r100_L0_R
    split <;> rfl
  · intro n vs m K hl
    match vs, hl with
    | [x0, x1, x7, x8], _ => show _ = _; kernel_rfl
theorem r100_eq (call : CallF) (fuel base : Nat) (x0 : Value) (x1 : Value) (m : M) : kbody E call keep100 (lp100 call fuel base) base Try.f100 [x0, x1] m = r100 call fuel base x0 x1 m := by
  kernel_rfl
noncomputable def rf100 : RF := fun call fuel base args m => match args with
  | [x0, x1] => r100 call fuel base x0 x1 m
  | _ => none
theorem r100_lk (call : CallF) (fuel base : Nat) : LoopsOk E call (lp100 call fuel base) fuel base 0 c100 = (And True (And (And True (LpOk E call (lp100 call fuel base) fuel base 0 (loopB (blockB (seqR (seqL (seqR c100))))))) (And True True))) := by kernel_rfl
theorem r100_fn : E.P.funcs[100]? = some Try.f100 := by kernel_rfl
theorem r100_body : Try.f100.body = some c100 := by kernel_rfl
theorem rf100_ok : RFok E 100 rf100 := by
  refine ⟨Try.f100, r100_fn, fun call fuel base args m r _ h => ?_⟩
  unfold rf100 at h
  split at h
  · rw [← r100_eq] at h
    exact kbody_sound (c := c100) r100_body (Eq.mpr (r100_lk call fuel base) (And.intro trivial (And.intro (And.intro trivial (r100_L0_ok call fuel base)) (And.intro trivial trivial)))) h
  · simp at h
end Go.AM
namespace Go.AM
open Go Go.Proofs
noncomputable def r101 (call : CallF) (fuel base : Nat) (x0 : Value) (x1 : Value) (x2 : Value) (x3 : Value) (x4 : Value) (m : M) : Res2 :=
  (k2 (xbox m x0) fun v5_1 m => (k1 (xload E.P m 23 x1) fun v7_2 => (k2 (vcall E.P base m .len [23] [v7_2]) fun v8_3 m => (k1 (mbin E .eql 3 v8_3 (.int .i64 0)) fun v9_4 => (kb v9_4 (k1 (xload E.P m 23 x3) fun v17_5 => (k1 (xload E.P m 3 x4) fun v18_6 => (k1 (mindexAddr E.P 23 v17_5 v18_6) fun v19_7 => (k1 (xload E.P m 33 v19_7) fun v20_8 => (k1 (mfieldAddr E.P 109 v5_1 2) fun v21_9 => (k1 (xload E.P m 3 v21_9) fun v22_10 => (k1 (mindexAddr E.P 33 v20_8 v22_10) fun v23_11 => (k1 (xload E.P m 3 v23_11) fun v24_12 => (k1 (mbin E .gtr 3 v24_12 (.int .i64 0)) fun v25_13 => (fVal v25_13 fun v => some (.ret v, m))))))))))) (k1 (mfieldAddr E.P 109 v5_1 1) fun v11_14 => (k1 (xload E.P m 3 v11_14) fun v12_15 => (k1 (xload E.P m 3 x2) fun v13_16 => (k1 (mbin E .eql 3 v12_15 v13_16) fun v14_17 => (kb v14_17 (k1 (xload E.P m 23 x3) fun v17_18 => (k1 (xload E.P m 3 x4) fun v18_19 => (k1 (mindexAddr E.P 23 v17_18 v18_19) fun v19_20 => (k1 (xload E.P m 33 v19_20) fun v20_21 => (k1 (mfieldAddr E.P 109 v5_1 2) fun v21_22 => (k1 (xload E.P m 3 v21_22) fun v22_23 => (k1 (mindexAddr E.P 33 v20_21 v22_23) fun v23_24 => (k1 (xload E.P m 3 v23_24) fun v24_25 => (k1 (mbin E .gtr 3 v24_25 (.int .i64 0)) fun v25_26 => (fVal v25_26 fun v => some (.ret v, m))))))))))) (fVal (.bool false) fun v => some (.ret v, m))))))))))))
def keep101 : Keep := { region := fun i => ([[1, 2, 3, 4, 5], [6]] : List (List Nat))[i]?, exit := fun i => ([] : List (List Nat))[i]?, ret := some [6] }
noncomputable def lp101 (call : CallF) (fuel base : Nat) : Lp := lpsel []
noncomputable def c101 : Code := Try.f101.body.getD .skip
theorem r101_eq (call : CallF) (fuel base : Nat) (x0 : Value) (x1 : Value) (x2 : Value) (x3 : Value) (x4 : Value) (m : M) : kbody E call keep101 (lp101 call fuel base) base Try.f101 [x0, x1, x2, x3, x4] m = r101 call fuel base x0 x1 x2 x3 x4 m := by
  kernel_rfl
noncomputable def rf101 : RF := fun call fuel base args m => match args with
  | [x0, x1, x2, x3, x4] => r101 call fuel base x0 x1 x2 x3 x4 m
  | _ => none
theorem r101_lk (call : CallF) (fuel base : Nat) : LoopsOk E call (lp101 call fuel base) fuel base 0 c101 = (And True (And True True)) := by kernel_rfl
theorem r101_fn : E.P.funcs[101]? = some Try.f101 := by kernel_rfl
theorem r101_body : Try.f101.body = some c101 := by kernel_rfl
theorem rf101_ok : RFok E 101 rf101 := by
  refine ⟨Try.f101, r101_fn, fun call fuel base args m r _ h => ?_⟩
  unfold rf101 at h
  split at h
  · rw [← r101_eq] at h
    exact kbody_sound (c := c101) r101_body (Eq.mpr (r101_lk call fuel base) (And.intro trivial (And.intro trivial trivial))) h
  · simp at h
end Go.AM
namespace Go.AM
open Go Go.Proofs
noncomputable def r103_L0 (call : CallF) (fuel base : Nat) (kx0 : Value → Value → M → Res2) (n : Nat) : Value → Value → Value → Value → Value → M → Res2 :=
  Nat.rec (motive := fun _ => Value → Value → Value → Value → Value → M → Res2) (fun _ _ _ _ _ _ => none)
    (fun _ ih x2 x3 x10 x11 x12 m =>
      (k1 (mbin E .lss 3 x12 x11) fun v13_10 => (kb v13_10 (k1 (mindexAddr E.P 74 x10 x12) fun v14_11 => (k1 (xload E.P m 109 v14_11) fun v15_12 => (k2 (xalloc E.P m 109) fun v5_13 m => (ks (xstore E.P base m 109 v5_13 v15_12) fun m => (k1 (mfieldAddr E.P 109 v5_13 4) fun v16_14 => (k1 (xload E.P m 3 v16_14) fun v17_15 => (k1 (mfieldAddr E.P 109 v5_13 3) fun v18_16 => (k1 (xload E.P m 3 v18_16) fun v19_17 => (k1 (mbin E .eql 3 v17_15 v19_17) fun v20_18 => (kb v20_18 (k1 (mfieldAddr E.P 76 x3 1) fun v21_19 => (k1 (xload E.P m 74 v21_19) fun v22_20 => (k1 (xload E.P m 109 v5_13) fun v23_21 => (k2 (xbuildSlice E.P m 74 1 [(0, v23_21)]) fun v24_22 m => (k2 (vcall E.P base m .append [74, 74] [v22_20, v24_22]) fun v25_23 m => (k1 (mfieldAddr E.P 76 x3 1) fun v26_24 => (ks (xstore E.P base m 74 v26_24 v25_23) fun m => (k1 (mbin E .add 3 x12 (.int .i64 1)) fun v27_25 => (ih x2 x3 x10 x11 v27_25 m))))))))) (k1 (mbin E .add 3 x12 (.int .i64 1)) fun v27_26 => (ih x2 x3 x10 x11 v27_26 m)))))))))))) (kx0 x2 x3 m)))) n
noncomputable def r103 (call : CallF) (fuel base : Nat) (x0 : Value) (m : M) : Res2 :=
  (k2 (xbox m x0) fun v1_1 m => (k2 (xalloc E.P m 76) fun v2_2 m => (k1 (mfieldAddr E.P 76 v1_1 0) fun v6_3 => (k1 (xload E.P m 3 v6_3) fun v7_4 => (k1 (mbuild E.P 76 [(0, v7_4)]) fun v8_5 => (k2 (xalloc E.P m 76) fun v3_6 m => (ks (xstore E.P base m 76 v3_6 v8_5) fun m => (k1 (mfieldAddr E.P 76 v1_1 1) fun v9_7 => (k1 (xload E.P m 74 v9_7) fun v10_8 => (k2 (vcall E.P base m .len [74] [v10_8]) fun v11_9 m => (r103_L0 call fuel base (fun y2_27 y3_28 m => (k1 (xload E.P m 76 y3_28) fun v28_29 => (ks (xstore E.P base m 76 y2_27 v28_29) fun m => (k0 (mload E.P m 76 y2_27) fun r_30 => (fVal r_30 fun v => some (.ret v, m)))))) fuel v2_2 v3_6 v10_8 v11_9 (.int .i64 0) m)))))))))))
def keep103 : Keep := { region := fun i => ([[1, 2], [1, 2, 3], [2, 3, 10, 11, 12], [2, 3, 10, 11, 12, 13], [2, 3, 5, 10, 11, 12], [2, 3, 5, 10, 11, 12, 20], [2, 3, 10, 11, 12], [2, 3, 10, 11, 12], [2]] : List (List Nat))[i]?, exit := fun i => ([[2, 3], [2, 3, 10, 11, 12]] : List (List Nat))[i]?, ret := some [2] }
noncomputable def r103_L0_R (call : CallF) (fuel base n : Nat) (vs : List Value) (m : M) (K : KT) : Res2 := match vs with
  | [x2, x3, x10, x11, x12] => r103_L0 call fuel base (fun y2 y3 m => K (.exit 0) { n := 29, l := [(2, y2), (3, y3)] } m) n x2 x3 x10 x11 x12 m
  | _ => none
noncomputable def lp103 (call : CallF) (fuel base : Nat) : Lp := lpsel [(0, fun T m K => kslots 29 [2, 3, 10, 11, 12] T fun vs => r103_L0_R call fuel base fuel vs m K)]
noncomputable def c103 : Code := Try.f103.body.getD .skip
theorem r103_L0_lk (call : CallF) (fuel base : Nat) : LoopsOk E call (lp103 call fuel base) fuel base 0 (loopB (blockB (seqR (seqL (seqR (seqR c103)))))) = (And True (And (And True True) (And (And True (And True (And True True))) True))) := by kernel_rfl
theorem r103_L0_ok (call : CallF) (fuel base : Nat) : LpOk E call (lp103 call fuel base) fuel base 0 (loopB (blockB (seqR (seqL (seqR (seqR c103)))))) := by
  refine loop_ok (kp := keep103) (hb := Eq.mpr (r103_L0_lk call fuel base) (And.intro trivial (And.intro (And.intro trivial trivial) (And.intro (And.intro trivial (And.intro trivial (And.intro trivial trivial))) trivial)))) 29 [2, 3, 10, 11, 12] (fun n vs m K => r103_L0_R call fuel base n vs m K) ?_ ?_ (fun _ _ _ => rfl)
  · intro vs m K
    unfold r103_L0_R
    split <;> rfl
  · intro n vs m K hl
    match vs, hl with
    | [x2, x3, x10, x11, x12], _ => show _ = _; kernel_rfl
theorem r103_eq (call : CallF) (fuel base : Nat) (x0 : Value) (m : M) : kbody E call keep103 (lp103 call fuel base) base Try.f103 [x0] m = r103 call fuel base x0 m := by
  kernel_rfl
noncomputable def rf103 : RF := fun call fuel base args m => match args with
  | [x0] => r103 call fuel base x0 m
  | _ => none
theorem r103_lk (call : CallF) (fuel base : Nat) : LoopsOk E call (lp103 call fuel base) fuel base 0 c103 = (And True (And True (And (And True (LpOk E call (lp103 call fuel base) fuel base 0 (loopB (blockB (seqR (seqL (seqR (seqR c103)))))))) (And True True)))) := by kernel_rfl
theorem r103_fn : E.P.funcs[103]? = some Try.f103 := by kernel_rfl
theorem r103_body : Try.f103.body = some c103 := by kernel_rfl
theorem rf103_ok : RFok E 103 rf103 := by
  refine ⟨Try.f103, r103_fn, fun call fuel base args m r _ h => ?_⟩
  unfold rf103 at h
  split at h
  · rw [← r103_eq] at h
    exact kbody_sound (c := c103) r103_body (Eq.mpr (r103_lk call fuel base) (And.intro trivial (And.intro trivial (And.intro (And.intro trivial (r103_L0_ok call fuel base)) (And.intro trivial trivial))))) h
  · simp at h
end Go.AM
namespace Go.AM
open Go Go.Proofs
noncomputable def r104_L0 (call : CallF) (fuel base : Nat) (kp : Value → M → Res2) (kx0 : Value → M → Res2) (n : Nat) : Value → Value → Value → Value → M → Res2 :=
  Nat.rec (motive := fun _ => Value → Value → Value → Value → M → Res2) (fun _ _ _ _ _ => none)
    (fun _ ih x2 x5 x11 x12 m =>
      (k1 (mbin E .lss 3 x12 x11) fun v13_5 => (kb v13_5 (k1 (mfieldAddr E.P 76 x2 0) fun v17_6 => (k1 (xload E.P m 3 v17_6) fun v18_7 => (kc (call base 94 [v18_7] m) (fun v19_8 m => (k2 (xmakeSlice E.P m 33 v19_8 v19_8) fun v20_9 m => (k1 (mindexAddr E.P 23 x5 x12) fun v21_10 => (ks (xstore E.P base m 33 v21_10 v20_9) fun m => (k1 (mbin E .add 3 x12 (.int .i64 1)) fun v22_11 => (ih x2 x5 x11 v22_11 m)))))) (fun v m => kp v m)))) (kx0 x5 m)))) n
noncomputable def r104 (call : CallF) (fuel base : Nat) (x0 : Value) (x1 : Value) (m : M) : Res2 :=
  (k2 (xbox m x0) fun v2_1 m => (k1 (mbin E .add 3 x1 (.int .i64 1)) fun v8_2 => (k2 (xmakeSlice E.P m 23 v8_2 v8_2) fun v9_3 m => (k2 (vcall E.P base m .len [23] [v9_3]) fun v11_4 m => (r104_L0 call fuel base (fun v m => some (.pan v, m)) (fun y5_12 m => (fVal y5_12 fun v => some (.ret v, m))) fuel v2_1 v9_3 v11_4 (.int .i64 0) m)))))
def keep104 : Keep := { region := fun i => ([[1, 2], [2, 5], [2, 5, 11, 12], [2, 5, 11, 12, 13], [2, 5, 6, 11, 12], [2, 5, 11, 12], [2, 5, 11, 12], [4]] : List (List Nat))[i]?, exit := fun i => ([[5], [2, 5, 11, 12]] : List (List Nat))[i]?, ret := some [4] }
noncomputable def r104_L0_R (call : CallF) (fuel base n : Nat) (vs : List Value) (m : M) (K : KT) : Res2 := match vs with
  | [x2, x5, x11, x12] => r104_L0 call fuel base (fun v m => K (.pan v) { n := 24, l := [] } m) (fun y5 m => K (.exit 0) { n := 24, l := [(5, y5)] } m) n x2 x5 x11 x12 m
  | _ => none
noncomputable def lp104 (call : CallF) (fuel base : Nat) : Lp := lpsel [(0, fun T m K => kslots 24 [2, 5, 11, 12] T fun vs => r104_L0_R call fuel base fuel vs m K)]
noncomputable def c104 : Code := Try.f104.body.getD .skip
theorem r104_L0_lk (call : CallF) (fuel base : Nat) : LoopsOk E call (lp104 call fuel base) fuel base 0 (loopB (blockB (seqR (seqL (seqR (seqR c104)))))) = (And True (And (And True True) (And (And True True) True))) := by kernel_rfl
theorem r104_L0_ok (call : CallF) (fuel base : Nat) : LpOk E call (lp104 call fuel base) fuel base 0 (loopB (blockB (seqR (seqL (seqR (seqR c104)))))) := by
  refine loop_ok (kp := keep104) (hb := Eq.mpr (r104_L0_lk call fuel base) (And.intro trivial (And.intro (And.intro trivial trivial) (And.intro (And.intro trivial trivial) trivial)))) 24 [2, 5, 11, 12] (fun n vs m K => r104_L0_R call fuel base n vs m K) ?_ ?_ (fun _ _ _ => rfl)
  · intro vs m K
    unfold r104_L0_R
    split <;> rfl
  · intro n vs m K hl
    match vs, hl with
    | [x2, x5, x11, x12], _ => show _ = _; kernel_rfl
theorem r104_eq (call : CallF) (fuel base : Nat) (x0 : Value) (x1 : Value) (m : M) : kbody E call keep104 (lp104 call fuel base) base Try.f104 [x0, x1] m = r104 call fuel base x0 x1 m := by
  kernel_rfl
noncomputable def rf104 : RF := fun call fuel base args m => match args with
  | [x0, x1] => r104 call fuel base x0 x1 m
  | _ => none
theorem r104_lk (call : CallF) (fuel base : Nat) : LoopsOk E call (lp104 call fuel base) fuel base 0 c104 = (And True (And True (And (And True (LpOk E call (lp104 call fuel base) fuel base 0 (loopB (blockB (seqR (seqL (seqR (seqR c104)))))))) (And True True)))) := by kernel_rfl
theorem r104_fn : E.P.funcs[104]? = some Try.f104 := by kernel_rfl
theorem r104_body : Try.f104.body = some c104 := by kernel_rfl
theorem rf104_ok : RFok E 104 rf104 := by
  refine ⟨Try.f104, r104_fn, fun call fuel base args m r _ h => ?_⟩
  unfold rf104 at h
  split at h
  · rw [← r104_eq] at h
    exact kbody_sound (c := c104) r104_body (Eq.mpr (r104_lk call fuel base) (And.intro trivial (And.intro trivial (And.intro (And.intro trivial (r104_L0_ok call fuel base)) (And.intro trivial trivial))))) h
  · simp at h
end Go.AM
namespace Go.AM
open Go Go.Proofs
noncomputable def r105 (call : CallF) (fuel base : Nat) (x0 : Value) (x1 : Value) (x2 : Value) (m : M) : Res2 :=
  (k1 (mindexAddr E.P 23 x2 (.int .i64 0)) fun v8_1 => (k1 (xload E.P m 33 v8_1) fun v9_2 => (k2 (vcall E.P base m .clear [33] [v9_2]) fun vNone_3 m => (k1 (mindexAddr E.P 23 x2 (.int .i64 0)) fun v11_4 => (k1 (xload E.P m 33 v11_4) fun v12_5 => (k1 (mindexAddr E.P 33 v12_5 x1) fun v14_6 => (ks (xstore E.P base m 3 v14_6 (.int .i64 1)) fun m => (kc (call base 117 [x0, x2] m) (fun v17_7 m => (k2 (vcall E.P base m .len [23] [x2]) fun v20_8 m => (k1 (mbin E .sub 3 v20_8 (.int .i64 1)) fun v21_9 => (k1 (mindexAddr E.P 23 x2 v21_9) fun v22_10 => (k1 (xload E.P m 33 v22_10) fun v23_11 => (fVal v23_11 fun v => some (.ret v, m))))))) (fun v m => some (.pan v, m))))))))))
def keep105 : Keep := { region := fun i => ([[0, 1, 2], [0, 1, 2], [0, 2], [2], [6]] : List (List Nat))[i]?, exit := fun i => ([] : List (List Nat))[i]?, ret := some [6] }
noncomputable def lp105 (call : CallF) (fuel base : Nat) : Lp := lpsel []
noncomputable def c105 : Code := Try.f105.body.getD .skip
theorem r105_eq (call : CallF) (fuel base : Nat) (x0 : Value) (x1 : Value) (x2 : Value) (m : M) : kbody E call keep105 (lp105 call fuel base) base Try.f105 [x0, x1, x2] m = r105 call fuel base x0 x1 x2 m := by
  kernel_rfl
noncomputable def rf105 : RF := fun call fuel base args m => match args with
  | [x0, x1, x2] => r105 call fuel base x0 x1 x2 m
  | _ => none
theorem r105_lk (call : CallF) (fuel base : Nat) : LoopsOk E call (lp105 call fuel base) fuel base 0 c105 = (And True (And True (And True (And True (And True True))))) := by kernel_rfl
theorem r105_fn : E.P.funcs[105]? = some Try.f105 := by kernel_rfl
theorem r105_body : Try.f105.body = some c105 := by kernel_rfl
theorem rf105_ok : RFok E 105 rf105 := by
  refine ⟨Try.f105, r105_fn, fun call fuel base args m r _ h => ?_⟩
  unfold rf105 at h
  split at h
  · rw [← r105_eq] at h
    exact kbody_sound (c := c105) r105_body (Eq.mpr (r105_lk call fuel base) (And.intro trivial (And.intro trivial (And.intro trivial (And.intro trivial (And.intro trivial trivial)))))) h
  · simp at h
end Go.AM
namespace Go.AM
open Go Go.Proofs
noncomputable def r106_L0 (call : CallF) (fuel base : Nat) (kx0 : Value → Value → M → Res2) (n : Nat) : Value → Value → Value → Value → Value → M → Res2 :=
  Nat.rec (motive := fun _ => Value → Value → Value → Value → Value → M → Res2) (fun _ _ _ _ _ _ => none)
    (fun _ ih x0 x3 x9 x10 x11 m =>
      (k1 (mbin E .lss 3 x11 x10) fun v12_2 => (kb v12_2 (k1 (mindexAddr E.P 23 x9 x11) fun v13_3 => (k1 (xload E.P m 33 v13_3) fun v14_4 => (k2 (vcall E.P base m .len [33] [v14_4]) fun v17_5 m => (k1 (mbin E .add 3 x3 v17_5) fun v18_6 => (k1 (mbin E .lss 3 v18_6 (.int .i64 0)) fun v20_7 => (kb v20_7 none (k1 (mbin E .add 3 x11 (.int .i64 1)) fun v22_8 => (ih x0 v18_6 x9 x10 v22_8 m)))))))) (kx0 x0 x3 m)))) n
noncomputable def r106_L2 (call : CallF) (fuel base : Nat) (kx2 : Value → M → Res2) (n : Nat) : Value → Value → Value → Value → M → Res2 :=
  Nat.rec (motive := fun _ => Value → Value → Value → Value → M → Res2) (fun _ _ _ _ _ => none)
    (fun _ ih x6 x25 x26 x27 m =>
      (k1 (mbin E .lss 3 x27 x26) fun v28_13 => (kb v28_13 (k1 (mindexAddr E.P 23 x25 x27) fun v29_14 => (k1 (xload E.P m 33 v29_14) fun v30_15 => (k2 (vcall E.P base m .append [33, 33] [x6, v30_15]) fun v33_16 m => (k1 (mbin E .add 3 x27 (.int .i64 1)) fun v34_17 => (ih v33_16 x25 x26 v34_17 m))))) (kx2 x6 m)))) n
noncomputable def r106 (call : CallF) (fuel base : Nat) (x0 : Value) (m : M) : Res2 :=
  (k2 (vcall E.P base m .len [23] [x0]) fun v10_1 m => (r106_L0 call fuel base (fun y0_9 y3_10 m => (kc (call base 118 [(.slice none 0 0), y3_10] m) (fun v24_11 m => (k2 (vcall E.P base m .len [23] [y0_9]) fun v26_12 m => (r106_L2 call fuel base (fun y6_18 m => (fVal y6_18 fun v => some (.ret v, m))) fuel v24_11 y0_9 v26_12 (.int .i64 0) m))) (fun v m => some (.pan v, m)))) fuel x0 (.int .i64 0) x0 v10_1 (.int .i64 0) m))
def keep106 : Keep := { region := fun i => ([[0], [0, 3], [0, 3, 9, 10, 11], [0, 3, 9, 10, 11, 12], [0, 3, 5, 9, 10, 11], [0, 3, 9, 10, 11], [0, 3, 9, 10, 11, 20], [0, 3, 9, 10, 11], [0, 3, 9, 10, 11], [0, 6], [6, 25, 26, 27], [6, 25, 26, 27, 28], [6, 8, 25, 26, 27], [6, 25, 26, 27], [6, 25, 26, 27], [2]] : List (List Nat))[i]?, exit := fun i => ([[0, 3], [0, 3, 9, 10, 11], [6], [6, 25, 26, 27]] : List (List Nat))[i]?, ret := some [2] }
noncomputable def r106_L0_R (call : CallF) (fuel base n : Nat) (vs : List Value) (m : M) (K : KT) : Res2 := match vs with
  | [x0, x3, x9, x10, x11] => r106_L0 call fuel base (fun y0 y3 m => K (.exit 0) { n := 36, l := [(0, y0), (3, y3)] } m) n x0 x3 x9 x10 x11 m
  | _ => none
noncomputable def r106_L2_R (call : CallF) (fuel base n : Nat) (vs : List Value) (m : M) (K : KT) : Res2 := match vs with
  | [x6, x25, x26, x27] => r106_L2 call fuel base (fun y6 m => K (.exit 2) { n := 36, l := [(6, y6)] } m) n x6 x25 x26 x27 m
  | _ => none
noncomputable def lp106 (call : CallF) (fuel base : Nat) : Lp := lpsel [(0, fun T m K => kslots 36 [0, 3, 9, 10, 11] T fun vs => r106_L0_R call fuel base fuel vs m K), (2, fun T m K => kslots 36 [6, 25, 26, 27] T fun vs => r106_L2_R call fuel base fuel vs m K)]
noncomputable def c106 : Code := Try.f106.body.getD .skip
theorem r106_L0_lk (call : CallF) (fuel base : Nat) : LoopsOk E call (lp106 call fuel base) fuel base 0 (loopB (blockB (seqR (seqL (seqR (seqR c106)))))) = (And True (And (And True True) (And (And True (And True (And True (And True True)))) True))) := by kernel_rfl
theorem r106_L0_ok (call : CallF) (fuel base : Nat) : LpOk E call (lp106 call fuel base) fuel base 0 (loopB (blockB (seqR (seqL (seqR (seqR c106)))))) := by
  refine loop_ok (kp := keep106) (hb := Eq.mpr (r106_L0_lk call fuel base) (And.intro trivial (And.intro (And.intro trivial trivial) (And.intro (And.intro trivial (And.intro trivial (And.intro trivial (And.intro trivial trivial)))) trivial)))) 36 [0, 3, 9, 10, 11] (fun n vs m K => r106_L0_R call fuel base n vs m K) ?_ ?_ (fun _ _ _ => rfl)
  · intro vs m K
    unfold r106_L0_R
    split <;> rfl
  · intro n vs m K hl
    match vs, hl with
    | [x0, x3, x9, x10, x11], _ => show _ = _; kernel_rfl
theorem r106_L2_lk (call : CallF) (fuel base : Nat) : LoopsOk E call (lp106 call fuel base) fuel base 2 (loopB (blockB (seqR (seqL (seqR (seqR (seqR (seqR c106)))))))) = (And True (And (And True True) (And (And True True) True))) := by kernel_rfl
theorem r106_L2_ok (call : CallF) (fuel base : Nat) : LpOk E call (lp106 call fuel base) fuel base 2 (loopB (blockB (seqR (seqL (seqR (seqR (seqR (seqR c106)))))))) := by
  refine loop_ok (kp := keep106) (hb := Eq.mpr (r106_L2_lk call fuel base) (And.intro trivial (And.intro (And.intro trivial trivial) (And.intro (And.intro trivial trivial) trivial)))) 36 [6, 25, 26, 27] (fun n vs m K => r106_L2_R call fuel base n vs m K) ?_ ?_ (fun _ _ _ => rfl)
  · intro vs m K
    unfold r106_L2_R
    split <;> rfl
  · intro n vs m K hl
    match vs, hl with
    | [x6, x25, x26, x27], _ => show _ = _; kernel_rfl
theorem r106_eq (call : CallF) (fuel base : Nat) (x0 : Value) (m : M) : kbody E call keep106 (lp106 call fuel base) base Try.f106 [x0] m = r106 call fuel base x0 m := by
  kernel_rfl
noncomputable def rf106 : RF := fun call fuel base args m => match args with
  | [x0] => r106 call fuel base x0 m
  | _ => none
theorem r106_lk (call : CallF) (fuel base : Nat) : LoopsOk E call (lp106 call fuel base) fuel base 0 c106 = (And True (And True (And (And True (LpOk E call (lp106 call fuel base) fuel base 0 (loopB (blockB (seqR (seqL (seqR (seqR c106)))))))) (And True (And (And True (LpOk E call (lp106 call fuel base) fuel base 2 (loopB (blockB (seqR (seqL (seqR (seqR (seqR (seqR c106)))))))))) (And True True)))))) := by kernel_rfl
theorem r106_fn : E.P.funcs[106]? = some Try.f106 := by kernel_rfl
theorem r106_body : Try.f106.body = some c106 := by kernel_rfl
theorem rf106_ok : RFok E 106 rf106 := by
  refine ⟨Try.f106, r106_fn, fun call fuel base args m r _ h => ?_⟩
  unfold rf106 at h
  split at h
  · rw [← r106_eq] at h
    exact kbody_sound (c := c106) r106_body (Eq.mpr (r106_lk call fuel base) (And.intro trivial (And.intro trivial (And.intro (And.intro trivial (r106_L0_ok call fuel base)) (And.intro trivial (And.intro (And.intro trivial (r106_L2_ok call fuel base)) (And.intro trivial trivial))))))) h
  · simp at h
end Go.AM
namespace Go.AM
open Go Go.Proofs
noncomputable def r107_L0 (call : CallF) (fuel base : Nat) (kx0 : Value → M → Res2) (n : Nat) : Value → Value → Value → M → Res2 :=
  Nat.rec (motive := fun _ => Value → Value → Value → M → Res2) (fun _ _ _ _ => none)
    (fun _ ih x0 x5 x6 m =>
      (k1 (mbin E .geq 3 x6 (.int .i64 0)) fun v12_3 => (kb v12_3 (k1 (mbin E .rem 3 x0 (.int .i64 8)) fun v18_4 => (k1 (mindexAddr E.P 33 x5 x6) fun v19_5 => (ks (xstore E.P base m 3 v19_5 v18_4) fun m => (k1 (mbin E .quo 3 x0 (.int .i64 8)) fun v21_6 => (k1 (mbin E .sub 3 x6 (.int .i64 1)) fun v14_7 => (ih v21_6 x5 v14_7 m)))))) (kx0 x5 m)))) n
noncomputable def r107 (call : CallF) (fuel base : Nat) (x0 : Value) (x1 : Value) (m : M) : Res2 :=
  (k2 (xmakeSlice E.P m 33 x1 x1) fun v8_1 m => (k1 (mbin E .sub 3 x1 (.int .i64 1)) fun v10_2 => (r107_L0 call fuel base (fun y5_8 m => (fVal y5_8 fun v => some (.ret v, m))) fuel x0 v8_1 v10_2 m)))
def keep107 : Keep := { region := fun i => ([[0, 1], [0, 1, 5], [0, 5, 6], [0, 5, 6, 12], [0, 5, 6], [0, 5, 6], [0, 5, 6], [4]] : List (List Nat))[i]?, exit := fun i => ([[5], [0, 5, 6]] : List (List Nat))[i]?, ret := some [4] }
noncomputable def r107_L0_R (call : CallF) (fuel base n : Nat) (vs : List Value) (m : M) (K : KT) : Res2 := match vs with
  | [x0, x5, x6] => r107_L0 call fuel base (fun y5 m => K (.exit 0) { n := 23, l := [(5, y5)] } m) n x0 x5 x6 m
  | _ => none
noncomputable def lp107 (call : CallF) (fuel base : Nat) : Lp := lpsel [(0, fun T m K => kslots 23 [0, 5, 6] T fun vs => r107_L0_R call fuel base fuel vs m K)]
noncomputable def c107 : Code := Try.f107.body.getD .skip
theorem r107_L0_lk (call : CallF) (fuel base : Nat) : LoopsOk E call (lp107 call fuel base) fuel base 0 (loopB (blockB (seqR (seqL (seqR (seqR c107)))))) = (And (And True (And True True)) (And (And True True) True)) := by kernel_rfl
theorem r107_L0_ok (call : CallF) (fuel base : Nat) : LpOk E call (lp107 call fuel base) fuel base 0 (loopB (blockB (seqR (seqL (seqR (seqR c107)))))) := by
  refine loop_ok (kp := keep107) (hb := Eq.mpr (r107_L0_lk call fuel base) (And.intro (And.intro trivial (And.intro trivial trivial)) (And.intro (And.intro trivial trivial) trivial))) 23 [0, 5, 6] (fun n vs m K => r107_L0_R call fuel base n vs m K) ?_ ?_ (fun _ _ _ => rfl)
  · intro vs m K
    unfold r107_L0_R
    split <;> rfl
  · intro n vs m K hl
    match vs, hl with
    | [x0, x5, x6], _ => show _ = _; kernel_rfl
theorem r107_eq (call : CallF) (fuel base : Nat) (x0 : Value) (x1 : Value) (m : M) : kbody E call keep107 (lp107 call fuel base) base Try.f107 [x0, x1] m = r107 call fuel base x0 x1 m := by
  kernel_rfl
noncomputable def rf107 : RF := fun call fuel base args m => match args with
  | [x0, x1] => r107 call fuel base x0 x1 m
  | _ => none
theorem r107_lk (call : CallF) (fuel base : Nat) : LoopsOk E call (lp107 call fuel base) fuel base 0 c107 = (And True (And True (And (And True (LpOk E call (lp107 call fuel base) fuel base 0 (loopB (blockB (seqR (seqL (seqR (seqR c107)))))))) (And True True)))) := by kernel_rfl
theorem r107_fn : E.P.funcs[107]? = some Try.f107 := by kernel_rfl
theorem r107_body : Try.f107.body = some c107 := by kernel_rfl
theorem rf107_ok : RFok E 107 rf107 := by
  refine ⟨Try.f107, r107_fn, fun call fuel base args m r _ h => ?_⟩
  unfold rf107 at h
  split at h
  · rw [← r107_eq] at h
    exact kbody_sound (c := c107) r107_body (Eq.mpr (r107_lk call fuel base) (And.intro trivial (And.intro trivial (And.intro (And.intro trivial (r107_L0_ok call fuel base)) (And.intro trivial trivial))))) h
  · simp at h
end Go.AM
namespace Go.AM
open Go Go.Proofs
noncomputable def r112_L0 (call : CallF) (fuel base : Nat) (kp : Value → M → Res2) (kr : Value → M → Res2) (kx0 : M → Res2) (n : Nat) : Value → Value → Value → Value → M → Res2 :=
  Nat.rec (motive := fun _ => Value → Value → Value → Value → M → Res2) (fun _ _ _ _ _ => none)
    (fun _ ih x0 x1 x7 x8 m =>
      (k1 (mbin E .lss 3 x8 x7) fun v9_2 => (kb v9_2 (k1 (mindexAddr E.P 33 x0 x8) fun v14_3 => (k1 (xload E.P m 3 v14_3) fun v15_4 => (kc (kv call base x1 [v15_4] m) (fun v16_5 m => (kb v16_5 (kr x8 m) (k1 (mbin E .add 3 x8 (.int .i64 1)) fun v18_6 => (ih x0 x1 x7 v18_6 m)))) (fun v m => kp v m)))) (kx0 m)))) n
noncomputable def r112 (call : CallF) (fuel base : Nat) (x0 : Value) (x1 : Value) (m : M) : Res2 :=
  (k2 (vcall E.P base m .len [33] [x0]) fun v7_1 m => (r112_L0 call fuel base (fun v m => some (.pan v, m)) (fun y4_7 m => (fVal y4_7 fun v => some (.ret v, m))) (fun m => (fVal (.int .i64 (-1)) fun v => some (.ret v, m))) fuel x0 x1 v7_1 (.int .i64 0) m))
def keep112 : Keep := { region := fun i => ([[0, 1], [0, 1, 7, 8], [0, 1, 7, 8, 9], [0, 1, 5, 7, 8], [0, 1, 5, 7, 8, 16], [4], [0, 1, 7, 8], [4]] : List (List Nat))[i]?, exit := fun i => ([[], [0, 1, 7, 8]] : List (List Nat))[i]?, ret := some [4] }
noncomputable def r112_L0_R (call : CallF) (fuel base n : Nat) (vs : List Value) (m : M) (K : KT) : Res2 := match vs with
  | [x0, x1, x7, x8] => r112_L0 call fuel base (fun v m => K (.pan v) { n := 19, l := [] } m) (fun y4 m => K .ret { n := 19, l := [(4, y4)] } m) (fun m => K (.exit 0) { n := 19, l := [] } m) n x0 x1 x7 x8 m
  | _ => none
noncomputable def lp112 (call : CallF) (fuel base : Nat) : Lp := lpsel [(0, fun T m K => kslots 19 [0, 1, 7, 8] T fun vs => r112_L0_R call fuel base fuel vs m K)]
noncomputable def c112 : Code := Try.f112.body.getD .skip
theorem r112_L0_lk (call : CallF) (fuel base : Nat) : LoopsOk E call (lp112 call fuel base) fuel base 0 (loopB (blockB (seqR (seqL (seqR c112))))) = (And True (And (And True True) (And (And True (And True (And (And True True) True))) True))) := by kernel_rfl
theorem r112_L0_ok (call : CallF) (fuel base : Nat) : LpOk E call (lp112 call fuel base) fuel base 0 (loopB (blockB (seqR (seqL (seqR c112))))) := by
  refine loop_ok (kp := keep112) (hb := Eq.mpr (r112_L0_lk call fuel base) (And.intro trivial (And.intro (And.intro trivial trivial) (And.intro (And.intro trivial (And.intro trivial (And.intro (And.intro trivial trivial) trivial))) trivial)))) 19 [0, 1, 7, 8] (fun n vs m K => r112_L0_R call fuel base n vs m K) ?_ ?_ (fun _ _ _ => rfl)
  · intro vs m K
    unfold r112_L0_R
    split <;> rfl
  · intro n vs m K hl
    match vs, hl with
    | [x0, x1, x7, x8], _ => show _ = _; kernel_rfl
theorem r112_eq (call : CallF) (fuel base : Nat) (x0 : Value) (x1 : Value) (m : M) : kbody E call keep112 (lp112 call fuel base) base Try.f112 [x0, x1] m = r112 call fuel base x0 x1 m := by
  kernel_rfl
noncomputable def rf112 : RF := fun call fuel base args m => match args with
  | [x0, x1] => r112 call fuel base x0 x1 m
  | _ => none
theorem r112_lk (call : CallF) (fuel base : Nat) : LoopsOk E call (lp112 call fuel base) fuel base 0 c112 = (And True (And (And True (LpOk E call (lp112 call fuel base) fuel base 0 (loopB (blockB (seqR (seqL (seqR c112))))))) (And True True))) := by kernel_rfl
theorem r112_fn : E.P.funcs[112]? = some Try.f112 := by kernel_rfl
theorem r112_body : Try.f112.body = some c112 := by kernel_rfl
theorem rf112_ok : RFok E 112 rf112 := by
  refine ⟨Try.f112, r112_fn, fun call fuel base args m r _ h => ?_⟩
  unfold rf112 at h
  split at h
  · rw [← r112_eq] at h
    exact kbody_sound (c := c112) r112_body (Eq.mpr (r112_lk call fuel base) (And.intro trivial (And.intro (And.intro trivial (r112_L0_ok call fuel base)) (And.intro trivial trivial)))) h
  · simp at h
end Go.AM
namespace Go.AM
open Go Go.Proofs
noncomputable def r114_L0 (call : CallF) (fuel base : Nat) (kr : Value → M → Res2) (kx0 : M → Res2) (n : Nat) : Value → Value → Value → Value → M → Res2 :=
  Nat.rec (motive := fun _ => Value → Value → Value → Value → M → Res2) (fun _ _ _ _ _ => none)
    (fun _ ih x0 x3 x7 x8 m =>
      (k1 (mbin E .lss 3 x8 x7) fun v9_3 => (kb v9_3 (k1 (xload E.P m 45 x3) fun v11_4 => (k1 (mindexAddr E.P 22 x0 x8) fun v14_5 => (k1 (xload E.P m 45 v14_5) fun v15_6 => (k1 (mbin E .eql 45 v11_4 v15_6) fun v16_7 => (kb v16_7 (kr x8 m) (k1 (mbin E .add 3 x8 (.int .i64 1)) fun v18_8 => (ih x0 x3 x7 v18_8 m))))))) (kx0 m)))) n
noncomputable def r114 (call : CallF) (fuel base : Nat) (x0 : Value) (x1 : Value) (m : M) : Res2 :=
  (k2 (xbox m x1) fun v3_1 m => (k2 (vcall E.P base m .len [22] [x0]) fun v7_2 m => (r114_L0 call fuel base (fun y4_9 m => (fVal y4_9 fun v => some (.ret v, m))) (fun m => (fVal (.int .i64 (-1)) fun v => some (.ret v, m))) fuel x0 v3_1 v7_2 (.int .i64 0) m)))
def keep114 : Keep := { region := fun i => ([[0, 3], [0, 3, 7, 8], [0, 3, 7, 8, 9], [0, 3, 5, 7, 8], [0, 3, 5, 7, 8, 16], [4], [0, 3, 7, 8], [4]] : List (List Nat))[i]?, exit := fun i => ([[], [0, 3, 7, 8]] : List (List Nat))[i]?, ret := some [4] }
noncomputable def r114_L0_R (call : CallF) (fuel base n : Nat) (vs : List Value) (m : M) (K : KT) : Res2 := match vs with
  | [x0, x3, x7, x8] => r114_L0 call fuel base (fun y4 m => K .ret { n := 19, l := [(4, y4)] } m) (fun m => K (.exit 0) { n := 19, l := [] } m) n x0 x3 x7 x8 m
  | _ => none
noncomputable def lp114 (call : CallF) (fuel base : Nat) : Lp := lpsel [(0, fun T m K => kslots 19 [0, 3, 7, 8] T fun vs => r114_L0_R call fuel base fuel vs m K)]
noncomputable def c114 : Code := Try.f114.body.getD .skip
theorem r114_L0_lk (call : CallF) (fuel base : Nat) : LoopsOk E call (lp114 call fuel base) fuel base 0 (loopB (blockB (seqR (seqL (seqR c114))))) = (And True (And (And True True) (And (And True (And True (And (And True True) True))) True))) := by kernel_rfl
theorem r114_L0_ok (call : CallF) (fuel base : Nat) : LpOk E call (lp114 call fuel base) fuel base 0 (loopB (blockB (seqR (seqL (seqR c114))))) := by
  refine loop_ok (kp := keep114) (hb := Eq.mpr (r114_L0_lk call fuel base) (And.intro trivial (And.intro (And.intro trivial trivial) (And.intro (And.intro trivial (And.intro trivial (And.intro (And.intro trivial trivial) trivial))) trivial)))) 19 [0, 3, 7, 8] (fun n vs m K => r114_L0_R call fuel base n vs m K) ?_ ?_ (fun _ _ _ => rfl)
  · intro vs m K
    unfold r114_L0_R
    split <;> rfl
  · intro n vs m K hl
    match vs, hl with
    | [x0, x3, x7, x8], _ => show _ = _; kernel_rfl
theorem r114_eq (call : CallF) (fuel base : Nat) (x0 : Value) (x1 : Value) (m : M) : kbody E call keep114 (lp114 call fuel base) base Try.f114 [x0, x1] m = r114 call fuel base x0 x1 m := by
  kernel_rfl
noncomputable def rf114 : RF := fun call fuel base args m => match args with
  | [x0, x1] => r114 call fuel base x0 x1 m
  | _ => none
theorem r114_lk (call : CallF) (fuel base : Nat) : LoopsOk E call (lp114 call fuel base) fuel base 0 c114 = (And True (And (And True (LpOk E call (lp114 call fuel base) fuel base 0 (loopB (blockB (seqR (seqL (seqR c114))))))) (And True True))) := by kernel_rfl
theorem r114_fn : E.P.funcs[114]? = some Try.f114 := by kernel_rfl
theorem r114_body : Try.f114.body = some c114 := by kernel_rfl
theorem rf114_ok : RFok E 114 rf114 := by
  refine ⟨Try.f114, r114_fn, fun call fuel base args m r _ h => ?_⟩
  unfold rf114 at h
  split at h
  · rw [← r114_eq] at h
    exact kbody_sound (c := c114) r114_body (Eq.mpr (r114_lk call fuel base) (And.intro trivial (And.intro (And.intro trivial (r114_L0_ok call fuel base)) (And.intro trivial trivial)))) h
  · simp at h
end Go.AM
namespace Go.AM
open Go Go.Proofs
noncomputable def r115 (call : CallF) (fuel base : Nat) (x0 : Value) (x1 : Value) (m : M) : Res2 :=
  (kc (call base 121 [x0] m) (fun v8_1 m => (kc (call base 121 [x1] m) (fun v10_2 m => (kb v8_1 (kb v10_2 (fVal (.int .i64 0) fun v => some (.ret v, m)) (fVal (.int .i64 (-1)) fun v => some (.ret v, m))) (kb v10_2 (fVal (.int .i64 1) fun v => some (.ret v, m)) (k1 (mbin E .lss 3 x0 x1) fun v16_3 => (kb v16_3 (fVal (.int .i64 (-1)) fun v => some (.ret v, m)) (k1 (mbin E .gtr 3 x0 x1) fun v19_4 => (kb v19_4 (fVal (.int .i64 1) fun v => some (.ret v, m)) (fVal (.int .i64 0) fun v => some (.ret v, m))))))))) (fun v m => some (.pan v, m)))) (fun v m => some (.pan v, m)))
def keep115 : Keep := { region := fun i => ([[0, 1], [0, 1, 5], [0, 1, 5, 6], [0, 1, 6, 11], [12], [4], [4], [0, 1, 13], [4], [0, 1, 16], [4], [19], [4], [4]] : List (List Nat))[i]?, exit := fun i => ([] : List (List Nat))[i]?, ret := some [4] }
noncomputable def lp115 (call : CallF) (fuel base : Nat) : Lp := lpsel []
noncomputable def c115 : Code := Try.f115.body.getD .skip
theorem r115_eq (call : CallF) (fuel base : Nat) (x0 : Value) (x1 : Value) (m : M) : kbody E call keep115 (lp115 call fuel base) base Try.f115 [x0, x1] m = r115 call fuel base x0 x1 m := by
  kernel_rfl
noncomputable def rf115 : RF := fun call fuel base args m => match args with
  | [x0, x1] => r115 call fuel base x0 x1 m
  | _ => none
theorem r115_lk (call : CallF) (fuel base : Nat) : LoopsOk E call (lp115 call fuel base) fuel base 0 c115 = (And True (And True (And True (And (And True (And (And (And True (And (And True True) True)) (And True True)) True)) (And (And True (And (And True True) True)) (And (And True (And (And True True) True)) (And (And True (And (And True True) True)) (And True True)))))))) := by kernel_rfl
theorem r115_fn : E.P.funcs[115]? = some Try.f115 := by kernel_rfl
theorem r115_body : Try.f115.body = some c115 := by kernel_rfl
theorem rf115_ok : RFok E 115 rf115 := by
  refine ⟨Try.f115, r115_fn, fun call fuel base args m r _ h => ?_⟩
  unfold rf115 at h
  split at h
  · rw [← r115_eq] at h
    exact kbody_sound (c := c115) r115_body (Eq.mpr (r115_lk call fuel base) (And.intro trivial (And.intro trivial (And.intro trivial (And.intro (And.intro trivial (And.intro (And.intro (And.intro trivial (And.intro (And.intro trivial trivial) trivial)) (And.intro trivial trivial)) trivial)) (And.intro (And.intro trivial (And.intro (And.intro trivial trivial) trivial)) (And.intro (And.intro trivial (And.intro (And.intro trivial trivial) trivial)) (And.intro (And.intro trivial (And.intro (And.intro trivial trivial) trivial)) (And.intro trivial trivial))))))))) h
  · simp at h
end Go.AM
namespace Go.AM
open Go Go.Proofs
noncomputable def r116 (call : CallF) (fuel base : Nat) (x0 : Value) (x1 : Value) (x2 : Value) (x3 : Value) (m : M) : Res2 :=
  (k2 (xbox m x0) fun v4_1 m => (k2 (xbox m x3) fun v7_2 m => (k2 (xalloc E.P m 109) fun v8_3 m => (k1 (mbin E .eql 3 x1 (.int .i64 0)) fun v10_4 => (kb v10_4 (k1 (mfieldAddr E.P 45 v7_2 3) fun v11_5 => (k1 (xload E.P m 3 v11_5) fun v12_6 => (k1 (mfieldAddr E.P 109 v4_1 3) fun v13_7 => (ks (xstore E.P base m 3 v13_7 v12_6) fun m => (k1 (mfieldAddr E.P 109 v4_1 0) fun v16_8 => (k1 (mindexAddr E.P 107 v16_8 x1) fun v17_9 => (ks (xstore E.P base m 3 v17_9 x2) fun m => (k1 (mfieldAddr E.P 45 v7_2 1) fun v18_10 => (k1 (xload E.P m 3 v18_10) fun v19_11 => (k1 (mfieldAddr E.P 109 v4_1 4) fun v20_12 => (ks (xstore E.P base m 3 v20_12 v19_11) fun m => (k1 (mfieldAddr E.P 109 v4_1 1) fun v21_13 => (k1 (xload E.P m 3 v21_13) fun v22_14 => (k1 (mbin E .mul 3 v22_14 (.int .i64 8)) fun v23_15 => (k1 (mfieldAddr E.P 45 v7_2 0) fun v24_16 => (k1 (xload E.P m 3 v24_16) fun v25_17 => (k1 (mbin E .add 3 v23_15 v25_17) fun v26_18 => (k1 (mfieldAddr E.P 109 v4_1 1) fun v27_19 => (ks (xstore E.P base m 3 v27_19 v26_18) fun m => (k1 (mfieldAddr E.P 109 v4_1 2) fun v28_20 => (k1 (xload E.P m 3 v28_20) fun v29_21 => (k1 (mbin E .mul 3 v29_21 (.int .i64 8)) fun v30_22 => (k1 (mfieldAddr E.P 45 v7_2 2) fun v31_23 => (k1 (xload E.P m 3 v31_23) fun v32_24 => (k1 (mbin E .add 3 v30_22 v32_24) fun v33_25 => (k1 (mfieldAddr E.P 109 v4_1 2) fun v34_26 => (ks (xstore E.P base m 3 v34_26 v33_25) fun m => (k1 (xload E.P m 109 v4_1) fun v35_27 => (ks (xstore E.P base m 109 v8_3 v35_27) fun m => (k0 (mload E.P m 109 v8_3) fun r_28 => (fVal r_28 fun v => some (.ret v, m)))))))))))))))))))))))))))))))) (k1 (mfieldAddr E.P 109 v4_1 0) fun v16_29 => (k1 (mindexAddr E.P 107 v16_29 x1) fun v17_30 => (ks (xstore E.P base m 3 v17_30 x2) fun m => (k1 (mfieldAddr E.P 45 v7_2 1) fun v18_31 => (k1 (xload E.P m 3 v18_31) fun v19_32 => (k1 (mfieldAddr E.P 109 v4_1 4) fun v20_33 => (ks (xstore E.P base m 3 v20_33 v19_32) fun m => (k1 (mfieldAddr E.P 109 v4_1 1) fun v21_34 => (k1 (xload E.P m 3 v21_34) fun v22_35 => (k1 (mbin E .mul 3 v22_35 (.int .i64 8)) fun v23_36 => (k1 (mfieldAddr E.P 45 v7_2 0) fun v24_37 => (k1 (xload E.P m 3 v24_37) fun v25_38 => (k1 (mbin E .add 3 v23_36 v25_38) fun v26_39 => (k1 (mfieldAddr E.P 109 v4_1 1) fun v27_40 => (ks (xstore E.P base m 3 v27_40 v26_39) fun m => (k1 (mfieldAddr E.P 109 v4_1 2) fun v28_41 => (k1 (xload E.P m 3 v28_41) fun v29_42 => (k1 (mbin E .mul 3 v29_42 (.int .i64 8)) fun v30_43 => (k1 (mfieldAddr E.P 45 v7_2 2) fun v31_44 => (k1 (xload E.P m 3 v31_44) fun v32_45 => (k1 (mbin E .add 3 v30_43 v32_45) fun v33_46 => (k1 (mfieldAddr E.P 109 v4_1 2) fun v34_47 => (ks (xstore E.P base m 3 v34_47 v33_46) fun m => (k1 (xload E.P m 109 v4_1) fun v35_48 => (ks (xstore E.P base m 109 v8_3 v35_48) fun m => (k0 (mload E.P m 109 v8_3) fun r_49 => (fVal r_49 fun v => some (.ret v, m)))))))))))))))))))))))))))))))))
def keep116 : Keep := { region := fun i => ([[1, 2, 4, 7, 8], [1, 2, 4, 7, 8, 10], [1, 2, 4, 7, 8], [4, 7, 8], [4, 7, 8], [4, 7, 8], [4, 8], [8]] : List (List Nat))[i]?, exit := fun i => ([] : List (List Nat))[i]?, ret := some [8] }
noncomputable def lp116 (call : CallF) (fuel base : Nat) : Lp := lpsel []
noncomputable def c116 : Code := Try.f116.body.getD .skip
theorem r116_eq (call : CallF) (fuel base : Nat) (x0 : Value) (x1 : Value) (x2 : Value) (x3 : Value) (m : M) : kbody E call keep116 (lp116 call fuel base) base Try.f116 [x0, x1, x2, x3] m = r116 call fuel base x0 x1 x2 x3 m := by
  kernel_rfl
noncomputable def rf116 : RF := fun call fuel base args m => match args with
  | [x0, x1, x2, x3] => r116 call fuel base x0 x1 x2 x3 m
  | _ => none
theorem r116_lk (call : CallF) (fuel base : Nat) : LoopsOk E call (lp116 call fuel base) fuel base 0 c116 = (And True (And (And True (And True True)) (And True (And True (And True (And True (And True True))))))) := by kernel_rfl
theorem r116_fn : E.P.funcs[116]? = some Try.f116 := by kernel_rfl
theorem r116_body : Try.f116.body = some c116 := by kernel_rfl
theorem rf116_ok : RFok E 116 rf116 := by
  refine ⟨Try.f116, r116_fn, fun call fuel base args m r _ h => ?_⟩
  unfold rf116 at h
  split at h
  · rw [← r116_eq] at h
    exact kbody_sound (c := c116) r116_body (Eq.mpr (r116_lk call fuel base) (And.intro trivial (And.intro (And.intro trivial (And.intro trivial trivial)) (And.intro trivial (And.intro trivial (And.intro trivial (And.intro trivial (And.intro trivial trivial)))))))) h
  · simp at h
end Go.AM
