import Derived.KernelRfl
import Derived.Laws.StructEq
import Derived.Test.YtdneekidlmgpfaaRows
import Derived.WalkKit
import Derived.Test.YtdneekidlmgpfaaAmModel
import Derived.Test.YtdneekidlmgpfaaAmOps5
import Derived.Test.YtdneekidlmgpfaaAmOps6
import Derived.Test.YtdneekidlmgpfaaAmCode
import Derived.Test.YtdneekidlmgpfaaAmDraw5
import Derived.Test.YtdneekidlmgpfaaAmEq
import Derived.Test.YtdneekidlmgpfaaRBase
set_option linter.unusedVariables false
set_option linter.unusedSimpArgs false
set_option linter.unusedSectionVars false
namespace Go.AM
open Go Go.Proofs
noncomputable def r90 (call : CallF) (fuel base : Nat) (x0 : Value) (x1 : Value) (m : M) : Res2 :=
  (k1 (mbin E .mul 3 x0 x1) fun v7_1 => (fVal v7_1 fun v => some (.ret v, m)))
def keep90 : Keep := { region := fun i => ([[0, 1], [4]] : List (List Nat))[i]?, exit := fun i => ([] : List (List Nat))[i]?, ret := some [4] }
noncomputable def lp90 (call : CallF) (fuel base : Nat) : Lp := lpsel []
noncomputable def c90 : Code := Try.f90.body.getD .skip
theorem r90_eq (call : CallF) (fuel base : Nat) (x0 : Value) (x1 : Value) (m : M) : kbody E call keep90 (lp90 call fuel base) base Try.f90 [x0, x1] m = r90 call fuel base x0 x1 m := by
  kernel_rfl
noncomputable def rf90 : RF := fun call fuel base args m => match args with
  | [x0, x1] => r90 call fuel base x0 x1 m
  | _ => none
theorem r90_lk (call : CallF) (fuel base : Nat) : LoopsOk E call (lp90 call fuel base) fuel base 0 c90 = (And True (And True True)) := by kernel_rfl
theorem r90_fn : E.P.funcs[90]? = some Try.f90 := by kernel_rfl
theorem r90_body : Try.f90.body = some c90 := by kernel_rfl
theorem rf90_ok : RFok E 90 rf90 := by
  refine ⟨Try.f90, r90_fn, fun call fuel base args m r _ h => ?_⟩
  unfold rf90 at h
  split at h
  · rw [← r90_eq] at h
    exact kbody_sound (c := c90) r90_body (Eq.mpr (r90_lk call fuel base) (And.intro trivial (And.intro trivial trivial))) h
  · simp at h
end Go.AM
namespace Go.AM
open Go Go.Proofs
noncomputable def r91 (call : CallF) (fuel base : Nat) (x0 : Value) (x1 : Value) (m : M) : Res2 :=
  (k1 (mbin E .sub 3 x0 x1) fun v7_1 => (fVal v7_1 fun v => some (.ret v, m)))
def keep91 : Keep := { region := fun i => ([[0, 1], [4]] : List (List Nat))[i]?, exit := fun i => ([] : List (List Nat))[i]?, ret := some [4] }
noncomputable def lp91 (call : CallF) (fuel base : Nat) : Lp := lpsel []
noncomputable def c91 : Code := Try.f91.body.getD .skip
theorem r91_eq (call : CallF) (fuel base : Nat) (x0 : Value) (x1 : Value) (m : M) : kbody E call keep91 (lp91 call fuel base) base Try.f91 [x0, x1] m = r91 call fuel base x0 x1 m := by
  kernel_rfl
noncomputable def rf91 : RF := fun call fuel base args m => match args with
  | [x0, x1] => r91 call fuel base x0 x1 m
  | _ => none
theorem r91_lk (call : CallF) (fuel base : Nat) : LoopsOk E call (lp91 call fuel base) fuel base 0 c91 = (And True (And True True)) := by kernel_rfl
theorem r91_fn : E.P.funcs[91]? = some Try.f91 := by kernel_rfl
theorem r91_body : Try.f91.body = some c91 := by kernel_rfl
theorem rf91_ok : RFok E 91 rf91 := by
  refine ⟨Try.f91, r91_fn, fun call fuel base args m r _ h => ?_⟩
  unfold rf91 at h
  split at h
  · rw [← r91_eq] at h
    exact kbody_sound (c := c91) r91_body (Eq.mpr (r91_lk call fuel base) (And.intro trivial (And.intro trivial trivial))) h
  · simp at h
end Go.AM
namespace Go.AM
open Go Go.Proofs
noncomputable def r92 (call : CallF) (fuel base : Nat) (x0 : Value) (x1 : Value) (m : M) : Res2 :=
  (k1 (mbin E .quo 3 x0 x1) fun v7_1 => (fVal v7_1 fun v => some (.ret v, m)))
def keep92 : Keep := { region := fun i => ([[0, 1], [4]] : List (List Nat))[i]?, exit := fun i => ([] : List (List Nat))[i]?, ret := some [4] }
noncomputable def lp92 (call : CallF) (fuel base : Nat) : Lp := lpsel []
noncomputable def c92 : Code := Try.f92.body.getD .skip
theorem r92_eq (call : CallF) (fuel base : Nat) (x0 : Value) (x1 : Value) (m : M) : kbody E call keep92 (lp92 call fuel base) base Try.f92 [x0, x1] m = r92 call fuel base x0 x1 m := by
  kernel_rfl
noncomputable def rf92 : RF := fun call fuel base args m => match args with
  | [x0, x1] => r92 call fuel base x0 x1 m
  | _ => none
theorem r92_lk (call : CallF) (fuel base : Nat) : LoopsOk E call (lp92 call fuel base) fuel base 0 c92 = (And True (And True True)) := by kernel_rfl
theorem r92_fn : E.P.funcs[92]? = some Try.f92 := by kernel_rfl
theorem r92_body : Try.f92.body = some c92 := by kernel_rfl
theorem rf92_ok : RFok E 92 rf92 := by
  refine ⟨Try.f92, r92_fn, fun call fuel base args m r _ h => ?_⟩
  unfold rf92 at h
  split at h
  · rw [← r92_eq] at h
    exact kbody_sound (c := c92) r92_body (Eq.mpr (r92_lk call fuel base) (And.intro trivial (And.intro trivial trivial))) h
  · simp at h
end Go.AM
namespace Go.AM
open Go Go.Proofs
noncomputable def r93_L0 (call : CallF) (fuel base : Nat) (kr : Value → M → Res2) (kx0 : M → Res2) (n : Nat) : Value → Value → Value → Value → M → Res2 :=
  Nat.rec (motive := fun _ => Value → Value → Value → Value → M → Res2) (fun _ _ _ _ _ => none)
    (fun _ ih x0 x1 x7 x8 m =>
      (k1 (mbin E .lss 3 x8 x7) fun v9_2 => (kb v9_2 (k1 (mindexAddr E.P 29 x0 x8) fun v14_3 => (k1 (xload E.P m 3 v14_3) fun v15_4 => (k1 (mbin E .eql 3 x1 v15_4) fun v16_5 => (kb v16_5 (kr x8 m) (k1 (mbin E .add 3 x8 (.int .i64 1)) fun v18_6 => (ih x0 x1 x7 v18_6 m)))))) (kx0 m)))) n
noncomputable def r93 (call : CallF) (fuel base : Nat) (x0 : Value) (x1 : Value) (m : M) : Res2 :=
  (k2 (vcall E.P base m .len [29] [x0]) fun v7_1 m => (r93_L0 call fuel base (fun y4_7 m => (fVal y4_7 fun v => some (.ret v, m))) (fun m => (fVal (.int .i64 (-1)) fun v => some (.ret v, m))) fuel x0 x1 v7_1 (.int .i64 0) m))
def keep93 : Keep := { region := fun i => ([[0, 1], [0, 1, 7, 8], [0, 1, 7, 8, 9], [0, 1, 5, 7, 8], [0, 1, 5, 7, 8, 16], [4], [0, 1, 7, 8], [4]] : List (List Nat))[i]?, exit := fun i => ([[], [0, 1, 7, 8]] : List (List Nat))[i]?, ret := some [4] }
noncomputable def r93_L0_R (call : CallF) (fuel base n : Nat) (vs : List Value) (m : M) (K : KT) : Res2 := match vs with
  | [x0, x1, x7, x8] => r93_L0 call fuel base (fun y4 m => K .ret { n := 19, l := [(4, y4)] } m) (fun m => K (.exit 0) { n := 19, l := [] } m) n x0 x1 x7 x8 m
  | _ => none
noncomputable def lp93 (call : CallF) (fuel base : Nat) : Lp := lpsel [(0, fun T m K => kslots 19 [0, 1, 7, 8] T fun vs => r93_L0_R call fuel base fuel vs m K)]
noncomputable def c93 : Code := Try.f93.body.getD .skip
theorem r93_L0_lk (call : CallF) (fuel base : Nat) : LoopsOk E call (lp93 call fuel base) fuel base 0 (loopB (blockB (seqR (seqL (seqR c93))))) = (And True (And (And True True) (And (And True (And True (And (And True True) True))) True))) := by kernel_rfl
theorem r93_L0_ok (call : CallF) (fuel base : Nat) : LpOk E call (lp93 call fuel base) fuel base 0 (loopB (blockB (seqR (seqL (seqR c93))))) := by
  refine loop_ok (kp := keep93) (hb := Eq.mpr (r93_L0_lk call fuel base) (And.intro trivial (And.intro (And.intro trivial trivial) (And.intro (And.intro trivial (And.intro trivial (And.intro (And.intro trivial trivial) trivial))) trivial)))) 19 [0, 1, 7, 8] (fun n vs m K => r93_L0_R call fuel base n vs m K) ?_ ?_ (fun _ _ _ => rfl)
  · intro vs m K
    unfold r93_L0_R
    split <;> rfl
  · intro n vs m K hl
    match vs, hl with
    | [x0, x1, x7, x8], _ => show _ = _; kernel_rfl
theorem r93_eq (call : CallF) (fuel base : Nat) (x0 : Value) (x1 : Value) (m : M) : kbody E call keep93 (lp93 call fuel base) base Try.f93 [x0, x1] m = r93 call fuel base x0 x1 m := by
  kernel_rfl
noncomputable def rf93 : RF := fun call fuel base args m => match args with
  | [x0, x1] => r93 call fuel base x0 x1 m
  | _ => none
theorem r93_lk (call : CallF) (fuel base : Nat) : LoopsOk E call (lp93 call fuel base) fuel base 0 c93 = (And True (And (And True (LpOk E call (lp93 call fuel base) fuel base 0 (loopB (blockB (seqR (seqL (seqR c93))))))) (And True True))) := by kernel_rfl
theorem r93_fn : E.P.funcs[93]? = some Try.f93 := by kernel_rfl
theorem r93_body : Try.f93.body = some c93 := by kernel_rfl
theorem rf93_ok : RFok E 93 rf93 := by
  refine ⟨Try.f93, r93_fn, fun call fuel base args m r _ h => ?_⟩
  unfold rf93 at h
  split at h
  · rw [← r93_eq] at h
    exact kbody_sound (c := c93) r93_body (Eq.mpr (r93_lk call fuel base) (And.intro trivial (And.intro (And.intro trivial (r93_L0_ok call fuel base)) (And.intro trivial trivial)))) h
  · simp at h
end Go.AM
namespace Go.AM
open Go Go.Proofs
noncomputable def r94_L2 (call : CallF) (fuel base : Nat) (kx2 : Value → Value → Value → Value → Value → M → Res2) (n : Nat) : Value → Value → Value → Value → Value → Value → M → Res2 :=
  Nat.rec (motive := fun _ => Value → Value → Value → Value → Value → Value → M → Res2) (fun _ _ _ _ _ _ _ => none)
    (fun _ ih x0 x1 x2 x3 x8 x9 m =>
      (k1 (mbin E .gtr 3 x9 x1) fun v20_3 => (kb v20_3 (k1 (mindexAddr E.P 75 x0 x9) fun v25_4 => (k1 (xload E.P m 80 v25_4) fun v26_5 => (k1 (mbin E .sub 3 x9 (.int .i64 1)) fun v29_6 => (k1 (mindexAddr E.P 75 x0 v29_6) fun v30_7 => (k1 (xload E.P m 80 v30_7) fun v31_8 => (kc (kB m (kv call m.length x3 [v26_5, v31_8] m)) (fun v32_9 m => (k1 (mbin E .lss 3 v32_9 (.int .i64 0)) fun v33_10 => (k0 (mpick (.bool true) v33_10 (.bool false)) fun v34_11 => (kb v34_11 (k1 (mbin E .sub 3 x9 (.int .i64 1)) fun v41_12 => (k1 (mbin E .sub 3 x9 (.int .i64 1)) fun v44_13 => (k1 (mindexAddr E.P 75 x0 v44_13) fun v45_14 => (k1 (xload E.P m 80 v45_14) fun v46_15 => (k1 (mindexAddr E.P 75 x0 x9) fun v49_16 => (k1 (xload E.P m 80 v49_16) fun v50_17 => (k1 (mindexAddr E.P 75 x0 x9) fun v51_18 => (ks (xstore E.P base m 80 v51_18 v46_15) fun m => (k1 (mindexAddr E.P 75 x0 v41_12) fun v52_19 => (ks (xstore E.P base m 80 v52_19 v50_17) fun m => (k1 (mbin E .sub 3 x9 (.int .i64 1)) fun v36_20 => (ih x0 x1 x2 x3 x8 v36_20 m)))))))))))) (kx2 x0 x1 x2 x3 x8 m))))) (fun _ _ => none))))))) (k0 (mpick (.bool false) undef (.bool false)) fun v34_21 => (kb v34_21 (k1 (mbin E .sub 3 x9 (.int .i64 1)) fun v41_22 => (k1 (mbin E .sub 3 x9 (.int .i64 1)) fun v44_23 => (k1 (mindexAddr E.P 75 x0 v44_23) fun v45_24 => (k1 (xload E.P m 80 v45_24) fun v46_25 => (k1 (mindexAddr E.P 75 x0 x9) fun v49_26 => (k1 (xload E.P m 80 v49_26) fun v50_27 => (k1 (mindexAddr E.P 75 x0 x9) fun v51_28 => (ks (xstore E.P base m 80 v51_28 v46_25) fun m => (k1 (mindexAddr E.P 75 x0 v41_22) fun v52_29 => (ks (xstore E.P base m 80 v52_29 v50_27) fun m => (k1 (mbin E .sub 3 x9 (.int .i64 1)) fun v36_30 => (ih x0 x1 x2 x3 x8 v36_30 m)))))))))))) (kx2 x0 x1 x2 x3 x8 m)))))) n
noncomputable def r94_L0 (call : CallF) (fuel base : Nat) (kx0 : M → Res2) (n : Nat) : Value → Value → Value → Value → Value → M → Res2 :=
  Nat.rec (motive := fun _ => Value → Value → Value → Value → Value → M → Res2) (fun _ _ _ _ _ _ => none)
    (fun _ ih x0 x1 x2 x3 x8 m =>
      (k1 (mbin E .lss 3 x8 x2) fun v14_2 => (kb v14_2 (r94_L2 call fuel base (fun y0_31 y1_32 y2_33 y3_34 y8_35 m => (k1 (mbin E .add 3 y8_35 (.int .i64 1)) fun v16_36 => (ih y0_31 y1_32 y2_33 y3_34 v16_36 m))) fuel x0 x1 x2 x3 x8 x8 m) (kx0 m)))) n
noncomputable def r94 (call : CallF) (fuel base : Nat) (x0 : Value) (x1 : Value) (x2 : Value) (x3 : Value) (m : M) : Res2 :=
  (k1 (mbin E .add 3 x1 (.int .i64 1)) fun v11_1 => (r94_L0 call fuel base (fun m => (some (.ret (.tuple #[]), m))) fuel x0 x1 x2 x3 v11_1 m))
def keep94 : Keep := { region := fun i => ([[0, 1, 2, 3, 8], [0, 1, 2, 3, 8, 14], [0, 1, 2, 3, 8], [0, 1, 2, 3, 8, 9], [0, 1, 2, 3, 8, 9, 34], [0, 1, 2, 3, 8, 9], [0, 1, 2, 3, 8, 9]] : List (List Nat))[i]?, exit := fun i => ([[], [0, 1, 2, 3, 8], [0, 1, 2, 3, 8], [0, 1, 2, 3, 8, 9]] : List (List Nat))[i]?, ret := some [] }
noncomputable def r94_L2_R (call : CallF) (fuel base n : Nat) (vs : List Value) (m : M) (K : KT) : Res2 := match vs with
  | [x0, x1, x2, x3, x8, x9] => r94_L2 call fuel base (fun y0 y1 y2 y3 y8 m => K (.exit 2) { n := 53, l := [(0, y0), (1, y1), (2, y2), (3, y3), (8, y8)] } m) n x0 x1 x2 x3 x8 x9 m
  | _ => none
noncomputable def r94_L0_R (call : CallF) (fuel base n : Nat) (vs : List Value) (m : M) (K : KT) : Res2 := match vs with
  | [x0, x1, x2, x3, x8] => r94_L0 call fuel base (fun m => K (.exit 0) { n := 53, l := [] } m) n x0 x1 x2 x3 x8 m
  | _ => none
noncomputable def lp94 (call : CallF) (fuel base : Nat) : Lp := lpsel [(2, fun T m K => kslots 53 [0, 1, 2, 3, 8, 9] T fun vs => r94_L2_R call fuel base fuel vs m K), (0, fun T m K => kslots 53 [0, 1, 2, 3, 8] T fun vs => r94_L0_R call fuel base fuel vs m K)]
noncomputable def c94 : Code := Try.f94.body.getD .skip
theorem r94_L2_lk (call : CallF) (fuel base : Nat) : LoopsOk E call (lp94 call fuel base) fuel base 2 (loopB (blockB (seqR (blockB (seqL (seqR (loopB (blockB (seqR c94))))))))) = (And (And True (And True True)) (And True True)) := by kernel_rfl
theorem r94_L2_ok (call : CallF) (fuel base : Nat) : LpOk E call (lp94 call fuel base) fuel base 2 (loopB (blockB (seqR (blockB (seqL (seqR (loopB (blockB (seqR c94))))))))) := by
  refine loop_ok (kp := keep94) (hb := Eq.mpr (r94_L2_lk call fuel base) (And.intro (And.intro trivial (And.intro trivial trivial)) (And.intro trivial trivial))) 53 [0, 1, 2, 3, 8, 9] (fun n vs m K => r94_L2_R call fuel base n vs m K) ?_ ?_ (fun _ _ _ => rfl)
  · intro vs m K
    unfold r94_L2_R
    split <;> rfl
  · intro n vs m K hl
    match vs, hl with
    | [x0, x1, x2, x3, x8, x9], _ => show _ = _; kernel_rfl
theorem r94_L0_lk (call : CallF) (fuel base : Nat) : LoopsOk E call (lp94 call fuel base) fuel base 0 (loopB (blockB (seqR c94))) = (And (And True (And True True)) (And (And True (LpOk E call (lp94 call fuel base) fuel base 2 (loopB (blockB (seqR (blockB (seqL (seqR (loopB (blockB (seqR c94))))))))))) True)) := by kernel_rfl
theorem r94_L0_ok (call : CallF) (fuel base : Nat) : LpOk E call (lp94 call fuel base) fuel base 0 (loopB (blockB (seqR c94))) := by
  refine loop_ok (kp := keep94) (hb := Eq.mpr (r94_L0_lk call fuel base) (And.intro (And.intro trivial (And.intro trivial trivial)) (And.intro (And.intro trivial (r94_L2_ok call fuel base)) trivial))) 53 [0, 1, 2, 3, 8] (fun n vs m K => r94_L0_R call fuel base n vs m K) ?_ ?_ (fun _ _ _ => rfl)
  · intro vs m K
    unfold r94_L0_R
    split <;> rfl
  · intro n vs m K hl
    match vs, hl with
    | [x0, x1, x2, x3, x8], _ => show _ = _; kernel_rfl
theorem r94_eq (call : CallF) (fuel base : Nat) (x0 : Value) (x1 : Value) (x2 : Value) (x3 : Value) (m : M) : kbody E call keep94 (lp94 call fuel base) base Try.f94 [x0, x1, x2, x3] m = r94 call fuel base x0 x1 x2 x3 m := by
  kernel_rfl
noncomputable def rf94 : RF := fun call fuel base args m => match args with
  | [x0, x1, x2, x3] => r94 call fuel base x0 x1 x2 x3 m
  | _ => none
theorem r94_lk (call : CallF) (fuel base : Nat) : LoopsOk E call (lp94 call fuel base) fuel base 0 c94 = (And True (LpOk E call (lp94 call fuel base) fuel base 0 (loopB (blockB (seqR c94))))) := by kernel_rfl
theorem r94_fn : E.P.funcs[94]? = some Try.f94 := by kernel_rfl
theorem r94_body : Try.f94.body = some c94 := by kernel_rfl
theorem rf94_ok : RFok E 94 rf94 := by
  refine ⟨Try.f94, r94_fn, fun call fuel base args m r _ h => ?_⟩
  unfold rf94 at h
  split at h
  · rw [← r94_eq] at h
    exact kbody_sound (c := c94) r94_body (Eq.mpr (r94_lk call fuel base) (And.intro trivial (r94_L0_ok call fuel base))) h
  · simp at h
end Go.AM
namespace Go.AM
open Go Go.Proofs
noncomputable def r95_L0 (call : CallF) (fuel base : Nat) (kp : Value → M → Res2) (kx0 : Value → Value → Value → Value → Value → M → Res2) (n : Nat) : Value → Value → Value → Value → Value → Value → M → Res2 :=
  Nat.rec (motive := fun _ => Value → Value → Value → Value → Value → Value → M → Res2) (fun _ _ _ _ _ _ _ => none)
    (fun _ ih x0 x3 x8 x9 x10 x11 m =>
      (k1 (mbin E .geq 3 x11 (.int .i64 0)) fun v21_4 => (kb v21_4 (kc (call base 104 [x0, x11, x10, x8, x3] m) (fun v29_5 m => (k1 (mbin E .sub 3 x11 (.int .i64 1)) fun v23_6 => (ih x0 x3 x8 x9 x10 v23_6 m))) (fun v m => kp v m)) (kx0 x0 x3 x8 x9 x10 m)))) n
noncomputable def r95_L2 (call : CallF) (fuel base : Nat) (kp : Value → M → Res2) (kx2 : M → Res2) (n : Nat) : Value → Value → Value → Value → Value → M → Res2 :=
  Nat.rec (motive := fun _ => Value → Value → Value → Value → Value → M → Res2) (fun _ _ _ _ _ _ => none)
    (fun _ ih x0 x3 x8 x9 x12 m =>
      (k1 (mbin E .geq 3 x12 (.int .i64 0)) fun v33_13 => (kb v33_13 (k1 (mbin E .add 3 x8 x12) fun v41_14 => (k1 (mbin E .add 3 x8 x12) fun v45_15 => (k1 (mindexAddr E.P 75 x0 v45_15) fun v46_16 => (k1 (xload E.P m 80 v46_16) fun v47_17 => (k1 (mindexAddr E.P 75 x0 x8) fun v50_18 => (k1 (xload E.P m 80 v50_18) fun v51_19 => (k1 (mindexAddr E.P 75 x0 x8) fun v52_20 => (ks (xstore E.P base m 80 v52_20 v47_17) fun m => (k1 (mindexAddr E.P 75 x0 v41_14) fun v53_21 => (ks (xstore E.P base m 80 v53_21 v51_19) fun m => (kc (call base 104 [x0, x9, x12, x8, x3] m) (fun v59_22 m => (k1 (mbin E .sub 3 x12 (.int .i64 1)) fun v35_23 => (ih x0 x3 x8 x9 v35_23 m))) (fun v m => kp v m)))))))))))) (kx2 m)))) n
noncomputable def r95 (call : CallF) (fuel base : Nat) (x0 : Value) (x1 : Value) (x2 : Value) (x3 : Value) (m : M) : Res2 :=
  (k1 (mbin E .sub 3 x2 x1) fun v16_1 => (k1 (mbin E .sub 3 v16_1 (.int .i64 1)) fun v18_2 => (k1 (mbin E .quo 3 v18_2 (.int .i64 2)) fun v19_3 => (r95_L0 call fuel base (fun v m => some (.pan v, m)) (fun y0_7 y3_8 y8_9 y9_10 y10_11 m => (k1 (mbin E .sub 3 y10_11 (.int .i64 1)) fun v31_12 => (r95_L2 call fuel base (fun v m => some (.pan v, m)) (fun m => (some (.ret (.tuple #[]), m))) fuel y0_7 y3_8 y8_9 y9_10 v31_12 m))) fuel x0 x3 x1 (.int .i64 0) v16_1 v19_3 m))))
def keep95 : Keep := { region := fun i => ([[0, 1, 2, 3, 8], [0, 1, 2, 3, 8, 9], [0, 3, 8, 9, 10], [0, 3, 8, 9, 10, 11], [0, 3, 8, 9, 10, 11, 21], [0, 3, 8, 9, 10, 11], [0, 3, 8, 9, 10, 11], [0, 3, 8, 9, 12], [0, 3, 8, 9, 12, 33], [0, 3, 8, 9, 12], [0, 3, 8, 9, 12], [0, 3, 8, 9, 12]] : List (List Nat))[i]?, exit := fun i => ([[0, 3, 8, 9, 10], [0, 3, 8, 9, 10, 11], [], [0, 3, 8, 9, 12]] : List (List Nat))[i]?, ret := some [] }
noncomputable def r95_L0_R (call : CallF) (fuel base n : Nat) (vs : List Value) (m : M) (K : KT) : Res2 := match vs with
  | [x0, x3, x8, x9, x10, x11] => r95_L0 call fuel base (fun v m => K (.pan v) { n := 60, l := [] } m) (fun y0 y3 y8 y9 y10 m => K (.exit 0) { n := 60, l := [(0, y0), (3, y3), (8, y8), (9, y9), (10, y10)] } m) n x0 x3 x8 x9 x10 x11 m
  | _ => none
noncomputable def r95_L2_R (call : CallF) (fuel base n : Nat) (vs : List Value) (m : M) (K : KT) : Res2 := match vs with
  | [x0, x3, x8, x9, x12] => r95_L2 call fuel base (fun v m => K (.pan v) { n := 60, l := [] } m) (fun m => K (.exit 2) { n := 60, l := [] } m) n x0 x3 x8 x9 x12 m
  | _ => none
noncomputable def lp95 (call : CallF) (fuel base : Nat) : Lp := lpsel [(0, fun T m K => kslots 60 [0, 3, 8, 9, 10, 11] T fun vs => r95_L0_R call fuel base fuel vs m K), (2, fun T m K => kslots 60 [0, 3, 8, 9, 12] T fun vs => r95_L2_R call fuel base fuel vs m K)]
noncomputable def c95 : Code := Try.f95.body.getD .skip
theorem r95_L0_lk (call : CallF) (fuel base : Nat) : LoopsOk E call (lp95 call fuel base) fuel base 0 (loopB (blockB (seqR (seqL (seqR (seqR (seqR c95))))))) = (And (And True (And True True)) (And True True)) := by kernel_rfl
theorem r95_L0_ok (call : CallF) (fuel base : Nat) : LpOk E call (lp95 call fuel base) fuel base 0 (loopB (blockB (seqR (seqL (seqR (seqR (seqR c95))))))) := by
  refine loop_ok (kp := keep95) (hb := Eq.mpr (r95_L0_lk call fuel base) (And.intro (And.intro trivial (And.intro trivial trivial)) (And.intro trivial trivial))) 60 [0, 3, 8, 9, 10, 11] (fun n vs m K => r95_L0_R call fuel base n vs m K) ?_ ?_ (fun _ _ _ => rfl)
  · intro vs m K
    unfold r95_L0_R
    split <;> rfl
  · intro n vs m K hl
    match vs, hl with
    | [x0, x3, x8, x9, x10, x11], _ => show _ = _; kernel_rfl
theorem r95_L2_lk (call : CallF) (fuel base : Nat) : LoopsOk E call (lp95 call fuel base) fuel base 2 (loopB (blockB (seqR (seqR (seqR (seqR (seqR c95))))))) = (And (And True (And True True)) (And (And True True) True)) := by kernel_rfl
theorem r95_L2_ok (call : CallF) (fuel base : Nat) : LpOk E call (lp95 call fuel base) fuel base 2 (loopB (blockB (seqR (seqR (seqR (seqR (seqR c95))))))) := by
  refine loop_ok (kp := keep95) (hb := Eq.mpr (r95_L2_lk call fuel base) (And.intro (And.intro trivial (And.intro trivial trivial)) (And.intro (And.intro trivial trivial) trivial))) 60 [0, 3, 8, 9, 12] (fun n vs m K => r95_L2_R call fuel base n vs m K) ?_ ?_ (fun _ _ _ => rfl)
  · intro vs m K
    unfold r95_L2_R
    split <;> rfl
  · intro n vs m K hl
    match vs, hl with
    | [x0, x3, x8, x9, x12], _ => show _ = _; kernel_rfl
theorem r95_eq (call : CallF) (fuel base : Nat) (x0 : Value) (x1 : Value) (x2 : Value) (x3 : Value) (m : M) : kbody E call keep95 (lp95 call fuel base) base Try.f95 [x0, x1, x2, x3] m = r95 call fuel base x0 x1 x2 x3 m := by
  kernel_rfl
noncomputable def rf95 : RF := fun call fuel base args m => match args with
  | [x0, x1, x2, x3] => r95 call fuel base x0 x1 x2 x3 m
  | _ => none
theorem r95_lk (call : CallF) (fuel base : Nat) : LoopsOk E call (lp95 call fuel base) fuel base 0 c95 = (And True (And True (And True (And (And True (LpOk E call (lp95 call fuel base) fuel base 0 (loopB (blockB (seqR (seqL (seqR (seqR (seqR c95))))))))) (And True (LpOk E call (lp95 call fuel base) fuel base 2 (loopB (blockB (seqR (seqR (seqR (seqR (seqR c95))))))))))))) := by kernel_rfl
theorem r95_fn : E.P.funcs[95]? = some Try.f95 := by kernel_rfl
theorem r95_body : Try.f95.body = some c95 := by kernel_rfl
theorem rf95_ok : RFok E 95 rf95 := by
  refine ⟨Try.f95, r95_fn, fun call fuel base args m r _ h => ?_⟩
  unfold rf95 at h
  split at h
  · rw [← r95_eq] at h
    exact kbody_sound (c := c95) r95_body (Eq.mpr (r95_lk call fuel base) (And.intro trivial (And.intro trivial (And.intro trivial (And.intro (And.intro trivial (r95_L0_ok call fuel base)) (And.intro trivial (r95_L2_ok call fuel base))))))) h
  · simp at h
end Go.AM
namespace Go.AM
open Go Go.Proofs
noncomputable def r96_L0 (call : CallF) (fuel base : Nat) (kp : Value → M → Res2) (kx0 : M → Res2) (n : Nat) : Value → Value → Value → Value → Value → Value → M → Res2 :=
  Nat.rec (motive := fun _ => Value → Value → Value → Value → Value → Value → M → Res2) (fun _ _ _ _ _ _ _ => none)
    (fun _ ih x0 x1 x8 x9 x10 x11 m =>
      (k1 (mbin E .quo 3 x8 (.int .i64 4)) fun v31_10 => (k1 (mbin E .mul 3 v31_10 (.int .i64 2)) fun v32_11 => (k1 (mbin E .add 3 x1 v32_11) fun v33_12 => (k1 (mbin E .add 3 v33_12 (.int .i64 1)) fun v34_13 => (k1 (mbin E .leq 3 x11 v34_13) fun v35_14 => (kb v35_14 (kc (call base 106 [x9] m) (fun v38_15 m => (k1 (mbin E .sub 112 x10 (.int .u64 1)) fun v40_16 => (k1 (mbin E .and 112 v38_15 v40_16) fun v41_17 => (k1 (mconvert E.P 112 3 v41_17) fun v42_18 => (k1 (mbin E .geq 3 v42_18 x8) fun v45_19 => (kb v45_19 (k1 (mbin E .sub 3 v42_18 x8) fun v48_20 => (k1 (mbin E .add 3 x1 v48_20) fun v54_21 => (k1 (mbin E .add 3 x1 v48_20) fun v58_22 => (k1 (mindexAddr E.P 75 x0 v58_22) fun v59_23 => (k1 (xload E.P m 80 v59_23) fun v60_24 => (k1 (mindexAddr E.P 75 x0 x11) fun v63_25 => (k1 (xload E.P m 80 v63_25) fun v64_26 => (k1 (mindexAddr E.P 75 x0 x11) fun v65_27 => (ks (xstore E.P base m 80 v65_27 v60_24) fun m => (k1 (mindexAddr E.P 75 x0 v54_21) fun v66_28 => (ks (xstore E.P base m 80 v66_28 v64_26) fun m => (k1 (mbin E .add 3 x11 (.int .i64 1)) fun v37_29 => (ih x0 x1 x8 x9 x10 v37_29 m))))))))))))) (k1 (mbin E .add 3 x1 v42_18) fun v54_30 => (k1 (mbin E .add 3 x1 v42_18) fun v58_31 => (k1 (mindexAddr E.P 75 x0 v58_31) fun v59_32 => (k1 (xload E.P m 80 v59_32) fun v60_33 => (k1 (mindexAddr E.P 75 x0 x11) fun v63_34 => (k1 (xload E.P m 80 v63_34) fun v64_35 => (k1 (mindexAddr E.P 75 x0 x11) fun v65_36 => (ks (xstore E.P base m 80 v65_36 v60_33) fun m => (k1 (mindexAddr E.P 75 x0 v54_30) fun v66_37 => (ks (xstore E.P base m 80 v66_37 v64_35) fun m => (k1 (mbin E .add 3 x11 (.int .i64 1)) fun v37_38 => (ih x0 x1 x8 x9 x10 v37_38 m)))))))))))))))))) (fun v m => kp v m)) (kx0 m)))))))) n
noncomputable def r96 (call : CallF) (fuel base : Nat) (x0 : Value) (x1 : Value) (x2 : Value) (x3 : Value) (m : M) : Res2 :=
  (k1 (mbin E .sub 3 x2 x1) fun v15_1 => (k1 (mbin E .geq 3 v15_1 (.int .i64 8)) fun v17_2 => (kb v17_2 (k1 (mconvert E.P 3 126 v15_1) fun v19_3 => (k2 (xalloc E.P m 126) fun v9_4 m => (ks (xstore E.P base m 126 v9_4 v19_3) fun m => (kc (call base 105 [v15_1] m) (fun v21_5 m => (k1 (mbin E .quo 3 v15_1 (.int .i64 4)) fun v24_6 => (k1 (mbin E .mul 3 v24_6 (.int .i64 2)) fun v25_7 => (k1 (mbin E .add 3 x1 v25_7) fun v26_8 => (k1 (mbin E .sub 3 v26_8 (.int .i64 1)) fun v27_9 => (r96_L0 call fuel base (fun v m => some (.pan v, m)) (fun m => (some (.ret (.tuple #[]), m))) fuel x0 x1 v15_1 v9_4 v21_5 v27_9 m)))))) (fun v m => some (.pan v, m)))))) (some (.ret (.tuple #[]), m)))))
def keep96 : Keep := { region := fun i => ([[0, 1, 8], [0, 1, 8, 17], [0, 1, 8, 9], [0, 1, 8, 9, 10], [0, 1, 8, 9, 10, 11], [0, 1, 8, 9, 10, 11, 35], [0, 1, 8, 9, 10, 11], [0, 1, 8, 9, 10, 11, 12], [0, 1, 8, 9, 10, 11, 12, 45], [0, 1, 8, 9, 10, 11, 12], [0, 1, 8, 9, 10, 11]] : List (List Nat))[i]?, exit := fun i => ([[], [0, 1, 8, 9, 10, 11]] : List (List Nat))[i]?, ret := some [] }
noncomputable def r96_L0_R (call : CallF) (fuel base n : Nat) (vs : List Value) (m : M) (K : KT) : Res2 := match vs with
  | [x0, x1, x8, x9, x10, x11] => r96_L0 call fuel base (fun v m => K (.pan v) { n := 67, l := [] } m) (fun m => K (.exit 0) { n := 67, l := [] } m) n x0 x1 x8 x9 x10 x11 m
  | _ => none
noncomputable def lp96 (call : CallF) (fuel base : Nat) : Lp := lpsel [(0, fun T m K => kslots 67 [0, 1, 8, 9, 10, 11] T fun vs => r96_L0_R call fuel base fuel vs m K)]
noncomputable def c96 : Code := Try.f96.body.getD .skip
theorem r96_L0_lk (call : CallF) (fuel base : Nat) : LoopsOk E call (lp96 call fuel base) fuel base 0 (loopB (blockB (seqR (seqR (seqR (condT (seqR (seqR c96)))))))) = (And (And True (And True True)) (And (And True (And (And True (And True True)) True)) True)) := by kernel_rfl
theorem r96_L0_ok (call : CallF) (fuel base : Nat) : LpOk E call (lp96 call fuel base) fuel base 0 (loopB (blockB (seqR (seqR (seqR (condT (seqR (seqR c96)))))))) := by
  refine loop_ok (kp := keep96) (hb := Eq.mpr (r96_L0_lk call fuel base) (And.intro (And.intro trivial (And.intro trivial trivial)) (And.intro (And.intro trivial (And.intro (And.intro trivial (And.intro trivial trivial)) trivial)) trivial))) 67 [0, 1, 8, 9, 10, 11] (fun n vs m K => r96_L0_R call fuel base n vs m K) ?_ ?_ (fun _ _ _ => rfl)
  · intro vs m K
    unfold r96_L0_R
    split <;> rfl
  · intro n vs m K hl
    match vs, hl with
    | [x0, x1, x8, x9, x10, x11], _ => show _ = _; kernel_rfl
theorem r96_eq (call : CallF) (fuel base : Nat) (x0 : Value) (x1 : Value) (x2 : Value) (x3 : Value) (m : M) : kbody E call keep96 (lp96 call fuel base) base Try.f96 [x0, x1, x2, x3] m = r96 call fuel base x0 x1 x2 x3 m := by
  kernel_rfl
noncomputable def rf96 : RF := fun call fuel base args m => match args with
  | [x0, x1, x2, x3] => r96 call fuel base x0 x1 x2 x3 m
  | _ => none
theorem r96_lk (call : CallF) (fuel base : Nat) : LoopsOk E call (lp96 call fuel base) fuel base 0 c96 = (And True (And True (And (And True (And True (And True (LpOk E call (lp96 call fuel base) fuel base 0 (loopB (blockB (seqR (seqR (seqR (condT (seqR (seqR c96)))))))))))) True))) := by kernel_rfl
theorem r96_fn : E.P.funcs[96]? = some Try.f96 := by kernel_rfl
theorem r96_body : Try.f96.body = some c96 := by kernel_rfl
theorem rf96_ok : RFok E 96 rf96 := by
  refine ⟨Try.f96, r96_fn, fun call fuel base args m r _ h => ?_⟩
  unfold rf96 at h
  split at h
  · rw [← r96_eq] at h
    exact kbody_sound (c := c96) r96_body (Eq.mpr (r96_lk call fuel base) (And.intro trivial (And.intro trivial (And.intro (And.intro trivial (And.intro trivial (And.intro trivial (r96_L0_ok call fuel base)))) trivial)))) h
  · simp at h
end Go.AM
namespace Go.AM
open Go Go.Proofs
noncomputable def r97 (call : CallF) (fuel base : Nat) (x0 : Value) (x1 : Value) (x2 : Value) (x3 : Value) (m : M) : Res2 :=
  (k1 (mbin E .sub 3 x2 x1) fun v17_1 => (k2 (xalloc E.P m 3) fun v11_2 m => (k1 (mbin E .quo 3 v17_1 (.int .i64 4)) fun v20_3 => (k1 (mbin E .mul 3 v20_3 (.int .i64 1)) fun v21_4 => (k1 (mbin E .add 3 x1 v21_4) fun v22_5 => (k1 (mbin E .quo 3 v17_1 (.int .i64 4)) fun v25_6 => (k1 (mbin E .mul 3 v25_6 (.int .i64 2)) fun v26_7 => (k1 (mbin E .add 3 x1 v26_7) fun v27_8 => (k1 (mbin E .quo 3 v17_1 (.int .i64 4)) fun v30_9 => (k1 (mbin E .mul 3 v30_9 (.int .i64 3)) fun v31_10 => (k1 (mbin E .add 3 x1 v31_10) fun v32_11 => (k1 (mbin E .geq 3 v17_1 (.int .i64 8)) fun v34_12 => (kb v34_12 (k1 (mbin E .geq 3 v17_1 (.int .i64 50)) fun v36_13 => (kb v36_13 (kc (call base 107 [x0, v22_5, v11_2, x3] m) (fun v40_14 m => (kc (call base 107 [x0, v27_8, v11_2, x3] m) (fun v44_15 m => (kc (call base 107 [x0, v32_11, v11_2, x3] m) (fun v48_16 m => (kc (call base 108 [x0, v40_14, v44_15, v48_16, v11_2, x3] m) (fun v54_17 m => (k1 (xload E.P m 3 v11_2) fun v55_18 => (k1 (mbin E .eql 3 v55_18 (.int .i64 0)) fun v58_19 => (kb v58_19 (some (.ret (.tuple #[v54_17, (.int .i64 1)]), m)) (k1 (mbin E .eql 3 v55_18 (.int .i64 12)) fun v61_20 => (kb v61_20 (some (.ret (.tuple #[v54_17, (.int .i64 2)]), m)) (some (.ret (.tuple #[v54_17, (.int .i64 0)]), m)))))))) (fun v m => some (.pan v, m)))) (fun v m => some (.pan v, m)))) (fun v m => some (.pan v, m)))) (fun v m => some (.pan v, m))) (kc (call base 108 [x0, v22_5, v27_8, v32_11, v11_2, x3] m) (fun v54_21 m => (k1 (xload E.P m 3 v11_2) fun v55_22 => (k1 (mbin E .eql 3 v55_22 (.int .i64 0)) fun v58_23 => (kb v58_23 (some (.ret (.tuple #[v54_21, (.int .i64 1)]), m)) (k1 (mbin E .eql 3 v55_22 (.int .i64 12)) fun v61_24 => (kb v61_24 (some (.ret (.tuple #[v54_21, (.int .i64 2)]), m)) (some (.ret (.tuple #[v54_21, (.int .i64 0)]), m)))))))) (fun v m => some (.pan v, m))))) (k1 (xload E.P m 3 v11_2) fun v55_25 => (k1 (mbin E .eql 3 v55_25 (.int .i64 0)) fun v58_26 => (kb v58_26 (some (.ret (.tuple #[v27_8, (.int .i64 1)]), m)) (k1 (mbin E .eql 3 v55_25 (.int .i64 12)) fun v61_27 => (kb v61_27 (some (.ret (.tuple #[v27_8, (.int .i64 2)]), m)) (some (.ret (.tuple #[v27_8, (.int .i64 0)]), m))))))))))))))))))))
def keep97 : Keep := { region := fun i => ([[0, 1, 2, 3], [0, 1, 3, 10], [0, 1, 3, 10, 11], [0, 1, 3, 10, 11, 12], [0, 1, 3, 10, 11, 12, 13], [0, 3, 10, 11, 12, 13, 14], [0, 3, 10, 11, 12, 13, 14, 34], [0, 3, 11, 12, 13, 14, 36], [0, 3, 11, 12, 13, 14], [0, 3, 11, 12, 13, 14], [0, 3, 11, 12, 13, 14], [11, 13], [13, 55], [8, 9], [13, 55, 57], [8, 9], [13, 60], [8, 9]] : List (List Nat))[i]?, exit := fun i => ([[8, 9]] : List (List Nat))[i]?, ret := some [8, 9] }
noncomputable def lp97 (call : CallF) (fuel base : Nat) : Lp := lpsel []
noncomputable def c97 : Code := Try.f97.body.getD .skip
theorem r97_eq (call : CallF) (fuel base : Nat) (x0 : Value) (x1 : Value) (x2 : Value) (x3 : Value) (m : M) : kbody E call keep97 (lp97 call fuel base) base Try.f97 [x0, x1, x2, x3] m = r97 call fuel base x0 x1 x2 x3 m := by
  kernel_rfl
noncomputable def rf97 : RF := fun call fuel base args m => match args with
  | [x0, x1, x2, x3] => r97 call fuel base x0 x1 x2 x3 m
  | _ => none
theorem r97_lk (call : CallF) (fuel base : Nat) : LoopsOk E call (lp97 call fuel base) fuel base 0 c97 = (And True (And True (And True (And True (And True (And True (And (And True (And (And (And True (And (And True (And True True)) True)) True) True)) (And True (And True (And (And True True) (And True (And (And True True) (And True True))))))))))))) := by kernel_rfl
theorem r97_fn : E.P.funcs[97]? = some Try.f97 := by kernel_rfl
theorem r97_body : Try.f97.body = some c97 := by kernel_rfl
theorem rf97_ok : RFok E 97 rf97 := by
  refine ⟨Try.f97, r97_fn, fun call fuel base args m r _ h => ?_⟩
  unfold rf97 at h
  split at h
  · rw [← r97_eq] at h
    exact kbody_sound (c := c97) r97_body (Eq.mpr (r97_lk call fuel base) (And.intro trivial (And.intro trivial (And.intro trivial (And.intro trivial (And.intro trivial (And.intro trivial (And.intro (And.intro trivial (And.intro (And.intro (And.intro trivial (And.intro (And.intro trivial (And.intro trivial trivial)) trivial)) trivial) trivial)) (And.intro trivial (And.intro trivial (And.intro (And.intro trivial trivial) (And.intro trivial (And.intro (And.intro trivial trivial) (And.intro trivial trivial)))))))))))))) h
  · simp at h
end Go.AM
namespace Go.AM
open Go Go.Proofs
noncomputable def r98_L0 (call : CallF) (fuel base : Nat) (kx0 : M → Res2) (n : Nat) : Value → Value → Value → M → Res2 :=
  Nat.rec (motive := fun _ => Value → Value → Value → M → Res2) (fun _ _ _ _ => none)
    (fun _ ih x0 x8 x9 m =>
      (k1 (mbin E .lss 3 x8 x9) fun v15_2 => (kb v15_2 (k1 (mindexAddr E.P 75 x0 x9) fun v22_3 => (k1 (xload E.P m 80 v22_3) fun v23_4 => (k1 (mindexAddr E.P 75 x0 x8) fun v26_5 => (k1 (xload E.P m 80 v26_5) fun v27_6 => (k1 (mindexAddr E.P 75 x0 x8) fun v28_7 => (ks (xstore E.P base m 80 v28_7 v23_4) fun m => (k1 (mindexAddr E.P 75 x0 x9) fun v29_8 => (ks (xstore E.P base m 80 v29_8 v27_6) fun m => (k1 (mbin E .add 3 x8 (.int .i64 1)) fun v31_9 => (k1 (mbin E .sub 3 x9 (.int .i64 1)) fun v33_10 => (ih x0 v31_9 v33_10 m))))))))))) (kx0 m)))) n
noncomputable def r98 (call : CallF) (fuel base : Nat) (x0 : Value) (x1 : Value) (x2 : Value) (x3 : Value) (m : M) : Res2 :=
  (k1 (mbin E .sub 3 x2 (.int .i64 1)) fun v12_1 => (r98_L0 call fuel base (fun m => (some (.ret (.tuple #[]), m))) fuel x0 x1 v12_1 m))
def keep98 : Keep := { region := fun i => ([[0, 2, 8], [0, 8, 9], [0, 8, 9, 15], [0, 8, 9], [0, 8, 9], [0, 8, 9]] : List (List Nat))[i]?, exit := fun i => ([[], [0, 8, 9]] : List (List Nat))[i]?, ret := some [] }
noncomputable def r98_L0_R (call : CallF) (fuel base n : Nat) (vs : List Value) (m : M) (K : KT) : Res2 := match vs with
  | [x0, x8, x9] => r98_L0 call fuel base (fun m => K (.exit 0) { n := 34, l := [] } m) n x0 x8 x9 m
  | _ => none
noncomputable def lp98 (call : CallF) (fuel base : Nat) : Lp := lpsel [(0, fun T m K => kslots 34 [0, 8, 9] T fun vs => r98_L0_R call fuel base fuel vs m K)]
noncomputable def c98 : Code := Try.f98.body.getD .skip
theorem r98_L0_lk (call : CallF) (fuel base : Nat) : LoopsOk E call (lp98 call fuel base) fuel base 0 (loopB (blockB (seqR (seqR c98)))) = (And (And True (And True True)) (And True (And True True))) := by kernel_rfl
theorem r98_L0_ok (call : CallF) (fuel base : Nat) : LpOk E call (lp98 call fuel base) fuel base 0 (loopB (blockB (seqR (seqR c98)))) := by
  refine loop_ok (kp := keep98) (hb := Eq.mpr (r98_L0_lk call fuel base) (And.intro (And.intro trivial (And.intro trivial trivial)) (And.intro trivial (And.intro trivial trivial)))) 34 [0, 8, 9] (fun n vs m K => r98_L0_R call fuel base n vs m K) ?_ ?_ (fun _ _ _ => rfl)
  · intro vs m K
    unfold r98_L0_R
    split <;> rfl
  · intro n vs m K hl
    match vs, hl with
    | [x0, x8, x9], _ => show _ = _; kernel_rfl
theorem r98_eq (call : CallF) (fuel base : Nat) (x0 : Value) (x1 : Value) (x2 : Value) (x3 : Value) (m : M) : kbody E call keep98 (lp98 call fuel base) base Try.f98 [x0, x1, x2, x3] m = r98 call fuel base x0 x1 x2 x3 m := by
  kernel_rfl
noncomputable def rf98 : RF := fun call fuel base args m => match args with
  | [x0, x1, x2, x3] => r98 call fuel base x0 x1 x2 x3 m
  | _ => none
theorem r98_lk (call : CallF) (fuel base : Nat) : LoopsOk E call (lp98 call fuel base) fuel base 0 c98 = (And True (And True (LpOk E call (lp98 call fuel base) fuel base 0 (loopB (blockB (seqR (seqR c98))))))) := by kernel_rfl
theorem r98_fn : E.P.funcs[98]? = some Try.f98 := by kernel_rfl
theorem r98_body : Try.f98.body = some c98 := by kernel_rfl
theorem rf98_ok : RFok E 98 rf98 := by
  refine ⟨Try.f98, r98_fn, fun call fuel base args m r _ h => ?_⟩
  unfold rf98 at h
  split at h
  · rw [← r98_eq] at h
    exact kbody_sound (c := c98) r98_body (Eq.mpr (r98_lk call fuel base) (And.intro trivial (And.intro trivial (r98_L0_ok call fuel base)))) h
  · simp at h
end Go.AM
namespace Go.AM
open Go Go.Proofs
noncomputable def r99_L2 (call : CallF) (fuel base : Nat) (kx2 : Value → Value → Value → Value → Value → Value → M → Res2) (n : Nat) : Value → Value → Value → Value → Value → Value → M → Res2 :=
  Nat.rec (motive := fun _ => Value → Value → Value → Value → Value → Value → M → Res2) (fun _ _ _ _ _ _ _ => none)
    (fun _ ih x0 x1 x2 x3 x9 x10 m =>
      (k1 (mbin E .lss 3 x9 x2) fun v21_3 => (kb v21_3 (k1 (mindexAddr E.P 75 x0 x9) fun v26_4 => (k1 (xload E.P m 80 v26_4) fun v27_5 => (k1 (mbin E .sub 3 x9 (.int .i64 1)) fun v30_6 => (k1 (mindexAddr E.P 75 x0 v30_6) fun v31_7 => (k1 (xload E.P m 80 v31_7) fun v32_8 => (kc (kB m (kv call m.length x3 [v27_5, v32_8] m)) (fun v33_9 m => (k1 (mbin E .lss 3 v33_9 (.int .i64 0)) fun v34_10 => (k1 (mun .not v34_10) fun v35_11 => (k0 (mpick (.bool true) v35_11 (.bool false)) fun v36_12 => (kb v36_12 (k1 (mbin E .add 3 x9 (.int .i64 1)) fun v38_13 => (ih x0 x1 x2 x3 v38_13 x10 m)) (kx2 x0 x1 x2 x3 x9 x10 m)))))) (fun _ _ => none))))))) (k0 (mpick (.bool false) undef (.bool false)) fun v36_14 => (kb v36_14 (k1 (mbin E .add 3 x9 (.int .i64 1)) fun v38_15 => (ih x0 x1 x2 x3 v38_15 x10 m)) (kx2 x0 x1 x2 x3 x9 x10 m)))))) n
noncomputable def r99_L4 (call : CallF) (fuel base : Nat) (kx4 : Value → Value → Value → Value → Value → Value → M → Res2) (n : Nat) : Value → Value → Value → Value → Value → Value → Value → M → Res2 :=
  Nat.rec (motive := fun _ => Value → Value → Value → Value → Value → Value → Value → M → Res2) (fun _ _ _ _ _ _ _ _ => none)
    (fun _ ih x0 x1 x2 x3 x9 x10 x11 m =>
      (k1 (mbin E .geq 3 x11 (.int .i64 1)) fun v69_36 => (kb v69_36 (k1 (mindexAddr E.P 75 x0 x11) fun v75_37 => (k1 (xload E.P m 80 v75_37) fun v76_38 => (k1 (mbin E .sub 3 x11 (.int .i64 1)) fun v79_39 => (k1 (mindexAddr E.P 75 x0 v79_39) fun v80_40 => (k1 (xload E.P m 80 v80_40) fun v81_41 => (kc (kB m (kv call m.length x3 [v76_38, v81_41] m)) (fun v82_42 m => (k1 (mbin E .lss 3 v82_42 (.int .i64 0)) fun v83_43 => (k1 (mun .not v83_43) fun v84_44 => (kb v84_44 (kx4 x0 x1 x2 x3 x9 x10 m) (k1 (mbin E .sub 3 x11 (.int .i64 1)) fun v89_45 => (k1 (mbin E .sub 3 x11 (.int .i64 1)) fun v92_46 => (k1 (mindexAddr E.P 75 x0 v92_46) fun v93_47 => (k1 (xload E.P m 80 v93_47) fun v94_48 => (k1 (mindexAddr E.P 75 x0 x11) fun v97_49 => (k1 (xload E.P m 80 v97_49) fun v98_50 => (k1 (mindexAddr E.P 75 x0 x11) fun v99_51 => (ks (xstore E.P base m 80 v99_51 v94_48) fun m => (k1 (mindexAddr E.P 75 x0 v89_45) fun v100_52 => (ks (xstore E.P base m 80 v100_52 v98_50) fun m => (k1 (mbin E .sub 3 x11 (.int .i64 1)) fun v71_53 => (ih x0 x1 x2 x3 x9 x10 v71_53 m)))))))))))))))) (fun _ _ => none))))))) (kx4 x0 x1 x2 x3 x9 x10 m)))) n
noncomputable def r99_L6 (call : CallF) (fuel base : Nat) (kx6 : Value → Value → Value → Value → Value → Value → M → Res2) (n : Nat) : Value → Value → Value → Value → Value → Value → Value → M → Res2 :=
  Nat.rec (motive := fun _ => Value → Value → Value → Value → Value → Value → Value → M → Res2) (fun _ _ _ _ _ _ _ _ => none)
    (fun _ ih x0 x1 x2 x3 x9 x10 x12 m =>
      (k1 (mbin E .lss 3 x12 x2) fun v109_63 => (kb v109_63 (k1 (mindexAddr E.P 75 x0 x12) fun v115_64 => (k1 (xload E.P m 80 v115_64) fun v116_65 => (k1 (mbin E .sub 3 x12 (.int .i64 1)) fun v119_66 => (k1 (mindexAddr E.P 75 x0 v119_66) fun v120_67 => (k1 (xload E.P m 80 v120_67) fun v121_68 => (kc (kB m (kv call m.length x3 [v116_65, v121_68] m)) (fun v122_69 m => (k1 (mbin E .lss 3 v122_69 (.int .i64 0)) fun v123_70 => (k1 (mun .not v123_70) fun v124_71 => (kb v124_71 (kx6 x0 x1 x2 x3 x9 x10 m) (k1 (mbin E .sub 3 x12 (.int .i64 1)) fun v129_72 => (k1 (mbin E .sub 3 x12 (.int .i64 1)) fun v132_73 => (k1 (mindexAddr E.P 75 x0 v132_73) fun v133_74 => (k1 (xload E.P m 80 v133_74) fun v134_75 => (k1 (mindexAddr E.P 75 x0 x12) fun v137_76 => (k1 (xload E.P m 80 v137_76) fun v138_77 => (k1 (mindexAddr E.P 75 x0 x12) fun v139_78 => (ks (xstore E.P base m 80 v139_78 v134_75) fun m => (k1 (mindexAddr E.P 75 x0 v129_72) fun v140_79 => (ks (xstore E.P base m 80 v140_79 v138_77) fun m => (k1 (mbin E .add 3 x12 (.int .i64 1)) fun v111_80 => (ih x0 x1 x2 x3 x9 x10 v111_80 m)))))))))))))))) (fun _ _ => none))))))) (kx6 x0 x1 x2 x3 x9 x10 m)))) n
noncomputable def r99_L0 (call : CallF) (fuel base : Nat) (kr : Value → M → Res2) (kx0 : M → Res2) (n : Nat) : Value → Value → Value → Value → Value → Value → M → Res2 :=
  Nat.rec (motive := fun _ => Value → Value → Value → Value → Value → Value → M → Res2) (fun _ _ _ _ _ _ _ => none)
    (fun _ ih x0 x1 x2 x3 x9 x10 m =>
      (k1 (mbin E .lss 3 x10 (.int .i64 5)) fun v16_2 => (kb v16_2 (r99_L2 call fuel base (fun y0_16 y1_17 y2_18 y3_19 y9_20 y10_21 m => (k1 (mbin E .eql 3 y9_20 y2_18) fun v41_22 => (kb v41_22 (kr (.bool true) m) (k1 (mbin E .sub 3 y2_18 y1_17) fun v44_23 => (k1 (mbin E .lss 3 v44_23 (.int .i64 50)) fun v45_24 => (kb v45_24 (kr (.bool false) m) (k1 (mbin E .sub 3 y9_20 (.int .i64 1)) fun v50_25 => (k1 (mbin E .sub 3 y9_20 (.int .i64 1)) fun v53_26 => (k1 (mindexAddr E.P 75 y0_16 v53_26) fun v54_27 => (k1 (xload E.P m 80 v54_27) fun v55_28 => (k1 (mindexAddr E.P 75 y0_16 y9_20) fun v58_29 => (k1 (xload E.P m 80 v58_29) fun v59_30 => (k1 (mindexAddr E.P 75 y0_16 y9_20) fun v60_31 => (ks (xstore E.P base m 80 v60_31 v55_28) fun m => (k1 (mindexAddr E.P 75 y0_16 v50_25) fun v61_32 => (ks (xstore E.P base m 80 v61_32 v59_30) fun m => (k1 (mbin E .sub 3 y9_20 y1_17) fun v64_33 => (k1 (mbin E .geq 3 v64_33 (.int .i64 2)) fun v65_34 => (kb v65_34 (k1 (mbin E .sub 3 y9_20 (.int .i64 1)) fun v67_35 => (r99_L4 call fuel base (fun y0_54 y1_55 y2_56 y3_57 y9_58 y10_59 m => (k1 (mbin E .sub 3 y2_56 y9_58) fun v103_60 => (k1 (mbin E .geq 3 v103_60 (.int .i64 2)) fun v104_61 => (kb v104_61 (k1 (mbin E .add 3 y9_58 (.int .i64 1)) fun v106_62 => (r99_L6 call fuel base (fun y0_81 y1_82 y2_83 y3_84 y9_85 y10_86 m => (k1 (mbin E .add 3 y10_86 (.int .i64 1)) fun v18_87 => (ih y0_81 y1_82 y2_83 y3_84 y9_85 v18_87 m))) fuel y0_54 y1_55 y2_56 y3_57 y9_58 y10_59 v106_62 m)) (k1 (mbin E .add 3 y10_59 (.int .i64 1)) fun v18_88 => (ih y0_54 y1_55 y2_56 y3_57 y9_58 v18_88 m)))))) fuel y0_16 y1_17 y2_18 y3_19 y9_20 y10_21 v67_35 m)) (k1 (mbin E .sub 3 y2_18 y9_20) fun v103_89 => (k1 (mbin E .geq 3 v103_89 (.int .i64 2)) fun v104_90 => (kb v104_90 (k1 (mbin E .add 3 y9_20 (.int .i64 1)) fun v106_91 => (r99_L6 call fuel base (fun y0_92 y1_93 y2_94 y3_95 y9_96 y10_97 m => (k1 (mbin E .add 3 y10_97 (.int .i64 1)) fun v18_98 => (ih y0_92 y1_93 y2_94 y3_95 y9_96 v18_98 m))) fuel y0_16 y1_17 y2_18 y3_19 y9_20 y10_21 v106_91 m)) (k1 (mbin E .add 3 y10_21 (.int .i64 1)) fun v18_99 => (ih y0_16 y1_17 y2_18 y3_19 y9_20 v18_99 m)))))))))))))))))))))))) fuel x0 x1 x2 x3 x9 x10 m) (kx0 m)))) n
noncomputable def r99 (call : CallF) (fuel base : Nat) (x0 : Value) (x1 : Value) (x2 : Value) (x3 : Value) (m : M) : Res2 :=
  (k1 (mbin E .add 3 x1 (.int .i64 1)) fun v14_1 => (r99_L0 call fuel base (fun y8_100 m => (fVal y8_100 fun v => some (.ret v, m))) (fun m => (fVal (.bool false) fun v => some (.ret v, m))) fuel x0 x1 x2 x3 v14_1 (.int .i64 0) m))
def keep99 : Keep := { region := fun i => ([[0, 1, 2, 3], [0, 1, 2, 3, 9], [0, 1, 2, 3, 9, 10], [0, 1, 2, 3, 9, 10, 16], [0, 1, 2, 3, 9, 10], [0, 1, 2, 3, 9, 10, 36], [0, 1, 2, 3, 9, 10], [0, 1, 2, 3, 9, 10, 41], [8], [0, 1, 2, 3, 9, 10, 45], [8], [0, 1, 2, 3, 9, 10], [0, 1, 2, 3, 9, 10, 65], [0, 1, 2, 3, 9, 10, 11], [0, 1, 2, 3, 9, 10, 11, 69], [0, 1, 2, 3, 9, 10, 11], [0, 1, 2, 3, 9, 10, 11, 84], [0, 1, 2, 3, 9, 10, 11], [0, 1, 2, 3, 9, 10, 104], [0, 1, 2, 3, 9, 10, 12], [0, 1, 2, 3, 9, 10, 12, 109], [0, 1, 2, 3, 9, 10, 12], [0, 1, 2, 3, 9, 10, 12, 124], [0, 1, 2, 3, 9, 10, 12], [8]] : List (List Nat))[i]?, exit := fun i => ([[], [0, 1, 2, 3, 9, 10], [0, 1, 2, 3, 9, 10], [0, 1, 2, 3, 9, 10], [0, 1, 2, 3, 9, 10], [0, 1, 2, 3, 9, 10, 11], [0, 1, 2, 3, 9, 10], [0, 1, 2, 3, 9, 10, 12]] : List (List Nat))[i]?, ret := some [8] }
noncomputable def r99_L2_R (call : CallF) (fuel base n : Nat) (vs : List Value) (m : M) (K : KT) : Res2 := match vs with
  | [x0, x1, x2, x3, x9, x10] => r99_L2 call fuel base (fun y0 y1 y2 y3 y9 y10 m => K (.exit 2) { n := 141, l := [(0, y0), (1, y1), (2, y2), (3, y3), (9, y9), (10, y10)] } m) n x0 x1 x2 x3 x9 x10 m
  | _ => none
noncomputable def r99_L4_R (call : CallF) (fuel base n : Nat) (vs : List Value) (m : M) (K : KT) : Res2 := match vs with
  | [x0, x1, x2, x3, x9, x10, x11] => r99_L4 call fuel base (fun y0 y1 y2 y3 y9 y10 m => K (.exit 4) { n := 141, l := [(0, y0), (1, y1), (2, y2), (3, y3), (9, y9), (10, y10)] } m) n x0 x1 x2 x3 x9 x10 x11 m
  | _ => none
noncomputable def r99_L6_R (call : CallF) (fuel base n : Nat) (vs : List Value) (m : M) (K : KT) : Res2 := match vs with
  | [x0, x1, x2, x3, x9, x10, x12] => r99_L6 call fuel base (fun y0 y1 y2 y3 y9 y10 m => K (.exit 6) { n := 141, l := [(0, y0), (1, y1), (2, y2), (3, y3), (9, y9), (10, y10)] } m) n x0 x1 x2 x3 x9 x10 x12 m
  | _ => none
noncomputable def r99_L0_R (call : CallF) (fuel base n : Nat) (vs : List Value) (m : M) (K : KT) : Res2 := match vs with
  | [x0, x1, x2, x3, x9, x10] => r99_L0 call fuel base (fun y8 m => K .ret { n := 141, l := [(8, y8)] } m) (fun m => K (.exit 0) { n := 141, l := [] } m) n x0 x1 x2 x3 x9 x10 m
  | _ => none
noncomputable def lp99 (call : CallF) (fuel base : Nat) : Lp := lpsel [(2, fun T m K => kslots 141 [0, 1, 2, 3, 9, 10] T fun vs => r99_L2_R call fuel base fuel vs m K), (4, fun T m K => kslots 141 [0, 1, 2, 3, 9, 10, 11] T fun vs => r99_L4_R call fuel base fuel vs m K), (6, fun T m K => kslots 141 [0, 1, 2, 3, 9, 10, 12] T fun vs => r99_L6_R call fuel base fuel vs m K), (0, fun T m K => kslots 141 [0, 1, 2, 3, 9, 10] T fun vs => r99_L0_R call fuel base fuel vs m K)]
noncomputable def c99 : Code := Try.f99.body.getD .skip
theorem r99_L2_lk (call : CallF) (fuel base : Nat) : LoopsOk E call (lp99 call fuel base) fuel base 2 (loopB (blockB (seqL (blockB (seqL (seqR (loopB (blockB (seqR (seqL (seqR (seqR c99)))))))))))) = (And (And True (And True True)) True) := by kernel_rfl
theorem r99_L2_ok (call : CallF) (fuel base : Nat) : LpOk E call (lp99 call fuel base) fuel base 2 (loopB (blockB (seqL (blockB (seqL (seqR (loopB (blockB (seqR (seqL (seqR (seqR c99)))))))))))) := by
  refine loop_ok (kp := keep99) (hb := Eq.mpr (r99_L2_lk call fuel base) (And.intro (And.intro trivial (And.intro trivial trivial)) trivial)) 141 [0, 1, 2, 3, 9, 10] (fun n vs m K => r99_L2_R call fuel base n vs m K) ?_ ?_ (fun _ _ _ => rfl)
  · intro vs m K
    unfold r99_L2_R
    split <;> rfl
  · intro n vs m K hl
    match vs, hl with
    | [x0, x1, x2, x3, x9, x10], _ => show _ = _; kernel_rfl
theorem r99_L4_lk (call : CallF) (fuel base : Nat) : LoopsOk E call (lp99 call fuel base) fuel base 4 (loopB (blockB (seqR (condT (seqR (seqL (seqR (seqR (seqR (seqR (blockB (seqL (seqR (loopB (blockB (seqR (seqL (seqR (seqR c99))))))))))))))))))) = (And (And True (And True True)) (And (And (And True (And True True)) True) True)) := by kernel_rfl
theorem r99_L4_ok (call : CallF) (fuel base : Nat) : LpOk E call (lp99 call fuel base) fuel base 4 (loopB (blockB (seqR (condT (seqR (seqL (seqR (seqR (seqR (seqR (blockB (seqL (seqR (loopB (blockB (seqR (seqL (seqR (seqR c99))))))))))))))))))) := by
  refine loop_ok (kp := keep99) (hb := Eq.mpr (r99_L4_lk call fuel base) (And.intro (And.intro trivial (And.intro trivial trivial)) (And.intro (And.intro (And.intro trivial (And.intro trivial trivial)) trivial) trivial))) 141 [0, 1, 2, 3, 9, 10, 11] (fun n vs m K => r99_L4_R call fuel base n vs m K) ?_ ?_ (fun _ _ _ => rfl)
  · intro vs m K
    unfold r99_L4_R
    split <;> rfl
  · intro n vs m K hl
    match vs, hl with
    | [x0, x1, x2, x3, x9, x10, x11], _ => show _ = _; kernel_rfl
theorem r99_L6_lk (call : CallF) (fuel base : Nat) : LoopsOk E call (lp99 call fuel base) fuel base 6 (loopB (blockB (seqR (condT (seqR (seqR (seqR (seqR (seqR (seqR (blockB (seqL (seqR (loopB (blockB (seqR (seqL (seqR (seqR c99))))))))))))))))))) = (And (And True (And True True)) (And (And (And True (And True True)) True) True)) := by kernel_rfl
theorem r99_L6_ok (call : CallF) (fuel base : Nat) : LpOk E call (lp99 call fuel base) fuel base 6 (loopB (blockB (seqR (condT (seqR (seqR (seqR (seqR (seqR (seqR (blockB (seqL (seqR (loopB (blockB (seqR (seqL (seqR (seqR c99))))))))))))))))))) := by
  refine loop_ok (kp := keep99) (hb := Eq.mpr (r99_L6_lk call fuel base) (And.intro (And.intro trivial (And.intro trivial trivial)) (And.intro (And.intro (And.intro trivial (And.intro trivial trivial)) trivial) trivial))) 141 [0, 1, 2, 3, 9, 10, 12] (fun n vs m K => r99_L6_R call fuel base n vs m K) ?_ ?_ (fun _ _ _ => rfl)
  · intro vs m K
    unfold r99_L6_R
    split <;> rfl
  · intro n vs m K hl
    match vs, hl with
    | [x0, x1, x2, x3, x9, x10, x12], _ => show _ = _; kernel_rfl
theorem r99_L0_lk (call : CallF) (fuel base : Nat) : LoopsOk E call (lp99 call fuel base) fuel base 0 (loopB (blockB (seqR (seqL (seqR (seqR c99)))))) = (And (And True (And True True)) (And (And (LpOk E call (lp99 call fuel base) fuel base 2 (loopB (blockB (seqL (blockB (seqL (seqR (loopB (blockB (seqR (seqL (seqR (seqR c99))))))))))))) (And (And True (And (And True True) True)) (And (And True (And (And True True) True)) (And True (And (And True (And (And True (LpOk E call (lp99 call fuel base) fuel base 4 (loopB (blockB (seqR (condT (seqR (seqL (seqR (seqR (seqR (seqR (blockB (seqL (seqR (loopB (blockB (seqR (seqL (seqR (seqR c99))))))))))))))))))))) True)) (And True (And (And True (LpOk E call (lp99 call fuel base) fuel base 6 (loopB (blockB (seqR (condT (seqR (seqR (seqR (seqR (seqR (seqR (blockB (seqL (seqR (loopB (blockB (seqR (seqL (seqR (seqR c99))))))))))))))))))))) True))))))) True)) := by kernel_rfl
theorem r99_L0_ok (call : CallF) (fuel base : Nat) : LpOk E call (lp99 call fuel base) fuel base 0 (loopB (blockB (seqR (seqL (seqR (seqR c99)))))) := by
  refine loop_ok (kp := keep99) (hb := Eq.mpr (r99_L0_lk call fuel base) (And.intro (And.intro trivial (And.intro trivial trivial)) (And.intro (And.intro (r99_L2_ok call fuel base) (And.intro (And.intro trivial (And.intro (And.intro trivial trivial) trivial)) (And.intro (And.intro trivial (And.intro (And.intro trivial trivial) trivial)) (And.intro trivial (And.intro (And.intro trivial (And.intro (And.intro trivial (r99_L4_ok call fuel base)) trivial)) (And.intro trivial (And.intro (And.intro trivial (r99_L6_ok call fuel base)) trivial))))))) trivial))) 141 [0, 1, 2, 3, 9, 10] (fun n vs m K => r99_L0_R call fuel base n vs m K) ?_ ?_ (fun _ _ _ => rfl)
  · intro vs m K
    unfold r99_L0_R
    split <;> rfl
  · intro n vs m K hl
    match vs, hl with
    | [x0, x1, x2, x3, x9, x10], _ => show _ = _; kernel_rfl
theorem r99_eq (call : CallF) (fuel base : Nat) (x0 : Value) (x1 : Value) (x2 : Value) (x3 : Value) (m : M) : kbody E call keep99 (lp99 call fuel base) base Try.f99 [x0, x1, x2, x3] m = r99 call fuel base x0 x1 x2 x3 m := by
  kernel_rfl
noncomputable def rf99 : RF := fun call fuel base args m => match args with
  | [x0, x1, x2, x3] => r99 call fuel base x0 x1 x2 x3 m
  | _ => none
theorem r99_lk (call : CallF) (fuel base : Nat) : LoopsOk E call (lp99 call fuel base) fuel base 0 c99 = (And True (And True (And (And True (LpOk E call (lp99 call fuel base) fuel base 0 (loopB (blockB (seqR (seqL (seqR (seqR c99)))))))) (And True True)))) := by kernel_rfl
theorem r99_fn : E.P.funcs[99]? = some Try.f99 := by kernel_rfl
theorem r99_body : Try.f99.body = some c99 := by kernel_rfl
theorem rf99_ok : RFok E 99 rf99 := by
  refine ⟨Try.f99, r99_fn, fun call fuel base args m r _ h => ?_⟩
  unfold rf99 at h
  split at h
  · rw [← r99_eq] at h
    exact kbody_sound (c := c99) r99_body (Eq.mpr (r99_lk call fuel base) (And.intro trivial (And.intro trivial (And.intro (And.intro trivial (r99_L0_ok call fuel base)) (And.intro trivial trivial))))) h
  · simp at h
end Go.AM
namespace Go.AM
open Go Go.Proofs
noncomputable def r100_L2 (call : CallF) (fuel base : Nat) (kx2 : Value → Value → Value → Value → Value → M → Res2) (n : Nat) : Value → Value → Value → Value → Value → M → Res2 :=
  Nat.rec (motive := fun _ => Value → Value → Value → Value → Value → M → Res2) (fun _ _ _ _ _ _ => none)
    (fun _ ih x0 x1 x4 x11 x12 m =>
      (k1 (mbin E .leq 3 x11 x12) fun v33_9 => (kb v33_9 (k1 (mindexAddr E.P 75 x0 x1) fun v38_10 => (k1 (xload E.P m 80 v38_10) fun v39_11 => (k1 (mindexAddr E.P 75 x0 x11) fun v42_12 => (k1 (xload E.P m 80 v42_12) fun v43_13 => (kc (kB m (kv call m.length x4 [v39_11, v43_13] m)) (fun v44_14 m => (k1 (mbin E .lss 3 v44_14 (.int .i64 0)) fun v45_15 => (k1 (mun .not v45_15) fun v46_16 => (k0 (mpick (.bool true) v46_16 (.bool false)) fun v47_17 => (kb v47_17 (k1 (mbin E .add 3 x11 (.int .i64 1)) fun v49_18 => (ih x0 x1 x4 v49_18 x12 m)) (kx2 x0 x1 x4 x11 x12 m)))))) (fun _ _ => none)))))) (k0 (mpick (.bool false) undef (.bool false)) fun v47_19 => (kb v47_19 (k1 (mbin E .add 3 x11 (.int .i64 1)) fun v49_20 => (ih x0 x1 x4 v49_20 x12 m)) (kx2 x0 x1 x4 x11 x12 m)))))) n
noncomputable def r100_L4 (call : CallF) (fuel base : Nat) (kx4 : Value → Value → Value → Value → Value → M → Res2) (n : Nat) : Value → Value → Value → Value → Value → M → Res2 :=
  Nat.rec (motive := fun _ => Value → Value → Value → Value → Value → M → Res2) (fun _ _ _ _ _ _ => none)
    (fun _ ih x0 x1 x4 x11 x12 m =>
      (k1 (mbin E .leq 3 x11 x12) fun v52_26 => (kb v52_26 (k1 (mindexAddr E.P 75 x0 x1) fun v57_27 => (k1 (xload E.P m 80 v57_27) fun v58_28 => (k1 (mindexAddr E.P 75 x0 x12) fun v61_29 => (k1 (xload E.P m 80 v61_29) fun v62_30 => (kc (kB m (kv call m.length x4 [v58_28, v62_30] m)) (fun v63_31 m => (k1 (mbin E .lss 3 v63_31 (.int .i64 0)) fun v64_32 => (k0 (mpick (.bool true) v64_32 (.bool false)) fun v65_33 => (kb v65_33 (k1 (mbin E .sub 3 x12 (.int .i64 1)) fun v67_34 => (ih x0 x1 x4 x11 v67_34 m)) (kx4 x0 x1 x4 x11 x12 m))))) (fun _ _ => none)))))) (k0 (mpick (.bool false) undef (.bool false)) fun v65_35 => (kb v65_35 (k1 (mbin E .sub 3 x12 (.int .i64 1)) fun v67_36 => (ih x0 x1 x4 x11 v67_36 m)) (kx4 x0 x1 x4 x11 x12 m)))))) n
noncomputable def r100_L0 (call : CallF) (fuel base : Nat) (kx0 : Value → M → Res2) (n : Nat) : Value → Value → Value → Value → Value → M → Res2 :=
  Nat.rec (motive := fun _ => Value → Value → Value → Value → Value → M → Res2) (fun _ _ _ _ _ _ => none)
    (fun _ ih x0 x1 x4 x11 x12 m =>
      (r100_L2 call fuel base (fun y0_21 y1_22 y4_23 y11_24 y12_25 m => (r100_L4 call fuel base (fun y0_37 y1_38 y4_39 y11_40 y12_41 m => (k1 (mbin E .gtr 3 y11_40 y12_41) fun v70_42 => (kb v70_42 (kx0 y11_40 m) (k1 (mindexAddr E.P 75 y0_37 y12_41) fun v77_43 => (k1 (xload E.P m 80 v77_43) fun v78_44 => (k1 (mindexAddr E.P 75 y0_37 y11_40) fun v81_45 => (k1 (xload E.P m 80 v81_45) fun v82_46 => (k1 (mindexAddr E.P 75 y0_37 y11_40) fun v83_47 => (ks (xstore E.P base m 80 v83_47 v78_44) fun m => (k1 (mindexAddr E.P 75 y0_37 y12_41) fun v84_48 => (ks (xstore E.P base m 80 v84_48 v82_46) fun m => (k1 (mbin E .add 3 y11_40 (.int .i64 1)) fun v86_49 => (k1 (mbin E .sub 3 y12_41 (.int .i64 1)) fun v88_50 => (ih y0_37 y1_38 y4_39 v86_49 v88_50 m)))))))))))))) fuel y0_21 y1_22 y4_23 y11_24 y12_25 m)) fuel x0 x1 x4 x11 x12 m)) n
noncomputable def r100 (call : CallF) (fuel base : Nat) (x0 : Value) (x1 : Value) (x2 : Value) (x3 : Value) (x4 : Value) (m : M) : Res2 :=
  (k1 (mindexAddr E.P 75 x0 x3) fun v19_1 => (k1 (xload E.P m 80 v19_1) fun v20_2 => (k1 (mindexAddr E.P 75 x0 x1) fun v23_3 => (k1 (xload E.P m 80 v23_3) fun v24_4 => (k1 (mindexAddr E.P 75 x0 x1) fun v25_5 => (ks (xstore E.P base m 80 v25_5 v20_2) fun m => (k1 (mindexAddr E.P 75 x0 x3) fun v26_6 => (ks (xstore E.P base m 80 v26_6 v24_4) fun m => (k1 (mbin E .add 3 x1 (.int .i64 1)) fun v28_7 => (k1 (mbin E .sub 3 x2 (.int .i64 1)) fun v30_8 => (r100_L0 call fuel base (fun y11_51 m => (fVal y11_51 fun v => some (.ret v, m))) fuel x0 x1 x4 v28_7 v30_8 m)))))))))))
def keep100 : Keep := { region := fun i => ([[0, 1, 2, 3, 4], [0, 1, 2, 4], [0, 1, 4, 11, 12], [0, 1, 4, 11, 12, 47], [0, 1, 4, 11, 12], [0, 1, 4, 11, 12, 65], [0, 1, 4, 11, 12], [0, 1, 4, 11, 12, 70], [0, 1, 4, 11, 12], [0, 1, 4, 11, 12], [0, 1, 4, 11, 12], [10]] : List (List Nat))[i]?, exit := fun i => ([[11], [0, 1, 4, 11, 12], [0, 1, 4, 11, 12], [0, 1, 4, 11, 12], [0, 1, 4, 11, 12], [0, 1, 4, 11, 12]] : List (List Nat))[i]?, ret := some [10] }
noncomputable def r100_L2_R (call : CallF) (fuel base n : Nat) (vs : List Value) (m : M) (K : KT) : Res2 := match vs with
  | [x0, x1, x4, x11, x12] => r100_L2 call fuel base (fun y0 y1 y4 y11 y12 m => K (.exit 2) { n := 90, l := [(0, y0), (1, y1), (4, y4), (11, y11), (12, y12)] } m) n x0 x1 x4 x11 x12 m
  | _ => none
noncomputable def r100_L4_R (call : CallF) (fuel base n : Nat) (vs : List Value) (m : M) (K : KT) : Res2 := match vs with
  | [x0, x1, x4, x11, x12] => r100_L4 call fuel base (fun y0 y1 y4 y11 y12 m => K (.exit 4) { n := 90, l := [(0, y0), (1, y1), (4, y4), (11, y11), (12, y12)] } m) n x0 x1 x4 x11 x12 m
  | _ => none
noncomputable def r100_L0_R (call : CallF) (fuel base n : Nat) (vs : List Value) (m : M) (K : KT) : Res2 := match vs with
  | [x0, x1, x4, x11, x12] => r100_L0 call fuel base (fun y11 m => K (.exit 0) { n := 90, l := [(11, y11)] } m) n x0 x1 x4 x11 x12 m
  | _ => none
noncomputable def lp100 (call : CallF) (fuel base : Nat) : Lp := lpsel [(2, fun T m K => kslots 90 [0, 1, 4, 11, 12] T fun vs => r100_L2_R call fuel base fuel vs m K), (4, fun T m K => kslots 90 [0, 1, 4, 11, 12] T fun vs => r100_L4_R call fuel base fuel vs m K), (0, fun T m K => kslots 90 [0, 1, 4, 11, 12] T fun vs => r100_L0_R call fuel base fuel vs m K)]
noncomputable def c100 : Code := Try.f100.body.getD .skip
theorem r100_L2_lk (call : CallF) (fuel base : Nat) : LoopsOk E call (lp100 call fuel base) fuel base 2 (loopB (blockB (seqL (blockB (loopB (blockB (seqL (seqR (seqR (seqR c100)))))))))) = (And (And True (And True True)) True) := by kernel_rfl
theorem r100_L2_ok (call : CallF) (fuel base : Nat) : LpOk E call (lp100 call fuel base) fuel base 2 (loopB (blockB (seqL (blockB (loopB (blockB (seqL (seqR (seqR (seqR c100)))))))))) := by
  refine loop_ok (kp := keep100) (hb := Eq.mpr (r100_L2_lk call fuel base) (And.intro (And.intro trivial (And.intro trivial trivial)) trivial)) 90 [0, 1, 4, 11, 12] (fun n vs m K => r100_L2_R call fuel base n vs m K) ?_ ?_ (fun _ _ _ => rfl)
  · intro vs m K
    unfold r100_L2_R
    split <;> rfl
  · intro n vs m K hl
    match vs, hl with
    | [x0, x1, x4, x11, x12], _ => show _ = _; kernel_rfl
theorem r100_L4_lk (call : CallF) (fuel base : Nat) : LoopsOk E call (lp100 call fuel base) fuel base 4 (loopB (blockB (seqL (seqR (blockB (loopB (blockB (seqL (seqR (seqR (seqR c100))))))))))) = (And (And True (And True True)) True) := by kernel_rfl
theorem r100_L4_ok (call : CallF) (fuel base : Nat) : LpOk E call (lp100 call fuel base) fuel base 4 (loopB (blockB (seqL (seqR (blockB (loopB (blockB (seqL (seqR (seqR (seqR c100))))))))))) := by
  refine loop_ok (kp := keep100) (hb := Eq.mpr (r100_L4_lk call fuel base) (And.intro (And.intro trivial (And.intro trivial trivial)) trivial)) 90 [0, 1, 4, 11, 12] (fun n vs m K => r100_L4_R call fuel base n vs m K) ?_ ?_ (fun _ _ _ => rfl)
  · intro vs m K
    unfold r100_L4_R
    split <;> rfl
  · intro n vs m K hl
    match vs, hl with
    | [x0, x1, x4, x11, x12], _ => show _ = _; kernel_rfl
theorem r100_L0_lk (call : CallF) (fuel base : Nat) : LoopsOk E call (lp100 call fuel base) fuel base 0 (loopB (blockB (seqL (seqR (seqR (seqR c100)))))) = (And (LpOk E call (lp100 call fuel base) fuel base 2 (loopB (blockB (seqL (blockB (loopB (blockB (seqL (seqR (seqR (seqR c100))))))))))) (And (LpOk E call (lp100 call fuel base) fuel base 4 (loopB (blockB (seqL (seqR (blockB (loopB (blockB (seqL (seqR (seqR (seqR c100)))))))))))) (And (And True (And True True)) (And True (And True True))))) := by kernel_rfl
theorem r100_L0_ok (call : CallF) (fuel base : Nat) : LpOk E call (lp100 call fuel base) fuel base 0 (loopB (blockB (seqL (seqR (seqR (seqR c100)))))) := by
  refine loop_ok (kp := keep100) (hb := Eq.mpr (r100_L0_lk call fuel base) (And.intro (r100_L2_ok call fuel base) (And.intro (r100_L4_ok call fuel base) (And.intro (And.intro trivial (And.intro trivial trivial)) (And.intro trivial (And.intro trivial trivial)))))) 90 [0, 1, 4, 11, 12] (fun n vs m K => r100_L0_R call fuel base n vs m K) ?_ ?_ (fun _ _ _ => rfl)
  · intro vs m K
    unfold r100_L0_R
    split <;> rfl
  · intro n vs m K hl
    match vs, hl with
    | [x0, x1, x4, x11, x12], _ => show _ = _; kernel_rfl
theorem r100_eq (call : CallF) (fuel base : Nat) (x0 : Value) (x1 : Value) (x2 : Value) (x3 : Value) (x4 : Value) (m : M) : kbody E call keep100 (lp100 call fuel base) base Try.f100 [x0, x1, x2, x3, x4] m = r100 call fuel base x0 x1 x2 x3 x4 m := by
  kernel_rfl
noncomputable def rf100 : RF := fun call fuel base args m => match args with
  | [x0, x1, x2, x3, x4] => r100 call fuel base x0 x1 x2 x3 x4 m
  | _ => none
theorem r100_lk (call : CallF) (fuel base : Nat) : LoopsOk E call (lp100 call fuel base) fuel base 0 c100 = (And True (And True (And True (And (LpOk E call (lp100 call fuel base) fuel base 0 (loopB (blockB (seqL (seqR (seqR (seqR c100))))))) (And True True))))) := by kernel_rfl
theorem r100_fn : E.P.funcs[100]? = some Try.f100 := by kernel_rfl
theorem r100_body : Try.f100.body = some c100 := by kernel_rfl
theorem rf100_ok : RFok E 100 rf100 := by
  refine ⟨Try.f100, r100_fn, fun call fuel base args m r _ h => ?_⟩
  unfold rf100 at h
  split at h
  · rw [← r100_eq] at h
    exact kbody_sound (c := c100) r100_body (Eq.mpr (r100_lk call fuel base) (And.intro trivial (And.intro trivial (And.intro trivial (And.intro (r100_L0_ok call fuel base) (And.intro trivial trivial)))))) h
  · simp at h
end Go.AM
namespace Go.AM
open Go Go.Proofs
noncomputable def r101_L6 (call : CallF) (fuel base : Nat) (kx6 : Value → Value → Value → Value → Value → M → Res2) (n : Nat) : Value → Value → Value → Value → Value → M → Res2 :=
  Nat.rec (motive := fun _ => Value → Value → Value → Value → Value → M → Res2) (fun _ _ _ _ _ _ => none)
    (fun _ ih x0 x1 x4 x12 x13 m =>
      (k1 (mbin E .leq 3 x12 x13) fun v107_57 => (kb v107_57 (k1 (mindexAddr E.P 75 x0 x12) fun v112_58 => (k1 (xload E.P m 80 v112_58) fun v113_59 => (k1 (mindexAddr E.P 75 x0 x1) fun v116_60 => (k1 (xload E.P m 80 v116_60) fun v117_61 => (kc (kB m (kv call m.length x4 [v113_59, v117_61] m)) (fun v118_62 m => (k1 (mbin E .lss 3 v118_62 (.int .i64 0)) fun v119_63 => (k0 (mpick (.bool true) v119_63 (.bool false)) fun v120_64 => (kb v120_64 (k1 (mbin E .add 3 x12 (.int .i64 1)) fun v122_65 => (ih x0 x1 x4 v122_65 x13 m)) (kx6 x0 x1 x4 x12 x13 m))))) (fun _ _ => none)))))) (k0 (mpick (.bool false) undef (.bool false)) fun v120_66 => (kb v120_66 (k1 (mbin E .add 3 x12 (.int .i64 1)) fun v122_67 => (ih x0 x1 x4 v122_67 x13 m)) (kx6 x0 x1 x4 x12 x13 m)))))) n
noncomputable def r101_L8 (call : CallF) (fuel base : Nat) (kx8 : Value → Value → Value → Value → Value → M → Res2) (n : Nat) : Value → Value → Value → Value → Value → M → Res2 :=
  Nat.rec (motive := fun _ => Value → Value → Value → Value → Value → M → Res2) (fun _ _ _ _ _ _ => none)
    (fun _ ih x0 x1 x4 x12 x13 m =>
      (k1 (mbin E .leq 3 x12 x13) fun v125_73 => (kb v125_73 (k1 (mindexAddr E.P 75 x0 x13) fun v130_74 => (k1 (xload E.P m 80 v130_74) fun v131_75 => (k1 (mindexAddr E.P 75 x0 x1) fun v134_76 => (k1 (xload E.P m 80 v134_76) fun v135_77 => (kc (kB m (kv call m.length x4 [v131_75, v135_77] m)) (fun v136_78 m => (k1 (mbin E .lss 3 v136_78 (.int .i64 0)) fun v137_79 => (k1 (mun .not v137_79) fun v138_80 => (k0 (mpick (.bool true) v138_80 (.bool false)) fun v139_81 => (kb v139_81 (k1 (mbin E .sub 3 x13 (.int .i64 1)) fun v141_82 => (ih x0 x1 x4 x12 v141_82 m)) (kx8 x0 x1 x4 x12 x13 m)))))) (fun _ _ => none)))))) (k0 (mpick (.bool false) undef (.bool false)) fun v139_83 => (kb v139_83 (k1 (mbin E .sub 3 x13 (.int .i64 1)) fun v141_84 => (ih x0 x1 x4 x12 v141_84 m)) (kx8 x0 x1 x4 x12 x13 m)))))) n
noncomputable def r101_L0 (call : CallF) (fuel base : Nat) (kx0 : Value → Value → Value → Value → Value → M → Res2) (n : Nat) : Value → Value → Value → Value → Value → M → Res2 :=
  Nat.rec (motive := fun _ => Value → Value → Value → Value → Value → M → Res2) (fun _ _ _ _ _ _ => none)
    (fun _ ih x0 x1 x4 x12 x13 m =>
      (k1 (mbin E .leq 3 x12 x13) fun v34_9 => (kb v34_9 (k1 (mindexAddr E.P 75 x0 x12) fun v39_10 => (k1 (xload E.P m 80 v39_10) fun v40_11 => (k1 (mindexAddr E.P 75 x0 x1) fun v43_12 => (k1 (xload E.P m 80 v43_12) fun v44_13 => (kc (kB m (kv call m.length x4 [v40_11, v44_13] m)) (fun v45_14 m => (k1 (mbin E .lss 3 v45_14 (.int .i64 0)) fun v46_15 => (k0 (mpick (.bool true) v46_15 (.bool false)) fun v47_16 => (kb v47_16 (k1 (mbin E .add 3 x12 (.int .i64 1)) fun v49_17 => (ih x0 x1 x4 v49_17 x13 m)) (kx0 x0 x1 x4 x12 x13 m))))) (fun _ _ => none)))))) (k0 (mpick (.bool false) undef (.bool false)) fun v47_18 => (kb v47_18 (k1 (mbin E .add 3 x12 (.int .i64 1)) fun v49_19 => (ih x0 x1 x4 v49_19 x13 m)) (kx0 x0 x1 x4 x12 x13 m)))))) n
noncomputable def r101_L2 (call : CallF) (fuel base : Nat) (kx2 : Value → Value → Value → Value → Value → M → Res2) (n : Nat) : Value → Value → Value → Value → Value → M → Res2 :=
  Nat.rec (motive := fun _ => Value → Value → Value → Value → Value → M → Res2) (fun _ _ _ _ _ _ => none)
    (fun _ ih x0 x1 x4 x12 x13 m =>
      (k1 (mbin E .leq 3 x12 x13) fun v52_25 => (kb v52_25 (k1 (mindexAddr E.P 75 x0 x13) fun v57_26 => (k1 (xload E.P m 80 v57_26) fun v58_27 => (k1 (mindexAddr E.P 75 x0 x1) fun v61_28 => (k1 (xload E.P m 80 v61_28) fun v62_29 => (kc (kB m (kv call m.length x4 [v58_27, v62_29] m)) (fun v63_30 m => (k1 (mbin E .lss 3 v63_30 (.int .i64 0)) fun v64_31 => (k1 (mun .not v64_31) fun v65_32 => (k0 (mpick (.bool true) v65_32 (.bool false)) fun v66_33 => (kb v66_33 (k1 (mbin E .sub 3 x13 (.int .i64 1)) fun v68_34 => (ih x0 x1 x4 x12 v68_34 m)) (kx2 x0 x1 x4 x12 x13 m)))))) (fun _ _ => none)))))) (k0 (mpick (.bool false) undef (.bool false)) fun v66_35 => (kb v66_35 (k1 (mbin E .sub 3 x13 (.int .i64 1)) fun v68_36 => (ih x0 x1 x4 x12 v68_36 m)) (kx2 x0 x1 x4 x12 x13 m)))))) n
noncomputable def r101_L4 (call : CallF) (fuel base : Nat) (kx4 : Value → Value → Value → M → Res2) (n : Nat) : Value → Value → Value → Value → Value → M → Res2 :=
  Nat.rec (motive := fun _ => Value → Value → Value → Value → Value → M → Res2) (fun _ _ _ _ _ _ => none)
    (fun _ ih x0 x1 x4 x12 x13 m =>
      (r101_L6 call fuel base (fun y0_68 y1_69 y4_70 y12_71 y13_72 m => (r101_L8 call fuel base (fun y0_85 y1_86 y4_87 y12_88 y13_89 m => (k1 (mbin E .gtr 3 y12_88 y13_89) fun v144_90 => (kb v144_90 (kx4 y0_85 y1_86 y13_89 m) (k1 (mindexAddr E.P 75 y0_85 y13_89) fun v151_91 => (k1 (xload E.P m 80 v151_91) fun v152_92 => (k1 (mindexAddr E.P 75 y0_85 y12_88) fun v155_93 => (k1 (xload E.P m 80 v155_93) fun v156_94 => (k1 (mindexAddr E.P 75 y0_85 y12_88) fun v157_95 => (ks (xstore E.P base m 80 v157_95 v152_92) fun m => (k1 (mindexAddr E.P 75 y0_85 y13_89) fun v158_96 => (ks (xstore E.P base m 80 v158_96 v156_94) fun m => (k1 (mbin E .add 3 y12_88 (.int .i64 1)) fun v160_97 => (k1 (mbin E .sub 3 y13_89 (.int .i64 1)) fun v162_98 => (ih y0_85 y1_86 y4_87 v160_97 v162_98 m)))))))))))))) fuel y0_68 y1_69 y4_70 y12_71 y13_72 m)) fuel x0 x1 x4 x12 x13 m)) n
noncomputable def r101 (call : CallF) (fuel base : Nat) (x0 : Value) (x1 : Value) (x2 : Value) (x3 : Value) (x4 : Value) (m : M) : Res2 :=
  (k1 (mindexAddr E.P 75 x0 x3) fun v20_1 => (k1 (xload E.P m 80 v20_1) fun v21_2 => (k1 (mindexAddr E.P 75 x0 x1) fun v24_3 => (k1 (xload E.P m 80 v24_3) fun v25_4 => (k1 (mindexAddr E.P 75 x0 x1) fun v26_5 => (ks (xstore E.P base m 80 v26_5 v21_2) fun m => (k1 (mindexAddr E.P 75 x0 x3) fun v27_6 => (ks (xstore E.P base m 80 v27_6 v25_4) fun m => (k1 (mbin E .add 3 x1 (.int .i64 1)) fun v29_7 => (k1 (mbin E .sub 3 x2 (.int .i64 1)) fun v31_8 => (r101_L0 call fuel base (fun y0_20 y1_21 y4_22 y12_23 y13_24 m => (r101_L2 call fuel base (fun y0_37 y1_38 y4_39 y12_40 y13_41 m => (k1 (mbin E .gtr 3 y12_40 y13_41) fun v71_42 => (kb v71_42 (k1 (mindexAddr E.P 75 y0_37 y1_38) fun v78_43 => (k1 (xload E.P m 80 v78_43) fun v79_44 => (k1 (mindexAddr E.P 75 y0_37 y13_41) fun v82_45 => (k1 (xload E.P m 80 v82_45) fun v83_46 => (k1 (mindexAddr E.P 75 y0_37 y13_41) fun v84_47 => (ks (xstore E.P base m 80 v84_47 v79_44) fun m => (k1 (mindexAddr E.P 75 y0_37 y1_38) fun v85_48 => (ks (xstore E.P base m 80 v85_48 v83_46) fun m => (some (.ret (.tuple #[y13_41, (.bool true)]), m)))))))))) (k1 (mindexAddr E.P 75 y0_37 y13_41) fun v93_49 => (k1 (xload E.P m 80 v93_49) fun v94_50 => (k1 (mindexAddr E.P 75 y0_37 y12_40) fun v97_51 => (k1 (xload E.P m 80 v97_51) fun v98_52 => (k1 (mindexAddr E.P 75 y0_37 y12_40) fun v99_53 => (ks (xstore E.P base m 80 v99_53 v94_50) fun m => (k1 (mindexAddr E.P 75 y0_37 y13_41) fun v100_54 => (ks (xstore E.P base m 80 v100_54 v98_52) fun m => (k1 (mbin E .add 3 y12_40 (.int .i64 1)) fun v102_55 => (k1 (mbin E .sub 3 y13_41 (.int .i64 1)) fun v104_56 => (r101_L4 call fuel base (fun y0_99 y1_100 y13_101 m => (k1 (mindexAddr E.P 75 y0_99 y1_100) fun v169_102 => (k1 (xload E.P m 80 v169_102) fun v170_103 => (k1 (mindexAddr E.P 75 y0_99 y13_101) fun v173_104 => (k1 (xload E.P m 80 v173_104) fun v174_105 => (k1 (mindexAddr E.P 75 y0_99 y13_101) fun v175_106 => (ks (xstore E.P base m 80 v175_106 v170_103) fun m => (k1 (mindexAddr E.P 75 y0_99 y1_100) fun v176_107 => (ks (xstore E.P base m 80 v176_107 v174_105) fun m => (some (.ret (.tuple #[y13_101, (.bool false)]), m))))))))))) fuel y0_37 y1_38 y4_39 v102_55 v104_56 m)))))))))))))) fuel y0_20 y1_21 y4_22 y12_23 y13_24 m)) fuel x0 x1 x4 v29_7 v31_8 m)))))))))))
def keep101 : Keep := { region := fun i => ([[0, 1, 2, 3, 4], [0, 1, 2, 4], [0, 1, 4, 12, 13], [0, 1, 4, 12, 13, 47], [0, 1, 4, 12, 13], [0, 1, 4, 12, 13, 66], [0, 1, 4, 12, 13], [0, 1, 4, 12, 13, 71], [13], [10, 11], [0, 1, 4, 12, 13], [0, 1, 4, 12, 13], [0, 1, 4, 12, 13], [0, 1, 4, 12, 13, 120], [0, 1, 4, 12, 13], [0, 1, 4, 12, 13, 139], [0, 1, 4, 12, 13], [0, 1, 4, 12, 13, 144], [0, 1, 4, 12, 13], [0, 1, 4, 12, 13], [0, 1, 4, 12, 13], [13], [10, 11]] : List (List Nat))[i]?, exit := fun i => ([[0, 1, 4, 12, 13], [0, 1, 4, 12, 13], [0, 1, 4, 12, 13], [0, 1, 4, 12, 13], [0, 1, 13], [0, 1, 4, 12, 13], [0, 1, 4, 12, 13], [0, 1, 4, 12, 13], [0, 1, 4, 12, 13], [0, 1, 4, 12, 13]] : List (List Nat))[i]?, ret := some [10, 11] }
noncomputable def r101_L6_R (call : CallF) (fuel base n : Nat) (vs : List Value) (m : M) (K : KT) : Res2 := match vs with
  | [x0, x1, x4, x12, x13] => r101_L6 call fuel base (fun y0 y1 y4 y12 y13 m => K (.exit 6) { n := 178, l := [(0, y0), (1, y1), (4, y4), (12, y12), (13, y13)] } m) n x0 x1 x4 x12 x13 m
  | _ => none
noncomputable def r101_L8_R (call : CallF) (fuel base n : Nat) (vs : List Value) (m : M) (K : KT) : Res2 := match vs with
  | [x0, x1, x4, x12, x13] => r101_L8 call fuel base (fun y0 y1 y4 y12 y13 m => K (.exit 8) { n := 178, l := [(0, y0), (1, y1), (4, y4), (12, y12), (13, y13)] } m) n x0 x1 x4 x12 x13 m
  | _ => none
noncomputable def r101_L0_R (call : CallF) (fuel base n : Nat) (vs : List Value) (m : M) (K : KT) : Res2 := match vs with
  | [x0, x1, x4, x12, x13] => r101_L0 call fuel base (fun y0 y1 y4 y12 y13 m => K (.exit 0) { n := 178, l := [(0, y0), (1, y1), (4, y4), (12, y12), (13, y13)] } m) n x0 x1 x4 x12 x13 m
  | _ => none
noncomputable def r101_L2_R (call : CallF) (fuel base n : Nat) (vs : List Value) (m : M) (K : KT) : Res2 := match vs with
  | [x0, x1, x4, x12, x13] => r101_L2 call fuel base (fun y0 y1 y4 y12 y13 m => K (.exit 2) { n := 178, l := [(0, y0), (1, y1), (4, y4), (12, y12), (13, y13)] } m) n x0 x1 x4 x12 x13 m
  | _ => none
noncomputable def r101_L4_R (call : CallF) (fuel base n : Nat) (vs : List Value) (m : M) (K : KT) : Res2 := match vs with
  | [x0, x1, x4, x12, x13] => r101_L4 call fuel base (fun y0 y1 y13 m => K (.exit 4) { n := 178, l := [(0, y0), (1, y1), (13, y13)] } m) n x0 x1 x4 x12 x13 m
  | _ => none
noncomputable def lp101 (call : CallF) (fuel base : Nat) : Lp := lpsel [(6, fun T m K => kslots 178 [0, 1, 4, 12, 13] T fun vs => r101_L6_R call fuel base fuel vs m K), (8, fun T m K => kslots 178 [0, 1, 4, 12, 13] T fun vs => r101_L8_R call fuel base fuel vs m K), (0, fun T m K => kslots 178 [0, 1, 4, 12, 13] T fun vs => r101_L0_R call fuel base fuel vs m K), (2, fun T m K => kslots 178 [0, 1, 4, 12, 13] T fun vs => r101_L2_R call fuel base fuel vs m K), (4, fun T m K => kslots 178 [0, 1, 4, 12, 13] T fun vs => r101_L4_R call fuel base fuel vs m K)]
noncomputable def c101 : Code := Try.f101.body.getD .skip
theorem r101_L6_lk (call : CallF) (fuel base : Nat) : LoopsOk E call (lp101 call fuel base) fuel base 6 (loopB (blockB (seqL (blockB (loopB (blockB (seqL (seqR (seqR (seqR (seqR (seqR (seqR (seqR (seqR (seqR c101)))))))))))))))) = (And (And True (And True True)) True) := by kernel_rfl
theorem r101_L6_ok (call : CallF) (fuel base : Nat) : LpOk E call (lp101 call fuel base) fuel base 6 (loopB (blockB (seqL (blockB (loopB (blockB (seqL (seqR (seqR (seqR (seqR (seqR (seqR (seqR (seqR (seqR c101)))))))))))))))) := by
  refine loop_ok (kp := keep101) (hb := Eq.mpr (r101_L6_lk call fuel base) (And.intro (And.intro trivial (And.intro trivial trivial)) trivial)) 178 [0, 1, 4, 12, 13] (fun n vs m K => r101_L6_R call fuel base n vs m K) ?_ ?_ (fun _ _ _ => rfl)
  · intro vs m K
    unfold r101_L6_R
    split <;> rfl
  · intro n vs m K hl
    match vs, hl with
    | [x0, x1, x4, x12, x13], _ => show _ = _; kernel_rfl
theorem r101_L8_lk (call : CallF) (fuel base : Nat) : LoopsOk E call (lp101 call fuel base) fuel base 8 (loopB (blockB (seqL (seqR (blockB (loopB (blockB (seqL (seqR (seqR (seqR (seqR (seqR (seqR (seqR (seqR (seqR c101))))))))))))))))) = (And (And True (And True True)) True) := by kernel_rfl
theorem r101_L8_ok (call : CallF) (fuel base : Nat) : LpOk E call (lp101 call fuel base) fuel base 8 (loopB (blockB (seqL (seqR (blockB (loopB (blockB (seqL (seqR (seqR (seqR (seqR (seqR (seqR (seqR (seqR (seqR c101))))))))))))))))) := by
  refine loop_ok (kp := keep101) (hb := Eq.mpr (r101_L8_lk call fuel base) (And.intro (And.intro trivial (And.intro trivial trivial)) trivial)) 178 [0, 1, 4, 12, 13] (fun n vs m K => r101_L8_R call fuel base n vs m K) ?_ ?_ (fun _ _ _ => rfl)
  · intro vs m K
    unfold r101_L8_R
    split <;> rfl
  · intro n vs m K hl
    match vs, hl with
    | [x0, x1, x4, x12, x13], _ => show _ = _; kernel_rfl
theorem r101_L0_lk (call : CallF) (fuel base : Nat) : LoopsOk E call (lp101 call fuel base) fuel base 0 (loopB (blockB (seqL (seqR (seqR (seqR c101)))))) = (And (And True (And True True)) True) := by kernel_rfl
theorem r101_L0_ok (call : CallF) (fuel base : Nat) : LpOk E call (lp101 call fuel base) fuel base 0 (loopB (blockB (seqL (seqR (seqR (seqR c101)))))) := by
  refine loop_ok (kp := keep101) (hb := Eq.mpr (r101_L0_lk call fuel base) (And.intro (And.intro trivial (And.intro trivial trivial)) trivial)) 178 [0, 1, 4, 12, 13] (fun n vs m K => r101_L0_R call fuel base n vs m K) ?_ ?_ (fun _ _ _ => rfl)
  · intro vs m K
    unfold r101_L0_R
    split <;> rfl
  · intro n vs m K hl
    match vs, hl with
    | [x0, x1, x4, x12, x13], _ => show _ = _; kernel_rfl
theorem r101_L2_lk (call : CallF) (fuel base : Nat) : LoopsOk E call (lp101 call fuel base) fuel base 2 (loopB (blockB (seqL (seqR (seqR (seqR (seqR c101))))))) = (And (And True (And True True)) True) := by kernel_rfl
theorem r101_L2_ok (call : CallF) (fuel base : Nat) : LpOk E call (lp101 call fuel base) fuel base 2 (loopB (blockB (seqL (seqR (seqR (seqR (seqR c101))))))) := by
  refine loop_ok (kp := keep101) (hb := Eq.mpr (r101_L2_lk call fuel base) (And.intro (And.intro trivial (And.intro trivial trivial)) trivial)) 178 [0, 1, 4, 12, 13] (fun n vs m K => r101_L2_R call fuel base n vs m K) ?_ ?_ (fun _ _ _ => rfl)
  · intro vs m K
    unfold r101_L2_R
    split <;> rfl
  · intro n vs m K hl
    match vs, hl with
    | [x0, x1, x4, x12, x13], _ => show _ = _; kernel_rfl
theorem r101_L4_lk (call : CallF) (fuel base : Nat) : LoopsOk E call (lp101 call fuel base) fuel base 4 (loopB (blockB (seqL (seqR (seqR (seqR (seqR (seqR (seqR (seqR (seqR (seqR c101)))))))))))) = (And (LpOk E call (lp101 call fuel base) fuel base 6 (loopB (blockB (seqL (blockB (loopB (blockB (seqL (seqR (seqR (seqR (seqR (seqR (seqR (seqR (seqR (seqR c101))))))))))))))))) (And (LpOk E call (lp101 call fuel base) fuel base 8 (loopB (blockB (seqL (seqR (blockB (loopB (blockB (seqL (seqR (seqR (seqR (seqR (seqR (seqR (seqR (seqR (seqR c101)))))))))))))))))) (And (And True (And True True)) (And True (And True True))))) := by kernel_rfl
theorem r101_L4_ok (call : CallF) (fuel base : Nat) : LpOk E call (lp101 call fuel base) fuel base 4 (loopB (blockB (seqL (seqR (seqR (seqR (seqR (seqR (seqR (seqR (seqR (seqR c101)))))))))))) := by
  refine loop_ok (kp := keep101) (hb := Eq.mpr (r101_L4_lk call fuel base) (And.intro (r101_L6_ok call fuel base) (And.intro (r101_L8_ok call fuel base) (And.intro (And.intro trivial (And.intro trivial trivial)) (And.intro trivial (And.intro trivial trivial)))))) 178 [0, 1, 4, 12, 13] (fun n vs m K => r101_L4_R call fuel base n vs m K) ?_ ?_ (fun _ _ _ => rfl)
  · intro vs m K
    unfold r101_L4_R
    split <;> rfl
  · intro n vs m K hl
    match vs, hl with
    | [x0, x1, x4, x12, x13], _ => show _ = _; kernel_rfl
theorem r101_eq (call : CallF) (fuel base : Nat) (x0 : Value) (x1 : Value) (x2 : Value) (x3 : Value) (x4 : Value) (m : M) : kbody E call keep101 (lp101 call fuel base) base Try.f101 [x0, x1, x2, x3, x4] m = r101 call fuel base x0 x1 x2 x3 x4 m := by
  kernel_rfl
noncomputable def rf101 : RF := fun call fuel base args m => match args with
  | [x0, x1, x2, x3, x4] => r101 call fuel base x0 x1 x2 x3 x4 m
  | _ => none
theorem r101_lk (call : CallF) (fuel base : Nat) : LoopsOk E call (lp101 call fuel base) fuel base 0 c101 = (And True (And True (And True (And (LpOk E call (lp101 call fuel base) fuel base 0 (loopB (blockB (seqL (seqR (seqR (seqR c101))))))) (And (LpOk E call (lp101 call fuel base) fuel base 2 (loopB (blockB (seqL (seqR (seqR (seqR (seqR c101)))))))) (And (And True (And (And True (And True True)) True)) (And True (And True (And True (And (LpOk E call (lp101 call fuel base) fuel base 4 (loopB (blockB (seqL (seqR (seqR (seqR (seqR (seqR (seqR (seqR (seqR (seqR c101))))))))))))) (And True (And True True)))))))))))) := by kernel_rfl
theorem r101_fn : E.P.funcs[101]? = some Try.f101 := by kernel_rfl
theorem r101_body : Try.f101.body = some c101 := by kernel_rfl
theorem rf101_ok : RFok E 101 rf101 := by
  refine ⟨Try.f101, r101_fn, fun call fuel base args m r _ h => ?_⟩
  unfold rf101 at h
  split at h
  · rw [← r101_eq] at h
    exact kbody_sound (c := c101) r101_body (Eq.mpr (r101_lk call fuel base) (And.intro trivial (And.intro trivial (And.intro trivial (And.intro (r101_L0_ok call fuel base) (And.intro (r101_L2_ok call fuel base) (And.intro (And.intro trivial (And.intro (And.intro trivial (And.intro trivial trivial)) trivial)) (And.intro trivial (And.intro trivial (And.intro trivial (And.intro (r101_L4_ok call fuel base) (And.intro trivial (And.intro trivial trivial))))))))))))) h
  · simp at h
end Go.AM
namespace Go.AM
open Go Go.Proofs
noncomputable def r102 (call : CallF) (fuel base : Nat) (x0 : Value) (m : M) : Res2 :=
  (k1 (mbin E .geq 123 x0 (.int .u32 65536)) fun v4_1 => (kb v4_1 (k1 (mbin E .shr 123 x0 (.int .u64 16)) fun v6_2 => (k1 (mbin E .geq 123 v6_2 (.int .u32 256)) fun v8_3 => (kb v8_3 (k1 (mbin E .shr 123 v6_2 (.int .u64 8)) fun v10_4 => (k1 (mbin E .add 3 (.int .i64 16) (.int .i64 8)) fun v12_5 => (k1 (mconvert E.P 123 5 v10_4) fun v15_6 => (k1 (mindex E.P 9 (.string (ByteArray.mk #[0, 1, 2, 2, 3, 3, 3, 3, 4, 4, 4, 4, 4, 4, 4, 4, 5, 5, 5, 5, 5, 5, 5, 5, 5, 5, 5, 5, 5, 5, 5, 5, 6, 6, 6, 6, 6, 6, 6, 6, 6, 6, 6, 6, 6, 6, 6, 6, 6, 6, 6, 6, 6, 6, 6, 6, 6, 6, 6, 6, 6, 6, 6, 6, 7, 7, 7, 7, 7, 7, 7, 7, 7, 7, 7, 7, 7, 7, 7, 7, 7, 7, 7, 7, 7, 7, 7, 7, 7, 7, 7, 7, 7, 7, 7, 7, 7, 7, 7, 7, 7, 7, 7, 7, 7, 7, 7, 7, 7, 7, 7, 7, 7, 7, 7, 7, 7, 7, 7, 7, 7, 7, 7, 7, 7, 7, 7, 7, 8, 8, 8, 8, 8, 8, 8, 8, 8, 8, 8, 8, 8, 8, 8, 8, 8, 8, 8, 8, 8, 8, 8, 8, 8, 8, 8, 8, 8, 8, 8, 8, 8, 8, 8, 8, 8, 8, 8, 8, 8, 8, 8, 8, 8, 8, 8, 8, 8, 8, 8, 8, 8, 8, 8, 8, 8, 8, 8, 8, 8, 8, 8, 8, 8, 8, 8, 8, 8, 8, 8, 8, 8, 8, 8, 8, 8, 8, 8, 8, 8, 8, 8, 8, 8, 8, 8, 8, 8, 8, 8, 8, 8, 8, 8, 8, 8, 8, 8, 8, 8, 8, 8, 8, 8, 8, 8, 8, 8, 8, 8, 8, 8, 8, 8, 8, 8, 8, 8, 8, 8, 8, 8, 8, 8, 8, 8, 8])) v15_6) fun v16_7 => (k1 (mconvert E.P 5 3 v16_7) fun v17_8 => (k1 (mbin E .add 3 v12_5 v17_8) fun v18_9 => (fVal v18_9 fun v => some (.ret v, m)))))))) (k1 (mconvert E.P 123 5 v6_2) fun v15_10 => (k1 (mindex E.P 9 (.string (ByteArray.mk #[0, 1, 2, 2, 3, 3, 3, 3, 4, 4, 4, 4, 4, 4, 4, 4, 5, 5, 5, 5, 5, 5, 5, 5, 5, 5, 5, 5, 5, 5, 5, 5, 6, 6, 6, 6, 6, 6, 6, 6, 6, 6, 6, 6, 6, 6, 6, 6, 6, 6, 6, 6, 6, 6, 6, 6, 6, 6, 6, 6, 6, 6, 6, 6, 7, 7, 7, 7, 7, 7, 7, 7, 7, 7, 7, 7, 7, 7, 7, 7, 7, 7, 7, 7, 7, 7, 7, 7, 7, 7, 7, 7, 7, 7, 7, 7, 7, 7, 7, 7, 7, 7, 7, 7, 7, 7, 7, 7, 7, 7, 7, 7, 7, 7, 7, 7, 7, 7, 7, 7, 7, 7, 7, 7, 7, 7, 7, 7, 8, 8, 8, 8, 8, 8, 8, 8, 8, 8, 8, 8, 8, 8, 8, 8, 8, 8, 8, 8, 8, 8, 8, 8, 8, 8, 8, 8, 8, 8, 8, 8, 8, 8, 8, 8, 8, 8, 8, 8, 8, 8, 8, 8, 8, 8, 8, 8, 8, 8, 8, 8, 8, 8, 8, 8, 8, 8, 8, 8, 8, 8, 8, 8, 8, 8, 8, 8, 8, 8, 8, 8, 8, 8, 8, 8, 8, 8, 8, 8, 8, 8, 8, 8, 8, 8, 8, 8, 8, 8, 8, 8, 8, 8, 8, 8, 8, 8, 8, 8, 8, 8, 8, 8, 8, 8, 8, 8, 8, 8, 8, 8, 8, 8, 8, 8, 8, 8, 8, 8, 8, 8, 8, 8, 8, 8, 8, 8])) v15_10) fun v16_11 => (k1 (mconvert E.P 5 3 v16_11) fun v17_12 => (k1 (mbin E .add 3 (.int .i64 16) v17_12) fun v18_13 => (fVal v18_13 fun v => some (.ret v, m))))))))) (k1 (mbin E .geq 123 x0 (.int .u32 256)) fun v8_14 => (kb v8_14 (k1 (mbin E .shr 123 x0 (.int .u64 8)) fun v10_15 => (k1 (mbin E .add 3 (.int .i64 0) (.int .i64 8)) fun v12_16 => (k1 (mconvert E.P 123 5 v10_15) fun v15_17 => (k1 (mindex E.P 9 (.string (ByteArray.mk #[0, 1, 2, 2, 3, 3, 3, 3, 4, 4, 4, 4, 4, 4, 4, 4, 5, 5, 5, 5, 5, 5, 5, 5, 5, 5, 5, 5, 5, 5, 5, 5, 6, 6, 6, 6, 6, 6, 6, 6, 6, 6, 6, 6, 6, 6, 6, 6, 6, 6, 6, 6, 6, 6, 6, 6, 6, 6, 6, 6, 6, 6, 6, 6, 7, 7, 7, 7, 7, 7, 7, 7, 7, 7, 7, 7, 7, 7, 7, 7, 7, 7, 7, 7, 7, 7, 7, 7, 7, 7, 7, 7, 7, 7, 7, 7, 7, 7, 7, 7, 7, 7, 7, 7, 7, 7, 7, 7, 7, 7, 7, 7, 7, 7, 7, 7, 7, 7, 7, 7, 7, 7, 7, 7, 7, 7, 7, 7, 8, 8, 8, 8, 8, 8, 8, 8, 8, 8, 8, 8, 8, 8, 8, 8, 8, 8, 8, 8, 8, 8, 8, 8, 8, 8, 8, 8, 8, 8, 8, 8, 8, 8, 8, 8, 8, 8, 8, 8, 8, 8, 8, 8, 8, 8, 8, 8, 8, 8, 8, 8, 8, 8, 8, 8, 8, 8, 8, 8, 8, 8, 8, 8, 8, 8, 8, 8, 8, 8, 8, 8, 8, 8, 8, 8, 8, 8, 8, 8, 8, 8, 8, 8, 8, 8, 8, 8, 8, 8, 8, 8, 8, 8, 8, 8, 8, 8, 8, 8, 8, 8, 8, 8, 8, 8, 8, 8, 8, 8, 8, 8, 8, 8, 8, 8, 8, 8, 8, 8, 8, 8, 8, 8, 8, 8, 8, 8])) v15_17) fun v16_18 => (k1 (mconvert E.P 5 3 v16_18) fun v17_19 => (k1 (mbin E .add 3 v12_16 v17_19) fun v18_20 => (fVal v18_20 fun v => some (.ret v, m)))))))) (k1 (mconvert E.P 123 5 x0) fun v15_21 => (k1 (mindex E.P 9 (.string (ByteArray.mk #[0, 1, 2, 2, 3, 3, 3, 3, 4, 4, 4, 4, 4, 4, 4, 4, 5, 5, 5, 5, 5, 5, 5, 5, 5, 5, 5, 5, 5, 5, 5, 5, 6, 6, 6, 6, 6, 6, 6, 6, 6, 6, 6, 6, 6, 6, 6, 6, 6, 6, 6, 6, 6, 6, 6, 6, 6, 6, 6, 6, 6, 6, 6, 6, 7, 7, 7, 7, 7, 7, 7, 7, 7, 7, 7, 7, 7, 7, 7, 7, 7, 7, 7, 7, 7, 7, 7, 7, 7, 7, 7, 7, 7, 7, 7, 7, 7, 7, 7, 7, 7, 7, 7, 7, 7, 7, 7, 7, 7, 7, 7, 7, 7, 7, 7, 7, 7, 7, 7, 7, 7, 7, 7, 7, 7, 7, 7, 7, 8, 8, 8, 8, 8, 8, 8, 8, 8, 8, 8, 8, 8, 8, 8, 8, 8, 8, 8, 8, 8, 8, 8, 8, 8, 8, 8, 8, 8, 8, 8, 8, 8, 8, 8, 8, 8, 8, 8, 8, 8, 8, 8, 8, 8, 8, 8, 8, 8, 8, 8, 8, 8, 8, 8, 8, 8, 8, 8, 8, 8, 8, 8, 8, 8, 8, 8, 8, 8, 8, 8, 8, 8, 8, 8, 8, 8, 8, 8, 8, 8, 8, 8, 8, 8, 8, 8, 8, 8, 8, 8, 8, 8, 8, 8, 8, 8, 8, 8, 8, 8, 8, 8, 8, 8, 8, 8, 8, 8, 8, 8, 8, 8, 8, 8, 8, 8, 8, 8, 8, 8, 8, 8, 8, 8, 8, 8, 8])) v15_21) fun v16_22 => (k1 (mconvert E.P 5 3 v16_22) fun v17_23 => (k1 (mbin E .add 3 (.int .i64 0) v17_23) fun v18_24 => (fVal v18_24 fun v => some (.ret v, m))))))))))
def keep102 : Keep := { region := fun i => ([[0, 2], [0, 2, 4], [0], [0, 2], [0, 2, 8], [0, 2], [0, 2], [2]] : List (List Nat))[i]?, exit := fun i => ([] : List (List Nat))[i]?, ret := some [2] }
noncomputable def lp102 (call : CallF) (fuel base : Nat) : Lp := lpsel []
noncomputable def c102 : Code := Try.f102.body.getD .skip
theorem r102_eq (call : CallF) (fuel base : Nat) (x0 : Value) (m : M) : kbody E call keep102 (lp102 call fuel base) base Try.f102 [x0] m = r102 call fuel base x0 m := by
  kernel_rfl
noncomputable def rf102 : RF := fun call fuel base args m => match args with
  | [x0] => r102 call fuel base x0 m
  | _ => none
theorem r102_lk (call : CallF) (fuel base : Nat) : LoopsOk E call (lp102 call fuel base) fuel base 0 c102 = (And True (And (And True (And (And True True) True)) (And (And True (And (And True True) True)) (And True True)))) := by kernel_rfl
theorem r102_fn : E.P.funcs[102]? = some Try.f102 := by kernel_rfl
theorem r102_body : Try.f102.body = some c102 := by kernel_rfl
theorem rf102_ok : RFok E 102 rf102 := by
  refine ⟨Try.f102, r102_fn, fun call fuel base args m r _ h => ?_⟩
  unfold rf102 at h
  split at h
  · rw [← r102_eq] at h
    exact kbody_sound (c := c102) r102_body (Eq.mpr (r102_lk call fuel base) (And.intro trivial (And.intro (And.intro trivial (And.intro (And.intro trivial trivial) trivial)) (And.intro (And.intro trivial (And.intro (And.intro trivial trivial) trivial)) (And.intro trivial trivial))))) h
  · simp at h
end Go.AM
namespace Go.AM
open Go Go.Proofs
noncomputable def r103 (call : CallF) (fuel base : Nat) (x0 : Value) (m : M) : Res2 :=
  (k1 (mbin E .geq 125 x0 (.int .u64 4294967296)) fun v4_1 => (kb v4_1 (k1 (mbin E .shr 125 x0 (.int .u64 32)) fun v6_2 => (k1 (mbin E .geq 125 v6_2 (.int .u64 65536)) fun v8_3 => (kb v8_3 (k1 (mbin E .shr 125 v6_2 (.int .u64 16)) fun v10_4 => (k1 (mbin E .add 3 (.int .i64 32) (.int .i64 16)) fun v12_5 => (k1 (mbin E .geq 125 v10_4 (.int .u64 256)) fun v14_6 => (kb v14_6 (k1 (mbin E .shr 125 v10_4 (.int .u64 8)) fun v16_7 => (k1 (mbin E .add 3 v12_5 (.int .i64 8)) fun v18_8 => (k1 (mconvert E.P 125 5 v16_7) fun v21_9 => (k1 (mindex E.P 9 (.string (ByteArray.mk #[0, 1, 2, 2, 3, 3, 3, 3, 4, 4, 4, 4, 4, 4, 4, 4, 5, 5, 5, 5, 5, 5, 5, 5, 5, 5, 5, 5, 5, 5, 5, 5, 6, 6, 6, 6, 6, 6, 6, 6, 6, 6, 6, 6, 6, 6, 6, 6, 6, 6, 6, 6, 6, 6, 6, 6, 6, 6, 6, 6, 6, 6, 6, 6, 7, 7, 7, 7, 7, 7, 7, 7, 7, 7, 7, 7, 7, 7, 7, 7, 7, 7, 7, 7, 7, 7, 7, 7, 7, 7, 7, 7, 7, 7, 7, 7, 7, 7, 7, 7, 7, 7, 7, 7, 7, 7, 7, 7, 7, 7, 7, 7, 7, 7, 7, 7, 7, 7, 7, 7, 7, 7, 7, 7, 7, 7, 7, 7, 8, 8, 8, 8, 8, 8, 8, 8, 8, 8, 8, 8, 8, 8, 8, 8, 8, 8, 8, 8, 8, 8, 8, 8, 8, 8, 8, 8, 8, 8, 8, 8, 8, 8, 8, 8, 8, 8, 8, 8, 8, 8, 8, 8, 8, 8, 8, 8, 8, 8, 8, 8, 8, 8, 8, 8, 8, 8, 8, 8, 8, 8, 8, 8, 8, 8, 8, 8, 8, 8, 8, 8, 8, 8, 8, 8, 8, 8, 8, 8, 8, 8, 8, 8, 8, 8, 8, 8, 8, 8, 8, 8, 8, 8, 8, 8, 8, 8, 8, 8, 8, 8, 8, 8, 8, 8, 8, 8, 8, 8, 8, 8, 8, 8, 8, 8, 8, 8, 8, 8, 8, 8, 8, 8, 8, 8, 8, 8])) v21_9) fun v22_10 => (k1 (mconvert E.P 5 3 v22_10) fun v23_11 => (k1 (mbin E .add 3 v18_8 v23_11) fun v24_12 => (fVal v24_12 fun v => some (.ret v, m)))))))) (k1 (mconvert E.P 125 5 v10_4) fun v21_13 => (k1 (mindex E.P 9 (.string (ByteArray.mk #[0, 1, 2, 2, 3, 3, 3, 3, 4, 4, 4, 4, 4, 4, 4, 4, 5, 5, 5, 5, 5, 5, 5, 5, 5, 5, 5, 5, 5, 5, 5, 5, 6, 6, 6, 6, 6, 6, 6, 6, 6, 6, 6, 6, 6, 6, 6, 6, 6, 6, 6, 6, 6, 6, 6, 6, 6, 6, 6, 6, 6, 6, 6, 6, 7, 7, 7, 7, 7, 7, 7, 7, 7, 7, 7, 7, 7, 7, 7, 7, 7, 7, 7, 7, 7, 7, 7, 7, 7, 7, 7, 7, 7, 7, 7, 7, 7, 7, 7, 7, 7, 7, 7, 7, 7, 7, 7, 7, 7, 7, 7, 7, 7, 7, 7, 7, 7, 7, 7, 7, 7, 7, 7, 7, 7, 7, 7, 7, 8, 8, 8, 8, 8, 8, 8, 8, 8, 8, 8, 8, 8, 8, 8, 8, 8, 8, 8, 8, 8, 8, 8, 8, 8, 8, 8, 8, 8, 8, 8, 8, 8, 8, 8, 8, 8, 8, 8, 8, 8, 8, 8, 8, 8, 8, 8, 8, 8, 8, 8, 8, 8, 8, 8, 8, 8, 8, 8, 8, 8, 8, 8, 8, 8, 8, 8, 8, 8, 8, 8, 8, 8, 8, 8, 8, 8, 8, 8, 8, 8, 8, 8, 8, 8, 8, 8, 8, 8, 8, 8, 8, 8, 8, 8, 8, 8, 8, 8, 8, 8, 8, 8, 8, 8, 8, 8, 8, 8, 8, 8, 8, 8, 8, 8, 8, 8, 8, 8, 8, 8, 8, 8, 8, 8, 8, 8, 8])) v21_13) fun v22_14 => (k1 (mconvert E.P 5 3 v22_14) fun v23_15 => (k1 (mbin E .add 3 v12_5 v23_15) fun v24_16 => (fVal v24_16 fun v => some (.ret v, m)))))))))) (k1 (mbin E .geq 125 v6_2 (.int .u64 256)) fun v14_17 => (kb v14_17 (k1 (mbin E .shr 125 v6_2 (.int .u64 8)) fun v16_18 => (k1 (mbin E .add 3 (.int .i64 32) (.int .i64 8)) fun v18_19 => (k1 (mconvert E.P 125 5 v16_18) fun v21_20 => (k1 (mindex E.P 9 (.string (ByteArray.mk #[0, 1, 2, 2, 3, 3, 3, 3, 4, 4, 4, 4, 4, 4, 4, 4, 5, 5, 5, 5, 5, 5, 5, 5, 5, 5, 5, 5, 5, 5, 5, 5, 6, 6, 6, 6, 6, 6, 6, 6, 6, 6, 6, 6, 6, 6, 6, 6, 6, 6, 6, 6, 6, 6, 6, 6, 6, 6, 6, 6, 6, 6, 6, 6, 7, 7, 7, 7, 7, 7, 7, 7, 7, 7, 7, 7, 7, 7, 7, 7, 7, 7, 7, 7, 7, 7, 7, 7, 7, 7, 7, 7, 7, 7, 7, 7, 7, 7, 7, 7, 7, 7, 7, 7, 7, 7, 7, 7, 7, 7, 7, 7, 7, 7, 7, 7, 7, 7, 7, 7, 7, 7, 7, 7, 7, 7, 7, 7, 8, 8, 8, 8, 8, 8, 8, 8, 8, 8, 8, 8, 8, 8, 8, 8, 8, 8, 8, 8, 8, 8, 8, 8, 8, 8, 8, 8, 8, 8, 8, 8, 8, 8, 8, 8, 8, 8, 8, 8, 8, 8, 8, 8, 8, 8, 8, 8, 8, 8, 8, 8, 8, 8, 8, 8, 8, 8, 8, 8, 8, 8, 8, 8, 8, 8, 8, 8, 8, 8, 8, 8, 8, 8, 8, 8, 8, 8, 8, 8, 8, 8, 8, 8, 8, 8, 8, 8, 8, 8, 8, 8, 8, 8, 8, 8, 8, 8, 8, 8, 8, 8, 8, 8, 8, 8, 8, 8, 8, 8, 8, 8, 8, 8, 8, 8, 8, 8, 8, 8, 8, 8, 8, 8, 8, 8, 8, 8])) v21_20) fun v22_21 => (k1 (mconvert E.P 5 3 v22_21) fun v23_22 => (k1 (mbin E .add 3 v18_19 v23_22) fun v24_23 => (fVal v24_23 fun v => some (.ret v, m)))))))) (k1 (mconvert E.P 125 5 v6_2) fun v21_24 => (k1 (mindex E.P 9 (.string (ByteArray.mk #[0, 1, 2, 2, 3, 3, 3, 3, 4, 4, 4, 4, 4, 4, 4, 4, 5, 5, 5, 5, 5, 5, 5, 5, 5, 5, 5, 5, 5, 5, 5, 5, 6, 6, 6, 6, 6, 6, 6, 6, 6, 6, 6, 6, 6, 6, 6, 6, 6, 6, 6, 6, 6, 6, 6, 6, 6, 6, 6, 6, 6, 6, 6, 6, 7, 7, 7, 7, 7, 7, 7, 7, 7, 7, 7, 7, 7, 7, 7, 7, 7, 7, 7, 7, 7, 7, 7, 7, 7, 7, 7, 7, 7, 7, 7, 7, 7, 7, 7, 7, 7, 7, 7, 7, 7, 7, 7, 7, 7, 7, 7, 7, 7, 7, 7, 7, 7, 7, 7, 7, 7, 7, 7, 7, 7, 7, 7, 7, 8, 8, 8, 8, 8, 8, 8, 8, 8, 8, 8, 8, 8, 8, 8, 8, 8, 8, 8, 8, 8, 8, 8, 8, 8, 8, 8, 8, 8, 8, 8, 8, 8, 8, 8, 8, 8, 8, 8, 8, 8, 8, 8, 8, 8, 8, 8, 8, 8, 8, 8, 8, 8, 8, 8, 8, 8, 8, 8, 8, 8, 8, 8, 8, 8, 8, 8, 8, 8, 8, 8, 8, 8, 8, 8, 8, 8, 8, 8, 8, 8, 8, 8, 8, 8, 8, 8, 8, 8, 8, 8, 8, 8, 8, 8, 8, 8, 8, 8, 8, 8, 8, 8, 8, 8, 8, 8, 8, 8, 8, 8, 8, 8, 8, 8, 8, 8, 8, 8, 8, 8, 8, 8, 8, 8, 8, 8, 8])) v21_24) fun v22_25 => (k1 (mconvert E.P 5 3 v22_25) fun v23_26 => (k1 (mbin E .add 3 (.int .i64 32) v23_26) fun v24_27 => (fVal v24_27 fun v => some (.ret v, m))))))))))) (k1 (mbin E .geq 125 x0 (.int .u64 65536)) fun v8_28 => (kb v8_28 (k1 (mbin E .shr 125 x0 (.int .u64 16)) fun v10_29 => (k1 (mbin E .add 3 (.int .i64 0) (.int .i64 16)) fun v12_30 => (k1 (mbin E .geq 125 v10_29 (.int .u64 256)) fun v14_31 => (kb v14_31 (k1 (mbin E .shr 125 v10_29 (.int .u64 8)) fun v16_32 => (k1 (mbin E .add 3 v12_30 (.int .i64 8)) fun v18_33 => (k1 (mconvert E.P 125 5 v16_32) fun v21_34 => (k1 (mindex E.P 9 (.string (ByteArray.mk #[0, 1, 2, 2, 3, 3, 3, 3, 4, 4, 4, 4, 4, 4, 4, 4, 5, 5, 5, 5, 5, 5, 5, 5, 5, 5, 5, 5, 5, 5, 5, 5, 6, 6, 6, 6, 6, 6, 6, 6, 6, 6, 6, 6, 6, 6, 6, 6, 6, 6, 6, 6, 6, 6, 6, 6, 6, 6, 6, 6, 6, 6, 6, 6, 7, 7, 7, 7, 7, 7, 7, 7, 7, 7, 7, 7, 7, 7, 7, 7, 7, 7, 7, 7, 7, 7, 7, 7, 7, 7, 7, 7, 7, 7, 7, 7, 7, 7, 7, 7, 7, 7, 7, 7, 7, 7, 7, 7, 7, 7, 7, 7, 7, 7, 7, 7, 7, 7, 7, 7, 7, 7, 7, 7, 7, 7, 7, 7, 8, 8, 8, 8, 8, 8, 8, 8, 8, 8, 8, 8, 8, 8, 8, 8, 8, 8, 8, 8, 8, 8, 8, 8, 8, 8, 8, 8, 8, 8, 8, 8, 8, 8, 8, 8, 8, 8, 8, 8, 8, 8, 8, 8, 8, 8, 8, 8, 8, 8, 8, 8, 8, 8, 8, 8, 8, 8, 8, 8, 8, 8, 8, 8, 8, 8, 8, 8, 8, 8, 8, 8, 8, 8, 8, 8, 8, 8, 8, 8, 8, 8, 8, 8, 8, 8, 8, 8, 8, 8, 8, 8, 8, 8, 8, 8, 8, 8, 8, 8, 8, 8, 8, 8, 8, 8, 8, 8, 8, 8, 8, 8, 8, 8, 8, 8, 8, 8, 8, 8, 8, 8, 8, 8, 8, 8, 8, 8])) v21_34) fun v22_35 => (k1 (mconvert E.P 5 3 v22_35) fun v23_36 => (k1 (mbin E .add 3 v18_33 v23_36) fun v24_37 => (fVal v24_37 fun v => some (.ret v, m)))))))) (k1 (mconvert E.P 125 5 v10_29) fun v21_38 => (k1 (mindex E.P 9 (.string (ByteArray.mk #[0, 1, 2, 2, 3, 3, 3, 3, 4, 4, 4, 4, 4, 4, 4, 4, 5, 5, 5, 5, 5, 5, 5, 5, 5, 5, 5, 5, 5, 5, 5, 5, 6, 6, 6, 6, 6, 6, 6, 6, 6, 6, 6, 6, 6, 6, 6, 6, 6, 6, 6, 6, 6, 6, 6, 6, 6, 6, 6, 6, 6, 6, 6, 6, 7, 7, 7, 7, 7, 7, 7, 7, 7, 7, 7, 7, 7, 7, 7, 7, 7, 7, 7, 7, 7, 7, 7, 7, 7, 7, 7, 7, 7, 7, 7, 7, 7, 7, 7, 7, 7, 7, 7, 7, 7, 7, 7, 7, 7, 7, 7, 7, 7, 7, 7, 7, 7, 7, 7, 7, 7, 7, 7, 7, 7, 7, 7, 7, 8, 8, 8, 8, 8, 8, 8, 8, 8, 8, 8, 8, 8, 8, 8, 8, 8, 8, 8, 8, 8, 8, 8, 8, 8, 8, 8, 8, 8, 8, 8, 8, 8, 8, 8, 8, 8, 8, 8, 8, 8, 8, 8, 8, 8, 8, 8, 8, 8, 8, 8, 8, 8, 8, 8, 8, 8, 8, 8, 8, 8, 8, 8, 8, 8, 8, 8, 8, 8, 8, 8, 8, 8, 8, 8, 8, 8, 8, 8, 8, 8, 8, 8, 8, 8, 8, 8, 8, 8, 8, 8, 8, 8, 8, 8, 8, 8, 8, 8, 8, 8, 8, 8, 8, 8, 8, 8, 8, 8, 8, 8, 8, 8, 8, 8, 8, 8, 8, 8, 8, 8, 8, 8, 8, 8, 8, 8, 8])) v21_38) fun v22_39 => (k1 (mconvert E.P 5 3 v22_39) fun v23_40 => (k1 (mbin E .add 3 v12_30 v23_40) fun v24_41 => (fVal v24_41 fun v => some (.ret v, m)))))))))) (k1 (mbin E .geq 125 x0 (.int .u64 256)) fun v14_42 => (kb v14_42 (k1 (mbin E .shr 125 x0 (.int .u64 8)) fun v16_43 => (k1 (mbin E .add 3 (.int .i64 0) (.int .i64 8)) fun v18_44 => (k1 (mconvert E.P 125 5 v16_43) fun v21_45 => (k1 (mindex E.P 9 (.string (ByteArray.mk #[0, 1, 2, 2, 3, 3, 3, 3, 4, 4, 4, 4, 4, 4, 4, 4, 5, 5, 5, 5, 5, 5, 5, 5, 5, 5, 5, 5, 5, 5, 5, 5, 6, 6, 6, 6, 6, 6, 6, 6, 6, 6, 6, 6, 6, 6, 6, 6, 6, 6, 6, 6, 6, 6, 6, 6, 6, 6, 6, 6, 6, 6, 6, 6, 7, 7, 7, 7, 7, 7, 7, 7, 7, 7, 7, 7, 7, 7, 7, 7, 7, 7, 7, 7, 7, 7, 7, 7, 7, 7, 7, 7, 7, 7, 7, 7, 7, 7, 7, 7, 7, 7, 7, 7, 7, 7, 7, 7, 7, 7, 7, 7, 7, 7, 7, 7, 7, 7, 7, 7, 7, 7, 7, 7, 7, 7, 7, 7, 8, 8, 8, 8, 8, 8, 8, 8, 8, 8, 8, 8, 8, 8, 8, 8, 8, 8, 8, 8, 8, 8, 8, 8, 8, 8, 8, 8, 8, 8, 8, 8, 8, 8, 8, 8, 8, 8, 8, 8, 8, 8, 8, 8, 8, 8, 8, 8, 8, 8, 8, 8, 8, 8, 8, 8, 8, 8, 8, 8, 8, 8, 8, 8, 8, 8, 8, 8, 8, 8, 8, 8, 8, 8, 8, 8, 8, 8, 8, 8, 8, 8, 8, 8, 8, 8, 8, 8, 8, 8, 8, 8, 8, 8, 8, 8, 8, 8, 8, 8, 8, 8, 8, 8, 8, 8, 8, 8, 8, 8, 8, 8, 8, 8, 8, 8, 8, 8, 8, 8, 8, 8, 8, 8, 8, 8, 8, 8])) v21_45) fun v22_46 => (k1 (mconvert E.P 5 3 v22_46) fun v23_47 => (k1 (mbin E .add 3 v18_44 v23_47) fun v24_48 => (fVal v24_48 fun v => some (.ret v, m)))))))) (k1 (mconvert E.P 125 5 x0) fun v21_49 => (k1 (mindex E.P 9 (.string (ByteArray.mk #[0, 1, 2, 2, 3, 3, 3, 3, 4, 4, 4, 4, 4, 4, 4, 4, 5, 5, 5, 5, 5, 5, 5, 5, 5, 5, 5, 5, 5, 5, 5, 5, 6, 6, 6, 6, 6, 6, 6, 6, 6, 6, 6, 6, 6, 6, 6, 6, 6, 6, 6, 6, 6, 6, 6, 6, 6, 6, 6, 6, 6, 6, 6, 6, 7, 7, 7, 7, 7, 7, 7, 7, 7, 7, 7, 7, 7, 7, 7, 7, 7, 7, 7, 7, 7, 7, 7, 7, 7, 7, 7, 7, 7, 7, 7, 7, 7, 7, 7, 7, 7, 7, 7, 7, 7, 7, 7, 7, 7, 7, 7, 7, 7, 7, 7, 7, 7, 7, 7, 7, 7, 7, 7, 7, 7, 7, 7, 7, 8, 8, 8, 8, 8, 8, 8, 8, 8, 8, 8, 8, 8, 8, 8, 8, 8, 8, 8, 8, 8, 8, 8, 8, 8, 8, 8, 8, 8, 8, 8, 8, 8, 8, 8, 8, 8, 8, 8, 8, 8, 8, 8, 8, 8, 8, 8, 8, 8, 8, 8, 8, 8, 8, 8, 8, 8, 8, 8, 8, 8, 8, 8, 8, 8, 8, 8, 8, 8, 8, 8, 8, 8, 8, 8, 8, 8, 8, 8, 8, 8, 8, 8, 8, 8, 8, 8, 8, 8, 8, 8, 8, 8, 8, 8, 8, 8, 8, 8, 8, 8, 8, 8, 8, 8, 8, 8, 8, 8, 8, 8, 8, 8, 8, 8, 8, 8, 8, 8, 8, 8, 8, 8, 8, 8, 8, 8, 8])) v21_49) fun v22_50 => (k1 (mconvert E.P 5 3 v22_50) fun v23_51 => (k1 (mbin E .add 3 (.int .i64 0) v23_51) fun v24_52 => (fVal v24_52 fun v => some (.ret v, m))))))))))))
def keep103 : Keep := { region := fun i => ([[0, 2], [0, 2, 4], [0], [0, 2], [0, 2, 8], [0, 2], [0, 2], [0, 2, 14], [0, 2], [0, 2], [2]] : List (List Nat))[i]?, exit := fun i => ([] : List (List Nat))[i]?, ret := some [2] }
noncomputable def lp103 (call : CallF) (fuel base : Nat) : Lp := lpsel []
noncomputable def c103 : Code := Try.f103.body.getD .skip
theorem r103_eq (call : CallF) (fuel base : Nat) (x0 : Value) (m : M) : kbody E call keep103 (lp103 call fuel base) base Try.f103 [x0] m = r103 call fuel base x0 m := by
  kernel_rfl
noncomputable def rf103 : RF := fun call fuel base args m => match args with
  | [x0] => r103 call fuel base x0 m
  | _ => none
theorem r103_lk (call : CallF) (fuel base : Nat) : LoopsOk E call (lp103 call fuel base) fuel base 0 c103 = (And True (And (And True (And (And True True) True)) (And (And True (And (And True True) True)) (And (And True (And (And True True) True)) (And True True))))) := by kernel_rfl
theorem r103_fn : E.P.funcs[103]? = some Try.f103 := by kernel_rfl
theorem r103_body : Try.f103.body = some c103 := by kernel_rfl
theorem rf103_ok : RFok E 103 rf103 := by
  refine ⟨Try.f103, r103_fn, fun call fuel base args m r _ h => ?_⟩
  unfold rf103 at h
  split at h
  · rw [← r103_eq] at h
    exact kbody_sound (c := c103) r103_body (Eq.mpr (r103_lk call fuel base) (And.intro trivial (And.intro (And.intro trivial (And.intro (And.intro trivial trivial) trivial)) (And.intro (And.intro trivial (And.intro (And.intro trivial trivial) trivial)) (And.intro (And.intro trivial (And.intro (And.intro trivial trivial) trivial)) (And.intro trivial trivial)))))) h
  · simp at h
end Go.AM
namespace Go.AM
open Go Go.Proofs
noncomputable def r104_L0 (call : CallF) (fuel base : Nat) (kr : M → Res2) (kx0 : M → Res2) (n : Nat) : Value → Value → Value → Value → Value → M → Res2 :=
  Nat.rec (motive := fun _ => Value → Value → Value → Value → Value → M → Res2) (fun _ _ _ _ _ _ => none)
    (fun _ ih x0 x2 x3 x4 x10 m =>
      (k1 (mbin E .mul 3 (.int .i64 2) x10) fun v14_1 => (k1 (mbin E .add 3 v14_1 (.int .i64 1)) fun v15_2 => (k1 (mbin E .geq 3 v15_2 x2) fun v18_3 => (kb v18_3 (kx0 m) (k1 (mbin E .add 3 v15_2 (.int .i64 1)) fun v20_4 => (k1 (mbin E .lss 3 v20_4 x2) fun v22_5 => (kb v22_5 (k1 (mbin E .add 3 x3 v15_2) fun v28_6 => (k1 (mindexAddr E.P 75 x0 v28_6) fun v29_7 => (k1 (xload E.P m 80 v29_7) fun v30_8 => (k1 (mbin E .add 3 x3 v15_2) fun v34_9 => (k1 (mbin E .add 3 v34_9 (.int .i64 1)) fun v35_10 => (k1 (mindexAddr E.P 75 x0 v35_10) fun v36_11 => (k1 (xload E.P m 80 v36_11) fun v37_12 => (kc (kB m (kv call m.length x4 [v30_8, v37_12] m)) (fun v38_13 m => (k1 (mbin E .lss 3 v38_13 (.int .i64 0)) fun v39_14 => (k0 (mpick (.bool true) v39_14 (.bool false)) fun v40_15 => (kb v40_15 (k1 (mbin E .add 3 v15_2 (.int .i64 1)) fun v42_16 => (k1 (mbin E .add 3 x3 x10) fun v47_17 => (k1 (mindexAddr E.P 75 x0 v47_17) fun v48_18 => (k1 (xload E.P m 80 v48_18) fun v49_19 => (k1 (mbin E .add 3 x3 v42_16) fun v53_20 => (k1 (mindexAddr E.P 75 x0 v53_20) fun v54_21 => (k1 (xload E.P m 80 v54_21) fun v55_22 => (kc (kB m (kv call m.length x4 [v49_19, v55_22] m)) (fun v56_23 m => (k1 (mbin E .lss 3 v56_23 (.int .i64 0)) fun v57_24 => (k1 (mun .not v57_24) fun v58_25 => (kb v58_25 (kr m) (k1 (mbin E .add 3 x3 x10) fun v62_26 => (k1 (mbin E .add 3 x3 v42_16) fun v66_27 => (k1 (mbin E .add 3 x3 v42_16) fun v70_28 => (k1 (mindexAddr E.P 75 x0 v70_28) fun v71_29 => (k1 (xload E.P m 80 v71_29) fun v72_30 => (k1 (mbin E .add 3 x3 x10) fun v76_31 => (k1 (mindexAddr E.P 75 x0 v76_31) fun v77_32 => (k1 (xload E.P m 80 v77_32) fun v78_33 => (k1 (mindexAddr E.P 75 x0 v62_26) fun v79_34 => (ks (xstore E.P base m 80 v79_34 v72_30) fun m => (k1 (mindexAddr E.P 75 x0 v66_27) fun v80_35 => (ks (xstore E.P base m 80 v80_35 v78_33) fun m => (ih x0 x2 x3 x4 v42_16 m))))))))))))))))) (fun _ _ => none))))))))) (k1 (mbin E .add 3 x3 x10) fun v47_36 => (k1 (mindexAddr E.P 75 x0 v47_36) fun v48_37 => (k1 (xload E.P m 80 v48_37) fun v49_38 => (k1 (mbin E .add 3 x3 v15_2) fun v53_39 => (k1 (mindexAddr E.P 75 x0 v53_39) fun v54_40 => (k1 (xload E.P m 80 v54_40) fun v55_41 => (kc (kB m (kv call m.length x4 [v49_38, v55_41] m)) (fun v56_42 m => (k1 (mbin E .lss 3 v56_42 (.int .i64 0)) fun v57_43 => (k1 (mun .not v57_43) fun v58_44 => (kb v58_44 (kr m) (k1 (mbin E .add 3 x3 x10) fun v62_45 => (k1 (mbin E .add 3 x3 v15_2) fun v66_46 => (k1 (mbin E .add 3 x3 v15_2) fun v70_47 => (k1 (mindexAddr E.P 75 x0 v70_47) fun v71_48 => (k1 (xload E.P m 80 v71_48) fun v72_49 => (k1 (mbin E .add 3 x3 x10) fun v76_50 => (k1 (mindexAddr E.P 75 x0 v76_50) fun v77_51 => (k1 (xload E.P m 80 v77_51) fun v78_52 => (k1 (mindexAddr E.P 75 x0 v62_45) fun v79_53 => (ks (xstore E.P base m 80 v79_53 v72_49) fun m => (k1 (mindexAddr E.P 75 x0 v66_46) fun v80_54 => (ks (xstore E.P base m 80 v80_54 v78_52) fun m => (ih x0 x2 x3 x4 v15_2 m))))))))))))))))) (fun _ _ => none)))))))))))) (fun _ _ => none))))))))) (k0 (mpick (.bool false) undef (.bool false)) fun v40_55 => (kb v40_55 (k1 (mbin E .add 3 v15_2 (.int .i64 1)) fun v42_56 => (k1 (mbin E .add 3 x3 x10) fun v47_57 => (k1 (mindexAddr E.P 75 x0 v47_57) fun v48_58 => (k1 (xload E.P m 80 v48_58) fun v49_59 => (k1 (mbin E .add 3 x3 v42_56) fun v53_60 => (k1 (mindexAddr E.P 75 x0 v53_60) fun v54_61 => (k1 (xload E.P m 80 v54_61) fun v55_62 => (kc (kB m (kv call m.length x4 [v49_59, v55_62] m)) (fun v56_63 m => (k1 (mbin E .lss 3 v56_63 (.int .i64 0)) fun v57_64 => (k1 (mun .not v57_64) fun v58_65 => (kb v58_65 (kr m) (k1 (mbin E .add 3 x3 x10) fun v62_66 => (k1 (mbin E .add 3 x3 v42_56) fun v66_67 => (k1 (mbin E .add 3 x3 v42_56) fun v70_68 => (k1 (mindexAddr E.P 75 x0 v70_68) fun v71_69 => (k1 (xload E.P m 80 v71_69) fun v72_70 => (k1 (mbin E .add 3 x3 x10) fun v76_71 => (k1 (mindexAddr E.P 75 x0 v76_71) fun v77_72 => (k1 (xload E.P m 80 v77_72) fun v78_73 => (k1 (mindexAddr E.P 75 x0 v62_66) fun v79_74 => (ks (xstore E.P base m 80 v79_74 v72_70) fun m => (k1 (mindexAddr E.P 75 x0 v66_67) fun v80_75 => (ks (xstore E.P base m 80 v80_75 v78_73) fun m => (ih x0 x2 x3 x4 v42_56 m))))))))))))))))) (fun _ _ => none))))))))) (k1 (mbin E .add 3 x3 x10) fun v47_76 => (k1 (mindexAddr E.P 75 x0 v47_76) fun v48_77 => (k1 (xload E.P m 80 v48_77) fun v49_78 => (k1 (mbin E .add 3 x3 v15_2) fun v53_79 => (k1 (mindexAddr E.P 75 x0 v53_79) fun v54_80 => (k1 (xload E.P m 80 v54_80) fun v55_81 => (kc (kB m (kv call m.length x4 [v49_78, v55_81] m)) (fun v56_82 m => (k1 (mbin E .lss 3 v56_82 (.int .i64 0)) fun v57_83 => (k1 (mun .not v57_83) fun v58_84 => (kb v58_84 (kr m) (k1 (mbin E .add 3 x3 x10) fun v62_85 => (k1 (mbin E .add 3 x3 v15_2) fun v66_86 => (k1 (mbin E .add 3 x3 v15_2) fun v70_87 => (k1 (mindexAddr E.P 75 x0 v70_87) fun v71_88 => (k1 (xload E.P m 80 v71_88) fun v72_89 => (k1 (mbin E .add 3 x3 x10) fun v76_90 => (k1 (mindexAddr E.P 75 x0 v76_90) fun v77_91 => (k1 (xload E.P m 80 v77_91) fun v78_92 => (k1 (mindexAddr E.P 75 x0 v62_85) fun v79_93 => (ks (xstore E.P base m 80 v79_93 v72_89) fun m => (k1 (mindexAddr E.P 75 x0 v66_86) fun v80_94 => (ks (xstore E.P base m 80 v80_94 v78_92) fun m => (ih x0 x2 x3 x4 v15_2 m))))))))))))))))) (fun _ _ => none)))))))))))))))))) n
noncomputable def r104 (call : CallF) (fuel base : Nat) (x0 : Value) (x1 : Value) (x2 : Value) (x3 : Value) (x4 : Value) (m : M) : Res2 :=
  (r104_L0 call fuel base (fun m => (some (.ret (.tuple #[]), m))) (fun m => (some (.ret (.tuple #[]), m))) fuel x0 x2 x3 x4 x1 m)
def keep104 : Keep := { region := fun i => ([[0, 2, 3, 4, 10], [0, 2, 3, 4, 10, 11], [0, 2, 3, 4, 10, 11, 18], [0, 2, 3, 4, 10, 11, 40], [0, 2, 3, 4, 10, 11], [0, 2, 3, 4, 10, 11, 58], [0, 2, 3, 4, 11], [0, 2, 3, 4, 10]] : List (List Nat))[i]?, exit := fun i => ([[], [0, 2, 3, 4, 10]] : List (List Nat))[i]?, ret := some [] }
noncomputable def r104_L0_R (call : CallF) (fuel base n : Nat) (vs : List Value) (m : M) (K : KT) : Res2 := match vs with
  | [x0, x2, x3, x4, x10] => r104_L0 call fuel base (fun m => K .ret { n := 82, l := [] } m) (fun m => K (.exit 0) { n := 82, l := [] } m) n x0 x2 x3 x4 x10 m
  | _ => none
noncomputable def lp104 (call : CallF) (fuel base : Nat) : Lp := lpsel [(0, fun T m K => kslots 82 [0, 2, 3, 4, 10] T fun vs => r104_L0_R call fuel base fuel vs m K)]
noncomputable def c104 : Code := Try.f104.body.getD .skip
theorem r104_L0_lk (call : CallF) (fuel base : Nat) : LoopsOk E call (lp104 call fuel base) fuel base 0 (loopB (blockB (seqR c104))) = (And True (And (And True (And True True)) (And (And True (And True True)) (And (And True (And True True)) (And True True))))) := by kernel_rfl
theorem r104_L0_ok (call : CallF) (fuel base : Nat) : LpOk E call (lp104 call fuel base) fuel base 0 (loopB (blockB (seqR c104))) := by
  refine loop_ok (kp := keep104) (hb := Eq.mpr (r104_L0_lk call fuel base) (And.intro trivial (And.intro (And.intro trivial (And.intro trivial trivial)) (And.intro (And.intro trivial (And.intro trivial trivial)) (And.intro (And.intro trivial (And.intro trivial trivial)) (And.intro trivial trivial)))))) 82 [0, 2, 3, 4, 10] (fun n vs m K => r104_L0_R call fuel base n vs m K) ?_ ?_ (fun _ _ _ => rfl)
  · intro vs m K
    unfold r104_L0_R
    split <;> rfl
  · intro n vs m K hl
    match vs, hl with
    | [x0, x2, x3, x4, x10], _ => show _ = _; kernel_rfl
theorem r104_eq (call : CallF) (fuel base : Nat) (x0 : Value) (x1 : Value) (x2 : Value) (x3 : Value) (x4 : Value) (m : M) : kbody E call keep104 (lp104 call fuel base) base Try.f104 [x0, x1, x2, x3, x4] m = r104 call fuel base x0 x1 x2 x3 x4 m := by
  kernel_rfl
noncomputable def rf104 : RF := fun call fuel base args m => match args with
  | [x0, x1, x2, x3, x4] => r104 call fuel base x0 x1 x2 x3 x4 m
  | _ => none
theorem r104_lk (call : CallF) (fuel base : Nat) : LoopsOk E call (lp104 call fuel base) fuel base 0 c104 = (And True (LpOk E call (lp104 call fuel base) fuel base 0 (loopB (blockB (seqR c104))))) := by kernel_rfl
theorem r104_fn : E.P.funcs[104]? = some Try.f104 := by kernel_rfl
theorem r104_body : Try.f104.body = some c104 := by kernel_rfl
theorem rf104_ok : RFok E 104 rf104 := by
  refine ⟨Try.f104, r104_fn, fun call fuel base args m r _ h => ?_⟩
  unfold rf104 at h
  split at h
  · rw [← r104_eq] at h
    exact kbody_sound (c := c104) r104_body (Eq.mpr (r104_lk call fuel base) (And.intro trivial (r104_L0_ok call fuel base))) h
  · simp at h
end Go.AM
namespace Go.AM
open Go Go.Proofs
noncomputable def r105 (call : CallF) (fuel base : Nat) (x0 : Value) (m : M) : Res2 :=
  (k1 (mconvert E.P 3 112 x0) fun v4_1 => (kc (call base 87 [v4_1] m) (fun v5_2 m => (k1 (mbin E .shl 112 (.int .u64 1) v5_2) fun v6_3 => (fVal v6_3 fun v => some (.ret v, m)))) (fun v m => some (.pan v, m))))
def keep105 : Keep := { region := fun i => ([[0], [2]] : List (List Nat))[i]?, exit := fun i => ([] : List (List Nat))[i]?, ret := some [2] }
noncomputable def lp105 (call : CallF) (fuel base : Nat) : Lp := lpsel []
noncomputable def c105 : Code := Try.f105.body.getD .skip
theorem r105_eq (call : CallF) (fuel base : Nat) (x0 : Value) (m : M) : kbody E call keep105 (lp105 call fuel base) base Try.f105 [x0] m = r105 call fuel base x0 m := by
  kernel_rfl
noncomputable def rf105 : RF := fun call fuel base args m => match args with
  | [x0] => r105 call fuel base x0 m
  | _ => none
theorem r105_lk (call : CallF) (fuel base : Nat) : LoopsOk E call (lp105 call fuel base) fuel base 0 c105 = (And True (And True True)) := by kernel_rfl
theorem r105_fn : E.P.funcs[105]? = some Try.f105 := by kernel_rfl
theorem r105_body : Try.f105.body = some c105 := by kernel_rfl
theorem rf105_ok : RFok E 105 rf105 := by
  refine ⟨Try.f105, r105_fn, fun call fuel base args m r _ h => ?_⟩
  unfold rf105 at h
  split at h
  · rw [← r105_eq] at h
    exact kbody_sound (c := c105) r105_body (Eq.mpr (r105_lk call fuel base) (And.intro trivial (And.intro trivial trivial))) h
  · simp at h
end Go.AM
namespace Go.AM
open Go Go.Proofs
noncomputable def r106 (call : CallF) (fuel base : Nat) (x0 : Value) (m : M) : Res2 :=
  (k1 (mnil x0) fun v4_1 => (k1 (xload E.P m 126 v4_1) fun v5_2 => (k1 (mnil x0) fun v7_3 => (k1 (xload E.P m 126 v7_3) fun v8_4 => (k1 (mbin E .shl 126 v8_4 (.int .u64 13)) fun v9_5 => (k1 (mbin E .xor 126 v5_2 v9_5) fun v10_6 => (k1 (mnil x0) fun v11_7 => (ks (xstore E.P base m 126 v11_7 v10_6) fun m => (k1 (mnil x0) fun v13_8 => (k1 (xload E.P m 126 v13_8) fun v14_9 => (k1 (mnil x0) fun v16_10 => (k1 (xload E.P m 126 v16_10) fun v17_11 => (k1 (mbin E .shr 126 v17_11 (.int .u64 7)) fun v18_12 => (k1 (mbin E .xor 126 v14_9 v18_12) fun v19_13 => (k1 (mnil x0) fun v20_14 => (ks (xstore E.P base m 126 v20_14 v19_13) fun m => (k1 (mnil x0) fun v22_15 => (k1 (xload E.P m 126 v22_15) fun v23_16 => (k1 (mnil x0) fun v25_17 => (k1 (xload E.P m 126 v25_17) fun v26_18 => (k1 (mbin E .shl 126 v26_18 (.int .u64 17)) fun v27_19 => (k1 (mbin E .xor 126 v23_16 v27_19) fun v28_20 => (k1 (mnil x0) fun v29_21 => (ks (xstore E.P base m 126 v29_21 v28_20) fun m => (k1 (mnil x0) fun v31_22 => (k1 (xload E.P m 126 v31_22) fun v32_23 => (fVal v32_23 fun v => some (.ret v, m))))))))))))))))))))))))))))
def keep106 : Keep := { region := fun i => ([[0], [0], [0], [0], [2]] : List (List Nat))[i]?, exit := fun i => ([] : List (List Nat))[i]?, ret := some [2] }
noncomputable def lp106 (call : CallF) (fuel base : Nat) : Lp := lpsel []
noncomputable def c106 : Code := Try.f106.body.getD .skip
theorem r106_eq (call : CallF) (fuel base : Nat) (x0 : Value) (m : M) : kbody E call keep106 (lp106 call fuel base) base Try.f106 [x0] m = r106 call fuel base x0 m := by
  kernel_rfl
noncomputable def rf106 : RF := fun call fuel base args m => match args with
  | [x0] => r106 call fuel base x0 m
  | _ => none
theorem r106_lk (call : CallF) (fuel base : Nat) : LoopsOk E call (lp106 call fuel base) fuel base 0 c106 = (And True (And True (And True (And True (And True True))))) := by kernel_rfl
theorem r106_fn : E.P.funcs[106]? = some Try.f106 := by kernel_rfl
theorem r106_body : Try.f106.body = some c106 := by kernel_rfl
theorem rf106_ok : RFok E 106 rf106 := by
  refine ⟨Try.f106, r106_fn, fun call fuel base args m r _ h => ?_⟩
  unfold rf106 at h
  split at h
  · rw [← r106_eq] at h
    exact kbody_sound (c := c106) r106_body (Eq.mpr (r106_lk call fuel base) (And.intro trivial (And.intro trivial (And.intro trivial (And.intro trivial (And.intro trivial trivial)))))) h
  · simp at h
end Go.AM
