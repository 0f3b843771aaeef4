import Derived.KernelRfl
import Derived.Laws.StructEq
import Derived.Test.YtdneekidlmgpfaaRows
import Derived.WalkKit
import Derived.Test.YtdneekidlmgpfaaAmModel
import Derived.Test.YtdneekidlmgpfaaAmOps5
import Derived.Test.YtdneekidlmgpfaaAmOps6
import Derived.Test.YtdneekidlmgpfaaAmCode
import Derived.Test.YtdneekidlmgpfaaAmDraw5
import Derived.Test.YtdneekidlmgpfaaAmEq
import Derived.Test.YtdneekidlmgpfaaRBase
set_option linter.unusedVariables false
set_option linter.unusedSimpArgs false
set_option linter.unusedSectionVars false
namespace Go.AM
open Go Go.Proofs
noncomputable def r50 (call : CallF) (fuel base : Nat) (x0 : Value) (x1 : Value) (m : M) : Res2 :=
  (k2 (xalloc E.P m 38) fun v4_1 m => (k1 (mbin E .eql 3 x1 (.int .i64 0)) fun v8_2 => (kb v8_2 (k1 (mbuild E.P 38 []) fun v9_3 => (ks (xstore E.P base m 38 v4_1 v9_3) fun m => (k0 (mload E.P m 38 v4_1) fun r_4 => (some (.ret (.tuple #[r_4, (.int .i64 10)]), m))))) (kc (call base 72 [x0, x1] m) (fun v12_5 m => (k1 (mbin E .quo 3 x0 v12_5) fun v15_6 => (k1 (mbin E .quo 3 x1 v12_5) fun v18_7 => (k1 (mbuild E.P 38 [(0, v15_6), (1, v18_7)]) fun v19_8 => (ks (xstore E.P base m 38 v4_1 v19_8) fun m => (k0 (mload E.P m 38 v4_1) fun r_9 => (some (.ret (.tuple #[r_9, (.int .i64 0)]), m)))))))) (fun v m => some (.pan v, m))))))
def keep50 : Keep := { region := fun i => ([[0, 1, 4], [0, 1, 4, 8], [4, 5], [0, 1, 4, 6], [4, 5]] : List (List Nat))[i]?, exit := fun i => ([] : List (List Nat))[i]?, ret := some [4, 5] }
noncomputable def lp50 (call : CallF) (fuel base : Nat) : Lp := lpsel []
noncomputable def c50 : Code := Try.f50.body.getD .skip
theorem r50_eq (call : CallF) (fuel base : Nat) (x0 : Value) (x1 : Value) (m : M) : kbody E call keep50 (lp50 call fuel base) base Try.f50 [x0, x1] m = r50 call fuel base x0 x1 m := by
  kernel_rfl
noncomputable def rf50 : RF := fun call fuel base args m => match args with
  | [x0, x1] => r50 call fuel base x0 x1 m
  | _ => none
theorem r50_lk (call : CallF) (fuel base : Nat) : LoopsOk E call (lp50 call fuel base) fuel base 0 c50 = (And True (And (And True (And (And True True) True)) (And True (And True True)))) := by kernel_rfl
theorem r50_fn : E.P.funcs[50]? = some Try.f50 := by kernel_rfl
theorem r50_body : Try.f50.body = some c50 := by kernel_rfl
theorem rf50_ok : RFok E 50 rf50 := by
  refine ⟨Try.f50, r50_fn, fun call fuel base args m r _ h => ?_⟩
  unfold rf50 at h
  split at h
  · rw [← r50_eq] at h
    exact kbody_sound (c := c50) r50_body (Eq.mpr (r50_lk call fuel base) (And.intro trivial (And.intro (And.intro trivial (And.intro (And.intro trivial trivial) trivial)) (And.intro trivial (And.intro trivial trivial))))) h
  · simp at h
end Go.AM
namespace Go.AM
open Go Go.Proofs
noncomputable def r52 (call : CallF) (fuel base : Nat) (x0 : Value) (x1 : Value) (m : M) : Res2 :=
  (k1 (mbin E .leq 3 (.int .i64 1) x0) fun v6_1 => (kb v6_1 (k1 (mbin E .leq 3 x0 (.int .i64 1000)) fun v9_2 => (k0 (mpick (.bool true) v9_2 (.bool false)) fun v10_3 => (kb v10_3 (k1 (mbin E .leq 3 (.int .i64 1) x1) fun v13_4 => (k0 (mpick (.bool true) v13_4 (.bool false)) fun v14_5 => (kb v14_5 (k1 (mbin E .leq 3 x1 (.int .i64 1000)) fun v17_6 => (k0 (mpick (.bool true) v17_6 (.bool false)) fun v18_7 => (fVal v18_7 fun v => some (.ret v, m)))) (k0 (mpick (.bool false) undef (.bool false)) fun v18_8 => (fVal v18_8 fun v => some (.ret v, m)))))) (k0 (mpick (.bool false) undef (.bool false)) fun v14_9 => (kb v14_9 (k1 (mbin E .leq 3 x1 (.int .i64 1000)) fun v17_10 => (k0 (mpick (.bool true) v17_10 (.bool false)) fun v18_11 => (fVal v18_11 fun v => some (.ret v, m)))) (k0 (mpick (.bool false) undef (.bool false)) fun v18_12 => (fVal v18_12 fun v => some (.ret v, m)))))))) (k0 (mpick (.bool false) undef (.bool false)) fun v10_13 => (kb v10_13 (k1 (mbin E .leq 3 (.int .i64 1) x1) fun v13_14 => (k0 (mpick (.bool true) v13_14 (.bool false)) fun v14_15 => (kb v14_15 (k1 (mbin E .leq 3 x1 (.int .i64 1000)) fun v17_16 => (k0 (mpick (.bool true) v17_16 (.bool false)) fun v18_17 => (fVal v18_17 fun v => some (.ret v, m)))) (k0 (mpick (.bool false) undef (.bool false)) fun v18_18 => (fVal v18_18 fun v => some (.ret v, m)))))) (k0 (mpick (.bool false) undef (.bool false)) fun v14_19 => (kb v14_19 (k1 (mbin E .leq 3 x1 (.int .i64 1000)) fun v17_20 => (k0 (mpick (.bool true) v17_20 (.bool false)) fun v18_21 => (fVal v18_21 fun v => some (.ret v, m)))) (k0 (mpick (.bool false) undef (.bool false)) fun v18_22 => (fVal v18_22 fun v => some (.ret v, m)))))))))
def keep52 : Keep := { region := fun i => ([[0, 1], [4]] : List (List Nat))[i]?, exit := fun i => ([] : List (List Nat))[i]?, ret := some [4] }
noncomputable def lp52 (call : CallF) (fuel base : Nat) : Lp := lpsel []
noncomputable def c52 : Code := Try.f52.body.getD .skip
theorem r52_eq (call : CallF) (fuel base : Nat) (x0 : Value) (x1 : Value) (m : M) : kbody E call keep52 (lp52 call fuel base) base Try.f52 [x0, x1] m = r52 call fuel base x0 x1 m := by
  kernel_rfl
noncomputable def rf52 : RF := fun call fuel base args m => match args with
  | [x0, x1] => r52 call fuel base x0 x1 m
  | _ => none
theorem r52_lk (call : CallF) (fuel base : Nat) : LoopsOk E call (lp52 call fuel base) fuel base 0 c52 = (And True (And True True)) := by kernel_rfl
theorem r52_fn : E.P.funcs[52]? = some Try.f52 := by kernel_rfl
theorem r52_body : Try.f52.body = some c52 := by kernel_rfl
theorem rf52_ok : RFok E 52 rf52 := by
  refine ⟨Try.f52, r52_fn, fun call fuel base args m r _ h => ?_⟩
  unfold rf52 at h
  split at h
  · rw [← r52_eq] at h
    exact kbody_sound (c := c52) r52_body (Eq.mpr (r52_lk call fuel base) (And.intro trivial (And.intro trivial trivial))) h
  · simp at h
end Go.AM
namespace Go.AM
open Go Go.Proofs
noncomputable def r53_L2 (call : CallF) (fuel base : Nat) (kp : Value → M → Res2) (kr : Value → M → Res2) (kx2 : Value → Value → Value → Value → Value → Value → Value → Value → M → Res2) (n : Nat) : Value → Value → Value → Value → Value → Value → Value → Value → Value → Value → Value → M → Res2 :=
  Nat.rec (motive := fun _ => Value → Value → Value → Value → Value → Value → Value → Value → Value → Value → Value → M → Res2) (fun _ _ _ _ _ _ _ _ _ _ _ _ => none)
    (fun _ ih x0 x1 x2 x7 x9 x12 x13 x14 x26 x27 x28 m =>
      (k1 (mbin E .lss 3 x28 x27) fun v29_11 => (kb v29_11 (k1 (mindexAddr E.P 43 x26 x28) fun v30_12 => (k1 (xload E.P m 62 v30_12) fun v31_13 => (k2 (xalloc E.P m 62) fun v11_14 m => (ks (xstore E.P base m 62 v11_14 v31_13) fun m => (k1 (xload E.P m 62 v11_14) fun v32_15 => (k1 (xload E.P m 62 x9) fun v33_16 => (kc (call base 75 [v32_15, v33_16] m) (fun v34_17 m => (kb v34_17 (kr (.bool false) m) (k1 (mbin E .add 3 x28 (.int .i64 1)) fun v35_18 => (ih x0 x1 x2 x7 x9 x12 x13 x14 x26 x27 v35_18 m)))) (fun v m => kp v m)))))))) (kx2 x0 x1 x2 x7 x9 x12 x13 x14 m)))) n
noncomputable def r53_L0 (call : CallF) (fuel base : Nat) (kp : Value → M → Res2) (kr : Value → M → Res2) (kx0 : Value → Value → Value → M → Res2) (n : Nat) : Value → Value → Value → Value → Value → Value → Value → M → Res2 :=
  Nat.rec (motive := fun _ => Value → Value → Value → Value → Value → Value → Value → M → Res2) (fun _ _ _ _ _ _ _ _ => none)
    (fun _ ih x0 x1 x2 x7 x12 x13 x14 m =>
      (k1 (mbin E .lss 3 x14 x13) fun v15_2 => (kb v15_2 (k1 (mindexAddr E.P 43 x12 x14) fun v17_3 => (k1 (xload E.P m 62 v17_3) fun v18_4 => (k2 (xalloc E.P m 62) fun v9_5 m => (ks (xstore E.P base m 62 v9_5 v18_4) fun m => (k1 (xload E.P m 62 v9_5) fun v21_6 => (kc (call base 74 [x0, x1, v21_6] m) (fun v22_7 m => (k1 (mun .not v22_7) fun v23_8 => (kb v23_8 (kr (.bool false) m) (k1 (mslice E.P m 43 x2 none (some x14) none) fun v26_9 => (k2 (vcall E.P base m .len [43] [v26_9]) fun v27_10 m => (r53_L2 call fuel base (fun v m => kp v m) (fun y6_19 m => (kr y6_19 m)) (fun y0_20 y1_21 y2_22 y7_23 y9_24 y12_25 y13_26 y14_27 m => (k1 (mfieldAddr E.P 62 y9_24 2) fun v37_28 => (k1 (xload E.P m 3 v37_28) fun v38_29 => (k1 (mfieldAddr E.P 62 y9_24 2) fun v39_30 => (k1 (xload E.P m 3 v39_30) fun v40_31 => (k1 (mbin E .mul 3 v38_29 v40_31) fun v41_32 => (k1 (mbin E .add 3 y7_23 v41_32) fun v42_33 => (k1 (mbin E .add 3 y14_27 (.int .i64 1)) fun v43_34 => (ih y0_20 y1_21 y2_22 v42_33 y12_25 y13_26 v43_34 m))))))))) fuel x0 x1 x2 x7 v9_5 x12 x13 x14 v26_9 v27_10 (.int .i64 0) m)))))) (fun v m => kp v m))))))) (kx0 x0 x1 x7 m)))) n
noncomputable def r53 (call : CallF) (fuel base : Nat) (x0 : Value) (x1 : Value) (x2 : Value) (m : M) : Res2 :=
  (k2 (vcall E.P base m .len [43] [x2]) fun v13_1 m => (r53_L0 call fuel base (fun v m => some (.pan v, m)) (fun y6_35 m => (fVal y6_35 fun v => some (.ret v, m))) (fun y0_36 y1_37 y7_38 m => (k1 (mbin E .mul 3 y0_36 y1_37) fun v47_39 => (k1 (mbin E .eql 3 y7_38 v47_39) fun v48_40 => (fVal v48_40 fun v => some (.ret v, m))))) fuel x0 x1 x2 (.int .i64 0) x2 v13_1 (.int .i64 0) m))
def keep53 : Keep := { region := fun i => ([[0, 1, 2], [0, 1, 2, 7], [0, 1, 2, 7, 12, 13, 14], [0, 1, 2, 7, 12, 13, 14, 15], [0, 1, 2, 7, 8, 9, 12, 13, 14], [0, 1, 2, 7, 8, 9, 12, 13, 14, 23], [6], [0, 1, 2, 7, 9, 12, 13, 14, 26, 27, 28], [0, 1, 2, 7, 9, 12, 13, 14, 26, 27, 28, 29], [0, 1, 2, 7, 9, 11, 12, 13, 14, 26, 27, 28], [0, 1, 2, 7, 9, 12, 13, 14, 26, 27, 28, 34], [6], [0, 1, 2, 7, 9, 12, 13, 14, 26, 27, 28], [0, 1, 2, 7, 12, 13, 14], [0, 1, 2, 7, 12, 13, 14], [6]] : List (List Nat))[i]?, exit := fun i => ([[0, 1, 7], [0, 1, 2, 7, 12, 13, 14], [0, 1, 2, 7, 9, 12, 13, 14], [0, 1, 2, 7, 9, 12, 13, 14, 26, 27, 28]] : List (List Nat))[i]?, ret := some [6] }
noncomputable def r53_L2_R (call : CallF) (fuel base n : Nat) (vs : List Value) (m : M) (K : KT) : Res2 := match vs with
  | [x0, x1, x2, x7, x9, x12, x13, x14, x26, x27, x28] => r53_L2 call fuel base (fun v m => K (.pan v) { n := 49, l := [] } m) (fun y6 m => K .ret { n := 49, l := [(6, y6)] } m) (fun y0 y1 y2 y7 y9 y12 y13 y14 m => K (.exit 2) { n := 49, l := [(0, y0), (1, y1), (2, y2), (7, y7), (9, y9), (12, y12), (13, y13), (14, y14)] } m) n x0 x1 x2 x7 x9 x12 x13 x14 x26 x27 x28 m
  | _ => none
noncomputable def r53_L0_R (call : CallF) (fuel base n : Nat) (vs : List Value) (m : M) (K : KT) : Res2 := match vs with
  | [x0, x1, x2, x7, x12, x13, x14] => r53_L0 call fuel base (fun v m => K (.pan v) { n := 49, l := [] } m) (fun y6 m => K .ret { n := 49, l := [(6, y6)] } m) (fun y0 y1 y7 m => K (.exit 0) { n := 49, l := [(0, y0), (1, y1), (7, y7)] } m) n x0 x1 x2 x7 x12 x13 x14 m
  | _ => none
noncomputable def lp53 (call : CallF) (fuel base : Nat) : Lp := lpsel [(2, fun T m K => kslots 49 [0, 1, 2, 7, 9, 12, 13, 14, 26, 27, 28] T fun vs => r53_L2_R call fuel base fuel vs m K), (0, fun T m K => kslots 49 [0, 1, 2, 7, 12, 13, 14] T fun vs => r53_L0_R call fuel base fuel vs m K)]
noncomputable def c53 : Code := Try.f53.body.getD .skip
theorem r53_L2_lk (call : CallF) (fuel base : Nat) : LoopsOk E call (lp53 call fuel base) fuel base 2 (loopB (blockB (seqR (seqL (seqR (seqR (blockB (seqL (seqR (seqR (loopB (blockB (seqR (seqL (seqR (seqR c53)))))))))))))))) = (And True (And (And True True) (And (And True (And True (And (And True True) True))) True))) := by kernel_rfl
theorem r53_L2_ok (call : CallF) (fuel base : Nat) : LpOk E call (lp53 call fuel base) fuel base 2 (loopB (blockB (seqR (seqL (seqR (seqR (blockB (seqL (seqR (seqR (loopB (blockB (seqR (seqL (seqR (seqR c53)))))))))))))))) := by
  refine loop_ok (kp := keep53) (hb := Eq.mpr (r53_L2_lk call fuel base) (And.intro trivial (And.intro (And.intro trivial trivial) (And.intro (And.intro trivial (And.intro trivial (And.intro (And.intro trivial trivial) trivial))) trivial)))) 49 [0, 1, 2, 7, 9, 12, 13, 14, 26, 27, 28] (fun n vs m K => r53_L2_R call fuel base n vs m K) ?_ ?_ (fun _ _ _ => rfl)
  · intro vs m K
    unfold r53_L2_R
    split <;> rfl
  · intro n vs m K hl
    match vs, hl with
    | [x0, x1, x2, x7, x9, x12, x13, x14, x26, x27, x28], _ => show _ = _; kernel_rfl
theorem r53_L0_lk (call : CallF) (fuel base : Nat) : LoopsOk E call (lp53 call fuel base) fuel base 0 (loopB (blockB (seqR (seqL (seqR (seqR c53)))))) = (And True (And (And True True) (And (And True (And (And True (And (And True True) True)) (And (And True (LpOk E call (lp53 call fuel base) fuel base 2 (loopB (blockB (seqR (seqL (seqR (seqR (blockB (seqL (seqR (seqR (loopB (blockB (seqR (seqL (seqR (seqR c53)))))))))))))))))) True))) True))) := by kernel_rfl
theorem r53_L0_ok (call : CallF) (fuel base : Nat) : LpOk E call (lp53 call fuel base) fuel base 0 (loopB (blockB (seqR (seqL (seqR (seqR c53)))))) := by
  refine loop_ok (kp := keep53) (hb := Eq.mpr (r53_L0_lk call fuel base) (And.intro trivial (And.intro (And.intro trivial trivial) (And.intro (And.intro trivial (And.intro (And.intro trivial (And.intro (And.intro trivial trivial) trivial)) (And.intro (And.intro trivial (r53_L2_ok call fuel base)) trivial))) trivial)))) 49 [0, 1, 2, 7, 12, 13, 14] (fun n vs m K => r53_L0_R call fuel base n vs m K) ?_ ?_ (fun _ _ _ => rfl)
  · intro vs m K
    unfold r53_L0_R
    split <;> rfl
  · intro n vs m K hl
    match vs, hl with
    | [x0, x1, x2, x7, x12, x13, x14], _ => show _ = _; kernel_rfl
theorem r53_eq (call : CallF) (fuel base : Nat) (x0 : Value) (x1 : Value) (x2 : Value) (m : M) : kbody E call keep53 (lp53 call fuel base) base Try.f53 [x0, x1, x2] m = r53 call fuel base x0 x1 x2 m := by
  kernel_rfl
noncomputable def rf53 : RF := fun call fuel base args m => match args with
  | [x0, x1, x2] => r53 call fuel base x0 x1 x2 m
  | _ => none
theorem r53_lk (call : CallF) (fuel base : Nat) : LoopsOk E call (lp53 call fuel base) fuel base 0 c53 = (And True (And True (And (And True (LpOk E call (lp53 call fuel base) fuel base 0 (loopB (blockB (seqR (seqL (seqR (seqR c53)))))))) (And True True)))) := by kernel_rfl
theorem r53_fn : E.P.funcs[53]? = some Try.f53 := by kernel_rfl
theorem r53_body : Try.f53.body = some c53 := by kernel_rfl
theorem rf53_ok : RFok E 53 rf53 := by
  refine ⟨Try.f53, r53_fn, fun call fuel base args m r _ h => ?_⟩
  unfold rf53 at h
  split at h
  · rw [← r53_eq] at h
    exact kbody_sound (c := c53) r53_body (Eq.mpr (r53_lk call fuel base) (And.intro trivial (And.intro trivial (And.intro (And.intro trivial (r53_L0_ok call fuel base)) (And.intro trivial trivial))))) h
  · simp at h
end Go.AM
namespace Go.AM
open Go Go.Proofs
noncomputable def r54 (call : CallF) (fuel base : Nat) (x0 : Value) (x1 : Value) (m : M) : Res2 :=
  (k1 (mbin E .geq 3 x0 (.int .i64 1)) fun v6_1 => (kb v6_1 (k1 (mbin E .leq 3 x0 (.int .i64 1000)) fun v9_2 => (k0 (mpick (.bool true) v9_2 (.bool false)) fun v10_3 => (kb v10_3 (k1 (mbin E .geq 3 x1 (.int .i64 1)) fun v13_4 => (k0 (mpick (.bool true) v13_4 (.bool false)) fun v14_5 => (kb v14_5 (k1 (mbin E .leq 3 x1 (.int .i64 1000)) fun v17_6 => (k0 (mpick (.bool true) v17_6 (.bool false)) fun v18_7 => (fVal v18_7 fun v => some (.ret v, m)))) (k0 (mpick (.bool false) undef (.bool false)) fun v18_8 => (fVal v18_8 fun v => some (.ret v, m)))))) (k0 (mpick (.bool false) undef (.bool false)) fun v14_9 => (kb v14_9 (k1 (mbin E .leq 3 x1 (.int .i64 1000)) fun v17_10 => (k0 (mpick (.bool true) v17_10 (.bool false)) fun v18_11 => (fVal v18_11 fun v => some (.ret v, m)))) (k0 (mpick (.bool false) undef (.bool false)) fun v18_12 => (fVal v18_12 fun v => some (.ret v, m)))))))) (k0 (mpick (.bool false) undef (.bool false)) fun v10_13 => (kb v10_13 (k1 (mbin E .geq 3 x1 (.int .i64 1)) fun v13_14 => (k0 (mpick (.bool true) v13_14 (.bool false)) fun v14_15 => (kb v14_15 (k1 (mbin E .leq 3 x1 (.int .i64 1000)) fun v17_16 => (k0 (mpick (.bool true) v17_16 (.bool false)) fun v18_17 => (fVal v18_17 fun v => some (.ret v, m)))) (k0 (mpick (.bool false) undef (.bool false)) fun v18_18 => (fVal v18_18 fun v => some (.ret v, m)))))) (k0 (mpick (.bool false) undef (.bool false)) fun v14_19 => (kb v14_19 (k1 (mbin E .leq 3 x1 (.int .i64 1000)) fun v17_20 => (k0 (mpick (.bool true) v17_20 (.bool false)) fun v18_21 => (fVal v18_21 fun v => some (.ret v, m)))) (k0 (mpick (.bool false) undef (.bool false)) fun v18_22 => (fVal v18_22 fun v => some (.ret v, m)))))))))
def keep54 : Keep := { region := fun i => ([[0, 1], [4]] : List (List Nat))[i]?, exit := fun i => ([] : List (List Nat))[i]?, ret := some [4] }
noncomputable def lp54 (call : CallF) (fuel base : Nat) : Lp := lpsel []
noncomputable def c54 : Code := Try.f54.body.getD .skip
theorem r54_eq (call : CallF) (fuel base : Nat) (x0 : Value) (x1 : Value) (m : M) : kbody E call keep54 (lp54 call fuel base) base Try.f54 [x0, x1] m = r54 call fuel base x0 x1 m := by
  kernel_rfl
noncomputable def rf54 : RF := fun call fuel base args m => match args with
  | [x0, x1] => r54 call fuel base x0 x1 m
  | _ => none
theorem r54_lk (call : CallF) (fuel base : Nat) : LoopsOk E call (lp54 call fuel base) fuel base 0 c54 = (And True (And True True)) := by kernel_rfl
theorem r54_fn : E.P.funcs[54]? = some Try.f54 := by kernel_rfl
theorem r54_body : Try.f54.body = some c54 := by kernel_rfl
theorem rf54_ok : RFok E 54 rf54 := by
  refine ⟨Try.f54, r54_fn, fun call fuel base args m r _ h => ?_⟩
  unfold rf54 at h
  split at h
  · rw [← r54_eq] at h
    exact kbody_sound (c := c54) r54_body (Eq.mpr (r54_lk call fuel base) (And.intro trivial (And.intro trivial trivial))) h
  · simp at h
end Go.AM
namespace Go.AM
open Go Go.Proofs
noncomputable def r56_L0 (call : CallF) (fuel base : Nat) (kx0 : Value → M → Res2) (n : Nat) : Value → Value → Value → Value → M → Res2 :=
  Nat.rec (motive := fun _ => Value → Value → Value → Value → M → Res2) (fun _ _ _ _ _ => none)
    (fun _ ih x3 x6 x7 x8 m =>
      (k1 (mbin E .lss 3 x8 x7) fun v9_2 => (kb v9_2 (k1 (mindexAddr E.P 43 x6 x8) fun v10_3 => (k1 (xload E.P m 62 v10_3) fun v11_4 => (k2 (xalloc E.P m 62) fun v5_5 m => (ks (xstore E.P base m 62 v5_5 v11_4) fun m => (k1 (xload E.P m 62 v5_5) fun v13_6 => (kc (kB m (call m.length 60 [v13_6] m)) (fun v14_7 m => (k1 (xload E.P m 62 v5_5) fun v15_8 => (kc (kB m (call m.length 61 [v15_8] m)) (fun v16_9 m => (k2 (xbuildSlice E.P m 75 2 [(0, v14_7), (1, v16_9)]) fun v17_10 m => (k2 (vcall E.P base m .append [75, 75] [x3, v17_10]) fun v18_11 m => (k1 (mbin E .add 3 x8 (.int .i64 1)) fun v19_12 => (ih v18_11 x6 x7 v19_12 m))))) (fun _ _ => none)))) (fun _ _ => none))))))) (kx0 x3 m)))) n
noncomputable def r56 (call : CallF) (fuel base : Nat) (x0 : Value) (m : M) : Res2 :=
  (k2 (vcall E.P base m .len [43] [x0]) fun v7_1 m => (r56_L0 call fuel base (fun y3_13 m => (fVal y3_13 fun v => some (.ret v, m))) fuel (.slice none 0 0) x0 v7_1 (.int .i64 0) m))
def keep56 : Keep := { region := fun i => ([[0], [0, 3], [3, 6, 7, 8], [3, 6, 7, 8, 9], [3, 5, 6, 7, 8], [3, 6, 7, 8], [3, 6, 7, 8], [2]] : List (List Nat))[i]?, exit := fun i => ([[3], [3, 6, 7, 8]] : List (List Nat))[i]?, ret := some [2] }
noncomputable def r56_L0_R (call : CallF) (fuel base n : Nat) (vs : List Value) (m : M) (K : KT) : Res2 := match vs with
  | [x3, x6, x7, x8] => r56_L0 call fuel base (fun y3 m => K (.exit 0) { n := 21, l := [(3, y3)] } m) n x3 x6 x7 x8 m
  | _ => none
noncomputable def lp56 (call : CallF) (fuel base : Nat) : Lp := lpsel [(0, fun T m K => kslots 21 [3, 6, 7, 8] T fun vs => r56_L0_R call fuel base fuel vs m K)]
noncomputable def c56 : Code := Try.f56.body.getD .skip
theorem r56_L0_lk (call : CallF) (fuel base : Nat) : LoopsOk E call (lp56 call fuel base) fuel base 0 (loopB (blockB (seqR (seqL (seqR (seqR c56)))))) = (And True (And (And True True) (And (And True True) True))) := by kernel_rfl
theorem r56_L0_ok (call : CallF) (fuel base : Nat) : LpOk E call (lp56 call fuel base) fuel base 0 (loopB (blockB (seqR (seqL (seqR (seqR c56)))))) := by
  refine loop_ok (kp := keep56) (hb := Eq.mpr (r56_L0_lk call fuel base) (And.intro trivial (And.intro (And.intro trivial trivial) (And.intro (And.intro trivial trivial) trivial)))) 21 [3, 6, 7, 8] (fun n vs m K => r56_L0_R call fuel base n vs m K) ?_ ?_ (fun _ _ _ => rfl)
  · intro vs m K
    unfold r56_L0_R
    split <;> rfl
  · intro n vs m K hl
    match vs, hl with
    | [x3, x6, x7, x8], _ => show _ = _; kernel_rfl
theorem r56_eq (call : CallF) (fuel base : Nat) (x0 : Value) (m : M) : kbody E call keep56 (lp56 call fuel base) base Try.f56 [x0] m = r56 call fuel base x0 m := by
  kernel_rfl
noncomputable def rf56 : RF := fun call fuel base args m => match args with
  | [x0] => r56 call fuel base x0 m
  | _ => none
theorem r56_lk (call : CallF) (fuel base : Nat) : LoopsOk E call (lp56 call fuel base) fuel base 0 c56 = (And True (And True (And (And True (LpOk E call (lp56 call fuel base) fuel base 0 (loopB (blockB (seqR (seqL (seqR (seqR c56)))))))) (And True True)))) := by kernel_rfl
theorem r56_fn : E.P.funcs[56]? = some Try.f56 := by kernel_rfl
theorem r56_body : Try.f56.body = some c56 := by kernel_rfl
theorem rf56_ok : RFok E 56 rf56 := by
  refine ⟨Try.f56, r56_fn, fun call fuel base args m r _ h => ?_⟩
  unfold rf56 at h
  split at h
  · rw [← r56_eq] at h
    exact kbody_sound (c := c56) r56_body (Eq.mpr (r56_lk call fuel base) (And.intro trivial (And.intro trivial (And.intro (And.intro trivial (r56_L0_ok call fuel base)) (And.intro trivial trivial))))) h
  · simp at h
end Go.AM
namespace Go.AM
open Go Go.Proofs
noncomputable def r57_L0 (call : CallF) (fuel base : Nat) (kp : Value → M → Res2) (kx0 : Value → M → Res2) (n : Nat) : Value → Value → Value → Value → Value → M → Res2 :=
  Nat.rec (motive := fun _ => Value → Value → Value → Value → Value → M → Res2) (fun _ _ _ _ _ _ => none)
    (fun _ ih x0 x3 x7 x8 x9 m =>
      (k1 (mbin E .lss 3 x9 x8) fun v10_2 => (kb v10_2 (k1 (mindexAddr E.P 75 x7 x9) fun v11_3 => (k1 (xload E.P m 80 v11_3) fun v12_4 => (k2 (xalloc E.P m 80) fun v5_5 m => (ks (xstore E.P base m 80 v5_5 v12_4) fun m => (k1 (xload E.P m 80 v5_5) fun v13_6 => (kc (call base 59 [v13_6, x0] m) (fun v15_7 m => (k2 (xalloc E.P m 80) fun v6_8 m => (ks (xstore E.P base m 80 v6_8 v15_7) fun m => (k1 (xload E.P m 80 v6_8) fun v17_9 => (kc (call base 58 [x3, v17_9] m) (fun v18_10 m => (k1 (mbin E .lss 3 v18_10 (.int .i64 0)) fun v19_11 => (kb v19_11 (k1 (xload E.P m 80 v6_8) fun v21_12 => (k2 (xbuildSlice E.P m 75 1 [(0, v21_12)]) fun v22_13 m => (k2 (vcall E.P base m .append [75, 75] [x3, v22_13]) fun v23_14 m => (k1 (mbin E .add 3 x9 (.int .i64 1)) fun v24_15 => (ih x0 v23_14 x7 x8 v24_15 m))))) (k1 (mbin E .add 3 x9 (.int .i64 1)) fun v24_16 => (ih x0 x3 x7 x8 v24_16 m))))) (fun v m => kp v m)))))) (fun v m => kp v m))))))) (kx0 x3 m)))) n
noncomputable def r57 (call : CallF) (fuel base : Nat) (x0 : Value) (m : M) : Res2 :=
  (k2 (vcall E.P base m .len [75] [x0]) fun v8_1 m => (r57_L0 call fuel base (fun v m => some (.pan v, m)) (fun y3_17 m => (kc (call base 76 [y3_17, (.func (.func 77) #[] #[])] m) (fun v26_18 m => (fVal y3_17 fun v => some (.ret v, m))) (fun v m => some (.pan v, m)))) fuel x0 (.slice none 0 0) x0 v8_1 (.int .i64 0) m))
def keep57 : Keep := { region := fun i => ([[0], [0, 3], [0, 3, 7, 8, 9], [0, 3, 7, 8, 9, 10], [0, 3, 5, 7, 8, 9], [0, 3, 6, 7, 8, 9], [0, 3, 6, 7, 8, 9, 19], [0, 3, 7, 8, 9], [0, 3, 7, 8, 9], [3], [2]] : List (List Nat))[i]?, exit := fun i => ([[3], [0, 3, 7, 8, 9]] : List (List Nat))[i]?, ret := some [2] }
noncomputable def r57_L0_R (call : CallF) (fuel base n : Nat) (vs : List Value) (m : M) (K : KT) : Res2 := match vs with
  | [x0, x3, x7, x8, x9] => r57_L0 call fuel base (fun v m => K (.pan v) { n := 28, l := [] } m) (fun y3 m => K (.exit 0) { n := 28, l := [(3, y3)] } m) n x0 x3 x7 x8 x9 m
  | _ => none
noncomputable def lp57 (call : CallF) (fuel base : Nat) : Lp := lpsel [(0, fun T m K => kslots 28 [0, 3, 7, 8, 9] T fun vs => r57_L0_R call fuel base fuel vs m K)]
noncomputable def c57 : Code := Try.f57.body.getD .skip
theorem r57_L0_lk (call : CallF) (fuel base : Nat) : LoopsOk E call (lp57 call fuel base) fuel base 0 (loopB (blockB (seqR (seqL (seqR (seqR c57)))))) = (And True (And (And True True) (And (And True (And True (And True (And True True)))) True))) := by kernel_rfl
theorem r57_L0_ok (call : CallF) (fuel base : Nat) : LpOk E call (lp57 call fuel base) fuel base 0 (loopB (blockB (seqR (seqL (seqR (seqR c57)))))) := by
  refine loop_ok (kp := keep57) (hb := Eq.mpr (r57_L0_lk call fuel base) (And.intro trivial (And.intro (And.intro trivial trivial) (And.intro (And.intro trivial (And.intro trivial (And.intro trivial (And.intro trivial trivial)))) trivial)))) 28 [0, 3, 7, 8, 9] (fun n vs m K => r57_L0_R call fuel base n vs m K) ?_ ?_ (fun _ _ _ => rfl)
  · intro vs m K
    unfold r57_L0_R
    split <;> rfl
  · intro n vs m K hl
    match vs, hl with
    | [x0, x3, x7, x8, x9], _ => show _ = _; kernel_rfl
theorem r57_eq (call : CallF) (fuel base : Nat) (x0 : Value) (m : M) : kbody E call keep57 (lp57 call fuel base) base Try.f57 [x0] m = r57 call fuel base x0 m := by
  kernel_rfl
noncomputable def rf57 : RF := fun call fuel base args m => match args with
  | [x0] => r57 call fuel base x0 m
  | _ => none
theorem r57_lk (call : CallF) (fuel base : Nat) : LoopsOk E call (lp57 call fuel base) fuel base 0 c57 = (And True (And True (And (And True (LpOk E call (lp57 call fuel base) fuel base 0 (loopB (blockB (seqR (seqL (seqR (seqR c57)))))))) (And True (And True True))))) := by kernel_rfl
theorem r57_fn : E.P.funcs[57]? = some Try.f57 := by kernel_rfl
theorem r57_body : Try.f57.body = some c57 := by kernel_rfl
theorem rf57_ok : RFok E 57 rf57 := by
  refine ⟨Try.f57, r57_fn, fun call fuel base args m r _ h => ?_⟩
  unfold rf57 at h
  split at h
  · rw [← r57_eq] at h
    exact kbody_sound (c := c57) r57_body (Eq.mpr (r57_lk call fuel base) (And.intro trivial (And.intro trivial (And.intro (And.intro trivial (r57_L0_ok call fuel base)) (And.intro trivial (And.intro trivial trivial)))))) h
  · simp at h
end Go.AM
namespace Go.AM
open Go Go.Proofs
noncomputable def r58_L0 (call : CallF) (fuel base : Nat) (kr : Value → M → Res2) (kx0 : M → Res2) (n : Nat) : Value → Value → Value → Value → M → Res2 :=
  Nat.rec (motive := fun _ => Value → Value → Value → Value → M → Res2) (fun _ _ _ _ _ => none)
    (fun _ ih x3 x7 x8 x9 m =>
      (k1 (mbin E .lss 3 x9 x8) fun v10_3 => (kb v10_3 (k1 (mindexAddr E.P 75 x7 x9) fun v12_4 => (k1 (xload E.P m 80 v12_4) fun v13_5 => (k2 (xalloc E.P m 80) fun v6_6 m => (ks (xstore E.P base m 80 v6_6 v13_5) fun m => (k1 (xload E.P m 80 v6_6) fun v14_7 => (k1 (xload E.P m 80 x3) fun v15_8 => (k1 (mbin E .eql 80 v14_7 v15_8) fun v16_9 => (kb v16_9 (kr x9 m) (k1 (mbin E .add 3 x9 (.int .i64 1)) fun v18_10 => (ih x3 x7 x8 v18_10 m)))))))))) (kx0 m)))) n
noncomputable def r58 (call : CallF) (fuel base : Nat) (x0 : Value) (x1 : Value) (m : M) : Res2 :=
  (k2 (xbox m x1) fun v3_1 m => (k2 (vcall E.P base m .len [75] [x0]) fun v8_2 m => (r58_L0 call fuel base (fun y4_11 m => (fVal y4_11 fun v => some (.ret v, m))) (fun m => (fVal (.int .i64 (-1)) fun v => some (.ret v, m))) fuel v3_1 x0 v8_2 (.int .i64 0) m)))
def keep58 : Keep := { region := fun i => ([[0, 3], [3, 7, 8, 9], [3, 7, 8, 9, 10], [3, 5, 6, 7, 8, 9], [3, 5, 7, 8, 9, 16], [4], [3, 7, 8, 9], [4]] : List (List Nat))[i]?, exit := fun i => ([[], [3, 7, 8, 9]] : List (List Nat))[i]?, ret := some [4] }
noncomputable def r58_L0_R (call : CallF) (fuel base n : Nat) (vs : List Value) (m : M) (K : KT) : Res2 := match vs with
  | [x3, x7, x8, x9] => r58_L0 call fuel base (fun y4 m => K .ret { n := 19, l := [(4, y4)] } m) (fun m => K (.exit 0) { n := 19, l := [] } m) n x3 x7 x8 x9 m
  | _ => none
noncomputable def lp58 (call : CallF) (fuel base : Nat) : Lp := lpsel [(0, fun T m K => kslots 19 [3, 7, 8, 9] T fun vs => r58_L0_R call fuel base fuel vs m K)]
noncomputable def c58 : Code := Try.f58.body.getD .skip
theorem r58_L0_lk (call : CallF) (fuel base : Nat) : LoopsOk E call (lp58 call fuel base) fuel base 0 (loopB (blockB (seqR (seqL (seqR c58))))) = (And True (And (And True True) (And (And True (And True (And (And True True) True))) True))) := by kernel_rfl
theorem r58_L0_ok (call : CallF) (fuel base : Nat) : LpOk E call (lp58 call fuel base) fuel base 0 (loopB (blockB (seqR (seqL (seqR c58))))) := by
  refine loop_ok (kp := keep58) (hb := Eq.mpr (r58_L0_lk call fuel base) (And.intro trivial (And.intro (And.intro trivial trivial) (And.intro (And.intro trivial (And.intro trivial (And.intro (And.intro trivial trivial) trivial))) trivial)))) 19 [3, 7, 8, 9] (fun n vs m K => r58_L0_R call fuel base n vs m K) ?_ ?_ (fun _ _ _ => rfl)
  · intro vs m K
    unfold r58_L0_R
    split <;> rfl
  · intro n vs m K hl
    match vs, hl with
    | [x3, x7, x8, x9], _ => show _ = _; kernel_rfl
theorem r58_eq (call : CallF) (fuel base : Nat) (x0 : Value) (x1 : Value) (m : M) : kbody E call keep58 (lp58 call fuel base) base Try.f58 [x0, x1] m = r58 call fuel base x0 x1 m := by
  kernel_rfl
noncomputable def rf58 : RF := fun call fuel base args m => match args with
  | [x0, x1] => r58 call fuel base x0 x1 m
  | _ => none
theorem r58_lk (call : CallF) (fuel base : Nat) : LoopsOk E call (lp58 call fuel base) fuel base 0 c58 = (And True (And (And True (LpOk E call (lp58 call fuel base) fuel base 0 (loopB (blockB (seqR (seqL (seqR c58))))))) (And True True))) := by kernel_rfl
theorem r58_fn : E.P.funcs[58]? = some Try.f58 := by kernel_rfl
theorem r58_body : Try.f58.body = some c58 := by kernel_rfl
theorem rf58_ok : RFok E 58 rf58 := by
  refine ⟨Try.f58, r58_fn, fun call fuel base args m r _ h => ?_⟩
  unfold rf58 at h
  split at h
  · rw [← r58_eq] at h
    exact kbody_sound (c := c58) r58_body (Eq.mpr (r58_lk call fuel base) (And.intro trivial (And.intro (And.intro trivial (r58_L0_ok call fuel base)) (And.intro trivial trivial)))) h
  · simp at h
end Go.AM
namespace Go.AM
open Go Go.Proofs
noncomputable def r59_L2 (call : CallF) (fuel base : Nat) (kp : Value → M → Res2) (kx2 : Value → Value → Value → Value → M → Res2) (n : Nat) : Value → Value → Value → Value → Value → Value → Value → M → Res2 :=
  Nat.rec (motive := fun _ => Value → Value → Value → Value → Value → Value → Value → M → Res2) (fun _ _ _ _ _ _ _ _ => none)
    (fun _ ih x1 x2 x4 x5 x9 x10 x11 m =>
      (k1 (mbin E .lss 3 x11 x10) fun v12_6 => (kb v12_6 (k1 (mindexAddr E.P 75 x9 x11) fun v13_7 => (k1 (xload E.P m 80 v13_7) fun v14_8 => (k2 (xalloc E.P m 80) fun v7_9 m => (ks (xstore E.P base m 80 v7_9 v14_8) fun m => (k1 (xload E.P m 80 x5) fun v15_10 => (k1 (xload E.P m 80 v7_9) fun v16_11 => (kc (call base 79 [v15_10, v16_11] m) (fun v17_12 m => (ks (xstore E.P base m 80 x5 v17_12) fun m => (k1 (mbin E .add 3 x11 (.int .i64 1)) fun v18_13 => (ih x1 x2 x4 x5 x9 x10 v18_13 m)))) (fun v m => kp v m)))))))) (kx2 x1 x2 x4 x5 m)))) n
noncomputable def r59_L0 (call : CallF) (fuel base : Nat) (kp : Value → M → Res2) (kr : Value → M → Res2) (n : Nat) : Value → Value → Value → M → Res2 :=
  Nat.rec (motive := fun _ => Value → Value → Value → M → Res2) (fun _ _ _ _ => none)
    (fun _ ih x1 x2 x4 m =>
      (k1 (xload E.P m 80 x2) fun v8_3 => (k2 (xalloc E.P m 80) fun v5_4 m => (ks (xstore E.P base m 80 v5_4 v8_3) fun m => (k2 (vcall E.P base m .len [75] [x1]) fun v10_5 m => (r59_L2 call fuel base (fun v m => kp v m) (fun y1_14 y2_15 y4_16 y5_17 m => (k1 (xload E.P m 80 y5_17) fun v19_18 => (k1 (xload E.P m 80 y2_15) fun v20_19 => (k1 (mbin E .eql 80 v19_18 v20_19) fun v21_20 => (kb v21_20 (k1 (xload E.P m 80 y2_15) fun v22_21 => (ks (xstore E.P base m 80 y4_16 v22_21) fun m => (kr y4_16 m))) (k1 (xload E.P m 80 y5_17) fun v23_22 => (ks (xstore E.P base m 80 y2_15 v23_22) fun m => (ih y1_14 y2_15 y4_16 m)))))))) fuel x1 x2 x4 v5_4 x1 v10_5 (.int .i64 0) m)))))) n
noncomputable def r59 (call : CallF) (fuel base : Nat) (x0 : Value) (x1 : Value) (m : M) : Res2 :=
  (k2 (xbox m x0) fun v2_1 m => (k2 (xalloc E.P m 80) fun v4_2 m => (r59_L0 call fuel base (fun v m => some (.pan v, m)) (fun y4_23 m => (k0 (mload E.P m 80 y4_23) fun r_24 => (fVal r_24 fun v => some (.ret v, m)))) fuel x1 v2_1 v4_2 m)))
def keep59 : Keep := { region := fun i => ([[1, 2, 4], [1, 2, 4, 5], [1, 2, 4, 5, 9, 10, 11], [1, 2, 4, 5, 9, 10, 11, 12], [1, 2, 4, 5, 7, 9, 10, 11], [1, 2, 4, 5, 9, 10, 11], [1, 2, 4, 5, 9, 10, 11], [1, 2, 4, 5, 21], [4], [1, 2, 4]] : List (List Nat))[i]?, exit := fun i => ([[4], [1, 2, 4], [1, 2, 4, 5], [1, 2, 4, 5, 9, 10, 11]] : List (List Nat))[i]?, ret := some [4] }
noncomputable def r59_L2_R (call : CallF) (fuel base n : Nat) (vs : List Value) (m : M) (K : KT) : Res2 := match vs with
  | [x1, x2, x4, x5, x9, x10, x11] => r59_L2 call fuel base (fun v m => K (.pan v) { n := 24, l := [] } m) (fun y1 y2 y4 y5 m => K (.exit 2) { n := 24, l := [(1, y1), (2, y2), (4, y4), (5, y5)] } m) n x1 x2 x4 x5 x9 x10 x11 m
  | _ => none
noncomputable def r59_L0_R (call : CallF) (fuel base n : Nat) (vs : List Value) (m : M) (K : KT) : Res2 := match vs with
  | [x1, x2, x4] => r59_L0 call fuel base (fun v m => K (.pan v) { n := 24, l := [] } m) (fun y4 m => K .ret { n := 24, l := [(4, y4)] } m) n x1 x2 x4 m
  | _ => none
noncomputable def lp59 (call : CallF) (fuel base : Nat) : Lp := lpsel [(2, fun T m K => kslots 24 [1, 2, 4, 5, 9, 10, 11] T fun vs => r59_L2_R call fuel base fuel vs m K), (0, fun T m K => kslots 24 [1, 2, 4] T fun vs => r59_L0_R call fuel base fuel vs m K)]
noncomputable def c59 : Code := Try.f59.body.getD .skip
theorem r59_L2_lk (call : CallF) (fuel base : Nat) : LoopsOk E call (lp59 call fuel base) fuel base 2 (loopB (blockB (seqR (seqL (seqR (blockB (loopB (blockB (seqR c59))))))))) = (And True (And (And True True) (And (And True True) True))) := by kernel_rfl
theorem r59_L2_ok (call : CallF) (fuel base : Nat) : LpOk E call (lp59 call fuel base) fuel base 2 (loopB (blockB (seqR (seqL (seqR (blockB (loopB (blockB (seqR c59))))))))) := by
  refine loop_ok (kp := keep59) (hb := Eq.mpr (r59_L2_lk call fuel base) (And.intro trivial (And.intro (And.intro trivial trivial) (And.intro (And.intro trivial trivial) trivial)))) 24 [1, 2, 4, 5, 9, 10, 11] (fun n vs m K => r59_L2_R call fuel base n vs m K) ?_ ?_ (fun _ _ _ => rfl)
  · intro vs m K
    unfold r59_L2_R
    split <;> rfl
  · intro n vs m K hl
    match vs, hl with
    | [x1, x2, x4, x5, x9, x10, x11], _ => show _ = _; kernel_rfl
theorem r59_L0_lk (call : CallF) (fuel base : Nat) : LoopsOk E call (lp59 call fuel base) fuel base 0 (loopB (blockB (seqR c59))) = (And True (And (And True (LpOk E call (lp59 call fuel base) fuel base 2 (loopB (blockB (seqR (seqL (seqR (blockB (loopB (blockB (seqR c59))))))))))) (And (And True (And (And True True) True)) True))) := by kernel_rfl
theorem r59_L0_ok (call : CallF) (fuel base : Nat) : LpOk E call (lp59 call fuel base) fuel base 0 (loopB (blockB (seqR c59))) := by
  refine loop_ok (kp := keep59) (hb := Eq.mpr (r59_L0_lk call fuel base) (And.intro trivial (And.intro (And.intro trivial (r59_L2_ok call fuel base)) (And.intro (And.intro trivial (And.intro (And.intro trivial trivial) trivial)) trivial)))) 24 [1, 2, 4] (fun n vs m K => r59_L0_R call fuel base n vs m K) ?_ ?_ (fun _ _ _ => rfl)
  · intro vs m K
    unfold r59_L0_R
    split <;> rfl
  · intro n vs m K hl
    match vs, hl with
    | [x1, x2, x4], _ => show _ = _; kernel_rfl
theorem r59_eq (call : CallF) (fuel base : Nat) (x0 : Value) (x1 : Value) (m : M) : kbody E call keep59 (lp59 call fuel base) base Try.f59 [x0, x1] m = r59 call fuel base x0 x1 m := by
  kernel_rfl
noncomputable def rf59 : RF := fun call fuel base args m => match args with
  | [x0, x1] => r59 call fuel base x0 x1 m
  | _ => none
theorem r59_lk (call : CallF) (fuel base : Nat) : LoopsOk E call (lp59 call fuel base) fuel base 0 c59 = (And True (LpOk E call (lp59 call fuel base) fuel base 0 (loopB (blockB (seqR c59))))) := by kernel_rfl
theorem r59_fn : E.P.funcs[59]? = some Try.f59 := by kernel_rfl
theorem r59_body : Try.f59.body = some c59 := by kernel_rfl
theorem rf59_ok : RFok E 59 rf59 := by
  refine ⟨Try.f59, r59_fn, fun call fuel base args m r _ h => ?_⟩
  unfold rf59 at h
  split at h
  · rw [← r59_eq] at h
    exact kbody_sound (c := c59) r59_body (Eq.mpr (r59_lk call fuel base) (And.intro trivial (r59_L0_ok call fuel base))) h
  · simp at h
end Go.AM
namespace Go.AM
open Go Go.Proofs
noncomputable def r60 (call : CallF) (fuel base : Nat) (x0 : Value) (m : M) : Res2 :=
  (k2 (xbox m x0) fun v1_1 m => (k2 (xalloc E.P m 80) fun v2_2 m => (k1 (mfieldAddr E.P 62 v1_1 1) fun v3_3 => (k1 (xload E.P m 3 v3_3) fun v4_4 => (k1 (mfieldAddr E.P 62 v1_1 0) fun v5_5 => (k1 (xload E.P m 3 v5_5) fun v6_6 => (k1 (mfieldAddr E.P 62 v1_1 0) fun v7_7 => (k1 (xload E.P m 3 v7_7) fun v8_8 => (k1 (mfieldAddr E.P 62 v1_1 2) fun v9_9 => (k1 (xload E.P m 3 v9_9) fun v10_10 => (k1 (mbin E .add 3 v8_8 v10_10) fun v11_11 => (k1 (mbuild E.P 80 [(0, v4_4), (1, v6_6), (2, v11_11)]) fun v12_12 => (ks (xstore E.P base m 80 v2_2 v12_12) fun m => (k0 (mload E.P m 80 v2_2) fun r_13 => (fVal r_13 fun v => some (.ret v, m))))))))))))))))
def keep60 : Keep := { region := fun i => ([[1, 2], [2]] : List (List Nat))[i]?, exit := fun i => ([] : List (List Nat))[i]?, ret := some [2] }
noncomputable def lp60 (call : CallF) (fuel base : Nat) : Lp := lpsel []
noncomputable def c60 : Code := Try.f60.body.getD .skip
theorem r60_eq (call : CallF) (fuel base : Nat) (x0 : Value) (m : M) : kbody E call keep60 (lp60 call fuel base) base Try.f60 [x0] m = r60 call fuel base x0 m := by
  kernel_rfl
noncomputable def rf60 : RF := fun call fuel base args m => match args with
  | [x0] => r60 call fuel base x0 m
  | _ => none
theorem r60_lk (call : CallF) (fuel base : Nat) : LoopsOk E call (lp60 call fuel base) fuel base 0 c60 = (And True (And True True)) := by kernel_rfl
theorem r60_fn : E.P.funcs[60]? = some Try.f60 := by kernel_rfl
theorem r60_body : Try.f60.body = some c60 := by kernel_rfl
theorem rf60_ok : RFok E 60 rf60 := by
  refine ⟨Try.f60, r60_fn, fun call fuel base args m r _ h => ?_⟩
  unfold rf60 at h
  split at h
  · rw [← r60_eq] at h
    exact kbody_sound (c := c60) r60_body (Eq.mpr (r60_lk call fuel base) (And.intro trivial (And.intro trivial trivial))) h
  · simp at h
end Go.AM
namespace Go.AM
open Go Go.Proofs
noncomputable def r61 (call : CallF) (fuel base : Nat) (x0 : Value) (m : M) : Res2 :=
  (k2 (xbox m x0) fun v1_1 m => (k2 (xalloc E.P m 80) fun v2_2 m => (k1 (mfieldAddr E.P 62 v1_1 1) fun v3_3 => (k1 (xload E.P m 3 v3_3) fun v4_4 => (k1 (mfieldAddr E.P 62 v1_1 2) fun v5_5 => (k1 (xload E.P m 3 v5_5) fun v6_6 => (k1 (mbin E .add 3 v4_4 v6_6) fun v7_7 => (k1 (mfieldAddr E.P 62 v1_1 0) fun v8_8 => (k1 (xload E.P m 3 v8_8) fun v9_9 => (k1 (mfieldAddr E.P 62 v1_1 0) fun v10_10 => (k1 (xload E.P m 3 v10_10) fun v11_11 => (k1 (mfieldAddr E.P 62 v1_1 2) fun v12_12 => (k1 (xload E.P m 3 v12_12) fun v13_13 => (k1 (mbin E .add 3 v11_11 v13_13) fun v14_14 => (k1 (mbuild E.P 80 [(0, v7_7), (1, v9_9), (2, v14_14)]) fun v15_15 => (ks (xstore E.P base m 80 v2_2 v15_15) fun m => (k0 (mload E.P m 80 v2_2) fun r_16 => (fVal r_16 fun v => some (.ret v, m)))))))))))))))))))
def keep61 : Keep := { region := fun i => ([[1, 2], [2]] : List (List Nat))[i]?, exit := fun i => ([] : List (List Nat))[i]?, ret := some [2] }
noncomputable def lp61 (call : CallF) (fuel base : Nat) : Lp := lpsel []
noncomputable def c61 : Code := Try.f61.body.getD .skip
theorem r61_eq (call : CallF) (fuel base : Nat) (x0 : Value) (m : M) : kbody E call keep61 (lp61 call fuel base) base Try.f61 [x0] m = r61 call fuel base x0 m := by
  kernel_rfl
noncomputable def rf61 : RF := fun call fuel base args m => match args with
  | [x0] => r61 call fuel base x0 m
  | _ => none
theorem r61_lk (call : CallF) (fuel base : Nat) : LoopsOk E call (lp61 call fuel base) fuel base 0 c61 = (And True (And True True)) := by kernel_rfl
theorem r61_fn : E.P.funcs[61]? = some Try.f61 := by kernel_rfl
theorem r61_body : Try.f61.body = some c61 := by kernel_rfl
theorem rf61_ok : RFok E 61 rf61 := by
  refine ⟨Try.f61, r61_fn, fun call fuel base args m r _ h => ?_⟩
  unfold rf61 at h
  split at h
  · rw [← r61_eq] at h
    exact kbody_sound (c := c61) r61_body (Eq.mpr (r61_lk call fuel base) (And.intro trivial (And.intro trivial trivial))) h
  · simp at h
end Go.AM
namespace Go.AM
open Go Go.Proofs
noncomputable def r65 (call : CallF) (fuel base : Nat) (x0 : Value) (x1 : Value) (x2 : Value) (m : M) : Res2 :=
  (k1 (mbin E .leq 3 (.int .i64 0) x1) fun v8_1 => (kb v8_1 (k1 (mbin E .lss 3 x1 x0) fun v12_2 => (k0 (mpick (.bool true) v12_2 (.bool false)) fun v13_3 => (kb v13_3 (k1 (mbin E .leq 3 (.int .i64 0) x2) fun v16_4 => (k0 (mpick (.bool true) v16_4 (.bool false)) fun v17_5 => (kb v17_5 (k1 (mbin E .lss 3 x2 x0) fun v21_6 => (k0 (mpick (.bool true) v21_6 (.bool false)) fun v22_7 => (kb v22_7 (k1 (mbin E .neq 3 x1 x2) fun v26_8 => (k0 (mpick (.bool true) v26_8 (.bool false)) fun v27_9 => (fVal v27_9 fun v => some (.ret v, m)))) (k0 (mpick (.bool false) undef (.bool false)) fun v27_10 => (fVal v27_10 fun v => some (.ret v, m)))))) (k0 (mpick (.bool false) undef (.bool false)) fun v22_11 => (kb v22_11 (k1 (mbin E .neq 3 x1 x2) fun v26_12 => (k0 (mpick (.bool true) v26_12 (.bool false)) fun v27_13 => (fVal v27_13 fun v => some (.ret v, m)))) (k0 (mpick (.bool false) undef (.bool false)) fun v27_14 => (fVal v27_14 fun v => some (.ret v, m)))))))) (k0 (mpick (.bool false) undef (.bool false)) fun v17_15 => (kb v17_15 (k1 (mbin E .lss 3 x2 x0) fun v21_16 => (k0 (mpick (.bool true) v21_16 (.bool false)) fun v22_17 => (kb v22_17 (k1 (mbin E .neq 3 x1 x2) fun v26_18 => (k0 (mpick (.bool true) v26_18 (.bool false)) fun v27_19 => (fVal v27_19 fun v => some (.ret v, m)))) (k0 (mpick (.bool false) undef (.bool false)) fun v27_20 => (fVal v27_20 fun v => some (.ret v, m)))))) (k0 (mpick (.bool false) undef (.bool false)) fun v22_21 => (kb v22_21 (k1 (mbin E .neq 3 x1 x2) fun v26_22 => (k0 (mpick (.bool true) v26_22 (.bool false)) fun v27_23 => (fVal v27_23 fun v => some (.ret v, m)))) (k0 (mpick (.bool false) undef (.bool false)) fun v27_24 => (fVal v27_24 fun v => some (.ret v, m)))))))))) (k0 (mpick (.bool false) undef (.bool false)) fun v13_25 => (kb v13_25 (k1 (mbin E .leq 3 (.int .i64 0) x2) fun v16_26 => (k0 (mpick (.bool true) v16_26 (.bool false)) fun v17_27 => (kb v17_27 (k1 (mbin E .lss 3 x2 x0) fun v21_28 => (k0 (mpick (.bool true) v21_28 (.bool false)) fun v22_29 => (kb v22_29 (k1 (mbin E .neq 3 x1 x2) fun v26_30 => (k0 (mpick (.bool true) v26_30 (.bool false)) fun v27_31 => (fVal v27_31 fun v => some (.ret v, m)))) (k0 (mpick (.bool false) undef (.bool false)) fun v27_32 => (fVal v27_32 fun v => some (.ret v, m)))))) (k0 (mpick (.bool false) undef (.bool false)) fun v22_33 => (kb v22_33 (k1 (mbin E .neq 3 x1 x2) fun v26_34 => (k0 (mpick (.bool true) v26_34 (.bool false)) fun v27_35 => (fVal v27_35 fun v => some (.ret v, m)))) (k0 (mpick (.bool false) undef (.bool false)) fun v27_36 => (fVal v27_36 fun v => some (.ret v, m)))))))) (k0 (mpick (.bool false) undef (.bool false)) fun v17_37 => (kb v17_37 (k1 (mbin E .lss 3 x2 x0) fun v21_38 => (k0 (mpick (.bool true) v21_38 (.bool false)) fun v22_39 => (kb v22_39 (k1 (mbin E .neq 3 x1 x2) fun v26_40 => (k0 (mpick (.bool true) v26_40 (.bool false)) fun v27_41 => (fVal v27_41 fun v => some (.ret v, m)))) (k0 (mpick (.bool false) undef (.bool false)) fun v27_42 => (fVal v27_42 fun v => some (.ret v, m)))))) (k0 (mpick (.bool false) undef (.bool false)) fun v22_43 => (kb v22_43 (k1 (mbin E .neq 3 x1 x2) fun v26_44 => (k0 (mpick (.bool true) v26_44 (.bool false)) fun v27_45 => (fVal v27_45 fun v => some (.ret v, m)))) (k0 (mpick (.bool false) undef (.bool false)) fun v27_46 => (fVal v27_46 fun v => some (.ret v, m)))))))))))
def keep65 : Keep := { region := fun i => ([[0, 1, 2], [6]] : List (List Nat))[i]?, exit := fun i => ([] : List (List Nat))[i]?, ret := some [6] }
noncomputable def lp65 (call : CallF) (fuel base : Nat) : Lp := lpsel []
noncomputable def c65 : Code := Try.f65.body.getD .skip
theorem r65_eq (call : CallF) (fuel base : Nat) (x0 : Value) (x1 : Value) (x2 : Value) (m : M) : kbody E call keep65 (lp65 call fuel base) base Try.f65 [x0, x1, x2] m = r65 call fuel base x0 x1 x2 m := by
  kernel_rfl
noncomputable def rf65 : RF := fun call fuel base args m => match args with
  | [x0, x1, x2] => r65 call fuel base x0 x1 x2 m
  | _ => none
theorem r65_lk (call : CallF) (fuel base : Nat) : LoopsOk E call (lp65 call fuel base) fuel base 0 c65 = (And True (And True True)) := by kernel_rfl
theorem r65_fn : E.P.funcs[65]? = some Try.f65 := by kernel_rfl
theorem r65_body : Try.f65.body = some c65 := by kernel_rfl
theorem rf65_ok : RFok E 65 rf65 := by
  refine ⟨Try.f65, r65_fn, fun call fuel base args m r _ h => ?_⟩
  unfold rf65 at h
  split at h
  · rw [← r65_eq] at h
    exact kbody_sound (c := c65) r65_body (Eq.mpr (r65_lk call fuel base) (And.intro trivial (And.intro trivial trivial))) h
  · simp at h
end Go.AM
namespace Go.AM
open Go Go.Proofs
noncomputable def r66_L0 (call : CallF) (fuel base : Nat) (kp : Value → M → Res2) (kr : Value → M → Res2) (kx0 : Value → Value → Value → M → Res2) (n : Nat) : Value → Value → Value → Value → Value → Value → M → Res2 :=
  Nat.rec (motive := fun _ => Value → Value → Value → Value → Value → Value → M → Res2) (fun _ _ _ _ _ _ _ => none)
    (fun _ ih x0 x3 x4 x5 x10 x11 m =>
      (k1 (mbin E .lss 3 x11 x10) fun v12_4 => (kb v12_4 (kc (call base 82 [x0, x11] m) (fun v16_5 m => (k1 (mbin E .lss 3 v16_5 (.int .i64 0)) fun v18_6 => (kb v18_6 (kr (.int .i64 0) m) (k1 (mbin E .neq 3 v16_5 x11) fun v21_7 => (kb v21_7 (k1 (mindexAddr E.P 56 x0 v16_5) fun v28_8 => (k1 (xload E.P m 29 v28_8) fun v29_9 => (k1 (mindexAddr E.P 56 x0 x11) fun v32_10 => (k1 (xload E.P m 29 v32_10) fun v33_11 => (k1 (mindexAddr E.P 56 x0 x11) fun v34_12 => (ks (xstore E.P base m 29 v34_12 v29_9) fun m => (k1 (mindexAddr E.P 56 x0 v16_5) fun v35_13 => (ks (xstore E.P base m 29 v35_13 v33_11) fun m => (k1 (mun .not x5) fun v37_14 => (k1 (xload E.P m 104 x3) fun v41_15 => (kc (call base 83 [x0, x11, x4, v41_15] m) (fun v42_16 m => (k1 (mindexAddr E.P 56 x0 x11) fun v45_17 => (k1 (xload E.P m 29 v45_17) fun v46_18 => (k1 (mindexAddr E.P 29 v46_18 x11) fun v48_19 => (k1 (xload E.P m 3 v48_19) fun v49_20 => (k1 (mbin E .add 3 x11 (.int .i64 1)) fun v50_21 => (ih x0 x3 v49_20 v37_14 x10 v50_21 m))))))) (fun v m => kp v m)))))))))))) (k1 (xload E.P m 104 x3) fun v41_22 => (kc (call base 83 [x0, x11, x4, v41_22] m) (fun v42_23 m => (k1 (mindexAddr E.P 56 x0 x11) fun v45_24 => (k1 (xload E.P m 29 v45_24) fun v46_25 => (k1 (mindexAddr E.P 29 v46_25 x11) fun v48_26 => (k1 (xload E.P m 3 v48_26) fun v49_27 => (k1 (mbin E .add 3 x11 (.int .i64 1)) fun v50_28 => (ih x0 x3 v49_27 x5 x10 v50_28 m))))))) (fun v m => kp v m)))))))) (fun v m => kp v m)) (kx0 x3 x4 x5 m)))) n
noncomputable def r66 (call : CallF) (fuel base : Nat) (x0 : Value) (m : M) : Res2 :=
  (kc (call base 81 [] m) (fun v8_1 m => (k2 (xalloc E.P m 104) fun v3_2 m => (ks (xstore E.P base m 104 v3_2 v8_1) fun m => (k2 (vcall E.P base m .len [56] [x0]) fun v10_3 m => (r66_L0 call fuel base (fun v m => some (.pan v, m)) (fun y2_29 m => (fVal y2_29 fun v => some (.ret v, m))) (fun y3_30 y4_31 y5_32 m => (kb y5_32 (k1 (mfieldAddr E.P 104 y3_30 1) fun v52_33 => (k1 (xload E.P m 94 v52_33) fun v53_34 => (kc (kv call base v53_34 [(.int .i64 0), y4_31] m) (fun v55_35 m => (fVal v55_35 fun v => some (.ret v, m))) (fun v m => some (.pan v, m))))) (fVal y4_31 fun v => some (.ret v, m)))) fuel x0 v3_2 (.int .i64 1) (.bool false) v10_3 (.int .i64 0) m))))) (fun v m => some (.pan v, m)))
def keep66 : Keep := { region := fun i => ([[0], [0, 3], [0, 3, 4, 5], [0, 3, 4, 5, 10, 11], [0, 3, 4, 5, 10, 11, 12], [0, 3, 4, 5, 6, 10, 11], [0, 3, 4, 5, 6, 7, 10, 11], [0, 3, 4, 5, 6, 7, 10, 11, 18], [2], [0, 3, 4, 5, 6, 7, 10, 11, 21], [0, 3, 4, 5, 6, 10, 11], [0, 3, 4, 5, 6, 10, 11], [0, 3, 5, 6, 10, 11], [0, 3, 4, 5, 10, 11], [0, 3, 4, 5, 10, 11], [3, 4, 51], [2], [2]] : List (List Nat))[i]?, exit := fun i => ([[3, 4, 5], [0, 3, 4, 5, 10, 11]] : List (List Nat))[i]?, ret := some [2] }
noncomputable def r66_L0_R (call : CallF) (fuel base n : Nat) (vs : List Value) (m : M) (K : KT) : Res2 := match vs with
  | [x0, x3, x4, x5, x10, x11] => r66_L0 call fuel base (fun v m => K (.pan v) { n := 57, l := [] } m) (fun y2 m => K .ret { n := 57, l := [(2, y2)] } m) (fun y3 y4 y5 m => K (.exit 0) { n := 57, l := [(3, y3), (4, y4), (5, y5)] } m) n x0 x3 x4 x5 x10 x11 m
  | _ => none
noncomputable def lp66 (call : CallF) (fuel base : Nat) : Lp := lpsel [(0, fun T m K => kslots 57 [0, 3, 4, 5, 10, 11] T fun vs => r66_L0_R call fuel base fuel vs m K)]
noncomputable def c66 : Code := Try.f66.body.getD .skip
theorem r66_L0_lk (call : CallF) (fuel base : Nat) : LoopsOk E call (lp66 call fuel base) fuel base 0 (loopB (blockB (seqR (seqL (seqR (seqR (seqR c66))))))) = (And True (And (And True True) (And (And True (And True (And (And True (And (And True True) True)) (And (And True (And (And True True) True)) (And True True))))) True))) := by kernel_rfl
theorem r66_L0_ok (call : CallF) (fuel base : Nat) : LpOk E call (lp66 call fuel base) fuel base 0 (loopB (blockB (seqR (seqL (seqR (seqR (seqR c66))))))) := by
  refine loop_ok (kp := keep66) (hb := Eq.mpr (r66_L0_lk call fuel base) (And.intro trivial (And.intro (And.intro trivial trivial) (And.intro (And.intro trivial (And.intro trivial (And.intro (And.intro trivial (And.intro (And.intro trivial trivial) trivial)) (And.intro (And.intro trivial (And.intro (And.intro trivial trivial) trivial)) (And.intro trivial trivial))))) trivial)))) 57 [0, 3, 4, 5, 10, 11] (fun n vs m K => r66_L0_R call fuel base n vs m K) ?_ ?_ (fun _ _ _ => rfl)
  · intro vs m K
    unfold r66_L0_R
    split <;> rfl
  · intro n vs m K hl
    match vs, hl with
    | [x0, x3, x4, x5, x10, x11], _ => show _ = _; kernel_rfl
theorem r66_eq (call : CallF) (fuel base : Nat) (x0 : Value) (m : M) : kbody E call keep66 (lp66 call fuel base) base Try.f66 [x0] m = r66 call fuel base x0 m := by
  kernel_rfl
noncomputable def rf66 : RF := fun call fuel base args m => match args with
  | [x0] => r66 call fuel base x0 m
  | _ => none
theorem r66_lk (call : CallF) (fuel base : Nat) : LoopsOk E call (lp66 call fuel base) fuel base 0 c66 = (And True (And True (And True (And (And True (LpOk E call (lp66 call fuel base) fuel base 0 (loopB (blockB (seqR (seqL (seqR (seqR (seqR c66))))))))) (And (And True (And (And True True) True)) (And True True)))))) := by kernel_rfl
theorem r66_fn : E.P.funcs[66]? = some Try.f66 := by kernel_rfl
theorem r66_body : Try.f66.body = some c66 := by kernel_rfl
theorem rf66_ok : RFok E 66 rf66 := by
  refine ⟨Try.f66, r66_fn, fun call fuel base args m r _ h => ?_⟩
  unfold rf66 at h
  split at h
  · rw [← r66_eq] at h
    exact kbody_sound (c := c66) r66_body (Eq.mpr (r66_lk call fuel base) (And.intro trivial (And.intro trivial (And.intro trivial (And.intro (And.intro trivial (r66_L0_ok call fuel base)) (And.intro (And.intro trivial (And.intro (And.intro trivial trivial) trivial)) (And.intro trivial trivial))))))) h
  · simp at h
end Go.AM
namespace Go.AM
open Go Go.Proofs
noncomputable def r67_L2 (call : CallF) (fuel base : Nat) (kp : Value → M → Res2) (kx2 : Value → Value → Value → Value → Value → Value → M → Res2) (n : Nat) : Value → Value → Value → Value → Value → Value → Value → Value → Value → M → Res2 :=
  Nat.rec (motive := fun _ => Value → Value → Value → Value → Value → Value → Value → Value → Value → M → Res2) (fun _ _ _ _ _ _ _ _ _ _ => none)
    (fun _ ih x1 x5 x8 x11 x12 x13 x21 x22 x23 m =>
      (k1 (mbin E .lss 3 x23 x22) fun v24_8 => (kb v24_8 (k1 (mindexAddr E.P 29 x21 x23) fun v26_9 => (k1 (xload E.P m 3 v26_9) fun v27_10 => (kc (call base 84 [x1, x23] m) (fun v30_11 m => (k1 (mun .not v30_11) fun v31_12 => (kb v31_12 (k2 (xbuildSlice E.P m 29 1 [(0, v27_10)]) fun v34_13 m => (k2 (vcall E.P base m .append [29, 29] [x8, v34_13]) fun v35_14 m => (k1 (mbin E .add 3 x23 (.int .i64 1)) fun v36_15 => (ih x1 x5 v35_14 x11 x12 x13 x21 x22 v36_15 m)))) (k1 (mbin E .add 3 x23 (.int .i64 1)) fun v36_16 => (ih x1 x5 x8 x11 x12 x13 x21 x22 v36_16 m))))) (fun v m => kp v m)))) (kx2 x1 x5 x8 x11 x12 x13 m)))) n
noncomputable def r67_L0 (call : CallF) (fuel base : Nat) (kp : Value → M → Res2) (kx0 : Value → M → Res2) (n : Nat) : Value → Value → Value → Value → Value → M → Res2 :=
  Nat.rec (motive := fun _ => Value → Value → Value → Value → Value → M → Res2) (fun _ _ _ _ _ _ => none)
    (fun _ ih x1 x5 x11 x12 x13 m =>
      (k1 (mbin E .lss 3 x13 x12) fun v14_2 => (kb v14_2 (k1 (mindexAddr E.P 56 x11 x13) fun v16_3 => (k1 (xload E.P m 29 v16_3) fun v17_4 => (kc (call base 84 [x1, x13] m) (fun v20_5 m => (kb v20_5 (k1 (mbin E .add 3 x13 (.int .i64 1)) fun v41_6 => (ih x1 x5 x11 x12 v41_6 m)) (k2 (vcall E.P base m .len [29] [v17_4]) fun v22_7 m => (r67_L2 call fuel base (fun v m => kp v m) (fun y1_17 y5_18 y8_19 y11_20 y12_21 y13_22 m => (k2 (xbuildSlice E.P m 56 1 [(0, y8_19)]) fun v39_23 m => (k2 (vcall E.P base m .append [56, 56] [y5_18, v39_23]) fun v40_24 m => (k1 (mbin E .add 3 y13_22 (.int .i64 1)) fun v41_25 => (ih y1_17 v40_24 y11_20 y12_21 v41_25 m))))) fuel x1 x5 (.slice none 0 0) x11 x12 x13 v17_4 v22_7 (.int .i64 0) m)))) (fun v m => kp v m)))) (kx0 x5 m)))) n
noncomputable def r67 (call : CallF) (fuel base : Nat) (x0 : Value) (x1 : Value) (m : M) : Res2 :=
  (k2 (vcall E.P base m .len [56] [x0]) fun v12_1 m => (r67_L0 call fuel base (fun v m => some (.pan v, m)) (fun y5_26 m => (fVal y5_26 fun v => some (.ret v, m))) fuel x1 (.slice none 0 0) x0 v12_1 (.int .i64 0) m))
def keep67 : Keep := { region := fun i => ([[0, 1], [0, 1, 5], [1, 5, 11, 12, 13], [1, 5, 11, 12, 13, 14], [1, 5, 6, 7, 11, 12, 13], [1, 5, 7, 11, 12, 13, 20], [1, 5, 7, 8, 11, 12, 13], [1, 5, 8, 11, 12, 13, 21, 22, 23], [1, 5, 8, 11, 12, 13, 21, 22, 23, 24], [1, 5, 8, 9, 10, 11, 12, 13, 21, 22, 23], [1, 5, 8, 10, 11, 12, 13, 21, 22, 23, 31], [1, 5, 8, 11, 12, 13, 21, 22, 23], [1, 5, 8, 11, 12, 13, 21, 22, 23], [1, 5, 11, 12, 13], [1, 5, 11, 12, 13], [4]] : List (List Nat))[i]?, exit := fun i => ([[5], [1, 5, 11, 12, 13], [1, 5, 8, 11, 12, 13], [1, 5, 8, 11, 12, 13, 21, 22, 23]] : List (List Nat))[i]?, ret := some [4] }
noncomputable def r67_L2_R (call : CallF) (fuel base n : Nat) (vs : List Value) (m : M) (K : KT) : Res2 := match vs with
  | [x1, x5, x8, x11, x12, x13, x21, x22, x23] => r67_L2 call fuel base (fun v m => K (.pan v) { n := 43, l := [] } m) (fun y1 y5 y8 y11 y12 y13 m => K (.exit 2) { n := 43, l := [(1, y1), (5, y5), (8, y8), (11, y11), (12, y12), (13, y13)] } m) n x1 x5 x8 x11 x12 x13 x21 x22 x23 m
  | _ => none
noncomputable def r67_L0_R (call : CallF) (fuel base n : Nat) (vs : List Value) (m : M) (K : KT) : Res2 := match vs with
  | [x1, x5, x11, x12, x13] => r67_L0 call fuel base (fun v m => K (.pan v) { n := 43, l := [] } m) (fun y5 m => K (.exit 0) { n := 43, l := [(5, y5)] } m) n x1 x5 x11 x12 x13 m
  | _ => none
noncomputable def lp67 (call : CallF) (fuel base : Nat) : Lp := lpsel [(2, fun T m K => kslots 43 [1, 5, 8, 11, 12, 13, 21, 22, 23] T fun vs => r67_L2_R call fuel base fuel vs m K), (0, fun T m K => kslots 43 [1, 5, 11, 12, 13] T fun vs => r67_L0_R call fuel base fuel vs m K)]
noncomputable def c67 : Code := Try.f67.body.getD .skip
theorem r67_L2_lk (call : CallF) (fuel base : Nat) : LoopsOk E call (lp67 call fuel base) fuel base 2 (loopB (blockB (seqR (seqL (seqR (seqR (seqR (blockB (seqL (seqR (seqR (loopB (blockB (seqR (seqL (seqR (seqR c67))))))))))))))))) = (And True (And (And True True) (And (And True (And True (And True True))) True))) := by kernel_rfl
theorem r67_L2_ok (call : CallF) (fuel base : Nat) : LpOk E call (lp67 call fuel base) fuel base 2 (loopB (blockB (seqR (seqL (seqR (seqR (seqR (blockB (seqL (seqR (seqR (loopB (blockB (seqR (seqL (seqR (seqR c67))))))))))))))))) := by
  refine loop_ok (kp := keep67) (hb := Eq.mpr (r67_L2_lk call fuel base) (And.intro trivial (And.intro (And.intro trivial trivial) (And.intro (And.intro trivial (And.intro trivial (And.intro trivial trivial))) trivial)))) 43 [1, 5, 8, 11, 12, 13, 21, 22, 23] (fun n vs m K => r67_L2_R call fuel base n vs m K) ?_ ?_ (fun _ _ _ => rfl)
  · intro vs m K
    unfold r67_L2_R
    split <;> rfl
  · intro n vs m K hl
    match vs, hl with
    | [x1, x5, x8, x11, x12, x13, x21, x22, x23], _ => show _ = _; kernel_rfl
theorem r67_L0_lk (call : CallF) (fuel base : Nat) : LoopsOk E call (lp67 call fuel base) fuel base 0 (loopB (blockB (seqR (seqL (seqR (seqR c67)))))) = (And True (And (And True True) (And (And True (And (And True (And True True)) (And True (And (And True (LpOk E call (lp67 call fuel base) fuel base 2 (loopB (blockB (seqR (seqL (seqR (seqR (seqR (blockB (seqL (seqR (seqR (loopB (blockB (seqR (seqL (seqR (seqR c67))))))))))))))))))) True)))) True))) := by kernel_rfl
theorem r67_L0_ok (call : CallF) (fuel base : Nat) : LpOk E call (lp67 call fuel base) fuel base 0 (loopB (blockB (seqR (seqL (seqR (seqR c67)))))) := by
  refine loop_ok (kp := keep67) (hb := Eq.mpr (r67_L0_lk call fuel base) (And.intro trivial (And.intro (And.intro trivial trivial) (And.intro (And.intro trivial (And.intro (And.intro trivial (And.intro trivial trivial)) (And.intro trivial (And.intro (And.intro trivial (r67_L2_ok call fuel base)) trivial)))) trivial)))) 43 [1, 5, 11, 12, 13] (fun n vs m K => r67_L0_R call fuel base n vs m K) ?_ ?_ (fun _ _ _ => rfl)
  · intro vs m K
    unfold r67_L0_R
    split <;> rfl
  · intro n vs m K hl
    match vs, hl with
    | [x1, x5, x11, x12, x13], _ => show _ = _; kernel_rfl
theorem r67_eq (call : CallF) (fuel base : Nat) (x0 : Value) (x1 : Value) (m : M) : kbody E call keep67 (lp67 call fuel base) base Try.f67 [x0, x1] m = r67 call fuel base x0 x1 m := by
  kernel_rfl
noncomputable def rf67 : RF := fun call fuel base args m => match args with
  | [x0, x1] => r67 call fuel base x0 x1 m
  | _ => none
theorem r67_lk (call : CallF) (fuel base : Nat) : LoopsOk E call (lp67 call fuel base) fuel base 0 c67 = (And True (And True (And (And True (LpOk E call (lp67 call fuel base) fuel base 0 (loopB (blockB (seqR (seqL (seqR (seqR c67)))))))) (And True True)))) := by kernel_rfl
theorem r67_fn : E.P.funcs[67]? = some Try.f67 := by kernel_rfl
theorem r67_body : Try.f67.body = some c67 := by kernel_rfl
theorem rf67_ok : RFok E 67 rf67 := by
  refine ⟨Try.f67, r67_fn, fun call fuel base args m r _ h => ?_⟩
  unfold rf67 at h
  split at h
  · rw [← r67_eq] at h
    exact kbody_sound (c := c67) r67_body (Eq.mpr (r67_lk call fuel base) (And.intro trivial (And.intro trivial (And.intro (And.intro trivial (r67_L0_ok call fuel base)) (And.intro trivial trivial))))) h
  · simp at h
end Go.AM
namespace Go.AM
open Go Go.Proofs
noncomputable def r68_L0 (call : CallF) (fuel base : Nat) (kx0 : Value → Value → M → Res2) (n : Nat) : Value → Value → Value → Value → Value → M → Res2 :=
  Nat.rec (motive := fun _ => Value → Value → Value → Value → Value → M → Res2) (fun _ _ _ _ _ _ => none)
    (fun _ ih x0 x1 x5 x12 x13 m =>
      (k1 (mbin E .lss 3 x13 x12) fun v14_3 => (kb v14_3 (k2 (xmakeSlice E.P m 29 x0 x0) fun v19_4 m => (k1 (mindexAddr E.P 56 x5 x13) fun v20_5 => (ks (xstore E.P base m 29 v20_5 v19_4) fun m => (k1 (mbin E .add 3 x13 (.int .i64 1)) fun v21_6 => (ih x0 x1 x5 x12 v21_6 m))))) (kx0 x1 x5 m)))) n
noncomputable def r68_L2 (call : CallF) (fuel base : Nat) (kx2 : Value → M → Res2) (n : Nat) : Value → Value → Value → Value → M → Res2 :=
  Nat.rec (motive := fun _ => Value → Value → Value → Value → M → Res2) (fun _ _ _ _ _ => none)
    (fun _ ih x5 x22 x23 x24 m =>
      (k1 (mbin E .lss 3 x24 x23) fun v25_10 => (kb v25_10 (k1 (mindexAddr E.P 22 x22 x24) fun v26_11 => (k1 (xload E.P m 59 v26_11) fun v27_12 => (k2 (xalloc E.P m 59) fun v8_13 m => (ks (xstore E.P base m 59 v8_13 v27_12) fun m => (k1 (mfieldAddr E.P 59 v8_13 0) fun v29_14 => (k1 (xload E.P m 3 v29_14) fun v30_15 => (k1 (mindexAddr E.P 56 x5 v30_15) fun v31_16 => (k1 (xload E.P m 29 v31_16) fun v32_17 => (k1 (mfieldAddr E.P 59 v8_13 0) fun v33_18 => (k1 (xload E.P m 3 v33_18) fun v34_19 => (k1 (mindexAddr E.P 29 v32_17 v34_19) fun v35_20 => (k1 (xload E.P m 3 v35_20) fun v36_21 => (k1 (mbin E .add 3 v36_21 (.int .i64 1)) fun v37_22 => (k1 (mindexAddr E.P 29 v32_17 v34_19) fun v38_23 => (ks (xstore E.P base m 3 v38_23 v37_22) fun m => (k1 (mfieldAddr E.P 59 v8_13 1) fun v40_24 => (k1 (xload E.P m 3 v40_24) fun v41_25 => (k1 (mindexAddr E.P 56 x5 v41_25) fun v42_26 => (k1 (xload E.P m 29 v42_26) fun v43_27 => (k1 (mfieldAddr E.P 59 v8_13 1) fun v44_28 => (k1 (xload E.P m 3 v44_28) fun v45_29 => (k1 (mindexAddr E.P 29 v43_27 v45_29) fun v46_30 => (k1 (xload E.P m 3 v46_30) fun v47_31 => (k1 (mbin E .add 3 v47_31 (.int .i64 1)) fun v48_32 => (k1 (mindexAddr E.P 29 v43_27 v45_29) fun v49_33 => (ks (xstore E.P base m 3 v49_33 v48_32) fun m => (k1 (mfieldAddr E.P 59 v8_13 0) fun v51_34 => (k1 (xload E.P m 3 v51_34) fun v52_35 => (k1 (mindexAddr E.P 56 x5 v52_35) fun v53_36 => (k1 (xload E.P m 29 v53_36) fun v54_37 => (k1 (mfieldAddr E.P 59 v8_13 1) fun v55_38 => (k1 (xload E.P m 3 v55_38) fun v56_39 => (k1 (mindexAddr E.P 29 v54_37 v56_39) fun v57_40 => (k1 (xload E.P m 3 v57_40) fun v58_41 => (k1 (mbin E .sub 3 v58_41 (.int .i64 1)) fun v59_42 => (k1 (mindexAddr E.P 29 v54_37 v56_39) fun v60_43 => (ks (xstore E.P base m 3 v60_43 v59_42) fun m => (k1 (mfieldAddr E.P 59 v8_13 1) fun v62_44 => (k1 (xload E.P m 3 v62_44) fun v63_45 => (k1 (mindexAddr E.P 56 x5 v63_45) fun v64_46 => (k1 (xload E.P m 29 v64_46) fun v65_47 => (k1 (mfieldAddr E.P 59 v8_13 0) fun v66_48 => (k1 (xload E.P m 3 v66_48) fun v67_49 => (k1 (mindexAddr E.P 29 v65_47 v67_49) fun v68_50 => (k1 (xload E.P m 3 v68_50) fun v69_51 => (k1 (mbin E .sub 3 v69_51 (.int .i64 1)) fun v70_52 => (k1 (mindexAddr E.P 29 v65_47 v67_49) fun v71_53 => (ks (xstore E.P base m 3 v71_53 v70_52) fun m => (k1 (mbin E .add 3 x24 (.int .i64 1)) fun v72_54 => (ih x5 x22 x23 v72_54 m)))))))))))))))))))))))))))))))))))))))))))))))))) (kx2 x5 m)))) n
noncomputable def r68 (call : CallF) (fuel base : Nat) (x0 : Value) (x1 : Value) (m : M) : Res2 :=
  (k2 (xmakeSlice E.P m 56 x0 x0) fun v10_1 m => (k2 (vcall E.P base m .len [56] [v10_1]) fun v12_2 m => (r68_L0 call fuel base (fun y1_7 y5_8 m => (k2 (vcall E.P base m .len [22] [y1_7]) fun v23_9 m => (r68_L2 call fuel base (fun y5_55 m => (fVal y5_55 fun v => some (.ret v, m))) fuel y5_8 y1_7 v23_9 (.int .i64 0) m))) fuel x0 x1 v10_1 v12_2 (.int .i64 0) m)))
def keep68 : Keep := { region := fun i => ([[0, 1], [0, 1, 5], [0, 1, 5, 12, 13], [0, 1, 5, 12, 13, 14], [0, 1, 5, 6, 12, 13], [0, 1, 5, 12, 13], [0, 1, 5, 12, 13], [5, 22, 23, 24], [5, 22, 23, 24, 25], [5, 8, 22, 23, 24], [5, 8, 22, 23, 24], [5, 8, 22, 23, 24], [5, 8, 22, 23, 24], [5, 22, 23, 24], [5, 22, 23, 24], [4]] : List (List Nat))[i]?, exit := fun i => ([[1, 5], [0, 1, 5, 12, 13], [5], [5, 22, 23, 24]] : List (List Nat))[i]?, ret := some [4] }
noncomputable def r68_L0_R (call : CallF) (fuel base n : Nat) (vs : List Value) (m : M) (K : KT) : Res2 := match vs with
  | [x0, x1, x5, x12, x13] => r68_L0 call fuel base (fun y1 y5 m => K (.exit 0) { n := 74, l := [(1, y1), (5, y5)] } m) n x0 x1 x5 x12 x13 m
  | _ => none
noncomputable def r68_L2_R (call : CallF) (fuel base n : Nat) (vs : List Value) (m : M) (K : KT) : Res2 := match vs with
  | [x5, x22, x23, x24] => r68_L2 call fuel base (fun y5 m => K (.exit 2) { n := 74, l := [(5, y5)] } m) n x5 x22 x23 x24 m
  | _ => none
noncomputable def lp68 (call : CallF) (fuel base : Nat) : Lp := lpsel [(0, fun T m K => kslots 74 [0, 1, 5, 12, 13] T fun vs => r68_L0_R call fuel base fuel vs m K), (2, fun T m K => kslots 74 [5, 22, 23, 24] T fun vs => r68_L2_R call fuel base fuel vs m K)]
noncomputable def c68 : Code := Try.f68.body.getD .skip
theorem r68_L0_lk (call : CallF) (fuel base : Nat) : LoopsOk E call (lp68 call fuel base) fuel base 0 (loopB (blockB (seqR (seqL (seqR (seqR c68)))))) = (And True (And (And True True) (And (And True True) True))) := by kernel_rfl
theorem r68_L0_ok (call : CallF) (fuel base : Nat) : LpOk E call (lp68 call fuel base) fuel base 0 (loopB (blockB (seqR (seqL (seqR (seqR c68)))))) := by
  refine loop_ok (kp := keep68) (hb := Eq.mpr (r68_L0_lk call fuel base) (And.intro trivial (And.intro (And.intro trivial trivial) (And.intro (And.intro trivial trivial) trivial)))) 74 [0, 1, 5, 12, 13] (fun n vs m K => r68_L0_R call fuel base n vs m K) ?_ ?_ (fun _ _ _ => rfl)
  · intro vs m K
    unfold r68_L0_R
    split <;> rfl
  · intro n vs m K hl
    match vs, hl with
    | [x0, x1, x5, x12, x13], _ => show _ = _; kernel_rfl
theorem r68_L2_lk (call : CallF) (fuel base : Nat) : LoopsOk E call (lp68 call fuel base) fuel base 2 (loopB (blockB (seqR (seqL (seqR (seqR (seqR c68))))))) = (And True (And (And True True) (And (And True (And True (And True (And True True)))) True))) := by kernel_rfl
theorem r68_L2_ok (call : CallF) (fuel base : Nat) : LpOk E call (lp68 call fuel base) fuel base 2 (loopB (blockB (seqR (seqL (seqR (seqR (seqR c68))))))) := by
  refine loop_ok (kp := keep68) (hb := Eq.mpr (r68_L2_lk call fuel base) (And.intro trivial (And.intro (And.intro trivial trivial) (And.intro (And.intro trivial (And.intro trivial (And.intro trivial (And.intro trivial trivial)))) trivial)))) 74 [5, 22, 23, 24] (fun n vs m K => r68_L2_R call fuel base n vs m K) ?_ ?_ (fun _ _ _ => rfl)
  · intro vs m K
    unfold r68_L2_R
    split <;> rfl
  · intro n vs m K hl
    match vs, hl with
    | [x5, x22, x23, x24], _ => show _ = _; kernel_rfl
theorem r68_eq (call : CallF) (fuel base : Nat) (x0 : Value) (x1 : Value) (m : M) : kbody E call keep68 (lp68 call fuel base) base Try.f68 [x0, x1] m = r68 call fuel base x0 x1 m := by
  kernel_rfl
noncomputable def rf68 : RF := fun call fuel base args m => match args with
  | [x0, x1] => r68 call fuel base x0 x1 m
  | _ => none
theorem r68_lk (call : CallF) (fuel base : Nat) : LoopsOk E call (lp68 call fuel base) fuel base 0 c68 = (And True (And True (And (And True (LpOk E call (lp68 call fuel base) fuel base 0 (loopB (blockB (seqR (seqL (seqR (seqR c68)))))))) (And (And True (LpOk E call (lp68 call fuel base) fuel base 2 (loopB (blockB (seqR (seqL (seqR (seqR (seqR c68))))))))) (And True True))))) := by kernel_rfl
theorem r68_fn : E.P.funcs[68]? = some Try.f68 := by kernel_rfl
theorem r68_body : Try.f68.body = some c68 := by kernel_rfl
theorem rf68_ok : RFok E 68 rf68 := by
  refine ⟨Try.f68, r68_fn, fun call fuel base args m r _ h => ?_⟩
  unfold rf68 at h
  split at h
  · rw [← r68_eq] at h
    exact kbody_sound (c := c68) r68_body (Eq.mpr (r68_lk call fuel base) (And.intro trivial (And.intro trivial (And.intro (And.intro trivial (r68_L0_ok call fuel base)) (And.intro (And.intro trivial (r68_L2_ok call fuel base)) (And.intro trivial trivial)))))) h
  · simp at h
end Go.AM
namespace Go.AM
open Go Go.Proofs
noncomputable def r72_L0 (call : CallF) (fuel base : Nat) (kx0 : Value → M → Res2) (n : Nat) : Value → Value → M → Res2 :=
  Nat.rec (motive := fun _ => Value → Value → M → Res2) (fun _ _ _ => none)
    (fun _ ih x0 x1 m =>
      (k1 (mbin E .neq 3 x1 (.int .i64 0)) fun v6_1 => (kb v6_1 (k1 (mbin E .rem 3 x0 x1) fun v10_2 => (ih x1 v10_2 m)) (kx0 x0 m)))) n
noncomputable def r72 (call : CallF) (fuel base : Nat) (x0 : Value) (x1 : Value) (m : M) : Res2 :=
  (r72_L0 call fuel base (fun y0_3 m => (fVal y0_3 fun v => some (.ret v, m))) fuel x0 x1 m)
def keep72 : Keep := { region := fun i => ([[0, 1], [0, 1, 6], [0, 1], [4]] : List (List Nat))[i]?, exit := fun i => ([[0], [0, 1]] : List (List Nat))[i]?, ret := some [4] }
noncomputable def r72_L0_R (call : CallF) (fuel base n : Nat) (vs : List Value) (m : M) (K : KT) : Res2 := match vs with
  | [x0, x1] => r72_L0 call fuel base (fun y0 m => K (.exit 0) { n := 12, l := [(0, y0)] } m) n x0 x1 m
  | _ => none
noncomputable def lp72 (call : CallF) (fuel base : Nat) : Lp := lpsel [(0, fun T m K => kslots 12 [0, 1] T fun vs => r72_L0_R call fuel base fuel vs m K)]
noncomputable def c72 : Code := Try.f72.body.getD .skip
theorem r72_L0_lk (call : CallF) (fuel base : Nat) : LoopsOk E call (lp72 call fuel base) fuel base 0 (loopB (blockB (seqL (seqR c72)))) = (And (And True (And True True)) True) := by kernel_rfl
theorem r72_L0_ok (call : CallF) (fuel base : Nat) : LpOk E call (lp72 call fuel base) fuel base 0 (loopB (blockB (seqL (seqR c72)))) := by
  refine loop_ok (kp := keep72) (hb := Eq.mpr (r72_L0_lk call fuel base) (And.intro (And.intro trivial (And.intro trivial trivial)) trivial)) 12 [0, 1] (fun n vs m K => r72_L0_R call fuel base n vs m K) ?_ ?_ (fun _ _ _ => rfl)
  · intro vs m K
    unfold r72_L0_R
    split <;> rfl
  · intro n vs m K hl
    match vs, hl with
    | [x0, x1], _ => show _ = _; kernel_rfl
theorem r72_eq (call : CallF) (fuel base : Nat) (x0 : Value) (x1 : Value) (m : M) : kbody E call keep72 (lp72 call fuel base) base Try.f72 [x0, x1] m = r72 call fuel base x0 x1 m := by
  kernel_rfl
noncomputable def rf72 : RF := fun call fuel base args m => match args with
  | [x0, x1] => r72 call fuel base x0 x1 m
  | _ => none
theorem r72_lk (call : CallF) (fuel base : Nat) : LoopsOk E call (lp72 call fuel base) fuel base 0 c72 = (And True (And (LpOk E call (lp72 call fuel base) fuel base 0 (loopB (blockB (seqL (seqR c72))))) (And True True))) := by kernel_rfl
theorem r72_fn : E.P.funcs[72]? = some Try.f72 := by kernel_rfl
theorem r72_body : Try.f72.body = some c72 := by kernel_rfl
theorem rf72_ok : RFok E 72 rf72 := by
  refine ⟨Try.f72, r72_fn, fun call fuel base args m r _ h => ?_⟩
  unfold rf72 at h
  split at h
  · rw [← r72_eq] at h
    exact kbody_sound (c := c72) r72_body (Eq.mpr (r72_lk call fuel base) (And.intro trivial (And.intro (r72_L0_ok call fuel base) (And.intro trivial trivial)))) h
  · simp at h
end Go.AM
namespace Go.AM
open Go Go.Proofs
noncomputable def r74 (call : CallF) (fuel base : Nat) (x0 : Value) (x1 : Value) (x2 : Value) (m : M) : Res2 :=
  (k2 (xbox m x2) fun v5_1 m => (k1 (mfieldAddr E.P 62 v5_1 2) fun v7_2 => (k1 (xload E.P m 3 v7_2) fun v8_3 => (k1 (mbin E .lss 3 v8_3 (.int .i64 1)) fun v9_4 => (kb v9_4 (k0 (mpick (.bool true) (.bool true) undef) fun v15_5 => (kb v15_5 (k0 (mpick (.bool true) (.bool true) undef) fun v21_6 => (kb v21_6 (fVal (.bool false) fun v => some (.ret v, m)) (k1 (mfieldAddr E.P 62 v5_1 0) fun v22_7 => (k1 (xload E.P m 3 v22_7) fun v23_8 => (k1 (mbin E .leq 3 (.int .i64 0) v23_8) fun v24_9 => (kb v24_9 (k1 (mfieldAddr E.P 62 v5_1 0) fun v26_10 => (k1 (xload E.P m 3 v26_10) fun v27_11 => (k1 (mfieldAddr E.P 62 v5_1 2) fun v29_12 => (k1 (xload E.P m 3 v29_12) fun v30_13 => (k1 (mbin E .sub 3 x0 v30_13) fun v31_14 => (k1 (mbin E .leq 3 v27_11 v31_14) fun v32_15 => (k0 (mpick (.bool true) v32_15 (.bool false)) fun v33_16 => (kb v33_16 (k1 (mfieldAddr E.P 62 v5_1 1) fun v35_17 => (k1 (xload E.P m 3 v35_17) fun v36_18 => (k1 (mbin E .leq 3 (.int .i64 0) v36_18) fun v37_19 => (k0 (mpick (.bool true) v37_19 (.bool false)) fun v38_20 => (kb v38_20 (k1 (mfieldAddr E.P 62 v5_1 1) fun v40_21 => (k1 (xload E.P m 3 v40_21) fun v41_22 => (k1 (mfieldAddr E.P 62 v5_1 2) fun v43_23 => (k1 (xload E.P m 3 v43_23) fun v44_24 => (k1 (mbin E .sub 3 x1 v44_24) fun v45_25 => (k1 (mbin E .leq 3 v41_22 v45_25) fun v46_26 => (k0 (mpick (.bool true) v46_26 (.bool false)) fun v47_27 => (fVal v47_27 fun v => some (.ret v, m))))))))) (k0 (mpick (.bool false) undef (.bool false)) fun v47_28 => (fVal v47_28 fun v => some (.ret v, m)))))))) (k0 (mpick (.bool false) undef (.bool false)) fun v38_29 => (kb v38_29 (k1 (mfieldAddr E.P 62 v5_1 1) fun v40_30 => (k1 (xload E.P m 3 v40_30) fun v41_31 => (k1 (mfieldAddr E.P 62 v5_1 2) fun v43_32 => (k1 (xload E.P m 3 v43_32) fun v44_33 => (k1 (mbin E .sub 3 x1 v44_33) fun v45_34 => (k1 (mbin E .leq 3 v41_31 v45_34) fun v46_35 => (k0 (mpick (.bool true) v46_35 (.bool false)) fun v47_36 => (fVal v47_36 fun v => some (.ret v, m))))))))) (k0 (mpick (.bool false) undef (.bool false)) fun v47_37 => (fVal v47_37 fun v => some (.ret v, m))))))))))))) (k0 (mpick (.bool false) undef (.bool false)) fun v33_38 => (kb v33_38 (k1 (mfieldAddr E.P 62 v5_1 1) fun v35_39 => (k1 (xload E.P m 3 v35_39) fun v36_40 => (k1 (mbin E .leq 3 (.int .i64 0) v36_40) fun v37_41 => (k0 (mpick (.bool true) v37_41 (.bool false)) fun v38_42 => (kb v38_42 (k1 (mfieldAddr E.P 62 v5_1 1) fun v40_43 => (k1 (xload E.P m 3 v40_43) fun v41_44 => (k1 (mfieldAddr E.P 62 v5_1 2) fun v43_45 => (k1 (xload E.P m 3 v43_45) fun v44_46 => (k1 (mbin E .sub 3 x1 v44_46) fun v45_47 => (k1 (mbin E .leq 3 v41_44 v45_47) fun v46_48 => (k0 (mpick (.bool true) v46_48 (.bool false)) fun v47_49 => (fVal v47_49 fun v => some (.ret v, m))))))))) (k0 (mpick (.bool false) undef (.bool false)) fun v47_50 => (fVal v47_50 fun v => some (.ret v, m)))))))) (k0 (mpick (.bool false) undef (.bool false)) fun v38_51 => (kb v38_51 (k1 (mfieldAddr E.P 62 v5_1 1) fun v40_52 => (k1 (xload E.P m 3 v40_52) fun v41_53 => (k1 (mfieldAddr E.P 62 v5_1 2) fun v43_54 => (k1 (xload E.P m 3 v43_54) fun v44_55 => (k1 (mbin E .sub 3 x1 v44_55) fun v45_56 => (k1 (mbin E .leq 3 v41_53 v45_56) fun v46_57 => (k0 (mpick (.bool true) v46_57 (.bool false)) fun v47_58 => (fVal v47_58 fun v => some (.ret v, m))))))))) (k0 (mpick (.bool false) undef (.bool false)) fun v47_59 => (fVal v47_59 fun v => some (.ret v, m))))))))))))) (k1 (mfieldAddr E.P 62 v5_1 2) fun v17_60 => (k1 (xload E.P m 3 v17_60) fun v18_61 => (k1 (mbin E .gtr 3 v18_61 x1) fun v20_62 => (k0 (mpick (.bool false) (.bool true) v20_62) fun v21_63 => (kb v21_63 (fVal (.bool false) fun v => some (.ret v, m)) (k1 (mfieldAddr E.P 62 v5_1 0) fun v22_64 => (k1 (xload E.P m 3 v22_64) fun v23_65 => (k1 (mbin E .leq 3 (.int .i64 0) v23_65) fun v24_66 => (kb v24_66 (k1 (mfieldAddr E.P 62 v5_1 0) fun v26_67 => (k1 (xload E.P m 3 v26_67) fun v27_68 => (k1 (mfieldAddr E.P 62 v5_1 2) fun v29_69 => (k1 (xload E.P m 3 v29_69) fun v30_70 => (k1 (mbin E .sub 3 x0 v30_70) fun v31_71 => (k1 (mbin E .leq 3 v27_68 v31_71) fun v32_72 => (k0 (mpick (.bool true) v32_72 (.bool false)) fun v33_73 => (kb v33_73 (k1 (mfieldAddr E.P 62 v5_1 1) fun v35_74 => (k1 (xload E.P m 3 v35_74) fun v36_75 => (k1 (mbin E .leq 3 (.int .i64 0) v36_75) fun v37_76 => (k0 (mpick (.bool true) v37_76 (.bool false)) fun v38_77 => (kb v38_77 (k1 (mfieldAddr E.P 62 v5_1 1) fun v40_78 => (k1 (xload E.P m 3 v40_78) fun v41_79 => (k1 (mfieldAddr E.P 62 v5_1 2) fun v43_80 => (k1 (xload E.P m 3 v43_80) fun v44_81 => (k1 (mbin E .sub 3 x1 v44_81) fun v45_82 => (k1 (mbin E .leq 3 v41_79 v45_82) fun v46_83 => (k0 (mpick (.bool true) v46_83 (.bool false)) fun v47_84 => (fVal v47_84 fun v => some (.ret v, m))))))))) (k0 (mpick (.bool false) undef (.bool false)) fun v47_85 => (fVal v47_85 fun v => some (.ret v, m)))))))) (k0 (mpick (.bool false) undef (.bool false)) fun v38_86 => (kb v38_86 (k1 (mfieldAddr E.P 62 v5_1 1) fun v40_87 => (k1 (xload E.P m 3 v40_87) fun v41_88 => (k1 (mfieldAddr E.P 62 v5_1 2) fun v43_89 => (k1 (xload E.P m 3 v43_89) fun v44_90 => (k1 (mbin E .sub 3 x1 v44_90) fun v45_91 => (k1 (mbin E .leq 3 v41_88 v45_91) fun v46_92 => (k0 (mpick (.bool true) v46_92 (.bool false)) fun v47_93 => (fVal v47_93 fun v => some (.ret v, m))))))))) (k0 (mpick (.bool false) undef (.bool false)) fun v47_94 => (fVal v47_94 fun v => some (.ret v, m))))))))))))) (k0 (mpick (.bool false) undef (.bool false)) fun v33_95 => (kb v33_95 (k1 (mfieldAddr E.P 62 v5_1 1) fun v35_96 => (k1 (xload E.P m 3 v35_96) fun v36_97 => (k1 (mbin E .leq 3 (.int .i64 0) v36_97) fun v37_98 => (k0 (mpick (.bool true) v37_98 (.bool false)) fun v38_99 => (kb v38_99 (k1 (mfieldAddr E.P 62 v5_1 1) fun v40_100 => (k1 (xload E.P m 3 v40_100) fun v41_101 => (k1 (mfieldAddr E.P 62 v5_1 2) fun v43_102 => (k1 (xload E.P m 3 v43_102) fun v44_103 => (k1 (mbin E .sub 3 x1 v44_103) fun v45_104 => (k1 (mbin E .leq 3 v41_101 v45_104) fun v46_105 => (k0 (mpick (.bool true) v46_105 (.bool false)) fun v47_106 => (fVal v47_106 fun v => some (.ret v, m))))))))) (k0 (mpick (.bool false) undef (.bool false)) fun v47_107 => (fVal v47_107 fun v => some (.ret v, m)))))))) (k0 (mpick (.bool false) undef (.bool false)) fun v38_108 => (kb v38_108 (k1 (mfieldAddr E.P 62 v5_1 1) fun v40_109 => (k1 (xload E.P m 3 v40_109) fun v41_110 => (k1 (mfieldAddr E.P 62 v5_1 2) fun v43_111 => (k1 (xload E.P m 3 v43_111) fun v44_112 => (k1 (mbin E .sub 3 x1 v44_112) fun v45_113 => (k1 (mbin E .leq 3 v41_110 v45_113) fun v46_114 => (k0 (mpick (.bool true) v46_114 (.bool false)) fun v47_115 => (fVal v47_115 fun v => some (.ret v, m))))))))) (k0 (mpick (.bool false) undef (.bool false)) fun v47_116 => (fVal v47_116 fun v => some (.ret v, m)))))))))))))))))) (k1 (mfieldAddr E.P 62 v5_1 2) fun v11_117 => (k1 (xload E.P m 3 v11_117) fun v12_118 => (k1 (mbin E .gtr 3 v12_118 x0) fun v14_119 => (k0 (mpick (.bool false) (.bool true) v14_119) fun v15_120 => (kb v15_120 (k0 (mpick (.bool true) (.bool true) undef) fun v21_121 => (kb v21_121 (fVal (.bool false) fun v => some (.ret v, m)) (k1 (mfieldAddr E.P 62 v5_1 0) fun v22_122 => (k1 (xload E.P m 3 v22_122) fun v23_123 => (k1 (mbin E .leq 3 (.int .i64 0) v23_123) fun v24_124 => (kb v24_124 (k1 (mfieldAddr E.P 62 v5_1 0) fun v26_125 => (k1 (xload E.P m 3 v26_125) fun v27_126 => (k1 (mfieldAddr E.P 62 v5_1 2) fun v29_127 => (k1 (xload E.P m 3 v29_127) fun v30_128 => (k1 (mbin E .sub 3 x0 v30_128) fun v31_129 => (k1 (mbin E .leq 3 v27_126 v31_129) fun v32_130 => (k0 (mpick (.bool true) v32_130 (.bool false)) fun v33_131 => (kb v33_131 (k1 (mfieldAddr E.P 62 v5_1 1) fun v35_132 => (k1 (xload E.P m 3 v35_132) fun v36_133 => (k1 (mbin E .leq 3 (.int .i64 0) v36_133) fun v37_134 => (k0 (mpick (.bool true) v37_134 (.bool false)) fun v38_135 => (kb v38_135 (k1 (mfieldAddr E.P 62 v5_1 1) fun v40_136 => (k1 (xload E.P m 3 v40_136) fun v41_137 => (k1 (mfieldAddr E.P 62 v5_1 2) fun v43_138 => (k1 (xload E.P m 3 v43_138) fun v44_139 => (k1 (mbin E .sub 3 x1 v44_139) fun v45_140 => (k1 (mbin E .leq 3 v41_137 v45_140) fun v46_141 => (k0 (mpick (.bool true) v46_141 (.bool false)) fun v47_142 => (fVal v47_142 fun v => some (.ret v, m))))))))) (k0 (mpick (.bool false) undef (.bool false)) fun v47_143 => (fVal v47_143 fun v => some (.ret v, m)))))))) (k0 (mpick (.bool false) undef (.bool false)) fun v38_144 => (kb v38_144 (k1 (mfieldAddr E.P 62 v5_1 1) fun v40_145 => (k1 (xload E.P m 3 v40_145) fun v41_146 => (k1 (mfieldAddr E.P 62 v5_1 2) fun v43_147 => (k1 (xload E.P m 3 v43_147) fun v44_148 => (k1 (mbin E .sub 3 x1 v44_148) fun v45_149 => (k1 (mbin E .leq 3 v41_146 v45_149) fun v46_150 => (k0 (mpick (.bool true) v46_150 (.bool false)) fun v47_151 => (fVal v47_151 fun v => some (.ret v, m))))))))) (k0 (mpick (.bool false) undef (.bool false)) fun v47_152 => (fVal v47_152 fun v => some (.ret v, m))))))))))))) (k0 (mpick (.bool false) undef (.bool false)) fun v33_153 => (kb v33_153 (k1 (mfieldAddr E.P 62 v5_1 1) fun v35_154 => (k1 (xload E.P m 3 v35_154) fun v36_155 => (k1 (mbin E .leq 3 (.int .i64 0) v36_155) fun v37_156 => (k0 (mpick (.bool true) v37_156 (.bool false)) fun v38_157 => (kb v38_157 (k1 (mfieldAddr E.P 62 v5_1 1) fun v40_158 => (k1 (xload E.P m 3 v40_158) fun v41_159 => (k1 (mfieldAddr E.P 62 v5_1 2) fun v43_160 => (k1 (xload E.P m 3 v43_160) fun v44_161 => (k1 (mbin E .sub 3 x1 v44_161) fun v45_162 => (k1 (mbin E .leq 3 v41_159 v45_162) fun v46_163 => (k0 (mpick (.bool true) v46_163 (.bool false)) fun v47_164 => (fVal v47_164 fun v => some (.ret v, m))))))))) (k0 (mpick (.bool false) undef (.bool false)) fun v47_165 => (fVal v47_165 fun v => some (.ret v, m)))))))) (k0 (mpick (.bool false) undef (.bool false)) fun v38_166 => (kb v38_166 (k1 (mfieldAddr E.P 62 v5_1 1) fun v40_167 => (k1 (xload E.P m 3 v40_167) fun v41_168 => (k1 (mfieldAddr E.P 62 v5_1 2) fun v43_169 => (k1 (xload E.P m 3 v43_169) fun v44_170 => (k1 (mbin E .sub 3 x1 v44_170) fun v45_171 => (k1 (mbin E .leq 3 v41_168 v45_171) fun v46_172 => (k0 (mpick (.bool true) v46_172 (.bool false)) fun v47_173 => (fVal v47_173 fun v => some (.ret v, m))))))))) (k0 (mpick (.bool false) undef (.bool false)) fun v47_174 => (fVal v47_174 fun v => some (.ret v, m))))))))))))) (k1 (mfieldAddr E.P 62 v5_1 2) fun v17_175 => (k1 (xload E.P m 3 v17_175) fun v18_176 => (k1 (mbin E .gtr 3 v18_176 x1) fun v20_177 => (k0 (mpick (.bool false) (.bool true) v20_177) fun v21_178 => (kb v21_178 (fVal (.bool false) fun v => some (.ret v, m)) (k1 (mfieldAddr E.P 62 v5_1 0) fun v22_179 => (k1 (xload E.P m 3 v22_179) fun v23_180 => (k1 (mbin E .leq 3 (.int .i64 0) v23_180) fun v24_181 => (kb v24_181 (k1 (mfieldAddr E.P 62 v5_1 0) fun v26_182 => (k1 (xload E.P m 3 v26_182) fun v27_183 => (k1 (mfieldAddr E.P 62 v5_1 2) fun v29_184 => (k1 (xload E.P m 3 v29_184) fun v30_185 => (k1 (mbin E .sub 3 x0 v30_185) fun v31_186 => (k1 (mbin E .leq 3 v27_183 v31_186) fun v32_187 => (k0 (mpick (.bool true) v32_187 (.bool false)) fun v33_188 => (kb v33_188 (k1 (mfieldAddr E.P 62 v5_1 1) fun v35_189 => (k1 (xload E.P m 3 v35_189) fun v36_190 => (k1 (mbin E .leq 3 (.int .i64 0) v36_190) fun v37_191 => (k0 (mpick (.bool true) v37_191 (.bool false)) fun v38_192 => (kb v38_192 (k1 (mfieldAddr E.P 62 v5_1 1) fun v40_193 => (k1 (xload E.P m 3 v40_193) fun v41_194 => (k1 (mfieldAddr E.P 62 v5_1 2) fun v43_195 => (k1 (xload E.P m 3 v43_195) fun v44_196 => (k1 (mbin E .sub 3 x1 v44_196) fun v45_197 => (k1 (mbin E .leq 3 v41_194 v45_197) fun v46_198 => (k0 (mpick (.bool true) v46_198 (.bool false)) fun v47_199 => (fVal v47_199 fun v => some (.ret v, m))))))))) (k0 (mpick (.bool false) undef (.bool false)) fun v47_200 => (fVal v47_200 fun v => some (.ret v, m)))))))) (k0 (mpick (.bool false) undef (.bool false)) fun v38_201 => (kb v38_201 (k1 (mfieldAddr E.P 62 v5_1 1) fun v40_202 => (k1 (xload E.P m 3 v40_202) fun v41_203 => (k1 (mfieldAddr E.P 62 v5_1 2) fun v43_204 => (k1 (xload E.P m 3 v43_204) fun v44_205 => (k1 (mbin E .sub 3 x1 v44_205) fun v45_206 => (k1 (mbin E .leq 3 v41_203 v45_206) fun v46_207 => (k0 (mpick (.bool true) v46_207 (.bool false)) fun v47_208 => (fVal v47_208 fun v => some (.ret v, m))))))))) (k0 (mpick (.bool false) undef (.bool false)) fun v47_209 => (fVal v47_209 fun v => some (.ret v, m))))))))))))) (k0 (mpick (.bool false) undef (.bool false)) fun v33_210 => (kb v33_210 (k1 (mfieldAddr E.P 62 v5_1 1) fun v35_211 => (k1 (xload E.P m 3 v35_211) fun v36_212 => (k1 (mbin E .leq 3 (.int .i64 0) v36_212) fun v37_213 => (k0 (mpick (.bool true) v37_213 (.bool false)) fun v38_214 => (kb v38_214 (k1 (mfieldAddr E.P 62 v5_1 1) fun v40_215 => (k1 (xload E.P m 3 v40_215) fun v41_216 => (k1 (mfieldAddr E.P 62 v5_1 2) fun v43_217 => (k1 (xload E.P m 3 v43_217) fun v44_218 => (k1 (mbin E .sub 3 x1 v44_218) fun v45_219 => (k1 (mbin E .leq 3 v41_216 v45_219) fun v46_220 => (k0 (mpick (.bool true) v46_220 (.bool false)) fun v47_221 => (fVal v47_221 fun v => some (.ret v, m))))))))) (k0 (mpick (.bool false) undef (.bool false)) fun v47_222 => (fVal v47_222 fun v => some (.ret v, m)))))))) (k0 (mpick (.bool false) undef (.bool false)) fun v38_223 => (kb v38_223 (k1 (mfieldAddr E.P 62 v5_1 1) fun v40_224 => (k1 (xload E.P m 3 v40_224) fun v41_225 => (k1 (mfieldAddr E.P 62 v5_1 2) fun v43_226 => (k1 (xload E.P m 3 v43_226) fun v44_227 => (k1 (mbin E .sub 3 x1 v44_227) fun v45_228 => (k1 (mbin E .leq 3 v41_225 v45_228) fun v46_229 => (k0 (mpick (.bool true) v46_229 (.bool false)) fun v47_230 => (fVal v47_230 fun v => some (.ret v, m))))))))) (k0 (mpick (.bool false) undef (.bool false)) fun v47_231 => (fVal v47_231 fun v => some (.ret v, m))))))))))))))))))))))))))
def keep74 : Keep := { region := fun i => ([[0, 1, 5], [0, 1, 5, 21], [6], [6]] : List (List Nat))[i]?, exit := fun i => ([] : List (List Nat))[i]?, ret := some [6] }
noncomputable def lp74 (call : CallF) (fuel base : Nat) : Lp := lpsel []
noncomputable def c74 : Code := Try.f74.body.getD .skip
theorem r74_eq (call : CallF) (fuel base : Nat) (x0 : Value) (x1 : Value) (x2 : Value) (m : M) : kbody E call keep74 (lp74 call fuel base) base Try.f74 [x0, x1, x2] m = r74 call fuel base x0 x1 x2 m := by
  kernel_rfl
noncomputable def rf74 : RF := fun call fuel base args m => match args with
  | [x0, x1, x2] => r74 call fuel base x0 x1 x2 m
  | _ => none
theorem r74_lk (call : CallF) (fuel base : Nat) : LoopsOk E call (lp74 call fuel base) fuel base 0 c74 = (And True (And (And True (And (And True True) True)) (And True True))) := by kernel_rfl
theorem r74_fn : E.P.funcs[74]? = some Try.f74 := by kernel_rfl
theorem r74_body : Try.f74.body = some c74 := by kernel_rfl
theorem rf74_ok : RFok E 74 rf74 := by
  refine ⟨Try.f74, r74_fn, fun call fuel base args m r _ h => ?_⟩
  unfold rf74 at h
  split at h
  · rw [← r74_eq] at h
    exact kbody_sound (c := c74) r74_body (Eq.mpr (r74_lk call fuel base) (And.intro trivial (And.intro (And.intro trivial (And.intro (And.intro trivial trivial) trivial)) (And.intro trivial trivial)))) h
  · simp at h
end Go.AM
namespace Go.AM
open Go Go.Proofs
noncomputable def r75 (call : CallF) (fuel base : Nat) (x0 : Value) (x1 : Value) (m : M) : Res2 :=
  (k2 (xbox m x0) fun v2_1 m => (k2 (xbox m x1) fun v3_2 m => (k1 (mfieldAddr E.P 62 v2_1 0) fun v5_3 => (k1 (xload E.P m 3 v5_3) fun v6_4 => (k1 (mfieldAddr E.P 62 v3_2 0) fun v7_5 => (k1 (xload E.P m 3 v7_5) fun v8_6 => (k1 (mfieldAddr E.P 62 v3_2 2) fun v9_7 => (k1 (xload E.P m 3 v9_7) fun v10_8 => (k1 (mbin E .add 3 v8_6 v10_8) fun v11_9 => (k1 (mbin E .lss 3 v6_4 v11_9) fun v12_10 => (kb v12_10 (k1 (mfieldAddr E.P 62 v3_2 0) fun v14_11 => (k1 (xload E.P m 3 v14_11) fun v15_12 => (k1 (mfieldAddr E.P 62 v2_1 0) fun v16_13 => (k1 (xload E.P m 3 v16_13) fun v17_14 => (k1 (mfieldAddr E.P 62 v2_1 2) fun v18_15 => (k1 (xload E.P m 3 v18_15) fun v19_16 => (k1 (mbin E .add 3 v17_14 v19_16) fun v20_17 => (k1 (mbin E .lss 3 v15_12 v20_17) fun v21_18 => (k0 (mpick (.bool true) v21_18 (.bool false)) fun v22_19 => (kb v22_19 (k1 (mfieldAddr E.P 62 v2_1 1) fun v24_20 => (k1 (xload E.P m 3 v24_20) fun v25_21 => (k1 (mfieldAddr E.P 62 v3_2 1) fun v26_22 => (k1 (xload E.P m 3 v26_22) fun v27_23 => (k1 (mfieldAddr E.P 62 v3_2 2) fun v28_24 => (k1 (xload E.P m 3 v28_24) fun v29_25 => (k1 (mbin E .add 3 v27_23 v29_25) fun v30_26 => (k1 (mbin E .lss 3 v25_21 v30_26) fun v31_27 => (k0 (mpick (.bool true) v31_27 (.bool false)) fun v32_28 => (kb v32_28 (k1 (mfieldAddr E.P 62 v3_2 1) fun v34_29 => (k1 (xload E.P m 3 v34_29) fun v35_30 => (k1 (mfieldAddr E.P 62 v2_1 1) fun v36_31 => (k1 (xload E.P m 3 v36_31) fun v37_32 => (k1 (mfieldAddr E.P 62 v2_1 2) fun v38_33 => (k1 (xload E.P m 3 v38_33) fun v39_34 => (k1 (mbin E .add 3 v37_32 v39_34) fun v40_35 => (k1 (mbin E .lss 3 v35_30 v40_35) fun v41_36 => (k0 (mpick (.bool true) v41_36 (.bool false)) fun v42_37 => (fVal v42_37 fun v => some (.ret v, m))))))))))) (k0 (mpick (.bool false) undef (.bool false)) fun v42_38 => (fVal v42_38 fun v => some (.ret v, m))))))))))))) (k0 (mpick (.bool false) undef (.bool false)) fun v32_39 => (kb v32_39 (k1 (mfieldAddr E.P 62 v3_2 1) fun v34_40 => (k1 (xload E.P m 3 v34_40) fun v35_41 => (k1 (mfieldAddr E.P 62 v2_1 1) fun v36_42 => (k1 (xload E.P m 3 v36_42) fun v37_43 => (k1 (mfieldAddr E.P 62 v2_1 2) fun v38_44 => (k1 (xload E.P m 3 v38_44) fun v39_45 => (k1 (mbin E .add 3 v37_43 v39_45) fun v40_46 => (k1 (mbin E .lss 3 v35_41 v40_46) fun v41_47 => (k0 (mpick (.bool true) v41_47 (.bool false)) fun v42_48 => (fVal v42_48 fun v => some (.ret v, m))))))))))) (k0 (mpick (.bool false) undef (.bool false)) fun v42_49 => (fVal v42_49 fun v => some (.ret v, m))))))))))))))) (k0 (mpick (.bool false) undef (.bool false)) fun v22_50 => (kb v22_50 (k1 (mfieldAddr E.P 62 v2_1 1) fun v24_51 => (k1 (xload E.P m 3 v24_51) fun v25_52 => (k1 (mfieldAddr E.P 62 v3_2 1) fun v26_53 => (k1 (xload E.P m 3 v26_53) fun v27_54 => (k1 (mfieldAddr E.P 62 v3_2 2) fun v28_55 => (k1 (xload E.P m 3 v28_55) fun v29_56 => (k1 (mbin E .add 3 v27_54 v29_56) fun v30_57 => (k1 (mbin E .lss 3 v25_52 v30_57) fun v31_58 => (k0 (mpick (.bool true) v31_58 (.bool false)) fun v32_59 => (kb v32_59 (k1 (mfieldAddr E.P 62 v3_2 1) fun v34_60 => (k1 (xload E.P m 3 v34_60) fun v35_61 => (k1 (mfieldAddr E.P 62 v2_1 1) fun v36_62 => (k1 (xload E.P m 3 v36_62) fun v37_63 => (k1 (mfieldAddr E.P 62 v2_1 2) fun v38_64 => (k1 (xload E.P m 3 v38_64) fun v39_65 => (k1 (mbin E .add 3 v37_63 v39_65) fun v40_66 => (k1 (mbin E .lss 3 v35_61 v40_66) fun v41_67 => (k0 (mpick (.bool true) v41_67 (.bool false)) fun v42_68 => (fVal v42_68 fun v => some (.ret v, m))))))))))) (k0 (mpick (.bool false) undef (.bool false)) fun v42_69 => (fVal v42_69 fun v => some (.ret v, m))))))))))))) (k0 (mpick (.bool false) undef (.bool false)) fun v32_70 => (kb v32_70 (k1 (mfieldAddr E.P 62 v3_2 1) fun v34_71 => (k1 (xload E.P m 3 v34_71) fun v35_72 => (k1 (mfieldAddr E.P 62 v2_1 1) fun v36_73 => (k1 (xload E.P m 3 v36_73) fun v37_74 => (k1 (mfieldAddr E.P 62 v2_1 2) fun v38_75 => (k1 (xload E.P m 3 v38_75) fun v39_76 => (k1 (mbin E .add 3 v37_74 v39_76) fun v40_77 => (k1 (mbin E .lss 3 v35_72 v40_77) fun v41_78 => (k0 (mpick (.bool true) v41_78 (.bool false)) fun v42_79 => (fVal v42_79 fun v => some (.ret v, m))))))))))) (k0 (mpick (.bool false) undef (.bool false)) fun v42_80 => (fVal v42_80 fun v => some (.ret v, m))))))))))))))))))
def keep75 : Keep := { region := fun i => ([[2, 3], [4]] : List (List Nat))[i]?, exit := fun i => ([] : List (List Nat))[i]?, ret := some [4] }
noncomputable def lp75 (call : CallF) (fuel base : Nat) : Lp := lpsel []
noncomputable def c75 : Code := Try.f75.body.getD .skip
theorem r75_eq (call : CallF) (fuel base : Nat) (x0 : Value) (x1 : Value) (m : M) : kbody E call keep75 (lp75 call fuel base) base Try.f75 [x0, x1] m = r75 call fuel base x0 x1 m := by
  kernel_rfl
noncomputable def rf75 : RF := fun call fuel base args m => match args with
  | [x0, x1] => r75 call fuel base x0 x1 m
  | _ => none
theorem r75_lk (call : CallF) (fuel base : Nat) : LoopsOk E call (lp75 call fuel base) fuel base 0 c75 = (And True (And True True)) := by kernel_rfl
theorem r75_fn : E.P.funcs[75]? = some Try.f75 := by kernel_rfl
theorem r75_body : Try.f75.body = some c75 := by kernel_rfl
theorem rf75_ok : RFok E 75 rf75 := by
  refine ⟨Try.f75, r75_fn, fun call fuel base args m r _ h => ?_⟩
  unfold rf75 at h
  split at h
  · rw [← r75_eq] at h
    exact kbody_sound (c := c75) r75_body (Eq.mpr (r75_lk call fuel base) (And.intro trivial (And.intro trivial trivial))) h
  · simp at h
end Go.AM
namespace Go.AM
open Go Go.Proofs
noncomputable def r76 (call : CallF) (fuel base : Nat) (x0 : Value) (x1 : Value) (m : M) : Res2 :=
  (k2 (vcall E.P base m .len [75] [x0]) fun v6_1 m => (k1 (mconvert E.P 3 112 v6_1) fun v10_2 => (kc (call base 87 [v10_2] m) (fun v11_3 m => (kc (call base 86 [x0, (.int .i64 0), v6_1, v11_3, x1] m) (fun v13_4 m => (some (.ret (.tuple #[]), m))) (fun v m => some (.pan v, m)))) (fun v m => some (.pan v, m)))))
def keep76 : Keep := { region := fun i => ([[0, 1, 4], []] : List (List Nat))[i]?, exit := fun i => ([] : List (List Nat))[i]?, ret := some [] }
noncomputable def lp76 (call : CallF) (fuel base : Nat) : Lp := lpsel []
noncomputable def c76 : Code := Try.f76.body.getD .skip
theorem r76_eq (call : CallF) (fuel base : Nat) (x0 : Value) (x1 : Value) (m : M) : kbody E call keep76 (lp76 call fuel base) base Try.f76 [x0, x1] m = r76 call fuel base x0 x1 m := by
  kernel_rfl
noncomputable def rf76 : RF := fun call fuel base args m => match args with
  | [x0, x1] => r76 call fuel base x0 x1 m
  | _ => none
theorem r76_lk (call : CallF) (fuel base : Nat) : LoopsOk E call (lp76 call fuel base) fuel base 0 c76 = (And True True) := by kernel_rfl
theorem r76_fn : E.P.funcs[76]? = some Try.f76 := by kernel_rfl
theorem r76_body : Try.f76.body = some c76 := by kernel_rfl
theorem rf76_ok : RFok E 76 rf76 := by
  refine ⟨Try.f76, r76_fn, fun call fuel base args m r _ h => ?_⟩
  unfold rf76 at h
  split at h
  · rw [← r76_eq] at h
    exact kbody_sound (c := c76) r76_body (Eq.mpr (r76_lk call fuel base) (And.intro trivial trivial)) h
  · simp at h
end Go.AM
namespace Go.AM
open Go Go.Proofs
noncomputable def r77 (call : CallF) (fuel base : Nat) (x0 : Value) (x1 : Value) (m : M) : Res2 :=
  (k2 (xbox m x0) fun v2_1 m => (k2 (xbox m x1) fun v3_2 m => (k1 (mfieldAddr E.P 80 v2_1 0) fun v5_3 => (k1 (xload E.P m 3 v5_3) fun v6_4 => (k1 (mfieldAddr E.P 80 v3_2 0) fun v7_5 => (k1 (xload E.P m 3 v7_5) fun v8_6 => (k1 (mbin E .neq 3 v6_4 v8_6) fun v9_7 => (kb v9_7 (k1 (mfieldAddr E.P 80 v2_1 0) fun v10_8 => (k1 (xload E.P m 3 v10_8) fun v11_9 => (k1 (mfieldAddr E.P 80 v3_2 0) fun v12_10 => (k1 (xload E.P m 3 v12_10) fun v13_11 => (kc (call base 78 [v11_9, v13_11] m) (fun v14_12 m => (fVal v14_12 fun v => some (.ret v, m))) (fun v m => some (.pan v, m))))))) (k1 (mfieldAddr E.P 80 v2_1 1) fun v15_13 => (k1 (xload E.P m 3 v15_13) fun v16_14 => (k1 (mfieldAddr E.P 80 v3_2 1) fun v17_15 => (k1 (xload E.P m 3 v17_15) fun v18_16 => (kc (call base 78 [v16_14, v18_16] m) (fun v19_17 m => (fVal v19_17 fun v => some (.ret v, m))) (fun v m => some (.pan v, m)))))))))))))))
def keep77 : Keep := { region := fun i => ([[2, 3], [2, 3, 9], [4], [4]] : List (List Nat))[i]?, exit := fun i => ([] : List (List Nat))[i]?, ret := some [4] }
noncomputable def lp77 (call : CallF) (fuel base : Nat) : Lp := lpsel []
noncomputable def c77 : Code := Try.f77.body.getD .skip
theorem r77_eq (call : CallF) (fuel base : Nat) (x0 : Value) (x1 : Value) (m : M) : kbody E call keep77 (lp77 call fuel base) base Try.f77 [x0, x1] m = r77 call fuel base x0 x1 m := by
  kernel_rfl
noncomputable def rf77 : RF := fun call fuel base args m => match args with
  | [x0, x1] => r77 call fuel base x0 x1 m
  | _ => none
theorem r77_lk (call : CallF) (fuel base : Nat) : LoopsOk E call (lp77 call fuel base) fuel base 0 c77 = (And True (And (And True (And (And True True) True)) (And True True))) := by kernel_rfl
theorem r77_fn : E.P.funcs[77]? = some Try.f77 := by kernel_rfl
theorem r77_body : Try.f77.body = some c77 := by kernel_rfl
theorem rf77_ok : RFok E 77 rf77 := by
  refine ⟨Try.f77, r77_fn, fun call fuel base args m r _ h => ?_⟩
  unfold rf77 at h
  split at h
  · rw [← r77_eq] at h
    exact kbody_sound (c := c77) r77_body (Eq.mpr (r77_lk call fuel base) (And.intro trivial (And.intro (And.intro trivial (And.intro (And.intro trivial trivial) trivial)) (And.intro trivial trivial)))) h
  · simp at h
end Go.AM
namespace Go.AM
open Go Go.Proofs
noncomputable def r78 (call : CallF) (fuel base : Nat) (x0 : Value) (x1 : Value) (m : M) : Res2 :=
  (kc (call base 88 [x0] m) (fun v8_1 m => (kc (call base 88 [x1] m) (fun v10_2 m => (kb v8_1 (kb v10_2 (fVal (.int .i64 0) fun v => some (.ret v, m)) (fVal (.int .i64 (-1)) fun v => some (.ret v, m))) (kb v10_2 (fVal (.int .i64 1) fun v => some (.ret v, m)) (k1 (mbin E .lss 3 x0 x1) fun v16_3 => (kb v16_3 (fVal (.int .i64 (-1)) fun v => some (.ret v, m)) (k1 (mbin E .gtr 3 x0 x1) fun v19_4 => (kb v19_4 (fVal (.int .i64 1) fun v => some (.ret v, m)) (fVal (.int .i64 0) fun v => some (.ret v, m))))))))) (fun v m => some (.pan v, m)))) (fun v m => some (.pan v, m)))
def keep78 : Keep := { region := fun i => ([[0, 1], [0, 1, 5], [0, 1, 5, 6], [0, 1, 6, 11], [12], [4], [4], [0, 1, 13], [4], [0, 1, 16], [4], [19], [4], [4]] : List (List Nat))[i]?, exit := fun i => ([] : List (List Nat))[i]?, ret := some [4] }
noncomputable def lp78 (call : CallF) (fuel base : Nat) : Lp := lpsel []
noncomputable def c78 : Code := Try.f78.body.getD .skip
theorem r78_eq (call : CallF) (fuel base : Nat) (x0 : Value) (x1 : Value) (m : M) : kbody E call keep78 (lp78 call fuel base) base Try.f78 [x0, x1] m = r78 call fuel base x0 x1 m := by
  kernel_rfl
noncomputable def rf78 : RF := fun call fuel base args m => match args with
  | [x0, x1] => r78 call fuel base x0 x1 m
  | _ => none
theorem r78_lk (call : CallF) (fuel base : Nat) : LoopsOk E call (lp78 call fuel base) fuel base 0 c78 = (And True (And True (And True (And (And True (And (And (And True (And (And True True) True)) (And True True)) True)) (And (And True (And (And True True) True)) (And (And True (And (And True True) True)) (And (And True (And (And True True) True)) (And True True)))))))) := by kernel_rfl
theorem r78_fn : E.P.funcs[78]? = some Try.f78 := by kernel_rfl
theorem r78_body : Try.f78.body = some c78 := by kernel_rfl
theorem rf78_ok : RFok E 78 rf78 := by
  refine ⟨Try.f78, r78_fn, fun call fuel base args m r _ h => ?_⟩
  unfold rf78 at h
  split at h
  · rw [← r78_eq] at h
    exact kbody_sound (c := c78) r78_body (Eq.mpr (r78_lk call fuel base) (And.intro trivial (And.intro trivial (And.intro trivial (And.intro (And.intro trivial (And.intro (And.intro (And.intro trivial (And.intro (And.intro trivial trivial) trivial)) (And.intro trivial trivial)) trivial)) (And.intro (And.intro trivial (And.intro (And.intro trivial trivial) trivial)) (And.intro (And.intro trivial (And.intro (And.intro trivial trivial) trivial)) (And.intro (And.intro trivial (And.intro (And.intro trivial trivial) trivial)) (And.intro trivial trivial))))))))) h
  · simp at h
end Go.AM
namespace Go.AM
open Go Go.Proofs
noncomputable def r79 (call : CallF) (fuel base : Nat) (x0 : Value) (x1 : Value) (m : M) : Res2 :=
  (k2 (xbox m x0) fun v2_1 m => (k2 (xbox m x1) fun v3_2 m => (k2 (xalloc E.P m 80) fun v4_3 m => (k1 (mfieldAddr E.P 80 v2_1 0) fun v5_4 => (k1 (xload E.P m 3 v5_4) fun v6_5 => (k1 (mfieldAddr E.P 80 v3_2 0) fun v7_6 => (k1 (xload E.P m 3 v7_6) fun v8_7 => (k1 (mbin E .neq 3 v6_5 v8_7) fun v9_8 => (kb v9_8 (k0 (mpick (.bool true) (.bool true) undef) fun v16_9 => (kb v16_9 (k0 (mpick (.bool true) (.bool true) undef) fun v23_10 => (kb v23_10 (k1 (xload E.P m 80 v2_1) fun v24_11 => (ks (xstore E.P base m 80 v4_3 v24_11) fun m => (k0 (mload E.P m 80 v4_3) fun r_12 => (fVal r_12 fun v => some (.ret v, m))))) (k1 (mfieldAddr E.P 80 v2_1 0) fun v25_13 => (k1 (xload E.P m 3 v25_13) fun v26_14 => (k1 (mfieldAddr E.P 80 v2_1 1) fun v27_15 => (k1 (xload E.P m 3 v27_15) fun v28_16 => (k1 (mfieldAddr E.P 80 v3_2 1) fun v29_17 => (k1 (xload E.P m 3 v29_17) fun v30_18 => (k2 (vcall E.P base m .min [3, 3] [v28_16, v30_18]) fun v31_19 m => (k1 (mfieldAddr E.P 80 v2_1 2) fun v32_20 => (k1 (xload E.P m 3 v32_20) fun v33_21 => (k1 (mfieldAddr E.P 80 v3_2 2) fun v34_22 => (k1 (xload E.P m 3 v34_22) fun v35_23 => (k2 (vcall E.P base m .max [3, 3] [v33_21, v35_23]) fun v36_24 m => (k1 (mbuild E.P 80 [(0, v26_14), (1, v31_19), (2, v36_24)]) fun v37_25 => (ks (xstore E.P base m 80 v4_3 v37_25) fun m => (k0 (mload E.P m 80 v4_3) fun r_26 => (fVal r_26 fun v => some (.ret v, m))))))))))))))))))) (k1 (mfieldAddr E.P 80 v3_2 2) fun v18_27 => (k1 (xload E.P m 3 v18_27) fun v19_28 => (k1 (mfieldAddr E.P 80 v2_1 1) fun v20_29 => (k1 (xload E.P m 3 v20_29) fun v21_30 => (k1 (mbin E .lss 3 v19_28 v21_30) fun v22_31 => (k0 (mpick (.bool false) (.bool true) v22_31) fun v23_32 => (kb v23_32 (k1 (xload E.P m 80 v2_1) fun v24_33 => (ks (xstore E.P base m 80 v4_3 v24_33) fun m => (k0 (mload E.P m 80 v4_3) fun r_34 => (fVal r_34 fun v => some (.ret v, m))))) (k1 (mfieldAddr E.P 80 v2_1 0) fun v25_35 => (k1 (xload E.P m 3 v25_35) fun v26_36 => (k1 (mfieldAddr E.P 80 v2_1 1) fun v27_37 => (k1 (xload E.P m 3 v27_37) fun v28_38 => (k1 (mfieldAddr E.P 80 v3_2 1) fun v29_39 => (k1 (xload E.P m 3 v29_39) fun v30_40 => (k2 (vcall E.P base m .min [3, 3] [v28_38, v30_40]) fun v31_41 m => (k1 (mfieldAddr E.P 80 v2_1 2) fun v32_42 => (k1 (xload E.P m 3 v32_42) fun v33_43 => (k1 (mfieldAddr E.P 80 v3_2 2) fun v34_44 => (k1 (xload E.P m 3 v34_44) fun v35_45 => (k2 (vcall E.P base m .max [3, 3] [v33_43, v35_45]) fun v36_46 m => (k1 (mbuild E.P 80 [(0, v26_36), (1, v31_41), (2, v36_46)]) fun v37_47 => (ks (xstore E.P base m 80 v4_3 v37_47) fun m => (k0 (mload E.P m 80 v4_3) fun r_48 => (fVal r_48 fun v => some (.ret v, m)))))))))))))))))))))))))) (k1 (mfieldAddr E.P 80 v2_1 2) fun v11_49 => (k1 (xload E.P m 3 v11_49) fun v12_50 => (k1 (mfieldAddr E.P 80 v3_2 1) fun v13_51 => (k1 (xload E.P m 3 v13_51) fun v14_52 => (k1 (mbin E .lss 3 v12_50 v14_52) fun v15_53 => (k0 (mpick (.bool false) (.bool true) v15_53) fun v16_54 => (kb v16_54 (k0 (mpick (.bool true) (.bool true) undef) fun v23_55 => (kb v23_55 (k1 (xload E.P m 80 v2_1) fun v24_56 => (ks (xstore E.P base m 80 v4_3 v24_56) fun m => (k0 (mload E.P m 80 v4_3) fun r_57 => (fVal r_57 fun v => some (.ret v, m))))) (k1 (mfieldAddr E.P 80 v2_1 0) fun v25_58 => (k1 (xload E.P m 3 v25_58) fun v26_59 => (k1 (mfieldAddr E.P 80 v2_1 1) fun v27_60 => (k1 (xload E.P m 3 v27_60) fun v28_61 => (k1 (mfieldAddr E.P 80 v3_2 1) fun v29_62 => (k1 (xload E.P m 3 v29_62) fun v30_63 => (k2 (vcall E.P base m .min [3, 3] [v28_61, v30_63]) fun v31_64 m => (k1 (mfieldAddr E.P 80 v2_1 2) fun v32_65 => (k1 (xload E.P m 3 v32_65) fun v33_66 => (k1 (mfieldAddr E.P 80 v3_2 2) fun v34_67 => (k1 (xload E.P m 3 v34_67) fun v35_68 => (k2 (vcall E.P base m .max [3, 3] [v33_66, v35_68]) fun v36_69 m => (k1 (mbuild E.P 80 [(0, v26_59), (1, v31_64), (2, v36_69)]) fun v37_70 => (ks (xstore E.P base m 80 v4_3 v37_70) fun m => (k0 (mload E.P m 80 v4_3) fun r_71 => (fVal r_71 fun v => some (.ret v, m))))))))))))))))))) (k1 (mfieldAddr E.P 80 v3_2 2) fun v18_72 => (k1 (xload E.P m 3 v18_72) fun v19_73 => (k1 (mfieldAddr E.P 80 v2_1 1) fun v20_74 => (k1 (xload E.P m 3 v20_74) fun v21_75 => (k1 (mbin E .lss 3 v19_73 v21_75) fun v22_76 => (k0 (mpick (.bool false) (.bool true) v22_76) fun v23_77 => (kb v23_77 (k1 (xload E.P m 80 v2_1) fun v24_78 => (ks (xstore E.P base m 80 v4_3 v24_78) fun m => (k0 (mload E.P m 80 v4_3) fun r_79 => (fVal r_79 fun v => some (.ret v, m))))) (k1 (mfieldAddr E.P 80 v2_1 0) fun v25_80 => (k1 (xload E.P m 3 v25_80) fun v26_81 => (k1 (mfieldAddr E.P 80 v2_1 1) fun v27_82 => (k1 (xload E.P m 3 v27_82) fun v28_83 => (k1 (mfieldAddr E.P 80 v3_2 1) fun v29_84 => (k1 (xload E.P m 3 v29_84) fun v30_85 => (k2 (vcall E.P base m .min [3, 3] [v28_83, v30_85]) fun v31_86 m => (k1 (mfieldAddr E.P 80 v2_1 2) fun v32_87 => (k1 (xload E.P m 3 v32_87) fun v33_88 => (k1 (mfieldAddr E.P 80 v3_2 2) fun v34_89 => (k1 (xload E.P m 3 v34_89) fun v35_90 => (k2 (vcall E.P base m .max [3, 3] [v33_88, v35_90]) fun v36_91 m => (k1 (mbuild E.P 80 [(0, v26_81), (1, v31_86), (2, v36_91)]) fun v37_92 => (ks (xstore E.P base m 80 v4_3 v37_92) fun m => (k0 (mload E.P m 80 v4_3) fun r_93 => (fVal r_93 fun v => some (.ret v, m))))))))))))))))))))))))))))))))))))))))
def keep79 : Keep := { region := fun i => ([[2, 3, 4], [2, 3, 4, 23], [4], [4]] : List (List Nat))[i]?, exit := fun i => ([] : List (List Nat))[i]?, ret := some [4] }
noncomputable def lp79 (call : CallF) (fuel base : Nat) : Lp := lpsel []
noncomputable def c79 : Code := Try.f79.body.getD .skip
theorem r79_eq (call : CallF) (fuel base : Nat) (x0 : Value) (x1 : Value) (m : M) : kbody E call keep79 (lp79 call fuel base) base Try.f79 [x0, x1] m = r79 call fuel base x0 x1 m := by
  kernel_rfl
noncomputable def rf79 : RF := fun call fuel base args m => match args with
  | [x0, x1] => r79 call fuel base x0 x1 m
  | _ => none
theorem r79_lk (call : CallF) (fuel base : Nat) : LoopsOk E call (lp79 call fuel base) fuel base 0 c79 = (And True (And (And True (And (And True True) True)) (And True True))) := by kernel_rfl
theorem r79_fn : E.P.funcs[79]? = some Try.f79 := by kernel_rfl
theorem r79_body : Try.f79.body = some c79 := by kernel_rfl
theorem rf79_ok : RFok E 79 rf79 := by
  refine ⟨Try.f79, r79_fn, fun call fuel base args m r _ h => ?_⟩
  unfold rf79 at h
  split at h
  · rw [← r79_eq] at h
    exact kbody_sound (c := c79) r79_body (Eq.mpr (r79_lk call fuel base) (And.intro trivial (And.intro (And.intro trivial (And.intro (And.intro trivial trivial) trivial)) (And.intro trivial trivial)))) h
  · simp at h
end Go.AM
namespace Go.AM
open Go Go.Proofs
noncomputable def r81 (call : CallF) (fuel base : Nat) (m : M) : Res2 :=
  (k2 (xalloc E.P m 104) fun v0_1 m => (k1 (mbuild E.P 104 [(0, (.func (.func 90) #[] #[])), (1, (.func (.func 91) #[] #[])), (2, (.func (.func 92) #[] #[]))]) fun v1_2 => (ks (xstore E.P base m 104 v0_1 v1_2) fun m => (k0 (mload E.P m 104 v0_1) fun r_3 => (fVal r_3 fun v => some (.ret v, m))))))
def keep81 : Keep := { region := fun i => ([[0], [0]] : List (List Nat))[i]?, exit := fun i => ([] : List (List Nat))[i]?, ret := some [0] }
noncomputable def lp81 (call : CallF) (fuel base : Nat) : Lp := lpsel []
noncomputable def c81 : Code := Try.f81.body.getD .skip
theorem r81_eq (call : CallF) (fuel base : Nat) (m : M) : kbody E call keep81 (lp81 call fuel base) base Try.f81 [] m = r81 call fuel base  m := by
  kernel_rfl
noncomputable def rf81 : RF := fun call fuel base args m => match args with
  | [] => r81 call fuel base  m
  | _ => none
theorem r81_lk (call : CallF) (fuel base : Nat) : LoopsOk E call (lp81 call fuel base) fuel base 0 c81 = (And True (And True True)) := by kernel_rfl
theorem r81_fn : E.P.funcs[81]? = some Try.f81 := by kernel_rfl
theorem r81_body : Try.f81.body = some c81 := by kernel_rfl
theorem rf81_ok : RFok E 81 rf81 := by
  refine ⟨Try.f81, r81_fn, fun call fuel base args m r _ h => ?_⟩
  unfold rf81 at h
  split at h
  · rw [← r81_eq] at h
    exact kbody_sound (c := c81) r81_body (Eq.mpr (r81_lk call fuel base) (And.intro trivial (And.intro trivial trivial))) h
  · simp at h
end Go.AM
namespace Go.AM
open Go Go.Proofs
noncomputable def r82_L0 (call : CallF) (fuel base : Nat) (kr : Value → M → Res2) (kx0 : M → Res2) (n : Nat) : Value → Value → Value → M → Res2 :=
  Nat.rec (motive := fun _ => Value → Value → Value → M → Res2) (fun _ _ _ _ => none)
    (fun _ ih x0 x1 x5 m =>
      (k2 (vcall E.P base m .len [56] [x0]) fun v9_1 m => (k1 (mbin E .lss 3 x5 v9_1) fun v10_2 => (kb v10_2 (k1 (mindexAddr E.P 56 x0 x5) fun v15_3 => (k1 (xload E.P m 29 v15_3) fun v16_4 => (k1 (mindexAddr E.P 29 v16_4 x1) fun v18_5 => (k1 (xload E.P m 3 v18_5) fun v19_6 => (k1 (mbin E .neq 3 v19_6 (.int .i64 0)) fun v20_7 => (kb v20_7 (kr x5 m) (k1 (mbin E .add 3 x5 (.int .i64 1)) fun v12_8 => (ih x0 x1 v12_8 m)))))))) (kx0 m))))) n
noncomputable def r82 (call : CallF) (fuel base : Nat) (x0 : Value) (x1 : Value) (m : M) : Res2 :=
  (r82_L0 call fuel base (fun y4_9 m => (fVal y4_9 fun v => some (.ret v, m))) (fun m => (fVal (.int .i64 (-1)) fun v => some (.ret v, m))) fuel x0 x1 x1 m)
def keep82 : Keep := { region := fun i => ([[0, 1], [0, 1, 5], [0, 1, 5, 10], [0, 1, 5], [0, 1, 5, 20], [4], [4]] : List (List Nat))[i]?, exit := fun i => ([[], [0, 1, 5]] : List (List Nat))[i]?, ret := some [4] }
noncomputable def r82_L0_R (call : CallF) (fuel base n : Nat) (vs : List Value) (m : M) (K : KT) : Res2 := match vs with
  | [x0, x1, x5] => r82_L0 call fuel base (fun y4 m => K .ret { n := 22, l := [(4, y4)] } m) (fun m => K (.exit 0) { n := 22, l := [] } m) n x0 x1 x5 m
  | _ => none
noncomputable def lp82 (call : CallF) (fuel base : Nat) : Lp := lpsel [(0, fun T m K => kslots 22 [0, 1, 5] T fun vs => r82_L0_R call fuel base fuel vs m K)]
noncomputable def c82 : Code := Try.f82.body.getD .skip
theorem r82_L0_lk (call : CallF) (fuel base : Nat) : LoopsOk E call (lp82 call fuel base) fuel base 0 (loopB (blockB (seqR (seqL (seqR c82))))) = (And (And True (And True True)) (And (And True (And (And True True) True)) True)) := by kernel_rfl
theorem r82_L0_ok (call : CallF) (fuel base : Nat) : LpOk E call (lp82 call fuel base) fuel base 0 (loopB (blockB (seqR (seqL (seqR c82))))) := by
  refine loop_ok (kp := keep82) (hb := Eq.mpr (r82_L0_lk call fuel base) (And.intro (And.intro trivial (And.intro trivial trivial)) (And.intro (And.intro trivial (And.intro (And.intro trivial trivial) trivial)) trivial))) 22 [0, 1, 5] (fun n vs m K => r82_L0_R call fuel base n vs m K) ?_ ?_ (fun _ _ _ => rfl)
  · intro vs m K
    unfold r82_L0_R
    split <;> rfl
  · intro n vs m K hl
    match vs, hl with
    | [x0, x1, x5], _ => show _ = _; kernel_rfl
theorem r82_eq (call : CallF) (fuel base : Nat) (x0 : Value) (x1 : Value) (m : M) : kbody E call keep82 (lp82 call fuel base) base Try.f82 [x0, x1] m = r82 call fuel base x0 x1 m := by
  kernel_rfl
noncomputable def rf82 : RF := fun call fuel base args m => match args with
  | [x0, x1] => r82 call fuel base x0 x1 m
  | _ => none
theorem r82_lk (call : CallF) (fuel base : Nat) : LoopsOk E call (lp82 call fuel base) fuel base 0 c82 = (And True (And (And True (LpOk E call (lp82 call fuel base) fuel base 0 (loopB (blockB (seqR (seqL (seqR c82))))))) (And True True))) := by kernel_rfl
theorem r82_fn : E.P.funcs[82]? = some Try.f82 := by kernel_rfl
theorem r82_body : Try.f82.body = some c82 := by kernel_rfl
theorem rf82_ok : RFok E 82 rf82 := by
  refine ⟨Try.f82, r82_fn, fun call fuel base args m r _ h => ?_⟩
  unfold rf82 at h
  split at h
  · rw [← r82_eq] at h
    exact kbody_sound (c := c82) r82_body (Eq.mpr (r82_lk call fuel base) (And.intro trivial (And.intro (And.intro trivial (r82_L0_ok call fuel base)) (And.intro trivial trivial)))) h
  · simp at h
end Go.AM
