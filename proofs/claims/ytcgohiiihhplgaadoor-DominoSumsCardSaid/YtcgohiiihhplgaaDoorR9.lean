import Derived.KernelRfl
import Derived.Laws.BytesArg
import Derived.Laws.StructEq
import Derived.Test.YtcgohiiihhplgaaDoorRows
import Derived.WalkKit
import Derived.Test.YtcgohiiihhplgaaDoorAmB
import Derived.Test.YtcgohiiihhplgaaDoorAmModel
import Derived.Test.YtcgohiiihhplgaaDoorAmOps6
import Derived.Test.YtcgohiiihhplgaaDoorAmCode
import Derived.Test.YtcgohiiihhplgaaDoorAmK2
import Derived.Test.YtcgohiiihhplgaaDoorAmEq
import Derived.Test.YtcgohiiihhplgaaDoorRBase
set_option linter.unusedVariables false
set_option linter.unusedSimpArgs false
set_option linter.unusedSectionVars false
namespace Go.AM
open Go Go.Proofs
noncomputable def r9_L0 (call : CallF) (fuel base : Nat) (kp : Value → M → Res2) (kr : Value → M → Res2) (kx0 : Value → Value → Value → M → Res2) (n : Nat) : Value → Value → Value → Value → Value → M → Res2 :=
  Nat.rec (motive := fun _ => Value → Value → Value → Value → Value → M → Res2) (fun _ _ _ _ _ _ => none)
    (fun _ ih x0 x3 x5 x7 x8 m =>
      (k2 (vcall E.P base m .len [43] [x5]) fun v56_29 m => (k1 (mbin E .lss 3 x8 v56_29) fun v57_30 => (kb v57_30 (k1 (mindexAddr E.P 43 x5 x8) fun v63_31 => (k1 (xload E.P m 22 v63_31) fun v64_32 => (kc (call base 24 [v64_32] m) (fun v65_33 m => (k1 (mextract 0 v65_33) fun v66_34 => (k1 (mextract 1 v65_33) fun v67_35 => (k1 (mbin E .neq 26 v67_35 (.int .i64 0)) fun v69_36 => (kb v69_36 (kr (.bool false) m) (k1 (mbin E .mul 3 x7 v66_34) fun v72_37 => (k1 (mbin E .add 3 x8 (.int .i64 1)) fun v59_38 => (ih x0 x3 x5 v72_37 v59_38 m)))))))) (fun v m => kp v m)))) (kx0 x0 x3 x7 m))))) n
noncomputable def r9 (call : CallF) (fuel base : Nat) (x0 : Value) (m : M) : Res2 :=
  (kc (call base 12 [x0] m) (fun v15_1 m => (k1 (mun .not v15_1) fun v16_2 => (kb v16_2 (kc (call base 13 [] m) (fun v17_3 m => (fVal v17_3 fun v => some (.ret v, m))) (fun v m => some (.pan v, m))) (kc (call base 24 [x0] m) (fun v20_4 m => (k1 (mextract 0 v20_4) fun v21_5 => (k1 (mextract 1 v20_4) fun v22_6 => (kc (call base 27 [x0] m) (fun v25_7 m => (k1 (mextract 0 v25_7) fun v26_8 => (k1 (mextract 1 v25_7) fun v27_9 => (k1 (mbin E .neq 26 v22_6 (.int .i64 0)) fun v29_10 => (kb v29_10 (k1 (mbin E .eql 26 v22_6 v27_9) fun v41_11 => (kb v41_11 (k1 (mbin E .eql 26 v22_6 (.int .i64 2)) fun v44_12 => (kb v44_12 (k2 (vcall E.P base m .len [43] [v26_8]) fun v48_13 m => (k1 (mbin E .eql 3 v48_13 (.int .i64 0)) fun v49_14 => (kb v49_14 (kc (call base 13 [] m) (fun v52_15 m => (fVal v52_15 fun v => some (.ret v, m))) (fun v m => some (.pan v, m))) (fVal (.bool false) fun v => some (.ret v, m))))) (fVal (.bool false) fun v => some (.ret v, m)))) (fVal (.bool false) fun v => some (.ret v, m)))) (k1 (mbin E .neq 26 v27_9 (.int .i64 0)) fun v32_16 => (kb v32_16 (k1 (mbin E .eql 26 v22_6 v27_9) fun v41_17 => (kb v41_17 (k1 (mbin E .eql 26 v22_6 (.int .i64 2)) fun v44_18 => (kb v44_18 (k2 (vcall E.P base m .len [43] [v26_8]) fun v48_19 m => (k1 (mbin E .eql 3 v48_19 (.int .i64 0)) fun v49_20 => (kb v49_20 (kc (call base 13 [] m) (fun v52_21 m => (fVal v52_21 fun v => some (.ret v, m))) (fun v m => some (.pan v, m))) (fVal (.bool false) fun v => some (.ret v, m))))) (fVal (.bool false) fun v => some (.ret v, m)))) (fVal (.bool false) fun v => some (.ret v, m)))) (kc (call base 34 [x0] m) (fun v36_22 m => (k1 (mun .not v36_22) fun v37_23 => (kb v37_23 (k1 (mbin E .eql 26 v22_6 v27_9) fun v41_24 => (kb v41_24 (k1 (mbin E .eql 26 v22_6 (.int .i64 2)) fun v44_25 => (kb v44_25 (k2 (vcall E.P base m .len [43] [v26_8]) fun v48_26 m => (k1 (mbin E .eql 3 v48_26 (.int .i64 0)) fun v49_27 => (kb v49_27 (kc (call base 13 [] m) (fun v52_28 m => (fVal v52_28 fun v => some (.ret v, m))) (fun v m => some (.pan v, m))) (fVal (.bool false) fun v => some (.ret v, m))))) (fVal (.bool false) fun v => some (.ret v, m)))) (fVal (.bool false) fun v => some (.ret v, m)))) (r9_L0 call fuel base (fun v m => some (.pan v, m)) (fun y2_39 m => (fVal y2_39 fun v => some (.ret v, m))) (fun y0_40 y3_41 y7_42 m => (kc (call base 35 [y0_40, (.bool false)] m) (fun v75_43 m => (kc (call base 24 [v75_43] m) (fun v76_44 m => (k1 (mextract 0 v76_44) fun v77_45 => (k1 (mextract 1 v76_44) fun v78_46 => (kc (call base 35 [y0_40, (.bool true)] m) (fun v81_47 m => (kc (call base 24 [v81_47] m) (fun v82_48 m => (k1 (mextract 0 v82_48) fun v83_49 => (k1 (mextract 1 v82_48) fun v84_50 => (k1 (mbin E .neq 3 y3_41 y7_42) fun v87_51 => (kb v87_51 (fVal (.bool false) fun v => some (.ret v, m)) (k1 (mbin E .neq 26 v78_46 (.int .i64 0)) fun v90_52 => (kb v90_52 (fVal (.bool false) fun v => some (.ret v, m)) (k1 (mbin E .neq 26 v84_50 (.int .i64 0)) fun v94_53 => (kb v94_53 (fVal (.bool false) fun v => some (.ret v, m)) (k1 (mbin E .neq 3 v77_45 y3_41) fun v99_54 => (kb v99_54 (fVal (.bool false) fun v => some (.ret v, m)) (k1 (mbin E .neq 3 v83_49 y3_41) fun v104_55 => (kb v104_55 (fVal (.bool false) fun v => some (.ret v, m)) (kc (call base 36 [y0_40, y3_41] m) (fun v108_56 m => (kb v108_56 (kc (call base 13 [] m) (fun v110_57 m => (fVal v110_57 fun v => some (.ret v, m))) (fun v m => some (.pan v, m))) (fVal (.bool false) fun v => some (.ret v, m)))) (fun v m => some (.pan v, m)))))))))))))))) (fun v m => some (.pan v, m)))) (fun v m => some (.pan v, m)))))) (fun v m => some (.pan v, m)))) (fun v m => some (.pan v, m)))) fuel x0 v21_5 v26_8 (.int .i64 1) (.int .i64 0) m)))) (fun v m => some (.pan v, m)))))))))) (fun v m => some (.pan v, m)))))) (fun v m => some (.pan v, m)))))) (fun v m => some (.pan v, m)))
def keep9 : Keep := { region := fun i => ([[0], [0, 16], [2], [0, 3, 4], [0, 3, 4, 5, 6], [0, 3, 4, 5, 6, 38], [2], [0, 3, 5, 7], [0, 3, 5, 7, 8], [0, 3, 5, 7, 8, 57], [0, 3, 5, 7, 8], [0, 3, 5, 7, 8, 9, 10], [0, 3, 5, 7, 8, 9, 69], [2], [0, 3, 5, 7, 8], [0, 3, 6, 7, 11], [0, 3, 6, 7, 11, 12, 13], [0, 3, 105], [2], [2]] : List (List Nat))[i]?, exit := fun i => ([[0, 3, 7], [0, 3, 5, 7, 8]] : List (List Nat))[i]?, ret := some [2] }
noncomputable def r9_L0_R (call : CallF) (fuel base n : Nat) (vs : List Value) (m : M) (K : KT) : Res2 := match vs with
  | [x0, x3, x5, x7, x8] => r9_L0 call fuel base (fun v m => K (.pan v) { n := 112, l := [] } m) (fun y2 m => K .ret { n := 112, l := [(2, y2)] } m) (fun y0 y3 y7 m => K (.exit 0) { n := 112, l := [(0, y0), (3, y3), (7, y7)] } m) n x0 x3 x5 x7 x8 m
  | _ => none
noncomputable def lp9 (call : CallF) (fuel base : Nat) : Lp := lpsel [(0, fun T m K => kslots 112 [0, 3, 5, 7, 8] T fun vs => r9_L0_R call fuel base fuel vs m K)]
noncomputable def c9 : Code := Tryd.f9.body.getD .skip
theorem r9_L0_lk (call : CallF) (fuel base : Nat) : LoopsOk E call (lp9 call fuel base) fuel base 0 (loopB (blockB (seqR (seqL (seqR (seqR (seqR (seqR (seqR (seqR c9)))))))))) = (And (And True (And True True)) (And (And True (And (And True (And (And True True) True)) True)) True)) := by kernel_rfl
theorem r9_L0_ok (call : CallF) (fuel base : Nat) : LpOk E call (lp9 call fuel base) fuel base 0 (loopB (blockB (seqR (seqL (seqR (seqR (seqR (seqR (seqR (seqR c9)))))))))) := by
  refine loop_ok (kp := keep9) (hb := Eq.mpr (r9_L0_lk call fuel base) (And.intro (And.intro trivial (And.intro trivial trivial)) (And.intro (And.intro trivial (And.intro (And.intro trivial (And.intro (And.intro trivial trivial) trivial)) trivial)) trivial))) 112 [0, 3, 5, 7, 8] (fun n vs m K => r9_L0_R call fuel base n vs m K) ?_ ?_ (fun _ _ _ => rfl)
  · intro vs m K
    unfold r9_L0_R
    split <;> rfl
  · intro n vs m K hl
    match vs, hl with
    | [x0, x3, x5, x7, x8], _ => show _ = _; kernel_rfl
theorem r9_eq (call : CallF) (fuel base : Nat) (x0 : Value) (m : M) : kbody E call keep9 (lp9 call fuel base) base Tryd.f9 [x0] m = r9 call fuel base x0 m := by
  kernel_rfl
noncomputable def rf9 : RF := fun call fuel base args m => match args with
  | [x0] => r9 call fuel base x0 m
  | _ => none
theorem r9_lk (call : CallF) (fuel base : Nat) : LoopsOk E call (lp9 call fuel base) fuel base 0 c9 = (And True (And (And True (And (And True True) True)) (And True (And True (And (And True (And (And True True) True)) (And True (And (And True (LpOk E call (lp9 call fuel base) fuel base 0 (loopB (blockB (seqR (seqL (seqR (seqR (seqR (seqR (seqR (seqR c9)))))))))))) (And True (And True (And (And True (And (And True True) True)) (And True True))))))))))) := by kernel_rfl
theorem r9_fn : E.P.funcs[9]? = some Tryd.f9 := by kernel_rfl
theorem r9_body : Tryd.f9.body = some c9 := by kernel_rfl
theorem rf9_ok : RFok E 9 rf9 := by
  refine ⟨Tryd.f9, r9_fn, fun call fuel base args m r _ h => ?_⟩
  unfold rf9 at h
  split at h
  · rw [← r9_eq] at h
    exact kbody_sound (c := c9) r9_body (Eq.mpr (r9_lk call fuel base) (And.intro trivial (And.intro (And.intro trivial (And.intro (And.intro trivial trivial) trivial)) (And.intro trivial (And.intro trivial (And.intro (And.intro trivial (And.intro (And.intro trivial trivial) trivial)) (And.intro trivial (And.intro (And.intro trivial (r9_L0_ok call fuel base)) (And.intro trivial (And.intro trivial (And.intro (And.intro trivial (And.intro (And.intro trivial trivial) trivial)) (And.intro trivial trivial)))))))))))) h
  · simp at h
end Go.AM
namespace Go.AM
open Go Go.Proofs
noncomputable def r12_L0 (call : CallF) (fuel base : Nat) (kr : Value → M → Res2) (kx0 : M → Res2) (n : Nat) : Value → Value → M → Res2 :=
  Nat.rec (motive := fun _ => Value → Value → M → Res2) (fun _ _ _ => none)
    (fun _ ih x0 x3 m =>
      (k2 (vcall E.P base m .len [22] [x0]) fun v6_1 m => (k1 (mbin E .lss 3 x3 v6_1) fun v7_2 => (kb v7_2 (k1 (mbin E .geq 3 x3 (.int .i64 20)) fun v11_3 => (kb v11_3 (kr (.bool false) m) (k1 (mindexAddr E.P 22 x0 x3) fun v15_4 => (k1 (xload E.P m 9 v15_4) fun v16_5 => (k2 (vcall E.P base m .len [9] [v16_5]) fun v17_6 m => (k1 (mbin E .gtr 3 v17_6 (.int .i64 20)) fun v18_7 => (kb v18_7 (kr (.bool false) m) (k1 (mbin E .add 3 x3 (.int .i64 1)) fun v9_8 => (ih x0 v9_8 m))))))))) (kx0 m))))) n
noncomputable def r12 (call : CallF) (fuel base : Nat) (x0 : Value) (m : M) : Res2 :=
  (r12_L0 call fuel base (fun y2_9 m => (fVal y2_9 fun v => some (.ret v, m))) (fun m => (fVal (.bool true) fun v => some (.ret v, m))) fuel x0 (.int .i64 0) m)
def keep12 : Keep := { region := fun i => ([[0], [0, 3], [0, 3, 7], [0, 3], [0, 3, 19], [2], [2]] : List (List Nat))[i]?, exit := fun i => ([[], [0, 3]] : List (List Nat))[i]?, ret := some [2] }
noncomputable def r12_L0_R (call : CallF) (fuel base n : Nat) (vs : List Value) (m : M) (K : KT) : Res2 := match vs with
  | [x0, x3] => r12_L0 call fuel base (fun y2 m => K .ret { n := 20, l := [(2, y2)] } m) (fun m => K (.exit 0) { n := 20, l := [] } m) n x0 x3 m
  | _ => none
noncomputable def lp12 (call : CallF) (fuel base : Nat) : Lp := lpsel [(0, fun T m K => kslots 20 [0, 3] T fun vs => r12_L0_R call fuel base fuel vs m K)]
noncomputable def c12 : Code := Tryd.f12.body.getD .skip
theorem r12_L0_lk (call : CallF) (fuel base : Nat) : LoopsOk E call (lp12 call fuel base) fuel base 0 (loopB (blockB (seqR (seqL (seqR c12))))) = (And (And True (And True True)) (And (And True (And (And True True) True)) True)) := by kernel_rfl
theorem r12_L0_ok (call : CallF) (fuel base : Nat) : LpOk E call (lp12 call fuel base) fuel base 0 (loopB (blockB (seqR (seqL (seqR c12))))) := by
  refine loop_ok (kp := keep12) (hb := Eq.mpr (r12_L0_lk call fuel base) (And.intro (And.intro trivial (And.intro trivial trivial)) (And.intro (And.intro trivial (And.intro (And.intro trivial trivial) trivial)) trivial))) 20 [0, 3] (fun n vs m K => r12_L0_R call fuel base n vs m K) ?_ ?_ (fun _ _ _ => rfl)
  · intro vs m K
    unfold r12_L0_R
    split <;> rfl
  · intro n vs m K hl
    match vs, hl with
    | [x0, x3], _ => show _ = _; kernel_rfl
theorem r12_eq (call : CallF) (fuel base : Nat) (x0 : Value) (m : M) : kbody E call keep12 (lp12 call fuel base) base Tryd.f12 [x0] m = r12 call fuel base x0 m := by
  kernel_rfl
noncomputable def rf12 : RF := fun call fuel base args m => match args with
  | [x0] => r12 call fuel base x0 m
  | _ => none
theorem r12_lk (call : CallF) (fuel base : Nat) : LoopsOk E call (lp12 call fuel base) fuel base 0 c12 = (And True (And (And True (LpOk E call (lp12 call fuel base) fuel base 0 (loopB (blockB (seqR (seqL (seqR c12))))))) (And True True))) := by kernel_rfl
theorem r12_fn : E.P.funcs[12]? = some Tryd.f12 := by kernel_rfl
theorem r12_body : Tryd.f12.body = some c12 := by kernel_rfl
theorem rf12_ok : RFok E 12 rf12 := by
  refine ⟨Tryd.f12, r12_fn, fun call fuel base args m r _ h => ?_⟩
  unfold rf12 at h
  split at h
  · rw [← r12_eq] at h
    exact kbody_sound (c := c12) r12_body (Eq.mpr (r12_lk call fuel base) (And.intro trivial (And.intro (And.intro trivial (r12_L0_ok call fuel base)) (And.intro trivial trivial)))) h
  · simp at h
end Go.AM
namespace Go.AM
open Go Go.Proofs
noncomputable def r13 (call : CallF) (fuel base : Nat) (m : M) : Res2 :=
  (k2 (xbuildSlice E.P m 22 3 [(0, (.string (ByteArray.mk #[35, 35, 35]))), (1, (.string (ByteArray.mk #[35, 35, 35]))), (2, (.string (ByteArray.mk #[35, 35, 46])))]) fun v8_1 m => (kc (call base 24 [v8_1] m) (fun v9_2 m => (k1 (mextract 0 v9_2) fun v10_3 => (k1 (mextract 1 v9_2) fun v11_4 => (k2 (xbuildSlice E.P m 22 2 [(0, (.string (ByteArray.mk #[35, 35]))), (1, (.string (ByteArray.mk #[35, 35])))]) fun v13_5 m => (kc (call base 25 [v13_5] m) (fun v14_6 m => (k1 (mextract 0 v14_6) fun v15_7 => (k1 (mextract 1 v14_6) fun v16_8 => (k2 (xbuildSlice E.P m 22 2 [(0, (.string (ByteArray.mk #[35, 46]))), (1, (.string (ByteArray.mk #[46, 35])))]) fun v18_9 m => (kc (call base 23 [v18_9] m) (fun v19_10 m => (k1 (mextract 0 v19_10) fun v20_11 => (k1 (mextract 1 v19_10) fun v21_12 => (k1 (mbin E .eql 26 v11_4 (.int .i64 0)) fun v23_13 => (kb v23_13 (k1 (mbin E .eql 3 v10_3 (.int .i64 4)) fun v26_14 => (kb v26_14 (k1 (mbin E .eql 26 v16_8 (.int .i64 0)) fun v30_15 => (kb v30_15 (k1 (mbin E .eql 3 v15_7 (.int .i64 2)) fun v34_16 => (kb v34_16 (k1 (mbin E .eql 26 v21_12 (.int .i64 0)) fun v38_17 => (kb v38_17 (k2 (vcall E.P base m .len [36] [v20_11]) fun v42_18 m => (k1 (mbin E .geq 3 v42_18 (.int .i64 1)) fun v43_19 => (fVal v43_19 fun v => some (.ret v, m)))) (fVal (.bool false) fun v => some (.ret v, m)))) (fVal (.bool false) fun v => some (.ret v, m)))) (fVal (.bool false) fun v => some (.ret v, m)))) (fVal (.bool false) fun v => some (.ret v, m)))) (fVal (.bool false) fun v => some (.ret v, m))))))) (fun v m => some (.pan v, m))))))) (fun v m => some (.pan v, m))))))) (fun v m => some (.pan v, m))))
def keep13 : Keep := { region := fun i => ([[], [1, 2], [1, 2, 3, 4], [1, 2, 3, 4, 5, 6], [0]] : List (List Nat))[i]?, exit := fun i => ([] : List (List Nat))[i]?, ret := some [0] }
noncomputable def lp13 (call : CallF) (fuel base : Nat) : Lp := lpsel []
noncomputable def c13 : Code := Tryd.f13.body.getD .skip
theorem r13_eq (call : CallF) (fuel base : Nat) (m : M) : kbody E call keep13 (lp13 call fuel base) base Tryd.f13 [] m = r13 call fuel base  m := by
  kernel_rfl
noncomputable def rf13 : RF := fun call fuel base args m => match args with
  | [] => r13 call fuel base  m
  | _ => none
theorem r13_lk (call : CallF) (fuel base : Nat) : LoopsOk E call (lp13 call fuel base) fuel base 0 c13 = (And True (And True (And True (And True (And True True))))) := by kernel_rfl
theorem r13_fn : E.P.funcs[13]? = some Tryd.f13 := by kernel_rfl
theorem r13_body : Tryd.f13.body = some c13 := by kernel_rfl
theorem rf13_ok : RFok E 13 rf13 := by
  refine ⟨Tryd.f13, r13_fn, fun call fuel base args m r _ h => ?_⟩
  unfold rf13 at h
  split at h
  · rw [← r13_eq] at h
    exact kbody_sound (c := c13) r13_body (Eq.mpr (r13_lk call fuel base) (And.intro trivial (And.intro trivial (And.intro trivial (And.intro trivial (And.intro trivial trivial)))))) h
  · simp at h
end Go.AM
namespace Go.AM
open Go Go.Proofs
noncomputable def r23 (call : CallF) (fuel base : Nat) (x0 : Value) (m : M) : Res2 :=
  (kc (call base 41 [x0] m) (fun v9_1 m => (k1 (mextract 0 v9_1) fun v10_2 => (k1 (mextract 1 v9_1) fun v11_3 => (k2 (xalloc E.P m 60) fun v4_4 m => (ks (xstore E.P base m 60 v4_4 v10_2) fun m => (k1 (mun .not v11_3) fun v13_5 => (kb v13_5 (some (.ret (.tuple #[(.slice none 0 0), (.int .i64 2)]), m)) (k1 (mfieldAddr E.P 60 v4_4 2) fun v14_6 => (k1 (xload E.P m 58 v14_6) fun v15_7 => (kc (call base 50 [v15_7] m) (fun v16_8 m => (k1 (mbin E .eql 58 v16_8 (.int .u64 0)) fun v18_9 => (kb v18_9 (some (.ret (.tuple #[(.slice none 0 0), (.int .i64 10)]), m)) (kc (call base 51 [v16_8] m) (fun v20_10 m => (some (.ret (.tuple #[v20_10, (.int .i64 0)]), m))) (fun v m => some (.pan v, m)))))) (fun v m => some (.pan v, m)))))))))))) (fun v m => some (.pan v, m)))
def keep23 : Keep := { region := fun i => ([[0], [4, 5], [4, 13], [2, 3], [6], [6, 18], [2, 3], [2, 3]] : List (List Nat))[i]?, exit := fun i => ([] : List (List Nat))[i]?, ret := some [2, 3] }
noncomputable def lp23 (call : CallF) (fuel base : Nat) : Lp := lpsel []
noncomputable def c23 : Code := Tryd.f23.body.getD .skip
theorem r23_eq (call : CallF) (fuel base : Nat) (x0 : Value) (m : M) : kbody E call keep23 (lp23 call fuel base) base Tryd.f23 [x0] m = r23 call fuel base x0 m := by
  kernel_rfl
noncomputable def rf23 : RF := fun call fuel base args m => match args with
  | [x0] => r23 call fuel base x0 m
  | _ => none
theorem r23_lk (call : CallF) (fuel base : Nat) : LoopsOk E call (lp23 call fuel base) fuel base 0 c23 = (And True (And True (And (And True (And (And True True) True)) (And True (And (And True (And (And True True) True)) (And True True)))))) := by kernel_rfl
theorem r23_fn : E.P.funcs[23]? = some Tryd.f23 := by kernel_rfl
theorem r23_body : Tryd.f23.body = some c23 := by kernel_rfl
theorem rf23_ok : RFok E 23 rf23 := by
  refine ⟨Tryd.f23, r23_fn, fun call fuel base args m r _ h => ?_⟩
  unfold rf23 at h
  split at h
  · rw [← r23_eq] at h
    exact kbody_sound (c := c23) r23_body (Eq.mpr (r23_lk call fuel base) (And.intro trivial (And.intro trivial (And.intro (And.intro trivial (And.intro (And.intro trivial trivial) trivial)) (And.intro trivial (And.intro (And.intro trivial (And.intro (And.intro trivial trivial) trivial)) (And.intro trivial trivial))))))) h
  · simp at h
end Go.AM
namespace Go.AM
open Go Go.Proofs
noncomputable def r24 (call : CallF) (fuel base : Nat) (x0 : Value) (m : M) : Res2 :=
  (kc (call base 41 [x0] m) (fun v8_1 m => (k1 (mextract 0 v8_1) fun v9_2 => (k1 (mextract 1 v8_1) fun v10_3 => (k2 (xalloc E.P m 60) fun v4_4 m => (ks (xstore E.P base m 60 v4_4 v9_2) fun m => (k1 (mun .not v10_3) fun v12_5 => (kb v12_5 (some (.ret (.tuple #[(.int .i64 0), (.int .i64 2)]), m)) (k1 (mfieldAddr E.P 60 v4_4 2) fun v13_6 => (k1 (xload E.P m 58 v13_6) fun v14_7 => (kc (call base 52 [v14_7] m) (fun v15_8 m => (some (.ret (.tuple #[v15_8, (.int .i64 0)]), m))) (fun v m => some (.pan v, m)))))))))))) (fun v m => some (.pan v, m)))
def keep24 : Keep := { region := fun i => ([[0], [4, 5], [4, 12], [2, 3], [2, 3]] : List (List Nat))[i]?, exit := fun i => ([] : List (List Nat))[i]?, ret := some [2, 3] }
noncomputable def lp24 (call : CallF) (fuel base : Nat) : Lp := lpsel []
noncomputable def c24 : Code := Tryd.f24.body.getD .skip
theorem r24_eq (call : CallF) (fuel base : Nat) (x0 : Value) (m : M) : kbody E call keep24 (lp24 call fuel base) base Tryd.f24 [x0] m = r24 call fuel base x0 m := by
  kernel_rfl
noncomputable def rf24 : RF := fun call fuel base args m => match args with
  | [x0] => r24 call fuel base x0 m
  | _ => none
theorem r24_lk (call : CallF) (fuel base : Nat) : LoopsOk E call (lp24 call fuel base) fuel base 0 c24 = (And True (And True (And (And True (And (And True True) True)) (And True True)))) := by kernel_rfl
theorem r24_fn : E.P.funcs[24]? = some Tryd.f24 := by kernel_rfl
theorem r24_body : Tryd.f24.body = some c24 := by kernel_rfl
theorem rf24_ok : RFok E 24 rf24 := by
  refine ⟨Tryd.f24, r24_fn, fun call fuel base args m r _ h => ?_⟩
  unfold rf24 at h
  split at h
  · rw [← r24_eq] at h
    exact kbody_sound (c := c24) r24_body (Eq.mpr (r24_lk call fuel base) (And.intro trivial (And.intro trivial (And.intro (And.intro trivial (And.intro (And.intro trivial trivial) trivial)) (And.intro trivial trivial))))) h
  · simp at h
end Go.AM
namespace Go.AM
open Go Go.Proofs
noncomputable def r25 (call : CallF) (fuel base : Nat) (x0 : Value) (m : M) : Res2 :=
  (kc (call base 41 [x0] m) (fun v8_1 m => (k1 (mextract 0 v8_1) fun v9_2 => (k1 (mextract 1 v8_1) fun v10_3 => (k2 (xalloc E.P m 60) fun v4_4 m => (ks (xstore E.P base m 60 v4_4 v9_2) fun m => (k1 (mun .not v10_3) fun v12_5 => (kb v12_5 (some (.ret (.tuple #[(.int .i64 0), (.int .i64 2)]), m)) (k1 (mfieldAddr E.P 60 v4_4 2) fun v13_6 => (k1 (xload E.P m 58 v13_6) fun v14_7 => (kc (call base 53 [v14_7] m) (fun v15_8 m => (some (.ret (.tuple #[v15_8, (.int .i64 0)]), m))) (fun v m => some (.pan v, m)))))))))))) (fun v m => some (.pan v, m)))
def keep25 : Keep := { region := fun i => ([[0], [4, 5], [4, 12], [2, 3], [2, 3]] : List (List Nat))[i]?, exit := fun i => ([] : List (List Nat))[i]?, ret := some [2, 3] }
noncomputable def lp25 (call : CallF) (fuel base : Nat) : Lp := lpsel []
noncomputable def c25 : Code := Tryd.f25.body.getD .skip
theorem r25_eq (call : CallF) (fuel base : Nat) (x0 : Value) (m : M) : kbody E call keep25 (lp25 call fuel base) base Tryd.f25 [x0] m = r25 call fuel base x0 m := by
  kernel_rfl
noncomputable def rf25 : RF := fun call fuel base args m => match args with
  | [x0] => r25 call fuel base x0 m
  | _ => none
theorem r25_lk (call : CallF) (fuel base : Nat) : LoopsOk E call (lp25 call fuel base) fuel base 0 c25 = (And True (And True (And (And True (And (And True True) True)) (And True True)))) := by kernel_rfl
theorem r25_fn : E.P.funcs[25]? = some Tryd.f25 := by kernel_rfl
theorem r25_body : Tryd.f25.body = some c25 := by kernel_rfl
theorem rf25_ok : RFok E 25 rf25 := by
  refine ⟨Tryd.f25, r25_fn, fun call fuel base args m r _ h => ?_⟩
  unfold rf25 at h
  split at h
  · rw [← r25_eq] at h
    exact kbody_sound (c := c25) r25_body (Eq.mpr (r25_lk call fuel base) (And.intro trivial (And.intro trivial (And.intro (And.intro trivial (And.intro (And.intro trivial trivial) trivial)) (And.intro trivial trivial))))) h
  · simp at h
end Go.AM
namespace Go.AM
open Go Go.Proofs
noncomputable def r27_L0 (call : CallF) (fuel base : Nat) (kp : Value → M → Res2) (kx0 : Value → M → Res2) (n : Nat) : Value → Value → Value → Value → Value → M → Res2 :=
  Nat.rec (motive := fun _ => Value → Value → Value → Value → Value → M → Res2) (fun _ _ _ _ _ _ => none)
    (fun _ ih x4 x6 x18 x19 x20 m =>
      (k1 (mbin E .lss 3 x20 x19) fun v21_10 => (kb v21_10 (k1 (mindexAddr E.P 86 x18 x20) fun v22_11 => (k1 (xload E.P m 58 v22_11) fun v23_12 => (k1 (xload E.P m 60 x4) fun v25_13 => (kc (call base 61 [v25_13, v23_12] m) (fun v27_14 m => (k2 (xbuildSlice E.P m 43 1 [(0, v27_14)]) fun v28_15 m => (k2 (vcall E.P base m .append [43, 43] [x6, v28_15]) fun v29_16 m => (k1 (mbin E .add 3 x20 (.int .i64 1)) fun v30_17 => (ih x4 v29_16 x18 x19 v30_17 m))))) (fun v m => kp v m))))) (kx0 x6 m)))) n
noncomputable def r27 (call : CallF) (fuel base : Nat) (x0 : Value) (m : M) : Res2 :=
  (kc (call base 41 [x0] m) (fun v11_1 m => (k1 (mextract 0 v11_1) fun v12_2 => (k1 (mextract 1 v11_1) fun v13_3 => (k2 (xalloc E.P m 60) fun v4_4 m => (ks (xstore E.P base m 60 v4_4 v12_2) fun m => (k1 (mun .not v13_3) fun v15_5 => (kb v15_5 (some (.ret (.tuple #[(.slice none 0 0), (.int .i64 2)]), m)) (k1 (mfieldAddr E.P 60 v4_4 2) fun v16_6 => (k1 (xload E.P m 58 v16_6) fun v17_7 => (kc (call base 59 [v17_7, (.func (.func 60) #[] #[])] m) (fun v18_8 m => (k2 (vcall E.P base m .len [86] [v18_8]) fun v19_9 m => (r27_L0 call fuel base (fun v m => some (.pan v, m)) (fun y6_18 m => (some (.ret (.tuple #[y6_18, (.int .i64 0)]), m))) fuel v4_4 (.slice none 0 0) v18_8 v19_9 (.int .i64 0) m))) (fun v m => some (.pan v, m)))))))))))) (fun v m => some (.pan v, m)))
def keep27 : Keep := { region := fun i => ([[0], [4, 5], [4, 15], [2, 3], [4, 6], [4, 6, 18, 19, 20], [4, 6, 18, 19, 20, 21], [4, 6, 8, 18, 19, 20], [4, 6, 18, 19, 20], [4, 6, 18, 19, 20], [2, 3]] : List (List Nat))[i]?, exit := fun i => ([[6], [4, 6, 18, 19, 20]] : List (List Nat))[i]?, ret := some [2, 3] }
noncomputable def r27_L0_R (call : CallF) (fuel base n : Nat) (vs : List Value) (m : M) (K : KT) : Res2 := match vs with
  | [x4, x6, x18, x19, x20] => r27_L0 call fuel base (fun v m => K (.pan v) { n := 32, l := [] } m) (fun y6 m => K (.exit 0) { n := 32, l := [(6, y6)] } m) n x4 x6 x18 x19 x20 m
  | _ => none
noncomputable def lp27 (call : CallF) (fuel base : Nat) : Lp := lpsel [(0, fun T m K => kslots 32 [4, 6, 18, 19, 20] T fun vs => r27_L0_R call fuel base fuel vs m K)]
noncomputable def c27 : Code := Tryd.f27.body.getD .skip
theorem r27_L0_lk (call : CallF) (fuel base : Nat) : LoopsOk E call (lp27 call fuel base) fuel base 0 (loopB (blockB (seqR (seqL (seqR (seqR (seqR (seqR c27)))))))) = (And True (And (And True True) (And (And True True) True))) := by kernel_rfl
theorem r27_L0_ok (call : CallF) (fuel base : Nat) : LpOk E call (lp27 call fuel base) fuel base 0 (loopB (blockB (seqR (seqL (seqR (seqR (seqR (seqR c27)))))))) := by
  refine loop_ok (kp := keep27) (hb := Eq.mpr (r27_L0_lk call fuel base) (And.intro trivial (And.intro (And.intro trivial trivial) (And.intro (And.intro trivial trivial) trivial)))) 32 [4, 6, 18, 19, 20] (fun n vs m K => r27_L0_R call fuel base n vs m K) ?_ ?_ (fun _ _ _ => rfl)
  · intro vs m K
    unfold r27_L0_R
    split <;> rfl
  · intro n vs m K hl
    match vs, hl with
    | [x4, x6, x18, x19, x20], _ => show _ = _; kernel_rfl
theorem r27_eq (call : CallF) (fuel base : Nat) (x0 : Value) (m : M) : kbody E call keep27 (lp27 call fuel base) base Tryd.f27 [x0] m = r27 call fuel base x0 m := by
  kernel_rfl
noncomputable def rf27 : RF := fun call fuel base args m => match args with
  | [x0] => r27 call fuel base x0 m
  | _ => none
theorem r27_lk (call : CallF) (fuel base : Nat) : LoopsOk E call (lp27 call fuel base) fuel base 0 c27 = (And True (And True (And (And True (And (And True True) True)) (And True (And (And True (LpOk E call (lp27 call fuel base) fuel base 0 (loopB (blockB (seqR (seqL (seqR (seqR (seqR (seqR c27)))))))))) (And True True)))))) := by kernel_rfl
theorem r27_fn : E.P.funcs[27]? = some Tryd.f27 := by kernel_rfl
theorem r27_body : Tryd.f27.body = some c27 := by kernel_rfl
theorem rf27_ok : RFok E 27 rf27 := by
  refine ⟨Tryd.f27, r27_fn, fun call fuel base args m r _ h => ?_⟩
  unfold rf27 at h
  split at h
  · rw [← r27_eq] at h
    exact kbody_sound (c := c27) r27_body (Eq.mpr (r27_lk call fuel base) (And.intro trivial (And.intro trivial (And.intro (And.intro trivial (And.intro (And.intro trivial trivial) trivial)) (And.intro trivial (And.intro (And.intro trivial (r27_L0_ok call fuel base)) (And.intro trivial trivial))))))) h
  · simp at h
end Go.AM
namespace Go.AM
open Go Go.Proofs
noncomputable def r34_L2 (call : CallF) (fuel base : Nat) (kr : Value → M → Res2) (kx2 : Value → Value → M → Res2) (n : Nat) : Value → Value → Value → M → Res2 :=
  Nat.rec (motive := fun _ => Value → Value → Value → M → Res2) (fun _ _ _ _ => none)
    (fun _ ih x0 x3 x4 m =>
      (k1 (mindexAddr E.P 22 x0 x3) fun v46_22 => (k1 (xload E.P m 9 v46_22) fun v47_23 => (k2 (vcall E.P base m .len [9] [v47_23]) fun v48_24 m => (k1 (mbin E .lss 3 x4 v48_24) fun v49_25 => (kb v49_25 (k1 (mindexAddr E.P 22 x0 x3) fun v54_26 => (k1 (xload E.P m 9 v54_26) fun v55_27 => (k1 (mindex E.P 9 v55_27 x4) fun v57_28 => (k1 (mbin E .neq 5 v57_28 (.int .u8 35)) fun v58_29 => (kb v58_29 (k1 (mindexAddr E.P 22 x0 x3) fun v62_30 => (k1 (xload E.P m 9 v62_30) fun v63_31 => (k1 (mindex E.P 9 v63_31 x4) fun v65_32 => (k1 (mbin E .neq 5 v65_32 (.int .u8 46)) fun v66_33 => (kb v66_33 (kr (.bool false) m) (k1 (mbin E .add 3 x4 (.int .i64 1)) fun v51_34 => (ih x0 x3 v51_34 m))))))) (k1 (mbin E .add 3 x4 (.int .i64 1)) fun v51_35 => (ih x0 x3 v51_35 m))))))) (kx2 x0 x3 m))))))) n
noncomputable def r34_L0 (call : CallF) (fuel base : Nat) (kr : Value → M → Res2) (kx0 : M → Res2) (n : Nat) : Value → Value → M → Res2 :=
  Nat.rec (motive := fun _ => Value → Value → M → Res2) (fun _ _ _ => none)
    (fun _ ih x0 x3 m =>
      (k2 (vcall E.P base m .len [22] [x0]) fun v29_13 m => (k1 (mbin E .lss 3 x3 v29_13) fun v30_14 => (kb v30_14 (k1 (mindexAddr E.P 22 x0 x3) fun v35_15 => (k1 (xload E.P m 9 v35_15) fun v36_16 => (k2 (vcall E.P base m .len [9] [v36_16]) fun v37_17 m => (k1 (mindexAddr E.P 22 x0 (.int .i64 0)) fun v39_18 => (k1 (xload E.P m 9 v39_18) fun v40_19 => (k2 (vcall E.P base m .len [9] [v40_19]) fun v41_20 m => (k1 (mbin E .neq 3 v37_17 v41_20) fun v42_21 => (kb v42_21 (kr (.bool false) m) (r34_L2 call fuel base (fun y2_36 m => (kr y2_36 m)) (fun y0_37 y3_38 m => (k1 (mbin E .add 3 y3_38 (.int .i64 1)) fun v32_39 => (ih y0_37 v32_39 m))) fuel x0 x3 (.int .i64 0) m))))))))) (kx0 m))))) n
noncomputable def r34 (call : CallF) (fuel base : Nat) (x0 : Value) (m : M) : Res2 :=
  (k2 (vcall E.P base m .len [22] [x0]) fun v6_1 m => (k1 (mbin E .lss 3 v6_1 (.int .i64 1)) fun v7_2 => (kb v7_2 (fVal (.bool false) fun v => some (.ret v, m)) (k2 (vcall E.P base m .len [22] [x0]) fun v10_3 m => (k1 (mbin E .gtr 3 v10_3 (.int .i64 8)) fun v11_4 => (kb v11_4 (fVal (.bool false) fun v => some (.ret v, m)) (k1 (mindexAddr E.P 22 x0 (.int .i64 0)) fun v15_5 => (k1 (xload E.P m 9 v15_5) fun v16_6 => (k2 (vcall E.P base m .len [9] [v16_6]) fun v17_7 m => (k1 (mbin E .lss 3 v17_7 (.int .i64 1)) fun v18_8 => (kb v18_8 (fVal (.bool false) fun v => some (.ret v, m)) (k1 (mindexAddr E.P 22 x0 (.int .i64 0)) fun v22_9 => (k1 (xload E.P m 9 v22_9) fun v23_10 => (k2 (vcall E.P base m .len [9] [v23_10]) fun v24_11 m => (k1 (mbin E .gtr 3 v24_11 (.int .i64 8)) fun v25_12 => (kb v25_12 (fVal (.bool false) fun v => some (.ret v, m)) (r34_L0 call fuel base (fun y2_40 m => (fVal y2_40 fun v => some (.ret v, m))) (fun m => (fVal (.bool true) fun v => some (.ret v, m))) fuel x0 (.int .i64 0) m)))))))))))))))))
def keep34 : Keep := { region := fun i => ([[0], [0, 26], [2], [0, 3], [0, 3, 30], [0, 3], [0, 3, 42], [2], [0, 3, 4], [0, 3, 4, 49], [0, 3, 4], [0, 3, 4, 67], [2], [2]] : List (List Nat))[i]?, exit := fun i => ([[], [0, 3], [0, 3], [0, 3, 4]] : List (List Nat))[i]?, ret := some [2] }
noncomputable def r34_L2_R (call : CallF) (fuel base n : Nat) (vs : List Value) (m : M) (K : KT) : Res2 := match vs with
  | [x0, x3, x4] => r34_L2 call fuel base (fun y2 m => K .ret { n := 68, l := [(2, y2)] } m) (fun y0 y3 m => K (.exit 2) { n := 68, l := [(0, y0), (3, y3)] } m) n x0 x3 x4 m
  | _ => none
noncomputable def r34_L0_R (call : CallF) (fuel base n : Nat) (vs : List Value) (m : M) (K : KT) : Res2 := match vs with
  | [x0, x3] => r34_L0 call fuel base (fun y2 m => K .ret { n := 68, l := [(2, y2)] } m) (fun m => K (.exit 0) { n := 68, l := [] } m) n x0 x3 m
  | _ => none
noncomputable def lp34 (call : CallF) (fuel base : Nat) : Lp := lpsel [(2, fun T m K => kslots 68 [0, 3, 4] T fun vs => r34_L2_R call fuel base fuel vs m K), (0, fun T m K => kslots 68 [0, 3] T fun vs => r34_L0_R call fuel base fuel vs m K)]
noncomputable def c34 : Code := Tryd.f34.body.getD .skip
theorem r34_L2_lk (call : CallF) (fuel base : Nat) : LoopsOk E call (lp34 call fuel base) fuel base 2 (loopB (blockB (seqR (seqR (blockB (seqL (seqR (loopB (blockB (seqR (seqL (seqR (seqR c34))))))))))))) = (And (And True (And True True)) (And (And True (And (And True True) True)) True)) := by kernel_rfl
theorem r34_L2_ok (call : CallF) (fuel base : Nat) : LpOk E call (lp34 call fuel base) fuel base 2 (loopB (blockB (seqR (seqR (blockB (seqL (seqR (loopB (blockB (seqR (seqL (seqR (seqR c34))))))))))))) := by
  refine loop_ok (kp := keep34) (hb := Eq.mpr (r34_L2_lk call fuel base) (And.intro (And.intro trivial (And.intro trivial trivial)) (And.intro (And.intro trivial (And.intro (And.intro trivial trivial) trivial)) trivial))) 68 [0, 3, 4] (fun n vs m K => r34_L2_R call fuel base n vs m K) ?_ ?_ (fun _ _ _ => rfl)
  · intro vs m K
    unfold r34_L2_R
    split <;> rfl
  · intro n vs m K hl
    match vs, hl with
    | [x0, x3, x4], _ => show _ = _; kernel_rfl
theorem r34_L0_lk (call : CallF) (fuel base : Nat) : LoopsOk E call (lp34 call fuel base) fuel base 0 (loopB (blockB (seqR (seqL (seqR (seqR c34)))))) = (And (And True (And True True)) (And (And (And True (And (And True True) True)) (And True (LpOk E call (lp34 call fuel base) fuel base 2 (loopB (blockB (seqR (seqR (blockB (seqL (seqR (loopB (blockB (seqR (seqL (seqR (seqR c34)))))))))))))))) True)) := by kernel_rfl
theorem r34_L0_ok (call : CallF) (fuel base : Nat) : LpOk E call (lp34 call fuel base) fuel base 0 (loopB (blockB (seqR (seqL (seqR (seqR c34)))))) := by
  refine loop_ok (kp := keep34) (hb := Eq.mpr (r34_L0_lk call fuel base) (And.intro (And.intro trivial (And.intro trivial trivial)) (And.intro (And.intro (And.intro trivial (And.intro (And.intro trivial trivial) trivial)) (And.intro trivial (r34_L2_ok call fuel base))) trivial))) 68 [0, 3] (fun n vs m K => r34_L0_R call fuel base n vs m K) ?_ ?_ (fun _ _ _ => rfl)
  · intro vs m K
    unfold r34_L0_R
    split <;> rfl
  · intro n vs m K hl
    match vs, hl with
    | [x0, x3], _ => show _ = _; kernel_rfl
theorem r34_eq (call : CallF) (fuel base : Nat) (x0 : Value) (m : M) : kbody E call keep34 (lp34 call fuel base) base Tryd.f34 [x0] m = r34 call fuel base x0 m := by
  kernel_rfl
noncomputable def rf34 : RF := fun call fuel base args m => match args with
  | [x0] => r34 call fuel base x0 m
  | _ => none
theorem r34_lk (call : CallF) (fuel base : Nat) : LoopsOk E call (lp34 call fuel base) fuel base 0 c34 = (And True (And (And True (And (And True True) True)) (And (And True (LpOk E call (lp34 call fuel base) fuel base 0 (loopB (blockB (seqR (seqL (seqR (seqR c34)))))))) (And True True)))) := by kernel_rfl
theorem r34_fn : E.P.funcs[34]? = some Tryd.f34 := by kernel_rfl
theorem r34_body : Tryd.f34.body = some c34 := by kernel_rfl
theorem rf34_ok : RFok E 34 rf34 := by
  refine ⟨Tryd.f34, r34_fn, fun call fuel base args m r _ h => ?_⟩
  unfold rf34 at h
  split at h
  · rw [← r34_eq] at h
    exact kbody_sound (c := c34) r34_body (Eq.mpr (r34_lk call fuel base) (And.intro trivial (And.intro (And.intro trivial (And.intro (And.intro trivial trivial) trivial)) (And.intro (And.intro trivial (r34_L0_ok call fuel base)) (And.intro trivial trivial))))) h
  · simp at h
end Go.AM
namespace Go.AM
open Go Go.Proofs
noncomputable def r35_L2 (call : CallF) (fuel base : Nat) (kx2 : Value → Value → Value → Value → Value → Value → M → Res2) (n : Nat) : Value → Value → Value → Value → Value → Value → Value → M → Res2 :=
  Nat.rec (motive := fun _ => Value → Value → Value → Value → Value → Value → Value → M → Res2) (fun _ _ _ _ _ _ _ _ => none)
    (fun _ ih x0 x5 x6 x7 x8 x9 x10 m =>
      (k1 (mbin E .lss 3 x10 x5) fun v28_6 => (kb v28_6 (k1 (mindexAddr E.P 22 x0 x8) fun v34_7 => (k1 (xload E.P m 9 v34_7) fun v35_8 => (k1 (mbin E .sub 3 x5 (.int .i64 1)) fun v37_9 => (k1 (mbin E .sub 3 v37_9 x10) fun v39_10 => (k1 (mindex E.P 9 v35_8 v39_10) fun v40_11 => (k2 (xbuildSlice E.P m 92 1 [(0, v40_11)]) fun v41_12 m => (k2 (vcall E.P base m .append [92, 92] [x9, v41_12]) fun v42_13 m => (k1 (mbin E .add 3 x10 (.int .i64 1)) fun v30_14 => (ih x0 x5 x6 x7 x8 v42_13 v30_14 m))))))))) (kx2 x0 x5 x6 x7 x8 x9 m)))) n
noncomputable def r35_L6 (call : CallF) (fuel base : Nat) (kx6 : Value → Value → Value → Value → Value → Value → M → Res2) (n : Nat) : Value → Value → Value → Value → Value → Value → Value → M → Res2 :=
  Nat.rec (motive := fun _ => Value → Value → Value → Value → Value → Value → Value → M → Res2) (fun _ _ _ _ _ _ _ _ => none)
    (fun _ ih x0 x5 x6 x7 x11 x12 x13 m =>
      (k1 (mbin E .geq 3 x13 (.int .i64 0)) fun v57_28 => (kb v57_28 (k1 (mindexAddr E.P 22 x0 x13) fun v63_29 => (k1 (xload E.P m 9 v63_29) fun v64_30 => (k1 (mindex E.P 9 v64_30 x11) fun v66_31 => (k2 (xbuildSlice E.P m 92 1 [(0, v66_31)]) fun v67_32 m => (k2 (vcall E.P base m .append [92, 92] [x12, v67_32]) fun v68_33 m => (k1 (mbin E .sub 3 x13 (.int .i64 1)) fun v59_34 => (ih x0 x5 x6 x7 x11 v68_33 v59_34 m))))))) (kx6 x0 x5 x6 x7 x11 x12 m)))) n
noncomputable def r35_L0 (call : CallF) (fuel base : Nat) (kx0 : Value → M → Res2) (n : Nat) : Value → Value → Value → Value → Value → M → Res2 :=
  Nat.rec (motive := fun _ => Value → Value → Value → Value → Value → M → Res2) (fun _ _ _ _ _ _ => none)
    (fun _ ih x0 x5 x6 x7 x8 m =>
      (k1 (mbin E .lss 3 x8 x6) fun v23_5 => (kb v23_5 (r35_L2 call fuel base (fun y0_15 y5_16 y6_17 y7_18 y8_19 y9_20 m => (k1 (mconv E.P m 92 9 y9_20) fun v45_21 => (k2 (xbuildSlice E.P m 22 1 [(0, v45_21)]) fun v46_22 m => (k2 (vcall E.P base m .append [22, 22] [y7_18, v46_22]) fun v47_23 m => (k1 (mbin E .add 3 y8_19 (.int .i64 1)) fun v25_24 => (ih y0_15 y5_16 y6_17 v47_23 v25_24 m)))))) fuel x0 x5 x6 x7 x8 (.slice none 0 0) (.int .i64 0) m) (kx0 x7 m)))) n
noncomputable def r35_L4 (call : CallF) (fuel base : Nat) (kx4 : Value → M → Res2) (n : Nat) : Value → Value → Value → Value → Value → M → Res2 :=
  Nat.rec (motive := fun _ => Value → Value → Value → Value → Value → M → Res2) (fun _ _ _ _ _ _ => none)
    (fun _ ih x0 x5 x6 x7 x11 m =>
      (k1 (mbin E .lss 3 x11 x5) fun v51_26 => (kb v51_26 (k1 (mbin E .sub 3 x6 (.int .i64 1)) fun v55_27 => (r35_L6 call fuel base (fun y0_35 y5_36 y6_37 y7_38 y11_39 y12_40 m => (k1 (mconv E.P m 92 9 y12_40) fun v71_41 => (k2 (xbuildSlice E.P m 22 1 [(0, v71_41)]) fun v72_42 m => (k2 (vcall E.P base m .append [22, 22] [y7_38, v72_42]) fun v73_43 m => (k1 (mbin E .add 3 y11_39 (.int .i64 1)) fun v53_44 => (ih y0_35 y5_36 y6_37 v73_43 v53_44 m)))))) fuel x0 x5 x6 x7 x11 (.slice none 0 0) v55_27 m)) (kx4 x7 m)))) n
noncomputable def r35 (call : CallF) (fuel base : Nat) (x0 : Value) (x1 : Value) (m : M) : Res2 :=
  (k1 (mindexAddr E.P 22 x0 (.int .i64 0)) fun v15_1 => (k1 (xload E.P m 9 v15_1) fun v16_2 => (k2 (vcall E.P base m .len [9] [v16_2]) fun v17_3 m => (k2 (vcall E.P base m .len [22] [x0]) fun v19_4 m => (kb x1 (r35_L0 call fuel base (fun y7_25 m => (fVal y7_25 fun v => some (.ret v, m))) fuel x0 v17_3 v19_4 (.slice none 0 0) (.int .i64 0) m) (r35_L4 call fuel base (fun y7_45 m => (fVal y7_45 fun v => some (.ret v, m))) fuel x0 v17_3 v19_4 (.slice none 0 0) (.int .i64 0) m))))))
def keep35 : Keep := { region := fun i => ([[0, 1], [0, 1, 5, 6], [0, 1, 5, 6, 7], [0, 5, 6, 7, 20], [0, 5, 6, 7, 8], [0, 5, 6, 7, 8, 23], [0, 5, 6, 7, 8], [0, 5, 6, 7, 8, 9], [0, 5, 6, 7, 8, 9, 10], [0, 5, 6, 7, 8, 9, 10, 28], [0, 5, 6, 7, 8, 9, 10], [0, 5, 6, 7, 8, 9, 10], [0, 5, 6, 7, 8], [4], [0, 5, 6, 7, 11], [0, 5, 6, 7, 11, 51], [0, 5, 6, 7, 11], [0, 5, 6, 7, 11, 12], [0, 5, 6, 7, 11, 12, 13], [0, 5, 6, 7, 11, 12, 13, 57], [0, 5, 6, 7, 11, 12, 13], [0, 5, 6, 7, 11, 12, 13], [0, 5, 6, 7, 11], [4]] : List (List Nat))[i]?, exit := fun i => ([[7], [0, 5, 6, 7, 8], [0, 5, 6, 7, 8, 9], [0, 5, 6, 7, 8, 9, 10], [7], [0, 5, 6, 7, 11], [0, 5, 6, 7, 11, 12], [0, 5, 6, 7, 11, 12, 13]] : List (List Nat))[i]?, ret := some [4] }
noncomputable def r35_L2_R (call : CallF) (fuel base n : Nat) (vs : List Value) (m : M) (K : KT) : Res2 := match vs with
  | [x0, x5, x6, x7, x8, x9, x10] => r35_L2 call fuel base (fun y0 y5 y6 y7 y8 y9 m => K (.exit 2) { n := 75, l := [(0, y0), (5, y5), (6, y6), (7, y7), (8, y8), (9, y9)] } m) n x0 x5 x6 x7 x8 x9 x10 m
  | _ => none
noncomputable def r35_L6_R (call : CallF) (fuel base n : Nat) (vs : List Value) (m : M) (K : KT) : Res2 := match vs with
  | [x0, x5, x6, x7, x11, x12, x13] => r35_L6 call fuel base (fun y0 y5 y6 y7 y11 y12 m => K (.exit 6) { n := 75, l := [(0, y0), (5, y5), (6, y6), (7, y7), (11, y11), (12, y12)] } m) n x0 x5 x6 x7 x11 x12 x13 m
  | _ => none
noncomputable def r35_L0_R (call : CallF) (fuel base n : Nat) (vs : List Value) (m : M) (K : KT) : Res2 := match vs with
  | [x0, x5, x6, x7, x8] => r35_L0 call fuel base (fun y7 m => K (.exit 0) { n := 75, l := [(7, y7)] } m) n x0 x5 x6 x7 x8 m
  | _ => none
noncomputable def r35_L4_R (call : CallF) (fuel base n : Nat) (vs : List Value) (m : M) (K : KT) : Res2 := match vs with
  | [x0, x5, x6, x7, x11] => r35_L4 call fuel base (fun y7 m => K (.exit 4) { n := 75, l := [(7, y7)] } m) n x0 x5 x6 x7 x11 m
  | _ => none
noncomputable def lp35 (call : CallF) (fuel base : Nat) : Lp := lpsel [(2, fun T m K => kslots 75 [0, 5, 6, 7, 8, 9, 10] T fun vs => r35_L2_R call fuel base fuel vs m K), (6, fun T m K => kslots 75 [0, 5, 6, 7, 11, 12, 13] T fun vs => r35_L6_R call fuel base fuel vs m K), (0, fun T m K => kslots 75 [0, 5, 6, 7, 8] T fun vs => r35_L0_R call fuel base fuel vs m K), (4, fun T m K => kslots 75 [0, 5, 6, 7, 11] T fun vs => r35_L4_R call fuel base fuel vs m K)]
noncomputable def c35 : Code := Tryd.f35.body.getD .skip
theorem r35_L2_lk (call : CallF) (fuel base : Nat) : LoopsOk E call (lp35 call fuel base) fuel base 2 (loopB (blockB (seqR (seqL (seqR (blockB (seqL (seqR (loopB (blockB (seqR (seqL (condT (seqR (seqL (seqR (seqR (seqR c35)))))))))))))))))) = (And (And True (And True True)) (And True True)) := by kernel_rfl
theorem r35_L2_ok (call : CallF) (fuel base : Nat) : LpOk E call (lp35 call fuel base) fuel base 2 (loopB (blockB (seqR (seqL (seqR (blockB (seqL (seqR (loopB (blockB (seqR (seqL (condT (seqR (seqL (seqR (seqR (seqR c35)))))))))))))))))) := by
  refine loop_ok (kp := keep35) (hb := Eq.mpr (r35_L2_lk call fuel base) (And.intro (And.intro trivial (And.intro trivial trivial)) (And.intro trivial trivial))) 75 [0, 5, 6, 7, 8, 9, 10] (fun n vs m K => r35_L2_R call fuel base n vs m K) ?_ ?_ (fun _ _ _ => rfl)
  · intro vs m K
    unfold r35_L2_R
    split <;> rfl
  · intro n vs m K hl
    match vs, hl with
    | [x0, x5, x6, x7, x8, x9, x10], _ => show _ = _; kernel_rfl
theorem r35_L6_lk (call : CallF) (fuel base : Nat) : LoopsOk E call (lp35 call fuel base) fuel base 6 (loopB (blockB (seqR (seqL (seqR (blockB (seqL (seqR (loopB (blockB (seqR (seqL (seqR (seqR (seqR (seqR c35)))))))))))))))) = (And (And True (And True True)) (And True True)) := by kernel_rfl
theorem r35_L6_ok (call : CallF) (fuel base : Nat) : LpOk E call (lp35 call fuel base) fuel base 6 (loopB (blockB (seqR (seqL (seqR (blockB (seqL (seqR (loopB (blockB (seqR (seqL (seqR (seqR (seqR (seqR c35)))))))))))))))) := by
  refine loop_ok (kp := keep35) (hb := Eq.mpr (r35_L6_lk call fuel base) (And.intro (And.intro trivial (And.intro trivial trivial)) (And.intro trivial trivial))) 75 [0, 5, 6, 7, 11, 12, 13] (fun n vs m K => r35_L6_R call fuel base n vs m K) ?_ ?_ (fun _ _ _ => rfl)
  · intro vs m K
    unfold r35_L6_R
    split <;> rfl
  · intro n vs m K hl
    match vs, hl with
    | [x0, x5, x6, x7, x11, x12, x13], _ => show _ = _; kernel_rfl
theorem r35_L0_lk (call : CallF) (fuel base : Nat) : LoopsOk E call (lp35 call fuel base) fuel base 0 (loopB (blockB (seqR (seqL (condT (seqR (seqL (seqR (seqR (seqR c35)))))))))) = (And (And True (And True True)) (And (And True (And (And True (LpOk E call (lp35 call fuel base) fuel base 2 (loopB (blockB (seqR (seqL (seqR (blockB (seqL (seqR (loopB (blockB (seqR (seqL (condT (seqR (seqL (seqR (seqR (seqR c35)))))))))))))))))))) True)) True)) := by kernel_rfl
theorem r35_L0_ok (call : CallF) (fuel base : Nat) : LpOk E call (lp35 call fuel base) fuel base 0 (loopB (blockB (seqR (seqL (condT (seqR (seqL (seqR (seqR (seqR c35)))))))))) := by
  refine loop_ok (kp := keep35) (hb := Eq.mpr (r35_L0_lk call fuel base) (And.intro (And.intro trivial (And.intro trivial trivial)) (And.intro (And.intro trivial (And.intro (And.intro trivial (r35_L2_ok call fuel base)) trivial)) trivial))) 75 [0, 5, 6, 7, 8] (fun n vs m K => r35_L0_R call fuel base n vs m K) ?_ ?_ (fun _ _ _ => rfl)
  · intro vs m K
    unfold r35_L0_R
    split <;> rfl
  · intro n vs m K hl
    match vs, hl with
    | [x0, x5, x6, x7, x8], _ => show _ = _; kernel_rfl
theorem r35_L4_lk (call : CallF) (fuel base : Nat) : LoopsOk E call (lp35 call fuel base) fuel base 4 (loopB (blockB (seqR (seqL (seqR (seqR (seqR (seqR c35)))))))) = (And (And True (And True True)) (And (And True (And (And True (LpOk E call (lp35 call fuel base) fuel base 6 (loopB (blockB (seqR (seqL (seqR (blockB (seqL (seqR (loopB (blockB (seqR (seqL (seqR (seqR (seqR (seqR c35)))))))))))))))))) True)) True)) := by kernel_rfl
theorem r35_L4_ok (call : CallF) (fuel base : Nat) : LpOk E call (lp35 call fuel base) fuel base 4 (loopB (blockB (seqR (seqL (seqR (seqR (seqR (seqR c35)))))))) := by
  refine loop_ok (kp := keep35) (hb := Eq.mpr (r35_L4_lk call fuel base) (And.intro (And.intro trivial (And.intro trivial trivial)) (And.intro (And.intro trivial (And.intro (And.intro trivial (r35_L6_ok call fuel base)) trivial)) trivial))) 75 [0, 5, 6, 7, 11] (fun n vs m K => r35_L4_R call fuel base n vs m K) ?_ ?_ (fun _ _ _ => rfl)
  · intro vs m K
    unfold r35_L4_R
    split <;> rfl
  · intro n vs m K hl
    match vs, hl with
    | [x0, x5, x6, x7, x11], _ => show _ = _; kernel_rfl
theorem r35_eq (call : CallF) (fuel base : Nat) (x0 : Value) (x1 : Value) (m : M) : kbody E call keep35 (lp35 call fuel base) base Tryd.f35 [x0, x1] m = r35 call fuel base x0 x1 m := by
  kernel_rfl
noncomputable def rf35 : RF := fun call fuel base args m => match args with
  | [x0, x1] => r35 call fuel base x0 x1 m
  | _ => none
theorem r35_lk (call : CallF) (fuel base : Nat) : LoopsOk E call (lp35 call fuel base) fuel base 0 c35 = (And True (And True (And True (And (And True (And (And (And True (LpOk E call (lp35 call fuel base) fuel base 0 (loopB (blockB (seqR (seqL (condT (seqR (seqL (seqR (seqR (seqR c35)))))))))))) (And True True)) True)) (And (And True (LpOk E call (lp35 call fuel base) fuel base 4 (loopB (blockB (seqR (seqL (seqR (seqR (seqR (seqR c35)))))))))) (And True True)))))) := by kernel_rfl
theorem r35_fn : E.P.funcs[35]? = some Tryd.f35 := by kernel_rfl
theorem r35_body : Tryd.f35.body = some c35 := by kernel_rfl
theorem rf35_ok : RFok E 35 rf35 := by
  refine ⟨Tryd.f35, r35_fn, fun call fuel base args m r _ h => ?_⟩
  unfold rf35 at h
  split at h
  · rw [← r35_eq] at h
    exact kbody_sound (c := c35) r35_body (Eq.mpr (r35_lk call fuel base) (And.intro trivial (And.intro trivial (And.intro trivial (And.intro (And.intro trivial (And.intro (And.intro (And.intro trivial (r35_L0_ok call fuel base)) (And.intro trivial trivial)) trivial)) (And.intro (And.intro trivial (r35_L4_ok call fuel base)) (And.intro trivial trivial))))))) h
  · simp at h
end Go.AM
namespace Go.AM
open Go Go.Proofs
noncomputable def r36_L2 (call : CallF) (fuel base : Nat) (kp : Value → M → Res2) (kr : Value → M → Res2) (kx2 : Value → Value → Value → M → Res2) (n : Nat) : Value → Value → Value → Value → M → Res2 :=
  Nat.rec (motive := fun _ => Value → Value → Value → Value → M → Res2) (fun _ _ _ _ _ => none)
    (fun _ ih x0 x1 x5 x6 m =>
      (k1 (mindexAddr E.P 22 x0 (.int .i64 0)) fun v20_3 => (k1 (xload E.P m 9 v20_3) fun v21_4 => (k2 (vcall E.P base m .len [9] [v21_4]) fun v22_5 m => (k1 (mbin E .lss 3 x6 v22_5) fun v23_6 => (kb v23_6 (kc (call base 47 [x0, x6, x5] m) (fun v29_7 m => (k1 (mun .not v29_7) fun v30_8 => (kb v30_8 (k1 (mbin E .add 3 x6 (.int .i64 1)) fun v25_9 => (ih x0 x1 x5 v25_9 m)) (k1 (mbin E .add 3 x6 (.int .i64 1)) fun v33_10 => (kc (call base 47 [x0, v33_10, x5] m) (fun v35_11 m => (kb v35_11 (k1 (mbuild E.P 68 [(0, x6), (1, x5)]) fun v40_12 => (k1 (mbin E .add 3 x6 (.int .i64 1)) fun v42_13 => (k1 (mbuild E.P 68 [(0, v42_13), (1, x5)]) fun v44_14 => (kc (call base 67 [x0, v40_12, v44_14] m) (fun v45_15 m => (kc (call base 24 [v45_15] m) (fun v46_16 m => (k1 (mextract 0 v46_16) fun v47_17 => (k1 (mextract 1 v46_16) fun v48_18 => (k1 (mbin E .neq 26 v48_18 (.int .i64 0)) fun v50_19 => (kb v50_19 (kr (.bool false) m) (k1 (mbin E .add 3 (.int .i64 0) v47_17) fun v53_20 => (k1 (mbin E .add 3 x5 (.int .i64 1)) fun v57_21 => (kc (call base 47 [x0, x6, v57_21] m) (fun v58_22 m => (kb v58_22 (k1 (mbuild E.P 68 [(0, x6), (1, x5)]) fun v63_23 => (k1 (mbin E .add 3 x5 (.int .i64 1)) fun v66_24 => (k1 (mbuild E.P 68 [(0, x6), (1, v66_24)]) fun v67_25 => (kc (call base 67 [x0, v63_23, v67_25] m) (fun v68_26 m => (kc (call base 24 [v68_26] m) (fun v69_27 m => (k1 (mextract 0 v69_27) fun v70_28 => (k1 (mextract 1 v69_27) fun v71_29 => (k1 (mbin E .neq 26 v71_29 (.int .i64 0)) fun v73_30 => (kb v73_30 (kr (.bool false) m) (k1 (mbin E .add 3 v53_20 v70_28) fun v76_31 => (k1 (mbin E .eql 3 v76_31 x1) fun v79_32 => (kr v79_32 m)))))))) (fun v m => kp v m))) (fun v m => kp v m))))) (k1 (mbin E .eql 3 v53_20 x1) fun v79_33 => (kr v79_33 m)))) (fun v m => kp v m))))))))) (fun v m => kp v m))) (fun v m => kp v m))))) (k1 (mbin E .add 3 x5 (.int .i64 1)) fun v57_34 => (kc (call base 47 [x0, x6, v57_34] m) (fun v58_35 m => (kb v58_35 (k1 (mbuild E.P 68 [(0, x6), (1, x5)]) fun v63_36 => (k1 (mbin E .add 3 x5 (.int .i64 1)) fun v66_37 => (k1 (mbuild E.P 68 [(0, x6), (1, v66_37)]) fun v67_38 => (kc (call base 67 [x0, v63_36, v67_38] m) (fun v68_39 m => (kc (call base 24 [v68_39] m) (fun v69_40 m => (k1 (mextract 0 v69_40) fun v70_41 => (k1 (mextract 1 v69_40) fun v71_42 => (k1 (mbin E .neq 26 v71_42 (.int .i64 0)) fun v73_43 => (kb v73_43 (kr (.bool false) m) (k1 (mbin E .add 3 (.int .i64 0) v70_41) fun v76_44 => (k1 (mbin E .eql 3 v76_44 x1) fun v79_45 => (kr v79_45 m)))))))) (fun v m => kp v m))) (fun v m => kp v m))))) (k1 (mbin E .eql 3 (.int .i64 0) x1) fun v79_46 => (kr v79_46 m)))) (fun v m => kp v m))))) (fun v m => kp v m)))))) (fun v m => kp v m)) (kx2 x0 x1 x5 m))))))) n
noncomputable def r36_L0 (call : CallF) (fuel base : Nat) (kp : Value → M → Res2) (kr : Value → M → Res2) (kx0 : Value → M → Res2) (n : Nat) : Value → Value → Value → M → Res2 :=
  Nat.rec (motive := fun _ => Value → Value → Value → M → Res2) (fun _ _ _ _ => none)
    (fun _ ih x0 x1 x5 m =>
      (k2 (vcall E.P base m .len [22] [x0]) fun v14_1 m => (k1 (mbin E .lss 3 x5 v14_1) fun v15_2 => (kb v15_2 (r36_L2 call fuel base (fun v m => kp v m) (fun y4_47 m => (kr y4_47 m)) (fun y0_48 y1_49 y5_50 m => (k1 (mbin E .add 3 y5_50 (.int .i64 1)) fun v17_51 => (ih y0_48 y1_49 v17_51 m))) fuel x0 x1 x5 (.int .i64 0) m) (kx0 x1 m))))) n
noncomputable def r36 (call : CallF) (fuel base : Nat) (x0 : Value) (x1 : Value) (m : M) : Res2 :=
  (r36_L0 call fuel base (fun v m => some (.pan v, m)) (fun y4_52 m => (fVal y4_52 fun v => some (.ret v, m))) (fun y1_53 m => (k1 (mbin E .eql 3 y1_53 (.int .i64 1)) fun v81_54 => (fVal v81_54 fun v => some (.ret v, m)))) fuel x0 x1 (.int .i64 0) m)
def keep36 : Keep := { region := fun i => ([[0, 1], [0, 1, 5], [0, 1, 5, 15], [0, 1, 5], [0, 1, 5, 6], [0, 1, 5, 6, 23], [0, 1, 5, 6], [0, 1, 5, 6, 30], [0, 1, 5, 6, 7], [0, 1, 5, 6, 7, 35], [0, 1, 5, 6, 7, 8, 9], [0, 1, 5, 6, 7, 8, 50], [4], [0, 1, 5, 6, 7], [0, 1, 5, 6, 7, 58], [1, 7, 10, 11], [1, 7, 10, 73], [4], [1, 7], [4], [4]] : List (List Nat))[i]?, exit := fun i => ([[1], [0, 1, 5], [0, 1, 5], [0, 1, 5, 6]] : List (List Nat))[i]?, ret := some [4] }
noncomputable def r36_L2_R (call : CallF) (fuel base n : Nat) (vs : List Value) (m : M) (K : KT) : Res2 := match vs with
  | [x0, x1, x5, x6] => r36_L2 call fuel base (fun v m => K (.pan v) { n := 82, l := [] } m) (fun y4 m => K .ret { n := 82, l := [(4, y4)] } m) (fun y0 y1 y5 m => K (.exit 2) { n := 82, l := [(0, y0), (1, y1), (5, y5)] } m) n x0 x1 x5 x6 m
  | _ => none
noncomputable def r36_L0_R (call : CallF) (fuel base n : Nat) (vs : List Value) (m : M) (K : KT) : Res2 := match vs with
  | [x0, x1, x5] => r36_L0 call fuel base (fun v m => K (.pan v) { n := 82, l := [] } m) (fun y4 m => K .ret { n := 82, l := [(4, y4)] } m) (fun y1 m => K (.exit 0) { n := 82, l := [(1, y1)] } m) n x0 x1 x5 m
  | _ => none
noncomputable def lp36 (call : CallF) (fuel base : Nat) : Lp := lpsel [(2, fun T m K => kslots 82 [0, 1, 5, 6] T fun vs => r36_L2_R call fuel base fuel vs m K), (0, fun T m K => kslots 82 [0, 1, 5] T fun vs => r36_L0_R call fuel base fuel vs m K)]
noncomputable def c36 : Code := Tryd.f36.body.getD .skip
theorem r36_L2_lk (call : CallF) (fuel base : Nat) : LoopsOk E call (lp36 call fuel base) fuel base 2 (loopB (blockB (seqR (blockB (seqL (seqR (loopB (blockB (seqR (seqL (seqR c36))))))))))) = (And (And True (And True True)) (And (And (And True (And True True)) (And True (And (And True (And (And True (And (And True (And (And True True) True)) True)) True)) (And (And True (And (And True (And (And True (And (And True True) True)) True)) True)) (And True True))))) True)) := by kernel_rfl
theorem r36_L2_ok (call : CallF) (fuel base : Nat) : LpOk E call (lp36 call fuel base) fuel base 2 (loopB (blockB (seqR (blockB (seqL (seqR (loopB (blockB (seqR (seqL (seqR c36))))))))))) := by
  refine loop_ok (kp := keep36) (hb := Eq.mpr (r36_L2_lk call fuel base) (And.intro (And.intro trivial (And.intro trivial trivial)) (And.intro (And.intro (And.intro trivial (And.intro trivial trivial)) (And.intro trivial (And.intro (And.intro trivial (And.intro (And.intro trivial (And.intro (And.intro trivial (And.intro (And.intro trivial trivial) trivial)) trivial)) trivial)) (And.intro (And.intro trivial (And.intro (And.intro trivial (And.intro (And.intro trivial (And.intro (And.intro trivial trivial) trivial)) trivial)) trivial)) (And.intro trivial trivial))))) trivial))) 82 [0, 1, 5, 6] (fun n vs m K => r36_L2_R call fuel base n vs m K) ?_ ?_ (fun _ _ _ => rfl)
  · intro vs m K
    unfold r36_L2_R
    split <;> rfl
  · intro n vs m K hl
    match vs, hl with
    | [x0, x1, x5, x6], _ => show _ = _; kernel_rfl
theorem r36_L0_lk (call : CallF) (fuel base : Nat) : LoopsOk E call (lp36 call fuel base) fuel base 0 (loopB (blockB (seqR (seqL (seqR c36))))) = (And (And True (And True True)) (And (And True (LpOk E call (lp36 call fuel base) fuel base 2 (loopB (blockB (seqR (blockB (seqL (seqR (loopB (blockB (seqR (seqL (seqR c36))))))))))))) True)) := by kernel_rfl
theorem r36_L0_ok (call : CallF) (fuel base : Nat) : LpOk E call (lp36 call fuel base) fuel base 0 (loopB (blockB (seqR (seqL (seqR c36))))) := by
  refine loop_ok (kp := keep36) (hb := Eq.mpr (r36_L0_lk call fuel base) (And.intro (And.intro trivial (And.intro trivial trivial)) (And.intro (And.intro trivial (r36_L2_ok call fuel base)) trivial))) 82 [0, 1, 5] (fun n vs m K => r36_L0_R call fuel base n vs m K) ?_ ?_ (fun _ _ _ => rfl)
  · intro vs m K
    unfold r36_L0_R
    split <;> rfl
  · intro n vs m K hl
    match vs, hl with
    | [x0, x1, x5], _ => show _ = _; kernel_rfl
theorem r36_eq (call : CallF) (fuel base : Nat) (x0 : Value) (x1 : Value) (m : M) : kbody E call keep36 (lp36 call fuel base) base Tryd.f36 [x0, x1] m = r36 call fuel base x0 x1 m := by
  kernel_rfl
noncomputable def rf36 : RF := fun call fuel base args m => match args with
  | [x0, x1] => r36 call fuel base x0 x1 m
  | _ => none
theorem r36_lk (call : CallF) (fuel base : Nat) : LoopsOk E call (lp36 call fuel base) fuel base 0 c36 = (And True (And (And True (LpOk E call (lp36 call fuel base) fuel base 0 (loopB (blockB (seqR (seqL (seqR c36))))))) (And True True))) := by kernel_rfl
theorem r36_fn : E.P.funcs[36]? = some Tryd.f36 := by kernel_rfl
theorem r36_body : Tryd.f36.body = some c36 := by kernel_rfl
theorem rf36_ok : RFok E 36 rf36 := by
  refine ⟨Tryd.f36, r36_fn, fun call fuel base args m r _ h => ?_⟩
  unfold rf36 at h
  split at h
  · rw [← r36_eq] at h
    exact kbody_sound (c := c36) r36_body (Eq.mpr (r36_lk call fuel base) (And.intro trivial (And.intro (And.intro trivial (r36_L0_ok call fuel base)) (And.intro trivial trivial)))) h
  · simp at h
end Go.AM
