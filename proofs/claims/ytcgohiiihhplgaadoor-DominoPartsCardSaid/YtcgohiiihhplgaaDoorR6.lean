import Derived.KernelRfl
import Derived.Laws.BytesArg
import Derived.Laws.StructEq
import Derived.Test.YtcgohiiihhplgaaDoorRows
import Derived.WalkKit
import Derived.Test.YtcgohiiihhplgaaDoorAmB
import Derived.Test.YtcgohiiihhplgaaDoorAmModel
import Derived.Test.YtcgohiiihhplgaaDoorAmOps6
import Derived.Test.YtcgohiiihhplgaaDoorAmCode
import Derived.Test.YtcgohiiihhplgaaDoorAmK2
import Derived.Test.YtcgohiiihhplgaaDoorAmEq
import Derived.Test.YtcgohiiihhplgaaDoorRBase
set_option linter.unusedVariables false
set_option linter.unusedSimpArgs false
set_option linter.unusedSectionVars false
namespace Go.AM
open Go Go.Proofs
noncomputable def r6 (call : CallF) (fuel base : Nat) (x0 : Value) (m : M) : Res2 :=
  (kc (call base 12 [x0] m) (fun v11_1 m => (k1 (mun .not v11_1) fun v12_2 => (kb v12_2 (kc (call base 13 [] m) (fun v13_3 m => (fVal v13_3 fun v => some (.ret v, m))) (fun v m => some (.pan v, m))) (k2 (xbuildSlice E.P m 22 0 []) fun v14_4 m => (k2 (vcall E.P base m .append [22, 22] [v14_4, x0]) fun v16_5 m => (kc (call base 27 [v16_5] m) (fun v19_6 m => (k1 (mextract 0 v19_6) fun v20_7 => (k1 (mextract 1 v19_6) fun v21_8 => (kc (call base 28 [x0] m) (fun v24_9 m => (k1 (mextract 0 v24_9) fun v25_10 => (k1 (mextract 1 v24_9) fun v26_11 => (kc (call base 29 [v20_7, v25_10] m) (fun v29_12 m => (k1 (mun .not v29_12) fun v30_13 => (kb v30_13 (fVal (.bool false) fun v => some (.ret v, m)) (k1 (mbin E .neq 26 v21_8 v26_11) fun v34_14 => (kb v34_14 (fVal (.bool false) fun v => some (.ret v, m)) (kc (call base 30 [v16_5] m) (fun v38_15 m => (k1 (mextract 0 v38_15) fun v39_16 => (k1 (mextract 1 v38_15) fun v40_17 => (kc (call base 31 [x0] m) (fun v43_18 m => (k1 (mextract 0 v43_18) fun v44_19 => (k1 (mextract 1 v43_18) fun v45_20 => (k1 (mbin E .neq 3 v39_16 v44_19) fun v48_21 => (kb v48_21 (fVal (.bool false) fun v => some (.ret v, m)) (k1 (mbin E .neq 26 v40_17 v45_20) fun v52_22 => (kb v52_22 (fVal (.bool false) fun v => some (.ret v, m)) (kc (call base 32 [v16_5] m) (fun v56_23 m => (k1 (mextract 0 v56_23) fun v57_24 => (k1 (mextract 1 v56_23) fun v58_25 => (kc (call base 33 [x0] m) (fun v61_26 m => (k1 (mextract 0 v61_26) fun v62_27 => (k1 (mextract 1 v61_26) fun v63_28 => (kc (call base 29 [v57_24, v62_27] m) (fun v66_29 m => (kb v66_29 (k1 (mbin E .eql 26 v58_25 v63_28) fun v70_30 => (kb v70_30 (kc (call base 19 [v16_5, x0] m) (fun v75_31 m => (kb v75_31 (kc (call base 13 [] m) (fun v78_32 m => (fVal v78_32 fun v => some (.ret v, m))) (fun v m => some (.pan v, m))) (fVal (.bool false) fun v => some (.ret v, m)))) (fun v m => some (.pan v, m))) (fVal (.bool false) fun v => some (.ret v, m)))) (fVal (.bool false) fun v => some (.ret v, m)))) (fun v m => some (.pan v, m)))))) (fun v m => some (.pan v, m)))))) (fun v m => some (.pan v, m)))))))))) (fun v m => some (.pan v, m)))))) (fun v m => some (.pan v, m)))))))) (fun v m => some (.pan v, m)))))) (fun v m => some (.pan v, m)))))) (fun v m => some (.pan v, m)))))))) (fun v m => some (.pan v, m)))
def keep6 : Keep := { region := fun i => ([[0], [0, 12], [2], [0, 3], [0, 3, 4, 5], [0, 3, 4, 5, 6, 7], [0, 3, 35], [2], [0, 3, 5, 8], [0, 3, 5, 7, 8, 9], [0, 3, 53], [2], [0, 3, 4, 5], [0, 3, 4, 5, 6, 7], [2]] : List (List Nat))[i]?, exit := fun i => ([] : List (List Nat))[i]?, ret := some [2] }
noncomputable def lp6 (call : CallF) (fuel base : Nat) : Lp := lpsel []
noncomputable def c6 : Code := Tryd.f6.body.getD .skip
theorem r6_eq (call : CallF) (fuel base : Nat) (x0 : Value) (m : M) : kbody E call keep6 (lp6 call fuel base) base Tryd.f6 [x0] m = r6 call fuel base x0 m := by
  kernel_rfl
noncomputable def rf6 : RF := fun call fuel base args m => match args with
  | [x0] => r6 call fuel base x0 m
  | _ => none
theorem r6_lk (call : CallF) (fuel base : Nat) : LoopsOk E call (lp6 call fuel base) fuel base 0 c6 = (And True (And (And True (And (And True True) True)) (And True (And True (And True (And (And True (And (And True True) True)) (And True (And True (And (And True (And (And True True) True)) (And True (And True (And True True)))))))))))) := by kernel_rfl
theorem r6_fn : E.P.funcs[6]? = some Tryd.f6 := by kernel_rfl
theorem r6_body : Tryd.f6.body = some c6 := by kernel_rfl
theorem rf6_ok : RFok E 6 rf6 := by
  refine ⟨Tryd.f6, r6_fn, fun call fuel base args m r _ h => ?_⟩
  unfold rf6 at h
  split at h
  · rw [← r6_eq] at h
    exact kbody_sound (c := c6) r6_body (Eq.mpr (r6_lk call fuel base) (And.intro trivial (And.intro (And.intro trivial (And.intro (And.intro trivial trivial) trivial)) (And.intro trivial (And.intro trivial (And.intro trivial (And.intro (And.intro trivial (And.intro (And.intro trivial trivial) trivial)) (And.intro trivial (And.intro trivial (And.intro (And.intro trivial (And.intro (And.intro trivial trivial) trivial)) (And.intro trivial (And.intro trivial (And.intro trivial trivial))))))))))))) h
  · simp at h
end Go.AM
namespace Go.AM
open Go Go.Proofs
noncomputable def r12_L0 (call : CallF) (fuel base : Nat) (kr : Value → M → Res2) (kx0 : M → Res2) (n : Nat) : Value → Value → M → Res2 :=
  Nat.rec (motive := fun _ => Value → Value → M → Res2) (fun _ _ _ => none)
    (fun _ ih x0 x3 m =>
      (k2 (vcall E.P base m .len [22] [x0]) fun v6_1 m => (k1 (mbin E .lss 3 x3 v6_1) fun v7_2 => (kb v7_2 (k1 (mbin E .geq 3 x3 (.int .i64 20)) fun v11_3 => (kb v11_3 (kr (.bool false) m) (k1 (mindexAddr E.P 22 x0 x3) fun v15_4 => (k1 (xload E.P m 9 v15_4) fun v16_5 => (k2 (vcall E.P base m .len [9] [v16_5]) fun v17_6 m => (k1 (mbin E .gtr 3 v17_6 (.int .i64 20)) fun v18_7 => (kb v18_7 (kr (.bool false) m) (k1 (mbin E .add 3 x3 (.int .i64 1)) fun v9_8 => (ih x0 v9_8 m))))))))) (kx0 m))))) n
noncomputable def r12 (call : CallF) (fuel base : Nat) (x0 : Value) (m : M) : Res2 :=
  (r12_L0 call fuel base (fun y2_9 m => (fVal y2_9 fun v => some (.ret v, m))) (fun m => (fVal (.bool true) fun v => some (.ret v, m))) fuel x0 (.int .i64 0) m)
def keep12 : Keep := { region := fun i => ([[0], [0, 3], [0, 3, 7], [0, 3], [0, 3, 19], [2], [2]] : List (List Nat))[i]?, exit := fun i => ([[], [0, 3]] : List (List Nat))[i]?, ret := some [2] }
noncomputable def r12_L0_R (call : CallF) (fuel base n : Nat) (vs : List Value) (m : M) (K : KT) : Res2 := match vs with
  | [x0, x3] => r12_L0 call fuel base (fun y2 m => K .ret { n := 20, l := [(2, y2)] } m) (fun m => K (.exit 0) { n := 20, l := [] } m) n x0 x3 m
  | _ => none
noncomputable def lp12 (call : CallF) (fuel base : Nat) : Lp := lpsel [(0, fun T m K => kslots 20 [0, 3] T fun vs => r12_L0_R call fuel base fuel vs m K)]
noncomputable def c12 : Code := Tryd.f12.body.getD .skip
theorem r12_L0_lk (call : CallF) (fuel base : Nat) : LoopsOk E call (lp12 call fuel base) fuel base 0 (loopB (blockB (seqR (seqL (seqR c12))))) = (And (And True (And True True)) (And (And True (And (And True True) True)) True)) := by kernel_rfl
theorem r12_L0_ok (call : CallF) (fuel base : Nat) : LpOk E call (lp12 call fuel base) fuel base 0 (loopB (blockB (seqR (seqL (seqR c12))))) := by
  refine loop_ok (kp := keep12) (hb := Eq.mpr (r12_L0_lk call fuel base) (And.intro (And.intro trivial (And.intro trivial trivial)) (And.intro (And.intro trivial (And.intro (And.intro trivial trivial) trivial)) trivial))) 20 [0, 3] (fun n vs m K => r12_L0_R call fuel base n vs m K) ?_ ?_ (fun _ _ _ => rfl)
  · intro vs m K
    unfold r12_L0_R
    split <;> rfl
  · intro n vs m K hl
    match vs, hl with
    | [x0, x3], _ => show _ = _; kernel_rfl
theorem r12_eq (call : CallF) (fuel base : Nat) (x0 : Value) (m : M) : kbody E call keep12 (lp12 call fuel base) base Tryd.f12 [x0] m = r12 call fuel base x0 m := by
  kernel_rfl
noncomputable def rf12 : RF := fun call fuel base args m => match args with
  | [x0] => r12 call fuel base x0 m
  | _ => none
theorem r12_lk (call : CallF) (fuel base : Nat) : LoopsOk E call (lp12 call fuel base) fuel base 0 c12 = (And True (And (And True (LpOk E call (lp12 call fuel base) fuel base 0 (loopB (blockB (seqR (seqL (seqR c12))))))) (And True True))) := by kernel_rfl
theorem r12_fn : E.P.funcs[12]? = some Tryd.f12 := by kernel_rfl
theorem r12_body : Tryd.f12.body = some c12 := by kernel_rfl
theorem rf12_ok : RFok E 12 rf12 := by
  refine ⟨Tryd.f12, r12_fn, fun call fuel base args m r _ h => ?_⟩
  unfold rf12 at h
  split at h
  · rw [← r12_eq] at h
    exact kbody_sound (c := c12) r12_body (Eq.mpr (r12_lk call fuel base) (And.intro trivial (And.intro (And.intro trivial (r12_L0_ok call fuel base)) (And.intro trivial trivial)))) h
  · simp at h
end Go.AM
namespace Go.AM
open Go Go.Proofs
noncomputable def r13 (call : CallF) (fuel base : Nat) (m : M) : Res2 :=
  (k2 (xbuildSlice E.P m 22 3 [(0, (.string (ByteArray.mk #[35, 35, 35]))), (1, (.string (ByteArray.mk #[35, 35, 35]))), (2, (.string (ByteArray.mk #[35, 35, 46])))]) fun v8_1 m => (kc (call base 24 [v8_1] m) (fun v9_2 m => (k1 (mextract 0 v9_2) fun v10_3 => (k1 (mextract 1 v9_2) fun v11_4 => (k2 (xbuildSlice E.P m 22 2 [(0, (.string (ByteArray.mk #[35, 35]))), (1, (.string (ByteArray.mk #[35, 35])))]) fun v13_5 m => (kc (call base 25 [v13_5] m) (fun v14_6 m => (k1 (mextract 0 v14_6) fun v15_7 => (k1 (mextract 1 v14_6) fun v16_8 => (k2 (xbuildSlice E.P m 22 2 [(0, (.string (ByteArray.mk #[35, 46]))), (1, (.string (ByteArray.mk #[46, 35])))]) fun v18_9 m => (kc (call base 23 [v18_9] m) (fun v19_10 m => (k1 (mextract 0 v19_10) fun v20_11 => (k1 (mextract 1 v19_10) fun v21_12 => (k1 (mbin E .eql 26 v11_4 (.int .i64 0)) fun v23_13 => (kb v23_13 (k1 (mbin E .eql 3 v10_3 (.int .i64 4)) fun v26_14 => (kb v26_14 (k1 (mbin E .eql 26 v16_8 (.int .i64 0)) fun v30_15 => (kb v30_15 (k1 (mbin E .eql 3 v15_7 (.int .i64 2)) fun v34_16 => (kb v34_16 (k1 (mbin E .eql 26 v21_12 (.int .i64 0)) fun v38_17 => (kb v38_17 (k2 (vcall E.P base m .len [36] [v20_11]) fun v42_18 m => (k1 (mbin E .geq 3 v42_18 (.int .i64 1)) fun v43_19 => (fVal v43_19 fun v => some (.ret v, m)))) (fVal (.bool false) fun v => some (.ret v, m)))) (fVal (.bool false) fun v => some (.ret v, m)))) (fVal (.bool false) fun v => some (.ret v, m)))) (fVal (.bool false) fun v => some (.ret v, m)))) (fVal (.bool false) fun v => some (.ret v, m))))))) (fun v m => some (.pan v, m))))))) (fun v m => some (.pan v, m))))))) (fun v m => some (.pan v, m))))
def keep13 : Keep := { region := fun i => ([[], [1, 2], [1, 2, 3, 4], [1, 2, 3, 4, 5, 6], [0]] : List (List Nat))[i]?, exit := fun i => ([] : List (List Nat))[i]?, ret := some [0] }
noncomputable def lp13 (call : CallF) (fuel base : Nat) : Lp := lpsel []
noncomputable def c13 : Code := Tryd.f13.body.getD .skip
theorem r13_eq (call : CallF) (fuel base : Nat) (m : M) : kbody E call keep13 (lp13 call fuel base) base Tryd.f13 [] m = r13 call fuel base  m := by
  kernel_rfl
noncomputable def rf13 : RF := fun call fuel base args m => match args with
  | [] => r13 call fuel base  m
  | _ => none
theorem r13_lk (call : CallF) (fuel base : Nat) : LoopsOk E call (lp13 call fuel base) fuel base 0 c13 = (And True (And True (And True (And True (And True True))))) := by kernel_rfl
theorem r13_fn : E.P.funcs[13]? = some Tryd.f13 := by kernel_rfl
theorem r13_body : Tryd.f13.body = some c13 := by kernel_rfl
theorem rf13_ok : RFok E 13 rf13 := by
  refine ⟨Tryd.f13, r13_fn, fun call fuel base args m r _ h => ?_⟩
  unfold rf13 at h
  split at h
  · rw [← r13_eq] at h
    exact kbody_sound (c := c13) r13_body (Eq.mpr (r13_lk call fuel base) (And.intro trivial (And.intro trivial (And.intro trivial (And.intro trivial (And.intro trivial trivial)))))) h
  · simp at h
end Go.AM
namespace Go.AM
open Go Go.Proofs
noncomputable def r19_L0 (call : CallF) (fuel base : Nat) (kr : Value → M → Res2) (kx0 : M → Res2) (n : Nat) : Value → Value → Value → M → Res2 :=
  Nat.rec (motive := fun _ => Value → Value → Value → M → Res2) (fun _ _ _ _ => none)
    (fun _ ih x0 x1 x5 m =>
      (k2 (vcall E.P base m .len [22] [x0]) fun v13_4 m => (k1 (mbin E .lss 3 x5 v13_4) fun v14_5 => (kb v14_5 (k1 (mindexAddr E.P 22 x0 x5) fun v19_6 => (k1 (xload E.P m 9 v19_6) fun v20_7 => (k1 (mindexAddr E.P 22 x1 x5) fun v23_8 => (k1 (xload E.P m 9 v23_8) fun v24_9 => (k1 (mbin E .neq 9 v20_7 v24_9) fun v25_10 => (kb v25_10 (kr (.bool false) m) (k1 (mbin E .add 3 x5 (.int .i64 1)) fun v16_11 => (ih x0 x1 v16_11 m)))))))) (kx0 m))))) n
noncomputable def r19 (call : CallF) (fuel base : Nat) (x0 : Value) (x1 : Value) (m : M) : Res2 :=
  (k2 (vcall E.P base m .len [22] [x0]) fun v7_1 m => (k2 (vcall E.P base m .len [22] [x1]) fun v9_2 m => (k1 (mbin E .neq 3 v7_1 v9_2) fun v10_3 => (kb v10_3 (fVal (.bool false) fun v => some (.ret v, m)) (r19_L0 call fuel base (fun y4_12 m => (fVal y4_12 fun v => some (.ret v, m))) (fun m => (fVal (.bool true) fun v => some (.ret v, m))) fuel x0 x1 (.int .i64 0) m)))))
def keep19 : Keep := { region := fun i => ([[0, 1], [0, 1, 10], [4], [0, 1, 5], [0, 1, 5, 14], [0, 1, 5], [0, 1, 5, 25], [4], [4]] : List (List Nat))[i]?, exit := fun i => ([[], [0, 1, 5]] : List (List Nat))[i]?, ret := some [4] }
noncomputable def r19_L0_R (call : CallF) (fuel base n : Nat) (vs : List Value) (m : M) (K : KT) : Res2 := match vs with
  | [x0, x1, x5] => r19_L0 call fuel base (fun y4 m => K .ret { n := 26, l := [(4, y4)] } m) (fun m => K (.exit 0) { n := 26, l := [] } m) n x0 x1 x5 m
  | _ => none
noncomputable def lp19 (call : CallF) (fuel base : Nat) : Lp := lpsel [(0, fun T m K => kslots 26 [0, 1, 5] T fun vs => r19_L0_R call fuel base fuel vs m K)]
noncomputable def c19 : Code := Tryd.f19.body.getD .skip
theorem r19_L0_lk (call : CallF) (fuel base : Nat) : LoopsOk E call (lp19 call fuel base) fuel base 0 (loopB (blockB (seqR (seqL (seqR (seqR c19)))))) = (And (And True (And True True)) (And (And True (And (And True True) True)) True)) := by kernel_rfl
theorem r19_L0_ok (call : CallF) (fuel base : Nat) : LpOk E call (lp19 call fuel base) fuel base 0 (loopB (blockB (seqR (seqL (seqR (seqR c19)))))) := by
  refine loop_ok (kp := keep19) (hb := Eq.mpr (r19_L0_lk call fuel base) (And.intro (And.intro trivial (And.intro trivial trivial)) (And.intro (And.intro trivial (And.intro (And.intro trivial trivial) trivial)) trivial))) 26 [0, 1, 5] (fun n vs m K => r19_L0_R call fuel base n vs m K) ?_ ?_ (fun _ _ _ => rfl)
  · intro vs m K
    unfold r19_L0_R
    split <;> rfl
  · intro n vs m K hl
    match vs, hl with
    | [x0, x1, x5], _ => show _ = _; kernel_rfl
theorem r19_eq (call : CallF) (fuel base : Nat) (x0 : Value) (x1 : Value) (m : M) : kbody E call keep19 (lp19 call fuel base) base Tryd.f19 [x0, x1] m = r19 call fuel base x0 x1 m := by
  kernel_rfl
noncomputable def rf19 : RF := fun call fuel base args m => match args with
  | [x0, x1] => r19 call fuel base x0 x1 m
  | _ => none
theorem r19_lk (call : CallF) (fuel base : Nat) : LoopsOk E call (lp19 call fuel base) fuel base 0 c19 = (And True (And (And True (And (And True True) True)) (And (And True (LpOk E call (lp19 call fuel base) fuel base 0 (loopB (blockB (seqR (seqL (seqR (seqR c19)))))))) (And True True)))) := by kernel_rfl
theorem r19_fn : E.P.funcs[19]? = some Tryd.f19 := by kernel_rfl
theorem r19_body : Tryd.f19.body = some c19 := by kernel_rfl
theorem rf19_ok : RFok E 19 rf19 := by
  refine ⟨Tryd.f19, r19_fn, fun call fuel base args m r _ h => ?_⟩
  unfold rf19 at h
  split at h
  · rw [← r19_eq] at h
    exact kbody_sound (c := c19) r19_body (Eq.mpr (r19_lk call fuel base) (And.intro trivial (And.intro (And.intro trivial (And.intro (And.intro trivial trivial) trivial)) (And.intro (And.intro trivial (r19_L0_ok call fuel base)) (And.intro trivial trivial))))) h
  · simp at h
end Go.AM
namespace Go.AM
open Go Go.Proofs
noncomputable def r23 (call : CallF) (fuel base : Nat) (x0 : Value) (m : M) : Res2 :=
  (kc (call base 41 [x0] m) (fun v9_1 m => (k1 (mextract 0 v9_1) fun v10_2 => (k1 (mextract 1 v9_1) fun v11_3 => (k2 (xalloc E.P m 60) fun v4_4 m => (ks (xstore E.P base m 60 v4_4 v10_2) fun m => (k1 (mun .not v11_3) fun v13_5 => (kb v13_5 (some (.ret (.tuple #[(.slice none 0 0), (.int .i64 2)]), m)) (k1 (mfieldAddr E.P 60 v4_4 2) fun v14_6 => (k1 (xload E.P m 58 v14_6) fun v15_7 => (kc (call base 50 [v15_7] m) (fun v16_8 m => (k1 (mbin E .eql 58 v16_8 (.int .u64 0)) fun v18_9 => (kb v18_9 (some (.ret (.tuple #[(.slice none 0 0), (.int .i64 10)]), m)) (kc (call base 51 [v16_8] m) (fun v20_10 m => (some (.ret (.tuple #[v20_10, (.int .i64 0)]), m))) (fun v m => some (.pan v, m)))))) (fun v m => some (.pan v, m)))))))))))) (fun v m => some (.pan v, m)))
def keep23 : Keep := { region := fun i => ([[0], [4, 5], [4, 13], [2, 3], [6], [6, 18], [2, 3], [2, 3]] : List (List Nat))[i]?, exit := fun i => ([] : List (List Nat))[i]?, ret := some [2, 3] }
noncomputable def lp23 (call : CallF) (fuel base : Nat) : Lp := lpsel []
noncomputable def c23 : Code := Tryd.f23.body.getD .skip
theorem r23_eq (call : CallF) (fuel base : Nat) (x0 : Value) (m : M) : kbody E call keep23 (lp23 call fuel base) base Tryd.f23 [x0] m = r23 call fuel base x0 m := by
  kernel_rfl
noncomputable def rf23 : RF := fun call fuel base args m => match args with
  | [x0] => r23 call fuel base x0 m
  | _ => none
theorem r23_lk (call : CallF) (fuel base : Nat) : LoopsOk E call (lp23 call fuel base) fuel base 0 c23 = (And True (And True (And (And True (And (And True True) True)) (And True (And (And True (And (And True True) True)) (And True True)))))) := by kernel_rfl
theorem r23_fn : E.P.funcs[23]? = some Tryd.f23 := by kernel_rfl
theorem r23_body : Tryd.f23.body = some c23 := by kernel_rfl
theorem rf23_ok : RFok E 23 rf23 := by
  refine ⟨Tryd.f23, r23_fn, fun call fuel base args m r _ h => ?_⟩
  unfold rf23 at h
  split at h
  · rw [← r23_eq] at h
    exact kbody_sound (c := c23) r23_body (Eq.mpr (r23_lk call fuel base) (And.intro trivial (And.intro trivial (And.intro (And.intro trivial (And.intro (And.intro trivial trivial) trivial)) (And.intro trivial (And.intro (And.intro trivial (And.intro (And.intro trivial trivial) trivial)) (And.intro trivial trivial))))))) h
  · simp at h
end Go.AM
namespace Go.AM
open Go Go.Proofs
noncomputable def r24 (call : CallF) (fuel base : Nat) (x0 : Value) (m : M) : Res2 :=
  (kc (call base 41 [x0] m) (fun v8_1 m => (k1 (mextract 0 v8_1) fun v9_2 => (k1 (mextract 1 v8_1) fun v10_3 => (k2 (xalloc E.P m 60) fun v4_4 m => (ks (xstore E.P base m 60 v4_4 v9_2) fun m => (k1 (mun .not v10_3) fun v12_5 => (kb v12_5 (some (.ret (.tuple #[(.int .i64 0), (.int .i64 2)]), m)) (k1 (mfieldAddr E.P 60 v4_4 2) fun v13_6 => (k1 (xload E.P m 58 v13_6) fun v14_7 => (kc (call base 52 [v14_7] m) (fun v15_8 m => (some (.ret (.tuple #[v15_8, (.int .i64 0)]), m))) (fun v m => some (.pan v, m)))))))))))) (fun v m => some (.pan v, m)))
def keep24 : Keep := { region := fun i => ([[0], [4, 5], [4, 12], [2, 3], [2, 3]] : List (List Nat))[i]?, exit := fun i => ([] : List (List Nat))[i]?, ret := some [2, 3] }
noncomputable def lp24 (call : CallF) (fuel base : Nat) : Lp := lpsel []
noncomputable def c24 : Code := Tryd.f24.body.getD .skip
theorem r24_eq (call : CallF) (fuel base : Nat) (x0 : Value) (m : M) : kbody E call keep24 (lp24 call fuel base) base Tryd.f24 [x0] m = r24 call fuel base x0 m := by
  kernel_rfl
noncomputable def rf24 : RF := fun call fuel base args m => match args with
  | [x0] => r24 call fuel base x0 m
  | _ => none
theorem r24_lk (call : CallF) (fuel base : Nat) : LoopsOk E call (lp24 call fuel base) fuel base 0 c24 = (And True (And True (And (And True (And (And True True) True)) (And True True)))) := by kernel_rfl
theorem r24_fn : E.P.funcs[24]? = some Tryd.f24 := by kernel_rfl
theorem r24_body : Tryd.f24.body = some c24 := by kernel_rfl
theorem rf24_ok : RFok E 24 rf24 := by
  refine ⟨Tryd.f24, r24_fn, fun call fuel base args m r _ h => ?_⟩
  unfold rf24 at h
  split at h
  · rw [← r24_eq] at h
    exact kbody_sound (c := c24) r24_body (Eq.mpr (r24_lk call fuel base) (And.intro trivial (And.intro trivial (And.intro (And.intro trivial (And.intro (And.intro trivial trivial) trivial)) (And.intro trivial trivial))))) h
  · simp at h
end Go.AM
namespace Go.AM
open Go Go.Proofs
noncomputable def r25 (call : CallF) (fuel base : Nat) (x0 : Value) (m : M) : Res2 :=
  (kc (call base 41 [x0] m) (fun v8_1 m => (k1 (mextract 0 v8_1) fun v9_2 => (k1 (mextract 1 v8_1) fun v10_3 => (k2 (xalloc E.P m 60) fun v4_4 m => (ks (xstore E.P base m 60 v4_4 v9_2) fun m => (k1 (mun .not v10_3) fun v12_5 => (kb v12_5 (some (.ret (.tuple #[(.int .i64 0), (.int .i64 2)]), m)) (k1 (mfieldAddr E.P 60 v4_4 2) fun v13_6 => (k1 (xload E.P m 58 v13_6) fun v14_7 => (kc (call base 53 [v14_7] m) (fun v15_8 m => (some (.ret (.tuple #[v15_8, (.int .i64 0)]), m))) (fun v m => some (.pan v, m)))))))))))) (fun v m => some (.pan v, m)))
def keep25 : Keep := { region := fun i => ([[0], [4, 5], [4, 12], [2, 3], [2, 3]] : List (List Nat))[i]?, exit := fun i => ([] : List (List Nat))[i]?, ret := some [2, 3] }
noncomputable def lp25 (call : CallF) (fuel base : Nat) : Lp := lpsel []
noncomputable def c25 : Code := Tryd.f25.body.getD .skip
theorem r25_eq (call : CallF) (fuel base : Nat) (x0 : Value) (m : M) : kbody E call keep25 (lp25 call fuel base) base Tryd.f25 [x0] m = r25 call fuel base x0 m := by
  kernel_rfl
noncomputable def rf25 : RF := fun call fuel base args m => match args with
  | [x0] => r25 call fuel base x0 m
  | _ => none
theorem r25_lk (call : CallF) (fuel base : Nat) : LoopsOk E call (lp25 call fuel base) fuel base 0 c25 = (And True (And True (And (And True (And (And True True) True)) (And True True)))) := by kernel_rfl
theorem r25_fn : E.P.funcs[25]? = some Tryd.f25 := by kernel_rfl
theorem r25_body : Tryd.f25.body = some c25 := by kernel_rfl
theorem rf25_ok : RFok E 25 rf25 := by
  refine ⟨Tryd.f25, r25_fn, fun call fuel base args m r _ h => ?_⟩
  unfold rf25 at h
  split at h
  · rw [← r25_eq] at h
    exact kbody_sound (c := c25) r25_body (Eq.mpr (r25_lk call fuel base) (And.intro trivial (And.intro trivial (And.intro (And.intro trivial (And.intro (And.intro trivial trivial) trivial)) (And.intro trivial trivial))))) h
  · simp at h
end Go.AM
namespace Go.AM
open Go Go.Proofs
noncomputable def r27_L0 (call : CallF) (fuel base : Nat) (kp : Value → M → Res2) (kx0 : Value → M → Res2) (n : Nat) : Value → Value → Value → Value → Value → M → Res2 :=
  Nat.rec (motive := fun _ => Value → Value → Value → Value → Value → M → Res2) (fun _ _ _ _ _ _ => none)
    (fun _ ih x4 x6 x18 x19 x20 m =>
      (k1 (mbin E .lss 3 x20 x19) fun v21_10 => (kb v21_10 (k1 (mindexAddr E.P 86 x18 x20) fun v22_11 => (k1 (xload E.P m 58 v22_11) fun v23_12 => (k1 (xload E.P m 60 x4) fun v25_13 => (kc (call base 61 [v25_13, v23_12] m) (fun v27_14 m => (k2 (xbuildSlice E.P m 43 1 [(0, v27_14)]) fun v28_15 m => (k2 (vcall E.P base m .append [43, 43] [x6, v28_15]) fun v29_16 m => (k1 (mbin E .add 3 x20 (.int .i64 1)) fun v30_17 => (ih x4 v29_16 x18 x19 v30_17 m))))) (fun v m => kp v m))))) (kx0 x6 m)))) n
noncomputable def r27 (call : CallF) (fuel base : Nat) (x0 : Value) (m : M) : Res2 :=
  (kc (call base 41 [x0] m) (fun v11_1 m => (k1 (mextract 0 v11_1) fun v12_2 => (k1 (mextract 1 v11_1) fun v13_3 => (k2 (xalloc E.P m 60) fun v4_4 m => (ks (xstore E.P base m 60 v4_4 v12_2) fun m => (k1 (mun .not v13_3) fun v15_5 => (kb v15_5 (some (.ret (.tuple #[(.slice none 0 0), (.int .i64 2)]), m)) (k1 (mfieldAddr E.P 60 v4_4 2) fun v16_6 => (k1 (xload E.P m 58 v16_6) fun v17_7 => (kc (call base 59 [v17_7, (.func (.func 60) #[] #[])] m) (fun v18_8 m => (k2 (vcall E.P base m .len [86] [v18_8]) fun v19_9 m => (r27_L0 call fuel base (fun v m => some (.pan v, m)) (fun y6_18 m => (some (.ret (.tuple #[y6_18, (.int .i64 0)]), m))) fuel v4_4 (.slice none 0 0) v18_8 v19_9 (.int .i64 0) m))) (fun v m => some (.pan v, m)))))))))))) (fun v m => some (.pan v, m)))
def keep27 : Keep := { region := fun i => ([[0], [4, 5], [4, 15], [2, 3], [4, 6], [4, 6, 18, 19, 20], [4, 6, 18, 19, 20, 21], [4, 6, 8, 18, 19, 20], [4, 6, 18, 19, 20], [4, 6, 18, 19, 20], [2, 3]] : List (List Nat))[i]?, exit := fun i => ([[6], [4, 6, 18, 19, 20]] : List (List Nat))[i]?, ret := some [2, 3] }
noncomputable def r27_L0_R (call : CallF) (fuel base n : Nat) (vs : List Value) (m : M) (K : KT) : Res2 := match vs with
  | [x4, x6, x18, x19, x20] => r27_L0 call fuel base (fun v m => K (.pan v) { n := 32, l := [] } m) (fun y6 m => K (.exit 0) { n := 32, l := [(6, y6)] } m) n x4 x6 x18 x19 x20 m
  | _ => none
noncomputable def lp27 (call : CallF) (fuel base : Nat) : Lp := lpsel [(0, fun T m K => kslots 32 [4, 6, 18, 19, 20] T fun vs => r27_L0_R call fuel base fuel vs m K)]
noncomputable def c27 : Code := Tryd.f27.body.getD .skip
theorem r27_L0_lk (call : CallF) (fuel base : Nat) : LoopsOk E call (lp27 call fuel base) fuel base 0 (loopB (blockB (seqR (seqL (seqR (seqR (seqR (seqR c27)))))))) = (And True (And (And True True) (And (And True True) True))) := by kernel_rfl
theorem r27_L0_ok (call : CallF) (fuel base : Nat) : LpOk E call (lp27 call fuel base) fuel base 0 (loopB (blockB (seqR (seqL (seqR (seqR (seqR (seqR c27)))))))) := by
  refine loop_ok (kp := keep27) (hb := Eq.mpr (r27_L0_lk call fuel base) (And.intro trivial (And.intro (And.intro trivial trivial) (And.intro (And.intro trivial trivial) trivial)))) 32 [4, 6, 18, 19, 20] (fun n vs m K => r27_L0_R call fuel base n vs m K) ?_ ?_ (fun _ _ _ => rfl)
  · intro vs m K
    unfold r27_L0_R
    split <;> rfl
  · intro n vs m K hl
    match vs, hl with
    | [x4, x6, x18, x19, x20], _ => show _ = _; kernel_rfl
theorem r27_eq (call : CallF) (fuel base : Nat) (x0 : Value) (m : M) : kbody E call keep27 (lp27 call fuel base) base Tryd.f27 [x0] m = r27 call fuel base x0 m := by
  kernel_rfl
noncomputable def rf27 : RF := fun call fuel base args m => match args with
  | [x0] => r27 call fuel base x0 m
  | _ => none
theorem r27_lk (call : CallF) (fuel base : Nat) : LoopsOk E call (lp27 call fuel base) fuel base 0 c27 = (And True (And True (And (And True (And (And True True) True)) (And True (And (And True (LpOk E call (lp27 call fuel base) fuel base 0 (loopB (blockB (seqR (seqL (seqR (seqR (seqR (seqR c27)))))))))) (And True True)))))) := by kernel_rfl
theorem r27_fn : E.P.funcs[27]? = some Tryd.f27 := by kernel_rfl
theorem r27_body : Tryd.f27.body = some c27 := by kernel_rfl
theorem rf27_ok : RFok E 27 rf27 := by
  refine ⟨Tryd.f27, r27_fn, fun call fuel base args m r _ h => ?_⟩
  unfold rf27 at h
  split at h
  · rw [← r27_eq] at h
    exact kbody_sound (c := c27) r27_body (Eq.mpr (r27_lk call fuel base) (And.intro trivial (And.intro trivial (And.intro (And.intro trivial (And.intro (And.intro trivial trivial) trivial)) (And.intro trivial (And.intro (And.intro trivial (r27_L0_ok call fuel base)) (And.intro trivial trivial))))))) h
  · simp at h
end Go.AM
namespace Go.AM
open Go Go.Proofs
noncomputable def r28_L6 (call : CallF) (fuel base : Nat) (kp : Value → M → Res2) (kx6 : Value → Value → Value → Value → Value → Value → Value → M → Res2) (n : Nat) : Value → Value → Value → Value → Value → Value → Value → Value → Value → M → Res2 :=
  Nat.rec (motive := fun _ => Value → Value → Value → Value → Value → Value → Value → Value → Value → M → Res2) (fun _ _ _ _ _ _ _ _ _ _ => none)
    (fun _ ih x0 x4 x5 x6 x7 x9 x10 x11 x12 m =>
      (k2 (vcall E.P base m .len [36] [x11]) fun v62_26 m => (k1 (mbin E .lss 3 x12 v62_26) fun v63_27 => (kb v63_27 (k1 (mindexAddr E.P 36 x11 x12) fun v69_28 => (k1 (xload E.P m 68 v69_28) fun v70_29 => (kc (call base 49 [x9, v70_29] m) (fun v71_30 m => (k1 (mun .not v71_30) fun v72_31 => (kb v72_31 (k1 (mindexAddr E.P 36 x11 x12) fun v76_32 => (k1 (xload E.P m 68 v76_32) fun v77_33 => (k2 (xbuildSlice E.P m 36 1 [(0, v77_33)]) fun v78_34 m => (k2 (vcall E.P base m .append [36, 36] [x9, v78_34]) fun v79_35 m => (k1 (mbin E .add 3 x12 (.int .i64 1)) fun v65_36 => (ih x0 x4 x5 x6 x7 v79_35 x10 x11 v65_36 m)))))) (k1 (mbin E .add 3 x12 (.int .i64 1)) fun v65_37 => (ih x0 x4 x5 x6 x7 x9 x10 x11 v65_37 m))))) (fun v m => kp v m)))) (kx6 x0 x4 x5 x6 x7 x9 x10 m))))) n
noncomputable def r28_L4 (call : CallF) (fuel base : Nat) (kp : Value → M → Res2) (kx4 : Value → Value → Value → Value → Value → Value → M → Res2) (n : Nat) : Value → Value → Value → Value → Value → Value → Value → M → Res2 :=
  Nat.rec (motive := fun _ => Value → Value → Value → Value → Value → Value → Value → M → Res2) (fun _ _ _ _ _ _ _ _ => none)
    (fun _ ih x0 x4 x5 x6 x7 x9 x10 m =>
      (k2 (vcall E.P base m .len [36] [x9]) fun v50_21 m => (k1 (mbin E .lss 3 x10 v50_21) fun v51_22 => (kb v51_22 (k1 (mindexAddr E.P 36 x9 x10) fun v57_23 => (k1 (xload E.P m 68 v57_23) fun v58_24 => (kc (call base 48 [x0, v58_24] m) (fun v59_25 m => (r28_L6 call fuel base (fun v m => kp v m) (fun y0_38 y4_39 y5_40 y6_41 y7_42 y9_43 y10_44 m => (k1 (mbin E .add 3 y10_44 (.int .i64 1)) fun v53_45 => (ih y0_38 y4_39 y5_40 y6_41 y7_42 y9_43 v53_45 m))) fuel x0 x4 x5 x6 x7 x9 x10 v59_25 (.int .i64 0) m)) (fun v m => kp v m)))) (kx4 x0 x4 x5 x6 x7 x9 m))))) n
noncomputable def r28_L2 (call : CallF) (fuel base : Nat) (kp : Value → M → Res2) (kx2 : Value → Value → Value → Value → M → Res2) (n : Nat) : Value → Value → Value → Value → Value → M → Res2 :=
  Nat.rec (motive := fun _ => Value → Value → Value → Value → Value → M → Res2) (fun _ _ _ _ _ _ => none)
    (fun _ ih x0 x4 x5 x6 x7 m =>
      (k1 (mindexAddr E.P 22 x0 x6) fun v25_5 => (k1 (xload E.P m 9 v25_5) fun v26_6 => (k2 (vcall E.P base m .len [9] [v26_6]) fun v27_7 m => (k1 (mbin E .lss 3 x7 v27_7) fun v28_8 => (kb v28_8 (k1 (mbuild E.P 68 [(0, x7), (1, x6)]) fun v33_9 => (k2 (xalloc E.P m 68) fun v8_10 m => (ks (xstore E.P base m 68 v8_10 v33_9) fun m => (k1 (mindexAddr E.P 22 x0 x6) fun v36_11 => (k1 (xload E.P m 9 v36_11) fun v37_12 => (k1 (mindex E.P 9 v37_12 x7) fun v39_13 => (k1 (mbin E .neq 5 v39_13 (.int .u8 35)) fun v40_14 => (kb v40_14 (k1 (mbin E .add 3 x7 (.int .i64 1)) fun v30_15 => (ih x0 x4 x5 x6 v30_15 m)) (k1 (xload E.P m 68 v8_10) fun v43_16 => (kc (call base 49 [x5, v43_16] m) (fun v44_17 m => (kb v44_17 (k1 (mbin E .add 3 x7 (.int .i64 1)) fun v30_18 => (ih x0 x4 x5 x6 v30_18 m)) (k1 (xload E.P m 68 v8_10) fun v46_19 => (k2 (xbuildSlice E.P m 36 1 [(0, v46_19)]) fun v47_20 m => (r28_L4 call fuel base (fun v m => kp v m) (fun y0_46 y4_47 y5_48 y6_49 y7_50 y9_51 m => (k2 (vcall E.P base m .append [36, 36] [y5_48, y9_51]) fun v82_52 m => (kc (call base 62 [y0_46, y9_51] m) (fun v86_53 m => (k2 (xbuildSlice E.P m 43 1 [(0, v86_53)]) fun v87_54 m => (k2 (vcall E.P base m .append [43, 43] [y4_47, v87_54]) fun v88_55 m => (k1 (mbin E .add 3 y7_50 (.int .i64 1)) fun v30_56 => (ih y0_46 v88_55 v82_52 y6_49 v30_56 m))))) (fun v m => kp v m)))) fuel x0 x4 x5 x6 x7 v47_20 (.int .i64 0) m))))) (fun v m => kp v m))))))))))) (kx2 x0 x4 x5 x6 m))))))) n
noncomputable def r28_L0 (call : CallF) (fuel base : Nat) (kp : Value → M → Res2) (kx0 : Value → M → Res2) (n : Nat) : Value → Value → Value → Value → M → Res2 :=
  Nat.rec (motive := fun _ => Value → Value → Value → Value → M → Res2) (fun _ _ _ _ _ => none)
    (fun _ ih x0 x4 x5 x6 m =>
      (k2 (vcall E.P base m .len [22] [x0]) fun v18_3 m => (k1 (mbin E .lss 3 x6 v18_3) fun v19_4 => (kb v19_4 (r28_L2 call fuel base (fun v m => kp v m) (fun y0_57 y4_58 y5_59 y6_60 m => (k1 (mbin E .add 3 y6_60 (.int .i64 1)) fun v21_61 => (ih y0_57 y4_58 y5_59 v21_61 m))) fuel x0 x4 x5 x6 (.int .i64 0) m) (kx0 x4 m))))) n
noncomputable def r28 (call : CallF) (fuel base : Nat) (x0 : Value) (m : M) : Res2 :=
  (kc (call base 34 [x0] m) (fun v14_1 m => (k1 (mun .not v14_1) fun v15_2 => (kb v15_2 (some (.ret (.tuple #[(.slice none 0 0), (.int .i64 2)]), m)) (r28_L0 call fuel base (fun v m => some (.pan v, m)) (fun y4_62 m => (some (.ret (.tuple #[y4_62, (.int .i64 0)]), m))) fuel x0 (.slice none 0 0) (.slice none 0 0) (.int .i64 0) m)))) (fun v m => some (.pan v, m)))
def keep28 : Keep := { region := fun i => ([[0], [0, 15], [2, 3], [0, 4], [0, 4, 5], [0, 4, 5, 6], [0, 4, 5, 6, 19], [0, 4, 5, 6], [0, 4, 5, 6, 7], [0, 4, 5, 6, 7, 28], [0, 4, 5, 6, 7], [0, 4, 5, 6, 7, 8], [0, 4, 5, 6, 7, 8, 45], [0, 4, 5, 6, 7, 9], [0, 4, 5, 6, 7, 9, 10], [0, 4, 5, 6, 7, 9, 10, 51], [0, 4, 5, 6, 7, 9, 10], [0, 4, 5, 6, 7, 9, 10, 11], [0, 4, 5, 6, 7, 9, 10, 11, 12], [0, 4, 5, 6, 7, 9, 10, 11, 12, 63], [0, 4, 5, 6, 7, 9, 10, 11, 12], [0, 4, 5, 6, 7, 9, 10, 11, 12, 72], [0, 4, 5, 6, 7, 9, 10, 11, 12], [0, 4, 5, 6, 7, 9], [0, 4, 5, 6, 7], [2, 3]] : List (List Nat))[i]?, exit := fun i => ([[4], [0, 4, 5, 6], [0, 4, 5, 6], [0, 4, 5, 6, 7], [0, 4, 5, 6, 7, 9], [0, 4, 5, 6, 7, 9, 10], [0, 4, 5, 6, 7, 9, 10], [0, 4, 5, 6, 7, 9, 10, 11, 12]] : List (List Nat))[i]?, ret := some [2, 3] }
noncomputable def r28_L6_R (call : CallF) (fuel base n : Nat) (vs : List Value) (m : M) (K : KT) : Res2 := match vs with
  | [x0, x4, x5, x6, x7, x9, x10, x11, x12] => r28_L6 call fuel base (fun v m => K (.pan v) { n := 90, l := [] } m) (fun y0 y4 y5 y6 y7 y9 y10 m => K (.exit 6) { n := 90, l := [(0, y0), (4, y4), (5, y5), (6, y6), (7, y7), (9, y9), (10, y10)] } m) n x0 x4 x5 x6 x7 x9 x10 x11 x12 m
  | _ => none
noncomputable def r28_L4_R (call : CallF) (fuel base n : Nat) (vs : List Value) (m : M) (K : KT) : Res2 := match vs with
  | [x0, x4, x5, x6, x7, x9, x10] => r28_L4 call fuel base (fun v m => K (.pan v) { n := 90, l := [] } m) (fun y0 y4 y5 y6 y7 y9 m => K (.exit 4) { n := 90, l := [(0, y0), (4, y4), (5, y5), (6, y6), (7, y7), (9, y9)] } m) n x0 x4 x5 x6 x7 x9 x10 m
  | _ => none
noncomputable def r28_L2_R (call : CallF) (fuel base n : Nat) (vs : List Value) (m : M) (K : KT) : Res2 := match vs with
  | [x0, x4, x5, x6, x7] => r28_L2 call fuel base (fun v m => K (.pan v) { n := 90, l := [] } m) (fun y0 y4 y5 y6 m => K (.exit 2) { n := 90, l := [(0, y0), (4, y4), (5, y5), (6, y6)] } m) n x0 x4 x5 x6 x7 m
  | _ => none
noncomputable def r28_L0_R (call : CallF) (fuel base n : Nat) (vs : List Value) (m : M) (K : KT) : Res2 := match vs with
  | [x0, x4, x5, x6] => r28_L0 call fuel base (fun v m => K (.pan v) { n := 90, l := [] } m) (fun y4 m => K (.exit 0) { n := 90, l := [(4, y4)] } m) n x0 x4 x5 x6 m
  | _ => none
noncomputable def lp28 (call : CallF) (fuel base : Nat) : Lp := lpsel [(6, fun T m K => kslots 90 [0, 4, 5, 6, 7, 9, 10, 11, 12] T fun vs => r28_L6_R call fuel base fuel vs m K), (4, fun T m K => kslots 90 [0, 4, 5, 6, 7, 9, 10] T fun vs => r28_L4_R call fuel base fuel vs m K), (2, fun T m K => kslots 90 [0, 4, 5, 6, 7] T fun vs => r28_L2_R call fuel base fuel vs m K), (0, fun T m K => kslots 90 [0, 4, 5, 6] T fun vs => r28_L0_R call fuel base fuel vs m K)]
noncomputable def c28 : Code := Tryd.f28.body.getD .skip
theorem r28_L6_lk (call : CallF) (fuel base : Nat) : LoopsOk E call (lp28 call fuel base) fuel base 6 (loopB (blockB (seqR (seqR (blockB (seqL (seqR (loopB (blockB (seqR (seqL (seqR (seqR (seqR (blockB (seqL (seqR (loopB (blockB (seqR (blockB (seqL (seqR (loopB (blockB (seqR (seqL (seqR (seqR (seqR (seqR c28))))))))))))))))))))))))))))))) = (And (And True (And True True)) (And (And True (And True True)) True)) := by kernel_rfl
theorem r28_L6_ok (call : CallF) (fuel base : Nat) : LpOk E call (lp28 call fuel base) fuel base 6 (loopB (blockB (seqR (seqR (blockB (seqL (seqR (loopB (blockB (seqR (seqL (seqR (seqR (seqR (blockB (seqL (seqR (loopB (blockB (seqR (blockB (seqL (seqR (loopB (blockB (seqR (seqL (seqR (seqR (seqR (seqR c28))))))))))))))))))))))))))))))) := by
  refine loop_ok (kp := keep28) (hb := Eq.mpr (r28_L6_lk call fuel base) (And.intro (And.intro trivial (And.intro trivial trivial)) (And.intro (And.intro trivial (And.intro trivial trivial)) trivial))) 90 [0, 4, 5, 6, 7, 9, 10, 11, 12] (fun n vs m K => r28_L6_R call fuel base n vs m K) ?_ ?_ (fun _ _ _ => rfl)
  · intro vs m K
    unfold r28_L6_R
    split <;> rfl
  · intro n vs m K hl
    match vs, hl with
    | [x0, x4, x5, x6, x7, x9, x10, x11, x12], _ => show _ = _; kernel_rfl
theorem r28_L4_lk (call : CallF) (fuel base : Nat) : LoopsOk E call (lp28 call fuel base) fuel base 4 (loopB (blockB (seqR (seqL (seqR (seqR (seqR (blockB (seqL (seqR (loopB (blockB (seqR (blockB (seqL (seqR (loopB (blockB (seqR (seqL (seqR (seqR (seqR (seqR c28)))))))))))))))))))))))) = (And (And True (And True True)) (And (And True (And True (LpOk E call (lp28 call fuel base) fuel base 6 (loopB (blockB (seqR (seqR (blockB (seqL (seqR (loopB (blockB (seqR (seqL (seqR (seqR (seqR (blockB (seqL (seqR (loopB (blockB (seqR (blockB (seqL (seqR (loopB (blockB (seqR (seqL (seqR (seqR (seqR (seqR c28)))))))))))))))))))))))))))))))))) True)) := by kernel_rfl
theorem r28_L4_ok (call : CallF) (fuel base : Nat) : LpOk E call (lp28 call fuel base) fuel base 4 (loopB (blockB (seqR (seqL (seqR (seqR (seqR (blockB (seqL (seqR (loopB (blockB (seqR (blockB (seqL (seqR (loopB (blockB (seqR (seqL (seqR (seqR (seqR (seqR c28)))))))))))))))))))))))) := by
  refine loop_ok (kp := keep28) (hb := Eq.mpr (r28_L4_lk call fuel base) (And.intro (And.intro trivial (And.intro trivial trivial)) (And.intro (And.intro trivial (And.intro trivial (r28_L6_ok call fuel base))) trivial))) 90 [0, 4, 5, 6, 7, 9, 10] (fun n vs m K => r28_L4_R call fuel base n vs m K) ?_ ?_ (fun _ _ _ => rfl)
  · intro vs m K
    unfold r28_L4_R
    split <;> rfl
  · intro n vs m K hl
    match vs, hl with
    | [x0, x4, x5, x6, x7, x9, x10], _ => show _ = _; kernel_rfl
theorem r28_L2_lk (call : CallF) (fuel base : Nat) : LoopsOk E call (lp28 call fuel base) fuel base 2 (loopB (blockB (seqR (blockB (seqL (seqR (loopB (blockB (seqR (seqL (seqR (seqR (seqR (seqR c28)))))))))))))) = (And (And True (And True True)) (And (And True (And (And True (And True True)) (And True (And (And True (LpOk E call (lp28 call fuel base) fuel base 4 (loopB (blockB (seqR (seqL (seqR (seqR (seqR (blockB (seqL (seqR (loopB (blockB (seqR (blockB (seqL (seqR (loopB (blockB (seqR (seqL (seqR (seqR (seqR (seqR c28)))))))))))))))))))))))))) (And True True))))) True)) := by kernel_rfl
theorem r28_L2_ok (call : CallF) (fuel base : Nat) : LpOk E call (lp28 call fuel base) fuel base 2 (loopB (blockB (seqR (blockB (seqL (seqR (loopB (blockB (seqR (seqL (seqR (seqR (seqR (seqR c28)))))))))))))) := by
  refine loop_ok (kp := keep28) (hb := Eq.mpr (r28_L2_lk call fuel base) (And.intro (And.intro trivial (And.intro trivial trivial)) (And.intro (And.intro trivial (And.intro (And.intro trivial (And.intro trivial trivial)) (And.intro trivial (And.intro (And.intro trivial (r28_L4_ok call fuel base)) (And.intro trivial trivial))))) trivial))) 90 [0, 4, 5, 6, 7] (fun n vs m K => r28_L2_R call fuel base n vs m K) ?_ ?_ (fun _ _ _ => rfl)
  · intro vs m K
    unfold r28_L2_R
    split <;> rfl
  · intro n vs m K hl
    match vs, hl with
    | [x0, x4, x5, x6, x7], _ => show _ = _; kernel_rfl
theorem r28_L0_lk (call : CallF) (fuel base : Nat) : LoopsOk E call (lp28 call fuel base) fuel base 0 (loopB (blockB (seqR (seqL (seqR (seqR (seqR (seqR c28)))))))) = (And (And True (And True True)) (And (And True (LpOk E call (lp28 call fuel base) fuel base 2 (loopB (blockB (seqR (blockB (seqL (seqR (loopB (blockB (seqR (seqL (seqR (seqR (seqR (seqR c28)))))))))))))))) True)) := by kernel_rfl
theorem r28_L0_ok (call : CallF) (fuel base : Nat) : LpOk E call (lp28 call fuel base) fuel base 0 (loopB (blockB (seqR (seqL (seqR (seqR (seqR (seqR c28)))))))) := by
  refine loop_ok (kp := keep28) (hb := Eq.mpr (r28_L0_lk call fuel base) (And.intro (And.intro trivial (And.intro trivial trivial)) (And.intro (And.intro trivial (r28_L2_ok call fuel base)) trivial))) 90 [0, 4, 5, 6] (fun n vs m K => r28_L0_R call fuel base n vs m K) ?_ ?_ (fun _ _ _ => rfl)
  · intro vs m K
    unfold r28_L0_R
    split <;> rfl
  · intro n vs m K hl
    match vs, hl with
    | [x0, x4, x5, x6], _ => show _ = _; kernel_rfl
theorem r28_eq (call : CallF) (fuel base : Nat) (x0 : Value) (m : M) : kbody E call keep28 (lp28 call fuel base) base Tryd.f28 [x0] m = r28 call fuel base x0 m := by
  kernel_rfl
noncomputable def rf28 : RF := fun call fuel base args m => match args with
  | [x0] => r28 call fuel base x0 m
  | _ => none
theorem r28_lk (call : CallF) (fuel base : Nat) : LoopsOk E call (lp28 call fuel base) fuel base 0 c28 = (And True (And (And True (And (And True True) True)) (And True (And True (And (And True (LpOk E call (lp28 call fuel base) fuel base 0 (loopB (blockB (seqR (seqL (seqR (seqR (seqR (seqR c28)))))))))) (And True True)))))) := by kernel_rfl
theorem r28_fn : E.P.funcs[28]? = some Tryd.f28 := by kernel_rfl
theorem r28_body : Tryd.f28.body = some c28 := by kernel_rfl
theorem rf28_ok : RFok E 28 rf28 := by
  refine ⟨Tryd.f28, r28_fn, fun call fuel base args m r _ h => ?_⟩
  unfold rf28 at h
  split at h
  · rw [← r28_eq] at h
    exact kbody_sound (c := c28) r28_body (Eq.mpr (r28_lk call fuel base) (And.intro trivial (And.intro (And.intro trivial (And.intro (And.intro trivial trivial) trivial)) (And.intro trivial (And.intro trivial (And.intro (And.intro trivial (r28_L0_ok call fuel base)) (And.intro trivial trivial))))))) h
  · simp at h
end Go.AM
namespace Go.AM
open Go Go.Proofs
noncomputable def r29_L0 (call : CallF) (fuel base : Nat) (kr : Value → M → Res2) (kx0 : M → Res2) (n : Nat) : Value → Value → Value → M → Res2 :=
  Nat.rec (motive := fun _ => Value → Value → Value → M → Res2) (fun _ _ _ _ => none)
    (fun _ ih x0 x1 x5 m =>
      (k2 (vcall E.P base m .len [43] [x0]) fun v13_4 m => (k1 (mbin E .lss 3 x5 v13_4) fun v14_5 => (kb v14_5 (k1 (mindexAddr E.P 43 x0 x5) fun v19_6 => (k1 (xload E.P m 22 v19_6) fun v20_7 => (k1 (mindexAddr E.P 43 x1 x5) fun v23_8 => (k1 (xload E.P m 22 v23_8) fun v24_9 => (kc (kB m (call m.length 19 [v20_7, v24_9] m)) (fun v25_10 m => (k1 (mun .not v25_10) fun v26_11 => (kb v26_11 (kr (.bool false) m) (k1 (mbin E .add 3 x5 (.int .i64 1)) fun v16_12 => (ih x0 x1 v16_12 m))))) (fun _ _ => none)))))) (kx0 m))))) n
noncomputable def r29 (call : CallF) (fuel base : Nat) (x0 : Value) (x1 : Value) (m : M) : Res2 :=
  (k2 (vcall E.P base m .len [43] [x0]) fun v7_1 m => (k2 (vcall E.P base m .len [43] [x1]) fun v9_2 m => (k1 (mbin E .neq 3 v7_1 v9_2) fun v10_3 => (kb v10_3 (fVal (.bool false) fun v => some (.ret v, m)) (r29_L0 call fuel base (fun y4_13 m => (fVal y4_13 fun v => some (.ret v, m))) (fun m => (fVal (.bool true) fun v => some (.ret v, m))) fuel x0 x1 (.int .i64 0) m)))))
def keep29 : Keep := { region := fun i => ([[0, 1], [0, 1, 10], [4], [0, 1, 5], [0, 1, 5, 14], [0, 1, 5], [0, 1, 5, 26], [4], [4]] : List (List Nat))[i]?, exit := fun i => ([[], [0, 1, 5]] : List (List Nat))[i]?, ret := some [4] }
noncomputable def r29_L0_R (call : CallF) (fuel base n : Nat) (vs : List Value) (m : M) (K : KT) : Res2 := match vs with
  | [x0, x1, x5] => r29_L0 call fuel base (fun y4 m => K .ret { n := 27, l := [(4, y4)] } m) (fun m => K (.exit 0) { n := 27, l := [] } m) n x0 x1 x5 m
  | _ => none
noncomputable def lp29 (call : CallF) (fuel base : Nat) : Lp := lpsel [(0, fun T m K => kslots 27 [0, 1, 5] T fun vs => r29_L0_R call fuel base fuel vs m K)]
noncomputable def c29 : Code := Tryd.f29.body.getD .skip
theorem r29_L0_lk (call : CallF) (fuel base : Nat) : LoopsOk E call (lp29 call fuel base) fuel base 0 (loopB (blockB (seqR (seqL (seqR (seqR c29)))))) = (And (And True (And True True)) (And (And True (And (And True True) True)) True)) := by kernel_rfl
theorem r29_L0_ok (call : CallF) (fuel base : Nat) : LpOk E call (lp29 call fuel base) fuel base 0 (loopB (blockB (seqR (seqL (seqR (seqR c29)))))) := by
  refine loop_ok (kp := keep29) (hb := Eq.mpr (r29_L0_lk call fuel base) (And.intro (And.intro trivial (And.intro trivial trivial)) (And.intro (And.intro trivial (And.intro (And.intro trivial trivial) trivial)) trivial))) 27 [0, 1, 5] (fun n vs m K => r29_L0_R call fuel base n vs m K) ?_ ?_ (fun _ _ _ => rfl)
  · intro vs m K
    unfold r29_L0_R
    split <;> rfl
  · intro n vs m K hl
    match vs, hl with
    | [x0, x1, x5], _ => show _ = _; kernel_rfl
theorem r29_eq (call : CallF) (fuel base : Nat) (x0 : Value) (x1 : Value) (m : M) : kbody E call keep29 (lp29 call fuel base) base Tryd.f29 [x0, x1] m = r29 call fuel base x0 x1 m := by
  kernel_rfl
noncomputable def rf29 : RF := fun call fuel base args m => match args with
  | [x0, x1] => r29 call fuel base x0 x1 m
  | _ => none
theorem r29_lk (call : CallF) (fuel base : Nat) : LoopsOk E call (lp29 call fuel base) fuel base 0 c29 = (And True (And (And True (And (And True True) True)) (And (And True (LpOk E call (lp29 call fuel base) fuel base 0 (loopB (blockB (seqR (seqL (seqR (seqR c29)))))))) (And True True)))) := by kernel_rfl
theorem r29_fn : E.P.funcs[29]? = some Tryd.f29 := by kernel_rfl
theorem r29_body : Tryd.f29.body = some c29 := by kernel_rfl
theorem rf29_ok : RFok E 29 rf29 := by
  refine ⟨Tryd.f29, r29_fn, fun call fuel base args m r _ h => ?_⟩
  unfold rf29 at h
  split at h
  · rw [← r29_eq] at h
    exact kbody_sound (c := c29) r29_body (Eq.mpr (r29_lk call fuel base) (And.intro trivial (And.intro (And.intro trivial (And.intro (And.intro trivial trivial) trivial)) (And.intro (And.intro trivial (r29_L0_ok call fuel base)) (And.intro trivial trivial))))) h
  · simp at h
end Go.AM
namespace Go.AM
open Go Go.Proofs
noncomputable def r30 (call : CallF) (fuel base : Nat) (x0 : Value) (m : M) : Res2 :=
  (kc (call base 41 [x0] m) (fun v8_1 m => (k1 (mextract 0 v8_1) fun v9_2 => (k1 (mextract 1 v8_1) fun v10_3 => (k2 (xalloc E.P m 60) fun v4_4 m => (ks (xstore E.P base m 60 v4_4 v9_2) fun m => (k1 (mun .not v10_3) fun v12_5 => (kb v12_5 (some (.ret (.tuple #[(.int .i64 0), (.int .i64 2)]), m)) (k1 (xload E.P m 60 v4_4) fun v13_6 => (kc (call base 63 [v13_6] m) (fun v14_7 m => (some (.ret (.tuple #[v14_7, (.int .i64 0)]), m))) (fun v m => some (.pan v, m))))))))))) (fun v m => some (.pan v, m)))
def keep30 : Keep := { region := fun i => ([[0], [4, 5], [4, 12], [2, 3], [2, 3]] : List (List Nat))[i]?, exit := fun i => ([] : List (List Nat))[i]?, ret := some [2, 3] }
noncomputable def lp30 (call : CallF) (fuel base : Nat) : Lp := lpsel []
noncomputable def c30 : Code := Tryd.f30.body.getD .skip
theorem r30_eq (call : CallF) (fuel base : Nat) (x0 : Value) (m : M) : kbody E call keep30 (lp30 call fuel base) base Tryd.f30 [x0] m = r30 call fuel base x0 m := by
  kernel_rfl
noncomputable def rf30 : RF := fun call fuel base args m => match args with
  | [x0] => r30 call fuel base x0 m
  | _ => none
theorem r30_lk (call : CallF) (fuel base : Nat) : LoopsOk E call (lp30 call fuel base) fuel base 0 c30 = (And True (And True (And (And True (And (And True True) True)) (And True True)))) := by kernel_rfl
theorem r30_fn : E.P.funcs[30]? = some Tryd.f30 := by kernel_rfl
theorem r30_body : Tryd.f30.body = some c30 := by kernel_rfl
theorem rf30_ok : RFok E 30 rf30 := by
  refine ⟨Tryd.f30, r30_fn, fun call fuel base args m r _ h => ?_⟩
  unfold rf30 at h
  split at h
  · rw [← r30_eq] at h
    exact kbody_sound (c := c30) r30_body (Eq.mpr (r30_lk call fuel base) (And.intro trivial (And.intro trivial (And.intro (And.intro trivial (And.intro (And.intro trivial trivial) trivial)) (And.intro trivial trivial))))) h
  · simp at h
end Go.AM
namespace Go.AM
open Go Go.Proofs
noncomputable def r31_L6 (call : CallF) (fuel base : Nat) (kx6 : Value → Value → Value → Value → Value → Value → Value → M → Res2) (n : Nat) : Value → Value → Value → Value → Value → Value → Value → Value → M → Res2 :=
  Nat.rec (motive := fun _ => Value → Value → Value → Value → Value → Value → Value → Value → M → Res2) (fun _ _ _ _ _ _ _ _ _ => none)
    (fun _ ih x0 x4 x5 x6 x7 x9 x10 x11 m =>
      (k1 (mbin E .lss 3 x11 (.int .i64 9)) fun v53_21 => (kb v53_21 (k1 (mindexAddr E.P 36 x9 x10) fun v58_22 => (k1 (mfieldAddr E.P 68 v58_22 0) fun v59_23 => (k1 (xload E.P m 3 v59_23) fun v60_24 => (k1 (mbin E .rem 3 x11 (.int .i64 3)) fun v62_25 => (k1 (mbin E .add 3 v60_24 v62_25) fun v63_26 => (k1 (mbin E .sub 3 v63_26 (.int .i64 1)) fun v64_27 => (k1 (mindexAddr E.P 36 x9 x10) fun v67_28 => (k1 (mfieldAddr E.P 68 v67_28 1) fun v68_29 => (k1 (xload E.P m 3 v68_29) fun v69_30 => (k1 (mbin E .quo 3 x11 (.int .i64 3)) fun v71_31 => (k1 (mbin E .add 3 v69_30 v71_31) fun v72_32 => (k1 (mbin E .sub 3 v72_32 (.int .i64 1)) fun v73_33 => (k1 (mbuild E.P 68 [(0, v64_27), (1, v73_33)]) fun v74_34 => (k2 (xalloc E.P m 68) fun v12_35 m => (ks (xstore E.P base m 68 v12_35 v74_34) fun m => (k1 (mfieldAddr E.P 68 v12_35 0) fun v75_36 => (k1 (xload E.P m 3 v75_36) fun v76_37 => (k1 (mbin E .geq 3 v76_37 (.int .i64 (-1))) fun v77_38 => (kb v77_38 (k1 (mfieldAddr E.P 68 v12_35 0) fun v79_39 => (k1 (xload E.P m 3 v79_39) fun v80_40 => (k1 (mindexAddr E.P 22 x0 (.int .i64 0)) fun v82_41 => (k1 (xload E.P m 9 v82_41) fun v83_42 => (k2 (vcall E.P base m .len [9] [v83_42]) fun v84_43 m => (k1 (mbin E .leq 3 v80_40 v84_43) fun v85_44 => (kb v85_44 (k1 (mfieldAddr E.P 68 v12_35 1) fun v88_45 => (k1 (xload E.P m 3 v88_45) fun v89_46 => (k1 (mbin E .geq 3 v89_46 (.int .i64 (-1))) fun v90_47 => (kb v90_47 (k1 (mfieldAddr E.P 68 v12_35 1) fun v93_48 => (k1 (xload E.P m 3 v93_48) fun v94_49 => (k2 (vcall E.P base m .len [22] [x0]) fun v96_50 m => (k1 (mbin E .leq 3 v94_49 v96_50) fun v97_51 => (kb v97_51 (k1 (mfieldAddr E.P 68 v12_35 0) fun v101_52 => (k1 (xload E.P m 3 v101_52) fun v102_53 => (k1 (mfieldAddr E.P 68 v12_35 1) fun v103_54 => (k1 (xload E.P m 3 v103_54) fun v104_55 => (kc (kB m (call m.length 47 [x0, v102_53, v104_55] m)) (fun v105_56 m => (k1 (mun .not v105_56) fun v106_57 => (kb v106_57 (k1 (xload E.P m 68 v12_35) fun v110_58 => (kc (kB m (call m.length 49 [x9, v110_58] m)) (fun v111_59 m => (k1 (mun .not v111_59) fun v112_60 => (kb v112_60 (k1 (xload E.P m 68 v12_35) fun v115_61 => (k2 (xbuildSlice E.P m 36 1 [(0, v115_61)]) fun v116_62 m => (k2 (vcall E.P base m .append [36, 36] [x9, v116_62]) fun v117_63 m => (k1 (mbin E .add 3 x11 (.int .i64 1)) fun v55_64 => (ih x0 x4 x5 x6 x7 v117_63 x10 v55_64 m))))) (k1 (mbin E .add 3 x11 (.int .i64 1)) fun v55_65 => (ih x0 x4 x5 x6 x7 x9 x10 v55_65 m))))) (fun _ _ => none))) (k1 (mbin E .add 3 x11 (.int .i64 1)) fun v55_66 => (ih x0 x4 x5 x6 x7 x9 x10 v55_66 m))))) (fun _ _ => none)))))) (k1 (mbin E .add 3 x11 (.int .i64 1)) fun v55_67 => (ih x0 x4 x5 x6 x7 x9 x10 v55_67 m))))))) (k1 (mbin E .add 3 x11 (.int .i64 1)) fun v55_68 => (ih x0 x4 x5 x6 x7 x9 x10 v55_68 m)))))) (k1 (mbin E .add 3 x11 (.int .i64 1)) fun v55_69 => (ih x0 x4 x5 x6 x7 x9 x10 v55_69 m))))))))) (k1 (mbin E .add 3 x11 (.int .i64 1)) fun v55_70 => (ih x0 x4 x5 x6 x7 x9 x10 v55_70 m))))))))))))))))))))) (kx6 x0 x4 x5 x6 x7 x9 x10 m)))) n
noncomputable def r31_L4 (call : CallF) (fuel base : Nat) (kx4 : Value → Value → Value → Value → Value → Value → M → Res2) (n : Nat) : Value → Value → Value → Value → Value → Value → Value → M → Res2 :=
  Nat.rec (motive := fun _ => Value → Value → Value → Value → Value → Value → Value → M → Res2) (fun _ _ _ _ _ _ _ _ => none)
    (fun _ ih x0 x4 x5 x6 x7 x9 x10 m =>
      (k2 (vcall E.P base m .len [36] [x9]) fun v48_19 m => (k1 (mbin E .lss 3 x10 v48_19) fun v49_20 => (kb v49_20 (r31_L6 call fuel base (fun y0_71 y4_72 y5_73 y6_74 y7_75 y9_76 y10_77 m => (k1 (mbin E .add 3 y10_77 (.int .i64 1)) fun v51_78 => (ih y0_71 y4_72 y5_73 y6_74 y7_75 y9_76 v51_78 m))) fuel x0 x4 x5 x6 x7 x9 x10 (.int .i64 0) m) (kx4 x0 x4 x5 x6 x7 x9 m))))) n
noncomputable def r31_L2 (call : CallF) (fuel base : Nat) (kp : Value → M → Res2) (kx2 : Value → Value → Value → Value → M → Res2) (n : Nat) : Value → Value → Value → Value → Value → M → Res2 :=
  Nat.rec (motive := fun _ => Value → Value → Value → Value → Value → M → Res2) (fun _ _ _ _ _ _ => none)
    (fun _ ih x0 x4 x5 x6 x7 m =>
      (k1 (mindexAddr E.P 22 x0 (.int .i64 0)) fun v24_5 => (k1 (xload E.P m 9 v24_5) fun v25_6 => (k2 (vcall E.P base m .len [9] [v25_6]) fun v26_7 m => (k1 (mbin E .leq 3 x7 v26_7) fun v27_8 => (kb v27_8 (k1 (mbuild E.P 68 [(0, x7), (1, x6)]) fun v32_9 => (k2 (xalloc E.P m 68) fun v8_10 m => (ks (xstore E.P base m 68 v8_10 v32_9) fun m => (kc (call base 47 [x0, x7, x6] m) (fun v36_11 m => (kb v36_11 (k1 (mbin E .add 3 x7 (.int .i64 1)) fun v29_12 => (ih x0 x4 x5 x6 v29_12 m)) (k1 (xload E.P m 68 v8_10) fun v39_13 => (kc (call base 49 [x4, v39_13] m) (fun v40_14 m => (kb v40_14 (k1 (mbin E .add 3 x7 (.int .i64 1)) fun v29_15 => (ih x0 x4 x5 x6 v29_15 m)) (k1 (mbin E .add 3 x5 (.int .i64 1)) fun v43_16 => (k1 (xload E.P m 68 v8_10) fun v44_17 => (k2 (xbuildSlice E.P m 36 1 [(0, v44_17)]) fun v45_18 m => (r31_L4 call fuel base (fun y0_79 y4_80 y5_81 y6_82 y7_83 y9_84 m => (k2 (vcall E.P base m .append [36, 36] [y4_80, y9_84]) fun v120_85 m => (k1 (mbin E .add 3 y7_83 (.int .i64 1)) fun v29_86 => (ih y0_79 v120_85 y5_81 y6_82 v29_86 m)))) fuel x0 x4 v43_16 x6 x7 v45_18 (.int .i64 0) m)))))) (fun v m => kp v m))))) (fun v m => kp v m))))) (kx2 x0 x4 x5 x6 m))))))) n
noncomputable def r31_L0 (call : CallF) (fuel base : Nat) (kp : Value → M → Res2) (kx0 : Value → M → Res2) (n : Nat) : Value → Value → Value → Value → M → Res2 :=
  Nat.rec (motive := fun _ => Value → Value → Value → Value → M → Res2) (fun _ _ _ _ _ => none)
    (fun _ ih x0 x4 x5 x6 m =>
      (k2 (vcall E.P base m .len [22] [x0]) fun v18_3 m => (k1 (mbin E .leq 3 x6 v18_3) fun v19_4 => (kb v19_4 (r31_L2 call fuel base (fun v m => kp v m) (fun y0_87 y4_88 y5_89 y6_90 m => (k1 (mbin E .add 3 y6_90 (.int .i64 1)) fun v21_91 => (ih y0_87 y4_88 y5_89 v21_91 m))) fuel x0 x4 x5 x6 (.int .i64 (-1)) m) (kx0 x5 m))))) n
noncomputable def r31 (call : CallF) (fuel base : Nat) (x0 : Value) (m : M) : Res2 :=
  (kc (call base 34 [x0] m) (fun v14_1 m => (k1 (mun .not v14_1) fun v15_2 => (kb v15_2 (some (.ret (.tuple #[(.int .i64 0), (.int .i64 2)]), m)) (r31_L0 call fuel base (fun v m => some (.pan v, m)) (fun y5_92 m => (k1 (mbin E .sub 3 y5_92 (.int .i64 1)) fun v122_93 => (some (.ret (.tuple #[v122_93, (.int .i64 0)]), m)))) fuel x0 (.slice none 0 0) (.int .i64 0) (.int .i64 (-1)) m)))) (fun v m => some (.pan v, m)))
def keep31 : Keep := { region := fun i => ([[0], [0, 15], [2, 3], [0, 4], [0, 4, 5], [0, 4, 5, 6], [0, 4, 5, 6, 19], [0, 4, 5, 6], [0, 4, 5, 6, 7], [0, 4, 5, 6, 7, 27], [0, 4, 5, 6, 7], [0, 4, 5, 6, 7, 8], [0, 4, 5, 6, 7, 8, 41], [0, 4, 5, 6, 7, 8], [0, 4, 5, 6, 7, 9], [0, 4, 5, 6, 7, 9, 10], [0, 4, 5, 6, 7, 9, 10, 49], [0, 4, 5, 6, 7, 9, 10], [0, 4, 5, 6, 7, 9, 10, 11], [0, 4, 5, 6, 7, 9, 10, 11, 53], [0, 4, 5, 6, 7, 9, 10, 11], [0, 4, 5, 6, 7, 9, 10, 11, 12], [0, 4, 5, 6, 7, 9, 10, 11, 12, 113], [0, 4, 5, 6, 7, 9, 10, 11], [0, 4, 5, 6, 7], [2, 3]] : List (List Nat))[i]?, exit := fun i => ([[5], [0, 4, 5, 6], [0, 4, 5, 6], [0, 4, 5, 6, 7], [0, 4, 5, 6, 7, 9], [0, 4, 5, 6, 7, 9, 10], [0, 4, 5, 6, 7, 9, 10], [0, 4, 5, 6, 7, 9, 10, 11]] : List (List Nat))[i]?, ret := some [2, 3] }
noncomputable def r31_L6_R (call : CallF) (fuel base n : Nat) (vs : List Value) (m : M) (K : KT) : Res2 := match vs with
  | [x0, x4, x5, x6, x7, x9, x10, x11] => r31_L6 call fuel base (fun y0 y4 y5 y6 y7 y9 y10 m => K (.exit 6) { n := 123, l := [(0, y0), (4, y4), (5, y5), (6, y6), (7, y7), (9, y9), (10, y10)] } m) n x0 x4 x5 x6 x7 x9 x10 x11 m
  | _ => none
noncomputable def r31_L4_R (call : CallF) (fuel base n : Nat) (vs : List Value) (m : M) (K : KT) : Res2 := match vs with
  | [x0, x4, x5, x6, x7, x9, x10] => r31_L4 call fuel base (fun y0 y4 y5 y6 y7 y9 m => K (.exit 4) { n := 123, l := [(0, y0), (4, y4), (5, y5), (6, y6), (7, y7), (9, y9)] } m) n x0 x4 x5 x6 x7 x9 x10 m
  | _ => none
noncomputable def r31_L2_R (call : CallF) (fuel base n : Nat) (vs : List Value) (m : M) (K : KT) : Res2 := match vs with
  | [x0, x4, x5, x6, x7] => r31_L2 call fuel base (fun v m => K (.pan v) { n := 123, l := [] } m) (fun y0 y4 y5 y6 m => K (.exit 2) { n := 123, l := [(0, y0), (4, y4), (5, y5), (6, y6)] } m) n x0 x4 x5 x6 x7 m
  | _ => none
noncomputable def r31_L0_R (call : CallF) (fuel base n : Nat) (vs : List Value) (m : M) (K : KT) : Res2 := match vs with
  | [x0, x4, x5, x6] => r31_L0 call fuel base (fun v m => K (.pan v) { n := 123, l := [] } m) (fun y5 m => K (.exit 0) { n := 123, l := [(5, y5)] } m) n x0 x4 x5 x6 m
  | _ => none
noncomputable def lp31 (call : CallF) (fuel base : Nat) : Lp := lpsel [(6, fun T m K => kslots 123 [0, 4, 5, 6, 7, 9, 10, 11] T fun vs => r31_L6_R call fuel base fuel vs m K), (4, fun T m K => kslots 123 [0, 4, 5, 6, 7, 9, 10] T fun vs => r31_L4_R call fuel base fuel vs m K), (2, fun T m K => kslots 123 [0, 4, 5, 6, 7] T fun vs => r31_L2_R call fuel base fuel vs m K), (0, fun T m K => kslots 123 [0, 4, 5, 6] T fun vs => r31_L0_R call fuel base fuel vs m K)]
noncomputable def c31 : Code := Tryd.f31.body.getD .skip
theorem r31_L6_lk (call : CallF) (fuel base : Nat) : LoopsOk E call (lp31 call fuel base) fuel base 6 (loopB (blockB (seqR (blockB (seqL (seqR (loopB (blockB (seqR (seqL (seqR (seqR (seqR (seqR (blockB (seqL (seqR (loopB (blockB (seqR (blockB (seqL (seqR (loopB (blockB (seqR (seqL (seqR (seqR (seqR (seqR c31))))))))))))))))))))))))))))))) = (And (And True (And True True)) (And (And True (And True (And True True))) True)) := by kernel_rfl
theorem r31_L6_ok (call : CallF) (fuel base : Nat) : LpOk E call (lp31 call fuel base) fuel base 6 (loopB (blockB (seqR (blockB (seqL (seqR (loopB (blockB (seqR (seqL (seqR (seqR (seqR (seqR (blockB (seqL (seqR (loopB (blockB (seqR (blockB (seqL (seqR (loopB (blockB (seqR (seqL (seqR (seqR (seqR (seqR c31))))))))))))))))))))))))))))))) := by
  refine loop_ok (kp := keep31) (hb := Eq.mpr (r31_L6_lk call fuel base) (And.intro (And.intro trivial (And.intro trivial trivial)) (And.intro (And.intro trivial (And.intro trivial (And.intro trivial trivial))) trivial))) 123 [0, 4, 5, 6, 7, 9, 10, 11] (fun n vs m K => r31_L6_R call fuel base n vs m K) ?_ ?_ (fun _ _ _ => rfl)
  · intro vs m K
    unfold r31_L6_R
    split <;> rfl
  · intro n vs m K hl
    match vs, hl with
    | [x0, x4, x5, x6, x7, x9, x10, x11], _ => show _ = _; kernel_rfl
theorem r31_L4_lk (call : CallF) (fuel base : Nat) : LoopsOk E call (lp31 call fuel base) fuel base 4 (loopB (blockB (seqR (seqL (seqR (seqR (seqR (seqR (blockB (seqL (seqR (loopB (blockB (seqR (blockB (seqL (seqR (loopB (blockB (seqR (seqL (seqR (seqR (seqR (seqR c31))))))))))))))))))))))))) = (And (And True (And True True)) (And (And True (LpOk E call (lp31 call fuel base) fuel base 6 (loopB (blockB (seqR (blockB (seqL (seqR (loopB (blockB (seqR (seqL (seqR (seqR (seqR (seqR (blockB (seqL (seqR (loopB (blockB (seqR (blockB (seqL (seqR (loopB (blockB (seqR (seqL (seqR (seqR (seqR (seqR c31))))))))))))))))))))))))))))))))) True)) := by kernel_rfl
theorem r31_L4_ok (call : CallF) (fuel base : Nat) : LpOk E call (lp31 call fuel base) fuel base 4 (loopB (blockB (seqR (seqL (seqR (seqR (seqR (seqR (blockB (seqL (seqR (loopB (blockB (seqR (blockB (seqL (seqR (loopB (blockB (seqR (seqL (seqR (seqR (seqR (seqR c31))))))))))))))))))))))))) := by
  refine loop_ok (kp := keep31) (hb := Eq.mpr (r31_L4_lk call fuel base) (And.intro (And.intro trivial (And.intro trivial trivial)) (And.intro (And.intro trivial (r31_L6_ok call fuel base)) trivial))) 123 [0, 4, 5, 6, 7, 9, 10] (fun n vs m K => r31_L4_R call fuel base n vs m K) ?_ ?_ (fun _ _ _ => rfl)
  · intro vs m K
    unfold r31_L4_R
    split <;> rfl
  · intro n vs m K hl
    match vs, hl with
    | [x0, x4, x5, x6, x7, x9, x10], _ => show _ = _; kernel_rfl
theorem r31_L2_lk (call : CallF) (fuel base : Nat) : LoopsOk E call (lp31 call fuel base) fuel base 2 (loopB (blockB (seqR (blockB (seqL (seqR (loopB (blockB (seqR (seqL (seqR (seqR (seqR (seqR c31)))))))))))))) = (And (And True (And True True)) (And (And True (And (And True (And True True)) (And True (And True (And (And True (LpOk E call (lp31 call fuel base) fuel base 4 (loopB (blockB (seqR (seqL (seqR (seqR (seqR (seqR (blockB (seqL (seqR (loopB (blockB (seqR (blockB (seqL (seqR (loopB (blockB (seqR (seqL (seqR (seqR (seqR (seqR c31))))))))))))))))))))))))))) True))))) True)) := by kernel_rfl
theorem r31_L2_ok (call : CallF) (fuel base : Nat) : LpOk E call (lp31 call fuel base) fuel base 2 (loopB (blockB (seqR (blockB (seqL (seqR (loopB (blockB (seqR (seqL (seqR (seqR (seqR (seqR c31)))))))))))))) := by
  refine loop_ok (kp := keep31) (hb := Eq.mpr (r31_L2_lk call fuel base) (And.intro (And.intro trivial (And.intro trivial trivial)) (And.intro (And.intro trivial (And.intro (And.intro trivial (And.intro trivial trivial)) (And.intro trivial (And.intro trivial (And.intro (And.intro trivial (r31_L4_ok call fuel base)) trivial))))) trivial))) 123 [0, 4, 5, 6, 7] (fun n vs m K => r31_L2_R call fuel base n vs m K) ?_ ?_ (fun _ _ _ => rfl)
  · intro vs m K
    unfold r31_L2_R
    split <;> rfl
  · intro n vs m K hl
    match vs, hl with
    | [x0, x4, x5, x6, x7], _ => show _ = _; kernel_rfl
theorem r31_L0_lk (call : CallF) (fuel base : Nat) : LoopsOk E call (lp31 call fuel base) fuel base 0 (loopB (blockB (seqR (seqL (seqR (seqR (seqR (seqR c31)))))))) = (And (And True (And True True)) (And (And True (LpOk E call (lp31 call fuel base) fuel base 2 (loopB (blockB (seqR (blockB (seqL (seqR (loopB (blockB (seqR (seqL (seqR (seqR (seqR (seqR c31)))))))))))))))) True)) := by kernel_rfl
theorem r31_L0_ok (call : CallF) (fuel base : Nat) : LpOk E call (lp31 call fuel base) fuel base 0 (loopB (blockB (seqR (seqL (seqR (seqR (seqR (seqR c31)))))))) := by
  refine loop_ok (kp := keep31) (hb := Eq.mpr (r31_L0_lk call fuel base) (And.intro (And.intro trivial (And.intro trivial trivial)) (And.intro (And.intro trivial (r31_L2_ok call fuel base)) trivial))) 123 [0, 4, 5, 6] (fun n vs m K => r31_L0_R call fuel base n vs m K) ?_ ?_ (fun _ _ _ => rfl)
  · intro vs m K
    unfold r31_L0_R
    split <;> rfl
  · intro n vs m K hl
    match vs, hl with
    | [x0, x4, x5, x6], _ => show _ = _; kernel_rfl
theorem r31_eq (call : CallF) (fuel base : Nat) (x0 : Value) (m : M) : kbody E call keep31 (lp31 call fuel base) base Tryd.f31 [x0] m = r31 call fuel base x0 m := by
  kernel_rfl
noncomputable def rf31 : RF := fun call fuel base args m => match args with
  | [x0] => r31 call fuel base x0 m
  | _ => none
theorem r31_lk (call : CallF) (fuel base : Nat) : LoopsOk E call (lp31 call fuel base) fuel base 0 c31 = (And True (And (And True (And (And True True) True)) (And True (And True (And (And True (LpOk E call (lp31 call fuel base) fuel base 0 (loopB (blockB (seqR (seqL (seqR (seqR (seqR (seqR c31)))))))))) (And True True)))))) := by kernel_rfl
theorem r31_fn : E.P.funcs[31]? = some Tryd.f31 := by kernel_rfl
theorem r31_body : Tryd.f31.body = some c31 := by kernel_rfl
theorem rf31_ok : RFok E 31 rf31 := by
  refine ⟨Tryd.f31, r31_fn, fun call fuel base args m r _ h => ?_⟩
  unfold rf31 at h
  split at h
  · rw [← r31_eq] at h
    exact kbody_sound (c := c31) r31_body (Eq.mpr (r31_lk call fuel base) (And.intro trivial (And.intro (And.intro trivial (And.intro (And.intro trivial trivial) trivial)) (And.intro trivial (And.intro trivial (And.intro (And.intro trivial (r31_L0_ok call fuel base)) (And.intro trivial trivial))))))) h
  · simp at h
end Go.AM
namespace Go.AM
open Go Go.Proofs
noncomputable def r32 (call : CallF) (fuel base : Nat) (x0 : Value) (m : M) : Res2 :=
  (kc (call base 41 [x0] m) (fun v8_1 m => (k1 (mextract 0 v8_1) fun v9_2 => (k1 (mextract 1 v8_1) fun v10_3 => (k2 (xalloc E.P m 60) fun v4_4 m => (ks (xstore E.P base m 60 v4_4 v9_2) fun m => (k1 (mun .not v10_3) fun v12_5 => (kb v12_5 (some (.ret (.tuple #[(.slice none 0 0), (.int .i64 2)]), m)) (k1 (mfieldAddr E.P 60 v4_4 2) fun v13_6 => (k1 (xload E.P m 58 v13_6) fun v14_7 => (kc (call base 42 [v14_7] m) (fun v15_8 m => (k1 (mun .not v15_8) fun v16_9 => (kb v16_9 (some (.ret (.tuple #[(.slice none 0 0), (.int .i64 10)]), m)) (k1 (xload E.P m 60 v4_4) fun v17_10 => (k1 (mfieldAddr E.P 60 v4_4 2) fun v18_11 => (k1 (xload E.P m 58 v18_11) fun v19_12 => (kc (kB m (call m.length 64 [v19_12, (.func (.func 65) #[] #[])] m)) (fun v20_13 m => (kc (kB m (call m.length 61 [v17_10, v20_13] m)) (fun v21_14 m => (k1 (xload E.P m 60 v4_4) fun v22_15 => (k1 (mfieldAddr E.P 60 v4_4 2) fun v23_16 => (k1 (xload E.P m 58 v23_16) fun v24_17 => (kc (kB m (call m.length 64 [v24_17, (.func (.func 66) #[] #[])] m)) (fun v25_18 m => (kc (kB m (call m.length 61 [v22_15, v25_18] m)) (fun v26_19 m => (k2 (xbuildSlice E.P m 43 2 [(0, v21_14), (1, v26_19)]) fun v27_20 m => (some (.ret (.tuple #[v27_20, (.int .i64 0)]), m)))) (fun _ _ => none))) (fun _ _ => none)))))) (fun _ _ => none))) (fun _ _ => none)))))))) (fun v m => some (.pan v, m)))))))))))) (fun v m => some (.pan v, m)))
def keep32 : Keep := { region := fun i => ([[0], [4, 5], [4, 12], [2, 3], [4, 16], [2, 3], [2, 3]] : List (List Nat))[i]?, exit := fun i => ([] : List (List Nat))[i]?, ret := some [2, 3] }
noncomputable def lp32 (call : CallF) (fuel base : Nat) : Lp := lpsel []
noncomputable def c32 : Code := Tryd.f32.body.getD .skip
theorem r32_eq (call : CallF) (fuel base : Nat) (x0 : Value) (m : M) : kbody E call keep32 (lp32 call fuel base) base Tryd.f32 [x0] m = r32 call fuel base x0 m := by
  kernel_rfl
noncomputable def rf32 : RF := fun call fuel base args m => match args with
  | [x0] => r32 call fuel base x0 m
  | _ => none
theorem r32_lk (call : CallF) (fuel base : Nat) : LoopsOk E call (lp32 call fuel base) fuel base 0 c32 = (And True (And True (And (And True (And (And True True) True)) (And (And True (And (And True True) True)) (And True True))))) := by kernel_rfl
theorem r32_fn : E.P.funcs[32]? = some Tryd.f32 := by kernel_rfl
theorem r32_body : Tryd.f32.body = some c32 := by kernel_rfl
theorem rf32_ok : RFok E 32 rf32 := by
  refine ⟨Tryd.f32, r32_fn, fun call fuel base args m r _ h => ?_⟩
  unfold rf32 at h
  split at h
  · rw [← r32_eq] at h
    exact kbody_sound (c := c32) r32_body (Eq.mpr (r32_lk call fuel base) (And.intro trivial (And.intro trivial (And.intro (And.intro trivial (And.intro (And.intro trivial trivial) trivial)) (And.intro (And.intro trivial (And.intro (And.intro trivial trivial) trivial)) (And.intro trivial trivial)))))) h
  · simp at h
end Go.AM
namespace Go.AM
open Go Go.Proofs
noncomputable def r33_L2 (call : CallF) (fuel base : Nat) (kp : Value → M → Res2) (kx2 : Value → Value → Value → Value → Value → M → Res2) (n : Nat) : Value → Value → Value → Value → Value → Value → M → Res2 :=
  Nat.rec (motive := fun _ => Value → Value → Value → Value → Value → Value → M → Res2) (fun _ _ _ _ _ _ _ => none)
    (fun _ ih x0 x4 x5 x6 x7 x8 m =>
      (k1 (mindexAddr E.P 22 x0 x7) fun v27_8 => (k1 (xload E.P m 9 v27_8) fun v28_9 => (k2 (vcall E.P base m .len [9] [v28_9]) fun v29_10 m => (k1 (mbin E .lss 3 x8 v29_10) fun v30_11 => (kb v30_11 (k1 (mbuild E.P 31 [(0, x8), (1, x7)]) fun v35_12 => (k2 (xalloc E.P m 31) fun v9_13 m => (ks (xstore E.P base m 31 v9_13 v35_12) fun m => (k1 (xload E.P m 31 v9_13) fun v37_14 => (kc (call base 39 [x4, v37_14] m) (fun v38_15 m => (kb v38_15 (k1 (xload E.P m 31 v9_13) fun v41_16 => (kc (call base 40 [x4, v41_16] m) (fun v42_17 m => (kc (call base 38 [v42_17] m) (fun v43_18 m => (k1 (mbin E .gtr 3 v43_18 (.int .i64 0)) fun v44_19 => (kb v44_19 (k1 (mbuild E.P 68 [(0, x8), (1, x7)]) fun v49_20 => (k2 (xbuildSlice E.P m 36 1 [(0, v49_20)]) fun v50_21 m => (k2 (vcall E.P base m .append [36, 36] [x5, v50_21]) fun v51_22 m => (k1 (mfieldAddr E.P 31 v9_13 2) fun v52_23 => (ks (xstore E.P base m 4 v52_23 (.bool true)) fun m => (k1 (xload E.P m 31 v9_13) fun v54_24 => (kc (call base 39 [x4, v54_24] m) (fun v55_25 m => (kb v55_25 (k1 (xload E.P m 31 v9_13) fun v58_26 => (kc (call base 40 [x4, v58_26] m) (fun v59_27 m => (kc (call base 38 [v59_27] m) (fun v60_28 m => (k1 (mbin E .gtr 3 v60_28 (.int .i64 0)) fun v61_29 => (kb v61_29 (k1 (mbuild E.P 68 [(0, x8), (1, x7)]) fun v66_30 => (k2 (xbuildSlice E.P m 36 1 [(0, v66_30)]) fun v67_31 m => (k2 (vcall E.P base m .append [36, 36] [x6, v67_31]) fun v68_32 m => (k1 (mbin E .add 3 x8 (.int .i64 1)) fun v32_33 => (ih x0 x4 v51_22 v68_32 x7 v32_33 m))))) (k1 (mbin E .add 3 x8 (.int .i64 1)) fun v32_34 => (ih x0 x4 v51_22 x6 x7 v32_34 m))))) (fun v m => kp v m))) (fun v m => kp v m))) (k1 (mbin E .add 3 x8 (.int .i64 1)) fun v32_35 => (ih x0 x4 v51_22 x6 x7 v32_35 m)))) (fun v m => kp v m)))))))) (k1 (mfieldAddr E.P 31 v9_13 2) fun v52_36 => (ks (xstore E.P base m 4 v52_36 (.bool true)) fun m => (k1 (xload E.P m 31 v9_13) fun v54_37 => (kc (call base 39 [x4, v54_37] m) (fun v55_38 m => (kb v55_38 (k1 (xload E.P m 31 v9_13) fun v58_39 => (kc (call base 40 [x4, v58_39] m) (fun v59_40 m => (kc (call base 38 [v59_40] m) (fun v60_41 m => (k1 (mbin E .gtr 3 v60_41 (.int .i64 0)) fun v61_42 => (kb v61_42 (k1 (mbuild E.P 68 [(0, x8), (1, x7)]) fun v66_43 => (k2 (xbuildSlice E.P m 36 1 [(0, v66_43)]) fun v67_44 m => (k2 (vcall E.P base m .append [36, 36] [x6, v67_44]) fun v68_45 m => (k1 (mbin E .add 3 x8 (.int .i64 1)) fun v32_46 => (ih x0 x4 x5 v68_45 x7 v32_46 m))))) (k1 (mbin E .add 3 x8 (.int .i64 1)) fun v32_47 => (ih x0 x4 x5 x6 x7 v32_47 m))))) (fun v m => kp v m))) (fun v m => kp v m))) (k1 (mbin E .add 3 x8 (.int .i64 1)) fun v32_48 => (ih x0 x4 x5 x6 x7 v32_48 m)))) (fun v m => kp v m)))))))) (fun v m => kp v m))) (fun v m => kp v m))) (k1 (mfieldAddr E.P 31 v9_13 2) fun v52_49 => (ks (xstore E.P base m 4 v52_49 (.bool true)) fun m => (k1 (xload E.P m 31 v9_13) fun v54_50 => (kc (call base 39 [x4, v54_50] m) (fun v55_51 m => (kb v55_51 (k1 (xload E.P m 31 v9_13) fun v58_52 => (kc (call base 40 [x4, v58_52] m) (fun v59_53 m => (kc (call base 38 [v59_53] m) (fun v60_54 m => (k1 (mbin E .gtr 3 v60_54 (.int .i64 0)) fun v61_55 => (kb v61_55 (k1 (mbuild E.P 68 [(0, x8), (1, x7)]) fun v66_56 => (k2 (xbuildSlice E.P m 36 1 [(0, v66_56)]) fun v67_57 m => (k2 (vcall E.P base m .append [36, 36] [x6, v67_57]) fun v68_58 m => (k1 (mbin E .add 3 x8 (.int .i64 1)) fun v32_59 => (ih x0 x4 x5 v68_58 x7 v32_59 m))))) (k1 (mbin E .add 3 x8 (.int .i64 1)) fun v32_60 => (ih x0 x4 x5 x6 x7 v32_60 m))))) (fun v m => kp v m))) (fun v m => kp v m))) (k1 (mbin E .add 3 x8 (.int .i64 1)) fun v32_61 => (ih x0 x4 x5 x6 x7 v32_61 m)))) (fun v m => kp v m))))))) (fun v m => kp v m)))))) (kx2 x0 x4 x5 x6 x7 m))))))) n
noncomputable def r33_L0 (call : CallF) (fuel base : Nat) (kp : Value → M → Res2) (kx0 : Value → Value → Value → M → Res2) (n : Nat) : Value → Value → Value → Value → Value → M → Res2 :=
  Nat.rec (motive := fun _ => Value → Value → Value → Value → Value → M → Res2) (fun _ _ _ _ _ _ => none)
    (fun _ ih x0 x4 x5 x6 x7 m =>
      (k2 (vcall E.P base m .len [22] [x0]) fun v20_6 m => (k1 (mbin E .lss 3 x7 v20_6) fun v21_7 => (kb v21_7 (r33_L2 call fuel base (fun v m => kp v m) (fun y0_62 y4_63 y5_64 y6_65 y7_66 m => (k1 (mbin E .add 3 y7_66 (.int .i64 1)) fun v23_67 => (ih y0_62 y4_63 y5_64 y6_65 v23_67 m))) fuel x0 x4 x5 x6 x7 (.int .i64 0) m) (kx0 x0 x5 x6 m))))) n
noncomputable def r33 (call : CallF) (fuel base : Nat) (x0 : Value) (m : M) : Res2 :=
  (kc (call base 34 [x0] m) (fun v11_1 m => (k1 (mun .not v11_1) fun v12_2 => (kb v12_2 (some (.ret (.tuple #[(.slice none 0 0), (.int .i64 2)]), m)) (kc (call base 37 [x0] m) (fun v14_3 m => (kc (call base 38 [v14_3] m) (fun v16_4 m => (k1 (mbin E .eql 3 v16_4 (.int .i64 0)) fun v17_5 => (kb v17_5 (some (.ret (.tuple #[(.slice none 0 0), (.int .i64 10)]), m)) (r33_L0 call fuel base (fun v m => some (.pan v, m)) (fun y0_68 y5_69 y6_70 m => (kc (call base 62 [y0_68, y5_69] m) (fun v71_71 m => (kc (call base 62 [y0_68, y6_70] m) (fun v74_72 m => (k2 (xbuildSlice E.P m 43 2 [(0, v71_71), (1, v74_72)]) fun v75_73 m => (some (.ret (.tuple #[v75_73, (.int .i64 0)]), m)))) (fun v m => some (.pan v, m)))) (fun v m => some (.pan v, m)))) fuel x0 v14_3 (.slice none 0 0) (.slice none 0 0) (.int .i64 0) m)))) (fun v m => some (.pan v, m)))) (fun v m => some (.pan v, m)))))) (fun v m => some (.pan v, m)))
def keep33 : Keep := { region := fun i => ([[0], [0, 12], [2, 3], [0, 4], [0, 4, 17], [2, 3], [0, 4, 5, 6], [0, 4, 5, 6, 7], [0, 4, 5, 6, 7, 21], [0, 4, 5, 6, 7], [0, 4, 5, 6, 7, 8], [0, 4, 5, 6, 7, 8, 30], [0, 4, 5, 6, 7, 8], [0, 4, 5, 6, 7, 8, 9], [0, 4, 5, 6, 7, 8, 9, 45], [0, 4, 5, 6, 7, 8, 9], [0, 4, 5, 6, 7, 8, 9], [0, 4, 5, 6, 7, 8, 62], [0, 4, 5, 6, 7, 8], [2, 3]] : List (List Nat))[i]?, exit := fun i => ([[0, 5, 6], [0, 4, 5, 6, 7], [0, 4, 5, 6, 7], [0, 4, 5, 6, 7, 8]] : List (List Nat))[i]?, ret := some [2, 3] }
noncomputable def r33_L2_R (call : CallF) (fuel base n : Nat) (vs : List Value) (m : M) (K : KT) : Res2 := match vs with
  | [x0, x4, x5, x6, x7, x8] => r33_L2 call fuel base (fun v m => K (.pan v) { n := 76, l := [] } m) (fun y0 y4 y5 y6 y7 m => K (.exit 2) { n := 76, l := [(0, y0), (4, y4), (5, y5), (6, y6), (7, y7)] } m) n x0 x4 x5 x6 x7 x8 m
  | _ => none
noncomputable def r33_L0_R (call : CallF) (fuel base n : Nat) (vs : List Value) (m : M) (K : KT) : Res2 := match vs with
  | [x0, x4, x5, x6, x7] => r33_L0 call fuel base (fun v m => K (.pan v) { n := 76, l := [] } m) (fun y0 y5 y6 m => K (.exit 0) { n := 76, l := [(0, y0), (5, y5), (6, y6)] } m) n x0 x4 x5 x6 x7 m
  | _ => none
noncomputable def lp33 (call : CallF) (fuel base : Nat) : Lp := lpsel [(2, fun T m K => kslots 76 [0, 4, 5, 6, 7, 8] T fun vs => r33_L2_R call fuel base fuel vs m K), (0, fun T m K => kslots 76 [0, 4, 5, 6, 7] T fun vs => r33_L0_R call fuel base fuel vs m K)]
noncomputable def c33 : Code := Tryd.f33.body.getD .skip
theorem r33_L2_lk (call : CallF) (fuel base : Nat) : LoopsOk E call (lp33 call fuel base) fuel base 2 (loopB (blockB (seqR (blockB (seqL (seqR (loopB (blockB (seqR (seqL (seqR (seqR (seqR (seqR (seqR c33))))))))))))))) = (And (And True (And True True)) (And (And True (And (And True (And True True)) (And True (And True (And True True))))) True)) := by kernel_rfl
theorem r33_L2_ok (call : CallF) (fuel base : Nat) : LpOk E call (lp33 call fuel base) fuel base 2 (loopB (blockB (seqR (blockB (seqL (seqR (loopB (blockB (seqR (seqL (seqR (seqR (seqR (seqR (seqR c33))))))))))))))) := by
  refine loop_ok (kp := keep33) (hb := Eq.mpr (r33_L2_lk call fuel base) (And.intro (And.intro trivial (And.intro trivial trivial)) (And.intro (And.intro trivial (And.intro (And.intro trivial (And.intro trivial trivial)) (And.intro trivial (And.intro trivial (And.intro trivial trivial))))) trivial))) 76 [0, 4, 5, 6, 7, 8] (fun n vs m K => r33_L2_R call fuel base n vs m K) ?_ ?_ (fun _ _ _ => rfl)
  · intro vs m K
    unfold r33_L2_R
    split <;> rfl
  · intro n vs m K hl
    match vs, hl with
    | [x0, x4, x5, x6, x7, x8], _ => show _ = _; kernel_rfl
theorem r33_L0_lk (call : CallF) (fuel base : Nat) : LoopsOk E call (lp33 call fuel base) fuel base 0 (loopB (blockB (seqR (seqL (seqR (seqR (seqR (seqR (seqR c33))))))))) = (And (And True (And True True)) (And (And True (LpOk E call (lp33 call fuel base) fuel base 2 (loopB (blockB (seqR (blockB (seqL (seqR (loopB (blockB (seqR (seqL (seqR (seqR (seqR (seqR (seqR c33))))))))))))))))) True)) := by kernel_rfl
theorem r33_L0_ok (call : CallF) (fuel base : Nat) : LpOk E call (lp33 call fuel base) fuel base 0 (loopB (blockB (seqR (seqL (seqR (seqR (seqR (seqR (seqR c33))))))))) := by
  refine loop_ok (kp := keep33) (hb := Eq.mpr (r33_L0_lk call fuel base) (And.intro (And.intro trivial (And.intro trivial trivial)) (And.intro (And.intro trivial (r33_L2_ok call fuel base)) trivial))) 76 [0, 4, 5, 6, 7] (fun n vs m K => r33_L0_R call fuel base n vs m K) ?_ ?_ (fun _ _ _ => rfl)
  · intro vs m K
    unfold r33_L0_R
    split <;> rfl
  · intro n vs m K hl
    match vs, hl with
    | [x0, x4, x5, x6, x7], _ => show _ = _; kernel_rfl
theorem r33_eq (call : CallF) (fuel base : Nat) (x0 : Value) (m : M) : kbody E call keep33 (lp33 call fuel base) base Tryd.f33 [x0] m = r33 call fuel base x0 m := by
  kernel_rfl
noncomputable def rf33 : RF := fun call fuel base args m => match args with
  | [x0] => r33 call fuel base x0 m
  | _ => none
theorem r33_lk (call : CallF) (fuel base : Nat) : LoopsOk E call (lp33 call fuel base) fuel base 0 c33 = (And True (And (And True (And (And True True) True)) (And True (And (And True (And (And True True) True)) (And True (And (And True (LpOk E call (lp33 call fuel base) fuel base 0 (loopB (blockB (seqR (seqL (seqR (seqR (seqR (seqR (seqR c33))))))))))) (And True True))))))) := by kernel_rfl
theorem r33_fn : E.P.funcs[33]? = some Tryd.f33 := by kernel_rfl
theorem r33_body : Tryd.f33.body = some c33 := by kernel_rfl
theorem rf33_ok : RFok E 33 rf33 := by
  refine ⟨Tryd.f33, r33_fn, fun call fuel base args m r _ h => ?_⟩
  unfold rf33 at h
  split at h
  · rw [← r33_eq] at h
    exact kbody_sound (c := c33) r33_body (Eq.mpr (r33_lk call fuel base) (And.intro trivial (And.intro (And.intro trivial (And.intro (And.intro trivial trivial) trivial)) (And.intro trivial (And.intro (And.intro trivial (And.intro (And.intro trivial trivial) trivial)) (And.intro trivial (And.intro (And.intro trivial (r33_L0_ok call fuel base)) (And.intro trivial trivial)))))))) h
  · simp at h
end Go.AM
namespace Go.AM
open Go Go.Proofs
noncomputable def r34_L2 (call : CallF) (fuel base : Nat) (kr : Value → M → Res2) (kx2 : Value → Value → M → Res2) (n : Nat) : Value → Value → Value → M → Res2 :=
  Nat.rec (motive := fun _ => Value → Value → Value → M → Res2) (fun _ _ _ _ => none)
    (fun _ ih x0 x3 x4 m =>
      (k1 (mindexAddr E.P 22 x0 x3) fun v46_22 => (k1 (xload E.P m 9 v46_22) fun v47_23 => (k2 (vcall E.P base m .len [9] [v47_23]) fun v48_24 m => (k1 (mbin E .lss 3 x4 v48_24) fun v49_25 => (kb v49_25 (k1 (mindexAddr E.P 22 x0 x3) fun v54_26 => (k1 (xload E.P m 9 v54_26) fun v55_27 => (k1 (mindex E.P 9 v55_27 x4) fun v57_28 => (k1 (mbin E .neq 5 v57_28 (.int .u8 35)) fun v58_29 => (kb v58_29 (k1 (mindexAddr E.P 22 x0 x3) fun v62_30 => (k1 (xload E.P m 9 v62_30) fun v63_31 => (k1 (mindex E.P 9 v63_31 x4) fun v65_32 => (k1 (mbin E .neq 5 v65_32 (.int .u8 46)) fun v66_33 => (kb v66_33 (kr (.bool false) m) (k1 (mbin E .add 3 x4 (.int .i64 1)) fun v51_34 => (ih x0 x3 v51_34 m))))))) (k1 (mbin E .add 3 x4 (.int .i64 1)) fun v51_35 => (ih x0 x3 v51_35 m))))))) (kx2 x0 x3 m))))))) n
noncomputable def r34_L0 (call : CallF) (fuel base : Nat) (kr : Value → M → Res2) (kx0 : M → Res2) (n : Nat) : Value → Value → M → Res2 :=
  Nat.rec (motive := fun _ => Value → Value → M → Res2) (fun _ _ _ => none)
    (fun _ ih x0 x3 m =>
      (k2 (vcall E.P base m .len [22] [x0]) fun v29_13 m => (k1 (mbin E .lss 3 x3 v29_13) fun v30_14 => (kb v30_14 (k1 (mindexAddr E.P 22 x0 x3) fun v35_15 => (k1 (xload E.P m 9 v35_15) fun v36_16 => (k2 (vcall E.P base m .len [9] [v36_16]) fun v37_17 m => (k1 (mindexAddr E.P 22 x0 (.int .i64 0)) fun v39_18 => (k1 (xload E.P m 9 v39_18) fun v40_19 => (k2 (vcall E.P base m .len [9] [v40_19]) fun v41_20 m => (k1 (mbin E .neq 3 v37_17 v41_20) fun v42_21 => (kb v42_21 (kr (.bool false) m) (r34_L2 call fuel base (fun y2_36 m => (kr y2_36 m)) (fun y0_37 y3_38 m => (k1 (mbin E .add 3 y3_38 (.int .i64 1)) fun v32_39 => (ih y0_37 v32_39 m))) fuel x0 x3 (.int .i64 0) m))))))))) (kx0 m))))) n
noncomputable def r34 (call : CallF) (fuel base : Nat) (x0 : Value) (m : M) : Res2 :=
  (k2 (vcall E.P base m .len [22] [x0]) fun v6_1 m => (k1 (mbin E .lss 3 v6_1 (.int .i64 1)) fun v7_2 => (kb v7_2 (fVal (.bool false) fun v => some (.ret v, m)) (k2 (vcall E.P base m .len [22] [x0]) fun v10_3 m => (k1 (mbin E .gtr 3 v10_3 (.int .i64 8)) fun v11_4 => (kb v11_4 (fVal (.bool false) fun v => some (.ret v, m)) (k1 (mindexAddr E.P 22 x0 (.int .i64 0)) fun v15_5 => (k1 (xload E.P m 9 v15_5) fun v16_6 => (k2 (vcall E.P base m .len [9] [v16_6]) fun v17_7 m => (k1 (mbin E .lss 3 v17_7 (.int .i64 1)) fun v18_8 => (kb v18_8 (fVal (.bool false) fun v => some (.ret v, m)) (k1 (mindexAddr E.P 22 x0 (.int .i64 0)) fun v22_9 => (k1 (xload E.P m 9 v22_9) fun v23_10 => (k2 (vcall E.P base m .len [9] [v23_10]) fun v24_11 m => (k1 (mbin E .gtr 3 v24_11 (.int .i64 8)) fun v25_12 => (kb v25_12 (fVal (.bool false) fun v => some (.ret v, m)) (r34_L0 call fuel base (fun y2_40 m => (fVal y2_40 fun v => some (.ret v, m))) (fun m => (fVal (.bool true) fun v => some (.ret v, m))) fuel x0 (.int .i64 0) m)))))))))))))))))
def keep34 : Keep := { region := fun i => ([[0], [0, 26], [2], [0, 3], [0, 3, 30], [0, 3], [0, 3, 42], [2], [0, 3, 4], [0, 3, 4, 49], [0, 3, 4], [0, 3, 4, 67], [2], [2]] : List (List Nat))[i]?, exit := fun i => ([[], [0, 3], [0, 3], [0, 3, 4]] : List (List Nat))[i]?, ret := some [2] }
noncomputable def r34_L2_R (call : CallF) (fuel base n : Nat) (vs : List Value) (m : M) (K : KT) : Res2 := match vs with
  | [x0, x3, x4] => r34_L2 call fuel base (fun y2 m => K .ret { n := 68, l := [(2, y2)] } m) (fun y0 y3 m => K (.exit 2) { n := 68, l := [(0, y0), (3, y3)] } m) n x0 x3 x4 m
  | _ => none
noncomputable def r34_L0_R (call : CallF) (fuel base n : Nat) (vs : List Value) (m : M) (K : KT) : Res2 := match vs with
  | [x0, x3] => r34_L0 call fuel base (fun y2 m => K .ret { n := 68, l := [(2, y2)] } m) (fun m => K (.exit 0) { n := 68, l := [] } m) n x0 x3 m
  | _ => none
noncomputable def lp34 (call : CallF) (fuel base : Nat) : Lp := lpsel [(2, fun T m K => kslots 68 [0, 3, 4] T fun vs => r34_L2_R call fuel base fuel vs m K), (0, fun T m K => kslots 68 [0, 3] T fun vs => r34_L0_R call fuel base fuel vs m K)]
noncomputable def c34 : Code := Tryd.f34.body.getD .skip
theorem r34_L2_lk (call : CallF) (fuel base : Nat) : LoopsOk E call (lp34 call fuel base) fuel base 2 (loopB (blockB (seqR (seqR (blockB (seqL (seqR (loopB (blockB (seqR (seqL (seqR (seqR c34))))))))))))) = (And (And True (And True True)) (And (And True (And (And True True) True)) True)) := by kernel_rfl
theorem r34_L2_ok (call : CallF) (fuel base : Nat) : LpOk E call (lp34 call fuel base) fuel base 2 (loopB (blockB (seqR (seqR (blockB (seqL (seqR (loopB (blockB (seqR (seqL (seqR (seqR c34))))))))))))) := by
  refine loop_ok (kp := keep34) (hb := Eq.mpr (r34_L2_lk call fuel base) (And.intro (And.intro trivial (And.intro trivial trivial)) (And.intro (And.intro trivial (And.intro (And.intro trivial trivial) trivial)) trivial))) 68 [0, 3, 4] (fun n vs m K => r34_L2_R call fuel base n vs m K) ?_ ?_ (fun _ _ _ => rfl)
  · intro vs m K
    unfold r34_L2_R
    split <;> rfl
  · intro n vs m K hl
    match vs, hl with
    | [x0, x3, x4], _ => show _ = _; kernel_rfl
theorem r34_L0_lk (call : CallF) (fuel base : Nat) : LoopsOk E call (lp34 call fuel base) fuel base 0 (loopB (blockB (seqR (seqL (seqR (seqR c34)))))) = (And (And True (And True True)) (And (And (And True (And (And True True) True)) (And True (LpOk E call (lp34 call fuel base) fuel base 2 (loopB (blockB (seqR (seqR (blockB (seqL (seqR (loopB (blockB (seqR (seqL (seqR (seqR c34)))))))))))))))) True)) := by kernel_rfl
theorem r34_L0_ok (call : CallF) (fuel base : Nat) : LpOk E call (lp34 call fuel base) fuel base 0 (loopB (blockB (seqR (seqL (seqR (seqR c34)))))) := by
  refine loop_ok (kp := keep34) (hb := Eq.mpr (r34_L0_lk call fuel base) (And.intro (And.intro trivial (And.intro trivial trivial)) (And.intro (And.intro (And.intro trivial (And.intro (And.intro trivial trivial) trivial)) (And.intro trivial (r34_L2_ok call fuel base))) trivial))) 68 [0, 3] (fun n vs m K => r34_L0_R call fuel base n vs m K) ?_ ?_ (fun _ _ _ => rfl)
  · intro vs m K
    unfold r34_L0_R
    split <;> rfl
  · intro n vs m K hl
    match vs, hl with
    | [x0, x3], _ => show _ = _; kernel_rfl
theorem r34_eq (call : CallF) (fuel base : Nat) (x0 : Value) (m : M) : kbody E call keep34 (lp34 call fuel base) base Tryd.f34 [x0] m = r34 call fuel base x0 m := by
  kernel_rfl
noncomputable def rf34 : RF := fun call fuel base args m => match args with
  | [x0] => r34 call fuel base x0 m
  | _ => none
theorem r34_lk (call : CallF) (fuel base : Nat) : LoopsOk E call (lp34 call fuel base) fuel base 0 c34 = (And True (And (And True (And (And True True) True)) (And (And True (LpOk E call (lp34 call fuel base) fuel base 0 (loopB (blockB (seqR (seqL (seqR (seqR c34)))))))) (And True True)))) := by kernel_rfl
theorem r34_fn : E.P.funcs[34]? = some Tryd.f34 := by kernel_rfl
theorem r34_body : Tryd.f34.body = some c34 := by kernel_rfl
theorem rf34_ok : RFok E 34 rf34 := by
  refine ⟨Tryd.f34, r34_fn, fun call fuel base args m r _ h => ?_⟩
  unfold rf34 at h
  split at h
  · rw [← r34_eq] at h
    exact kbody_sound (c := c34) r34_body (Eq.mpr (r34_lk call fuel base) (And.intro trivial (And.intro (And.intro trivial (And.intro (And.intro trivial trivial) trivial)) (And.intro (And.intro trivial (r34_L0_ok call fuel base)) (And.intro trivial trivial))))) h
  · simp at h
end Go.AM
namespace Go.AM
open Go Go.Proofs
noncomputable def r37_L2 (call : CallF) (fuel base : Nat) (kx2 : Value → Value → Value → Value → M → Res2) (n : Nat) : Value → Value → Value → Value → Value → M → Res2 :=
  Nat.rec (motive := fun _ => Value → Value → Value → Value → Value → M → Res2) (fun _ _ _ _ _ _ => none)
    (fun _ ih x0 x3 x4 x5 x6 m =>
      (k1 (mindexAddr E.P 22 x0 x4) fun v16_3 => (k1 (xload E.P m 9 v16_3) fun v17_4 => (k2 (vcall E.P base m .len [9] [v17_4]) fun v18_5 m => (k1 (mbin E .lss 3 x6 v18_5) fun v19_6 => (kb v19_6 (k1 (mindexAddr E.P 22 x0 x4) fun v25_7 => (k1 (xload E.P m 9 v25_7) fun v26_8 => (k1 (mindex E.P 9 v26_8 x6) fun v28_9 => (k1 (mbin E .eql 5 v28_9 (.int .u8 35)) fun v29_10 => (k2 (xbuildSlice E.P m 54 1 [(0, v29_10)]) fun v30_11 m => (k2 (vcall E.P base m .append [54, 54] [x5, v30_11]) fun v31_12 m => (k1 (mbin E .add 3 x6 (.int .i64 1)) fun v21_13 => (ih x0 x3 x4 v31_12 v21_13 m)))))))) (kx2 x0 x3 x4 x5 m))))))) n
noncomputable def r37_L0 (call : CallF) (fuel base : Nat) (kx0 : Value → M → Res2) (n : Nat) : Value → Value → Value → M → Res2 :=
  Nat.rec (motive := fun _ => Value → Value → Value → M → Res2) (fun _ _ _ _ => none)
    (fun _ ih x0 x3 x4 m =>
      (k2 (vcall E.P base m .len [22] [x0]) fun v9_1 m => (k1 (mbin E .lss 3 x4 v9_1) fun v10_2 => (kb v10_2 (r37_L2 call fuel base (fun y0_14 y3_15 y4_16 y5_17 m => (k2 (xbuildSlice E.P m 51 1 [(0, y5_17)]) fun v34_18 m => (k2 (vcall E.P base m .append [51, 51] [y3_15, v34_18]) fun v35_19 m => (k1 (mbin E .add 3 y4_16 (.int .i64 1)) fun v12_20 => (ih y0_14 v35_19 v12_20 m))))) fuel x0 x3 x4 (.slice none 0 0) (.int .i64 0) m) (kx0 x3 m))))) n
noncomputable def r37 (call : CallF) (fuel base : Nat) (x0 : Value) (m : M) : Res2 :=
  (r37_L0 call fuel base (fun y3_21 m => (fVal y3_21 fun v => some (.ret v, m))) fuel x0 (.slice none 0 0) (.int .i64 0) m)
def keep37 : Keep := { region := fun i => ([[0], [0, 3], [0, 3, 4], [0, 3, 4, 10], [0, 3, 4], [0, 3, 4, 5], [0, 3, 4, 5, 6], [0, 3, 4, 5, 6, 19], [0, 3, 4, 5, 6], [0, 3, 4, 5, 6], [0, 3, 4], [2]] : List (List Nat))[i]?, exit := fun i => ([[3], [0, 3, 4], [0, 3, 4, 5], [0, 3, 4, 5, 6]] : List (List Nat))[i]?, ret := some [2] }
noncomputable def r37_L2_R (call : CallF) (fuel base n : Nat) (vs : List Value) (m : M) (K : KT) : Res2 := match vs with
  | [x0, x3, x4, x5, x6] => r37_L2 call fuel base (fun y0 y3 y4 y5 m => K (.exit 2) { n := 37, l := [(0, y0), (3, y3), (4, y4), (5, y5)] } m) n x0 x3 x4 x5 x6 m
  | _ => none
noncomputable def r37_L0_R (call : CallF) (fuel base n : Nat) (vs : List Value) (m : M) (K : KT) : Res2 := match vs with
  | [x0, x3, x4] => r37_L0 call fuel base (fun y3 m => K (.exit 0) { n := 37, l := [(3, y3)] } m) n x0 x3 x4 m
  | _ => none
noncomputable def lp37 (call : CallF) (fuel base : Nat) : Lp := lpsel [(2, fun T m K => kslots 37 [0, 3, 4, 5, 6] T fun vs => r37_L2_R call fuel base fuel vs m K), (0, fun T m K => kslots 37 [0, 3, 4] T fun vs => r37_L0_R call fuel base fuel vs m K)]
noncomputable def c37 : Code := Tryd.f37.body.getD .skip
theorem r37_L2_lk (call : CallF) (fuel base : Nat) : LoopsOk E call (lp37 call fuel base) fuel base 2 (loopB (blockB (seqR (seqL (seqR (blockB (seqL (seqR (loopB (blockB (seqR (seqL (seqR (seqR c37)))))))))))))) = (And (And True (And True True)) (And True True)) := by kernel_rfl
theorem r37_L2_ok (call : CallF) (fuel base : Nat) : LpOk E call (lp37 call fuel base) fuel base 2 (loopB (blockB (seqR (seqL (seqR (blockB (seqL (seqR (loopB (blockB (seqR (seqL (seqR (seqR c37)))))))))))))) := by
  refine loop_ok (kp := keep37) (hb := Eq.mpr (r37_L2_lk call fuel base) (And.intro (And.intro trivial (And.intro trivial trivial)) (And.intro trivial trivial))) 37 [0, 3, 4, 5, 6] (fun n vs m K => r37_L2_R call fuel base n vs m K) ?_ ?_ (fun _ _ _ => rfl)
  · intro vs m K
    unfold r37_L2_R
    split <;> rfl
  · intro n vs m K hl
    match vs, hl with
    | [x0, x3, x4, x5, x6], _ => show _ = _; kernel_rfl
theorem r37_L0_lk (call : CallF) (fuel base : Nat) : LoopsOk E call (lp37 call fuel base) fuel base 0 (loopB (blockB (seqR (seqL (seqR (seqR c37)))))) = (And (And True (And True True)) (And (And True (And (And True (LpOk E call (lp37 call fuel base) fuel base 2 (loopB (blockB (seqR (seqL (seqR (blockB (seqL (seqR (loopB (blockB (seqR (seqL (seqR (seqR c37)))))))))))))))) True)) True)) := by kernel_rfl
theorem r37_L0_ok (call : CallF) (fuel base : Nat) : LpOk E call (lp37 call fuel base) fuel base 0 (loopB (blockB (seqR (seqL (seqR (seqR c37)))))) := by
  refine loop_ok (kp := keep37) (hb := Eq.mpr (r37_L0_lk call fuel base) (And.intro (And.intro trivial (And.intro trivial trivial)) (And.intro (And.intro trivial (And.intro (And.intro trivial (r37_L2_ok call fuel base)) trivial)) trivial))) 37 [0, 3, 4] (fun n vs m K => r37_L0_R call fuel base n vs m K) ?_ ?_ (fun _ _ _ => rfl)
  · intro vs m K
    unfold r37_L0_R
    split <;> rfl
  · intro n vs m K hl
    match vs, hl with
    | [x0, x3, x4], _ => show _ = _; kernel_rfl
theorem r37_eq (call : CallF) (fuel base : Nat) (x0 : Value) (m : M) : kbody E call keep37 (lp37 call fuel base) base Tryd.f37 [x0] m = r37 call fuel base x0 m := by
  kernel_rfl
noncomputable def rf37 : RF := fun call fuel base args m => match args with
  | [x0] => r37 call fuel base x0 m
  | _ => none
theorem r37_lk (call : CallF) (fuel base : Nat) : LoopsOk E call (lp37 call fuel base) fuel base 0 c37 = (And True (And True (And (And True (LpOk E call (lp37 call fuel base) fuel base 0 (loopB (blockB (seqR (seqL (seqR (seqR c37)))))))) (And True True)))) := by kernel_rfl
theorem r37_fn : E.P.funcs[37]? = some Tryd.f37 := by kernel_rfl
theorem r37_body : Tryd.f37.body = some c37 := by kernel_rfl
theorem rf37_ok : RFok E 37 rf37 := by
  refine ⟨Tryd.f37, r37_fn, fun call fuel base args m r _ h => ?_⟩
  unfold rf37 at h
  split at h
  · rw [← r37_eq] at h
    exact kbody_sound (c := c37) r37_body (Eq.mpr (r37_lk call fuel base) (And.intro trivial (And.intro trivial (And.intro (And.intro trivial (r37_L0_ok call fuel base)) (And.intro trivial trivial))))) h
  · simp at h
end Go.AM
namespace Go.AM
open Go Go.Proofs
noncomputable def r38_L4 (call : CallF) (fuel base : Nat) (kx4 : Value → Value → Value → Value → Value → Value → M → Res2) (n : Nat) : Value → Value → Value → Value → Value → Value → Value → Value → M → Res2 :=
  Nat.rec (motive := fun _ => Value → Value → Value → Value → Value → Value → Value → Value → M → Res2) (fun _ _ _ _ _ _ _ _ _ => none)
    (fun _ ih x0 x3 x4 x5 x6 x7 x8 x9 m =>
      (k1 (mbin E .shl 3 (.int .i64 1) x4) fun v38_12 => (k1 (mbin E .lss 3 x9 v38_12) fun v39_13 => (kb v39_13 (k1 (mindexAddr E.P 78 x5 x9) fun v44_14 => (k1 (xload E.P m 3 v44_14) fun v45_15 => (k1 (mbin E .eql 3 v45_15 (.int .i64 0)) fun v46_16 => (kb v46_16 (k1 (mbin E .add 3 x9 (.int .i64 1)) fun v41_17 => (ih x0 x3 x4 x5 x6 x7 x8 v41_17 m)) (k1 (mbin E .shr 3 x9 x7) fun v49_18 => (k1 (mbin E .rem 3 v49_18 (.int .i64 2)) fun v50_19 => (k1 (mbin E .eql 3 v50_19 (.int .i64 1)) fun v51_20 => (k1 (mbin E .shl 3 (.int .i64 1) x7) fun v54_21 => (k1 (mbin E .andNot 3 x9 v54_21) fun v55_22 => (kb v51_20 (k1 (mun .not v51_20) fun v68_23 => (kb v68_23 (k1 (mindexAddr E.P 78 x8 v55_22) fun v80_24 => (k1 (xload E.P m 3 v80_24) fun v81_25 => (k1 (mindexAddr E.P 78 x5 x9) fun v84_26 => (k1 (xload E.P m 3 v84_26) fun v85_27 => (k1 (mbin E .add 3 v81_25 v85_27) fun v86_28 => (k1 (mindexAddr E.P 78 x8 v55_22) fun v87_29 => (ks (xstore E.P base m 3 v87_29 v86_28) fun m => (k1 (mbin E .add 3 x9 (.int .i64 1)) fun v41_30 => (ih x0 x3 x4 x5 x6 x7 x8 v41_30 m))))))))) (k1 (mindexAddr E.P 51 x0 x6) fun v72_31 => (k1 (xload E.P m 54 v72_31) fun v73_32 => (k1 (mindexAddr E.P 54 v73_32 x7) fun v75_33 => (k1 (xload E.P m 4 v75_33) fun v76_34 => (kb v76_34 (k1 (mindexAddr E.P 78 x8 v55_22) fun v80_35 => (k1 (xload E.P m 3 v80_35) fun v81_36 => (k1 (mindexAddr E.P 78 x5 x9) fun v84_37 => (k1 (xload E.P m 3 v84_37) fun v85_38 => (k1 (mbin E .add 3 v81_36 v85_38) fun v86_39 => (k1 (mindexAddr E.P 78 x8 v55_22) fun v87_40 => (ks (xstore E.P base m 3 v87_40 v86_39) fun m => (k1 (mbin E .add 3 x9 (.int .i64 1)) fun v41_41 => (ih x0 x3 x4 x5 x6 x7 x8 v41_41 m))))))))) (k1 (mbin E .add 3 x9 (.int .i64 1)) fun v41_42 => (ih x0 x3 x4 x5 x6 x7 x8 v41_42 m))))))))) (k1 (mindexAddr E.P 51 x0 x6) fun v60_43 => (k1 (xload E.P m 54 v60_43) fun v61_44 => (k1 (mindexAddr E.P 54 v61_44 x7) fun v63_45 => (k1 (xload E.P m 4 v63_45) fun v64_46 => (k1 (mun .not v64_46) fun v65_47 => (kb v65_47 (k1 (mun .not v51_20) fun v68_48 => (kb v68_48 (k1 (mindexAddr E.P 78 x8 v55_22) fun v80_49 => (k1 (xload E.P m 3 v80_49) fun v81_50 => (k1 (mindexAddr E.P 78 x5 x9) fun v84_51 => (k1 (xload E.P m 3 v84_51) fun v85_52 => (k1 (mbin E .add 3 v81_50 v85_52) fun v86_53 => (k1 (mindexAddr E.P 78 x8 v55_22) fun v87_54 => (ks (xstore E.P base m 3 v87_54 v86_53) fun m => (k1 (mbin E .add 3 x9 (.int .i64 1)) fun v41_55 => (ih x0 x3 x4 x5 x6 x7 x8 v41_55 m))))))))) (k1 (mindexAddr E.P 51 x0 x6) fun v72_56 => (k1 (xload E.P m 54 v72_56) fun v73_57 => (k1 (mindexAddr E.P 54 v73_57 x7) fun v75_58 => (k1 (xload E.P m 4 v75_58) fun v76_59 => (kb v76_59 (k1 (mindexAddr E.P 78 x8 v55_22) fun v80_60 => (k1 (xload E.P m 3 v80_60) fun v81_61 => (k1 (mindexAddr E.P 78 x5 x9) fun v84_62 => (k1 (xload E.P m 3 v84_62) fun v85_63 => (k1 (mbin E .add 3 v81_61 v85_63) fun v86_64 => (k1 (mindexAddr E.P 78 x8 v55_22) fun v87_65 => (ks (xstore E.P base m 3 v87_65 v86_64) fun m => (k1 (mbin E .add 3 x9 (.int .i64 1)) fun v41_66 => (ih x0 x3 x4 x5 x6 x7 x8 v41_66 m))))))))) (k1 (mbin E .add 3 x9 (.int .i64 1)) fun v41_67 => (ih x0 x3 x4 x5 x6 x7 x8 v41_67 m))))))))) (k1 (mbin E .add 3 x6 (.int .i64 1)) fun v89_68 => (k1 (mbin E .lss 3 v89_68 x3) fun v91_69 => (kb v91_69 (k1 (mbin E .add 3 x6 (.int .i64 1)) fun v95_70 => (k1 (mindexAddr E.P 51 x0 v95_70) fun v96_71 => (k1 (xload E.P m 54 v96_71) fun v97_72 => (k1 (mindexAddr E.P 54 v97_72 x7) fun v99_73 => (k1 (xload E.P m 4 v99_73) fun v100_74 => (kb v100_74 (k1 (mbin E .shl 3 (.int .i64 1) x7) fun v105_75 => (k1 (mbin E .or 3 v55_22 v105_75) fun v106_76 => (k1 (mindexAddr E.P 78 x8 v106_76) fun v107_77 => (k1 (xload E.P m 3 v107_77) fun v108_78 => (k1 (mindexAddr E.P 78 x5 x9) fun v111_79 => (k1 (xload E.P m 3 v111_79) fun v112_80 => (k1 (mbin E .add 3 v108_78 v112_80) fun v113_81 => (k1 (mindexAddr E.P 78 x8 v106_76) fun v114_82 => (ks (xstore E.P base m 3 v114_82 v113_81) fun m => (k1 (mbin E .add 3 x7 (.int .i64 1)) fun v116_83 => (k1 (mbin E .lss 3 v116_83 x4) fun v118_84 => (kb v118_84 (k1 (mindexAddr E.P 51 x0 x6) fun v122_85 => (k1 (xload E.P m 54 v122_85) fun v123_86 => (k1 (mbin E .add 3 x7 (.int .i64 1)) fun v125_87 => (k1 (mindexAddr E.P 54 v123_86 v125_87) fun v126_88 => (k1 (xload E.P m 4 v126_88) fun v127_89 => (kb v127_89 (k1 (mbin E .add 3 x7 (.int .i64 1)) fun v132_90 => (k1 (mbin E .shr 3 x9 v132_90) fun v133_91 => (k1 (mbin E .rem 3 v133_91 (.int .i64 2)) fun v134_92 => (k1 (mbin E .eql 3 v134_92 (.int .i64 0)) fun v135_93 => (kb v135_93 (k1 (mbin E .add 3 x7 (.int .i64 1)) fun v140_94 => (k1 (mbin E .shl 3 (.int .i64 1) v140_94) fun v141_95 => (k1 (mbin E .or 3 v55_22 v141_95) fun v142_96 => (k1 (mindexAddr E.P 78 x8 v142_96) fun v143_97 => (k1 (xload E.P m 3 v143_97) fun v144_98 => (k1 (mindexAddr E.P 78 x5 x9) fun v147_99 => (k1 (xload E.P m 3 v147_99) fun v148_100 => (k1 (mbin E .add 3 v144_98 v148_100) fun v149_101 => (k1 (mindexAddr E.P 78 x8 v142_96) fun v150_102 => (ks (xstore E.P base m 3 v150_102 v149_101) fun m => (k1 (mbin E .add 3 x9 (.int .i64 1)) fun v41_103 => (ih x0 x3 x4 x5 x6 x7 x8 v41_103 m)))))))))))) (k1 (mbin E .add 3 x9 (.int .i64 1)) fun v41_104 => (ih x0 x3 x4 x5 x6 x7 x8 v41_104 m))))))) (k1 (mbin E .add 3 x9 (.int .i64 1)) fun v41_105 => (ih x0 x3 x4 x5 x6 x7 x8 v41_105 m)))))))) (k1 (mbin E .add 3 x9 (.int .i64 1)) fun v41_106 => (ih x0 x3 x4 x5 x6 x7 x8 v41_106 m)))))))))))))) (k1 (mbin E .add 3 x7 (.int .i64 1)) fun v116_107 => (k1 (mbin E .lss 3 v116_107 x4) fun v118_108 => (kb v118_108 (k1 (mindexAddr E.P 51 x0 x6) fun v122_109 => (k1 (xload E.P m 54 v122_109) fun v123_110 => (k1 (mbin E .add 3 x7 (.int .i64 1)) fun v125_111 => (k1 (mindexAddr E.P 54 v123_110 v125_111) fun v126_112 => (k1 (xload E.P m 4 v126_112) fun v127_113 => (kb v127_113 (k1 (mbin E .add 3 x7 (.int .i64 1)) fun v132_114 => (k1 (mbin E .shr 3 x9 v132_114) fun v133_115 => (k1 (mbin E .rem 3 v133_115 (.int .i64 2)) fun v134_116 => (k1 (mbin E .eql 3 v134_116 (.int .i64 0)) fun v135_117 => (kb v135_117 (k1 (mbin E .add 3 x7 (.int .i64 1)) fun v140_118 => (k1 (mbin E .shl 3 (.int .i64 1) v140_118) fun v141_119 => (k1 (mbin E .or 3 v55_22 v141_119) fun v142_120 => (k1 (mindexAddr E.P 78 x8 v142_120) fun v143_121 => (k1 (xload E.P m 3 v143_121) fun v144_122 => (k1 (mindexAddr E.P 78 x5 x9) fun v147_123 => (k1 (xload E.P m 3 v147_123) fun v148_124 => (k1 (mbin E .add 3 v144_122 v148_124) fun v149_125 => (k1 (mindexAddr E.P 78 x8 v142_120) fun v150_126 => (ks (xstore E.P base m 3 v150_126 v149_125) fun m => (k1 (mbin E .add 3 x9 (.int .i64 1)) fun v41_127 => (ih x0 x3 x4 x5 x6 x7 x8 v41_127 m)))))))))))) (k1 (mbin E .add 3 x9 (.int .i64 1)) fun v41_128 => (ih x0 x3 x4 x5 x6 x7 x8 v41_128 m))))))) (k1 (mbin E .add 3 x9 (.int .i64 1)) fun v41_129 => (ih x0 x3 x4 x5 x6 x7 x8 v41_129 m)))))))) (k1 (mbin E .add 3 x9 (.int .i64 1)) fun v41_130 => (ih x0 x3 x4 x5 x6 x7 x8 v41_130 m))))))))))) (k1 (mbin E .add 3 x7 (.int .i64 1)) fun v116_131 => (k1 (mbin E .lss 3 v116_131 x4) fun v118_132 => (kb v118_132 (k1 (mindexAddr E.P 51 x0 x6) fun v122_133 => (k1 (xload E.P m 54 v122_133) fun v123_134 => (k1 (mbin E .add 3 x7 (.int .i64 1)) fun v125_135 => (k1 (mindexAddr E.P 54 v123_134 v125_135) fun v126_136 => (k1 (xload E.P m 4 v126_136) fun v127_137 => (kb v127_137 (k1 (mbin E .add 3 x7 (.int .i64 1)) fun v132_138 => (k1 (mbin E .shr 3 x9 v132_138) fun v133_139 => (k1 (mbin E .rem 3 v133_139 (.int .i64 2)) fun v134_140 => (k1 (mbin E .eql 3 v134_140 (.int .i64 0)) fun v135_141 => (kb v135_141 (k1 (mbin E .add 3 x7 (.int .i64 1)) fun v140_142 => (k1 (mbin E .shl 3 (.int .i64 1) v140_142) fun v141_143 => (k1 (mbin E .or 3 v55_22 v141_143) fun v142_144 => (k1 (mindexAddr E.P 78 x8 v142_144) fun v143_145 => (k1 (xload E.P m 3 v143_145) fun v144_146 => (k1 (mindexAddr E.P 78 x5 x9) fun v147_147 => (k1 (xload E.P m 3 v147_147) fun v148_148 => (k1 (mbin E .add 3 v144_146 v148_148) fun v149_149 => (k1 (mindexAddr E.P 78 x8 v142_144) fun v150_150 => (ks (xstore E.P base m 3 v150_150 v149_149) fun m => (k1 (mbin E .add 3 x9 (.int .i64 1)) fun v41_151 => (ih x0 x3 x4 x5 x6 x7 x8 v41_151 m)))))))))))) (k1 (mbin E .add 3 x9 (.int .i64 1)) fun v41_152 => (ih x0 x3 x4 x5 x6 x7 x8 v41_152 m))))))) (k1 (mbin E .add 3 x9 (.int .i64 1)) fun v41_153 => (ih x0 x3 x4 x5 x6 x7 x8 v41_153 m)))))))) (k1 (mbin E .add 3 x9 (.int .i64 1)) fun v41_154 => (ih x0 x3 x4 x5 x6 x7 x8 v41_154 m)))))))))))))))))))))))) (kx4 x0 x3 x4 x6 x7 x8 m))))) n
noncomputable def r38_L2 (call : CallF) (fuel base : Nat) (kx2 : Value → Value → Value → Value → Value → M → Res2) (n : Nat) : Value → Value → Value → Value → Value → Value → M → Res2 :=
  Nat.rec (motive := fun _ => Value → Value → Value → Value → Value → Value → M → Res2) (fun _ _ _ _ _ _ _ => none)
    (fun _ ih x0 x3 x4 x5 x6 x7 m =>
      (k1 (mbin E .lss 3 x7 x4) fun v30_9 => (kb v30_9 (k1 (mbin E .shl 3 (.int .i64 1) x4) fun v34_10 => (k2 (xmakeSlice E.P m 78 v34_10 v34_10) fun v35_11 m => (r38_L4 call fuel base (fun y0_155 y3_156 y4_157 y6_158 y7_159 y8_160 m => (k1 (mbin E .add 3 y7_159 (.int .i64 1)) fun v32_161 => (ih y0_155 y3_156 y4_157 y8_160 y6_158 v32_161 m))) fuel x0 x3 x4 x5 x6 x7 v35_11 (.int .i64 0) m))) (kx2 x0 x3 x4 x5 x6 m)))) n
noncomputable def r38_L0 (call : CallF) (fuel base : Nat) (kx0 : Value → M → Res2) (n : Nat) : Value → Value → Value → Value → Value → M → Res2 :=
  Nat.rec (motive := fun _ => Value → Value → Value → Value → Value → M → Res2) (fun _ _ _ _ _ _ => none)
    (fun _ ih x0 x3 x4 x5 x6 m =>
      (k1 (mbin E .lss 3 x6 x3) fun v25_8 => (kb v25_8 (r38_L2 call fuel base (fun y0_162 y3_163 y4_164 y5_165 y6_166 m => (k1 (mbin E .add 3 y6_166 (.int .i64 1)) fun v27_167 => (ih y0_162 y3_163 y4_164 y5_165 v27_167 m))) fuel x0 x3 x4 x5 x6 (.int .i64 0) m) (kx0 x5 m)))) n
noncomputable def r38 (call : CallF) (fuel base : Nat) (x0 : Value) (m : M) : Res2 :=
  (k2 (vcall E.P base m .len [51] [x0]) fun v13_1 m => (k1 (mindexAddr E.P 51 x0 (.int .i64 0)) fun v15_2 => (k1 (xload E.P m 54 v15_2) fun v16_3 => (k2 (vcall E.P base m .len [54] [v16_3]) fun v17_4 m => (k1 (mbin E .shl 3 (.int .i64 1) v17_4) fun v19_5 => (k2 (xmakeSlice E.P m 78 v19_5 v19_5) fun v20_6 m => (k1 (mindexAddr E.P 78 v20_6 (.int .i64 0)) fun v22_7 => (ks (xstore E.P base m 3 v22_7 (.int .i64 1)) fun m => (r38_L0 call fuel base (fun y5_168 m => (k1 (mindexAddr E.P 78 y5_168 (.int .i64 0)) fun v153_169 => (k1 (xload E.P m 3 v153_169) fun v154_170 => (fVal v154_170 fun v => some (.ret v, m))))) fuel x0 v13_1 v17_4 v20_6 (.int .i64 0) m)))))))))
def keep38 : Keep := { region := fun i => ([[0], [0, 3, 4], [0, 3, 4, 5], [0, 3, 4, 5], [0, 3, 4, 5, 6], [0, 3, 4, 5, 6, 25], [0, 3, 4, 5, 6], [0, 3, 4, 5, 6, 7], [0, 3, 4, 5, 6, 7, 30], [0, 3, 4, 5, 6, 7], [0, 3, 4, 5, 6, 7, 8], [0, 3, 4, 5, 6, 7, 8, 9], [0, 3, 4, 5, 6, 7, 8, 9, 39], [0, 3, 4, 5, 6, 7, 8, 9], [0, 3, 4, 5, 6, 7, 8, 9, 46], [0, 3, 4, 5, 6, 7, 8, 9, 10], [0, 3, 4, 5, 6, 7, 8, 9, 10, 11], [0, 3, 4, 5, 6, 7, 8, 9, 10, 11, 66], [0, 3, 4, 5, 6, 7, 8, 9, 11, 77], [0, 3, 4, 5, 6, 7, 8, 9], [0, 3, 4, 5, 6, 7, 8, 9, 11, 101], [0, 3, 4, 5, 6, 7, 8, 9, 11], [0, 3, 4, 5, 6, 7, 8, 9, 11, 136], [0, 3, 4, 5, 6, 7, 8, 9], [0, 3, 4, 5, 6, 7], [2]] : List (List Nat))[i]?, exit := fun i => ([[5], [0, 3, 4, 5, 6], [0, 3, 4, 5, 6], [0, 3, 4, 5, 6, 7], [0, 3, 4, 6, 7, 8], [0, 3, 4, 5, 6, 7, 8, 9]] : List (List Nat))[i]?, ret := some [2] }
noncomputable def r38_L4_R (call : CallF) (fuel base n : Nat) (vs : List Value) (m : M) (K : KT) : Res2 := match vs with
  | [x0, x3, x4, x5, x6, x7, x8, x9] => r38_L4 call fuel base (fun y0 y3 y4 y6 y7 y8 m => K (.exit 4) { n := 155, l := [(0, y0), (3, y3), (4, y4), (6, y6), (7, y7), (8, y8)] } m) n x0 x3 x4 x5 x6 x7 x8 x9 m
  | _ => none
noncomputable def r38_L2_R (call : CallF) (fuel base n : Nat) (vs : List Value) (m : M) (K : KT) : Res2 := match vs with
  | [x0, x3, x4, x5, x6, x7] => r38_L2 call fuel base (fun y0 y3 y4 y5 y6 m => K (.exit 2) { n := 155, l := [(0, y0), (3, y3), (4, y4), (5, y5), (6, y6)] } m) n x0 x3 x4 x5 x6 x7 m
  | _ => none
noncomputable def r38_L0_R (call : CallF) (fuel base n : Nat) (vs : List Value) (m : M) (K : KT) : Res2 := match vs with
  | [x0, x3, x4, x5, x6] => r38_L0 call fuel base (fun y5 m => K (.exit 0) { n := 155, l := [(5, y5)] } m) n x0 x3 x4 x5 x6 m
  | _ => none
noncomputable def lp38 (call : CallF) (fuel base : Nat) : Lp := lpsel [(4, fun T m K => kslots 155 [0, 3, 4, 5, 6, 7, 8, 9] T fun vs => r38_L4_R call fuel base fuel vs m K), (2, fun T m K => kslots 155 [0, 3, 4, 5, 6, 7] T fun vs => r38_L2_R call fuel base fuel vs m K), (0, fun T m K => kslots 155 [0, 3, 4, 5, 6] T fun vs => r38_L0_R call fuel base fuel vs m K)]
noncomputable def c38 : Code := Tryd.f38.body.getD .skip
theorem r38_L4_lk (call : CallF) (fuel base : Nat) : LoopsOk E call (lp38 call fuel base) fuel base 4 (loopB (blockB (seqR (seqL (seqR (blockB (seqL (seqR (loopB (blockB (seqR (blockB (seqL (seqR (loopB (blockB (seqR (seqL (seqR (seqR (seqR (seqR c38)))))))))))))))))))))) = (And (And True (And True True)) (And (And (And True (And True True)) (And True (And True (And (And True (And (And (And True (And True True)) True) True)) (And (And True (And True True)) (And True (And True True))))))) True)) := by kernel_rfl
theorem r38_L4_ok (call : CallF) (fuel base : Nat) : LpOk E call (lp38 call fuel base) fuel base 4 (loopB (blockB (seqR (seqL (seqR (blockB (seqL (seqR (loopB (blockB (seqR (blockB (seqL (seqR (loopB (blockB (seqR (seqL (seqR (seqR (seqR (seqR c38)))))))))))))))))))))) := by
  refine loop_ok (kp := keep38) (hb := Eq.mpr (r38_L4_lk call fuel base) (And.intro (And.intro trivial (And.intro trivial trivial)) (And.intro (And.intro (And.intro trivial (And.intro trivial trivial)) (And.intro trivial (And.intro trivial (And.intro (And.intro trivial (And.intro (And.intro (And.intro trivial (And.intro trivial trivial)) trivial) trivial)) (And.intro (And.intro trivial (And.intro trivial trivial)) (And.intro trivial (And.intro trivial trivial))))))) trivial))) 155 [0, 3, 4, 5, 6, 7, 8, 9] (fun n vs m K => r38_L4_R call fuel base n vs m K) ?_ ?_ (fun _ _ _ => rfl)
  · intro vs m K
    unfold r38_L4_R
    split <;> rfl
  · intro n vs m K hl
    match vs, hl with
    | [x0, x3, x4, x5, x6, x7, x8, x9], _ => show _ = _; kernel_rfl
theorem r38_L2_lk (call : CallF) (fuel base : Nat) : LoopsOk E call (lp38 call fuel base) fuel base 2 (loopB (blockB (seqR (blockB (seqL (seqR (loopB (blockB (seqR (seqL (seqR (seqR (seqR (seqR c38)))))))))))))) = (And (And True (And True True)) (And (And True (And (And True (LpOk E call (lp38 call fuel base) fuel base 4 (loopB (blockB (seqR (seqL (seqR (blockB (seqL (seqR (loopB (blockB (seqR (blockB (seqL (seqR (loopB (blockB (seqR (seqL (seqR (seqR (seqR (seqR c38)))))))))))))))))))))))) True)) True)) := by kernel_rfl
theorem r38_L2_ok (call : CallF) (fuel base : Nat) : LpOk E call (lp38 call fuel base) fuel base 2 (loopB (blockB (seqR (blockB (seqL (seqR (loopB (blockB (seqR (seqL (seqR (seqR (seqR (seqR c38)))))))))))))) := by
  refine loop_ok (kp := keep38) (hb := Eq.mpr (r38_L2_lk call fuel base) (And.intro (And.intro trivial (And.intro trivial trivial)) (And.intro (And.intro trivial (And.intro (And.intro trivial (r38_L4_ok call fuel base)) trivial)) trivial))) 155 [0, 3, 4, 5, 6, 7] (fun n vs m K => r38_L2_R call fuel base n vs m K) ?_ ?_ (fun _ _ _ => rfl)
  · intro vs m K
    unfold r38_L2_R
    split <;> rfl
  · intro n vs m K hl
    match vs, hl with
    | [x0, x3, x4, x5, x6, x7], _ => show _ = _; kernel_rfl
theorem r38_L0_lk (call : CallF) (fuel base : Nat) : LoopsOk E call (lp38 call fuel base) fuel base 0 (loopB (blockB (seqR (seqL (seqR (seqR (seqR (seqR c38)))))))) = (And (And True (And True True)) (And (And True (LpOk E call (lp38 call fuel base) fuel base 2 (loopB (blockB (seqR (blockB (seqL (seqR (loopB (blockB (seqR (seqL (seqR (seqR (seqR (seqR c38)))))))))))))))) True)) := by kernel_rfl
theorem r38_L0_ok (call : CallF) (fuel base : Nat) : LpOk E call (lp38 call fuel base) fuel base 0 (loopB (blockB (seqR (seqL (seqR (seqR (seqR (seqR c38)))))))) := by
  refine loop_ok (kp := keep38) (hb := Eq.mpr (r38_L0_lk call fuel base) (And.intro (And.intro trivial (And.intro trivial trivial)) (And.intro (And.intro trivial (r38_L2_ok call fuel base)) trivial))) 155 [0, 3, 4, 5, 6] (fun n vs m K => r38_L0_R call fuel base n vs m K) ?_ ?_ (fun _ _ _ => rfl)
  · intro vs m K
    unfold r38_L0_R
    split <;> rfl
  · intro n vs m K hl
    match vs, hl with
    | [x0, x3, x4, x5, x6], _ => show _ = _; kernel_rfl
theorem r38_eq (call : CallF) (fuel base : Nat) (x0 : Value) (m : M) : kbody E call keep38 (lp38 call fuel base) base Tryd.f38 [x0] m = r38 call fuel base x0 m := by
  kernel_rfl
noncomputable def rf38 : RF := fun call fuel base args m => match args with
  | [x0] => r38 call fuel base x0 m
  | _ => none
theorem r38_lk (call : CallF) (fuel base : Nat) : LoopsOk E call (lp38 call fuel base) fuel base 0 c38 = (And True (And True (And True (And True (And (And True (LpOk E call (lp38 call fuel base) fuel base 0 (loopB (blockB (seqR (seqL (seqR (seqR (seqR (seqR c38)))))))))) (And True True)))))) := by kernel_rfl
theorem r38_fn : E.P.funcs[38]? = some Tryd.f38 := by kernel_rfl
theorem r38_body : Tryd.f38.body = some c38 := by kernel_rfl
theorem rf38_ok : RFok E 38 rf38 := by
  refine ⟨Tryd.f38, r38_fn, fun call fuel base args m r _ h => ?_⟩
  unfold rf38 at h
  split at h
  · rw [← r38_eq] at h
    exact kbody_sound (c := c38) r38_body (Eq.mpr (r38_lk call fuel base) (And.intro trivial (And.intro trivial (And.intro trivial (And.intro trivial (And.intro (And.intro trivial (r38_L0_ok call fuel base)) (And.intro trivial trivial))))))) h
  · simp at h
end Go.AM
namespace Go.AM
open Go Go.Proofs
noncomputable def r39 (call : CallF) (fuel base : Nat) (x0 : Value) (x1 : Value) (m : M) : Res2 :=
  (k2 (xbox m x1) fun v3_1 m => (k1 (xload E.P m 31 v3_1) fun v6_2 => (kc (call base 68 [v6_2] m) (fun v7_3 m => (k2 (xalloc E.P m 68) fun v5_4 m => (ks (xstore E.P base m 68 v5_4 v7_3) fun m => (k1 (mfieldAddr E.P 31 v3_1 1) fun v8_5 => (k1 (xload E.P m 3 v8_5) fun v9_6 => (k2 (vcall E.P base m .len [51] [x0]) fun v11_7 m => (k1 (mbin E .lss 3 v9_6 v11_7) fun v12_8 => (kb v12_8 (k1 (mfieldAddr E.P 68 v5_4 1) fun v14_9 => (k1 (xload E.P m 3 v14_9) fun v15_10 => (k2 (vcall E.P base m .len [51] [x0]) fun v17_11 m => (k1 (mbin E .lss 3 v15_10 v17_11) fun v18_12 => (kb v18_12 (k1 (mfieldAddr E.P 31 v3_1 0) fun v21_13 => (k1 (xload E.P m 3 v21_13) fun v22_14 => (k1 (mindexAddr E.P 51 x0 (.int .i64 0)) fun v24_15 => (k1 (xload E.P m 54 v24_15) fun v25_16 => (k2 (vcall E.P base m .len [54] [v25_16]) fun v26_17 m => (k1 (mbin E .lss 3 v22_14 v26_17) fun v27_18 => (kb v27_18 (k1 (mfieldAddr E.P 68 v5_4 0) fun v30_19 => (k1 (xload E.P m 3 v30_19) fun v31_20 => (k1 (mindexAddr E.P 51 x0 (.int .i64 0)) fun v33_21 => (k1 (xload E.P m 54 v33_21) fun v34_22 => (k2 (vcall E.P base m .len [54] [v34_22]) fun v35_23 m => (k1 (mbin E .lss 3 v31_20 v35_23) fun v36_24 => (kb v36_24 (k1 (mfieldAddr E.P 31 v3_1 1) fun v40_25 => (k1 (xload E.P m 3 v40_25) fun v41_26 => (k1 (mindexAddr E.P 51 x0 v41_26) fun v42_27 => (k1 (xload E.P m 54 v42_27) fun v43_28 => (k1 (mfieldAddr E.P 31 v3_1 0) fun v44_29 => (k1 (xload E.P m 3 v44_29) fun v45_30 => (k1 (mindexAddr E.P 54 v43_28 v45_30) fun v46_31 => (k1 (xload E.P m 4 v46_31) fun v47_32 => (kb v47_32 (k1 (mfieldAddr E.P 68 v5_4 1) fun v51_33 => (k1 (xload E.P m 3 v51_33) fun v52_34 => (k1 (mindexAddr E.P 51 x0 v52_34) fun v53_35 => (k1 (xload E.P m 54 v53_35) fun v54_36 => (k1 (mfieldAddr E.P 68 v5_4 0) fun v55_37 => (k1 (xload E.P m 3 v55_37) fun v56_38 => (k1 (mindexAddr E.P 54 v54_36 v56_38) fun v57_39 => (k1 (xload E.P m 4 v57_39) fun v58_40 => (fVal v58_40 fun v => some (.ret v, m)))))))))) (fVal (.bool false) fun v => some (.ret v, m))))))))))) (fVal (.bool false) fun v => some (.ret v, m))))))))) (fVal (.bool false) fun v => some (.ret v, m))))))))) (fVal (.bool false) fun v => some (.ret v, m))))))) (fVal (.bool false) fun v => some (.ret v, m)))))))))) (fun v m => some (.pan v, m)))))
def keep39 : Keep := { region := fun i => ([[0, 3], [0, 3, 5], [4]] : List (List Nat))[i]?, exit := fun i => ([] : List (List Nat))[i]?, ret := some [4] }
noncomputable def lp39 (call : CallF) (fuel base : Nat) : Lp := lpsel []
noncomputable def c39 : Code := Tryd.f39.body.getD .skip
theorem r39_eq (call : CallF) (fuel base : Nat) (x0 : Value) (x1 : Value) (m : M) : kbody E call keep39 (lp39 call fuel base) base Tryd.f39 [x0, x1] m = r39 call fuel base x0 x1 m := by
  kernel_rfl
noncomputable def rf39 : RF := fun call fuel base args m => match args with
  | [x0, x1] => r39 call fuel base x0 x1 m
  | _ => none
theorem r39_lk (call : CallF) (fuel base : Nat) : LoopsOk E call (lp39 call fuel base) fuel base 0 c39 = (And True (And True (And True True))) := by kernel_rfl
theorem r39_fn : E.P.funcs[39]? = some Tryd.f39 := by kernel_rfl
theorem r39_body : Tryd.f39.body = some c39 := by kernel_rfl
theorem rf39_ok : RFok E 39 rf39 := by
  refine ⟨Tryd.f39, r39_fn, fun call fuel base args m r _ h => ?_⟩
  unfold rf39 at h
  split at h
  · rw [← r39_eq] at h
    exact kbody_sound (c := c39) r39_body (Eq.mpr (r39_lk call fuel base) (And.intro trivial (And.intro trivial (And.intro trivial trivial)))) h
  · simp at h
end Go.AM
namespace Go.AM
open Go Go.Proofs
noncomputable def r40_L0 (call : CallF) (fuel base : Nat) (kx0 : Value → Value → M → Res2) (n : Nat) : Value → Value → Value → Value → M → Res2 :=
  Nat.rec (motive := fun _ => Value → Value → Value → Value → M → Res2) (fun _ _ _ _ _ => none)
    (fun _ ih x0 x3 x5 x6 m =>
      (k2 (vcall E.P base m .len [51] [x0]) fun v11_2 m => (k1 (mbin E .lss 3 x6 v11_2) fun v12_3 => (kb v12_3 (k1 (mindexAddr E.P 51 x0 x6) fun v19_4 => (k1 (xload E.P m 54 v19_4) fun v20_5 => (k2 (vcall E.P base m .append [54, 54] [(.slice none 0 0), v20_5]) fun v21_6 m => (k2 (xbuildSlice E.P m 51 1 [(0, v21_6)]) fun v22_7 m => (k2 (vcall E.P base m .append [51, 51] [x5, v22_7]) fun v23_8 m => (k1 (mbin E .add 3 x6 (.int .i64 1)) fun v14_9 => (ih x0 x3 v23_8 v14_9 m))))))) (kx0 x3 x5 m))))) n
noncomputable def r40 (call : CallF) (fuel base : Nat) (x0 : Value) (x1 : Value) (m : M) : Res2 :=
  (k2 (xbox m x1) fun v3_1 m => (r40_L0 call fuel base (fun y3_10 y5_11 m => (k1 (xload E.P m 31 y3_10) fun v24_12 => (kc (call base 68 [v24_12] m) (fun v25_13 m => (k2 (xalloc E.P m 68) fun v8_14 m => (ks (xstore E.P base m 68 v8_14 v25_13) fun m => (k1 (mfieldAddr E.P 31 y3_10 1) fun v27_15 => (k1 (xload E.P m 3 v27_15) fun v28_16 => (k1 (mindexAddr E.P 51 y5_11 v28_16) fun v29_17 => (k1 (xload E.P m 54 v29_17) fun v30_18 => (k1 (mfieldAddr E.P 31 y3_10 0) fun v31_19 => (k1 (xload E.P m 3 v31_19) fun v32_20 => (k1 (mindexAddr E.P 54 v30_18 v32_20) fun v33_21 => (ks (xstore E.P base m 4 v33_21 (.bool false)) fun m => (k1 (mfieldAddr E.P 68 v8_14 1) fun v35_22 => (k1 (xload E.P m 3 v35_22) fun v36_23 => (k1 (mindexAddr E.P 51 y5_11 v36_23) fun v37_24 => (k1 (xload E.P m 54 v37_24) fun v38_25 => (k1 (mfieldAddr E.P 68 v8_14 0) fun v39_26 => (k1 (xload E.P m 3 v39_26) fun v40_27 => (k1 (mindexAddr E.P 54 v38_25 v40_27) fun v41_28 => (ks (xstore E.P base m 4 v41_28 (.bool false)) fun m => (fVal y5_11 fun v => some (.ret v, m))))))))))))))))))))) (fun v m => some (.pan v, m))))) fuel x0 v3_1 (.slice none 0 0) (.int .i64 0) m))
def keep40 : Keep := { region := fun i => ([[0, 3], [0, 3, 5], [0, 3, 5, 6], [0, 3, 5, 6, 12], [0, 3, 5, 6], [0, 3, 5, 6, 7], [0, 3, 5, 6], [3, 5, 8], [5, 8], [5], [4]] : List (List Nat))[i]?, exit := fun i => ([[3, 5], [0, 3, 5, 6]] : List (List Nat))[i]?, ret := some [4] }
noncomputable def r40_L0_R (call : CallF) (fuel base n : Nat) (vs : List Value) (m : M) (K : KT) : Res2 := match vs with
  | [x0, x3, x5, x6] => r40_L0 call fuel base (fun y3 y5 m => K (.exit 0) { n := 43, l := [(3, y3), (5, y5)] } m) n x0 x3 x5 x6 m
  | _ => none
noncomputable def lp40 (call : CallF) (fuel base : Nat) : Lp := lpsel [(0, fun T m K => kslots 43 [0, 3, 5, 6] T fun vs => r40_L0_R call fuel base fuel vs m K)]
noncomputable def c40 : Code := Tryd.f40.body.getD .skip
theorem r40_L0_lk (call : CallF) (fuel base : Nat) : LoopsOk E call (lp40 call fuel base) fuel base 0 (loopB (blockB (seqR (seqL (seqR (seqR c40)))))) = (And (And True (And True True)) (And (And True True) True)) := by kernel_rfl
theorem r40_L0_ok (call : CallF) (fuel base : Nat) : LpOk E call (lp40 call fuel base) fuel base 0 (loopB (blockB (seqR (seqL (seqR (seqR c40)))))) := by
  refine loop_ok (kp := keep40) (hb := Eq.mpr (r40_L0_lk call fuel base) (And.intro (And.intro trivial (And.intro trivial trivial)) (And.intro (And.intro trivial trivial) trivial))) 43 [0, 3, 5, 6] (fun n vs m K => r40_L0_R call fuel base n vs m K) ?_ ?_ (fun _ _ _ => rfl)
  · intro vs m K
    unfold r40_L0_R
    split <;> rfl
  · intro n vs m K hl
    match vs, hl with
    | [x0, x3, x5, x6], _ => show _ = _; kernel_rfl
theorem r40_eq (call : CallF) (fuel base : Nat) (x0 : Value) (x1 : Value) (m : M) : kbody E call keep40 (lp40 call fuel base) base Tryd.f40 [x0, x1] m = r40 call fuel base x0 x1 m := by
  kernel_rfl
noncomputable def rf40 : RF := fun call fuel base args m => match args with
  | [x0, x1] => r40 call fuel base x0 x1 m
  | _ => none
theorem r40_lk (call : CallF) (fuel base : Nat) : LoopsOk E call (lp40 call fuel base) fuel base 0 c40 = (And True (And True (And (And True (LpOk E call (lp40 call fuel base) fuel base 0 (loopB (blockB (seqR (seqL (seqR (seqR c40)))))))) (And True (And True (And True (And True True))))))) := by kernel_rfl
theorem r40_fn : E.P.funcs[40]? = some Tryd.f40 := by kernel_rfl
theorem r40_body : Tryd.f40.body = some c40 := by kernel_rfl
theorem rf40_ok : RFok E 40 rf40 := by
  refine ⟨Tryd.f40, r40_fn, fun call fuel base args m r _ h => ?_⟩
  unfold rf40 at h
  split at h
  · rw [← r40_eq] at h
    exact kbody_sound (c := c40) r40_body (Eq.mpr (r40_lk call fuel base) (And.intro trivial (And.intro trivial (And.intro (And.intro trivial (r40_L0_ok call fuel base)) (And.intro trivial (And.intro trivial (And.intro trivial (And.intro trivial trivial)))))))) h
  · simp at h
end Go.AM
