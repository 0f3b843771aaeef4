import Derived.KernelRfl
import Derived.Laws.BytesArg
import Derived.Laws.StructEq
import Derived.Test.YtnmdpolgbdkffaaDoorRows
import Derived.WalkKit
import Derived.Test.YtnmdpolgbdkffaaDoorAmB
import Derived.Test.YtnmdpolgbdkffaaDoorAmModel
import Derived.Test.YtnmdpolgbdkffaaDoorAmOps6
import Derived.Test.YtnmdpolgbdkffaaDoorAmCode
import Derived.Test.YtnmdpolgbdkffaaDoorAmK2
import Derived.Test.YtnmdpolgbdkffaaDoorAmEq
import Derived.Test.YtnmdpolgbdkffaaDoorRBase
set_option linter.unusedVariables false
set_option linter.unusedSimpArgs false
set_option linter.unusedSectionVars false
namespace Go.AM
open Go Go.Proofs
noncomputable def r81_L0 (call : CallF) (fuel base : Nat) (kr : Value → M → Res2) (kx0 : M → Res2) (n : Nat) : Value → Value → Value → M → Res2 :=
  Nat.rec (motive := fun _ => Value → Value → Value → M → Res2) (fun _ _ _ _ => none)
    (fun _ ih x1 x7 x8 m =>
      (k1 (mbin E .lss 3 x8 (.int .i64 8)) fun v9_5 => (kb v9_5 (k1 (mindex E.P 92 x7 x8) fun v11_6 => (k2 (xalloc E.P m 50) fun v4_7 m => (ks (xstore E.P base m 50 v4_7 v11_6) fun m => (k1 (xload E.P m 50 x1) fun v12_8 => (k1 (xload E.P m 50 v4_7) fun v13_9 => (k1 (mbin E .eql 50 v12_8 v13_9) fun v14_10 => (kb v14_10 (kr x8 m) (k1 (mbin E .add 3 x8 (.int .i64 1)) fun v16_11 => (ih x1 x7 v16_11 m))))))))) (kx0 m)))) n
noncomputable def r81 (call : CallF) (fuel base : Nat) (x0 : Value) (m : M) : Res2 :=
  (k2 (xbox m x0) fun v1_1 m => (k1 (mfieldAddr E.P 50 v1_1 4) fun v5_2 => (ks (xstore E.P base m 3 v5_2 (.int .i64 0)) fun m => (k1 (mfieldAddr E.P 50 v1_1 5) fun v6_3 => (ks (xstore E.P base m 3 v6_3 (.int .i64 0)) fun m => (k1 (xload E.P m 92 (.pointer (some ⟨0, 0, some 0⟩))) fun v7_4 => (r81_L0 call fuel base (fun y2_12 m => (fVal y2_12 fun v => some (.ret v, m))) (fun m => (fVal (.int .i64 (-1)) fun v => some (.ret v, m))) fuel v1_1 v7_4 (.int .i64 0) m)))))))
def keep81 : Keep := { region := fun i => ([[1], [1], [1, 7, 8], [1, 7, 8, 9], [1, 3, 4, 7, 8], [1, 3, 7, 8, 14], [2], [1, 7, 8], [2]] : List (List Nat))[i]?, exit := fun i => ([[], [1, 7, 8]] : List (List Nat))[i]?, ret := some [2] }
noncomputable def r81_L0_R (call : CallF) (fuel base n : Nat) (vs : List Value) (m : M) (K : KT) : Res2 := match vs with
  | [x1, x7, x8] => r81_L0 call fuel base (fun y2 m => K .ret { n := 17, l := [(2, y2)] } m) (fun m => K (.exit 0) { n := 17, l := [] } m) n x1 x7 x8 m
  | _ => none
noncomputable def lp81 (call : CallF) (fuel base : Nat) : Lp := lpsel [(0, fun T m K => kslots 17 [1, 7, 8] T fun vs => r81_L0_R call fuel base fuel vs m K)]
noncomputable def c81 : Code := Tryd.f81.body.getD .skip
theorem r81_L0_lk (call : CallF) (fuel base : Nat) : LoopsOk E call (lp81 call fuel base) fuel base 0 (loopB (blockB (seqR (seqL (seqR (seqR c81)))))) = (And True (And (And True True) (And (And True (And True (And (And True True) True))) True))) := by kernel_rfl
theorem r81_L0_ok (call : CallF) (fuel base : Nat) : LpOk E call (lp81 call fuel base) fuel base 0 (loopB (blockB (seqR (seqL (seqR (seqR c81)))))) := by
  refine loop_ok (kp := keep81) (hb := Eq.mpr (r81_L0_lk call fuel base) (And.intro trivial (And.intro (And.intro trivial trivial) (And.intro (And.intro trivial (And.intro trivial (And.intro (And.intro trivial trivial) trivial))) trivial)))) 17 [1, 7, 8] (fun n vs m K => r81_L0_R call fuel base n vs m K) ?_ ?_ (fun _ _ _ => rfl)
  · intro vs m K
    unfold r81_L0_R
    split <;> rfl
  · intro n vs m K hl
    match vs, hl with
    | [x1, x7, x8], _ => show _ = _; kernel_rfl
theorem r81_eq (call : CallF) (fuel base : Nat) (x0 : Value) (m : M) : kbody E call keep81 (lp81 call fuel base) base Tryd.f81 [x0] m = r81 call fuel base x0 m := by
  kernel_rfl
noncomputable def rf81 : RF := fun call fuel base args m => match args with
  | [x0] => r81 call fuel base x0 m
  | _ => none
theorem r81_lk (call : CallF) (fuel base : Nat) : LoopsOk E call (lp81 call fuel base) fuel base 0 c81 = (And True (And True (And (And True (LpOk E call (lp81 call fuel base) fuel base 0 (loopB (blockB (seqR (seqL (seqR (seqR c81)))))))) (And True True)))) := by kernel_rfl
theorem r81_fn : E.P.funcs[81]? = some Tryd.f81 := by kernel_rfl
theorem r81_body : Tryd.f81.body = some c81 := by kernel_rfl
theorem rf81_ok : RFok E 81 rf81 := by
  refine ⟨Tryd.f81, r81_fn, fun call fuel base args m r _ h => ?_⟩
  unfold rf81 at h
  split at h
  · rw [← r81_eq] at h
    exact kbody_sound (c := c81) r81_body (Eq.mpr (r81_lk call fuel base) (And.intro trivial (And.intro trivial (And.intro (And.intro trivial (r81_L0_ok call fuel base)) (And.intro trivial trivial))))) h
  · simp at h
end Go.AM
namespace Go.AM
open Go Go.Proofs
noncomputable def r85 (call : CallF) (fuel base : Nat) (x0 : Value) (x1 : Value) (m : M) : Res2 :=
  (k2 (xbox m x1) fun v3_1 m => (k1 (mfieldAddr E.P 103 v3_1 1) fun v7_2 => (k1 (xload E.P m 3 v7_2) fun v8_3 => (k2 (vcall E.P base m .len [66] [x0]) fun v10_4 m => (kc (call base 101 [v8_3, v10_4] m) (fun v11_5 m => (k1 (mindexAddr E.P 66 x0 v11_5) fun v12_6 => (k1 (xload E.P m 9 v12_6) fun v13_7 => (k1 (mfieldAddr E.P 103 v3_1 0) fun v15_8 => (k1 (xload E.P m 3 v15_8) fun v16_9 => (k2 (vcall E.P base m .len [9] [v13_7]) fun v18_10 m => (kc (call base 101 [v16_9, v18_10] m) (fun v19_11 m => (k1 (mindex E.P 9 v13_7 v19_11) fun v20_12 => (fVal v20_12 fun v => some (.ret v, m)))) (fun v m => some (.pan v, m))))))))) (fun v m => some (.pan v, m)))))))
def keep85 : Keep := { region := fun i => ([[0, 3], [3, 5], [4]] : List (List Nat))[i]?, exit := fun i => ([] : List (List Nat))[i]?, ret := some [4] }
noncomputable def lp85 (call : CallF) (fuel base : Nat) : Lp := lpsel []
noncomputable def c85 : Code := Tryd.f85.body.getD .skip
theorem r85_eq (call : CallF) (fuel base : Nat) (x0 : Value) (x1 : Value) (m : M) : kbody E call keep85 (lp85 call fuel base) base Tryd.f85 [x0, x1] m = r85 call fuel base x0 x1 m := by
  kernel_rfl
noncomputable def rf85 : RF := fun call fuel base args m => match args with
  | [x0, x1] => r85 call fuel base x0 x1 m
  | _ => none
theorem r85_lk (call : CallF) (fuel base : Nat) : LoopsOk E call (lp85 call fuel base) fuel base 0 c85 = (And True (And True (And True True))) := by kernel_rfl
theorem r85_fn : E.P.funcs[85]? = some Tryd.f85 := by kernel_rfl
theorem r85_body : Tryd.f85.body = some c85 := by kernel_rfl
theorem rf85_ok : RFok E 85 rf85 := by
  refine ⟨Tryd.f85, r85_fn, fun call fuel base args m r _ h => ?_⟩
  unfold rf85 at h
  split at h
  · rw [← r85_eq] at h
    exact kbody_sound (c := c85) r85_body (Eq.mpr (r85_lk call fuel base) (And.intro trivial (And.intro trivial (And.intro trivial trivial)))) h
  · simp at h
end Go.AM
namespace Go.AM
open Go Go.Proofs
noncomputable def r86 (call : CallF) (fuel base : Nat) (x0 : Value) (x1 : Value) (m : M) : Res2 :=
  (k2 (xbox m x0) fun v2_1 m => (k2 (xbox m x1) fun v3_2 m => (k2 (xalloc E.P m 103) fun v4_3 m => (k1 (mfieldAddr E.P 103 v3_2 0) fun v7_4 => (k1 (xload E.P m 3 v7_4) fun v8_5 => (k1 (mfieldAddr E.P 50 v2_1 4) fun v9_6 => (k1 (xload E.P m 3 v9_6) fun v10_7 => (k1 (mbin E .sub 3 v8_5 v10_7) fun v11_8 => (k1 (mfieldAddr E.P 103 v3_2 1) fun v12_9 => (k1 (xload E.P m 3 v12_9) fun v13_10 => (k1 (mfieldAddr E.P 50 v2_1 5) fun v14_11 => (k1 (xload E.P m 3 v14_11) fun v15_12 => (k1 (mbin E .sub 3 v13_10 v15_12) fun v16_13 => (k1 (mfieldAddr E.P 50 v2_1 0) fun v17_14 => (k1 (xload E.P m 3 v17_14) fun v18_15 => (k1 (mbin E .mul 3 v18_15 v11_8) fun v20_16 => (k1 (mfieldAddr E.P 50 v2_1 2) fun v21_17 => (k1 (xload E.P m 3 v21_17) fun v22_18 => (k1 (mbin E .mul 3 v22_18 v16_13) fun v24_19 => (k1 (mbin E .add 3 v20_16 v24_19) fun v25_20 => (k1 (mfieldAddr E.P 50 v2_1 1) fun v26_21 => (k1 (xload E.P m 3 v26_21) fun v27_22 => (k1 (mbin E .mul 3 v27_22 v11_8) fun v29_23 => (k1 (mfieldAddr E.P 50 v2_1 3) fun v30_24 => (k1 (xload E.P m 3 v30_24) fun v31_25 => (k1 (mbin E .mul 3 v31_25 v16_13) fun v33_26 => (k1 (mbin E .add 3 v29_23 v33_26) fun v34_27 => (k1 (mbuild E.P 103 [(0, v25_20), (1, v34_27)]) fun v35_28 => (ks (xstore E.P base m 103 v4_3 v35_28) fun m => (k0 (mload E.P m 103 v4_3) fun r_29 => (fVal r_29 fun v => some (.ret v, m))))))))))))))))))))))))))))))))
def keep86 : Keep := { region := fun i => ([[2, 3, 4], [2, 4, 5, 6], [4]] : List (List Nat))[i]?, exit := fun i => ([] : List (List Nat))[i]?, ret := some [4] }
noncomputable def lp86 (call : CallF) (fuel base : Nat) : Lp := lpsel []
noncomputable def c86 : Code := Tryd.f86.body.getD .skip
theorem r86_eq (call : CallF) (fuel base : Nat) (x0 : Value) (x1 : Value) (m : M) : kbody E call keep86 (lp86 call fuel base) base Tryd.f86 [x0, x1] m = r86 call fuel base x0 x1 m := by
  kernel_rfl
noncomputable def rf86 : RF := fun call fuel base args m => match args with
  | [x0, x1] => r86 call fuel base x0 x1 m
  | _ => none
theorem r86_lk (call : CallF) (fuel base : Nat) : LoopsOk E call (lp86 call fuel base) fuel base 0 c86 = (And True (And True (And True True))) := by kernel_rfl
theorem r86_fn : E.P.funcs[86]? = some Tryd.f86 := by kernel_rfl
theorem r86_body : Tryd.f86.body = some c86 := by kernel_rfl
theorem rf86_ok : RFok E 86 rf86 := by
  refine ⟨Tryd.f86, r86_fn, fun call fuel base args m r _ h => ?_⟩
  unfold rf86 at h
  split at h
  · rw [← r86_eq] at h
    exact kbody_sound (c := c86) r86_body (Eq.mpr (r86_lk call fuel base) (And.intro trivial (And.intro trivial (And.intro trivial trivial)))) h
  · simp at h
end Go.AM
namespace Go.AM
open Go Go.Proofs
noncomputable def r87_L0 (call : CallF) (fuel base : Nat) (kp : Value → M → Res2) (kr : Value → M → Res2) (kx0 : M → Res2) (n : Nat) : Value → Value → Value → Value → M → Res2 :=
  Nat.rec (motive := fun _ => Value → Value → Value → Value → M → Res2) (fun _ _ _ _ _ => none)
    (fun _ ih x0 x1 x7 x8 m =>
      (k1 (mbin E .lss 3 x8 x7) fun v9_2 => (kb v9_2 (k1 (mindexAddr E.P 30 x0 x8) fun v14_3 => (k1 (xload E.P m 50 v14_3) fun v15_4 => (kc (kv call base x1 [v15_4] m) (fun v16_5 m => (kb v16_5 (kr x8 m) (k1 (mbin E .add 3 x8 (.int .i64 1)) fun v18_6 => (ih x0 x1 x7 v18_6 m)))) (fun v m => kp v m)))) (kx0 m)))) n
noncomputable def r87 (call : CallF) (fuel base : Nat) (x0 : Value) (x1 : Value) (m : M) : Res2 :=
  (k2 (vcall E.P base m .len [30] [x0]) fun v7_1 m => (r87_L0 call fuel base (fun v m => some (.pan v, m)) (fun y4_7 m => (fVal y4_7 fun v => some (.ret v, m))) (fun m => (fVal (.int .i64 (-1)) fun v => some (.ret v, m))) fuel x0 x1 v7_1 (.int .i64 0) m))
def keep87 : Keep := { region := fun i => ([[0, 1], [0, 1, 7, 8], [0, 1, 7, 8, 9], [0, 1, 5, 7, 8], [0, 1, 5, 7, 8, 16], [4], [0, 1, 7, 8], [4]] : List (List Nat))[i]?, exit := fun i => ([[], [0, 1, 7, 8]] : List (List Nat))[i]?, ret := some [4] }
noncomputable def r87_L0_R (call : CallF) (fuel base n : Nat) (vs : List Value) (m : M) (K : KT) : Res2 := match vs with
  | [x0, x1, x7, x8] => r87_L0 call fuel base (fun v m => K (.pan v) { n := 19, l := [] } m) (fun y4 m => K .ret { n := 19, l := [(4, y4)] } m) (fun m => K (.exit 0) { n := 19, l := [] } m) n x0 x1 x7 x8 m
  | _ => none
noncomputable def lp87 (call : CallF) (fuel base : Nat) : Lp := lpsel [(0, fun T m K => kslots 19 [0, 1, 7, 8] T fun vs => r87_L0_R call fuel base fuel vs m K)]
noncomputable def c87 : Code := Tryd.f87.body.getD .skip
theorem r87_L0_lk (call : CallF) (fuel base : Nat) : LoopsOk E call (lp87 call fuel base) fuel base 0 (loopB (blockB (seqR (seqL (seqR c87))))) = (And True (And (And True True) (And (And True (And True (And (And True True) True))) True))) := by kernel_rfl
theorem r87_L0_ok (call : CallF) (fuel base : Nat) : LpOk E call (lp87 call fuel base) fuel base 0 (loopB (blockB (seqR (seqL (seqR c87))))) := by
  refine loop_ok (kp := keep87) (hb := Eq.mpr (r87_L0_lk call fuel base) (And.intro trivial (And.intro (And.intro trivial trivial) (And.intro (And.intro trivial (And.intro trivial (And.intro (And.intro trivial trivial) trivial))) trivial)))) 19 [0, 1, 7, 8] (fun n vs m K => r87_L0_R call fuel base n vs m K) ?_ ?_ (fun _ _ _ => rfl)
  · intro vs m K
    unfold r87_L0_R
    split <;> rfl
  · intro n vs m K hl
    match vs, hl with
    | [x0, x1, x7, x8], _ => show _ = _; kernel_rfl
theorem r87_eq (call : CallF) (fuel base : Nat) (x0 : Value) (x1 : Value) (m : M) : kbody E call keep87 (lp87 call fuel base) base Tryd.f87 [x0, x1] m = r87 call fuel base x0 x1 m := by
  kernel_rfl
noncomputable def rf87 : RF := fun call fuel base args m => match args with
  | [x0, x1] => r87 call fuel base x0 x1 m
  | _ => none
theorem r87_lk (call : CallF) (fuel base : Nat) : LoopsOk E call (lp87 call fuel base) fuel base 0 c87 = (And True (And (And True (LpOk E call (lp87 call fuel base) fuel base 0 (loopB (blockB (seqR (seqL (seqR c87))))))) (And True True))) := by kernel_rfl
theorem r87_fn : E.P.funcs[87]? = some Tryd.f87 := by kernel_rfl
theorem r87_body : Tryd.f87.body = some c87 := by kernel_rfl
theorem rf87_ok : RFok E 87 rf87 := by
  refine ⟨Tryd.f87, r87_fn, fun call fuel base args m r _ h => ?_⟩
  unfold rf87 at h
  split at h
  · rw [← r87_eq] at h
    exact kbody_sound (c := c87) r87_body (Eq.mpr (r87_lk call fuel base) (And.intro trivial (And.intro (And.intro trivial (r87_L0_ok call fuel base)) (And.intro trivial trivial)))) h
  · simp at h
end Go.AM
namespace Go.AM
open Go Go.Proofs
noncomputable def r88 (call : CallF) (fuel base : Nat) (x0 : Value) (x1 : Value) (m : M) : Res2 :=
  (k2 (xbox m x0) fun v2_1 m => (k1 (xload E.P m 50 v2_1) fun v4_2 => (kc (kB m (call m.length 81 [v4_2] m)) (fun v5_3 m => (k1 (xload E.P m 3 x1) fun v6_4 => (k1 (mbin E .eql 3 v5_3 v6_4) fun v7_5 => (fVal v7_5 fun v => some (.ret v, m))))) (fun _ _ => none))))
def keep88 : Keep := { region := fun i => ([[1, 2], [3]] : List (List Nat))[i]?, exit := fun i => ([] : List (List Nat))[i]?, ret := some [3] }
noncomputable def lp88 (call : CallF) (fuel base : Nat) : Lp := lpsel []
noncomputable def c88 : Code := Tryd.f88.body.getD .skip
theorem r88_eq (call : CallF) (fuel base : Nat) (x0 : Value) (x1 : Value) (m : M) : kbody E call keep88 (lp88 call fuel base) base Tryd.f88 [x0, x1] m = r88 call fuel base x0 x1 m := by
  kernel_rfl
noncomputable def rf88 : RF := fun call fuel base args m => match args with
  | [x0, x1] => r88 call fuel base x0 x1 m
  | _ => none
theorem r88_lk (call : CallF) (fuel base : Nat) : LoopsOk E call (lp88 call fuel base) fuel base 0 c88 = (And True (And True True)) := by kernel_rfl
theorem r88_fn : E.P.funcs[88]? = some Tryd.f88 := by kernel_rfl
theorem r88_body : Tryd.f88.body = some c88 := by kernel_rfl
theorem rf88_ok : RFok E 88 rf88 := by
  refine ⟨Tryd.f88, r88_fn, fun call fuel base args m r _ h => ?_⟩
  unfold rf88 at h
  split at h
  · rw [← r88_eq] at h
    exact kbody_sound (c := c88) r88_body (Eq.mpr (r88_lk call fuel base) (And.intro trivial (And.intro trivial trivial))) h
  · simp at h
end Go.AM
namespace Go.AM
open Go Go.Proofs
noncomputable def r89_L0 (call : CallF) (fuel base : Nat) (kp : Value → M → Res2) (kx0 : Value → M → Res2) (n : Nat) : Value → Value → Value → M → Res2 :=
  Nat.rec (motive := fun _ => Value → Value → Value → M → Res2) (fun _ _ _ _ => none)
    (fun _ ih x1 x3 x4 m =>
      (k1 (mbin E .lss 3 x4 (.int .i64 8)) fun v8_2 => (kb v8_2 (k1 (xload E.P m 70 x1) fun v12_3 => (kc (call base 67 [v12_3, x4] m) (fun v14_4 m => (k1 (mextract 0 v14_4) fun v15_5 => (k1 (mextract 1 v14_4) fun v16_6 => (k2 (xalloc E.P m 50) fun v5_7 m => (ks (xstore E.P base m 50 v5_7 v15_5) fun m => (kb v16_6 (k2 (xbuildSlice E.P m 37 1 [(0, x4)]) fun v20_8 m => (k2 (vcall E.P base m .append [37, 37] [x3, v20_8]) fun v21_9 m => (k1 (mbin E .add 3 x4 (.int .i64 1)) fun v10_10 => (ih x1 v21_9 v10_10 m)))) (k1 (mbin E .add 3 x4 (.int .i64 1)) fun v10_11 => (ih x1 x3 v10_11 m)))))))) (fun v m => kp v m))) (kx0 x3 m)))) n
noncomputable def r89 (call : CallF) (fuel base : Nat) (x0 : Value) (m : M) : Res2 :=
  (k2 (xbox m x0) fun v1_1 m => (r89_L0 call fuel base (fun v m => some (.pan v, m)) (fun y3_12 m => (fVal y3_12 fun v => some (.ret v, m))) fuel v1_1 (.slice none 0 0) (.int .i64 4) m))
def keep89 : Keep := { region := fun i => ([[1], [1, 3], [1, 3, 4], [1, 3, 4, 8], [1, 3, 4], [1, 3, 4, 6], [1, 3, 4, 17], [1, 3, 4], [2]] : List (List Nat))[i]?, exit := fun i => ([[3], [1, 3, 4]] : List (List Nat))[i]?, ret := some [2] }
noncomputable def r89_L0_R (call : CallF) (fuel base n : Nat) (vs : List Value) (m : M) (K : KT) : Res2 := match vs with
  | [x1, x3, x4] => r89_L0 call fuel base (fun v m => K (.pan v) { n := 23, l := [] } m) (fun y3 m => K (.exit 0) { n := 23, l := [(3, y3)] } m) n x1 x3 x4 m
  | _ => none
noncomputable def lp89 (call : CallF) (fuel base : Nat) : Lp := lpsel [(0, fun T m K => kslots 23 [1, 3, 4] T fun vs => r89_L0_R call fuel base fuel vs m K)]
noncomputable def c89 : Code := Tryd.f89.body.getD .skip
theorem r89_L0_lk (call : CallF) (fuel base : Nat) : LoopsOk E call (lp89 call fuel base) fuel base 0 (loopB (blockB (seqR (seqL (seqR (seqR c89)))))) = (And (And True (And True True)) (And (And True (And True (And True True))) True)) := by kernel_rfl
theorem r89_L0_ok (call : CallF) (fuel base : Nat) : LpOk E call (lp89 call fuel base) fuel base 0 (loopB (blockB (seqR (seqL (seqR (seqR c89)))))) := by
  refine loop_ok (kp := keep89) (hb := Eq.mpr (r89_L0_lk call fuel base) (And.intro (And.intro trivial (And.intro trivial trivial)) (And.intro (And.intro trivial (And.intro trivial (And.intro trivial trivial))) trivial))) 23 [1, 3, 4] (fun n vs m K => r89_L0_R call fuel base n vs m K) ?_ ?_ (fun _ _ _ => rfl)
  · intro vs m K
    unfold r89_L0_R
    split <;> rfl
  · intro n vs m K hl
    match vs, hl with
    | [x1, x3, x4], _ => show _ = _; kernel_rfl
theorem r89_eq (call : CallF) (fuel base : Nat) (x0 : Value) (m : M) : kbody E call keep89 (lp89 call fuel base) base Tryd.f89 [x0] m = r89 call fuel base x0 m := by
  kernel_rfl
noncomputable def rf89 : RF := fun call fuel base args m => match args with
  | [x0] => r89 call fuel base x0 m
  | _ => none
theorem r89_lk (call : CallF) (fuel base : Nat) : LoopsOk E call (lp89 call fuel base) fuel base 0 c89 = (And True (And True (And (And True (LpOk E call (lp89 call fuel base) fuel base 0 (loopB (blockB (seqR (seqL (seqR (seqR c89)))))))) (And True True)))) := by kernel_rfl
theorem r89_fn : E.P.funcs[89]? = some Tryd.f89 := by kernel_rfl
theorem r89_body : Tryd.f89.body = some c89 := by kernel_rfl
theorem rf89_ok : RFok E 89 rf89 := by
  refine ⟨Tryd.f89, r89_fn, fun call fuel base args m r _ h => ?_⟩
  unfold rf89 at h
  split at h
  · rw [← r89_eq] at h
    exact kbody_sound (c := c89) r89_body (Eq.mpr (r89_lk call fuel base) (And.intro trivial (And.intro trivial (And.intro (And.intro trivial (r89_L0_ok call fuel base)) (And.intro trivial trivial))))) h
  · simp at h
end Go.AM
namespace Go.AM
open Go Go.Proofs
noncomputable def r90 (call : CallF) (fuel base : Nat) (x0 : Value) (x1 : Value) (m : M) : Res2 :=
  (kc (call base 102 [x0, x1] m) (fun v7_1 m => (k1 (mbin E .geq 3 v7_1 (.int .i64 0)) fun v8_2 => (fVal v8_2 fun v => some (.ret v, m)))) (fun v m => some (.pan v, m)))
def keep90 : Keep := { region := fun i => ([[0, 1], [4]] : List (List Nat))[i]?, exit := fun i => ([] : List (List Nat))[i]?, ret := some [4] }
noncomputable def lp90 (call : CallF) (fuel base : Nat) : Lp := lpsel []
noncomputable def c90 : Code := Tryd.f90.body.getD .skip
theorem r90_eq (call : CallF) (fuel base : Nat) (x0 : Value) (x1 : Value) (m : M) : kbody E call keep90 (lp90 call fuel base) base Tryd.f90 [x0, x1] m = r90 call fuel base x0 x1 m := by
  kernel_rfl
noncomputable def rf90 : RF := fun call fuel base args m => match args with
  | [x0, x1] => r90 call fuel base x0 x1 m
  | _ => none
theorem r90_lk (call : CallF) (fuel base : Nat) : LoopsOk E call (lp90 call fuel base) fuel base 0 c90 = (And True (And True True)) := by kernel_rfl
theorem r90_fn : E.P.funcs[90]? = some Tryd.f90 := by kernel_rfl
theorem r90_body : Tryd.f90.body = some c90 := by kernel_rfl
theorem rf90_ok : RFok E 90 rf90 := by
  refine ⟨Tryd.f90, r90_fn, fun call fuel base args m r _ h => ?_⟩
  unfold rf90 at h
  split at h
  · rw [← r90_eq] at h
    exact kbody_sound (c := c90) r90_body (Eq.mpr (r90_lk call fuel base) (And.intro trivial (And.intro trivial trivial))) h
  · simp at h
end Go.AM
namespace Go.AM
open Go Go.Proofs
noncomputable def r91_L0 (call : CallF) (fuel base : Nat) (kx0 : Value → M → Res2) (n : Nat) : Value → Value → Value → Value → M → Res2 :=
  Nat.rec (motive := fun _ => Value → Value → Value → Value → M → Res2) (fun _ _ _ _ _ => none)
    (fun _ ih x8 x62 x63 x64 m =>
      (k1 (mbin E .lss 3 x64 x63) fun v65_52 => (kb v65_52 (k1 (mindexAddr E.P 115 x62 x64) fun v67_53 => (k1 (xload E.P m 103 v67_53) fun v68_54 => (k2 (xalloc E.P m 103) fun v10_55 m => (ks (xstore E.P base m 103 v10_55 v68_54) fun m => (k1 (mfieldAddr E.P 103 v10_55 0) fun v71_56 => (k1 (xload E.P m 3 v71_56) fun v72_57 => (k1 (mfieldAddr E.P 103 v10_55 1) fun v73_58 => (k1 (xload E.P m 3 v73_58) fun v74_59 => (k1 (mbin E .sub 3 v72_57 v74_59) fun v75_60 => (k1 (mfieldAddr E.P 103 v10_55 0) fun v76_61 => (k1 (xload E.P m 3 v76_61) fun v77_62 => (k1 (mfieldAddr E.P 103 v10_55 1) fun v78_63 => (k1 (xload E.P m 3 v78_63) fun v79_64 => (k1 (mbin E .add 3 v77_62 v79_64) fun v80_65 => (k1 (mbuild E.P 103 [(0, v75_60), (1, v80_65)]) fun v81_66 => (k1 (mindexAddr E.P 115 x8 x64) fun v82_67 => (ks (xstore E.P base m 103 v82_67 v81_66) fun m => (k1 (mbin E .add 3 x64 (.int .i64 1)) fun v83_68 => (ih x8 x62 x63 v83_68 m))))))))))))))))))) (kx0 x8 m)))) n
noncomputable def r91 (call : CallF) (fuel base : Nat) (x0 : Value) (x1 : Value) (m : M) : Res2 :=
  (k2 (xbox m x0) fun v2_1 m => (k1 (xload E.P m 70 v2_1) fun v12_2 => (kc (call base 67 [v12_2, x1] m) (fun v14_3 m => (k1 (mextract 0 v14_3) fun v15_4 => (k1 (mextract 1 v14_3) fun v16_5 => (k2 (xalloc E.P m 50) fun v5_6 m => (ks (xstore E.P base m 50 v5_6 v15_4) fun m => (k1 (mun .not v16_5) fun v18_7 => (kb v18_7 (fVal (.slice none 0 0) fun v => some (.ret v, m)) (k1 (mfieldAddr E.P 70 v2_1 0) fun v19_8 => (k1 (xload E.P m 26 v19_8) fun v20_9 => (k2 (xalloc E.P m 26) fun v7_10 m => (ks (xstore E.P base m 26 v7_10 v20_9) fun m => (k1 (mfieldAddr E.P 50 v5_6 4) fun v21_11 => (k1 (xload E.P m 3 v21_11) fun v22_12 => (k1 (mfieldAddr E.P 50 v5_6 5) fun v23_13 => (k1 (xload E.P m 3 v23_13) fun v24_14 => (k1 (mbuild E.P 103 [(0, v22_12), (1, v24_14)]) fun v25_15 => (k1 (mfieldAddr E.P 50 v5_6 4) fun v26_16 => (k1 (xload E.P m 3 v26_16) fun v27_17 => (k1 (mfieldAddr E.P 50 v5_6 5) fun v28_18 => (k1 (xload E.P m 3 v28_18) fun v29_19 => (k1 (mfieldAddr E.P 26 v7_10 2) fun v30_20 => (k1 (xload E.P m 3 v30_20) fun v31_21 => (k1 (mbin E .add 3 v29_19 v31_21) fun v32_22 => (k1 (mbuild E.P 103 [(0, v27_17), (1, v32_22)]) fun v33_23 => (k1 (mfieldAddr E.P 50 v5_6 4) fun v34_24 => (k1 (xload E.P m 3 v34_24) fun v35_25 => (k1 (mfieldAddr E.P 26 v7_10 0) fun v36_26 => (k1 (xload E.P m 3 v36_26) fun v37_27 => (k1 (mbin E .add 3 v35_25 v37_27) fun v38_28 => (k1 (mfieldAddr E.P 50 v5_6 5) fun v39_29 => (k1 (xload E.P m 3 v39_29) fun v40_30 => (k1 (mfieldAddr E.P 26 v7_10 1) fun v41_31 => (k1 (xload E.P m 3 v41_31) fun v42_32 => (k1 (mbin E .add 3 v40_30 v42_32) fun v43_33 => (k1 (mbuild E.P 103 [(0, v38_28), (1, v43_33)]) fun v44_34 => (k1 (mfieldAddr E.P 50 v5_6 4) fun v45_35 => (k1 (xload E.P m 3 v45_35) fun v46_36 => (k1 (mfieldAddr E.P 26 v7_10 0) fun v47_37 => (k1 (xload E.P m 3 v47_37) fun v48_38 => (k1 (mbin E .add 3 v46_36 v48_38) fun v49_39 => (k1 (mfieldAddr E.P 50 v5_6 5) fun v50_40 => (k1 (xload E.P m 3 v50_40) fun v51_41 => (k1 (mfieldAddr E.P 26 v7_10 1) fun v52_42 => (k1 (xload E.P m 3 v52_42) fun v53_43 => (k1 (mbin E .add 3 v51_41 v53_43) fun v54_44 => (k1 (mfieldAddr E.P 26 v7_10 2) fun v55_45 => (k1 (xload E.P m 3 v55_45) fun v56_46 => (k1 (mbin E .add 3 v54_44 v56_46) fun v57_47 => (k1 (mbuild E.P 103 [(0, v49_39), (1, v57_47)]) fun v58_48 => (k2 (xbuildSlice E.P m 115 4 [(0, v25_15), (1, v33_23), (2, v44_34), (3, v58_48)]) fun v59_49 m => (k1 (mbin E .eql 3 x1 (.int .i64 1)) fun v61_50 => (kb v61_50 (k2 (vcall E.P base m .len [115] [v59_49]) fun v63_51 m => (r91_L0 call fuel base (fun y8_69 m => (fVal y8_69 fun v => some (.ret v, m))) fuel v59_49 v59_49 v63_51 (.int .i64 0) m)) (fVal v59_49 fun v => some (.ret v, m)))))))))))))))))))))))))))))))))))))))))))))))))))))) (fun v m => some (.pan v, m)))))
def keep91 : Keep := { region := fun i => ([[1, 2], [1, 2, 5, 6], [1, 2, 5, 18], [4], [1, 5, 7], [1, 8], [8, 61], [8, 62, 63, 64], [8, 62, 63, 64, 65], [8, 9, 10, 62, 63, 64], [8, 62, 63, 64], [8, 62, 63, 64], [4]] : List (List Nat))[i]?, exit := fun i => ([[8], [8, 62, 63, 64]] : List (List Nat))[i]?, ret := some [4] }
noncomputable def r91_L0_R (call : CallF) (fuel base n : Nat) (vs : List Value) (m : M) (K : KT) : Res2 := match vs with
  | [x8, x62, x63, x64] => r91_L0 call fuel base (fun y8 m => K (.exit 0) { n := 85, l := [(8, y8)] } m) n x8 x62 x63 x64 m
  | _ => none
noncomputable def lp91 (call : CallF) (fuel base : Nat) : Lp := lpsel [(0, fun T m K => kslots 85 [8, 62, 63, 64] T fun vs => r91_L0_R call fuel base fuel vs m K)]
noncomputable def c91 : Code := Tryd.f91.body.getD .skip
theorem r91_L0_lk (call : CallF) (fuel base : Nat) : LoopsOk E call (lp91 call fuel base) fuel base 0 (loopB (blockB (seqR (condT (seqR (seqL (seqR (seqR (seqR (seqR (seqR c91))))))))))) = (And True (And (And True True) (And (And True True) True))) := by kernel_rfl
theorem r91_L0_ok (call : CallF) (fuel base : Nat) : LpOk E call (lp91 call fuel base) fuel base 0 (loopB (blockB (seqR (condT (seqR (seqL (seqR (seqR (seqR (seqR (seqR c91))))))))))) := by
  refine loop_ok (kp := keep91) (hb := Eq.mpr (r91_L0_lk call fuel base) (And.intro trivial (And.intro (And.intro trivial trivial) (And.intro (And.intro trivial trivial) trivial)))) 85 [8, 62, 63, 64] (fun n vs m K => r91_L0_R call fuel base n vs m K) ?_ ?_ (fun _ _ _ => rfl)
  · intro vs m K
    unfold r91_L0_R
    split <;> rfl
  · intro n vs m K hl
    match vs, hl with
    | [x8, x62, x63, x64], _ => show _ = _; kernel_rfl
theorem r91_eq (call : CallF) (fuel base : Nat) (x0 : Value) (x1 : Value) (m : M) : kbody E call keep91 (lp91 call fuel base) base Tryd.f91 [x0, x1] m = r91 call fuel base x0 x1 m := by
  kernel_rfl
noncomputable def rf91 : RF := fun call fuel base args m => match args with
  | [x0, x1] => r91 call fuel base x0 x1 m
  | _ => none
theorem r91_lk (call : CallF) (fuel base : Nat) : LoopsOk E call (lp91 call fuel base) fuel base 0 c91 = (And True (And True (And (And True (And (And True True) True)) (And True (And True (And (And True (And (And True (LpOk E call (lp91 call fuel base) fuel base 0 (loopB (blockB (seqR (condT (seqR (seqL (seqR (seqR (seqR (seqR (seqR c91))))))))))))) True)) (And True True))))))) := by kernel_rfl
theorem r91_fn : E.P.funcs[91]? = some Tryd.f91 := by kernel_rfl
theorem r91_body : Tryd.f91.body = some c91 := by kernel_rfl
theorem rf91_ok : RFok E 91 rf91 := by
  refine ⟨Tryd.f91, r91_fn, fun call fuel base args m r _ h => ?_⟩
  unfold rf91 at h
  split at h
  · rw [← r91_eq] at h
    exact kbody_sound (c := c91) r91_body (Eq.mpr (r91_lk call fuel base) (And.intro trivial (And.intro trivial (And.intro (And.intro trivial (And.intro (And.intro trivial trivial) trivial)) (And.intro trivial (And.intro trivial (And.intro (And.intro trivial (And.intro (And.intro trivial (r91_L0_ok call fuel base)) trivial)) (And.intro trivial trivial)))))))) h
  · simp at h
end Go.AM
namespace Go.AM
open Go Go.Proofs
noncomputable def r92 (call : CallF) (fuel base : Nat) (x0 : Value) (x1 : Value) (m : M) : Res2 :=
  (k2 (xbox m x0) fun v2_1 m => (k2 (xbox m x1) fun v3_2 m => (k1 (xload E.P m 70 v2_1) fun v5_3 => (kc (call base 89 [v5_3] m) (fun v6_4 m => (kc (call base 103 [v6_4, (.func (.func 104) #[] #[v2_1, v3_2])] m) (fun v8_5 m => (fVal v8_5 fun v => some (.ret v, m))) (fun v m => some (.pan v, m)))) (fun v m => some (.pan v, m))))))
def keep92 : Keep := { region := fun i => ([[2, 3], [4]] : List (List Nat))[i]?, exit := fun i => ([] : List (List Nat))[i]?, ret := some [4] }
noncomputable def lp92 (call : CallF) (fuel base : Nat) : Lp := lpsel []
noncomputable def c92 : Code := Tryd.f92.body.getD .skip
theorem r92_eq (call : CallF) (fuel base : Nat) (x0 : Value) (x1 : Value) (m : M) : kbody E call keep92 (lp92 call fuel base) base Tryd.f92 [x0, x1] m = r92 call fuel base x0 x1 m := by
  kernel_rfl
noncomputable def rf92 : RF := fun call fuel base args m => match args with
  | [x0, x1] => r92 call fuel base x0 x1 m
  | _ => none
theorem r92_lk (call : CallF) (fuel base : Nat) : LoopsOk E call (lp92 call fuel base) fuel base 0 c92 = (And True (And True True)) := by kernel_rfl
theorem r92_fn : E.P.funcs[92]? = some Tryd.f92 := by kernel_rfl
theorem r92_body : Tryd.f92.body = some c92 := by kernel_rfl
theorem rf92_ok : RFok E 92 rf92 := by
  refine ⟨Tryd.f92, r92_fn, fun call fuel base args m r _ h => ?_⟩
  unfold rf92 at h
  split at h
  · rw [← r92_eq] at h
    exact kbody_sound (c := c92) r92_body (Eq.mpr (r92_lk call fuel base) (And.intro trivial (And.intro trivial trivial))) h
  · simp at h
end Go.AM
namespace Go.AM
open Go Go.Proofs
noncomputable def r93_L0 (call : CallF) (fuel base : Nat) (kp : Value → M → Res2) (kx0 : Value → M → Res2) (n : Nat) : Value → Value → Value → Value → Value → M → Res2 :=
  Nat.rec (motive := fun _ => Value → Value → Value → Value → Value → M → Res2) (fun _ _ _ _ _ _ => none)
    (fun _ ih x1 x3 x7 x8 x9 m =>
      (k1 (mbin E .lss 3 x9 x8) fun v10_5 => (kb v10_5 (k1 (mindexAddr E.P 37 x7 x9) fun v11_6 => (k1 (xload E.P m 3 v11_6) fun v12_7 => (k2 (xalloc E.P m 3) fun v5_8 m => (ks (xstore E.P base m 3 v5_8 v12_7) fun m => (k1 (xload E.P m 70 x1) fun v13_9 => (k1 (xload E.P m 3 v5_8) fun v14_10 => (kc (call base 91 [v13_9, v14_10] m) (fun v15_11 m => (kc (call base 90 [v15_11, (.func (.func 106) #[] #[x1, v5_8])] m) (fun v17_12 m => (kb v17_12 (k1 (mbin E .add 3 x3 (.int .i64 1)) fun v19_13 => (k1 (mbin E .add 3 x9 (.int .i64 1)) fun v20_14 => (ih x1 v19_13 x7 x8 v20_14 m))) (k1 (mbin E .add 3 x9 (.int .i64 1)) fun v20_15 => (ih x1 x3 x7 x8 v20_15 m)))) (fun v m => kp v m))) (fun v m => kp v m)))))))) (kx0 x3 m)))) n
noncomputable def r93 (call : CallF) (fuel base : Nat) (x0 : Value) (m : M) : Res2 :=
  (k2 (xbox m x0) fun v1_1 m => (k1 (xload E.P m 70 v1_1) fun v6_2 => (kc (call base 89 [v6_2] m) (fun v7_3 m => (k2 (vcall E.P base m .len [37] [v7_3]) fun v8_4 m => (r93_L0 call fuel base (fun v m => some (.pan v, m)) (fun y3_16 m => (fVal y3_16 fun v => some (.ret v, m))) fuel v1_1 (.int .i64 0) v7_3 v8_4 (.int .i64 0) m))) (fun v m => some (.pan v, m)))))
def keep93 : Keep := { region := fun i => ([[1], [1, 3], [1, 3, 7, 8, 9], [1, 3, 7, 8, 9, 10], [1, 3, 5, 7, 8, 9], [1, 3, 7, 8, 9, 17], [1, 3, 7, 8, 9], [1, 3, 7, 8, 9], [2]] : List (List Nat))[i]?, exit := fun i => ([[3], [1, 3, 7, 8, 9]] : List (List Nat))[i]?, ret := some [2] }
noncomputable def r93_L0_R (call : CallF) (fuel base n : Nat) (vs : List Value) (m : M) (K : KT) : Res2 := match vs with
  | [x1, x3, x7, x8, x9] => r93_L0 call fuel base (fun v m => K (.pan v) { n := 22, l := [] } m) (fun y3 m => K (.exit 0) { n := 22, l := [(3, y3)] } m) n x1 x3 x7 x8 x9 m
  | _ => none
noncomputable def lp93 (call : CallF) (fuel base : Nat) : Lp := lpsel [(0, fun T m K => kslots 22 [1, 3, 7, 8, 9] T fun vs => r93_L0_R call fuel base fuel vs m K)]
noncomputable def c93 : Code := Tryd.f93.body.getD .skip
theorem r93_L0_lk (call : CallF) (fuel base : Nat) : LoopsOk E call (lp93 call fuel base) fuel base 0 (loopB (blockB (seqR (seqL (seqR (seqR c93)))))) = (And True (And (And True True) (And (And True (And True (And True True))) True))) := by kernel_rfl
theorem r93_L0_ok (call : CallF) (fuel base : Nat) : LpOk E call (lp93 call fuel base) fuel base 0 (loopB (blockB (seqR (seqL (seqR (seqR c93)))))) := by
  refine loop_ok (kp := keep93) (hb := Eq.mpr (r93_L0_lk call fuel base) (And.intro trivial (And.intro (And.intro trivial trivial) (And.intro (And.intro trivial (And.intro trivial (And.intro trivial trivial))) trivial)))) 22 [1, 3, 7, 8, 9] (fun n vs m K => r93_L0_R call fuel base n vs m K) ?_ ?_ (fun _ _ _ => rfl)
  · intro vs m K
    unfold r93_L0_R
    split <;> rfl
  · intro n vs m K hl
    match vs, hl with
    | [x1, x3, x7, x8, x9], _ => show _ = _; kernel_rfl
theorem r93_eq (call : CallF) (fuel base : Nat) (x0 : Value) (m : M) : kbody E call keep93 (lp93 call fuel base) base Tryd.f93 [x0] m = r93 call fuel base x0 m := by
  kernel_rfl
noncomputable def rf93 : RF := fun call fuel base args m => match args with
  | [x0] => r93 call fuel base x0 m
  | _ => none
theorem r93_lk (call : CallF) (fuel base : Nat) : LoopsOk E call (lp93 call fuel base) fuel base 0 c93 = (And True (And True (And (And True (LpOk E call (lp93 call fuel base) fuel base 0 (loopB (blockB (seqR (seqL (seqR (seqR c93)))))))) (And True True)))) := by kernel_rfl
theorem r93_fn : E.P.funcs[93]? = some Tryd.f93 := by kernel_rfl
theorem r93_body : Tryd.f93.body = some c93 := by kernel_rfl
theorem rf93_ok : RFok E 93 rf93 := by
  refine ⟨Tryd.f93, r93_fn, fun call fuel base args m r _ h => ?_⟩
  unfold rf93 at h
  split at h
  · rw [← r93_eq] at h
    exact kbody_sound (c := c93) r93_body (Eq.mpr (r93_lk call fuel base) (And.intro trivial (And.intro trivial (And.intro (And.intro trivial (r93_L0_ok call fuel base)) (And.intro trivial trivial))))) h
  · simp at h
end Go.AM
namespace Go.AM
open Go Go.Proofs
noncomputable def r94 (call : CallF) (fuel base : Nat) (x0 : Value) (x1 : Value) (m : M) : Res2 :=
  (k2 (xbox m x0) fun v2_1 m => (k2 (xbox m x1) fun v3_2 m => (k1 (xload E.P m 70 v2_1) fun v5_3 => (k1 (xload E.P m 103 v3_2) fun v6_4 => (kc (call base 92 [v5_3, v6_4] m) (fun v7_5 m => (k1 (mun .not v7_5) fun v8_6 => (fVal v8_6 fun v => some (.ret v, m)))) (fun v m => some (.pan v, m)))))))
def keep94 : Keep := { region := fun i => ([[2, 3], [4]] : List (List Nat))[i]?, exit := fun i => ([] : List (List Nat))[i]?, ret := some [4] }
noncomputable def lp94 (call : CallF) (fuel base : Nat) : Lp := lpsel []
noncomputable def c94 : Code := Tryd.f94.body.getD .skip
theorem r94_eq (call : CallF) (fuel base : Nat) (x0 : Value) (x1 : Value) (m : M) : kbody E call keep94 (lp94 call fuel base) base Tryd.f94 [x0, x1] m = r94 call fuel base x0 x1 m := by
  kernel_rfl
noncomputable def rf94 : RF := fun call fuel base args m => match args with
  | [x0, x1] => r94 call fuel base x0 x1 m
  | _ => none
theorem r94_lk (call : CallF) (fuel base : Nat) : LoopsOk E call (lp94 call fuel base) fuel base 0 c94 = (And True (And True True)) := by kernel_rfl
theorem r94_fn : E.P.funcs[94]? = some Tryd.f94 := by kernel_rfl
theorem r94_body : Tryd.f94.body = some c94 := by kernel_rfl
theorem rf94_ok : RFok E 94 rf94 := by
  refine ⟨Tryd.f94, r94_fn, fun call fuel base args m r _ h => ?_⟩
  unfold rf94 at h
  split at h
  · rw [← r94_eq] at h
    exact kbody_sound (c := c94) r94_body (Eq.mpr (r94_lk call fuel base) (And.intro trivial (And.intro trivial trivial))) h
  · simp at h
end Go.AM
namespace Go.AM
open Go Go.Proofs
noncomputable def r100 (call : CallF) (fuel base : Nat) (x0 : Value) (x1 : Value) (m : M) : Res2 :=
  (k2 (xbox m x0) fun v2_1 m => (k2 (xbox m x1) fun v3_2 m => (k2 (xalloc E.P m 103) fun v4_3 m => (k1 (mfieldAddr E.P 103 v3_2 0) fun v7_4 => (k1 (xload E.P m 3 v7_4) fun v8_5 => (k1 (mfieldAddr E.P 70 v2_1 0) fun v9_6 => (k1 (mfieldAddr E.P 26 v9_6 0) fun v10_7 => (k1 (xload E.P m 3 v10_7) fun v11_8 => (kc (call base 101 [v8_5, v11_8] m) (fun v12_9 m => (k1 (mfieldAddr E.P 103 v3_2 0) fun v13_10 => (k1 (xload E.P m 3 v13_10) fun v14_11 => (k1 (mbin E .sub 3 v14_11 v12_9) fun v16_12 => (k1 (mfieldAddr E.P 70 v2_1 0) fun v17_13 => (k1 (mfieldAddr E.P 26 v17_13 0) fun v18_14 => (k1 (xload E.P m 3 v18_14) fun v19_15 => (k1 (mbin E .quo 3 v16_12 v19_15) fun v20_16 => (k1 (mfieldAddr E.P 103 v3_2 1) fun v22_17 => (k1 (xload E.P m 3 v22_17) fun v23_18 => (k1 (mfieldAddr E.P 70 v2_1 0) fun v25_19 => (k1 (mfieldAddr E.P 26 v25_19 1) fun v26_20 => (k1 (xload E.P m 3 v26_20) fun v27_21 => (k1 (mbin E .mul 3 v20_16 v27_21) fun v28_22 => (k1 (mbin E .sub 3 v23_18 v28_22) fun v29_23 => (k1 (mfieldAddr E.P 70 v2_1 0) fun v30_24 => (k1 (mfieldAddr E.P 26 v30_24 2) fun v31_25 => (k1 (xload E.P m 3 v31_25) fun v32_26 => (kc (call base 101 [v29_23, v32_26] m) (fun v33_27 m => (k1 (mbuild E.P 103 [(0, v12_9), (1, v33_27)]) fun v34_28 => (ks (xstore E.P base m 103 v4_3 v34_28) fun m => (k0 (mload E.P m 103 v4_3) fun r_29 => (fVal r_29 fun v => some (.ret v, m)))))) (fun v m => some (.pan v, m))))))))))))))))))))) (fun v m => some (.pan v, m)))))))))))
def keep100 : Keep := { region := fun i => ([[2, 3, 4], [2, 3, 4, 5], [2, 3, 4, 5, 6], [4]] : List (List Nat))[i]?, exit := fun i => ([] : List (List Nat))[i]?, ret := some [4] }
noncomputable def lp100 (call : CallF) (fuel base : Nat) : Lp := lpsel []
noncomputable def c100 : Code := Tryd.f100.body.getD .skip
theorem r100_eq (call : CallF) (fuel base : Nat) (x0 : Value) (x1 : Value) (m : M) : kbody E call keep100 (lp100 call fuel base) base Tryd.f100 [x0, x1] m = r100 call fuel base x0 x1 m := by
  kernel_rfl
noncomputable def rf100 : RF := fun call fuel base args m => match args with
  | [x0, x1] => r100 call fuel base x0 x1 m
  | _ => none
theorem r100_lk (call : CallF) (fuel base : Nat) : LoopsOk E call (lp100 call fuel base) fuel base 0 c100 = (And True (And True (And True (And True True)))) := by kernel_rfl
theorem r100_fn : E.P.funcs[100]? = some Tryd.f100 := by kernel_rfl
theorem r100_body : Tryd.f100.body = some c100 := by kernel_rfl
theorem rf100_ok : RFok E 100 rf100 := by
  refine ⟨Tryd.f100, r100_fn, fun call fuel base args m r _ h => ?_⟩
  unfold rf100 at h
  split at h
  · rw [← r100_eq] at h
    exact kbody_sound (c := c100) r100_body (Eq.mpr (r100_lk call fuel base) (And.intro trivial (And.intro trivial (And.intro trivial (And.intro trivial trivial))))) h
  · simp at h
end Go.AM
namespace Go.AM
open Go Go.Proofs
noncomputable def r101 (call : CallF) (fuel base : Nat) (x0 : Value) (x1 : Value) (m : M) : Res2 :=
  (k1 (mbin E .rem 3 x0 x1) fun v7_1 => (k1 (mbin E .add 3 v7_1 x1) fun v9_2 => (k1 (mbin E .rem 3 v9_2 x1) fun v11_3 => (fVal v11_3 fun v => some (.ret v, m)))))
def keep101 : Keep := { region := fun i => ([[0, 1], [4]] : List (List Nat))[i]?, exit := fun i => ([] : List (List Nat))[i]?, ret := some [4] }
noncomputable def lp101 (call : CallF) (fuel base : Nat) : Lp := lpsel []
noncomputable def c101 : Code := Tryd.f101.body.getD .skip
theorem r101_eq (call : CallF) (fuel base : Nat) (x0 : Value) (x1 : Value) (m : M) : kbody E call keep101 (lp101 call fuel base) base Tryd.f101 [x0, x1] m = r101 call fuel base x0 x1 m := by
  kernel_rfl
noncomputable def rf101 : RF := fun call fuel base args m => match args with
  | [x0, x1] => r101 call fuel base x0 x1 m
  | _ => none
theorem r101_lk (call : CallF) (fuel base : Nat) : LoopsOk E call (lp101 call fuel base) fuel base 0 c101 = (And True (And True True)) := by kernel_rfl
theorem r101_fn : E.P.funcs[101]? = some Tryd.f101 := by kernel_rfl
theorem r101_body : Tryd.f101.body = some c101 := by kernel_rfl
theorem rf101_ok : RFok E 101 rf101 := by
  refine ⟨Tryd.f101, r101_fn, fun call fuel base args m r _ h => ?_⟩
  unfold rf101 at h
  split at h
  · rw [← r101_eq] at h
    exact kbody_sound (c := c101) r101_body (Eq.mpr (r101_lk call fuel base) (And.intro trivial (And.intro trivial trivial))) h
  · simp at h
end Go.AM
namespace Go.AM
open Go Go.Proofs
noncomputable def r102_L0 (call : CallF) (fuel base : Nat) (kp : Value → M → Res2) (kr : Value → M → Res2) (kx0 : M → Res2) (n : Nat) : Value → Value → Value → Value → M → Res2 :=
  Nat.rec (motive := fun _ => Value → Value → Value → Value → M → Res2) (fun _ _ _ _ _ => none)
    (fun _ ih x0 x1 x7 x8 m =>
      (k1 (mbin E .lss 3 x8 x7) fun v9_2 => (kb v9_2 (k1 (mindexAddr E.P 115 x0 x8) fun v14_3 => (k1 (xload E.P m 103 v14_3) fun v15_4 => (kc (kv call base x1 [v15_4] m) (fun v16_5 m => (kb v16_5 (kr x8 m) (k1 (mbin E .add 3 x8 (.int .i64 1)) fun v18_6 => (ih x0 x1 x7 v18_6 m)))) (fun v m => kp v m)))) (kx0 m)))) n
noncomputable def r102 (call : CallF) (fuel base : Nat) (x0 : Value) (x1 : Value) (m : M) : Res2 :=
  (k2 (vcall E.P base m .len [115] [x0]) fun v7_1 m => (r102_L0 call fuel base (fun v m => some (.pan v, m)) (fun y4_7 m => (fVal y4_7 fun v => some (.ret v, m))) (fun m => (fVal (.int .i64 (-1)) fun v => some (.ret v, m))) fuel x0 x1 v7_1 (.int .i64 0) m))
def keep102 : Keep := { region := fun i => ([[0, 1], [0, 1, 7, 8], [0, 1, 7, 8, 9], [0, 1, 5, 7, 8], [0, 1, 5, 7, 8, 16], [4], [0, 1, 7, 8], [4]] : List (List Nat))[i]?, exit := fun i => ([[], [0, 1, 7, 8]] : List (List Nat))[i]?, ret := some [4] }
noncomputable def r102_L0_R (call : CallF) (fuel base n : Nat) (vs : List Value) (m : M) (K : KT) : Res2 := match vs with
  | [x0, x1, x7, x8] => r102_L0 call fuel base (fun v m => K (.pan v) { n := 19, l := [] } m) (fun y4 m => K .ret { n := 19, l := [(4, y4)] } m) (fun m => K (.exit 0) { n := 19, l := [] } m) n x0 x1 x7 x8 m
  | _ => none
noncomputable def lp102 (call : CallF) (fuel base : Nat) : Lp := lpsel [(0, fun T m K => kslots 19 [0, 1, 7, 8] T fun vs => r102_L0_R call fuel base fuel vs m K)]
noncomputable def c102 : Code := Tryd.f102.body.getD .skip
theorem r102_L0_lk (call : CallF) (fuel base : Nat) : LoopsOk E call (lp102 call fuel base) fuel base 0 (loopB (blockB (seqR (seqL (seqR c102))))) = (And True (And (And True True) (And (And True (And True (And (And True True) True))) True))) := by kernel_rfl
theorem r102_L0_ok (call : CallF) (fuel base : Nat) : LpOk E call (lp102 call fuel base) fuel base 0 (loopB (blockB (seqR (seqL (seqR c102))))) := by
  refine loop_ok (kp := keep102) (hb := Eq.mpr (r102_L0_lk call fuel base) (And.intro trivial (And.intro (And.intro trivial trivial) (And.intro (And.intro trivial (And.intro trivial (And.intro (And.intro trivial trivial) trivial))) trivial)))) 19 [0, 1, 7, 8] (fun n vs m K => r102_L0_R call fuel base n vs m K) ?_ ?_ (fun _ _ _ => rfl)
  · intro vs m K
    unfold r102_L0_R
    split <;> rfl
  · intro n vs m K hl
    match vs, hl with
    | [x0, x1, x7, x8], _ => show _ = _; kernel_rfl
theorem r102_eq (call : CallF) (fuel base : Nat) (x0 : Value) (x1 : Value) (m : M) : kbody E call keep102 (lp102 call fuel base) base Tryd.f102 [x0, x1] m = r102 call fuel base x0 x1 m := by
  kernel_rfl
noncomputable def rf102 : RF := fun call fuel base args m => match args with
  | [x0, x1] => r102 call fuel base x0 x1 m
  | _ => none
theorem r102_lk (call : CallF) (fuel base : Nat) : LoopsOk E call (lp102 call fuel base) fuel base 0 c102 = (And True (And (And True (LpOk E call (lp102 call fuel base) fuel base 0 (loopB (blockB (seqR (seqL (seqR c102))))))) (And True True))) := by kernel_rfl
theorem r102_fn : E.P.funcs[102]? = some Tryd.f102 := by kernel_rfl
theorem r102_body : Tryd.f102.body = some c102 := by kernel_rfl
theorem rf102_ok : RFok E 102 rf102 := by
  refine ⟨Tryd.f102, r102_fn, fun call fuel base args m r _ h => ?_⟩
  unfold rf102 at h
  split at h
  · rw [← r102_eq] at h
    exact kbody_sound (c := c102) r102_body (Eq.mpr (r102_lk call fuel base) (And.intro trivial (And.intro (And.intro trivial (r102_L0_ok call fuel base)) (And.intro trivial trivial)))) h
  · simp at h
end Go.AM
namespace Go.AM
open Go Go.Proofs
noncomputable def r103 (call : CallF) (fuel base : Nat) (x0 : Value) (x1 : Value) (m : M) : Res2 :=
  (kc (call base 108 [x0, x1] m) (fun v7_1 m => (k1 (mbin E .geq 3 v7_1 (.int .i64 0)) fun v8_2 => (fVal v8_2 fun v => some (.ret v, m)))) (fun v m => some (.pan v, m)))
def keep103 : Keep := { region := fun i => ([[0, 1], [4]] : List (List Nat))[i]?, exit := fun i => ([] : List (List Nat))[i]?, ret := some [4] }
noncomputable def lp103 (call : CallF) (fuel base : Nat) : Lp := lpsel []
noncomputable def c103 : Code := Tryd.f103.body.getD .skip
theorem r103_eq (call : CallF) (fuel base : Nat) (x0 : Value) (x1 : Value) (m : M) : kbody E call keep103 (lp103 call fuel base) base Tryd.f103 [x0, x1] m = r103 call fuel base x0 x1 m := by
  kernel_rfl
noncomputable def rf103 : RF := fun call fuel base args m => match args with
  | [x0, x1] => r103 call fuel base x0 x1 m
  | _ => none
theorem r103_lk (call : CallF) (fuel base : Nat) : LoopsOk E call (lp103 call fuel base) fuel base 0 c103 = (And True (And True True)) := by kernel_rfl
theorem r103_fn : E.P.funcs[103]? = some Tryd.f103 := by kernel_rfl
theorem r103_body : Tryd.f103.body = some c103 := by kernel_rfl
theorem rf103_ok : RFok E 103 rf103 := by
  refine ⟨Tryd.f103, r103_fn, fun call fuel base args m r _ h => ?_⟩
  unfold rf103 at h
  split at h
  · rw [← r103_eq] at h
    exact kbody_sound (c := c103) r103_body (Eq.mpr (r103_lk call fuel base) (And.intro trivial (And.intro trivial trivial))) h
  · simp at h
end Go.AM
namespace Go.AM
open Go Go.Proofs
noncomputable def r104 (call : CallF) (fuel base : Nat) (x0 : Value) (x1 : Value) (x2 : Value) (m : M) : Res2 :=
  (k1 (xload E.P m 70 x1) fun v5_1 => (k1 (xload E.P m 103 x2) fun v7_2 => (kc (call base 105 [v5_1, x0, v7_2] m) (fun v8_3 m => (fVal v8_3 fun v => some (.ret v, m))) (fun v m => some (.pan v, m)))))
def keep104 : Keep := { region := fun i => ([[0, 1, 2], [4]] : List (List Nat))[i]?, exit := fun i => ([] : List (List Nat))[i]?, ret := some [4] }
noncomputable def lp104 (call : CallF) (fuel base : Nat) : Lp := lpsel []
noncomputable def c104 : Code := Tryd.f104.body.getD .skip
theorem r104_eq (call : CallF) (fuel base : Nat) (x0 : Value) (x1 : Value) (x2 : Value) (m : M) : kbody E call keep104 (lp104 call fuel base) base Tryd.f104 [x0, x1, x2] m = r104 call fuel base x0 x1 x2 m := by
  kernel_rfl
noncomputable def rf104 : RF := fun call fuel base args m => match args with
  | [x0, x1, x2] => r104 call fuel base x0 x1 x2 m
  | _ => none
theorem r104_lk (call : CallF) (fuel base : Nat) : LoopsOk E call (lp104 call fuel base) fuel base 0 c104 = (And True (And True True)) := by kernel_rfl
theorem r104_fn : E.P.funcs[104]? = some Tryd.f104 := by kernel_rfl
theorem r104_body : Tryd.f104.body = some c104 := by kernel_rfl
theorem rf104_ok : RFok E 104 rf104 := by
  refine ⟨Tryd.f104, r104_fn, fun call fuel base args m r _ h => ?_⟩
  unfold rf104 at h
  split at h
  · rw [← r104_eq] at h
    exact kbody_sound (c := c104) r104_body (Eq.mpr (r104_lk call fuel base) (And.intro trivial (And.intro trivial trivial))) h
  · simp at h
end Go.AM
namespace Go.AM
open Go Go.Proofs
noncomputable def r105 (call : CallF) (fuel base : Nat) (x0 : Value) (x1 : Value) (x2 : Value) (m : M) : Res2 :=
  (k2 (xbox m x0) fun v3_1 m => (k2 (xbox m x2) fun v5_2 m => (k1 (xload E.P m 103 v5_2) fun v11_3 => (kc (call base 109 [x1, v11_3] m) (fun v12_4 m => (k1 (mextract 0 v12_4) fun v13_5 => (k1 (mextract 1 v12_4) fun v14_6 => (k2 (xalloc E.P m 50) fun v7_7 m => (ks (xstore E.P base m 50 v7_7 v13_5) fun m => (kb v14_6 (k1 (xload E.P m 70 v3_1) fun v17_8 => (k1 (xload E.P m 50 v7_7) fun v18_9 => (kc (call base 110 [v17_8, v18_9] m) (fun v19_10 m => (fVal v19_10 fun v => some (.ret v, m))) (fun v m => some (.pan v, m))))) (fVal (.bool false) fun v => some (.ret v, m)))))))) (fun v m => some (.pan v, m))))))
def keep105 : Keep := { region := fun i => ([[1, 3, 5], [3, 7, 8], [6]] : List (List Nat))[i]?, exit := fun i => ([] : List (List Nat))[i]?, ret := some [6] }
noncomputable def lp105 (call : CallF) (fuel base : Nat) : Lp := lpsel []
noncomputable def c105 : Code := Tryd.f105.body.getD .skip
theorem r105_eq (call : CallF) (fuel base : Nat) (x0 : Value) (x1 : Value) (x2 : Value) (m : M) : kbody E call keep105 (lp105 call fuel base) base Tryd.f105 [x0, x1, x2] m = r105 call fuel base x0 x1 x2 m := by
  kernel_rfl
noncomputable def rf105 : RF := fun call fuel base args m => match args with
  | [x0, x1, x2] => r105 call fuel base x0 x1 x2 m
  | _ => none
theorem r105_lk (call : CallF) (fuel base : Nat) : LoopsOk E call (lp105 call fuel base) fuel base 0 c105 = (And True (And True (And True True))) := by kernel_rfl
theorem r105_fn : E.P.funcs[105]? = some Tryd.f105 := by kernel_rfl
theorem r105_body : Tryd.f105.body = some c105 := by kernel_rfl
theorem rf105_ok : RFok E 105 rf105 := by
  refine ⟨Tryd.f105, r105_fn, fun call fuel base args m r _ h => ?_⟩
  unfold rf105 at h
  split at h
  · rw [← r105_eq] at h
    exact kbody_sound (c := c105) r105_body (Eq.mpr (r105_lk call fuel base) (And.intro trivial (And.intro trivial (And.intro trivial trivial)))) h
  · simp at h
end Go.AM
namespace Go.AM
open Go Go.Proofs
noncomputable def r106 (call : CallF) (fuel base : Nat) (x0 : Value) (x1 : Value) (x2 : Value) (m : M) : Res2 :=
  (k2 (xbox m x0) fun v3_1 m => (k1 (xload E.P m 70 x1) fun v5_2 => (k1 (xload E.P m 3 x2) fun v6_3 => (k1 (xload E.P m 103 v3_1) fun v7_4 => (kc (call base 105 [v5_2, v6_3, v7_4] m) (fun v8_5 m => (fVal v8_5 fun v => some (.ret v, m))) (fun v m => some (.pan v, m)))))))
def keep106 : Keep := { region := fun i => ([[1, 2, 3], [4]] : List (List Nat))[i]?, exit := fun i => ([] : List (List Nat))[i]?, ret := some [4] }
noncomputable def lp106 (call : CallF) (fuel base : Nat) : Lp := lpsel []
noncomputable def c106 : Code := Tryd.f106.body.getD .skip
theorem r106_eq (call : CallF) (fuel base : Nat) (x0 : Value) (x1 : Value) (x2 : Value) (m : M) : kbody E call keep106 (lp106 call fuel base) base Tryd.f106 [x0, x1, x2] m = r106 call fuel base x0 x1 x2 m := by
  kernel_rfl
noncomputable def rf106 : RF := fun call fuel base args m => match args with
  | [x0, x1, x2] => r106 call fuel base x0 x1 x2 m
  | _ => none
theorem r106_lk (call : CallF) (fuel base : Nat) : LoopsOk E call (lp106 call fuel base) fuel base 0 c106 = (And True (And True True)) := by kernel_rfl
theorem r106_fn : E.P.funcs[106]? = some Tryd.f106 := by kernel_rfl
theorem r106_body : Tryd.f106.body = some c106 := by kernel_rfl
theorem rf106_ok : RFok E 106 rf106 := by
  refine ⟨Tryd.f106, r106_fn, fun call fuel base args m r _ h => ?_⟩
  unfold rf106 at h
  split at h
  · rw [← r106_eq] at h
    exact kbody_sound (c := c106) r106_body (Eq.mpr (r106_lk call fuel base) (And.intro trivial (And.intro trivial trivial))) h
  · simp at h
end Go.AM
namespace Go.AM
open Go Go.Proofs
noncomputable def r108_L0 (call : CallF) (fuel base : Nat) (kp : Value → M → Res2) (kr : Value → M → Res2) (kx0 : M → Res2) (n : Nat) : Value → Value → Value → Value → M → Res2 :=
  Nat.rec (motive := fun _ => Value → Value → Value → Value → M → Res2) (fun _ _ _ _ _ => none)
    (fun _ ih x0 x1 x7 x8 m =>
      (k1 (mbin E .lss 3 x8 x7) fun v9_2 => (kb v9_2 (k1 (mindexAddr E.P 37 x0 x8) fun v14_3 => (k1 (xload E.P m 3 v14_3) fun v15_4 => (kc (kv call base x1 [v15_4] m) (fun v16_5 m => (kb v16_5 (kr x8 m) (k1 (mbin E .add 3 x8 (.int .i64 1)) fun v18_6 => (ih x0 x1 x7 v18_6 m)))) (fun v m => kp v m)))) (kx0 m)))) n
noncomputable def r108 (call : CallF) (fuel base : Nat) (x0 : Value) (x1 : Value) (m : M) : Res2 :=
  (k2 (vcall E.P base m .len [37] [x0]) fun v7_1 m => (r108_L0 call fuel base (fun v m => some (.pan v, m)) (fun y4_7 m => (fVal y4_7 fun v => some (.ret v, m))) (fun m => (fVal (.int .i64 (-1)) fun v => some (.ret v, m))) fuel x0 x1 v7_1 (.int .i64 0) m))
def keep108 : Keep := { region := fun i => ([[0, 1], [0, 1, 7, 8], [0, 1, 7, 8, 9], [0, 1, 5, 7, 8], [0, 1, 5, 7, 8, 16], [4], [0, 1, 7, 8], [4]] : List (List Nat))[i]?, exit := fun i => ([[], [0, 1, 7, 8]] : List (List Nat))[i]?, ret := some [4] }
noncomputable def r108_L0_R (call : CallF) (fuel base n : Nat) (vs : List Value) (m : M) (K : KT) : Res2 := match vs with
  | [x0, x1, x7, x8] => r108_L0 call fuel base (fun v m => K (.pan v) { n := 19, l := [] } m) (fun y4 m => K .ret { n := 19, l := [(4, y4)] } m) (fun m => K (.exit 0) { n := 19, l := [] } m) n x0 x1 x7 x8 m
  | _ => none
noncomputable def lp108 (call : CallF) (fuel base : Nat) : Lp := lpsel [(0, fun T m K => kslots 19 [0, 1, 7, 8] T fun vs => r108_L0_R call fuel base fuel vs m K)]
noncomputable def c108 : Code := Tryd.f108.body.getD .skip
theorem r108_L0_lk (call : CallF) (fuel base : Nat) : LoopsOk E call (lp108 call fuel base) fuel base 0 (loopB (blockB (seqR (seqL (seqR c108))))) = (And True (And (And True True) (And (And True (And True (And (And True True) True))) True))) := by kernel_rfl
theorem r108_L0_ok (call : CallF) (fuel base : Nat) : LpOk E call (lp108 call fuel base) fuel base 0 (loopB (blockB (seqR (seqL (seqR c108))))) := by
  refine loop_ok (kp := keep108) (hb := Eq.mpr (r108_L0_lk call fuel base) (And.intro trivial (And.intro (And.intro trivial trivial) (And.intro (And.intro trivial (And.intro trivial (And.intro (And.intro trivial trivial) trivial))) trivial)))) 19 [0, 1, 7, 8] (fun n vs m K => r108_L0_R call fuel base n vs m K) ?_ ?_ (fun _ _ _ => rfl)
  · intro vs m K
    unfold r108_L0_R
    split <;> rfl
  · intro n vs m K hl
    match vs, hl with
    | [x0, x1, x7, x8], _ => show _ = _; kernel_rfl
theorem r108_eq (call : CallF) (fuel base : Nat) (x0 : Value) (x1 : Value) (m : M) : kbody E call keep108 (lp108 call fuel base) base Tryd.f108 [x0, x1] m = r108 call fuel base x0 x1 m := by
  kernel_rfl
noncomputable def rf108 : RF := fun call fuel base args m => match args with
  | [x0, x1] => r108 call fuel base x0 x1 m
  | _ => none
theorem r108_lk (call : CallF) (fuel base : Nat) : LoopsOk E call (lp108 call fuel base) fuel base 0 c108 = (And True (And (And True (LpOk E call (lp108 call fuel base) fuel base 0 (loopB (blockB (seqR (seqL (seqR c108))))))) (And True True))) := by kernel_rfl
theorem r108_fn : E.P.funcs[108]? = some Tryd.f108 := by kernel_rfl
theorem r108_body : Tryd.f108.body = some c108 := by kernel_rfl
theorem rf108_ok : RFok E 108 rf108 := by
  refine ⟨Tryd.f108, r108_fn, fun call fuel base args m r _ h => ?_⟩
  unfold rf108 at h
  split at h
  · rw [← r108_eq] at h
    exact kbody_sound (c := c108) r108_body (Eq.mpr (r108_lk call fuel base) (And.intro trivial (And.intro (And.intro trivial (r108_L0_ok call fuel base)) (And.intro trivial trivial)))) h
  · simp at h
end Go.AM
namespace Go.AM
open Go Go.Proofs
noncomputable def r109 (call : CallF) (fuel base : Nat) (x0 : Value) (x1 : Value) (m : M) : Res2 :=
  (k2 (xbox m x1) fun v3_1 m => (k2 (xalloc E.P m 50) fun v4_2 m => (k1 (mindexAddr E.P 92 (.pointer (some ⟨0, 0, some 0⟩)) x0) fun v10_3 => (k1 (xload E.P m 50 v10_3) fun v11_4 => (k1 (xload E.P m 103 v3_1) fun v12_5 => (kc (kB m (call m.length 79 [v11_4, v12_5] m)) (fun v13_6 m => (k2 (xalloc E.P m 103) fun v6_7 m => (ks (xstore E.P base m 103 v6_7 v13_6) fun m => (k1 (mfieldAddr E.P 103 v3_1 0) fun v14_8 => (k1 (xload E.P m 3 v14_8) fun v15_9 => (k1 (mfieldAddr E.P 103 v6_7 0) fun v16_10 => (k1 (xload E.P m 3 v16_10) fun v17_11 => (k1 (mbin E .sub 3 v15_9 v17_11) fun v18_12 => (k1 (mfieldAddr E.P 103 v3_1 1) fun v19_13 => (k1 (xload E.P m 3 v19_13) fun v20_14 => (k1 (mfieldAddr E.P 103 v6_7 1) fun v21_15 => (k1 (xload E.P m 3 v21_15) fun v22_16 => (k1 (mbin E .sub 3 v20_14 v22_16) fun v23_17 => (k1 (mbin E .quo 3 v18_12 (.int .i64 2)) fun v26_18 => (k1 (mbin E .quo 3 v23_17 (.int .i64 2)) fun v28_19 => (kc (call base 64 [x0, v26_18, v28_19] m) (fun v29_20 m => (k1 (mbin E .rem 3 v18_12 (.int .i64 2)) fun v31_21 => (k1 (mbin E .eql 3 v31_21 (.int .i64 0)) fun v32_22 => (ks (xstore E.P base m 50 v4_2 v29_20) fun m => (k0 (mload E.P m 50 v4_2) fun r_23 => (some (.ret (.tuple #[r_23, v32_22]), m))))))) (fun v m => some (.pan v, m)))))))))))))))))) (fun _ _ => none)))))))
def keep109 : Keep := { region := fun i => ([[0, 3, 4], [0, 3, 4, 6], [0, 4, 7, 8], [4, 5]] : List (List Nat))[i]?, exit := fun i => ([] : List (List Nat))[i]?, ret := some [4, 5] }
noncomputable def lp109 (call : CallF) (fuel base : Nat) : Lp := lpsel []
noncomputable def c109 : Code := Tryd.f109.body.getD .skip
theorem r109_eq (call : CallF) (fuel base : Nat) (x0 : Value) (x1 : Value) (m : M) : kbody E call keep109 (lp109 call fuel base) base Tryd.f109 [x0, x1] m = r109 call fuel base x0 x1 m := by
  kernel_rfl
noncomputable def rf109 : RF := fun call fuel base args m => match args with
  | [x0, x1] => r109 call fuel base x0 x1 m
  | _ => none
theorem r109_lk (call : CallF) (fuel base : Nat) : LoopsOk E call (lp109 call fuel base) fuel base 0 c109 = (And True (And True (And True (And True True)))) := by kernel_rfl
theorem r109_fn : E.P.funcs[109]? = some Tryd.f109 := by kernel_rfl
theorem r109_body : Tryd.f109.body = some c109 := by kernel_rfl
theorem rf109_ok : RFok E 109 rf109 := by
  refine ⟨Tryd.f109, r109_fn, fun call fuel base args m r _ h => ?_⟩
  unfold rf109 at h
  split at h
  · rw [← r109_eq] at h
    exact kbody_sound (c := c109) r109_body (Eq.mpr (r109_lk call fuel base) (And.intro trivial (And.intro trivial (And.intro trivial (And.intro trivial trivial))))) h
  · simp at h
end Go.AM
namespace Go.AM
open Go Go.Proofs
noncomputable def r110 (call : CallF) (fuel base : Nat) (x0 : Value) (x1 : Value) (m : M) : Res2 :=
  (k2 (xbox m x0) fun v2_1 m => (k2 (xbox m x1) fun v3_2 m => (k1 (xload E.P m 70 v2_1) fun v8_3 => (k1 (xload E.P m 50 v3_2) fun v9_4 => (kc (kB m (call m.length 81 [v9_4] m)) (fun v10_5 m => (kc (kB m (call m.length 67 [v8_3, v10_5] m)) (fun v11_6 m => (k1 (mextract 0 v11_6) fun v12_7 => (k1 (mextract 1 v11_6) fun v13_8 => (k2 (xalloc E.P m 50) fun v5_9 m => (ks (xstore E.P base m 50 v5_9 v12_7) fun m => (kb v13_8 (k1 (xload E.P m 70 v2_1) fun v16_10 => (k1 (mfieldAddr E.P 50 v3_2 4) fun v17_11 => (k1 (xload E.P m 3 v17_11) fun v18_12 => (k1 (mfieldAddr E.P 50 v5_9 4) fun v19_13 => (k1 (xload E.P m 3 v19_13) fun v20_14 => (k1 (mbin E .sub 3 v18_12 v20_14) fun v21_15 => (k1 (mfieldAddr E.P 50 v3_2 5) fun v22_16 => (k1 (xload E.P m 3 v22_16) fun v23_17 => (k1 (mfieldAddr E.P 50 v5_9 5) fun v24_18 => (k1 (xload E.P m 3 v24_18) fun v25_19 => (k1 (mbin E .sub 3 v23_17 v25_19) fun v26_20 => (k1 (mbuild E.P 103 [(0, v21_15), (1, v26_20)]) fun v27_21 => (kc (call base 100 [v16_10, v27_21] m) (fun v28_22 m => (k1 (mbuild E.P 103 []) fun v29_23 => (k1 (mbin E .eql 103 v28_22 v29_23) fun v30_24 => (fVal v30_24 fun v => some (.ret v, m))))) (fun v m => some (.pan v, m))))))))))))))) (fVal (.bool false) fun v => some (.ret v, m)))))))) (fun _ _ => none))) (fun _ _ => none))))))
def keep110 : Keep := { region := fun i => ([[2, 3], [2, 3, 5, 6], [4]] : List (List Nat))[i]?, exit := fun i => ([] : List (List Nat))[i]?, ret := some [4] }
noncomputable def lp110 (call : CallF) (fuel base : Nat) : Lp := lpsel []
noncomputable def c110 : Code := Tryd.f110.body.getD .skip
theorem r110_eq (call : CallF) (fuel base : Nat) (x0 : Value) (x1 : Value) (m : M) : kbody E call keep110 (lp110 call fuel base) base Tryd.f110 [x0, x1] m = r110 call fuel base x0 x1 m := by
  kernel_rfl
noncomputable def rf110 : RF := fun call fuel base args m => match args with
  | [x0, x1] => r110 call fuel base x0 x1 m
  | _ => none
theorem r110_lk (call : CallF) (fuel base : Nat) : LoopsOk E call (lp110 call fuel base) fuel base 0 c110 = (And True (And True (And True True))) := by kernel_rfl
theorem r110_fn : E.P.funcs[110]? = some Tryd.f110 := by kernel_rfl
theorem r110_body : Tryd.f110.body = some c110 := by kernel_rfl
theorem rf110_ok : RFok E 110 rf110 := by
  refine ⟨Tryd.f110, r110_fn, fun call fuel base args m r _ h => ?_⟩
  unfold rf110 at h
  split at h
  · rw [← r110_eq] at h
    exact kbody_sound (c := c110) r110_body (Eq.mpr (r110_lk call fuel base) (And.intro trivial (And.intro trivial (And.intro trivial trivial)))) h
  · simp at h
end Go.AM
namespace Go.AM
open Go Go.Proofs
noncomputable def tab : List (Nat × RF) := [(9, rf9), (10, rf10), (11, rf11), (12, rf12), (14, rf14), (17, rf17), (25, rf25), (27, rf27), (28, rf28), (39, rf39), (40, rf40), (41, rf41), (43, rf43), (45, rf45), (50, rf50), (51, rf51), (52, rf52), (53, rf53), (61, rf61), (62, rf62), (63, rf63), (64, rf64), (65, rf65), (67, rf67), (68, rf68), (69, rf69), (70, rf70), (75, rf75), (78, rf78), (79, rf79), (80, rf80), (81, rf81), (85, rf85), (86, rf86), (87, rf87), (88, rf88), (89, rf89), (90, rf90), (91, rf91), (92, rf92), (93, rf93), (94, rf94), (100, rf100), (101, rf101), (102, rf102), (103, rf103), (104, rf104), (105, rf105), (106, rf106), (108, rf108), (109, rf109), (110, rf110)]
theorem tab_ok : ∀ p ∈ tab, RFok E p.1 p.2 := by
  unfold tab
  simp only [List.mem_cons, forall_eq_or_imp, List.not_mem_nil, false_imp_iff, implies_true, and_true]
  exact ⟨rf9_ok, rf10_ok, rf11_ok, rf12_ok, rf14_ok, rf17_ok, rf25_ok, rf27_ok, rf28_ok, rf39_ok, rf40_ok, rf41_ok, rf43_ok, rf45_ok, rf50_ok, rf51_ok, rf52_ok, rf53_ok, rf61_ok, rf62_ok, rf63_ok, rf64_ok, rf65_ok, rf67_ok, rf68_ok, rf69_ok, rf70_ok, rf75_ok, rf78_ok, rf79_ok, rf80_ok, rf81_ok, rf85_ok, rf86_ok, rf87_ok, rf88_ok, rf89_ok, rf90_ok, rf91_ok, rf92_ok, rf93_ok, rf94_ok, rf100_ok, rf101_ok, rf102_ok, rf103_ok, rf104_ok, rf105_ok, rf106_ok, rf108_ok, rf109_ok, rf110_ok⟩
noncomputable def rc (n : Nat) : CallF := rcall E.pure tab n
theorem rc_sound (n : Nat) : SoundCall E (rc n) := rcall_sound E_good E_mix _ tab_ok n
end Go.AM
namespace Go.AM
open Go Go.Proofs
abbrev nilS : Value := .slice none 0 0
def k1n (o : Option Value) (k : Value → Res2) : Res2 := match o with
  | some r => k r
  | none => none
theorem k1_fun : k1 = k1n := by
  funext o k
  cases o with
  | none => rfl
  | some r => exact fVal_eq r k
theorem fVal_fun : (@fVal Res2 : Value → (Value → Res2) → Res2) = fun v k => k v := by
  funext v k
  exact fVal_eq v k
noncomputable def vcalln (P : Program) (base : Nat) (m : M) (b : Builtin) (tys : List TypeId) (vs : List Value) : Option (Value × M) := match b with
  | .len => match tys, vs with
    | t :: _, [x] => match mlen P t x with
      | some r => some (r, m)
      | none => none
    | _, _ => none
  | .min => match vs with
    | x :: xs => match mfold mmin2 x xs with
      | some r => some (r, m)
      | none => none
    | _ => none
  | .max => match vs with
    | x :: xs => match mfold mmax2 x xs with
      | some r => some (r, m)
      | none => none
    | _ => none
  | b => xbuiltin P base m b tys vs
theorem vcall_fun : vcall = vcalln := by
  funext P base m b tys vs
  unfold vcall vcalln
  cases b <;> first
    | rfl
    | (simp only [xbuiltin, obuiltin, fVal_eq]; done)
    | (simp only [xbuiltin, obuiltin, fVal_eq]; rfl)
def vi (n : Int) : Value := .int .i64 n
def rowz (z : Nat) (ex : Bool) (cs : List Value) : Row := { esz := z, ex := ex, ro := false, cells := cs }
abbrev sl (p N : Nat) : Value := .slice (some ⟨p, 0, none⟩) N N
abbrev pt (p off : Nat) : Value := .pointer (some ⟨p, off, none⟩)
/-- A slice that grows: nil while it has nothing, else a row of its own. -/
def Grow (z b : Nat) (m : M) (v : Value) (cs : List Value) (n : Nat) : Prop :=
  (n = 0 ∧ v = .slice none 0 0 ∧ cs = []) ∨ ∃ r, 1 ≤ n ∧ b ≤ r ∧ v = sl r n ∧ m[r]? = some (rowz z false cs) ∧ cs.length = n * z
def Keeps (n : Nat) (m m' : M) : Prop := m.length ≤ m'.length ∧ ∀ i, i < n → m'[i]? = m[i]?
theorem Keeps.refl (n : Nat) (m : M) : Keeps n m m := ⟨Nat.le_refl _, fun _ _ => rfl⟩
theorem Keeps.trans {n : Nat} {a b c : M} (h : Keeps n a b) (k : Keeps n b c) : Keeps n a c := ⟨Nat.le_trans h.1 k.1, fun i hi => (k.2 i hi).trans (h.2 i hi)⟩
theorem Keeps.mono {n k : Nat} {a b : M} (h : Keeps n a b) (hk : k ≤ n) : Keeps k a b := ⟨h.1, fun i hi => h.2 i (by omega)⟩
theorem Keeps.push (n : Nat) (m : M) (h : n ≤ m.length) (x : List Row) : Keeps n m (m ++ x) := ⟨by simp, fun i hi => List.getElem?_append_left (by omega)⟩
theorem Keeps.set (n : Nat) (m : M) (r : Nat) (row : Row) (h : n ≤ r) : Keeps n m (m.set r row) := ⟨by simp, fun i hi => List.getElem?_set_ne (by omega)⟩
abbrev wr (n : Int) : Int := IntKind.i64.wrap n
def cellR (cs : List Value) : Row := { esz := 0, ex := true, ro := false, cells := cs }
theorem wr_id {n : Int} (h0 : -4611686018427387904 ≤ n) (h1 : n ≤ 4611686018427387904) : wr n = n := by
  unfold wr IntKind.wrap
  simp [IntKind.bits, IntKind.signed]
  omega
theorem wr_succ (j : Nat) (h : j ≤ 1000000) : wr ((j : Int) + 1) = ((j + 1 : Nat) : Int) := (wr_id (by omega) (by omega)).trans (by omega)
theorem lss_nat (i j : Nat) : mbin E .lss 3 (vi i) (vi j) = some (.bool (decide (i < j))) := by
  have e : mbin E .lss 3 (vi i) (vi j) = some (.bool (decide ((i : Int) < j))) := rfl
  rw [e]
  congr 2
  exact decide_eq_decide.2 (by omega)
theorem splice_one (cs : List Value) (off : Nat) (v : Value) (h : off < cs.length) : splice cs off [v] = cs.set off v := by
  unfold splice
  rw [List.set_eq_take_append_cons_drop, if_pos h]
  simp
theorem mwrite_one {base : Nat} {m : M} {p off : Nat} {v : Value} {row : Row} (hb : base ≤ p) (hr : m[p]? = some row) (hro : row.ro = false) (ho : off < row.cells.length) (hv : v.oneCell' = true) :
    mwrite base m p off [v] = some (m.set p { row with cells := row.cells.set off v }) := by
  unfold mwrite
  rw [if_neg (by omega), hr]
  simp only [hro, Bool.false_eq_true, if_false, List.length_cons, List.length_nil, List.all_cons, List.all_nil, hv, Bool.and_self, if_true]
  rw [if_pos (by omega), splice_one _ _ _ ho, fList_eq, fList_eq]
theorem add1 (j : Nat) (h : j ≤ 1000000) : mbin E .add 3 (vi j) (.int .i64 1) = some (vi ((j + 1 : Nat) : Int)) := by
  have e : mbin E .add 3 (vi j) (.int .i64 1) = some (vi (wr ((j : Int) + 1))) := rfl
  rw [e, wr_succ j h]
theorem kB_same (m : M) (v : Value) : kB m (some (.ret v, m)) = some (.ret v, m) := by
  simp only [kB, List.drop_length, List.append_nil, fList_eq]
theorem k2s (a : Value) (m : M) (k : Value → M → Res2) : k2 (some (a, m)) k = k a m := Eq.trans rfl rfl
theorem k1s (a : Value) (k : Value → Res2) : k1n (some a) k = k a := Eq.trans rfl rfl
theorem kss (m : M) (k : M → Res2) : ks (some m) k = k m := Eq.trans rfl rfl
theorem kcs (a : Value) (m : M) (k p : Value → M → Res2) : kc (some (.ret a, m)) k p = k a m := Eq.trans rfl rfl
theorem kbt (t f : Res2) : kb (.bool true) t f = t := Eq.trans rfl rfl
theorem kbf (t f : Res2) : kb (.bool false) t f = f := Eq.trans rfl rfl
theorem k0s (a : Value) (k : Value → Res2) : k0 (some a) k = k a := Eq.trans rfl rfl
theorem len9 (base : Nat) (m : M) (s : ByteArray) : vcalln E.P base m .len [9] [.string s] = some (vi s.size, m) := by kernel_rfl
theorem idx9 (s : ByteArray) (j : Nat) : mindex E.P 9 (.string s) (vi j) = (s[j]?).map fun b => .int .u8 (b.toNat : Int) := by
  have e : mindex E.P 9 (.string s) (vi j) = if 0 ≤ (j : Int) then (s[(j : Int).toNat]?).map fun b => .int .u8 (b.toNat : Int) else none := by kernel_rfl
  rw [e, if_pos (by omega)]
  rfl
theorem box_cell {m : M} {q : Nat} {cs : List Value} (h : m[q]? = some (cellR cs)) (j : Nat) (v : Value) (hv : cs[j]? = some v) : mcell m q j = some v := by
  unfold mcell
  rw [h]
  exact hv
theorem bxa2 (m : M) (a0 a1 : Value) : xbox m (.agg #[a0, a1]) = some (pt m.length 0, m ++ [cellR [a0, a1]]) := by
  have e : xbox m (.agg #[a0, a1]) = xlen m fun k => xpush m (cellR [a0, a1]) fun m' => some (pt k 0, m') := by kernel_rfl
  rw [e, xlen_eq, fNat_eq, xpush_eq, fList_eq]
theorem bxa3 (m : M) (a0 a1 a2 : Value) : xbox m (.agg #[a0, a1, a2]) = some (pt m.length 0, m ++ [cellR [a0, a1, a2]]) := by
  have e : xbox m (.agg #[a0, a1, a2]) = xlen m fun k => xpush m (cellR [a0, a1, a2]) fun m' => some (pt k 0, m') := by kernel_rfl
  rw [e, xlen_eq, fNat_eq, xpush_eq, fList_eq]
theorem bxa4 (m : M) (a0 a1 a2 a3 : Value) : xbox m (.agg #[a0, a1, a2, a3]) = some (pt m.length 0, m ++ [cellR [a0, a1, a2, a3]]) := by
  have e : xbox m (.agg #[a0, a1, a2, a3]) = xlen m fun k => xpush m (cellR [a0, a1, a2, a3]) fun m' => some (pt k 0, m') := by kernel_rfl
  rw [e, xlen_eq, fNat_eq, xpush_eq, fList_eq]
theorem bxa6 (m : M) (a0 a1 a2 a3 a4 a5 : Value) : xbox m (.agg #[a0, a1, a2, a3, a4, a5]) = some (pt m.length 0, m ++ [cellR [a0, a1, a2, a3, a4, a5]]) := by
  have e : xbox m (.agg #[a0, a1, a2, a3, a4, a5]) = xlen m fun k => xpush m (cellR [a0, a1, a2, a3, a4, a5]) fun m' => some (pt k 0, m') := by kernel_rfl
  rw [e, xlen_eq, fNat_eq, xpush_eq, fList_eq]
theorem rem3 (a b : Int) (h : b ≠ 0) : mbin E .rem 3 (vi a) (vi b) = some (vi (a.tmod b)) := by
  have e : mbin E .rem 3 (vi a) (vi b) = if b = 0 then none else some (vi (a.tmod b)) := by kernel_rfl
  rw [e, if_neg h]
theorem quo3 (a b : Int) (h : b ≠ 0) : mbin E .quo 3 (vi a) (vi b) = some (vi (wr (a.tdiv b))) := by
  have e : mbin E .quo 3 (vi a) (vi b) = if b = 0 then none else some (vi (wr (a.tdiv b))) := by kernel_rfl
  rw [e, if_neg h]
theorem add3 (a b : Int) : mbin E .add 3 (vi a) (vi b) = some (vi (wr (a + b))) := by kernel_rfl
theorem sub3 (a b : Int) : mbin E .sub 3 (vi a) (vi b) = some (vi (wr (a - b))) := by kernel_rfl
theorem mul3 (a b : Int) : mbin E .mul 3 (vi a) (vi b) = some (vi (wr (a * b))) := by kernel_rfl
theorem lss3 (a b : Int) : mbin E .lss 3 (vi a) (vi b) = some (.bool (decide (a < b))) := by kernel_rfl
theorem leq3 (a b : Int) : mbin E .leq 3 (vi a) (vi b) = some (.bool (decide (a ≤ b))) := by kernel_rfl
theorem gtr3 (a b : Int) : mbin E .gtr 3 (vi a) (vi b) = some (.bool (decide (a > b))) := by kernel_rfl
theorem geq3 (a b : Int) : mbin E .geq 3 (vi a) (vi b) = some (.bool (decide (a ≥ b))) := by kernel_rfl
theorem eql3 (a b : Int) : mbin E .eql 3 (vi a) (vi b) = some (.bool (decide (a = b))) := by
  have e : mbin E .eql 3 (vi a) (vi b) = some (.bool (a == b)) := by kernel_rfl
  rw [e]; congr 2
theorem neq3 (a b : Int) : mbin E .neq 3 (vi a) (vi b) = some (.bool (!decide (a = b))) := by
  have e : mbin E .neq 3 (vi a) (vi b) = some (.bool (!(a == b))) := by kernel_rfl
  rw [e]; congr 2
theorem eql27 (a b : Int) : mbin E .eql 27 (vi a) (vi b) = some (.bool (decide (a = b))) := by
  have e : mbin E .eql 27 (vi a) (vi b) = some (.bool (a == b)) := by kernel_rfl
  rw [e]; congr 2
theorem neq27 (a b : Int) : mbin E .neq 27 (vi a) (vi b) = some (.bool (!decide (a = b))) := by
  have e : mbin E .neq 27 (vi a) (vi b) = some (.bool (!(a == b))) := by kernel_rfl
  rw [e]; congr 2
theorem not4 (b : Bool) : mun .not (.bool b) = some (.bool !b) := by kernel_rfl
theorem lss5 (a b : Int) : mbin E .lss 5 (.int .u8 a) (.int .u8 b) = some (.bool (decide (a < b))) := by kernel_rfl
theorem gtr5 (a b : Int) : mbin E .gtr 5 (.int .u8 a) (.int .u8 b) = some (.bool (decide (a > b))) := by kernel_rfl
theorem neq5 (a b : Int) : mbin E .neq 5 (.int .u8 a) (.int .u8 b) = some (.bool (!decide (a = b))) := by
  have e : mbin E .neq 5 (.int .u8 a) (.int .u8 b) = some (.bool (!(a == b))) := by kernel_rfl
  rw [e]; congr 2
theorem ld3 (m : M) (r off : Nat) : xload E.P m 3 (pt r off) = mcell m r off := by
  have e : xload E.P m 3 (pt r off) = xcell m r off := by kernel_rfl
  rw [e, xcell_eq]
theorem st3 (base : Nat) (m : M) (p off : Nat) (x : Int) : xstore E.P base m 3 (pt p off) (vi x) = mwrite base m p off [(vi x)] := by
  have e : xstore E.P base m 3 (pt p off) (vi x) = xwrite base m p off [(vi x)] := by kernel_rfl
  rw [e, xwrite_eq]
theorem ld4 (m : M) (r off : Nat) : xload E.P m 4 (pt r off) = mcell m r off := by
  have e : xload E.P m 4 (pt r off) = xcell m r off := by kernel_rfl
  rw [e, xcell_eq]
theorem st4 (base : Nat) (m : M) (p off : Nat) (x : Bool) : xstore E.P base m 4 (pt p off) (.bool x) = mwrite base m p off [(.bool x)] := by
  have e : xstore E.P base m 4 (pt p off) (.bool x) = xwrite base m p off [(.bool x)] := by kernel_rfl
  rw [e, xwrite_eq]
theorem ld9 (m : M) (r off : Nat) : xload E.P m 9 (pt r off) = mcell m r off := by
  have e : xload E.P m 9 (pt r off) = xcell m r off := by kernel_rfl
  rw [e, xcell_eq]
theorem ld30 (m : M) (r off : Nat) : xload E.P m 30 (pt r off) = mcell m r off := by
  have e : xload E.P m 30 (pt r off) = xcell m r off := by kernel_rfl
  rw [e, xcell_eq]
theorem st30 (base : Nat) (m : M) (p off q l c : Nat) : xstore E.P base m 30 (pt p off) (.slice (some ⟨q, 0, none⟩) l c) = mwrite base m p off [.slice (some ⟨q, 0, none⟩) l c] := by
  have e : xstore E.P base m 30 (pt p off) (.slice (some ⟨q, 0, none⟩) l c) = xwrite base m p off [.slice (some ⟨q, 0, none⟩) l c] := by kernel_rfl
  rw [e, xwrite_eq]
theorem st30n (base : Nat) (m : M) (p off : Nat) : xstore E.P base m 30 (pt p off) nilS = mwrite base m p off [nilS] := by
  have e : xstore E.P base m 30 (pt p off) nilS = xwrite base m p off [nilS] := by kernel_rfl
  rw [e, xwrite_eq]
theorem al103 (m : M) : xalloc E.P m 103 = some (pt m.length 0, m ++ [cellR [.int .i64 0, .int .i64 0]]) := by
  have e : xalloc E.P m 103 = xlen m fun n => xpush m (cellR [.int .i64 0, .int .i64 0]) fun m' => some (pt n 0, m') := by kernel_rfl
  rw [e, xlen_eq, fNat_eq, xpush_eq, fList_eq]
theorem ld103 {m : M} {r : Nat} {row : Row} {off : Nat} (h : m[r]? = some row) (hl : off + 2 ≤ row.cells.length) : xload E.P m 103 (pt r off) = some (.agg ((row.cells.drop off).take 2).toArray) := by
  have e : xload E.P m 103 (pt r off) = (xread m r off 2).map fun cs => .agg cs.toArray := by kernel_rfl
  rw [e, xread_eq]
  unfold mread
  rw [h]
  simp only
  rw [if_pos hl]
  rfl
theorem ldb103 {m : M} {r : Nat} {a0 a1 : Value} (h : m[r]? = some (cellR [a0, a1])) : xload E.P m 103 (pt r 0) = some (.agg #[a0, a1]) := ld103 h (by simp [cellR])
theorem ml103 {m : M} {r : Nat} {a0 a1 : Value} (h : m[r]? = some (cellR [a0, a1])) : mload E.P m 103 (pt r 0) = some (.agg #[a0, a1]) := by
  have e : mload E.P m 103 (pt r 0) = (mread m r 0 2).map fun cs => .agg cs.toArray := by kernel_rfl
  rw [e]
  unfold mread
  rw [h]
  rfl
theorem st103 {base : Nat} {m : M} {p : Nat} (hb : base ≤ p) {a0 a1 b0 b1 : Value} (h : m[p]? = some (cellR [b0, b1])) (hone : ([a0, a1] : List Value).all (·.oneCell') = true) : xstore E.P base m 103 (pt p 0) (.agg #[a0, a1]) = some (m.set p (cellR [a0, a1])) := by
  have e : xstore E.P base m 103 (pt p 0) (.agg #[a0, a1]) = xwrite base m p 0 [a0, a1] := by kernel_rfl
  rw [e, xwrite_eq]
  unfold mwrite
  rw [if_neg (by omega), h]
  simp only [cellR, splice, fList_eq, Bool.false_eq_true, if_false, hone, if_true]
  simp
theorem ff103_0 (p o : Nat) : mfieldAddr E.P 103 (pt p o) 0 = some (pt p (o + 0)) := by kernel_rfl
theorem ff103_1 (p o : Nat) : mfieldAddr E.P 103 (pt p o) 1 = some (pt p (o + 1)) := by kernel_rfl
theorem al26 (m : M) : xalloc E.P m 26 = some (pt m.length 0, m ++ [cellR [.int .i64 0, .int .i64 0, .int .i64 0]]) := by
  have e : xalloc E.P m 26 = xlen m fun n => xpush m (cellR [.int .i64 0, .int .i64 0, .int .i64 0]) fun m' => some (pt n 0, m') := by kernel_rfl
  rw [e, xlen_eq, fNat_eq, xpush_eq, fList_eq]
theorem ld26 {m : M} {r : Nat} {row : Row} {off : Nat} (h : m[r]? = some row) (hl : off + 3 ≤ row.cells.length) : xload E.P m 26 (pt r off) = some (.agg ((row.cells.drop off).take 3).toArray) := by
  have e : xload E.P m 26 (pt r off) = (xread m r off 3).map fun cs => .agg cs.toArray := by kernel_rfl
  rw [e, xread_eq]
  unfold mread
  rw [h]
  simp only
  rw [if_pos hl]
  rfl
theorem ldb26 {m : M} {r : Nat} {a0 a1 a2 : Value} (h : m[r]? = some (cellR [a0, a1, a2])) : xload E.P m 26 (pt r 0) = some (.agg #[a0, a1, a2]) := ld26 h (by simp [cellR])
theorem ml26 {m : M} {r : Nat} {a0 a1 a2 : Value} (h : m[r]? = some (cellR [a0, a1, a2])) : mload E.P m 26 (pt r 0) = some (.agg #[a0, a1, a2]) := by
  have e : mload E.P m 26 (pt r 0) = (mread m r 0 3).map fun cs => .agg cs.toArray := by kernel_rfl
  rw [e]
  unfold mread
  rw [h]
  rfl
theorem st26 {base : Nat} {m : M} {p : Nat} (hb : base ≤ p) {a0 a1 a2 b0 b1 b2 : Value} (h : m[p]? = some (cellR [b0, b1, b2])) (hone : ([a0, a1, a2] : List Value).all (·.oneCell') = true) : xstore E.P base m 26 (pt p 0) (.agg #[a0, a1, a2]) = some (m.set p (cellR [a0, a1, a2])) := by
  have e : xstore E.P base m 26 (pt p 0) (.agg #[a0, a1, a2]) = xwrite base m p 0 [a0, a1, a2] := by kernel_rfl
  rw [e, xwrite_eq]
  unfold mwrite
  rw [if_neg (by omega), h]
  simp only [cellR, splice, fList_eq, Bool.false_eq_true, if_false, hone, if_true]
  simp
theorem ff26_0 (p o : Nat) : mfieldAddr E.P 26 (pt p o) 0 = some (pt p (o + 0)) := by kernel_rfl
theorem ff26_1 (p o : Nat) : mfieldAddr E.P 26 (pt p o) 1 = some (pt p (o + 1)) := by kernel_rfl
theorem ff26_2 (p o : Nat) : mfieldAddr E.P 26 (pt p o) 2 = some (pt p (o + 2)) := by kernel_rfl
theorem al50 (m : M) : xalloc E.P m 50 = some (pt m.length 0, m ++ [cellR [.int .i64 0, .int .i64 0, .int .i64 0, .int .i64 0, .int .i64 0, .int .i64 0]]) := by
  have e : xalloc E.P m 50 = xlen m fun n => xpush m (cellR [.int .i64 0, .int .i64 0, .int .i64 0, .int .i64 0, .int .i64 0, .int .i64 0]) fun m' => some (pt n 0, m') := by kernel_rfl
  rw [e, xlen_eq, fNat_eq, xpush_eq, fList_eq]
theorem ld50 {m : M} {r : Nat} {row : Row} {off : Nat} (h : m[r]? = some row) (hl : off + 6 ≤ row.cells.length) : xload E.P m 50 (pt r off) = some (.agg ((row.cells.drop off).take 6).toArray) := by
  have e : xload E.P m 50 (pt r off) = (xread m r off 6).map fun cs => .agg cs.toArray := by kernel_rfl
  rw [e, xread_eq]
  unfold mread
  rw [h]
  simp only
  rw [if_pos hl]
  rfl
theorem ldb50 {m : M} {r : Nat} {a0 a1 a2 a3 a4 a5 : Value} (h : m[r]? = some (cellR [a0, a1, a2, a3, a4, a5])) : xload E.P m 50 (pt r 0) = some (.agg #[a0, a1, a2, a3, a4, a5]) := ld50 h (by simp [cellR])
theorem st50 {base : Nat} {m : M} {p : Nat} (hb : base ≤ p) {a0 a1 a2 a3 a4 a5 b0 b1 b2 b3 b4 b5 : Value} (h : m[p]? = some (cellR [b0, b1, b2, b3, b4, b5])) (hone : ([a0, a1, a2, a3, a4, a5] : List Value).all (·.oneCell') = true) : xstore E.P base m 50 (pt p 0) (.agg #[a0, a1, a2, a3, a4, a5]) = some (m.set p (cellR [a0, a1, a2, a3, a4, a5])) := by
  have e : xstore E.P base m 50 (pt p 0) (.agg #[a0, a1, a2, a3, a4, a5]) = xwrite base m p 0 [a0, a1, a2, a3, a4, a5] := by kernel_rfl
  rw [e, xwrite_eq]
  unfold mwrite
  rw [if_neg (by omega), h]
  simp only [cellR, splice, fList_eq, Bool.false_eq_true, if_false, hone, if_true]
  simp
theorem ix22 (p l c j : Nat) (h : j < l) : mindexAddr E.P 22 (.slice (some ⟨p, 0, none⟩) l c) (vi j) = some (pt p j) := by
  have e : mindexAddr E.P 22 (.slice (some ⟨p, 0, none⟩) l c) (vi j) = if 0 ≤ (j : Int) ∧ (j : Int) < l then some (.pointer (some ⟨p, 0 + ((j : Int)).toNat * 1, none⟩)) else none := by kernel_rfl
  rw [e, if_pos (by omega)]
  simp
theorem len22 (base : Nat) (m : M) (o l c : Nat) : vcalln E.P base m .len [22] [.slice (some ⟨o, 0, none⟩) l c] = some (vi l, m) := by kernel_rfl
theorem len22n (base : Nat) (m : M) : vcalln E.P base m .len [22] [nilS] = some (vi 0, m) := by kernel_rfl
theorem ix66 (p l c j : Nat) (h : j < l) : mindexAddr E.P 66 (.slice (some ⟨p, 0, none⟩) l c) (vi j) = some (pt p j) := by
  have e : mindexAddr E.P 66 (.slice (some ⟨p, 0, none⟩) l c) (vi j) = if 0 ≤ (j : Int) ∧ (j : Int) < l then some (.pointer (some ⟨p, 0 + ((j : Int)).toNat * 1, none⟩)) else none := by kernel_rfl
  rw [e, if_pos (by omega)]
  simp
theorem len66 (base : Nat) (m : M) (o l c : Nat) : vcalln E.P base m .len [66] [.slice (some ⟨o, 0, none⟩) l c] = some (vi l, m) := by kernel_rfl
theorem len66n (base : Nat) (m : M) : vcalln E.P base m .len [66] [nilS] = some (vi 0, m) := by kernel_rfl
theorem ix30 (p l c j : Nat) (h : j < l) : mindexAddr E.P 30 (.slice (some ⟨p, 0, none⟩) l c) (vi j) = some (pt p (j * 6)) := by
  have e : mindexAddr E.P 30 (.slice (some ⟨p, 0, none⟩) l c) (vi j) = if 0 ≤ (j : Int) ∧ (j : Int) < l then some (.pointer (some ⟨p, 0 + ((j : Int)).toNat * 6, none⟩)) else none := by kernel_rfl
  rw [e, if_pos (by omega)]
  simp
theorem len30 (base : Nat) (m : M) (o l c : Nat) : vcalln E.P base m .len [30] [.slice (some ⟨o, 0, none⟩) l c] = some (vi l, m) := by kernel_rfl
theorem len30n (base : Nat) (m : M) : vcalln E.P base m .len [30] [nilS] = some (vi 0, m) := by kernel_rfl
theorem ix37 (p l c j : Nat) (h : j < l) : mindexAddr E.P 37 (.slice (some ⟨p, 0, none⟩) l c) (vi j) = some (pt p j) := by
  have e : mindexAddr E.P 37 (.slice (some ⟨p, 0, none⟩) l c) (vi j) = if 0 ≤ (j : Int) ∧ (j : Int) < l then some (.pointer (some ⟨p, 0 + ((j : Int)).toNat * 1, none⟩)) else none := by kernel_rfl
  rw [e, if_pos (by omega)]
  simp
theorem len37 (base : Nat) (m : M) (o l c : Nat) : vcalln E.P base m .len [37] [.slice (some ⟨o, 0, none⟩) l c] = some (vi l, m) := by kernel_rfl
theorem len37n (base : Nat) (m : M) : vcalln E.P base m .len [37] [nilS] = some (vi 0, m) := by kernel_rfl
theorem ix43 (p l c j : Nat) (h : j < l) : mindexAddr E.P 43 (.slice (some ⟨p, 0, none⟩) l c) (vi j) = some (pt p j) := by
  have e : mindexAddr E.P 43 (.slice (some ⟨p, 0, none⟩) l c) (vi j) = if 0 ≤ (j : Int) ∧ (j : Int) < l then some (.pointer (some ⟨p, 0 + ((j : Int)).toNat * 1, none⟩)) else none := by kernel_rfl
  rw [e, if_pos (by omega)]
  simp
theorem ix115 (p l c j : Nat) (h : j < l) : mindexAddr E.P 115 (.slice (some ⟨p, 0, none⟩) l c) (vi j) = some (pt p (j * 2)) := by
  have e : mindexAddr E.P 115 (.slice (some ⟨p, 0, none⟩) l c) (vi j) = if 0 ≤ (j : Int) ∧ (j : Int) < l then some (.pointer (some ⟨p, 0 + ((j : Int)).toNat * 2, none⟩)) else none := by kernel_rfl
  rw [e, if_pos (by omega)]
  simp
end Go.AM
