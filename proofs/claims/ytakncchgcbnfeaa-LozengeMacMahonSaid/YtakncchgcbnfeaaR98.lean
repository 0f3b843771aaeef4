import Derived.KernelRfl
import Derived.Laws.BytesArg
import Derived.Laws.StructEq
import Derived.RangeFuncLeaves
import Derived.RangeFuncRecord
import Derived.Test.YtakncchgcbnfeaaProg
import Derived.Test.YtakncchgcbnfeaaRows
import Derived.WalkKit
import Derived.Test.YtakncchgcbnfeaaAmB
import Derived.Test.YtakncchgcbnfeaaAmG
import Derived.Test.YtakncchgcbnfeaaAmModel
import Derived.Test.YtakncchgcbnfeaaAmRel
import Derived.Test.YtakncchgcbnfeaaAmOps6
import Derived.Test.YtakncchgcbnfeaaAmCode
import Derived.Test.YtakncchgcbnfeaaAmDraw5
import Derived.Test.YtakncchgcbnfeaaAmEq
import Derived.Test.YtakncchgcbnfeaaRBase
set_option linter.unusedVariables false
set_option linter.unusedSimpArgs false
set_option linter.unusedSectionVars false
namespace Go.AM
open Go Go.Proofs
noncomputable def r98_L0 (call : CallF) (fuel base : Nat) (kr : Value → M → Res2) (kx0 : M → Res2) (n : Nat) : Value → Value → Value → M → Res2 :=
  Nat.rec (motive := fun _ => Value → Value → Value → M → Res2) (fun _ _ _ _ => none)
    (fun _ ih x0 x1 x5 m =>
      (k2 (vcall E.P base m .len [33] [x0]) fun v9_1 m => (k1 (mbin E .lss 3 x5 v9_1) fun v10_2 => (kb v10_2 (k1 (mindexAddr E.P 33 x0 x5) fun v15_3 => (k1 (xload E.P m 27 v15_3) fun v16_4 => (k1 (mindexAddr E.P 27 v16_4 x1) fun v18_5 => (k1 (xload E.P m 3 v18_5) fun v19_6 => (k1 (mbin E .neq 3 v19_6 (.int .i64 0)) fun v20_7 => (kb v20_7 (kr x5 m) (k1 (mbin E .add 3 x5 (.int .i64 1)) fun v12_8 => (ih x0 x1 v12_8 m)))))))) (kx0 m))))) n
noncomputable def r98 (call : CallF) (fuel base : Nat) (x0 : Value) (x1 : Value) (m : M) : Res2 :=
  (r98_L0 call fuel base (fun y4_9 m => (fVal y4_9 fun v => some (.ret v, m))) (fun m => (fVal (.int .i64 (-1)) fun v => some (.ret v, m))) fuel x0 x1 x1 m)
def keep98 : Keep := { region := fun i => ([[0, 1], [0, 1, 5], [0, 1, 5, 10], [0, 1, 5], [0, 1, 5, 20], [4], [4]] : List (List Nat))[i]?, exit := fun i => ([[], [0, 1, 5]] : List (List Nat))[i]?, ret := some [4] }
noncomputable def r98_L0_R (call : CallF) (fuel base n : Nat) (vs : List Value) (m : M) (K : KT) : Res2 := match vs with
  | [x0, x1, x5] => r98_L0 call fuel base (fun y4 m => K .ret { n := 22, l := [(4, y4)] } m) (fun m => K (.exit 0) { n := 22, l := [] } m) n x0 x1 x5 m
  | _ => none
noncomputable def lp98 (call : CallF) (fuel base : Nat) : Lp := lpsel [(0, fun T m K => kslots 22 [0, 1, 5] T fun vs => r98_L0_R call fuel base fuel vs m K)]
noncomputable def c98 : Code := Try.f98.body.getD .skip
theorem r98_L0_lk (call : CallF) (fuel base : Nat) : LoopsOk E call (lp98 call fuel base) fuel base 0 (loopB (blockB (seqR (seqL (seqR c98))))) = (And (And True (And True True)) (And (And True (And (And True True) True)) True)) := by kernel_rfl
theorem r98_L0_ok (call : CallF) (fuel base : Nat) : LpOk E call (lp98 call fuel base) fuel base 0 (loopB (blockB (seqR (seqL (seqR c98))))) := by
  refine loop_ok (kp := keep98) (hb := Eq.mpr (r98_L0_lk call fuel base) (And.intro (And.intro trivial (And.intro trivial trivial)) (And.intro (And.intro trivial (And.intro (And.intro trivial trivial) trivial)) trivial))) 22 [0, 1, 5] (fun n vs m K => r98_L0_R call fuel base n vs m K) ?_ ?_ (fun _ _ _ => rfl)
  · intro vs m K
    unfold r98_L0_R
    split <;> rfl
  · intro n vs m K hl
    match vs, hl with
    | [x0, x1, x5], _ => show _ = _; kernel_rfl
theorem r98_eq (call : CallF) (fuel base : Nat) (x0 : Value) (x1 : Value) (m : M) : kbody E call keep98 (lp98 call fuel base) base Try.f98 [x0, x1] m = r98 call fuel base x0 x1 m := by
  kernel_rfl
noncomputable def rf98 : RF := fun call fuel base args m => match args with
  | [x0, x1] => r98 call fuel base x0 x1 m
  | _ => none
theorem r98_lk (call : CallF) (fuel base : Nat) : LoopsOk E call (lp98 call fuel base) fuel base 0 c98 = (And True (And (And True (LpOk E call (lp98 call fuel base) fuel base 0 (loopB (blockB (seqR (seqL (seqR c98))))))) (And True True))) := by kernel_rfl
theorem r98_fn : E.P.funcs[98]? = some Try.f98 := by kernel_rfl
theorem r98_body : Try.f98.body = some c98 := by kernel_rfl
theorem rf98_ok : RFok E 98 rf98 := by
  show RFok' E 98 rf98
  refine ⟨Try.f98, r98_fn, fun call fuel base args m r _ h => ?_⟩
  unfold rf98 at h
  split at h
  · rw [← r98_eq] at h
    exact kbody_sound (c := c98) r98_body (Eq.mpr (r98_lk call fuel base) (And.intro trivial (And.intro (And.intro trivial (r98_L0_ok call fuel base)) (And.intro trivial trivial)))) h
  · simp at h
end Go.AM
namespace Go.AM
open Go Go.Proofs
noncomputable def r99_L2 (call : CallF) (fuel base : Nat) (kx2 : Value → Value → Value → Value → Value → M → Res2) (n : Nat) : Value → Value → Value → Value → Value → Value → M → Res2 :=
  Nat.rec (motive := fun _ => Value → Value → Value → Value → Value → Value → M → Res2) (fun _ _ _ _ _ _ _ => none)
    (fun _ ih x0 x1 x2 x7 x8 x9 m =>
      (k2 (vcall E.P base m .len [33] [x0]) fun v23_6 m => (k1 (mbin E .lss 3 x9 v23_6) fun v24_7 => (kb v24_7 (k1 (mfieldAddr E.P 120 x7 1) fun v27_8 => (k1 (xload E.P m 56 v27_8) fun v28_9 => (k1 (mfieldAddr E.P 120 x7 0) fun v29_10 => (k1 (xload E.P m 56 v29_10) fun v30_11 => (k1 (mindexAddr E.P 33 x0 x1) fun v33_12 => (k1 (xload E.P m 27 v33_12) fun v34_13 => (k1 (mindexAddr E.P 27 v34_13 x1) fun v36_14 => (k1 (xload E.P m 3 v36_14) fun v37_15 => (k1 (mindexAddr E.P 33 x0 x8) fun v40_16 => (k1 (xload E.P m 27 v40_16) fun v41_17 => (k1 (mindexAddr E.P 27 v41_17 x9) fun v43_18 => (k1 (xload E.P m 3 v43_18) fun v44_19 => (kc (kB m (kv call m.length v30_11 [v37_15, v44_19] m)) (fun v45_20 m => (k1 (mfieldAddr E.P 120 x7 0) fun v46_21 => (k1 (xload E.P m 56 v46_21) fun v47_22 => (k1 (mindexAddr E.P 33 x0 x8) fun v50_23 => (k1 (xload E.P m 27 v50_23) fun v51_24 => (k1 (mindexAddr E.P 27 v51_24 x1) fun v53_25 => (k1 (xload E.P m 3 v53_25) fun v54_26 => (k1 (mindexAddr E.P 33 x0 x1) fun v57_27 => (k1 (xload E.P m 27 v57_27) fun v58_28 => (k1 (mindexAddr E.P 27 v58_28 x9) fun v60_29 => (k1 (xload E.P m 3 v60_29) fun v61_30 => (kc (kB m (kv call m.length v47_22 [v54_26, v61_30] m)) (fun v62_31 m => (kc (kB m (kv call m.length v28_9 [v45_20, v62_31] m)) (fun v63_32 m => (k1 (mindexAddr E.P 33 x0 x8) fun v66_33 => (k1 (xload E.P m 27 v66_33) fun v67_34 => (k1 (mfieldAddr E.P 120 x7 2) fun v69_35 => (k1 (xload E.P m 56 v69_35) fun v70_36 => (kc (kB m (kv call m.length v70_36 [v63_32, x2] m)) (fun v73_37 m => (k1 (mindexAddr E.P 27 v67_34 x9) fun v74_38 => (ks (xstore E.P base m 3 v74_38 v73_37) fun m => (k1 (mbin E .add 3 x9 (.int .i64 1)) fun v26_39 => (ih x0 x1 x2 x7 x8 v26_39 m))))) (fun _ _ => none))))))) (fun _ _ => none))) (fun _ _ => none))))))))))))) (fun _ _ => none)))))))))))))) (kx2 x0 x1 x2 x7 x8 m))))) n
noncomputable def r99_L0 (call : CallF) (fuel base : Nat) (kx0 : M → Res2) (n : Nat) : Value → Value → Value → Value → Value → M → Res2 :=
  Nat.rec (motive := fun _ => Value → Value → Value → Value → Value → M → Res2) (fun _ _ _ _ _ _ => none)
    (fun _ ih x0 x1 x2 x7 x8 m =>
      (k2 (vcall E.P base m .len [33] [x0]) fun v15_3 m => (k1 (mbin E .lss 3 x8 v15_3) fun v16_4 => (kb v16_4 (k1 (mbin E .add 3 x1 (.int .i64 1)) fun v20_5 => (r99_L2 call fuel base (fun y0_40 y1_41 y2_42 y7_43 y8_44 m => (k1 (mbin E .add 3 y8_44 (.int .i64 1)) fun v18_45 => (ih y0_40 y1_41 y2_42 y7_43 v18_45 m))) fuel x0 x1 x2 x7 x8 v20_5 m)) (kx0 m))))) n
noncomputable def r99 (call : CallF) (fuel base : Nat) (x0 : Value) (x1 : Value) (x2 : Value) (x3 : Value) (m : M) : Res2 :=
  (k2 (xbox m x3) fun v7_1 m => (k1 (mbin E .add 3 x1 (.int .i64 1)) fun v12_2 => (r99_L0 call fuel base (fun m => (some (.ret (.tuple #[]), m))) fuel x0 x1 x2 v7_1 v12_2 m)))
def keep99 : Keep := { region := fun i => ([[0, 1, 2, 7], [0, 1, 2, 7, 8], [0, 1, 2, 7, 8, 16], [0, 1, 2, 7, 8], [0, 1, 2, 7, 8, 9], [0, 1, 2, 7, 8, 9, 24], [0, 1, 2, 7, 8, 9], [0, 1, 2, 7, 8, 9, 10], [0, 1, 2, 7, 8, 9]] : List (List Nat))[i]?, exit := fun i => ([[], [0, 1, 2, 7, 8], [0, 1, 2, 7, 8], [0, 1, 2, 7, 8, 9]] : List (List Nat))[i]?, ret := some [] }
noncomputable def r99_L2_R (call : CallF) (fuel base n : Nat) (vs : List Value) (m : M) (K : KT) : Res2 := match vs with
  | [x0, x1, x2, x7, x8, x9] => r99_L2 call fuel base (fun y0 y1 y2 y7 y8 m => K (.exit 2) { n := 75, l := [(0, y0), (1, y1), (2, y2), (7, y7), (8, y8)] } m) n x0 x1 x2 x7 x8 x9 m
  | _ => none
noncomputable def r99_L0_R (call : CallF) (fuel base n : Nat) (vs : List Value) (m : M) (K : KT) : Res2 := match vs with
  | [x0, x1, x2, x7, x8] => r99_L0 call fuel base (fun m => K (.exit 0) { n := 75, l := [] } m) n x0 x1 x2 x7 x8 m
  | _ => none
noncomputable def lp99 (call : CallF) (fuel base : Nat) : Lp := lpsel [(2, fun T m K => kslots 75 [0, 1, 2, 7, 8, 9] T fun vs => r99_L2_R call fuel base fuel vs m K), (0, fun T m K => kslots 75 [0, 1, 2, 7, 8] T fun vs => r99_L0_R call fuel base fuel vs m K)]
noncomputable def c99 : Code := Try.f99.body.getD .skip
theorem r99_L2_lk (call : CallF) (fuel base : Nat) : LoopsOk E call (lp99 call fuel base) fuel base 2 (loopB (blockB (seqR (blockB (seqL (seqR (loopB (blockB (seqR (seqR c99)))))))))) = (And (And True (And True True)) (And (And True True) True)) := by kernel_rfl
theorem r99_L2_ok (call : CallF) (fuel base : Nat) : LpOk E call (lp99 call fuel base) fuel base 2 (loopB (blockB (seqR (blockB (seqL (seqR (loopB (blockB (seqR (seqR c99)))))))))) := by
  refine loop_ok (kp := keep99) (hb := Eq.mpr (r99_L2_lk call fuel base) (And.intro (And.intro trivial (And.intro trivial trivial)) (And.intro (And.intro trivial trivial) trivial))) 75 [0, 1, 2, 7, 8, 9] (fun n vs m K => r99_L2_R call fuel base n vs m K) ?_ ?_ (fun _ _ _ => rfl)
  · intro vs m K
    unfold r99_L2_R
    split <;> rfl
  · intro n vs m K hl
    match vs, hl with
    | [x0, x1, x2, x7, x8, x9], _ => show _ = _; kernel_rfl
theorem r99_L0_lk (call : CallF) (fuel base : Nat) : LoopsOk E call (lp99 call fuel base) fuel base 0 (loopB (blockB (seqR (seqR c99)))) = (And (And True (And True True)) (And (And True (LpOk E call (lp99 call fuel base) fuel base 2 (loopB (blockB (seqR (blockB (seqL (seqR (loopB (blockB (seqR (seqR c99)))))))))))) True)) := by kernel_rfl
theorem r99_L0_ok (call : CallF) (fuel base : Nat) : LpOk E call (lp99 call fuel base) fuel base 0 (loopB (blockB (seqR (seqR c99)))) := by
  refine loop_ok (kp := keep99) (hb := Eq.mpr (r99_L0_lk call fuel base) (And.intro (And.intro trivial (And.intro trivial trivial)) (And.intro (And.intro trivial (r99_L2_ok call fuel base)) trivial))) 75 [0, 1, 2, 7, 8] (fun n vs m K => r99_L0_R call fuel base n vs m K) ?_ ?_ (fun _ _ _ => rfl)
  · intro vs m K
    unfold r99_L0_R
    split <;> rfl
  · intro n vs m K hl
    match vs, hl with
    | [x0, x1, x2, x7, x8], _ => show _ = _; kernel_rfl
theorem r99_eq (call : CallF) (fuel base : Nat) (x0 : Value) (x1 : Value) (x2 : Value) (x3 : Value) (m : M) : kbody E call keep99 (lp99 call fuel base) base Try.f99 [x0, x1, x2, x3] m = r99 call fuel base x0 x1 x2 x3 m := by
  kernel_rfl
noncomputable def rf99 : RF := fun call fuel base args m => match args with
  | [x0, x1, x2, x3] => r99 call fuel base x0 x1 x2 x3 m
  | _ => none
theorem r99_lk (call : CallF) (fuel base : Nat) : LoopsOk E call (lp99 call fuel base) fuel base 0 c99 = (And True (And True (LpOk E call (lp99 call fuel base) fuel base 0 (loopB (blockB (seqR (seqR c99))))))) := by kernel_rfl
theorem r99_fn : E.P.funcs[99]? = some Try.f99 := by kernel_rfl
theorem r99_body : Try.f99.body = some c99 := by kernel_rfl
theorem rf99_ok : RFok E 99 rf99 := by
  show RFok' E 99 rf99
  refine ⟨Try.f99, r99_fn, fun call fuel base args m r _ h => ?_⟩
  unfold rf99 at h
  split at h
  · rw [← r99_eq] at h
    exact kbody_sound (c := c99) r99_body (Eq.mpr (r99_lk call fuel base) (And.intro trivial (And.intro trivial (r99_L0_ok call fuel base)))) h
  · simp at h
end Go.AM
namespace Go.AM
open Go Go.Proofs
noncomputable def r100 (call : CallF) (fuel base : Nat) (x0 : Value) (x1 : Value) (m : M) : Res2 :=
  (k2 (xbox m x0) fun v2_1 m => (k1 (xload E.P m 23 x1) fun v5_2 => (kc (call base 101 [v5_2] m) (fun v6_3 m => (k2 (xalloc E.P m 104) fun v3_4 m => (ks (xstore E.P base m 104 v3_4 v6_3) fun m => (k2 (xalloc E.P m 126) fun v4_5 m => (ks (xstore E.P base m 126 v4_5 (.func (.func 102) #[] #[x1, v2_1, v3_4, v4_5])) fun m => (k1 (xload E.P m 126 v4_5) fun v8_6 => (k1 (xload E.P m 23 x1) fun v9_7 => (k1 (mbuild E.P 79 [(0, v9_7)]) fun v10_8 => (k1 (xload E.P m 104 v3_4) fun v11_9 => (k1 (xload E.P m 104 v3_4) fun v12_10 => (k2 (vcall E.P base m .len [104] [v12_10]) fun v13_11 m => (k1 (mbin E .sub 3 v13_11 (.int .i64 1)) fun v14_12 => (k1 (mindexAddr E.P 104 v11_9 v14_12) fun v15_13 => (k1 (xload E.P m 76 v15_13) fun v16_14 => (kc (kv call base v8_6 [v10_8, (.int .i64 0), v16_14] m) (fun v17_15 m => (some (.ret (.tuple #[]), m))) (fun _ _ => none)))))))))))))))) (fun v m => some (.pan v, m)))))
def keep100 : Keep := { region := fun i => ([[1, 2], [1, 2, 3], [1, 2, 3, 4], [1, 3, 4], []] : List (List Nat))[i]?, exit := fun i => ([] : List (List Nat))[i]?, ret := some [] }
noncomputable def lp100 (call : CallF) (fuel base : Nat) : Lp := lpsel []
noncomputable def c100 : Code := Try.f100.body.getD .skip
theorem r100_eq (call : CallF) (fuel base : Nat) (x0 : Value) (x1 : Value) (m : M) : kbody E call keep100 (lp100 call fuel base) base Try.f100 [x0, x1] m = r100 call fuel base x0 x1 m := by
  kernel_rfl
noncomputable def rf100 : RF := fun call fuel base args m => match args with
  | [x0, x1] => r100 call fuel base x0 x1 m
  | _ => none
theorem r100_lk (call : CallF) (fuel base : Nat) : LoopsOk E call (lp100 call fuel base) fuel base 0 c100 = (And True (And True (And True (And True True)))) := by kernel_rfl
theorem r100_fn : E.P.funcs[100]? = some Try.f100 := by kernel_rfl
theorem r100_body : Try.f100.body = some c100 := by kernel_rfl
theorem rf100_ok : RFok E 100 rf100 := by
  show RFok' E 100 rf100
  refine ⟨Try.f100, r100_fn, fun call fuel base args m r _ h => ?_⟩
  unfold rf100 at h
  split at h
  · rw [← r100_eq] at h
    exact kbody_sound (c := c100) r100_body (Eq.mpr (r100_lk call fuel base) (And.intro trivial (And.intro trivial (And.intro trivial (And.intro trivial trivial))))) h
  · simp at h
end Go.AM
namespace Go.AM
open Go Go.Proofs
noncomputable def r101 (call : CallF) (fuel base : Nat) (x0 : Value) (m : M) : Res2 :=
  (k2 (xbox m x0) fun v1_1 m => (k2 (xalloc E.P m 104) fun v3_2 m => (k2 (xalloc E.P m 134) fun v4_3 m => (ks (xstore E.P base m 134 v4_3 (.func (.func 114) #[] #[v1_1, v3_2, v4_3])) fun m => (k1 (xload E.P m 134 v4_3) fun v6_4 => (k1 (mbuild E.P 76 []) fun v7_5 => (k1 (mfieldAddr E.P 23 v1_1 2) fun v8_6 => (k1 (xload E.P m 3 v8_6) fun v9_7 => (kc (kv call base v6_4 [v7_5, (.int .i64 0), v9_7] m) (fun v10_8 m => (k1 (xload E.P m 104 v3_2) fun v11_9 => (fVal v11_9 fun v => some (.ret v, m)))) (fun v m => some (.pan v, m)))))))))))
def keep101 : Keep := { region := fun i => ([[1], [1, 3], [1, 3, 4], [1, 3, 4], [3], [2]] : List (List Nat))[i]?, exit := fun i => ([] : List (List Nat))[i]?, ret := some [2] }
noncomputable def lp101 (call : CallF) (fuel base : Nat) : Lp := lpsel []
noncomputable def c101 : Code := Try.f101.body.getD .skip
theorem r101_eq (call : CallF) (fuel base : Nat) (x0 : Value) (m : M) : kbody E call keep101 (lp101 call fuel base) base Try.f101 [x0] m = r101 call fuel base x0 m := by
  kernel_rfl
noncomputable def rf101 : RF := fun call fuel base args m => match args with
  | [x0] => r101 call fuel base x0 m
  | _ => none
theorem r101_lk (call : CallF) (fuel base : Nat) : LoopsOk E call (lp101 call fuel base) fuel base 0 c101 = (And True (And True (And True (And True (And True (And True True)))))) := by kernel_rfl
theorem r101_fn : E.P.funcs[101]? = some Try.f101 := by kernel_rfl
theorem r101_body : Try.f101.body = some c101 := by kernel_rfl
theorem rf101_ok : RFok E 101 rf101 := by
  show RFok' E 101 rf101
  refine ⟨Try.f101, r101_fn, fun call fuel base args m r _ h => ?_⟩
  unfold rf101 at h
  split at h
  · rw [← r101_eq] at h
    exact kbody_sound (c := c101) r101_body (Eq.mpr (r101_lk call fuel base) (And.intro trivial (And.intro trivial (And.intro trivial (And.intro trivial (And.intro trivial (And.intro trivial trivial))))))) h
  · simp at h
end Go.AM
namespace Go.AM
open Go Go.Proofs
noncomputable def r102_L0 (call : CallF) (fuel base : Nat) (kp : Value → M → Res2) (kr : Value → M → Res2) (kx0 : M → Res2) (n : Nat) : Value → Value → Value → Value → Value → Value → Value → M → Res2 :=
  Nat.rec (motive := fun _ => Value → Value → Value → Value → Value → Value → Value → M → Res2) (fun _ _ _ _ _ _ _ _ => none)
    (fun _ ih x1 x6 x7 x9 x20 x21 x22 m =>
      (k1 (mbin E .lss 3 x22 x21) fun v23_11 => (kb v23_11 (k1 (mindexAddr E.P 104 x20 x22) fun v24_12 => (k1 (xload E.P m 76 v24_12) fun v25_13 => (k2 (xalloc E.P m 76) fun v12_14 m => (ks (xstore E.P base m 76 v12_14 v25_13) fun m => (k1 (xload E.P m 76 v12_14) fun v26_15 => (k1 (xload E.P m 76 x9) fun v27_16 => (kc (call base 103 [v26_15, v27_16] m) (fun v28_17 m => (k1 (mun .not v28_17) fun v29_18 => (kb v29_18 (k1 (mbin E .add 3 x22 (.int .i64 1)) fun v41_19 => (ih x1 x6 x7 x9 x20 x21 v41_19 m)) (k1 (xload E.P m 76 v12_14) fun v31_20 => (k1 (mfieldAddr E.P 79 x7 1) fun v32_21 => (k1 (mindexAddr E.P 77 v32_21 x1) fun v33_22 => (ks (xstore E.P base m 76 v33_22 v31_20) fun m => (k1 (xload E.P m 126 x6) fun v34_23 => (k1 (xload E.P m 79 x7) fun v35_24 => (k1 (mbin E .add 3 x1 (.int .i64 1)) fun v37_25 => (k1 (xload E.P m 76 v12_14) fun v38_26 => (kc (kv call base v34_23 [v35_24, v37_25, v38_26] m) (fun v39_27 m => (k1 (mun .not v39_27) fun v40_28 => (kb v40_28 (kr (.bool false) m) (k1 (mbin E .add 3 x22 (.int .i64 1)) fun v41_29 => (ih x1 x6 x7 x9 x20 x21 v41_29 m))))) (fun v m => kp v m))))))))))))) (fun v m => kp v m)))))))) (kx0 m)))) n
noncomputable def r102 (call : CallF) (fuel base : Nat) (x0 : Value) (x1 : Value) (x2 : Value) (x3 : Value) (x4 : Value) (x5 : Value) (x6 : Value) (m : M) : Res2 :=
  (k2 (xbox m x0) fun v7_1 m => (k2 (xbox m x2) fun v9_2 m => (k1 (mfieldAddr E.P 23 x3 0) fun v14_3 => (k1 (xload E.P m 3 v14_3) fun v15_4 => (k1 (mbin E .eql 3 x1 v15_4) fun v16_5 => (kb v16_5 (k1 (xload E.P m 124 x4) fun v17_6 => (k1 (xload E.P m 79 v7_1) fun v18_7 => (kc (kv call base v17_6 [v18_7] m) (fun v19_8 m => (fVal v19_8 fun v => some (.ret v, m))) (fun v m => some (.pan v, m))))) (k1 (xload E.P m 104 x5) fun v20_9 => (k2 (vcall E.P base m .len [104] [v20_9]) fun v21_10 m => (r102_L0 call fuel base (fun v m => some (.pan v, m)) (fun y10_30 m => (fVal y10_30 fun v => some (.ret v, m))) (fun m => (fVal (.bool true) fun v => some (.ret v, m))) fuel x1 x6 v7_1 v9_2 v20_9 v21_10 (.int .i64 0) m)))))))))
def keep102 : Keep := { region := fun i => ([[1, 3, 4, 5, 6, 7, 9], [1, 4, 5, 6, 7, 9, 16], [10], [1, 6, 7, 9, 20, 21, 22], [1, 6, 7, 9, 20, 21, 22, 23], [1, 6, 7, 9, 12, 20, 21, 22], [1, 6, 7, 9, 12, 20, 21, 22, 29], [1, 6, 7, 9, 12, 20, 21, 22], [1, 6, 7, 9, 20, 21, 22, 40], [10], [1, 6, 7, 9, 20, 21, 22], [10]] : List (List Nat))[i]?, exit := fun i => ([[], [1, 6, 7, 9, 20, 21, 22]] : List (List Nat))[i]?, ret := some [10] }
noncomputable def r102_L0_R (call : CallF) (fuel base n : Nat) (vs : List Value) (m : M) (K : KT) : Res2 := match vs with
  | [x1, x6, x7, x9, x20, x21, x22] => r102_L0 call fuel base (fun v m => K (.pan v) { n := 42, l := [] } m) (fun y10 m => K .ret { n := 42, l := [(10, y10)] } m) (fun m => K (.exit 0) { n := 42, l := [] } m) n x1 x6 x7 x9 x20 x21 x22 m
  | _ => none
noncomputable def lp102 (call : CallF) (fuel base : Nat) : Lp := lpsel [(0, fun T m K => kslots 42 [1, 6, 7, 9, 20, 21, 22] T fun vs => r102_L0_R call fuel base fuel vs m K)]
noncomputable def c102 : Code := Try.f102.body.getD .skip
theorem r102_L0_lk (call : CallF) (fuel base : Nat) : LoopsOk E call (lp102 call fuel base) fuel base 0 (loopB (blockB (seqR (seqL (seqR (seqR c102)))))) = (And True (And (And True True) (And (And True (And (And True (And True True)) (And True (And True (And (And True True) True))))) True))) := by kernel_rfl
theorem r102_L0_ok (call : CallF) (fuel base : Nat) : LpOk E call (lp102 call fuel base) fuel base 0 (loopB (blockB (seqR (seqL (seqR (seqR c102)))))) := by
  refine loop_ok (kp := keep102) (hb := Eq.mpr (r102_L0_lk call fuel base) (And.intro trivial (And.intro (And.intro trivial trivial) (And.intro (And.intro trivial (And.intro (And.intro trivial (And.intro trivial trivial)) (And.intro trivial (And.intro trivial (And.intro (And.intro trivial trivial) trivial))))) trivial)))) 42 [1, 6, 7, 9, 20, 21, 22] (fun n vs m K => r102_L0_R call fuel base n vs m K) ?_ ?_ (fun _ _ _ => rfl)
  · intro vs m K
    unfold r102_L0_R
    split <;> rfl
  · intro n vs m K hl
    match vs, hl with
    | [x1, x6, x7, x9, x20, x21, x22], _ => show _ = _; kernel_rfl
theorem r102_eq (call : CallF) (fuel base : Nat) (x0 : Value) (x1 : Value) (x2 : Value) (x3 : Value) (x4 : Value) (x5 : Value) (x6 : Value) (m : M) : kbody E call keep102 (lp102 call fuel base) base Try.f102 [x0, x1, x2, x3, x4, x5, x6] m = r102 call fuel base x0 x1 x2 x3 x4 x5 x6 m := by
  kernel_rfl
noncomputable def rf102 : RF := fun call fuel base args m => match args with
  | [x0, x1, x2, x3, x4, x5, x6] => r102 call fuel base x0 x1 x2 x3 x4 x5 x6 m
  | _ => none
theorem r102_lk (call : CallF) (fuel base : Nat) : LoopsOk E call (lp102 call fuel base) fuel base 0 c102 = (And True (And (And True (And (And True True) True)) (And (And True (LpOk E call (lp102 call fuel base) fuel base 0 (loopB (blockB (seqR (seqL (seqR (seqR c102)))))))) (And True True)))) := by kernel_rfl
theorem r102_fn : E.P.funcs[102]? = some Try.f102 := by kernel_rfl
theorem r102_body : Try.f102.body = some c102 := by kernel_rfl
theorem rf102_ok : RFok E 102 rf102 := by
  show RFok' E 102 rf102
  refine ⟨Try.f102, r102_fn, fun call fuel base args m r _ h => ?_⟩
  unfold rf102 at h
  split at h
  · rw [← r102_eq] at h
    exact kbody_sound (c := c102) r102_body (Eq.mpr (r102_lk call fuel base) (And.intro trivial (And.intro (And.intro trivial (And.intro (And.intro trivial trivial) trivial)) (And.intro (And.intro trivial (r102_L0_ok call fuel base)) (And.intro trivial trivial))))) h
  · simp at h
end Go.AM
namespace Go.AM
open Go Go.Proofs
noncomputable def r103_L0 (call : CallF) (fuel base : Nat) (kr : Value → M → Res2) (kx0 : M → Res2) (n : Nat) : Value → Value → Value → M → Res2 :=
  Nat.rec (motive := fun _ => Value → Value → Value → M → Res2) (fun _ _ _ _ => none)
    (fun _ ih x3 x7 x8 m =>
      (k1 (mbin E .lss 3 x8 (.int .i64 4)) fun v9_4 => (kb v9_4 (k1 (mindex E.P 76 x7 x8) fun v11_5 => (k1 (mindexAddr E.P 76 x3 x8) fun v14_6 => (k1 (xload E.P m 3 v14_6) fun v15_7 => (k1 (mbin E .gtr 3 v11_5 v15_7) fun v16_8 => (kb v16_8 (kr (.bool false) m) (k1 (mbin E .add 3 x8 (.int .i64 1)) fun v17_9 => (ih x3 x7 v17_9 m))))))) (kx0 m)))) n
noncomputable def r103 (call : CallF) (fuel base : Nat) (x0 : Value) (x1 : Value) (m : M) : Res2 :=
  (k2 (xbox m x0) fun v2_1 m => (k2 (xbox m x1) fun v3_2 m => (k1 (xload E.P m 76 v2_1) fun v7_3 => (r103_L0 call fuel base (fun y4_10 m => (fVal y4_10 fun v => some (.ret v, m))) (fun m => (fVal (.bool true) fun v => some (.ret v, m))) fuel v3_2 v7_3 (.int .i64 0) m))))
def keep103 : Keep := { region := fun i => ([[2, 3], [3, 7, 8], [3, 7, 8, 9], [3, 5, 6, 7, 8], [3, 7, 8, 16], [4], [3, 7, 8], [4]] : List (List Nat))[i]?, exit := fun i => ([[], [3, 7, 8]] : List (List Nat))[i]?, ret := some [4] }
noncomputable def r103_L0_R (call : CallF) (fuel base n : Nat) (vs : List Value) (m : M) (K : KT) : Res2 := match vs with
  | [x3, x7, x8] => r103_L0 call fuel base (fun y4 m => K .ret { n := 18, l := [(4, y4)] } m) (fun m => K (.exit 0) { n := 18, l := [] } m) n x3 x7 x8 m
  | _ => none
noncomputable def lp103 (call : CallF) (fuel base : Nat) : Lp := lpsel [(0, fun T m K => kslots 18 [3, 7, 8] T fun vs => r103_L0_R call fuel base fuel vs m K)]
noncomputable def c103 : Code := Try.f103.body.getD .skip
theorem r103_L0_lk (call : CallF) (fuel base : Nat) : LoopsOk E call (lp103 call fuel base) fuel base 0 (loopB (blockB (seqR (seqL (seqR c103))))) = (And True (And (And True True) (And (And True (And True (And (And True True) True))) True))) := by kernel_rfl
theorem r103_L0_ok (call : CallF) (fuel base : Nat) : LpOk E call (lp103 call fuel base) fuel base 0 (loopB (blockB (seqR (seqL (seqR c103))))) := by
  refine loop_ok (kp := keep103) (hb := Eq.mpr (r103_L0_lk call fuel base) (And.intro trivial (And.intro (And.intro trivial trivial) (And.intro (And.intro trivial (And.intro trivial (And.intro (And.intro trivial trivial) trivial))) trivial)))) 18 [3, 7, 8] (fun n vs m K => r103_L0_R call fuel base n vs m K) ?_ ?_ (fun _ _ _ => rfl)
  · intro vs m K
    unfold r103_L0_R
    split <;> rfl
  · intro n vs m K hl
    match vs, hl with
    | [x3, x7, x8], _ => show _ = _; kernel_rfl
theorem r103_eq (call : CallF) (fuel base : Nat) (x0 : Value) (x1 : Value) (m : M) : kbody E call keep103 (lp103 call fuel base) base Try.f103 [x0, x1] m = r103 call fuel base x0 x1 m := by
  kernel_rfl
noncomputable def rf103 : RF := fun call fuel base args m => match args with
  | [x0, x1] => r103 call fuel base x0 x1 m
  | _ => none
theorem r103_lk (call : CallF) (fuel base : Nat) : LoopsOk E call (lp103 call fuel base) fuel base 0 c103 = (And True (And (And True (LpOk E call (lp103 call fuel base) fuel base 0 (loopB (blockB (seqR (seqL (seqR c103))))))) (And True True))) := by kernel_rfl
theorem r103_fn : E.P.funcs[103]? = some Try.f103 := by kernel_rfl
theorem r103_body : Try.f103.body = some c103 := by kernel_rfl
theorem rf103_ok : RFok E 103 rf103 := by
  show RFok' E 103 rf103
  refine ⟨Try.f103, r103_fn, fun call fuel base args m r _ h => ?_⟩
  unfold rf103 at h
  split at h
  · rw [← r103_eq] at h
    exact kbody_sound (c := c103) r103_body (Eq.mpr (r103_lk call fuel base) (And.intro trivial (And.intro (And.intro trivial (r103_L0_ok call fuel base)) (And.intro trivial trivial)))) h
  · simp at h
end Go.AM
namespace Go.AM
open Go Go.Proofs
noncomputable def r104 (call : CallF) (fuel base : Nat) (x0 : Value) (x1 : Value) (x2 : Value) (m : M) : Res2 :=
  (k2 (xbox m x0) fun v3_1 m => (k1 (mbin E .lss 3 x1 (.int .i64 0)) fun v15_2 => (kb v15_2 (k1 (mfieldAddr E.P 79 v3_1 0) fun v20_3 => (k1 (mfieldAddr E.P 23 v20_3 2) fun v21_4 => (k1 (xload E.P m 3 v21_4) fun v22_5 => (fVal v22_5 fun v => some (.ret v, m))))) (k1 (mbin E .lss 3 x2 (.int .i64 0)) fun v18_6 => (kb v18_6 (k1 (mfieldAddr E.P 79 v3_1 0) fun v20_7 => (k1 (mfieldAddr E.P 23 v20_7 2) fun v21_8 => (k1 (xload E.P m 3 v21_8) fun v22_9 => (fVal v22_9 fun v => some (.ret v, m))))) (k1 (mfieldAddr E.P 79 v3_1 0) fun v25_10 => (k1 (mfieldAddr E.P 23 v25_10 0) fun v26_11 => (k1 (xload E.P m 3 v26_11) fun v27_12 => (k1 (mbin E .geq 3 x1 v27_12) fun v28_13 => (kb v28_13 (fVal (.int .i64 0) fun v => some (.ret v, m)) (k1 (mfieldAddr E.P 79 v3_1 0) fun v31_14 => (k1 (mfieldAddr E.P 23 v31_14 1) fun v32_15 => (k1 (xload E.P m 3 v32_15) fun v33_16 => (k1 (mbin E .geq 3 x2 v33_16) fun v34_17 => (kb v34_17 (fVal (.int .i64 0) fun v => some (.ret v, m)) (k1 (mfieldAddr E.P 79 v3_1 1) fun v9_18 => (k1 (mindexAddr E.P 77 v9_18 x1) fun v10_19 => (k1 (mindexAddr E.P 76 v10_19 x2) fun v11_20 => (k1 (xload E.P m 3 v11_20) fun v12_21 => (fVal v12_21 fun v => some (.ret v, m)))))))))))))))))))))
def keep104 : Keep := { region := fun i => ([[1, 2, 3], [6], [1, 2, 3, 13], [6], [1, 2, 3, 23], [6]] : List (List Nat))[i]?, exit := fun i => ([[6]] : List (List Nat))[i]?, ret := some [6] }
noncomputable def lp104 (call : CallF) (fuel base : Nat) : Lp := lpsel []
noncomputable def c104 : Code := Try.f104.body.getD .skip
theorem r104_eq (call : CallF) (fuel base : Nat) (x0 : Value) (x1 : Value) (x2 : Value) (m : M) : kbody E call keep104 (lp104 call fuel base) base Try.f104 [x0, x1, x2] m = r104 call fuel base x0 x1 x2 m := by
  kernel_rfl
noncomputable def rf104 : RF := fun call fuel base args m => match args with
  | [x0, x1, x2] => r104 call fuel base x0 x1 x2 m
  | _ => none
theorem r104_lk (call : CallF) (fuel base : Nat) : LoopsOk E call (lp104 call fuel base) fuel base 0 c104 = (And True (And True (And (And True True) (And True (And (And True True) (And True True)))))) := by kernel_rfl
theorem r104_fn : E.P.funcs[104]? = some Try.f104 := by kernel_rfl
theorem r104_body : Try.f104.body = some c104 := by kernel_rfl
theorem rf104_ok : RFok E 104 rf104 := by
  show RFok' E 104 rf104
  refine ⟨Try.f104, r104_fn, fun call fuel base args m r _ h => ?_⟩
  unfold rf104 at h
  split at h
  · rw [← r104_eq] at h
    exact kbody_sound (c := c104) r104_body (Eq.mpr (r104_lk call fuel base) (And.intro trivial (And.intro trivial (And.intro (And.intro trivial trivial) (And.intro trivial (And.intro (And.intro trivial trivial) (And.intro trivial trivial))))))) h
  · simp at h
end Go.AM
namespace Go.AM
open Go Go.Proofs
noncomputable def r105_L0 (call : CallF) (fuel base : Nat) (kx0 : Value → M → Res2) (n : Nat) : Value → Value → M → Res2 :=
  Nat.rec (motive := fun _ => Value → Value → M → Res2) (fun _ _ _ => none)
    (fun _ ih x7 x8 m =>
      (k2 (vcall E.P base m .len [27] [x7]) fun v36_13 m => (k1 (mbin E .lss 3 x8 v36_13) fun v37_14 => (kb v37_14 (k1 (mslice E.P m 27 x7 (some x8) none none) fun v41_15 => (k1 (mslice E.P m 27 x7 none (some x8) none) fun v44_16 => (k2 (vcall E.P base m .copy [27, 27] [v41_15, v44_16]) fun v45_17 m => (k1 (mbin E .add 3 x8 v45_17) fun v46_18 => (ih x7 v46_18 m))))) (kx0 x7 m))))) n
noncomputable def r105 (call : CallF) (fuel base : Nat) (x0 : Value) (x1 : Value) (m : M) : Res2 :=
  (k1 (mbin E .lss 3 x1 (.int .i64 0)) fun v10_1 => (kb v10_1 none (k2 (vcall E.P base m .len [27] [x0]) fun v14_2 m => (k1 (mconvert E.P 3 132 v14_2) fun v15_3 => (k1 (mconvert E.P 3 132 x1) fun v17_4 => (kc (call base 115 [v15_3, v17_4] m) (fun v18_5 m => (k1 (mextract 0 v18_5) fun v19_6 => (k1 (mextract 1 v18_5) fun v20_7 => (k1 (mbin E .gtr 132 v19_6 (.int .u64 0)) fun v22_8 => (kb v22_8 none (k1 (mbin E .gtr 132 v20_7 (.int .u64 9223372036854775807)) fun v25_9 => (kb v25_9 none (k1 (mconvert E.P 132 3 v20_7) fun v29_10 => (k2 (xmakeSlice E.P m 27 v29_10 v29_10) fun v30_11 m => (k2 (vcall E.P base m .copy [27, 27] [v30_11, x0]) fun v33_12 m => (r105_L0 call fuel base (fun y7_19 m => (fVal y7_19 fun v => some (.ret v, m))) fuel v30_11 v33_12 m))))))))))) (fun v m => some (.pan v, m))))))))
def keep105 : Keep := { region := fun i => ([[0, 1], [0, 1, 10], [0, 1], [0, 5, 6], [0, 6, 26], [0, 6], [0, 7], [7, 8], [7, 8, 37], [7, 8], [4]] : List (List Nat))[i]?, exit := fun i => ([[7], [7, 8]] : List (List Nat))[i]?, ret := some [4] }
noncomputable def r105_L0_R (call : CallF) (fuel base n : Nat) (vs : List Value) (m : M) (K : KT) : Res2 := match vs with
  | [x7, x8] => r105_L0 call fuel base (fun y7 m => K (.exit 0) { n := 48, l := [(7, y7)] } m) n x7 x8 m
  | _ => none
noncomputable def lp105 (call : CallF) (fuel base : Nat) : Lp := lpsel [(0, fun T m K => kslots 48 [7, 8] T fun vs => r105_L0_R call fuel base fuel vs m K)]
noncomputable def c105 : Code := Try.f105.body.getD .skip
theorem r105_L0_lk (call : CallF) (fuel base : Nat) : LoopsOk E call (lp105 call fuel base) fuel base 0 (loopB (blockB (seqL (seqR (seqR (seqR (seqR (seqR (seqR c105))))))))) = (And (And True (And True True)) True) := by kernel_rfl
theorem r105_L0_ok (call : CallF) (fuel base : Nat) : LpOk E call (lp105 call fuel base) fuel base 0 (loopB (blockB (seqL (seqR (seqR (seqR (seqR (seqR (seqR c105))))))))) := by
  refine loop_ok (kp := keep105) (hb := Eq.mpr (r105_L0_lk call fuel base) (And.intro (And.intro trivial (And.intro trivial trivial)) trivial)) 48 [7, 8] (fun n vs m K => r105_L0_R call fuel base n vs m K) ?_ ?_ (fun _ _ _ => rfl)
  · intro vs m K
    unfold r105_L0_R
    split <;> rfl
  · intro n vs m K hl
    match vs, hl with
    | [x7, x8], _ => show _ = _; kernel_rfl
theorem r105_eq (call : CallF) (fuel base : Nat) (x0 : Value) (x1 : Value) (m : M) : kbody E call keep105 (lp105 call fuel base) base Try.f105 [x0, x1] m = r105 call fuel base x0 x1 m := by
  kernel_rfl
noncomputable def rf105 : RF := fun call fuel base args m => match args with
  | [x0, x1] => r105 call fuel base x0 x1 m
  | _ => none
theorem r105_lk (call : CallF) (fuel base : Nat) : LoopsOk E call (lp105 call fuel base) fuel base 0 c105 = (And True (And (And True (And True True)) (And True (And (And True (And True True)) (And True (And True (And (LpOk E call (lp105 call fuel base) fuel base 0 (loopB (blockB (seqL (seqR (seqR (seqR (seqR (seqR (seqR c105)))))))))) (And True True)))))))) := by kernel_rfl
theorem r105_fn : E.P.funcs[105]? = some Try.f105 := by kernel_rfl
theorem r105_body : Try.f105.body = some c105 := by kernel_rfl
theorem rf105_ok : RFok E 105 rf105 := by
  show RFok' E 105 rf105
  refine ⟨Try.f105, r105_fn, fun call fuel base args m r _ h => ?_⟩
  unfold rf105 at h
  split at h
  · rw [← r105_eq] at h
    exact kbody_sound (c := c105) r105_body (Eq.mpr (r105_lk call fuel base) (And.intro trivial (And.intro (And.intro trivial (And.intro trivial trivial)) (And.intro trivial (And.intro (And.intro trivial (And.intro trivial trivial)) (And.intro trivial (And.intro trivial (And.intro (r105_L0_ok call fuel base) (And.intro trivial trivial))))))))) h
  · simp at h
end Go.AM
namespace Go.AM
open Go Go.Proofs
noncomputable def r106_L0 (call : CallF) (fuel base : Nat) (kr : M → Res2) (kx0 : M → Res2) (n : Nat) : Value → Value → Value → Value → Value → Value → Value → M → Res2 :=
  Nat.rec (motive := fun _ => Value → Value → Value → Value → Value → Value → Value → M → Res2) (fun _ _ _ _ _ _ _ _ => none)
    (fun _ ih x0 x1 x2 x3 x8 x9 x10 m =>
      (k1 (mbin E .lss 3 x10 x9) fun v11_4 => (kb v11_4 (k1 (mindexAddr E.P 104 x8 x10) fun v13_5 => (k1 (xload E.P m 76 v13_5) fun v14_6 => (k2 (xalloc E.P m 76) fun v6_7 m => (ks (xstore E.P base m 76 v6_7 v14_6) fun m => (k1 (xload E.P m 76 v6_7) fun v15_8 => (k1 (xload E.P m 76 x2) fun v16_9 => (kc (kB m (call m.length 103 [v15_8, v16_9] m)) (fun v17_10 m => (kb v17_10 (k1 (xload E.P m 76 v6_7) fun v20_11 => (k1 (mfieldAddr E.P 106 x1 1) fun v21_12 => (k1 (xload E.P m 33 v21_12) fun v22_13 => (k1 (xload E.P m 3 x3) fun v23_14 => (k1 (mindexAddr E.P 33 v22_13 v23_14) fun v24_15 => (k1 (xload E.P m 27 v24_15) fun v25_16 => (k1 (mindexAddr E.P 27 v25_16 x10) fun v27_17 => (k1 (xload E.P m 3 v27_17) fun v28_18 => (kc (kv call base x0 [v20_11, v28_18] m) (fun v29_19 m => (k1 (mun .not v29_19) fun v30_20 => (kb v30_20 (kr m) (k1 (mbin E .add 3 x10 (.int .i64 1)) fun v32_21 => (ih x0 x1 x2 x3 x8 x9 v32_21 m))))) (fun _ _ => none)))))))))) (k1 (mbin E .add 3 x10 (.int .i64 1)) fun v32_22 => (ih x0 x1 x2 x3 x8 x9 v32_22 m)))) (fun _ _ => none)))))))) (kx0 m)))) n
noncomputable def r106 (call : CallF) (fuel base : Nat) (x0 : Value) (x1 : Value) (x2 : Value) (x3 : Value) (m : M) : Res2 :=
  (k1 (mfieldAddr E.P 106 x1 0) fun v7_1 => (k1 (xload E.P m 104 v7_1) fun v8_2 => (k2 (vcall E.P base m .len [104] [v8_2]) fun v9_3 m => (r106_L0 call fuel base (fun m => (some (.ret (.tuple #[]), m))) (fun m => (some (.ret (.tuple #[]), m))) fuel x0 x1 x2 x3 v8_2 v9_3 (.int .i64 0) m))))
def keep106 : Keep := { region := fun i => ([[0, 1, 2, 3, 8, 9, 10], [0, 1, 2, 3, 8, 9, 10, 11], [0, 1, 2, 3, 5, 6, 8, 9, 10], [0, 1, 2, 3, 8, 9, 10, 31], [0, 1, 2, 3, 8, 9, 10]] : List (List Nat))[i]?, exit := fun i => ([[], [0, 1, 2, 3, 8, 9, 10]] : List (List Nat))[i]?, ret := some [] }
noncomputable def r106_L0_R (call : CallF) (fuel base n : Nat) (vs : List Value) (m : M) (K : KT) : Res2 := match vs with
  | [x0, x1, x2, x3, x8, x9, x10] => r106_L0 call fuel base (fun m => K .ret { n := 33, l := [] } m) (fun m => K (.exit 0) { n := 33, l := [] } m) n x0 x1 x2 x3 x8 x9 x10 m
  | _ => none
noncomputable def lp106 (call : CallF) (fuel base : Nat) : Lp := lpsel [(0, fun T m K => kslots 33 [0, 1, 2, 3, 8, 9, 10] T fun vs => r106_L0_R call fuel base fuel vs m K)]
noncomputable def c106 : Code := Try.f106.body.getD .skip
theorem r106_L0_lk (call : CallF) (fuel base : Nat) : LoopsOk E call (lp106 call fuel base) fuel base 0 (loopB (blockB (seqR c106))) = (And True (And (And True True) (And (And True (And True (And True True))) True))) := by kernel_rfl
theorem r106_L0_ok (call : CallF) (fuel base : Nat) : LpOk E call (lp106 call fuel base) fuel base 0 (loopB (blockB (seqR c106))) := by
  refine loop_ok (kp := keep106) (hb := Eq.mpr (r106_L0_lk call fuel base) (And.intro trivial (And.intro (And.intro trivial trivial) (And.intro (And.intro trivial (And.intro trivial (And.intro trivial trivial))) trivial)))) 33 [0, 1, 2, 3, 8, 9, 10] (fun n vs m K => r106_L0_R call fuel base n vs m K) ?_ ?_ (fun _ _ _ => rfl)
  · intro vs m K
    unfold r106_L0_R
    split <;> rfl
  · intro n vs m K hl
    match vs, hl with
    | [x0, x1, x2, x3, x8, x9, x10], _ => show _ = _; kernel_rfl
theorem r106_eq (call : CallF) (fuel base : Nat) (x0 : Value) (x1 : Value) (x2 : Value) (x3 : Value) (m : M) : kbody E call keep106 (lp106 call fuel base) base Try.f106 [x0, x1, x2, x3] m = r106 call fuel base x0 x1 x2 x3 m := by
  kernel_rfl
noncomputable def rf106 : RF := fun call fuel base args m => match args with
  | [x0, x1, x2, x3] => r106 call fuel base x0 x1 x2 x3 m
  | _ => none
theorem r106_lk (call : CallF) (fuel base : Nat) : LoopsOk E call (lp106 call fuel base) fuel base 0 c106 = (And True (LpOk E call (lp106 call fuel base) fuel base 0 (loopB (blockB (seqR c106))))) := by kernel_rfl
theorem r106_fn : E.P.funcs[106]? = some Try.f106 := by kernel_rfl
theorem r106_body : Try.f106.body = some c106 := by kernel_rfl
theorem rf106_ok : RFok E 106 rf106 := by
  show RFok' E 106 rf106
  refine ⟨Try.f106, r106_fn, fun call fuel base args m r _ h => ?_⟩
  unfold rf106 at h
  split at h
  · rw [← r106_eq] at h
    exact kbody_sound (c := c106) r106_body (Eq.mpr (r106_lk call fuel base) (And.intro trivial (r106_L0_ok call fuel base))) h
  · simp at h
end Go.AM
namespace Go.AM
open Go Go.Proofs
noncomputable def r111 (call : CallF) (fuel base : Nat) (x0 : Value) (x1 : Value) (m : M) : Res2 :=
  (k1 (mbin E .mul 3 x0 x1) fun v7_1 => (fVal v7_1 fun v => some (.ret v, m)))
def keep111 : Keep := { region := fun i => ([[0, 1], [4]] : List (List Nat))[i]?, exit := fun i => ([] : List (List Nat))[i]?, ret := some [4] }
noncomputable def lp111 (call : CallF) (fuel base : Nat) : Lp := lpsel []
noncomputable def c111 : Code := Try.f111.body.getD .skip
theorem r111_eq (call : CallF) (fuel base : Nat) (x0 : Value) (x1 : Value) (m : M) : kbody E call keep111 (lp111 call fuel base) base Try.f111 [x0, x1] m = r111 call fuel base x0 x1 m := by
  kernel_rfl
noncomputable def rf111 : RF := fun call fuel base args m => match args with
  | [x0, x1] => r111 call fuel base x0 x1 m
  | _ => none
theorem r111_lk (call : CallF) (fuel base : Nat) : LoopsOk E call (lp111 call fuel base) fuel base 0 c111 = (And True (And True True)) := by kernel_rfl
theorem r111_fn : E.P.funcs[111]? = some Try.f111 := by kernel_rfl
theorem r111_body : Try.f111.body = some c111 := by kernel_rfl
theorem rf111_ok : RFok E 111 rf111 := by
  show RFok' E 111 rf111
  refine ⟨Try.f111, r111_fn, fun call fuel base args m r _ h => ?_⟩
  unfold rf111 at h
  split at h
  · rw [← r111_eq] at h
    exact kbody_sound (c := c111) r111_body (Eq.mpr (r111_lk call fuel base) (And.intro trivial (And.intro trivial trivial))) h
  · simp at h
end Go.AM
namespace Go.AM
open Go Go.Proofs
noncomputable def r112 (call : CallF) (fuel base : Nat) (x0 : Value) (x1 : Value) (m : M) : Res2 :=
  (k1 (mbin E .sub 3 x0 x1) fun v7_1 => (fVal v7_1 fun v => some (.ret v, m)))
def keep112 : Keep := { region := fun i => ([[0, 1], [4]] : List (List Nat))[i]?, exit := fun i => ([] : List (List Nat))[i]?, ret := some [4] }
noncomputable def lp112 (call : CallF) (fuel base : Nat) : Lp := lpsel []
noncomputable def c112 : Code := Try.f112.body.getD .skip
theorem r112_eq (call : CallF) (fuel base : Nat) (x0 : Value) (x1 : Value) (m : M) : kbody E call keep112 (lp112 call fuel base) base Try.f112 [x0, x1] m = r112 call fuel base x0 x1 m := by
  kernel_rfl
noncomputable def rf112 : RF := fun call fuel base args m => match args with
  | [x0, x1] => r112 call fuel base x0 x1 m
  | _ => none
theorem r112_lk (call : CallF) (fuel base : Nat) : LoopsOk E call (lp112 call fuel base) fuel base 0 c112 = (And True (And True True)) := by kernel_rfl
theorem r112_fn : E.P.funcs[112]? = some Try.f112 := by kernel_rfl
theorem r112_body : Try.f112.body = some c112 := by kernel_rfl
theorem rf112_ok : RFok E 112 rf112 := by
  show RFok' E 112 rf112
  refine ⟨Try.f112, r112_fn, fun call fuel base args m r _ h => ?_⟩
  unfold rf112 at h
  split at h
  · rw [← r112_eq] at h
    exact kbody_sound (c := c112) r112_body (Eq.mpr (r112_lk call fuel base) (And.intro trivial (And.intro trivial trivial))) h
  · simp at h
end Go.AM
namespace Go.AM
open Go Go.Proofs
noncomputable def r113 (call : CallF) (fuel base : Nat) (x0 : Value) (x1 : Value) (m : M) : Res2 :=
  (k1 (mbin E .quo 3 x0 x1) fun v7_1 => (fVal v7_1 fun v => some (.ret v, m)))
def keep113 : Keep := { region := fun i => ([[0, 1], [4]] : List (List Nat))[i]?, exit := fun i => ([] : List (List Nat))[i]?, ret := some [4] }
noncomputable def lp113 (call : CallF) (fuel base : Nat) : Lp := lpsel []
noncomputable def c113 : Code := Try.f113.body.getD .skip
theorem r113_eq (call : CallF) (fuel base : Nat) (x0 : Value) (x1 : Value) (m : M) : kbody E call keep113 (lp113 call fuel base) base Try.f113 [x0, x1] m = r113 call fuel base x0 x1 m := by
  kernel_rfl
noncomputable def rf113 : RF := fun call fuel base args m => match args with
  | [x0, x1] => r113 call fuel base x0 x1 m
  | _ => none
theorem r113_lk (call : CallF) (fuel base : Nat) : LoopsOk E call (lp113 call fuel base) fuel base 0 c113 = (And True (And True True)) := by kernel_rfl
theorem r113_fn : E.P.funcs[113]? = some Try.f113 := by kernel_rfl
theorem r113_body : Try.f113.body = some c113 := by kernel_rfl
theorem rf113_ok : RFok E 113 rf113 := by
  show RFok' E 113 rf113
  refine ⟨Try.f113, r113_fn, fun call fuel base args m r _ h => ?_⟩
  unfold rf113 at h
  split at h
  · rw [← r113_eq] at h
    exact kbody_sound (c := c113) r113_body (Eq.mpr (r113_lk call fuel base) (And.intro trivial (And.intro trivial trivial))) h
  · simp at h
end Go.AM
namespace Go.AM
open Go Go.Proofs
noncomputable def r114_L0 (call : CallF) (fuel base : Nat) (kp : Value → M → Res2) (kx0 : M → Res2) (n : Nat) : Value → Value → Value → Value → Value → M → Res2 :=
  Nat.rec (motive := fun _ => Value → Value → Value → Value → Value → M → Res2) (fun _ _ _ _ _ _ => none)
    (fun _ ih x1 x5 x6 x19 x20 m =>
      (k1 (mbin E .lss 3 x20 x19) fun v21_10 => (kb v21_10 (k1 (mindexAddr E.P 76 x6 x1) fun v25_11 => (ks (xstore E.P base m 3 v25_11 x20) fun m => (k1 (xload E.P m 134 x5) fun v26_12 => (k1 (xload E.P m 76 x6) fun v27_13 => (k1 (mbin E .add 3 x1 (.int .i64 1)) fun v29_14 => (kc (kv call base v26_12 [v27_13, v29_14, x20] m) (fun v31_15 m => (k1 (mbin E .add 3 x20 (.int .i64 1)) fun v32_16 => (ih x1 x5 x6 x19 v32_16 m))) (fun v m => kp v m))))))) (kx0 m)))) n
noncomputable def r114 (call : CallF) (fuel base : Nat) (x0 : Value) (x1 : Value) (x2 : Value) (x3 : Value) (x4 : Value) (x5 : Value) (m : M) : Res2 :=
  (k2 (xbox m x0) fun v6_1 m => (k1 (mfieldAddr E.P 23 x3 1) fun v11_2 => (k1 (xload E.P m 3 v11_2) fun v12_3 => (k1 (mbin E .eql 3 x1 v12_3) fun v13_4 => (kb v13_4 (k1 (xload E.P m 104 x4) fun v14_5 => (k1 (xload E.P m 76 v6_1) fun v15_6 => (k2 (xbuildSlice E.P m 104 1 [(0, v15_6)]) fun v16_7 m => (k2 (vcall E.P base m .append [104, 104] [v14_5, v16_7]) fun v17_8 m => (ks (xstore E.P base m 104 x4 v17_8) fun m => (some (.ret (.tuple #[]), m))))))) (k1 (mbin E .add 3 x2 (.int .i64 1)) fun v19_9 => (r114_L0 call fuel base (fun v m => some (.pan v, m)) (fun m => (some (.ret (.tuple #[]), m))) fuel x1 x5 v6_1 v19_9 (.int .i64 0) m)))))))
def keep114 : Keep := { region := fun i => ([[1, 2, 3, 4, 5, 6], [1, 2, 4, 5, 6, 13], [], [1, 5, 6, 19, 20], [1, 5, 6, 19, 20, 21], [1, 5, 6, 9, 19, 20], [1, 5, 6, 9, 19, 20], [1, 5, 6, 19, 20], [1, 5, 6, 19, 20]] : List (List Nat))[i]?, exit := fun i => ([[], [1, 5, 6, 19, 20]] : List (List Nat))[i]?, ret := some [] }
noncomputable def r114_L0_R (call : CallF) (fuel base n : Nat) (vs : List Value) (m : M) (K : KT) : Res2 := match vs with
  | [x1, x5, x6, x19, x20] => r114_L0 call fuel base (fun v m => K (.pan v) { n := 33, l := [] } m) (fun m => K (.exit 0) { n := 33, l := [] } m) n x1 x5 x6 x19 x20 m
  | _ => none
noncomputable def lp114 (call : CallF) (fuel base : Nat) : Lp := lpsel [(0, fun T m K => kslots 33 [1, 5, 6, 19, 20] T fun vs => r114_L0_R call fuel base fuel vs m K)]
noncomputable def c114 : Code := Try.f114.body.getD .skip
theorem r114_L0_lk (call : CallF) (fuel base : Nat) : LoopsOk E call (lp114 call fuel base) fuel base 0 (loopB (blockB (seqR (seqR (seqR c114))))) = (And True (And (And True True) (And (And True (And True True)) True))) := by kernel_rfl
theorem r114_L0_ok (call : CallF) (fuel base : Nat) : LpOk E call (lp114 call fuel base) fuel base 0 (loopB (blockB (seqR (seqR (seqR c114))))) := by
  refine loop_ok (kp := keep114) (hb := Eq.mpr (r114_L0_lk call fuel base) (And.intro trivial (And.intro (And.intro trivial trivial) (And.intro (And.intro trivial (And.intro trivial trivial)) trivial)))) 33 [1, 5, 6, 19, 20] (fun n vs m K => r114_L0_R call fuel base n vs m K) ?_ ?_ (fun _ _ _ => rfl)
  · intro vs m K
    unfold r114_L0_R
    split <;> rfl
  · intro n vs m K hl
    match vs, hl with
    | [x1, x5, x6, x19, x20], _ => show _ = _; kernel_rfl
theorem r114_eq (call : CallF) (fuel base : Nat) (x0 : Value) (x1 : Value) (x2 : Value) (x3 : Value) (x4 : Value) (x5 : Value) (m : M) : kbody E call keep114 (lp114 call fuel base) base Try.f114 [x0, x1, x2, x3, x4, x5] m = r114 call fuel base x0 x1 x2 x3 x4 x5 m := by
  kernel_rfl
noncomputable def rf114 : RF := fun call fuel base args m => match args with
  | [x0, x1, x2, x3, x4, x5] => r114 call fuel base x0 x1 x2 x3 x4 x5 m
  | _ => none
theorem r114_lk (call : CallF) (fuel base : Nat) : LoopsOk E call (lp114 call fuel base) fuel base 0 c114 = (And True (And (And True (And (And True True) True)) (And True (LpOk E call (lp114 call fuel base) fuel base 0 (loopB (blockB (seqR (seqR (seqR c114))))))))) := by kernel_rfl
theorem r114_fn : E.P.funcs[114]? = some Try.f114 := by kernel_rfl
theorem r114_body : Try.f114.body = some c114 := by kernel_rfl
theorem rf114_ok : RFok E 114 rf114 := by
  show RFok' E 114 rf114
  refine ⟨Try.f114, r114_fn, fun call fuel base args m r _ h => ?_⟩
  unfold rf114 at h
  split at h
  · rw [← r114_eq] at h
    exact kbody_sound (c := c114) r114_body (Eq.mpr (r114_lk call fuel base) (And.intro trivial (And.intro (And.intro trivial (And.intro (And.intro trivial trivial) trivial)) (And.intro trivial (r114_L0_ok call fuel base))))) h
  · simp at h
end Go.AM
namespace Go.AM
open Go Go.Proofs
noncomputable def r115 (call : CallF) (fuel base : Nat) (x0 : Value) (x1 : Value) (m : M) : Res2 :=
  (kc (call base 128 [x0, x1] m) (fun v25_1 m => (k1 (mextract 0 v25_1) fun v26_2 => (k1 (mextract 1 v25_1) fun v27_3 => (some (.ret (.tuple #[v26_2, v27_3]), m))))) (fun v m => some (.pan v, m)))
def keep115 : Keep := { region := fun i => ([[0, 1], [6, 7], [4, 5], [8, 9], [4, 5]] : List (List Nat))[i]?, exit := fun i => ([] : List (List Nat))[i]?, ret := some [4, 5] }
noncomputable def lp115 (call : CallF) (fuel base : Nat) : Lp := lpsel []
noncomputable def c115 : Code := Try.f115.body.getD .skip
theorem r115_eq (call : CallF) (fuel base : Nat) (x0 : Value) (x1 : Value) (m : M) : kbody E call keep115 (lp115 call fuel base) base Try.f115 [x0, x1] m = r115 call fuel base x0 x1 m := by
  kernel_rfl
noncomputable def rf115 : RF := fun call fuel base args m => match args with
  | [x0, x1] => r115 call fuel base x0 x1 m
  | _ => none
theorem r115_lk (call : CallF) (fuel base : Nat) : LoopsOk E call (lp115 call fuel base) fuel base 0 c115 = (And True (And (And (And True (And True True)) True) (And True (And True True)))) := by kernel_rfl
theorem r115_fn : E.P.funcs[115]? = some Try.f115 := by kernel_rfl
theorem r115_body : Try.f115.body = some c115 := by kernel_rfl
theorem rf115_ok : RFok E 115 rf115 := by
  show RFok' E 115 rf115
  refine ⟨Try.f115, r115_fn, fun call fuel base args m r _ h => ?_⟩
  unfold rf115 at h
  split at h
  · rw [← r115_eq] at h
    exact kbody_sound (c := c115) r115_body (Eq.mpr (r115_lk call fuel base) (And.intro trivial (And.intro (And.intro (And.intro trivial (And.intro trivial trivial)) trivial) (And.intro trivial (And.intro trivial trivial))))) h
  · simp at h
end Go.AM
namespace Go.AM
open Go Go.Proofs
noncomputable def r127 (call : CallF) (fuel base : Nat) (x0 : Value) (x1 : Value) (m : M) : Res2 :=
  (k1 (mconvert E.P 58 147 x0) fun v8_1 => (k1 (mconvert E.P 58 147 x1) fun v10_2 => (k1 (mbin E .mul 147 v8_1 v10_2) fun v11_3 => (k1 (mbin E .shr 147 v11_3 (.int .u64 32)) fun v13_4 => (k1 (mconvert E.P 147 58 v13_4) fun v14_5 => (k1 (mconvert E.P 147 58 v11_3) fun v16_6 => (some (.ret (.tuple #[v14_5, v16_6]), m))))))))
def keep127 : Keep := { region := fun i => ([[0, 1], [6], [4, 5]] : List (List Nat))[i]?, exit := fun i => ([] : List (List Nat))[i]?, ret := some [4, 5] }
noncomputable def lp127 (call : CallF) (fuel base : Nat) : Lp := lpsel []
noncomputable def c127 : Code := Try.f127.body.getD .skip
theorem r127_eq (call : CallF) (fuel base : Nat) (x0 : Value) (x1 : Value) (m : M) : kbody E call keep127 (lp127 call fuel base) base Try.f127 [x0, x1] m = r127 call fuel base x0 x1 m := by
  kernel_rfl
noncomputable def rf127 : RF := fun call fuel base args m => match args with
  | [x0, x1] => r127 call fuel base x0 x1 m
  | _ => none
theorem r127_lk (call : CallF) (fuel base : Nat) : LoopsOk E call (lp127 call fuel base) fuel base 0 c127 = (And True (And True (And True True))) := by kernel_rfl
theorem r127_fn : E.P.funcs[127]? = some Try.f127 := by kernel_rfl
theorem r127_body : Try.f127.body = some c127 := by kernel_rfl
theorem rf127_ok : RFok E 127 rf127 := by
  show RFok' E 127 rf127
  refine ⟨Try.f127, r127_fn, fun call fuel base args m r _ h => ?_⟩
  unfold rf127 at h
  split at h
  · rw [← r127_eq] at h
    exact kbody_sound (c := c127) r127_body (Eq.mpr (r127_lk call fuel base) (And.intro trivial (And.intro trivial (And.intro trivial trivial)))) h
  · simp at h
end Go.AM
namespace Go.AM
open Go Go.Proofs
noncomputable def r128 (call : CallF) (fuel base : Nat) (x0 : Value) (x1 : Value) (m : M) : Res2 :=
  (k1 (mbin E .and 147 x0 (.int .u64 4294967295)) fun v15_1 => (k1 (mbin E .shr 147 x0 (.int .u64 32)) fun v17_2 => (k1 (mbin E .and 147 x1 (.int .u64 4294967295)) fun v19_3 => (k1 (mbin E .shr 147 x1 (.int .u64 32)) fun v21_4 => (k1 (mbin E .mul 147 v15_1 v19_3) fun v24_5 => (k1 (mbin E .mul 147 v17_2 v19_3) fun v27_6 => (k1 (mbin E .shr 147 v24_5 (.int .u64 32)) fun v29_7 => (k1 (mbin E .add 147 v27_6 v29_7) fun v30_8 => (k1 (mbin E .and 147 v30_8 (.int .u64 4294967295)) fun v32_9 => (k1 (mbin E .shr 147 v30_8 (.int .u64 32)) fun v34_10 => (k1 (mbin E .mul 147 v15_1 v21_4) fun v38_11 => (k1 (mbin E .add 147 v32_9 v38_11) fun v39_12 => (k1 (mbin E .mul 147 v17_2 v21_4) fun v42_13 => (k1 (mbin E .add 147 v42_13 v34_10) fun v44_14 => (k1 (mbin E .shr 147 v39_12 (.int .u64 32)) fun v46_15 => (k1 (mbin E .add 147 v44_14 v46_15) fun v47_16 => (k1 (mbin E .mul 147 x0 x1) fun v50_17 => (some (.ret (.tuple #[v47_16, v50_17]), m)))))))))))))))))))
def keep128 : Keep := { region := fun i => ([[0, 1], [0, 1, 6], [0, 1, 6, 7], [0, 1, 6, 7, 8], [0, 1, 6, 7, 8, 9], [0, 1, 6, 7, 8, 9, 10], [0, 1, 6, 7, 9, 11], [0, 1, 6, 7, 9, 11, 12], [0, 1, 6, 7, 9, 12, 13], [0, 1, 7, 9, 12, 13], [0, 1, 4], [4, 5]] : List (List Nat))[i]?, exit := fun i => ([] : List (List Nat))[i]?, ret := some [4, 5] }
noncomputable def lp128 (call : CallF) (fuel base : Nat) : Lp := lpsel []
noncomputable def c128 : Code := Try.f128.body.getD .skip
theorem r128_eq (call : CallF) (fuel base : Nat) (x0 : Value) (x1 : Value) (m : M) : kbody E call keep128 (lp128 call fuel base) base Try.f128 [x0, x1] m = r128 call fuel base x0 x1 m := by
  kernel_rfl
noncomputable def rf128 : RF := fun call fuel base args m => match args with
  | [x0, x1] => r128 call fuel base x0 x1 m
  | _ => none
theorem r128_lk (call : CallF) (fuel base : Nat) : LoopsOk E call (lp128 call fuel base) fuel base 0 c128 = (And True (And True (And True (And True (And True (And True (And True (And True (And True (And True (And True (And True True)))))))))))) := by kernel_rfl
theorem r128_fn : E.P.funcs[128]? = some Try.f128 := by kernel_rfl
theorem r128_body : Try.f128.body = some c128 := by kernel_rfl
theorem rf128_ok : RFok E 128 rf128 := by
  show RFok' E 128 rf128
  refine ⟨Try.f128, r128_fn, fun call fuel base args m r _ h => ?_⟩
  unfold rf128 at h
  split at h
  · rw [← r128_eq] at h
    exact kbody_sound (c := c128) r128_body (Eq.mpr (r128_lk call fuel base) (And.intro trivial (And.intro trivial (And.intro trivial (And.intro trivial (And.intro trivial (And.intro trivial (And.intro trivial (And.intro trivial (And.intro trivial (And.intro trivial (And.intro trivial (And.intro trivial trivial))))))))))))) h
  · simp at h
end Go.AM
namespace Go.AM
open Go Go.Proofs
noncomputable def ytab : List (Nat × RYs) := [(8205, y53_0), (968610, y57_0)]
theorem ytab_ok : ∀ p ∈ ytab, RYsOk E p.1 p.2 := by
  unfold ytab
  simp only [List.mem_cons, forall_eq_or_imp, List.not_mem_nil, false_imp_iff, implies_true, and_true]
  exact ⟨y53_0_ok, y57_0_ok⟩
theorem ry_ok' : RFok E yid (ryOf ytab) := show RYok E (ryOf ytab) from ry_ok ytab_ok
noncomputable def tab : List (Nat × RF) := [(yid, ryOf ytab), (7, rf7), (12, rf12), (14, rf14), (15, rf15), (16, rf16), (19, rf19), (24, rf24), (41, rf41), (47, rf47), (48, rf48), (49, rf49), (50, rf50), (51, rf51), (52, rf52), (53, rf53), (55, rf55), (56, rf56), (57, rf57), (75, rf75), (76, rf76), (77, rf77), (78, rf78), (79, rf79), (80, rf80), (81, rf81), (82, rf82), (83, rf83), (97, rf97), (98, rf98), (99, rf99), (100, rf100), (101, rf101), (102, rf102), (103, rf103), (104, rf104), (105, rf105), (106, rf106), (111, rf111), (112, rf112), (113, rf113), (114, rf114), (115, rf115), (127, rf127), (128, rf128)]
theorem tab_ok : ∀ p ∈ tab, RFok E p.1 p.2 := by
  unfold tab
  simp only [List.mem_cons, forall_eq_or_imp, List.not_mem_nil, false_imp_iff, implies_true, and_true]
  exact ⟨ry_ok', rf7_ok, rf12_ok, rf14_ok, rf15_ok, rf16_ok, rf19_ok, rf24_ok, rf41_ok, rf47_ok, rf48_ok, rf49_ok, rf50_ok, rf51_ok, rf52_ok, rf53_ok, rf55_ok, rf56_ok, rf57_ok, rf75_ok, rf76_ok, rf77_ok, rf78_ok, rf79_ok, rf80_ok, rf81_ok, rf82_ok, rf83_ok, rf97_ok, rf98_ok, rf99_ok, rf100_ok, rf101_ok, rf102_ok, rf103_ok, rf104_ok, rf105_ok, rf106_ok, rf111_ok, rf112_ok, rf113_ok, rf114_ok, rf115_ok, rf127_ok, rf128_ok⟩
noncomputable def rc (n : Nat) : CallF := rcall E.pure tab n
theorem rc_sound (n : Nat) : SoundCall E (rc n) := rcall_sound E_good E_mix _ tab_ok n
end Go.AM
namespace Go.AM
open Go Go.Proofs
abbrev nilS : Value := .slice none 0 0
def k1n (o : Option Value) (k : Value → Res2) : Res2 := match o with
  | some r => k r
  | none => none
theorem k1_fun : k1 = k1n := by
  funext o k
  cases o with
  | none => rfl
  | some r => exact fVal_eq r k
theorem fVal_fun : (@fVal Res2 : Value → (Value → Res2) → Res2) = fun v k => k v := by
  funext v k
  exact fVal_eq v k
noncomputable def vcalln (P : Program) (base : Nat) (m : M) (b : Builtin) (tys : List TypeId) (vs : List Value) : Option (Value × M) := match b with
  | .len => match tys, vs with
    | t :: _, [x] => match mlen P t x with
      | some r => some (r, m)
      | none => none
    | _, _ => none
  | .min => match vs with
    | x :: xs => match mfold mmin2 x xs with
      | some r => some (r, m)
      | none => none
    | _ => none
  | .max => match vs with
    | x :: xs => match mfold mmax2 x xs with
      | some r => some (r, m)
      | none => none
    | _ => none
  | b => xbuiltin P base m b tys vs
theorem vcall_fun : vcall = vcalln := by
  funext P base m b tys vs
  unfold vcall vcalln
  cases b <;> first
    | rfl
    | (simp only [xbuiltin, obuiltin, fVal_eq]; done)
    | (simp only [xbuiltin, obuiltin, fVal_eq]; rfl)
def vi (n : Int) : Value := .int .i64 n
def rowz (z : Nat) (ex : Bool) (cs : List Value) : Row := { esz := z, ex := ex, ro := false, cells := cs }
abbrev sl (p N : Nat) : Value := .slice (some ⟨p, 0, none⟩) N N
abbrev pt (p off : Nat) : Value := .pointer (some ⟨p, off, none⟩)
/-- A slice that grows: nil while it has nothing, else a row of its own. -/
def Grow (z b : Nat) (m : M) (v : Value) (cs : List Value) (n : Nat) : Prop :=
  (n = 0 ∧ v = .slice none 0 0 ∧ cs = []) ∨ ∃ r, 1 ≤ n ∧ b ≤ r ∧ v = sl r n ∧ m[r]? = some (rowz z false cs) ∧ cs.length = n * z
def Keeps (n : Nat) (m m' : M) : Prop := m.length ≤ m'.length ∧ ∀ i, i < n → m'[i]? = m[i]?
theorem Keeps.trans {n : Nat} {a b c : M} (h : Keeps n a b) (k : Keeps n b c) : Keeps n a c := ⟨Nat.le_trans h.1 k.1, fun i hi => (k.2 i hi).trans (h.2 i hi)⟩
theorem Keeps.mono {n k : Nat} {a b : M} (h : Keeps n a b) (hk : k ≤ n) : Keeps k a b := ⟨h.1, fun i hi => h.2 i (by omega)⟩
theorem Keeps.push (n : Nat) (m : M) (h : n ≤ m.length) (x : List Row) : Keeps n m (m ++ x) := ⟨by simp, fun i hi => List.getElem?_append_left (by omega)⟩
theorem Keeps.set (n : Nat) (m : M) (r : Nat) (row : Row) (h : n ≤ r) : Keeps n m (m.set r row) := ⟨by simp, fun i hi => List.getElem?_set_ne (by omega)⟩
abbrev wr (n : Int) : Int := IntKind.i64.wrap n
def cellR (cs : List Value) : Row := { esz := 0, ex := true, ro := false, cells := cs }
theorem wr_id {n : Int} (h0 : -4611686018427387904 ≤ n) (h1 : n ≤ 4611686018427387904) : wr n = n := by
  unfold wr IntKind.wrap
  simp [IntKind.bits, IntKind.signed]
  omega
theorem wr_succ (j : Nat) (h : j ≤ 1000000) : wr ((j : Int) + 1) = ((j + 1 : Nat) : Int) := (wr_id (by omega) (by omega)).trans (by omega)
theorem lss_nat (i j : Nat) : mbin E .lss 3 (vi i) (vi j) = some (.bool (decide (i < j))) := by
  have e : mbin E .lss 3 (vi i) (vi j) = some (.bool (decide ((i : Int) < j))) := rfl
  rw [e]
  congr 2
  exact decide_eq_decide.2 (by omega)
theorem splice_one (cs : List Value) (off : Nat) (v : Value) (h : off < cs.length) : splice cs off [v] = cs.set off v := by
  unfold splice
  rw [List.set_eq_take_append_cons_drop, if_pos h]
  simp
theorem mwrite_one {base : Nat} {m : M} {p off : Nat} {v : Value} {row : Row} (hb : base ≤ p) (hr : m[p]? = some row) (hro : row.ro = false) (ho : off < row.cells.length) (hv : v.oneCell' = true) :
    mwrite base m p off [v] = some (m.set p { row with cells := row.cells.set off v }) := by
  unfold mwrite
  rw [if_neg (by omega), hr]
  simp only [hro, Bool.false_eq_true, if_false, List.length_cons, List.length_nil, List.all_cons, List.all_nil, hv, Bool.and_self, if_true]
  rw [if_pos (by omega), splice_one _ _ _ ho, fList_eq, fList_eq]
theorem add1 (j : Nat) (h : j ≤ 1000000) : mbin E .add 3 (vi j) (.int .i64 1) = some (vi ((j + 1 : Nat) : Int)) := by
  have e : mbin E .add 3 (vi j) (.int .i64 1) = some (vi (wr ((j : Int) + 1))) := rfl
  rw [e, wr_succ j h]
theorem kB_same (m : M) (v : Value) : kB m (some (.ret v, m)) = some (.ret v, m) := by
  simp only [kB, List.drop_length, List.append_nil, fList_eq]
theorem k2s (a : Value) (m : M) (k : Value → M → Res2) : k2 (some (a, m)) k = k a m := Eq.trans rfl rfl
theorem k1s (a : Value) (k : Value → Res2) : k1n (some a) k = k a := Eq.trans rfl rfl
theorem kss (m : M) (k : M → Res2) : ks (some m) k = k m := Eq.trans rfl rfl
theorem kcs (a : Value) (m : M) (k p : Value → M → Res2) : kc (some (.ret a, m)) k p = k a m := Eq.trans rfl rfl
theorem kbt (t f : Res2) : kb (.bool true) t f = t := Eq.trans rfl rfl
theorem kbf (t f : Res2) : kb (.bool false) t f = f := Eq.trans rfl rfl
theorem box_cell {m : M} {q : Nat} {cs : List Value} (h : m[q]? = some (cellR cs)) (j : Nat) (v : Value) (hv : cs[j]? = some v) : mcell m q j = some v := by
  unfold mcell
  rw [h]
  exact hv
theorem bxa3 (m : M) (a0 a1 a2 : Value) : xbox m (.agg #[a0, a1, a2]) = some (pt m.length 0, m ++ [cellR [a0, a1, a2]]) := by
  have e : xbox m (.agg #[a0, a1, a2]) = xlen m fun k => xpush m (cellR [a0, a1, a2]) fun m' => some (pt k 0, m') := by kernel_rfl
  rw [e, xlen_eq, fNat_eq, xpush_eq, fList_eq]
theorem bxa4 (m : M) (a0 a1 a2 a3 : Value) : xbox m (.agg #[a0, a1, a2, a3]) = some (pt m.length 0, m ++ [cellR [a0, a1, a2, a3]]) := by
  have e : xbox m (.agg #[a0, a1, a2, a3]) = xlen m fun k => xpush m (cellR [a0, a1, a2, a3]) fun m' => some (pt k 0, m') := by kernel_rfl
  rw [e, xlen_eq, fNat_eq, xpush_eq, fList_eq]
theorem rem3 (a b : Int) (h : b ≠ 0) : mbin E .rem 3 (vi a) (vi b) = some (vi (a.tmod b)) := by
  have e : mbin E .rem 3 (vi a) (vi b) = if b = 0 then none else some (vi (a.tmod b)) := by kernel_rfl
  rw [e, if_neg h]
theorem quo3 (a b : Int) (h : b ≠ 0) : mbin E .quo 3 (vi a) (vi b) = some (vi (wr (a.tdiv b))) := by
  have e : mbin E .quo 3 (vi a) (vi b) = if b = 0 then none else some (vi (wr (a.tdiv b))) := by kernel_rfl
  rw [e, if_neg h]
theorem add3 (a b : Int) : mbin E .add 3 (vi a) (vi b) = some (vi (wr (a + b))) := by kernel_rfl
theorem sub3 (a b : Int) : mbin E .sub 3 (vi a) (vi b) = some (vi (wr (a - b))) := by kernel_rfl
theorem mul3 (a b : Int) : mbin E .mul 3 (vi a) (vi b) = some (vi (wr (a * b))) := by kernel_rfl
theorem lss3 (a b : Int) : mbin E .lss 3 (vi a) (vi b) = some (.bool (decide (a < b))) := by kernel_rfl
theorem leq3 (a b : Int) : mbin E .leq 3 (vi a) (vi b) = some (.bool (decide (a ≤ b))) := by kernel_rfl
theorem gtr3 (a b : Int) : mbin E .gtr 3 (vi a) (vi b) = some (.bool (decide (a > b))) := by kernel_rfl
theorem eql3 (a b : Int) : mbin E .eql 3 (vi a) (vi b) = some (.bool (decide (a = b))) := by
  have e : mbin E .eql 3 (vi a) (vi b) = some (.bool (a == b)) := by kernel_rfl
  rw [e]; congr 2
theorem neq3 (a b : Int) : mbin E .neq 3 (vi a) (vi b) = some (.bool (!decide (a = b))) := by
  have e : mbin E .neq 3 (vi a) (vi b) = some (.bool (!(a == b))) := by kernel_rfl
  rw [e]; congr 2
theorem neq24 (a b : Int) : mbin E .neq 24 (vi a) (vi b) = some (.bool (!decide (a = b))) := by
  have e : mbin E .neq 24 (vi a) (vi b) = some (.bool (!(a == b))) := by kernel_rfl
  rw [e]; congr 2
theorem not4 (b : Bool) : mun .not (.bool b) = some (.bool !b) := by kernel_rfl
theorem ld3 (m : M) (r off : Nat) : xload E.P m 3 (pt r off) = mcell m r off := by
  have e : xload E.P m 3 (pt r off) = xcell m r off := by kernel_rfl
  rw [e, xcell_eq]
theorem st3 (base : Nat) (m : M) (p off : Nat) (x : Int) : xstore E.P base m 3 (pt p off) (vi x) = mwrite base m p off [(vi x)] := by
  have e : xstore E.P base m 3 (pt p off) (vi x) = xwrite base m p off [(vi x)] := by kernel_rfl
  rw [e, xwrite_eq]
theorem ld27 (m : M) (r off : Nat) : xload E.P m 27 (pt r off) = mcell m r off := by
  have e : xload E.P m 27 (pt r off) = xcell m r off := by kernel_rfl
  rw [e, xcell_eq]
theorem st27 (base : Nat) (m : M) (p off q l c : Nat) : xstore E.P base m 27 (pt p off) (.slice (some ⟨q, 0, none⟩) l c) = mwrite base m p off [.slice (some ⟨q, 0, none⟩) l c] := by
  have e : xstore E.P base m 27 (pt p off) (.slice (some ⟨q, 0, none⟩) l c) = xwrite base m p off [.slice (some ⟨q, 0, none⟩) l c] := by kernel_rfl
  rw [e, xwrite_eq]
theorem ld23 {m : M} {r : Nat} {row : Row} {off : Nat} (h : m[r]? = some row) (hl : off + 3 ≤ row.cells.length) : xload E.P m 23 (pt r off) = some (.agg ((row.cells.drop off).take 3).toArray) := by
  have e : xload E.P m 23 (pt r off) = (xread m r off 3).map fun cs => .agg cs.toArray := by kernel_rfl
  rw [e, xread_eq]
  unfold mread
  rw [h]
  simp only
  rw [if_pos hl]
  rfl
theorem ldb23 {m : M} {r : Nat} {a0 a1 a2 : Value} (h : m[r]? = some (cellR [a0, a1, a2])) : xload E.P m 23 (pt r 0) = some (.agg #[a0, a1, a2]) := ld23 h (by simp [cellR])
theorem ff23_0 (p o : Nat) : mfieldAddr E.P 23 (pt p o) 0 = some (pt p (o + 0)) := by kernel_rfl
theorem ff23_1 (p o : Nat) : mfieldAddr E.P 23 (pt p o) 1 = some (pt p (o + 1)) := by kernel_rfl
theorem ff23_2 (p o : Nat) : mfieldAddr E.P 23 (pt p o) 2 = some (pt p (o + 2)) := by kernel_rfl
theorem ix27 (p l c j : Nat) (h : j < l) : mindexAddr E.P 27 (.slice (some ⟨p, 0, none⟩) l c) (vi j) = some (pt p j) := by
  have e : mindexAddr E.P 27 (.slice (some ⟨p, 0, none⟩) l c) (vi j) = if 0 ≤ (j : Int) ∧ (j : Int) < l then some (.pointer (some ⟨p, 0 + ((j : Int)).toNat * 1, none⟩)) else none := by kernel_rfl
  rw [e, if_pos (by omega)]
  simp
theorem len27 (base : Nat) (m : M) (o l c : Nat) : vcalln E.P base m .len [27] [.slice (some ⟨o, 0, none⟩) l c] = some (vi l, m) := by kernel_rfl
theorem len27n (base : Nat) (m : M) : vcalln E.P base m .len [27] [nilS] = some (vi 0, m) := by kernel_rfl
theorem ix33 (p l c j : Nat) (h : j < l) : mindexAddr E.P 33 (.slice (some ⟨p, 0, none⟩) l c) (vi j) = some (pt p j) := by
  have e : mindexAddr E.P 33 (.slice (some ⟨p, 0, none⟩) l c) (vi j) = if 0 ≤ (j : Int) ∧ (j : Int) < l then some (.pointer (some ⟨p, 0 + ((j : Int)).toNat * 1, none⟩)) else none := by kernel_rfl
  rw [e, if_pos (by omega)]
  simp
theorem len33n (base : Nat) (m : M) : vcalln E.P base m .len [33] [nilS] = some (vi 0, m) := by kernel_rfl
theorem ix104 (p l c j : Nat) (h : j < l) : mindexAddr E.P 104 (.slice (some ⟨p, 0, none⟩) l c) (vi j) = some (pt p (j * 4)) := by
  have e : mindexAddr E.P 104 (.slice (some ⟨p, 0, none⟩) l c) (vi j) = if 0 ≤ (j : Int) ∧ (j : Int) < l then some (.pointer (some ⟨p, 0 + ((j : Int)).toNat * 4, none⟩)) else none := by kernel_rfl
  rw [e, if_pos (by omega)]
  simp
theorem len104 (base : Nat) (m : M) (o l c : Nat) : vcalln E.P base m .len [104] [.slice (some ⟨o, 0, none⟩) l c] = some (vi l, m) := by kernel_rfl
theorem mk27 (m : M) (n : Nat) (h : n ≤ 100) : xmakeSlice E.P m 27 (vi n) (vi n) = some (sl m.length n, m ++ [rowz 1 true (repCells [.int .i64 0] n)]) := by
  have e : xmakeSlice E.P m 27 (vi n) (vi n) = if ((n : Int) < 0 ∨ (n : Int) < n ∨ (n : Int) > 2 ^ 40 ∨ 8 > 2 ^ 7) then none else
    xlen m fun k => fNat n fun l => fNat n fun c => fList (repCells [.int .i64 0] c) fun cs => xpush m (rowz 1 true cs) fun m' => some (.slice (some ⟨k, 0, none⟩) l c, m') := by kernel_rfl
  rw [e, if_neg (by omega), xlen_eq, fNat_eq, fNat_eq, fNat_eq, fList_eq, xpush_eq, fList_eq]
end Go.AM
