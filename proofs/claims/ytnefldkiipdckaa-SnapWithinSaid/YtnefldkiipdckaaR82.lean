import Derived.KernelRfl
import Derived.Laws.BytesArg
import Derived.Laws.StructEq
import Derived.RangeFuncLeaves
import Derived.RangeFuncRecord
import Derived.Test.YtnefldkiipdckaaProg
import Derived.Test.YtnefldkiipdckaaRows
import Derived.WalkKit
import Derived.Test.YtnefldkiipdckaaAmB
import Derived.Test.YtnefldkiipdckaaAmG
import Derived.Test.YtnefldkiipdckaaAmModel
import Derived.Test.YtnefldkiipdckaaAmRel
import Derived.Test.YtnefldkiipdckaaAmOps6
import Derived.Test.YtnefldkiipdckaaAmCode
import Derived.Test.YtnefldkiipdckaaAmDraw5
import Derived.Test.YtnefldkiipdckaaAmEq
import Derived.Test.YtnefldkiipdckaaRBase
set_option linter.unusedVariables false
set_option linter.unusedSimpArgs false
set_option linter.unusedSectionVars false
namespace Go.AM
open Go Go.Proofs
noncomputable def r82_L0 (call : CallF) (fuel base : Nat) (kx0 : Value → M → Res2) (n : Nat) : Value → Value → Value → Value → M → Res2 :=
  Nat.rec (motive := fun _ => Value → Value → Value → Value → M → Res2) (fun _ _ _ _ _ => none)
    (fun _ ih x3 x9 x10 x11 m =>
      (k1 (mbin E .lss 3 x11 x10) fun v12_4 => (kb v12_4 (k1 (mindexAddr E.P 125 x9 x11) fun v14_5 => (k1 (xload E.P m 147 v14_5) fun v15_6 => (k2 (xalloc E.P m 147) fun v5_7 m => (ks (xstore E.P base m 147 v5_7 v15_6) fun m => (k1 (mfieldAddr E.P 147 v5_7 2) fun v18_8 => (k1 (xload E.P m 3 v18_8) fun v19_9 => (k1 (mindexAddr E.P 22 x3 x11) fun v20_10 => (ks (xstore E.P base m 3 v20_10 v19_9) fun m => (k1 (mbin E .add 3 x11 (.int .i64 1)) fun v21_11 => (ih x3 x9 x10 v21_11 m)))))))))) (kx0 x3 m)))) n
noncomputable def r82 (call : CallF) (fuel base : Nat) (x0 : Value) (m : M) : Res2 :=
  (k2 (vcall E.P base m .len [125] [x0]) fun v7_1 m => (k2 (xmakeSlice E.P m 22 v7_1 v7_1) fun v8_2 m => (k2 (vcall E.P base m .len [125] [x0]) fun v10_3 m => (r82_L0 call fuel base (fun y3_12 m => (fVal y3_12 fun v => some (.ret v, m))) fuel v8_2 x0 v10_3 (.int .i64 0) m))))
def keep82 : Keep := { region := fun i => ([[0], [0, 3], [3, 9, 10, 11], [3, 9, 10, 11, 12], [3, 4, 5, 9, 10, 11], [3, 9, 10, 11], [3, 9, 10, 11], [2]] : List (List Nat))[i]?, exit := fun i => ([[3], [3, 9, 10, 11]] : List (List Nat))[i]?, ret := some [2] }
noncomputable def r82_L0_R (call : CallF) (fuel base n : Nat) (vs : List Value) (m : M) (K : KT) : Res2 := match vs with
  | [x3, x9, x10, x11] => r82_L0 call fuel base (fun y3 m => K (.exit 0) { n := 23, l := [(3, y3)] } m) n x3 x9 x10 x11 m
  | _ => none
noncomputable def lp82 (call : CallF) (fuel base : Nat) : Lp := lpsel [(0, fun T m K => kslots 23 [3, 9, 10, 11] T fun vs => r82_L0_R call fuel base fuel vs m K)]
noncomputable def c82 : Code := Try.f82.body.getD .skip
theorem r82_L0_lk (call : CallF) (fuel base : Nat) : LoopsOk E call (lp82 call fuel base) fuel base 0 (loopB (blockB (seqR (seqL (seqR (seqR c82)))))) = (And True (And (And True True) (And (And True True) True))) := by kernel_rfl
theorem r82_L0_ok (call : CallF) (fuel base : Nat) : LpOk E call (lp82 call fuel base) fuel base 0 (loopB (blockB (seqR (seqL (seqR (seqR c82)))))) := by
  refine loop_ok (kp := keep82) (hb := Eq.mpr (r82_L0_lk call fuel base) (And.intro trivial (And.intro (And.intro trivial trivial) (And.intro (And.intro trivial trivial) trivial)))) 23 [3, 9, 10, 11] (fun n vs m K => r82_L0_R call fuel base n vs m K) ?_ ?_ (fun _ _ _ => rfl)
  · intro vs m K
    unfold r82_L0_R
    split <;> rfl
  · intro n vs m K hl
    match vs, hl with
    | [x3, x9, x10, x11], _ => show _ = _; kernel_rfl
theorem r82_eq (call : CallF) (fuel base : Nat) (x0 : Value) (m : M) : kbody E call keep82 (lp82 call fuel base) base Try.f82 [x0] m = r82 call fuel base x0 m := by
  kernel_rfl
noncomputable def rf82 : RF := fun call fuel base args m => match args with
  | [x0] => r82 call fuel base x0 m
  | _ => none
theorem r82_lk (call : CallF) (fuel base : Nat) : LoopsOk E call (lp82 call fuel base) fuel base 0 c82 = (And True (And True (And (And True (LpOk E call (lp82 call fuel base) fuel base 0 (loopB (blockB (seqR (seqL (seqR (seqR c82)))))))) (And True True)))) := by kernel_rfl
theorem r82_fn : E.P.funcs[82]? = some Try.f82 := by kernel_rfl
theorem r82_body : Try.f82.body = some c82 := by kernel_rfl
theorem rf82_ok : RFok E 82 rf82 := by
  show RFok' E 82 rf82
  refine ⟨Try.f82, r82_fn, fun call fuel base args m r _ h => ?_⟩
  unfold rf82 at h
  split at h
  · rw [← r82_eq] at h
    exact kbody_sound (c := c82) r82_body (Eq.mpr (r82_lk call fuel base) (And.intro trivial (And.intro trivial (And.intro (And.intro trivial (r82_L0_ok call fuel base)) (And.intro trivial trivial))))) h
  · simp at h
end Go.AM
namespace Go.AM
open Go Go.Proofs
noncomputable def r83_L0 (call : CallF) (fuel base : Nat) (kx0 : Value → Value → Value → M → Res2) (n : Nat) : Value → Value → Value → Value → Value → M → Res2 :=
  Nat.rec (motive := fun _ => Value → Value → Value → Value → Value → M → Res2) (fun _ _ _ _ _ _ => none)
    (fun _ ih x0 x1 x6 x20 x21 m =>
      (k1 (mbin E .lss 3 x21 x20) fun v22_7 => (kb v22_7 (k1 (mbuild E.P 155 []) fun v26_8 => (k2 (xbuildSlice E.P m 156 1 [(0, v26_8)]) fun v27_9 m => (k1 (mindexAddr E.P 130 x6 x21) fun v28_10 => (ks (xstore E.P base m 156 v28_10 v27_9) fun m => (k1 (mbin E .add 3 x21 (.int .i64 1)) fun v29_11 => (ih x0 x1 x6 x20 v29_11 m)))))) (kx0 x0 x1 x6 m)))) n
noncomputable def r83_L2 (call : CallF) (fuel base : Nat) (kp : Value → M → Res2) (kr : Value → Value → M → Res2) (kx2 : Value → M → Res2) (n : Nat) : Value → Value → Value → Value → Value → Value → M → Res2 :=
  Nat.rec (motive := fun _ => Value → Value → Value → Value → Value → Value → M → Res2) (fun _ _ _ _ _ _ _ => none)
    (fun _ ih x0 x6 x8 x30 x31 x32 m =>
      (k1 (mbin E .lss 3 x32 x31) fun v33_17 => (kb v33_17 (k1 (mindexAddr E.P 45 x30 x32) fun v34_18 => (k1 (xload E.P m 72 v34_18) fun v35_19 => (k2 (xalloc E.P m 72) fun v10_20 m => (ks (xstore E.P base m 72 v10_20 v35_19) fun m => (k1 (xload E.P m 72 v10_20) fun v37_21 => (kc (call base 109 [x0, v37_21] m) (fun v38_22 m => (k1 (mun .not v38_22) fun v39_23 => (kb v39_23 (kr (.slice none 0 0) (.int .i64 2) m) (k1 (xload E.P m 72 v10_20) fun v42_24 => (kc (call base 110 [x6, v42_24, x8] m) (fun v43_25 m => (k1 (mun .not v43_25) fun v44_26 => (kb v44_26 (kr (.slice none 0 0) (.int .i64 2) m) (k1 (mbin E .add 3 x32 (.int .i64 1)) fun v46_27 => (ih x0 x6 x8 x30 x31 v46_27 m))))) (fun v m => kp v m)))))) (fun v m => kp v m))))))) (kx2 x6 m)))) n
noncomputable def r83 (call : CallF) (fuel base : Nat) (x0 : Value) (x1 : Value) (m : M) : Res2 :=
  (kc (call base 49 [x0] m) (fun v12_1 m => (k1 (mun .not v12_1) fun v13_2 => (kb v13_2 (some (.ret (.tuple #[(.slice none 0 0), (.int .i64 2)]), m)) (k2 (vcall E.P base m .len [45] [x1]) fun v15_3 m => (k1 (mbin E .gtr 3 v15_3 (.int .i64 60)) fun v16_4 => (kb v16_4 (some (.ret (.tuple #[(.slice none 0 0), (.int .i64 3)]), m)) (k2 (xmakeSlice E.P m 130 x0 x0) fun v18_5 m => (k2 (vcall E.P base m .len [130] [v18_5]) fun v20_6 m => (r83_L0 call fuel base (fun y0_12 y1_13 y6_14 m => (k2 (xalloc E.P m 158) fun v8_15 m => (k2 (vcall E.P base m .len [45] [y1_13]) fun v31_16 m => (r83_L2 call fuel base (fun v m => some (.pan v, m)) (fun y4_28 y5_29 m => (some (.ret (.tuple #[y4_28, y5_29]), m))) (fun y6_30 m => (some (.ret (.tuple #[y6_30, (.int .i64 0)]), m))) fuel y0_12 y6_14 v8_15 y1_13 v31_16 (.int .i64 0) m)))) fuel x0 x1 v18_5 v20_6 (.int .i64 0) m))))))))) (fun v m => some (.pan v, m)))
def keep83 : Keep := { region := fun i => ([[0, 1], [0, 1, 13], [4, 5], [0, 1, 16], [4, 5], [0, 1, 6], [0, 1, 6, 20, 21], [0, 1, 6, 20, 21, 22], [0, 1, 6, 7, 20, 21], [0, 1, 6, 20, 21], [0, 1, 6, 20, 21], [0, 1, 6, 8], [0, 6, 8, 30, 31, 32], [0, 6, 8, 30, 31, 32, 33], [0, 6, 8, 10, 30, 31, 32], [0, 6, 8, 30, 31, 32, 45], [4, 5], [0, 6, 8, 30, 31, 32], [4, 5]] : List (List Nat))[i]?, exit := fun i => ([[0, 1, 6], [0, 1, 6, 20, 21], [6], [0, 6, 8, 30, 31, 32]] : List (List Nat))[i]?, ret := some [4, 5] }
noncomputable def r83_L0_R (call : CallF) (fuel base n : Nat) (vs : List Value) (m : M) (K : KT) : Res2 := match vs with
  | [x0, x1, x6, x20, x21] => r83_L0 call fuel base (fun y0 y1 y6 m => K (.exit 0) { n := 48, l := [(0, y0), (1, y1), (6, y6)] } m) n x0 x1 x6 x20 x21 m
  | _ => none
noncomputable def r83_L2_R (call : CallF) (fuel base n : Nat) (vs : List Value) (m : M) (K : KT) : Res2 := match vs with
  | [x0, x6, x8, x30, x31, x32] => r83_L2 call fuel base (fun v m => K (.pan v) { n := 48, l := [] } m) (fun y4 y5 m => K .ret { n := 48, l := [(4, y4), (5, y5)] } m) (fun y6 m => K (.exit 2) { n := 48, l := [(6, y6)] } m) n x0 x6 x8 x30 x31 x32 m
  | _ => none
noncomputable def lp83 (call : CallF) (fuel base : Nat) : Lp := lpsel [(0, fun T m K => kslots 48 [0, 1, 6, 20, 21] T fun vs => r83_L0_R call fuel base fuel vs m K), (2, fun T m K => kslots 48 [0, 6, 8, 30, 31, 32] T fun vs => r83_L2_R call fuel base fuel vs m K)]
noncomputable def c83 : Code := Try.f83.body.getD .skip
theorem r83_L0_lk (call : CallF) (fuel base : Nat) : LoopsOk E call (lp83 call fuel base) fuel base 0 (loopB (blockB (seqR (seqL (seqR (seqR (seqR (seqR c83)))))))) = (And True (And (And True True) (And (And True True) True))) := by kernel_rfl
theorem r83_L0_ok (call : CallF) (fuel base : Nat) : LpOk E call (lp83 call fuel base) fuel base 0 (loopB (blockB (seqR (seqL (seqR (seqR (seqR (seqR c83)))))))) := by
  refine loop_ok (kp := keep83) (hb := Eq.mpr (r83_L0_lk call fuel base) (And.intro trivial (And.intro (And.intro trivial trivial) (And.intro (And.intro trivial trivial) trivial)))) 48 [0, 1, 6, 20, 21] (fun n vs m K => r83_L0_R call fuel base n vs m K) ?_ ?_ (fun _ _ _ => rfl)
  · intro vs m K
    unfold r83_L0_R
    split <;> rfl
  · intro n vs m K hl
    match vs, hl with
    | [x0, x1, x6, x20, x21], _ => show _ = _; kernel_rfl
theorem r83_L2_lk (call : CallF) (fuel base : Nat) : LoopsOk E call (lp83 call fuel base) fuel base 2 (loopB (blockB (seqR (seqL (seqR (seqR (seqR (seqR (seqR (seqR c83)))))))))) = (And True (And (And True True) (And (And True (And True (And (And True True) True))) True))) := by kernel_rfl
theorem r83_L2_ok (call : CallF) (fuel base : Nat) : LpOk E call (lp83 call fuel base) fuel base 2 (loopB (blockB (seqR (seqL (seqR (seqR (seqR (seqR (seqR (seqR c83)))))))))) := by
  refine loop_ok (kp := keep83) (hb := Eq.mpr (r83_L2_lk call fuel base) (And.intro trivial (And.intro (And.intro trivial trivial) (And.intro (And.intro trivial (And.intro trivial (And.intro (And.intro trivial trivial) trivial))) trivial)))) 48 [0, 6, 8, 30, 31, 32] (fun n vs m K => r83_L2_R call fuel base n vs m K) ?_ ?_ (fun _ _ _ => rfl)
  · intro vs m K
    unfold r83_L2_R
    split <;> rfl
  · intro n vs m K hl
    match vs, hl with
    | [x0, x6, x8, x30, x31, x32], _ => show _ = _; kernel_rfl
theorem r83_eq (call : CallF) (fuel base : Nat) (x0 : Value) (x1 : Value) (m : M) : kbody E call keep83 (lp83 call fuel base) base Try.f83 [x0, x1] m = r83 call fuel base x0 x1 m := by
  kernel_rfl
noncomputable def rf83 : RF := fun call fuel base args m => match args with
  | [x0, x1] => r83 call fuel base x0 x1 m
  | _ => none
theorem r83_lk (call : CallF) (fuel base : Nat) : LoopsOk E call (lp83 call fuel base) fuel base 0 c83 = (And True (And (And True (And (And True True) True)) (And (And True (And (And True True) True)) (And True (And (And True (LpOk E call (lp83 call fuel base) fuel base 0 (loopB (blockB (seqR (seqL (seqR (seqR (seqR (seqR c83)))))))))) (And True (And (And True (LpOk E call (lp83 call fuel base) fuel base 2 (loopB (blockB (seqR (seqL (seqR (seqR (seqR (seqR (seqR (seqR c83)))))))))))) (And True True)))))))) := by kernel_rfl
theorem r83_fn : E.P.funcs[83]? = some Try.f83 := by kernel_rfl
theorem r83_body : Try.f83.body = some c83 := by kernel_rfl
theorem rf83_ok : RFok E 83 rf83 := by
  show RFok' E 83 rf83
  refine ⟨Try.f83, r83_fn, fun call fuel base args m r _ h => ?_⟩
  unfold rf83 at h
  split at h
  · rw [← r83_eq] at h
    exact kbody_sound (c := c83) r83_body (Eq.mpr (r83_lk call fuel base) (And.intro trivial (And.intro (And.intro trivial (And.intro (And.intro trivial trivial) trivial)) (And.intro (And.intro trivial (And.intro (And.intro trivial trivial) trivial)) (And.intro trivial (And.intro (And.intro trivial (r83_L0_ok call fuel base)) (And.intro trivial (And.intro (And.intro trivial (r83_L2_ok call fuel base)) (And.intro trivial trivial))))))))) h
  · simp at h
end Go.AM
namespace Go.AM
open Go Go.Proofs
noncomputable def r84_L0 (call : CallF) (fuel base : Nat) (kr : Value → M → Res2) (kx0 : M → Res2) (n : Nat) : Value → Value → Value → Value → M → Res2 :=
  Nat.rec (motive := fun _ => Value → Value → Value → Value → M → Res2) (fun _ _ _ _ _ => none)
    (fun _ ih x0 x7 x8 x9 m =>
      (k1 (mbin E .lss 3 x9 x8) fun v10_2 => (kb v10_2 (k1 (mindexAddr E.P 22 x7 x9) fun v12_3 => (k1 (xload E.P m 3 v12_3) fun v13_4 => (k1 (mbin E .lss 3 v13_4 (.int .i64 0)) fun v15_5 => (kb v15_5 (kr (.bool false) m) (k1 (mindexAddr E.P 130 x0 x9) fun v20_6 => (k1 (xload E.P m 156 v20_6) fun v21_7 => (k2 (vcall E.P base m .len [156] [v21_7]) fun v22_8 m => (k1 (mbin E .geq 3 v13_4 v22_8) fun v23_9 => (kb v23_9 (kr (.bool false) m) (k1 (mbin E .add 3 x9 (.int .i64 1)) fun v25_10 => (ih x0 x7 x8 v25_10 m))))))))))) (kx0 m)))) n
noncomputable def r84 (call : CallF) (fuel base : Nat) (x0 : Value) (x1 : Value) (m : M) : Res2 :=
  (k2 (vcall E.P base m .len [22] [x1]) fun v8_1 m => (r84_L0 call fuel base (fun y4_11 m => (fVal y4_11 fun v => some (.ret v, m))) (fun m => (fVal (.bool true) fun v => some (.ret v, m))) fuel x0 x1 v8_1 (.int .i64 0) m))
def keep84 : Keep := { region := fun i => ([[0, 1], [0, 7, 8, 9], [0, 7, 8, 9, 10], [0, 5, 6, 7, 8, 9], [0, 7, 8, 9, 24], [4], [0, 7, 8, 9], [4]] : List (List Nat))[i]?, exit := fun i => ([[], [0, 7, 8, 9]] : List (List Nat))[i]?, ret := some [4] }
noncomputable def r84_L0_R (call : CallF) (fuel base n : Nat) (vs : List Value) (m : M) (K : KT) : Res2 := match vs with
  | [x0, x7, x8, x9] => r84_L0 call fuel base (fun y4 m => K .ret { n := 26, l := [(4, y4)] } m) (fun m => K (.exit 0) { n := 26, l := [] } m) n x0 x7 x8 x9 m
  | _ => none
noncomputable def lp84 (call : CallF) (fuel base : Nat) : Lp := lpsel [(0, fun T m K => kslots 26 [0, 7, 8, 9] T fun vs => r84_L0_R call fuel base fuel vs m K)]
noncomputable def c84 : Code := Try.f84.body.getD .skip
theorem r84_L0_lk (call : CallF) (fuel base : Nat) : LoopsOk E call (lp84 call fuel base) fuel base 0 (loopB (blockB (seqR (seqL (seqR c84))))) = (And True (And (And True True) (And (And True (And True (And (And True True) True))) True))) := by kernel_rfl
theorem r84_L0_ok (call : CallF) (fuel base : Nat) : LpOk E call (lp84 call fuel base) fuel base 0 (loopB (blockB (seqR (seqL (seqR c84))))) := by
  refine loop_ok (kp := keep84) (hb := Eq.mpr (r84_L0_lk call fuel base) (And.intro trivial (And.intro (And.intro trivial trivial) (And.intro (And.intro trivial (And.intro trivial (And.intro (And.intro trivial trivial) trivial))) trivial)))) 26 [0, 7, 8, 9] (fun n vs m K => r84_L0_R call fuel base n vs m K) ?_ ?_ (fun _ _ _ => rfl)
  · intro vs m K
    unfold r84_L0_R
    split <;> rfl
  · intro n vs m K hl
    match vs, hl with
    | [x0, x7, x8, x9], _ => show _ = _; kernel_rfl
theorem r84_eq (call : CallF) (fuel base : Nat) (x0 : Value) (x1 : Value) (m : M) : kbody E call keep84 (lp84 call fuel base) base Try.f84 [x0, x1] m = r84 call fuel base x0 x1 m := by
  kernel_rfl
noncomputable def rf84 : RF := fun call fuel base args m => match args with
  | [x0, x1] => r84 call fuel base x0 x1 m
  | _ => none
theorem r84_lk (call : CallF) (fuel base : Nat) : LoopsOk E call (lp84 call fuel base) fuel base 0 c84 = (And True (And (And True (LpOk E call (lp84 call fuel base) fuel base 0 (loopB (blockB (seqR (seqL (seqR c84))))))) (And True True))) := by kernel_rfl
theorem r84_fn : E.P.funcs[84]? = some Try.f84 := by kernel_rfl
theorem r84_body : Try.f84.body = some c84 := by kernel_rfl
theorem rf84_ok : RFok E 84 rf84 := by
  show RFok' E 84 rf84
  refine ⟨Try.f84, r84_fn, fun call fuel base args m r _ h => ?_⟩
  unfold rf84 at h
  split at h
  · rw [← r84_eq] at h
    exact kbody_sound (c := c84) r84_body (Eq.mpr (r84_lk call fuel base) (And.intro trivial (And.intro (And.intro trivial (r84_L0_ok call fuel base)) (And.intro trivial trivial)))) h
  · simp at h
end Go.AM
namespace Go.AM
open Go Go.Proofs
noncomputable def r85_L2 (call : CallF) (fuel base : Nat) (kr : Value → M → Res2) (kx2 : Value → Value → Value → Value → Value → M → Res2) (n : Nat) : Value → Value → Value → Value → Value → Value → Value → Value → M → Res2 :=
  Nat.rec (motive := fun _ => Value → Value → Value → Value → Value → Value → Value → Value → M → Res2) (fun _ _ _ _ _ _ _ _ _ => none)
    (fun _ ih x0 x1 x9 x10 x11 x24 x25 x26 m =>
      (k1 (mbin E .lss 3 x26 x25) fun v27_11 => (kb v27_11 (k1 (mindexAddr E.P 22 x24 x26) fun v29_12 => (k1 (xload E.P m 3 v29_12) fun v30_13 => (k1 (mindexAddr E.P 22 x1 x26) fun v34_14 => (k1 (xload E.P m 3 v34_14) fun v35_15 => (k1 (mbin E .gtr 3 v30_13 v35_15) fun v36_16 => (kb v36_16 (kr (.bool false) m) (k1 (mbin E .add 3 x26 (.int .i64 1)) fun v37_17 => (ih x0 x1 x9 x10 x11 x24 x25 v37_17 m)))))))) (kx2 x0 x1 x9 x10 x11 m)))) n
noncomputable def r85_L0 (call : CallF) (fuel base : Nat) (kr : Value → M → Res2) (kx0 : M → Res2) (n : Nat) : Value → Value → Value → Value → Value → M → Res2 :=
  Nat.rec (motive := fun _ => Value → Value → Value → Value → Value → M → Res2) (fun _ _ _ _ _ _ => none)
    (fun _ ih x0 x1 x9 x10 x11 m =>
      (k1 (mbin E .lss 3 x11 x10) fun v12_2 => (kb v12_2 (k1 (mindexAddr E.P 22 x9 x11) fun v14_3 => (k1 (xload E.P m 3 v14_3) fun v15_4 => (k1 (mindexAddr E.P 130 x0 x11) fun v18_5 => (k1 (xload E.P m 156 v18_5) fun v19_6 => (k1 (mindexAddr E.P 156 v19_6 v15_4) fun v21_7 => (k2 (vcall E.P base m .len [22] [x1]) fun v23_8 m => (k1 (mslice E.P m 155 v21_7 none (some v23_8) none) fun v24_9 => (k2 (vcall E.P base m .len [22] [v24_9]) fun v25_10 m => (r85_L2 call fuel base (fun y4_18 m => (kr y4_18 m)) (fun y0_19 y1_20 y9_21 y10_22 y11_23 m => (k1 (mbin E .add 3 y11_23 (.int .i64 1)) fun v38_24 => (ih y0_19 y1_20 y9_21 y10_22 v38_24 m))) fuel x0 x1 x9 x10 x11 v24_9 v25_10 (.int .i64 0) m))))))))) (kx0 m)))) n
noncomputable def r85 (call : CallF) (fuel base : Nat) (x0 : Value) (x1 : Value) (m : M) : Res2 :=
  (k2 (vcall E.P base m .len [22] [x1]) fun v10_1 m => (r85_L0 call fuel base (fun y4_25 m => (fVal y4_25 fun v => some (.ret v, m))) (fun m => (fVal (.bool true) fun v => some (.ret v, m))) fuel x0 x1 x1 v10_1 (.int .i64 0) m))
def keep85 : Keep := { region := fun i => ([[0, 1], [0, 1, 9, 10, 11], [0, 1, 9, 10, 11, 12], [0, 1, 5, 6, 9, 10, 11], [0, 1, 9, 10, 11, 24, 25, 26], [0, 1, 9, 10, 11, 24, 25, 26, 27], [0, 1, 7, 8, 9, 10, 11, 24, 25, 26], [0, 1, 9, 10, 11, 24, 25, 26, 36], [4], [0, 1, 9, 10, 11, 24, 25, 26], [0, 1, 9, 10, 11], [4]] : List (List Nat))[i]?, exit := fun i => ([[], [0, 1, 9, 10, 11], [0, 1, 9, 10, 11], [0, 1, 9, 10, 11, 24, 25, 26]] : List (List Nat))[i]?, ret := some [4] }
noncomputable def r85_L2_R (call : CallF) (fuel base n : Nat) (vs : List Value) (m : M) (K : KT) : Res2 := match vs with
  | [x0, x1, x9, x10, x11, x24, x25, x26] => r85_L2 call fuel base (fun y4 m => K .ret { n := 39, l := [(4, y4)] } m) (fun y0 y1 y9 y10 y11 m => K (.exit 2) { n := 39, l := [(0, y0), (1, y1), (9, y9), (10, y10), (11, y11)] } m) n x0 x1 x9 x10 x11 x24 x25 x26 m
  | _ => none
noncomputable def r85_L0_R (call : CallF) (fuel base n : Nat) (vs : List Value) (m : M) (K : KT) : Res2 := match vs with
  | [x0, x1, x9, x10, x11] => r85_L0 call fuel base (fun y4 m => K .ret { n := 39, l := [(4, y4)] } m) (fun m => K (.exit 0) { n := 39, l := [] } m) n x0 x1 x9 x10 x11 m
  | _ => none
noncomputable def lp85 (call : CallF) (fuel base : Nat) : Lp := lpsel [(2, fun T m K => kslots 39 [0, 1, 9, 10, 11, 24, 25, 26] T fun vs => r85_L2_R call fuel base fuel vs m K), (0, fun T m K => kslots 39 [0, 1, 9, 10, 11] T fun vs => r85_L0_R call fuel base fuel vs m K)]
noncomputable def c85 : Code := Try.f85.body.getD .skip
theorem r85_L2_lk (call : CallF) (fuel base : Nat) : LoopsOk E call (lp85 call fuel base) fuel base 2 (loopB (blockB (seqR (seqR (blockB (seqL (seqR (seqR (loopB (blockB (seqR (seqL (seqR c85))))))))))))) = (And True (And (And True True) (And (And True (And True (And (And True True) True))) True))) := by kernel_rfl
theorem r85_L2_ok (call : CallF) (fuel base : Nat) : LpOk E call (lp85 call fuel base) fuel base 2 (loopB (blockB (seqR (seqR (blockB (seqL (seqR (seqR (loopB (blockB (seqR (seqL (seqR c85))))))))))))) := by
  refine loop_ok (kp := keep85) (hb := Eq.mpr (r85_L2_lk call fuel base) (And.intro trivial (And.intro (And.intro trivial trivial) (And.intro (And.intro trivial (And.intro trivial (And.intro (And.intro trivial trivial) trivial))) trivial)))) 39 [0, 1, 9, 10, 11, 24, 25, 26] (fun n vs m K => r85_L2_R call fuel base n vs m K) ?_ ?_ (fun _ _ _ => rfl)
  · intro vs m K
    unfold r85_L2_R
    split <;> rfl
  · intro n vs m K hl
    match vs, hl with
    | [x0, x1, x9, x10, x11, x24, x25, x26], _ => show _ = _; kernel_rfl
theorem r85_L0_lk (call : CallF) (fuel base : Nat) : LoopsOk E call (lp85 call fuel base) fuel base 0 (loopB (blockB (seqR (seqL (seqR c85))))) = (And True (And (And True True) (And (And True (And True (LpOk E call (lp85 call fuel base) fuel base 2 (loopB (blockB (seqR (seqR (blockB (seqL (seqR (seqR (loopB (blockB (seqR (seqL (seqR c85)))))))))))))))) True))) := by kernel_rfl
theorem r85_L0_ok (call : CallF) (fuel base : Nat) : LpOk E call (lp85 call fuel base) fuel base 0 (loopB (blockB (seqR (seqL (seqR c85))))) := by
  refine loop_ok (kp := keep85) (hb := Eq.mpr (r85_L0_lk call fuel base) (And.intro trivial (And.intro (And.intro trivial trivial) (And.intro (And.intro trivial (And.intro trivial (r85_L2_ok call fuel base))) trivial)))) 39 [0, 1, 9, 10, 11] (fun n vs m K => r85_L0_R call fuel base n vs m K) ?_ ?_ (fun _ _ _ => rfl)
  · intro vs m K
    unfold r85_L0_R
    split <;> rfl
  · intro n vs m K hl
    match vs, hl with
    | [x0, x1, x9, x10, x11], _ => show _ = _; kernel_rfl
theorem r85_eq (call : CallF) (fuel base : Nat) (x0 : Value) (x1 : Value) (m : M) : kbody E call keep85 (lp85 call fuel base) base Try.f85 [x0, x1] m = r85 call fuel base x0 x1 m := by
  kernel_rfl
noncomputable def rf85 : RF := fun call fuel base args m => match args with
  | [x0, x1] => r85 call fuel base x0 x1 m
  | _ => none
theorem r85_lk (call : CallF) (fuel base : Nat) : LoopsOk E call (lp85 call fuel base) fuel base 0 c85 = (And True (And (And True (LpOk E call (lp85 call fuel base) fuel base 0 (loopB (blockB (seqR (seqL (seqR c85))))))) (And True True))) := by kernel_rfl
theorem r85_fn : E.P.funcs[85]? = some Try.f85 := by kernel_rfl
theorem r85_body : Try.f85.body = some c85 := by kernel_rfl
theorem rf85_ok : RFok E 85 rf85 := by
  show RFok' E 85 rf85
  refine ⟨Try.f85, r85_fn, fun call fuel base args m r _ h => ?_⟩
  unfold rf85 at h
  split at h
  · rw [← r85_eq] at h
    exact kbody_sound (c := c85) r85_body (Eq.mpr (r85_lk call fuel base) (And.intro trivial (And.intro (And.intro trivial (r85_L0_ok call fuel base)) (And.intro trivial trivial)))) h
  · simp at h
end Go.AM
namespace Go.AM
open Go Go.Proofs
noncomputable def r91 (call : CallF) (fuel base : Nat) (x0 : Value) (x1 : Value) (m : M) : Res2 :=
  (k2 (xbox m x1) fun v3_1 m => (k1 (mfieldAddr E.P 36 v3_1 0) fun v4_2 => (k1 (xload E.P m 5 v4_2) fun v5_3 => (k1 (mbin E .rem 5 v5_3 (.int .u8 8)) fun v6_4 => (k1 (mbin E .eql 5 v6_4 (.int .u8 0)) fun v14_5 => (kb v14_5 (k1 (mfieldAddr E.P 36 v3_1 1) fun v16_6 => (k1 (xload E.P m 3 v16_6) fun v17_7 => (k1 (mfieldAddr E.P 36 v3_1 3) fun v18_8 => (k1 (xload E.P m 3 v18_8) fun v19_9 => (kc (call base 24 [x0, v17_7, v19_9] m) (fun v20_10 m => (some (.ret (.tuple #[]), m))) (fun v m => some (.pan v, m))))))) (k1 (mbin E .eql 5 v6_4 (.int .u8 1)) fun v22_11 => (kb v22_11 (k1 (mfieldAddr E.P 36 v3_1 1) fun v25_12 => (k1 (xload E.P m 3 v25_12) fun v26_13 => (k1 (mfieldAddr E.P 36 v3_1 2) fun v27_14 => (k1 (xload E.P m 3 v27_14) fun v28_15 => (k1 (mfieldAddr E.P 36 v3_1 3) fun v29_16 => (k1 (xload E.P m 3 v29_16) fun v30_17 => (kc (call base 23 [x0, v26_13, v28_15, v30_17] m) (fun v31_18 m => (some (.ret (.tuple #[]), m))) (fun v m => some (.pan v, m))))))))) (k1 (mbin E .eql 5 v6_4 (.int .u8 2)) fun v23_19 => (kb v23_19 (k1 (mfieldAddr E.P 36 v3_1 1) fun v25_20 => (k1 (xload E.P m 3 v25_20) fun v26_21 => (k1 (mfieldAddr E.P 36 v3_1 2) fun v27_22 => (k1 (xload E.P m 3 v27_22) fun v28_23 => (k1 (mfieldAddr E.P 36 v3_1 3) fun v29_24 => (k1 (xload E.P m 3 v29_24) fun v30_25 => (kc (call base 23 [x0, v26_21, v28_23, v30_25] m) (fun v31_26 m => (some (.ret (.tuple #[]), m))) (fun v m => some (.pan v, m))))))))) (k1 (mbin E .eql 5 v6_4 (.int .u8 7)) fun v33_27 => (kb v33_27 (k1 (mfieldAddr E.P 36 v3_1 1) fun v35_28 => (k1 (xload E.P m 3 v35_28) fun v36_29 => (kc (call base 27 [x0, v36_29] m) (fun v37_30 m => (some (.ret (.tuple #[]), m))) (fun v m => some (.pan v, m))))) (k1 (mfieldAddr E.P 36 v3_1 1) fun v8_31 => (k1 (xload E.P m 3 v8_31) fun v9_32 => (k1 (mfieldAddr E.P 36 v3_1 2) fun v10_33 => (k1 (xload E.P m 3 v10_33) fun v11_34 => (kc (call base 25 [x0, v9_32, v11_34] m) (fun v12_35 m => (some (.ret (.tuple #[]), m))) (fun v m => some (.pan v, m)))))))))))))))))))
def keep91 : Keep := { region := fun i => ([[0, 3], [0, 3, 6], [], [0, 3, 6, 13], [], [0, 3, 6, 21], [0, 3, 6, 21], [], [0, 3, 32], []] : List (List Nat))[i]?, exit := fun i => ([[]] : List (List Nat))[i]?, ret := some [] }
noncomputable def lp91 (call : CallF) (fuel base : Nat) : Lp := lpsel []
noncomputable def c91 : Code := Try.f91.body.getD .skip
theorem r91_eq (call : CallF) (fuel base : Nat) (x0 : Value) (x1 : Value) (m : M) : kbody E call keep91 (lp91 call fuel base) base Try.f91 [x0, x1] m = r91 call fuel base x0 x1 m := by
  kernel_rfl
noncomputable def rf91 : RF := fun call fuel base args m => match args with
  | [x0, x1] => r91 call fuel base x0 x1 m
  | _ => none
theorem r91_lk (call : CallF) (fuel base : Nat) : LoopsOk E call (lp91 call fuel base) fuel base 0 c91 = (And True (And True (And True (And True (And (And True (And True True)) (And True (And True (And True True)))))))) := by kernel_rfl
theorem r91_fn : E.P.funcs[91]? = some Try.f91 := by kernel_rfl
theorem r91_body : Try.f91.body = some c91 := by kernel_rfl
theorem rf91_ok : RFok E 91 rf91 := by
  show RFok' E 91 rf91
  refine ⟨Try.f91, r91_fn, fun call fuel base args m r _ h => ?_⟩
  unfold rf91 at h
  split at h
  · rw [← r91_eq] at h
    exact kbody_sound (c := c91) r91_body (Eq.mpr (r91_lk call fuel base) (And.intro trivial (And.intro trivial (And.intro trivial (And.intro trivial (And.intro (And.intro trivial (And.intro trivial trivial)) (And.intro trivial (And.intro trivial (And.intro trivial trivial))))))))) h
  · simp at h
end Go.AM
namespace Go.AM
open Go Go.Proofs
noncomputable def r92_L0 (call : CallF) (fuel base : Nat) (kp : Value → M → Res2) (kr : Value → M → Res2) (kx0 : M → Res2) (n : Nat) : Value → Value → Value → Value → M → Res2 :=
  Nat.rec (motive := fun _ => Value → Value → Value → Value → M → Res2) (fun _ _ _ _ _ => none)
    (fun _ ih x0 x1 x7 x8 m =>
      (k1 (mbin E .lss 3 x8 x7) fun v9_2 => (kb v9_2 (k1 (mindexAddr E.P 22 x0 x8) fun v14_3 => (k1 (xload E.P m 3 v14_3) fun v15_4 => (kc (kv call base x1 [v15_4] m) (fun v16_5 m => (kb v16_5 (kr x8 m) (k1 (mbin E .add 3 x8 (.int .i64 1)) fun v18_6 => (ih x0 x1 x7 v18_6 m)))) (fun v m => kp v m)))) (kx0 m)))) n
noncomputable def r92 (call : CallF) (fuel base : Nat) (x0 : Value) (x1 : Value) (m : M) : Res2 :=
  (k2 (vcall E.P base m .len [22] [x0]) fun v7_1 m => (r92_L0 call fuel base (fun v m => some (.pan v, m)) (fun y4_7 m => (fVal y4_7 fun v => some (.ret v, m))) (fun m => (fVal (.int .i64 (-1)) fun v => some (.ret v, m))) fuel x0 x1 v7_1 (.int .i64 0) m))
def keep92 : Keep := { region := fun i => ([[0, 1], [0, 1, 7, 8], [0, 1, 7, 8, 9], [0, 1, 5, 7, 8], [0, 1, 5, 7, 8, 16], [4], [0, 1, 7, 8], [4]] : List (List Nat))[i]?, exit := fun i => ([[], [0, 1, 7, 8]] : List (List Nat))[i]?, ret := some [4] }
noncomputable def r92_L0_R (call : CallF) (fuel base n : Nat) (vs : List Value) (m : M) (K : KT) : Res2 := match vs with
  | [x0, x1, x7, x8] => r92_L0 call fuel base (fun v m => K (.pan v) { n := 19, l := [] } m) (fun y4 m => K .ret { n := 19, l := [(4, y4)] } m) (fun m => K (.exit 0) { n := 19, l := [] } m) n x0 x1 x7 x8 m
  | _ => none
noncomputable def lp92 (call : CallF) (fuel base : Nat) : Lp := lpsel [(0, fun T m K => kslots 19 [0, 1, 7, 8] T fun vs => r92_L0_R call fuel base fuel vs m K)]
noncomputable def c92 : Code := Try.f92.body.getD .skip
theorem r92_L0_lk (call : CallF) (fuel base : Nat) : LoopsOk E call (lp92 call fuel base) fuel base 0 (loopB (blockB (seqR (seqL (seqR c92))))) = (And True (And (And True True) (And (And True (And True (And (And True True) True))) True))) := by kernel_rfl
theorem r92_L0_ok (call : CallF) (fuel base : Nat) : LpOk E call (lp92 call fuel base) fuel base 0 (loopB (blockB (seqR (seqL (seqR c92))))) := by
  refine loop_ok (kp := keep92) (hb := Eq.mpr (r92_L0_lk call fuel base) (And.intro trivial (And.intro (And.intro trivial trivial) (And.intro (And.intro trivial (And.intro trivial (And.intro (And.intro trivial trivial) trivial))) trivial)))) 19 [0, 1, 7, 8] (fun n vs m K => r92_L0_R call fuel base n vs m K) ?_ ?_ (fun _ _ _ => rfl)
  · intro vs m K
    unfold r92_L0_R
    split <;> rfl
  · intro n vs m K hl
    match vs, hl with
    | [x0, x1, x7, x8], _ => show _ = _; kernel_rfl
theorem r92_eq (call : CallF) (fuel base : Nat) (x0 : Value) (x1 : Value) (m : M) : kbody E call keep92 (lp92 call fuel base) base Try.f92 [x0, x1] m = r92 call fuel base x0 x1 m := by
  kernel_rfl
noncomputable def rf92 : RF := fun call fuel base args m => match args with
  | [x0, x1] => r92 call fuel base x0 x1 m
  | _ => none
theorem r92_lk (call : CallF) (fuel base : Nat) : LoopsOk E call (lp92 call fuel base) fuel base 0 c92 = (And True (And (And True (LpOk E call (lp92 call fuel base) fuel base 0 (loopB (blockB (seqR (seqL (seqR c92))))))) (And True True))) := by kernel_rfl
theorem r92_fn : E.P.funcs[92]? = some Try.f92 := by kernel_rfl
theorem r92_body : Try.f92.body = some c92 := by kernel_rfl
theorem rf92_ok : RFok E 92 rf92 := by
  show RFok' E 92 rf92
  refine ⟨Try.f92, r92_fn, fun call fuel base args m r _ h => ?_⟩
  unfold rf92 at h
  split at h
  · rw [← r92_eq] at h
    exact kbody_sound (c := c92) r92_body (Eq.mpr (r92_lk call fuel base) (And.intro trivial (And.intro (And.intro trivial (r92_L0_ok call fuel base)) (And.intro trivial trivial)))) h
  · simp at h
end Go.AM
namespace Go.AM
open Go Go.Proofs
noncomputable def r100 (call : CallF) (fuel base : Nat) (x0 : Value) (x1 : Value) (m : M) : Res2 :=
  (k2 (xbox m x1) fun v3_1 m => (k1 (mnil x0) fun v6_2 => (k1 (mfieldAddr E.P 57 v6_2 0) fun v7_3 => (k1 (xload E.P m 53 v7_3) fun v8_4 => (k1 (mfieldAddr E.P 72 v3_1 0) fun v9_5 => (k1 (xload E.P m 3 v9_5) fun v10_6 => (k1 (mindexAddr E.P 53 v8_4 v10_6) fun v11_7 => (k1 (mfieldAddr E.P 72 v3_1 0) fun v13_8 => (k1 (xload E.P m 3 v13_8) fun v14_9 => (k1 (mnil v11_7) fun v15_10 => (k1 (mfieldAddr E.P 114 v15_10 1) fun v16_11 => (k1 (mindexAddr E.P 112 v16_11 v14_9) fun v17_12 => (k1 (xload E.P m 3 v17_12) fun v18_13 => (k1 (mbin E .add 3 v18_13 (.int .i64 1)) fun v19_14 => (k1 (mnil v11_7) fun v20_15 => (k1 (mfieldAddr E.P 114 v20_15 1) fun v21_16 => (k1 (mindexAddr E.P 112 v21_16 v14_9) fun v22_17 => (ks (xstore E.P base m 3 v22_17 v19_14) fun m => (k1 (mnil v11_7) fun v24_18 => (k1 (mfieldAddr E.P 114 v24_18 1) fun v25_19 => (k1 (mnil x0) fun v27_20 => (k1 (mfieldAddr E.P 57 v27_20 0) fun v28_21 => (k1 (xload E.P m 53 v28_21) fun v29_22 => (k2 (vcall E.P base m .len [53] [v29_22]) fun v30_23 m => (k1 (mslice E.P m 112 v25_19 none (some v30_23) none) fun v31_24 => (kc (kB m (call m.length 74 [v31_24] m)) (fun v32_25 m => (k1 (mfieldAddr E.P 72 v3_1 4) fun v33_26 => (ks (xstore E.P base m 22 v33_26 v32_25) fun m => (k1 (mnil x0) fun v36_27 => (k1 (mfieldAddr E.P 57 v36_27 2) fun v37_28 => (k1 (xload E.P m 45 v37_28) fun v38_29 => (k1 (xload E.P m 72 v3_1) fun v39_30 => (k2 (xbuildSlice E.P m 45 1 [(0, v39_30)]) fun v40_31 m => (k2 (vcall E.P base m .append [45, 45] [v38_29, v40_31]) fun v41_32 m => (k1 (mnil x0) fun v42_33 => (k1 (mfieldAddr E.P 57 v42_33 2) fun v43_34 => (ks (xstore E.P base m 45 v43_34 v41_32) fun m => (some (.ret (.tuple #[]), m)))))))))))))) (fun _ _ => none)))))))))))))))))))))))))))
def keep100 : Keep := { region := fun i => ([[0, 3], [0, 3, 4], [0, 3, 4], [0, 3], []] : List (List Nat))[i]?, exit := fun i => ([] : List (List Nat))[i]?, ret := some [] }
noncomputable def lp100 (call : CallF) (fuel base : Nat) : Lp := lpsel []
noncomputable def c100 : Code := Try.f100.body.getD .skip
theorem r100_eq (call : CallF) (fuel base : Nat) (x0 : Value) (x1 : Value) (m : M) : kbody E call keep100 (lp100 call fuel base) base Try.f100 [x0, x1] m = r100 call fuel base x0 x1 m := by
  kernel_rfl
noncomputable def rf100 : RF := fun call fuel base args m => match args with
  | [x0, x1] => r100 call fuel base x0 x1 m
  | _ => none
theorem r100_lk (call : CallF) (fuel base : Nat) : LoopsOk E call (lp100 call fuel base) fuel base 0 c100 = (And True (And True (And True (And True True)))) := by kernel_rfl
theorem r100_fn : E.P.funcs[100]? = some Try.f100 := by kernel_rfl
theorem r100_body : Try.f100.body = some c100 := by kernel_rfl
theorem rf100_ok : RFok E 100 rf100 := by
  show RFok' E 100 rf100
  refine ⟨Try.f100, r100_fn, fun call fuel base args m r _ h => ?_⟩
  unfold rf100 at h
  split at h
  · rw [← r100_eq] at h
    exact kbody_sound (c := c100) r100_body (Eq.mpr (r100_lk call fuel base) (And.intro trivial (And.intro trivial (And.intro trivial (And.intro trivial trivial))))) h
  · simp at h
end Go.AM
namespace Go.AM
open Go Go.Proofs
noncomputable def r101 (call : CallF) (fuel base : Nat) (x0 : Value) (x1 : Value) (x2 : Value) (x3 : Value) (m : M) : Res2 :=
  (k1 (mnil x0) fun v9_1 => (k1 (mfieldAddr E.P 57 v9_1 1) fun v10_2 => (kexv (mexact m v10_2) (k1 (xload E.P m 54 v10_2) fun v11_3 => (k1 (mindexAddr E.P 54 v11_3 x1) fun v13_4 => (kexv (mexact m v13_4) (k1 (xload E.P m 104 v13_4) fun v14_5 => (k1 (mnil x0) fun v17_6 => (k1 (mfieldAddr E.P 57 v17_6 1) fun v18_7 => (k1 (xload E.P m 54 v18_7) fun v19_8 => (k1 (mindexAddr E.P 54 v19_8 x1) fun v21_9 => (k1 (xload E.P m 104 v21_9) fun v22_10 => (k1 (mindexAddr E.P 104 v22_10 x2) fun v24_11 => (k1 (xload E.P m 103 v24_11) fun v25_12 => (k2 (xbuildSlice E.P m 103 1 [(0, x3)]) fun v27_13 m => (kexv (mdifV [v25_12, v27_13] [v10_2, v13_4]) (k2 (vcall E.P base m .append [103, 103] [v25_12, v27_13]) fun v28_14 m => (k1 (mindexAddr E.P 104 v14_5 x2) fun v29_15 => (ks (xstore E.P base m 103 v29_15 v28_14) fun m => (some (.ret (.tuple #[]), m)))))))))))))))))))))
def keep101 : Keep := { region := fun i => ([[]] : List (List Nat))[i]?, exit := fun i => ([] : List (List Nat))[i]?, ret := some [] }
noncomputable def lp101 (call : CallF) (fuel base : Nat) : Lp := lpsel []
noncomputable def c101 : Code := Try.f101.body.getD .skip
theorem r101_eq (call : CallF) (fuel base : Nat) (x0 : Value) (x1 : Value) (x2 : Value) (x3 : Value) (m : M) : kbody E call keep101 (lp101 call fuel base) base Try.f101 [x0, x1, x2, x3] m = r101 call fuel base x0 x1 x2 x3 m := by
  kernel_rfl
noncomputable def rf101 : RF := fun call fuel base args m => match args with
  | [x0, x1, x2, x3] => r101 call fuel base x0 x1 x2 x3 m
  | _ => none
theorem r101_lk (call : CallF) (fuel base : Nat) : LoopsOk E call (lp101 call fuel base) fuel base 0 c101 = True := by kernel_rfl
theorem r101_fn : E.P.funcs[101]? = some Try.f101 := by kernel_rfl
theorem r101_body : Try.f101.body = some c101 := by kernel_rfl
theorem rf101_ok : RFok E 101 rf101 := by
  show RFok' E 101 rf101
  refine ⟨Try.f101, r101_fn, fun call fuel base args m r _ h => ?_⟩
  unfold rf101 at h
  split at h
  · rw [← r101_eq] at h
    exact kbody_sound (c := c101) r101_body (Eq.mpr (r101_lk call fuel base) trivial) h
  · simp at h
end Go.AM
namespace Go.AM
open Go Go.Proofs
noncomputable def r102 (call : CallF) (fuel base : Nat) (x0 : Value) (x1 : Value) (x2 : Value) (m : M) : Res2 :=
  (k1 (mnil x0) fun v8_1 => (k1 (mfieldAddr E.P 147 v8_1 3) fun v9_2 => (k1 (mindexAddr E.P 144 v9_2 x1) fun v10_3 => (k1 (xload E.P m 4 v10_3) fun v11_4 => (kb v11_4 (k1 (mnil x0) fun v16_5 => (k1 (mfieldAddr E.P 147 v16_5 4) fun v17_6 => (k1 (mindexAddr E.P 145 v17_6 x1) fun v18_7 => (k1 (xload E.P m 22 v18_7) fun v19_8 => (k2 (xbuildSlice E.P m 22 1 [(0, x2)]) fun v21_9 m => (k2 (vcall E.P base m .append [22, 22] [v19_8, v21_9]) fun v22_10 m => (k1 (mnil x0) fun v23_11 => (k1 (mfieldAddr E.P 147 v23_11 4) fun v24_12 => (k1 (mindexAddr E.P 145 v24_12 x1) fun v25_13 => (ks (xstore E.P base m 22 v25_13 v22_10) fun m => (some (.ret (.tuple #[]), m)))))))))))) (some (.ret (.tuple #[]), m)))))))
def keep102 : Keep := { region := fun i => ([[0, 1, 2, 11], []] : List (List Nat))[i]?, exit := fun i => ([] : List (List Nat))[i]?, ret := some [] }
noncomputable def lp102 (call : CallF) (fuel base : Nat) : Lp := lpsel []
noncomputable def c102 : Code := Try.f102.body.getD .skip
theorem r102_eq (call : CallF) (fuel base : Nat) (x0 : Value) (x1 : Value) (x2 : Value) (m : M) : kbody E call keep102 (lp102 call fuel base) base Try.f102 [x0, x1, x2] m = r102 call fuel base x0 x1 x2 m := by
  kernel_rfl
noncomputable def rf102 : RF := fun call fuel base args m => match args with
  | [x0, x1, x2] => r102 call fuel base x0 x1 x2 m
  | _ => none
theorem r102_lk (call : CallF) (fuel base : Nat) : LoopsOk E call (lp102 call fuel base) fuel base 0 c102 = (And True (And True True)) := by kernel_rfl
theorem r102_fn : E.P.funcs[102]? = some Try.f102 := by kernel_rfl
theorem r102_body : Try.f102.body = some c102 := by kernel_rfl
theorem rf102_ok : RFok E 102 rf102 := by
  show RFok' E 102 rf102
  refine ⟨Try.f102, r102_fn, fun call fuel base args m r _ h => ?_⟩
  unfold rf102 at h
  split at h
  · rw [← r102_eq] at h
    exact kbody_sound (c := c102) r102_body (Eq.mpr (r102_lk call fuel base) (And.intro trivial (And.intro trivial trivial))) h
  · simp at h
end Go.AM
namespace Go.AM
open Go Go.Proofs
noncomputable def r103_L0 (call : CallF) (fuel base : Nat) (kx0 : Value → Value → M → Res2) (n : Nat) : Value → Value → Value → Value → M → Res2 :=
  Nat.rec (motive := fun _ => Value → Value → Value → Value → M → Res2) (fun _ _ _ _ _ => none)
    (fun _ ih x2 x4 x7 x8 m =>
      (k1 (mbin E .lss 3 x8 (.int .i64 5)) fun v9_5 => (kb v9_5 (k1 (mindex E.P 112 x7 x8) fun v11_6 => (k1 (mindexAddr E.P 112 x2 x8) fun v14_7 => (k1 (xload E.P m 3 v14_7) fun v15_8 => (k2 (vcall E.P base m .max [3, 3] [v15_8, v11_6]) fun v17_9 m => (k1 (mindexAddr E.P 112 x2 x8) fun v18_10 => (ks (xstore E.P base m 3 v18_10 v17_9) fun m => (k1 (mbin E .add 3 x8 (.int .i64 1)) fun v19_11 => (ih x2 x4 x7 v19_11 m)))))))) (kx0 x2 x4 m)))) n
noncomputable def r103 (call : CallF) (fuel base : Nat) (x0 : Value) (x1 : Value) (m : M) : Res2 :=
  (k2 (xbox m x0) fun v2_1 m => (k2 (xbox m x1) fun v3_2 m => (k2 (xalloc E.P m 112) fun v4_3 m => (k1 (xload E.P m 112 v3_2) fun v7_4 => (r103_L0 call fuel base (fun y2_12 y4_13 m => (k1 (xload E.P m 112 y2_12) fun v20_14 => (ks (xstore E.P base m 112 y4_13 v20_14) fun m => (k0 (mload E.P m 112 y4_13) fun r_15 => (fVal r_15 fun v => some (.ret v, m)))))) fuel v2_1 v4_3 v7_4 (.int .i64 0) m)))))
def keep103 : Keep := { region := fun i => ([[2, 3, 4], [2, 4, 7, 8], [2, 4, 7, 8, 9], [2, 4, 5, 6, 7, 8], [2, 4, 7, 8], [2, 4, 7, 8], [4]] : List (List Nat))[i]?, exit := fun i => ([[2, 4], [2, 4, 7, 8]] : List (List Nat))[i]?, ret := some [4] }
noncomputable def r103_L0_R (call : CallF) (fuel base n : Nat) (vs : List Value) (m : M) (K : KT) : Res2 := match vs with
  | [x2, x4, x7, x8] => r103_L0 call fuel base (fun y2 y4 m => K (.exit 0) { n := 21, l := [(2, y2), (4, y4)] } m) n x2 x4 x7 x8 m
  | _ => none
noncomputable def lp103 (call : CallF) (fuel base : Nat) : Lp := lpsel [(0, fun T m K => kslots 21 [2, 4, 7, 8] T fun vs => r103_L0_R call fuel base fuel vs m K)]
noncomputable def c103 : Code := Try.f103.body.getD .skip
theorem r103_L0_lk (call : CallF) (fuel base : Nat) : LoopsOk E call (lp103 call fuel base) fuel base 0 (loopB (blockB (seqR (seqL (seqR c103))))) = (And True (And (And True True) (And (And True True) True))) := by kernel_rfl
theorem r103_L0_ok (call : CallF) (fuel base : Nat) : LpOk E call (lp103 call fuel base) fuel base 0 (loopB (blockB (seqR (seqL (seqR c103))))) := by
  refine loop_ok (kp := keep103) (hb := Eq.mpr (r103_L0_lk call fuel base) (And.intro trivial (And.intro (And.intro trivial trivial) (And.intro (And.intro trivial trivial) trivial)))) 21 [2, 4, 7, 8] (fun n vs m K => r103_L0_R call fuel base n vs m K) ?_ ?_ (fun _ _ _ => rfl)
  · intro vs m K
    unfold r103_L0_R
    split <;> rfl
  · intro n vs m K hl
    match vs, hl with
    | [x2, x4, x7, x8], _ => show _ = _; kernel_rfl
theorem r103_eq (call : CallF) (fuel base : Nat) (x0 : Value) (x1 : Value) (m : M) : kbody E call keep103 (lp103 call fuel base) base Try.f103 [x0, x1] m = r103 call fuel base x0 x1 m := by
  kernel_rfl
noncomputable def rf103 : RF := fun call fuel base args m => match args with
  | [x0, x1] => r103 call fuel base x0 x1 m
  | _ => none
theorem r103_lk (call : CallF) (fuel base : Nat) : LoopsOk E call (lp103 call fuel base) fuel base 0 c103 = (And True (And (And True (LpOk E call (lp103 call fuel base) fuel base 0 (loopB (blockB (seqR (seqL (seqR c103))))))) (And True True))) := by kernel_rfl
theorem r103_fn : E.P.funcs[103]? = some Try.f103 := by kernel_rfl
theorem r103_body : Try.f103.body = some c103 := by kernel_rfl
theorem rf103_ok : RFok E 103 rf103 := by
  show RFok' E 103 rf103
  refine ⟨Try.f103, r103_fn, fun call fuel base args m r _ h => ?_⟩
  unfold rf103 at h
  split at h
  · rw [← r103_eq] at h
    exact kbody_sound (c := c103) r103_body (Eq.mpr (r103_lk call fuel base) (And.intro trivial (And.intro (And.intro trivial (r103_L0_ok call fuel base)) (And.intro trivial trivial)))) h
  · simp at h
end Go.AM
namespace Go.AM
open Go Go.Proofs
noncomputable def r108 (call : CallF) (fuel base : Nat) (x0 : Value) (m : M) : Res2 :=
  (k1 (mnil x0) fun v4_1 => (k1 (mfieldAddr E.P 147 v4_1 0) fun v5_2 => (k1 (xload E.P m 4 v5_2) fun v6_3 => (kb v6_3 (k1 (mnil x0) fun v9_4 => (k1 (mfieldAddr E.P 147 v9_4 3) fun v10_5 => (k1 (xload E.P m 144 v10_5) fun v11_6 => (k1 (mbuild E.P 144 []) fun v12_7 => (k1 (mbin E .eql 144 v11_6 v12_7) fun v13_8 => (fVal v13_8 fun v => some (.ret v, m))))))) (fVal (.bool false) fun v => some (.ret v, m))))))
def keep108 : Keep := { region := fun i => ([[0], [2]] : List (List Nat))[i]?, exit := fun i => ([] : List (List Nat))[i]?, ret := some [2] }
noncomputable def lp108 (call : CallF) (fuel base : Nat) : Lp := lpsel []
noncomputable def c108 : Code := Try.f108.body.getD .skip
theorem r108_eq (call : CallF) (fuel base : Nat) (x0 : Value) (m : M) : kbody E call keep108 (lp108 call fuel base) base Try.f108 [x0] m = r108 call fuel base x0 m := by
  kernel_rfl
noncomputable def rf108 : RF := fun call fuel base args m => match args with
  | [x0] => r108 call fuel base x0 m
  | _ => none
theorem r108_lk (call : CallF) (fuel base : Nat) : LoopsOk E call (lp108 call fuel base) fuel base 0 c108 = (And True (And True True)) := by kernel_rfl
theorem r108_fn : E.P.funcs[108]? = some Try.f108 := by kernel_rfl
theorem r108_body : Try.f108.body = some c108 := by kernel_rfl
theorem rf108_ok : RFok E 108 rf108 := by
  show RFok' E 108 rf108
  refine ⟨Try.f108, r108_fn, fun call fuel base args m r _ h => ?_⟩
  unfold rf108 at h
  split at h
  · rw [← r108_eq] at h
    exact kbody_sound (c := c108) r108_body (Eq.mpr (r108_lk call fuel base) (And.intro trivial (And.intro trivial trivial))) h
  · simp at h
end Go.AM
namespace Go.AM
open Go Go.Proofs
noncomputable def r109 (call : CallF) (fuel base : Nat) (x0 : Value) (x1 : Value) (m : M) : Res2 :=
  (k2 (xbox m x1) fun v3_1 m => (k1 (mfieldAddr E.P 72 v3_1 0) fun v5_2 => (k1 (xload E.P m 3 v5_2) fun v6_3 => (k1 (mbin E .geq 3 v6_3 (.int .i64 0)) fun v7_4 => (kb v7_4 (k1 (mfieldAddr E.P 72 v3_1 0) fun v9_5 => (k1 (xload E.P m 3 v9_5) fun v10_6 => (k1 (mbin E .lss 3 v10_6 x0) fun v12_7 => (kb v12_7 (k1 (mfieldAddr E.P 72 v3_1 2) fun v15_8 => (k1 (xload E.P m 3 v15_8) fun v16_9 => (k1 (mbin E .geq 3 v16_9 (.int .i64 0)) fun v17_10 => (kb v17_10 (k1 (mfieldAddr E.P 72 v3_1 2) fun v20_11 => (k1 (xload E.P m 3 v20_11) fun v21_12 => (k1 (mbin E .lss 3 v21_12 x0) fun v23_13 => (kb v23_13 (k1 (mfieldAddr E.P 72 v3_1 1) fun v26_14 => (k1 (xload E.P m 3 v26_14) fun v27_15 => (k1 (mbin E .geq 3 v27_15 (.int .i64 1)) fun v28_16 => (kb v28_16 (k1 (mfieldAddr E.P 72 v3_1 1) fun v31_17 => (k1 (xload E.P m 3 v31_17) fun v32_18 => (k1 (mbin E .leq 3 v32_18 (.int .i64 3)) fun v33_19 => (fVal v33_19 fun v => some (.ret v, m))))) (fVal (.bool false) fun v => some (.ret v, m)))))) (fVal (.bool false) fun v => some (.ret v, m)))))) (fVal (.bool false) fun v => some (.ret v, m)))))) (fVal (.bool false) fun v => some (.ret v, m)))))) (fVal (.bool false) fun v => some (.ret v, m)))))))
def keep109 : Keep := { region := fun i => ([[0, 3], [4]] : List (List Nat))[i]?, exit := fun i => ([] : List (List Nat))[i]?, ret := some [4] }
noncomputable def lp109 (call : CallF) (fuel base : Nat) : Lp := lpsel []
noncomputable def c109 : Code := Try.f109.body.getD .skip
theorem r109_eq (call : CallF) (fuel base : Nat) (x0 : Value) (x1 : Value) (m : M) : kbody E call keep109 (lp109 call fuel base) base Try.f109 [x0, x1] m = r109 call fuel base x0 x1 m := by
  kernel_rfl
noncomputable def rf109 : RF := fun call fuel base args m => match args with
  | [x0, x1] => r109 call fuel base x0 x1 m
  | _ => none
theorem r109_lk (call : CallF) (fuel base : Nat) : LoopsOk E call (lp109 call fuel base) fuel base 0 c109 = (And True (And True True)) := by kernel_rfl
theorem r109_fn : E.P.funcs[109]? = some Try.f109 := by kernel_rfl
theorem r109_body : Try.f109.body = some c109 := by kernel_rfl
theorem rf109_ok : RFok E 109 rf109 := by
  show RFok' E 109 rf109
  refine ⟨Try.f109, r109_fn, fun call fuel base args m r _ h => ?_⟩
  unfold rf109 at h
  split at h
  · rw [← r109_eq] at h
    exact kbody_sound (c := c109) r109_body (Eq.mpr (r109_lk call fuel base) (And.intro trivial (And.intro trivial trivial))) h
  · simp at h
end Go.AM
namespace Go.AM
open Go Go.Proofs
noncomputable def r110 (call : CallF) (fuel base : Nat) (x0 : Value) (x1 : Value) (x2 : Value) (m : M) : Res2 :=
  (k2 (xbox m x1) fun v4_1 m => (k1 (mfieldAddr E.P 72 v4_1 0) fun v12_2 => (k1 (xload E.P m 3 v12_2) fun v13_3 => (k1 (mindexAddr E.P 130 x0 v13_3) fun v14_4 => (k1 (xload E.P m 156 v14_4) fun v15_5 => (k2 (vcall E.P base m .len [156] [v15_5]) fun v18_6 m => (k1 (mbin E .sub 3 v18_6 (.int .i64 1)) fun v19_7 => (k1 (mindexAddr E.P 156 v15_5 v19_7) fun v20_8 => (k1 (xload E.P m 155 v20_8) fun v21_9 => (k2 (xalloc E.P m 155) fun v8_10 m => (ks (xstore E.P base m 155 v8_10 v21_9) fun m => (k1 (mfieldAddr E.P 72 v4_1 1) fun v22_11 => (k1 (xload E.P m 3 v22_11) fun v23_12 => (k1 (mbin E .eql 3 v23_12 (.int .i64 2)) fun v25_13 => (kb v25_13 (k1 (mfieldAddr E.P 72 v4_1 0) fun v27_14 => (k1 (xload E.P m 3 v27_14) fun v28_15 => (k1 (mfieldAddr E.P 72 v4_1 2) fun v29_16 => (k1 (xload E.P m 3 v29_16) fun v30_17 => (k1 (mnil x2) fun v31_18 => (k1 (mindexAddr E.P 158 v31_18 v28_15) fun v32_19 => (k1 (mindexAddr E.P 145 v32_19 v30_17) fun v33_20 => (k1 (mnil v33_20) fun v36_21 => (k1 (xload E.P m 22 v36_21) fun v37_22 => (k2 (vcall E.P base m .len [156] [v15_5]) fun v39_23 m => (k2 (xbuildSlice E.P m 22 1 [(0, v39_23)]) fun v40_24 m => (k2 (vcall E.P base m .append [22, 22] [v37_22, v40_24]) fun v41_25 m => (k1 (mnil v33_20) fun v42_26 => (ks (xstore E.P base m 22 v42_26 v41_25) fun m => (k1 (mfieldAddr E.P 72 v4_1 0) fun v78_27 => (kexv (mexact m v78_27) (k1 (xload E.P m 3 v78_27) fun v79_28 => (k1 (xload E.P m 155 v8_10) fun v81_29 => (k2 (xbuildSlice E.P m 156 1 [(0, v81_29)]) fun v82_30 m => (kexv (mdifV [v15_5, v82_30] [v78_27]) (k2 (vcall E.P base m .append [156, 156] [v15_5, v82_30]) fun v83_31 m => (k1 (mindexAddr E.P 130 x0 v79_28) fun v84_32 => (ks (xstore E.P base m 156 v84_32 v83_31) fun m => (fVal (.bool true) fun v => some (.ret v, m))))))))))))))))))))))))) (k1 (mbin E .eql 3 v23_12 (.int .i64 3)) fun v44_33 => (kb v44_33 (k1 (mfieldAddr E.P 72 v4_1 2) fun v46_34 => (k1 (xload E.P m 3 v46_34) fun v47_35 => (k1 (mfieldAddr E.P 72 v4_1 0) fun v48_36 => (k1 (xload E.P m 3 v48_36) fun v49_37 => (k1 (mnil x2) fun v50_38 => (k1 (mindexAddr E.P 158 v50_38 v47_35) fun v51_39 => (k1 (mindexAddr E.P 145 v51_39 v49_37) fun v52_40 => (k1 (mnil v52_40) fun v54_41 => (k1 (xload E.P m 22 v54_41) fun v55_42 => (k2 (vcall E.P base m .len [22] [v55_42]) fun v56_43 m => (k1 (mbin E .eql 3 v56_43 (.int .i64 0)) fun v57_44 => (kb v57_44 (fVal (.bool false) fun v => some (.ret v, m)) (k1 (mfieldAddr E.P 72 v4_1 2) fun v58_45 => (k1 (xload E.P m 3 v58_45) fun v59_46 => (k1 (mfieldAddr E.P 72 v4_1 2) fun v60_47 => (k1 (xload E.P m 3 v60_47) fun v61_48 => (k1 (mindexAddr E.P 155 v8_10 v61_48) fun v62_49 => (k1 (xload E.P m 3 v62_49) fun v63_50 => (k1 (mnil v52_40) fun v65_51 => (k1 (xload E.P m 22 v65_51) fun v66_52 => (k1 (mindexAddr E.P 22 v66_52 (.int .i64 0)) fun v67_53 => (k1 (xload E.P m 3 v67_53) fun v68_54 => (k2 (vcall E.P base m .max [3, 3] [v63_50, v68_54]) fun v69_55 m => (k1 (mindexAddr E.P 155 v8_10 v59_46) fun v70_56 => (ks (xstore E.P base m 3 v70_56 v69_55) fun m => (k1 (mnil v52_40) fun v73_57 => (k1 (xload E.P m 22 v73_57) fun v74_58 => (k1 (mslice E.P m 22 v74_58 (some (.int .i64 1)) none none) fun v75_59 => (k1 (mnil v52_40) fun v76_60 => (ks (xstore E.P base m 22 v76_60 v75_59) fun m => (k1 (mfieldAddr E.P 72 v4_1 0) fun v78_61 => (kexv (mexact m v78_61) (k1 (xload E.P m 3 v78_61) fun v79_62 => (k1 (xload E.P m 155 v8_10) fun v81_63 => (k2 (xbuildSlice E.P m 156 1 [(0, v81_63)]) fun v82_64 m => (kexv (mdifV [v15_5, v82_64] [v78_61]) (k2 (vcall E.P base m .append [156, 156] [v15_5, v82_64]) fun v83_65 m => (k1 (mindexAddr E.P 130 x0 v79_62) fun v84_66 => (ks (xstore E.P base m 156 v84_66 v83_65) fun m => (fVal (.bool true) fun v => some (.ret v, m))))))))))))))))))))))))))))))))))))))))) (k1 (mfieldAddr E.P 72 v4_1 0) fun v78_67 => (kexv (mexact m v78_67) (k1 (xload E.P m 3 v78_67) fun v79_68 => (k1 (xload E.P m 155 v8_10) fun v81_69 => (k2 (xbuildSlice E.P m 156 1 [(0, v81_69)]) fun v82_70 m => (kexv (mdifV [v15_5, v82_70] [v78_67]) (k2 (vcall E.P base m .append [156, 156] [v15_5, v82_70]) fun v83_71 m => (k1 (mindexAddr E.P 130 x0 v79_68) fun v84_72 => (ks (xstore E.P base m 156 v84_72 v83_71) fun m => (fVal (.bool true) fun v => some (.ret v, m))))))))))))))))))))))))))))
def keep110 : Keep := { region := fun i => ([[0, 2, 4], [0, 2, 4, 7], [0, 2, 4, 7, 8], [0, 2, 4, 7, 8, 23], [0, 2, 4, 7, 8, 23, 24], [0, 4, 7, 8, 9], [0, 4, 7, 8], [0, 2, 4, 7, 8, 43], [0, 4, 7, 8, 10], [0, 4, 7, 8, 10, 57], [6], [0, 4, 7, 8, 10], [0, 4, 7, 8], [], [6]] : List (List Nat))[i]?, exit := fun i => ([[0, 4, 7, 8]] : List (List Nat))[i]?, ret := some [6] }
noncomputable def lp110 (call : CallF) (fuel base : Nat) : Lp := lpsel []
noncomputable def c110 : Code := Try.f110.body.getD .skip
theorem r110_eq (call : CallF) (fuel base : Nat) (x0 : Value) (x1 : Value) (x2 : Value) (m : M) : kbody E call keep110 (lp110 call fuel base) base Try.f110 [x0, x1, x2] m = r110 call fuel base x0 x1 x2 m := by
  kernel_rfl
noncomputable def rf110 : RF := fun call fuel base args m => match args with
  | [x0, x1, x2] => r110 call fuel base x0 x1 x2 m
  | _ => none
theorem r110_lk (call : CallF) (fuel base : Nat) : LoopsOk E call (lp110 call fuel base) fuel base 0 c110 = (And True (And True (And True (And (And True (And True (And (And True True) (And True (And (And True (And (And True (And (And True True) True)) (And True True))) True))))) (And True (And True True)))))) := by kernel_rfl
theorem r110_fn : E.P.funcs[110]? = some Try.f110 := by kernel_rfl
theorem r110_body : Try.f110.body = some c110 := by kernel_rfl
theorem rf110_ok : RFok E 110 rf110 := by
  show RFok' E 110 rf110
  refine ⟨Try.f110, r110_fn, fun call fuel base args m r _ h => ?_⟩
  unfold rf110 at h
  split at h
  · rw [← r110_eq] at h
    exact kbody_sound (c := c110) r110_body (Eq.mpr (r110_lk call fuel base) (And.intro trivial (And.intro trivial (And.intro trivial (And.intro (And.intro trivial (And.intro trivial (And.intro (And.intro trivial trivial) (And.intro trivial (And.intro (And.intro trivial (And.intro (And.intro trivial (And.intro (And.intro trivial trivial) trivial)) (And.intro trivial trivial))) trivial))))) (And.intro trivial (And.intro trivial trivial))))))) h
  · simp at h
end Go.AM
namespace Go.AM
open Go Go.Proofs
noncomputable def r130 (call : CallF) (fuel base : Nat) (x0 : Value) (m : M) : Res2 :=
  (k2 (xbox m x0) fun v1_1 m => (k1 (mfieldAddr E.P 117 v1_1 0) fun v3_2 => (k1 (xload E.P m 3 v3_2) fun v4_3 => (fVal v4_3 fun v => some (.ret v, m)))))
def keep130 : Keep := { region := fun i => ([[1], [2]] : List (List Nat))[i]?, exit := fun i => ([] : List (List Nat))[i]?, ret := some [2] }
noncomputable def lp130 (call : CallF) (fuel base : Nat) : Lp := lpsel []
noncomputable def c130 : Code := Try.f130.body.getD .skip
theorem r130_eq (call : CallF) (fuel base : Nat) (x0 : Value) (m : M) : kbody E call keep130 (lp130 call fuel base) base Try.f130 [x0] m = r130 call fuel base x0 m := by
  kernel_rfl
noncomputable def rf130 : RF := fun call fuel base args m => match args with
  | [x0] => r130 call fuel base x0 m
  | _ => none
theorem r130_lk (call : CallF) (fuel base : Nat) : LoopsOk E call (lp130 call fuel base) fuel base 0 c130 = (And True (And True True)) := by kernel_rfl
theorem r130_fn : E.P.funcs[130]? = some Try.f130 := by kernel_rfl
theorem r130_body : Try.f130.body = some c130 := by kernel_rfl
theorem rf130_ok : RFok E 130 rf130 := by
  show RFok' E 130 rf130
  refine ⟨Try.f130, r130_fn, fun call fuel base args m r _ h => ?_⟩
  unfold rf130 at h
  split at h
  · rw [← r130_eq] at h
    exact kbody_sound (c := c130) r130_body (Eq.mpr (r130_lk call fuel base) (And.intro trivial (And.intro trivial trivial))) h
  · simp at h
end Go.AM
namespace Go.AM
open Go Go.Proofs
noncomputable def ytab : List (Nat × RYs) := []
theorem ytab_ok : ∀ p ∈ ytab, RYsOk E p.1 p.2 := by
  unfold ytab
  simp only [List.mem_cons, forall_eq_or_imp, List.not_mem_nil, false_imp_iff, implies_true, and_true]
theorem ry_ok' : RFok E yid (ryOf ytab) := show RYok E (ryOf ytab) from ry_ok ytab_ok
noncomputable def tab : List (Nat × RF) := [(yid, ryOf ytab), (10, rf10), (14, rf14), (15, rf15), (17, rf17), (20, rf20), (23, rf23), (24, rf24), (25, rf25), (26, rf26), (27, rf27), (31, rf31), (32, rf32), (33, rf33), (35, rf35), (43, rf43), (46, rf46), (49, rf49), (50, rf50), (51, rf51), (52, rf52), (59, rf59), (65, rf65), (66, rf66), (67, rf67), (68, rf68), (69, rf69), (70, rf70), (71, rf71), (72, rf72), (73, rf73), (74, rf74), (75, rf75), (78, rf78), (79, rf79), (80, rf80), (81, rf81), (82, rf82), (83, rf83), (84, rf84), (85, rf85), (91, rf91), (92, rf92), (100, rf100), (101, rf101), (102, rf102), (103, rf103), (108, rf108), (109, rf109), (110, rf110), (130, rf130)]
theorem tab_ok : ∀ p ∈ tab, RFok E p.1 p.2 := by
  unfold tab
  simp only [List.mem_cons, forall_eq_or_imp, List.not_mem_nil, false_imp_iff, implies_true, and_true]
  exact ⟨ry_ok', rf10_ok, rf14_ok, rf15_ok, rf17_ok, rf20_ok, rf23_ok, rf24_ok, rf25_ok, rf26_ok, rf27_ok, rf31_ok, rf32_ok, rf33_ok, rf35_ok, rf43_ok, rf46_ok, rf49_ok, rf50_ok, rf51_ok, rf52_ok, rf59_ok, rf65_ok, rf66_ok, rf67_ok, rf68_ok, rf69_ok, rf70_ok, rf71_ok, rf72_ok, rf73_ok, rf74_ok, rf75_ok, rf78_ok, rf79_ok, rf80_ok, rf81_ok, rf82_ok, rf83_ok, rf84_ok, rf85_ok, rf91_ok, rf92_ok, rf100_ok, rf101_ok, rf102_ok, rf103_ok, rf108_ok, rf109_ok, rf110_ok, rf130_ok⟩
noncomputable def rc (n : Nat) : CallF := rcall E.pure tab n
end Go.AM
