import Derived.KernelRfl
import Derived.Laws.BytesArg
import Derived.Laws.StructEq
import Derived.Test.YtkjeeiifhbmnnaaRows
import Derived.WalkKit
import Derived.Test.YtkjeeiifhbmnnaaAmB
import Derived.Test.YtkjeeiifhbmnnaaAmModel
import Derived.Test.YtkjeeiifhbmnnaaAmOps5
import Derived.Test.YtkjeeiifhbmnnaaAmOps6
import Derived.Test.YtkjeeiifhbmnnaaAmCode
import Derived.Test.YtkjeeiifhbmnnaaAmX
import Derived.Test.YtkjeeiifhbmnnaaAmEq
import Derived.Test.YtkjeeiifhbmnnaaRBase
import Derived.Test.YtkjeeiifhbmnnaaR62
set_option linter.unusedVariables false
set_option linter.unusedSimpArgs false
set_option linter.unusedSectionVars false
namespace Go.AM
open Go Go.Proofs
noncomputable def r117_L0 (call : CallF) (fuel base : Nat) (kx0 : M → Res2) (n : Nat) : Value → Value → Value → Value → M → Res2 :=
  Nat.rec (motive := fun _ => Value → Value → Value → Value → M → Res2) (fun _ _ _ _ _ => none)
    (fun _ ih x0 x1 x7 x8 m =>
      (k1 (mbin E .lss 3 x8 x7) fun v9_3 => (kb v9_3 (k1 (mindexAddr E.P 23 x1 x8) fun v14_4 => (k1 (xload E.P m 33 v14_4) fun v15_5 => (k1 (mbin E .add 3 x8 (.int .i64 1)) fun v18_6 => (k1 (mindexAddr E.P 23 x1 v18_6) fun v19_7 => (k1 (xload E.P m 33 v19_7) fun v20_8 => (kc (call base 122 [x0, v15_5, v20_8] m) (fun v21_9 m => (k1 (mbin E .add 3 x8 (.int .i64 1)) fun v22_10 => (ih x0 x1 x7 v22_10 m))) (fun _ _ => none))))))) (kx0 m)))) n
noncomputable def r117 (call : CallF) (fuel base : Nat) (x0 : Value) (x1 : Value) (m : M) : Res2 :=
  (k2 (vcall E.P base m .len [23] [x1]) fun v6_1 m => (k1 (mbin E .sub 3 v6_1 (.int .i64 1)) fun v7_2 => (r117_L0 call fuel base (fun m => (some (.ret (.tuple #[]), m))) fuel x0 x1 v7_2 (.int .i64 0) m)))
def keep117 : Keep := { region := fun i => ([[0, 1, 7, 8], [0, 1, 7, 8, 9], [0, 1, 4, 7, 8], [0, 1, 7, 8], [0, 1, 7, 8]] : List (List Nat))[i]?, exit := fun i => ([[], [0, 1, 7, 8]] : List (List Nat))[i]?, ret := some [] }
noncomputable def r117_L0_R (call : CallF) (fuel base n : Nat) (vs : List Value) (m : M) (K : KT) : Res2 := match vs with
  | [x0, x1, x7, x8] => r117_L0 call fuel base (fun m => K (.exit 0) { n := 23, l := [] } m) n x0 x1 x7 x8 m
  | _ => none
noncomputable def lp117 (call : CallF) (fuel base : Nat) : Lp := lpsel [(0, fun T m K => kslots 23 [0, 1, 7, 8] T fun vs => r117_L0_R call fuel base fuel vs m K)]
noncomputable def c117 : Code := Try.f117.body.getD .skip
theorem r117_L0_lk (call : CallF) (fuel base : Nat) : LoopsOk E call (lp117 call fuel base) fuel base 0 (loopB (blockB (seqR c117))) = (And True (And (And True True) (And (And True True) True))) := by kernel_rfl
theorem r117_L0_ok (call : CallF) (fuel base : Nat) : LpOk E call (lp117 call fuel base) fuel base 0 (loopB (blockB (seqR c117))) := by
  refine loop_ok (kp := keep117) (hb := Eq.mpr (r117_L0_lk call fuel base) (And.intro trivial (And.intro (And.intro trivial trivial) (And.intro (And.intro trivial trivial) trivial)))) 23 [0, 1, 7, 8] (fun n vs m K => r117_L0_R call fuel base n vs m K) ?_ ?_ (fun _ _ _ => rfl)
  · intro vs m K
    unfold r117_L0_R
    split <;> rfl
  · intro n vs m K hl
    match vs, hl with
    | [x0, x1, x7, x8], _ => show _ = _; kernel_rfl
theorem r117_eq (call : CallF) (fuel base : Nat) (x0 : Value) (x1 : Value) (m : M) : kbody E call keep117 (lp117 call fuel base) base Try.f117 [x0, x1] m = r117 call fuel base x0 x1 m := by
  kernel_rfl
noncomputable def rf117 : RF := fun call fuel base args m => match args with
  | [x0, x1] => r117 call fuel base x0 x1 m
  | _ => none
theorem r117_lk (call : CallF) (fuel base : Nat) : LoopsOk E call (lp117 call fuel base) fuel base 0 c117 = (And True (LpOk E call (lp117 call fuel base) fuel base 0 (loopB (blockB (seqR c117))))) := by kernel_rfl
theorem r117_fn : E.P.funcs[117]? = some Try.f117 := by kernel_rfl
theorem r117_body : Try.f117.body = some c117 := by kernel_rfl
theorem rf117_ok : RFok E 117 rf117 := by
  refine ⟨Try.f117, r117_fn, fun call fuel base args m r _ h => ?_⟩
  unfold rf117 at h
  split at h
  · rw [← r117_eq] at h
    exact kbody_sound (c := c117) r117_body (Eq.mpr (r117_lk call fuel base) (And.intro trivial (r117_L0_ok call fuel base))) h
  · simp at h
end Go.AM
namespace Go.AM
open Go Go.Proofs
noncomputable def r118 (call : CallF) (fuel base : Nat) (x0 : Value) (x1 : Value) (m : M) : Res2 :=
  (k1 (mbin E .lss 3 x1 (.int .i64 0)) fun v6_1 => (kb v6_1 none (k2 (vcall E.P base m .cap [33] [x0]) fun v10_2 m => (k2 (vcall E.P base m .len [33] [x0]) fun v12_3 m => (k1 (mbin E .sub 3 v10_2 v12_3) fun v13_4 => (k1 (mbin E .sub 3 x1 v13_4) fun v14_5 => (k1 (mbin E .gtr 3 v14_5 (.int .i64 0)) fun v16_6 => (kb v16_6 (k2 (vcall E.P base m .cap [33] [x0]) fun v19_7 m => (k1 (mslice E.P m 33 x0 none (some v19_7) none) fun v20_8 => (k2 (vcall E.P base m .append [33, 3] [v20_8, v14_5]) fun v22_9 m => (k2 (vcall E.P base m .len [33] [x0]) fun v24_10 m => (k1 (mslice E.P m 33 v22_9 none (some v24_10) none) fun v25_11 => (fVal v25_11 fun v => some (.ret v, m))))))) (fVal x0 fun v => some (.ret v, m))))))))))
def keep118 : Keep := { region := fun i => ([[0, 1], [0, 1, 6], [0, 1], [0, 1], [0, 1, 16], [0], [4]] : List (List Nat))[i]?, exit := fun i => ([] : List (List Nat))[i]?, ret := some [4] }
noncomputable def lp118 (call : CallF) (fuel base : Nat) : Lp := lpsel []
noncomputable def c118 : Code := Try.f118.body.getD .skip
theorem r118_eq (call : CallF) (fuel base : Nat) (x0 : Value) (x1 : Value) (m : M) : kbody E call keep118 (lp118 call fuel base) base Try.f118 [x0, x1] m = r118 call fuel base x0 x1 m := by
  kernel_rfl
noncomputable def rf118 : RF := fun call fuel base args m => match args with
  | [x0, x1] => r118 call fuel base x0 x1 m
  | _ => none
theorem r118_lk (call : CallF) (fuel base : Nat) : LoopsOk E call (lp118 call fuel base) fuel base 0 c118 = (And True (And (And True (And True True)) (And (And True (And True (And True True))) (And True True)))) := by kernel_rfl
theorem r118_fn : E.P.funcs[118]? = some Try.f118 := by kernel_rfl
theorem r118_body : Try.f118.body = some c118 := by kernel_rfl
theorem rf118_ok : RFok E 118 rf118 := by
  refine ⟨Try.f118, r118_fn, fun call fuel base args m r _ h => ?_⟩
  unfold rf118 at h
  split at h
  · rw [← r118_eq] at h
    exact kbody_sound (c := c118) r118_body (Eq.mpr (r118_lk call fuel base) (And.intro trivial (And.intro (And.intro trivial (And.intro trivial trivial)) (And.intro (And.intro trivial (And.intro trivial (And.intro trivial trivial))) (And.intro trivial trivial))))) h
  · simp at h
end Go.AM
namespace Go.AM
open Go Go.Proofs
noncomputable def r121 (call : CallF) (fuel base : Nat) (x0 : Value) (m : M) : Res2 :=
  (k1 (mbin E .neq 3 x0 x0) fun v5_1 => (fVal v5_1 fun v => some (.ret v, m)))
def keep121 : Keep := { region := fun i => ([[0], [2]] : List (List Nat))[i]?, exit := fun i => ([] : List (List Nat))[i]?, ret := some [2] }
noncomputable def lp121 (call : CallF) (fuel base : Nat) : Lp := lpsel []
noncomputable def c121 : Code := Try.f121.body.getD .skip
theorem r121_eq (call : CallF) (fuel base : Nat) (x0 : Value) (m : M) : kbody E call keep121 (lp121 call fuel base) base Try.f121 [x0] m = r121 call fuel base x0 m := by
  kernel_rfl
noncomputable def rf121 : RF := fun call fuel base args m => match args with
  | [x0] => r121 call fuel base x0 m
  | _ => none
theorem r121_lk (call : CallF) (fuel base : Nat) : LoopsOk E call (lp121 call fuel base) fuel base 0 c121 = (And True (And True True)) := by kernel_rfl
theorem r121_fn : E.P.funcs[121]? = some Try.f121 := by kernel_rfl
theorem r121_body : Try.f121.body = some c121 := by kernel_rfl
theorem rf121_ok : RFok E 121 rf121 := by
  refine ⟨Try.f121, r121_fn, fun call fuel base args m r _ h => ?_⟩
  unfold rf121 at h
  split at h
  · rw [← r121_eq] at h
    exact kbody_sound (c := c121) r121_body (Eq.mpr (r121_lk call fuel base) (And.intro trivial (And.intro trivial trivial))) h
  · simp at h
end Go.AM
namespace Go.AM
open Go Go.Proofs
noncomputable def r122_L2 (call : CallF) (fuel base : Nat) (kp : Value → M → Res2) (kx2 : Value → Value → Value → Value → Value → M → Res2) (n : Nat) : Value → Value → Value → Value → Value → Value → Value → Value → Value → M → Res2 :=
  Nat.rec (motive := fun _ => Value → Value → Value → Value → Value → Value → Value → Value → Value → M → Res2) (fun _ _ _ _ _ _ _ _ _ _ => none)
    (fun _ ih x0 x2 x7 x11 x12 x13 x23 x24 x25 m =>
      (k1 (mbin E .lss 3 x25 x24) fun v26_11 => (kb v26_11 (k1 (mindexAddr E.P 33 x23 x25) fun v27_12 => (k1 (xload E.P m 3 v27_12) fun v28_13 => (k1 (mindexAddr E.P 33 x2 v28_13) fun v33_14 => (k1 (xload E.P m 3 v33_14) fun v34_15 => (kc (call base 99 [v34_15, x7] m) (fun v36_16 m => (k1 (mindexAddr E.P 33 x2 v28_13) fun v37_17 => (ks (xstore E.P base m 3 v37_17 v36_16) fun m => (k1 (mbin E .add 3 x25 (.int .i64 1)) fun v38_18 => (ih x0 x2 x7 x11 x12 x13 x23 x24 v38_18 m))))) (fun v m => kp v m)))))) (kx2 x0 x2 x11 x12 x13 m)))) n
noncomputable def r122_L0 (call : CallF) (fuel base : Nat) (kp : Value → M → Res2) (kx0 : M → Res2) (n : Nat) : Value → Value → Value → Value → Value → M → Res2 :=
  Nat.rec (motive := fun _ => Value → Value → Value → Value → Value → M → Res2) (fun _ _ _ _ _ _ => none)
    (fun _ ih x0 x2 x11 x12 x13 m =>
      (k1 (mbin E .lss 3 x13 x12) fun v14_3 => (kb v14_3 (k1 (mindexAddr E.P 33 x11 x13) fun v16_4 => (k1 (xload E.P m 3 v16_4) fun v17_5 => (k1 (mbin E .eql 3 v17_5 (.int .i64 0)) fun v19_6 => (kb v19_6 (k1 (mbin E .add 3 x13 (.int .i64 1)) fun v39_7 => (ih x0 x2 x11 x12 v39_7 m)) (k1 (mindexAddr E.P 103 x0 x13) fun v22_8 => (k1 (xload E.P m 33 v22_8) fun v23_9 => (k2 (vcall E.P base m .len [33] [v23_9]) fun v24_10 m => (r122_L2 call fuel base (fun v m => kp v m) (fun y0_19 y2_20 y11_21 y12_22 y13_23 m => (k1 (mbin E .add 3 y13_23 (.int .i64 1)) fun v39_24 => (ih y0_19 y2_20 y11_21 y12_22 v39_24 m))) fuel x0 x2 v17_5 x11 x12 x13 v23_9 v24_10 (.int .i64 0) m)))))))) (kx0 m)))) n
noncomputable def r122 (call : CallF) (fuel base : Nat) (x0 : Value) (x1 : Value) (x2 : Value) (m : M) : Res2 :=
  (k2 (vcall E.P base m .clear [33] [x2]) fun vNone_1 m => (k2 (vcall E.P base m .len [33] [x1]) fun v12_2 m => (r122_L0 call fuel base (fun v m => some (.pan v, m)) (fun m => (some (.ret (.tuple #[]), m))) fuel x0 x2 x1 v12_2 (.int .i64 0) m)))
def keep122 : Keep := { region := fun i => ([[0, 1, 2], [0, 2, 11, 12, 13], [0, 2, 11, 12, 13, 14], [0, 2, 6, 7, 11, 12, 13], [0, 2, 6, 7, 11, 12, 13, 19], [0, 2, 7, 11, 12, 13, 23, 24, 25], [0, 2, 7, 11, 12, 13, 23, 24, 25, 26], [0, 2, 7, 9, 11, 12, 13, 23, 24, 25], [0, 2, 7, 11, 12, 13, 23, 24, 25], [0, 2, 7, 11, 12, 13, 23, 24, 25], [0, 2, 11, 12, 13]] : List (List Nat))[i]?, exit := fun i => ([[], [0, 2, 11, 12, 13], [0, 2, 11, 12, 13], [0, 2, 7, 11, 12, 13, 23, 24, 25]] : List (List Nat))[i]?, ret := some [] }
noncomputable def r122_L2_R (call : CallF) (fuel base n : Nat) (vs : List Value) (m : M) (K : KT) : Res2 := match vs with
  | [x0, x2, x7, x11, x12, x13, x23, x24, x25] => r122_L2 call fuel base (fun v m => K (.pan v) { n := 40, l := [] } m) (fun y0 y2 y11 y12 y13 m => K (.exit 2) { n := 40, l := [(0, y0), (2, y2), (11, y11), (12, y12), (13, y13)] } m) n x0 x2 x7 x11 x12 x13 x23 x24 x25 m
  | _ => none
noncomputable def r122_L0_R (call : CallF) (fuel base n : Nat) (vs : List Value) (m : M) (K : KT) : Res2 := match vs with
  | [x0, x2, x11, x12, x13] => r122_L0 call fuel base (fun v m => K (.pan v) { n := 40, l := [] } m) (fun m => K (.exit 0) { n := 40, l := [] } m) n x0 x2 x11 x12 x13 m
  | _ => none
noncomputable def lp122 (call : CallF) (fuel base : Nat) : Lp := lpsel [(2, fun T m K => kslots 40 [0, 2, 7, 11, 12, 13, 23, 24, 25] T fun vs => r122_L2_R call fuel base fuel vs m K), (0, fun T m K => kslots 40 [0, 2, 11, 12, 13] T fun vs => r122_L0_R call fuel base fuel vs m K)]
noncomputable def c122 : Code := Try.f122.body.getD .skip
theorem r122_L2_lk (call : CallF) (fuel base : Nat) : LoopsOk E call (lp122 call fuel base) fuel base 2 (loopB (blockB (seqR (seqR (seqR (blockB (seqL (seqR (seqR (loopB (blockB (seqR (seqR c122))))))))))))) = (And True (And (And True True) (And (And True True) True))) := by kernel_rfl
theorem r122_L2_ok (call : CallF) (fuel base : Nat) : LpOk E call (lp122 call fuel base) fuel base 2 (loopB (blockB (seqR (seqR (seqR (blockB (seqL (seqR (seqR (loopB (blockB (seqR (seqR c122))))))))))))) := by
  refine loop_ok (kp := keep122) (hb := Eq.mpr (r122_L2_lk call fuel base) (And.intro trivial (And.intro (And.intro trivial trivial) (And.intro (And.intro trivial trivial) trivial)))) 40 [0, 2, 7, 11, 12, 13, 23, 24, 25] (fun n vs m K => r122_L2_R call fuel base n vs m K) ?_ ?_ (fun _ _ _ => rfl)
  · intro vs m K
    unfold r122_L2_R
    split <;> rfl
  · intro n vs m K hl
    match vs, hl with
    | [x0, x2, x7, x11, x12, x13, x23, x24, x25], _ => show _ = _; kernel_rfl
theorem r122_L0_lk (call : CallF) (fuel base : Nat) : LoopsOk E call (lp122 call fuel base) fuel base 0 (loopB (blockB (seqR (seqR c122)))) = (And True (And (And True True) (And (And True (And (And True (And True True)) (And True (LpOk E call (lp122 call fuel base) fuel base 2 (loopB (blockB (seqR (seqR (seqR (blockB (seqL (seqR (seqR (loopB (blockB (seqR (seqR c122))))))))))))))))) True))) := by kernel_rfl
theorem r122_L0_ok (call : CallF) (fuel base : Nat) : LpOk E call (lp122 call fuel base) fuel base 0 (loopB (blockB (seqR (seqR c122)))) := by
  refine loop_ok (kp := keep122) (hb := Eq.mpr (r122_L0_lk call fuel base) (And.intro trivial (And.intro (And.intro trivial trivial) (And.intro (And.intro trivial (And.intro (And.intro trivial (And.intro trivial trivial)) (And.intro trivial (r122_L2_ok call fuel base)))) trivial)))) 40 [0, 2, 11, 12, 13] (fun n vs m K => r122_L0_R call fuel base n vs m K) ?_ ?_ (fun _ _ _ => rfl)
  · intro vs m K
    unfold r122_L0_R
    split <;> rfl
  · intro n vs m K hl
    match vs, hl with
    | [x0, x2, x11, x12, x13], _ => show _ = _; kernel_rfl
theorem r122_eq (call : CallF) (fuel base : Nat) (x0 : Value) (x1 : Value) (x2 : Value) (m : M) : kbody E call keep122 (lp122 call fuel base) base Try.f122 [x0, x1, x2] m = r122 call fuel base x0 x1 x2 m := by
  kernel_rfl
noncomputable def rf122 : RF := fun call fuel base args m => match args with
  | [x0, x1, x2] => r122 call fuel base x0 x1 x2 m
  | _ => none
theorem r122_lk (call : CallF) (fuel base : Nat) : LoopsOk E call (lp122 call fuel base) fuel base 0 c122 = (And True (And True (LpOk E call (lp122 call fuel base) fuel base 0 (loopB (blockB (seqR (seqR c122))))))) := by kernel_rfl
theorem r122_fn : E.P.funcs[122]? = some Try.f122 := by kernel_rfl
theorem r122_body : Try.f122.body = some c122 := by kernel_rfl
theorem rf122_ok : RFok E 122 rf122 := by
  refine ⟨Try.f122, r122_fn, fun call fuel base args m r _ h => ?_⟩
  unfold rf122 at h
  split at h
  · rw [← r122_eq] at h
    exact kbody_sound (c := c122) r122_body (Eq.mpr (r122_lk call fuel base) (And.intro trivial (And.intro trivial (r122_L0_ok call fuel base)))) h
  · simp at h
end Go.AM
namespace Go.AM
open Go Go.Proofs
noncomputable def tab : List (Nat × RF) := [(9, rf9), (16, rf16), (17, rf17), (25, rf25), (28, rf28), (30, rf30), (31, rf31), (32, rf32), (34, rf34), (37, rf37), (38, rf38), (39, rf39), (40, rf40), (41, rf41), (48, rf48), (49, rf49), (50, rf50), (51, rf51), (52, rf52), (58, rf58), (59, rf59), (60, rf60), (61, rf61), (62, rf62), (66, rf66), (67, rf67), (68, rf68), (69, rf69), (71, rf71), (73, rf73), (74, rf74), (80, rf80), (81, rf81), (82, rf82), (84, rf84), (89, rf89), (91, rf91), (92, rf92), (93, rf93), (94, rf94), (95, rf95), (96, rf96), (97, rf97), (98, rf98), (99, rf99), (100, rf100), (101, rf101), (103, rf103), (104, rf104), (105, rf105), (106, rf106), (107, rf107), (112, rf112), (114, rf114), (115, rf115), (116, rf116), (117, rf117), (118, rf118), (121, rf121), (122, rf122)]
theorem tab_ok : ∀ p ∈ tab, RFok E p.1 p.2 := by
  unfold tab
  simp only [List.mem_cons, forall_eq_or_imp, List.not_mem_nil, false_imp_iff, implies_true, and_true]
  exact ⟨rf9_ok, rf16_ok, rf17_ok, rf25_ok, rf28_ok, rf30_ok, rf31_ok, rf32_ok, rf34_ok, rf37_ok, rf38_ok, rf39_ok, rf40_ok, rf41_ok, rf48_ok, rf49_ok, rf50_ok, rf51_ok, rf52_ok, rf58_ok, rf59_ok, rf60_ok, rf61_ok, rf62_ok, rf66_ok, rf67_ok, rf68_ok, rf69_ok, rf71_ok, rf73_ok, rf74_ok, rf80_ok, rf81_ok, rf82_ok, rf84_ok, rf89_ok, rf91_ok, rf92_ok, rf93_ok, rf94_ok, rf95_ok, rf96_ok, rf97_ok, rf98_ok, rf99_ok, rf100_ok, rf101_ok, rf103_ok, rf104_ok, rf105_ok, rf106_ok, rf107_ok, rf112_ok, rf114_ok, rf115_ok, rf116_ok, rf117_ok, rf118_ok, rf121_ok, rf122_ok⟩
noncomputable def rc (n : Nat) : CallF := rcall E.pure tab n
end Go.AM
namespace Go.AM
open Go Go.Proofs
abbrev nilS : Value := .slice none 0 0
def k1n (o : Option Value) (k : Value → Res2) : Res2 := match o with
  | some r => k r
  | none => none
theorem k1_fun : k1 = k1n := by
  funext o k
  cases o with
  | none => rfl
  | some r => exact fVal_eq r k
theorem fVal_fun : (@fVal Res2 : Value → (Value → Res2) → Res2) = fun v k => k v := by
  funext v k
  exact fVal_eq v k
noncomputable def vcalln (P : Program) (base : Nat) (m : M) (b : Builtin) (tys : List TypeId) (vs : List Value) : Option (Value × M) := match b with
  | .len => match tys, vs with
    | t :: _, [x] => match mlen P t x with
      | some r => some (r, m)
      | none => none
    | _, _ => none
  | .min => match vs with
    | x :: xs => match mfold mmin2 x xs with
      | some r => some (r, m)
      | none => none
    | _ => none
  | .max => match vs with
    | x :: xs => match mfold mmax2 x xs with
      | some r => some (r, m)
      | none => none
    | _ => none
  | b => xbuiltin P base m b tys vs
theorem vcall_fun : vcall = vcalln := by
  funext P base m b tys vs
  unfold vcall vcalln
  cases b <;> first
    | rfl
    | (simp only [xbuiltin, obuiltin, fVal_eq]; done)
    | (simp only [xbuiltin, obuiltin, fVal_eq]; rfl)
def vi (n : Int) : Value := .int .i64 n
def rowz (z : Nat) (ex : Bool) (cs : List Value) : Row := { esz := z, ex := ex, ro := false, cells := cs }
abbrev sl (p N : Nat) : Value := .slice (some ⟨p, 0, none⟩) N N
abbrev pt (p off : Nat) : Value := .pointer (some ⟨p, off, none⟩)
/-- A slice that grows: nil while it has nothing, else a row of its own. -/
def Grow (z b : Nat) (m : M) (v : Value) (cs : List Value) (n : Nat) : Prop :=
  (n = 0 ∧ v = .slice none 0 0 ∧ cs = []) ∨ ∃ r, 1 ≤ n ∧ b ≤ r ∧ v = sl r n ∧ m[r]? = some (rowz z false cs) ∧ cs.length = n * z
def Keeps (n : Nat) (m m' : M) : Prop := m.length ≤ m'.length ∧ ∀ i, i < n → m'[i]? = m[i]?
theorem Keeps.refl (n : Nat) (m : M) : Keeps n m m := ⟨Nat.le_refl _, fun _ _ => rfl⟩
theorem Keeps.trans {n : Nat} {a b c : M} (h : Keeps n a b) (k : Keeps n b c) : Keeps n a c := ⟨Nat.le_trans h.1 k.1, fun i hi => (k.2 i hi).trans (h.2 i hi)⟩
theorem Keeps.mono {n k : Nat} {a b : M} (h : Keeps n a b) (hk : k ≤ n) : Keeps k a b := ⟨h.1, fun i hi => h.2 i (by omega)⟩
theorem Keeps.push (n : Nat) (m : M) (h : n ≤ m.length) (x : List Row) : Keeps n m (m ++ x) := ⟨by simp, fun i hi => List.getElem?_append_left (by omega)⟩
theorem Keeps.set (n : Nat) (m : M) (r : Nat) (row : Row) (h : n ≤ r) : Keeps n m (m.set r row) := ⟨by simp, fun i hi => List.getElem?_set_ne (by omega)⟩
abbrev wr (n : Int) : Int := IntKind.i64.wrap n
def cellR (cs : List Value) : Row := { esz := 0, ex := true, ro := false, cells := cs }
theorem wr_id {n : Int} (h0 : -4611686018427387904 ≤ n) (h1 : n ≤ 4611686018427387904) : wr n = n := by
  unfold wr IntKind.wrap
  simp [IntKind.bits, IntKind.signed]
  omega
theorem wr_succ (j : Nat) (h : j ≤ 1000000) : wr ((j : Int) + 1) = ((j + 1 : Nat) : Int) := (wr_id (by omega) (by omega)).trans (by omega)
theorem lss_nat (i j : Nat) : mbin E .lss 3 (vi i) (vi j) = some (.bool (decide (i < j))) := by
  have e : mbin E .lss 3 (vi i) (vi j) = some (.bool (decide ((i : Int) < j))) := rfl
  rw [e]
  congr 2
  exact decide_eq_decide.2 (by omega)
theorem splice_one (cs : List Value) (off : Nat) (v : Value) (h : off < cs.length) : splice cs off [v] = cs.set off v := by
  unfold splice
  rw [List.set_eq_take_append_cons_drop, if_pos h]
  simp
theorem mwrite_one {base : Nat} {m : M} {p off : Nat} {v : Value} {row : Row} (hb : base ≤ p) (hr : m[p]? = some row) (hro : row.ro = false) (ho : off < row.cells.length) (hv : v.oneCell' = true) :
    mwrite base m p off [v] = some (m.set p { row with cells := row.cells.set off v }) := by
  unfold mwrite
  rw [if_neg (by omega), hr]
  simp only [hro, Bool.false_eq_true, if_false, List.length_cons, List.length_nil, List.all_cons, List.all_nil, hv, Bool.and_self, if_true]
  rw [if_pos (by omega), splice_one _ _ _ ho, fList_eq, fList_eq]
theorem add1 (j : Nat) (h : j ≤ 1000000) : mbin E .add 3 (vi j) (.int .i64 1) = some (vi ((j + 1 : Nat) : Int)) := by
  have e : mbin E .add 3 (vi j) (.int .i64 1) = some (vi (wr ((j : Int) + 1))) := rfl
  rw [e, wr_succ j h]
theorem kB_same (m : M) (v : Value) : kB m (some (.ret v, m)) = some (.ret v, m) := by
  simp only [kB, List.drop_length, List.append_nil, fList_eq]
theorem k2s (a : Value) (m : M) (k : Value → M → Res2) : k2 (some (a, m)) k = k a m := Eq.trans rfl rfl
theorem k1s (a : Value) (k : Value → Res2) : k1n (some a) k = k a := Eq.trans rfl rfl
theorem kss (m : M) (k : M → Res2) : ks (some m) k = k m := Eq.trans rfl rfl
theorem kcs (a : Value) (m : M) (k p : Value → M → Res2) : kc (some (.ret a, m)) k p = k a m := Eq.trans rfl rfl
theorem kbt (t f : Res2) : kb (.bool true) t f = t := Eq.trans rfl rfl
theorem kbf (t f : Res2) : kb (.bool false) t f = f := Eq.trans rfl rfl
theorem k0s (a : Value) (k : Value → Res2) : k0 (some a) k = k a := Eq.trans rfl rfl
theorem box_cell {m : M} {q : Nat} {cs : List Value} (h : m[q]? = some (cellR cs)) (j : Nat) (v : Value) (hv : cs[j]? = some v) : mcell m q j = some v := by
  unfold mcell
  rw [h]
  exact hv
theorem bxa2 (m : M) (a0 a1 : Value) : xbox m (.agg #[a0, a1]) = some (pt m.length 0, m ++ [cellR [a0, a1]]) := by
  have e : xbox m (.agg #[a0, a1]) = xlen m fun k => xpush m (cellR [a0, a1]) fun m' => some (pt k 0, m') := by kernel_rfl
  rw [e, xlen_eq, fNat_eq, xpush_eq, fList_eq]
theorem bxa4 (m : M) (a0 a1 a2 a3 : Value) : xbox m (.agg #[a0, a1, a2, a3]) = some (pt m.length 0, m ++ [cellR [a0, a1, a2, a3]]) := by
  have e : xbox m (.agg #[a0, a1, a2, a3]) = xlen m fun k => xpush m (cellR [a0, a1, a2, a3]) fun m' => some (pt k 0, m') := by kernel_rfl
  rw [e, xlen_eq, fNat_eq, xpush_eq, fList_eq]
theorem quo3 (a b : Int) (h : b ≠ 0) : mbin E .quo 3 (vi a) (vi b) = some (vi (wr (a.tdiv b))) := by
  have e : mbin E .quo 3 (vi a) (vi b) = if b = 0 then none else some (vi (wr (a.tdiv b))) := by kernel_rfl
  rw [e, if_neg h]
theorem add3 (a b : Int) : mbin E .add 3 (vi a) (vi b) = some (vi (wr (a + b))) := by kernel_rfl
theorem sub3 (a b : Int) : mbin E .sub 3 (vi a) (vi b) = some (vi (wr (a - b))) := by kernel_rfl
theorem mul3 (a b : Int) : mbin E .mul 3 (vi a) (vi b) = some (vi (wr (a * b))) := by kernel_rfl
theorem lss3 (a b : Int) : mbin E .lss 3 (vi a) (vi b) = some (.bool (decide (a < b))) := by kernel_rfl
theorem leq3 (a b : Int) : mbin E .leq 3 (vi a) (vi b) = some (.bool (decide (a ≤ b))) := by kernel_rfl
theorem gtr3 (a b : Int) : mbin E .gtr 3 (vi a) (vi b) = some (.bool (decide (a > b))) := by kernel_rfl
theorem geq3 (a b : Int) : mbin E .geq 3 (vi a) (vi b) = some (.bool (decide (a ≥ b))) := by kernel_rfl
theorem eql3 (a b : Int) : mbin E .eql 3 (vi a) (vi b) = some (.bool (decide (a = b))) := by
  have e : mbin E .eql 3 (vi a) (vi b) = some (.bool (a == b)) := by kernel_rfl
  rw [e]; congr 2
theorem neq3 (a b : Int) : mbin E .neq 3 (vi a) (vi b) = some (.bool (!decide (a = b))) := by
  have e : mbin E .neq 3 (vi a) (vi b) = some (.bool (!(a == b))) := by kernel_rfl
  rw [e]; congr 2
theorem eql26 (a b : Int) : mbin E .eql 26 (vi a) (vi b) = some (.bool (decide (a = b))) := by
  have e : mbin E .eql 26 (vi a) (vi b) = some (.bool (a == b)) := by kernel_rfl
  rw [e]; congr 2
theorem neq26 (a b : Int) : mbin E .neq 26 (vi a) (vi b) = some (.bool (!decide (a = b))) := by
  have e : mbin E .neq 26 (vi a) (vi b) = some (.bool (!(a == b))) := by kernel_rfl
  rw [e]; congr 2
theorem not4 (b : Bool) : mun .not (.bool b) = some (.bool !b) := by kernel_rfl
theorem ld3 (m : M) (r off : Nat) : xload E.P m 3 (pt r off) = mcell m r off := by
  have e : xload E.P m 3 (pt r off) = xcell m r off := by kernel_rfl
  rw [e, xcell_eq]
theorem st3 (base : Nat) (m : M) (p off : Nat) (x : Int) : xstore E.P base m 3 (pt p off) (vi x) = mwrite base m p off [(vi x)] := by
  have e : xstore E.P base m 3 (pt p off) (vi x) = xwrite base m p off [(vi x)] := by kernel_rfl
  rw [e, xwrite_eq]
theorem ld33 (m : M) (r off : Nat) : xload E.P m 33 (pt r off) = mcell m r off := by
  have e : xload E.P m 33 (pt r off) = xcell m r off := by kernel_rfl
  rw [e, xcell_eq]
theorem st33 (base : Nat) (m : M) (p off q l c : Nat) : xstore E.P base m 33 (pt p off) (.slice (some ⟨q, 0, none⟩) l c) = mwrite base m p off [.slice (some ⟨q, 0, none⟩) l c] := by
  have e : xstore E.P base m 33 (pt p off) (.slice (some ⟨q, 0, none⟩) l c) = xwrite base m p off [.slice (some ⟨q, 0, none⟩) l c] := by kernel_rfl
  rw [e, xwrite_eq]
theorem ld23 (m : M) (r off : Nat) : xload E.P m 23 (pt r off) = mcell m r off := by
  have e : xload E.P m 23 (pt r off) = xcell m r off := by kernel_rfl
  rw [e, xcell_eq]
theorem st23 (base : Nat) (m : M) (p off q l c : Nat) : xstore E.P base m 23 (pt p off) (.slice (some ⟨q, 0, none⟩) l c) = mwrite base m p off [.slice (some ⟨q, 0, none⟩) l c] := by
  have e : xstore E.P base m 23 (pt p off) (.slice (some ⟨q, 0, none⟩) l c) = xwrite base m p off [.slice (some ⟨q, 0, none⟩) l c] := by kernel_rfl
  rw [e, xwrite_eq]
theorem al45 (m : M) : xalloc E.P m 45 = some (pt m.length 0, m ++ [cellR [.int .i64 0, .int .i64 0, .int .i64 0, .int .i64 0]]) := by
  have e : xalloc E.P m 45 = xlen m fun n => xpush m (cellR [.int .i64 0, .int .i64 0, .int .i64 0, .int .i64 0]) fun m' => some (pt n 0, m') := by kernel_rfl
  rw [e, xlen_eq, fNat_eq, xpush_eq, fList_eq]
theorem ld45 {m : M} {r : Nat} {row : Row} {off : Nat} (h : m[r]? = some row) (hl : off + 4 ≤ row.cells.length) : xload E.P m 45 (pt r off) = some (.agg ((row.cells.drop off).take 4).toArray) := by
  have e : xload E.P m 45 (pt r off) = (xread m r off 4).map fun cs => .agg cs.toArray := by kernel_rfl
  rw [e, xread_eq]
  unfold mread
  rw [h]
  simp only
  rw [if_pos hl]
  rfl
theorem ldb45 {m : M} {r : Nat} {a0 a1 a2 a3 : Value} (h : m[r]? = some (cellR [a0, a1, a2, a3])) : xload E.P m 45 (pt r 0) = some (.agg #[a0, a1, a2, a3]) := ld45 h (by simp [cellR])
theorem st45 {base : Nat} {m : M} {p : Nat} (hb : base ≤ p) {a0 a1 a2 a3 b0 b1 b2 b3 : Value} (h : m[p]? = some (cellR [b0, b1, b2, b3])) (hone : ([a0, a1, a2, a3] : List Value).all (·.oneCell') = true) : xstore E.P base m 45 (pt p 0) (.agg #[a0, a1, a2, a3]) = some (m.set p (cellR [a0, a1, a2, a3])) := by
  have e : xstore E.P base m 45 (pt p 0) (.agg #[a0, a1, a2, a3]) = xwrite base m p 0 [a0, a1, a2, a3] := by kernel_rfl
  rw [e, xwrite_eq]
  unfold mwrite
  rw [if_neg (by omega), h]
  simp only [cellR, splice, fList_eq, Bool.false_eq_true, if_false, hone, if_true]
  simp
theorem ff45_0 (p o : Nat) : mfieldAddr E.P 45 (pt p o) 0 = some (pt p (o + 0)) := by kernel_rfl
theorem ff45_1 (p o : Nat) : mfieldAddr E.P 45 (pt p o) 1 = some (pt p (o + 1)) := by kernel_rfl
theorem ff45_2 (p o : Nat) : mfieldAddr E.P 45 (pt p o) 2 = some (pt p (o + 2)) := by kernel_rfl
theorem ff45_3 (p o : Nat) : mfieldAddr E.P 45 (pt p o) 3 = some (pt p (o + 3)) := by kernel_rfl
theorem ld69 {m : M} {r : Nat} {row : Row} {off : Nat} (h : m[r]? = some row) (hl : off + 3 ≤ row.cells.length) : xload E.P m 69 (pt r off) = some (.agg ((row.cells.drop off).take 3).toArray) := by
  have e : xload E.P m 69 (pt r off) = (xread m r off 3).map fun cs => .agg cs.toArray := by kernel_rfl
  rw [e, xread_eq]
  unfold mread
  rw [h]
  simp only
  rw [if_pos hl]
  rfl
theorem al76 (m : M) : xalloc E.P m 76 = some (pt m.length 0, m ++ [cellR [.int .i64 0, .slice none 0 0]]) := by
  have e : xalloc E.P m 76 = xlen m fun n => xpush m (cellR [.int .i64 0, .slice none 0 0]) fun m' => some (pt n 0, m') := by kernel_rfl
  rw [e, xlen_eq, fNat_eq, xpush_eq, fList_eq]
theorem ld76 {m : M} {r : Nat} {row : Row} {off : Nat} (h : m[r]? = some row) (hl : off + 2 ≤ row.cells.length) : xload E.P m 76 (pt r off) = some (.agg ((row.cells.drop off).take 2).toArray) := by
  have e : xload E.P m 76 (pt r off) = (xread m r off 2).map fun cs => .agg cs.toArray := by kernel_rfl
  rw [e, xread_eq]
  unfold mread
  rw [h]
  simp only
  rw [if_pos hl]
  rfl
theorem ldb76 {m : M} {r : Nat} {a0 a1 : Value} (h : m[r]? = some (cellR [a0, a1])) : xload E.P m 76 (pt r 0) = some (.agg #[a0, a1]) := ld76 h (by simp [cellR])
theorem ml76 {m : M} {r : Nat} {a0 a1 : Value} (h : m[r]? = some (cellR [a0, a1])) : mload E.P m 76 (pt r 0) = some (.agg #[a0, a1]) := by
  have e : mload E.P m 76 (pt r 0) = (mread m r 0 2).map fun cs => .agg cs.toArray := by kernel_rfl
  rw [e]
  unfold mread
  rw [h]
  rfl
theorem st76 {base : Nat} {m : M} {p : Nat} (hb : base ≤ p) {a0 a1 b0 b1 : Value} (h : m[p]? = some (cellR [b0, b1])) (hone : ([a0, a1] : List Value).all (·.oneCell') = true) : xstore E.P base m 76 (pt p 0) (.agg #[a0, a1]) = some (m.set p (cellR [a0, a1])) := by
  have e : xstore E.P base m 76 (pt p 0) (.agg #[a0, a1]) = xwrite base m p 0 [a0, a1] := by kernel_rfl
  rw [e, xwrite_eq]
  unfold mwrite
  rw [if_neg (by omega), h]
  simp only [cellR, splice, fList_eq, Bool.false_eq_true, if_false, hone, if_true]
  simp
theorem ff76_0 (p o : Nat) : mfieldAddr E.P 76 (pt p o) 0 = some (pt p (o + 0)) := by kernel_rfl
theorem ff76_1 (p o : Nat) : mfieldAddr E.P 76 (pt p o) 1 = some (pt p (o + 1)) := by kernel_rfl
theorem al109 (m : M) : xalloc E.P m 109 = some (pt m.length 0, m ++ [cellR [.int .i64 0, .int .i64 0, .int .i64 0, .int .i64 0, .int .i64 0, .int .i64 0, .int .i64 0, .int .i64 0]]) := by
  have e : xalloc E.P m 109 = xlen m fun n => xpush m (cellR [.int .i64 0, .int .i64 0, .int .i64 0, .int .i64 0, .int .i64 0, .int .i64 0, .int .i64 0, .int .i64 0]) fun m' => some (pt n 0, m') := by kernel_rfl
  rw [e, xlen_eq, fNat_eq, xpush_eq, fList_eq]
theorem ld109 {m : M} {r : Nat} {row : Row} {off : Nat} (h : m[r]? = some row) (hl : off + 8 ≤ row.cells.length) : xload E.P m 109 (pt r off) = some (.agg ((row.cells.drop off).take 8).toArray) := by
  have e : xload E.P m 109 (pt r off) = (xread m r off 8).map fun cs => .agg cs.toArray := by kernel_rfl
  rw [e, xread_eq]
  unfold mread
  rw [h]
  simp only
  rw [if_pos hl]
  rfl
theorem ldb109 {m : M} {r : Nat} {a0 a1 a2 a3 a4 a5 a6 a7 : Value} (h : m[r]? = some (cellR [a0, a1, a2, a3, a4, a5, a6, a7])) : xload E.P m 109 (pt r 0) = some (.agg #[a0, a1, a2, a3, a4, a5, a6, a7]) := ld109 h (by simp [cellR])
theorem ml109 {m : M} {r : Nat} {a0 a1 a2 a3 a4 a5 a6 a7 : Value} (h : m[r]? = some (cellR [a0, a1, a2, a3, a4, a5, a6, a7])) : mload E.P m 109 (pt r 0) = some (.agg #[a0, a1, a2, a3, a4, a5, a6, a7]) := by
  have e : mload E.P m 109 (pt r 0) = (mread m r 0 8).map fun cs => .agg cs.toArray := by kernel_rfl
  rw [e]
  unfold mread
  rw [h]
  rfl
theorem st109 {base : Nat} {m : M} {p : Nat} (hb : base ≤ p) {a0 a1 a2 a3 a4 a5 a6 a7 b0 b1 b2 b3 b4 b5 b6 b7 : Value} (h : m[p]? = some (cellR [b0, b1, b2, b3, b4, b5, b6, b7])) (hone : ([a0, a1, a2, a3, a4, a5, a6, a7] : List Value).all (·.oneCell') = true) : xstore E.P base m 109 (pt p 0) (.agg #[a0, a1, a2, a3, a4, a5, a6, a7]) = some (m.set p (cellR [a0, a1, a2, a3, a4, a5, a6, a7])) := by
  have e : xstore E.P base m 109 (pt p 0) (.agg #[a0, a1, a2, a3, a4, a5, a6, a7]) = xwrite base m p 0 [a0, a1, a2, a3, a4, a5, a6, a7] := by kernel_rfl
  rw [e, xwrite_eq]
  unfold mwrite
  rw [if_neg (by omega), h]
  simp only [cellR, splice, fList_eq, Bool.false_eq_true, if_false, hone, if_true]
  simp
theorem ff109_0 (p o : Nat) : mfieldAddr E.P 109 (pt p o) 0 = some (pt p (o + 0)) := by kernel_rfl
theorem ff109_1 (p o : Nat) : mfieldAddr E.P 109 (pt p o) 1 = some (pt p (o + 4)) := by kernel_rfl
theorem ff109_2 (p o : Nat) : mfieldAddr E.P 109 (pt p o) 2 = some (pt p (o + 5)) := by kernel_rfl
theorem ff109_3 (p o : Nat) : mfieldAddr E.P 109 (pt p o) 3 = some (pt p (o + 6)) := by kernel_rfl
theorem ff109_4 (p o : Nat) : mfieldAddr E.P 109 (pt p o) 4 = some (pt p (o + 7)) := by kernel_rfl
theorem ix33 (p l c j : Nat) (h : j < l) : mindexAddr E.P 33 (.slice (some ⟨p, 0, none⟩) l c) (vi j) = some (pt p j) := by
  have e : mindexAddr E.P 33 (.slice (some ⟨p, 0, none⟩) l c) (vi j) = if 0 ≤ (j : Int) ∧ (j : Int) < l then some (.pointer (some ⟨p, 0 + ((j : Int)).toNat * 1, none⟩)) else none := by kernel_rfl
  rw [e, if_pos (by omega)]
  simp
theorem len33 (base : Nat) (m : M) (o l c : Nat) : vcalln E.P base m .len [33] [.slice (some ⟨o, 0, none⟩) l c] = some (vi l, m) := by kernel_rfl
theorem len33n (base : Nat) (m : M) : vcalln E.P base m .len [33] [nilS] = some (vi 0, m) := by kernel_rfl
theorem ix23 (p l c j : Nat) (h : j < l) : mindexAddr E.P 23 (.slice (some ⟨p, 0, none⟩) l c) (vi j) = some (pt p j) := by
  have e : mindexAddr E.P 23 (.slice (some ⟨p, 0, none⟩) l c) (vi j) = if 0 ≤ (j : Int) ∧ (j : Int) < l then some (.pointer (some ⟨p, 0 + ((j : Int)).toNat * 1, none⟩)) else none := by kernel_rfl
  rw [e, if_pos (by omega)]
  simp
theorem len23 (base : Nat) (m : M) (o l c : Nat) : vcalln E.P base m .len [23] [.slice (some ⟨o, 0, none⟩) l c] = some (vi l, m) := by kernel_rfl
theorem len23n (base : Nat) (m : M) : vcalln E.P base m .len [23] [nilS] = some (vi 0, m) := by kernel_rfl
theorem ix103 (p l c j : Nat) (h : j < l) : mindexAddr E.P 103 (.slice (some ⟨p, 0, none⟩) l c) (vi j) = some (pt p j) := by
  have e : mindexAddr E.P 103 (.slice (some ⟨p, 0, none⟩) l c) (vi j) = if 0 ≤ (j : Int) ∧ (j : Int) < l then some (.pointer (some ⟨p, 0 + ((j : Int)).toNat * 1, none⟩)) else none := by kernel_rfl
  rw [e, if_pos (by omega)]
  simp
theorem len103 (base : Nat) (m : M) (o l c : Nat) : vcalln E.P base m .len [103] [.slice (some ⟨o, 0, none⟩) l c] = some (vi l, m) := by kernel_rfl
theorem len22n (base : Nat) (m : M) : vcalln E.P base m .len [22] [nilS] = some (vi 0, m) := by kernel_rfl
theorem len30n (base : Nat) (m : M) : vcalln E.P base m .len [30] [nilS] = some (vi 0, m) := by kernel_rfl
theorem ix74 (p l c j : Nat) (h : j < l) : mindexAddr E.P 74 (.slice (some ⟨p, 0, none⟩) l c) (vi j) = some (pt p (j * 8)) := by
  have e : mindexAddr E.P 74 (.slice (some ⟨p, 0, none⟩) l c) (vi j) = if 0 ≤ (j : Int) ∧ (j : Int) < l then some (.pointer (some ⟨p, 0 + ((j : Int)).toNat * 8, none⟩)) else none := by kernel_rfl
  rw [e, if_pos (by omega)]
  simp
theorem len74n (base : Nat) (m : M) : vcalln E.P base m .len [74] [nilS] = some (vi 0, m) := by kernel_rfl
theorem mk23 (m : M) (n : Nat) (h : n ≤ 100) : xmakeSlice E.P m 23 (vi n) (vi n) = some (sl m.length n, m ++ [rowz 1 true (repCells [.slice none 0 0] n)]) := by
  have e : xmakeSlice E.P m 23 (vi n) (vi n) = if ((n : Int) < 0 ∨ (n : Int) < n ∨ (n : Int) > 2 ^ 40 ∨ 24 > 2 ^ 7) then none else
    xlen m fun k => fNat n fun l => fNat n fun c => fList (repCells [.slice none 0 0] c) fun cs => xpush m (rowz 1 true cs) fun m' => some (.slice (some ⟨k, 0, none⟩) l c, m') := by kernel_rfl
  rw [e, if_neg (by omega), xlen_eq, fNat_eq, fNat_eq, fNat_eq, fList_eq, xpush_eq, fList_eq]
end Go.AM
