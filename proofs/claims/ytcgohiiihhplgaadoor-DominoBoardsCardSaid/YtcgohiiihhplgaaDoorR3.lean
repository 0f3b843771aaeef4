import Derived.KernelRfl
import Derived.Laws.BytesArg
import Derived.Laws.StructEq
import Derived.Test.YtcgohiiihhplgaaDoorRows
import Derived.WalkKit
import Derived.Test.YtcgohiiihhplgaaDoorAmB
import Derived.Test.YtcgohiiihhplgaaDoorAmModel
import Derived.Test.YtcgohiiihhplgaaDoorAmOps6
import Derived.Test.YtcgohiiihhplgaaDoorAmCode
import Derived.Test.YtcgohiiihhplgaaDoorAmK2
import Derived.Test.YtcgohiiihhplgaaDoorAmEq
import Derived.Test.YtcgohiiihhplgaaDoorRBase
set_option linter.unusedVariables false
set_option linter.unusedSimpArgs false
set_option linter.unusedSectionVars false
namespace Go.AM
open Go Go.Proofs
noncomputable def r3_L2 (call : CallF) (fuel base : Nat) (kx2 : Value → Value → Value → Value → Value → Value → Value → M → Res2) (n : Nat) : Value → Value → Value → Value → Value → Value → Value → Value → Value → M → Res2 :=
  Nat.rec (motive := fun _ => Value → Value → Value → Value → Value → Value → Value → Value → Value → M → Res2) (fun _ _ _ _ _ _ _ _ _ _ => none)
    (fun _ ih x0 x1 x5 x6 x7 x8 x9 x10 x12 m =>
      (k2 (vcall E.P base m .len [23] [x10]) fun v56_21 m => (k1 (mbin E .lss 3 x12 v56_21) fun v57_22 => (kb v57_22 (k1 (mindexAddr E.P 23 x10 x12) fun v62_23 => (k1 (mfieldAddr E.P 31 v62_23 0) fun v63_24 => (ks (xstore E.P base m 3 v63_24 (.int .i64 99)) fun m => (k1 (mbin E .add 3 x12 (.int .i64 1)) fun v59_25 => (ih x0 x1 x5 x6 x7 x8 x9 x10 v59_25 m))))) (kx2 x0 x1 x5 x6 x7 x8 x9 m))))) n
noncomputable def r3_L0 (call : CallF) (fuel base : Nat) (kp : Value → M → Res2) (kr : Value → M → Res2) (kx0 : Value → Value → Value → Value → M → Res2) (n : Nat) : Value → Value → Value → Value → Value → Value → Value → M → Res2 :=
  Nat.rec (motive := fun _ => Value → Value → Value → Value → Value → Value → Value → M → Res2) (fun _ _ _ _ _ _ _ _ => none)
    (fun _ ih x0 x1 x5 x6 x7 x8 x9 m =>
      (k1 (mbin E .lss 3 x9 (.int .i64 2)) fun v37_14 => (kb v37_14 (kc (call base 15 [x5] m) (fun v42_15 m => (k1 (mextract 0 v42_15) fun v43_16 => (k1 (mextract 1 v42_15) fun v44_17 => (kc (call base 16 [v43_16, x7] m) (fun v47_18 m => (k1 (mun .not v47_18) fun v48_19 => (kb v48_19 (kr (.bool false) m) (k1 (mbin E .neq 26 v44_17 x8) fun v52_20 => (kb v52_20 (kr (.bool false) m) (r3_L2 call fuel base (fun y0_26 y1_27 y5_28 y6_29 y7_30 y8_31 y9_32 m => (k1 (mbin E .add 3 y9_32 (.int .i64 1)) fun v39_33 => (ih y0_26 y1_27 y5_28 y6_29 y7_30 y8_31 v39_33 m))) fuel x0 x1 x5 x6 x7 x8 x9 v43_16 (.int .i64 0) m)))))) (fun v m => kp v m))))) (fun v m => kp v m)) (kx0 x0 x1 x5 x6 m)))) n
noncomputable def r3 (call : CallF) (fuel base : Nat) (x0 : Value) (x1 : Value) (m : M) : Res2 :=
  (kc (call base 12 [x0] m) (fun v17_1 m => (k1 (mun .not v17_1) fun v18_2 => (kb v18_2 (kc (call base 13 [] m) (fun v24_3 m => (fVal v24_3 fun v => some (.ret v, m))) (fun v m => some (.pan v, m))) (k2 (vcall E.P base m .len [23] [x1]) fun v21_4 m => (k1 (mbin E .gtr 3 v21_4 (.int .i64 100)) fun v22_5 => (kb v22_5 (kc (call base 13 [] m) (fun v24_6 m => (fVal v24_6 fun v => some (.ret v, m))) (fun v m => some (.pan v, m))) (k2 (xbuildSlice E.P m 22 0 []) fun v25_7 m => (k2 (vcall E.P base m .append [22, 22] [v25_7, x0]) fun v27_8 m => (k2 (xbuildSlice E.P m 23 0 []) fun v28_9 m => (k2 (vcall E.P base m .append [23, 23] [v28_9, x1]) fun v30_10 m => (kc (call base 14 [x0] m) (fun v33_11 m => (k1 (mextract 0 v33_11) fun v34_12 => (k1 (mextract 1 v33_11) fun v35_13 => (r3_L0 call fuel base (fun v m => some (.pan v, m)) (fun y4_34 m => (fVal y4_34 fun v => some (.ret v, m))) (fun y0_35 y1_36 y5_37 y6_38 m => (kc (call base 17 [y5_37, y6_38] m) (fun v67_39 m => (k1 (mextract 0 v67_39) fun v68_40 => (k1 (mextract 1 v67_39) fun v69_41 => (kc (call base 18 [y0_35, y1_36] m) (fun v73_42 m => (k1 (mextract 0 v73_42) fun v74_43 => (k1 (mextract 1 v73_42) fun v75_44 => (k1 (mbin E .eql 4 v68_40 v74_43) fun v78_45 => (kb v78_45 (k1 (mbin E .eql 26 v69_41 v75_44) fun v82_46 => (kb v82_46 (kc (call base 19 [y5_37, y0_35] m) (fun v87_47 m => (kb v87_47 (kc (call base 16 [y6_38, y1_36] m) (fun v92_48 m => (kb v92_48 (kc (call base 13 [] m) (fun v95_49 m => (fVal v95_49 fun v => some (.ret v, m))) (fun v m => some (.pan v, m))) (fVal (.bool false) fun v => some (.ret v, m)))) (fun v m => some (.pan v, m))) (fVal (.bool false) fun v => some (.ret v, m)))) (fun v m => some (.pan v, m))) (fVal (.bool false) fun v => some (.ret v, m)))) (fVal (.bool false) fun v => some (.ret v, m))))))) (fun v m => some (.pan v, m)))))) (fun v m => some (.pan v, m)))) fuel x0 x1 v27_8 v30_10 v34_12 v35_13 (.int .i64 0) m)))) (fun v m => some (.pan v, m))))))))))))) (fun v m => some (.pan v, m)))
def keep3 : Keep := { region := fun i => ([[0, 1], [0, 1, 23], [4], [0, 1, 5, 6], [0, 1, 5, 6, 7, 8], [0, 1, 5, 6, 7, 8, 9], [0, 1, 5, 6, 7, 8, 9, 37], [0, 1, 5, 6, 7, 8, 9], [0, 1, 5, 6, 7, 8, 9, 10, 11], [0, 1, 5, 6, 7, 8, 9, 10, 53], [4], [0, 1, 5, 6, 7, 8, 9, 10, 12], [0, 1, 5, 6, 7, 8, 9, 10, 12, 57], [0, 1, 5, 6, 7, 8, 9, 10, 12], [0, 1, 5, 6, 7, 8, 9, 10, 12], [0, 1, 5, 6, 13, 14], [0, 1, 5, 6, 8, 13, 14, 15], [4]] : List (List Nat))[i]?, exit := fun i => ([[0, 1, 5, 6], [0, 1, 5, 6, 7, 8, 9], [0, 1, 5, 6, 7, 8, 9], [0, 1, 5, 6, 7, 8, 9, 10, 12]] : List (List Nat))[i]?, ret := some [4] }
noncomputable def r3_L2_R (call : CallF) (fuel base n : Nat) (vs : List Value) (m : M) (K : KT) : Res2 := match vs with
  | [x0, x1, x5, x6, x7, x8, x9, x10, x12] => r3_L2 call fuel base (fun y0 y1 y5 y6 y7 y8 y9 m => K (.exit 2) { n := 97, l := [(0, y0), (1, y1), (5, y5), (6, y6), (7, y7), (8, y8), (9, y9)] } m) n x0 x1 x5 x6 x7 x8 x9 x10 x12 m
  | _ => none
noncomputable def r3_L0_R (call : CallF) (fuel base n : Nat) (vs : List Value) (m : M) (K : KT) : Res2 := match vs with
  | [x0, x1, x5, x6, x7, x8, x9] => r3_L0 call fuel base (fun v m => K (.pan v) { n := 97, l := [] } m) (fun y4 m => K .ret { n := 97, l := [(4, y4)] } m) (fun y0 y1 y5 y6 m => K (.exit 0) { n := 97, l := [(0, y0), (1, y1), (5, y5), (6, y6)] } m) n x0 x1 x5 x6 x7 x8 x9 m
  | _ => none
noncomputable def lp3 (call : CallF) (fuel base : Nat) : Lp := lpsel [(2, fun T m K => kslots 97 [0, 1, 5, 6, 7, 8, 9, 10, 12] T fun vs => r3_L2_R call fuel base fuel vs m K), (0, fun T m K => kslots 97 [0, 1, 5, 6, 7, 8, 9] T fun vs => r3_L0_R call fuel base fuel vs m K)]
noncomputable def c3 : Code := Tryd.f3.body.getD .skip
theorem r3_L2_lk (call : CallF) (fuel base : Nat) : LoopsOk E call (lp3 call fuel base) fuel base 2 (loopB (blockB (seqR (seqR (seqR (blockB (seqL (seqR (loopB (blockB (seqR (seqL (seqR (seqR (seqR (seqR c3)))))))))))))))) = (And (And True (And True True)) (And True True)) := by kernel_rfl
theorem r3_L2_ok (call : CallF) (fuel base : Nat) : LpOk E call (lp3 call fuel base) fuel base 2 (loopB (blockB (seqR (seqR (seqR (blockB (seqL (seqR (loopB (blockB (seqR (seqL (seqR (seqR (seqR (seqR c3)))))))))))))))) := by
  refine loop_ok (kp := keep3) (hb := Eq.mpr (r3_L2_lk call fuel base) (And.intro (And.intro trivial (And.intro trivial trivial)) (And.intro trivial trivial))) 97 [0, 1, 5, 6, 7, 8, 9, 10, 12] (fun n vs m K => r3_L2_R call fuel base n vs m K) ?_ ?_ (fun _ _ _ => rfl)
  · intro vs m K
    unfold r3_L2_R
    split <;> rfl
  · intro n vs m K hl
    match vs, hl with
    | [x0, x1, x5, x6, x7, x8, x9, x10, x12], _ => show _ = _; kernel_rfl
theorem r3_L0_lk (call : CallF) (fuel base : Nat) : LoopsOk E call (lp3 call fuel base) fuel base 0 (loopB (blockB (seqR (seqL (seqR (seqR (seqR (seqR c3)))))))) = (And (And True (And True True)) (And (And True (And (And True (And (And True True) True)) (And True (LpOk E call (lp3 call fuel base) fuel base 2 (loopB (blockB (seqR (seqR (seqR (blockB (seqL (seqR (loopB (blockB (seqR (seqL (seqR (seqR (seqR (seqR c3)))))))))))))))))))) True)) := by kernel_rfl
theorem r3_L0_ok (call : CallF) (fuel base : Nat) : LpOk E call (lp3 call fuel base) fuel base 0 (loopB (blockB (seqR (seqL (seqR (seqR (seqR (seqR c3)))))))) := by
  refine loop_ok (kp := keep3) (hb := Eq.mpr (r3_L0_lk call fuel base) (And.intro (And.intro trivial (And.intro trivial trivial)) (And.intro (And.intro trivial (And.intro (And.intro trivial (And.intro (And.intro trivial trivial) trivial)) (And.intro trivial (r3_L2_ok call fuel base)))) trivial))) 97 [0, 1, 5, 6, 7, 8, 9] (fun n vs m K => r3_L0_R call fuel base n vs m K) ?_ ?_ (fun _ _ _ => rfl)
  · intro vs m K
    unfold r3_L0_R
    split <;> rfl
  · intro n vs m K hl
    match vs, hl with
    | [x0, x1, x5, x6, x7, x8, x9], _ => show _ = _; kernel_rfl
theorem r3_eq (call : CallF) (fuel base : Nat) (x0 : Value) (x1 : Value) (m : M) : kbody E call keep3 (lp3 call fuel base) base Tryd.f3 [x0, x1] m = r3 call fuel base x0 x1 m := by
  kernel_rfl
noncomputable def rf3 : RF := fun call fuel base args m => match args with
  | [x0, x1] => r3 call fuel base x0 x1 m
  | _ => none
theorem r3_lk (call : CallF) (fuel base : Nat) : LoopsOk E call (lp3 call fuel base) fuel base 0 c3 = (And True (And (And True (And (And True True) True)) (And True (And True (And (And True (LpOk E call (lp3 call fuel base) fuel base 0 (loopB (blockB (seqR (seqL (seqR (seqR (seqR (seqR c3)))))))))) (And True (And True (And True True)))))))) := by kernel_rfl
theorem r3_fn : E.P.funcs[3]? = some Tryd.f3 := by kernel_rfl
theorem r3_body : Tryd.f3.body = some c3 := by kernel_rfl
theorem rf3_ok : RFok E 3 rf3 := by
  refine ⟨Tryd.f3, r3_fn, fun call fuel base args m r _ h => ?_⟩
  unfold rf3 at h
  split at h
  · rw [← r3_eq] at h
    exact kbody_sound (c := c3) r3_body (Eq.mpr (r3_lk call fuel base) (And.intro trivial (And.intro (And.intro trivial (And.intro (And.intro trivial trivial) trivial)) (And.intro trivial (And.intro trivial (And.intro (And.intro trivial (r3_L0_ok call fuel base)) (And.intro trivial (And.intro trivial (And.intro trivial trivial))))))))) h
  · simp at h
end Go.AM
namespace Go.AM
open Go Go.Proofs
noncomputable def r4 (call : CallF) (fuel base : Nat) (x0 : Value) (x1 : Value) (m : M) : Res2 :=
  (kc (call base 12 [x0] m) (fun v12_1 m => (k1 (mun .not v12_1) fun v13_2 => (kb v13_2 (kc (call base 13 [] m) (fun v19_3 m => (fVal v19_3 fun v => some (.ret v, m))) (fun v m => some (.pan v, m))) (k2 (vcall E.P base m .len [36] [x1]) fun v16_4 m => (k1 (mbin E .gtr 3 v16_4 (.int .i64 100)) fun v17_5 => (kb v17_5 (kc (call base 13 [] m) (fun v19_6 m => (fVal v19_6 fun v => some (.ret v, m))) (fun v m => some (.pan v, m))) (kc (call base 20 [x0, x1] m) (fun v23_7 m => (k1 (mextract 0 v23_7) fun v24_8 => (k1 (mextract 1 v23_7) fun v25_9 => (kc (call base 21 [x0, x1] m) (fun v29_10 m => (k1 (mextract 0 v29_10) fun v30_11 => (k1 (mextract 1 v29_10) fun v31_12 => (k1 (mbin E .neq 4 v24_8 v30_11) fun v34_13 => (kb v34_13 (fVal (.bool false) fun v => some (.ret v, m)) (k1 (mbin E .neq 26 v25_9 v31_12) fun v38_14 => (kb v38_14 (fVal (.bool false) fun v => some (.ret v, m)) (kc (call base 22 [x0] m) (fun v42_15 m => (k1 (mextract 0 v42_15) fun v43_16 => (k1 (mextract 1 v42_15) fun v44_17 => (kc (call base 23 [x0] m) (fun v47_18 m => (k1 (mextract 0 v47_18) fun v48_19 => (k1 (mextract 1 v47_18) fun v49_20 => (k1 (mbin E .neq 26 v44_17 (.int .i64 0)) fun v51_21 => (kb v51_21 (k2 (vcall E.P base m .len [36] [v48_19]) fun v57_22 m => (k1 (mbin E .eql 3 v57_22 (.int .i64 0)) fun v58_23 => (kb v58_23 (k1 (mbin E .eql 26 v44_17 (.int .i64 0)) fun v61_24 => (kbu v61_24 (k1 (mbin E .eql 26 v49_20 (.int .i64 10)) fun v64_25 => (kbu v64_25 (kc (call base 13 [] m) (fun v77_26 m => (fVal v77_26 fun v => some (.ret v, m))) (fun v m => some (.pan v, m))) (k1 (mbin E .neq 26 v44_17 (.int .i64 0)) fun v68_27 => (kbu v68_27 (k1 (mbin E .eql 26 v49_20 v44_17) fun v72_28 => (kb v72_28 (kc (call base 13 [] m) (fun v77_29 m => (fVal v77_29 fun v => some (.ret v, m))) (fun v m => some (.pan v, m))) (fVal (.bool false) fun v => some (.ret v, m)))) (fVal (.bool false) fun v => some (.ret v, m)) (k0 (mpick undef undef (.bool false)) fun v73_30 => (kb v73_30 (kc (call base 13 [] m) (fun v77_31 m => (fVal v77_31 fun v => some (.ret v, m))) (fun v m => some (.pan v, m))) (fVal (.bool false) fun v => some (.ret v, m)))))) (k0 (mpick undef (.bool true) undef) fun v74_32 => (kb v74_32 (kc (call base 13 [] m) (fun v77_33 m => (fVal v77_33 fun v => some (.ret v, m))) (fun v m => some (.pan v, m))) (fVal (.bool false) fun v => some (.ret v, m)))))) (k1 (mbin E .neq 26 v44_17 (.int .i64 0)) fun v68_34 => (kbu v68_34 (k1 (mbin E .eql 26 v49_20 v44_17) fun v72_35 => (kb v72_35 (kc (call base 13 [] m) (fun v77_36 m => (fVal v77_36 fun v => some (.ret v, m))) (fun v m => some (.pan v, m))) (fVal (.bool false) fun v => some (.ret v, m)))) (fVal (.bool false) fun v => some (.ret v, m)) (k0 (mpick undef undef (.bool false)) fun v73_37 => (kb v73_37 (kc (call base 13 [] m) (fun v77_38 m => (fVal v77_38 fun v => some (.ret v, m))) (fun v m => some (.pan v, m))) (fVal (.bool false) fun v => some (.ret v, m)))))) (k0 (mpick undef undef (.bool false)) fun v65_39 => (kbu v65_39 (kc (call base 13 [] m) (fun v77_40 m => (fVal v77_40 fun v => some (.ret v, m))) (fun v m => some (.pan v, m))) (k1 (mbin E .neq 26 v44_17 (.int .i64 0)) fun v68_41 => (kbu v68_41 (k1 (mbin E .eql 26 v49_20 v44_17) fun v72_42 => (kb v72_42 (kc (call base 13 [] m) (fun v77_43 m => (fVal v77_43 fun v => some (.ret v, m))) (fun v m => some (.pan v, m))) (fVal (.bool false) fun v => some (.ret v, m)))) (fVal (.bool false) fun v => some (.ret v, m)) (k0 (mpick undef undef (.bool false)) fun v73_44 => (kb v73_44 (kc (call base 13 [] m) (fun v77_45 m => (fVal v77_45 fun v => some (.ret v, m))) (fun v m => some (.pan v, m))) (fVal (.bool false) fun v => some (.ret v, m)))))) (k0 (mpick undef (.bool true) undef) fun v74_46 => (kb v74_46 (kc (call base 13 [] m) (fun v77_47 m => (fVal v77_47 fun v => some (.ret v, m))) (fun v m => some (.pan v, m))) (fVal (.bool false) fun v => some (.ret v, m)))))))) (fVal (.bool false) fun v => some (.ret v, m))))) (k1 (mbin E .gtr 3 v43_16 (.int .i64 0)) fun v54_48 => (kb v54_48 (k2 (vcall E.P base m .len [36] [v48_19]) fun v57_49 m => (k1 (mbin E .eql 3 v57_49 (.int .i64 0)) fun v58_50 => (kb v58_50 (k1 (mbin E .eql 26 v44_17 (.int .i64 0)) fun v61_51 => (kbu v61_51 (k1 (mbin E .eql 26 v49_20 (.int .i64 10)) fun v64_52 => (kbu v64_52 (kc (call base 13 [] m) (fun v77_53 m => (fVal v77_53 fun v => some (.ret v, m))) (fun v m => some (.pan v, m))) (k1 (mbin E .neq 26 v44_17 (.int .i64 0)) fun v68_54 => (kbu v68_54 (k1 (mbin E .eql 26 v49_20 v44_17) fun v72_55 => (kb v72_55 (kc (call base 13 [] m) (fun v77_56 m => (fVal v77_56 fun v => some (.ret v, m))) (fun v m => some (.pan v, m))) (fVal (.bool false) fun v => some (.ret v, m)))) (fVal (.bool false) fun v => some (.ret v, m)) (k0 (mpick undef undef (.bool false)) fun v73_57 => (kb v73_57 (kc (call base 13 [] m) (fun v77_58 m => (fVal v77_58 fun v => some (.ret v, m))) (fun v m => some (.pan v, m))) (fVal (.bool false) fun v => some (.ret v, m)))))) (k0 (mpick undef (.bool true) undef) fun v74_59 => (kb v74_59 (kc (call base 13 [] m) (fun v77_60 m => (fVal v77_60 fun v => some (.ret v, m))) (fun v m => some (.pan v, m))) (fVal (.bool false) fun v => some (.ret v, m)))))) (k1 (mbin E .neq 26 v44_17 (.int .i64 0)) fun v68_61 => (kbu v68_61 (k1 (mbin E .eql 26 v49_20 v44_17) fun v72_62 => (kb v72_62 (kc (call base 13 [] m) (fun v77_63 m => (fVal v77_63 fun v => some (.ret v, m))) (fun v m => some (.pan v, m))) (fVal (.bool false) fun v => some (.ret v, m)))) (fVal (.bool false) fun v => some (.ret v, m)) (k0 (mpick undef undef (.bool false)) fun v73_64 => (kb v73_64 (kc (call base 13 [] m) (fun v77_65 m => (fVal v77_65 fun v => some (.ret v, m))) (fun v m => some (.pan v, m))) (fVal (.bool false) fun v => some (.ret v, m)))))) (k0 (mpick undef undef (.bool false)) fun v65_66 => (kbu v65_66 (kc (call base 13 [] m) (fun v77_67 m => (fVal v77_67 fun v => some (.ret v, m))) (fun v m => some (.pan v, m))) (k1 (mbin E .neq 26 v44_17 (.int .i64 0)) fun v68_68 => (kbu v68_68 (k1 (mbin E .eql 26 v49_20 v44_17) fun v72_69 => (kb v72_69 (kc (call base 13 [] m) (fun v77_70 m => (fVal v77_70 fun v => some (.ret v, m))) (fun v m => some (.pan v, m))) (fVal (.bool false) fun v => some (.ret v, m)))) (fVal (.bool false) fun v => some (.ret v, m)) (k0 (mpick undef undef (.bool false)) fun v73_71 => (kb v73_71 (kc (call base 13 [] m) (fun v77_72 m => (fVal v77_72 fun v => some (.ret v, m))) (fun v m => some (.pan v, m))) (fVal (.bool false) fun v => some (.ret v, m)))))) (k0 (mpick undef (.bool true) undef) fun v74_73 => (kb v74_73 (kc (call base 13 [] m) (fun v77_74 m => (fVal v77_74 fun v => some (.ret v, m))) (fun v m => some (.pan v, m))) (fVal (.bool false) fun v => some (.ret v, m)))))))) (fVal (.bool false) fun v => some (.ret v, m))))) (kc (call base 21 [x0, v48_19] m) (fun v82_75 m => (k1 (mextract 0 v82_75) fun v83_76 => (k1 (mextract 1 v82_75) fun v84_77 => (k1 (mbin E .eql 26 v49_20 (.int .i64 0)) fun v86_78 => (kb v86_78 (kb v83_76 (k1 (mbin E .eql 26 v84_77 (.int .i64 0)) fun v92_79 => (kb v92_79 (kc (call base 13 [] m) (fun v95_80 m => (fVal v95_80 fun v => some (.ret v, m))) (fun v m => some (.pan v, m))) (fVal (.bool false) fun v => some (.ret v, m)))) (fVal (.bool false) fun v => some (.ret v, m))) (fVal (.bool false) fun v => some (.ret v, m))))))) (fun v m => some (.pan v, m)))))))))) (fun v m => some (.pan v, m)))))) (fun v m => some (.pan v, m)))))))))) (fun v m => some (.pan v, m)))))) (fun v m => some (.pan v, m))))))))) (fun v m => some (.pan v, m)))
def keep4 : Keep := { region := fun i => ([[0, 1], [0, 1, 18], [4], [0, 1, 5, 6], [0, 5, 6, 7, 8], [0, 39], [4], [0, 8, 9], [0, 6, 8, 9, 10], [0, 6, 8, 10, 55], [4], [6, 7, 8], [4]] : List (List Nat))[i]?, exit := fun i => ([] : List (List Nat))[i]?, ret := some [4] }
noncomputable def lp4 (call : CallF) (fuel base : Nat) : Lp := lpsel []
noncomputable def c4 : Code := Tryd.f4.body.getD .skip
theorem r4_eq (call : CallF) (fuel base : Nat) (x0 : Value) (x1 : Value) (m : M) : kbody E call keep4 (lp4 call fuel base) base Tryd.f4 [x0, x1] m = r4 call fuel base x0 x1 m := by
  kernel_rfl
noncomputable def rf4 : RF := fun call fuel base args m => match args with
  | [x0, x1] => r4 call fuel base x0 x1 m
  | _ => none
theorem r4_lk (call : CallF) (fuel base : Nat) : LoopsOk E call (lp4 call fuel base) fuel base 0 c4 = (And True (And (And True (And (And True True) True)) (And True (And True (And (And True (And (And True True) True)) (And True (And True (And (And True (And (And True True) True)) (And True (And True True)))))))))) := by kernel_rfl
theorem r4_fn : E.P.funcs[4]? = some Tryd.f4 := by kernel_rfl
theorem r4_body : Tryd.f4.body = some c4 := by kernel_rfl
theorem rf4_ok : RFok E 4 rf4 := by
  refine ⟨Tryd.f4, r4_fn, fun call fuel base args m r _ h => ?_⟩
  unfold rf4 at h
  split at h
  · rw [← r4_eq] at h
    exact kbody_sound (c := c4) r4_body (Eq.mpr (r4_lk call fuel base) (And.intro trivial (And.intro (And.intro trivial (And.intro (And.intro trivial trivial) trivial)) (And.intro trivial (And.intro trivial (And.intro (And.intro trivial (And.intro (And.intro trivial trivial) trivial)) (And.intro trivial (And.intro trivial (And.intro (And.intro trivial (And.intro (And.intro trivial trivial) trivial)) (And.intro trivial (And.intro trivial trivial))))))))))) h
  · simp at h
end Go.AM
namespace Go.AM
open Go Go.Proofs
noncomputable def r10_L0 (call : CallF) (fuel base : Nat) (kx0 : Value → Value → Value → M → Res2) (n : Nat) : Value → Value → Value → Value → Value → M → Res2 :=
  Nat.rec (motive := fun _ => Value → Value → Value → Value → Value → M → Res2) (fun _ _ _ _ _ _ => none)
    (fun _ ih x5 x6 x7 x8 x9 m =>
      (k1 (mbin E .lss 3 x9 x6) fun v31_8 => (kb v31_8 (k2 (xbuildSlice E.P m 22 1 [(0, x8)]) fun v36_9 m => (k2 (vcall E.P base m .append [22, 22] [x7, v36_9]) fun v37_10 m => (k1 (mbin E .add 3 x9 (.int .i64 1)) fun v33_11 => (ih x5 x6 v37_10 x8 v33_11 m)))) (kx0 x5 x6 x7 m)))) n
noncomputable def r10_L2 (call : CallF) (fuel base : Nat) (kr : Value → M → Res2) (kx2 : M → Res2) (n : Nat) : Value → Value → Value → M → Res2 :=
  Nat.rec (motive := fun _ => Value → Value → Value → M → Res2) (fun _ _ _ _ => none)
    (fun _ ih x12 x14 x16 m =>
      (k2 (vcall E.P base m .len [23] [x12]) fun v108_46 m => (k1 (mbin E .lss 3 x16 v108_46) fun v109_47 => (kb v109_47 (k1 (mindexAddr E.P 23 x12 x16) fun v114_48 => (k1 (xload E.P m 31 v114_48) fun v115_49 => (k2 (xalloc E.P m 31) fun v17_50 m => (ks (xstore E.P base m 31 v17_50 v115_49) fun m => (k1 (mfieldAddr E.P 31 v17_50 2) fun v116_51 => (k1 (xload E.P m 4 v116_51) fun v117_52 => (kb v117_52 (k1 (mfieldAddr E.P 31 v17_50 1) fun v118_53 => (k1 (xload E.P m 3 v118_53) fun v119_54 => (k1 (mbin E .lss 3 v119_54 (.int .i64 0)) fun v120_55 => (kb v120_55 (kr (.bool false) m) (k1 (mfieldAddr E.P 31 v17_50 1) fun v122_56 => (k1 (xload E.P m 3 v122_56) fun v123_57 => (k1 (mindexAddr E.P 43 x14 (.int .i64 1)) fun v126_58 => (k1 (xload E.P m 22 v126_58) fun v127_59 => (k2 (vcall E.P base m .len [22] [v127_59]) fun v128_60 m => (k1 (mbin E .geq 3 v123_57 v128_60) fun v129_61 => (kb v129_61 (kr (.bool false) m) (k1 (mfieldAddr E.P 31 v17_50 0) fun v132_62 => (k1 (xload E.P m 3 v132_62) fun v133_63 => (k1 (mbin E .lss 3 v133_63 (.int .i64 0)) fun v134_64 => (kb v134_64 (kr (.bool false) m) (k1 (mfieldAddr E.P 31 v17_50 0) fun v137_65 => (k1 (xload E.P m 3 v137_65) fun v138_66 => (k1 (mindexAddr E.P 43 x14 (.int .i64 1)) fun v141_67 => (k1 (xload E.P m 22 v141_67) fun v142_68 => (k1 (mfieldAddr E.P 31 v17_50 1) fun v143_69 => (k1 (xload E.P m 3 v143_69) fun v144_70 => (k1 (mindexAddr E.P 22 v142_68 v144_70) fun v145_71 => (k1 (xload E.P m 9 v145_71) fun v146_72 => (k2 (vcall E.P base m .len [9] [v146_72]) fun v147_73 m => (k1 (mbin E .geq 3 v138_66 v147_73) fun v148_74 => (kb v148_74 (kr (.bool false) m) (k1 (mindexAddr E.P 43 x14 (.int .i64 1)) fun v153_75 => (k1 (xload E.P m 22 v153_75) fun v154_76 => (k1 (mfieldAddr E.P 31 v17_50 1) fun v155_77 => (k1 (xload E.P m 3 v155_77) fun v156_78 => (k1 (mindexAddr E.P 22 v154_76 v156_78) fun v157_79 => (k1 (xload E.P m 9 v157_79) fun v158_80 => (k1 (mfieldAddr E.P 31 v17_50 0) fun v159_81 => (k1 (xload E.P m 3 v159_81) fun v160_82 => (k1 (mindex E.P 9 v158_80 v160_82) fun v161_83 => (k1 (mbin E .neq 5 v161_83 (.int .u8 35)) fun v162_84 => (kb v162_84 (kr (.bool false) m) (k1 (mbin E .add 3 x16 (.int .i64 1)) fun v111_85 => (ih x12 x14 v111_85 m))))))))))))))))))))))))))))))))))))))) (k1 (mfieldAddr E.P 31 v17_50 1) fun v118_86 => (k1 (xload E.P m 3 v118_86) fun v119_87 => (k1 (mbin E .lss 3 v119_87 (.int .i64 0)) fun v120_88 => (kb v120_88 (kr (.bool false) m) (k1 (mfieldAddr E.P 31 v17_50 1) fun v122_89 => (k1 (xload E.P m 3 v122_89) fun v123_90 => (k1 (mindexAddr E.P 43 x14 (.int .i64 0)) fun v126_91 => (k1 (xload E.P m 22 v126_91) fun v127_92 => (k2 (vcall E.P base m .len [22] [v127_92]) fun v128_93 m => (k1 (mbin E .geq 3 v123_90 v128_93) fun v129_94 => (kb v129_94 (kr (.bool false) m) (k1 (mfieldAddr E.P 31 v17_50 0) fun v132_95 => (k1 (xload E.P m 3 v132_95) fun v133_96 => (k1 (mbin E .lss 3 v133_96 (.int .i64 0)) fun v134_97 => (kb v134_97 (kr (.bool false) m) (k1 (mfieldAddr E.P 31 v17_50 0) fun v137_98 => (k1 (xload E.P m 3 v137_98) fun v138_99 => (k1 (mindexAddr E.P 43 x14 (.int .i64 0)) fun v141_100 => (k1 (xload E.P m 22 v141_100) fun v142_101 => (k1 (mfieldAddr E.P 31 v17_50 1) fun v143_102 => (k1 (xload E.P m 3 v143_102) fun v144_103 => (k1 (mindexAddr E.P 22 v142_101 v144_103) fun v145_104 => (k1 (xload E.P m 9 v145_104) fun v146_105 => (k2 (vcall E.P base m .len [9] [v146_105]) fun v147_106 m => (k1 (mbin E .geq 3 v138_99 v147_106) fun v148_107 => (kb v148_107 (kr (.bool false) m) (k1 (mindexAddr E.P 43 x14 (.int .i64 0)) fun v153_108 => (k1 (xload E.P m 22 v153_108) fun v154_109 => (k1 (mfieldAddr E.P 31 v17_50 1) fun v155_110 => (k1 (xload E.P m 3 v155_110) fun v156_111 => (k1 (mindexAddr E.P 22 v154_109 v156_111) fun v157_112 => (k1 (xload E.P m 9 v157_112) fun v158_113 => (k1 (mfieldAddr E.P 31 v17_50 0) fun v159_114 => (k1 (xload E.P m 3 v159_114) fun v160_115 => (k1 (mindex E.P 9 v158_113 v160_115) fun v161_116 => (k1 (mbin E .neq 5 v161_116 (.int .u8 35)) fun v162_117 => (kb v162_117 (kr (.bool false) m) (k1 (mbin E .add 3 x16 (.int .i64 1)) fun v111_118 => (ih x12 x14 v111_118 m)))))))))))))))))))))))))))))))))))))))))))))) (kx2 m))))) n
noncomputable def r10 (call : CallF) (fuel base : Nat) (x0 : Value) (x1 : Value) (m : M) : Res2 :=
  (k1 (mbin E .rem 5 x0 (.int .u8 8)) fun v20_1 => (k1 (mconvert E.P 5 3 v20_1) fun v21_2 => (k1 (mbin E .add 3 (.int .i64 1) v21_2) fun v22_3 => (k1 (mbin E .rem 5 x1 (.int .u8 8)) fun v24_4 => (k1 (mconvert E.P 5 3 v24_4) fun v25_5 => (k1 (mbin E .add 3 (.int .i64 1) v25_5) fun v26_6 => (k1 (mslice E.P m 9 (.string (ByteArray.mk #[35, 35, 35, 35, 35, 35, 35, 35])) none (some v22_3) none) fun v28_7 => (r10_L0 call fuel base (fun y5_12 y6_13 y7_14 m => (kc (call base 24 [y7_14] m) (fun v40_15 m => (k1 (mextract 0 v40_15) fun v41_16 => (k1 (mextract 1 v40_15) fun v42_17 => (kc (call base 15 [y7_14] m) (fun v45_18 m => (k1 (mextract 0 v45_18) fun v46_19 => (k1 (mextract 1 v45_18) fun v47_20 => (kc (call base 32 [y7_14] m) (fun v50_21 m => (k1 (mextract 0 v50_21) fun v51_22 => (k1 (mextract 1 v50_21) fun v52_23 => (k1 (mbin E .neq 26 v42_17 (.int .i64 0)) fun v54_24 => (kb v54_24 (fVal (.bool false) fun v => some (.ret v, m)) (k1 (mbin E .gtr 3 v41_16 (.int .i64 0)) fun v57_25 => (k1 (mbin E .mul 3 y5_12 y6_13) fun v60_26 => (k1 (mbin E .rem 3 v60_26 (.int .i64 2)) fun v61_27 => (k1 (mbin E .eql 3 v61_27 (.int .i64 0)) fun v62_28 => (k1 (mbin E .neq 4 v57_25 v62_28) fun v63_29 => (kb v63_29 (fVal (.bool false) fun v => some (.ret v, m)) (k1 (mbin E .eql 3 v41_16 (.int .i64 0)) fun v66_30 => (kb v66_30 (k1 (mbin E .eql 26 v47_20 (.int .i64 10)) fun v68_31 => (kb v68_31 (k1 (mbin E .eql 26 v52_23 (.int .i64 10)) fun v71_32 => (kb v71_32 (k2 (vcall E.P base m .len [23] [v46_19]) fun v75_33 m => (k1 (mbin E .eql 3 v75_33 (.int .i64 0)) fun v76_34 => (kb v76_34 (k2 (vcall E.P base m .len [43] [v51_22]) fun v80_35 m => (k1 (mbin E .eql 3 v80_35 (.int .i64 0)) fun v81_36 => (kb v81_36 (kc (call base 13 [] m) (fun v84_37 m => (fVal v84_37 fun v => some (.ret v, m))) (fun v m => some (.pan v, m))) (fVal (.bool false) fun v => some (.ret v, m))))) (fVal (.bool false) fun v => some (.ret v, m))))) (fVal (.bool false) fun v => some (.ret v, m)))) (fVal (.bool false) fun v => some (.ret v, m)))) (k1 (mbin E .neq 26 v47_20 (.int .i64 0)) fun v87_38 => (kb v87_38 (fVal (.bool false) fun v => some (.ret v, m)) (k1 (mbin E .neq 26 v52_23 (.int .i64 0)) fun v90_39 => (kb v90_39 (fVal (.bool false) fun v => some (.ret v, m)) (k2 (vcall E.P base m .len [23] [v46_19]) fun v94_40 m => (k1 (mbin E .mul 3 (.int .i64 2) v94_40) fun v95_41 => (k1 (mbin E .mul 3 y5_12 y6_13) fun v98_42 => (k1 (mbin E .neq 3 v95_41 v98_42) fun v99_43 => (kb v99_43 (fVal (.bool false) fun v => some (.ret v, m)) (k2 (vcall E.P base m .len [43] [v51_22]) fun v103_44 m => (k1 (mbin E .neq 3 v103_44 (.int .i64 2)) fun v104_45 => (kb v104_45 (fVal (.bool false) fun v => some (.ret v, m)) (r10_L2 call fuel base (fun y4_119 m => (fVal y4_119 fun v => some (.ret v, m))) (fun m => (kc (call base 13 [] m) (fun v164_120 m => (fVal v164_120 fun v => some (.ret v, m))) (fun v m => some (.pan v, m)))) fuel v46_19 v51_22 (.int .i64 0) m)))))))))))))))))))))))))) (fun v m => some (.pan v, m)))))) (fun v m => some (.pan v, m)))))) (fun v m => some (.pan v, m)))) fuel v22_3 v26_6 (.slice none 0 0) v28_7 (.int .i64 0) m))))))))
def keep10 : Keep := { region := fun i => ([[0, 1], [5, 6], [5, 6, 7], [5, 6, 7, 8], [5, 6, 7, 8, 9], [5, 6, 7, 8, 9, 31], [5, 6, 7, 8, 9], [5, 6, 7, 8, 9], [5, 6, 7, 10, 11], [5, 6, 7, 10, 11, 12, 13], [5, 6, 10, 11, 12, 13, 14, 15], [5, 6, 10, 12, 13, 14, 15, 64], [4], [5, 6, 12, 13, 14, 15, 66], [4], [12, 14, 105], [4], [12, 14, 16], [12, 14, 16, 109], [12, 14, 16], [12, 14, 16, 17], [12, 14, 16, 17, 18], [12, 14, 16, 17, 18, 117], [12, 14, 16, 17, 18], [12, 14, 16, 163], [4], [4]] : List (List Nat))[i]?, exit := fun i => ([[5, 6, 7], [5, 6, 7, 8, 9], [], [12, 14, 16]] : List (List Nat))[i]?, ret := some [4] }
noncomputable def r10_L0_R (call : CallF) (fuel base n : Nat) (vs : List Value) (m : M) (K : KT) : Res2 := match vs with
  | [x5, x6, x7, x8, x9] => r10_L0 call fuel base (fun y5 y6 y7 m => K (.exit 0) { n := 165, l := [(5, y5), (6, y6), (7, y7)] } m) n x5 x6 x7 x8 x9 m
  | _ => none
noncomputable def r10_L2_R (call : CallF) (fuel base n : Nat) (vs : List Value) (m : M) (K : KT) : Res2 := match vs with
  | [x12, x14, x16] => r10_L2 call fuel base (fun y4 m => K .ret { n := 165, l := [(4, y4)] } m) (fun m => K (.exit 2) { n := 165, l := [] } m) n x12 x14 x16 m
  | _ => none
noncomputable def lp10 (call : CallF) (fuel base : Nat) : Lp := lpsel [(0, fun T m K => kslots 165 [5, 6, 7, 8, 9] T fun vs => r10_L0_R call fuel base fuel vs m K), (2, fun T m K => kslots 165 [12, 14, 16] T fun vs => r10_L2_R call fuel base fuel vs m K)]
noncomputable def c10 : Code := Tryd.f10.body.getD .skip
theorem r10_L0_lk (call : CallF) (fuel base : Nat) : LoopsOk E call (lp10 call fuel base) fuel base 0 (loopB (blockB (seqR (seqL (seqR (seqR (seqR (seqR c10)))))))) = (And (And True (And True True)) (And True True)) := by kernel_rfl
theorem r10_L0_ok (call : CallF) (fuel base : Nat) : LpOk E call (lp10 call fuel base) fuel base 0 (loopB (blockB (seqR (seqL (seqR (seqR (seqR (seqR c10)))))))) := by
  refine loop_ok (kp := keep10) (hb := Eq.mpr (r10_L0_lk call fuel base) (And.intro (And.intro trivial (And.intro trivial trivial)) (And.intro trivial trivial))) 165 [5, 6, 7, 8, 9] (fun n vs m K => r10_L0_R call fuel base n vs m K) ?_ ?_ (fun _ _ _ => rfl)
  · intro vs m K
    unfold r10_L0_R
    split <;> rfl
  · intro n vs m K hl
    match vs, hl with
    | [x5, x6, x7, x8, x9], _ => show _ = _; kernel_rfl
theorem r10_L2_lk (call : CallF) (fuel base : Nat) : LoopsOk E call (lp10 call fuel base) fuel base 2 (loopB (blockB (seqR (seqL (seqR (seqR (seqR (seqR (seqR (seqR (seqR (seqR (seqR (seqR (seqR c10))))))))))))))) = (And (And True (And True True)) (And (And True (And True (And (And True (And True True)) (And True (And (And True True) True))))) True)) := by kernel_rfl
theorem r10_L2_ok (call : CallF) (fuel base : Nat) : LpOk E call (lp10 call fuel base) fuel base 2 (loopB (blockB (seqR (seqL (seqR (seqR (seqR (seqR (seqR (seqR (seqR (seqR (seqR (seqR (seqR c10))))))))))))))) := by
  refine loop_ok (kp := keep10) (hb := Eq.mpr (r10_L2_lk call fuel base) (And.intro (And.intro trivial (And.intro trivial trivial)) (And.intro (And.intro trivial (And.intro trivial (And.intro (And.intro trivial (And.intro trivial trivial)) (And.intro trivial (And.intro (And.intro trivial trivial) trivial))))) trivial))) 165 [12, 14, 16] (fun n vs m K => r10_L2_R call fuel base n vs m K) ?_ ?_ (fun _ _ _ => rfl)
  · intro vs m K
    unfold r10_L2_R
    split <;> rfl
  · intro n vs m K hl
    match vs, hl with
    | [x12, x14, x16], _ => show _ = _; kernel_rfl
theorem r10_eq (call : CallF) (fuel base : Nat) (x0 : Value) (x1 : Value) (m : M) : kbody E call keep10 (lp10 call fuel base) base Tryd.f10 [x0, x1] m = r10 call fuel base x0 x1 m := by
  kernel_rfl
noncomputable def rf10 : RF := fun call fuel base args m => match args with
  | [x0, x1] => r10 call fuel base x0 x1 m
  | _ => none
theorem r10_lk (call : CallF) (fuel base : Nat) : LoopsOk E call (lp10 call fuel base) fuel base 0 c10 = (And True (And True (And True (And True (And (And True (LpOk E call (lp10 call fuel base) fuel base 0 (loopB (blockB (seqR (seqL (seqR (seqR (seqR (seqR c10)))))))))) (And True (And True (And True (And (And True (And (And True True) True)) (And (And True (And (And True True) True)) (And (And True (And (And True True) True)) (And (And True (LpOk E call (lp10 call fuel base) fuel base 2 (loopB (blockB (seqR (seqL (seqR (seqR (seqR (seqR (seqR (seqR (seqR (seqR (seqR (seqR (seqR c10))))))))))))))))) (And True True))))))))))))) := by kernel_rfl
theorem r10_fn : E.P.funcs[10]? = some Tryd.f10 := by kernel_rfl
theorem r10_body : Tryd.f10.body = some c10 := by kernel_rfl
theorem rf10_ok : RFok E 10 rf10 := by
  refine ⟨Tryd.f10, r10_fn, fun call fuel base args m r _ h => ?_⟩
  unfold rf10 at h
  split at h
  · rw [← r10_eq] at h
    exact kbody_sound (c := c10) r10_body (Eq.mpr (r10_lk call fuel base) (And.intro trivial (And.intro trivial (And.intro trivial (And.intro trivial (And.intro (And.intro trivial (r10_L0_ok call fuel base)) (And.intro trivial (And.intro trivial (And.intro trivial (And.intro (And.intro trivial (And.intro (And.intro trivial trivial) trivial)) (And.intro (And.intro trivial (And.intro (And.intro trivial trivial) trivial)) (And.intro (And.intro trivial (And.intro (And.intro trivial trivial) trivial)) (And.intro (And.intro trivial (r10_L2_ok call fuel base)) (And.intro trivial trivial)))))))))))))) h
  · simp at h
end Go.AM
namespace Go.AM
open Go Go.Proofs
noncomputable def r12_L0 (call : CallF) (fuel base : Nat) (kr : Value → M → Res2) (kx0 : M → Res2) (n : Nat) : Value → Value → M → Res2 :=
  Nat.rec (motive := fun _ => Value → Value → M → Res2) (fun _ _ _ => none)
    (fun _ ih x0 x3 m =>
      (k2 (vcall E.P base m .len [22] [x0]) fun v6_1 m => (k1 (mbin E .lss 3 x3 v6_1) fun v7_2 => (kb v7_2 (k1 (mbin E .geq 3 x3 (.int .i64 20)) fun v11_3 => (kb v11_3 (kr (.bool false) m) (k1 (mindexAddr E.P 22 x0 x3) fun v15_4 => (k1 (xload E.P m 9 v15_4) fun v16_5 => (k2 (vcall E.P base m .len [9] [v16_5]) fun v17_6 m => (k1 (mbin E .gtr 3 v17_6 (.int .i64 20)) fun v18_7 => (kb v18_7 (kr (.bool false) m) (k1 (mbin E .add 3 x3 (.int .i64 1)) fun v9_8 => (ih x0 v9_8 m))))))))) (kx0 m))))) n
noncomputable def r12 (call : CallF) (fuel base : Nat) (x0 : Value) (m : M) : Res2 :=
  (r12_L0 call fuel base (fun y2_9 m => (fVal y2_9 fun v => some (.ret v, m))) (fun m => (fVal (.bool true) fun v => some (.ret v, m))) fuel x0 (.int .i64 0) m)
def keep12 : Keep := { region := fun i => ([[0], [0, 3], [0, 3, 7], [0, 3], [0, 3, 19], [2], [2]] : List (List Nat))[i]?, exit := fun i => ([[], [0, 3]] : List (List Nat))[i]?, ret := some [2] }
noncomputable def r12_L0_R (call : CallF) (fuel base n : Nat) (vs : List Value) (m : M) (K : KT) : Res2 := match vs with
  | [x0, x3] => r12_L0 call fuel base (fun y2 m => K .ret { n := 20, l := [(2, y2)] } m) (fun m => K (.exit 0) { n := 20, l := [] } m) n x0 x3 m
  | _ => none
noncomputable def lp12 (call : CallF) (fuel base : Nat) : Lp := lpsel [(0, fun T m K => kslots 20 [0, 3] T fun vs => r12_L0_R call fuel base fuel vs m K)]
noncomputable def c12 : Code := Tryd.f12.body.getD .skip
theorem r12_L0_lk (call : CallF) (fuel base : Nat) : LoopsOk E call (lp12 call fuel base) fuel base 0 (loopB (blockB (seqR (seqL (seqR c12))))) = (And (And True (And True True)) (And (And True (And (And True True) True)) True)) := by kernel_rfl
theorem r12_L0_ok (call : CallF) (fuel base : Nat) : LpOk E call (lp12 call fuel base) fuel base 0 (loopB (blockB (seqR (seqL (seqR c12))))) := by
  refine loop_ok (kp := keep12) (hb := Eq.mpr (r12_L0_lk call fuel base) (And.intro (And.intro trivial (And.intro trivial trivial)) (And.intro (And.intro trivial (And.intro (And.intro trivial trivial) trivial)) trivial))) 20 [0, 3] (fun n vs m K => r12_L0_R call fuel base n vs m K) ?_ ?_ (fun _ _ _ => rfl)
  · intro vs m K
    unfold r12_L0_R
    split <;> rfl
  · intro n vs m K hl
    match vs, hl with
    | [x0, x3], _ => show _ = _; kernel_rfl
theorem r12_eq (call : CallF) (fuel base : Nat) (x0 : Value) (m : M) : kbody E call keep12 (lp12 call fuel base) base Tryd.f12 [x0] m = r12 call fuel base x0 m := by
  kernel_rfl
noncomputable def rf12 : RF := fun call fuel base args m => match args with
  | [x0] => r12 call fuel base x0 m
  | _ => none
theorem r12_lk (call : CallF) (fuel base : Nat) : LoopsOk E call (lp12 call fuel base) fuel base 0 c12 = (And True (And (And True (LpOk E call (lp12 call fuel base) fuel base 0 (loopB (blockB (seqR (seqL (seqR c12))))))) (And True True))) := by kernel_rfl
theorem r12_fn : E.P.funcs[12]? = some Tryd.f12 := by kernel_rfl
theorem r12_body : Tryd.f12.body = some c12 := by kernel_rfl
theorem rf12_ok : RFok E 12 rf12 := by
  refine ⟨Tryd.f12, r12_fn, fun call fuel base args m r _ h => ?_⟩
  unfold rf12 at h
  split at h
  · rw [← r12_eq] at h
    exact kbody_sound (c := c12) r12_body (Eq.mpr (r12_lk call fuel base) (And.intro trivial (And.intro (And.intro trivial (r12_L0_ok call fuel base)) (And.intro trivial trivial)))) h
  · simp at h
end Go.AM
namespace Go.AM
open Go Go.Proofs
noncomputable def r13 (call : CallF) (fuel base : Nat) (m : M) : Res2 :=
  (k2 (xbuildSlice E.P m 22 3 [(0, (.string (ByteArray.mk #[35, 35, 35]))), (1, (.string (ByteArray.mk #[35, 35, 35]))), (2, (.string (ByteArray.mk #[35, 35, 46])))]) fun v8_1 m => (kc (call base 24 [v8_1] m) (fun v9_2 m => (k1 (mextract 0 v9_2) fun v10_3 => (k1 (mextract 1 v9_2) fun v11_4 => (k2 (xbuildSlice E.P m 22 2 [(0, (.string (ByteArray.mk #[35, 35]))), (1, (.string (ByteArray.mk #[35, 35])))]) fun v13_5 m => (kc (call base 25 [v13_5] m) (fun v14_6 m => (k1 (mextract 0 v14_6) fun v15_7 => (k1 (mextract 1 v14_6) fun v16_8 => (k2 (xbuildSlice E.P m 22 2 [(0, (.string (ByteArray.mk #[35, 46]))), (1, (.string (ByteArray.mk #[46, 35])))]) fun v18_9 m => (kc (call base 23 [v18_9] m) (fun v19_10 m => (k1 (mextract 0 v19_10) fun v20_11 => (k1 (mextract 1 v19_10) fun v21_12 => (k1 (mbin E .eql 26 v11_4 (.int .i64 0)) fun v23_13 => (kb v23_13 (k1 (mbin E .eql 3 v10_3 (.int .i64 4)) fun v26_14 => (kb v26_14 (k1 (mbin E .eql 26 v16_8 (.int .i64 0)) fun v30_15 => (kb v30_15 (k1 (mbin E .eql 3 v15_7 (.int .i64 2)) fun v34_16 => (kb v34_16 (k1 (mbin E .eql 26 v21_12 (.int .i64 0)) fun v38_17 => (kb v38_17 (k2 (vcall E.P base m .len [36] [v20_11]) fun v42_18 m => (k1 (mbin E .geq 3 v42_18 (.int .i64 1)) fun v43_19 => (fVal v43_19 fun v => some (.ret v, m)))) (fVal (.bool false) fun v => some (.ret v, m)))) (fVal (.bool false) fun v => some (.ret v, m)))) (fVal (.bool false) fun v => some (.ret v, m)))) (fVal (.bool false) fun v => some (.ret v, m)))) (fVal (.bool false) fun v => some (.ret v, m))))))) (fun v m => some (.pan v, m))))))) (fun v m => some (.pan v, m))))))) (fun v m => some (.pan v, m))))
def keep13 : Keep := { region := fun i => ([[], [1, 2], [1, 2, 3, 4], [1, 2, 3, 4, 5, 6], [0]] : List (List Nat))[i]?, exit := fun i => ([] : List (List Nat))[i]?, ret := some [0] }
noncomputable def lp13 (call : CallF) (fuel base : Nat) : Lp := lpsel []
noncomputable def c13 : Code := Tryd.f13.body.getD .skip
theorem r13_eq (call : CallF) (fuel base : Nat) (m : M) : kbody E call keep13 (lp13 call fuel base) base Tryd.f13 [] m = r13 call fuel base  m := by
  kernel_rfl
noncomputable def rf13 : RF := fun call fuel base args m => match args with
  | [] => r13 call fuel base  m
  | _ => none
theorem r13_lk (call : CallF) (fuel base : Nat) : LoopsOk E call (lp13 call fuel base) fuel base 0 c13 = (And True (And True (And True (And True (And True True))))) := by kernel_rfl
theorem r13_fn : E.P.funcs[13]? = some Tryd.f13 := by kernel_rfl
theorem r13_body : Tryd.f13.body = some c13 := by kernel_rfl
theorem rf13_ok : RFok E 13 rf13 := by
  refine ⟨Tryd.f13, r13_fn, fun call fuel base args m r _ h => ?_⟩
  unfold rf13 at h
  split at h
  · rw [← r13_eq] at h
    exact kbody_sound (c := c13) r13_body (Eq.mpr (r13_lk call fuel base) (And.intro trivial (And.intro trivial (And.intro trivial (And.intro trivial (And.intro trivial trivial)))))) h
  · simp at h
end Go.AM
namespace Go.AM
open Go Go.Proofs
noncomputable def r14_L2 (call : CallF) (fuel base : Nat) (kp : Value → M → Res2) (kx2 : Value → Value → Value → M → Res2) (n : Nat) : Value → Value → Value → Value → M → Res2 :=
  Nat.rec (motive := fun _ => Value → Value → Value → Value → M → Res2) (fun _ _ _ _ _ => none)
    (fun _ ih x4 x5 x6 x7 m =>
      (k1 (mindexAddr E.P 51 x4 x6) fun v26_8 => (k1 (xload E.P m 54 v26_8) fun v27_9 => (k2 (vcall E.P base m .len [54] [v27_9]) fun v28_10 m => (k1 (mbin E .lss 3 x7 v28_10) fun v29_11 => (kb v29_11 (k1 (mindexAddr E.P 51 x4 x6) fun v34_12 => (k1 (xload E.P m 54 v34_12) fun v35_13 => (k1 (mindexAddr E.P 54 v35_13 x7) fun v37_14 => (k1 (xload E.P m 4 v37_14) fun v38_15 => (k1 (mun .not v38_15) fun v39_16 => (kb v39_16 (k1 (mbin E .add 3 x7 (.int .i64 1)) fun v31_17 => (ih x4 x5 x6 v31_17 m)) (k1 (mbuild E.P 31 [(0, x7), (1, x6)]) fun v42_18 => (k2 (xalloc E.P m 31) fun v8_19 m => (ks (xstore E.P base m 31 v8_19 v42_18) fun m => (k1 (xload E.P m 31 v8_19) fun v44_20 => (kc (call base 39 [x4, v44_20] m) (fun v45_21 m => (k1 (mun .not v45_21) fun v46_22 => (kb v46_22 (k1 (mfieldAddr E.P 31 v8_19 2) fun v54_23 => (ks (xstore E.P base m 4 v54_23 (.bool true)) fun m => (k1 (xload E.P m 31 v8_19) fun v56_24 => (kc (call base 40 [x4, v56_24] m) (fun v57_25 m => (k1 (xload E.P m 31 v8_19) fun v59_26 => (k2 (xbuildSlice E.P m 23 1 [(0, v59_26)]) fun v60_27 m => (k2 (vcall E.P base m .append [23, 23] [x5, v60_27]) fun v61_28 m => (k1 (mbin E .add 3 x7 (.int .i64 1)) fun v31_29 => (ih v57_25 v61_28 x6 v31_29 m)))))) (fun v m => kp v m))))) (k1 (xload E.P m 31 v8_19) fun v49_30 => (kc (call base 40 [x4, v49_30] m) (fun v50_31 m => (kc (call base 38 [v50_31] m) (fun v51_32 m => (k1 (mbin E .eql 3 v51_32 (.int .i64 0)) fun v52_33 => (kb v52_33 (k1 (mfieldAddr E.P 31 v8_19 2) fun v54_34 => (ks (xstore E.P base m 4 v54_34 (.bool true)) fun m => (k1 (xload E.P m 31 v8_19) fun v56_35 => (kc (call base 40 [x4, v56_35] m) (fun v57_36 m => (k1 (xload E.P m 31 v8_19) fun v59_37 => (k2 (xbuildSlice E.P m 23 1 [(0, v59_37)]) fun v60_38 m => (k2 (vcall E.P base m .append [23, 23] [x5, v60_38]) fun v61_39 m => (k1 (mbin E .add 3 x7 (.int .i64 1)) fun v31_40 => (ih v57_36 v61_39 x6 v31_40 m)))))) (fun v m => kp v m))))) (k1 (xload E.P m 31 v8_19) fun v56_41 => (kc (call base 40 [x4, v56_41] m) (fun v57_42 m => (k1 (xload E.P m 31 v8_19) fun v59_43 => (k2 (xbuildSlice E.P m 23 1 [(0, v59_43)]) fun v60_44 m => (k2 (vcall E.P base m .append [23, 23] [x5, v60_44]) fun v61_45 m => (k1 (mbin E .add 3 x7 (.int .i64 1)) fun v31_46 => (ih v57_42 v61_45 x6 v31_46 m)))))) (fun v m => kp v m)))))) (fun v m => kp v m))) (fun v m => kp v m)))))) (fun v m => kp v m)))))))))))) (kx2 x4 x5 x6 m))))))) n
noncomputable def r14_L0 (call : CallF) (fuel base : Nat) (kp : Value → M → Res2) (kx0 : Value → M → Res2) (n : Nat) : Value → Value → Value → M → Res2 :=
  Nat.rec (motive := fun _ => Value → Value → Value → M → Res2) (fun _ _ _ _ => none)
    (fun _ ih x4 x5 x6 m =>
      (k2 (vcall E.P base m .len [51] [x4]) fun v19_6 m => (k1 (mbin E .lss 3 x6 v19_6) fun v20_7 => (kb v20_7 (r14_L2 call fuel base (fun v m => kp v m) (fun y4_47 y5_48 y6_49 m => (k1 (mbin E .add 3 y6_49 (.int .i64 1)) fun v22_50 => (ih y4_47 y5_48 v22_50 m))) fuel x4 x5 x6 (.int .i64 0) m) (kx0 x5 m))))) n
noncomputable def r14 (call : CallF) (fuel base : Nat) (x0 : Value) (m : M) : Res2 :=
  (kc (call base 34 [x0] m) (fun v10_1 m => (k1 (mun .not v10_1) fun v11_2 => (kb v11_2 (some (.ret (.tuple #[(.slice none 0 0), (.int .i64 2)]), m)) (kc (call base 37 [x0] m) (fun v13_3 m => (kc (call base 38 [v13_3] m) (fun v15_4 m => (k1 (mbin E .eql 3 v15_4 (.int .i64 0)) fun v16_5 => (kb v16_5 (some (.ret (.tuple #[(.slice none 0 0), (.int .i64 10)]), m)) (r14_L0 call fuel base (fun v m => some (.pan v, m)) (fun y5_51 m => (some (.ret (.tuple #[y5_51, (.int .i64 0)]), m))) fuel v13_3 (.slice none 0 0) (.int .i64 0) m)))) (fun v m => some (.pan v, m)))) (fun v m => some (.pan v, m)))))) (fun v m => some (.pan v, m)))
def keep14 : Keep := { region := fun i => ([[0], [0, 11], [2, 3], [4], [4, 16], [2, 3], [4, 5], [4, 5, 6], [4, 5, 6, 20], [4, 5, 6], [4, 5, 6, 7], [4, 5, 6, 7, 29], [4, 5, 6, 7], [4, 5, 6, 7, 39], [4, 5, 6, 7, 8], [4, 5, 6, 7, 8, 53], [4, 5, 6, 7, 8], [4, 5, 6, 7, 8], [4, 5, 6, 7], [2, 3]] : List (List Nat))[i]?, exit := fun i => ([[5], [4, 5, 6], [4, 5, 6], [4, 5, 6, 7]] : List (List Nat))[i]?, ret := some [2, 3] }
noncomputable def r14_L2_R (call : CallF) (fuel base n : Nat) (vs : List Value) (m : M) (K : KT) : Res2 := match vs with
  | [x4, x5, x6, x7] => r14_L2 call fuel base (fun v m => K (.pan v) { n := 63, l := [] } m) (fun y4 y5 y6 m => K (.exit 2) { n := 63, l := [(4, y4), (5, y5), (6, y6)] } m) n x4 x5 x6 x7 m
  | _ => none
noncomputable def r14_L0_R (call : CallF) (fuel base n : Nat) (vs : List Value) (m : M) (K : KT) : Res2 := match vs with
  | [x4, x5, x6] => r14_L0 call fuel base (fun v m => K (.pan v) { n := 63, l := [] } m) (fun y5 m => K (.exit 0) { n := 63, l := [(5, y5)] } m) n x4 x5 x6 m
  | _ => none
noncomputable def lp14 (call : CallF) (fuel base : Nat) : Lp := lpsel [(2, fun T m K => kslots 63 [4, 5, 6, 7] T fun vs => r14_L2_R call fuel base fuel vs m K), (0, fun T m K => kslots 63 [4, 5, 6] T fun vs => r14_L0_R call fuel base fuel vs m K)]
noncomputable def c14 : Code := Tryd.f14.body.getD .skip
theorem r14_L2_lk (call : CallF) (fuel base : Nat) : LoopsOk E call (lp14 call fuel base) fuel base 2 (loopB (blockB (seqR (blockB (seqL (seqR (loopB (blockB (seqR (seqL (seqR (seqR (seqR (seqR (seqR c14))))))))))))))) = (And (And True (And True True)) (And (And (And True (And True True)) (And True (And (And True (And True True)) (And True True)))) True)) := by kernel_rfl
theorem r14_L2_ok (call : CallF) (fuel base : Nat) : LpOk E call (lp14 call fuel base) fuel base 2 (loopB (blockB (seqR (blockB (seqL (seqR (loopB (blockB (seqR (seqL (seqR (seqR (seqR (seqR (seqR c14))))))))))))))) := by
  refine loop_ok (kp := keep14) (hb := Eq.mpr (r14_L2_lk call fuel base) (And.intro (And.intro trivial (And.intro trivial trivial)) (And.intro (And.intro (And.intro trivial (And.intro trivial trivial)) (And.intro trivial (And.intro (And.intro trivial (And.intro trivial trivial)) (And.intro trivial trivial)))) trivial))) 63 [4, 5, 6, 7] (fun n vs m K => r14_L2_R call fuel base n vs m K) ?_ ?_ (fun _ _ _ => rfl)
  · intro vs m K
    unfold r14_L2_R
    split <;> rfl
  · intro n vs m K hl
    match vs, hl with
    | [x4, x5, x6, x7], _ => show _ = _; kernel_rfl
theorem r14_L0_lk (call : CallF) (fuel base : Nat) : LoopsOk E call (lp14 call fuel base) fuel base 0 (loopB (blockB (seqR (seqL (seqR (seqR (seqR (seqR (seqR c14))))))))) = (And (And True (And True True)) (And (And True (LpOk E call (lp14 call fuel base) fuel base 2 (loopB (blockB (seqR (blockB (seqL (seqR (loopB (blockB (seqR (seqL (seqR (seqR (seqR (seqR (seqR c14))))))))))))))))) True)) := by kernel_rfl
theorem r14_L0_ok (call : CallF) (fuel base : Nat) : LpOk E call (lp14 call fuel base) fuel base 0 (loopB (blockB (seqR (seqL (seqR (seqR (seqR (seqR (seqR c14))))))))) := by
  refine loop_ok (kp := keep14) (hb := Eq.mpr (r14_L0_lk call fuel base) (And.intro (And.intro trivial (And.intro trivial trivial)) (And.intro (And.intro trivial (r14_L2_ok call fuel base)) trivial))) 63 [4, 5, 6] (fun n vs m K => r14_L0_R call fuel base n vs m K) ?_ ?_ (fun _ _ _ => rfl)
  · intro vs m K
    unfold r14_L0_R
    split <;> rfl
  · intro n vs m K hl
    match vs, hl with
    | [x4, x5, x6], _ => show _ = _; kernel_rfl
theorem r14_eq (call : CallF) (fuel base : Nat) (x0 : Value) (m : M) : kbody E call keep14 (lp14 call fuel base) base Tryd.f14 [x0] m = r14 call fuel base x0 m := by
  kernel_rfl
noncomputable def rf14 : RF := fun call fuel base args m => match args with
  | [x0] => r14 call fuel base x0 m
  | _ => none
theorem r14_lk (call : CallF) (fuel base : Nat) : LoopsOk E call (lp14 call fuel base) fuel base 0 c14 = (And True (And (And True (And (And True True) True)) (And True (And (And True (And (And True True) True)) (And True (And (And True (LpOk E call (lp14 call fuel base) fuel base 0 (loopB (blockB (seqR (seqL (seqR (seqR (seqR (seqR (seqR c14))))))))))) (And True True))))))) := by kernel_rfl
theorem r14_fn : E.P.funcs[14]? = some Tryd.f14 := by kernel_rfl
theorem r14_body : Tryd.f14.body = some c14 := by kernel_rfl
theorem rf14_ok : RFok E 14 rf14 := by
  refine ⟨Tryd.f14, r14_fn, fun call fuel base args m r _ h => ?_⟩
  unfold rf14 at h
  split at h
  · rw [← r14_eq] at h
    exact kbody_sound (c := c14) r14_body (Eq.mpr (r14_lk call fuel base) (And.intro trivial (And.intro (And.intro trivial (And.intro (And.intro trivial trivial) trivial)) (And.intro trivial (And.intro (And.intro trivial (And.intro (And.intro trivial trivial) trivial)) (And.intro trivial (And.intro (And.intro trivial (r14_L0_ok call fuel base)) (And.intro trivial trivial)))))))) h
  · simp at h
end Go.AM
namespace Go.AM
open Go Go.Proofs
noncomputable def r15 (call : CallF) (fuel base : Nat) (x0 : Value) (m : M) : Res2 :=
  (kc (call base 41 [x0] m) (fun v8_1 m => (k1 (mextract 0 v8_1) fun v9_2 => (k1 (mextract 1 v8_1) fun v10_3 => (k2 (xalloc E.P m 60) fun v4_4 m => (ks (xstore E.P base m 60 v4_4 v9_2) fun m => (k1 (mun .not v10_3) fun v12_5 => (kb v12_5 (some (.ret (.tuple #[(.slice none 0 0), (.int .i64 2)]), m)) (k1 (mfieldAddr E.P 60 v4_4 2) fun v13_6 => (k1 (xload E.P m 58 v13_6) fun v14_7 => (kc (call base 42 [v14_7] m) (fun v15_8 m => (k1 (mun .not v15_8) fun v16_9 => (kb v16_9 (some (.ret (.tuple #[(.slice none 0 0), (.int .i64 10)]), m)) (k1 (mfieldAddr E.P 60 v4_4 2) fun v17_10 => (k1 (xload E.P m 58 v17_10) fun v18_11 => (kc (call base 43 [v18_11] m) (fun v19_12 m => (some (.ret (.tuple #[v19_12, (.int .i64 0)]), m))) (fun v m => some (.pan v, m)))))))) (fun v m => some (.pan v, m)))))))))))) (fun v m => some (.pan v, m)))
def keep15 : Keep := { region := fun i => ([[0], [4, 5], [4, 12], [2, 3], [4, 16], [2, 3], [2, 3]] : List (List Nat))[i]?, exit := fun i => ([] : List (List Nat))[i]?, ret := some [2, 3] }
noncomputable def lp15 (call : CallF) (fuel base : Nat) : Lp := lpsel []
noncomputable def c15 : Code := Tryd.f15.body.getD .skip
theorem r15_eq (call : CallF) (fuel base : Nat) (x0 : Value) (m : M) : kbody E call keep15 (lp15 call fuel base) base Tryd.f15 [x0] m = r15 call fuel base x0 m := by
  kernel_rfl
noncomputable def rf15 : RF := fun call fuel base args m => match args with
  | [x0] => r15 call fuel base x0 m
  | _ => none
theorem r15_lk (call : CallF) (fuel base : Nat) : LoopsOk E call (lp15 call fuel base) fuel base 0 c15 = (And True (And True (And (And True (And (And True True) True)) (And (And True (And (And True True) True)) (And True True))))) := by kernel_rfl
theorem r15_fn : E.P.funcs[15]? = some Tryd.f15 := by kernel_rfl
theorem r15_body : Tryd.f15.body = some c15 := by kernel_rfl
theorem rf15_ok : RFok E 15 rf15 := by
  refine ⟨Tryd.f15, r15_fn, fun call fuel base args m r _ h => ?_⟩
  unfold rf15 at h
  split at h
  · rw [← r15_eq] at h
    exact kbody_sound (c := c15) r15_body (Eq.mpr (r15_lk call fuel base) (And.intro trivial (And.intro trivial (And.intro (And.intro trivial (And.intro (And.intro trivial trivial) trivial)) (And.intro (And.intro trivial (And.intro (And.intro trivial trivial) trivial)) (And.intro trivial trivial)))))) h
  · simp at h
end Go.AM
namespace Go.AM
open Go Go.Proofs
noncomputable def r16_L0 (call : CallF) (fuel base : Nat) (kr : Value → M → Res2) (kx0 : M → Res2) (n : Nat) : Value → Value → Value → M → Res2 :=
  Nat.rec (motive := fun _ => Value → Value → Value → M → Res2) (fun _ _ _ _ => none)
    (fun _ ih x0 x1 x5 m =>
      (k2 (vcall E.P base m .len [23] [x0]) fun v13_4 m => (k1 (mbin E .lss 3 x5 v13_4) fun v14_5 => (kb v14_5 (k1 (mindexAddr E.P 23 x0 x5) fun v19_6 => (k1 (xload E.P m 31 v19_6) fun v20_7 => (k1 (mindexAddr E.P 23 x1 x5) fun v23_8 => (k1 (xload E.P m 31 v23_8) fun v24_9 => (k1 (mbin E .neq 31 v20_7 v24_9) fun v25_10 => (kb v25_10 (kr (.bool false) m) (k1 (mbin E .add 3 x5 (.int .i64 1)) fun v16_11 => (ih x0 x1 v16_11 m)))))))) (kx0 m))))) n
noncomputable def r16 (call : CallF) (fuel base : Nat) (x0 : Value) (x1 : Value) (m : M) : Res2 :=
  (k2 (vcall E.P base m .len [23] [x0]) fun v7_1 m => (k2 (vcall E.P base m .len [23] [x1]) fun v9_2 m => (k1 (mbin E .neq 3 v7_1 v9_2) fun v10_3 => (kb v10_3 (fVal (.bool false) fun v => some (.ret v, m)) (r16_L0 call fuel base (fun y4_12 m => (fVal y4_12 fun v => some (.ret v, m))) (fun m => (fVal (.bool true) fun v => some (.ret v, m))) fuel x0 x1 (.int .i64 0) m)))))
def keep16 : Keep := { region := fun i => ([[0, 1], [0, 1, 10], [4], [0, 1, 5], [0, 1, 5, 14], [0, 1, 5], [0, 1, 5, 25], [4], [4]] : List (List Nat))[i]?, exit := fun i => ([[], [0, 1, 5]] : List (List Nat))[i]?, ret := some [4] }
noncomputable def r16_L0_R (call : CallF) (fuel base n : Nat) (vs : List Value) (m : M) (K : KT) : Res2 := match vs with
  | [x0, x1, x5] => r16_L0 call fuel base (fun y4 m => K .ret { n := 26, l := [(4, y4)] } m) (fun m => K (.exit 0) { n := 26, l := [] } m) n x0 x1 x5 m
  | _ => none
noncomputable def lp16 (call : CallF) (fuel base : Nat) : Lp := lpsel [(0, fun T m K => kslots 26 [0, 1, 5] T fun vs => r16_L0_R call fuel base fuel vs m K)]
noncomputable def c16 : Code := Tryd.f16.body.getD .skip
theorem r16_L0_lk (call : CallF) (fuel base : Nat) : LoopsOk E call (lp16 call fuel base) fuel base 0 (loopB (blockB (seqR (seqL (seqR (seqR c16)))))) = (And (And True (And True True)) (And (And True (And (And True True) True)) True)) := by kernel_rfl
theorem r16_L0_ok (call : CallF) (fuel base : Nat) : LpOk E call (lp16 call fuel base) fuel base 0 (loopB (blockB (seqR (seqL (seqR (seqR c16)))))) := by
  refine loop_ok (kp := keep16) (hb := Eq.mpr (r16_L0_lk call fuel base) (And.intro (And.intro trivial (And.intro trivial trivial)) (And.intro (And.intro trivial (And.intro (And.intro trivial trivial) trivial)) trivial))) 26 [0, 1, 5] (fun n vs m K => r16_L0_R call fuel base n vs m K) ?_ ?_ (fun _ _ _ => rfl)
  · intro vs m K
    unfold r16_L0_R
    split <;> rfl
  · intro n vs m K hl
    match vs, hl with
    | [x0, x1, x5], _ => show _ = _; kernel_rfl
theorem r16_eq (call : CallF) (fuel base : Nat) (x0 : Value) (x1 : Value) (m : M) : kbody E call keep16 (lp16 call fuel base) base Tryd.f16 [x0, x1] m = r16 call fuel base x0 x1 m := by
  kernel_rfl
noncomputable def rf16 : RF := fun call fuel base args m => match args with
  | [x0, x1] => r16 call fuel base x0 x1 m
  | _ => none
theorem r16_lk (call : CallF) (fuel base : Nat) : LoopsOk E call (lp16 call fuel base) fuel base 0 c16 = (And True (And (And True (And (And True True) True)) (And (And True (LpOk E call (lp16 call fuel base) fuel base 0 (loopB (blockB (seqR (seqL (seqR (seqR c16)))))))) (And True True)))) := by kernel_rfl
theorem r16_fn : E.P.funcs[16]? = some Tryd.f16 := by kernel_rfl
theorem r16_body : Tryd.f16.body = some c16 := by kernel_rfl
theorem rf16_ok : RFok E 16 rf16 := by
  refine ⟨Tryd.f16, r16_fn, fun call fuel base args m r _ h => ?_⟩
  unfold rf16 at h
  split at h
  · rw [← r16_eq] at h
    exact kbody_sound (c := c16) r16_body (Eq.mpr (r16_lk call fuel base) (And.intro trivial (And.intro (And.intro trivial (And.intro (And.intro trivial trivial) trivial)) (And.intro (And.intro trivial (r16_L0_ok call fuel base)) (And.intro trivial trivial))))) h
  · simp at h
end Go.AM
namespace Go.AM
open Go Go.Proofs
noncomputable def r17 (call : CallF) (fuel base : Nat) (x0 : Value) (x1 : Value) (m : M) : Res2 :=
  (kc (call base 41 [x0] m) (fun v10_1 m => (k1 (mextract 0 v10_1) fun v11_2 => (k1 (mextract 1 v10_1) fun v12_3 => (k2 (xalloc E.P m 60) fun v6_4 m => (ks (xstore E.P base m 60 v6_4 v11_2) fun m => (k1 (mun .not v12_3) fun v14_5 => (kb v14_5 (some (.ret (.tuple #[(.bool false), (.int .i64 2)]), m)) (k1 (mfieldAddr E.P 60 v6_4 2) fun v15_6 => (k1 (xload E.P m 58 v15_6) fun v16_7 => (kc (call base 44 [v16_7, x1] m) (fun v18_8 m => (some (.ret (.tuple #[v18_8, (.int .i64 0)]), m))) (fun v m => some (.pan v, m)))))))))))) (fun v m => some (.pan v, m)))
def keep17 : Keep := { region := fun i => ([[0, 1], [1, 6, 7], [1, 6, 14], [4, 5], [4, 5]] : List (List Nat))[i]?, exit := fun i => ([] : List (List Nat))[i]?, ret := some [4, 5] }
noncomputable def lp17 (call : CallF) (fuel base : Nat) : Lp := lpsel []
noncomputable def c17 : Code := Tryd.f17.body.getD .skip
theorem r17_eq (call : CallF) (fuel base : Nat) (x0 : Value) (x1 : Value) (m : M) : kbody E call keep17 (lp17 call fuel base) base Tryd.f17 [x0, x1] m = r17 call fuel base x0 x1 m := by
  kernel_rfl
noncomputable def rf17 : RF := fun call fuel base args m => match args with
  | [x0, x1] => r17 call fuel base x0 x1 m
  | _ => none
theorem r17_lk (call : CallF) (fuel base : Nat) : LoopsOk E call (lp17 call fuel base) fuel base 0 c17 = (And True (And True (And (And True (And (And True True) True)) (And True True)))) := by kernel_rfl
theorem r17_fn : E.P.funcs[17]? = some Tryd.f17 := by kernel_rfl
theorem r17_body : Tryd.f17.body = some c17 := by kernel_rfl
theorem rf17_ok : RFok E 17 rf17 := by
  refine ⟨Tryd.f17, r17_fn, fun call fuel base args m r _ h => ?_⟩
  unfold rf17 at h
  split at h
  · rw [← r17_eq] at h
    exact kbody_sound (c := c17) r17_body (Eq.mpr (r17_lk call fuel base) (And.intro trivial (And.intro trivial (And.intro (And.intro trivial (And.intro (And.intro trivial trivial) trivial)) (And.intro trivial trivial))))) h
  · simp at h
end Go.AM
namespace Go.AM
open Go Go.Proofs
noncomputable def r18 (call : CallF) (fuel base : Nat) (x0 : Value) (x1 : Value) (m : M) : Res2 :=
  (kc (call base 34 [x0] m) (fun v7_1 m => (k1 (mun .not v7_1) fun v8_2 => (kb v8_2 (some (.ret (.tuple #[(.bool false), (.int .i64 2)]), m)) (kc (call base 45 [x0, x1] m) (fun v11_3 m => (some (.ret (.tuple #[v11_3, (.int .i64 0)]), m))) (fun v m => some (.pan v, m)))))) (fun v m => some (.pan v, m)))
def keep18 : Keep := { region := fun i => ([[0, 1], [0, 1, 8], [4, 5], [4, 5]] : List (List Nat))[i]?, exit := fun i => ([] : List (List Nat))[i]?, ret := some [4, 5] }
noncomputable def lp18 (call : CallF) (fuel base : Nat) : Lp := lpsel []
noncomputable def c18 : Code := Tryd.f18.body.getD .skip
theorem r18_eq (call : CallF) (fuel base : Nat) (x0 : Value) (x1 : Value) (m : M) : kbody E call keep18 (lp18 call fuel base) base Tryd.f18 [x0, x1] m = r18 call fuel base x0 x1 m := by
  kernel_rfl
noncomputable def rf18 : RF := fun call fuel base args m => match args with
  | [x0, x1] => r18 call fuel base x0 x1 m
  | _ => none
theorem r18_lk (call : CallF) (fuel base : Nat) : LoopsOk E call (lp18 call fuel base) fuel base 0 c18 = (And True (And (And True (And (And True True) True)) (And True True))) := by kernel_rfl
theorem r18_fn : E.P.funcs[18]? = some Tryd.f18 := by kernel_rfl
theorem r18_body : Tryd.f18.body = some c18 := by kernel_rfl
theorem rf18_ok : RFok E 18 rf18 := by
  refine ⟨Tryd.f18, r18_fn, fun call fuel base args m r _ h => ?_⟩
  unfold rf18 at h
  split at h
  · rw [← r18_eq] at h
    exact kbody_sound (c := c18) r18_body (Eq.mpr (r18_lk call fuel base) (And.intro trivial (And.intro (And.intro trivial (And.intro (And.intro trivial trivial) trivial)) (And.intro trivial trivial)))) h
  · simp at h
end Go.AM
namespace Go.AM
open Go Go.Proofs
noncomputable def r19_L0 (call : CallF) (fuel base : Nat) (kr : Value → M → Res2) (kx0 : M → Res2) (n : Nat) : Value → Value → Value → M → Res2 :=
  Nat.rec (motive := fun _ => Value → Value → Value → M → Res2) (fun _ _ _ _ => none)
    (fun _ ih x0 x1 x5 m =>
      (k2 (vcall E.P base m .len [22] [x0]) fun v13_4 m => (k1 (mbin E .lss 3 x5 v13_4) fun v14_5 => (kb v14_5 (k1 (mindexAddr E.P 22 x0 x5) fun v19_6 => (k1 (xload E.P m 9 v19_6) fun v20_7 => (k1 (mindexAddr E.P 22 x1 x5) fun v23_8 => (k1 (xload E.P m 9 v23_8) fun v24_9 => (k1 (mbin E .neq 9 v20_7 v24_9) fun v25_10 => (kb v25_10 (kr (.bool false) m) (k1 (mbin E .add 3 x5 (.int .i64 1)) fun v16_11 => (ih x0 x1 v16_11 m)))))))) (kx0 m))))) n
noncomputable def r19 (call : CallF) (fuel base : Nat) (x0 : Value) (x1 : Value) (m : M) : Res2 :=
  (k2 (vcall E.P base m .len [22] [x0]) fun v7_1 m => (k2 (vcall E.P base m .len [22] [x1]) fun v9_2 m => (k1 (mbin E .neq 3 v7_1 v9_2) fun v10_3 => (kb v10_3 (fVal (.bool false) fun v => some (.ret v, m)) (r19_L0 call fuel base (fun y4_12 m => (fVal y4_12 fun v => some (.ret v, m))) (fun m => (fVal (.bool true) fun v => some (.ret v, m))) fuel x0 x1 (.int .i64 0) m)))))
def keep19 : Keep := { region := fun i => ([[0, 1], [0, 1, 10], [4], [0, 1, 5], [0, 1, 5, 14], [0, 1, 5], [0, 1, 5, 25], [4], [4]] : List (List Nat))[i]?, exit := fun i => ([[], [0, 1, 5]] : List (List Nat))[i]?, ret := some [4] }
noncomputable def r19_L0_R (call : CallF) (fuel base n : Nat) (vs : List Value) (m : M) (K : KT) : Res2 := match vs with
  | [x0, x1, x5] => r19_L0 call fuel base (fun y4 m => K .ret { n := 26, l := [(4, y4)] } m) (fun m => K (.exit 0) { n := 26, l := [] } m) n x0 x1 x5 m
  | _ => none
noncomputable def lp19 (call : CallF) (fuel base : Nat) : Lp := lpsel [(0, fun T m K => kslots 26 [0, 1, 5] T fun vs => r19_L0_R call fuel base fuel vs m K)]
noncomputable def c19 : Code := Tryd.f19.body.getD .skip
theorem r19_L0_lk (call : CallF) (fuel base : Nat) : LoopsOk E call (lp19 call fuel base) fuel base 0 (loopB (blockB (seqR (seqL (seqR (seqR c19)))))) = (And (And True (And True True)) (And (And True (And (And True True) True)) True)) := by kernel_rfl
theorem r19_L0_ok (call : CallF) (fuel base : Nat) : LpOk E call (lp19 call fuel base) fuel base 0 (loopB (blockB (seqR (seqL (seqR (seqR c19)))))) := by
  refine loop_ok (kp := keep19) (hb := Eq.mpr (r19_L0_lk call fuel base) (And.intro (And.intro trivial (And.intro trivial trivial)) (And.intro (And.intro trivial (And.intro (And.intro trivial trivial) trivial)) trivial))) 26 [0, 1, 5] (fun n vs m K => r19_L0_R call fuel base n vs m K) ?_ ?_ (fun _ _ _ => rfl)
  · intro vs m K
    unfold r19_L0_R
    split <;> rfl
  · intro n vs m K hl
    match vs, hl with
    | [x0, x1, x5], _ => show _ = _; kernel_rfl
theorem r19_eq (call : CallF) (fuel base : Nat) (x0 : Value) (x1 : Value) (m : M) : kbody E call keep19 (lp19 call fuel base) base Tryd.f19 [x0, x1] m = r19 call fuel base x0 x1 m := by
  kernel_rfl
noncomputable def rf19 : RF := fun call fuel base args m => match args with
  | [x0, x1] => r19 call fuel base x0 x1 m
  | _ => none
theorem r19_lk (call : CallF) (fuel base : Nat) : LoopsOk E call (lp19 call fuel base) fuel base 0 c19 = (And True (And (And True (And (And True True) True)) (And (And True (LpOk E call (lp19 call fuel base) fuel base 0 (loopB (blockB (seqR (seqL (seqR (seqR c19)))))))) (And True True)))) := by kernel_rfl
theorem r19_fn : E.P.funcs[19]? = some Tryd.f19 := by kernel_rfl
theorem r19_body : Tryd.f19.body = some c19 := by kernel_rfl
theorem rf19_ok : RFok E 19 rf19 := by
  refine ⟨Tryd.f19, r19_fn, fun call fuel base args m r _ h => ?_⟩
  unfold rf19 at h
  split at h
  · rw [← r19_eq] at h
    exact kbody_sound (c := c19) r19_body (Eq.mpr (r19_lk call fuel base) (And.intro trivial (And.intro (And.intro trivial (And.intro (And.intro trivial trivial) trivial)) (And.intro (And.intro trivial (r19_L0_ok call fuel base)) (And.intro trivial trivial))))) h
  · simp at h
end Go.AM
namespace Go.AM
open Go Go.Proofs
noncomputable def r20 (call : CallF) (fuel base : Nat) (x0 : Value) (x1 : Value) (m : M) : Res2 :=
  (kc (call base 41 [x0] m) (fun v10_1 m => (k1 (mextract 0 v10_1) fun v11_2 => (k1 (mextract 1 v10_1) fun v12_3 => (k2 (xalloc E.P m 60) fun v6_4 m => (ks (xstore E.P base m 60 v6_4 v11_2) fun m => (k1 (mun .not v12_3) fun v14_5 => (kb v14_5 (some (.ret (.tuple #[(.bool false), (.int .i64 2)]), m)) (k1 (mfieldAddr E.P 60 v6_4 2) fun v15_6 => (k1 (xload E.P m 58 v15_6) fun v16_7 => (kc (call base 46 [v16_7, x1] m) (fun v18_8 m => (some (.ret (.tuple #[v18_8, (.int .i64 0)]), m))) (fun v m => some (.pan v, m)))))))))))) (fun v m => some (.pan v, m)))
def keep20 : Keep := { region := fun i => ([[0, 1], [1, 6, 7], [1, 6, 14], [4, 5], [4, 5]] : List (List Nat))[i]?, exit := fun i => ([] : List (List Nat))[i]?, ret := some [4, 5] }
noncomputable def lp20 (call : CallF) (fuel base : Nat) : Lp := lpsel []
noncomputable def c20 : Code := Tryd.f20.body.getD .skip
theorem r20_eq (call : CallF) (fuel base : Nat) (x0 : Value) (x1 : Value) (m : M) : kbody E call keep20 (lp20 call fuel base) base Tryd.f20 [x0, x1] m = r20 call fuel base x0 x1 m := by
  kernel_rfl
noncomputable def rf20 : RF := fun call fuel base args m => match args with
  | [x0, x1] => r20 call fuel base x0 x1 m
  | _ => none
theorem r20_lk (call : CallF) (fuel base : Nat) : LoopsOk E call (lp20 call fuel base) fuel base 0 c20 = (And True (And True (And (And True (And (And True True) True)) (And True True)))) := by kernel_rfl
theorem r20_fn : E.P.funcs[20]? = some Tryd.f20 := by kernel_rfl
theorem r20_body : Tryd.f20.body = some c20 := by kernel_rfl
theorem rf20_ok : RFok E 20 rf20 := by
  refine ⟨Tryd.f20, r20_fn, fun call fuel base args m r _ h => ?_⟩
  unfold rf20 at h
  split at h
  · rw [← r20_eq] at h
    exact kbody_sound (c := c20) r20_body (Eq.mpr (r20_lk call fuel base) (And.intro trivial (And.intro trivial (And.intro (And.intro trivial (And.intro (And.intro trivial trivial) trivial)) (And.intro trivial trivial))))) h
  · simp at h
end Go.AM
namespace Go.AM
open Go Go.Proofs
noncomputable def r21_L2 (call : CallF) (fuel base : Nat) (kp : Value → M → Res2) (kx2 : Value → Value → Value → Value → M → Res2) (n : Nat) : Value → Value → Value → Value → Value → Value → M → Res2 :=
  Nat.rec (motive := fun _ => Value → Value → Value → Value → Value → Value → M → Res2) (fun _ _ _ _ _ _ _ => none)
    (fun _ ih x0 x1 x6 x7 x9 x10 m =>
      (k2 (vcall E.P base m .len [36] [x9]) fun v90_53 m => (k1 (mbin E .lss 3 x10 v90_53) fun v91_54 => (kb v91_54 (k1 (mindexAddr E.P 36 x9 x10) fun v97_55 => (k1 (xload E.P m 68 v97_55) fun v98_56 => (kc (call base 49 [x6, v98_56] m) (fun v99_57 m => (k1 (mun .not v99_57) fun v100_58 => (kb v100_58 (k1 (mindexAddr E.P 36 x9 x10) fun v104_59 => (k1 (xload E.P m 68 v104_59) fun v105_60 => (k2 (xbuildSlice E.P m 36 1 [(0, v105_60)]) fun v106_61 m => (k2 (vcall E.P base m .append [36, 36] [x6, v106_61]) fun v107_62 m => (k1 (mbin E .add 3 x10 (.int .i64 1)) fun v93_63 => (ih x0 x1 v107_62 x7 x9 v93_63 m)))))) (k1 (mbin E .add 3 x10 (.int .i64 1)) fun v93_64 => (ih x0 x1 x6 x7 x9 v93_64 m))))) (fun v m => kp v m)))) (kx2 x0 x1 x6 x7 m))))) n
noncomputable def r21_L0 (call : CallF) (fuel base : Nat) (kp : Value → M → Res2) (kr : Value → Value → M → Res2) (kx0 : Value → Value → M → Res2) (n : Nat) : Value → Value → Value → Value → M → Res2 :=
  Nat.rec (motive := fun _ => Value → Value → Value → Value → M → Res2) (fun _ _ _ _ _ => none)
    (fun _ ih x0 x1 x6 x7 m =>
      (k2 (vcall E.P base m .len [36] [x1]) fun v16_3 m => (k1 (mbin E .lss 3 x7 v16_3) fun v17_4 => (kb v17_4 (k1 (mindexAddr E.P 36 x1 x7) fun v22_5 => (k1 (xload E.P m 68 v22_5) fun v23_6 => (k2 (xalloc E.P m 68) fun v8_7 m => (ks (xstore E.P base m 68 v8_7 v23_6) fun m => (k1 (mfieldAddr E.P 68 v8_7 0) fun v25_8 => (k1 (xload E.P m 3 v25_8) fun v26_9 => (k1 (mfieldAddr E.P 68 v8_7 1) fun v27_10 => (k1 (xload E.P m 3 v27_10) fun v28_11 => (kc (kB m (call m.length 47 [x0, v26_9, v28_11] m)) (fun v29_12 m => (k1 (mun .not v29_12) fun v30_13 => (kb v30_13 (kr (.bool false) (.int .i64 0) m) (k1 (mfieldAddr E.P 68 v8_7 0) fun v32_14 => (k1 (xload E.P m 3 v32_14) fun v33_15 => (k1 (mfieldAddr E.P 68 v8_7 1) fun v34_16 => (k1 (xload E.P m 3 v34_16) fun v35_17 => (k1 (mbin E .add 3 v33_15 v35_17) fun v36_18 => (k1 (mbin E .rem 3 v36_18 (.int .i64 2)) fun v37_19 => (k1 (mindexAddr E.P 36 x1 (.int .i64 0)) fun v39_20 => (k1 (mfieldAddr E.P 68 v39_20 0) fun v40_21 => (k1 (xload E.P m 3 v40_21) fun v41_22 => (k1 (mindexAddr E.P 36 x1 (.int .i64 0)) fun v43_23 => (k1 (mfieldAddr E.P 68 v43_23 1) fun v44_24 => (k1 (xload E.P m 3 v44_24) fun v45_25 => (k1 (mbin E .add 3 v41_22 v45_25) fun v46_26 => (k1 (mbin E .rem 3 v46_26 (.int .i64 2)) fun v47_27 => (k1 (mbin E .neq 3 v37_19 v47_27) fun v48_28 => (kb v48_28 (kr (.bool false) (.int .i64 0) m) (k1 (mbin E .gtr 3 x7 (.int .i64 0)) fun v51_29 => (kb v51_29 (k1 (mbin E .sub 3 x7 (.int .i64 1)) fun v55_30 => (k1 (mindexAddr E.P 36 x1 v55_30) fun v56_31 => (k1 (mfieldAddr E.P 68 v56_31 1) fun v57_32 => (k1 (xload E.P m 3 v57_32) fun v58_33 => (k1 (mfieldAddr E.P 68 v8_7 1) fun v59_34 => (k1 (xload E.P m 3 v59_34) fun v60_35 => (k1 (mbin E .gtr 3 v58_33 v60_35) fun v61_36 => (kbu v61_36 (kr (.bool false) (.int .i64 0) m) (k1 (mbin E .sub 3 x7 (.int .i64 1)) fun v65_37 => (k1 (mindexAddr E.P 36 x1 v65_37) fun v66_38 => (k1 (mfieldAddr E.P 68 v66_38 1) fun v67_39 => (k1 (xload E.P m 3 v67_39) fun v68_40 => (k1 (mfieldAddr E.P 68 v8_7 1) fun v69_41 => (k1 (xload E.P m 3 v69_41) fun v70_42 => (k1 (mbin E .eql 3 v68_40 v70_42) fun v71_43 => (kbu v71_43 (k1 (mbin E .sub 3 x7 (.int .i64 1)) fun v75_44 => (k1 (mindexAddr E.P 36 x1 v75_44) fun v76_45 => (k1 (mfieldAddr E.P 68 v76_45 0) fun v77_46 => (k1 (xload E.P m 3 v77_46) fun v78_47 => (k1 (mfieldAddr E.P 68 v8_7 0) fun v79_48 => (k1 (xload E.P m 3 v79_48) fun v80_49 => (k1 (mbin E .geq 3 v78_47 v80_49) fun v81_50 => (kb v81_50 (kr (.bool false) (.int .i64 0) m) (k1 (xload E.P m 68 v8_7) fun v86_51 => (kc (call base 48 [x0, v86_51] m) (fun v87_52 m => (r21_L2 call fuel base (fun v m => kp v m) (fun y0_65 y1_66 y6_67 y7_68 m => (k1 (mbin E .add 3 y7_68 (.int .i64 1)) fun v19_69 => (ih y0_65 y1_66 y6_67 v19_69 m))) fuel x0 x1 x6 x7 v87_52 (.int .i64 0) m)) (fun v m => kp v m))))))))))) (k1 (xload E.P m 68 v8_7) fun v86_70 => (kc (call base 48 [x0, v86_70] m) (fun v87_71 m => (r21_L2 call fuel base (fun v m => kp v m) (fun y0_72 y1_73 y6_74 y7_75 m => (k1 (mbin E .add 3 y7_75 (.int .i64 1)) fun v19_76 => (ih y0_72 y1_73 y6_74 v19_76 m))) fuel x0 x1 x6 x7 v87_71 (.int .i64 0) m)) (fun v m => kp v m))) (k0 (mpick undef undef (.bool false)) fun v82_77 => (kb v82_77 (kr (.bool false) (.int .i64 0) m) (k1 (xload E.P m 68 v8_7) fun v86_78 => (kc (call base 48 [x0, v86_78] m) (fun v87_79 m => (r21_L2 call fuel base (fun v m => kp v m) (fun y0_80 y1_81 y6_82 y7_83 m => (k1 (mbin E .add 3 y7_83 (.int .i64 1)) fun v19_84 => (ih y0_80 y1_81 y6_82 v19_84 m))) fuel x0 x1 x6 x7 v87_79 (.int .i64 0) m)) (fun v m => kp v m))))))))))))) (k0 (mpick undef (.bool true) undef) fun v83_85 => (kb v83_85 (kr (.bool false) (.int .i64 0) m) (k1 (xload E.P m 68 v8_7) fun v86_86 => (kc (call base 48 [x0, v86_86] m) (fun v87_87 m => (r21_L2 call fuel base (fun v m => kp v m) (fun y0_88 y1_89 y6_90 y7_91 m => (k1 (mbin E .add 3 y7_91 (.int .i64 1)) fun v19_92 => (ih y0_88 y1_89 y6_90 v19_92 m))) fuel x0 x1 x6 x7 v87_87 (.int .i64 0) m)) (fun v m => kp v m))))))))))))) (k1 (xload E.P m 68 v8_7) fun v86_93 => (kc (call base 48 [x0, v86_93] m) (fun v87_94 m => (r21_L2 call fuel base (fun v m => kp v m) (fun y0_95 y1_96 y6_97 y7_98 m => (k1 (mbin E .add 3 y7_98 (.int .i64 1)) fun v19_99 => (ih y0_95 y1_96 y6_97 v19_99 m))) fuel x0 x1 x6 x7 v87_94 (.int .i64 0) m)) (fun v m => kp v m)))))))))))))))))))))))) (fun _ _ => none)))))))))) (kx0 x1 x6 m))))) n
noncomputable def r21 (call : CallF) (fuel base : Nat) (x0 : Value) (x1 : Value) (m : M) : Res2 :=
  (kc (call base 34 [x0] m) (fun v12_1 m => (k1 (mun .not v12_1) fun v13_2 => (kb v13_2 (some (.ret (.tuple #[(.bool false), (.int .i64 2)]), m)) (r21_L0 call fuel base (fun v m => some (.pan v, m)) (fun y4_100 y5_101 m => (some (.ret (.tuple #[y4_100, y5_101]), m))) (fun y1_102 y6_103 m => (k2 (vcall E.P base m .len [36] [y6_103]) fun v109_104 m => (k2 (vcall E.P base m .len [36] [y1_102]) fun v111_105 m => (k1 (mbin E .lss 3 v109_104 v111_105) fun v112_106 => (some (.ret (.tuple #[v112_106, (.int .i64 0)]), m)))))) fuel x0 x1 (.slice none 0 0) (.int .i64 0) m)))) (fun v m => some (.pan v, m)))
def keep21 : Keep := { region := fun i => ([[0, 1], [0, 1, 13], [4, 5], [0, 1, 6], [0, 1, 6, 7], [0, 1, 6, 7, 17], [0, 1, 6, 7], [0, 1, 6, 7, 8], [0, 1, 6, 7, 8, 49], [4, 5], [0, 1, 6, 7, 8, 84], [4, 5], [0, 1, 6, 7, 9], [0, 1, 6, 7, 9, 10], [0, 1, 6, 7, 9, 10, 91], [0, 1, 6, 7, 9, 10], [0, 1, 6, 7, 9, 10, 100], [0, 1, 6, 7, 9, 10], [4, 5]] : List (List Nat))[i]?, exit := fun i => ([[1, 6], [0, 1, 6, 7], [0, 1, 6, 7], [0, 1, 6, 7, 9, 10]] : List (List Nat))[i]?, ret := some [4, 5] }
noncomputable def r21_L2_R (call : CallF) (fuel base n : Nat) (vs : List Value) (m : M) (K : KT) : Res2 := match vs with
  | [x0, x1, x6, x7, x9, x10] => r21_L2 call fuel base (fun v m => K (.pan v) { n := 113, l := [] } m) (fun y0 y1 y6 y7 m => K (.exit 2) { n := 113, l := [(0, y0), (1, y1), (6, y6), (7, y7)] } m) n x0 x1 x6 x7 x9 x10 m
  | _ => none
noncomputable def r21_L0_R (call : CallF) (fuel base n : Nat) (vs : List Value) (m : M) (K : KT) : Res2 := match vs with
  | [x0, x1, x6, x7] => r21_L0 call fuel base (fun v m => K (.pan v) { n := 113, l := [] } m) (fun y4 y5 m => K .ret { n := 113, l := [(4, y4), (5, y5)] } m) (fun y1 y6 m => K (.exit 0) { n := 113, l := [(1, y1), (6, y6)] } m) n x0 x1 x6 x7 m
  | _ => none
noncomputable def lp21 (call : CallF) (fuel base : Nat) : Lp := lpsel [(2, fun T m K => kslots 113 [0, 1, 6, 7, 9, 10] T fun vs => r21_L2_R call fuel base fuel vs m K), (0, fun T m K => kslots 113 [0, 1, 6, 7] T fun vs => r21_L0_R call fuel base fuel vs m K)]
noncomputable def c21 : Code := Tryd.f21.body.getD .skip
theorem r21_L2_lk (call : CallF) (fuel base : Nat) : LoopsOk E call (lp21 call fuel base) fuel base 2 (loopB (blockB (seqR (seqR (seqR (seqR (seqR (blockB (seqL (seqR (loopB (blockB (seqR (seqL (seqR (seqR (seqR c21))))))))))))))))) = (And (And True (And True True)) (And (And True (And True True)) True)) := by kernel_rfl
theorem r21_L2_ok (call : CallF) (fuel base : Nat) : LpOk E call (lp21 call fuel base) fuel base 2 (loopB (blockB (seqR (seqR (seqR (seqR (seqR (blockB (seqL (seqR (loopB (blockB (seqR (seqL (seqR (seqR (seqR c21))))))))))))))))) := by
  refine loop_ok (kp := keep21) (hb := Eq.mpr (r21_L2_lk call fuel base) (And.intro (And.intro trivial (And.intro trivial trivial)) (And.intro (And.intro trivial (And.intro trivial trivial)) trivial))) 113 [0, 1, 6, 7, 9, 10] (fun n vs m K => r21_L2_R call fuel base n vs m K) ?_ ?_ (fun _ _ _ => rfl)
  · intro vs m K
    unfold r21_L2_R
    split <;> rfl
  · intro n vs m K hl
    match vs, hl with
    | [x0, x1, x6, x7, x9, x10], _ => show _ = _; kernel_rfl
theorem r21_L0_lk (call : CallF) (fuel base : Nat) : LoopsOk E call (lp21 call fuel base) fuel base 0 (loopB (blockB (seqR (seqL (seqR (seqR (seqR c21))))))) = (And (And True (And True True)) (And (And True (And (And True (And (And True True) True)) (And (And True (And (And True True) True)) (And True (And True (LpOk E call (lp21 call fuel base) fuel base 2 (loopB (blockB (seqR (seqR (seqR (seqR (seqR (blockB (seqL (seqR (loopB (blockB (seqR (seqL (seqR (seqR (seqR c21))))))))))))))))))))))) True)) := by kernel_rfl
theorem r21_L0_ok (call : CallF) (fuel base : Nat) : LpOk E call (lp21 call fuel base) fuel base 0 (loopB (blockB (seqR (seqL (seqR (seqR (seqR c21))))))) := by
  refine loop_ok (kp := keep21) (hb := Eq.mpr (r21_L0_lk call fuel base) (And.intro (And.intro trivial (And.intro trivial trivial)) (And.intro (And.intro trivial (And.intro (And.intro trivial (And.intro (And.intro trivial trivial) trivial)) (And.intro (And.intro trivial (And.intro (And.intro trivial trivial) trivial)) (And.intro trivial (And.intro trivial (r21_L2_ok call fuel base)))))) trivial))) 113 [0, 1, 6, 7] (fun n vs m K => r21_L0_R call fuel base n vs m K) ?_ ?_ (fun _ _ _ => rfl)
  · intro vs m K
    unfold r21_L0_R
    split <;> rfl
  · intro n vs m K hl
    match vs, hl with
    | [x0, x1, x6, x7], _ => show _ = _; kernel_rfl
theorem r21_eq (call : CallF) (fuel base : Nat) (x0 : Value) (x1 : Value) (m : M) : kbody E call keep21 (lp21 call fuel base) base Tryd.f21 [x0, x1] m = r21 call fuel base x0 x1 m := by
  kernel_rfl
noncomputable def rf21 : RF := fun call fuel base args m => match args with
  | [x0, x1] => r21 call fuel base x0 x1 m
  | _ => none
theorem r21_lk (call : CallF) (fuel base : Nat) : LoopsOk E call (lp21 call fuel base) fuel base 0 c21 = (And True (And (And True (And (And True True) True)) (And True (And (And True (LpOk E call (lp21 call fuel base) fuel base 0 (loopB (blockB (seqR (seqL (seqR (seqR (seqR c21))))))))) (And True True))))) := by kernel_rfl
theorem r21_fn : E.P.funcs[21]? = some Tryd.f21 := by kernel_rfl
theorem r21_body : Tryd.f21.body = some c21 := by kernel_rfl
theorem rf21_ok : RFok E 21 rf21 := by
  refine ⟨Tryd.f21, r21_fn, fun call fuel base args m r _ h => ?_⟩
  unfold rf21 at h
  split at h
  · rw [← r21_eq] at h
    exact kbody_sound (c := c21) r21_body (Eq.mpr (r21_lk call fuel base) (And.intro trivial (And.intro (And.intro trivial (And.intro (And.intro trivial trivial) trivial)) (And.intro trivial (And.intro (And.intro trivial (r21_L0_ok call fuel base)) (And.intro trivial trivial)))))) h
  · simp at h
end Go.AM
namespace Go.AM
open Go Go.Proofs
noncomputable def r22 (call : CallF) (fuel base : Nat) (x0 : Value) (m : M) : Res2 :=
  (kc (call base 34 [x0] m) (fun v5_1 m => (k1 (mun .not v5_1) fun v6_2 => (kb v6_2 (some (.ret (.tuple #[(.int .i64 0), (.int .i64 2)]), m)) (kc (call base 37 [x0] m) (fun v8_3 m => (kc (call base 38 [v8_3] m) (fun v9_4 m => (some (.ret (.tuple #[v9_4, (.int .i64 0)]), m))) (fun v m => some (.pan v, m)))) (fun v m => some (.pan v, m)))))) (fun v m => some (.pan v, m)))
def keep22 : Keep := { region := fun i => ([[0], [0, 6], [2, 3], [2, 3]] : List (List Nat))[i]?, exit := fun i => ([] : List (List Nat))[i]?, ret := some [2, 3] }
noncomputable def lp22 (call : CallF) (fuel base : Nat) : Lp := lpsel []
noncomputable def c22 : Code := Tryd.f22.body.getD .skip
theorem r22_eq (call : CallF) (fuel base : Nat) (x0 : Value) (m : M) : kbody E call keep22 (lp22 call fuel base) base Tryd.f22 [x0] m = r22 call fuel base x0 m := by
  kernel_rfl
noncomputable def rf22 : RF := fun call fuel base args m => match args with
  | [x0] => r22 call fuel base x0 m
  | _ => none
theorem r22_lk (call : CallF) (fuel base : Nat) : LoopsOk E call (lp22 call fuel base) fuel base 0 c22 = (And True (And (And True (And (And True True) True)) (And True True))) := by kernel_rfl
theorem r22_fn : E.P.funcs[22]? = some Tryd.f22 := by kernel_rfl
theorem r22_body : Tryd.f22.body = some c22 := by kernel_rfl
theorem rf22_ok : RFok E 22 rf22 := by
  refine ⟨Tryd.f22, r22_fn, fun call fuel base args m r _ h => ?_⟩
  unfold rf22 at h
  split at h
  · rw [← r22_eq] at h
    exact kbody_sound (c := c22) r22_body (Eq.mpr (r22_lk call fuel base) (And.intro trivial (And.intro (And.intro trivial (And.intro (And.intro trivial trivial) trivial)) (And.intro trivial trivial)))) h
  · simp at h
end Go.AM
namespace Go.AM
open Go Go.Proofs
noncomputable def r23 (call : CallF) (fuel base : Nat) (x0 : Value) (m : M) : Res2 :=
  (kc (call base 41 [x0] m) (fun v9_1 m => (k1 (mextract 0 v9_1) fun v10_2 => (k1 (mextract 1 v9_1) fun v11_3 => (k2 (xalloc E.P m 60) fun v4_4 m => (ks (xstore E.P base m 60 v4_4 v10_2) fun m => (k1 (mun .not v11_3) fun v13_5 => (kb v13_5 (some (.ret (.tuple #[(.slice none 0 0), (.int .i64 2)]), m)) (k1 (mfieldAddr E.P 60 v4_4 2) fun v14_6 => (k1 (xload E.P m 58 v14_6) fun v15_7 => (kc (call base 50 [v15_7] m) (fun v16_8 m => (k1 (mbin E .eql 58 v16_8 (.int .u64 0)) fun v18_9 => (kb v18_9 (some (.ret (.tuple #[(.slice none 0 0), (.int .i64 10)]), m)) (kc (call base 51 [v16_8] m) (fun v20_10 m => (some (.ret (.tuple #[v20_10, (.int .i64 0)]), m))) (fun v m => some (.pan v, m)))))) (fun v m => some (.pan v, m)))))))))))) (fun v m => some (.pan v, m)))
def keep23 : Keep := { region := fun i => ([[0], [4, 5], [4, 13], [2, 3], [6], [6, 18], [2, 3], [2, 3]] : List (List Nat))[i]?, exit := fun i => ([] : List (List Nat))[i]?, ret := some [2, 3] }
noncomputable def lp23 (call : CallF) (fuel base : Nat) : Lp := lpsel []
noncomputable def c23 : Code := Tryd.f23.body.getD .skip
theorem r23_eq (call : CallF) (fuel base : Nat) (x0 : Value) (m : M) : kbody E call keep23 (lp23 call fuel base) base Tryd.f23 [x0] m = r23 call fuel base x0 m := by
  kernel_rfl
noncomputable def rf23 : RF := fun call fuel base args m => match args with
  | [x0] => r23 call fuel base x0 m
  | _ => none
theorem r23_lk (call : CallF) (fuel base : Nat) : LoopsOk E call (lp23 call fuel base) fuel base 0 c23 = (And True (And True (And (And True (And (And True True) True)) (And True (And (And True (And (And True True) True)) (And True True)))))) := by kernel_rfl
theorem r23_fn : E.P.funcs[23]? = some Tryd.f23 := by kernel_rfl
theorem r23_body : Tryd.f23.body = some c23 := by kernel_rfl
theorem rf23_ok : RFok E 23 rf23 := by
  refine ⟨Tryd.f23, r23_fn, fun call fuel base args m r _ h => ?_⟩
  unfold rf23 at h
  split at h
  · rw [← r23_eq] at h
    exact kbody_sound (c := c23) r23_body (Eq.mpr (r23_lk call fuel base) (And.intro trivial (And.intro trivial (And.intro (And.intro trivial (And.intro (And.intro trivial trivial) trivial)) (And.intro trivial (And.intro (And.intro trivial (And.intro (And.intro trivial trivial) trivial)) (And.intro trivial trivial))))))) h
  · simp at h
end Go.AM
namespace Go.AM
open Go Go.Proofs
noncomputable def r24 (call : CallF) (fuel base : Nat) (x0 : Value) (m : M) : Res2 :=
  (kc (call base 41 [x0] m) (fun v8_1 m => (k1 (mextract 0 v8_1) fun v9_2 => (k1 (mextract 1 v8_1) fun v10_3 => (k2 (xalloc E.P m 60) fun v4_4 m => (ks (xstore E.P base m 60 v4_4 v9_2) fun m => (k1 (mun .not v10_3) fun v12_5 => (kb v12_5 (some (.ret (.tuple #[(.int .i64 0), (.int .i64 2)]), m)) (k1 (mfieldAddr E.P 60 v4_4 2) fun v13_6 => (k1 (xload E.P m 58 v13_6) fun v14_7 => (kc (call base 52 [v14_7] m) (fun v15_8 m => (some (.ret (.tuple #[v15_8, (.int .i64 0)]), m))) (fun v m => some (.pan v, m)))))))))))) (fun v m => some (.pan v, m)))
def keep24 : Keep := { region := fun i => ([[0], [4, 5], [4, 12], [2, 3], [2, 3]] : List (List Nat))[i]?, exit := fun i => ([] : List (List Nat))[i]?, ret := some [2, 3] }
noncomputable def lp24 (call : CallF) (fuel base : Nat) : Lp := lpsel []
noncomputable def c24 : Code := Tryd.f24.body.getD .skip
theorem r24_eq (call : CallF) (fuel base : Nat) (x0 : Value) (m : M) : kbody E call keep24 (lp24 call fuel base) base Tryd.f24 [x0] m = r24 call fuel base x0 m := by
  kernel_rfl
noncomputable def rf24 : RF := fun call fuel base args m => match args with
  | [x0] => r24 call fuel base x0 m
  | _ => none
theorem r24_lk (call : CallF) (fuel base : Nat) : LoopsOk E call (lp24 call fuel base) fuel base 0 c24 = (And True (And True (And (And True (And (And True True) True)) (And True True)))) := by kernel_rfl
theorem r24_fn : E.P.funcs[24]? = some Tryd.f24 := by kernel_rfl
theorem r24_body : Tryd.f24.body = some c24 := by kernel_rfl
theorem rf24_ok : RFok E 24 rf24 := by
  refine ⟨Tryd.f24, r24_fn, fun call fuel base args m r _ h => ?_⟩
  unfold rf24 at h
  split at h
  · rw [← r24_eq] at h
    exact kbody_sound (c := c24) r24_body (Eq.mpr (r24_lk call fuel base) (And.intro trivial (And.intro trivial (And.intro (And.intro trivial (And.intro (And.intro trivial trivial) trivial)) (And.intro trivial trivial))))) h
  · simp at h
end Go.AM
namespace Go.AM
open Go Go.Proofs
noncomputable def r25 (call : CallF) (fuel base : Nat) (x0 : Value) (m : M) : Res2 :=
  (kc (call base 41 [x0] m) (fun v8_1 m => (k1 (mextract 0 v8_1) fun v9_2 => (k1 (mextract 1 v8_1) fun v10_3 => (k2 (xalloc E.P m 60) fun v4_4 m => (ks (xstore E.P base m 60 v4_4 v9_2) fun m => (k1 (mun .not v10_3) fun v12_5 => (kb v12_5 (some (.ret (.tuple #[(.int .i64 0), (.int .i64 2)]), m)) (k1 (mfieldAddr E.P 60 v4_4 2) fun v13_6 => (k1 (xload E.P m 58 v13_6) fun v14_7 => (kc (call base 53 [v14_7] m) (fun v15_8 m => (some (.ret (.tuple #[v15_8, (.int .i64 0)]), m))) (fun v m => some (.pan v, m)))))))))))) (fun v m => some (.pan v, m)))
def keep25 : Keep := { region := fun i => ([[0], [4, 5], [4, 12], [2, 3], [2, 3]] : List (List Nat))[i]?, exit := fun i => ([] : List (List Nat))[i]?, ret := some [2, 3] }
noncomputable def lp25 (call : CallF) (fuel base : Nat) : Lp := lpsel []
noncomputable def c25 : Code := Tryd.f25.body.getD .skip
theorem r25_eq (call : CallF) (fuel base : Nat) (x0 : Value) (m : M) : kbody E call keep25 (lp25 call fuel base) base Tryd.f25 [x0] m = r25 call fuel base x0 m := by
  kernel_rfl
noncomputable def rf25 : RF := fun call fuel base args m => match args with
  | [x0] => r25 call fuel base x0 m
  | _ => none
theorem r25_lk (call : CallF) (fuel base : Nat) : LoopsOk E call (lp25 call fuel base) fuel base 0 c25 = (And True (And True (And (And True (And (And True True) True)) (And True True)))) := by kernel_rfl
theorem r25_fn : E.P.funcs[25]? = some Tryd.f25 := by kernel_rfl
theorem r25_body : Tryd.f25.body = some c25 := by kernel_rfl
theorem rf25_ok : RFok E 25 rf25 := by
  refine ⟨Tryd.f25, r25_fn, fun call fuel base args m r _ h => ?_⟩
  unfold rf25 at h
  split at h
  · rw [← r25_eq] at h
    exact kbody_sound (c := c25) r25_body (Eq.mpr (r25_lk call fuel base) (And.intro trivial (And.intro trivial (And.intro (And.intro trivial (And.intro (And.intro trivial trivial) trivial)) (And.intro trivial trivial))))) h
  · simp at h
end Go.AM
namespace Go.AM
open Go Go.Proofs
noncomputable def r32 (call : CallF) (fuel base : Nat) (x0 : Value) (m : M) : Res2 :=
  (kc (call base 41 [x0] m) (fun v8_1 m => (k1 (mextract 0 v8_1) fun v9_2 => (k1 (mextract 1 v8_1) fun v10_3 => (k2 (xalloc E.P m 60) fun v4_4 m => (ks (xstore E.P base m 60 v4_4 v9_2) fun m => (k1 (mun .not v10_3) fun v12_5 => (kb v12_5 (some (.ret (.tuple #[(.slice none 0 0), (.int .i64 2)]), m)) (k1 (mfieldAddr E.P 60 v4_4 2) fun v13_6 => (k1 (xload E.P m 58 v13_6) fun v14_7 => (kc (call base 42 [v14_7] m) (fun v15_8 m => (k1 (mun .not v15_8) fun v16_9 => (kb v16_9 (some (.ret (.tuple #[(.slice none 0 0), (.int .i64 10)]), m)) (k1 (xload E.P m 60 v4_4) fun v17_10 => (k1 (mfieldAddr E.P 60 v4_4 2) fun v18_11 => (k1 (xload E.P m 58 v18_11) fun v19_12 => (kc (kB m (call m.length 64 [v19_12, (.func (.func 65) #[] #[])] m)) (fun v20_13 m => (kc (kB m (call m.length 61 [v17_10, v20_13] m)) (fun v21_14 m => (k1 (xload E.P m 60 v4_4) fun v22_15 => (k1 (mfieldAddr E.P 60 v4_4 2) fun v23_16 => (k1 (xload E.P m 58 v23_16) fun v24_17 => (kc (kB m (call m.length 64 [v24_17, (.func (.func 66) #[] #[])] m)) (fun v25_18 m => (kc (kB m (call m.length 61 [v22_15, v25_18] m)) (fun v26_19 m => (k2 (xbuildSlice E.P m 43 2 [(0, v21_14), (1, v26_19)]) fun v27_20 m => (some (.ret (.tuple #[v27_20, (.int .i64 0)]), m)))) (fun _ _ => none))) (fun _ _ => none)))))) (fun _ _ => none))) (fun _ _ => none)))))))) (fun v m => some (.pan v, m)))))))))))) (fun v m => some (.pan v, m)))
def keep32 : Keep := { region := fun i => ([[0], [4, 5], [4, 12], [2, 3], [4, 16], [2, 3], [2, 3]] : List (List Nat))[i]?, exit := fun i => ([] : List (List Nat))[i]?, ret := some [2, 3] }
noncomputable def lp32 (call : CallF) (fuel base : Nat) : Lp := lpsel []
noncomputable def c32 : Code := Tryd.f32.body.getD .skip
theorem r32_eq (call : CallF) (fuel base : Nat) (x0 : Value) (m : M) : kbody E call keep32 (lp32 call fuel base) base Tryd.f32 [x0] m = r32 call fuel base x0 m := by
  kernel_rfl
noncomputable def rf32 : RF := fun call fuel base args m => match args with
  | [x0] => r32 call fuel base x0 m
  | _ => none
theorem r32_lk (call : CallF) (fuel base : Nat) : LoopsOk E call (lp32 call fuel base) fuel base 0 c32 = (And True (And True (And (And True (And (And True True) True)) (And (And True (And (And True True) True)) (And True True))))) := by kernel_rfl
theorem r32_fn : E.P.funcs[32]? = some Tryd.f32 := by kernel_rfl
theorem r32_body : Tryd.f32.body = some c32 := by kernel_rfl
theorem rf32_ok : RFok E 32 rf32 := by
  refine ⟨Tryd.f32, r32_fn, fun call fuel base args m r _ h => ?_⟩
  unfold rf32 at h
  split at h
  · rw [← r32_eq] at h
    exact kbody_sound (c := c32) r32_body (Eq.mpr (r32_lk call fuel base) (And.intro trivial (And.intro trivial (And.intro (And.intro trivial (And.intro (And.intro trivial trivial) trivial)) (And.intro (And.intro trivial (And.intro (And.intro trivial trivial) trivial)) (And.intro trivial trivial)))))) h
  · simp at h
end Go.AM
namespace Go.AM
open Go Go.Proofs
noncomputable def r34_L2 (call : CallF) (fuel base : Nat) (kr : Value → M → Res2) (kx2 : Value → Value → M → Res2) (n : Nat) : Value → Value → Value → M → Res2 :=
  Nat.rec (motive := fun _ => Value → Value → Value → M → Res2) (fun _ _ _ _ => none)
    (fun _ ih x0 x3 x4 m =>
      (k1 (mindexAddr E.P 22 x0 x3) fun v46_22 => (k1 (xload E.P m 9 v46_22) fun v47_23 => (k2 (vcall E.P base m .len [9] [v47_23]) fun v48_24 m => (k1 (mbin E .lss 3 x4 v48_24) fun v49_25 => (kb v49_25 (k1 (mindexAddr E.P 22 x0 x3) fun v54_26 => (k1 (xload E.P m 9 v54_26) fun v55_27 => (k1 (mindex E.P 9 v55_27 x4) fun v57_28 => (k1 (mbin E .neq 5 v57_28 (.int .u8 35)) fun v58_29 => (kb v58_29 (k1 (mindexAddr E.P 22 x0 x3) fun v62_30 => (k1 (xload E.P m 9 v62_30) fun v63_31 => (k1 (mindex E.P 9 v63_31 x4) fun v65_32 => (k1 (mbin E .neq 5 v65_32 (.int .u8 46)) fun v66_33 => (kb v66_33 (kr (.bool false) m) (k1 (mbin E .add 3 x4 (.int .i64 1)) fun v51_34 => (ih x0 x3 v51_34 m))))))) (k1 (mbin E .add 3 x4 (.int .i64 1)) fun v51_35 => (ih x0 x3 v51_35 m))))))) (kx2 x0 x3 m))))))) n
noncomputable def r34_L0 (call : CallF) (fuel base : Nat) (kr : Value → M → Res2) (kx0 : M → Res2) (n : Nat) : Value → Value → M → Res2 :=
  Nat.rec (motive := fun _ => Value → Value → M → Res2) (fun _ _ _ => none)
    (fun _ ih x0 x3 m =>
      (k2 (vcall E.P base m .len [22] [x0]) fun v29_13 m => (k1 (mbin E .lss 3 x3 v29_13) fun v30_14 => (kb v30_14 (k1 (mindexAddr E.P 22 x0 x3) fun v35_15 => (k1 (xload E.P m 9 v35_15) fun v36_16 => (k2 (vcall E.P base m .len [9] [v36_16]) fun v37_17 m => (k1 (mindexAddr E.P 22 x0 (.int .i64 0)) fun v39_18 => (k1 (xload E.P m 9 v39_18) fun v40_19 => (k2 (vcall E.P base m .len [9] [v40_19]) fun v41_20 m => (k1 (mbin E .neq 3 v37_17 v41_20) fun v42_21 => (kb v42_21 (kr (.bool false) m) (r34_L2 call fuel base (fun y2_36 m => (kr y2_36 m)) (fun y0_37 y3_38 m => (k1 (mbin E .add 3 y3_38 (.int .i64 1)) fun v32_39 => (ih y0_37 v32_39 m))) fuel x0 x3 (.int .i64 0) m))))))))) (kx0 m))))) n
noncomputable def r34 (call : CallF) (fuel base : Nat) (x0 : Value) (m : M) : Res2 :=
  (k2 (vcall E.P base m .len [22] [x0]) fun v6_1 m => (k1 (mbin E .lss 3 v6_1 (.int .i64 1)) fun v7_2 => (kb v7_2 (fVal (.bool false) fun v => some (.ret v, m)) (k2 (vcall E.P base m .len [22] [x0]) fun v10_3 m => (k1 (mbin E .gtr 3 v10_3 (.int .i64 8)) fun v11_4 => (kb v11_4 (fVal (.bool false) fun v => some (.ret v, m)) (k1 (mindexAddr E.P 22 x0 (.int .i64 0)) fun v15_5 => (k1 (xload E.P m 9 v15_5) fun v16_6 => (k2 (vcall E.P base m .len [9] [v16_6]) fun v17_7 m => (k1 (mbin E .lss 3 v17_7 (.int .i64 1)) fun v18_8 => (kb v18_8 (fVal (.bool false) fun v => some (.ret v, m)) (k1 (mindexAddr E.P 22 x0 (.int .i64 0)) fun v22_9 => (k1 (xload E.P m 9 v22_9) fun v23_10 => (k2 (vcall E.P base m .len [9] [v23_10]) fun v24_11 m => (k1 (mbin E .gtr 3 v24_11 (.int .i64 8)) fun v25_12 => (kb v25_12 (fVal (.bool false) fun v => some (.ret v, m)) (r34_L0 call fuel base (fun y2_40 m => (fVal y2_40 fun v => some (.ret v, m))) (fun m => (fVal (.bool true) fun v => some (.ret v, m))) fuel x0 (.int .i64 0) m)))))))))))))))))
def keep34 : Keep := { region := fun i => ([[0], [0, 26], [2], [0, 3], [0, 3, 30], [0, 3], [0, 3, 42], [2], [0, 3, 4], [0, 3, 4, 49], [0, 3, 4], [0, 3, 4, 67], [2], [2]] : List (List Nat))[i]?, exit := fun i => ([[], [0, 3], [0, 3], [0, 3, 4]] : List (List Nat))[i]?, ret := some [2] }
noncomputable def r34_L2_R (call : CallF) (fuel base n : Nat) (vs : List Value) (m : M) (K : KT) : Res2 := match vs with
  | [x0, x3, x4] => r34_L2 call fuel base (fun y2 m => K .ret { n := 68, l := [(2, y2)] } m) (fun y0 y3 m => K (.exit 2) { n := 68, l := [(0, y0), (3, y3)] } m) n x0 x3 x4 m
  | _ => none
noncomputable def r34_L0_R (call : CallF) (fuel base n : Nat) (vs : List Value) (m : M) (K : KT) : Res2 := match vs with
  | [x0, x3] => r34_L0 call fuel base (fun y2 m => K .ret { n := 68, l := [(2, y2)] } m) (fun m => K (.exit 0) { n := 68, l := [] } m) n x0 x3 m
  | _ => none
noncomputable def lp34 (call : CallF) (fuel base : Nat) : Lp := lpsel [(2, fun T m K => kslots 68 [0, 3, 4] T fun vs => r34_L2_R call fuel base fuel vs m K), (0, fun T m K => kslots 68 [0, 3] T fun vs => r34_L0_R call fuel base fuel vs m K)]
noncomputable def c34 : Code := Tryd.f34.body.getD .skip
theorem r34_L2_lk (call : CallF) (fuel base : Nat) : LoopsOk E call (lp34 call fuel base) fuel base 2 (loopB (blockB (seqR (seqR (blockB (seqL (seqR (loopB (blockB (seqR (seqL (seqR (seqR c34))))))))))))) = (And (And True (And True True)) (And (And True (And (And True True) True)) True)) := by kernel_rfl
theorem r34_L2_ok (call : CallF) (fuel base : Nat) : LpOk E call (lp34 call fuel base) fuel base 2 (loopB (blockB (seqR (seqR (blockB (seqL (seqR (loopB (blockB (seqR (seqL (seqR (seqR c34))))))))))))) := by
  refine loop_ok (kp := keep34) (hb := Eq.mpr (r34_L2_lk call fuel base) (And.intro (And.intro trivial (And.intro trivial trivial)) (And.intro (And.intro trivial (And.intro (And.intro trivial trivial) trivial)) trivial))) 68 [0, 3, 4] (fun n vs m K => r34_L2_R call fuel base n vs m K) ?_ ?_ (fun _ _ _ => rfl)
  · intro vs m K
    unfold r34_L2_R
    split <;> rfl
  · intro n vs m K hl
    match vs, hl with
    | [x0, x3, x4], _ => show _ = _; kernel_rfl
theorem r34_L0_lk (call : CallF) (fuel base : Nat) : LoopsOk E call (lp34 call fuel base) fuel base 0 (loopB (blockB (seqR (seqL (seqR (seqR c34)))))) = (And (And True (And True True)) (And (And (And True (And (And True True) True)) (And True (LpOk E call (lp34 call fuel base) fuel base 2 (loopB (blockB (seqR (seqR (blockB (seqL (seqR (loopB (blockB (seqR (seqL (seqR (seqR c34)))))))))))))))) True)) := by kernel_rfl
theorem r34_L0_ok (call : CallF) (fuel base : Nat) : LpOk E call (lp34 call fuel base) fuel base 0 (loopB (blockB (seqR (seqL (seqR (seqR c34)))))) := by
  refine loop_ok (kp := keep34) (hb := Eq.mpr (r34_L0_lk call fuel base) (And.intro (And.intro trivial (And.intro trivial trivial)) (And.intro (And.intro (And.intro trivial (And.intro (And.intro trivial trivial) trivial)) (And.intro trivial (r34_L2_ok call fuel base))) trivial))) 68 [0, 3] (fun n vs m K => r34_L0_R call fuel base n vs m K) ?_ ?_ (fun _ _ _ => rfl)
  · intro vs m K
    unfold r34_L0_R
    split <;> rfl
  · intro n vs m K hl
    match vs, hl with
    | [x0, x3], _ => show _ = _; kernel_rfl
theorem r34_eq (call : CallF) (fuel base : Nat) (x0 : Value) (m : M) : kbody E call keep34 (lp34 call fuel base) base Tryd.f34 [x0] m = r34 call fuel base x0 m := by
  kernel_rfl
noncomputable def rf34 : RF := fun call fuel base args m => match args with
  | [x0] => r34 call fuel base x0 m
  | _ => none
theorem r34_lk (call : CallF) (fuel base : Nat) : LoopsOk E call (lp34 call fuel base) fuel base 0 c34 = (And True (And (And True (And (And True True) True)) (And (And True (LpOk E call (lp34 call fuel base) fuel base 0 (loopB (blockB (seqR (seqL (seqR (seqR c34)))))))) (And True True)))) := by kernel_rfl
theorem r34_fn : E.P.funcs[34]? = some Tryd.f34 := by kernel_rfl
theorem r34_body : Tryd.f34.body = some c34 := by kernel_rfl
theorem rf34_ok : RFok E 34 rf34 := by
  refine ⟨Tryd.f34, r34_fn, fun call fuel base args m r _ h => ?_⟩
  unfold rf34 at h
  split at h
  · rw [← r34_eq] at h
    exact kbody_sound (c := c34) r34_body (Eq.mpr (r34_lk call fuel base) (And.intro trivial (And.intro (And.intro trivial (And.intro (And.intro trivial trivial) trivial)) (And.intro (And.intro trivial (r34_L0_ok call fuel base)) (And.intro trivial trivial))))) h
  · simp at h
end Go.AM
namespace Go.AM
open Go Go.Proofs
noncomputable def r37_L2 (call : CallF) (fuel base : Nat) (kx2 : Value → Value → Value → Value → M → Res2) (n : Nat) : Value → Value → Value → Value → Value → M → Res2 :=
  Nat.rec (motive := fun _ => Value → Value → Value → Value → Value → M → Res2) (fun _ _ _ _ _ _ => none)
    (fun _ ih x0 x3 x4 x5 x6 m =>
      (k1 (mindexAddr E.P 22 x0 x4) fun v16_3 => (k1 (xload E.P m 9 v16_3) fun v17_4 => (k2 (vcall E.P base m .len [9] [v17_4]) fun v18_5 m => (k1 (mbin E .lss 3 x6 v18_5) fun v19_6 => (kb v19_6 (k1 (mindexAddr E.P 22 x0 x4) fun v25_7 => (k1 (xload E.P m 9 v25_7) fun v26_8 => (k1 (mindex E.P 9 v26_8 x6) fun v28_9 => (k1 (mbin E .eql 5 v28_9 (.int .u8 35)) fun v29_10 => (k2 (xbuildSlice E.P m 54 1 [(0, v29_10)]) fun v30_11 m => (k2 (vcall E.P base m .append [54, 54] [x5, v30_11]) fun v31_12 m => (k1 (mbin E .add 3 x6 (.int .i64 1)) fun v21_13 => (ih x0 x3 x4 v31_12 v21_13 m)))))))) (kx2 x0 x3 x4 x5 m))))))) n
noncomputable def r37_L0 (call : CallF) (fuel base : Nat) (kx0 : Value → M → Res2) (n : Nat) : Value → Value → Value → M → Res2 :=
  Nat.rec (motive := fun _ => Value → Value → Value → M → Res2) (fun _ _ _ _ => none)
    (fun _ ih x0 x3 x4 m =>
      (k2 (vcall E.P base m .len [22] [x0]) fun v9_1 m => (k1 (mbin E .lss 3 x4 v9_1) fun v10_2 => (kb v10_2 (r37_L2 call fuel base (fun y0_14 y3_15 y4_16 y5_17 m => (k2 (xbuildSlice E.P m 51 1 [(0, y5_17)]) fun v34_18 m => (k2 (vcall E.P base m .append [51, 51] [y3_15, v34_18]) fun v35_19 m => (k1 (mbin E .add 3 y4_16 (.int .i64 1)) fun v12_20 => (ih y0_14 v35_19 v12_20 m))))) fuel x0 x3 x4 (.slice none 0 0) (.int .i64 0) m) (kx0 x3 m))))) n
noncomputable def r37 (call : CallF) (fuel base : Nat) (x0 : Value) (m : M) : Res2 :=
  (r37_L0 call fuel base (fun y3_21 m => (fVal y3_21 fun v => some (.ret v, m))) fuel x0 (.slice none 0 0) (.int .i64 0) m)
def keep37 : Keep := { region := fun i => ([[0], [0, 3], [0, 3, 4], [0, 3, 4, 10], [0, 3, 4], [0, 3, 4, 5], [0, 3, 4, 5, 6], [0, 3, 4, 5, 6, 19], [0, 3, 4, 5, 6], [0, 3, 4, 5, 6], [0, 3, 4], [2]] : List (List Nat))[i]?, exit := fun i => ([[3], [0, 3, 4], [0, 3, 4, 5], [0, 3, 4, 5, 6]] : List (List Nat))[i]?, ret := some [2] }
noncomputable def r37_L2_R (call : CallF) (fuel base n : Nat) (vs : List Value) (m : M) (K : KT) : Res2 := match vs with
  | [x0, x3, x4, x5, x6] => r37_L2 call fuel base (fun y0 y3 y4 y5 m => K (.exit 2) { n := 37, l := [(0, y0), (3, y3), (4, y4), (5, y5)] } m) n x0 x3 x4 x5 x6 m
  | _ => none
noncomputable def r37_L0_R (call : CallF) (fuel base n : Nat) (vs : List Value) (m : M) (K : KT) : Res2 := match vs with
  | [x0, x3, x4] => r37_L0 call fuel base (fun y3 m => K (.exit 0) { n := 37, l := [(3, y3)] } m) n x0 x3 x4 m
  | _ => none
noncomputable def lp37 (call : CallF) (fuel base : Nat) : Lp := lpsel [(2, fun T m K => kslots 37 [0, 3, 4, 5, 6] T fun vs => r37_L2_R call fuel base fuel vs m K), (0, fun T m K => kslots 37 [0, 3, 4] T fun vs => r37_L0_R call fuel base fuel vs m K)]
noncomputable def c37 : Code := Tryd.f37.body.getD .skip
theorem r37_L2_lk (call : CallF) (fuel base : Nat) : LoopsOk E call (lp37 call fuel base) fuel base 2 (loopB (blockB (seqR (seqL (seqR (blockB (seqL (seqR (loopB (blockB (seqR (seqL (seqR (seqR c37)))))))))))))) = (And (And True (And True True)) (And True True)) := by kernel_rfl
theorem r37_L2_ok (call : CallF) (fuel base : Nat) : LpOk E call (lp37 call fuel base) fuel base 2 (loopB (blockB (seqR (seqL (seqR (blockB (seqL (seqR (loopB (blockB (seqR (seqL (seqR (seqR c37)))))))))))))) := by
  refine loop_ok (kp := keep37) (hb := Eq.mpr (r37_L2_lk call fuel base) (And.intro (And.intro trivial (And.intro trivial trivial)) (And.intro trivial trivial))) 37 [0, 3, 4, 5, 6] (fun n vs m K => r37_L2_R call fuel base n vs m K) ?_ ?_ (fun _ _ _ => rfl)
  · intro vs m K
    unfold r37_L2_R
    split <;> rfl
  · intro n vs m K hl
    match vs, hl with
    | [x0, x3, x4, x5, x6], _ => show _ = _; kernel_rfl
theorem r37_L0_lk (call : CallF) (fuel base : Nat) : LoopsOk E call (lp37 call fuel base) fuel base 0 (loopB (blockB (seqR (seqL (seqR (seqR c37)))))) = (And (And True (And True True)) (And (And True (And (And True (LpOk E call (lp37 call fuel base) fuel base 2 (loopB (blockB (seqR (seqL (seqR (blockB (seqL (seqR (loopB (blockB (seqR (seqL (seqR (seqR c37)))))))))))))))) True)) True)) := by kernel_rfl
theorem r37_L0_ok (call : CallF) (fuel base : Nat) : LpOk E call (lp37 call fuel base) fuel base 0 (loopB (blockB (seqR (seqL (seqR (seqR c37)))))) := by
  refine loop_ok (kp := keep37) (hb := Eq.mpr (r37_L0_lk call fuel base) (And.intro (And.intro trivial (And.intro trivial trivial)) (And.intro (And.intro trivial (And.intro (And.intro trivial (r37_L2_ok call fuel base)) trivial)) trivial))) 37 [0, 3, 4] (fun n vs m K => r37_L0_R call fuel base n vs m K) ?_ ?_ (fun _ _ _ => rfl)
  · intro vs m K
    unfold r37_L0_R
    split <;> rfl
  · intro n vs m K hl
    match vs, hl with
    | [x0, x3, x4], _ => show _ = _; kernel_rfl
theorem r37_eq (call : CallF) (fuel base : Nat) (x0 : Value) (m : M) : kbody E call keep37 (lp37 call fuel base) base Tryd.f37 [x0] m = r37 call fuel base x0 m := by
  kernel_rfl
noncomputable def rf37 : RF := fun call fuel base args m => match args with
  | [x0] => r37 call fuel base x0 m
  | _ => none
theorem r37_lk (call : CallF) (fuel base : Nat) : LoopsOk E call (lp37 call fuel base) fuel base 0 c37 = (And True (And True (And (And True (LpOk E call (lp37 call fuel base) fuel base 0 (loopB (blockB (seqR (seqL (seqR (seqR c37)))))))) (And True True)))) := by kernel_rfl
theorem r37_fn : E.P.funcs[37]? = some Tryd.f37 := by kernel_rfl
theorem r37_body : Tryd.f37.body = some c37 := by kernel_rfl
theorem rf37_ok : RFok E 37 rf37 := by
  refine ⟨Tryd.f37, r37_fn, fun call fuel base args m r _ h => ?_⟩
  unfold rf37 at h
  split at h
  · rw [← r37_eq] at h
    exact kbody_sound (c := c37) r37_body (Eq.mpr (r37_lk call fuel base) (And.intro trivial (And.intro trivial (And.intro (And.intro trivial (r37_L0_ok call fuel base)) (And.intro trivial trivial))))) h
  · simp at h
end Go.AM
namespace Go.AM
open Go Go.Proofs
noncomputable def r38_L4 (call : CallF) (fuel base : Nat) (kx4 : Value → Value → Value → Value → Value → Value → M → Res2) (n : Nat) : Value → Value → Value → Value → Value → Value → Value → Value → M → Res2 :=
  Nat.rec (motive := fun _ => Value → Value → Value → Value → Value → Value → Value → Value → M → Res2) (fun _ _ _ _ _ _ _ _ _ => none)
    (fun _ ih x0 x3 x4 x5 x6 x7 x8 x9 m =>
      (k1 (mbin E .shl 3 (.int .i64 1) x4) fun v38_12 => (k1 (mbin E .lss 3 x9 v38_12) fun v39_13 => (kb v39_13 (k1 (mindexAddr E.P 78 x5 x9) fun v44_14 => (k1 (xload E.P m 3 v44_14) fun v45_15 => (k1 (mbin E .eql 3 v45_15 (.int .i64 0)) fun v46_16 => (kb v46_16 (k1 (mbin E .add 3 x9 (.int .i64 1)) fun v41_17 => (ih x0 x3 x4 x5 x6 x7 x8 v41_17 m)) (k1 (mbin E .shr 3 x9 x7) fun v49_18 => (k1 (mbin E .rem 3 v49_18 (.int .i64 2)) fun v50_19 => (k1 (mbin E .eql 3 v50_19 (.int .i64 1)) fun v51_20 => (k1 (mbin E .shl 3 (.int .i64 1) x7) fun v54_21 => (k1 (mbin E .andNot 3 x9 v54_21) fun v55_22 => (kb v51_20 (k1 (mun .not v51_20) fun v68_23 => (kb v68_23 (k1 (mindexAddr E.P 78 x8 v55_22) fun v80_24 => (k1 (xload E.P m 3 v80_24) fun v81_25 => (k1 (mindexAddr E.P 78 x5 x9) fun v84_26 => (k1 (xload E.P m 3 v84_26) fun v85_27 => (k1 (mbin E .add 3 v81_25 v85_27) fun v86_28 => (k1 (mindexAddr E.P 78 x8 v55_22) fun v87_29 => (ks (xstore E.P base m 3 v87_29 v86_28) fun m => (k1 (mbin E .add 3 x9 (.int .i64 1)) fun v41_30 => (ih x0 x3 x4 x5 x6 x7 x8 v41_30 m))))))))) (k1 (mindexAddr E.P 51 x0 x6) fun v72_31 => (k1 (xload E.P m 54 v72_31) fun v73_32 => (k1 (mindexAddr E.P 54 v73_32 x7) fun v75_33 => (k1 (xload E.P m 4 v75_33) fun v76_34 => (kb v76_34 (k1 (mindexAddr E.P 78 x8 v55_22) fun v80_35 => (k1 (xload E.P m 3 v80_35) fun v81_36 => (k1 (mindexAddr E.P 78 x5 x9) fun v84_37 => (k1 (xload E.P m 3 v84_37) fun v85_38 => (k1 (mbin E .add 3 v81_36 v85_38) fun v86_39 => (k1 (mindexAddr E.P 78 x8 v55_22) fun v87_40 => (ks (xstore E.P base m 3 v87_40 v86_39) fun m => (k1 (mbin E .add 3 x9 (.int .i64 1)) fun v41_41 => (ih x0 x3 x4 x5 x6 x7 x8 v41_41 m))))))))) (k1 (mbin E .add 3 x9 (.int .i64 1)) fun v41_42 => (ih x0 x3 x4 x5 x6 x7 x8 v41_42 m))))))))) (k1 (mindexAddr E.P 51 x0 x6) fun v60_43 => (k1 (xload E.P m 54 v60_43) fun v61_44 => (k1 (mindexAddr E.P 54 v61_44 x7) fun v63_45 => (k1 (xload E.P m 4 v63_45) fun v64_46 => (k1 (mun .not v64_46) fun v65_47 => (kb v65_47 (k1 (mun .not v51_20) fun v68_48 => (kb v68_48 (k1 (mindexAddr E.P 78 x8 v55_22) fun v80_49 => (k1 (xload E.P m 3 v80_49) fun v81_50 => (k1 (mindexAddr E.P 78 x5 x9) fun v84_51 => (k1 (xload E.P m 3 v84_51) fun v85_52 => (k1 (mbin E .add 3 v81_50 v85_52) fun v86_53 => (k1 (mindexAddr E.P 78 x8 v55_22) fun v87_54 => (ks (xstore E.P base m 3 v87_54 v86_53) fun m => (k1 (mbin E .add 3 x9 (.int .i64 1)) fun v41_55 => (ih x0 x3 x4 x5 x6 x7 x8 v41_55 m))))))))) (k1 (mindexAddr E.P 51 x0 x6) fun v72_56 => (k1 (xload E.P m 54 v72_56) fun v73_57 => (k1 (mindexAddr E.P 54 v73_57 x7) fun v75_58 => (k1 (xload E.P m 4 v75_58) fun v76_59 => (kb v76_59 (k1 (mindexAddr E.P 78 x8 v55_22) fun v80_60 => (k1 (xload E.P m 3 v80_60) fun v81_61 => (k1 (mindexAddr E.P 78 x5 x9) fun v84_62 => (k1 (xload E.P m 3 v84_62) fun v85_63 => (k1 (mbin E .add 3 v81_61 v85_63) fun v86_64 => (k1 (mindexAddr E.P 78 x8 v55_22) fun v87_65 => (ks (xstore E.P base m 3 v87_65 v86_64) fun m => (k1 (mbin E .add 3 x9 (.int .i64 1)) fun v41_66 => (ih x0 x3 x4 x5 x6 x7 x8 v41_66 m))))))))) (k1 (mbin E .add 3 x9 (.int .i64 1)) fun v41_67 => (ih x0 x3 x4 x5 x6 x7 x8 v41_67 m))))))))) (k1 (mbin E .add 3 x6 (.int .i64 1)) fun v89_68 => (k1 (mbin E .lss 3 v89_68 x3) fun v91_69 => (kb v91_69 (k1 (mbin E .add 3 x6 (.int .i64 1)) fun v95_70 => (k1 (mindexAddr E.P 51 x0 v95_70) fun v96_71 => (k1 (xload E.P m 54 v96_71) fun v97_72 => (k1 (mindexAddr E.P 54 v97_72 x7) fun v99_73 => (k1 (xload E.P m 4 v99_73) fun v100_74 => (kb v100_74 (k1 (mbin E .shl 3 (.int .i64 1) x7) fun v105_75 => (k1 (mbin E .or 3 v55_22 v105_75) fun v106_76 => (k1 (mindexAddr E.P 78 x8 v106_76) fun v107_77 => (k1 (xload E.P m 3 v107_77) fun v108_78 => (k1 (mindexAddr E.P 78 x5 x9) fun v111_79 => (k1 (xload E.P m 3 v111_79) fun v112_80 => (k1 (mbin E .add 3 v108_78 v112_80) fun v113_81 => (k1 (mindexAddr E.P 78 x8 v106_76) fun v114_82 => (ks (xstore E.P base m 3 v114_82 v113_81) fun m => (k1 (mbin E .add 3 x7 (.int .i64 1)) fun v116_83 => (k1 (mbin E .lss 3 v116_83 x4) fun v118_84 => (kb v118_84 (k1 (mindexAddr E.P 51 x0 x6) fun v122_85 => (k1 (xload E.P m 54 v122_85) fun v123_86 => (k1 (mbin E .add 3 x7 (.int .i64 1)) fun v125_87 => (k1 (mindexAddr E.P 54 v123_86 v125_87) fun v126_88 => (k1 (xload E.P m 4 v126_88) fun v127_89 => (kb v127_89 (k1 (mbin E .add 3 x7 (.int .i64 1)) fun v132_90 => (k1 (mbin E .shr 3 x9 v132_90) fun v133_91 => (k1 (mbin E .rem 3 v133_91 (.int .i64 2)) fun v134_92 => (k1 (mbin E .eql 3 v134_92 (.int .i64 0)) fun v135_93 => (kb v135_93 (k1 (mbin E .add 3 x7 (.int .i64 1)) fun v140_94 => (k1 (mbin E .shl 3 (.int .i64 1) v140_94) fun v141_95 => (k1 (mbin E .or 3 v55_22 v141_95) fun v142_96 => (k1 (mindexAddr E.P 78 x8 v142_96) fun v143_97 => (k1 (xload E.P m 3 v143_97) fun v144_98 => (k1 (mindexAddr E.P 78 x5 x9) fun v147_99 => (k1 (xload E.P m 3 v147_99) fun v148_100 => (k1 (mbin E .add 3 v144_98 v148_100) fun v149_101 => (k1 (mindexAddr E.P 78 x8 v142_96) fun v150_102 => (ks (xstore E.P base m 3 v150_102 v149_101) fun m => (k1 (mbin E .add 3 x9 (.int .i64 1)) fun v41_103 => (ih x0 x3 x4 x5 x6 x7 x8 v41_103 m)))))))))))) (k1 (mbin E .add 3 x9 (.int .i64 1)) fun v41_104 => (ih x0 x3 x4 x5 x6 x7 x8 v41_104 m))))))) (k1 (mbin E .add 3 x9 (.int .i64 1)) fun v41_105 => (ih x0 x3 x4 x5 x6 x7 x8 v41_105 m)))))))) (k1 (mbin E .add 3 x9 (.int .i64 1)) fun v41_106 => (ih x0 x3 x4 x5 x6 x7 x8 v41_106 m)))))))))))))) (k1 (mbin E .add 3 x7 (.int .i64 1)) fun v116_107 => (k1 (mbin E .lss 3 v116_107 x4) fun v118_108 => (kb v118_108 (k1 (mindexAddr E.P 51 x0 x6) fun v122_109 => (k1 (xload E.P m 54 v122_109) fun v123_110 => (k1 (mbin E .add 3 x7 (.int .i64 1)) fun v125_111 => (k1 (mindexAddr E.P 54 v123_110 v125_111) fun v126_112 => (k1 (xload E.P m 4 v126_112) fun v127_113 => (kb v127_113 (k1 (mbin E .add 3 x7 (.int .i64 1)) fun v132_114 => (k1 (mbin E .shr 3 x9 v132_114) fun v133_115 => (k1 (mbin E .rem 3 v133_115 (.int .i64 2)) fun v134_116 => (k1 (mbin E .eql 3 v134_116 (.int .i64 0)) fun v135_117 => (kb v135_117 (k1 (mbin E .add 3 x7 (.int .i64 1)) fun v140_118 => (k1 (mbin E .shl 3 (.int .i64 1) v140_118) fun v141_119 => (k1 (mbin E .or 3 v55_22 v141_119) fun v142_120 => (k1 (mindexAddr E.P 78 x8 v142_120) fun v143_121 => (k1 (xload E.P m 3 v143_121) fun v144_122 => (k1 (mindexAddr E.P 78 x5 x9) fun v147_123 => (k1 (xload E.P m 3 v147_123) fun v148_124 => (k1 (mbin E .add 3 v144_122 v148_124) fun v149_125 => (k1 (mindexAddr E.P 78 x8 v142_120) fun v150_126 => (ks (xstore E.P base m 3 v150_126 v149_125) fun m => (k1 (mbin E .add 3 x9 (.int .i64 1)) fun v41_127 => (ih x0 x3 x4 x5 x6 x7 x8 v41_127 m)))))))))))) (k1 (mbin E .add 3 x9 (.int .i64 1)) fun v41_128 => (ih x0 x3 x4 x5 x6 x7 x8 v41_128 m))))))) (k1 (mbin E .add 3 x9 (.int .i64 1)) fun v41_129 => (ih x0 x3 x4 x5 x6 x7 x8 v41_129 m)))))))) (k1 (mbin E .add 3 x9 (.int .i64 1)) fun v41_130 => (ih x0 x3 x4 x5 x6 x7 x8 v41_130 m))))))))))) (k1 (mbin E .add 3 x7 (.int .i64 1)) fun v116_131 => (k1 (mbin E .lss 3 v116_131 x4) fun v118_132 => (kb v118_132 (k1 (mindexAddr E.P 51 x0 x6) fun v122_133 => (k1 (xload E.P m 54 v122_133) fun v123_134 => (k1 (mbin E .add 3 x7 (.int .i64 1)) fun v125_135 => (k1 (mindexAddr E.P 54 v123_134 v125_135) fun v126_136 => (k1 (xload E.P m 4 v126_136) fun v127_137 => (kb v127_137 (k1 (mbin E .add 3 x7 (.int .i64 1)) fun v132_138 => (k1 (mbin E .shr 3 x9 v132_138) fun v133_139 => (k1 (mbin E .rem 3 v133_139 (.int .i64 2)) fun v134_140 => (k1 (mbin E .eql 3 v134_140 (.int .i64 0)) fun v135_141 => (kb v135_141 (k1 (mbin E .add 3 x7 (.int .i64 1)) fun v140_142 => (k1 (mbin E .shl 3 (.int .i64 1) v140_142) fun v141_143 => (k1 (mbin E .or 3 v55_22 v141_143) fun v142_144 => (k1 (mindexAddr E.P 78 x8 v142_144) fun v143_145 => (k1 (xload E.P m 3 v143_145) fun v144_146 => (k1 (mindexAddr E.P 78 x5 x9) fun v147_147 => (k1 (xload E.P m 3 v147_147) fun v148_148 => (k1 (mbin E .add 3 v144_146 v148_148) fun v149_149 => (k1 (mindexAddr E.P 78 x8 v142_144) fun v150_150 => (ks (xstore E.P base m 3 v150_150 v149_149) fun m => (k1 (mbin E .add 3 x9 (.int .i64 1)) fun v41_151 => (ih x0 x3 x4 x5 x6 x7 x8 v41_151 m)))))))))))) (k1 (mbin E .add 3 x9 (.int .i64 1)) fun v41_152 => (ih x0 x3 x4 x5 x6 x7 x8 v41_152 m))))))) (k1 (mbin E .add 3 x9 (.int .i64 1)) fun v41_153 => (ih x0 x3 x4 x5 x6 x7 x8 v41_153 m)))))))) (k1 (mbin E .add 3 x9 (.int .i64 1)) fun v41_154 => (ih x0 x3 x4 x5 x6 x7 x8 v41_154 m)))))))))))))))))))))))) (kx4 x0 x3 x4 x6 x7 x8 m))))) n
noncomputable def r38_L2 (call : CallF) (fuel base : Nat) (kx2 : Value → Value → Value → Value → Value → M → Res2) (n : Nat) : Value → Value → Value → Value → Value → Value → M → Res2 :=
  Nat.rec (motive := fun _ => Value → Value → Value → Value → Value → Value → M → Res2) (fun _ _ _ _ _ _ _ => none)
    (fun _ ih x0 x3 x4 x5 x6 x7 m =>
      (k1 (mbin E .lss 3 x7 x4) fun v30_9 => (kb v30_9 (k1 (mbin E .shl 3 (.int .i64 1) x4) fun v34_10 => (k2 (xmakeSlice E.P m 78 v34_10 v34_10) fun v35_11 m => (r38_L4 call fuel base (fun y0_155 y3_156 y4_157 y6_158 y7_159 y8_160 m => (k1 (mbin E .add 3 y7_159 (.int .i64 1)) fun v32_161 => (ih y0_155 y3_156 y4_157 y8_160 y6_158 v32_161 m))) fuel x0 x3 x4 x5 x6 x7 v35_11 (.int .i64 0) m))) (kx2 x0 x3 x4 x5 x6 m)))) n
noncomputable def r38_L0 (call : CallF) (fuel base : Nat) (kx0 : Value → M → Res2) (n : Nat) : Value → Value → Value → Value → Value → M → Res2 :=
  Nat.rec (motive := fun _ => Value → Value → Value → Value → Value → M → Res2) (fun _ _ _ _ _ _ => none)
    (fun _ ih x0 x3 x4 x5 x6 m =>
      (k1 (mbin E .lss 3 x6 x3) fun v25_8 => (kb v25_8 (r38_L2 call fuel base (fun y0_162 y3_163 y4_164 y5_165 y6_166 m => (k1 (mbin E .add 3 y6_166 (.int .i64 1)) fun v27_167 => (ih y0_162 y3_163 y4_164 y5_165 v27_167 m))) fuel x0 x3 x4 x5 x6 (.int .i64 0) m) (kx0 x5 m)))) n
noncomputable def r38 (call : CallF) (fuel base : Nat) (x0 : Value) (m : M) : Res2 :=
  (k2 (vcall E.P base m .len [51] [x0]) fun v13_1 m => (k1 (mindexAddr E.P 51 x0 (.int .i64 0)) fun v15_2 => (k1 (xload E.P m 54 v15_2) fun v16_3 => (k2 (vcall E.P base m .len [54] [v16_3]) fun v17_4 m => (k1 (mbin E .shl 3 (.int .i64 1) v17_4) fun v19_5 => (k2 (xmakeSlice E.P m 78 v19_5 v19_5) fun v20_6 m => (k1 (mindexAddr E.P 78 v20_6 (.int .i64 0)) fun v22_7 => (ks (xstore E.P base m 3 v22_7 (.int .i64 1)) fun m => (r38_L0 call fuel base (fun y5_168 m => (k1 (mindexAddr E.P 78 y5_168 (.int .i64 0)) fun v153_169 => (k1 (xload E.P m 3 v153_169) fun v154_170 => (fVal v154_170 fun v => some (.ret v, m))))) fuel x0 v13_1 v17_4 v20_6 (.int .i64 0) m)))))))))
def keep38 : Keep := { region := fun i => ([[0], [0, 3, 4], [0, 3, 4, 5], [0, 3, 4, 5], [0, 3, 4, 5, 6], [0, 3, 4, 5, 6, 25], [0, 3, 4, 5, 6], [0, 3, 4, 5, 6, 7], [0, 3, 4, 5, 6, 7, 30], [0, 3, 4, 5, 6, 7], [0, 3, 4, 5, 6, 7, 8], [0, 3, 4, 5, 6, 7, 8, 9], [0, 3, 4, 5, 6, 7, 8, 9, 39], [0, 3, 4, 5, 6, 7, 8, 9], [0, 3, 4, 5, 6, 7, 8, 9, 46], [0, 3, 4, 5, 6, 7, 8, 9, 10], [0, 3, 4, 5, 6, 7, 8, 9, 10, 11], [0, 3, 4, 5, 6, 7, 8, 9, 10, 11, 66], [0, 3, 4, 5, 6, 7, 8, 9, 11, 77], [0, 3, 4, 5, 6, 7, 8, 9], [0, 3, 4, 5, 6, 7, 8, 9, 11, 101], [0, 3, 4, 5, 6, 7, 8, 9, 11], [0, 3, 4, 5, 6, 7, 8, 9, 11, 136], [0, 3, 4, 5, 6, 7, 8, 9], [0, 3, 4, 5, 6, 7], [2]] : List (List Nat))[i]?, exit := fun i => ([[5], [0, 3, 4, 5, 6], [0, 3, 4, 5, 6], [0, 3, 4, 5, 6, 7], [0, 3, 4, 6, 7, 8], [0, 3, 4, 5, 6, 7, 8, 9]] : List (List Nat))[i]?, ret := some [2] }
noncomputable def r38_L4_R (call : CallF) (fuel base n : Nat) (vs : List Value) (m : M) (K : KT) : Res2 := match vs with
  | [x0, x3, x4, x5, x6, x7, x8, x9] => r38_L4 call fuel base (fun y0 y3 y4 y6 y7 y8 m => K (.exit 4) { n := 155, l := [(0, y0), (3, y3), (4, y4), (6, y6), (7, y7), (8, y8)] } m) n x0 x3 x4 x5 x6 x7 x8 x9 m
  | _ => none
noncomputable def r38_L2_R (call : CallF) (fuel base n : Nat) (vs : List Value) (m : M) (K : KT) : Res2 := match vs with
  | [x0, x3, x4, x5, x6, x7] => r38_L2 call fuel base (fun y0 y3 y4 y5 y6 m => K (.exit 2) { n := 155, l := [(0, y0), (3, y3), (4, y4), (5, y5), (6, y6)] } m) n x0 x3 x4 x5 x6 x7 m
  | _ => none
noncomputable def r38_L0_R (call : CallF) (fuel base n : Nat) (vs : List Value) (m : M) (K : KT) : Res2 := match vs with
  | [x0, x3, x4, x5, x6] => r38_L0 call fuel base (fun y5 m => K (.exit 0) { n := 155, l := [(5, y5)] } m) n x0 x3 x4 x5 x6 m
  | _ => none
noncomputable def lp38 (call : CallF) (fuel base : Nat) : Lp := lpsel [(4, fun T m K => kslots 155 [0, 3, 4, 5, 6, 7, 8, 9] T fun vs => r38_L4_R call fuel base fuel vs m K), (2, fun T m K => kslots 155 [0, 3, 4, 5, 6, 7] T fun vs => r38_L2_R call fuel base fuel vs m K), (0, fun T m K => kslots 155 [0, 3, 4, 5, 6] T fun vs => r38_L0_R call fuel base fuel vs m K)]
noncomputable def c38 : Code := Tryd.f38.body.getD .skip
theorem r38_L4_lk (call : CallF) (fuel base : Nat) : LoopsOk E call (lp38 call fuel base) fuel base 4 (loopB (blockB (seqR (seqL (seqR (blockB (seqL (seqR (loopB (blockB (seqR (blockB (seqL (seqR (loopB (blockB (seqR (seqL (seqR (seqR (seqR (seqR c38)))))))))))))))))))))) = (And (And True (And True True)) (And (And (And True (And True True)) (And True (And True (And (And True (And (And (And True (And True True)) True) True)) (And (And True (And True True)) (And True (And True True))))))) True)) := by kernel_rfl
theorem r38_L4_ok (call : CallF) (fuel base : Nat) : LpOk E call (lp38 call fuel base) fuel base 4 (loopB (blockB (seqR (seqL (seqR (blockB (seqL (seqR (loopB (blockB (seqR (blockB (seqL (seqR (loopB (blockB (seqR (seqL (seqR (seqR (seqR (seqR c38)))))))))))))))))))))) := by
  refine loop_ok (kp := keep38) (hb := Eq.mpr (r38_L4_lk call fuel base) (And.intro (And.intro trivial (And.intro trivial trivial)) (And.intro (And.intro (And.intro trivial (And.intro trivial trivial)) (And.intro trivial (And.intro trivial (And.intro (And.intro trivial (And.intro (And.intro (And.intro trivial (And.intro trivial trivial)) trivial) trivial)) (And.intro (And.intro trivial (And.intro trivial trivial)) (And.intro trivial (And.intro trivial trivial))))))) trivial))) 155 [0, 3, 4, 5, 6, 7, 8, 9] (fun n vs m K => r38_L4_R call fuel base n vs m K) ?_ ?_ (fun _ _ _ => rfl)
  · intro vs m K
    unfold r38_L4_R
    split <;> rfl
  · intro n vs m K hl
    match vs, hl with
    | [x0, x3, x4, x5, x6, x7, x8, x9], _ => show _ = _; kernel_rfl
theorem r38_L2_lk (call : CallF) (fuel base : Nat) : LoopsOk E call (lp38 call fuel base) fuel base 2 (loopB (blockB (seqR (blockB (seqL (seqR (loopB (blockB (seqR (seqL (seqR (seqR (seqR (seqR c38)))))))))))))) = (And (And True (And True True)) (And (And True (And (And True (LpOk E call (lp38 call fuel base) fuel base 4 (loopB (blockB (seqR (seqL (seqR (blockB (seqL (seqR (loopB (blockB (seqR (blockB (seqL (seqR (loopB (blockB (seqR (seqL (seqR (seqR (seqR (seqR c38)))))))))))))))))))))))) True)) True)) := by kernel_rfl
theorem r38_L2_ok (call : CallF) (fuel base : Nat) : LpOk E call (lp38 call fuel base) fuel base 2 (loopB (blockB (seqR (blockB (seqL (seqR (loopB (blockB (seqR (seqL (seqR (seqR (seqR (seqR c38)))))))))))))) := by
  refine loop_ok (kp := keep38) (hb := Eq.mpr (r38_L2_lk call fuel base) (And.intro (And.intro trivial (And.intro trivial trivial)) (And.intro (And.intro trivial (And.intro (And.intro trivial (r38_L4_ok call fuel base)) trivial)) trivial))) 155 [0, 3, 4, 5, 6, 7] (fun n vs m K => r38_L2_R call fuel base n vs m K) ?_ ?_ (fun _ _ _ => rfl)
  · intro vs m K
    unfold r38_L2_R
    split <;> rfl
  · intro n vs m K hl
    match vs, hl with
    | [x0, x3, x4, x5, x6, x7], _ => show _ = _; kernel_rfl
theorem r38_L0_lk (call : CallF) (fuel base : Nat) : LoopsOk E call (lp38 call fuel base) fuel base 0 (loopB (blockB (seqR (seqL (seqR (seqR (seqR (seqR c38)))))))) = (And (And True (And True True)) (And (And True (LpOk E call (lp38 call fuel base) fuel base 2 (loopB (blockB (seqR (blockB (seqL (seqR (loopB (blockB (seqR (seqL (seqR (seqR (seqR (seqR c38)))))))))))))))) True)) := by kernel_rfl
theorem r38_L0_ok (call : CallF) (fuel base : Nat) : LpOk E call (lp38 call fuel base) fuel base 0 (loopB (blockB (seqR (seqL (seqR (seqR (seqR (seqR c38)))))))) := by
  refine loop_ok (kp := keep38) (hb := Eq.mpr (r38_L0_lk call fuel base) (And.intro (And.intro trivial (And.intro trivial trivial)) (And.intro (And.intro trivial (r38_L2_ok call fuel base)) trivial))) 155 [0, 3, 4, 5, 6] (fun n vs m K => r38_L0_R call fuel base n vs m K) ?_ ?_ (fun _ _ _ => rfl)
  · intro vs m K
    unfold r38_L0_R
    split <;> rfl
  · intro n vs m K hl
    match vs, hl with
    | [x0, x3, x4, x5, x6], _ => show _ = _; kernel_rfl
theorem r38_eq (call : CallF) (fuel base : Nat) (x0 : Value) (m : M) : kbody E call keep38 (lp38 call fuel base) base Tryd.f38 [x0] m = r38 call fuel base x0 m := by
  kernel_rfl
noncomputable def rf38 : RF := fun call fuel base args m => match args with
  | [x0] => r38 call fuel base x0 m
  | _ => none
theorem r38_lk (call : CallF) (fuel base : Nat) : LoopsOk E call (lp38 call fuel base) fuel base 0 c38 = (And True (And True (And True (And True (And (And True (LpOk E call (lp38 call fuel base) fuel base 0 (loopB (blockB (seqR (seqL (seqR (seqR (seqR (seqR c38)))))))))) (And True True)))))) := by kernel_rfl
theorem r38_fn : E.P.funcs[38]? = some Tryd.f38 := by kernel_rfl
theorem r38_body : Tryd.f38.body = some c38 := by kernel_rfl
theorem rf38_ok : RFok E 38 rf38 := by
  refine ⟨Tryd.f38, r38_fn, fun call fuel base args m r _ h => ?_⟩
  unfold rf38 at h
  split at h
  · rw [← r38_eq] at h
    exact kbody_sound (c := c38) r38_body (Eq.mpr (r38_lk call fuel base) (And.intro trivial (And.intro trivial (And.intro trivial (And.intro trivial (And.intro (And.intro trivial (r38_L0_ok call fuel base)) (And.intro trivial trivial))))))) h
  · simp at h
end Go.AM
namespace Go.AM
open Go Go.Proofs
noncomputable def r39 (call : CallF) (fuel base : Nat) (x0 : Value) (x1 : Value) (m : M) : Res2 :=
  (k2 (xbox m x1) fun v3_1 m => (k1 (xload E.P m 31 v3_1) fun v6_2 => (kc (call base 68 [v6_2] m) (fun v7_3 m => (k2 (xalloc E.P m 68) fun v5_4 m => (ks (xstore E.P base m 68 v5_4 v7_3) fun m => (k1 (mfieldAddr E.P 31 v3_1 1) fun v8_5 => (k1 (xload E.P m 3 v8_5) fun v9_6 => (k2 (vcall E.P base m .len [51] [x0]) fun v11_7 m => (k1 (mbin E .lss 3 v9_6 v11_7) fun v12_8 => (kb v12_8 (k1 (mfieldAddr E.P 68 v5_4 1) fun v14_9 => (k1 (xload E.P m 3 v14_9) fun v15_10 => (k2 (vcall E.P base m .len [51] [x0]) fun v17_11 m => (k1 (mbin E .lss 3 v15_10 v17_11) fun v18_12 => (kb v18_12 (k1 (mfieldAddr E.P 31 v3_1 0) fun v21_13 => (k1 (xload E.P m 3 v21_13) fun v22_14 => (k1 (mindexAddr E.P 51 x0 (.int .i64 0)) fun v24_15 => (k1 (xload E.P m 54 v24_15) fun v25_16 => (k2 (vcall E.P base m .len [54] [v25_16]) fun v26_17 m => (k1 (mbin E .lss 3 v22_14 v26_17) fun v27_18 => (kb v27_18 (k1 (mfieldAddr E.P 68 v5_4 0) fun v30_19 => (k1 (xload E.P m 3 v30_19) fun v31_20 => (k1 (mindexAddr E.P 51 x0 (.int .i64 0)) fun v33_21 => (k1 (xload E.P m 54 v33_21) fun v34_22 => (k2 (vcall E.P base m .len [54] [v34_22]) fun v35_23 m => (k1 (mbin E .lss 3 v31_20 v35_23) fun v36_24 => (kb v36_24 (k1 (mfieldAddr E.P 31 v3_1 1) fun v40_25 => (k1 (xload E.P m 3 v40_25) fun v41_26 => (k1 (mindexAddr E.P 51 x0 v41_26) fun v42_27 => (k1 (xload E.P m 54 v42_27) fun v43_28 => (k1 (mfieldAddr E.P 31 v3_1 0) fun v44_29 => (k1 (xload E.P m 3 v44_29) fun v45_30 => (k1 (mindexAddr E.P 54 v43_28 v45_30) fun v46_31 => (k1 (xload E.P m 4 v46_31) fun v47_32 => (kb v47_32 (k1 (mfieldAddr E.P 68 v5_4 1) fun v51_33 => (k1 (xload E.P m 3 v51_33) fun v52_34 => (k1 (mindexAddr E.P 51 x0 v52_34) fun v53_35 => (k1 (xload E.P m 54 v53_35) fun v54_36 => (k1 (mfieldAddr E.P 68 v5_4 0) fun v55_37 => (k1 (xload E.P m 3 v55_37) fun v56_38 => (k1 (mindexAddr E.P 54 v54_36 v56_38) fun v57_39 => (k1 (xload E.P m 4 v57_39) fun v58_40 => (fVal v58_40 fun v => some (.ret v, m)))))))))) (fVal (.bool false) fun v => some (.ret v, m))))))))))) (fVal (.bool false) fun v => some (.ret v, m))))))))) (fVal (.bool false) fun v => some (.ret v, m))))))))) (fVal (.bool false) fun v => some (.ret v, m))))))) (fVal (.bool false) fun v => some (.ret v, m)))))))))) (fun v m => some (.pan v, m)))))
def keep39 : Keep := { region := fun i => ([[0, 3], [0, 3, 5], [4]] : List (List Nat))[i]?, exit := fun i => ([] : List (List Nat))[i]?, ret := some [4] }
noncomputable def lp39 (call : CallF) (fuel base : Nat) : Lp := lpsel []
noncomputable def c39 : Code := Tryd.f39.body.getD .skip
theorem r39_eq (call : CallF) (fuel base : Nat) (x0 : Value) (x1 : Value) (m : M) : kbody E call keep39 (lp39 call fuel base) base Tryd.f39 [x0, x1] m = r39 call fuel base x0 x1 m := by
  kernel_rfl
noncomputable def rf39 : RF := fun call fuel base args m => match args with
  | [x0, x1] => r39 call fuel base x0 x1 m
  | _ => none
theorem r39_lk (call : CallF) (fuel base : Nat) : LoopsOk E call (lp39 call fuel base) fuel base 0 c39 = (And True (And True (And True True))) := by kernel_rfl
theorem r39_fn : E.P.funcs[39]? = some Tryd.f39 := by kernel_rfl
theorem r39_body : Tryd.f39.body = some c39 := by kernel_rfl
theorem rf39_ok : RFok E 39 rf39 := by
  refine ⟨Tryd.f39, r39_fn, fun call fuel base args m r _ h => ?_⟩
  unfold rf39 at h
  split at h
  · rw [← r39_eq] at h
    exact kbody_sound (c := c39) r39_body (Eq.mpr (r39_lk call fuel base) (And.intro trivial (And.intro trivial (And.intro trivial trivial)))) h
  · simp at h
end Go.AM
namespace Go.AM
open Go Go.Proofs
noncomputable def r40_L0 (call : CallF) (fuel base : Nat) (kx0 : Value → Value → M → Res2) (n : Nat) : Value → Value → Value → Value → M → Res2 :=
  Nat.rec (motive := fun _ => Value → Value → Value → Value → M → Res2) (fun _ _ _ _ _ => none)
    (fun _ ih x0 x3 x5 x6 m =>
      (k2 (vcall E.P base m .len [51] [x0]) fun v11_2 m => (k1 (mbin E .lss 3 x6 v11_2) fun v12_3 => (kb v12_3 (k1 (mindexAddr E.P 51 x0 x6) fun v19_4 => (k1 (xload E.P m 54 v19_4) fun v20_5 => (k2 (vcall E.P base m .append [54, 54] [(.slice none 0 0), v20_5]) fun v21_6 m => (k2 (xbuildSlice E.P m 51 1 [(0, v21_6)]) fun v22_7 m => (k2 (vcall E.P base m .append [51, 51] [x5, v22_7]) fun v23_8 m => (k1 (mbin E .add 3 x6 (.int .i64 1)) fun v14_9 => (ih x0 x3 v23_8 v14_9 m))))))) (kx0 x3 x5 m))))) n
noncomputable def r40 (call : CallF) (fuel base : Nat) (x0 : Value) (x1 : Value) (m : M) : Res2 :=
  (k2 (xbox m x1) fun v3_1 m => (r40_L0 call fuel base (fun y3_10 y5_11 m => (k1 (xload E.P m 31 y3_10) fun v24_12 => (kc (call base 68 [v24_12] m) (fun v25_13 m => (k2 (xalloc E.P m 68) fun v8_14 m => (ks (xstore E.P base m 68 v8_14 v25_13) fun m => (k1 (mfieldAddr E.P 31 y3_10 1) fun v27_15 => (k1 (xload E.P m 3 v27_15) fun v28_16 => (k1 (mindexAddr E.P 51 y5_11 v28_16) fun v29_17 => (k1 (xload E.P m 54 v29_17) fun v30_18 => (k1 (mfieldAddr E.P 31 y3_10 0) fun v31_19 => (k1 (xload E.P m 3 v31_19) fun v32_20 => (k1 (mindexAddr E.P 54 v30_18 v32_20) fun v33_21 => (ks (xstore E.P base m 4 v33_21 (.bool false)) fun m => (k1 (mfieldAddr E.P 68 v8_14 1) fun v35_22 => (k1 (xload E.P m 3 v35_22) fun v36_23 => (k1 (mindexAddr E.P 51 y5_11 v36_23) fun v37_24 => (k1 (xload E.P m 54 v37_24) fun v38_25 => (k1 (mfieldAddr E.P 68 v8_14 0) fun v39_26 => (k1 (xload E.P m 3 v39_26) fun v40_27 => (k1 (mindexAddr E.P 54 v38_25 v40_27) fun v41_28 => (ks (xstore E.P base m 4 v41_28 (.bool false)) fun m => (fVal y5_11 fun v => some (.ret v, m))))))))))))))))))))) (fun v m => some (.pan v, m))))) fuel x0 v3_1 (.slice none 0 0) (.int .i64 0) m))
def keep40 : Keep := { region := fun i => ([[0, 3], [0, 3, 5], [0, 3, 5, 6], [0, 3, 5, 6, 12], [0, 3, 5, 6], [0, 3, 5, 6, 7], [0, 3, 5, 6], [3, 5, 8], [5, 8], [5], [4]] : List (List Nat))[i]?, exit := fun i => ([[3, 5], [0, 3, 5, 6]] : List (List Nat))[i]?, ret := some [4] }
noncomputable def r40_L0_R (call : CallF) (fuel base n : Nat) (vs : List Value) (m : M) (K : KT) : Res2 := match vs with
  | [x0, x3, x5, x6] => r40_L0 call fuel base (fun y3 y5 m => K (.exit 0) { n := 43, l := [(3, y3), (5, y5)] } m) n x0 x3 x5 x6 m
  | _ => none
noncomputable def lp40 (call : CallF) (fuel base : Nat) : Lp := lpsel [(0, fun T m K => kslots 43 [0, 3, 5, 6] T fun vs => r40_L0_R call fuel base fuel vs m K)]
noncomputable def c40 : Code := Tryd.f40.body.getD .skip
theorem r40_L0_lk (call : CallF) (fuel base : Nat) : LoopsOk E call (lp40 call fuel base) fuel base 0 (loopB (blockB (seqR (seqL (seqR (seqR c40)))))) = (And (And True (And True True)) (And (And True True) True)) := by kernel_rfl
theorem r40_L0_ok (call : CallF) (fuel base : Nat) : LpOk E call (lp40 call fuel base) fuel base 0 (loopB (blockB (seqR (seqL (seqR (seqR c40)))))) := by
  refine loop_ok (kp := keep40) (hb := Eq.mpr (r40_L0_lk call fuel base) (And.intro (And.intro trivial (And.intro trivial trivial)) (And.intro (And.intro trivial trivial) trivial))) 43 [0, 3, 5, 6] (fun n vs m K => r40_L0_R call fuel base n vs m K) ?_ ?_ (fun _ _ _ => rfl)
  · intro vs m K
    unfold r40_L0_R
    split <;> rfl
  · intro n vs m K hl
    match vs, hl with
    | [x0, x3, x5, x6], _ => show _ = _; kernel_rfl
theorem r40_eq (call : CallF) (fuel base : Nat) (x0 : Value) (x1 : Value) (m : M) : kbody E call keep40 (lp40 call fuel base) base Tryd.f40 [x0, x1] m = r40 call fuel base x0 x1 m := by
  kernel_rfl
noncomputable def rf40 : RF := fun call fuel base args m => match args with
  | [x0, x1] => r40 call fuel base x0 x1 m
  | _ => none
theorem r40_lk (call : CallF) (fuel base : Nat) : LoopsOk E call (lp40 call fuel base) fuel base 0 c40 = (And True (And True (And (And True (LpOk E call (lp40 call fuel base) fuel base 0 (loopB (blockB (seqR (seqL (seqR (seqR c40)))))))) (And True (And True (And True (And True True))))))) := by kernel_rfl
theorem r40_fn : E.P.funcs[40]? = some Tryd.f40 := by kernel_rfl
theorem r40_body : Tryd.f40.body = some c40 := by kernel_rfl
theorem rf40_ok : RFok E 40 rf40 := by
  refine ⟨Tryd.f40, r40_fn, fun call fuel base args m r _ h => ?_⟩
  unfold rf40 at h
  split at h
  · rw [← r40_eq] at h
    exact kbody_sound (c := c40) r40_body (Eq.mpr (r40_lk call fuel base) (And.intro trivial (And.intro trivial (And.intro (And.intro trivial (r40_L0_ok call fuel base)) (And.intro trivial (And.intro trivial (And.intro trivial (And.intro trivial trivial)))))))) h
  · simp at h
end Go.AM
