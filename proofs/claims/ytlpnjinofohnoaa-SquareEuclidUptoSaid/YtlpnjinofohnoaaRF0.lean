import Derived.Test.YtlpnjinofohnoaaRBase
set_option linter.unusedVariables false
set_option linter.unusedSimpArgs false
namespace Go.AM
open Go Go.Proofs

noncomputable def r6 (call : CallF) (fuel base : Nat) (x0 : Value) (x1 : Value) (m : M) : Res2 :=
  (kc (call base 33 [x0, x1] m) (fun v12_1 m => (k1 (mextract 0 v12_1) fun v13_2 => (k1 (mextract 1 v12_1) fun v14_3 => (kc (call base 34 [x0, x1] m) (fun v18_4 m => (k1 (mextract 0 v18_4) fun v19_5 => (k1 (mextract 1 v18_4) fun v20_6 => (kc (call base 32 [v13_2, v19_5] m) (fun v23_7 m => (kb v23_7 (k1 (mbin E .eql 25 v14_3 v20_6) fun v27_8 => (k0 (mpick (.bool true) v27_8 (.bool false)) fun v28_9 => (kb v28_9 (kc (call base 15 [] m) (fun v30_10 m => (k0 (mpick (.bool true) v30_10 (.bool false)) fun v31_11 => (fVal v31_11 fun v => some (.ret v, m)))) (fun v m => some (.pan v, m))) (k0 (mpick (.bool false) undef (.bool false)) fun v31_12 => (fVal v31_12 fun v => some (.ret v, m)))))) (k0 (mpick (.bool false) undef (.bool false)) fun v28_13 => (kb v28_13 (kc (call base 15 [] m) (fun v30_14 m => (k0 (mpick (.bool true) v30_14 (.bool false)) fun v31_15 => (fVal v31_15 fun v => some (.ret v, m)))) (fun v m => some (.pan v, m))) (k0 (mpick (.bool false) undef (.bool false)) fun v31_16 => (fVal v31_16 fun v => some (.ret v, m))))))) (fun v m => some (.pan v, m)))))) (fun v m => some (.pan v, m)))))) (fun v m => some (.pan v, m)))

def keep6 : Keep := { region := fun i => ([[0, 1], [0, 1, 5, 6], [5, 6, 7, 8], [4]] : List (List Nat))[i]?, exit := fun i => ([] : List (List Nat))[i]?, ret := some [4] }

noncomputable def lp6 (call : CallF) (fuel base : Nat) : Lp := lpsel []

noncomputable def c6 : Code := Try.f6.body.getD .skip

theorem r6_eq (call : CallF) (fuel base : Nat) (x0 : Value) (x1 : Value) (m : M) : kbody E call keep6 (lp6 call fuel base) base Try.f6 [x0, x1] m = r6 call fuel base x0 x1 m := by
  kernel_rfl

noncomputable def rf6 : RF := fun call fuel base args m => match args with
  | [x0, x1] => r6 call fuel base x0 x1 m
  | _ => none

theorem r6_lk (call : CallF) (fuel base : Nat) : LoopsOk E call (lp6 call fuel base) fuel base 0 c6 = (And True (And True (And True (And True True)))) := by kernel_rfl

theorem r6_fn : E.P.funcs[6]? = some Try.f6 := by kernel_rfl
theorem r6_body : Try.f6.body = some c6 := by kernel_rfl

theorem rf6_ok : RFok E 6 rf6 := by
  refine ⟨Try.f6, r6_fn, fun call fuel base args m r _ h => ?_⟩
  unfold rf6 at h
  split at h
  · rw [← r6_eq] at h
    exact kbody_sound (c := c6) r6_body (Eq.mpr (r6_lk call fuel base) (And.intro trivial (And.intro trivial (And.intro trivial (And.intro trivial trivial))))) h
  · simp at h

noncomputable def r12_L0 (call : CallF) (fuel base : Nat) (kr : Value → M → Res2) (kx0 : Value → Value → Value → M → Res2) (n : Nat) : Value → Value → Value → Value → M → Res2 :=
  Nat.rec (motive := fun _ => Value → Value → Value → Value → M → Res2) (fun _ _ _ _ _ => none)
    (fun _ ih x0 x1 x5 x9 m =>
      (k2 (vcall E.P base m .len [43] [x5]) fun v54_35 m => (k1 (mbin E .lss 3 x9 v54_35) fun v55_36 => (kb v55_36 (k1 (mindexAddr E.P 43 x5 x9) fun v60_37 => (k1 (mfieldAddr E.P 62 v60_37 2) fun v61_38 => (k1 (xload E.P m 3 v61_38) fun v62_39 => (k1 (mbin E .sub 3 x9 (.int .i64 1)) fun v65_40 => (k1 (mindexAddr E.P 43 x5 v65_40) fun v66_41 => (k1 (mfieldAddr E.P 62 v66_41 2) fun v67_42 => (k1 (xload E.P m 3 v67_42) fun v68_43 => (k1 (mbin E .gtr 3 v62_39 v68_43) fun v69_44 => (kb v69_44 (kr (.bool false) m) (k1 (mbin E .add 3 x9 (.int .i64 1)) fun v57_45 => (ih x0 x1 x5 v57_45 m))))))))))) (kx0 x0 x1 x5 m))))) n

noncomputable def r12_L2 (call : CallF) (fuel base : Nat) (kx2 : Value → Value → M → Res2) (n : Nat) : Value → Value → Value → M → Res2 :=
  Nat.rec (motive := fun _ => Value → Value → Value → M → Res2) (fun _ _ _ _ => none)
    (fun _ ih x5 x10 x11 m =>
      (k1 (mbin E .neq 3 x11 (.int .i64 0)) fun v73_50 => (kb v73_50 (k1 (mbin E .rem 3 x10 x11) fun v77_51 => (ih x5 x11 v77_51 m)) (kx2 x5 x10 m)))) n

noncomputable def r12 (call : CallF) (fuel base : Nat) (x0 : Value) (x1 : Value) (m : M) : Res2 :=
  (kc (call base 33 [x0, x1] m) (fun v15_1 m => (k1 (mextract 0 v15_1) fun v16_2 => (k1 (mextract 1 v15_1) fun v17_3 => (k1 (mbin E .neq 25 v17_3 (.int .i64 0)) fun v19_4 => (kb v19_4 (k1 (mbin E .eql 25 v17_3 (.int .i64 2)) fun v21_5 => (kb v21_5 (k0 (mpick (.bool true) (.bool true) undef) fun v25_6 => (kb v25_6 (k2 (vcall E.P base m .len [43] [v16_2]) fun v28_7 m => (k1 (mbin E .eql 3 v28_7 (.int .i64 0)) fun v29_8 => (k0 (mpick (.bool true) v29_8 (.bool false)) fun v30_9 => (kb v30_9 (kc (call base 15 [] m) (fun v32_10 m => (k0 (mpick (.bool true) v32_10 (.bool false)) fun v33_11 => (fVal v33_11 fun v => some (.ret v, m)))) (fun v m => some (.pan v, m))) (k0 (mpick (.bool false) undef (.bool false)) fun v33_12 => (fVal v33_12 fun v => some (.ret v, m))))))) (k0 (mpick (.bool false) undef (.bool false)) fun v30_13 => (kb v30_13 (kc (call base 15 [] m) (fun v32_14 m => (k0 (mpick (.bool true) v32_14 (.bool false)) fun v33_15 => (fVal v33_15 fun v => some (.ret v, m)))) (fun v m => some (.pan v, m))) (k0 (mpick (.bool false) undef (.bool false)) fun v33_16 => (fVal v33_16 fun v => some (.ret v, m))))))) (k1 (mbin E .eql 25 v17_3 (.int .i64 8)) fun v24_17 => (k0 (mpick (.bool false) (.bool true) v24_17) fun v25_18 => (kb v25_18 (k2 (vcall E.P base m .len [43] [v16_2]) fun v28_19 m => (k1 (mbin E .eql 3 v28_19 (.int .i64 0)) fun v29_20 => (k0 (mpick (.bool true) v29_20 (.bool false)) fun v30_21 => (kb v30_21 (kc (call base 15 [] m) (fun v32_22 m => (k0 (mpick (.bool true) v32_22 (.bool false)) fun v33_23 => (fVal v33_23 fun v => some (.ret v, m)))) (fun v m => some (.pan v, m))) (k0 (mpick (.bool false) undef (.bool false)) fun v33_24 => (fVal v33_24 fun v => some (.ret v, m))))))) (k0 (mpick (.bool false) undef (.bool false)) fun v30_25 => (kb v30_25 (kc (call base 15 [] m) (fun v32_26 m => (k0 (mpick (.bool true) v32_26 (.bool false)) fun v33_27 => (fVal v33_27 fun v => some (.ret v, m)))) (fun v m => some (.pan v, m))) (k0 (mpick (.bool false) undef (.bool false)) fun v33_28 => (fVal v33_28 fun v => some (.ret v, m)))))))))) (kc (call base 28 [x0, x1, v16_2] m) (fun v38_29 m => (k1 (mextract 0 v38_29) fun v39_30 => (k1 (mextract 1 v38_29) fun v40_31 => (k1 (mbin E .neq 25 v40_31 (.int .i64 0)) fun v42_32 => (kb v42_32 (k0 (mpick (.bool true) (.bool true) undef) fun v46_33 => (kb v46_33 (k0 (mpick (.bool true) (.bool true) undef) fun v51_34 => (kb v51_34 (fVal (.bool false) fun v => some (.ret v, m)) (r12_L0 call fuel base (fun y4_46 m => (fVal y4_46 fun v => some (.ret v, m))) (fun y0_47 y1_48 y5_49 m => (r12_L2 call fuel base (fun y5_52 y10_53 m => (k2 (vcall E.P base m .len [43] [y5_52]) fun v80_54 m => (k1 (mbin E .sub 3 v80_54 (.int .i64 1)) fun v81_55 => (k1 (mindexAddr E.P 43 y5_52 v81_55) fun v82_56 => (k1 (mfieldAddr E.P 62 v82_56 2) fun v83_57 => (k1 (xload E.P m 3 v83_57) fun v84_58 => (k1 (mbin E .eql 3 v84_58 y10_53) fun v86_59 => (kb v86_59 (kc (call base 15 [] m) (fun v88_60 m => (k0 (mpick (.bool true) v88_60 (.bool false)) fun v89_61 => (fVal v89_61 fun v => some (.ret v, m)))) (fun v m => some (.pan v, m))) (k0 (mpick (.bool false) undef (.bool false)) fun v89_62 => (fVal v89_62 fun v => some (.ret v, m))))))))))) fuel y5_49 y0_47 y1_48 m)) fuel x0 x1 v16_2 (.int .i64 1) m))) (k2 (vcall E.P base m .len [43] [v16_2]) fun v49_63 m => (k1 (mbin E .eql 3 v49_63 (.int .i64 0)) fun v50_64 => (k0 (mpick (.bool false) (.bool true) v50_64) fun v51_65 => (kb v51_65 (fVal (.bool false) fun v => some (.ret v, m)) (r12_L0 call fuel base (fun y4_66 m => (fVal y4_66 fun v => some (.ret v, m))) (fun y0_67 y1_68 y5_69 m => (r12_L2 call fuel base (fun y5_70 y10_71 m => (k2 (vcall E.P base m .len [43] [y5_70]) fun v80_72 m => (k1 (mbin E .sub 3 v80_72 (.int .i64 1)) fun v81_73 => (k1 (mindexAddr E.P 43 y5_70 v81_73) fun v82_74 => (k1 (mfieldAddr E.P 62 v82_74 2) fun v83_75 => (k1 (xload E.P m 3 v83_75) fun v84_76 => (k1 (mbin E .eql 3 v84_76 y10_71) fun v86_77 => (kb v86_77 (kc (call base 15 [] m) (fun v88_78 m => (k0 (mpick (.bool true) v88_78 (.bool false)) fun v89_79 => (fVal v89_79 fun v => some (.ret v, m)))) (fun v m => some (.pan v, m))) (k0 (mpick (.bool false) undef (.bool false)) fun v89_80 => (fVal v89_80 fun v => some (.ret v, m))))))))))) fuel y5_69 y0_67 y1_68 m)) fuel x0 x1 v16_2 (.int .i64 1) m))))))) (k1 (mun .not v39_30) fun v45_81 => (k0 (mpick (.bool false) (.bool true) v45_81) fun v46_82 => (kb v46_82 (k0 (mpick (.bool true) (.bool true) undef) fun v51_83 => (kb v51_83 (fVal (.bool false) fun v => some (.ret v, m)) (r12_L0 call fuel base (fun y4_84 m => (fVal y4_84 fun v => some (.ret v, m))) (fun y0_85 y1_86 y5_87 m => (r12_L2 call fuel base (fun y5_88 y10_89 m => (k2 (vcall E.P base m .len [43] [y5_88]) fun v80_90 m => (k1 (mbin E .sub 3 v80_90 (.int .i64 1)) fun v81_91 => (k1 (mindexAddr E.P 43 y5_88 v81_91) fun v82_92 => (k1 (mfieldAddr E.P 62 v82_92 2) fun v83_93 => (k1 (xload E.P m 3 v83_93) fun v84_94 => (k1 (mbin E .eql 3 v84_94 y10_89) fun v86_95 => (kb v86_95 (kc (call base 15 [] m) (fun v88_96 m => (k0 (mpick (.bool true) v88_96 (.bool false)) fun v89_97 => (fVal v89_97 fun v => some (.ret v, m)))) (fun v m => some (.pan v, m))) (k0 (mpick (.bool false) undef (.bool false)) fun v89_98 => (fVal v89_98 fun v => some (.ret v, m))))))))))) fuel y5_87 y0_85 y1_86 m)) fuel x0 x1 v16_2 (.int .i64 1) m))) (k2 (vcall E.P base m .len [43] [v16_2]) fun v49_99 m => (k1 (mbin E .eql 3 v49_99 (.int .i64 0)) fun v50_100 => (k0 (mpick (.bool false) (.bool true) v50_100) fun v51_101 => (kb v51_101 (fVal (.bool false) fun v => some (.ret v, m)) (r12_L0 call fuel base (fun y4_102 m => (fVal y4_102 fun v => some (.ret v, m))) (fun y0_103 y1_104 y5_105 m => (r12_L2 call fuel base (fun y5_106 y10_107 m => (k2 (vcall E.P base m .len [43] [y5_106]) fun v80_108 m => (k1 (mbin E .sub 3 v80_108 (.int .i64 1)) fun v81_109 => (k1 (mindexAddr E.P 43 y5_106 v81_109) fun v82_110 => (k1 (mfieldAddr E.P 62 v82_110 2) fun v83_111 => (k1 (xload E.P m 3 v83_111) fun v84_112 => (k1 (mbin E .eql 3 v84_112 y10_107) fun v86_113 => (kb v86_113 (kc (call base 15 [] m) (fun v88_114 m => (k0 (mpick (.bool true) v88_114 (.bool false)) fun v89_115 => (fVal v89_115 fun v => some (.ret v, m)))) (fun v m => some (.pan v, m))) (k0 (mpick (.bool false) undef (.bool false)) fun v89_116 => (fVal v89_116 fun v => some (.ret v, m))))))))))) fuel y5_105 y0_103 y1_104 m)) fuel x0 x1 v16_2 (.int .i64 1) m))))))))))))) (fun v m => some (.pan v, m)))))))) (fun v m => some (.pan v, m)))

def keep12 : Keep := { region := fun i => ([[0, 1], [0, 1, 5, 6], [0, 1, 5, 6, 19], [4], [0, 1, 5, 7, 8], [0, 1, 5, 51], [4], [0, 1, 5, 9], [0, 1, 5, 9, 55], [0, 1, 5, 9], [0, 1, 5, 9, 69], [4], [5, 10, 11], [5, 10, 11, 73], [5, 10, 11], [4]] : List (List Nat))[i]?, exit := fun i => ([[0, 1, 5], [0, 1, 5, 9], [5, 10], [5, 10, 11]] : List (List Nat))[i]?, ret := some [4] }

noncomputable def r12_L0_R (call : CallF) (fuel base n : Nat) (vs : List Value) (m : M) (K : KT) : Res2 := match vs with
  | [x0, x1, x5, x9] => r12_L0 call fuel base (fun y4 m => K .ret { n := 90, l := [(4, y4)] } m) (fun y0 y1 y5 m => K (.exit 0) { n := 90, l := [(0, y0), (1, y1), (5, y5)] } m) n x0 x1 x5 x9 m
  | _ => none

noncomputable def r12_L2_R (call : CallF) (fuel base n : Nat) (vs : List Value) (m : M) (K : KT) : Res2 := match vs with
  | [x5, x10, x11] => r12_L2 call fuel base (fun y5 y10 m => K (.exit 2) { n := 90, l := [(5, y5), (10, y10)] } m) n x5 x10 x11 m
  | _ => none

noncomputable def lp12 (call : CallF) (fuel base : Nat) : Lp := lpsel [(0, fun T m K => kslots 90 [0, 1, 5, 9] T fun vs => r12_L0_R call fuel base fuel vs m K), (2, fun T m K => kslots 90 [5, 10, 11] T fun vs => r12_L2_R call fuel base fuel vs m K)]

noncomputable def c12 : Code := Try.f12.body.getD .skip

theorem r12_L0_lk (call : CallF) (fuel base : Nat) : LoopsOk E call (lp12 call fuel base) fuel base 0 (loopB (blockB (seqR (seqL (seqR (seqR (seqR (seqR (seqR c12))))))))) = (And (And True (And True True)) (And (And True (And (And True True) True)) True)) := by kernel_rfl

theorem r12_L0_ok (call : CallF) (fuel base : Nat) : LpOk E call (lp12 call fuel base) fuel base 0 (loopB (blockB (seqR (seqL (seqR (seqR (seqR (seqR (seqR c12))))))))) := by
  refine loop_ok (kp := keep12) (hb := Eq.mpr (r12_L0_lk call fuel base) (And.intro (And.intro trivial (And.intro trivial trivial)) (And.intro (And.intro trivial (And.intro (And.intro trivial trivial) trivial)) trivial))) 90 [0, 1, 5, 9] (fun n vs m K => r12_L0_R call fuel base n vs m K) ?_ ?_ (fun _ _ _ => rfl)
  · intro vs m K
    unfold r12_L0_R
    split <;> rfl
  · intro n vs m K hl
    match vs, hl with
    | [x0, x1, x5, x9], _ => show _ = _; kernel_rfl

theorem r12_L2_lk (call : CallF) (fuel base : Nat) : LoopsOk E call (lp12 call fuel base) fuel base 2 (loopB (blockB (seqL (seqR (seqR (seqR (seqR (seqR (seqR (seqR c12)))))))))) = (And (And True (And True True)) True) := by kernel_rfl

theorem r12_L2_ok (call : CallF) (fuel base : Nat) : LpOk E call (lp12 call fuel base) fuel base 2 (loopB (blockB (seqL (seqR (seqR (seqR (seqR (seqR (seqR (seqR c12)))))))))) := by
  refine loop_ok (kp := keep12) (hb := Eq.mpr (r12_L2_lk call fuel base) (And.intro (And.intro trivial (And.intro trivial trivial)) trivial)) 90 [5, 10, 11] (fun n vs m K => r12_L2_R call fuel base n vs m K) ?_ ?_ (fun _ _ _ => rfl)
  · intro vs m K
    unfold r12_L2_R
    split <;> rfl
  · intro n vs m K hl
    match vs, hl with
    | [x5, x10, x11], _ => show _ = _; kernel_rfl

theorem r12_eq (call : CallF) (fuel base : Nat) (x0 : Value) (x1 : Value) (m : M) : kbody E call keep12 (lp12 call fuel base) base Try.f12 [x0, x1] m = r12 call fuel base x0 x1 m := by
  kernel_rfl

noncomputable def rf12 : RF := fun call fuel base args m => match args with
  | [x0, x1] => r12 call fuel base x0 x1 m
  | _ => none

theorem r12_lk (call : CallF) (fuel base : Nat) : LoopsOk E call (lp12 call fuel base) fuel base 0 c12 = (And True (And True (And (And True (And (And True True) True)) (And True (And (And True (And (And True True) True)) (And (And True (LpOk E call (lp12 call fuel base) fuel base 0 (loopB (blockB (seqR (seqL (seqR (seqR (seqR (seqR (seqR c12))))))))))) (And True (And (LpOk E call (lp12 call fuel base) fuel base 2 (loopB (blockB (seqL (seqR (seqR (seqR (seqR (seqR (seqR (seqR c12))))))))))) (And True True))))))))) := by kernel_rfl

theorem r12_fn : E.P.funcs[12]? = some Try.f12 := by kernel_rfl
theorem r12_body : Try.f12.body = some c12 := by kernel_rfl

theorem rf12_ok : RFok E 12 rf12 := by
  refine ⟨Try.f12, r12_fn, fun call fuel base args m r _ h => ?_⟩
  unfold rf12 at h
  split at h
  · rw [← r12_eq] at h
    exact kbody_sound (c := c12) r12_body (Eq.mpr (r12_lk call fuel base) (And.intro trivial (And.intro trivial (And.intro (And.intro trivial (And.intro (And.intro trivial trivial) trivial)) (And.intro trivial (And.intro (And.intro trivial (And.intro (And.intro trivial trivial) trivial)) (And.intro (And.intro trivial (r12_L0_ok call fuel base)) (And.intro trivial (And.intro (r12_L2_ok call fuel base) (And.intro trivial trivial)))))))))) h
  · simp at h


noncomputable def r15 (call : CallF) (fuel base : Nat) (m : M) : Res2 :=
  (k1 (mbuild E.P 59 [(0, (.int .i64 0)), (1, (.int .i64 1))]) fun v9_1 => (k1 (mbuild E.P 59 [(0, (.int .i64 1)), (1, (.int .i64 2))]) fun v10_2 => (k1 (mbuild E.P 59 [(0, (.int .i64 2)), (1, (.int .i64 0))]) fun v11_3 => (k2 (xbuildSlice E.P m 22 3 [(0, v9_1), (1, v10_2), (2, v11_3)]) fun v12_4 m => (kc (call base 16 [(.int .i64 3), v12_4] m) (fun v15_5 m => (k1 (mextract 0 v15_5) fun v16_6 => (k1 (mextract 1 v15_5) fun v17_7 => (kc (call base 20 [(.int .i64 3), v12_4, (.int .i64 0), (.int .i64 1)] m) (fun v20_8 m => (k1 (mextract 0 v20_8) fun v21_9 => (k1 (mextract 1 v20_8) fun v22_10 => (k2 (xalloc E.P m 31) fun v4_11 m => (ks (xstore E.P base m 31 v4_11 v21_9) fun m => (kc (call base 41 [] m) (fun v24_12 m => (kc (call base 30 [(.int .i64 33), (.int .i64 32), v24_12] m) (fun v25_13 m => (k1 (mextract 0 v25_13) fun v26_14 => (k1 (mextract 1 v25_13) fun v27_15 => (k1 (mextract 2 v25_13) fun v28_16 => (k1 (mbin E .eql 25 v17_7 (.int .i64 0)) fun v30_17 => (kb v30_17 (k1 (mbin E .eql 3 v16_6 (.int .i64 3)) fun v33_18 => (k0 (mpick (.bool true) v33_18 (.bool false)) fun v34_19 => (kb v34_19 (k1 (mbin E .eql 25 v22_10 (.int .i64 0)) fun v37_20 => (k0 (mpick (.bool true) v37_20 (.bool false)) fun v38_21 => (kb v38_21 (k1 (mfieldAddr E.P 31 v4_11 0) fun v40_22 => (k1 (xload E.P m 29 v40_22) fun v41_23 => (k2 (xbuildSlice E.P m 29 3 [(0, (.int .i64 2)), (1, (.int .i64 (-1))), (2, (.int .i64 (-1)))]) fun v42_24 m => (kc (call base 22 [v41_23, v42_24] m) (fun v43_25 m => (k0 (mpick (.bool true) v43_25 (.bool false)) fun v44_26 => (kb v44_26 (k1 (mfieldAddr E.P 31 v4_11 2) fun v46_27 => (k1 (xload E.P m 3 v46_27) fun v47_28 => (k1 (mbin E .eql 3 v47_28 (.int .i64 2)) fun v48_29 => (k0 (mpick (.bool true) v48_29 (.bool false)) fun v49_30 => (kb v49_30 (k1 (mbin E .eql 25 v28_16 (.int .i64 0)) fun v52_31 => (k0 (mpick (.bool true) v52_31 (.bool false)) fun v53_32 => (kb v53_32 (k1 (mbin E .eql 3 v26_14 (.int .i64 6)) fun v56_33 => (k0 (mpick (.bool true) v56_33 (.bool false)) fun v57_34 => (kb v57_34 (k2 (vcall E.P base m .len [22] [v27_15]) fun v60_35 m => (k1 (mbin E .eql 3 v60_35 (.int .i64 9)) fun v61_36 => (k0 (mpick (.bool true) v61_36 (.bool false)) fun v62_37 => (fVal v62_37 fun v => some (.ret v, m))))) (k0 (mpick (.bool false) undef (.bool false)) fun v62_38 => (fVal v62_38 fun v => some (.ret v, m)))))) (k0 (mpick (.bool false) undef (.bool false)) fun v57_39 => (kb v57_39 (k2 (vcall E.P base m .len [22] [v27_15]) fun v60_40 m => (k1 (mbin E .eql 3 v60_40 (.int .i64 9)) fun v61_41 => (k0 (mpick (.bool true) v61_41 (.bool false)) fun v62_42 => (fVal v62_42 fun v => some (.ret v, m))))) (k0 (mpick (.bool false) undef (.bool false)) fun v62_43 => (fVal v62_43 fun v => some (.ret v, m)))))))) (k0 (mpick (.bool false) undef (.bool false)) fun v53_44 => (kb v53_44 (k1 (mbin E .eql 3 v26_14 (.int .i64 6)) fun v56_45 => (k0 (mpick (.bool true) v56_45 (.bool false)) fun v57_46 => (kb v57_46 (k2 (vcall E.P base m .len [22] [v27_15]) fun v60_47 m => (k1 (mbin E .eql 3 v60_47 (.int .i64 9)) fun v61_48 => (k0 (mpick (.bool true) v61_48 (.bool false)) fun v62_49 => (fVal v62_49 fun v => some (.ret v, m))))) (k0 (mpick (.bool false) undef (.bool false)) fun v62_50 => (fVal v62_50 fun v => some (.ret v, m)))))) (k0 (mpick (.bool false) undef (.bool false)) fun v57_51 => (kb v57_51 (k2 (vcall E.P base m .len [22] [v27_15]) fun v60_52 m => (k1 (mbin E .eql 3 v60_52 (.int .i64 9)) fun v61_53 => (k0 (mpick (.bool true) v61_53 (.bool false)) fun v62_54 => (fVal v62_54 fun v => some (.ret v, m))))) (k0 (mpick (.bool false) undef (.bool false)) fun v62_55 => (fVal v62_55 fun v => some (.ret v, m)))))))))))) (k0 (mpick (.bool false) undef (.bool false)) fun v49_56 => (kb v49_56 (k1 (mbin E .eql 25 v28_16 (.int .i64 0)) fun v52_57 => (k0 (mpick (.bool true) v52_57 (.bool false)) fun v53_58 => (kb v53_58 (k1 (mbin E .eql 3 v26_14 (.int .i64 6)) fun v56_59 => (k0 (mpick (.bool true) v56_59 (.bool false)) fun v57_60 => (kb v57_60 (k2 (vcall E.P base m .len [22] [v27_15]) fun v60_61 m => (k1 (mbin E .eql 3 v60_61 (.int .i64 9)) fun v61_62 => (k0 (mpick (.bool true) v61_62 (.bool false)) fun v62_63 => (fVal v62_63 fun v => some (.ret v, m))))) (k0 (mpick (.bool false) undef (.bool false)) fun v62_64 => (fVal v62_64 fun v => some (.ret v, m)))))) (k0 (mpick (.bool false) undef (.bool false)) fun v57_65 => (kb v57_65 (k2 (vcall E.P base m .len [22] [v27_15]) fun v60_66 m => (k1 (mbin E .eql 3 v60_66 (.int .i64 9)) fun v61_67 => (k0 (mpick (.bool true) v61_67 (.bool false)) fun v62_68 => (fVal v62_68 fun v => some (.ret v, m))))) (k0 (mpick (.bool false) undef (.bool false)) fun v62_69 => (fVal v62_69 fun v => some (.ret v, m)))))))) (k0 (mpick (.bool false) undef (.bool false)) fun v53_70 => (kb v53_70 (k1 (mbin E .eql 3 v26_14 (.int .i64 6)) fun v56_71 => (k0 (mpick (.bool true) v56_71 (.bool false)) fun v57_72 => (kb v57_72 (k2 (vcall E.P base m .len [22] [v27_15]) fun v60_73 m => (k1 (mbin E .eql 3 v60_73 (.int .i64 9)) fun v61_74 => (k0 (mpick (.bool true) v61_74 (.bool false)) fun v62_75 => (fVal v62_75 fun v => some (.ret v, m))))) (k0 (mpick (.bool false) undef (.bool false)) fun v62_76 => (fVal v62_76 fun v => some (.ret v, m)))))) (k0 (mpick (.bool false) undef (.bool false)) fun v57_77 => (kb v57_77 (k2 (vcall E.P base m .len [22] [v27_15]) fun v60_78 m => (k1 (mbin E .eql 3 v60_78 (.int .i64 9)) fun v61_79 => (k0 (mpick (.bool true) v61_79 (.bool false)) fun v62_80 => (fVal v62_80 fun v => some (.ret v, m))))) (k0 (mpick (.bool false) undef (.bool false)) fun v62_81 => (fVal v62_81 fun v => some (.ret v, m)))))))))))) (fun v m => some (.pan v, m)))))) (k0 (mpick (.bool false) undef (.bool false)) fun v44_82 => (kb v44_82 (k1 (mfieldAddr E.P 31 v4_11 2) fun v46_83 => (k1 (xload E.P m 3 v46_83) fun v47_84 => (k1 (mbin E .eql 3 v47_84 (.int .i64 2)) fun v48_85 => (k0 (mpick (.bool true) v48_85 (.bool false)) fun v49_86 => (kb v49_86 (k1 (mbin E .eql 25 v28_16 (.int .i64 0)) fun v52_87 => (k0 (mpick (.bool true) v52_87 (.bool false)) fun v53_88 => (kb v53_88 (k1 (mbin E .eql 3 v26_14 (.int .i64 6)) fun v56_89 => (k0 (mpick (.bool true) v56_89 (.bool false)) fun v57_90 => (kb v57_90 (k2 (vcall E.P base m .len [22] [v27_15]) fun v60_91 m => (k1 (mbin E .eql 3 v60_91 (.int .i64 9)) fun v61_92 => (k0 (mpick (.bool true) v61_92 (.bool false)) fun v62_93 => (fVal v62_93 fun v => some (.ret v, m))))) (k0 (mpick (.bool false) undef (.bool false)) fun v62_94 => (fVal v62_94 fun v => some (.ret v, m)))))) (k0 (mpick (.bool false) undef (.bool false)) fun v57_95 => (kb v57_95 (k2 (vcall E.P base m .len [22] [v27_15]) fun v60_96 m => (k1 (mbin E .eql 3 v60_96 (.int .i64 9)) fun v61_97 => (k0 (mpick (.bool true) v61_97 (.bool false)) fun v62_98 => (fVal v62_98 fun v => some (.ret v, m))))) (k0 (mpick (.bool false) undef (.bool false)) fun v62_99 => (fVal v62_99 fun v => some (.ret v, m)))))))) (k0 (mpick (.bool false) undef (.bool false)) fun v53_100 => (kb v53_100 (k1 (mbin E .eql 3 v26_14 (.int .i64 6)) fun v56_101 => (k0 (mpick (.bool true) v56_101 (.bool false)) fun v57_102 => (kb v57_102 (k2 (vcall E.P base m .len [22] [v27_15]) fun v60_103 m => (k1 (mbin E .eql 3 v60_103 (.int .i64 9)) fun v61_104 => (k0 (mpick (.bool true) v61_104 (.bool false)) fun v62_105 => (fVal v62_105 fun v => some (.ret v, m))))) (k0 (mpick (.bool false) undef (.bool false)) fun v62_106 => (fVal v62_106 fun v => some (.ret v, m)))))) (k0 (mpick (.bool false) undef (.bool false)) fun v57_107 => (kb v57_107 (k2 (vcall E.P base m .len [22] [v27_15]) fun v60_108 m => (k1 (mbin E .eql 3 v60_108 (.int .i64 9)) fun v61_109 => (k0 (mpick (.bool true) v61_109 (.bool false)) fun v62_110 => (fVal v62_110 fun v => some (.ret v, m))))) (k0 (mpick (.bool false) undef (.bool false)) fun v62_111 => (fVal v62_111 fun v => some (.ret v, m)))))))))))) (k0 (mpick (.bool false) undef (.bool false)) fun v49_112 => (kb v49_112 (k1 (mbin E .eql 25 v28_16 (.int .i64 0)) fun v52_113 => (k0 (mpick (.bool true) v52_113 (.bool false)) fun v53_114 => (kb v53_114 (k1 (mbin E .eql 3 v26_14 (.int .i64 6)) fun v56_115 => (k0 (mpick (.bool true) v56_115 (.bool false)) fun v57_116 => (kb v57_116 (k2 (vcall E.P base m .len [22] [v27_15]) fun v60_117 m => (k1 (mbin E .eql 3 v60_117 (.int .i64 9)) fun v61_118 => (k0 (mpick (.bool true) v61_118 (.bool false)) fun v62_119 => (fVal v62_119 fun v => some (.ret v, m))))) (k0 (mpick (.bool false) undef (.bool false)) fun v62_120 => (fVal v62_120 fun v => some (.ret v, m)))))) (k0 (mpick (.bool false) undef (.bool false)) fun v57_121 => (kb v57_121 (k2 (vcall E.P base m .len [22] [v27_15]) fun v60_122 m => (k1 (mbin E .eql 3 v60_122 (.int .i64 9)) fun v61_123 => (k0 (mpick (.bool true) v61_123 (.bool false)) fun v62_124 => (fVal v62_124 fun v => some (.ret v, m))))) (k0 (mpick (.bool false) undef (.bool false)) fun v62_125 => (fVal v62_125 fun v => some (.ret v, m)))))))) (k0 (mpick (.bool false) undef (.bool false)) fun v53_126 => (kb v53_126 (k1 (mbin E .eql 3 v26_14 (.int .i64 6)) fun v56_127 => (k0 (mpick (.bool true) v56_127 (.bool false)) fun v57_128 => (kb v57_128 (k2 (vcall E.P base m .len [22] [v27_15]) fun v60_129 m => (k1 (mbin E .eql 3 v60_129 (.int .i64 9)) fun v61_130 => (k0 (mpick (.bool true) v61_130 (.bool false)) fun v62_131 => (fVal v62_131 fun v => some (.ret v, m))))) (k0 (mpick (.bool false) undef (.bool false)) fun v62_132 => (fVal v62_132 fun v => some (.ret v, m)))))) (k0 (mpick (.bool false) undef (.bool false)) fun v57_133 => (kb v57_133 (k2 (vcall E.P base m .len [22] [v27_15]) fun v60_134 m => (k1 (mbin E .eql 3 v60_134 (.int .i64 9)) fun v61_135 => (k0 (mpick (.bool true) v61_135 (.bool false)) fun v62_136 => (fVal v62_136 fun v => some (.ret v, m))))) (k0 (mpick (.bool false) undef (.bool false)) fun v62_137 => (fVal v62_137 fun v => some (.ret v, m)))))))))))))) (k0 (mpick (.bool false) undef (.bool false)) fun v38_138 => (kb v38_138 (k1 (mfieldAddr E.P 31 v4_11 0) fun v40_139 => (k1 (xload E.P m 29 v40_139) fun v41_140 => (k2 (xbuildSlice E.P m 29 3 [(0, (.int .i64 2)), (1, (.int .i64 (-1))), (2, (.int .i64 (-1)))]) fun v42_141 m => (kc (call base 22 [v41_140, v42_141] m) (fun v43_142 m => (k0 (mpick (.bool true) v43_142 (.bool false)) fun v44_143 => (kb v44_143 (k1 (mfieldAddr E.P 31 v4_11 2) fun v46_144 => (k1 (xload E.P m 3 v46_144) fun v47_145 => (k1 (mbin E .eql 3 v47_145 (.int .i64 2)) fun v48_146 => (k0 (mpick (.bool true) v48_146 (.bool false)) fun v49_147 => (kb v49_147 (k1 (mbin E .eql 25 v28_16 (.int .i64 0)) fun v52_148 => (k0 (mpick (.bool true) v52_148 (.bool false)) fun v53_149 => (kb v53_149 (k1 (mbin E .eql 3 v26_14 (.int .i64 6)) fun v56_150 => (k0 (mpick (.bool true) v56_150 (.bool false)) fun v57_151 => (kb v57_151 (k2 (vcall E.P base m .len [22] [v27_15]) fun v60_152 m => (k1 (mbin E .eql 3 v60_152 (.int .i64 9)) fun v61_153 => (k0 (mpick (.bool true) v61_153 (.bool false)) fun v62_154 => (fVal v62_154 fun v => some (.ret v, m))))) (k0 (mpick (.bool false) undef (.bool false)) fun v62_155 => (fVal v62_155 fun v => some (.ret v, m)))))) (k0 (mpick (.bool false) undef (.bool false)) fun v57_156 => (kb v57_156 (k2 (vcall E.P base m .len [22] [v27_15]) fun v60_157 m => (k1 (mbin E .eql 3 v60_157 (.int .i64 9)) fun v61_158 => (k0 (mpick (.bool true) v61_158 (.bool false)) fun v62_159 => (fVal v62_159 fun v => some (.ret v, m))))) (k0 (mpick (.bool false) undef (.bool false)) fun v62_160 => (fVal v62_160 fun v => some (.ret v, m)))))))) (k0 (mpick (.bool false) undef (.bool false)) fun v53_161 => (kb v53_161 (k1 (mbin E .eql 3 v26_14 (.int .i64 6)) fun v56_162 => (k0 (mpick (.bool true) v56_162 (.bool false)) fun v57_163 => (kb v57_163 (k2 (vcall E.P base m .len [22] [v27_15]) fun v60_164 m => (k1 (mbin E .eql 3 v60_164 (.int .i64 9)) fun v61_165 => (k0 (mpick (.bool true) v61_165 (.bool false)) fun v62_166 => (fVal v62_166 fun v => some (.ret v, m))))) (k0 (mpick (.bool false) undef (.bool false)) fun v62_167 => (fVal v62_167 fun v => some (.ret v, m)))))) (k0 (mpick (.bool false) undef (.bool false)) fun v57_168 => (kb v57_168 (k2 (vcall E.P base m .len [22] [v27_15]) fun v60_169 m => (k1 (mbin E .eql 3 v60_169 (.int .i64 9)) fun v61_170 => (k0 (mpick (.bool true) v61_170 (.bool false)) fun v62_171 => (fVal v62_171 fun v => some (.ret v, m))))) (k0 (mpick (.bool false) undef (.bool false)) fun v62_172 => (fVal v62_172 fun v => some (.ret v, m)))))))))))) (k0 (mpick (.bool false) undef (.bool false)) fun v49_173 => (kb v49_173 (k1 (mbin E .eql 25 v28_16 (.int .i64 0)) fun v52_174 => (k0 (mpick (.bool true) v52_174 (.bool false)) fun v53_175 => (kb v53_175 (k1 (mbin E .eql 3 v26_14 (.int .i64 6)) fun v56_176 => (k0 (mpick (.bool true) v56_176 (.bool false)) fun v57_177 => (kb v57_177 (k2 (vcall E.P base m .len [22] [v27_15]) fun v60_178 m => (k1 (mbin E .eql 3 v60_178 (.int .i64 9)) fun v61_179 => (k0 (mpick (.bool true) v61_179 (.bool false)) fun v62_180 => (fVal v62_180 fun v => some (.ret v, m))))) (k0 (mpick (.bool false) undef (.bool false)) fun v62_181 => (fVal v62_181 fun v => some (.ret v, m)))))) (k0 (mpick (.bool false) undef (.bool false)) fun v57_182 => (kb v57_182 (k2 (vcall E.P base m .len [22] [v27_15]) fun v60_183 m => (k1 (mbin E .eql 3 v60_183 (.int .i64 9)) fun v61_184 => (k0 (mpick (.bool true) v61_184 (.bool false)) fun v62_185 => (fVal v62_185 fun v => some (.ret v, m))))) (k0 (mpick (.bool false) undef (.bool false)) fun v62_186 => (fVal v62_186 fun v => some (.ret v, m)))))))) (k0 (mpick (.bool false) undef (.bool false)) fun v53_187 => (kb v53_187 (k1 (mbin E .eql 3 v26_14 (.int .i64 6)) fun v56_188 => (k0 (mpick (.bool true) v56_188 (.bool false)) fun v57_189 => (kb v57_189 (k2 (vcall E.P base m .len [22] [v27_15]) fun v60_190 m => (k1 (mbin E .eql 3 v60_190 (.int .i64 9)) fun v61_191 => (k0 (mpick (.bool true) v61_191 (.bool false)) fun v62_192 => (fVal v62_192 fun v => some (.ret v, m))))) (k0 (mpick (.bool false) undef (.bool false)) fun v62_193 => (fVal v62_193 fun v => some (.ret v, m)))))) (k0 (mpick (.bool false) undef (.bool false)) fun v57_194 => (kb v57_194 (k2 (vcall E.P base m .len [22] [v27_15]) fun v60_195 m => (k1 (mbin E .eql 3 v60_195 (.int .i64 9)) fun v61_196 => (k0 (mpick (.bool true) v61_196 (.bool false)) fun v62_197 => (fVal v62_197 fun v => some (.ret v, m))))) (k0 (mpick (.bool false) undef (.bool false)) fun v62_198 => (fVal v62_198 fun v => some (.ret v, m)))))))))))) (fun v m => some (.pan v, m)))))) (k0 (mpick (.bool false) undef (.bool false)) fun v44_199 => (kb v44_199 (k1 (mfieldAddr E.P 31 v4_11 2) fun v46_200 => (k1 (xload E.P m 3 v46_200) fun v47_201 => (k1 (mbin E .eql 3 v47_201 (.int .i64 2)) fun v48_202 => (k0 (mpick (.bool true) v48_202 (.bool false)) fun v49_203 => (kb v49_203 (k1 (mbin E .eql 25 v28_16 (.int .i64 0)) fun v52_204 => (k0 (mpick (.bool true) v52_204 (.bool false)) fun v53_205 => (kb v53_205 (k1 (mbin E .eql 3 v26_14 (.int .i64 6)) fun v56_206 => (k0 (mpick (.bool true) v56_206 (.bool false)) fun v57_207 => (kb v57_207 (k2 (vcall E.P base m .len [22] [v27_15]) fun v60_208 m => (k1 (mbin E .eql 3 v60_208 (.int .i64 9)) fun v61_209 => (k0 (mpick (.bool true) v61_209 (.bool false)) fun v62_210 => (fVal v62_210 fun v => some (.ret v, m))))) (k0 (mpick (.bool false) undef (.bool false)) fun v62_211 => (fVal v62_211 fun v => some (.ret v, m)))))) (k0 (mpick (.bool false) undef (.bool false)) fun v57_212 => (kb v57_212 (k2 (vcall E.P base m .len [22] [v27_15]) fun v60_213 m => (k1 (mbin E .eql 3 v60_213 (.int .i64 9)) fun v61_214 => (k0 (mpick (.bool true) v61_214 (.bool false)) fun v62_215 => (fVal v62_215 fun v => some (.ret v, m))))) (k0 (mpick (.bool false) undef (.bool false)) fun v62_216 => (fVal v62_216 fun v => some (.ret v, m)))))))) (k0 (mpick (.bool false) undef (.bool false)) fun v53_217 => (kb v53_217 (k1 (mbin E .eql 3 v26_14 (.int .i64 6)) fun v56_218 => (k0 (mpick (.bool true) v56_218 (.bool false)) fun v57_219 => (kb v57_219 (k2 (vcall E.P base m .len [22] [v27_15]) fun v60_220 m => (k1 (mbin E .eql 3 v60_220 (.int .i64 9)) fun v61_221 => (k0 (mpick (.bool true) v61_221 (.bool false)) fun v62_222 => (fVal v62_222 fun v => some (.ret v, m))))) (k0 (mpick (.bool false) undef (.bool false)) fun v62_223 => (fVal v62_223 fun v => some (.ret v, m)))))) (k0 (mpick (.bool false) undef (.bool false)) fun v57_224 => (kb v57_224 (k2 (vcall E.P base m .len [22] [v27_15]) fun v60_225 m => (k1 (mbin E .eql 3 v60_225 (.int .i64 9)) fun v61_226 => (k0 (mpick (.bool true) v61_226 (.bool false)) fun v62_227 => (fVal v62_227 fun v => some (.ret v, m))))) (k0 (mpick (.bool false) undef (.bool false)) fun v62_228 => (fVal v62_228 fun v => some (.ret v, m)))))))))))) (k0 (mpick (.bool false) undef (.bool false)) fun v49_229 => (kb v49_229 (k1 (mbin E .eql 25 v28_16 (.int .i64 0)) fun v52_230 => (k0 (mpick (.bool true) v52_230 (.bool false)) fun v53_231 => (kb v53_231 (k1 (mbin E .eql 3 v26_14 (.int .i64 6)) fun v56_232 => (k0 (mpick (.bool true) v56_232 (.bool false)) fun v57_233 => (kb v57_233 (k2 (vcall E.P base m .len [22] [v27_15]) fun v60_234 m => (k1 (mbin E .eql 3 v60_234 (.int .i64 9)) fun v61_235 => (k0 (mpick (.bool true) v61_235 (.bool false)) fun v62_236 => (fVal v62_236 fun v => some (.ret v, m))))) (k0 (mpick (.bool false) undef (.bool false)) fun v62_237 => (fVal v62_237 fun v => some (.ret v, m)))))) (k0 (mpick (.bool false) undef (.bool false)) fun v57_238 => (kb v57_238 (k2 (vcall E.P base m .len [22] [v27_15]) fun v60_239 m => (k1 (mbin E .eql 3 v60_239 (.int .i64 9)) fun v61_240 => (k0 (mpick (.bool true) v61_240 (.bool false)) fun v62_241 => (fVal v62_241 fun v => some (.ret v, m))))) (k0 (mpick (.bool false) undef (.bool false)) fun v62_242 => (fVal v62_242 fun v => some (.ret v, m)))))))) (k0 (mpick (.bool false) undef (.bool false)) fun v53_243 => (kb v53_243 (k1 (mbin E .eql 3 v26_14 (.int .i64 6)) fun v56_244 => (k0 (mpick (.bool true) v56_244 (.bool false)) fun v57_245 => (kb v57_245 (k2 (vcall E.P base m .len [22] [v27_15]) fun v60_246 m => (k1 (mbin E .eql 3 v60_246 (.int .i64 9)) fun v61_247 => (k0 (mpick (.bool true) v61_247 (.bool false)) fun v62_248 => (fVal v62_248 fun v => some (.ret v, m))))) (k0 (mpick (.bool false) undef (.bool false)) fun v62_249 => (fVal v62_249 fun v => some (.ret v, m)))))) (k0 (mpick (.bool false) undef (.bool false)) fun v57_250 => (kb v57_250 (k2 (vcall E.P base m .len [22] [v27_15]) fun v60_251 m => (k1 (mbin E .eql 3 v60_251 (.int .i64 9)) fun v61_252 => (k0 (mpick (.bool true) v61_252 (.bool false)) fun v62_253 => (fVal v62_253 fun v => some (.ret v, m))))) (k0 (mpick (.bool false) undef (.bool false)) fun v62_254 => (fVal v62_254 fun v => some (.ret v, m)))))))))))))))) (k0 (mpick (.bool false) undef (.bool false)) fun v34_255 => (kb v34_255 (k1 (mbin E .eql 25 v22_10 (.int .i64 0)) fun v37_256 => (k0 (mpick (.bool true) v37_256 (.bool false)) fun v38_257 => (kb v38_257 (k1 (mfieldAddr E.P 31 v4_11 0) fun v40_258 => (k1 (xload E.P m 29 v40_258) fun v41_259 => (k2 (xbuildSlice E.P m 29 3 [(0, (.int .i64 2)), (1, (.int .i64 (-1))), (2, (.int .i64 (-1)))]) fun v42_260 m => (kc (call base 22 [v41_259, v42_260] m) (fun v43_261 m => (k0 (mpick (.bool true) v43_261 (.bool false)) fun v44_262 => (kb v44_262 (k1 (mfieldAddr E.P 31 v4_11 2) fun v46_263 => (k1 (xload E.P m 3 v46_263) fun v47_264 => (k1 (mbin E .eql 3 v47_264 (.int .i64 2)) fun v48_265 => (k0 (mpick (.bool true) v48_265 (.bool false)) fun v49_266 => (kb v49_266 (k1 (mbin E .eql 25 v28_16 (.int .i64 0)) fun v52_267 => (k0 (mpick (.bool true) v52_267 (.bool false)) fun v53_268 => (kb v53_268 (k1 (mbin E .eql 3 v26_14 (.int .i64 6)) fun v56_269 => (k0 (mpick (.bool true) v56_269 (.bool false)) fun v57_270 => (kb v57_270 (k2 (vcall E.P base m .len [22] [v27_15]) fun v60_271 m => (k1 (mbin E .eql 3 v60_271 (.int .i64 9)) fun v61_272 => (k0 (mpick (.bool true) v61_272 (.bool false)) fun v62_273 => (fVal v62_273 fun v => some (.ret v, m))))) (k0 (mpick (.bool false) undef (.bool false)) fun v62_274 => (fVal v62_274 fun v => some (.ret v, m)))))) (k0 (mpick (.bool false) undef (.bool false)) fun v57_275 => (kb v57_275 (k2 (vcall E.P base m .len [22] [v27_15]) fun v60_276 m => (k1 (mbin E .eql 3 v60_276 (.int .i64 9)) fun v61_277 => (k0 (mpick (.bool true) v61_277 (.bool false)) fun v62_278 => (fVal v62_278 fun v => some (.ret v, m))))) (k0 (mpick (.bool false) undef (.bool false)) fun v62_279 => (fVal v62_279 fun v => some (.ret v, m)))))))) (k0 (mpick (.bool false) undef (.bool false)) fun v53_280 => (kb v53_280 (k1 (mbin E .eql 3 v26_14 (.int .i64 6)) fun v56_281 => (k0 (mpick (.bool true) v56_281 (.bool false)) fun v57_282 => (kb v57_282 (k2 (vcall E.P base m .len [22] [v27_15]) fun v60_283 m => (k1 (mbin E .eql 3 v60_283 (.int .i64 9)) fun v61_284 => (k0 (mpick (.bool true) v61_284 (.bool false)) fun v62_285 => (fVal v62_285 fun v => some (.ret v, m))))) (k0 (mpick (.bool false) undef (.bool false)) fun v62_286 => (fVal v62_286 fun v => some (.ret v, m)))))) (k0 (mpick (.bool false) undef (.bool false)) fun v57_287 => (kb v57_287 (k2 (vcall E.P base m .len [22] [v27_15]) fun v60_288 m => (k1 (mbin E .eql 3 v60_288 (.int .i64 9)) fun v61_289 => (k0 (mpick (.bool true) v61_289 (.bool false)) fun v62_290 => (fVal v62_290 fun v => some (.ret v, m))))) (k0 (mpick (.bool false) undef (.bool false)) fun v62_291 => (fVal v62_291 fun v => some (.ret v, m)))))))))))) (k0 (mpick (.bool false) undef (.bool false)) fun v49_292 => (kb v49_292 (k1 (mbin E .eql 25 v28_16 (.int .i64 0)) fun v52_293 => (k0 (mpick (.bool true) v52_293 (.bool false)) fun v53_294 => (kb v53_294 (k1 (mbin E .eql 3 v26_14 (.int .i64 6)) fun v56_295 => (k0 (mpick (.bool true) v56_295 (.bool false)) fun v57_296 => (kb v57_296 (k2 (vcall E.P base m .len [22] [v27_15]) fun v60_297 m => (k1 (mbin E .eql 3 v60_297 (.int .i64 9)) fun v61_298 => (k0 (mpick (.bool true) v61_298 (.bool false)) fun v62_299 => (fVal v62_299 fun v => some (.ret v, m))))) (k0 (mpick (.bool false) undef (.bool false)) fun v62_300 => (fVal v62_300 fun v => some (.ret v, m)))))) (k0 (mpick (.bool false) undef (.bool false)) fun v57_301 => (kb v57_301 (k2 (vcall E.P base m .len [22] [v27_15]) fun v60_302 m => (k1 (mbin E .eql 3 v60_302 (.int .i64 9)) fun v61_303 => (k0 (mpick (.bool true) v61_303 (.bool false)) fun v62_304 => (fVal v62_304 fun v => some (.ret v, m))))) (k0 (mpick (.bool false) undef (.bool false)) fun v62_305 => (fVal v62_305 fun v => some (.ret v, m)))))))) (k0 (mpick (.bool false) undef (.bool false)) fun v53_306 => (kb v53_306 (k1 (mbin E .eql 3 v26_14 (.int .i64 6)) fun v56_307 => (k0 (mpick (.bool true) v56_307 (.bool false)) fun v57_308 => (kb v57_308 (k2 (vcall E.P base m .len [22] [v27_15]) fun v60_309 m => (k1 (mbin E .eql 3 v60_309 (.int .i64 9)) fun v61_310 => (k0 (mpick (.bool true) v61_310 (.bool false)) fun v62_311 => (fVal v62_311 fun v => some (.ret v, m))))) (k0 (mpick (.bool false) undef (.bool false)) fun v62_312 => (fVal v62_312 fun v => some (.ret v, m)))))) (k0 (mpick (.bool false) undef (.bool false)) fun v57_313 => (kb v57_313 (k2 (vcall E.P base m .len [22] [v27_15]) fun v60_314 m => (k1 (mbin E .eql 3 v60_314 (.int .i64 9)) fun v61_315 => (k0 (mpick (.bool true) v61_315 (.bool false)) fun v62_316 => (fVal v62_316 fun v => some (.ret v, m))))) (k0 (mpick (.bool false) undef (.bool false)) fun v62_317 => (fVal v62_317 fun v => some (.ret v, m)))))))))))) (fun v m => some (.pan v, m)))))) (k0 (mpick (.bool false) undef (.bool false)) fun v44_318 => (kb v44_318 (k1 (mfieldAddr E.P 31 v4_11 2) fun v46_319 => (k1 (xload E.P m 3 v46_319) fun v47_320 => (k1 (mbin E .eql 3 v47_320 (.int .i64 2)) fun v48_321 => (k0 (mpick (.bool true) v48_321 (.bool false)) fun v49_322 => (kb v49_322 (k1 (mbin E .eql 25 v28_16 (.int .i64 0)) fun v52_323 => (k0 (mpick (.bool true) v52_323 (.bool false)) fun v53_324 => (kb v53_324 (k1 (mbin E .eql 3 v26_14 (.int .i64 6)) fun v56_325 => (k0 (mpick (.bool true) v56_325 (.bool false)) fun v57_326 => (kb v57_326 (k2 (vcall E.P base m .len [22] [v27_15]) fun v60_327 m => (k1 (mbin E .eql 3 v60_327 (.int .i64 9)) fun v61_328 => (k0 (mpick (.bool true) v61_328 (.bool false)) fun v62_329 => (fVal v62_329 fun v => some (.ret v, m))))) (k0 (mpick (.bool false) undef (.bool false)) fun v62_330 => (fVal v62_330 fun v => some (.ret v, m)))))) (k0 (mpick (.bool false) undef (.bool false)) fun v57_331 => (kb v57_331 (k2 (vcall E.P base m .len [22] [v27_15]) fun v60_332 m => (k1 (mbin E .eql 3 v60_332 (.int .i64 9)) fun v61_333 => (k0 (mpick (.bool true) v61_333 (.bool false)) fun v62_334 => (fVal v62_334 fun v => some (.ret v, m))))) (k0 (mpick (.bool false) undef (.bool false)) fun v62_335 => (fVal v62_335 fun v => some (.ret v, m)))))))) (k0 (mpick (.bool false) undef (.bool false)) fun v53_336 => (kb v53_336 (k1 (mbin E .eql 3 v26_14 (.int .i64 6)) fun v56_337 => (k0 (mpick (.bool true) v56_337 (.bool false)) fun v57_338 => (kb v57_338 (k2 (vcall E.P base m .len [22] [v27_15]) fun v60_339 m => (k1 (mbin E .eql 3 v60_339 (.int .i64 9)) fun v61_340 => (k0 (mpick (.bool true) v61_340 (.bool false)) fun v62_341 => (fVal v62_341 fun v => some (.ret v, m))))) (k0 (mpick (.bool false) undef (.bool false)) fun v62_342 => (fVal v62_342 fun v => some (.ret v, m)))))) (k0 (mpick (.bool false) undef (.bool false)) fun v57_343 => (kb v57_343 (k2 (vcall E.P base m .len [22] [v27_15]) fun v60_344 m => (k1 (mbin E .eql 3 v60_344 (.int .i64 9)) fun v61_345 => (k0 (mpick (.bool true) v61_345 (.bool false)) fun v62_346 => (fVal v62_346 fun v => some (.ret v, m))))) (k0 (mpick (.bool false) undef (.bool false)) fun v62_347 => (fVal v62_347 fun v => some (.ret v, m)))))))))))) (k0 (mpick (.bool false) undef (.bool false)) fun v49_348 => (kb v49_348 (k1 (mbin E .eql 25 v28_16 (.int .i64 0)) fun v52_349 => (k0 (mpick (.bool true) v52_349 (.bool false)) fun v53_350 => (kb v53_350 (k1 (mbin E .eql 3 v26_14 (.int .i64 6)) fun v56_351 => (k0 (mpick (.bool true) v56_351 (.bool false)) fun v57_352 => (kb v57_352 (k2 (vcall E.P base m .len [22] [v27_15]) fun v60_353 m => (k1 (mbin E .eql 3 v60_353 (.int .i64 9)) fun v61_354 => (k0 (mpick (.bool true) v61_354 (.bool false)) fun v62_355 => (fVal v62_355 fun v => some (.ret v, m))))) (k0 (mpick (.bool false) undef (.bool false)) fun v62_356 => (fVal v62_356 fun v => some (.ret v, m)))))) (k0 (mpick (.bool false) undef (.bool false)) fun v57_357 => (kb v57_357 (k2 (vcall E.P base m .len [22] [v27_15]) fun v60_358 m => (k1 (mbin E .eql 3 v60_358 (.int .i64 9)) fun v61_359 => (k0 (mpick (.bool true) v61_359 (.bool false)) fun v62_360 => (fVal v62_360 fun v => some (.ret v, m))))) (k0 (mpick (.bool false) undef (.bool false)) fun v62_361 => (fVal v62_361 fun v => some (.ret v, m)))))))) (k0 (mpick (.bool false) undef (.bool false)) fun v53_362 => (kb v53_362 (k1 (mbin E .eql 3 v26_14 (.int .i64 6)) fun v56_363 => (k0 (mpick (.bool true) v56_363 (.bool false)) fun v57_364 => (kb v57_364 (k2 (vcall E.P base m .len [22] [v27_15]) fun v60_365 m => (k1 (mbin E .eql 3 v60_365 (.int .i64 9)) fun v61_366 => (k0 (mpick (.bool true) v61_366 (.bool false)) fun v62_367 => (fVal v62_367 fun v => some (.ret v, m))))) (k0 (mpick (.bool false) undef (.bool false)) fun v62_368 => (fVal v62_368 fun v => some (.ret v, m)))))) (k0 (mpick (.bool false) undef (.bool false)) fun v57_369 => (kb v57_369 (k2 (vcall E.P base m .len [22] [v27_15]) fun v60_370 m => (k1 (mbin E .eql 3 v60_370 (.int .i64 9)) fun v61_371 => (k0 (mpick (.bool true) v61_371 (.bool false)) fun v62_372 => (fVal v62_372 fun v => some (.ret v, m))))) (k0 (mpick (.bool false) undef (.bool false)) fun v62_373 => (fVal v62_373 fun v => some (.ret v, m)))))))))))))) (k0 (mpick (.bool false) undef (.bool false)) fun v38_374 => (kb v38_374 (k1 (mfieldAddr E.P 31 v4_11 0) fun v40_375 => (k1 (xload E.P m 29 v40_375) fun v41_376 => (k2 (xbuildSlice E.P m 29 3 [(0, (.int .i64 2)), (1, (.int .i64 (-1))), (2, (.int .i64 (-1)))]) fun v42_377 m => (kc (call base 22 [v41_376, v42_377] m) (fun v43_378 m => (k0 (mpick (.bool true) v43_378 (.bool false)) fun v44_379 => (kb v44_379 (k1 (mfieldAddr E.P 31 v4_11 2) fun v46_380 => (k1 (xload E.P m 3 v46_380) fun v47_381 => (k1 (mbin E .eql 3 v47_381 (.int .i64 2)) fun v48_382 => (k0 (mpick (.bool true) v48_382 (.bool false)) fun v49_383 => (kb v49_383 (k1 (mbin E .eql 25 v28_16 (.int .i64 0)) fun v52_384 => (k0 (mpick (.bool true) v52_384 (.bool false)) fun v53_385 => (kb v53_385 (k1 (mbin E .eql 3 v26_14 (.int .i64 6)) fun v56_386 => (k0 (mpick (.bool true) v56_386 (.bool false)) fun v57_387 => (kb v57_387 (k2 (vcall E.P base m .len [22] [v27_15]) fun v60_388 m => (k1 (mbin E .eql 3 v60_388 (.int .i64 9)) fun v61_389 => (k0 (mpick (.bool true) v61_389 (.bool false)) fun v62_390 => (fVal v62_390 fun v => some (.ret v, m))))) (k0 (mpick (.bool false) undef (.bool false)) fun v62_391 => (fVal v62_391 fun v => some (.ret v, m)))))) (k0 (mpick (.bool false) undef (.bool false)) fun v57_392 => (kb v57_392 (k2 (vcall E.P base m .len [22] [v27_15]) fun v60_393 m => (k1 (mbin E .eql 3 v60_393 (.int .i64 9)) fun v61_394 => (k0 (mpick (.bool true) v61_394 (.bool false)) fun v62_395 => (fVal v62_395 fun v => some (.ret v, m))))) (k0 (mpick (.bool false) undef (.bool false)) fun v62_396 => (fVal v62_396 fun v => some (.ret v, m)))))))) (k0 (mpick (.bool false) undef (.bool false)) fun v53_397 => (kb v53_397 (k1 (mbin E .eql 3 v26_14 (.int .i64 6)) fun v56_398 => (k0 (mpick (.bool true) v56_398 (.bool false)) fun v57_399 => (kb v57_399 (k2 (vcall E.P base m .len [22] [v27_15]) fun v60_400 m => (k1 (mbin E .eql 3 v60_400 (.int .i64 9)) fun v61_401 => (k0 (mpick (.bool true) v61_401 (.bool false)) fun v62_402 => (fVal v62_402 fun v => some (.ret v, m))))) (k0 (mpick (.bool false) undef (.bool false)) fun v62_403 => (fVal v62_403 fun v => some (.ret v, m)))))) (k0 (mpick (.bool false) undef (.bool false)) fun v57_404 => (kb v57_404 (k2 (vcall E.P base m .len [22] [v27_15]) fun v60_405 m => (k1 (mbin E .eql 3 v60_405 (.int .i64 9)) fun v61_406 => (k0 (mpick (.bool true) v61_406 (.bool false)) fun v62_407 => (fVal v62_407 fun v => some (.ret v, m))))) (k0 (mpick (.bool false) undef (.bool false)) fun v62_408 => (fVal v62_408 fun v => some (.ret v, m)))))))))))) (k0 (mpick (.bool false) undef (.bool false)) fun v49_409 => (kb v49_409 (k1 (mbin E .eql 25 v28_16 (.int .i64 0)) fun v52_410 => (k0 (mpick (.bool true) v52_410 (.bool false)) fun v53_411 => (kb v53_411 (k1 (mbin E .eql 3 v26_14 (.int .i64 6)) fun v56_412 => (k0 (mpick (.bool true) v56_412 (.bool false)) fun v57_413 => (kb v57_413 (k2 (vcall E.P base m .len [22] [v27_15]) fun v60_414 m => (k1 (mbin E .eql 3 v60_414 (.int .i64 9)) fun v61_415 => (k0 (mpick (.bool true) v61_415 (.bool false)) fun v62_416 => (fVal v62_416 fun v => some (.ret v, m))))) (k0 (mpick (.bool false) undef (.bool false)) fun v62_417 => (fVal v62_417 fun v => some (.ret v, m)))))) (k0 (mpick (.bool false) undef (.bool false)) fun v57_418 => (kb v57_418 (k2 (vcall E.P base m .len [22] [v27_15]) fun v60_419 m => (k1 (mbin E .eql 3 v60_419 (.int .i64 9)) fun v61_420 => (k0 (mpick (.bool true) v61_420 (.bool false)) fun v62_421 => (fVal v62_421 fun v => some (.ret v, m))))) (k0 (mpick (.bool false) undef (.bool false)) fun v62_422 => (fVal v62_422 fun v => some (.ret v, m)))))))) (k0 (mpick (.bool false) undef (.bool false)) fun v53_423 => (kb v53_423 (k1 (mbin E .eql 3 v26_14 (.int .i64 6)) fun v56_424 => (k0 (mpick (.bool true) v56_424 (.bool false)) fun v57_425 => (kb v57_425 (k2 (vcall E.P base m .len [22] [v27_15]) fun v60_426 m => (k1 (mbin E .eql 3 v60_426 (.int .i64 9)) fun v61_427 => (k0 (mpick (.bool true) v61_427 (.bool false)) fun v62_428 => (fVal v62_428 fun v => some (.ret v, m))))) (k0 (mpick (.bool false) undef (.bool false)) fun v62_429 => (fVal v62_429 fun v => some (.ret v, m)))))) (k0 (mpick (.bool false) undef (.bool false)) fun v57_430 => (kb v57_430 (k2 (vcall E.P base m .len [22] [v27_15]) fun v60_431 m => (k1 (mbin E .eql 3 v60_431 (.int .i64 9)) fun v61_432 => (k0 (mpick (.bool true) v61_432 (.bool false)) fun v62_433 => (fVal v62_433 fun v => some (.ret v, m))))) (k0 (mpick (.bool false) undef (.bool false)) fun v62_434 => (fVal v62_434 fun v => some (.ret v, m)))))))))))) (fun v m => some (.pan v, m)))))) (k0 (mpick (.bool false) undef (.bool false)) fun v44_435 => (kb v44_435 (k1 (mfieldAddr E.P 31 v4_11 2) fun v46_436 => (k1 (xload E.P m 3 v46_436) fun v47_437 => (k1 (mbin E .eql 3 v47_437 (.int .i64 2)) fun v48_438 => (k0 (mpick (.bool true) v48_438 (.bool false)) fun v49_439 => (kb v49_439 (k1 (mbin E .eql 25 v28_16 (.int .i64 0)) fun v52_440 => (k0 (mpick (.bool true) v52_440 (.bool false)) fun v53_441 => (kb v53_441 (k1 (mbin E .eql 3 v26_14 (.int .i64 6)) fun v56_442 => (k0 (mpick (.bool true) v56_442 (.bool false)) fun v57_443 => (kb v57_443 (k2 (vcall E.P base m .len [22] [v27_15]) fun v60_444 m => (k1 (mbin E .eql 3 v60_444 (.int .i64 9)) fun v61_445 => (k0 (mpick (.bool true) v61_445 (.bool false)) fun v62_446 => (fVal v62_446 fun v => some (.ret v, m))))) (k0 (mpick (.bool false) undef (.bool false)) fun v62_447 => (fVal v62_447 fun v => some (.ret v, m)))))) (k0 (mpick (.bool false) undef (.bool false)) fun v57_448 => (kb v57_448 (k2 (vcall E.P base m .len [22] [v27_15]) fun v60_449 m => (k1 (mbin E .eql 3 v60_449 (.int .i64 9)) fun v61_450 => (k0 (mpick (.bool true) v61_450 (.bool false)) fun v62_451 => (fVal v62_451 fun v => some (.ret v, m))))) (k0 (mpick (.bool false) undef (.bool false)) fun v62_452 => (fVal v62_452 fun v => some (.ret v, m)))))))) (k0 (mpick (.bool false) undef (.bool false)) fun v53_453 => (kb v53_453 (k1 (mbin E .eql 3 v26_14 (.int .i64 6)) fun v56_454 => (k0 (mpick (.bool true) v56_454 (.bool false)) fun v57_455 => (kb v57_455 (k2 (vcall E.P base m .len [22] [v27_15]) fun v60_456 m => (k1 (mbin E .eql 3 v60_456 (.int .i64 9)) fun v61_457 => (k0 (mpick (.bool true) v61_457 (.bool false)) fun v62_458 => (fVal v62_458 fun v => some (.ret v, m))))) (k0 (mpick (.bool false) undef (.bool false)) fun v62_459 => (fVal v62_459 fun v => some (.ret v, m)))))) (k0 (mpick (.bool false) undef (.bool false)) fun v57_460 => (kb v57_460 (k2 (vcall E.P base m .len [22] [v27_15]) fun v60_461 m => (k1 (mbin E .eql 3 v60_461 (.int .i64 9)) fun v61_462 => (k0 (mpick (.bool true) v61_462 (.bool false)) fun v62_463 => (fVal v62_463 fun v => some (.ret v, m))))) (k0 (mpick (.bool false) undef (.bool false)) fun v62_464 => (fVal v62_464 fun v => some (.ret v, m)))))))))))) (k0 (mpick (.bool false) undef (.bool false)) fun v49_465 => (kb v49_465 (k1 (mbin E .eql 25 v28_16 (.int .i64 0)) fun v52_466 => (k0 (mpick (.bool true) v52_466 (.bool false)) fun v53_467 => (kb v53_467 (k1 (mbin E .eql 3 v26_14 (.int .i64 6)) fun v56_468 => (k0 (mpick (.bool true) v56_468 (.bool false)) fun v57_469 => (kb v57_469 (k2 (vcall E.P base m .len [22] [v27_15]) fun v60_470 m => (k1 (mbin E .eql 3 v60_470 (.int .i64 9)) fun v61_471 => (k0 (mpick (.bool true) v61_471 (.bool false)) fun v62_472 => (fVal v62_472 fun v => some (.ret v, m))))) (k0 (mpick (.bool false) undef (.bool false)) fun v62_473 => (fVal v62_473 fun v => some (.ret v, m)))))) (k0 (mpick (.bool false) undef (.bool false)) fun v57_474 => (kb v57_474 (k2 (vcall E.P base m .len [22] [v27_15]) fun v60_475 m => (k1 (mbin E .eql 3 v60_475 (.int .i64 9)) fun v61_476 => (k0 (mpick (.bool true) v61_476 (.bool false)) fun v62_477 => (fVal v62_477 fun v => some (.ret v, m))))) (k0 (mpick (.bool false) undef (.bool false)) fun v62_478 => (fVal v62_478 fun v => some (.ret v, m)))))))) (k0 (mpick (.bool false) undef (.bool false)) fun v53_479 => (kb v53_479 (k1 (mbin E .eql 3 v26_14 (.int .i64 6)) fun v56_480 => (k0 (mpick (.bool true) v56_480 (.bool false)) fun v57_481 => (kb v57_481 (k2 (vcall E.P base m .len [22] [v27_15]) fun v60_482 m => (k1 (mbin E .eql 3 v60_482 (.int .i64 9)) fun v61_483 => (k0 (mpick (.bool true) v61_483 (.bool false)) fun v62_484 => (fVal v62_484 fun v => some (.ret v, m))))) (k0 (mpick (.bool false) undef (.bool false)) fun v62_485 => (fVal v62_485 fun v => some (.ret v, m)))))) (k0 (mpick (.bool false) undef (.bool false)) fun v57_486 => (kb v57_486 (k2 (vcall E.P base m .len [22] [v27_15]) fun v60_487 m => (k1 (mbin E .eql 3 v60_487 (.int .i64 9)) fun v61_488 => (k0 (mpick (.bool true) v61_488 (.bool false)) fun v62_489 => (fVal v62_489 fun v => some (.ret v, m))))) (k0 (mpick (.bool false) undef (.bool false)) fun v62_490 => (fVal v62_490 fun v => some (.ret v, m))))))))))))))))))))) (fun v m => some (.pan v, m)))) (fun v m => some (.pan v, m)))))))) (fun v m => some (.pan v, m)))))) (fun v m => some (.pan v, m)))))))

def keep15 : Keep := { region := fun i => ([[], [1], [1, 2, 3], [2, 3, 4, 5], [2, 3, 4, 5, 6, 7, 8], [0]] : List (List Nat))[i]?, exit := fun i => ([] : List (List Nat))[i]?, ret := some [0] }

noncomputable def lp15 (call : CallF) (fuel base : Nat) : Lp := lpsel []

noncomputable def c15 : Code := Try.f15.body.getD .skip

theorem r15_eq (call : CallF) (fuel base : Nat) (m : M) : kbody E call keep15 (lp15 call fuel base) base Try.f15 [] m = r15 call fuel base  m := by
  kernel_rfl

noncomputable def rf15 : RF := fun call fuel base args m => match args with
  | [] => r15 call fuel base  m
  | _ => none

theorem r15_lk (call : CallF) (fuel base : Nat) : LoopsOk E call (lp15 call fuel base) fuel base 0 c15 = (And True (And True (And True (And True (And True (And True True)))))) := by kernel_rfl

theorem r15_fn : E.P.funcs[15]? = some Try.f15 := by kernel_rfl
theorem r15_body : Try.f15.body = some c15 := by kernel_rfl

theorem rf15_ok : RFok E 15 rf15 := by
  refine ⟨Try.f15, r15_fn, fun call fuel base args m r _ h => ?_⟩
  unfold rf15 at h
  split at h
  · rw [← r15_eq] at h
    exact kbody_sound (c := c15) r15_body (Eq.mpr (r15_lk call fuel base) (And.intro trivial (And.intro trivial (And.intro trivial (And.intro trivial (And.intro trivial (And.intro trivial trivial))))))) h
  · simp at h


noncomputable def r16 (call : CallF) (fuel base : Nat) (x0 : Value) (x1 : Value) (m : M) : Res2 :=
  (kc (call base 42 [x0, x1] m) (fun v9_1 m => (k1 (mbin E .neq 25 v9_1 (.int .i64 0)) fun v11_2 => (kb v11_2 (some (.ret (.tuple #[(.int .i64 0), v9_1]), m)) (kc (call base 43 [x0, x1] m) (fun v15_3 m => (some (.ret (.tuple #[v15_3, (.int .i64 0)]), m))) (fun v m => some (.pan v, m)))))) (fun v m => some (.pan v, m)))

def keep16 : Keep := { region := fun i => ([[0, 1], [0, 1, 6], [0, 1, 6, 11], [4, 5], [4, 5]] : List (List Nat))[i]?, exit := fun i => ([] : List (List Nat))[i]?, ret := some [4, 5] }

noncomputable def lp16 (call : CallF) (fuel base : Nat) : Lp := lpsel []

noncomputable def c16 : Code := Try.f16.body.getD .skip

theorem r16_eq (call : CallF) (fuel base : Nat) (x0 : Value) (x1 : Value) (m : M) : kbody E call keep16 (lp16 call fuel base) base Try.f16 [x0, x1] m = r16 call fuel base x0 x1 m := by
  kernel_rfl

noncomputable def rf16 : RF := fun call fuel base args m => match args with
  | [x0, x1] => r16 call fuel base x0 x1 m
  | _ => none

theorem r16_lk (call : CallF) (fuel base : Nat) : LoopsOk E call (lp16 call fuel base) fuel base 0 c16 = (And True (And (And True (And True (And (And True True) True))) (And True True))) := by kernel_rfl

theorem r16_fn : E.P.funcs[16]? = some Try.f16 := by kernel_rfl
theorem r16_body : Try.f16.body = some c16 := by kernel_rfl

theorem rf16_ok : RFok E 16 rf16 := by
  refine ⟨Try.f16, r16_fn, fun call fuel base args m r _ h => ?_⟩
  unfold rf16 at h
  split at h
  · rw [← r16_eq] at h
    exact kbody_sound (c := c16) r16_body (Eq.mpr (r16_lk call fuel base) (And.intro trivial (And.intro (And.intro trivial (And.intro trivial (And.intro (And.intro trivial trivial) trivial))) (And.intro trivial trivial)))) h
  · simp at h

noncomputable def r20_L0 (call : CallF) (fuel base : Nat) (kx0 : Value → Value → Value → Value → Value → Value → M → Res2) (n : Nat) : Value → Value → Value → Value → Value → Value → Value → Value → Value → M → Res2 :=
  Nat.rec (motive := fun _ => Value → Value → Value → Value → Value → Value → Value → Value → Value → M → Res2) (fun _ _ _ _ _ _ _ _ _ _ => none)
    (fun _ ih x2 x3 x8 x11 x12 x13 x39 x40 x41 m =>
      (k1 (mbin E .lss 3 x41 x40) fun v42_14 => (kb v42_14 (k1 (mindexAddr E.P 22 x39 x41) fun v44_15 => (k1 (xload E.P m 59 v44_15) fun v45_16 => (k2 (xalloc E.P m 59) fun v15_17 m => (ks (xstore E.P base m 59 v15_17 v45_16) fun m => (k1 (mfieldAddr E.P 59 v15_17 0) fun v49_18 => (k1 (xload E.P m 3 v49_18) fun v50_19 => (k1 (mindexAddr E.P 29 x12 v50_19) fun v51_20 => (k1 (xload E.P m 3 v51_20) fun v52_21 => (k1 (mfieldAddr E.P 59 v15_17 1) fun v54_22 => (k1 (xload E.P m 3 v54_22) fun v55_23 => (k1 (mindexAddr E.P 29 x12 v55_23) fun v56_24 => (k1 (xload E.P m 3 v56_24) fun v57_25 => (k1 (mbin E .sub 3 v52_21 v57_25) fun v58_26 => (k1 (mindexAddr E.P 29 x13 x41) fun v59_27 => (ks (xstore E.P base m 3 v59_27 v58_26) fun m => (k1 (mbin E .add 3 x41 (.int .i64 1)) fun v60_28 => (ih x2 x3 x8 x11 x12 x13 x39 x40 v60_28 m))))))))))))))))) (kx0 x2 x3 x8 x11 x12 x13 m)))) n

noncomputable def r20 (call : CallF) (fuel base : Nat) (x0 : Value) (x1 : Value) (x2 : Value) (x3 : Value) (m : M) : Res2 :=
  (k2 (xalloc E.P m 31) fun v8_1 m => (kc (call base 45 [x0, x1, x2, x3] m) (fun v20_2 m => (k1 (mbin E .neq 25 v20_2 (.int .i64 0)) fun v22_3 => (kb v22_3 (k1 (mbuild E.P 31 []) fun v23_4 => (ks (xstore E.P base m 31 v8_1 v23_4) fun m => (k0 (mload E.P m 31 v8_1) fun r_5 => (some (.ret (.tuple #[r_5, v20_2]), m))))) (kc (call base 43 [x0, x1] m) (fun v27_6 m => (k1 (mbin E .eql 3 v27_6 (.int .i64 0)) fun v29_7 => (kb v29_7 (k1 (mbuild E.P 31 []) fun v30_8 => (ks (xstore E.P base m 31 v8_1 v30_8) fun m => (k0 (mload E.P m 31 v8_1) fun r_9 => (some (.ret (.tuple #[r_9, (.int .i64 10)]), m))))) (kc (call base 48 [x0, x1, x2, x3] m) (fun v35_10 m => (k2 (vcall E.P base m .len [22] [x1]) fun v37_11 m => (k2 (xmakeSlice E.P m 29 v37_11 v37_11) fun v38_12 m => (k2 (vcall E.P base m .len [22] [x1]) fun v40_13 m => (r20_L0 call fuel base (fun y2_29 y3_30 y8_31 y11_32 y12_33 y13_34 m => (k1 (mindexAddr E.P 29 y12_33 y2_29) fun v65_35 => (k1 (xload E.P m 3 v65_35) fun v66_36 => (k1 (mindexAddr E.P 29 y12_33 y3_30) fun v69_37 => (k1 (xload E.P m 3 v69_37) fun v70_38 => (k1 (mbin E .sub 3 v66_36 v70_38) fun v71_39 => (k1 (mbuild E.P 31 [(0, y13_34), (1, y11_32), (2, v71_39)]) fun v72_40 => (ks (xstore E.P base m 31 y8_31 v72_40) fun m => (k0 (mload E.P m 31 y8_31) fun r_41 => (some (.ret (.tuple #[r_41, (.int .i64 0)]), m))))))))))) fuel x2 x3 v8_1 v27_6 v35_10 v38_12 x1 v40_13 (.int .i64 0) m))))) (fun v m => some (.pan v, m)))))) (fun v m => some (.pan v, m)))))) (fun v m => some (.pan v, m))))

def keep20 : Keep := { region := fun i => ([[0, 1, 2, 3, 8], [0, 1, 2, 3, 8, 10], [0, 1, 2, 3, 8, 10, 22], [8, 9], [0, 1, 2, 3, 8, 11], [0, 1, 2, 3, 8, 11, 29], [8, 9], [1, 2, 3, 8, 11, 12], [1, 2, 3, 8, 11, 12, 13], [2, 3, 8, 11, 12, 13, 39, 40, 41], [2, 3, 8, 11, 12, 13, 39, 40, 41, 42], [2, 3, 8, 11, 12, 13, 14, 15, 39, 40, 41], [2, 3, 8, 11, 12, 13, 39, 40, 41], [2, 3, 8, 11, 12, 13, 39, 40, 41], [8, 9]] : List (List Nat))[i]?, exit := fun i => ([[2, 3, 8, 11, 12, 13], [2, 3, 8, 11, 12, 13, 39, 40, 41]] : List (List Nat))[i]?, ret := some [8, 9] }

noncomputable def r20_L0_R (call : CallF) (fuel base n : Nat) (vs : List Value) (m : M) (K : KT) : Res2 := match vs with
  | [x2, x3, x8, x11, x12, x13, x39, x40, x41] => r20_L0 call fuel base (fun y2 y3 y8 y11 y12 y13 m => K (.exit 0) { n := 73, l := [(2, y2), (3, y3), (8, y8), (11, y11), (12, y12), (13, y13)] } m) n x2 x3 x8 x11 x12 x13 x39 x40 x41 m
  | _ => none

noncomputable def lp20 (call : CallF) (fuel base : Nat) : Lp := lpsel [(0, fun T m K => kslots 73 [2, 3, 8, 11, 12, 13, 39, 40, 41] T fun vs => r20_L0_R call fuel base fuel vs m K)]

noncomputable def c20 : Code := Try.f20.body.getD .skip

theorem r20_L0_lk (call : CallF) (fuel base : Nat) : LoopsOk E call (lp20 call fuel base) fuel base 0 (loopB (blockB (seqR (seqL (seqR (seqR (seqR (seqR (seqR (seqR c20)))))))))) = (And True (And (And True True) (And (And True True) True))) := by kernel_rfl

theorem r20_L0_ok (call : CallF) (fuel base : Nat) : LpOk E call (lp20 call fuel base) fuel base 0 (loopB (blockB (seqR (seqL (seqR (seqR (seqR (seqR (seqR (seqR c20)))))))))) := by
  refine loop_ok (kp := keep20) (hb := Eq.mpr (r20_L0_lk call fuel base) (And.intro trivial (And.intro (And.intro trivial trivial) (And.intro (And.intro trivial trivial) trivial)))) 73 [2, 3, 8, 11, 12, 13, 39, 40, 41] (fun n vs m K => r20_L0_R call fuel base n vs m K) ?_ ?_ (fun _ _ _ => rfl)
  · intro vs m K
    unfold r20_L0_R
    split <;> rfl
  · intro n vs m K hl
    match vs, hl with
    | [x2, x3, x8, x11, x12, x13, x39, x40, x41], _ => show _ = _; kernel_rfl

theorem r20_eq (call : CallF) (fuel base : Nat) (x0 : Value) (x1 : Value) (x2 : Value) (x3 : Value) (m : M) : kbody E call keep20 (lp20 call fuel base) base Try.f20 [x0, x1, x2, x3] m = r20 call fuel base x0 x1 x2 x3 m := by
  kernel_rfl

noncomputable def rf20 : RF := fun call fuel base args m => match args with
  | [x0, x1, x2, x3] => r20 call fuel base x0 x1 x2 x3 m
  | _ => none

theorem r20_lk (call : CallF) (fuel base : Nat) : LoopsOk E call (lp20 call fuel base) fuel base 0 c20 = (And True (And (And True (And True (And (And True True) True))) (And True (And (And True (And (And True True) True)) (And True (And True (And (And True (LpOk E call (lp20 call fuel base) fuel base 0 (loopB (blockB (seqR (seqL (seqR (seqR (seqR (seqR (seqR (seqR c20)))))))))))) (And True True)))))))) := by kernel_rfl

theorem r20_fn : E.P.funcs[20]? = some Try.f20 := by kernel_rfl
theorem r20_body : Try.f20.body = some c20 := by kernel_rfl

theorem rf20_ok : RFok E 20 rf20 := by
  refine ⟨Try.f20, r20_fn, fun call fuel base args m r _ h => ?_⟩
  unfold rf20 at h
  split at h
  · rw [← r20_eq] at h
    exact kbody_sound (c := c20) r20_body (Eq.mpr (r20_lk call fuel base) (And.intro trivial (And.intro (And.intro trivial (And.intro trivial (And.intro (And.intro trivial trivial) trivial))) (And.intro trivial (And.intro (And.intro trivial (And.intro (And.intro trivial trivial) trivial)) (And.intro trivial (And.intro trivial (And.intro (And.intro trivial (r20_L0_ok call fuel base)) (And.intro trivial trivial))))))))) h
  · simp at h

noncomputable def r22_L0 (call : CallF) (fuel base : Nat) (kr : Value → M → Res2) (kx0 : M → Res2) (n : Nat) : Value → Value → Value → M → Res2 :=
  Nat.rec (motive := fun _ => Value → Value → Value → M → Res2) (fun _ _ _ _ => none)
    (fun _ ih x0 x1 x5 m =>
      (k2 (vcall E.P base m .len [29] [x0]) fun v13_4 m => (k1 (mbin E .lss 3 x5 v13_4) fun v14_5 => (kb v14_5 (k1 (mindexAddr E.P 29 x0 x5) fun v19_6 => (k1 (xload E.P m 3 v19_6) fun v20_7 => (k1 (mindexAddr E.P 29 x1 x5) fun v23_8 => (k1 (xload E.P m 3 v23_8) fun v24_9 => (k1 (mbin E .neq 3 v20_7 v24_9) fun v25_10 => (kb v25_10 (kr (.bool false) m) (k1 (mbin E .add 3 x5 (.int .i64 1)) fun v16_11 => (ih x0 x1 v16_11 m)))))))) (kx0 m))))) n

noncomputable def r22 (call : CallF) (fuel base : Nat) (x0 : Value) (x1 : Value) (m : M) : Res2 :=
  (k2 (vcall E.P base m .len [29] [x0]) fun v7_1 m => (k2 (vcall E.P base m .len [29] [x1]) fun v9_2 m => (k1 (mbin E .neq 3 v7_1 v9_2) fun v10_3 => (kb v10_3 (fVal (.bool false) fun v => some (.ret v, m)) (r22_L0 call fuel base (fun y4_12 m => (fVal y4_12 fun v => some (.ret v, m))) (fun m => (fVal (.bool true) fun v => some (.ret v, m))) fuel x0 x1 (.int .i64 0) m)))))

def keep22 : Keep := { region := fun i => ([[0, 1], [0, 1, 10], [4], [0, 1, 5], [0, 1, 5, 14], [0, 1, 5], [0, 1, 5, 25], [4], [4]] : List (List Nat))[i]?, exit := fun i => ([[], [0, 1, 5]] : List (List Nat))[i]?, ret := some [4] }

noncomputable def r22_L0_R (call : CallF) (fuel base n : Nat) (vs : List Value) (m : M) (K : KT) : Res2 := match vs with
  | [x0, x1, x5] => r22_L0 call fuel base (fun y4 m => K .ret { n := 26, l := [(4, y4)] } m) (fun m => K (.exit 0) { n := 26, l := [] } m) n x0 x1 x5 m
  | _ => none

noncomputable def lp22 (call : CallF) (fuel base : Nat) : Lp := lpsel [(0, fun T m K => kslots 26 [0, 1, 5] T fun vs => r22_L0_R call fuel base fuel vs m K)]

noncomputable def c22 : Code := Try.f22.body.getD .skip

theorem r22_L0_lk (call : CallF) (fuel base : Nat) : LoopsOk E call (lp22 call fuel base) fuel base 0 (loopB (blockB (seqR (seqL (seqR (seqR c22)))))) = (And (And True (And True True)) (And (And True (And (And True True) True)) True)) := by kernel_rfl

theorem r22_L0_ok (call : CallF) (fuel base : Nat) : LpOk E call (lp22 call fuel base) fuel base 0 (loopB (blockB (seqR (seqL (seqR (seqR c22)))))) := by
  refine loop_ok (kp := keep22) (hb := Eq.mpr (r22_L0_lk call fuel base) (And.intro (And.intro trivial (And.intro trivial trivial)) (And.intro (And.intro trivial (And.intro (And.intro trivial trivial) trivial)) trivial))) 26 [0, 1, 5] (fun n vs m K => r22_L0_R call fuel base n vs m K) ?_ ?_ (fun _ _ _ => rfl)
  · intro vs m K
    unfold r22_L0_R
    split <;> rfl
  · intro n vs m K hl
    match vs, hl with
    | [x0, x1, x5], _ => show _ = _; kernel_rfl

theorem r22_eq (call : CallF) (fuel base : Nat) (x0 : Value) (x1 : Value) (m : M) : kbody E call keep22 (lp22 call fuel base) base Try.f22 [x0, x1] m = r22 call fuel base x0 x1 m := by
  kernel_rfl

noncomputable def rf22 : RF := fun call fuel base args m => match args with
  | [x0, x1] => r22 call fuel base x0 x1 m
  | _ => none

theorem r22_lk (call : CallF) (fuel base : Nat) : LoopsOk E call (lp22 call fuel base) fuel base 0 c22 = (And True (And (And True (And (And True True) True)) (And (And True (LpOk E call (lp22 call fuel base) fuel base 0 (loopB (blockB (seqR (seqL (seqR (seqR c22)))))))) (And True True)))) := by kernel_rfl

theorem r22_fn : E.P.funcs[22]? = some Try.f22 := by kernel_rfl
theorem r22_body : Try.f22.body = some c22 := by kernel_rfl

theorem rf22_ok : RFok E 22 rf22 := by
  refine ⟨Try.f22, r22_fn, fun call fuel base args m r _ h => ?_⟩
  unfold rf22 at h
  split at h
  · rw [← r22_eq] at h
    exact kbody_sound (c := c22) r22_body (Eq.mpr (r22_lk call fuel base) (And.intro trivial (And.intro (And.intro trivial (And.intro (And.intro trivial trivial) trivial)) (And.intro (And.intro trivial (r22_L0_ok call fuel base)) (And.intro trivial trivial))))) h
  · simp at h


noncomputable def r28 (call : CallF) (fuel base : Nat) (x0 : Value) (x1 : Value) (x2 : Value) (m : M) : Res2 :=
  (kc (call base 52 [x0, x1] m) (fun v10_1 m => (k1 (mun .not v10_1) fun v11_2 => (kb v11_2 (some (.ret (.tuple #[(.bool false), (.int .i64 2)]), m)) (k2 (vcall E.P base m .len [43] [x2]) fun v13_3 m => (k1 (mbin E .gtr 3 v13_3 (.int .i64 16)) fun v14_4 => (kb v14_4 (some (.ret (.tuple #[(.bool false), (.int .i64 3)]), m)) (kc (call base 53 [x0, x1, x2] m) (fun v18_5 m => (some (.ret (.tuple #[v18_5, (.int .i64 0)]), m))) (fun v m => some (.pan v, m))))))))) (fun v m => some (.pan v, m)))

def keep28 : Keep := { region := fun i => ([[0, 1, 2], [0, 1, 2, 11], [6, 7], [0, 1, 2, 14], [6, 7], [6, 7]] : List (List Nat))[i]?, exit := fun i => ([] : List (List Nat))[i]?, ret := some [6, 7] }

noncomputable def lp28 (call : CallF) (fuel base : Nat) : Lp := lpsel []

noncomputable def c28 : Code := Try.f28.body.getD .skip

theorem r28_eq (call : CallF) (fuel base : Nat) (x0 : Value) (x1 : Value) (x2 : Value) (m : M) : kbody E call keep28 (lp28 call fuel base) base Try.f28 [x0, x1, x2] m = r28 call fuel base x0 x1 x2 m := by
  kernel_rfl

noncomputable def rf28 : RF := fun call fuel base args m => match args with
  | [x0, x1, x2] => r28 call fuel base x0 x1 x2 m
  | _ => none

theorem r28_lk (call : CallF) (fuel base : Nat) : LoopsOk E call (lp28 call fuel base) fuel base 0 c28 = (And True (And (And True (And (And True True) True)) (And (And True (And (And True True) True)) (And True True)))) := by kernel_rfl

theorem r28_fn : E.P.funcs[28]? = some Try.f28 := by kernel_rfl
theorem r28_body : Try.f28.body = some c28 := by kernel_rfl

theorem rf28_ok : RFok E 28 rf28 := by
  refine ⟨Try.f28, r28_fn, fun call fuel base args m r _ h => ?_⟩
  unfold rf28 at h
  split at h
  · rw [← r28_eq] at h
    exact kbody_sound (c := c28) r28_body (Eq.mpr (r28_lk call fuel base) (And.intro trivial (And.intro (And.intro trivial (And.intro (And.intro trivial trivial) trivial)) (And.intro (And.intro trivial (And.intro (And.intro trivial trivial) trivial)) (And.intro trivial trivial))))) h
  · simp at h

noncomputable def r30_L0 (call : CallF) (fuel base : Nat) (kp : Value → M → Res2) (kx0 : Value → Value → M → Res2) (n : Nat) : Value → Value → Value → Value → Value → Value → M → Res2 :=
  Nat.rec (motive := fun _ => Value → Value → Value → Value → Value → Value → M → Res2) (fun _ _ _ _ _ _ _ => none)
    (fun _ ih x11 x12 x13 x38 x39 x40 m =>
      (k1 (mbin E .lss 3 x40 x39) fun v41_13 => (kb v41_13 (k1 (mindexAddr E.P 43 x38 x40) fun v43_14 => (k1 (xload E.P m 62 v43_14) fun v44_15 => (k2 (xalloc E.P m 62) fun v15_16 m => (ks (xstore E.P base m 62 v15_16 v44_15) fun m => (k1 (xload E.P m 62 v15_16) fun v48_17 => (kc (call base 60 [v48_17] m) (fun v49_18 m => (kc (call base 59 [v49_18, x11] m) (fun v51_19 m => (kc (call base 58 [x12, v51_19] m) (fun v52_20 m => (k1 (mindexAddr E.P 22 x13 x40) fun v53_21 => (k1 (mfieldAddr E.P 59 v53_21 0) fun v54_22 => (ks (xstore E.P base m 3 v54_22 v52_20) fun m => (k1 (xload E.P m 62 v15_16) fun v58_23 => (kc (call base 61 [v58_23] m) (fun v59_24 m => (kc (call base 59 [v59_24, x11] m) (fun v61_25 m => (kc (call base 58 [x12, v61_25] m) (fun v62_26 m => (k1 (mindexAddr E.P 22 x13 x40) fun v63_27 => (k1 (mfieldAddr E.P 59 v63_27 1) fun v64_28 => (ks (xstore E.P base m 3 v64_28 v62_26) fun m => (k1 (mbin E .add 3 x40 (.int .i64 1)) fun v65_29 => (ih x11 x12 x13 x38 x39 v65_29 m)))))) (fun v m => kp v m))) (fun v m => kp v m))) (fun v m => kp v m))))))) (fun v m => kp v m))) (fun v m => kp v m))) (fun v m => kp v m))))))) (kx0 x12 x13 m)))) n

noncomputable def r30 (call : CallF) (fuel base : Nat) (x0 : Value) (x1 : Value) (x2 : Value) (m : M) : Res2 :=
  (kc (call base 28 [x0, x1, x2] m) (fun v20_1 m => (k1 (mextract 0 v20_1) fun v21_2 => (k1 (mextract 1 v20_1) fun v22_3 => (k1 (mbin E .neq 25 v22_3 (.int .i64 0)) fun v24_4 => (kb v24_4 (some (.ret (.tuple #[(.int .i64 0), (.slice none 0 0), v22_3]), m)) (k1 (mun .not v21_2) fun v27_5 => (kb v27_5 (some (.ret (.tuple #[(.int .i64 0), (.slice none 0 0), (.int .i64 10)]), m)) (kc (call base 56 [x2] m) (fun v29_6 m => (kc (call base 57 [v29_6] m) (fun v31_7 m => (k2 (vcall E.P base m .len [75] [v31_7]) fun v33_8 m => (k1 (mbin E .gtr 3 v33_8 (.int .i64 8)) fun v34_9 => (kb v34_9 (some (.ret (.tuple #[(.int .i64 0), (.slice none 0 0), (.int .i64 8)]), m)) (k2 (vcall E.P base m .len [43] [x2]) fun v36_10 m => (k2 (xmakeSlice E.P m 22 v36_10 v36_10) fun v37_11 m => (k2 (vcall E.P base m .len [43] [x2]) fun v39_12 m => (r30_L0 call fuel base (fun v m => some (.pan v, m)) (fun y12_30 y13_31 m => (k2 (vcall E.P base m .len [75] [y12_30]) fun v67_32 m => (some (.ret (.tuple #[v67_32, y13_31, (.int .i64 0)]), m)))) fuel v29_6 v31_7 v37_11 x2 v39_12 (.int .i64 0) m)))))))) (fun v m => some (.pan v, m)))) (fun v m => some (.pan v, m)))))))))) (fun v m => some (.pan v, m)))

def keep30 : Keep := { region := fun i => ([[0, 1, 2], [2, 9, 10], [2, 9, 10, 24], [6, 7, 8], [2, 27], [6, 7, 8], [2, 11], [2, 11, 12], [2, 11, 12, 34], [6, 7, 8], [2, 11, 12, 13], [11, 12, 13, 38, 39, 40], [11, 12, 13, 38, 39, 40, 41], [11, 12, 13, 14, 15, 38, 39, 40], [11, 12, 13, 14, 15, 38, 39, 40], [11, 12, 13, 38, 39, 40], [11, 12, 13, 38, 39, 40], [6, 7, 8]] : List (List Nat))[i]?, exit := fun i => ([[12, 13], [11, 12, 13, 38, 39, 40]] : List (List Nat))[i]?, ret := some [6, 7, 8] }

noncomputable def r30_L0_R (call : CallF) (fuel base n : Nat) (vs : List Value) (m : M) (K : KT) : Res2 := match vs with
  | [x11, x12, x13, x38, x39, x40] => r30_L0 call fuel base (fun v m => K (.pan v) { n := 69, l := [] } m) (fun y12 y13 m => K (.exit 0) { n := 69, l := [(12, y12), (13, y13)] } m) n x11 x12 x13 x38 x39 x40 m
  | _ => none

noncomputable def lp30 (call : CallF) (fuel base : Nat) : Lp := lpsel [(0, fun T m K => kslots 69 [11, 12, 13, 38, 39, 40] T fun vs => r30_L0_R call fuel base fuel vs m K)]

noncomputable def c30 : Code := Try.f30.body.getD .skip

theorem r30_L0_lk (call : CallF) (fuel base : Nat) : LoopsOk E call (lp30 call fuel base) fuel base 0 (loopB (blockB (seqR (seqL (seqR (seqR (seqR (seqR (seqR (seqR (seqR (seqR c30)))))))))))) = (And True (And (And True True) (And (And True (And True True)) True))) := by kernel_rfl

theorem r30_L0_ok (call : CallF) (fuel base : Nat) : LpOk E call (lp30 call fuel base) fuel base 0 (loopB (blockB (seqR (seqL (seqR (seqR (seqR (seqR (seqR (seqR (seqR (seqR c30)))))))))))) := by
  refine loop_ok (kp := keep30) (hb := Eq.mpr (r30_L0_lk call fuel base) (And.intro trivial (And.intro (And.intro trivial trivial) (And.intro (And.intro trivial (And.intro trivial trivial)) trivial)))) 69 [11, 12, 13, 38, 39, 40] (fun n vs m K => r30_L0_R call fuel base n vs m K) ?_ ?_ (fun _ _ _ => rfl)
  · intro vs m K
    unfold r30_L0_R
    split <;> rfl
  · intro n vs m K hl
    match vs, hl with
    | [x11, x12, x13, x38, x39, x40], _ => show _ = _; kernel_rfl

theorem r30_eq (call : CallF) (fuel base : Nat) (x0 : Value) (x1 : Value) (x2 : Value) (m : M) : kbody E call keep30 (lp30 call fuel base) base Try.f30 [x0, x1, x2] m = r30 call fuel base x0 x1 x2 m := by
  kernel_rfl

noncomputable def rf30 : RF := fun call fuel base args m => match args with
  | [x0, x1, x2] => r30 call fuel base x0 x1 x2 m
  | _ => none

theorem r30_lk (call : CallF) (fuel base : Nat) : LoopsOk E call (lp30 call fuel base) fuel base 0 c30 = (And True (And True (And (And True (And (And True True) True)) (And (And True (And (And True True) True)) (And True (And True (And (And True (And (And True True) True)) (And True (And (And True (LpOk E call (lp30 call fuel base) fuel base 0 (loopB (blockB (seqR (seqL (seqR (seqR (seqR (seqR (seqR (seqR (seqR (seqR c30)))))))))))))) (And True True)))))))))) := by kernel_rfl

theorem r30_fn : E.P.funcs[30]? = some Try.f30 := by kernel_rfl
theorem r30_body : Try.f30.body = some c30 := by kernel_rfl

theorem rf30_ok : RFok E 30 rf30 := by
  refine ⟨Try.f30, r30_fn, fun call fuel base args m r _ h => ?_⟩
  unfold rf30 at h
  split at h
  · rw [← r30_eq] at h
    exact kbody_sound (c := c30) r30_body (Eq.mpr (r30_lk call fuel base) (And.intro trivial (And.intro trivial (And.intro (And.intro trivial (And.intro (And.intro trivial trivial) trivial)) (And.intro (And.intro trivial (And.intro (And.intro trivial trivial) trivial)) (And.intro trivial (And.intro trivial (And.intro (And.intro trivial (And.intro (And.intro trivial trivial) trivial)) (And.intro trivial (And.intro (And.intro trivial (r30_L0_ok call fuel base)) (And.intro trivial trivial))))))))))) h
  · simp at h

noncomputable def r32_L0 (call : CallF) (fuel base : Nat) (kr : Value → M → Res2) (kx0 : M → Res2) (n : Nat) : Value → Value → Value → M → Res2 :=
  Nat.rec (motive := fun _ => Value → Value → Value → M → Res2) (fun _ _ _ _ => none)
    (fun _ ih x0 x1 x5 m =>
      (k2 (vcall E.P base m .len [43] [x0]) fun v13_4 m => (k1 (mbin E .lss 3 x5 v13_4) fun v14_5 => (kb v14_5 (k1 (mindexAddr E.P 43 x0 x5) fun v19_6 => (k1 (xload E.P m 62 v19_6) fun v20_7 => (k1 (mindexAddr E.P 43 x1 x5) fun v23_8 => (k1 (xload E.P m 62 v23_8) fun v24_9 => (k1 (mbin E .neq 62 v20_7 v24_9) fun v25_10 => (kb v25_10 (kr (.bool false) m) (k1 (mbin E .add 3 x5 (.int .i64 1)) fun v16_11 => (ih x0 x1 v16_11 m)))))))) (kx0 m))))) n

noncomputable def r32 (call : CallF) (fuel base : Nat) (x0 : Value) (x1 : Value) (m : M) : Res2 :=
  (k2 (vcall E.P base m .len [43] [x0]) fun v7_1 m => (k2 (vcall E.P base m .len [43] [x1]) fun v9_2 m => (k1 (mbin E .neq 3 v7_1 v9_2) fun v10_3 => (kb v10_3 (fVal (.bool false) fun v => some (.ret v, m)) (r32_L0 call fuel base (fun y4_12 m => (fVal y4_12 fun v => some (.ret v, m))) (fun m => (fVal (.bool true) fun v => some (.ret v, m))) fuel x0 x1 (.int .i64 0) m)))))

def keep32 : Keep := { region := fun i => ([[0, 1], [0, 1, 10], [4], [0, 1, 5], [0, 1, 5, 14], [0, 1, 5], [0, 1, 5, 25], [4], [4]] : List (List Nat))[i]?, exit := fun i => ([[], [0, 1, 5]] : List (List Nat))[i]?, ret := some [4] }

noncomputable def r32_L0_R (call : CallF) (fuel base n : Nat) (vs : List Value) (m : M) (K : KT) : Res2 := match vs with
  | [x0, x1, x5] => r32_L0 call fuel base (fun y4 m => K .ret { n := 26, l := [(4, y4)] } m) (fun m => K (.exit 0) { n := 26, l := [] } m) n x0 x1 x5 m
  | _ => none

noncomputable def lp32 (call : CallF) (fuel base : Nat) : Lp := lpsel [(0, fun T m K => kslots 26 [0, 1, 5] T fun vs => r32_L0_R call fuel base fuel vs m K)]

noncomputable def c32 : Code := Try.f32.body.getD .skip

theorem r32_L0_lk (call : CallF) (fuel base : Nat) : LoopsOk E call (lp32 call fuel base) fuel base 0 (loopB (blockB (seqR (seqL (seqR (seqR c32)))))) = (And (And True (And True True)) (And (And True (And (And True True) True)) True)) := by kernel_rfl

theorem r32_L0_ok (call : CallF) (fuel base : Nat) : LpOk E call (lp32 call fuel base) fuel base 0 (loopB (blockB (seqR (seqL (seqR (seqR c32)))))) := by
  refine loop_ok (kp := keep32) (hb := Eq.mpr (r32_L0_lk call fuel base) (And.intro (And.intro trivial (And.intro trivial trivial)) (And.intro (And.intro trivial (And.intro (And.intro trivial trivial) trivial)) trivial))) 26 [0, 1, 5] (fun n vs m K => r32_L0_R call fuel base n vs m K) ?_ ?_ (fun _ _ _ => rfl)
  · intro vs m K
    unfold r32_L0_R
    split <;> rfl
  · intro n vs m K hl
    match vs, hl with
    | [x0, x1, x5], _ => show _ = _; kernel_rfl

theorem r32_eq (call : CallF) (fuel base : Nat) (x0 : Value) (x1 : Value) (m : M) : kbody E call keep32 (lp32 call fuel base) base Try.f32 [x0, x1] m = r32 call fuel base x0 x1 m := by
  kernel_rfl

noncomputable def rf32 : RF := fun call fuel base args m => match args with
  | [x0, x1] => r32 call fuel base x0 x1 m
  | _ => none

theorem r32_lk (call : CallF) (fuel base : Nat) : LoopsOk E call (lp32 call fuel base) fuel base 0 c32 = (And True (And (And True (And (And True True) True)) (And (And True (LpOk E call (lp32 call fuel base) fuel base 0 (loopB (blockB (seqR (seqL (seqR (seqR c32)))))))) (And True True)))) := by kernel_rfl

theorem r32_fn : E.P.funcs[32]? = some Try.f32 := by kernel_rfl
theorem r32_body : Try.f32.body = some c32 := by kernel_rfl

theorem rf32_ok : RFok E 32 rf32 := by
  refine ⟨Try.f32, r32_fn, fun call fuel base args m r _ h => ?_⟩
  unfold rf32 at h
  split at h
  · rw [← r32_eq] at h
    exact kbody_sound (c := c32) r32_body (Eq.mpr (r32_lk call fuel base) (And.intro trivial (And.intro (And.intro trivial (And.intro (And.intro trivial trivial) trivial)) (And.intro (And.intro trivial (r32_L0_ok call fuel base)) (And.intro trivial trivial))))) h
  · simp at h

noncomputable def r33_L0 (call : CallF) (fuel base : Nat) (kr : Value → Value → M → Res2) (kx0 : Value → M → Res2) (n : Nat) : Value → Value → Value → Value → Value → M → Res2 :=
  Nat.rec (motive := fun _ => Value → Value → Value → Value → Value → M → Res2) (fun _ _ _ _ _ _ => none)
    (fun _ ih x0 x1 x6 x7 x8 m =>
      (k1 (mbin E .gtr 3 x0 (.int .i64 0)) fun v15_3 => (kb v15_3 (k1 (mbin E .gtr 3 x1 (.int .i64 0)) fun v18_4 => (k0 (mpick (.bool true) v18_4 (.bool false)) fun v19_5 => (kb v19_5 (k2 (vcall E.P base m .len [43] [x6]) fun v21_6 m => (k1 (mbin E .eql 3 v21_6 (.int .i64 16)) fun v22_7 => (kb v22_7 (kr (.slice none 0 0) (.int .i64 8) m) (k2 (vcall E.P base m .min [3, 3] [x0, x1]) fun v25_8 m => (k1 (mbuild E.P 62 [(0, x7), (1, x8), (2, v25_8)]) fun v30_9 => (k2 (xbuildSlice E.P m 43 1 [(0, v30_9)]) fun v31_10 m => (k2 (vcall E.P base m .append [43, 43] [x6, v31_10]) fun v32_11 m => (k1 (mbin E .gtr 3 x0 x1) fun v35_12 => (kb v35_12 (k1 (mbin E .add 3 x7 v25_8) fun v38_13 => (k1 (mbin E .sub 3 x0 v25_8) fun v41_14 => (ih v41_14 x1 v32_11 v38_13 x8 m))) (k1 (mbin E .add 3 x8 v25_8) fun v44_15 => (k1 (mbin E .sub 3 x1 v25_8) fun v47_16 => (ih x0 v47_16 v32_11 x7 v44_15 m)))))))))))) (kx0 x6 m)))) (k0 (mpick (.bool false) undef (.bool false)) fun v19_17 => (kb v19_17 (k2 (vcall E.P base m .len [43] [x6]) fun v21_18 m => (k1 (mbin E .eql 3 v21_18 (.int .i64 16)) fun v22_19 => (kb v22_19 (kr (.slice none 0 0) (.int .i64 8) m) (k2 (vcall E.P base m .min [3, 3] [x0, x1]) fun v25_20 m => (k1 (mbuild E.P 62 [(0, x7), (1, x8), (2, v25_20)]) fun v30_21 => (k2 (xbuildSlice E.P m 43 1 [(0, v30_21)]) fun v31_22 m => (k2 (vcall E.P base m .append [43, 43] [x6, v31_22]) fun v32_23 m => (k1 (mbin E .gtr 3 x0 x1) fun v35_24 => (kb v35_24 (k1 (mbin E .add 3 x7 v25_20) fun v38_25 => (k1 (mbin E .sub 3 x0 v25_20) fun v41_26 => (ih v41_26 x1 v32_23 v38_25 x8 m))) (k1 (mbin E .add 3 x8 v25_20) fun v44_27 => (k1 (mbin E .sub 3 x1 v25_20) fun v47_28 => (ih x0 v47_28 v32_23 x7 v44_27 m)))))))))))) (kx0 x6 m)))))) n

noncomputable def r33 (call : CallF) (fuel base : Nat) (x0 : Value) (x1 : Value) (m : M) : Res2 :=
  (kc (call base 52 [x0, x1] m) (fun v12_1 m => (k1 (mun .not v12_1) fun v13_2 => (kb v13_2 (some (.ret (.tuple #[(.slice none 0 0), (.int .i64 2)]), m)) (r33_L0 call fuel base (fun y4_29 y5_30 m => (some (.ret (.tuple #[y4_29, y5_30]), m))) (fun y6_31 m => (some (.ret (.tuple #[y6_31, (.int .i64 0)]), m))) fuel x0 x1 (.slice none 0 0) (.int .i64 0) (.int .i64 0) m)))) (fun v m => some (.pan v, m)))

def keep33 : Keep := { region := fun i => ([[0, 1], [0, 1, 13], [4, 5], [0, 1, 6], [0, 1, 6, 7, 8], [0, 1, 6, 7, 8, 19], [0, 1, 6, 7, 8, 22], [4, 5], [0, 1, 6, 7, 8, 9], [0, 1, 6, 7, 8, 9], [0, 1, 6, 7, 8, 9, 35], [0, 1, 6, 7, 8, 9], [0, 1, 6, 7, 8], [0, 1, 6, 7, 8, 9], [0, 1, 6, 7, 8], [4, 5]] : List (List Nat))[i]?, exit := fun i => ([[6], [0, 1, 6, 7, 8]] : List (List Nat))[i]?, ret := some [4, 5] }

noncomputable def r33_L0_R (call : CallF) (fuel base n : Nat) (vs : List Value) (m : M) (K : KT) : Res2 := match vs with
  | [x0, x1, x6, x7, x8] => r33_L0 call fuel base (fun y4 y5 m => K .ret { n := 49, l := [(4, y4), (5, y5)] } m) (fun y6 m => K (.exit 0) { n := 49, l := [(6, y6)] } m) n x0 x1 x6 x7 x8 m
  | _ => none

noncomputable def lp33 (call : CallF) (fuel base : Nat) : Lp := lpsel [(0, fun T m K => kslots 49 [0, 1, 6, 7, 8] T fun vs => r33_L0_R call fuel base fuel vs m K)]

noncomputable def c33 : Code := Try.f33.body.getD .skip

theorem r33_L0_lk (call : CallF) (fuel base : Nat) : LoopsOk E call (lp33 call fuel base) fuel base 0 (loopB (blockB (seqL (seqR (seqR (seqR (seqR c33))))))) = (And (And True (And True True)) (And (And True (And (And True True) True)) (And True (And True (And True (And (And True True) (And True True))))))) := by kernel_rfl

theorem r33_L0_ok (call : CallF) (fuel base : Nat) : LpOk E call (lp33 call fuel base) fuel base 0 (loopB (blockB (seqL (seqR (seqR (seqR (seqR c33))))))) := by
  refine loop_ok (kp := keep33) (hb := Eq.mpr (r33_L0_lk call fuel base) (And.intro (And.intro trivial (And.intro trivial trivial)) (And.intro (And.intro trivial (And.intro (And.intro trivial trivial) trivial)) (And.intro trivial (And.intro trivial (And.intro trivial (And.intro (And.intro trivial trivial) (And.intro trivial trivial)))))))) 49 [0, 1, 6, 7, 8] (fun n vs m K => r33_L0_R call fuel base n vs m K) ?_ ?_ (fun _ _ _ => rfl)
  · intro vs m K
    unfold r33_L0_R
    split <;> rfl
  · intro n vs m K hl
    match vs, hl with
    | [x0, x1, x6, x7, x8], _ => show _ = _; kernel_rfl

theorem r33_eq (call : CallF) (fuel base : Nat) (x0 : Value) (x1 : Value) (m : M) : kbody E call keep33 (lp33 call fuel base) base Try.f33 [x0, x1] m = r33 call fuel base x0 x1 m := by
  kernel_rfl

noncomputable def rf33 : RF := fun call fuel base args m => match args with
  | [x0, x1] => r33 call fuel base x0 x1 m
  | _ => none

theorem r33_lk (call : CallF) (fuel base : Nat) : LoopsOk E call (lp33 call fuel base) fuel base 0 c33 = (And True (And (And True (And (And True True) True)) (And True (And True (And (LpOk E call (lp33 call fuel base) fuel base 0 (loopB (blockB (seqL (seqR (seqR (seqR (seqR c33)))))))) (And True True)))))) := by kernel_rfl

theorem r33_fn : E.P.funcs[33]? = some Try.f33 := by kernel_rfl
theorem r33_body : Try.f33.body = some c33 := by kernel_rfl

theorem rf33_ok : RFok E 33 rf33 := by
  refine ⟨Try.f33, r33_fn, fun call fuel base args m r _ h => ?_⟩
  unfold rf33 at h
  split at h
  · rw [← r33_eq] at h
    exact kbody_sound (c := c33) r33_body (Eq.mpr (r33_lk call fuel base) (And.intro trivial (And.intro (And.intro trivial (And.intro (And.intro trivial trivial) trivial)) (And.intro trivial (And.intro trivial (And.intro (r33_L0_ok call fuel base) (And.intro trivial trivial))))))) h
  · simp at h

noncomputable def r34_L0 (call : CallF) (fuel base : Nat) (kr : Value → Value → M → Res2) (kx0 : Value → M → Res2) (n : Nat) : Value → Value → Value → Value → Value → M → Res2 :=
  Nat.rec (motive := fun _ => Value → Value → Value → Value → Value → M → Res2) (fun _ _ _ _ _ _ => none)
    (fun _ ih x0 x1 x6 x7 x8 m =>
      (k1 (mbin E .gtr 3 x0 (.int .i64 0)) fun v15_3 => (kb v15_3 (k1 (mbin E .gtr 3 x1 (.int .i64 0)) fun v18_4 => (k0 (mpick (.bool true) v18_4 (.bool false)) fun v19_5 => (kb v19_5 (k2 (vcall E.P base m .len [43] [x6]) fun v21_6 m => (k1 (mbin E .eql 3 v21_6 (.int .i64 16)) fun v22_7 => (kb v22_7 (kr (.slice none 0 0) (.int .i64 8) m) (k2 (vcall E.P base m .min [3, 3] [x0, x1]) fun v25_8 m => (k1 (mbuild E.P 62 [(0, x7), (1, x8), (2, v25_8)]) fun v30_9 => (k2 (xbuildSlice E.P m 43 1 [(0, v30_9)]) fun v31_10 m => (k2 (vcall E.P base m .append [43, 43] [x6, v31_10]) fun v32_11 m => (k1 (mbin E .gtr 3 x0 x1) fun v35_12 => (kb v35_12 (k1 (mbin E .add 3 x7 v25_8) fun v38_13 => (k1 (mbin E .sub 3 x0 v25_8) fun v41_14 => (ih v41_14 x1 v32_11 v38_13 x8 m))) (k1 (mbin E .add 3 x8 v25_8) fun v44_15 => (k1 (mbin E .sub 3 x1 v25_8) fun v47_16 => (ih x0 v47_16 v32_11 x7 v44_15 m)))))))))))) (kx0 x6 m)))) (k0 (mpick (.bool false) undef (.bool false)) fun v19_17 => (kb v19_17 (k2 (vcall E.P base m .len [43] [x6]) fun v21_18 m => (k1 (mbin E .eql 3 v21_18 (.int .i64 16)) fun v22_19 => (kb v22_19 (kr (.slice none 0 0) (.int .i64 8) m) (k2 (vcall E.P base m .min [3, 3] [x0, x1]) fun v25_20 m => (k1 (mbuild E.P 62 [(0, x7), (1, x8), (2, v25_20)]) fun v30_21 => (k2 (xbuildSlice E.P m 43 1 [(0, v30_21)]) fun v31_22 m => (k2 (vcall E.P base m .append [43, 43] [x6, v31_22]) fun v32_23 m => (k1 (mbin E .gtr 3 x0 x1) fun v35_24 => (kb v35_24 (k1 (mbin E .add 3 x7 v25_20) fun v38_25 => (k1 (mbin E .sub 3 x0 v25_20) fun v41_26 => (ih v41_26 x1 v32_23 v38_25 x8 m))) (k1 (mbin E .add 3 x8 v25_20) fun v44_27 => (k1 (mbin E .sub 3 x1 v25_20) fun v47_28 => (ih x0 v47_28 v32_23 x7 v44_27 m)))))))))))) (kx0 x6 m)))))) n

noncomputable def r34 (call : CallF) (fuel base : Nat) (x0 : Value) (x1 : Value) (m : M) : Res2 :=
  (kc (call base 54 [x0, x1] m) (fun v12_1 m => (k1 (mun .not v12_1) fun v13_2 => (kb v13_2 (some (.ret (.tuple #[(.slice none 0 0), (.int .i64 2)]), m)) (r34_L0 call fuel base (fun y4_29 y5_30 m => (some (.ret (.tuple #[y4_29, y5_30]), m))) (fun y6_31 m => (some (.ret (.tuple #[y6_31, (.int .i64 0)]), m))) fuel x0 x1 (.slice none 0 0) (.int .i64 0) (.int .i64 0) m)))) (fun v m => some (.pan v, m)))

def keep34 : Keep := { region := fun i => ([[0, 1], [0, 1, 13], [4, 5], [0, 1, 6], [0, 1, 6, 7, 8], [0, 1, 6, 7, 8, 19], [0, 1, 6, 7, 8, 22], [4, 5], [0, 1, 6, 7, 8, 9], [0, 1, 6, 7, 8, 9], [0, 1, 6, 7, 8, 9, 35], [0, 1, 6, 7, 8, 9], [0, 1, 6, 7, 8], [0, 1, 6, 7, 8, 9], [0, 1, 6, 7, 8], [4, 5]] : List (List Nat))[i]?, exit := fun i => ([[6], [0, 1, 6, 7, 8]] : List (List Nat))[i]?, ret := some [4, 5] }

noncomputable def r34_L0_R (call : CallF) (fuel base n : Nat) (vs : List Value) (m : M) (K : KT) : Res2 := match vs with
  | [x0, x1, x6, x7, x8] => r34_L0 call fuel base (fun y4 y5 m => K .ret { n := 49, l := [(4, y4), (5, y5)] } m) (fun y6 m => K (.exit 0) { n := 49, l := [(6, y6)] } m) n x0 x1 x6 x7 x8 m
  | _ => none

noncomputable def lp34 (call : CallF) (fuel base : Nat) : Lp := lpsel [(0, fun T m K => kslots 49 [0, 1, 6, 7, 8] T fun vs => r34_L0_R call fuel base fuel vs m K)]

noncomputable def c34 : Code := Try.f34.body.getD .skip

theorem r34_L0_lk (call : CallF) (fuel base : Nat) : LoopsOk E call (lp34 call fuel base) fuel base 0 (loopB (blockB (seqL (seqR (seqR (seqR (seqR c34))))))) = (And (And True (And True True)) (And (And True (And (And True True) True)) (And True (And True (And True (And (And True True) (And True True))))))) := by kernel_rfl

theorem r34_L0_ok (call : CallF) (fuel base : Nat) : LpOk E call (lp34 call fuel base) fuel base 0 (loopB (blockB (seqL (seqR (seqR (seqR (seqR c34))))))) := by
  refine loop_ok (kp := keep34) (hb := Eq.mpr (r34_L0_lk call fuel base) (And.intro (And.intro trivial (And.intro trivial trivial)) (And.intro (And.intro trivial (And.intro (And.intro trivial trivial) trivial)) (And.intro trivial (And.intro trivial (And.intro trivial (And.intro (And.intro trivial trivial) (And.intro trivial trivial)))))))) 49 [0, 1, 6, 7, 8] (fun n vs m K => r34_L0_R call fuel base n vs m K) ?_ ?_ (fun _ _ _ => rfl)
  · intro vs m K
    unfold r34_L0_R
    split <;> rfl
  · intro n vs m K hl
    match vs, hl with
    | [x0, x1, x6, x7, x8], _ => show _ = _; kernel_rfl

theorem r34_eq (call : CallF) (fuel base : Nat) (x0 : Value) (x1 : Value) (m : M) : kbody E call keep34 (lp34 call fuel base) base Try.f34 [x0, x1] m = r34 call fuel base x0 x1 m := by
  kernel_rfl

noncomputable def rf34 : RF := fun call fuel base args m => match args with
  | [x0, x1] => r34 call fuel base x0 x1 m
  | _ => none

theorem r34_lk (call : CallF) (fuel base : Nat) : LoopsOk E call (lp34 call fuel base) fuel base 0 c34 = (And True (And (And True (And (And True True) True)) (And True (And True (And (LpOk E call (lp34 call fuel base) fuel base 0 (loopB (blockB (seqL (seqR (seqR (seqR (seqR c34)))))))) (And True True)))))) := by kernel_rfl

theorem r34_fn : E.P.funcs[34]? = some Try.f34 := by kernel_rfl
theorem r34_body : Try.f34.body = some c34 := by kernel_rfl

theorem rf34_ok : RFok E 34 rf34 := by
  refine ⟨Try.f34, r34_fn, fun call fuel base args m r _ h => ?_⟩
  unfold rf34 at h
  split at h
  · rw [← r34_eq] at h
    exact kbody_sound (c := c34) r34_body (Eq.mpr (r34_lk call fuel base) (And.intro trivial (And.intro (And.intro trivial (And.intro (And.intro trivial trivial) trivial)) (And.intro trivial (And.intro trivial (And.intro (r34_L0_ok call fuel base) (And.intro trivial trivial))))))) h
  · simp at h


noncomputable def r41 (call : CallF) (fuel base : Nat) (m : M) : Res2 :=
  (k1 (mbuild E.P 62 [(0, (.int .i64 0)), (1, (.int .i64 0)), (2, (.int .i64 18))]) fun v1_1 => (k1 (mbuild E.P 62 [(0, (.int .i64 18)), (1, (.int .i64 0)), (2, (.int .i64 15))]) fun v2_2 => (k1 (mbuild E.P 62 [(0, (.int .i64 18)), (1, (.int .i64 15)), (2, (.int .i64 7))]) fun v3_3 => (k1 (mbuild E.P 62 [(0, (.int .i64 25)), (1, (.int .i64 15)), (2, (.int .i64 8))]) fun v4_4 => (k1 (mbuild E.P 62 [(0, (.int .i64 0)), (1, (.int .i64 18)), (2, (.int .i64 14))]) fun v5_5 => (k1 (mbuild E.P 62 [(0, (.int .i64 14)), (1, (.int .i64 18)), (2, (.int .i64 4))]) fun v6_6 => (k1 (mbuild E.P 62 [(0, (.int .i64 14)), (1, (.int .i64 22)), (2, (.int .i64 10))]) fun v7_7 => (k1 (mbuild E.P 62 [(0, (.int .i64 24)), (1, (.int .i64 22)), (2, (.int .i64 1))]) fun v8_8 => (k1 (mbuild E.P 62 [(0, (.int .i64 24)), (1, (.int .i64 23)), (2, (.int .i64 9))]) fun v9_9 => (k2 (xbuildSlice E.P m 43 9 [(0, v1_1), (1, v2_2), (2, v3_3), (3, v4_4), (4, v5_5), (5, v6_6), (6, v7_7), (7, v8_8), (8, v9_9)]) fun v10_10 m => (fVal v10_10 fun v => some (.ret v, m))))))))))))

def keep41 : Keep := { region := fun i => ([[], [0]] : List (List Nat))[i]?, exit := fun i => ([] : List (List Nat))[i]?, ret := some [0] }

noncomputable def lp41 (call : CallF) (fuel base : Nat) : Lp := lpsel []

noncomputable def c41 : Code := Try.f41.body.getD .skip

theorem r41_eq (call : CallF) (fuel base : Nat) (m : M) : kbody E call keep41 (lp41 call fuel base) base Try.f41 [] m = r41 call fuel base  m := by
  kernel_rfl

noncomputable def rf41 : RF := fun call fuel base args m => match args with
  | [] => r41 call fuel base  m
  | _ => none

theorem r41_lk (call : CallF) (fuel base : Nat) : LoopsOk E call (lp41 call fuel base) fuel base 0 c41 = (And True (And True True)) := by kernel_rfl

theorem r41_fn : E.P.funcs[41]? = some Try.f41 := by kernel_rfl
theorem r41_body : Try.f41.body = some c41 := by kernel_rfl

theorem rf41_ok : RFok E 41 rf41 := by
  refine ⟨Try.f41, r41_fn, fun call fuel base args m r _ h => ?_⟩
  unfold rf41 at h
  split at h
  · rw [← r41_eq] at h
    exact kbody_sound (c := c41) r41_body (Eq.mpr (r41_lk call fuel base) (And.intro trivial (And.intro trivial trivial))) h
  · simp at h

noncomputable def r42_L0 (call : CallF) (fuel base : Nat) (kp : Value → M → Res2) (kr : Value → M → Res2) (kx0 : M → Res2) (n : Nat) : Value → Value → Value → Value → M → Res2 :=
  Nat.rec (motive := fun _ => Value → Value → Value → Value → M → Res2) (fun _ _ _ _ _ => none)
    (fun _ ih x0 x16 x17 x18 m =>
      (k1 (mbin E .lss 3 x18 x17) fun v19_6 => (kb v19_6 (k1 (mindexAddr E.P 22 x16 x18) fun v20_7 => (k1 (xload E.P m 59 v20_7) fun v21_8 => (k2 (xalloc E.P m 59) fun v6_9 m => (ks (xstore E.P base m 59 v6_9 v21_8) fun m => (k1 (mfieldAddr E.P 59 v6_9 0) fun v23_10 => (k1 (xload E.P m 3 v23_10) fun v24_11 => (k1 (mfieldAddr E.P 59 v6_9 1) fun v25_12 => (k1 (xload E.P m 3 v25_12) fun v26_13 => (kc (call base 65 [x0, v24_11, v26_13] m) (fun v27_14 m => (k1 (mun .not v27_14) fun v28_15 => (kb v28_15 (kr (.int .i64 2) m) (k1 (mbin E .add 3 x18 (.int .i64 1)) fun v29_16 => (ih x0 x16 x17 v29_16 m))))) (fun v m => kp v m)))))))))) (kx0 m)))) n

noncomputable def r42 (call : CallF) (fuel base : Nat) (x0 : Value) (x1 : Value) (m : M) : Res2 :=
  (k1 (mbin E .lss 3 x0 (.int .i64 2)) fun v8_1 => (kb v8_1 (k0 (mpick (.bool true) (.bool true) undef) fun v12_2 => (kb v12_2 (fVal (.int .i64 2) fun v => some (.ret v, m)) (k2 (vcall E.P base m .len [22] [x1]) fun v14_3 m => (k1 (mbin E .gtr 3 v14_3 (.int .i64 16)) fun v15_4 => (kb v15_4 (fVal (.int .i64 3) fun v => some (.ret v, m)) (k2 (vcall E.P base m .len [22] [x1]) fun v17_5 m => (r42_L0 call fuel base (fun v m => some (.pan v, m)) (fun y4_17 m => (fVal y4_17 fun v => some (.ret v, m))) (fun m => (fVal (.int .i64 0) fun v => some (.ret v, m))) fuel x0 x1 v17_5 (.int .i64 0) m))))))) (k1 (mbin E .gtr 3 x0 (.int .i64 8)) fun v11_18 => (k0 (mpick (.bool false) (.bool true) v11_18) fun v12_19 => (kb v12_19 (fVal (.int .i64 2) fun v => some (.ret v, m)) (k2 (vcall E.P base m .len [22] [x1]) fun v14_20 m => (k1 (mbin E .gtr 3 v14_20 (.int .i64 16)) fun v15_21 => (kb v15_21 (fVal (.int .i64 3) fun v => some (.ret v, m)) (k2 (vcall E.P base m .len [22] [x1]) fun v17_22 m => (r42_L0 call fuel base (fun v m => some (.pan v, m)) (fun y4_23 m => (fVal y4_23 fun v => some (.ret v, m))) (fun m => (fVal (.int .i64 0) fun v => some (.ret v, m))) fuel x0 x1 v17_22 (.int .i64 0) m))))))))))

def keep42 : Keep := { region := fun i => ([[0, 1], [0, 1, 12], [4], [0, 1, 15], [4], [0, 16, 17, 18], [0, 16, 17, 18, 19], [0, 6, 16, 17, 18], [0, 16, 17, 18, 28], [4], [0, 16, 17, 18], [4]] : List (List Nat))[i]?, exit := fun i => ([[], [0, 16, 17, 18]] : List (List Nat))[i]?, ret := some [4] }

noncomputable def r42_L0_R (call : CallF) (fuel base n : Nat) (vs : List Value) (m : M) (K : KT) : Res2 := match vs with
  | [x0, x16, x17, x18] => r42_L0 call fuel base (fun v m => K (.pan v) { n := 30, l := [] } m) (fun y4 m => K .ret { n := 30, l := [(4, y4)] } m) (fun m => K (.exit 0) { n := 30, l := [] } m) n x0 x16 x17 x18 m
  | _ => none

noncomputable def lp42 (call : CallF) (fuel base : Nat) : Lp := lpsel [(0, fun T m K => kslots 30 [0, 16, 17, 18] T fun vs => r42_L0_R call fuel base fuel vs m K)]

noncomputable def c42 : Code := Try.f42.body.getD .skip

theorem r42_L0_lk (call : CallF) (fuel base : Nat) : LoopsOk E call (lp42 call fuel base) fuel base 0 (loopB (blockB (seqR (seqL (seqR (seqR (seqR c42))))))) = (And True (And (And True True) (And (And True (And True (And (And True True) True))) True))) := by kernel_rfl

theorem r42_L0_ok (call : CallF) (fuel base : Nat) : LpOk E call (lp42 call fuel base) fuel base 0 (loopB (blockB (seqR (seqL (seqR (seqR (seqR c42))))))) := by
  refine loop_ok (kp := keep42) (hb := Eq.mpr (r42_L0_lk call fuel base) (And.intro trivial (And.intro (And.intro trivial trivial) (And.intro (And.intro trivial (And.intro trivial (And.intro (And.intro trivial trivial) trivial))) trivial)))) 30 [0, 16, 17, 18] (fun n vs m K => r42_L0_R call fuel base n vs m K) ?_ ?_ (fun _ _ _ => rfl)
  · intro vs m K
    unfold r42_L0_R
    split <;> rfl
  · intro n vs m K hl
    match vs, hl with
    | [x0, x16, x17, x18], _ => show _ = _; kernel_rfl

theorem r42_eq (call : CallF) (fuel base : Nat) (x0 : Value) (x1 : Value) (m : M) : kbody E call keep42 (lp42 call fuel base) base Try.f42 [x0, x1] m = r42 call fuel base x0 x1 m := by
  kernel_rfl

noncomputable def rf42 : RF := fun call fuel base args m => match args with
  | [x0, x1] => r42 call fuel base x0 x1 m
  | _ => none

theorem r42_lk (call : CallF) (fuel base : Nat) : LoopsOk E call (lp42 call fuel base) fuel base 0 c42 = (And True (And (And True (And (And True True) True)) (And (And True (And (And True True) True)) (And (And True (LpOk E call (lp42 call fuel base) fuel base 0 (loopB (blockB (seqR (seqL (seqR (seqR (seqR c42))))))))) (And True True))))) := by kernel_rfl

theorem r42_fn : E.P.funcs[42]? = some Try.f42 := by kernel_rfl
theorem r42_body : Try.f42.body = some c42 := by kernel_rfl

theorem rf42_ok : RFok E 42 rf42 := by
  refine ⟨Try.f42, r42_fn, fun call fuel base args m r _ h => ?_⟩
  unfold rf42 at h
  split at h
  · rw [← r42_eq] at h
    exact kbody_sound (c := c42) r42_body (Eq.mpr (r42_lk call fuel base) (And.intro trivial (And.intro (And.intro trivial (And.intro (And.intro trivial trivial) trivial)) (And.intro (And.intro trivial (And.intro (And.intro trivial trivial) trivial)) (And.intro (And.intro trivial (r42_L0_ok call fuel base)) (And.intro trivial trivial)))))) h
  · simp at h


noncomputable def r43 (call : CallF) (fuel base : Nat) (x0 : Value) (x1 : Value) (m : M) : Res2 :=
  (kc (call base 68 [x0, x1] m) (fun v7_1 m => (k2 (xbuildSlice E.P m 29 1 [(0, (.int .i64 0))]) fun v8_2 m => (kc (call base 67 [v7_1, v8_2] m) (fun v9_3 m => (kc (call base 66 [v9_3] m) (fun v10_4 m => (fVal v10_4 fun v => some (.ret v, m))) (fun v m => some (.pan v, m)))) (fun v m => some (.pan v, m))))) (fun v m => some (.pan v, m)))

def keep43 : Keep := { region := fun i => ([[0, 1], [4]] : List (List Nat))[i]?, exit := fun i => ([] : List (List Nat))[i]?, ret := some [4] }

noncomputable def lp43 (call : CallF) (fuel base : Nat) : Lp := lpsel []

noncomputable def c43 : Code := Try.f43.body.getD .skip

theorem r43_eq (call : CallF) (fuel base : Nat) (x0 : Value) (x1 : Value) (m : M) : kbody E call keep43 (lp43 call fuel base) base Try.f43 [x0, x1] m = r43 call fuel base x0 x1 m := by
  kernel_rfl

noncomputable def rf43 : RF := fun call fuel base args m => match args with
  | [x0, x1] => r43 call fuel base x0 x1 m
  | _ => none

theorem r43_lk (call : CallF) (fuel base : Nat) : LoopsOk E call (lp43 call fuel base) fuel base 0 c43 = (And True (And True True)) := by kernel_rfl

theorem r43_fn : E.P.funcs[43]? = some Try.f43 := by kernel_rfl
theorem r43_body : Try.f43.body = some c43 := by kernel_rfl

theorem rf43_ok : RFok E 43 rf43 := by
  refine ⟨Try.f43, r43_fn, fun call fuel base args m r _ h => ?_⟩
  unfold rf43 at h
  split at h
  · rw [← r43_eq] at h
    exact kbody_sound (c := c43) r43_body (Eq.mpr (r43_lk call fuel base) (And.intro trivial (And.intro trivial trivial))) h
  · simp at h


noncomputable def r45 (call : CallF) (fuel base : Nat) (x0 : Value) (x1 : Value) (x2 : Value) (x3 : Value) (m : M) : Res2 :=
  (kc (call base 42 [x0, x1] m) (fun v12_1 m => (k1 (mbin E .neq 25 v12_1 (.int .i64 0)) fun v14_2 => (kb v14_2 (fVal v12_1 fun v => some (.ret v, m)) (kc (call base 65 [x0, x2, x3] m) (fun v19_3 m => (k1 (mun .not v19_3) fun v20_4 => (kb v20_4 (fVal (.int .i64 2) fun v => some (.ret v, m)) (fVal (.int .i64 0) fun v => some (.ret v, m))))) (fun v m => some (.pan v, m)))))) (fun v m => some (.pan v, m)))

def keep45 : Keep := { region := fun i => ([[0, 1, 2, 3], [0, 2, 3, 9], [0, 2, 3, 9, 14], [8], [20], [8], [8]] : List (List Nat))[i]?, exit := fun i => ([] : List (List Nat))[i]?, ret := some [8] }

noncomputable def lp45 (call : CallF) (fuel base : Nat) : Lp := lpsel []

noncomputable def c45 : Code := Try.f45.body.getD .skip

theorem r45_eq (call : CallF) (fuel base : Nat) (x0 : Value) (x1 : Value) (x2 : Value) (x3 : Value) (m : M) : kbody E call keep45 (lp45 call fuel base) base Try.f45 [x0, x1, x2, x3] m = r45 call fuel base x0 x1 x2 x3 m := by
  kernel_rfl

noncomputable def rf45 : RF := fun call fuel base args m => match args with
  | [x0, x1, x2, x3] => r45 call fuel base x0 x1 x2 x3 m
  | _ => none

theorem r45_lk (call : CallF) (fuel base : Nat) : LoopsOk E call (lp45 call fuel base) fuel base 0 c45 = (And True (And (And True (And True (And (And True True) True))) (And (And True (And (And True True) True)) (And True True)))) := by kernel_rfl

theorem r45_fn : E.P.funcs[45]? = some Try.f45 := by kernel_rfl
theorem r45_body : Try.f45.body = some c45 := by kernel_rfl

theorem rf45_ok : RFok E 45 rf45 := by
  refine ⟨Try.f45, r45_fn, fun call fuel base args m r _ h => ?_⟩
  unfold rf45 at h
  split at h
  · rw [← r45_eq] at h
    exact kbody_sound (c := c45) r45_body (Eq.mpr (r45_lk call fuel base) (And.intro trivial (And.intro (And.intro trivial (And.intro trivial (And.intro (And.intro trivial trivial) trivial))) (And.intro (And.intro trivial (And.intro (And.intro trivial trivial) trivial)) (And.intro trivial trivial))))) h
  · simp at h

noncomputable def r48_L2 (call : CallF) (fuel base : Nat) (kx2 : Value → Value → Value → Value → Value → Value → Value → Value → Value → M → Res2) (n : Nat) : Value → Value → Value → Value → Value → Value → Value → Value → Value → Value → Value → M → Res2 :=
  Nat.rec (motive := fun _ => Value → Value → Value → Value → Value → Value → Value → Value → Value → Value → Value → M → Res2) (fun _ _ _ _ _ _ _ _ _ _ _ _ => none)
    (fun _ ih x0 x1 x2 x3 x9 x10 x11 x16 x17 x27 x28 m =>
      (k1 (mbin E .lss 3 x28 x27) fun v29_8 => (kb v29_8 (k1 (mindexAddr E.P 56 x11 x28) fun v33_9 => (k1 (xload E.P m 29 v33_9) fun v34_10 => (k1 (mindexAddr E.P 29 v34_10 x10) fun v36_11 => (ks (xstore E.P base m 3 v36_11 (.int .i64 0)) fun m => (k1 (mbin E .add 3 x28 (.int .i64 1)) fun v37_12 => (ih x0 x1 x2 x3 x9 x10 x11 x16 x17 x27 v37_12 m)))))) (kx2 x0 x1 x2 x3 x9 x10 x11 x16 x17 m)))) n

noncomputable def r48_L0 (call : CallF) (fuel base : Nat) (kp : Value → M → Res2) (kx0 : Value → M → Res2) (n : Nat) : Value → Value → Value → Value → Value → Value → Value → M → Res2 :=
  Nat.rec (motive := fun _ => Value → Value → Value → Value → Value → Value → Value → M → Res2) (fun _ _ _ _ _ _ _ _ => none)
    (fun _ ih x0 x1 x2 x3 x9 x16 x17 m =>
      (k1 (mbin E .lss 3 x17 x16) fun v18_3 => (kb v18_3 (k1 (mbin E .eql 3 x17 x3) fun v22_4 => (kb v22_4 (k1 (mbin E .add 3 x17 (.int .i64 1)) fun v52_5 => (ih x0 x1 x2 x3 x9 x16 v52_5 m)) (kc (call base 68 [x0, x1] m) (fun v25_6 m => (k2 (vcall E.P base m .len [56] [v25_6]) fun v27_7 m => (r48_L2 call fuel base (fun y0_13 y1_14 y2_15 y3_16 y9_17 y10_18 y11_19 y16_20 y17_21 m => (k1 (mindexAddr E.P 56 y11_19 y2_15) fun v40_22 => (k1 (xload E.P m 29 v40_22) fun v41_23 => (k1 (mindexAddr E.P 29 v41_23 y10_18) fun v43_24 => (ks (xstore E.P base m 3 v43_24 (.int .i64 1)) fun m => (k2 (xbuildSlice E.P m 29 1 [(0, y3_16)]) fun v48_25 m => (kc (call base 67 [y11_19, v48_25] m) (fun v49_26 m => (kc (call base 66 [v49_26] m) (fun v50_27 m => (k1 (mindexAddr E.P 29 y9_17 y10_18) fun v51_28 => (ks (xstore E.P base m 3 v51_28 v50_27) fun m => (k1 (mbin E .add 3 y17_21 (.int .i64 1)) fun v52_29 => (ih y0_13 y1_14 y2_15 y3_16 y9_17 y16_20 v52_29 m))))) (fun v m => kp v m))) (fun v m => kp v m)))))))) fuel x0 x1 x2 x3 x9 x17 v25_6 x16 x17 v27_7 (.int .i64 0) m))) (fun v m => kp v m)))) (kx0 x9 m)))) n

noncomputable def r48 (call : CallF) (fuel base : Nat) (x0 : Value) (x1 : Value) (x2 : Value) (x3 : Value) (m : M) : Res2 :=
  (k2 (xmakeSlice E.P m 29 x0 x0) fun v14_1 m => (k2 (vcall E.P base m .len [29] [v14_1]) fun v16_2 m => (r48_L0 call fuel base (fun v m => some (.pan v, m)) (fun y9_30 m => (fVal y9_30 fun v => some (.ret v, m))) fuel x0 x1 x2 x3 v14_1 v16_2 (.int .i64 0) m)))

def keep48 : Keep := { region := fun i => ([[0, 1, 2, 3], [0, 1, 2, 3, 9], [0, 1, 2, 3, 9, 16, 17], [0, 1, 2, 3, 9, 16, 17, 18], [0, 1, 2, 3, 9, 10, 16, 17], [0, 1, 2, 3, 9, 10, 16, 17, 22], [0, 1, 2, 3, 9, 10, 11, 16, 17], [0, 1, 2, 3, 9, 10, 11, 16, 17, 27, 28], [0, 1, 2, 3, 9, 10, 11, 16, 17, 27, 28, 29], [0, 1, 2, 3, 9, 10, 11, 12, 16, 17, 27, 28], [0, 1, 2, 3, 9, 10, 11, 16, 17, 27, 28], [0, 1, 2, 3, 9, 10, 11, 16, 17, 27, 28], [0, 1, 2, 3, 9, 10, 11, 16, 17], [0, 1, 2, 3, 9, 16, 17], [0, 1, 2, 3, 9, 16, 17], [8]] : List (List Nat))[i]?, exit := fun i => ([[9], [0, 1, 2, 3, 9, 16, 17], [0, 1, 2, 3, 9, 10, 11, 16, 17], [0, 1, 2, 3, 9, 10, 11, 16, 17, 27, 28]] : List (List Nat))[i]?, ret := some [8] }

noncomputable def r48_L2_R (call : CallF) (fuel base n : Nat) (vs : List Value) (m : M) (K : KT) : Res2 := match vs with
  | [x0, x1, x2, x3, x9, x10, x11, x16, x17, x27, x28] => r48_L2 call fuel base (fun y0 y1 y2 y3 y9 y10 y11 y16 y17 m => K (.exit 2) { n := 54, l := [(0, y0), (1, y1), (2, y2), (3, y3), (9, y9), (10, y10), (11, y11), (16, y16), (17, y17)] } m) n x0 x1 x2 x3 x9 x10 x11 x16 x17 x27 x28 m
  | _ => none

noncomputable def r48_L0_R (call : CallF) (fuel base n : Nat) (vs : List Value) (m : M) (K : KT) : Res2 := match vs with
  | [x0, x1, x2, x3, x9, x16, x17] => r48_L0 call fuel base (fun v m => K (.pan v) { n := 54, l := [] } m) (fun y9 m => K (.exit 0) { n := 54, l := [(9, y9)] } m) n x0 x1 x2 x3 x9 x16 x17 m
  | _ => none

noncomputable def lp48 (call : CallF) (fuel base : Nat) : Lp := lpsel [(2, fun T m K => kslots 54 [0, 1, 2, 3, 9, 10, 11, 16, 17, 27, 28] T fun vs => r48_L2_R call fuel base fuel vs m K), (0, fun T m K => kslots 54 [0, 1, 2, 3, 9, 16, 17] T fun vs => r48_L0_R call fuel base fuel vs m K)]

noncomputable def c48 : Code := Try.f48.body.getD .skip

theorem r48_L2_lk (call : CallF) (fuel base : Nat) : LoopsOk E call (lp48 call fuel base) fuel base 2 (loopB (blockB (seqR (seqL (seqR (seqR (seqR (blockB (seqL (seqR (seqR (loopB (blockB (seqR (seqL (seqR (seqR c48))))))))))))))))) = (And True (And (And True True) (And (And True True) True))) := by kernel_rfl

theorem r48_L2_ok (call : CallF) (fuel base : Nat) : LpOk E call (lp48 call fuel base) fuel base 2 (loopB (blockB (seqR (seqL (seqR (seqR (seqR (blockB (seqL (seqR (seqR (loopB (blockB (seqR (seqL (seqR (seqR c48))))))))))))))))) := by
  refine loop_ok (kp := keep48) (hb := Eq.mpr (r48_L2_lk call fuel base) (And.intro trivial (And.intro (And.intro trivial trivial) (And.intro (And.intro trivial trivial) trivial)))) 54 [0, 1, 2, 3, 9, 10, 11, 16, 17, 27, 28] (fun n vs m K => r48_L2_R call fuel base n vs m K) ?_ ?_ (fun _ _ _ => rfl)
  · intro vs m K
    unfold r48_L2_R
    split <;> rfl
  · intro n vs m K hl
    match vs, hl with
    | [x0, x1, x2, x3, x9, x10, x11, x16, x17, x27, x28], _ => show _ = _; kernel_rfl

theorem r48_L0_lk (call : CallF) (fuel base : Nat) : LoopsOk E call (lp48 call fuel base) fuel base 0 (loopB (blockB (seqR (seqL (seqR (seqR c48)))))) = (And True (And (And True True) (And (And True (And (And True (And True True)) (And True (And (And True (LpOk E call (lp48 call fuel base) fuel base 2 (loopB (blockB (seqR (seqL (seqR (seqR (seqR (blockB (seqL (seqR (seqR (loopB (blockB (seqR (seqL (seqR (seqR c48))))))))))))))))))) (And True True))))) True))) := by kernel_rfl

theorem r48_L0_ok (call : CallF) (fuel base : Nat) : LpOk E call (lp48 call fuel base) fuel base 0 (loopB (blockB (seqR (seqL (seqR (seqR c48)))))) := by
  refine loop_ok (kp := keep48) (hb := Eq.mpr (r48_L0_lk call fuel base) (And.intro trivial (And.intro (And.intro trivial trivial) (And.intro (And.intro trivial (And.intro (And.intro trivial (And.intro trivial trivial)) (And.intro trivial (And.intro (And.intro trivial (r48_L2_ok call fuel base)) (And.intro trivial trivial))))) trivial)))) 54 [0, 1, 2, 3, 9, 16, 17] (fun n vs m K => r48_L0_R call fuel base n vs m K) ?_ ?_ (fun _ _ _ => rfl)
  · intro vs m K
    unfold r48_L0_R
    split <;> rfl
  · intro n vs m K hl
    match vs, hl with
    | [x0, x1, x2, x3, x9, x16, x17], _ => show _ = _; kernel_rfl

theorem r48_eq (call : CallF) (fuel base : Nat) (x0 : Value) (x1 : Value) (x2 : Value) (x3 : Value) (m : M) : kbody E call keep48 (lp48 call fuel base) base Try.f48 [x0, x1, x2, x3] m = r48 call fuel base x0 x1 x2 x3 m := by
  kernel_rfl

noncomputable def rf48 : RF := fun call fuel base args m => match args with
  | [x0, x1, x2, x3] => r48 call fuel base x0 x1 x2 x3 m
  | _ => none

theorem r48_lk (call : CallF) (fuel base : Nat) : LoopsOk E call (lp48 call fuel base) fuel base 0 c48 = (And True (And True (And (And True (LpOk E call (lp48 call fuel base) fuel base 0 (loopB (blockB (seqR (seqL (seqR (seqR c48)))))))) (And True True)))) := by kernel_rfl

theorem r48_fn : E.P.funcs[48]? = some Try.f48 := by kernel_rfl
theorem r48_body : Try.f48.body = some c48 := by kernel_rfl

theorem rf48_ok : RFok E 48 rf48 := by
  refine ⟨Try.f48, r48_fn, fun call fuel base args m r _ h => ?_⟩
  unfold rf48 at h
  split at h
  · rw [← r48_eq] at h
    exact kbody_sound (c := c48) r48_body (Eq.mpr (r48_lk call fuel base) (And.intro trivial (And.intro trivial (And.intro (And.intro trivial (r48_L0_ok call fuel base)) (And.intro trivial trivial))))) h
  · simp at h


noncomputable def r52 (call : CallF) (fuel base : Nat) (x0 : Value) (x1 : Value) (m : M) : Res2 :=
  (k1 (mbin E .leq 3 (.int .i64 1) x0) fun v6_1 => (kb v6_1 (k1 (mbin E .leq 3 x0 (.int .i64 1000)) fun v9_2 => (k0 (mpick (.bool true) v9_2 (.bool false)) fun v10_3 => (kb v10_3 (k1 (mbin E .leq 3 (.int .i64 1) x1) fun v13_4 => (k0 (mpick (.bool true) v13_4 (.bool false)) fun v14_5 => (kb v14_5 (k1 (mbin E .leq 3 x1 (.int .i64 1000)) fun v17_6 => (k0 (mpick (.bool true) v17_6 (.bool false)) fun v18_7 => (fVal v18_7 fun v => some (.ret v, m)))) (k0 (mpick (.bool false) undef (.bool false)) fun v18_8 => (fVal v18_8 fun v => some (.ret v, m)))))) (k0 (mpick (.bool false) undef (.bool false)) fun v14_9 => (kb v14_9 (k1 (mbin E .leq 3 x1 (.int .i64 1000)) fun v17_10 => (k0 (mpick (.bool true) v17_10 (.bool false)) fun v18_11 => (fVal v18_11 fun v => some (.ret v, m)))) (k0 (mpick (.bool false) undef (.bool false)) fun v18_12 => (fVal v18_12 fun v => some (.ret v, m)))))))) (k0 (mpick (.bool false) undef (.bool false)) fun v10_13 => (kb v10_13 (k1 (mbin E .leq 3 (.int .i64 1) x1) fun v13_14 => (k0 (mpick (.bool true) v13_14 (.bool false)) fun v14_15 => (kb v14_15 (k1 (mbin E .leq 3 x1 (.int .i64 1000)) fun v17_16 => (k0 (mpick (.bool true) v17_16 (.bool false)) fun v18_17 => (fVal v18_17 fun v => some (.ret v, m)))) (k0 (mpick (.bool false) undef (.bool false)) fun v18_18 => (fVal v18_18 fun v => some (.ret v, m)))))) (k0 (mpick (.bool false) undef (.bool false)) fun v14_19 => (kb v14_19 (k1 (mbin E .leq 3 x1 (.int .i64 1000)) fun v17_20 => (k0 (mpick (.bool true) v17_20 (.bool false)) fun v18_21 => (fVal v18_21 fun v => some (.ret v, m)))) (k0 (mpick (.bool false) undef (.bool false)) fun v18_22 => (fVal v18_22 fun v => some (.ret v, m)))))))))

def keep52 : Keep := { region := fun i => ([[0, 1], [4]] : List (List Nat))[i]?, exit := fun i => ([] : List (List Nat))[i]?, ret := some [4] }

noncomputable def lp52 (call : CallF) (fuel base : Nat) : Lp := lpsel []

noncomputable def c52 : Code := Try.f52.body.getD .skip

theorem r52_eq (call : CallF) (fuel base : Nat) (x0 : Value) (x1 : Value) (m : M) : kbody E call keep52 (lp52 call fuel base) base Try.f52 [x0, x1] m = r52 call fuel base x0 x1 m := by
  kernel_rfl

noncomputable def rf52 : RF := fun call fuel base args m => match args with
  | [x0, x1] => r52 call fuel base x0 x1 m
  | _ => none

theorem r52_lk (call : CallF) (fuel base : Nat) : LoopsOk E call (lp52 call fuel base) fuel base 0 c52 = (And True (And True True)) := by kernel_rfl

theorem r52_fn : E.P.funcs[52]? = some Try.f52 := by kernel_rfl
theorem r52_body : Try.f52.body = some c52 := by kernel_rfl

theorem rf52_ok : RFok E 52 rf52 := by
  refine ⟨Try.f52, r52_fn, fun call fuel base args m r _ h => ?_⟩
  unfold rf52 at h
  split at h
  · rw [← r52_eq] at h
    exact kbody_sound (c := c52) r52_body (Eq.mpr (r52_lk call fuel base) (And.intro trivial (And.intro trivial trivial))) h
  · simp at h

noncomputable def r53_L2 (call : CallF) (fuel base : Nat) (kp : Value → M → Res2) (kr : Value → M → Res2) (kx2 : Value → Value → Value → Value → Value → Value → Value → Value → M → Res2) (n : Nat) : Value → Value → Value → Value → Value → Value → Value → Value → Value → Value → Value → M → Res2 :=
  Nat.rec (motive := fun _ => Value → Value → Value → Value → Value → Value → Value → Value → Value → Value → Value → M → Res2) (fun _ _ _ _ _ _ _ _ _ _ _ _ => none)
    (fun _ ih x0 x1 x2 x7 x9 x12 x13 x14 x26 x27 x28 m =>
      (k1 (mbin E .lss 3 x28 x27) fun v29_11 => (kb v29_11 (k1 (mindexAddr E.P 43 x26 x28) fun v30_12 => (k1 (xload E.P m 62 v30_12) fun v31_13 => (k2 (xalloc E.P m 62) fun v11_14 m => (ks (xstore E.P base m 62 v11_14 v31_13) fun m => (k1 (xload E.P m 62 v11_14) fun v32_15 => (k1 (xload E.P m 62 x9) fun v33_16 => (kc (call base 75 [v32_15, v33_16] m) (fun v34_17 m => (kb v34_17 (kr (.bool false) m) (k1 (mbin E .add 3 x28 (.int .i64 1)) fun v35_18 => (ih x0 x1 x2 x7 x9 x12 x13 x14 x26 x27 v35_18 m)))) (fun v m => kp v m)))))))) (kx2 x0 x1 x2 x7 x9 x12 x13 x14 m)))) n

noncomputable def r53_L0 (call : CallF) (fuel base : Nat) (kp : Value → M → Res2) (kr : Value → M → Res2) (kx0 : Value → Value → Value → M → Res2) (n : Nat) : Value → Value → Value → Value → Value → Value → Value → M → Res2 :=
  Nat.rec (motive := fun _ => Value → Value → Value → Value → Value → Value → Value → M → Res2) (fun _ _ _ _ _ _ _ _ => none)
    (fun _ ih x0 x1 x2 x7 x12 x13 x14 m =>
      (k1 (mbin E .lss 3 x14 x13) fun v15_2 => (kb v15_2 (k1 (mindexAddr E.P 43 x12 x14) fun v17_3 => (k1 (xload E.P m 62 v17_3) fun v18_4 => (k2 (xalloc E.P m 62) fun v9_5 m => (ks (xstore E.P base m 62 v9_5 v18_4) fun m => (k1 (xload E.P m 62 v9_5) fun v21_6 => (kc (call base 74 [x0, x1, v21_6] m) (fun v22_7 m => (k1 (mun .not v22_7) fun v23_8 => (kb v23_8 (kr (.bool false) m) (k1 (mslice E.P m 43 x2 none (some x14) none) fun v26_9 => (k2 (vcall E.P base m .len [43] [v26_9]) fun v27_10 m => (r53_L2 call fuel base (fun v m => kp v m) (fun y6_19 m => (kr y6_19 m)) (fun y0_20 y1_21 y2_22 y7_23 y9_24 y12_25 y13_26 y14_27 m => (k1 (mfieldAddr E.P 62 y9_24 2) fun v37_28 => (k1 (xload E.P m 3 v37_28) fun v38_29 => (k1 (mfieldAddr E.P 62 y9_24 2) fun v39_30 => (k1 (xload E.P m 3 v39_30) fun v40_31 => (k1 (mbin E .mul 3 v38_29 v40_31) fun v41_32 => (k1 (mbin E .add 3 y7_23 v41_32) fun v42_33 => (k1 (mbin E .add 3 y14_27 (.int .i64 1)) fun v43_34 => (ih y0_20 y1_21 y2_22 v42_33 y12_25 y13_26 v43_34 m))))))))) fuel x0 x1 x2 x7 v9_5 x12 x13 x14 v26_9 v27_10 (.int .i64 0) m)))))) (fun v m => kp v m))))))) (kx0 x0 x1 x7 m)))) n

noncomputable def r53 (call : CallF) (fuel base : Nat) (x0 : Value) (x1 : Value) (x2 : Value) (m : M) : Res2 :=
  (k2 (vcall E.P base m .len [43] [x2]) fun v13_1 m => (r53_L0 call fuel base (fun v m => some (.pan v, m)) (fun y6_35 m => (fVal y6_35 fun v => some (.ret v, m))) (fun y0_36 y1_37 y7_38 m => (k1 (mbin E .mul 3 y0_36 y1_37) fun v47_39 => (k1 (mbin E .eql 3 y7_38 v47_39) fun v48_40 => (fVal v48_40 fun v => some (.ret v, m))))) fuel x0 x1 x2 (.int .i64 0) x2 v13_1 (.int .i64 0) m))

def keep53 : Keep := { region := fun i => ([[0, 1, 2], [0, 1, 2, 7], [0, 1, 2, 7, 12, 13, 14], [0, 1, 2, 7, 12, 13, 14, 15], [0, 1, 2, 7, 8, 9, 12, 13, 14], [0, 1, 2, 7, 8, 9, 12, 13, 14, 23], [6], [0, 1, 2, 7, 9, 12, 13, 14, 26, 27, 28], [0, 1, 2, 7, 9, 12, 13, 14, 26, 27, 28, 29], [0, 1, 2, 7, 9, 11, 12, 13, 14, 26, 27, 28], [0, 1, 2, 7, 9, 12, 13, 14, 26, 27, 28, 34], [6], [0, 1, 2, 7, 9, 12, 13, 14, 26, 27, 28], [0, 1, 2, 7, 12, 13, 14], [0, 1, 2, 7, 12, 13, 14], [6]] : List (List Nat))[i]?, exit := fun i => ([[0, 1, 7], [0, 1, 2, 7, 12, 13, 14], [0, 1, 2, 7, 9, 12, 13, 14], [0, 1, 2, 7, 9, 12, 13, 14, 26, 27, 28]] : List (List Nat))[i]?, ret := some [6] }

noncomputable def r53_L2_R (call : CallF) (fuel base n : Nat) (vs : List Value) (m : M) (K : KT) : Res2 := match vs with
  | [x0, x1, x2, x7, x9, x12, x13, x14, x26, x27, x28] => r53_L2 call fuel base (fun v m => K (.pan v) { n := 49, l := [] } m) (fun y6 m => K .ret { n := 49, l := [(6, y6)] } m) (fun y0 y1 y2 y7 y9 y12 y13 y14 m => K (.exit 2) { n := 49, l := [(0, y0), (1, y1), (2, y2), (7, y7), (9, y9), (12, y12), (13, y13), (14, y14)] } m) n x0 x1 x2 x7 x9 x12 x13 x14 x26 x27 x28 m
  | _ => none

noncomputable def r53_L0_R (call : CallF) (fuel base n : Nat) (vs : List Value) (m : M) (K : KT) : Res2 := match vs with
  | [x0, x1, x2, x7, x12, x13, x14] => r53_L0 call fuel base (fun v m => K (.pan v) { n := 49, l := [] } m) (fun y6 m => K .ret { n := 49, l := [(6, y6)] } m) (fun y0 y1 y7 m => K (.exit 0) { n := 49, l := [(0, y0), (1, y1), (7, y7)] } m) n x0 x1 x2 x7 x12 x13 x14 m
  | _ => none

noncomputable def lp53 (call : CallF) (fuel base : Nat) : Lp := lpsel [(2, fun T m K => kslots 49 [0, 1, 2, 7, 9, 12, 13, 14, 26, 27, 28] T fun vs => r53_L2_R call fuel base fuel vs m K), (0, fun T m K => kslots 49 [0, 1, 2, 7, 12, 13, 14] T fun vs => r53_L0_R call fuel base fuel vs m K)]

noncomputable def c53 : Code := Try.f53.body.getD .skip

theorem r53_L2_lk (call : CallF) (fuel base : Nat) : LoopsOk E call (lp53 call fuel base) fuel base 2 (loopB (blockB (seqR (seqL (seqR (seqR (blockB (seqL (seqR (seqR (loopB (blockB (seqR (seqL (seqR (seqR c53)))))))))))))))) = (And True (And (And True True) (And (And True (And True (And (And True True) True))) True))) := by kernel_rfl

theorem r53_L2_ok (call : CallF) (fuel base : Nat) : LpOk E call (lp53 call fuel base) fuel base 2 (loopB (blockB (seqR (seqL (seqR (seqR (blockB (seqL (seqR (seqR (loopB (blockB (seqR (seqL (seqR (seqR c53)))))))))))))))) := by
  refine loop_ok (kp := keep53) (hb := Eq.mpr (r53_L2_lk call fuel base) (And.intro trivial (And.intro (And.intro trivial trivial) (And.intro (And.intro trivial (And.intro trivial (And.intro (And.intro trivial trivial) trivial))) trivial)))) 49 [0, 1, 2, 7, 9, 12, 13, 14, 26, 27, 28] (fun n vs m K => r53_L2_R call fuel base n vs m K) ?_ ?_ (fun _ _ _ => rfl)
  · intro vs m K
    unfold r53_L2_R
    split <;> rfl
  · intro n vs m K hl
    match vs, hl with
    | [x0, x1, x2, x7, x9, x12, x13, x14, x26, x27, x28], _ => show _ = _; kernel_rfl

theorem r53_L0_lk (call : CallF) (fuel base : Nat) : LoopsOk E call (lp53 call fuel base) fuel base 0 (loopB (blockB (seqR (seqL (seqR (seqR c53)))))) = (And True (And (And True True) (And (And True (And (And True (And (And True True) True)) (And (And True (LpOk E call (lp53 call fuel base) fuel base 2 (loopB (blockB (seqR (seqL (seqR (seqR (blockB (seqL (seqR (seqR (loopB (blockB (seqR (seqL (seqR (seqR c53)))))))))))))))))) True))) True))) := by kernel_rfl

theorem r53_L0_ok (call : CallF) (fuel base : Nat) : LpOk E call (lp53 call fuel base) fuel base 0 (loopB (blockB (seqR (seqL (seqR (seqR c53)))))) := by
  refine loop_ok (kp := keep53) (hb := Eq.mpr (r53_L0_lk call fuel base) (And.intro trivial (And.intro (And.intro trivial trivial) (And.intro (And.intro trivial (And.intro (And.intro trivial (And.intro (And.intro trivial trivial) trivial)) (And.intro (And.intro trivial (r53_L2_ok call fuel base)) trivial))) trivial)))) 49 [0, 1, 2, 7, 12, 13, 14] (fun n vs m K => r53_L0_R call fuel base n vs m K) ?_ ?_ (fun _ _ _ => rfl)
  · intro vs m K
    unfold r53_L0_R
    split <;> rfl
  · intro n vs m K hl
    match vs, hl with
    | [x0, x1, x2, x7, x12, x13, x14], _ => show _ = _; kernel_rfl

theorem r53_eq (call : CallF) (fuel base : Nat) (x0 : Value) (x1 : Value) (x2 : Value) (m : M) : kbody E call keep53 (lp53 call fuel base) base Try.f53 [x0, x1, x2] m = r53 call fuel base x0 x1 x2 m := by
  kernel_rfl

noncomputable def rf53 : RF := fun call fuel base args m => match args with
  | [x0, x1, x2] => r53 call fuel base x0 x1 x2 m
  | _ => none

theorem r53_lk (call : CallF) (fuel base : Nat) : LoopsOk E call (lp53 call fuel base) fuel base 0 c53 = (And True (And True (And (And True (LpOk E call (lp53 call fuel base) fuel base 0 (loopB (blockB (seqR (seqL (seqR (seqR c53)))))))) (And True True)))) := by kernel_rfl

theorem r53_fn : E.P.funcs[53]? = some Try.f53 := by kernel_rfl
theorem r53_body : Try.f53.body = some c53 := by kernel_rfl

theorem rf53_ok : RFok E 53 rf53 := by
  refine ⟨Try.f53, r53_fn, fun call fuel base args m r _ h => ?_⟩
  unfold rf53 at h
  split at h
  · rw [← r53_eq] at h
    exact kbody_sound (c := c53) r53_body (Eq.mpr (r53_lk call fuel base) (And.intro trivial (And.intro trivial (And.intro (And.intro trivial (r53_L0_ok call fuel base)) (And.intro trivial trivial))))) h
  · simp at h


noncomputable def r54 (call : CallF) (fuel base : Nat) (x0 : Value) (x1 : Value) (m : M) : Res2 :=
  (k1 (mbin E .geq 3 x0 (.int .i64 1)) fun v6_1 => (kb v6_1 (k1 (mbin E .leq 3 x0 (.int .i64 1000)) fun v9_2 => (k0 (mpick (.bool true) v9_2 (.bool false)) fun v10_3 => (kb v10_3 (k1 (mbin E .geq 3 x1 (.int .i64 1)) fun v13_4 => (k0 (mpick (.bool true) v13_4 (.bool false)) fun v14_5 => (kb v14_5 (k1 (mbin E .leq 3 x1 (.int .i64 1000)) fun v17_6 => (k0 (mpick (.bool true) v17_6 (.bool false)) fun v18_7 => (fVal v18_7 fun v => some (.ret v, m)))) (k0 (mpick (.bool false) undef (.bool false)) fun v18_8 => (fVal v18_8 fun v => some (.ret v, m)))))) (k0 (mpick (.bool false) undef (.bool false)) fun v14_9 => (kb v14_9 (k1 (mbin E .leq 3 x1 (.int .i64 1000)) fun v17_10 => (k0 (mpick (.bool true) v17_10 (.bool false)) fun v18_11 => (fVal v18_11 fun v => some (.ret v, m)))) (k0 (mpick (.bool false) undef (.bool false)) fun v18_12 => (fVal v18_12 fun v => some (.ret v, m)))))))) (k0 (mpick (.bool false) undef (.bool false)) fun v10_13 => (kb v10_13 (k1 (mbin E .geq 3 x1 (.int .i64 1)) fun v13_14 => (k0 (mpick (.bool true) v13_14 (.bool false)) fun v14_15 => (kb v14_15 (k1 (mbin E .leq 3 x1 (.int .i64 1000)) fun v17_16 => (k0 (mpick (.bool true) v17_16 (.bool false)) fun v18_17 => (fVal v18_17 fun v => some (.ret v, m)))) (k0 (mpick (.bool false) undef (.bool false)) fun v18_18 => (fVal v18_18 fun v => some (.ret v, m)))))) (k0 (mpick (.bool false) undef (.bool false)) fun v14_19 => (kb v14_19 (k1 (mbin E .leq 3 x1 (.int .i64 1000)) fun v17_20 => (k0 (mpick (.bool true) v17_20 (.bool false)) fun v18_21 => (fVal v18_21 fun v => some (.ret v, m)))) (k0 (mpick (.bool false) undef (.bool false)) fun v18_22 => (fVal v18_22 fun v => some (.ret v, m)))))))))

def keep54 : Keep := { region := fun i => ([[0, 1], [4]] : List (List Nat))[i]?, exit := fun i => ([] : List (List Nat))[i]?, ret := some [4] }

noncomputable def lp54 (call : CallF) (fuel base : Nat) : Lp := lpsel []

noncomputable def c54 : Code := Try.f54.body.getD .skip

theorem r54_eq (call : CallF) (fuel base : Nat) (x0 : Value) (x1 : Value) (m : M) : kbody E call keep54 (lp54 call fuel base) base Try.f54 [x0, x1] m = r54 call fuel base x0 x1 m := by
  kernel_rfl

noncomputable def rf54 : RF := fun call fuel base args m => match args with
  | [x0, x1] => r54 call fuel base x0 x1 m
  | _ => none

theorem r54_lk (call : CallF) (fuel base : Nat) : LoopsOk E call (lp54 call fuel base) fuel base 0 c54 = (And True (And True True)) := by kernel_rfl

theorem r54_fn : E.P.funcs[54]? = some Try.f54 := by kernel_rfl
theorem r54_body : Try.f54.body = some c54 := by kernel_rfl

theorem rf54_ok : RFok E 54 rf54 := by
  refine ⟨Try.f54, r54_fn, fun call fuel base args m r _ h => ?_⟩
  unfold rf54 at h
  split at h
  · rw [← r54_eq] at h
    exact kbody_sound (c := c54) r54_body (Eq.mpr (r54_lk call fuel base) (And.intro trivial (And.intro trivial trivial))) h
  · simp at h

noncomputable def r56_L0 (call : CallF) (fuel base : Nat) (kx0 : Value → M → Res2) (n : Nat) : Value → Value → Value → Value → M → Res2 :=
  Nat.rec (motive := fun _ => Value → Value → Value → Value → M → Res2) (fun _ _ _ _ _ => none)
    (fun _ ih x3 x6 x7 x8 m =>
      (k1 (mbin E .lss 3 x8 x7) fun v9_2 => (kb v9_2 (k1 (mindexAddr E.P 43 x6 x8) fun v10_3 => (k1 (xload E.P m 62 v10_3) fun v11_4 => (k2 (xalloc E.P m 62) fun v5_5 m => (ks (xstore E.P base m 62 v5_5 v11_4) fun m => (k1 (xload E.P m 62 v5_5) fun v13_6 => (kc (kB m (call m.length 60 [v13_6] m)) (fun v14_7 m => (k1 (xload E.P m 62 v5_5) fun v15_8 => (kc (kB m (call m.length 61 [v15_8] m)) (fun v16_9 m => (k2 (xbuildSlice E.P m 75 2 [(0, v14_7), (1, v16_9)]) fun v17_10 m => (k2 (vcall E.P base m .append [75, 75] [x3, v17_10]) fun v18_11 m => (k1 (mbin E .add 3 x8 (.int .i64 1)) fun v19_12 => (ih v18_11 x6 x7 v19_12 m))))) (fun _ _ => none)))) (fun _ _ => none))))))) (kx0 x3 m)))) n

noncomputable def r56 (call : CallF) (fuel base : Nat) (x0 : Value) (m : M) : Res2 :=
  (k2 (vcall E.P base m .len [43] [x0]) fun v7_1 m => (r56_L0 call fuel base (fun y3_13 m => (fVal y3_13 fun v => some (.ret v, m))) fuel (.slice none 0 0) x0 v7_1 (.int .i64 0) m))

def keep56 : Keep := { region := fun i => ([[0], [0, 3], [3, 6, 7, 8], [3, 6, 7, 8, 9], [3, 5, 6, 7, 8], [3, 6, 7, 8], [3, 6, 7, 8], [2]] : List (List Nat))[i]?, exit := fun i => ([[3], [3, 6, 7, 8]] : List (List Nat))[i]?, ret := some [2] }

noncomputable def r56_L0_R (call : CallF) (fuel base n : Nat) (vs : List Value) (m : M) (K : KT) : Res2 := match vs with
  | [x3, x6, x7, x8] => r56_L0 call fuel base (fun y3 m => K (.exit 0) { n := 21, l := [(3, y3)] } m) n x3 x6 x7 x8 m
  | _ => none

noncomputable def lp56 (call : CallF) (fuel base : Nat) : Lp := lpsel [(0, fun T m K => kslots 21 [3, 6, 7, 8] T fun vs => r56_L0_R call fuel base fuel vs m K)]

noncomputable def c56 : Code := Try.f56.body.getD .skip

theorem r56_L0_lk (call : CallF) (fuel base : Nat) : LoopsOk E call (lp56 call fuel base) fuel base 0 (loopB (blockB (seqR (seqL (seqR (seqR c56)))))) = (And True (And (And True True) (And (And True True) True))) := by kernel_rfl

theorem r56_L0_ok (call : CallF) (fuel base : Nat) : LpOk E call (lp56 call fuel base) fuel base 0 (loopB (blockB (seqR (seqL (seqR (seqR c56)))))) := by
  refine loop_ok (kp := keep56) (hb := Eq.mpr (r56_L0_lk call fuel base) (And.intro trivial (And.intro (And.intro trivial trivial) (And.intro (And.intro trivial trivial) trivial)))) 21 [3, 6, 7, 8] (fun n vs m K => r56_L0_R call fuel base n vs m K) ?_ ?_ (fun _ _ _ => rfl)
  · intro vs m K
    unfold r56_L0_R
    split <;> rfl
  · intro n vs m K hl
    match vs, hl with
    | [x3, x6, x7, x8], _ => show _ = _; kernel_rfl

theorem r56_eq (call : CallF) (fuel base : Nat) (x0 : Value) (m : M) : kbody E call keep56 (lp56 call fuel base) base Try.f56 [x0] m = r56 call fuel base x0 m := by
  kernel_rfl

noncomputable def rf56 : RF := fun call fuel base args m => match args with
  | [x0] => r56 call fuel base x0 m
  | _ => none

theorem r56_lk (call : CallF) (fuel base : Nat) : LoopsOk E call (lp56 call fuel base) fuel base 0 c56 = (And True (And True (And (And True (LpOk E call (lp56 call fuel base) fuel base 0 (loopB (blockB (seqR (seqL (seqR (seqR c56)))))))) (And True True)))) := by kernel_rfl

theorem r56_fn : E.P.funcs[56]? = some Try.f56 := by kernel_rfl
theorem r56_body : Try.f56.body = some c56 := by kernel_rfl

theorem rf56_ok : RFok E 56 rf56 := by
  refine ⟨Try.f56, r56_fn, fun call fuel base args m r _ h => ?_⟩
  unfold rf56 at h
  split at h
  · rw [← r56_eq] at h
    exact kbody_sound (c := c56) r56_body (Eq.mpr (r56_lk call fuel base) (And.intro trivial (And.intro trivial (And.intro (And.intro trivial (r56_L0_ok call fuel base)) (And.intro trivial trivial))))) h
  · simp at h

end Go.AM
