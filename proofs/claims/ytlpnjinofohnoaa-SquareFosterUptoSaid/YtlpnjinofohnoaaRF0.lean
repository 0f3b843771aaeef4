import Derived.Test.YtlpnjinofohnoaaRBase
set_option linter.unusedVariables false
set_option linter.unusedSimpArgs false
namespace Go.AM
open Go Go.Proofs

noncomputable def r6 (call : CallF) (fuel base : Nat) (x0 : Value) (x1 : Value) (m : M) : Res2 :=
  (kc (call base 33 [x0, x1] m) (fun v12_1 m => (k1 (mextract 0 v12_1) fun v13_2 => (k1 (mextract 1 v12_1) fun v14_3 => (kc (call base 34 [x0, x1] m) (fun v18_4 m => (k1 (mextract 0 v18_4) fun v19_5 => (k1 (mextract 1 v18_4) fun v20_6 => (kc (call base 32 [v13_2, v19_5] m) (fun v23_7 m => (kb v23_7 (k1 (mbin E .eql 25 v14_3 v20_6) fun v27_8 => (k0 (mpick (.bool true) v27_8 (.bool false)) fun v28_9 => (kb v28_9 (kc (call base 15 [] m) (fun v30_10 m => (k0 (mpick (.bool true) v30_10 (.bool false)) fun v31_11 => (fVal v31_11 fun v => some (.ret v, m)))) (fun v m => some (.pan v, m))) (k0 (mpick (.bool false) undef (.bool false)) fun v31_12 => (fVal v31_12 fun v => some (.ret v, m)))))) (k0 (mpick (.bool false) undef (.bool false)) fun v28_13 => (kb v28_13 (kc (call base 15 [] m) (fun v30_14 m => (k0 (mpick (.bool true) v30_14 (.bool false)) fun v31_15 => (fVal v31_15 fun v => some (.ret v, m)))) (fun v m => some (.pan v, m))) (k0 (mpick (.bool false) undef (.bool false)) fun v31_16 => (fVal v31_16 fun v => some (.ret v, m))))))) (fun v m => some (.pan v, m)))))) (fun v m => some (.pan v, m)))))) (fun v m => some (.pan v, m)))

def keep6 : Keep := { region := fun i => ([[0, 1], [0, 1, 5, 6], [5, 6, 7, 8], [4]] : List (List Nat))[i]?, exit := fun i => ([] : List (List Nat))[i]?, ret := some [4] }

noncomputable def lp6 (call : CallF) (fuel base : Nat) : Lp := lpsel []

noncomputable def c6 : Code := Try.f6.body.getD .skip

theorem r6_eq (call : CallF) (fuel base : Nat) (x0 : Value) (x1 : Value) (m : M) : kbody E call keep6 (lp6 call fuel base) base Try.f6 [x0, x1] m = r6 call fuel base x0 x1 m := by
  kernel_rfl

noncomputable def rf6 : RF := fun call fuel base args m => match args with
  | [x0, x1] => r6 call fuel base x0 x1 m
  | _ => none

theorem r6_lk (call : CallF) (fuel base : Nat) : LoopsOk E call (lp6 call fuel base) fuel base 0 c6 = (And True (And True (And True (And True True)))) := by kernel_rfl

theorem r6_fn : E.P.funcs[6]? = some Try.f6 := by kernel_rfl
theorem r6_body : Try.f6.body = some c6 := by kernel_rfl

theorem rf6_ok : RFok E 6 rf6 := by
  refine ⟨Try.f6, r6_fn, fun call fuel base args m r _ h => ?_⟩
  unfold rf6 at h
  split at h
  · rw [← r6_eq] at h
    exact kbody_sound (c := c6) r6_body (Eq.mpr (r6_lk call fuel base) (And.intro trivial (And.intro trivial (And.intro trivial (And.intro trivial trivial))))) h
  · simp at h


noncomputable def r7 (call : CallF) (fuel base : Nat) (x0 : Value) (x1 : Value) (x2 : Value) (x3 : Value) (m : M) : Res2 :=
  (kc (call base 14 [x1] m) (fun v14_1 m => (k1 (mun .not v14_1) fun v15_2 => (kb v15_2 (kc (call base 15 [] m) (fun v16_3 m => (fVal v16_3 fun v => some (.ret v, m))) (fun v m => some (.pan v, m))) (kc (call base 16 [x0, x1] m) (fun v20_4 m => (k1 (mextract 0 v20_4) fun v21_5 => (k1 (mextract 1 v20_4) fun v22_6 => (kc (call base 18 [x0, x1, x2, x3] m) (fun v28_7 m => (k1 (mextract 0 v28_7) fun v29_8 => (k1 (mextract 1 v28_7) fun v30_9 => (k1 (mbin E .neq 25 v22_6 (.int .i64 0)) fun v32_10 => (kb v32_10 (k0 (mpick (.bool true) (.bool true) undef) fun v36_11 => (kb v36_11 (kc (call base 35 [x0, x1] m) (fun v40_12 m => (k1 (mbin E .eql 25 v22_6 v40_12) fun v41_13 => (kb v41_13 (kc (call base 36 [x0, x1, x2, x3] m) (fun v48_14 m => (k1 (mbin E .eql 25 v30_9 v48_14) fun v49_15 => (k0 (mpick (.bool true) v49_15 (.bool false)) fun v50_16 => (kb v50_16 (kc (call base 15 [] m) (fun v52_17 m => (k0 (mpick (.bool true) v52_17 (.bool false)) fun v53_18 => (fVal v53_18 fun v => some (.ret v, m)))) (fun v m => some (.pan v, m))) (k0 (mpick (.bool false) undef (.bool false)) fun v53_19 => (fVal v53_19 fun v => some (.ret v, m))))))) (fun v m => some (.pan v, m))) (k0 (mpick (.bool false) undef (.bool false)) fun v50_20 => (kb v50_20 (kc (call base 15 [] m) (fun v52_21 m => (k0 (mpick (.bool true) v52_21 (.bool false)) fun v53_22 => (fVal v53_22 fun v => some (.ret v, m)))) (fun v m => some (.pan v, m))) (k0 (mpick (.bool false) undef (.bool false)) fun v53_23 => (fVal v53_23 fun v => some (.ret v, m)))))))) (fun v m => some (.pan v, m))) (kc (call base 38 [x0, x1, x2, x2] m) (fun v59_24 m => (kc (call base 37 [v59_24] m) (fun v60_25 m => (k1 (mbin E .eql 3 v21_5 v60_25) fun v61_26 => (kb v61_26 (kc (call base 38 [x0, x1, x3, x3] m) (fun v68_27 m => (kc (call base 37 [v68_27] m) (fun v69_28 m => (k1 (mbin E .eql 3 v21_5 v69_28) fun v70_29 => (k0 (mpick (.bool true) v70_29 (.bool false)) fun v71_30 => (kb v71_30 (kc (call base 38 [x0, x1, x2, x3] m) (fun v78_31 m => (kc (call base 37 [v78_31] m) (fun v79_32 m => (k1 (mbin E .eql 3 v29_8 v79_32) fun v80_33 => (k0 (mpick (.bool true) v80_33 (.bool false)) fun v81_34 => (kb v81_34 (kc (call base 15 [] m) (fun v83_35 m => (k0 (mpick (.bool true) v83_35 (.bool false)) fun v84_36 => (fVal v84_36 fun v => some (.ret v, m)))) (fun v m => some (.pan v, m))) (k0 (mpick (.bool false) undef (.bool false)) fun v84_37 => (fVal v84_37 fun v => some (.ret v, m))))))) (fun v m => some (.pan v, m)))) (fun v m => some (.pan v, m))) (k0 (mpick (.bool false) undef (.bool false)) fun v81_38 => (kb v81_38 (kc (call base 15 [] m) (fun v83_39 m => (k0 (mpick (.bool true) v83_39 (.bool false)) fun v84_40 => (fVal v84_40 fun v => some (.ret v, m)))) (fun v m => some (.pan v, m))) (k0 (mpick (.bool false) undef (.bool false)) fun v84_41 => (fVal v84_41 fun v => some (.ret v, m))))))))) (fun v m => some (.pan v, m)))) (fun v m => some (.pan v, m))) (k0 (mpick (.bool false) undef (.bool false)) fun v71_42 => (kb v71_42 (kc (call base 38 [x0, x1, x2, x3] m) (fun v78_43 m => (kc (call base 37 [v78_43] m) (fun v79_44 m => (k1 (mbin E .eql 3 v29_8 v79_44) fun v80_45 => (k0 (mpick (.bool true) v80_45 (.bool false)) fun v81_46 => (kb v81_46 (kc (call base 15 [] m) (fun v83_47 m => (k0 (mpick (.bool true) v83_47 (.bool false)) fun v84_48 => (fVal v84_48 fun v => some (.ret v, m)))) (fun v m => some (.pan v, m))) (k0 (mpick (.bool false) undef (.bool false)) fun v84_49 => (fVal v84_49 fun v => some (.ret v, m))))))) (fun v m => some (.pan v, m)))) (fun v m => some (.pan v, m))) (k0 (mpick (.bool false) undef (.bool false)) fun v81_50 => (kb v81_50 (kc (call base 15 [] m) (fun v83_51 m => (k0 (mpick (.bool true) v83_51 (.bool false)) fun v84_52 => (fVal v84_52 fun v => some (.ret v, m)))) (fun v m => some (.pan v, m))) (k0 (mpick (.bool false) undef (.bool false)) fun v84_53 => (fVal v84_53 fun v => some (.ret v, m)))))))))) (fun v m => some (.pan v, m)))) (fun v m => some (.pan v, m))))) (k1 (mbin E .neq 25 v30_9 (.int .i64 0)) fun v35_54 => (k0 (mpick (.bool false) (.bool true) v35_54) fun v36_55 => (kb v36_55 (kc (call base 35 [x0, x1] m) (fun v40_56 m => (k1 (mbin E .eql 25 v22_6 v40_56) fun v41_57 => (kb v41_57 (kc (call base 36 [x0, x1, x2, x3] m) (fun v48_58 m => (k1 (mbin E .eql 25 v30_9 v48_58) fun v49_59 => (k0 (mpick (.bool true) v49_59 (.bool false)) fun v50_60 => (kb v50_60 (kc (call base 15 [] m) (fun v52_61 m => (k0 (mpick (.bool true) v52_61 (.bool false)) fun v53_62 => (fVal v53_62 fun v => some (.ret v, m)))) (fun v m => some (.pan v, m))) (k0 (mpick (.bool false) undef (.bool false)) fun v53_63 => (fVal v53_63 fun v => some (.ret v, m))))))) (fun v m => some (.pan v, m))) (k0 (mpick (.bool false) undef (.bool false)) fun v50_64 => (kb v50_64 (kc (call base 15 [] m) (fun v52_65 m => (k0 (mpick (.bool true) v52_65 (.bool false)) fun v53_66 => (fVal v53_66 fun v => some (.ret v, m)))) (fun v m => some (.pan v, m))) (k0 (mpick (.bool false) undef (.bool false)) fun v53_67 => (fVal v53_67 fun v => some (.ret v, m)))))))) (fun v m => some (.pan v, m))) (kc (call base 38 [x0, x1, x2, x2] m) (fun v59_68 m => (kc (call base 37 [v59_68] m) (fun v60_69 m => (k1 (mbin E .eql 3 v21_5 v60_69) fun v61_70 => (kb v61_70 (kc (call base 38 [x0, x1, x3, x3] m) (fun v68_71 m => (kc (call base 37 [v68_71] m) (fun v69_72 m => (k1 (mbin E .eql 3 v21_5 v69_72) fun v70_73 => (k0 (mpick (.bool true) v70_73 (.bool false)) fun v71_74 => (kb v71_74 (kc (call base 38 [x0, x1, x2, x3] m) (fun v78_75 m => (kc (call base 37 [v78_75] m) (fun v79_76 m => (k1 (mbin E .eql 3 v29_8 v79_76) fun v80_77 => (k0 (mpick (.bool true) v80_77 (.bool false)) fun v81_78 => (kb v81_78 (kc (call base 15 [] m) (fun v83_79 m => (k0 (mpick (.bool true) v83_79 (.bool false)) fun v84_80 => (fVal v84_80 fun v => some (.ret v, m)))) (fun v m => some (.pan v, m))) (k0 (mpick (.bool false) undef (.bool false)) fun v84_81 => (fVal v84_81 fun v => some (.ret v, m))))))) (fun v m => some (.pan v, m)))) (fun v m => some (.pan v, m))) (k0 (mpick (.bool false) undef (.bool false)) fun v81_82 => (kb v81_82 (kc (call base 15 [] m) (fun v83_83 m => (k0 (mpick (.bool true) v83_83 (.bool false)) fun v84_84 => (fVal v84_84 fun v => some (.ret v, m)))) (fun v m => some (.pan v, m))) (k0 (mpick (.bool false) undef (.bool false)) fun v84_85 => (fVal v84_85 fun v => some (.ret v, m))))))))) (fun v m => some (.pan v, m)))) (fun v m => some (.pan v, m))) (k0 (mpick (.bool false) undef (.bool false)) fun v71_86 => (kb v71_86 (kc (call base 38 [x0, x1, x2, x3] m) (fun v78_87 m => (kc (call base 37 [v78_87] m) (fun v79_88 m => (k1 (mbin E .eql 3 v29_8 v79_88) fun v80_89 => (k0 (mpick (.bool true) v80_89 (.bool false)) fun v81_90 => (kb v81_90 (kc (call base 15 [] m) (fun v83_91 m => (k0 (mpick (.bool true) v83_91 (.bool false)) fun v84_92 => (fVal v84_92 fun v => some (.ret v, m)))) (fun v m => some (.pan v, m))) (k0 (mpick (.bool false) undef (.bool false)) fun v84_93 => (fVal v84_93 fun v => some (.ret v, m))))))) (fun v m => some (.pan v, m)))) (fun v m => some (.pan v, m))) (k0 (mpick (.bool false) undef (.bool false)) fun v81_94 => (kb v81_94 (kc (call base 15 [] m) (fun v83_95 m => (k0 (mpick (.bool true) v83_95 (.bool false)) fun v84_96 => (fVal v84_96 fun v => some (.ret v, m)))) (fun v m => some (.pan v, m))) (k0 (mpick (.bool false) undef (.bool false)) fun v84_97 => (fVal v84_97 fun v => some (.ret v, m)))))))))) (fun v m => some (.pan v, m)))) (fun v m => some (.pan v, m))))))))))) (fun v m => some (.pan v, m)))))) (fun v m => some (.pan v, m)))))) (fun v m => some (.pan v, m)))

def keep7 : Keep := { region := fun i => ([[0, 1, 2, 3], [0, 1, 2, 3, 15], [8], [0, 1, 2, 3, 9, 10], [0, 1, 2, 3, 9, 10, 11, 12], [0, 1, 2, 3, 9, 10, 11, 12, 36], [8], [8]] : List (List Nat))[i]?, exit := fun i => ([] : List (List Nat))[i]?, ret := some [8] }

noncomputable def lp7 (call : CallF) (fuel base : Nat) : Lp := lpsel []

noncomputable def c7 : Code := Try.f7.body.getD .skip

theorem r7_eq (call : CallF) (fuel base : Nat) (x0 : Value) (x1 : Value) (x2 : Value) (x3 : Value) (m : M) : kbody E call keep7 (lp7 call fuel base) base Try.f7 [x0, x1, x2, x3] m = r7 call fuel base x0 x1 x2 x3 m := by
  kernel_rfl

noncomputable def rf7 : RF := fun call fuel base args m => match args with
  | [x0, x1, x2, x3] => r7 call fuel base x0 x1 x2 x3 m
  | _ => none

theorem r7_lk (call : CallF) (fuel base : Nat) : LoopsOk E call (lp7 call fuel base) fuel base 0 c7 = (And True (And (And True (And (And True True) True)) (And True (And True (And (And True (And (And True True) True)) (And True True)))))) := by kernel_rfl

theorem r7_fn : E.P.funcs[7]? = some Try.f7 := by kernel_rfl
theorem r7_body : Try.f7.body = some c7 := by kernel_rfl

theorem rf7_ok : RFok E 7 rf7 := by
  refine ⟨Try.f7, r7_fn, fun call fuel base args m r _ h => ?_⟩
  unfold rf7 at h
  split at h
  · rw [← r7_eq] at h
    exact kbody_sound (c := c7) r7_body (Eq.mpr (r7_lk call fuel base) (And.intro trivial (And.intro (And.intro trivial (And.intro (And.intro trivial trivial) trivial)) (And.intro trivial (And.intro trivial (And.intro (And.intro trivial (And.intro (And.intro trivial trivial) trivial)) (And.intro trivial trivial))))))) h
  · simp at h

noncomputable def r10_L0 (call : CallF) (fuel base : Nat) (kp : Value → M → Res2) (kr : Value → M → Res2) (kx0 : Value → Value → Value → M → Res2) (n : Nat) : Value → Value → Value → Value → Value → M → Res2 :=
  Nat.rec (motive := fun _ => Value → Value → Value → Value → Value → M → Res2) (fun _ _ _ _ _ _ => none)
    (fun _ ih x0 x1 x5 x7 x8 m =>
      (k2 (vcall E.P base m .len [22] [x1]) fun v44_31 m => (k1 (mbin E .lss 3 x8 v44_31) fun v45_32 => (kb v45_32 (k1 (mindexAddr E.P 22 x1 x8) fun v53_33 => (k1 (mfieldAddr E.P 59 v53_33 0) fun v54_34 => (k1 (xload E.P m 3 v54_34) fun v55_35 => (k1 (mindexAddr E.P 22 x1 x8) fun v58_36 => (k1 (mfieldAddr E.P 59 v58_36 1) fun v59_37 => (k1 (xload E.P m 3 v59_37) fun v60_38 => (kc (kB m (call m.length 24 [x0, x1, v55_35, v60_38] m)) (fun v61_39 m => (k1 (mextract 0 v61_39) fun v62_40 => (k1 (mextract 1 v61_39) fun v63_41 => (k2 (xalloc E.P m 38) fun v9_42 m => (ks (xstore E.P base m 38 v9_42 v62_40) fun m => (kc (call base 26 [x0, x1, x8] m) (fun v68_43 m => (k1 (mextract 0 v68_43) fun v69_44 => (k1 (mextract 1 v68_43) fun v70_45 => (k2 (xalloc E.P m 38) fun v11_46 m => (ks (xstore E.P base m 38 v11_46 v69_44) fun m => (k1 (mbin E .neq 25 v63_41 (.int .i64 0)) fun v72_47 => (kb v72_47 (k0 (mpick (.bool true) (.bool true) undef) fun v76_48 => (kb v76_48 (k0 (mpick (.bool true) (.bool true) undef) fun v81_49 => (kb v81_49 (k0 (mpick (.bool true) (.bool true) undef) fun v86_50 => (kb v86_50 (k0 (mpick (.bool true) (.bool true) undef) fun v93_51 => (kb v93_51 (kr (.bool false) m) (k1 (mfieldAddr E.P 38 v9_42 0) fun v95_52 => (k1 (xload E.P m 3 v95_52) fun v96_53 => (k1 (mfieldAddr E.P 38 v9_42 1) fun v98_54 => (k1 (xload E.P m 3 v98_54) fun v99_55 => (k1 (mbin E .quo 3 x5 v99_55) fun v100_56 => (k1 (mbin E .mul 3 v96_53 v100_56) fun v101_57 => (k1 (mbin E .add 3 x7 v101_57) fun v102_58 => (k1 (mbin E .add 3 x8 (.int .i64 1)) fun v47_59 => (ih x0 x1 x5 v102_58 v47_59 m))))))))))) (k1 (mfieldAddr E.P 38 v9_42 1) fun v89_60 => (k1 (xload E.P m 3 v89_60) fun v90_61 => (k1 (mbin E .rem 3 x5 v90_61) fun v91_62 => (k1 (mbin E .neq 3 v91_62 (.int .i64 0)) fun v92_63 => (k0 (mpick (.bool false) (.bool true) v92_63) fun v93_64 => (kb v93_64 (kr (.bool false) m) (k1 (mfieldAddr E.P 38 v9_42 0) fun v95_65 => (k1 (xload E.P m 3 v95_65) fun v96_66 => (k1 (mfieldAddr E.P 38 v9_42 1) fun v98_67 => (k1 (xload E.P m 3 v98_67) fun v99_68 => (k1 (mbin E .quo 3 x5 v99_68) fun v100_69 => (k1 (mbin E .mul 3 v96_66 v100_69) fun v101_70 => (k1 (mbin E .add 3 x7 v101_70) fun v102_71 => (k1 (mbin E .add 3 x8 (.int .i64 1)) fun v47_72 => (ih x0 x1 x5 v102_71 v47_72 m))))))))))))))))) (k1 (mfieldAddr E.P 38 v9_42 1) fun v83_73 => (k1 (xload E.P m 3 v83_73) fun v84_74 => (k1 (mbin E .lss 3 v84_74 (.int .i64 1)) fun v85_75 => (k0 (mpick (.bool false) (.bool true) v85_75) fun v86_76 => (kb v86_76 (k0 (mpick (.bool true) (.bool true) undef) fun v93_77 => (kb v93_77 (kr (.bool false) m) (k1 (mfieldAddr E.P 38 v9_42 0) fun v95_78 => (k1 (xload E.P m 3 v95_78) fun v96_79 => (k1 (mfieldAddr E.P 38 v9_42 1) fun v98_80 => (k1 (xload E.P m 3 v98_80) fun v99_81 => (k1 (mbin E .quo 3 x5 v99_81) fun v100_82 => (k1 (mbin E .mul 3 v96_79 v100_82) fun v101_83 => (k1 (mbin E .add 3 x7 v101_83) fun v102_84 => (k1 (mbin E .add 3 x8 (.int .i64 1)) fun v47_85 => (ih x0 x1 x5 v102_84 v47_85 m))))))))))) (k1 (mfieldAddr E.P 38 v9_42 1) fun v89_86 => (k1 (xload E.P m 3 v89_86) fun v90_87 => (k1 (mbin E .rem 3 x5 v90_87) fun v91_88 => (k1 (mbin E .neq 3 v91_88 (.int .i64 0)) fun v92_89 => (k0 (mpick (.bool false) (.bool true) v92_89) fun v93_90 => (kb v93_90 (kr (.bool false) m) (k1 (mfieldAddr E.P 38 v9_42 0) fun v95_91 => (k1 (xload E.P m 3 v95_91) fun v96_92 => (k1 (mfieldAddr E.P 38 v9_42 1) fun v98_93 => (k1 (xload E.P m 3 v98_93) fun v99_94 => (k1 (mbin E .quo 3 x5 v99_94) fun v100_95 => (k1 (mbin E .mul 3 v96_92 v100_95) fun v101_96 => (k1 (mbin E .add 3 x7 v101_96) fun v102_97 => (k1 (mbin E .add 3 x8 (.int .i64 1)) fun v47_98 => (ih x0 x1 x5 v102_97 v47_98 m)))))))))))))))))))))) (k1 (xload E.P m 38 v9_42) fun v78_99 => (k1 (xload E.P m 38 v11_46) fun v79_100 => (k1 (mbin E .neq 38 v78_99 v79_100) fun v80_101 => (k0 (mpick (.bool false) (.bool true) v80_101) fun v81_102 => (kb v81_102 (k0 (mpick (.bool true) (.bool true) undef) fun v86_103 => (kb v86_103 (k0 (mpick (.bool true) (.bool true) undef) fun v93_104 => (kb v93_104 (kr (.bool false) m) (k1 (mfieldAddr E.P 38 v9_42 0) fun v95_105 => (k1 (xload E.P m 3 v95_105) fun v96_106 => (k1 (mfieldAddr E.P 38 v9_42 1) fun v98_107 => (k1 (xload E.P m 3 v98_107) fun v99_108 => (k1 (mbin E .quo 3 x5 v99_108) fun v100_109 => (k1 (mbin E .mul 3 v96_106 v100_109) fun v101_110 => (k1 (mbin E .add 3 x7 v101_110) fun v102_111 => (k1 (mbin E .add 3 x8 (.int .i64 1)) fun v47_112 => (ih x0 x1 x5 v102_111 v47_112 m))))))))))) (k1 (mfieldAddr E.P 38 v9_42 1) fun v89_113 => (k1 (xload E.P m 3 v89_113) fun v90_114 => (k1 (mbin E .rem 3 x5 v90_114) fun v91_115 => (k1 (mbin E .neq 3 v91_115 (.int .i64 0)) fun v92_116 => (k0 (mpick (.bool false) (.bool true) v92_116) fun v93_117 => (kb v93_117 (kr (.bool false) m) (k1 (mfieldAddr E.P 38 v9_42 0) fun v95_118 => (k1 (xload E.P m 3 v95_118) fun v96_119 => (k1 (mfieldAddr E.P 38 v9_42 1) fun v98_120 => (k1 (xload E.P m 3 v98_120) fun v99_121 => (k1 (mbin E .quo 3 x5 v99_121) fun v100_122 => (k1 (mbin E .mul 3 v96_119 v100_122) fun v101_123 => (k1 (mbin E .add 3 x7 v101_123) fun v102_124 => (k1 (mbin E .add 3 x8 (.int .i64 1)) fun v47_125 => (ih x0 x1 x5 v102_124 v47_125 m))))))))))))))))) (k1 (mfieldAddr E.P 38 v9_42 1) fun v83_126 => (k1 (xload E.P m 3 v83_126) fun v84_127 => (k1 (mbin E .lss 3 v84_127 (.int .i64 1)) fun v85_128 => (k0 (mpick (.bool false) (.bool true) v85_128) fun v86_129 => (kb v86_129 (k0 (mpick (.bool true) (.bool true) undef) fun v93_130 => (kb v93_130 (kr (.bool false) m) (k1 (mfieldAddr E.P 38 v9_42 0) fun v95_131 => (k1 (xload E.P m 3 v95_131) fun v96_132 => (k1 (mfieldAddr E.P 38 v9_42 1) fun v98_133 => (k1 (xload E.P m 3 v98_133) fun v99_134 => (k1 (mbin E .quo 3 x5 v99_134) fun v100_135 => (k1 (mbin E .mul 3 v96_132 v100_135) fun v101_136 => (k1 (mbin E .add 3 x7 v101_136) fun v102_137 => (k1 (mbin E .add 3 x8 (.int .i64 1)) fun v47_138 => (ih x0 x1 x5 v102_137 v47_138 m))))))))))) (k1 (mfieldAddr E.P 38 v9_42 1) fun v89_139 => (k1 (xload E.P m 3 v89_139) fun v90_140 => (k1 (mbin E .rem 3 x5 v90_140) fun v91_141 => (k1 (mbin E .neq 3 v91_141 (.int .i64 0)) fun v92_142 => (k0 (mpick (.bool false) (.bool true) v92_142) fun v93_143 => (kb v93_143 (kr (.bool false) m) (k1 (mfieldAddr E.P 38 v9_42 0) fun v95_144 => (k1 (xload E.P m 3 v95_144) fun v96_145 => (k1 (mfieldAddr E.P 38 v9_42 1) fun v98_146 => (k1 (xload E.P m 3 v98_146) fun v99_147 => (k1 (mbin E .quo 3 x5 v99_147) fun v100_148 => (k1 (mbin E .mul 3 v96_145 v100_148) fun v101_149 => (k1 (mbin E .add 3 x7 v101_149) fun v102_150 => (k1 (mbin E .add 3 x8 (.int .i64 1)) fun v47_151 => (ih x0 x1 x5 v102_150 v47_151 m))))))))))))))))))))))))))) (k1 (mbin E .neq 25 v70_45 (.int .i64 0)) fun v75_152 => (k0 (mpick (.bool false) (.bool true) v75_152) fun v76_153 => (kb v76_153 (k0 (mpick (.bool true) (.bool true) undef) fun v81_154 => (kb v81_154 (k0 (mpick (.bool true) (.bool true) undef) fun v86_155 => (kb v86_155 (k0 (mpick (.bool true) (.bool true) undef) fun v93_156 => (kb v93_156 (kr (.bool false) m) (k1 (mfieldAddr E.P 38 v9_42 0) fun v95_157 => (k1 (xload E.P m 3 v95_157) fun v96_158 => (k1 (mfieldAddr E.P 38 v9_42 1) fun v98_159 => (k1 (xload E.P m 3 v98_159) fun v99_160 => (k1 (mbin E .quo 3 x5 v99_160) fun v100_161 => (k1 (mbin E .mul 3 v96_158 v100_161) fun v101_162 => (k1 (mbin E .add 3 x7 v101_162) fun v102_163 => (k1 (mbin E .add 3 x8 (.int .i64 1)) fun v47_164 => (ih x0 x1 x5 v102_163 v47_164 m))))))))))) (k1 (mfieldAddr E.P 38 v9_42 1) fun v89_165 => (k1 (xload E.P m 3 v89_165) fun v90_166 => (k1 (mbin E .rem 3 x5 v90_166) fun v91_167 => (k1 (mbin E .neq 3 v91_167 (.int .i64 0)) fun v92_168 => (k0 (mpick (.bool false) (.bool true) v92_168) fun v93_169 => (kb v93_169 (kr (.bool false) m) (k1 (mfieldAddr E.P 38 v9_42 0) fun v95_170 => (k1 (xload E.P m 3 v95_170) fun v96_171 => (k1 (mfieldAddr E.P 38 v9_42 1) fun v98_172 => (k1 (xload E.P m 3 v98_172) fun v99_173 => (k1 (mbin E .quo 3 x5 v99_173) fun v100_174 => (k1 (mbin E .mul 3 v96_171 v100_174) fun v101_175 => (k1 (mbin E .add 3 x7 v101_175) fun v102_176 => (k1 (mbin E .add 3 x8 (.int .i64 1)) fun v47_177 => (ih x0 x1 x5 v102_176 v47_177 m))))))))))))))))) (k1 (mfieldAddr E.P 38 v9_42 1) fun v83_178 => (k1 (xload E.P m 3 v83_178) fun v84_179 => (k1 (mbin E .lss 3 v84_179 (.int .i64 1)) fun v85_180 => (k0 (mpick (.bool false) (.bool true) v85_180) fun v86_181 => (kb v86_181 (k0 (mpick (.bool true) (.bool true) undef) fun v93_182 => (kb v93_182 (kr (.bool false) m) (k1 (mfieldAddr E.P 38 v9_42 0) fun v95_183 => (k1 (xload E.P m 3 v95_183) fun v96_184 => (k1 (mfieldAddr E.P 38 v9_42 1) fun v98_185 => (k1 (xload E.P m 3 v98_185) fun v99_186 => (k1 (mbin E .quo 3 x5 v99_186) fun v100_187 => (k1 (mbin E .mul 3 v96_184 v100_187) fun v101_188 => (k1 (mbin E .add 3 x7 v101_188) fun v102_189 => (k1 (mbin E .add 3 x8 (.int .i64 1)) fun v47_190 => (ih x0 x1 x5 v102_189 v47_190 m))))))))))) (k1 (mfieldAddr E.P 38 v9_42 1) fun v89_191 => (k1 (xload E.P m 3 v89_191) fun v90_192 => (k1 (mbin E .rem 3 x5 v90_192) fun v91_193 => (k1 (mbin E .neq 3 v91_193 (.int .i64 0)) fun v92_194 => (k0 (mpick (.bool false) (.bool true) v92_194) fun v93_195 => (kb v93_195 (kr (.bool false) m) (k1 (mfieldAddr E.P 38 v9_42 0) fun v95_196 => (k1 (xload E.P m 3 v95_196) fun v96_197 => (k1 (mfieldAddr E.P 38 v9_42 1) fun v98_198 => (k1 (xload E.P m 3 v98_198) fun v99_199 => (k1 (mbin E .quo 3 x5 v99_199) fun v100_200 => (k1 (mbin E .mul 3 v96_197 v100_200) fun v101_201 => (k1 (mbin E .add 3 x7 v101_201) fun v102_202 => (k1 (mbin E .add 3 x8 (.int .i64 1)) fun v47_203 => (ih x0 x1 x5 v102_202 v47_203 m)))))))))))))))))))))) (k1 (xload E.P m 38 v9_42) fun v78_204 => (k1 (xload E.P m 38 v11_46) fun v79_205 => (k1 (mbin E .neq 38 v78_204 v79_205) fun v80_206 => (k0 (mpick (.bool false) (.bool true) v80_206) fun v81_207 => (kb v81_207 (k0 (mpick (.bool true) (.bool true) undef) fun v86_208 => (kb v86_208 (k0 (mpick (.bool true) (.bool true) undef) fun v93_209 => (kb v93_209 (kr (.bool false) m) (k1 (mfieldAddr E.P 38 v9_42 0) fun v95_210 => (k1 (xload E.P m 3 v95_210) fun v96_211 => (k1 (mfieldAddr E.P 38 v9_42 1) fun v98_212 => (k1 (xload E.P m 3 v98_212) fun v99_213 => (k1 (mbin E .quo 3 x5 v99_213) fun v100_214 => (k1 (mbin E .mul 3 v96_211 v100_214) fun v101_215 => (k1 (mbin E .add 3 x7 v101_215) fun v102_216 => (k1 (mbin E .add 3 x8 (.int .i64 1)) fun v47_217 => (ih x0 x1 x5 v102_216 v47_217 m))))))))))) (k1 (mfieldAddr E.P 38 v9_42 1) fun v89_218 => (k1 (xload E.P m 3 v89_218) fun v90_219 => (k1 (mbin E .rem 3 x5 v90_219) fun v91_220 => (k1 (mbin E .neq 3 v91_220 (.int .i64 0)) fun v92_221 => (k0 (mpick (.bool false) (.bool true) v92_221) fun v93_222 => (kb v93_222 (kr (.bool false) m) (k1 (mfieldAddr E.P 38 v9_42 0) fun v95_223 => (k1 (xload E.P m 3 v95_223) fun v96_224 => (k1 (mfieldAddr E.P 38 v9_42 1) fun v98_225 => (k1 (xload E.P m 3 v98_225) fun v99_226 => (k1 (mbin E .quo 3 x5 v99_226) fun v100_227 => (k1 (mbin E .mul 3 v96_224 v100_227) fun v101_228 => (k1 (mbin E .add 3 x7 v101_228) fun v102_229 => (k1 (mbin E .add 3 x8 (.int .i64 1)) fun v47_230 => (ih x0 x1 x5 v102_229 v47_230 m))))))))))))))))) (k1 (mfieldAddr E.P 38 v9_42 1) fun v83_231 => (k1 (xload E.P m 3 v83_231) fun v84_232 => (k1 (mbin E .lss 3 v84_232 (.int .i64 1)) fun v85_233 => (k0 (mpick (.bool false) (.bool true) v85_233) fun v86_234 => (kb v86_234 (k0 (mpick (.bool true) (.bool true) undef) fun v93_235 => (kb v93_235 (kr (.bool false) m) (k1 (mfieldAddr E.P 38 v9_42 0) fun v95_236 => (k1 (xload E.P m 3 v95_236) fun v96_237 => (k1 (mfieldAddr E.P 38 v9_42 1) fun v98_238 => (k1 (xload E.P m 3 v98_238) fun v99_239 => (k1 (mbin E .quo 3 x5 v99_239) fun v100_240 => (k1 (mbin E .mul 3 v96_237 v100_240) fun v101_241 => (k1 (mbin E .add 3 x7 v101_241) fun v102_242 => (k1 (mbin E .add 3 x8 (.int .i64 1)) fun v47_243 => (ih x0 x1 x5 v102_242 v47_243 m))))))))))) (k1 (mfieldAddr E.P 38 v9_42 1) fun v89_244 => (k1 (xload E.P m 3 v89_244) fun v90_245 => (k1 (mbin E .rem 3 x5 v90_245) fun v91_246 => (k1 (mbin E .neq 3 v91_246 (.int .i64 0)) fun v92_247 => (k0 (mpick (.bool false) (.bool true) v92_247) fun v93_248 => (kb v93_248 (kr (.bool false) m) (k1 (mfieldAddr E.P 38 v9_42 0) fun v95_249 => (k1 (xload E.P m 3 v95_249) fun v96_250 => (k1 (mfieldAddr E.P 38 v9_42 1) fun v98_251 => (k1 (xload E.P m 3 v98_251) fun v99_252 => (k1 (mbin E .quo 3 x5 v99_252) fun v100_253 => (k1 (mbin E .mul 3 v96_250 v100_253) fun v101_254 => (k1 (mbin E .add 3 x7 v101_254) fun v102_255 => (k1 (mbin E .add 3 x8 (.int .i64 1)) fun v47_256 => (ih x0 x1 x5 v102_255 v47_256 m))))))))))))))))))))))))))))))))))) (fun v m => kp v m))))))) (fun _ _ => none)))))))) (kx0 x0 x5 x7 m))))) n

noncomputable def r10 (call : CallF) (fuel base : Nat) (x0 : Value) (x1 : Value) (m : M) : Res2 :=
  (kc (call base 14 [x1] m) (fun v14_1 m => (k1 (mun .not v14_1) fun v15_2 => (kb v15_2 (kc (call base 15 [] m) (fun v16_3 m => (fVal v16_3 fun v => some (.ret v, m))) (fun v m => some (.pan v, m))) (kc (call base 16 [x0, x1] m) (fun v20_4 m => (k1 (mextract 0 v20_4) fun v21_5 => (k1 (mextract 1 v20_4) fun v22_6 => (k1 (mbin E .neq 25 v22_6 (.int .i64 0)) fun v24_7 => (kb v24_7 (k0 (mpick (.bool true) (.bool true) undef) fun v28_8 => (kb v28_8 (k1 (mbin E .eql 25 v22_6 (.int .i64 0)) fun v30_9 => (kb v30_9 (k1 (mbin E .eql 3 v21_5 (.int .i64 0)) fun v33_10 => (k0 (mpick (.bool true) v33_10 (.bool false)) fun v34_11 => (kb v34_11 (k0 (mpick (.bool true) (.bool true) undef) fun v38_12 => (kb v38_12 (kc (call base 15 [] m) (fun v40_13 m => (k0 (mpick (.bool true) v40_13 (.bool false)) fun v41_14 => (fVal v41_14 fun v => some (.ret v, m)))) (fun v m => some (.pan v, m))) (k0 (mpick (.bool false) undef (.bool false)) fun v41_15 => (fVal v41_15 fun v => some (.ret v, m))))) (k1 (mbin E .neq 25 v22_6 (.int .i64 0)) fun v37_16 => (k0 (mpick (.bool false) (.bool true) v37_16) fun v38_17 => (kb v38_17 (kc (call base 15 [] m) (fun v40_18 m => (k0 (mpick (.bool true) v40_18 (.bool false)) fun v41_19 => (fVal v41_19 fun v => some (.ret v, m)))) (fun v m => some (.pan v, m))) (k0 (mpick (.bool false) undef (.bool false)) fun v41_20 => (fVal v41_20 fun v => some (.ret v, m))))))))) (k0 (mpick (.bool false) undef (.bool false)) fun v34_21 => (kb v34_21 (k0 (mpick (.bool true) (.bool true) undef) fun v38_22 => (kb v38_22 (kc (call base 15 [] m) (fun v40_23 m => (k0 (mpick (.bool true) v40_23 (.bool false)) fun v41_24 => (fVal v41_24 fun v => some (.ret v, m)))) (fun v m => some (.pan v, m))) (k0 (mpick (.bool false) undef (.bool false)) fun v41_25 => (fVal v41_25 fun v => some (.ret v, m))))) (k1 (mbin E .neq 25 v22_6 (.int .i64 0)) fun v37_26 => (k0 (mpick (.bool false) (.bool true) v37_26) fun v38_27 => (kb v38_27 (kc (call base 15 [] m) (fun v40_28 m => (k0 (mpick (.bool true) v40_28 (.bool false)) fun v41_29 => (fVal v41_29 fun v => some (.ret v, m)))) (fun v m => some (.pan v, m))) (k0 (mpick (.bool false) undef (.bool false)) fun v41_30 => (fVal v41_30 fun v => some (.ret v, m)))))))))) (r10_L0 call fuel base (fun v m => some (.pan v, m)) (fun y4_257 m => (fVal y4_257 fun v => some (.ret v, m))) (fun y0_258 y5_259 y7_260 m => (k1 (mbin E .sub 3 y0_258 (.int .i64 1)) fun v105_261 => (k1 (mbin E .mul 3 v105_261 y5_259) fun v107_262 => (k1 (mbin E .eql 3 y7_260 v107_262) fun v108_263 => (kb v108_263 (kc (call base 15 [] m) (fun v110_264 m => (k0 (mpick (.bool true) v110_264 (.bool false)) fun v111_265 => (fVal v111_265 fun v => some (.ret v, m)))) (fun v m => some (.pan v, m))) (k0 (mpick (.bool false) undef (.bool false)) fun v111_266 => (fVal v111_266 fun v => some (.ret v, m)))))))) fuel x0 x1 v21_5 (.int .i64 0) (.int .i64 0) m))) (k1 (mbin E .lss 3 v21_5 (.int .i64 1)) fun v27_267 => (k0 (mpick (.bool false) (.bool true) v27_267) fun v28_268 => (kb v28_268 (k1 (mbin E .eql 25 v22_6 (.int .i64 0)) fun v30_269 => (kb v30_269 (k1 (mbin E .eql 3 v21_5 (.int .i64 0)) fun v33_270 => (k0 (mpick (.bool true) v33_270 (.bool false)) fun v34_271 => (kb v34_271 (k0 (mpick (.bool true) (.bool true) undef) fun v38_272 => (kb v38_272 (kc (call base 15 [] m) (fun v40_273 m => (k0 (mpick (.bool true) v40_273 (.bool false)) fun v41_274 => (fVal v41_274 fun v => some (.ret v, m)))) (fun v m => some (.pan v, m))) (k0 (mpick (.bool false) undef (.bool false)) fun v41_275 => (fVal v41_275 fun v => some (.ret v, m))))) (k1 (mbin E .neq 25 v22_6 (.int .i64 0)) fun v37_276 => (k0 (mpick (.bool false) (.bool true) v37_276) fun v38_277 => (kb v38_277 (kc (call base 15 [] m) (fun v40_278 m => (k0 (mpick (.bool true) v40_278 (.bool false)) fun v41_279 => (fVal v41_279 fun v => some (.ret v, m)))) (fun v m => some (.pan v, m))) (k0 (mpick (.bool false) undef (.bool false)) fun v41_280 => (fVal v41_280 fun v => some (.ret v, m))))))))) (k0 (mpick (.bool false) undef (.bool false)) fun v34_281 => (kb v34_281 (k0 (mpick (.bool true) (.bool true) undef) fun v38_282 => (kb v38_282 (kc (call base 15 [] m) (fun v40_283 m => (k0 (mpick (.bool true) v40_283 (.bool false)) fun v41_284 => (fVal v41_284 fun v => some (.ret v, m)))) (fun v m => some (.pan v, m))) (k0 (mpick (.bool false) undef (.bool false)) fun v41_285 => (fVal v41_285 fun v => some (.ret v, m))))) (k1 (mbin E .neq 25 v22_6 (.int .i64 0)) fun v37_286 => (k0 (mpick (.bool false) (.bool true) v37_286) fun v38_287 => (kb v38_287 (kc (call base 15 [] m) (fun v40_288 m => (k0 (mpick (.bool true) v40_288 (.bool false)) fun v41_289 => (fVal v41_289 fun v => some (.ret v, m)))) (fun v m => some (.pan v, m))) (k0 (mpick (.bool false) undef (.bool false)) fun v41_290 => (fVal v41_290 fun v => some (.ret v, m)))))))))) (r10_L0 call fuel base (fun v m => some (.pan v, m)) (fun y4_291 m => (fVal y4_291 fun v => some (.ret v, m))) (fun y0_292 y5_293 y7_294 m => (k1 (mbin E .sub 3 y0_292 (.int .i64 1)) fun v105_295 => (k1 (mbin E .mul 3 v105_295 y5_293) fun v107_296 => (k1 (mbin E .eql 3 y7_294 v107_296) fun v108_297 => (kb v108_297 (kc (call base 15 [] m) (fun v110_298 m => (k0 (mpick (.bool true) v110_298 (.bool false)) fun v111_299 => (fVal v111_299 fun v => some (.ret v, m)))) (fun v m => some (.pan v, m))) (k0 (mpick (.bool false) undef (.bool false)) fun v111_300 => (fVal v111_300 fun v => some (.ret v, m)))))))) fuel x0 x1 v21_5 (.int .i64 0) (.int .i64 0) m))))))))) (fun v m => some (.pan v, m)))))) (fun v m => some (.pan v, m)))

def keep10 : Keep := { region := fun i => ([[0, 1], [0, 1, 15], [4], [0, 1, 5, 6], [0, 1, 5, 6, 28], [4], [0, 1, 5, 7], [0, 1, 5, 7, 8], [0, 1, 5, 7, 8, 45], [0, 1, 5, 7, 8], [0, 1, 5, 7, 8, 9, 10], [0, 1, 5, 7, 8, 9, 10, 11, 12], [0, 1, 5, 7, 8, 9, 93], [4], [0, 1, 5, 7, 8], [4]] : List (List Nat))[i]?, exit := fun i => ([[0, 5, 7], [0, 1, 5, 7, 8]] : List (List Nat))[i]?, ret := some [4] }

noncomputable def r10_L0_R (call : CallF) (fuel base n : Nat) (vs : List Value) (m : M) (K : KT) : Res2 := match vs with
  | [x0, x1, x5, x7, x8] => r10_L0 call fuel base (fun v m => K (.pan v) { n := 112, l := [] } m) (fun y4 m => K .ret { n := 112, l := [(4, y4)] } m) (fun y0 y5 y7 m => K (.exit 0) { n := 112, l := [(0, y0), (5, y5), (7, y7)] } m) n x0 x1 x5 x7 x8 m
  | _ => none

noncomputable def lp10 (call : CallF) (fuel base : Nat) : Lp := lpsel [(0, fun T m K => kslots 112 [0, 1, 5, 7, 8] T fun vs => r10_L0_R call fuel base fuel vs m K)]

noncomputable def c10 : Code := Try.f10.body.getD .skip

theorem r10_L0_lk (call : CallF) (fuel base : Nat) : LoopsOk E call (lp10 call fuel base) fuel base 0 (loopB (blockB (seqR (seqL (seqR (seqR (seqR (seqR (seqR c10))))))))) = (And (And True (And True True)) (And (And True (And True (And (And True (And (And True True) True)) True))) True)) := by kernel_rfl

theorem r10_L0_ok (call : CallF) (fuel base : Nat) : LpOk E call (lp10 call fuel base) fuel base 0 (loopB (blockB (seqR (seqL (seqR (seqR (seqR (seqR (seqR c10))))))))) := by
  refine loop_ok (kp := keep10) (hb := Eq.mpr (r10_L0_lk call fuel base) (And.intro (And.intro trivial (And.intro trivial trivial)) (And.intro (And.intro trivial (And.intro trivial (And.intro (And.intro trivial (And.intro (And.intro trivial trivial) trivial)) trivial))) trivial))) 112 [0, 1, 5, 7, 8] (fun n vs m K => r10_L0_R call fuel base n vs m K) ?_ ?_ (fun _ _ _ => rfl)
  · intro vs m K
    unfold r10_L0_R
    split <;> rfl
  · intro n vs m K hl
    match vs, hl with
    | [x0, x1, x5, x7, x8], _ => show _ = _; kernel_rfl

theorem r10_eq (call : CallF) (fuel base : Nat) (x0 : Value) (x1 : Value) (m : M) : kbody E call keep10 (lp10 call fuel base) base Try.f10 [x0, x1] m = r10 call fuel base x0 x1 m := by
  kernel_rfl

noncomputable def rf10 : RF := fun call fuel base args m => match args with
  | [x0, x1] => r10 call fuel base x0 x1 m
  | _ => none

theorem r10_lk (call : CallF) (fuel base : Nat) : LoopsOk E call (lp10 call fuel base) fuel base 0 c10 = (And True (And (And True (And (And True True) True)) (And True (And (And True (And (And True True) True)) (And True (And (And True (LpOk E call (lp10 call fuel base) fuel base 0 (loopB (blockB (seqR (seqL (seqR (seqR (seqR (seqR (seqR c10))))))))))) (And True True))))))) := by kernel_rfl

theorem r10_fn : E.P.funcs[10]? = some Try.f10 := by kernel_rfl
theorem r10_body : Try.f10.body = some c10 := by kernel_rfl

theorem rf10_ok : RFok E 10 rf10 := by
  refine ⟨Try.f10, r10_fn, fun call fuel base args m r _ h => ?_⟩
  unfold rf10 at h
  split at h
  · rw [← r10_eq] at h
    exact kbody_sound (c := c10) r10_body (Eq.mpr (r10_lk call fuel base) (And.intro trivial (And.intro (And.intro trivial (And.intro (And.intro trivial trivial) trivial)) (And.intro trivial (And.intro (And.intro trivial (And.intro (And.intro trivial trivial) trivial)) (And.intro trivial (And.intro (And.intro trivial (r10_L0_ok call fuel base)) (And.intro trivial trivial)))))))) h
  · simp at h


noncomputable def r14 (call : CallF) (fuel base : Nat) (x0 : Value) (m : M) : Res2 :=
  (k2 (vcall E.P base m .len [22] [x0]) fun v4_1 m => (k1 (mbin E .leq 3 v4_1 (.int .i64 40)) fun v5_2 => (fVal v5_2 fun v => some (.ret v, m))))

def keep14 : Keep := { region := fun i => ([[0], [2]] : List (List Nat))[i]?, exit := fun i => ([] : List (List Nat))[i]?, ret := some [2] }

noncomputable def lp14 (call : CallF) (fuel base : Nat) : Lp := lpsel []

noncomputable def c14 : Code := Try.f14.body.getD .skip

theorem r14_eq (call : CallF) (fuel base : Nat) (x0 : Value) (m : M) : kbody E call keep14 (lp14 call fuel base) base Try.f14 [x0] m = r14 call fuel base x0 m := by
  kernel_rfl

noncomputable def rf14 : RF := fun call fuel base args m => match args with
  | [x0] => r14 call fuel base x0 m
  | _ => none

theorem r14_lk (call : CallF) (fuel base : Nat) : LoopsOk E call (lp14 call fuel base) fuel base 0 c14 = (And True (And True True)) := by kernel_rfl

theorem r14_fn : E.P.funcs[14]? = some Try.f14 := by kernel_rfl
theorem r14_body : Try.f14.body = some c14 := by kernel_rfl

theorem rf14_ok : RFok E 14 rf14 := by
  refine ⟨Try.f14, r14_fn, fun call fuel base args m r _ h => ?_⟩
  unfold rf14 at h
  split at h
  · rw [← r14_eq] at h
    exact kbody_sound (c := c14) r14_body (Eq.mpr (r14_lk call fuel base) (And.intro trivial (And.intro trivial trivial))) h
  · simp at h


noncomputable def r15 (call : CallF) (fuel base : Nat) (m : M) : Res2 :=
  (k1 (mbuild E.P 59 [(0, (.int .i64 0)), (1, (.int .i64 1))]) fun v9_1 => (k1 (mbuild E.P 59 [(0, (.int .i64 1)), (1, (.int .i64 2))]) fun v10_2 => (k1 (mbuild E.P 59 [(0, (.int .i64 2)), (1, (.int .i64 0))]) fun v11_3 => (k2 (xbuildSlice E.P m 22 3 [(0, v9_1), (1, v10_2), (2, v11_3)]) fun v12_4 m => (kc (call base 16 [(.int .i64 3), v12_4] m) (fun v15_5 m => (k1 (mextract 0 v15_5) fun v16_6 => (k1 (mextract 1 v15_5) fun v17_7 => (kc (call base 20 [(.int .i64 3), v12_4, (.int .i64 0), (.int .i64 1)] m) (fun v20_8 m => (k1 (mextract 0 v20_8) fun v21_9 => (k1 (mextract 1 v20_8) fun v22_10 => (k2 (xalloc E.P m 31) fun v4_11 m => (ks (xstore E.P base m 31 v4_11 v21_9) fun m => (kc (call base 41 [] m) (fun v24_12 m => (kc (call base 30 [(.int .i64 33), (.int .i64 32), v24_12] m) (fun v25_13 m => (k1 (mextract 0 v25_13) fun v26_14 => (k1 (mextract 1 v25_13) fun v27_15 => (k1 (mextract 2 v25_13) fun v28_16 => (k1 (mbin E .eql 25 v17_7 (.int .i64 0)) fun v30_17 => (kb v30_17 (k1 (mbin E .eql 3 v16_6 (.int .i64 3)) fun v33_18 => (k0 (mpick (.bool true) v33_18 (.bool false)) fun v34_19 => (kb v34_19 (k1 (mbin E .eql 25 v22_10 (.int .i64 0)) fun v37_20 => (k0 (mpick (.bool true) v37_20 (.bool false)) fun v38_21 => (kb v38_21 (k1 (mfieldAddr E.P 31 v4_11 0) fun v40_22 => (k1 (xload E.P m 29 v40_22) fun v41_23 => (k2 (xbuildSlice E.P m 29 3 [(0, (.int .i64 2)), (1, (.int .i64 (-1))), (2, (.int .i64 (-1)))]) fun v42_24 m => (kc (call base 22 [v41_23, v42_24] m) (fun v43_25 m => (k0 (mpick (.bool true) v43_25 (.bool false)) fun v44_26 => (kb v44_26 (k1 (mfieldAddr E.P 31 v4_11 2) fun v46_27 => (k1 (xload E.P m 3 v46_27) fun v47_28 => (k1 (mbin E .eql 3 v47_28 (.int .i64 2)) fun v48_29 => (k0 (mpick (.bool true) v48_29 (.bool false)) fun v49_30 => (kb v49_30 (k1 (mbin E .eql 25 v28_16 (.int .i64 0)) fun v52_31 => (k0 (mpick (.bool true) v52_31 (.bool false)) fun v53_32 => (kb v53_32 (k1 (mbin E .eql 3 v26_14 (.int .i64 6)) fun v56_33 => (k0 (mpick (.bool true) v56_33 (.bool false)) fun v57_34 => (kb v57_34 (k2 (vcall E.P base m .len [22] [v27_15]) fun v60_35 m => (k1 (mbin E .eql 3 v60_35 (.int .i64 9)) fun v61_36 => (k0 (mpick (.bool true) v61_36 (.bool false)) fun v62_37 => (fVal v62_37 fun v => some (.ret v, m))))) (k0 (mpick (.bool false) undef (.bool false)) fun v62_38 => (fVal v62_38 fun v => some (.ret v, m)))))) (k0 (mpick (.bool false) undef (.bool false)) fun v57_39 => (kb v57_39 (k2 (vcall E.P base m .len [22] [v27_15]) fun v60_40 m => (k1 (mbin E .eql 3 v60_40 (.int .i64 9)) fun v61_41 => (k0 (mpick (.bool true) v61_41 (.bool false)) fun v62_42 => (fVal v62_42 fun v => some (.ret v, m))))) (k0 (mpick (.bool false) undef (.bool false)) fun v62_43 => (fVal v62_43 fun v => some (.ret v, m)))))))) (k0 (mpick (.bool false) undef (.bool false)) fun v53_44 => (kb v53_44 (k1 (mbin E .eql 3 v26_14 (.int .i64 6)) fun v56_45 => (k0 (mpick (.bool true) v56_45 (.bool false)) fun v57_46 => (kb v57_46 (k2 (vcall E.P base m .len [22] [v27_15]) fun v60_47 m => (k1 (mbin E .eql 3 v60_47 (.int .i64 9)) fun v61_48 => (k0 (mpick (.bool true) v61_48 (.bool false)) fun v62_49 => (fVal v62_49 fun v => some (.ret v, m))))) (k0 (mpick (.bool false) undef (.bool false)) fun v62_50 => (fVal v62_50 fun v => some (.ret v, m)))))) (k0 (mpick (.bool false) undef (.bool false)) fun v57_51 => (kb v57_51 (k2 (vcall E.P base m .len [22] [v27_15]) fun v60_52 m => (k1 (mbin E .eql 3 v60_52 (.int .i64 9)) fun v61_53 => (k0 (mpick (.bool true) v61_53 (.bool false)) fun v62_54 => (fVal v62_54 fun v => some (.ret v, m))))) (k0 (mpick (.bool false) undef (.bool false)) fun v62_55 => (fVal v62_55 fun v => some (.ret v, m)))))))))))) (k0 (mpick (.bool false) undef (.bool false)) fun v49_56 => (kb v49_56 (k1 (mbin E .eql 25 v28_16 (.int .i64 0)) fun v52_57 => (k0 (mpick (.bool true) v52_57 (.bool false)) fun v53_58 => (kb v53_58 (k1 (mbin E .eql 3 v26_14 (.int .i64 6)) fun v56_59 => (k0 (mpick (.bool true) v56_59 (.bool false)) fun v57_60 => (kb v57_60 (k2 (vcall E.P base m .len [22] [v27_15]) fun v60_61 m => (k1 (mbin E .eql 3 v60_61 (.int .i64 9)) fun v61_62 => (k0 (mpick (.bool true) v61_62 (.bool false)) fun v62_63 => (fVal v62_63 fun v => some (.ret v, m))))) (k0 (mpick (.bool false) undef (.bool false)) fun v62_64 => (fVal v62_64 fun v => some (.ret v, m)))))) (k0 (mpick (.bool false) undef (.bool false)) fun v57_65 => (kb v57_65 (k2 (vcall E.P base m .len [22] [v27_15]) fun v60_66 m => (k1 (mbin E .eql 3 v60_66 (.int .i64 9)) fun v61_67 => (k0 (mpick (.bool true) v61_67 (.bool false)) fun v62_68 => (fVal v62_68 fun v => some (.ret v, m))))) (k0 (mpick (.bool false) undef (.bool false)) fun v62_69 => (fVal v62_69 fun v => some (.ret v, m)))))))) (k0 (mpick (.bool false) undef (.bool false)) fun v53_70 => (kb v53_70 (k1 (mbin E .eql 3 v26_14 (.int .i64 6)) fun v56_71 => (k0 (mpick (.bool true) v56_71 (.bool false)) fun v57_72 => (kb v57_72 (k2 (vcall E.P base m .len [22] [v27_15]) fun v60_73 m => (k1 (mbin E .eql 3 v60_73 (.int .i64 9)) fun v61_74 => (k0 (mpick (.bool true) v61_74 (.bool false)) fun v62_75 => (fVal v62_75 fun v => some (.ret v, m))))) (k0 (mpick (.bool false) undef (.bool false)) fun v62_76 => (fVal v62_76 fun v => some (.ret v, m)))))) (k0 (mpick (.bool false) undef (.bool false)) fun v57_77 => (kb v57_77 (k2 (vcall E.P base m .len [22] [v27_15]) fun v60_78 m => (k1 (mbin E .eql 3 v60_78 (.int .i64 9)) fun v61_79 => (k0 (mpick (.bool true) v61_79 (.bool false)) fun v62_80 => (fVal v62_80 fun v => some (.ret v, m))))) (k0 (mpick (.bool false) undef (.bool false)) fun v62_81 => (fVal v62_81 fun v => some (.ret v, m)))))))))))) (fun v m => some (.pan v, m)))))) (k0 (mpick (.bool false) undef (.bool false)) fun v44_82 => (kb v44_82 (k1 (mfieldAddr E.P 31 v4_11 2) fun v46_83 => (k1 (xload E.P m 3 v46_83) fun v47_84 => (k1 (mbin E .eql 3 v47_84 (.int .i64 2)) fun v48_85 => (k0 (mpick (.bool true) v48_85 (.bool false)) fun v49_86 => (kb v49_86 (k1 (mbin E .eql 25 v28_16 (.int .i64 0)) fun v52_87 => (k0 (mpick (.bool true) v52_87 (.bool false)) fun v53_88 => (kb v53_88 (k1 (mbin E .eql 3 v26_14 (.int .i64 6)) fun v56_89 => (k0 (mpick (.bool true) v56_89 (.bool false)) fun v57_90 => (kb v57_90 (k2 (vcall E.P base m .len [22] [v27_15]) fun v60_91 m => (k1 (mbin E .eql 3 v60_91 (.int .i64 9)) fun v61_92 => (k0 (mpick (.bool true) v61_92 (.bool false)) fun v62_93 => (fVal v62_93 fun v => some (.ret v, m))))) (k0 (mpick (.bool false) undef (.bool false)) fun v62_94 => (fVal v62_94 fun v => some (.ret v, m)))))) (k0 (mpick (.bool false) undef (.bool false)) fun v57_95 => (kb v57_95 (k2 (vcall E.P base m .len [22] [v27_15]) fun v60_96 m => (k1 (mbin E .eql 3 v60_96 (.int .i64 9)) fun v61_97 => (k0 (mpick (.bool true) v61_97 (.bool false)) fun v62_98 => (fVal v62_98 fun v => some (.ret v, m))))) (k0 (mpick (.bool false) undef (.bool false)) fun v62_99 => (fVal v62_99 fun v => some (.ret v, m)))))))) (k0 (mpick (.bool false) undef (.bool false)) fun v53_100 => (kb v53_100 (k1 (mbin E .eql 3 v26_14 (.int .i64 6)) fun v56_101 => (k0 (mpick (.bool true) v56_101 (.bool false)) fun v57_102 => (kb v57_102 (k2 (vcall E.P base m .len [22] [v27_15]) fun v60_103 m => (k1 (mbin E .eql 3 v60_103 (.int .i64 9)) fun v61_104 => (k0 (mpick (.bool true) v61_104 (.bool false)) fun v62_105 => (fVal v62_105 fun v => some (.ret v, m))))) (k0 (mpick (.bool false) undef (.bool false)) fun v62_106 => (fVal v62_106 fun v => some (.ret v, m)))))) (k0 (mpick (.bool false) undef (.bool false)) fun v57_107 => (kb v57_107 (k2 (vcall E.P base m .len [22] [v27_15]) fun v60_108 m => (k1 (mbin E .eql 3 v60_108 (.int .i64 9)) fun v61_109 => (k0 (mpick (.bool true) v61_109 (.bool false)) fun v62_110 => (fVal v62_110 fun v => some (.ret v, m))))) (k0 (mpick (.bool false) undef (.bool false)) fun v62_111 => (fVal v62_111 fun v => some (.ret v, m)))))))))))) (k0 (mpick (.bool false) undef (.bool false)) fun v49_112 => (kb v49_112 (k1 (mbin E .eql 25 v28_16 (.int .i64 0)) fun v52_113 => (k0 (mpick (.bool true) v52_113 (.bool false)) fun v53_114 => (kb v53_114 (k1 (mbin E .eql 3 v26_14 (.int .i64 6)) fun v56_115 => (k0 (mpick (.bool true) v56_115 (.bool false)) fun v57_116 => (kb v57_116 (k2 (vcall E.P base m .len [22] [v27_15]) fun v60_117 m => (k1 (mbin E .eql 3 v60_117 (.int .i64 9)) fun v61_118 => (k0 (mpick (.bool true) v61_118 (.bool false)) fun v62_119 => (fVal v62_119 fun v => some (.ret v, m))))) (k0 (mpick (.bool false) undef (.bool false)) fun v62_120 => (fVal v62_120 fun v => some (.ret v, m)))))) (k0 (mpick (.bool false) undef (.bool false)) fun v57_121 => (kb v57_121 (k2 (vcall E.P base m .len [22] [v27_15]) fun v60_122 m => (k1 (mbin E .eql 3 v60_122 (.int .i64 9)) fun v61_123 => (k0 (mpick (.bool true) v61_123 (.bool false)) fun v62_124 => (fVal v62_124 fun v => some (.ret v, m))))) (k0 (mpick (.bool false) undef (.bool false)) fun v62_125 => (fVal v62_125 fun v => some (.ret v, m)))))))) (k0 (mpick (.bool false) undef (.bool false)) fun v53_126 => (kb v53_126 (k1 (mbin E .eql 3 v26_14 (.int .i64 6)) fun v56_127 => (k0 (mpick (.bool true) v56_127 (.bool false)) fun v57_128 => (kb v57_128 (k2 (vcall E.P base m .len [22] [v27_15]) fun v60_129 m => (k1 (mbin E .eql 3 v60_129 (.int .i64 9)) fun v61_130 => (k0 (mpick (.bool true) v61_130 (.bool false)) fun v62_131 => (fVal v62_131 fun v => some (.ret v, m))))) (k0 (mpick (.bool false) undef (.bool false)) fun v62_132 => (fVal v62_132 fun v => some (.ret v, m)))))) (k0 (mpick (.bool false) undef (.bool false)) fun v57_133 => (kb v57_133 (k2 (vcall E.P base m .len [22] [v27_15]) fun v60_134 m => (k1 (mbin E .eql 3 v60_134 (.int .i64 9)) fun v61_135 => (k0 (mpick (.bool true) v61_135 (.bool false)) fun v62_136 => (fVal v62_136 fun v => some (.ret v, m))))) (k0 (mpick (.bool false) undef (.bool false)) fun v62_137 => (fVal v62_137 fun v => some (.ret v, m)))))))))))))) (k0 (mpick (.bool false) undef (.bool false)) fun v38_138 => (kb v38_138 (k1 (mfieldAddr E.P 31 v4_11 0) fun v40_139 => (k1 (xload E.P m 29 v40_139) fun v41_140 => (k2 (xbuildSlice E.P m 29 3 [(0, (.int .i64 2)), (1, (.int .i64 (-1))), (2, (.int .i64 (-1)))]) fun v42_141 m => (kc (call base 22 [v41_140, v42_141] m) (fun v43_142 m => (k0 (mpick (.bool true) v43_142 (.bool false)) fun v44_143 => (kb v44_143 (k1 (mfieldAddr E.P 31 v4_11 2) fun v46_144 => (k1 (xload E.P m 3 v46_144) fun v47_145 => (k1 (mbin E .eql 3 v47_145 (.int .i64 2)) fun v48_146 => (k0 (mpick (.bool true) v48_146 (.bool false)) fun v49_147 => (kb v49_147 (k1 (mbin E .eql 25 v28_16 (.int .i64 0)) fun v52_148 => (k0 (mpick (.bool true) v52_148 (.bool false)) fun v53_149 => (kb v53_149 (k1 (mbin E .eql 3 v26_14 (.int .i64 6)) fun v56_150 => (k0 (mpick (.bool true) v56_150 (.bool false)) fun v57_151 => (kb v57_151 (k2 (vcall E.P base m .len [22] [v27_15]) fun v60_152 m => (k1 (mbin E .eql 3 v60_152 (.int .i64 9)) fun v61_153 => (k0 (mpick (.bool true) v61_153 (.bool false)) fun v62_154 => (fVal v62_154 fun v => some (.ret v, m))))) (k0 (mpick (.bool false) undef (.bool false)) fun v62_155 => (fVal v62_155 fun v => some (.ret v, m)))))) (k0 (mpick (.bool false) undef (.bool false)) fun v57_156 => (kb v57_156 (k2 (vcall E.P base m .len [22] [v27_15]) fun v60_157 m => (k1 (mbin E .eql 3 v60_157 (.int .i64 9)) fun v61_158 => (k0 (mpick (.bool true) v61_158 (.bool false)) fun v62_159 => (fVal v62_159 fun v => some (.ret v, m))))) (k0 (mpick (.bool false) undef (.bool false)) fun v62_160 => (fVal v62_160 fun v => some (.ret v, m)))))))) (k0 (mpick (.bool false) undef (.bool false)) fun v53_161 => (kb v53_161 (k1 (mbin E .eql 3 v26_14 (.int .i64 6)) fun v56_162 => (k0 (mpick (.bool true) v56_162 (.bool false)) fun v57_163 => (kb v57_163 (k2 (vcall E.P base m .len [22] [v27_15]) fun v60_164 m => (k1 (mbin E .eql 3 v60_164 (.int .i64 9)) fun v61_165 => (k0 (mpick (.bool true) v61_165 (.bool false)) fun v62_166 => (fVal v62_166 fun v => some (.ret v, m))))) (k0 (mpick (.bool false) undef (.bool false)) fun v62_167 => (fVal v62_167 fun v => some (.ret v, m)))))) (k0 (mpick (.bool false) undef (.bool false)) fun v57_168 => (kb v57_168 (k2 (vcall E.P base m .len [22] [v27_15]) fun v60_169 m => (k1 (mbin E .eql 3 v60_169 (.int .i64 9)) fun v61_170 => (k0 (mpick (.bool true) v61_170 (.bool false)) fun v62_171 => (fVal v62_171 fun v => some (.ret v, m))))) (k0 (mpick (.bool false) undef (.bool false)) fun v62_172 => (fVal v62_172 fun v => some (.ret v, m)))))))))))) (k0 (mpick (.bool false) undef (.bool false)) fun v49_173 => (kb v49_173 (k1 (mbin E .eql 25 v28_16 (.int .i64 0)) fun v52_174 => (k0 (mpick (.bool true) v52_174 (.bool false)) fun v53_175 => (kb v53_175 (k1 (mbin E .eql 3 v26_14 (.int .i64 6)) fun v56_176 => (k0 (mpick (.bool true) v56_176 (.bool false)) fun v57_177 => (kb v57_177 (k2 (vcall E.P base m .len [22] [v27_15]) fun v60_178 m => (k1 (mbin E .eql 3 v60_178 (.int .i64 9)) fun v61_179 => (k0 (mpick (.bool true) v61_179 (.bool false)) fun v62_180 => (fVal v62_180 fun v => some (.ret v, m))))) (k0 (mpick (.bool false) undef (.bool false)) fun v62_181 => (fVal v62_181 fun v => some (.ret v, m)))))) (k0 (mpick (.bool false) undef (.bool false)) fun v57_182 => (kb v57_182 (k2 (vcall E.P base m .len [22] [v27_15]) fun v60_183 m => (k1 (mbin E .eql 3 v60_183 (.int .i64 9)) fun v61_184 => (k0 (mpick (.bool true) v61_184 (.bool false)) fun v62_185 => (fVal v62_185 fun v => some (.ret v, m))))) (k0 (mpick (.bool false) undef (.bool false)) fun v62_186 => (fVal v62_186 fun v => some (.ret v, m)))))))) (k0 (mpick (.bool false) undef (.bool false)) fun v53_187 => (kb v53_187 (k1 (mbin E .eql 3 v26_14 (.int .i64 6)) fun v56_188 => (k0 (mpick (.bool true) v56_188 (.bool false)) fun v57_189 => (kb v57_189 (k2 (vcall E.P base m .len [22] [v27_15]) fun v60_190 m => (k1 (mbin E .eql 3 v60_190 (.int .i64 9)) fun v61_191 => (k0 (mpick (.bool true) v61_191 (.bool false)) fun v62_192 => (fVal v62_192 fun v => some (.ret v, m))))) (k0 (mpick (.bool false) undef (.bool false)) fun v62_193 => (fVal v62_193 fun v => some (.ret v, m)))))) (k0 (mpick (.bool false) undef (.bool false)) fun v57_194 => (kb v57_194 (k2 (vcall E.P base m .len [22] [v27_15]) fun v60_195 m => (k1 (mbin E .eql 3 v60_195 (.int .i64 9)) fun v61_196 => (k0 (mpick (.bool true) v61_196 (.bool false)) fun v62_197 => (fVal v62_197 fun v => some (.ret v, m))))) (k0 (mpick (.bool false) undef (.bool false)) fun v62_198 => (fVal v62_198 fun v => some (.ret v, m)))))))))))) (fun v m => some (.pan v, m)))))) (k0 (mpick (.bool false) undef (.bool false)) fun v44_199 => (kb v44_199 (k1 (mfieldAddr E.P 31 v4_11 2) fun v46_200 => (k1 (xload E.P m 3 v46_200) fun v47_201 => (k1 (mbin E .eql 3 v47_201 (.int .i64 2)) fun v48_202 => (k0 (mpick (.bool true) v48_202 (.bool false)) fun v49_203 => (kb v49_203 (k1 (mbin E .eql 25 v28_16 (.int .i64 0)) fun v52_204 => (k0 (mpick (.bool true) v52_204 (.bool false)) fun v53_205 => (kb v53_205 (k1 (mbin E .eql 3 v26_14 (.int .i64 6)) fun v56_206 => (k0 (mpick (.bool true) v56_206 (.bool false)) fun v57_207 => (kb v57_207 (k2 (vcall E.P base m .len [22] [v27_15]) fun v60_208 m => (k1 (mbin E .eql 3 v60_208 (.int .i64 9)) fun v61_209 => (k0 (mpick (.bool true) v61_209 (.bool false)) fun v62_210 => (fVal v62_210 fun v => some (.ret v, m))))) (k0 (mpick (.bool false) undef (.bool false)) fun v62_211 => (fVal v62_211 fun v => some (.ret v, m)))))) (k0 (mpick (.bool false) undef (.bool false)) fun v57_212 => (kb v57_212 (k2 (vcall E.P base m .len [22] [v27_15]) fun v60_213 m => (k1 (mbin E .eql 3 v60_213 (.int .i64 9)) fun v61_214 => (k0 (mpick (.bool true) v61_214 (.bool false)) fun v62_215 => (fVal v62_215 fun v => some (.ret v, m))))) (k0 (mpick (.bool false) undef (.bool false)) fun v62_216 => (fVal v62_216 fun v => some (.ret v, m)))))))) (k0 (mpick (.bool false) undef (.bool false)) fun v53_217 => (kb v53_217 (k1 (mbin E .eql 3 v26_14 (.int .i64 6)) fun v56_218 => (k0 (mpick (.bool true) v56_218 (.bool false)) fun v57_219 => (kb v57_219 (k2 (vcall E.P base m .len [22] [v27_15]) fun v60_220 m => (k1 (mbin E .eql 3 v60_220 (.int .i64 9)) fun v61_221 => (k0 (mpick (.bool true) v61_221 (.bool false)) fun v62_222 => (fVal v62_222 fun v => some (.ret v, m))))) (k0 (mpick (.bool false) undef (.bool false)) fun v62_223 => (fVal v62_223 fun v => some (.ret v, m)))))) (k0 (mpick (.bool false) undef (.bool false)) fun v57_224 => (kb v57_224 (k2 (vcall E.P base m .len [22] [v27_15]) fun v60_225 m => (k1 (mbin E .eql 3 v60_225 (.int .i64 9)) fun v61_226 => (k0 (mpick (.bool true) v61_226 (.bool false)) fun v62_227 => (fVal v62_227 fun v => some (.ret v, m))))) (k0 (mpick (.bool false) undef (.bool false)) fun v62_228 => (fVal v62_228 fun v => some (.ret v, m)))))))))))) (k0 (mpick (.bool false) undef (.bool false)) fun v49_229 => (kb v49_229 (k1 (mbin E .eql 25 v28_16 (.int .i64 0)) fun v52_230 => (k0 (mpick (.bool true) v52_230 (.bool false)) fun v53_231 => (kb v53_231 (k1 (mbin E .eql 3 v26_14 (.int .i64 6)) fun v56_232 => (k0 (mpick (.bool true) v56_232 (.bool false)) fun v57_233 => (kb v57_233 (k2 (vcall E.P base m .len [22] [v27_15]) fun v60_234 m => (k1 (mbin E .eql 3 v60_234 (.int .i64 9)) fun v61_235 => (k0 (mpick (.bool true) v61_235 (.bool false)) fun v62_236 => (fVal v62_236 fun v => some (.ret v, m))))) (k0 (mpick (.bool false) undef (.bool false)) fun v62_237 => (fVal v62_237 fun v => some (.ret v, m)))))) (k0 (mpick (.bool false) undef (.bool false)) fun v57_238 => (kb v57_238 (k2 (vcall E.P base m .len [22] [v27_15]) fun v60_239 m => (k1 (mbin E .eql 3 v60_239 (.int .i64 9)) fun v61_240 => (k0 (mpick (.bool true) v61_240 (.bool false)) fun v62_241 => (fVal v62_241 fun v => some (.ret v, m))))) (k0 (mpick (.bool false) undef (.bool false)) fun v62_242 => (fVal v62_242 fun v => some (.ret v, m)))))))) (k0 (mpick (.bool false) undef (.bool false)) fun v53_243 => (kb v53_243 (k1 (mbin E .eql 3 v26_14 (.int .i64 6)) fun v56_244 => (k0 (mpick (.bool true) v56_244 (.bool false)) fun v57_245 => (kb v57_245 (k2 (vcall E.P base m .len [22] [v27_15]) fun v60_246 m => (k1 (mbin E .eql 3 v60_246 (.int .i64 9)) fun v61_247 => (k0 (mpick (.bool true) v61_247 (.bool false)) fun v62_248 => (fVal v62_248 fun v => some (.ret v, m))))) (k0 (mpick (.bool false) undef (.bool false)) fun v62_249 => (fVal v62_249 fun v => some (.ret v, m)))))) (k0 (mpick (.bool false) undef (.bool false)) fun v57_250 => (kb v57_250 (k2 (vcall E.P base m .len [22] [v27_15]) fun v60_251 m => (k1 (mbin E .eql 3 v60_251 (.int .i64 9)) fun v61_252 => (k0 (mpick (.bool true) v61_252 (.bool false)) fun v62_253 => (fVal v62_253 fun v => some (.ret v, m))))) (k0 (mpick (.bool false) undef (.bool false)) fun v62_254 => (fVal v62_254 fun v => some (.ret v, m)))))))))))))))) (k0 (mpick (.bool false) undef (.bool false)) fun v34_255 => (kb v34_255 (k1 (mbin E .eql 25 v22_10 (.int .i64 0)) fun v37_256 => (k0 (mpick (.bool true) v37_256 (.bool false)) fun v38_257 => (kb v38_257 (k1 (mfieldAddr E.P 31 v4_11 0) fun v40_258 => (k1 (xload E.P m 29 v40_258) fun v41_259 => (k2 (xbuildSlice E.P m 29 3 [(0, (.int .i64 2)), (1, (.int .i64 (-1))), (2, (.int .i64 (-1)))]) fun v42_260 m => (kc (call base 22 [v41_259, v42_260] m) (fun v43_261 m => (k0 (mpick (.bool true) v43_261 (.bool false)) fun v44_262 => (kb v44_262 (k1 (mfieldAddr E.P 31 v4_11 2) fun v46_263 => (k1 (xload E.P m 3 v46_263) fun v47_264 => (k1 (mbin E .eql 3 v47_264 (.int .i64 2)) fun v48_265 => (k0 (mpick (.bool true) v48_265 (.bool false)) fun v49_266 => (kb v49_266 (k1 (mbin E .eql 25 v28_16 (.int .i64 0)) fun v52_267 => (k0 (mpick (.bool true) v52_267 (.bool false)) fun v53_268 => (kb v53_268 (k1 (mbin E .eql 3 v26_14 (.int .i64 6)) fun v56_269 => (k0 (mpick (.bool true) v56_269 (.bool false)) fun v57_270 => (kb v57_270 (k2 (vcall E.P base m .len [22] [v27_15]) fun v60_271 m => (k1 (mbin E .eql 3 v60_271 (.int .i64 9)) fun v61_272 => (k0 (mpick (.bool true) v61_272 (.bool false)) fun v62_273 => (fVal v62_273 fun v => some (.ret v, m))))) (k0 (mpick (.bool false) undef (.bool false)) fun v62_274 => (fVal v62_274 fun v => some (.ret v, m)))))) (k0 (mpick (.bool false) undef (.bool false)) fun v57_275 => (kb v57_275 (k2 (vcall E.P base m .len [22] [v27_15]) fun v60_276 m => (k1 (mbin E .eql 3 v60_276 (.int .i64 9)) fun v61_277 => (k0 (mpick (.bool true) v61_277 (.bool false)) fun v62_278 => (fVal v62_278 fun v => some (.ret v, m))))) (k0 (mpick (.bool false) undef (.bool false)) fun v62_279 => (fVal v62_279 fun v => some (.ret v, m)))))))) (k0 (mpick (.bool false) undef (.bool false)) fun v53_280 => (kb v53_280 (k1 (mbin E .eql 3 v26_14 (.int .i64 6)) fun v56_281 => (k0 (mpick (.bool true) v56_281 (.bool false)) fun v57_282 => (kb v57_282 (k2 (vcall E.P base m .len [22] [v27_15]) fun v60_283 m => (k1 (mbin E .eql 3 v60_283 (.int .i64 9)) fun v61_284 => (k0 (mpick (.bool true) v61_284 (.bool false)) fun v62_285 => (fVal v62_285 fun v => some (.ret v, m))))) (k0 (mpick (.bool false) undef (.bool false)) fun v62_286 => (fVal v62_286 fun v => some (.ret v, m)))))) (k0 (mpick (.bool false) undef (.bool false)) fun v57_287 => (kb v57_287 (k2 (vcall E.P base m .len [22] [v27_15]) fun v60_288 m => (k1 (mbin E .eql 3 v60_288 (.int .i64 9)) fun v61_289 => (k0 (mpick (.bool true) v61_289 (.bool false)) fun v62_290 => (fVal v62_290 fun v => some (.ret v, m))))) (k0 (mpick (.bool false) undef (.bool false)) fun v62_291 => (fVal v62_291 fun v => some (.ret v, m)))))))))))) (k0 (mpick (.bool false) undef (.bool false)) fun v49_292 => (kb v49_292 (k1 (mbin E .eql 25 v28_16 (.int .i64 0)) fun v52_293 => (k0 (mpick (.bool true) v52_293 (.bool false)) fun v53_294 => (kb v53_294 (k1 (mbin E .eql 3 v26_14 (.int .i64 6)) fun v56_295 => (k0 (mpick (.bool true) v56_295 (.bool false)) fun v57_296 => (kb v57_296 (k2 (vcall E.P base m .len [22] [v27_15]) fun v60_297 m => (k1 (mbin E .eql 3 v60_297 (.int .i64 9)) fun v61_298 => (k0 (mpick (.bool true) v61_298 (.bool false)) fun v62_299 => (fVal v62_299 fun v => some (.ret v, m))))) (k0 (mpick (.bool false) undef (.bool false)) fun v62_300 => (fVal v62_300 fun v => some (.ret v, m)))))) (k0 (mpick (.bool false) undef (.bool false)) fun v57_301 => (kb v57_301 (k2 (vcall E.P base m .len [22] [v27_15]) fun v60_302 m => (k1 (mbin E .eql 3 v60_302 (.int .i64 9)) fun v61_303 => (k0 (mpick (.bool true) v61_303 (.bool false)) fun v62_304 => (fVal v62_304 fun v => some (.ret v, m))))) (k0 (mpick (.bool false) undef (.bool false)) fun v62_305 => (fVal v62_305 fun v => some (.ret v, m)))))))) (k0 (mpick (.bool false) undef (.bool false)) fun v53_306 => (kb v53_306 (k1 (mbin E .eql 3 v26_14 (.int .i64 6)) fun v56_307 => (k0 (mpick (.bool true) v56_307 (.bool false)) fun v57_308 => (kb v57_308 (k2 (vcall E.P base m .len [22] [v27_15]) fun v60_309 m => (k1 (mbin E .eql 3 v60_309 (.int .i64 9)) fun v61_310 => (k0 (mpick (.bool true) v61_310 (.bool false)) fun v62_311 => (fVal v62_311 fun v => some (.ret v, m))))) (k0 (mpick (.bool false) undef (.bool false)) fun v62_312 => (fVal v62_312 fun v => some (.ret v, m)))))) (k0 (mpick (.bool false) undef (.bool false)) fun v57_313 => (kb v57_313 (k2 (vcall E.P base m .len [22] [v27_15]) fun v60_314 m => (k1 (mbin E .eql 3 v60_314 (.int .i64 9)) fun v61_315 => (k0 (mpick (.bool true) v61_315 (.bool false)) fun v62_316 => (fVal v62_316 fun v => some (.ret v, m))))) (k0 (mpick (.bool false) undef (.bool false)) fun v62_317 => (fVal v62_317 fun v => some (.ret v, m)))))))))))) (fun v m => some (.pan v, m)))))) (k0 (mpick (.bool false) undef (.bool false)) fun v44_318 => (kb v44_318 (k1 (mfieldAddr E.P 31 v4_11 2) fun v46_319 => (k1 (xload E.P m 3 v46_319) fun v47_320 => (k1 (mbin E .eql 3 v47_320 (.int .i64 2)) fun v48_321 => (k0 (mpick (.bool true) v48_321 (.bool false)) fun v49_322 => (kb v49_322 (k1 (mbin E .eql 25 v28_16 (.int .i64 0)) fun v52_323 => (k0 (mpick (.bool true) v52_323 (.bool false)) fun v53_324 => (kb v53_324 (k1 (mbin E .eql 3 v26_14 (.int .i64 6)) fun v56_325 => (k0 (mpick (.bool true) v56_325 (.bool false)) fun v57_326 => (kb v57_326 (k2 (vcall E.P base m .len [22] [v27_15]) fun v60_327 m => (k1 (mbin E .eql 3 v60_327 (.int .i64 9)) fun v61_328 => (k0 (mpick (.bool true) v61_328 (.bool false)) fun v62_329 => (fVal v62_329 fun v => some (.ret v, m))))) (k0 (mpick (.bool false) undef (.bool false)) fun v62_330 => (fVal v62_330 fun v => some (.ret v, m)))))) (k0 (mpick (.bool false) undef (.bool false)) fun v57_331 => (kb v57_331 (k2 (vcall E.P base m .len [22] [v27_15]) fun v60_332 m => (k1 (mbin E .eql 3 v60_332 (.int .i64 9)) fun v61_333 => (k0 (mpick (.bool true) v61_333 (.bool false)) fun v62_334 => (fVal v62_334 fun v => some (.ret v, m))))) (k0 (mpick (.bool false) undef (.bool false)) fun v62_335 => (fVal v62_335 fun v => some (.ret v, m)))))))) (k0 (mpick (.bool false) undef (.bool false)) fun v53_336 => (kb v53_336 (k1 (mbin E .eql 3 v26_14 (.int .i64 6)) fun v56_337 => (k0 (mpick (.bool true) v56_337 (.bool false)) fun v57_338 => (kb v57_338 (k2 (vcall E.P base m .len [22] [v27_15]) fun v60_339 m => (k1 (mbin E .eql 3 v60_339 (.int .i64 9)) fun v61_340 => (k0 (mpick (.bool true) v61_340 (.bool false)) fun v62_341 => (fVal v62_341 fun v => some (.ret v, m))))) (k0 (mpick (.bool false) undef (.bool false)) fun v62_342 => (fVal v62_342 fun v => some (.ret v, m)))))) (k0 (mpick (.bool false) undef (.bool false)) fun v57_343 => (kb v57_343 (k2 (vcall E.P base m .len [22] [v27_15]) fun v60_344 m => (k1 (mbin E .eql 3 v60_344 (.int .i64 9)) fun v61_345 => (k0 (mpick (.bool true) v61_345 (.bool false)) fun v62_346 => (fVal v62_346 fun v => some (.ret v, m))))) (k0 (mpick (.bool false) undef (.bool false)) fun v62_347 => (fVal v62_347 fun v => some (.ret v, m)))))))))))) (k0 (mpick (.bool false) undef (.bool false)) fun v49_348 => (kb v49_348 (k1 (mbin E .eql 25 v28_16 (.int .i64 0)) fun v52_349 => (k0 (mpick (.bool true) v52_349 (.bool false)) fun v53_350 => (kb v53_350 (k1 (mbin E .eql 3 v26_14 (.int .i64 6)) fun v56_351 => (k0 (mpick (.bool true) v56_351 (.bool false)) fun v57_352 => (kb v57_352 (k2 (vcall E.P base m .len [22] [v27_15]) fun v60_353 m => (k1 (mbin E .eql 3 v60_353 (.int .i64 9)) fun v61_354 => (k0 (mpick (.bool true) v61_354 (.bool false)) fun v62_355 => (fVal v62_355 fun v => some (.ret v, m))))) (k0 (mpick (.bool false) undef (.bool false)) fun v62_356 => (fVal v62_356 fun v => some (.ret v, m)))))) (k0 (mpick (.bool false) undef (.bool false)) fun v57_357 => (kb v57_357 (k2 (vcall E.P base m .len [22] [v27_15]) fun v60_358 m => (k1 (mbin E .eql 3 v60_358 (.int .i64 9)) fun v61_359 => (k0 (mpick (.bool true) v61_359 (.bool false)) fun v62_360 => (fVal v62_360 fun v => some (.ret v, m))))) (k0 (mpick (.bool false) undef (.bool false)) fun v62_361 => (fVal v62_361 fun v => some (.ret v, m)))))))) (k0 (mpick (.bool false) undef (.bool false)) fun v53_362 => (kb v53_362 (k1 (mbin E .eql 3 v26_14 (.int .i64 6)) fun v56_363 => (k0 (mpick (.bool true) v56_363 (.bool false)) fun v57_364 => (kb v57_364 (k2 (vcall E.P base m .len [22] [v27_15]) fun v60_365 m => (k1 (mbin E .eql 3 v60_365 (.int .i64 9)) fun v61_366 => (k0 (mpick (.bool true) v61_366 (.bool false)) fun v62_367 => (fVal v62_367 fun v => some (.ret v, m))))) (k0 (mpick (.bool false) undef (.bool false)) fun v62_368 => (fVal v62_368 fun v => some (.ret v, m)))))) (k0 (mpick (.bool false) undef (.bool false)) fun v57_369 => (kb v57_369 (k2 (vcall E.P base m .len [22] [v27_15]) fun v60_370 m => (k1 (mbin E .eql 3 v60_370 (.int .i64 9)) fun v61_371 => (k0 (mpick (.bool true) v61_371 (.bool false)) fun v62_372 => (fVal v62_372 fun v => some (.ret v, m))))) (k0 (mpick (.bool false) undef (.bool false)) fun v62_373 => (fVal v62_373 fun v => some (.ret v, m)))))))))))))) (k0 (mpick (.bool false) undef (.bool false)) fun v38_374 => (kb v38_374 (k1 (mfieldAddr E.P 31 v4_11 0) fun v40_375 => (k1 (xload E.P m 29 v40_375) fun v41_376 => (k2 (xbuildSlice E.P m 29 3 [(0, (.int .i64 2)), (1, (.int .i64 (-1))), (2, (.int .i64 (-1)))]) fun v42_377 m => (kc (call base 22 [v41_376, v42_377] m) (fun v43_378 m => (k0 (mpick (.bool true) v43_378 (.bool false)) fun v44_379 => (kb v44_379 (k1 (mfieldAddr E.P 31 v4_11 2) fun v46_380 => (k1 (xload E.P m 3 v46_380) fun v47_381 => (k1 (mbin E .eql 3 v47_381 (.int .i64 2)) fun v48_382 => (k0 (mpick (.bool true) v48_382 (.bool false)) fun v49_383 => (kb v49_383 (k1 (mbin E .eql 25 v28_16 (.int .i64 0)) fun v52_384 => (k0 (mpick (.bool true) v52_384 (.bool false)) fun v53_385 => (kb v53_385 (k1 (mbin E .eql 3 v26_14 (.int .i64 6)) fun v56_386 => (k0 (mpick (.bool true) v56_386 (.bool false)) fun v57_387 => (kb v57_387 (k2 (vcall E.P base m .len [22] [v27_15]) fun v60_388 m => (k1 (mbin E .eql 3 v60_388 (.int .i64 9)) fun v61_389 => (k0 (mpick (.bool true) v61_389 (.bool false)) fun v62_390 => (fVal v62_390 fun v => some (.ret v, m))))) (k0 (mpick (.bool false) undef (.bool false)) fun v62_391 => (fVal v62_391 fun v => some (.ret v, m)))))) (k0 (mpick (.bool false) undef (.bool false)) fun v57_392 => (kb v57_392 (k2 (vcall E.P base m .len [22] [v27_15]) fun v60_393 m => (k1 (mbin E .eql 3 v60_393 (.int .i64 9)) fun v61_394 => (k0 (mpick (.bool true) v61_394 (.bool false)) fun v62_395 => (fVal v62_395 fun v => some (.ret v, m))))) (k0 (mpick (.bool false) undef (.bool false)) fun v62_396 => (fVal v62_396 fun v => some (.ret v, m)))))))) (k0 (mpick (.bool false) undef (.bool false)) fun v53_397 => (kb v53_397 (k1 (mbin E .eql 3 v26_14 (.int .i64 6)) fun v56_398 => (k0 (mpick (.bool true) v56_398 (.bool false)) fun v57_399 => (kb v57_399 (k2 (vcall E.P base m .len [22] [v27_15]) fun v60_400 m => (k1 (mbin E .eql 3 v60_400 (.int .i64 9)) fun v61_401 => (k0 (mpick (.bool true) v61_401 (.bool false)) fun v62_402 => (fVal v62_402 fun v => some (.ret v, m))))) (k0 (mpick (.bool false) undef (.bool false)) fun v62_403 => (fVal v62_403 fun v => some (.ret v, m)))))) (k0 (mpick (.bool false) undef (.bool false)) fun v57_404 => (kb v57_404 (k2 (vcall E.P base m .len [22] [v27_15]) fun v60_405 m => (k1 (mbin E .eql 3 v60_405 (.int .i64 9)) fun v61_406 => (k0 (mpick (.bool true) v61_406 (.bool false)) fun v62_407 => (fVal v62_407 fun v => some (.ret v, m))))) (k0 (mpick (.bool false) undef (.bool false)) fun v62_408 => (fVal v62_408 fun v => some (.ret v, m)))))))))))) (k0 (mpick (.bool false) undef (.bool false)) fun v49_409 => (kb v49_409 (k1 (mbin E .eql 25 v28_16 (.int .i64 0)) fun v52_410 => (k0 (mpick (.bool true) v52_410 (.bool false)) fun v53_411 => (kb v53_411 (k1 (mbin E .eql 3 v26_14 (.int .i64 6)) fun v56_412 => (k0 (mpick (.bool true) v56_412 (.bool false)) fun v57_413 => (kb v57_413 (k2 (vcall E.P base m .len [22] [v27_15]) fun v60_414 m => (k1 (mbin E .eql 3 v60_414 (.int .i64 9)) fun v61_415 => (k0 (mpick (.bool true) v61_415 (.bool false)) fun v62_416 => (fVal v62_416 fun v => some (.ret v, m))))) (k0 (mpick (.bool false) undef (.bool false)) fun v62_417 => (fVal v62_417 fun v => some (.ret v, m)))))) (k0 (mpick (.bool false) undef (.bool false)) fun v57_418 => (kb v57_418 (k2 (vcall E.P base m .len [22] [v27_15]) fun v60_419 m => (k1 (mbin E .eql 3 v60_419 (.int .i64 9)) fun v61_420 => (k0 (mpick (.bool true) v61_420 (.bool false)) fun v62_421 => (fVal v62_421 fun v => some (.ret v, m))))) (k0 (mpick (.bool false) undef (.bool false)) fun v62_422 => (fVal v62_422 fun v => some (.ret v, m)))))))) (k0 (mpick (.bool false) undef (.bool false)) fun v53_423 => (kb v53_423 (k1 (mbin E .eql 3 v26_14 (.int .i64 6)) fun v56_424 => (k0 (mpick (.bool true) v56_424 (.bool false)) fun v57_425 => (kb v57_425 (k2 (vcall E.P base m .len [22] [v27_15]) fun v60_426 m => (k1 (mbin E .eql 3 v60_426 (.int .i64 9)) fun v61_427 => (k0 (mpick (.bool true) v61_427 (.bool false)) fun v62_428 => (fVal v62_428 fun v => some (.ret v, m))))) (k0 (mpick (.bool false) undef (.bool false)) fun v62_429 => (fVal v62_429 fun v => some (.ret v, m)))))) (k0 (mpick (.bool false) undef (.bool false)) fun v57_430 => (kb v57_430 (k2 (vcall E.P base m .len [22] [v27_15]) fun v60_431 m => (k1 (mbin E .eql 3 v60_431 (.int .i64 9)) fun v61_432 => (k0 (mpick (.bool true) v61_432 (.bool false)) fun v62_433 => (fVal v62_433 fun v => some (.ret v, m))))) (k0 (mpick (.bool false) undef (.bool false)) fun v62_434 => (fVal v62_434 fun v => some (.ret v, m)))))))))))) (fun v m => some (.pan v, m)))))) (k0 (mpick (.bool false) undef (.bool false)) fun v44_435 => (kb v44_435 (k1 (mfieldAddr E.P 31 v4_11 2) fun v46_436 => (k1 (xload E.P m 3 v46_436) fun v47_437 => (k1 (mbin E .eql 3 v47_437 (.int .i64 2)) fun v48_438 => (k0 (mpick (.bool true) v48_438 (.bool false)) fun v49_439 => (kb v49_439 (k1 (mbin E .eql 25 v28_16 (.int .i64 0)) fun v52_440 => (k0 (mpick (.bool true) v52_440 (.bool false)) fun v53_441 => (kb v53_441 (k1 (mbin E .eql 3 v26_14 (.int .i64 6)) fun v56_442 => (k0 (mpick (.bool true) v56_442 (.bool false)) fun v57_443 => (kb v57_443 (k2 (vcall E.P base m .len [22] [v27_15]) fun v60_444 m => (k1 (mbin E .eql 3 v60_444 (.int .i64 9)) fun v61_445 => (k0 (mpick (.bool true) v61_445 (.bool false)) fun v62_446 => (fVal v62_446 fun v => some (.ret v, m))))) (k0 (mpick (.bool false) undef (.bool false)) fun v62_447 => (fVal v62_447 fun v => some (.ret v, m)))))) (k0 (mpick (.bool false) undef (.bool false)) fun v57_448 => (kb v57_448 (k2 (vcall E.P base m .len [22] [v27_15]) fun v60_449 m => (k1 (mbin E .eql 3 v60_449 (.int .i64 9)) fun v61_450 => (k0 (mpick (.bool true) v61_450 (.bool false)) fun v62_451 => (fVal v62_451 fun v => some (.ret v, m))))) (k0 (mpick (.bool false) undef (.bool false)) fun v62_452 => (fVal v62_452 fun v => some (.ret v, m)))))))) (k0 (mpick (.bool false) undef (.bool false)) fun v53_453 => (kb v53_453 (k1 (mbin E .eql 3 v26_14 (.int .i64 6)) fun v56_454 => (k0 (mpick (.bool true) v56_454 (.bool false)) fun v57_455 => (kb v57_455 (k2 (vcall E.P base m .len [22] [v27_15]) fun v60_456 m => (k1 (mbin E .eql 3 v60_456 (.int .i64 9)) fun v61_457 => (k0 (mpick (.bool true) v61_457 (.bool false)) fun v62_458 => (fVal v62_458 fun v => some (.ret v, m))))) (k0 (mpick (.bool false) undef (.bool false)) fun v62_459 => (fVal v62_459 fun v => some (.ret v, m)))))) (k0 (mpick (.bool false) undef (.bool false)) fun v57_460 => (kb v57_460 (k2 (vcall E.P base m .len [22] [v27_15]) fun v60_461 m => (k1 (mbin E .eql 3 v60_461 (.int .i64 9)) fun v61_462 => (k0 (mpick (.bool true) v61_462 (.bool false)) fun v62_463 => (fVal v62_463 fun v => some (.ret v, m))))) (k0 (mpick (.bool false) undef (.bool false)) fun v62_464 => (fVal v62_464 fun v => some (.ret v, m)))))))))))) (k0 (mpick (.bool false) undef (.bool false)) fun v49_465 => (kb v49_465 (k1 (mbin E .eql 25 v28_16 (.int .i64 0)) fun v52_466 => (k0 (mpick (.bool true) v52_466 (.bool false)) fun v53_467 => (kb v53_467 (k1 (mbin E .eql 3 v26_14 (.int .i64 6)) fun v56_468 => (k0 (mpick (.bool true) v56_468 (.bool false)) fun v57_469 => (kb v57_469 (k2 (vcall E.P base m .len [22] [v27_15]) fun v60_470 m => (k1 (mbin E .eql 3 v60_470 (.int .i64 9)) fun v61_471 => (k0 (mpick (.bool true) v61_471 (.bool false)) fun v62_472 => (fVal v62_472 fun v => some (.ret v, m))))) (k0 (mpick (.bool false) undef (.bool false)) fun v62_473 => (fVal v62_473 fun v => some (.ret v, m)))))) (k0 (mpick (.bool false) undef (.bool false)) fun v57_474 => (kb v57_474 (k2 (vcall E.P base m .len [22] [v27_15]) fun v60_475 m => (k1 (mbin E .eql 3 v60_475 (.int .i64 9)) fun v61_476 => (k0 (mpick (.bool true) v61_476 (.bool false)) fun v62_477 => (fVal v62_477 fun v => some (.ret v, m))))) (k0 (mpick (.bool false) undef (.bool false)) fun v62_478 => (fVal v62_478 fun v => some (.ret v, m)))))))) (k0 (mpick (.bool false) undef (.bool false)) fun v53_479 => (kb v53_479 (k1 (mbin E .eql 3 v26_14 (.int .i64 6)) fun v56_480 => (k0 (mpick (.bool true) v56_480 (.bool false)) fun v57_481 => (kb v57_481 (k2 (vcall E.P base m .len [22] [v27_15]) fun v60_482 m => (k1 (mbin E .eql 3 v60_482 (.int .i64 9)) fun v61_483 => (k0 (mpick (.bool true) v61_483 (.bool false)) fun v62_484 => (fVal v62_484 fun v => some (.ret v, m))))) (k0 (mpick (.bool false) undef (.bool false)) fun v62_485 => (fVal v62_485 fun v => some (.ret v, m)))))) (k0 (mpick (.bool false) undef (.bool false)) fun v57_486 => (kb v57_486 (k2 (vcall E.P base m .len [22] [v27_15]) fun v60_487 m => (k1 (mbin E .eql 3 v60_487 (.int .i64 9)) fun v61_488 => (k0 (mpick (.bool true) v61_488 (.bool false)) fun v62_489 => (fVal v62_489 fun v => some (.ret v, m))))) (k0 (mpick (.bool false) undef (.bool false)) fun v62_490 => (fVal v62_490 fun v => some (.ret v, m))))))))))))))))))))) (fun v m => some (.pan v, m)))) (fun v m => some (.pan v, m)))))))) (fun v m => some (.pan v, m)))))) (fun v m => some (.pan v, m)))))))

def keep15 : Keep := { region := fun i => ([[], [1], [1, 2, 3], [2, 3, 4, 5], [2, 3, 4, 5, 6, 7, 8], [0]] : List (List Nat))[i]?, exit := fun i => ([] : List (List Nat))[i]?, ret := some [0] }

noncomputable def lp15 (call : CallF) (fuel base : Nat) : Lp := lpsel []

noncomputable def c15 : Code := Try.f15.body.getD .skip

theorem r15_eq (call : CallF) (fuel base : Nat) (m : M) : kbody E call keep15 (lp15 call fuel base) base Try.f15 [] m = r15 call fuel base  m := by
  kernel_rfl

noncomputable def rf15 : RF := fun call fuel base args m => match args with
  | [] => r15 call fuel base  m
  | _ => none

theorem r15_lk (call : CallF) (fuel base : Nat) : LoopsOk E call (lp15 call fuel base) fuel base 0 c15 = (And True (And True (And True (And True (And True (And True True)))))) := by kernel_rfl

theorem r15_fn : E.P.funcs[15]? = some Try.f15 := by kernel_rfl
theorem r15_body : Try.f15.body = some c15 := by kernel_rfl

theorem rf15_ok : RFok E 15 rf15 := by
  refine ⟨Try.f15, r15_fn, fun call fuel base args m r _ h => ?_⟩
  unfold rf15 at h
  split at h
  · rw [← r15_eq] at h
    exact kbody_sound (c := c15) r15_body (Eq.mpr (r15_lk call fuel base) (And.intro trivial (And.intro trivial (And.intro trivial (And.intro trivial (And.intro trivial (And.intro trivial trivial))))))) h
  · simp at h


noncomputable def r16 (call : CallF) (fuel base : Nat) (x0 : Value) (x1 : Value) (m : M) : Res2 :=
  (kc (call base 42 [x0, x1] m) (fun v9_1 m => (k1 (mbin E .neq 25 v9_1 (.int .i64 0)) fun v11_2 => (kb v11_2 (some (.ret (.tuple #[(.int .i64 0), v9_1]), m)) (kc (call base 43 [x0, x1] m) (fun v15_3 m => (some (.ret (.tuple #[v15_3, (.int .i64 0)]), m))) (fun v m => some (.pan v, m)))))) (fun v m => some (.pan v, m)))

def keep16 : Keep := { region := fun i => ([[0, 1], [0, 1, 6], [0, 1, 6, 11], [4, 5], [4, 5]] : List (List Nat))[i]?, exit := fun i => ([] : List (List Nat))[i]?, ret := some [4, 5] }

noncomputable def lp16 (call : CallF) (fuel base : Nat) : Lp := lpsel []

noncomputable def c16 : Code := Try.f16.body.getD .skip

theorem r16_eq (call : CallF) (fuel base : Nat) (x0 : Value) (x1 : Value) (m : M) : kbody E call keep16 (lp16 call fuel base) base Try.f16 [x0, x1] m = r16 call fuel base x0 x1 m := by
  kernel_rfl

noncomputable def rf16 : RF := fun call fuel base args m => match args with
  | [x0, x1] => r16 call fuel base x0 x1 m
  | _ => none

theorem r16_lk (call : CallF) (fuel base : Nat) : LoopsOk E call (lp16 call fuel base) fuel base 0 c16 = (And True (And (And True (And True (And (And True True) True))) (And True True))) := by kernel_rfl

theorem r16_fn : E.P.funcs[16]? = some Try.f16 := by kernel_rfl
theorem r16_body : Try.f16.body = some c16 := by kernel_rfl

theorem rf16_ok : RFok E 16 rf16 := by
  refine ⟨Try.f16, r16_fn, fun call fuel base args m r _ h => ?_⟩
  unfold rf16 at h
  split at h
  · rw [← r16_eq] at h
    exact kbody_sound (c := c16) r16_body (Eq.mpr (r16_lk call fuel base) (And.intro trivial (And.intro (And.intro trivial (And.intro trivial (And.intro (And.intro trivial trivial) trivial))) (And.intro trivial trivial)))) h
  · simp at h


noncomputable def r18 (call : CallF) (fuel base : Nat) (x0 : Value) (x1 : Value) (x2 : Value) (x3 : Value) (m : M) : Res2 :=
  (kc (call base 45 [x0, x1, x2, x3] m) (fun v15_1 m => (k1 (mbin E .neq 25 v15_1 (.int .i64 0)) fun v17_2 => (kb v17_2 (some (.ret (.tuple #[(.int .i64 0), v15_1]), m)) (kc (call base 46 [x0, x1, x2, x3] m) (fun v23_3 m => (some (.ret (.tuple #[v23_3, (.int .i64 0)]), m))) (fun v m => some (.pan v, m)))))) (fun v m => some (.pan v, m)))

def keep18 : Keep := { region := fun i => ([[0, 1, 2, 3], [0, 1, 2, 3, 10], [0, 1, 2, 3, 10, 17], [8, 9], [8, 9]] : List (List Nat))[i]?, exit := fun i => ([] : List (List Nat))[i]?, ret := some [8, 9] }

noncomputable def lp18 (call : CallF) (fuel base : Nat) : Lp := lpsel []

noncomputable def c18 : Code := Try.f18.body.getD .skip

theorem r18_eq (call : CallF) (fuel base : Nat) (x0 : Value) (x1 : Value) (x2 : Value) (x3 : Value) (m : M) : kbody E call keep18 (lp18 call fuel base) base Try.f18 [x0, x1, x2, x3] m = r18 call fuel base x0 x1 x2 x3 m := by
  kernel_rfl

noncomputable def rf18 : RF := fun call fuel base args m => match args with
  | [x0, x1, x2, x3] => r18 call fuel base x0 x1 x2 x3 m
  | _ => none

theorem r18_lk (call : CallF) (fuel base : Nat) : LoopsOk E call (lp18 call fuel base) fuel base 0 c18 = (And True (And (And True (And True (And (And True True) True))) (And True True))) := by kernel_rfl

theorem r18_fn : E.P.funcs[18]? = some Try.f18 := by kernel_rfl
theorem r18_body : Try.f18.body = some c18 := by kernel_rfl

theorem rf18_ok : RFok E 18 rf18 := by
  refine ⟨Try.f18, r18_fn, fun call fuel base args m r _ h => ?_⟩
  unfold rf18 at h
  split at h
  · rw [← r18_eq] at h
    exact kbody_sound (c := c18) r18_body (Eq.mpr (r18_lk call fuel base) (And.intro trivial (And.intro (And.intro trivial (And.intro trivial (And.intro (And.intro trivial trivial) trivial))) (And.intro trivial trivial)))) h
  · simp at h

noncomputable def r20_L0 (call : CallF) (fuel base : Nat) (kx0 : Value → Value → Value → Value → Value → Value → M → Res2) (n : Nat) : Value → Value → Value → Value → Value → Value → Value → Value → Value → M → Res2 :=
  Nat.rec (motive := fun _ => Value → Value → Value → Value → Value → Value → Value → Value → Value → M → Res2) (fun _ _ _ _ _ _ _ _ _ _ => none)
    (fun _ ih x2 x3 x8 x11 x12 x13 x39 x40 x41 m =>
      (k1 (mbin E .lss 3 x41 x40) fun v42_14 => (kb v42_14 (k1 (mindexAddr E.P 22 x39 x41) fun v44_15 => (k1 (xload E.P m 59 v44_15) fun v45_16 => (k2 (xalloc E.P m 59) fun v15_17 m => (ks (xstore E.P base m 59 v15_17 v45_16) fun m => (k1 (mfieldAddr E.P 59 v15_17 0) fun v49_18 => (k1 (xload E.P m 3 v49_18) fun v50_19 => (k1 (mindexAddr E.P 29 x12 v50_19) fun v51_20 => (k1 (xload E.P m 3 v51_20) fun v52_21 => (k1 (mfieldAddr E.P 59 v15_17 1) fun v54_22 => (k1 (xload E.P m 3 v54_22) fun v55_23 => (k1 (mindexAddr E.P 29 x12 v55_23) fun v56_24 => (k1 (xload E.P m 3 v56_24) fun v57_25 => (k1 (mbin E .sub 3 v52_21 v57_25) fun v58_26 => (k1 (mindexAddr E.P 29 x13 x41) fun v59_27 => (ks (xstore E.P base m 3 v59_27 v58_26) fun m => (k1 (mbin E .add 3 x41 (.int .i64 1)) fun v60_28 => (ih x2 x3 x8 x11 x12 x13 x39 x40 v60_28 m))))))))))))))))) (kx0 x2 x3 x8 x11 x12 x13 m)))) n

noncomputable def r20 (call : CallF) (fuel base : Nat) (x0 : Value) (x1 : Value) (x2 : Value) (x3 : Value) (m : M) : Res2 :=
  (k2 (xalloc E.P m 31) fun v8_1 m => (kc (call base 45 [x0, x1, x2, x3] m) (fun v20_2 m => (k1 (mbin E .neq 25 v20_2 (.int .i64 0)) fun v22_3 => (kb v22_3 (k1 (mbuild E.P 31 []) fun v23_4 => (ks (xstore E.P base m 31 v8_1 v23_4) fun m => (k0 (mload E.P m 31 v8_1) fun r_5 => (some (.ret (.tuple #[r_5, v20_2]), m))))) (kc (call base 43 [x0, x1] m) (fun v27_6 m => (k1 (mbin E .eql 3 v27_6 (.int .i64 0)) fun v29_7 => (kb v29_7 (k1 (mbuild E.P 31 []) fun v30_8 => (ks (xstore E.P base m 31 v8_1 v30_8) fun m => (k0 (mload E.P m 31 v8_1) fun r_9 => (some (.ret (.tuple #[r_9, (.int .i64 10)]), m))))) (kc (call base 48 [x0, x1, x2, x3] m) (fun v35_10 m => (k2 (vcall E.P base m .len [22] [x1]) fun v37_11 m => (k2 (xmakeSlice E.P m 29 v37_11 v37_11) fun v38_12 m => (k2 (vcall E.P base m .len [22] [x1]) fun v40_13 m => (r20_L0 call fuel base (fun y2_29 y3_30 y8_31 y11_32 y12_33 y13_34 m => (k1 (mindexAddr E.P 29 y12_33 y2_29) fun v65_35 => (k1 (xload E.P m 3 v65_35) fun v66_36 => (k1 (mindexAddr E.P 29 y12_33 y3_30) fun v69_37 => (k1 (xload E.P m 3 v69_37) fun v70_38 => (k1 (mbin E .sub 3 v66_36 v70_38) fun v71_39 => (k1 (mbuild E.P 31 [(0, y13_34), (1, y11_32), (2, v71_39)]) fun v72_40 => (ks (xstore E.P base m 31 y8_31 v72_40) fun m => (k0 (mload E.P m 31 y8_31) fun r_41 => (some (.ret (.tuple #[r_41, (.int .i64 0)]), m))))))))))) fuel x2 x3 v8_1 v27_6 v35_10 v38_12 x1 v40_13 (.int .i64 0) m))))) (fun v m => some (.pan v, m)))))) (fun v m => some (.pan v, m)))))) (fun v m => some (.pan v, m))))

def keep20 : Keep := { region := fun i => ([[0, 1, 2, 3, 8], [0, 1, 2, 3, 8, 10], [0, 1, 2, 3, 8, 10, 22], [8, 9], [0, 1, 2, 3, 8, 11], [0, 1, 2, 3, 8, 11, 29], [8, 9], [1, 2, 3, 8, 11, 12], [1, 2, 3, 8, 11, 12, 13], [2, 3, 8, 11, 12, 13, 39, 40, 41], [2, 3, 8, 11, 12, 13, 39, 40, 41, 42], [2, 3, 8, 11, 12, 13, 14, 15, 39, 40, 41], [2, 3, 8, 11, 12, 13, 39, 40, 41], [2, 3, 8, 11, 12, 13, 39, 40, 41], [8, 9]] : List (List Nat))[i]?, exit := fun i => ([[2, 3, 8, 11, 12, 13], [2, 3, 8, 11, 12, 13, 39, 40, 41]] : List (List Nat))[i]?, ret := some [8, 9] }

noncomputable def r20_L0_R (call : CallF) (fuel base n : Nat) (vs : List Value) (m : M) (K : KT) : Res2 := match vs with
  | [x2, x3, x8, x11, x12, x13, x39, x40, x41] => r20_L0 call fuel base (fun y2 y3 y8 y11 y12 y13 m => K (.exit 0) { n := 73, l := [(2, y2), (3, y3), (8, y8), (11, y11), (12, y12), (13, y13)] } m) n x2 x3 x8 x11 x12 x13 x39 x40 x41 m
  | _ => none

noncomputable def lp20 (call : CallF) (fuel base : Nat) : Lp := lpsel [(0, fun T m K => kslots 73 [2, 3, 8, 11, 12, 13, 39, 40, 41] T fun vs => r20_L0_R call fuel base fuel vs m K)]

noncomputable def c20 : Code := Try.f20.body.getD .skip

theorem r20_L0_lk (call : CallF) (fuel base : Nat) : LoopsOk E call (lp20 call fuel base) fuel base 0 (loopB (blockB (seqR (seqL (seqR (seqR (seqR (seqR (seqR (seqR c20)))))))))) = (And True (And (And True True) (And (And True True) True))) := by kernel_rfl

theorem r20_L0_ok (call : CallF) (fuel base : Nat) : LpOk E call (lp20 call fuel base) fuel base 0 (loopB (blockB (seqR (seqL (seqR (seqR (seqR (seqR (seqR (seqR c20)))))))))) := by
  refine loop_ok (kp := keep20) (hb := Eq.mpr (r20_L0_lk call fuel base) (And.intro trivial (And.intro (And.intro trivial trivial) (And.intro (And.intro trivial trivial) trivial)))) 73 [2, 3, 8, 11, 12, 13, 39, 40, 41] (fun n vs m K => r20_L0_R call fuel base n vs m K) ?_ ?_ (fun _ _ _ => rfl)
  · intro vs m K
    unfold r20_L0_R
    split <;> rfl
  · intro n vs m K hl
    match vs, hl with
    | [x2, x3, x8, x11, x12, x13, x39, x40, x41], _ => show _ = _; kernel_rfl

theorem r20_eq (call : CallF) (fuel base : Nat) (x0 : Value) (x1 : Value) (x2 : Value) (x3 : Value) (m : M) : kbody E call keep20 (lp20 call fuel base) base Try.f20 [x0, x1, x2, x3] m = r20 call fuel base x0 x1 x2 x3 m := by
  kernel_rfl

noncomputable def rf20 : RF := fun call fuel base args m => match args with
  | [x0, x1, x2, x3] => r20 call fuel base x0 x1 x2 x3 m
  | _ => none

theorem r20_lk (call : CallF) (fuel base : Nat) : LoopsOk E call (lp20 call fuel base) fuel base 0 c20 = (And True (And (And True (And True (And (And True True) True))) (And True (And (And True (And (And True True) True)) (And True (And True (And (And True (LpOk E call (lp20 call fuel base) fuel base 0 (loopB (blockB (seqR (seqL (seqR (seqR (seqR (seqR (seqR (seqR c20)))))))))))) (And True True)))))))) := by kernel_rfl

theorem r20_fn : E.P.funcs[20]? = some Try.f20 := by kernel_rfl
theorem r20_body : Try.f20.body = some c20 := by kernel_rfl

theorem rf20_ok : RFok E 20 rf20 := by
  refine ⟨Try.f20, r20_fn, fun call fuel base args m r _ h => ?_⟩
  unfold rf20 at h
  split at h
  · rw [← r20_eq] at h
    exact kbody_sound (c := c20) r20_body (Eq.mpr (r20_lk call fuel base) (And.intro trivial (And.intro (And.intro trivial (And.intro trivial (And.intro (And.intro trivial trivial) trivial))) (And.intro trivial (And.intro (And.intro trivial (And.intro (And.intro trivial trivial) trivial)) (And.intro trivial (And.intro trivial (And.intro (And.intro trivial (r20_L0_ok call fuel base)) (And.intro trivial trivial))))))))) h
  · simp at h

noncomputable def r22_L0 (call : CallF) (fuel base : Nat) (kr : Value → M → Res2) (kx0 : M → Res2) (n : Nat) : Value → Value → Value → M → Res2 :=
  Nat.rec (motive := fun _ => Value → Value → Value → M → Res2) (fun _ _ _ _ => none)
    (fun _ ih x0 x1 x5 m =>
      (k2 (vcall E.P base m .len [29] [x0]) fun v13_4 m => (k1 (mbin E .lss 3 x5 v13_4) fun v14_5 => (kb v14_5 (k1 (mindexAddr E.P 29 x0 x5) fun v19_6 => (k1 (xload E.P m 3 v19_6) fun v20_7 => (k1 (mindexAddr E.P 29 x1 x5) fun v23_8 => (k1 (xload E.P m 3 v23_8) fun v24_9 => (k1 (mbin E .neq 3 v20_7 v24_9) fun v25_10 => (kb v25_10 (kr (.bool false) m) (k1 (mbin E .add 3 x5 (.int .i64 1)) fun v16_11 => (ih x0 x1 v16_11 m)))))))) (kx0 m))))) n

noncomputable def r22 (call : CallF) (fuel base : Nat) (x0 : Value) (x1 : Value) (m : M) : Res2 :=
  (k2 (vcall E.P base m .len [29] [x0]) fun v7_1 m => (k2 (vcall E.P base m .len [29] [x1]) fun v9_2 m => (k1 (mbin E .neq 3 v7_1 v9_2) fun v10_3 => (kb v10_3 (fVal (.bool false) fun v => some (.ret v, m)) (r22_L0 call fuel base (fun y4_12 m => (fVal y4_12 fun v => some (.ret v, m))) (fun m => (fVal (.bool true) fun v => some (.ret v, m))) fuel x0 x1 (.int .i64 0) m)))))

def keep22 : Keep := { region := fun i => ([[0, 1], [0, 1, 10], [4], [0, 1, 5], [0, 1, 5, 14], [0, 1, 5], [0, 1, 5, 25], [4], [4]] : List (List Nat))[i]?, exit := fun i => ([[], [0, 1, 5]] : List (List Nat))[i]?, ret := some [4] }

noncomputable def r22_L0_R (call : CallF) (fuel base n : Nat) (vs : List Value) (m : M) (K : KT) : Res2 := match vs with
  | [x0, x1, x5] => r22_L0 call fuel base (fun y4 m => K .ret { n := 26, l := [(4, y4)] } m) (fun m => K (.exit 0) { n := 26, l := [] } m) n x0 x1 x5 m
  | _ => none

noncomputable def lp22 (call : CallF) (fuel base : Nat) : Lp := lpsel [(0, fun T m K => kslots 26 [0, 1, 5] T fun vs => r22_L0_R call fuel base fuel vs m K)]

noncomputable def c22 : Code := Try.f22.body.getD .skip

theorem r22_L0_lk (call : CallF) (fuel base : Nat) : LoopsOk E call (lp22 call fuel base) fuel base 0 (loopB (blockB (seqR (seqL (seqR (seqR c22)))))) = (And (And True (And True True)) (And (And True (And (And True True) True)) True)) := by kernel_rfl

theorem r22_L0_ok (call : CallF) (fuel base : Nat) : LpOk E call (lp22 call fuel base) fuel base 0 (loopB (blockB (seqR (seqL (seqR (seqR c22)))))) := by
  refine loop_ok (kp := keep22) (hb := Eq.mpr (r22_L0_lk call fuel base) (And.intro (And.intro trivial (And.intro trivial trivial)) (And.intro (And.intro trivial (And.intro (And.intro trivial trivial) trivial)) trivial))) 26 [0, 1, 5] (fun n vs m K => r22_L0_R call fuel base n vs m K) ?_ ?_ (fun _ _ _ => rfl)
  · intro vs m K
    unfold r22_L0_R
    split <;> rfl
  · intro n vs m K hl
    match vs, hl with
    | [x0, x1, x5], _ => show _ = _; kernel_rfl

theorem r22_eq (call : CallF) (fuel base : Nat) (x0 : Value) (x1 : Value) (m : M) : kbody E call keep22 (lp22 call fuel base) base Try.f22 [x0, x1] m = r22 call fuel base x0 x1 m := by
  kernel_rfl

noncomputable def rf22 : RF := fun call fuel base args m => match args with
  | [x0, x1] => r22 call fuel base x0 x1 m
  | _ => none

theorem r22_lk (call : CallF) (fuel base : Nat) : LoopsOk E call (lp22 call fuel base) fuel base 0 c22 = (And True (And (And True (And (And True True) True)) (And (And True (LpOk E call (lp22 call fuel base) fuel base 0 (loopB (blockB (seqR (seqL (seqR (seqR c22)))))))) (And True True)))) := by kernel_rfl

theorem r22_fn : E.P.funcs[22]? = some Try.f22 := by kernel_rfl
theorem r22_body : Try.f22.body = some c22 := by kernel_rfl

theorem rf22_ok : RFok E 22 rf22 := by
  refine ⟨Try.f22, r22_fn, fun call fuel base args m r _ h => ?_⟩
  unfold rf22 at h
  split at h
  · rw [← r22_eq] at h
    exact kbody_sound (c := c22) r22_body (Eq.mpr (r22_lk call fuel base) (And.intro trivial (And.intro (And.intro trivial (And.intro (And.intro trivial trivial) trivial)) (And.intro (And.intro trivial (r22_L0_ok call fuel base)) (And.intro trivial trivial))))) h
  · simp at h


noncomputable def r24 (call : CallF) (fuel base : Nat) (x0 : Value) (x1 : Value) (x2 : Value) (x3 : Value) (m : M) : Res2 :=
  (k2 (xalloc E.P m 38) fun v8_1 m => (kc (call base 45 [x0, x1, x2, x3] m) (fun v15_2 m => (k1 (mbin E .neq 25 v15_2 (.int .i64 0)) fun v17_3 => (kb v17_3 (k1 (mbuild E.P 38 []) fun v18_4 => (ks (xstore E.P base m 38 v8_1 v18_4) fun m => (k0 (mload E.P m 38 v8_1) fun r_5 => (some (.ret (.tuple #[r_5, v15_2]), m))))) (kc (call base 46 [x0, x1, x2, x3] m) (fun v24_6 m => (kc (call base 43 [x0, x1] m) (fun v27_7 m => (kc (call base 50 [v24_6, v27_7] m) (fun v28_8 m => (k1 (mextract 0 v28_8) fun v29_9 => (k1 (mextract 1 v28_8) fun v30_10 => (ks (xstore E.P base m 38 v8_1 v29_9) fun m => (k0 (mload E.P m 38 v8_1) fun r_11 => (some (.ret (.tuple #[r_11, v30_10]), m))))))) (fun v m => some (.pan v, m)))) (fun v m => some (.pan v, m)))) (fun v m => some (.pan v, m)))))) (fun v m => some (.pan v, m))))

def keep24 : Keep := { region := fun i => ([[0, 1, 2, 3, 8], [0, 1, 2, 3, 8, 10], [0, 1, 2, 3, 8, 10, 17], [8, 9], [8, 9]] : List (List Nat))[i]?, exit := fun i => ([] : List (List Nat))[i]?, ret := some [8, 9] }

noncomputable def lp24 (call : CallF) (fuel base : Nat) : Lp := lpsel []

noncomputable def c24 : Code := Try.f24.body.getD .skip

theorem r24_eq (call : CallF) (fuel base : Nat) (x0 : Value) (x1 : Value) (x2 : Value) (x3 : Value) (m : M) : kbody E call keep24 (lp24 call fuel base) base Try.f24 [x0, x1, x2, x3] m = r24 call fuel base x0 x1 x2 x3 m := by
  kernel_rfl

noncomputable def rf24 : RF := fun call fuel base args m => match args with
  | [x0, x1, x2, x3] => r24 call fuel base x0 x1 x2 x3 m
  | _ => none

theorem r24_lk (call : CallF) (fuel base : Nat) : LoopsOk E call (lp24 call fuel base) fuel base 0 c24 = (And True (And (And True (And True (And (And True True) True))) (And True True))) := by kernel_rfl

theorem r24_fn : E.P.funcs[24]? = some Try.f24 := by kernel_rfl
theorem r24_body : Try.f24.body = some c24 := by kernel_rfl

theorem rf24_ok : RFok E 24 rf24 := by
  refine ⟨Try.f24, r24_fn, fun call fuel base args m r _ h => ?_⟩
  unfold rf24 at h
  split at h
  · rw [← r24_eq] at h
    exact kbody_sound (c := c24) r24_body (Eq.mpr (r24_lk call fuel base) (And.intro trivial (And.intro (And.intro trivial (And.intro trivial (And.intro (And.intro trivial trivial) trivial))) (And.intro trivial trivial)))) h
  · simp at h


noncomputable def r26 (call : CallF) (fuel base : Nat) (x0 : Value) (x1 : Value) (x2 : Value) (m : M) : Res2 :=
  (k2 (xalloc E.P m 38) fun v6_1 m => (kc (call base 42 [x0, x1] m) (fun v12_2 m => (k1 (mbin E .neq 25 v12_2 (.int .i64 0)) fun v14_3 => (kb v14_3 (k1 (mbuild E.P 38 []) fun v15_4 => (ks (xstore E.P base m 38 v6_1 v15_4) fun m => (k0 (mload E.P m 38 v6_1) fun r_5 => (some (.ret (.tuple #[r_5, v12_2]), m))))) (k1 (mbin E .lss 3 x2 (.int .i64 0)) fun v18_6 => (kb v18_6 (k0 (mpick (.bool true) (.bool true) undef) fun v24_7 => (kb v24_7 (k1 (mbuild E.P 38 []) fun v25_8 => (ks (xstore E.P base m 38 v6_1 v25_8) fun m => (k0 (mload E.P m 38 v6_1) fun r_9 => (some (.ret (.tuple #[r_9, (.int .i64 6)]), m))))) (k1 (mindexAddr E.P 22 x1 x2) fun v28_10 => (k1 (xload E.P m 59 v28_10) fun v29_11 => (k2 (xalloc E.P m 59) fun v9_12 m => (ks (xstore E.P base m 59 v9_12 v29_11) fun m => (k1 (mfieldAddr E.P 59 v9_12 0) fun v32_13 => (k1 (xload E.P m 3 v32_13) fun v33_14 => (k1 (mfieldAddr E.P 59 v9_12 1) fun v34_15 => (k1 (xload E.P m 3 v34_15) fun v35_16 => (kc (call base 46 [x0, x1, v33_14, v35_16] m) (fun v36_17 m => (kc (call base 43 [x0, x1] m) (fun v39_18 m => (kc (call base 50 [v36_17, v39_18] m) (fun v40_19 m => (k1 (mextract 0 v40_19) fun v41_20 => (k1 (mextract 1 v40_19) fun v42_21 => (ks (xstore E.P base m 38 v6_1 v41_20) fun m => (k0 (mload E.P m 38 v6_1) fun r_22 => (some (.ret (.tuple #[r_22, v42_21]), m))))))) (fun v m => some (.pan v, m)))) (fun v m => some (.pan v, m)))) (fun v m => some (.pan v, m))))))))))))) (k2 (vcall E.P base m .len [22] [x1]) fun v22_23 m => (k1 (mbin E .geq 3 x2 v22_23) fun v23_24 => (k0 (mpick (.bool false) (.bool true) v23_24) fun v24_25 => (kb v24_25 (k1 (mbuild E.P 38 []) fun v25_26 => (ks (xstore E.P base m 38 v6_1 v25_26) fun m => (k0 (mload E.P m 38 v6_1) fun r_27 => (some (.ret (.tuple #[r_27, (.int .i64 6)]), m))))) (k1 (mindexAddr E.P 22 x1 x2) fun v28_28 => (k1 (xload E.P m 59 v28_28) fun v29_29 => (k2 (xalloc E.P m 59) fun v9_30 m => (ks (xstore E.P base m 59 v9_30 v29_29) fun m => (k1 (mfieldAddr E.P 59 v9_30 0) fun v32_31 => (k1 (xload E.P m 3 v32_31) fun v33_32 => (k1 (mfieldAddr E.P 59 v9_30 1) fun v34_33 => (k1 (xload E.P m 3 v34_33) fun v35_34 => (kc (call base 46 [x0, x1, v33_32, v35_34] m) (fun v36_35 m => (kc (call base 43 [x0, x1] m) (fun v39_36 m => (kc (call base 50 [v36_35, v39_36] m) (fun v40_37 m => (k1 (mextract 0 v40_37) fun v41_38 => (k1 (mextract 1 v40_37) fun v42_39 => (ks (xstore E.P base m 38 v6_1 v41_38) fun m => (k0 (mload E.P m 38 v6_1) fun r_40 => (some (.ret (.tuple #[r_40, v42_39]), m))))))) (fun v m => some (.pan v, m)))) (fun v m => some (.pan v, m)))) (fun v m => some (.pan v, m)))))))))))))))))))) (fun v m => some (.pan v, m))))

def keep26 : Keep := { region := fun i => ([[0, 1, 2, 6], [0, 1, 2, 6, 8], [0, 1, 2, 6, 8, 14], [6, 7], [0, 1, 2, 6, 24], [6, 7], [0, 1, 6, 9], [6, 7]] : List (List Nat))[i]?, exit := fun i => ([] : List (List Nat))[i]?, ret := some [6, 7] }

noncomputable def lp26 (call : CallF) (fuel base : Nat) : Lp := lpsel []

noncomputable def c26 : Code := Try.f26.body.getD .skip

theorem r26_eq (call : CallF) (fuel base : Nat) (x0 : Value) (x1 : Value) (x2 : Value) (m : M) : kbody E call keep26 (lp26 call fuel base) base Try.f26 [x0, x1, x2] m = r26 call fuel base x0 x1 x2 m := by
  kernel_rfl

noncomputable def rf26 : RF := fun call fuel base args m => match args with
  | [x0, x1, x2] => r26 call fuel base x0 x1 x2 m
  | _ => none

theorem r26_lk (call : CallF) (fuel base : Nat) : LoopsOk E call (lp26 call fuel base) fuel base 0 c26 = (And True (And (And True (And True (And (And True True) True))) (And (And True (And (And True True) True)) (And True (And True True))))) := by kernel_rfl

theorem r26_fn : E.P.funcs[26]? = some Try.f26 := by kernel_rfl
theorem r26_body : Try.f26.body = some c26 := by kernel_rfl

theorem rf26_ok : RFok E 26 rf26 := by
  refine ⟨Try.f26, r26_fn, fun call fuel base args m r _ h => ?_⟩
  unfold rf26 at h
  split at h
  · rw [← r26_eq] at h
    exact kbody_sound (c := c26) r26_body (Eq.mpr (r26_lk call fuel base) (And.intro trivial (And.intro (And.intro trivial (And.intro trivial (And.intro (And.intro trivial trivial) trivial))) (And.intro (And.intro trivial (And.intro (And.intro trivial trivial) trivial)) (And.intro trivial (And.intro trivial trivial)))))) h
  · simp at h


noncomputable def r28 (call : CallF) (fuel base : Nat) (x0 : Value) (x1 : Value) (x2 : Value) (m : M) : Res2 :=
  (kc (call base 52 [x0, x1] m) (fun v10_1 m => (k1 (mun .not v10_1) fun v11_2 => (kb v11_2 (some (.ret (.tuple #[(.bool false), (.int .i64 2)]), m)) (k2 (vcall E.P base m .len [43] [x2]) fun v13_3 m => (k1 (mbin E .gtr 3 v13_3 (.int .i64 16)) fun v14_4 => (kb v14_4 (some (.ret (.tuple #[(.bool false), (.int .i64 3)]), m)) (kc (call base 53 [x0, x1, x2] m) (fun v18_5 m => (some (.ret (.tuple #[v18_5, (.int .i64 0)]), m))) (fun v m => some (.pan v, m))))))))) (fun v m => some (.pan v, m)))

def keep28 : Keep := { region := fun i => ([[0, 1, 2], [0, 1, 2, 11], [6, 7], [0, 1, 2, 14], [6, 7], [6, 7]] : List (List Nat))[i]?, exit := fun i => ([] : List (List Nat))[i]?, ret := some [6, 7] }

noncomputable def lp28 (call : CallF) (fuel base : Nat) : Lp := lpsel []

noncomputable def c28 : Code := Try.f28.body.getD .skip

theorem r28_eq (call : CallF) (fuel base : Nat) (x0 : Value) (x1 : Value) (x2 : Value) (m : M) : kbody E call keep28 (lp28 call fuel base) base Try.f28 [x0, x1, x2] m = r28 call fuel base x0 x1 x2 m := by
  kernel_rfl

noncomputable def rf28 : RF := fun call fuel base args m => match args with
  | [x0, x1, x2] => r28 call fuel base x0 x1 x2 m
  | _ => none

theorem r28_lk (call : CallF) (fuel base : Nat) : LoopsOk E call (lp28 call fuel base) fuel base 0 c28 = (And True (And (And True (And (And True True) True)) (And (And True (And (And True True) True)) (And True True)))) := by kernel_rfl

theorem r28_fn : E.P.funcs[28]? = some Try.f28 := by kernel_rfl
theorem r28_body : Try.f28.body = some c28 := by kernel_rfl

theorem rf28_ok : RFok E 28 rf28 := by
  refine ⟨Try.f28, r28_fn, fun call fuel base args m r _ h => ?_⟩
  unfold rf28 at h
  split at h
  · rw [← r28_eq] at h
    exact kbody_sound (c := c28) r28_body (Eq.mpr (r28_lk call fuel base) (And.intro trivial (And.intro (And.intro trivial (And.intro (And.intro trivial trivial) trivial)) (And.intro (And.intro trivial (And.intro (And.intro trivial trivial) trivial)) (And.intro trivial trivial))))) h
  · simp at h

noncomputable def r30_L0 (call : CallF) (fuel base : Nat) (kp : Value → M → Res2) (kx0 : Value → Value → M → Res2) (n : Nat) : Value → Value → Value → Value → Value → Value → M → Res2 :=
  Nat.rec (motive := fun _ => Value → Value → Value → Value → Value → Value → M → Res2) (fun _ _ _ _ _ _ _ => none)
    (fun _ ih x11 x12 x13 x38 x39 x40 m =>
      (k1 (mbin E .lss 3 x40 x39) fun v41_13 => (kb v41_13 (k1 (mindexAddr E.P 43 x38 x40) fun v43_14 => (k1 (xload E.P m 62 v43_14) fun v44_15 => (k2 (xalloc E.P m 62) fun v15_16 m => (ks (xstore E.P base m 62 v15_16 v44_15) fun m => (k1 (xload E.P m 62 v15_16) fun v48_17 => (kc (call base 60 [v48_17] m) (fun v49_18 m => (kc (call base 59 [v49_18, x11] m) (fun v51_19 m => (kc (call base 58 [x12, v51_19] m) (fun v52_20 m => (k1 (mindexAddr E.P 22 x13 x40) fun v53_21 => (k1 (mfieldAddr E.P 59 v53_21 0) fun v54_22 => (ks (xstore E.P base m 3 v54_22 v52_20) fun m => (k1 (xload E.P m 62 v15_16) fun v58_23 => (kc (call base 61 [v58_23] m) (fun v59_24 m => (kc (call base 59 [v59_24, x11] m) (fun v61_25 m => (kc (call base 58 [x12, v61_25] m) (fun v62_26 m => (k1 (mindexAddr E.P 22 x13 x40) fun v63_27 => (k1 (mfieldAddr E.P 59 v63_27 1) fun v64_28 => (ks (xstore E.P base m 3 v64_28 v62_26) fun m => (k1 (mbin E .add 3 x40 (.int .i64 1)) fun v65_29 => (ih x11 x12 x13 x38 x39 v65_29 m)))))) (fun v m => kp v m))) (fun v m => kp v m))) (fun v m => kp v m))))))) (fun v m => kp v m))) (fun v m => kp v m))) (fun v m => kp v m))))))) (kx0 x12 x13 m)))) n

noncomputable def r30 (call : CallF) (fuel base : Nat) (x0 : Value) (x1 : Value) (x2 : Value) (m : M) : Res2 :=
  (kc (call base 28 [x0, x1, x2] m) (fun v20_1 m => (k1 (mextract 0 v20_1) fun v21_2 => (k1 (mextract 1 v20_1) fun v22_3 => (k1 (mbin E .neq 25 v22_3 (.int .i64 0)) fun v24_4 => (kb v24_4 (some (.ret (.tuple #[(.int .i64 0), (.slice none 0 0), v22_3]), m)) (k1 (mun .not v21_2) fun v27_5 => (kb v27_5 (some (.ret (.tuple #[(.int .i64 0), (.slice none 0 0), (.int .i64 10)]), m)) (kc (call base 56 [x2] m) (fun v29_6 m => (kc (call base 57 [v29_6] m) (fun v31_7 m => (k2 (vcall E.P base m .len [75] [v31_7]) fun v33_8 m => (k1 (mbin E .gtr 3 v33_8 (.int .i64 8)) fun v34_9 => (kb v34_9 (some (.ret (.tuple #[(.int .i64 0), (.slice none 0 0), (.int .i64 8)]), m)) (k2 (vcall E.P base m .len [43] [x2]) fun v36_10 m => (k2 (xmakeSlice E.P m 22 v36_10 v36_10) fun v37_11 m => (k2 (vcall E.P base m .len [43] [x2]) fun v39_12 m => (r30_L0 call fuel base (fun v m => some (.pan v, m)) (fun y12_30 y13_31 m => (k2 (vcall E.P base m .len [75] [y12_30]) fun v67_32 m => (some (.ret (.tuple #[v67_32, y13_31, (.int .i64 0)]), m)))) fuel v29_6 v31_7 v37_11 x2 v39_12 (.int .i64 0) m)))))))) (fun v m => some (.pan v, m)))) (fun v m => some (.pan v, m)))))))))) (fun v m => some (.pan v, m)))

def keep30 : Keep := { region := fun i => ([[0, 1, 2], [2, 9, 10], [2, 9, 10, 24], [6, 7, 8], [2, 27], [6, 7, 8], [2, 11], [2, 11, 12], [2, 11, 12, 34], [6, 7, 8], [2, 11, 12, 13], [11, 12, 13, 38, 39, 40], [11, 12, 13, 38, 39, 40, 41], [11, 12, 13, 14, 15, 38, 39, 40], [11, 12, 13, 14, 15, 38, 39, 40], [11, 12, 13, 38, 39, 40], [11, 12, 13, 38, 39, 40], [6, 7, 8]] : List (List Nat))[i]?, exit := fun i => ([[12, 13], [11, 12, 13, 38, 39, 40]] : List (List Nat))[i]?, ret := some [6, 7, 8] }

noncomputable def r30_L0_R (call : CallF) (fuel base n : Nat) (vs : List Value) (m : M) (K : KT) : Res2 := match vs with
  | [x11, x12, x13, x38, x39, x40] => r30_L0 call fuel base (fun v m => K (.pan v) { n := 69, l := [] } m) (fun y12 y13 m => K (.exit 0) { n := 69, l := [(12, y12), (13, y13)] } m) n x11 x12 x13 x38 x39 x40 m
  | _ => none

noncomputable def lp30 (call : CallF) (fuel base : Nat) : Lp := lpsel [(0, fun T m K => kslots 69 [11, 12, 13, 38, 39, 40] T fun vs => r30_L0_R call fuel base fuel vs m K)]

noncomputable def c30 : Code := Try.f30.body.getD .skip

theorem r30_L0_lk (call : CallF) (fuel base : Nat) : LoopsOk E call (lp30 call fuel base) fuel base 0 (loopB (blockB (seqR (seqL (seqR (seqR (seqR (seqR (seqR (seqR (seqR (seqR c30)))))))))))) = (And True (And (And True True) (And (And True (And True True)) True))) := by kernel_rfl

theorem r30_L0_ok (call : CallF) (fuel base : Nat) : LpOk E call (lp30 call fuel base) fuel base 0 (loopB (blockB (seqR (seqL (seqR (seqR (seqR (seqR (seqR (seqR (seqR (seqR c30)))))))))))) := by
  refine loop_ok (kp := keep30) (hb := Eq.mpr (r30_L0_lk call fuel base) (And.intro trivial (And.intro (And.intro trivial trivial) (And.intro (And.intro trivial (And.intro trivial trivial)) trivial)))) 69 [11, 12, 13, 38, 39, 40] (fun n vs m K => r30_L0_R call fuel base n vs m K) ?_ ?_ (fun _ _ _ => rfl)
  · intro vs m K
    unfold r30_L0_R
    split <;> rfl
  · intro n vs m K hl
    match vs, hl with
    | [x11, x12, x13, x38, x39, x40], _ => show _ = _; kernel_rfl

theorem r30_eq (call : CallF) (fuel base : Nat) (x0 : Value) (x1 : Value) (x2 : Value) (m : M) : kbody E call keep30 (lp30 call fuel base) base Try.f30 [x0, x1, x2] m = r30 call fuel base x0 x1 x2 m := by
  kernel_rfl

noncomputable def rf30 : RF := fun call fuel base args m => match args with
  | [x0, x1, x2] => r30 call fuel base x0 x1 x2 m
  | _ => none

theorem r30_lk (call : CallF) (fuel base : Nat) : LoopsOk E call (lp30 call fuel base) fuel base 0 c30 = (And True (And True (And (And True (And (And True True) True)) (And (And True (And (And True True) True)) (And True (And True (And (And True (And (And True True) True)) (And True (And (And True (LpOk E call (lp30 call fuel base) fuel base 0 (loopB (blockB (seqR (seqL (seqR (seqR (seqR (seqR (seqR (seqR (seqR (seqR c30)))))))))))))) (And True True)))))))))) := by kernel_rfl

theorem r30_fn : E.P.funcs[30]? = some Try.f30 := by kernel_rfl
theorem r30_body : Try.f30.body = some c30 := by kernel_rfl

theorem rf30_ok : RFok E 30 rf30 := by
  refine ⟨Try.f30, r30_fn, fun call fuel base args m r _ h => ?_⟩
  unfold rf30 at h
  split at h
  · rw [← r30_eq] at h
    exact kbody_sound (c := c30) r30_body (Eq.mpr (r30_lk call fuel base) (And.intro trivial (And.intro trivial (And.intro (And.intro trivial (And.intro (And.intro trivial trivial) trivial)) (And.intro (And.intro trivial (And.intro (And.intro trivial trivial) trivial)) (And.intro trivial (And.intro trivial (And.intro (And.intro trivial (And.intro (And.intro trivial trivial) trivial)) (And.intro trivial (And.intro (And.intro trivial (r30_L0_ok call fuel base)) (And.intro trivial trivial))))))))))) h
  · simp at h

noncomputable def r32_L0 (call : CallF) (fuel base : Nat) (kr : Value → M → Res2) (kx0 : M → Res2) (n : Nat) : Value → Value → Value → M → Res2 :=
  Nat.rec (motive := fun _ => Value → Value → Value → M → Res2) (fun _ _ _ _ => none)
    (fun _ ih x0 x1 x5 m =>
      (k2 (vcall E.P base m .len [43] [x0]) fun v13_4 m => (k1 (mbin E .lss 3 x5 v13_4) fun v14_5 => (kb v14_5 (k1 (mindexAddr E.P 43 x0 x5) fun v19_6 => (k1 (xload E.P m 62 v19_6) fun v20_7 => (k1 (mindexAddr E.P 43 x1 x5) fun v23_8 => (k1 (xload E.P m 62 v23_8) fun v24_9 => (k1 (mbin E .neq 62 v20_7 v24_9) fun v25_10 => (kb v25_10 (kr (.bool false) m) (k1 (mbin E .add 3 x5 (.int .i64 1)) fun v16_11 => (ih x0 x1 v16_11 m)))))))) (kx0 m))))) n

noncomputable def r32 (call : CallF) (fuel base : Nat) (x0 : Value) (x1 : Value) (m : M) : Res2 :=
  (k2 (vcall E.P base m .len [43] [x0]) fun v7_1 m => (k2 (vcall E.P base m .len [43] [x1]) fun v9_2 m => (k1 (mbin E .neq 3 v7_1 v9_2) fun v10_3 => (kb v10_3 (fVal (.bool false) fun v => some (.ret v, m)) (r32_L0 call fuel base (fun y4_12 m => (fVal y4_12 fun v => some (.ret v, m))) (fun m => (fVal (.bool true) fun v => some (.ret v, m))) fuel x0 x1 (.int .i64 0) m)))))

def keep32 : Keep := { region := fun i => ([[0, 1], [0, 1, 10], [4], [0, 1, 5], [0, 1, 5, 14], [0, 1, 5], [0, 1, 5, 25], [4], [4]] : List (List Nat))[i]?, exit := fun i => ([[], [0, 1, 5]] : List (List Nat))[i]?, ret := some [4] }

noncomputable def r32_L0_R (call : CallF) (fuel base n : Nat) (vs : List Value) (m : M) (K : KT) : Res2 := match vs with
  | [x0, x1, x5] => r32_L0 call fuel base (fun y4 m => K .ret { n := 26, l := [(4, y4)] } m) (fun m => K (.exit 0) { n := 26, l := [] } m) n x0 x1 x5 m
  | _ => none

noncomputable def lp32 (call : CallF) (fuel base : Nat) : Lp := lpsel [(0, fun T m K => kslots 26 [0, 1, 5] T fun vs => r32_L0_R call fuel base fuel vs m K)]

noncomputable def c32 : Code := Try.f32.body.getD .skip

theorem r32_L0_lk (call : CallF) (fuel base : Nat) : LoopsOk E call (lp32 call fuel base) fuel base 0 (loopB (blockB (seqR (seqL (seqR (seqR c32)))))) = (And (And True (And True True)) (And (And True (And (And True True) True)) True)) := by kernel_rfl

theorem r32_L0_ok (call : CallF) (fuel base : Nat) : LpOk E call (lp32 call fuel base) fuel base 0 (loopB (blockB (seqR (seqL (seqR (seqR c32)))))) := by
  refine loop_ok (kp := keep32) (hb := Eq.mpr (r32_L0_lk call fuel base) (And.intro (And.intro trivial (And.intro trivial trivial)) (And.intro (And.intro trivial (And.intro (And.intro trivial trivial) trivial)) trivial))) 26 [0, 1, 5] (fun n vs m K => r32_L0_R call fuel base n vs m K) ?_ ?_ (fun _ _ _ => rfl)
  · intro vs m K
    unfold r32_L0_R
    split <;> rfl
  · intro n vs m K hl
    match vs, hl with
    | [x0, x1, x5], _ => show _ = _; kernel_rfl

theorem r32_eq (call : CallF) (fuel base : Nat) (x0 : Value) (x1 : Value) (m : M) : kbody E call keep32 (lp32 call fuel base) base Try.f32 [x0, x1] m = r32 call fuel base x0 x1 m := by
  kernel_rfl

noncomputable def rf32 : RF := fun call fuel base args m => match args with
  | [x0, x1] => r32 call fuel base x0 x1 m
  | _ => none

theorem r32_lk (call : CallF) (fuel base : Nat) : LoopsOk E call (lp32 call fuel base) fuel base 0 c32 = (And True (And (And True (And (And True True) True)) (And (And True (LpOk E call (lp32 call fuel base) fuel base 0 (loopB (blockB (seqR (seqL (seqR (seqR c32)))))))) (And True True)))) := by kernel_rfl

theorem r32_fn : E.P.funcs[32]? = some Try.f32 := by kernel_rfl
theorem r32_body : Try.f32.body = some c32 := by kernel_rfl

theorem rf32_ok : RFok E 32 rf32 := by
  refine ⟨Try.f32, r32_fn, fun call fuel base args m r _ h => ?_⟩
  unfold rf32 at h
  split at h
  · rw [← r32_eq] at h
    exact kbody_sound (c := c32) r32_body (Eq.mpr (r32_lk call fuel base) (And.intro trivial (And.intro (And.intro trivial (And.intro (And.intro trivial trivial) trivial)) (And.intro (And.intro trivial (r32_L0_ok call fuel base)) (And.intro trivial trivial))))) h
  · simp at h

noncomputable def r33_L0 (call : CallF) (fuel base : Nat) (kr : Value → Value → M → Res2) (kx0 : Value → M → Res2) (n : Nat) : Value → Value → Value → Value → Value → M → Res2 :=
  Nat.rec (motive := fun _ => Value → Value → Value → Value → Value → M → Res2) (fun _ _ _ _ _ _ => none)
    (fun _ ih x0 x1 x6 x7 x8 m =>
      (k1 (mbin E .gtr 3 x0 (.int .i64 0)) fun v15_3 => (kb v15_3 (k1 (mbin E .gtr 3 x1 (.int .i64 0)) fun v18_4 => (k0 (mpick (.bool true) v18_4 (.bool false)) fun v19_5 => (kb v19_5 (k2 (vcall E.P base m .len [43] [x6]) fun v21_6 m => (k1 (mbin E .eql 3 v21_6 (.int .i64 16)) fun v22_7 => (kb v22_7 (kr (.slice none 0 0) (.int .i64 8) m) (k2 (vcall E.P base m .min [3, 3] [x0, x1]) fun v25_8 m => (k1 (mbuild E.P 62 [(0, x7), (1, x8), (2, v25_8)]) fun v30_9 => (k2 (xbuildSlice E.P m 43 1 [(0, v30_9)]) fun v31_10 m => (k2 (vcall E.P base m .append [43, 43] [x6, v31_10]) fun v32_11 m => (k1 (mbin E .gtr 3 x0 x1) fun v35_12 => (kb v35_12 (k1 (mbin E .add 3 x7 v25_8) fun v38_13 => (k1 (mbin E .sub 3 x0 v25_8) fun v41_14 => (ih v41_14 x1 v32_11 v38_13 x8 m))) (k1 (mbin E .add 3 x8 v25_8) fun v44_15 => (k1 (mbin E .sub 3 x1 v25_8) fun v47_16 => (ih x0 v47_16 v32_11 x7 v44_15 m)))))))))))) (kx0 x6 m)))) (k0 (mpick (.bool false) undef (.bool false)) fun v19_17 => (kb v19_17 (k2 (vcall E.P base m .len [43] [x6]) fun v21_18 m => (k1 (mbin E .eql 3 v21_18 (.int .i64 16)) fun v22_19 => (kb v22_19 (kr (.slice none 0 0) (.int .i64 8) m) (k2 (vcall E.P base m .min [3, 3] [x0, x1]) fun v25_20 m => (k1 (mbuild E.P 62 [(0, x7), (1, x8), (2, v25_20)]) fun v30_21 => (k2 (xbuildSlice E.P m 43 1 [(0, v30_21)]) fun v31_22 m => (k2 (vcall E.P base m .append [43, 43] [x6, v31_22]) fun v32_23 m => (k1 (mbin E .gtr 3 x0 x1) fun v35_24 => (kb v35_24 (k1 (mbin E .add 3 x7 v25_20) fun v38_25 => (k1 (mbin E .sub 3 x0 v25_20) fun v41_26 => (ih v41_26 x1 v32_23 v38_25 x8 m))) (k1 (mbin E .add 3 x8 v25_20) fun v44_27 => (k1 (mbin E .sub 3 x1 v25_20) fun v47_28 => (ih x0 v47_28 v32_23 x7 v44_27 m)))))))))))) (kx0 x6 m)))))) n

noncomputable def r33 (call : CallF) (fuel base : Nat) (x0 : Value) (x1 : Value) (m : M) : Res2 :=
  (kc (call base 52 [x0, x1] m) (fun v12_1 m => (k1 (mun .not v12_1) fun v13_2 => (kb v13_2 (some (.ret (.tuple #[(.slice none 0 0), (.int .i64 2)]), m)) (r33_L0 call fuel base (fun y4_29 y5_30 m => (some (.ret (.tuple #[y4_29, y5_30]), m))) (fun y6_31 m => (some (.ret (.tuple #[y6_31, (.int .i64 0)]), m))) fuel x0 x1 (.slice none 0 0) (.int .i64 0) (.int .i64 0) m)))) (fun v m => some (.pan v, m)))

def keep33 : Keep := { region := fun i => ([[0, 1], [0, 1, 13], [4, 5], [0, 1, 6], [0, 1, 6, 7, 8], [0, 1, 6, 7, 8, 19], [0, 1, 6, 7, 8, 22], [4, 5], [0, 1, 6, 7, 8, 9], [0, 1, 6, 7, 8, 9], [0, 1, 6, 7, 8, 9, 35], [0, 1, 6, 7, 8, 9], [0, 1, 6, 7, 8], [0, 1, 6, 7, 8, 9], [0, 1, 6, 7, 8], [4, 5]] : List (List Nat))[i]?, exit := fun i => ([[6], [0, 1, 6, 7, 8]] : List (List Nat))[i]?, ret := some [4, 5] }

noncomputable def r33_L0_R (call : CallF) (fuel base n : Nat) (vs : List Value) (m : M) (K : KT) : Res2 := match vs with
  | [x0, x1, x6, x7, x8] => r33_L0 call fuel base (fun y4 y5 m => K .ret { n := 49, l := [(4, y4), (5, y5)] } m) (fun y6 m => K (.exit 0) { n := 49, l := [(6, y6)] } m) n x0 x1 x6 x7 x8 m
  | _ => none

noncomputable def lp33 (call : CallF) (fuel base : Nat) : Lp := lpsel [(0, fun T m K => kslots 49 [0, 1, 6, 7, 8] T fun vs => r33_L0_R call fuel base fuel vs m K)]

noncomputable def c33 : Code := Try.f33.body.getD .skip

theorem r33_L0_lk (call : CallF) (fuel base : Nat) : LoopsOk E call (lp33 call fuel base) fuel base 0 (loopB (blockB (seqL (seqR (seqR (seqR (seqR c33))))))) = (And (And True (And True True)) (And (And True (And (And True True) True)) (And True (And True (And True (And (And True True) (And True True))))))) := by kernel_rfl

theorem r33_L0_ok (call : CallF) (fuel base : Nat) : LpOk E call (lp33 call fuel base) fuel base 0 (loopB (blockB (seqL (seqR (seqR (seqR (seqR c33))))))) := by
  refine loop_ok (kp := keep33) (hb := Eq.mpr (r33_L0_lk call fuel base) (And.intro (And.intro trivial (And.intro trivial trivial)) (And.intro (And.intro trivial (And.intro (And.intro trivial trivial) trivial)) (And.intro trivial (And.intro trivial (And.intro trivial (And.intro (And.intro trivial trivial) (And.intro trivial trivial)))))))) 49 [0, 1, 6, 7, 8] (fun n vs m K => r33_L0_R call fuel base n vs m K) ?_ ?_ (fun _ _ _ => rfl)
  · intro vs m K
    unfold r33_L0_R
    split <;> rfl
  · intro n vs m K hl
    match vs, hl with
    | [x0, x1, x6, x7, x8], _ => show _ = _; kernel_rfl

theorem r33_eq (call : CallF) (fuel base : Nat) (x0 : Value) (x1 : Value) (m : M) : kbody E call keep33 (lp33 call fuel base) base Try.f33 [x0, x1] m = r33 call fuel base x0 x1 m := by
  kernel_rfl

noncomputable def rf33 : RF := fun call fuel base args m => match args with
  | [x0, x1] => r33 call fuel base x0 x1 m
  | _ => none

theorem r33_lk (call : CallF) (fuel base : Nat) : LoopsOk E call (lp33 call fuel base) fuel base 0 c33 = (And True (And (And True (And (And True True) True)) (And True (And True (And (LpOk E call (lp33 call fuel base) fuel base 0 (loopB (blockB (seqL (seqR (seqR (seqR (seqR c33)))))))) (And True True)))))) := by kernel_rfl

theorem r33_fn : E.P.funcs[33]? = some Try.f33 := by kernel_rfl
theorem r33_body : Try.f33.body = some c33 := by kernel_rfl

theorem rf33_ok : RFok E 33 rf33 := by
  refine ⟨Try.f33, r33_fn, fun call fuel base args m r _ h => ?_⟩
  unfold rf33 at h
  split at h
  · rw [← r33_eq] at h
    exact kbody_sound (c := c33) r33_body (Eq.mpr (r33_lk call fuel base) (And.intro trivial (And.intro (And.intro trivial (And.intro (And.intro trivial trivial) trivial)) (And.intro trivial (And.intro trivial (And.intro (r33_L0_ok call fuel base) (And.intro trivial trivial))))))) h
  · simp at h

noncomputable def r34_L0 (call : CallF) (fuel base : Nat) (kr : Value → Value → M → Res2) (kx0 : Value → M → Res2) (n : Nat) : Value → Value → Value → Value → Value → M → Res2 :=
  Nat.rec (motive := fun _ => Value → Value → Value → Value → Value → M → Res2) (fun _ _ _ _ _ _ => none)
    (fun _ ih x0 x1 x6 x7 x8 m =>
      (k1 (mbin E .gtr 3 x0 (.int .i64 0)) fun v15_3 => (kb v15_3 (k1 (mbin E .gtr 3 x1 (.int .i64 0)) fun v18_4 => (k0 (mpick (.bool true) v18_4 (.bool false)) fun v19_5 => (kb v19_5 (k2 (vcall E.P base m .len [43] [x6]) fun v21_6 m => (k1 (mbin E .eql 3 v21_6 (.int .i64 16)) fun v22_7 => (kb v22_7 (kr (.slice none 0 0) (.int .i64 8) m) (k2 (vcall E.P base m .min [3, 3] [x0, x1]) fun v25_8 m => (k1 (mbuild E.P 62 [(0, x7), (1, x8), (2, v25_8)]) fun v30_9 => (k2 (xbuildSlice E.P m 43 1 [(0, v30_9)]) fun v31_10 m => (k2 (vcall E.P base m .append [43, 43] [x6, v31_10]) fun v32_11 m => (k1 (mbin E .gtr 3 x0 x1) fun v35_12 => (kb v35_12 (k1 (mbin E .add 3 x7 v25_8) fun v38_13 => (k1 (mbin E .sub 3 x0 v25_8) fun v41_14 => (ih v41_14 x1 v32_11 v38_13 x8 m))) (k1 (mbin E .add 3 x8 v25_8) fun v44_15 => (k1 (mbin E .sub 3 x1 v25_8) fun v47_16 => (ih x0 v47_16 v32_11 x7 v44_15 m)))))))))))) (kx0 x6 m)))) (k0 (mpick (.bool false) undef (.bool false)) fun v19_17 => (kb v19_17 (k2 (vcall E.P base m .len [43] [x6]) fun v21_18 m => (k1 (mbin E .eql 3 v21_18 (.int .i64 16)) fun v22_19 => (kb v22_19 (kr (.slice none 0 0) (.int .i64 8) m) (k2 (vcall E.P base m .min [3, 3] [x0, x1]) fun v25_20 m => (k1 (mbuild E.P 62 [(0, x7), (1, x8), (2, v25_20)]) fun v30_21 => (k2 (xbuildSlice E.P m 43 1 [(0, v30_21)]) fun v31_22 m => (k2 (vcall E.P base m .append [43, 43] [x6, v31_22]) fun v32_23 m => (k1 (mbin E .gtr 3 x0 x1) fun v35_24 => (kb v35_24 (k1 (mbin E .add 3 x7 v25_20) fun v38_25 => (k1 (mbin E .sub 3 x0 v25_20) fun v41_26 => (ih v41_26 x1 v32_23 v38_25 x8 m))) (k1 (mbin E .add 3 x8 v25_20) fun v44_27 => (k1 (mbin E .sub 3 x1 v25_20) fun v47_28 => (ih x0 v47_28 v32_23 x7 v44_27 m)))))))))))) (kx0 x6 m)))))) n

noncomputable def r34 (call : CallF) (fuel base : Nat) (x0 : Value) (x1 : Value) (m : M) : Res2 :=
  (kc (call base 54 [x0, x1] m) (fun v12_1 m => (k1 (mun .not v12_1) fun v13_2 => (kb v13_2 (some (.ret (.tuple #[(.slice none 0 0), (.int .i64 2)]), m)) (r34_L0 call fuel base (fun y4_29 y5_30 m => (some (.ret (.tuple #[y4_29, y5_30]), m))) (fun y6_31 m => (some (.ret (.tuple #[y6_31, (.int .i64 0)]), m))) fuel x0 x1 (.slice none 0 0) (.int .i64 0) (.int .i64 0) m)))) (fun v m => some (.pan v, m)))

def keep34 : Keep := { region := fun i => ([[0, 1], [0, 1, 13], [4, 5], [0, 1, 6], [0, 1, 6, 7, 8], [0, 1, 6, 7, 8, 19], [0, 1, 6, 7, 8, 22], [4, 5], [0, 1, 6, 7, 8, 9], [0, 1, 6, 7, 8, 9], [0, 1, 6, 7, 8, 9, 35], [0, 1, 6, 7, 8, 9], [0, 1, 6, 7, 8], [0, 1, 6, 7, 8, 9], [0, 1, 6, 7, 8], [4, 5]] : List (List Nat))[i]?, exit := fun i => ([[6], [0, 1, 6, 7, 8]] : List (List Nat))[i]?, ret := some [4, 5] }

noncomputable def r34_L0_R (call : CallF) (fuel base n : Nat) (vs : List Value) (m : M) (K : KT) : Res2 := match vs with
  | [x0, x1, x6, x7, x8] => r34_L0 call fuel base (fun y4 y5 m => K .ret { n := 49, l := [(4, y4), (5, y5)] } m) (fun y6 m => K (.exit 0) { n := 49, l := [(6, y6)] } m) n x0 x1 x6 x7 x8 m
  | _ => none

noncomputable def lp34 (call : CallF) (fuel base : Nat) : Lp := lpsel [(0, fun T m K => kslots 49 [0, 1, 6, 7, 8] T fun vs => r34_L0_R call fuel base fuel vs m K)]

noncomputable def c34 : Code := Try.f34.body.getD .skip

theorem r34_L0_lk (call : CallF) (fuel base : Nat) : LoopsOk E call (lp34 call fuel base) fuel base 0 (loopB (blockB (seqL (seqR (seqR (seqR (seqR c34))))))) = (And (And True (And True True)) (And (And True (And (And True True) True)) (And True (And True (And True (And (And True True) (And True True))))))) := by kernel_rfl

theorem r34_L0_ok (call : CallF) (fuel base : Nat) : LpOk E call (lp34 call fuel base) fuel base 0 (loopB (blockB (seqL (seqR (seqR (seqR (seqR c34))))))) := by
  refine loop_ok (kp := keep34) (hb := Eq.mpr (r34_L0_lk call fuel base) (And.intro (And.intro trivial (And.intro trivial trivial)) (And.intro (And.intro trivial (And.intro (And.intro trivial trivial) trivial)) (And.intro trivial (And.intro trivial (And.intro trivial (And.intro (And.intro trivial trivial) (And.intro trivial trivial)))))))) 49 [0, 1, 6, 7, 8] (fun n vs m K => r34_L0_R call fuel base n vs m K) ?_ ?_ (fun _ _ _ => rfl)
  · intro vs m K
    unfold r34_L0_R
    split <;> rfl
  · intro n vs m K hl
    match vs, hl with
    | [x0, x1, x6, x7, x8], _ => show _ = _; kernel_rfl

theorem r34_eq (call : CallF) (fuel base : Nat) (x0 : Value) (x1 : Value) (m : M) : kbody E call keep34 (lp34 call fuel base) base Try.f34 [x0, x1] m = r34 call fuel base x0 x1 m := by
  kernel_rfl

noncomputable def rf34 : RF := fun call fuel base args m => match args with
  | [x0, x1] => r34 call fuel base x0 x1 m
  | _ => none

theorem r34_lk (call : CallF) (fuel base : Nat) : LoopsOk E call (lp34 call fuel base) fuel base 0 c34 = (And True (And (And True (And (And True True) True)) (And True (And True (And (LpOk E call (lp34 call fuel base) fuel base 0 (loopB (blockB (seqL (seqR (seqR (seqR (seqR c34)))))))) (And True True)))))) := by kernel_rfl

theorem r34_fn : E.P.funcs[34]? = some Try.f34 := by kernel_rfl
theorem r34_body : Try.f34.body = some c34 := by kernel_rfl

theorem rf34_ok : RFok E 34 rf34 := by
  refine ⟨Try.f34, r34_fn, fun call fuel base args m r _ h => ?_⟩
  unfold rf34 at h
  split at h
  · rw [← r34_eq] at h
    exact kbody_sound (c := c34) r34_body (Eq.mpr (r34_lk call fuel base) (And.intro trivial (And.intro (And.intro trivial (And.intro (And.intro trivial trivial) trivial)) (And.intro trivial (And.intro trivial (And.intro (r34_L0_ok call fuel base) (And.intro trivial trivial))))))) h
  · simp at h

noncomputable def r35_L0 (call : CallF) (fuel base : Nat) (kr : Value → M → Res2) (kx0 : M → Res2) (n : Nat) : Value → Value → Value → M → Res2 :=
  Nat.rec (motive := fun _ => Value → Value → Value → M → Res2) (fun _ _ _ _ => none)
    (fun _ ih x0 x1 x5 m =>
      (k2 (vcall E.P base m .len [22] [x1]) fun v18_5 m => (k1 (mbin E .lss 3 x5 v18_5) fun v19_6 => (kb v19_6 (k1 (mindexAddr E.P 22 x1 x5) fun v24_7 => (k1 (xload E.P m 59 v24_7) fun v25_8 => (k2 (xalloc E.P m 59) fun v6_9 m => (ks (xstore E.P base m 59 v6_9 v25_8) fun m => (k1 (mfieldAddr E.P 59 v6_9 0) fun v26_10 => (k1 (xload E.P m 3 v26_10) fun v27_11 => (k1 (mbin E .lss 3 v27_11 (.int .i64 0)) fun v28_12 => (kb v28_12 (k0 (mpick (.bool true) (.bool true) undef) fun v34_13 => (kb v34_13 (k0 (mpick (.bool true) (.bool true) undef) fun v39_14 => (kb v39_14 (k0 (mpick (.bool true) (.bool true) undef) fun v45_15 => (kb v45_15 (k0 (mpick (.bool true) (.bool true) undef) fun v52_16 => (kb v52_16 (kr (.int .i64 2) m) (k1 (mbin E .add 3 x5 (.int .i64 1)) fun v21_17 => (ih x0 x1 v21_17 m)))) (k1 (mfieldAddr E.P 59 v6_9 0) fun v47_18 => (k1 (xload E.P m 3 v47_18) fun v48_19 => (k1 (mfieldAddr E.P 59 v6_9 1) fun v49_20 => (k1 (xload E.P m 3 v49_20) fun v50_21 => (k1 (mbin E .eql 3 v48_19 v50_21) fun v51_22 => (k0 (mpick (.bool false) (.bool true) v51_22) fun v52_23 => (kb v52_23 (kr (.int .i64 2) m) (k1 (mbin E .add 3 x5 (.int .i64 1)) fun v21_24 => (ih x0 x1 v21_24 m))))))))))) (k1 (mfieldAddr E.P 59 v6_9 1) fun v41_25 => (k1 (xload E.P m 3 v41_25) fun v42_26 => (k1 (mbin E .geq 3 v42_26 x0) fun v44_27 => (k0 (mpick (.bool false) (.bool true) v44_27) fun v45_28 => (kb v45_28 (k0 (mpick (.bool true) (.bool true) undef) fun v52_29 => (kb v52_29 (kr (.int .i64 2) m) (k1 (mbin E .add 3 x5 (.int .i64 1)) fun v21_30 => (ih x0 x1 v21_30 m)))) (k1 (mfieldAddr E.P 59 v6_9 0) fun v47_31 => (k1 (xload E.P m 3 v47_31) fun v48_32 => (k1 (mfieldAddr E.P 59 v6_9 1) fun v49_33 => (k1 (xload E.P m 3 v49_33) fun v50_34 => (k1 (mbin E .eql 3 v48_32 v50_34) fun v51_35 => (k0 (mpick (.bool false) (.bool true) v51_35) fun v52_36 => (kb v52_36 (kr (.int .i64 2) m) (k1 (mbin E .add 3 x5 (.int .i64 1)) fun v21_37 => (ih x0 x1 v21_37 m)))))))))))))))) (k1 (mfieldAddr E.P 59 v6_9 1) fun v36_38 => (k1 (xload E.P m 3 v36_38) fun v37_39 => (k1 (mbin E .lss 3 v37_39 (.int .i64 0)) fun v38_40 => (k0 (mpick (.bool false) (.bool true) v38_40) fun v39_41 => (kb v39_41 (k0 (mpick (.bool true) (.bool true) undef) fun v45_42 => (kb v45_42 (k0 (mpick (.bool true) (.bool true) undef) fun v52_43 => (kb v52_43 (kr (.int .i64 2) m) (k1 (mbin E .add 3 x5 (.int .i64 1)) fun v21_44 => (ih x0 x1 v21_44 m)))) (k1 (mfieldAddr E.P 59 v6_9 0) fun v47_45 => (k1 (xload E.P m 3 v47_45) fun v48_46 => (k1 (mfieldAddr E.P 59 v6_9 1) fun v49_47 => (k1 (xload E.P m 3 v49_47) fun v50_48 => (k1 (mbin E .eql 3 v48_46 v50_48) fun v51_49 => (k0 (mpick (.bool false) (.bool true) v51_49) fun v52_50 => (kb v52_50 (kr (.int .i64 2) m) (k1 (mbin E .add 3 x5 (.int .i64 1)) fun v21_51 => (ih x0 x1 v21_51 m))))))))))) (k1 (mfieldAddr E.P 59 v6_9 1) fun v41_52 => (k1 (xload E.P m 3 v41_52) fun v42_53 => (k1 (mbin E .geq 3 v42_53 x0) fun v44_54 => (k0 (mpick (.bool false) (.bool true) v44_54) fun v45_55 => (kb v45_55 (k0 (mpick (.bool true) (.bool true) undef) fun v52_56 => (kb v52_56 (kr (.int .i64 2) m) (k1 (mbin E .add 3 x5 (.int .i64 1)) fun v21_57 => (ih x0 x1 v21_57 m)))) (k1 (mfieldAddr E.P 59 v6_9 0) fun v47_58 => (k1 (xload E.P m 3 v47_58) fun v48_59 => (k1 (mfieldAddr E.P 59 v6_9 1) fun v49_60 => (k1 (xload E.P m 3 v49_60) fun v50_61 => (k1 (mbin E .eql 3 v48_59 v50_61) fun v51_62 => (k0 (mpick (.bool false) (.bool true) v51_62) fun v52_63 => (kb v52_63 (kr (.int .i64 2) m) (k1 (mbin E .add 3 x5 (.int .i64 1)) fun v21_64 => (ih x0 x1 v21_64 m))))))))))))))))))))) (k1 (mfieldAddr E.P 59 v6_9 0) fun v30_65 => (k1 (xload E.P m 3 v30_65) fun v31_66 => (k1 (mbin E .geq 3 v31_66 x0) fun v33_67 => (k0 (mpick (.bool false) (.bool true) v33_67) fun v34_68 => (kb v34_68 (k0 (mpick (.bool true) (.bool true) undef) fun v39_69 => (kb v39_69 (k0 (mpick (.bool true) (.bool true) undef) fun v45_70 => (kb v45_70 (k0 (mpick (.bool true) (.bool true) undef) fun v52_71 => (kb v52_71 (kr (.int .i64 2) m) (k1 (mbin E .add 3 x5 (.int .i64 1)) fun v21_72 => (ih x0 x1 v21_72 m)))) (k1 (mfieldAddr E.P 59 v6_9 0) fun v47_73 => (k1 (xload E.P m 3 v47_73) fun v48_74 => (k1 (mfieldAddr E.P 59 v6_9 1) fun v49_75 => (k1 (xload E.P m 3 v49_75) fun v50_76 => (k1 (mbin E .eql 3 v48_74 v50_76) fun v51_77 => (k0 (mpick (.bool false) (.bool true) v51_77) fun v52_78 => (kb v52_78 (kr (.int .i64 2) m) (k1 (mbin E .add 3 x5 (.int .i64 1)) fun v21_79 => (ih x0 x1 v21_79 m))))))))))) (k1 (mfieldAddr E.P 59 v6_9 1) fun v41_80 => (k1 (xload E.P m 3 v41_80) fun v42_81 => (k1 (mbin E .geq 3 v42_81 x0) fun v44_82 => (k0 (mpick (.bool false) (.bool true) v44_82) fun v45_83 => (kb v45_83 (k0 (mpick (.bool true) (.bool true) undef) fun v52_84 => (kb v52_84 (kr (.int .i64 2) m) (k1 (mbin E .add 3 x5 (.int .i64 1)) fun v21_85 => (ih x0 x1 v21_85 m)))) (k1 (mfieldAddr E.P 59 v6_9 0) fun v47_86 => (k1 (xload E.P m 3 v47_86) fun v48_87 => (k1 (mfieldAddr E.P 59 v6_9 1) fun v49_88 => (k1 (xload E.P m 3 v49_88) fun v50_89 => (k1 (mbin E .eql 3 v48_87 v50_89) fun v51_90 => (k0 (mpick (.bool false) (.bool true) v51_90) fun v52_91 => (kb v52_91 (kr (.int .i64 2) m) (k1 (mbin E .add 3 x5 (.int .i64 1)) fun v21_92 => (ih x0 x1 v21_92 m)))))))))))))))) (k1 (mfieldAddr E.P 59 v6_9 1) fun v36_93 => (k1 (xload E.P m 3 v36_93) fun v37_94 => (k1 (mbin E .lss 3 v37_94 (.int .i64 0)) fun v38_95 => (k0 (mpick (.bool false) (.bool true) v38_95) fun v39_96 => (kb v39_96 (k0 (mpick (.bool true) (.bool true) undef) fun v45_97 => (kb v45_97 (k0 (mpick (.bool true) (.bool true) undef) fun v52_98 => (kb v52_98 (kr (.int .i64 2) m) (k1 (mbin E .add 3 x5 (.int .i64 1)) fun v21_99 => (ih x0 x1 v21_99 m)))) (k1 (mfieldAddr E.P 59 v6_9 0) fun v47_100 => (k1 (xload E.P m 3 v47_100) fun v48_101 => (k1 (mfieldAddr E.P 59 v6_9 1) fun v49_102 => (k1 (xload E.P m 3 v49_102) fun v50_103 => (k1 (mbin E .eql 3 v48_101 v50_103) fun v51_104 => (k0 (mpick (.bool false) (.bool true) v51_104) fun v52_105 => (kb v52_105 (kr (.int .i64 2) m) (k1 (mbin E .add 3 x5 (.int .i64 1)) fun v21_106 => (ih x0 x1 v21_106 m))))))))))) (k1 (mfieldAddr E.P 59 v6_9 1) fun v41_107 => (k1 (xload E.P m 3 v41_107) fun v42_108 => (k1 (mbin E .geq 3 v42_108 x0) fun v44_109 => (k0 (mpick (.bool false) (.bool true) v44_109) fun v45_110 => (kb v45_110 (k0 (mpick (.bool true) (.bool true) undef) fun v52_111 => (kb v52_111 (kr (.int .i64 2) m) (k1 (mbin E .add 3 x5 (.int .i64 1)) fun v21_112 => (ih x0 x1 v21_112 m)))) (k1 (mfieldAddr E.P 59 v6_9 0) fun v47_113 => (k1 (xload E.P m 3 v47_113) fun v48_114 => (k1 (mfieldAddr E.P 59 v6_9 1) fun v49_115 => (k1 (xload E.P m 3 v49_115) fun v50_116 => (k1 (mbin E .eql 3 v48_114 v50_116) fun v51_117 => (k0 (mpick (.bool false) (.bool true) v51_117) fun v52_118 => (kb v52_118 (kr (.int .i64 2) m) (k1 (mbin E .add 3 x5 (.int .i64 1)) fun v21_119 => (ih x0 x1 v21_119 m)))))))))))))))))))))))))))))))) (kx0 m))))) n

noncomputable def r35 (call : CallF) (fuel base : Nat) (x0 : Value) (x1 : Value) (m : M) : Res2 :=
  (k1 (mbin E .lss 3 x0 (.int .i64 2)) fun v8_1 => (kb v8_1 (k0 (mpick (.bool true) (.bool true) undef) fun v12_2 => (kb v12_2 (fVal (.int .i64 2) fun v => some (.ret v, m)) (k2 (vcall E.P base m .len [22] [x1]) fun v14_3 m => (k1 (mbin E .gtr 3 v14_3 (.int .i64 16)) fun v15_4 => (kb v15_4 (fVal (.int .i64 3) fun v => some (.ret v, m)) (r35_L0 call fuel base (fun y4_120 m => (fVal y4_120 fun v => some (.ret v, m))) (fun m => (fVal (.int .i64 0) fun v => some (.ret v, m))) fuel x0 x1 (.int .i64 0) m)))))) (k1 (mbin E .gtr 3 x0 (.int .i64 8)) fun v11_121 => (k0 (mpick (.bool false) (.bool true) v11_121) fun v12_122 => (kb v12_122 (fVal (.int .i64 2) fun v => some (.ret v, m)) (k2 (vcall E.P base m .len [22] [x1]) fun v14_123 m => (k1 (mbin E .gtr 3 v14_123 (.int .i64 16)) fun v15_124 => (kb v15_124 (fVal (.int .i64 3) fun v => some (.ret v, m)) (r35_L0 call fuel base (fun y4_125 m => (fVal y4_125 fun v => some (.ret v, m))) (fun m => (fVal (.int .i64 0) fun v => some (.ret v, m))) fuel x0 x1 (.int .i64 0) m)))))))))

def keep35 : Keep := { region := fun i => ([[0, 1], [0, 1, 12], [4], [0, 1, 15], [4], [0, 1, 5], [0, 1, 5, 19], [0, 1, 5], [0, 1, 5, 6], [0, 1, 5, 52], [4], [4]] : List (List Nat))[i]?, exit := fun i => ([[], [0, 1, 5]] : List (List Nat))[i]?, ret := some [4] }

noncomputable def r35_L0_R (call : CallF) (fuel base n : Nat) (vs : List Value) (m : M) (K : KT) : Res2 := match vs with
  | [x0, x1, x5] => r35_L0 call fuel base (fun y4 m => K .ret { n := 53, l := [(4, y4)] } m) (fun m => K (.exit 0) { n := 53, l := [] } m) n x0 x1 x5 m
  | _ => none

noncomputable def lp35 (call : CallF) (fuel base : Nat) : Lp := lpsel [(0, fun T m K => kslots 53 [0, 1, 5] T fun vs => r35_L0_R call fuel base fuel vs m K)]

noncomputable def c35 : Code := Try.f35.body.getD .skip

theorem r35_L0_lk (call : CallF) (fuel base : Nat) : LoopsOk E call (lp35 call fuel base) fuel base 0 (loopB (blockB (seqR (seqL (seqR (seqR (seqR c35))))))) = (And (And True (And True True)) (And (And True (And True (And (And True True) True))) True)) := by kernel_rfl

theorem r35_L0_ok (call : CallF) (fuel base : Nat) : LpOk E call (lp35 call fuel base) fuel base 0 (loopB (blockB (seqR (seqL (seqR (seqR (seqR c35))))))) := by
  refine loop_ok (kp := keep35) (hb := Eq.mpr (r35_L0_lk call fuel base) (And.intro (And.intro trivial (And.intro trivial trivial)) (And.intro (And.intro trivial (And.intro trivial (And.intro (And.intro trivial trivial) trivial))) trivial))) 53 [0, 1, 5] (fun n vs m K => r35_L0_R call fuel base n vs m K) ?_ ?_ (fun _ _ _ => rfl)
  · intro vs m K
    unfold r35_L0_R
    split <;> rfl
  · intro n vs m K hl
    match vs, hl with
    | [x0, x1, x5], _ => show _ = _; kernel_rfl

theorem r35_eq (call : CallF) (fuel base : Nat) (x0 : Value) (x1 : Value) (m : M) : kbody E call keep35 (lp35 call fuel base) base Try.f35 [x0, x1] m = r35 call fuel base x0 x1 m := by
  kernel_rfl

noncomputable def rf35 : RF := fun call fuel base args m => match args with
  | [x0, x1] => r35 call fuel base x0 x1 m
  | _ => none

theorem r35_lk (call : CallF) (fuel base : Nat) : LoopsOk E call (lp35 call fuel base) fuel base 0 c35 = (And True (And (And True (And (And True True) True)) (And (And True (And (And True True) True)) (And (And True (LpOk E call (lp35 call fuel base) fuel base 0 (loopB (blockB (seqR (seqL (seqR (seqR (seqR c35))))))))) (And True True))))) := by kernel_rfl

theorem r35_fn : E.P.funcs[35]? = some Try.f35 := by kernel_rfl
theorem r35_body : Try.f35.body = some c35 := by kernel_rfl

theorem rf35_ok : RFok E 35 rf35 := by
  refine ⟨Try.f35, r35_fn, fun call fuel base args m r _ h => ?_⟩
  unfold rf35 at h
  split at h
  · rw [← r35_eq] at h
    exact kbody_sound (c := c35) r35_body (Eq.mpr (r35_lk call fuel base) (And.intro trivial (And.intro (And.intro trivial (And.intro (And.intro trivial trivial) trivial)) (And.intro (And.intro trivial (And.intro (And.intro trivial trivial) trivial)) (And.intro (And.intro trivial (r35_L0_ok call fuel base)) (And.intro trivial trivial)))))) h
  · simp at h

end Go.AM
