import Derived.KernelRfl
import Derived.Laws.BytesArg
import Derived.Laws.StructEq
import Derived.RangeFuncLeaves
import Derived.RangeFuncRecord
import Derived.Test.YtljhnbimlomdlaaGreatProg
import Derived.Test.YtljhnbimlomdlaaGreatRows
import Derived.WalkKit
import Derived.Test.YtljhnbimlomdlaaGreatAmB
import Derived.Test.YtljhnbimlomdlaaGreatAmG
import Derived.Test.YtljhnbimlomdlaaGreatAmModel
import Derived.Test.YtljhnbimlomdlaaGreatAmRel
import Derived.Test.YtljhnbimlomdlaaGreatAmOps6
import Derived.Test.YtljhnbimlomdlaaGreatAmCode
import Derived.Test.YtljhnbimlomdlaaGreatAmDraw5
import Derived.Test.YtljhnbimlomdlaaGreatAmEq
import Derived.Test.YtljhnbimlomdlaaGreatRBase
import Derived.Test.YtljhnbimlomdlaaGreatR31
import Derived.Test.YtljhnbimlomdlaaGreatR63
set_option linter.unusedVariables false
set_option linter.unusedSimpArgs false
set_option linter.unusedSectionVars false
namespace Go.AM
open Go Go.Proofs
noncomputable def r93_L0 (call : CallF) (fuel base : Nat) (kp : Value → M → Res2) (kr : Value → M → Res2) (kx0 : M → Res2) (n : Nat) : Value → Value → Value → Value → M → Res2 :=
  Nat.rec (motive := fun _ => Value → Value → Value → Value → M → Res2) (fun _ _ _ _ _ => none)
    (fun _ ih x0 x1 x7 x8 m =>
      (k1 (mbin E .lss 3 x8 x7) fun v9_2 => (kb v9_2 (k1 (mindexAddr E.P 23 x0 x8) fun v14_3 => (k1 (xload E.P m 34 v14_3) fun v15_4 => (kc (kv call base x1 [v15_4] m) (fun v16_5 m => (kb v16_5 (kr x8 m) (k1 (mbin E .add 3 x8 (.int .i64 1)) fun v18_6 => (ih x0 x1 x7 v18_6 m)))) (fun v m => kp v m)))) (kx0 m)))) n
noncomputable def r93 (call : CallF) (fuel base : Nat) (x0 : Value) (x1 : Value) (m : M) : Res2 :=
  (k2 (vcall E.P base m .len [23] [x0]) fun v7_1 m => (r93_L0 call fuel base (fun v m => some (.pan v, m)) (fun y4_7 m => (fVal y4_7 fun v => some (.ret v, m))) (fun m => (fVal (.int .i64 (-1)) fun v => some (.ret v, m))) fuel x0 x1 v7_1 (.int .i64 0) m))
def keep93 : Keep := { region := fun i => ([[0, 1], [0, 1, 7, 8], [0, 1, 7, 8, 9], [0, 1, 5, 7, 8], [0, 1, 5, 7, 8, 16], [4], [0, 1, 7, 8], [4]] : List (List Nat))[i]?, exit := fun i => ([[], [0, 1, 7, 8]] : List (List Nat))[i]?, ret := some [4] }
noncomputable def r93_L0_R (call : CallF) (fuel base n : Nat) (vs : List Value) (m : M) (K : KT) : Res2 := match vs with
  | [x0, x1, x7, x8] => r93_L0 call fuel base (fun v m => K (.pan v) { n := 19, l := [] } m) (fun y4 m => K .ret { n := 19, l := [(4, y4)] } m) (fun m => K (.exit 0) { n := 19, l := [] } m) n x0 x1 x7 x8 m
  | _ => none
noncomputable def lp93 (call : CallF) (fuel base : Nat) : Lp := lpsel [(0, fun T m K => kslots 19 [0, 1, 7, 8] T fun vs => r93_L0_R call fuel base fuel vs m K)]
noncomputable def c93 : Code := Tryz.f93.body.getD .skip
theorem r93_L0_lk (call : CallF) (fuel base : Nat) : LoopsOk E call (lp93 call fuel base) fuel base 0 (loopB (blockB (seqR (seqL (seqR c93))))) = (And True (And (And True True) (And (And True (And True (And (And True True) True))) True))) := by kernel_rfl
theorem r93_L0_ok (call : CallF) (fuel base : Nat) : LpOk E call (lp93 call fuel base) fuel base 0 (loopB (blockB (seqR (seqL (seqR c93))))) := by
  refine loop_ok (kp := keep93) (hb := Eq.mpr (r93_L0_lk call fuel base) (And.intro trivial (And.intro (And.intro trivial trivial) (And.intro (And.intro trivial (And.intro trivial (And.intro (And.intro trivial trivial) trivial))) trivial)))) 19 [0, 1, 7, 8] (fun n vs m K => r93_L0_R call fuel base n vs m K) ?_ ?_ (fun _ _ _ => rfl)
  · intro vs m K
    unfold r93_L0_R
    split <;> rfl
  · intro n vs m K hl
    match vs, hl with
    | [x0, x1, x7, x8], _ => show _ = _; kernel_rfl
theorem r93_eq (call : CallF) (fuel base : Nat) (x0 : Value) (x1 : Value) (m : M) : kbody E call keep93 (lp93 call fuel base) base Tryz.f93 [x0, x1] m = r93 call fuel base x0 x1 m := by
  kernel_rfl
noncomputable def rf93 : RF := fun call fuel base args m => match args with
  | [x0, x1] => r93 call fuel base x0 x1 m
  | _ => none
theorem r93_lk (call : CallF) (fuel base : Nat) : LoopsOk E call (lp93 call fuel base) fuel base 0 c93 = (And True (And (And True (LpOk E call (lp93 call fuel base) fuel base 0 (loopB (blockB (seqR (seqL (seqR c93))))))) (And True True))) := by kernel_rfl
theorem r93_fn : E.P.funcs[93]? = some Tryz.f93 := by kernel_rfl
theorem r93_body : Tryz.f93.body = some c93 := by kernel_rfl
theorem rf93_ok : RFok E 93 rf93 := by
  show RFok' E 93 rf93
  refine ⟨Tryz.f93, r93_fn, fun call fuel base args m r _ h => ?_⟩
  unfold rf93 at h
  split at h
  · rw [← r93_eq] at h
    exact kbody_sound (c := c93) r93_body (Eq.mpr (r93_lk call fuel base) (And.intro trivial (And.intro (And.intro trivial (r93_L0_ok call fuel base)) (And.intro trivial trivial)))) h
  · simp at h
end Go.AM
namespace Go.AM
open Go Go.Proofs
noncomputable def r94 (call : CallF) (fuel base : Nat) (x0 : Value) (m : M) : Res2 :=
  (k1 (mbin E .neq 3 x0 x0) fun v5_1 => (fVal v5_1 fun v => some (.ret v, m)))
def keep94 : Keep := { region := fun i => ([[0], [2]] : List (List Nat))[i]?, exit := fun i => ([] : List (List Nat))[i]?, ret := some [2] }
noncomputable def lp94 (call : CallF) (fuel base : Nat) : Lp := lpsel []
noncomputable def c94 : Code := Tryz.f94.body.getD .skip
theorem r94_eq (call : CallF) (fuel base : Nat) (x0 : Value) (m : M) : kbody E call keep94 (lp94 call fuel base) base Tryz.f94 [x0] m = r94 call fuel base x0 m := by
  kernel_rfl
noncomputable def rf94 : RF := fun call fuel base args m => match args with
  | [x0] => r94 call fuel base x0 m
  | _ => none
theorem r94_lk (call : CallF) (fuel base : Nat) : LoopsOk E call (lp94 call fuel base) fuel base 0 c94 = (And True (And True True)) := by kernel_rfl
theorem r94_fn : E.P.funcs[94]? = some Tryz.f94 := by kernel_rfl
theorem r94_body : Tryz.f94.body = some c94 := by kernel_rfl
theorem rf94_ok : RFok E 94 rf94 := by
  show RFok' E 94 rf94
  refine ⟨Tryz.f94, r94_fn, fun call fuel base args m r _ h => ?_⟩
  unfold rf94 at h
  split at h
  · rw [← r94_eq] at h
    exact kbody_sound (c := c94) r94_body (Eq.mpr (r94_lk call fuel base) (And.intro trivial (And.intro trivial trivial))) h
  · simp at h
end Go.AM
namespace Go.AM
open Go Go.Proofs
noncomputable def r95_L0 (call : CallF) (fuel base : Nat) (kp : Value → M → Res2) (kr : M → Res2) (n : Nat) : Value → Value → Value → Value → Value → Value → Value → M → Res2 :=
  Nat.rec (motive := fun _ => Value → Value → Value → Value → Value → Value → Value → M → Res2) (fun _ _ _ _ _ _ _ _ => none)
    (fun _ ih x0 x1 x2 x3 x4 x10 x11 m =>
      (k1 (mbin E .sub 3 x2 x1) fun v23_1 => (k1 (mbin E .leq 3 v23_1 (.int .i64 12)) fun v25_2 => (kb v25_2 (kc (call base 109 [x0, x1, x2, x4] m) (fun v30_3 m => (kr m)) (fun v m => kp v m)) (k1 (mbin E .eql 3 x3 (.int .i64 0)) fun v32_4 => (kb v32_4 (kc (call base 110 [x0, x1, x2, x4] m) (fun v37_5 m => (kr m)) (fun v m => kp v m)) (k1 (mun .not x10) fun v39_6 => (kb v39_6 (kc (call base 111 [x0, x1, x2, x4] m) (fun v44_7 m => (k1 (mbin E .sub 3 x3 (.int .i64 1)) fun v46_8 => (kc (call base 112 [x0, x1, x2, x4] m) (fun v52_9 m => (k1 (mextract 0 v52_9) fun v53_10 => (k1 (mextract 1 v52_9) fun v54_11 => (k1 (mbin E .eql 142 v54_11 (.int .i64 2)) fun v56_12 => (kb v56_12 (kc (call base 113 [x0, x1, x2, x4] m) (fun v61_13 m => (k1 (mbin E .sub 3 x2 (.int .i64 1)) fun v63_14 => (k1 (mbin E .sub 3 v53_10 x1) fun v66_15 => (k1 (mbin E .sub 3 v63_14 v66_15) fun v67_16 => (kb x10 (kb x11 (k1 (mbin E .eql 142 (.int .i64 1) (.int .i64 1)) fun v74_17 => (kb v74_17 (kc (call base 114 [x0, x1, x2, x4] m) (fun v80_18 m => (kb v80_18 (kr m) (k1 (mbin E .gtr 3 x1 (.int .i64 0)) fun v82_19 => (kb v82_19 (k1 (mbin E .sub 3 x1 (.int .i64 1)) fun v87_20 => (k1 (mindexAddr E.P 33 x0 v87_20) fun v88_21 => (k1 (xload E.P m 68 v88_21) fun v89_22 => (k1 (mindexAddr E.P 33 x0 v67_16) fun v92_23 => (k1 (xload E.P m 68 v92_23) fun v93_24 => (kc (kB m (kv call m.length x4 [v89_22, v93_24] m)) (fun v94_25 m => (k1 (mbin E .lss 3 v94_25 (.int .i64 0)) fun v95_26 => (k1 (mun .not v95_26) fun v96_27 => (kb v96_27 (kc (call base 115 [x0, x1, x2, v67_16, x4] m) (fun v103_28 m => (ih x0 v103_28 x2 v46_8 x4 x10 x11 m)) (fun v m => kp v m)) (kc (call base 116 [x0, x1, x2, v67_16, x4] m) (fun v111_29 m => (k1 (mextract 0 v111_29) fun v112_30 => (k1 (mextract 1 v111_29) fun v113_31 => (k1 (mbin E .sub 3 v112_30 x1) fun v117_32 => (k1 (mbin E .sub 3 x2 v112_30) fun v120_33 => (k1 (mbin E .quo 3 v23_1 (.int .i64 8)) fun v122_34 => (k1 (mbin E .lss 3 v117_32 v120_33) fun v125_35 => (kb v125_35 (k1 (mbin E .geq 3 v117_32 v122_34) fun v128_36 => (kc (call base 95 [x0, x1, v112_30, v46_8, x4] m) (fun v134_37 m => (k1 (mbin E .add 3 v112_30 (.int .i64 1)) fun v136_38 => (ih x0 v136_38 x2 v46_8 x4 v128_36 v113_31 m))) (fun v m => kp v m))) (k1 (mbin E .geq 3 v120_33 v122_34) fun v139_39 => (k1 (mbin E .add 3 v112_30 (.int .i64 1)) fun v142_40 => (kc (call base 95 [x0, v142_40, x2, v46_8, x4] m) (fun v146_41 m => (ih x0 x1 v112_30 v46_8 x4 v139_39 v113_31 m)) (fun v m => kp v m)))))))))))) (fun v m => kp v m)))))) (fun _ _ => none))))))) (kc (call base 116 [x0, x1, x2, v67_16, x4] m) (fun v111_42 m => (k1 (mextract 0 v111_42) fun v112_43 => (k1 (mextract 1 v111_42) fun v113_44 => (k1 (mbin E .sub 3 v112_43 x1) fun v117_45 => (k1 (mbin E .sub 3 x2 v112_43) fun v120_46 => (k1 (mbin E .quo 3 v23_1 (.int .i64 8)) fun v122_47 => (k1 (mbin E .lss 3 v117_45 v120_46) fun v125_48 => (kb v125_48 (k1 (mbin E .geq 3 v117_45 v122_47) fun v128_49 => (kc (call base 95 [x0, x1, v112_43, v46_8, x4] m) (fun v134_50 m => (k1 (mbin E .add 3 v112_43 (.int .i64 1)) fun v136_51 => (ih x0 v136_51 x2 v46_8 x4 v128_49 v113_44 m))) (fun v m => kp v m))) (k1 (mbin E .geq 3 v120_46 v122_47) fun v139_52 => (k1 (mbin E .add 3 v112_43 (.int .i64 1)) fun v142_53 => (kc (call base 95 [x0, v142_53, x2, v46_8, x4] m) (fun v146_54 m => (ih x0 x1 v112_43 v46_8 x4 v139_52 v113_44 m)) (fun v m => kp v m)))))))))))) (fun v m => kp v m)))))) (fun v m => kp v m)) (k1 (mbin E .gtr 3 x1 (.int .i64 0)) fun v82_55 => (kb v82_55 (k1 (mbin E .sub 3 x1 (.int .i64 1)) fun v87_56 => (k1 (mindexAddr E.P 33 x0 v87_56) fun v88_57 => (k1 (xload E.P m 68 v88_57) fun v89_58 => (k1 (mindexAddr E.P 33 x0 v67_16) fun v92_59 => (k1 (xload E.P m 68 v92_59) fun v93_60 => (kc (kB m (kv call m.length x4 [v89_58, v93_60] m)) (fun v94_61 m => (k1 (mbin E .lss 3 v94_61 (.int .i64 0)) fun v95_62 => (k1 (mun .not v95_62) fun v96_63 => (kb v96_63 (kc (call base 115 [x0, x1, x2, v67_16, x4] m) (fun v103_64 m => (ih x0 v103_64 x2 v46_8 x4 x10 x11 m)) (fun v m => kp v m)) (kc (call base 116 [x0, x1, x2, v67_16, x4] m) (fun v111_65 m => (k1 (mextract 0 v111_65) fun v112_66 => (k1 (mextract 1 v111_65) fun v113_67 => (k1 (mbin E .sub 3 v112_66 x1) fun v117_68 => (k1 (mbin E .sub 3 x2 v112_66) fun v120_69 => (k1 (mbin E .quo 3 v23_1 (.int .i64 8)) fun v122_70 => (k1 (mbin E .lss 3 v117_68 v120_69) fun v125_71 => (kb v125_71 (k1 (mbin E .geq 3 v117_68 v122_70) fun v128_72 => (kc (call base 95 [x0, x1, v112_66, v46_8, x4] m) (fun v134_73 m => (k1 (mbin E .add 3 v112_66 (.int .i64 1)) fun v136_74 => (ih x0 v136_74 x2 v46_8 x4 v128_72 v113_67 m))) (fun v m => kp v m))) (k1 (mbin E .geq 3 v120_69 v122_70) fun v139_75 => (k1 (mbin E .add 3 v112_66 (.int .i64 1)) fun v142_76 => (kc (call base 95 [x0, v142_76, x2, v46_8, x4] m) (fun v146_77 m => (ih x0 x1 v112_66 v46_8 x4 v139_75 v113_67 m)) (fun v m => kp v m)))))))))))) (fun v m => kp v m)))))) (fun _ _ => none))))))) (kc (call base 116 [x0, x1, x2, v67_16, x4] m) (fun v111_78 m => (k1 (mextract 0 v111_78) fun v112_79 => (k1 (mextract 1 v111_78) fun v113_80 => (k1 (mbin E .sub 3 v112_79 x1) fun v117_81 => (k1 (mbin E .sub 3 x2 v112_79) fun v120_82 => (k1 (mbin E .quo 3 v23_1 (.int .i64 8)) fun v122_83 => (k1 (mbin E .lss 3 v117_81 v120_82) fun v125_84 => (kb v125_84 (k1 (mbin E .geq 3 v117_81 v122_83) fun v128_85 => (kc (call base 95 [x0, x1, v112_79, v46_8, x4] m) (fun v134_86 m => (k1 (mbin E .add 3 v112_79 (.int .i64 1)) fun v136_87 => (ih x0 v136_87 x2 v46_8 x4 v128_85 v113_80 m))) (fun v m => kp v m))) (k1 (mbin E .geq 3 v120_82 v122_83) fun v139_88 => (k1 (mbin E .add 3 v112_79 (.int .i64 1)) fun v142_89 => (kc (call base 95 [x0, v142_89, x2, v46_8, x4] m) (fun v146_90 m => (ih x0 x1 v112_79 v46_8 x4 v139_88 v113_80 m)) (fun v m => kp v m)))))))))))) (fun v m => kp v m)))))) (k1 (mbin E .gtr 3 x1 (.int .i64 0)) fun v82_91 => (kb v82_91 (k1 (mbin E .sub 3 x1 (.int .i64 1)) fun v87_92 => (k1 (mindexAddr E.P 33 x0 v87_92) fun v88_93 => (k1 (xload E.P m 68 v88_93) fun v89_94 => (k1 (mindexAddr E.P 33 x0 v67_16) fun v92_95 => (k1 (xload E.P m 68 v92_95) fun v93_96 => (kc (kB m (kv call m.length x4 [v89_94, v93_96] m)) (fun v94_97 m => (k1 (mbin E .lss 3 v94_97 (.int .i64 0)) fun v95_98 => (k1 (mun .not v95_98) fun v96_99 => (kb v96_99 (kc (call base 115 [x0, x1, x2, v67_16, x4] m) (fun v103_100 m => (ih x0 v103_100 x2 v46_8 x4 x10 x11 m)) (fun v m => kp v m)) (kc (call base 116 [x0, x1, x2, v67_16, x4] m) (fun v111_101 m => (k1 (mextract 0 v111_101) fun v112_102 => (k1 (mextract 1 v111_101) fun v113_103 => (k1 (mbin E .sub 3 v112_102 x1) fun v117_104 => (k1 (mbin E .sub 3 x2 v112_102) fun v120_105 => (k1 (mbin E .quo 3 v23_1 (.int .i64 8)) fun v122_106 => (k1 (mbin E .lss 3 v117_104 v120_105) fun v125_107 => (kb v125_107 (k1 (mbin E .geq 3 v117_104 v122_106) fun v128_108 => (kc (call base 95 [x0, x1, v112_102, v46_8, x4] m) (fun v134_109 m => (k1 (mbin E .add 3 v112_102 (.int .i64 1)) fun v136_110 => (ih x0 v136_110 x2 v46_8 x4 v128_108 v113_103 m))) (fun v m => kp v m))) (k1 (mbin E .geq 3 v120_105 v122_106) fun v139_111 => (k1 (mbin E .add 3 v112_102 (.int .i64 1)) fun v142_112 => (kc (call base 95 [x0, v142_112, x2, v46_8, x4] m) (fun v146_113 m => (ih x0 x1 v112_102 v46_8 x4 v139_111 v113_103 m)) (fun v m => kp v m)))))))))))) (fun v m => kp v m)))))) (fun _ _ => none))))))) (kc (call base 116 [x0, x1, x2, v67_16, x4] m) (fun v111_114 m => (k1 (mextract 0 v111_114) fun v112_115 => (k1 (mextract 1 v111_114) fun v113_116 => (k1 (mbin E .sub 3 v112_115 x1) fun v117_117 => (k1 (mbin E .sub 3 x2 v112_115) fun v120_118 => (k1 (mbin E .quo 3 v23_1 (.int .i64 8)) fun v122_119 => (k1 (mbin E .lss 3 v117_117 v120_118) fun v125_120 => (kb v125_120 (k1 (mbin E .geq 3 v117_117 v122_119) fun v128_121 => (kc (call base 95 [x0, x1, v112_115, v46_8, x4] m) (fun v134_122 m => (k1 (mbin E .add 3 v112_115 (.int .i64 1)) fun v136_123 => (ih x0 v136_123 x2 v46_8 x4 v128_121 v113_116 m))) (fun v m => kp v m))) (k1 (mbin E .geq 3 v120_118 v122_119) fun v139_124 => (k1 (mbin E .add 3 v112_115 (.int .i64 1)) fun v142_125 => (kc (call base 95 [x0, v142_125, x2, v46_8, x4] m) (fun v146_126 m => (ih x0 x1 v112_115 v46_8 x4 v139_124 v113_116 m)) (fun v m => kp v m)))))))))))) (fun v m => kp v m))))) (k1 (mbin E .gtr 3 x1 (.int .i64 0)) fun v82_127 => (kb v82_127 (k1 (mbin E .sub 3 x1 (.int .i64 1)) fun v87_128 => (k1 (mindexAddr E.P 33 x0 v87_128) fun v88_129 => (k1 (xload E.P m 68 v88_129) fun v89_130 => (k1 (mindexAddr E.P 33 x0 v67_16) fun v92_131 => (k1 (xload E.P m 68 v92_131) fun v93_132 => (kc (kB m (kv call m.length x4 [v89_130, v93_132] m)) (fun v94_133 m => (k1 (mbin E .lss 3 v94_133 (.int .i64 0)) fun v95_134 => (k1 (mun .not v95_134) fun v96_135 => (kb v96_135 (kc (call base 115 [x0, x1, x2, v67_16, x4] m) (fun v103_136 m => (ih x0 v103_136 x2 v46_8 x4 x10 x11 m)) (fun v m => kp v m)) (kc (call base 116 [x0, x1, x2, v67_16, x4] m) (fun v111_137 m => (k1 (mextract 0 v111_137) fun v112_138 => (k1 (mextract 1 v111_137) fun v113_139 => (k1 (mbin E .sub 3 v112_138 x1) fun v117_140 => (k1 (mbin E .sub 3 x2 v112_138) fun v120_141 => (k1 (mbin E .quo 3 v23_1 (.int .i64 8)) fun v122_142 => (k1 (mbin E .lss 3 v117_140 v120_141) fun v125_143 => (kb v125_143 (k1 (mbin E .geq 3 v117_140 v122_142) fun v128_144 => (kc (call base 95 [x0, x1, v112_138, v46_8, x4] m) (fun v134_145 m => (k1 (mbin E .add 3 v112_138 (.int .i64 1)) fun v136_146 => (ih x0 v136_146 x2 v46_8 x4 v128_144 v113_139 m))) (fun v m => kp v m))) (k1 (mbin E .geq 3 v120_141 v122_142) fun v139_147 => (k1 (mbin E .add 3 v112_138 (.int .i64 1)) fun v142_148 => (kc (call base 95 [x0, v142_148, x2, v46_8, x4] m) (fun v146_149 m => (ih x0 x1 v112_138 v46_8 x4 v139_147 v113_139 m)) (fun v m => kp v m)))))))))))) (fun v m => kp v m)))))) (fun _ _ => none))))))) (kc (call base 116 [x0, x1, x2, v67_16, x4] m) (fun v111_150 m => (k1 (mextract 0 v111_150) fun v112_151 => (k1 (mextract 1 v111_150) fun v113_152 => (k1 (mbin E .sub 3 v112_151 x1) fun v117_153 => (k1 (mbin E .sub 3 x2 v112_151) fun v120_154 => (k1 (mbin E .quo 3 v23_1 (.int .i64 8)) fun v122_155 => (k1 (mbin E .lss 3 v117_153 v120_154) fun v125_156 => (kb v125_156 (k1 (mbin E .geq 3 v117_153 v122_155) fun v128_157 => (kc (call base 95 [x0, x1, v112_151, v46_8, x4] m) (fun v134_158 m => (k1 (mbin E .add 3 v112_151 (.int .i64 1)) fun v136_159 => (ih x0 v136_159 x2 v46_8 x4 v128_157 v113_152 m))) (fun v m => kp v m))) (k1 (mbin E .geq 3 v120_154 v122_155) fun v139_160 => (k1 (mbin E .add 3 v112_151 (.int .i64 1)) fun v142_161 => (kc (call base 95 [x0, v142_161, x2, v46_8, x4] m) (fun v146_162 m => (ih x0 x1 v112_151 v46_8 x4 v139_160 v113_152 m)) (fun v m => kp v m)))))))))))) (fun v m => kp v m))))))))) (fun v m => kp v m)) (kb x10 (kb x11 (k1 (mbin E .eql 142 v54_11 (.int .i64 1)) fun v74_163 => (kb v74_163 (kc (call base 114 [x0, x1, x2, x4] m) (fun v80_164 m => (kb v80_164 (kr m) (k1 (mbin E .gtr 3 x1 (.int .i64 0)) fun v82_165 => (kb v82_165 (k1 (mbin E .sub 3 x1 (.int .i64 1)) fun v87_166 => (k1 (mindexAddr E.P 33 x0 v87_166) fun v88_167 => (k1 (xload E.P m 68 v88_167) fun v89_168 => (k1 (mindexAddr E.P 33 x0 v53_10) fun v92_169 => (k1 (xload E.P m 68 v92_169) fun v93_170 => (kc (kB m (kv call m.length x4 [v89_168, v93_170] m)) (fun v94_171 m => (k1 (mbin E .lss 3 v94_171 (.int .i64 0)) fun v95_172 => (k1 (mun .not v95_172) fun v96_173 => (kb v96_173 (kc (call base 115 [x0, x1, x2, v53_10, x4] m) (fun v103_174 m => (ih x0 v103_174 x2 v46_8 x4 x10 x11 m)) (fun v m => kp v m)) (kc (call base 116 [x0, x1, x2, v53_10, x4] m) (fun v111_175 m => (k1 (mextract 0 v111_175) fun v112_176 => (k1 (mextract 1 v111_175) fun v113_177 => (k1 (mbin E .sub 3 v112_176 x1) fun v117_178 => (k1 (mbin E .sub 3 x2 v112_176) fun v120_179 => (k1 (mbin E .quo 3 v23_1 (.int .i64 8)) fun v122_180 => (k1 (mbin E .lss 3 v117_178 v120_179) fun v125_181 => (kb v125_181 (k1 (mbin E .geq 3 v117_178 v122_180) fun v128_182 => (kc (call base 95 [x0, x1, v112_176, v46_8, x4] m) (fun v134_183 m => (k1 (mbin E .add 3 v112_176 (.int .i64 1)) fun v136_184 => (ih x0 v136_184 x2 v46_8 x4 v128_182 v113_177 m))) (fun v m => kp v m))) (k1 (mbin E .geq 3 v120_179 v122_180) fun v139_185 => (k1 (mbin E .add 3 v112_176 (.int .i64 1)) fun v142_186 => (kc (call base 95 [x0, v142_186, x2, v46_8, x4] m) (fun v146_187 m => (ih x0 x1 v112_176 v46_8 x4 v139_185 v113_177 m)) (fun v m => kp v m)))))))))))) (fun v m => kp v m)))))) (fun _ _ => none))))))) (kc (call base 116 [x0, x1, x2, v53_10, x4] m) (fun v111_188 m => (k1 (mextract 0 v111_188) fun v112_189 => (k1 (mextract 1 v111_188) fun v113_190 => (k1 (mbin E .sub 3 v112_189 x1) fun v117_191 => (k1 (mbin E .sub 3 x2 v112_189) fun v120_192 => (k1 (mbin E .quo 3 v23_1 (.int .i64 8)) fun v122_193 => (k1 (mbin E .lss 3 v117_191 v120_192) fun v125_194 => (kb v125_194 (k1 (mbin E .geq 3 v117_191 v122_193) fun v128_195 => (kc (call base 95 [x0, x1, v112_189, v46_8, x4] m) (fun v134_196 m => (k1 (mbin E .add 3 v112_189 (.int .i64 1)) fun v136_197 => (ih x0 v136_197 x2 v46_8 x4 v128_195 v113_190 m))) (fun v m => kp v m))) (k1 (mbin E .geq 3 v120_192 v122_193) fun v139_198 => (k1 (mbin E .add 3 v112_189 (.int .i64 1)) fun v142_199 => (kc (call base 95 [x0, v142_199, x2, v46_8, x4] m) (fun v146_200 m => (ih x0 x1 v112_189 v46_8 x4 v139_198 v113_190 m)) (fun v m => kp v m)))))))))))) (fun v m => kp v m)))))) (fun v m => kp v m)) (k1 (mbin E .gtr 3 x1 (.int .i64 0)) fun v82_201 => (kb v82_201 (k1 (mbin E .sub 3 x1 (.int .i64 1)) fun v87_202 => (k1 (mindexAddr E.P 33 x0 v87_202) fun v88_203 => (k1 (xload E.P m 68 v88_203) fun v89_204 => (k1 (mindexAddr E.P 33 x0 v53_10) fun v92_205 => (k1 (xload E.P m 68 v92_205) fun v93_206 => (kc (kB m (kv call m.length x4 [v89_204, v93_206] m)) (fun v94_207 m => (k1 (mbin E .lss 3 v94_207 (.int .i64 0)) fun v95_208 => (k1 (mun .not v95_208) fun v96_209 => (kb v96_209 (kc (call base 115 [x0, x1, x2, v53_10, x4] m) (fun v103_210 m => (ih x0 v103_210 x2 v46_8 x4 x10 x11 m)) (fun v m => kp v m)) (kc (call base 116 [x0, x1, x2, v53_10, x4] m) (fun v111_211 m => (k1 (mextract 0 v111_211) fun v112_212 => (k1 (mextract 1 v111_211) fun v113_213 => (k1 (mbin E .sub 3 v112_212 x1) fun v117_214 => (k1 (mbin E .sub 3 x2 v112_212) fun v120_215 => (k1 (mbin E .quo 3 v23_1 (.int .i64 8)) fun v122_216 => (k1 (mbin E .lss 3 v117_214 v120_215) fun v125_217 => (kb v125_217 (k1 (mbin E .geq 3 v117_214 v122_216) fun v128_218 => (kc (call base 95 [x0, x1, v112_212, v46_8, x4] m) (fun v134_219 m => (k1 (mbin E .add 3 v112_212 (.int .i64 1)) fun v136_220 => (ih x0 v136_220 x2 v46_8 x4 v128_218 v113_213 m))) (fun v m => kp v m))) (k1 (mbin E .geq 3 v120_215 v122_216) fun v139_221 => (k1 (mbin E .add 3 v112_212 (.int .i64 1)) fun v142_222 => (kc (call base 95 [x0, v142_222, x2, v46_8, x4] m) (fun v146_223 m => (ih x0 x1 v112_212 v46_8 x4 v139_221 v113_213 m)) (fun v m => kp v m)))))))))))) (fun v m => kp v m)))))) (fun _ _ => none))))))) (kc (call base 116 [x0, x1, x2, v53_10, x4] m) (fun v111_224 m => (k1 (mextract 0 v111_224) fun v112_225 => (k1 (mextract 1 v111_224) fun v113_226 => (k1 (mbin E .sub 3 v112_225 x1) fun v117_227 => (k1 (mbin E .sub 3 x2 v112_225) fun v120_228 => (k1 (mbin E .quo 3 v23_1 (.int .i64 8)) fun v122_229 => (k1 (mbin E .lss 3 v117_227 v120_228) fun v125_230 => (kb v125_230 (k1 (mbin E .geq 3 v117_227 v122_229) fun v128_231 => (kc (call base 95 [x0, x1, v112_225, v46_8, x4] m) (fun v134_232 m => (k1 (mbin E .add 3 v112_225 (.int .i64 1)) fun v136_233 => (ih x0 v136_233 x2 v46_8 x4 v128_231 v113_226 m))) (fun v m => kp v m))) (k1 (mbin E .geq 3 v120_228 v122_229) fun v139_234 => (k1 (mbin E .add 3 v112_225 (.int .i64 1)) fun v142_235 => (kc (call base 95 [x0, v142_235, x2, v46_8, x4] m) (fun v146_236 m => (ih x0 x1 v112_225 v46_8 x4 v139_234 v113_226 m)) (fun v m => kp v m)))))))))))) (fun v m => kp v m)))))) (k1 (mbin E .gtr 3 x1 (.int .i64 0)) fun v82_237 => (kb v82_237 (k1 (mbin E .sub 3 x1 (.int .i64 1)) fun v87_238 => (k1 (mindexAddr E.P 33 x0 v87_238) fun v88_239 => (k1 (xload E.P m 68 v88_239) fun v89_240 => (k1 (mindexAddr E.P 33 x0 v53_10) fun v92_241 => (k1 (xload E.P m 68 v92_241) fun v93_242 => (kc (kB m (kv call m.length x4 [v89_240, v93_242] m)) (fun v94_243 m => (k1 (mbin E .lss 3 v94_243 (.int .i64 0)) fun v95_244 => (k1 (mun .not v95_244) fun v96_245 => (kb v96_245 (kc (call base 115 [x0, x1, x2, v53_10, x4] m) (fun v103_246 m => (ih x0 v103_246 x2 v46_8 x4 x10 x11 m)) (fun v m => kp v m)) (kc (call base 116 [x0, x1, x2, v53_10, x4] m) (fun v111_247 m => (k1 (mextract 0 v111_247) fun v112_248 => (k1 (mextract 1 v111_247) fun v113_249 => (k1 (mbin E .sub 3 v112_248 x1) fun v117_250 => (k1 (mbin E .sub 3 x2 v112_248) fun v120_251 => (k1 (mbin E .quo 3 v23_1 (.int .i64 8)) fun v122_252 => (k1 (mbin E .lss 3 v117_250 v120_251) fun v125_253 => (kb v125_253 (k1 (mbin E .geq 3 v117_250 v122_252) fun v128_254 => (kc (call base 95 [x0, x1, v112_248, v46_8, x4] m) (fun v134_255 m => (k1 (mbin E .add 3 v112_248 (.int .i64 1)) fun v136_256 => (ih x0 v136_256 x2 v46_8 x4 v128_254 v113_249 m))) (fun v m => kp v m))) (k1 (mbin E .geq 3 v120_251 v122_252) fun v139_257 => (k1 (mbin E .add 3 v112_248 (.int .i64 1)) fun v142_258 => (kc (call base 95 [x0, v142_258, x2, v46_8, x4] m) (fun v146_259 m => (ih x0 x1 v112_248 v46_8 x4 v139_257 v113_249 m)) (fun v m => kp v m)))))))))))) (fun v m => kp v m)))))) (fun _ _ => none))))))) (kc (call base 116 [x0, x1, x2, v53_10, x4] m) (fun v111_260 m => (k1 (mextract 0 v111_260) fun v112_261 => (k1 (mextract 1 v111_260) fun v113_262 => (k1 (mbin E .sub 3 v112_261 x1) fun v117_263 => (k1 (mbin E .sub 3 x2 v112_261) fun v120_264 => (k1 (mbin E .quo 3 v23_1 (.int .i64 8)) fun v122_265 => (k1 (mbin E .lss 3 v117_263 v120_264) fun v125_266 => (kb v125_266 (k1 (mbin E .geq 3 v117_263 v122_265) fun v128_267 => (kc (call base 95 [x0, x1, v112_261, v46_8, x4] m) (fun v134_268 m => (k1 (mbin E .add 3 v112_261 (.int .i64 1)) fun v136_269 => (ih x0 v136_269 x2 v46_8 x4 v128_267 v113_262 m))) (fun v m => kp v m))) (k1 (mbin E .geq 3 v120_264 v122_265) fun v139_270 => (k1 (mbin E .add 3 v112_261 (.int .i64 1)) fun v142_271 => (kc (call base 95 [x0, v142_271, x2, v46_8, x4] m) (fun v146_272 m => (ih x0 x1 v112_261 v46_8 x4 v139_270 v113_262 m)) (fun v m => kp v m)))))))))))) (fun v m => kp v m))))) (k1 (mbin E .gtr 3 x1 (.int .i64 0)) fun v82_273 => (kb v82_273 (k1 (mbin E .sub 3 x1 (.int .i64 1)) fun v87_274 => (k1 (mindexAddr E.P 33 x0 v87_274) fun v88_275 => (k1 (xload E.P m 68 v88_275) fun v89_276 => (k1 (mindexAddr E.P 33 x0 v53_10) fun v92_277 => (k1 (xload E.P m 68 v92_277) fun v93_278 => (kc (kB m (kv call m.length x4 [v89_276, v93_278] m)) (fun v94_279 m => (k1 (mbin E .lss 3 v94_279 (.int .i64 0)) fun v95_280 => (k1 (mun .not v95_280) fun v96_281 => (kb v96_281 (kc (call base 115 [x0, x1, x2, v53_10, x4] m) (fun v103_282 m => (ih x0 v103_282 x2 v46_8 x4 x10 x11 m)) (fun v m => kp v m)) (kc (call base 116 [x0, x1, x2, v53_10, x4] m) (fun v111_283 m => (k1 (mextract 0 v111_283) fun v112_284 => (k1 (mextract 1 v111_283) fun v113_285 => (k1 (mbin E .sub 3 v112_284 x1) fun v117_286 => (k1 (mbin E .sub 3 x2 v112_284) fun v120_287 => (k1 (mbin E .quo 3 v23_1 (.int .i64 8)) fun v122_288 => (k1 (mbin E .lss 3 v117_286 v120_287) fun v125_289 => (kb v125_289 (k1 (mbin E .geq 3 v117_286 v122_288) fun v128_290 => (kc (call base 95 [x0, x1, v112_284, v46_8, x4] m) (fun v134_291 m => (k1 (mbin E .add 3 v112_284 (.int .i64 1)) fun v136_292 => (ih x0 v136_292 x2 v46_8 x4 v128_290 v113_285 m))) (fun v m => kp v m))) (k1 (mbin E .geq 3 v120_287 v122_288) fun v139_293 => (k1 (mbin E .add 3 v112_284 (.int .i64 1)) fun v142_294 => (kc (call base 95 [x0, v142_294, x2, v46_8, x4] m) (fun v146_295 m => (ih x0 x1 v112_284 v46_8 x4 v139_293 v113_285 m)) (fun v m => kp v m)))))))))))) (fun v m => kp v m)))))) (fun _ _ => none))))))) (kc (call base 116 [x0, x1, x2, v53_10, x4] m) (fun v111_296 m => (k1 (mextract 0 v111_296) fun v112_297 => (k1 (mextract 1 v111_296) fun v113_298 => (k1 (mbin E .sub 3 v112_297 x1) fun v117_299 => (k1 (mbin E .sub 3 x2 v112_297) fun v120_300 => (k1 (mbin E .quo 3 v23_1 (.int .i64 8)) fun v122_301 => (k1 (mbin E .lss 3 v117_299 v120_300) fun v125_302 => (kb v125_302 (k1 (mbin E .geq 3 v117_299 v122_301) fun v128_303 => (kc (call base 95 [x0, x1, v112_297, v46_8, x4] m) (fun v134_304 m => (k1 (mbin E .add 3 v112_297 (.int .i64 1)) fun v136_305 => (ih x0 v136_305 x2 v46_8 x4 v128_303 v113_298 m))) (fun v m => kp v m))) (k1 (mbin E .geq 3 v120_300 v122_301) fun v139_306 => (k1 (mbin E .add 3 v112_297 (.int .i64 1)) fun v142_307 => (kc (call base 95 [x0, v142_307, x2, v46_8, x4] m) (fun v146_308 m => (ih x0 x1 v112_297 v46_8 x4 v139_306 v113_298 m)) (fun v m => kp v m)))))))))))) (fun v m => kp v m)))))))))) (fun v m => kp v m)))) (fun v m => kp v m)) (kc (call base 112 [x0, x1, x2, x4] m) (fun v52_309 m => (k1 (mextract 0 v52_309) fun v53_310 => (k1 (mextract 1 v52_309) fun v54_311 => (k1 (mbin E .eql 142 v54_311 (.int .i64 2)) fun v56_312 => (kb v56_312 (kc (call base 113 [x0, x1, x2, x4] m) (fun v61_313 m => (k1 (mbin E .sub 3 x2 (.int .i64 1)) fun v63_314 => (k1 (mbin E .sub 3 v53_310 x1) fun v66_315 => (k1 (mbin E .sub 3 v63_314 v66_315) fun v67_316 => (kb x10 (kb x11 (k1 (mbin E .eql 142 (.int .i64 1) (.int .i64 1)) fun v74_317 => (kb v74_317 (kc (call base 114 [x0, x1, x2, x4] m) (fun v80_318 m => (kb v80_318 (kr m) (k1 (mbin E .gtr 3 x1 (.int .i64 0)) fun v82_319 => (kb v82_319 (k1 (mbin E .sub 3 x1 (.int .i64 1)) fun v87_320 => (k1 (mindexAddr E.P 33 x0 v87_320) fun v88_321 => (k1 (xload E.P m 68 v88_321) fun v89_322 => (k1 (mindexAddr E.P 33 x0 v67_316) fun v92_323 => (k1 (xload E.P m 68 v92_323) fun v93_324 => (kc (kB m (kv call m.length x4 [v89_322, v93_324] m)) (fun v94_325 m => (k1 (mbin E .lss 3 v94_325 (.int .i64 0)) fun v95_326 => (k1 (mun .not v95_326) fun v96_327 => (kb v96_327 (kc (call base 115 [x0, x1, x2, v67_316, x4] m) (fun v103_328 m => (ih x0 v103_328 x2 x3 x4 x10 x11 m)) (fun v m => kp v m)) (kc (call base 116 [x0, x1, x2, v67_316, x4] m) (fun v111_329 m => (k1 (mextract 0 v111_329) fun v112_330 => (k1 (mextract 1 v111_329) fun v113_331 => (k1 (mbin E .sub 3 v112_330 x1) fun v117_332 => (k1 (mbin E .sub 3 x2 v112_330) fun v120_333 => (k1 (mbin E .quo 3 v23_1 (.int .i64 8)) fun v122_334 => (k1 (mbin E .lss 3 v117_332 v120_333) fun v125_335 => (kb v125_335 (k1 (mbin E .geq 3 v117_332 v122_334) fun v128_336 => (kc (call base 95 [x0, x1, v112_330, x3, x4] m) (fun v134_337 m => (k1 (mbin E .add 3 v112_330 (.int .i64 1)) fun v136_338 => (ih x0 v136_338 x2 x3 x4 v128_336 v113_331 m))) (fun v m => kp v m))) (k1 (mbin E .geq 3 v120_333 v122_334) fun v139_339 => (k1 (mbin E .add 3 v112_330 (.int .i64 1)) fun v142_340 => (kc (call base 95 [x0, v142_340, x2, x3, x4] m) (fun v146_341 m => (ih x0 x1 v112_330 x3 x4 v139_339 v113_331 m)) (fun v m => kp v m)))))))))))) (fun v m => kp v m)))))) (fun _ _ => none))))))) (kc (call base 116 [x0, x1, x2, v67_316, x4] m) (fun v111_342 m => (k1 (mextract 0 v111_342) fun v112_343 => (k1 (mextract 1 v111_342) fun v113_344 => (k1 (mbin E .sub 3 v112_343 x1) fun v117_345 => (k1 (mbin E .sub 3 x2 v112_343) fun v120_346 => (k1 (mbin E .quo 3 v23_1 (.int .i64 8)) fun v122_347 => (k1 (mbin E .lss 3 v117_345 v120_346) fun v125_348 => (kb v125_348 (k1 (mbin E .geq 3 v117_345 v122_347) fun v128_349 => (kc (call base 95 [x0, x1, v112_343, x3, x4] m) (fun v134_350 m => (k1 (mbin E .add 3 v112_343 (.int .i64 1)) fun v136_351 => (ih x0 v136_351 x2 x3 x4 v128_349 v113_344 m))) (fun v m => kp v m))) (k1 (mbin E .geq 3 v120_346 v122_347) fun v139_352 => (k1 (mbin E .add 3 v112_343 (.int .i64 1)) fun v142_353 => (kc (call base 95 [x0, v142_353, x2, x3, x4] m) (fun v146_354 m => (ih x0 x1 v112_343 x3 x4 v139_352 v113_344 m)) (fun v m => kp v m)))))))))))) (fun v m => kp v m)))))) (fun v m => kp v m)) (k1 (mbin E .gtr 3 x1 (.int .i64 0)) fun v82_355 => (kb v82_355 (k1 (mbin E .sub 3 x1 (.int .i64 1)) fun v87_356 => (k1 (mindexAddr E.P 33 x0 v87_356) fun v88_357 => (k1 (xload E.P m 68 v88_357) fun v89_358 => (k1 (mindexAddr E.P 33 x0 v67_316) fun v92_359 => (k1 (xload E.P m 68 v92_359) fun v93_360 => (kc (kB m (kv call m.length x4 [v89_358, v93_360] m)) (fun v94_361 m => (k1 (mbin E .lss 3 v94_361 (.int .i64 0)) fun v95_362 => (k1 (mun .not v95_362) fun v96_363 => (kb v96_363 (kc (call base 115 [x0, x1, x2, v67_316, x4] m) (fun v103_364 m => (ih x0 v103_364 x2 x3 x4 x10 x11 m)) (fun v m => kp v m)) (kc (call base 116 [x0, x1, x2, v67_316, x4] m) (fun v111_365 m => (k1 (mextract 0 v111_365) fun v112_366 => (k1 (mextract 1 v111_365) fun v113_367 => (k1 (mbin E .sub 3 v112_366 x1) fun v117_368 => (k1 (mbin E .sub 3 x2 v112_366) fun v120_369 => (k1 (mbin E .quo 3 v23_1 (.int .i64 8)) fun v122_370 => (k1 (mbin E .lss 3 v117_368 v120_369) fun v125_371 => (kb v125_371 (k1 (mbin E .geq 3 v117_368 v122_370) fun v128_372 => (kc (call base 95 [x0, x1, v112_366, x3, x4] m) (fun v134_373 m => (k1 (mbin E .add 3 v112_366 (.int .i64 1)) fun v136_374 => (ih x0 v136_374 x2 x3 x4 v128_372 v113_367 m))) (fun v m => kp v m))) (k1 (mbin E .geq 3 v120_369 v122_370) fun v139_375 => (k1 (mbin E .add 3 v112_366 (.int .i64 1)) fun v142_376 => (kc (call base 95 [x0, v142_376, x2, x3, x4] m) (fun v146_377 m => (ih x0 x1 v112_366 x3 x4 v139_375 v113_367 m)) (fun v m => kp v m)))))))))))) (fun v m => kp v m)))))) (fun _ _ => none))))))) (kc (call base 116 [x0, x1, x2, v67_316, x4] m) (fun v111_378 m => (k1 (mextract 0 v111_378) fun v112_379 => (k1 (mextract 1 v111_378) fun v113_380 => (k1 (mbin E .sub 3 v112_379 x1) fun v117_381 => (k1 (mbin E .sub 3 x2 v112_379) fun v120_382 => (k1 (mbin E .quo 3 v23_1 (.int .i64 8)) fun v122_383 => (k1 (mbin E .lss 3 v117_381 v120_382) fun v125_384 => (kb v125_384 (k1 (mbin E .geq 3 v117_381 v122_383) fun v128_385 => (kc (call base 95 [x0, x1, v112_379, x3, x4] m) (fun v134_386 m => (k1 (mbin E .add 3 v112_379 (.int .i64 1)) fun v136_387 => (ih x0 v136_387 x2 x3 x4 v128_385 v113_380 m))) (fun v m => kp v m))) (k1 (mbin E .geq 3 v120_382 v122_383) fun v139_388 => (k1 (mbin E .add 3 v112_379 (.int .i64 1)) fun v142_389 => (kc (call base 95 [x0, v142_389, x2, x3, x4] m) (fun v146_390 m => (ih x0 x1 v112_379 x3 x4 v139_388 v113_380 m)) (fun v m => kp v m)))))))))))) (fun v m => kp v m)))))) (k1 (mbin E .gtr 3 x1 (.int .i64 0)) fun v82_391 => (kb v82_391 (k1 (mbin E .sub 3 x1 (.int .i64 1)) fun v87_392 => (k1 (mindexAddr E.P 33 x0 v87_392) fun v88_393 => (k1 (xload E.P m 68 v88_393) fun v89_394 => (k1 (mindexAddr E.P 33 x0 v67_316) fun v92_395 => (k1 (xload E.P m 68 v92_395) fun v93_396 => (kc (kB m (kv call m.length x4 [v89_394, v93_396] m)) (fun v94_397 m => (k1 (mbin E .lss 3 v94_397 (.int .i64 0)) fun v95_398 => (k1 (mun .not v95_398) fun v96_399 => (kb v96_399 (kc (call base 115 [x0, x1, x2, v67_316, x4] m) (fun v103_400 m => (ih x0 v103_400 x2 x3 x4 x10 x11 m)) (fun v m => kp v m)) (kc (call base 116 [x0, x1, x2, v67_316, x4] m) (fun v111_401 m => (k1 (mextract 0 v111_401) fun v112_402 => (k1 (mextract 1 v111_401) fun v113_403 => (k1 (mbin E .sub 3 v112_402 x1) fun v117_404 => (k1 (mbin E .sub 3 x2 v112_402) fun v120_405 => (k1 (mbin E .quo 3 v23_1 (.int .i64 8)) fun v122_406 => (k1 (mbin E .lss 3 v117_404 v120_405) fun v125_407 => (kb v125_407 (k1 (mbin E .geq 3 v117_404 v122_406) fun v128_408 => (kc (call base 95 [x0, x1, v112_402, x3, x4] m) (fun v134_409 m => (k1 (mbin E .add 3 v112_402 (.int .i64 1)) fun v136_410 => (ih x0 v136_410 x2 x3 x4 v128_408 v113_403 m))) (fun v m => kp v m))) (k1 (mbin E .geq 3 v120_405 v122_406) fun v139_411 => (k1 (mbin E .add 3 v112_402 (.int .i64 1)) fun v142_412 => (kc (call base 95 [x0, v142_412, x2, x3, x4] m) (fun v146_413 m => (ih x0 x1 v112_402 x3 x4 v139_411 v113_403 m)) (fun v m => kp v m)))))))))))) (fun v m => kp v m)))))) (fun _ _ => none))))))) (kc (call base 116 [x0, x1, x2, v67_316, x4] m) (fun v111_414 m => (k1 (mextract 0 v111_414) fun v112_415 => (k1 (mextract 1 v111_414) fun v113_416 => (k1 (mbin E .sub 3 v112_415 x1) fun v117_417 => (k1 (mbin E .sub 3 x2 v112_415) fun v120_418 => (k1 (mbin E .quo 3 v23_1 (.int .i64 8)) fun v122_419 => (k1 (mbin E .lss 3 v117_417 v120_418) fun v125_420 => (kb v125_420 (k1 (mbin E .geq 3 v117_417 v122_419) fun v128_421 => (kc (call base 95 [x0, x1, v112_415, x3, x4] m) (fun v134_422 m => (k1 (mbin E .add 3 v112_415 (.int .i64 1)) fun v136_423 => (ih x0 v136_423 x2 x3 x4 v128_421 v113_416 m))) (fun v m => kp v m))) (k1 (mbin E .geq 3 v120_418 v122_419) fun v139_424 => (k1 (mbin E .add 3 v112_415 (.int .i64 1)) fun v142_425 => (kc (call base 95 [x0, v142_425, x2, x3, x4] m) (fun v146_426 m => (ih x0 x1 v112_415 x3 x4 v139_424 v113_416 m)) (fun v m => kp v m)))))))))))) (fun v m => kp v m))))) (k1 (mbin E .gtr 3 x1 (.int .i64 0)) fun v82_427 => (kb v82_427 (k1 (mbin E .sub 3 x1 (.int .i64 1)) fun v87_428 => (k1 (mindexAddr E.P 33 x0 v87_428) fun v88_429 => (k1 (xload E.P m 68 v88_429) fun v89_430 => (k1 (mindexAddr E.P 33 x0 v67_316) fun v92_431 => (k1 (xload E.P m 68 v92_431) fun v93_432 => (kc (kB m (kv call m.length x4 [v89_430, v93_432] m)) (fun v94_433 m => (k1 (mbin E .lss 3 v94_433 (.int .i64 0)) fun v95_434 => (k1 (mun .not v95_434) fun v96_435 => (kb v96_435 (kc (call base 115 [x0, x1, x2, v67_316, x4] m) (fun v103_436 m => (ih x0 v103_436 x2 x3 x4 x10 x11 m)) (fun v m => kp v m)) (kc (call base 116 [x0, x1, x2, v67_316, x4] m) (fun v111_437 m => (k1 (mextract 0 v111_437) fun v112_438 => (k1 (mextract 1 v111_437) fun v113_439 => (k1 (mbin E .sub 3 v112_438 x1) fun v117_440 => (k1 (mbin E .sub 3 x2 v112_438) fun v120_441 => (k1 (mbin E .quo 3 v23_1 (.int .i64 8)) fun v122_442 => (k1 (mbin E .lss 3 v117_440 v120_441) fun v125_443 => (kb v125_443 (k1 (mbin E .geq 3 v117_440 v122_442) fun v128_444 => (kc (call base 95 [x0, x1, v112_438, x3, x4] m) (fun v134_445 m => (k1 (mbin E .add 3 v112_438 (.int .i64 1)) fun v136_446 => (ih x0 v136_446 x2 x3 x4 v128_444 v113_439 m))) (fun v m => kp v m))) (k1 (mbin E .geq 3 v120_441 v122_442) fun v139_447 => (k1 (mbin E .add 3 v112_438 (.int .i64 1)) fun v142_448 => (kc (call base 95 [x0, v142_448, x2, x3, x4] m) (fun v146_449 m => (ih x0 x1 v112_438 x3 x4 v139_447 v113_439 m)) (fun v m => kp v m)))))))))))) (fun v m => kp v m)))))) (fun _ _ => none))))))) (kc (call base 116 [x0, x1, x2, v67_316, x4] m) (fun v111_450 m => (k1 (mextract 0 v111_450) fun v112_451 => (k1 (mextract 1 v111_450) fun v113_452 => (k1 (mbin E .sub 3 v112_451 x1) fun v117_453 => (k1 (mbin E .sub 3 x2 v112_451) fun v120_454 => (k1 (mbin E .quo 3 v23_1 (.int .i64 8)) fun v122_455 => (k1 (mbin E .lss 3 v117_453 v120_454) fun v125_456 => (kb v125_456 (k1 (mbin E .geq 3 v117_453 v122_455) fun v128_457 => (kc (call base 95 [x0, x1, v112_451, x3, x4] m) (fun v134_458 m => (k1 (mbin E .add 3 v112_451 (.int .i64 1)) fun v136_459 => (ih x0 v136_459 x2 x3 x4 v128_457 v113_452 m))) (fun v m => kp v m))) (k1 (mbin E .geq 3 v120_454 v122_455) fun v139_460 => (k1 (mbin E .add 3 v112_451 (.int .i64 1)) fun v142_461 => (kc (call base 95 [x0, v142_461, x2, x3, x4] m) (fun v146_462 m => (ih x0 x1 v112_451 x3 x4 v139_460 v113_452 m)) (fun v m => kp v m)))))))))))) (fun v m => kp v m))))))))) (fun v m => kp v m)) (kb x10 (kb x11 (k1 (mbin E .eql 142 v54_311 (.int .i64 1)) fun v74_463 => (kb v74_463 (kc (call base 114 [x0, x1, x2, x4] m) (fun v80_464 m => (kb v80_464 (kr m) (k1 (mbin E .gtr 3 x1 (.int .i64 0)) fun v82_465 => (kb v82_465 (k1 (mbin E .sub 3 x1 (.int .i64 1)) fun v87_466 => (k1 (mindexAddr E.P 33 x0 v87_466) fun v88_467 => (k1 (xload E.P m 68 v88_467) fun v89_468 => (k1 (mindexAddr E.P 33 x0 v53_310) fun v92_469 => (k1 (xload E.P m 68 v92_469) fun v93_470 => (kc (kB m (kv call m.length x4 [v89_468, v93_470] m)) (fun v94_471 m => (k1 (mbin E .lss 3 v94_471 (.int .i64 0)) fun v95_472 => (k1 (mun .not v95_472) fun v96_473 => (kb v96_473 (kc (call base 115 [x0, x1, x2, v53_310, x4] m) (fun v103_474 m => (ih x0 v103_474 x2 x3 x4 x10 x11 m)) (fun v m => kp v m)) (kc (call base 116 [x0, x1, x2, v53_310, x4] m) (fun v111_475 m => (k1 (mextract 0 v111_475) fun v112_476 => (k1 (mextract 1 v111_475) fun v113_477 => (k1 (mbin E .sub 3 v112_476 x1) fun v117_478 => (k1 (mbin E .sub 3 x2 v112_476) fun v120_479 => (k1 (mbin E .quo 3 v23_1 (.int .i64 8)) fun v122_480 => (k1 (mbin E .lss 3 v117_478 v120_479) fun v125_481 => (kb v125_481 (k1 (mbin E .geq 3 v117_478 v122_480) fun v128_482 => (kc (call base 95 [x0, x1, v112_476, x3, x4] m) (fun v134_483 m => (k1 (mbin E .add 3 v112_476 (.int .i64 1)) fun v136_484 => (ih x0 v136_484 x2 x3 x4 v128_482 v113_477 m))) (fun v m => kp v m))) (k1 (mbin E .geq 3 v120_479 v122_480) fun v139_485 => (k1 (mbin E .add 3 v112_476 (.int .i64 1)) fun v142_486 => (kc (call base 95 [x0, v142_486, x2, x3, x4] m) (fun v146_487 m => (ih x0 x1 v112_476 x3 x4 v139_485 v113_477 m)) (fun v m => kp v m)))))))))))) (fun v m => kp v m)))))) (fun _ _ => none))))))) (kc (call base 116 [x0, x1, x2, v53_310, x4] m) (fun v111_488 m => (k1 (mextract 0 v111_488) fun v112_489 => (k1 (mextract 1 v111_488) fun v113_490 => (k1 (mbin E .sub 3 v112_489 x1) fun v117_491 => (k1 (mbin E .sub 3 x2 v112_489) fun v120_492 => (k1 (mbin E .quo 3 v23_1 (.int .i64 8)) fun v122_493 => (k1 (mbin E .lss 3 v117_491 v120_492) fun v125_494 => (kb v125_494 (k1 (mbin E .geq 3 v117_491 v122_493) fun v128_495 => (kc (call base 95 [x0, x1, v112_489, x3, x4] m) (fun v134_496 m => (k1 (mbin E .add 3 v112_489 (.int .i64 1)) fun v136_497 => (ih x0 v136_497 x2 x3 x4 v128_495 v113_490 m))) (fun v m => kp v m))) (k1 (mbin E .geq 3 v120_492 v122_493) fun v139_498 => (k1 (mbin E .add 3 v112_489 (.int .i64 1)) fun v142_499 => (kc (call base 95 [x0, v142_499, x2, x3, x4] m) (fun v146_500 m => (ih x0 x1 v112_489 x3 x4 v139_498 v113_490 m)) (fun v m => kp v m)))))))))))) (fun v m => kp v m)))))) (fun v m => kp v m)) (k1 (mbin E .gtr 3 x1 (.int .i64 0)) fun v82_501 => (kb v82_501 (k1 (mbin E .sub 3 x1 (.int .i64 1)) fun v87_502 => (k1 (mindexAddr E.P 33 x0 v87_502) fun v88_503 => (k1 (xload E.P m 68 v88_503) fun v89_504 => (k1 (mindexAddr E.P 33 x0 v53_310) fun v92_505 => (k1 (xload E.P m 68 v92_505) fun v93_506 => (kc (kB m (kv call m.length x4 [v89_504, v93_506] m)) (fun v94_507 m => (k1 (mbin E .lss 3 v94_507 (.int .i64 0)) fun v95_508 => (k1 (mun .not v95_508) fun v96_509 => (kb v96_509 (kc (call base 115 [x0, x1, x2, v53_310, x4] m) (fun v103_510 m => (ih x0 v103_510 x2 x3 x4 x10 x11 m)) (fun v m => kp v m)) (kc (call base 116 [x0, x1, x2, v53_310, x4] m) (fun v111_511 m => (k1 (mextract 0 v111_511) fun v112_512 => (k1 (mextract 1 v111_511) fun v113_513 => (k1 (mbin E .sub 3 v112_512 x1) fun v117_514 => (k1 (mbin E .sub 3 x2 v112_512) fun v120_515 => (k1 (mbin E .quo 3 v23_1 (.int .i64 8)) fun v122_516 => (k1 (mbin E .lss 3 v117_514 v120_515) fun v125_517 => (kb v125_517 (k1 (mbin E .geq 3 v117_514 v122_516) fun v128_518 => (kc (call base 95 [x0, x1, v112_512, x3, x4] m) (fun v134_519 m => (k1 (mbin E .add 3 v112_512 (.int .i64 1)) fun v136_520 => (ih x0 v136_520 x2 x3 x4 v128_518 v113_513 m))) (fun v m => kp v m))) (k1 (mbin E .geq 3 v120_515 v122_516) fun v139_521 => (k1 (mbin E .add 3 v112_512 (.int .i64 1)) fun v142_522 => (kc (call base 95 [x0, v142_522, x2, x3, x4] m) (fun v146_523 m => (ih x0 x1 v112_512 x3 x4 v139_521 v113_513 m)) (fun v m => kp v m)))))))))))) (fun v m => kp v m)))))) (fun _ _ => none))))))) (kc (call base 116 [x0, x1, x2, v53_310, x4] m) (fun v111_524 m => (k1 (mextract 0 v111_524) fun v112_525 => (k1 (mextract 1 v111_524) fun v113_526 => (k1 (mbin E .sub 3 v112_525 x1) fun v117_527 => (k1 (mbin E .sub 3 x2 v112_525) fun v120_528 => (k1 (mbin E .quo 3 v23_1 (.int .i64 8)) fun v122_529 => (k1 (mbin E .lss 3 v117_527 v120_528) fun v125_530 => (kb v125_530 (k1 (mbin E .geq 3 v117_527 v122_529) fun v128_531 => (kc (call base 95 [x0, x1, v112_525, x3, x4] m) (fun v134_532 m => (k1 (mbin E .add 3 v112_525 (.int .i64 1)) fun v136_533 => (ih x0 v136_533 x2 x3 x4 v128_531 v113_526 m))) (fun v m => kp v m))) (k1 (mbin E .geq 3 v120_528 v122_529) fun v139_534 => (k1 (mbin E .add 3 v112_525 (.int .i64 1)) fun v142_535 => (kc (call base 95 [x0, v142_535, x2, x3, x4] m) (fun v146_536 m => (ih x0 x1 v112_525 x3 x4 v139_534 v113_526 m)) (fun v m => kp v m)))))))))))) (fun v m => kp v m)))))) (k1 (mbin E .gtr 3 x1 (.int .i64 0)) fun v82_537 => (kb v82_537 (k1 (mbin E .sub 3 x1 (.int .i64 1)) fun v87_538 => (k1 (mindexAddr E.P 33 x0 v87_538) fun v88_539 => (k1 (xload E.P m 68 v88_539) fun v89_540 => (k1 (mindexAddr E.P 33 x0 v53_310) fun v92_541 => (k1 (xload E.P m 68 v92_541) fun v93_542 => (kc (kB m (kv call m.length x4 [v89_540, v93_542] m)) (fun v94_543 m => (k1 (mbin E .lss 3 v94_543 (.int .i64 0)) fun v95_544 => (k1 (mun .not v95_544) fun v96_545 => (kb v96_545 (kc (call base 115 [x0, x1, x2, v53_310, x4] m) (fun v103_546 m => (ih x0 v103_546 x2 x3 x4 x10 x11 m)) (fun v m => kp v m)) (kc (call base 116 [x0, x1, x2, v53_310, x4] m) (fun v111_547 m => (k1 (mextract 0 v111_547) fun v112_548 => (k1 (mextract 1 v111_547) fun v113_549 => (k1 (mbin E .sub 3 v112_548 x1) fun v117_550 => (k1 (mbin E .sub 3 x2 v112_548) fun v120_551 => (k1 (mbin E .quo 3 v23_1 (.int .i64 8)) fun v122_552 => (k1 (mbin E .lss 3 v117_550 v120_551) fun v125_553 => (kb v125_553 (k1 (mbin E .geq 3 v117_550 v122_552) fun v128_554 => (kc (call base 95 [x0, x1, v112_548, x3, x4] m) (fun v134_555 m => (k1 (mbin E .add 3 v112_548 (.int .i64 1)) fun v136_556 => (ih x0 v136_556 x2 x3 x4 v128_554 v113_549 m))) (fun v m => kp v m))) (k1 (mbin E .geq 3 v120_551 v122_552) fun v139_557 => (k1 (mbin E .add 3 v112_548 (.int .i64 1)) fun v142_558 => (kc (call base 95 [x0, v142_558, x2, x3, x4] m) (fun v146_559 m => (ih x0 x1 v112_548 x3 x4 v139_557 v113_549 m)) (fun v m => kp v m)))))))))))) (fun v m => kp v m)))))) (fun _ _ => none))))))) (kc (call base 116 [x0, x1, x2, v53_310, x4] m) (fun v111_560 m => (k1 (mextract 0 v111_560) fun v112_561 => (k1 (mextract 1 v111_560) fun v113_562 => (k1 (mbin E .sub 3 v112_561 x1) fun v117_563 => (k1 (mbin E .sub 3 x2 v112_561) fun v120_564 => (k1 (mbin E .quo 3 v23_1 (.int .i64 8)) fun v122_565 => (k1 (mbin E .lss 3 v117_563 v120_564) fun v125_566 => (kb v125_566 (k1 (mbin E .geq 3 v117_563 v122_565) fun v128_567 => (kc (call base 95 [x0, x1, v112_561, x3, x4] m) (fun v134_568 m => (k1 (mbin E .add 3 v112_561 (.int .i64 1)) fun v136_569 => (ih x0 v136_569 x2 x3 x4 v128_567 v113_562 m))) (fun v m => kp v m))) (k1 (mbin E .geq 3 v120_564 v122_565) fun v139_570 => (k1 (mbin E .add 3 v112_561 (.int .i64 1)) fun v142_571 => (kc (call base 95 [x0, v142_571, x2, x3, x4] m) (fun v146_572 m => (ih x0 x1 v112_561 x3 x4 v139_570 v113_562 m)) (fun v m => kp v m)))))))))))) (fun v m => kp v m))))) (k1 (mbin E .gtr 3 x1 (.int .i64 0)) fun v82_573 => (kb v82_573 (k1 (mbin E .sub 3 x1 (.int .i64 1)) fun v87_574 => (k1 (mindexAddr E.P 33 x0 v87_574) fun v88_575 => (k1 (xload E.P m 68 v88_575) fun v89_576 => (k1 (mindexAddr E.P 33 x0 v53_310) fun v92_577 => (k1 (xload E.P m 68 v92_577) fun v93_578 => (kc (kB m (kv call m.length x4 [v89_576, v93_578] m)) (fun v94_579 m => (k1 (mbin E .lss 3 v94_579 (.int .i64 0)) fun v95_580 => (k1 (mun .not v95_580) fun v96_581 => (kb v96_581 (kc (call base 115 [x0, x1, x2, v53_310, x4] m) (fun v103_582 m => (ih x0 v103_582 x2 x3 x4 x10 x11 m)) (fun v m => kp v m)) (kc (call base 116 [x0, x1, x2, v53_310, x4] m) (fun v111_583 m => (k1 (mextract 0 v111_583) fun v112_584 => (k1 (mextract 1 v111_583) fun v113_585 => (k1 (mbin E .sub 3 v112_584 x1) fun v117_586 => (k1 (mbin E .sub 3 x2 v112_584) fun v120_587 => (k1 (mbin E .quo 3 v23_1 (.int .i64 8)) fun v122_588 => (k1 (mbin E .lss 3 v117_586 v120_587) fun v125_589 => (kb v125_589 (k1 (mbin E .geq 3 v117_586 v122_588) fun v128_590 => (kc (call base 95 [x0, x1, v112_584, x3, x4] m) (fun v134_591 m => (k1 (mbin E .add 3 v112_584 (.int .i64 1)) fun v136_592 => (ih x0 v136_592 x2 x3 x4 v128_590 v113_585 m))) (fun v m => kp v m))) (k1 (mbin E .geq 3 v120_587 v122_588) fun v139_593 => (k1 (mbin E .add 3 v112_584 (.int .i64 1)) fun v142_594 => (kc (call base 95 [x0, v142_594, x2, x3, x4] m) (fun v146_595 m => (ih x0 x1 v112_584 x3 x4 v139_593 v113_585 m)) (fun v m => kp v m)))))))))))) (fun v m => kp v m)))))) (fun _ _ => none))))))) (kc (call base 116 [x0, x1, x2, v53_310, x4] m) (fun v111_596 m => (k1 (mextract 0 v111_596) fun v112_597 => (k1 (mextract 1 v111_596) fun v113_598 => (k1 (mbin E .sub 3 v112_597 x1) fun v117_599 => (k1 (mbin E .sub 3 x2 v112_597) fun v120_600 => (k1 (mbin E .quo 3 v23_1 (.int .i64 8)) fun v122_601 => (k1 (mbin E .lss 3 v117_599 v120_600) fun v125_602 => (kb v125_602 (k1 (mbin E .geq 3 v117_599 v122_601) fun v128_603 => (kc (call base 95 [x0, x1, v112_597, x3, x4] m) (fun v134_604 m => (k1 (mbin E .add 3 v112_597 (.int .i64 1)) fun v136_605 => (ih x0 v136_605 x2 x3 x4 v128_603 v113_598 m))) (fun v m => kp v m))) (k1 (mbin E .geq 3 v120_600 v122_601) fun v139_606 => (k1 (mbin E .add 3 v112_597 (.int .i64 1)) fun v142_607 => (kc (call base 95 [x0, v142_607, x2, x3, x4] m) (fun v146_608 m => (ih x0 x1 v112_597 x3 x4 v139_606 v113_598 m)) (fun v m => kp v m)))))))))))) (fun v m => kp v m)))))))))) (fun v m => kp v m)))))))))) n
noncomputable def r95 (call : CallF) (fuel base : Nat) (x0 : Value) (x1 : Value) (x2 : Value) (x3 : Value) (x4 : Value) (m : M) : Res2 :=
  (r95_L0 call fuel base (fun v m => some (.pan v, m)) (fun m => (some (.ret (.tuple #[]), m))) fuel x0 x1 x2 x3 x4 (.bool true) (.bool true) m)
def keep95 : Keep := { region := fun i => ([[0, 1, 2, 3, 4, 10], [0, 1, 2, 3, 4, 10, 11], [0, 1, 2, 3, 4, 10, 11, 12], [0, 1, 2, 3, 4, 10, 11, 12, 25], [], [0, 1, 2, 3, 4, 10, 11, 12, 32], [], [0, 1, 2, 3, 4, 10, 11, 12, 39], [0, 1, 2, 3, 4, 10, 11, 12], [0, 1, 2, 3, 4, 10, 11, 12], [0, 1, 2, 3, 4, 10, 11, 12, 13, 14], [0, 1, 2, 3, 4, 10, 11, 12, 13, 14, 56], [0, 1, 2, 3, 4, 10, 11, 12, 13], [0, 1, 2, 3, 4, 10, 11, 12, 13], [0, 1, 2, 3, 4, 10, 11, 12, 13, 14], [0, 1, 2, 3, 4, 10, 11, 12, 13, 75], [0, 1, 2, 3, 4, 10, 11, 12, 13, 80], [0, 1, 2, 3, 4, 10, 11, 12, 13, 97], [0, 2, 3, 4, 10, 11, 15], [0, 1, 2, 3, 4, 10, 11], [0, 1, 2, 3, 4, 12, 16, 17], [0, 1, 2, 3, 4, 11, 12, 16], [0, 1, 2, 3, 4, 11, 12, 16, 18, 19], [0, 1, 2, 3, 4, 11, 16, 18, 19, 20], [0, 1, 2, 3, 4, 11, 16, 18, 19, 20, 125], [0, 1, 2, 3, 4, 10, 11, 16], [0, 2, 3, 4, 10, 11, 16], [0, 1, 2, 3, 4, 10, 11], [0, 1, 2, 3, 4, 10, 11, 16], [0, 1, 3, 4, 10, 11, 16], [0, 1, 2, 3, 4, 10, 11]] : List (List Nat))[i]?, exit := fun i => ([[], [0, 1, 2, 3, 4, 10, 11]] : List (List Nat))[i]?, ret := some [] }
noncomputable def r95_L0_R (call : CallF) (fuel base n : Nat) (vs : List Value) (m : M) (K : KT) : Res2 := match vs with
  | [x0, x1, x2, x3, x4, x10, x11] => r95_L0 call fuel base (fun v m => K (.pan v) { n := 148, l := [] } m) (fun m => K .ret { n := 148, l := [] } m) n x0 x1 x2 x3 x4 x10 x11 m
  | _ => none
noncomputable def lp95 (call : CallF) (fuel base : Nat) : Lp := lpsel [(0, fun T m K => kslots 148 [0, 1, 2, 3, 4, 10, 11] T fun vs => r95_L0_R call fuel base fuel vs m K)]
noncomputable def c95 : Code := Tryz.f95.body.getD .skip
theorem r95_L0_lk (call : CallF) (fuel base : Nat) : LoopsOk E call (lp95 call fuel base) fuel base 0 (loopB (blockB (seqR (seqR c95)))) = (And True (And (And True (And (And True True) True)) (And (And True (And (And True True) True)) (And (And True (And (And True True) True)) (And True (And (And True (And (And True (And True True)) True)) (And (And True (And (And True (And True True)) True)) (And (And True (And (And True (And True True)) True)) (And True (And True (And True (And True (And True (And (And True (And True True)) (And True (And True True)))))))))))))))) := by kernel_rfl
theorem r95_L0_ok (call : CallF) (fuel base : Nat) : LpOk E call (lp95 call fuel base) fuel base 0 (loopB (blockB (seqR (seqR c95)))) := by
  refine loop_ok (kp := keep95) (hb := Eq.mpr (r95_L0_lk call fuel base) (And.intro trivial (And.intro (And.intro trivial (And.intro (And.intro trivial trivial) trivial)) (And.intro (And.intro trivial (And.intro (And.intro trivial trivial) trivial)) (And.intro (And.intro trivial (And.intro (And.intro trivial trivial) trivial)) (And.intro trivial (And.intro (And.intro trivial (And.intro (And.intro trivial (And.intro trivial trivial)) trivial)) (And.intro (And.intro trivial (And.intro (And.intro trivial (And.intro trivial trivial)) trivial)) (And.intro (And.intro trivial (And.intro (And.intro trivial (And.intro trivial trivial)) trivial)) (And.intro trivial (And.intro trivial (And.intro trivial (And.intro trivial (And.intro trivial (And.intro (And.intro trivial (And.intro trivial trivial)) (And.intro trivial (And.intro trivial trivial))))))))))))))))) 148 [0, 1, 2, 3, 4, 10, 11] (fun n vs m K => r95_L0_R call fuel base n vs m K) ?_ ?_ (fun _ _ _ => rfl)
  · intro vs m K
    unfold r95_L0_R
    split <;> rfl
  · intro n vs m K hl
    match vs, hl with
    | [x0, x1, x2, x3, x4, x10, x11], _ => show _ = _; kernel_rfl
theorem r95_eq (call : CallF) (fuel base : Nat) (x0 : Value) (x1 : Value) (x2 : Value) (x3 : Value) (x4 : Value) (m : M) : kbody E call keep95 (lp95 call fuel base) base Tryz.f95 [x0, x1, x2, x3, x4] m = r95 call fuel base x0 x1 x2 x3 x4 m := by
  kernel_rfl
noncomputable def rf95 : RF := fun call fuel base args m => match args with
  | [x0, x1, x2, x3, x4] => r95 call fuel base x0 x1 x2 x3 x4 m
  | _ => none
theorem r95_lk (call : CallF) (fuel base : Nat) : LoopsOk E call (lp95 call fuel base) fuel base 0 c95 = (And True (And True (LpOk E call (lp95 call fuel base) fuel base 0 (loopB (blockB (seqR (seqR c95))))))) := by kernel_rfl
theorem r95_fn : E.P.funcs[95]? = some Tryz.f95 := by kernel_rfl
theorem r95_body : Tryz.f95.body = some c95 := by kernel_rfl
theorem rf95_ok : RFok E 95 rf95 := by
  show RFok' E 95 rf95
  refine ⟨Tryz.f95, r95_fn, fun call fuel base args m r _ h => ?_⟩
  unfold rf95 at h
  split at h
  · rw [← r95_eq] at h
    exact kbody_sound (c := c95) r95_body (Eq.mpr (r95_lk call fuel base) (And.intro trivial (And.intro trivial (r95_L0_ok call fuel base)))) h
  · simp at h
end Go.AM
namespace Go.AM
open Go Go.Proofs
noncomputable def r96_L2 (call : CallF) (fuel base : Nat) (kx2 : Value → Value → Value → Value → Value → M → Res2) (n : Nat) : Value → Value → Value → Value → Value → Value → M → Res2 :=
  Nat.rec (motive := fun _ => Value → Value → Value → Value → Value → Value → M → Res2) (fun _ _ _ _ _ _ _ => none)
    (fun _ ih x0 x1 x2 x3 x8 x9 m =>
      (k1 (mbin E .gtr 3 x9 x1) fun v20_3 => (kb v20_3 (k1 (mindexAddr E.P 23 x0 x9) fun v25_4 => (k1 (xload E.P m 34 v25_4) fun v26_5 => (k1 (mbin E .sub 3 x9 (.int .i64 1)) fun v29_6 => (k1 (mindexAddr E.P 23 x0 v29_6) fun v30_7 => (k1 (xload E.P m 34 v30_7) fun v31_8 => (kc (kB m (kv call m.length x3 [v26_5, v31_8] m)) (fun v32_9 m => (k1 (mbin E .lss 3 v32_9 (.int .i64 0)) fun v33_10 => (kb v33_10 (k1 (mbin E .sub 3 x9 (.int .i64 1)) fun v41_11 => (k1 (mbin E .sub 3 x9 (.int .i64 1)) fun v44_12 => (k1 (mindexAddr E.P 23 x0 v44_12) fun v45_13 => (k1 (xload E.P m 34 v45_13) fun v46_14 => (k1 (mindexAddr E.P 23 x0 x9) fun v49_15 => (k1 (xload E.P m 34 v49_15) fun v50_16 => (k1 (mindexAddr E.P 23 x0 x9) fun v51_17 => (ks (xstore E.P base m 34 v51_17 v46_14) fun m => (k1 (mindexAddr E.P 23 x0 v41_11) fun v52_18 => (ks (xstore E.P base m 34 v52_18 v50_16) fun m => (k1 (mbin E .sub 3 x9 (.int .i64 1)) fun v36_19 => (ih x0 x1 x2 x3 x8 v36_19 m)))))))))))) (kx2 x0 x1 x2 x3 x8 m)))) (fun _ _ => none))))))) (kx2 x0 x1 x2 x3 x8 m)))) n
noncomputable def r96_L0 (call : CallF) (fuel base : Nat) (kx0 : M → Res2) (n : Nat) : Value → Value → Value → Value → Value → M → Res2 :=
  Nat.rec (motive := fun _ => Value → Value → Value → Value → Value → M → Res2) (fun _ _ _ _ _ _ => none)
    (fun _ ih x0 x1 x2 x3 x8 m =>
      (k1 (mbin E .lss 3 x8 x2) fun v14_2 => (kb v14_2 (r96_L2 call fuel base (fun y0_20 y1_21 y2_22 y3_23 y8_24 m => (k1 (mbin E .add 3 y8_24 (.int .i64 1)) fun v16_25 => (ih y0_20 y1_21 y2_22 y3_23 v16_25 m))) fuel x0 x1 x2 x3 x8 x8 m) (kx0 m)))) n
noncomputable def r96 (call : CallF) (fuel base : Nat) (x0 : Value) (x1 : Value) (x2 : Value) (x3 : Value) (m : M) : Res2 :=
  (k1 (mbin E .add 3 x1 (.int .i64 1)) fun v11_1 => (r96_L0 call fuel base (fun m => (some (.ret (.tuple #[]), m))) fuel x0 x1 x2 x3 v11_1 m))
def keep96 : Keep := { region := fun i => ([[0, 1, 2, 3, 8], [0, 1, 2, 3, 8, 14], [0, 1, 2, 3, 8], [0, 1, 2, 3, 8, 9], [0, 1, 2, 3, 8, 9, 34], [0, 1, 2, 3, 8, 9], [0, 1, 2, 3, 8, 9]] : List (List Nat))[i]?, exit := fun i => ([[], [0, 1, 2, 3, 8], [0, 1, 2, 3, 8], [0, 1, 2, 3, 8, 9]] : List (List Nat))[i]?, ret := some [] }
noncomputable def r96_L2_R (call : CallF) (fuel base n : Nat) (vs : List Value) (m : M) (K : KT) : Res2 := match vs with
  | [x0, x1, x2, x3, x8, x9] => r96_L2 call fuel base (fun y0 y1 y2 y3 y8 m => K (.exit 2) { n := 53, l := [(0, y0), (1, y1), (2, y2), (3, y3), (8, y8)] } m) n x0 x1 x2 x3 x8 x9 m
  | _ => none
noncomputable def r96_L0_R (call : CallF) (fuel base n : Nat) (vs : List Value) (m : M) (K : KT) : Res2 := match vs with
  | [x0, x1, x2, x3, x8] => r96_L0 call fuel base (fun m => K (.exit 0) { n := 53, l := [] } m) n x0 x1 x2 x3 x8 m
  | _ => none
noncomputable def lp96 (call : CallF) (fuel base : Nat) : Lp := lpsel [(2, fun T m K => kslots 53 [0, 1, 2, 3, 8, 9] T fun vs => r96_L2_R call fuel base fuel vs m K), (0, fun T m K => kslots 53 [0, 1, 2, 3, 8] T fun vs => r96_L0_R call fuel base fuel vs m K)]
noncomputable def c96 : Code := Tryz.f96.body.getD .skip
theorem r96_L2_lk (call : CallF) (fuel base : Nat) : LoopsOk E call (lp96 call fuel base) fuel base 2 (loopB (blockB (seqR (blockB (seqL (seqR (loopB (blockB (seqR c96))))))))) = (And (And True (And True True)) (And True True)) := by kernel_rfl
theorem r96_L2_ok (call : CallF) (fuel base : Nat) : LpOk E call (lp96 call fuel base) fuel base 2 (loopB (blockB (seqR (blockB (seqL (seqR (loopB (blockB (seqR c96))))))))) := by
  refine loop_ok (kp := keep96) (hb := Eq.mpr (r96_L2_lk call fuel base) (And.intro (And.intro trivial (And.intro trivial trivial)) (And.intro trivial trivial))) 53 [0, 1, 2, 3, 8, 9] (fun n vs m K => r96_L2_R call fuel base n vs m K) ?_ ?_ (fun _ _ _ => rfl)
  · intro vs m K
    unfold r96_L2_R
    split <;> rfl
  · intro n vs m K hl
    match vs, hl with
    | [x0, x1, x2, x3, x8, x9], _ => show _ = _; kernel_rfl
theorem r96_L0_lk (call : CallF) (fuel base : Nat) : LoopsOk E call (lp96 call fuel base) fuel base 0 (loopB (blockB (seqR c96))) = (And (And True (And True True)) (And (And True (LpOk E call (lp96 call fuel base) fuel base 2 (loopB (blockB (seqR (blockB (seqL (seqR (loopB (blockB (seqR c96))))))))))) True)) := by kernel_rfl
theorem r96_L0_ok (call : CallF) (fuel base : Nat) : LpOk E call (lp96 call fuel base) fuel base 0 (loopB (blockB (seqR c96))) := by
  refine loop_ok (kp := keep96) (hb := Eq.mpr (r96_L0_lk call fuel base) (And.intro (And.intro trivial (And.intro trivial trivial)) (And.intro (And.intro trivial (r96_L2_ok call fuel base)) trivial))) 53 [0, 1, 2, 3, 8] (fun n vs m K => r96_L0_R call fuel base n vs m K) ?_ ?_ (fun _ _ _ => rfl)
  · intro vs m K
    unfold r96_L0_R
    split <;> rfl
  · intro n vs m K hl
    match vs, hl with
    | [x0, x1, x2, x3, x8], _ => show _ = _; kernel_rfl
theorem r96_eq (call : CallF) (fuel base : Nat) (x0 : Value) (x1 : Value) (x2 : Value) (x3 : Value) (m : M) : kbody E call keep96 (lp96 call fuel base) base Tryz.f96 [x0, x1, x2, x3] m = r96 call fuel base x0 x1 x2 x3 m := by
  kernel_rfl
noncomputable def rf96 : RF := fun call fuel base args m => match args with
  | [x0, x1, x2, x3] => r96 call fuel base x0 x1 x2 x3 m
  | _ => none
theorem r96_lk (call : CallF) (fuel base : Nat) : LoopsOk E call (lp96 call fuel base) fuel base 0 c96 = (And True (LpOk E call (lp96 call fuel base) fuel base 0 (loopB (blockB (seqR c96))))) := by kernel_rfl
theorem r96_fn : E.P.funcs[96]? = some Tryz.f96 := by kernel_rfl
theorem r96_body : Tryz.f96.body = some c96 := by kernel_rfl
theorem rf96_ok : RFok E 96 rf96 := by
  show RFok' E 96 rf96
  refine ⟨Tryz.f96, r96_fn, fun call fuel base args m r _ h => ?_⟩
  unfold rf96 at h
  split at h
  · rw [← r96_eq] at h
    exact kbody_sound (c := c96) r96_body (Eq.mpr (r96_lk call fuel base) (And.intro trivial (r96_L0_ok call fuel base))) h
  · simp at h
end Go.AM
namespace Go.AM
open Go Go.Proofs
noncomputable def r104 (call : CallF) (fuel base : Nat) (x0 : Value) (m : M) : Res2 :=
  (k1 (mbin E .geq 149 x0 (.int .u32 65536)) fun v4_1 => (kb v4_1 (k1 (mbin E .shr 149 x0 (.int .u64 16)) fun v6_2 => (k1 (mbin E .geq 149 v6_2 (.int .u32 256)) fun v8_3 => (kb v8_3 (k1 (mbin E .shr 149 v6_2 (.int .u64 8)) fun v10_4 => (k1 (mbin E .add 3 (.int .i64 16) (.int .i64 8)) fun v12_5 => (k1 (mconvert E.P 149 5 v10_4) fun v15_6 => (k1 (mindex E.P 9 (.string (ByteArray.mk #[0, 1, 2, 2, 3, 3, 3, 3, 4, 4, 4, 4, 4, 4, 4, 4, 5, 5, 5, 5, 5, 5, 5, 5, 5, 5, 5, 5, 5, 5, 5, 5, 6, 6, 6, 6, 6, 6, 6, 6, 6, 6, 6, 6, 6, 6, 6, 6, 6, 6, 6, 6, 6, 6, 6, 6, 6, 6, 6, 6, 6, 6, 6, 6, 7, 7, 7, 7, 7, 7, 7, 7, 7, 7, 7, 7, 7, 7, 7, 7, 7, 7, 7, 7, 7, 7, 7, 7, 7, 7, 7, 7, 7, 7, 7, 7, 7, 7, 7, 7, 7, 7, 7, 7, 7, 7, 7, 7, 7, 7, 7, 7, 7, 7, 7, 7, 7, 7, 7, 7, 7, 7, 7, 7, 7, 7, 7, 7, 8, 8, 8, 8, 8, 8, 8, 8, 8, 8, 8, 8, 8, 8, 8, 8, 8, 8, 8, 8, 8, 8, 8, 8, 8, 8, 8, 8, 8, 8, 8, 8, 8, 8, 8, 8, 8, 8, 8, 8, 8, 8, 8, 8, 8, 8, 8, 8, 8, 8, 8, 8, 8, 8, 8, 8, 8, 8, 8, 8, 8, 8, 8, 8, 8, 8, 8, 8, 8, 8, 8, 8, 8, 8, 8, 8, 8, 8, 8, 8, 8, 8, 8, 8, 8, 8, 8, 8, 8, 8, 8, 8, 8, 8, 8, 8, 8, 8, 8, 8, 8, 8, 8, 8, 8, 8, 8, 8, 8, 8, 8, 8, 8, 8, 8, 8, 8, 8, 8, 8, 8, 8, 8, 8, 8, 8, 8, 8])) v15_6) fun v16_7 => (k1 (mconvert E.P 5 3 v16_7) fun v17_8 => (k1 (mbin E .add 3 v12_5 v17_8) fun v18_9 => (fVal v18_9 fun v => some (.ret v, m)))))))) (k1 (mconvert E.P 149 5 v6_2) fun v15_10 => (k1 (mindex E.P 9 (.string (ByteArray.mk #[0, 1, 2, 2, 3, 3, 3, 3, 4, 4, 4, 4, 4, 4, 4, 4, 5, 5, 5, 5, 5, 5, 5, 5, 5, 5, 5, 5, 5, 5, 5, 5, 6, 6, 6, 6, 6, 6, 6, 6, 6, 6, 6, 6, 6, 6, 6, 6, 6, 6, 6, 6, 6, 6, 6, 6, 6, 6, 6, 6, 6, 6, 6, 6, 7, 7, 7, 7, 7, 7, 7, 7, 7, 7, 7, 7, 7, 7, 7, 7, 7, 7, 7, 7, 7, 7, 7, 7, 7, 7, 7, 7, 7, 7, 7, 7, 7, 7, 7, 7, 7, 7, 7, 7, 7, 7, 7, 7, 7, 7, 7, 7, 7, 7, 7, 7, 7, 7, 7, 7, 7, 7, 7, 7, 7, 7, 7, 7, 8, 8, 8, 8, 8, 8, 8, 8, 8, 8, 8, 8, 8, 8, 8, 8, 8, 8, 8, 8, 8, 8, 8, 8, 8, 8, 8, 8, 8, 8, 8, 8, 8, 8, 8, 8, 8, 8, 8, 8, 8, 8, 8, 8, 8, 8, 8, 8, 8, 8, 8, 8, 8, 8, 8, 8, 8, 8, 8, 8, 8, 8, 8, 8, 8, 8, 8, 8, 8, 8, 8, 8, 8, 8, 8, 8, 8, 8, 8, 8, 8, 8, 8, 8, 8, 8, 8, 8, 8, 8, 8, 8, 8, 8, 8, 8, 8, 8, 8, 8, 8, 8, 8, 8, 8, 8, 8, 8, 8, 8, 8, 8, 8, 8, 8, 8, 8, 8, 8, 8, 8, 8, 8, 8, 8, 8, 8, 8])) v15_10) fun v16_11 => (k1 (mconvert E.P 5 3 v16_11) fun v17_12 => (k1 (mbin E .add 3 (.int .i64 16) v17_12) fun v18_13 => (fVal v18_13 fun v => some (.ret v, m))))))))) (k1 (mbin E .geq 149 x0 (.int .u32 256)) fun v8_14 => (kb v8_14 (k1 (mbin E .shr 149 x0 (.int .u64 8)) fun v10_15 => (k1 (mbin E .add 3 (.int .i64 0) (.int .i64 8)) fun v12_16 => (k1 (mconvert E.P 149 5 v10_15) fun v15_17 => (k1 (mindex E.P 9 (.string (ByteArray.mk #[0, 1, 2, 2, 3, 3, 3, 3, 4, 4, 4, 4, 4, 4, 4, 4, 5, 5, 5, 5, 5, 5, 5, 5, 5, 5, 5, 5, 5, 5, 5, 5, 6, 6, 6, 6, 6, 6, 6, 6, 6, 6, 6, 6, 6, 6, 6, 6, 6, 6, 6, 6, 6, 6, 6, 6, 6, 6, 6, 6, 6, 6, 6, 6, 7, 7, 7, 7, 7, 7, 7, 7, 7, 7, 7, 7, 7, 7, 7, 7, 7, 7, 7, 7, 7, 7, 7, 7, 7, 7, 7, 7, 7, 7, 7, 7, 7, 7, 7, 7, 7, 7, 7, 7, 7, 7, 7, 7, 7, 7, 7, 7, 7, 7, 7, 7, 7, 7, 7, 7, 7, 7, 7, 7, 7, 7, 7, 7, 8, 8, 8, 8, 8, 8, 8, 8, 8, 8, 8, 8, 8, 8, 8, 8, 8, 8, 8, 8, 8, 8, 8, 8, 8, 8, 8, 8, 8, 8, 8, 8, 8, 8, 8, 8, 8, 8, 8, 8, 8, 8, 8, 8, 8, 8, 8, 8, 8, 8, 8, 8, 8, 8, 8, 8, 8, 8, 8, 8, 8, 8, 8, 8, 8, 8, 8, 8, 8, 8, 8, 8, 8, 8, 8, 8, 8, 8, 8, 8, 8, 8, 8, 8, 8, 8, 8, 8, 8, 8, 8, 8, 8, 8, 8, 8, 8, 8, 8, 8, 8, 8, 8, 8, 8, 8, 8, 8, 8, 8, 8, 8, 8, 8, 8, 8, 8, 8, 8, 8, 8, 8, 8, 8, 8, 8, 8, 8])) v15_17) fun v16_18 => (k1 (mconvert E.P 5 3 v16_18) fun v17_19 => (k1 (mbin E .add 3 v12_16 v17_19) fun v18_20 => (fVal v18_20 fun v => some (.ret v, m)))))))) (k1 (mconvert E.P 149 5 x0) fun v15_21 => (k1 (mindex E.P 9 (.string (ByteArray.mk #[0, 1, 2, 2, 3, 3, 3, 3, 4, 4, 4, 4, 4, 4, 4, 4, 5, 5, 5, 5, 5, 5, 5, 5, 5, 5, 5, 5, 5, 5, 5, 5, 6, 6, 6, 6, 6, 6, 6, 6, 6, 6, 6, 6, 6, 6, 6, 6, 6, 6, 6, 6, 6, 6, 6, 6, 6, 6, 6, 6, 6, 6, 6, 6, 7, 7, 7, 7, 7, 7, 7, 7, 7, 7, 7, 7, 7, 7, 7, 7, 7, 7, 7, 7, 7, 7, 7, 7, 7, 7, 7, 7, 7, 7, 7, 7, 7, 7, 7, 7, 7, 7, 7, 7, 7, 7, 7, 7, 7, 7, 7, 7, 7, 7, 7, 7, 7, 7, 7, 7, 7, 7, 7, 7, 7, 7, 7, 7, 8, 8, 8, 8, 8, 8, 8, 8, 8, 8, 8, 8, 8, 8, 8, 8, 8, 8, 8, 8, 8, 8, 8, 8, 8, 8, 8, 8, 8, 8, 8, 8, 8, 8, 8, 8, 8, 8, 8, 8, 8, 8, 8, 8, 8, 8, 8, 8, 8, 8, 8, 8, 8, 8, 8, 8, 8, 8, 8, 8, 8, 8, 8, 8, 8, 8, 8, 8, 8, 8, 8, 8, 8, 8, 8, 8, 8, 8, 8, 8, 8, 8, 8, 8, 8, 8, 8, 8, 8, 8, 8, 8, 8, 8, 8, 8, 8, 8, 8, 8, 8, 8, 8, 8, 8, 8, 8, 8, 8, 8, 8, 8, 8, 8, 8, 8, 8, 8, 8, 8, 8, 8, 8, 8, 8, 8, 8, 8])) v15_21) fun v16_22 => (k1 (mconvert E.P 5 3 v16_22) fun v17_23 => (k1 (mbin E .add 3 (.int .i64 0) v17_23) fun v18_24 => (fVal v18_24 fun v => some (.ret v, m))))))))))
def keep104 : Keep := { region := fun i => ([[0, 2], [0, 2, 4], [0], [0, 2], [0, 2, 8], [0, 2], [0, 2], [2]] : List (List Nat))[i]?, exit := fun i => ([] : List (List Nat))[i]?, ret := some [2] }
noncomputable def lp104 (call : CallF) (fuel base : Nat) : Lp := lpsel []
noncomputable def c104 : Code := Tryz.f104.body.getD .skip
theorem r104_eq (call : CallF) (fuel base : Nat) (x0 : Value) (m : M) : kbody E call keep104 (lp104 call fuel base) base Tryz.f104 [x0] m = r104 call fuel base x0 m := by
  kernel_rfl
noncomputable def rf104 : RF := fun call fuel base args m => match args with
  | [x0] => r104 call fuel base x0 m
  | _ => none
theorem r104_lk (call : CallF) (fuel base : Nat) : LoopsOk E call (lp104 call fuel base) fuel base 0 c104 = (And True (And (And True (And (And True True) True)) (And (And True (And (And True True) True)) (And True True)))) := by kernel_rfl
theorem r104_fn : E.P.funcs[104]? = some Tryz.f104 := by kernel_rfl
theorem r104_body : Tryz.f104.body = some c104 := by kernel_rfl
theorem rf104_ok : RFok E 104 rf104 := by
  show RFok' E 104 rf104
  refine ⟨Tryz.f104, r104_fn, fun call fuel base args m r _ h => ?_⟩
  unfold rf104 at h
  split at h
  · rw [← r104_eq] at h
    exact kbody_sound (c := c104) r104_body (Eq.mpr (r104_lk call fuel base) (And.intro trivial (And.intro (And.intro trivial (And.intro (And.intro trivial trivial) trivial)) (And.intro (And.intro trivial (And.intro (And.intro trivial trivial) trivial)) (And.intro trivial trivial))))) h
  · simp at h
end Go.AM
namespace Go.AM
open Go Go.Proofs
noncomputable def r105 (call : CallF) (fuel base : Nat) (x0 : Value) (m : M) : Res2 :=
  (k1 (mbin E .geq 151 x0 (.int .u64 4294967296)) fun v4_1 => (kb v4_1 (k1 (mbin E .shr 151 x0 (.int .u64 32)) fun v6_2 => (k1 (mbin E .geq 151 v6_2 (.int .u64 65536)) fun v8_3 => (kb v8_3 (k1 (mbin E .shr 151 v6_2 (.int .u64 16)) fun v10_4 => (k1 (mbin E .add 3 (.int .i64 32) (.int .i64 16)) fun v12_5 => (k1 (mbin E .geq 151 v10_4 (.int .u64 256)) fun v14_6 => (kb v14_6 (k1 (mbin E .shr 151 v10_4 (.int .u64 8)) fun v16_7 => (k1 (mbin E .add 3 v12_5 (.int .i64 8)) fun v18_8 => (k1 (mconvert E.P 151 5 v16_7) fun v21_9 => (k1 (mindex E.P 9 (.string (ByteArray.mk #[0, 1, 2, 2, 3, 3, 3, 3, 4, 4, 4, 4, 4, 4, 4, 4, 5, 5, 5, 5, 5, 5, 5, 5, 5, 5, 5, 5, 5, 5, 5, 5, 6, 6, 6, 6, 6, 6, 6, 6, 6, 6, 6, 6, 6, 6, 6, 6, 6, 6, 6, 6, 6, 6, 6, 6, 6, 6, 6, 6, 6, 6, 6, 6, 7, 7, 7, 7, 7, 7, 7, 7, 7, 7, 7, 7, 7, 7, 7, 7, 7, 7, 7, 7, 7, 7, 7, 7, 7, 7, 7, 7, 7, 7, 7, 7, 7, 7, 7, 7, 7, 7, 7, 7, 7, 7, 7, 7, 7, 7, 7, 7, 7, 7, 7, 7, 7, 7, 7, 7, 7, 7, 7, 7, 7, 7, 7, 7, 8, 8, 8, 8, 8, 8, 8, 8, 8, 8, 8, 8, 8, 8, 8, 8, 8, 8, 8, 8, 8, 8, 8, 8, 8, 8, 8, 8, 8, 8, 8, 8, 8, 8, 8, 8, 8, 8, 8, 8, 8, 8, 8, 8, 8, 8, 8, 8, 8, 8, 8, 8, 8, 8, 8, 8, 8, 8, 8, 8, 8, 8, 8, 8, 8, 8, 8, 8, 8, 8, 8, 8, 8, 8, 8, 8, 8, 8, 8, 8, 8, 8, 8, 8, 8, 8, 8, 8, 8, 8, 8, 8, 8, 8, 8, 8, 8, 8, 8, 8, 8, 8, 8, 8, 8, 8, 8, 8, 8, 8, 8, 8, 8, 8, 8, 8, 8, 8, 8, 8, 8, 8, 8, 8, 8, 8, 8, 8])) v21_9) fun v22_10 => (k1 (mconvert E.P 5 3 v22_10) fun v23_11 => (k1 (mbin E .add 3 v18_8 v23_11) fun v24_12 => (fVal v24_12 fun v => some (.ret v, m)))))))) (k1 (mconvert E.P 151 5 v10_4) fun v21_13 => (k1 (mindex E.P 9 (.string (ByteArray.mk #[0, 1, 2, 2, 3, 3, 3, 3, 4, 4, 4, 4, 4, 4, 4, 4, 5, 5, 5, 5, 5, 5, 5, 5, 5, 5, 5, 5, 5, 5, 5, 5, 6, 6, 6, 6, 6, 6, 6, 6, 6, 6, 6, 6, 6, 6, 6, 6, 6, 6, 6, 6, 6, 6, 6, 6, 6, 6, 6, 6, 6, 6, 6, 6, 7, 7, 7, 7, 7, 7, 7, 7, 7, 7, 7, 7, 7, 7, 7, 7, 7, 7, 7, 7, 7, 7, 7, 7, 7, 7, 7, 7, 7, 7, 7, 7, 7, 7, 7, 7, 7, 7, 7, 7, 7, 7, 7, 7, 7, 7, 7, 7, 7, 7, 7, 7, 7, 7, 7, 7, 7, 7, 7, 7, 7, 7, 7, 7, 8, 8, 8, 8, 8, 8, 8, 8, 8, 8, 8, 8, 8, 8, 8, 8, 8, 8, 8, 8, 8, 8, 8, 8, 8, 8, 8, 8, 8, 8, 8, 8, 8, 8, 8, 8, 8, 8, 8, 8, 8, 8, 8, 8, 8, 8, 8, 8, 8, 8, 8, 8, 8, 8, 8, 8, 8, 8, 8, 8, 8, 8, 8, 8, 8, 8, 8, 8, 8, 8, 8, 8, 8, 8, 8, 8, 8, 8, 8, 8, 8, 8, 8, 8, 8, 8, 8, 8, 8, 8, 8, 8, 8, 8, 8, 8, 8, 8, 8, 8, 8, 8, 8, 8, 8, 8, 8, 8, 8, 8, 8, 8, 8, 8, 8, 8, 8, 8, 8, 8, 8, 8, 8, 8, 8, 8, 8, 8])) v21_13) fun v22_14 => (k1 (mconvert E.P 5 3 v22_14) fun v23_15 => (k1 (mbin E .add 3 v12_5 v23_15) fun v24_16 => (fVal v24_16 fun v => some (.ret v, m)))))))))) (k1 (mbin E .geq 151 v6_2 (.int .u64 256)) fun v14_17 => (kb v14_17 (k1 (mbin E .shr 151 v6_2 (.int .u64 8)) fun v16_18 => (k1 (mbin E .add 3 (.int .i64 32) (.int .i64 8)) fun v18_19 => (k1 (mconvert E.P 151 5 v16_18) fun v21_20 => (k1 (mindex E.P 9 (.string (ByteArray.mk #[0, 1, 2, 2, 3, 3, 3, 3, 4, 4, 4, 4, 4, 4, 4, 4, 5, 5, 5, 5, 5, 5, 5, 5, 5, 5, 5, 5, 5, 5, 5, 5, 6, 6, 6, 6, 6, 6, 6, 6, 6, 6, 6, 6, 6, 6, 6, 6, 6, 6, 6, 6, 6, 6, 6, 6, 6, 6, 6, 6, 6, 6, 6, 6, 7, 7, 7, 7, 7, 7, 7, 7, 7, 7, 7, 7, 7, 7, 7, 7, 7, 7, 7, 7, 7, 7, 7, 7, 7, 7, 7, 7, 7, 7, 7, 7, 7, 7, 7, 7, 7, 7, 7, 7, 7, 7, 7, 7, 7, 7, 7, 7, 7, 7, 7, 7, 7, 7, 7, 7, 7, 7, 7, 7, 7, 7, 7, 7, 8, 8, 8, 8, 8, 8, 8, 8, 8, 8, 8, 8, 8, 8, 8, 8, 8, 8, 8, 8, 8, 8, 8, 8, 8, 8, 8, 8, 8, 8, 8, 8, 8, 8, 8, 8, 8, 8, 8, 8, 8, 8, 8, 8, 8, 8, 8, 8, 8, 8, 8, 8, 8, 8, 8, 8, 8, 8, 8, 8, 8, 8, 8, 8, 8, 8, 8, 8, 8, 8, 8, 8, 8, 8, 8, 8, 8, 8, 8, 8, 8, 8, 8, 8, 8, 8, 8, 8, 8, 8, 8, 8, 8, 8, 8, 8, 8, 8, 8, 8, 8, 8, 8, 8, 8, 8, 8, 8, 8, 8, 8, 8, 8, 8, 8, 8, 8, 8, 8, 8, 8, 8, 8, 8, 8, 8, 8, 8])) v21_20) fun v22_21 => (k1 (mconvert E.P 5 3 v22_21) fun v23_22 => (k1 (mbin E .add 3 v18_19 v23_22) fun v24_23 => (fVal v24_23 fun v => some (.ret v, m)))))))) (k1 (mconvert E.P 151 5 v6_2) fun v21_24 => (k1 (mindex E.P 9 (.string (ByteArray.mk #[0, 1, 2, 2, 3, 3, 3, 3, 4, 4, 4, 4, 4, 4, 4, 4, 5, 5, 5, 5, 5, 5, 5, 5, 5, 5, 5, 5, 5, 5, 5, 5, 6, 6, 6, 6, 6, 6, 6, 6, 6, 6, 6, 6, 6, 6, 6, 6, 6, 6, 6, 6, 6, 6, 6, 6, 6, 6, 6, 6, 6, 6, 6, 6, 7, 7, 7, 7, 7, 7, 7, 7, 7, 7, 7, 7, 7, 7, 7, 7, 7, 7, 7, 7, 7, 7, 7, 7, 7, 7, 7, 7, 7, 7, 7, 7, 7, 7, 7, 7, 7, 7, 7, 7, 7, 7, 7, 7, 7, 7, 7, 7, 7, 7, 7, 7, 7, 7, 7, 7, 7, 7, 7, 7, 7, 7, 7, 7, 8, 8, 8, 8, 8, 8, 8, 8, 8, 8, 8, 8, 8, 8, 8, 8, 8, 8, 8, 8, 8, 8, 8, 8, 8, 8, 8, 8, 8, 8, 8, 8, 8, 8, 8, 8, 8, 8, 8, 8, 8, 8, 8, 8, 8, 8, 8, 8, 8, 8, 8, 8, 8, 8, 8, 8, 8, 8, 8, 8, 8, 8, 8, 8, 8, 8, 8, 8, 8, 8, 8, 8, 8, 8, 8, 8, 8, 8, 8, 8, 8, 8, 8, 8, 8, 8, 8, 8, 8, 8, 8, 8, 8, 8, 8, 8, 8, 8, 8, 8, 8, 8, 8, 8, 8, 8, 8, 8, 8, 8, 8, 8, 8, 8, 8, 8, 8, 8, 8, 8, 8, 8, 8, 8, 8, 8, 8, 8])) v21_24) fun v22_25 => (k1 (mconvert E.P 5 3 v22_25) fun v23_26 => (k1 (mbin E .add 3 (.int .i64 32) v23_26) fun v24_27 => (fVal v24_27 fun v => some (.ret v, m))))))))))) (k1 (mbin E .geq 151 x0 (.int .u64 65536)) fun v8_28 => (kb v8_28 (k1 (mbin E .shr 151 x0 (.int .u64 16)) fun v10_29 => (k1 (mbin E .add 3 (.int .i64 0) (.int .i64 16)) fun v12_30 => (k1 (mbin E .geq 151 v10_29 (.int .u64 256)) fun v14_31 => (kb v14_31 (k1 (mbin E .shr 151 v10_29 (.int .u64 8)) fun v16_32 => (k1 (mbin E .add 3 v12_30 (.int .i64 8)) fun v18_33 => (k1 (mconvert E.P 151 5 v16_32) fun v21_34 => (k1 (mindex E.P 9 (.string (ByteArray.mk #[0, 1, 2, 2, 3, 3, 3, 3, 4, 4, 4, 4, 4, 4, 4, 4, 5, 5, 5, 5, 5, 5, 5, 5, 5, 5, 5, 5, 5, 5, 5, 5, 6, 6, 6, 6, 6, 6, 6, 6, 6, 6, 6, 6, 6, 6, 6, 6, 6, 6, 6, 6, 6, 6, 6, 6, 6, 6, 6, 6, 6, 6, 6, 6, 7, 7, 7, 7, 7, 7, 7, 7, 7, 7, 7, 7, 7, 7, 7, 7, 7, 7, 7, 7, 7, 7, 7, 7, 7, 7, 7, 7, 7, 7, 7, 7, 7, 7, 7, 7, 7, 7, 7, 7, 7, 7, 7, 7, 7, 7, 7, 7, 7, 7, 7, 7, 7, 7, 7, 7, 7, 7, 7, 7, 7, 7, 7, 7, 8, 8, 8, 8, 8, 8, 8, 8, 8, 8, 8, 8, 8, 8, 8, 8, 8, 8, 8, 8, 8, 8, 8, 8, 8, 8, 8, 8, 8, 8, 8, 8, 8, 8, 8, 8, 8, 8, 8, 8, 8, 8, 8, 8, 8, 8, 8, 8, 8, 8, 8, 8, 8, 8, 8, 8, 8, 8, 8, 8, 8, 8, 8, 8, 8, 8, 8, 8, 8, 8, 8, 8, 8, 8, 8, 8, 8, 8, 8, 8, 8, 8, 8, 8, 8, 8, 8, 8, 8, 8, 8, 8, 8, 8, 8, 8, 8, 8, 8, 8, 8, 8, 8, 8, 8, 8, 8, 8, 8, 8, 8, 8, 8, 8, 8, 8, 8, 8, 8, 8, 8, 8, 8, 8, 8, 8, 8, 8])) v21_34) fun v22_35 => (k1 (mconvert E.P 5 3 v22_35) fun v23_36 => (k1 (mbin E .add 3 v18_33 v23_36) fun v24_37 => (fVal v24_37 fun v => some (.ret v, m)))))))) (k1 (mconvert E.P 151 5 v10_29) fun v21_38 => (k1 (mindex E.P 9 (.string (ByteArray.mk #[0, 1, 2, 2, 3, 3, 3, 3, 4, 4, 4, 4, 4, 4, 4, 4, 5, 5, 5, 5, 5, 5, 5, 5, 5, 5, 5, 5, 5, 5, 5, 5, 6, 6, 6, 6, 6, 6, 6, 6, 6, 6, 6, 6, 6, 6, 6, 6, 6, 6, 6, 6, 6, 6, 6, 6, 6, 6, 6, 6, 6, 6, 6, 6, 7, 7, 7, 7, 7, 7, 7, 7, 7, 7, 7, 7, 7, 7, 7, 7, 7, 7, 7, 7, 7, 7, 7, 7, 7, 7, 7, 7, 7, 7, 7, 7, 7, 7, 7, 7, 7, 7, 7, 7, 7, 7, 7, 7, 7, 7, 7, 7, 7, 7, 7, 7, 7, 7, 7, 7, 7, 7, 7, 7, 7, 7, 7, 7, 8, 8, 8, 8, 8, 8, 8, 8, 8, 8, 8, 8, 8, 8, 8, 8, 8, 8, 8, 8, 8, 8, 8, 8, 8, 8, 8, 8, 8, 8, 8, 8, 8, 8, 8, 8, 8, 8, 8, 8, 8, 8, 8, 8, 8, 8, 8, 8, 8, 8, 8, 8, 8, 8, 8, 8, 8, 8, 8, 8, 8, 8, 8, 8, 8, 8, 8, 8, 8, 8, 8, 8, 8, 8, 8, 8, 8, 8, 8, 8, 8, 8, 8, 8, 8, 8, 8, 8, 8, 8, 8, 8, 8, 8, 8, 8, 8, 8, 8, 8, 8, 8, 8, 8, 8, 8, 8, 8, 8, 8, 8, 8, 8, 8, 8, 8, 8, 8, 8, 8, 8, 8, 8, 8, 8, 8, 8, 8])) v21_38) fun v22_39 => (k1 (mconvert E.P 5 3 v22_39) fun v23_40 => (k1 (mbin E .add 3 v12_30 v23_40) fun v24_41 => (fVal v24_41 fun v => some (.ret v, m)))))))))) (k1 (mbin E .geq 151 x0 (.int .u64 256)) fun v14_42 => (kb v14_42 (k1 (mbin E .shr 151 x0 (.int .u64 8)) fun v16_43 => (k1 (mbin E .add 3 (.int .i64 0) (.int .i64 8)) fun v18_44 => (k1 (mconvert E.P 151 5 v16_43) fun v21_45 => (k1 (mindex E.P 9 (.string (ByteArray.mk #[0, 1, 2, 2, 3, 3, 3, 3, 4, 4, 4, 4, 4, 4, 4, 4, 5, 5, 5, 5, 5, 5, 5, 5, 5, 5, 5, 5, 5, 5, 5, 5, 6, 6, 6, 6, 6, 6, 6, 6, 6, 6, 6, 6, 6, 6, 6, 6, 6, 6, 6, 6, 6, 6, 6, 6, 6, 6, 6, 6, 6, 6, 6, 6, 7, 7, 7, 7, 7, 7, 7, 7, 7, 7, 7, 7, 7, 7, 7, 7, 7, 7, 7, 7, 7, 7, 7, 7, 7, 7, 7, 7, 7, 7, 7, 7, 7, 7, 7, 7, 7, 7, 7, 7, 7, 7, 7, 7, 7, 7, 7, 7, 7, 7, 7, 7, 7, 7, 7, 7, 7, 7, 7, 7, 7, 7, 7, 7, 8, 8, 8, 8, 8, 8, 8, 8, 8, 8, 8, 8, 8, 8, 8, 8, 8, 8, 8, 8, 8, 8, 8, 8, 8, 8, 8, 8, 8, 8, 8, 8, 8, 8, 8, 8, 8, 8, 8, 8, 8, 8, 8, 8, 8, 8, 8, 8, 8, 8, 8, 8, 8, 8, 8, 8, 8, 8, 8, 8, 8, 8, 8, 8, 8, 8, 8, 8, 8, 8, 8, 8, 8, 8, 8, 8, 8, 8, 8, 8, 8, 8, 8, 8, 8, 8, 8, 8, 8, 8, 8, 8, 8, 8, 8, 8, 8, 8, 8, 8, 8, 8, 8, 8, 8, 8, 8, 8, 8, 8, 8, 8, 8, 8, 8, 8, 8, 8, 8, 8, 8, 8, 8, 8, 8, 8, 8, 8])) v21_45) fun v22_46 => (k1 (mconvert E.P 5 3 v22_46) fun v23_47 => (k1 (mbin E .add 3 v18_44 v23_47) fun v24_48 => (fVal v24_48 fun v => some (.ret v, m)))))))) (k1 (mconvert E.P 151 5 x0) fun v21_49 => (k1 (mindex E.P 9 (.string (ByteArray.mk #[0, 1, 2, 2, 3, 3, 3, 3, 4, 4, 4, 4, 4, 4, 4, 4, 5, 5, 5, 5, 5, 5, 5, 5, 5, 5, 5, 5, 5, 5, 5, 5, 6, 6, 6, 6, 6, 6, 6, 6, 6, 6, 6, 6, 6, 6, 6, 6, 6, 6, 6, 6, 6, 6, 6, 6, 6, 6, 6, 6, 6, 6, 6, 6, 7, 7, 7, 7, 7, 7, 7, 7, 7, 7, 7, 7, 7, 7, 7, 7, 7, 7, 7, 7, 7, 7, 7, 7, 7, 7, 7, 7, 7, 7, 7, 7, 7, 7, 7, 7, 7, 7, 7, 7, 7, 7, 7, 7, 7, 7, 7, 7, 7, 7, 7, 7, 7, 7, 7, 7, 7, 7, 7, 7, 7, 7, 7, 7, 8, 8, 8, 8, 8, 8, 8, 8, 8, 8, 8, 8, 8, 8, 8, 8, 8, 8, 8, 8, 8, 8, 8, 8, 8, 8, 8, 8, 8, 8, 8, 8, 8, 8, 8, 8, 8, 8, 8, 8, 8, 8, 8, 8, 8, 8, 8, 8, 8, 8, 8, 8, 8, 8, 8, 8, 8, 8, 8, 8, 8, 8, 8, 8, 8, 8, 8, 8, 8, 8, 8, 8, 8, 8, 8, 8, 8, 8, 8, 8, 8, 8, 8, 8, 8, 8, 8, 8, 8, 8, 8, 8, 8, 8, 8, 8, 8, 8, 8, 8, 8, 8, 8, 8, 8, 8, 8, 8, 8, 8, 8, 8, 8, 8, 8, 8, 8, 8, 8, 8, 8, 8, 8, 8, 8, 8, 8, 8])) v21_49) fun v22_50 => (k1 (mconvert E.P 5 3 v22_50) fun v23_51 => (k1 (mbin E .add 3 (.int .i64 0) v23_51) fun v24_52 => (fVal v24_52 fun v => some (.ret v, m))))))))))))
def keep105 : Keep := { region := fun i => ([[0, 2], [0, 2, 4], [0], [0, 2], [0, 2, 8], [0, 2], [0, 2], [0, 2, 14], [0, 2], [0, 2], [2]] : List (List Nat))[i]?, exit := fun i => ([] : List (List Nat))[i]?, ret := some [2] }
noncomputable def lp105 (call : CallF) (fuel base : Nat) : Lp := lpsel []
noncomputable def c105 : Code := Tryz.f105.body.getD .skip
theorem r105_eq (call : CallF) (fuel base : Nat) (x0 : Value) (m : M) : kbody E call keep105 (lp105 call fuel base) base Tryz.f105 [x0] m = r105 call fuel base x0 m := by
  kernel_rfl
noncomputable def rf105 : RF := fun call fuel base args m => match args with
  | [x0] => r105 call fuel base x0 m
  | _ => none
theorem r105_lk (call : CallF) (fuel base : Nat) : LoopsOk E call (lp105 call fuel base) fuel base 0 c105 = (And True (And (And True (And (And True True) True)) (And (And True (And (And True True) True)) (And (And True (And (And True True) True)) (And True True))))) := by kernel_rfl
theorem r105_fn : E.P.funcs[105]? = some Tryz.f105 := by kernel_rfl
theorem r105_body : Tryz.f105.body = some c105 := by kernel_rfl
theorem rf105_ok : RFok E 105 rf105 := by
  show RFok' E 105 rf105
  refine ⟨Tryz.f105, r105_fn, fun call fuel base args m r _ h => ?_⟩
  unfold rf105 at h
  split at h
  · rw [← r105_eq] at h
    exact kbody_sound (c := c105) r105_body (Eq.mpr (r105_lk call fuel base) (And.intro trivial (And.intro (And.intro trivial (And.intro (And.intro trivial trivial) trivial)) (And.intro (And.intro trivial (And.intro (And.intro trivial trivial) trivial)) (And.intro (And.intro trivial (And.intro (And.intro trivial trivial) trivial)) (And.intro trivial trivial)))))) h
  · simp at h
end Go.AM
namespace Go.AM
open Go Go.Proofs
noncomputable def r106_L0 (call : CallF) (fuel base : Nat) (kx0 : Value → M → Res2) (n : Nat) : Value → Value → Value → Value → Value → Value → M → Res2 :=
  Nat.rec (motive := fun _ => Value → Value → Value → Value → Value → Value → M → Res2) (fun _ _ _ _ _ _ _ => none)
    (fun _ ih x0 x1 x2 x7 x13 x14 m =>
      (k1 (mbin E .lss 3 x14 x13) fun v15_4 => (kb v15_4 (k1 (mindexAddr E.P 55 x0 x14) fun v21_5 => (k1 (xload E.P m 50 v21_5) fun v22_6 => (k1 (miface E.P 50 v22_6) fun v23_7 => (k1 (miface E.P 50 x1) fun v25_8 => (k1 (mindexAddr E.P 55 x2 x14) fun v28_9 => (k1 (xload E.P m 50 v28_9) fun v29_10 => (kc (kB m (kv call m.length (imeth 1 v25_8) [v29_10] m)) (fun v30_11 m => (kc (kB m (kv call m.length (imeth 0 v23_7) [v30_11] m)) (fun v31_12 m => (k1 (mindexAddr E.P 55 x7 x14) fun v32_13 => (ks (xstore E.P base m 50 v32_13 v31_12) fun m => (k1 (mbin E .add 3 x14 (.int .i64 1)) fun v33_14 => (ih x0 x1 x2 x7 x13 v33_14 m))))) (fun _ _ => none))) (fun _ _ => none)))))))) (kx0 x7 m)))) n
noncomputable def r106 (call : CallF) (fuel base : Nat) (x0 : Value) (x1 : Value) (x2 : Value) (m : M) : Res2 :=
  (k2 (vcall E.P base m .len [55] [x0]) fun v10_1 m => (k2 (xmakeSlice E.P m 55 v10_1 v10_1) fun v11_2 m => (k2 (vcall E.P base m .len [55] [x0]) fun v13_3 m => (r106_L0 call fuel base (fun y7_15 m => (fVal y7_15 fun v => some (.ret v, m))) fuel x0 x1 x2 v11_2 v13_3 (.int .i64 0) m))))
def keep106 : Keep := { region := fun i => ([[0, 1, 2], [0, 1, 2, 7], [0, 1, 2, 7, 13, 14], [0, 1, 2, 7, 13, 14, 15], [0, 1, 2, 7, 8, 13, 14], [0, 1, 2, 7, 13, 14], [0, 1, 2, 7, 13, 14], [6]] : List (List Nat))[i]?, exit := fun i => ([[7], [0, 1, 2, 7, 13, 14]] : List (List Nat))[i]?, ret := some [6] }
noncomputable def r106_L0_R (call : CallF) (fuel base n : Nat) (vs : List Value) (m : M) (K : KT) : Res2 := match vs with
  | [x0, x1, x2, x7, x13, x14] => r106_L0 call fuel base (fun y7 m => K (.exit 0) { n := 35, l := [(7, y7)] } m) n x0 x1 x2 x7 x13 x14 m
  | _ => none
noncomputable def lp106 (call : CallF) (fuel base : Nat) : Lp := lpsel [(0, fun T m K => kslots 35 [0, 1, 2, 7, 13, 14] T fun vs => r106_L0_R call fuel base fuel vs m K)]
noncomputable def c106 : Code := Tryz.f106.body.getD .skip
theorem r106_L0_lk (call : CallF) (fuel base : Nat) : LoopsOk E call (lp106 call fuel base) fuel base 0 (loopB (blockB (seqR (seqL (seqR (seqR c106)))))) = (And True (And (And True True) (And (And True True) True))) := by kernel_rfl
theorem r106_L0_ok (call : CallF) (fuel base : Nat) : LpOk E call (lp106 call fuel base) fuel base 0 (loopB (blockB (seqR (seqL (seqR (seqR c106)))))) := by
  refine loop_ok (kp := keep106) (hb := Eq.mpr (r106_L0_lk call fuel base) (And.intro trivial (And.intro (And.intro trivial trivial) (And.intro (And.intro trivial trivial) trivial)))) 35 [0, 1, 2, 7, 13, 14] (fun n vs m K => r106_L0_R call fuel base n vs m K) ?_ ?_ (fun _ _ _ => rfl)
  · intro vs m K
    unfold r106_L0_R
    split <;> rfl
  · intro n vs m K hl
    match vs, hl with
    | [x0, x1, x2, x7, x13, x14], _ => show _ = _; kernel_rfl
theorem r106_eq (call : CallF) (fuel base : Nat) (x0 : Value) (x1 : Value) (x2 : Value) (m : M) : kbody E call keep106 (lp106 call fuel base) base Tryz.f106 [x0, x1, x2] m = r106 call fuel base x0 x1 x2 m := by
  kernel_rfl
noncomputable def rf106 : RF := fun call fuel base args m => match args with
  | [x0, x1, x2] => r106 call fuel base x0 x1 x2 m
  | _ => none
theorem r106_lk (call : CallF) (fuel base : Nat) : LoopsOk E call (lp106 call fuel base) fuel base 0 c106 = (And True (And True (And (And True (LpOk E call (lp106 call fuel base) fuel base 0 (loopB (blockB (seqR (seqL (seqR (seqR c106)))))))) (And True True)))) := by kernel_rfl
theorem r106_fn : E.P.funcs[106]? = some Tryz.f106 := by kernel_rfl
theorem r106_body : Tryz.f106.body = some c106 := by kernel_rfl
theorem rf106_ok : RFok E 106 rf106 := by
  show RFok' E 106 rf106
  refine ⟨Tryz.f106, r106_fn, fun call fuel base args m r _ h => ?_⟩
  unfold rf106 at h
  split at h
  · rw [← r106_eq] at h
    exact kbody_sound (c := c106) r106_body (Eq.mpr (r106_lk call fuel base) (And.intro trivial (And.intro trivial (And.intro (And.intro trivial (r106_L0_ok call fuel base)) (And.intro trivial trivial))))) h
  · simp at h
end Go.AM
namespace Go.AM
open Go Go.Proofs
noncomputable def r107_L0 (call : CallF) (fuel base : Nat) (kp : Value → M → Res2) (kx0 : Value → M → Res2) (n : Nat) : Value → Value → Value → Value → Value → M → Res2 :=
  Nat.rec (motive := fun _ => Value → Value → Value → Value → Value → M → Res2) (fun _ _ _ _ _ _ => none)
    (fun _ ih x0 x1 x5 x11 x12 m =>
      (k1 (mbin E .lss 3 x12 x11) fun v13_4 => (kb v13_4 (k1 (mindexAddr E.P 55 x0 x12) fun v20_5 => (k1 (xload E.P m 50 v20_5) fun v21_6 => (kc (kv call base x1 [v21_6] m) (fun v22_7 m => (k1 (mindexAddr E.P 55 x5 x12) fun v23_8 => (ks (xstore E.P base m 50 v23_8 v22_7) fun m => (k1 (mbin E .add 3 x12 (.int .i64 1)) fun v24_9 => (ih x0 x1 x5 x11 v24_9 m))))) (fun v m => kp v m)))) (kx0 x5 m)))) n
noncomputable def r107 (call : CallF) (fuel base : Nat) (x0 : Value) (x1 : Value) (m : M) : Res2 :=
  (k2 (vcall E.P base m .len [55] [x0]) fun v8_1 m => (k2 (xmakeSlice E.P m 55 v8_1 v8_1) fun v9_2 m => (k2 (vcall E.P base m .len [55] [x0]) fun v11_3 m => (r107_L0 call fuel base (fun v m => some (.pan v, m)) (fun y5_10 m => (fVal y5_10 fun v => some (.ret v, m))) fuel x0 x1 v9_2 v11_3 (.int .i64 0) m))))
def keep107 : Keep := { region := fun i => ([[0, 1], [0, 1, 5], [0, 1, 5, 11, 12], [0, 1, 5, 11, 12, 13], [0, 1, 5, 6, 11, 12], [0, 1, 5, 11, 12], [0, 1, 5, 11, 12], [4]] : List (List Nat))[i]?, exit := fun i => ([[5], [0, 1, 5, 11, 12]] : List (List Nat))[i]?, ret := some [4] }
noncomputable def r107_L0_R (call : CallF) (fuel base n : Nat) (vs : List Value) (m : M) (K : KT) : Res2 := match vs with
  | [x0, x1, x5, x11, x12] => r107_L0 call fuel base (fun v m => K (.pan v) { n := 26, l := [] } m) (fun y5 m => K (.exit 0) { n := 26, l := [(5, y5)] } m) n x0 x1 x5 x11 x12 m
  | _ => none
noncomputable def lp107 (call : CallF) (fuel base : Nat) : Lp := lpsel [(0, fun T m K => kslots 26 [0, 1, 5, 11, 12] T fun vs => r107_L0_R call fuel base fuel vs m K)]
noncomputable def c107 : Code := Tryz.f107.body.getD .skip
theorem r107_L0_lk (call : CallF) (fuel base : Nat) : LoopsOk E call (lp107 call fuel base) fuel base 0 (loopB (blockB (seqR (seqL (seqR (seqR c107)))))) = (And True (And (And True True) (And (And True True) True))) := by kernel_rfl
theorem r107_L0_ok (call : CallF) (fuel base : Nat) : LpOk E call (lp107 call fuel base) fuel base 0 (loopB (blockB (seqR (seqL (seqR (seqR c107)))))) := by
  refine loop_ok (kp := keep107) (hb := Eq.mpr (r107_L0_lk call fuel base) (And.intro trivial (And.intro (And.intro trivial trivial) (And.intro (And.intro trivial trivial) trivial)))) 26 [0, 1, 5, 11, 12] (fun n vs m K => r107_L0_R call fuel base n vs m K) ?_ ?_ (fun _ _ _ => rfl)
  · intro vs m K
    unfold r107_L0_R
    split <;> rfl
  · intro n vs m K hl
    match vs, hl with
    | [x0, x1, x5, x11, x12], _ => show _ = _; kernel_rfl
theorem r107_eq (call : CallF) (fuel base : Nat) (x0 : Value) (x1 : Value) (m : M) : kbody E call keep107 (lp107 call fuel base) base Tryz.f107 [x0, x1] m = r107 call fuel base x0 x1 m := by
  kernel_rfl
noncomputable def rf107 : RF := fun call fuel base args m => match args with
  | [x0, x1] => r107 call fuel base x0 x1 m
  | _ => none
theorem r107_lk (call : CallF) (fuel base : Nat) : LoopsOk E call (lp107 call fuel base) fuel base 0 c107 = (And True (And True (And (And True (LpOk E call (lp107 call fuel base) fuel base 0 (loopB (blockB (seqR (seqL (seqR (seqR c107)))))))) (And True True)))) := by kernel_rfl
theorem r107_fn : E.P.funcs[107]? = some Tryz.f107 := by kernel_rfl
theorem r107_body : Tryz.f107.body = some c107 := by kernel_rfl
theorem rf107_ok : RFok E 107 rf107 := by
  show RFok' E 107 rf107
  refine ⟨Tryz.f107, r107_fn, fun call fuel base args m r _ h => ?_⟩
  unfold rf107 at h
  split at h
  · rw [← r107_eq] at h
    exact kbody_sound (c := c107) r107_body (Eq.mpr (r107_lk call fuel base) (And.intro trivial (And.intro trivial (And.intro (And.intro trivial (r107_L0_ok call fuel base)) (And.intro trivial trivial))))) h
  · simp at h
end Go.AM
namespace Go.AM
open Go Go.Proofs
noncomputable def r108 (call : CallF) (fuel base : Nat) (x0 : Value) (x1 : Value) (m : M) : Res2 :=
  (k1 (mfieldAddr E.P 110 x1 0) fun v5_1 => (k1 (xload E.P m 3 v5_1) fun v6_2 => (kc (call base 86 [x0, v6_2] m) (fun v7_3 m => (fVal v7_3 fun v => some (.ret v, m))) (fun v m => some (.pan v, m)))))
def keep108 : Keep := { region := fun i => ([[0, 1], [3]] : List (List Nat))[i]?, exit := fun i => ([] : List (List Nat))[i]?, ret := some [3] }
noncomputable def lp108 (call : CallF) (fuel base : Nat) : Lp := lpsel []
noncomputable def c108 : Code := Tryz.f108.body.getD .skip
theorem r108_eq (call : CallF) (fuel base : Nat) (x0 : Value) (x1 : Value) (m : M) : kbody E call keep108 (lp108 call fuel base) base Tryz.f108 [x0, x1] m = r108 call fuel base x0 x1 m := by
  kernel_rfl
noncomputable def rf108 : RF := fun call fuel base args m => match args with
  | [x0, x1] => r108 call fuel base x0 x1 m
  | _ => none
theorem r108_lk (call : CallF) (fuel base : Nat) : LoopsOk E call (lp108 call fuel base) fuel base 0 c108 = (And True (And True True)) := by kernel_rfl
theorem r108_fn : E.P.funcs[108]? = some Tryz.f108 := by kernel_rfl
theorem r108_body : Tryz.f108.body = some c108 := by kernel_rfl
theorem rf108_ok : RFok E 108 rf108 := by
  show RFok' E 108 rf108
  refine ⟨Tryz.f108, r108_fn, fun call fuel base args m r _ h => ?_⟩
  unfold rf108 at h
  split at h
  · rw [← r108_eq] at h
    exact kbody_sound (c := c108) r108_body (Eq.mpr (r108_lk call fuel base) (And.intro trivial (And.intro trivial trivial))) h
  · simp at h
end Go.AM
namespace Go.AM
open Go Go.Proofs
noncomputable def r109_L2 (call : CallF) (fuel base : Nat) (kx2 : Value → Value → Value → Value → Value → M → Res2) (n : Nat) : Value → Value → Value → Value → Value → Value → M → Res2 :=
  Nat.rec (motive := fun _ => Value → Value → Value → Value → Value → Value → M → Res2) (fun _ _ _ _ _ _ _ => none)
    (fun _ ih x0 x1 x2 x3 x8 x9 m =>
      (k1 (mbin E .gtr 3 x9 x1) fun v20_3 => (kb v20_3 (k1 (mindexAddr E.P 33 x0 x9) fun v25_4 => (k1 (xload E.P m 68 v25_4) fun v26_5 => (k1 (mbin E .sub 3 x9 (.int .i64 1)) fun v29_6 => (k1 (mindexAddr E.P 33 x0 v29_6) fun v30_7 => (k1 (xload E.P m 68 v30_7) fun v31_8 => (kc (kB m (kv call m.length x3 [v26_5, v31_8] m)) (fun v32_9 m => (k1 (mbin E .lss 3 v32_9 (.int .i64 0)) fun v33_10 => (kb v33_10 (k1 (mbin E .sub 3 x9 (.int .i64 1)) fun v41_11 => (k1 (mbin E .sub 3 x9 (.int .i64 1)) fun v44_12 => (k1 (mindexAddr E.P 33 x0 v44_12) fun v45_13 => (k1 (xload E.P m 68 v45_13) fun v46_14 => (k1 (mindexAddr E.P 33 x0 x9) fun v49_15 => (k1 (xload E.P m 68 v49_15) fun v50_16 => (k1 (mindexAddr E.P 33 x0 x9) fun v51_17 => (ks (xstore E.P base m 68 v51_17 v46_14) fun m => (k1 (mindexAddr E.P 33 x0 v41_11) fun v52_18 => (ks (xstore E.P base m 68 v52_18 v50_16) fun m => (k1 (mbin E .sub 3 x9 (.int .i64 1)) fun v36_19 => (ih x0 x1 x2 x3 x8 v36_19 m)))))))))))) (kx2 x0 x1 x2 x3 x8 m)))) (fun _ _ => none))))))) (kx2 x0 x1 x2 x3 x8 m)))) n
noncomputable def r109_L0 (call : CallF) (fuel base : Nat) (kx0 : M → Res2) (n : Nat) : Value → Value → Value → Value → Value → M → Res2 :=
  Nat.rec (motive := fun _ => Value → Value → Value → Value → Value → M → Res2) (fun _ _ _ _ _ _ => none)
    (fun _ ih x0 x1 x2 x3 x8 m =>
      (k1 (mbin E .lss 3 x8 x2) fun v14_2 => (kb v14_2 (r109_L2 call fuel base (fun y0_20 y1_21 y2_22 y3_23 y8_24 m => (k1 (mbin E .add 3 y8_24 (.int .i64 1)) fun v16_25 => (ih y0_20 y1_21 y2_22 y3_23 v16_25 m))) fuel x0 x1 x2 x3 x8 x8 m) (kx0 m)))) n
noncomputable def r109 (call : CallF) (fuel base : Nat) (x0 : Value) (x1 : Value) (x2 : Value) (x3 : Value) (m : M) : Res2 :=
  (k1 (mbin E .add 3 x1 (.int .i64 1)) fun v11_1 => (r109_L0 call fuel base (fun m => (some (.ret (.tuple #[]), m))) fuel x0 x1 x2 x3 v11_1 m))
def keep109 : Keep := { region := fun i => ([[0, 1, 2, 3, 8], [0, 1, 2, 3, 8, 14], [0, 1, 2, 3, 8], [0, 1, 2, 3, 8, 9], [0, 1, 2, 3, 8, 9, 34], [0, 1, 2, 3, 8, 9], [0, 1, 2, 3, 8, 9]] : List (List Nat))[i]?, exit := fun i => ([[], [0, 1, 2, 3, 8], [0, 1, 2, 3, 8], [0, 1, 2, 3, 8, 9]] : List (List Nat))[i]?, ret := some [] }
noncomputable def r109_L2_R (call : CallF) (fuel base n : Nat) (vs : List Value) (m : M) (K : KT) : Res2 := match vs with
  | [x0, x1, x2, x3, x8, x9] => r109_L2 call fuel base (fun y0 y1 y2 y3 y8 m => K (.exit 2) { n := 53, l := [(0, y0), (1, y1), (2, y2), (3, y3), (8, y8)] } m) n x0 x1 x2 x3 x8 x9 m
  | _ => none
noncomputable def r109_L0_R (call : CallF) (fuel base n : Nat) (vs : List Value) (m : M) (K : KT) : Res2 := match vs with
  | [x0, x1, x2, x3, x8] => r109_L0 call fuel base (fun m => K (.exit 0) { n := 53, l := [] } m) n x0 x1 x2 x3 x8 m
  | _ => none
noncomputable def lp109 (call : CallF) (fuel base : Nat) : Lp := lpsel [(2, fun T m K => kslots 53 [0, 1, 2, 3, 8, 9] T fun vs => r109_L2_R call fuel base fuel vs m K), (0, fun T m K => kslots 53 [0, 1, 2, 3, 8] T fun vs => r109_L0_R call fuel base fuel vs m K)]
noncomputable def c109 : Code := Tryz.f109.body.getD .skip
theorem r109_L2_lk (call : CallF) (fuel base : Nat) : LoopsOk E call (lp109 call fuel base) fuel base 2 (loopB (blockB (seqR (blockB (seqL (seqR (loopB (blockB (seqR c109))))))))) = (And (And True (And True True)) (And True True)) := by kernel_rfl
theorem r109_L2_ok (call : CallF) (fuel base : Nat) : LpOk E call (lp109 call fuel base) fuel base 2 (loopB (blockB (seqR (blockB (seqL (seqR (loopB (blockB (seqR c109))))))))) := by
  refine loop_ok (kp := keep109) (hb := Eq.mpr (r109_L2_lk call fuel base) (And.intro (And.intro trivial (And.intro trivial trivial)) (And.intro trivial trivial))) 53 [0, 1, 2, 3, 8, 9] (fun n vs m K => r109_L2_R call fuel base n vs m K) ?_ ?_ (fun _ _ _ => rfl)
  · intro vs m K
    unfold r109_L2_R
    split <;> rfl
  · intro n vs m K hl
    match vs, hl with
    | [x0, x1, x2, x3, x8, x9], _ => show _ = _; kernel_rfl
theorem r109_L0_lk (call : CallF) (fuel base : Nat) : LoopsOk E call (lp109 call fuel base) fuel base 0 (loopB (blockB (seqR c109))) = (And (And True (And True True)) (And (And True (LpOk E call (lp109 call fuel base) fuel base 2 (loopB (blockB (seqR (blockB (seqL (seqR (loopB (blockB (seqR c109))))))))))) True)) := by kernel_rfl
theorem r109_L0_ok (call : CallF) (fuel base : Nat) : LpOk E call (lp109 call fuel base) fuel base 0 (loopB (blockB (seqR c109))) := by
  refine loop_ok (kp := keep109) (hb := Eq.mpr (r109_L0_lk call fuel base) (And.intro (And.intro trivial (And.intro trivial trivial)) (And.intro (And.intro trivial (r109_L2_ok call fuel base)) trivial))) 53 [0, 1, 2, 3, 8] (fun n vs m K => r109_L0_R call fuel base n vs m K) ?_ ?_ (fun _ _ _ => rfl)
  · intro vs m K
    unfold r109_L0_R
    split <;> rfl
  · intro n vs m K hl
    match vs, hl with
    | [x0, x1, x2, x3, x8], _ => show _ = _; kernel_rfl
theorem r109_eq (call : CallF) (fuel base : Nat) (x0 : Value) (x1 : Value) (x2 : Value) (x3 : Value) (m : M) : kbody E call keep109 (lp109 call fuel base) base Tryz.f109 [x0, x1, x2, x3] m = r109 call fuel base x0 x1 x2 x3 m := by
  kernel_rfl
noncomputable def rf109 : RF := fun call fuel base args m => match args with
  | [x0, x1, x2, x3] => r109 call fuel base x0 x1 x2 x3 m
  | _ => none
theorem r109_lk (call : CallF) (fuel base : Nat) : LoopsOk E call (lp109 call fuel base) fuel base 0 c109 = (And True (LpOk E call (lp109 call fuel base) fuel base 0 (loopB (blockB (seqR c109))))) := by kernel_rfl
theorem r109_fn : E.P.funcs[109]? = some Tryz.f109 := by kernel_rfl
theorem r109_body : Tryz.f109.body = some c109 := by kernel_rfl
theorem rf109_ok : RFok E 109 rf109 := by
  show RFok' E 109 rf109
  refine ⟨Tryz.f109, r109_fn, fun call fuel base args m r _ h => ?_⟩
  unfold rf109 at h
  split at h
  · rw [← r109_eq] at h
    exact kbody_sound (c := c109) r109_body (Eq.mpr (r109_lk call fuel base) (And.intro trivial (r109_L0_ok call fuel base))) h
  · simp at h
end Go.AM
namespace Go.AM
open Go Go.Proofs
noncomputable def r143 (call : CallF) (fuel base : Nat) (x0 : Value) (x1 : Value) (m : M) : Res2 :=
  (k1 (mbin E .add 50 x0 x1) fun v7_1 => (fVal v7_1 fun v => some (.ret v, m)))
def keep143 : Keep := { region := fun i => ([[0, 1], [4]] : List (List Nat))[i]?, exit := fun i => ([] : List (List Nat))[i]?, ret := some [4] }
noncomputable def lp143 (call : CallF) (fuel base : Nat) : Lp := lpsel []
noncomputable def c143 : Code := Tryz.f143.body.getD .skip
theorem r143_eq (call : CallF) (fuel base : Nat) (x0 : Value) (x1 : Value) (m : M) : kbody E call keep143 (lp143 call fuel base) base Tryz.f143 [x0, x1] m = r143 call fuel base x0 x1 m := by
  kernel_rfl
noncomputable def rf143 : RF := fun call fuel base args m => match args with
  | [x0, x1] => r143 call fuel base x0 x1 m
  | _ => none
theorem r143_lk (call : CallF) (fuel base : Nat) : LoopsOk E call (lp143 call fuel base) fuel base 0 c143 = (And True (And True True)) := by kernel_rfl
theorem r143_fn : E.P.funcs[143]? = some Tryz.f143 := by kernel_rfl
theorem r143_body : Tryz.f143.body = some c143 := by kernel_rfl
theorem rf143_ok : RFok E 143 rf143 := by
  show RFok' E 143 rf143
  refine ⟨Tryz.f143, r143_fn, fun call fuel base args m r _ h => ?_⟩
  unfold rf143 at h
  split at h
  · rw [← r143_eq] at h
    exact kbody_sound (c := c143) r143_body (Eq.mpr (r143_lk call fuel base) (And.intro trivial (And.intro trivial trivial))) h
  · simp at h
end Go.AM
namespace Go.AM
open Go Go.Proofs
noncomputable def r144 (call : CallF) (fuel base : Nat) (x0 : Value) (x1 : Value) (m : M) : Res2 :=
  (k1 (mbin E .mul 50 x0 x1) fun v7_1 => (fVal v7_1 fun v => some (.ret v, m)))
def keep144 : Keep := { region := fun i => ([[0, 1], [4]] : List (List Nat))[i]?, exit := fun i => ([] : List (List Nat))[i]?, ret := some [4] }
noncomputable def lp144 (call : CallF) (fuel base : Nat) : Lp := lpsel []
noncomputable def c144 : Code := Tryz.f144.body.getD .skip
theorem r144_eq (call : CallF) (fuel base : Nat) (x0 : Value) (x1 : Value) (m : M) : kbody E call keep144 (lp144 call fuel base) base Tryz.f144 [x0, x1] m = r144 call fuel base x0 x1 m := by
  kernel_rfl
noncomputable def rf144 : RF := fun call fuel base args m => match args with
  | [x0, x1] => r144 call fuel base x0 x1 m
  | _ => none
theorem r144_lk (call : CallF) (fuel base : Nat) : LoopsOk E call (lp144 call fuel base) fuel base 0 c144 = (And True (And True True)) := by kernel_rfl
theorem r144_fn : E.P.funcs[144]? = some Tryz.f144 := by kernel_rfl
theorem r144_body : Tryz.f144.body = some c144 := by kernel_rfl
theorem rf144_ok : RFok E 144 rf144 := by
  show RFok' E 144 rf144
  refine ⟨Tryz.f144, r144_fn, fun call fuel base args m r _ h => ?_⟩
  unfold rf144 at h
  split at h
  · rw [← r144_eq] at h
    exact kbody_sound (c := c144) r144_body (Eq.mpr (r144_lk call fuel base) (And.intro trivial (And.intro trivial trivial))) h
  · simp at h
end Go.AM
namespace Go.AM
open Go Go.Proofs
noncomputable def ytab : List (Nat × RYs) := []
theorem ytab_ok : ∀ p ∈ ytab, RYsOk E p.1 p.2 := by
  unfold ytab
  simp only [List.mem_cons, forall_eq_or_imp, List.not_mem_nil, false_imp_iff, implies_true, and_true]
theorem ry_ok' : RFok E yid (ryOf ytab) := show RYok E (ryOf ytab) from ry_ok ytab_ok
noncomputable def tab : List (Nat × RF) := [(yid, ryOf ytab), (3, rf3), (4, rf4), (5, rf5), (6, rf6), (7, rf7), (8, rf8), (9, rf9), (10, rf10), (11, rf11), (12, rf12), (13, rf13), (14, rf14), (15, rf15), (16, rf16), (17, rf17), (18, rf18), (19, rf19), (20, rf20), (21, rf21), (22, rf22), (23, rf23), (24, rf24), (25, rf25), (26, rf26), (27, rf27), (28, rf28), (29, rf29), (30, rf30), (31, rf31), (32, rf32), (33, rf33), (34, rf34), (35, rf35), (36, rf36), (37, rf37), (38, rf38), (39, rf39), (40, rf40), (41, rf41), (42, rf42), (43, rf43), (44, rf44), (45, rf45), (46, rf46), (47, rf47), (48, rf48), (49, rf49), (50, rf50), (51, rf51), (52, rf52), (53, rf53), (54, rf54), (55, rf55), (56, rf56), (57, rf57), (58, rf58), (59, rf59), (60, rf60), (61, rf61), (62, rf62), (63, rf63), (64, rf64), (65, rf65), (66, rf66), (67, rf67), (68, rf68), (69, rf69), (70, rf70), (71, rf71), (72, rf72), (73, rf73), (74, rf74), (75, rf75), (76, rf76), (77, rf77), (78, rf78), (79, rf79), (80, rf80), (81, rf81), (82, rf82), (83, rf83), (84, rf84), (85, rf85), (86, rf86), (87, rf87), (88, rf88), (89, rf89), (90, rf90), (91, rf91), (92, rf92), (93, rf93), (94, rf94), (95, rf95), (96, rf96), (104, rf104), (105, rf105), (106, rf106), (107, rf107), (108, rf108), (109, rf109), (143, rf143), (144, rf144)]
theorem tab_ok : ∀ p ∈ tab, RFok E p.1 p.2 := by
  unfold tab
  simp only [List.mem_cons, forall_eq_or_imp, List.not_mem_nil, false_imp_iff, implies_true, and_true]
  exact ⟨ry_ok', rf3_ok, rf4_ok, rf5_ok, rf6_ok, rf7_ok, rf8_ok, rf9_ok, rf10_ok, rf11_ok, rf12_ok, rf13_ok, rf14_ok, rf15_ok, rf16_ok, rf17_ok, rf18_ok, rf19_ok, rf20_ok, rf21_ok, rf22_ok, rf23_ok, rf24_ok, rf25_ok, rf26_ok, rf27_ok, rf28_ok, rf29_ok, rf30_ok, rf31_ok, rf32_ok, rf33_ok, rf34_ok, rf35_ok, rf36_ok, rf37_ok, rf38_ok, rf39_ok, rf40_ok, rf41_ok, rf42_ok, rf43_ok, rf44_ok, rf45_ok, rf46_ok, rf47_ok, rf48_ok, rf49_ok, rf50_ok, rf51_ok, rf52_ok, rf53_ok, rf54_ok, rf55_ok, rf56_ok, rf57_ok, rf58_ok, rf59_ok, rf60_ok, rf61_ok, rf62_ok, rf63_ok, rf64_ok, rf65_ok, rf66_ok, rf67_ok, rf68_ok, rf69_ok, rf70_ok, rf71_ok, rf72_ok, rf73_ok, rf74_ok, rf75_ok, rf76_ok, rf77_ok, rf78_ok, rf79_ok, rf80_ok, rf81_ok, rf82_ok, rf83_ok, rf84_ok, rf85_ok, rf86_ok, rf87_ok, rf88_ok, rf89_ok, rf90_ok, rf91_ok, rf92_ok, rf93_ok, rf94_ok, rf95_ok, rf96_ok, rf104_ok, rf105_ok, rf106_ok, rf107_ok, rf108_ok, rf109_ok, rf143_ok, rf144_ok⟩
end Go.AM
namespace Go.AM
open Go Go.Proofs
abbrev nilS : Value := .slice none 0 0
def k1n (o : Option Value) (k : Value → Res2) : Res2 := match o with
  | some r => k r
  | none => none
theorem k1_fun : k1 = k1n := by
  funext o k
  cases o with
  | none => rfl
  | some r => exact fVal_eq r k
theorem fVal_fun : (@fVal Res2 : Value → (Value → Res2) → Res2) = fun v k => k v := by
  funext v k
  exact fVal_eq v k
noncomputable def vcalln (P : Program) (base : Nat) (m : M) (b : Builtin) (tys : List TypeId) (vs : List Value) : Option (Value × M) := match b with
  | .len => match tys, vs with
    | t :: _, [x] => match mlen P t x with
      | some r => some (r, m)
      | none => none
    | _, _ => none
  | .min => match vs with
    | x :: xs => match mfold mmin2 x xs with
      | some r => some (r, m)
      | none => none
    | _ => none
  | .max => match vs with
    | x :: xs => match mfold mmax2 x xs with
      | some r => some (r, m)
      | none => none
    | _ => none
  | b => xbuiltin P base m b tys vs
theorem vcall_fun : vcall = vcalln := by
  funext P base m b tys vs
  unfold vcall vcalln
  cases b <;> first
    | rfl
    | (simp only [xbuiltin, obuiltin, fVal_eq]; done)
    | (simp only [xbuiltin, obuiltin, fVal_eq]; rfl)
def vi (n : Int) : Value := .int .i64 n
def rowz (z : Nat) (ex : Bool) (cs : List Value) : Row := { esz := z, ex := ex, ro := false, cells := cs }
abbrev sl (p N : Nat) : Value := .slice (some ⟨p, 0, none⟩) N N
abbrev pt (p off : Nat) : Value := .pointer (some ⟨p, off, none⟩)
/-- A slice that grows: nil while it has nothing, else a row of its own. -/
def Grow (z b : Nat) (m : M) (v : Value) (cs : List Value) (n : Nat) : Prop :=
  (n = 0 ∧ v = .slice none 0 0 ∧ cs = []) ∨ ∃ r, 1 ≤ n ∧ b ≤ r ∧ v = sl r n ∧ m[r]? = some (rowz z false cs) ∧ cs.length = n * z
def Keeps (n : Nat) (m m' : M) : Prop := m.length ≤ m'.length ∧ ∀ i, i < n → m'[i]? = m[i]?
theorem Keeps.refl (n : Nat) (m : M) : Keeps n m m := ⟨Nat.le_refl _, fun _ _ => rfl⟩
theorem Keeps.trans {n : Nat} {a b c : M} (h : Keeps n a b) (k : Keeps n b c) : Keeps n a c := ⟨Nat.le_trans h.1 k.1, fun i hi => (k.2 i hi).trans (h.2 i hi)⟩
theorem Keeps.mono {n k : Nat} {a b : M} (h : Keeps n a b) (hk : k ≤ n) : Keeps k a b := ⟨h.1, fun i hi => h.2 i (by omega)⟩
theorem Keeps.push (n : Nat) (m : M) (h : n ≤ m.length) (x : List Row) : Keeps n m (m ++ x) := ⟨by simp, fun i hi => List.getElem?_append_left (by omega)⟩
theorem Keeps.set (n : Nat) (m : M) (r : Nat) (row : Row) (h : n ≤ r) : Keeps n m (m.set r row) := ⟨by simp, fun i hi => List.getElem?_set_ne (by omega)⟩
abbrev wr (n : Int) : Int := IntKind.i64.wrap n
def cellR (cs : List Value) : Row := { esz := 0, ex := true, ro := false, cells := cs }
theorem wr_id {n : Int} (h0 : -4611686018427387904 ≤ n) (h1 : n ≤ 4611686018427387904) : wr n = n := by
  unfold wr IntKind.wrap
  simp [IntKind.bits, IntKind.signed]
  omega
theorem wr_succ (j : Nat) (h : j ≤ 1000000) : wr ((j : Int) + 1) = ((j + 1 : Nat) : Int) := (wr_id (by omega) (by omega)).trans (by omega)
theorem lss_nat (i j : Nat) : mbin E .lss 3 (vi i) (vi j) = some (.bool (decide (i < j))) := by
  have e : mbin E .lss 3 (vi i) (vi j) = some (.bool (decide ((i : Int) < j))) := rfl
  rw [e]
  congr 2
  exact decide_eq_decide.2 (by omega)
theorem splice_one (cs : List Value) (off : Nat) (v : Value) (h : off < cs.length) : splice cs off [v] = cs.set off v := by
  unfold splice
  rw [List.set_eq_take_append_cons_drop, if_pos h]
  simp
theorem mwrite_one {base : Nat} {m : M} {p off : Nat} {v : Value} {row : Row} (hb : base ≤ p) (hr : m[p]? = some row) (hro : row.ro = false) (ho : off < row.cells.length) (hv : v.oneCell' = true) :
    mwrite base m p off [v] = some (m.set p { row with cells := row.cells.set off v }) := by
  unfold mwrite
  rw [if_neg (by omega), hr]
  simp only [hro, Bool.false_eq_true, if_false, List.length_cons, List.length_nil, List.all_cons, List.all_nil, hv, Bool.and_self, if_true]
  rw [if_pos (by omega), splice_one _ _ _ ho, fList_eq, fList_eq]
theorem add1 (j : Nat) (h : j ≤ 1000000) : mbin E .add 3 (vi j) (.int .i64 1) = some (vi ((j + 1 : Nat) : Int)) := by
  have e : mbin E .add 3 (vi j) (.int .i64 1) = some (vi (wr ((j : Int) + 1))) := rfl
  rw [e, wr_succ j h]
theorem kB_same (m : M) (v : Value) : kB m (some (.ret v, m)) = some (.ret v, m) := by
  simp only [kB, List.drop_length, List.append_nil, fList_eq]
theorem k2s (a : Value) (m : M) (k : Value → M → Res2) : k2 (some (a, m)) k = k a m := Eq.trans rfl rfl
theorem k1s (a : Value) (k : Value → Res2) : k1n (some a) k = k a := Eq.trans rfl rfl
theorem kss (m : M) (k : M → Res2) : ks (some m) k = k m := Eq.trans rfl rfl
theorem kcs (a : Value) (m : M) (k p : Value → M → Res2) : kc (some (.ret a, m)) k p = k a m := Eq.trans rfl rfl
theorem kbt (t f : Res2) : kb (.bool true) t f = t := Eq.trans rfl rfl
theorem kbf (t f : Res2) : kb (.bool false) t f = f := Eq.trans rfl rfl
theorem k0s (a : Value) (k : Value → Res2) : k0 (some a) k = k a := Eq.trans rfl rfl
theorem Grow.base {z b b' : Nat} {m : M} {v : Value} {cs : List Value} {n : Nat} (h : Grow z b m v cs n) (hb : b' ≤ b) : Grow z b' m v cs n := by
  rcases h with h | ⟨r, h1, h2, h3⟩
  · exact .inl h
  · exact .inr ⟨r, h1, by omega, h3⟩
theorem box_cell {m : M} {q : Nat} {cs : List Value} (h : m[q]? = some (cellR cs)) (j : Nat) (v : Value) (hv : cs[j]? = some v) : mcell m q j = some v := by
  unfold mcell
  rw [h]
  exact hv
theorem bxa2 (m : M) (a0 a1 : Value) : xbox m (.agg #[a0, a1]) = some (pt m.length 0, m ++ [cellR [a0, a1]]) := by
  have e : xbox m (.agg #[a0, a1]) = xlen m fun k => xpush m (cellR [a0, a1]) fun m' => some (pt k 0, m') := by kernel_rfl
  rw [e, xlen_eq, fNat_eq, xpush_eq, fList_eq]
theorem bxa3 (m : M) (a0 a1 a2 : Value) : xbox m (.agg #[a0, a1, a2]) = some (pt m.length 0, m ++ [cellR [a0, a1, a2]]) := by
  have e : xbox m (.agg #[a0, a1, a2]) = xlen m fun k => xpush m (cellR [a0, a1, a2]) fun m' => some (pt k 0, m') := by kernel_rfl
  rw [e, xlen_eq, fNat_eq, xpush_eq, fList_eq]
theorem rem3 (a b : Int) (h : b ≠ 0) : mbin E .rem 3 (vi a) (vi b) = some (vi (a.tmod b)) := by
  have e : mbin E .rem 3 (vi a) (vi b) = if b = 0 then none else some (vi (a.tmod b)) := by kernel_rfl
  rw [e, if_neg h]
theorem quo3 (a b : Int) (h : b ≠ 0) : mbin E .quo 3 (vi a) (vi b) = some (vi (wr (a.tdiv b))) := by
  have e : mbin E .quo 3 (vi a) (vi b) = if b = 0 then none else some (vi (wr (a.tdiv b))) := by kernel_rfl
  rw [e, if_neg h]
theorem add3 (a b : Int) : mbin E .add 3 (vi a) (vi b) = some (vi (wr (a + b))) := by kernel_rfl
theorem mul3 (a b : Int) : mbin E .mul 3 (vi a) (vi b) = some (vi (wr (a * b))) := by kernel_rfl
theorem lss3 (a b : Int) : mbin E .lss 3 (vi a) (vi b) = some (.bool (decide (a < b))) := by kernel_rfl
theorem leq3 (a b : Int) : mbin E .leq 3 (vi a) (vi b) = some (.bool (decide (a ≤ b))) := by kernel_rfl
theorem gtr3 (a b : Int) : mbin E .gtr 3 (vi a) (vi b) = some (.bool (decide (a > b))) := by kernel_rfl
theorem geq3 (a b : Int) : mbin E .geq 3 (vi a) (vi b) = some (.bool (decide (a ≥ b))) := by kernel_rfl
theorem eql3 (a b : Int) : mbin E .eql 3 (vi a) (vi b) = some (.bool (decide (a = b))) := by
  have e : mbin E .eql 3 (vi a) (vi b) = some (.bool (a == b)) := by kernel_rfl
  rw [e]; congr 2
theorem neq3 (a b : Int) : mbin E .neq 3 (vi a) (vi b) = some (.bool (!decide (a = b))) := by
  have e : mbin E .neq 3 (vi a) (vi b) = some (.bool (!(a == b))) := by kernel_rfl
  rw [e]; congr 2
theorem eql29 (a b : Int) : mbin E .eql 29 (vi a) (vi b) = some (.bool (decide (a = b))) := by
  have e : mbin E .eql 29 (vi a) (vi b) = some (.bool (a == b)) := by kernel_rfl
  rw [e]; congr 2
theorem neq29 (a b : Int) : mbin E .neq 29 (vi a) (vi b) = some (.bool (!decide (a = b))) := by
  have e : mbin E .neq 29 (vi a) (vi b) = some (.bool (!(a == b))) := by kernel_rfl
  rw [e]; congr 2
theorem not4 (b : Bool) : mun .not (.bool b) = some (.bool !b) := by kernel_rfl
theorem ld3 (m : M) (r off : Nat) : xload E.P m 3 (pt r off) = mcell m r off := by
  have e : xload E.P m 3 (pt r off) = xcell m r off := by kernel_rfl
  rw [e, xcell_eq]
theorem st3 (base : Nat) (m : M) (p off : Nat) (x : Int) : xstore E.P base m 3 (pt p off) (vi x) = mwrite base m p off [(vi x)] := by
  have e : xstore E.P base m 3 (pt p off) (vi x) = xwrite base m p off [(vi x)] := by kernel_rfl
  rw [e, xwrite_eq]
theorem ld50 (m : M) (r off : Nat) : xload E.P m 50 (pt r off) = mcell m r off := by
  have e : xload E.P m 50 (pt r off) = xcell m r off := by kernel_rfl
  rw [e, xcell_eq]
theorem st50 (base : Nat) (m : M) (p off : Nat) (x : Int) : xstore E.P base m 50 (pt p off) (vi x) = mwrite base m p off [(vi x)] := by
  have e : xstore E.P base m 50 (pt p off) (vi x) = xwrite base m p off [(vi x)] := by kernel_rfl
  rw [e, xwrite_eq]
theorem ld9 (m : M) (r off : Nat) : xload E.P m 9 (pt r off) = mcell m r off := by
  have e : xload E.P m 9 (pt r off) = xcell m r off := by kernel_rfl
  rw [e, xcell_eq]
theorem ld24 (m : M) (r off : Nat) : xload E.P m 24 (pt r off) = mcell m r off := by
  have e : xload E.P m 24 (pt r off) = xcell m r off := by kernel_rfl
  rw [e, xcell_eq]
theorem st24 (base : Nat) (m : M) (p off q l c : Nat) : xstore E.P base m 24 (pt p off) (.slice (some ⟨q, 0, none⟩) l c) = mwrite base m p off [.slice (some ⟨q, 0, none⟩) l c] := by
  have e : xstore E.P base m 24 (pt p off) (.slice (some ⟨q, 0, none⟩) l c) = xwrite base m p off [.slice (some ⟨q, 0, none⟩) l c] := by kernel_rfl
  rw [e, xwrite_eq]
theorem ld33 (m : M) (r off : Nat) : xload E.P m 33 (pt r off) = mcell m r off := by
  have e : xload E.P m 33 (pt r off) = xcell m r off := by kernel_rfl
  rw [e, xcell_eq]
theorem ld34 (m : M) (r off : Nat) : xload E.P m 34 (pt r off) = mcell m r off := by
  have e : xload E.P m 34 (pt r off) = xcell m r off := by kernel_rfl
  rw [e, xcell_eq]
theorem ld42 (m : M) (r off : Nat) : xload E.P m 42 (pt r off) = mcell m r off := by
  have e : xload E.P m 42 (pt r off) = xcell m r off := by kernel_rfl
  rw [e, xcell_eq]
theorem st42 (base : Nat) (m : M) (p off q l c : Nat) : xstore E.P base m 42 (pt p off) (.slice (some ⟨q, 0, none⟩) l c) = mwrite base m p off [.slice (some ⟨q, 0, none⟩) l c] := by
  have e : xstore E.P base m 42 (pt p off) (.slice (some ⟨q, 0, none⟩) l c) = xwrite base m p off [.slice (some ⟨q, 0, none⟩) l c] := by kernel_rfl
  rw [e, xwrite_eq]
theorem ld45 (m : M) (r off : Nat) : xload E.P m 45 (pt r off) = mcell m r off := by
  have e : xload E.P m 45 (pt r off) = xcell m r off := by kernel_rfl
  rw [e, xcell_eq]
theorem st45 (base : Nat) (m : M) (p off q l c : Nat) : xstore E.P base m 45 (pt p off) (.slice (some ⟨q, 0, none⟩) l c) = mwrite base m p off [.slice (some ⟨q, 0, none⟩) l c] := by
  have e : xstore E.P base m 45 (pt p off) (.slice (some ⟨q, 0, none⟩) l c) = xwrite base m p off [.slice (some ⟨q, 0, none⟩) l c] := by kernel_rfl
  rw [e, xwrite_eq]
theorem al68 (m : M) : xalloc E.P m 68 = some (pt m.length 0, m ++ [cellR [.int .i64 0, .int .i64 0]]) := by
  have e : xalloc E.P m 68 = xlen m fun n => xpush m (cellR [.int .i64 0, .int .i64 0]) fun m' => some (pt n 0, m') := by kernel_rfl
  rw [e, xlen_eq, fNat_eq, xpush_eq, fList_eq]
theorem ld68 {m : M} {r : Nat} {row : Row} {off : Nat} (h : m[r]? = some row) (hl : off + 2 ≤ row.cells.length) : xload E.P m 68 (pt r off) = some (.agg ((row.cells.drop off).take 2).toArray) := by
  have e : xload E.P m 68 (pt r off) = (xread m r off 2).map fun cs => .agg cs.toArray := by kernel_rfl
  rw [e, xread_eq]
  unfold mread
  rw [h]
  simp only
  rw [if_pos hl]
  rfl
theorem ldb68 {m : M} {r : Nat} {a0 a1 : Value} (h : m[r]? = some (cellR [a0, a1])) : xload E.P m 68 (pt r 0) = some (.agg #[a0, a1]) := ld68 h (by simp [cellR])
theorem ml68 {m : M} {r : Nat} {a0 a1 : Value} (h : m[r]? = some (cellR [a0, a1])) : mload E.P m 68 (pt r 0) = some (.agg #[a0, a1]) := by
  have e : mload E.P m 68 (pt r 0) = (mread m r 0 2).map fun cs => .agg cs.toArray := by kernel_rfl
  rw [e]
  unfold mread
  rw [h]
  rfl
theorem st68 {base : Nat} {m : M} {p : Nat} (hb : base ≤ p) {a0 a1 b0 b1 : Value} (h : m[p]? = some (cellR [b0, b1])) (hone : ([a0, a1] : List Value).all (·.oneCell') = true) : xstore E.P base m 68 (pt p 0) (.agg #[a0, a1]) = some (m.set p (cellR [a0, a1])) := by
  have e : xstore E.P base m 68 (pt p 0) (.agg #[a0, a1]) = xwrite base m p 0 [a0, a1] := by kernel_rfl
  rw [e, xwrite_eq]
  unfold mwrite
  rw [if_neg (by omega), h]
  simp only [cellR, splice, fList_eq, Bool.false_eq_true, if_false, hone, if_true]
  simp
theorem ff68_0 (p o : Nat) : mfieldAddr E.P 68 (pt p o) 0 = some (pt p (o + 0)) := by kernel_rfl
theorem ff68_1 (p o : Nat) : mfieldAddr E.P 68 (pt p o) 1 = some (pt p (o + 1)) := by kernel_rfl
theorem al96 (m : M) : xalloc E.P m 96 = some (pt m.length 0, m ++ [cellR [.int .i64 0, .int .i64 0]]) := by
  have e : xalloc E.P m 96 = xlen m fun n => xpush m (cellR [.int .i64 0, .int .i64 0]) fun m' => some (pt n 0, m') := by kernel_rfl
  rw [e, xlen_eq, fNat_eq, xpush_eq, fList_eq]
theorem ld96 {m : M} {r : Nat} {row : Row} {off : Nat} (h : m[r]? = some row) (hl : off + 2 ≤ row.cells.length) : xload E.P m 96 (pt r off) = some (.agg ((row.cells.drop off).take 2).toArray) := by
  have e : xload E.P m 96 (pt r off) = (xread m r off 2).map fun cs => .agg cs.toArray := by kernel_rfl
  rw [e, xread_eq]
  unfold mread
  rw [h]
  simp only
  rw [if_pos hl]
  rfl
theorem ldb96 {m : M} {r : Nat} {a0 a1 : Value} (h : m[r]? = some (cellR [a0, a1])) : xload E.P m 96 (pt r 0) = some (.agg #[a0, a1]) := ld96 h (by simp [cellR])
theorem ml96 {m : M} {r : Nat} {a0 a1 : Value} (h : m[r]? = some (cellR [a0, a1])) : mload E.P m 96 (pt r 0) = some (.agg #[a0, a1]) := by
  have e : mload E.P m 96 (pt r 0) = (mread m r 0 2).map fun cs => .agg cs.toArray := by kernel_rfl
  rw [e]
  unfold mread
  rw [h]
  rfl
theorem st96 {base : Nat} {m : M} {p : Nat} (hb : base ≤ p) {a0 a1 b0 b1 : Value} (h : m[p]? = some (cellR [b0, b1])) (hone : ([a0, a1] : List Value).all (·.oneCell') = true) : xstore E.P base m 96 (pt p 0) (.agg #[a0, a1]) = some (m.set p (cellR [a0, a1])) := by
  have e : xstore E.P base m 96 (pt p 0) (.agg #[a0, a1]) = xwrite base m p 0 [a0, a1] := by kernel_rfl
  rw [e, xwrite_eq]
  unfold mwrite
  rw [if_neg (by omega), h]
  simp only [cellR, splice, fList_eq, Bool.false_eq_true, if_false, hone, if_true]
  simp
theorem ff96_0 (p o : Nat) : mfieldAddr E.P 96 (pt p o) 0 = some (pt p (o + 0)) := by kernel_rfl
theorem ff96_1 (p o : Nat) : mfieldAddr E.P 96 (pt p o) 1 = some (pt p (o + 1)) := by kernel_rfl
theorem al26 (m : M) : xalloc E.P m 26 = some (pt m.length 0, m ++ [cellR [.slice none 0 0, .int .i64 0]]) := by
  have e : xalloc E.P m 26 = xlen m fun n => xpush m (cellR [.slice none 0 0, .int .i64 0]) fun m' => some (pt n 0, m') := by kernel_rfl
  rw [e, xlen_eq, fNat_eq, xpush_eq, fList_eq]
theorem ld26 {m : M} {r : Nat} {row : Row} {off : Nat} (h : m[r]? = some row) (hl : off + 2 ≤ row.cells.length) : xload E.P m 26 (pt r off) = some (.agg ((row.cells.drop off).take 2).toArray) := by
  have e : xload E.P m 26 (pt r off) = (xread m r off 2).map fun cs => .agg cs.toArray := by kernel_rfl
  rw [e, xread_eq]
  unfold mread
  rw [h]
  simp only
  rw [if_pos hl]
  rfl
theorem ldb26 {m : M} {r : Nat} {a0 a1 : Value} (h : m[r]? = some (cellR [a0, a1])) : xload E.P m 26 (pt r 0) = some (.agg #[a0, a1]) := ld26 h (by simp [cellR])
theorem ml26 {m : M} {r : Nat} {a0 a1 : Value} (h : m[r]? = some (cellR [a0, a1])) : mload E.P m 26 (pt r 0) = some (.agg #[a0, a1]) := by
  have e : mload E.P m 26 (pt r 0) = (mread m r 0 2).map fun cs => .agg cs.toArray := by kernel_rfl
  rw [e]
  unfold mread
  rw [h]
  rfl
theorem st26 {base : Nat} {m : M} {p : Nat} (hb : base ≤ p) {a0 a1 b0 b1 : Value} (h : m[p]? = some (cellR [b0, b1])) (hone : ([a0, a1] : List Value).all (·.oneCell') = true) : xstore E.P base m 26 (pt p 0) (.agg #[a0, a1]) = some (m.set p (cellR [a0, a1])) := by
  have e : xstore E.P base m 26 (pt p 0) (.agg #[a0, a1]) = xwrite base m p 0 [a0, a1] := by kernel_rfl
  rw [e, xwrite_eq]
  unfold mwrite
  rw [if_neg (by omega), h]
  simp only [cellR, splice, fList_eq, Bool.false_eq_true, if_false, hone, if_true]
  simp
theorem ff26_0 (p o : Nat) : mfieldAddr E.P 26 (pt p o) 0 = some (pt p (o + 0)) := by kernel_rfl
theorem ff26_1 (p o : Nat) : mfieldAddr E.P 26 (pt p o) 1 = some (pt p (o + 1)) := by kernel_rfl
theorem al64 (m : M) : xalloc E.P m 64 = some (pt m.length 0, m ++ [cellR [.int .i64 0, .int .i64 0, .int .i64 0]]) := by
  have e : xalloc E.P m 64 = xlen m fun n => xpush m (cellR [.int .i64 0, .int .i64 0, .int .i64 0]) fun m' => some (pt n 0, m') := by kernel_rfl
  rw [e, xlen_eq, fNat_eq, xpush_eq, fList_eq]
theorem ld64 {m : M} {r : Nat} {row : Row} {off : Nat} (h : m[r]? = some row) (hl : off + 3 ≤ row.cells.length) : xload E.P m 64 (pt r off) = some (.agg ((row.cells.drop off).take 3).toArray) := by
  have e : xload E.P m 64 (pt r off) = (xread m r off 3).map fun cs => .agg cs.toArray := by kernel_rfl
  rw [e, xread_eq]
  unfold mread
  rw [h]
  simp only
  rw [if_pos hl]
  rfl
theorem ldb64 {m : M} {r : Nat} {a0 a1 a2 : Value} (h : m[r]? = some (cellR [a0, a1, a2])) : xload E.P m 64 (pt r 0) = some (.agg #[a0, a1, a2]) := ld64 h (by simp [cellR])
theorem st64 {base : Nat} {m : M} {p : Nat} (hb : base ≤ p) {a0 a1 a2 b0 b1 b2 : Value} (h : m[p]? = some (cellR [b0, b1, b2])) (hone : ([a0, a1, a2] : List Value).all (·.oneCell') = true) : xstore E.P base m 64 (pt p 0) (.agg #[a0, a1, a2]) = some (m.set p (cellR [a0, a1, a2])) := by
  have e : xstore E.P base m 64 (pt p 0) (.agg #[a0, a1, a2]) = xwrite base m p 0 [a0, a1, a2] := by kernel_rfl
  rw [e, xwrite_eq]
  unfold mwrite
  rw [if_neg (by omega), h]
  simp only [cellR, splice, fList_eq, Bool.false_eq_true, if_false, hone, if_true]
  simp
theorem ff64_0 (p o : Nat) : mfieldAddr E.P 64 (pt p o) 0 = some (pt p (o + 0)) := by kernel_rfl
theorem ff64_1 (p o : Nat) : mfieldAddr E.P 64 (pt p o) 1 = some (pt p (o + 1)) := by kernel_rfl
theorem ff64_2 (p o : Nat) : mfieldAddr E.P 64 (pt p o) 2 = some (pt p (o + 2)) := by kernel_rfl
theorem al47 (m : M) : xalloc E.P m 47 = some (pt m.length 0, m ++ [cellR [.int .i64 0, .slice none 0 0, .slice none 0 0, .slice none 0 0, .slice none 0 0]]) := by
  have e : xalloc E.P m 47 = xlen m fun n => xpush m (cellR [.int .i64 0, .slice none 0 0, .slice none 0 0, .slice none 0 0, .slice none 0 0]) fun m' => some (pt n 0, m') := by kernel_rfl
  rw [e, xlen_eq, fNat_eq, xpush_eq, fList_eq]
theorem ld47 {m : M} {r : Nat} {row : Row} {off : Nat} (h : m[r]? = some row) (hl : off + 5 ≤ row.cells.length) : xload E.P m 47 (pt r off) = some (.agg ((row.cells.drop off).take 5).toArray) := by
  have e : xload E.P m 47 (pt r off) = (xread m r off 5).map fun cs => .agg cs.toArray := by kernel_rfl
  rw [e, xread_eq]
  unfold mread
  rw [h]
  simp only
  rw [if_pos hl]
  rfl
theorem ldb47 {m : M} {r : Nat} {a0 a1 a2 a3 a4 : Value} (h : m[r]? = some (cellR [a0, a1, a2, a3, a4])) : xload E.P m 47 (pt r 0) = some (.agg #[a0, a1, a2, a3, a4]) := ld47 h (by simp [cellR])
theorem ml47 {m : M} {r : Nat} {a0 a1 a2 a3 a4 : Value} (h : m[r]? = some (cellR [a0, a1, a2, a3, a4])) : mload E.P m 47 (pt r 0) = some (.agg #[a0, a1, a2, a3, a4]) := by
  have e : mload E.P m 47 (pt r 0) = (mread m r 0 5).map fun cs => .agg cs.toArray := by kernel_rfl
  rw [e]
  unfold mread
  rw [h]
  rfl
theorem st47 {base : Nat} {m : M} {p : Nat} (hb : base ≤ p) {a0 a1 a2 a3 a4 b0 b1 b2 b3 b4 : Value} (h : m[p]? = some (cellR [b0, b1, b2, b3, b4])) (hone : ([a0, a1, a2, a3, a4] : List Value).all (·.oneCell') = true) : xstore E.P base m 47 (pt p 0) (.agg #[a0, a1, a2, a3, a4]) = some (m.set p (cellR [a0, a1, a2, a3, a4])) := by
  have e : xstore E.P base m 47 (pt p 0) (.agg #[a0, a1, a2, a3, a4]) = xwrite base m p 0 [a0, a1, a2, a3, a4] := by kernel_rfl
  rw [e, xwrite_eq]
  unfold mwrite
  rw [if_neg (by omega), h]
  simp only [cellR, splice, fList_eq, Bool.false_eq_true, if_false, hone, if_true]
  simp
theorem ff47_0 (p o : Nat) : mfieldAddr E.P 47 (pt p o) 0 = some (pt p (o + 0)) := by kernel_rfl
theorem ff47_1 (p o : Nat) : mfieldAddr E.P 47 (pt p o) 1 = some (pt p (o + 3)) := by kernel_rfl
theorem ff47_2 (p o : Nat) : mfieldAddr E.P 47 (pt p o) 2 = some (pt p (o + 4)) := by kernel_rfl
theorem ld44 {m : M} {r : Nat} {row : Row} {off : Nat} (h : m[r]? = some row) (hl : off + 3 ≤ row.cells.length) : xload E.P m 44 (pt r off) = some (.agg ((row.cells.drop off).take 3).toArray) := by
  have e : xload E.P m 44 (pt r off) = (xread m r off 3).map fun cs => .agg cs.toArray := by kernel_rfl
  rw [e, xread_eq]
  unfold mread
  rw [h]
  simp only
  rw [if_pos hl]
  rfl
theorem ff44_0 (p o : Nat) : mfieldAddr E.P 44 (pt p o) 0 = some (pt p (o + 0)) := by kernel_rfl
theorem ff44_1 (p o : Nat) : mfieldAddr E.P 44 (pt p o) 1 = some (pt p (o + 1)) := by kernel_rfl
theorem ff44_2 (p o : Nat) : mfieldAddr E.P 44 (pt p o) 2 = some (pt p (o + 2)) := by kernel_rfl
theorem ix22 (p l c j : Nat) (h : j < l) : mindexAddr E.P 22 (.slice (some ⟨p, 0, none⟩) l c) (vi j) = some (pt p j) := by
  have e : mindexAddr E.P 22 (.slice (some ⟨p, 0, none⟩) l c) (vi j) = if 0 ≤ (j : Int) ∧ (j : Int) < l then some (.pointer (some ⟨p, 0 + ((j : Int)).toNat * 1, none⟩)) else none := by kernel_rfl
  rw [e, if_pos (by omega)]
  simp
theorem len22 (base : Nat) (m : M) (o l c : Nat) : vcalln E.P base m .len [22] [.slice (some ⟨o, 0, none⟩) l c] = some (vi l, m) := by kernel_rfl
theorem ix24 (p l c j : Nat) (h : j < l) : mindexAddr E.P 24 (.slice (some ⟨p, 0, none⟩) l c) (vi j) = some (pt p j) := by
  have e : mindexAddr E.P 24 (.slice (some ⟨p, 0, none⟩) l c) (vi j) = if 0 ≤ (j : Int) ∧ (j : Int) < l then some (.pointer (some ⟨p, 0 + ((j : Int)).toNat * 1, none⟩)) else none := by kernel_rfl
  rw [e, if_pos (by omega)]
  simp
theorem len24 (base : Nat) (m : M) (o l c : Nat) : vcalln E.P base m .len [24] [.slice (some ⟨o, 0, none⟩) l c] = some (vi l, m) := by kernel_rfl
theorem ix33 (p l c j : Nat) (h : j < l) : mindexAddr E.P 33 (.slice (some ⟨p, 0, none⟩) l c) (vi j) = some (pt p (j * 2)) := by
  have e : mindexAddr E.P 33 (.slice (some ⟨p, 0, none⟩) l c) (vi j) = if 0 ≤ (j : Int) ∧ (j : Int) < l then some (.pointer (some ⟨p, 0 + ((j : Int)).toNat * 2, none⟩)) else none := by kernel_rfl
  rw [e, if_pos (by omega)]
  simp
theorem len33 (base : Nat) (m : M) (o l c : Nat) : vcalln E.P base m .len [33] [.slice (some ⟨o, 0, none⟩) l c] = some (vi l, m) := by kernel_rfl
theorem ix34 (p l c j : Nat) (h : j < l) : mindexAddr E.P 34 (.slice (some ⟨p, 0, none⟩) l c) (vi j) = some (pt p (j * 2)) := by
  have e : mindexAddr E.P 34 (.slice (some ⟨p, 0, none⟩) l c) (vi j) = if 0 ≤ (j : Int) ∧ (j : Int) < l then some (.pointer (some ⟨p, 0 + ((j : Int)).toNat * 2, none⟩)) else none := by kernel_rfl
  rw [e, if_pos (by omega)]
  simp
theorem len34 (base : Nat) (m : M) (o l c : Nat) : vcalln E.P base m .len [34] [.slice (some ⟨o, 0, none⟩) l c] = some (vi l, m) := by kernel_rfl
theorem ix23 (p l c j : Nat) (h : j < l) : mindexAddr E.P 23 (.slice (some ⟨p, 0, none⟩) l c) (vi j) = some (pt p j) := by
  have e : mindexAddr E.P 23 (.slice (some ⟨p, 0, none⟩) l c) (vi j) = if 0 ≤ (j : Int) ∧ (j : Int) < l then some (.pointer (some ⟨p, 0 + ((j : Int)).toNat * 1, none⟩)) else none := by kernel_rfl
  rw [e, if_pos (by omega)]
  simp
theorem len23 (base : Nat) (m : M) (o l c : Nat) : vcalln E.P base m .len [23] [.slice (some ⟨o, 0, none⟩) l c] = some (vi l, m) := by kernel_rfl
theorem ix42 (p l c j : Nat) (h : j < l) : mindexAddr E.P 42 (.slice (some ⟨p, 0, none⟩) l c) (vi j) = some (pt p j) := by
  have e : mindexAddr E.P 42 (.slice (some ⟨p, 0, none⟩) l c) (vi j) = if 0 ≤ (j : Int) ∧ (j : Int) < l then some (.pointer (some ⟨p, 0 + ((j : Int)).toNat * 1, none⟩)) else none := by kernel_rfl
  rw [e, if_pos (by omega)]
  simp
theorem len42 (base : Nat) (m : M) (o l c : Nat) : vcalln E.P base m .len [42] [.slice (some ⟨o, 0, none⟩) l c] = some (vi l, m) := by kernel_rfl
theorem ix45 (p l c j : Nat) (h : j < l) : mindexAddr E.P 45 (.slice (some ⟨p, 0, none⟩) l c) (vi j) = some (pt p (j * 3)) := by
  have e : mindexAddr E.P 45 (.slice (some ⟨p, 0, none⟩) l c) (vi j) = if 0 ≤ (j : Int) ∧ (j : Int) < l then some (.pointer (some ⟨p, 0 + ((j : Int)).toNat * 3, none⟩)) else none := by kernel_rfl
  rw [e, if_pos (by omega)]
  simp
theorem len45 (base : Nat) (m : M) (o l c : Nat) : vcalln E.P base m .len [45] [.slice (some ⟨o, 0, none⟩) l c] = some (vi l, m) := by kernel_rfl
theorem len45n (base : Nat) (m : M) : vcalln E.P base m .len [45] [nilS] = some (vi 0, m) := by kernel_rfl
theorem ix55 (p l c j : Nat) (h : j < l) : mindexAddr E.P 55 (.slice (some ⟨p, 0, none⟩) l c) (vi j) = some (pt p j) := by
  have e : mindexAddr E.P 55 (.slice (some ⟨p, 0, none⟩) l c) (vi j) = if 0 ≤ (j : Int) ∧ (j : Int) < l then some (.pointer (some ⟨p, 0 + ((j : Int)).toNat * 1, none⟩)) else none := by kernel_rfl
  rw [e, if_pos (by omega)]
  simp
theorem mk55 (m : M) (n : Nat) (h : n ≤ 100) : xmakeSlice E.P m 55 (vi n) (vi n) = some (sl m.length n, m ++ [rowz 1 true (repCells [.int .i64 0] n)]) := by
  have e : xmakeSlice E.P m 55 (vi n) (vi n) = if ((n : Int) < 0 ∨ (n : Int) < n ∨ (n : Int) > 2 ^ 40 ∨ 8 > 2 ^ 7) then none else
    xlen m fun k => fNat n fun l => fNat n fun c => fList (repCells [.int .i64 0] c) fun cs => xpush m (rowz 1 true cs) fun m' => some (.slice (some ⟨k, 0, none⟩) l c, m') := by kernel_rfl
  rw [e, if_neg (by omega), xlen_eq, fNat_eq, fNat_eq, fNat_eq, fList_eq, xpush_eq, fList_eq]
end Go.AM
