import Derived.KernelRfl
import Derived.Laws.StructEq
import Derived.Test.YtidapopeeoanjaaDoorRows
import Derived.WalkKit
import Derived.Test.YtidapopeeoanjaaDoorAmModel
import Derived.Test.YtidapopeeoanjaaDoorAmOps5
import Derived.Test.YtidapopeeoanjaaDoorAmOps6
import Derived.Test.YtidapopeeoanjaaDoorAmCode
import Derived.Test.YtidapopeeoanjaaDoorAmDraw5
import Derived.Test.YtidapopeeoanjaaDoorAmEq
import Derived.Test.YtidapopeeoanjaaDoorRBase
set_option linter.unusedVariables false
set_option linter.unusedSimpArgs false
set_option linter.unusedSectionVars false
namespace Go.AM
open Go Go.Proofs
noncomputable def r11_L0 (call : CallF) (fuel base : Nat) (kx0 : Value → Value → M → Res2) (n : Nat) : Value → Value → Value → M → Res2 :=
  Nat.rec (motive := fun _ => Value → Value → Value → M → Res2) (fun _ _ _ _ => none)
    (fun _ ih x3 x4 x5 m =>
      (k1 (mbin E .mul 3 (.int .i64 2) x3) fun v18_4 => (k1 (mbin E .lss 3 x5 v18_4) fun v19_5 => (kb v19_5 (k1 (mbin E .add 3 x5 (.int .i64 1)) fun v23_6 => (k1 (mbin E .mul 3 (.int .i64 2) x3) fun v25_7 => (k1 (mbin E .sub 3 v25_7 x5) fun v27_8 => (k2 (vcall E.P base m .min [3, 3] [v23_6, v27_8]) fun v28_9 m => (k1 (mbin E .sub 3 x3 v28_9) fun v31_10 => (k1 (mslice E.P m 9 (.string (ByteArray.mk #[46, 46, 46, 46, 46, 46, 46, 46])) none (some v31_10) none) fun v32_11 => (k1 (mbin E .mul 3 (.int .i64 2) v28_9) fun v34_12 => (k1 (mslice E.P m 9 (.string (ByteArray.mk #[35, 35, 35, 35, 35, 35, 35, 35])) none (some v34_12) none) fun v35_13 => (k1 (mbin E .add 9 v32_11 v35_13) fun v36_14 => (k1 (mbin E .sub 3 x3 v28_9) fun v39_15 => (k1 (mslice E.P m 9 (.string (ByteArray.mk #[46, 46, 46, 46, 46, 46, 46, 46])) none (some v39_15) none) fun v40_16 => (k1 (mbin E .add 9 v36_14 v40_16) fun v41_17 => (k2 (xbuildSlice E.P m 22 1 [(0, v41_17)]) fun v44_18 m => (k2 (vcall E.P base m .append [22, 22] [x4, v44_18]) fun v45_19 m => (k1 (mbin E .add 3 x5 (.int .i64 1)) fun v21_20 => (ih x3 v45_19 v21_20 m)))))))))))))))) (kx0 x3 x4 m))))) n
noncomputable def r11 (call : CallF) (fuel base : Nat) (x0 : Value) (m : M) : Res2 :=
  (k1 (mbin E .rem 5 x0 (.int .u8 4)) fun v13_1 => (k1 (mconvert E.P 5 3 v13_1) fun v14_2 => (k1 (mbin E .add 3 (.int .i64 1) v14_2) fun v15_3 => (r11_L0 call fuel base (fun y3_21 y4_22 m => (kc (call base 24 [y4_22] m) (fun v48_23 m => (k1 (mextract 0 v48_23) fun v49_24 => (k1 (mextract 1 v48_23) fun v50_25 => (kc (call base 25 [y4_22] m) (fun v53_26 m => (k1 (mextract 0 v53_26) fun v54_27 => (k1 (mextract 1 v53_26) fun v55_28 => (k1 (mbin E .eql 26 v50_25 (.int .i64 0)) fun v57_29 => (kb v57_29 (k1 (mbin E .eql 26 v55_28 (.int .i64 0)) fun v60_30 => (k0 (mpick (.bool true) v60_30 (.bool false)) fun v61_31 => (kb v61_31 (k1 (mbin E .add 3 y3_21 (.int .i64 1)) fun v66_32 => (k1 (mbin E .mul 3 y3_21 v66_32) fun v67_33 => (k1 (mbin E .quo 3 v67_33 (.int .i64 2)) fun v68_34 => (k1 (mbin E .shl 3 (.int .i64 1) v68_34) fun v69_35 => (k1 (mbin E .eql 3 v49_24 v69_35) fun v70_36 => (k0 (mpick (.bool true) v70_36 (.bool false)) fun v71_37 => (kb v71_37 (k1 (mun .neg v54_27) fun v75_38 => (k2 (vcall E.P base m .max [3, 3] [v54_27, v75_38]) fun v76_39 m => (k1 (mbin E .eql 3 v76_39 v49_24) fun v78_40 => (k0 (mpick (.bool true) v78_40 (.bool false)) fun v79_41 => (kb v79_41 (kc (call base 13 [] m) (fun v81_42 m => (k0 (mpick (.bool true) v81_42 (.bool false)) fun v82_43 => (fVal v82_43 fun v => some (.ret v, m)))) (fun v m => some (.pan v, m))) (k0 (mpick (.bool false) undef (.bool false)) fun v82_44 => (fVal v82_44 fun v => some (.ret v, m)))))))) (k0 (mpick (.bool false) undef (.bool false)) fun v79_45 => (kb v79_45 (kc (call base 13 [] m) (fun v81_46 m => (k0 (mpick (.bool true) v81_46 (.bool false)) fun v82_47 => (fVal v82_47 fun v => some (.ret v, m)))) (fun v m => some (.pan v, m))) (k0 (mpick (.bool false) undef (.bool false)) fun v82_48 => (fVal v82_48 fun v => some (.ret v, m)))))))))))) (k0 (mpick (.bool false) undef (.bool false)) fun v71_49 => (kb v71_49 (k1 (mun .neg v54_27) fun v75_50 => (k2 (vcall E.P base m .max [3, 3] [v54_27, v75_50]) fun v76_51 m => (k1 (mbin E .eql 3 v76_51 v49_24) fun v78_52 => (k0 (mpick (.bool true) v78_52 (.bool false)) fun v79_53 => (kb v79_53 (kc (call base 13 [] m) (fun v81_54 m => (k0 (mpick (.bool true) v81_54 (.bool false)) fun v82_55 => (fVal v82_55 fun v => some (.ret v, m)))) (fun v m => some (.pan v, m))) (k0 (mpick (.bool false) undef (.bool false)) fun v82_56 => (fVal v82_56 fun v => some (.ret v, m)))))))) (k0 (mpick (.bool false) undef (.bool false)) fun v79_57 => (kb v79_57 (kc (call base 13 [] m) (fun v81_58 m => (k0 (mpick (.bool true) v81_58 (.bool false)) fun v82_59 => (fVal v82_59 fun v => some (.ret v, m)))) (fun v m => some (.pan v, m))) (k0 (mpick (.bool false) undef (.bool false)) fun v82_60 => (fVal v82_60 fun v => some (.ret v, m)))))))))) (k0 (mpick (.bool false) undef (.bool false)) fun v61_61 => (kb v61_61 (k1 (mbin E .add 3 y3_21 (.int .i64 1)) fun v66_62 => (k1 (mbin E .mul 3 y3_21 v66_62) fun v67_63 => (k1 (mbin E .quo 3 v67_63 (.int .i64 2)) fun v68_64 => (k1 (mbin E .shl 3 (.int .i64 1) v68_64) fun v69_65 => (k1 (mbin E .eql 3 v49_24 v69_65) fun v70_66 => (k0 (mpick (.bool true) v70_66 (.bool false)) fun v71_67 => (kb v71_67 (k1 (mun .neg v54_27) fun v75_68 => (k2 (vcall E.P base m .max [3, 3] [v54_27, v75_68]) fun v76_69 m => (k1 (mbin E .eql 3 v76_69 v49_24) fun v78_70 => (k0 (mpick (.bool true) v78_70 (.bool false)) fun v79_71 => (kb v79_71 (kc (call base 13 [] m) (fun v81_72 m => (k0 (mpick (.bool true) v81_72 (.bool false)) fun v82_73 => (fVal v82_73 fun v => some (.ret v, m)))) (fun v m => some (.pan v, m))) (k0 (mpick (.bool false) undef (.bool false)) fun v82_74 => (fVal v82_74 fun v => some (.ret v, m)))))))) (k0 (mpick (.bool false) undef (.bool false)) fun v79_75 => (kb v79_75 (kc (call base 13 [] m) (fun v81_76 m => (k0 (mpick (.bool true) v81_76 (.bool false)) fun v82_77 => (fVal v82_77 fun v => some (.ret v, m)))) (fun v m => some (.pan v, m))) (k0 (mpick (.bool false) undef (.bool false)) fun v82_78 => (fVal v82_78 fun v => some (.ret v, m)))))))))))) (k0 (mpick (.bool false) undef (.bool false)) fun v71_79 => (kb v71_79 (k1 (mun .neg v54_27) fun v75_80 => (k2 (vcall E.P base m .max [3, 3] [v54_27, v75_80]) fun v76_81 m => (k1 (mbin E .eql 3 v76_81 v49_24) fun v78_82 => (k0 (mpick (.bool true) v78_82 (.bool false)) fun v79_83 => (kb v79_83 (kc (call base 13 [] m) (fun v81_84 m => (k0 (mpick (.bool true) v81_84 (.bool false)) fun v82_85 => (fVal v82_85 fun v => some (.ret v, m)))) (fun v m => some (.pan v, m))) (k0 (mpick (.bool false) undef (.bool false)) fun v82_86 => (fVal v82_86 fun v => some (.ret v, m)))))))) (k0 (mpick (.bool false) undef (.bool false)) fun v79_87 => (kb v79_87 (kc (call base 13 [] m) (fun v81_88 m => (k0 (mpick (.bool true) v81_88 (.bool false)) fun v82_89 => (fVal v82_89 fun v => some (.ret v, m)))) (fun v m => some (.pan v, m))) (k0 (mpick (.bool false) undef (.bool false)) fun v82_90 => (fVal v82_90 fun v => some (.ret v, m)))))))))))))) (fun v m => some (.pan v, m)))))) (fun v m => some (.pan v, m)))) fuel v15_3 (.slice none 0 0) (.int .i64 0) m))))
def keep11 : Keep := { region := fun i => ([[0], [3], [3, 4], [3, 4, 5], [3, 4, 5, 19], [3, 4, 5], [3, 4, 5, 6], [3, 4, 5, 7], [3, 4, 5], [3, 4, 8, 9], [3, 8, 9, 10, 11], [2]] : List (List Nat))[i]?, exit := fun i => ([[3, 4], [3, 4, 5]] : List (List Nat))[i]?, ret := some [2] }
noncomputable def r11_L0_R (call : CallF) (fuel base n : Nat) (vs : List Value) (m : M) (K : KT) : Res2 := match vs with
  | [x3, x4, x5] => r11_L0 call fuel base (fun y3 y4 m => K (.exit 0) { n := 83, l := [(3, y3), (4, y4)] } m) n x3 x4 x5 m
  | _ => none
noncomputable def lp11 (call : CallF) (fuel base : Nat) : Lp := lpsel [(0, fun T m K => kslots 83 [3, 4, 5] T fun vs => r11_L0_R call fuel base fuel vs m K)]
noncomputable def c11 : Code := Tryd.f11.body.getD .skip
theorem r11_L0_lk (call : CallF) (fuel base : Nat) : LoopsOk E call (lp11 call fuel base) fuel base 0 (loopB (blockB (seqR (seqL (seqR (seqR (seqR c11))))))) = (And (And True (And True True)) (And (And True (And True True)) True)) := by kernel_rfl
theorem r11_L0_ok (call : CallF) (fuel base : Nat) : LpOk E call (lp11 call fuel base) fuel base 0 (loopB (blockB (seqR (seqL (seqR (seqR (seqR c11))))))) := by
  refine loop_ok (kp := keep11) (hb := Eq.mpr (r11_L0_lk call fuel base) (And.intro (And.intro trivial (And.intro trivial trivial)) (And.intro (And.intro trivial (And.intro trivial trivial)) trivial))) 83 [3, 4, 5] (fun n vs m K => r11_L0_R call fuel base n vs m K) ?_ ?_ (fun _ _ _ => rfl)
  · intro vs m K
    unfold r11_L0_R
    split <;> rfl
  · intro n vs m K hl
    match vs, hl with
    | [x3, x4, x5], _ => show _ = _; kernel_rfl
theorem r11_eq (call : CallF) (fuel base : Nat) (x0 : Value) (m : M) : kbody E call keep11 (lp11 call fuel base) base Tryd.f11 [x0] m = r11 call fuel base x0 m := by
  kernel_rfl
noncomputable def rf11 : RF := fun call fuel base args m => match args with
  | [x0] => r11 call fuel base x0 m
  | _ => none
theorem r11_lk (call : CallF) (fuel base : Nat) : LoopsOk E call (lp11 call fuel base) fuel base 0 c11 = (And True (And True (And True (And (And True (LpOk E call (lp11 call fuel base) fuel base 0 (loopB (blockB (seqR (seqL (seqR (seqR (seqR c11))))))))) (And True (And True (And True True))))))) := by kernel_rfl
theorem r11_fn : E.P.funcs[11]? = some Tryd.f11 := by kernel_rfl
theorem r11_body : Tryd.f11.body = some c11 := by kernel_rfl
theorem rf11_ok : RFok E 11 rf11 := by
  refine ⟨Tryd.f11, r11_fn, fun call fuel base args m r _ h => ?_⟩
  unfold rf11 at h
  split at h
  · rw [← r11_eq] at h
    exact kbody_sound (c := c11) r11_body (Eq.mpr (r11_lk call fuel base) (And.intro trivial (And.intro trivial (And.intro trivial (And.intro (And.intro trivial (r11_L0_ok call fuel base)) (And.intro trivial (And.intro trivial (And.intro trivial trivial)))))))) h
  · simp at h
end Go.AM
namespace Go.AM
open Go Go.Proofs
noncomputable def r13 (call : CallF) (fuel base : Nat) (m : M) : Res2 :=
  (k2 (xbuildSlice E.P m 22 3 [(0, (.string (ByteArray.mk #[35, 35, 35]))), (1, (.string (ByteArray.mk #[35, 35, 35]))), (2, (.string (ByteArray.mk #[35, 35, 46])))]) fun v8_1 m => (kc (call base 24 [v8_1] m) (fun v9_2 m => (k1 (mextract 0 v9_2) fun v10_3 => (k1 (mextract 1 v9_2) fun v11_4 => (k2 (xbuildSlice E.P m 22 2 [(0, (.string (ByteArray.mk #[35, 35]))), (1, (.string (ByteArray.mk #[35, 35])))]) fun v13_5 m => (kc (call base 25 [v13_5] m) (fun v14_6 m => (k1 (mextract 0 v14_6) fun v15_7 => (k1 (mextract 1 v14_6) fun v16_8 => (k2 (xbuildSlice E.P m 22 2 [(0, (.string (ByteArray.mk #[35, 46]))), (1, (.string (ByteArray.mk #[46, 35])))]) fun v18_9 m => (kc (call base 23 [v18_9] m) (fun v19_10 m => (k1 (mextract 0 v19_10) fun v20_11 => (k1 (mextract 1 v19_10) fun v21_12 => (k1 (mbin E .eql 26 v11_4 (.int .i64 0)) fun v23_13 => (kb v23_13 (k1 (mbin E .eql 3 v10_3 (.int .i64 4)) fun v26_14 => (k0 (mpick (.bool true) v26_14 (.bool false)) fun v27_15 => (kb v27_15 (k1 (mbin E .eql 26 v16_8 (.int .i64 0)) fun v30_16 => (k0 (mpick (.bool true) v30_16 (.bool false)) fun v31_17 => (kb v31_17 (k1 (mbin E .eql 3 v15_7 (.int .i64 2)) fun v34_18 => (k0 (mpick (.bool true) v34_18 (.bool false)) fun v35_19 => (kb v35_19 (k1 (mbin E .eql 26 v21_12 (.int .i64 0)) fun v38_20 => (k0 (mpick (.bool true) v38_20 (.bool false)) fun v39_21 => (kb v39_21 (k2 (vcall E.P base m .len [36] [v20_11]) fun v42_22 m => (k1 (mbin E .geq 3 v42_22 (.int .i64 1)) fun v43_23 => (k0 (mpick (.bool true) v43_23 (.bool false)) fun v44_24 => (fVal v44_24 fun v => some (.ret v, m))))) (k0 (mpick (.bool false) undef (.bool false)) fun v44_25 => (fVal v44_25 fun v => some (.ret v, m)))))) (k0 (mpick (.bool false) undef (.bool false)) fun v39_26 => (kb v39_26 (k2 (vcall E.P base m .len [36] [v20_11]) fun v42_27 m => (k1 (mbin E .geq 3 v42_27 (.int .i64 1)) fun v43_28 => (k0 (mpick (.bool true) v43_28 (.bool false)) fun v44_29 => (fVal v44_29 fun v => some (.ret v, m))))) (k0 (mpick (.bool false) undef (.bool false)) fun v44_30 => (fVal v44_30 fun v => some (.ret v, m)))))))) (k0 (mpick (.bool false) undef (.bool false)) fun v35_31 => (kb v35_31 (k1 (mbin E .eql 26 v21_12 (.int .i64 0)) fun v38_32 => (k0 (mpick (.bool true) v38_32 (.bool false)) fun v39_33 => (kb v39_33 (k2 (vcall E.P base m .len [36] [v20_11]) fun v42_34 m => (k1 (mbin E .geq 3 v42_34 (.int .i64 1)) fun v43_35 => (k0 (mpick (.bool true) v43_35 (.bool false)) fun v44_36 => (fVal v44_36 fun v => some (.ret v, m))))) (k0 (mpick (.bool false) undef (.bool false)) fun v44_37 => (fVal v44_37 fun v => some (.ret v, m)))))) (k0 (mpick (.bool false) undef (.bool false)) fun v39_38 => (kb v39_38 (k2 (vcall E.P base m .len [36] [v20_11]) fun v42_39 m => (k1 (mbin E .geq 3 v42_39 (.int .i64 1)) fun v43_40 => (k0 (mpick (.bool true) v43_40 (.bool false)) fun v44_41 => (fVal v44_41 fun v => some (.ret v, m))))) (k0 (mpick (.bool false) undef (.bool false)) fun v44_42 => (fVal v44_42 fun v => some (.ret v, m)))))))))) (k0 (mpick (.bool false) undef (.bool false)) fun v31_43 => (kb v31_43 (k1 (mbin E .eql 3 v15_7 (.int .i64 2)) fun v34_44 => (k0 (mpick (.bool true) v34_44 (.bool false)) fun v35_45 => (kb v35_45 (k1 (mbin E .eql 26 v21_12 (.int .i64 0)) fun v38_46 => (k0 (mpick (.bool true) v38_46 (.bool false)) fun v39_47 => (kb v39_47 (k2 (vcall E.P base m .len [36] [v20_11]) fun v42_48 m => (k1 (mbin E .geq 3 v42_48 (.int .i64 1)) fun v43_49 => (k0 (mpick (.bool true) v43_49 (.bool false)) fun v44_50 => (fVal v44_50 fun v => some (.ret v, m))))) (k0 (mpick (.bool false) undef (.bool false)) fun v44_51 => (fVal v44_51 fun v => some (.ret v, m)))))) (k0 (mpick (.bool false) undef (.bool false)) fun v39_52 => (kb v39_52 (k2 (vcall E.P base m .len [36] [v20_11]) fun v42_53 m => (k1 (mbin E .geq 3 v42_53 (.int .i64 1)) fun v43_54 => (k0 (mpick (.bool true) v43_54 (.bool false)) fun v44_55 => (fVal v44_55 fun v => some (.ret v, m))))) (k0 (mpick (.bool false) undef (.bool false)) fun v44_56 => (fVal v44_56 fun v => some (.ret v, m)))))))) (k0 (mpick (.bool false) undef (.bool false)) fun v35_57 => (kb v35_57 (k1 (mbin E .eql 26 v21_12 (.int .i64 0)) fun v38_58 => (k0 (mpick (.bool true) v38_58 (.bool false)) fun v39_59 => (kb v39_59 (k2 (vcall E.P base m .len [36] [v20_11]) fun v42_60 m => (k1 (mbin E .geq 3 v42_60 (.int .i64 1)) fun v43_61 => (k0 (mpick (.bool true) v43_61 (.bool false)) fun v44_62 => (fVal v44_62 fun v => some (.ret v, m))))) (k0 (mpick (.bool false) undef (.bool false)) fun v44_63 => (fVal v44_63 fun v => some (.ret v, m)))))) (k0 (mpick (.bool false) undef (.bool false)) fun v39_64 => (kb v39_64 (k2 (vcall E.P base m .len [36] [v20_11]) fun v42_65 m => (k1 (mbin E .geq 3 v42_65 (.int .i64 1)) fun v43_66 => (k0 (mpick (.bool true) v43_66 (.bool false)) fun v44_67 => (fVal v44_67 fun v => some (.ret v, m))))) (k0 (mpick (.bool false) undef (.bool false)) fun v44_68 => (fVal v44_68 fun v => some (.ret v, m)))))))))))) (k0 (mpick (.bool false) undef (.bool false)) fun v27_69 => (kb v27_69 (k1 (mbin E .eql 26 v16_8 (.int .i64 0)) fun v30_70 => (k0 (mpick (.bool true) v30_70 (.bool false)) fun v31_71 => (kb v31_71 (k1 (mbin E .eql 3 v15_7 (.int .i64 2)) fun v34_72 => (k0 (mpick (.bool true) v34_72 (.bool false)) fun v35_73 => (kb v35_73 (k1 (mbin E .eql 26 v21_12 (.int .i64 0)) fun v38_74 => (k0 (mpick (.bool true) v38_74 (.bool false)) fun v39_75 => (kb v39_75 (k2 (vcall E.P base m .len [36] [v20_11]) fun v42_76 m => (k1 (mbin E .geq 3 v42_76 (.int .i64 1)) fun v43_77 => (k0 (mpick (.bool true) v43_77 (.bool false)) fun v44_78 => (fVal v44_78 fun v => some (.ret v, m))))) (k0 (mpick (.bool false) undef (.bool false)) fun v44_79 => (fVal v44_79 fun v => some (.ret v, m)))))) (k0 (mpick (.bool false) undef (.bool false)) fun v39_80 => (kb v39_80 (k2 (vcall E.P base m .len [36] [v20_11]) fun v42_81 m => (k1 (mbin E .geq 3 v42_81 (.int .i64 1)) fun v43_82 => (k0 (mpick (.bool true) v43_82 (.bool false)) fun v44_83 => (fVal v44_83 fun v => some (.ret v, m))))) (k0 (mpick (.bool false) undef (.bool false)) fun v44_84 => (fVal v44_84 fun v => some (.ret v, m)))))))) (k0 (mpick (.bool false) undef (.bool false)) fun v35_85 => (kb v35_85 (k1 (mbin E .eql 26 v21_12 (.int .i64 0)) fun v38_86 => (k0 (mpick (.bool true) v38_86 (.bool false)) fun v39_87 => (kb v39_87 (k2 (vcall E.P base m .len [36] [v20_11]) fun v42_88 m => (k1 (mbin E .geq 3 v42_88 (.int .i64 1)) fun v43_89 => (k0 (mpick (.bool true) v43_89 (.bool false)) fun v44_90 => (fVal v44_90 fun v => some (.ret v, m))))) (k0 (mpick (.bool false) undef (.bool false)) fun v44_91 => (fVal v44_91 fun v => some (.ret v, m)))))) (k0 (mpick (.bool false) undef (.bool false)) fun v39_92 => (kb v39_92 (k2 (vcall E.P base m .len [36] [v20_11]) fun v42_93 m => (k1 (mbin E .geq 3 v42_93 (.int .i64 1)) fun v43_94 => (k0 (mpick (.bool true) v43_94 (.bool false)) fun v44_95 => (fVal v44_95 fun v => some (.ret v, m))))) (k0 (mpick (.bool false) undef (.bool false)) fun v44_96 => (fVal v44_96 fun v => some (.ret v, m)))))))))) (k0 (mpick (.bool false) undef (.bool false)) fun v31_97 => (kb v31_97 (k1 (mbin E .eql 3 v15_7 (.int .i64 2)) fun v34_98 => (k0 (mpick (.bool true) v34_98 (.bool false)) fun v35_99 => (kb v35_99 (k1 (mbin E .eql 26 v21_12 (.int .i64 0)) fun v38_100 => (k0 (mpick (.bool true) v38_100 (.bool false)) fun v39_101 => (kb v39_101 (k2 (vcall E.P base m .len [36] [v20_11]) fun v42_102 m => (k1 (mbin E .geq 3 v42_102 (.int .i64 1)) fun v43_103 => (k0 (mpick (.bool true) v43_103 (.bool false)) fun v44_104 => (fVal v44_104 fun v => some (.ret v, m))))) (k0 (mpick (.bool false) undef (.bool false)) fun v44_105 => (fVal v44_105 fun v => some (.ret v, m)))))) (k0 (mpick (.bool false) undef (.bool false)) fun v39_106 => (kb v39_106 (k2 (vcall E.P base m .len [36] [v20_11]) fun v42_107 m => (k1 (mbin E .geq 3 v42_107 (.int .i64 1)) fun v43_108 => (k0 (mpick (.bool true) v43_108 (.bool false)) fun v44_109 => (fVal v44_109 fun v => some (.ret v, m))))) (k0 (mpick (.bool false) undef (.bool false)) fun v44_110 => (fVal v44_110 fun v => some (.ret v, m)))))))) (k0 (mpick (.bool false) undef (.bool false)) fun v35_111 => (kb v35_111 (k1 (mbin E .eql 26 v21_12 (.int .i64 0)) fun v38_112 => (k0 (mpick (.bool true) v38_112 (.bool false)) fun v39_113 => (kb v39_113 (k2 (vcall E.P base m .len [36] [v20_11]) fun v42_114 m => (k1 (mbin E .geq 3 v42_114 (.int .i64 1)) fun v43_115 => (k0 (mpick (.bool true) v43_115 (.bool false)) fun v44_116 => (fVal v44_116 fun v => some (.ret v, m))))) (k0 (mpick (.bool false) undef (.bool false)) fun v44_117 => (fVal v44_117 fun v => some (.ret v, m)))))) (k0 (mpick (.bool false) undef (.bool false)) fun v39_118 => (kb v39_118 (k2 (vcall E.P base m .len [36] [v20_11]) fun v42_119 m => (k1 (mbin E .geq 3 v42_119 (.int .i64 1)) fun v43_120 => (k0 (mpick (.bool true) v43_120 (.bool false)) fun v44_121 => (fVal v44_121 fun v => some (.ret v, m))))) (k0 (mpick (.bool false) undef (.bool false)) fun v44_122 => (fVal v44_122 fun v => some (.ret v, m)))))))))))))))) (fun v m => some (.pan v, m))))))) (fun v m => some (.pan v, m))))))) (fun v m => some (.pan v, m))))
def keep13 : Keep := { region := fun i => ([[], [1, 2], [1, 2, 3, 4], [1, 2, 3, 4, 5, 6], [0]] : List (List Nat))[i]?, exit := fun i => ([] : List (List Nat))[i]?, ret := some [0] }
noncomputable def lp13 (call : CallF) (fuel base : Nat) : Lp := lpsel []
noncomputable def c13 : Code := Tryd.f13.body.getD .skip
theorem r13_eq (call : CallF) (fuel base : Nat) (m : M) : kbody E call keep13 (lp13 call fuel base) base Tryd.f13 [] m = r13 call fuel base  m := by
  kernel_rfl
noncomputable def rf13 : RF := fun call fuel base args m => match args with
  | [] => r13 call fuel base  m
  | _ => none
theorem r13_lk (call : CallF) (fuel base : Nat) : LoopsOk E call (lp13 call fuel base) fuel base 0 c13 = (And True (And True (And True (And True (And True True))))) := by kernel_rfl
theorem r13_fn : E.P.funcs[13]? = some Tryd.f13 := by kernel_rfl
theorem r13_body : Tryd.f13.body = some c13 := by kernel_rfl
theorem rf13_ok : RFok E 13 rf13 := by
  refine ⟨Tryd.f13, r13_fn, fun call fuel base args m r _ h => ?_⟩
  unfold rf13 at h
  split at h
  · rw [← r13_eq] at h
    exact kbody_sound (c := c13) r13_body (Eq.mpr (r13_lk call fuel base) (And.intro trivial (And.intro trivial (And.intro trivial (And.intro trivial (And.intro trivial trivial)))))) h
  · simp at h
end Go.AM
namespace Go.AM
open Go Go.Proofs
noncomputable def r23 (call : CallF) (fuel base : Nat) (x0 : Value) (m : M) : Res2 :=
  (kc (call base 41 [x0] m) (fun v9_1 m => (k1 (mextract 0 v9_1) fun v10_2 => (k1 (mextract 1 v9_1) fun v11_3 => (k2 (xalloc E.P m 60) fun v4_4 m => (ks (xstore E.P base m 60 v4_4 v10_2) fun m => (k1 (mun .not v11_3) fun v13_5 => (kb v13_5 (some (.ret (.tuple #[(.slice none 0 0), (.int .i64 2)]), m)) (k1 (mfieldAddr E.P 60 v4_4 2) fun v14_6 => (k1 (xload E.P m 58 v14_6) fun v15_7 => (kc (call base 50 [v15_7] m) (fun v16_8 m => (k1 (mbin E .eql 58 v16_8 (.int .u64 0)) fun v18_9 => (kb v18_9 (some (.ret (.tuple #[(.slice none 0 0), (.int .i64 10)]), m)) (kc (call base 51 [v16_8] m) (fun v20_10 m => (some (.ret (.tuple #[v20_10, (.int .i64 0)]), m))) (fun v m => some (.pan v, m)))))) (fun v m => some (.pan v, m)))))))))))) (fun v m => some (.pan v, m)))
def keep23 : Keep := { region := fun i => ([[0], [4, 5], [4, 13], [2, 3], [6], [6, 18], [2, 3], [2, 3]] : List (List Nat))[i]?, exit := fun i => ([] : List (List Nat))[i]?, ret := some [2, 3] }
noncomputable def lp23 (call : CallF) (fuel base : Nat) : Lp := lpsel []
noncomputable def c23 : Code := Tryd.f23.body.getD .skip
theorem r23_eq (call : CallF) (fuel base : Nat) (x0 : Value) (m : M) : kbody E call keep23 (lp23 call fuel base) base Tryd.f23 [x0] m = r23 call fuel base x0 m := by
  kernel_rfl
noncomputable def rf23 : RF := fun call fuel base args m => match args with
  | [x0] => r23 call fuel base x0 m
  | _ => none
theorem r23_lk (call : CallF) (fuel base : Nat) : LoopsOk E call (lp23 call fuel base) fuel base 0 c23 = (And True (And True (And (And True (And (And True True) True)) (And True (And (And True (And (And True True) True)) (And True True)))))) := by kernel_rfl
theorem r23_fn : E.P.funcs[23]? = some Tryd.f23 := by kernel_rfl
theorem r23_body : Tryd.f23.body = some c23 := by kernel_rfl
theorem rf23_ok : RFok E 23 rf23 := by
  refine ⟨Tryd.f23, r23_fn, fun call fuel base args m r _ h => ?_⟩
  unfold rf23 at h
  split at h
  · rw [← r23_eq] at h
    exact kbody_sound (c := c23) r23_body (Eq.mpr (r23_lk call fuel base) (And.intro trivial (And.intro trivial (And.intro (And.intro trivial (And.intro (And.intro trivial trivial) trivial)) (And.intro trivial (And.intro (And.intro trivial (And.intro (And.intro trivial trivial) trivial)) (And.intro trivial trivial))))))) h
  · simp at h
end Go.AM
namespace Go.AM
open Go Go.Proofs
noncomputable def r24 (call : CallF) (fuel base : Nat) (x0 : Value) (m : M) : Res2 :=
  (kc (call base 41 [x0] m) (fun v8_1 m => (k1 (mextract 0 v8_1) fun v9_2 => (k1 (mextract 1 v8_1) fun v10_3 => (k2 (xalloc E.P m 60) fun v4_4 m => (ks (xstore E.P base m 60 v4_4 v9_2) fun m => (k1 (mun .not v10_3) fun v12_5 => (kb v12_5 (some (.ret (.tuple #[(.int .i64 0), (.int .i64 2)]), m)) (k1 (mfieldAddr E.P 60 v4_4 2) fun v13_6 => (k1 (xload E.P m 58 v13_6) fun v14_7 => (kc (call base 52 [v14_7] m) (fun v15_8 m => (some (.ret (.tuple #[v15_8, (.int .i64 0)]), m))) (fun v m => some (.pan v, m)))))))))))) (fun v m => some (.pan v, m)))
def keep24 : Keep := { region := fun i => ([[0], [4, 5], [4, 12], [2, 3], [2, 3]] : List (List Nat))[i]?, exit := fun i => ([] : List (List Nat))[i]?, ret := some [2, 3] }
noncomputable def lp24 (call : CallF) (fuel base : Nat) : Lp := lpsel []
noncomputable def c24 : Code := Tryd.f24.body.getD .skip
theorem r24_eq (call : CallF) (fuel base : Nat) (x0 : Value) (m : M) : kbody E call keep24 (lp24 call fuel base) base Tryd.f24 [x0] m = r24 call fuel base x0 m := by
  kernel_rfl
noncomputable def rf24 : RF := fun call fuel base args m => match args with
  | [x0] => r24 call fuel base x0 m
  | _ => none
theorem r24_lk (call : CallF) (fuel base : Nat) : LoopsOk E call (lp24 call fuel base) fuel base 0 c24 = (And True (And True (And (And True (And (And True True) True)) (And True True)))) := by kernel_rfl
theorem r24_fn : E.P.funcs[24]? = some Tryd.f24 := by kernel_rfl
theorem r24_body : Tryd.f24.body = some c24 := by kernel_rfl
theorem rf24_ok : RFok E 24 rf24 := by
  refine ⟨Tryd.f24, r24_fn, fun call fuel base args m r _ h => ?_⟩
  unfold rf24 at h
  split at h
  · rw [← r24_eq] at h
    exact kbody_sound (c := c24) r24_body (Eq.mpr (r24_lk call fuel base) (And.intro trivial (And.intro trivial (And.intro (And.intro trivial (And.intro (And.intro trivial trivial) trivial)) (And.intro trivial trivial))))) h
  · simp at h
end Go.AM
namespace Go.AM
open Go Go.Proofs
noncomputable def r25 (call : CallF) (fuel base : Nat) (x0 : Value) (m : M) : Res2 :=
  (kc (call base 41 [x0] m) (fun v8_1 m => (k1 (mextract 0 v8_1) fun v9_2 => (k1 (mextract 1 v8_1) fun v10_3 => (k2 (xalloc E.P m 60) fun v4_4 m => (ks (xstore E.P base m 60 v4_4 v9_2) fun m => (k1 (mun .not v10_3) fun v12_5 => (kb v12_5 (some (.ret (.tuple #[(.int .i64 0), (.int .i64 2)]), m)) (k1 (mfieldAddr E.P 60 v4_4 2) fun v13_6 => (k1 (xload E.P m 58 v13_6) fun v14_7 => (kc (call base 53 [v14_7] m) (fun v15_8 m => (some (.ret (.tuple #[v15_8, (.int .i64 0)]), m))) (fun v m => some (.pan v, m)))))))))))) (fun v m => some (.pan v, m)))
def keep25 : Keep := { region := fun i => ([[0], [4, 5], [4, 12], [2, 3], [2, 3]] : List (List Nat))[i]?, exit := fun i => ([] : List (List Nat))[i]?, ret := some [2, 3] }
noncomputable def lp25 (call : CallF) (fuel base : Nat) : Lp := lpsel []
noncomputable def c25 : Code := Tryd.f25.body.getD .skip
theorem r25_eq (call : CallF) (fuel base : Nat) (x0 : Value) (m : M) : kbody E call keep25 (lp25 call fuel base) base Tryd.f25 [x0] m = r25 call fuel base x0 m := by
  kernel_rfl
noncomputable def rf25 : RF := fun call fuel base args m => match args with
  | [x0] => r25 call fuel base x0 m
  | _ => none
theorem r25_lk (call : CallF) (fuel base : Nat) : LoopsOk E call (lp25 call fuel base) fuel base 0 c25 = (And True (And True (And (And True (And (And True True) True)) (And True True)))) := by kernel_rfl
theorem r25_fn : E.P.funcs[25]? = some Tryd.f25 := by kernel_rfl
theorem r25_body : Tryd.f25.body = some c25 := by kernel_rfl
theorem rf25_ok : RFok E 25 rf25 := by
  refine ⟨Tryd.f25, r25_fn, fun call fuel base args m r _ h => ?_⟩
  unfold rf25 at h
  split at h
  · rw [← r25_eq] at h
    exact kbody_sound (c := c25) r25_body (Eq.mpr (r25_lk call fuel base) (And.intro trivial (And.intro trivial (And.intro (And.intro trivial (And.intro (And.intro trivial trivial) trivial)) (And.intro trivial trivial))))) h
  · simp at h
end Go.AM
