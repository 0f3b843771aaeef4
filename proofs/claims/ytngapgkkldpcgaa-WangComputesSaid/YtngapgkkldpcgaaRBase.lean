import Derived.KernelRfl
import Derived.Laws.BytesArg
import Derived.Laws.StructEq
import Derived.Test.YtngapgkkldpcgaaRows
import Derived.WalkKit
import Derived.Test.YtngapgkkldpcgaaAmB
import Derived.Test.YtngapgkkldpcgaaAmModel
import Derived.Test.YtngapgkkldpcgaaAmOps5
import Derived.Test.YtngapgkkldpcgaaAmOps6
import Derived.Test.YtngapgkkldpcgaaAmCode
import Derived.Test.YtngapgkkldpcgaaAmK
import Derived.Test.YtngapgkkldpcgaaAmEq
set_option linter.unusedVariables false
set_option linter.unusedSimpArgs false
set_option linter.unusedSectionVars false
namespace Go.AM
open Go Go.Proofs
def seqL : Code → Code | .seq a _ => a | _ => .skip
def seqR : Code → Code | .seq _ a => a | _ => .skip
def blockB : Code → Code | .block _ a => a | _ => .skip
def loopB : Code → Code | .loop a => a | _ => .skip
noncomputable def E : Env where
  P := Try.prog
  pure := fun f => [15,16,17,18,21,24,25,28,29,30,31,32,33,36,37,40,42,47,48,49,50,51,52,53,55,56,58,59,60,62,63,64,66,68,69,72,73,76,80,81,82,84,85,86,87,88,90,91,93,94,95,97,99,100,101,102,111,112,113,114,115,116,120,121,129,132,133,135].contains f
  eqt := fun t => if t == 45 then [0, 2, 4, 6] else if t == 44 then [0, 2, 4, 6] else []
  live := fun _ _ => none
def fieldSum (P : Program) (t : TypeId) : List (Nat × Nat × Bool) := (P.fieldsOf t).toList.map fun f => (f.type, f.offset, f.name == "_")
theorem flat_of {P : Program} {t : TypeId} {l : List (Nat × Nat × Bool)} {k : IntKind} (h1 : P.underlying t = some (.struct (P.fieldsOf t))) (h2 : P.stoodInHeld t = false) (h3 : P.eqGuardType P.depth t = false)
    (h3' : P.underlying 3 = some (.int k)) (h4' : P.underlying 4 = some .bool) (h4 : fieldSum P t = l) (h5 : ∀ q ∈ l, (q.1 = 3 ∨ q.1 = 4) ∧ q.2.2 = false) : flatFields P t (l.map fun q => 2 * q.2.1 + (if q.1 = 4 then 1 else 0)) := by
  have b3 : isBoolT P 3 = 0 := by unfold isBoolT; rw [h3']
  have b4 : isBoolT P 4 = 1 := by unfold isBoolT; rw [h4']
  have hq : ∀ f ∈ (P.fieldsOf t).toList, ((f.type = 3 ∨ f.type = 4) ∧ (f.name == "_") = false) := fun f hf =>
    h5 (f.type, f.offset, f.name == "_") (by rw [← h4]; exact List.mem_map.2 ⟨f, hf, rfl⟩)
  refine ⟨⟨h1, h2, h3⟩, ?_, fun f hf => ?_⟩
  · rw [← h4]
    unfold fieldSum
    rw [List.map_map]
    refine List.map_congr_left fun f hf => ?_
    rcases (hq f hf).1 with e | e
    · simp [e, b3]
    · simp [e, b4]
  · obtain ⟨e1, e2⟩ := hq f hf
    simp only [beq_eq_false_iff_ne] at e2
    refine ⟨?_, e2⟩
    rcases e1 with e | e
    · exact .inl ⟨⟨k, by rw [e]; exact h3'⟩, by rw [e]; exact b3⟩
    · exact .inr ⟨by rw [e]; exact h4', by rw [e]; exact b4⟩
theorem u3 : Try.prog.underlying 3 = some (.int .i64) := by kernel_rfl
theorem u4 : Try.prog.underlying 4 = some .bool := by kernel_rfl
theorem fl45 : flatFields Try.prog 45 [0, 2, 4, 6] := flat_of (l := [(3,0,false),(3,1,false),(3,2,false),(3,3,false)]) (by kernel_rfl) (by kernel_rfl) (by kernel_rfl) u3 u4 (by kernel_rfl) (by simp)
theorem fl44 : flatFields Try.prog 44 [0, 2, 4, 6] := flat_of (l := [(3,0,false),(3,1,false),(3,2,false),(3,3,false)]) (by kernel_rfl) (by kernel_rfl) (by kernel_rfl) u3 u4 (by kernel_rfl) (by simp)
theorem nogAll : (Try.prog.funcs.toList.all fun fn => !(fn.body.isSome && fn.name == "runtime.NumGoroutine")) = true := by kernel_rfl
theorem E_good : E.Good where
  eqt := by
    intro t xs ys r w x y hne hc
    have ht : t = 45 ∨ t = 44 := by
      unfold E at hne
      simp only [beq_iff_eq] at hne
      by_cases h1 : t = 45
      · exact .inl h1
      by_cases h2 : t = 44
      · exact .inr h2
      simp [h1, h2] at hne
    rcases ht with rfl | rfl
    · exact eqt_flat fl45 w x y hc
    · exact eqt_flat fl44 w x y hc
  nog := by
    intro f fn hf hb
    have h := List.all_eq_true.1 nogAll fn (Array.mem_toList_iff.2 (Array.mem_of_getElem? hf))
    simpa [hb] using h
theorem E_mix : E.P.follows .mixedOrders = true := by kernel_rfl
end Go.AM
namespace Go.AM
open Go Go.Proofs
noncomputable def r3 (call : CallF) (fuel base : Nat) (x0 : Value) (x1 : Value) (m : M) : Res2 :=
  (k2 (vcall E.P base m .len [22] [x0]) fun v12_1 m => (k1 (mbin E .gtr 3 v12_1 (.int .i64 40)) fun v13_2 => (kb v13_2 (kc (call base 16 [] m) (fun v19_3 m => (fVal v19_3 fun v => some (.ret v, m))) (fun v m => some (.pan v, m))) (kc (call base 15 [x1, (.int .i64 20)] m) (fun v16_4 m => (k1 (mun .not v16_4) fun v17_5 => (kb v17_5 (kc (call base 16 [] m) (fun v19_6 m => (fVal v19_6 fun v => some (.ret v, m))) (fun v m => some (.pan v, m))) (kc (call base 17 [x0, x1] m) (fun v23_7 m => (k1 (mextract 0 v23_7) fun v24_8 => (k1 (mextract 1 v23_7) fun v25_9 => (k1 (mextract 2 v23_7) fun v26_10 => (kc (call base 18 [x0, x1] m) (fun v30_11 m => (k1 (mextract 0 v30_11) fun v31_12 => (k1 (mextract 1 v30_11) fun v32_13 => (k1 (mextract 2 v30_11) fun v33_14 => (k1 (mbin E .eql 4 v24_8 v31_12) fun v36_15 => (kb v36_15 (k1 (mbin E .eql 4 v25_9 v32_13) fun v40_16 => (kb v40_16 (k1 (mbin E .eql 26 v26_10 v33_14) fun v45_17 => (kb v45_17 (kc (call base 16 [] m) (fun v48_18 m => (fVal v48_18 fun v => some (.ret v, m))) (fun v m => some (.pan v, m))) (fVal (.bool false) fun v => some (.ret v, m)))) (fVal (.bool false) fun v => some (.ret v, m)))) (fVal (.bool false) fun v => some (.ret v, m)))))))) (fun v m => some (.pan v, m))))))) (fun v m => some (.pan v, m)))))) (fun v m => some (.pan v, m))))))
def keep3 : Keep := { region := fun i => ([[0, 1], [0, 1, 18], [4], [0, 1, 5, 6, 7], [5, 6, 7, 8, 9, 10], [4]] : List (List Nat))[i]?, exit := fun i => ([] : List (List Nat))[i]?, ret := some [4] }
noncomputable def lp3 (call : CallF) (fuel base : Nat) : Lp := lpsel []
noncomputable def c3 : Code := Try.f3.body.getD .skip
theorem r3_eq (call : CallF) (fuel base : Nat) (x0 : Value) (x1 : Value) (m : M) : kbody E call keep3 (lp3 call fuel base) base Try.f3 [x0, x1] m = r3 call fuel base x0 x1 m := by
  kernel_rfl
noncomputable def rf3 : RF := fun call fuel base args m => match args with
  | [x0, x1] => r3 call fuel base x0 x1 m
  | _ => none
theorem r3_lk (call : CallF) (fuel base : Nat) : LoopsOk E call (lp3 call fuel base) fuel base 0 c3 = (And True (And (And True (And (And True True) True)) (And True (And True (And True True))))) := by kernel_rfl
theorem r3_fn : E.P.funcs[3]? = some Try.f3 := by kernel_rfl
theorem r3_body : Try.f3.body = some c3 := by kernel_rfl
theorem rf3_ok : RFok E 3 rf3 := by
  refine ⟨Try.f3, r3_fn, fun call fuel base args m r _ h => ?_⟩
  unfold rf3 at h
  split at h
  · rw [← r3_eq] at h
    exact kbody_sound (c := c3) r3_body (Eq.mpr (r3_lk call fuel base) (And.intro trivial (And.intro (And.intro trivial (And.intro (And.intro trivial trivial) trivial)) (And.intro trivial (And.intro trivial (And.intro trivial trivial)))))) h
  · simp at h
end Go.AM
namespace Go.AM
open Go Go.Proofs
noncomputable def r5_L2 (call : CallF) (fuel base : Nat) (kr : Value → M → Res2) (kx2 : Value → Value → Value → Value → Value → M → Res2) (n : Nat) : Value → Value → Value → Value → Value → Value → Value → M → Res2 :=
  Nat.rec (motive := fun _ => Value → Value → Value → Value → Value → Value → Value → M → Res2) (fun _ _ _ _ _ _ _ _ => none)
    (fun _ ih x1 x2 x5 x11 x12 x17 x18 m =>
      (k2 (vcall E.P base m .len [33] [x11]) fun v126_82 m => (k1 (mbin E .lss 3 x18 v126_82) fun v127_83 => (kb v127_83 (k1 (mindexAddr E.P 23 x17 (.int .i64 0)) fun v132_84 => (k1 (xload E.P m 33 v132_84) fun v133_85 => (k1 (mindexAddr E.P 33 v133_85 x18) fun v135_86 => (k1 (xload E.P m 3 v135_86) fun v136_87 => (k1 (mindexAddr E.P 22 x5 v136_87) fun v137_88 => (k1 (mfieldAddr E.P 45 v137_88 2) fun v138_89 => (k1 (xload E.P m 3 v138_89) fun v139_90 => (k1 (mindexAddr E.P 33 x11 x18) fun v142_91 => (k1 (xload E.P m 3 v142_91) fun v143_92 => (k1 (mbin E .neq 3 v139_90 v143_92) fun v144_93 => (kb v144_93 (kr (.bool false) m) (k1 (mbin E .add 3 x18 (.int .i64 1)) fun v129_94 => (ih x1 x2 x5 x11 x12 x17 v129_94 m))))))))))))) (kx2 x1 x2 x5 x11 x12 m))))) n
noncomputable def r5_L0 (call : CallF) (fuel base : Nat) (kp : Value → M → Res2) (kr : Value → M → Res2) (kx0 : M → Res2) (n : Nat) : Value → Value → Value → Value → Value → M → Res2 :=
  Nat.rec (motive := fun _ => Value → Value → Value → Value → Value → M → Res2) (fun _ _ _ _ _ _ => none)
    (fun _ ih x1 x2 x5 x11 x12 m =>
      (k1 (mbin E .leq 3 x12 (.int .i64 4)) fun v71_53 => (kb v71_53 (k1 (xload E.P m 32 x2) fun v75_54 => (kc (call base 22 [v75_54, x1, x12] m) (fun v78_55 m => (k1 (mextract 0 v78_55) fun v79_56 => (k1 (mextract 1 v78_55) fun v80_57 => (k1 (mextract 2 v78_55) fun v81_58 => (k1 (mextract 3 v78_55) fun v82_59 => (k1 (mbin E .neq 26 v82_59 (.int .i64 0)) fun v84_60 => (kb v84_60 (kr (.bool false) m) (k2 (vcall E.P base m .len [33] [v79_56]) fun v87_61 m => (k2 (vcall E.P base m .len [33] [x1]) fun v89_62 m => (k1 (mbin E .neq 3 v87_61 v89_62) fun v90_63 => (kb v90_63 (kr (.bool false) m) (kc (call base 27 [x5, x11, (.slice none 0 0)] m) (fun v94_64 m => (k1 (mbin E .lss 3 v81_58 (.int .i64 0)) fun v96_65 => (kb v96_65 (k2 (vcall E.P base m .len [23] [v94_64]) fun v108_66 m => (k1 (mbin E .eql 3 v108_66 (.int .i64 0)) fun v109_67 => (kb v109_67 (kc (call base 16 [] m) (fun v111_68 m => (kr v111_68 m)) (fun v m => kp v m)) (kr (.bool false) m)))) (k1 (mbin E .lss 3 v80_57 (.int .i64 0)) fun v99_69 => (kb v99_69 (k2 (vcall E.P base m .len [23] [v94_64]) fun v108_70 m => (k1 (mbin E .eql 3 v108_70 (.int .i64 0)) fun v109_71 => (kb v109_71 (kc (call base 16 [] m) (fun v111_72 m => (kr v111_72 m)) (fun v m => kp v m)) (kr (.bool false) m)))) (k2 (vcall E.P base m .len [33] [x1]) fun v104_73 m => (k1 (mbin E .geq 3 v80_57 v104_73) fun v105_74 => (kb v105_74 (k2 (vcall E.P base m .len [23] [v94_64]) fun v108_75 m => (k1 (mbin E .eql 3 v108_75 (.int .i64 0)) fun v109_76 => (kb v109_76 (kc (call base 16 [] m) (fun v111_77 m => (kr v111_77 m)) (fun v m => kp v m)) (kr (.bool false) m)))) (k2 (vcall E.P base m .len [23] [v94_64]) fun v114_78 m => (k1 (mbin E .neq 3 v114_78 (.int .i64 1)) fun v115_79 => (kb v115_79 (kr (.bool false) m) (k1 (mbin E .gtr 3 v81_58 (.int .i64 1)) fun v118_80 => (kb v118_80 (kr (.bool false) m) (kc (call base 26 [v79_56, v80_57, v81_58] m) (fun v123_81 m => (r5_L2 call fuel base (fun y4_95 m => (kr y4_95 m)) (fun y1_96 y2_97 y5_98 y11_99 y12_100 m => (k1 (mbin E .add 3 y12_100 (.int .i64 1)) fun v73_101 => (ih y1_96 y2_97 y5_98 y11_99 v73_101 m))) fuel x1 x2 x5 v123_81 x12 v94_64 (.int .i64 0) m)) (fun v m => kp v m))))))))))))))) (fun v m => kp v m))))))))))))) (fun v m => kp v m))) (kx0 m)))) n
noncomputable def r5 (call : CallF) (fuel base : Nat) (x0 : Value) (x1 : Value) (m : M) : Res2 :=
  (k2 (xbox m x0) fun v2_1 m => (k1 (mfieldAddr E.P 32 v2_1 1) fun v19_2 => (k1 (xload E.P m 30 v19_2) fun v20_3 => (k2 (vcall E.P base m .len [30] [v20_3]) fun v21_4 m => (k1 (mbin E .gtr 3 v21_4 (.int .i64 20)) fun v22_5 => (kb v22_5 (kc (call base 16 [] m) (fun v28_6 m => (fVal v28_6 fun v => some (.ret v, m))) (fun v m => some (.pan v, m))) (k2 (vcall E.P base m .len [33] [x1]) fun v25_7 m => (k1 (mbin E .gtr 3 v25_7 (.int .i64 20)) fun v26_8 => (kb v26_8 (kc (call base 16 [] m) (fun v28_9 m => (fVal v28_9 fun v => some (.ret v, m))) (fun v m => some (.pan v, m))) (k1 (xload E.P m 32 v2_1) fun v30_10 => (kc (call base 19 [v30_10] m) (fun v31_11 m => (k1 (mextract 0 v31_11) fun v32_12 => (k1 (mextract 1 v31_11) fun v33_13 => (k1 (xload E.P m 32 v2_1) fun v35_14 => (kc (call base 22 [v35_14, x1, (.int .i64 0)] m) (fun v37_15 m => (k1 (mextract 0 v37_15) fun v38_16 => (k1 (mextract 1 v37_15) fun v39_17 => (k1 (mextract 2 v37_15) fun v40_18 => (k1 (mextract 3 v37_15) fun v41_19 => (k1 (mbin E .neq 26 v33_13 (.int .i64 0)) fun v43_20 => (kb v43_20 (k1 (mbin E .eql 26 v33_13 (.int .i64 0)) fun v49_21 => (kb v49_21 (k1 (mbin E .eql 26 v41_19 (.int .i64 0)) fun v56_22 => (kbu v56_22 (kc (call base 16 [] m) (fun v63_23 m => (fVal v63_23 fun v => some (.ret v, m))) (fun v m => some (.pan v, m))) (k1 (mbin E .eql 26 v41_19 (.int .i64 2)) fun v59_24 => (kb v59_24 (kc (call base 16 [] m) (fun v63_25 m => (fVal v63_25 fun v => some (.ret v, m))) (fun v m => some (.pan v, m))) (fVal (.bool false) fun v => some (.ret v, m)))) (k0 (mpick undef (.bool true) undef) fun v60_26 => (kb v60_26 (kc (call base 16 [] m) (fun v63_27 m => (fVal v63_27 fun v => some (.ret v, m))) (fun v m => some (.pan v, m))) (fVal (.bool false) fun v => some (.ret v, m)))))) (k1 (mbin E .eql 26 v33_13 (.int .i64 2)) fun v52_28 => (kb v52_28 (k1 (mbin E .eql 26 v41_19 (.int .i64 0)) fun v56_29 => (kbu v56_29 (kc (call base 16 [] m) (fun v63_30 m => (fVal v63_30 fun v => some (.ret v, m))) (fun v m => some (.pan v, m))) (k1 (mbin E .eql 26 v41_19 (.int .i64 2)) fun v59_31 => (kb v59_31 (kc (call base 16 [] m) (fun v63_32 m => (fVal v63_32 fun v => some (.ret v, m))) (fun v m => some (.pan v, m))) (fVal (.bool false) fun v => some (.ret v, m)))) (k0 (mpick undef (.bool true) undef) fun v60_33 => (kb v60_33 (kc (call base 16 [] m) (fun v63_34 m => (fVal v63_34 fun v => some (.ret v, m))) (fun v m => some (.pan v, m))) (fVal (.bool false) fun v => some (.ret v, m)))))) (fVal (.bool false) fun v => some (.ret v, m)))))) (k1 (mbin E .neq 26 v41_19 (.int .i64 0)) fun v46_35 => (kb v46_35 (k1 (mbin E .eql 26 v33_13 (.int .i64 0)) fun v49_36 => (kb v49_36 (k1 (mbin E .eql 26 v41_19 (.int .i64 0)) fun v56_37 => (kbu v56_37 (kc (call base 16 [] m) (fun v63_38 m => (fVal v63_38 fun v => some (.ret v, m))) (fun v m => some (.pan v, m))) (k1 (mbin E .eql 26 v41_19 (.int .i64 2)) fun v59_39 => (kb v59_39 (kc (call base 16 [] m) (fun v63_40 m => (fVal v63_40 fun v => some (.ret v, m))) (fun v m => some (.pan v, m))) (fVal (.bool false) fun v => some (.ret v, m)))) (k0 (mpick undef (.bool true) undef) fun v60_41 => (kb v60_41 (kc (call base 16 [] m) (fun v63_42 m => (fVal v63_42 fun v => some (.ret v, m))) (fun v m => some (.pan v, m))) (fVal (.bool false) fun v => some (.ret v, m)))))) (k1 (mbin E .eql 26 v33_13 (.int .i64 2)) fun v52_43 => (kb v52_43 (k1 (mbin E .eql 26 v41_19 (.int .i64 0)) fun v56_44 => (kbu v56_44 (kc (call base 16 [] m) (fun v63_45 m => (fVal v63_45 fun v => some (.ret v, m))) (fun v m => some (.pan v, m))) (k1 (mbin E .eql 26 v41_19 (.int .i64 2)) fun v59_46 => (kb v59_46 (kc (call base 16 [] m) (fun v63_47 m => (fVal v63_47 fun v => some (.ret v, m))) (fun v m => some (.pan v, m))) (fVal (.bool false) fun v => some (.ret v, m)))) (k0 (mpick undef (.bool true) undef) fun v60_48 => (kb v60_48 (kc (call base 16 [] m) (fun v63_49 m => (fVal v63_49 fun v => some (.ret v, m))) (fun v m => some (.pan v, m))) (fVal (.bool false) fun v => some (.ret v, m)))))) (fVal (.bool false) fun v => some (.ret v, m)))))) (kc (call base 25 [v32_12] m) (fun v66_50 m => (k1 (mun .not v66_50) fun v67_51 => (kb v67_51 (fVal (.bool false) fun v => some (.ret v, m)) (kc (call base 26 [x1, (.int .i64 0), (.int .i64 0)] m) (fun v69_52 m => (r5_L0 call fuel base (fun v m => some (.pan v, m)) (fun y4_102 m => (fVal y4_102 fun v => some (.ret v, m))) (fun m => (kc (call base 16 [] m) (fun v145_103 m => (fVal v145_103 fun v => some (.ret v, m))) (fun v m => some (.pan v, m)))) fuel x1 v2_1 v32_12 v69_52 (.int .i64 1) m)) (fun v m => some (.pan v, m)))))) (fun v m => some (.pan v, m)))))))))))) (fun v m => some (.pan v, m))))))) (fun v m => some (.pan v, m)))))))))))))
def keep5 : Keep := { region := fun i => ([[1, 2], [1, 2, 27], [4], [1, 2, 5, 6], [1, 2, 5, 6, 10], [1, 2, 5, 6, 10, 47], [4], [1, 2, 5, 67], [4], [1, 2, 5, 11], [1, 2, 5, 11, 12], [1, 2, 5, 11, 12, 71], [1, 2, 5, 11, 12], [1, 2, 5, 11, 12, 13, 14, 15, 16], [1, 2, 5, 11, 12, 13, 14, 15, 91], [4], [1, 2, 5, 12, 13, 14, 15, 17], [1, 2, 5, 12, 13, 14, 15, 17, 106], [4], [1, 2, 5, 12, 13, 14, 15, 17, 119], [4], [1, 2, 5, 11, 12, 17], [1, 2, 5, 11, 12, 17, 18], [1, 2, 5, 11, 12, 17, 18, 127], [1, 2, 5, 11, 12, 17, 18], [1, 2, 5, 11, 12, 17, 18, 144], [4], [4]] : List (List Nat))[i]?, exit := fun i => ([[], [1, 2, 5, 11, 12], [1, 2, 5, 11, 12], [1, 2, 5, 11, 12, 17, 18]] : List (List Nat))[i]?, ret := some [4] }
noncomputable def r5_L2_R (call : CallF) (fuel base n : Nat) (vs : List Value) (m : M) (K : KT) : Res2 := match vs with
  | [x1, x2, x5, x11, x12, x17, x18] => r5_L2 call fuel base (fun y4 m => K .ret { n := 146, l := [(4, y4)] } m) (fun y1 y2 y5 y11 y12 m => K (.exit 2) { n := 146, l := [(1, y1), (2, y2), (5, y5), (11, y11), (12, y12)] } m) n x1 x2 x5 x11 x12 x17 x18 m
  | _ => none
noncomputable def r5_L0_R (call : CallF) (fuel base n : Nat) (vs : List Value) (m : M) (K : KT) : Res2 := match vs with
  | [x1, x2, x5, x11, x12] => r5_L0 call fuel base (fun v m => K (.pan v) { n := 146, l := [] } m) (fun y4 m => K .ret { n := 146, l := [(4, y4)] } m) (fun m => K (.exit 0) { n := 146, l := [] } m) n x1 x2 x5 x11 x12 m
  | _ => none
noncomputable def lp5 (call : CallF) (fuel base : Nat) : Lp := lpsel [(2, fun T m K => kslots 146 [1, 2, 5, 11, 12, 17, 18] T fun vs => r5_L2_R call fuel base fuel vs m K), (0, fun T m K => kslots 146 [1, 2, 5, 11, 12] T fun vs => r5_L0_R call fuel base fuel vs m K)]
noncomputable def c5 : Code := Try.f5.body.getD .skip
theorem r5_L2_lk (call : CallF) (fuel base : Nat) : LoopsOk E call (lp5 call fuel base) fuel base 2 (loopB (blockB (seqR (seqR (seqR (seqR (seqR (seqR (seqR (blockB (seqL (seqR (loopB (blockB (seqR (seqL (seqR (seqR (seqR (seqR (seqR (seqR (seqR c5))))))))))))))))))))))) = (And (And True (And True True)) (And (And True (And (And True True) True)) True)) := by kernel_rfl
theorem r5_L2_ok (call : CallF) (fuel base : Nat) : LpOk E call (lp5 call fuel base) fuel base 2 (loopB (blockB (seqR (seqR (seqR (seqR (seqR (seqR (seqR (blockB (seqL (seqR (loopB (blockB (seqR (seqL (seqR (seqR (seqR (seqR (seqR (seqR (seqR c5))))))))))))))))))))))) := by
  refine loop_ok (kp := keep5) (hb := Eq.mpr (r5_L2_lk call fuel base) (And.intro (And.intro trivial (And.intro trivial trivial)) (And.intro (And.intro trivial (And.intro (And.intro trivial trivial) trivial)) trivial))) 146 [1, 2, 5, 11, 12, 17, 18] (fun n vs m K => r5_L2_R call fuel base n vs m K) ?_ ?_ (fun _ _ _ => rfl)
  · intro vs m K
    unfold r5_L2_R
    split <;> rfl
  · intro n vs m K hl
    match vs, hl with
    | [x1, x2, x5, x11, x12, x17, x18], _ => show _ = _; kernel_rfl
theorem r5_L0_lk (call : CallF) (fuel base : Nat) : LoopsOk E call (lp5 call fuel base) fuel base 0 (loopB (blockB (seqR (seqL (seqR (seqR (seqR (seqR (seqR (seqR (seqR c5))))))))))) = (And (And True (And True True)) (And (And True (And (And True (And (And True True) True)) (And True (And (And True (And (And True True) True)) (And (And True (And (And True True) True)) (And True (And True (LpOk E call (lp5 call fuel base) fuel base 2 (loopB (blockB (seqR (seqR (seqR (seqR (seqR (seqR (seqR (blockB (seqL (seqR (loopB (blockB (seqR (seqL (seqR (seqR (seqR (seqR (seqR (seqR (seqR c5))))))))))))))))))))))))))))))) True)) := by kernel_rfl
theorem r5_L0_ok (call : CallF) (fuel base : Nat) : LpOk E call (lp5 call fuel base) fuel base 0 (loopB (blockB (seqR (seqL (seqR (seqR (seqR (seqR (seqR (seqR (seqR c5))))))))))) := by
  refine loop_ok (kp := keep5) (hb := Eq.mpr (r5_L0_lk call fuel base) (And.intro (And.intro trivial (And.intro trivial trivial)) (And.intro (And.intro trivial (And.intro (And.intro trivial (And.intro (And.intro trivial trivial) trivial)) (And.intro trivial (And.intro (And.intro trivial (And.intro (And.intro trivial trivial) trivial)) (And.intro (And.intro trivial (And.intro (And.intro trivial trivial) trivial)) (And.intro trivial (And.intro trivial (r5_L2_ok call fuel base)))))))) trivial))) 146 [1, 2, 5, 11, 12] (fun n vs m K => r5_L0_R call fuel base n vs m K) ?_ ?_ (fun _ _ _ => rfl)
  · intro vs m K
    unfold r5_L0_R
    split <;> rfl
  · intro n vs m K hl
    match vs, hl with
    | [x1, x2, x5, x11, x12], _ => show _ = _; kernel_rfl
theorem r5_eq (call : CallF) (fuel base : Nat) (x0 : Value) (x1 : Value) (m : M) : kbody E call keep5 (lp5 call fuel base) base Try.f5 [x0, x1] m = r5 call fuel base x0 x1 m := by
  kernel_rfl
noncomputable def rf5 : RF := fun call fuel base args m => match args with
  | [x0, x1] => r5 call fuel base x0 x1 m
  | _ => none
theorem r5_lk (call : CallF) (fuel base : Nat) : LoopsOk E call (lp5 call fuel base) fuel base 0 c5 = (And True (And (And True (And (And True True) True)) (And True (And True (And (And True (And (And True True) True)) (And (And True (And (And True True) True)) (And True (And (And True (LpOk E call (lp5 call fuel base) fuel base 0 (loopB (blockB (seqR (seqL (seqR (seqR (seqR (seqR (seqR (seqR (seqR c5))))))))))))) (And True True))))))))) := by kernel_rfl
theorem r5_fn : E.P.funcs[5]? = some Try.f5 := by kernel_rfl
theorem r5_body : Try.f5.body = some c5 := by kernel_rfl
theorem rf5_ok : RFok E 5 rf5 := by
  refine ⟨Try.f5, r5_fn, fun call fuel base args m r _ h => ?_⟩
  unfold rf5 at h
  split at h
  · rw [← r5_eq] at h
    exact kbody_sound (c := c5) r5_body (Eq.mpr (r5_lk call fuel base) (And.intro trivial (And.intro (And.intro trivial (And.intro (And.intro trivial trivial) trivial)) (And.intro trivial (And.intro trivial (And.intro (And.intro trivial (And.intro (And.intro trivial trivial) trivial)) (And.intro (And.intro trivial (And.intro (And.intro trivial trivial) trivial)) (And.intro trivial (And.intro (And.intro trivial (r5_L0_ok call fuel base)) (And.intro trivial trivial)))))))))) h
  · simp at h
end Go.AM
namespace Go.AM
open Go Go.Proofs
noncomputable def r15_L0 (call : CallF) (fuel base : Nat) (kr : Value → M → Res2) (kx0 : M → Res2) (n : Nat) : Value → Value → Value → M → Res2 :=
  Nat.rec (motive := fun _ => Value → Value → Value → M → Res2) (fun _ _ _ _ => none)
    (fun _ ih x0 x1 x5 m =>
      (k2 (vcall E.P base m .len [23] [x0]) fun v8_1 m => (k1 (mbin E .lss 3 x5 v8_1) fun v9_2 => (kb v9_2 (k1 (mbin E .geq 3 x5 x1) fun v14_3 => (kb v14_3 (kr (.bool false) m) (k1 (mindexAddr E.P 23 x0 x5) fun v18_4 => (k1 (xload E.P m 33 v18_4) fun v19_5 => (k2 (vcall E.P base m .len [33] [v19_5]) fun v20_6 m => (k1 (mbin E .gtr 3 v20_6 (.int .i64 20)) fun v21_7 => (kb v21_7 (kr (.bool false) m) (k1 (mbin E .add 3 x5 (.int .i64 1)) fun v11_8 => (ih x0 x1 v11_8 m))))))))) (kx0 m))))) n
noncomputable def r15 (call : CallF) (fuel base : Nat) (x0 : Value) (x1 : Value) (m : M) : Res2 :=
  (r15_L0 call fuel base (fun y4_9 m => (fVal y4_9 fun v => some (.ret v, m))) (fun m => (fVal (.bool true) fun v => some (.ret v, m))) fuel x0 x1 (.int .i64 0) m)
def keep15 : Keep := { region := fun i => ([[0, 1], [0, 1, 5], [0, 1, 5, 9], [0, 1, 5], [0, 1, 5, 22], [4], [4]] : List (List Nat))[i]?, exit := fun i => ([[], [0, 1, 5]] : List (List Nat))[i]?, ret := some [4] }
noncomputable def r15_L0_R (call : CallF) (fuel base n : Nat) (vs : List Value) (m : M) (K : KT) : Res2 := match vs with
  | [x0, x1, x5] => r15_L0 call fuel base (fun y4 m => K .ret { n := 23, l := [(4, y4)] } m) (fun m => K (.exit 0) { n := 23, l := [] } m) n x0 x1 x5 m
  | _ => none
noncomputable def lp15 (call : CallF) (fuel base : Nat) : Lp := lpsel [(0, fun T m K => kslots 23 [0, 1, 5] T fun vs => r15_L0_R call fuel base fuel vs m K)]
noncomputable def c15 : Code := Try.f15.body.getD .skip
theorem r15_L0_lk (call : CallF) (fuel base : Nat) : LoopsOk E call (lp15 call fuel base) fuel base 0 (loopB (blockB (seqR (seqL (seqR c15))))) = (And (And True (And True True)) (And (And True (And (And True True) True)) True)) := by kernel_rfl
theorem r15_L0_ok (call : CallF) (fuel base : Nat) : LpOk E call (lp15 call fuel base) fuel base 0 (loopB (blockB (seqR (seqL (seqR c15))))) := by
  refine loop_ok (kp := keep15) (hb := Eq.mpr (r15_L0_lk call fuel base) (And.intro (And.intro trivial (And.intro trivial trivial)) (And.intro (And.intro trivial (And.intro (And.intro trivial trivial) trivial)) trivial))) 23 [0, 1, 5] (fun n vs m K => r15_L0_R call fuel base n vs m K) ?_ ?_ (fun _ _ _ => rfl)
  · intro vs m K
    unfold r15_L0_R
    split <;> rfl
  · intro n vs m K hl
    match vs, hl with
    | [x0, x1, x5], _ => show _ = _; kernel_rfl
theorem r15_eq (call : CallF) (fuel base : Nat) (x0 : Value) (x1 : Value) (m : M) : kbody E call keep15 (lp15 call fuel base) base Try.f15 [x0, x1] m = r15 call fuel base x0 x1 m := by
  kernel_rfl
noncomputable def rf15 : RF := fun call fuel base args m => match args with
  | [x0, x1] => r15 call fuel base x0 x1 m
  | _ => none
theorem r15_lk (call : CallF) (fuel base : Nat) : LoopsOk E call (lp15 call fuel base) fuel base 0 c15 = (And True (And (And True (LpOk E call (lp15 call fuel base) fuel base 0 (loopB (blockB (seqR (seqL (seqR c15))))))) (And True True))) := by kernel_rfl
theorem r15_fn : E.P.funcs[15]? = some Try.f15 := by kernel_rfl
theorem r15_body : Try.f15.body = some c15 := by kernel_rfl
theorem rf15_ok : RFok E 15 rf15 := by
  refine ⟨Try.f15, r15_fn, fun call fuel base args m r _ h => ?_⟩
  unfold rf15 at h
  split at h
  · rw [← r15_eq] at h
    exact kbody_sound (c := c15) r15_body (Eq.mpr (r15_lk call fuel base) (And.intro trivial (And.intro (And.intro trivial (r15_L0_ok call fuel base)) (And.intro trivial trivial)))) h
  · simp at h
end Go.AM
namespace Go.AM
open Go Go.Proofs
noncomputable def r16 (call : CallF) (fuel base : Nat) (m : M) : Res2 :=
  (k1 (mbuild E.P 45 []) fun v9_1 => (k1 (mbuild E.P 45 [(0, (.int .i64 1)), (2, (.int .i64 1))]) fun v10_2 => (k2 (xbuildSlice E.P m 22 2 [(0, v9_1), (1, v10_2)]) fun v11_3 m => (kc (call base 32 [v11_3, (.int .i64 2), (.int .i64 3)] m) (fun v12_4 m => (k1 (mextract 0 v12_4) fun v13_5 => (k1 (mextract 1 v12_4) fun v14_6 => (k1 (mbuild E.P 45 [(2, (.int .i64 1))]) fun v15_7 => (k2 (xbuildSlice E.P m 22 1 [(0, v15_7)]) fun v16_8 m => (k2 (xbuildSlice E.P m 33 2 [(0, (.int .i64 1)), (1, (.int .i64 1))]) fun v19_9 m => (k2 (xbuildSlice E.P m 23 1 [(0, v19_9)]) fun v20_10 m => (kc (call base 28 [v16_8, (.int .i64 1), (.int .i64 2), v20_10] m) (fun v21_11 m => (k1 (mextract 0 v21_11) fun v22_12 => (k1 (mextract 1 v21_11) fun v23_13 => (kc (call base 41 [v16_8, (.int .i64 1), (.int .i64 2)] m) (fun v26_14 m => (k1 (mextract 0 v26_14) fun v27_15 => (k1 (mextract 1 v26_14) fun v28_16 => (k1 (mbin E .eql 26 v14_6 (.int .i64 0)) fun v30_17 => (kb v30_17 (k1 (mbin E .eql 3 v13_5 (.int .i64 4)) fun v33_18 => (kb v33_18 (k1 (mbin E .eql 26 v23_13 (.int .i64 0)) fun v37_19 => (kb v37_19 (kb v22_12 (k1 (mbin E .eql 26 v28_16 (.int .i64 0)) fun v44_20 => (kb v44_20 (k2 (vcall E.P base m .len [23] [v27_15]) fun v48_21 m => (k1 (mbin E .geq 3 v48_21 (.int .i64 1)) fun v49_22 => (fVal v49_22 fun v => some (.ret v, m)))) (fVal (.bool false) fun v => some (.ret v, m)))) (fVal (.bool false) fun v => some (.ret v, m))) (fVal (.bool false) fun v => some (.ret v, m)))) (fVal (.bool false) fun v => some (.ret v, m)))) (fVal (.bool false) fun v => some (.ret v, m))))))) (fun v m => some (.pan v, m)))))) (fun v m => some (.pan v, m)))))))))) (fun v m => some (.pan v, m))))))
def keep16 : Keep := { region := fun i => ([[], [1, 2], [1, 2, 3], [1, 2, 3, 4, 5], [1, 2, 4, 5, 6, 7], [0]] : List (List Nat))[i]?, exit := fun i => ([] : List (List Nat))[i]?, ret := some [0] }
noncomputable def lp16 (call : CallF) (fuel base : Nat) : Lp := lpsel []
noncomputable def c16 : Code := Try.f16.body.getD .skip
theorem r16_eq (call : CallF) (fuel base : Nat) (m : M) : kbody E call keep16 (lp16 call fuel base) base Try.f16 [] m = r16 call fuel base  m := by
  kernel_rfl
noncomputable def rf16 : RF := fun call fuel base args m => match args with
  | [] => r16 call fuel base  m
  | _ => none
theorem r16_lk (call : CallF) (fuel base : Nat) : LoopsOk E call (lp16 call fuel base) fuel base 0 c16 = (And True (And True (And True (And True (And True (And True True)))))) := by kernel_rfl
theorem r16_fn : E.P.funcs[16]? = some Try.f16 := by kernel_rfl
theorem r16_body : Try.f16.body = some c16 := by kernel_rfl
theorem rf16_ok : RFok E 16 rf16 := by
  refine ⟨Try.f16, r16_fn, fun call fuel base args m r _ h => ?_⟩
  unfold rf16 at h
  split at h
  · rw [← r16_eq] at h
    exact kbody_sound (c := c16) r16_body (Eq.mpr (r16_lk call fuel base) (And.intro trivial (And.intro trivial (And.intro trivial (And.intro trivial (And.intro trivial (And.intro trivial trivial))))))) h
  · simp at h
end Go.AM
namespace Go.AM
open Go Go.Proofs
noncomputable def r17 (call : CallF) (fuel base : Nat) (x0 : Value) (x1 : Value) (m : M) : Res2 :=
  (kc (call base 48 [x0] m) (fun v9_1 m => (k1 (mun .not v9_1) fun v10_2 => (kb v10_2 (some (.ret (.tuple #[(.bool false), (.bool false), (.int .i64 2)]), m)) (k2 (vcall E.P base m .len [22] [x0]) fun v14_3 m => (kc (call base 49 [x1, v14_3] m) (fun v15_4 m => (k1 (mun .not v15_4) fun v16_5 => (kb v16_5 (some (.ret (.tuple #[(.bool false), (.bool false), (.int .i64 2)]), m)) (kc (call base 50 [x0, x1] m) (fun v20_6 m => (kb v20_6 (kc (call base 51 [x0, x1] m) (fun v26_7 m => (some (.ret (.tuple #[v20_6, v26_7, (.int .i64 0)]), m))) (fun v m => some (.pan v, m))) (some (.ret (.tuple #[v20_6, (.bool false), (.int .i64 0)]), m)))) (fun v m => some (.pan v, m)))))) (fun v m => some (.pan v, m))))))) (fun v m => some (.pan v, m)))
def keep17 : Keep := { region := fun i => ([[0, 1], [0, 1, 17], [4, 5, 6], [0, 1, 7], [4, 5, 6]] : List (List Nat))[i]?, exit := fun i => ([] : List (List Nat))[i]?, ret := some [4, 5, 6] }
noncomputable def lp17 (call : CallF) (fuel base : Nat) : Lp := lpsel []
noncomputable def c17 : Code := Try.f17.body.getD .skip
theorem r17_eq (call : CallF) (fuel base : Nat) (x0 : Value) (x1 : Value) (m : M) : kbody E call keep17 (lp17 call fuel base) base Try.f17 [x0, x1] m = r17 call fuel base x0 x1 m := by
  kernel_rfl
noncomputable def rf17 : RF := fun call fuel base args m => match args with
  | [x0, x1] => r17 call fuel base x0 x1 m
  | _ => none
theorem r17_lk (call : CallF) (fuel base : Nat) : LoopsOk E call (lp17 call fuel base) fuel base 0 c17 = (And True (And (And True (And (And True True) True)) (And True (And True True)))) := by kernel_rfl
theorem r17_fn : E.P.funcs[17]? = some Try.f17 := by kernel_rfl
theorem r17_body : Try.f17.body = some c17 := by kernel_rfl
theorem rf17_ok : RFok E 17 rf17 := by
  refine ⟨Try.f17, r17_fn, fun call fuel base args m r _ h => ?_⟩
  unfold rf17 at h
  split at h
  · rw [← r17_eq] at h
    exact kbody_sound (c := c17) r17_body (Eq.mpr (r17_lk call fuel base) (And.intro trivial (And.intro (And.intro trivial (And.intro (And.intro trivial trivial) trivial)) (And.intro trivial (And.intro trivial trivial))))) h
  · simp at h
end Go.AM
namespace Go.AM
open Go Go.Proofs
noncomputable def r18_L2 (call : CallF) (fuel base : Nat) (kr : Value → Value → Value → M → Res2) (kx2 : Value → Value → Value → Value → Value → M → Res2) (n : Nat) : Value → Value → Value → Value → Value → Value → M → Res2 :=
  Nat.rec (motive := fun _ => Value → Value → Value → Value → Value → Value → M → Res2) (fun _ _ _ _ _ _ _ => none)
    (fun _ ih x0 x1 x7 x8 x9 x10 m =>
      (k1 (mbin E .lss 3 x10 x7) fun v53_20 => (kb v53_20 (k1 (mindexAddr E.P 23 x1 x9) fun v58_21 => (k1 (xload E.P m 33 v58_21) fun v59_22 => (k1 (mindexAddr E.P 33 v59_22 x10) fun v61_23 => (k1 (xload E.P m 3 v61_23) fun v62_24 => (k1 (mbin E .lss 3 v62_24 (.int .i64 0)) fun v63_25 => (kb v63_25 (kr (.bool false) (.bool false) (.int .i64 2) m) (k1 (mindexAddr E.P 23 x1 x9) fun v67_26 => (k1 (xload E.P m 33 v67_26) fun v68_27 => (k1 (mindexAddr E.P 33 v68_27 x10) fun v70_28 => (k1 (xload E.P m 3 v70_28) fun v71_29 => (k2 (vcall E.P base m .len [22] [x0]) fun v73_30 m => (k1 (mbin E .geq 3 v71_29 v73_30) fun v74_31 => (kb v74_31 (kr (.bool false) (.bool false) (.int .i64 2) m) (k1 (mbin E .add 3 x10 (.int .i64 1)) fun v55_32 => (ih x0 x1 x7 x8 x9 v55_32 m))))))))))))))) (kx2 x0 x1 x7 x8 x9 m)))) n
noncomputable def r18_L6 (call : CallF) (fuel base : Nat) (kx6 : Value → Value → Value → Value → Value → Value → Value → M → Res2) (n : Nat) : Value → Value → Value → Value → Value → Value → Value → Value → M → Res2 :=
  Nat.rec (motive := fun _ => Value → Value → Value → Value → Value → Value → Value → Value → M → Res2) (fun _ _ _ _ _ _ _ _ _ => none)
    (fun _ ih x0 x1 x7 x8 x11 x12 x13 x14 m =>
      (k1 (mbin E .lss 3 x14 x7) fun v83_50 => (kb v83_50 (k1 (mindexAddr E.P 23 x1 x13) fun v89_51 => (k1 (xload E.P m 33 v89_51) fun v90_52 => (k1 (mindexAddr E.P 33 v90_52 x14) fun v92_53 => (k1 (xload E.P m 3 v92_53) fun v93_54 => (k1 (mindexAddr E.P 22 x0 v93_54) fun v94_55 => (k1 (xload E.P m 45 v94_55) fun v95_56 => (k2 (xalloc E.P m 45) fun v15_57 m => (ks (xstore E.P base m 45 v15_57 v95_56) fun m => (k1 (mfieldAddr E.P 45 v15_57 1) fun v96_58 => (k1 (xload E.P m 3 v96_58) fun v97_59 => (k1 (mindexAddr E.P 23 x1 x13) fun v101_60 => (k1 (xload E.P m 33 v101_60) fun v102_61 => (k1 (mbin E .add 3 x14 (.int .i64 1)) fun v104_62 => (k1 (mbin E .rem 3 v104_62 x7) fun v106_63 => (k1 (mindexAddr E.P 33 v102_61 v106_63) fun v107_64 => (k1 (xload E.P m 3 v107_64) fun v108_65 => (k1 (mindexAddr E.P 22 x0 v108_65) fun v109_66 => (k1 (mfieldAddr E.P 45 v109_66 3) fun v110_67 => (k1 (xload E.P m 3 v110_67) fun v111_68 => (k1 (mbin E .neq 3 v97_59 v111_68) fun v112_69 => (kb v112_69 (kb x11 (k1 (mbin E .add 3 x14 (.int .i64 1)) fun v116_70 => (k1 (mbin E .eql 3 v116_70 x7) fun v118_71 => (k1 (mfieldAddr E.P 45 v15_57 2) fun v120_72 => (k1 (xload E.P m 3 v120_72) fun v121_73 => (k1 (mbin E .add 3 x13 (.int .i64 1)) fun v125_74 => (k1 (mbin E .rem 3 v125_74 x8) fun v127_75 => (k1 (mindexAddr E.P 23 x1 v127_75) fun v128_76 => (k1 (xload E.P m 33 v128_76) fun v129_77 => (k1 (mindexAddr E.P 33 v129_77 x14) fun v131_78 => (k1 (xload E.P m 3 v131_78) fun v132_79 => (k1 (mindexAddr E.P 22 x0 v132_79) fun v133_80 => (k1 (mfieldAddr E.P 45 v133_80 0) fun v134_81 => (k1 (xload E.P m 3 v134_81) fun v135_82 => (k1 (mbin E .neq 3 v121_73 v135_82) fun v136_83 => (kb v136_83 (kb v118_71 (k1 (mbin E .add 3 x13 (.int .i64 1)) fun v140_84 => (k1 (mbin E .eql 3 v140_84 x8) fun v142_85 => (k1 (mbin E .add 3 x14 (.int .i64 1)) fun v85_86 => (ih x0 x1 x7 x8 v142_85 (.bool false) x13 v85_86 m)))) (k1 (mbin E .add 3 x14 (.int .i64 1)) fun v85_87 => (ih x0 x1 x7 x8 (.bool false) (.bool false) x13 v85_87 m))) (k1 (mbin E .add 3 x14 (.int .i64 1)) fun v85_88 => (ih x0 x1 x7 x8 v118_71 (.bool false) x13 v85_88 m))))))))))))))))) (k1 (mfieldAddr E.P 45 v15_57 2) fun v120_89 => (k1 (xload E.P m 3 v120_89) fun v121_90 => (k1 (mbin E .add 3 x13 (.int .i64 1)) fun v125_91 => (k1 (mbin E .rem 3 v125_91 x8) fun v127_92 => (k1 (mindexAddr E.P 23 x1 v127_92) fun v128_93 => (k1 (xload E.P m 33 v128_93) fun v129_94 => (k1 (mindexAddr E.P 33 v129_94 x14) fun v131_95 => (k1 (xload E.P m 3 v131_95) fun v132_96 => (k1 (mindexAddr E.P 22 x0 v132_96) fun v133_97 => (k1 (mfieldAddr E.P 45 v133_97 0) fun v134_98 => (k1 (xload E.P m 3 v134_98) fun v135_99 => (k1 (mbin E .neq 3 v121_90 v135_99) fun v136_100 => (kb v136_100 (k1 (mbin E .add 3 x14 (.int .i64 1)) fun v85_101 => (ih x0 x1 x7 x8 (.bool false) (.bool false) x13 v85_101 m)) (k1 (mbin E .add 3 x14 (.int .i64 1)) fun v85_102 => (ih x0 x1 x7 x8 (.bool false) (.bool false) x13 v85_102 m)))))))))))))))) (k1 (mfieldAddr E.P 45 v15_57 2) fun v120_103 => (k1 (xload E.P m 3 v120_103) fun v121_104 => (k1 (mbin E .add 3 x13 (.int .i64 1)) fun v125_105 => (k1 (mbin E .rem 3 v125_105 x8) fun v127_106 => (k1 (mindexAddr E.P 23 x1 v127_106) fun v128_107 => (k1 (xload E.P m 33 v128_107) fun v129_108 => (k1 (mindexAddr E.P 33 v129_108 x14) fun v131_109 => (k1 (xload E.P m 3 v131_109) fun v132_110 => (k1 (mindexAddr E.P 22 x0 v132_110) fun v133_111 => (k1 (mfieldAddr E.P 45 v133_111 0) fun v134_112 => (k1 (xload E.P m 3 v134_112) fun v135_113 => (k1 (mbin E .neq 3 v121_104 v135_113) fun v136_114 => (kb v136_114 (kb x11 (k1 (mbin E .add 3 x13 (.int .i64 1)) fun v140_115 => (k1 (mbin E .eql 3 v140_115 x8) fun v142_116 => (k1 (mbin E .add 3 x14 (.int .i64 1)) fun v85_117 => (ih x0 x1 x7 x8 v142_116 (.bool false) x13 v85_117 m)))) (k1 (mbin E .add 3 x14 (.int .i64 1)) fun v85_118 => (ih x0 x1 x7 x8 (.bool false) (.bool false) x13 v85_118 m))) (k1 (mbin E .add 3 x14 (.int .i64 1)) fun v85_119 => (ih x0 x1 x7 x8 x11 x12 x13 v85_119 m)))))))))))))))))))))))))))))))))))) (kx6 x0 x1 x7 x8 x11 x12 x13 m)))) n
noncomputable def r18_L0 (call : CallF) (fuel base : Nat) (kr : Value → Value → Value → M → Res2) (kx0 : Value → Value → Value → Value → M → Res2) (n : Nat) : Value → Value → Value → Value → Value → M → Res2 :=
  Nat.rec (motive := fun _ => Value → Value → Value → Value → Value → M → Res2) (fun _ _ _ _ _ _ => none)
    (fun _ ih x0 x1 x7 x8 x9 m =>
      (k1 (mbin E .lss 3 x9 x8) fun v41_15 => (kb v41_15 (k1 (mindexAddr E.P 23 x1 x9) fun v46_16 => (k1 (xload E.P m 33 v46_16) fun v47_17 => (k2 (vcall E.P base m .len [33] [v47_17]) fun v48_18 m => (k1 (mbin E .neq 3 v48_18 x7) fun v50_19 => (kb v50_19 (kr (.bool false) (.bool false) (.int .i64 2) m) (r18_L2 call fuel base (fun y4_33 y5_34 y6_35 m => (kr y4_33 y5_34 y6_35 m)) (fun y0_36 y1_37 y7_38 y8_39 y9_40 m => (k1 (mbin E .add 3 y9_40 (.int .i64 1)) fun v43_41 => (ih y0_36 y1_37 y7_38 y8_39 v43_41 m))) fuel x0 x1 x7 x8 x9 (.int .i64 0) m)))))) (kx0 x0 x1 x7 x8 m)))) n
noncomputable def r18_L4 (call : CallF) (fuel base : Nat) (kx4 : Value → Value → M → Res2) (n : Nat) : Value → Value → Value → Value → Value → Value → Value → M → Res2 :=
  Nat.rec (motive := fun _ => Value → Value → Value → Value → Value → Value → Value → M → Res2) (fun _ _ _ _ _ _ _ _ => none)
    (fun _ ih x0 x1 x7 x8 x11 x12 x13 m =>
      (k1 (mbin E .lss 3 x13 x8) fun v78_49 => (kb v78_49 (r18_L6 call fuel base (fun y0_120 y1_121 y7_122 y8_123 y11_124 y12_125 y13_126 m => (k1 (mbin E .add 3 y13_126 (.int .i64 1)) fun v80_127 => (ih y0_120 y1_121 y7_122 y8_123 y11_124 y12_125 v80_127 m))) fuel x0 x1 x7 x8 x11 x12 x13 (.int .i64 0) m) (kx4 x11 x12 m)))) n
noncomputable def r18 (call : CallF) (fuel base : Nat) (x0 : Value) (x1 : Value) (m : M) : Res2 :=
  (kc (call base 25 [x0] m) (fun v17_1 m => (k1 (mun .not v17_1) fun v18_2 => (kb v18_2 (some (.ret (.tuple #[(.bool false), (.bool false), (.int .i64 2)]), m)) (k2 (vcall E.P base m .len [23] [x1]) fun v21_3 m => (kc (call base 52 [v21_3] m) (fun v22_4 m => (k1 (mun .not v22_4) fun v23_5 => (kb v23_5 (some (.ret (.tuple #[(.bool false), (.bool false), (.int .i64 2)]), m)) (k1 (mindexAddr E.P 23 x1 (.int .i64 0)) fun v27_6 => (k1 (xload E.P m 33 v27_6) fun v28_7 => (k2 (vcall E.P base m .len [33] [v28_7]) fun v29_8 m => (kc (call base 52 [v29_8] m) (fun v30_9 m => (k1 (mun .not v30_9) fun v31_10 => (kb v31_10 (some (.ret (.tuple #[(.bool false), (.bool false), (.int .i64 2)]), m)) (k1 (mindexAddr E.P 23 x1 (.int .i64 0)) fun v34_11 => (k1 (xload E.P m 33 v34_11) fun v35_12 => (k2 (vcall E.P base m .len [33] [v35_12]) fun v36_13 m => (k2 (vcall E.P base m .len [23] [x1]) fun v38_14 m => (r18_L0 call fuel base (fun y4_42 y5_43 y6_44 m => (some (.ret (.tuple #[y4_42, y5_43, y6_44]), m))) (fun y0_45 y1_46 y7_47 y8_48 m => (r18_L4 call fuel base (fun y11_128 y12_129 m => (kb y11_128 (some (.ret (.tuple #[y11_128, y12_129, (.int .i64 0)]), m)) (some (.ret (.tuple #[y11_128, (.bool false), (.int .i64 0)]), m)))) fuel y0_45 y1_46 y7_47 y8_48 (.bool true) (.bool true) (.int .i64 0) m)) fuel x0 x1 v36_13 v38_14 (.int .i64 0) m)))))))) (fun v m => some (.pan v, m))))))))) (fun v m => some (.pan v, m))))))) (fun v m => some (.pan v, m)))
def keep18 : Keep := { region := fun i => ([[0, 1], [0, 1, 32], [4, 5, 6], [0, 1, 7, 8], [0, 1, 7, 8, 9], [0, 1, 7, 8, 9, 41], [0, 1, 7, 8, 9], [0, 1, 7, 8, 9, 50], [4, 5, 6], [0, 1, 7, 8, 9, 10], [0, 1, 7, 8, 9, 10, 53], [0, 1, 7, 8, 9, 10], [0, 1, 7, 8, 9, 10, 75], [4, 5, 6], [0, 1, 7, 8, 11, 12], [0, 1, 7, 8, 11, 12, 13], [0, 1, 7, 8, 11, 12, 13, 78], [0, 1, 7, 8, 11, 12, 13], [0, 1, 7, 8, 11, 12, 13, 14], [0, 1, 7, 8, 11, 12, 13, 14, 83], [0, 1, 7, 8, 11, 12, 13, 14], [0, 1, 7, 8, 11, 12, 13, 14, 15], [0, 1, 7, 8, 11, 12, 13, 14, 15, 112], [0, 1, 7, 8, 11, 13, 14, 15], [0, 1, 7, 8, 11, 12, 13, 14, 15], [0, 1, 7, 8, 11, 12, 13, 14, 136], [0, 1, 7, 8, 11, 13, 14], [0, 1, 7, 8, 11, 12, 13, 14], [4, 5, 6]] : List (List Nat))[i]?, exit := fun i => ([[0, 1, 7, 8], [0, 1, 7, 8, 9], [0, 1, 7, 8, 9], [0, 1, 7, 8, 9, 10], [11, 12], [0, 1, 7, 8, 11, 12, 13], [0, 1, 7, 8, 11, 12, 13], [0, 1, 7, 8, 11, 12, 13, 14]] : List (List Nat))[i]?, ret := some [4, 5, 6] }
noncomputable def r18_L2_R (call : CallF) (fuel base n : Nat) (vs : List Value) (m : M) (K : KT) : Res2 := match vs with
  | [x0, x1, x7, x8, x9, x10] => r18_L2 call fuel base (fun y4 y5 y6 m => K .ret { n := 149, l := [(4, y4), (5, y5), (6, y6)] } m) (fun y0 y1 y7 y8 y9 m => K (.exit 2) { n := 149, l := [(0, y0), (1, y1), (7, y7), (8, y8), (9, y9)] } m) n x0 x1 x7 x8 x9 x10 m
  | _ => none
noncomputable def r18_L6_R (call : CallF) (fuel base n : Nat) (vs : List Value) (m : M) (K : KT) : Res2 := match vs with
  | [x0, x1, x7, x8, x11, x12, x13, x14] => r18_L6 call fuel base (fun y0 y1 y7 y8 y11 y12 y13 m => K (.exit 6) { n := 149, l := [(0, y0), (1, y1), (7, y7), (8, y8), (11, y11), (12, y12), (13, y13)] } m) n x0 x1 x7 x8 x11 x12 x13 x14 m
  | _ => none
noncomputable def r18_L0_R (call : CallF) (fuel base n : Nat) (vs : List Value) (m : M) (K : KT) : Res2 := match vs with
  | [x0, x1, x7, x8, x9] => r18_L0 call fuel base (fun y4 y5 y6 m => K .ret { n := 149, l := [(4, y4), (5, y5), (6, y6)] } m) (fun y0 y1 y7 y8 m => K (.exit 0) { n := 149, l := [(0, y0), (1, y1), (7, y7), (8, y8)] } m) n x0 x1 x7 x8 x9 m
  | _ => none
noncomputable def r18_L4_R (call : CallF) (fuel base n : Nat) (vs : List Value) (m : M) (K : KT) : Res2 := match vs with
  | [x0, x1, x7, x8, x11, x12, x13] => r18_L4 call fuel base (fun y11 y12 m => K (.exit 4) { n := 149, l := [(11, y11), (12, y12)] } m) n x0 x1 x7 x8 x11 x12 x13 m
  | _ => none
noncomputable def lp18 (call : CallF) (fuel base : Nat) : Lp := lpsel [(2, fun T m K => kslots 149 [0, 1, 7, 8, 9, 10] T fun vs => r18_L2_R call fuel base fuel vs m K), (6, fun T m K => kslots 149 [0, 1, 7, 8, 11, 12, 13, 14] T fun vs => r18_L6_R call fuel base fuel vs m K), (0, fun T m K => kslots 149 [0, 1, 7, 8, 9] T fun vs => r18_L0_R call fuel base fuel vs m K), (4, fun T m K => kslots 149 [0, 1, 7, 8, 11, 12, 13] T fun vs => r18_L4_R call fuel base fuel vs m K)]
noncomputable def c18 : Code := Try.f18.body.getD .skip
theorem r18_L2_lk (call : CallF) (fuel base : Nat) : LoopsOk E call (lp18 call fuel base) fuel base 2 (loopB (blockB (seqR (seqR (blockB (seqL (seqR (loopB (blockB (seqR (seqL (seqR (seqR (seqR c18)))))))))))))) = (And (And True (And True True)) (And (And True (And (And True True) True)) True)) := by kernel_rfl
theorem r18_L2_ok (call : CallF) (fuel base : Nat) : LpOk E call (lp18 call fuel base) fuel base 2 (loopB (blockB (seqR (seqR (blockB (seqL (seqR (loopB (blockB (seqR (seqL (seqR (seqR (seqR c18)))))))))))))) := by
  refine loop_ok (kp := keep18) (hb := Eq.mpr (r18_L2_lk call fuel base) (And.intro (And.intro trivial (And.intro trivial trivial)) (And.intro (And.intro trivial (And.intro (And.intro trivial trivial) trivial)) trivial))) 149 [0, 1, 7, 8, 9, 10] (fun n vs m K => r18_L2_R call fuel base n vs m K) ?_ ?_ (fun _ _ _ => rfl)
  · intro vs m K
    unfold r18_L2_R
    split <;> rfl
  · intro n vs m K hl
    match vs, hl with
    | [x0, x1, x7, x8, x9, x10], _ => show _ = _; kernel_rfl
theorem r18_L6_lk (call : CallF) (fuel base : Nat) : LoopsOk E call (lp18 call fuel base) fuel base 6 (loopB (blockB (seqR (blockB (seqL (seqR (loopB (blockB (seqR (seqL (seqR (seqR (seqR (seqR (seqR c18))))))))))))))) = (And (And True (And True True)) (And (And True (And (And True (And (And True True) True)) (And True (And (And True True) True)))) True)) := by kernel_rfl
theorem r18_L6_ok (call : CallF) (fuel base : Nat) : LpOk E call (lp18 call fuel base) fuel base 6 (loopB (blockB (seqR (blockB (seqL (seqR (loopB (blockB (seqR (seqL (seqR (seqR (seqR (seqR (seqR c18))))))))))))))) := by
  refine loop_ok (kp := keep18) (hb := Eq.mpr (r18_L6_lk call fuel base) (And.intro (And.intro trivial (And.intro trivial trivial)) (And.intro (And.intro trivial (And.intro (And.intro trivial (And.intro (And.intro trivial trivial) trivial)) (And.intro trivial (And.intro (And.intro trivial trivial) trivial)))) trivial))) 149 [0, 1, 7, 8, 11, 12, 13, 14] (fun n vs m K => r18_L6_R call fuel base n vs m K) ?_ ?_ (fun _ _ _ => rfl)
  · intro vs m K
    unfold r18_L6_R
    split <;> rfl
  · intro n vs m K hl
    match vs, hl with
    | [x0, x1, x7, x8, x11, x12, x13, x14], _ => show _ = _; kernel_rfl
theorem r18_L0_lk (call : CallF) (fuel base : Nat) : LoopsOk E call (lp18 call fuel base) fuel base 0 (loopB (blockB (seqR (seqL (seqR (seqR (seqR c18))))))) = (And (And True (And True True)) (And (And (And True (And (And True True) True)) (And True (LpOk E call (lp18 call fuel base) fuel base 2 (loopB (blockB (seqR (seqR (blockB (seqL (seqR (loopB (blockB (seqR (seqL (seqR (seqR (seqR c18))))))))))))))))) True)) := by kernel_rfl
theorem r18_L0_ok (call : CallF) (fuel base : Nat) : LpOk E call (lp18 call fuel base) fuel base 0 (loopB (blockB (seqR (seqL (seqR (seqR (seqR c18))))))) := by
  refine loop_ok (kp := keep18) (hb := Eq.mpr (r18_L0_lk call fuel base) (And.intro (And.intro trivial (And.intro trivial trivial)) (And.intro (And.intro (And.intro trivial (And.intro (And.intro trivial trivial) trivial)) (And.intro trivial (r18_L2_ok call fuel base))) trivial))) 149 [0, 1, 7, 8, 9] (fun n vs m K => r18_L0_R call fuel base n vs m K) ?_ ?_ (fun _ _ _ => rfl)
  · intro vs m K
    unfold r18_L0_R
    split <;> rfl
  · intro n vs m K hl
    match vs, hl with
    | [x0, x1, x7, x8, x9], _ => show _ = _; kernel_rfl
theorem r18_L4_lk (call : CallF) (fuel base : Nat) : LoopsOk E call (lp18 call fuel base) fuel base 4 (loopB (blockB (seqR (seqL (seqR (seqR (seqR (seqR (seqR c18))))))))) = (And (And True (And True True)) (And (And True (LpOk E call (lp18 call fuel base) fuel base 6 (loopB (blockB (seqR (blockB (seqL (seqR (loopB (blockB (seqR (seqL (seqR (seqR (seqR (seqR (seqR c18))))))))))))))))) True)) := by kernel_rfl
theorem r18_L4_ok (call : CallF) (fuel base : Nat) : LpOk E call (lp18 call fuel base) fuel base 4 (loopB (blockB (seqR (seqL (seqR (seqR (seqR (seqR (seqR c18))))))))) := by
  refine loop_ok (kp := keep18) (hb := Eq.mpr (r18_L4_lk call fuel base) (And.intro (And.intro trivial (And.intro trivial trivial)) (And.intro (And.intro trivial (r18_L6_ok call fuel base)) trivial))) 149 [0, 1, 7, 8, 11, 12, 13] (fun n vs m K => r18_L4_R call fuel base n vs m K) ?_ ?_ (fun _ _ _ => rfl)
  · intro vs m K
    unfold r18_L4_R
    split <;> rfl
  · intro n vs m K hl
    match vs, hl with
    | [x0, x1, x7, x8, x11, x12, x13], _ => show _ = _; kernel_rfl
theorem r18_eq (call : CallF) (fuel base : Nat) (x0 : Value) (x1 : Value) (m : M) : kbody E call keep18 (lp18 call fuel base) base Try.f18 [x0, x1] m = r18 call fuel base x0 x1 m := by
  kernel_rfl
noncomputable def rf18 : RF := fun call fuel base args m => match args with
  | [x0, x1] => r18 call fuel base x0 x1 m
  | _ => none
theorem r18_lk (call : CallF) (fuel base : Nat) : LoopsOk E call (lp18 call fuel base) fuel base 0 c18 = (And True (And (And True (And (And True True) True)) (And True (And (And True (LpOk E call (lp18 call fuel base) fuel base 0 (loopB (blockB (seqR (seqL (seqR (seqR (seqR c18))))))))) (And True (And (And True (LpOk E call (lp18 call fuel base) fuel base 4 (loopB (blockB (seqR (seqL (seqR (seqR (seqR (seqR (seqR c18))))))))))) (And True True))))))) := by kernel_rfl
theorem r18_fn : E.P.funcs[18]? = some Try.f18 := by kernel_rfl
theorem r18_body : Try.f18.body = some c18 := by kernel_rfl
theorem rf18_ok : RFok E 18 rf18 := by
  refine ⟨Try.f18, r18_fn, fun call fuel base args m r _ h => ?_⟩
  unfold rf18 at h
  split at h
  · rw [← r18_eq] at h
    exact kbody_sound (c := c18) r18_body (Eq.mpr (r18_lk call fuel base) (And.intro trivial (And.intro (And.intro trivial (And.intro (And.intro trivial trivial) trivial)) (And.intro trivial (And.intro (And.intro trivial (r18_L0_ok call fuel base)) (And.intro trivial (And.intro (And.intro trivial (r18_L4_ok call fuel base)) (And.intro trivial trivial)))))))) h
  · simp at h
end Go.AM
namespace Go.AM
open Go Go.Proofs
noncomputable def r19 (call : CallF) (fuel base : Nat) (x0 : Value) (m : M) : Res2 :=
  (k2 (xbox m x0) fun v1_1 m => (k1 (xload E.P m 32 v1_1) fun v4_2 => (kc (call base 53 [v4_2] m) (fun v5_3 m => (k1 (mun .not v5_3) fun v6_4 => (kb v6_4 (some (.ret (.tuple #[(.slice none 0 0), (.int .i64 2)]), m)) (k1 (xload E.P m 32 v1_1) fun v7_5 => (kc (call base 54 [v7_5] m) (fun v8_6 m => (some (.ret (.tuple #[v8_6, (.int .i64 0)]), m))) (fun v m => some (.pan v, m))))))) (fun v m => some (.pan v, m)))))
def keep19 : Keep := { region := fun i => ([[1], [1, 6], [2, 3], [2, 3]] : List (List Nat))[i]?, exit := fun i => ([] : List (List Nat))[i]?, ret := some [2, 3] }
noncomputable def lp19 (call : CallF) (fuel base : Nat) : Lp := lpsel []
noncomputable def c19 : Code := Try.f19.body.getD .skip
theorem r19_eq (call : CallF) (fuel base : Nat) (x0 : Value) (m : M) : kbody E call keep19 (lp19 call fuel base) base Try.f19 [x0] m = r19 call fuel base x0 m := by
  kernel_rfl
noncomputable def rf19 : RF := fun call fuel base args m => match args with
  | [x0] => r19 call fuel base x0 m
  | _ => none
theorem r19_lk (call : CallF) (fuel base : Nat) : LoopsOk E call (lp19 call fuel base) fuel base 0 c19 = (And True (And (And True (And (And True True) True)) (And True True))) := by kernel_rfl
theorem r19_fn : E.P.funcs[19]? = some Try.f19 := by kernel_rfl
theorem r19_body : Try.f19.body = some c19 := by kernel_rfl
theorem rf19_ok : RFok E 19 rf19 := by
  refine ⟨Try.f19, r19_fn, fun call fuel base args m r _ h => ?_⟩
  unfold rf19 at h
  split at h
  · rw [← r19_eq] at h
    exact kbody_sound (c := c19) r19_body (Eq.mpr (r19_lk call fuel base) (And.intro trivial (And.intro (And.intro trivial (And.intro (And.intro trivial trivial) trivial)) (And.intro trivial trivial)))) h
  · simp at h
end Go.AM
namespace Go.AM
open Go Go.Proofs
noncomputable def r22 (call : CallF) (fuel base : Nat) (x0 : Value) (x1 : Value) (x2 : Value) (m : M) : Res2 :=
  (k2 (xbox m x0) fun v3_1 m => (k1 (xload E.P m 32 v3_1) fun v13_2 => (kc (call base 53 [v13_2] m) (fun v14_3 m => (k1 (mun .not v14_3) fun v15_4 => (kb v15_4 (some (.ret (.tuple #[(.slice none 0 0), (.int .i64 0), (.int .i64 0), (.int .i64 2)]), m)) (kc (call base 56 [x1] m) (fun v18_5 m => (k1 (mun .not v18_5) fun v19_6 => (kb v19_6 (some (.ret (.tuple #[(.slice none 0 0), (.int .i64 0), (.int .i64 0), (.int .i64 2)]), m)) (k1 (mbin E .lss 3 x2 (.int .i64 0)) fun v23_7 => (kb v23_7 (some (.ret (.tuple #[(.slice none 0 0), (.int .i64 0), (.int .i64 0), (.int .i64 2)]), m)) (k1 (mbin E .gtr 3 x2 (.int .i64 4)) fun v27_8 => (kb v27_8 (some (.ret (.tuple #[(.slice none 0 0), (.int .i64 0), (.int .i64 0), (.int .i64 2)]), m)) (k1 (xload E.P m 32 v3_1) fun v30_9 => (kc (call base 57 [v30_9, x1, x2] m) (fun v33_10 m => (k1 (mextract 0 v33_10) fun v34_11 => (k1 (mextract 1 v33_10) fun v35_12 => (k1 (mextract 2 v33_10) fun v36_13 => (some (.ret (.tuple #[v34_11, v35_12, v36_13, (.int .i64 0)]), m)))))) (fun v m => some (.pan v, m))))))))))) (fun v m => some (.pan v, m)))))) (fun v m => some (.pan v, m)))))
def keep22 : Keep := { region := fun i => ([[1, 2, 3], [1, 2, 3, 28], [6, 7, 8, 9], [10, 11, 12], [6, 7, 8, 9]] : List (List Nat))[i]?, exit := fun i => ([] : List (List Nat))[i]?, ret := some [6, 7, 8, 9] }
noncomputable def lp22 (call : CallF) (fuel base : Nat) : Lp := lpsel []
noncomputable def c22 : Code := Try.f22.body.getD .skip
theorem r22_eq (call : CallF) (fuel base : Nat) (x0 : Value) (x1 : Value) (x2 : Value) (m : M) : kbody E call keep22 (lp22 call fuel base) base Try.f22 [x0, x1, x2] m = r22 call fuel base x0 x1 x2 m := by
  kernel_rfl
noncomputable def rf22 : RF := fun call fuel base args m => match args with
  | [x0, x1, x2] => r22 call fuel base x0 x1 x2 m
  | _ => none
theorem r22_lk (call : CallF) (fuel base : Nat) : LoopsOk E call (lp22 call fuel base) fuel base 0 c22 = (And True (And (And True (And (And True True) True)) (And True (And True True)))) := by kernel_rfl
theorem r22_fn : E.P.funcs[22]? = some Try.f22 := by kernel_rfl
theorem r22_body : Try.f22.body = some c22 := by kernel_rfl
theorem rf22_ok : RFok E 22 rf22 := by
  refine ⟨Try.f22, r22_fn, fun call fuel base args m r _ h => ?_⟩
  unfold rf22 at h
  split at h
  · rw [← r22_eq] at h
    exact kbody_sound (c := c22) r22_body (Eq.mpr (r22_lk call fuel base) (And.intro trivial (And.intro (And.intro trivial (And.intro (And.intro trivial trivial) trivial)) (And.intro trivial (And.intro trivial trivial))))) h
  · simp at h
end Go.AM
namespace Go.AM
open Go Go.Proofs
noncomputable def r25_L2 (call : CallF) (fuel base : Nat) (kr : Value → M → Res2) (kx2 : Value → Value → M → Res2) (n : Nat) : Value → Value → Value → Value → M → Res2 :=
  Nat.rec (motive := fun _ => Value → Value → Value → Value → M → Res2) (fun _ _ _ _ _ => none)
    (fun _ ih x0 x3 x4 x5 m =>
      (k1 (mbin E .lss 3 x5 x3) fun v48_26 => (kb v48_26 (k1 (mindexAddr E.P 22 x0 x5) fun v53_27 => (k1 (xload E.P m 45 v53_27) fun v54_28 => (k1 (xload E.P m 45 x4) fun v55_29 => (k1 (mbin E .eql 45 v54_28 v55_29) fun v56_30 => (kb v56_30 (kr (.bool false) m) (k1 (mbin E .add 3 x5 (.int .i64 1)) fun v50_31 => (ih x0 x3 x4 v50_31 m))))))) (kx2 x0 x3 m)))) n
noncomputable def r25_L0 (call : CallF) (fuel base : Nat) (kp : Value → M → Res2) (kr : Value → M → Res2) (kx0 : M → Res2) (n : Nat) : Value → Value → M → Res2 :=
  Nat.rec (motive := fun _ => Value → Value → M → Res2) (fun _ _ _ => none)
    (fun _ ih x0 x3 m =>
      (k2 (vcall E.P base m .len [22] [x0]) fun v16_5 m => (k1 (mbin E .lss 3 x3 v16_5) fun v17_6 => (kb v17_6 (k1 (mindexAddr E.P 22 x0 x3) fun v22_7 => (k1 (xload E.P m 45 v22_7) fun v23_8 => (k2 (xalloc E.P m 45) fun v4_9 m => (ks (xstore E.P base m 45 v4_9 v23_8) fun m => (k1 (mfieldAddr E.P 45 v4_9 0) fun v24_10 => (k1 (xload E.P m 3 v24_10) fun v25_11 => (kc (call base 58 [v25_11] m) (fun v26_12 m => (k1 (mun .not v26_12) fun v27_13 => (kb v27_13 (kr (.bool false) m) (k1 (mfieldAddr E.P 45 v4_9 1) fun v29_14 => (k1 (xload E.P m 3 v29_14) fun v30_15 => (kc (call base 58 [v30_15] m) (fun v31_16 m => (k1 (mun .not v31_16) fun v32_17 => (kb v32_17 (kr (.bool false) m) (k1 (mfieldAddr E.P 45 v4_9 2) fun v35_18 => (k1 (xload E.P m 3 v35_18) fun v36_19 => (kc (call base 58 [v36_19] m) (fun v37_20 m => (k1 (mun .not v37_20) fun v38_21 => (kb v38_21 (kr (.bool false) m) (k1 (mfieldAddr E.P 45 v4_9 3) fun v41_22 => (k1 (xload E.P m 3 v41_22) fun v42_23 => (kc (call base 58 [v42_23] m) (fun v43_24 m => (k1 (mun .not v43_24) fun v44_25 => (kb v44_25 (kr (.bool false) m) (r25_L2 call fuel base (fun y2_32 m => (kr y2_32 m)) (fun y0_33 y3_34 m => (k1 (mbin E .add 3 y3_34 (.int .i64 1)) fun v19_35 => (ih y0_33 v19_35 m))) fuel x0 x3 v4_9 (.int .i64 0) m)))) (fun v m => kp v m))))))) (fun v m => kp v m))))))) (fun v m => kp v m))))))) (fun v m => kp v m)))))))) (kx0 m))))) n
noncomputable def r25 (call : CallF) (fuel base : Nat) (x0 : Value) (m : M) : Res2 :=
  (k2 (vcall E.P base m .len [22] [x0]) fun v7_1 m => (k1 (mbin E .lss 3 v7_1 (.int .i64 1)) fun v8_2 => (kb v8_2 (fVal (.bool false) fun v => some (.ret v, m)) (k2 (vcall E.P base m .len [22] [x0]) fun v11_3 m => (k1 (mbin E .gtr 3 v11_3 (.int .i64 16)) fun v12_4 => (kb v12_4 (fVal (.bool false) fun v => some (.ret v, m)) (r25_L0 call fuel base (fun v m => some (.pan v, m)) (fun y2_36 m => (fVal y2_36 fun v => some (.ret v, m))) (fun m => (fVal (.bool true) fun v => some (.ret v, m))) fuel x0 (.int .i64 0) m)))))))
def keep25 : Keep := { region := fun i => ([[0], [0, 13], [2], [0, 3], [0, 3, 17], [0, 3], [0, 3, 4], [0, 3, 4, 45], [2], [0, 3, 4, 5], [0, 3, 4, 5, 48], [0, 3, 4, 5], [0, 3, 4, 5, 56], [2], [2]] : List (List Nat))[i]?, exit := fun i => ([[], [0, 3], [0, 3], [0, 3, 4, 5]] : List (List Nat))[i]?, ret := some [2] }
noncomputable def r25_L2_R (call : CallF) (fuel base n : Nat) (vs : List Value) (m : M) (K : KT) : Res2 := match vs with
  | [x0, x3, x4, x5] => r25_L2 call fuel base (fun y2 m => K .ret { n := 57, l := [(2, y2)] } m) (fun y0 y3 m => K (.exit 2) { n := 57, l := [(0, y0), (3, y3)] } m) n x0 x3 x4 x5 m
  | _ => none
noncomputable def r25_L0_R (call : CallF) (fuel base n : Nat) (vs : List Value) (m : M) (K : KT) : Res2 := match vs with
  | [x0, x3] => r25_L0 call fuel base (fun v m => K (.pan v) { n := 57, l := [] } m) (fun y2 m => K .ret { n := 57, l := [(2, y2)] } m) (fun m => K (.exit 0) { n := 57, l := [] } m) n x0 x3 m
  | _ => none
noncomputable def lp25 (call : CallF) (fuel base : Nat) : Lp := lpsel [(2, fun T m K => kslots 57 [0, 3, 4, 5] T fun vs => r25_L2_R call fuel base fuel vs m K), (0, fun T m K => kslots 57 [0, 3] T fun vs => r25_L0_R call fuel base fuel vs m K)]
noncomputable def c25 : Code := Try.f25.body.getD .skip
theorem r25_L2_lk (call : CallF) (fuel base : Nat) : LoopsOk E call (lp25 call fuel base) fuel base 2 (loopB (blockB (seqR (seqR (seqR (blockB (seqL (seqR (loopB (blockB (seqR (seqL (seqR (seqR c25)))))))))))))) = (And (And True (And True True)) (And (And True (And (And True True) True)) True)) := by kernel_rfl
theorem r25_L2_ok (call : CallF) (fuel base : Nat) : LpOk E call (lp25 call fuel base) fuel base 2 (loopB (blockB (seqR (seqR (seqR (blockB (seqL (seqR (loopB (blockB (seqR (seqL (seqR (seqR c25)))))))))))))) := by
  refine loop_ok (kp := keep25) (hb := Eq.mpr (r25_L2_lk call fuel base) (And.intro (And.intro trivial (And.intro trivial trivial)) (And.intro (And.intro trivial (And.intro (And.intro trivial trivial) trivial)) trivial))) 57 [0, 3, 4, 5] (fun n vs m K => r25_L2_R call fuel base n vs m K) ?_ ?_ (fun _ _ _ => rfl)
  · intro vs m K
    unfold r25_L2_R
    split <;> rfl
  · intro n vs m K hl
    match vs, hl with
    | [x0, x3, x4, x5], _ => show _ = _; kernel_rfl
theorem r25_L0_lk (call : CallF) (fuel base : Nat) : LoopsOk E call (lp25 call fuel base) fuel base 0 (loopB (blockB (seqR (seqL (seqR (seqR c25)))))) = (And (And True (And True True)) (And (And True (And (And True (And (And True True) True)) (And True (LpOk E call (lp25 call fuel base) fuel base 2 (loopB (blockB (seqR (seqR (seqR (blockB (seqL (seqR (loopB (blockB (seqR (seqL (seqR (seqR c25)))))))))))))))))) True)) := by kernel_rfl
theorem r25_L0_ok (call : CallF) (fuel base : Nat) : LpOk E call (lp25 call fuel base) fuel base 0 (loopB (blockB (seqR (seqL (seqR (seqR c25)))))) := by
  refine loop_ok (kp := keep25) (hb := Eq.mpr (r25_L0_lk call fuel base) (And.intro (And.intro trivial (And.intro trivial trivial)) (And.intro (And.intro trivial (And.intro (And.intro trivial (And.intro (And.intro trivial trivial) trivial)) (And.intro trivial (r25_L2_ok call fuel base)))) trivial))) 57 [0, 3] (fun n vs m K => r25_L0_R call fuel base n vs m K) ?_ ?_ (fun _ _ _ => rfl)
  · intro vs m K
    unfold r25_L0_R
    split <;> rfl
  · intro n vs m K hl
    match vs, hl with
    | [x0, x3], _ => show _ = _; kernel_rfl
theorem r25_eq (call : CallF) (fuel base : Nat) (x0 : Value) (m : M) : kbody E call keep25 (lp25 call fuel base) base Try.f25 [x0] m = r25 call fuel base x0 m := by
  kernel_rfl
noncomputable def rf25 : RF := fun call fuel base args m => match args with
  | [x0] => r25 call fuel base x0 m
  | _ => none
theorem r25_lk (call : CallF) (fuel base : Nat) : LoopsOk E call (lp25 call fuel base) fuel base 0 c25 = (And True (And (And True (And (And True True) True)) (And (And True (LpOk E call (lp25 call fuel base) fuel base 0 (loopB (blockB (seqR (seqL (seqR (seqR c25)))))))) (And True True)))) := by kernel_rfl
theorem r25_fn : E.P.funcs[25]? = some Try.f25 := by kernel_rfl
theorem r25_body : Try.f25.body = some c25 := by kernel_rfl
theorem rf25_ok : RFok E 25 rf25 := by
  refine ⟨Try.f25, r25_fn, fun call fuel base args m r _ h => ?_⟩
  unfold rf25 at h
  split at h
  · rw [← r25_eq] at h
    exact kbody_sound (c := c25) r25_body (Eq.mpr (r25_lk call fuel base) (And.intro trivial (And.intro (And.intro trivial (And.intro (And.intro trivial trivial) trivial)) (And.intro (And.intro trivial (r25_L0_ok call fuel base)) (And.intro trivial trivial))))) h
  · simp at h
end Go.AM
namespace Go.AM
open Go Go.Proofs
noncomputable def r26 (call : CallF) (fuel base : Nat) (x0 : Value) (x1 : Value) (x2 : Value) (m : M) : Res2 :=
  (k2 (xbuildSlice E.P m 33 0 []) fun v8_1 m => (k2 (vcall E.P base m .append [33, 33] [v8_1, x0]) fun v10_2 m => (k1 (mindexAddr E.P 33 v10_2 x1) fun v13_3 => (k1 (xload E.P m 3 v13_3) fun v14_4 => (k1 (mbin E .mul 3 (.int .i64 2) x2) fun v16_5 => (k1 (mbin E .add 3 (.int .i64 2) v16_5) fun v17_6 => (k1 (mbin E .add 3 v14_4 v17_6) fun v18_7 => (k1 (mindexAddr E.P 33 v10_2 x1) fun v19_8 => (ks (xstore E.P base m 3 v19_8 v18_7) fun m => (fVal v10_2 fun v => some (.ret v, m)))))))))))
def keep26 : Keep := { region := fun i => ([[0, 1, 2], [1, 2, 7], [7], [6]] : List (List Nat))[i]?, exit := fun i => ([] : List (List Nat))[i]?, ret := some [6] }
noncomputable def lp26 (call : CallF) (fuel base : Nat) : Lp := lpsel []
noncomputable def c26 : Code := Try.f26.body.getD .skip
theorem r26_eq (call : CallF) (fuel base : Nat) (x0 : Value) (x1 : Value) (x2 : Value) (m : M) : kbody E call keep26 (lp26 call fuel base) base Try.f26 [x0, x1, x2] m = r26 call fuel base x0 x1 x2 m := by
  kernel_rfl
noncomputable def rf26 : RF := fun call fuel base args m => match args with
  | [x0, x1, x2] => r26 call fuel base x0 x1 x2 m
  | _ => none
theorem r26_lk (call : CallF) (fuel base : Nat) : LoopsOk E call (lp26 call fuel base) fuel base 0 c26 = (And True (And True (And True (And True True)))) := by kernel_rfl
theorem r26_fn : E.P.funcs[26]? = some Try.f26 := by kernel_rfl
theorem r26_body : Try.f26.body = some c26 := by kernel_rfl
theorem rf26_ok : RFok E 26 rf26 := by
  refine ⟨Try.f26, r26_fn, fun call fuel base args m r _ h => ?_⟩
  unfold rf26 at h
  split at h
  · rw [← r26_eq] at h
    exact kbody_sound (c := c26) r26_body (Eq.mpr (r26_lk call fuel base) (And.intro trivial (And.intro trivial (And.intro trivial (And.intro trivial trivial))))) h
  · simp at h
end Go.AM
namespace Go.AM
open Go Go.Proofs
noncomputable def r27_L0 (call : CallF) (fuel base : Nat) (kp : Value → M → Res2) (kx0 : Value → M → Res2) (n : Nat) : Value → Value → Value → Value → Value → Value → Value → M → Res2 :=
  Nat.rec (motive := fun _ => Value → Value → Value → Value → Value → Value → Value → M → Res2) (fun _ _ _ _ _ _ _ _ => none)
    (fun _ ih x0 x1 x2 x7 x8 x9 x10 m =>
      (k2 (vcall E.P base m .len [22] [x0]) fun v36_15 m => (k1 (mbin E .lss 3 x10 v36_15) fun v37_16 => (kb v37_16 (k1 (mindexAddr E.P 22 x0 x10) fun v42_17 => (k1 (mfieldAddr E.P 45 v42_17 0) fun v43_18 => (k1 (xload E.P m 3 v43_18) fun v44_19 => (k1 (mindexAddr E.P 33 x1 x7) fun v47_20 => (k1 (xload E.P m 3 v47_20) fun v48_21 => (k1 (mbin E .eql 3 v44_19 v48_21) fun v49_22 => (kb v49_22 (k1 (mindexAddr E.P 22 x0 x10) fun v53_23 => (k1 (mfieldAddr E.P 45 v53_23 3) fun v54_24 => (k1 (xload E.P m 3 v54_24) fun v55_25 => (k1 (mbin E .eql 3 v55_25 x8) fun v57_26 => (kb v57_26 (k1 (mslice E.P m 33 x2 none (some x7) (some x7)) fun v65_27 => (k2 (xbuildSlice E.P m 33 1 [(0, x10)]) fun v67_28 m => (k2 (vcall E.P base m .append [33, 33] [v65_27, v67_28]) fun v68_29 m => (kc (call base 27 [x0, x1, v68_29] m) (fun v69_30 m => (k2 (vcall E.P base m .append [23, 23] [x9, v69_30]) fun v70_31 m => (k1 (mbin E .add 3 x10 (.int .i64 1)) fun v39_32 => (ih x0 x1 x2 x7 x8 v70_31 v39_32 m)))) (fun v m => kp v m))))) (k1 (mbin E .add 3 x10 (.int .i64 1)) fun v39_33 => (ih x0 x1 x2 x7 x8 x9 v39_33 m))))))) (k1 (mbin E .add 3 x10 (.int .i64 1)) fun v39_34 => (ih x0 x1 x2 x7 x8 x9 v39_34 m))))))))) (kx0 x9 m))))) n
noncomputable def r27 (call : CallF) (fuel base : Nat) (x0 : Value) (x1 : Value) (x2 : Value) (m : M) : Res2 :=
  (k2 (vcall E.P base m .len [33] [x2]) fun v12_1 m => (k1 (mbin E .gtr 3 v12_1 (.int .i64 0)) fun v14_2 => (kb v14_2 (k1 (mbin E .sub 3 v12_1 (.int .i64 1)) fun v18_3 => (k1 (mindexAddr E.P 33 x2 v18_3) fun v19_4 => (k1 (xload E.P m 3 v19_4) fun v20_5 => (k1 (mindexAddr E.P 22 x0 v20_5) fun v21_6 => (k1 (mfieldAddr E.P 45 v21_6 1) fun v22_7 => (k1 (xload E.P m 3 v22_7) fun v23_8 => (k2 (vcall E.P base m .len [33] [x1]) fun v26_9 m => (k1 (mbin E .eql 3 v12_1 v26_9) fun v27_10 => (kb v27_10 (k1 (mbin E .eql 3 v23_8 (.int .i64 0)) fun v29_11 => (kb v29_11 (k2 (xbuildSlice E.P m 33 0 []) fun v30_12 m => (k2 (vcall E.P base m .append [33, 33] [v30_12, x2]) fun v32_13 m => (k2 (xbuildSlice E.P m 23 1 [(0, v32_13)]) fun v33_14 m => (fVal v33_14 fun v => some (.ret v, m))))) (fVal (.slice none 0 0) fun v => some (.ret v, m)))) (r27_L0 call fuel base (fun v m => some (.pan v, m)) (fun y9_35 m => (fVal y9_35 fun v => some (.ret v, m))) fuel x0 x1 x2 v12_1 v23_8 (.slice none 0 0) (.int .i64 0) m)))))))))) (k2 (vcall E.P base m .len [33] [x1]) fun v26_36 m => (k1 (mbin E .eql 3 v12_1 v26_36) fun v27_37 => (kb v27_37 (k1 (mbin E .eql 3 (.int .i64 0) (.int .i64 0)) fun v29_38 => (kb v29_38 (k2 (xbuildSlice E.P m 33 0 []) fun v30_39 m => (k2 (vcall E.P base m .append [33, 33] [v30_39, x2]) fun v32_40 m => (k2 (xbuildSlice E.P m 23 1 [(0, v32_40)]) fun v33_41 m => (fVal v33_41 fun v => some (.ret v, m))))) (fVal (.slice none 0 0) fun v => some (.ret v, m)))) (r27_L0 call fuel base (fun v m => some (.pan v, m)) (fun y9_42 m => (fVal y9_42 fun v => some (.ret v, m))) fuel x0 x1 x2 v12_1 (.int .i64 0) (.slice none 0 0) (.int .i64 0) m)))))))
def keep27 : Keep := { region := fun i => ([[0, 1, 2], [0, 1, 2, 7], [0, 1, 2, 7, 8], [0, 1, 2, 7, 8, 14], [0, 1, 2, 7, 8], [0, 1, 2, 7, 8, 27], [2, 29], [6], [6], [0, 1, 2, 7, 8, 9], [0, 1, 2, 7, 8, 9, 10], [0, 1, 2, 7, 8, 9, 10, 37], [0, 1, 2, 7, 8, 9, 10], [0, 1, 2, 7, 8, 9, 10, 58], [0, 1, 2, 7, 8, 9, 10], [6]] : List (List Nat))[i]?, exit := fun i => ([[9], [0, 1, 2, 7, 8, 9, 10]] : List (List Nat))[i]?, ret := some [6] }
noncomputable def r27_L0_R (call : CallF) (fuel base n : Nat) (vs : List Value) (m : M) (K : KT) : Res2 := match vs with
  | [x0, x1, x2, x7, x8, x9, x10] => r27_L0 call fuel base (fun v m => K (.pan v) { n := 72, l := [] } m) (fun y9 m => K (.exit 0) { n := 72, l := [(9, y9)] } m) n x0 x1 x2 x7 x8 x9 x10 m
  | _ => none
noncomputable def lp27 (call : CallF) (fuel base : Nat) : Lp := lpsel [(0, fun T m K => kslots 72 [0, 1, 2, 7, 8, 9, 10] T fun vs => r27_L0_R call fuel base fuel vs m K)]
noncomputable def c27 : Code := Try.f27.body.getD .skip
theorem r27_L0_lk (call : CallF) (fuel base : Nat) : LoopsOk E call (lp27 call fuel base) fuel base 0 (loopB (blockB (seqR (seqL (seqR (seqR (seqR (seqR (seqR (seqR c27)))))))))) = (And (And True (And True True)) (And (And True (And True True)) True)) := by kernel_rfl
theorem r27_L0_ok (call : CallF) (fuel base : Nat) : LpOk E call (lp27 call fuel base) fuel base 0 (loopB (blockB (seqR (seqL (seqR (seqR (seqR (seqR (seqR (seqR c27)))))))))) := by
  refine loop_ok (kp := keep27) (hb := Eq.mpr (r27_L0_lk call fuel base) (And.intro (And.intro trivial (And.intro trivial trivial)) (And.intro (And.intro trivial (And.intro trivial trivial)) trivial))) 72 [0, 1, 2, 7, 8, 9, 10] (fun n vs m K => r27_L0_R call fuel base n vs m K) ?_ ?_ (fun _ _ _ => rfl)
  · intro vs m K
    unfold r27_L0_R
    split <;> rfl
  · intro n vs m K hl
    match vs, hl with
    | [x0, x1, x2, x7, x8, x9, x10], _ => show _ = _; kernel_rfl
theorem r27_eq (call : CallF) (fuel base : Nat) (x0 : Value) (x1 : Value) (x2 : Value) (m : M) : kbody E call keep27 (lp27 call fuel base) base Try.f27 [x0, x1, x2] m = r27 call fuel base x0 x1 x2 m := by
  kernel_rfl
noncomputable def rf27 : RF := fun call fuel base args m => match args with
  | [x0, x1, x2] => r27 call fuel base x0 x1 x2 m
  | _ => none
theorem r27_lk (call : CallF) (fuel base : Nat) : LoopsOk E call (lp27 call fuel base) fuel base 0 c27 = (And True (And True (And True (And (And True (And True True)) (And (And True (And (And (And True (And (And True True) True)) (And True True)) True)) (And True (And (And True (LpOk E call (lp27 call fuel base) fuel base 0 (loopB (blockB (seqR (seqL (seqR (seqR (seqR (seqR (seqR (seqR c27)))))))))))) (And True True)))))))) := by kernel_rfl
theorem r27_fn : E.P.funcs[27]? = some Try.f27 := by kernel_rfl
theorem r27_body : Try.f27.body = some c27 := by kernel_rfl
theorem rf27_ok : RFok E 27 rf27 := by
  refine ⟨Try.f27, r27_fn, fun call fuel base args m r _ h => ?_⟩
  unfold rf27 at h
  split at h
  · rw [← r27_eq] at h
    exact kbody_sound (c := c27) r27_body (Eq.mpr (r27_lk call fuel base) (And.intro trivial (And.intro trivial (And.intro trivial (And.intro (And.intro trivial (And.intro trivial trivial)) (And.intro (And.intro trivial (And.intro (And.intro (And.intro trivial (And.intro (And.intro trivial trivial) trivial)) (And.intro trivial trivial)) trivial)) (And.intro trivial (And.intro (And.intro trivial (r27_L0_ok call fuel base)) (And.intro trivial trivial))))))))) h
  · simp at h
end Go.AM
namespace Go.AM
open Go Go.Proofs
noncomputable def r28 (call : CallF) (fuel base : Nat) (x0 : Value) (x1 : Value) (x2 : Value) (x3 : Value) (m : M) : Res2 :=
  (kc (call base 59 [x0, x1, x2] m) (fun v13_1 m => (k1 (mun .not v13_1) fun v14_2 => (kb v14_2 (some (.ret (.tuple #[(.bool false), (.int .i64 2)]), m)) (k2 (vcall E.P base m .len [23] [x3]) fun v16_3 m => (k1 (mbin E .gtr 3 v16_3 (.int .i64 65535)) fun v17_4 => (kb v17_4 (some (.ret (.tuple #[(.bool false), (.int .i64 3)]), m)) (kc (call base 60 [x3, x1, x2] m) (fun v21_5 m => (kb v21_5 (kc (call base 61 [x0, x1] m) (fun v25_6 m => (kc (call base 62 [v25_6, x3] m) (fun v27_7 m => (some (.ret (.tuple #[v27_7, (.int .i64 0)]), m))) (fun v m => some (.pan v, m)))) (fun v m => some (.pan v, m))) (some (.ret (.tuple #[(.bool false), (.int .i64 0)]), m)))) (fun v m => some (.pan v, m))))))))) (fun v m => some (.pan v, m)))
def keep28 : Keep := { region := fun i => ([[0, 1, 2, 3], [0, 1, 2, 3, 14], [8, 9], [0, 1, 2, 3, 17], [8, 9], [8, 9]] : List (List Nat))[i]?, exit := fun i => ([] : List (List Nat))[i]?, ret := some [8, 9] }
noncomputable def lp28 (call : CallF) (fuel base : Nat) : Lp := lpsel []
noncomputable def c28 : Code := Try.f28.body.getD .skip
theorem r28_eq (call : CallF) (fuel base : Nat) (x0 : Value) (x1 : Value) (x2 : Value) (x3 : Value) (m : M) : kbody E call keep28 (lp28 call fuel base) base Try.f28 [x0, x1, x2, x3] m = r28 call fuel base x0 x1 x2 x3 m := by
  kernel_rfl
noncomputable def rf28 : RF := fun call fuel base args m => match args with
  | [x0, x1, x2, x3] => r28 call fuel base x0 x1 x2 x3 m
  | _ => none
theorem r28_lk (call : CallF) (fuel base : Nat) : LoopsOk E call (lp28 call fuel base) fuel base 0 c28 = (And True (And (And True (And (And True True) True)) (And (And True (And (And True True) True)) (And True True)))) := by kernel_rfl
theorem r28_fn : E.P.funcs[28]? = some Try.f28 := by kernel_rfl
theorem r28_body : Try.f28.body = some c28 := by kernel_rfl
theorem rf28_ok : RFok E 28 rf28 := by
  refine ⟨Try.f28, r28_fn, fun call fuel base args m r _ h => ?_⟩
  unfold rf28 at h
  split at h
  · rw [← r28_eq] at h
    exact kbody_sound (c := c28) r28_body (Eq.mpr (r28_lk call fuel base) (And.intro trivial (And.intro (And.intro trivial (And.intro (And.intro trivial trivial) trivial)) (And.intro (And.intro trivial (And.intro (And.intro trivial trivial) trivial)) (And.intro trivial trivial))))) h
  · simp at h
end Go.AM
namespace Go.AM
open Go Go.Proofs
noncomputable def r32 (call : CallF) (fuel base : Nat) (x0 : Value) (x1 : Value) (x2 : Value) (m : M) : Res2 :=
  (kc (call base 59 [x0, x1, x2] m) (fun v11_1 m => (k1 (mun .not v11_1) fun v12_2 => (kb v12_2 (some (.ret (.tuple #[(.int .i64 0), (.int .i64 2)]), m)) (kc (call base 61 [x0, x1] m) (fun v15_3 m => (kc (call base 69 [v15_3, x2] m) (fun v17_4 m => (kc (call base 68 [v17_4] m) (fun v18_5 m => (k1 (mextract 0 v18_5) fun v19_6 => (k1 (mextract 1 v18_5) fun v20_7 => (some (.ret (.tuple #[v19_6, v20_7]), m))))) (fun v m => some (.pan v, m)))) (fun v m => some (.pan v, m)))) (fun v m => some (.pan v, m)))))) (fun v m => some (.pan v, m)))
def keep32 : Keep := { region := fun i => ([[0, 1, 2], [0, 1, 2, 12], [6, 7], [6, 7]] : List (List Nat))[i]?, exit := fun i => ([] : List (List Nat))[i]?, ret := some [6, 7] }
noncomputable def lp32 (call : CallF) (fuel base : Nat) : Lp := lpsel []
noncomputable def c32 : Code := Try.f32.body.getD .skip
theorem r32_eq (call : CallF) (fuel base : Nat) (x0 : Value) (x1 : Value) (x2 : Value) (m : M) : kbody E call keep32 (lp32 call fuel base) base Try.f32 [x0, x1, x2] m = r32 call fuel base x0 x1 x2 m := by
  kernel_rfl
noncomputable def rf32 : RF := fun call fuel base args m => match args with
  | [x0, x1, x2] => r32 call fuel base x0 x1 x2 m
  | _ => none
theorem r32_lk (call : CallF) (fuel base : Nat) : LoopsOk E call (lp32 call fuel base) fuel base 0 c32 = (And True (And (And True (And (And True True) True)) (And True True))) := by kernel_rfl
theorem r32_fn : E.P.funcs[32]? = some Try.f32 := by kernel_rfl
theorem r32_body : Try.f32.body = some c32 := by kernel_rfl
theorem rf32_ok : RFok E 32 rf32 := by
  refine ⟨Try.f32, r32_fn, fun call fuel base args m r _ h => ?_⟩
  unfold rf32 at h
  split at h
  · rw [← r32_eq] at h
    exact kbody_sound (c := c32) r32_body (Eq.mpr (r32_lk call fuel base) (And.intro trivial (And.intro (And.intro trivial (And.intro (And.intro trivial trivial) trivial)) (And.intro trivial trivial)))) h
  · simp at h
end Go.AM
namespace Go.AM
open Go Go.Proofs
noncomputable def r41 (call : CallF) (fuel base : Nat) (x0 : Value) (x1 : Value) (x2 : Value) (m : M) : Res2 :=
  (kc (call base 59 [x0, x1, x2] m) (fun v12_1 m => (k1 (mun .not v12_1) fun v13_2 => (kb v13_2 (some (.ret (.tuple #[(.slice none 0 0), (.int .i64 2)]), m)) (kc (call base 61 [x0, x1] m) (fun v16_3 m => (k2 (xalloc E.P m 76) fun v8_4 m => (ks (xstore E.P base m 76 v8_4 v16_3) fun m => (k1 (xload E.P m 76 v8_4) fun v17_5 => (kc (call base 69 [v17_5, x2] m) (fun v19_6 m => (k1 (mbin E .gtr 3 v19_6 (.int .i64 0)) fun v20_7 => (kb v20_7 (some (.ret (.tuple #[(.slice none 0 0), (.int .i64 10)]), m)) (k1 (xload E.P m 76 v8_4) fun v21_8 => (kc (call base 74 [v21_8, x2] m) (fun v23_9 m => (some (.ret (.tuple #[v23_9, (.int .i64 0)]), m))) (fun v m => some (.pan v, m))))))) (fun v m => some (.pan v, m))))))) (fun v m => some (.pan v, m)))))) (fun v m => some (.pan v, m)))
def keep41 : Keep := { region := fun i => ([[0, 1, 2], [0, 1, 2, 13], [6, 7], [2, 8], [2, 8, 20], [6, 7], [6, 7]] : List (List Nat))[i]?, exit := fun i => ([] : List (List Nat))[i]?, ret := some [6, 7] }
noncomputable def lp41 (call : CallF) (fuel base : Nat) : Lp := lpsel []
noncomputable def c41 : Code := Try.f41.body.getD .skip
theorem r41_eq (call : CallF) (fuel base : Nat) (x0 : Value) (x1 : Value) (x2 : Value) (m : M) : kbody E call keep41 (lp41 call fuel base) base Try.f41 [x0, x1, x2] m = r41 call fuel base x0 x1 x2 m := by
  kernel_rfl
noncomputable def rf41 : RF := fun call fuel base args m => match args with
  | [x0, x1, x2] => r41 call fuel base x0 x1 x2 m
  | _ => none
theorem r41_lk (call : CallF) (fuel base : Nat) : LoopsOk E call (lp41 call fuel base) fuel base 0 c41 = (And True (And (And True (And (And True True) True)) (And True (And (And True (And (And True True) True)) (And True True))))) := by kernel_rfl
theorem r41_fn : E.P.funcs[41]? = some Try.f41 := by kernel_rfl
theorem r41_body : Try.f41.body = some c41 := by kernel_rfl
theorem rf41_ok : RFok E 41 rf41 := by
  refine ⟨Try.f41, r41_fn, fun call fuel base args m r _ h => ?_⟩
  unfold rf41 at h
  split at h
  · rw [← r41_eq] at h
    exact kbody_sound (c := c41) r41_body (Eq.mpr (r41_lk call fuel base) (And.intro trivial (And.intro (And.intro trivial (And.intro (And.intro trivial trivial) trivial)) (And.intro trivial (And.intro (And.intro trivial (And.intro (And.intro trivial trivial) trivial)) (And.intro trivial trivial)))))) h
  · simp at h
end Go.AM
namespace Go.AM
open Go Go.Proofs
noncomputable def r48_L0 (call : CallF) (fuel base : Nat) (kr : Value → M → Res2) (kx0 : M → Res2) (n : Nat) : Value → Value → Value → Value → M → Res2 :=
  Nat.rec (motive := fun _ => Value → Value → Value → Value → M → Res2) (fun _ _ _ _ _ => none)
    (fun _ ih x0 x13 x14 x15 m =>
      (k1 (mbin E .lss 3 x15 x14) fun v16_6 => (kb v16_6 (k1 (mindexAddr E.P 22 x13 x15) fun v18_7 => (k1 (xload E.P m 45 v18_7) fun v19_8 => (k2 (xalloc E.P m 45) fun v4_9 m => (ks (xstore E.P base m 45 v4_9 v19_8) fun m => (k1 (mfieldAddr E.P 45 v4_9 0) fun v20_10 => (k1 (xload E.P m 3 v20_10) fun v21_11 => (k1 (mfieldAddr E.P 45 v4_9 1) fun v22_12 => (k1 (xload E.P m 3 v22_12) fun v23_13 => (k1 (mfieldAddr E.P 45 v4_9 2) fun v24_14 => (k1 (xload E.P m 3 v24_14) fun v25_15 => (k1 (mfieldAddr E.P 45 v4_9 3) fun v26_16 => (k1 (xload E.P m 3 v26_16) fun v27_17 => (k2 (xbuildSlice E.P m 33 4 [(0, v21_11), (1, v23_13), (2, v25_15), (3, v27_17)]) fun v28_18 m => (kc (kB m (call m.length 81 [v28_18, (.func (.func 82) #[] #[])] m)) (fun v29_19 m => (kb v29_19 (kr (.bool false) m) (k1 (mslice E.P m 22 x0 none (some x15) none) fun v33_20 => (k1 (xload E.P m 45 v4_9) fun v34_21 => (kc (kB m (call m.length 84 [v33_20, v34_21] m)) (fun v35_22 m => (kb v35_22 (kr (.bool false) m) (k1 (mbin E .add 3 x15 (.int .i64 1)) fun v37_23 => (ih x0 x13 x14 v37_23 m)))) (fun _ _ => none)))))) (fun _ _ => none))))))))))))))) (kx0 m)))) n
noncomputable def r48 (call : CallF) (fuel base : Nat) (x0 : Value) (m : M) : Res2 :=
  (k2 (vcall E.P base m .len [22] [x0]) fun v6_1 m => (k1 (mbin E .lss 3 v6_1 (.int .i64 1)) fun v7_2 => (kb v7_2 (fVal (.bool false) fun v => some (.ret v, m)) (k2 (vcall E.P base m .len [22] [x0]) fun v10_3 m => (k1 (mbin E .gtr 3 v10_3 (.int .i64 16)) fun v11_4 => (kb v11_4 (fVal (.bool false) fun v => some (.ret v, m)) (k2 (vcall E.P base m .len [22] [x0]) fun v14_5 m => (r48_L0 call fuel base (fun y2_24 m => (fVal y2_24 fun v => some (.ret v, m))) (fun m => (fVal (.bool true) fun v => some (.ret v, m))) fuel x0 x0 v14_5 (.int .i64 0) m))))))))
def keep48 : Keep := { region := fun i => ([[0], [0, 12], [2], [0, 13, 14, 15], [0, 13, 14, 15, 16], [0, 3, 4, 13, 14, 15], [0, 13, 14, 15, 36], [2], [0, 13, 14, 15], [2]] : List (List Nat))[i]?, exit := fun i => ([[], [0, 13, 14, 15]] : List (List Nat))[i]?, ret := some [2] }
noncomputable def r48_L0_R (call : CallF) (fuel base n : Nat) (vs : List Value) (m : M) (K : KT) : Res2 := match vs with
  | [x0, x13, x14, x15] => r48_L0 call fuel base (fun y2 m => K .ret { n := 38, l := [(2, y2)] } m) (fun m => K (.exit 0) { n := 38, l := [] } m) n x0 x13 x14 x15 m
  | _ => none
noncomputable def lp48 (call : CallF) (fuel base : Nat) : Lp := lpsel [(0, fun T m K => kslots 38 [0, 13, 14, 15] T fun vs => r48_L0_R call fuel base fuel vs m K)]
noncomputable def c48 : Code := Try.f48.body.getD .skip
theorem r48_L0_lk (call : CallF) (fuel base : Nat) : LoopsOk E call (lp48 call fuel base) fuel base 0 (loopB (blockB (seqR (seqL (seqR (seqR c48)))))) = (And True (And (And True True) (And (And True (And True (And (And True True) True))) True))) := by kernel_rfl
theorem r48_L0_ok (call : CallF) (fuel base : Nat) : LpOk E call (lp48 call fuel base) fuel base 0 (loopB (blockB (seqR (seqL (seqR (seqR c48)))))) := by
  refine loop_ok (kp := keep48) (hb := Eq.mpr (r48_L0_lk call fuel base) (And.intro trivial (And.intro (And.intro trivial trivial) (And.intro (And.intro trivial (And.intro trivial (And.intro (And.intro trivial trivial) trivial))) trivial)))) 38 [0, 13, 14, 15] (fun n vs m K => r48_L0_R call fuel base n vs m K) ?_ ?_ (fun _ _ _ => rfl)
  · intro vs m K
    unfold r48_L0_R
    split <;> rfl
  · intro n vs m K hl
    match vs, hl with
    | [x0, x13, x14, x15], _ => show _ = _; kernel_rfl
theorem r48_eq (call : CallF) (fuel base : Nat) (x0 : Value) (m : M) : kbody E call keep48 (lp48 call fuel base) base Try.f48 [x0] m = r48 call fuel base x0 m := by
  kernel_rfl
noncomputable def rf48 : RF := fun call fuel base args m => match args with
  | [x0] => r48 call fuel base x0 m
  | _ => none
theorem r48_lk (call : CallF) (fuel base : Nat) : LoopsOk E call (lp48 call fuel base) fuel base 0 c48 = (And True (And (And True (And (And True True) True)) (And (And True (LpOk E call (lp48 call fuel base) fuel base 0 (loopB (blockB (seqR (seqL (seqR (seqR c48)))))))) (And True True)))) := by kernel_rfl
theorem r48_fn : E.P.funcs[48]? = some Try.f48 := by kernel_rfl
theorem r48_body : Try.f48.body = some c48 := by kernel_rfl
theorem rf48_ok : RFok E 48 rf48 := by
  refine ⟨Try.f48, r48_fn, fun call fuel base args m r _ h => ?_⟩
  unfold rf48 at h
  split at h
  · rw [← r48_eq] at h
    exact kbody_sound (c := c48) r48_body (Eq.mpr (r48_lk call fuel base) (And.intro trivial (And.intro (And.intro trivial (And.intro (And.intro trivial trivial) trivial)) (And.intro (And.intro trivial (r48_L0_ok call fuel base)) (And.intro trivial trivial))))) h
  · simp at h
end Go.AM
namespace Go.AM
open Go Go.Proofs
noncomputable def r49_L2 (call : CallF) (fuel base : Nat) (kr : Value → M → Res2) (kx2 : Value → Value → Value → Value → Value → M → Res2) (n : Nat) : Value → Value → Value → Value → Value → Value → Value → Value → M → Res2 :=
  Nat.rec (motive := fun _ => Value → Value → Value → Value → Value → Value → Value → Value → M → Res2) (fun _ _ _ _ _ _ _ _ _ => none)
    (fun _ ih x0 x1 x21 x22 x23 x34 x35 x36 m =>
      (k1 (mbin E .lss 3 x36 x35) fun v37_19 => (kb v37_19 (k1 (mindexAddr E.P 33 x34 x36) fun v38_20 => (k1 (xload E.P m 3 v38_20) fun v39_21 => (k1 (mbin E .lss 3 v39_21 (.int .i64 0)) fun v41_22 => (kb v41_22 (kr (.bool false) m) (k1 (mbin E .geq 3 v39_21 x1) fun v45_23 => (kb v45_23 (kr (.bool false) m) (k1 (mbin E .add 3 x36 (.int .i64 1)) fun v47_24 => (ih x0 x1 x21 x22 x23 x34 x35 v47_24 m)))))))) (kx2 x0 x1 x21 x22 x23 m)))) n
noncomputable def r49_L0 (call : CallF) (fuel base : Nat) (kr : Value → M → Res2) (kx0 : M → Res2) (n : Nat) : Value → Value → Value → Value → Value → M → Res2 :=
  Nat.rec (motive := fun _ => Value → Value → Value → Value → Value → M → Res2) (fun _ _ _ _ _ _ => none)
    (fun _ ih x0 x1 x21 x22 x23 m =>
      (k1 (mbin E .lss 3 x23 x22) fun v24_10 => (kb v24_10 (k1 (mindexAddr E.P 23 x21 x23) fun v25_11 => (k1 (xload E.P m 33 v25_11) fun v26_12 => (k2 (vcall E.P base m .len [33] [v26_12]) fun v28_13 m => (k1 (mindexAddr E.P 23 x0 (.int .i64 0)) fun v30_14 => (k1 (xload E.P m 33 v30_14) fun v31_15 => (k2 (vcall E.P base m .len [33] [v31_15]) fun v32_16 m => (k1 (mbin E .neq 3 v28_13 v32_16) fun v33_17 => (kb v33_17 (kr (.bool false) m) (k2 (vcall E.P base m .len [33] [v26_12]) fun v35_18 m => (r49_L2 call fuel base (fun y4_25 m => (kr y4_25 m)) (fun y0_26 y1_27 y21_28 y22_29 y23_30 m => (k1 (mbin E .add 3 y23_30 (.int .i64 1)) fun v48_31 => (ih y0_26 y1_27 y21_28 y22_29 v48_31 m))) fuel x0 x1 x21 x22 x23 v26_12 v35_18 (.int .i64 0) m)))))))))) (kx0 m)))) n
noncomputable def r49 (call : CallF) (fuel base : Nat) (x0 : Value) (x1 : Value) (m : M) : Res2 :=
  (k2 (vcall E.P base m .len [23] [x0]) fun v10_1 m => (kc (call base 80 [v10_1] m) (fun v11_2 m => (k1 (mun .not v11_2) fun v12_3 => (kb v12_3 (fVal (.bool false) fun v => some (.ret v, m)) (k1 (mindexAddr E.P 23 x0 (.int .i64 0)) fun v15_4 => (k1 (xload E.P m 33 v15_4) fun v16_5 => (k2 (vcall E.P base m .len [33] [v16_5]) fun v17_6 m => (kc (call base 80 [v17_6] m) (fun v18_7 m => (k1 (mun .not v18_7) fun v19_8 => (kb v19_8 (fVal (.bool false) fun v => some (.ret v, m)) (k2 (vcall E.P base m .len [23] [x0]) fun v22_9 m => (r49_L0 call fuel base (fun y4_32 m => (fVal y4_32 fun v => some (.ret v, m))) (fun m => (fVal (.bool true) fun v => some (.ret v, m))) fuel x0 x1 x0 v22_9 (.int .i64 0) m))))) (fun v m => some (.pan v, m))))))))) (fun v m => some (.pan v, m))))
def keep49 : Keep := { region := fun i => ([[0, 1], [0, 1, 20], [4], [0, 1, 21, 22, 23], [0, 1, 21, 22, 23, 24], [0, 1, 6, 21, 22, 23], [0, 1, 6, 21, 22, 23, 33], [4], [0, 1, 21, 22, 23, 34, 35, 36], [0, 1, 21, 22, 23, 34, 35, 36, 37], [0, 1, 8, 21, 22, 23, 34, 35, 36], [0, 1, 21, 22, 23, 34, 35, 36, 46], [4], [0, 1, 21, 22, 23, 34, 35, 36], [0, 1, 21, 22, 23], [4]] : List (List Nat))[i]?, exit := fun i => ([[], [0, 1, 21, 22, 23], [0, 1, 21, 22, 23], [0, 1, 21, 22, 23, 34, 35, 36]] : List (List Nat))[i]?, ret := some [4] }
noncomputable def r49_L2_R (call : CallF) (fuel base n : Nat) (vs : List Value) (m : M) (K : KT) : Res2 := match vs with
  | [x0, x1, x21, x22, x23, x34, x35, x36] => r49_L2 call fuel base (fun y4 m => K .ret { n := 49, l := [(4, y4)] } m) (fun y0 y1 y21 y22 y23 m => K (.exit 2) { n := 49, l := [(0, y0), (1, y1), (21, y21), (22, y22), (23, y23)] } m) n x0 x1 x21 x22 x23 x34 x35 x36 m
  | _ => none
noncomputable def r49_L0_R (call : CallF) (fuel base n : Nat) (vs : List Value) (m : M) (K : KT) : Res2 := match vs with
  | [x0, x1, x21, x22, x23] => r49_L0 call fuel base (fun y4 m => K .ret { n := 49, l := [(4, y4)] } m) (fun m => K (.exit 0) { n := 49, l := [] } m) n x0 x1 x21 x22 x23 m
  | _ => none
noncomputable def lp49 (call : CallF) (fuel base : Nat) : Lp := lpsel [(2, fun T m K => kslots 49 [0, 1, 21, 22, 23, 34, 35, 36] T fun vs => r49_L2_R call fuel base fuel vs m K), (0, fun T m K => kslots 49 [0, 1, 21, 22, 23] T fun vs => r49_L0_R call fuel base fuel vs m K)]
noncomputable def c49 : Code := Try.f49.body.getD .skip
theorem r49_L2_lk (call : CallF) (fuel base : Nat) : LoopsOk E call (lp49 call fuel base) fuel base 2 (loopB (blockB (seqR (seqR (seqR (blockB (seqL (seqR (seqR (loopB (blockB (seqR (seqL (seqR (seqR c49))))))))))))))) = (And True (And (And True True) (And (And True (And True (And (And True True) True))) True))) := by kernel_rfl
theorem r49_L2_ok (call : CallF) (fuel base : Nat) : LpOk E call (lp49 call fuel base) fuel base 2 (loopB (blockB (seqR (seqR (seqR (blockB (seqL (seqR (seqR (loopB (blockB (seqR (seqL (seqR (seqR c49))))))))))))))) := by
  refine loop_ok (kp := keep49) (hb := Eq.mpr (r49_L2_lk call fuel base) (And.intro trivial (And.intro (And.intro trivial trivial) (And.intro (And.intro trivial (And.intro trivial (And.intro (And.intro trivial trivial) trivial))) trivial)))) 49 [0, 1, 21, 22, 23, 34, 35, 36] (fun n vs m K => r49_L2_R call fuel base n vs m K) ?_ ?_ (fun _ _ _ => rfl)
  · intro vs m K
    unfold r49_L2_R
    split <;> rfl
  · intro n vs m K hl
    match vs, hl with
    | [x0, x1, x21, x22, x23, x34, x35, x36], _ => show _ = _; kernel_rfl
theorem r49_L0_lk (call : CallF) (fuel base : Nat) : LoopsOk E call (lp49 call fuel base) fuel base 0 (loopB (blockB (seqR (seqL (seqR (seqR c49)))))) = (And True (And (And True True) (And (And True (And (And True (And (And True True) True)) (And True (LpOk E call (lp49 call fuel base) fuel base 2 (loopB (blockB (seqR (seqR (seqR (blockB (seqL (seqR (seqR (loopB (blockB (seqR (seqL (seqR (seqR c49))))))))))))))))))) True))) := by kernel_rfl
theorem r49_L0_ok (call : CallF) (fuel base : Nat) : LpOk E call (lp49 call fuel base) fuel base 0 (loopB (blockB (seqR (seqL (seqR (seqR c49)))))) := by
  refine loop_ok (kp := keep49) (hb := Eq.mpr (r49_L0_lk call fuel base) (And.intro trivial (And.intro (And.intro trivial trivial) (And.intro (And.intro trivial (And.intro (And.intro trivial (And.intro (And.intro trivial trivial) trivial)) (And.intro trivial (r49_L2_ok call fuel base)))) trivial)))) 49 [0, 1, 21, 22, 23] (fun n vs m K => r49_L0_R call fuel base n vs m K) ?_ ?_ (fun _ _ _ => rfl)
  · intro vs m K
    unfold r49_L0_R
    split <;> rfl
  · intro n vs m K hl
    match vs, hl with
    | [x0, x1, x21, x22, x23], _ => show _ = _; kernel_rfl
theorem r49_eq (call : CallF) (fuel base : Nat) (x0 : Value) (x1 : Value) (m : M) : kbody E call keep49 (lp49 call fuel base) base Try.f49 [x0, x1] m = r49 call fuel base x0 x1 m := by
  kernel_rfl
noncomputable def rf49 : RF := fun call fuel base args m => match args with
  | [x0, x1] => r49 call fuel base x0 x1 m
  | _ => none
theorem r49_lk (call : CallF) (fuel base : Nat) : LoopsOk E call (lp49 call fuel base) fuel base 0 c49 = (And True (And (And True (And (And True True) True)) (And (And True (LpOk E call (lp49 call fuel base) fuel base 0 (loopB (blockB (seqR (seqL (seqR (seqR c49)))))))) (And True True)))) := by kernel_rfl
theorem r49_fn : E.P.funcs[49]? = some Try.f49 := by kernel_rfl
theorem r49_body : Try.f49.body = some c49 := by kernel_rfl
theorem rf49_ok : RFok E 49 rf49 := by
  refine ⟨Try.f49, r49_fn, fun call fuel base args m r _ h => ?_⟩
  unfold rf49 at h
  split at h
  · rw [← r49_eq] at h
    exact kbody_sound (c := c49) r49_body (Eq.mpr (r49_lk call fuel base) (And.intro trivial (And.intro (And.intro trivial (And.intro (And.intro trivial trivial) trivial)) (And.intro (And.intro trivial (r49_L0_ok call fuel base)) (And.intro trivial trivial))))) h
  · simp at h
end Go.AM
namespace Go.AM
open Go Go.Proofs
noncomputable def r50_L2 (call : CallF) (fuel base : Nat) (kr : Value → M → Res2) (kx2 : Value → Value → Value → Value → Value → M → Res2) (n : Nat) : Value → Value → Value → Value → Value → Value → Value → Value → Value → Value → M → Res2 :=
  Nat.rec (motive := fun _ => Value → Value → Value → Value → Value → Value → Value → Value → Value → Value → M → Res2) (fun _ _ _ _ _ _ _ _ _ _ _ => none)
    (fun _ ih x0 x1 x5 x6 x9 x10 x11 x16 x17 x18 m =>
      (k1 (mbin E .lss 3 x18 x17) fun v19_6 => (kb v19_6 (k1 (mindexAddr E.P 33 x16 x18) fun v21_7 => (k1 (xload E.P m 3 v21_7) fun v22_8 => (k1 (mbin E .gtr 3 x18 (.int .i64 0)) fun v24_9 => (kb v24_9 (k1 (mbin E .sub 3 x18 (.int .i64 1)) fun v29_10 => (k1 (mindexAddr E.P 33 x6 v29_10) fun v30_11 => (k1 (xload E.P m 3 v30_11) fun v31_12 => (k1 (mindexAddr E.P 22 x0 v31_12) fun v32_13 => (k1 (mfieldAddr E.P 45 v32_13 1) fun v33_14 => (k1 (xload E.P m 3 v33_14) fun v34_15 => (k1 (mindexAddr E.P 22 x0 v22_8) fun v37_16 => (k1 (mfieldAddr E.P 45 v37_16 3) fun v38_17 => (k1 (xload E.P m 3 v38_17) fun v39_18 => (k1 (mbin E .neq 3 v34_15 v39_18) fun v40_19 => (kb v40_19 (kr (.bool false) m) (k1 (mbin E .gtr 3 x5 (.int .i64 0)) fun v43_20 => (kb v43_20 (k1 (mbin E .sub 3 x5 (.int .i64 1)) fun v48_21 => (k1 (mindexAddr E.P 23 x1 v48_21) fun v49_22 => (k1 (xload E.P m 33 v49_22) fun v50_23 => (k1 (mindexAddr E.P 33 v50_23 x18) fun v52_24 => (k1 (xload E.P m 3 v52_24) fun v53_25 => (k1 (mindexAddr E.P 22 x0 v53_25) fun v54_26 => (k1 (mfieldAddr E.P 45 v54_26 2) fun v55_27 => (k1 (xload E.P m 3 v55_27) fun v56_28 => (k1 (mindexAddr E.P 22 x0 v22_8) fun v59_29 => (k1 (mfieldAddr E.P 45 v59_29 0) fun v60_30 => (k1 (xload E.P m 3 v60_30) fun v61_31 => (k1 (mbin E .neq 3 v56_28 v61_31) fun v62_32 => (kb v62_32 (kr (.bool false) m) (k1 (mbin E .add 3 x18 (.int .i64 1)) fun v64_33 => (ih x0 x1 x5 x6 x9 x10 x11 x16 x17 v64_33 m))))))))))))))) (k1 (mbin E .add 3 x18 (.int .i64 1)) fun v64_34 => (ih x0 x1 x5 x6 x9 x10 x11 x16 x17 v64_34 m))))))))))))))) (k1 (mbin E .gtr 3 x5 (.int .i64 0)) fun v43_35 => (kb v43_35 (k1 (mbin E .sub 3 x5 (.int .i64 1)) fun v48_36 => (k1 (mindexAddr E.P 23 x1 v48_36) fun v49_37 => (k1 (xload E.P m 33 v49_37) fun v50_38 => (k1 (mindexAddr E.P 33 v50_38 x18) fun v52_39 => (k1 (xload E.P m 3 v52_39) fun v53_40 => (k1 (mindexAddr E.P 22 x0 v53_40) fun v54_41 => (k1 (mfieldAddr E.P 45 v54_41 2) fun v55_42 => (k1 (xload E.P m 3 v55_42) fun v56_43 => (k1 (mindexAddr E.P 22 x0 v22_8) fun v59_44 => (k1 (mfieldAddr E.P 45 v59_44 0) fun v60_45 => (k1 (xload E.P m 3 v60_45) fun v61_46 => (k1 (mbin E .neq 3 v56_43 v61_46) fun v62_47 => (kb v62_47 (kr (.bool false) m) (k1 (mbin E .add 3 x18 (.int .i64 1)) fun v64_48 => (ih x0 x1 x5 x6 x9 x10 x11 x16 x17 v64_48 m))))))))))))))) (k1 (mbin E .add 3 x18 (.int .i64 1)) fun v64_49 => (ih x0 x1 x5 x6 x9 x10 x11 x16 x17 v64_49 m)))))))) (kx2 x0 x1 x9 x10 x11 m)))) n
noncomputable def r50_L0 (call : CallF) (fuel base : Nat) (kr : Value → M → Res2) (kx0 : M → Res2) (n : Nat) : Value → Value → Value → Value → Value → M → Res2 :=
  Nat.rec (motive := fun _ => Value → Value → Value → Value → Value → M → Res2) (fun _ _ _ _ _ _ => none)
    (fun _ ih x0 x1 x9 x10 x11 m =>
      (k1 (mbin E .lss 3 x11 x10) fun v12_2 => (kb v12_2 (k1 (mindexAddr E.P 23 x9 x11) fun v14_3 => (k1 (xload E.P m 33 v14_3) fun v15_4 => (k2 (vcall E.P base m .len [33] [v15_4]) fun v17_5 m => (r50_L2 call fuel base (fun y4_50 m => (kr y4_50 m)) (fun y0_51 y1_52 y9_53 y10_54 y11_55 m => (k1 (mbin E .add 3 y11_55 (.int .i64 1)) fun v65_56 => (ih y0_51 y1_52 y9_53 y10_54 v65_56 m))) fuel x0 x1 x11 v15_4 x9 x10 x11 v15_4 v17_5 (.int .i64 0) m)))) (kx0 m)))) n
noncomputable def r50 (call : CallF) (fuel base : Nat) (x0 : Value) (x1 : Value) (m : M) : Res2 :=
  (k2 (vcall E.P base m .len [23] [x1]) fun v10_1 m => (r50_L0 call fuel base (fun y4_57 m => (fVal y4_57 fun v => some (.ret v, m))) (fun m => (fVal (.bool true) fun v => some (.ret v, m))) fuel x0 x1 x1 v10_1 (.int .i64 0) m))
def keep50 : Keep := { region := fun i => ([[0, 1], [0, 1, 9, 10, 11], [0, 1, 9, 10, 11, 12], [0, 1, 5, 6, 9, 10, 11], [0, 1, 5, 6, 9, 10, 11, 16, 17, 18], [0, 1, 5, 6, 9, 10, 11, 16, 17, 18, 19], [0, 1, 5, 6, 7, 8, 9, 10, 11, 16, 17, 18], [0, 1, 5, 6, 7, 8, 9, 10, 11, 16, 17, 18, 41], [4], [0, 1, 5, 6, 9, 10, 11, 16, 17, 18, 63], [4], [0, 1, 5, 6, 9, 10, 11, 16, 17, 18], [0, 1, 9, 10, 11], [4]] : List (List Nat))[i]?, exit := fun i => ([[], [0, 1, 9, 10, 11], [0, 1, 9, 10, 11], [0, 1, 5, 6, 9, 10, 11, 16, 17, 18]] : List (List Nat))[i]?, ret := some [4] }
noncomputable def r50_L2_R (call : CallF) (fuel base n : Nat) (vs : List Value) (m : M) (K : KT) : Res2 := match vs with
  | [x0, x1, x5, x6, x9, x10, x11, x16, x17, x18] => r50_L2 call fuel base (fun y4 m => K .ret { n := 66, l := [(4, y4)] } m) (fun y0 y1 y9 y10 y11 m => K (.exit 2) { n := 66, l := [(0, y0), (1, y1), (9, y9), (10, y10), (11, y11)] } m) n x0 x1 x5 x6 x9 x10 x11 x16 x17 x18 m
  | _ => none
noncomputable def r50_L0_R (call : CallF) (fuel base n : Nat) (vs : List Value) (m : M) (K : KT) : Res2 := match vs with
  | [x0, x1, x9, x10, x11] => r50_L0 call fuel base (fun y4 m => K .ret { n := 66, l := [(4, y4)] } m) (fun m => K (.exit 0) { n := 66, l := [] } m) n x0 x1 x9 x10 x11 m
  | _ => none
noncomputable def lp50 (call : CallF) (fuel base : Nat) : Lp := lpsel [(2, fun T m K => kslots 66 [0, 1, 5, 6, 9, 10, 11, 16, 17, 18] T fun vs => r50_L2_R call fuel base fuel vs m K), (0, fun T m K => kslots 66 [0, 1, 9, 10, 11] T fun vs => r50_L0_R call fuel base fuel vs m K)]
noncomputable def c50 : Code := Try.f50.body.getD .skip
theorem r50_L2_lk (call : CallF) (fuel base : Nat) : LoopsOk E call (lp50 call fuel base) fuel base 2 (loopB (blockB (seqR (seqR (blockB (seqL (seqR (seqR (loopB (blockB (seqR (seqL (seqR c50))))))))))))) = (And True (And (And True True) (And (And True (And (And True (And (And True True) True)) (And True (And (And True True) True)))) True))) := by kernel_rfl
theorem r50_L2_ok (call : CallF) (fuel base : Nat) : LpOk E call (lp50 call fuel base) fuel base 2 (loopB (blockB (seqR (seqR (blockB (seqL (seqR (seqR (loopB (blockB (seqR (seqL (seqR c50))))))))))))) := by
  refine loop_ok (kp := keep50) (hb := Eq.mpr (r50_L2_lk call fuel base) (And.intro trivial (And.intro (And.intro trivial trivial) (And.intro (And.intro trivial (And.intro (And.intro trivial (And.intro (And.intro trivial trivial) trivial)) (And.intro trivial (And.intro (And.intro trivial trivial) trivial)))) trivial)))) 66 [0, 1, 5, 6, 9, 10, 11, 16, 17, 18] (fun n vs m K => r50_L2_R call fuel base n vs m K) ?_ ?_ (fun _ _ _ => rfl)
  · intro vs m K
    unfold r50_L2_R
    split <;> rfl
  · intro n vs m K hl
    match vs, hl with
    | [x0, x1, x5, x6, x9, x10, x11, x16, x17, x18], _ => show _ = _; kernel_rfl
theorem r50_L0_lk (call : CallF) (fuel base : Nat) : LoopsOk E call (lp50 call fuel base) fuel base 0 (loopB (blockB (seqR (seqL (seqR c50))))) = (And True (And (And True True) (And (And True (And True (LpOk E call (lp50 call fuel base) fuel base 2 (loopB (blockB (seqR (seqR (blockB (seqL (seqR (seqR (loopB (blockB (seqR (seqL (seqR c50)))))))))))))))) True))) := by kernel_rfl
theorem r50_L0_ok (call : CallF) (fuel base : Nat) : LpOk E call (lp50 call fuel base) fuel base 0 (loopB (blockB (seqR (seqL (seqR c50))))) := by
  refine loop_ok (kp := keep50) (hb := Eq.mpr (r50_L0_lk call fuel base) (And.intro trivial (And.intro (And.intro trivial trivial) (And.intro (And.intro trivial (And.intro trivial (r50_L2_ok call fuel base))) trivial)))) 66 [0, 1, 9, 10, 11] (fun n vs m K => r50_L0_R call fuel base n vs m K) ?_ ?_ (fun _ _ _ => rfl)
  · intro vs m K
    unfold r50_L0_R
    split <;> rfl
  · intro n vs m K hl
    match vs, hl with
    | [x0, x1, x9, x10, x11], _ => show _ = _; kernel_rfl
theorem r50_eq (call : CallF) (fuel base : Nat) (x0 : Value) (x1 : Value) (m : M) : kbody E call keep50 (lp50 call fuel base) base Try.f50 [x0, x1] m = r50 call fuel base x0 x1 m := by
  kernel_rfl
noncomputable def rf50 : RF := fun call fuel base args m => match args with
  | [x0, x1] => r50 call fuel base x0 x1 m
  | _ => none
theorem r50_lk (call : CallF) (fuel base : Nat) : LoopsOk E call (lp50 call fuel base) fuel base 0 c50 = (And True (And (And True (LpOk E call (lp50 call fuel base) fuel base 0 (loopB (blockB (seqR (seqL (seqR c50))))))) (And True True))) := by kernel_rfl
theorem r50_fn : E.P.funcs[50]? = some Try.f50 := by kernel_rfl
theorem r50_body : Try.f50.body = some c50 := by kernel_rfl
theorem rf50_ok : RFok E 50 rf50 := by
  refine ⟨Try.f50, r50_fn, fun call fuel base args m r _ h => ?_⟩
  unfold rf50 at h
  split at h
  · rw [← r50_eq] at h
    exact kbody_sound (c := c50) r50_body (Eq.mpr (r50_lk call fuel base) (And.intro trivial (And.intro (And.intro trivial (r50_L0_ok call fuel base)) (And.intro trivial trivial)))) h
  · simp at h
end Go.AM
namespace Go.AM
open Go Go.Proofs
noncomputable def r51_L0 (call : CallF) (fuel base : Nat) (kr : Value → M → Res2) (kx0 : Value → Value → M → Res2) (n : Nat) : Value → Value → Value → Value → Value → M → Res2 :=
  Nat.rec (motive := fun _ => Value → Value → Value → Value → Value → M → Res2) (fun _ _ _ _ _ _ => none)
    (fun _ ih x0 x1 x10 x11 x12 m =>
      (k1 (mbin E .lss 3 x12 x11) fun v13_2 => (kb v13_2 (k1 (mindexAddr E.P 23 x10 x12) fun v14_3 => (k1 (xload E.P m 33 v14_3) fun v15_4 => (k2 (vcall E.P base m .len [33] [v15_4]) fun v19_5 m => (k1 (mbin E .sub 3 v19_5 (.int .i64 1)) fun v20_6 => (k1 (mindexAddr E.P 33 v15_4 v20_6) fun v21_7 => (k1 (xload E.P m 3 v21_7) fun v22_8 => (k1 (mindexAddr E.P 22 x0 v22_8) fun v23_9 => (k1 (mfieldAddr E.P 45 v23_9 1) fun v24_10 => (k1 (xload E.P m 3 v24_10) fun v25_11 => (k1 (mindexAddr E.P 33 v15_4 (.int .i64 0)) fun v28_12 => (k1 (xload E.P m 3 v28_12) fun v29_13 => (k1 (mindexAddr E.P 22 x0 v29_13) fun v30_14 => (k1 (mfieldAddr E.P 45 v30_14 3) fun v31_15 => (k1 (xload E.P m 3 v31_15) fun v32_16 => (k1 (mbin E .neq 3 v25_11 v32_16) fun v33_17 => (kb v33_17 (kr (.bool false) m) (k1 (mbin E .add 3 x12 (.int .i64 1)) fun v34_18 => (ih x0 x1 x10 x11 v34_18 m)))))))))))))))))) (kx0 x0 x1 m)))) n
noncomputable def r51_L2 (call : CallF) (fuel base : Nat) (kr : Value → M → Res2) (kx2 : M → Res2) (n : Nat) : Value → Value → Value → Value → Value → M → Res2 :=
  Nat.rec (motive := fun _ => Value → Value → Value → Value → Value → M → Res2) (fun _ _ _ _ _ _ => none)
    (fun _ ih x0 x7 x43 x44 x45 m =>
      (k1 (mbin E .lss 3 x45 x44) fun v46_29 => (kb v46_29 (k1 (mindexAddr E.P 33 x43 x45) fun v48_30 => (k1 (xload E.P m 3 v48_30) fun v49_31 => (k1 (mindexAddr E.P 33 x7 x45) fun v53_32 => (k1 (xload E.P m 3 v53_32) fun v54_33 => (k1 (mindexAddr E.P 22 x0 v54_33) fun v55_34 => (k1 (mfieldAddr E.P 45 v55_34 2) fun v56_35 => (k1 (xload E.P m 3 v56_35) fun v57_36 => (k1 (mindexAddr E.P 22 x0 v49_31) fun v60_37 => (k1 (mfieldAddr E.P 45 v60_37 0) fun v61_38 => (k1 (xload E.P m 3 v61_38) fun v62_39 => (k1 (mbin E .neq 3 v57_36 v62_39) fun v63_40 => (kb v63_40 (kr (.bool false) m) (k1 (mbin E .add 3 x45 (.int .i64 1)) fun v64_41 => (ih x0 x7 x43 x44 v64_41 m)))))))))))))) (kx2 m)))) n
noncomputable def r51 (call : CallF) (fuel base : Nat) (x0 : Value) (x1 : Value) (m : M) : Res2 :=
  (k2 (vcall E.P base m .len [23] [x1]) fun v11_1 m => (r51_L0 call fuel base (fun y4_19 m => (fVal y4_19 fun v => some (.ret v, m))) (fun y0_20 y1_21 m => (k2 (vcall E.P base m .len [23] [y1_21]) fun v37_22 m => (k1 (mbin E .sub 3 v37_22 (.int .i64 1)) fun v38_23 => (k1 (mindexAddr E.P 23 y1_21 v38_23) fun v39_24 => (k1 (xload E.P m 33 v39_24) fun v40_25 => (k1 (mindexAddr E.P 23 y1_21 (.int .i64 0)) fun v42_26 => (k1 (xload E.P m 33 v42_26) fun v43_27 => (k2 (vcall E.P base m .len [33] [v43_27]) fun v44_28 m => (r51_L2 call fuel base (fun y4_42 m => (fVal y4_42 fun v => some (.ret v, m))) (fun m => (fVal (.bool true) fun v => some (.ret v, m))) fuel y0_20 v40_25 v43_27 v44_28 (.int .i64 0) m))))))))) fuel x0 x1 x1 v11_1 (.int .i64 0) m))
def keep51 : Keep := { region := fun i => ([[0, 1], [0, 1, 10, 11, 12], [0, 1, 10, 11, 12, 13], [0, 1, 6, 10, 11, 12], [0, 1, 10, 11, 12, 33], [4], [0, 1, 10, 11, 12], [0, 1, 7], [0, 7, 43, 44, 45], [0, 7, 43, 44, 45, 46], [0, 7, 8, 9, 43, 44, 45], [0, 7, 43, 44, 45, 63], [4], [0, 7, 43, 44, 45], [4]] : List (List Nat))[i]?, exit := fun i => ([[0, 1], [0, 1, 10, 11, 12], [], [0, 7, 43, 44, 45]] : List (List Nat))[i]?, ret := some [4] }
noncomputable def r51_L0_R (call : CallF) (fuel base n : Nat) (vs : List Value) (m : M) (K : KT) : Res2 := match vs with
  | [x0, x1, x10, x11, x12] => r51_L0 call fuel base (fun y4 m => K .ret { n := 65, l := [(4, y4)] } m) (fun y0 y1 m => K (.exit 0) { n := 65, l := [(0, y0), (1, y1)] } m) n x0 x1 x10 x11 x12 m
  | _ => none
noncomputable def r51_L2_R (call : CallF) (fuel base n : Nat) (vs : List Value) (m : M) (K : KT) : Res2 := match vs with
  | [x0, x7, x43, x44, x45] => r51_L2 call fuel base (fun y4 m => K .ret { n := 65, l := [(4, y4)] } m) (fun m => K (.exit 2) { n := 65, l := [] } m) n x0 x7 x43 x44 x45 m
  | _ => none
noncomputable def lp51 (call : CallF) (fuel base : Nat) : Lp := lpsel [(0, fun T m K => kslots 65 [0, 1, 10, 11, 12] T fun vs => r51_L0_R call fuel base fuel vs m K), (2, fun T m K => kslots 65 [0, 7, 43, 44, 45] T fun vs => r51_L2_R call fuel base fuel vs m K)]
noncomputable def c51 : Code := Try.f51.body.getD .skip
theorem r51_L0_lk (call : CallF) (fuel base : Nat) : LoopsOk E call (lp51 call fuel base) fuel base 0 (loopB (blockB (seqR (seqL (seqR c51))))) = (And True (And (And True True) (And (And True (And True (And (And True True) True))) True))) := by kernel_rfl
theorem r51_L0_ok (call : CallF) (fuel base : Nat) : LpOk E call (lp51 call fuel base) fuel base 0 (loopB (blockB (seqR (seqL (seqR c51))))) := by
  refine loop_ok (kp := keep51) (hb := Eq.mpr (r51_L0_lk call fuel base) (And.intro trivial (And.intro (And.intro trivial trivial) (And.intro (And.intro trivial (And.intro trivial (And.intro (And.intro trivial trivial) trivial))) trivial)))) 65 [0, 1, 10, 11, 12] (fun n vs m K => r51_L0_R call fuel base n vs m K) ?_ ?_ (fun _ _ _ => rfl)
  · intro vs m K
    unfold r51_L0_R
    split <;> rfl
  · intro n vs m K hl
    match vs, hl with
    | [x0, x1, x10, x11, x12], _ => show _ = _; kernel_rfl
theorem r51_L2_lk (call : CallF) (fuel base : Nat) : LoopsOk E call (lp51 call fuel base) fuel base 2 (loopB (blockB (seqR (seqL (seqR (seqR (seqR c51))))))) = (And True (And (And True True) (And (And True (And True (And (And True True) True))) True))) := by kernel_rfl
theorem r51_L2_ok (call : CallF) (fuel base : Nat) : LpOk E call (lp51 call fuel base) fuel base 2 (loopB (blockB (seqR (seqL (seqR (seqR (seqR c51))))))) := by
  refine loop_ok (kp := keep51) (hb := Eq.mpr (r51_L2_lk call fuel base) (And.intro trivial (And.intro (And.intro trivial trivial) (And.intro (And.intro trivial (And.intro trivial (And.intro (And.intro trivial trivial) trivial))) trivial)))) 65 [0, 7, 43, 44, 45] (fun n vs m K => r51_L2_R call fuel base n vs m K) ?_ ?_ (fun _ _ _ => rfl)
  · intro vs m K
    unfold r51_L2_R
    split <;> rfl
  · intro n vs m K hl
    match vs, hl with
    | [x0, x7, x43, x44, x45], _ => show _ = _; kernel_rfl
theorem r51_eq (call : CallF) (fuel base : Nat) (x0 : Value) (x1 : Value) (m : M) : kbody E call keep51 (lp51 call fuel base) base Try.f51 [x0, x1] m = r51 call fuel base x0 x1 m := by
  kernel_rfl
noncomputable def rf51 : RF := fun call fuel base args m => match args with
  | [x0, x1] => r51 call fuel base x0 x1 m
  | _ => none
theorem r51_lk (call : CallF) (fuel base : Nat) : LoopsOk E call (lp51 call fuel base) fuel base 0 c51 = (And True (And (And True (LpOk E call (lp51 call fuel base) fuel base 0 (loopB (blockB (seqR (seqL (seqR c51))))))) (And True (And (And True (LpOk E call (lp51 call fuel base) fuel base 2 (loopB (blockB (seqR (seqL (seqR (seqR (seqR c51))))))))) (And True True))))) := by kernel_rfl
theorem r51_fn : E.P.funcs[51]? = some Try.f51 := by kernel_rfl
theorem r51_body : Try.f51.body = some c51 := by kernel_rfl
theorem rf51_ok : RFok E 51 rf51 := by
  refine ⟨Try.f51, r51_fn, fun call fuel base args m r _ h => ?_⟩
  unfold rf51 at h
  split at h
  · rw [← r51_eq] at h
    exact kbody_sound (c := c51) r51_body (Eq.mpr (r51_lk call fuel base) (And.intro trivial (And.intro (And.intro trivial (r51_L0_ok call fuel base)) (And.intro trivial (And.intro (And.intro trivial (r51_L2_ok call fuel base)) (And.intro trivial trivial)))))) h
  · simp at h
end Go.AM
namespace Go.AM
open Go Go.Proofs
noncomputable def r52 (call : CallF) (fuel base : Nat) (x0 : Value) (m : M) : Res2 :=
  (k1 (mbin E .geq 3 x0 (.int .i64 1)) fun v4_1 => (kb v4_1 (k1 (mbin E .leq 3 x0 (.int .i64 4)) fun v7_2 => (fVal v7_2 fun v => some (.ret v, m))) (fVal (.bool false) fun v => some (.ret v, m))))
def keep52 : Keep := { region := fun i => ([[0], [2]] : List (List Nat))[i]?, exit := fun i => ([] : List (List Nat))[i]?, ret := some [2] }
noncomputable def lp52 (call : CallF) (fuel base : Nat) : Lp := lpsel []
noncomputable def c52 : Code := Try.f52.body.getD .skip
theorem r52_eq (call : CallF) (fuel base : Nat) (x0 : Value) (m : M) : kbody E call keep52 (lp52 call fuel base) base Try.f52 [x0] m = r52 call fuel base x0 m := by
  kernel_rfl
noncomputable def rf52 : RF := fun call fuel base args m => match args with
  | [x0] => r52 call fuel base x0 m
  | _ => none
theorem r52_lk (call : CallF) (fuel base : Nat) : LoopsOk E call (lp52 call fuel base) fuel base 0 c52 = (And True (And True True)) := by kernel_rfl
theorem r52_fn : E.P.funcs[52]? = some Try.f52 := by kernel_rfl
theorem r52_body : Try.f52.body = some c52 := by kernel_rfl
theorem rf52_ok : RFok E 52 rf52 := by
  refine ⟨Try.f52, r52_fn, fun call fuel base args m r _ h => ?_⟩
  unfold rf52 at h
  split at h
  · rw [← r52_eq] at h
    exact kbody_sound (c := c52) r52_body (Eq.mpr (r52_lk call fuel base) (And.intro trivial (And.intro trivial trivial))) h
  · simp at h
end Go.AM
namespace Go.AM
open Go Go.Proofs
noncomputable def r53_L0 (call : CallF) (fuel base : Nat) (kp : Value → M → Res2) (kr : Value → M → Res2) (kx0 : M → Res2) (n : Nat) : Value → Value → Value → Value → M → Res2 :=
  Nat.rec (motive := fun _ => Value → Value → Value → Value → M → Res2) (fun _ _ _ _ _ => none)
    (fun _ ih x1 x23 x24 x25 m =>
      (k1 (mbin E .lss 3 x25 x24) fun v26_18 => (kb v26_18 (k1 (mindexAddr E.P 30 x23 x25) fun v27_19 => (k1 (xload E.P m 69 v27_19) fun v28_20 => (k2 (xalloc E.P m 69) fun v4_21 m => (ks (xstore E.P base m 69 v4_21 v28_20) fun m => (k1 (mfieldAddr E.P 69 v4_21 0) fun v29_22 => (k1 (xload E.P m 3 v29_22) fun v30_23 => (kc (call base 85 [v30_23] m) (fun v31_24 m => (kb v31_24 (kr (.bool false) m) (k1 (mfieldAddr E.P 69 v4_21 2) fun v33_25 => (k1 (xload E.P m 3 v33_25) fun v34_26 => (k1 (mbin E .lss 3 v34_26 (.int .i64 (-1))) fun v35_27 => (kb v35_27 (kr (.bool false) m) (k1 (mfieldAddr E.P 69 v4_21 2) fun v38_28 => (k1 (xload E.P m 3 v38_28) fun v39_29 => (k1 (mfieldAddr E.P 32 x1 0) fun v40_30 => (k1 (xload E.P m 3 v40_30) fun v41_31 => (k1 (mbin E .geq 3 v39_29 v41_31) fun v42_32 => (kb v42_32 (kr (.bool false) m) (k1 (mbin E .add 3 x25 (.int .i64 1)) fun v44_33 => (ih x1 x23 x24 v44_33 m)))))))))))))) (fun v m => kp v m)))))))) (kx0 m)))) n
noncomputable def r53 (call : CallF) (fuel base : Nat) (x0 : Value) (m : M) : Res2 :=
  (k2 (xbox m x0) fun v1_1 m => (k1 (mfieldAddr E.P 32 v1_1 0) fun v5_2 => (k1 (xload E.P m 3 v5_2) fun v6_3 => (k1 (mbin E .lss 3 v6_3 (.int .i64 1)) fun v7_4 => (kb v7_4 (fVal (.bool false) fun v => some (.ret v, m)) (k1 (mfieldAddr E.P 32 v1_1 0) fun v9_5 => (k1 (xload E.P m 3 v9_5) fun v10_6 => (k1 (mbin E .gtr 3 v10_6 (.int .i64 2)) fun v11_7 => (kb v11_7 (fVal (.bool false) fun v => some (.ret v, m)) (k1 (mfieldAddr E.P 32 v1_1 1) fun v14_8 => (k1 (xload E.P m 30 v14_8) fun v15_9 => (k2 (vcall E.P base m .len [30] [v15_9]) fun v16_10 m => (k1 (mfieldAddr E.P 32 v1_1 0) fun v17_11 => (k1 (xload E.P m 3 v17_11) fun v18_12 => (k1 (mbin E .mul 3 (.int .i64 2) v18_12) fun v19_13 => (k1 (mbin E .neq 3 v16_10 v19_13) fun v20_14 => (kb v20_14 (fVal (.bool false) fun v => some (.ret v, m)) (k1 (mfieldAddr E.P 32 v1_1 1) fun v22_15 => (k1 (xload E.P m 30 v22_15) fun v23_16 => (k2 (vcall E.P base m .len [30] [v23_16]) fun v24_17 m => (r53_L0 call fuel base (fun v m => some (.pan v, m)) (fun y2_34 m => (fVal y2_34 fun v => some (.ret v, m))) (fun m => (fVal (.bool true) fun v => some (.ret v, m))) fuel v1_1 v23_16 v24_17 (.int .i64 0) m)))))))))))))))))))))
def keep53 : Keep := { region := fun i => ([[1], [1, 21], [2], [1, 23, 24, 25], [1, 23, 24, 25, 26], [1, 4, 23, 24, 25], [1, 23, 24, 25, 43], [2], [1, 23, 24, 25], [2]] : List (List Nat))[i]?, exit := fun i => ([[], [1, 23, 24, 25]] : List (List Nat))[i]?, ret := some [2] }
noncomputable def r53_L0_R (call : CallF) (fuel base n : Nat) (vs : List Value) (m : M) (K : KT) : Res2 := match vs with
  | [x1, x23, x24, x25] => r53_L0 call fuel base (fun v m => K (.pan v) { n := 45, l := [] } m) (fun y2 m => K .ret { n := 45, l := [(2, y2)] } m) (fun m => K (.exit 0) { n := 45, l := [] } m) n x1 x23 x24 x25 m
  | _ => none
noncomputable def lp53 (call : CallF) (fuel base : Nat) : Lp := lpsel [(0, fun T m K => kslots 45 [1, 23, 24, 25] T fun vs => r53_L0_R call fuel base fuel vs m K)]
noncomputable def c53 : Code := Try.f53.body.getD .skip
theorem r53_L0_lk (call : CallF) (fuel base : Nat) : LoopsOk E call (lp53 call fuel base) fuel base 0 (loopB (blockB (seqR (seqL (seqR (seqR c53)))))) = (And True (And (And True True) (And (And True (And True (And (And True True) True))) True))) := by kernel_rfl
theorem r53_L0_ok (call : CallF) (fuel base : Nat) : LpOk E call (lp53 call fuel base) fuel base 0 (loopB (blockB (seqR (seqL (seqR (seqR c53)))))) := by
  refine loop_ok (kp := keep53) (hb := Eq.mpr (r53_L0_lk call fuel base) (And.intro trivial (And.intro (And.intro trivial trivial) (And.intro (And.intro trivial (And.intro trivial (And.intro (And.intro trivial trivial) trivial))) trivial)))) 45 [1, 23, 24, 25] (fun n vs m K => r53_L0_R call fuel base n vs m K) ?_ ?_ (fun _ _ _ => rfl)
  · intro vs m K
    unfold r53_L0_R
    split <;> rfl
  · intro n vs m K hl
    match vs, hl with
    | [x1, x23, x24, x25], _ => show _ = _; kernel_rfl
theorem r53_eq (call : CallF) (fuel base : Nat) (x0 : Value) (m : M) : kbody E call keep53 (lp53 call fuel base) base Try.f53 [x0] m = r53 call fuel base x0 m := by
  kernel_rfl
noncomputable def rf53 : RF := fun call fuel base args m => match args with
  | [x0] => r53 call fuel base x0 m
  | _ => none
theorem r53_lk (call : CallF) (fuel base : Nat) : LoopsOk E call (lp53 call fuel base) fuel base 0 c53 = (And True (And (And True (And (And True True) True)) (And (And True (LpOk E call (lp53 call fuel base) fuel base 0 (loopB (blockB (seqR (seqL (seqR (seqR c53)))))))) (And True True)))) := by kernel_rfl
theorem r53_fn : E.P.funcs[53]? = some Try.f53 := by kernel_rfl
theorem r53_body : Try.f53.body = some c53 := by kernel_rfl
theorem rf53_ok : RFok E 53 rf53 := by
  refine ⟨Try.f53, r53_fn, fun call fuel base args m r _ h => ?_⟩
  unfold rf53 at h
  split at h
  · rw [← r53_eq] at h
    exact kbody_sound (c := c53) r53_body (Eq.mpr (r53_lk call fuel base) (And.intro trivial (And.intro (And.intro trivial (And.intro (And.intro trivial trivial) trivial)) (And.intro (And.intro trivial (r53_L0_ok call fuel base)) (And.intro trivial trivial))))) h
  · simp at h
end Go.AM
namespace Go.AM
open Go Go.Proofs
noncomputable def r54_L4 (call : CallF) (fuel base : Nat) (kx4 : Value → Value → Value → M → Res2) (n : Nat) : Value → Value → Value → Value → Value → Value → M → Res2 :=
  Nat.rec (motive := fun _ => Value → Value → Value → Value → Value → Value → M → Res2) (fun _ _ _ _ _ _ _ => none)
    (fun _ ih x1 x3 x5 x20 x24 x25 m =>
      (k1 (mbin E .lss 3 x25 x24) fun v26_12 => (kb v26_12 (kc (kB m (call m.length 86 [x25, x5] m)) (fun v32_13 m => (kc (kB m (call m.length 87 [x25] m)) (fun v34_14 m => (k1 (mbuild E.P 45 [(0, x5), (2, v32_13), (3, v34_14)]) fun v35_15 => (kc (kB m (call m.length 86 [x25, x5] m)) (fun v39_16 m => (k1 (xload E.P m 32 x1) fun v40_17 => (kc (kB m (call m.length 88 [v40_17, x25] m)) (fun v42_18 m => (k1 (mbuild E.P 45 [(0, x5), (2, v39_16), (1, v42_18)]) fun v43_19 => (k2 (xbuildSlice E.P m 22 2 [(0, v35_15), (1, v43_19)]) fun v44_20 m => (k2 (vcall E.P base m .append [22, 22] [x3, v44_20]) fun v45_21 m => (k1 (mbin E .add 3 x25 (.int .i64 1)) fun v46_22 => (ih x1 v45_21 x5 x20 x24 v46_22 m)))))) (fun _ _ => none)))) (fun _ _ => none)))) (fun _ _ => none))) (fun _ _ => none)) (kx4 x1 x3 x20 m)))) n
noncomputable def r54_L0 (call : CallF) (fuel base : Nat) (kx0 : Value → Value → M → Res2) (n : Nat) : Value → Value → Value → M → Res2 :=
  Nat.rec (motive := fun _ => Value → Value → Value → M → Res2) (fun _ _ _ _ => none)
    (fun _ ih x1 x3 x10 m =>
      (k1 (mbin E .lss 3 x10 (.int .i64 2)) fun v11_2 => (kb v11_2 (k1 (mbuild E.P 45 [(0, x10), (2, x10)]) fun v16_3 => (k2 (xbuildSlice E.P m 22 1 [(0, v16_3)]) fun v17_4 m => (k2 (vcall E.P base m .append [22, 22] [x3, v17_4]) fun v18_5 m => (k1 (mbin E .add 3 x10 (.int .i64 1)) fun v19_6 => (ih x1 v18_5 v19_6 m))))) (kx0 x1 x3 m)))) n
noncomputable def r54_L2 (call : CallF) (fuel base : Nat) (kx2 : Value → Value → M → Res2) (n : Nat) : Value → Value → Value → M → Res2 :=
  Nat.rec (motive := fun _ => Value → Value → Value → M → Res2) (fun _ _ _ _ => none)
    (fun _ ih x1 x3 x20 m =>
      (k1 (mbin E .lss 3 x20 (.int .i64 2)) fun v21_9 => (kb v21_9 (k1 (mfieldAddr E.P 32 x1 0) fun v23_10 => (k1 (xload E.P m 3 v23_10) fun v24_11 => (r54_L4 call fuel base (fun y1_23 y3_24 y20_25 m => (k1 (mbin E .add 3 y20_25 (.int .i64 1)) fun v47_26 => (ih y1_23 y3_24 v47_26 m))) fuel x1 x3 x20 x20 v24_11 (.int .i64 0) m))) (kx2 x1 x3 m)))) n
noncomputable def r54_L6 (call : CallF) (fuel base : Nat) (kp : Value → M → Res2) (kx6 : Value → M → Res2) (n : Nat) : Value → Value → Value → Value → Value → M → Res2 :=
  Nat.rec (motive := fun _ => Value → Value → Value → Value → Value → M → Res2) (fun _ _ _ _ _ _ => none)
    (fun _ ih x1 x3 x49 x50 x51 m =>
      (k1 (mbin E .lss 3 x51 x50) fun v52_32 => (kb v52_32 (k1 (mindexAddr E.P 30 x49 x51) fun v54_33 => (k1 (xload E.P m 69 v54_33) fun v55_34 => (k2 (xalloc E.P m 69) fun v8_35 m => (ks (xstore E.P base m 69 v8_35 v55_34) fun m => (k1 (mfieldAddr E.P 69 v8_35 2) fun v56_36 => (k1 (xload E.P m 3 v56_36) fun v57_37 => (k1 (mbin E .eql 3 v57_37 (.int .i64 (-1))) fun v58_38 => (kb v58_38 (k1 (mbin E .add 3 x51 (.int .i64 1)) fun v82_39 => (ih x1 x3 x49 x50 v82_39 m)) (k1 (mbin E .quo 3 x51 (.int .i64 2)) fun v60_40 => (k1 (mbin E .rem 3 x51 (.int .i64 2)) fun v62_41 => (kc (kB m (call m.length 86 [v60_40, v62_41] m)) (fun v63_42 m => (k1 (mfieldAddr E.P 69 v8_35 0) fun v64_43 => (k1 (xload E.P m 3 v64_43) fun v65_44 => (k1 (mbuild E.P 45 [(0, v63_42), (2, v65_44)]) fun v66_45 => (k2 (xalloc E.P m 45) fun v9_46 m => (ks (xstore E.P base m 45 v9_46 v66_45) fun m => (k1 (mfieldAddr E.P 69 v8_35 1) fun v67_47 => (k1 (xload E.P m 4 v67_47) fun v68_48 => (kb v68_48 (k1 (mfieldAddr E.P 69 v8_35 2) fun v69_49 => (k1 (xload E.P m 3 v69_49) fun v70_50 => (kc (call base 87 [v70_50] m) (fun v71_51 m => (k1 (mfieldAddr E.P 45 v9_46 1) fun v72_52 => (ks (xstore E.P base m 3 v72_52 v71_51) fun m => (k1 (xload E.P m 45 v9_46) fun v79_53 => (k2 (xbuildSlice E.P m 22 1 [(0, v79_53)]) fun v80_54 m => (k2 (vcall E.P base m .append [22, 22] [x3, v80_54]) fun v81_55 m => (k1 (mbin E .add 3 x51 (.int .i64 1)) fun v82_56 => (ih x1 v81_55 x49 x50 v82_56 m)))))))) (fun v m => kp v m)))) (k1 (xload E.P m 32 x1) fun v73_57 => (k1 (mfieldAddr E.P 69 v8_35 2) fun v74_58 => (k1 (xload E.P m 3 v74_58) fun v75_59 => (kc (call base 88 [v73_57, v75_59] m) (fun v76_60 m => (k1 (mfieldAddr E.P 45 v9_46 3) fun v77_61 => (ks (xstore E.P base m 3 v77_61 v76_60) fun m => (k1 (xload E.P m 45 v9_46) fun v79_62 => (k2 (xbuildSlice E.P m 22 1 [(0, v79_62)]) fun v80_63 m => (k2 (vcall E.P base m .append [22, 22] [x3, v80_63]) fun v81_64 m => (k1 (mbin E .add 3 x51 (.int .i64 1)) fun v82_65 => (ih x1 v81_64 x49 x50 v82_65 m)))))))) (fun v m => kp v m)))))))))))))) (fun _ _ => none)))))))))))) (kx6 x3 m)))) n
noncomputable def r54 (call : CallF) (fuel base : Nat) (x0 : Value) (m : M) : Res2 :=
  (k2 (xbox m x0) fun v1_1 m => (r54_L0 call fuel base (fun y1_7 y3_8 m => (r54_L2 call fuel base (fun y1_27 y3_28 m => (k1 (mfieldAddr E.P 32 y1_27 1) fun v48_29 => (k1 (xload E.P m 30 v48_29) fun v49_30 => (k2 (vcall E.P base m .len [30] [v49_30]) fun v50_31 m => (r54_L6 call fuel base (fun v m => some (.pan v, m)) (fun y3_66 m => (fVal y3_66 fun v => some (.ret v, m))) fuel y1_27 y3_28 v49_30 v50_31 (.int .i64 0) m))))) fuel y1_7 y3_8 (.int .i64 0) m)) fuel v1_1 (.slice none 0 0) (.int .i64 0) m))
def keep54 : Keep := { region := fun i => ([[1], [1, 3], [1, 3, 10], [1, 3, 10, 11], [1, 3, 4, 10], [1, 3, 10], [1, 3, 10], [1, 3, 20], [1, 3, 20, 21], [1, 3, 5, 20], [1, 3, 5, 20, 24, 25], [1, 3, 5, 20, 24, 25, 26], [1, 3, 5, 6, 20, 24, 25], [1, 3, 5, 20, 24, 25], [1, 3, 5, 20, 24, 25], [1, 3, 20], [1, 3, 49, 50, 51], [1, 3, 49, 50, 51, 52], [1, 3, 7, 8, 49, 50, 51], [1, 3, 7, 8, 49, 50, 51, 58], [1, 3, 8, 9, 49, 50, 51], [1, 3, 8, 9, 49, 50, 51, 68], [1, 3, 9, 49, 50, 51], [1, 3, 9, 49, 50, 51], [1, 3, 49, 50, 51], [1, 3, 49, 50, 51], [2]] : List (List Nat))[i]?, exit := fun i => ([[1, 3], [1, 3, 10], [1, 3], [1, 3, 20], [1, 3, 20], [1, 3, 5, 20, 24, 25], [3], [1, 3, 49, 50, 51]] : List (List Nat))[i]?, ret := some [2] }
noncomputable def r54_L4_R (call : CallF) (fuel base n : Nat) (vs : List Value) (m : M) (K : KT) : Res2 := match vs with
  | [x1, x3, x5, x20, x24, x25] => r54_L4 call fuel base (fun y1 y3 y20 m => K (.exit 4) { n := 84, l := [(1, y1), (3, y3), (20, y20)] } m) n x1 x3 x5 x20 x24 x25 m
  | _ => none
noncomputable def r54_L0_R (call : CallF) (fuel base n : Nat) (vs : List Value) (m : M) (K : KT) : Res2 := match vs with
  | [x1, x3, x10] => r54_L0 call fuel base (fun y1 y3 m => K (.exit 0) { n := 84, l := [(1, y1), (3, y3)] } m) n x1 x3 x10 m
  | _ => none
noncomputable def r54_L2_R (call : CallF) (fuel base n : Nat) (vs : List Value) (m : M) (K : KT) : Res2 := match vs with
  | [x1, x3, x20] => r54_L2 call fuel base (fun y1 y3 m => K (.exit 2) { n := 84, l := [(1, y1), (3, y3)] } m) n x1 x3 x20 m
  | _ => none
noncomputable def r54_L6_R (call : CallF) (fuel base n : Nat) (vs : List Value) (m : M) (K : KT) : Res2 := match vs with
  | [x1, x3, x49, x50, x51] => r54_L6 call fuel base (fun v m => K (.pan v) { n := 84, l := [] } m) (fun y3 m => K (.exit 6) { n := 84, l := [(3, y3)] } m) n x1 x3 x49 x50 x51 m
  | _ => none
noncomputable def lp54 (call : CallF) (fuel base : Nat) : Lp := lpsel [(4, fun T m K => kslots 84 [1, 3, 5, 20, 24, 25] T fun vs => r54_L4_R call fuel base fuel vs m K), (0, fun T m K => kslots 84 [1, 3, 10] T fun vs => r54_L0_R call fuel base fuel vs m K), (2, fun T m K => kslots 84 [1, 3, 20] T fun vs => r54_L2_R call fuel base fuel vs m K), (6, fun T m K => kslots 84 [1, 3, 49, 50, 51] T fun vs => r54_L6_R call fuel base fuel vs m K)]
noncomputable def c54 : Code := Try.f54.body.getD .skip
theorem r54_L4_lk (call : CallF) (fuel base : Nat) : LoopsOk E call (lp54 call fuel base) fuel base 4 (loopB (blockB (seqR (seqR (blockB (seqL (seqR (seqR (loopB (blockB (seqR (seqL (seqR (seqR (seqR c54))))))))))))))) = (And True (And (And True True) (And (And True True) True))) := by kernel_rfl
theorem r54_L4_ok (call : CallF) (fuel base : Nat) : LpOk E call (lp54 call fuel base) fuel base 4 (loopB (blockB (seqR (seqR (blockB (seqL (seqR (seqR (loopB (blockB (seqR (seqL (seqR (seqR (seqR c54))))))))))))))) := by
  refine loop_ok (kp := keep54) (hb := Eq.mpr (r54_L4_lk call fuel base) (And.intro trivial (And.intro (And.intro trivial trivial) (And.intro (And.intro trivial trivial) trivial)))) 84 [1, 3, 5, 20, 24, 25] (fun n vs m K => r54_L4_R call fuel base n vs m K) ?_ ?_ (fun _ _ _ => rfl)
  · intro vs m K
    unfold r54_L4_R
    split <;> rfl
  · intro n vs m K hl
    match vs, hl with
    | [x1, x3, x5, x20, x24, x25], _ => show _ = _; kernel_rfl
theorem r54_L0_lk (call : CallF) (fuel base : Nat) : LoopsOk E call (lp54 call fuel base) fuel base 0 (loopB (blockB (seqR (seqL (seqR (seqR c54)))))) = (And True (And (And True True) (And (And True True) True))) := by kernel_rfl
theorem r54_L0_ok (call : CallF) (fuel base : Nat) : LpOk E call (lp54 call fuel base) fuel base 0 (loopB (blockB (seqR (seqL (seqR (seqR c54)))))) := by
  refine loop_ok (kp := keep54) (hb := Eq.mpr (r54_L0_lk call fuel base) (And.intro trivial (And.intro (And.intro trivial trivial) (And.intro (And.intro trivial trivial) trivial)))) 84 [1, 3, 10] (fun n vs m K => r54_L0_R call fuel base n vs m K) ?_ ?_ (fun _ _ _ => rfl)
  · intro vs m K
    unfold r54_L0_R
    split <;> rfl
  · intro n vs m K hl
    match vs, hl with
    | [x1, x3, x10], _ => show _ = _; kernel_rfl
theorem r54_L2_lk (call : CallF) (fuel base : Nat) : LoopsOk E call (lp54 call fuel base) fuel base 2 (loopB (blockB (seqR (seqL (seqR (seqR (seqR c54))))))) = (And True (And (And True True) (And (And True (And True (LpOk E call (lp54 call fuel base) fuel base 4 (loopB (blockB (seqR (seqR (blockB (seqL (seqR (seqR (loopB (blockB (seqR (seqL (seqR (seqR (seqR c54)))))))))))))))))) True))) := by kernel_rfl
theorem r54_L2_ok (call : CallF) (fuel base : Nat) : LpOk E call (lp54 call fuel base) fuel base 2 (loopB (blockB (seqR (seqL (seqR (seqR (seqR c54))))))) := by
  refine loop_ok (kp := keep54) (hb := Eq.mpr (r54_L2_lk call fuel base) (And.intro trivial (And.intro (And.intro trivial trivial) (And.intro (And.intro trivial (And.intro trivial (r54_L4_ok call fuel base))) trivial)))) 84 [1, 3, 20] (fun n vs m K => r54_L2_R call fuel base n vs m K) ?_ ?_ (fun _ _ _ => rfl)
  · intro vs m K
    unfold r54_L2_R
    split <;> rfl
  · intro n vs m K hl
    match vs, hl with
    | [x1, x3, x20], _ => show _ = _; kernel_rfl
theorem r54_L6_lk (call : CallF) (fuel base : Nat) : LoopsOk E call (lp54 call fuel base) fuel base 6 (loopB (blockB (seqR (seqL (seqR (seqR (seqR (seqR c54)))))))) = (And True (And (And True True) (And (And True (And (And True (And True True)) (And True (And (And True (And True True)) True)))) True))) := by kernel_rfl
theorem r54_L6_ok (call : CallF) (fuel base : Nat) : LpOk E call (lp54 call fuel base) fuel base 6 (loopB (blockB (seqR (seqL (seqR (seqR (seqR (seqR c54)))))))) := by
  refine loop_ok (kp := keep54) (hb := Eq.mpr (r54_L6_lk call fuel base) (And.intro trivial (And.intro (And.intro trivial trivial) (And.intro (And.intro trivial (And.intro (And.intro trivial (And.intro trivial trivial)) (And.intro trivial (And.intro (And.intro trivial (And.intro trivial trivial)) trivial)))) trivial)))) 84 [1, 3, 49, 50, 51] (fun n vs m K => r54_L6_R call fuel base n vs m K) ?_ ?_ (fun _ _ _ => rfl)
  · intro vs m K
    unfold r54_L6_R
    split <;> rfl
  · intro n vs m K hl
    match vs, hl with
    | [x1, x3, x49, x50, x51], _ => show _ = _; kernel_rfl
theorem r54_eq (call : CallF) (fuel base : Nat) (x0 : Value) (m : M) : kbody E call keep54 (lp54 call fuel base) base Try.f54 [x0] m = r54 call fuel base x0 m := by
  kernel_rfl
noncomputable def rf54 : RF := fun call fuel base args m => match args with
  | [x0] => r54 call fuel base x0 m
  | _ => none
theorem r54_lk (call : CallF) (fuel base : Nat) : LoopsOk E call (lp54 call fuel base) fuel base 0 c54 = (And True (And True (And (And True (LpOk E call (lp54 call fuel base) fuel base 0 (loopB (blockB (seqR (seqL (seqR (seqR c54)))))))) (And (And True (LpOk E call (lp54 call fuel base) fuel base 2 (loopB (blockB (seqR (seqL (seqR (seqR (seqR c54))))))))) (And (And True (LpOk E call (lp54 call fuel base) fuel base 6 (loopB (blockB (seqR (seqL (seqR (seqR (seqR (seqR c54)))))))))) (And True True)))))) := by kernel_rfl
theorem r54_fn : E.P.funcs[54]? = some Try.f54 := by kernel_rfl
theorem r54_body : Try.f54.body = some c54 := by kernel_rfl
theorem rf54_ok : RFok E 54 rf54 := by
  refine ⟨Try.f54, r54_fn, fun call fuel base args m r _ h => ?_⟩
  unfold rf54 at h
  split at h
  · rw [← r54_eq] at h
    exact kbody_sound (c := c54) r54_body (Eq.mpr (r54_lk call fuel base) (And.intro trivial (And.intro trivial (And.intro (And.intro trivial (r54_L0_ok call fuel base)) (And.intro (And.intro trivial (r54_L2_ok call fuel base)) (And.intro (And.intro trivial (r54_L6_ok call fuel base)) (And.intro trivial trivial))))))) h
  · simp at h
end Go.AM
namespace Go.AM
open Go Go.Proofs
noncomputable def r56 (call : CallF) (fuel base : Nat) (x0 : Value) (m : M) : Res2 :=
  (k2 (vcall E.P base m .len [33] [x0]) fun v4_1 m => (kc (call base 80 [v4_1] m) (fun v5_2 m => (kb v5_2 (kc (call base 81 [x0, (.func (.func 85) #[] #[])] m) (fun v8_3 m => (k1 (mun .not v8_3) fun v9_4 => (fVal v9_4 fun v => some (.ret v, m)))) (fun v m => some (.pan v, m))) (fVal (.bool false) fun v => some (.ret v, m)))) (fun v m => some (.pan v, m))))
def keep56 : Keep := { region := fun i => ([[0], [2]] : List (List Nat))[i]?, exit := fun i => ([] : List (List Nat))[i]?, ret := some [2] }
noncomputable def lp56 (call : CallF) (fuel base : Nat) : Lp := lpsel []
noncomputable def c56 : Code := Try.f56.body.getD .skip
theorem r56_eq (call : CallF) (fuel base : Nat) (x0 : Value) (m : M) : kbody E call keep56 (lp56 call fuel base) base Try.f56 [x0] m = r56 call fuel base x0 m := by
  kernel_rfl
noncomputable def rf56 : RF := fun call fuel base args m => match args with
  | [x0] => r56 call fuel base x0 m
  | _ => none
theorem r56_lk (call : CallF) (fuel base : Nat) : LoopsOk E call (lp56 call fuel base) fuel base 0 c56 = (And True (And True True)) := by kernel_rfl
theorem r56_fn : E.P.funcs[56]? = some Try.f56 := by kernel_rfl
theorem r56_body : Try.f56.body = some c56 := by kernel_rfl
theorem rf56_ok : RFok E 56 rf56 := by
  refine ⟨Try.f56, r56_fn, fun call fuel base args m r _ h => ?_⟩
  unfold rf56 at h
  split at h
  · rw [← r56_eq] at h
    exact kbody_sound (c := c56) r56_body (Eq.mpr (r56_lk call fuel base) (And.intro trivial (And.intro trivial trivial))) h
  · simp at h
end Go.AM
namespace Go.AM
open Go Go.Proofs
noncomputable def r57_L0 (call : CallF) (fuel base : Nat) (kp : Value → M → Res2) (kx0 : Value → Value → Value → M → Res2) (n : Nat) : Value → Value → Value → Value → Value → Value → M → Res2 :=
  Nat.rec (motive := fun _ => Value → Value → Value → Value → Value → Value → M → Res2) (fun _ _ _ _ _ _ _ => none)
    (fun _ ih x1 x3 x9 x10 x14 x15 m =>
      (k1 (mbin E .lss 3 x15 x14) fun v16_3 => (kb v16_3 (k1 (mbin E .eql 3 x10 (.int .i64 (-1))) fun v18_4 => (kb v18_4 (kx0 x1 x9 x10 m) (k1 (mbin E .lss 3 x9 (.int .i64 0)) fun v21_5 => (kb v21_5 (kx0 x1 x9 x10 m) (k2 (vcall E.P base m .len [33] [x1]) fun v26_6 m => (k1 (mbin E .geq 3 x9 v26_6) fun v27_7 => (kb v27_7 (kx0 x1 x9 x10 m) (k1 (mfieldAddr E.P 32 x3 1) fun v29_8 => (k1 (xload E.P m 30 v29_8) fun v30_9 => (k1 (mbin E .mul 3 (.int .i64 2) x10) fun v32_10 => (k1 (mindexAddr E.P 33 x1 x9) fun v35_11 => (k1 (xload E.P m 3 v35_11) fun v36_12 => (k1 (mbin E .add 3 v32_10 v36_12) fun v37_13 => (k1 (mindexAddr E.P 30 v30_9 v37_13) fun v38_14 => (k1 (xload E.P m 69 v38_14) fun v39_15 => (k2 (xalloc E.P m 69) fun v11_16 m => (ks (xstore E.P base m 69 v11_16 v39_15) fun m => (k1 (mfieldAddr E.P 69 v11_16 0) fun v42_17 => (k1 (xload E.P m 3 v42_17) fun v43_18 => (k1 (mindexAddr E.P 33 x1 x9) fun v44_19 => (ks (xstore E.P base m 3 v44_19 v43_18) fun m => (k1 (xload E.P m 69 v11_16) fun v46_20 => (kc (call base 90 [v46_20] m) (fun v47_21 m => (k1 (mbin E .add 3 x9 v47_21) fun v48_22 => (k1 (mfieldAddr E.P 69 v11_16 2) fun v49_23 => (k1 (xload E.P m 3 v49_23) fun v50_24 => (k1 (mbin E .add 3 x15 (.int .i64 1)) fun v51_25 => (ih x1 x3 v48_22 v50_24 x14 v51_25 m)))))) (fun v m => kp v m)))))))))))))))))))))))) (kx0 x1 x9 x10 m)))) n
noncomputable def r57 (call : CallF) (fuel base : Nat) (x0 : Value) (x1 : Value) (x2 : Value) (m : M) : Res2 :=
  (k2 (xbox m x0) fun v3_1 m => (kc (call base 89 [x1] m) (fun v13_2 m => (r57_L0 call fuel base (fun v m => some (.pan v, m)) (fun y1_26 y9_27 y10_28 m => (some (.ret (.tuple #[y1_26, y9_27, y10_28]), m))) fuel v13_2 v3_1 (.int .i64 0) (.int .i64 0) x2 (.int .i64 0) m)) (fun v m => some (.pan v, m))))
def keep57 : Keep := { region := fun i => ([[1, 2, 3], [1, 2, 3], [1, 2, 3, 9, 10], [1, 3, 9, 10, 14, 15], [1, 3, 9, 10, 14, 15, 16], [1, 3, 9, 10, 14, 15, 28], [1, 3, 9, 11, 14, 15], [1, 3, 9, 11, 14, 15], [1, 3, 9, 11, 14, 15], [1, 3, 9, 10, 14, 15], [1, 3, 9, 10, 14, 15], [6, 7, 8]] : List (List Nat))[i]?, exit := fun i => ([[1, 9, 10], [1, 3, 9, 10, 14, 15]] : List (List Nat))[i]?, ret := some [6, 7, 8] }
noncomputable def r57_L0_R (call : CallF) (fuel base n : Nat) (vs : List Value) (m : M) (K : KT) : Res2 := match vs with
  | [x1, x3, x9, x10, x14, x15] => r57_L0 call fuel base (fun v m => K (.pan v) { n := 55, l := [] } m) (fun y1 y9 y10 m => K (.exit 0) { n := 55, l := [(1, y1), (9, y9), (10, y10)] } m) n x1 x3 x9 x10 x14 x15 m
  | _ => none
noncomputable def lp57 (call : CallF) (fuel base : Nat) : Lp := lpsel [(0, fun T m K => kslots 55 [1, 3, 9, 10, 14, 15] T fun vs => r57_L0_R call fuel base fuel vs m K)]
noncomputable def c57 : Code := Try.f57.body.getD .skip
theorem r57_L0_lk (call : CallF) (fuel base : Nat) : LoopsOk E call (lp57 call fuel base) fuel base 0 (loopB (blockB (seqR (seqL (seqR (seqR (seqR c57))))))) = (And True (And (And True True) (And (And (And True (And True True)) (And True (And True (And True True)))) True))) := by kernel_rfl
theorem r57_L0_ok (call : CallF) (fuel base : Nat) : LpOk E call (lp57 call fuel base) fuel base 0 (loopB (blockB (seqR (seqL (seqR (seqR (seqR c57))))))) := by
  refine loop_ok (kp := keep57) (hb := Eq.mpr (r57_L0_lk call fuel base) (And.intro trivial (And.intro (And.intro trivial trivial) (And.intro (And.intro (And.intro trivial (And.intro trivial trivial)) (And.intro trivial (And.intro trivial (And.intro trivial trivial)))) trivial)))) 55 [1, 3, 9, 10, 14, 15] (fun n vs m K => r57_L0_R call fuel base n vs m K) ?_ ?_ (fun _ _ _ => rfl)
  · intro vs m K
    unfold r57_L0_R
    split <;> rfl
  · intro n vs m K hl
    match vs, hl with
    | [x1, x3, x9, x10, x14, x15], _ => show _ = _; kernel_rfl
theorem r57_eq (call : CallF) (fuel base : Nat) (x0 : Value) (x1 : Value) (x2 : Value) (m : M) : kbody E call keep57 (lp57 call fuel base) base Try.f57 [x0, x1, x2] m = r57 call fuel base x0 x1 x2 m := by
  kernel_rfl
noncomputable def rf57 : RF := fun call fuel base args m => match args with
  | [x0, x1, x2] => r57 call fuel base x0 x1 x2 m
  | _ => none
theorem r57_lk (call : CallF) (fuel base : Nat) : LoopsOk E call (lp57 call fuel base) fuel base 0 c57 = (And True (And True (And True (And (And True (LpOk E call (lp57 call fuel base) fuel base 0 (loopB (blockB (seqR (seqL (seqR (seqR (seqR c57))))))))) (And True True))))) := by kernel_rfl
theorem r57_fn : E.P.funcs[57]? = some Try.f57 := by kernel_rfl
theorem r57_body : Try.f57.body = some c57 := by kernel_rfl
theorem rf57_ok : RFok E 57 rf57 := by
  refine ⟨Try.f57, r57_fn, fun call fuel base args m r _ h => ?_⟩
  unfold rf57 at h
  split at h
  · rw [← r57_eq] at h
    exact kbody_sound (c := c57) r57_body (Eq.mpr (r57_lk call fuel base) (And.intro trivial (And.intro trivial (And.intro trivial (And.intro (And.intro trivial (r57_L0_ok call fuel base)) (And.intro trivial trivial)))))) h
  · simp at h
end Go.AM
namespace Go.AM
open Go Go.Proofs
noncomputable def r58 (call : CallF) (fuel base : Nat) (x0 : Value) (m : M) : Res2 :=
  (k1 (mbin E .geq 3 x0 (.int .i64 0)) fun v4_1 => (kb v4_1 (k1 (mbin E .leq 3 x0 (.int .i64 7)) fun v7_2 => (fVal v7_2 fun v => some (.ret v, m))) (fVal (.bool false) fun v => some (.ret v, m))))
def keep58 : Keep := { region := fun i => ([[0], [2]] : List (List Nat))[i]?, exit := fun i => ([] : List (List Nat))[i]?, ret := some [2] }
noncomputable def lp58 (call : CallF) (fuel base : Nat) : Lp := lpsel []
noncomputable def c58 : Code := Try.f58.body.getD .skip
theorem r58_eq (call : CallF) (fuel base : Nat) (x0 : Value) (m : M) : kbody E call keep58 (lp58 call fuel base) base Try.f58 [x0] m = r58 call fuel base x0 m := by
  kernel_rfl
noncomputable def rf58 : RF := fun call fuel base args m => match args with
  | [x0] => r58 call fuel base x0 m
  | _ => none
theorem r58_lk (call : CallF) (fuel base : Nat) : LoopsOk E call (lp58 call fuel base) fuel base 0 c58 = (And True (And True True)) := by kernel_rfl
theorem r58_fn : E.P.funcs[58]? = some Try.f58 := by kernel_rfl
theorem r58_body : Try.f58.body = some c58 := by kernel_rfl
theorem rf58_ok : RFok E 58 rf58 := by
  refine ⟨Try.f58, r58_fn, fun call fuel base args m r _ h => ?_⟩
  unfold rf58 at h
  split at h
  · rw [← r58_eq] at h
    exact kbody_sound (c := c58) r58_body (Eq.mpr (r58_lk call fuel base) (And.intro trivial (And.intro trivial trivial))) h
  · simp at h
end Go.AM
namespace Go.AM
open Go Go.Proofs
noncomputable def r59 (call : CallF) (fuel base : Nat) (x0 : Value) (x1 : Value) (x2 : Value) (m : M) : Res2 :=
  (kc (call base 48 [x0] m) (fun v8_1 m => (kb v8_1 (kc (call base 80 [x1] m) (fun v11_2 m => (kb v11_2 (kc (call base 80 [x2] m) (fun v15_3 m => (fVal v15_3 fun v => some (.ret v, m))) (fun v m => some (.pan v, m))) (fVal (.bool false) fun v => some (.ret v, m)))) (fun v m => some (.pan v, m))) (fVal (.bool false) fun v => some (.ret v, m)))) (fun v m => some (.pan v, m)))
def keep59 : Keep := { region := fun i => ([[0, 1, 2], [6]] : List (List Nat))[i]?, exit := fun i => ([] : List (List Nat))[i]?, ret := some [6] }
noncomputable def lp59 (call : CallF) (fuel base : Nat) : Lp := lpsel []
noncomputable def c59 : Code := Try.f59.body.getD .skip
theorem r59_eq (call : CallF) (fuel base : Nat) (x0 : Value) (x1 : Value) (x2 : Value) (m : M) : kbody E call keep59 (lp59 call fuel base) base Try.f59 [x0, x1, x2] m = r59 call fuel base x0 x1 x2 m := by
  kernel_rfl
noncomputable def rf59 : RF := fun call fuel base args m => match args with
  | [x0, x1, x2] => r59 call fuel base x0 x1 x2 m
  | _ => none
theorem r59_lk (call : CallF) (fuel base : Nat) : LoopsOk E call (lp59 call fuel base) fuel base 0 c59 = (And True (And True True)) := by kernel_rfl
theorem r59_fn : E.P.funcs[59]? = some Try.f59 := by kernel_rfl
theorem r59_body : Try.f59.body = some c59 := by kernel_rfl
theorem rf59_ok : RFok E 59 rf59 := by
  refine ⟨Try.f59, r59_fn, fun call fuel base args m r _ h => ?_⟩
  unfold rf59 at h
  split at h
  · rw [← r59_eq] at h
    exact kbody_sound (c := c59) r59_body (Eq.mpr (r59_lk call fuel base) (And.intro trivial (And.intro trivial trivial))) h
  · simp at h
end Go.AM
