import Derived.KernelRfl
import Derived.Laws.BytesArg
import Derived.Laws.StructEq
import Derived.Test.YtngapgkkldpcgaaRows
import Derived.WalkKit
import Derived.Test.YtngapgkkldpcgaaAmB
import Derived.Test.YtngapgkkldpcgaaAmModel
import Derived.Test.YtngapgkkldpcgaaAmOps5
import Derived.Test.YtngapgkkldpcgaaAmOps6
import Derived.Test.YtngapgkkldpcgaaAmCode
import Derived.Test.YtngapgkkldpcgaaAmK
import Derived.Test.YtngapgkkldpcgaaAmEq
set_option linter.unusedVariables false
set_option linter.unusedSimpArgs false
set_option linter.unusedSectionVars false
namespace Go.AM
open Go Go.Proofs
def seqL : Code → Code | .seq a _ => a | _ => .skip
def seqR : Code → Code | .seq _ a => a | _ => .skip
def blockB : Code → Code | .block _ a => a | _ => .skip
def loopB : Code → Code | .loop a => a | _ => .skip
noncomputable def E : Env where
  P := Try.prog
  pure := fun f => [15,16,17,18,21,24,25,28,29,30,31,32,33,36,37,40,42,47,48,49,50,51,52,53,55,56,58,59,60,62,63,64,66,68,69,72,73,76,80,81,82,84,85,86,87,88,90,91,93,94,95,97,99,100,101,102,111,112,113,114,115,116,120,121,129,132,133,135].contains f
  eqt := fun t => if t == 45 then [0, 2, 4, 6] else if t == 44 then [0, 2, 4, 6] else []
  live := fun _ _ => none
def fieldSum (P : Program) (t : TypeId) : List (Nat × Nat × Bool) := (P.fieldsOf t).toList.map fun f => (f.type, f.offset, f.name == "_")
theorem flat_of {P : Program} {t : TypeId} {l : List (Nat × Nat × Bool)} {k : IntKind} (h1 : P.underlying t = some (.struct (P.fieldsOf t))) (h2 : P.stoodInHeld t = false) (h3 : P.eqGuardType P.depth t = false)
    (h3' : P.underlying 3 = some (.int k)) (h4' : P.underlying 4 = some .bool) (h4 : fieldSum P t = l) (h5 : ∀ q ∈ l, (q.1 = 3 ∨ q.1 = 4) ∧ q.2.2 = false) : flatFields P t (l.map fun q => 2 * q.2.1 + (if q.1 = 4 then 1 else 0)) := by
  have b3 : isBoolT P 3 = 0 := by unfold isBoolT; rw [h3']
  have b4 : isBoolT P 4 = 1 := by unfold isBoolT; rw [h4']
  have hq : ∀ f ∈ (P.fieldsOf t).toList, ((f.type = 3 ∨ f.type = 4) ∧ (f.name == "_") = false) := fun f hf =>
    h5 (f.type, f.offset, f.name == "_") (by rw [← h4]; exact List.mem_map.2 ⟨f, hf, rfl⟩)
  refine ⟨⟨h1, h2, h3⟩, ?_, fun f hf => ?_⟩
  · rw [← h4]
    unfold fieldSum
    rw [List.map_map]
    refine List.map_congr_left fun f hf => ?_
    rcases (hq f hf).1 with e | e
    · simp [e, b3]
    · simp [e, b4]
  · obtain ⟨e1, e2⟩ := hq f hf
    simp only [beq_eq_false_iff_ne] at e2
    refine ⟨?_, e2⟩
    rcases e1 with e | e
    · exact .inl ⟨⟨k, by rw [e]; exact h3'⟩, by rw [e]; exact b3⟩
    · exact .inr ⟨by rw [e]; exact h4', by rw [e]; exact b4⟩
theorem u3 : Try.prog.underlying 3 = some (.int .i64) := by kernel_rfl
theorem u4 : Try.prog.underlying 4 = some .bool := by kernel_rfl
theorem fl45 : flatFields Try.prog 45 [0, 2, 4, 6] := flat_of (l := [(3,0,false),(3,1,false),(3,2,false),(3,3,false)]) (by kernel_rfl) (by kernel_rfl) (by kernel_rfl) u3 u4 (by kernel_rfl) (by simp)
theorem fl44 : flatFields Try.prog 44 [0, 2, 4, 6] := flat_of (l := [(3,0,false),(3,1,false),(3,2,false),(3,3,false)]) (by kernel_rfl) (by kernel_rfl) (by kernel_rfl) u3 u4 (by kernel_rfl) (by simp)
theorem nogAll : (Try.prog.funcs.toList.all fun fn => !(fn.body.isSome && fn.name == "runtime.NumGoroutine")) = true := by kernel_rfl
theorem E_good : E.Good where
  eqt := by
    intro t xs ys r w x y hne hc
    have ht : t = 45 ∨ t = 44 := by
      unfold E at hne
      simp only [beq_iff_eq] at hne
      by_cases h1 : t = 45
      · exact .inl h1
      by_cases h2 : t = 44
      · exact .inr h2
      simp [h1, h2] at hne
    rcases ht with rfl | rfl
    · exact eqt_flat fl45 w x y hc
    · exact eqt_flat fl44 w x y hc
  nog := by
    intro f fn hf hb
    have h := List.all_eq_true.1 nogAll fn (Array.mem_toList_iff.2 (Array.mem_of_getElem? hf))
    simpa [hb] using h
theorem E_mix : E.P.follows .mixedOrders = true := by kernel_rfl
end Go.AM
namespace Go.AM
open Go Go.Proofs
noncomputable def r4 (call : CallF) (fuel base : Nat) (x0 : Value) (x1 : Value) (x2 : Value) (m : M) : Res2 :=
  (k2 (xbox m x0) fun v3_1 m => (k1 (mfieldAddr E.P 32 v3_1 1) fun v18_2 => (k1 (xload E.P m 30 v18_2) fun v19_3 => (k2 (vcall E.P base m .len [30] [v19_3]) fun v20_4 m => (k1 (mbin E .gtr 3 v20_4 (.int .i64 20)) fun v21_5 => (kb v21_5 (kc (call base 16 [] m) (fun v27_6 m => (fVal v27_6 fun v => some (.ret v, m))) (fun v m => some (.pan v, m))) (k2 (vcall E.P base m .len [33] [x1]) fun v24_7 m => (k1 (mbin E .gtr 3 v24_7 (.int .i64 20)) fun v25_8 => (kb v25_8 (kc (call base 16 [] m) (fun v27_9 m => (fVal v27_9 fun v => some (.ret v, m))) (fun v m => some (.pan v, m))) (k2 (xbuildSlice E.P m 33 0 []) fun v28_10 m => (k2 (vcall E.P base m .append [33, 33] [v28_10, x1]) fun v30_11 m => (k1 (xload E.P m 32 v3_1) fun v32_12 => (kc (call base 19 [v32_12] m) (fun v33_13 m => (k1 (mextract 0 v33_13) fun v34_14 => (k1 (mextract 1 v33_13) fun v35_15 => (k1 (xload E.P m 32 v3_1) fun v37_16 => (kc (call base 20 [v37_16] m) (fun v38_17 m => (k1 (mextract 0 v38_17) fun v39_18 => (k1 (mextract 1 v38_17) fun v40_19 => (k1 (mbin E .neq 26 v35_15 v40_19) fun v43_20 => (kb v43_20 (fVal (.bool false) fun v => some (.ret v, m)) (kc (call base 21 [v34_14, v39_18] m) (fun v47_21 m => (k1 (mun .not v47_21) fun v48_22 => (kb v48_22 (fVal (.bool false) fun v => some (.ret v, m)) (k1 (xload E.P m 32 v3_1) fun v51_23 => (kc (call base 22 [v51_23, v30_11, x2] m) (fun v54_24 m => (k1 (mextract 0 v54_24) fun v55_25 => (k1 (mextract 1 v54_24) fun v56_26 => (k1 (mextract 2 v54_24) fun v57_27 => (k1 (mextract 3 v54_24) fun v58_28 => (k1 (xload E.P m 32 v3_1) fun v60_29 => (kc (call base 23 [v60_29, x1, x2] m) (fun v63_30 m => (k1 (mextract 0 v63_30) fun v64_31 => (k1 (mextract 1 v63_30) fun v65_32 => (k1 (mextract 2 v63_30) fun v66_33 => (k1 (mextract 3 v63_30) fun v67_34 => (k1 (mbin E .eql 26 v58_28 v67_34) fun v70_35 => (kb v70_35 (kc (call base 24 [v55_25, v64_31] m) (fun v74_36 m => (kb v74_36 (k1 (mbin E .eql 3 v56_26 v65_32) fun v79_37 => (kb v79_37 (k1 (mbin E .eql 3 v57_27 v66_33) fun v84_38 => (kb v84_38 (kc (call base 24 [v30_11, x1] m) (fun v89_39 m => (kb v89_39 (kc (call base 16 [] m) (fun v92_40 m => (fVal v92_40 fun v => some (.ret v, m))) (fun v m => some (.pan v, m))) (fVal (.bool false) fun v => some (.ret v, m)))) (fun v m => some (.pan v, m))) (fVal (.bool false) fun v => some (.ret v, m)))) (fVal (.bool false) fun v => some (.ret v, m)))) (fVal (.bool false) fun v => some (.ret v, m)))) (fun v m => some (.pan v, m))) (fVal (.bool false) fun v => some (.ret v, m))))))))) (fun v m => some (.pan v, m))))))))) (fun v m => some (.pan v, m))))))) (fun v m => some (.pan v, m)))))))) (fun v m => some (.pan v, m))))))) (fun v m => some (.pan v, m)))))))))))))))
def keep4 : Keep := { region := fun i => ([[1, 2, 3], [1, 2, 3, 26], [6], [1, 2, 3, 7], [1, 2, 3, 7, 8, 9], [1, 2, 3, 7, 8, 9, 10, 11], [1, 2, 3, 7, 49], [6], [1, 2, 3, 7, 9, 12, 13, 14], [1, 7, 9, 11, 12, 13, 14, 15, 16, 17], [6]] : List (List Nat))[i]?, exit := fun i => ([] : List (List Nat))[i]?, ret := some [6] }
noncomputable def lp4 (call : CallF) (fuel base : Nat) : Lp := lpsel []
noncomputable def c4 : Code := Try.f4.body.getD .skip
theorem r4_eq (call : CallF) (fuel base : Nat) (x0 : Value) (x1 : Value) (x2 : Value) (m : M) : kbody E call keep4 (lp4 call fuel base) base Try.f4 [x0, x1, x2] m = r4 call fuel base x0 x1 x2 m := by
  kernel_rfl
noncomputable def rf4 : RF := fun call fuel base args m => match args with
  | [x0, x1, x2] => r4 call fuel base x0 x1 x2 m
  | _ => none
theorem r4_lk (call : CallF) (fuel base : Nat) : LoopsOk E call (lp4 call fuel base) fuel base 0 c4 = (And True (And (And True (And (And True True) True)) (And True (And True (And True (And (And True (And (And True True) True)) (And True (And True (And True True))))))))) := by kernel_rfl
theorem r4_fn : E.P.funcs[4]? = some Try.f4 := by kernel_rfl
theorem r4_body : Try.f4.body = some c4 := by kernel_rfl
theorem rf4_ok : RFok E 4 rf4 := by
  refine ⟨Try.f4, r4_fn, fun call fuel base args m r _ h => ?_⟩
  unfold rf4 at h
  split at h
  · rw [← r4_eq] at h
    exact kbody_sound (c := c4) r4_body (Eq.mpr (r4_lk call fuel base) (And.intro trivial (And.intro (And.intro trivial (And.intro (And.intro trivial trivial) trivial)) (And.intro trivial (And.intro trivial (And.intro trivial (And.intro (And.intro trivial (And.intro (And.intro trivial trivial) trivial)) (And.intro trivial (And.intro trivial (And.intro trivial trivial)))))))))) h
  · simp at h
end Go.AM
namespace Go.AM
open Go Go.Proofs
noncomputable def r16 (call : CallF) (fuel base : Nat) (m : M) : Res2 :=
  (k1 (mbuild E.P 45 []) fun v9_1 => (k1 (mbuild E.P 45 [(0, (.int .i64 1)), (2, (.int .i64 1))]) fun v10_2 => (k2 (xbuildSlice E.P m 22 2 [(0, v9_1), (1, v10_2)]) fun v11_3 m => (kc (call base 32 [v11_3, (.int .i64 2), (.int .i64 3)] m) (fun v12_4 m => (k1 (mextract 0 v12_4) fun v13_5 => (k1 (mextract 1 v12_4) fun v14_6 => (k1 (mbuild E.P 45 [(2, (.int .i64 1))]) fun v15_7 => (k2 (xbuildSlice E.P m 22 1 [(0, v15_7)]) fun v16_8 m => (k2 (xbuildSlice E.P m 33 2 [(0, (.int .i64 1)), (1, (.int .i64 1))]) fun v19_9 m => (k2 (xbuildSlice E.P m 23 1 [(0, v19_9)]) fun v20_10 m => (kc (call base 28 [v16_8, (.int .i64 1), (.int .i64 2), v20_10] m) (fun v21_11 m => (k1 (mextract 0 v21_11) fun v22_12 => (k1 (mextract 1 v21_11) fun v23_13 => (kc (call base 41 [v16_8, (.int .i64 1), (.int .i64 2)] m) (fun v26_14 m => (k1 (mextract 0 v26_14) fun v27_15 => (k1 (mextract 1 v26_14) fun v28_16 => (k1 (mbin E .eql 26 v14_6 (.int .i64 0)) fun v30_17 => (kb v30_17 (k1 (mbin E .eql 3 v13_5 (.int .i64 4)) fun v33_18 => (kb v33_18 (k1 (mbin E .eql 26 v23_13 (.int .i64 0)) fun v37_19 => (kb v37_19 (kb v22_12 (k1 (mbin E .eql 26 v28_16 (.int .i64 0)) fun v44_20 => (kb v44_20 (k2 (vcall E.P base m .len [23] [v27_15]) fun v48_21 m => (k1 (mbin E .geq 3 v48_21 (.int .i64 1)) fun v49_22 => (fVal v49_22 fun v => some (.ret v, m)))) (fVal (.bool false) fun v => some (.ret v, m)))) (fVal (.bool false) fun v => some (.ret v, m))) (fVal (.bool false) fun v => some (.ret v, m)))) (fVal (.bool false) fun v => some (.ret v, m)))) (fVal (.bool false) fun v => some (.ret v, m))))))) (fun v m => some (.pan v, m)))))) (fun v m => some (.pan v, m)))))))))) (fun v m => some (.pan v, m))))))
def keep16 : Keep := { region := fun i => ([[], [1, 2], [1, 2, 3], [1, 2, 3, 4, 5], [1, 2, 4, 5, 6, 7], [0]] : List (List Nat))[i]?, exit := fun i => ([] : List (List Nat))[i]?, ret := some [0] }
noncomputable def lp16 (call : CallF) (fuel base : Nat) : Lp := lpsel []
noncomputable def c16 : Code := Try.f16.body.getD .skip
theorem r16_eq (call : CallF) (fuel base : Nat) (m : M) : kbody E call keep16 (lp16 call fuel base) base Try.f16 [] m = r16 call fuel base  m := by
  kernel_rfl
noncomputable def rf16 : RF := fun call fuel base args m => match args with
  | [] => r16 call fuel base  m
  | _ => none
theorem r16_lk (call : CallF) (fuel base : Nat) : LoopsOk E call (lp16 call fuel base) fuel base 0 c16 = (And True (And True (And True (And True (And True (And True True)))))) := by kernel_rfl
theorem r16_fn : E.P.funcs[16]? = some Try.f16 := by kernel_rfl
theorem r16_body : Try.f16.body = some c16 := by kernel_rfl
theorem rf16_ok : RFok E 16 rf16 := by
  refine ⟨Try.f16, r16_fn, fun call fuel base args m r _ h => ?_⟩
  unfold rf16 at h
  split at h
  · rw [← r16_eq] at h
    exact kbody_sound (c := c16) r16_body (Eq.mpr (r16_lk call fuel base) (And.intro trivial (And.intro trivial (And.intro trivial (And.intro trivial (And.intro trivial (And.intro trivial trivial))))))) h
  · simp at h
end Go.AM
namespace Go.AM
open Go Go.Proofs
noncomputable def r19 (call : CallF) (fuel base : Nat) (x0 : Value) (m : M) : Res2 :=
  (k2 (xbox m x0) fun v1_1 m => (k1 (xload E.P m 32 v1_1) fun v4_2 => (kc (call base 53 [v4_2] m) (fun v5_3 m => (k1 (mun .not v5_3) fun v6_4 => (kb v6_4 (some (.ret (.tuple #[(.slice none 0 0), (.int .i64 2)]), m)) (k1 (xload E.P m 32 v1_1) fun v7_5 => (kc (call base 54 [v7_5] m) (fun v8_6 m => (some (.ret (.tuple #[v8_6, (.int .i64 0)]), m))) (fun v m => some (.pan v, m))))))) (fun v m => some (.pan v, m)))))
def keep19 : Keep := { region := fun i => ([[1], [1, 6], [2, 3], [2, 3]] : List (List Nat))[i]?, exit := fun i => ([] : List (List Nat))[i]?, ret := some [2, 3] }
noncomputable def lp19 (call : CallF) (fuel base : Nat) : Lp := lpsel []
noncomputable def c19 : Code := Try.f19.body.getD .skip
theorem r19_eq (call : CallF) (fuel base : Nat) (x0 : Value) (m : M) : kbody E call keep19 (lp19 call fuel base) base Try.f19 [x0] m = r19 call fuel base x0 m := by
  kernel_rfl
noncomputable def rf19 : RF := fun call fuel base args m => match args with
  | [x0] => r19 call fuel base x0 m
  | _ => none
theorem r19_lk (call : CallF) (fuel base : Nat) : LoopsOk E call (lp19 call fuel base) fuel base 0 c19 = (And True (And (And True (And (And True True) True)) (And True True))) := by kernel_rfl
theorem r19_fn : E.P.funcs[19]? = some Try.f19 := by kernel_rfl
theorem r19_body : Try.f19.body = some c19 := by kernel_rfl
theorem rf19_ok : RFok E 19 rf19 := by
  refine ⟨Try.f19, r19_fn, fun call fuel base args m r _ h => ?_⟩
  unfold rf19 at h
  split at h
  · rw [← r19_eq] at h
    exact kbody_sound (c := c19) r19_body (Eq.mpr (r19_lk call fuel base) (And.intro trivial (And.intro (And.intro trivial (And.intro (And.intro trivial trivial) trivial)) (And.intro trivial trivial)))) h
  · simp at h
end Go.AM
namespace Go.AM
open Go Go.Proofs
noncomputable def r20_L4 (call : CallF) (fuel base : Nat) (kx4 : Value → Value → Value → M → Res2) (n : Nat) : Value → Value → Value → Value → M → Res2 :=
  Nat.rec (motive := fun _ => Value → Value → Value → Value → M → Res2) (fun _ _ _ _ _ => none)
    (fun _ ih x1 x4 x6 x7 m =>
      (k1 (mfieldAddr E.P 32 x1 0) fun v30_13 => (k1 (xload E.P m 3 v30_13) fun v31_14 => (k1 (mbin E .lss 3 x7 v31_14) fun v32_15 => (kb v32_15 (k1 (mbin E .mul 3 (.int .i64 2) x7) fun v38_16 => (k1 (mbin E .add 3 (.int .i64 2) v38_16) fun v39_17 => (k1 (mbin E .add 3 v39_17 x6) fun v41_18 => (k1 (mbin E .add 3 (.int .i64 1) x7) fun v43_19 => (k1 (mbuild E.P 45 [(0, x6), (2, v41_18), (3, v43_19)]) fun v44_20 => (k2 (xbuildSlice E.P m 22 1 [(0, v44_20)]) fun v45_21 m => (k2 (vcall E.P base m .append [22, 22] [x4, v45_21]) fun v46_22 m => (k1 (mbin E .mul 3 (.int .i64 2) x7) fun v50_23 => (k1 (mbin E .add 3 (.int .i64 2) v50_23) fun v51_24 => (k1 (mbin E .add 3 v51_24 x6) fun v53_25 => (k1 (mfieldAddr E.P 32 x1 0) fun v54_26 => (k1 (xload E.P m 3 v54_26) fun v55_27 => (k1 (mbin E .add 3 (.int .i64 1) v55_27) fun v56_28 => (k1 (mbin E .add 3 v56_28 x7) fun v58_29 => (k1 (mbuild E.P 45 [(0, x6), (2, v53_25), (1, v58_29)]) fun v59_30 => (k2 (xbuildSlice E.P m 22 1 [(0, v59_30)]) fun v60_31 m => (k2 (vcall E.P base m .append [22, 22] [v46_22, v60_31]) fun v61_32 m => (k1 (mbin E .add 3 x7 (.int .i64 1)) fun v34_33 => (ih x1 v61_32 x6 v34_33 m))))))))))))))))))) (kx4 x1 x4 x6 m)))))) n
noncomputable def r20_L8 (call : CallF) (fuel base : Nat) (kx8 : Value → Value → Value → M → Res2) (n : Nat) : Value → Value → Value → Value → M → Res2 :=
  Nat.rec (motive := fun _ => Value → Value → Value → Value → M → Res2) (fun _ _ _ _ _ => none)
    (fun _ ih x1 x4 x8 x9 m =>
      (k1 (mbin E .lss 3 x9 (.int .i64 2)) fun v69_43 => (kb v69_43 (k1 (mfieldAddr E.P 32 x1 1) fun v72_44 => (k1 (xload E.P m 30 v72_44) fun v73_45 => (k1 (mbin E .mul 3 (.int .i64 2) x8) fun v75_46 => (k1 (mbin E .add 3 v75_46 x9) fun v77_47 => (k1 (mindexAddr E.P 30 v73_45 v77_47) fun v78_48 => (k1 (xload E.P m 69 v78_48) fun v79_49 => (k2 (xalloc E.P m 69) fun v10_50 m => (ks (xstore E.P base m 69 v10_50 v79_49) fun m => (k1 (mbin E .mul 3 (.int .i64 2) x8) fun v81_51 => (k1 (mbin E .add 3 (.int .i64 2) v81_51) fun v82_52 => (k1 (mbin E .add 3 v82_52 x9) fun v84_53 => (k1 (mfieldAddr E.P 69 v10_50 0) fun v85_54 => (k1 (xload E.P m 3 v85_54) fun v86_55 => (k1 (mbuild E.P 45 [(0, v84_53), (2, v86_55)]) fun v87_56 => (k2 (xalloc E.P m 45) fun v11_57 m => (ks (xstore E.P base m 45 v11_57 v87_56) fun m => (k1 (mfieldAddr E.P 69 v10_50 2) fun v88_58 => (k1 (xload E.P m 3 v88_58) fun v89_59 => (k1 (mbin E .lss 3 v89_59 (.int .i64 0)) fun v90_60 => (kb v90_60 (k1 (mbin E .add 3 x9 (.int .i64 1)) fun v71_61 => (ih x1 x4 x8 v71_61 m)) (k1 (mfieldAddr E.P 69 v10_50 1) fun v91_62 => (k1 (xload E.P m 4 v91_62) fun v92_63 => (kb v92_63 (k1 (mfieldAddr E.P 69 v10_50 2) fun v93_64 => (k1 (xload E.P m 3 v93_64) fun v94_65 => (k1 (mbin E .add 3 (.int .i64 1) v94_65) fun v95_66 => (k1 (mfieldAddr E.P 45 v11_57 1) fun v96_67 => (ks (xstore E.P base m 3 v96_67 v95_66) fun m => (k1 (xload E.P m 45 v11_57) fun v105_68 => (k2 (xbuildSlice E.P m 22 1 [(0, v105_68)]) fun v106_69 m => (k2 (vcall E.P base m .append [22, 22] [x4, v106_69]) fun v107_70 m => (k1 (mbin E .add 3 x9 (.int .i64 1)) fun v71_71 => (ih x1 v107_70 x8 v71_71 m)))))))))) (k1 (mfieldAddr E.P 32 x1 0) fun v97_72 => (k1 (xload E.P m 3 v97_72) fun v98_73 => (k1 (mbin E .add 3 (.int .i64 1) v98_73) fun v99_74 => (k1 (mfieldAddr E.P 69 v10_50 2) fun v100_75 => (k1 (xload E.P m 3 v100_75) fun v101_76 => (k1 (mbin E .add 3 v99_74 v101_76) fun v102_77 => (k1 (mfieldAddr E.P 45 v11_57 3) fun v103_78 => (ks (xstore E.P base m 3 v103_78 v102_77) fun m => (k1 (xload E.P m 45 v11_57) fun v105_79 => (k2 (xbuildSlice E.P m 22 1 [(0, v105_79)]) fun v106_80 m => (k2 (vcall E.P base m .append [22, 22] [x4, v106_80]) fun v107_81 m => (k1 (mbin E .add 3 x9 (.int .i64 1)) fun v71_82 => (ih x1 v107_81 x8 v71_82 m)))))))))))))))))))))))))))))))))))) (kx8 x1 x4 x8 m)))) n
noncomputable def r20_L0 (call : CallF) (fuel base : Nat) (kx0 : Value → Value → M → Res2) (n : Nat) : Value → Value → Value → M → Res2 :=
  Nat.rec (motive := fun _ => Value → Value → Value → M → Res2) (fun _ _ _ _ => none)
    (fun _ ih x1 x4 x5 m =>
      (k1 (mbin E .lss 3 x5 (.int .i64 2)) fun v16_5 => (kb v16_5 (k1 (mbuild E.P 45 [(0, x5), (2, x5)]) fun v22_6 => (k2 (xbuildSlice E.P m 22 1 [(0, v22_6)]) fun v23_7 m => (k2 (vcall E.P base m .append [22, 22] [x4, v23_7]) fun v24_8 m => (k1 (mbin E .add 3 x5 (.int .i64 1)) fun v18_9 => (ih x1 v24_8 v18_9 m))))) (kx0 x1 x4 m)))) n
noncomputable def r20_L2 (call : CallF) (fuel base : Nat) (kx2 : Value → Value → M → Res2) (n : Nat) : Value → Value → Value → M → Res2 :=
  Nat.rec (motive := fun _ => Value → Value → Value → M → Res2) (fun _ _ _ _ => none)
    (fun _ ih x1 x4 x6 m =>
      (k1 (mbin E .lss 3 x6 (.int .i64 2)) fun v26_12 => (kb v26_12 (r20_L4 call fuel base (fun y1_34 y4_35 y6_36 m => (k1 (mbin E .add 3 y6_36 (.int .i64 1)) fun v28_37 => (ih y1_34 y4_35 v28_37 m))) fuel x1 x4 x6 (.int .i64 0) m) (kx2 x1 x4 m)))) n
noncomputable def r20_L6 (call : CallF) (fuel base : Nat) (kx6 : Value → M → Res2) (n : Nat) : Value → Value → Value → M → Res2 :=
  Nat.rec (motive := fun _ => Value → Value → Value → M → Res2) (fun _ _ _ _ => none)
    (fun _ ih x1 x4 x8 m =>
      (k1 (mfieldAddr E.P 32 x1 0) fun v63_40 => (k1 (xload E.P m 3 v63_40) fun v64_41 => (k1 (mbin E .lss 3 x8 v64_41) fun v65_42 => (kb v65_42 (r20_L8 call fuel base (fun y1_83 y4_84 y8_85 m => (k1 (mbin E .add 3 y8_85 (.int .i64 1)) fun v67_86 => (ih y1_83 y4_84 v67_86 m))) fuel x1 x4 x8 (.int .i64 0) m) (kx6 x4 m)))))) n
noncomputable def r20 (call : CallF) (fuel base : Nat) (x0 : Value) (m : M) : Res2 :=
  (k2 (xbox m x0) fun v1_1 m => (k1 (xload E.P m 32 v1_1) fun v12_2 => (kc (call base 55 [v12_2] m) (fun v13_3 m => (k1 (mun .not v13_3) fun v14_4 => (kb v14_4 (some (.ret (.tuple #[(.slice none 0 0), (.int .i64 2)]), m)) (r20_L0 call fuel base (fun y1_10 y4_11 m => (r20_L2 call fuel base (fun y1_38 y4_39 m => (r20_L6 call fuel base (fun y4_87 m => (some (.ret (.tuple #[y4_87, (.int .i64 0)]), m))) fuel y1_38 y4_39 (.int .i64 0) m)) fuel y1_10 y4_11 (.int .i64 0) m)) fuel v1_1 (.slice none 0 0) (.int .i64 0) m)))) (fun v m => some (.pan v, m)))))
def keep20 : Keep := { region := fun i => ([[1], [1, 14], [2, 3], [1, 4], [1, 4, 5], [1, 4, 5, 16], [1, 4, 5], [1, 4, 5], [1, 4, 6], [1, 4, 6, 26], [1, 4, 6], [1, 4, 6, 7], [1, 4, 6, 7, 32], [1, 4, 6, 7], [1, 4, 6, 7], [1, 4, 6, 7], [1, 4, 8], [1, 4, 8, 65], [1, 4, 8], [1, 4, 8, 9], [1, 4, 8, 9, 69], [1, 4, 8, 9], [1, 4, 8, 9, 10], [1, 4, 8, 9, 10, 11], [1, 4, 8, 9, 10, 11, 90], [1, 4, 8, 9, 10, 11, 92], [1, 4, 8, 9, 11], [1, 4, 8, 9, 11], [1, 4, 8, 9], [2, 3]] : List (List Nat))[i]?, exit := fun i => ([[1, 4], [1, 4, 5], [1, 4], [1, 4, 6], [1, 4, 6], [1, 4, 6, 7], [4], [1, 4, 8], [1, 4, 8], [1, 4, 8, 9]] : List (List Nat))[i]?, ret := some [2, 3] }
noncomputable def r20_L4_R (call : CallF) (fuel base n : Nat) (vs : List Value) (m : M) (K : KT) : Res2 := match vs with
  | [x1, x4, x6, x7] => r20_L4 call fuel base (fun y1 y4 y6 m => K (.exit 4) { n := 109, l := [(1, y1), (4, y4), (6, y6)] } m) n x1 x4 x6 x7 m
  | _ => none
noncomputable def r20_L8_R (call : CallF) (fuel base n : Nat) (vs : List Value) (m : M) (K : KT) : Res2 := match vs with
  | [x1, x4, x8, x9] => r20_L8 call fuel base (fun y1 y4 y8 m => K (.exit 8) { n := 109, l := [(1, y1), (4, y4), (8, y8)] } m) n x1 x4 x8 x9 m
  | _ => none
noncomputable def r20_L0_R (call : CallF) (fuel base n : Nat) (vs : List Value) (m : M) (K : KT) : Res2 := match vs with
  | [x1, x4, x5] => r20_L0 call fuel base (fun y1 y4 m => K (.exit 0) { n := 109, l := [(1, y1), (4, y4)] } m) n x1 x4 x5 m
  | _ => none
noncomputable def r20_L2_R (call : CallF) (fuel base n : Nat) (vs : List Value) (m : M) (K : KT) : Res2 := match vs with
  | [x1, x4, x6] => r20_L2 call fuel base (fun y1 y4 m => K (.exit 2) { n := 109, l := [(1, y1), (4, y4)] } m) n x1 x4 x6 m
  | _ => none
noncomputable def r20_L6_R (call : CallF) (fuel base n : Nat) (vs : List Value) (m : M) (K : KT) : Res2 := match vs with
  | [x1, x4, x8] => r20_L6 call fuel base (fun y4 m => K (.exit 6) { n := 109, l := [(4, y4)] } m) n x1 x4 x8 m
  | _ => none
noncomputable def lp20 (call : CallF) (fuel base : Nat) : Lp := lpsel [(4, fun T m K => kslots 109 [1, 4, 6, 7] T fun vs => r20_L4_R call fuel base fuel vs m K), (8, fun T m K => kslots 109 [1, 4, 8, 9] T fun vs => r20_L8_R call fuel base fuel vs m K), (0, fun T m K => kslots 109 [1, 4, 5] T fun vs => r20_L0_R call fuel base fuel vs m K), (2, fun T m K => kslots 109 [1, 4, 6] T fun vs => r20_L2_R call fuel base fuel vs m K), (6, fun T m K => kslots 109 [1, 4, 8] T fun vs => r20_L6_R call fuel base fuel vs m K)]
noncomputable def c20 : Code := Try.f20.body.getD .skip
theorem r20_L4_lk (call : CallF) (fuel base : Nat) : LoopsOk E call (lp20 call fuel base) fuel base 4 (loopB (blockB (seqR (blockB (seqL (seqR (loopB (blockB (seqR (seqL (seqR (seqR (seqR (seqR c20)))))))))))))) = (And (And True (And True True)) (And (And True True) True)) := by kernel_rfl
theorem r20_L4_ok (call : CallF) (fuel base : Nat) : LpOk E call (lp20 call fuel base) fuel base 4 (loopB (blockB (seqR (blockB (seqL (seqR (loopB (blockB (seqR (seqL (seqR (seqR (seqR (seqR c20)))))))))))))) := by
  refine loop_ok (kp := keep20) (hb := Eq.mpr (r20_L4_lk call fuel base) (And.intro (And.intro trivial (And.intro trivial trivial)) (And.intro (And.intro trivial trivial) trivial))) 109 [1, 4, 6, 7] (fun n vs m K => r20_L4_R call fuel base n vs m K) ?_ ?_ (fun _ _ _ => rfl)
  · intro vs m K
    unfold r20_L4_R
    split <;> rfl
  · intro n vs m K hl
    match vs, hl with
    | [x1, x4, x6, x7], _ => show _ = _; kernel_rfl
theorem r20_L8_lk (call : CallF) (fuel base : Nat) : LoopsOk E call (lp20 call fuel base) fuel base 8 (loopB (blockB (seqR (blockB (seqL (seqR (loopB (blockB (seqR (seqL (seqR (seqR (seqR (seqR (seqR c20))))))))))))))) = (And (And True (And True True)) (And (And True (And True (And (And True (And True True)) (And (And True (And True True)) True)))) True)) := by kernel_rfl
theorem r20_L8_ok (call : CallF) (fuel base : Nat) : LpOk E call (lp20 call fuel base) fuel base 8 (loopB (blockB (seqR (blockB (seqL (seqR (loopB (blockB (seqR (seqL (seqR (seqR (seqR (seqR (seqR c20))))))))))))))) := by
  refine loop_ok (kp := keep20) (hb := Eq.mpr (r20_L8_lk call fuel base) (And.intro (And.intro trivial (And.intro trivial trivial)) (And.intro (And.intro trivial (And.intro trivial (And.intro (And.intro trivial (And.intro trivial trivial)) (And.intro (And.intro trivial (And.intro trivial trivial)) trivial)))) trivial))) 109 [1, 4, 8, 9] (fun n vs m K => r20_L8_R call fuel base n vs m K) ?_ ?_ (fun _ _ _ => rfl)
  · intro vs m K
    unfold r20_L8_R
    split <;> rfl
  · intro n vs m K hl
    match vs, hl with
    | [x1, x4, x8, x9], _ => show _ = _; kernel_rfl
theorem r20_L0_lk (call : CallF) (fuel base : Nat) : LoopsOk E call (lp20 call fuel base) fuel base 0 (loopB (blockB (seqR (seqL (seqR (seqR (seqR c20))))))) = (And (And True (And True True)) (And True True)) := by kernel_rfl
theorem r20_L0_ok (call : CallF) (fuel base : Nat) : LpOk E call (lp20 call fuel base) fuel base 0 (loopB (blockB (seqR (seqL (seqR (seqR (seqR c20))))))) := by
  refine loop_ok (kp := keep20) (hb := Eq.mpr (r20_L0_lk call fuel base) (And.intro (And.intro trivial (And.intro trivial trivial)) (And.intro trivial trivial))) 109 [1, 4, 5] (fun n vs m K => r20_L0_R call fuel base n vs m K) ?_ ?_ (fun _ _ _ => rfl)
  · intro vs m K
    unfold r20_L0_R
    split <;> rfl
  · intro n vs m K hl
    match vs, hl with
    | [x1, x4, x5], _ => show _ = _; kernel_rfl
theorem r20_L2_lk (call : CallF) (fuel base : Nat) : LoopsOk E call (lp20 call fuel base) fuel base 2 (loopB (blockB (seqR (seqL (seqR (seqR (seqR (seqR c20)))))))) = (And (And True (And True True)) (And (And True (LpOk E call (lp20 call fuel base) fuel base 4 (loopB (blockB (seqR (blockB (seqL (seqR (loopB (blockB (seqR (seqL (seqR (seqR (seqR (seqR c20)))))))))))))))) True)) := by kernel_rfl
theorem r20_L2_ok (call : CallF) (fuel base : Nat) : LpOk E call (lp20 call fuel base) fuel base 2 (loopB (blockB (seqR (seqL (seqR (seqR (seqR (seqR c20)))))))) := by
  refine loop_ok (kp := keep20) (hb := Eq.mpr (r20_L2_lk call fuel base) (And.intro (And.intro trivial (And.intro trivial trivial)) (And.intro (And.intro trivial (r20_L4_ok call fuel base)) trivial))) 109 [1, 4, 6] (fun n vs m K => r20_L2_R call fuel base n vs m K) ?_ ?_ (fun _ _ _ => rfl)
  · intro vs m K
    unfold r20_L2_R
    split <;> rfl
  · intro n vs m K hl
    match vs, hl with
    | [x1, x4, x6], _ => show _ = _; kernel_rfl
theorem r20_L6_lk (call : CallF) (fuel base : Nat) : LoopsOk E call (lp20 call fuel base) fuel base 6 (loopB (blockB (seqR (seqL (seqR (seqR (seqR (seqR (seqR c20))))))))) = (And (And True (And True True)) (And (And True (LpOk E call (lp20 call fuel base) fuel base 8 (loopB (blockB (seqR (blockB (seqL (seqR (loopB (blockB (seqR (seqL (seqR (seqR (seqR (seqR (seqR c20))))))))))))))))) True)) := by kernel_rfl
theorem r20_L6_ok (call : CallF) (fuel base : Nat) : LpOk E call (lp20 call fuel base) fuel base 6 (loopB (blockB (seqR (seqL (seqR (seqR (seqR (seqR (seqR c20))))))))) := by
  refine loop_ok (kp := keep20) (hb := Eq.mpr (r20_L6_lk call fuel base) (And.intro (And.intro trivial (And.intro trivial trivial)) (And.intro (And.intro trivial (r20_L8_ok call fuel base)) trivial))) 109 [1, 4, 8] (fun n vs m K => r20_L6_R call fuel base n vs m K) ?_ ?_ (fun _ _ _ => rfl)
  · intro vs m K
    unfold r20_L6_R
    split <;> rfl
  · intro n vs m K hl
    match vs, hl with
    | [x1, x4, x8], _ => show _ = _; kernel_rfl
theorem r20_eq (call : CallF) (fuel base : Nat) (x0 : Value) (m : M) : kbody E call keep20 (lp20 call fuel base) base Try.f20 [x0] m = r20 call fuel base x0 m := by
  kernel_rfl
noncomputable def rf20 : RF := fun call fuel base args m => match args with
  | [x0] => r20 call fuel base x0 m
  | _ => none
theorem r20_lk (call : CallF) (fuel base : Nat) : LoopsOk E call (lp20 call fuel base) fuel base 0 c20 = (And True (And (And True (And (And True True) True)) (And True (And (And True (LpOk E call (lp20 call fuel base) fuel base 0 (loopB (blockB (seqR (seqL (seqR (seqR (seqR c20))))))))) (And (And True (LpOk E call (lp20 call fuel base) fuel base 2 (loopB (blockB (seqR (seqL (seqR (seqR (seqR (seqR c20)))))))))) (And (And True (LpOk E call (lp20 call fuel base) fuel base 6 (loopB (blockB (seqR (seqL (seqR (seqR (seqR (seqR (seqR c20))))))))))) (And True True))))))) := by kernel_rfl
theorem r20_fn : E.P.funcs[20]? = some Try.f20 := by kernel_rfl
theorem r20_body : Try.f20.body = some c20 := by kernel_rfl
theorem rf20_ok : RFok E 20 rf20 := by
  refine ⟨Try.f20, r20_fn, fun call fuel base args m r _ h => ?_⟩
  unfold rf20 at h
  split at h
  · rw [← r20_eq] at h
    exact kbody_sound (c := c20) r20_body (Eq.mpr (r20_lk call fuel base) (And.intro trivial (And.intro (And.intro trivial (And.intro (And.intro trivial trivial) trivial)) (And.intro trivial (And.intro (And.intro trivial (r20_L0_ok call fuel base)) (And.intro (And.intro trivial (r20_L2_ok call fuel base)) (And.intro (And.intro trivial (r20_L6_ok call fuel base)) (And.intro trivial trivial)))))))) h
  · simp at h
end Go.AM
namespace Go.AM
open Go Go.Proofs
noncomputable def r21_L0 (call : CallF) (fuel base : Nat) (kr : Value → M → Res2) (kx0 : M → Res2) (n : Nat) : Value → Value → Value → M → Res2 :=
  Nat.rec (motive := fun _ => Value → Value → Value → M → Res2) (fun _ _ _ _ => none)
    (fun _ ih x0 x1 x5 m =>
      (k2 (vcall E.P base m .len [22] [x0]) fun v13_4 m => (k1 (mbin E .lss 3 x5 v13_4) fun v14_5 => (kb v14_5 (k1 (mindexAddr E.P 22 x0 x5) fun v19_6 => (k1 (xload E.P m 45 v19_6) fun v20_7 => (k1 (mindexAddr E.P 22 x1 x5) fun v23_8 => (k1 (xload E.P m 45 v23_8) fun v24_9 => (k1 (mbin E .neq 45 v20_7 v24_9) fun v25_10 => (kb v25_10 (kr (.bool false) m) (k1 (mbin E .add 3 x5 (.int .i64 1)) fun v16_11 => (ih x0 x1 v16_11 m)))))))) (kx0 m))))) n
noncomputable def r21 (call : CallF) (fuel base : Nat) (x0 : Value) (x1 : Value) (m : M) : Res2 :=
  (k2 (vcall E.P base m .len [22] [x0]) fun v7_1 m => (k2 (vcall E.P base m .len [22] [x1]) fun v9_2 m => (k1 (mbin E .neq 3 v7_1 v9_2) fun v10_3 => (kb v10_3 (fVal (.bool false) fun v => some (.ret v, m)) (r21_L0 call fuel base (fun y4_12 m => (fVal y4_12 fun v => some (.ret v, m))) (fun m => (fVal (.bool true) fun v => some (.ret v, m))) fuel x0 x1 (.int .i64 0) m)))))
def keep21 : Keep := { region := fun i => ([[0, 1], [0, 1, 10], [4], [0, 1, 5], [0, 1, 5, 14], [0, 1, 5], [0, 1, 5, 25], [4], [4]] : List (List Nat))[i]?, exit := fun i => ([[], [0, 1, 5]] : List (List Nat))[i]?, ret := some [4] }
noncomputable def r21_L0_R (call : CallF) (fuel base n : Nat) (vs : List Value) (m : M) (K : KT) : Res2 := match vs with
  | [x0, x1, x5] => r21_L0 call fuel base (fun y4 m => K .ret { n := 26, l := [(4, y4)] } m) (fun m => K (.exit 0) { n := 26, l := [] } m) n x0 x1 x5 m
  | _ => none
noncomputable def lp21 (call : CallF) (fuel base : Nat) : Lp := lpsel [(0, fun T m K => kslots 26 [0, 1, 5] T fun vs => r21_L0_R call fuel base fuel vs m K)]
noncomputable def c21 : Code := Try.f21.body.getD .skip
theorem r21_L0_lk (call : CallF) (fuel base : Nat) : LoopsOk E call (lp21 call fuel base) fuel base 0 (loopB (blockB (seqR (seqL (seqR (seqR c21)))))) = (And (And True (And True True)) (And (And True (And (And True True) True)) True)) := by kernel_rfl
theorem r21_L0_ok (call : CallF) (fuel base : Nat) : LpOk E call (lp21 call fuel base) fuel base 0 (loopB (blockB (seqR (seqL (seqR (seqR c21)))))) := by
  refine loop_ok (kp := keep21) (hb := Eq.mpr (r21_L0_lk call fuel base) (And.intro (And.intro trivial (And.intro trivial trivial)) (And.intro (And.intro trivial (And.intro (And.intro trivial trivial) trivial)) trivial))) 26 [0, 1, 5] (fun n vs m K => r21_L0_R call fuel base n vs m K) ?_ ?_ (fun _ _ _ => rfl)
  · intro vs m K
    unfold r21_L0_R
    split <;> rfl
  · intro n vs m K hl
    match vs, hl with
    | [x0, x1, x5], _ => show _ = _; kernel_rfl
theorem r21_eq (call : CallF) (fuel base : Nat) (x0 : Value) (x1 : Value) (m : M) : kbody E call keep21 (lp21 call fuel base) base Try.f21 [x0, x1] m = r21 call fuel base x0 x1 m := by
  kernel_rfl
noncomputable def rf21 : RF := fun call fuel base args m => match args with
  | [x0, x1] => r21 call fuel base x0 x1 m
  | _ => none
theorem r21_lk (call : CallF) (fuel base : Nat) : LoopsOk E call (lp21 call fuel base) fuel base 0 c21 = (And True (And (And True (And (And True True) True)) (And (And True (LpOk E call (lp21 call fuel base) fuel base 0 (loopB (blockB (seqR (seqL (seqR (seqR c21)))))))) (And True True)))) := by kernel_rfl
theorem r21_fn : E.P.funcs[21]? = some Try.f21 := by kernel_rfl
theorem r21_body : Try.f21.body = some c21 := by kernel_rfl
theorem rf21_ok : RFok E 21 rf21 := by
  refine ⟨Try.f21, r21_fn, fun call fuel base args m r _ h => ?_⟩
  unfold rf21 at h
  split at h
  · rw [← r21_eq] at h
    exact kbody_sound (c := c21) r21_body (Eq.mpr (r21_lk call fuel base) (And.intro trivial (And.intro (And.intro trivial (And.intro (And.intro trivial trivial) trivial)) (And.intro (And.intro trivial (r21_L0_ok call fuel base)) (And.intro trivial trivial))))) h
  · simp at h
end Go.AM
namespace Go.AM
open Go Go.Proofs
noncomputable def r22 (call : CallF) (fuel base : Nat) (x0 : Value) (x1 : Value) (x2 : Value) (m : M) : Res2 :=
  (k2 (xbox m x0) fun v3_1 m => (k1 (xload E.P m 32 v3_1) fun v13_2 => (kc (call base 53 [v13_2] m) (fun v14_3 m => (k1 (mun .not v14_3) fun v15_4 => (kb v15_4 (some (.ret (.tuple #[(.slice none 0 0), (.int .i64 0), (.int .i64 0), (.int .i64 2)]), m)) (kc (call base 56 [x1] m) (fun v18_5 m => (k1 (mun .not v18_5) fun v19_6 => (kb v19_6 (some (.ret (.tuple #[(.slice none 0 0), (.int .i64 0), (.int .i64 0), (.int .i64 2)]), m)) (k1 (mbin E .lss 3 x2 (.int .i64 0)) fun v23_7 => (kb v23_7 (some (.ret (.tuple #[(.slice none 0 0), (.int .i64 0), (.int .i64 0), (.int .i64 2)]), m)) (k1 (mbin E .gtr 3 x2 (.int .i64 4)) fun v27_8 => (kb v27_8 (some (.ret (.tuple #[(.slice none 0 0), (.int .i64 0), (.int .i64 0), (.int .i64 2)]), m)) (k1 (xload E.P m 32 v3_1) fun v30_9 => (kc (call base 57 [v30_9, x1, x2] m) (fun v33_10 m => (k1 (mextract 0 v33_10) fun v34_11 => (k1 (mextract 1 v33_10) fun v35_12 => (k1 (mextract 2 v33_10) fun v36_13 => (some (.ret (.tuple #[v34_11, v35_12, v36_13, (.int .i64 0)]), m)))))) (fun v m => some (.pan v, m))))))))))) (fun v m => some (.pan v, m)))))) (fun v m => some (.pan v, m)))))
def keep22 : Keep := { region := fun i => ([[1, 2, 3], [1, 2, 3, 28], [6, 7, 8, 9], [10, 11, 12], [6, 7, 8, 9]] : List (List Nat))[i]?, exit := fun i => ([] : List (List Nat))[i]?, ret := some [6, 7, 8, 9] }
noncomputable def lp22 (call : CallF) (fuel base : Nat) : Lp := lpsel []
noncomputable def c22 : Code := Try.f22.body.getD .skip
theorem r22_eq (call : CallF) (fuel base : Nat) (x0 : Value) (x1 : Value) (x2 : Value) (m : M) : kbody E call keep22 (lp22 call fuel base) base Try.f22 [x0, x1, x2] m = r22 call fuel base x0 x1 x2 m := by
  kernel_rfl
noncomputable def rf22 : RF := fun call fuel base args m => match args with
  | [x0, x1, x2] => r22 call fuel base x0 x1 x2 m
  | _ => none
theorem r22_lk (call : CallF) (fuel base : Nat) : LoopsOk E call (lp22 call fuel base) fuel base 0 c22 = (And True (And (And True (And (And True True) True)) (And True (And True True)))) := by kernel_rfl
theorem r22_fn : E.P.funcs[22]? = some Try.f22 := by kernel_rfl
theorem r22_body : Try.f22.body = some c22 := by kernel_rfl
theorem rf22_ok : RFok E 22 rf22 := by
  refine ⟨Try.f22, r22_fn, fun call fuel base args m r _ h => ?_⟩
  unfold rf22 at h
  split at h
  · rw [← r22_eq] at h
    exact kbody_sound (c := c22) r22_body (Eq.mpr (r22_lk call fuel base) (And.intro trivial (And.intro (And.intro trivial (And.intro (And.intro trivial trivial) trivial)) (And.intro trivial (And.intro trivial trivial))))) h
  · simp at h
end Go.AM
namespace Go.AM
open Go Go.Proofs
noncomputable def r23_L0 (call : CallF) (fuel base : Nat) (kr : Value → Value → Value → Value → M → Res2) (kx0 : Value → Value → Value → M → Res2) (n : Nat) : Value → Value → Value → Value → Value → M → Res2 :=
  Nat.rec (motive := fun _ => Value → Value → Value → Value → Value → M → Res2) (fun _ _ _ _ _ _ => none)
    (fun _ ih x1 x2 x3 x10 x11 m =>
      (k2 (vcall E.P base m .len [33] [x1]) fun v35_10 m => (k1 (mbin E .lss 3 x11 v35_10) fun v36_11 => (kb v36_11 (k1 (mindexAddr E.P 33 x1 x11) fun v41_12 => (k1 (xload E.P m 3 v41_12) fun v42_13 => (k1 (mbin E .lss 3 v42_13 (.int .i64 0)) fun v43_14 => (kb v43_14 (kr (.slice none 0 0) (.int .i64 0) (.int .i64 0) (.int .i64 2) m) (k1 (mindexAddr E.P 33 x1 x11) fun v47_15 => (k1 (xload E.P m 3 v47_15) fun v48_16 => (k1 (mbin E .gtr 3 v48_16 (.int .i64 1)) fun v49_17 => (kb v49_17 (kr (.slice none 0 0) (.int .i64 0) (.int .i64 0) (.int .i64 2) m) (k1 (mindexAddr E.P 33 x1 x11) fun v54_18 => (k1 (xload E.P m 3 v54_18) fun v55_19 => (k2 (xbuildSlice E.P m 33 1 [(0, v55_19)]) fun v56_20 m => (k2 (vcall E.P base m .append [33, 33] [x10, v56_20]) fun v57_21 m => (k1 (mbin E .add 3 x11 (.int .i64 1)) fun v38_22 => (ih x1 x2 x3 v57_21 v38_22 m)))))))))))))) (kx0 x2 x3 x10 m))))) n
noncomputable def r23_L2 (call : CallF) (fuel base : Nat) (kx2 : Value → Value → Value → M → Res2) (n : Nat) : Value → Value → Value → Value → Value → Value → M → Res2 :=
  Nat.rec (motive := fun _ => Value → Value → Value → Value → Value → Value → M → Res2) (fun _ _ _ _ _ _ _ => none)
    (fun _ ih x2 x3 x10 x12 x13 x14 m =>
      (k1 (mbin E .lss 3 x14 x2) fun v60_30 => (kb v60_30 (k1 (mbin E .geq 3 x13 (.int .i64 0)) fun v63_31 => (kb v63_31 (k1 (mbin E .geq 3 x12 (.int .i64 0)) fun v67_32 => (kb v67_32 (k2 (vcall E.P base m .len [33] [x10]) fun v72_33 m => (k1 (mbin E .lss 3 x12 v72_33) fun v73_34 => (kb v73_34 (k1 (mfieldAddr E.P 32 x3 1) fun v77_35 => (k1 (xload E.P m 30 v77_35) fun v78_36 => (k1 (mbin E .mul 3 (.int .i64 2) x13) fun v80_37 => (k1 (mindexAddr E.P 33 x10 x12) fun v83_38 => (k1 (xload E.P m 3 v83_38) fun v84_39 => (k1 (mbin E .add 3 v80_37 v84_39) fun v85_40 => (k1 (mindexAddr E.P 30 v78_36 v85_40) fun v86_41 => (k1 (xload E.P m 69 v86_41) fun v87_42 => (k2 (xalloc E.P m 69) fun v15_43 m => (ks (xstore E.P base m 69 v15_43 v87_42) fun m => (k1 (mfieldAddr E.P 69 v15_43 0) fun v90_44 => (k1 (xload E.P m 3 v90_44) fun v91_45 => (k1 (mindexAddr E.P 33 x10 x12) fun v92_46 => (ks (xstore E.P base m 3 v92_46 v91_45) fun m => (k1 (mfieldAddr E.P 69 v15_43 2) fun v93_47 => (k1 (xload E.P m 3 v93_47) fun v94_48 => (k1 (mbin E .geq 3 v94_48 (.int .i64 0)) fun v96_49 => (kb v96_49 (k1 (mfieldAddr E.P 69 v15_43 1) fun v98_50 => (k1 (xload E.P m 4 v98_50) fun v99_51 => (kb v99_51 (k1 (mbin E .add 3 x12 (.int .i64 1)) fun v102_52 => (k1 (mbin E .add 3 x14 (.int .i64 1)) fun v76_53 => (ih x2 x3 x10 v102_52 v94_48 v76_53 m))) (k1 (mbin E .geq 3 v94_48 (.int .i64 0)) fun v104_54 => (kb v104_54 (k1 (mbin E .sub 3 x12 (.int .i64 1)) fun v106_55 => (k1 (mbin E .add 3 x14 (.int .i64 1)) fun v76_56 => (ih x2 x3 x10 v106_55 v94_48 v76_56 m))) (k1 (mbin E .add 3 x14 (.int .i64 1)) fun v76_57 => (ih x2 x3 x10 x12 v94_48 v76_57 m))))))) (k1 (mbin E .geq 3 v94_48 (.int .i64 0)) fun v104_58 => (kb v104_58 (k1 (mbin E .sub 3 x12 (.int .i64 1)) fun v106_59 => (k1 (mbin E .add 3 x14 (.int .i64 1)) fun v76_60 => (ih x2 x3 x10 v106_59 v94_48 v76_60 m))) (k1 (mbin E .add 3 x14 (.int .i64 1)) fun v76_61 => (ih x2 x3 x10 x12 v94_48 v76_61 m)))))))))))))))))))))) (kx2 x10 x12 x13 m)))) (kx2 x10 x12 x13 m))) (kx2 x10 x12 x13 m))) (kx2 x10 x12 x13 m)))) n
noncomputable def r23 (call : CallF) (fuel base : Nat) (x0 : Value) (x1 : Value) (x2 : Value) (m : M) : Res2 :=
  (k2 (xbox m x0) fun v3_1 m => (k1 (xload E.P m 32 v3_1) fun v16_2 => (kc (call base 55 [v16_2] m) (fun v17_3 m => (k1 (mun .not v17_3) fun v18_4 => (kb v18_4 (some (.ret (.tuple #[(.slice none 0 0), (.int .i64 0), (.int .i64 0), (.int .i64 2)]), m)) (k2 (vcall E.P base m .len [33] [x1]) fun v21_5 m => (kc (call base 52 [v21_5] m) (fun v22_6 m => (k1 (mun .not v22_6) fun v23_7 => (kb v23_7 (some (.ret (.tuple #[(.slice none 0 0), (.int .i64 0), (.int .i64 0), (.int .i64 2)]), m)) (k1 (mbin E .lss 3 x2 (.int .i64 0)) fun v27_8 => (kb v27_8 (some (.ret (.tuple #[(.slice none 0 0), (.int .i64 0), (.int .i64 0), (.int .i64 2)]), m)) (k1 (mbin E .gtr 3 x2 (.int .i64 4)) fun v31_9 => (kb v31_9 (some (.ret (.tuple #[(.slice none 0 0), (.int .i64 0), (.int .i64 0), (.int .i64 2)]), m)) (r23_L0 call fuel base (fun y6_23 y7_24 y8_25 y9_26 m => (some (.ret (.tuple #[y6_23, y7_24, y8_25, y9_26]), m))) (fun y2_27 y3_28 y10_29 m => (r23_L2 call fuel base (fun y10_62 y12_63 y13_64 m => (some (.ret (.tuple #[y10_62, y12_63, y13_64, (.int .i64 0)]), m))) fuel y2_27 y3_28 y10_29 (.int .i64 0) (.int .i64 0) (.int .i64 0) m)) fuel x1 x2 v3_1 (.slice none 0 0) (.int .i64 0) m)))))))) (fun v m => some (.pan v, m))))))) (fun v m => some (.pan v, m)))))
def keep23 : Keep := { region := fun i => ([[1, 2, 3], [1, 2, 3, 32], [6, 7, 8, 9], [1, 2, 3, 10], [1, 2, 3, 10, 11], [1, 2, 3, 10, 11, 36], [1, 2, 3, 10, 11], [1, 2, 3, 10, 11, 50], [6, 7, 8, 9], [1, 2, 3, 10, 11], [2, 3, 10, 12, 13], [2, 3, 10, 12, 13, 14], [2, 3, 10, 12, 13, 14, 74], [2, 3, 10, 12, 13, 14], [2, 3, 10, 12, 14, 15], [2, 3, 10, 12, 14, 15], [2, 3, 10, 12, 13, 14, 15], [2, 3, 10, 12, 13, 14, 100], [2, 3, 10, 12, 13, 14], [2, 3, 10, 12, 13, 14, 104], [2, 3, 10, 12, 13, 14], [6, 7, 8, 9]] : List (List Nat))[i]?, exit := fun i => ([[2, 3, 10], [1, 2, 3, 10, 11], [10, 12, 13], [2, 3, 10, 12, 13, 14]] : List (List Nat))[i]?, ret := some [6, 7, 8, 9] }
noncomputable def r23_L0_R (call : CallF) (fuel base n : Nat) (vs : List Value) (m : M) (K : KT) : Res2 := match vs with
  | [x1, x2, x3, x10, x11] => r23_L0 call fuel base (fun y6 y7 y8 y9 m => K .ret { n := 110, l := [(6, y6), (7, y7), (8, y8), (9, y9)] } m) (fun y2 y3 y10 m => K (.exit 0) { n := 110, l := [(2, y2), (3, y3), (10, y10)] } m) n x1 x2 x3 x10 x11 m
  | _ => none
noncomputable def r23_L2_R (call : CallF) (fuel base n : Nat) (vs : List Value) (m : M) (K : KT) : Res2 := match vs with
  | [x2, x3, x10, x12, x13, x14] => r23_L2 call fuel base (fun y10 y12 y13 m => K (.exit 2) { n := 110, l := [(10, y10), (12, y12), (13, y13)] } m) n x2 x3 x10 x12 x13 x14 m
  | _ => none
noncomputable def lp23 (call : CallF) (fuel base : Nat) : Lp := lpsel [(0, fun T m K => kslots 110 [1, 2, 3, 10, 11] T fun vs => r23_L0_R call fuel base fuel vs m K), (2, fun T m K => kslots 110 [2, 3, 10, 12, 13, 14] T fun vs => r23_L2_R call fuel base fuel vs m K)]
noncomputable def c23 : Code := Try.f23.body.getD .skip
theorem r23_L0_lk (call : CallF) (fuel base : Nat) : LoopsOk E call (lp23 call fuel base) fuel base 0 (loopB (blockB (seqR (seqL (seqR (seqR (seqR c23))))))) = (And (And True (And True True)) (And (And (And True (And (And True True) True)) True) True)) := by kernel_rfl
theorem r23_L0_ok (call : CallF) (fuel base : Nat) : LpOk E call (lp23 call fuel base) fuel base 0 (loopB (blockB (seqR (seqL (seqR (seqR (seqR c23))))))) := by
  refine loop_ok (kp := keep23) (hb := Eq.mpr (r23_L0_lk call fuel base) (And.intro (And.intro trivial (And.intro trivial trivial)) (And.intro (And.intro (And.intro trivial (And.intro (And.intro trivial trivial) trivial)) trivial) trivial))) 110 [1, 2, 3, 10, 11] (fun n vs m K => r23_L0_R call fuel base n vs m K) ?_ ?_ (fun _ _ _ => rfl)
  · intro vs m K
    unfold r23_L0_R
    split <;> rfl
  · intro n vs m K hl
    match vs, hl with
    | [x1, x2, x3, x10, x11], _ => show _ = _; kernel_rfl
theorem r23_L2_lk (call : CallF) (fuel base : Nat) : LoopsOk E call (lp23 call fuel base) fuel base 2 (loopB (blockB (seqR (seqL (seqR (seqR (seqR (seqR (seqR c23))))))))) = (And (And True (And True True)) (And (And True (And True (And True (And True (And True (And True (And True True))))))) True)) := by kernel_rfl
theorem r23_L2_ok (call : CallF) (fuel base : Nat) : LpOk E call (lp23 call fuel base) fuel base 2 (loopB (blockB (seqR (seqL (seqR (seqR (seqR (seqR (seqR c23))))))))) := by
  refine loop_ok (kp := keep23) (hb := Eq.mpr (r23_L2_lk call fuel base) (And.intro (And.intro trivial (And.intro trivial trivial)) (And.intro (And.intro trivial (And.intro trivial (And.intro trivial (And.intro trivial (And.intro trivial (And.intro trivial (And.intro trivial trivial))))))) trivial))) 110 [2, 3, 10, 12, 13, 14] (fun n vs m K => r23_L2_R call fuel base n vs m K) ?_ ?_ (fun _ _ _ => rfl)
  · intro vs m K
    unfold r23_L2_R
    split <;> rfl
  · intro n vs m K hl
    match vs, hl with
    | [x2, x3, x10, x12, x13, x14], _ => show _ = _; kernel_rfl
theorem r23_eq (call : CallF) (fuel base : Nat) (x0 : Value) (x1 : Value) (x2 : Value) (m : M) : kbody E call keep23 (lp23 call fuel base) base Try.f23 [x0, x1, x2] m = r23 call fuel base x0 x1 x2 m := by
  kernel_rfl
noncomputable def rf23 : RF := fun call fuel base args m => match args with
  | [x0, x1, x2] => r23 call fuel base x0 x1 x2 m
  | _ => none
theorem r23_lk (call : CallF) (fuel base : Nat) : LoopsOk E call (lp23 call fuel base) fuel base 0 c23 = (And True (And (And True (And (And True True) True)) (And True (And (And True (LpOk E call (lp23 call fuel base) fuel base 0 (loopB (blockB (seqR (seqL (seqR (seqR (seqR c23))))))))) (And True (And (And True (LpOk E call (lp23 call fuel base) fuel base 2 (loopB (blockB (seqR (seqL (seqR (seqR (seqR (seqR (seqR c23))))))))))) (And True True))))))) := by kernel_rfl
theorem r23_fn : E.P.funcs[23]? = some Try.f23 := by kernel_rfl
theorem r23_body : Try.f23.body = some c23 := by kernel_rfl
theorem rf23_ok : RFok E 23 rf23 := by
  refine ⟨Try.f23, r23_fn, fun call fuel base args m r _ h => ?_⟩
  unfold rf23 at h
  split at h
  · rw [← r23_eq] at h
    exact kbody_sound (c := c23) r23_body (Eq.mpr (r23_lk call fuel base) (And.intro trivial (And.intro (And.intro trivial (And.intro (And.intro trivial trivial) trivial)) (And.intro trivial (And.intro (And.intro trivial (r23_L0_ok call fuel base)) (And.intro trivial (And.intro (And.intro trivial (r23_L2_ok call fuel base)) (And.intro trivial trivial)))))))) h
  · simp at h
end Go.AM
namespace Go.AM
open Go Go.Proofs
noncomputable def r24_L0 (call : CallF) (fuel base : Nat) (kr : Value → M → Res2) (kx0 : M → Res2) (n : Nat) : Value → Value → Value → M → Res2 :=
  Nat.rec (motive := fun _ => Value → Value → Value → M → Res2) (fun _ _ _ _ => none)
    (fun _ ih x0 x1 x5 m =>
      (k2 (vcall E.P base m .len [33] [x0]) fun v13_4 m => (k1 (mbin E .lss 3 x5 v13_4) fun v14_5 => (kb v14_5 (k1 (mindexAddr E.P 33 x0 x5) fun v19_6 => (k1 (xload E.P m 3 v19_6) fun v20_7 => (k1 (mindexAddr E.P 33 x1 x5) fun v23_8 => (k1 (xload E.P m 3 v23_8) fun v24_9 => (k1 (mbin E .neq 3 v20_7 v24_9) fun v25_10 => (kb v25_10 (kr (.bool false) m) (k1 (mbin E .add 3 x5 (.int .i64 1)) fun v16_11 => (ih x0 x1 v16_11 m)))))))) (kx0 m))))) n
noncomputable def r24 (call : CallF) (fuel base : Nat) (x0 : Value) (x1 : Value) (m : M) : Res2 :=
  (k2 (vcall E.P base m .len [33] [x0]) fun v7_1 m => (k2 (vcall E.P base m .len [33] [x1]) fun v9_2 m => (k1 (mbin E .neq 3 v7_1 v9_2) fun v10_3 => (kb v10_3 (fVal (.bool false) fun v => some (.ret v, m)) (r24_L0 call fuel base (fun y4_12 m => (fVal y4_12 fun v => some (.ret v, m))) (fun m => (fVal (.bool true) fun v => some (.ret v, m))) fuel x0 x1 (.int .i64 0) m)))))
def keep24 : Keep := { region := fun i => ([[0, 1], [0, 1, 10], [4], [0, 1, 5], [0, 1, 5, 14], [0, 1, 5], [0, 1, 5, 25], [4], [4]] : List (List Nat))[i]?, exit := fun i => ([[], [0, 1, 5]] : List (List Nat))[i]?, ret := some [4] }
noncomputable def r24_L0_R (call : CallF) (fuel base n : Nat) (vs : List Value) (m : M) (K : KT) : Res2 := match vs with
  | [x0, x1, x5] => r24_L0 call fuel base (fun y4 m => K .ret { n := 26, l := [(4, y4)] } m) (fun m => K (.exit 0) { n := 26, l := [] } m) n x0 x1 x5 m
  | _ => none
noncomputable def lp24 (call : CallF) (fuel base : Nat) : Lp := lpsel [(0, fun T m K => kslots 26 [0, 1, 5] T fun vs => r24_L0_R call fuel base fuel vs m K)]
noncomputable def c24 : Code := Try.f24.body.getD .skip
theorem r24_L0_lk (call : CallF) (fuel base : Nat) : LoopsOk E call (lp24 call fuel base) fuel base 0 (loopB (blockB (seqR (seqL (seqR (seqR c24)))))) = (And (And True (And True True)) (And (And True (And (And True True) True)) True)) := by kernel_rfl
theorem r24_L0_ok (call : CallF) (fuel base : Nat) : LpOk E call (lp24 call fuel base) fuel base 0 (loopB (blockB (seqR (seqL (seqR (seqR c24)))))) := by
  refine loop_ok (kp := keep24) (hb := Eq.mpr (r24_L0_lk call fuel base) (And.intro (And.intro trivial (And.intro trivial trivial)) (And.intro (And.intro trivial (And.intro (And.intro trivial trivial) trivial)) trivial))) 26 [0, 1, 5] (fun n vs m K => r24_L0_R call fuel base n vs m K) ?_ ?_ (fun _ _ _ => rfl)
  · intro vs m K
    unfold r24_L0_R
    split <;> rfl
  · intro n vs m K hl
    match vs, hl with
    | [x0, x1, x5], _ => show _ = _; kernel_rfl
theorem r24_eq (call : CallF) (fuel base : Nat) (x0 : Value) (x1 : Value) (m : M) : kbody E call keep24 (lp24 call fuel base) base Try.f24 [x0, x1] m = r24 call fuel base x0 x1 m := by
  kernel_rfl
noncomputable def rf24 : RF := fun call fuel base args m => match args with
  | [x0, x1] => r24 call fuel base x0 x1 m
  | _ => none
theorem r24_lk (call : CallF) (fuel base : Nat) : LoopsOk E call (lp24 call fuel base) fuel base 0 c24 = (And True (And (And True (And (And True True) True)) (And (And True (LpOk E call (lp24 call fuel base) fuel base 0 (loopB (blockB (seqR (seqL (seqR (seqR c24)))))))) (And True True)))) := by kernel_rfl
theorem r24_fn : E.P.funcs[24]? = some Try.f24 := by kernel_rfl
theorem r24_body : Try.f24.body = some c24 := by kernel_rfl
theorem rf24_ok : RFok E 24 rf24 := by
  refine ⟨Try.f24, r24_fn, fun call fuel base args m r _ h => ?_⟩
  unfold rf24 at h
  split at h
  · rw [← r24_eq] at h
    exact kbody_sound (c := c24) r24_body (Eq.mpr (r24_lk call fuel base) (And.intro trivial (And.intro (And.intro trivial (And.intro (And.intro trivial trivial) trivial)) (And.intro (And.intro trivial (r24_L0_ok call fuel base)) (And.intro trivial trivial))))) h
  · simp at h
end Go.AM
namespace Go.AM
open Go Go.Proofs
noncomputable def r28 (call : CallF) (fuel base : Nat) (x0 : Value) (x1 : Value) (x2 : Value) (x3 : Value) (m : M) : Res2 :=
  (kc (call base 59 [x0, x1, x2] m) (fun v13_1 m => (k1 (mun .not v13_1) fun v14_2 => (kb v14_2 (some (.ret (.tuple #[(.bool false), (.int .i64 2)]), m)) (k2 (vcall E.P base m .len [23] [x3]) fun v16_3 m => (k1 (mbin E .gtr 3 v16_3 (.int .i64 65535)) fun v17_4 => (kb v17_4 (some (.ret (.tuple #[(.bool false), (.int .i64 3)]), m)) (kc (call base 60 [x3, x1, x2] m) (fun v21_5 m => (kb v21_5 (kc (call base 61 [x0, x1] m) (fun v25_6 m => (kc (call base 62 [v25_6, x3] m) (fun v27_7 m => (some (.ret (.tuple #[v27_7, (.int .i64 0)]), m))) (fun v m => some (.pan v, m)))) (fun v m => some (.pan v, m))) (some (.ret (.tuple #[(.bool false), (.int .i64 0)]), m)))) (fun v m => some (.pan v, m))))))))) (fun v m => some (.pan v, m)))
def keep28 : Keep := { region := fun i => ([[0, 1, 2, 3], [0, 1, 2, 3, 14], [8, 9], [0, 1, 2, 3, 17], [8, 9], [8, 9]] : List (List Nat))[i]?, exit := fun i => ([] : List (List Nat))[i]?, ret := some [8, 9] }
noncomputable def lp28 (call : CallF) (fuel base : Nat) : Lp := lpsel []
noncomputable def c28 : Code := Try.f28.body.getD .skip
theorem r28_eq (call : CallF) (fuel base : Nat) (x0 : Value) (x1 : Value) (x2 : Value) (x3 : Value) (m : M) : kbody E call keep28 (lp28 call fuel base) base Try.f28 [x0, x1, x2, x3] m = r28 call fuel base x0 x1 x2 x3 m := by
  kernel_rfl
noncomputable def rf28 : RF := fun call fuel base args m => match args with
  | [x0, x1, x2, x3] => r28 call fuel base x0 x1 x2 x3 m
  | _ => none
theorem r28_lk (call : CallF) (fuel base : Nat) : LoopsOk E call (lp28 call fuel base) fuel base 0 c28 = (And True (And (And True (And (And True True) True)) (And (And True (And (And True True) True)) (And True True)))) := by kernel_rfl
theorem r28_fn : E.P.funcs[28]? = some Try.f28 := by kernel_rfl
theorem r28_body : Try.f28.body = some c28 := by kernel_rfl
theorem rf28_ok : RFok E 28 rf28 := by
  refine ⟨Try.f28, r28_fn, fun call fuel base args m r _ h => ?_⟩
  unfold rf28 at h
  split at h
  · rw [← r28_eq] at h
    exact kbody_sound (c := c28) r28_body (Eq.mpr (r28_lk call fuel base) (And.intro trivial (And.intro (And.intro trivial (And.intro (And.intro trivial trivial) trivial)) (And.intro (And.intro trivial (And.intro (And.intro trivial trivial) trivial)) (And.intro trivial trivial))))) h
  · simp at h
end Go.AM
namespace Go.AM
open Go Go.Proofs
noncomputable def r32 (call : CallF) (fuel base : Nat) (x0 : Value) (x1 : Value) (x2 : Value) (m : M) : Res2 :=
  (kc (call base 59 [x0, x1, x2] m) (fun v11_1 m => (k1 (mun .not v11_1) fun v12_2 => (kb v12_2 (some (.ret (.tuple #[(.int .i64 0), (.int .i64 2)]), m)) (kc (call base 61 [x0, x1] m) (fun v15_3 m => (kc (call base 69 [v15_3, x2] m) (fun v17_4 m => (kc (call base 68 [v17_4] m) (fun v18_5 m => (k1 (mextract 0 v18_5) fun v19_6 => (k1 (mextract 1 v18_5) fun v20_7 => (some (.ret (.tuple #[v19_6, v20_7]), m))))) (fun v m => some (.pan v, m)))) (fun v m => some (.pan v, m)))) (fun v m => some (.pan v, m)))))) (fun v m => some (.pan v, m)))
def keep32 : Keep := { region := fun i => ([[0, 1, 2], [0, 1, 2, 12], [6, 7], [6, 7]] : List (List Nat))[i]?, exit := fun i => ([] : List (List Nat))[i]?, ret := some [6, 7] }
noncomputable def lp32 (call : CallF) (fuel base : Nat) : Lp := lpsel []
noncomputable def c32 : Code := Try.f32.body.getD .skip
theorem r32_eq (call : CallF) (fuel base : Nat) (x0 : Value) (x1 : Value) (x2 : Value) (m : M) : kbody E call keep32 (lp32 call fuel base) base Try.f32 [x0, x1, x2] m = r32 call fuel base x0 x1 x2 m := by
  kernel_rfl
noncomputable def rf32 : RF := fun call fuel base args m => match args with
  | [x0, x1, x2] => r32 call fuel base x0 x1 x2 m
  | _ => none
theorem r32_lk (call : CallF) (fuel base : Nat) : LoopsOk E call (lp32 call fuel base) fuel base 0 c32 = (And True (And (And True (And (And True True) True)) (And True True))) := by kernel_rfl
theorem r32_fn : E.P.funcs[32]? = some Try.f32 := by kernel_rfl
theorem r32_body : Try.f32.body = some c32 := by kernel_rfl
theorem rf32_ok : RFok E 32 rf32 := by
  refine ⟨Try.f32, r32_fn, fun call fuel base args m r _ h => ?_⟩
  unfold rf32 at h
  split at h
  · rw [← r32_eq] at h
    exact kbody_sound (c := c32) r32_body (Eq.mpr (r32_lk call fuel base) (And.intro trivial (And.intro (And.intro trivial (And.intro (And.intro trivial trivial) trivial)) (And.intro trivial trivial)))) h
  · simp at h
end Go.AM
namespace Go.AM
open Go Go.Proofs
noncomputable def r41 (call : CallF) (fuel base : Nat) (x0 : Value) (x1 : Value) (x2 : Value) (m : M) : Res2 :=
  (kc (call base 59 [x0, x1, x2] m) (fun v12_1 m => (k1 (mun .not v12_1) fun v13_2 => (kb v13_2 (some (.ret (.tuple #[(.slice none 0 0), (.int .i64 2)]), m)) (kc (call base 61 [x0, x1] m) (fun v16_3 m => (k2 (xalloc E.P m 76) fun v8_4 m => (ks (xstore E.P base m 76 v8_4 v16_3) fun m => (k1 (xload E.P m 76 v8_4) fun v17_5 => (kc (call base 69 [v17_5, x2] m) (fun v19_6 m => (k1 (mbin E .gtr 3 v19_6 (.int .i64 0)) fun v20_7 => (kb v20_7 (some (.ret (.tuple #[(.slice none 0 0), (.int .i64 10)]), m)) (k1 (xload E.P m 76 v8_4) fun v21_8 => (kc (call base 74 [v21_8, x2] m) (fun v23_9 m => (some (.ret (.tuple #[v23_9, (.int .i64 0)]), m))) (fun v m => some (.pan v, m))))))) (fun v m => some (.pan v, m))))))) (fun v m => some (.pan v, m)))))) (fun v m => some (.pan v, m)))
def keep41 : Keep := { region := fun i => ([[0, 1, 2], [0, 1, 2, 13], [6, 7], [2, 8], [2, 8, 20], [6, 7], [6, 7]] : List (List Nat))[i]?, exit := fun i => ([] : List (List Nat))[i]?, ret := some [6, 7] }
noncomputable def lp41 (call : CallF) (fuel base : Nat) : Lp := lpsel []
noncomputable def c41 : Code := Try.f41.body.getD .skip
theorem r41_eq (call : CallF) (fuel base : Nat) (x0 : Value) (x1 : Value) (x2 : Value) (m : M) : kbody E call keep41 (lp41 call fuel base) base Try.f41 [x0, x1, x2] m = r41 call fuel base x0 x1 x2 m := by
  kernel_rfl
noncomputable def rf41 : RF := fun call fuel base args m => match args with
  | [x0, x1, x2] => r41 call fuel base x0 x1 x2 m
  | _ => none
theorem r41_lk (call : CallF) (fuel base : Nat) : LoopsOk E call (lp41 call fuel base) fuel base 0 c41 = (And True (And (And True (And (And True True) True)) (And True (And (And True (And (And True True) True)) (And True True))))) := by kernel_rfl
theorem r41_fn : E.P.funcs[41]? = some Try.f41 := by kernel_rfl
theorem r41_body : Try.f41.body = some c41 := by kernel_rfl
theorem rf41_ok : RFok E 41 rf41 := by
  refine ⟨Try.f41, r41_fn, fun call fuel base args m r _ h => ?_⟩
  unfold rf41 at h
  split at h
  · rw [← r41_eq] at h
    exact kbody_sound (c := c41) r41_body (Eq.mpr (r41_lk call fuel base) (And.intro trivial (And.intro (And.intro trivial (And.intro (And.intro trivial trivial) trivial)) (And.intro trivial (And.intro (And.intro trivial (And.intro (And.intro trivial trivial) trivial)) (And.intro trivial trivial)))))) h
  · simp at h
end Go.AM
namespace Go.AM
open Go Go.Proofs
noncomputable def r48_L0 (call : CallF) (fuel base : Nat) (kr : Value → M → Res2) (kx0 : M → Res2) (n : Nat) : Value → Value → Value → Value → M → Res2 :=
  Nat.rec (motive := fun _ => Value → Value → Value → Value → M → Res2) (fun _ _ _ _ _ => none)
    (fun _ ih x0 x13 x14 x15 m =>
      (k1 (mbin E .lss 3 x15 x14) fun v16_6 => (kb v16_6 (k1 (mindexAddr E.P 22 x13 x15) fun v18_7 => (k1 (xload E.P m 45 v18_7) fun v19_8 => (k2 (xalloc E.P m 45) fun v4_9 m => (ks (xstore E.P base m 45 v4_9 v19_8) fun m => (k1 (mfieldAddr E.P 45 v4_9 0) fun v20_10 => (k1 (xload E.P m 3 v20_10) fun v21_11 => (k1 (mfieldAddr E.P 45 v4_9 1) fun v22_12 => (k1 (xload E.P m 3 v22_12) fun v23_13 => (k1 (mfieldAddr E.P 45 v4_9 2) fun v24_14 => (k1 (xload E.P m 3 v24_14) fun v25_15 => (k1 (mfieldAddr E.P 45 v4_9 3) fun v26_16 => (k1 (xload E.P m 3 v26_16) fun v27_17 => (k2 (xbuildSlice E.P m 33 4 [(0, v21_11), (1, v23_13), (2, v25_15), (3, v27_17)]) fun v28_18 m => (kc (kB m (call m.length 81 [v28_18, (.func (.func 82) #[] #[])] m)) (fun v29_19 m => (kb v29_19 (kr (.bool false) m) (k1 (mslice E.P m 22 x0 none (some x15) none) fun v33_20 => (k1 (xload E.P m 45 v4_9) fun v34_21 => (kc (kB m (call m.length 84 [v33_20, v34_21] m)) (fun v35_22 m => (kb v35_22 (kr (.bool false) m) (k1 (mbin E .add 3 x15 (.int .i64 1)) fun v37_23 => (ih x0 x13 x14 v37_23 m)))) (fun _ _ => none)))))) (fun _ _ => none))))))))))))))) (kx0 m)))) n
noncomputable def r48 (call : CallF) (fuel base : Nat) (x0 : Value) (m : M) : Res2 :=
  (k2 (vcall E.P base m .len [22] [x0]) fun v6_1 m => (k1 (mbin E .lss 3 v6_1 (.int .i64 1)) fun v7_2 => (kb v7_2 (fVal (.bool false) fun v => some (.ret v, m)) (k2 (vcall E.P base m .len [22] [x0]) fun v10_3 m => (k1 (mbin E .gtr 3 v10_3 (.int .i64 16)) fun v11_4 => (kb v11_4 (fVal (.bool false) fun v => some (.ret v, m)) (k2 (vcall E.P base m .len [22] [x0]) fun v14_5 m => (r48_L0 call fuel base (fun y2_24 m => (fVal y2_24 fun v => some (.ret v, m))) (fun m => (fVal (.bool true) fun v => some (.ret v, m))) fuel x0 x0 v14_5 (.int .i64 0) m))))))))
def keep48 : Keep := { region := fun i => ([[0], [0, 12], [2], [0, 13, 14, 15], [0, 13, 14, 15, 16], [0, 3, 4, 13, 14, 15], [0, 13, 14, 15, 36], [2], [0, 13, 14, 15], [2]] : List (List Nat))[i]?, exit := fun i => ([[], [0, 13, 14, 15]] : List (List Nat))[i]?, ret := some [2] }
noncomputable def r48_L0_R (call : CallF) (fuel base n : Nat) (vs : List Value) (m : M) (K : KT) : Res2 := match vs with
  | [x0, x13, x14, x15] => r48_L0 call fuel base (fun y2 m => K .ret { n := 38, l := [(2, y2)] } m) (fun m => K (.exit 0) { n := 38, l := [] } m) n x0 x13 x14 x15 m
  | _ => none
noncomputable def lp48 (call : CallF) (fuel base : Nat) : Lp := lpsel [(0, fun T m K => kslots 38 [0, 13, 14, 15] T fun vs => r48_L0_R call fuel base fuel vs m K)]
noncomputable def c48 : Code := Try.f48.body.getD .skip
theorem r48_L0_lk (call : CallF) (fuel base : Nat) : LoopsOk E call (lp48 call fuel base) fuel base 0 (loopB (blockB (seqR (seqL (seqR (seqR c48)))))) = (And True (And (And True True) (And (And True (And True (And (And True True) True))) True))) := by kernel_rfl
theorem r48_L0_ok (call : CallF) (fuel base : Nat) : LpOk E call (lp48 call fuel base) fuel base 0 (loopB (blockB (seqR (seqL (seqR (seqR c48)))))) := by
  refine loop_ok (kp := keep48) (hb := Eq.mpr (r48_L0_lk call fuel base) (And.intro trivial (And.intro (And.intro trivial trivial) (And.intro (And.intro trivial (And.intro trivial (And.intro (And.intro trivial trivial) trivial))) trivial)))) 38 [0, 13, 14, 15] (fun n vs m K => r48_L0_R call fuel base n vs m K) ?_ ?_ (fun _ _ _ => rfl)
  · intro vs m K
    unfold r48_L0_R
    split <;> rfl
  · intro n vs m K hl
    match vs, hl with
    | [x0, x13, x14, x15], _ => show _ = _; kernel_rfl
theorem r48_eq (call : CallF) (fuel base : Nat) (x0 : Value) (m : M) : kbody E call keep48 (lp48 call fuel base) base Try.f48 [x0] m = r48 call fuel base x0 m := by
  kernel_rfl
noncomputable def rf48 : RF := fun call fuel base args m => match args with
  | [x0] => r48 call fuel base x0 m
  | _ => none
theorem r48_lk (call : CallF) (fuel base : Nat) : LoopsOk E call (lp48 call fuel base) fuel base 0 c48 = (And True (And (And True (And (And True True) True)) (And (And True (LpOk E call (lp48 call fuel base) fuel base 0 (loopB (blockB (seqR (seqL (seqR (seqR c48)))))))) (And True True)))) := by kernel_rfl
theorem r48_fn : E.P.funcs[48]? = some Try.f48 := by kernel_rfl
theorem r48_body : Try.f48.body = some c48 := by kernel_rfl
theorem rf48_ok : RFok E 48 rf48 := by
  refine ⟨Try.f48, r48_fn, fun call fuel base args m r _ h => ?_⟩
  unfold rf48 at h
  split at h
  · rw [← r48_eq] at h
    exact kbody_sound (c := c48) r48_body (Eq.mpr (r48_lk call fuel base) (And.intro trivial (And.intro (And.intro trivial (And.intro (And.intro trivial trivial) trivial)) (And.intro (And.intro trivial (r48_L0_ok call fuel base)) (And.intro trivial trivial))))) h
  · simp at h
end Go.AM
namespace Go.AM
open Go Go.Proofs
noncomputable def r52 (call : CallF) (fuel base : Nat) (x0 : Value) (m : M) : Res2 :=
  (k1 (mbin E .geq 3 x0 (.int .i64 1)) fun v4_1 => (kb v4_1 (k1 (mbin E .leq 3 x0 (.int .i64 4)) fun v7_2 => (fVal v7_2 fun v => some (.ret v, m))) (fVal (.bool false) fun v => some (.ret v, m))))
def keep52 : Keep := { region := fun i => ([[0], [2]] : List (List Nat))[i]?, exit := fun i => ([] : List (List Nat))[i]?, ret := some [2] }
noncomputable def lp52 (call : CallF) (fuel base : Nat) : Lp := lpsel []
noncomputable def c52 : Code := Try.f52.body.getD .skip
theorem r52_eq (call : CallF) (fuel base : Nat) (x0 : Value) (m : M) : kbody E call keep52 (lp52 call fuel base) base Try.f52 [x0] m = r52 call fuel base x0 m := by
  kernel_rfl
noncomputable def rf52 : RF := fun call fuel base args m => match args with
  | [x0] => r52 call fuel base x0 m
  | _ => none
theorem r52_lk (call : CallF) (fuel base : Nat) : LoopsOk E call (lp52 call fuel base) fuel base 0 c52 = (And True (And True True)) := by kernel_rfl
theorem r52_fn : E.P.funcs[52]? = some Try.f52 := by kernel_rfl
theorem r52_body : Try.f52.body = some c52 := by kernel_rfl
theorem rf52_ok : RFok E 52 rf52 := by
  refine ⟨Try.f52, r52_fn, fun call fuel base args m r _ h => ?_⟩
  unfold rf52 at h
  split at h
  · rw [← r52_eq] at h
    exact kbody_sound (c := c52) r52_body (Eq.mpr (r52_lk call fuel base) (And.intro trivial (And.intro trivial trivial))) h
  · simp at h
end Go.AM
namespace Go.AM
open Go Go.Proofs
noncomputable def r53_L0 (call : CallF) (fuel base : Nat) (kp : Value → M → Res2) (kr : Value → M → Res2) (kx0 : M → Res2) (n : Nat) : Value → Value → Value → Value → M → Res2 :=
  Nat.rec (motive := fun _ => Value → Value → Value → Value → M → Res2) (fun _ _ _ _ _ => none)
    (fun _ ih x1 x23 x24 x25 m =>
      (k1 (mbin E .lss 3 x25 x24) fun v26_18 => (kb v26_18 (k1 (mindexAddr E.P 30 x23 x25) fun v27_19 => (k1 (xload E.P m 69 v27_19) fun v28_20 => (k2 (xalloc E.P m 69) fun v4_21 m => (ks (xstore E.P base m 69 v4_21 v28_20) fun m => (k1 (mfieldAddr E.P 69 v4_21 0) fun v29_22 => (k1 (xload E.P m 3 v29_22) fun v30_23 => (kc (call base 85 [v30_23] m) (fun v31_24 m => (kb v31_24 (kr (.bool false) m) (k1 (mfieldAddr E.P 69 v4_21 2) fun v33_25 => (k1 (xload E.P m 3 v33_25) fun v34_26 => (k1 (mbin E .lss 3 v34_26 (.int .i64 (-1))) fun v35_27 => (kb v35_27 (kr (.bool false) m) (k1 (mfieldAddr E.P 69 v4_21 2) fun v38_28 => (k1 (xload E.P m 3 v38_28) fun v39_29 => (k1 (mfieldAddr E.P 32 x1 0) fun v40_30 => (k1 (xload E.P m 3 v40_30) fun v41_31 => (k1 (mbin E .geq 3 v39_29 v41_31) fun v42_32 => (kb v42_32 (kr (.bool false) m) (k1 (mbin E .add 3 x25 (.int .i64 1)) fun v44_33 => (ih x1 x23 x24 v44_33 m)))))))))))))) (fun v m => kp v m)))))))) (kx0 m)))) n
noncomputable def r53 (call : CallF) (fuel base : Nat) (x0 : Value) (m : M) : Res2 :=
  (k2 (xbox m x0) fun v1_1 m => (k1 (mfieldAddr E.P 32 v1_1 0) fun v5_2 => (k1 (xload E.P m 3 v5_2) fun v6_3 => (k1 (mbin E .lss 3 v6_3 (.int .i64 1)) fun v7_4 => (kb v7_4 (fVal (.bool false) fun v => some (.ret v, m)) (k1 (mfieldAddr E.P 32 v1_1 0) fun v9_5 => (k1 (xload E.P m 3 v9_5) fun v10_6 => (k1 (mbin E .gtr 3 v10_6 (.int .i64 2)) fun v11_7 => (kb v11_7 (fVal (.bool false) fun v => some (.ret v, m)) (k1 (mfieldAddr E.P 32 v1_1 1) fun v14_8 => (k1 (xload E.P m 30 v14_8) fun v15_9 => (k2 (vcall E.P base m .len [30] [v15_9]) fun v16_10 m => (k1 (mfieldAddr E.P 32 v1_1 0) fun v17_11 => (k1 (xload E.P m 3 v17_11) fun v18_12 => (k1 (mbin E .mul 3 (.int .i64 2) v18_12) fun v19_13 => (k1 (mbin E .neq 3 v16_10 v19_13) fun v20_14 => (kb v20_14 (fVal (.bool false) fun v => some (.ret v, m)) (k1 (mfieldAddr E.P 32 v1_1 1) fun v22_15 => (k1 (xload E.P m 30 v22_15) fun v23_16 => (k2 (vcall E.P base m .len [30] [v23_16]) fun v24_17 m => (r53_L0 call fuel base (fun v m => some (.pan v, m)) (fun y2_34 m => (fVal y2_34 fun v => some (.ret v, m))) (fun m => (fVal (.bool true) fun v => some (.ret v, m))) fuel v1_1 v23_16 v24_17 (.int .i64 0) m)))))))))))))))))))))
def keep53 : Keep := { region := fun i => ([[1], [1, 21], [2], [1, 23, 24, 25], [1, 23, 24, 25, 26], [1, 4, 23, 24, 25], [1, 23, 24, 25, 43], [2], [1, 23, 24, 25], [2]] : List (List Nat))[i]?, exit := fun i => ([[], [1, 23, 24, 25]] : List (List Nat))[i]?, ret := some [2] }
noncomputable def r53_L0_R (call : CallF) (fuel base n : Nat) (vs : List Value) (m : M) (K : KT) : Res2 := match vs with
  | [x1, x23, x24, x25] => r53_L0 call fuel base (fun v m => K (.pan v) { n := 45, l := [] } m) (fun y2 m => K .ret { n := 45, l := [(2, y2)] } m) (fun m => K (.exit 0) { n := 45, l := [] } m) n x1 x23 x24 x25 m
  | _ => none
noncomputable def lp53 (call : CallF) (fuel base : Nat) : Lp := lpsel [(0, fun T m K => kslots 45 [1, 23, 24, 25] T fun vs => r53_L0_R call fuel base fuel vs m K)]
noncomputable def c53 : Code := Try.f53.body.getD .skip
theorem r53_L0_lk (call : CallF) (fuel base : Nat) : LoopsOk E call (lp53 call fuel base) fuel base 0 (loopB (blockB (seqR (seqL (seqR (seqR c53)))))) = (And True (And (And True True) (And (And True (And True (And (And True True) True))) True))) := by kernel_rfl
theorem r53_L0_ok (call : CallF) (fuel base : Nat) : LpOk E call (lp53 call fuel base) fuel base 0 (loopB (blockB (seqR (seqL (seqR (seqR c53)))))) := by
  refine loop_ok (kp := keep53) (hb := Eq.mpr (r53_L0_lk call fuel base) (And.intro trivial (And.intro (And.intro trivial trivial) (And.intro (And.intro trivial (And.intro trivial (And.intro (And.intro trivial trivial) trivial))) trivial)))) 45 [1, 23, 24, 25] (fun n vs m K => r53_L0_R call fuel base n vs m K) ?_ ?_ (fun _ _ _ => rfl)
  · intro vs m K
    unfold r53_L0_R
    split <;> rfl
  · intro n vs m K hl
    match vs, hl with
    | [x1, x23, x24, x25], _ => show _ = _; kernel_rfl
theorem r53_eq (call : CallF) (fuel base : Nat) (x0 : Value) (m : M) : kbody E call keep53 (lp53 call fuel base) base Try.f53 [x0] m = r53 call fuel base x0 m := by
  kernel_rfl
noncomputable def rf53 : RF := fun call fuel base args m => match args with
  | [x0] => r53 call fuel base x0 m
  | _ => none
theorem r53_lk (call : CallF) (fuel base : Nat) : LoopsOk E call (lp53 call fuel base) fuel base 0 c53 = (And True (And (And True (And (And True True) True)) (And (And True (LpOk E call (lp53 call fuel base) fuel base 0 (loopB (blockB (seqR (seqL (seqR (seqR c53)))))))) (And True True)))) := by kernel_rfl
theorem r53_fn : E.P.funcs[53]? = some Try.f53 := by kernel_rfl
theorem r53_body : Try.f53.body = some c53 := by kernel_rfl
theorem rf53_ok : RFok E 53 rf53 := by
  refine ⟨Try.f53, r53_fn, fun call fuel base args m r _ h => ?_⟩
  unfold rf53 at h
  split at h
  · rw [← r53_eq] at h
    exact kbody_sound (c := c53) r53_body (Eq.mpr (r53_lk call fuel base) (And.intro trivial (And.intro (And.intro trivial (And.intro (And.intro trivial trivial) trivial)) (And.intro (And.intro trivial (r53_L0_ok call fuel base)) (And.intro trivial trivial))))) h
  · simp at h
end Go.AM
namespace Go.AM
open Go Go.Proofs
noncomputable def r54_L4 (call : CallF) (fuel base : Nat) (kx4 : Value → Value → Value → M → Res2) (n : Nat) : Value → Value → Value → Value → Value → Value → M → Res2 :=
  Nat.rec (motive := fun _ => Value → Value → Value → Value → Value → Value → M → Res2) (fun _ _ _ _ _ _ _ => none)
    (fun _ ih x1 x3 x5 x20 x24 x25 m =>
      (k1 (mbin E .lss 3 x25 x24) fun v26_12 => (kb v26_12 (kc (kB m (call m.length 86 [x25, x5] m)) (fun v32_13 m => (kc (kB m (call m.length 87 [x25] m)) (fun v34_14 m => (k1 (mbuild E.P 45 [(0, x5), (2, v32_13), (3, v34_14)]) fun v35_15 => (kc (kB m (call m.length 86 [x25, x5] m)) (fun v39_16 m => (k1 (xload E.P m 32 x1) fun v40_17 => (kc (kB m (call m.length 88 [v40_17, x25] m)) (fun v42_18 m => (k1 (mbuild E.P 45 [(0, x5), (2, v39_16), (1, v42_18)]) fun v43_19 => (k2 (xbuildSlice E.P m 22 2 [(0, v35_15), (1, v43_19)]) fun v44_20 m => (k2 (vcall E.P base m .append [22, 22] [x3, v44_20]) fun v45_21 m => (k1 (mbin E .add 3 x25 (.int .i64 1)) fun v46_22 => (ih x1 v45_21 x5 x20 x24 v46_22 m)))))) (fun _ _ => none)))) (fun _ _ => none)))) (fun _ _ => none))) (fun _ _ => none)) (kx4 x1 x3 x20 m)))) n
noncomputable def r54_L0 (call : CallF) (fuel base : Nat) (kx0 : Value → Value → M → Res2) (n : Nat) : Value → Value → Value → M → Res2 :=
  Nat.rec (motive := fun _ => Value → Value → Value → M → Res2) (fun _ _ _ _ => none)
    (fun _ ih x1 x3 x10 m =>
      (k1 (mbin E .lss 3 x10 (.int .i64 2)) fun v11_2 => (kb v11_2 (k1 (mbuild E.P 45 [(0, x10), (2, x10)]) fun v16_3 => (k2 (xbuildSlice E.P m 22 1 [(0, v16_3)]) fun v17_4 m => (k2 (vcall E.P base m .append [22, 22] [x3, v17_4]) fun v18_5 m => (k1 (mbin E .add 3 x10 (.int .i64 1)) fun v19_6 => (ih x1 v18_5 v19_6 m))))) (kx0 x1 x3 m)))) n
noncomputable def r54_L2 (call : CallF) (fuel base : Nat) (kx2 : Value → Value → M → Res2) (n : Nat) : Value → Value → Value → M → Res2 :=
  Nat.rec (motive := fun _ => Value → Value → Value → M → Res2) (fun _ _ _ _ => none)
    (fun _ ih x1 x3 x20 m =>
      (k1 (mbin E .lss 3 x20 (.int .i64 2)) fun v21_9 => (kb v21_9 (k1 (mfieldAddr E.P 32 x1 0) fun v23_10 => (k1 (xload E.P m 3 v23_10) fun v24_11 => (r54_L4 call fuel base (fun y1_23 y3_24 y20_25 m => (k1 (mbin E .add 3 y20_25 (.int .i64 1)) fun v47_26 => (ih y1_23 y3_24 v47_26 m))) fuel x1 x3 x20 x20 v24_11 (.int .i64 0) m))) (kx2 x1 x3 m)))) n
noncomputable def r54_L6 (call : CallF) (fuel base : Nat) (kp : Value → M → Res2) (kx6 : Value → M → Res2) (n : Nat) : Value → Value → Value → Value → Value → M → Res2 :=
  Nat.rec (motive := fun _ => Value → Value → Value → Value → Value → M → Res2) (fun _ _ _ _ _ _ => none)
    (fun _ ih x1 x3 x49 x50 x51 m =>
      (k1 (mbin E .lss 3 x51 x50) fun v52_32 => (kb v52_32 (k1 (mindexAddr E.P 30 x49 x51) fun v54_33 => (k1 (xload E.P m 69 v54_33) fun v55_34 => (k2 (xalloc E.P m 69) fun v8_35 m => (ks (xstore E.P base m 69 v8_35 v55_34) fun m => (k1 (mfieldAddr E.P 69 v8_35 2) fun v56_36 => (k1 (xload E.P m 3 v56_36) fun v57_37 => (k1 (mbin E .eql 3 v57_37 (.int .i64 (-1))) fun v58_38 => (kb v58_38 (k1 (mbin E .add 3 x51 (.int .i64 1)) fun v82_39 => (ih x1 x3 x49 x50 v82_39 m)) (k1 (mbin E .quo 3 x51 (.int .i64 2)) fun v60_40 => (k1 (mbin E .rem 3 x51 (.int .i64 2)) fun v62_41 => (kc (kB m (call m.length 86 [v60_40, v62_41] m)) (fun v63_42 m => (k1 (mfieldAddr E.P 69 v8_35 0) fun v64_43 => (k1 (xload E.P m 3 v64_43) fun v65_44 => (k1 (mbuild E.P 45 [(0, v63_42), (2, v65_44)]) fun v66_45 => (k2 (xalloc E.P m 45) fun v9_46 m => (ks (xstore E.P base m 45 v9_46 v66_45) fun m => (k1 (mfieldAddr E.P 69 v8_35 1) fun v67_47 => (k1 (xload E.P m 4 v67_47) fun v68_48 => (kb v68_48 (k1 (mfieldAddr E.P 69 v8_35 2) fun v69_49 => (k1 (xload E.P m 3 v69_49) fun v70_50 => (kc (call base 87 [v70_50] m) (fun v71_51 m => (k1 (mfieldAddr E.P 45 v9_46 1) fun v72_52 => (ks (xstore E.P base m 3 v72_52 v71_51) fun m => (k1 (xload E.P m 45 v9_46) fun v79_53 => (k2 (xbuildSlice E.P m 22 1 [(0, v79_53)]) fun v80_54 m => (k2 (vcall E.P base m .append [22, 22] [x3, v80_54]) fun v81_55 m => (k1 (mbin E .add 3 x51 (.int .i64 1)) fun v82_56 => (ih x1 v81_55 x49 x50 v82_56 m)))))))) (fun v m => kp v m)))) (k1 (xload E.P m 32 x1) fun v73_57 => (k1 (mfieldAddr E.P 69 v8_35 2) fun v74_58 => (k1 (xload E.P m 3 v74_58) fun v75_59 => (kc (call base 88 [v73_57, v75_59] m) (fun v76_60 m => (k1 (mfieldAddr E.P 45 v9_46 3) fun v77_61 => (ks (xstore E.P base m 3 v77_61 v76_60) fun m => (k1 (xload E.P m 45 v9_46) fun v79_62 => (k2 (xbuildSlice E.P m 22 1 [(0, v79_62)]) fun v80_63 m => (k2 (vcall E.P base m .append [22, 22] [x3, v80_63]) fun v81_64 m => (k1 (mbin E .add 3 x51 (.int .i64 1)) fun v82_65 => (ih x1 v81_64 x49 x50 v82_65 m)))))))) (fun v m => kp v m)))))))))))))) (fun _ _ => none)))))))))))) (kx6 x3 m)))) n
noncomputable def r54 (call : CallF) (fuel base : Nat) (x0 : Value) (m : M) : Res2 :=
  (k2 (xbox m x0) fun v1_1 m => (r54_L0 call fuel base (fun y1_7 y3_8 m => (r54_L2 call fuel base (fun y1_27 y3_28 m => (k1 (mfieldAddr E.P 32 y1_27 1) fun v48_29 => (k1 (xload E.P m 30 v48_29) fun v49_30 => (k2 (vcall E.P base m .len [30] [v49_30]) fun v50_31 m => (r54_L6 call fuel base (fun v m => some (.pan v, m)) (fun y3_66 m => (fVal y3_66 fun v => some (.ret v, m))) fuel y1_27 y3_28 v49_30 v50_31 (.int .i64 0) m))))) fuel y1_7 y3_8 (.int .i64 0) m)) fuel v1_1 (.slice none 0 0) (.int .i64 0) m))
def keep54 : Keep := { region := fun i => ([[1], [1, 3], [1, 3, 10], [1, 3, 10, 11], [1, 3, 4, 10], [1, 3, 10], [1, 3, 10], [1, 3, 20], [1, 3, 20, 21], [1, 3, 5, 20], [1, 3, 5, 20, 24, 25], [1, 3, 5, 20, 24, 25, 26], [1, 3, 5, 6, 20, 24, 25], [1, 3, 5, 20, 24, 25], [1, 3, 5, 20, 24, 25], [1, 3, 20], [1, 3, 49, 50, 51], [1, 3, 49, 50, 51, 52], [1, 3, 7, 8, 49, 50, 51], [1, 3, 7, 8, 49, 50, 51, 58], [1, 3, 8, 9, 49, 50, 51], [1, 3, 8, 9, 49, 50, 51, 68], [1, 3, 9, 49, 50, 51], [1, 3, 9, 49, 50, 51], [1, 3, 49, 50, 51], [1, 3, 49, 50, 51], [2]] : List (List Nat))[i]?, exit := fun i => ([[1, 3], [1, 3, 10], [1, 3], [1, 3, 20], [1, 3, 20], [1, 3, 5, 20, 24, 25], [3], [1, 3, 49, 50, 51]] : List (List Nat))[i]?, ret := some [2] }
noncomputable def r54_L4_R (call : CallF) (fuel base n : Nat) (vs : List Value) (m : M) (K : KT) : Res2 := match vs with
  | [x1, x3, x5, x20, x24, x25] => r54_L4 call fuel base (fun y1 y3 y20 m => K (.exit 4) { n := 84, l := [(1, y1), (3, y3), (20, y20)] } m) n x1 x3 x5 x20 x24 x25 m
  | _ => none
noncomputable def r54_L0_R (call : CallF) (fuel base n : Nat) (vs : List Value) (m : M) (K : KT) : Res2 := match vs with
  | [x1, x3, x10] => r54_L0 call fuel base (fun y1 y3 m => K (.exit 0) { n := 84, l := [(1, y1), (3, y3)] } m) n x1 x3 x10 m
  | _ => none
noncomputable def r54_L2_R (call : CallF) (fuel base n : Nat) (vs : List Value) (m : M) (K : KT) : Res2 := match vs with
  | [x1, x3, x20] => r54_L2 call fuel base (fun y1 y3 m => K (.exit 2) { n := 84, l := [(1, y1), (3, y3)] } m) n x1 x3 x20 m
  | _ => none
noncomputable def r54_L6_R (call : CallF) (fuel base n : Nat) (vs : List Value) (m : M) (K : KT) : Res2 := match vs with
  | [x1, x3, x49, x50, x51] => r54_L6 call fuel base (fun v m => K (.pan v) { n := 84, l := [] } m) (fun y3 m => K (.exit 6) { n := 84, l := [(3, y3)] } m) n x1 x3 x49 x50 x51 m
  | _ => none
noncomputable def lp54 (call : CallF) (fuel base : Nat) : Lp := lpsel [(4, fun T m K => kslots 84 [1, 3, 5, 20, 24, 25] T fun vs => r54_L4_R call fuel base fuel vs m K), (0, fun T m K => kslots 84 [1, 3, 10] T fun vs => r54_L0_R call fuel base fuel vs m K), (2, fun T m K => kslots 84 [1, 3, 20] T fun vs => r54_L2_R call fuel base fuel vs m K), (6, fun T m K => kslots 84 [1, 3, 49, 50, 51] T fun vs => r54_L6_R call fuel base fuel vs m K)]
noncomputable def c54 : Code := Try.f54.body.getD .skip
theorem r54_L4_lk (call : CallF) (fuel base : Nat) : LoopsOk E call (lp54 call fuel base) fuel base 4 (loopB (blockB (seqR (seqR (blockB (seqL (seqR (seqR (loopB (blockB (seqR (seqL (seqR (seqR (seqR c54))))))))))))))) = (And True (And (And True True) (And (And True True) True))) := by kernel_rfl
theorem r54_L4_ok (call : CallF) (fuel base : Nat) : LpOk E call (lp54 call fuel base) fuel base 4 (loopB (blockB (seqR (seqR (blockB (seqL (seqR (seqR (loopB (blockB (seqR (seqL (seqR (seqR (seqR c54))))))))))))))) := by
  refine loop_ok (kp := keep54) (hb := Eq.mpr (r54_L4_lk call fuel base) (And.intro trivial (And.intro (And.intro trivial trivial) (And.intro (And.intro trivial trivial) trivial)))) 84 [1, 3, 5, 20, 24, 25] (fun n vs m K => r54_L4_R call fuel base n vs m K) ?_ ?_ (fun _ _ _ => rfl)
  · intro vs m K
    unfold r54_L4_R
    split <;> rfl
  · intro n vs m K hl
    match vs, hl with
    | [x1, x3, x5, x20, x24, x25], _ => show _ = _; kernel_rfl
theorem r54_L0_lk (call : CallF) (fuel base : Nat) : LoopsOk E call (lp54 call fuel base) fuel base 0 (loopB (blockB (seqR (seqL (seqR (seqR c54)))))) = (And True (And (And True True) (And (And True True) True))) := by kernel_rfl
theorem r54_L0_ok (call : CallF) (fuel base : Nat) : LpOk E call (lp54 call fuel base) fuel base 0 (loopB (blockB (seqR (seqL (seqR (seqR c54)))))) := by
  refine loop_ok (kp := keep54) (hb := Eq.mpr (r54_L0_lk call fuel base) (And.intro trivial (And.intro (And.intro trivial trivial) (And.intro (And.intro trivial trivial) trivial)))) 84 [1, 3, 10] (fun n vs m K => r54_L0_R call fuel base n vs m K) ?_ ?_ (fun _ _ _ => rfl)
  · intro vs m K
    unfold r54_L0_R
    split <;> rfl
  · intro n vs m K hl
    match vs, hl with
    | [x1, x3, x10], _ => show _ = _; kernel_rfl
theorem r54_L2_lk (call : CallF) (fuel base : Nat) : LoopsOk E call (lp54 call fuel base) fuel base 2 (loopB (blockB (seqR (seqL (seqR (seqR (seqR c54))))))) = (And True (And (And True True) (And (And True (And True (LpOk E call (lp54 call fuel base) fuel base 4 (loopB (blockB (seqR (seqR (blockB (seqL (seqR (seqR (loopB (blockB (seqR (seqL (seqR (seqR (seqR c54)))))))))))))))))) True))) := by kernel_rfl
theorem r54_L2_ok (call : CallF) (fuel base : Nat) : LpOk E call (lp54 call fuel base) fuel base 2 (loopB (blockB (seqR (seqL (seqR (seqR (seqR c54))))))) := by
  refine loop_ok (kp := keep54) (hb := Eq.mpr (r54_L2_lk call fuel base) (And.intro trivial (And.intro (And.intro trivial trivial) (And.intro (And.intro trivial (And.intro trivial (r54_L4_ok call fuel base))) trivial)))) 84 [1, 3, 20] (fun n vs m K => r54_L2_R call fuel base n vs m K) ?_ ?_ (fun _ _ _ => rfl)
  · intro vs m K
    unfold r54_L2_R
    split <;> rfl
  · intro n vs m K hl
    match vs, hl with
    | [x1, x3, x20], _ => show _ = _; kernel_rfl
theorem r54_L6_lk (call : CallF) (fuel base : Nat) : LoopsOk E call (lp54 call fuel base) fuel base 6 (loopB (blockB (seqR (seqL (seqR (seqR (seqR (seqR c54)))))))) = (And True (And (And True True) (And (And True (And (And True (And True True)) (And True (And (And True (And True True)) True)))) True))) := by kernel_rfl
theorem r54_L6_ok (call : CallF) (fuel base : Nat) : LpOk E call (lp54 call fuel base) fuel base 6 (loopB (blockB (seqR (seqL (seqR (seqR (seqR (seqR c54)))))))) := by
  refine loop_ok (kp := keep54) (hb := Eq.mpr (r54_L6_lk call fuel base) (And.intro trivial (And.intro (And.intro trivial trivial) (And.intro (And.intro trivial (And.intro (And.intro trivial (And.intro trivial trivial)) (And.intro trivial (And.intro (And.intro trivial (And.intro trivial trivial)) trivial)))) trivial)))) 84 [1, 3, 49, 50, 51] (fun n vs m K => r54_L6_R call fuel base n vs m K) ?_ ?_ (fun _ _ _ => rfl)
  · intro vs m K
    unfold r54_L6_R
    split <;> rfl
  · intro n vs m K hl
    match vs, hl with
    | [x1, x3, x49, x50, x51], _ => show _ = _; kernel_rfl
theorem r54_eq (call : CallF) (fuel base : Nat) (x0 : Value) (m : M) : kbody E call keep54 (lp54 call fuel base) base Try.f54 [x0] m = r54 call fuel base x0 m := by
  kernel_rfl
noncomputable def rf54 : RF := fun call fuel base args m => match args with
  | [x0] => r54 call fuel base x0 m
  | _ => none
theorem r54_lk (call : CallF) (fuel base : Nat) : LoopsOk E call (lp54 call fuel base) fuel base 0 c54 = (And True (And True (And (And True (LpOk E call (lp54 call fuel base) fuel base 0 (loopB (blockB (seqR (seqL (seqR (seqR c54)))))))) (And (And True (LpOk E call (lp54 call fuel base) fuel base 2 (loopB (blockB (seqR (seqL (seqR (seqR (seqR c54))))))))) (And (And True (LpOk E call (lp54 call fuel base) fuel base 6 (loopB (blockB (seqR (seqL (seqR (seqR (seqR (seqR c54)))))))))) (And True True)))))) := by kernel_rfl
theorem r54_fn : E.P.funcs[54]? = some Try.f54 := by kernel_rfl
theorem r54_body : Try.f54.body = some c54 := by kernel_rfl
theorem rf54_ok : RFok E 54 rf54 := by
  refine ⟨Try.f54, r54_fn, fun call fuel base args m r _ h => ?_⟩
  unfold rf54 at h
  split at h
  · rw [← r54_eq] at h
    exact kbody_sound (c := c54) r54_body (Eq.mpr (r54_lk call fuel base) (And.intro trivial (And.intro trivial (And.intro (And.intro trivial (r54_L0_ok call fuel base)) (And.intro (And.intro trivial (r54_L2_ok call fuel base)) (And.intro (And.intro trivial (r54_L6_ok call fuel base)) (And.intro trivial trivial))))))) h
  · simp at h
end Go.AM
namespace Go.AM
open Go Go.Proofs
noncomputable def r55_L0 (call : CallF) (fuel base : Nat) (kr : Value → M → Res2) (kx0 : M → Res2) (n : Nat) : Value → Value → M → Res2 :=
  Nat.rec (motive := fun _ => Value → Value → M → Res2) (fun _ _ _ => none)
    (fun _ ih x1 x3 m =>
      (k1 (mfieldAddr E.P 32 x1 1) fun v23_15 => (k1 (xload E.P m 30 v23_15) fun v24_16 => (k2 (vcall E.P base m .len [30] [v24_16]) fun v25_17 m => (k1 (mbin E .lss 3 x3 v25_17) fun v26_18 => (kb v26_18 (k1 (mfieldAddr E.P 32 x1 1) fun v29_19 => (k1 (xload E.P m 30 v29_19) fun v30_20 => (k1 (mindexAddr E.P 30 v30_20 x3) fun v32_21 => (k1 (xload E.P m 69 v32_21) fun v33_22 => (k2 (xalloc E.P m 69) fun v4_23 m => (ks (xstore E.P base m 69 v4_23 v33_22) fun m => (k1 (mfieldAddr E.P 69 v4_23 0) fun v34_24 => (k1 (xload E.P m 3 v34_24) fun v35_25 => (k1 (mbin E .lss 3 v35_25 (.int .i64 0)) fun v36_26 => (kb v36_26 (kr (.bool false) m) (k1 (mfieldAddr E.P 69 v4_23 0) fun v38_27 => (k1 (xload E.P m 3 v38_27) fun v39_28 => (k1 (mbin E .gtr 3 v39_28 (.int .i64 1)) fun v40_29 => (kb v40_29 (kr (.bool false) m) (k1 (mfieldAddr E.P 69 v4_23 2) fun v43_30 => (k1 (xload E.P m 3 v43_30) fun v44_31 => (k1 (mbin E .lss 3 v44_31 (.int .i64 (-1))) fun v45_32 => (kb v45_32 (kr (.bool false) m) (k1 (mfieldAddr E.P 69 v4_23 2) fun v48_33 => (k1 (xload E.P m 3 v48_33) fun v49_34 => (k1 (mfieldAddr E.P 32 x1 0) fun v50_35 => (k1 (xload E.P m 3 v50_35) fun v51_36 => (k1 (mbin E .geq 3 v49_34 v51_36) fun v52_37 => (kb v52_37 (kr (.bool false) m) (k1 (mbin E .add 3 x3 (.int .i64 1)) fun v28_38 => (ih x1 v28_38 m)))))))))))))))))))))))))) (kx0 m))))))) n
noncomputable def r55 (call : CallF) (fuel base : Nat) (x0 : Value) (m : M) : Res2 :=
  (k2 (xbox m x0) fun v1_1 m => (k1 (mfieldAddr E.P 32 v1_1 0) fun v5_2 => (k1 (xload E.P m 3 v5_2) fun v6_3 => (k1 (mbin E .lss 3 v6_3 (.int .i64 1)) fun v7_4 => (kb v7_4 (fVal (.bool false) fun v => some (.ret v, m)) (k1 (mfieldAddr E.P 32 v1_1 0) fun v9_5 => (k1 (xload E.P m 3 v9_5) fun v10_6 => (k1 (mbin E .gtr 3 v10_6 (.int .i64 2)) fun v11_7 => (kb v11_7 (fVal (.bool false) fun v => some (.ret v, m)) (k1 (mfieldAddr E.P 32 v1_1 1) fun v14_8 => (k1 (xload E.P m 30 v14_8) fun v15_9 => (k2 (vcall E.P base m .len [30] [v15_9]) fun v16_10 m => (k1 (mfieldAddr E.P 32 v1_1 0) fun v17_11 => (k1 (xload E.P m 3 v17_11) fun v18_12 => (k1 (mbin E .mul 3 (.int .i64 2) v18_12) fun v19_13 => (k1 (mbin E .neq 3 v16_10 v19_13) fun v20_14 => (kb v20_14 (fVal (.bool false) fun v => some (.ret v, m)) (r55_L0 call fuel base (fun y2_39 m => (fVal y2_39 fun v => some (.ret v, m))) (fun m => (fVal (.bool true) fun v => some (.ret v, m))) fuel v1_1 (.int .i64 0) m))))))))))))))))))
def keep55 : Keep := { region := fun i => ([[1], [1, 21], [2], [1, 3], [1, 3, 26], [1, 3], [1, 3, 4], [1, 3, 53], [2], [2]] : List (List Nat))[i]?, exit := fun i => ([[], [1, 3]] : List (List Nat))[i]?, ret := some [2] }
noncomputable def r55_L0_R (call : CallF) (fuel base n : Nat) (vs : List Value) (m : M) (K : KT) : Res2 := match vs with
  | [x1, x3] => r55_L0 call fuel base (fun y2 m => K .ret { n := 54, l := [(2, y2)] } m) (fun m => K (.exit 0) { n := 54, l := [] } m) n x1 x3 m
  | _ => none
noncomputable def lp55 (call : CallF) (fuel base : Nat) : Lp := lpsel [(0, fun T m K => kslots 54 [1, 3] T fun vs => r55_L0_R call fuel base fuel vs m K)]
noncomputable def c55 : Code := Try.f55.body.getD .skip
theorem r55_L0_lk (call : CallF) (fuel base : Nat) : LoopsOk E call (lp55 call fuel base) fuel base 0 (loopB (blockB (seqR (seqL (seqR (seqR c55)))))) = (And (And True (And True True)) (And (And True (And True (And (And True True) True))) True)) := by kernel_rfl
theorem r55_L0_ok (call : CallF) (fuel base : Nat) : LpOk E call (lp55 call fuel base) fuel base 0 (loopB (blockB (seqR (seqL (seqR (seqR c55)))))) := by
  refine loop_ok (kp := keep55) (hb := Eq.mpr (r55_L0_lk call fuel base) (And.intro (And.intro trivial (And.intro trivial trivial)) (And.intro (And.intro trivial (And.intro trivial (And.intro (And.intro trivial trivial) trivial))) trivial))) 54 [1, 3] (fun n vs m K => r55_L0_R call fuel base n vs m K) ?_ ?_ (fun _ _ _ => rfl)
  · intro vs m K
    unfold r55_L0_R
    split <;> rfl
  · intro n vs m K hl
    match vs, hl with
    | [x1, x3], _ => show _ = _; kernel_rfl
theorem r55_eq (call : CallF) (fuel base : Nat) (x0 : Value) (m : M) : kbody E call keep55 (lp55 call fuel base) base Try.f55 [x0] m = r55 call fuel base x0 m := by
  kernel_rfl
noncomputable def rf55 : RF := fun call fuel base args m => match args with
  | [x0] => r55 call fuel base x0 m
  | _ => none
theorem r55_lk (call : CallF) (fuel base : Nat) : LoopsOk E call (lp55 call fuel base) fuel base 0 c55 = (And True (And (And True (And (And True True) True)) (And (And True (LpOk E call (lp55 call fuel base) fuel base 0 (loopB (blockB (seqR (seqL (seqR (seqR c55)))))))) (And True True)))) := by kernel_rfl
theorem r55_fn : E.P.funcs[55]? = some Try.f55 := by kernel_rfl
theorem r55_body : Try.f55.body = some c55 := by kernel_rfl
theorem rf55_ok : RFok E 55 rf55 := by
  refine ⟨Try.f55, r55_fn, fun call fuel base args m r _ h => ?_⟩
  unfold rf55 at h
  split at h
  · rw [← r55_eq] at h
    exact kbody_sound (c := c55) r55_body (Eq.mpr (r55_lk call fuel base) (And.intro trivial (And.intro (And.intro trivial (And.intro (And.intro trivial trivial) trivial)) (And.intro (And.intro trivial (r55_L0_ok call fuel base)) (And.intro trivial trivial))))) h
  · simp at h
end Go.AM
namespace Go.AM
open Go Go.Proofs
noncomputable def r56 (call : CallF) (fuel base : Nat) (x0 : Value) (m : M) : Res2 :=
  (k2 (vcall E.P base m .len [33] [x0]) fun v4_1 m => (kc (call base 80 [v4_1] m) (fun v5_2 m => (kb v5_2 (kc (call base 81 [x0, (.func (.func 85) #[] #[])] m) (fun v8_3 m => (k1 (mun .not v8_3) fun v9_4 => (fVal v9_4 fun v => some (.ret v, m)))) (fun v m => some (.pan v, m))) (fVal (.bool false) fun v => some (.ret v, m)))) (fun v m => some (.pan v, m))))
def keep56 : Keep := { region := fun i => ([[0], [2]] : List (List Nat))[i]?, exit := fun i => ([] : List (List Nat))[i]?, ret := some [2] }
noncomputable def lp56 (call : CallF) (fuel base : Nat) : Lp := lpsel []
noncomputable def c56 : Code := Try.f56.body.getD .skip
theorem r56_eq (call : CallF) (fuel base : Nat) (x0 : Value) (m : M) : kbody E call keep56 (lp56 call fuel base) base Try.f56 [x0] m = r56 call fuel base x0 m := by
  kernel_rfl
noncomputable def rf56 : RF := fun call fuel base args m => match args with
  | [x0] => r56 call fuel base x0 m
  | _ => none
theorem r56_lk (call : CallF) (fuel base : Nat) : LoopsOk E call (lp56 call fuel base) fuel base 0 c56 = (And True (And True True)) := by kernel_rfl
theorem r56_fn : E.P.funcs[56]? = some Try.f56 := by kernel_rfl
theorem r56_body : Try.f56.body = some c56 := by kernel_rfl
theorem rf56_ok : RFok E 56 rf56 := by
  refine ⟨Try.f56, r56_fn, fun call fuel base args m r _ h => ?_⟩
  unfold rf56 at h
  split at h
  · rw [← r56_eq] at h
    exact kbody_sound (c := c56) r56_body (Eq.mpr (r56_lk call fuel base) (And.intro trivial (And.intro trivial trivial))) h
  · simp at h
end Go.AM
namespace Go.AM
open Go Go.Proofs
noncomputable def r57_L0 (call : CallF) (fuel base : Nat) (kp : Value → M → Res2) (kx0 : Value → Value → Value → M → Res2) (n : Nat) : Value → Value → Value → Value → Value → Value → M → Res2 :=
  Nat.rec (motive := fun _ => Value → Value → Value → Value → Value → Value → M → Res2) (fun _ _ _ _ _ _ _ => none)
    (fun _ ih x1 x3 x9 x10 x14 x15 m =>
      (k1 (mbin E .lss 3 x15 x14) fun v16_3 => (kb v16_3 (k1 (mbin E .eql 3 x10 (.int .i64 (-1))) fun v18_4 => (kb v18_4 (kx0 x1 x9 x10 m) (k1 (mbin E .lss 3 x9 (.int .i64 0)) fun v21_5 => (kb v21_5 (kx0 x1 x9 x10 m) (k2 (vcall E.P base m .len [33] [x1]) fun v26_6 m => (k1 (mbin E .geq 3 x9 v26_6) fun v27_7 => (kb v27_7 (kx0 x1 x9 x10 m) (k1 (mfieldAddr E.P 32 x3 1) fun v29_8 => (k1 (xload E.P m 30 v29_8) fun v30_9 => (k1 (mbin E .mul 3 (.int .i64 2) x10) fun v32_10 => (k1 (mindexAddr E.P 33 x1 x9) fun v35_11 => (k1 (xload E.P m 3 v35_11) fun v36_12 => (k1 (mbin E .add 3 v32_10 v36_12) fun v37_13 => (k1 (mindexAddr E.P 30 v30_9 v37_13) fun v38_14 => (k1 (xload E.P m 69 v38_14) fun v39_15 => (k2 (xalloc E.P m 69) fun v11_16 m => (ks (xstore E.P base m 69 v11_16 v39_15) fun m => (k1 (mfieldAddr E.P 69 v11_16 0) fun v42_17 => (k1 (xload E.P m 3 v42_17) fun v43_18 => (k1 (mindexAddr E.P 33 x1 x9) fun v44_19 => (ks (xstore E.P base m 3 v44_19 v43_18) fun m => (k1 (xload E.P m 69 v11_16) fun v46_20 => (kc (call base 90 [v46_20] m) (fun v47_21 m => (k1 (mbin E .add 3 x9 v47_21) fun v48_22 => (k1 (mfieldAddr E.P 69 v11_16 2) fun v49_23 => (k1 (xload E.P m 3 v49_23) fun v50_24 => (k1 (mbin E .add 3 x15 (.int .i64 1)) fun v51_25 => (ih x1 x3 v48_22 v50_24 x14 v51_25 m)))))) (fun v m => kp v m)))))))))))))))))))))))) (kx0 x1 x9 x10 m)))) n
noncomputable def r57 (call : CallF) (fuel base : Nat) (x0 : Value) (x1 : Value) (x2 : Value) (m : M) : Res2 :=
  (k2 (xbox m x0) fun v3_1 m => (kc (call base 89 [x1] m) (fun v13_2 m => (r57_L0 call fuel base (fun v m => some (.pan v, m)) (fun y1_26 y9_27 y10_28 m => (some (.ret (.tuple #[y1_26, y9_27, y10_28]), m))) fuel v13_2 v3_1 (.int .i64 0) (.int .i64 0) x2 (.int .i64 0) m)) (fun v m => some (.pan v, m))))
def keep57 : Keep := { region := fun i => ([[1, 2, 3], [1, 2, 3], [1, 2, 3, 9, 10], [1, 3, 9, 10, 14, 15], [1, 3, 9, 10, 14, 15, 16], [1, 3, 9, 10, 14, 15, 28], [1, 3, 9, 11, 14, 15], [1, 3, 9, 11, 14, 15], [1, 3, 9, 11, 14, 15], [1, 3, 9, 10, 14, 15], [1, 3, 9, 10, 14, 15], [6, 7, 8]] : List (List Nat))[i]?, exit := fun i => ([[1, 9, 10], [1, 3, 9, 10, 14, 15]] : List (List Nat))[i]?, ret := some [6, 7, 8] }
noncomputable def r57_L0_R (call : CallF) (fuel base n : Nat) (vs : List Value) (m : M) (K : KT) : Res2 := match vs with
  | [x1, x3, x9, x10, x14, x15] => r57_L0 call fuel base (fun v m => K (.pan v) { n := 55, l := [] } m) (fun y1 y9 y10 m => K (.exit 0) { n := 55, l := [(1, y1), (9, y9), (10, y10)] } m) n x1 x3 x9 x10 x14 x15 m
  | _ => none
noncomputable def lp57 (call : CallF) (fuel base : Nat) : Lp := lpsel [(0, fun T m K => kslots 55 [1, 3, 9, 10, 14, 15] T fun vs => r57_L0_R call fuel base fuel vs m K)]
noncomputable def c57 : Code := Try.f57.body.getD .skip
theorem r57_L0_lk (call : CallF) (fuel base : Nat) : LoopsOk E call (lp57 call fuel base) fuel base 0 (loopB (blockB (seqR (seqL (seqR (seqR (seqR c57))))))) = (And True (And (And True True) (And (And (And True (And True True)) (And True (And True (And True True)))) True))) := by kernel_rfl
theorem r57_L0_ok (call : CallF) (fuel base : Nat) : LpOk E call (lp57 call fuel base) fuel base 0 (loopB (blockB (seqR (seqL (seqR (seqR (seqR c57))))))) := by
  refine loop_ok (kp := keep57) (hb := Eq.mpr (r57_L0_lk call fuel base) (And.intro trivial (And.intro (And.intro trivial trivial) (And.intro (And.intro (And.intro trivial (And.intro trivial trivial)) (And.intro trivial (And.intro trivial (And.intro trivial trivial)))) trivial)))) 55 [1, 3, 9, 10, 14, 15] (fun n vs m K => r57_L0_R call fuel base n vs m K) ?_ ?_ (fun _ _ _ => rfl)
  · intro vs m K
    unfold r57_L0_R
    split <;> rfl
  · intro n vs m K hl
    match vs, hl with
    | [x1, x3, x9, x10, x14, x15], _ => show _ = _; kernel_rfl
theorem r57_eq (call : CallF) (fuel base : Nat) (x0 : Value) (x1 : Value) (x2 : Value) (m : M) : kbody E call keep57 (lp57 call fuel base) base Try.f57 [x0, x1, x2] m = r57 call fuel base x0 x1 x2 m := by
  kernel_rfl
noncomputable def rf57 : RF := fun call fuel base args m => match args with
  | [x0, x1, x2] => r57 call fuel base x0 x1 x2 m
  | _ => none
theorem r57_lk (call : CallF) (fuel base : Nat) : LoopsOk E call (lp57 call fuel base) fuel base 0 c57 = (And True (And True (And True (And (And True (LpOk E call (lp57 call fuel base) fuel base 0 (loopB (blockB (seqR (seqL (seqR (seqR (seqR c57))))))))) (And True True))))) := by kernel_rfl
theorem r57_fn : E.P.funcs[57]? = some Try.f57 := by kernel_rfl
theorem r57_body : Try.f57.body = some c57 := by kernel_rfl
theorem rf57_ok : RFok E 57 rf57 := by
  refine ⟨Try.f57, r57_fn, fun call fuel base args m r _ h => ?_⟩
  unfold rf57 at h
  split at h
  · rw [← r57_eq] at h
    exact kbody_sound (c := c57) r57_body (Eq.mpr (r57_lk call fuel base) (And.intro trivial (And.intro trivial (And.intro trivial (And.intro (And.intro trivial (r57_L0_ok call fuel base)) (And.intro trivial trivial)))))) h
  · simp at h
end Go.AM
namespace Go.AM
open Go Go.Proofs
noncomputable def r59 (call : CallF) (fuel base : Nat) (x0 : Value) (x1 : Value) (x2 : Value) (m : M) : Res2 :=
  (kc (call base 48 [x0] m) (fun v8_1 m => (kb v8_1 (kc (call base 80 [x1] m) (fun v11_2 m => (kb v11_2 (kc (call base 80 [x2] m) (fun v15_3 m => (fVal v15_3 fun v => some (.ret v, m))) (fun v m => some (.pan v, m))) (fVal (.bool false) fun v => some (.ret v, m)))) (fun v m => some (.pan v, m))) (fVal (.bool false) fun v => some (.ret v, m)))) (fun v m => some (.pan v, m)))
def keep59 : Keep := { region := fun i => ([[0, 1, 2], [6]] : List (List Nat))[i]?, exit := fun i => ([] : List (List Nat))[i]?, ret := some [6] }
noncomputable def lp59 (call : CallF) (fuel base : Nat) : Lp := lpsel []
noncomputable def c59 : Code := Try.f59.body.getD .skip
theorem r59_eq (call : CallF) (fuel base : Nat) (x0 : Value) (x1 : Value) (x2 : Value) (m : M) : kbody E call keep59 (lp59 call fuel base) base Try.f59 [x0, x1, x2] m = r59 call fuel base x0 x1 x2 m := by
  kernel_rfl
noncomputable def rf59 : RF := fun call fuel base args m => match args with
  | [x0, x1, x2] => r59 call fuel base x0 x1 x2 m
  | _ => none
theorem r59_lk (call : CallF) (fuel base : Nat) : LoopsOk E call (lp59 call fuel base) fuel base 0 c59 = (And True (And True True)) := by kernel_rfl
theorem r59_fn : E.P.funcs[59]? = some Try.f59 := by kernel_rfl
theorem r59_body : Try.f59.body = some c59 := by kernel_rfl
theorem rf59_ok : RFok E 59 rf59 := by
  refine ⟨Try.f59, r59_fn, fun call fuel base args m r _ h => ?_⟩
  unfold rf59 at h
  split at h
  · rw [← r59_eq] at h
    exact kbody_sound (c := c59) r59_body (Eq.mpr (r59_lk call fuel base) (And.intro trivial (And.intro trivial trivial))) h
  · simp at h
end Go.AM
namespace Go.AM
open Go Go.Proofs
noncomputable def r60_L0 (call : CallF) (fuel base : Nat) (kp : Value → M → Res2) (kr : Value → M → Res2) (kx0 : M → Res2) (n : Nat) : Value → Value → Value → Value → Value → Value → M → Res2 :=
  Nat.rec (motive := fun _ => Value → Value → Value → Value → Value → Value → M → Res2) (fun _ _ _ _ _ _ _ => none)
    (fun _ ih x0 x1 x2 x9 x10 x11 m =>
      (k1 (mbin E .lss 3 x11 x10) fun v12_2 => (kb v12_2 (k1 (mindexAddr E.P 23 x9 x11) fun v14_3 => (k1 (xload E.P m 33 v14_3) fun v15_4 => (k2 (vcall E.P base m .len [33] [v15_4]) fun v17_5 m => (k1 (mbin E .add 3 x1 (.int .i64 1)) fun v19_6 => (k1 (mbin E .neq 3 v17_5 v19_6) fun v20_7 => (kb v20_7 (kr (.bool false) m) (k1 (mindexAddr E.P 33 v15_4 (.int .i64 0)) fun v23_8 => (k1 (xload E.P m 3 v23_8) fun v24_9 => (k1 (mbin E .lss 3 v24_9 (.int .i64 1)) fun v25_10 => (kb v25_10 (kr (.bool false) m) (k1 (mindexAddr E.P 33 v15_4 (.int .i64 0)) fun v29_11 => (k1 (xload E.P m 3 v29_11) fun v30_12 => (k1 (mbin E .geq 3 v30_12 x2) fun v32_13 => (kb v32_13 (kr (.bool false) m) (k1 (mslice E.P m 33 v15_4 (some (.int .i64 1)) none none) fun v36_14 => (kc (call base 81 [v36_14, (.func (.func 82) #[] #[])] m) (fun v37_15 m => (kb v37_15 (kr (.bool false) m) (k1 (mbin E .gtr 3 x11 (.int .i64 0)) fun v40_16 => (kb v40_16 (k1 (mbin E .sub 3 x11 (.int .i64 1)) fun v44_17 => (k1 (mindexAddr E.P 23 x0 v44_17) fun v45_18 => (k1 (xload E.P m 33 v45_18) fun v46_19 => (kc (call base 91 [v46_19, v15_4] m) (fun v48_20 m => (k1 (mbin E .geq 3 v48_20 (.int .i64 0)) fun v49_21 => (kb v49_21 (kr (.bool false) m) (k1 (mbin E .add 3 x11 (.int .i64 1)) fun v51_22 => (ih x0 x1 x2 x9 x10 v51_22 m))))) (fun v m => kp v m))))) (k1 (mbin E .add 3 x11 (.int .i64 1)) fun v51_23 => (ih x0 x1 x2 x9 x10 v51_23 m)))))) (fun v m => kp v m))))))))))))))))) (kx0 m)))) n
noncomputable def r60 (call : CallF) (fuel base : Nat) (x0 : Value) (x1 : Value) (x2 : Value) (m : M) : Res2 :=
  (k2 (vcall E.P base m .len [23] [x0]) fun v10_1 m => (r60_L0 call fuel base (fun v m => some (.pan v, m)) (fun y6_24 m => (fVal y6_24 fun v => some (.ret v, m))) (fun m => (fVal (.bool true) fun v => some (.ret v, m))) fuel x0 x1 x2 x0 v10_1 (.int .i64 0) m))
def keep60 : Keep := { region := fun i => ([[0, 1, 2], [0, 1, 2, 9, 10, 11], [0, 1, 2, 9, 10, 11, 12], [0, 1, 2, 7, 8, 9, 10, 11], [0, 1, 2, 7, 8, 9, 10, 11, 38], [6], [0, 1, 2, 9, 10, 11, 50], [6], [0, 1, 2, 9, 10, 11], [6]] : List (List Nat))[i]?, exit := fun i => ([[], [0, 1, 2, 9, 10, 11]] : List (List Nat))[i]?, ret := some [6] }
noncomputable def r60_L0_R (call : CallF) (fuel base n : Nat) (vs : List Value) (m : M) (K : KT) : Res2 := match vs with
  | [x0, x1, x2, x9, x10, x11] => r60_L0 call fuel base (fun v m => K (.pan v) { n := 52, l := [] } m) (fun y6 m => K .ret { n := 52, l := [(6, y6)] } m) (fun m => K (.exit 0) { n := 52, l := [] } m) n x0 x1 x2 x9 x10 x11 m
  | _ => none
noncomputable def lp60 (call : CallF) (fuel base : Nat) : Lp := lpsel [(0, fun T m K => kslots 52 [0, 1, 2, 9, 10, 11] T fun vs => r60_L0_R call fuel base fuel vs m K)]
noncomputable def c60 : Code := Try.f60.body.getD .skip
theorem r60_L0_lk (call : CallF) (fuel base : Nat) : LoopsOk E call (lp60 call fuel base) fuel base 0 (loopB (blockB (seqR (seqL (seqR c60))))) = (And True (And (And True True) (And (And True (And (And True (And (And True True) True)) (And True (And (And True True) True)))) True))) := by kernel_rfl
theorem r60_L0_ok (call : CallF) (fuel base : Nat) : LpOk E call (lp60 call fuel base) fuel base 0 (loopB (blockB (seqR (seqL (seqR c60))))) := by
  refine loop_ok (kp := keep60) (hb := Eq.mpr (r60_L0_lk call fuel base) (And.intro trivial (And.intro (And.intro trivial trivial) (And.intro (And.intro trivial (And.intro (And.intro trivial (And.intro (And.intro trivial trivial) trivial)) (And.intro trivial (And.intro (And.intro trivial trivial) trivial)))) trivial)))) 52 [0, 1, 2, 9, 10, 11] (fun n vs m K => r60_L0_R call fuel base n vs m K) ?_ ?_ (fun _ _ _ => rfl)
  · intro vs m K
    unfold r60_L0_R
    split <;> rfl
  · intro n vs m K hl
    match vs, hl with
    | [x0, x1, x2, x9, x10, x11], _ => show _ = _; kernel_rfl
theorem r60_eq (call : CallF) (fuel base : Nat) (x0 : Value) (x1 : Value) (x2 : Value) (m : M) : kbody E call keep60 (lp60 call fuel base) base Try.f60 [x0, x1, x2] m = r60 call fuel base x0 x1 x2 m := by
  kernel_rfl
noncomputable def rf60 : RF := fun call fuel base args m => match args with
  | [x0, x1, x2] => r60 call fuel base x0 x1 x2 m
  | _ => none
theorem r60_lk (call : CallF) (fuel base : Nat) : LoopsOk E call (lp60 call fuel base) fuel base 0 c60 = (And True (And (And True (LpOk E call (lp60 call fuel base) fuel base 0 (loopB (blockB (seqR (seqL (seqR c60))))))) (And True True))) := by kernel_rfl
theorem r60_fn : E.P.funcs[60]? = some Try.f60 := by kernel_rfl
theorem r60_body : Try.f60.body = some c60 := by kernel_rfl
theorem rf60_ok : RFok E 60 rf60 := by
  refine ⟨Try.f60, r60_fn, fun call fuel base args m r _ h => ?_⟩
  unfold rf60 at h
  split at h
  · rw [← r60_eq] at h
    exact kbody_sound (c := c60) r60_body (Eq.mpr (r60_lk call fuel base) (And.intro trivial (And.intro (And.intro trivial (r60_L0_ok call fuel base)) (And.intro trivial trivial)))) h
  · simp at h
end Go.AM
namespace Go.AM
open Go Go.Proofs
noncomputable def r61 (call : CallF) (fuel base : Nat) (x0 : Value) (x1 : Value) (m : M) : Res2 :=
  (k2 (xalloc E.P m 76) fun v4_1 m => (kc (call base 92 [x0, x1, (.func (.func 93) #[] #[])] m) (fun v8_2 m => (k1 (mbuild E.P 76 [(0, x1), (1, v8_2)]) fun v9_3 => (ks (xstore E.P base m 76 v4_1 v9_3) fun m => (k0 (mload E.P m 76 v4_1) fun r_4 => (fVal r_4 fun v => some (.ret v, m)))))) (fun v m => some (.pan v, m))))
def keep61 : Keep := { region := fun i => ([[0, 1, 4], [4]] : List (List Nat))[i]?, exit := fun i => ([] : List (List Nat))[i]?, ret := some [4] }
noncomputable def lp61 (call : CallF) (fuel base : Nat) : Lp := lpsel []
noncomputable def c61 : Code := Try.f61.body.getD .skip
theorem r61_eq (call : CallF) (fuel base : Nat) (x0 : Value) (x1 : Value) (m : M) : kbody E call keep61 (lp61 call fuel base) base Try.f61 [x0, x1] m = r61 call fuel base x0 x1 m := by
  kernel_rfl
noncomputable def rf61 : RF := fun call fuel base args m => match args with
  | [x0, x1] => r61 call fuel base x0 x1 m
  | _ => none
theorem r61_lk (call : CallF) (fuel base : Nat) : LoopsOk E call (lp61 call fuel base) fuel base 0 c61 = (And True (And True True)) := by kernel_rfl
theorem r61_fn : E.P.funcs[61]? = some Try.f61 := by kernel_rfl
theorem r61_body : Try.f61.body = some c61 := by kernel_rfl
theorem rf61_ok : RFok E 61 rf61 := by
  refine ⟨Try.f61, r61_fn, fun call fuel base args m r _ h => ?_⟩
  unfold rf61 at h
  split at h
  · rw [← r61_eq] at h
    exact kbody_sound (c := c61) r61_body (Eq.mpr (r61_lk call fuel base) (And.intro trivial (And.intro trivial trivial))) h
  · simp at h
end Go.AM
namespace Go.AM
open Go Go.Proofs
noncomputable def r62_L0 (call : CallF) (fuel base : Nat) (kp : Value → M → Res2) (kx0 : Value → Value → Value → M → Res2) (n : Nat) : Value → Value → Value → Value → Value → Value → M → Res2 :=
  Nat.rec (motive := fun _ => Value → Value → Value → Value → Value → Value → M → Res2) (fun _ _ _ _ _ _ _ => none)
    (fun _ ih x1 x2 x5 x20 x21 x22 m =>
      (k1 (mbin E .lss 3 x22 x21) fun v23_8 => (kb v23_8 (k1 (mindexAddr E.P 23 x20 x22) fun v24_9 => (k1 (xload E.P m 33 v24_9) fun v25_10 => (k1 (mslice E.P m 33 v25_10 (some (.int .i64 1)) none none) fun v27_11 => (kc (call base 95 [v27_11] m) (fun v28_12 m => (k1 (xload E.P m 33 x5) fun v29_13 => (k1 (mindexAddr E.P 33 v29_13 v28_12) fun v31_14 => (k1 (xload E.P m 3 v31_14) fun v32_15 => (k1 (mbin E .eql 3 v32_15 (.int .i64 0)) fun v33_16 => (kb v33_16 (k1 (xload E.P m 33 x5) fun v34_17 => (k1 (mindexAddr E.P 33 v25_10 (.int .i64 0)) fun v37_18 => (k1 (xload E.P m 3 v37_18) fun v38_19 => (k1 (mindexAddr E.P 33 v34_17 v28_12) fun v39_20 => (ks (xstore E.P base m 3 v39_20 v38_19) fun m => (k1 (mbin E .add 3 x22 (.int .i64 1)) fun v40_21 => (ih x1 x2 x5 x20 x21 v40_21 m))))))) (k1 (mbin E .add 3 x22 (.int .i64 1)) fun v40_22 => (ih x1 x2 x5 x20 x21 v40_22 m)))))))) (fun v m => kp v m))))) (kx0 x1 x2 x5 m)))) n
noncomputable def r62_L2 (call : CallF) (fuel base : Nat) (kr : Value → M → Res2) (kx2 : Value → Value → Value → M → Res2) (n : Nat) : Value → Value → Value → Value → Value → Value → M → Res2 :=
  Nat.rec (motive := fun _ => Value → Value → Value → Value → Value → Value → M → Res2) (fun _ _ _ _ _ _ _ => none)
    (fun _ ih x1 x5 x9 x46 x47 x48 m =>
      (k1 (mbin E .lss 3 x48 x47) fun v49_31 => (kb v49_31 (k1 (mindexAddr E.P 103 x46 x48) fun v51_32 => (k1 (xload E.P m 33 v51_32) fun v52_33 => (k2 (vcall E.P base m .len [33] [v52_33]) fun v54_34 m => (k1 (mbin E .gtr 3 v54_34 (.int .i64 0)) fun v55_35 => (kb v55_35 (k1 (xload E.P m 33 x5) fun v57_36 => (k1 (mindexAddr E.P 33 v57_36 x48) fun v59_37 => (k1 (xload E.P m 3 v59_37) fun v60_38 => (k1 (mbin E .eql 3 v60_38 (.int .i64 0)) fun v61_39 => (kb v61_39 (kr (.bool false) m) (k1 (mbin E .add 3 x48 (.int .i64 1)) fun v63_40 => (ih x1 x5 x9 x46 x47 v63_40 m))))))) (k1 (mbin E .add 3 x48 (.int .i64 1)) fun v63_41 => (ih x1 x5 x9 x46 x47 v63_41 m))))))) (kx2 x1 x5 x9 m)))) n
noncomputable def r62_L4 (call : CallF) (fuel base : Nat) (kp : Value → M → Res2) (kr : Value → M → Res2) (kx4 : M → Res2) (n : Nat) : Value → Value → Value → Value → Value → M → Res2 :=
  Nat.rec (motive := fun _ => Value → Value → Value → Value → Value → M → Res2) (fun _ _ _ _ _ _ => none)
    (fun _ ih x5 x9 x64 x65 x66 m =>
      (k1 (mbin E .lss 3 x66 x65) fun v67_47 => (kb v67_47 (k1 (mindexAddr E.P 23 x64 x66) fun v68_48 => (k1 (xload E.P m 33 v68_48) fun v69_49 => (k2 (xalloc E.P m 33) fun v14_50 m => (ks (xstore E.P base m 33 v14_50 v69_49) fun m => (k1 (xload E.P m 33 v14_50) fun v72_51 => (k1 (mslice E.P m 33 v72_51 (some (.int .i64 1)) none none) fun v73_52 => (kc (call base 95 [v73_52] m) (fun v74_53 m => (k1 (mindexAddr E.P 103 x9 v74_53) fun v75_54 => (k1 (xload E.P m 33 v75_54) fun v76_55 => (kc (call base 81 [v76_55, (.func (.func 97) #[] #[x5, v14_50])] m) (fun v78_56 m => (kb v78_56 (kr (.bool false) m) (k1 (mbin E .add 3 x66 (.int .i64 1)) fun v79_57 => (ih x5 x9 x64 x65 v79_57 m)))) (fun v m => kp v m))))) (fun v m => kp v m)))))))) (kx4 m)))) n
noncomputable def r62 (call : CallF) (fuel base : Nat) (x0 : Value) (x1 : Value) (m : M) : Res2 :=
  (k2 (xbox m x0) fun v2_1 m => (k1 (mfieldAddr E.P 76 v2_1 0) fun v16_2 => (k1 (xload E.P m 3 v16_2) fun v17_3 => (kc (call base 94 [v17_3] m) (fun v18_4 m => (k2 (xmakeSlice E.P m 33 v18_4 v18_4) fun v19_5 m => (k2 (xalloc E.P m 33) fun v5_6 m => (ks (xstore E.P base m 33 v5_6 v19_5) fun m => (k2 (vcall E.P base m .len [23] [x1]) fun v21_7 m => (r62_L0 call fuel base (fun v m => some (.pan v, m)) (fun y1_23 y2_24 y5_25 m => (k1 (xload E.P m 76 y2_24) fun v42_26 => (kc (call base 96 [v42_26] m) (fun v43_27 m => (k1 (mextract 0 v43_27) fun v44_28 => (k1 (mextract 1 v43_27) fun v45_29 => (k2 (vcall E.P base m .len [103] [v45_29]) fun v47_30 m => (r62_L2 call fuel base (fun y4_42 m => (fVal y4_42 fun v => some (.ret v, m))) (fun y1_43 y5_44 y9_45 m => (k2 (vcall E.P base m .len [23] [y1_43]) fun v65_46 m => (r62_L4 call fuel base (fun v m => some (.pan v, m)) (fun y4_58 m => (fVal y4_58 fun v => some (.ret v, m))) (fun m => (fVal (.bool true) fun v => some (.ret v, m))) fuel y5_44 y9_45 y1_43 v65_46 (.int .i64 0) m))) fuel y1_23 y5_25 v44_28 v45_29 v47_30 (.int .i64 0) m))))) (fun v m => some (.pan v, m))))) fuel x1 v2_1 v5_6 x1 v21_7 (.int .i64 0) m)))))) (fun v m => some (.pan v, m))))))
def keep62 : Keep := { region := fun i => ([[1, 2], [1, 2, 5], [1, 2, 5, 20, 21, 22], [1, 2, 5, 20, 21, 22, 23], [1, 2, 5, 7, 20, 21, 22], [1, 2, 5, 7, 8, 20, 21, 22], [1, 2, 5, 7, 8, 20, 21, 22, 33], [1, 2, 5, 20, 21, 22], [1, 2, 5, 20, 21, 22], [1, 5, 9, 10], [1, 5, 9, 46, 47, 48], [1, 5, 9, 46, 47, 48, 49], [1, 5, 9, 11, 12, 46, 47, 48], [1, 5, 9, 46, 47, 48, 62], [4], [1, 5, 9, 46, 47, 48], [5, 9, 64, 65, 66], [5, 9, 64, 65, 66, 67], [5, 9, 14, 64, 65, 66], [5, 9, 14, 15, 64, 65, 66], [5, 9, 64, 65, 66, 78], [4], [5, 9, 64, 65, 66], [4]] : List (List Nat))[i]?, exit := fun i => ([[1, 2, 5], [1, 2, 5, 20, 21, 22], [1, 5, 9], [1, 5, 9, 46, 47, 48], [], [5, 9, 64, 65, 66]] : List (List Nat))[i]?, ret := some [4] }
noncomputable def r62_L0_R (call : CallF) (fuel base n : Nat) (vs : List Value) (m : M) (K : KT) : Res2 := match vs with
  | [x1, x2, x5, x20, x21, x22] => r62_L0 call fuel base (fun v m => K (.pan v) { n := 80, l := [] } m) (fun y1 y2 y5 m => K (.exit 0) { n := 80, l := [(1, y1), (2, y2), (5, y5)] } m) n x1 x2 x5 x20 x21 x22 m
  | _ => none
noncomputable def r62_L2_R (call : CallF) (fuel base n : Nat) (vs : List Value) (m : M) (K : KT) : Res2 := match vs with
  | [x1, x5, x9, x46, x47, x48] => r62_L2 call fuel base (fun y4 m => K .ret { n := 80, l := [(4, y4)] } m) (fun y1 y5 y9 m => K (.exit 2) { n := 80, l := [(1, y1), (5, y5), (9, y9)] } m) n x1 x5 x9 x46 x47 x48 m
  | _ => none
noncomputable def r62_L4_R (call : CallF) (fuel base n : Nat) (vs : List Value) (m : M) (K : KT) : Res2 := match vs with
  | [x5, x9, x64, x65, x66] => r62_L4 call fuel base (fun v m => K (.pan v) { n := 80, l := [] } m) (fun y4 m => K .ret { n := 80, l := [(4, y4)] } m) (fun m => K (.exit 4) { n := 80, l := [] } m) n x5 x9 x64 x65 x66 m
  | _ => none
noncomputable def lp62 (call : CallF) (fuel base : Nat) : Lp := lpsel [(0, fun T m K => kslots 80 [1, 2, 5, 20, 21, 22] T fun vs => r62_L0_R call fuel base fuel vs m K), (2, fun T m K => kslots 80 [1, 5, 9, 46, 47, 48] T fun vs => r62_L2_R call fuel base fuel vs m K), (4, fun T m K => kslots 80 [5, 9, 64, 65, 66] T fun vs => r62_L4_R call fuel base fuel vs m K)]
noncomputable def c62 : Code := Try.f62.body.getD .skip
theorem r62_L0_lk (call : CallF) (fuel base : Nat) : LoopsOk E call (lp62 call fuel base) fuel base 0 (loopB (blockB (seqR (seqL (seqR (seqR c62)))))) = (And True (And (And True True) (And (And True (And True (And True (And True True)))) True))) := by kernel_rfl
theorem r62_L0_ok (call : CallF) (fuel base : Nat) : LpOk E call (lp62 call fuel base) fuel base 0 (loopB (blockB (seqR (seqL (seqR (seqR c62)))))) := by
  refine loop_ok (kp := keep62) (hb := Eq.mpr (r62_L0_lk call fuel base) (And.intro trivial (And.intro (And.intro trivial trivial) (And.intro (And.intro trivial (And.intro trivial (And.intro trivial (And.intro trivial trivial)))) trivial)))) 80 [1, 2, 5, 20, 21, 22] (fun n vs m K => r62_L0_R call fuel base n vs m K) ?_ ?_ (fun _ _ _ => rfl)
  · intro vs m K
    unfold r62_L0_R
    split <;> rfl
  · intro n vs m K hl
    match vs, hl with
    | [x1, x2, x5, x20, x21, x22], _ => show _ = _; kernel_rfl
theorem r62_L2_lk (call : CallF) (fuel base : Nat) : LoopsOk E call (lp62 call fuel base) fuel base 2 (loopB (blockB (seqR (seqL (seqR (seqR (seqR (seqR c62)))))))) = (And True (And (And True True) (And (And True (And True (And (And True True) True))) True))) := by kernel_rfl
theorem r62_L2_ok (call : CallF) (fuel base : Nat) : LpOk E call (lp62 call fuel base) fuel base 2 (loopB (blockB (seqR (seqL (seqR (seqR (seqR (seqR c62)))))))) := by
  refine loop_ok (kp := keep62) (hb := Eq.mpr (r62_L2_lk call fuel base) (And.intro trivial (And.intro (And.intro trivial trivial) (And.intro (And.intro trivial (And.intro trivial (And.intro (And.intro trivial trivial) trivial))) trivial)))) 80 [1, 5, 9, 46, 47, 48] (fun n vs m K => r62_L2_R call fuel base n vs m K) ?_ ?_ (fun _ _ _ => rfl)
  · intro vs m K
    unfold r62_L2_R
    split <;> rfl
  · intro n vs m K hl
    match vs, hl with
    | [x1, x5, x9, x46, x47, x48], _ => show _ = _; kernel_rfl
theorem r62_L4_lk (call : CallF) (fuel base : Nat) : LoopsOk E call (lp62 call fuel base) fuel base 4 (loopB (blockB (seqR (seqL (seqR (seqR (seqR (seqR (seqR c62))))))))) = (And True (And (And True True) (And (And True (And True (And True (And (And True True) True)))) True))) := by kernel_rfl
theorem r62_L4_ok (call : CallF) (fuel base : Nat) : LpOk E call (lp62 call fuel base) fuel base 4 (loopB (blockB (seqR (seqL (seqR (seqR (seqR (seqR (seqR c62))))))))) := by
  refine loop_ok (kp := keep62) (hb := Eq.mpr (r62_L4_lk call fuel base) (And.intro trivial (And.intro (And.intro trivial trivial) (And.intro (And.intro trivial (And.intro trivial (And.intro trivial (And.intro (And.intro trivial trivial) trivial)))) trivial)))) 80 [5, 9, 64, 65, 66] (fun n vs m K => r62_L4_R call fuel base n vs m K) ?_ ?_ (fun _ _ _ => rfl)
  · intro vs m K
    unfold r62_L4_R
    split <;> rfl
  · intro n vs m K hl
    match vs, hl with
    | [x5, x9, x64, x65, x66], _ => show _ = _; kernel_rfl
theorem r62_eq (call : CallF) (fuel base : Nat) (x0 : Value) (x1 : Value) (m : M) : kbody E call keep62 (lp62 call fuel base) base Try.f62 [x0, x1] m = r62 call fuel base x0 x1 m := by
  kernel_rfl
noncomputable def rf62 : RF := fun call fuel base args m => match args with
  | [x0, x1] => r62 call fuel base x0 x1 m
  | _ => none
theorem r62_lk (call : CallF) (fuel base : Nat) : LoopsOk E call (lp62 call fuel base) fuel base 0 c62 = (And True (And True (And (And True (LpOk E call (lp62 call fuel base) fuel base 0 (loopB (blockB (seqR (seqL (seqR (seqR c62)))))))) (And True (And (And True (LpOk E call (lp62 call fuel base) fuel base 2 (loopB (blockB (seqR (seqL (seqR (seqR (seqR (seqR c62)))))))))) (And (And True (LpOk E call (lp62 call fuel base) fuel base 4 (loopB (blockB (seqR (seqL (seqR (seqR (seqR (seqR (seqR c62))))))))))) (And True True))))))) := by kernel_rfl
theorem r62_fn : E.P.funcs[62]? = some Try.f62 := by kernel_rfl
theorem r62_body : Try.f62.body = some c62 := by kernel_rfl
theorem rf62_ok : RFok E 62 rf62 := by
  refine ⟨Try.f62, r62_fn, fun call fuel base args m r _ h => ?_⟩
  unfold rf62 at h
  split at h
  · rw [← r62_eq] at h
    exact kbody_sound (c := c62) r62_body (Eq.mpr (r62_lk call fuel base) (And.intro trivial (And.intro trivial (And.intro (And.intro trivial (r62_L0_ok call fuel base)) (And.intro trivial (And.intro (And.intro trivial (r62_L2_ok call fuel base)) (And.intro (And.intro trivial (r62_L4_ok call fuel base)) (And.intro trivial trivial)))))))) h
  · simp at h
end Go.AM
namespace Go.AM
open Go Go.Proofs
noncomputable def r68 (call : CallF) (fuel base : Nat) (x0 : Value) (m : M) : Res2 :=
  (k1 (mbin E .gtr 3 x0 (.int .i64 1099511627776)) fun v5_1 => (kb v5_1 (some (.ret (.tuple #[(.int .i64 0), (.int .i64 8)]), m)) (some (.ret (.tuple #[x0, (.int .i64 0)]), m))))
def keep68 : Keep := { region := fun i => ([[0], [0, 5], [2, 3], [2, 3]] : List (List Nat))[i]?, exit := fun i => ([] : List (List Nat))[i]?, ret := some [2, 3] }
noncomputable def lp68 (call : CallF) (fuel base : Nat) : Lp := lpsel []
noncomputable def c68 : Code := Try.f68.body.getD .skip
theorem r68_eq (call : CallF) (fuel base : Nat) (x0 : Value) (m : M) : kbody E call keep68 (lp68 call fuel base) base Try.f68 [x0] m = r68 call fuel base x0 m := by
  kernel_rfl
noncomputable def rf68 : RF := fun call fuel base args m => match args with
  | [x0] => r68 call fuel base x0 m
  | _ => none
theorem r68_lk (call : CallF) (fuel base : Nat) : LoopsOk E call (lp68 call fuel base) fuel base 0 c68 = (And True (And (And True (And (And True True) True)) (And True True))) := by kernel_rfl
theorem r68_fn : E.P.funcs[68]? = some Try.f68 := by kernel_rfl
theorem r68_body : Try.f68.body = some c68 := by kernel_rfl
theorem rf68_ok : RFok E 68 rf68 := by
  refine ⟨Try.f68, r68_fn, fun call fuel base args m r _ h => ?_⟩
  unfold rf68 at h
  split at h
  · rw [← r68_eq] at h
    exact kbody_sound (c := c68) r68_body (Eq.mpr (r68_lk call fuel base) (And.intro trivial (And.intro (And.intro trivial (And.intro (And.intro trivial trivial) trivial)) (And.intro trivial trivial)))) h
  · simp at h
end Go.AM
namespace Go.AM
open Go Go.Proofs
noncomputable def r69_L0 (call : CallF) (fuel base : Nat) (kp : Value → M → Res2) (kx0 : Value → M → Res2) (n : Nat) : Value → Value → Value → Value → M → Res2 :=
  Nat.rec (motive := fun _ => Value → Value → Value → Value → M → Res2) (fun _ _ _ _ _ => none)
    (fun _ ih x5 x13 x14 x15 m =>
      (k1 (mbin E .lss 3 x15 x14) fun v16_7 => (kb v16_7 (k1 (mindexAddr E.P 33 x13 x15) fun v17_8 => (k1 (xload E.P m 3 v17_8) fun v18_9 => (kc (call base 99 [x5, v18_9] m) (fun v21_10 m => (k1 (mbin E .add 3 x15 (.int .i64 1)) fun v22_11 => (ih v21_10 x13 x14 v22_11 m))) (fun v m => kp v m)))) (kx0 x5 m)))) n
noncomputable def r69 (call : CallF) (fuel base : Nat) (x0 : Value) (x1 : Value) (m : M) : Res2 :=
  (k2 (xbox m x0) fun v2_1 m => (k1 (xload E.P m 76 v2_1) fun v8_2 => (kc (call base 98 [v8_2, x1] m) (fun v10_3 m => (k1 (mindexAddr E.P 23 v10_3 x1) fun v12_4 => (k1 (xload E.P m 33 v12_4) fun v13_5 => (k2 (vcall E.P base m .len [33] [v13_5]) fun v14_6 m => (r69_L0 call fuel base (fun v m => some (.pan v, m)) (fun y5_12 m => (fVal y5_12 fun v => some (.ret v, m))) fuel (.int .i64 0) v13_5 v14_6 (.int .i64 0) m))))) (fun v m => some (.pan v, m)))))
def keep69 : Keep := { region := fun i => ([[1, 2], [1, 2, 5], [5, 13, 14, 15], [5, 13, 14, 15, 16], [5, 7, 13, 14, 15], [5, 13, 14, 15], [5, 13, 14, 15], [4]] : List (List Nat))[i]?, exit := fun i => ([[5], [5, 13, 14, 15]] : List (List Nat))[i]?, ret := some [4] }
noncomputable def r69_L0_R (call : CallF) (fuel base n : Nat) (vs : List Value) (m : M) (K : KT) : Res2 := match vs with
  | [x5, x13, x14, x15] => r69_L0 call fuel base (fun v m => K (.pan v) { n := 24, l := [] } m) (fun y5 m => K (.exit 0) { n := 24, l := [(5, y5)] } m) n x5 x13 x14 x15 m
  | _ => none
noncomputable def lp69 (call : CallF) (fuel base : Nat) : Lp := lpsel [(0, fun T m K => kslots 24 [5, 13, 14, 15] T fun vs => r69_L0_R call fuel base fuel vs m K)]
noncomputable def c69 : Code := Try.f69.body.getD .skip
theorem r69_L0_lk (call : CallF) (fuel base : Nat) : LoopsOk E call (lp69 call fuel base) fuel base 0 (loopB (blockB (seqR (seqL (seqR (seqR c69)))))) = (And True (And (And True True) (And (And True True) True))) := by kernel_rfl
theorem r69_L0_ok (call : CallF) (fuel base : Nat) : LpOk E call (lp69 call fuel base) fuel base 0 (loopB (blockB (seqR (seqL (seqR (seqR c69)))))) := by
  refine loop_ok (kp := keep69) (hb := Eq.mpr (r69_L0_lk call fuel base) (And.intro trivial (And.intro (And.intro trivial trivial) (And.intro (And.intro trivial trivial) trivial)))) 24 [5, 13, 14, 15] (fun n vs m K => r69_L0_R call fuel base n vs m K) ?_ ?_ (fun _ _ _ => rfl)
  · intro vs m K
    unfold r69_L0_R
    split <;> rfl
  · intro n vs m K hl
    match vs, hl with
    | [x5, x13, x14, x15], _ => show _ = _; kernel_rfl
theorem r69_eq (call : CallF) (fuel base : Nat) (x0 : Value) (x1 : Value) (m : M) : kbody E call keep69 (lp69 call fuel base) base Try.f69 [x0, x1] m = r69 call fuel base x0 x1 m := by
  kernel_rfl
noncomputable def rf69 : RF := fun call fuel base args m => match args with
  | [x0, x1] => r69 call fuel base x0 x1 m
  | _ => none
theorem r69_lk (call : CallF) (fuel base : Nat) : LoopsOk E call (lp69 call fuel base) fuel base 0 c69 = (And True (And True (And (And True (LpOk E call (lp69 call fuel base) fuel base 0 (loopB (blockB (seqR (seqL (seqR (seqR c69)))))))) (And True True)))) := by kernel_rfl
theorem r69_fn : E.P.funcs[69]? = some Try.f69 := by kernel_rfl
theorem r69_body : Try.f69.body = some c69 := by kernel_rfl
theorem rf69_ok : RFok E 69 rf69 := by
  refine ⟨Try.f69, r69_fn, fun call fuel base args m r _ h => ?_⟩
  unfold rf69 at h
  split at h
  · rw [← r69_eq] at h
    exact kbody_sound (c := c69) r69_body (Eq.mpr (r69_lk call fuel base) (And.intro trivial (And.intro trivial (And.intro (And.intro trivial (r69_L0_ok call fuel base)) (And.intro trivial trivial))))) h
  · simp at h
end Go.AM
namespace Go.AM
open Go Go.Proofs
noncomputable def r74_L2 (call : CallF) (fuel base : Nat) (kp : Value → M → Res2) (kx2 : Value → Value → Value → Value → Value → Value → M → Res2) (n : Nat) : Value → Value → Value → Value → Value → Value → Value → Value → Value → M → Res2 :=
  Nat.rec (motive := fun _ => Value → Value → Value → Value → Value → Value → Value → Value → Value → M → Res2) (fun _ _ _ _ _ _ _ _ _ _ => none)
    (fun _ ih x1 x2 x5 x7 x8 x9 x25 x26 x27 m =>
      (k1 (mbin E .lss 3 x27 x26) fun v28_10 => (kb v28_10 (k1 (mindexAddr E.P 103 x25 x27) fun v30_11 => (k1 (xload E.P m 33 v30_11) fun v31_12 => (k2 (vcall E.P base m .len [33] [v31_12]) fun v33_13 m => (k1 (mbin E .gtr 3 v33_13 (.int .i64 0)) fun v34_14 => (kb v34_14 (k1 (mindexAddr E.P 23 x5 x9) fun v38_15 => (k1 (xload E.P m 33 v38_15) fun v39_16 => (k1 (mindexAddr E.P 33 v39_16 x27) fun v41_17 => (k1 (xload E.P m 3 v41_17) fun v42_18 => (k1 (mbin E .eql 3 v42_18 (.int .i64 0)) fun v43_19 => (kb v43_19 (k1 (mbin E .sub 3 x9 (.int .i64 1)) fun v48_20 => (k1 (mindexAddr E.P 23 x5 v48_20) fun v49_21 => (k1 (xload E.P m 33 v49_21) fun v50_22 => (k1 (mindexAddr E.P 33 v50_22 x27) fun v52_23 => (k1 (xload E.P m 3 v52_23) fun v53_24 => (k1 (mbin E .gtr 3 v53_24 (.int .i64 0)) fun v54_25 => (kb v54_25 (k2 (xbuildSlice E.P m 33 1 [(0, x9)]) fun v58_26 m => (k1 (mfieldAddr E.P 76 x2 0) fun v60_27 => (k1 (xload E.P m 3 v60_27) fun v61_28 => (kc (call base 107 [x27, v61_28] m) (fun v62_29 m => (k2 (xbuildSlice E.P m 23 2 [(0, v58_26), (1, v62_29)]) fun v63_30 m => (kc (call base 106 [v63_30] m) (fun v64_31 m => (k2 (xbuildSlice E.P m 23 1 [(0, v64_31)]) fun v65_32 m => (k2 (vcall E.P base m .append [23, 23] [x8, v65_32]) fun v66_33 m => (k1 (mbin E .add 3 x27 (.int .i64 1)) fun v67_34 => (ih x1 x2 x5 x7 v66_33 x9 x25 x26 v67_34 m))))) (fun v m => kp v m)))) (fun v m => kp v m))))) (k1 (mbin E .add 3 x27 (.int .i64 1)) fun v67_35 => (ih x1 x2 x5 x7 x8 x9 x25 x26 v67_35 m))))))))) (k1 (mbin E .add 3 x27 (.int .i64 1)) fun v67_36 => (ih x1 x2 x5 x7 x8 x9 x25 x26 v67_36 m)))))))) (k1 (mbin E .add 3 x27 (.int .i64 1)) fun v67_37 => (ih x1 x2 x5 x7 x8 x9 x25 x26 v67_37 m))))))) (kx2 x1 x2 x5 x7 x8 x9 m)))) n
noncomputable def r74_L0 (call : CallF) (fuel base : Nat) (kp : Value → M → Res2) (kx0 : Value → M → Res2) (n : Nat) : Value → Value → Value → Value → Value → Value → M → Res2 :=
  Nat.rec (motive := fun _ => Value → Value → Value → Value → Value → Value → M → Res2) (fun _ _ _ _ _ _ _ => none)
    (fun _ ih x1 x2 x5 x7 x8 x9 m =>
      (k1 (mbin E .lss 3 x9 x1) fun v22_8 => (kb v22_8 (k2 (vcall E.P base m .len [103] [x7]) fun v26_9 m => (r74_L2 call fuel base (fun v m => kp v m) (fun y1_38 y2_39 y5_40 y7_41 y8_42 y9_43 m => (k1 (mbin E .add 3 y9_43 (.int .i64 1)) fun v24_44 => (ih y1_38 y2_39 y5_40 y7_41 y8_42 v24_44 m))) fuel x1 x2 x5 x7 x8 x9 x7 v26_9 (.int .i64 0) m)) (kx0 x8 m)))) n
noncomputable def r74 (call : CallF) (fuel base : Nat) (x0 : Value) (x1 : Value) (m : M) : Res2 :=
  (k2 (xbox m x0) fun v2_1 m => (k1 (xload E.P m 76 v2_1) fun v12_2 => (kc (call base 98 [v12_2, x1] m) (fun v14_3 m => (k1 (xload E.P m 76 v2_1) fun v16_4 => (kc (call base 96 [v16_4] m) (fun v17_5 m => (k1 (mextract 0 v17_5) fun v18_6 => (k1 (mextract 1 v17_5) fun v19_7 => (r74_L0 call fuel base (fun v m => some (.pan v, m)) (fun y8_45 m => (fVal y8_45 fun v => some (.ret v, m))) fuel x1 v2_1 v14_3 v19_7 (.slice none 0 0) (.int .i64 1) m)))) (fun v m => some (.pan v, m))))) (fun v m => some (.pan v, m)))))
def keep74 : Keep := { region := fun i => ([[1, 2], [1, 2, 5], [1, 2, 5, 7], [1, 2, 5, 7, 8], [1, 2, 5, 7, 8, 9], [1, 2, 5, 7, 8, 9, 22], [1, 2, 5, 7, 8, 9], [1, 2, 5, 7, 8, 9, 25, 26, 27], [1, 2, 5, 7, 8, 9, 25, 26, 27, 28], [1, 2, 5, 7, 8, 9, 10, 11, 25, 26, 27], [1, 2, 5, 7, 8, 9, 10, 25, 26, 27, 55], [1, 2, 5, 7, 8, 9, 25, 26, 27], [1, 2, 5, 7, 8, 9, 25, 26, 27], [4]] : List (List Nat))[i]?, exit := fun i => ([[8], [1, 2, 5, 7, 8, 9], [1, 2, 5, 7, 8, 9], [1, 2, 5, 7, 8, 9, 25, 26, 27]] : List (List Nat))[i]?, ret := some [4] }
noncomputable def r74_L2_R (call : CallF) (fuel base n : Nat) (vs : List Value) (m : M) (K : KT) : Res2 := match vs with
  | [x1, x2, x5, x7, x8, x9, x25, x26, x27] => r74_L2 call fuel base (fun v m => K (.pan v) { n := 69, l := [] } m) (fun y1 y2 y5 y7 y8 y9 m => K (.exit 2) { n := 69, l := [(1, y1), (2, y2), (5, y5), (7, y7), (8, y8), (9, y9)] } m) n x1 x2 x5 x7 x8 x9 x25 x26 x27 m
  | _ => none
noncomputable def r74_L0_R (call : CallF) (fuel base n : Nat) (vs : List Value) (m : M) (K : KT) : Res2 := match vs with
  | [x1, x2, x5, x7, x8, x9] => r74_L0 call fuel base (fun v m => K (.pan v) { n := 69, l := [] } m) (fun y8 m => K (.exit 0) { n := 69, l := [(8, y8)] } m) n x1 x2 x5 x7 x8 x9 m
  | _ => none
noncomputable def lp74 (call : CallF) (fuel base : Nat) : Lp := lpsel [(2, fun T m K => kslots 69 [1, 2, 5, 7, 8, 9, 25, 26, 27] T fun vs => r74_L2_R call fuel base fuel vs m K), (0, fun T m K => kslots 69 [1, 2, 5, 7, 8, 9] T fun vs => r74_L0_R call fuel base fuel vs m K)]
noncomputable def c74 : Code := Try.f74.body.getD .skip
theorem r74_L2_lk (call : CallF) (fuel base : Nat) : LoopsOk E call (lp74 call fuel base) fuel base 2 (loopB (blockB (seqR (blockB (seqL (seqR (loopB (blockB (seqR (seqL (seqR (seqR (seqR (seqR c74)))))))))))))) = (And True (And (And True True) (And (And True (And True (And True True))) True))) := by kernel_rfl
theorem r74_L2_ok (call : CallF) (fuel base : Nat) : LpOk E call (lp74 call fuel base) fuel base 2 (loopB (blockB (seqR (blockB (seqL (seqR (loopB (blockB (seqR (seqL (seqR (seqR (seqR (seqR c74)))))))))))))) := by
  refine loop_ok (kp := keep74) (hb := Eq.mpr (r74_L2_lk call fuel base) (And.intro trivial (And.intro (And.intro trivial trivial) (And.intro (And.intro trivial (And.intro trivial (And.intro trivial trivial))) trivial)))) 69 [1, 2, 5, 7, 8, 9, 25, 26, 27] (fun n vs m K => r74_L2_R call fuel base n vs m K) ?_ ?_ (fun _ _ _ => rfl)
  · intro vs m K
    unfold r74_L2_R
    split <;> rfl
  · intro n vs m K hl
    match vs, hl with
    | [x1, x2, x5, x7, x8, x9, x25, x26, x27], _ => show _ = _; kernel_rfl
theorem r74_L0_lk (call : CallF) (fuel base : Nat) : LoopsOk E call (lp74 call fuel base) fuel base 0 (loopB (blockB (seqR (seqL (seqR (seqR (seqR (seqR c74)))))))) = (And (And True (And True True)) (And (And True (LpOk E call (lp74 call fuel base) fuel base 2 (loopB (blockB (seqR (blockB (seqL (seqR (loopB (blockB (seqR (seqL (seqR (seqR (seqR (seqR c74)))))))))))))))) True)) := by kernel_rfl
theorem r74_L0_ok (call : CallF) (fuel base : Nat) : LpOk E call (lp74 call fuel base) fuel base 0 (loopB (blockB (seqR (seqL (seqR (seqR (seqR (seqR c74)))))))) := by
  refine loop_ok (kp := keep74) (hb := Eq.mpr (r74_L0_lk call fuel base) (And.intro (And.intro trivial (And.intro trivial trivial)) (And.intro (And.intro trivial (r74_L2_ok call fuel base)) trivial))) 69 [1, 2, 5, 7, 8, 9] (fun n vs m K => r74_L0_R call fuel base n vs m K) ?_ ?_ (fun _ _ _ => rfl)
  · intro vs m K
    unfold r74_L0_R
    split <;> rfl
  · intro n vs m K hl
    match vs, hl with
    | [x1, x2, x5, x7, x8, x9], _ => show _ = _; kernel_rfl
theorem r74_eq (call : CallF) (fuel base : Nat) (x0 : Value) (x1 : Value) (m : M) : kbody E call keep74 (lp74 call fuel base) base Try.f74 [x0, x1] m = r74 call fuel base x0 x1 m := by
  kernel_rfl
noncomputable def rf74 : RF := fun call fuel base args m => match args with
  | [x0, x1] => r74 call fuel base x0 x1 m
  | _ => none
theorem r74_lk (call : CallF) (fuel base : Nat) : LoopsOk E call (lp74 call fuel base) fuel base 0 c74 = (And True (And True (And True (And True (And (And True (LpOk E call (lp74 call fuel base) fuel base 0 (loopB (blockB (seqR (seqL (seqR (seqR (seqR (seqR c74)))))))))) (And True True)))))) := by kernel_rfl
theorem r74_fn : E.P.funcs[74]? = some Try.f74 := by kernel_rfl
theorem r74_body : Try.f74.body = some c74 := by kernel_rfl
theorem rf74_ok : RFok E 74 rf74 := by
  refine ⟨Try.f74, r74_fn, fun call fuel base args m r _ h => ?_⟩
  unfold rf74 at h
  split at h
  · rw [← r74_eq] at h
    exact kbody_sound (c := c74) r74_body (Eq.mpr (r74_lk call fuel base) (And.intro trivial (And.intro trivial (And.intro trivial (And.intro trivial (And.intro (And.intro trivial (r74_L0_ok call fuel base)) (And.intro trivial trivial))))))) h
  · simp at h
end Go.AM
namespace Go.AM
open Go Go.Proofs
noncomputable def r80 (call : CallF) (fuel base : Nat) (x0 : Value) (m : M) : Res2 :=
  (k1 (mbin E .leq 3 (.int .i64 1) x0) fun v4_1 => (kb v4_1 (k1 (mbin E .leq 3 x0 (.int .i64 4)) fun v7_2 => (fVal v7_2 fun v => some (.ret v, m))) (fVal (.bool false) fun v => some (.ret v, m))))
def keep80 : Keep := { region := fun i => ([[0], [2]] : List (List Nat))[i]?, exit := fun i => ([] : List (List Nat))[i]?, ret := some [2] }
noncomputable def lp80 (call : CallF) (fuel base : Nat) : Lp := lpsel []
noncomputable def c80 : Code := Try.f80.body.getD .skip
theorem r80_eq (call : CallF) (fuel base : Nat) (x0 : Value) (m : M) : kbody E call keep80 (lp80 call fuel base) base Try.f80 [x0] m = r80 call fuel base x0 m := by
  kernel_rfl
noncomputable def rf80 : RF := fun call fuel base args m => match args with
  | [x0] => r80 call fuel base x0 m
  | _ => none
theorem r80_lk (call : CallF) (fuel base : Nat) : LoopsOk E call (lp80 call fuel base) fuel base 0 c80 = (And True (And True True)) := by kernel_rfl
theorem r80_fn : E.P.funcs[80]? = some Try.f80 := by kernel_rfl
theorem r80_body : Try.f80.body = some c80 := by kernel_rfl
theorem rf80_ok : RFok E 80 rf80 := by
  refine ⟨Try.f80, r80_fn, fun call fuel base args m r _ h => ?_⟩
  unfold rf80 at h
  split at h
  · rw [← r80_eq] at h
    exact kbody_sound (c := c80) r80_body (Eq.mpr (r80_lk call fuel base) (And.intro trivial (And.intro trivial trivial))) h
  · simp at h
end Go.AM
namespace Go.AM
open Go Go.Proofs
noncomputable def r81 (call : CallF) (fuel base : Nat) (x0 : Value) (x1 : Value) (m : M) : Res2 :=
  (kc (call base 112 [x0, x1] m) (fun v7_1 m => (k1 (mbin E .geq 3 v7_1 (.int .i64 0)) fun v8_2 => (fVal v8_2 fun v => some (.ret v, m)))) (fun v m => some (.pan v, m)))
def keep81 : Keep := { region := fun i => ([[0, 1], [4]] : List (List Nat))[i]?, exit := fun i => ([] : List (List Nat))[i]?, ret := some [4] }
noncomputable def lp81 (call : CallF) (fuel base : Nat) : Lp := lpsel []
noncomputable def c81 : Code := Try.f81.body.getD .skip
theorem r81_eq (call : CallF) (fuel base : Nat) (x0 : Value) (x1 : Value) (m : M) : kbody E call keep81 (lp81 call fuel base) base Try.f81 [x0, x1] m = r81 call fuel base x0 x1 m := by
  kernel_rfl
noncomputable def rf81 : RF := fun call fuel base args m => match args with
  | [x0, x1] => r81 call fuel base x0 x1 m
  | _ => none
theorem r81_lk (call : CallF) (fuel base : Nat) : LoopsOk E call (lp81 call fuel base) fuel base 0 c81 = (And True (And True True)) := by kernel_rfl
theorem r81_fn : E.P.funcs[81]? = some Try.f81 := by kernel_rfl
theorem r81_body : Try.f81.body = some c81 := by kernel_rfl
theorem rf81_ok : RFok E 81 rf81 := by
  refine ⟨Try.f81, r81_fn, fun call fuel base args m r _ h => ?_⟩
  unfold rf81 at h
  split at h
  · rw [← r81_eq] at h
    exact kbody_sound (c := c81) r81_body (Eq.mpr (r81_lk call fuel base) (And.intro trivial (And.intro trivial trivial))) h
  · simp at h
end Go.AM
namespace Go.AM
open Go Go.Proofs
noncomputable def r82 (call : CallF) (fuel base : Nat) (x0 : Value) (m : M) : Res2 :=
  (k1 (mbin E .lss 3 x0 (.int .i64 0)) fun v4_1 => (kb v4_1 (fVal (.bool true) fun v => some (.ret v, m)) (k1 (mbin E .geq 3 x0 (.int .i64 8)) fun v7_2 => (fVal v7_2 fun v => some (.ret v, m)))))
def keep82 : Keep := { region := fun i => ([[0], [2]] : List (List Nat))[i]?, exit := fun i => ([] : List (List Nat))[i]?, ret := some [2] }
noncomputable def lp82 (call : CallF) (fuel base : Nat) : Lp := lpsel []
noncomputable def c82 : Code := Try.f82.body.getD .skip
theorem r82_eq (call : CallF) (fuel base : Nat) (x0 : Value) (m : M) : kbody E call keep82 (lp82 call fuel base) base Try.f82 [x0] m = r82 call fuel base x0 m := by
  kernel_rfl
noncomputable def rf82 : RF := fun call fuel base args m => match args with
  | [x0] => r82 call fuel base x0 m
  | _ => none
theorem r82_lk (call : CallF) (fuel base : Nat) : LoopsOk E call (lp82 call fuel base) fuel base 0 c82 = (And True (And True True)) := by kernel_rfl
theorem r82_fn : E.P.funcs[82]? = some Try.f82 := by kernel_rfl
theorem r82_body : Try.f82.body = some c82 := by kernel_rfl
theorem rf82_ok : RFok E 82 rf82 := by
  refine ⟨Try.f82, r82_fn, fun call fuel base args m r _ h => ?_⟩
  unfold rf82 at h
  split at h
  · rw [← r82_eq] at h
    exact kbody_sound (c := c82) r82_body (Eq.mpr (r82_lk call fuel base) (And.intro trivial (And.intro trivial trivial))) h
  · simp at h
end Go.AM
namespace Go.AM
open Go Go.Proofs
noncomputable def r84 (call : CallF) (fuel base : Nat) (x0 : Value) (x1 : Value) (m : M) : Res2 :=
  (k2 (xbox m x1) fun v3_1 m => (k1 (xload E.P m 45 v3_1) fun v6_2 => (kc (call base 114 [x0, v6_2] m) (fun v7_3 m => (k1 (mbin E .geq 3 v7_3 (.int .i64 0)) fun v8_4 => (fVal v8_4 fun v => some (.ret v, m)))) (fun v m => some (.pan v, m)))))
def keep84 : Keep := { region := fun i => ([[0, 3], [4]] : List (List Nat))[i]?, exit := fun i => ([] : List (List Nat))[i]?, ret := some [4] }
noncomputable def lp84 (call : CallF) (fuel base : Nat) : Lp := lpsel []
noncomputable def c84 : Code := Try.f84.body.getD .skip
theorem r84_eq (call : CallF) (fuel base : Nat) (x0 : Value) (x1 : Value) (m : M) : kbody E call keep84 (lp84 call fuel base) base Try.f84 [x0, x1] m = r84 call fuel base x0 x1 m := by
  kernel_rfl
noncomputable def rf84 : RF := fun call fuel base args m => match args with
  | [x0, x1] => r84 call fuel base x0 x1 m
  | _ => none
theorem r84_lk (call : CallF) (fuel base : Nat) : LoopsOk E call (lp84 call fuel base) fuel base 0 c84 = (And True (And True True)) := by kernel_rfl
theorem r84_fn : E.P.funcs[84]? = some Try.f84 := by kernel_rfl
theorem r84_body : Try.f84.body = some c84 := by kernel_rfl
theorem rf84_ok : RFok E 84 rf84 := by
  refine ⟨Try.f84, r84_fn, fun call fuel base args m r _ h => ?_⟩
  unfold rf84 at h
  split at h
  · rw [← r84_eq] at h
    exact kbody_sound (c := c84) r84_body (Eq.mpr (r84_lk call fuel base) (And.intro trivial (And.intro trivial trivial))) h
  · simp at h
end Go.AM
namespace Go.AM
open Go Go.Proofs
noncomputable def r85 (call : CallF) (fuel base : Nat) (x0 : Value) (m : M) : Res2 :=
  (k1 (mbin E .lss 3 x0 (.int .i64 0)) fun v4_1 => (kb v4_1 (fVal (.bool true) fun v => some (.ret v, m)) (k1 (mbin E .geq 3 x0 (.int .i64 2)) fun v7_2 => (fVal v7_2 fun v => some (.ret v, m)))))
def keep85 : Keep := { region := fun i => ([[0], [2]] : List (List Nat))[i]?, exit := fun i => ([] : List (List Nat))[i]?, ret := some [2] }
noncomputable def lp85 (call : CallF) (fuel base : Nat) : Lp := lpsel []
noncomputable def c85 : Code := Try.f85.body.getD .skip
theorem r85_eq (call : CallF) (fuel base : Nat) (x0 : Value) (m : M) : kbody E call keep85 (lp85 call fuel base) base Try.f85 [x0] m = r85 call fuel base x0 m := by
  kernel_rfl
noncomputable def rf85 : RF := fun call fuel base args m => match args with
  | [x0] => r85 call fuel base x0 m
  | _ => none
theorem r85_lk (call : CallF) (fuel base : Nat) : LoopsOk E call (lp85 call fuel base) fuel base 0 c85 = (And True (And True True)) := by kernel_rfl
theorem r85_fn : E.P.funcs[85]? = some Try.f85 := by kernel_rfl
theorem r85_body : Try.f85.body = some c85 := by kernel_rfl
theorem rf85_ok : RFok E 85 rf85 := by
  refine ⟨Try.f85, r85_fn, fun call fuel base args m r _ h => ?_⟩
  unfold rf85 at h
  split at h
  · rw [← r85_eq] at h
    exact kbody_sound (c := c85) r85_body (Eq.mpr (r85_lk call fuel base) (And.intro trivial (And.intro trivial trivial))) h
  · simp at h
end Go.AM
namespace Go.AM
open Go Go.Proofs
noncomputable def r86 (call : CallF) (fuel base : Nat) (x0 : Value) (x1 : Value) (m : M) : Res2 :=
  (k1 (mbin E .mul 3 (.int .i64 2) x0) fun v6_1 => (k1 (mbin E .add 3 (.int .i64 2) v6_1) fun v7_2 => (k1 (mbin E .add 3 v7_2 x1) fun v9_3 => (fVal v9_3 fun v => some (.ret v, m)))))
def keep86 : Keep := { region := fun i => ([[0, 1], [4]] : List (List Nat))[i]?, exit := fun i => ([] : List (List Nat))[i]?, ret := some [4] }
noncomputable def lp86 (call : CallF) (fuel base : Nat) : Lp := lpsel []
noncomputable def c86 : Code := Try.f86.body.getD .skip
theorem r86_eq (call : CallF) (fuel base : Nat) (x0 : Value) (x1 : Value) (m : M) : kbody E call keep86 (lp86 call fuel base) base Try.f86 [x0, x1] m = r86 call fuel base x0 x1 m := by
  kernel_rfl
noncomputable def rf86 : RF := fun call fuel base args m => match args with
  | [x0, x1] => r86 call fuel base x0 x1 m
  | _ => none
theorem r86_lk (call : CallF) (fuel base : Nat) : LoopsOk E call (lp86 call fuel base) fuel base 0 c86 = (And True (And True True)) := by kernel_rfl
theorem r86_fn : E.P.funcs[86]? = some Try.f86 := by kernel_rfl
theorem r86_body : Try.f86.body = some c86 := by kernel_rfl
theorem rf86_ok : RFok E 86 rf86 := by
  refine ⟨Try.f86, r86_fn, fun call fuel base args m r _ h => ?_⟩
  unfold rf86 at h
  split at h
  · rw [← r86_eq] at h
    exact kbody_sound (c := c86) r86_body (Eq.mpr (r86_lk call fuel base) (And.intro trivial (And.intro trivial trivial))) h
  · simp at h
end Go.AM
namespace Go.AM
open Go Go.Proofs
noncomputable def r87 (call : CallF) (fuel base : Nat) (x0 : Value) (m : M) : Res2 :=
  (k1 (mbin E .add 3 (.int .i64 1) x0) fun v4_1 => (fVal v4_1 fun v => some (.ret v, m)))
def keep87 : Keep := { region := fun i => ([[0], [2]] : List (List Nat))[i]?, exit := fun i => ([] : List (List Nat))[i]?, ret := some [2] }
noncomputable def lp87 (call : CallF) (fuel base : Nat) : Lp := lpsel []
noncomputable def c87 : Code := Try.f87.body.getD .skip
theorem r87_eq (call : CallF) (fuel base : Nat) (x0 : Value) (m : M) : kbody E call keep87 (lp87 call fuel base) base Try.f87 [x0] m = r87 call fuel base x0 m := by
  kernel_rfl
noncomputable def rf87 : RF := fun call fuel base args m => match args with
  | [x0] => r87 call fuel base x0 m
  | _ => none
theorem r87_lk (call : CallF) (fuel base : Nat) : LoopsOk E call (lp87 call fuel base) fuel base 0 c87 = (And True (And True True)) := by kernel_rfl
theorem r87_fn : E.P.funcs[87]? = some Try.f87 := by kernel_rfl
theorem r87_body : Try.f87.body = some c87 := by kernel_rfl
theorem rf87_ok : RFok E 87 rf87 := by
  refine ⟨Try.f87, r87_fn, fun call fuel base args m r _ h => ?_⟩
  unfold rf87 at h
  split at h
  · rw [← r87_eq] at h
    exact kbody_sound (c := c87) r87_body (Eq.mpr (r87_lk call fuel base) (And.intro trivial (And.intro trivial trivial))) h
  · simp at h
end Go.AM
