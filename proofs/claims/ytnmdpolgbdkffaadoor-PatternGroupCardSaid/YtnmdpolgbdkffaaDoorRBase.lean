import Derived.KernelRfl
import Derived.Laws.BytesArg
import Derived.Laws.StructEq
import Derived.Test.YtnmdpolgbdkffaaDoorRows
import Derived.WalkKit
import Derived.Test.YtnmdpolgbdkffaaDoorAmB
import Derived.Test.YtnmdpolgbdkffaaDoorAmModel
import Derived.Test.YtnmdpolgbdkffaaDoorAmOps6
import Derived.Test.YtnmdpolgbdkffaaDoorAmCode
import Derived.Test.YtnmdpolgbdkffaaDoorAmK2
import Derived.Test.YtnmdpolgbdkffaaDoorAmEq
set_option linter.unusedVariables false
set_option linter.unusedSimpArgs false
set_option linter.unusedSectionVars false
namespace Go.AM
open Go Go.Proofs
def seqL : Code → Code | .seq a _ => a | _ => .skip
def seqR : Code → Code | .seq _ a => a | _ => .skip
def condT : Code → Code | .cond _ a _ => a | _ => .skip
def blockB : Code → Code | .block _ a => a | _ => .skip
def loopB : Code → Code | .loop a => a | _ => .skip
noncomputable def E : Env where
  P := Tryd.prog
  pure := fun f => [10,11,12,13,16,17,18,19,22,25,26,27,28,33,34,35,36,37,39,40,41,42,45,46,49,50,51,52,53,54,55,56,58,60,61,62,63,64,66,67,68,69,70,72,73,74,75,77,78,79,80,81,82,84,85,86,87,88,90,92,93,94,95,96,97,98,99,100,101,102,103,104,105,106,107,108,109,110].contains f
  eqt := fun t => if t == 103 then [0, 2] else if t == 26 then [0, 2, 4] else if t == 50 then [0, 2, 4, 6, 8, 10] else []
  live := fun _ _ => none
def fieldSum (P : Program) (t : TypeId) : List (Nat × Nat × Bool) := (P.fieldsOf t).toList.map fun f => (f.type, f.offset, f.name == "_")
theorem flat_of {P : Program} {t : TypeId} {l : List (Nat × Nat × Bool)} {k : IntKind} (h1 : P.underlying t = some (.struct (P.fieldsOf t))) (h2 : P.stoodInHeld t = false) (h3 : P.eqGuardType P.depth t = false)
    (h3' : P.underlying 3 = some (.int k)) (h4' : P.underlying 4 = some .bool) (h4 : fieldSum P t = l) (h5 : ∀ q ∈ l, (q.1 = 3 ∨ q.1 = 4) ∧ q.2.2 = false) : flatFields P t (l.map fun q => 2 * q.2.1 + (if q.1 = 4 then 1 else 0)) := by
  have b3 : isBoolT P 3 = 0 := by unfold isBoolT; rw [h3']
  have b4 : isBoolT P 4 = 1 := by unfold isBoolT; rw [h4']
  have hq : ∀ f ∈ (P.fieldsOf t).toList, ((f.type = 3 ∨ f.type = 4) ∧ (f.name == "_") = false) := fun f hf =>
    h5 (f.type, f.offset, f.name == "_") (by rw [← h4]; exact List.mem_map.2 ⟨f, hf, rfl⟩)
  refine ⟨⟨h1, h2, h3⟩, ?_, fun f hf => ?_⟩
  · rw [← h4]
    unfold fieldSum
    rw [List.map_map]
    refine List.map_congr_left fun f hf => ?_
    rcases (hq f hf).1 with e | e
    · simp [e, b3]
    · simp [e, b4]
  · obtain ⟨e1, e2⟩ := hq f hf
    simp only [beq_eq_false_iff_ne] at e2
    refine ⟨?_, e2⟩
    rcases e1 with e | e
    · exact .inl ⟨⟨k, by rw [e]; exact h3'⟩, by rw [e]; exact b3⟩
    · exact .inr ⟨by rw [e]; exact h4', by rw [e]; exact b4⟩
theorem u3 : Tryd.prog.underlying 3 = some (.int .i64) := by kernel_rfl
theorem u4 : Tryd.prog.underlying 4 = some .bool := by kernel_rfl
theorem fl103 : flatFields Tryd.prog 103 [0, 2] := flat_of (l := [(3,0,false),(3,1,false)]) (by kernel_rfl) (by kernel_rfl) (by kernel_rfl) u3 u4 (by kernel_rfl) (by simp)
theorem fl26 : flatFields Tryd.prog 26 [0, 2, 4] := flat_of (l := [(3,0,false),(3,1,false),(3,2,false)]) (by kernel_rfl) (by kernel_rfl) (by kernel_rfl) u3 u4 (by kernel_rfl) (by simp)
theorem fl50 : flatFields Tryd.prog 50 [0, 2, 4, 6, 8, 10] := flat_of (l := [(3,0,false),(3,1,false),(3,2,false),(3,3,false),(3,4,false),(3,5,false)]) (by kernel_rfl) (by kernel_rfl) (by kernel_rfl) u3 u4 (by kernel_rfl) (by simp)
theorem nogAll : (Tryd.prog.funcs.toList.all fun fn => !(fn.body.isSome && fn.name == "runtime.NumGoroutine")) = true := by kernel_rfl
theorem E_good : E.Good where
  eqt := by
    intro t xs ys r w x y hne hc
    have ht : t = 103 ∨ t = 26 ∨ t = 50 := by
      unfold E at hne
      simp only [beq_iff_eq] at hne
      by_cases h1 : t = 103
      · exact .inl h1
      by_cases h2 : t = 26
      · exact .inr (.inl h2)
      by_cases h3 : t = 50
      · exact .inr (.inr h3)
      simp [h1, h2, h3] at hne
    rcases ht with rfl | rfl | rfl
    · exact eqt_flat fl103 w x y hc
    · exact eqt_flat fl26 w x y hc
    · exact eqt_flat fl50 w x y hc
  nog := by
    intro f fn hf hb
    have h := List.all_eq_true.1 nogAll fn (Array.mem_toList_iff.2 (Array.mem_of_getElem? hf))
    simpa [hb] using h
theorem E_mix : E.P.follows .mixedOrders = true := by kernel_rfl
end Go.AM
namespace Go.AM
open Go Go.Proofs
noncomputable def r6_L2 (call : CallF) (fuel base : Nat) (kp : Value → M → Res2) (kr : Value → M → Res2) (kx2 : Value → Value → Value → Value → Value → M → Res2) (n : Nat) : Value → Value → Value → Value → Value → Value → M → Res2 :=
  Nat.rec (motive := fun _ => Value → Value → Value → Value → Value → Value → M → Res2) (fun _ _ _ _ _ _ _ => none)
    (fun _ ih x0 x3 x5 x7 x8 x9 m =>
      (k2 (vcall E.P base m .len [30] [x3]) fun v82_39 m => (k1 (mbin E .lss 3 x9 v82_39) fun v83_40 => (kb v83_40 (k1 (mindexAddr E.P 30 x3 x7) fun v88_41 => (k1 (xload E.P m 50 v88_41) fun v89_42 => (k1 (mindexAddr E.P 30 x3 x9) fun v92_43 => (k1 (xload E.P m 50 v92_43) fun v93_44 => (kc (kB m (call m.length 27 [v89_42, v93_44] m)) (fun v94_45 m => (k2 (xalloc E.P m 50) fun v10_46 m => (ks (xstore E.P base m 50 v10_46 v94_45) fun m => (k1 (xload E.P m 26 x5) fun v96_47 => (k1 (xload E.P m 50 v10_46) fun v97_48 => (kc (call base 34 [x3, v96_47, v97_48] m) (fun v98_49 m => (k1 (mun .not v98_49) fun v99_50 => (kb v99_50 (kr (.bool false) m) (kb x8 (k1 (mbin E .add 3 x9 (.int .i64 1)) fun v85_51 => (ih x0 x3 x5 x7 (.bool true) v85_51 m)) (k1 (xload E.P m 50 v10_46) fun v102_52 => (kc (call base 35 [v102_52] m) (fun v103_53 m => (k1 (mbin E .eql 3 v103_53 (.int .i64 0)) fun v104_54 => (k1 (mbin E .add 3 x9 (.int .i64 1)) fun v85_55 => (ih x0 x3 x5 x7 v104_54 v85_55 m)))) (fun v m => kp v m))))))) (fun v m => kp v m))))))) (fun _ _ => none)))))) (kx2 x0 x3 x5 x7 x8 m))))) n
noncomputable def r6_L0 (call : CallF) (fuel base : Nat) (kp : Value → M → Res2) (kr : Value → M → Res2) (kx0 : M → Res2) (n : Nat) : Value → Value → Value → Value → M → Res2 :=
  Nat.rec (motive := fun _ => Value → Value → Value → Value → M → Res2) (fun _ _ _ _ _ => none)
    (fun _ ih x0 x3 x5 x7 m =>
      (k2 (vcall E.P base m .len [30] [x3]) fun v76_37 m => (k1 (mbin E .lss 3 x7 v76_37) fun v77_38 => (kb v77_38 (r6_L2 call fuel base (fun v m => kp v m) (fun y2_56 m => (kr y2_56 m)) (fun y0_57 y3_58 y5_59 y7_60 y8_61 m => (k1 (mindexAddr E.P 30 y3_58 y7_60) fun v110_62 => (k1 (xload E.P m 50 v110_62) fun v111_63 => (kc (call base 29 [y0_57, v111_63] m) (fun v112_64 m => (k1 (mextract 0 v112_64) fun v113_65 => (k1 (mextract 1 v112_64) fun v114_66 => (k1 (mun .not y8_61) fun v116_67 => (kb v116_67 (kr (.bool false) m) (k1 (mbin E .neq 27 v114_66 (.int .i64 0)) fun v119_68 => (kb v119_68 (kr (.bool false) m) (kc (call base 36 [y0_57, v113_65] m) (fun v124_69 m => (k1 (mun .not v124_69) fun v125_70 => (kb v125_70 (kr (.bool false) m) (k1 (mbin E .add 3 y7_60 (.int .i64 1)) fun v79_71 => (ih y0_57 y3_58 y5_59 v79_71 m))))) (fun v m => kp v m))))))))) (fun v m => kp v m))))) fuel x0 x3 x5 x7 (.bool false) (.int .i64 0) m) (kx0 m))))) n
noncomputable def r6 (call : CallF) (fuel base : Nat) (x0 : Value) (m : M) : Res2 :=
  (kc (call base 10 [x0] m) (fun v14_1 m => (k1 (mun .not v14_1) fun v15_2 => (kb v15_2 (kc (call base 11 [] m) (fun v16_3 m => (fVal v16_3 fun v => some (.ret v, m))) (fun v m => some (.pan v, m))) (kc (call base 14 [x0] m) (fun v19_4 m => (k1 (mextract 0 v19_4) fun v20_5 => (k1 (mextract 1 v19_4) fun v21_6 => (kc (call base 12 [x0] m) (fun v24_7 m => (k1 (mextract 0 v24_7) fun v25_8 => (k1 (mextract 1 v24_7) fun v26_9 => (k2 (xalloc E.P m 26) fun v5_10 m => (ks (xstore E.P base m 26 v5_10 v25_8) fun m => (k1 (mbin E .neq 27 v21_6 (.int .i64 0)) fun v28_11 => (kb v28_11 (k1 (mbin E .eql 27 v21_6 v26_9) fun v35_12 => (kb v35_12 (kc (call base 11 [] m) (fun v37_13 m => (fVal v37_13 fun v => some (.ret v, m))) (fun v m => some (.pan v, m))) (fVal (.bool false) fun v => some (.ret v, m)))) (k1 (mbin E .neq 27 v26_9 (.int .i64 0)) fun v31_14 => (kb v31_14 (k1 (mbin E .eql 27 v21_6 v26_9) fun v35_15 => (kb v35_15 (kc (call base 11 [] m) (fun v37_16 m => (fVal v37_16 fun v => some (.ret v, m))) (fun v m => some (.pan v, m))) (fVal (.bool false) fun v => some (.ret v, m)))) (k2 (vcall E.P base m .len [30] [v20_5]) fun v40_17 m => (k1 (mbin E .eql 3 v40_17 (.int .i64 0)) fun v41_18 => (kb v41_18 (fVal (.bool false) fun v => some (.ret v, m)) (k2 (vcall E.P base m .len [30] [v20_5]) fun v44_19 m => (k1 (mbin E .gtr 3 v44_19 (.int .i64 8)) fun v45_20 => (kb v45_20 (fVal (.bool false) fun v => some (.ret v, m)) (k1 (mfieldAddr E.P 26 v5_10 0) fun v48_21 => (k1 (xload E.P m 3 v48_21) fun v49_22 => (k1 (mbin E .lss 3 v49_22 (.int .i64 1)) fun v50_23 => (kb v50_23 (fVal (.bool false) fun v => some (.ret v, m)) (k1 (mfieldAddr E.P 26 v5_10 2) fun v53_24 => (k1 (xload E.P m 3 v53_24) fun v54_25 => (k1 (mbin E .lss 3 v54_25 (.int .i64 1)) fun v55_26 => (kb v55_26 (fVal (.bool false) fun v => some (.ret v, m)) (k1 (mfieldAddr E.P 26 v5_10 1) fun v58_27 => (k1 (xload E.P m 3 v58_27) fun v59_28 => (k1 (mbin E .lss 3 v59_28 (.int .i64 0)) fun v60_29 => (kb v60_29 (fVal (.bool false) fun v => some (.ret v, m)) (k1 (mfieldAddr E.P 26 v5_10 1) fun v63_30 => (k1 (xload E.P m 3 v63_30) fun v64_31 => (k1 (mfieldAddr E.P 26 v5_10 2) fun v65_32 => (k1 (xload E.P m 3 v65_32) fun v66_33 => (k1 (mbin E .geq 3 v64_31 v66_33) fun v67_34 => (kb v67_34 (fVal (.bool false) fun v => some (.ret v, m)) (kc (call base 33 [x0] m) (fun v71_35 m => (k1 (mun .not v71_35) fun v72_36 => (kb v72_36 (fVal (.bool false) fun v => some (.ret v, m)) (r6_L0 call fuel base (fun v m => some (.pan v, m)) (fun y2_72 m => (fVal y2_72 fun v => some (.ret v, m))) (fun m => (kc (call base 11 [] m) (fun v127_73 m => (fVal v127_73 fun v => some (.ret v, m))) (fun v m => some (.pan v, m)))) fuel x0 v20_5 v5_10 (.int .i64 0) m)))) (fun v m => some (.pan v, m)))))))))))))))))))))))))))))))))))) (fun v m => some (.pan v, m)))))) (fun v m => some (.pan v, m)))))) (fun v m => some (.pan v, m)))
def keep6 : Keep := { region := fun i => ([[0], [0, 15], [2], [0, 3, 4], [0, 3, 4, 5, 6], [0, 3, 4, 5, 6, 32], [2], [0, 3, 5, 73], [2], [0, 3, 5, 7], [0, 3, 5, 7, 77], [0, 3, 5, 7], [0, 3, 5, 7, 8], [0, 3, 5, 7, 8, 9], [0, 3, 5, 7, 8, 9, 83], [0, 3, 5, 7, 8, 9], [0, 3, 5, 7, 8, 9, 10], [0, 3, 5, 7, 8, 9, 10, 99], [2], [0, 3, 5, 7, 8, 9], [0, 3, 5, 7, 8, 11, 12], [0, 3, 5, 7, 126], [2], [2]] : List (List Nat))[i]?, exit := fun i => ([[], [0, 3, 5, 7], [0, 3, 5, 7, 8], [0, 3, 5, 7, 8, 9]] : List (List Nat))[i]?, ret := some [2] }
noncomputable def r6_L2_R (call : CallF) (fuel base n : Nat) (vs : List Value) (m : M) (K : KT) : Res2 := match vs with
  | [x0, x3, x5, x7, x8, x9] => r6_L2 call fuel base (fun v m => K (.pan v) { n := 128, l := [] } m) (fun y2 m => K .ret { n := 128, l := [(2, y2)] } m) (fun y0 y3 y5 y7 y8 m => K (.exit 2) { n := 128, l := [(0, y0), (3, y3), (5, y5), (7, y7), (8, y8)] } m) n x0 x3 x5 x7 x8 x9 m
  | _ => none
noncomputable def r6_L0_R (call : CallF) (fuel base n : Nat) (vs : List Value) (m : M) (K : KT) : Res2 := match vs with
  | [x0, x3, x5, x7] => r6_L0 call fuel base (fun v m => K (.pan v) { n := 128, l := [] } m) (fun y2 m => K .ret { n := 128, l := [(2, y2)] } m) (fun m => K (.exit 0) { n := 128, l := [] } m) n x0 x3 x5 x7 m
  | _ => none
noncomputable def lp6 (call : CallF) (fuel base : Nat) : Lp := lpsel [(2, fun T m K => kslots 128 [0, 3, 5, 7, 8, 9] T fun vs => r6_L2_R call fuel base fuel vs m K), (0, fun T m K => kslots 128 [0, 3, 5, 7] T fun vs => r6_L0_R call fuel base fuel vs m K)]
noncomputable def c6 : Code := Tryd.f6.body.getD .skip
theorem r6_L2_lk (call : CallF) (fuel base : Nat) : LoopsOk E call (lp6 call fuel base) fuel base 2 (loopB (blockB (seqR (seqL (seqR (blockB (seqL (seqR (loopB (blockB (seqR (seqL (seqR (seqR (seqR (seqR (seqR (seqR c6)))))))))))))))))) = (And (And True (And True True)) (And (And True (And (And True (And (And True True) True)) True)) True)) := by kernel_rfl
theorem r6_L2_ok (call : CallF) (fuel base : Nat) : LpOk E call (lp6 call fuel base) fuel base 2 (loopB (blockB (seqR (seqL (seqR (blockB (seqL (seqR (loopB (blockB (seqR (seqL (seqR (seqR (seqR (seqR (seqR (seqR c6)))))))))))))))))) := by
  refine loop_ok (kp := keep6) (hb := Eq.mpr (r6_L2_lk call fuel base) (And.intro (And.intro trivial (And.intro trivial trivial)) (And.intro (And.intro trivial (And.intro (And.intro trivial (And.intro (And.intro trivial trivial) trivial)) trivial)) trivial))) 128 [0, 3, 5, 7, 8, 9] (fun n vs m K => r6_L2_R call fuel base n vs m K) ?_ ?_ (fun _ _ _ => rfl)
  · intro vs m K
    unfold r6_L2_R
    split <;> rfl
  · intro n vs m K hl
    match vs, hl with
    | [x0, x3, x5, x7, x8, x9], _ => show _ = _; kernel_rfl
theorem r6_L0_lk (call : CallF) (fuel base : Nat) : LoopsOk E call (lp6 call fuel base) fuel base 0 (loopB (blockB (seqR (seqL (seqR (seqR (seqR (seqR (seqR (seqR c6)))))))))) = (And (And True (And True True)) (And (And True (And (And True (LpOk E call (lp6 call fuel base) fuel base 2 (loopB (blockB (seqR (seqL (seqR (blockB (seqL (seqR (loopB (blockB (seqR (seqL (seqR (seqR (seqR (seqR (seqR (seqR c6)))))))))))))))))))) (And True (And True (And (And True True) True))))) True)) := by kernel_rfl
theorem r6_L0_ok (call : CallF) (fuel base : Nat) : LpOk E call (lp6 call fuel base) fuel base 0 (loopB (blockB (seqR (seqL (seqR (seqR (seqR (seqR (seqR (seqR c6)))))))))) := by
  refine loop_ok (kp := keep6) (hb := Eq.mpr (r6_L0_lk call fuel base) (And.intro (And.intro trivial (And.intro trivial trivial)) (And.intro (And.intro trivial (And.intro (And.intro trivial (r6_L2_ok call fuel base)) (And.intro trivial (And.intro trivial (And.intro (And.intro trivial trivial) trivial))))) trivial))) 128 [0, 3, 5, 7] (fun n vs m K => r6_L0_R call fuel base n vs m K) ?_ ?_ (fun _ _ _ => rfl)
  · intro vs m K
    unfold r6_L0_R
    split <;> rfl
  · intro n vs m K hl
    match vs, hl with
    | [x0, x3, x5, x7], _ => show _ = _; kernel_rfl
theorem r6_eq (call : CallF) (fuel base : Nat) (x0 : Value) (m : M) : kbody E call keep6 (lp6 call fuel base) base Tryd.f6 [x0] m = r6 call fuel base x0 m := by
  kernel_rfl
noncomputable def rf6 : RF := fun call fuel base args m => match args with
  | [x0] => r6 call fuel base x0 m
  | _ => none
theorem r6_lk (call : CallF) (fuel base : Nat) : LoopsOk E call (lp6 call fuel base) fuel base 0 c6 = (And True (And (And True (And (And True True) True)) (And True (And True (And (And True (And (And True True) True)) (And (And True (And (And True True) True)) (And (And True (LpOk E call (lp6 call fuel base) fuel base 0 (loopB (blockB (seqR (seqL (seqR (seqR (seqR (seqR (seqR (seqR c6)))))))))))) (And True True)))))))) := by kernel_rfl
theorem r6_fn : E.P.funcs[6]? = some Tryd.f6 := by kernel_rfl
theorem r6_body : Tryd.f6.body = some c6 := by kernel_rfl
theorem rf6_ok : RFok E 6 rf6 := by
  refine ⟨Tryd.f6, r6_fn, fun call fuel base args m r _ h => ?_⟩
  unfold rf6 at h
  split at h
  · rw [← r6_eq] at h
    exact kbody_sound (c := c6) r6_body (Eq.mpr (r6_lk call fuel base) (And.intro trivial (And.intro (And.intro trivial (And.intro (And.intro trivial trivial) trivial)) (And.intro trivial (And.intro trivial (And.intro (And.intro trivial (And.intro (And.intro trivial trivial) trivial)) (And.intro (And.intro trivial (And.intro (And.intro trivial trivial) trivial)) (And.intro (And.intro trivial (r6_L0_ok call fuel base)) (And.intro trivial trivial))))))))) h
  · simp at h
end Go.AM
namespace Go.AM
open Go Go.Proofs
noncomputable def r10_L0 (call : CallF) (fuel base : Nat) (kr : Value → M → Res2) (kx0 : M → Res2) (n : Nat) : Value → Value → M → Res2 :=
  Nat.rec (motive := fun _ => Value → Value → M → Res2) (fun _ _ _ => none)
    (fun _ ih x0 x3 m =>
      (k2 (vcall E.P base m .len [22] [x0]) fun v6_1 m => (k1 (mbin E .lss 3 x3 v6_1) fun v7_2 => (kb v7_2 (k1 (mbin E .geq 3 x3 (.int .i64 20)) fun v11_3 => (kb v11_3 (kr (.bool false) m) (k1 (mindexAddr E.P 22 x0 x3) fun v15_4 => (k1 (xload E.P m 9 v15_4) fun v16_5 => (k2 (vcall E.P base m .len [9] [v16_5]) fun v17_6 m => (k1 (mbin E .gtr 3 v17_6 (.int .i64 20)) fun v18_7 => (kb v18_7 (kr (.bool false) m) (k1 (mbin E .add 3 x3 (.int .i64 1)) fun v9_8 => (ih x0 v9_8 m))))))))) (kx0 m))))) n
noncomputable def r10 (call : CallF) (fuel base : Nat) (x0 : Value) (m : M) : Res2 :=
  (r10_L0 call fuel base (fun y2_9 m => (fVal y2_9 fun v => some (.ret v, m))) (fun m => (fVal (.bool true) fun v => some (.ret v, m))) fuel x0 (.int .i64 0) m)
def keep10 : Keep := { region := fun i => ([[0], [0, 3], [0, 3, 7], [0, 3], [0, 3, 19], [2], [2]] : List (List Nat))[i]?, exit := fun i => ([[], [0, 3]] : List (List Nat))[i]?, ret := some [2] }
noncomputable def r10_L0_R (call : CallF) (fuel base n : Nat) (vs : List Value) (m : M) (K : KT) : Res2 := match vs with
  | [x0, x3] => r10_L0 call fuel base (fun y2 m => K .ret { n := 20, l := [(2, y2)] } m) (fun m => K (.exit 0) { n := 20, l := [] } m) n x0 x3 m
  | _ => none
noncomputable def lp10 (call : CallF) (fuel base : Nat) : Lp := lpsel [(0, fun T m K => kslots 20 [0, 3] T fun vs => r10_L0_R call fuel base fuel vs m K)]
noncomputable def c10 : Code := Tryd.f10.body.getD .skip
theorem r10_L0_lk (call : CallF) (fuel base : Nat) : LoopsOk E call (lp10 call fuel base) fuel base 0 (loopB (blockB (seqR (seqL (seqR c10))))) = (And (And True (And True True)) (And (And True (And (And True True) True)) True)) := by kernel_rfl
theorem r10_L0_ok (call : CallF) (fuel base : Nat) : LpOk E call (lp10 call fuel base) fuel base 0 (loopB (blockB (seqR (seqL (seqR c10))))) := by
  refine loop_ok (kp := keep10) (hb := Eq.mpr (r10_L0_lk call fuel base) (And.intro (And.intro trivial (And.intro trivial trivial)) (And.intro (And.intro trivial (And.intro (And.intro trivial trivial) trivial)) trivial))) 20 [0, 3] (fun n vs m K => r10_L0_R call fuel base n vs m K) ?_ ?_ (fun _ _ _ => rfl)
  · intro vs m K
    unfold r10_L0_R
    split <;> rfl
  · intro n vs m K hl
    match vs, hl with
    | [x0, x3], _ => show _ = _; kernel_rfl
theorem r10_eq (call : CallF) (fuel base : Nat) (x0 : Value) (m : M) : kbody E call keep10 (lp10 call fuel base) base Tryd.f10 [x0] m = r10 call fuel base x0 m := by
  kernel_rfl
noncomputable def rf10 : RF := fun call fuel base args m => match args with
  | [x0] => r10 call fuel base x0 m
  | _ => none
theorem r10_lk (call : CallF) (fuel base : Nat) : LoopsOk E call (lp10 call fuel base) fuel base 0 c10 = (And True (And (And True (LpOk E call (lp10 call fuel base) fuel base 0 (loopB (blockB (seqR (seqL (seqR c10))))))) (And True True))) := by kernel_rfl
theorem r10_fn : E.P.funcs[10]? = some Tryd.f10 := by kernel_rfl
theorem r10_body : Tryd.f10.body = some c10 := by kernel_rfl
theorem rf10_ok : RFok E 10 rf10 := by
  refine ⟨Tryd.f10, r10_fn, fun call fuel base args m r _ h => ?_⟩
  unfold rf10 at h
  split at h
  · rw [← r10_eq] at h
    exact kbody_sound (c := c10) r10_body (Eq.mpr (r10_lk call fuel base) (And.intro trivial (And.intro (And.intro trivial (r10_L0_ok call fuel base)) (And.intro trivial trivial)))) h
  · simp at h
end Go.AM
namespace Go.AM
open Go Go.Proofs
noncomputable def r11 (call : CallF) (fuel base : Nat) (m : M) : Res2 :=
  (k2 (xbuildSlice E.P m 22 2 [(0, (.string (ByteArray.mk #[97, 98]))), (1, (.string (ByteArray.mk #[98, 97])))]) fun v8_1 m => (kc (call base 17 [v8_1] m) (fun v9_2 m => (k1 (mextract 0 v9_2) fun v10_3 => (k1 (mextract 1 v9_2) fun v11_4 => (k2 (xbuildSlice E.P m 22 3 [(0, (.string (ByteArray.mk #[97, 98, 99]))), (1, (.string (ByteArray.mk #[99, 97, 98]))), (2, (.string (ByteArray.mk #[98, 99, 97])))]) fun v13_5 m => (kc (call base 17 [v13_5] m) (fun v14_6 m => (k1 (mextract 0 v14_6) fun v15_7 => (k1 (mextract 1 v14_6) fun v16_8 => (k2 (xbuildSlice E.P m 22 2 [(0, (.string (ByteArray.mk #[97, 98]))), (1, (.string (ByteArray.mk #[98, 97])))]) fun v18_9 m => (kc (call base 12 [v18_9] m) (fun v19_10 m => (k1 (mextract 0 v19_10) fun v20_11 => (k1 (mextract 1 v19_10) fun v21_12 => (k2 (xalloc E.P m 26) fun v5_13 m => (ks (xstore E.P base m 26 v5_13 v20_11) fun m => (k1 (mbin E .eql 27 v11_4 (.int .i64 0)) fun v23_14 => (kb v23_14 (k1 (mbin E .eql 9 v10_3 (.string (ByteArray.mk #[112, 52, 109]))) fun v26_15 => (kb v26_15 (k1 (mbin E .eql 27 v16_8 (.int .i64 0)) fun v30_16 => (kb v30_16 (k1 (mbin E .eql 9 v15_7 (.string (ByteArray.mk #[99, 109]))) fun v34_17 => (kb v34_17 (k1 (mbin E .eql 27 v21_12 (.int .i64 0)) fun v38_18 => (kb v38_18 (k1 (xload E.P m 26 v5_13) fun v41_19 => (k1 (mbuild E.P 26 [(0, (.int .i64 1)), (1, (.int .i64 1)), (2, (.int .i64 2))]) fun v42_20 => (k1 (mbin E .eql 26 v41_19 v42_20) fun v43_21 => (fVal v43_21 fun v => some (.ret v, m))))) (fVal (.bool false) fun v => some (.ret v, m)))) (fVal (.bool false) fun v => some (.ret v, m)))) (fVal (.bool false) fun v => some (.ret v, m)))) (fVal (.bool false) fun v => some (.ret v, m)))) (fVal (.bool false) fun v => some (.ret v, m))))))))) (fun v m => some (.pan v, m))))))) (fun v m => some (.pan v, m))))))) (fun v m => some (.pan v, m))))
def keep11 : Keep := { region := fun i => ([[], [1, 2], [1, 2, 3, 4], [1, 2, 3, 4, 5, 6], [0]] : List (List Nat))[i]?, exit := fun i => ([] : List (List Nat))[i]?, ret := some [0] }
noncomputable def lp11 (call : CallF) (fuel base : Nat) : Lp := lpsel []
noncomputable def c11 : Code := Tryd.f11.body.getD .skip
theorem r11_eq (call : CallF) (fuel base : Nat) (m : M) : kbody E call keep11 (lp11 call fuel base) base Tryd.f11 [] m = r11 call fuel base  m := by
  kernel_rfl
noncomputable def rf11 : RF := fun call fuel base args m => match args with
  | [] => r11 call fuel base  m
  | _ => none
theorem r11_lk (call : CallF) (fuel base : Nat) : LoopsOk E call (lp11 call fuel base) fuel base 0 c11 = (And True (And True (And True (And True (And True True))))) := by kernel_rfl
theorem r11_fn : E.P.funcs[11]? = some Tryd.f11 := by kernel_rfl
theorem r11_body : Tryd.f11.body = some c11 := by kernel_rfl
theorem rf11_ok : RFok E 11 rf11 := by
  refine ⟨Tryd.f11, r11_fn, fun call fuel base args m r _ h => ?_⟩
  unfold rf11 at h
  split at h
  · rw [← r11_eq] at h
    exact kbody_sound (c := c11) r11_body (Eq.mpr (r11_lk call fuel base) (And.intro trivial (And.intro trivial (And.intro trivial (And.intro trivial (And.intro trivial trivial)))))) h
  · simp at h
end Go.AM
namespace Go.AM
open Go Go.Proofs
noncomputable def r12 (call : CallF) (fuel base : Nat) (x0 : Value) (m : M) : Res2 :=
  (k2 (xalloc E.P m 26) fun v2_1 m => (kc (call base 40 [x0] m) (fun v5_2 m => (k1 (mun .not v5_2) fun v6_3 => (kb v6_3 (k1 (mbuild E.P 26 []) fun v7_4 => (ks (xstore E.P base m 26 v2_1 v7_4) fun m => (k0 (mload E.P m 26 v2_1) fun r_5 => (some (.ret (.tuple #[r_5, (.int .i64 2)]), m))))) (kc (call base 41 [x0] m) (fun v9_6 m => (ks (xstore E.P base m 26 v2_1 v9_6) fun m => (k0 (mload E.P m 26 v2_1) fun r_7 => (some (.ret (.tuple #[r_7, (.int .i64 0)]), m))))) (fun v m => some (.pan v, m)))))) (fun v m => some (.pan v, m))))
def keep12 : Keep := { region := fun i => ([[0, 2], [0, 2, 6], [2, 3], [2, 3]] : List (List Nat))[i]?, exit := fun i => ([] : List (List Nat))[i]?, ret := some [2, 3] }
noncomputable def lp12 (call : CallF) (fuel base : Nat) : Lp := lpsel []
noncomputable def c12 : Code := Tryd.f12.body.getD .skip
theorem r12_eq (call : CallF) (fuel base : Nat) (x0 : Value) (m : M) : kbody E call keep12 (lp12 call fuel base) base Tryd.f12 [x0] m = r12 call fuel base x0 m := by
  kernel_rfl
noncomputable def rf12 : RF := fun call fuel base args m => match args with
  | [x0] => r12 call fuel base x0 m
  | _ => none
theorem r12_lk (call : CallF) (fuel base : Nat) : LoopsOk E call (lp12 call fuel base) fuel base 0 c12 = (And True (And (And True (And (And True True) True)) (And True True))) := by kernel_rfl
theorem r12_fn : E.P.funcs[12]? = some Tryd.f12 := by kernel_rfl
theorem r12_body : Tryd.f12.body = some c12 := by kernel_rfl
theorem rf12_ok : RFok E 12 rf12 := by
  refine ⟨Tryd.f12, r12_fn, fun call fuel base args m r _ h => ?_⟩
  unfold rf12 at h
  split at h
  · rw [← r12_eq] at h
    exact kbody_sound (c := c12) r12_body (Eq.mpr (r12_lk call fuel base) (And.intro trivial (And.intro (And.intro trivial (And.intro (And.intro trivial trivial) trivial)) (And.intro trivial trivial)))) h
  · simp at h
end Go.AM
namespace Go.AM
open Go Go.Proofs
noncomputable def r14 (call : CallF) (fuel base : Nat) (x0 : Value) (m : M) : Res2 :=
  (kc (call base 40 [x0] m) (fun v5_1 m => (k1 (mun .not v5_1) fun v6_2 => (kb v6_2 (some (.ret (.tuple #[(.slice none 0 0), (.int .i64 2)]), m)) (kc (call base 43 [x0] m) (fun v8_3 m => (k1 (mfield E.P 70 v8_3 1) fun v9_4 => (some (.ret (.tuple #[v9_4, (.int .i64 0)]), m)))) (fun v m => some (.pan v, m)))))) (fun v m => some (.pan v, m)))
def keep14 : Keep := { region := fun i => ([[0], [0, 6], [2, 3], [2, 3]] : List (List Nat))[i]?, exit := fun i => ([] : List (List Nat))[i]?, ret := some [2, 3] }
noncomputable def lp14 (call : CallF) (fuel base : Nat) : Lp := lpsel []
noncomputable def c14 : Code := Tryd.f14.body.getD .skip
theorem r14_eq (call : CallF) (fuel base : Nat) (x0 : Value) (m : M) : kbody E call keep14 (lp14 call fuel base) base Tryd.f14 [x0] m = r14 call fuel base x0 m := by
  kernel_rfl
noncomputable def rf14 : RF := fun call fuel base args m => match args with
  | [x0] => r14 call fuel base x0 m
  | _ => none
theorem r14_lk (call : CallF) (fuel base : Nat) : LoopsOk E call (lp14 call fuel base) fuel base 0 c14 = (And True (And (And True (And (And True True) True)) (And True True))) := by kernel_rfl
theorem r14_fn : E.P.funcs[14]? = some Tryd.f14 := by kernel_rfl
theorem r14_body : Tryd.f14.body = some c14 := by kernel_rfl
theorem rf14_ok : RFok E 14 rf14 := by
  refine ⟨Tryd.f14, r14_fn, fun call fuel base args m r _ h => ?_⟩
  unfold rf14 at h
  split at h
  · rw [← r14_eq] at h
    exact kbody_sound (c := c14) r14_body (Eq.mpr (r14_lk call fuel base) (And.intro trivial (And.intro (And.intro trivial (And.intro (And.intro trivial trivial) trivial)) (And.intro trivial trivial)))) h
  · simp at h
end Go.AM
namespace Go.AM
open Go Go.Proofs
noncomputable def r17 (call : CallF) (fuel base : Nat) (x0 : Value) (m : M) : Res2 :=
  (kc (call base 40 [x0] m) (fun v5_1 m => (k1 (mun .not v5_1) fun v6_2 => (kb v6_2 (some (.ret (.tuple #[(.string (ByteArray.mk #[])), (.int .i64 2)]), m)) (kc (call base 43 [x0] m) (fun v8_3 m => (kc (call base 45 [v8_3] m) (fun v9_4 m => (some (.ret (.tuple #[v9_4, (.int .i64 0)]), m))) (fun v m => some (.pan v, m)))) (fun v m => some (.pan v, m)))))) (fun v m => some (.pan v, m)))
def keep17 : Keep := { region := fun i => ([[0], [0, 6], [2, 3], [2, 3]] : List (List Nat))[i]?, exit := fun i => ([] : List (List Nat))[i]?, ret := some [2, 3] }
noncomputable def lp17 (call : CallF) (fuel base : Nat) : Lp := lpsel []
noncomputable def c17 : Code := Tryd.f17.body.getD .skip
theorem r17_eq (call : CallF) (fuel base : Nat) (x0 : Value) (m : M) : kbody E call keep17 (lp17 call fuel base) base Tryd.f17 [x0] m = r17 call fuel base x0 m := by
  kernel_rfl
noncomputable def rf17 : RF := fun call fuel base args m => match args with
  | [x0] => r17 call fuel base x0 m
  | _ => none
theorem r17_lk (call : CallF) (fuel base : Nat) : LoopsOk E call (lp17 call fuel base) fuel base 0 c17 = (And True (And (And True (And (And True True) True)) (And True True))) := by kernel_rfl
theorem r17_fn : E.P.funcs[17]? = some Tryd.f17 := by kernel_rfl
theorem r17_body : Tryd.f17.body = some c17 := by kernel_rfl
theorem rf17_ok : RFok E 17 rf17 := by
  refine ⟨Tryd.f17, r17_fn, fun call fuel base args m r _ h => ?_⟩
  unfold rf17 at h
  split at h
  · rw [← r17_eq] at h
    exact kbody_sound (c := c17) r17_body (Eq.mpr (r17_lk call fuel base) (And.intro trivial (And.intro (And.intro trivial (And.intro (And.intro trivial trivial) trivial)) (And.intro trivial trivial)))) h
  · simp at h
end Go.AM
namespace Go.AM
open Go Go.Proofs
noncomputable def r27 (call : CallF) (fuel base : Nat) (x0 : Value) (x1 : Value) (m : M) : Res2 :=
  (k2 (xbox m x0) fun v2_1 m => (k2 (xbox m x1) fun v3_2 m => (k2 (xalloc E.P m 50) fun v4_3 m => (k1 (mfieldAddr E.P 50 v3_2 0) fun v5_4 => (k1 (xload E.P m 3 v5_4) fun v6_5 => (k1 (mfieldAddr E.P 50 v2_1 0) fun v7_6 => (k1 (xload E.P m 3 v7_6) fun v8_7 => (k1 (mbin E .mul 3 v6_5 v8_7) fun v9_8 => (k1 (mfieldAddr E.P 50 v3_2 1) fun v10_9 => (k1 (xload E.P m 3 v10_9) fun v11_10 => (k1 (mfieldAddr E.P 50 v2_1 2) fun v12_11 => (k1 (xload E.P m 3 v12_11) fun v13_12 => (k1 (mbin E .mul 3 v11_10 v13_12) fun v14_13 => (k1 (mbin E .add 3 v9_8 v14_13) fun v15_14 => (k1 (mfieldAddr E.P 50 v3_2 0) fun v16_15 => (k1 (xload E.P m 3 v16_15) fun v17_16 => (k1 (mfieldAddr E.P 50 v2_1 1) fun v18_17 => (k1 (xload E.P m 3 v18_17) fun v19_18 => (k1 (mbin E .mul 3 v17_16 v19_18) fun v20_19 => (k1 (mfieldAddr E.P 50 v3_2 1) fun v21_20 => (k1 (xload E.P m 3 v21_20) fun v22_21 => (k1 (mfieldAddr E.P 50 v2_1 3) fun v23_22 => (k1 (xload E.P m 3 v23_22) fun v24_23 => (k1 (mbin E .mul 3 v22_21 v24_23) fun v25_24 => (k1 (mbin E .add 3 v20_19 v25_24) fun v26_25 => (k1 (mfieldAddr E.P 50 v3_2 2) fun v27_26 => (k1 (xload E.P m 3 v27_26) fun v28_27 => (k1 (mfieldAddr E.P 50 v2_1 0) fun v29_28 => (k1 (xload E.P m 3 v29_28) fun v30_29 => (k1 (mbin E .mul 3 v28_27 v30_29) fun v31_30 => (k1 (mfieldAddr E.P 50 v3_2 3) fun v32_31 => (k1 (xload E.P m 3 v32_31) fun v33_32 => (k1 (mfieldAddr E.P 50 v2_1 2) fun v34_33 => (k1 (xload E.P m 3 v34_33) fun v35_34 => (k1 (mbin E .mul 3 v33_32 v35_34) fun v36_35 => (k1 (mbin E .add 3 v31_30 v36_35) fun v37_36 => (k1 (mfieldAddr E.P 50 v3_2 2) fun v38_37 => (k1 (xload E.P m 3 v38_37) fun v39_38 => (k1 (mfieldAddr E.P 50 v2_1 1) fun v40_39 => (k1 (xload E.P m 3 v40_39) fun v41_40 => (k1 (mbin E .mul 3 v39_38 v41_40) fun v42_41 => (k1 (mfieldAddr E.P 50 v3_2 3) fun v43_42 => (k1 (xload E.P m 3 v43_42) fun v44_43 => (k1 (mfieldAddr E.P 50 v2_1 3) fun v45_44 => (k1 (xload E.P m 3 v45_44) fun v46_45 => (k1 (mbin E .mul 3 v44_43 v46_45) fun v47_46 => (k1 (mbin E .add 3 v42_41 v47_46) fun v48_47 => (k1 (mfieldAddr E.P 50 v3_2 0) fun v49_48 => (k1 (xload E.P m 3 v49_48) fun v50_49 => (k1 (mfieldAddr E.P 50 v2_1 4) fun v51_50 => (k1 (xload E.P m 3 v51_50) fun v52_51 => (k1 (mbin E .mul 3 v50_49 v52_51) fun v53_52 => (k1 (mfieldAddr E.P 50 v3_2 1) fun v54_53 => (k1 (xload E.P m 3 v54_53) fun v55_54 => (k1 (mfieldAddr E.P 50 v2_1 5) fun v56_55 => (k1 (xload E.P m 3 v56_55) fun v57_56 => (k1 (mbin E .mul 3 v55_54 v57_56) fun v58_57 => (k1 (mbin E .add 3 v53_52 v58_57) fun v59_58 => (k1 (mfieldAddr E.P 50 v3_2 4) fun v60_59 => (k1 (xload E.P m 3 v60_59) fun v61_60 => (k1 (mbin E .add 3 v59_58 v61_60) fun v62_61 => (k1 (mfieldAddr E.P 50 v3_2 2) fun v63_62 => (k1 (xload E.P m 3 v63_62) fun v64_63 => (k1 (mfieldAddr E.P 50 v2_1 4) fun v65_64 => (k1 (xload E.P m 3 v65_64) fun v66_65 => (k1 (mbin E .mul 3 v64_63 v66_65) fun v67_66 => (k1 (mfieldAddr E.P 50 v3_2 3) fun v68_67 => (k1 (xload E.P m 3 v68_67) fun v69_68 => (k1 (mfieldAddr E.P 50 v2_1 5) fun v70_69 => (k1 (xload E.P m 3 v70_69) fun v71_70 => (k1 (mbin E .mul 3 v69_68 v71_70) fun v72_71 => (k1 (mbin E .add 3 v67_66 v72_71) fun v73_72 => (k1 (mfieldAddr E.P 50 v3_2 5) fun v74_73 => (k1 (xload E.P m 3 v74_73) fun v75_74 => (k1 (mbin E .add 3 v73_72 v75_74) fun v76_75 => (k1 (mbuild E.P 50 [(0, v15_14), (1, v26_25), (2, v37_36), (3, v48_47), (4, v62_61), (5, v76_75)]) fun v77_76 => (ks (xstore E.P base m 50 v4_3 v77_76) fun m => (k0 (mload E.P m 50 v4_3) fun r_77 => (fVal r_77 fun v => some (.ret v, m))))))))))))))))))))))))))))))))))))))))))))))))))))))))))))))))))))))))))))))))
def keep27 : Keep := { region := fun i => ([[2, 3, 4], [4]] : List (List Nat))[i]?, exit := fun i => ([] : List (List Nat))[i]?, ret := some [4] }
noncomputable def lp27 (call : CallF) (fuel base : Nat) : Lp := lpsel []
noncomputable def c27 : Code := Tryd.f27.body.getD .skip
theorem r27_eq (call : CallF) (fuel base : Nat) (x0 : Value) (x1 : Value) (m : M) : kbody E call keep27 (lp27 call fuel base) base Tryd.f27 [x0, x1] m = r27 call fuel base x0 x1 m := by
  kernel_rfl
noncomputable def rf27 : RF := fun call fuel base args m => match args with
  | [x0, x1] => r27 call fuel base x0 x1 m
  | _ => none
theorem r27_lk (call : CallF) (fuel base : Nat) : LoopsOk E call (lp27 call fuel base) fuel base 0 c27 = (And True (And True True)) := by kernel_rfl
theorem r27_fn : E.P.funcs[27]? = some Tryd.f27 := by kernel_rfl
theorem r27_body : Tryd.f27.body = some c27 := by kernel_rfl
theorem rf27_ok : RFok E 27 rf27 := by
  refine ⟨Tryd.f27, r27_fn, fun call fuel base args m r _ h => ?_⟩
  unfold rf27 at h
  split at h
  · rw [← r27_eq] at h
    exact kbody_sound (c := c27) r27_body (Eq.mpr (r27_lk call fuel base) (And.intro trivial (And.intro trivial trivial))) h
  · simp at h
end Go.AM
namespace Go.AM
open Go Go.Proofs
noncomputable def r28 (call : CallF) (fuel base : Nat) (x0 : Value) (x1 : Value) (m : M) : Res2 :=
  (k2 (xbox m x0) fun v2_1 m => (k2 (xbox m x1) fun v3_2 m => (k2 (xalloc E.P m 50) fun v4_3 m => (k1 (mfieldAddr E.P 50 v3_2 0) fun v5_4 => (k1 (xload E.P m 3 v5_4) fun v6_5 => (k1 (mfieldAddr E.P 50 v2_1 0) fun v7_6 => (k1 (xload E.P m 3 v7_6) fun v8_7 => (k1 (mbin E .mul 3 v6_5 v8_7) fun v9_8 => (k1 (mfieldAddr E.P 50 v3_2 1) fun v10_9 => (k1 (xload E.P m 3 v10_9) fun v11_10 => (k1 (mfieldAddr E.P 50 v2_1 2) fun v12_11 => (k1 (xload E.P m 3 v12_11) fun v13_12 => (k1 (mbin E .mul 3 v11_10 v13_12) fun v14_13 => (k1 (mbin E .add 3 v9_8 v14_13) fun v15_14 => (k1 (mfieldAddr E.P 50 v3_2 0) fun v16_15 => (k1 (xload E.P m 3 v16_15) fun v17_16 => (k1 (mfieldAddr E.P 50 v2_1 1) fun v18_17 => (k1 (xload E.P m 3 v18_17) fun v19_18 => (k1 (mbin E .mul 3 v17_16 v19_18) fun v20_19 => (k1 (mfieldAddr E.P 50 v3_2 1) fun v21_20 => (k1 (xload E.P m 3 v21_20) fun v22_21 => (k1 (mfieldAddr E.P 50 v2_1 3) fun v23_22 => (k1 (xload E.P m 3 v23_22) fun v24_23 => (k1 (mbin E .mul 3 v22_21 v24_23) fun v25_24 => (k1 (mbin E .add 3 v20_19 v25_24) fun v26_25 => (k1 (mfieldAddr E.P 50 v3_2 2) fun v27_26 => (k1 (xload E.P m 3 v27_26) fun v28_27 => (k1 (mfieldAddr E.P 50 v2_1 0) fun v29_28 => (k1 (xload E.P m 3 v29_28) fun v30_29 => (k1 (mbin E .mul 3 v28_27 v30_29) fun v31_30 => (k1 (mfieldAddr E.P 50 v3_2 3) fun v32_31 => (k1 (xload E.P m 3 v32_31) fun v33_32 => (k1 (mfieldAddr E.P 50 v2_1 2) fun v34_33 => (k1 (xload E.P m 3 v34_33) fun v35_34 => (k1 (mbin E .mul 3 v33_32 v35_34) fun v36_35 => (k1 (mbin E .add 3 v31_30 v36_35) fun v37_36 => (k1 (mfieldAddr E.P 50 v3_2 2) fun v38_37 => (k1 (xload E.P m 3 v38_37) fun v39_38 => (k1 (mfieldAddr E.P 50 v2_1 1) fun v40_39 => (k1 (xload E.P m 3 v40_39) fun v41_40 => (k1 (mbin E .mul 3 v39_38 v41_40) fun v42_41 => (k1 (mfieldAddr E.P 50 v3_2 3) fun v43_42 => (k1 (xload E.P m 3 v43_42) fun v44_43 => (k1 (mfieldAddr E.P 50 v2_1 3) fun v45_44 => (k1 (xload E.P m 3 v45_44) fun v46_45 => (k1 (mbin E .mul 3 v44_43 v46_45) fun v47_46 => (k1 (mbin E .add 3 v42_41 v47_46) fun v48_47 => (k1 (mfieldAddr E.P 50 v3_2 0) fun v49_48 => (k1 (xload E.P m 3 v49_48) fun v50_49 => (k1 (mfieldAddr E.P 50 v2_1 4) fun v51_50 => (k1 (xload E.P m 3 v51_50) fun v52_51 => (k1 (mbin E .mul 3 v50_49 v52_51) fun v53_52 => (k1 (mfieldAddr E.P 50 v3_2 1) fun v54_53 => (k1 (xload E.P m 3 v54_53) fun v55_54 => (k1 (mfieldAddr E.P 50 v2_1 5) fun v56_55 => (k1 (xload E.P m 3 v56_55) fun v57_56 => (k1 (mbin E .mul 3 v55_54 v57_56) fun v58_57 => (k1 (mbin E .add 3 v53_52 v58_57) fun v59_58 => (k1 (mfieldAddr E.P 50 v3_2 4) fun v60_59 => (k1 (xload E.P m 3 v60_59) fun v61_60 => (k1 (mbin E .add 3 v59_58 v61_60) fun v62_61 => (k1 (mfieldAddr E.P 50 v3_2 2) fun v63_62 => (k1 (xload E.P m 3 v63_62) fun v64_63 => (k1 (mfieldAddr E.P 50 v2_1 4) fun v65_64 => (k1 (xload E.P m 3 v65_64) fun v66_65 => (k1 (mbin E .mul 3 v64_63 v66_65) fun v67_66 => (k1 (mfieldAddr E.P 50 v3_2 3) fun v68_67 => (k1 (xload E.P m 3 v68_67) fun v69_68 => (k1 (mfieldAddr E.P 50 v2_1 5) fun v70_69 => (k1 (xload E.P m 3 v70_69) fun v71_70 => (k1 (mbin E .mul 3 v69_68 v71_70) fun v72_71 => (k1 (mbin E .add 3 v67_66 v72_71) fun v73_72 => (k1 (mfieldAddr E.P 50 v3_2 5) fun v74_73 => (k1 (xload E.P m 3 v74_73) fun v75_74 => (k1 (mbin E .add 3 v73_72 v75_74) fun v76_75 => (k1 (mbuild E.P 50 [(0, v15_14), (1, v26_25), (2, v37_36), (3, v48_47), (4, v62_61), (5, v76_75)]) fun v77_76 => (ks (xstore E.P base m 50 v4_3 v77_76) fun m => (k0 (mload E.P m 50 v4_3) fun r_77 => (fVal r_77 fun v => some (.ret v, m))))))))))))))))))))))))))))))))))))))))))))))))))))))))))))))))))))))))))))))))
def keep28 : Keep := { region := fun i => ([[2, 3, 4], [4]] : List (List Nat))[i]?, exit := fun i => ([] : List (List Nat))[i]?, ret := some [4] }
noncomputable def lp28 (call : CallF) (fuel base : Nat) : Lp := lpsel []
noncomputable def c28 : Code := Tryd.f28.body.getD .skip
theorem r28_eq (call : CallF) (fuel base : Nat) (x0 : Value) (x1 : Value) (m : M) : kbody E call keep28 (lp28 call fuel base) base Tryd.f28 [x0, x1] m = r28 call fuel base x0 x1 m := by
  kernel_rfl
noncomputable def rf28 : RF := fun call fuel base args m => match args with
  | [x0, x1] => r28 call fuel base x0 x1 m
  | _ => none
theorem r28_lk (call : CallF) (fuel base : Nat) : LoopsOk E call (lp28 call fuel base) fuel base 0 c28 = (And True (And True True)) := by kernel_rfl
theorem r28_fn : E.P.funcs[28]? = some Tryd.f28 := by kernel_rfl
theorem r28_body : Tryd.f28.body = some c28 := by kernel_rfl
theorem rf28_ok : RFok E 28 rf28 := by
  refine ⟨Tryd.f28, r28_fn, fun call fuel base args m r _ h => ?_⟩
  unfold rf28 at h
  split at h
  · rw [← r28_eq] at h
    exact kbody_sound (c := c28) r28_body (Eq.mpr (r28_lk call fuel base) (And.intro trivial (And.intro trivial trivial))) h
  · simp at h
end Go.AM
namespace Go.AM
open Go Go.Proofs
noncomputable def r29 (call : CallF) (fuel base : Nat) (x0 : Value) (x1 : Value) (m : M) : Res2 :=
  (k2 (xbox m x1) fun v3_1 m => (kc (call base 40 [x0] m) (fun v7_2 m => (k1 (mun .not v7_2) fun v8_3 => (kb v8_3 (some (.ret (.tuple #[(.slice none 0 0), (.int .i64 2)]), m)) (k1 (xload E.P m 50 v3_1) fun v10_4 => (kc (call base 56 [v10_4] m) (fun v11_5 m => (k1 (mun .not v11_5) fun v12_6 => (kb v12_6 (some (.ret (.tuple #[(.slice none 0 0), (.int .i64 2)]), m)) (k1 (xload E.P m 50 v3_1) fun v15_7 => (kc (call base 57 [x0, v15_7] m) (fun v16_8 m => (some (.ret (.tuple #[v16_8, (.int .i64 0)]), m))) (fun v m => some (.pan v, m))))))) (fun v m => some (.pan v, m))))))) (fun v m => some (.pan v, m))))
def keep29 : Keep := { region := fun i => ([[0, 3], [0, 3, 13], [4, 5], [4, 5]] : List (List Nat))[i]?, exit := fun i => ([] : List (List Nat))[i]?, ret := some [4, 5] }
noncomputable def lp29 (call : CallF) (fuel base : Nat) : Lp := lpsel []
noncomputable def c29 : Code := Tryd.f29.body.getD .skip
theorem r29_eq (call : CallF) (fuel base : Nat) (x0 : Value) (x1 : Value) (m : M) : kbody E call keep29 (lp29 call fuel base) base Tryd.f29 [x0, x1] m = r29 call fuel base x0 x1 m := by
  kernel_rfl
noncomputable def rf29 : RF := fun call fuel base args m => match args with
  | [x0, x1] => r29 call fuel base x0 x1 m
  | _ => none
theorem r29_lk (call : CallF) (fuel base : Nat) : LoopsOk E call (lp29 call fuel base) fuel base 0 c29 = (And True (And (And True (And (And True True) True)) (And True True))) := by kernel_rfl
theorem r29_fn : E.P.funcs[29]? = some Tryd.f29 := by kernel_rfl
theorem r29_body : Tryd.f29.body = some c29 := by kernel_rfl
theorem rf29_ok : RFok E 29 rf29 := by
  refine ⟨Tryd.f29, r29_fn, fun call fuel base args m r _ h => ?_⟩
  unfold rf29 at h
  split at h
  · rw [← r29_eq] at h
    exact kbody_sound (c := c29) r29_body (Eq.mpr (r29_lk call fuel base) (And.intro trivial (And.intro (And.intro trivial (And.intro (And.intro trivial trivial) trivial)) (And.intro trivial trivial)))) h
  · simp at h
end Go.AM
namespace Go.AM
open Go Go.Proofs
noncomputable def r33_L2 (call : CallF) (fuel base : Nat) (kr : Value → M → Res2) (kx2 : Value → Value → M → Res2) (n : Nat) : Value → Value → Value → M → Res2 :=
  Nat.rec (motive := fun _ => Value → Value → Value → M → Res2) (fun _ _ _ _ => none)
    (fun _ ih x0 x3 x4 m =>
      (k1 (mindexAddr E.P 22 x0 x3) fun v46_22 => (k1 (xload E.P m 9 v46_22) fun v47_23 => (k2 (vcall E.P base m .len [9] [v47_23]) fun v48_24 m => (k1 (mbin E .lss 3 x4 v48_24) fun v49_25 => (kb v49_25 (k1 (mindexAddr E.P 22 x0 x3) fun v54_26 => (k1 (xload E.P m 9 v54_26) fun v55_27 => (k1 (mindex E.P 9 v55_27 x4) fun v57_28 => (k1 (mbin E .lss 5 v57_28 (.int .u8 97)) fun v58_29 => (kb v58_29 (kr (.bool false) m) (k1 (mindexAddr E.P 22 x0 x3) fun v62_30 => (k1 (xload E.P m 9 v62_30) fun v63_31 => (k1 (mindex E.P 9 v63_31 x4) fun v65_32 => (k1 (mbin E .gtr 5 v65_32 (.int .u8 100)) fun v66_33 => (kb v66_33 (kr (.bool false) m) (k1 (mbin E .add 3 x4 (.int .i64 1)) fun v51_34 => (ih x0 x3 v51_34 m)))))))))))) (kx2 x0 x3 m))))))) n
noncomputable def r33_L0 (call : CallF) (fuel base : Nat) (kr : Value → M → Res2) (kx0 : M → Res2) (n : Nat) : Value → Value → M → Res2 :=
  Nat.rec (motive := fun _ => Value → Value → M → Res2) (fun _ _ _ => none)
    (fun _ ih x0 x3 m =>
      (k2 (vcall E.P base m .len [22] [x0]) fun v29_13 m => (k1 (mbin E .lss 3 x3 v29_13) fun v30_14 => (kb v30_14 (k1 (mindexAddr E.P 22 x0 x3) fun v35_15 => (k1 (xload E.P m 9 v35_15) fun v36_16 => (k2 (vcall E.P base m .len [9] [v36_16]) fun v37_17 m => (k1 (mindexAddr E.P 22 x0 (.int .i64 0)) fun v39_18 => (k1 (xload E.P m 9 v39_18) fun v40_19 => (k2 (vcall E.P base m .len [9] [v40_19]) fun v41_20 m => (k1 (mbin E .neq 3 v37_17 v41_20) fun v42_21 => (kb v42_21 (kr (.bool false) m) (r33_L2 call fuel base (fun y2_35 m => (kr y2_35 m)) (fun y0_36 y3_37 m => (k1 (mbin E .add 3 y3_37 (.int .i64 1)) fun v32_38 => (ih y0_36 v32_38 m))) fuel x0 x3 (.int .i64 0) m))))))))) (kx0 m))))) n
noncomputable def r33 (call : CallF) (fuel base : Nat) (x0 : Value) (m : M) : Res2 :=
  (k2 (vcall E.P base m .len [22] [x0]) fun v6_1 m => (k1 (mbin E .lss 3 v6_1 (.int .i64 1)) fun v7_2 => (kb v7_2 (fVal (.bool false) fun v => some (.ret v, m)) (k2 (vcall E.P base m .len [22] [x0]) fun v10_3 m => (k1 (mbin E .gtr 3 v10_3 (.int .i64 6)) fun v11_4 => (kb v11_4 (fVal (.bool false) fun v => some (.ret v, m)) (k1 (mindexAddr E.P 22 x0 (.int .i64 0)) fun v15_5 => (k1 (xload E.P m 9 v15_5) fun v16_6 => (k2 (vcall E.P base m .len [9] [v16_6]) fun v17_7 m => (k1 (mbin E .lss 3 v17_7 (.int .i64 1)) fun v18_8 => (kb v18_8 (fVal (.bool false) fun v => some (.ret v, m)) (k1 (mindexAddr E.P 22 x0 (.int .i64 0)) fun v22_9 => (k1 (xload E.P m 9 v22_9) fun v23_10 => (k2 (vcall E.P base m .len [9] [v23_10]) fun v24_11 m => (k1 (mbin E .gtr 3 v24_11 (.int .i64 6)) fun v25_12 => (kb v25_12 (fVal (.bool false) fun v => some (.ret v, m)) (r33_L0 call fuel base (fun y2_39 m => (fVal y2_39 fun v => some (.ret v, m))) (fun m => (fVal (.bool true) fun v => some (.ret v, m))) fuel x0 (.int .i64 0) m)))))))))))))))))
def keep33 : Keep := { region := fun i => ([[0], [0, 26], [2], [0, 3], [0, 3, 30], [0, 3], [0, 3, 42], [2], [0, 3, 4], [0, 3, 4, 49], [0, 3, 4], [0, 3, 4, 67], [2], [2]] : List (List Nat))[i]?, exit := fun i => ([[], [0, 3], [0, 3], [0, 3, 4]] : List (List Nat))[i]?, ret := some [2] }
noncomputable def r33_L2_R (call : CallF) (fuel base n : Nat) (vs : List Value) (m : M) (K : KT) : Res2 := match vs with
  | [x0, x3, x4] => r33_L2 call fuel base (fun y2 m => K .ret { n := 68, l := [(2, y2)] } m) (fun y0 y3 m => K (.exit 2) { n := 68, l := [(0, y0), (3, y3)] } m) n x0 x3 x4 m
  | _ => none
noncomputable def r33_L0_R (call : CallF) (fuel base n : Nat) (vs : List Value) (m : M) (K : KT) : Res2 := match vs with
  | [x0, x3] => r33_L0 call fuel base (fun y2 m => K .ret { n := 68, l := [(2, y2)] } m) (fun m => K (.exit 0) { n := 68, l := [] } m) n x0 x3 m
  | _ => none
noncomputable def lp33 (call : CallF) (fuel base : Nat) : Lp := lpsel [(2, fun T m K => kslots 68 [0, 3, 4] T fun vs => r33_L2_R call fuel base fuel vs m K), (0, fun T m K => kslots 68 [0, 3] T fun vs => r33_L0_R call fuel base fuel vs m K)]
noncomputable def c33 : Code := Tryd.f33.body.getD .skip
theorem r33_L2_lk (call : CallF) (fuel base : Nat) : LoopsOk E call (lp33 call fuel base) fuel base 2 (loopB (blockB (seqR (seqR (blockB (seqL (seqR (loopB (blockB (seqR (seqL (seqR (seqR c33))))))))))))) = (And (And True (And True True)) (And (And True (And (And True True) True)) True)) := by kernel_rfl
theorem r33_L2_ok (call : CallF) (fuel base : Nat) : LpOk E call (lp33 call fuel base) fuel base 2 (loopB (blockB (seqR (seqR (blockB (seqL (seqR (loopB (blockB (seqR (seqL (seqR (seqR c33))))))))))))) := by
  refine loop_ok (kp := keep33) (hb := Eq.mpr (r33_L2_lk call fuel base) (And.intro (And.intro trivial (And.intro trivial trivial)) (And.intro (And.intro trivial (And.intro (And.intro trivial trivial) trivial)) trivial))) 68 [0, 3, 4] (fun n vs m K => r33_L2_R call fuel base n vs m K) ?_ ?_ (fun _ _ _ => rfl)
  · intro vs m K
    unfold r33_L2_R
    split <;> rfl
  · intro n vs m K hl
    match vs, hl with
    | [x0, x3, x4], _ => show _ = _; kernel_rfl
theorem r33_L0_lk (call : CallF) (fuel base : Nat) : LoopsOk E call (lp33 call fuel base) fuel base 0 (loopB (blockB (seqR (seqL (seqR (seqR c33)))))) = (And (And True (And True True)) (And (And (And True (And (And True True) True)) (And True (LpOk E call (lp33 call fuel base) fuel base 2 (loopB (blockB (seqR (seqR (blockB (seqL (seqR (loopB (blockB (seqR (seqL (seqR (seqR c33)))))))))))))))) True)) := by kernel_rfl
theorem r33_L0_ok (call : CallF) (fuel base : Nat) : LpOk E call (lp33 call fuel base) fuel base 0 (loopB (blockB (seqR (seqL (seqR (seqR c33)))))) := by
  refine loop_ok (kp := keep33) (hb := Eq.mpr (r33_L0_lk call fuel base) (And.intro (And.intro trivial (And.intro trivial trivial)) (And.intro (And.intro (And.intro trivial (And.intro (And.intro trivial trivial) trivial)) (And.intro trivial (r33_L2_ok call fuel base))) trivial))) 68 [0, 3] (fun n vs m K => r33_L0_R call fuel base n vs m K) ?_ ?_ (fun _ _ _ => rfl)
  · intro vs m K
    unfold r33_L0_R
    split <;> rfl
  · intro n vs m K hl
    match vs, hl with
    | [x0, x3], _ => show _ = _; kernel_rfl
theorem r33_eq (call : CallF) (fuel base : Nat) (x0 : Value) (m : M) : kbody E call keep33 (lp33 call fuel base) base Tryd.f33 [x0] m = r33 call fuel base x0 m := by
  kernel_rfl
noncomputable def rf33 : RF := fun call fuel base args m => match args with
  | [x0] => r33 call fuel base x0 m
  | _ => none
theorem r33_lk (call : CallF) (fuel base : Nat) : LoopsOk E call (lp33 call fuel base) fuel base 0 c33 = (And True (And (And True (And (And True True) True)) (And (And True (LpOk E call (lp33 call fuel base) fuel base 0 (loopB (blockB (seqR (seqL (seqR (seqR c33)))))))) (And True True)))) := by kernel_rfl
theorem r33_fn : E.P.funcs[33]? = some Tryd.f33 := by kernel_rfl
theorem r33_body : Tryd.f33.body = some c33 := by kernel_rfl
theorem rf33_ok : RFok E 33 rf33 := by
  refine ⟨Tryd.f33, r33_fn, fun call fuel base args m r _ h => ?_⟩
  unfold rf33 at h
  split at h
  · rw [← r33_eq] at h
    exact kbody_sound (c := c33) r33_body (Eq.mpr (r33_lk call fuel base) (And.intro trivial (And.intro (And.intro trivial (And.intro (And.intro trivial trivial) trivial)) (And.intro (And.intro trivial (r33_L0_ok call fuel base)) (And.intro trivial trivial))))) h
  · simp at h
end Go.AM
namespace Go.AM
open Go Go.Proofs
noncomputable def r34_L0 (call : CallF) (fuel base : Nat) (kr : Value → M → Res2) (kx0 : M → Res2) (n : Nat) : Value → Value → Value → Value → M → Res2 :=
  Nat.rec (motive := fun _ => Value → Value → Value → Value → M → Res2) (fun _ _ _ _ _ => none)
    (fun _ ih x0 x4 x5 x7 m =>
      (k2 (vcall E.P base m .len [30] [x0]) fun v20_9 m => (k1 (mbin E .lss 3 x7 v20_9) fun v21_10 => (kb v21_10 (k1 (mfieldAddr E.P 50 x5 4) fun v24_11 => (k1 (xload E.P m 3 v24_11) fun v25_12 => (k1 (mindexAddr E.P 30 x0 x7) fun v28_13 => (k1 (mfieldAddr E.P 50 v28_13 4) fun v29_14 => (k1 (xload E.P m 3 v29_14) fun v30_15 => (k1 (mbin E .sub 3 v25_12 v30_15) fun v31_16 => (k1 (mfieldAddr E.P 50 x5 5) fun v32_17 => (k1 (xload E.P m 3 v32_17) fun v33_18 => (k1 (mindexAddr E.P 30 x0 x7) fun v36_19 => (k1 (mfieldAddr E.P 50 v36_19 5) fun v37_20 => (k1 (xload E.P m 3 v37_20) fun v38_21 => (k1 (mbin E .sub 3 v33_18 v38_21) fun v39_22 => (k1 (mindexAddr E.P 30 x0 x7) fun v42_23 => (k1 (xload E.P m 50 v42_23) fun v43_24 => (kc (kB m (call m.length 35 [v43_24] m)) (fun v44_25 m => (k1 (xload E.P m 50 x5) fun v45_26 => (kc (kB m (call m.length 35 [v45_26] m)) (fun v46_27 m => (k1 (mbin E .eql 3 v44_25 v46_27) fun v47_28 => (kb v47_28 (k1 (mfieldAddr E.P 26 x4 0) fun v50_29 => (k1 (xload E.P m 3 v50_29) fun v51_30 => (k1 (mbin E .rem 3 v31_16 v51_30) fun v52_31 => (k1 (mbin E .eql 3 v52_31 (.int .i64 0)) fun v53_32 => (kb v53_32 (k1 (mfieldAddr E.P 26 x4 0) fun v58_33 => (k1 (xload E.P m 3 v58_33) fun v59_34 => (k1 (mbin E .quo 3 v31_16 v59_34) fun v60_35 => (k1 (mfieldAddr E.P 26 x4 1) fun v61_36 => (k1 (xload E.P m 3 v61_36) fun v62_37 => (k1 (mbin E .mul 3 v60_35 v62_37) fun v63_38 => (k1 (mbin E .sub 3 v39_22 v63_38) fun v64_39 => (k1 (mfieldAddr E.P 26 x4 2) fun v65_40 => (k1 (xload E.P m 3 v65_40) fun v66_41 => (k1 (mbin E .rem 3 v64_39 v66_41) fun v67_42 => (k1 (mbin E .eql 3 v67_42 (.int .i64 0)) fun v68_43 => (kb v68_43 (kr (.bool true) m) (k1 (mbin E .add 3 x7 (.int .i64 1)) fun v23_44 => (ih x0 x4 x5 v23_44 m)))))))))))))) (k1 (mbin E .add 3 x7 (.int .i64 1)) fun v23_45 => (ih x0 x4 x5 v23_45 m))))))) (k1 (mbin E .add 3 x7 (.int .i64 1)) fun v23_46 => (ih x0 x4 x5 v23_46 m))))) (fun _ _ => none)))) (fun _ _ => none)))))))))))))))) (kx0 m))))) n
noncomputable def r34 (call : CallF) (fuel base : Nat) (x0 : Value) (x1 : Value) (x2 : Value) (m : M) : Res2 :=
  (k2 (xbox m x1) fun v4_1 m => (k2 (xbox m x2) fun v5_2 m => (k1 (mfieldAddr E.P 26 v4_1 0) fun v10_3 => (k1 (xload E.P m 3 v10_3) fun v11_4 => (k1 (mbin E .lss 3 v11_4 (.int .i64 1)) fun v12_5 => (kb v12_5 (fVal (.bool false) fun v => some (.ret v, m)) (k1 (mfieldAddr E.P 26 v4_1 2) fun v14_6 => (k1 (xload E.P m 3 v14_6) fun v15_7 => (k1 (mbin E .lss 3 v15_7 (.int .i64 1)) fun v16_8 => (kb v16_8 (fVal (.bool false) fun v => some (.ret v, m)) (r34_L0 call fuel base (fun y6_47 m => (fVal y6_47 fun v => some (.ret v, m))) (fun m => (fVal (.bool false) fun v => some (.ret v, m))) fuel x0 v4_1 v5_2 (.int .i64 0) m)))))))))))
def keep34 : Keep := { region := fun i => ([[0, 4, 5], [0, 4, 5, 17], [6], [0, 4, 5, 7], [0, 4, 5, 7, 21], [0, 4, 5, 7], [0, 4, 5, 7, 8, 9], [0, 4, 5, 7, 69], [6], [6]] : List (List Nat))[i]?, exit := fun i => ([[], [0, 4, 5, 7]] : List (List Nat))[i]?, ret := some [6] }
noncomputable def r34_L0_R (call : CallF) (fuel base n : Nat) (vs : List Value) (m : M) (K : KT) : Res2 := match vs with
  | [x0, x4, x5, x7] => r34_L0 call fuel base (fun y6 m => K .ret { n := 70, l := [(6, y6)] } m) (fun m => K (.exit 0) { n := 70, l := [] } m) n x0 x4 x5 x7 m
  | _ => none
noncomputable def lp34 (call : CallF) (fuel base : Nat) : Lp := lpsel [(0, fun T m K => kslots 70 [0, 4, 5, 7] T fun vs => r34_L0_R call fuel base fuel vs m K)]
noncomputable def c34 : Code := Tryd.f34.body.getD .skip
theorem r34_L0_lk (call : CallF) (fuel base : Nat) : LoopsOk E call (lp34 call fuel base) fuel base 0 (loopB (blockB (seqR (seqL (seqR (seqR c34)))))) = (And (And True (And True True)) (And (And True (And True (And (And True True) True))) True)) := by kernel_rfl
theorem r34_L0_ok (call : CallF) (fuel base : Nat) : LpOk E call (lp34 call fuel base) fuel base 0 (loopB (blockB (seqR (seqL (seqR (seqR c34)))))) := by
  refine loop_ok (kp := keep34) (hb := Eq.mpr (r34_L0_lk call fuel base) (And.intro (And.intro trivial (And.intro trivial trivial)) (And.intro (And.intro trivial (And.intro trivial (And.intro (And.intro trivial trivial) trivial))) trivial))) 70 [0, 4, 5, 7] (fun n vs m K => r34_L0_R call fuel base n vs m K) ?_ ?_ (fun _ _ _ => rfl)
  · intro vs m K
    unfold r34_L0_R
    split <;> rfl
  · intro n vs m K hl
    match vs, hl with
    | [x0, x4, x5, x7], _ => show _ = _; kernel_rfl
theorem r34_eq (call : CallF) (fuel base : Nat) (x0 : Value) (x1 : Value) (x2 : Value) (m : M) : kbody E call keep34 (lp34 call fuel base) base Tryd.f34 [x0, x1, x2] m = r34 call fuel base x0 x1 x2 m := by
  kernel_rfl
noncomputable def rf34 : RF := fun call fuel base args m => match args with
  | [x0, x1, x2] => r34 call fuel base x0 x1 x2 m
  | _ => none
theorem r34_lk (call : CallF) (fuel base : Nat) : LoopsOk E call (lp34 call fuel base) fuel base 0 c34 = (And True (And (And True (And (And True True) True)) (And (And True (LpOk E call (lp34 call fuel base) fuel base 0 (loopB (blockB (seqR (seqL (seqR (seqR c34)))))))) (And True True)))) := by kernel_rfl
theorem r34_fn : E.P.funcs[34]? = some Tryd.f34 := by kernel_rfl
theorem r34_body : Tryd.f34.body = some c34 := by kernel_rfl
theorem rf34_ok : RFok E 34 rf34 := by
  refine ⟨Tryd.f34, r34_fn, fun call fuel base args m r _ h => ?_⟩
  unfold rf34 at h
  split at h
  · rw [← r34_eq] at h
    exact kbody_sound (c := c34) r34_body (Eq.mpr (r34_lk call fuel base) (And.intro trivial (And.intro (And.intro trivial (And.intro (And.intro trivial trivial) trivial)) (And.intro (And.intro trivial (r34_L0_ok call fuel base)) (And.intro trivial trivial))))) h
  · simp at h
end Go.AM
namespace Go.AM
open Go Go.Proofs
noncomputable def r35_L0 (call : CallF) (fuel base : Nat) (kr : Value → M → Res2) (kx0 : M → Res2) (n : Nat) : Value → Value → M → Res2 :=
  Nat.rec (motive := fun _ => Value → Value → M → Res2) (fun _ _ _ => none)
    (fun _ ih x1 x3 m =>
      (k1 (mbin E .lss 3 x3 (.int .i64 8)) fun v7_4 => (kb v7_4 (kc (kB m (call m.length 61 [x3] m)) (fun v11_5 m => (k1 (xload E.P m 50 x1) fun v12_6 => (k1 (mbin E .eql 50 v11_5 v12_6) fun v13_7 => (kb v13_7 (kr x3 m) (k1 (mbin E .add 3 x3 (.int .i64 1)) fun v9_8 => (ih x1 v9_8 m)))))) (fun _ _ => none)) (kx0 m)))) n
noncomputable def r35 (call : CallF) (fuel base : Nat) (x0 : Value) (m : M) : Res2 :=
  (k2 (xbox m x0) fun v1_1 m => (k1 (mfieldAddr E.P 50 v1_1 4) fun v4_2 => (ks (xstore E.P base m 3 v4_2 (.int .i64 0)) fun m => (k1 (mfieldAddr E.P 50 v1_1 5) fun v5_3 => (ks (xstore E.P base m 3 v5_3 (.int .i64 0)) fun m => (r35_L0 call fuel base (fun y2_9 m => (fVal y2_9 fun v => some (.ret v, m))) (fun m => (fVal (.int .i64 (-1)) fun v => some (.ret v, m))) fuel v1_1 (.int .i64 0) m))))))
def keep35 : Keep := { region := fun i => ([[1], [1], [1], [1, 3], [1, 3, 7], [1, 3], [1, 3, 13], [2], [2]] : List (List Nat))[i]?, exit := fun i => ([[], [1, 3]] : List (List Nat))[i]?, ret := some [2] }
noncomputable def r35_L0_R (call : CallF) (fuel base n : Nat) (vs : List Value) (m : M) (K : KT) : Res2 := match vs with
  | [x1, x3] => r35_L0 call fuel base (fun y2 m => K .ret { n := 15, l := [(2, y2)] } m) (fun m => K (.exit 0) { n := 15, l := [] } m) n x1 x3 m
  | _ => none
noncomputable def lp35 (call : CallF) (fuel base : Nat) : Lp := lpsel [(0, fun T m K => kslots 15 [1, 3] T fun vs => r35_L0_R call fuel base fuel vs m K)]
noncomputable def c35 : Code := Tryd.f35.body.getD .skip
theorem r35_L0_lk (call : CallF) (fuel base : Nat) : LoopsOk E call (lp35 call fuel base) fuel base 0 (loopB (blockB (seqR (seqL (seqR (seqR (seqR c35))))))) = (And (And True (And True True)) (And (And True (And (And True True) True)) True)) := by kernel_rfl
theorem r35_L0_ok (call : CallF) (fuel base : Nat) : LpOk E call (lp35 call fuel base) fuel base 0 (loopB (blockB (seqR (seqL (seqR (seqR (seqR c35))))))) := by
  refine loop_ok (kp := keep35) (hb := Eq.mpr (r35_L0_lk call fuel base) (And.intro (And.intro trivial (And.intro trivial trivial)) (And.intro (And.intro trivial (And.intro (And.intro trivial trivial) trivial)) trivial))) 15 [1, 3] (fun n vs m K => r35_L0_R call fuel base n vs m K) ?_ ?_ (fun _ _ _ => rfl)
  · intro vs m K
    unfold r35_L0_R
    split <;> rfl
  · intro n vs m K hl
    match vs, hl with
    | [x1, x3], _ => show _ = _; kernel_rfl
theorem r35_eq (call : CallF) (fuel base : Nat) (x0 : Value) (m : M) : kbody E call keep35 (lp35 call fuel base) base Tryd.f35 [x0] m = r35 call fuel base x0 m := by
  kernel_rfl
noncomputable def rf35 : RF := fun call fuel base args m => match args with
  | [x0] => r35 call fuel base x0 m
  | _ => none
theorem r35_lk (call : CallF) (fuel base : Nat) : LoopsOk E call (lp35 call fuel base) fuel base 0 c35 = (And True (And True (And True (And (And True (LpOk E call (lp35 call fuel base) fuel base 0 (loopB (blockB (seqR (seqL (seqR (seqR (seqR c35))))))))) (And True True))))) := by kernel_rfl
theorem r35_fn : E.P.funcs[35]? = some Tryd.f35 := by kernel_rfl
theorem r35_body : Tryd.f35.body = some c35 := by kernel_rfl
theorem rf35_ok : RFok E 35 rf35 := by
  refine ⟨Tryd.f35, r35_fn, fun call fuel base args m r _ h => ?_⟩
  unfold rf35 at h
  split at h
  · rw [← r35_eq] at h
    exact kbody_sound (c := c35) r35_body (Eq.mpr (r35_lk call fuel base) (And.intro trivial (And.intro trivial (And.intro trivial (And.intro (And.intro trivial (r35_L0_ok call fuel base)) (And.intro trivial trivial)))))) h
  · simp at h
end Go.AM
namespace Go.AM
open Go Go.Proofs
noncomputable def r36_L2 (call : CallF) (fuel base : Nat) (kp : Value → M → Res2) (kr : Value → M → Res2) (kx2 : Value → Value → Value → M → Res2) (n : Nat) : Value → Value → Value → Value → M → Res2 :=
  Nat.rec (motive := fun _ => Value → Value → Value → Value → M → Res2) (fun _ _ _ _ _ => none)
    (fun _ ih x0 x1 x5 x6 m =>
      (k1 (mbin E .lss 3 x6 (.int .i64 36)) fun v15_4 => (kb v15_4 (kc (call base 58 [x0, x6, x5] m) (fun v21_5 m => (kc (call base 58 [x1, x6, x5] m) (fun v25_6 m => (k1 (mbin E .neq 5 v21_5 v25_6) fun v26_7 => (kb v26_7 (kr (.bool false) m) (k1 (mbin E .add 3 x6 (.int .i64 1)) fun v17_8 => (ih x0 x1 x5 v17_8 m))))) (fun v m => kp v m))) (fun v m => kp v m)) (kx2 x0 x1 x5 m)))) n
noncomputable def r36_L0 (call : CallF) (fuel base : Nat) (kp : Value → M → Res2) (kr : Value → M → Res2) (kx0 : M → Res2) (n : Nat) : Value → Value → Value → M → Res2 :=
  Nat.rec (motive := fun _ => Value → Value → Value → M → Res2) (fun _ _ _ _ => none)
    (fun _ ih x0 x1 x5 m =>
      (k1 (mbin E .lss 3 x5 (.int .i64 36)) fun v11_3 => (kb v11_3 (r36_L2 call fuel base (fun v m => kp v m) (fun y4_9 m => (kr y4_9 m)) (fun y0_10 y1_11 y5_12 m => (k1 (mbin E .add 3 y5_12 (.int .i64 1)) fun v13_13 => (ih y0_10 y1_11 v13_13 m))) fuel x0 x1 x5 (.int .i64 0) m) (kx0 m)))) n
noncomputable def r36 (call : CallF) (fuel base : Nat) (x0 : Value) (x1 : Value) (m : M) : Res2 :=
  (kc (call base 33 [x1] m) (fun v8_1 m => (k1 (mun .not v8_1) fun v9_2 => (kb v9_2 (fVal (.bool false) fun v => some (.ret v, m)) (r36_L0 call fuel base (fun v m => some (.pan v, m)) (fun y4_14 m => (fVal y4_14 fun v => some (.ret v, m))) (fun m => (fVal (.bool true) fun v => some (.ret v, m))) fuel x0 x1 (.int .i64 0) m)))) (fun v m => some (.pan v, m)))
def keep36 : Keep := { region := fun i => ([[0, 1], [0, 1, 9], [4], [0, 1, 5], [0, 1, 5, 11], [0, 1, 5], [0, 1, 5, 6], [0, 1, 5, 6, 15], [0, 1, 5, 6], [0, 1, 5, 6, 26], [4], [4]] : List (List Nat))[i]?, exit := fun i => ([[], [0, 1, 5], [0, 1, 5], [0, 1, 5, 6]] : List (List Nat))[i]?, ret := some [4] }
noncomputable def r36_L2_R (call : CallF) (fuel base n : Nat) (vs : List Value) (m : M) (K : KT) : Res2 := match vs with
  | [x0, x1, x5, x6] => r36_L2 call fuel base (fun v m => K (.pan v) { n := 27, l := [] } m) (fun y4 m => K .ret { n := 27, l := [(4, y4)] } m) (fun y0 y1 y5 m => K (.exit 2) { n := 27, l := [(0, y0), (1, y1), (5, y5)] } m) n x0 x1 x5 x6 m
  | _ => none
noncomputable def r36_L0_R (call : CallF) (fuel base n : Nat) (vs : List Value) (m : M) (K : KT) : Res2 := match vs with
  | [x0, x1, x5] => r36_L0 call fuel base (fun v m => K (.pan v) { n := 27, l := [] } m) (fun y4 m => K .ret { n := 27, l := [(4, y4)] } m) (fun m => K (.exit 0) { n := 27, l := [] } m) n x0 x1 x5 m
  | _ => none
noncomputable def lp36 (call : CallF) (fuel base : Nat) : Lp := lpsel [(2, fun T m K => kslots 27 [0, 1, 5, 6] T fun vs => r36_L2_R call fuel base fuel vs m K), (0, fun T m K => kslots 27 [0, 1, 5] T fun vs => r36_L0_R call fuel base fuel vs m K)]
noncomputable def c36 : Code := Tryd.f36.body.getD .skip
theorem r36_L2_lk (call : CallF) (fuel base : Nat) : LoopsOk E call (lp36 call fuel base) fuel base 2 (loopB (blockB (seqR (blockB (seqL (seqR (loopB (blockB (seqR (seqL (seqR (seqR c36)))))))))))) = (And (And True (And True True)) (And (And True (And (And True True) True)) True)) := by kernel_rfl
theorem r36_L2_ok (call : CallF) (fuel base : Nat) : LpOk E call (lp36 call fuel base) fuel base 2 (loopB (blockB (seqR (blockB (seqL (seqR (loopB (blockB (seqR (seqL (seqR (seqR c36)))))))))))) := by
  refine loop_ok (kp := keep36) (hb := Eq.mpr (r36_L2_lk call fuel base) (And.intro (And.intro trivial (And.intro trivial trivial)) (And.intro (And.intro trivial (And.intro (And.intro trivial trivial) trivial)) trivial))) 27 [0, 1, 5, 6] (fun n vs m K => r36_L2_R call fuel base n vs m K) ?_ ?_ (fun _ _ _ => rfl)
  · intro vs m K
    unfold r36_L2_R
    split <;> rfl
  · intro n vs m K hl
    match vs, hl with
    | [x0, x1, x5, x6], _ => show _ = _; kernel_rfl
theorem r36_L0_lk (call : CallF) (fuel base : Nat) : LoopsOk E call (lp36 call fuel base) fuel base 0 (loopB (blockB (seqR (seqL (seqR (seqR c36)))))) = (And (And True (And True True)) (And (And True (LpOk E call (lp36 call fuel base) fuel base 2 (loopB (blockB (seqR (blockB (seqL (seqR (loopB (blockB (seqR (seqL (seqR (seqR c36)))))))))))))) True)) := by kernel_rfl
theorem r36_L0_ok (call : CallF) (fuel base : Nat) : LpOk E call (lp36 call fuel base) fuel base 0 (loopB (blockB (seqR (seqL (seqR (seqR c36)))))) := by
  refine loop_ok (kp := keep36) (hb := Eq.mpr (r36_L0_lk call fuel base) (And.intro (And.intro trivial (And.intro trivial trivial)) (And.intro (And.intro trivial (r36_L2_ok call fuel base)) trivial))) 27 [0, 1, 5] (fun n vs m K => r36_L0_R call fuel base n vs m K) ?_ ?_ (fun _ _ _ => rfl)
  · intro vs m K
    unfold r36_L0_R
    split <;> rfl
  · intro n vs m K hl
    match vs, hl with
    | [x0, x1, x5], _ => show _ = _; kernel_rfl
theorem r36_eq (call : CallF) (fuel base : Nat) (x0 : Value) (x1 : Value) (m : M) : kbody E call keep36 (lp36 call fuel base) base Tryd.f36 [x0, x1] m = r36 call fuel base x0 x1 m := by
  kernel_rfl
noncomputable def rf36 : RF := fun call fuel base args m => match args with
  | [x0, x1] => r36 call fuel base x0 x1 m
  | _ => none
theorem r36_lk (call : CallF) (fuel base : Nat) : LoopsOk E call (lp36 call fuel base) fuel base 0 c36 = (And True (And (And True (And (And True True) True)) (And (And True (LpOk E call (lp36 call fuel base) fuel base 0 (loopB (blockB (seqR (seqL (seqR (seqR c36)))))))) (And True True)))) := by kernel_rfl
theorem r36_fn : E.P.funcs[36]? = some Tryd.f36 := by kernel_rfl
theorem r36_body : Tryd.f36.body = some c36 := by kernel_rfl
theorem rf36_ok : RFok E 36 rf36 := by
  refine ⟨Tryd.f36, r36_fn, fun call fuel base args m r _ h => ?_⟩
  unfold rf36 at h
  split at h
  · rw [← r36_eq] at h
    exact kbody_sound (c := c36) r36_body (Eq.mpr (r36_lk call fuel base) (And.intro trivial (And.intro (And.intro trivial (And.intro (And.intro trivial trivial) trivial)) (And.intro (And.intro trivial (r36_L0_ok call fuel base)) (And.intro trivial trivial))))) h
  · simp at h
end Go.AM
namespace Go.AM
open Go Go.Proofs
noncomputable def r40_L0 (call : CallF) (fuel base : Nat) (kp : Value → M → Res2) (kr : Value → M → Res2) (kx0 : M → Res2) (n : Nat) : Value → Value → Value → Value → M → Res2 :=
  Nat.rec (motive := fun _ => Value → Value → Value → Value → M → Res2) (fun _ _ _ _ _ => none)
    (fun _ ih x0 x27 x28 x29 m =>
      (k1 (mbin E .lss 3 x29 x28) fun v30_14 => (kb v30_14 (k1 (mindexAddr E.P 22 x27 x29) fun v31_15 => (k1 (xload E.P m 9 v31_15) fun v32_16 => (k2 (vcall E.P base m .len [9] [v32_16]) fun v34_17 m => (k1 (mindexAddr E.P 22 x0 (.int .i64 0)) fun v36_18 => (k1 (xload E.P m 9 v36_18) fun v37_19 => (k2 (vcall E.P base m .len [9] [v37_19]) fun v38_20 m => (k1 (mbin E .neq 3 v34_17 v38_20) fun v39_21 => (kb v39_21 (kr (.bool false) m) (kc (call base 62 [v32_16] m) (fun v42_22 m => (k1 (mun .not v42_22) fun v43_23 => (kb v43_23 (kr (.bool false) m) (k1 (mbin E .add 3 x29 (.int .i64 1)) fun v45_24 => (ih x0 x27 x28 v45_24 m))))) (fun v m => kp v m)))))))))) (kx0 m)))) n
noncomputable def r40 (call : CallF) (fuel base : Nat) (x0 : Value) (m : M) : Res2 :=
  (k2 (vcall E.P base m .len [22] [x0]) fun v6_1 m => (k1 (mbin E .lss 3 v6_1 (.int .i64 1)) fun v7_2 => (kb v7_2 (fVal (.bool false) fun v => some (.ret v, m)) (k2 (vcall E.P base m .len [22] [x0]) fun v10_3 m => (k1 (mbin E .gtr 3 v10_3 (.int .i64 6)) fun v11_4 => (kb v11_4 (fVal (.bool false) fun v => some (.ret v, m)) (k1 (mindexAddr E.P 22 x0 (.int .i64 0)) fun v15_5 => (k1 (xload E.P m 9 v15_5) fun v16_6 => (k2 (vcall E.P base m .len [9] [v16_6]) fun v17_7 m => (k1 (mbin E .lss 3 v17_7 (.int .i64 1)) fun v18_8 => (kb v18_8 (fVal (.bool false) fun v => some (.ret v, m)) (k1 (mindexAddr E.P 22 x0 (.int .i64 0)) fun v22_9 => (k1 (xload E.P m 9 v22_9) fun v23_10 => (k2 (vcall E.P base m .len [9] [v23_10]) fun v24_11 m => (k1 (mbin E .gtr 3 v24_11 (.int .i64 6)) fun v25_12 => (kb v25_12 (fVal (.bool false) fun v => some (.ret v, m)) (k2 (vcall E.P base m .len [22] [x0]) fun v28_13 m => (r40_L0 call fuel base (fun v m => some (.pan v, m)) (fun y2_25 m => (fVal y2_25 fun v => some (.ret v, m))) (fun m => (fVal (.bool true) fun v => some (.ret v, m))) fuel x0 x0 v28_13 (.int .i64 0) m))))))))))))))))))
def keep40 : Keep := { region := fun i => ([[0], [0, 26], [2], [0, 27, 28, 29], [0, 27, 28, 29, 30], [0, 4, 27, 28, 29], [0, 27, 28, 29, 44], [2], [0, 27, 28, 29], [2]] : List (List Nat))[i]?, exit := fun i => ([[], [0, 27, 28, 29]] : List (List Nat))[i]?, ret := some [2] }
noncomputable def r40_L0_R (call : CallF) (fuel base n : Nat) (vs : List Value) (m : M) (K : KT) : Res2 := match vs with
  | [x0, x27, x28, x29] => r40_L0 call fuel base (fun v m => K (.pan v) { n := 46, l := [] } m) (fun y2 m => K .ret { n := 46, l := [(2, y2)] } m) (fun m => K (.exit 0) { n := 46, l := [] } m) n x0 x27 x28 x29 m
  | _ => none
noncomputable def lp40 (call : CallF) (fuel base : Nat) : Lp := lpsel [(0, fun T m K => kslots 46 [0, 27, 28, 29] T fun vs => r40_L0_R call fuel base fuel vs m K)]
noncomputable def c40 : Code := Tryd.f40.body.getD .skip
theorem r40_L0_lk (call : CallF) (fuel base : Nat) : LoopsOk E call (lp40 call fuel base) fuel base 0 (loopB (blockB (seqR (seqL (seqR (seqR c40)))))) = (And True (And (And True True) (And (And True (And True (And (And True True) True))) True))) := by kernel_rfl
theorem r40_L0_ok (call : CallF) (fuel base : Nat) : LpOk E call (lp40 call fuel base) fuel base 0 (loopB (blockB (seqR (seqL (seqR (seqR c40)))))) := by
  refine loop_ok (kp := keep40) (hb := Eq.mpr (r40_L0_lk call fuel base) (And.intro trivial (And.intro (And.intro trivial trivial) (And.intro (And.intro trivial (And.intro trivial (And.intro (And.intro trivial trivial) trivial))) trivial)))) 46 [0, 27, 28, 29] (fun n vs m K => r40_L0_R call fuel base n vs m K) ?_ ?_ (fun _ _ _ => rfl)
  · intro vs m K
    unfold r40_L0_R
    split <;> rfl
  · intro n vs m K hl
    match vs, hl with
    | [x0, x27, x28, x29], _ => show _ = _; kernel_rfl
theorem r40_eq (call : CallF) (fuel base : Nat) (x0 : Value) (m : M) : kbody E call keep40 (lp40 call fuel base) base Tryd.f40 [x0] m = r40 call fuel base x0 m := by
  kernel_rfl
noncomputable def rf40 : RF := fun call fuel base args m => match args with
  | [x0] => r40 call fuel base x0 m
  | _ => none
theorem r40_lk (call : CallF) (fuel base : Nat) : LoopsOk E call (lp40 call fuel base) fuel base 0 c40 = (And True (And (And True (And (And True True) True)) (And (And True (LpOk E call (lp40 call fuel base) fuel base 0 (loopB (blockB (seqR (seqL (seqR (seqR c40)))))))) (And True True)))) := by kernel_rfl
theorem r40_fn : E.P.funcs[40]? = some Tryd.f40 := by kernel_rfl
theorem r40_body : Tryd.f40.body = some c40 := by kernel_rfl
theorem rf40_ok : RFok E 40 rf40 := by
  refine ⟨Tryd.f40, r40_fn, fun call fuel base args m r _ h => ?_⟩
  unfold rf40 at h
  split at h
  · rw [← r40_eq] at h
    exact kbody_sound (c := c40) r40_body (Eq.mpr (r40_lk call fuel base) (And.intro trivial (And.intro (And.intro trivial (And.intro (And.intro trivial trivial) trivial)) (And.intro (And.intro trivial (r40_L0_ok call fuel base)) (And.intro trivial trivial))))) h
  · simp at h
end Go.AM
namespace Go.AM
open Go Go.Proofs
noncomputable def r41_L4 (call : CallF) (fuel base : Nat) (kp : Value → M → Res2) (kr : Value → M → Res2) (kx4 : Value → Value → Value → Value → M → Res2) (n : Nat) : Value → Value → Value → Value → Value → Value → M → Res2 :=
  Nat.rec (motive := fun _ => Value → Value → Value → Value → Value → Value → M → Res2) (fun _ _ _ _ _ _ _ => none)
    (fun _ ih x0 x2 x3 x4 x15 x16 m =>
      (k1 (mbin E .lss 3 x16 x15) fun v17_9 => (kb v17_9 (kc (call base 64 [(.int .i64 0), x4, x16] m) (fun v22_10 m => (kc (call base 63 [x0, v22_10] m) (fun v23_11 m => (kb v23_11 (k1 (mbuild E.P 26 [(0, x4), (1, x16), (2, x3)]) fun v27_12 => (ks (xstore E.P base m 26 x2 v27_12) fun m => (kr x2 m))) (k1 (mbin E .add 3 x16 (.int .i64 1)) fun v28_13 => (ih x0 x2 x3 x4 x15 v28_13 m)))) (fun v m => kp v m))) (fun v m => kp v m)) (kx4 x0 x2 x3 x4 m)))) n
noncomputable def r41_L0 (call : CallF) (fuel base : Nat) (kp : Value → M → Res2) (kx0 : Value → Value → Value → M → Res2) (n : Nat) : Value → Value → Value → M → Res2 :=
  Nat.rec (motive := fun _ => Value → Value → Value → M → Res2) (fun _ _ _ _ => none)
    (fun _ ih x0 x2 x3 m =>
      (kc (call base 64 [(.int .i64 0), (.int .i64 0), x3] m) (fun v8_2 m => (kc (call base 63 [x0, v8_2] m) (fun v9_3 m => (k1 (mun .not v9_3) fun v10_4 => (kb v10_4 (k1 (mbin E .add 3 x3 (.int .i64 1)) fun v12_5 => (ih x0 x2 v12_5 m)) (kx0 x0 x2 x3 m)))) (fun v m => kp v m))) (fun v m => kp v m))) n
noncomputable def r41_L2 (call : CallF) (fuel base : Nat) (kp : Value → M → Res2) (kr : Value → M → Res2) (n : Nat) : Value → Value → Value → Value → M → Res2 :=
  Nat.rec (motive := fun _ => Value → Value → Value → Value → M → Res2) (fun _ _ _ _ _ => none)
    (fun _ ih x0 x2 x3 x4 m =>
      (r41_L4 call fuel base (fun v m => kp v m) (fun y2_14 m => (kr y2_14 m)) (fun y0_15 y2_16 y3_17 y4_18 m => (k1 (mbin E .add 3 y4_18 (.int .i64 1)) fun v14_19 => (ih y0_15 y2_16 y3_17 v14_19 m))) fuel x0 x2 x3 x4 x3 (.int .i64 0) m)) n
noncomputable def r41 (call : CallF) (fuel base : Nat) (x0 : Value) (m : M) : Res2 :=
  (k2 (xalloc E.P m 26) fun v2_1 m => (r41_L0 call fuel base (fun v m => some (.pan v, m)) (fun y0_6 y2_7 y3_8 m => (r41_L2 call fuel base (fun v m => some (.pan v, m)) (fun y2_20 m => (k0 (mload E.P m 26 y2_20) fun r_21 => (fVal r_21 fun v => some (.ret v, m)))) fuel y0_6 y2_7 y3_8 (.int .i64 1) m)) fuel x0 v2_1 (.int .i64 1) m))
def keep41 : Keep := { region := fun i => ([[0, 2], [0, 2, 3], [0, 2, 3, 10], [0, 2, 3], [0, 2, 3, 4], [0, 2, 3, 4], [0, 2, 3, 4, 15, 16], [0, 2, 3, 4, 15, 16, 17], [0, 2, 3, 4, 5, 15, 16], [0, 2, 3, 4, 5, 15, 16, 23], [2], [0, 2, 3, 4, 15, 16]] : List (List Nat))[i]?, exit := fun i => ([[0, 2, 3], [0, 2, 3], [2], [0, 2, 3, 4], [0, 2, 3, 4], [0, 2, 3, 4, 15, 16]] : List (List Nat))[i]?, ret := some [2] }
noncomputable def r41_L4_R (call : CallF) (fuel base n : Nat) (vs : List Value) (m : M) (K : KT) : Res2 := match vs with
  | [x0, x2, x3, x4, x15, x16] => r41_L4 call fuel base (fun v m => K (.pan v) { n := 29, l := [] } m) (fun y2 m => K .ret { n := 29, l := [(2, y2)] } m) (fun y0 y2 y3 y4 m => K (.exit 4) { n := 29, l := [(0, y0), (2, y2), (3, y3), (4, y4)] } m) n x0 x2 x3 x4 x15 x16 m
  | _ => none
noncomputable def r41_L0_R (call : CallF) (fuel base n : Nat) (vs : List Value) (m : M) (K : KT) : Res2 := match vs with
  | [x0, x2, x3] => r41_L0 call fuel base (fun v m => K (.pan v) { n := 29, l := [] } m) (fun y0 y2 y3 m => K (.exit 0) { n := 29, l := [(0, y0), (2, y2), (3, y3)] } m) n x0 x2 x3 m
  | _ => none
noncomputable def r41_L2_R (call : CallF) (fuel base n : Nat) (vs : List Value) (m : M) (K : KT) : Res2 := match vs with
  | [x0, x2, x3, x4] => r41_L2 call fuel base (fun v m => K (.pan v) { n := 29, l := [] } m) (fun y2 m => K .ret { n := 29, l := [(2, y2)] } m) n x0 x2 x3 x4 m
  | _ => none
noncomputable def lp41 (call : CallF) (fuel base : Nat) : Lp := lpsel [(4, fun T m K => kslots 29 [0, 2, 3, 4, 15, 16] T fun vs => r41_L4_R call fuel base fuel vs m K), (0, fun T m K => kslots 29 [0, 2, 3] T fun vs => r41_L0_R call fuel base fuel vs m K), (2, fun T m K => kslots 29 [0, 2, 3, 4] T fun vs => r41_L2_R call fuel base fuel vs m K)]
noncomputable def c41 : Code := Tryd.f41.body.getD .skip
theorem r41_L4_lk (call : CallF) (fuel base : Nat) : LoopsOk E call (lp41 call fuel base) fuel base 4 (loopB (blockB (seqR (blockB (seqL (loopB (blockB (seqR (seqR (seqR (seqR c41))))))))))) = (And True (And (And True True) (And (And True (And True (And (And True True) True))) True))) := by kernel_rfl
theorem r41_L4_ok (call : CallF) (fuel base : Nat) : LpOk E call (lp41 call fuel base) fuel base 4 (loopB (blockB (seqR (blockB (seqL (loopB (blockB (seqR (seqR (seqR (seqR c41))))))))))) := by
  refine loop_ok (kp := keep41) (hb := Eq.mpr (r41_L4_lk call fuel base) (And.intro trivial (And.intro (And.intro trivial trivial) (And.intro (And.intro trivial (And.intro trivial (And.intro (And.intro trivial trivial) trivial))) trivial)))) 29 [0, 2, 3, 4, 15, 16] (fun n vs m K => r41_L4_R call fuel base n vs m K) ?_ ?_ (fun _ _ _ => rfl)
  · intro vs m K
    unfold r41_L4_R
    split <;> rfl
  · intro n vs m K hl
    match vs, hl with
    | [x0, x2, x3, x4, x15, x16], _ => show _ = _; kernel_rfl
theorem r41_L0_lk (call : CallF) (fuel base : Nat) : LoopsOk E call (lp41 call fuel base) fuel base 0 (loopB (blockB (seqL (seqR (seqR c41))))) = (And (And True (And True True)) True) := by kernel_rfl
theorem r41_L0_ok (call : CallF) (fuel base : Nat) : LpOk E call (lp41 call fuel base) fuel base 0 (loopB (blockB (seqL (seqR (seqR c41))))) := by
  refine loop_ok (kp := keep41) (hb := Eq.mpr (r41_L0_lk call fuel base) (And.intro (And.intro trivial (And.intro trivial trivial)) trivial)) 29 [0, 2, 3] (fun n vs m K => r41_L0_R call fuel base n vs m K) ?_ ?_ (fun _ _ _ => rfl)
  · intro vs m K
    unfold r41_L0_R
    split <;> rfl
  · intro n vs m K hl
    match vs, hl with
    | [x0, x2, x3], _ => show _ = _; kernel_rfl
theorem r41_L2_lk (call : CallF) (fuel base : Nat) : LoopsOk E call (lp41 call fuel base) fuel base 2 (loopB (blockB (seqR (seqR (seqR (seqR c41)))))) = (And (And True (LpOk E call (lp41 call fuel base) fuel base 4 (loopB (blockB (seqR (blockB (seqL (loopB (blockB (seqR (seqR (seqR (seqR c41))))))))))))) True) := by kernel_rfl
theorem r41_L2_ok (call : CallF) (fuel base : Nat) : LpOk E call (lp41 call fuel base) fuel base 2 (loopB (blockB (seqR (seqR (seqR (seqR c41)))))) := by
  refine loop_ok (kp := keep41) (hb := Eq.mpr (r41_L2_lk call fuel base) (And.intro (And.intro trivial (r41_L4_ok call fuel base)) trivial)) 29 [0, 2, 3, 4] (fun n vs m K => r41_L2_R call fuel base n vs m K) ?_ ?_ (fun _ _ _ => rfl)
  · intro vs m K
    unfold r41_L2_R
    split <;> rfl
  · intro n vs m K hl
    match vs, hl with
    | [x0, x2, x3, x4], _ => show _ = _; kernel_rfl
theorem r41_eq (call : CallF) (fuel base : Nat) (x0 : Value) (m : M) : kbody E call keep41 (lp41 call fuel base) base Tryd.f41 [x0] m = r41 call fuel base x0 m := by
  kernel_rfl
noncomputable def rf41 : RF := fun call fuel base args m => match args with
  | [x0] => r41 call fuel base x0 m
  | _ => none
theorem r41_lk (call : CallF) (fuel base : Nat) : LoopsOk E call (lp41 call fuel base) fuel base 0 c41 = (And True (And True (And (LpOk E call (lp41 call fuel base) fuel base 0 (loopB (blockB (seqL (seqR (seqR c41)))))) (And True (LpOk E call (lp41 call fuel base) fuel base 2 (loopB (blockB (seqR (seqR (seqR (seqR c41))))))))))) := by kernel_rfl
theorem r41_fn : E.P.funcs[41]? = some Tryd.f41 := by kernel_rfl
theorem r41_body : Tryd.f41.body = some c41 := by kernel_rfl
theorem rf41_ok : RFok E 41 rf41 := by
  refine ⟨Tryd.f41, r41_fn, fun call fuel base args m r _ h => ?_⟩
  unfold rf41 at h
  split at h
  · rw [← r41_eq] at h
    exact kbody_sound (c := c41) r41_body (Eq.mpr (r41_lk call fuel base) (And.intro trivial (And.intro trivial (And.intro (r41_L0_ok call fuel base) (And.intro trivial (r41_L2_ok call fuel base)))))) h
  · simp at h
end Go.AM
namespace Go.AM
open Go Go.Proofs
noncomputable def r43_L0 (call : CallF) (fuel base : Nat) (kx0 : Value → Value → M → Res2) (n : Nat) : Value → Value → Value → Value → M → Res2 :=
  Nat.rec (motive := fun _ => Value → Value → Value → Value → M → Res2) (fun _ _ _ _ _ => none)
    (fun _ ih x0 x2 x3 x8 m =>
      (k1 (mbin E .lss 3 x8 (.int .i64 8)) fun v9_5 => (kb v9_5 (k1 (mfieldAddr E.P 70 x3 1) fun v11_6 => (k1 (xload E.P m 30 v11_6) fun v12_7 => (k1 (mfieldAddr E.P 70 x3 0) fun v15_8 => (k1 (xload E.P m 26 v15_8) fun v16_9 => (kc (kB m (call m.length 65 [x0, x8, v16_9] m)) (fun v17_10 m => (k2 (vcall E.P base m .append [30, 30] [v12_7, v17_10]) fun v18_11 m => (k1 (mfieldAddr E.P 70 x3 1) fun v19_12 => (ks (xstore E.P base m 30 v19_12 v18_11) fun m => (k1 (mbin E .add 3 x8 (.int .i64 1)) fun v20_13 => (ih x0 x2 x3 v20_13 m)))))) (fun _ _ => none)))))) (kx0 x2 x3 m)))) n
noncomputable def r43 (call : CallF) (fuel base : Nat) (x0 : Value) (m : M) : Res2 :=
  (k2 (xalloc E.P m 70) fun v2_1 m => (kc (call base 41 [x0] m) (fun v6_2 m => (k1 (mbuild E.P 70 [(0, v6_2)]) fun v7_3 => (k2 (xalloc E.P m 70) fun v3_4 m => (ks (xstore E.P base m 70 v3_4 v7_3) fun m => (r43_L0 call fuel base (fun y2_14 y3_15 m => (k1 (xload E.P m 70 y3_15) fun v21_16 => (ks (xstore E.P base m 70 y2_14 v21_16) fun m => (k0 (mload E.P m 70 y2_14) fun r_17 => (fVal r_17 fun v => some (.ret v, m)))))) fuel x0 v2_1 v3_4 (.int .i64 0) m))))) (fun v m => some (.pan v, m))))
def keep43 : Keep := { region := fun i => ([[0, 2], [0, 2, 3], [0, 2, 3, 8], [0, 2, 3, 8, 9], [0, 2, 3, 4, 8], [0, 2, 3, 8], [0, 2, 3, 8], [2]] : List (List Nat))[i]?, exit := fun i => ([[2, 3], [0, 2, 3, 8]] : List (List Nat))[i]?, ret := some [2] }
noncomputable def r43_L0_R (call : CallF) (fuel base n : Nat) (vs : List Value) (m : M) (K : KT) : Res2 := match vs with
  | [x0, x2, x3, x8] => r43_L0 call fuel base (fun y2 y3 m => K (.exit 0) { n := 22, l := [(2, y2), (3, y3)] } m) n x0 x2 x3 x8 m
  | _ => none
noncomputable def lp43 (call : CallF) (fuel base : Nat) : Lp := lpsel [(0, fun T m K => kslots 22 [0, 2, 3, 8] T fun vs => r43_L0_R call fuel base fuel vs m K)]
noncomputable def c43 : Code := Tryd.f43.body.getD .skip
theorem r43_L0_lk (call : CallF) (fuel base : Nat) : LoopsOk E call (lp43 call fuel base) fuel base 0 (loopB (blockB (seqR (seqL (seqR (seqR c43)))))) = (And True (And (And True True) (And (And True True) True))) := by kernel_rfl
theorem r43_L0_ok (call : CallF) (fuel base : Nat) : LpOk E call (lp43 call fuel base) fuel base 0 (loopB (blockB (seqR (seqL (seqR (seqR c43)))))) := by
  refine loop_ok (kp := keep43) (hb := Eq.mpr (r43_L0_lk call fuel base) (And.intro trivial (And.intro (And.intro trivial trivial) (And.intro (And.intro trivial trivial) trivial)))) 22 [0, 2, 3, 8] (fun n vs m K => r43_L0_R call fuel base n vs m K) ?_ ?_ (fun _ _ _ => rfl)
  · intro vs m K
    unfold r43_L0_R
    split <;> rfl
  · intro n vs m K hl
    match vs, hl with
    | [x0, x2, x3, x8], _ => show _ = _; kernel_rfl
theorem r43_eq (call : CallF) (fuel base : Nat) (x0 : Value) (m : M) : kbody E call keep43 (lp43 call fuel base) base Tryd.f43 [x0] m = r43 call fuel base x0 m := by
  kernel_rfl
noncomputable def rf43 : RF := fun call fuel base args m => match args with
  | [x0] => r43 call fuel base x0 m
  | _ => none
theorem r43_lk (call : CallF) (fuel base : Nat) : LoopsOk E call (lp43 call fuel base) fuel base 0 c43 = (And True (And True (And (And True (LpOk E call (lp43 call fuel base) fuel base 0 (loopB (blockB (seqR (seqL (seqR (seqR c43)))))))) (And True True)))) := by kernel_rfl
theorem r43_fn : E.P.funcs[43]? = some Tryd.f43 := by kernel_rfl
theorem r43_body : Tryd.f43.body = some c43 := by kernel_rfl
theorem rf43_ok : RFok E 43 rf43 := by
  refine ⟨Tryd.f43, r43_fn, fun call fuel base args m r _ h => ?_⟩
  unfold rf43 at h
  split at h
  · rw [← r43_eq] at h
    exact kbody_sound (c := c43) r43_body (Eq.mpr (r43_lk call fuel base) (And.intro trivial (And.intro trivial (And.intro (And.intro trivial (r43_L0_ok call fuel base)) (And.intro trivial trivial))))) h
  · simp at h
end Go.AM
namespace Go.AM
open Go Go.Proofs
noncomputable def r45 (call : CallF) (fuel base : Nat) (x0 : Value) (m : M) : Res2 :=
  (k2 (xbox m x0) fun v1_1 m => (k1 (xload E.P m 70 v1_1) fun v8_2 => (kc (call base 67 [v8_2, (.int .i64 1)] m) (fun v9_3 m => (k1 (mextract 0 v9_3) fun v10_4 => (k1 (mextract 1 v9_3) fun v11_5 => (k2 (xalloc E.P m 50) fun v3_6 m => (ks (xstore E.P base m 50 v3_6 v10_4) fun m => (k1 (xload E.P m 70 v1_1) fun v13_7 => (kc (call base 67 [v13_7, (.int .i64 2)] m) (fun v14_8 m => (k1 (mextract 0 v14_8) fun v15_9 => (k1 (mextract 1 v14_8) fun v16_10 => (k2 (xalloc E.P m 50) fun v5_11 m => (ks (xstore E.P base m 50 v5_11 v15_9) fun m => (kb v11_5 (k1 (xload E.P m 70 v1_1) fun v19_12 => (kc (call base 68 [v19_12] m) (fun v20_13 m => (fVal v20_13 fun v => some (.ret v, m))) (fun v m => some (.pan v, m)))) (kb v16_10 (k1 (xload E.P m 70 v1_1) fun v23_14 => (kc (call base 69 [v23_14] m) (fun v24_15 m => (fVal v24_15 fun v => some (.ret v, m))) (fun v m => some (.pan v, m)))) (k1 (xload E.P m 70 v1_1) fun v25_16 => (kc (call base 70 [v25_16] m) (fun v26_17 m => (fVal v26_17 fun v => some (.ret v, m))) (fun v m => some (.pan v, m))))))))))) (fun v m => some (.pan v, m))))))))) (fun v m => some (.pan v, m)))))
def keep45 : Keep := { region := fun i => ([[1], [1, 4], [1, 4, 6], [1, 6, 17], [2], [1, 21], [2], [2]] : List (List Nat))[i]?, exit := fun i => ([[1]] : List (List Nat))[i]?, ret := some [2] }
noncomputable def lp45 (call : CallF) (fuel base : Nat) : Lp := lpsel []
noncomputable def c45 : Code := Tryd.f45.body.getD .skip
theorem r45_eq (call : CallF) (fuel base : Nat) (x0 : Value) (m : M) : kbody E call keep45 (lp45 call fuel base) base Tryd.f45 [x0] m = r45 call fuel base x0 m := by
  kernel_rfl
noncomputable def rf45 : RF := fun call fuel base args m => match args with
  | [x0] => r45 call fuel base x0 m
  | _ => none
theorem r45_lk (call : CallF) (fuel base : Nat) : LoopsOk E call (lp45 call fuel base) fuel base 0 c45 = (And True (And True (And True (And (And True (And (And True True) (And True (And (And True True) True)))) (And True True))))) := by kernel_rfl
theorem r45_fn : E.P.funcs[45]? = some Tryd.f45 := by kernel_rfl
theorem r45_body : Tryd.f45.body = some c45 := by kernel_rfl
theorem rf45_ok : RFok E 45 rf45 := by
  refine ⟨Tryd.f45, r45_fn, fun call fuel base args m r _ h => ?_⟩
  unfold rf45 at h
  split at h
  · rw [← r45_eq] at h
    exact kbody_sound (c := c45) r45_body (Eq.mpr (r45_lk call fuel base) (And.intro trivial (And.intro trivial (And.intro trivial (And.intro (And.intro trivial (And.intro (And.intro trivial trivial) (And.intro trivial (And.intro (And.intro trivial trivial) trivial)))) (And.intro trivial trivial)))))) h
  · simp at h
end Go.AM
namespace Go.AM
open Go Go.Proofs
noncomputable def r50 (call : CallF) (fuel base : Nat) (x0 : Value) (x1 : Value) (x2 : Value) (m : M) : Res2 :=
  (k2 (xbox m x0) fun v3_1 m => (k1 (mfieldAddr E.P 50 v3_1 0) fun v8_2 => (k1 (xload E.P m 3 v8_2) fun v9_3 => (k1 (mbin E .mul 3 v9_3 x1) fun v11_4 => (k1 (mfieldAddr E.P 50 v3_1 1) fun v12_5 => (k1 (xload E.P m 3 v12_5) fun v13_6 => (k1 (mbin E .mul 3 v13_6 x2) fun v15_7 => (k1 (mbin E .add 3 v11_4 v15_7) fun v16_8 => (k1 (mfieldAddr E.P 50 v3_1 4) fun v17_9 => (k1 (xload E.P m 3 v17_9) fun v18_10 => (k1 (mbin E .add 3 v16_8 v18_10) fun v19_11 => (k1 (mfieldAddr E.P 50 v3_1 2) fun v20_12 => (k1 (xload E.P m 3 v20_12) fun v21_13 => (k1 (mbin E .mul 3 v21_13 x1) fun v23_14 => (k1 (mfieldAddr E.P 50 v3_1 3) fun v24_15 => (k1 (xload E.P m 3 v24_15) fun v25_16 => (k1 (mbin E .mul 3 v25_16 x2) fun v27_17 => (k1 (mbin E .add 3 v23_14 v27_17) fun v28_18 => (k1 (mfieldAddr E.P 50 v3_1 5) fun v29_19 => (k1 (xload E.P m 3 v29_19) fun v30_20 => (k1 (mbin E .add 3 v28_18 v30_20) fun v31_21 => (some (.ret (.tuple #[v19_11, v31_21]), m)))))))))))))))))))))))
def keep50 : Keep := { region := fun i => ([[1, 2, 3], [6, 7]] : List (List Nat))[i]?, exit := fun i => ([] : List (List Nat))[i]?, ret := some [6, 7] }
noncomputable def lp50 (call : CallF) (fuel base : Nat) : Lp := lpsel []
noncomputable def c50 : Code := Tryd.f50.body.getD .skip
theorem r50_eq (call : CallF) (fuel base : Nat) (x0 : Value) (x1 : Value) (x2 : Value) (m : M) : kbody E call keep50 (lp50 call fuel base) base Tryd.f50 [x0, x1, x2] m = r50 call fuel base x0 x1 x2 m := by
  kernel_rfl
noncomputable def rf50 : RF := fun call fuel base args m => match args with
  | [x0, x1, x2] => r50 call fuel base x0 x1 x2 m
  | _ => none
theorem r50_lk (call : CallF) (fuel base : Nat) : LoopsOk E call (lp50 call fuel base) fuel base 0 c50 = (And True (And True True)) := by kernel_rfl
theorem r50_fn : E.P.funcs[50]? = some Tryd.f50 := by kernel_rfl
theorem r50_body : Tryd.f50.body = some c50 := by kernel_rfl
theorem rf50_ok : RFok E 50 rf50 := by
  refine ⟨Tryd.f50, r50_fn, fun call fuel base args m r _ h => ?_⟩
  unfold rf50 at h
  split at h
  · rw [← r50_eq] at h
    exact kbody_sound (c := c50) r50_body (Eq.mpr (r50_lk call fuel base) (And.intro trivial (And.intro trivial trivial))) h
  · simp at h
end Go.AM
namespace Go.AM
open Go Go.Proofs
noncomputable def r56 (call : CallF) (fuel base : Nat) (x0 : Value) (m : M) : Res2 :=
  (k2 (xbox m x0) fun v1_1 m => (k1 (xload E.P m 50 v1_1) fun v3_2 => (kc (call base 81 [v3_2] m) (fun v4_3 m => (k1 (mbin E .geq 3 v4_3 (.int .i64 0)) fun v5_4 => (kb v5_4 (k1 (mfieldAddr E.P 50 v1_1 4) fun v7_5 => (k1 (xload E.P m 3 v7_5) fun v8_6 => (kc (call base 82 [v8_6] m) (fun v9_7 m => (kb v9_7 (k1 (mfieldAddr E.P 50 v1_1 5) fun v12_8 => (k1 (xload E.P m 3 v12_8) fun v13_9 => (kc (call base 82 [v13_9] m) (fun v14_10 m => (fVal v14_10 fun v => some (.ret v, m))) (fun v m => some (.pan v, m))))) (fVal (.bool false) fun v => some (.ret v, m)))) (fun v m => some (.pan v, m))))) (fVal (.bool false) fun v => some (.ret v, m))))) (fun v m => some (.pan v, m)))))
def keep56 : Keep := { region := fun i => ([[1], [2]] : List (List Nat))[i]?, exit := fun i => ([] : List (List Nat))[i]?, ret := some [2] }
noncomputable def lp56 (call : CallF) (fuel base : Nat) : Lp := lpsel []
noncomputable def c56 : Code := Tryd.f56.body.getD .skip
theorem r56_eq (call : CallF) (fuel base : Nat) (x0 : Value) (m : M) : kbody E call keep56 (lp56 call fuel base) base Tryd.f56 [x0] m = r56 call fuel base x0 m := by
  kernel_rfl
noncomputable def rf56 : RF := fun call fuel base args m => match args with
  | [x0] => r56 call fuel base x0 m
  | _ => none
theorem r56_lk (call : CallF) (fuel base : Nat) : LoopsOk E call (lp56 call fuel base) fuel base 0 c56 = (And True (And True True)) := by kernel_rfl
theorem r56_fn : E.P.funcs[56]? = some Tryd.f56 := by kernel_rfl
theorem r56_body : Tryd.f56.body = some c56 := by kernel_rfl
theorem rf56_ok : RFok E 56 rf56 := by
  refine ⟨Tryd.f56, r56_fn, fun call fuel base args m r _ h => ?_⟩
  unfold rf56 at h
  split at h
  · rw [← r56_eq] at h
    exact kbody_sound (c := c56) r56_body (Eq.mpr (r56_lk call fuel base) (And.intro trivial (And.intro trivial trivial))) h
  · simp at h
end Go.AM
namespace Go.AM
open Go Go.Proofs
noncomputable def r57 (call : CallF) (fuel base : Nat) (x0 : Value) (x1 : Value) (m : M) : Res2 :=
  (k2 (xbox m x0) fun v2_1 m => (k2 (xbox m x1) fun v3_2 m => (k1 (xload E.P m 66 v2_1) fun v7_3 => (k1 (mindexAddr E.P 66 v7_3 (.int .i64 0)) fun v8_4 => (k1 (xload E.P m 9 v8_4) fun v9_5 => (k2 (vcall E.P base m .len [9] [v9_5]) fun v10_6 m => (k1 (xload E.P m 66 v2_1) fun v11_7 => (k2 (vcall E.P base m .len [66] [v11_7]) fun v12_8 m => (k1 (mfieldAddr E.P 50 v3_2 0) fun v13_9 => (k1 (xload E.P m 3 v13_9) fun v14_10 => (k1 (mbin E .eql 3 v14_10 (.int .i64 0)) fun v15_11 => (kb v15_11 (kc (call base 83 [v12_8, v10_6, (.func (.func 84) #[] #[v2_1, v3_2])] m) (fun v21_12 m => (fVal v21_12 fun v => some (.ret v, m))) (fun v m => some (.pan v, m))) (kc (call base 83 [v10_6, v12_8, (.func (.func 84) #[] #[v2_1, v3_2])] m) (fun v21_13 m => (fVal v21_13 fun v => some (.ret v, m))) (fun v m => some (.pan v, m)))))))))))))))
def keep57 : Keep := { region := fun i => ([[2, 3], [2, 3, 5, 6], [2, 3, 5, 6, 15], [2, 3, 5, 6], [4]] : List (List Nat))[i]?, exit := fun i => ([] : List (List Nat))[i]?, ret := some [4] }
noncomputable def lp57 (call : CallF) (fuel base : Nat) : Lp := lpsel []
noncomputable def c57 : Code := Tryd.f57.body.getD .skip
theorem r57_eq (call : CallF) (fuel base : Nat) (x0 : Value) (x1 : Value) (m : M) : kbody E call keep57 (lp57 call fuel base) base Tryd.f57 [x0, x1] m = r57 call fuel base x0 x1 m := by
  kernel_rfl
noncomputable def rf57 : RF := fun call fuel base args m => match args with
  | [x0, x1] => r57 call fuel base x0 x1 m
  | _ => none
theorem r57_lk (call : CallF) (fuel base : Nat) : LoopsOk E call (lp57 call fuel base) fuel base 0 c57 = (And True (And True (And (And True (And True True)) (And True True)))) := by kernel_rfl
theorem r57_fn : E.P.funcs[57]? = some Tryd.f57 := by kernel_rfl
theorem r57_body : Tryd.f57.body = some c57 := by kernel_rfl
theorem rf57_ok : RFok E 57 rf57 := by
  refine ⟨Tryd.f57, r57_fn, fun call fuel base args m r _ h => ?_⟩
  unfold rf57 at h
  split at h
  · rw [← r57_eq] at h
    exact kbody_sound (c := c57) r57_body (Eq.mpr (r57_lk call fuel base) (And.intro trivial (And.intro trivial (And.intro (And.intro trivial (And.intro trivial trivial)) (And.intro trivial trivial))))) h
  · simp at h
end Go.AM
namespace Go.AM
open Go Go.Proofs
noncomputable def r58 (call : CallF) (fuel base : Nat) (x0 : Value) (x1 : Value) (x2 : Value) (m : M) : Res2 :=
  (k2 (vcall E.P base m .len [22] [x0]) fun v10_1 m => (kc (kB m (call m.length 77 [x2, v10_1] m)) (fun v11_2 m => (k1 (mindexAddr E.P 22 x0 v11_2) fun v12_3 => (k1 (xload E.P m 9 v12_3) fun v13_4 => (k1 (mindexAddr E.P 22 x0 (.int .i64 0)) fun v16_5 => (k1 (xload E.P m 9 v16_5) fun v17_6 => (k2 (vcall E.P base m .len [9] [v17_6]) fun v18_7 m => (kc (kB m (call m.length 77 [x1, v18_7] m)) (fun v19_8 m => (k1 (mindex E.P 9 v13_4 v19_8) fun v20_9 => (fVal v20_9 fun v => some (.ret v, m)))) (fun _ _ => none)))))))) (fun _ _ => none)))
def keep58 : Keep := { region := fun i => ([[0, 1, 2], [6]] : List (List Nat))[i]?, exit := fun i => ([] : List (List Nat))[i]?, ret := some [6] }
noncomputable def lp58 (call : CallF) (fuel base : Nat) : Lp := lpsel []
noncomputable def c58 : Code := Tryd.f58.body.getD .skip
theorem r58_eq (call : CallF) (fuel base : Nat) (x0 : Value) (x1 : Value) (x2 : Value) (m : M) : kbody E call keep58 (lp58 call fuel base) base Tryd.f58 [x0, x1, x2] m = r58 call fuel base x0 x1 x2 m := by
  kernel_rfl
noncomputable def rf58 : RF := fun call fuel base args m => match args with
  | [x0, x1, x2] => r58 call fuel base x0 x1 x2 m
  | _ => none
theorem r58_lk (call : CallF) (fuel base : Nat) : LoopsOk E call (lp58 call fuel base) fuel base 0 c58 = (And True (And True True)) := by kernel_rfl
theorem r58_fn : E.P.funcs[58]? = some Tryd.f58 := by kernel_rfl
theorem r58_body : Tryd.f58.body = some c58 := by kernel_rfl
theorem rf58_ok : RFok E 58 rf58 := by
  refine ⟨Tryd.f58, r58_fn, fun call fuel base args m r _ h => ?_⟩
  unfold rf58 at h
  split at h
  · rw [← r58_eq] at h
    exact kbody_sound (c := c58) r58_body (Eq.mpr (r58_lk call fuel base) (And.intro trivial (And.intro trivial trivial))) h
  · simp at h
end Go.AM
namespace Go.AM
open Go Go.Proofs
noncomputable def r61 (call : CallF) (fuel base : Nat) (x0 : Value) (m : M) : Res2 :=
  (k2 (xalloc E.P m 50) fun v2_1 m => (k1 (mbin E .eql 3 x0 (.int .i64 0)) fun v5_2 => (kb v5_2 (k1 (mbuild E.P 50 [(0, (.int .i64 1)), (3, (.int .i64 1))]) fun v6_3 => (ks (xstore E.P base m 50 v2_1 v6_3) fun m => (k0 (mload E.P m 50 v2_1) fun r_4 => (fVal r_4 fun v => some (.ret v, m))))) (k1 (mbin E .eql 3 x0 (.int .i64 1)) fun v8_5 => (kb v8_5 (k1 (mbuild E.P 50 [(1, (.int .i64 (-1))), (2, (.int .i64 1))]) fun v9_6 => (ks (xstore E.P base m 50 v2_1 v9_6) fun m => (k0 (mload E.P m 50 v2_1) fun r_7 => (fVal r_7 fun v => some (.ret v, m))))) (k1 (mbin E .eql 3 x0 (.int .i64 2)) fun v11_8 => (kb v11_8 (k1 (mbuild E.P 50 [(0, (.int .i64 (-1))), (3, (.int .i64 (-1)))]) fun v12_9 => (ks (xstore E.P base m 50 v2_1 v12_9) fun m => (k0 (mload E.P m 50 v2_1) fun r_10 => (fVal r_10 fun v => some (.ret v, m))))) (k1 (mbin E .eql 3 x0 (.int .i64 3)) fun v14_11 => (kb v14_11 (k1 (mbuild E.P 50 [(1, (.int .i64 1)), (2, (.int .i64 (-1)))]) fun v15_12 => (ks (xstore E.P base m 50 v2_1 v15_12) fun m => (k0 (mload E.P m 50 v2_1) fun r_13 => (fVal r_13 fun v => some (.ret v, m))))) (k1 (mbin E .eql 3 x0 (.int .i64 4)) fun v17_14 => (kb v17_14 (k1 (mbuild E.P 50 [(0, (.int .i64 1)), (3, (.int .i64 (-1)))]) fun v18_15 => (ks (xstore E.P base m 50 v2_1 v18_15) fun m => (k0 (mload E.P m 50 v2_1) fun r_16 => (fVal r_16 fun v => some (.ret v, m))))) (k1 (mbin E .eql 3 x0 (.int .i64 5)) fun v20_17 => (kb v20_17 (k1 (mbuild E.P 50 [(0, (.int .i64 (-1))), (3, (.int .i64 1))]) fun v21_18 => (ks (xstore E.P base m 50 v2_1 v21_18) fun m => (k0 (mload E.P m 50 v2_1) fun r_19 => (fVal r_19 fun v => some (.ret v, m))))) (k1 (mbin E .eql 3 x0 (.int .i64 6)) fun v23_20 => (kb v23_20 (k1 (mbuild E.P 50 [(1, (.int .i64 1)), (2, (.int .i64 1))]) fun v24_21 => (ks (xstore E.P base m 50 v2_1 v24_21) fun m => (k0 (mload E.P m 50 v2_1) fun r_22 => (fVal r_22 fun v => some (.ret v, m))))) (k1 (mbuild E.P 50 [(1, (.int .i64 (-1))), (2, (.int .i64 (-1)))]) fun v25_23 => (ks (xstore E.P base m 50 v2_1 v25_23) fun m => (k0 (mload E.P m 50 v2_1) fun r_24 => (fVal r_24 fun v => some (.ret v, m))))))))))))))))))))
def keep61 : Keep := { region := fun i => ([[0, 2], [2, 3], [2, 3, 4], [2], [2, 3, 7], [2], [2, 3, 10], [2], [2, 3, 13], [2], [2, 3, 16], [2], [2, 3, 19], [2], [2, 22], [2], [2]] : List (List Nat))[i]?, exit := fun i => ([[2]] : List (List Nat))[i]?, ret := some [2] }
noncomputable def lp61 (call : CallF) (fuel base : Nat) : Lp := lpsel []
noncomputable def c61 : Code := Tryd.f61.body.getD .skip
theorem r61_eq (call : CallF) (fuel base : Nat) (x0 : Value) (m : M) : kbody E call keep61 (lp61 call fuel base) base Tryd.f61 [x0] m = r61 call fuel base x0 m := by
  kernel_rfl
noncomputable def rf61 : RF := fun call fuel base args m => match args with
  | [x0] => r61 call fuel base x0 m
  | _ => none
theorem r61_lk (call : CallF) (fuel base : Nat) : LoopsOk E call (lp61 call fuel base) fuel base 0 c61 = (And True (And (And True (And True (And (And True True) (And True (And (And True True) (And True (And (And True True) (And True (And (And True True) (And True (And (And True True) (And True (And (And True True) (And True (And (And True True) True))))))))))))))) (And True True))) := by kernel_rfl
theorem r61_fn : E.P.funcs[61]? = some Tryd.f61 := by kernel_rfl
theorem r61_body : Tryd.f61.body = some c61 := by kernel_rfl
theorem rf61_ok : RFok E 61 rf61 := by
  refine ⟨Tryd.f61, r61_fn, fun call fuel base args m r _ h => ?_⟩
  unfold rf61 at h
  split at h
  · rw [← r61_eq] at h
    exact kbody_sound (c := c61) r61_body (Eq.mpr (r61_lk call fuel base) (And.intro trivial (And.intro (And.intro trivial (And.intro trivial (And.intro (And.intro trivial trivial) (And.intro trivial (And.intro (And.intro trivial trivial) (And.intro trivial (And.intro (And.intro trivial trivial) (And.intro trivial (And.intro (And.intro trivial trivial) (And.intro trivial (And.intro (And.intro trivial trivial) (And.intro trivial (And.intro (And.intro trivial trivial) (And.intro trivial (And.intro (And.intro trivial trivial) trivial))))))))))))))) (And.intro trivial trivial)))) h
  · simp at h
end Go.AM
namespace Go.AM
open Go Go.Proofs
noncomputable def r62_L0 (call : CallF) (fuel base : Nat) (kr : Value → M → Res2) (kx0 : M → Res2) (n : Nat) : Value → Value → Value → M → Res2 :=
  Nat.rec (motive := fun _ => Value → Value → Value → M → Res2) (fun _ _ _ _ => none)
    (fun _ ih x0 x5 x6 m =>
      (k1 (mbin E .lss 3 x6 x5) fun v7_2 => (kb v7_2 (k1 (mindex E.P 9 x0 x6) fun v11_3 => (k1 (mbin E .lss 5 v11_3 (.int .u8 97)) fun v12_4 => (kb v12_4 (kr (.bool false) m) (k1 (mindex E.P 9 x0 x6) fun v16_5 => (k1 (mbin E .gtr 5 v16_5 (.int .u8 100)) fun v17_6 => (kb v17_6 (kr (.bool false) m) (k1 (mbin E .add 3 x6 (.int .i64 1)) fun v19_7 => (ih x0 x5 v19_7 m)))))))) (kx0 m)))) n
noncomputable def r62 (call : CallF) (fuel base : Nat) (x0 : Value) (m : M) : Res2 :=
  (k2 (vcall E.P base m .len [9] [x0]) fun v5_1 m => (r62_L0 call fuel base (fun y2_8 m => (fVal y2_8 fun v => some (.ret v, m))) (fun m => (fVal (.bool true) fun v => some (.ret v, m))) fuel x0 v5_1 (.int .i64 0) m))
def keep62 : Keep := { region := fun i => ([[0], [0, 5, 6], [0, 5, 6, 7], [0, 3, 5, 6], [0, 5, 6, 18], [2], [0, 5, 6], [2]] : List (List Nat))[i]?, exit := fun i => ([[], [0, 5, 6]] : List (List Nat))[i]?, ret := some [2] }
noncomputable def r62_L0_R (call : CallF) (fuel base n : Nat) (vs : List Value) (m : M) (K : KT) : Res2 := match vs with
  | [x0, x5, x6] => r62_L0 call fuel base (fun y2 m => K .ret { n := 20, l := [(2, y2)] } m) (fun m => K (.exit 0) { n := 20, l := [] } m) n x0 x5 x6 m
  | _ => none
noncomputable def lp62 (call : CallF) (fuel base : Nat) : Lp := lpsel [(0, fun T m K => kslots 20 [0, 5, 6] T fun vs => r62_L0_R call fuel base fuel vs m K)]
noncomputable def c62 : Code := Tryd.f62.body.getD .skip
theorem r62_L0_lk (call : CallF) (fuel base : Nat) : LoopsOk E call (lp62 call fuel base) fuel base 0 (loopB (blockB (seqR (seqL (seqR c62))))) = (And True (And (And True True) (And (And True (And True (And (And True True) True))) True))) := by kernel_rfl
theorem r62_L0_ok (call : CallF) (fuel base : Nat) : LpOk E call (lp62 call fuel base) fuel base 0 (loopB (blockB (seqR (seqL (seqR c62))))) := by
  refine loop_ok (kp := keep62) (hb := Eq.mpr (r62_L0_lk call fuel base) (And.intro trivial (And.intro (And.intro trivial trivial) (And.intro (And.intro trivial (And.intro trivial (And.intro (And.intro trivial trivial) trivial))) trivial)))) 20 [0, 5, 6] (fun n vs m K => r62_L0_R call fuel base n vs m K) ?_ ?_ (fun _ _ _ => rfl)
  · intro vs m K
    unfold r62_L0_R
    split <;> rfl
  · intro n vs m K hl
    match vs, hl with
    | [x0, x5, x6], _ => show _ = _; kernel_rfl
theorem r62_eq (call : CallF) (fuel base : Nat) (x0 : Value) (m : M) : kbody E call keep62 (lp62 call fuel base) base Tryd.f62 [x0] m = r62 call fuel base x0 m := by
  kernel_rfl
noncomputable def rf62 : RF := fun call fuel base args m => match args with
  | [x0] => r62 call fuel base x0 m
  | _ => none
theorem r62_lk (call : CallF) (fuel base : Nat) : LoopsOk E call (lp62 call fuel base) fuel base 0 c62 = (And True (And (And True (LpOk E call (lp62 call fuel base) fuel base 0 (loopB (blockB (seqR (seqL (seqR c62))))))) (And True True))) := by kernel_rfl
theorem r62_fn : E.P.funcs[62]? = some Tryd.f62 := by kernel_rfl
theorem r62_body : Tryd.f62.body = some c62 := by kernel_rfl
theorem rf62_ok : RFok E 62 rf62 := by
  refine ⟨Tryd.f62, r62_fn, fun call fuel base args m r _ h => ?_⟩
  unfold rf62 at h
  split at h
  · rw [← r62_eq] at h
    exact kbody_sound (c := c62) r62_body (Eq.mpr (r62_lk call fuel base) (And.intro trivial (And.intro (And.intro trivial (r62_L0_ok call fuel base)) (And.intro trivial trivial)))) h
  · simp at h
end Go.AM
namespace Go.AM
open Go Go.Proofs
noncomputable def r63_L4 (call : CallF) (fuel base : Nat) (kr : Value → M → Res2) (kx4 : Value → Value → Value → Value → Value → M → Res2) (n : Nat) : Value → Value → Value → Value → Value → Value → Value → Value → M → Res2 :=
  Nat.rec (motive := fun _ => Value → Value → Value → Value → Value → Value → Value → Value → M → Res2) (fun _ _ _ _ _ _ _ _ _ => none)
    (fun _ ih x0 x3 x5 x6 x22 x23 x26 x27 m =>
      (k1 (mbin E .lss 3 x27 x26) fun v28_14 => (kb v28_14 (k1 (mbuild E.P 103 [(0, x27), (1, x6)]) fun v32_15 => (k2 (xalloc E.P m 103) fun v8_16 m => (ks (xstore E.P base m 103 v8_16 v32_15) fun m => (k1 (xload E.P m 103 v8_16) fun v34_17 => (kc (kB m (call m.length 85 [x0, v34_17] m)) (fun v35_18 m => (k1 (xload E.P m 50 x3) fun v37_19 => (k1 (xload E.P m 103 v8_16) fun v38_20 => (kc (kB m (call m.length 79 [v37_19, v38_20] m)) (fun v39_21 m => (kc (kB m (call m.length 85 [x0, v39_21] m)) (fun v40_22 m => (k1 (mbin E .neq 5 v35_18 v40_22) fun v41_23 => (kb v41_23 (kr (.bool false) m) (k1 (mbin E .add 3 x27 (.int .i64 1)) fun v42_24 => (ih x0 x3 x5 x6 x22 x23 x26 v42_24 m))))) (fun _ _ => none))) (fun _ _ => none))))) (fun _ _ => none)))))) (kx4 x0 x3 x5 x22 x23 m)))) n
noncomputable def r63_L0 (call : CallF) (fuel base : Nat) (kx0 : Value → Value → Value → M → Res2) (n : Nat) : Value → Value → Value → M → Res2 :=
  Nat.rec (motive := fun _ => Value → Value → Value → M → Res2) (fun _ _ _ _ => none)
    (fun _ ih x0 x3 x5 m =>
      (k1 (mindexAddr E.P 66 x0 (.int .i64 0)) fun v13_3 => (k1 (xload E.P m 9 v13_3) fun v14_4 => (k2 (vcall E.P base m .len [9] [v14_4]) fun v15_5 m => (k1 (mbin E .rem 3 x5 v15_5) fun v16_6 => (k1 (mbin E .neq 3 v16_6 (.int .i64 0)) fun v17_7 => (kb v17_7 (k2 (vcall E.P base m .len [66] [x0]) fun v20_8 m => (k1 (mbin E .add 3 x5 v20_8) fun v21_9 => (ih x0 x3 v21_9 m))) (kx0 x0 x3 x5 m)))))))) n
noncomputable def r63_L2 (call : CallF) (fuel base : Nat) (kr : Value → M → Res2) (kx2 : M → Res2) (n : Nat) : Value → Value → Value → Value → Value → M → Res2 :=
  Nat.rec (motive := fun _ => Value → Value → Value → Value → Value → M → Res2) (fun _ _ _ _ _ _ => none)
    (fun _ ih x0 x3 x5 x22 x23 m =>
      (k1 (mbin E .lss 3 x23 x22) fun v24_13 => (kb v24_13 (r63_L4 call fuel base (fun y4_25 m => (kr y4_25 m)) (fun y0_26 y3_27 y5_28 y22_29 y23_30 m => (k1 (mbin E .add 3 y23_30 (.int .i64 1)) fun v43_31 => (ih y0_26 y3_27 y5_28 y22_29 v43_31 m))) fuel x0 x3 x5 x23 x22 x23 x5 (.int .i64 0) m) (kx2 m)))) n
noncomputable def r63 (call : CallF) (fuel base : Nat) (x0 : Value) (x1 : Value) (m : M) : Res2 :=
  (k2 (xbox m x1) fun v3_1 m => (k2 (vcall E.P base m .len [66] [x0]) fun v10_2 m => (r63_L0 call fuel base (fun y0_10 y3_11 y5_12 m => (r63_L2 call fuel base (fun y4_32 m => (fVal y4_32 fun v => some (.ret v, m))) (fun m => (fVal (.bool true) fun v => some (.ret v, m))) fuel y0_10 y3_11 y5_12 y5_12 (.int .i64 0) m)) fuel x0 v3_1 v10_2 m)))
def keep63 : Keep := { region := fun i => ([[0, 3], [0, 3, 5], [0, 3, 5, 17], [0, 3, 5], [0, 3, 5, 22, 23], [0, 3, 5, 22, 23, 24], [0, 3, 5, 6, 22, 23], [0, 3, 5, 6, 22, 23, 26, 27], [0, 3, 5, 6, 22, 23, 26, 27, 28], [0, 3, 5, 6, 7, 22, 23, 26, 27], [0, 3, 5, 6, 8, 22, 23, 26, 27], [0, 3, 5, 6, 22, 23, 26, 27, 41], [4], [0, 3, 5, 6, 22, 23, 26, 27], [0, 3, 5, 22, 23], [4]] : List (List Nat))[i]?, exit := fun i => ([[0, 3, 5], [0, 3, 5], [], [0, 3, 5, 22, 23], [0, 3, 5, 22, 23], [0, 3, 5, 6, 22, 23, 26, 27]] : List (List Nat))[i]?, ret := some [4] }
noncomputable def r63_L4_R (call : CallF) (fuel base n : Nat) (vs : List Value) (m : M) (K : KT) : Res2 := match vs with
  | [x0, x3, x5, x6, x22, x23, x26, x27] => r63_L4 call fuel base (fun y4 m => K .ret { n := 44, l := [(4, y4)] } m) (fun y0 y3 y5 y22 y23 m => K (.exit 4) { n := 44, l := [(0, y0), (3, y3), (5, y5), (22, y22), (23, y23)] } m) n x0 x3 x5 x6 x22 x23 x26 x27 m
  | _ => none
noncomputable def r63_L0_R (call : CallF) (fuel base n : Nat) (vs : List Value) (m : M) (K : KT) : Res2 := match vs with
  | [x0, x3, x5] => r63_L0 call fuel base (fun y0 y3 y5 m => K (.exit 0) { n := 44, l := [(0, y0), (3, y3), (5, y5)] } m) n x0 x3 x5 m
  | _ => none
noncomputable def r63_L2_R (call : CallF) (fuel base n : Nat) (vs : List Value) (m : M) (K : KT) : Res2 := match vs with
  | [x0, x3, x5, x22, x23] => r63_L2 call fuel base (fun y4 m => K .ret { n := 44, l := [(4, y4)] } m) (fun m => K (.exit 2) { n := 44, l := [] } m) n x0 x3 x5 x22 x23 m
  | _ => none
noncomputable def lp63 (call : CallF) (fuel base : Nat) : Lp := lpsel [(4, fun T m K => kslots 44 [0, 3, 5, 6, 22, 23, 26, 27] T fun vs => r63_L4_R call fuel base fuel vs m K), (0, fun T m K => kslots 44 [0, 3, 5] T fun vs => r63_L0_R call fuel base fuel vs m K), (2, fun T m K => kslots 44 [0, 3, 5, 22, 23] T fun vs => r63_L2_R call fuel base fuel vs m K)]
noncomputable def c63 : Code := Tryd.f63.body.getD .skip
theorem r63_L4_lk (call : CallF) (fuel base : Nat) : LoopsOk E call (lp63 call fuel base) fuel base 4 (loopB (blockB (seqR (seqR (blockB (seqL (seqR (seqR (loopB (blockB (seqR (seqL (seqR (seqR (seqR c63))))))))))))))) = (And True (And (And True True) (And (And True (And True (And True (And (And True True) True)))) True))) := by kernel_rfl
theorem r63_L4_ok (call : CallF) (fuel base : Nat) : LpOk E call (lp63 call fuel base) fuel base 4 (loopB (blockB (seqR (seqR (blockB (seqL (seqR (seqR (loopB (blockB (seqR (seqL (seqR (seqR (seqR c63))))))))))))))) := by
  refine loop_ok (kp := keep63) (hb := Eq.mpr (r63_L4_lk call fuel base) (And.intro trivial (And.intro (And.intro trivial trivial) (And.intro (And.intro trivial (And.intro trivial (And.intro trivial (And.intro (And.intro trivial trivial) trivial)))) trivial)))) 44 [0, 3, 5, 6, 22, 23, 26, 27] (fun n vs m K => r63_L4_R call fuel base n vs m K) ?_ ?_ (fun _ _ _ => rfl)
  · intro vs m K
    unfold r63_L4_R
    split <;> rfl
  · intro n vs m K hl
    match vs, hl with
    | [x0, x3, x5, x6, x22, x23, x26, x27], _ => show _ = _; kernel_rfl
theorem r63_L0_lk (call : CallF) (fuel base : Nat) : LoopsOk E call (lp63 call fuel base) fuel base 0 (loopB (blockB (seqL (seqR (seqR c63))))) = (And (And True (And True True)) True) := by kernel_rfl
theorem r63_L0_ok (call : CallF) (fuel base : Nat) : LpOk E call (lp63 call fuel base) fuel base 0 (loopB (blockB (seqL (seqR (seqR c63))))) := by
  refine loop_ok (kp := keep63) (hb := Eq.mpr (r63_L0_lk call fuel base) (And.intro (And.intro trivial (And.intro trivial trivial)) trivial)) 44 [0, 3, 5] (fun n vs m K => r63_L0_R call fuel base n vs m K) ?_ ?_ (fun _ _ _ => rfl)
  · intro vs m K
    unfold r63_L0_R
    split <;> rfl
  · intro n vs m K hl
    match vs, hl with
    | [x0, x3, x5], _ => show _ = _; kernel_rfl
theorem r63_L2_lk (call : CallF) (fuel base : Nat) : LoopsOk E call (lp63 call fuel base) fuel base 2 (loopB (blockB (seqR (seqL (seqR (seqR (seqR c63))))))) = (And True (And (And True True) (And (And True (And True (LpOk E call (lp63 call fuel base) fuel base 4 (loopB (blockB (seqR (seqR (blockB (seqL (seqR (seqR (loopB (blockB (seqR (seqL (seqR (seqR (seqR c63)))))))))))))))))) True))) := by kernel_rfl
theorem r63_L2_ok (call : CallF) (fuel base : Nat) : LpOk E call (lp63 call fuel base) fuel base 2 (loopB (blockB (seqR (seqL (seqR (seqR (seqR c63))))))) := by
  refine loop_ok (kp := keep63) (hb := Eq.mpr (r63_L2_lk call fuel base) (And.intro trivial (And.intro (And.intro trivial trivial) (And.intro (And.intro trivial (And.intro trivial (r63_L4_ok call fuel base))) trivial)))) 44 [0, 3, 5, 22, 23] (fun n vs m K => r63_L2_R call fuel base n vs m K) ?_ ?_ (fun _ _ _ => rfl)
  · intro vs m K
    unfold r63_L2_R
    split <;> rfl
  · intro n vs m K hl
    match vs, hl with
    | [x0, x3, x5, x22, x23], _ => show _ = _; kernel_rfl
theorem r63_eq (call : CallF) (fuel base : Nat) (x0 : Value) (x1 : Value) (m : M) : kbody E call keep63 (lp63 call fuel base) base Tryd.f63 [x0, x1] m = r63 call fuel base x0 x1 m := by
  kernel_rfl
noncomputable def rf63 : RF := fun call fuel base args m => match args with
  | [x0, x1] => r63 call fuel base x0 x1 m
  | _ => none
theorem r63_lk (call : CallF) (fuel base : Nat) : LoopsOk E call (lp63 call fuel base) fuel base 0 c63 = (And True (And True (And (LpOk E call (lp63 call fuel base) fuel base 0 (loopB (blockB (seqL (seqR (seqR c63)))))) (And (And True (LpOk E call (lp63 call fuel base) fuel base 2 (loopB (blockB (seqR (seqL (seqR (seqR (seqR c63))))))))) (And True True))))) := by kernel_rfl
theorem r63_fn : E.P.funcs[63]? = some Tryd.f63 := by kernel_rfl
theorem r63_body : Tryd.f63.body = some c63 := by kernel_rfl
theorem rf63_ok : RFok E 63 rf63 := by
  refine ⟨Tryd.f63, r63_fn, fun call fuel base args m r _ h => ?_⟩
  unfold rf63 at h
  split at h
  · rw [← r63_eq] at h
    exact kbody_sound (c := c63) r63_body (Eq.mpr (r63_lk call fuel base) (And.intro trivial (And.intro trivial (And.intro (r63_L0_ok call fuel base) (And.intro (And.intro trivial (r63_L2_ok call fuel base)) (And.intro trivial trivial)))))) h
  · simp at h
end Go.AM
namespace Go.AM
open Go Go.Proofs
noncomputable def r64 (call : CallF) (fuel base : Nat) (x0 : Value) (x1 : Value) (x2 : Value) (m : M) : Res2 :=
  (k2 (xalloc E.P m 50) fun v6_1 m => (k1 (mindexAddr E.P 92 (.pointer (some ⟨0, 0, some 0⟩)) x0) fun v9_2 => (k1 (xload E.P m 50 v9_2) fun v10_3 => (k2 (xalloc E.P m 50) fun v7_4 m => (ks (xstore E.P base m 50 v7_4 v10_3) fun m => (k1 (mfieldAddr E.P 50 v7_4 4) fun v13_5 => (ks (xstore E.P base m 3 v13_5 x1) fun m => (k1 (mfieldAddr E.P 50 v7_4 5) fun v14_6 => (ks (xstore E.P base m 3 v14_6 x2) fun m => (k1 (xload E.P m 50 v7_4) fun v15_7 => (ks (xstore E.P base m 50 v6_1 v15_7) fun m => (k0 (mload E.P m 50 v6_1) fun r_8 => (fVal r_8 fun v => some (.ret v, m))))))))))))))
def keep64 : Keep := { region := fun i => ([[0, 1, 2, 6], [1, 2, 6, 7], [6, 7], [6]] : List (List Nat))[i]?, exit := fun i => ([] : List (List Nat))[i]?, ret := some [6] }
noncomputable def lp64 (call : CallF) (fuel base : Nat) : Lp := lpsel []
noncomputable def c64 : Code := Tryd.f64.body.getD .skip
theorem r64_eq (call : CallF) (fuel base : Nat) (x0 : Value) (x1 : Value) (x2 : Value) (m : M) : kbody E call keep64 (lp64 call fuel base) base Tryd.f64 [x0, x1, x2] m = r64 call fuel base x0 x1 x2 m := by
  kernel_rfl
noncomputable def rf64 : RF := fun call fuel base args m => match args with
  | [x0, x1, x2] => r64 call fuel base x0 x1 x2 m
  | _ => none
theorem r64_lk (call : CallF) (fuel base : Nat) : LoopsOk E call (lp64 call fuel base) fuel base 0 c64 = (And True (And True (And True (And True True)))) := by kernel_rfl
theorem r64_fn : E.P.funcs[64]? = some Tryd.f64 := by kernel_rfl
theorem r64_body : Tryd.f64.body = some c64 := by kernel_rfl
theorem rf64_ok : RFok E 64 rf64 := by
  refine ⟨Tryd.f64, r64_fn, fun call fuel base args m r _ h => ?_⟩
  unfold rf64 at h
  split at h
  · rw [← r64_eq] at h
    exact kbody_sound (c := c64) r64_body (Eq.mpr (r64_lk call fuel base) (And.intro trivial (And.intro trivial (And.intro trivial (And.intro trivial trivial))))) h
  · simp at h
end Go.AM
namespace Go.AM
open Go Go.Proofs
noncomputable def r65_L2 (call : CallF) (fuel base : Nat) (kp : Value → M → Res2) (kr : Value → M → Res2) (kx2 : Value → Value → Value → Value → Value → M → Res2) (n : Nat) : Value → Value → Value → Value → Value → Value → Value → Value → M → Res2 :=
  Nat.rec (motive := fun _ => Value → Value → Value → Value → Value → Value → Value → Value → M → Res2) (fun _ _ _ _ _ _ _ _ _ => none)
    (fun _ ih x0 x1 x5 x7 x11 x12 x16 x17 m =>
      (k1 (mbin E .lss 3 x17 x16) fun v18_7 => (kb v18_7 (kc (call base 64 [x1, x7, x17] m) (fun v23_8 m => (k2 (xalloc E.P m 50) fun v9_9 m => (ks (xstore E.P base m 50 v9_9 v23_8) fun m => (k1 (xload E.P m 50 v9_9) fun v25_10 => (kc (call base 63 [x0, v25_10] m) (fun v26_11 m => (kb v26_11 (k1 (xload E.P m 50 v9_9) fun v27_12 => (k2 (xbuildSlice E.P m 30 1 [(0, v27_12)]) fun v28_13 m => (kr v28_13 m))) (k1 (mbin E .add 3 x17 (.int .i64 1)) fun v29_14 => (ih x0 x1 x5 x7 x11 x12 x16 v29_14 m)))) (fun v m => kp v m)))))) (fun v m => kp v m)) (kx2 x0 x1 x5 x11 x12 m)))) n
noncomputable def r65_L0 (call : CallF) (fuel base : Nat) (kp : Value → M → Res2) (kr : Value → M → Res2) (kx0 : M → Res2) (n : Nat) : Value → Value → Value → Value → Value → M → Res2 :=
  Nat.rec (motive := fun _ => Value → Value → Value → Value → Value → M → Res2) (fun _ _ _ _ _ _ => none)
    (fun _ ih x0 x1 x5 x11 x12 m =>
      (k1 (mbin E .lss 3 x12 x11) fun v13_4 => (kb v13_4 (k1 (mfieldAddr E.P 26 x5 2) fun v15_5 => (k1 (xload E.P m 3 v15_5) fun v16_6 => (r65_L2 call fuel base (fun v m => kp v m) (fun y6_15 m => (kr y6_15 m)) (fun y0_16 y1_17 y5_18 y11_19 y12_20 m => (k1 (mbin E .add 3 y12_20 (.int .i64 1)) fun v30_21 => (ih y0_16 y1_17 y5_18 y11_19 v30_21 m))) fuel x0 x1 x5 x12 x11 x12 v16_6 (.int .i64 0) m))) (kx0 m)))) n
noncomputable def r65 (call : CallF) (fuel base : Nat) (x0 : Value) (x1 : Value) (x2 : Value) (m : M) : Res2 :=
  (k2 (xbox m x2) fun v5_1 m => (k1 (mfieldAddr E.P 26 v5_1 0) fun v10_2 => (k1 (xload E.P m 3 v10_2) fun v11_3 => (r65_L0 call fuel base (fun v m => some (.pan v, m)) (fun y6_22 m => (fVal y6_22 fun v => some (.ret v, m))) (fun m => (fVal (.slice none 0 0) fun v => some (.ret v, m))) fuel x0 x1 v5_1 v11_3 (.int .i64 0) m))))
def keep65 : Keep := { region := fun i => ([[0, 1, 5], [0, 1, 5, 11, 12], [0, 1, 5, 11, 12, 13], [0, 1, 5, 7, 11, 12], [0, 1, 5, 7, 11, 12, 16, 17], [0, 1, 5, 7, 11, 12, 16, 17, 18], [0, 1, 5, 7, 8, 11, 12, 16, 17], [0, 1, 5, 7, 9, 11, 12, 16, 17], [0, 1, 5, 7, 9, 11, 12, 16, 17, 26], [6], [0, 1, 5, 7, 11, 12, 16, 17], [0, 1, 5, 11, 12], [6]] : List (List Nat))[i]?, exit := fun i => ([[], [0, 1, 5, 11, 12], [0, 1, 5, 11, 12], [0, 1, 5, 7, 11, 12, 16, 17]] : List (List Nat))[i]?, ret := some [6] }
noncomputable def r65_L2_R (call : CallF) (fuel base n : Nat) (vs : List Value) (m : M) (K : KT) : Res2 := match vs with
  | [x0, x1, x5, x7, x11, x12, x16, x17] => r65_L2 call fuel base (fun v m => K (.pan v) { n := 31, l := [] } m) (fun y6 m => K .ret { n := 31, l := [(6, y6)] } m) (fun y0 y1 y5 y11 y12 m => K (.exit 2) { n := 31, l := [(0, y0), (1, y1), (5, y5), (11, y11), (12, y12)] } m) n x0 x1 x5 x7 x11 x12 x16 x17 m
  | _ => none
noncomputable def r65_L0_R (call : CallF) (fuel base n : Nat) (vs : List Value) (m : M) (K : KT) : Res2 := match vs with
  | [x0, x1, x5, x11, x12] => r65_L0 call fuel base (fun v m => K (.pan v) { n := 31, l := [] } m) (fun y6 m => K .ret { n := 31, l := [(6, y6)] } m) (fun m => K (.exit 0) { n := 31, l := [] } m) n x0 x1 x5 x11 x12 m
  | _ => none
noncomputable def lp65 (call : CallF) (fuel base : Nat) : Lp := lpsel [(2, fun T m K => kslots 31 [0, 1, 5, 7, 11, 12, 16, 17] T fun vs => r65_L2_R call fuel base fuel vs m K), (0, fun T m K => kslots 31 [0, 1, 5, 11, 12] T fun vs => r65_L0_R call fuel base fuel vs m K)]
noncomputable def c65 : Code := Tryd.f65.body.getD .skip
theorem r65_L2_lk (call : CallF) (fuel base : Nat) : LoopsOk E call (lp65 call fuel base) fuel base 2 (loopB (blockB (seqR (seqR (blockB (seqL (seqR (seqR (loopB (blockB (seqR (seqL (seqR c65))))))))))))) = (And True (And (And True True) (And (And True (And True (And True (And (And True True) True)))) True))) := by kernel_rfl
theorem r65_L2_ok (call : CallF) (fuel base : Nat) : LpOk E call (lp65 call fuel base) fuel base 2 (loopB (blockB (seqR (seqR (blockB (seqL (seqR (seqR (loopB (blockB (seqR (seqL (seqR c65))))))))))))) := by
  refine loop_ok (kp := keep65) (hb := Eq.mpr (r65_L2_lk call fuel base) (And.intro trivial (And.intro (And.intro trivial trivial) (And.intro (And.intro trivial (And.intro trivial (And.intro trivial (And.intro (And.intro trivial trivial) trivial)))) trivial)))) 31 [0, 1, 5, 7, 11, 12, 16, 17] (fun n vs m K => r65_L2_R call fuel base n vs m K) ?_ ?_ (fun _ _ _ => rfl)
  · intro vs m K
    unfold r65_L2_R
    split <;> rfl
  · intro n vs m K hl
    match vs, hl with
    | [x0, x1, x5, x7, x11, x12, x16, x17], _ => show _ = _; kernel_rfl
theorem r65_L0_lk (call : CallF) (fuel base : Nat) : LoopsOk E call (lp65 call fuel base) fuel base 0 (loopB (blockB (seqR (seqL (seqR c65))))) = (And True (And (And True True) (And (And True (And True (LpOk E call (lp65 call fuel base) fuel base 2 (loopB (blockB (seqR (seqR (blockB (seqL (seqR (seqR (loopB (blockB (seqR (seqL (seqR c65)))))))))))))))) True))) := by kernel_rfl
theorem r65_L0_ok (call : CallF) (fuel base : Nat) : LpOk E call (lp65 call fuel base) fuel base 0 (loopB (blockB (seqR (seqL (seqR c65))))) := by
  refine loop_ok (kp := keep65) (hb := Eq.mpr (r65_L0_lk call fuel base) (And.intro trivial (And.intro (And.intro trivial trivial) (And.intro (And.intro trivial (And.intro trivial (r65_L2_ok call fuel base))) trivial)))) 31 [0, 1, 5, 11, 12] (fun n vs m K => r65_L0_R call fuel base n vs m K) ?_ ?_ (fun _ _ _ => rfl)
  · intro vs m K
    unfold r65_L0_R
    split <;> rfl
  · intro n vs m K hl
    match vs, hl with
    | [x0, x1, x5, x11, x12], _ => show _ = _; kernel_rfl
theorem r65_eq (call : CallF) (fuel base : Nat) (x0 : Value) (x1 : Value) (x2 : Value) (m : M) : kbody E call keep65 (lp65 call fuel base) base Tryd.f65 [x0, x1, x2] m = r65 call fuel base x0 x1 x2 m := by
  kernel_rfl
noncomputable def rf65 : RF := fun call fuel base args m => match args with
  | [x0, x1, x2] => r65 call fuel base x0 x1 x2 m
  | _ => none
theorem r65_lk (call : CallF) (fuel base : Nat) : LoopsOk E call (lp65 call fuel base) fuel base 0 c65 = (And True (And (And True (LpOk E call (lp65 call fuel base) fuel base 0 (loopB (blockB (seqR (seqL (seqR c65))))))) (And True True))) := by kernel_rfl
theorem r65_fn : E.P.funcs[65]? = some Tryd.f65 := by kernel_rfl
theorem r65_body : Tryd.f65.body = some c65 := by kernel_rfl
theorem rf65_ok : RFok E 65 rf65 := by
  refine ⟨Tryd.f65, r65_fn, fun call fuel base args m r _ h => ?_⟩
  unfold rf65 at h
  split at h
  · rw [← r65_eq] at h
    exact kbody_sound (c := c65) r65_body (Eq.mpr (r65_lk call fuel base) (And.intro trivial (And.intro (And.intro trivial (r65_L0_ok call fuel base)) (And.intro trivial trivial)))) h
  · simp at h
end Go.AM
namespace Go.AM
open Go Go.Proofs
noncomputable def r67 (call : CallF) (fuel base : Nat) (x0 : Value) (x1 : Value) (m : M) : Res2 :=
  (k2 (xbox m x0) fun v2_1 m => (k2 (xbox m x1) fun v3_2 m => (k2 (xalloc E.P m 50) fun v4_3 m => (k1 (mfieldAddr E.P 70 v2_1 1) fun v7_4 => (k1 (xload E.P m 30 v7_4) fun v8_5 => (kc (call base 87 [v8_5, (.func (.func 88) #[] #[v3_2])] m) (fun v10_6 m => (k1 (mbin E .lss 3 v10_6 (.int .i64 0)) fun v12_7 => (kb v12_7 (k1 (mbuild E.P 50 []) fun v13_8 => (ks (xstore E.P base m 50 v4_3 v13_8) fun m => (k0 (mload E.P m 50 v4_3) fun r_9 => (some (.ret (.tuple #[r_9, (.bool false)]), m))))) (k1 (mfieldAddr E.P 70 v2_1 1) fun v14_10 => (k1 (xload E.P m 30 v14_10) fun v15_11 => (k1 (mindexAddr E.P 30 v15_11 v10_6) fun v17_12 => (k1 (xload E.P m 50 v17_12) fun v18_13 => (ks (xstore E.P base m 50 v4_3 v18_13) fun m => (k0 (mload E.P m 50 v4_3) fun r_14 => (some (.ret (.tuple #[r_14, (.bool true)]), m))))))))))) (fun v m => some (.pan v, m))))))))
def keep67 : Keep := { region := fun i => ([[2, 3, 4], [2, 4, 6], [2, 4, 6, 12], [4, 5], [4, 5]] : List (List Nat))[i]?, exit := fun i => ([] : List (List Nat))[i]?, ret := some [4, 5] }
noncomputable def lp67 (call : CallF) (fuel base : Nat) : Lp := lpsel []
noncomputable def c67 : Code := Tryd.f67.body.getD .skip
theorem r67_eq (call : CallF) (fuel base : Nat) (x0 : Value) (x1 : Value) (m : M) : kbody E call keep67 (lp67 call fuel base) base Tryd.f67 [x0, x1] m = r67 call fuel base x0 x1 m := by
  kernel_rfl
noncomputable def rf67 : RF := fun call fuel base args m => match args with
  | [x0, x1] => r67 call fuel base x0 x1 m
  | _ => none
theorem r67_lk (call : CallF) (fuel base : Nat) : LoopsOk E call (lp67 call fuel base) fuel base 0 c67 = (And True (And True (And (And True (And (And True True) True)) (And True True)))) := by kernel_rfl
theorem r67_fn : E.P.funcs[67]? = some Tryd.f67 := by kernel_rfl
theorem r67_body : Tryd.f67.body = some c67 := by kernel_rfl
theorem rf67_ok : RFok E 67 rf67 := by
  refine ⟨Tryd.f67, r67_fn, fun call fuel base args m r _ h => ?_⟩
  unfold rf67 at h
  split at h
  · rw [← r67_eq] at h
    exact kbody_sound (c := c67) r67_body (Eq.mpr (r67_lk call fuel base) (And.intro trivial (And.intro trivial (And.intro (And.intro trivial (And.intro (And.intro trivial trivial) trivial)) (And.intro trivial trivial))))) h
  · simp at h
end Go.AM
namespace Go.AM
open Go Go.Proofs
noncomputable def r68 (call : CallF) (fuel base : Nat) (x0 : Value) (m : M) : Res2 :=
  (k2 (xbox m x0) fun v1_1 m => (k1 (xload E.P m 70 v1_1) fun v4_2 => (kc (call base 89 [v4_2] m) (fun v5_3 m => (k2 (vcall E.P base m .len [37] [v5_3]) fun v6_4 m => (k1 (mbin E .eql 3 v6_4 (.int .i64 0)) fun v7_5 => (kb v7_5 (fVal (.string (ByteArray.mk #[112, 52])) fun v => some (.ret v, m)) (k1 (xload E.P m 70 v1_1) fun v9_6 => (kc (kB m (call m.length 91 [v9_6, (.int .i64 1)] m)) (fun v10_7 m => (k1 (xload E.P m 70 v1_1) fun v11_8 => (kc (kB m (call m.length 90 [v10_7, (.func (.func 92) #[v11_8] #[])] m)) (fun v13_9 m => (kb v13_9 (fVal (.string (ByteArray.mk #[112, 52, 109])) fun v => some (.ret v, m)) (fVal (.string (ByteArray.mk #[112, 52, 103])) fun v => some (.ret v, m)))) (fun _ _ => none)))) (fun _ _ => none))))))) (fun v m => some (.pan v, m)))))
def keep68 : Keep := { region := fun i => ([[1], [1, 3], [2], [8], [2], [2]] : List (List Nat))[i]?, exit := fun i => ([[]] : List (List Nat))[i]?, ret := some [2] }
noncomputable def lp68 (call : CallF) (fuel base : Nat) : Lp := lpsel []
noncomputable def c68 : Code := Tryd.f68.body.getD .skip
theorem r68_eq (call : CallF) (fuel base : Nat) (x0 : Value) (m : M) : kbody E call keep68 (lp68 call fuel base) base Tryd.f68 [x0] m = r68 call fuel base x0 m := by
  kernel_rfl
noncomputable def rf68 : RF := fun call fuel base args m => match args with
  | [x0] => r68 call fuel base x0 m
  | _ => none
theorem r68_lk (call : CallF) (fuel base : Nat) : LoopsOk E call (lp68 call fuel base) fuel base 0 c68 = (And True (And (And True (And (And True True) (And True (And (And True True) True)))) (And True True))) := by kernel_rfl
theorem r68_fn : E.P.funcs[68]? = some Tryd.f68 := by kernel_rfl
theorem r68_body : Tryd.f68.body = some c68 := by kernel_rfl
theorem rf68_ok : RFok E 68 rf68 := by
  refine ⟨Tryd.f68, r68_fn, fun call fuel base args m r _ h => ?_⟩
  unfold rf68 at h
  split at h
  · rw [← r68_eq] at h
    exact kbody_sound (c := c68) r68_body (Eq.mpr (r68_lk call fuel base) (And.intro trivial (And.intro (And.intro trivial (And.intro (And.intro trivial trivial) (And.intro trivial (And.intro (And.intro trivial trivial) trivial)))) (And.intro trivial trivial)))) h
  · simp at h
end Go.AM
namespace Go.AM
open Go Go.Proofs
noncomputable def r69 (call : CallF) (fuel base : Nat) (x0 : Value) (m : M) : Res2 :=
  (k2 (xbox m x0) fun v1_1 m => (k1 (xload E.P m 70 v1_1) fun v3_2 => (kc (call base 89 [v3_2] m) (fun v4_3 m => (k2 (vcall E.P base m .len [37] [v4_3]) fun v5_4 m => (k1 (mbin E .eql 3 v5_4 (.int .i64 0)) fun v6_5 => (kb v6_5 (fVal (.string (ByteArray.mk #[112, 50])) fun v => some (.ret v, m)) (k1 (xload E.P m 70 v1_1) fun v7_6 => (kc (call base 93 [v7_6] m) (fun v8_7 m => (k1 (mbin E .eql 3 v8_7 (.int .i64 0)) fun v10_8 => (kb v10_8 (fVal (.string (ByteArray.mk #[112, 103, 103])) fun v => some (.ret v, m)) (k1 (mbin E .eql 3 v8_7 (.int .i64 1)) fun v12_9 => (kb v12_9 (fVal (.string (ByteArray.mk #[112, 109, 103])) fun v => some (.ret v, m)) (k1 (xload E.P m 70 v1_1) fun v13_10 => (kc (kB m (call m.length 91 [v13_10, (.int .i64 2)] m)) (fun v14_11 m => (k1 (xload E.P m 70 v1_1) fun v15_12 => (kc (kB m (call m.length 90 [v14_11, (.func (.func 94) #[v15_12] #[])] m)) (fun v17_13 m => (kb v17_13 (fVal (.string (ByteArray.mk #[99, 109, 109])) fun v => some (.ret v, m)) (fVal (.string (ByteArray.mk #[112, 109, 109])) fun v => some (.ret v, m)))) (fun _ _ => none)))) (fun _ _ => none)))))))) (fun v m => some (.pan v, m)))))))) (fun v m => some (.pan v, m)))))
def keep69 : Keep := { region := fun i => ([[1], [1, 6], [2], [1, 8], [1, 8, 9], [2], [1, 11], [2], [17], [2], [2]] : List (List Nat))[i]?, exit := fun i => ([[1]] : List (List Nat))[i]?, ret := some [2] }
noncomputable def lp69 (call : CallF) (fuel base : Nat) : Lp := lpsel []
noncomputable def c69 : Code := Tryd.f69.body.getD .skip
theorem r69_eq (call : CallF) (fuel base : Nat) (x0 : Value) (m : M) : kbody E call keep69 (lp69 call fuel base) base Tryd.f69 [x0] m = r69 call fuel base x0 m := by
  kernel_rfl
noncomputable def rf69 : RF := fun call fuel base args m => match args with
  | [x0] => r69 call fuel base x0 m
  | _ => none
theorem r69_lk (call : CallF) (fuel base : Nat) : LoopsOk E call (lp69 call fuel base) fuel base 0 c69 = (And True (And (And True (And (And True True) True)) (And (And True (And True (And (And True True) (And True (And (And True True) True))))) (And (And True (And (And True True) True)) (And True True))))) := by kernel_rfl
theorem r69_fn : E.P.funcs[69]? = some Tryd.f69 := by kernel_rfl
theorem r69_body : Tryd.f69.body = some c69 := by kernel_rfl
theorem rf69_ok : RFok E 69 rf69 := by
  refine ⟨Tryd.f69, r69_fn, fun call fuel base args m r _ h => ?_⟩
  unfold rf69 at h
  split at h
  · rw [← r69_eq] at h
    exact kbody_sound (c := c69) r69_body (Eq.mpr (r69_lk call fuel base) (And.intro trivial (And.intro (And.intro trivial (And.intro (And.intro trivial trivial) trivial)) (And.intro (And.intro trivial (And.intro trivial (And.intro (And.intro trivial trivial) (And.intro trivial (And.intro (And.intro trivial trivial) trivial))))) (And.intro (And.intro trivial (And.intro (And.intro trivial trivial) trivial)) (And.intro trivial trivial)))))) h
  · simp at h
end Go.AM
namespace Go.AM
open Go Go.Proofs
noncomputable def r70 (call : CallF) (fuel base : Nat) (x0 : Value) (m : M) : Res2 :=
  (k2 (xbox m x0) fun v1_1 m => (k1 (xload E.P m 70 v1_1) fun v4_2 => (kc (call base 89 [v4_2] m) (fun v5_3 m => (k2 (vcall E.P base m .len [37] [v5_3]) fun v7_4 m => (k1 (mbin E .eql 3 v7_4 (.int .i64 0)) fun v8_5 => (kb v8_5 (fVal (.string (ByteArray.mk #[112, 49])) fun v => some (.ret v, m)) (k1 (xload E.P m 70 v1_1) fun v9_6 => (kc (call base 93 [v9_6] m) (fun v10_7 m => (k1 (mbin E .eql 3 v10_7 (.int .i64 0)) fun v11_8 => (kb v11_8 (fVal (.string (ByteArray.mk #[112, 103])) fun v => some (.ret v, m)) (k1 (xload E.P m 70 v1_1) fun v12_9 => (k1 (mindexAddr E.P 37 v5_3 (.int .i64 0)) fun v14_10 => (k1 (xload E.P m 3 v14_10) fun v15_11 => (kc (kB m (call m.length 91 [v12_9, v15_11] m)) (fun v16_12 m => (k1 (xload E.P m 70 v1_1) fun v17_13 => (kc (kB m (call m.length 90 [v16_12, (.func (.func 94) #[v17_13] #[])] m)) (fun v19_14 m => (kb v19_14 (fVal (.string (ByteArray.mk #[99, 109])) fun v => some (.ret v, m)) (fVal (.string (ByteArray.mk #[112, 109])) fun v => some (.ret v, m)))) (fun _ _ => none)))) (fun _ _ => none)))))))) (fun v m => some (.pan v, m)))))))) (fun v m => some (.pan v, m)))))
def keep70 : Keep := { region := fun i => ([[1], [1, 3], [1, 3, 8], [2], [1, 3, 11], [2], [19], [2], [2]] : List (List Nat))[i]?, exit := fun i => ([] : List (List Nat))[i]?, ret := some [2] }
noncomputable def lp70 (call : CallF) (fuel base : Nat) : Lp := lpsel []
noncomputable def c70 : Code := Tryd.f70.body.getD .skip
theorem r70_eq (call : CallF) (fuel base : Nat) (x0 : Value) (m : M) : kbody E call keep70 (lp70 call fuel base) base Tryd.f70 [x0] m = r70 call fuel base x0 m := by
  kernel_rfl
noncomputable def rf70 : RF := fun call fuel base args m => match args with
  | [x0] => r70 call fuel base x0 m
  | _ => none
theorem r70_lk (call : CallF) (fuel base : Nat) : LoopsOk E call (lp70 call fuel base) fuel base 0 c70 = (And True (And True (And (And True (And (And True True) True)) (And (And True (And (And True True) True)) (And (And True (And (And True True) True)) (And True True)))))) := by kernel_rfl
theorem r70_fn : E.P.funcs[70]? = some Tryd.f70 := by kernel_rfl
theorem r70_body : Tryd.f70.body = some c70 := by kernel_rfl
theorem rf70_ok : RFok E 70 rf70 := by
  refine ⟨Tryd.f70, r70_fn, fun call fuel base args m r _ h => ?_⟩
  unfold rf70 at h
  split at h
  · rw [← r70_eq] at h
    exact kbody_sound (c := c70) r70_body (Eq.mpr (r70_lk call fuel base) (And.intro trivial (And.intro trivial (And.intro (And.intro trivial (And.intro (And.intro trivial trivial) trivial)) (And.intro (And.intro trivial (And.intro (And.intro trivial trivial) trivial)) (And.intro (And.intro trivial (And.intro (And.intro trivial trivial) trivial)) (And.intro trivial trivial))))))) h
  · simp at h
end Go.AM
namespace Go.AM
open Go Go.Proofs
noncomputable def r77 (call : CallF) (fuel base : Nat) (x0 : Value) (x1 : Value) (m : M) : Res2 :=
  (k1 (mbin E .rem 3 x0 x1) fun v7_1 => (k1 (mbin E .add 3 v7_1 x1) fun v9_2 => (k1 (mbin E .rem 3 v9_2 x1) fun v11_3 => (fVal v11_3 fun v => some (.ret v, m)))))
def keep77 : Keep := { region := fun i => ([[0, 1], [4]] : List (List Nat))[i]?, exit := fun i => ([] : List (List Nat))[i]?, ret := some [4] }
noncomputable def lp77 (call : CallF) (fuel base : Nat) : Lp := lpsel []
noncomputable def c77 : Code := Tryd.f77.body.getD .skip
theorem r77_eq (call : CallF) (fuel base : Nat) (x0 : Value) (x1 : Value) (m : M) : kbody E call keep77 (lp77 call fuel base) base Tryd.f77 [x0, x1] m = r77 call fuel base x0 x1 m := by
  kernel_rfl
noncomputable def rf77 : RF := fun call fuel base args m => match args with
  | [x0, x1] => r77 call fuel base x0 x1 m
  | _ => none
theorem r77_lk (call : CallF) (fuel base : Nat) : LoopsOk E call (lp77 call fuel base) fuel base 0 c77 = (And True (And True True)) := by kernel_rfl
theorem r77_fn : E.P.funcs[77]? = some Tryd.f77 := by kernel_rfl
theorem r77_body : Tryd.f77.body = some c77 := by kernel_rfl
theorem rf77_ok : RFok E 77 rf77 := by
  refine ⟨Tryd.f77, r77_fn, fun call fuel base args m r _ h => ?_⟩
  unfold rf77 at h
  split at h
  · rw [← r77_eq] at h
    exact kbody_sound (c := c77) r77_body (Eq.mpr (r77_lk call fuel base) (And.intro trivial (And.intro trivial trivial))) h
  · simp at h
end Go.AM
namespace Go.AM
open Go Go.Proofs
noncomputable def r79 (call : CallF) (fuel base : Nat) (x0 : Value) (x1 : Value) (m : M) : Res2 :=
  (k2 (xbox m x0) fun v2_1 m => (k2 (xbox m x1) fun v3_2 m => (k2 (xalloc E.P m 103) fun v4_3 m => (k1 (mfieldAddr E.P 50 v2_1 0) fun v5_4 => (k1 (xload E.P m 3 v5_4) fun v6_5 => (k1 (mfieldAddr E.P 103 v3_2 0) fun v7_6 => (k1 (xload E.P m 3 v7_6) fun v8_7 => (k1 (mbin E .mul 3 v6_5 v8_7) fun v9_8 => (k1 (mfieldAddr E.P 50 v2_1 1) fun v10_9 => (k1 (xload E.P m 3 v10_9) fun v11_10 => (k1 (mfieldAddr E.P 103 v3_2 1) fun v12_11 => (k1 (xload E.P m 3 v12_11) fun v13_12 => (k1 (mbin E .mul 3 v11_10 v13_12) fun v14_13 => (k1 (mbin E .add 3 v9_8 v14_13) fun v15_14 => (k1 (mfieldAddr E.P 50 v2_1 4) fun v16_15 => (k1 (xload E.P m 3 v16_15) fun v17_16 => (k1 (mbin E .add 3 v15_14 v17_16) fun v18_17 => (k1 (mfieldAddr E.P 50 v2_1 2) fun v19_18 => (k1 (xload E.P m 3 v19_18) fun v20_19 => (k1 (mfieldAddr E.P 103 v3_2 0) fun v21_20 => (k1 (xload E.P m 3 v21_20) fun v22_21 => (k1 (mbin E .mul 3 v20_19 v22_21) fun v23_22 => (k1 (mfieldAddr E.P 50 v2_1 3) fun v24_23 => (k1 (xload E.P m 3 v24_23) fun v25_24 => (k1 (mfieldAddr E.P 103 v3_2 1) fun v26_25 => (k1 (xload E.P m 3 v26_25) fun v27_26 => (k1 (mbin E .mul 3 v25_24 v27_26) fun v28_27 => (k1 (mbin E .add 3 v23_22 v28_27) fun v29_28 => (k1 (mfieldAddr E.P 50 v2_1 5) fun v30_29 => (k1 (xload E.P m 3 v30_29) fun v31_30 => (k1 (mbin E .add 3 v29_28 v31_30) fun v32_31 => (k1 (mbuild E.P 103 [(0, v18_17), (1, v32_31)]) fun v33_32 => (ks (xstore E.P base m 103 v4_3 v33_32) fun m => (k0 (mload E.P m 103 v4_3) fun r_33 => (fVal r_33 fun v => some (.ret v, m))))))))))))))))))))))))))))))))))))
def keep79 : Keep := { region := fun i => ([[2, 3, 4], [4]] : List (List Nat))[i]?, exit := fun i => ([] : List (List Nat))[i]?, ret := some [4] }
noncomputable def lp79 (call : CallF) (fuel base : Nat) : Lp := lpsel []
noncomputable def c79 : Code := Tryd.f79.body.getD .skip
theorem r79_eq (call : CallF) (fuel base : Nat) (x0 : Value) (x1 : Value) (m : M) : kbody E call keep79 (lp79 call fuel base) base Tryd.f79 [x0, x1] m = r79 call fuel base x0 x1 m := by
  kernel_rfl
noncomputable def rf79 : RF := fun call fuel base args m => match args with
  | [x0, x1] => r79 call fuel base x0 x1 m
  | _ => none
theorem r79_lk (call : CallF) (fuel base : Nat) : LoopsOk E call (lp79 call fuel base) fuel base 0 c79 = (And True (And True True)) := by kernel_rfl
theorem r79_fn : E.P.funcs[79]? = some Tryd.f79 := by kernel_rfl
theorem r79_body : Tryd.f79.body = some c79 := by kernel_rfl
theorem rf79_ok : RFok E 79 rf79 := by
  refine ⟨Tryd.f79, r79_fn, fun call fuel base args m r _ h => ?_⟩
  unfold rf79 at h
  split at h
  · rw [← r79_eq] at h
    exact kbody_sound (c := c79) r79_body (Eq.mpr (r79_lk call fuel base) (And.intro trivial (And.intro trivial trivial))) h
  · simp at h
end Go.AM
namespace Go.AM
open Go Go.Proofs
noncomputable def r81_L0 (call : CallF) (fuel base : Nat) (kr : Value → M → Res2) (kx0 : M → Res2) (n : Nat) : Value → Value → Value → M → Res2 :=
  Nat.rec (motive := fun _ => Value → Value → Value → M → Res2) (fun _ _ _ _ => none)
    (fun _ ih x1 x7 x8 m =>
      (k1 (mbin E .lss 3 x8 (.int .i64 8)) fun v9_5 => (kb v9_5 (k1 (mindex E.P 92 x7 x8) fun v11_6 => (k2 (xalloc E.P m 50) fun v4_7 m => (ks (xstore E.P base m 50 v4_7 v11_6) fun m => (k1 (xload E.P m 50 x1) fun v12_8 => (k1 (xload E.P m 50 v4_7) fun v13_9 => (k1 (mbin E .eql 50 v12_8 v13_9) fun v14_10 => (kb v14_10 (kr x8 m) (k1 (mbin E .add 3 x8 (.int .i64 1)) fun v16_11 => (ih x1 x7 v16_11 m))))))))) (kx0 m)))) n
noncomputable def r81 (call : CallF) (fuel base : Nat) (x0 : Value) (m : M) : Res2 :=
  (k2 (xbox m x0) fun v1_1 m => (k1 (mfieldAddr E.P 50 v1_1 4) fun v5_2 => (ks (xstore E.P base m 3 v5_2 (.int .i64 0)) fun m => (k1 (mfieldAddr E.P 50 v1_1 5) fun v6_3 => (ks (xstore E.P base m 3 v6_3 (.int .i64 0)) fun m => (k1 (xload E.P m 92 (.pointer (some ⟨0, 0, some 0⟩))) fun v7_4 => (r81_L0 call fuel base (fun y2_12 m => (fVal y2_12 fun v => some (.ret v, m))) (fun m => (fVal (.int .i64 (-1)) fun v => some (.ret v, m))) fuel v1_1 v7_4 (.int .i64 0) m)))))))
def keep81 : Keep := { region := fun i => ([[1], [1], [1, 7, 8], [1, 7, 8, 9], [1, 3, 4, 7, 8], [1, 3, 7, 8, 14], [2], [1, 7, 8], [2]] : List (List Nat))[i]?, exit := fun i => ([[], [1, 7, 8]] : List (List Nat))[i]?, ret := some [2] }
noncomputable def r81_L0_R (call : CallF) (fuel base n : Nat) (vs : List Value) (m : M) (K : KT) : Res2 := match vs with
  | [x1, x7, x8] => r81_L0 call fuel base (fun y2 m => K .ret { n := 17, l := [(2, y2)] } m) (fun m => K (.exit 0) { n := 17, l := [] } m) n x1 x7 x8 m
  | _ => none
noncomputable def lp81 (call : CallF) (fuel base : Nat) : Lp := lpsel [(0, fun T m K => kslots 17 [1, 7, 8] T fun vs => r81_L0_R call fuel base fuel vs m K)]
noncomputable def c81 : Code := Tryd.f81.body.getD .skip
theorem r81_L0_lk (call : CallF) (fuel base : Nat) : LoopsOk E call (lp81 call fuel base) fuel base 0 (loopB (blockB (seqR (seqL (seqR (seqR c81)))))) = (And True (And (And True True) (And (And True (And True (And (And True True) True))) True))) := by kernel_rfl
theorem r81_L0_ok (call : CallF) (fuel base : Nat) : LpOk E call (lp81 call fuel base) fuel base 0 (loopB (blockB (seqR (seqL (seqR (seqR c81)))))) := by
  refine loop_ok (kp := keep81) (hb := Eq.mpr (r81_L0_lk call fuel base) (And.intro trivial (And.intro (And.intro trivial trivial) (And.intro (And.intro trivial (And.intro trivial (And.intro (And.intro trivial trivial) trivial))) trivial)))) 17 [1, 7, 8] (fun n vs m K => r81_L0_R call fuel base n vs m K) ?_ ?_ (fun _ _ _ => rfl)
  · intro vs m K
    unfold r81_L0_R
    split <;> rfl
  · intro n vs m K hl
    match vs, hl with
    | [x1, x7, x8], _ => show _ = _; kernel_rfl
theorem r81_eq (call : CallF) (fuel base : Nat) (x0 : Value) (m : M) : kbody E call keep81 (lp81 call fuel base) base Tryd.f81 [x0] m = r81 call fuel base x0 m := by
  kernel_rfl
noncomputable def rf81 : RF := fun call fuel base args m => match args with
  | [x0] => r81 call fuel base x0 m
  | _ => none
theorem r81_lk (call : CallF) (fuel base : Nat) : LoopsOk E call (lp81 call fuel base) fuel base 0 c81 = (And True (And True (And (And True (LpOk E call (lp81 call fuel base) fuel base 0 (loopB (blockB (seqR (seqL (seqR (seqR c81)))))))) (And True True)))) := by kernel_rfl
theorem r81_fn : E.P.funcs[81]? = some Tryd.f81 := by kernel_rfl
theorem r81_body : Tryd.f81.body = some c81 := by kernel_rfl
theorem rf81_ok : RFok E 81 rf81 := by
  refine ⟨Tryd.f81, r81_fn, fun call fuel base args m r _ h => ?_⟩
  unfold rf81 at h
  split at h
  · rw [← r81_eq] at h
    exact kbody_sound (c := c81) r81_body (Eq.mpr (r81_lk call fuel base) (And.intro trivial (And.intro trivial (And.intro (And.intro trivial (r81_L0_ok call fuel base)) (And.intro trivial trivial))))) h
  · simp at h
end Go.AM
namespace Go.AM
open Go Go.Proofs
noncomputable def r82 (call : CallF) (fuel base : Nat) (x0 : Value) (m : M) : Res2 :=
  (k1 (mbin E .geq 3 x0 (.int .i64 (-1000))) fun v4_1 => (kb v4_1 (k1 (mbin E .leq 3 x0 (.int .i64 1000)) fun v7_2 => (fVal v7_2 fun v => some (.ret v, m))) (fVal (.bool false) fun v => some (.ret v, m))))
def keep82 : Keep := { region := fun i => ([[0], [2]] : List (List Nat))[i]?, exit := fun i => ([] : List (List Nat))[i]?, ret := some [2] }
noncomputable def lp82 (call : CallF) (fuel base : Nat) : Lp := lpsel []
noncomputable def c82 : Code := Tryd.f82.body.getD .skip
theorem r82_eq (call : CallF) (fuel base : Nat) (x0 : Value) (m : M) : kbody E call keep82 (lp82 call fuel base) base Tryd.f82 [x0] m = r82 call fuel base x0 m := by
  kernel_rfl
noncomputable def rf82 : RF := fun call fuel base args m => match args with
  | [x0] => r82 call fuel base x0 m
  | _ => none
theorem r82_lk (call : CallF) (fuel base : Nat) : LoopsOk E call (lp82 call fuel base) fuel base 0 c82 = (And True (And True True)) := by kernel_rfl
theorem r82_fn : E.P.funcs[82]? = some Tryd.f82 := by kernel_rfl
theorem r82_body : Tryd.f82.body = some c82 := by kernel_rfl
theorem rf82_ok : RFok E 82 rf82 := by
  refine ⟨Tryd.f82, r82_fn, fun call fuel base args m r _ h => ?_⟩
  unfold rf82 at h
  split at h
  · rw [← r82_eq] at h
    exact kbody_sound (c := c82) r82_body (Eq.mpr (r82_lk call fuel base) (And.intro trivial (And.intro trivial trivial))) h
  · simp at h
end Go.AM
