import Derived.KernelRfl
import Derived.Laws.BytesArg
import Derived.Laws.StructEq
import Derived.Test.YtoggcogekknlkaaRows
import Derived.WalkKit
import Derived.Test.YtoggcogekknlkaaAmB
import Derived.Test.YtoggcogekknlkaaAmModel
import Derived.Test.YtoggcogekknlkaaAmOps5
import Derived.Test.YtoggcogekknlkaaAmOps6
import Derived.Test.YtoggcogekknlkaaAmCode
import Derived.Test.YtoggcogekknlkaaAmX
import Derived.Test.YtoggcogekknlkaaAmEq
set_option linter.unusedVariables false
set_option linter.unusedSimpArgs false
set_option linter.unusedSectionVars false
namespace Go.AM
open Go Go.Proofs
def seqL : Code → Code | .seq a _ => a | _ => .skip
def seqR : Code → Code | .seq _ a => a | _ => .skip
def condT : Code → Code | .cond _ a _ => a | _ => .skip
def blockB : Code → Code | .block _ a => a | _ => .skip
def loopB : Code → Code | .loop a => a | _ => .skip
noncomputable def E : Env where
  P := Try.prog
  pure := fun f => [15,16,17,18,21,24,25,28,29,30,31,32,33,36,37,40,42,47,48,49,50,51,52,53,55,56,58,59,60,62,63,64,66,68,69,72,73,76,80,81,82,84,85,86,87,88,90,91,93,94,95,97,99,100,101,102,111,112,113,114,115,116,120,121,129,132,133,135].contains f
  eqt := fun t => if t == 45 then [0, 2, 4, 6] else if t == 44 then [0, 2, 4, 6] else []
  live := fun _ _ => none
def fieldSum (P : Program) (t : TypeId) : List (Nat × Nat × Bool) := (P.fieldsOf t).toList.map fun f => (f.type, f.offset, f.name == "_")
theorem flat_of {P : Program} {t : TypeId} {l : List (Nat × Nat × Bool)} {k : IntKind} (h1 : P.underlying t = some (.struct (P.fieldsOf t))) (h2 : P.stoodInHeld t = false) (h3 : P.eqGuardType P.depth t = false)
    (h3' : P.underlying 3 = some (.int k)) (h4' : P.underlying 4 = some .bool) (h4 : fieldSum P t = l) (h5 : ∀ q ∈ l, (q.1 = 3 ∨ q.1 = 4) ∧ q.2.2 = false) : flatFields P t (l.map fun q => 2 * q.2.1 + (if q.1 = 4 then 1 else 0)) := by
  have b3 : isBoolT P 3 = 0 := by unfold isBoolT; rw [h3']
  have b4 : isBoolT P 4 = 1 := by unfold isBoolT; rw [h4']
  have hq : ∀ f ∈ (P.fieldsOf t).toList, ((f.type = 3 ∨ f.type = 4) ∧ (f.name == "_") = false) := fun f hf =>
    h5 (f.type, f.offset, f.name == "_") (by rw [← h4]; exact List.mem_map.2 ⟨f, hf, rfl⟩)
  refine ⟨⟨h1, h2, h3⟩, ?_, fun f hf => ?_⟩
  · rw [← h4]
    unfold fieldSum
    rw [List.map_map]
    refine List.map_congr_left fun f hf => ?_
    rcases (hq f hf).1 with e | e
    · simp [e, b3]
    · simp [e, b4]
  · obtain ⟨e1, e2⟩ := hq f hf
    simp only [beq_eq_false_iff_ne] at e2
    refine ⟨?_, e2⟩
    rcases e1 with e | e
    · exact .inl ⟨⟨k, by rw [e]; exact h3'⟩, by rw [e]; exact b3⟩
    · exact .inr ⟨by rw [e]; exact h4', by rw [e]; exact b4⟩
theorem u3 : Try.prog.underlying 3 = some (.int .i64) := by kernel_rfl
theorem u4 : Try.prog.underlying 4 = some .bool := by kernel_rfl
theorem fl45 : flatFields Try.prog 45 [0, 2, 4, 6] := flat_of (l := [(3,0,false),(3,1,false),(3,2,false),(3,3,false)]) (by kernel_rfl) (by kernel_rfl) (by kernel_rfl) u3 u4 (by kernel_rfl) (by simp)
theorem fl44 : flatFields Try.prog 44 [0, 2, 4, 6] := flat_of (l := [(3,0,false),(3,1,false),(3,2,false),(3,3,false)]) (by kernel_rfl) (by kernel_rfl) (by kernel_rfl) u3 u4 (by kernel_rfl) (by simp)
theorem nogAll : (Try.prog.funcs.toList.all fun fn => !(fn.body.isSome && fn.name == "runtime.NumGoroutine")) = true := by kernel_rfl
theorem E_good : E.Good where
  eqt := by
    intro t xs ys r w x y hne hc
    have ht : t = 45 ∨ t = 44 := by
      unfold E at hne
      simp only [beq_iff_eq] at hne
      by_cases h1 : t = 45
      · exact .inl h1
      by_cases h2 : t = 44
      · exact .inr h2
      simp [h1, h2] at hne
    rcases ht with rfl | rfl
    · exact eqt_flat fl45 w x y hc
    · exact eqt_flat fl44 w x y hc
  nog := by
    intro f fn hf hb
    have h := List.all_eq_true.1 nogAll fn (Array.mem_toList_iff.2 (Array.mem_of_getElem? hf))
    simpa [hb] using h
theorem E_mix : E.P.follows .mixedOrders = true := by kernel_rfl
end Go.AM
namespace Go.AM
open Go Go.Proofs
noncomputable def r14_L2 (call : CallF) (fuel base : Nat) (kp : Value → M → Res2) (kr : Value → M → Res2) (kx2 : Value → Value → Value → Value → Value → M → Res2) (n : Nat) : Value → Value → Value → Value → Value → Value → M → Res2 :=
  Nat.rec (motive := fun _ => Value → Value → Value → Value → Value → Value → M → Res2) (fun _ _ _ _ _ _ _ => none)
    (fun _ ih x1 x9 x10 x12 x13 x14 m =>
      (k2 (vcall E.P base m .len [23] [x10]) fun v91_40 m => (k1 (mbin E .lss 3 x14 v91_40) fun v92_41 => (kb v92_41 (k1 (mun .not x13) fun v95_42 => (kb v95_42 (k1 (mindexAddr E.P 23 x10 x14) fun v103_43 => (k1 (xload E.P m 33 v103_43) fun v104_44 => (kc (call base 46 [x1, v104_44] m) (fun v105_45 m => (k1 (mextract 0 v105_45) fun v106_46 => (k1 (mextract 1 v105_45) fun v107_47 => (k1 (mbin E .neq 26 v107_47 (.int .i64 0)) fun v109_48 => (kb v109_48 (kr (.bool false) m) (k1 (mindexAddr E.P 23 x9 x12) fun v113_49 => (k1 (xload E.P m 33 v113_49) fun v114_50 => (kc (call base 47 [v106_46, v114_50] m) (fun v115_51 m => (k1 (mbin E .add 3 x14 (.int .i64 1)) fun v98_52 => (ih x1 x9 x10 x12 v115_51 v98_52 m))) (fun v m => kp v m))))))))) (fun v m => kp v m)))) (kx2 x1 x9 x10 x12 x13 m))) (kx2 x1 x9 x10 x12 x13 m))))) n
noncomputable def r14_L6 (call : CallF) (fuel base : Nat) (kp : Value → M → Res2) (kr : Value → M → Res2) (kx6 : Value → Value → Value → Value → M → Res2) (n : Nat) : Value → Value → Value → Value → Value → Value → M → Res2 :=
  Nat.rec (motive := fun _ => Value → Value → Value → Value → Value → Value → M → Res2) (fun _ _ _ _ _ _ _ => none)
    (fun _ ih x1 x9 x10 x17 x18 x20 m =>
      (k2 (vcall E.P base m .len [23] [x18]) fun v141_74 m => (k1 (mbin E .lss 3 x20 v141_74) fun v142_75 => (kb v142_75 (k1 (mbin E .lss 3 x20 (.int .i64 40)) fun v145_76 => (kb v145_76 (k1 (mindexAddr E.P 23 x18 x20) fun v152_77 => (k1 (xload E.P m 33 v152_77) fun v153_78 => (kc (call base 47 [x9, v153_78] m) (fun v154_79 m => (k1 (mun .not v154_79) fun v155_80 => (kb v155_80 (kr (.bool false) m) (k1 (mbin E .add 3 x20 (.int .i64 1)) fun v148_81 => (ih x1 x9 x10 x17 x18 v148_81 m))))) (fun v m => kp v m)))) (kx6 x1 x9 x10 x17 m))) (kx6 x1 x9 x10 x17 m))))) n
noncomputable def r14_L0 (call : CallF) (fuel base : Nat) (kp : Value → M → Res2) (kr : Value → M → Res2) (kx0 : Value → Value → Value → M → Res2) (n : Nat) : Value → Value → Value → Value → M → Res2 :=
  Nat.rec (motive := fun _ => Value → Value → Value → Value → M → Res2) (fun _ _ _ _ _ => none)
    (fun _ ih x1 x9 x10 x12 m =>
      (k2 (vcall E.P base m .len [23] [x9]) fun v85_38 m => (k1 (mbin E .lss 3 x12 v85_38) fun v86_39 => (kb v86_39 (r14_L2 call fuel base (fun v m => kp v m) (fun y6_53 m => (kr y6_53 m)) (fun y1_54 y9_55 y10_56 y12_57 y13_58 m => (k1 (mun .not y13_58) fun v117_59 => (kb v117_59 (kr (.bool false) m) (k1 (mbin E .add 3 y12_57 (.int .i64 1)) fun v88_60 => (ih y1_54 y9_55 y10_56 v88_60 m))))) fuel x1 x9 x10 x12 (.bool false) (.int .i64 0) m) (kx0 x1 x9 x10 m))))) n
noncomputable def r14_L4 (call : CallF) (fuel base : Nat) (kp : Value → M → Res2) (kr : Value → M → Res2) (kx4 : M → Res2) (n : Nat) : Value → Value → Value → Value → M → Res2 :=
  Nat.rec (motive := fun _ => Value → Value → Value → Value → M → Res2) (fun _ _ _ _ _ => none)
    (fun _ ih x1 x9 x10 x17 m =>
      (k2 (vcall E.P base m .len [23] [x10]) fun v120_65 m => (k1 (mbin E .lss 3 x17 v120_65) fun v121_66 => (kb v121_66 (k1 (mbin E .lss 3 x17 (.int .i64 40)) fun v124_67 => (kb v124_67 (k1 (mindexAddr E.P 23 x10 x17) fun v132_68 => (k1 (xload E.P m 33 v132_68) fun v133_69 => (kc (call base 46 [x1, v133_69] m) (fun v134_70 m => (k1 (mextract 0 v134_70) fun v135_71 => (k1 (mextract 1 v134_70) fun v136_72 => (k1 (mbin E .neq 26 v136_72 (.int .i64 0)) fun v138_73 => (kb v138_73 (kr (.bool false) m) (r14_L6 call fuel base (fun v m => kp v m) (fun y6_82 m => (kr y6_82 m)) (fun y1_83 y9_84 y10_85 y17_86 m => (k1 (mbin E .add 3 y17_86 (.int .i64 1)) fun v127_87 => (ih y1_83 y9_84 y10_85 v127_87 m))) fuel x1 x9 x10 x17 v135_71 (.int .i64 0) m)))))) (fun v m => kp v m)))) (kx4 m))) (kx4 m))))) n
noncomputable def r14 (call : CallF) (fuel base : Nat) (x0 : Value) (x1 : Value) (x2 : Value) (m : M) : Res2 :=
  (k2 (vcall E.P base m .len [22] [x0]) fun v22_1 m => (k1 (mbin E .gtr 3 v22_1 (.int .i64 40)) fun v23_2 => (kb v23_2 (kc (call base 16 [] m) (fun v34_3 m => (fVal v34_3 fun v => some (.ret v, m))) (fun v m => some (.pan v, m))) (k2 (vcall E.P base m .len [22] [x1]) fun v26_4 m => (k1 (mbin E .gtr 3 v26_4 (.int .i64 40)) fun v27_5 => (kb v27_5 (kc (call base 16 [] m) (fun v34_6 m => (fVal v34_6 fun v => some (.ret v, m))) (fun v m => some (.pan v, m))) (k2 (vcall E.P base m .len [33] [x2]) fun v31_7 m => (k1 (mbin E .gtr 3 v31_7 (.int .i64 4)) fun v32_8 => (kb v32_8 (kc (call base 16 [] m) (fun v34_9 m => (fVal v34_9 fun v => some (.ret v, m))) (fun v m => some (.pan v, m))) (kc (call base 43 [x0, x1] m) (fun v38_10 m => (k1 (mextract 0 v38_10) fun v39_11 => (k1 (mextract 1 v38_10) fun v40_12 => (k1 (mbin E .neq 26 v40_12 (.int .i64 0)) fun v42_13 => (kb v42_13 (k1 (mbin E .eql 26 v40_12 (.int .i64 0)) fun v49_14 => (kb v49_14 (kc (call base 16 [] m) (fun v56_15 m => (fVal v56_15 fun v => some (.ret v, m))) (fun v m => some (.pan v, m))) (k2 (vcall E.P base m .len [22] [v39_11]) fun v52_16 m => (k1 (mbin E .eql 3 v52_16 (.int .i64 0)) fun v53_17 => (kb v53_17 (kc (call base 16 [] m) (fun v56_18 m => (fVal v56_18 fun v => some (.ret v, m))) (fun v m => some (.pan v, m))) (fVal (.bool false) fun v => some (.ret v, m))))))) (k2 (vcall E.P base m .len [22] [v39_11]) fun v45_19 m => (k1 (mbin E .eql 3 v45_19 (.int .i64 0)) fun v46_20 => (kb v46_20 (k1 (mbin E .eql 26 v40_12 (.int .i64 0)) fun v49_21 => (kb v49_21 (kc (call base 16 [] m) (fun v56_22 m => (fVal v56_22 fun v => some (.ret v, m))) (fun v m => some (.pan v, m))) (k2 (vcall E.P base m .len [22] [v39_11]) fun v52_23 m => (k1 (mbin E .eql 3 v52_23 (.int .i64 0)) fun v53_24 => (kb v53_24 (kc (call base 16 [] m) (fun v56_25 m => (fVal v56_25 fun v => some (.ret v, m))) (fun v m => some (.pan v, m))) (fVal (.bool false) fun v => some (.ret v, m))))))) (kc (call base 46 [v39_11, x2] m) (fun v61_26 m => (k1 (mextract 0 v61_26) fun v62_27 => (k1 (mextract 1 v61_26) fun v63_28 => (kc (call base 46 [x0, x2] m) (fun v67_29 m => (k1 (mextract 0 v67_29) fun v68_30 => (k1 (mextract 1 v67_29) fun v69_31 => (k1 (mbin E .neq 26 v63_28 v69_31) fun v72_32 => (kb v72_32 (k1 (mbin E .eql 26 v63_28 v69_31) fun v79_33 => (kb v79_33 (kc (call base 16 [] m) (fun v81_34 m => (fVal v81_34 fun v => some (.ret v, m))) (fun v m => some (.pan v, m))) (fVal (.bool false) fun v => some (.ret v, m)))) (k1 (mbin E .neq 26 v63_28 (.int .i64 0)) fun v75_35 => (kb v75_35 (k1 (mbin E .eql 26 v63_28 v69_31) fun v79_36 => (kb v79_36 (kc (call base 16 [] m) (fun v81_37 m => (fVal v81_37 fun v => some (.ret v, m))) (fun v m => some (.pan v, m))) (fVal (.bool false) fun v => some (.ret v, m)))) (r14_L0 call fuel base (fun v m => some (.pan v, m)) (fun y6_61 m => (fVal y6_61 fun v => some (.ret v, m))) (fun y1_62 y9_63 y10_64 m => (r14_L4 call fuel base (fun v m => some (.pan v, m)) (fun y6_88 m => (fVal y6_88 fun v => some (.ret v, m))) (fun m => (kc (call base 16 [] m) (fun v156_89 m => (fVal v156_89 fun v => some (.ret v, m))) (fun v m => some (.pan v, m)))) fuel y1_62 y9_63 y10_64 (.int .i64 0) m)) fuel x1 v62_27 v68_30 (.int .i64 0) m)))))))) (fun v m => some (.pan v, m)))))) (fun v m => some (.pan v, m))))))))))) (fun v m => some (.pan v, m))))))))))))
def keep14 : Keep := { region := fun i => ([[0, 1, 2], [0, 1, 2, 33], [6], [0, 1, 2, 7, 8], [0, 1, 2, 7, 8, 47], [6], [0, 1, 2, 8, 9], [1, 8, 9, 10, 11], [1, 8, 9, 10, 11, 76], [6], [1, 9, 10, 12], [1, 9, 10, 12, 86], [1, 9, 10, 12], [1, 9, 10, 12, 13], [1, 9, 10, 12, 13, 14], [1, 9, 10, 12, 13, 14, 96], [1, 9, 10, 12, 13, 14], [1, 9, 10, 12, 14, 15, 16], [1, 9, 10, 12, 14, 15, 109], [6], [1, 9, 10, 12, 13, 14], [1, 9, 10, 12, 117], [6], [1, 9, 10, 17], [1, 9, 10, 17, 125], [1, 9, 10, 17], [1, 9, 10, 17, 18, 19], [1, 9, 10, 17, 18, 138], [6], [1, 9, 10, 17, 18, 20], [1, 9, 10, 17, 18, 20, 146], [1, 9, 10, 17, 18, 20], [1, 9, 10, 17, 18, 20, 155], [6], [6]] : List (List Nat))[i]?, exit := fun i => ([[1, 9, 10], [1, 9, 10, 12], [1, 9, 10, 12, 13], [1, 9, 10, 12, 13, 14], [], [1, 9, 10, 17], [1, 9, 10, 17], [1, 9, 10, 17, 18, 20]] : List (List Nat))[i]?, ret := some [6] }
noncomputable def r14_L2_R (call : CallF) (fuel base n : Nat) (vs : List Value) (m : M) (K : KT) : Res2 := match vs with
  | [x1, x9, x10, x12, x13, x14] => r14_L2 call fuel base (fun v m => K (.pan v) { n := 157, l := [] } m) (fun y6 m => K .ret { n := 157, l := [(6, y6)] } m) (fun y1 y9 y10 y12 y13 m => K (.exit 2) { n := 157, l := [(1, y1), (9, y9), (10, y10), (12, y12), (13, y13)] } m) n x1 x9 x10 x12 x13 x14 m
  | _ => none
noncomputable def r14_L6_R (call : CallF) (fuel base n : Nat) (vs : List Value) (m : M) (K : KT) : Res2 := match vs with
  | [x1, x9, x10, x17, x18, x20] => r14_L6 call fuel base (fun v m => K (.pan v) { n := 157, l := [] } m) (fun y6 m => K .ret { n := 157, l := [(6, y6)] } m) (fun y1 y9 y10 y17 m => K (.exit 6) { n := 157, l := [(1, y1), (9, y9), (10, y10), (17, y17)] } m) n x1 x9 x10 x17 x18 x20 m
  | _ => none
noncomputable def r14_L0_R (call : CallF) (fuel base n : Nat) (vs : List Value) (m : M) (K : KT) : Res2 := match vs with
  | [x1, x9, x10, x12] => r14_L0 call fuel base (fun v m => K (.pan v) { n := 157, l := [] } m) (fun y6 m => K .ret { n := 157, l := [(6, y6)] } m) (fun y1 y9 y10 m => K (.exit 0) { n := 157, l := [(1, y1), (9, y9), (10, y10)] } m) n x1 x9 x10 x12 m
  | _ => none
noncomputable def r14_L4_R (call : CallF) (fuel base n : Nat) (vs : List Value) (m : M) (K : KT) : Res2 := match vs with
  | [x1, x9, x10, x17] => r14_L4 call fuel base (fun v m => K (.pan v) { n := 157, l := [] } m) (fun y6 m => K .ret { n := 157, l := [(6, y6)] } m) (fun m => K (.exit 4) { n := 157, l := [] } m) n x1 x9 x10 x17 m
  | _ => none
noncomputable def lp14 (call : CallF) (fuel base : Nat) : Lp := lpsel [(2, fun T m K => kslots 157 [1, 9, 10, 12, 13, 14] T fun vs => r14_L2_R call fuel base fuel vs m K), (6, fun T m K => kslots 157 [1, 9, 10, 17, 18, 20] T fun vs => r14_L6_R call fuel base fuel vs m K), (0, fun T m K => kslots 157 [1, 9, 10, 12] T fun vs => r14_L0_R call fuel base fuel vs m K), (4, fun T m K => kslots 157 [1, 9, 10, 17] T fun vs => r14_L4_R call fuel base fuel vs m K)]
noncomputable def c14 : Code := Try.f14.body.getD .skip
theorem r14_L2_lk (call : CallF) (fuel base : Nat) : LoopsOk E call (lp14 call fuel base) fuel base 2 (loopB (blockB (seqR (seqL (seqR (blockB (seqL (seqR (loopB (blockB (seqR (seqL (seqR (seqR (seqR (seqR (seqR (seqR (seqR c14))))))))))))))))))) = (And (And True (And True True)) (And (And True (And (And True (And (And True True) True)) True)) True)) := by kernel_rfl
theorem r14_L2_ok (call : CallF) (fuel base : Nat) : LpOk E call (lp14 call fuel base) fuel base 2 (loopB (blockB (seqR (seqL (seqR (blockB (seqL (seqR (loopB (blockB (seqR (seqL (seqR (seqR (seqR (seqR (seqR (seqR (seqR c14))))))))))))))))))) := by
  refine loop_ok (kp := keep14) (hb := Eq.mpr (r14_L2_lk call fuel base) (And.intro (And.intro trivial (And.intro trivial trivial)) (And.intro (And.intro trivial (And.intro (And.intro trivial (And.intro (And.intro trivial trivial) trivial)) trivial)) trivial))) 157 [1, 9, 10, 12, 13, 14] (fun n vs m K => r14_L2_R call fuel base n vs m K) ?_ ?_ (fun _ _ _ => rfl)
  · intro vs m K
    unfold r14_L2_R
    split <;> rfl
  · intro n vs m K hl
    match vs, hl with
    | [x1, x9, x10, x12, x13, x14], _ => show _ = _; kernel_rfl
theorem r14_L6_lk (call : CallF) (fuel base : Nat) : LoopsOk E call (lp14 call fuel base) fuel base 6 (loopB (blockB (seqR (seqR (seqR (blockB (seqL (seqR (loopB (blockB (seqR (seqL (seqR (seqR (seqR (seqR (seqR (seqR (seqR (seqR c14)))))))))))))))))))) = (And (And True (And True True)) (And (And True (And (And True True) True)) True)) := by kernel_rfl
theorem r14_L6_ok (call : CallF) (fuel base : Nat) : LpOk E call (lp14 call fuel base) fuel base 6 (loopB (blockB (seqR (seqR (seqR (blockB (seqL (seqR (loopB (blockB (seqR (seqL (seqR (seqR (seqR (seqR (seqR (seqR (seqR (seqR c14)))))))))))))))))))) := by
  refine loop_ok (kp := keep14) (hb := Eq.mpr (r14_L6_lk call fuel base) (And.intro (And.intro trivial (And.intro trivial trivial)) (And.intro (And.intro trivial (And.intro (And.intro trivial trivial) trivial)) trivial))) 157 [1, 9, 10, 17, 18, 20] (fun n vs m K => r14_L6_R call fuel base n vs m K) ?_ ?_ (fun _ _ _ => rfl)
  · intro vs m K
    unfold r14_L6_R
    split <;> rfl
  · intro n vs m K hl
    match vs, hl with
    | [x1, x9, x10, x17, x18, x20], _ => show _ = _; kernel_rfl
theorem r14_L0_lk (call : CallF) (fuel base : Nat) : LoopsOk E call (lp14 call fuel base) fuel base 0 (loopB (blockB (seqR (seqL (seqR (seqR (seqR (seqR (seqR (seqR (seqR c14))))))))))) = (And (And True (And True True)) (And (And True (And (And True (LpOk E call (lp14 call fuel base) fuel base 2 (loopB (blockB (seqR (seqL (seqR (blockB (seqL (seqR (loopB (blockB (seqR (seqL (seqR (seqR (seqR (seqR (seqR (seqR (seqR c14))))))))))))))))))))) (And True (And (And True True) True)))) True)) := by kernel_rfl
theorem r14_L0_ok (call : CallF) (fuel base : Nat) : LpOk E call (lp14 call fuel base) fuel base 0 (loopB (blockB (seqR (seqL (seqR (seqR (seqR (seqR (seqR (seqR (seqR c14))))))))))) := by
  refine loop_ok (kp := keep14) (hb := Eq.mpr (r14_L0_lk call fuel base) (And.intro (And.intro trivial (And.intro trivial trivial)) (And.intro (And.intro trivial (And.intro (And.intro trivial (r14_L2_ok call fuel base)) (And.intro trivial (And.intro (And.intro trivial trivial) trivial)))) trivial))) 157 [1, 9, 10, 12] (fun n vs m K => r14_L0_R call fuel base n vs m K) ?_ ?_ (fun _ _ _ => rfl)
  · intro vs m K
    unfold r14_L0_R
    split <;> rfl
  · intro n vs m K hl
    match vs, hl with
    | [x1, x9, x10, x12], _ => show _ = _; kernel_rfl
theorem r14_L4_lk (call : CallF) (fuel base : Nat) : LoopsOk E call (lp14 call fuel base) fuel base 4 (loopB (blockB (seqR (seqL (seqR (seqR (seqR (seqR (seqR (seqR (seqR (seqR c14)))))))))))) = (And (And True (And True True)) (And (And True (And (And True (And (And True True) True)) (And True (LpOk E call (lp14 call fuel base) fuel base 6 (loopB (blockB (seqR (seqR (seqR (blockB (seqL (seqR (loopB (blockB (seqR (seqL (seqR (seqR (seqR (seqR (seqR (seqR (seqR (seqR c14)))))))))))))))))))))))) True)) := by kernel_rfl
theorem r14_L4_ok (call : CallF) (fuel base : Nat) : LpOk E call (lp14 call fuel base) fuel base 4 (loopB (blockB (seqR (seqL (seqR (seqR (seqR (seqR (seqR (seqR (seqR (seqR c14)))))))))))) := by
  refine loop_ok (kp := keep14) (hb := Eq.mpr (r14_L4_lk call fuel base) (And.intro (And.intro trivial (And.intro trivial trivial)) (And.intro (And.intro trivial (And.intro (And.intro trivial (And.intro (And.intro trivial trivial) trivial)) (And.intro trivial (r14_L6_ok call fuel base)))) trivial))) 157 [1, 9, 10, 17] (fun n vs m K => r14_L4_R call fuel base n vs m K) ?_ ?_ (fun _ _ _ => rfl)
  · intro vs m K
    unfold r14_L4_R
    split <;> rfl
  · intro n vs m K hl
    match vs, hl with
    | [x1, x9, x10, x17], _ => show _ = _; kernel_rfl
theorem r14_eq (call : CallF) (fuel base : Nat) (x0 : Value) (x1 : Value) (x2 : Value) (m : M) : kbody E call keep14 (lp14 call fuel base) base Try.f14 [x0, x1, x2] m = r14 call fuel base x0 x1 x2 m := by
  kernel_rfl
noncomputable def rf14 : RF := fun call fuel base args m => match args with
  | [x0, x1, x2] => r14 call fuel base x0 x1 x2 m
  | _ => none
theorem r14_lk (call : CallF) (fuel base : Nat) : LoopsOk E call (lp14 call fuel base) fuel base 0 c14 = (And True (And (And True (And (And True True) True)) (And True (And (And True (And (And True True) True)) (And True (And True (And (And True (And (And True True) True)) (And (And True (LpOk E call (lp14 call fuel base) fuel base 0 (loopB (blockB (seqR (seqL (seqR (seqR (seqR (seqR (seqR (seqR (seqR c14))))))))))))) (And (And True (LpOk E call (lp14 call fuel base) fuel base 4 (loopB (blockB (seqR (seqL (seqR (seqR (seqR (seqR (seqR (seqR (seqR (seqR c14)))))))))))))) (And True True)))))))))) := by kernel_rfl
theorem r14_fn : E.P.funcs[14]? = some Try.f14 := by kernel_rfl
theorem r14_body : Try.f14.body = some c14 := by kernel_rfl
theorem rf14_ok : RFok E 14 rf14 := by
  refine ⟨Try.f14, r14_fn, fun call fuel base args m r _ h => ?_⟩
  unfold rf14 at h
  split at h
  · rw [← r14_eq] at h
    exact kbody_sound (c := c14) r14_body (Eq.mpr (r14_lk call fuel base) (And.intro trivial (And.intro (And.intro trivial (And.intro (And.intro trivial trivial) trivial)) (And.intro trivial (And.intro (And.intro trivial (And.intro (And.intro trivial trivial) trivial)) (And.intro trivial (And.intro trivial (And.intro (And.intro trivial (And.intro (And.intro trivial trivial) trivial)) (And.intro (And.intro trivial (r14_L0_ok call fuel base)) (And.intro (And.intro trivial (r14_L4_ok call fuel base)) (And.intro trivial trivial))))))))))) h
  · simp at h
end Go.AM
namespace Go.AM
open Go Go.Proofs
noncomputable def r15_L0 (call : CallF) (fuel base : Nat) (kr : Value → M → Res2) (kx0 : M → Res2) (n : Nat) : Value → Value → Value → M → Res2 :=
  Nat.rec (motive := fun _ => Value → Value → Value → M → Res2) (fun _ _ _ _ => none)
    (fun _ ih x0 x1 x5 m =>
      (k2 (vcall E.P base m .len [23] [x0]) fun v8_1 m => (k1 (mbin E .lss 3 x5 v8_1) fun v9_2 => (kb v9_2 (k1 (mbin E .geq 3 x5 x1) fun v14_3 => (kb v14_3 (kr (.bool false) m) (k1 (mindexAddr E.P 23 x0 x5) fun v18_4 => (k1 (xload E.P m 33 v18_4) fun v19_5 => (k2 (vcall E.P base m .len [33] [v19_5]) fun v20_6 m => (k1 (mbin E .gtr 3 v20_6 (.int .i64 20)) fun v21_7 => (kb v21_7 (kr (.bool false) m) (k1 (mbin E .add 3 x5 (.int .i64 1)) fun v11_8 => (ih x0 x1 v11_8 m))))))))) (kx0 m))))) n
noncomputable def r15 (call : CallF) (fuel base : Nat) (x0 : Value) (x1 : Value) (m : M) : Res2 :=
  (r15_L0 call fuel base (fun y4_9 m => (fVal y4_9 fun v => some (.ret v, m))) (fun m => (fVal (.bool true) fun v => some (.ret v, m))) fuel x0 x1 (.int .i64 0) m)
def keep15 : Keep := { region := fun i => ([[0, 1], [0, 1, 5], [0, 1, 5, 9], [0, 1, 5], [0, 1, 5, 22], [4], [4]] : List (List Nat))[i]?, exit := fun i => ([[], [0, 1, 5]] : List (List Nat))[i]?, ret := some [4] }
noncomputable def r15_L0_R (call : CallF) (fuel base n : Nat) (vs : List Value) (m : M) (K : KT) : Res2 := match vs with
  | [x0, x1, x5] => r15_L0 call fuel base (fun y4 m => K .ret { n := 23, l := [(4, y4)] } m) (fun m => K (.exit 0) { n := 23, l := [] } m) n x0 x1 x5 m
  | _ => none
noncomputable def lp15 (call : CallF) (fuel base : Nat) : Lp := lpsel [(0, fun T m K => kslots 23 [0, 1, 5] T fun vs => r15_L0_R call fuel base fuel vs m K)]
noncomputable def c15 : Code := Try.f15.body.getD .skip
theorem r15_L0_lk (call : CallF) (fuel base : Nat) : LoopsOk E call (lp15 call fuel base) fuel base 0 (loopB (blockB (seqR (seqL (seqR c15))))) = (And (And True (And True True)) (And (And True (And (And True True) True)) True)) := by kernel_rfl
theorem r15_L0_ok (call : CallF) (fuel base : Nat) : LpOk E call (lp15 call fuel base) fuel base 0 (loopB (blockB (seqR (seqL (seqR c15))))) := by
  refine loop_ok (kp := keep15) (hb := Eq.mpr (r15_L0_lk call fuel base) (And.intro (And.intro trivial (And.intro trivial trivial)) (And.intro (And.intro trivial (And.intro (And.intro trivial trivial) trivial)) trivial))) 23 [0, 1, 5] (fun n vs m K => r15_L0_R call fuel base n vs m K) ?_ ?_ (fun _ _ _ => rfl)
  · intro vs m K
    unfold r15_L0_R
    split <;> rfl
  · intro n vs m K hl
    match vs, hl with
    | [x0, x1, x5], _ => show _ = _; kernel_rfl
theorem r15_eq (call : CallF) (fuel base : Nat) (x0 : Value) (x1 : Value) (m : M) : kbody E call keep15 (lp15 call fuel base) base Try.f15 [x0, x1] m = r15 call fuel base x0 x1 m := by
  kernel_rfl
noncomputable def rf15 : RF := fun call fuel base args m => match args with
  | [x0, x1] => r15 call fuel base x0 x1 m
  | _ => none
theorem r15_lk (call : CallF) (fuel base : Nat) : LoopsOk E call (lp15 call fuel base) fuel base 0 c15 = (And True (And (And True (LpOk E call (lp15 call fuel base) fuel base 0 (loopB (blockB (seqR (seqL (seqR c15))))))) (And True True))) := by kernel_rfl
theorem r15_fn : E.P.funcs[15]? = some Try.f15 := by kernel_rfl
theorem r15_body : Try.f15.body = some c15 := by kernel_rfl
theorem rf15_ok : RFok E 15 rf15 := by
  refine ⟨Try.f15, r15_fn, fun call fuel base args m r _ h => ?_⟩
  unfold rf15 at h
  split at h
  · rw [← r15_eq] at h
    exact kbody_sound (c := c15) r15_body (Eq.mpr (r15_lk call fuel base) (And.intro trivial (And.intro (And.intro trivial (r15_L0_ok call fuel base)) (And.intro trivial trivial)))) h
  · simp at h
end Go.AM
namespace Go.AM
open Go Go.Proofs
noncomputable def r16 (call : CallF) (fuel base : Nat) (m : M) : Res2 :=
  (k1 (mbuild E.P 45 []) fun v9_1 => (k1 (mbuild E.P 45 [(0, (.int .i64 1)), (2, (.int .i64 1))]) fun v10_2 => (k2 (xbuildSlice E.P m 22 2 [(0, v9_1), (1, v10_2)]) fun v11_3 m => (kc (call base 32 [v11_3, (.int .i64 2), (.int .i64 3)] m) (fun v12_4 m => (k1 (mextract 0 v12_4) fun v13_5 => (k1 (mextract 1 v12_4) fun v14_6 => (k1 (mbuild E.P 45 [(2, (.int .i64 1))]) fun v15_7 => (k2 (xbuildSlice E.P m 22 1 [(0, v15_7)]) fun v16_8 m => (k2 (xbuildSlice E.P m 33 2 [(0, (.int .i64 1)), (1, (.int .i64 1))]) fun v19_9 m => (k2 (xbuildSlice E.P m 23 1 [(0, v19_9)]) fun v20_10 m => (kc (call base 28 [v16_8, (.int .i64 1), (.int .i64 2), v20_10] m) (fun v21_11 m => (k1 (mextract 0 v21_11) fun v22_12 => (k1 (mextract 1 v21_11) fun v23_13 => (kc (call base 41 [v16_8, (.int .i64 1), (.int .i64 2)] m) (fun v26_14 m => (k1 (mextract 0 v26_14) fun v27_15 => (k1 (mextract 1 v26_14) fun v28_16 => (k1 (mbin E .eql 26 v14_6 (.int .i64 0)) fun v30_17 => (kb v30_17 (k1 (mbin E .eql 3 v13_5 (.int .i64 4)) fun v33_18 => (kb v33_18 (k1 (mbin E .eql 26 v23_13 (.int .i64 0)) fun v37_19 => (kb v37_19 (kb v22_12 (k1 (mbin E .eql 26 v28_16 (.int .i64 0)) fun v44_20 => (kb v44_20 (k2 (vcall E.P base m .len [23] [v27_15]) fun v48_21 m => (k1 (mbin E .geq 3 v48_21 (.int .i64 1)) fun v49_22 => (fVal v49_22 fun v => some (.ret v, m)))) (fVal (.bool false) fun v => some (.ret v, m)))) (fVal (.bool false) fun v => some (.ret v, m))) (fVal (.bool false) fun v => some (.ret v, m)))) (fVal (.bool false) fun v => some (.ret v, m)))) (fVal (.bool false) fun v => some (.ret v, m))))))) (fun v m => some (.pan v, m)))))) (fun v m => some (.pan v, m)))))))))) (fun v m => some (.pan v, m))))))
def keep16 : Keep := { region := fun i => ([[], [1, 2], [1, 2, 3], [1, 2, 3, 4, 5], [1, 2, 4, 5, 6, 7], [0]] : List (List Nat))[i]?, exit := fun i => ([] : List (List Nat))[i]?, ret := some [0] }
noncomputable def lp16 (call : CallF) (fuel base : Nat) : Lp := lpsel []
noncomputable def c16 : Code := Try.f16.body.getD .skip
theorem r16_eq (call : CallF) (fuel base : Nat) (m : M) : kbody E call keep16 (lp16 call fuel base) base Try.f16 [] m = r16 call fuel base  m := by
  kernel_rfl
noncomputable def rf16 : RF := fun call fuel base args m => match args with
  | [] => r16 call fuel base  m
  | _ => none
theorem r16_lk (call : CallF) (fuel base : Nat) : LoopsOk E call (lp16 call fuel base) fuel base 0 c16 = (And True (And True (And True (And True (And True (And True True)))))) := by kernel_rfl
theorem r16_fn : E.P.funcs[16]? = some Try.f16 := by kernel_rfl
theorem r16_body : Try.f16.body = some c16 := by kernel_rfl
theorem rf16_ok : RFok E 16 rf16 := by
  refine ⟨Try.f16, r16_fn, fun call fuel base args m r _ h => ?_⟩
  unfold rf16 at h
  split at h
  · rw [← r16_eq] at h
    exact kbody_sound (c := c16) r16_body (Eq.mpr (r16_lk call fuel base) (And.intro trivial (And.intro trivial (And.intro trivial (And.intro trivial (And.intro trivial (And.intro trivial trivial))))))) h
  · simp at h
end Go.AM
namespace Go.AM
open Go Go.Proofs
noncomputable def r24_L0 (call : CallF) (fuel base : Nat) (kr : Value → M → Res2) (kx0 : M → Res2) (n : Nat) : Value → Value → Value → M → Res2 :=
  Nat.rec (motive := fun _ => Value → Value → Value → M → Res2) (fun _ _ _ _ => none)
    (fun _ ih x0 x1 x5 m =>
      (k2 (vcall E.P base m .len [33] [x0]) fun v13_4 m => (k1 (mbin E .lss 3 x5 v13_4) fun v14_5 => (kb v14_5 (k1 (mindexAddr E.P 33 x0 x5) fun v19_6 => (k1 (xload E.P m 3 v19_6) fun v20_7 => (k1 (mindexAddr E.P 33 x1 x5) fun v23_8 => (k1 (xload E.P m 3 v23_8) fun v24_9 => (k1 (mbin E .neq 3 v20_7 v24_9) fun v25_10 => (kb v25_10 (kr (.bool false) m) (k1 (mbin E .add 3 x5 (.int .i64 1)) fun v16_11 => (ih x0 x1 v16_11 m)))))))) (kx0 m))))) n
noncomputable def r24 (call : CallF) (fuel base : Nat) (x0 : Value) (x1 : Value) (m : M) : Res2 :=
  (k2 (vcall E.P base m .len [33] [x0]) fun v7_1 m => (k2 (vcall E.P base m .len [33] [x1]) fun v9_2 m => (k1 (mbin E .neq 3 v7_1 v9_2) fun v10_3 => (kb v10_3 (fVal (.bool false) fun v => some (.ret v, m)) (r24_L0 call fuel base (fun y4_12 m => (fVal y4_12 fun v => some (.ret v, m))) (fun m => (fVal (.bool true) fun v => some (.ret v, m))) fuel x0 x1 (.int .i64 0) m)))))
def keep24 : Keep := { region := fun i => ([[0, 1], [0, 1, 10], [4], [0, 1, 5], [0, 1, 5, 14], [0, 1, 5], [0, 1, 5, 25], [4], [4]] : List (List Nat))[i]?, exit := fun i => ([[], [0, 1, 5]] : List (List Nat))[i]?, ret := some [4] }
noncomputable def r24_L0_R (call : CallF) (fuel base n : Nat) (vs : List Value) (m : M) (K : KT) : Res2 := match vs with
  | [x0, x1, x5] => r24_L0 call fuel base (fun y4 m => K .ret { n := 26, l := [(4, y4)] } m) (fun m => K (.exit 0) { n := 26, l := [] } m) n x0 x1 x5 m
  | _ => none
noncomputable def lp24 (call : CallF) (fuel base : Nat) : Lp := lpsel [(0, fun T m K => kslots 26 [0, 1, 5] T fun vs => r24_L0_R call fuel base fuel vs m K)]
noncomputable def c24 : Code := Try.f24.body.getD .skip
theorem r24_L0_lk (call : CallF) (fuel base : Nat) : LoopsOk E call (lp24 call fuel base) fuel base 0 (loopB (blockB (seqR (seqL (seqR (seqR c24)))))) = (And (And True (And True True)) (And (And True (And (And True True) True)) True)) := by kernel_rfl
theorem r24_L0_ok (call : CallF) (fuel base : Nat) : LpOk E call (lp24 call fuel base) fuel base 0 (loopB (blockB (seqR (seqL (seqR (seqR c24)))))) := by
  refine loop_ok (kp := keep24) (hb := Eq.mpr (r24_L0_lk call fuel base) (And.intro (And.intro trivial (And.intro trivial trivial)) (And.intro (And.intro trivial (And.intro (And.intro trivial trivial) trivial)) trivial))) 26 [0, 1, 5] (fun n vs m K => r24_L0_R call fuel base n vs m K) ?_ ?_ (fun _ _ _ => rfl)
  · intro vs m K
    unfold r24_L0_R
    split <;> rfl
  · intro n vs m K hl
    match vs, hl with
    | [x0, x1, x5], _ => show _ = _; kernel_rfl
theorem r24_eq (call : CallF) (fuel base : Nat) (x0 : Value) (x1 : Value) (m : M) : kbody E call keep24 (lp24 call fuel base) base Try.f24 [x0, x1] m = r24 call fuel base x0 x1 m := by
  kernel_rfl
noncomputable def rf24 : RF := fun call fuel base args m => match args with
  | [x0, x1] => r24 call fuel base x0 x1 m
  | _ => none
theorem r24_lk (call : CallF) (fuel base : Nat) : LoopsOk E call (lp24 call fuel base) fuel base 0 c24 = (And True (And (And True (And (And True True) True)) (And (And True (LpOk E call (lp24 call fuel base) fuel base 0 (loopB (blockB (seqR (seqL (seqR (seqR c24)))))))) (And True True)))) := by kernel_rfl
theorem r24_fn : E.P.funcs[24]? = some Try.f24 := by kernel_rfl
theorem r24_body : Try.f24.body = some c24 := by kernel_rfl
theorem rf24_ok : RFok E 24 rf24 := by
  refine ⟨Try.f24, r24_fn, fun call fuel base args m r _ h => ?_⟩
  unfold rf24 at h
  split at h
  · rw [← r24_eq] at h
    exact kbody_sound (c := c24) r24_body (Eq.mpr (r24_lk call fuel base) (And.intro trivial (And.intro (And.intro trivial (And.intro (And.intro trivial trivial) trivial)) (And.intro (And.intro trivial (r24_L0_ok call fuel base)) (And.intro trivial trivial))))) h
  · simp at h
end Go.AM
namespace Go.AM
open Go Go.Proofs
noncomputable def r28 (call : CallF) (fuel base : Nat) (x0 : Value) (x1 : Value) (x2 : Value) (x3 : Value) (m : M) : Res2 :=
  (kc (call base 59 [x0, x1, x2] m) (fun v13_1 m => (k1 (mun .not v13_1) fun v14_2 => (kb v14_2 (some (.ret (.tuple #[(.bool false), (.int .i64 2)]), m)) (k2 (vcall E.P base m .len [23] [x3]) fun v16_3 m => (k1 (mbin E .gtr 3 v16_3 (.int .i64 65535)) fun v17_4 => (kb v17_4 (some (.ret (.tuple #[(.bool false), (.int .i64 3)]), m)) (kc (call base 60 [x3, x1, x2] m) (fun v21_5 m => (kb v21_5 (kc (call base 61 [x0, x1] m) (fun v25_6 m => (kc (call base 62 [v25_6, x3] m) (fun v27_7 m => (some (.ret (.tuple #[v27_7, (.int .i64 0)]), m))) (fun v m => some (.pan v, m)))) (fun v m => some (.pan v, m))) (some (.ret (.tuple #[(.bool false), (.int .i64 0)]), m)))) (fun v m => some (.pan v, m))))))))) (fun v m => some (.pan v, m)))
def keep28 : Keep := { region := fun i => ([[0, 1, 2, 3], [0, 1, 2, 3, 14], [8, 9], [0, 1, 2, 3, 17], [8, 9], [8, 9]] : List (List Nat))[i]?, exit := fun i => ([] : List (List Nat))[i]?, ret := some [8, 9] }
noncomputable def lp28 (call : CallF) (fuel base : Nat) : Lp := lpsel []
noncomputable def c28 : Code := Try.f28.body.getD .skip
theorem r28_eq (call : CallF) (fuel base : Nat) (x0 : Value) (x1 : Value) (x2 : Value) (x3 : Value) (m : M) : kbody E call keep28 (lp28 call fuel base) base Try.f28 [x0, x1, x2, x3] m = r28 call fuel base x0 x1 x2 x3 m := by
  kernel_rfl
noncomputable def rf28 : RF := fun call fuel base args m => match args with
  | [x0, x1, x2, x3] => r28 call fuel base x0 x1 x2 x3 m
  | _ => none
theorem r28_lk (call : CallF) (fuel base : Nat) : LoopsOk E call (lp28 call fuel base) fuel base 0 c28 = (And True (And (And True (And (And True True) True)) (And (And True (And (And True True) True)) (And True True)))) := by kernel_rfl
theorem r28_fn : E.P.funcs[28]? = some Try.f28 := by kernel_rfl
theorem r28_body : Try.f28.body = some c28 := by kernel_rfl
theorem rf28_ok : RFok E 28 rf28 := by
  refine ⟨Try.f28, r28_fn, fun call fuel base args m r _ h => ?_⟩
  unfold rf28 at h
  split at h
  · rw [← r28_eq] at h
    exact kbody_sound (c := c28) r28_body (Eq.mpr (r28_lk call fuel base) (And.intro trivial (And.intro (And.intro trivial (And.intro (And.intro trivial trivial) trivial)) (And.intro (And.intro trivial (And.intro (And.intro trivial trivial) trivial)) (And.intro trivial trivial))))) h
  · simp at h
end Go.AM
namespace Go.AM
open Go Go.Proofs
noncomputable def r32 (call : CallF) (fuel base : Nat) (x0 : Value) (x1 : Value) (x2 : Value) (m : M) : Res2 :=
  (kc (call base 59 [x0, x1, x2] m) (fun v11_1 m => (k1 (mun .not v11_1) fun v12_2 => (kb v12_2 (some (.ret (.tuple #[(.int .i64 0), (.int .i64 2)]), m)) (kc (call base 61 [x0, x1] m) (fun v15_3 m => (kc (call base 69 [v15_3, x2] m) (fun v17_4 m => (kc (call base 68 [v17_4] m) (fun v18_5 m => (k1 (mextract 0 v18_5) fun v19_6 => (k1 (mextract 1 v18_5) fun v20_7 => (some (.ret (.tuple #[v19_6, v20_7]), m))))) (fun v m => some (.pan v, m)))) (fun v m => some (.pan v, m)))) (fun v m => some (.pan v, m)))))) (fun v m => some (.pan v, m)))
def keep32 : Keep := { region := fun i => ([[0, 1, 2], [0, 1, 2, 12], [6, 7], [6, 7]] : List (List Nat))[i]?, exit := fun i => ([] : List (List Nat))[i]?, ret := some [6, 7] }
noncomputable def lp32 (call : CallF) (fuel base : Nat) : Lp := lpsel []
noncomputable def c32 : Code := Try.f32.body.getD .skip
theorem r32_eq (call : CallF) (fuel base : Nat) (x0 : Value) (x1 : Value) (x2 : Value) (m : M) : kbody E call keep32 (lp32 call fuel base) base Try.f32 [x0, x1, x2] m = r32 call fuel base x0 x1 x2 m := by
  kernel_rfl
noncomputable def rf32 : RF := fun call fuel base args m => match args with
  | [x0, x1, x2] => r32 call fuel base x0 x1 x2 m
  | _ => none
theorem r32_lk (call : CallF) (fuel base : Nat) : LoopsOk E call (lp32 call fuel base) fuel base 0 c32 = (And True (And (And True (And (And True True) True)) (And True True))) := by kernel_rfl
theorem r32_fn : E.P.funcs[32]? = some Try.f32 := by kernel_rfl
theorem r32_body : Try.f32.body = some c32 := by kernel_rfl
theorem rf32_ok : RFok E 32 rf32 := by
  refine ⟨Try.f32, r32_fn, fun call fuel base args m r _ h => ?_⟩
  unfold rf32 at h
  split at h
  · rw [← r32_eq] at h
    exact kbody_sound (c := c32) r32_body (Eq.mpr (r32_lk call fuel base) (And.intro trivial (And.intro (And.intro trivial (And.intro (And.intro trivial trivial) trivial)) (And.intro trivial trivial)))) h
  · simp at h
end Go.AM
namespace Go.AM
open Go Go.Proofs
noncomputable def r41 (call : CallF) (fuel base : Nat) (x0 : Value) (x1 : Value) (x2 : Value) (m : M) : Res2 :=
  (kc (call base 59 [x0, x1, x2] m) (fun v12_1 m => (k1 (mun .not v12_1) fun v13_2 => (kb v13_2 (some (.ret (.tuple #[(.slice none 0 0), (.int .i64 2)]), m)) (kc (call base 61 [x0, x1] m) (fun v16_3 m => (k2 (xalloc E.P m 76) fun v8_4 m => (ks (xstore E.P base m 76 v8_4 v16_3) fun m => (k1 (xload E.P m 76 v8_4) fun v17_5 => (kc (call base 69 [v17_5, x2] m) (fun v19_6 m => (k1 (mbin E .gtr 3 v19_6 (.int .i64 0)) fun v20_7 => (kb v20_7 (some (.ret (.tuple #[(.slice none 0 0), (.int .i64 10)]), m)) (k1 (xload E.P m 76 v8_4) fun v21_8 => (kc (call base 74 [v21_8, x2] m) (fun v23_9 m => (some (.ret (.tuple #[v23_9, (.int .i64 0)]), m))) (fun v m => some (.pan v, m))))))) (fun v m => some (.pan v, m))))))) (fun v m => some (.pan v, m)))))) (fun v m => some (.pan v, m)))
def keep41 : Keep := { region := fun i => ([[0, 1, 2], [0, 1, 2, 13], [6, 7], [2, 8], [2, 8, 20], [6, 7], [6, 7]] : List (List Nat))[i]?, exit := fun i => ([] : List (List Nat))[i]?, ret := some [6, 7] }
noncomputable def lp41 (call : CallF) (fuel base : Nat) : Lp := lpsel []
noncomputable def c41 : Code := Try.f41.body.getD .skip
theorem r41_eq (call : CallF) (fuel base : Nat) (x0 : Value) (x1 : Value) (x2 : Value) (m : M) : kbody E call keep41 (lp41 call fuel base) base Try.f41 [x0, x1, x2] m = r41 call fuel base x0 x1 x2 m := by
  kernel_rfl
noncomputable def rf41 : RF := fun call fuel base args m => match args with
  | [x0, x1, x2] => r41 call fuel base x0 x1 x2 m
  | _ => none
theorem r41_lk (call : CallF) (fuel base : Nat) : LoopsOk E call (lp41 call fuel base) fuel base 0 c41 = (And True (And (And True (And (And True True) True)) (And True (And (And True (And (And True True) True)) (And True True))))) := by kernel_rfl
theorem r41_fn : E.P.funcs[41]? = some Try.f41 := by kernel_rfl
theorem r41_body : Try.f41.body = some c41 := by kernel_rfl
theorem rf41_ok : RFok E 41 rf41 := by
  refine ⟨Try.f41, r41_fn, fun call fuel base args m r _ h => ?_⟩
  unfold rf41 at h
  split at h
  · rw [← r41_eq] at h
    exact kbody_sound (c := c41) r41_body (Eq.mpr (r41_lk call fuel base) (And.intro trivial (And.intro (And.intro trivial (And.intro (And.intro trivial trivial) trivial)) (And.intro trivial (And.intro (And.intro trivial (And.intro (And.intro trivial trivial) trivial)) (And.intro trivial trivial)))))) h
  · simp at h
end Go.AM
namespace Go.AM
open Go Go.Proofs
noncomputable def r43 (call : CallF) (fuel base : Nat) (x0 : Value) (x1 : Value) (m : M) : Res2 :=
  (kc (call base 48 [x0] m) (fun v9_1 m => (k1 (mun .not v9_1) fun v10_2 => (kb v10_2 (some (.ret (.tuple #[(.slice none 0 0), (.int .i64 2)]), m)) (kc (call base 48 [x1] m) (fun v13_3 m => (k1 (mun .not v13_3) fun v14_4 => (kb v14_4 (some (.ret (.tuple #[(.slice none 0 0), (.int .i64 2)]), m)) (kc (call base 77 [x0, x1] m) (fun v19_5 m => (k1 (mextract 0 v19_5) fun v20_6 => (k1 (mextract 1 v19_5) fun v21_7 => (k2 (vcall E.P base m .len [22] [v20_6]) fun v23_8 m => (k1 (mbin E .gtr 3 v23_8 (.int .i64 16)) fun v24_9 => (kb v24_9 (some (.ret (.tuple #[(.slice none 0 0), (.int .i64 8)]), m)) (k2 (vcall E.P base m .len [33] [v21_7]) fun v27_10 m => (k1 (mbin E .gtr 3 v27_10 (.int .i64 8)) fun v28_11 => (kb v28_11 (some (.ret (.tuple #[(.slice none 0 0), (.int .i64 8)]), m)) (kc (call base 78 [v20_6, v21_7] m) (fun v32_12 m => (some (.ret (.tuple #[v32_12, (.int .i64 0)]), m))) (fun v m => some (.pan v, m)))))))))))) (fun v m => some (.pan v, m)))))) (fun v m => some (.pan v, m)))))) (fun v m => some (.pan v, m)))
def keep43 : Keep := { region := fun i => ([[0, 1], [0, 1, 15], [4, 5], [6, 7], [6, 7, 29], [4, 5], [4, 5]] : List (List Nat))[i]?, exit := fun i => ([] : List (List Nat))[i]?, ret := some [4, 5] }
noncomputable def lp43 (call : CallF) (fuel base : Nat) : Lp := lpsel []
noncomputable def c43 : Code := Try.f43.body.getD .skip
theorem r43_eq (call : CallF) (fuel base : Nat) (x0 : Value) (x1 : Value) (m : M) : kbody E call keep43 (lp43 call fuel base) base Try.f43 [x0, x1] m = r43 call fuel base x0 x1 m := by
  kernel_rfl
noncomputable def rf43 : RF := fun call fuel base args m => match args with
  | [x0, x1] => r43 call fuel base x0 x1 m
  | _ => none
theorem r43_lk (call : CallF) (fuel base : Nat) : LoopsOk E call (lp43 call fuel base) fuel base 0 c43 = (And True (And (And True (And (And True True) True)) (And True (And (And True (And (And True True) True)) (And True True))))) := by kernel_rfl
theorem r43_fn : E.P.funcs[43]? = some Try.f43 := by kernel_rfl
theorem r43_body : Try.f43.body = some c43 := by kernel_rfl
theorem rf43_ok : RFok E 43 rf43 := by
  refine ⟨Try.f43, r43_fn, fun call fuel base args m r _ h => ?_⟩
  unfold rf43 at h
  split at h
  · rw [← r43_eq] at h
    exact kbody_sound (c := c43) r43_body (Eq.mpr (r43_lk call fuel base) (And.intro trivial (And.intro (And.intro trivial (And.intro (And.intro trivial trivial) trivial)) (And.intro trivial (And.intro (And.intro trivial (And.intro (And.intro trivial trivial) trivial)) (And.intro trivial trivial)))))) h
  · simp at h
end Go.AM
namespace Go.AM
open Go Go.Proofs
noncomputable def r46 (call : CallF) (fuel base : Nat) (x0 : Value) (x1 : Value) (m : M) : Res2 :=
  (kc (call base 48 [x0] m) (fun v7_1 m => (k1 (mun .not v7_1) fun v8_2 => (kb v8_2 (some (.ret (.tuple #[(.slice none 0 0), (.int .i64 2)]), m)) (k2 (vcall E.P base m .len [33] [x1]) fun v11_3 m => (kc (call base 80 [v11_3] m) (fun v12_4 m => (k1 (mun .not v12_4) fun v13_5 => (kb v13_5 (some (.ret (.tuple #[(.slice none 0 0), (.int .i64 2)]), m)) (kc (call base 81 [x1, (.func (.func 82) #[] #[])] m) (fun v17_6 m => (kb v17_6 (some (.ret (.tuple #[(.slice none 0 0), (.int .i64 2)]), m)) (kc (call base 83 [x0, x1] m) (fun v21_7 m => (some (.ret (.tuple #[v21_7, (.int .i64 0)]), m))) (fun v m => some (.pan v, m))))) (fun v m => some (.pan v, m)))))) (fun v m => some (.pan v, m))))))) (fun v m => some (.pan v, m)))
def keep46 : Keep := { region := fun i => ([[0, 1], [0, 1, 18], [4, 5], [4, 5]] : List (List Nat))[i]?, exit := fun i => ([] : List (List Nat))[i]?, ret := some [4, 5] }
noncomputable def lp46 (call : CallF) (fuel base : Nat) : Lp := lpsel []
noncomputable def c46 : Code := Try.f46.body.getD .skip
theorem r46_eq (call : CallF) (fuel base : Nat) (x0 : Value) (x1 : Value) (m : M) : kbody E call keep46 (lp46 call fuel base) base Try.f46 [x0, x1] m = r46 call fuel base x0 x1 m := by
  kernel_rfl
noncomputable def rf46 : RF := fun call fuel base args m => match args with
  | [x0, x1] => r46 call fuel base x0 x1 m
  | _ => none
theorem r46_lk (call : CallF) (fuel base : Nat) : LoopsOk E call (lp46 call fuel base) fuel base 0 c46 = (And True (And (And True (And (And True True) True)) (And True True))) := by kernel_rfl
theorem r46_fn : E.P.funcs[46]? = some Try.f46 := by kernel_rfl
theorem r46_body : Try.f46.body = some c46 := by kernel_rfl
theorem rf46_ok : RFok E 46 rf46 := by
  refine ⟨Try.f46, r46_fn, fun call fuel base args m r _ h => ?_⟩
  unfold rf46 at h
  split at h
  · rw [← r46_eq] at h
    exact kbody_sound (c := c46) r46_body (Eq.mpr (r46_lk call fuel base) (And.intro trivial (And.intro (And.intro trivial (And.intro (And.intro trivial trivial) trivial)) (And.intro trivial trivial)))) h
  · simp at h
end Go.AM
namespace Go.AM
open Go Go.Proofs
noncomputable def r47_L0 (call : CallF) (fuel base : Nat) (kp : Value → M → Res2) (kr : Value → M → Res2) (kx0 : M → Res2) (n : Nat) : Value → Value → Value → M → Res2 :=
  Nat.rec (motive := fun _ => Value → Value → Value → M → Res2) (fun _ _ _ _ => none)
    (fun _ ih x0 x1 x5 m =>
      (k2 (vcall E.P base m .len [23] [x0]) fun v8_1 m => (k1 (mbin E .lss 3 x5 v8_1) fun v9_2 => (kb v9_2 (k1 (mindexAddr E.P 23 x0 x5) fun v14_3 => (k1 (xload E.P m 33 v14_3) fun v15_4 => (kc (call base 24 [v15_4, x1] m) (fun v17_5 m => (kb v17_5 (kr (.bool true) m) (k1 (mbin E .add 3 x5 (.int .i64 1)) fun v11_6 => (ih x0 x1 v11_6 m)))) (fun v m => kp v m)))) (kx0 m))))) n
noncomputable def r47 (call : CallF) (fuel base : Nat) (x0 : Value) (x1 : Value) (m : M) : Res2 :=
  (r47_L0 call fuel base (fun v m => some (.pan v, m)) (fun y4_7 m => (fVal y4_7 fun v => some (.ret v, m))) (fun m => (fVal (.bool false) fun v => some (.ret v, m))) fuel x0 x1 (.int .i64 0) m)
def keep47 : Keep := { region := fun i => ([[0, 1], [0, 1, 5], [0, 1, 5, 9], [0, 1, 5], [0, 1, 5, 17], [4], [4]] : List (List Nat))[i]?, exit := fun i => ([[], [0, 1, 5]] : List (List Nat))[i]?, ret := some [4] }
noncomputable def r47_L0_R (call : CallF) (fuel base n : Nat) (vs : List Value) (m : M) (K : KT) : Res2 := match vs with
  | [x0, x1, x5] => r47_L0 call fuel base (fun v m => K (.pan v) { n := 18, l := [] } m) (fun y4 m => K .ret { n := 18, l := [(4, y4)] } m) (fun m => K (.exit 0) { n := 18, l := [] } m) n x0 x1 x5 m
  | _ => none
noncomputable def lp47 (call : CallF) (fuel base : Nat) : Lp := lpsel [(0, fun T m K => kslots 18 [0, 1, 5] T fun vs => r47_L0_R call fuel base fuel vs m K)]
noncomputable def c47 : Code := Try.f47.body.getD .skip
theorem r47_L0_lk (call : CallF) (fuel base : Nat) : LoopsOk E call (lp47 call fuel base) fuel base 0 (loopB (blockB (seqR (seqL (seqR c47))))) = (And (And True (And True True)) (And (And True (And (And True True) True)) True)) := by kernel_rfl
theorem r47_L0_ok (call : CallF) (fuel base : Nat) : LpOk E call (lp47 call fuel base) fuel base 0 (loopB (blockB (seqR (seqL (seqR c47))))) := by
  refine loop_ok (kp := keep47) (hb := Eq.mpr (r47_L0_lk call fuel base) (And.intro (And.intro trivial (And.intro trivial trivial)) (And.intro (And.intro trivial (And.intro (And.intro trivial trivial) trivial)) trivial))) 18 [0, 1, 5] (fun n vs m K => r47_L0_R call fuel base n vs m K) ?_ ?_ (fun _ _ _ => rfl)
  · intro vs m K
    unfold r47_L0_R
    split <;> rfl
  · intro n vs m K hl
    match vs, hl with
    | [x0, x1, x5], _ => show _ = _; kernel_rfl
theorem r47_eq (call : CallF) (fuel base : Nat) (x0 : Value) (x1 : Value) (m : M) : kbody E call keep47 (lp47 call fuel base) base Try.f47 [x0, x1] m = r47 call fuel base x0 x1 m := by
  kernel_rfl
noncomputable def rf47 : RF := fun call fuel base args m => match args with
  | [x0, x1] => r47 call fuel base x0 x1 m
  | _ => none
theorem r47_lk (call : CallF) (fuel base : Nat) : LoopsOk E call (lp47 call fuel base) fuel base 0 c47 = (And True (And (And True (LpOk E call (lp47 call fuel base) fuel base 0 (loopB (blockB (seqR (seqL (seqR c47))))))) (And True True))) := by kernel_rfl
theorem r47_fn : E.P.funcs[47]? = some Try.f47 := by kernel_rfl
theorem r47_body : Try.f47.body = some c47 := by kernel_rfl
theorem rf47_ok : RFok E 47 rf47 := by
  refine ⟨Try.f47, r47_fn, fun call fuel base args m r _ h => ?_⟩
  unfold rf47 at h
  split at h
  · rw [← r47_eq] at h
    exact kbody_sound (c := c47) r47_body (Eq.mpr (r47_lk call fuel base) (And.intro trivial (And.intro (And.intro trivial (r47_L0_ok call fuel base)) (And.intro trivial trivial)))) h
  · simp at h
end Go.AM
namespace Go.AM
open Go Go.Proofs
noncomputable def r48_L0 (call : CallF) (fuel base : Nat) (kr : Value → M → Res2) (kx0 : M → Res2) (n : Nat) : Value → Value → Value → Value → M → Res2 :=
  Nat.rec (motive := fun _ => Value → Value → Value → Value → M → Res2) (fun _ _ _ _ _ => none)
    (fun _ ih x0 x13 x14 x15 m =>
      (k1 (mbin E .lss 3 x15 x14) fun v16_6 => (kb v16_6 (k1 (mindexAddr E.P 22 x13 x15) fun v18_7 => (k1 (xload E.P m 45 v18_7) fun v19_8 => (k2 (xalloc E.P m 45) fun v4_9 m => (ks (xstore E.P base m 45 v4_9 v19_8) fun m => (k1 (mfieldAddr E.P 45 v4_9 0) fun v20_10 => (k1 (xload E.P m 3 v20_10) fun v21_11 => (k1 (mfieldAddr E.P 45 v4_9 1) fun v22_12 => (k1 (xload E.P m 3 v22_12) fun v23_13 => (k1 (mfieldAddr E.P 45 v4_9 2) fun v24_14 => (k1 (xload E.P m 3 v24_14) fun v25_15 => (k1 (mfieldAddr E.P 45 v4_9 3) fun v26_16 => (k1 (xload E.P m 3 v26_16) fun v27_17 => (k2 (xbuildSlice E.P m 33 4 [(0, v21_11), (1, v23_13), (2, v25_15), (3, v27_17)]) fun v28_18 m => (kc (kB m (call m.length 81 [v28_18, (.func (.func 82) #[] #[])] m)) (fun v29_19 m => (kb v29_19 (kr (.bool false) m) (k1 (mslice E.P m 22 x0 none (some x15) none) fun v33_20 => (k1 (xload E.P m 45 v4_9) fun v34_21 => (kc (kB m (call m.length 84 [v33_20, v34_21] m)) (fun v35_22 m => (kb v35_22 (kr (.bool false) m) (k1 (mbin E .add 3 x15 (.int .i64 1)) fun v37_23 => (ih x0 x13 x14 v37_23 m)))) (fun _ _ => none)))))) (fun _ _ => none))))))))))))))) (kx0 m)))) n
noncomputable def r48 (call : CallF) (fuel base : Nat) (x0 : Value) (m : M) : Res2 :=
  (k2 (vcall E.P base m .len [22] [x0]) fun v6_1 m => (k1 (mbin E .lss 3 v6_1 (.int .i64 1)) fun v7_2 => (kb v7_2 (fVal (.bool false) fun v => some (.ret v, m)) (k2 (vcall E.P base m .len [22] [x0]) fun v10_3 m => (k1 (mbin E .gtr 3 v10_3 (.int .i64 16)) fun v11_4 => (kb v11_4 (fVal (.bool false) fun v => some (.ret v, m)) (k2 (vcall E.P base m .len [22] [x0]) fun v14_5 m => (r48_L0 call fuel base (fun y2_24 m => (fVal y2_24 fun v => some (.ret v, m))) (fun m => (fVal (.bool true) fun v => some (.ret v, m))) fuel x0 x0 v14_5 (.int .i64 0) m))))))))
def keep48 : Keep := { region := fun i => ([[0], [0, 12], [2], [0, 13, 14, 15], [0, 13, 14, 15, 16], [0, 3, 4, 13, 14, 15], [0, 13, 14, 15, 36], [2], [0, 13, 14, 15], [2]] : List (List Nat))[i]?, exit := fun i => ([[], [0, 13, 14, 15]] : List (List Nat))[i]?, ret := some [2] }
noncomputable def r48_L0_R (call : CallF) (fuel base n : Nat) (vs : List Value) (m : M) (K : KT) : Res2 := match vs with
  | [x0, x13, x14, x15] => r48_L0 call fuel base (fun y2 m => K .ret { n := 38, l := [(2, y2)] } m) (fun m => K (.exit 0) { n := 38, l := [] } m) n x0 x13 x14 x15 m
  | _ => none
noncomputable def lp48 (call : CallF) (fuel base : Nat) : Lp := lpsel [(0, fun T m K => kslots 38 [0, 13, 14, 15] T fun vs => r48_L0_R call fuel base fuel vs m K)]
noncomputable def c48 : Code := Try.f48.body.getD .skip
theorem r48_L0_lk (call : CallF) (fuel base : Nat) : LoopsOk E call (lp48 call fuel base) fuel base 0 (loopB (blockB (seqR (seqL (seqR (seqR c48)))))) = (And True (And (And True True) (And (And True (And True (And (And True True) True))) True))) := by kernel_rfl
theorem r48_L0_ok (call : CallF) (fuel base : Nat) : LpOk E call (lp48 call fuel base) fuel base 0 (loopB (blockB (seqR (seqL (seqR (seqR c48)))))) := by
  refine loop_ok (kp := keep48) (hb := Eq.mpr (r48_L0_lk call fuel base) (And.intro trivial (And.intro (And.intro trivial trivial) (And.intro (And.intro trivial (And.intro trivial (And.intro (And.intro trivial trivial) trivial))) trivial)))) 38 [0, 13, 14, 15] (fun n vs m K => r48_L0_R call fuel base n vs m K) ?_ ?_ (fun _ _ _ => rfl)
  · intro vs m K
    unfold r48_L0_R
    split <;> rfl
  · intro n vs m K hl
    match vs, hl with
    | [x0, x13, x14, x15], _ => show _ = _; kernel_rfl
theorem r48_eq (call : CallF) (fuel base : Nat) (x0 : Value) (m : M) : kbody E call keep48 (lp48 call fuel base) base Try.f48 [x0] m = r48 call fuel base x0 m := by
  kernel_rfl
noncomputable def rf48 : RF := fun call fuel base args m => match args with
  | [x0] => r48 call fuel base x0 m
  | _ => none
theorem r48_lk (call : CallF) (fuel base : Nat) : LoopsOk E call (lp48 call fuel base) fuel base 0 c48 = (And True (And (And True (And (And True True) True)) (And (And True (LpOk E call (lp48 call fuel base) fuel base 0 (loopB (blockB (seqR (seqL (seqR (seqR c48)))))))) (And True True)))) := by kernel_rfl
theorem r48_fn : E.P.funcs[48]? = some Try.f48 := by kernel_rfl
theorem r48_body : Try.f48.body = some c48 := by kernel_rfl
theorem rf48_ok : RFok E 48 rf48 := by
  refine ⟨Try.f48, r48_fn, fun call fuel base args m r _ h => ?_⟩
  unfold rf48 at h
  split at h
  · rw [← r48_eq] at h
    exact kbody_sound (c := c48) r48_body (Eq.mpr (r48_lk call fuel base) (And.intro trivial (And.intro (And.intro trivial (And.intro (And.intro trivial trivial) trivial)) (And.intro (And.intro trivial (r48_L0_ok call fuel base)) (And.intro trivial trivial))))) h
  · simp at h
end Go.AM
namespace Go.AM
open Go Go.Proofs
noncomputable def r59 (call : CallF) (fuel base : Nat) (x0 : Value) (x1 : Value) (x2 : Value) (m : M) : Res2 :=
  (kc (call base 48 [x0] m) (fun v8_1 m => (kb v8_1 (kc (call base 80 [x1] m) (fun v11_2 m => (kb v11_2 (kc (call base 80 [x2] m) (fun v15_3 m => (fVal v15_3 fun v => some (.ret v, m))) (fun v m => some (.pan v, m))) (fVal (.bool false) fun v => some (.ret v, m)))) (fun v m => some (.pan v, m))) (fVal (.bool false) fun v => some (.ret v, m)))) (fun v m => some (.pan v, m)))
def keep59 : Keep := { region := fun i => ([[0, 1, 2], [6]] : List (List Nat))[i]?, exit := fun i => ([] : List (List Nat))[i]?, ret := some [6] }
noncomputable def lp59 (call : CallF) (fuel base : Nat) : Lp := lpsel []
noncomputable def c59 : Code := Try.f59.body.getD .skip
theorem r59_eq (call : CallF) (fuel base : Nat) (x0 : Value) (x1 : Value) (x2 : Value) (m : M) : kbody E call keep59 (lp59 call fuel base) base Try.f59 [x0, x1, x2] m = r59 call fuel base x0 x1 x2 m := by
  kernel_rfl
noncomputable def rf59 : RF := fun call fuel base args m => match args with
  | [x0, x1, x2] => r59 call fuel base x0 x1 x2 m
  | _ => none
theorem r59_lk (call : CallF) (fuel base : Nat) : LoopsOk E call (lp59 call fuel base) fuel base 0 c59 = (And True (And True True)) := by kernel_rfl
theorem r59_fn : E.P.funcs[59]? = some Try.f59 := by kernel_rfl
theorem r59_body : Try.f59.body = some c59 := by kernel_rfl
theorem rf59_ok : RFok E 59 rf59 := by
  refine ⟨Try.f59, r59_fn, fun call fuel base args m r _ h => ?_⟩
  unfold rf59 at h
  split at h
  · rw [← r59_eq] at h
    exact kbody_sound (c := c59) r59_body (Eq.mpr (r59_lk call fuel base) (And.intro trivial (And.intro trivial trivial))) h
  · simp at h
end Go.AM
namespace Go.AM
open Go Go.Proofs
noncomputable def r60_L0 (call : CallF) (fuel base : Nat) (kp : Value → M → Res2) (kr : Value → M → Res2) (kx0 : M → Res2) (n : Nat) : Value → Value → Value → Value → Value → Value → M → Res2 :=
  Nat.rec (motive := fun _ => Value → Value → Value → Value → Value → Value → M → Res2) (fun _ _ _ _ _ _ _ => none)
    (fun _ ih x0 x1 x2 x9 x10 x11 m =>
      (k1 (mbin E .lss 3 x11 x10) fun v12_2 => (kb v12_2 (k1 (mindexAddr E.P 23 x9 x11) fun v14_3 => (k1 (xload E.P m 33 v14_3) fun v15_4 => (k2 (vcall E.P base m .len [33] [v15_4]) fun v17_5 m => (k1 (mbin E .add 3 x1 (.int .i64 1)) fun v19_6 => (k1 (mbin E .neq 3 v17_5 v19_6) fun v20_7 => (kb v20_7 (kr (.bool false) m) (k1 (mindexAddr E.P 33 v15_4 (.int .i64 0)) fun v23_8 => (k1 (xload E.P m 3 v23_8) fun v24_9 => (k1 (mbin E .lss 3 v24_9 (.int .i64 1)) fun v25_10 => (kb v25_10 (kr (.bool false) m) (k1 (mindexAddr E.P 33 v15_4 (.int .i64 0)) fun v29_11 => (k1 (xload E.P m 3 v29_11) fun v30_12 => (k1 (mbin E .geq 3 v30_12 x2) fun v32_13 => (kb v32_13 (kr (.bool false) m) (k1 (mslice E.P m 33 v15_4 (some (.int .i64 1)) none none) fun v36_14 => (kc (call base 81 [v36_14, (.func (.func 82) #[] #[])] m) (fun v37_15 m => (kb v37_15 (kr (.bool false) m) (k1 (mbin E .gtr 3 x11 (.int .i64 0)) fun v40_16 => (kb v40_16 (k1 (mbin E .sub 3 x11 (.int .i64 1)) fun v44_17 => (k1 (mindexAddr E.P 23 x0 v44_17) fun v45_18 => (k1 (xload E.P m 33 v45_18) fun v46_19 => (kc (call base 91 [v46_19, v15_4] m) (fun v48_20 m => (k1 (mbin E .geq 3 v48_20 (.int .i64 0)) fun v49_21 => (kb v49_21 (kr (.bool false) m) (k1 (mbin E .add 3 x11 (.int .i64 1)) fun v51_22 => (ih x0 x1 x2 x9 x10 v51_22 m))))) (fun v m => kp v m))))) (k1 (mbin E .add 3 x11 (.int .i64 1)) fun v51_23 => (ih x0 x1 x2 x9 x10 v51_23 m)))))) (fun v m => kp v m))))))))))))))))) (kx0 m)))) n
noncomputable def r60 (call : CallF) (fuel base : Nat) (x0 : Value) (x1 : Value) (x2 : Value) (m : M) : Res2 :=
  (k2 (vcall E.P base m .len [23] [x0]) fun v10_1 m => (r60_L0 call fuel base (fun v m => some (.pan v, m)) (fun y6_24 m => (fVal y6_24 fun v => some (.ret v, m))) (fun m => (fVal (.bool true) fun v => some (.ret v, m))) fuel x0 x1 x2 x0 v10_1 (.int .i64 0) m))
def keep60 : Keep := { region := fun i => ([[0, 1, 2], [0, 1, 2, 9, 10, 11], [0, 1, 2, 9, 10, 11, 12], [0, 1, 2, 7, 8, 9, 10, 11], [0, 1, 2, 7, 8, 9, 10, 11, 38], [6], [0, 1, 2, 9, 10, 11, 50], [6], [0, 1, 2, 9, 10, 11], [6]] : List (List Nat))[i]?, exit := fun i => ([[], [0, 1, 2, 9, 10, 11]] : List (List Nat))[i]?, ret := some [6] }
noncomputable def r60_L0_R (call : CallF) (fuel base n : Nat) (vs : List Value) (m : M) (K : KT) : Res2 := match vs with
  | [x0, x1, x2, x9, x10, x11] => r60_L0 call fuel base (fun v m => K (.pan v) { n := 52, l := [] } m) (fun y6 m => K .ret { n := 52, l := [(6, y6)] } m) (fun m => K (.exit 0) { n := 52, l := [] } m) n x0 x1 x2 x9 x10 x11 m
  | _ => none
noncomputable def lp60 (call : CallF) (fuel base : Nat) : Lp := lpsel [(0, fun T m K => kslots 52 [0, 1, 2, 9, 10, 11] T fun vs => r60_L0_R call fuel base fuel vs m K)]
noncomputable def c60 : Code := Try.f60.body.getD .skip
theorem r60_L0_lk (call : CallF) (fuel base : Nat) : LoopsOk E call (lp60 call fuel base) fuel base 0 (loopB (blockB (seqR (seqL (seqR c60))))) = (And True (And (And True True) (And (And True (And (And True (And (And True True) True)) (And True (And (And True True) True)))) True))) := by kernel_rfl
theorem r60_L0_ok (call : CallF) (fuel base : Nat) : LpOk E call (lp60 call fuel base) fuel base 0 (loopB (blockB (seqR (seqL (seqR c60))))) := by
  refine loop_ok (kp := keep60) (hb := Eq.mpr (r60_L0_lk call fuel base) (And.intro trivial (And.intro (And.intro trivial trivial) (And.intro (And.intro trivial (And.intro (And.intro trivial (And.intro (And.intro trivial trivial) trivial)) (And.intro trivial (And.intro (And.intro trivial trivial) trivial)))) trivial)))) 52 [0, 1, 2, 9, 10, 11] (fun n vs m K => r60_L0_R call fuel base n vs m K) ?_ ?_ (fun _ _ _ => rfl)
  · intro vs m K
    unfold r60_L0_R
    split <;> rfl
  · intro n vs m K hl
    match vs, hl with
    | [x0, x1, x2, x9, x10, x11], _ => show _ = _; kernel_rfl
theorem r60_eq (call : CallF) (fuel base : Nat) (x0 : Value) (x1 : Value) (x2 : Value) (m : M) : kbody E call keep60 (lp60 call fuel base) base Try.f60 [x0, x1, x2] m = r60 call fuel base x0 x1 x2 m := by
  kernel_rfl
noncomputable def rf60 : RF := fun call fuel base args m => match args with
  | [x0, x1, x2] => r60 call fuel base x0 x1 x2 m
  | _ => none
theorem r60_lk (call : CallF) (fuel base : Nat) : LoopsOk E call (lp60 call fuel base) fuel base 0 c60 = (And True (And (And True (LpOk E call (lp60 call fuel base) fuel base 0 (loopB (blockB (seqR (seqL (seqR c60))))))) (And True True))) := by kernel_rfl
theorem r60_fn : E.P.funcs[60]? = some Try.f60 := by kernel_rfl
theorem r60_body : Try.f60.body = some c60 := by kernel_rfl
theorem rf60_ok : RFok E 60 rf60 := by
  refine ⟨Try.f60, r60_fn, fun call fuel base args m r _ h => ?_⟩
  unfold rf60 at h
  split at h
  · rw [← r60_eq] at h
    exact kbody_sound (c := c60) r60_body (Eq.mpr (r60_lk call fuel base) (And.intro trivial (And.intro (And.intro trivial (r60_L0_ok call fuel base)) (And.intro trivial trivial)))) h
  · simp at h
end Go.AM
namespace Go.AM
open Go Go.Proofs
noncomputable def r61 (call : CallF) (fuel base : Nat) (x0 : Value) (x1 : Value) (m : M) : Res2 :=
  (k2 (xalloc E.P m 76) fun v4_1 m => (kc (call base 92 [x0, x1, (.func (.func 93) #[] #[])] m) (fun v8_2 m => (k1 (mbuild E.P 76 [(0, x1), (1, v8_2)]) fun v9_3 => (ks (xstore E.P base m 76 v4_1 v9_3) fun m => (k0 (mload E.P m 76 v4_1) fun r_4 => (fVal r_4 fun v => some (.ret v, m)))))) (fun v m => some (.pan v, m))))
def keep61 : Keep := { region := fun i => ([[0, 1, 4], [4]] : List (List Nat))[i]?, exit := fun i => ([] : List (List Nat))[i]?, ret := some [4] }
noncomputable def lp61 (call : CallF) (fuel base : Nat) : Lp := lpsel []
noncomputable def c61 : Code := Try.f61.body.getD .skip
theorem r61_eq (call : CallF) (fuel base : Nat) (x0 : Value) (x1 : Value) (m : M) : kbody E call keep61 (lp61 call fuel base) base Try.f61 [x0, x1] m = r61 call fuel base x0 x1 m := by
  kernel_rfl
noncomputable def rf61 : RF := fun call fuel base args m => match args with
  | [x0, x1] => r61 call fuel base x0 x1 m
  | _ => none
theorem r61_lk (call : CallF) (fuel base : Nat) : LoopsOk E call (lp61 call fuel base) fuel base 0 c61 = (And True (And True True)) := by kernel_rfl
theorem r61_fn : E.P.funcs[61]? = some Try.f61 := by kernel_rfl
theorem r61_body : Try.f61.body = some c61 := by kernel_rfl
theorem rf61_ok : RFok E 61 rf61 := by
  refine ⟨Try.f61, r61_fn, fun call fuel base args m r _ h => ?_⟩
  unfold rf61 at h
  split at h
  · rw [← r61_eq] at h
    exact kbody_sound (c := c61) r61_body (Eq.mpr (r61_lk call fuel base) (And.intro trivial (And.intro trivial trivial))) h
  · simp at h
end Go.AM
namespace Go.AM
open Go Go.Proofs
noncomputable def r62_L0 (call : CallF) (fuel base : Nat) (kp : Value → M → Res2) (kx0 : Value → Value → Value → M → Res2) (n : Nat) : Value → Value → Value → Value → Value → Value → M → Res2 :=
  Nat.rec (motive := fun _ => Value → Value → Value → Value → Value → Value → M → Res2) (fun _ _ _ _ _ _ _ => none)
    (fun _ ih x1 x2 x5 x20 x21 x22 m =>
      (k1 (mbin E .lss 3 x22 x21) fun v23_8 => (kb v23_8 (k1 (mindexAddr E.P 23 x20 x22) fun v24_9 => (k1 (xload E.P m 33 v24_9) fun v25_10 => (k1 (mslice E.P m 33 v25_10 (some (.int .i64 1)) none none) fun v27_11 => (kc (call base 95 [v27_11] m) (fun v28_12 m => (k1 (xload E.P m 33 x5) fun v29_13 => (k1 (mindexAddr E.P 33 v29_13 v28_12) fun v31_14 => (k1 (xload E.P m 3 v31_14) fun v32_15 => (k1 (mbin E .eql 3 v32_15 (.int .i64 0)) fun v33_16 => (kb v33_16 (k1 (xload E.P m 33 x5) fun v34_17 => (k1 (mindexAddr E.P 33 v25_10 (.int .i64 0)) fun v37_18 => (k1 (xload E.P m 3 v37_18) fun v38_19 => (k1 (mindexAddr E.P 33 v34_17 v28_12) fun v39_20 => (ks (xstore E.P base m 3 v39_20 v38_19) fun m => (k1 (mbin E .add 3 x22 (.int .i64 1)) fun v40_21 => (ih x1 x2 x5 x20 x21 v40_21 m))))))) (k1 (mbin E .add 3 x22 (.int .i64 1)) fun v40_22 => (ih x1 x2 x5 x20 x21 v40_22 m)))))))) (fun v m => kp v m))))) (kx0 x1 x2 x5 m)))) n
noncomputable def r62_L2 (call : CallF) (fuel base : Nat) (kr : Value → M → Res2) (kx2 : Value → Value → Value → M → Res2) (n : Nat) : Value → Value → Value → Value → Value → Value → M → Res2 :=
  Nat.rec (motive := fun _ => Value → Value → Value → Value → Value → Value → M → Res2) (fun _ _ _ _ _ _ _ => none)
    (fun _ ih x1 x5 x9 x46 x47 x48 m =>
      (k1 (mbin E .lss 3 x48 x47) fun v49_31 => (kb v49_31 (k1 (mindexAddr E.P 103 x46 x48) fun v51_32 => (k1 (xload E.P m 33 v51_32) fun v52_33 => (k2 (vcall E.P base m .len [33] [v52_33]) fun v54_34 m => (k1 (mbin E .gtr 3 v54_34 (.int .i64 0)) fun v55_35 => (kb v55_35 (k1 (xload E.P m 33 x5) fun v57_36 => (k1 (mindexAddr E.P 33 v57_36 x48) fun v59_37 => (k1 (xload E.P m 3 v59_37) fun v60_38 => (k1 (mbin E .eql 3 v60_38 (.int .i64 0)) fun v61_39 => (kb v61_39 (kr (.bool false) m) (k1 (mbin E .add 3 x48 (.int .i64 1)) fun v63_40 => (ih x1 x5 x9 x46 x47 v63_40 m))))))) (k1 (mbin E .add 3 x48 (.int .i64 1)) fun v63_41 => (ih x1 x5 x9 x46 x47 v63_41 m))))))) (kx2 x1 x5 x9 m)))) n
noncomputable def r62_L4 (call : CallF) (fuel base : Nat) (kp : Value → M → Res2) (kr : Value → M → Res2) (kx4 : M → Res2) (n : Nat) : Value → Value → Value → Value → Value → M → Res2 :=
  Nat.rec (motive := fun _ => Value → Value → Value → Value → Value → M → Res2) (fun _ _ _ _ _ _ => none)
    (fun _ ih x5 x9 x64 x65 x66 m =>
      (k1 (mbin E .lss 3 x66 x65) fun v67_47 => (kb v67_47 (k1 (mindexAddr E.P 23 x64 x66) fun v68_48 => (k1 (xload E.P m 33 v68_48) fun v69_49 => (k2 (xalloc E.P m 33) fun v14_50 m => (ks (xstore E.P base m 33 v14_50 v69_49) fun m => (k1 (xload E.P m 33 v14_50) fun v72_51 => (k1 (mslice E.P m 33 v72_51 (some (.int .i64 1)) none none) fun v73_52 => (kc (call base 95 [v73_52] m) (fun v74_53 m => (k1 (mindexAddr E.P 103 x9 v74_53) fun v75_54 => (k1 (xload E.P m 33 v75_54) fun v76_55 => (kc (call base 81 [v76_55, (.func (.func 97) #[] #[x5, v14_50])] m) (fun v78_56 m => (kb v78_56 (kr (.bool false) m) (k1 (mbin E .add 3 x66 (.int .i64 1)) fun v79_57 => (ih x5 x9 x64 x65 v79_57 m)))) (fun v m => kp v m))))) (fun v m => kp v m)))))))) (kx4 m)))) n
noncomputable def r62 (call : CallF) (fuel base : Nat) (x0 : Value) (x1 : Value) (m : M) : Res2 :=
  (k2 (xbox m x0) fun v2_1 m => (k1 (mfieldAddr E.P 76 v2_1 0) fun v16_2 => (k1 (xload E.P m 3 v16_2) fun v17_3 => (kc (call base 94 [v17_3] m) (fun v18_4 m => (k2 (xmakeSlice E.P m 33 v18_4 v18_4) fun v19_5 m => (k2 (xalloc E.P m 33) fun v5_6 m => (ks (xstore E.P base m 33 v5_6 v19_5) fun m => (k2 (vcall E.P base m .len [23] [x1]) fun v21_7 m => (r62_L0 call fuel base (fun v m => some (.pan v, m)) (fun y1_23 y2_24 y5_25 m => (k1 (xload E.P m 76 y2_24) fun v42_26 => (kc (call base 96 [v42_26] m) (fun v43_27 m => (k1 (mextract 0 v43_27) fun v44_28 => (k1 (mextract 1 v43_27) fun v45_29 => (k2 (vcall E.P base m .len [103] [v45_29]) fun v47_30 m => (r62_L2 call fuel base (fun y4_42 m => (fVal y4_42 fun v => some (.ret v, m))) (fun y1_43 y5_44 y9_45 m => (k2 (vcall E.P base m .len [23] [y1_43]) fun v65_46 m => (r62_L4 call fuel base (fun v m => some (.pan v, m)) (fun y4_58 m => (fVal y4_58 fun v => some (.ret v, m))) (fun m => (fVal (.bool true) fun v => some (.ret v, m))) fuel y5_44 y9_45 y1_43 v65_46 (.int .i64 0) m))) fuel y1_23 y5_25 v44_28 v45_29 v47_30 (.int .i64 0) m))))) (fun v m => some (.pan v, m))))) fuel x1 v2_1 v5_6 x1 v21_7 (.int .i64 0) m)))))) (fun v m => some (.pan v, m))))))
def keep62 : Keep := { region := fun i => ([[1, 2], [1, 2, 5], [1, 2, 5, 20, 21, 22], [1, 2, 5, 20, 21, 22, 23], [1, 2, 5, 7, 20, 21, 22], [1, 2, 5, 7, 8, 20, 21, 22], [1, 2, 5, 7, 8, 20, 21, 22, 33], [1, 2, 5, 20, 21, 22], [1, 2, 5, 20, 21, 22], [1, 5, 9, 10], [1, 5, 9, 46, 47, 48], [1, 5, 9, 46, 47, 48, 49], [1, 5, 9, 11, 12, 46, 47, 48], [1, 5, 9, 46, 47, 48, 62], [4], [1, 5, 9, 46, 47, 48], [5, 9, 64, 65, 66], [5, 9, 64, 65, 66, 67], [5, 9, 14, 64, 65, 66], [5, 9, 14, 15, 64, 65, 66], [5, 9, 64, 65, 66, 78], [4], [5, 9, 64, 65, 66], [4]] : List (List Nat))[i]?, exit := fun i => ([[1, 2, 5], [1, 2, 5, 20, 21, 22], [1, 5, 9], [1, 5, 9, 46, 47, 48], [], [5, 9, 64, 65, 66]] : List (List Nat))[i]?, ret := some [4] }
noncomputable def r62_L0_R (call : CallF) (fuel base n : Nat) (vs : List Value) (m : M) (K : KT) : Res2 := match vs with
  | [x1, x2, x5, x20, x21, x22] => r62_L0 call fuel base (fun v m => K (.pan v) { n := 80, l := [] } m) (fun y1 y2 y5 m => K (.exit 0) { n := 80, l := [(1, y1), (2, y2), (5, y5)] } m) n x1 x2 x5 x20 x21 x22 m
  | _ => none
noncomputable def r62_L2_R (call : CallF) (fuel base n : Nat) (vs : List Value) (m : M) (K : KT) : Res2 := match vs with
  | [x1, x5, x9, x46, x47, x48] => r62_L2 call fuel base (fun y4 m => K .ret { n := 80, l := [(4, y4)] } m) (fun y1 y5 y9 m => K (.exit 2) { n := 80, l := [(1, y1), (5, y5), (9, y9)] } m) n x1 x5 x9 x46 x47 x48 m
  | _ => none
noncomputable def r62_L4_R (call : CallF) (fuel base n : Nat) (vs : List Value) (m : M) (K : KT) : Res2 := match vs with
  | [x5, x9, x64, x65, x66] => r62_L4 call fuel base (fun v m => K (.pan v) { n := 80, l := [] } m) (fun y4 m => K .ret { n := 80, l := [(4, y4)] } m) (fun m => K (.exit 4) { n := 80, l := [] } m) n x5 x9 x64 x65 x66 m
  | _ => none
noncomputable def lp62 (call : CallF) (fuel base : Nat) : Lp := lpsel [(0, fun T m K => kslots 80 [1, 2, 5, 20, 21, 22] T fun vs => r62_L0_R call fuel base fuel vs m K), (2, fun T m K => kslots 80 [1, 5, 9, 46, 47, 48] T fun vs => r62_L2_R call fuel base fuel vs m K), (4, fun T m K => kslots 80 [5, 9, 64, 65, 66] T fun vs => r62_L4_R call fuel base fuel vs m K)]
noncomputable def c62 : Code := Try.f62.body.getD .skip
theorem r62_L0_lk (call : CallF) (fuel base : Nat) : LoopsOk E call (lp62 call fuel base) fuel base 0 (loopB (blockB (seqR (seqL (seqR (seqR c62)))))) = (And True (And (And True True) (And (And True (And True (And True (And True True)))) True))) := by kernel_rfl
theorem r62_L0_ok (call : CallF) (fuel base : Nat) : LpOk E call (lp62 call fuel base) fuel base 0 (loopB (blockB (seqR (seqL (seqR (seqR c62)))))) := by
  refine loop_ok (kp := keep62) (hb := Eq.mpr (r62_L0_lk call fuel base) (And.intro trivial (And.intro (And.intro trivial trivial) (And.intro (And.intro trivial (And.intro trivial (And.intro trivial (And.intro trivial trivial)))) trivial)))) 80 [1, 2, 5, 20, 21, 22] (fun n vs m K => r62_L0_R call fuel base n vs m K) ?_ ?_ (fun _ _ _ => rfl)
  · intro vs m K
    unfold r62_L0_R
    split <;> rfl
  · intro n vs m K hl
    match vs, hl with
    | [x1, x2, x5, x20, x21, x22], _ => show _ = _; kernel_rfl
theorem r62_L2_lk (call : CallF) (fuel base : Nat) : LoopsOk E call (lp62 call fuel base) fuel base 2 (loopB (blockB (seqR (seqL (seqR (seqR (seqR (seqR c62)))))))) = (And True (And (And True True) (And (And True (And True (And (And True True) True))) True))) := by kernel_rfl
theorem r62_L2_ok (call : CallF) (fuel base : Nat) : LpOk E call (lp62 call fuel base) fuel base 2 (loopB (blockB (seqR (seqL (seqR (seqR (seqR (seqR c62)))))))) := by
  refine loop_ok (kp := keep62) (hb := Eq.mpr (r62_L2_lk call fuel base) (And.intro trivial (And.intro (And.intro trivial trivial) (And.intro (And.intro trivial (And.intro trivial (And.intro (And.intro trivial trivial) trivial))) trivial)))) 80 [1, 5, 9, 46, 47, 48] (fun n vs m K => r62_L2_R call fuel base n vs m K) ?_ ?_ (fun _ _ _ => rfl)
  · intro vs m K
    unfold r62_L2_R
    split <;> rfl
  · intro n vs m K hl
    match vs, hl with
    | [x1, x5, x9, x46, x47, x48], _ => show _ = _; kernel_rfl
theorem r62_L4_lk (call : CallF) (fuel base : Nat) : LoopsOk E call (lp62 call fuel base) fuel base 4 (loopB (blockB (seqR (seqL (seqR (seqR (seqR (seqR (seqR c62))))))))) = (And True (And (And True True) (And (And True (And True (And True (And (And True True) True)))) True))) := by kernel_rfl
theorem r62_L4_ok (call : CallF) (fuel base : Nat) : LpOk E call (lp62 call fuel base) fuel base 4 (loopB (blockB (seqR (seqL (seqR (seqR (seqR (seqR (seqR c62))))))))) := by
  refine loop_ok (kp := keep62) (hb := Eq.mpr (r62_L4_lk call fuel base) (And.intro trivial (And.intro (And.intro trivial trivial) (And.intro (And.intro trivial (And.intro trivial (And.intro trivial (And.intro (And.intro trivial trivial) trivial)))) trivial)))) 80 [5, 9, 64, 65, 66] (fun n vs m K => r62_L4_R call fuel base n vs m K) ?_ ?_ (fun _ _ _ => rfl)
  · intro vs m K
    unfold r62_L4_R
    split <;> rfl
  · intro n vs m K hl
    match vs, hl with
    | [x5, x9, x64, x65, x66], _ => show _ = _; kernel_rfl
theorem r62_eq (call : CallF) (fuel base : Nat) (x0 : Value) (x1 : Value) (m : M) : kbody E call keep62 (lp62 call fuel base) base Try.f62 [x0, x1] m = r62 call fuel base x0 x1 m := by
  kernel_rfl
noncomputable def rf62 : RF := fun call fuel base args m => match args with
  | [x0, x1] => r62 call fuel base x0 x1 m
  | _ => none
theorem r62_lk (call : CallF) (fuel base : Nat) : LoopsOk E call (lp62 call fuel base) fuel base 0 c62 = (And True (And True (And (And True (LpOk E call (lp62 call fuel base) fuel base 0 (loopB (blockB (seqR (seqL (seqR (seqR c62)))))))) (And True (And (And True (LpOk E call (lp62 call fuel base) fuel base 2 (loopB (blockB (seqR (seqL (seqR (seqR (seqR (seqR c62)))))))))) (And (And True (LpOk E call (lp62 call fuel base) fuel base 4 (loopB (blockB (seqR (seqL (seqR (seqR (seqR (seqR (seqR c62))))))))))) (And True True))))))) := by kernel_rfl
theorem r62_fn : E.P.funcs[62]? = some Try.f62 := by kernel_rfl
theorem r62_body : Try.f62.body = some c62 := by kernel_rfl
theorem rf62_ok : RFok E 62 rf62 := by
  refine ⟨Try.f62, r62_fn, fun call fuel base args m r _ h => ?_⟩
  unfold rf62 at h
  split at h
  · rw [← r62_eq] at h
    exact kbody_sound (c := c62) r62_body (Eq.mpr (r62_lk call fuel base) (And.intro trivial (And.intro trivial (And.intro (And.intro trivial (r62_L0_ok call fuel base)) (And.intro trivial (And.intro (And.intro trivial (r62_L2_ok call fuel base)) (And.intro (And.intro trivial (r62_L4_ok call fuel base)) (And.intro trivial trivial)))))))) h
  · simp at h
end Go.AM
namespace Go.AM
open Go Go.Proofs
noncomputable def r68 (call : CallF) (fuel base : Nat) (x0 : Value) (m : M) : Res2 :=
  (k1 (mbin E .gtr 3 x0 (.int .i64 1099511627776)) fun v5_1 => (kb v5_1 (some (.ret (.tuple #[(.int .i64 0), (.int .i64 8)]), m)) (some (.ret (.tuple #[x0, (.int .i64 0)]), m))))
def keep68 : Keep := { region := fun i => ([[0], [0, 5], [2, 3], [2, 3]] : List (List Nat))[i]?, exit := fun i => ([] : List (List Nat))[i]?, ret := some [2, 3] }
noncomputable def lp68 (call : CallF) (fuel base : Nat) : Lp := lpsel []
noncomputable def c68 : Code := Try.f68.body.getD .skip
theorem r68_eq (call : CallF) (fuel base : Nat) (x0 : Value) (m : M) : kbody E call keep68 (lp68 call fuel base) base Try.f68 [x0] m = r68 call fuel base x0 m := by
  kernel_rfl
noncomputable def rf68 : RF := fun call fuel base args m => match args with
  | [x0] => r68 call fuel base x0 m
  | _ => none
theorem r68_lk (call : CallF) (fuel base : Nat) : LoopsOk E call (lp68 call fuel base) fuel base 0 c68 = (And True (And (And True (And (And True True) True)) (And True True))) := by kernel_rfl
theorem r68_fn : E.P.funcs[68]? = some Try.f68 := by kernel_rfl
theorem r68_body : Try.f68.body = some c68 := by kernel_rfl
theorem rf68_ok : RFok E 68 rf68 := by
  refine ⟨Try.f68, r68_fn, fun call fuel base args m r _ h => ?_⟩
  unfold rf68 at h
  split at h
  · rw [← r68_eq] at h
    exact kbody_sound (c := c68) r68_body (Eq.mpr (r68_lk call fuel base) (And.intro trivial (And.intro (And.intro trivial (And.intro (And.intro trivial trivial) trivial)) (And.intro trivial trivial)))) h
  · simp at h
end Go.AM
namespace Go.AM
open Go Go.Proofs
noncomputable def r69_L0 (call : CallF) (fuel base : Nat) (kp : Value → M → Res2) (kx0 : Value → M → Res2) (n : Nat) : Value → Value → Value → Value → M → Res2 :=
  Nat.rec (motive := fun _ => Value → Value → Value → Value → M → Res2) (fun _ _ _ _ _ => none)
    (fun _ ih x5 x13 x14 x15 m =>
      (k1 (mbin E .lss 3 x15 x14) fun v16_7 => (kb v16_7 (k1 (mindexAddr E.P 33 x13 x15) fun v17_8 => (k1 (xload E.P m 3 v17_8) fun v18_9 => (kc (call base 99 [x5, v18_9] m) (fun v21_10 m => (k1 (mbin E .add 3 x15 (.int .i64 1)) fun v22_11 => (ih v21_10 x13 x14 v22_11 m))) (fun v m => kp v m)))) (kx0 x5 m)))) n
noncomputable def r69 (call : CallF) (fuel base : Nat) (x0 : Value) (x1 : Value) (m : M) : Res2 :=
  (k2 (xbox m x0) fun v2_1 m => (k1 (xload E.P m 76 v2_1) fun v8_2 => (kc (call base 98 [v8_2, x1] m) (fun v10_3 m => (k1 (mindexAddr E.P 23 v10_3 x1) fun v12_4 => (k1 (xload E.P m 33 v12_4) fun v13_5 => (k2 (vcall E.P base m .len [33] [v13_5]) fun v14_6 m => (r69_L0 call fuel base (fun v m => some (.pan v, m)) (fun y5_12 m => (fVal y5_12 fun v => some (.ret v, m))) fuel (.int .i64 0) v13_5 v14_6 (.int .i64 0) m))))) (fun v m => some (.pan v, m)))))
def keep69 : Keep := { region := fun i => ([[1, 2], [1, 2, 5], [5, 13, 14, 15], [5, 13, 14, 15, 16], [5, 7, 13, 14, 15], [5, 13, 14, 15], [5, 13, 14, 15], [4]] : List (List Nat))[i]?, exit := fun i => ([[5], [5, 13, 14, 15]] : List (List Nat))[i]?, ret := some [4] }
noncomputable def r69_L0_R (call : CallF) (fuel base n : Nat) (vs : List Value) (m : M) (K : KT) : Res2 := match vs with
  | [x5, x13, x14, x15] => r69_L0 call fuel base (fun v m => K (.pan v) { n := 24, l := [] } m) (fun y5 m => K (.exit 0) { n := 24, l := [(5, y5)] } m) n x5 x13 x14 x15 m
  | _ => none
noncomputable def lp69 (call : CallF) (fuel base : Nat) : Lp := lpsel [(0, fun T m K => kslots 24 [5, 13, 14, 15] T fun vs => r69_L0_R call fuel base fuel vs m K)]
noncomputable def c69 : Code := Try.f69.body.getD .skip
theorem r69_L0_lk (call : CallF) (fuel base : Nat) : LoopsOk E call (lp69 call fuel base) fuel base 0 (loopB (blockB (seqR (seqL (seqR (seqR c69)))))) = (And True (And (And True True) (And (And True True) True))) := by kernel_rfl
theorem r69_L0_ok (call : CallF) (fuel base : Nat) : LpOk E call (lp69 call fuel base) fuel base 0 (loopB (blockB (seqR (seqL (seqR (seqR c69)))))) := by
  refine loop_ok (kp := keep69) (hb := Eq.mpr (r69_L0_lk call fuel base) (And.intro trivial (And.intro (And.intro trivial trivial) (And.intro (And.intro trivial trivial) trivial)))) 24 [5, 13, 14, 15] (fun n vs m K => r69_L0_R call fuel base n vs m K) ?_ ?_ (fun _ _ _ => rfl)
  · intro vs m K
    unfold r69_L0_R
    split <;> rfl
  · intro n vs m K hl
    match vs, hl with
    | [x5, x13, x14, x15], _ => show _ = _; kernel_rfl
theorem r69_eq (call : CallF) (fuel base : Nat) (x0 : Value) (x1 : Value) (m : M) : kbody E call keep69 (lp69 call fuel base) base Try.f69 [x0, x1] m = r69 call fuel base x0 x1 m := by
  kernel_rfl
noncomputable def rf69 : RF := fun call fuel base args m => match args with
  | [x0, x1] => r69 call fuel base x0 x1 m
  | _ => none
theorem r69_lk (call : CallF) (fuel base : Nat) : LoopsOk E call (lp69 call fuel base) fuel base 0 c69 = (And True (And True (And (And True (LpOk E call (lp69 call fuel base) fuel base 0 (loopB (blockB (seqR (seqL (seqR (seqR c69)))))))) (And True True)))) := by kernel_rfl
theorem r69_fn : E.P.funcs[69]? = some Try.f69 := by kernel_rfl
theorem r69_body : Try.f69.body = some c69 := by kernel_rfl
theorem rf69_ok : RFok E 69 rf69 := by
  refine ⟨Try.f69, r69_fn, fun call fuel base args m r _ h => ?_⟩
  unfold rf69 at h
  split at h
  · rw [← r69_eq] at h
    exact kbody_sound (c := c69) r69_body (Eq.mpr (r69_lk call fuel base) (And.intro trivial (And.intro trivial (And.intro (And.intro trivial (r69_L0_ok call fuel base)) (And.intro trivial trivial))))) h
  · simp at h
end Go.AM
namespace Go.AM
open Go Go.Proofs
noncomputable def r74_L2 (call : CallF) (fuel base : Nat) (kp : Value → M → Res2) (kx2 : Value → Value → Value → Value → Value → Value → M → Res2) (n : Nat) : Value → Value → Value → Value → Value → Value → Value → Value → Value → M → Res2 :=
  Nat.rec (motive := fun _ => Value → Value → Value → Value → Value → Value → Value → Value → Value → M → Res2) (fun _ _ _ _ _ _ _ _ _ _ => none)
    (fun _ ih x1 x2 x5 x7 x8 x9 x25 x26 x27 m =>
      (k1 (mbin E .lss 3 x27 x26) fun v28_10 => (kb v28_10 (k1 (mindexAddr E.P 103 x25 x27) fun v30_11 => (k1 (xload E.P m 33 v30_11) fun v31_12 => (k2 (vcall E.P base m .len [33] [v31_12]) fun v33_13 m => (k1 (mbin E .gtr 3 v33_13 (.int .i64 0)) fun v34_14 => (kb v34_14 (k1 (mindexAddr E.P 23 x5 x9) fun v38_15 => (k1 (xload E.P m 33 v38_15) fun v39_16 => (k1 (mindexAddr E.P 33 v39_16 x27) fun v41_17 => (k1 (xload E.P m 3 v41_17) fun v42_18 => (k1 (mbin E .eql 3 v42_18 (.int .i64 0)) fun v43_19 => (kb v43_19 (k1 (mbin E .sub 3 x9 (.int .i64 1)) fun v48_20 => (k1 (mindexAddr E.P 23 x5 v48_20) fun v49_21 => (k1 (xload E.P m 33 v49_21) fun v50_22 => (k1 (mindexAddr E.P 33 v50_22 x27) fun v52_23 => (k1 (xload E.P m 3 v52_23) fun v53_24 => (k1 (mbin E .gtr 3 v53_24 (.int .i64 0)) fun v54_25 => (kb v54_25 (k2 (xbuildSlice E.P m 33 1 [(0, x9)]) fun v58_26 m => (k1 (mfieldAddr E.P 76 x2 0) fun v60_27 => (k1 (xload E.P m 3 v60_27) fun v61_28 => (kc (call base 107 [x27, v61_28] m) (fun v62_29 m => (k2 (xbuildSlice E.P m 23 2 [(0, v58_26), (1, v62_29)]) fun v63_30 m => (kc (call base 106 [v63_30] m) (fun v64_31 m => (k2 (xbuildSlice E.P m 23 1 [(0, v64_31)]) fun v65_32 m => (k2 (vcall E.P base m .append [23, 23] [x8, v65_32]) fun v66_33 m => (k1 (mbin E .add 3 x27 (.int .i64 1)) fun v67_34 => (ih x1 x2 x5 x7 v66_33 x9 x25 x26 v67_34 m))))) (fun v m => kp v m)))) (fun v m => kp v m))))) (k1 (mbin E .add 3 x27 (.int .i64 1)) fun v67_35 => (ih x1 x2 x5 x7 x8 x9 x25 x26 v67_35 m))))))))) (k1 (mbin E .add 3 x27 (.int .i64 1)) fun v67_36 => (ih x1 x2 x5 x7 x8 x9 x25 x26 v67_36 m)))))))) (k1 (mbin E .add 3 x27 (.int .i64 1)) fun v67_37 => (ih x1 x2 x5 x7 x8 x9 x25 x26 v67_37 m))))))) (kx2 x1 x2 x5 x7 x8 x9 m)))) n
noncomputable def r74_L0 (call : CallF) (fuel base : Nat) (kp : Value → M → Res2) (kx0 : Value → M → Res2) (n : Nat) : Value → Value → Value → Value → Value → Value → M → Res2 :=
  Nat.rec (motive := fun _ => Value → Value → Value → Value → Value → Value → M → Res2) (fun _ _ _ _ _ _ _ => none)
    (fun _ ih x1 x2 x5 x7 x8 x9 m =>
      (k1 (mbin E .lss 3 x9 x1) fun v22_8 => (kb v22_8 (k2 (vcall E.P base m .len [103] [x7]) fun v26_9 m => (r74_L2 call fuel base (fun v m => kp v m) (fun y1_38 y2_39 y5_40 y7_41 y8_42 y9_43 m => (k1 (mbin E .add 3 y9_43 (.int .i64 1)) fun v24_44 => (ih y1_38 y2_39 y5_40 y7_41 y8_42 v24_44 m))) fuel x1 x2 x5 x7 x8 x9 x7 v26_9 (.int .i64 0) m)) (kx0 x8 m)))) n
noncomputable def r74 (call : CallF) (fuel base : Nat) (x0 : Value) (x1 : Value) (m : M) : Res2 :=
  (k2 (xbox m x0) fun v2_1 m => (k1 (xload E.P m 76 v2_1) fun v12_2 => (kc (call base 98 [v12_2, x1] m) (fun v14_3 m => (k1 (xload E.P m 76 v2_1) fun v16_4 => (kc (call base 96 [v16_4] m) (fun v17_5 m => (k1 (mextract 0 v17_5) fun v18_6 => (k1 (mextract 1 v17_5) fun v19_7 => (r74_L0 call fuel base (fun v m => some (.pan v, m)) (fun y8_45 m => (fVal y8_45 fun v => some (.ret v, m))) fuel x1 v2_1 v14_3 v19_7 (.slice none 0 0) (.int .i64 1) m)))) (fun v m => some (.pan v, m))))) (fun v m => some (.pan v, m)))))
def keep74 : Keep := { region := fun i => ([[1, 2], [1, 2, 5], [1, 2, 5, 7], [1, 2, 5, 7, 8], [1, 2, 5, 7, 8, 9], [1, 2, 5, 7, 8, 9, 22], [1, 2, 5, 7, 8, 9], [1, 2, 5, 7, 8, 9, 25, 26, 27], [1, 2, 5, 7, 8, 9, 25, 26, 27, 28], [1, 2, 5, 7, 8, 9, 10, 11, 25, 26, 27], [1, 2, 5, 7, 8, 9, 10, 25, 26, 27, 55], [1, 2, 5, 7, 8, 9, 25, 26, 27], [1, 2, 5, 7, 8, 9, 25, 26, 27], [4]] : List (List Nat))[i]?, exit := fun i => ([[8], [1, 2, 5, 7, 8, 9], [1, 2, 5, 7, 8, 9], [1, 2, 5, 7, 8, 9, 25, 26, 27]] : List (List Nat))[i]?, ret := some [4] }
noncomputable def r74_L2_R (call : CallF) (fuel base n : Nat) (vs : List Value) (m : M) (K : KT) : Res2 := match vs with
  | [x1, x2, x5, x7, x8, x9, x25, x26, x27] => r74_L2 call fuel base (fun v m => K (.pan v) { n := 69, l := [] } m) (fun y1 y2 y5 y7 y8 y9 m => K (.exit 2) { n := 69, l := [(1, y1), (2, y2), (5, y5), (7, y7), (8, y8), (9, y9)] } m) n x1 x2 x5 x7 x8 x9 x25 x26 x27 m
  | _ => none
noncomputable def r74_L0_R (call : CallF) (fuel base n : Nat) (vs : List Value) (m : M) (K : KT) : Res2 := match vs with
  | [x1, x2, x5, x7, x8, x9] => r74_L0 call fuel base (fun v m => K (.pan v) { n := 69, l := [] } m) (fun y8 m => K (.exit 0) { n := 69, l := [(8, y8)] } m) n x1 x2 x5 x7 x8 x9 m
  | _ => none
noncomputable def lp74 (call : CallF) (fuel base : Nat) : Lp := lpsel [(2, fun T m K => kslots 69 [1, 2, 5, 7, 8, 9, 25, 26, 27] T fun vs => r74_L2_R call fuel base fuel vs m K), (0, fun T m K => kslots 69 [1, 2, 5, 7, 8, 9] T fun vs => r74_L0_R call fuel base fuel vs m K)]
noncomputable def c74 : Code := Try.f74.body.getD .skip
theorem r74_L2_lk (call : CallF) (fuel base : Nat) : LoopsOk E call (lp74 call fuel base) fuel base 2 (loopB (blockB (seqR (blockB (seqL (seqR (loopB (blockB (seqR (seqL (seqR (seqR (seqR (seqR c74)))))))))))))) = (And True (And (And True True) (And (And True (And True (And True True))) True))) := by kernel_rfl
theorem r74_L2_ok (call : CallF) (fuel base : Nat) : LpOk E call (lp74 call fuel base) fuel base 2 (loopB (blockB (seqR (blockB (seqL (seqR (loopB (blockB (seqR (seqL (seqR (seqR (seqR (seqR c74)))))))))))))) := by
  refine loop_ok (kp := keep74) (hb := Eq.mpr (r74_L2_lk call fuel base) (And.intro trivial (And.intro (And.intro trivial trivial) (And.intro (And.intro trivial (And.intro trivial (And.intro trivial trivial))) trivial)))) 69 [1, 2, 5, 7, 8, 9, 25, 26, 27] (fun n vs m K => r74_L2_R call fuel base n vs m K) ?_ ?_ (fun _ _ _ => rfl)
  · intro vs m K
    unfold r74_L2_R
    split <;> rfl
  · intro n vs m K hl
    match vs, hl with
    | [x1, x2, x5, x7, x8, x9, x25, x26, x27], _ => show _ = _; kernel_rfl
theorem r74_L0_lk (call : CallF) (fuel base : Nat) : LoopsOk E call (lp74 call fuel base) fuel base 0 (loopB (blockB (seqR (seqL (seqR (seqR (seqR (seqR c74)))))))) = (And (And True (And True True)) (And (And True (LpOk E call (lp74 call fuel base) fuel base 2 (loopB (blockB (seqR (blockB (seqL (seqR (loopB (blockB (seqR (seqL (seqR (seqR (seqR (seqR c74)))))))))))))))) True)) := by kernel_rfl
theorem r74_L0_ok (call : CallF) (fuel base : Nat) : LpOk E call (lp74 call fuel base) fuel base 0 (loopB (blockB (seqR (seqL (seqR (seqR (seqR (seqR c74)))))))) := by
  refine loop_ok (kp := keep74) (hb := Eq.mpr (r74_L0_lk call fuel base) (And.intro (And.intro trivial (And.intro trivial trivial)) (And.intro (And.intro trivial (r74_L2_ok call fuel base)) trivial))) 69 [1, 2, 5, 7, 8, 9] (fun n vs m K => r74_L0_R call fuel base n vs m K) ?_ ?_ (fun _ _ _ => rfl)
  · intro vs m K
    unfold r74_L0_R
    split <;> rfl
  · intro n vs m K hl
    match vs, hl with
    | [x1, x2, x5, x7, x8, x9], _ => show _ = _; kernel_rfl
theorem r74_eq (call : CallF) (fuel base : Nat) (x0 : Value) (x1 : Value) (m : M) : kbody E call keep74 (lp74 call fuel base) base Try.f74 [x0, x1] m = r74 call fuel base x0 x1 m := by
  kernel_rfl
noncomputable def rf74 : RF := fun call fuel base args m => match args with
  | [x0, x1] => r74 call fuel base x0 x1 m
  | _ => none
theorem r74_lk (call : CallF) (fuel base : Nat) : LoopsOk E call (lp74 call fuel base) fuel base 0 c74 = (And True (And True (And True (And True (And (And True (LpOk E call (lp74 call fuel base) fuel base 0 (loopB (blockB (seqR (seqL (seqR (seqR (seqR (seqR c74)))))))))) (And True True)))))) := by kernel_rfl
theorem r74_fn : E.P.funcs[74]? = some Try.f74 := by kernel_rfl
theorem r74_body : Try.f74.body = some c74 := by kernel_rfl
theorem rf74_ok : RFok E 74 rf74 := by
  refine ⟨Try.f74, r74_fn, fun call fuel base args m r _ h => ?_⟩
  unfold rf74 at h
  split at h
  · rw [← r74_eq] at h
    exact kbody_sound (c := c74) r74_body (Eq.mpr (r74_lk call fuel base) (And.intro trivial (And.intro trivial (And.intro trivial (And.intro trivial (And.intro (And.intro trivial (r74_L0_ok call fuel base)) (And.intro trivial trivial))))))) h
  · simp at h
end Go.AM
namespace Go.AM
open Go Go.Proofs
noncomputable def r77_L2 (call : CallF) (fuel base : Nat) (kp : Value → M → Res2) (kx2 : Value → Value → Value → Value → Value → Value → M → Res2) (n : Nat) : Value → Value → Value → Value → Value → Value → Value → Value → Value → Value → M → Res2 :=
  Nat.rec (motive := fun _ => Value → Value → Value → Value → Value → Value → Value → Value → Value → Value → M → Res2) (fun _ _ _ _ _ _ _ _ _ _ _ => none)
    (fun _ ih x1 x6 x7 x9 x15 x16 x17 x21 x22 x23 m =>
      (k1 (mbin E .lss 3 x23 x22) fun v24_7 => (kb v24_7 (k1 (mindexAddr E.P 22 x21 x23) fun v25_8 => (k1 (xload E.P m 45 v25_8) fun v26_9 => (k2 (xalloc E.P m 45) fun v11_10 m => (ks (xstore E.P base m 45 v11_10 v26_9) fun m => (k1 (mfieldAddr E.P 45 x9 2) fun v27_11 => (k1 (xload E.P m 3 v27_11) fun v28_12 => (k1 (mfieldAddr E.P 45 v11_10 0) fun v29_13 => (k1 (xload E.P m 3 v29_13) fun v30_14 => (k1 (mbin E .neq 3 v28_12 v30_14) fun v31_15 => (kb v31_15 (k1 (mbin E .add 3 x23 (.int .i64 1)) fun v64_16 => (ih x1 x6 x7 x9 x15 x16 x17 x21 x22 v64_16 m)) (k1 (mfieldAddr E.P 45 x9 1) fun v32_17 => (k1 (xload E.P m 3 v32_17) fun v33_18 => (k1 (mfieldAddr E.P 45 v11_10 1) fun v34_19 => (k1 (xload E.P m 3 v34_19) fun v35_20 => (k2 (xbuildSlice E.P m 33 2 [(0, v33_18), (1, v35_20)]) fun v36_21 m => (kc (kB m (call m.length 95 [v36_21] m)) (fun v37_22 m => (k1 (mfieldAddr E.P 45 x9 3) fun v38_23 => (k1 (xload E.P m 3 v38_23) fun v39_24 => (k1 (mfieldAddr E.P 45 v11_10 3) fun v40_25 => (k1 (xload E.P m 3 v40_25) fun v41_26 => (k2 (xbuildSlice E.P m 33 2 [(0, v39_24), (1, v41_26)]) fun v42_27 m => (kc (kB m (call m.length 95 [v42_27] m)) (fun v43_28 m => (k2 (xbuildSlice E.P m 33 2 [(0, v37_22), (1, v43_28)]) fun v47_29 m => (k2 (vcall E.P base m .append [33, 33] [x7, v47_29]) fun v48_30 m => (k1 (mfieldAddr E.P 45 x9 0) fun v49_31 => (k1 (xload E.P m 3 v49_31) fun v50_32 => (k1 (mfieldAddr E.P 45 v11_10 2) fun v52_33 => (k1 (xload E.P m 3 v52_33) fun v53_34 => (k1 (mbuild E.P 45 [(0, v50_32), (1, v37_22), (2, v53_34), (3, v43_28)]) fun v55_35 => (k2 (xalloc E.P m 45) fun v14_36 m => (ks (xstore E.P base m 45 v14_36 v55_35) fun m => (k1 (xload E.P m 45 v14_36) fun v57_37 => (kc (call base 84 [x6, v57_37] m) (fun v58_38 m => (k1 (mun .not v58_38) fun v59_39 => (kb v59_39 (k1 (xload E.P m 45 v14_36) fun v61_40 => (k2 (xbuildSlice E.P m 22 1 [(0, v61_40)]) fun v62_41 m => (k2 (vcall E.P base m .append [22, 22] [x6, v62_41]) fun v63_42 m => (k1 (mbin E .add 3 x23 (.int .i64 1)) fun v64_43 => (ih x1 v63_42 v48_30 x9 x15 x16 x17 x21 x22 v64_43 m))))) (k1 (mbin E .add 3 x23 (.int .i64 1)) fun v64_44 => (ih x1 x6 v48_30 x9 x15 x16 x17 x21 x22 v64_44 m))))) (fun v m => kp v m))))))))))))) (fun _ _ => none)))))))) (fun _ _ => none))))))))))))))))) (kx2 x1 x6 x7 x15 x16 x17 m)))) n
noncomputable def r77_L0 (call : CallF) (fuel base : Nat) (kp : Value → M → Res2) (kx0 : Value → Value → M → Res2) (n : Nat) : Value → Value → Value → Value → Value → Value → M → Res2 :=
  Nat.rec (motive := fun _ => Value → Value → Value → Value → Value → Value → M → Res2) (fun _ _ _ _ _ _ _ => none)
    (fun _ ih x1 x6 x7 x15 x16 x17 m =>
      (k1 (mbin E .lss 3 x17 x16) fun v18_2 => (kb v18_2 (k1 (mindexAddr E.P 22 x15 x17) fun v19_3 => (k1 (xload E.P m 45 v19_3) fun v20_4 => (k2 (xalloc E.P m 45) fun v9_5 m => (ks (xstore E.P base m 45 v9_5 v20_4) fun m => (k2 (vcall E.P base m .len [22] [x1]) fun v22_6 m => (r77_L2 call fuel base (fun v m => kp v m) (fun y1_45 y6_46 y7_47 y15_48 y16_49 y17_50 m => (k1 (mbin E .add 3 y17_50 (.int .i64 1)) fun v65_51 => (ih y1_45 y6_46 y7_47 y15_48 y16_49 v65_51 m))) fuel x1 x6 x7 v9_5 x15 x16 x17 x1 v22_6 (.int .i64 0) m)))))) (kx0 x6 x7 m)))) n
noncomputable def r77 (call : CallF) (fuel base : Nat) (x0 : Value) (x1 : Value) (m : M) : Res2 :=
  (k2 (vcall E.P base m .len [22] [x0]) fun v16_1 m => (r77_L0 call fuel base (fun v m => some (.pan v, m)) (fun y6_52 y7_53 m => (kc (call base 109 [y7_53] m) (fun v67_54 m => (kc (call base 110 [y7_53] m) (fun v70_55 m => (some (.ret (.tuple #[y6_52, v70_55]), m))) (fun v m => some (.pan v, m)))) (fun v m => some (.pan v, m)))) fuel x1 (.slice none 0 0) (.slice none 0 0) x0 v16_1 (.int .i64 0) m))
def keep77 : Keep := { region := fun i => ([[0, 1], [0, 1, 6], [0, 1, 6, 7], [1, 6, 7, 15, 16, 17], [1, 6, 7, 15, 16, 17, 18], [1, 6, 7, 9, 15, 16, 17], [1, 6, 7, 9, 15, 16, 17, 21, 22, 23], [1, 6, 7, 9, 15, 16, 17, 21, 22, 23, 24], [1, 6, 7, 9, 11, 15, 16, 17, 21, 22, 23], [1, 6, 7, 9, 11, 15, 16, 17, 21, 22, 23, 31], [1, 6, 7, 9, 11, 12, 13, 15, 16, 17, 21, 22, 23], [1, 6, 7, 9, 11, 12, 13, 15, 16, 17, 21, 22, 23], [1, 6, 7, 9, 14, 15, 16, 17, 21, 22, 23], [1, 6, 7, 9, 14, 15, 16, 17, 21, 22, 23, 59], [1, 6, 7, 9, 15, 16, 17, 21, 22, 23], [1, 6, 7, 9, 15, 16, 17, 21, 22, 23], [1, 6, 7, 15, 16, 17], [6, 7], [4, 5]] : List (List Nat))[i]?, exit := fun i => ([[6, 7], [1, 6, 7, 15, 16, 17], [1, 6, 7, 15, 16, 17], [1, 6, 7, 9, 15, 16, 17, 21, 22, 23]] : List (List Nat))[i]?, ret := some [4, 5] }
noncomputable def r77_L2_R (call : CallF) (fuel base n : Nat) (vs : List Value) (m : M) (K : KT) : Res2 := match vs with
  | [x1, x6, x7, x9, x15, x16, x17, x21, x22, x23] => r77_L2 call fuel base (fun v m => K (.pan v) { n := 71, l := [] } m) (fun y1 y6 y7 y15 y16 y17 m => K (.exit 2) { n := 71, l := [(1, y1), (6, y6), (7, y7), (15, y15), (16, y16), (17, y17)] } m) n x1 x6 x7 x9 x15 x16 x17 x21 x22 x23 m
  | _ => none
noncomputable def r77_L0_R (call : CallF) (fuel base n : Nat) (vs : List Value) (m : M) (K : KT) : Res2 := match vs with
  | [x1, x6, x7, x15, x16, x17] => r77_L0 call fuel base (fun v m => K (.pan v) { n := 71, l := [] } m) (fun y6 y7 m => K (.exit 0) { n := 71, l := [(6, y6), (7, y7)] } m) n x1 x6 x7 x15 x16 x17 m
  | _ => none
noncomputable def lp77 (call : CallF) (fuel base : Nat) : Lp := lpsel [(2, fun T m K => kslots 71 [1, 6, 7, 9, 15, 16, 17, 21, 22, 23] T fun vs => r77_L2_R call fuel base fuel vs m K), (0, fun T m K => kslots 71 [1, 6, 7, 15, 16, 17] T fun vs => r77_L0_R call fuel base fuel vs m K)]
noncomputable def c77 : Code := Try.f77.body.getD .skip
theorem r77_L2_lk (call : CallF) (fuel base : Nat) : LoopsOk E call (lp77 call fuel base) fuel base 2 (loopB (blockB (seqR (seqR (blockB (seqL (seqR (seqR (loopB (blockB (seqR (seqL (seqR (seqR (seqR c77))))))))))))))) = (And True (And (And True True) (And (And True (And (And True (And True True)) (And True (And True (And True (And True (And True True))))))) True))) := by kernel_rfl
theorem r77_L2_ok (call : CallF) (fuel base : Nat) : LpOk E call (lp77 call fuel base) fuel base 2 (loopB (blockB (seqR (seqR (blockB (seqL (seqR (seqR (loopB (blockB (seqR (seqL (seqR (seqR (seqR c77))))))))))))))) := by
  refine loop_ok (kp := keep77) (hb := Eq.mpr (r77_L2_lk call fuel base) (And.intro trivial (And.intro (And.intro trivial trivial) (And.intro (And.intro trivial (And.intro (And.intro trivial (And.intro trivial trivial)) (And.intro trivial (And.intro trivial (And.intro trivial (And.intro trivial (And.intro trivial trivial))))))) trivial)))) 71 [1, 6, 7, 9, 15, 16, 17, 21, 22, 23] (fun n vs m K => r77_L2_R call fuel base n vs m K) ?_ ?_ (fun _ _ _ => rfl)
  · intro vs m K
    unfold r77_L2_R
    split <;> rfl
  · intro n vs m K hl
    match vs, hl with
    | [x1, x6, x7, x9, x15, x16, x17, x21, x22, x23], _ => show _ = _; kernel_rfl
theorem r77_L0_lk (call : CallF) (fuel base : Nat) : LoopsOk E call (lp77 call fuel base) fuel base 0 (loopB (blockB (seqR (seqL (seqR (seqR (seqR c77))))))) = (And True (And (And True True) (And (And True (And True (LpOk E call (lp77 call fuel base) fuel base 2 (loopB (blockB (seqR (seqR (blockB (seqL (seqR (seqR (loopB (blockB (seqR (seqL (seqR (seqR (seqR c77)))))))))))))))))) True))) := by kernel_rfl
theorem r77_L0_ok (call : CallF) (fuel base : Nat) : LpOk E call (lp77 call fuel base) fuel base 0 (loopB (blockB (seqR (seqL (seqR (seqR (seqR c77))))))) := by
  refine loop_ok (kp := keep77) (hb := Eq.mpr (r77_L0_lk call fuel base) (And.intro trivial (And.intro (And.intro trivial trivial) (And.intro (And.intro trivial (And.intro trivial (r77_L2_ok call fuel base))) trivial)))) 71 [1, 6, 7, 15, 16, 17] (fun n vs m K => r77_L0_R call fuel base n vs m K) ?_ ?_ (fun _ _ _ => rfl)
  · intro vs m K
    unfold r77_L0_R
    split <;> rfl
  · intro n vs m K hl
    match vs, hl with
    | [x1, x6, x7, x15, x16, x17], _ => show _ = _; kernel_rfl
theorem r77_eq (call : CallF) (fuel base : Nat) (x0 : Value) (x1 : Value) (m : M) : kbody E call keep77 (lp77 call fuel base) base Try.f77 [x0, x1] m = r77 call fuel base x0 x1 m := by
  kernel_rfl
noncomputable def rf77 : RF := fun call fuel base args m => match args with
  | [x0, x1] => r77 call fuel base x0 x1 m
  | _ => none
theorem r77_lk (call : CallF) (fuel base : Nat) : LoopsOk E call (lp77 call fuel base) fuel base 0 c77 = (And True (And True (And True (And (And True (LpOk E call (lp77 call fuel base) fuel base 0 (loopB (blockB (seqR (seqL (seqR (seqR (seqR c77))))))))) (And True (And True True)))))) := by kernel_rfl
theorem r77_fn : E.P.funcs[77]? = some Try.f77 := by kernel_rfl
theorem r77_body : Try.f77.body = some c77 := by kernel_rfl
theorem rf77_ok : RFok E 77 rf77 := by
  refine ⟨Try.f77, r77_fn, fun call fuel base args m r _ h => ?_⟩
  unfold rf77 at h
  split at h
  · rw [← r77_eq] at h
    exact kbody_sound (c := c77) r77_body (Eq.mpr (r77_lk call fuel base) (And.intro trivial (And.intro trivial (And.intro trivial (And.intro (And.intro trivial (r77_L0_ok call fuel base)) (And.intro trivial (And.intro trivial trivial))))))) h
  · simp at h
end Go.AM
namespace Go.AM
open Go Go.Proofs
noncomputable def r78_L0 (call : CallF) (fuel base : Nat) (kx0 : Value → M → Res2) (n : Nat) : Value → Value → Value → Value → Value → M → Res2 :=
  Nat.rec (motive := fun _ => Value → Value → Value → Value → Value → M → Res2) (fun _ _ _ _ _ _ => none)
    (fun _ ih x1 x5 x11 x12 x13 m =>
      (k1 (mbin E .lss 3 x13 x12) fun v14_4 => (kb v14_4 (k1 (mindexAddr E.P 22 x11 x13) fun v16_5 => (k1 (xload E.P m 45 v16_5) fun v17_6 => (k2 (xalloc E.P m 45) fun v7_7 m => (ks (xstore E.P base m 45 v7_7 v17_6) fun m => (k1 (mfieldAddr E.P 45 v7_7 1) fun v19_8 => (k1 (xload E.P m 3 v19_8) fun v20_9 => (kc (kB m (call m.length 111 [x1, v20_9] m)) (fun v21_10 m => (k1 (mfieldAddr E.P 45 v7_7 3) fun v23_11 => (k1 (xload E.P m 3 v23_11) fun v24_12 => (kc (kB m (call m.length 111 [x1, v24_12] m)) (fun v25_13 m => (k1 (mfieldAddr E.P 45 v7_7 1) fun v26_14 => (ks (xstore E.P base m 3 v26_14 v21_10) fun m => (k1 (mfieldAddr E.P 45 v7_7 3) fun v27_15 => (ks (xstore E.P base m 3 v27_15 v25_13) fun m => (k1 (xload E.P m 45 v7_7) fun v30_16 => (k1 (mindexAddr E.P 22 x5 x13) fun v31_17 => (ks (xstore E.P base m 45 v31_17 v30_16) fun m => (k1 (mbin E .add 3 x13 (.int .i64 1)) fun v32_18 => (ih x1 x5 x11 x12 v32_18 m)))))))))) (fun _ _ => none))))) (fun _ _ => none)))))))) (kx0 x5 m)))) n
noncomputable def r78 (call : CallF) (fuel base : Nat) (x0 : Value) (x1 : Value) (m : M) : Res2 :=
  (k2 (vcall E.P base m .len [22] [x0]) fun v9_1 m => (k2 (xmakeSlice E.P m 22 v9_1 v9_1) fun v10_2 m => (k2 (vcall E.P base m .len [22] [x0]) fun v12_3 m => (r78_L0 call fuel base (fun y5_19 m => (fVal y5_19 fun v => some (.ret v, m))) fuel x1 v10_2 x0 v12_3 (.int .i64 0) m))))
def keep78 : Keep := { region := fun i => ([[0, 1], [0, 1, 5], [1, 5, 11, 12, 13], [1, 5, 11, 12, 13, 14], [1, 5, 6, 7, 11, 12, 13], [1, 5, 6, 7, 11, 12, 13], [1, 5, 11, 12, 13], [1, 5, 11, 12, 13], [4]] : List (List Nat))[i]?, exit := fun i => ([[5], [1, 5, 11, 12, 13]] : List (List Nat))[i]?, ret := some [4] }
noncomputable def r78_L0_R (call : CallF) (fuel base n : Nat) (vs : List Value) (m : M) (K : KT) : Res2 := match vs with
  | [x1, x5, x11, x12, x13] => r78_L0 call fuel base (fun y5 m => K (.exit 0) { n := 34, l := [(5, y5)] } m) n x1 x5 x11 x12 x13 m
  | _ => none
noncomputable def lp78 (call : CallF) (fuel base : Nat) : Lp := lpsel [(0, fun T m K => kslots 34 [1, 5, 11, 12, 13] T fun vs => r78_L0_R call fuel base fuel vs m K)]
noncomputable def c78 : Code := Try.f78.body.getD .skip
theorem r78_L0_lk (call : CallF) (fuel base : Nat) : LoopsOk E call (lp78 call fuel base) fuel base 0 (loopB (blockB (seqR (seqL (seqR (seqR c78)))))) = (And True (And (And True True) (And (And True (And True True)) True))) := by kernel_rfl
theorem r78_L0_ok (call : CallF) (fuel base : Nat) : LpOk E call (lp78 call fuel base) fuel base 0 (loopB (blockB (seqR (seqL (seqR (seqR c78)))))) := by
  refine loop_ok (kp := keep78) (hb := Eq.mpr (r78_L0_lk call fuel base) (And.intro trivial (And.intro (And.intro trivial trivial) (And.intro (And.intro trivial (And.intro trivial trivial)) trivial)))) 34 [1, 5, 11, 12, 13] (fun n vs m K => r78_L0_R call fuel base n vs m K) ?_ ?_ (fun _ _ _ => rfl)
  · intro vs m K
    unfold r78_L0_R
    split <;> rfl
  · intro n vs m K hl
    match vs, hl with
    | [x1, x5, x11, x12, x13], _ => show _ = _; kernel_rfl
theorem r78_eq (call : CallF) (fuel base : Nat) (x0 : Value) (x1 : Value) (m : M) : kbody E call keep78 (lp78 call fuel base) base Try.f78 [x0, x1] m = r78 call fuel base x0 x1 m := by
  kernel_rfl
noncomputable def rf78 : RF := fun call fuel base args m => match args with
  | [x0, x1] => r78 call fuel base x0 x1 m
  | _ => none
theorem r78_lk (call : CallF) (fuel base : Nat) : LoopsOk E call (lp78 call fuel base) fuel base 0 c78 = (And True (And True (And (And True (LpOk E call (lp78 call fuel base) fuel base 0 (loopB (blockB (seqR (seqL (seqR (seqR c78)))))))) (And True True)))) := by kernel_rfl
theorem r78_fn : E.P.funcs[78]? = some Try.f78 := by kernel_rfl
theorem r78_body : Try.f78.body = some c78 := by kernel_rfl
theorem rf78_ok : RFok E 78 rf78 := by
  refine ⟨Try.f78, r78_fn, fun call fuel base args m r _ h => ?_⟩
  unfold rf78 at h
  split at h
  · rw [← r78_eq] at h
    exact kbody_sound (c := c78) r78_body (Eq.mpr (r78_lk call fuel base) (And.intro trivial (And.intro trivial (And.intro (And.intro trivial (r78_L0_ok call fuel base)) (And.intro trivial trivial))))) h
  · simp at h
end Go.AM
namespace Go.AM
open Go Go.Proofs
noncomputable def r80 (call : CallF) (fuel base : Nat) (x0 : Value) (m : M) : Res2 :=
  (k1 (mbin E .leq 3 (.int .i64 1) x0) fun v4_1 => (kb v4_1 (k1 (mbin E .leq 3 x0 (.int .i64 4)) fun v7_2 => (fVal v7_2 fun v => some (.ret v, m))) (fVal (.bool false) fun v => some (.ret v, m))))
def keep80 : Keep := { region := fun i => ([[0], [2]] : List (List Nat))[i]?, exit := fun i => ([] : List (List Nat))[i]?, ret := some [2] }
noncomputable def lp80 (call : CallF) (fuel base : Nat) : Lp := lpsel []
noncomputable def c80 : Code := Try.f80.body.getD .skip
theorem r80_eq (call : CallF) (fuel base : Nat) (x0 : Value) (m : M) : kbody E call keep80 (lp80 call fuel base) base Try.f80 [x0] m = r80 call fuel base x0 m := by
  kernel_rfl
noncomputable def rf80 : RF := fun call fuel base args m => match args with
  | [x0] => r80 call fuel base x0 m
  | _ => none
theorem r80_lk (call : CallF) (fuel base : Nat) : LoopsOk E call (lp80 call fuel base) fuel base 0 c80 = (And True (And True True)) := by kernel_rfl
theorem r80_fn : E.P.funcs[80]? = some Try.f80 := by kernel_rfl
theorem r80_body : Try.f80.body = some c80 := by kernel_rfl
theorem rf80_ok : RFok E 80 rf80 := by
  refine ⟨Try.f80, r80_fn, fun call fuel base args m r _ h => ?_⟩
  unfold rf80 at h
  split at h
  · rw [← r80_eq] at h
    exact kbody_sound (c := c80) r80_body (Eq.mpr (r80_lk call fuel base) (And.intro trivial (And.intro trivial trivial))) h
  · simp at h
end Go.AM
namespace Go.AM
open Go Go.Proofs
noncomputable def r81 (call : CallF) (fuel base : Nat) (x0 : Value) (x1 : Value) (m : M) : Res2 :=
  (kc (call base 112 [x0, x1] m) (fun v7_1 m => (k1 (mbin E .geq 3 v7_1 (.int .i64 0)) fun v8_2 => (fVal v8_2 fun v => some (.ret v, m)))) (fun v m => some (.pan v, m)))
def keep81 : Keep := { region := fun i => ([[0, 1], [4]] : List (List Nat))[i]?, exit := fun i => ([] : List (List Nat))[i]?, ret := some [4] }
noncomputable def lp81 (call : CallF) (fuel base : Nat) : Lp := lpsel []
noncomputable def c81 : Code := Try.f81.body.getD .skip
theorem r81_eq (call : CallF) (fuel base : Nat) (x0 : Value) (x1 : Value) (m : M) : kbody E call keep81 (lp81 call fuel base) base Try.f81 [x0, x1] m = r81 call fuel base x0 x1 m := by
  kernel_rfl
noncomputable def rf81 : RF := fun call fuel base args m => match args with
  | [x0, x1] => r81 call fuel base x0 x1 m
  | _ => none
theorem r81_lk (call : CallF) (fuel base : Nat) : LoopsOk E call (lp81 call fuel base) fuel base 0 c81 = (And True (And True True)) := by kernel_rfl
theorem r81_fn : E.P.funcs[81]? = some Try.f81 := by kernel_rfl
theorem r81_body : Try.f81.body = some c81 := by kernel_rfl
theorem rf81_ok : RFok E 81 rf81 := by
  refine ⟨Try.f81, r81_fn, fun call fuel base args m r _ h => ?_⟩
  unfold rf81 at h
  split at h
  · rw [← r81_eq] at h
    exact kbody_sound (c := c81) r81_body (Eq.mpr (r81_lk call fuel base) (And.intro trivial (And.intro trivial trivial))) h
  · simp at h
end Go.AM
namespace Go.AM
open Go Go.Proofs
noncomputable def r82 (call : CallF) (fuel base : Nat) (x0 : Value) (m : M) : Res2 :=
  (k1 (mbin E .lss 3 x0 (.int .i64 0)) fun v4_1 => (kb v4_1 (fVal (.bool true) fun v => some (.ret v, m)) (k1 (mbin E .geq 3 x0 (.int .i64 8)) fun v7_2 => (fVal v7_2 fun v => some (.ret v, m)))))
def keep82 : Keep := { region := fun i => ([[0], [2]] : List (List Nat))[i]?, exit := fun i => ([] : List (List Nat))[i]?, ret := some [2] }
noncomputable def lp82 (call : CallF) (fuel base : Nat) : Lp := lpsel []
noncomputable def c82 : Code := Try.f82.body.getD .skip
theorem r82_eq (call : CallF) (fuel base : Nat) (x0 : Value) (m : M) : kbody E call keep82 (lp82 call fuel base) base Try.f82 [x0] m = r82 call fuel base x0 m := by
  kernel_rfl
noncomputable def rf82 : RF := fun call fuel base args m => match args with
  | [x0] => r82 call fuel base x0 m
  | _ => none
theorem r82_lk (call : CallF) (fuel base : Nat) : LoopsOk E call (lp82 call fuel base) fuel base 0 c82 = (And True (And True True)) := by kernel_rfl
theorem r82_fn : E.P.funcs[82]? = some Try.f82 := by kernel_rfl
theorem r82_body : Try.f82.body = some c82 := by kernel_rfl
theorem rf82_ok : RFok E 82 rf82 := by
  refine ⟨Try.f82, r82_fn, fun call fuel base args m r _ h => ?_⟩
  unfold rf82 at h
  split at h
  · rw [← r82_eq] at h
    exact kbody_sound (c := c82) r82_body (Eq.mpr (r82_lk call fuel base) (And.intro trivial (And.intro trivial trivial))) h
  · simp at h
end Go.AM
namespace Go.AM
open Go Go.Proofs
noncomputable def r83_L0 (call : CallF) (fuel base : Nat) (kx0 : Value → Value → M → Res2) (n : Nat) : Value → Value → Value → Value → Value → M → Res2 :=
  Nat.rec (motive := fun _ => Value → Value → Value → Value → Value → M → Res2) (fun _ _ _ _ _ _ => none)
    (fun _ ih x3 x5 x15 x16 x17 m =>
      (k1 (mbin E .lss 3 x17 x16) fun v18_6 => (kb v18_6 (k1 (mindexAddr E.P 74 x15 x17) fun v19_7 => (k1 (xload E.P m 109 v19_7) fun v20_8 => (k2 (xalloc E.P m 109) fun v7_9 m => (ks (xstore E.P base m 109 v7_9 v20_8) fun m => (k1 (mfieldAddr E.P 109 v7_9 2) fun v22_10 => (k1 (xload E.P m 3 v22_10) fun v23_11 => (k2 (xbuildSlice E.P m 33 1 [(0, v23_11)]) fun v24_12 m => (k2 (vcall E.P base m .append [33, 33] [x5, v24_12]) fun v25_13 m => (k1 (mbin E .add 3 x17 (.int .i64 1)) fun v26_14 => (ih x3 v25_13 x15 x16 v26_14 m)))))))))) (kx0 x3 x5 m)))) n
noncomputable def r83_L2 (call : CallF) (fuel base : Nat) (kp : Value → M → Res2) (kx2 : Value → M → Res2) (n : Nat) : Value → Value → Value → Value → Value → M → Res2 :=
  Nat.rec (motive := fun _ => Value → Value → Value → Value → Value → M → Res2) (fun _ _ _ _ _ _ => none)
    (fun _ ih x3 x8 x30 x31 x32 m =>
      (k1 (mbin E .lss 3 x32 x31) fun v33_20 => (kb v33_20 (k1 (mindexAddr E.P 33 x30 x32) fun v34_21 => (k1 (xload E.P m 3 v34_21) fun v35_22 => (k1 (xload E.P m 33 x3) fun v38_23 => (k2 (vcall E.P base m .len [33] [v38_23]) fun v39_24 m => (kc (call base 107 [v35_22, v39_24] m) (fun v40_25 m => (k2 (xbuildSlice E.P m 23 1 [(0, v40_25)]) fun v41_26 m => (k2 (vcall E.P base m .append [23, 23] [x8, v41_26]) fun v42_27 m => (k1 (mbin E .add 3 x32 (.int .i64 1)) fun v43_28 => (ih x3 v42_27 x30 x31 v43_28 m))))) (fun v m => kp v m)))))) (kx2 x8 m)))) n
noncomputable def r83 (call : CallF) (fuel base : Nat) (x0 : Value) (x1 : Value) (m : M) : Res2 :=
  (k2 (xbox m x1) fun v3_1 m => (k1 (xload E.P m 33 v3_1) fun v12_2 => (k2 (vcall E.P base m .len [33] [v12_2]) fun v13_3 m => (kc (call base 92 [x0, v13_3, (.func (.func 113) #[] #[v3_1])] m) (fun v15_4 m => (k2 (vcall E.P base m .len [74] [v15_4]) fun v16_5 m => (r83_L0 call fuel base (fun y3_15 y5_16 m => (kc (call base 109 [y5_16] m) (fun v28_17 m => (kc (call base 110 [y5_16] m) (fun v30_18 m => (k2 (vcall E.P base m .len [33] [v30_18]) fun v31_19 m => (r83_L2 call fuel base (fun v m => some (.pan v, m)) (fun y8_29 m => (fVal y8_29 fun v => some (.ret v, m))) fuel y3_15 (.slice none 0 0) v30_18 v31_19 (.int .i64 0) m))) (fun v m => some (.pan v, m)))) (fun v m => some (.pan v, m)))) fuel v3_1 (.slice none 0 0) v15_4 v16_5 (.int .i64 0) m))) (fun v m => some (.pan v, m))))))
def keep83 : Keep := { region := fun i => ([[0, 3], [0, 3, 5], [3, 5, 15, 16, 17], [3, 5, 15, 16, 17, 18], [3, 5, 7, 15, 16, 17], [3, 5, 15, 16, 17], [3, 5, 15, 16, 17], [3, 5], [3, 5, 8], [3, 8, 30, 31, 32], [3, 8, 30, 31, 32, 33], [3, 8, 10, 30, 31, 32], [3, 8, 30, 31, 32], [3, 8, 30, 31, 32], [4]] : List (List Nat))[i]?, exit := fun i => ([[3, 5], [3, 5, 15, 16, 17], [8], [3, 8, 30, 31, 32]] : List (List Nat))[i]?, ret := some [4] }
noncomputable def r83_L0_R (call : CallF) (fuel base n : Nat) (vs : List Value) (m : M) (K : KT) : Res2 := match vs with
  | [x3, x5, x15, x16, x17] => r83_L0 call fuel base (fun y3 y5 m => K (.exit 0) { n := 45, l := [(3, y3), (5, y5)] } m) n x3 x5 x15 x16 x17 m
  | _ => none
noncomputable def r83_L2_R (call : CallF) (fuel base n : Nat) (vs : List Value) (m : M) (K : KT) : Res2 := match vs with
  | [x3, x8, x30, x31, x32] => r83_L2 call fuel base (fun v m => K (.pan v) { n := 45, l := [] } m) (fun y8 m => K (.exit 2) { n := 45, l := [(8, y8)] } m) n x3 x8 x30 x31 x32 m
  | _ => none
noncomputable def lp83 (call : CallF) (fuel base : Nat) : Lp := lpsel [(0, fun T m K => kslots 45 [3, 5, 15, 16, 17] T fun vs => r83_L0_R call fuel base fuel vs m K), (2, fun T m K => kslots 45 [3, 8, 30, 31, 32] T fun vs => r83_L2_R call fuel base fuel vs m K)]
noncomputable def c83 : Code := Try.f83.body.getD .skip
theorem r83_L0_lk (call : CallF) (fuel base : Nat) : LoopsOk E call (lp83 call fuel base) fuel base 0 (loopB (blockB (seqR (seqL (seqR (seqR c83)))))) = (And True (And (And True True) (And (And True True) True))) := by kernel_rfl
theorem r83_L0_ok (call : CallF) (fuel base : Nat) : LpOk E call (lp83 call fuel base) fuel base 0 (loopB (blockB (seqR (seqL (seqR (seqR c83)))))) := by
  refine loop_ok (kp := keep83) (hb := Eq.mpr (r83_L0_lk call fuel base) (And.intro trivial (And.intro (And.intro trivial trivial) (And.intro (And.intro trivial trivial) trivial)))) 45 [3, 5, 15, 16, 17] (fun n vs m K => r83_L0_R call fuel base n vs m K) ?_ ?_ (fun _ _ _ => rfl)
  · intro vs m K
    unfold r83_L0_R
    split <;> rfl
  · intro n vs m K hl
    match vs, hl with
    | [x3, x5, x15, x16, x17], _ => show _ = _; kernel_rfl
theorem r83_L2_lk (call : CallF) (fuel base : Nat) : LoopsOk E call (lp83 call fuel base) fuel base 2 (loopB (blockB (seqR (seqL (seqR (seqR (seqR (seqR (seqR c83))))))))) = (And True (And (And True True) (And (And True True) True))) := by kernel_rfl
theorem r83_L2_ok (call : CallF) (fuel base : Nat) : LpOk E call (lp83 call fuel base) fuel base 2 (loopB (blockB (seqR (seqL (seqR (seqR (seqR (seqR (seqR c83))))))))) := by
  refine loop_ok (kp := keep83) (hb := Eq.mpr (r83_L2_lk call fuel base) (And.intro trivial (And.intro (And.intro trivial trivial) (And.intro (And.intro trivial trivial) trivial)))) 45 [3, 8, 30, 31, 32] (fun n vs m K => r83_L2_R call fuel base n vs m K) ?_ ?_ (fun _ _ _ => rfl)
  · intro vs m K
    unfold r83_L2_R
    split <;> rfl
  · intro n vs m K hl
    match vs, hl with
    | [x3, x8, x30, x31, x32], _ => show _ = _; kernel_rfl
theorem r83_eq (call : CallF) (fuel base : Nat) (x0 : Value) (x1 : Value) (m : M) : kbody E call keep83 (lp83 call fuel base) base Try.f83 [x0, x1] m = r83 call fuel base x0 x1 m := by
  kernel_rfl
noncomputable def rf83 : RF := fun call fuel base args m => match args with
  | [x0, x1] => r83 call fuel base x0 x1 m
  | _ => none
theorem r83_lk (call : CallF) (fuel base : Nat) : LoopsOk E call (lp83 call fuel base) fuel base 0 c83 = (And True (And True (And (And True (LpOk E call (lp83 call fuel base) fuel base 0 (loopB (blockB (seqR (seqL (seqR (seqR c83)))))))) (And True (And True (And (And True (LpOk E call (lp83 call fuel base) fuel base 2 (loopB (blockB (seqR (seqL (seqR (seqR (seqR (seqR (seqR c83))))))))))) (And True True))))))) := by kernel_rfl
theorem r83_fn : E.P.funcs[83]? = some Try.f83 := by kernel_rfl
theorem r83_body : Try.f83.body = some c83 := by kernel_rfl
theorem rf83_ok : RFok E 83 rf83 := by
  refine ⟨Try.f83, r83_fn, fun call fuel base args m r _ h => ?_⟩
  unfold rf83 at h
  split at h
  · rw [← r83_eq] at h
    exact kbody_sound (c := c83) r83_body (Eq.mpr (r83_lk call fuel base) (And.intro trivial (And.intro trivial (And.intro (And.intro trivial (r83_L0_ok call fuel base)) (And.intro trivial (And.intro trivial (And.intro (And.intro trivial (r83_L2_ok call fuel base)) (And.intro trivial trivial)))))))) h
  · simp at h
end Go.AM
namespace Go.AM
open Go Go.Proofs
noncomputable def r84 (call : CallF) (fuel base : Nat) (x0 : Value) (x1 : Value) (m : M) : Res2 :=
  (k2 (xbox m x1) fun v3_1 m => (k1 (xload E.P m 45 v3_1) fun v6_2 => (kc (call base 114 [x0, v6_2] m) (fun v7_3 m => (k1 (mbin E .geq 3 v7_3 (.int .i64 0)) fun v8_4 => (fVal v8_4 fun v => some (.ret v, m)))) (fun v m => some (.pan v, m)))))
def keep84 : Keep := { region := fun i => ([[0, 3], [4]] : List (List Nat))[i]?, exit := fun i => ([] : List (List Nat))[i]?, ret := some [4] }
noncomputable def lp84 (call : CallF) (fuel base : Nat) : Lp := lpsel []
noncomputable def c84 : Code := Try.f84.body.getD .skip
theorem r84_eq (call : CallF) (fuel base : Nat) (x0 : Value) (x1 : Value) (m : M) : kbody E call keep84 (lp84 call fuel base) base Try.f84 [x0, x1] m = r84 call fuel base x0 x1 m := by
  kernel_rfl
noncomputable def rf84 : RF := fun call fuel base args m => match args with
  | [x0, x1] => r84 call fuel base x0 x1 m
  | _ => none
theorem r84_lk (call : CallF) (fuel base : Nat) : LoopsOk E call (lp84 call fuel base) fuel base 0 c84 = (And True (And True True)) := by kernel_rfl
theorem r84_fn : E.P.funcs[84]? = some Try.f84 := by kernel_rfl
theorem r84_body : Try.f84.body = some c84 := by kernel_rfl
theorem rf84_ok : RFok E 84 rf84 := by
  refine ⟨Try.f84, r84_fn, fun call fuel base args m r _ h => ?_⟩
  unfold rf84 at h
  split at h
  · rw [← r84_eq] at h
    exact kbody_sound (c := c84) r84_body (Eq.mpr (r84_lk call fuel base) (And.intro trivial (And.intro trivial trivial))) h
  · simp at h
end Go.AM
namespace Go.AM
open Go Go.Proofs
noncomputable def r91_L0 (call : CallF) (fuel base : Nat) (kp : Value → M → Res2) (kr : Value → M → Res2) (kx0 : Value → Value → M → Res2) (n : Nat) : Value → Value → Value → Value → Value → M → Res2 :=
  Nat.rec (motive := fun _ => Value → Value → Value → Value → Value → M → Res2) (fun _ _ _ _ _ _ => none)
    (fun _ ih x0 x1 x9 x10 x11 m =>
      (k1 (mbin E .lss 3 x11 x10) fun v12_2 => (kb v12_2 (k1 (mindexAddr E.P 33 x9 x11) fun v14_3 => (k1 (xload E.P m 3 v14_3) fun v15_4 => (k2 (vcall E.P base m .len [33] [x1]) fun v18_5 m => (k1 (mbin E .geq 3 x11 v18_5) fun v19_6 => (kb v19_6 (kr (.int .i64 1) m) (k1 (mindexAddr E.P 33 x1 x11) fun v22_7 => (k1 (xload E.P m 3 v22_7) fun v23_8 => (kc (call base 115 [v15_4, v23_8] m) (fun v26_9 m => (k1 (mbin E .neq 3 v26_9 (.int .i64 0)) fun v28_10 => (kb v28_10 (kr v26_9 m) (k1 (mbin E .add 3 x11 (.int .i64 1)) fun v30_11 => (ih x0 x1 x9 x10 v30_11 m))))) (fun v m => kp v m))))))))) (kx0 x0 x1 m)))) n
noncomputable def r91 (call : CallF) (fuel base : Nat) (x0 : Value) (x1 : Value) (m : M) : Res2 :=
  (k2 (vcall E.P base m .len [33] [x0]) fun v10_1 m => (r91_L0 call fuel base (fun v m => some (.pan v, m)) (fun y4_12 m => (fVal y4_12 fun v => some (.ret v, m))) (fun y0_13 y1_14 m => (k2 (vcall E.P base m .len [33] [y0_13]) fun v32_15 m => (k2 (vcall E.P base m .len [33] [y1_14]) fun v34_16 m => (k1 (mbin E .lss 3 v32_15 v34_16) fun v35_17 => (kb v35_17 (fVal (.int .i64 (-1)) fun v => some (.ret v, m)) (fVal (.int .i64 0) fun v => some (.ret v, m))))))) fuel x0 x1 x0 v10_1 (.int .i64 0) m))
def keep91 : Keep := { region := fun i => ([[0, 1], [0, 1, 9, 10, 11], [0, 1, 9, 10, 11, 12], [0, 1, 5, 6, 9, 10, 11], [0, 1, 5, 6, 9, 10, 11, 19], [4], [0, 1, 6, 7, 9, 10, 11], [0, 1, 8, 9, 10, 11], [0, 1, 8, 9, 10, 11, 28], [4], [0, 1, 9, 10, 11], [35], [4], [4]] : List (List Nat))[i]?, exit := fun i => ([[0, 1], [0, 1, 9, 10, 11]] : List (List Nat))[i]?, ret := some [4] }
noncomputable def r91_L0_R (call : CallF) (fuel base n : Nat) (vs : List Value) (m : M) (K : KT) : Res2 := match vs with
  | [x0, x1, x9, x10, x11] => r91_L0 call fuel base (fun v m => K (.pan v) { n := 36, l := [] } m) (fun y4 m => K .ret { n := 36, l := [(4, y4)] } m) (fun y0 y1 m => K (.exit 0) { n := 36, l := [(0, y0), (1, y1)] } m) n x0 x1 x9 x10 x11 m
  | _ => none
noncomputable def lp91 (call : CallF) (fuel base : Nat) : Lp := lpsel [(0, fun T m K => kslots 36 [0, 1, 9, 10, 11] T fun vs => r91_L0_R call fuel base fuel vs m K)]
noncomputable def c91 : Code := Try.f91.body.getD .skip
theorem r91_L0_lk (call : CallF) (fuel base : Nat) : LoopsOk E call (lp91 call fuel base) fuel base 0 (loopB (blockB (seqR (seqL (seqR c91))))) = (And True (And (And True True) (And (And True (And (And True (And (And True True) True)) (And True (And True (And True (And (And True True) True)))))) True))) := by kernel_rfl
theorem r91_L0_ok (call : CallF) (fuel base : Nat) : LpOk E call (lp91 call fuel base) fuel base 0 (loopB (blockB (seqR (seqL (seqR c91))))) := by
  refine loop_ok (kp := keep91) (hb := Eq.mpr (r91_L0_lk call fuel base) (And.intro trivial (And.intro (And.intro trivial trivial) (And.intro (And.intro trivial (And.intro (And.intro trivial (And.intro (And.intro trivial trivial) trivial)) (And.intro trivial (And.intro trivial (And.intro trivial (And.intro (And.intro trivial trivial) trivial)))))) trivial)))) 36 [0, 1, 9, 10, 11] (fun n vs m K => r91_L0_R call fuel base n vs m K) ?_ ?_ (fun _ _ _ => rfl)
  · intro vs m K
    unfold r91_L0_R
    split <;> rfl
  · intro n vs m K hl
    match vs, hl with
    | [x0, x1, x9, x10, x11], _ => show _ = _; kernel_rfl
theorem r91_eq (call : CallF) (fuel base : Nat) (x0 : Value) (x1 : Value) (m : M) : kbody E call keep91 (lp91 call fuel base) base Try.f91 [x0, x1] m = r91 call fuel base x0 x1 m := by
  kernel_rfl
noncomputable def rf91 : RF := fun call fuel base args m => match args with
  | [x0, x1] => r91 call fuel base x0 x1 m
  | _ => none
theorem r91_lk (call : CallF) (fuel base : Nat) : LoopsOk E call (lp91 call fuel base) fuel base 0 c91 = (And True (And (And True (LpOk E call (lp91 call fuel base) fuel base 0 (loopB (blockB (seqR (seqL (seqR c91))))))) (And (And True (And (And True True) True)) (And True True)))) := by kernel_rfl
theorem r91_fn : E.P.funcs[91]? = some Try.f91 := by kernel_rfl
theorem r91_body : Try.f91.body = some c91 := by kernel_rfl
theorem rf91_ok : RFok E 91 rf91 := by
  refine ⟨Try.f91, r91_fn, fun call fuel base args m r _ h => ?_⟩
  unfold rf91 at h
  split at h
  · rw [← r91_eq] at h
    exact kbody_sound (c := c91) r91_body (Eq.mpr (r91_lk call fuel base) (And.intro trivial (And.intro (And.intro trivial (r91_L0_ok call fuel base)) (And.intro (And.intro trivial (And.intro (And.intro trivial trivial) trivial)) (And.intro trivial trivial))))) h
  · simp at h
end Go.AM
namespace Go.AM
open Go Go.Proofs
noncomputable def r92_L4 (call : CallF) (fuel base : Nat) (kp : Value → M → Res2) (kx4 : Value → Value → Value → Value → Value → Value → Value → Value → Value → M → Res2) (n : Nat) : Value → Value → Value → Value → Value → Value → Value → Value → Value → Value → Value → Value → Value → M → Res2 :=
  Nat.rec (motive := fun _ => Value → Value → Value → Value → Value → Value → Value → Value → Value → Value → Value → Value → Value → M → Res2) (fun _ _ _ _ _ _ _ _ _ _ _ _ _ _ => none)
    (fun _ ih x0 x2 x8 x9 x11 x16 x17 x20 x21 x22 x26 x27 x28 m =>
      (k1 (mbin E .lss 3 x28 x27) fun v29_10 => (kb v29_10 (k1 (mindexAddr E.P 22 x26 x28) fun v31_11 => (k1 (xload E.P m 45 v31_11) fun v32_12 => (k2 (xalloc E.P m 45) fun v13_13 m => (ks (xstore E.P base m 45 v13_13 v32_12) fun m => (k1 (xload E.P m 45 v13_13) fun v35_14 => (kc (kv call base x2 [x8, v35_14] m) (fun v36_15 m => (kb v36_15 (k1 (mbin E .eql 3 x8 (.int .i64 0)) fun v39_16 => (kbu v39_16 (k1 (xload E.P m 109 x11) fun v49_17 => (k1 (xload E.P m 45 v13_13) fun v52_18 => (kc (call base 116 [v49_17, x8, x28, v52_18] m) (fun v53_19 m => (k2 (xbuildSlice E.P m 74 1 [(0, v53_19)]) fun v54_20 m => (k2 (vcall E.P base m .append [74, 74] [x9, v54_20]) fun v55_21 m => (k1 (mbin E .add 3 x28 (.int .i64 1)) fun v56_22 => (ih x0 x2 x8 v55_21 x11 x16 x17 x20 x21 x22 x26 x27 v56_22 m))))) (fun v m => kp v m)))) (k1 (mfieldAddr E.P 109 x11 4) fun v41_23 => (k1 (xload E.P m 3 v41_23) fun v42_24 => (k1 (mfieldAddr E.P 45 v13_13 3) fun v43_25 => (k1 (xload E.P m 3 v43_25) fun v44_26 => (k1 (mbin E .eql 3 v42_24 v44_26) fun v45_27 => (kb v45_27 (k1 (xload E.P m 109 x11) fun v49_28 => (k1 (xload E.P m 45 v13_13) fun v52_29 => (kc (call base 116 [v49_28, x8, x28, v52_29] m) (fun v53_30 m => (k2 (xbuildSlice E.P m 74 1 [(0, v53_30)]) fun v54_31 m => (k2 (vcall E.P base m .append [74, 74] [x9, v54_31]) fun v55_32 m => (k1 (mbin E .add 3 x28 (.int .i64 1)) fun v56_33 => (ih x0 x2 x8 v55_32 x11 x16 x17 x20 x21 x22 x26 x27 v56_33 m))))) (fun v m => kp v m)))) (k1 (mbin E .add 3 x28 (.int .i64 1)) fun v56_34 => (ih x0 x2 x8 x9 x11 x16 x17 x20 x21 x22 x26 x27 v56_34 m)))))))) (k0 (mpick undef (.bool true) undef) fun v46_35 => (kb v46_35 (k1 (xload E.P m 109 x11) fun v49_36 => (k1 (xload E.P m 45 v13_13) fun v52_37 => (kc (call base 116 [v49_36, x8, x28, v52_37] m) (fun v53_38 m => (k2 (xbuildSlice E.P m 74 1 [(0, v53_38)]) fun v54_39 m => (k2 (vcall E.P base m .append [74, 74] [x9, v54_39]) fun v55_40 m => (k1 (mbin E .add 3 x28 (.int .i64 1)) fun v56_41 => (ih x0 x2 x8 v55_40 x11 x16 x17 x20 x21 x22 x26 x27 v56_41 m))))) (fun v m => kp v m)))) (k1 (mbin E .add 3 x28 (.int .i64 1)) fun v56_42 => (ih x0 x2 x8 x9 x11 x16 x17 x20 x21 x22 x26 x27 v56_42 m)))))) (k1 (mbin E .add 3 x28 (.int .i64 1)) fun v56_43 => (ih x0 x2 x8 x9 x11 x16 x17 x20 x21 x22 x26 x27 v56_43 m)))) (fun v m => kp v m))))))) (kx4 x0 x2 x8 x9 x16 x17 x20 x21 x22 m)))) n
noncomputable def r92_L2 (call : CallF) (fuel base : Nat) (kp : Value → M → Res2) (kx2 : Value → Value → Value → Value → Value → M → Res2) (n : Nat) : Value → Value → Value → Value → Value → Value → Value → Value → Value → M → Res2 :=
  Nat.rec (motive := fun _ => Value → Value → Value → Value → Value → Value → Value → Value → Value → M → Res2) (fun _ _ _ _ _ _ _ _ _ _ => none)
    (fun _ ih x0 x2 x8 x9 x16 x17 x20 x21 x22 m =>
      (k1 (mbin E .lss 3 x22 x21) fun v23_5 => (kb v23_5 (k1 (mindexAddr E.P 74 x20 x22) fun v24_6 => (k1 (xload E.P m 109 v24_6) fun v25_7 => (k2 (xalloc E.P m 109) fun v11_8 m => (ks (xstore E.P base m 109 v11_8 v25_7) fun m => (k2 (vcall E.P base m .len [22] [x0]) fun v27_9 m => (r92_L4 call fuel base (fun v m => kp v m) (fun y0_44 y2_45 y8_46 y9_47 y16_48 y17_49 y20_50 y21_51 y22_52 m => (k1 (mbin E .add 3 y22_52 (.int .i64 1)) fun v57_53 => (ih y0_44 y2_45 y8_46 y9_47 y16_48 y17_49 y20_50 y21_51 v57_53 m))) fuel x0 x2 x8 x9 v11_8 x16 x17 x20 x21 x22 x0 v27_9 (.int .i64 0) m)))))) (kx2 x0 x2 x9 x16 x17 m)))) n
noncomputable def r92_L0 (call : CallF) (fuel base : Nat) (kp : Value → M → Res2) (kx0 : Value → M → Res2) (n : Nat) : Value → Value → Value → Value → Value → M → Res2 :=
  Nat.rec (motive := fun _ => Value → Value → Value → Value → Value → M → Res2) (fun _ _ _ _ _ _ => none)
    (fun _ ih x0 x2 x7 x16 x17 m =>
      (k1 (mbin E .lss 3 x17 x16) fun v18_3 => (kb v18_3 (k2 (vcall E.P base m .len [74] [x7]) fun v21_4 m => (r92_L2 call fuel base (fun v m => kp v m) (fun y0_54 y2_55 y9_56 y16_57 y17_58 m => (k1 (mbin E .add 3 y17_58 (.int .i64 1)) fun v59_59 => (ih y0_54 y2_55 y9_56 y16_57 v59_59 m))) fuel x0 x2 x17 (.slice none 0 0) x16 x17 x7 v21_4 (.int .i64 0) m)) (kx0 x7 m)))) n
noncomputable def r92 (call : CallF) (fuel base : Nat) (x0 : Value) (x1 : Value) (x2 : Value) (m : M) : Res2 :=
  (k1 (mbuild E.P 109 []) fun v14_1 => (k2 (xbuildSlice E.P m 74 1 [(0, v14_1)]) fun v15_2 m => (r92_L0 call fuel base (fun v m => some (.pan v, m)) (fun y7_60 m => (fVal y7_60 fun v => some (.ret v, m))) fuel x0 x2 v15_2 x1 (.int .i64 0) m)))
def keep92 : Keep := { region := fun i => ([[0, 1, 2], [0, 1, 2, 7], [0, 2, 7, 16, 17], [0, 2, 7, 16, 17, 18], [0, 2, 7, 8, 16, 17], [0, 2, 7, 8, 9, 16, 17], [0, 2, 8, 9, 16, 17, 20, 21, 22], [0, 2, 8, 9, 16, 17, 20, 21, 22, 23], [0, 2, 8, 9, 11, 16, 17, 20, 21, 22], [0, 2, 8, 9, 11, 16, 17, 20, 21, 22, 26, 27, 28], [0, 2, 8, 9, 11, 16, 17, 20, 21, 22, 26, 27, 28, 29], [0, 2, 8, 9, 11, 12, 13, 16, 17, 20, 21, 22, 26, 27, 28], [0, 2, 8, 9, 11, 12, 13, 16, 17, 20, 21, 22, 26, 27, 28, 47], [0, 2, 8, 9, 11, 16, 17, 20, 21, 22, 26, 27, 28], [0, 2, 8, 9, 11, 16, 17, 20, 21, 22, 26, 27, 28], [0, 2, 8, 9, 16, 17, 20, 21, 22], [0, 2, 7, 16, 17], [0, 2, 7, 16, 17], [6]] : List (List Nat))[i]?, exit := fun i => ([[7], [0, 2, 7, 16, 17], [0, 2, 9, 16, 17], [0, 2, 8, 9, 16, 17, 20, 21, 22], [0, 2, 8, 9, 16, 17, 20, 21, 22], [0, 2, 8, 9, 11, 16, 17, 20, 21, 22, 26, 27, 28]] : List (List Nat))[i]?, ret := some [6] }
noncomputable def r92_L4_R (call : CallF) (fuel base n : Nat) (vs : List Value) (m : M) (K : KT) : Res2 := match vs with
  | [x0, x2, x8, x9, x11, x16, x17, x20, x21, x22, x26, x27, x28] => r92_L4 call fuel base (fun v m => K (.pan v) { n := 61, l := [] } m) (fun y0 y2 y8 y9 y16 y17 y20 y21 y22 m => K (.exit 4) { n := 61, l := [(0, y0), (2, y2), (8, y8), (9, y9), (16, y16), (17, y17), (20, y20), (21, y21), (22, y22)] } m) n x0 x2 x8 x9 x11 x16 x17 x20 x21 x22 x26 x27 x28 m
  | _ => none
noncomputable def r92_L2_R (call : CallF) (fuel base n : Nat) (vs : List Value) (m : M) (K : KT) : Res2 := match vs with
  | [x0, x2, x8, x9, x16, x17, x20, x21, x22] => r92_L2 call fuel base (fun v m => K (.pan v) { n := 61, l := [] } m) (fun y0 y2 y9 y16 y17 m => K (.exit 2) { n := 61, l := [(0, y0), (2, y2), (9, y9), (16, y16), (17, y17)] } m) n x0 x2 x8 x9 x16 x17 x20 x21 x22 m
  | _ => none
noncomputable def r92_L0_R (call : CallF) (fuel base n : Nat) (vs : List Value) (m : M) (K : KT) : Res2 := match vs with
  | [x0, x2, x7, x16, x17] => r92_L0 call fuel base (fun v m => K (.pan v) { n := 61, l := [] } m) (fun y7 m => K (.exit 0) { n := 61, l := [(7, y7)] } m) n x0 x2 x7 x16 x17 m
  | _ => none
noncomputable def lp92 (call : CallF) (fuel base : Nat) : Lp := lpsel [(4, fun T m K => kslots 61 [0, 2, 8, 9, 11, 16, 17, 20, 21, 22, 26, 27, 28] T fun vs => r92_L4_R call fuel base fuel vs m K), (2, fun T m K => kslots 61 [0, 2, 8, 9, 16, 17, 20, 21, 22] T fun vs => r92_L2_R call fuel base fuel vs m K), (0, fun T m K => kslots 61 [0, 2, 7, 16, 17] T fun vs => r92_L0_R call fuel base fuel vs m K)]
noncomputable def c92 : Code := Try.f92.body.getD .skip
theorem r92_L4_lk (call : CallF) (fuel base : Nat) : LoopsOk E call (lp92 call fuel base) fuel base 4 (loopB (blockB (seqR (seqR (blockB (seqL (seqR (seqR (loopB (blockB (seqR (seqL (seqR (seqR (blockB (seqL (seqR (seqR (loopB (blockB (seqR (seqL (seqR (seqR c92)))))))))))))))))))))))) = (And True (And (And True True) (And (And True (And True (And True True))) True))) := by kernel_rfl
theorem r92_L4_ok (call : CallF) (fuel base : Nat) : LpOk E call (lp92 call fuel base) fuel base 4 (loopB (blockB (seqR (seqR (blockB (seqL (seqR (seqR (loopB (blockB (seqR (seqL (seqR (seqR (blockB (seqL (seqR (seqR (loopB (blockB (seqR (seqL (seqR (seqR c92)))))))))))))))))))))))) := by
  refine loop_ok (kp := keep92) (hb := Eq.mpr (r92_L4_lk call fuel base) (And.intro trivial (And.intro (And.intro trivial trivial) (And.intro (And.intro trivial (And.intro trivial (And.intro trivial trivial))) trivial)))) 61 [0, 2, 8, 9, 11, 16, 17, 20, 21, 22, 26, 27, 28] (fun n vs m K => r92_L4_R call fuel base n vs m K) ?_ ?_ (fun _ _ _ => rfl)
  · intro vs m K
    unfold r92_L4_R
    split <;> rfl
  · intro n vs m K hl
    match vs, hl with
    | [x0, x2, x8, x9, x11, x16, x17, x20, x21, x22, x26, x27, x28], _ => show _ = _; kernel_rfl
theorem r92_L2_lk (call : CallF) (fuel base : Nat) : LoopsOk E call (lp92 call fuel base) fuel base 2 (loopB (blockB (seqR (seqL (seqR (seqR (blockB (seqL (seqR (seqR (loopB (blockB (seqR (seqL (seqR (seqR c92)))))))))))))))) = (And True (And (And True True) (And (And True (And True (LpOk E call (lp92 call fuel base) fuel base 4 (loopB (blockB (seqR (seqR (blockB (seqL (seqR (seqR (loopB (blockB (seqR (seqL (seqR (seqR (blockB (seqL (seqR (seqR (loopB (blockB (seqR (seqL (seqR (seqR c92))))))))))))))))))))))))))) True))) := by kernel_rfl
theorem r92_L2_ok (call : CallF) (fuel base : Nat) : LpOk E call (lp92 call fuel base) fuel base 2 (loopB (blockB (seqR (seqL (seqR (seqR (blockB (seqL (seqR (seqR (loopB (blockB (seqR (seqL (seqR (seqR c92)))))))))))))))) := by
  refine loop_ok (kp := keep92) (hb := Eq.mpr (r92_L2_lk call fuel base) (And.intro trivial (And.intro (And.intro trivial trivial) (And.intro (And.intro trivial (And.intro trivial (r92_L4_ok call fuel base))) trivial)))) 61 [0, 2, 8, 9, 16, 17, 20, 21, 22] (fun n vs m K => r92_L2_R call fuel base n vs m K) ?_ ?_ (fun _ _ _ => rfl)
  · intro vs m K
    unfold r92_L2_R
    split <;> rfl
  · intro n vs m K hl
    match vs, hl with
    | [x0, x2, x8, x9, x16, x17, x20, x21, x22], _ => show _ = _; kernel_rfl
theorem r92_L0_lk (call : CallF) (fuel base : Nat) : LoopsOk E call (lp92 call fuel base) fuel base 0 (loopB (blockB (seqR (seqL (seqR (seqR c92)))))) = (And True (And (And True True) (And (And True (And True (And (And True (LpOk E call (lp92 call fuel base) fuel base 2 (loopB (blockB (seqR (seqL (seqR (seqR (blockB (seqL (seqR (seqR (loopB (blockB (seqR (seqL (seqR (seqR c92)))))))))))))))))) True))) True))) := by kernel_rfl
theorem r92_L0_ok (call : CallF) (fuel base : Nat) : LpOk E call (lp92 call fuel base) fuel base 0 (loopB (blockB (seqR (seqL (seqR (seqR c92)))))) := by
  refine loop_ok (kp := keep92) (hb := Eq.mpr (r92_L0_lk call fuel base) (And.intro trivial (And.intro (And.intro trivial trivial) (And.intro (And.intro trivial (And.intro trivial (And.intro (And.intro trivial (r92_L2_ok call fuel base)) trivial))) trivial)))) 61 [0, 2, 7, 16, 17] (fun n vs m K => r92_L0_R call fuel base n vs m K) ?_ ?_ (fun _ _ _ => rfl)
  · intro vs m K
    unfold r92_L0_R
    split <;> rfl
  · intro n vs m K hl
    match vs, hl with
    | [x0, x2, x7, x16, x17], _ => show _ = _; kernel_rfl
theorem r92_eq (call : CallF) (fuel base : Nat) (x0 : Value) (x1 : Value) (x2 : Value) (m : M) : kbody E call keep92 (lp92 call fuel base) base Try.f92 [x0, x1, x2] m = r92 call fuel base x0 x1 x2 m := by
  kernel_rfl
noncomputable def rf92 : RF := fun call fuel base args m => match args with
  | [x0, x1, x2] => r92 call fuel base x0 x1 x2 m
  | _ => none
theorem r92_lk (call : CallF) (fuel base : Nat) : LoopsOk E call (lp92 call fuel base) fuel base 0 c92 = (And True (And True (And (And True (LpOk E call (lp92 call fuel base) fuel base 0 (loopB (blockB (seqR (seqL (seqR (seqR c92)))))))) (And True True)))) := by kernel_rfl
theorem r92_fn : E.P.funcs[92]? = some Try.f92 := by kernel_rfl
theorem r92_body : Try.f92.body = some c92 := by kernel_rfl
theorem rf92_ok : RFok E 92 rf92 := by
  refine ⟨Try.f92, r92_fn, fun call fuel base args m r _ h => ?_⟩
  unfold rf92 at h
  split at h
  · rw [← r92_eq] at h
    exact kbody_sound (c := c92) r92_body (Eq.mpr (r92_lk call fuel base) (And.intro trivial (And.intro trivial (And.intro (And.intro trivial (r92_L0_ok call fuel base)) (And.intro trivial trivial))))) h
  · simp at h
end Go.AM
namespace Go.AM
open Go Go.Proofs
noncomputable def r93 (call : CallF) (fuel base : Nat) (x0 : Value) (x1 : Value) (m : M) : Res2 :=
  (k2 (xbox m x1) fun v3_1 m => (fVal (.bool true) fun v => some (.ret v, m)))
def keep93 : Keep := { region := fun i => ([[], [4]] : List (List Nat))[i]?, exit := fun i => ([] : List (List Nat))[i]?, ret := some [4] }
noncomputable def lp93 (call : CallF) (fuel base : Nat) : Lp := lpsel []
noncomputable def c93 : Code := Try.f93.body.getD .skip
theorem r93_eq (call : CallF) (fuel base : Nat) (x0 : Value) (x1 : Value) (m : M) : kbody E call keep93 (lp93 call fuel base) base Try.f93 [x0, x1] m = r93 call fuel base x0 x1 m := by
  kernel_rfl
noncomputable def rf93 : RF := fun call fuel base args m => match args with
  | [x0, x1] => r93 call fuel base x0 x1 m
  | _ => none
theorem r93_lk (call : CallF) (fuel base : Nat) : LoopsOk E call (lp93 call fuel base) fuel base 0 c93 = (And True (And True True)) := by kernel_rfl
theorem r93_fn : E.P.funcs[93]? = some Try.f93 := by kernel_rfl
theorem r93_body : Try.f93.body = some c93 := by kernel_rfl
theorem rf93_ok : RFok E 93 rf93 := by
  refine ⟨Try.f93, r93_fn, fun call fuel base args m r _ h => ?_⟩
  unfold rf93 at h
  split at h
  · rw [← r93_eq] at h
    exact kbody_sound (c := c93) r93_body (Eq.mpr (r93_lk call fuel base) (And.intro trivial (And.intro trivial trivial))) h
  · simp at h
end Go.AM
namespace Go.AM
open Go Go.Proofs
noncomputable def r94_L0 (call : CallF) (fuel base : Nat) (kx0 : Value → M → Res2) (n : Nat) : Value → Value → Value → M → Res2 :=
  Nat.rec (motive := fun _ => Value → Value → Value → M → Res2) (fun _ _ _ _ => none)
    (fun _ ih x3 x4 x5 m =>
      (k1 (mbin E .lss 3 x5 x4) fun v6_1 => (kb v6_1 (k1 (mbin E .mul 3 x3 (.int .i64 8)) fun v8_2 => (k1 (mbin E .add 3 x5 (.int .i64 1)) fun v9_3 => (ih v8_2 x4 v9_3 m))) (kx0 x3 m)))) n
noncomputable def r94 (call : CallF) (fuel base : Nat) (x0 : Value) (m : M) : Res2 :=
  (r94_L0 call fuel base (fun y3_4 m => (fVal y3_4 fun v => some (.ret v, m))) fuel (.int .i64 1) x0 (.int .i64 0) m)
def keep94 : Keep := { region := fun i => ([[0], [0, 3], [3, 4, 5], [3, 4, 5, 6], [3, 4, 5], [3, 4, 5], [2]] : List (List Nat))[i]?, exit := fun i => ([[3], [3, 4, 5]] : List (List Nat))[i]?, ret := some [2] }
noncomputable def r94_L0_R (call : CallF) (fuel base n : Nat) (vs : List Value) (m : M) (K : KT) : Res2 := match vs with
  | [x3, x4, x5] => r94_L0 call fuel base (fun y3 m => K (.exit 0) { n := 11, l := [(3, y3)] } m) n x3 x4 x5 m
  | _ => none
noncomputable def lp94 (call : CallF) (fuel base : Nat) : Lp := lpsel [(0, fun T m K => kslots 11 [3, 4, 5] T fun vs => r94_L0_R call fuel base fuel vs m K)]
noncomputable def c94 : Code := Try.f94.body.getD .skip
theorem r94_L0_lk (call : CallF) (fuel base : Nat) : LoopsOk E call (lp94 call fuel base) fuel base 0 (loopB (blockB (seqR (seqL (seqR (seqR c94)))))) = (And True (And (And True True) (And True True))) := by kernel_rfl
theorem r94_L0_ok (call : CallF) (fuel base : Nat) : LpOk E call (lp94 call fuel base) fuel base 0 (loopB (blockB (seqR (seqL (seqR (seqR c94)))))) := by
  refine loop_ok (kp := keep94) (hb := Eq.mpr (r94_L0_lk call fuel base) (And.intro trivial (And.intro (And.intro trivial trivial) (And.intro trivial trivial)))) 11 [3, 4, 5] (fun n vs m K => r94_L0_R call fuel base n vs m K) ?_ ?_ (fun _ _ _ => rfl)
  · intro vs m K
    unfold r94_L0_R
    split <;> rfl
  · intro n vs m K hl
    match vs, hl with
    | [x3, x4, x5], _ => show _ = _; kernel_rfl
theorem r94_eq (call : CallF) (fuel base : Nat) (x0 : Value) (m : M) : kbody E call keep94 (lp94 call fuel base) base Try.f94 [x0] m = r94 call fuel base x0 m := by
  kernel_rfl
noncomputable def rf94 : RF := fun call fuel base args m => match args with
  | [x0] => r94 call fuel base x0 m
  | _ => none
theorem r94_lk (call : CallF) (fuel base : Nat) : LoopsOk E call (lp94 call fuel base) fuel base 0 c94 = (And True (And True (And (And True (LpOk E call (lp94 call fuel base) fuel base 0 (loopB (blockB (seqR (seqL (seqR (seqR c94)))))))) (And True True)))) := by kernel_rfl
theorem r94_fn : E.P.funcs[94]? = some Try.f94 := by kernel_rfl
theorem r94_body : Try.f94.body = some c94 := by kernel_rfl
theorem rf94_ok : RFok E 94 rf94 := by
  refine ⟨Try.f94, r94_fn, fun call fuel base args m r _ h => ?_⟩
  unfold rf94 at h
  split at h
  · rw [← r94_eq] at h
    exact kbody_sound (c := c94) r94_body (Eq.mpr (r94_lk call fuel base) (And.intro trivial (And.intro trivial (And.intro (And.intro trivial (r94_L0_ok call fuel base)) (And.intro trivial trivial))))) h
  · simp at h
end Go.AM
namespace Go.AM
open Go Go.Proofs
noncomputable def r95_L0 (call : CallF) (fuel base : Nat) (kx0 : Value → M → Res2) (n : Nat) : Value → Value → Value → Value → M → Res2 :=
  Nat.rec (motive := fun _ => Value → Value → Value → Value → M → Res2) (fun _ _ _ _ _ => none)
    (fun _ ih x3 x6 x7 x8 m =>
      (k1 (mbin E .lss 3 x8 x7) fun v9_2 => (kb v9_2 (k1 (mindexAddr E.P 33 x6 x8) fun v10_3 => (k1 (xload E.P m 3 v10_3) fun v11_4 => (k1 (mbin E .mul 3 x3 (.int .i64 8)) fun v13_5 => (k1 (mbin E .add 3 v13_5 v11_4) fun v15_6 => (k1 (mbin E .add 3 x8 (.int .i64 1)) fun v16_7 => (ih v15_6 x6 x7 v16_7 m)))))) (kx0 x3 m)))) n
noncomputable def r95 (call : CallF) (fuel base : Nat) (x0 : Value) (m : M) : Res2 :=
  (k2 (vcall E.P base m .len [33] [x0]) fun v7_1 m => (r95_L0 call fuel base (fun y3_8 m => (fVal y3_8 fun v => some (.ret v, m))) fuel (.int .i64 0) x0 v7_1 (.int .i64 0) m))
def keep95 : Keep := { region := fun i => ([[0], [0, 3], [3, 6, 7, 8], [3, 6, 7, 8, 9], [3, 5, 6, 7, 8], [3, 6, 7, 8], [3, 6, 7, 8], [2]] : List (List Nat))[i]?, exit := fun i => ([[3], [3, 6, 7, 8]] : List (List Nat))[i]?, ret := some [2] }
noncomputable def r95_L0_R (call : CallF) (fuel base n : Nat) (vs : List Value) (m : M) (K : KT) : Res2 := match vs with
  | [x3, x6, x7, x8] => r95_L0 call fuel base (fun y3 m => K (.exit 0) { n := 18, l := [(3, y3)] } m) n x3 x6 x7 x8 m
  | _ => none
noncomputable def lp95 (call : CallF) (fuel base : Nat) : Lp := lpsel [(0, fun T m K => kslots 18 [3, 6, 7, 8] T fun vs => r95_L0_R call fuel base fuel vs m K)]
noncomputable def c95 : Code := Try.f95.body.getD .skip
theorem r95_L0_lk (call : CallF) (fuel base : Nat) : LoopsOk E call (lp95 call fuel base) fuel base 0 (loopB (blockB (seqR (seqL (seqR (seqR c95)))))) = (And True (And (And True True) (And (And True True) True))) := by kernel_rfl
theorem r95_L0_ok (call : CallF) (fuel base : Nat) : LpOk E call (lp95 call fuel base) fuel base 0 (loopB (blockB (seqR (seqL (seqR (seqR c95)))))) := by
  refine loop_ok (kp := keep95) (hb := Eq.mpr (r95_L0_lk call fuel base) (And.intro trivial (And.intro (And.intro trivial trivial) (And.intro (And.intro trivial trivial) trivial)))) 18 [3, 6, 7, 8] (fun n vs m K => r95_L0_R call fuel base n vs m K) ?_ ?_ (fun _ _ _ => rfl)
  · intro vs m K
    unfold r95_L0_R
    split <;> rfl
  · intro n vs m K hl
    match vs, hl with
    | [x3, x6, x7, x8], _ => show _ = _; kernel_rfl
theorem r95_eq (call : CallF) (fuel base : Nat) (x0 : Value) (m : M) : kbody E call keep95 (lp95 call fuel base) base Try.f95 [x0] m = r95 call fuel base x0 m := by
  kernel_rfl
noncomputable def rf95 : RF := fun call fuel base args m => match args with
  | [x0] => r95 call fuel base x0 m
  | _ => none
theorem r95_lk (call : CallF) (fuel base : Nat) : LoopsOk E call (lp95 call fuel base) fuel base 0 c95 = (And True (And True (And (And True (LpOk E call (lp95 call fuel base) fuel base 0 (loopB (blockB (seqR (seqL (seqR (seqR c95)))))))) (And True True)))) := by kernel_rfl
theorem r95_fn : E.P.funcs[95]? = some Try.f95 := by kernel_rfl
theorem r95_body : Try.f95.body = some c95 := by kernel_rfl
theorem rf95_ok : RFok E 95 rf95 := by
  refine ⟨Try.f95, r95_fn, fun call fuel base args m r _ h => ?_⟩
  unfold rf95 at h
  split at h
  · rw [← r95_eq] at h
    exact kbody_sound (c := c95) r95_body (Eq.mpr (r95_lk call fuel base) (And.intro trivial (And.intro trivial (And.intro (And.intro trivial (r95_L0_ok call fuel base)) (And.intro trivial trivial))))) h
  · simp at h
end Go.AM
